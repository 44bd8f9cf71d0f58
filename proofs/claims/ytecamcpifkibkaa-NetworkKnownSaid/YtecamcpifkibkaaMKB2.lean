/- MKB, part 2: what the proof needs, in the order of its texts. -/
import Derived.Test.YtecamcpifkibkaaMKB1
import Derived.Lib.UnsafeStr
import Derived.Calls
namespace Go.Ev
set_option linter.unusedVariables false
set_option linter.unusedSimpArgs false
variable {η : Nat → Value}
theorem rep_len (z : List Value) : ∀ c, (rep z c).length = c * z.length
  | 0 => by simp [rep]
  | c + 1 => by rw [rep, List.length_append, rep_len z c, Nat.add_mul]; omega
theorem rep_get (z : List Value) : ∀ (c i : Nat), i < c * z.length → (rep z c)[i]? = z[i % z.length]?
  | 0, i, h => by omega
  | c + 1, i, h => by
    rw [rep]
    by_cases hi : i < z.length
    · rw [List.getElem?_append_left hi, Nat.mod_eq_of_lt hi]
    · rw [List.getElem?_append_right (by omega), rep_get z c (i - z.length) (by rw [Nat.add_mul] at h; omega)]
      congr 1
      conv => rhs; rw [show i = (i - z.length) + z.length by omega]
      rw [Nat.add_mod_right]
theorem range_rep {z : Array Value} {c n : Nat} (hn : n = c * z.toList.length) : ((Array.range n).map (z[· % z.size]!)).toList = rep z.toList c := by
  apply List.ext_getElem?
  intro i
  have hz : z.size = z.toList.length := rfl
  by_cases hi : i < n
  · rw [rep_get _ _ _ (by omega)]
    have hpos : 0 < z.toList.length := by rcases Nat.eq_zero_or_pos z.toList.length with h | h
                                          · rw [h] at hn; simp at hn; omega
                                          · exact h
    have hm : i % z.size < z.size := Nat.mod_lt _ hpos
    simp [Array.getElem?_range, hi, hm]
  · rw [List.getElem?_eq_none (by simp; omega), List.getElem?_eq_none (by rw [rep_len]; omega)]
theorem wrap_small {n : Int} (h0 : 0 ≤ n) (h1 : n < 9223372036854775808) : IntKind.i64.wrap n = n := by
  have e1 : (2 : Int) ^ IntKind.i64.bits = 18446744073709551616 := by decide
  have e2 : (2 : Int) ^ (IntKind.i64.bits - 1) = 9223372036854775808 := by decide
  have e3 : IntKind.i64.signed = true := rfl
  unfold IntKind.wrap
  simp only [e1, e2, e3]
  have : n % 18446744073709551616 = n := Int.emod_eq_of_lt h0 (by omega)
  rw [this, if_neg (by simp; omega)]
theorem LR.rep {ρ : Env} {z : List Value} (hz : LR η ρ z z) : ∀ c, LR η ρ (Ev.rep z c) (Ev.rep z c)
  | 0 => .nil
  | c + 1 => hz.append (LR.rep hz c)
theorem CR.new {ρ : Env} {ty : TypeId} {c : List Value} {C : Array Value} {p : Bool} (hl : LR η ρ c C.toList) : OR η ρ (.cells ty c p 2) 0 C.size (.cells C ty) :=
  ⟨C, ty, 0, 0, rfl, rfl, by simp, by rw [hl.len]; exact Nat.le_refl _, fun i v h => by
    obtain ⟨x, h1, h2⟩ := hl.get h
    exact ⟨x, by rw [Nat.zero_add]; exact h1, h2⟩, fun _ => ⟨rfl, rfl, rfl, by rw [hl.len]; rfl⟩, fun _ i _ h => by omega⟩
def wpush (w : World) (o : Obj) : World := { w with heap := w.heap.push o }
theorem run_newRow {P : Program} {w : World} {elem : TypeId} {cells : Array Value} : (newRow elem cells).run P w = .ok ⟨w.heap.size, 0, none⟩ (wpush w (.cells cells elem)) := rfl
theorem run_newVar {P : Program} {w : World} {elem : TypeId} {v : Value} : (newVar elem v).run P w = .ok ⟨w.heap.size, 0, none⟩ (wpush w (.cells v.cells elem)) := rfl
structure Pushed (w w' : World) (o : Obj) : Prop where
  heap : w'.heap = w.heap.push o
  os : w'.os = w.os
  tape : w'.tape = w.tape
  output : w'.output = w.output
section
variable {P : Program} {ρ : Env} {w : World}
theorem VR.ptr_new {ρ' : Env} {r g n : Nat} (h : ρ' r = some (g, 0, n)) : VR η ρ' (.pointer (some ⟨r, 0, none⟩)) (.pointer (some ⟨g, 0, none⟩)) := by
  have := VR.ptr (η := η) (o := 0) h
  exact this
theorem VR.slice_new {ρ' : Env} {r g n l c : Nat} (h : ρ' r = some (g, 0, n)) (hc : isU c = false) : VR η ρ' (.slice (some ⟨r, 0, none⟩) l c) (.slice (some ⟨g, 0, none⟩) l c) := by
  have := VR.slice (η := η) (o := 0) l c h hc
  exact this
theorem isU_small {c : Nat} (h : c < 9223372036854775808) : isU c = false := by
  simp only [isU, decide_eq_false_iff_not]
  have : capB = 9223372036854775808 := rfl
  omega
def AOut (η : Nat → Value) (ρ : Env) (P : Program) (w : World) (s : Sem Value) (r : Nat) (v : Value) (b : AObj) : Prop :=
  ∃ x w' ob n, s.run P w = .ok x w' ∧ Pushed w w' ob ∧ ∀ ρ', Env.le ρ ρ' → ρ' r = some (w.heap.size, 0, n) → VR η ρ' v x ∧ OR η ρ' b 0 n ob
theorem zeros_ok (hη : OneCells η) {elem : TypeId} {c size : Nat} {z : List Value} (hz : (if c * size = 0 then .ok [] else do .ok (cellsL (← zeroA P elem)) : M (List Value)) = .ok z) (hzl : ¬ (c * size ≠ 0 ∧ z.length ≠ size)) :
    (c * size = 0 ∧ z = [] ∧ LR η ρ (rep z c) ((Array.range (c * size)).map ((#[] : Array Value)[· % (#[] : Array Value).size]!)).toList) ∨
    (c * size ≠ 0 ∧ ∃ zv, zeroA P elem = .ok zv ∧ LR η ρ (rep z c) ((Array.range (c * size)).map (zv.cells[· % zv.cells.size]!)).toList) := by
  have hnil : ∀ c, rep [] c = [] := fun c => by induction c with
    | zero => rfl
    | succ c ih => simp [rep, ih]
  by_cases h0 : c * size = 0
  · rw [if_pos h0, okk] at hz; subst hz
    refine .inl ⟨h0, rfl, ?_⟩
    rw [hnil, h0]
    exact ⟨by simp, fun i v x hv => by simp at hv⟩
  · rw [if_neg h0] at hz
    simp only [bind_ok] at hz
    obtain ⟨zv, hzv, hz⟩ := hz
    rw [okk] at hz; subst hz
    have hl := (VR.zero (η := η) (ρ := ρ) hzv).cells hη
    have he : cellsL zv = zv.cells.toList := by cases zv <;> rfl
    have hlen : (cellsL zv).length = size := by
      rcases Decidable.em ((cellsL zv).length = size) with h | h
      · exact h
      · exact absurd ⟨h0, h⟩ hzl
    refine .inr ⟨h0, zv, hzv, ?_⟩
    rw [range_rep (c := c) (by rw [← he, hlen]), he]
    rw [he] at hl
    exact LR.rep hl _
theorem buildSlice_ok (hη : OneCells η) {t elem : TypeId} {len size : Nat} {ps : List (Nat × Value)} {ps' : Array (Nat × Value)} {z cs : List Value} {r : Nat} (hd : P.underlying t = some (.slice elem)) (hsz : sizeA P elem = .ok size)
    (hbig : ¬ (len * size > 65536 ∨ len > 65536)) (hz : (if len * size = 0 then .ok [] else do .ok (cellsL (← zeroA P elem)) : M (List Value)) = .ok z) (hzl : ¬ (len * size ≠ 0 ∧ z.length ≠ size))
    (hcs : fillA (fun i => some (i * size, size)) (rep z len) ps = .ok cs) (hp : L2 (fun p q : Nat × Value => p.1 = q.1 ∧ VR η ρ p.2 q.2) ps ps'.toList) :
    AOut η ρ P w (Instr.buildSlice t len ps') r (.slice (some ⟨r, 0, none⟩) len len) (.cells elem cs true 2) := by
  have hlen : isU len = false := isU_small (by omega)
  rcases zeros_ok (η := η) (ρ := ρ) hη hz hzl with ⟨h0, _, hLR⟩ | ⟨h0, zv, hzv, hLR⟩
  · obtain ⟨C, hC, hCr⟩ := fillA_ok hη hp hcs hLR
    refine ⟨.slice (some ⟨w.heap.size, 0, none⟩) len len, wpush w (.cells C elem), .cells C elem, C.size, ?_, ⟨rfl, rfl, rfl, rfl⟩, fun ρ' hl hρ => ⟨VR.slice_new hρ hlen, CR.new (hCr.mono hl)⟩⟩
    simp only [Instr.buildSlice, Sem.run_bind, run_und hd, Result.andThen_ok, run_size hsz]
    rw [if_neg (by omega)]
    simp only [h0] at hC ⊢
    simp only [if_true, Sem.run_bind, Sem.run_pure, Result.andThen_ok]
    rw [hC]
    simp only [Sem.run_bind, run_newRow, Result.andThen_ok]; rfl
  · obtain ⟨C, hC, hCr⟩ := fillA_ok hη hp hcs hLR
    refine ⟨.slice (some ⟨w.heap.size, 0, none⟩) len len, wpush w (.cells C elem), .cells C elem, C.size, ?_, ⟨rfl, rfl, rfl, rfl⟩, fun ρ' hl hρ => ⟨VR.slice_new hρ hlen, CR.new (hCr.mono hl)⟩⟩
    simp only [Instr.buildSlice, Sem.run_bind, run_und hd, Result.andThen_ok, run_size hsz]
    rw [if_neg (by omega), if_neg h0]
    simp only [Sem.run_bind, run_zero hzv, Sem.run_pure, Result.andThen_ok]
    rw [hC]
    simp only [Sem.run_bind, run_newRow, Result.andThen_ok]; rfl
theorem makeSlice_ok (hη : OneCells η) {t elem : TypeId} {li ci : Int} {lk ck : IntKind} {ei : TypeInfo} {z : List Value} {r : Nat} (hd : P.underlying t = some (.slice elem)) (hei : P.info? elem = some ei)
    (hb : ¬ (li < 0 ∨ ci < li ∨ ci > 1000000 ∨ ei.bytes > 65536)) (hz : (if ci.toNat * ei.size = 0 then .ok [] else do .ok (cellsL (← zeroA P elem)) : M (List Value)) = .ok z) (hzl : ¬ (ci.toNat * ei.size ≠ 0 ∧ z.length ≠ ei.size)) :
    AOut η ρ P w (Instr.makeSlice t (.int lk li) (.int ck ci)) r (.slice (some ⟨r, 0, none⟩) li.toNat ci.toNat) (.cells elem (rep z ci.toNat) true 2) := by
  simp only [not_or, Int.not_lt, gt_iff_lt, Nat.not_lt] at hb
  obtain ⟨hl0, hcl, hc1, hby⟩ := hb
  have hsz : sizeA P elem = .ok ei.size := sizeA_ok.2 ⟨ei, hei, rfl⟩
  have wl : IntKind.i64.wrap li = li := wrap_small hl0 (by omega)
  have wc : IntKind.i64.wrap ci = ci := wrap_small (by omega) (by omega)
  have hbig : ¬ ((ei.bytes : Int) * ci > 2 ^ 48) := by
    have : (ei.bytes : Int) * ci ≤ 65536 * 1000000 := Int.mul_le_mul (by omega) hc1 (by omega) (by omega)
    omega
  have hlen : isU ci.toNat = false := isU_small (by omega)
  rcases zeros_ok (η := η) (ρ := ρ) hη hz hzl with ⟨h0, _, hLR⟩ | ⟨h0, zv, hzv, hLR⟩
  · refine ⟨.slice (some ⟨w.heap.size, 0, none⟩) li.toNat ci.toNat, wpush w (.cells _ elem), .cells _ elem, _, ?_, ⟨rfl, rfl, rfl, rfl⟩, fun ρ' hl hρ => ⟨VR.slice_new hρ hlen, CR.new (hLR.mono hl)⟩⟩
    simp only [Instr.makeSlice, Sem.run_bind, run_und hd, Result.andThen_ok, asInt, run_asIntOf, Sem.run_pure, run_info hei, wl, wc]
    rw [if_neg (by simp only [Bool.or_eq_true, decide_eq_true_eq]; omega)]
    simp only [Sem.run_bind, Sem.run_pure, run_askRoom, Result.andThen_ok, run_size hsz]
    simp only [h0, if_true, Sem.run_bind, Sem.run_pure, Result.andThen_ok, run_newRow]
  · refine ⟨.slice (some ⟨w.heap.size, 0, none⟩) li.toNat ci.toNat, wpush w (.cells _ elem), .cells _ elem, _, ?_, ⟨rfl, rfl, rfl, rfl⟩, fun ρ' hl hρ => ⟨VR.slice_new hρ hlen, CR.new (hLR.mono hl)⟩⟩
    simp only [Instr.makeSlice, Sem.run_bind, run_und hd, Result.andThen_ok, asInt, run_asIntOf, Sem.run_pure, run_info hei, wl, wc]
    rw [if_neg (by simp only [Bool.or_eq_true, decide_eq_true_eq]; omega)]
    simp only [Sem.run_bind, Sem.run_pure, run_askRoom, Result.andThen_ok, run_size hsz]
    rw [if_neg h0]
    simp only [Sem.run_bind, run_zero hzv, Sem.run_pure, Result.andThen_ok, run_newRow]
theorem toBytes_ok {e : TypeId} {s : ByteArray} {r : Nat} (hbig : s.size ≤ 1000000) : AOut η ρ P w (Conv.stringToBytes e s) r (.slice (some ⟨r, 0, none⟩) s.size (capU 1)) (.cells e (bytesV s.data.toList) false 2) := by
  generalize hq : (Question.appendCap s.size 0 e).cut (w.tape w.drawn (Question.appendCap s.size 0 e)) = cap
  have hcap : s.size ≤ cap := by rw [← hq]; simp only [Question.cut]; omega
  have hcb : cap < capB := by
    rw [← hq]; simp only [Question.cut]; unfold capB
    have := Nat.mod_lt (w.tape w.drawn (Question.appendCap s.size 0 e)) (show 0 < 2 ^ 63 - s.size by omega)
    omega
  have hch : (choose (.appendCap s.size 0 e)).run P w = .ok cap { w with drawn := w.drawn + 1 } := by
    rw [run_choose, hq]; simp [Question.forced]
  obtain ⟨C, hC⟩ : ∃ C : Array Value, s.data.map (fun b => Value.int .u8 b.toNat) ++ Array.replicate (cap - s.size) (.int .u8 0) = C := ⟨_, rfl⟩
  have hCl : C.toList = bytesV s.data.toList ++ List.replicate (cap - s.size) (.int .u8 0) := by rw [← hC]; simp [bytesV]
  have hbl : (bytesV s.data.toList).length = s.size := by rw [bytesV, List.length_map]; rfl
  have hCs : C.size = cap := by
    have : C.size = C.toList.length := rfl
    rw [this, hCl, List.length_append, hbl, List.length_replicate]; omega
  refine ⟨.slice (some ⟨w.heap.size, 0, none⟩) s.size cap, { wpush w (.cells C e (cap, cap + 1)) with drawn := w.drawn + 1 }, .cells C e (cap, cap + 1), cap, ?_, ⟨rfl, rfl, rfl, rfl⟩, fun ρ' hle hρ => ⟨?_, ?_⟩⟩
  · simp only [Conv.stringToBytes, Sem.run_bind, hch, Result.andThen_ok, hC, run_newRow]
    have hfz : ({ w with drawn := w.drawn + 1 } : World).heap.size = w.heap.size := rfl
    simp only [markStringish, Sem.run_bind, run_shape, Result.andThen_ok]
    have hsh : (wpush { w with drawn := w.drawn + 1 } (.cells C e)).shape? w.heap.size = some (e, cap) := by
      simp only [World.shape?, wpush, Array.getElem?_push, if_true, hCs]
    rw [hfz, hsh]
    simp only [run_freeze, Result.andThen_ok, Sem.run_pure]
    congr 1
    simp only [World.freeze, wpush]
    rw [if_neg (by omega)]
    congr 1
    apply Array.ext_getElem?
    intro k
    rw [Array.getElem?_modify, Array.getElem?_push, Array.getElem?_push]
    by_cases hk : k = w.heap.size
    · subst hk; simp
    · rw [if_neg (fun e => hk e.symm), if_neg hk, if_neg hk]
  · have := VR.sliceU (η := η) (ρ := ρ') (o := 0) s.size 1 cap hρ (by omega) (by omega) hcap hcb
    exact this
  · refine ⟨C, e, cap, cap + 1, rfl, ⟨rfl, ?_, ?_, ?_, (fun h => absurd h (by decide)), (fun _ i hi h => by omega)⟩⟩
    · have : C.toList.length = C.size := rfl
      omega
    · rw [hbl]; exact hcap
    · intro i u hu
      refine ⟨u, ?_, ?_⟩
      · rw [hCl, Nat.zero_add, List.getElem?_append_left (List.getElem?_eq_some_iff.1 hu).1]; exact hu
      · simp only [bytesV, List.getElem?_map, Option.map_eq_some_iff] at hu
        obtain ⟨b, _, rfl⟩ := hu
        exact .int _ _
theorem allocA_ok (hη : OneCells η) {o : Oper} {σ τ : Operand → Value} (hs : ∀ x ∈ o.op.operands.toList, VR η ρ (σ x) (τ x)) {r : Nat} {v : Value} {b : AObj} (hr : allocA P σ o r = .ok (v, b)) :
    ownO b = true ∧ ∃ x w' ob n, (execOp τ o).run P w = .ok (.value x) w' ∧ Pushed w w' ob ∧ ∀ ρ', Env.le ρ ρ' → ρ' r = some (w.heap.size, 0, n) → VR η ρ' v x ∧ OR η ρ' b 0 n ob := by
  obtain ⟨dst, op, type, pos, after, guard⟩ := o
  have val : ∀ {s : Sem Value}, AOut η ρ P w s r v b → ∃ x w' ob n, ((do pure (.value (← s)) : Sem Next)).run P w = .ok (.value x) w' ∧ Pushed w w' ob ∧ ∀ ρ', Env.le ρ ρ' → ρ' r = some (w.heap.size, 0, n) → VR η ρ' v x ∧ OR η ρ' b 0 n ob := by
    rintro s ⟨x, w', ob, n, h1, h2, h3⟩
    exact ⟨x, w', ob, n, by simp only [Sem.run_bind, h1, Result.andThen_ok]; rfl, h2, h3⟩
  unfold allocA at hr
  dsimp only at hr
  simp only [] at hs
  split at hr
  · rename_i elem
    simp only [Op.operands] at hs
    simp only [bind_ok] at hr
    obtain ⟨z, hz, hr⟩ := hr
    rw [okk] at hr; injection hr with e1 e2; subst e1; subst e2
    exact ⟨rfl, val (s := Instr.alloc elem true (.tuple #[])) ⟨.pointer (some ⟨w.heap.size, 0, none⟩), wpush w (.cells z.cells elem), .cells z.cells elem, z.cells.size, by simp only [Instr.alloc, Sem.run_bind, run_zero hz, Result.andThen_ok, run_newVar]; rfl, ⟨rfl, rfl, rfl, rfl⟩, fun ρ' hl hρ => ⟨VR.ptr_new hρ, CR.new (((VR.zero hz).cells hη))⟩⟩⟩
  · rename_i elem x
    simp only [Op.operands] at hs
    rw [okk] at hr; injection hr with e1 e2; subst e1; subst e2
    have hx := hs x (by simp)
    exact ⟨rfl, val (s := Instr.box elem (τ x)) ⟨.pointer (some ⟨w.heap.size, 0, none⟩), wpush w (.cells (τ x).cells elem), .cells (τ x).cells elem, (τ x).cells.size, by simp only [Instr.box, Sem.run_bind, run_newVar, Result.andThen_ok]; rfl, ⟨rfl, rfl, rfl, rfl⟩, fun ρ' hl hρ => ⟨VR.ptr_new hρ, CR.new ((hx.mono hl).cells hη)⟩⟩⟩
  · rename_i t len parts
    simp only [Op.operands] at hs
    simp only [bind_ok, undA_ok] at hr
    obtain ⟨d, hd, hr⟩ := hr
    split at hr
    · rename_i elem
      simp only [bind_ok] at hr
      obtain ⟨size, hsz, hr⟩ := hr
      rw [ite_no] at hr
      obtain ⟨hbig, hr⟩ := hr
      simp only [bind_ok] at hr
      obtain ⟨z, hz, hr⟩ := hr
      rw [ite_no] at hr
      obtain ⟨hzl, hr⟩ := hr
      simp only [bind_ok] at hr
      obtain ⟨cs, hcs, hr⟩ := hr
      rw [okk] at hr; injection hr with e1 e2; subst e1; subst e2
      have hp := parts_rel (η := η) (ρ := ρ) (σ := σ) (τ := τ) (ps := parts) (fun p hp => hs p.2 (by simp; exact ⟨p.1, by simpa using hp⟩))
      exact ⟨rfl, val (buildSlice_ok hη hd hsz hbig hz hzl hcs hp)⟩
    · simp [no] at hr
  · rename_i t hint
    simp only [Op.operands] at hs
    simp only [bind_ok, undA_ok] at hr
    obtain ⟨d, hd, hr⟩ := hr
    split at hr
    · rw [okk] at hr; injection hr with e1 e2; subst e1; subst e2
      exact ⟨rfl, val (s := Instr.makeMap t none) ⟨.map (some w.heap.size), wpush w (.map #[] 0), .map #[] 0, 0, rfl, ⟨rfl, rfl, rfl, rfl⟩, fun ρ' hl hρ => ⟨.map hρ, ⟨#[], rfl, .nil⟩⟩⟩⟩
    · rename_i k e x
      simp only [bind_ok, intOfA_ok] at hr
      obtain ⟨i, ⟨kk, hi⟩, hr⟩ := hr
      rw [okk] at hr; injection hr with e1 e2; subst e1; subst e2
      have hx := hs x (by simp)
      rw [hi] at hx
      have hx := hx.int_inv
      exact ⟨rfl, val (s := Instr.makeMap t (some (τ x))) ⟨.map (some w.heap.size), wpush w (.map #[] 0), .map #[] 0, 0, by simp only [Instr.makeMap, Sem.run_bind, run_und hd, Result.andThen_ok, hx, asInt, run_asIntOf, Sem.run_pure]; rfl, ⟨rfl, rfl, rfl, rfl⟩, fun ρ' hl hρ => ⟨.map hρ, ⟨#[], rfl, .nil⟩⟩⟩⟩
    · simp [no] at hr
  · rename_i t l c
    simp only [Op.operands] at hs
    simp only [bind_ok, undA_ok] at hr
    obtain ⟨d, hd, hr⟩ := hr
    split at hr
    · rename_i elem
      simp only [bind_ok, intOfA_ok, infoA_ok] at hr
      obtain ⟨li, ⟨lk, hli⟩, ci, ⟨ck, hci⟩, ei, hei, hr⟩ := hr
      rw [ite_no] at hr
      obtain ⟨hb, hr⟩ := hr
      simp only [bind_ok] at hr
      obtain ⟨z, hz, hr⟩ := hr
      rw [ite_no] at hr
      obtain ⟨hzl, hr⟩ := hr
      rw [okk] at hr; injection hr with e1 e2; subst e1; subst e2
      have hl := hs l (by simp); have hc := hs c (by simp)
      rw [hli] at hl; rw [hci] at hc
      have hl := hl.int_inv; have hc := hc.int_inv
      have := makeSlice_ok (η := η) (ρ := ρ) (P := P) (w := w) (r := r) (lk := lk) (ck := ck) hη hd hei hb hz hzl
      rw [← hl, ← hc] at this
      exact ⟨rfl, val this⟩
    · simp [no] at hr
  · rename_i src dst x
    simp only [Op.operands] at hs
    simp only [bind_ok, undA_ok] at hr
    obtain ⟨sd, hsd, dd, hdd, hr⟩ := hr
    have hx := hs x (by simp)
    split at hr
    · rename_i e s hse
      simp only [bind_ok, undA_ok] at hr
      obtain ⟨ed, hed, hr⟩ := hr
      rw [hse] at hx
      have hx := hx.string_inv
      split at hr
      · rw [ite_no, okk] at hr
        obtain ⟨hbig, hr⟩ := hr
        injection hr with e1 e2; subst e1; subst e2
        obtain ⟨y, w', ob, n, h1, h2⟩ := toBytes_ok (η := η) (ρ := ρ) (P := P) (w := w) (e := e) (s := s) (r := r) (by omega)
        refine ⟨rfl, val (s := convert src dst (τ x)) ⟨y, w', ob, n, ?_, h2⟩⟩
        have hcv : convert src dst (τ x) = convert src dst (.string s) := by rw [hx]
        rw [hcv]
        simp only [convert, Sem.run_bind, run_und hsd, run_und hdd, Result.andThen_ok]
        have : ∀ (u : TypeDesc) (K : TypeDesc → Sem Value), True := fun _ _ => trivial
        simp only [Sem.run_bind, run_und hed, Result.andThen_ok, h1]
      · simp [no] at hr
    · simp [no] at hr
  · simp [no] at hr
end
end Go.Ev

namespace Go.Ev
set_option linter.unusedVariables false
set_option linter.unusedSimpArgs false
variable {η : Nat → Value}
structure Pre (η : Nat → Value) (P : Program) (ρ : Env) (B : Bd) (h : AH) (w : World) : Prop where
  hr : HR η ρ B h w
  fresh : FreshR ρ h.next
  glob : GR P ρ
  low : B.n ≤ w.heap.size
structure Post (η : Nat → Value) (ρ : Env) (B : Bd) (h : AH) (w : World) (ρ' : Env) (h' : AH) (w' : World) : Prop where
  le : Env.le ρ ρ'
  old : ∀ r, r < h.next → ρ' r = ρ r
  fresh : FreshR ρ' h'.next
  next : h.next ≤ h'.next
  hr : HR η ρ' B h' w'
  fr : Fr ρ h w w'
  own : OwnIn ρ ρ' h h' w
  inn : ∀ b, (∃ r a d n, h'.objs.get r = some a ∧ ρ' r = some (b, d, n)) → (∃ r a d n, h.objs.get r = some a ∧ ρ r = some (b, d, n)) ∨ w.heap.size ≤ b
section
variable {P : Program} {ρ : Env} {B : Bd} {h : AH} {w : World}
theorem Pre.get_lt (p : Pre η P ρ B h w) {r : Nat} {a : AObj} (hg : h.objs.get r = some a) : r < h.next := by
  rcases Nat.lt_or_ge r h.next with hl | hl
  · exact hl
  · obtain ⟨b, d, n, o, h1, _⟩ := p.hr.obj r a hg
    rw [p.fresh r hl] at h1; cases h1
theorem Pre.post {ρ' : Env} {h' : AH} {w' : World} (p : Pre η P ρ B h w) (q : Post η ρ B h w ρ' h' w') : Pre η P ρ' B h' w' :=
  ⟨q.hr, q.fresh, p.glob.mono q.le, Nat.le_trans p.low q.fr.size⟩
theorem Post.refl (p : Pre η P ρ B h w) : Post η ρ B h w ρ h w :=
  ⟨Env.le_refl _, fun _ _ => rfl, p.fresh, Nat.le_refl _, p.hr, Fr.refl _ _ _, OwnIn.refl _ _ _, fun _ h => .inl h⟩
theorem Post.trans {ρ' ρ'' : Env} {h' h'' : AH} {w' w'' : World} (q : Post η ρ B h w ρ' h' w') (r : Post η ρ' B h' w' ρ'' h'' w'') : Post η ρ B h w ρ'' h'' w'' :=
  ⟨Env.le_trans q.le r.le, fun k hk => (r.old k (Nat.lt_of_lt_of_le hk q.next)).trans (q.old k hk), r.fresh, Nat.le_trans q.next r.next, r.hr, q.fr.trans q.own r.fr, q.own.trans q.fr.size r.own, fun b hb => by
    rcases r.inn b hb with h1 | h1
    · exact q.inn b h1
    · have := q.fr.size; exact .inr (by omega)⟩
theorem pushed_old {w w' : World} {o : Obj} (hp : Pushed w w' o) {k : Nat} (hk : k < w.heap.size) : w'.heap[k]? = w.heap[k]? := by
  rw [hp.heap, Array.getElem?_push, if_neg (by omega)]
theorem pushed_new {w w' : World} {o : Obj} (hp : Pushed w w' o) : w'.heap[w.heap.size]? = some o := by
  rw [hp.heap, Array.getElem?_push, if_pos rfl]
theorem Post.new (p : Pre η P ρ B h w) {w' : World} {ob : Obj} (hp : Pushed w w' ob) {n : Nat} {a : AObj} (objs : T AObj) (hsub : ∀ r x, objs.get r = some x → h.objs.get r = some x)
    (hO : OR η (ρ.put h.next (w.heap.size, 0, n)) a 0 n ob) : Post η ρ B h w (ρ.put h.next (w.heap.size, 0, n)) (newA { h with objs } a).2 w' := by
  have hn := p.fresh h.next (Nat.le_refl _)
  have hle := Env.le_put (t := (w.heap.size, 0, n)) hn
  refine ⟨hle, fun r hr => Env.put_ne _ _ (by omega), fun r hr => ?_, by simp [newA], ⟨?_, ?_, ?_⟩, ⟨hp.os, hp.tape, hp.output, by rw [hp.heap]; simp, fun k hk _ => pushed_old hp hk⟩, ?_, ?_⟩
  · simp only [newA] at hr
    rw [Env.put_ne _ _ (by omega)]; exact p.fresh r (by omega)
  · intro r x hx
    simp only [newA, T.get_set] at hx
    by_cases hr : r = h.next
    · rw [if_pos hr] at hx; cases hx; subst hr
      exact ⟨_, _, _, _, Env.put_at _ _ _, pushed_new hp, hO, fun _ => p.low⟩
    · rw [if_neg hr] at hx
      obtain ⟨b, d, m, o, h1, h2, h3, h4⟩ := p.hr.obj r x (hsub _ _ hx)
      exact ⟨b, d, m, o, hle _ _ h1, by rw [pushed_old hp (heap_lt h2)]; exact h2, h3.mono hle, h4⟩
  · intro r r' x x' b d m d' m' hx hx' e e'
    simp only [newA, T.get_set] at hx hx'
    by_cases hr : r = h.next
    · by_cases hr' : r' = h.next
      · exact .inl (by rw [hr, hr'])
      · rw [if_neg hr'] at hx'
        subst hr
        rw [Env.put_at] at e; cases e
        rw [Env.put_ne _ _ hr'] at e'
        obtain ⟨b2, d2, m2, o2, h1, h2, _⟩ := p.hr.obj r' x' (hsub _ _ hx')
        rw [e'] at h1; cases h1
        exact absurd (heap_lt h2) (by omega)
    · rw [if_neg hr] at hx
      by_cases hr' : r' = h.next
      · subst hr'
        rw [Env.put_at] at e'; cases e'
        rw [Env.put_ne _ _ hr] at e
        obtain ⟨b2, d2, m2, o2, h1, h2, _⟩ := p.hr.obj r x (hsub _ _ hx)
        rw [e] at h1; cases h1
        exact absurd (heap_lt h2) (by omega)
      · rw [if_neg hr'] at hx'
        rw [Env.put_ne _ _ hr] at e
        rw [Env.put_ne _ _ hr'] at e'
        exact p.hr.inj r r' x x' b d m d' m' (hsub _ _ hx) (hsub _ _ hx') e e'
  · intro r x b d m hx e hS
    simp only [newA, T.get_set] at hx
    by_cases hr : r = h.next
    · subst hr
      rw [Env.put_at] at e; cases e
      have := B.lt _ hS
      have := p.low
      omega
    · rw [if_neg hr] at hx
      rw [Env.put_ne _ _ hr] at e
      exact p.hr.sh r x b d m (hsub _ _ hx) e hS
  · rintro b ⟨r, x, d, m, hx, ho, e⟩
    simp only [newA, T.get_set] at hx
    by_cases hr : r = h.next
    · subst hr
      rw [Env.put_at] at e; cases e
      exact .inr (Nat.le_refl _)
    · rw [if_neg hr] at hx
      rw [Env.put_ne _ _ hr] at e
      exact .inl ⟨r, x, d, m, hsub _ _ hx, ho, e⟩
  · rintro b ⟨r, x, d, m, hx, e⟩
    simp only [newA, T.get_set] at hx
    by_cases hr : r = h.next
    · subst hr
      rw [Env.put_at] at e; cases e
      exact .inr (Nat.le_refl _)
    · rw [if_neg hr] at hx
      rw [Env.put_ne _ _ hr] at e
      exact .inl ⟨r, x, d, m, hsub _ _ hx, e⟩
theorem Post.put (p : Pre η P ρ B h w) {r b d n : Nat} {a a' : AObj} {o' : Obj} {w' : World} (hg : h.objs.get r = some a) (ho : ownO a = true) (he : ρ r = some (b, d, n)) (hw : w' = wput w b o')
    (hO : OR η ρ a' d n o') : Post η ρ B h w ρ (putA h r a') w' := by
  subst hw
  have hlt := p.get_lt hg
  obtain ⟨b0, d0, n0, o0, e0, hb, _, hB⟩ := p.hr.obj r a hg
  rw [he] at e0; cases e0
  refine ⟨Env.le_refl _, fun _ _ => rfl, p.fresh, Nat.le_refl _, ⟨?_, ?_, ?_⟩, ⟨rfl, rfl, rfl, by simp [wput], ?_⟩, ?_, ?_⟩
  · intro r' x hx
    simp only [putA, T.get_set] at hx
    by_cases hr : r' = r
    · rw [if_pos hr] at hx; cases hx; subst hr
      exact ⟨b, d, n, o', he, by rw [wput_get, if_pos ⟨rfl, heap_lt hb⟩], hO, fun _ => hB ho⟩
    · rw [if_neg hr] at hx
      obtain ⟨b1, d1, n1, o1, h1, h2, h3, h4⟩ := p.hr.obj r' x hx
      refine ⟨b1, d1, n1, o1, h1, ?_, h3, h4⟩
      rw [wput_get, if_neg]
      · exact h2
      · rintro ⟨e, _⟩
        subst e
        exact hr (p.hr.uni hx hg h1 he (sh_of_own ho))
  · intro r1 r2 x1 x2 bb d1 m1 d2 m2 hx1 hx2 e1 e2
    simp only [putA, T.get_set] at hx1 hx2
    have g1 : ∃ y, h.objs.get r1 = some y := by
      by_cases hr : r1 = r
      · subst hr; exact ⟨_, hg⟩
      · rw [if_neg hr] at hx1; exact ⟨_, hx1⟩
    have g2 : ∃ y, h.objs.get r2 = some y := by
      by_cases hr : r2 = r
      · subst hr; exact ⟨_, hg⟩
      · rw [if_neg hr] at hx2; exact ⟨_, hx2⟩
    obtain ⟨y1, hy1⟩ := g1
    obtain ⟨y2, hy2⟩ := g2
    exact p.hr.inj r1 r2 y1 y2 _ _ _ _ _ hy1 hy2 e1 e2
  · intro r1 x1 bb d1 m1 hx1 e1 hS
    simp only [putA, T.get_set] at hx1
    by_cases hr : r1 = r
    · subst hr
      have := p.hr.sh _ a bb d1 m1 hg e1 hS
      rw [sh_of_own ho] at this; cases this
    · rw [if_neg hr] at hx1
      exact p.hr.sh r1 x1 bb d1 m1 hx1 e1 hS
  · intro k hk hno
    rw [wput_get, if_neg]
    rintro ⟨e, _⟩
    subst e
    exact hno ⟨r, a, d, n, hg, ho, he⟩
  · rintro bb ⟨r', x, d', m', hx, hox, e⟩
    simp only [putA, T.get_set] at hx
    by_cases hr : r' = r
    · subst hr
      rw [he] at e; cases e
      exact .inl ⟨r', a, d, n, hg, ho, he⟩
    · rw [if_neg hr] at hx
      exact .inl ⟨r', x, d', m', hx, hox, e⟩
  · rintro bb ⟨r', x, d', m', hx, e⟩
    simp only [putA, T.get_set] at hx
    by_cases hr : r' = r
    · subst hr
      rw [he] at e; cases e
      exact .inl ⟨r', a, d, n, hg, he⟩
    · rw [if_neg hr] at hx
      exact .inl ⟨r', x, d', m', hx, e⟩
theorem Post.move (p : Pre η P ρ B h w) {r b d n d2 n2 : Nat} {a a' : AObj} {o' : Obj} {w' : World} (hg : h.objs.get r = some a) (ho : ownO a = true) (he : ρ r = some (b, d, n)) (hw : w' = wput w b o')
    (hO : OR η (ρ.put h.next (b, d2, n2)) a' d2 n2 o') : Post η ρ B h w (ρ.put h.next (b, d2, n2)) (newA { h with objs := h.objs.del r } a').2 w' := by
  subst hw
  have hlt := p.get_lt hg
  have hn := p.fresh h.next (Nat.le_refl _)
  have hle := Env.le_put (t := (b, d2, n2)) hn
  obtain ⟨b0, d0, n0, o0, e0, hb, _, hB⟩ := p.hr.obj r a hg
  rw [he] at e0; cases e0
  have get : ∀ r' x, ((h.objs.del r).set h.next a').get r' = some x → r' ≠ h.next → r' ≠ r ∧ h.objs.get r' = some x := by
    intro r' x hx hne
    rw [T.get_set, if_neg hne, T.get_del] at hx
    by_cases e : r' = r
    · rw [if_pos e] at hx; cases hx
    · rw [if_neg e] at hx; exact ⟨e, hx⟩
  refine ⟨hle, fun r hr => Env.put_ne _ _ (by omega), fun r hr => ?_, by simp [newA], ⟨?_, ?_, ?_⟩, ⟨rfl, rfl, rfl, by simp [wput], ?_⟩, ?_, ?_⟩
  · simp only [newA] at hr
    rw [Env.put_ne _ _ (by omega)]; exact p.fresh r (by omega)
  · intro r' x hx
    simp only [newA] at hx
    by_cases hr : r' = h.next
    · subst hr
      rw [T.get_set, if_pos rfl] at hx; cases hx
      exact ⟨b, d2, n2, o', Env.put_at _ _ _, by rw [wput_get, if_pos ⟨rfl, heap_lt hb⟩], hO, fun _ => hB ho⟩
    · obtain ⟨hne, hx⟩ := get r' x hx hr
      obtain ⟨b1, d1, n1, o1, h1, h2, h3, h4⟩ := p.hr.obj r' x hx
      refine ⟨b1, d1, n1, o1, hle _ _ h1, ?_, h3.mono hle, h4⟩
      rw [wput_get, if_neg]
      · exact h2
      · rintro ⟨e, _⟩
        subst e
        exact hne (p.hr.uni hx hg h1 he (sh_of_own ho))
  · intro r1 r2 x1 x2 bb e1 m1 e2 m2 hx1 hx2 k1 k2
    simp only [newA] at hx1 hx2
    by_cases hr1 : r1 = h.next
    · by_cases hr2 : r2 = h.next
      · exact .inl (by rw [hr1, hr2])
      · obtain ⟨hne, hx2⟩ := get r2 x2 hx2 hr2
        subst hr1
        rw [Env.put_at] at k1; cases k1
        rw [Env.put_ne _ _ hr2] at k2
        exact absurd (p.hr.uni hx2 hg k2 he (sh_of_own ho)) hne
    · obtain ⟨hne1, hx1⟩ := get r1 x1 hx1 hr1
      rw [Env.put_ne _ _ hr1] at k1
      by_cases hr2 : r2 = h.next
      · subst hr2
        rw [Env.put_at] at k2; cases k2
        exact absurd (p.hr.uni hx1 hg k1 he (sh_of_own ho)) hne1
      · obtain ⟨hne2, hx2⟩ := get r2 x2 hx2 hr2
        rw [Env.put_ne _ _ hr2] at k2
        exact p.hr.inj r1 r2 x1 x2 _ _ _ _ _ hx1 hx2 k1 k2
  · intro r1 x1 bb d1 m1 hx1 e1 hS
    simp only [newA] at hx1
    by_cases hr : r1 = h.next
    · subst hr
      rw [Env.put_at] at e1; cases e1
      have := p.hr.sh _ a _ _ _ hg he hS
      rw [sh_of_own ho] at this; cases this
    · obtain ⟨_, hx1⟩ := get r1 x1 hx1 hr
      rw [Env.put_ne _ _ hr] at e1
      exact p.hr.sh r1 x1 bb d1 m1 hx1 e1 hS
  · intro k hk hno
    rw [wput_get, if_neg]
    rintro ⟨e, _⟩
    subst e
    exact hno ⟨r, a, d, n, hg, ho, he⟩
  · rintro bb ⟨r', x, d', m', hx, hox, e⟩
    simp only [newA] at hx
    by_cases hr : r' = h.next
    · subst hr
      rw [Env.put_at] at e; cases e
      exact .inl ⟨r, a, d, n, hg, ho, he⟩
    · obtain ⟨_, hx⟩ := get r' x hx hr
      rw [Env.put_ne _ _ hr] at e
      exact .inl ⟨r', x, d', m', hx, hox, e⟩
  · rintro bb ⟨r', x, d', m', hx, e⟩
    simp only [newA] at hx
    by_cases hr : r' = h.next
    · subst hr
      rw [Env.put_at] at e; cases e
      exact .inl ⟨r, a, d, n, hg, he⟩
    · obtain ⟨_, hx⟩ := get r' x hx hr
      rw [Env.put_ne _ _ hr] at e
      exact .inl ⟨r', x, d', m', hx, e⟩
theorem storeC_ok (hη : OneCells η) (p : Pre η P ρ B h w) {a b : Addr} {vs vs' : List Value} {h' : AH} (hs : storeC h a vs = .ok h') (hab : AdR ρ a b) (hv : LR η ρ vs vs') :
    ∃ w', (storeCells b vs').run P w = .ok () w' ∧ Post η ρ B h w ρ h' w' := by
  unfold storeC at hs
  split at hs
  · have := hv.inv_nil; subst this
    rw [okk] at hs; subst hs
    exact ⟨w, rfl, .refl p⟩
  · rename_i hne
    split at hs
    · rename_i ty c q own hc
      rw [ite_no', okk] at hs
      obtain ⟨⟨rfl, hlen, _, hall⟩, rfl⟩ := hs
      have hg := cellsAt_ok.1 hc
      simp only [] at hg
      obtain ⟨bb, d, n, C, lo, hi, h1, h2, h3, h4⟩ := p.hr.cells hg
      obtain ⟨hsp, n', blk, d', h5, rfl⟩ := hab
      rw [h1] at h5; cases h5
      have hcl : c.length ≤ n := h3.len
      have hsz : C.toList.length = d + n := h3.size
      have hvl : vs.length = vs'.length := hv.len
      have hone : ∀ x ∈ vs', x.oneCell' = true := by
        intro x hx
        obtain ⟨i, hi, rfl⟩ := List.getElem_of_mem hx
        have hi' : i < vs.length := by omega
        have := hv.at_ i vs[i] vs'[i] (List.getElem?_eq_getElem hi') (List.getElem?_eq_getElem hi)
        exact this.oneC hη (List.all_eq_true.1 hall _ (List.getElem_mem hi'))
      obtain ⟨C', hC, hr⟩ := run_storeCells (P := P) (o := d + a.off) vs' 0 C w h2 hone (by omega) (fun j hj => by
        have := h3.free rfl (a.off + j) (by omega)
        rwa [show d + a.off + 0 + j = d + (a.off + j) by omega])
      refine ⟨_, hr, Post.put p hg rfl h1 rfl ⟨C', ty, lo, hi, rfl, ⟨rfl, ?_, ?_, ?_, (fun hp => by obtain ⟨q1, q2, q3, q4⟩ := h3.plain hp; exact ⟨q1, q2, q3, by rw [splice_len _ _ _ hlen]; exact q4⟩), h3.free⟩⟩⟩
      · rw [hC, splice_len _ _ _ (by omega)]; exact hsz
      · rw [splice_len _ _ _ hlen]; exact hcl
      · intro i v hi'
        rw [splice_get _ _ _ hlen] at hi'
        rw [hC, splice_get _ _ _ (by omega)]
        by_cases hin : a.off ≤ i ∧ i < a.off + vs.length
        · rw [if_pos hin] at hi'
          rw [if_pos (by omega)]
          obtain ⟨x, hx, hvx⟩ := hv.get hi'
          exact ⟨x, by rw [show d + i - (d + a.off + 0) = i - a.off by omega]; exact hx, hvx⟩
        · rw [if_neg hin] at hi'
          rw [if_neg (by omega)]
          exact h3.at_ i v hi'
    · cases hs
end
end Go.Ev

namespace Go.Ev
set_option linter.unusedVariables false
set_option linter.unusedSimpArgs false
variable {η : Nat → Value}
section
variable {P : Program} {ρ : Env} {B : Bd} {h : AH} {w : World}
theorem firstA_ok (H : HR η ρ B h w) {size n : Nat} {v x : Value} {l : List Value} (hf : firstA h size n v = .ok l) (hx : VR η ρ v x) :
    ∃ m : Array Value, (Builtin.firstCells size n x).run P w = .ok m w ∧ LR η ρ l m.toList := by
  unfold firstA at hf
  split at hf
  · rename_i a len c
    obtain ⟨a', c', rfl, hc⟩ := hx.slice_inv3 (.inl rfl)
    obtain ⟨q, rfl, hq⟩ : ∃ q, a' = some q ∧ AdR ρ a q := by
      rcases hc with ⟨e, _⟩ | ⟨_, q, e, e', hq, _⟩ | ⟨_, q, _, _, _, _, e, e', hq, _⟩
      · cases e
      · cases e; exact ⟨q, e', hq⟩
      · cases e; exact ⟨q, e', hq⟩
    obtain ⟨vs, h1, h2, h3⟩ := getC_ok H hf hq
    exact ⟨vs.toArray, by simp only [Builtin.firstCells, cells_of_list h2 h3], by simpa using h1⟩
  · rename_i len c
    rw [ite_no', okk] at hf
    obtain ⟨hn0, rfl⟩ := hf
    obtain ⟨a', c', rfl, hc⟩ := hx.slice_inv
    cases a' with
    | none => exact ⟨#[], rfl, .nil⟩
    | some q => exact ⟨#[], by simp only [Builtin.firstCells]; exact cells_of_list (vs := []) hn0.symm (fun j v h => by simp at h), .nil⟩
  · rename_i s
    have := hx.string_inv; subst this
    rw [ite_no', okk] at hf
    obtain ⟨_, rfl⟩ := hf
    refine ⟨_, rfl, ?_⟩
    have : ((s.extract 0 n).data.map fun b => Value.int .u8 b.toNat).toList = bytesV (s.data.toList.take n) := by
      rw [Array.toList_map, ByteArray.data_extract]
      simp [bytesV, List.extract]
    rw [this]
    generalize s.data.toList.take n = l
    induction l with
    | nil => exact .nil
    | cons b l ih => exact .cons (.int _ _) ih
  · simp [no] at hf
theorem lenA_ok {v x : Value} {n : Nat} (hl : lenA v = .ok n) (hx : VR η ρ v x) : (Builtin.lenOf x).run P w = .ok n w := by
  unfold lenA at hl
  split at hl
  · obtain ⟨a', c', rfl, hc⟩ := hx.slice_inv
    rw [okk] at hl; subst hl; rfl
  · have := hx.string_inv; subst this
    rw [okk] at hl; subst hl; rfl
  · simp [no] at hl
theorem growBy_le (n : Nat) : ∀ (r c : Nat), Builtin.growBy n r c ≤ Nat.max c (n + (n + 768) / 4)
  | 0, c => by simp only [Builtin.growBy]; exact Nat.le_max_left _ _
  | r + 1, c => by
    simp only [Builtin.growBy]
    split
    · exact Nat.le_max_left _ _
    · have := growBy_le n r (c + (c + 768) / 4)
      have h2 : c + (c + 768) / 4 ≤ n + (n + 768) / 4 := by omega
      have h3 : Nat.max (c + (c + 768) / 4) (n + (n + 768) / 4) = n + (n + 768) / 4 := Nat.max_eq_right h2
      rw [h3] at this
      exact Nat.le_trans this (Nat.le_max_right _ _)
theorem nextcap_le {n c : Nat} (hn : n ≤ 1000000) (hc : c < n) : Builtin.nextslicecap n c ≤ 3000000 := by
  unfold Builtin.nextslicecap
  split
  · omega
  · split
    · omega
    · have := growBy_le n 4 c
      have h3 : Nat.max c (n + (n + 768) / 4) ≤ 3000000 := Nat.max_le.2 ⟨by omega, by omega⟩
      omega
theorem isIntT_run {t : TypeId} (hi : isIntT P t = .ok false) : ∃ d, P.underlying t = some d ∧ (∀ k, d ≠ .int k) := by
  simp only [isIntT, bind_ok, undA_ok] at hi
  obtain ⟨d, hd, hi⟩ := hi
  refine ⟨d, hd, fun k e => ?_⟩
  subst e
  simp only [okk] at hi; cases hi
theorem zeroCells_len (z : Array Value) (n : Nat) : (Builtin.zeroCells z n).toList.length = n * z.size := by simp [Builtin.zeroCells]
theorem run_append_new {sT xT elem : TypeId} {ei : TypeInfo} {z : Value} {type : TypeId} {base : Option Addr} {len cap n : Nat} {x : Value} {old new : Array Value} (hsT : P.underlying sT = some (.slice elem)) (hxT : isIntT P xT = .ok false)
    (hei : P.info? elem = some ei) (hz : zeroA P elem = .ok z) (hby : ei.bytes ≤ 65536) (hn : (Builtin.lenOf x).run P w = .ok n w) (hbig : len + n ≤ 1000000) (hroom : ¬ len + n ≤ cap)
    (hold : (Builtin.firstCells ei.size len (.slice base len cap)).run P { w with drawn := w.drawn + 1 } = .ok old { w with drawn := w.drawn + 1 }) (hnew : (Builtin.firstCells ei.size n x).run P { w with drawn := w.drawn + 1 } = .ok new { w with drawn := w.drawn + 1 }) :
    ∃ nc w', len + n ≤ nc ∧ nc < capB ∧ Pushed w w' (.cells (old ++ new ++ Builtin.zeroCells z.cells (nc - (len + n))) elem) ∧
      (Builtin.append_ #[sT, xT] type #[.slice base len cap, x]).run P w = .ok (.slice (some ⟨w.heap.size, 0, none⟩) (len + n) nc) w' := by
  obtain ⟨dx, hdx, hni⟩ := isIntT_run hxT
  have hsz : sizeA P elem = .ok ei.size := sizeA_ok.2 ⟨ei, hei, rfl⟩
  have hzz : (zeroValue elem).run P w = .ok z w := run_zero hz
  have hint : (dx matches .int _) = false := by cases dx <;> first | rfl | exact absurd rfl (hni _)
  generalize hq : (Question.appendCap (len + n) cap elem).cut (w.tape w.drawn (Question.appendCap (len + n) cap elem)) = nc
  have hnc : len + n ≤ nc := by rw [← hq]; simp only [Question.cut]; omega
  have hncb : nc < capB := by
    rw [← hq]; simp only [Question.cut]; unfold capB
    have := Nat.mod_lt (w.tape w.drawn (Question.appendCap (len + n) cap elem)) (show 0 < 2 ^ 63 - (len + n) by omega)
    omega
  have hch : (choose (.appendCap (len + n) cap elem)).run P w = .ok nc { w with drawn := w.drawn + 1 } := by
    rw [run_choose, hq]; simp [Question.forced]
  have hnext : Builtin.nextslicecap (len + n) cap * ei.bytes ≤ 2 ^ 48 := by
    have h1 := nextcap_le (n := len + n) (c := cap) hbig (by omega)
    have h2 : Builtin.nextslicecap (len + n) cap * ei.bytes ≤ 3000000 * 65536 := Nat.mul_le_mul h1 hby
    omega
  have hmax : IntKind.i64.max = 9223372036854775807 := by decide
  refine ⟨nc, { wpush w (.cells (old ++ new ++ Builtin.zeroCells z.cells (nc - (len + n))) elem) with drawn := w.drawn + 1 }, hnc, hncb, ⟨rfl, rfl, rfl, rfl⟩, ?_⟩
  have e0 : (#[sT, xT] : Array TypeId)[0]? = some sT := rfl
  have e1 : (#[sT, xT] : Array TypeId)[1]? = some xT := rfl
  have e2 : (#[.slice base len cap, x] : Array Value)[0]? = some (.slice base len cap) := rfl
  have e3 : (#[.slice base len cap, x] : Array Value)[1]? = some x := rfl
  simp only [Builtin.append_, e0, e1, e2, e3, Sem.run_bind, run_und hsT, run_und hdx, Result.andThen_ok, run_size hsz, Sem.run_pure, hint, Bool.false_eq_true, if_false, hn]
  rw [if_neg hroom]
  simp only [Sem.run_bind, Sem.run_pure, run_info hei, Result.andThen_ok, hmax]
  rw [if_neg (by omega)]
  simp only [Sem.run_bind, Sem.run_pure, run_info hei, Result.andThen_ok]
  rw [if_neg (by omega)]
  simp only [Sem.run_bind, Sem.run_pure, run_info hei, Result.andThen_ok, hch, run_askRoom, hold, Bool.not_false, if_true, hnew, run_zero hz, run_newRow]
  rfl
theorem run_append_room {sT xT elem : TypeId} {ei : TypeInfo} {type : TypeId} {base : Option Addr} {len cap n : Nat} {x : Value} {new : Array Value} (hsT : P.underlying sT = some (.slice elem)) (hxT : isIntT P xT = .ok false)
    (hei : P.info? elem = some ei) (hn : (Builtin.lenOf x).run P w = .ok n w) (hroom : len + n ≤ cap) (hnew : (Builtin.firstCells ei.size n x).run P w = .ok new w) :
    (base = none → (Builtin.append_ #[sT, xT] type #[.slice base len cap, x]).run P w = .ok (.slice base (len + n) cap) w) ∧
    (∀ a w', base = some a → (storeCells (a.add (len * ei.size)) new.toList).run P w = .ok () w' → (Builtin.append_ #[sT, xT] type #[.slice base len cap, x]).run P w = .ok (.slice base (len + n) cap) w') := by
  obtain ⟨dx, hdx, hni⟩ := isIntT_run hxT
  have hsz : sizeA P elem = .ok ei.size := sizeA_ok.2 ⟨ei, hei, rfl⟩
  have hint : (dx matches .int _) = false := by cases dx <;> first | rfl | exact absurd rfl (hni _)
  have e0 : (#[sT, xT] : Array TypeId)[0]? = some sT := rfl
  have e1 : (#[sT, xT] : Array TypeId)[1]? = some xT := rfl
  have e2 : (#[.slice base len cap, x] : Array Value)[0]? = some (.slice base len cap) := rfl
  have e3 : (#[.slice base len cap, x] : Array Value)[1]? = some x := rfl
  constructor
  · intro hb
    subst hb
    simp only [Builtin.append_, e0, e1, e2, e3, Sem.run_bind, run_und hsT, run_und hdx, Result.andThen_ok, run_size hsz, Sem.run_pure, hint, Bool.false_eq_true, if_false, hn]
    rw [if_pos hroom]
    simp only [Sem.run_bind, Sem.run_pure, Result.andThen_ok, Bool.not_false, if_true, hnew]
  · intro a w' hb hst
    subst hb
    simp only [Builtin.append_, e0, e1, e2, e3, Sem.run_bind, run_und hsT, run_und hdx, Result.andThen_ok, run_size hsz, Sem.run_pure, hint, Bool.false_eq_true, if_false, hn]
    rw [if_pos hroom]
    simp only [Sem.run_bind, Sem.run_pure, Result.andThen_ok, Bool.not_false, if_true, hnew, hst]
theorem HR.drew (H : HR η ρ B h w) : HR η ρ B h { w with drawn := w.drawn + 1 } := ⟨H.obj, H.inj, H.sh⟩
theorem Pre.drew (H : Pre η P ρ B h w) : Pre η P ρ B h { w with drawn := w.drawn + 1 } := ⟨H.hr.drew, H.fresh, H.glob, H.low⟩
theorem cells_cellsL (z : Value) : z.cells.toList = cellsL z := by cases z <;> rfl
theorem appendA_ok (hη : OneCells η) (p : Pre η P ρ B h w) {ts : List TypeId} {args : List Value} {args' : Array Value} {type : TypeId} {v : Value} {h' : AH} (ha : appendA P h ts args = .ok (v, h')) (hr : LR η ρ args args'.toList) :
    ∃ ρ' x w', (Builtin.append_ ⟨ts⟩ type args').run P w = .ok x w' ∧ VR η ρ' v x ∧ Post η ρ B h w ρ' h' w' := by
  unfold appendA at ha
  split at ha
  · rename_i sT xT base len cap x
    obtain ⟨s', m1, hm1, hs, hr1⟩ := hr.inv_cons
    obtain ⟨x', m2, hm2, hx, hr2⟩ := hr1.inv_cons
    have := hr2.inv_nil; subst this; subst hm2
    have hargs : args' = #[s', x'] := by rw [← Array.toArray_toList (xs := args'), hm1]
    subst hargs
    rw [ite_no] at ha
    obtain ⟨hcE, ha⟩ := ha
    obtain ⟨base', cap', rfl, hc⟩ := hs.slice_inv3 (by cases base with | none => exact .inr fun e => hcE ⟨rfl, e⟩ | some a => exact .inl rfl)
    simp only [bind_ok, undA_ok] at ha
    obtain ⟨d, hd, ha⟩ := ha
    split at ha
    · rename_i elem
      simp only [bind_ok, infoA_ok] at ha
      obtain ⟨ei, hei, z, hz, b, hint, ha⟩ := ha
      rw [ite_no] at ha
      obtain ⟨hb, ha⟩ := ha
      have hb : b = false := by simpa using hb
      subst hb
      rw [ite_no] at ha
      obtain ⟨hsize, ha⟩ := ha
      simp only [bind_ok] at ha
      obtain ⟨n, hn, new, hnew, old, hold, ha⟩ := ha
      rw [ite_no] at ha
      obtain ⟨hbig, ha⟩ := ha
      simp only [not_or, Decidable.not_not, gt_iff_lt, Nat.not_lt] at hsize hbig
      obtain ⟨hs0, hby, hzl⟩ := hsize
      obtain ⟨hlen, hnl, hol, hone⟩ := hbig
      have hnrun := lenA_ok (P := P) (w := w) hn hx
      -- a fresh row
      have fresh : ∀ (objs : T AObj), (∀ r y, objs.get r = some y → h.objs.get r = some y) → ¬ len + n ≤ cap' → (v, h') = freshA { h with objs } elem ei.size (len + n) (old ++ new) →
          ∃ ρ' x w', (Builtin.append_ #[sT, xT] type #[.slice base' len cap', x']).run P w = .ok x w' ∧ VR η ρ' v x ∧ Post η ρ B h w ρ' h' w' := by
        intro objs hsub hroom he
        obtain ⟨OLD, ho, hol'⟩ := firstA_ok (P := P) (w := { w with drawn := w.drawn + 1 }) p.drew.hr hold (by
          have := hs; exact this)
        obtain ⟨NEW, hnw, hnl'⟩ := firstA_ok (P := P) (w := { w with drawn := w.drawn + 1 }) p.drew.hr hnew hx
        obtain ⟨nc, w', hnc, hncb, hpush, hrun⟩ := run_append_new (P := P) (w := w) (type := type) (base := base') (old := OLD) (new := NEW) hd hint hei hz hby hnrun hlen hroom ho hnw
        simp only [freshA] at he
        injection he with e1 e2; subst e1; subst e2
        have hC : (OLD ++ NEW ++ Builtin.zeroCells z.cells (nc - (len + n))).toList = OLD.toList ++ NEW.toList ++ (Builtin.zeroCells z.cells (nc - (len + n))).toList := by simp
        have hrest := zeroCells_len z.cells (nc - (len + n))
        have hzs : z.cells.size = ei.size := by have := cells_cellsL z; have h2 : z.cells.size = z.cells.toList.length := rfl; rw [h2, this]; exact hzl
        have hOL : OLD.toList.length = len * ei.size := by rw [← hol'.len]; exact hol
        have hNL : NEW.toList.length = n * ei.size := by rw [← hnl'.len]; exact hnl
        have hCl : (OLD ++ NEW ++ Builtin.zeroCells z.cells (nc - (len + n))).toList.length = nc * ei.size := by
          rw [hC, List.length_append, List.length_append, hrest, hzs, hOL, hNL, ← Nat.add_mul, ← Nat.add_mul]
          congr 1; omega
        have hle := Env.le_put (t := (w.heap.size, 0, nc * ei.size)) (p.fresh h.next (Nat.le_refl _))
        refine ⟨ρ.put h.next (w.heap.size, 0, nc * ei.size), _, w', hrun, ?_, Post.new p hpush objs hsub ?_⟩
        · have := VR.sliceU (η := η) (ρ := ρ.put h.next (w.heap.size, 0, nc * ei.size)) (o := 0) (len + n) ei.size nc (Env.put_at _ _ _) (by omega) (by omega) hnc hncb
          exact this
        · refine ⟨_, elem, 0, 0, rfl, ⟨rfl, ?_, ?_, ?_, (fun h => by cases h), fun _ i _ hh => by omega⟩⟩
          · rw [hCl]; omega
          · rw [List.length_append, hol, hnl, ← Nat.add_mul]; exact Nat.mul_le_mul_right _ hnc
          · intro i u hu
            have hlr := (hol'.append hnl').mono hle
            obtain ⟨y, hy, hvy⟩ := hlr.get hu
            refine ⟨y, ?_, hvy⟩
            rw [Nat.zero_add, hC, List.getElem?_append_left (List.getElem?_eq_some_iff.1 hy).1]; exact hy
      by_cases hU : isU cap = true
      · rw [if_pos hU] at ha
        rcases hc with ⟨_, _, e, _⟩ | ⟨_, _, _, _, _, e, _⟩ | ⟨a, q, s, b, dd, nn, rfl, rfl, hpq, rfl, hρ, hs1, hn1, hl1, hcb⟩
        · rw [hU] at e; cases e
        · rw [hU] at e; cases e
        simp only [bind_ok] at ha
        obtain ⟨⟨ty, c, pl, own⟩, hcell, ha⟩ := ha
        simp only [ite_no] at ha
        obtain ⟨hmark, ha⟩ := ha
        simp only [not_or, Decidable.not_not] at hmark
        obtain ⟨rfl, hcs, rfl⟩ := hmark
        have hss : s = ei.size := by simp only [capU] at hcs; omega
        subst hss
        rw [okk] at ha
        by_cases hroom : len + n ≤ cap'
        · -- in place
          have hg := cellsAt_ok.1 hcell
          simp only [] at hg
          obtain ⟨b2, d2, n2, C, lo, hi, h1, h2, h3, h4⟩ := p.hr.cells hg
          rw [hρ] at h1; cases h1
          obtain ⟨hsp, n3, b3, d3, h5, rfl⟩ := hpq
          rw [hρ] at h5; cases h5
          obtain ⟨NEW, hnw, hnl'⟩ := firstA_ok (P := P) p.hr hnew hx
          have hsz : C.toList.length = dd + nn := h3.size
          have hcl : c.length ≤ nn := h3.len
          have hNL : NEW.toList.length = n * ei.size := by rw [← hnl'.len]; exact hnl
          have hmul : (len + n) * ei.size ≤ cap' * ei.size := Nat.mul_le_mul_right _ hroom
          rw [Nat.add_mul] at hmul
          have hone' : ∀ u ∈ NEW.toList, u.oneCell' = true := by
            intro u hu
            obtain ⟨i, hi', rfl⟩ := List.getElem_of_mem hu
            have hi2 : i < new.length := by omega
            have := hnl'.at_ i new[i] NEW.toList[i] (List.getElem?_eq_getElem hi2) (List.getElem?_eq_getElem hi')
            exact this.oneC hη (List.all_eq_true.1 (by simpa using hone) _ (List.getElem_mem hi2))
          obtain ⟨C', hC, hrs⟩ := run_storeCells (P := P) (o := dd + a.off + len * ei.size) NEW.toList 0 C w h2 hone' (by omega) (fun j hj => by
            have := h3.free rfl (a.off + len * ei.size + j) (by omega)
            rwa [show dd + a.off + len * ei.size + 0 + j = dd + (a.off + len * ei.size + j) by omega])
          have hrun := (run_append_room (P := P) (w := w) (type := type) (base := some ⟨b, dd + a.off, none⟩) (cap := cap') hd hint hei hnrun hroom hnw).2 _ _ rfl (by rw [add_eq rfl]; exact hrs)
          simp only [freshA] at ha
          injection ha with e1 e2; subst e1; subst e2
          have hle := Env.le_put (t := (b, dd + a.off, cap' * ei.size)) (p.fresh h.next (Nat.le_refl _))
          refine ⟨ρ.put h.next (b, dd + a.off, cap' * ei.size), _, _, hrun, ?_, Post.move p hg rfl hρ rfl ?_⟩
          · have := VR.sliceU (η := η) (ρ := ρ.put h.next (b, dd + a.off, cap' * ei.size)) (o := 0) (len + n) ei.size cap' (Env.put_at _ _ _) (by omega) (by omega) hroom hcb
            exact this
          · -- the old cells, where they lie
            obtain ⟨ovs, ho1, ho2, ho3⟩ := getC_ok p.hr (show getC h a (len * ei.size) = .ok old from hold) (b := ⟨b, dd + a.off, none⟩) ⟨hsp, nn, b, dd, hρ, rfl⟩
            refine ⟨C', ty, lo, hi, rfl, ⟨rfl, ?_, ?_, ?_, (fun h => by cases h), fun _ i hi' hh => ?_⟩⟩
            · rw [hC, splice_len _ _ _ (by omega)]; omega
            · rw [List.length_append, hol, hnl]; omega
            · intro i u hu
              by_cases hio : i < old.length
              · rw [List.getElem?_append_left hio] at hu
                obtain ⟨y, hy, hvy⟩ := ho1.get hu
                refine ⟨y, ?_, hvy.mono hle⟩
                have h6 := ho3 i y hy
                rw [add_eq rfl, cell_of h2] at h6
                rw [hC, splice_get _ _ _ (by omega), if_neg (by omega)]
                simpa [Nat.add_assoc] using h6
              · rw [List.getElem?_append_right (by omega)] at hu
                obtain ⟨y, hy, hvy⟩ := hnl'.get hu
                have hil : i - old.length < NEW.toList.length := (List.getElem?_eq_some_iff.1 hy).1
                refine ⟨y, ?_, hvy.mono hle⟩
                rw [hC, splice_get _ _ _ (by omega), if_pos (by omega)]
                rw [← hy]; congr 1; omega
            · exact h3.free rfl (a.off + i) (by omega) (by omega)
        · exact fresh _ (fun r y hy => by rw [T.get_del] at hy; split at hy; · cases hy
                                          · exact hy) hroom ha.symm
      · rw [if_neg hU] at ha
        have hcap : cap' = cap := by
          rcases hc with ⟨_, _, _, e⟩ | ⟨_, _, _, _, _, _, e⟩ | ⟨_, _, _, _, _, _, _, _, _, rfl, _⟩
          · exact e
          · exact e
          · exact absurd (isU_capU _) hU
        subst hcap
        by_cases hroom : len + n ≤ cap'
        · rw [if_pos hroom] at ha
          obtain ⟨NEW, hnw, hnl'⟩ := firstA_ok (P := P) p.hr hnew hx
          have hrr := run_append_room (P := P) (w := w) (type := type) (base := base') (cap := cap') hd hint hei hnrun hroom hnw
          have hU' : isU cap' = false := by simpa using hU
          rcases hc with ⟨rfl, rfl, _, _⟩ | ⟨a, q, rfl, rfl, hpq, _, _⟩ | ⟨_, _, _, _, _, _, _, _, _, rfl, _⟩
          · simp only [ite_no', okk] at ha
            obtain ⟨hemp, ha⟩ := ha
            injection ha with e1 e2; subst e1; subst e2
            exact ⟨ρ, _, w, hrr.1 rfl, .slice0 _ _ hU', .refl p⟩
          · simp only [bind_ok] at ha
            obtain ⟨h1, hst, ha⟩ := ha
            rw [okk] at ha; injection ha with e1 e2; subst e1; subst e2
            obtain ⟨w', hw', hpost⟩ := storeC_ok (P := P) hη p hst (hpq.add _) hnl'
            exact ⟨ρ, _, w', hrr.2 _ _ rfl hw', .slice_mk hpq hU', hpost⟩
          · exact absurd (isU_capU _) hU
        · rw [if_neg hroom, ite_no', okk] at ha
          exact fresh h.objs (fun _ _ hy => hy) hroom ha.2.symm
    · simp [no] at ha
  · simp [no] at ha
theorem copyA_ok (hη : OneCells η) (p : Pre η P ρ B h w) {ts : List TypeId} {dst src dst' src' v : Value} {type : TypeId} {h' : AH} (hc : (do
      match ← undA P (ts.headD 0), dst with
      | .slice elem, .slice base dLen cap => do
        if base.isNone = true ∧ isE cap = true then no "copy: no row" else
        let n := Nat.min (← lenA src) dLen
        let size ← sizeA P elem
        let cs ← firstA h size n src
        match base with
        | some a => do let h ← storeC h a cs; .ok (goInt n, h)
        | none => .ok (goInt n, h)
      | _, _ => no "copy" : M (Value × AH)) = .ok (v, h')) (hts : ts ≠ []) (h1 : VR η ρ dst dst') (h2 : VR η ρ src src') :
    ∃ x w', (Builtin.copy_ ⟨ts⟩ type #[dst', src']).run P w = .ok x w' ∧ VR η ρ v x ∧ Post η ρ B h w ρ h' w' := by
  simp only [bind_ok, undA_ok] at hc
  obtain ⟨d, hd, hc⟩ := hc
  obtain ⟨t0, ts', rfl⟩ : ∃ t0 ts', ts = t0 :: ts' := by cases ts with
    | nil => exact absurd rfl hts
    | cons a b => exact ⟨_, _, rfl⟩
  have e0 : (⟨t0 :: ts'⟩ : Array TypeId)[0]? = some t0 := rfl
  have e2 : (#[dst', src'] : Array Value)[0]? = some dst' := rfl
  have e3 : (#[dst', src'] : Array Value)[1]? = some src' := rfl
  simp only [List.headD_cons] at hd
  split at hc
  · rename_i elem base dLen cap
    rw [ite_no] at hc
    obtain ⟨hcE, hc⟩ := hc
    obtain ⟨base', cap', rfl, hcc⟩ := h1.slice_inv3 (by cases base with | none => exact .inr fun e => hcE ⟨rfl, e⟩ | some a => exact .inl rfl)
    simp only [bind_ok] at hc
    obtain ⟨n, hn, size, hsz, cs, hcs, hc⟩ := hc
    have hnr := lenA_ok (P := P) (w := w) hn h2
    obtain ⟨CS, hCS, hl⟩ := firstA_ok (P := P) p.hr hcs h2
    split at hc
    · rename_i a
      obtain ⟨q, rfl, hq⟩ : ∃ q, base' = some q ∧ AdR ρ a q := by
        rcases hcc with ⟨e, _⟩ | ⟨_, q, e, e', hq, _⟩ | ⟨_, q, _, _, _, _, e, e', hq, _⟩
        · cases e
        · cases e; exact ⟨q, e', hq⟩
        · cases e; exact ⟨q, e', hq⟩
      simp only [bind_ok] at hc
      obtain ⟨h1', hst, hc⟩ := hc
      rw [okk] at hc; injection hc with e1 e2'; subst e1; subst e2'
      obtain ⟨w', hw', hpost⟩ := storeC_ok (P := P) hη p hst hq hl
      refine ⟨_, w', ?_, .int _ _, hpost⟩
      simp only [Builtin.copy_, e0, e2, e3, Sem.run_bind, run_und hd, Result.andThen_ok, hnr, run_size hsz, hCS, hw']; rfl
    · have e1 : base' = none := by rcases hcc with ⟨_, e, _⟩ | ⟨_, _, e, _⟩ | ⟨_, _, _, _, _, _, e, _⟩ <;> first | exact e | cases e
      subst e1
      rw [okk] at hc; injection hc with e1 e2'; subst e1; subst e2'
      refine ⟨_, w, ?_, .int _ _, .refl p⟩
      simp only [Builtin.copy_, e0, e2, e3, Sem.run_bind, run_und hd, Result.andThen_ok, hnr, run_size hsz, hCS]; rfl
  · simp [no] at hc
end
end Go.Ev

namespace Go.Ev
set_option linter.unusedVariables false
set_option linter.unusedSimpArgs false
variable {η : Nat → Value}
theorem L2.modify {α : Type} {R : MapEntry → MapEntry → Prop} {f g : MapEntry → MapEntry} (hfg : ∀ a b, R a b → R (f a) (g b)) {l m : List MapEntry} (h : L2 R l m) : ∀ i, L2 R (modEntry f l i) (m.modify i g) := by
  induction h with
  | nil => intro i; simp only [modEntry, List.modify_nil]; exact .nil
  | cons h k ih =>
    intro i
    cases i with
    | zero => simp only [modEntry, List.modify_zero_cons]; exact .cons (hfg _ _ h) k
    | succ i => simp only [modEntry, List.modify_succ_cons]; exact .cons h (ih i)
theorem L2.eraseIdx {α β : Type} {R : α → β → Prop} {l : List α} {m : List β} (h : L2 R l m) : ∀ i, L2 R (l.eraseIdx i) (m.eraseIdx i) := by
  induction h with
  | nil => intro i; exact .nil
  | cons h k ih =>
    intro i
    cases i with
    | zero => exact k
    | succ i => exact .cons h (ih i)
theorem L2.snoc {α β : Type} {R : α → β → Prop} {l : List α} {m : List β} {a : α} {b : β} (h : L2 R l m) (k : R a b) : L2 R (l ++ [a]) (m ++ [b]) := h.append (.cons k .nil)
theorem L2.findIdx {p q : MapEntry → Bool} {R : MapEntry → MapEntry → Prop} (hpq : ∀ a b, R a b → p a = q b) {l m : List MapEntry} (h : L2 R l m) : l.findIdx? p = m.findIdx? q := by
  induction h with
  | nil => rfl
  | cons h k ih => simp only [List.findIdx?_cons, hpq _ _ h, ih]
section
variable {P : Program} {ρ : Env} {B : Bd} {h : AH} {w : World}
theorem run_setObj {r : Nat} {o o' : Obj} (hr : w.heap[r]? = some o) (ho : ∀ c t f, o ≠ .cells c t f) : (setObj r o').run P w = .ok () (wput w r o') := by
  simp only [setObj, Sem.run, hr]
  cases o <;> first | rfl | exact absurd rfl (ho _ _ _)
theorem ER.set {k k' x x' : Value} (hk : VR η ρ k k') (hx : VR η ρ x x') (a b : MapEntry) (h : ER η ρ a b) : ER η ρ { a with key := k, val := x } { b with key := k', val := x' } := ⟨hk, hx, h.2.2⟩
theorem ER.setKey {k k' : Value} (hk : VR η ρ k k') (a b : MapEntry) (h : ER η ρ a b) : ER η ρ { a with key := k } { b with key := k' } := ⟨hk, h.2.1, h.2.2⟩
theorem ER.setVal {x x' : Value} (hx : VR η ρ x x') (a b : MapEntry) (h : ER η ρ a b) : ER η ρ { a with val := x } { b with val := x' } := ⟨h.1, hx, h.2.2⟩
theorem Post.map (p : Pre η P ρ B h w) {r : Nat} {es es2 : List MapEntry} {c c2 b d n : Nat} {E2 : Array MapEntry} (hg : h.objs.get r = some (.map es c true)) (he : ρ r = some (b, d, n)) (h2 : L2 (ER η ρ) es2 E2.toList) :
    Post η ρ B h w ρ (putA h r (.map es2 c2 true)) (wput w b (.map E2 c2)) := Post.put p hg rfl he rfl ⟨E2, rfl, h2⟩
theorem keyStays {E : Array MapEntry} {i : Nat} {e' : MapEntry} {k k' : Value} (h1 : E.toList[i]? = some e') (hb : ∀ n, Instr.sameBits n e'.key k' = true) : (Instr.keyThatStays (((E[i]?).map (·.key)).getD k) k').run P w = .ok k' w := by
  have : E[i]? = some e' := by simpa using h1
  rw [this]
  simp only [Option.map_some, Option.getD_some, Instr.keyThatStays, hb, if_true]; rfl
theorem mapSet_ok (p : Pre η P ρ B h w) {t : TypeId} {m k x m' k' x' : Value} {h' : AH} (hs : mapSet P h t m k x = .ok h') (hm : VR η ρ m m') (hk : VR η ρ k k') (hx : VR η ρ x x') :
    ∃ w', (Instr.mapUpdate t m' k' x').run P w = .ok () w' ∧ Post η ρ B h w ρ h' w' := by
  simp only [mapSet, bind_ok, undA_ok] at hs
  obtain ⟨d, hd, hs⟩ := hs
  split at hs
  · rename_i key elem r
    obtain ⟨b, dd, n, rfl, hρ⟩ := hm.map_inv
    simp only [bind_ok] at hs
    obtain ⟨⟨es, c, own⟩, hmap, hs⟩ := hs
    simp only [ite_no] at hs
    obtain ⟨hown, hs⟩ := hs
    have hown : own = true := by simpa using hown
    subst hown
    have hg := mapOf_ok.1 hmap
    simp only [] at hg
    obtain ⟨b2, d2, n2, E, h1, h2, h3, h4⟩ := p.hr.map hg
    rw [hρ] at h1; cases h1
    simp only [bind_ok] at hs
    obtain ⟨f, hf, hs⟩ := hs
    obtain ⟨hck, hf⟩ := findM_ok (P := P) (w := w) hf hk h3
    rcases hf with ⟨rfl, hrun⟩ | ⟨j, e, e', rfl, he, he', her, hkk, hke, hsb, hrun⟩
    · simp only [okk] at hs; subst hs
      refine ⟨wput w b (.map (E.push { key := k', val := x', born := c }) (c + 1)), ?_, Post.map p hg hρ (by rw [Array.toList_push]; exact h3.snoc ⟨hk, hx, rfl⟩)⟩
      simp only [Instr.mapUpdate, Sem.run_bind, run_und hd, Result.andThen_ok, run_getObj h2 (by simp), hck, hrun, run_setObj h2 (by simp)]
    · simp only [okk] at hs; subst hs
      have hst := keyStays (P := P) (w := w) (k := k') (k' := k') he' (fun n => by rw [hke, hkk]; exact hsb n)
      refine ⟨wput w b (.map (E.modify j fun e => { e with key := k', val := x' }) c), ?_, Post.map p hg hρ (by rw [Array.toList_modify]; exact L2.modify (α := Unit) (ER.set hk hx) h3 j)⟩
      simp only [Instr.mapUpdate, Sem.run_bind, run_und hd, Result.andThen_ok, run_getObj h2 (by simp), hck, hrun, hst, run_setObj h2 (by simp)]
  · simp [no] at hs
theorem mapEntryA_ok (p : Pre η P ρ B h w) {t : TypeId} {m k m' k' v : Value} {h' : AH} (hs : mapEntryA P h t m k = .ok (v, h')) (hm : VR η ρ m m') (hk : VR η ρ k k') :
    ∃ x w', (Instr.mapEntry t m' k').run P w = .ok x w' ∧ VR η ρ v x ∧ Post η ρ B h w ρ h' w' := by
  simp only [mapEntryA, bind_ok, undA_ok] at hs
  obtain ⟨d, hd, hs⟩ := hs
  split at hs
  · rename_i key elem r
    obtain ⟨b, dd, n, rfl, hρ⟩ := hm.map_inv
    simp only [bind_ok] at hs
    obtain ⟨⟨es, c, own⟩, hmap, hs⟩ := hs
    simp only [ite_no] at hs
    obtain ⟨hown, hs⟩ := hs
    have hown : own = true := by simpa using hown
    subst hown
    have hg := mapOf_ok.1 hmap
    simp only [] at hg
    obtain ⟨b2, d2, n2, E, h1, h2, h3, h4⟩ := p.hr.map hg
    rw [hρ] at h1; cases h1
    simp only [bind_ok] at hs
    obtain ⟨f, hf, hs⟩ := hs
    obtain ⟨hck, hf⟩ := findM_ok (P := P) (w := w) hf hk h3
    rcases hf with ⟨rfl, hrun⟩ | ⟨j, e, e', rfl, he, he', her, hkk, hke, hsb, hrun⟩
    · simp only [bind_ok] at hs
      obtain ⟨z, hz, hs⟩ := hs
      rw [okk] at hs; injection hs with e1 e2; subst e1; subst e2
      refine ⟨.tuple #[z, goInt c], wput w b (.map (E.push { key := k', val := z, born := c }) (c + 1)), ?_, .tup' (.cons (.zero hz) (.cons (.int _ _) .nil)), Post.map p hg hρ (by rw [Array.toList_push]; exact h3.snoc ⟨hk, .zero hz, rfl⟩)⟩
      simp only [Instr.mapEntry, Sem.run_bind, run_und hd, Result.andThen_ok, run_getObj h2 (by simp), hck, hrun, run_zero hz, run_setObj h2 (by simp)]; rfl
    · rw [okk] at hs; injection hs with e1 e2; subst e1; subst e2
      have hst := keyStays (P := P) (w := w) (k := k') (k' := k') he' (fun n => by rw [hke, hkk]; exact hsb n)
      have hE : E[j]? = some e' := by simpa using he'
      refine ⟨.tuple #[e'.val, goInt e'.born], wput w b (.map (E.modify j fun e => { e with key := k' }) c), ?_, ?_, Post.map p hg hρ (by rw [Array.toList_modify]; exact L2.modify (α := Unit) (ER.setKey hk) h3 j)⟩
      · simp only [Instr.mapEntry, Sem.run_bind, run_und hd, Result.andThen_ok, run_getObj h2 (by simp), hck, hrun, hst, run_setObj h2 (by simp)]
        rw [hE]; rfl
      · rw [he]
        simp only [Option.map_some, Option.getD_some, her.2.2]
        exact .tup' (.cons her.2.1 (.cons (.int _ _) .nil))
  · simp [no] at hs
theorem entryStoreA_ok (p : Pre η P ρ B h w) {t : TypeId} {m s x m' s' x' : Value} {h' : AH} (hs : entryStoreA h m s x = .ok h') (hm : VR η ρ m m') (hst : VR η ρ s s') (hx : VR η ρ x x') :
    ∃ w', (Instr.entryStore t m' s' x').run P w = .ok () w' ∧ Post η ρ B h w ρ h' w' := by
  unfold entryStoreA at hs
  split at hs
  · rename_i r
    obtain ⟨b, dd, n, rfl, hρ⟩ := hm.map_inv
    simp only [bind_ok, intOfA_ok] at hs
    obtain ⟨⟨es, c, own⟩, hmap, bn, ⟨kk, rfl⟩, hs⟩ := hs
    have := hst.int_inv; subst this
    simp only [ite_no] at hs
    obtain ⟨hown, hs⟩ := hs
    have hown : own = true := by simpa using hown
    subst hown
    have hg := mapOf_ok.1 hmap
    simp only [] at hg
    obtain ⟨b2, d2, n2, E, h1, h2, h3, h4⟩ := p.hr.map hg
    rw [hρ] at h1; cases h1
    split at hs
    · rename_i i hi
      rw [okk] at hs; subst hs
      have hf : E.findIdx? (fun e => (e.born : Int) == bn) = some i := by
        have hfi : ∀ (E : Array MapEntry) q, E.findIdx? q = E.toList.findIdx? q := fun E q => by obtain ⟨l⟩ := E; simp
        rw [hfi, ← hi, bornAt]
        exact (L2.findIdx (fun a b hab => by rw [hab.2.2]) h3).symm
      refine ⟨wput w b (.map (E.modify i fun e => { e with val := x' }) c), ?_, Post.map p hg hρ (by rw [Array.toList_modify]; exact L2.modify (α := Unit) (ER.setVal hx) h3 i)⟩
      simp only [Instr.entryStore, Sem.run_bind, Result.andThen_ok, run_getObj h2 (by simp), asInt, run_asIntOf, Sem.run_pure, hf, run_setObj h2 (by simp)]
    · simp [no] at hs
  · simp [no] at hs
theorem deleteA_ok (p : Pre η P ρ B h w) {t : TypeId} {ts : List TypeId} {type : TypeId} {m k m' k' : Value} {h' : AH} (hs : deleteA P h t m k = .ok h') (hm : VR η ρ m m') (hk : VR η ρ k k') :
    ∃ w', (Builtin.delete_ ⟨t :: ts⟩ type #[m', k']).run P w = .ok (.tuple #[]) w' ∧ Post η ρ B h w ρ h' w' := by
  have e0 : (⟨t :: ts⟩ : Array TypeId)[0]? = some t := rfl
  have e2 : (#[m', k'] : Array Value)[0]? = some m' := rfl
  have e3 : (#[m', k'] : Array Value)[1]? = some k' := rfl
  simp only [deleteA, bind_ok, undA_ok] at hs
  obtain ⟨d, hd, hs⟩ := hs
  split at hs
  · rename_i key elem
    split at hs
    · have := hm.map0_inv; subst this
      simp only [bind_ok] at hs
      obtain ⟨kd, hkd, hs⟩ := hs
      rw [okk] at hs; subst hs
      obtain ⟨hu, hd'⟩ := keyKind_ok hkd
      refine ⟨w, ?_, .refl p⟩
      simp only [Builtin.delete_, e0, e2, e3, Sem.run_bind, run_und hd, Result.andThen_ok, run_checkKey hu hd' true 9999 k', Sem.run_pure]
    · rename_i r
      obtain ⟨b, dd, n, rfl, hρ⟩ := hm.map_inv
      simp only [bind_ok] at hs
      obtain ⟨⟨es, c, own⟩, hmap, hs⟩ := hs
      simp only [ite_no] at hs
      obtain ⟨hown, hs⟩ := hs
      have hown : own = true := by simpa using hown
      subst hown
      have hg := mapOf_ok.1 hmap
      simp only [] at hg
      obtain ⟨b2, d2, n2, E, h1, h2, h3, h4⟩ := p.hr.map hg
      rw [hρ] at h1; cases h1
      simp only [bind_ok] at hs
      obtain ⟨f, hf, hs⟩ := hs
      obtain ⟨hck, hf⟩ := findM_ok (P := P) (w := w) hf hk h3
      rcases hf with ⟨rfl, hrun⟩ | ⟨j, e, e', rfl, he, he', her, hkk, hke, hsb, hrun⟩
      · simp only [okk] at hs; subst hs
        refine ⟨wput w b (.map E c), ?_, Post.map p hg hρ h3⟩
        simp only [Builtin.delete_, e0, e2, e3, Sem.run_bind, run_und hd, Result.andThen_ok, run_getObj h2 (by simp), hck, hrun, run_setObj h2 (by simp), Sem.run_pure]
      · simp only [okk] at hs; subst hs
        have hE : (E.eraseIdxIfInBounds j).toList = E.toList.eraseIdx j := by
          have hlt : j < E.size := (List.getElem?_eq_some_iff.1 he').1
          unfold Array.eraseIdxIfInBounds
          rw [dif_pos hlt]
          simp
        refine ⟨wput w b (.map (E.eraseIdxIfInBounds j) c), ?_, Post.map p hg hρ (by rw [hE]; exact h3.eraseIdx j)⟩
        simp only [Builtin.delete_, e0, e2, e3, Sem.run_bind, run_und hd, Result.andThen_ok, run_getObj h2 (by simp), hck, hrun, run_setObj h2 (by simp), Sem.run_pure]
    · simp [no] at hs
  · simp [no] at hs
theorem clearA_ok (hη : OneCells η) (p : Pre η P ρ B h w) {t : TypeId} {ts : List TypeId} {type : TypeId} {x x' : Value} {h' : AH} (hs : clearA P h t x = .ok h') (hx : VR η ρ x x') :
    ∃ w', (Builtin.clear_ ⟨t :: ts⟩ type #[x']).run P w = .ok (.tuple #[]) w' ∧ Post η ρ B h w ρ h' w' := by
  have e0 : (⟨t :: ts⟩ : Array TypeId)[0]? = some t := rfl
  have e2 : (#[x'] : Array Value)[0]? = some x' := rfl
  simp only [clearA, bind_ok, undA_ok] at hs
  obtain ⟨d, hd, hs⟩ := hs
  split at hs
  · have := hx.map0_inv; subst this
    rw [okk] at hs; subst hs
    exact ⟨w, by simp only [Builtin.clear_, e0, e2, Sem.run_bind, run_und hd, Result.andThen_ok]; rfl, .refl p⟩
  · rw [ite_no, okk] at hs
    obtain ⟨hcE, hs⟩ := hs
    subst hs
    obtain ⟨a', c', rfl, hc⟩ := hx.slice_inv3 (.inr hcE)
    have e1 : a' = none := by rcases hc with ⟨_, e, _⟩ | ⟨_, _, e, _⟩ | ⟨_, _, _, _, _, _, e, _⟩ <;> first | exact e | cases e
    subst e1
    exact ⟨w, by simp only [Builtin.clear_, e0, e2, Sem.run_bind, run_und hd, Result.andThen_ok]; rfl, .refl p⟩
  · rename_i r
    obtain ⟨b, dd, n, rfl, hρ⟩ := hx.map_inv
    simp only [bind_ok] at hs
    obtain ⟨⟨es, c, own⟩, hmap, hs⟩ := hs
    simp only [ite_no', okk] at hs
    obtain ⟨rfl, rfl⟩ := hs
    have hg := mapOf_ok.1 hmap
    simp only [] at hg
    obtain ⟨b2, d2, n2, E, h1, h2, h3, h4⟩ := p.hr.map hg
    rw [hρ] at h1; cases h1
    refine ⟨wput w b (.map #[] c), ?_, Post.map p hg hρ .nil⟩
    simp only [Builtin.clear_, e0, e2, Sem.run_bind, run_und hd, Result.andThen_ok, run_getObj h2 (by simp), run_setObj h2 (by simp), Sem.run_pure]
  · rename_i elem a n c
    obtain ⟨a', c', rfl, hc⟩ := hx.slice_inv3 (.inl rfl)
    obtain ⟨q, rfl, hq⟩ : ∃ q, a' = some q ∧ AdR ρ a q := by
      rcases hc with ⟨e, _⟩ | ⟨_, q, e, e', hq, _⟩ | ⟨_, q, _, _, _, _, e, e', hq, _⟩
      · cases e
      · cases e; exact ⟨q, e', hq⟩
      · cases e; exact ⟨q, e', hq⟩
    by_cases hn : n = 0
    · rw [if_pos hn, okk] at hs; subst hs; subst hn
      exact ⟨w, by simp only [Builtin.clear_, e0, e2, Sem.run_bind, run_und hd, Result.andThen_ok]; rfl, .refl p⟩
    · rw [if_neg hn] at hs
      simp only [bind_ok] at hs
      obtain ⟨z, hz, hs⟩ := hs
      have hl := (VR.zero (η := η) (ρ := ρ) hz).cells hη
      have hzc : (Builtin.zeroCells z.cells n).toList = rep z.cells.toList n := range_rep rfl
      rw [cells_cellsL] at hl
      obtain ⟨w', hw', hpost⟩ := storeC_ok (P := P) hη p hs hq (vs' := (Builtin.zeroCells z.cells n).toList) (by rw [hzc, cells_cellsL]; exact LR.rep hl n)
      refine ⟨w', ?_, hpost⟩
      obtain ⟨n', rfl⟩ : ∃ n', n = n' + 1 := ⟨n - 1, by omega⟩
      simp only [Builtin.clear_, e0, e2, Sem.run_bind, run_und hd, Result.andThen_ok, run_zero hz, hw', Sem.run_pure]
  · simp [no] at hs
end
end Go.Ev

namespace Go.Ev
set_option linter.unusedVariables false
set_option linter.unusedSimpArgs false
variable {η : Nat → Value}
section
variable {P : Program} {ρ : Env} {B : Bd} {h : AH} {w : World}
theorem HR.iter (H : HR η ρ B h w) {r : Nat} {m : Option Nat} {since last : Nat} {seen : List Nat} (hg : h.objs.get r = some (.mapIter m since seen last)) :
    ∃ b n m', ρ r = some (b, 0, n) ∧ w.heap[b]? = some (.mapIter m' since seen.toArray last) ∧ ((m = none ∧ m' = none) ∨ ∃ r b d n, m = some r ∧ m' = some b ∧ ρ r = some (b, d, n)) := by
  obtain ⟨b, d, n, o, h1, h2, ⟨rfl, m', rfl, h3⟩, _⟩ := H.obj _ _ hg
  refine ⟨b, n, m', h1, h2, ?_⟩
  cases m <;> cases m' <;> simp only at h3
  · exact .inl ⟨rfl, rfl⟩
  · obtain ⟨d, n, h3⟩ := h3; exact .inr ⟨_, _, d, n, rfl, rfl, h3⟩
theorem nextA_ok (p : Pre η P ρ B h w) {it it' v : Value} {isS : Bool} {type : TypeId} {h' : AH} (hn : nextA h it isS = .ok (v, h')) (hi : VR η ρ it it') :
    ∃ x w', (Instr.next it' isS type).run P w = .ok x w' ∧ VR η ρ v x ∧ Post η ρ B h w ρ h' w' := by
  have over : VR η ρ (tupL [.bool false]) (.tuple #[.bool false]) := .tup' (.cons (.bool _) .nil)
  unfold nextA at hn
  split at hn
  · rename_i r sp
    obtain ⟨q, rfl, hq⟩ := hi.ptr_inv
    obtain ⟨hsp, n, b, d, hρ, rfl⟩ := hq
    simp only at hρ hsp
    split at hn
    · rename_i s pos hg
      obtain ⟨b2, d2, n2, o, h1, h2, ⟨hd0, rfl⟩, h4⟩ := p.hr.obj _ _ hg
      rw [hρ] at h1; cases h1
      subst hd0
      split at hn
      · rename_i hlt
        simp only [okk] at hn
        injection hn with e1 e2; subst e1; subst e2
        refine ⟨.tuple #[.bool true, goInt pos, .int .i32 (Utf8.decode s pos).1], wput w b (.stringIter s (pos + (Utf8.decode s pos).2)), ?_, .tup' (.cons (.bool _) (.cons (.int _ _) (.cons (.int _ _) .nil))), Post.put p hg rfl hρ rfl ⟨rfl, rfl⟩⟩
        simp only [Instr.next, Nat.zero_add, Sem.run_bind, run_getObj h2 (by simp), Result.andThen_ok, hlt, if_true, run_setObj h2 (by simp), Sem.run_pure]
      · rename_i hlt
        simp only [okk] at hn
        injection hn with e1 e2; subst e1; subst e2
        refine ⟨_, w, ?_, over, .refl p⟩
        simp only [Instr.next, Nat.zero_add, Sem.run_bind, run_getObj h2 (by simp), Result.andThen_ok, hlt, if_false, Sem.run_pure]
    · rename_i since seen last hg
      obtain ⟨b2, n2, m', h1, h2, h3⟩ := p.hr.iter hg
      rw [hρ] at h1; cases h1
      rcases h3 with ⟨_, rfl⟩ | ⟨_, _, _, _, h3, _⟩
      case inr => cases h3
      case inl =>
        simp only [okk] at hn
        injection hn with e1 e2; subst e1; subst e2
        refine ⟨_, w, ?_, over, .refl p⟩
        simp only [Instr.next, Nat.zero_add, Sem.run_bind, run_getObj h2 (by simp), Result.andThen_ok, Sem.run_pure]
    · rename_i m since seen last hg
      obtain ⟨b2, n2, m', h1, h2, h3⟩ := p.hr.iter hg
      rw [hρ] at h1; cases h1
      rcases h3 with ⟨h3, _⟩ | ⟨r0, mb, md, mn, h3, rfl, hρm⟩
      case inl => cases h3
      case inr =>
        injection h3 with h3; subst h3
        simp only [bind_ok] at hn
        obtain ⟨⟨es, clock, own⟩, hm, hn⟩ := hn
        obtain ⟨b3, d3, n3, E, k1, k2, k30, hBm⟩ := p.hr.map (mapOf_ok.1 hm)
        have k3 : L2 (ER η ρ) es E.toList := k30
        clear k30 hBm
        rw [hρm] at k1; cases k1
        simp only [ite_no] at hn
        obtain ⟨hall, hn⟩ := hn
        have hallE : ¬ (!seen.toArray.isEmpty && !E.isEmpty && E.all (fun e => decide (e.born ≥ last))) = true := by
          intro hh
          apply hall
          have e1 : E.isEmpty = es.isEmpty := by
            have hl := k3.len
            have : ∀ (A : Array MapEntry), A.isEmpty = A.toList.isEmpty := fun A => by obtain ⟨l⟩ := A; simp
            rw [this]
            clear k3 k2 hall hh hn hm this
            generalize E.toList = l at hl
            cases es <;> cases l <;> simp_all
          have e2 : E.all (fun e => decide (e.born ≥ last)) = es.all (fun e => decide (e.born ≥ last)) := by
            rw [← Array.all_toList]
            clear hn hall hh hm k2 e1
            generalize E.toList = l at k3
            induction k3 with
            | nil => rfl
            | cons hr _ ih => simp only [List.all_cons, ih, hr.2.2]
          rw [e1, e2] at hh
          simpa using hh
        have hleft : L2 (ER η ρ) (es.filter fun e => !seen.contains e.born) (E.filter fun e => !seen.toArray.contains e.born).toList := by
          rw [Array.toList_filter]
          clear hn hall hallE hm k2
          generalize E.toList = l at k3
          induction k3 with
          | nil => exact .nil
          | @cons a c l m hr _ ih =>
            simp only [List.filter_cons]
            have : (!seen.toArray.contains c.born) = !seen.contains a.born := by rw [hr.2.2]; simp
            rw [this]
            split
            · exact .cons hr ih
            · exact ih
        split at hn
        · rename_i hnil
          simp only [okk] at hn
          injection hn with e1 e2; subst e1; subst e2
          rw [hnil] at hleft
          have hE0 : (E.filter fun e => !seen.toArray.contains e.born) = #[] := by
            have := hleft.inv_nil
            rw [← Array.toArray_toList (xs := E.filter _), this]
          refine ⟨_, w, ?_, over, .refl p⟩
          simp only [Instr.next, Nat.zero_add, Sem.run_bind, run_getObj h2 (by simp), run_getObj k2 (by simp), Result.andThen_ok]
          rw [if_neg hallE, hE0]
          simp [Question.forced]
        · rename_i e hone
          simp only [ite_no', okk] at hn
          obtain ⟨hborn, hn⟩ := hn
          injection hn with e1 e2; subst e1; subst e2
          rw [hone] at hleft
          obtain ⟨e', m'', hm1, hre, hm2⟩ := hleft.inv_cons
          have := hm2.inv_nil; subst this
          have hE1 : (E.filter fun e => !seen.toArray.contains e.born) = #[e'] := by
            rw [← Array.toArray_toList (xs := E.filter _), hm1]
          have hb' : e'.born < since := by rw [← hre.2.2]; exact hborn
          refine ⟨.tuple #[.bool true, e'.key, e'.val], wput w b (.mapIter (some mb) since (seen.toArray.push e'.born) clock), ?_, .tup' (.cons (.bool _) (.cons hre.1 (.cons hre.2.1 .nil))), Post.put p hg rfl hρ rfl ⟨rfl, some mb, ?_, ⟨_, _, hρm⟩⟩⟩
          · simp only [Instr.next, Nat.zero_add, Sem.run_bind, run_getObj h2 (by simp), run_getObj k2 (by simp), Result.andThen_ok]
            rw [if_neg hallE, hE1]
            simp [Question.forced, hb', run_setObj h2 (by simp), Nat.not_le.2 hb']
          · rw [hre.2.2]; simp
        · simp [no] at hn
    · simp [no] at hn
  · simp [no] at hn
theorem rangeA_ok (p : Pre η P ρ B h w) {t : TypeId} {x x' v : Value} {h' : AH} (hr : (do
    match ← undA P t, x with
    | .string, .string s => let (r, h) := newA h (.stringIter s 0); .ok (.pointer (some ⟨r, 0, none⟩), h)
    | .map _ _, .map none => let (r, h) := newA h (.mapIter none 0 [] 0); .ok (.pointer (some ⟨r, 0, none⟩), h)
    | .map _ _, .map (some m) => do
      let (_, clock, _) ← mapOf h m
      let (r, h) := newA h (.mapIter (some m) clock [] clock)
      .ok (.pointer (some ⟨r, 0, none⟩), h)
    | _, _ => no "range" : M (Value × AH)) = .ok (v, h')) (hx : VR η ρ x x') :
    ∃ ρ' y w', (Instr.range t x').run P w = .ok y w' ∧ VR η ρ' v y ∧ Post η ρ B h w ρ' h' w' := by
  simp only [bind_ok, undA_ok] at hr
  obtain ⟨d, hd, hr⟩ := hr
  have fin : ∀ (ob : Obj) (a : AObj), OR η (ρ.put h.next (w.heap.size, 0, 0)) a 0 0 ob → (v, h') = (.pointer (some ⟨h.next, 0, none⟩), (newA h a).2) →
      VR η (ρ.put h.next (w.heap.size, 0, 0)) v (.pointer (some ⟨w.heap.size, 0, none⟩)) ∧ Post η ρ B h w (ρ.put h.next (w.heap.size, 0, 0)) h' (wpush w ob) := by
    intro ob a hO he
    injection he with e1 e2; subst e1; subst e2
    exact ⟨VR.ptr_new (Env.put_at _ _ _), Post.new (w' := wpush w ob) (ob := ob) p ⟨rfl, rfl, rfl, rfl⟩ h.objs (fun _ _ hx => hx) hO⟩
  split at hr
  · have := hx.string_inv; subst this
    simp only [newA, okk] at hr
    obtain ⟨f1, f2⟩ := fin (.stringIter _ 0) (.stringIter _ 0) ⟨rfl, rfl⟩ hr.symm
    exact ⟨_, _, _, by simp only [Instr.range, Sem.run_bind, run_und hd, Result.andThen_ok, Sem.run_pure, run_newObj]; rfl, f1, f2⟩
  · have := hx.map0_inv; subst this
    simp only [newA, okk] at hr
    obtain ⟨f1, f2⟩ := fin (.mapIter none 0 #[] 0) (.mapIter none 0 [] 0) ⟨rfl, none, rfl, trivial⟩ hr.symm
    exact ⟨_, _, _, by simp only [Instr.range, Sem.run_bind, run_und hd, Result.andThen_ok, Sem.run_pure, run_newObj]; rfl, f1, f2⟩
  · rename_i m
    obtain ⟨mb, md, mn, rfl, hρ⟩ := hx.map_inv
    simp only [bind_ok] at hr
    obtain ⟨⟨es, clock, own⟩, hm, hr⟩ := hr
    obtain ⟨b3, d3, n3, E, k1, k2, k3, _⟩ := p.hr.map (mapOf_ok.1 hm)
    rw [hρ] at k1; cases k1
    simp only [newA, okk] at hr
    obtain ⟨f1, f2⟩ := fin (.mapIter (some mb) clock #[] clock) (.mapIter (some m) clock [] clock) ⟨rfl, some mb, rfl, ⟨_, _, Env.le_put (p.fresh h.next (Nat.le_refl _)) _ _ hρ⟩⟩ hr.symm
    exact ⟨_, _, _, by simp only [Instr.range, Sem.run_bind, run_und hd, Result.andThen_ok, Sem.run_pure, run_getObj k2 (by simp), run_newObj]; rfl, f1, f2⟩
  · simp [no] at hr
end
end Go.Ev

namespace Go.Ev
set_option linter.unusedVariables false
set_option linter.unusedSimpArgs false
open Go.Extern
variable {P : Program}
def Rd (P : Program) {α : Type} (s : Sem α) : Prop := ∀ (w : World) (a : α) (w' : World), s.run P w = .ok a w' → ∀ u, s.run P u = .ok a u
theorem Rd.pure {α : Type} (a : α) : Rd P (Pure.pure a : Sem α) := by
  intro w b w' h u
  simp only [Sem.run_pure] at h ⊢
  injection h with h1 _; rw [h1]
theorem Rd.bind {α β : Type} {s : Sem α} {f : α → Sem β} (h : Rd P s) (k : ∀ a, Rd P (f a)) : Rd P (s >>= f) := by
  intro w b w' hr u
  rw [Sem.run_bind] at hr ⊢
  cases hs : s.run P w with
  | ok a w1 =>
    rw [hs, Result.andThen_ok] at hr
    rw [h w a w1 hs u, Result.andThen_ok]
    exact k a w1 b w' hr u
  | _ => rw [hs] at hr; cases hr
theorem Rd.program : Rd P program := by
  intro w a w' h u
  rw [run_program] at h ⊢
  injection h with h1 _; rw [h1]
theorem Rd.stuck {α : Type} (s : String) : Rd P (Go.stuck s : Sem α) := by
  intro w a w' h u; simp at h
theorem Rd.unsup {α : Type} (s : Unsupported) : Rd P (Go.unsupported s : Sem α) := by
  intro w a w' h u; simp at h
theorem Rd.panic {α : Type} (s : String) : Rd P (Go.panicString s : Sem α) := by
  intro w a w' h u; simp [panicString, Result.andThen] at h
theorem Rd.ite {α : Type} {c : Prop} [Decidable c] {s t : Sem α} (h : Rd P s) (k : Rd P t) : Rd P (if c then s else t) := by
  split <;> assumption
theorem Rd.info (t : TypeId) : Rd P (typeInfo t) := by
  unfold typeInfo
  refine Rd.bind Rd.program fun p => ?_
  split
  · exact .pure _
  · exact .stuck _
theorem Rd.under (t : TypeId) : Rd P (Rtype.under t) := by
  unfold Rtype.under
  refine Rd.bind (.info _) fun i => ?_
  split
  · exact .bind (.info _) fun _ => .pure _
  · exact .pure _
theorem Rd.noPack (s : String) (t : TypeId) : Rd P (Rtype.noPack s t) := by
  unfold Rtype.noPack
  exact .bind .program fun _ => .ite (.unsup _) (.pure _)
theorem Rd.noPackMethods (s : String) (t : TypeId) : Rd P (Rtype.noPackMethods s t) := by
  unfold Rtype.noPackMethods
  exact .bind .program fun _ => .ite (.unsup _) (.pure _)
theorem Rd.noPackHeld (s : String) (t : TypeId) : Rd P (Rtype.noPackHeld s t) := by
  unfold Rtype.noPackHeld
  exact .bind .program fun _ => .ite (.unsup _) (.pure _)
theorem Rd.kind (t : TypeId) : Rd P (Rtype.kind t) := by
  unfold Rtype.kind
  refine Rd.bind (.under _) fun i => ?_
  split
  split <;> first | exact .pure _ | exact .stuck _
theorem Rd.elem (t : TypeId) : Rd P (Rtype.elem? t) := by
  unfold Rtype.elem?
  refine Rd.bind (.under _) fun i => ?_
  split <;> exact .pure _
theorem Rd.hasName (t : TypeId) : Rd P (Rtype.hasName t) := by
  unfold Rtype.hasName
  refine Rd.bind (.info _) fun i => ?_
  split <;> exact .pure _
theorem Rd.implements (a b : TypeId) : Rd P (Rtype.implements a b) := by
  unfold Rtype.implements
  refine Rd.bind (.noPackMethods _ _) fun _ => Rd.bind (.noPackMethods _ _) fun _ => Rd.bind (.under _) fun _ => Rd.bind (.under _) fun _ => ?_
  split
  · exact .pure _
  · exact .bind (.info _) fun _ => .pure _
  · exact .pure _
theorem Rd.direct (a b : TypeId) : Rd P (Rtype.directlyAssignable a b) := by
  unfold Rtype.directlyAssignable
  refine Rd.ite (.pure _) ?_
  refine Rd.bind (.hasName _) fun _ => Rd.bind (.hasName _) fun _ => Rd.ite (.pure _) (Rd.bind (.under _) fun x => ?_)
  obtain ⟨t, ti⟩ := x
  refine Rd.bind (.under _) fun y => ?_
  obtain ⟨u, ui⟩ := y
  simp only []
  split <;> exact .pure _
theorem Rd.implements_ (a b : TypeId) : Rd P (ReflectliteType.implements_ a b) := by
  unfold ReflectliteType.implements_
  have J : Rd P (do Rtype.noPackMethods "Implements" b; Rtype.noPack "Implements" a; Rtype.implements a b) := .bind (.noPackMethods _ _) fun _ => .bind (.noPack _ _) fun _ => .implements _ _
  exact Rd.bind (.kind _) fun _ => .ite (.bind (.panic _) fun _ => J) J
theorem Rd.assignable (a b : TypeId) : Rd P (ReflectliteType.assignableTo a b) := by
  unfold ReflectliteType.assignableTo
  have J : Rd P (do return (← Rtype.directlyAssignable a b) || (← Rtype.implements a b)) := .bind (.direct _ _) fun _ => .bind (.implements _ _) fun _ => .pure _
  exact .ite (.bind (.noPackMethods _ _) fun _ => .bind (.noPackMethods _ _) fun _ => J) J
theorem Rd.cutType (s : String) : Rd P (Go.cutType s) := by
  unfold Go.cutType
  refine Rd.bind .program fun _ => ?_
  split
  · exact .pure _
  · exact .stuck _
theorem runR_ok {α : Type} {s : Sem α} {a : α} (h : Rd P s) (hr : runR P s = .ok a) (w : World) : s.run P w = .ok a w := by
  unfold runR at hr
  split at hr
  · rename_i x w' hx
    rw [okk] at hr; subst hr
    exact h _ _ _ hx w
  · simp [no] at hr
variable {η : Nat → Value} {ρ : Env} {B : Bd} {h : AH} {w : World}
theorem handA_ok (hG : GR P ρ) {v x : Value} {t : TypeId} (h : handA P v = .ok t) (hv : VR η ρ v x) : x = typeHandle P t ∧ (Rtype.ofHandle x).run P w = .ok t w := by
  unfold handA at h
  split at h
  · rename_i a
    rw [ite_no', okk] at h
    obtain ⟨⟨h1, h2⟩, h3⟩ := h
    obtain ⟨b, rfl, _, n, blk, d, h4, rfl⟩ := hv.ptr_inv
    obtain ⟨m, h5⟩ := hG _ (Nat.le_refl _)
    rw [h1, h5] at h4
    cases h4
    subst h3
    have e : (Value.pointer (some ⟨P.globals.size, 0 + a.off, none⟩)) = typeHandle P a.off := by rw [Nat.zero_add]; rfl
    refine ⟨e, ?_⟩
    rw [e]
    simp [Rtype.ofHandle, handleType, typeHandle, Result.andThen]
  · simp [no] at h
theorem handV_ok (hG : GR P ρ) (t : TypeId) : VR η ρ (handV P t) (typeHandle P t) := by
  obtain ⟨m, h5⟩ := hG _ (Nat.le_refl _)
  have := VR.ptr (η := η) (o := t) h5
  rw [Nat.zero_add] at this
  exact this
theorem rtypeA_ok (hG : GR P ρ) {t : TypeId} {v : Value} (h : rtypeA P t = .ok v) : ∃ x, (ReflectliteType.toType t).run P w = .ok x w ∧ VR η ρ v x := by
  simp only [rtypeA, bind_ok] at h
  obtain ⟨c, hc, h⟩ := h
  rw [okk] at h; subst h
  refine ⟨.iface c (.agg #[typeHandle P t]), ?_, .iface _ (.agg' (.cons (handV_ok hG t) .nil))⟩
  have := runR_ok (.cutType _) hc w
  simp [ReflectliteType.toType, this, Rtype.handle, Result.andThen]
theorem ofRtA_ok (hG : GR P ρ) {v x : Value} {t : TypeId} (h : ofRtA P v = .ok t) (hv : VR η ρ v x) : (ReflectliteType.ofRtype x).run P w = .ok t w := by
  unfold ofRtA at h
  split at h
  · rename_i hd
    simp only [bind_ok] at h
    obtain ⟨t', h1, u, h2, h⟩ := h
    rw [okk] at h; subst h
    obtain ⟨c, rfl, hl⟩ := hv.agg_inv
    obtain ⟨y, m, hm, hy, hm'⟩ := hl.inv_cons
    have := hm'.inv_nil; subst this
    have hc : c = #[y] := by rw [← Array.toArray_toList (xs := c), hm]
    subst hc
    have k1 := (handA_ok (w := w) hG h1 hy).2
    have k2 := runR_ok (.noPack _ _) h2 w
    have e : ReflectliteType.ofRtype (.agg #[y]) = (do let t ← Rtype.ofHandle y; Rtype.noPack "a Type asked or handed on" t; pure t) := rfl
    rw [e]
    simp [k1, k2, Result.andThen]
  · simp [no] at h
theorem valA_ok (hG : GR P ρ) {clean : Bool} {v x : Value} {t : TypeId} {a : Addr} {f : Nat} (h : valA P clean v = .ok (t, a, f)) (hv : VR η ρ v x) :
    ∃ b, AdR ρ a b ∧ (ReflectliteValue.partsAny x).run P w = .ok (some (t, b, f)) w ∧ (clean = true → (ReflectliteValue.parts x).run P w = .ok (some (t, b, f)) w) := by
  unfold valA at h
  split at h
  · rename_i hd a' f'
    rw [ite_no] at h
    obtain ⟨hn, h⟩ := h
    simp only [bind_ok] at h
    obtain ⟨t', h1, u, h2, h⟩ := h
    obtain ⟨n, hfn⟩ : ∃ n : Nat, f' = ((n + 1 : Nat) : Int) := ⟨f'.toNat - 1, by omega⟩
    subst hfn
    rw [okk] at h; injection h with e1 e2; injection e2 with e2 e3; subst e1; subst e2; subst e3
    obtain ⟨c, rfl, hl⟩ := hv.agg_inv
    obtain ⟨y, m, hm, hy, hm'⟩ := hl.inv_cons
    obtain ⟨y2, m2, hm2, hy2, hm2'⟩ := hm'.inv_cons
    obtain ⟨y3, m3, hm3, hy3, hm3'⟩ := hm2'.inv_cons
    have := hm3'.inv_nil; subst this; subst hm3; subst hm2
    obtain ⟨b, rfl, hb⟩ := hy2.ptr_inv
    have := hy3.int_inv; subst this
    have hc : c = #[y, .pointer (some b), .int .u64 ((n + 1 : Nat) : Int)] := by rw [← Array.toArray_toList (xs := c), hm]
    subst hc
    have k1 := (handA_ok (w := w) hG h1 hy).2
    have k3 : (ReflectliteValue.partsAny (.agg #[y, .pointer (some b), .int .u64 ((n + 1 : Nat) : Int)])).run P w = .ok (some (t', b, ((n + 1 : Nat) : Int).toNat)) w := by
      have e : ReflectliteValue.partsAny (.agg #[y, .pointer (some b), .int .u64 ((n + 1 : Nat) : Int)]) = (do pure (some (← Rtype.ofHandle y, b, ((n + 1 : Nat) : Int).toNat))) := rfl
      rw [e]
      simp [k1, Result.andThen]
    refine ⟨b, hb, k3, fun hcl => ?_⟩
    subst hcl
    rw [if_pos rfl] at h2
    have k2 := runR_ok (.noPack _ _) h2 w
    simp only [ReflectliteValue.parts, Sem.run_bind, k3, Result.andThen_ok, k2, Sem.run_pure]
  · simp [no] at h
theorem mkVA_ok (hG : GR P ρ) {t : TypeId} {a b : Addr} {fl : Nat} {v : Value} (h : mkVA P t a fl = .ok v) (hb : AdR ρ a b) : ∃ x, (ReflectliteValue.mk t b fl).run P w = .ok x w ∧ VR η ρ v x := by
  simp only [mkVA, bind_ok] at h
  obtain ⟨k, hk, h⟩ := h
  rw [okk] at h; subst h
  refine ⟨.agg #[typeHandle P t, .pointer (some b), .int .u64 (Int.ofNat (k + 128 + fl))], ?_, .agg' (.cons (handV_ok hG t) (.cons hb.ptr (.cons (.int _ _) .nil)))⟩
  have := runR_ok (.kind _) hk w
  simp [ReflectliteValue.mk, this, Rtype.handle, ReflectliteValue.flagIndir, Result.andThen]
end Go.Ev

namespace Go.Ev
set_option linter.unusedVariables false
set_option linter.unusedSimpArgs false
variable {η : Nat → Value}
section
variable {P : Program} {ρ : Env} {B : Bd} {h : AH} {w : World}
theorem liesAt_off {e : TypeId} (hc : P.cellsOf e = 1) (count off n : Nat) (hn : off + n ≤ count) : liesAt P P.depth e count off e n = true := by
  have hd : P.depth = (2 * (P.types.size + Made.depth) + 1) + 1 := rfl
  rw [hd]
  simp only [liesAt, Bool.or_eq_true]
  left
  rw [hd]
  simp [rowAt, hc, hn, sameLayout, Nat.mod_one]
def PlR (η : Nat → Value) (ρ : Env) : APlace → Go.Place → Prop
  | .val v, .val x => VR η ρ v x
  | .var a, .var b => AdR ρ a b
  | _, _ => False
theorem PlR.get (H : HR η ρ B h w) {t : TypeId} {x : APlace} {x' : Go.Place} {v : Value} (hg : x.get P h t = .ok v) (hx : PlR η ρ x x') : ∃ y, (x'.get t).run P w = .ok y w ∧ VR η ρ v y := by
  cases x with
  | val u =>
    cases x' with
    | val u' => simp only [APlace.get, okk] at hg; subst hg; exact ⟨u', rfl, hx⟩
    | var b => exact hx.elim
  | var a =>
    cases x' with
    | val u' => exact hx.elim
    | var b => exact loadA_ok H hg hx
theorem followA_ok (H : HR η ρ B h w) : ∀ {path : List FieldStep} {t t2 : TypeId} {x y : APlace} {x' : Go.Place}, followA P h path t x = .ok (t2, y) → PlR η ρ x x' → ∃ y', (Go.follow path t x').run P w = .ok (t2, y') w ∧ PlR η ρ y y'
  | [], t, t2, x, y, x', hf, hx => by
    simp only [followA, okk] at hf; injection hf with e1 e2; subst e1; subst e2
    exact ⟨x', rfl, hx⟩
  | s :: rest, t, t2, x, y, x', hf, hx => by
    simp only [followA, bind_ok] at hf
    obtain ⟨f, hfo, hf⟩ := hf
    obtain ⟨fs, hfs, hfi⟩ := fieldOff_ok hfo
    by_cases hd : s.deref = true
    · rw [if_pos hd] at hf
      simp only [bind_ok, addrA_ok] at hf
      obtain ⟨v, hv, a, ⟨rfl, _⟩, n, hn, hf⟩ := hf
      rw [ite_no] at hf
      obtain ⟨h0, hf⟩ := hf
      obtain ⟨u, hu, hur⟩ := PlR.get (P := P) H hv hx
      obtain ⟨q, rfl, hq⟩ := hur.ptr_inv
      obtain ⟨y', hy, hyr⟩ := followA_ok H hf (x' := .var (q.add f.offset)) (hq.add _)
      refine ⟨y', ?_, hyr⟩
      simp only [Go.follow, Sem.run_bind, run_und hfs, Result.andThen_ok, hfi]
      rw [if_pos hd]
      simp only [Sem.run_bind, hu, Result.andThen_ok, asAddr, Sem.run_pure, run_place hn h0, hy]
    · rw [if_neg hd] at hf
      split at hf
      · rename_i a
        cases x' with
        | val u => exact hx.elim
        | var b =>
          simp only [bind_ok] at hf
          obtain ⟨n, hn, hf⟩ := hf
          rw [ite_no] at hf
          obtain ⟨h0, hf⟩ := hf
          obtain ⟨y', hy, hyr⟩ := followA_ok H hf (x' := .var (b.add f.offset)) (AdR.add hx _)
          refine ⟨y', ?_, hyr⟩
          simp only [Go.follow, Sem.run_bind, run_und hfs, Result.andThen_ok, hfi]
          rw [if_neg hd]
          simp only [Sem.run_bind, run_place hn h0, Result.andThen_ok, hy]
      · rename_i cs
        cases x' with
        | var b => exact hx.elim
        | val u =>
          obtain ⟨c, rfl, hl⟩ := VR.agg_inv hx
          simp only [bind_ok] at hf
          obtain ⟨pv, hp, hf⟩ := hf
          obtain ⟨r, hr, hrv⟩ := partA_ok (P := P) (w := w) hp hl
          obtain ⟨y', hy, hyr⟩ := followA_ok H hf (x' := .val r) hrv
          refine ⟨y', ?_, hyr⟩
          simp only [Go.follow, Sem.run_bind, run_und hfs, Result.andThen_ok, hfi]
          rw [if_neg hd]
          simp only [Sem.run_bind, hr, Result.andThen_ok, hy]
      · simp [no] at hf
theorem recvAt_ok (H : HR η ρ B h w) {xt : TypeId} {x : APlace} {x' : Go.Place} {ptr : Bool} {v : Value} {wr : Option String} (hr : recvAt P h xt x ptr = .ok v) (hx : PlR η ρ x x') : ∃ r, (Go.receiverAt xt x' ptr wr).run P w = .ok r w ∧ VR η ρ v r := by
  simp only [recvAt, bind_ok, undA_ok] at hr
  obtain ⟨d, hd, hr⟩ := hr
  split at hr
  · obtain ⟨y, hy, hv⟩ := PlR.get (P := P) H hr hx
    refine ⟨y, ?_, hv⟩
    simp only [Go.receiverAt, Sem.run_bind, run_und hd, Result.andThen_ok, hy]
  · rename_i elem
    simp only [bind_ok, addrA_ok] at hr
    obtain ⟨u, hu, a, ⟨rfl, _⟩, hr⟩ := hr
    obtain ⟨y, hy, hyr⟩ := PlR.get (P := P) H hu hx
    obtain ⟨q, rfl, hq⟩ := hyr.ptr_inv
    obtain ⟨r, h1, h2⟩ := loadA_ok H hr hq
    refine ⟨r, ?_, h2⟩
    cases wr with
    | none => simp only [Go.receiverAt, Sem.run_bind, run_und hd, Result.andThen_ok, hy, asAddr, Sem.run_pure, h1]
    | some nm =>
      have hck : (Builtin.ssaWrapNilChk_ #[xt] xt #[.pointer (some q), strVal "", strVal nm]).run P w = .ok (.pointer (some q)) w := rfl
      simp only [Go.receiverAt, Sem.run_bind, run_und hd, Result.andThen_ok, hy, hck, asAddr, Sem.run_pure, h1]
  · rename_i n1
    cases x' with
    | val u => exact hx.elim
    | var b =>
      rw [okk] at hr; subst hr
      refine ⟨.pointer (some b), ?_, AdR.ptr hx⟩
      simp only [Go.receiverAt, Sem.run_bind, run_und hd, Result.andThen_ok]
      cases d <;> first | rfl | exact absurd rfl (n1 _)
  · simp [no] at hr
  · rename_i n1
    obtain ⟨y, hy, hv⟩ := PlR.get (P := P) H hr hx
    refine ⟨y, ?_, hv⟩
    simp only [Go.receiverAt, Sem.run_bind, run_und hd, Result.andThen_ok]
    cases d <;> first | exact hy | exact absurd rfl (n1 _)
theorem methodA_ok (H : HR η ρ B h w) : ∀ {n : Nat} {t : TypeId} {v v' : Value} {name : String} {f : FuncId} {r : Value}, methodA P h n t v name = .ok (f, r) → VR η ρ v v' → ∃ r', (Go.method n t v' name).run P w = .ok (f, r') w ∧ VR η ρ r r'
  | 0, t, v, v', name, f, r, hm, hv => by simp [methodA, no] at hm
  | n + 1, t, v, v', name, f, r, hm, hv => by
    simp only [methodA, bind_ok, infoA_ok, orNo_ok] at hm
    obtain ⟨i, hi, m, hmm, ⟨xt, x⟩, hfo, hm⟩ := hm
    obtain ⟨x', hx, hxr⟩ := followA_ok H hfo (x' := .val v') hv
    have hfind : i.methods.find? (·.name == name) = some m := by rw [← Array.find?_toList]; exact hmm
    simp only [Go.method, Sem.run_bind, run_info hi, Result.andThen_ok, hfind, hx]
    simp only [] at hm
    split at hm
    · rename_i hfn
      simp only [bind_ok] at hm
      obtain ⟨u, hu, hm⟩ := hm
      obtain ⟨y, hy, hyr⟩ := PlR.get (P := P) H hu hxr
      rw [hfn]
      simp only [Sem.run_bind, hy, Result.andThen_ok]
      split at hm
      · obtain ⟨z, rfl, hz⟩ := hyr.iface_inv
        exact methodA_ok H hm hz
      · simp [no] at hm
    · rename_i f0 ptr hfn
      simp only [bind_ok] at hm
      obtain ⟨rv, hrv, hm⟩ := hm
      rw [okk] at hm; injection hm with e1 e2; subst e1; subst e2
      rw [hfn]
      obtain ⟨y, hy, hyr⟩ := recvAt_ok (P := P) (wr := if m.path.isEmpty then some ((name.splitOn ".").getLastD name) else none) H hrv hxr
      exact ⟨y, by simp only [Sem.run_bind, hy, Result.andThen_ok, Sem.run_pure], hyr⟩
def NR (η : Nat → Value) (ρ : Env) : AN → Result Next → World → Prop
  | .value v, r, w => ∃ x, r = .ok (.value x) w ∧ VR η ρ v x
  | .skip, r, w => r = .ok .skip w
  | .enter f args, r, w => ∃ xs, r = .ok (.enter f xs) w ∧ LR η ρ args xs.toList
  | .defer d, r, w => ∃ e, r = .ok (.defer e) w ∧ DR η ρ d e
  | .recover, r, w => r = .ok .recover w
  | .round l fn tm n asg body, r, w => ∃ b d k tmps, r = .ok (.round b fn tmps asg body) w ∧ ρ l = some (b, d, k) ∧ TR η ρ tm n tmps
  | .panic v, r, w => ∃ x, r = .halt (.panic x) w ∧ VR η ρ v x
def Eff (η : Nat → Value) (P : Program) (ρ : Env) (B : Bd) (h : AH) (w : World) (s : Sem Next) (a : AN) (h' : AH) : Prop := ∃ ρ' w', NR η ρ' a (s.run P w) w' ∧ Post η ρ B h w ρ' h' w'
theorem Eff.reader (p : Pre η P ρ B h w) {s : Sem Next} {a : AN} (hn : NR η ρ a (s.run P w) w) : Eff η P ρ B h w s a h := ⟨ρ, w, hn, .refl p⟩
theorem look_none {fn : Func} {n : String} (hn : fn.name = n) (ho : (fn.origin == fn.name || fn.origin == "") = true) (h1 : (Extern.allNextRows.lookup n).isNone = true) (h2 : (Extern.allNextRows.lookup "").isNone = true) : Extern.findNext fn = none := by
  have k1 : Extern.allNextRows.lookup n = none := by simpa using h1
  have k2 : Extern.allNextRows.lookup "" = none := by simpa using h2
  unfold Extern.findNext
  have hor : fn.origin = n ∨ fn.origin = "" := by
    rw [Bool.or_eq_true] at ho
    rcases ho with ho | ho
    · exact .inl ((beq_iff_eq.1 ho).trans hn)
    · exact .inr (beq_iff_eq.1 ho)
  rcases hor with e | e <;> simp only [hn, e, k1, k2] <;> rfl
theorem look_find {fn : Func} {n : String} {e : Array Value → Sem Value} (hn : fn.name = n) (h1 : (Extern.allGenericRows.lookup n).isNone = true) (h2 : (Extern.allTypedRows.lookup n).isNone = true) (h3 : Extern.allRows.lookup n = some e) : Extern.find fn = some e := by
  have k1 : Extern.allGenericRows.lookup n = none := by simpa using h1
  have k2 : Extern.allTypedRows.lookup n = none := by simpa using h2
  unfold Extern.find
  simp only [hn, k1, k2, h3]; rfl
theorem look_typed {fn : Func} {n : String} {e : Extern.Typed} (hn : fn.name = n) (h1 : (Extern.allGenericRows.lookup n).isNone = true) (h2 : Extern.allTypedRows.lookup n = some e) : Extern.find fn = some (e fn.params fn.resultTypes) := by
  have k1 : Extern.allGenericRows.lookup n = none := by simpa using h1
  unfold Extern.find
  simp only [hn, k1, h2]; rfl
theorem digits_len : ∀ (n t : Nat) (acc : Array Value), (Extern.BytealgMakeNoZero.digits n t acc).size = acc.size + n
  | 0, t, acc => rfl
  | n + 1, t, acc => by
    simp only [Extern.BytealgMakeNoZero.digits]
    rw [digits_len n, Array.size_push]; omega
theorem reflectA_ok (hη : OneCells η) (p : Pre η P ρ B h w) {f : FuncId} {fn : Func} {args : List Value} {args' : Array Value} {a : AN} {h' : AH} (hf : P.funcs[f]? = some fn) (hnm : (fn.name == "runtime.NumGoroutine") = false) (hb : fn.body.isNone = true) (ho : (fn.origin == fn.name || fn.origin == "") = true) (hc : reflectA P h fn args = .ok (a, h')) (hl : LR η ρ args args'.toList) :
    Eff η P ρ B h w (callFunc f args') a h' := by
  have hG := p.glob
  have one : ∀ {x : Value}, args = [x] → ∃ x', args' = #[x'] ∧ VR η ρ x x' := by
    intro x e; subst e
    obtain ⟨x', m, hm, hx, hm'⟩ := hl.inv_cons
    have := hm'.inv_nil; subst this
    exact ⟨x', by rw [← Array.toArray_toList (xs := args'), hm], hx⟩
  have two : ∀ {x y : Value}, args = [x, y] → ∃ x' y', args' = #[x', y'] ∧ VR η ρ x x' ∧ VR η ρ y y' := by
    intro x y e; subst e
    obtain ⟨x', m, hm, hx, hm'⟩ := hl.inv_cons
    obtain ⟨y', m2, hm2, hy, hm2'⟩ := hm'.inv_cons
    have := hm2'.inv_nil; subst this; subst hm2
    exact ⟨x', y', by rw [← Array.toArray_toList (xs := args'), hm], hx, hy⟩
  have nx : (Extern.allNextRows.lookup "").isNone = true := by kernel_rfl
  have put : ∀ {n : String} {e : Array Value → Sem Value} {v x : Value}, fn.name = n → (Extern.allNextRows.lookup n).isNone = true → (Extern.allGenericRows.lookup n).isNone = true → (Extern.allTypedRows.lookup n).isNone = true → Extern.allRows.lookup n = some e → (e args').run P w = .ok x w → VR η ρ v x → Eff η P ρ B h w (callFunc f args') (.value v) h := by
    intro n e v x hn k1 k2 k3 k4 hr hv
    refine Eff.reader p ⟨x, ?_, hv⟩
    rw [run_callFunc_extern hf hnm hb (look_none hn ho k1 nx) (look_find hn k2 k3 k4), hr]
    rfl
  unfold reflectA at hc
  by_cases hn : fn.name = "internal/reflectlite.TypeOf"
  · rw [if_pos hn] at hc
    split at hc
    · obtain ⟨x', rfl, hx⟩ := one rfl
      have := hx.nilIface_inv; subst this
      rw [okk] at hc; injection hc with e1 e2; subst e1; subst e2
      exact put hn (by kernel_rfl) (by kernel_rfl) (by kernel_rfl) (e := Extern.ReflectliteType.typeOf) (by kernel_rfl) rfl .nilIface
    · rename_i t v
      obtain ⟨x', rfl, hx⟩ := one rfl
      obtain ⟨y, rfl, hy⟩ := hx.iface_inv
      simp only [bind_ok] at hc
      obtain ⟨u, hu, hc⟩ := hc
      rw [okk] at hc; injection hc with e1 e2; subst e1; subst e2
      obtain ⟨z, hz, hzv⟩ := rtypeA_ok (w := w) (η := η) hG hu
      exact put hn (by kernel_rfl) (by kernel_rfl) (by kernel_rfl) (e := Extern.ReflectliteType.typeOf) (by kernel_rfl) hz hzv
    · simp [no] at hc
  · rw [if_neg hn] at hc
    by_cases hn : fn.name = "(internal/reflectlite.rtype).Elem"
    · rw [if_pos hn] at hc
      split at hc
      · obtain ⟨x', rfl, hx⟩ := one rfl
        simp only [bind_ok] at hc
        obtain ⟨t, ht, o, hel, hc⟩ := hc
        have k1 := ofRtA_ok (w := w) hG ht hx
        have k2 := runR_ok (.elem _) hel w
        split at hc
        · rename_i e
          simp only [bind_ok] at hc
          obtain ⟨u, hu, hc⟩ := hc
          rw [okk] at hc; injection hc with e1 e2; subst e1; subst e2
          obtain ⟨z, hz, hzv⟩ := rtypeA_ok (w := w) (η := η) hG hu
          refine put hn (by kernel_rfl) (by kernel_rfl) (by kernel_rfl) (e := Extern.ReflectliteType.method Extern.ReflectliteType.elem) (by kernel_rfl) (x := z) ?_ hzv
          have e : ∀ g : TypeId → Sem Value, Extern.ReflectliteType.method g #[x'] = (do g (← Extern.ReflectliteType.ofRtype x')) := fun _ => rfl
          rw [e]
          simp only [Extern.ReflectliteType.elem, Sem.run_bind, k1, k2, Result.andThen_ok, hz]
        · simp [no] at hc
      · simp [no] at hc
    · rw [if_neg hn] at hc
      by_cases hn : fn.name = "(internal/reflectlite.rtype).Implements"
      · rw [if_pos hn] at hc
        split at hc
        · obtain ⟨x', y', rfl, hx, hy⟩ := two rfl
          obtain ⟨z, rfl, hz⟩ := hy.iface_inv
          simp only [bind_ok] at hc
          obtain ⟨c, hc1, d, hc2, b, hc3, hc⟩ := hc
          rw [okk] at hc; injection hc with e1 e2; subst e1; subst e2
          have k1 := ofRtA_ok (w := w) hG hc1 hz
          have k2 := ofRtA_ok (w := w) hG hc2 hx
          have k3 := runR_ok (.implements_ _ _) hc3 w
          refine put hn (by kernel_rfl) (by kernel_rfl) (by kernel_rfl) (e := Extern.ReflectliteType.relation "Implements" Extern.ReflectliteType.implements_) (by kernel_rfl) (x := .bool b) ?_ (.bool _)
          have e : ∀ (g : String) (r : TypeId → TypeId → Sem Bool) (T : TypeId), Extern.ReflectliteType.relation g r #[x', .iface T z] = (do pure (.bool (← r (← Extern.ReflectliteType.ofRtype z) (← Extern.ReflectliteType.ofRtype x')))) := fun _ _ _ => rfl
          rw [e]
          simp only [Sem.run_bind, k1, k2, k3, Result.andThen_ok, Sem.run_pure]
        · simp [no] at hc
      · rw [if_neg hn] at hc
        by_cases hn : fn.name = "(internal/reflectlite.rtype).AssignableTo"
        · rw [if_pos hn] at hc
          split at hc
          · obtain ⟨x', y', rfl, hx, hy⟩ := two rfl
            obtain ⟨z, rfl, hz⟩ := hy.iface_inv
            simp only [bind_ok] at hc
            obtain ⟨c, hc1, d, hc2, b, hc3, hc⟩ := hc
            rw [okk] at hc; injection hc with e1 e2; subst e1; subst e2
            have k1 := ofRtA_ok (w := w) hG hc1 hz
            have k2 := ofRtA_ok (w := w) hG hc2 hx
            have k3 := runR_ok (.assignable _ _) hc3 w
            refine put hn (by kernel_rfl) (by kernel_rfl) (by kernel_rfl) (e := Extern.ReflectliteType.relation "AssignableTo" Extern.ReflectliteType.assignableTo) (by kernel_rfl) (x := .bool b) ?_ (.bool _)
            have e : ∀ (g : String) (r : TypeId → TypeId → Sem Bool) (T : TypeId), Extern.ReflectliteType.relation g r #[x', .iface T z] = (do pure (.bool (← r (← Extern.ReflectliteType.ofRtype z) (← Extern.ReflectliteType.ofRtype x')))) := fun _ _ _ => rfl
            rw [e]
            simp only [Sem.run_bind, k1, k2, k3, Result.andThen_ok, Sem.run_pure]
          · simp [no] at hc
        · rw [if_neg hn] at hc
          by_cases hn : fn.name = "(*internal/abi.Type).Kind"
          · rw [if_pos hn] at hc
            split at hc
            · obtain ⟨x', rfl, hx⟩ := one rfl
              simp only [bind_ok] at hc
              obtain ⟨t, ht, u, hu, k, hk, hc⟩ := hc
              rw [okk] at hc; injection hc with e1 e2; subst e1; subst e2
              have k1 := (handA_ok (w := w) hG ht hx).2
              have k2 := runR_ok (.noPack _ _) hu w
              have k3 := runR_ok (.kind _) hk w
              refine put hn (by kernel_rfl) (by kernel_rfl) (by kernel_rfl) (e := Extern.ReflectliteType.abiMethod fun t => do pure (.int .u8 (← Extern.Rtype.kind t))) (by kernel_rfl) (x := .int .u8 k) ?_ (.int _ _)
              have e : ∀ g : TypeId → Sem Value, Extern.ReflectliteType.abiMethod g #[x'] = (do let t ← Extern.Rtype.ofHandle x'; Extern.Rtype.noPack "a method of abi.Type" t; g t) := fun _ => rfl
              rw [e]
              simp only [Sem.run_bind, k1, k2, k3, Result.andThen_ok, Sem.run_pure]
            · simp [no] at hc
          · rw [if_neg hn] at hc
            by_cases hn : fn.name = "(internal/reflectlite.rtype).Comparable"
            · rw [if_pos hn] at hc
              split at hc
              · obtain ⟨x', rfl, hx⟩ := one rfl
                simp only [bind_ok, infoA_ok] at hc
                obtain ⟨t, ht, u, hu, i, hi, hc⟩ := hc
                rw [okk] at hc; injection hc with e1 e2; subst e1; subst e2
                have k1 := ofRtA_ok (w := w) hG ht hx
                have k2 := runR_ok (.noPackHeld _ _) hu w
                refine put hn (by kernel_rfl) (by kernel_rfl) (by kernel_rfl) (e := Extern.ReflectliteType.method fun t => do Extern.Rtype.noPackHeld "Comparable" t; pure (.bool (← typeInfo t).comparable)) (by kernel_rfl) (x := .bool i.comparable) ?_ (.bool _)
                have e : ∀ g : TypeId → Sem Value, Extern.ReflectliteType.method g #[x'] = (do g (← Extern.ReflectliteType.ofRtype x')) := fun _ => rfl
                rw [e]
                simp only [Sem.run_bind, k1, k2, run_info hi, Result.andThen_ok, Sem.run_pure]
              · simp [no] at hc
            · rw [if_neg hn] at hc
              by_cases hn : fn.name = "internal/reflectlite.ValueOf"
              · rw [if_pos hn] at hc
                split at hc
                · rename_i t v
                  obtain ⟨x', rfl, hx⟩ := one rfl
                  obtain ⟨y, rfl, hy⟩ := hx.iface_inv
                  simp only [bind_ok] at hc
                  obtain ⟨u, hu, hc⟩ := hc
                  rw [okk] at hc; injection hc with e1 e2; subst e1; subst e2
                  have hle := Env.le_put (t := (w.heap.size, 0, y.cells.size)) (p.fresh h.next (Nat.le_refl _))
                  have hG' := hG.mono hle
                  obtain ⟨z, hz, hzv⟩ := mkVA_ok (w := wpush w (.cells y.cells t)) (η := η) (b := ⟨w.heap.size, 0, none⟩) hG' hu ⟨rfl, _, _, _, Env.put_at _ _ _, rfl⟩
                  refine ⟨ρ.put h.next (w.heap.size, 0, y.cells.size), wpush w (.cells y.cells t), ⟨z, ?_, hzv⟩, Post.new p (w' := wpush w (.cells y.cells t)) (ob := .cells y.cells t) ⟨rfl, rfl, rfl, rfl⟩ h.objs (fun _ _ hx => hx) ?_⟩
                  · rw [run_callFunc_extern hf hnm hb (look_none hn ho (by kernel_rfl) nx) (look_find hn (by kernel_rfl) (by kernel_rfl) (e := fun args => Extern.ReflectliteValue.unpack (args.getD 0 (.tuple #[]))) (by kernel_rfl))]
                    have e : Extern.ReflectliteValue.unpack (#[Value.iface t y].getD 0 (.tuple #[])) = (do Extern.ReflectliteValue.mk t (← newVar t y) 0) := rfl
                    rw [e]
                    simp only [Sem.run_bind, run_newVar, Result.andThen_ok, hz]
                  · exact CR.new ((hy.mono hle).cells hη)
                · simp [no] at hc
              · rw [if_neg hn] at hc
                by_cases hn : fn.name = "(internal/reflectlite.Value).Type"
                · rw [if_pos hn] at hc
                  split at hc
                  · obtain ⟨x', rfl, hx⟩ := one rfl
                    simp only [bind_ok] at hc
                    obtain ⟨⟨t, a', f'⟩, ht, u, hu, hc⟩ := hc
                    rw [okk] at hc; injection hc with e1 e2; subst e1; subst e2
                    obtain ⟨b, hb', k1, _⟩ := valA_ok (w := w) hG ht hx
                    obtain ⟨z, hz, hzv⟩ := rtypeA_ok (w := w) (η := η) hG hu
                    refine put hn (by kernel_rfl) (by kernel_rfl) (by kernel_rfl) (e := Extern.ReflectliteValue.methodAny (Extern.ReflectliteValue.valueError "reflectlite.Value.Type" 0) fun t _ _ _ => Extern.ReflectliteType.toType t) (by kernel_rfl) (x := z) ?_ hzv
                    have e : ∀ (g : Sem Value) (r : TypeId → Addr → Nat → Nat → Sem Value), Extern.ReflectliteValue.methodAny g r #[x'] = (do match ← Extern.ReflectliteValue.partsAny x' with | none => g | some (t, a, fl) => r t a fl (fl % 32)) := fun _ _ => rfl
                    rw [e]
                    simp only [Sem.run_bind, k1, Result.andThen_ok, hz]
                  · simp [no] at hc
                · rw [if_neg hn] at hc
                  by_cases hn : fn.name = "(internal/reflectlite.Value).IsNil"
                  · rw [if_pos hn] at hc
                    split at hc
                    · obtain ⟨x', rfl, hx⟩ := one rfl
                      simp only [bind_ok] at hc
                      obtain ⟨⟨t, a', f'⟩, ht, hc⟩ := hc
                      rw [ite_no] at hc
                      obtain ⟨hk, hc⟩ := hc
                      rw [Bool.not_eq_false] at hk
                      simp only [bind_ok] at hc
                      obtain ⟨u, hu, hc⟩ := hc
                      obtain ⟨b, hb', _, k1⟩ := valA_ok (w := w) hG ht hx
                      have k1 := k1 rfl
                      obtain ⟨z, hz, hzv⟩ := loadA_ok p.hr hu hb'
                      split at hc
                      · rw [okk] at hc; injection hc with e1 e2; subst e1; subst e2
                        have := hzv.ptr0_inv; subst this
                        refine put hn (by kernel_rfl) (by kernel_rfl) (by kernel_rfl) (e := Extern.ReflectliteValue.method (Extern.ReflectliteValue.valueError "reflectlite.Value.IsNil" 0) Extern.ReflectliteValue.isNil) (by kernel_rfl) (x := .bool true) ?_ (.bool _)
                        have e : ∀ (g : Sem Value) (r : TypeId → Addr → Nat → Nat → Sem Value), Extern.ReflectliteValue.method g r #[x'] = (do match ← Extern.ReflectliteValue.parts x' with | none => g | some (t, a, fl) => r t a fl (fl % 32)) := fun _ _ => rfl
                        rw [e]
                        simp only [Extern.ReflectliteValue.isNil, Sem.run_bind, k1, Result.andThen_ok, hk, Bool.not_true, Bool.false_eq_true, if_false, hz, Sem.run_pure]
                      · rw [okk] at hc; injection hc with e1 e2; subst e1; subst e2
                        obtain ⟨q, rfl, hq⟩ := hzv.ptr_inv
                        refine put hn (by kernel_rfl) (by kernel_rfl) (by kernel_rfl) (e := Extern.ReflectliteValue.method (Extern.ReflectliteValue.valueError "reflectlite.Value.IsNil" 0) Extern.ReflectliteValue.isNil) (by kernel_rfl) (x := .bool false) ?_ (.bool _)
                        have e : ∀ (g : Sem Value) (r : TypeId → Addr → Nat → Nat → Sem Value), Extern.ReflectliteValue.method g r #[x'] = (do match ← Extern.ReflectliteValue.parts x' with | none => g | some (t, a, fl) => r t a fl (fl % 32)) := fun _ _ => rfl
                        rw [e]
                        simp only [Extern.ReflectliteValue.isNil, Sem.run_bind, k1, Result.andThen_ok, hk, Bool.not_true, Bool.false_eq_true, if_false, hz, Sem.run_pure]
                      · simp [no] at hc
                    · simp [no] at hc
                  · rw [if_neg hn] at hc
                    by_cases hn : fn.name = "(internal/reflectlite.Value).Elem"
                    · rw [if_pos hn] at hc
                      split at hc
                      · obtain ⟨x', rfl, hx⟩ := one rfl
                        simp only [bind_ok] at hc
                        obtain ⟨⟨t, a', f'⟩, ht, hc⟩ := hc
                        rw [ite_no] at hc
                        obtain ⟨hk, hc⟩ := hc
                        have hk : f' % 32 = 22 := by simpa using hk
                        simp only [bind_ok] at hc
                        obtain ⟨u, hu, o, hel, hc⟩ := hc
                        obtain ⟨b, hb', _, k1⟩ := valA_ok (w := w) hG ht hx
                        have k1 := k1 rfl
                        obtain ⟨z, hz, hzv⟩ := loadA_ok p.hr hu hb'
                        have k2 := runR_ok (.elem _) hel w
                        split at hc
                        · simp only [bind_ok] at hc
                          obtain ⟨v2, hv2, hc⟩ := hc
                          rw [okk] at hc; injection hc with e1 e2; subst e1; subst e2
                          obtain ⟨q, rfl, hq⟩ := hzv.ptr_inv
                          obtain ⟨z2, hz2, hzv2⟩ := mkVA_ok (w := w) (η := η) hG hv2 hq
                          refine put hn (by kernel_rfl) (by kernel_rfl) (by kernel_rfl) (e := Extern.ReflectliteValue.method (Extern.ReflectliteValue.valueError "reflectlite.Value.Elem" 0) Extern.ReflectliteValue.elem) (by kernel_rfl) (x := z2) ?_ hzv2
                          have e : ∀ (g : Sem Value) (r : TypeId → Addr → Nat → Nat → Sem Value), Extern.ReflectliteValue.method g r #[x'] = (do match ← Extern.ReflectliteValue.parts x' with | none => g | some (t, a, fl) => r t a fl (fl % 32)) := fun _ _ => rfl
                          rw [e]
                          simp only [Extern.ReflectliteValue.elem, Sem.run_bind, k1, Result.andThen_ok, hk]
                          rw [if_neg (by decide)]
                          simp only [Sem.run_bind, hz, k2, Result.andThen_ok]
                          exact hz2
                        · simp [no] at hc
                      · simp [no] at hc
                    · rw [if_neg hn] at hc
                      by_cases hn : fn.name = "(internal/reflectlite.Value).Set"
                      · rw [if_pos hn] at hc
                        split at hc
                        · obtain ⟨x', y', rfl, hx, hy⟩ := two rfl
                          simp only [bind_ok] at hc
                          obtain ⟨⟨t, a', f'⟩, ht, ⟨t2, a2, f2⟩, ht2, hc⟩ := hc
                          rw [ite_no] at hc
                          obtain ⟨hk, hc⟩ := hc
                          simp only [bind_ok] at hc
                          obtain ⟨u, hu, bb, hbb, hc⟩ := hc
                          rw [ite_no] at hc
                          obtain ⟨hbt, hc⟩ := hc
                          rw [Bool.not_eq_false] at hbt
                          subst hbt
                          simp only [bind_ok] at hc
                          obtain ⟨h2, hst, hc⟩ := hc
                          rw [okk] at hc; injection hc with e1 e2; subst e1; subst e2
                          obtain ⟨b, hb', _, k1⟩ := valA_ok (w := w) hG ht hx
                          obtain ⟨b2, hb2', _, k2⟩ := valA_ok (w := w) hG ht2 hy
                          have k1 := k1 rfl
                          have k2 := k2 rfl
                          obtain ⟨z, hz, hzv⟩ := loadA_ok p.hr hu hb2'
                          have k3 := runR_ok (.direct _ _) hbb w
                          simp only [storeA, bind_ok] at hst
                          obtain ⟨n, hn2, hst⟩ := hst
                          rw [ite_no] at hst
                          obtain ⟨hlen, hst⟩ := hst
                          have hcl := hzv.cells hη
                          obtain ⟨w', hw', hp⟩ := storeC_ok (P := P) hη p hst hb' hcl
                          have hsz : z.cells.size = n := by
                            have e1 := hcl.len
                            have e2 : z.cells.size = z.cells.toList.length := rfl
                            omega
                          refine ⟨ρ, w', ⟨.tuple #[], ?_, .tup' .nil⟩, hp⟩
                          rw [run_callFunc_extern hf hnm hb (look_none hn ho (by kernel_rfl) nx) (look_find hn (by kernel_rfl) (by kernel_rfl) (e := Extern.ReflectliteValue.set) (by kernel_rfl))]
                          have e : Extern.ReflectliteValue.set #[x', y'] = (do
                            let (some (dst, a, fl), some (src, b, _)) := (← Extern.ReflectliteValue.parts x', ← Extern.ReflectliteValue.parts y')
                              | unsupported (.noEntry "extern/(internal/reflectlite.Value).Set.zeroValue")
                            if fl / Extern.ReflectliteValue.flagAddr % 2 == 0 then unsupported (.noEntry "extern/(internal/reflectlite.Value).Set.unaddressable")
                            let val ← loadVar src b
                            if ← Extern.Rtype.directlyAssignable dst src then storeVar dst a val
                            else if ← Extern.Rtype.implements dst src then
                              if (← Extern.Rtype.kind src) == 20 then
                                match val with
                                | .nilIface => unsupported (.noEntry "extern/reflectlite: a nil value of one interface type handed on as a value of another")
                                | _ => storeVar dst a val
                              else storeVar dst a (.iface src val)
                            else panicString ("reflectlite.Set: value of type " ++ (← Extern.Rtype.spelt src) ++ " is not assignable to type " ++ (← Extern.Rtype.spelt dst))
                            pure (.tuple #[])) := rfl
                          have hfl : (f' / Extern.ReflectliteValue.flagAddr % 2 == 0) = false := by
                            unfold Extern.ReflectliteValue.flagAddr
                            cases hq : f' / 256 % 2 == 0 with
                            | false => rfl
                            | true => exact absurd (beq_iff_eq.1 hq) hk
                          rw [e]
                          simp only [Sem.run_bind, k1, k2, Result.andThen_ok, hfl, Bool.false_eq_true, if_false, hz, k3, if_true, storeVar, run_size hn2, Sem.run_pure]
                          rw [if_neg (by omega)]
                          simp only [Sem.run_bind, hw', Result.andThen_ok, Sem.run_pure]
                        · simp [no] at hc
                      · rw [if_neg hn] at hc; simp [no] at hc
theorem run_lb {l vs : List Value} (hl : LR η ρ l vs) : ∀ {bs : List UInt8}, bytesOf l = .ok bs → ∀ (a : Addr) (acc : ByteArray), a.spot = none → (∀ (j : Nat) (v : Value), vs[j]? = some v → w.cell? (a.add j) = some v) → (Extern.Bytes.loadBytes a l.length acc).run P w = .ok ⟨⟨acc.data.toList ++ bs⟩⟩ w := by
  induction l generalizing vs with
  | nil =>
    intro bs hb a acc _ _
    simp only [bytesOf, okk] at hb; subst hb
    simp only [List.length_nil, Extern.Bytes.loadBytes, Sem.run_pure, List.append_nil]
  | cons v l ih =>
    intro bs hb a acc ha hc
    obtain ⟨x, m, rfl, hx, hm⟩ := hl.inv_cons
    unfold bytesOf at hb
    split at hb
    · rename_i e; cases e
    · rename_i n r e
      injection e with e1 e2; subst e1; subst e2
      have := hx.int_inv; subst this
      split at hb
      · rename_i l' hl'
        rw [okk] at hb; subst hb
        have h0 := hc 0 _ rfl
        have hz : a.add 0 = a := by simp [Addr.add]
        rw [hz] at h0
        have k := ih hm hl' (a.add 1) (acc.push n.toNat.toUInt8) (by rw [add_eq ha]) (fun j v hj => by
          have := hc (j + 1) v (by simpa using hj)
          rw [add_eq ha, add_eq rfl]
          rw [add_eq ha] at this
          rw [show a.off + 1 + j = a.off + (j + 1) by omega]; exact this)
        simp only [List.length_cons, Extern.Bytes.loadBytes, Sem.run_bind, run_load, h0, Result.andThen_ok]
        rw [k]
        congr 1
        apply byteArray_ext
        simp [ByteArray.push]
      · cases hb
    · simp [no] at hb
theorem run_indexByte_any {x : Value} {s : ByteArray} {c : Int} (hb : (Extern.Bytes.bytesOf x).run P w = .ok s w) : (Extern.BytealgIndexByte.indexByte #[x, .int .u8 c]).run P w = .ok (.int .i64 (firstIdx s c.toNat.toUInt8)) w := by
  change Sem.run P (do
    let b ← Extern.Bytes.bytesOf x
    let c' ← Extern.Bytes.asByte (.int .u8 c)
    match (List.range b.size).find? fun i => b[i]! == c' with
    | some i => pure (goInt i)
    | none => pure (goInt (-1))) w = _
  simp only [Sem.run_bind, hb, Extern.Bytes.asByte, firstIdx, Sem.run_pure, Result.andThen]
  generalize (List.range s.size).find? (fun i => s[i]! == c.toNat.toUInt8) = r
  cases r <;> rfl
theorem externA_ok (hη : OneCells η) (p : Pre η P ρ B h w) {f : FuncId} {fn : Func} {args : List Value} {args' : Array Value} {a : AN} {h' : AH} (hf : P.funcs[f]? = some fn) (hnm : (fn.name == "runtime.NumGoroutine") = false) (hb : fn.body.isNone = true) (hc : externA P h fn args = .ok (a, h')) (hl : LR η ρ args args'.toList) :
    Eff η P ρ B h w (callFunc f args') a h' := by
  have one : ∀ {x : Value}, args = [x] → ∃ x', args' = #[x'] ∧ VR η ρ x x' := by
    intro x e; subst e
    obtain ⟨x', m, hm, hx, hm'⟩ := hl.inv_cons
    have := hm'.inv_nil; subst this
    exact ⟨x', by rw [← Array.toArray_toList (xs := args'), hm], hx⟩
  have two : ∀ {x y : Value}, args = [x, y] → ∃ x' y', args' = #[x', y'] ∧ VR η ρ x x' ∧ VR η ρ y y' := by
    intro x y e; subst e
    obtain ⟨x', m, hm, hx, hm'⟩ := hl.inv_cons
    obtain ⟨y', m2, hm2, hy, hm2'⟩ := hm'.inv_cons
    have := hm2'.inv_nil; subst this; subst hm2
    exact ⟨x', y', by rw [← Array.toArray_toList (xs := args'), hm], hx, hy⟩
  unfold externA at hc
  rw [ite_no] at hc
  obtain ⟨ho, hc⟩ := hc
  rw [Bool.not_eq_false] at ho
  have nx : (Extern.allNextRows.lookup "").isNone = true := by kernel_rfl
  split at hc
  · rename_i hn
    split at hc
    · rename_i x
      obtain ⟨x', rfl, hx⟩ := one rfl
      rw [okk] at hc; injection hc with e1 e2; subst e1; subst e2
      refine Eff.reader p ⟨x', ?_, hx⟩
      rw [run_callFunc_extern hf hnm hb (look_none hn ho (by kernel_rfl) nx) (look_find hn (by kernel_rfl) (by kernel_rfl) (e := Extern.AbiNoEscape.same) (by rfl))]
      rfl
    · simp [no] at hc
  · split at hc
    · rename_i hn
      split at hc
      · rename_i s c
        obtain ⟨x', y', rfl, hx, hy⟩ := two rfl
        have := hx.string_inv; have := hy.int_inv; subst_vars
        rw [okk] at hc; injection hc with e1 e2; subst e1; subst e2
        refine Eff.reader p ⟨_, ?_, .int _ _⟩
        rw [run_callFunc_extern hf hnm hb (look_none hn ho (by kernel_rfl) nx) (look_find hn (by kernel_rfl) (by kernel_rfl) (e := Extern.BytealgIndexByte.indexByte) (by rfl))]
        rw [run_indexByte_string]; rfl
      · simp [no] at hc
    · split at hc
      · rename_i hn
        split at hc
        · rename_i ad n c0 c
          simp only [bind_ok] at hc
          obtain ⟨cs, hcs, bs, hbs, hc⟩ := hc
          rw [okk] at hc; injection hc with e1 e2; subst e1; subst e2
          obtain ⟨x', y', rfl, hx, hy⟩ := two rfl
          have := hy.int_inv; subst this
          obtain ⟨a', c', rfl, hcc⟩ := hx.slice_inv3 (.inl rfl)
          obtain ⟨q, rfl, hq⟩ : ∃ q, a' = some q ∧ AdR ρ ad q := by
            rcases hcc with ⟨e, _⟩ | ⟨_, q, e, e', hq, _⟩ | ⟨_, q, _, _, _, _, e, e', hq, _⟩
            · cases e
            · cases e; exact ⟨q, e', hq⟩
            · cases e; exact ⟨q, e', hq⟩
          obtain ⟨vs, h1, h2, h3⟩ := getC_ok p.hr hcs hq
          obtain ⟨_, n', blk, d', h5, rfl⟩ := hq
          have hlen : cs.length = n := by rw [← h2, h1.len]
          have hlb := run_lb (P := P) (w := w) h1 hbs ⟨blk, d' + ad.off, none⟩ .empty rfl h3
          rw [hlen] at hlb
          refine Eff.reader p ⟨_, ?_, .int _ _⟩
          rw [run_callFunc_extern hf hnm hb (look_none hn ho (by kernel_rfl) nx) (look_find hn (by kernel_rfl) (by kernel_rfl) (e := Extern.BytealgIndexByte.indexByte) (by rfl))]
          have hbo : (Extern.Bytes.bytesOf (.slice (some ⟨blk, d' + ad.off, none⟩) n c')).run P w = .ok ⟨⟨bs⟩⟩ w := by
            show (Extern.Bytes.loadBytes ⟨blk, d' + ad.off, none⟩ n .empty).run P w = _
            rw [hlb]; rfl
          rw [run_indexByte_any hbo]; rfl
        · simp [no] at hc
      · split at hc
        · rename_i hn
          split at hc
          · rename_i s c
            obtain ⟨x', y', rfl, hx, hy⟩ := two rfl
            have := hx.string_inv; have := hy.int_inv; subst_vars
            rw [okk] at hc; injection hc with e1 e2; subst e1; subst e2
            refine Eff.reader p ⟨_, ?_, .int _ _⟩
            rw [run_callFunc_extern hf hnm hb (look_none hn ho (by kernel_rfl) nx) (look_find hn (by kernel_rfl) (by kernel_rfl) (e := Extern.BytealgCount.count) (by rfl))]
            rfl
          · simp [no] at hc
        · split at hc
          · rename_i hn
            split at hc
            · rename_i n t hres
              simp only [bind_ok, undA_ok] at hc
              obtain ⟨d, hd, hc⟩ := hc
              split at hc
              · rename_i e
                rw [ite_no, okk] at hc
                obtain ⟨hr, hc⟩ := hc
                injection hc with e1 e2; subst e1; subst e2
                have hargs : args' = #[.int .i64 n] := by
                  obtain ⟨x', h1, h2⟩ := one rfl
                  rw [h1, h2.int_inv]
                subst hargs
                have hr0 : fn.resultTypes[0]? = some t := by rw [← Array.getElem?_toList, hres]; rfl
                generalize hq : (Question.appendCap n.toNat 0 e).cut (w.tape w.drawn (Question.appendCap n.toNat 0 e)) = cap
                have hcap : n.toNat ≤ cap := by rw [← hq]; simp only [Question.cut]; omega
                have hcb : cap < capB := by
                  rw [← hq]; simp only [Question.cut]; unfold capB
                  have := Nat.mod_lt (w.tape w.drawn (Question.appendCap n.toNat 0 e)) (show 0 < 2 ^ 63 - n.toNat by omega)
                  omega
                have hch : (choose (.appendCap n.toNat 0 e)).run P w = .ok cap { w with drawn := w.drawn + 1 } := by
                  rw [run_choose, hq]; simp [Question.forced]
                obtain ⟨by_, w2, hch2, hw2h, hw2o, hw2t, hw2p⟩ : ∃ by_ w2, (choose (.extern "internal/bytealg.MakeNoZero.bytes" 0)).run P { w with drawn := w.drawn + 1 } = .ok by_ w2 ∧ w2.heap = w.heap ∧ w2.os = w.os ∧ w2.tape = w.tape ∧ w2.output = w.output := by
                  rw [run_choose]
                  simp only [Question.forced]
                  exact ⟨_, _, rfl, rfl, rfl, rfl, rfl⟩
                obtain ⟨C, hC⟩ : ∃ C : Array Value, Extern.BytealgMakeNoZero.digits cap by_ #[] = C := ⟨_, rfl⟩
                have hCs : C.size = cap := by rw [← hC, digits_len]; simp
                have hrun : (Extern.BytealgMakeNoZero.makeNoZero fn.params fn.resultTypes #[.int .i64 n]).run P w = .ok (.slice (some ⟨w.heap.size, 0, none⟩) n.toNat cap) (wpush w2 (.cells C e)) := by
                  have hdef : Extern.BytealgMakeNoZero.makeNoZero fn.params fn.resultTypes #[.int .i64 n] = (do
                    let some t := fn.resultTypes[0]? | stuck "bytealg.MakeNoZero: no result type"
                    let .slice elem ← underlying t | stuck "bytealg.MakeNoZero: slice type expected"
                    if n < 0 || n > 2 ^ 48 then runtimePanic (.error "makeslice: len out of range")
                    let cap ← choose (.appendCap n.toNat 0 elem)
                    askRoom cap
                    let bytes ← choose (.extern "internal/bytealg.MakeNoZero.bytes" 0)
                    let a ← newRow elem (Extern.BytealgMakeNoZero.digits cap bytes #[])
                    pure (.slice (some a) n.toNat cap)) := rfl
                  rw [hdef, hr0]
                  simp only [Sem.run_bind, run_und hd, Result.andThen_ok]
                  rw [if_neg (by simp only [Bool.or_eq_true, decide_eq_true_eq]; omega)]
                  simp only [Sem.run_bind, Sem.run_pure, hch, run_askRoom, hch2, Result.andThen_ok, hC, run_newRow, hw2h]
                have hle := Env.le_put (t := (w.heap.size, 0, cap)) (p.fresh h.next (Nat.le_refl _))
                refine ⟨ρ.put h.next (w.heap.size, 0, cap), wpush w2 (.cells C e), ⟨.slice (some ⟨w.heap.size, 0, none⟩) n.toNat cap, ?_, ?_⟩, Post.new p (w' := wpush w2 (.cells C e)) (ob := .cells C e) ⟨(show (w2.heap.push (.cells C e)) = w.heap.push (.cells C e) by rw [hw2h]), hw2o, hw2t, hw2p⟩ h.objs (fun _ _ hx => hx) ?_⟩
                · rw [run_callFunc_extern hf hnm hb (look_none hn ho (by kernel_rfl) nx) (look_typed hn (by kernel_rfl) (e := Extern.BytealgMakeNoZero.makeNoZero) (by rfl)), hrun]
                  rfl
                · have := VR.sliceU (η := η) (ρ := ρ.put h.next (w.heap.size, 0, cap)) (o := 0) n.toNat 1 cap (Env.put_at _ _ _) (by omega) (by omega) hcap hcb
                  exact this
                · refine ⟨C, e, 0, 0, rfl, ⟨rfl, ?_, by simp, fun i v hv => by simp at hv, (fun h => absurd h (by decide)), (fun _ i _ hh => by omega)⟩⟩
                  have : C.toList.length = C.size := rfl
                  omega
              · simp [no] at hc
            · simp [no] at hc
          · exact reflectA_ok hη p hf hnm hb ho hc hl
theorem callF_ok (hη : OneCells η) (p : Pre η P ρ B h w) {f : FuncId} {args : List Value} {args' : Array Value} {a : AN} {h' : AH} (hc : callF P h f args = .ok (a, h')) (hl : LR η ρ args args'.toList) : Eff η P ρ B h w (callFunc f args') a h' := by
  unfold callF at hc
  split at hc
  · simp [no] at hc
  · rename_i fn hfn
    rw [ite_no] at hc
    obtain ⟨hnm, hc⟩ := hc
    have hb2 : (fn.name == "runtime.NumGoroutine") = false := by cases h : fn.name == "runtime.NumGoroutine" <;> simp_all
    split at hc
    · rename_i hb
      exact externA_ok hη p hfn hb2 hb hc hl
    · rename_i hb
      rw [okk] at hc; injection hc with e1 e2; subst e1; subst e2
      have hb1 : fn.body.isNone = false := by rw [Bool.not_eq_true] at hb; exact hb
      refine Eff.reader p ⟨args', ?_, hl⟩
      simp only [callFunc, Sem.run_bind, run_program, Result.andThen_ok, hfn, hb1, hb2, Bool.false_eq_true, if_false, Sem.run_pure]
theorem callMeth_ok (hη : OneCells η) (p : Pre η P ρ B h w) {recv recv' : Value} {name : String} {args : List Value} {args' : Array Value} {a : AN} {h' : AH} (hc : callMeth P h recv name args = .ok (a, h')) (hr : VR η ρ recv recv') (hl : LR η ρ args args'.toList) :
    Eff η P ρ B h w (callMethod recv' name args') a h' := by
  unfold callMeth at hc
  split at hc
  · obtain ⟨u, rfl, hu⟩ := hr.iface_inv
    simp only [bind_ok] at hc
    obtain ⟨⟨f, r⟩, hm, hc⟩ := hc
    obtain ⟨r', hr', hrr⟩ := methodA_ok p.hr hm hu
    obtain ⟨ρ', w', k1, k2⟩ := callF_ok hη p (args' := #[r'] ++ args') hc (by simpa using LR.cons hrr hl)
    exact ⟨ρ', w', by simp only [callMethod, Sem.run_bind, run_program, Result.andThen_ok, hr']; exact k1, k2⟩
  · simp [no] at hc
theorem putParams_ok : ∀ {ps : List Tmp} {args args' : List Value} {tm tm2 : T Value} {n : Nat} {tmps : Array Value}, putParams n ps args tm = .ok tm2 → LR η ρ args args' → TR η ρ tm n tmps →
    TR η ρ tm2 n ((ps.zip args').foldl (fun tmps (x : Tmp × Value) => tmps.setIfInBounds x.1 x.2) tmps)
  | [], args, args', tm, tm2, n, tmps, hp, hl, ht => by
    cases args <;> (simp only [putParams, okk] at hp; subst hp; simpa using ht)
  | t :: ps, [], args', tm, tm2, n, tmps, hp, hl, ht => by
    have := hl.inv_nil; subst this
    simp only [putParams, okk] at hp; subst hp
    simpa using ht
  | t :: ps, v :: vs, args', tm, tm2, n, tmps, hp, hl, ht => by
    obtain ⟨x, m, rfl, hx, hm⟩ := hl.inv_cons
    simp only [putParams] at hp
    rw [ite_no'] at hp
    obtain ⟨hlt, hp⟩ := hp
    rw [List.zip_cons_cons, List.foldl_cons]
    refine putParams_ok hp hm ⟨by simp [ht.1], ?_, ?_⟩
    · intro s hs
      rw [T.get_set, if_neg (fun e => by subst e; exact absurd hlt (Nat.not_lt.2 hs))]
      exact ht.2.1 s hs
    · intro s hs
      rw [T.get_set]
      by_cases e : s = t
      · subst e
        rw [if_pos rfl]
        have hsz : s < tmps.size := by rw [ht.1]; exact hs
        simp only [Option.getD_some]
        rw [Array.getD_eq_getD_getElem?, Array.getElem?_setIfInBounds_self_of_lt hsz]
        exact hx
      · rw [if_neg e]
        rw [Array.getD_eq_getD_getElem?, Array.getElem?_setIfInBounds_ne (fun h => e h.symm), ← Array.getD_eq_getD_getElem?]
        exact ht.2.2 s hs
theorem freeze_eq {b off n lo hi : Nat} {C : Array Value} {ty : TypeId} (hb : w.heap[b]? = some (.cells C ty (lo, hi))) (hn : n ≠ 0) :
    w.freeze ⟨b, off, none⟩ n = wput w b (.cells C ty (if lo == hi then (off, off + n) else (min lo off, max hi (off + n)))) := by
  unfold World.freeze wput
  rw [if_neg hn]
  congr 1
  apply Array.ext_getElem?
  intro k
  rw [Array.getElem?_modify, Array.getElem?_setIfInBounds]
  by_cases h : b = k
  · subst h
    rw [if_pos rfl, if_pos rfl, hb, if_pos (heap_lt hb)]
    rfl
  · rw [if_neg h, if_neg h]
theorem bytesOf_cells : ∀ {l : List Value} {bs : List UInt8} {vs : List Value}, bytesOf l = .ok bs → LR η ρ l vs → bs.length = l.length ∧ ∀ (j : Nat) (u : UInt8), bs[j]? = some u → ∃ n, vs[j]? = some (.int .u8 n) ∧ u = UInt8.ofNat n.toNat
  | [], bs, vs, hb, hl => by simp only [bytesOf, okk] at hb; subst hb; exact ⟨rfl, fun j u h => by simp at h⟩
  | v :: l, bs, vs, hb, hl => by
    obtain ⟨x, m, rfl, hx, hm⟩ := hl.inv_cons
    unfold bytesOf at hb
    split at hb
    · rename_i e; cases e
    · rename_i n r e
      injection e with e1 e2; subst e1; subst e2
      have := hx.int_inv; subst this
      split at hb
      · rename_i l' hl'
        rw [okk] at hb; subst hb
        obtain ⟨i1, i2⟩ := bytesOf_cells hl' hm
        refine ⟨by simp [i1], fun j u hj => ?_⟩
        cases j with
        | zero => simp at hj; subst hj; exact ⟨n, rfl, rfl⟩
        | succ j => simp at hj; simpa using i2 j u hj
      · cases hb
    · simp [no] at hb
end
end Go.Ev

namespace Go.Ev
set_option linter.unusedVariables false
set_option linter.unusedSimpArgs false
variable {η : Nat → Value}
section
variable {P : Program} {ρ : Env} {B : Bd} {h : AH} {w : World}
theorem add_add {a : Addr} (h : a.spot = none) (i j : Nat) : (a.add i).add j = a.add (i + j) := by
  rw [add_eq h, add_eq rfl, add_eq h, Nat.add_assoc]
theorem run_loadBytes' : ∀ (bs : List UInt8) (vs : List Value) (a : Addr) (acc : ByteArray), a.spot = none → (∀ (j : Nat) (u : UInt8), bs[j]? = some u → ∃ n : Int, vs[j]? = some (Value.int .u8 n) ∧ u = UInt8.ofNat n.toNat) → (∀ (j : Nat) (v : Value), vs[j]? = some v → w.cell? (a.add j) = some v) →
    (loadBytes a acc bs.length).run P w = .ok ⟨⟨acc.data.toList ++ bs⟩⟩ w
  | [], vs, a, acc, _, _, _ => by
    simp only [List.length_nil, loadBytes, Sem.run_pure, List.append_nil]
  | u :: bs, vs, a, acc, ha, hb, hc => by
    obtain ⟨n, hn, hu⟩ := hb 0 u rfl
    have h0 := hc 0 _ hn
    have hz : a.add 0 = a := by simp [Addr.add]
    rw [hz] at h0
    have ih := run_loadBytes' bs (vs.drop 1) (a.add 1) (acc.push n.toNat.toUInt8) (by rw [add_eq ha]) (fun j x hj => by
      obtain ⟨m, hm, hx⟩ := hb (j + 1) x (by simpa using hj)
      exact ⟨m, by rw [List.getElem?_drop, Nat.add_comm]; exact hm, hx⟩) (fun j v hj => by
      rw [List.getElem?_drop] at hj
      have := hc _ v hj
      rw [add_add ha]; exact this)
    simp only [List.length_cons, loadBytes, Sem.run_bind, run_load, h0, Result.andThen_ok]
    rw [ih]
    congr 1
    apply byteArray_ext
    simp [ByteArray.push, hu]
theorem unsafeS_ok (p : Pre η P ρ B h w) {pt : TypeId} {ts : List TypeId} {type : TypeId} {a : Addr} {q : Addr} {lk : IntKind} {n : Int} {v : AN} {h' : AH} (hq : AdR ρ a q) (h0 : ¬ (n < 0 ∨ n > 1000000)) (hn0 : ¬ n = 0)
    (hs : (do
      let (ty, c, _, own) ← cellsAt h a.block
      if own = 0 then no "unsafe.String: not own" else
      match ← undA P pt, P.underlying ty with
      | .pointer e, some (.int .u8) =>
        if e ≠ ty ∨ P.cellsOf ty ≠ 1 then no "unsafe.String: type" else do
        let l ← bytesOf (← getC h a n.toNat)
        .ok (.value (strL l), putA h a.block (.cells ty c false 1))
      | _, _ => no "unsafe.String: type" : M (AN × AH)) = .ok (v, h')) :
    ∃ l w', v = .value (strL l) ∧ (Builtin.unsafeString_ ⟨pt :: ts⟩ type #[.pointer (some q), .int lk n]).run P w = .ok (strL l) w' ∧ Post η ρ B h w ρ h' w' := by
  simp only [bind_ok] at hs
  obtain ⟨⟨ty, c, pl, own⟩, hcell, hs⟩ := hs
  simp only [ite_no] at hs
  obtain ⟨hown, hs⟩ := hs
  simp only [bind_ok, undA_ok] at hs
  obtain ⟨d, hd, hs⟩ := hs
  split at hs
  · rename_i e hty
    simp only [ite_no] at hs
    obtain ⟨hes, hs⟩ := hs
    simp only [not_or, Decidable.not_not] at hes
    obtain ⟨rfl, hc1⟩ := hes
    simp only [bind_ok] at hs
    obtain ⟨l, hl, bs, hb, hs⟩ := hs
    rw [okk] at hs; injection hs with e1 e2; subst e1; subst e2
    have hg := cellsAt_ok.1 hcell
    simp only [] at hg
    obtain ⟨b, dd, nn, C, lo, hi, h1, h2, h3, h4⟩ := p.hr.cells hg
    obtain ⟨vs, k1, k2, k3⟩ := getC_ok p.hr hl hq
    obtain ⟨hsp, n', b', d', h5, rfl⟩ := hq
    rw [h1] at h5; cases h5
    obtain ⟨m1, m2⟩ := bytesOf_cells hb k1
    have hbl : bs.length = n.toNat := by rw [m1, k1.len, k2]
    have hload := run_loadBytes' (P := P) (w := w) bs vs ⟨b, dd + a.off, none⟩ .empty rfl m2 k3
    rw [hbl] at hload
    have hsz : C.toList.length = dd + nn := h3.size
    have hcl : c.length ≤ nn := h3.len
    -- the cells are there
    have hin : a.off + n.toNat ≤ c.length := by
      unfold getC at hl
      rw [hcell] at hl
      simp only [ite_no'] at hl
      exact hl.1.1
    have hCs : C.size = dd + nn := hsz
    have hlies := liesAt_off (P := P) hc1 (C.size / P.cellsOf e) (dd + a.off) n.toNat (by rw [hc1, Nat.div_one]; omega)
    refine ⟨bs, wput w b (.cells C e (if lo == hi then (dd + a.off, dd + a.off + n.toNat) else (min lo (dd + a.off), max hi (dd + a.off + n.toNat)))), rfl, ?_, ?_⟩
    · have hdef : Builtin.unsafeString_ ⟨pt :: ts⟩ type #[.pointer (some ⟨b, dd + a.off, none⟩), .int lk n] =
        (do
          let n ← asInt (.int lk n)
          if n < 0 then runtimePanic (.error "unsafe.String: len out of range")
          if n > IntKind.i64.max then unsupported (.unsafePointer "String: a length above the largest int")
          if n = 0 then pure (.string .empty)
          else if ← variablesAt ⟨b, dd + a.off, none⟩ (← elemOf pt) n.toNat then do
            let s ← loadBytes ⟨b, dd + a.off, none⟩ .empty n.toNat
            freeze ⟨b, dd + a.off, none⟩ n.toNat
            pure (.string s)
          else unsupported (.unsafePointer "String: not so many bytes at ptr")) := rfl
      rw [hdef]
      have hmax : IntKind.i64.max = 9223372036854775807 := by decide
      have hsh : w.shape? b = some (e, C.size) := by simp only [World.shape?, h2]
      simp only [asInt, Sem.run_bind, run_asIntOf, Sem.run_pure, Result.andThen_ok, hmax]
      rw [if_neg (by omega)]
      rw [if_neg (by omega)]
      rw [if_neg hn0]
      have hel : (elemOf pt).run P w = .ok e w := by simp only [elemOf, Sem.run_bind, run_und hd, Result.andThen_ok, Sem.run_pure]
      have hva : (variablesAt ⟨b, dd + a.off, none⟩ e n.toNat).run P w = .ok true w := by
        simp only [variablesAt, Sem.run_bind, run_program, Result.andThen_ok, run_shape, hsh, Sem.run_pure, hlies]
      simp only [Sem.run_bind, hel, Result.andThen_ok, hva, if_true, hload, run_freeze, Sem.run_pure]
      rw [freeze_eq h2 (by omega)]
      rfl
    · refine Post.put p hg ?_ h1 rfl ⟨C, e, _, _, rfl, ⟨rfl, hsz, hcl, h3.at_, (fun h => by cases h), (fun h => by cases h)⟩⟩
      simp [ownO, hown]
  · simp [no] at hs
theorem two_args {a b : Value} {args' : Array Value} (h : LR η ρ [a, b] args'.toList) : ∃ a' b', args' = #[a', b'] ∧ VR η ρ a a' ∧ VR η ρ b b' := by
  obtain ⟨a', m1, hm1, ha, hr1⟩ := h.inv_cons
  obtain ⟨b', m2, hm2, hb, hr2⟩ := hr1.inv_cons
  have := hr2.inv_nil; subst this; subst hm2
  exact ⟨a', b', by rw [← Array.toArray_toList (xs := args'), hm1], ha, hb⟩
theorem one_arg {a : Value} {args' : Array Value} (h : LR η ρ [a] args'.toList) : ∃ a', args' = #[a'] ∧ VR η ρ a a' := by
  obtain ⟨a', m1, hm1, ha, hr1⟩ := h.inv_cons
  have := hr1.inv_nil; subst this
  exact ⟨a', by rw [← Array.toArray_toList (xs := args'), hm1], ha⟩
theorem Eff.val {s : Sem Value} {v : Value} {h' : AH} (hh : ∃ ρ' x w', s.run P w = .ok x w' ∧ VR η ρ' v x ∧ Post η ρ B h w ρ' h' w') : Eff η P ρ B h w (do pure (.value (← s))) (.value v) h' := by
  obtain ⟨ρ', x, w', h1, h2, h3⟩ := hh
  exact ⟨ρ', w', ⟨x, by simp only [Sem.run_bind, h1, Result.andThen_ok, Sem.run_pure], h2⟩, h3⟩
theorem builtinA_ok (hη : OneCells η) (p : Pre η P ρ B h w) {b : Builtin} {ts : Array TypeId} {type : TypeId} {cs : Array Bool} {args : List Value} {args' : Array Value} {a : AN} {h' : AH} (hb : builtinA P h b ts.toList args = .ok (a, h')) (hl : LR η ρ args args'.toList) :
    Eff η P ρ B h w (builtin b ts type cs args') a h' := by
  obtain ⟨ts⟩ := ts
  simp only [] at hb
  have head : ¬ (ts.isEmpty = true) → ∃ t ts', ts = t :: ts' := by
    intro hne
    cases ts with
    | nil => simp at hne
    | cons t ts' => exact ⟨_, _, rfl⟩
  unfold builtinA at hb
  split at hb
  · simp only [bind_ok] at hb
    obtain ⟨⟨v, h1⟩, ha, hb⟩ := hb
    rw [okk] at hb; injection hb with e1 e2; subst e1; subst e2
    exact Eff.val (appendA_ok hη p ha hl)
  · rename_i dst src
    obtain ⟨d', s', rfl, hd, hs⟩ := two_args hl
    rw [ite_no] at hb
    obtain ⟨hne, hb⟩ := hb
    have hts : ts ≠ [] := fun e => hne (by rw [e]; rfl)
    have hc : ∃ v, a = .value v ∧ (do
      match ← undA P (ts.headD 0), dst with
      | .slice elem, .slice base dLen cap => do
        if base.isNone = true ∧ isE cap = true then no "copy: no row" else
        let n := Nat.min (← lenA src) dLen
        let size ← sizeA P elem
        let cs ← firstA h size n src
        match base with
        | some a => do let h ← storeC h a cs; .ok (goInt n, h)
        | none => .ok (goInt n, h)
      | _, _ => no "copy" : M (Value × AH)) = .ok (v, h') := by
      simp only [bind_ok] at hb ⊢
      obtain ⟨d0, hd0, hb⟩ := hb
      split at hb
      · rw [ite_no] at hb
        obtain ⟨hcE, hb⟩ := hb
        simp only [bind_ok] at hb
        obtain ⟨n, hn, sz, hsz, c, hc, hb⟩ := hb
        split at hb
        · simp only [bind_ok] at hb
          obtain ⟨h1, hst, hb⟩ := hb
          rw [okk] at hb; injection hb with e1 e2; subst e1; subst e2
          exact ⟨_, rfl, _, hd0, by simp only [if_neg hcE, bind_ok]; exact ⟨n, hn, sz, hsz, c, hc, h1, hst, rfl⟩⟩
        · rw [okk] at hb; injection hb with e1 e2; subst e1; subst e2
          exact ⟨_, rfl, _, hd0, by simp only [if_neg hcE, bind_ok]; exact ⟨n, hn, sz, hsz, c, hc, rfl⟩⟩
      · simp [no] at hb
    obtain ⟨v, rfl, hc⟩ := hc
    obtain ⟨x, w', h1, h2, h3⟩ := copyA_ok (type := type) hη p hc hts hd hs
    exact Eff.val ⟨ρ, x, w', h1, h2, h3⟩
  · rename_i m k
    obtain ⟨m', k', rfl, hm, hk⟩ := two_args hl
    rw [ite_no] at hb
    obtain ⟨hne, hb⟩ := hb
    obtain ⟨t, ts', rfl⟩ := head hne
    simp only [bind_ok, List.headD_cons] at hb
    obtain ⟨h1, hd, hb⟩ := hb
    rw [okk] at hb; injection hb with e1 e2; subst e1; subst e2
    obtain ⟨w', hw, hp⟩ := deleteA_ok (ts := ts') (type := type) p hd hm hk
    exact Eff.val ⟨ρ, _, w', hw, .tup' .nil, hp⟩
  · rename_i x
    obtain ⟨x', rfl, hx⟩ := one_arg hl
    rw [ite_no] at hb
    obtain ⟨hne, hb⟩ := hb
    obtain ⟨t, ts', rfl⟩ := head hne
    simp only [bind_ok, List.headD_cons] at hb
    obtain ⟨h1, hd, hb⟩ := hb
    rw [okk] at hb; injection hb with e1 e2; subst e1; subst e2
    obtain ⟨w', hw, hp⟩ := clearA_ok (ts := ts') (type := type) hη p hd hx
    exact Eff.val ⟨ρ, _, w', hw, .tup' .nil, hp⟩
  · rename_i t v
    obtain ⟨x', rfl, hx⟩ := one_arg hl
    obtain ⟨y, rfl, hy⟩ := hx.iface_inv
    rw [okk] at hb; injection hb with e1 e2; subst e1; subst e2
    exact ⟨ρ, w, ⟨.iface t y, rfl, .iface t hy⟩, .refl p⟩
  · rw [okk] at hb; injection hb with e1 e2; subst e1; subst e2
    exact ⟨ρ, w, rfl, .refl p⟩
  · rename_i pt l
    obtain ⟨p', l', rfl, hp', hl'⟩ := two_args hl
    rw [ite_no] at hb
    obtain ⟨hne, hb⟩ := hb
    obtain ⟨t, ts', rfl⟩ := head hne
    simp only [bind_ok, intOfA_ok, List.headD_cons] at hb
    obtain ⟨n, ⟨lk, rfl⟩, hb⟩ := hb
    have := hl'.int_inv; subst this
    rw [ite_no] at hb
    obtain ⟨hn, hb⟩ := hb
    have hmax : IntKind.i64.max = 9223372036854775807 := by decide
    have empty : n = 0 → ∀ q : Option Addr, (Builtin.unsafeString_ ⟨t :: ts'⟩ type #[.pointer q, .int lk n]).run P w = .ok (.string ⟨#[]⟩) w := by
      intro h0 q
      subst h0
      have hdef : Builtin.unsafeString_ ⟨t :: ts'⟩ type #[.pointer q, .int lk 0] =
        (do
          let n ← asInt (.int lk 0)
          if n < 0 then runtimePanic (.error "unsafe.String: len out of range")
          if n > IntKind.i64.max then unsupported (.unsafePointer "String: a length above the largest int")
          match q with
          | none =>
            if n = 0 then pure (.string .empty)
            else runtimePanic (.error "unsafe.String: ptr is nil and len is not zero")
          | some a =>
            if n = 0 then pure (.string .empty)
            else if ← variablesAt a (← elemOf t) n.toNat then do
              let s ← loadBytes a .empty n.toNat
              freeze a n.toNat
              pure (.string s)
            else unsupported (.unsafePointer "String: not so many bytes at ptr")) := rfl
      rw [hdef]
      simp only [asInt, Sem.run_bind, run_asIntOf, Sem.run_pure, Result.andThen_ok, hmax]
      rw [if_neg (by omega)]
      rw [if_neg (by omega)]
      cases q <;> rfl
    split at hb
    · have := hp'.ptr0_inv; subst this
      rw [ite_no', okk] at hb
      obtain ⟨h0, hb⟩ := hb
      injection hb with e1 e2; subst e1; subst e2
      exact Eff.val ⟨ρ, _, w, empty h0 _, .string _, .refl p⟩
    · obtain ⟨q, rfl, hq⟩ := hp'.ptr_inv
      by_cases h0 : n = 0
      · rw [if_pos h0, okk] at hb
        injection hb with e1 e2; subst e1; subst e2
        exact Eff.val ⟨ρ, _, w, empty h0 _, .string _, .refl p⟩
      · rw [if_neg h0] at hb
        obtain ⟨bs, w', rfl, hr, hpost⟩ := unsafeS_ok (ts := ts') (type := type) (lk := lk) p hq hn h0 hb
        exact Eff.val ⟨ρ, _, w', hr, .string _, hpost⟩
  · simp [no] at hb
theorem invokeA_ok (hη : OneCells η) (p : Pre η P ρ B h w) {t t' : Target} {args : List Value} {args' : Array Value} {a : AN} {h' : AH} (hi : invokeA P h t args = .ok (a, h')) (ht : TgR ρ η t t') (hl : LR η ρ args args'.toList) :
    Eff η P ρ B h w (invoke t' args') a h' := by
  have rest : ∀ {r : Value} {l : List Value}, args = r :: l → ∃ r', args'[0]? = some r' ∧ VR η ρ r r' ∧ LR η ρ l (args'.extract 1 args'.size).toList := by
    intro r l e
    subst e
    obtain ⟨r', m, hm, hr, hm'⟩ := hl.inv_cons
    refine ⟨r', by rw [← Array.getElem?_toList, hm]; rfl, hr, ?_⟩
    have : (args'.extract 1 args'.size).toList = m := by
      have h1 : args'.size = m.length + 1 := by have : args'.size = args'.toList.length := rfl; rw [this, hm]; rfl
      rw [Array.toList_extract, hm, h1]
      simp [List.extract]
    rw [this]; exact hm'
  unfold invokeA at hi
  split at hi
  · rename_i b ts ty cs
    cases t' with
    | builtin b' ts' ty' cs' =>
      obtain ⟨rfl, rfl, rfl, rfl⟩ := ht
      exact builtinA_ok hη p hi hl
    | _ => exact ht.elim
  · rename_i f captured
    cases t' with
    | fn g captured' =>
      obtain ⟨hf, hc⟩ := ht
      cases hf
      exact callF_ok hη p hi (args' := args' ++ captured') (by simpa using hl.append hc)
    | _ => exact ht.elim
  · rename_i name captured
    cases t' with
    | fn g captured' =>
      obtain ⟨hf, hc⟩ := ht
      cases hf
      split at hi
      · rename_i r l
        obtain ⟨r', hr0, hr, hlr⟩ := rest rfl
        obtain ⟨ρ', w', k1, k2⟩ := callMeth_ok hη p hi hr hlr
        exact ⟨ρ', w', by simp only [invoke, hr0]; exact k1, k2⟩
      · simp [no] at hi
    | _ => exact ht.elim
  · rename_i t0 name captured
    cases t' with
    | fn g captured' =>
      obtain ⟨hf, hc⟩ := ht
      cases hf
      split at hi
      · rename_i r l
        obtain ⟨r', hr0, hr, hlr⟩ := rest rfl
        simp only [bind_ok, undA_ok] at hi
        obtain ⟨d, hd, hi⟩ := hi
        split at hi
        · obtain ⟨ρ', w', k1, k2⟩ := callMeth_ok hη p hi hr hlr
          exact ⟨ρ', w', by simp only [invoke, hr0, Sem.run_bind, run_und hd, Result.andThen_ok]; exact k1, k2⟩
        · rename_i hni
          obtain ⟨ρ', w', k1, k2⟩ := callMeth_ok hη p hi (VR.iface t0 hr) hlr
          refine ⟨ρ', w', ?_, k2⟩
          simp only [invoke, hr0, Sem.run_bind, run_und hd, Result.andThen_ok]
          cases d <;> first | exact k1 | exact absurd rfl (hni _)
      · simp [no] at hi
    | _ => exact ht.elim
  · rename_i t0 path f pointer captured
    cases t' with
    | fn g captured' =>
      obtain ⟨hf, hc⟩ := ht
      cases hf
      split at hi
      · rename_i x l
        obtain ⟨r', hr0, hr, hlr⟩ := rest rfl
        simp only [bind_ok] at hi
        obtain ⟨⟨xt, pl⟩, hfo, rv, hrv, ha⟩ := hi
        obtain ⟨y', hy, hyr⟩ := followA_ok p.hr hfo (x' := .val r') hr
        obtain ⟨u, hu, hur⟩ := recvAt_ok (P := P) (wr := none) p.hr hrv hyr
        obtain ⟨ρ', w', k1, k2⟩ := callF_ok hη p (args' := #[u] ++ args'.extract 1 args'.size) ha (by rw [Array.toList_append]; exact LR.cons hur hlr)
        exact ⟨ρ', w', by simp only [invoke, hr0, receiverVia, Sem.run_bind, hy, hu, Result.andThen_ok]; exact k1, k2⟩
      · simp [no] at hi
    | _ => exact ht.elim
  · rename_i l captured
    cases t' with
    | fn g captured' =>
      obtain ⟨hf, hc⟩ := ht
      split at hi
      · rename_i st pend fn tm n params asg body ds hg
        rw [ite_no] at hi
        obtain ⟨hlen, hi⟩ := hi
        simp only [bind_ok] at hi
        obtain ⟨tm2, htm, hi⟩ := hi
        rw [okk] at hi; injection hi with e1 e2; subst e1; subst e2
        cases hf with
        | same hs => exact absurd rfl (hs l)
        | yield hρ =>
          rename_i b d0 n0
          obtain ⟨b2, d2, n2, o, h1, h2, ⟨lp, rfl, k1, k2, k3, k4, k5, k6, k7, dd, nn, k8⟩, _⟩ := p.hr.obj _ _ hg
          rw [hρ] at h1; cases h1
          refine Eff.reader p ⟨b, _, _, (lp.params.zip args').foldl (fun tmps (x : Tmp × Value) => tmps.setIfInBounds x.1 x.2) lp.tmps, ?_, hρ, ?_⟩
          · have hsz : args'.size = lp.params.size := by
              have e1 := hl.len
              have e2 : lp.params.toList.length = params.length := by rw [k5]
              have e3 : args'.size = args'.toList.length := rfl
              have e4 : lp.params.size = lp.params.toList.length := rfl
              omega
            simp only [invoke, Instr.yield, Instr.getLoop, Sem.run_bind, run_getObj h2 (by simp), Result.andThen_ok, Sem.run_pure]
            rw [if_neg (by omega)]
            simp only [Sem.run_bind, Sem.run_pure, Result.andThen_ok, k3, k6, k7]
          · have := putParams_ok htm hl k4
            rw [← k5] at this
            have hz : (lp.params.zip args').foldl (fun tmps (x : Tmp × Value) => tmps.setIfInBounds x.1 x.2) lp.tmps = (lp.params.toList.zip args'.toList).foldl (fun tmps (x : Tmp × Value) => tmps.setIfInBounds x.1 x.2) lp.tmps := by
              rw [← Array.foldl_toList, Array.toList_zip]
            rw [hz]; exact this
      · simp [no] at hi
    | _ => exact ht.elim
  · simp [no] at hi
theorem resolveA_ok {c : Call} {σ τ : Operand → Value} {type : TypeId} (hs : ∀ x ∈ c.operands.toList, VR η ρ (σ x) (τ x)) {t : Target} {args : List Value} (hr : resolveA σ c type = .ok (t, args)) :
    ∃ d : Deferred, (resolve τ c type).run P w = .ok d w ∧ TgR ρ η t d.target ∧ LR η ρ args d.args.toList := by
  obtain ⟨callee, cargs, argTypes⟩ := c
  have ha := map_rel (η := η) (ρ := ρ) (σ := σ) (τ := τ) (xs := cargs) (fun x hx => hs x (by simp [Call.operands]; exact .inr (by simpa using hx)))
  unfold resolveA at hr
  simp only [] at hr
  cases callee with
  | builtin b =>
    simp only [okk] at hr; injection hr with e1 e2; subst e1; subst e2
    refine ⟨_, rfl, ⟨rfl, rfl, rfl, ?_⟩, ha⟩
    apply Array.ext'
    simp only [Array.toList_map]
    apply List.map_congr_left
    intro x _
    cases x <;> rfl
  | invoke recv name =>
    simp only [okk] at hr; injection hr with e1 e2; subst e1; subst e2
    have hv := hs recv (by simp [Call.operands])
    exact ⟨_, rfl, ⟨.same (fun l e => by cases e), .nil⟩, by rw [Array.toList_append]; exact LR.cons hv ha⟩
  | value f =>
    have hv := hs f (by simp [Call.operands])
    simp only [] at hr
    split at hr
    · rename_i fn first captured hf
      rw [okk] at hr; injection hr with e1 e2; subst e1; subst e2
      rw [hf] at hv
      obtain ⟨g, c, d, hg, hfr, h1, h2⟩ := hv.func_inv
      refine ⟨{ target := .fn g d, args := c ++ cargs.map τ }, ?_, ⟨hfr, h2⟩, by rw [Array.toList_append]; exact h1.append ha⟩
      simp only [resolve, hg, Deferred.ofValue]; rfl
    · simp [no] at hr
theorem convEffA_ok (p : Pre η P ρ B h w) {s d : TypeId} {x y : Value} {a : AN} {h' : AH} (he : convEffA P h s d x = .ok (a, h')) (hx : VR η ρ x y) :
    Eff η P ρ B h w (do pure (.value (← convert s d y))) a h' := by
  unfold convEffA at he
  simp only [bind_ok, undA_ok] at he
  obtain ⟨sd, hsd, dd, hdd, he⟩ := he
  split at he
  · rename_i e0 e ad l c
    simp only [bind_ok, undA_ok] at he
    obtain ⟨ed, hed, he⟩ := he
    split at he
    · split at he
      · rename_i hsd'
        subst hsd'
        have hee : e0 = e := by rw [hsd] at hdd; injection hdd with hdd; injection hdd
        subst hee
        simp only [bind_ok] at he
        obtain ⟨⟨ty, cs, pl, own⟩, hc, he⟩ := he
        split at he
        · rename_i ty' cs' heq
          injection heq with q1 q2; injection q2 with q2 q3; injection q3 with q3 q4
          subst q1; subst q2; subst q3; subst q4
          split at he
          · rename_i hsp
            rw [okk] at he; injection he with e1 e2; subst e1; subst e2
            have hg := cellsAt_ok.1 hc
            simp only [] at hg
            obtain ⟨bb, d0, n, C, lo, hi, h1, h2, h3, h4⟩ := p.hr.cells hg
            obtain ⟨hlo, hhi, hd0, hcl⟩ := h3.plain rfl
            subst hlo; subst hhi; subst hd0
            have hsz : C.toList.length = 0 + n := h3.size
            have hCs : C.size = C.toList.length := rfl
            obtain ⟨a', c', rfl, hcc⟩ := hx.slice_inv3 (.inl rfl)
            obtain ⟨q, rfl, hq⟩ : ∃ q, a' = some q ∧ AdR ρ ad q := by
              rcases hcc with ⟨e, _⟩ | ⟨_, q, e, e', hq, _⟩ | ⟨_, q, _, _, _, _, e, e', hq, _⟩
              · cases e
              · cases e; exact ⟨q, e', hq⟩
              · cases e; exact ⟨q, e', hq⟩
            obtain ⟨_, n', blk, d', h5, rfl⟩ := hq
            rw [h1] at h5; cases h5
            have hlt := heap_lt h2
            refine Eff.val ⟨ρ, _, wput w bb (.cells C ty (C.size, C.size + 1)), ?_, hx, Post.put p hg rfl h1 rfl ⟨C, ty, C.size, C.size + 1, rfl, ⟨rfl, hsz, h3.len, h3.at_, (fun h => by cases h), fun _ i hi hh => by omega⟩⟩⟩
            have hshape : w.shape? bb = some (ty, C.size) := by simp only [World.shape?, h2]
            simp only [convert, Sem.run_bind, run_und hsd, run_und hed, Result.andThen_ok, beq_self_eq_true, markStringish, run_shape, hshape, freeze, Sem.run_pure]
            have hfr : w.freeze ⟨bb, C.size, none⟩ 1 = wput w bb (.cells C ty (C.size, C.size + 1)) := by
              unfold World.freeze wput
              rw [if_neg (by decide)]
              congr 1
              apply Array.ext_getElem?
              intro k
              rw [Array.getElem?_modify, Array.getElem?_setIfInBounds]
              by_cases hk : bb = k
              · subst hk; rw [if_pos rfl, if_pos rfl, if_pos hlt, h2]; rfl
              · rw [if_neg hk, if_neg hk]
            rw [← hfr]
            rfl
          · simp [no] at he
        · simp [no] at he
      · simp [no] at he
    · simp [no] at he
  · simp [no] at he
theorem effA_ok (hη : OneCells η) (p : Pre η P ρ B h w) {o : Oper} {σ τ : Operand → Value} (hs : ∀ x ∈ o.op.operands.toList, VR η ρ (σ x) (τ x)) {a : AN} {h' : AH} (he : effA P σ o h = .ok (a, h')) :
    Eff η P ρ B h w (execOp τ o) a h' := by
  obtain ⟨dst, op, type, pos, after, guard⟩ := o
  have unit : ∀ {s : Sem Unit} {h' : AH}, (∃ w', s.run P w = .ok () w' ∧ Post η ρ B h w ρ h' w') → Eff η P ρ B h w (do s; pure .skip) .skip h' := by
    rintro s h' ⟨w', h1, h2⟩
    refine ⟨ρ, w', ?_, h2⟩
    show ((do s; pure Next.skip : Sem Next)).run P w = .ok .skip w'
    simp only [Sem.run_bind, h1, Result.andThen_ok, Sem.run_pure]
  cases op <;> simp only [effA] at he <;> simp only [Op.operands] at hs <;> try (simp [no] at he; done)
  case store t ad x =>
    simp only [bind_ok, addrA_ok] at he
    obtain ⟨q, ⟨hq, _⟩, h1, hst, he⟩ := he
    rw [okk] at he; injection he with e1 e2; subst e1; subst e2
    have ha := hs ad (by simp); have hx := hs x (by simp)
    rw [hq] at ha
    obtain ⟨q', hq', hqr⟩ := ha.ptr_inv
    simp only [storeA, bind_ok] at hst
    obtain ⟨n, hn, hst⟩ := hst
    rw [ite_no] at hst
    obtain ⟨hlen, hst⟩ := hst
    have hc := hx.cells hη
    obtain ⟨w', hw', hp⟩ := storeC_ok (P := P) hη p hst hqr hc
    refine unit ⟨w', ?_, hp⟩
    have hsz : (τ x).cells.size = n := by
      have e1 := hc.len
      have e2 : (τ x).cells.size = (τ x).cells.toList.length := rfl
      omega
    simp only [Instr.storeAt, Sem.run_bind, hq', Instr.sureAddr, Sem.run_pure, Result.andThen_ok, storeVar, run_size hn]
    rw [if_neg (by omega)]
    exact hw'
  case convert s d x =>
    have hx := hs x (by simp)
    generalize σ x = u at he hx
    exact convEffA_ok p he hx
  case insert t m k x =>
    simp only [bind_ok] at he
    obtain ⟨h1, hm, he⟩ := he
    rw [okk] at he; injection he with e1 e2; subst e1; subst e2
    exact unit (mapSet_ok p hm (hs m (by simp)) (hs k (by simp)) (hs x (by simp)))
  case mapUpdate t m k x =>
    simp only [bind_ok] at he
    obtain ⟨h1, hm, he⟩ := he
    rw [okk] at he; injection he with e1 e2; subst e1; subst e2
    exact unit (mapSet_ok p hm (hs m (by simp)) (hs k (by simp)) (hs x (by simp)))
  case mapEntry t m k =>
    simp only [bind_ok] at he
    obtain ⟨⟨v, h1⟩, hm, he⟩ := he
    rw [okk] at he; injection he with e1 e2; subst e1; subst e2
    obtain ⟨x, w', k1, k2, k3⟩ := mapEntryA_ok p hm (hs m (by simp)) (hs k (by simp))
    exact Eff.val ⟨ρ, x, w', k1, k2, k3⟩
  case entryStore t m s x =>
    simp only [bind_ok] at he
    obtain ⟨h1, hm, he⟩ := he
    rw [okk] at he; injection he with e1 e2; subst e1; subst e2
    exact unit (entryStoreA_ok p hm (hs m (by simp)) (hs s (by simp)) (hs x (by simp)))
  case range t x =>
    have hx := hs x (by simp)
    generalize σ x = u at he hx
    have : ∃ v, a = .value v ∧ (do
      match ← undA P t, u with
      | .string, .string s => let (r, h) := newA h (.stringIter s 0); .ok (.pointer (some ⟨r, 0, none⟩), h)
      | .map _ _, .map none => let (r, h) := newA h (.mapIter none 0 [] 0); .ok (.pointer (some ⟨r, 0, none⟩), h)
      | .map _ _, .map (some m) => do
        let (_, clock, _) ← mapOf h m
        let (r, h) := newA h (.mapIter (some m) clock [] clock)
        .ok (.pointer (some ⟨r, 0, none⟩), h)
      | _, _ => no "range" : M (Value × AH)) = .ok (v, h') := by
      simp only [bind_ok, newA] at he ⊢
      obtain ⟨d, hd, he⟩ := he
      split at he
      · rw [okk] at he; injection he with e1 e2; subst e1; subst e2
        exact ⟨_, rfl, _, hd, rfl⟩
      · rw [okk] at he; injection he with e1 e2; subst e1; subst e2
        exact ⟨_, rfl, _, hd, rfl⟩
      · simp only [bind_ok] at he
        obtain ⟨m, hm, he⟩ := he
        rw [okk] at he; injection he with e1 e2; subst e1; subst e2
        exact ⟨_, rfl, _, hd, by simp only [bind_ok]; exact ⟨m, hm, rfl⟩⟩
      · simp [no] at he
    obtain ⟨v, rfl, hr⟩ := this
    exact Eff.val (rangeA_ok p hr hx)
  case next it s =>
    simp only [bind_ok] at he
    obtain ⟨⟨v, h1⟩, hm, he⟩ := he
    rw [okk] at he; injection he with e1 e2; subst e1; subst e2
    obtain ⟨x, w', k1, k2, k3⟩ := nextA_ok (P := P) (type := type) p hm (hs it (by simp))
    exact Eff.val ⟨ρ, x, w', k1, k2, k3⟩
  case call c =>
    simp only [bind_ok] at he
    obtain ⟨⟨t, args⟩, hr, hi⟩ := he
    obtain ⟨d, hd, ht, hl⟩ := resolveA_ok (P := P) (w := w) hs hr
    obtain ⟨ρ', w', k1, k2⟩ := invokeA_ok hη p hi ht hl
    exact ⟨ρ', w', by simp only [execOp, Sem.run_bind, hd, Result.andThen_ok]; exact k1, k2⟩
  case defer c =>
    simp only [bind_ok] at he
    obtain ⟨⟨t, args⟩, hr, he⟩ := he
    rw [okk] at he; injection he with e1 e2; subst e1; subst e2
    obtain ⟨d, hd, ht, hl⟩ := resolveA_ok (P := P) (w := w) hs hr
    exact ⟨ρ, w, ⟨d, by simp only [execOp, Sem.run_bind, hd, Result.andThen_ok, Sem.run_pure], ht, by simpa using hl⟩, .refl p⟩
  case panic x =>
    have hx := hs x (by simp)
    split at he
    · rename_i t v hv
      rw [okk] at he; injection he with e1 e2; subst e1; subst e2
      rw [hv] at hx
      obtain ⟨y, hy, hyr⟩ := hx.iface_inv
      exact ⟨ρ, w, ⟨.iface t y, by simp only [execOp, hy]; rfl, .iface t hyr⟩, .refl p⟩
    · simp [no] at he
end
end Go.Ev

namespace Go.Ev
set_option linter.unusedVariables false
set_option linter.unusedSimpArgs false
variable {η : Nat → Value}
inductive ItR (ρ : Env) : Item → Item → Prop
  | code (c : Code) : ItR ρ (.code c) (.code c)
  | inBlock (i : Nat) : ItR ρ (.inBlock i) (.inBlock i)
  | inLoop (c : Code) : ItR ρ (.inLoop c) (.inLoop c)
  | inScope (c : Code) : ItR ρ (.inScope c) (.inScope c)
  | inRegion (ops : Array Oper) (l : List Nat) : ItR ρ (.inRegion ops l) (.inRegion ops l)
  | inRangeFunc {l b d n : Nat} (h : ρ l = some (b, d, n)) : ItR ρ (.inRangeFunc l) (.inRangeFunc b)
  | endRangeFunc {l b d n : Nat} (h : ρ l = some (b, d, n)) : ItR ρ (.endRangeFunc l) (.endRangeFunc b)
  | beginRound : ItR ρ .beginRound .beginRound
theorem ItR.mono {ρ ρ' : Env} (h : Env.le ρ ρ') {a b : Item} (k : ItR ρ a b) : ItR ρ' a b := by
  cases k with
  | code c => exact .code c
  | inBlock i => exact .inBlock i
  | inLoop c => exact .inLoop c
  | inScope c => exact .inScope c
  | inRegion o l => exact .inRegion o l
  | inRangeFunc e => exact .inRangeFunc (h _ _ e)
  | endRangeFunc e => exact .endRangeFunc (h _ _ e)
  | beginRound => exact .beginRound
def PeR (η : Nat → Value) (ρ : Env) (a b : PanicEntry) : Prop := VR η ρ a.v b.v ∧ a.recovered = b.recovered ∧ a.goexit = b.goexit
inductive MoR (η : Nat → Value) (ρ : Env) : FrameMode → FrameMode → Prop
  | run : MoR η ρ .run .run
  | returning : MoR η ρ .returning .returning
  | panicking {l m : List PanicEntry} (h : L2 (PeR η ρ) l m) : MoR η ρ (.panicking l) (.panicking m)
theorem MoR.mono {ρ ρ' : Env} (h : Env.le ρ ρ') {a b : FrameMode} (k : MoR η ρ a b) : MoR η ρ' a b := by
  cases k with
  | run => exact .run
  | returning => exact .returning
  | panicking e => exact .panicking (e.mono fun _ _ q => ⟨q.1.mono h, q.2⟩)
def RoR (ρ : Env) : Option Nat → Option Nat → Prop
  | none, none => True
  | some l, some b => ∃ d n, ρ l = some (b, d, n)
  | _, _ => False
theorem RoR.mono {ρ ρ' : Env} (h : Env.le ρ ρ') {a b : Option Nat} (k : RoR ρ a b) : RoR ρ' a b := by
  cases a <;> cases b <;> simp only [RoR] at k ⊢
  obtain ⟨d, n, e⟩ := k; exact ⟨d, n, h _ _ e⟩
structure FrR (η : Nat → Value) (ρ : Env) (f : AF) (fr : Frame) : Prop where
  fn : fr.fn = f.fn
  tm : TR η ρ f.tm f.n fr.tmps
  todo : L2 (ItR ρ) f.todo fr.todo
  defers : L2 (DR η ρ) f.defers fr.defers
  mode : MoR η ρ f.mode fr.mode
  kind : fr.kind = f.kind
  round : RoR ρ f.round fr.roundOf
theorem FrR.mono {ρ ρ' : Env} (h : Env.le ρ ρ') {f : AF} {fr : Frame} (k : FrR η ρ f fr) : FrR η ρ' f fr :=
  ⟨k.fn, k.tm.mono h, k.todo.mono fun _ _ => ItR.mono h, k.defers.mono fun _ _ => DR.mono h, k.mode.mono h, k.kind, k.round.mono h⟩
section
variable {P : Program} {ρ : Env} {B : Bd} {h : AH} {w : World}
theorem evA_ok (hG : GR P ρ) {tm : T Value} {n : Nat} {fr : Frame} (ht : TR η ρ tm n fr.tmps) {x : Operand} (hx : okO P x = true) : VR η ρ (evA tm x) (fr.eval x) := by
  cases x with
  | tmp t =>
    simp only [evA, Frame.eval]
    rcases Nat.lt_or_ge t n with h | h
    · exact ht.2.2 t h
    · rw [ht.2.1 t h, Array.getD_eq_getD_getElem?, Array.getElem?_eq_none (by rw [ht.1]; exact h)]
      exact .tup' .nil
  | const v => exact .bareA hx
  | global g =>
    simp only [okO, decide_eq_true_eq] at hx
    obtain ⟨n, hg⟩ := hG g (Nat.le_of_lt hx)
    exact VR.ptr_new hg
  | func f => exact .func_mk (.same fun l e => by cases e) .nil .nil
theorem okOps_all {o : Oper} (h : okOps P o = true) : ∀ x ∈ o.op.operands.toList, okO P x = true := fun x hx => List.all_eq_true.1 h x hx
def setD (tmps : Array Value) (dst : Option Tmp) (x : Value) : Array Value :=
  match dst with
  | some d => tmps.setIfInBounds d x
  | none => tmps
theorem putT_ok {n : Nat} {tm tm2 : T Value} {dst : Option Tmp} {v x : Value} {tmps : Array Value} (hp : putT n tm dst v = .ok tm2) (ht : TR η ρ tm n tmps) (hv : VR η ρ v x) :
    TR η ρ tm2 n (setD tmps dst x) := by
  cases dst with
  | none => simp only [putT, okk] at hp; subst hp; exact ht
  | some d =>
    simp only [putT] at hp
    rw [ite_no', okk] at hp
    obtain ⟨hd, rfl⟩ := hp
    refine ⟨by simp [setD, ht.1], fun t h => ?_, fun t h => ?_⟩
    · rw [T.get_set, if_neg (fun e => by subst e; exact absurd hd (Nat.not_lt.2 h))]
      exact ht.2.1 t h
    · rw [T.get_set]
      show VR η ρ _ ((tmps.setIfInBounds d x).getD t undef)
      by_cases e : t = d
      · subst e
        have hl : t < tmps.size := by rw [ht.1]; exact h
        rw [if_pos rfl]
        simp only [Option.getD_some]
        rw [Array.getD_eq_getD_getElem?, Array.getElem?_setIfInBounds_self_of_lt hl]
        exact hv
      · rw [if_neg e]
        rw [Array.getD_eq_getD_getElem?, Array.getElem?_setIfInBounds_ne (fun h => e h.symm), ← Array.getD_eq_getD_getElem?]
        exact ht.2.2 t h
theorem VR.undef' : VR η ρ undef undef := .tup' .nil
theorem finish_ok {f f2 : AF} {fr : Frame} {v x : Value} (hf : f.finish v = .ok f2) (hr : FrR η ρ f fr) (hv : VR η ρ v x) : FrR η ρ f2 (fr.finish x) := by
  obtain ⟨fn, tmps, todo, defers, mode, kind, roundOf⟩ := fr
  unfold AF.finish at hf
  have htodo := hr.todo
  split at hf
  · rename_i ops i rest k he
    rw [he] at htodo
    obtain ⟨y, k', hk, hy, hkk⟩ := htodo.inv_cons
    simp only at hk; subst hk
    cases hy
    simp only [bind_ok] at hf
    obtain ⟨tm, htm, hf⟩ := hf
    rw [okk] at hf; subst hf
    have hto : (ops.toList[i]?).bind (·.dst) = (ops[i]?).bind (·.dst) := by rw [Array.getElem?_toList]
    rw [hto] at htm
    have := putT_ok htm hr.tm hv
    refine ⟨hr.fn, ?_, .cons (.inRegion _ _) hkk, hr.defers, hr.mode, hr.kind, hr.round⟩
    exact this
  · rename_i l k he
    rw [he] at htodo
    obtain ⟨y, k', hk, hy, hkk⟩ := htodo.inv_cons
    simp only at hk; subst hk
    cases hy with
    | inRangeFunc e =>
      rw [okk] at hf; subst hf
      exact ⟨hr.fn, hr.tm, .cons (.endRangeFunc e) hkk, hr.defers, hr.mode, hr.kind, hr.round⟩
  · rename_i k he
    rw [he] at htodo
    obtain ⟨y, k', hk, hy, hkk⟩ := htodo.inv_cons
    simp only at hk; subst hk
    cases hy
    rw [okk] at hf; subst hf
    exact ⟨hr.fn, hr.tm, hkk, hr.defers, hr.mode, hr.kind, hr.round⟩
  · simp [no] at hf
theorem enter_ok {f : FuncId} {args : List Value} {args' : Array Value} {kind : CallKind} {fr : AF} (he : enterA P f args kind = .ok fr) (hl : LR η ρ args args'.toList) : FrR η ρ fr (Frame.enter P f args' kind) := by
  unfold enterA at he
  split at he
  · simp [no] at he
  · rename_i fn hfn
    split at he
    · simp [no] at he
    · rename_i b hb
      rw [okk] at he; subst he
      have hlen : args.length = args'.toList.length := hl.len
      have hsz : args'.size = args'.toList.length := rfl
      have htm : (Frame.enter P f args' kind).tmps = args' ++ Array.replicate (fn.ntmps - args'.size) undef := by simp [Frame.enter, hfn]
      refine ⟨rfl, ?_, ?_, .nil, .run, rfl, trivial⟩
      · rw [htm]
        refine ⟨by simp; omega, fun t h => ?_, fun t h => ?_⟩
        · have hge : max fn.ntmps args.length ≤ t := h
          rw [T.get_ofL, if_neg (by omega), T.get_nil]
        · rw [T.get_ofL]
          simp only [Array.getD_eq_getD_getElem?]
          by_cases ht : t < args.length
          · rw [if_pos (by omega), Nat.sub_zero]
            obtain ⟨x, hx, hv⟩ := hl.get (List.getElem?_eq_getElem ht)
            rw [Array.getElem?_append_left (by omega)]
            rw [← Array.getElem?_toList, hx, List.getElem?_eq_getElem ht]
            exact hv
          · rw [if_neg (by omega), T.get_nil, Array.getElem?_append_right (by omega)]
            have : ((Array.replicate (fn.ntmps - args'.size) undef)[t - args'.size]?).getD undef = undef := by
              rw [Array.getElem?_replicate]; split <;> rfl
            rw [this]; exact .undef'
      · simp only [Frame.enter, hfn, Option.bind_some, hb, Option.getD_some]
        exact .cons (.code b) .nil
theorem raise_ok {f : AF} {fr : Frame} {vs xs : List PanicEntry} (hr : FrR η ρ f fr) (hv : L2 (PeR η ρ) vs xs) : FrR η ρ (f.raiseA vs) (fr.raise xs) := by
  obtain ⟨fn, tmps, todo, defers, mode, kind, roundOf⟩ := fr
  obtain ⟨fn', n, tm, todo', defers', mode', kind', round'⟩ := f
  have hm := hr.mode
  simp only at hm
  cases hm with
  | run => exact ⟨hr.fn, hr.tm, hr.todo, hr.defers, .panicking hv, hr.kind, hr.round⟩
  | returning => exact ⟨hr.fn, hr.tm, hr.todo, hr.defers, .panicking hv, hr.kind, hr.round⟩
  | panicking h => exact ⟨hr.fn, hr.tm, hr.todo, hr.defers, .panicking (hv.append h), hr.kind, hr.round⟩
def resV (tmps : Array Value) : ResultVar → Sem Value
  | .tmp t => pure (tmps.getD t undef)
  | .cell a t => do loadVar t (← asAddr (tmps.getD a undef))
theorem resL_ok (H : HR η ρ B h w) {tm : T Value} {n : Nat} {tmps : Array Value} (ht : TR η ρ tm n tmps) : ∀ {rs : List ResultVar} {vs : List Value}, resL P tm h rs = .ok vs →
    ∃ xs, (rs.mapM (resV tmps)).run P w = .ok xs w ∧ LR η ρ vs xs
  | [], vs, hr => by simp only [resL, okk] at hr; subst hr; exact ⟨[], rfl, .nil⟩
  | r :: rs, vs, hr => by
    have get : ∀ t, VR η ρ ((tm.get t).getD undef) (tmps.getD t undef) := by
      intro t
      rcases Nat.lt_or_ge t n with h | h
      · exact ht.2.2 t h
      · rw [ht.2.1 t h, Array.getD_eq_getD_getElem?, Array.getElem?_eq_none (by rw [ht.1]; exact h)]
        exact .undef'
    cases r with
    | tmp t =>
      simp only [resL, bind_ok] at hr
      obtain ⟨l, hl, hr⟩ := hr
      rw [okk] at hr; subst hr
      obtain ⟨xs, h1, h2⟩ := resL_ok H ht hl
      refine ⟨_, ?_, .cons (get t) h2⟩
      simp only [List.mapM_cons, Sem.run_bind, resV, Sem.run_pure, Result.andThen_ok] at h1 ⊢
      rw [h1]; rfl
    | cell a t =>
      simp only [resL, bind_ok, addrA_ok] at hr
      obtain ⟨q, ⟨hq, _⟩, v, hv, l, hl, hr⟩ := hr
      rw [okk] at hr; subst hr
      obtain ⟨xs, h1, h2⟩ := resL_ok H ht hl
      have ha := get a
      rw [hq] at ha
      obtain ⟨q', hq', hqr⟩ := ha.ptr_inv
      obtain ⟨x, k1, k2⟩ := loadA_ok H hv hqr
      refine ⟨_, ?_, .cons k2 h2⟩
      simp only [List.mapM_cons, Sem.run_bind, resV, Sem.run_pure, hq', asAddr, k1, Result.andThen_ok] at h1 ⊢
      rw [h1]; rfl
theorem results_ok (H : HR η ρ B h w) {fn : Func} {tm : T Value} {n : Nat} {tmps : Array Value} (ht : TR η ρ tm n tmps) {v : Value} (hr : resultsA P fn tm h = .ok v) : ∃ x, (results fn tmps).run P w = .ok x w ∧ VR η ρ v x := by
  simp only [resultsA, bind_ok] at hr
  obtain ⟨vs, hvs, hr⟩ := hr
  obtain ⟨xs, h1, h2⟩ := resL_ok H ht hvs
  have hm : (fn.results.mapM (resV tmps)).run P w = .ok xs.toArray w := by
    generalize hr' : fn.results = rs at *
    obtain ⟨rl⟩ := rs
    rw [show (Array.mk rl) = rl.toArray from rfl, List.mapM_toArray]
    simp only [Sem.run_map] at h1 ⊢
    rw [h1]; rfl
  have hf : (fun (r : ResultVar) => (match r with
      | .tmp t => pure (tmps.getD t undef)
      | .cell a t => do loadVar t (← asAddr (tmps.getD a undef)) : Sem Value)) = resV tmps := by
    funext r; cases r <;> rfl
  have hres : (results fn tmps).run P w = (do
      let vs ← fn.results.mapM (resV tmps)
      pure (if h : vs.size = 1 then vs[0] else .tuple vs) : Sem Value).run P w := by
    rw [← hf]; rfl
  split at hr
  · rename_i v1
    rw [okk] at hr; subst hr
    obtain ⟨x, m, rfl, hx, hm'⟩ := h2.inv_cons
    have := hm'.inv_nil; subst this
    refine ⟨x, ?_, hx⟩
    rw [hres]
    simp only [Sem.run_bind]
    rw [hm]; rfl
  · rename_i hne
    rw [okk] at hr; subst hr
    refine ⟨.tuple xs.toArray, ?_, .tup' h2⟩
    rw [hres]
    simp only [Sem.run_bind]
    rw [hm]
    have : ¬ xs.toArray.size = 1 := by
      intro e
      have e2 : vs.length = 1 := by rw [h2.len]; simpa using e
      obtain ⟨a, rfl⟩ := List.length_eq_one_iff.1 e2
      exact hne a rfl
    simp only [Result.andThen_ok]
    rw [dif_neg this]; rfl
theorem exitTo_ok {id : Nat} {k k' : List Item} (hk : L2 (ItR ρ) k k') : (∀ r, exitTo id k = some r → ∃ r', exitTo id k' = some r' ∧ L2 (ItR ρ) r r') ∧ (exitTo id k = none → exitTo id k' = none) := by
  induction hk with
  | nil => exact ⟨fun r h => by simp [exitTo] at h, fun _ => rfl⟩
  | cons h _ ih =>
    rename_i a b l m hl
    cases h <;> simp only [exitTo] <;> first
      | exact ih
      | (split
         · exact ⟨fun r h => by cases h; exact ⟨_, rfl, hl⟩, fun h => by cases h⟩
         · exact ih)
theorem gotoIn_ok {id : Nat} {k k' : List Item} (hk : L2 (ItR ρ) k k') : (∀ r, gotoIn id k = some r → ∃ r', gotoIn id k' = some r' ∧ L2 (ItR ρ) r r') ∧ (gotoIn id k = none → gotoIn id k' = none) := by
  induction hk with
  | nil => exact ⟨fun r h => by simp [gotoIn] at h, fun _ => rfl⟩
  | cons h _ ih =>
    rename_i a b l m hl
    cases h <;> simp only [gotoIn] <;> first
      | exact ih
      | (split
         · exact ⟨fun r h => by cases h; exact ⟨_, rfl, .cons (.code _) (.cons (.inScope _) hl)⟩, fun h => by cases h⟩
         · exact ih)
theorem wanted_ok {ops : Array Oper} {tm : T Value} {n : Nat} {tmps : Array Value} {o : Oper} {b : Bool} (ht : TR η ρ tm n tmps) (hw : wantedA ops.toList tm o = .ok b) : Region.wanted o (yielded ops tmps) = b := by
  unfold wantedA at hw
  unfold Region.wanted
  split at hw
  · rename_i hg; rw [hg]; rw [okk] at hw; exact hw
  · rename_i j want hg
    rw [hg]
    simp only [yielded]
    rw [Array.getElem?_toList] at hw
    split at hw
    · rename_i hd
      rw [hd]; rw [okk] at hw; subst hw; simp
    · rename_i d hd
      rw [hd]
      simp only [Option.bind_some]
      have hv : VR η ρ ((tm.get d).getD undef) (tmps.getD d undef) := by
        rcases Nat.lt_or_ge d n with h | h
        · exact ht.2.2 d h
        · rw [ht.2.1 d h, Array.getD_eq_getD_getElem?, Array.getElem?_eq_none (by rw [ht.1]; exact h)]
          exact .undef'
      rw [Array.getD_eq_getD_getElem?] at hv
      split at hw
      · rename_i b0 hb0
        rw [hb0] at hv
        have hv := hv.bool_inv
        rw [okk] at hw; subst hw
        cases ht' : tmps[d]? with
        | none => rw [ht'] at hv; cases hv
        | some x => rw [ht'] at hv; simp only [Option.getD_some] at hv; subst hv; cases b0 <;> cases want <;> rfl
      · rename_i ts hb0
        rw [hb0] at hv
        obtain ⟨c, hc, _⟩ := hv.tuple_inv
        rw [okk] at hw; subst hw
        cases ht' : tmps[d]? with
        | none => simp
        | some x => rw [ht'] at hc; simp only [Option.getD_some] at hc; subst hc; simp
      · simp [no] at hw
theorem execA_ok (hη : OneCells η) (p : Pre η P ρ B h w) {o : Oper} {σ τ : Operand → Value} (hs : ∀ x, okO P x = true → VR η ρ (σ x) (τ x)) {a : AN} {h' : AH} (he : execA P σ o h = .ok (a, h')) : Eff η P ρ B h w (execOp τ o) a h' := by
  unfold execA at he
  rw [ite_no] at he
  obtain ⟨hok, he⟩ := he
  have hs' : ∀ x ∈ o.op.operands.toList, VR η ρ (σ x) (τ x) := fun x hx => hs x (okOps_all (by simpa using hok) x hx)
  split at he
  · simp only [bind_ok] at he
    obtain ⟨v, hv, he⟩ := he
    rw [okk] at he; injection he with e1 e2; subst e1; subst e2
    exact Eff.reader p (readA_ok hη p.glob p.hr hs' hv)
  · simp only [bind_ok] at he
    obtain ⟨⟨v, b⟩, hv, he⟩ := he
    rw [okk] at he; injection he with e1 e2; subst e1; subst e2
    obtain ⟨hown, x, w', ob, n, h1, h2, h3⟩ := allocA_ok (w := w) hη hs' hv
    have hle := Env.le_put (t := (w.heap.size, 0, n)) (p.fresh h.next (Nat.le_refl _))
    obtain ⟨k1, k2⟩ := h3 _ hle (Env.put_at _ _ _)
    exact ⟨_, w', ⟨x, h1, k1⟩, Post.new p h2 h.objs (fun _ _ hx => hx) k2⟩
  · exact effA_ok hη p hs' he
end
end Go.Ev

namespace Go.Ev
set_option linter.unusedVariables false
set_option linter.unusedSimpArgs false
variable {η : Nat → Value}
structure SR (η : Nat → Value) (P : Program) (ρ : Env) (B : Bd) (s : AS) (fr : Frame) (cs : List Frame) (w : World) : Prop where
  fr : FrR η ρ s.fr fr
  cs : L2 (FrR η ρ) s.cs cs
  pre : Pre η P ρ B s.hp w
def run0 (fr : Frame) (cs : List Frame) : Goroutine := { frame := fr, callers := cs, status := .running, dying := none }
section
variable {P : Program} {ρ : Env} {B : Bd} {h : AH} {w : World}
section apply
variable {fr : Frame} {cs : List Frame} {s : Sem Next} {w' : World}
theorem apply_value {v : Value} (hr : s.run P w = .ok (.value v) w') : (stepG.apply P true fr cs none s w).bare = .go (run0 (fr.finish v) cs) w' := by
  simp [stepG.apply, hr, run0]
theorem apply_skip (hr : s.run P w = .ok .skip w') : (stepG.apply P true fr cs none s w).bare = .go (run0 (fr.finish undef) cs) w' := by
  simp [stepG.apply, hr, run0]
theorem apply_defer {d : Deferred} (hr : s.run P w = .ok (.defer d) w') : (stepG.apply P true fr cs none s w).bare = .go (run0 (({ fr with defers := d :: fr.defers } : Frame).finish undef) cs) w' := by
  simp [stepG.apply, hr, run0]
theorem apply_panic {v : Value} (hr : s.run P w = .halt (.panic v) w') : (stepG.apply P true fr cs none s w).bare = .go (run0 (fr.raise [{ v, recovered := false }]) cs) w' := by
  simp [stepG.apply, hr, run0]
def notCall (fr : Frame) : Prop := ∀ d b r s k, fr.todo ≠ .call d b r s :: k
theorem apply_enter {f : FuncId} {args : Array Value} (hk : notCall fr) (hr : s.run P w = .ok (.enter f args) w') : (stepG.apply P true fr cs none s w).bare = .go (run0 (Frame.enter P f args .normal) (fr :: cs)) w' := by
  simp only [stepG.apply, Sem.runT_eq, hr, if_true]
  simp [run0]
  congr 1
  split
  · rename_i hh; exact absurd hh (hk _ _ _ _ _)
  · rfl
theorem apply_round {l : Nat} {f : FuncId} {tmps : Array Value} {asg body : Code} (hr : s.run P w = .ok (.round l f tmps asg body) w') : (stepG.apply P true fr cs none s w).bare = .go (run0 (Frame.round l f tmps asg body .normal) (fr :: cs)) w' := by
  simp [stepG.apply, hr, run0]
theorem apply_recover_none (ho : fr.roundOf = none) (ht : tryRecover fr cs = none) (hr : s.run P w = .ok .recover w') : (stepG.apply P true fr cs none s w).bare = .go (run0 (fr.finish .nilIface) cs) w' := by
  simp [stepG.apply, hr, ho, ht, run0]
theorem apply_recover_some {v : Value} {cs2 : List Frame} (ho : fr.roundOf = none) (ht : tryRecover fr cs = some (v, cs2)) (hr : s.run P w = .ok .recover w') : (stepG.apply P true fr cs none s w).bare = .go (run0 (fr.finish v) cs2) w' := by
  simp [stepG.apply, hr, ho, ht, run0]
end apply
theorem PeR.one {v x : Value} (h : VR η ρ v x) : L2 (PeR η ρ) [{ v, recovered := false }] [{ v := x, recovered := false }] := .cons ⟨h, rfl, rfl⟩ .nil
theorem tryRec_ok {f : AF} {fr : Frame} {acs : List AF} {cs : List Frame} {r : Option (Value × List AF)} (hf : FrR η ρ f fr) (hc : L2 (FrR η ρ) acs cs) (hr : tryRecA f acs = .ok r) :
    (r = none ∧ ∀ cs0, tryRecover fr (cs ++ cs0) = none) ∨ (∃ v acs2 x cs2, r = some (v, acs2) ∧ (∀ cs0, tryRecover fr (cs ++ cs0) = some (x, cs2 ++ cs0)) ∧ VR η ρ v x ∧ L2 (FrR η ρ) acs2 cs2) := by
  unfold tryRecA at hr
  split at hr
  · rename_i c rest hk
    obtain ⟨c', rest', rfl, hcr, hrest⟩ := hc.inv_cons
    have hk' : fr.kind = .deferred := by rw [hf.kind, hk]
    have hm := hcr.mode
    split at hr
    · rename_i v older hmo
      rw [hmo] at hm
      rw [okk] at hr; subst hr
      generalize hm' : c'.mode = m' at hm
      cases hm with
      | panicking hl =>
        obtain ⟨e', older', rfl, he, ho⟩ := hl.inv_cons
        obtain ⟨v', rec', gx'⟩ := e'
        obtain ⟨hv, hrc, hgx⟩ := he
        simp only at hv hrc hgx
        subst hrc; subst hgx
        refine .inr ⟨v, _, v', { c' with mode := .panicking ({ v := v', recovered := true } :: older') } :: rest', rfl, ?_, hv, .cons ⟨hcr.fn, hcr.tm, hcr.todo, hcr.defers, .panicking (.cons ⟨hv, rfl, rfl⟩ ho), hcr.kind, hcr.round⟩ hrest⟩
        intro cs0; simp [tryRecover, hk', hm']
    · rename_i hno
      rw [okk] at hr; subst hr
      refine .inl ⟨rfl, fun cs0 => ?_⟩
      simp only [List.cons_append, tryRecover, hk']
      generalize hm' : c'.mode = m' at hm
      generalize hm2 : c.mode = m2 at hm
      cases hm with
      | run => rfl
      | returning => rfl
      | panicking hl =>
        cases hl with
        | nil => rfl
        | cons he ho =>
          rename_i e e' l l'
          obtain ⟨v, rec, gx⟩ := e
          obtain ⟨v', rec', gx'⟩ := e'
          obtain ⟨hv, hrc, hgx⟩ := he
          simp only at hv hrc hgx
          subst hrc; subst hgx
          cases rec with
          | true => rfl
          | false =>
            cases gx with
            | true => rfl
            | false => exact absurd hm2 (hno _ _)
  · rename_i hk
    have hk' : fr.kind = .normal := by rw [hf.kind, hk]
    rw [okk] at hr; subst hr
    exact .inl ⟨rfl, fun cs0 => by simp [tryRecover, hk']⟩
  · simp [no] at hr
theorem L2.map_mono {ρ' : Env} (hl : Env.le ρ ρ') {a : List AF} {b : List Frame} (h : L2 (FrR η ρ) a b) : L2 (FrR η ρ') a b := h.mono fun _ _ => FrR.mono hl
theorem after_ok {f : AF} {fr : Frame} {acs : List AF} {cs : List Frame} {s : Sem Next} {a : AN} {h' : AH} {r : AR} (F : FrR η ρ f fr) (C : L2 (FrR η ρ) acs cs) (p : Pre η P ρ B h w) (hE : Eff η P ρ B h w s a h') (ha : afterA P f acs a h' = .ok r) (hk : notCall fr) :
    ∃ s', r = .next s' ∧ ∃ ρ' fr' cs' w', SR η P ρ' B s' fr' cs' w' ∧ Post η ρ B h w ρ' s'.hp w' ∧ ∀ cs0, (stepG.apply P true fr (cs ++ cs0) none s w).bare = .go (run0 fr' (cs' ++ cs0)) w' := by
  obtain ⟨ρ', w', hn, hp⟩ := hE
  have p' := p.post hp
  have F' := F.mono hp.le
  have C' := L2.map_mono hp.le C
  cases a with
  | value v =>
    obtain ⟨x, hr, hv⟩ := hn
    simp only [afterA, bind_ok] at ha
    obtain ⟨f2, hf2, ha⟩ := ha
    rw [okk] at ha; subst ha
    exact ⟨_, rfl, ρ', _, cs, w', ⟨finish_ok hf2 F' hv, C', p'⟩, hp, fun cs0 => apply_value hr⟩
  | skip =>
    have hr : s.run P w = .ok .skip w' := hn
    simp only [afterA, bind_ok] at ha
    obtain ⟨f2, hf2, ha⟩ := ha
    rw [okk] at ha; subst ha
    exact ⟨_, rfl, ρ', _, cs, w', ⟨finish_ok hf2 F' .undef', C', p'⟩, hp, fun cs0 => apply_skip hr⟩
  | enter g args =>
    obtain ⟨xs, hr, hl⟩ := hn
    simp only [afterA, bind_ok] at ha
    obtain ⟨f2, hf2, ha⟩ := ha
    rw [okk] at ha; subst ha
    exact ⟨_, rfl, ρ', _, fr :: cs, w', ⟨enter_ok hf2 hl, .cons F' C', p'⟩, hp, fun cs0 => apply_enter hk hr⟩
  | defer d =>
    obtain ⟨e, hr, hd⟩ := hn
    simp only [afterA] at ha
    rw [ite_no] at ha
    obtain ⟨hrd, ha⟩ := ha
    simp only [bind_ok] at ha
    obtain ⟨f2, hf2, ha⟩ := ha
    rw [okk] at ha; subst ha
    refine ⟨_, rfl, ρ', _, cs, w', ⟨finish_ok hf2 (fr := { fr with defers := e :: fr.defers }) ⟨F'.fn, F'.tm, F'.todo, .cons hd F'.defers, F'.mode, F'.kind, F'.round⟩ .undef', C', p'⟩, hp, fun cs0 => apply_defer hr⟩
  | recover =>
    have hr : s.run P w = .ok .recover w' := hn
    simp only [afterA] at ha
    rw [ite_no] at ha
    obtain ⟨hrd, ha⟩ := ha
    have hro : fr.roundOf = none := by
      have := F.round
      cases h1 : f.round with
      | some l => rw [h1] at hrd; simp at hrd
      | none => rw [h1] at this; cases h2 : fr.roundOf with
        | none => rfl
        | some b => rw [h2] at this; exact this.elim
    simp only [bind_ok] at ha
    obtain ⟨t, ht, ha⟩ := ha
    rcases tryRec_ok F' C' ht with ⟨rfl, hnone⟩ | ⟨v, acs2, x, cs2, rfl, hsome, hv, hc2⟩
    · simp only [bind_ok] at ha
      obtain ⟨f2, hf2, ha⟩ := ha
      rw [okk] at ha; subst ha
      exact ⟨_, rfl, ρ', _, cs, w', ⟨finish_ok hf2 F' .nilIface, C', p'⟩, hp, fun cs0 => apply_recover_none hro (hnone cs0) hr⟩
    · simp only [bind_ok] at ha
      obtain ⟨f2, hf2, ha⟩ := ha
      rw [okk] at ha; subst ha
      exact ⟨_, rfl, ρ', _, cs2, w', ⟨finish_ok hf2 F' hv, hc2, p'⟩, hp, fun cs0 => apply_recover_some hro (hsome cs0) hr⟩
  | round l fn tm n asg body =>
    obtain ⟨b, d, k, tmps, hr, hρ, ht⟩ := hn
    simp only [afterA, okk] at ha; subst ha
    exact ⟨_, rfl, ρ', _, fr :: cs, w', ⟨⟨rfl, ht, .cons (.code _) (.cons .beginRound (.cons (.code _) .nil)), .nil, .run, rfl, (show RoR ρ' (some l) (some b) from ⟨d, k, hρ⟩)⟩, .cons F' C', p'⟩, hp, fun cs0 => apply_round hr⟩
  | panic v =>
    obtain ⟨x, hr, hv⟩ := hn
    simp only [afterA, okk] at ha; subst ha
    exact ⟨_, rfl, ρ', _, cs, w', ⟨raise_ok F' (PeR.one hv), C', p'⟩, hp, fun cs0 => apply_panic hr⟩
theorem RoR.inv_none {f : AF} {fr : Frame} (F : FrR η ρ f fr) (h : f.round = none) : fr.roundOf = none := by
  have := F.round
  rw [h] at this
  cases h2 : fr.roundOf with
  | none => rfl
  | some b => rw [h2] at this; exact this.elim
theorem RoR.inv_some {f : AF} {fr : Frame} (F : FrR η ρ f fr) {l : Nat} (h : f.round = some l) : ∃ b d n, fr.roundOf = some b ∧ ρ l = some (b, d, n) := by
  have := F.round
  rw [h] at this
  cases h2 : fr.roundOf with
  | none => rw [h2] at this; exact this.elim
  | some b => rw [h2] at this; obtain ⟨d, n, e⟩ := this; exact ⟨b, d, n, rfl, e⟩
theorem return_ok {f : AF} {fr : Frame} {acs : List AF} {cs : List Frame} {v x : Value} {r : AR} (F : FrR η ρ f fr) (C : L2 (FrR η ρ) acs cs) (p : Pre η P ρ B h w) (hv : VR η ρ v x) (hr : returnA f acs v h = .ok r) :
    (∃ s', r = .next s' ∧ s'.hp = h ∧ ∃ fr' cs', SR η P ρ B s' fr' cs' w ∧ ∀ cs0, (doReturn P true fr (cs ++ cs0) none x w) = .go (run0 fr' (cs' ++ cs0)) w) ∨
    (r = .done f.fn v h ∧ acs = [] ∧ f.kind = .normal ∧ f.round = none) := by
  unfold returnA at hr
  split at hr
  · rw [ite_no', okk] at hr
    obtain ⟨hk, rfl⟩ := hr
    have hk1 : f.kind = .normal := by
      cases h1 : f.kind <;> rw [h1] at hk <;> first | rfl | simp at hk
    have hk2 : f.round = none := by
      cases h1 : f.round <;> rw [h1] at hk <;> first | rfl | simp at hk
    exact .inr ⟨rfl, rfl, hk1, hk2⟩
  · rename_i c rest
    obtain ⟨c', rest', rfl, hc, hrest⟩ := C.inv_cons
    refine .inl ?_
    split at hr
    · rename_i hk
      have hk' : fr.kind = .normal := by rw [F.kind, hk]
      simp only [bind_ok] at hr
      obtain ⟨c2, hc2, hr⟩ := hr
      rw [okk] at hr; subst hr
      exact ⟨_, rfl, rfl, _, rest', ⟨finish_ok hc2 hc hv, hrest, p⟩, fun cs0 => by simp [doReturn, hk', run0]⟩
    · rename_i hk
      have hk' : fr.kind = .deferred := by rw [F.kind, hk]
      have hm := hc.mode
      split at hr
      · rename_i v0 gx older hmo
        rw [hmo] at hm
        rw [ite_no', okk] at hr
        obtain ⟨hold, rfl⟩ := hr
        generalize hm' : c'.mode = m' at hm
        cases hm with
        | panicking hl =>
          obtain ⟨e', older', rfl, he, ho⟩ := hl.inv_cons
          obtain ⟨v', rec', gx'⟩ := e'
          obtain ⟨hv', hrc, hgx⟩ := he
          simp only at hrc hgx
          subst hrc
          have : older' = [] := by
            have : older = [] := by simpa using hold
            subst this
            exact ho.inv_nil
          subst this
          refine ⟨_, rfl, rfl, { c' with mode := .returning }, rest', ⟨⟨hc.fn, hc.tm, hc.todo, hc.defers, .returning, hc.kind, hc.round⟩, hrest, p⟩, fun cs0 => ?_⟩
          simp [doReturn, hk', hm', run0]
      · rename_i hno
        rw [okk] at hr; subst hr
        refine ⟨_, rfl, rfl, c', rest', ⟨hc, hrest, p⟩, fun cs0 => ?_⟩
        generalize hm' : c'.mode = m' at hm
        generalize hm2 : c.mode = m2 at hm
        simp only [doReturn, List.cons_append, hk', hm', run0]
        cases hm with
        | run => rfl
        | returning => rfl
        | panicking hl =>
          cases hl with
          | nil => rfl
          | cons he ho =>
            rename_i e e' l l'
            obtain ⟨v, rec, gx⟩ := e
            obtain ⟨v', rec', gx'⟩ := e'
            obtain ⟨hv, hrc, hgx⟩ := he
            simp only at hv hrc hgx
            subst hrc; subst hgx
            cases rec with
            | false => rfl
            | true => exact absurd hm2 (hno _ _ _)
    · simp [no] at hr
theorem HR.loop (H : HR η ρ B h w) {r : Nat} {st : LoopState} {pend : Option Code} {fn : FuncId} {tm : T Value} {n : Nat} {ps : List Tmp} {asg body : Code} {ds : Nat} (hg : h.objs.get r = some (.loop st pend fn tm n ps asg body ds)) :
    ∃ b d k l, ρ r = some (b, d, k) ∧ w.heap[b]? = some (.loop l) ∧ l.state = st ∧ l.pending = pend ∧ l.fn = fn ∧ TR η ρ tm n l.tmps ∧ l.params.toList = ps ∧ l.assign = asg ∧ l.body = body ∧ ∃ d n, ρ ds = some (l.defers, d, n) := by
  obtain ⟨b, d, k, o, h1, h2, ⟨l, rfl, h3⟩, _⟩ := H.obj _ _ hg
  exact ⟨b, d, k, l, h1, h2, h3⟩
theorem Post.loop (p : Pre η P ρ B h w) {r b d k : Nat} {st st' : LoopState} {pend pend' : Option Code} {fn : FuncId} {tm : T Value} {n : Nat} {ps : List Tmp} {asg body : Code} {ds : Nat} {l : Loop} (hg : h.objs.get r = some (.loop st pend fn tm n ps asg body ds))
    (he : ρ r = some (b, d, k)) (hb : w.heap[b]? = some (.loop l)) : Post η ρ B h w ρ (putA h r (.loop st' pend' fn tm n ps asg body ds)) (wput w b (.loop { l with state := st', pending := pend' })) := by
  obtain ⟨b2, d2, k2, l2, h1, h2, h3, h4, h5, h6, h7, h8, h9, h10⟩ := p.hr.loop hg
  rw [he] at h1; cases h1
  rw [hb] at h2; cases h2
  exact Post.put p hg rfl he rfl ⟨_, rfl, rfl, rfl, h5, h6, h7, h8, h9, h10⟩
end
end Go.Ev

