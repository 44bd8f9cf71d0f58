/- The operations that make one block. -/
import Derived.Test.YtangiefkpllnmaaGreatDoorEvRead5
namespace Go.Ev
set_option linter.unusedVariables false
set_option linter.unusedSimpArgs false
variable {η : Nat → Value}
theorem rep_len (z : List Value) : ∀ c, (rep z c).length = c * z.length
  | 0 => by simp [rep]
  | c + 1 => by rw [rep, List.length_append, rep_len z c, Nat.add_mul]; omega
theorem rep_get (z : List Value) : ∀ (c i : Nat), i < c * z.length → (rep z c)[i]? = z[i % z.length]?
  | 0, i, h => by omega
  | c + 1, i, h => by
    rw [rep]
    by_cases hi : i < z.length
    · rw [List.getElem?_append_left hi, Nat.mod_eq_of_lt hi]
    · rw [List.getElem?_append_right (by omega), rep_get z c (i - z.length) (by rw [Nat.add_mul] at h; omega)]
      congr 1
      conv => rhs; rw [show i = (i - z.length) + z.length by omega]
      rw [Nat.add_mod_right]
theorem range_rep {z : Array Value} {c n : Nat} (hn : n = c * z.toList.length) : ((Array.range n).map (z[· % z.size]!)).toList = rep z.toList c := by
  apply List.ext_getElem?
  intro i
  have hz : z.size = z.toList.length := rfl
  by_cases hi : i < n
  · rw [rep_get _ _ _ (by omega)]
    have hpos : 0 < z.toList.length := by rcases Nat.eq_zero_or_pos z.toList.length with h | h
                                          · rw [h] at hn; simp at hn; omega
                                          · exact h
    have hm : i % z.size < z.size := Nat.mod_lt _ hpos
    simp [Array.getElem?_range, hi, hm]
  · rw [List.getElem?_eq_none (by simp; omega), List.getElem?_eq_none (by rw [rep_len]; omega)]
theorem wrap_small {n : Int} (h0 : 0 ≤ n) (h1 : n < 9223372036854775808) : IntKind.i64.wrap n = n := by
  have e1 : (2 : Int) ^ IntKind.i64.bits = 18446744073709551616 := by decide
  have e2 : (2 : Int) ^ (IntKind.i64.bits - 1) = 9223372036854775808 := by decide
  have e3 : IntKind.i64.signed = true := rfl
  unfold IntKind.wrap
  simp only [e1, e2, e3]
  have : n % 18446744073709551616 = n := Int.emod_eq_of_lt h0 (by omega)
  rw [this, if_neg (by simp; omega)]
theorem LR.rep {ρ : Env} {z : List Value} (hz : LR η ρ z z) : ∀ c, LR η ρ (Ev.rep z c) (Ev.rep z c)
  | 0 => .nil
  | c + 1 => hz.append (LR.rep hz c)
/-- A row of cells of its own. -/
theorem CR.new {ρ : Env} {ty : TypeId} {c : List Value} {C : Array Value} {p : Bool} (hl : LR η ρ c C.toList) : OR η ρ (.cells ty c p 2) 0 C.size (.cells C ty) :=
  ⟨C, ty, 0, 0, rfl, rfl, by simp, by rw [hl.len]; exact Nat.le_refl _, fun i v h => by
    obtain ⟨x, h1, h2⟩ := hl.get h
    exact ⟨x, by rw [Nat.zero_add]; exact h1, h2⟩, fun _ => ⟨rfl, rfl, rfl, by rw [hl.len]; rfl⟩, fun _ i _ h => by omega⟩
def wpush (w : World) (o : Obj) : World := { w with heap := w.heap.push o }
theorem run_newRow {P : Program} {w : World} {elem : TypeId} {cells : Array Value} : (newRow elem cells).run P w = .ok ⟨w.heap.size, 0, none⟩ (wpush w (.cells cells elem)) := rfl
theorem run_newVar {P : Program} {w : World} {elem : TypeId} {v : Value} : (newVar elem v).run P w = .ok ⟨w.heap.size, 0, none⟩ (wpush w (.cells v.cells elem)) := rfl
structure Pushed (w w' : World) (o : Obj) : Prop where
  heap : w'.heap = w.heap.push o
  os : w'.os = w.os
  tape : w'.tape = w.tape
  output : w'.output = w.output
section
variable {P : Program} {ρ : Env} {w : World}
theorem VR.ptr_new {ρ' : Env} {r g n : Nat} (h : ρ' r = some (g, 0, n)) : VR η ρ' (.pointer (some ⟨r, 0, none⟩)) (.pointer (some ⟨g, 0, none⟩)) := by
  have := VR.ptr (η := η) (o := 0) h
  exact this
theorem VR.slice_new {ρ' : Env} {r g n l c : Nat} (h : ρ' r = some (g, 0, n)) (hc : isU c = false) : VR η ρ' (.slice (some ⟨r, 0, none⟩) l c) (.slice (some ⟨g, 0, none⟩) l c) := by
  have := VR.slice (η := η) (o := 0) l c h hc
  exact this
theorem isU_small {c : Nat} (h : c < 9223372036854775808) : isU c = false := by
  simp only [isU, decide_eq_false_iff_not]
  have : capB = 9223372036854775808 := rfl
  omega
def AOut (η : Nat → Value) (ρ : Env) (P : Program) (w : World) (s : Sem Value) (r : Nat) (v : Value) (b : AObj) : Prop :=
  ∃ x w' ob n, s.run P w = .ok x w' ∧ Pushed w w' ob ∧ ∀ ρ', Env.le ρ ρ' → ρ' r = some (w.heap.size, 0, n) → VR η ρ' v x ∧ OR η ρ' b 0 n ob
/-- The zero cells of so many elements. -/
theorem zeros_ok (hη : OneCells η) {elem : TypeId} {c size : Nat} {z : List Value} (hz : (if c * size = 0 then .ok [] else do .ok (cellsL (← zeroA P elem)) : M (List Value)) = .ok z) (hzl : ¬ (c * size ≠ 0 ∧ z.length ≠ size)) :
    (c * size = 0 ∧ z = [] ∧ LR η ρ (rep z c) ((Array.range (c * size)).map ((#[] : Array Value)[· % (#[] : Array Value).size]!)).toList) ∨
    (c * size ≠ 0 ∧ ∃ zv, zeroA P elem = .ok zv ∧ LR η ρ (rep z c) ((Array.range (c * size)).map (zv.cells[· % zv.cells.size]!)).toList) := by
  have hnil : ∀ c, rep [] c = [] := fun c => by induction c with
    | zero => rfl
    | succ c ih => simp [rep, ih]
  by_cases h0 : c * size = 0
  · rw [if_pos h0, okk] at hz; subst hz
    refine .inl ⟨h0, rfl, ?_⟩
    rw [hnil, h0]
    exact ⟨by simp, fun i v x hv => by simp at hv⟩
  · rw [if_neg h0] at hz
    simp only [bind_ok] at hz
    obtain ⟨zv, hzv, hz⟩ := hz
    rw [okk] at hz; subst hz
    have hl := (VR.zero (η := η) (ρ := ρ) hzv).cells hη
    have he : cellsL zv = zv.cells.toList := by cases zv <;> rfl
    have hlen : (cellsL zv).length = size := by
      rcases Decidable.em ((cellsL zv).length = size) with h | h
      · exact h
      · exact absurd ⟨h0, h⟩ hzl
    refine .inr ⟨h0, zv, hzv, ?_⟩
    rw [range_rep (c := c) (by rw [← he, hlen]), he]
    rw [he] at hl
    exact LR.rep hl _
theorem buildSlice_ok (hη : OneCells η) {t elem : TypeId} {len size : Nat} {ps : List (Nat × Value)} {ps' : Array (Nat × Value)} {z cs : List Value} {r : Nat} (hd : P.underlying t = some (.slice elem)) (hsz : sizeA P elem = .ok size)
    (hbig : ¬ (len * size > 65536 ∨ len > 65536)) (hz : (if len * size = 0 then .ok [] else do .ok (cellsL (← zeroA P elem)) : M (List Value)) = .ok z) (hzl : ¬ (len * size ≠ 0 ∧ z.length ≠ size))
    (hcs : fillA (fun i => some (i * size, size)) (rep z len) ps = .ok cs) (hp : L2 (fun p q : Nat × Value => p.1 = q.1 ∧ VR η ρ p.2 q.2) ps ps'.toList) :
    AOut η ρ P w (Instr.buildSlice t len ps') r (.slice (some ⟨r, 0, none⟩) len len) (.cells elem cs true 2) := by
  have hlen : isU len = false := isU_small (by omega)
  rcases zeros_ok (η := η) (ρ := ρ) hη hz hzl with ⟨h0, _, hLR⟩ | ⟨h0, zv, hzv, hLR⟩
  · obtain ⟨C, hC, hCr⟩ := fillA_ok hη hp hcs hLR
    refine ⟨.slice (some ⟨w.heap.size, 0, none⟩) len len, wpush w (.cells C elem), .cells C elem, C.size, ?_, ⟨rfl, rfl, rfl, rfl⟩, fun ρ' hl hρ => ⟨VR.slice_new hρ hlen, CR.new (hCr.mono hl)⟩⟩
    simp only [Instr.buildSlice, Sem.run_bind, run_und hd, Result.andThen_ok, run_size hsz]
    rw [if_neg (by omega)]
    simp only [h0] at hC ⊢
    simp only [if_true, Sem.run_bind, Sem.run_pure, Result.andThen_ok]
    rw [hC]
    simp only [Sem.run_bind, run_newRow, Result.andThen_ok]; rfl
  · obtain ⟨C, hC, hCr⟩ := fillA_ok hη hp hcs hLR
    refine ⟨.slice (some ⟨w.heap.size, 0, none⟩) len len, wpush w (.cells C elem), .cells C elem, C.size, ?_, ⟨rfl, rfl, rfl, rfl⟩, fun ρ' hl hρ => ⟨VR.slice_new hρ hlen, CR.new (hCr.mono hl)⟩⟩
    simp only [Instr.buildSlice, Sem.run_bind, run_und hd, Result.andThen_ok, run_size hsz]
    rw [if_neg (by omega), if_neg h0]
    simp only [Sem.run_bind, run_zero hzv, Sem.run_pure, Result.andThen_ok]
    rw [hC]
    simp only [Sem.run_bind, run_newRow, Result.andThen_ok]; rfl
theorem makeSlice_ok (hη : OneCells η) {t elem : TypeId} {li ci : Int} {lk ck : IntKind} {ei : TypeInfo} {z : List Value} {r : Nat} (hd : P.underlying t = some (.slice elem)) (hei : P.info? elem = some ei)
    (hb : ¬ (li < 0 ∨ ci < li ∨ ci > 1000000 ∨ ei.bytes > 65536)) (hz : (if ci.toNat * ei.size = 0 then .ok [] else do .ok (cellsL (← zeroA P elem)) : M (List Value)) = .ok z) (hzl : ¬ (ci.toNat * ei.size ≠ 0 ∧ z.length ≠ ei.size)) :
    AOut η ρ P w (Instr.makeSlice t (.int lk li) (.int ck ci)) r (.slice (some ⟨r, 0, none⟩) li.toNat ci.toNat) (.cells elem (rep z ci.toNat) true 2) := by
  simp only [not_or, Int.not_lt, gt_iff_lt, Nat.not_lt] at hb
  obtain ⟨hl0, hcl, hc1, hby⟩ := hb
  have hsz : sizeA P elem = .ok ei.size := sizeA_ok.2 ⟨ei, hei, rfl⟩
  have wl : IntKind.i64.wrap li = li := wrap_small hl0 (by omega)
  have wc : IntKind.i64.wrap ci = ci := wrap_small (by omega) (by omega)
  have hbig : ¬ ((ei.bytes : Int) * ci > 2 ^ 48) := by
    have : (ei.bytes : Int) * ci ≤ 65536 * 1000000 := Int.mul_le_mul (by omega) hc1 (by omega) (by omega)
    omega
  have hlen : isU ci.toNat = false := isU_small (by omega)
  rcases zeros_ok (η := η) (ρ := ρ) hη hz hzl with ⟨h0, _, hLR⟩ | ⟨h0, zv, hzv, hLR⟩
  · refine ⟨.slice (some ⟨w.heap.size, 0, none⟩) li.toNat ci.toNat, wpush w (.cells _ elem), .cells _ elem, _, ?_, ⟨rfl, rfl, rfl, rfl⟩, fun ρ' hl hρ => ⟨VR.slice_new hρ hlen, CR.new (hLR.mono hl)⟩⟩
    simp only [Instr.makeSlice, Sem.run_bind, run_und hd, Result.andThen_ok, asInt, run_asIntOf, Sem.run_pure, run_info hei, wl, wc]
    rw [if_neg (by simp only [Bool.or_eq_true, decide_eq_true_eq]; omega)]
    simp only [Sem.run_bind, Sem.run_pure, run_askRoom, Result.andThen_ok, run_size hsz]
    simp only [h0, if_true, Sem.run_bind, Sem.run_pure, Result.andThen_ok, run_newRow]
  · refine ⟨.slice (some ⟨w.heap.size, 0, none⟩) li.toNat ci.toNat, wpush w (.cells _ elem), .cells _ elem, _, ?_, ⟨rfl, rfl, rfl, rfl⟩, fun ρ' hl hρ => ⟨VR.slice_new hρ hlen, CR.new (hLR.mono hl)⟩⟩
    simp only [Instr.makeSlice, Sem.run_bind, run_und hd, Result.andThen_ok, asInt, run_asIntOf, Sem.run_pure, run_info hei, wl, wc]
    rw [if_neg (by simp only [Bool.or_eq_true, decide_eq_true_eq]; omega)]
    simp only [Sem.run_bind, Sem.run_pure, run_askRoom, Result.andThen_ok, run_size hsz]
    rw [if_neg h0]
    simp only [Sem.run_bind, run_zero hzv, Sem.run_pure, Result.andThen_ok, run_newRow]
theorem toBytes_ok {e : TypeId} {s : ByteArray} {r : Nat} (hbig : s.size ≤ 1000000) : AOut η ρ P w (Conv.stringToBytes e s) r (.slice (some ⟨r, 0, none⟩) s.size (capU 1)) (.cells e (bytesV s.data.toList) false 2) := by
  generalize hq : (Question.appendCap s.size 0 e).cut (w.tape w.drawn (Question.appendCap s.size 0 e)) = cap
  have hcap : s.size ≤ cap := by rw [← hq]; simp only [Question.cut]; omega
  have hcb : cap < capB := by
    rw [← hq]; simp only [Question.cut]; unfold capB
    have := Nat.mod_lt (w.tape w.drawn (Question.appendCap s.size 0 e)) (show 0 < 2 ^ 63 - s.size by omega)
    omega
  have hch : (choose (.appendCap s.size 0 e)).run P w = .ok cap { w with drawn := w.drawn + 1 } := by
    rw [run_choose, hq]; simp [Question.forced]
  obtain ⟨C, hC⟩ : ∃ C : Array Value, s.data.map (fun b => Value.int .u8 b.toNat) ++ Array.replicate (cap - s.size) (.int .u8 0) = C := ⟨_, rfl⟩
  have hCl : C.toList = bytesV s.data.toList ++ List.replicate (cap - s.size) (.int .u8 0) := by rw [← hC]; simp [bytesV]
  have hbl : (bytesV s.data.toList).length = s.size := by rw [bytesV, List.length_map]; rfl
  have hCs : C.size = cap := by
    have : C.size = C.toList.length := rfl
    rw [this, hCl, List.length_append, hbl, List.length_replicate]; omega
  refine ⟨.slice (some ⟨w.heap.size, 0, none⟩) s.size cap, { wpush w (.cells C e (cap, cap + 1)) with drawn := w.drawn + 1 }, .cells C e (cap, cap + 1), cap, ?_, ⟨rfl, rfl, rfl, rfl⟩, fun ρ' hle hρ => ⟨?_, ?_⟩⟩
  · simp only [Conv.stringToBytes, Sem.run_bind, hch, Result.andThen_ok, hC, run_newRow]
    have hfz : ({ w with drawn := w.drawn + 1 } : World).heap.size = w.heap.size := rfl
    simp only [markStringish, Sem.run_bind, run_shape, Result.andThen_ok]
    have hsh : (wpush { w with drawn := w.drawn + 1 } (.cells C e)).shape? w.heap.size = some (e, cap) := by
      simp only [World.shape?, wpush, Array.getElem?_push, if_true, hCs]
    rw [hfz, hsh]
    simp only [run_freeze, Result.andThen_ok, Sem.run_pure]
    congr 1
    simp only [World.freeze, wpush]
    rw [if_neg (by omega)]
    congr 1
    apply Array.ext_getElem?
    intro k
    rw [Array.getElem?_modify, Array.getElem?_push, Array.getElem?_push]
    by_cases hk : k = w.heap.size
    · subst hk; simp
    · rw [if_neg (fun e => hk e.symm), if_neg hk, if_neg hk]
  · have := VR.sliceU (η := η) (ρ := ρ') (o := 0) s.size 1 cap hρ (by omega) (by omega) hcap hcb
    exact this
  · refine ⟨C, e, cap, cap + 1, rfl, ⟨rfl, ?_, ?_, ?_, (fun h => absurd h (by decide)), (fun _ i hi h => by omega)⟩⟩
    · have : C.toList.length = C.size := rfl
      omega
    · rw [hbl]; exact hcap
    · intro i u hu
      refine ⟨u, ?_, ?_⟩
      · rw [hCl, Nat.zero_add, List.getElem?_append_left (List.getElem?_eq_some_iff.1 hu).1]; exact hu
      · simp only [bytesV, List.getElem?_map, Option.map_eq_some_iff] at hu
        obtain ⟨b, _, rfl⟩ := hu
        exact .int _ _
theorem allocA_ok (hη : OneCells η) {o : Oper} {σ τ : Operand → Value} (hs : ∀ x ∈ o.op.operands.toList, VR η ρ (σ x) (τ x)) {r : Nat} {v : Value} {b : AObj} (hr : allocA P σ o r = .ok (v, b)) :
    ownO b = true ∧ ∃ x w' ob n, (execOp τ o).run P w = .ok (.value x) w' ∧ Pushed w w' ob ∧ ∀ ρ', Env.le ρ ρ' → ρ' r = some (w.heap.size, 0, n) → VR η ρ' v x ∧ OR η ρ' b 0 n ob := by
  obtain ⟨dst, op, type, pos, after, guard⟩ := o
  have val : ∀ {s : Sem Value}, AOut η ρ P w s r v b → ∃ x w' ob n, ((do pure (.value (← s)) : Sem Next)).run P w = .ok (.value x) w' ∧ Pushed w w' ob ∧ ∀ ρ', Env.le ρ ρ' → ρ' r = some (w.heap.size, 0, n) → VR η ρ' v x ∧ OR η ρ' b 0 n ob := by
    rintro s ⟨x, w', ob, n, h1, h2, h3⟩
    exact ⟨x, w', ob, n, by simp only [Sem.run_bind, h1, Result.andThen_ok]; rfl, h2, h3⟩
  unfold allocA at hr
  dsimp only at hr
  simp only [] at hs
  split at hr
  · rename_i elem
    simp only [Op.operands] at hs
    simp only [bind_ok] at hr
    obtain ⟨z, hz, hr⟩ := hr
    rw [okk] at hr; injection hr with e1 e2; subst e1; subst e2
    exact ⟨rfl, val (s := Instr.alloc elem true (.tuple #[])) ⟨.pointer (some ⟨w.heap.size, 0, none⟩), wpush w (.cells z.cells elem), .cells z.cells elem, z.cells.size, by simp only [Instr.alloc, Sem.run_bind, run_zero hz, Result.andThen_ok, run_newVar]; rfl, ⟨rfl, rfl, rfl, rfl⟩, fun ρ' hl hρ => ⟨VR.ptr_new hρ, CR.new (((VR.zero hz).cells hη))⟩⟩⟩
  · rename_i elem x
    simp only [Op.operands] at hs
    rw [okk] at hr; injection hr with e1 e2; subst e1; subst e2
    have hx := hs x (by simp)
    exact ⟨rfl, val (s := Instr.box elem (τ x)) ⟨.pointer (some ⟨w.heap.size, 0, none⟩), wpush w (.cells (τ x).cells elem), .cells (τ x).cells elem, (τ x).cells.size, by simp only [Instr.box, Sem.run_bind, run_newVar, Result.andThen_ok]; rfl, ⟨rfl, rfl, rfl, rfl⟩, fun ρ' hl hρ => ⟨VR.ptr_new hρ, CR.new ((hx.mono hl).cells hη)⟩⟩⟩
  · rename_i t len parts
    simp only [Op.operands] at hs
    simp only [bind_ok, undA_ok] at hr
    obtain ⟨d, hd, hr⟩ := hr
    split at hr
    · rename_i elem
      simp only [bind_ok] at hr
      obtain ⟨size, hsz, hr⟩ := hr
      rw [ite_no] at hr
      obtain ⟨hbig, hr⟩ := hr
      simp only [bind_ok] at hr
      obtain ⟨z, hz, hr⟩ := hr
      rw [ite_no] at hr
      obtain ⟨hzl, hr⟩ := hr
      simp only [bind_ok] at hr
      obtain ⟨cs, hcs, hr⟩ := hr
      rw [okk] at hr; injection hr with e1 e2; subst e1; subst e2
      have hp := parts_rel (η := η) (ρ := ρ) (σ := σ) (τ := τ) (ps := parts) (fun p hp => hs p.2 (by simp; exact ⟨p.1, by simpa using hp⟩))
      exact ⟨rfl, val (buildSlice_ok hη hd hsz hbig hz hzl hcs hp)⟩
    · simp [no] at hr
  · rename_i t hint
    simp only [Op.operands] at hs
    simp only [bind_ok, undA_ok] at hr
    obtain ⟨d, hd, hr⟩ := hr
    split at hr
    · rw [okk] at hr; injection hr with e1 e2; subst e1; subst e2
      exact ⟨rfl, val (s := Instr.makeMap t none) ⟨.map (some w.heap.size), wpush w (.map #[] 0), .map #[] 0, 0, rfl, ⟨rfl, rfl, rfl, rfl⟩, fun ρ' hl hρ => ⟨.map hρ, ⟨#[], rfl, .nil⟩⟩⟩⟩
    · rename_i k e x
      simp only [bind_ok, intOfA_ok] at hr
      obtain ⟨i, ⟨kk, hi⟩, hr⟩ := hr
      rw [okk] at hr; injection hr with e1 e2; subst e1; subst e2
      have hx := hs x (by simp)
      rw [hi] at hx
      have hx := hx.int_inv
      exact ⟨rfl, val (s := Instr.makeMap t (some (τ x))) ⟨.map (some w.heap.size), wpush w (.map #[] 0), .map #[] 0, 0, by simp only [Instr.makeMap, Sem.run_bind, run_und hd, Result.andThen_ok, hx, asInt, run_asIntOf, Sem.run_pure]; rfl, ⟨rfl, rfl, rfl, rfl⟩, fun ρ' hl hρ => ⟨.map hρ, ⟨#[], rfl, .nil⟩⟩⟩⟩
    · simp [no] at hr
  · rename_i t l c
    simp only [Op.operands] at hs
    simp only [bind_ok, undA_ok] at hr
    obtain ⟨d, hd, hr⟩ := hr
    split at hr
    · rename_i elem
      simp only [bind_ok, intOfA_ok, infoA_ok] at hr
      obtain ⟨li, ⟨lk, hli⟩, ci, ⟨ck, hci⟩, ei, hei, hr⟩ := hr
      rw [ite_no] at hr
      obtain ⟨hb, hr⟩ := hr
      simp only [bind_ok] at hr
      obtain ⟨z, hz, hr⟩ := hr
      rw [ite_no] at hr
      obtain ⟨hzl, hr⟩ := hr
      rw [okk] at hr; injection hr with e1 e2; subst e1; subst e2
      have hl := hs l (by simp); have hc := hs c (by simp)
      rw [hli] at hl; rw [hci] at hc
      have hl := hl.int_inv; have hc := hc.int_inv
      have := makeSlice_ok (η := η) (ρ := ρ) (P := P) (w := w) (r := r) (lk := lk) (ck := ck) hη hd hei hb hz hzl
      rw [← hl, ← hc] at this
      exact ⟨rfl, val this⟩
    · simp [no] at hr
  · rename_i src dst x
    simp only [Op.operands] at hs
    simp only [bind_ok, undA_ok] at hr
    obtain ⟨sd, hsd, dd, hdd, hr⟩ := hr
    have hx := hs x (by simp)
    split at hr
    · rename_i e s hse
      simp only [bind_ok, undA_ok] at hr
      obtain ⟨ed, hed, hr⟩ := hr
      rw [hse] at hx
      have hx := hx.string_inv
      split at hr
      · rw [ite_no, okk] at hr
        obtain ⟨hbig, hr⟩ := hr
        injection hr with e1 e2; subst e1; subst e2
        obtain ⟨y, w', ob, n, h1, h2⟩ := toBytes_ok (η := η) (ρ := ρ) (P := P) (w := w) (e := e) (s := s) (r := r) (by omega)
        refine ⟨rfl, val (s := convert src dst (τ x)) ⟨y, w', ob, n, ?_, h2⟩⟩
        have hcv : convert src dst (τ x) = convert src dst (.string s) := by rw [hx]
        rw [hcv]
        simp only [convert, Sem.run_bind, run_und hsd, run_und hdd, Result.andThen_ok]
        have : ∀ (u : TypeDesc) (K : TypeDesc → Sem Value), True := fun _ _ => trivial
        simp only [Sem.run_bind, run_und hed, Result.andThen_ok, h1]
      · simp [no] at hr
    · simp [no] at hr
  · simp [no] at hr
end
end Go.Ev
