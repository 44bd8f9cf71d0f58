/- append, copy. -/
import Derived.Test.YtangiefkpllnmaaGreatDoorEvPost
namespace Go.Ev
set_option linter.unusedVariables false
set_option linter.unusedSimpArgs false
variable {η : Nat → Value}
section
variable {P : Program} {ρ : Env} {B : Nat} {h : AH} {w : World}
theorem firstA_ok (H : HR η ρ B h w) {size n : Nat} {v x : Value} {l : List Value} (hf : firstA h size n v = .ok l) (hx : VR η ρ v x) :
    ∃ m : Array Value, (Builtin.firstCells size n x).run P w = .ok m w ∧ LR η ρ l m.toList := by
  unfold firstA at hf
  split at hf
  · rename_i a len c
    obtain ⟨a', c', rfl, hc⟩ := hx.slice_inv
    obtain ⟨q, rfl, hq⟩ : ∃ q, a' = some q ∧ AdR ρ a q := by
      rcases hc with ⟨e, _⟩ | ⟨_, q, e, e', hq, _⟩ | ⟨_, q, _, _, _, _, e, e', hq, _⟩
      · cases e
      · cases e; exact ⟨q, e', hq⟩
      · cases e; exact ⟨q, e', hq⟩
    obtain ⟨vs, h1, h2, h3⟩ := getC_ok H hf hq
    exact ⟨vs.toArray, by simp only [Builtin.firstCells, cells_of_list h2 h3], by simpa using h1⟩
  · rename_i len c
    obtain ⟨a', c', rfl, hc⟩ := hx.slice_inv
    have e1 : a' = none := by rcases hc with ⟨_, e, _⟩ | ⟨_, _, e, _⟩ | ⟨_, _, _, _, _, _, e, _⟩ <;> first | exact e | cases e
    subst e1
    rw [ite_no', okk] at hf
    obtain ⟨_, rfl⟩ := hf
    exact ⟨#[], rfl, .nil⟩
  · rename_i s
    have := hx.string_inv; subst this
    rw [ite_no', okk] at hf
    obtain ⟨_, rfl⟩ := hf
    refine ⟨_, rfl, ?_⟩
    have : ((s.extract 0 n).data.map fun b => Value.int .u8 b.toNat).toList = bytesV (s.data.toList.take n) := by
      rw [Array.toList_map, ByteArray.data_extract]
      simp [bytesV, List.extract]
    rw [this]
    generalize s.data.toList.take n = l
    induction l with
    | nil => exact .nil
    | cons b l ih => exact .cons (.int _ _) ih
  · simp [no] at hf
theorem lenA_ok {v x : Value} {n : Nat} (hl : lenA v = .ok n) (hx : VR η ρ v x) : (Builtin.lenOf x).run P w = .ok n w := by
  unfold lenA at hl
  split at hl
  · obtain ⟨a', c', rfl, hc⟩ := hx.slice_inv
    rw [okk] at hl; subst hl; rfl
  · have := hx.string_inv; subst this
    rw [okk] at hl; subst hl; rfl
  · simp [no] at hl
theorem growBy_le (n : Nat) : ∀ (r c : Nat), Builtin.growBy n r c ≤ Nat.max c (n + (n + 768) / 4)
  | 0, c => by simp only [Builtin.growBy]; exact Nat.le_max_left _ _
  | r + 1, c => by
    simp only [Builtin.growBy]
    split
    · exact Nat.le_max_left _ _
    · have := growBy_le n r (c + (c + 768) / 4)
      have h2 : c + (c + 768) / 4 ≤ n + (n + 768) / 4 := by omega
      have h3 : Nat.max (c + (c + 768) / 4) (n + (n + 768) / 4) = n + (n + 768) / 4 := Nat.max_eq_right h2
      rw [h3] at this
      exact Nat.le_trans this (Nat.le_max_right _ _)
theorem nextcap_le {n c : Nat} (hn : n ≤ 1000000) (hc : c < n) : Builtin.nextslicecap n c ≤ 3000000 := by
  unfold Builtin.nextslicecap
  split
  · omega
  · split
    · omega
    · have := growBy_le n 4 c
      have h3 : Nat.max c (n + (n + 768) / 4) ≤ 3000000 := Nat.max_le.2 ⟨by omega, by omega⟩
      omega
theorem isIntT_run {t : TypeId} (hi : isIntT P t = .ok false) : ∃ d, P.underlying t = some d ∧ (∀ k, d ≠ .int k) := by
  simp only [isIntT, bind_ok, undA_ok] at hi
  obtain ⟨d, hd, hi⟩ := hi
  refine ⟨d, hd, fun k e => ?_⟩
  subst e
  simp only [okk] at hi; cases hi
theorem zeroCells_len (z : Array Value) (n : Nat) : (Builtin.zeroCells z n).toList.length = n * z.size := by simp [Builtin.zeroCells]
/-- What append does, if there is no room. -/
theorem run_append_new {sT xT elem : TypeId} {ei : TypeInfo} {z : Value} {type : TypeId} {base : Option Addr} {len cap n : Nat} {x : Value} {old new : Array Value} (hsT : P.underlying sT = some (.slice elem)) (hxT : isIntT P xT = .ok false)
    (hei : P.info? elem = some ei) (hz : zeroA P elem = .ok z) (hby : ei.bytes ≤ 65536) (hn : (Builtin.lenOf x).run P w = .ok n w) (hbig : len + n ≤ 1000000) (hroom : ¬ len + n ≤ cap)
    (hold : (Builtin.firstCells ei.size len (.slice base len cap)).run P { w with drawn := w.drawn + 1 } = .ok old { w with drawn := w.drawn + 1 }) (hnew : (Builtin.firstCells ei.size n x).run P { w with drawn := w.drawn + 1 } = .ok new { w with drawn := w.drawn + 1 }) :
    ∃ nc w', len + n ≤ nc ∧ nc < capB ∧ Pushed w w' (.cells (old ++ new ++ Builtin.zeroCells z.cells (nc - (len + n))) elem) ∧
      (Builtin.append_ #[sT, xT] type #[.slice base len cap, x]).run P w = .ok (.slice (some ⟨w.heap.size, 0, none⟩) (len + n) nc) w' := by
  obtain ⟨dx, hdx, hni⟩ := isIntT_run hxT
  have hsz : sizeA P elem = .ok ei.size := sizeA_ok.2 ⟨ei, hei, rfl⟩
  have hzz : (zeroValue elem).run P w = .ok z w := run_zero hz
  have hint : (dx matches .int _) = false := by cases dx <;> first | rfl | exact absurd rfl (hni _)
  generalize hq : (Question.appendCap (len + n) cap elem).cut (w.tape w.drawn (Question.appendCap (len + n) cap elem)) = nc
  have hnc : len + n ≤ nc := by rw [← hq]; simp only [Question.cut]; omega
  have hncb : nc < capB := by
    rw [← hq]; simp only [Question.cut]; unfold capB
    have := Nat.mod_lt (w.tape w.drawn (Question.appendCap (len + n) cap elem)) (show 0 < 2 ^ 63 - (len + n) by omega)
    omega
  have hch : (choose (.appendCap (len + n) cap elem)).run P w = .ok nc { w with drawn := w.drawn + 1 } := by
    rw [run_choose, hq]; simp [Question.forced]
  have hnext : Builtin.nextslicecap (len + n) cap * ei.bytes ≤ 2 ^ 48 := by
    have h1 := nextcap_le (n := len + n) (c := cap) hbig (by omega)
    have h2 : Builtin.nextslicecap (len + n) cap * ei.bytes ≤ 3000000 * 65536 := Nat.mul_le_mul h1 hby
    omega
  have hmax : IntKind.i64.max = 9223372036854775807 := by decide
  refine ⟨nc, { wpush w (.cells (old ++ new ++ Builtin.zeroCells z.cells (nc - (len + n))) elem) with drawn := w.drawn + 1 }, hnc, hncb, ⟨rfl, rfl, rfl, rfl⟩, ?_⟩
  have e0 : (#[sT, xT] : Array TypeId)[0]? = some sT := rfl
  have e1 : (#[sT, xT] : Array TypeId)[1]? = some xT := rfl
  have e2 : (#[.slice base len cap, x] : Array Value)[0]? = some (.slice base len cap) := rfl
  have e3 : (#[.slice base len cap, x] : Array Value)[1]? = some x := rfl
  simp only [Builtin.append_, e0, e1, e2, e3, Sem.run_bind, run_und hsT, run_und hdx, Result.andThen_ok, run_size hsz, Sem.run_pure, hint, Bool.false_eq_true, if_false, hn]
  rw [if_neg hroom]
  simp only [Sem.run_bind, Sem.run_pure, run_info hei, Result.andThen_ok, hmax]
  rw [if_neg (by omega)]
  simp only [Sem.run_bind, Sem.run_pure, run_info hei, Result.andThen_ok]
  rw [if_neg (by omega)]
  simp only [Sem.run_bind, Sem.run_pure, run_info hei, Result.andThen_ok, hch, run_askRoom, hold, Bool.not_false, if_true, hnew, run_zero hz, run_newRow]
  rfl
/-- What append does, if there is room. -/
theorem run_append_room {sT xT elem : TypeId} {ei : TypeInfo} {type : TypeId} {base : Option Addr} {len cap n : Nat} {x : Value} {new : Array Value} (hsT : P.underlying sT = some (.slice elem)) (hxT : isIntT P xT = .ok false)
    (hei : P.info? elem = some ei) (hn : (Builtin.lenOf x).run P w = .ok n w) (hroom : len + n ≤ cap) (hnew : (Builtin.firstCells ei.size n x).run P w = .ok new w) :
    (base = none → (Builtin.append_ #[sT, xT] type #[.slice base len cap, x]).run P w = .ok (.slice base (len + n) cap) w) ∧
    (∀ a w', base = some a → (storeCells (a.add (len * ei.size)) new.toList).run P w = .ok () w' → (Builtin.append_ #[sT, xT] type #[.slice base len cap, x]).run P w = .ok (.slice base (len + n) cap) w') := by
  obtain ⟨dx, hdx, hni⟩ := isIntT_run hxT
  have hsz : sizeA P elem = .ok ei.size := sizeA_ok.2 ⟨ei, hei, rfl⟩
  have hint : (dx matches .int _) = false := by cases dx <;> first | rfl | exact absurd rfl (hni _)
  have e0 : (#[sT, xT] : Array TypeId)[0]? = some sT := rfl
  have e1 : (#[sT, xT] : Array TypeId)[1]? = some xT := rfl
  have e2 : (#[.slice base len cap, x] : Array Value)[0]? = some (.slice base len cap) := rfl
  have e3 : (#[.slice base len cap, x] : Array Value)[1]? = some x := rfl
  constructor
  · intro hb
    subst hb
    simp only [Builtin.append_, e0, e1, e2, e3, Sem.run_bind, run_und hsT, run_und hdx, Result.andThen_ok, run_size hsz, Sem.run_pure, hint, Bool.false_eq_true, if_false, hn]
    rw [if_pos hroom]
    simp only [Sem.run_bind, Sem.run_pure, Result.andThen_ok, Bool.not_false, if_true, hnew]
  · intro a w' hb hst
    subst hb
    simp only [Builtin.append_, e0, e1, e2, e3, Sem.run_bind, run_und hsT, run_und hdx, Result.andThen_ok, run_size hsz, Sem.run_pure, hint, Bool.false_eq_true, if_false, hn]
    rw [if_pos hroom]
    simp only [Sem.run_bind, Sem.run_pure, Result.andThen_ok, Bool.not_false, if_true, hnew, hst]
theorem HR.drew (H : HR η ρ B h w) : HR η ρ B h { w with drawn := w.drawn + 1 } := ⟨H.obj, H.inj⟩
theorem Pre.drew (H : Pre η P ρ B h w) : Pre η P ρ B h { w with drawn := w.drawn + 1 } := ⟨H.hr.drew, H.fresh, H.glob, H.low⟩
theorem cells_cellsL (z : Value) : z.cells.toList = cellsL z := by cases z <;> rfl
theorem appendA_ok (hη : OneCells η) (p : Pre η P ρ B h w) {ts : List TypeId} {args : List Value} {args' : Array Value} {type : TypeId} {v : Value} {h' : AH} (ha : appendA P h ts args = .ok (v, h')) (hr : LR η ρ args args'.toList) :
    ∃ ρ' x w', (Builtin.append_ ⟨ts⟩ type args').run P w = .ok x w' ∧ VR η ρ' v x ∧ Post η ρ B h w ρ' h' w' := by
  unfold appendA at ha
  split at ha
  · rename_i sT xT base len cap x
    obtain ⟨s', m1, hm1, hs, hr1⟩ := hr.inv_cons
    obtain ⟨x', m2, hm2, hx, hr2⟩ := hr1.inv_cons
    have := hr2.inv_nil; subst this; subst hm2
    have hargs : args' = #[s', x'] := by rw [← Array.toArray_toList (xs := args'), hm1]
    subst hargs
    obtain ⟨base', cap', rfl, hc⟩ := hs.slice_inv
    simp only [bind_ok, undA_ok] at ha
    obtain ⟨d, hd, ha⟩ := ha
    split at ha
    · rename_i elem
      simp only [bind_ok, infoA_ok] at ha
      obtain ⟨ei, hei, z, hz, b, hint, ha⟩ := ha
      rw [ite_no] at ha
      obtain ⟨hb, ha⟩ := ha
      have hb : b = false := by simpa using hb
      subst hb
      rw [ite_no] at ha
      obtain ⟨hsize, ha⟩ := ha
      simp only [bind_ok] at ha
      obtain ⟨n, hn, new, hnew, old, hold, ha⟩ := ha
      rw [ite_no] at ha
      obtain ⟨hbig, ha⟩ := ha
      simp only [not_or, Decidable.not_not, gt_iff_lt, Nat.not_lt] at hsize hbig
      obtain ⟨hs0, hby, hzl⟩ := hsize
      obtain ⟨hlen, hnl, hol, hone⟩ := hbig
      have hnrun := lenA_ok (P := P) (w := w) hn hx
      -- a fresh row
      have fresh : ∀ (objs : T AObj), (∀ r y, objs.get r = some y → h.objs.get r = some y) → ¬ len + n ≤ cap' → (v, h') = freshA { h with objs } elem ei.size (len + n) (old ++ new) →
          ∃ ρ' x w', (Builtin.append_ #[sT, xT] type #[.slice base' len cap', x']).run P w = .ok x w' ∧ VR η ρ' v x ∧ Post η ρ B h w ρ' h' w' := by
        intro objs hsub hroom he
        obtain ⟨OLD, ho, hol'⟩ := firstA_ok (P := P) (w := { w with drawn := w.drawn + 1 }) p.drew.hr hold (by
          have := hs; exact this)
        obtain ⟨NEW, hnw, hnl'⟩ := firstA_ok (P := P) (w := { w with drawn := w.drawn + 1 }) p.drew.hr hnew hx
        obtain ⟨nc, w', hnc, hncb, hpush, hrun⟩ := run_append_new (P := P) (w := w) (type := type) (base := base') (old := OLD) (new := NEW) hd hint hei hz hby hnrun hlen hroom ho hnw
        simp only [freshA] at he
        injection he with e1 e2; subst e1; subst e2
        have hC : (OLD ++ NEW ++ Builtin.zeroCells z.cells (nc - (len + n))).toList = OLD.toList ++ NEW.toList ++ (Builtin.zeroCells z.cells (nc - (len + n))).toList := by simp
        have hrest := zeroCells_len z.cells (nc - (len + n))
        have hzs : z.cells.size = ei.size := by have := cells_cellsL z; have h2 : z.cells.size = z.cells.toList.length := rfl; rw [h2, this]; exact hzl
        have hOL : OLD.toList.length = len * ei.size := by rw [← hol'.len]; exact hol
        have hNL : NEW.toList.length = n * ei.size := by rw [← hnl'.len]; exact hnl
        have hCl : (OLD ++ NEW ++ Builtin.zeroCells z.cells (nc - (len + n))).toList.length = nc * ei.size := by
          rw [hC, List.length_append, List.length_append, hrest, hzs, hOL, hNL, ← Nat.add_mul, ← Nat.add_mul]
          congr 1; omega
        have hle := Env.le_put (t := (w.heap.size, 0, nc * ei.size)) (p.fresh h.next (Nat.le_refl _))
        refine ⟨ρ.put h.next (w.heap.size, 0, nc * ei.size), _, w', hrun, ?_, Post.new p hpush objs hsub ?_⟩
        · have := VR.sliceU (η := η) (ρ := ρ.put h.next (w.heap.size, 0, nc * ei.size)) (o := 0) (len + n) ei.size nc (Env.put_at _ _ _) (by omega) (by omega) hnc hncb
          exact this
        · refine ⟨_, elem, 0, 0, rfl, ⟨rfl, ?_, ?_, ?_, (fun h => by cases h), fun _ i _ hh => by omega⟩⟩
          · rw [hCl]; omega
          · rw [List.length_append, hol, hnl, ← Nat.add_mul]; exact Nat.mul_le_mul_right _ hnc
          · intro i u hu
            have hlr := (hol'.append hnl').mono hle
            obtain ⟨y, hy, hvy⟩ := hlr.get hu
            refine ⟨y, ?_, hvy⟩
            rw [Nat.zero_add, hC, List.getElem?_append_left (List.getElem?_eq_some_iff.1 hy).1]; exact hy
      by_cases hU : isU cap = true
      · rw [if_pos hU] at ha
        rcases hc with ⟨_, _, e, _⟩ | ⟨_, _, _, _, _, e, _⟩ | ⟨a, q, s, b, dd, nn, rfl, rfl, hpq, rfl, hρ, hs1, hn1, hl1, hcb⟩
        · rw [hU] at e; cases e
        · rw [hU] at e; cases e
        simp only [bind_ok] at ha
        obtain ⟨⟨ty, c, pl, own⟩, hcell, ha⟩ := ha
        simp only [ite_no] at ha
        obtain ⟨hmark, ha⟩ := ha
        simp only [not_or, Decidable.not_not] at hmark
        obtain ⟨rfl, hcs, rfl⟩ := hmark
        have hss : s = ei.size := by simp only [capU] at hcs; omega
        subst hss
        rw [okk] at ha
        by_cases hroom : len + n ≤ cap'
        · -- in place
          have hg := cellsAt_ok.1 hcell
          simp only [] at hg
          obtain ⟨b2, d2, n2, C, lo, hi, h1, h2, h3, h4⟩ := p.hr.cells hg
          rw [hρ] at h1; cases h1
          obtain ⟨hsp, n3, b3, d3, h5, rfl⟩ := hpq
          rw [hρ] at h5; cases h5
          obtain ⟨NEW, hnw, hnl'⟩ := firstA_ok (P := P) p.hr hnew hx
          have hsz : C.toList.length = dd + nn := h3.size
          have hcl : c.length ≤ nn := h3.len
          have hNL : NEW.toList.length = n * ei.size := by rw [← hnl'.len]; exact hnl
          have hmul : (len + n) * ei.size ≤ cap' * ei.size := Nat.mul_le_mul_right _ hroom
          rw [Nat.add_mul] at hmul
          have hone' : ∀ u ∈ NEW.toList, u.oneCell' = true := by
            intro u hu
            obtain ⟨i, hi', rfl⟩ := List.getElem_of_mem hu
            have hi2 : i < new.length := by omega
            have := hnl'.at_ i new[i] NEW.toList[i] (List.getElem?_eq_getElem hi2) (List.getElem?_eq_getElem hi')
            exact this.oneC hη (List.all_eq_true.1 (by simpa using hone) _ (List.getElem_mem hi2))
          obtain ⟨C', hC, hrs⟩ := run_storeCells (P := P) (o := dd + a.off + len * ei.size) NEW.toList 0 C w h2 hone' (by omega) (fun j hj => by
            have := h3.free rfl (a.off + len * ei.size + j) (by omega)
            rwa [show dd + a.off + len * ei.size + 0 + j = dd + (a.off + len * ei.size + j) by omega])
          have hrun := (run_append_room (P := P) (w := w) (type := type) (base := some ⟨b, dd + a.off, none⟩) (cap := cap') hd hint hei hnrun hroom hnw).2 _ _ rfl (by rw [add_eq rfl]; exact hrs)
          simp only [freshA] at ha
          injection ha with e1 e2; subst e1; subst e2
          have hle := Env.le_put (t := (b, dd + a.off, cap' * ei.size)) (p.fresh h.next (Nat.le_refl _))
          refine ⟨ρ.put h.next (b, dd + a.off, cap' * ei.size), _, _, hrun, ?_, Post.move p hg rfl hρ rfl ?_⟩
          · have := VR.sliceU (η := η) (ρ := ρ.put h.next (b, dd + a.off, cap' * ei.size)) (o := 0) (len + n) ei.size cap' (Env.put_at _ _ _) (by omega) (by omega) hroom hcb
            exact this
          · -- the old cells, where they lie
            obtain ⟨ovs, ho1, ho2, ho3⟩ := getC_ok p.hr (show getC h a (len * ei.size) = .ok old from hold) (b := ⟨b, dd + a.off, none⟩) ⟨hsp, nn, b, dd, hρ, rfl⟩
            refine ⟨C', ty, lo, hi, rfl, ⟨rfl, ?_, ?_, ?_, (fun h => by cases h), fun _ i hi' hh => ?_⟩⟩
            · rw [hC, splice_len _ _ _ (by omega)]; omega
            · rw [List.length_append, hol, hnl]; omega
            · intro i u hu
              by_cases hio : i < old.length
              · rw [List.getElem?_append_left hio] at hu
                obtain ⟨y, hy, hvy⟩ := ho1.get hu
                refine ⟨y, ?_, hvy.mono hle⟩
                have h6 := ho3 i y hy
                rw [add_eq rfl, cell_of h2] at h6
                rw [hC, splice_get _ _ _ (by omega), if_neg (by omega)]
                simpa [Nat.add_assoc] using h6
              · rw [List.getElem?_append_right (by omega)] at hu
                obtain ⟨y, hy, hvy⟩ := hnl'.get hu
                have hil : i - old.length < NEW.toList.length := (List.getElem?_eq_some_iff.1 hy).1
                refine ⟨y, ?_, hvy.mono hle⟩
                rw [hC, splice_get _ _ _ (by omega), if_pos (by omega)]
                rw [← hy]; congr 1; omega
            · exact h3.free rfl (a.off + i) (by omega) (by omega)
        · exact fresh _ (fun r y hy => by rw [T.get_del] at hy; split at hy; · cases hy
                                          · exact hy) hroom ha.symm
      · rw [if_neg hU] at ha
        have hcap : cap' = cap := by
          rcases hc with ⟨_, _, _, e⟩ | ⟨_, _, _, _, _, _, e⟩ | ⟨_, _, _, _, _, _, _, _, _, rfl, _⟩
          · exact e
          · exact e
          · exact absurd (isU_capU _) hU
        subst hcap
        by_cases hroom : len + n ≤ cap'
        · rw [if_pos hroom] at ha
          obtain ⟨NEW, hnw, hnl'⟩ := firstA_ok (P := P) p.hr hnew hx
          have hrr := run_append_room (P := P) (w := w) (type := type) (base := base') (cap := cap') hd hint hei hnrun hroom hnw
          have hU' : isU cap' = false := by simpa using hU
          rcases hc with ⟨rfl, rfl, _, _⟩ | ⟨a, q, rfl, rfl, hpq, _, _⟩ | ⟨_, _, _, _, _, _, _, _, _, rfl, _⟩
          · simp only [ite_no', okk] at ha
            obtain ⟨hemp, ha⟩ := ha
            injection ha with e1 e2; subst e1; subst e2
            exact ⟨ρ, _, w, hrr.1 rfl, .slice0 _ _ hU', .refl p⟩
          · simp only [bind_ok] at ha
            obtain ⟨h1, hst, ha⟩ := ha
            rw [okk] at ha; injection ha with e1 e2; subst e1; subst e2
            obtain ⟨w', hw', hpost⟩ := storeC_ok (P := P) hη p hst (hpq.add _) hnl'
            exact ⟨ρ, _, w', hrr.2 _ _ rfl hw', .slice_mk hpq hU', hpost⟩
          · exact absurd (isU_capU _) hU
        · rw [if_neg hroom, ite_no', okk] at ha
          exact fresh h.objs (fun _ _ hy => hy) hroom ha.2.symm
    · simp [no] at ha
  · simp [no] at ha
theorem copyA_ok (hη : OneCells η) (p : Pre η P ρ B h w) {ts : List TypeId} {dst src dst' src' v : Value} {type : TypeId} {h' : AH} (hc : (do
      match ← undA P (ts.headD 0), dst with
      | .slice elem, .slice base dLen _ => do
        let n := Nat.min (← lenA src) dLen
        let size ← sizeA P elem
        let cs ← firstA h size n src
        match base with
        | some a => do let h ← storeC h a cs; .ok (goInt n, h)
        | none => .ok (goInt n, h)
      | _, _ => no "copy" : M (Value × AH)) = .ok (v, h')) (hts : ts ≠ []) (h1 : VR η ρ dst dst') (h2 : VR η ρ src src') :
    ∃ x w', (Builtin.copy_ ⟨ts⟩ type #[dst', src']).run P w = .ok x w' ∧ VR η ρ v x ∧ Post η ρ B h w ρ h' w' := by
  simp only [bind_ok, undA_ok] at hc
  obtain ⟨d, hd, hc⟩ := hc
  obtain ⟨t0, ts', rfl⟩ : ∃ t0 ts', ts = t0 :: ts' := by cases ts with
    | nil => exact absurd rfl hts
    | cons a b => exact ⟨_, _, rfl⟩
  have e0 : (⟨t0 :: ts'⟩ : Array TypeId)[0]? = some t0 := rfl
  have e2 : (#[dst', src'] : Array Value)[0]? = some dst' := rfl
  have e3 : (#[dst', src'] : Array Value)[1]? = some src' := rfl
  simp only [List.headD_cons] at hd
  split at hc
  · rename_i elem base dLen cap
    obtain ⟨base', cap', rfl, hcc⟩ := h1.slice_inv
    simp only [bind_ok] at hc
    obtain ⟨n, hn, size, hsz, cs, hcs, hc⟩ := hc
    have hnr := lenA_ok (P := P) (w := w) hn h2
    obtain ⟨CS, hCS, hl⟩ := firstA_ok (P := P) p.hr hcs h2
    split at hc
    · rename_i a
      obtain ⟨q, rfl, hq⟩ : ∃ q, base' = some q ∧ AdR ρ a q := by
        rcases hcc with ⟨e, _⟩ | ⟨_, q, e, e', hq, _⟩ | ⟨_, q, _, _, _, _, e, e', hq, _⟩
        · cases e
        · cases e; exact ⟨q, e', hq⟩
        · cases e; exact ⟨q, e', hq⟩
      simp only [bind_ok] at hc
      obtain ⟨h1', hst, hc⟩ := hc
      rw [okk] at hc; injection hc with e1 e2'; subst e1; subst e2'
      obtain ⟨w', hw', hpost⟩ := storeC_ok (P := P) hη p hst hq hl
      refine ⟨_, w', ?_, .int _ _, hpost⟩
      simp only [Builtin.copy_, e0, e2, e3, Sem.run_bind, run_und hd, Result.andThen_ok, hnr, run_size hsz, hCS, hw']; rfl
    · have e1 : base' = none := by rcases hcc with ⟨_, e, _⟩ | ⟨_, _, e, _⟩ | ⟨_, _, _, _, _, _, e, _⟩ <;> first | exact e | cases e
      subst e1
      rw [okk] at hc; injection hc with e1 e2'; subst e1; subst e2'
      refine ⟨_, w, ?_, .int _ _, .refl p⟩
      simp only [Builtin.copy_, e0, e2, e3, Sem.run_bind, run_und hd, Result.andThen_ok, hnr, run_size hsz, hCS]; rfl
  · simp [no] at hc
end
end Go.Ev
