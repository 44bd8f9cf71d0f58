/- The operations that only read, all. -/
import Derived.Test.YtangiefkpllnmaaGreatDoorEvRead4
namespace Go.Ev
set_option linter.unusedVariables false
set_option linter.unusedSimpArgs false
variable {η : Nat → Value}
section
variable {P : Program} {ρ : Env} {B : Nat} {h : AH} {w : World}
theorem map_rel {σ τ : Operand → Value} {xs : Array Operand} (hs : ∀ x ∈ xs.toList, VR η ρ (σ x) (τ x)) : LR η ρ (xs.toList.map σ) (xs.map τ).toList := by
  rw [Array.toList_map]
  generalize xs.toList = l at hs
  induction l with
  | nil => exact .nil
  | cons p l ih => exact .cons (hs p (by simp)) (ih fun q hq => hs q (by simp [hq]))
theorem op_rel {σ τ : Operand → Value} {o : Option Operand} (hs : ∀ x, o = some x → VR η ρ (σ x) (τ x)) : OpR η ρ (o.map σ) (o.map τ) := by
  cases o with
  | none => trivial
  | some x => exact hs x rfl
theorem run_asIntOf {k : IntKind} {n : Int} : (asIntOf (.int k n)).run P w = .ok (k, n) w := rfl
theorem least_none {l : List String} (h : Instr.least l = none) : l = [] := by
  cases l with
  | nil => rfl
  | cons a l => simp [Instr.least] at h
theorem hasAll_true {want : Array (String × TypeId)} {got : Array Method} (h : hasAll want got = true) : Instr.missingMethod want got = none := by
  unfold hasAll at h
  rw [List.isEmpty_iff] at h
  unfold Instr.missingMethod
  rw [h]
  rfl
theorem hasAll_false {want : Array (String × TypeId)} {got : Array Method} (h : hasAll want got = false) : ∃ m, Instr.missingMethod want got = some m := by
  unfold hasAll at h
  cases hm : Instr.missingMethod want got with
  | some m => exact ⟨m, rfl⟩
  | none =>
    unfold Instr.missingMethod at hm
    generalize (want.toList.filter fun (x : String × TypeId) => !got.any fun m => m.name == x.1 && m.sig == x.2) = l at h hm
    cases l with
    | nil => simp at h
    | cons a l =>
      exfalso
      simp only [List.partition_eq_filter_filter] at hm
      have hor : ∀ {x y : Option String}, (x <|> y) = none → x = none ∧ y = none := by
        intro x y hxy
        cases x with
        | none => exact ⟨rfl, hxy⟩
        | some u => cases hxy
      obtain ⟨h1, h2⟩ := hor hm
      have h1 := least_none h1
      have h2 := least_none h2
      simp at h1 h2
      exact h2.1 h1.1
theorem assert_ok {x x' v : Value} {asserted xType : TypeId} {ok : Bool} (hx : VR η ρ x x') (hr : (do
    match ← undA P asserted, x with
    | .interface _, .nilIface => do if ok then .ok (tupL [← zeroA P asserted, .bool false]) else no "assert"
    | .interface want, .iface t v => do
      match hasAll want (← infoA P t).methods with
      | true => .ok (if ok then tupL [.iface t v, .bool true] else .iface t v)
      | false => do if ok then .ok (tupL [← zeroA P asserted, .bool false]) else no "assert"
    | _, .nilIface => do if ok then .ok (tupL [← zeroA P asserted, .bool false]) else no "assert"
    | _, .iface t v => do
      if t = asserted then .ok (if ok then tupL [v, .bool true] else v) else if ok then .ok (tupL [← zeroA P asserted, .bool false]) else no "assert"
    | _, _ => no "assert" : M Value) = .ok v) : ∃ r, (Instr.typeAssert x' xType asserted ok).run P w = .ok r w ∧ VR η ρ v r := by
  simp only [bind_ok, undA_ok] at hr
  obtain ⟨d, hd, hr⟩ := hr
  have fails : ∀ {s dy : Option TypeId} {mm : String}, (if ok then (do .ok (tupL [← zeroA P asserted, .bool false])) else no "assert" : M Value) = .ok v →
      ∃ r, (if ok then (do pure (.tuple #[← zeroValue asserted, .bool false])) else runtimePanic (.typeAssertion s dy asserted mm) : Sem Value).run P w = .ok r w ∧ VR η ρ v r := by
    intro s dy mm hf
    rw [ite_no'] at hf
    obtain ⟨rfl, hf⟩ := hf
    simp only [bind_ok] at hf
    obtain ⟨z, hz, hf⟩ := hf
    rw [okk] at hf; subst hf
    refine ⟨.tuple #[z, .bool false], ?_, .pair (.zero hz)⟩
    simp only [if_true, Sem.run_bind, run_zero hz, Result.andThen_ok]; rfl
  have holds : ∀ {u u' : Value}, VR η ρ u u' → (if ok then tupL [u, .bool true] else u) = v → VR η ρ v (if ok then .tuple #[u', .bool true] else u') := by
    intro u u' hu he
    subst he
    cases ok
    · exact hu
    · exact .pair hu
  simp only [Instr.typeAssert, Sem.run_bind, run_und hd, Result.andThen_ok]
  split at hr
  · have := hx.nilIface_inv; subst this
    exact fails hr
  · obtain ⟨y, rfl, hy⟩ := hx.iface_inv
    simp only [bind_ok, infoA_ok] at hr
    obtain ⟨i, hi, hr⟩ := hr
    simp only [Sem.run_bind, run_info hi, Result.andThen_ok]
    split at hr
    · rename_i hm
      rw [okk] at hr
      rw [hasAll_true hm]
      exact ⟨_, rfl, holds (.iface _ hy) hr⟩
    · rename_i hm
      obtain ⟨m, hm⟩ := hasAll_false hm
      rw [hm]
      exact fails hr
  · rename_i hn
    have := hx.nilIface_inv; subst this
    cases d <;> first | exact fails hr | exact absurd rfl (hn _)
  · rename_i t u hn
    obtain ⟨y, rfl, hy⟩ := hx.iface_inv
    have : ∃ r, (if t = asserted then (pure (if ok then .tuple #[y, .bool true] else y) : Sem Value) else if ok then (do pure (.tuple #[← zeroValue asserted, .bool false])) else runtimePanic (.typeAssertion (some xType) (some t) asserted "")).run P w = .ok r w ∧ VR η ρ v r := by
      by_cases ht : t = asserted
      · rw [if_pos ht, okk] at hr
        rw [if_pos ht]
        exact ⟨_, rfl, holds hy hr⟩
      · rw [if_neg ht] at hr
        rw [if_neg ht]
        exact fails hr
    cases d <;> first | exact this | exact absurd rfl (hn _)
  · simp [no] at hr
theorem readA_ok (hη : OneCells η) (hG : GR P ρ) (H : HR η ρ B h w) {o : Oper} {σ τ : Operand → Value} (hs : ∀ x ∈ o.op.operands.toList, VR η ρ (σ x) (τ x)) {v : Value} (hr : readA P σ o h = .ok v) :
    ∃ x, (execOp τ o).run P w = .ok (.value x) w ∧ VR η ρ v x := by
  obtain ⟨dst, op, type, pos, after, guard⟩ := o
  have val : ∀ {s : Sem Value}, (∃ x, s.run P w = .ok x w ∧ VR η ρ v x) → ∃ x, ((do pure (.value (← s)) : Sem Next)).run P w = .ok (.value x) w ∧ VR η ρ v x := by
    rintro s ⟨x, h1, h2⟩
    exact ⟨x, by simp only [Sem.run_bind, h1, Result.andThen_ok]; rfl, h2⟩
  cases op <;> simp only [readA] at hr <;> simp only [Op.operands] at hs <;> try (simp [no] at hr; done)
  case move x => rw [okk] at hr; subst hr; exact ⟨_, rfl, hs x (by simp)⟩
  case assign x => rw [okk] at hr; subst hr; exact ⟨_, rfl, hs x (by simp)⟩
  case pick c a b =>
    have hc := hs c (by simp); have ha := hs a (by simp); have hb := hs b (by simp)
    split at hr
    · rename_i t ht
      rw [ht] at hc
      have hc := hc.bool_inv
      rw [okk] at hr; subst hr
      refine ⟨if t then τ a else τ b, by simp only [execOp, hc, asBool, pure_bind]; rfl, ?_⟩
      cases t
      · exact hb
      · exact ha
    · simp [no] at hr
  case build t parts =>
    have hp := parts_rel (η := η) (ρ := ρ) (σ := σ) (τ := τ) (ps := parts) (fun p hp => hs p.2 (by simp; exact ⟨p.1, by simpa using hp⟩))
    exact val (buildA_ok hη hp rfl hr)
  case load t a =>
    have ha := hs a (by simp)
    simp only [bind_ok, addrA_ok] at hr
    obtain ⟨b, ⟨hb, _⟩, hr⟩ := hr
    rw [hb] at ha
    obtain ⟨q, hq, hq2⟩ := ha.ptr_inv
    obtain ⟨x, h1, h2⟩ := loadA_ok H hr hq2
    exact val ⟨x, by simp only [Instr.loadAt, hq, Instr.sureAddr, pure_bind]; exact h1, h2⟩
  case waits g =>
    simp only [bind_ok] at hr
    obtain ⟨c, hc, hr⟩ := hr
    rw [ite_no', okk] at hr
    obtain ⟨hg, rfl⟩ := hr
    obtain ⟨b, d, n, C, lo, hi, h1, h2, _⟩ := H.cells (cellsAt_ok.1 hc)
    obtain ⟨m, h3⟩ := hG g (Nat.le_of_lt hg)
    rw [h3] at h1; cases h1
    refine val ⟨.bool false, ?_, .bool _⟩
    simp only [Instr.waits, Sem.run_bind, run_shape, Result.andThen_ok, World.shape?, h2]; rfl
  case nilCheck x =>
    have hx := hs x (by simp)
    split at hr
    · rename_i a ha
      rw [okk] at hr; subst hr
      rw [ha] at hx
      obtain ⟨q, hq, hq2⟩ := hx.ptr_inv
      exact ⟨_, by simp only [execOp, hq]; rfl, hq2.ptr⟩
    · rename_i f a b ha
      rw [okk] at hr; subst hr
      rw [ha] at hx
      obtain ⟨g, c, d, hq, hf, h1, h2⟩ := hx.func_inv
      cases hf with
      | same hf => exact ⟨_, by simp only [execOp, hq]; rfl, .func_mk (.same hf) h1 h2⟩
    · rename_i t u ha
      rw [okk] at hr; subst hr
      rw [ha] at hx
      obtain ⟨y, hq, hy⟩ := hx.iface_inv
      exact ⟨_, by simp only [execOp, hq]; rfl, .iface _ hy⟩
    · simp [no] at hr
  case binOp op t x y yt =>
    have hx := hs x (by simp); have hy := hs y (by simp)
    simp only [bind_ok] at hr
    obtain ⟨g, hg, hr⟩ := hr
    rw [ite_no'] at hr
    obtain ⟨rfl, hr⟩ := hr
    obtain ⟨r, h1, h2⟩ := binA_ok H hr hx hy
    have hnx : ∀ i, σ x ≠ .chan i := by
      intro i e; rw [e] at hr; unfold binA at hr
      revert hr; generalize σ y = b; intro hr
      split at hr
      · rename_i e1; cases e1
      · rename_i e1; cases e1
      · simp [plainV, no] at hr
    have hny : ∀ i, σ y ≠ .chan i := by
      intro i e; rw [e] at hr; unfold binA at hr
      revert hr; generalize σ x = b; intro hr
      split at hr
      · rename_i e1; cases e1
      · rename_i e1; cases e1
      · simp [plainV, no] at hr
    have h3 := guard_ok (P := P) (w := w) hg hx hy hnx hny
    exact val ⟨r, by simp only [Sem.run_bind, h3, Result.andThen_ok]; exact h1, h2⟩
  case unOp op t x => exact val (unA_ok hr (hs x (by simp)))
  case convert s d x => exact val (convA_ok H hr (hs x (by simp)))
  case makeInterface t x =>
    simp only [bind_ok, undA_ok] at hr
    obtain ⟨d, hd, hr⟩ := hr
    have hx := hs x (by simp)
    split at hr
    · simp [no] at hr
    · rename_i hn
      rw [okk] at hr; subst hr
      refine val ⟨.iface t (τ x), ?_, .iface _ hx⟩
      simp only [Instr.makeInterface, Sem.run_bind, run_und hd, Result.andThen_ok]
      cases d <;> first | rfl | exact absurd rfl (hn _)
  case makeFunc fn first captured =>
    rw [ite_no, okk] at hr
    obtain ⟨hy, rfl⟩ := hr
    have h1 := map_rel (η := η) (ρ := ρ) (σ := σ) (τ := τ) (xs := first) (fun x hx => hs x (by simp at hx ⊢; exact .inl hx))
    have h2 := map_rel (η := η) (ρ := ρ) (σ := σ) (τ := τ) (xs := captured) (fun x hx => hs x (by simp at hx ⊢; exact .inr hx))
    exact ⟨_, rfl, .func_mk (.same (fun l e => by subst e; exact hy rfl)) h1 h2⟩
  case slice t x lo hi mx =>
    have hx := hs x (by simp)
    exact val (sliceA_ok hr hx (op_rel fun y e => hs y (by simp [e])) (op_rel fun y e => hs y (by simp [e])) (op_rel fun y e => hs y (by simp [e])))
  case fieldAddr s x i =>
    have hx := hs x (by simp)
    simp only [bind_ok, addrA_ok] at hr
    obtain ⟨f, hf, a, ⟨ha, _⟩, n, hn, hr⟩ := hr
    rw [ite_no, okk] at hr
    obtain ⟨h0, rfl⟩ := hr
    rw [ha] at hx
    obtain ⟨q, hq, hq2⟩ := hx.ptr_inv
    obtain ⟨fs, hfs, hfi⟩ := fieldOff_ok hf
    refine val ⟨.pointer (some (q.add f.offset)), ?_, (hq2.add _).ptr⟩
    simp only [Instr.fieldAt, Sem.run_bind, run_und hfs, Result.andThen_ok, hfi, hq, Instr.sureAddr, Sem.run_pure, run_place hn h0]
  case field t x i =>
    have hx := hs x (by simp)
    simp only [bind_ok] at hr
    obtain ⟨f, hf, hr⟩ := hr
    obtain ⟨fs, hfs, hfi⟩ := fieldOff_ok hf
    split at hr
    · rename_i cs hcs
      rw [hcs] at hx
      obtain ⟨c, hc, hl⟩ := hx.agg_inv
      obtain ⟨r, h1, h2⟩ := partA_ok (P := P) (w := w) hr hl
      refine val ⟨r, ?_, h2⟩
      simp only [Instr.field, Sem.run_bind, run_und hfs, Result.andThen_ok, hfi, hc, asAgg, Sem.run_pure, h1]
    · simp [no] at hr
  case indexAddr t x ix =>
    have hx := hs x (by simp); have hix := hs ix (by simp)
    simp only [bind_ok, intOfA_ok, undA_ok] at hr
    obtain ⟨i, ⟨k, hi⟩, d, hd, hr⟩ := hr
    rw [hi] at hix
    have hix := hix.int_inv
    split at hr
    · rename_i len elem a ha
      rw [ha] at hx
      obtain ⟨q, hq, hq2⟩ := hx.ptr_inv
      simp only [bind_ok] at hr
      obtain ⟨n, hn, hr⟩ := hr
      rw [ite_no', okk] at hr
      obtain ⟨⟨h0, h1, _⟩, rfl⟩ := hr
      refine val ⟨.pointer (some (q.add (i.toNat * n))), ?_, (hq2.add _).ptr⟩
      simp only [Instr.indexAt, Sem.run_bind, hix, run_asIntOf, run_und hd, Result.andThen_ok, hq, Instr.sureAddr, Sem.run_pure]
      rw [if_pos ⟨h0, h1⟩]
      simp only [Sem.run_bind, run_size hn, Result.andThen_ok]; rfl
    · rename_i elem a len c ha
      rw [ha] at hx
      obtain ⟨a', c', hq, hc⟩ := hx.slice_inv
      obtain ⟨q, rfl, hq2⟩ : ∃ q, a' = some q ∧ AdR ρ a q := by
        rcases hc with ⟨e, _⟩ | ⟨_, q, e, e', hq, _⟩ | ⟨_, q, _, _, _, _, e, e', hq, _⟩
        · cases e
        · cases e; exact ⟨q, e', hq⟩
        · cases e; exact ⟨q, e', hq⟩
      simp only [bind_ok] at hr
      obtain ⟨n, hn, hr⟩ := hr
      rw [ite_no', okk] at hr
      obtain ⟨⟨h0, h1⟩, rfl⟩ := hr
      refine val ⟨.pointer (some (q.add (i.toNat * n))), ?_, (hq2.add _).ptr⟩
      simp only [Instr.indexAt, Sem.run_bind, hix, run_asIntOf, run_und hd, Result.andThen_ok, hq, Sem.run_pure]
      rw [if_pos ⟨h0, h1⟩]
      simp only [Sem.run_bind, run_size hn, Result.andThen_ok]; rfl
    · simp [no] at hr
  case index t x ix =>
    have hx := hs x (by simp); have hix := hs ix (by simp)
    simp only [bind_ok, intOfA_ok, undA_ok] at hr
    obtain ⟨i, ⟨k, hi⟩, d, hd, hr⟩ := hr
    rw [hi] at hix
    have hix := hix.int_inv
    split at hr
    · rename_i len elem cs ha
      rw [ha] at hx
      obtain ⟨c, hc, hl⟩ := hx.agg_inv
      simp only [bind_ok] at hr
      obtain ⟨n, hn, hr⟩ := hr
      rw [ite_no'] at hr
      obtain ⟨h0, hr⟩ := hr
      obtain ⟨r, h1, h2⟩ := partA_ok (P := P) (w := w) hr hl
      refine val ⟨r, ?_, h2⟩
      simp only [Instr.index, Sem.run_bind, hix, run_asIntOf, run_und hd, Result.andThen_ok, hc]
      rw [if_pos h0]
      simp only [Sem.run_bind, run_size hn, Result.andThen_ok, h1]
    · rename_i s ha
      rw [ha] at hx
      have hx := hx.string_inv
      rw [ite_no'] at hr
      obtain ⟨h0, hr⟩ := hr
      split at hr
      · rename_i b hb
        rw [okk] at hr; subst hr
        refine val ⟨.int .u8 b.toNat, ?_, .int _ _⟩
        have hb' : s[i.toNat]? = some b := by
          have hl : i.toNat < s.data.toList.length := (List.getElem?_eq_some_iff.1 hb).1
          rw [ByteArray.getElem?_lt' s _ hl]
          rw [List.getElem?_eq_getElem hl] at hb
          injection hb with hb; rw [← hb]; rfl
        simp only [Instr.index, Sem.run_bind, hix, run_asIntOf, run_und hd, Result.andThen_ok, hx, h0, if_true, hb', Sem.run_pure]
      · simp [no] at hr
    · simp [no] at hr
  case lookup t x k ok => exact val (lookA_ok H hr (hs x (by simp)) (hs k (by simp)))
  case typeAssert x xt at_ ok => exact val (assert_ok (hs x (by simp)) hr)
  case extract x i =>
    have hx := hs x (by simp)
    split at hr
    · rename_i vs hv
      rw [hv] at hx
      obtain ⟨c, hc, hl⟩ := hx.tuple_inv
      rw [orNo_ok] at hr
      obtain ⟨y, hy, hvy⟩ := hl.get hr
      refine val ⟨y, ?_, hvy⟩
      have : c[i]? = some y := by simpa using hy
      simp only [hc, Instr.extract, this]; rfl
    · simp [no] at hr
  case call c =>
    obtain ⟨callee, args, argTypes⟩ := c
    cases callee with
    | builtin b =>
      simp only [ite_no] at hr
      obtain ⟨hne, hr⟩ := hr
      have ha := map_rel (η := η) (ρ := ρ) (σ := σ) (τ := τ) (xs := args) (fun x hx => hs x (by simp [Call.operands]; simpa using hx))
      exact readB_ok H (fun e => hne (by rw [e]; rfl)) hr ha
    | value f => simp [no] at hr
    | invoke r n => simp [no] at hr
end
end Go.Ev
