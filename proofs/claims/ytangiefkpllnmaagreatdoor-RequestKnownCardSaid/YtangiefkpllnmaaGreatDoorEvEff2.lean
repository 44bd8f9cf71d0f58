/- Maps, iterators. -/
import Derived.Test.YtangiefkpllnmaaGreatDoorEvEff
namespace Go.Ev
set_option linter.unusedVariables false
set_option linter.unusedSimpArgs false
variable {η : Nat → Value}
theorem L2.modify {α : Type} {R : MapEntry → MapEntry → Prop} {f g : MapEntry → MapEntry} (hfg : ∀ a b, R a b → R (f a) (g b)) {l m : List MapEntry} (h : L2 R l m) : ∀ i, L2 R (modEntry f l i) (m.modify i g) := by
  induction h with
  | nil => intro i; simp only [modEntry, List.modify_nil]; exact .nil
  | cons h k ih =>
    intro i
    cases i with
    | zero => simp only [modEntry, List.modify_zero_cons]; exact .cons (hfg _ _ h) k
    | succ i => simp only [modEntry, List.modify_succ_cons]; exact .cons h (ih i)
theorem L2.eraseIdx {α β : Type} {R : α → β → Prop} {l : List α} {m : List β} (h : L2 R l m) : ∀ i, L2 R (l.eraseIdx i) (m.eraseIdx i) := by
  induction h with
  | nil => intro i; exact .nil
  | cons h k ih =>
    intro i
    cases i with
    | zero => exact k
    | succ i => exact .cons h (ih i)
theorem L2.snoc {α β : Type} {R : α → β → Prop} {l : List α} {m : List β} {a : α} {b : β} (h : L2 R l m) (k : R a b) : L2 R (l ++ [a]) (m ++ [b]) := h.append (.cons k .nil)
theorem L2.findIdx {p q : MapEntry → Bool} {R : MapEntry → MapEntry → Prop} (hpq : ∀ a b, R a b → p a = q b) {l m : List MapEntry} (h : L2 R l m) : l.findIdx? p = m.findIdx? q := by
  induction h with
  | nil => rfl
  | cons h k ih => simp only [List.findIdx?_cons, hpq _ _ h, ih]
section
variable {P : Program} {ρ : Env} {B : Nat} {h : AH} {w : World}
theorem run_setObj {r : Nat} {o o' : Obj} (hr : w.heap[r]? = some o) (ho : ∀ c t f, o ≠ .cells c t f) : (setObj r o').run P w = .ok () (wput w r o') := by
  simp only [setObj, Sem.run, hr]
  cases o <;> first | rfl | exact absurd rfl (ho _ _ _)
theorem ER.set {k k' x x' : Value} (hk : VR η ρ k k') (hx : VR η ρ x x') (a b : MapEntry) (h : ER η ρ a b) : ER η ρ { a with key := k, val := x } { b with key := k', val := x' } := ⟨hk, hx, h.2.2⟩
theorem ER.setKey {k k' : Value} (hk : VR η ρ k k') (a b : MapEntry) (h : ER η ρ a b) : ER η ρ { a with key := k } { b with key := k' } := ⟨hk, h.2.1, h.2.2⟩
theorem ER.setVal {x x' : Value} (hx : VR η ρ x x') (a b : MapEntry) (h : ER η ρ a b) : ER η ρ { a with val := x } { b with val := x' } := ⟨h.1, hx, h.2.2⟩
/-- A map of one's own. -/
theorem Post.map (p : Pre η P ρ B h w) {r : Nat} {es es2 : List MapEntry} {c c2 b d n : Nat} {E2 : Array MapEntry} (hg : h.objs.get r = some (.map es c true)) (he : ρ r = some (b, d, n)) (h2 : L2 (ER η ρ) es2 E2.toList) :
    Post η ρ B h w ρ (putA h r (.map es2 c2 true)) (wput w b (.map E2 c2)) := Post.put p hg rfl he rfl ⟨E2, rfl, h2⟩
theorem keyStays {E : Array MapEntry} {i : Nat} {e' : MapEntry} {k k' : Value} (h1 : E.toList[i]? = some e') (hb : ∀ n, Instr.sameBits n e'.key k' = true) : (Instr.keyThatStays (((E[i]?).map (·.key)).getD k) k').run P w = .ok k' w := by
  have : E[i]? = some e' := by simpa using h1
  rw [this]
  simp only [Option.map_some, Option.getD_some, Instr.keyThatStays, hb, if_true]; rfl
theorem mapSet_ok (p : Pre η P ρ B h w) {t : TypeId} {m k x m' k' x' : Value} {h' : AH} (hs : mapSet P h t m k x = .ok h') (hm : VR η ρ m m') (hk : VR η ρ k k') (hx : VR η ρ x x') :
    ∃ w', (Instr.mapUpdate t m' k' x').run P w = .ok () w' ∧ Post η ρ B h w ρ h' w' := by
  simp only [mapSet, bind_ok, undA_ok] at hs
  obtain ⟨d, hd, hs⟩ := hs
  split at hs
  · rename_i key elem r
    obtain ⟨b, dd, n, rfl, hρ⟩ := hm.map_inv
    simp only [bind_ok] at hs
    obtain ⟨⟨es, c, own⟩, hmap, hs⟩ := hs
    simp only [ite_no] at hs
    obtain ⟨hown, hs⟩ := hs
    have hown : own = true := by simpa using hown
    subst hown
    have hg := mapOf_ok.1 hmap
    simp only [] at hg
    obtain ⟨b2, d2, n2, E, h1, h2, h3, h4⟩ := p.hr.map hg
    rw [hρ] at h1; cases h1
    simp only [bind_ok] at hs
    obtain ⟨f, hf, hs⟩ := hs
    obtain ⟨hck, hf⟩ := findM_ok (P := P) (w := w) hf hk h3
    rcases hf with ⟨rfl, hrun⟩ | ⟨j, e, e', rfl, he, he', her, hkk, hke, hsb, hrun⟩
    · simp only [okk] at hs; subst hs
      refine ⟨wput w b (.map (E.push { key := k', val := x', born := c }) (c + 1)), ?_, Post.map p hg hρ (by rw [Array.toList_push]; exact h3.snoc ⟨hk, hx, rfl⟩)⟩
      simp only [Instr.mapUpdate, Sem.run_bind, run_und hd, Result.andThen_ok, run_getObj h2 (by simp), hck, hrun, run_setObj h2 (by simp)]
    · simp only [okk] at hs; subst hs
      have hst := keyStays (P := P) (w := w) (k := k') (k' := k') he' (fun n => by rw [hke, hkk]; exact hsb n)
      refine ⟨wput w b (.map (E.modify j fun e => { e with key := k', val := x' }) c), ?_, Post.map p hg hρ (by rw [Array.toList_modify]; exact L2.modify (α := Unit) (ER.set hk hx) h3 j)⟩
      simp only [Instr.mapUpdate, Sem.run_bind, run_und hd, Result.andThen_ok, run_getObj h2 (by simp), hck, hrun, hst, run_setObj h2 (by simp)]
  · simp [no] at hs
theorem mapEntryA_ok (p : Pre η P ρ B h w) {t : TypeId} {m k m' k' v : Value} {h' : AH} (hs : mapEntryA P h t m k = .ok (v, h')) (hm : VR η ρ m m') (hk : VR η ρ k k') :
    ∃ x w', (Instr.mapEntry t m' k').run P w = .ok x w' ∧ VR η ρ v x ∧ Post η ρ B h w ρ h' w' := by
  simp only [mapEntryA, bind_ok, undA_ok] at hs
  obtain ⟨d, hd, hs⟩ := hs
  split at hs
  · rename_i key elem r
    obtain ⟨b, dd, n, rfl, hρ⟩ := hm.map_inv
    simp only [bind_ok] at hs
    obtain ⟨⟨es, c, own⟩, hmap, hs⟩ := hs
    simp only [ite_no] at hs
    obtain ⟨hown, hs⟩ := hs
    have hown : own = true := by simpa using hown
    subst hown
    have hg := mapOf_ok.1 hmap
    simp only [] at hg
    obtain ⟨b2, d2, n2, E, h1, h2, h3, h4⟩ := p.hr.map hg
    rw [hρ] at h1; cases h1
    simp only [bind_ok] at hs
    obtain ⟨f, hf, hs⟩ := hs
    obtain ⟨hck, hf⟩ := findM_ok (P := P) (w := w) hf hk h3
    rcases hf with ⟨rfl, hrun⟩ | ⟨j, e, e', rfl, he, he', her, hkk, hke, hsb, hrun⟩
    · simp only [bind_ok] at hs
      obtain ⟨z, hz, hs⟩ := hs
      rw [okk] at hs; injection hs with e1 e2; subst e1; subst e2
      refine ⟨.tuple #[z, goInt c], wput w b (.map (E.push { key := k', val := z, born := c }) (c + 1)), ?_, .tup' (.cons (.zero hz) (.cons (.int _ _) .nil)), Post.map p hg hρ (by rw [Array.toList_push]; exact h3.snoc ⟨hk, .zero hz, rfl⟩)⟩
      simp only [Instr.mapEntry, Sem.run_bind, run_und hd, Result.andThen_ok, run_getObj h2 (by simp), hck, hrun, run_zero hz, run_setObj h2 (by simp)]; rfl
    · rw [okk] at hs; injection hs with e1 e2; subst e1; subst e2
      have hst := keyStays (P := P) (w := w) (k := k') (k' := k') he' (fun n => by rw [hke, hkk]; exact hsb n)
      have hE : E[j]? = some e' := by simpa using he'
      refine ⟨.tuple #[e'.val, goInt e'.born], wput w b (.map (E.modify j fun e => { e with key := k' }) c), ?_, ?_, Post.map p hg hρ (by rw [Array.toList_modify]; exact L2.modify (α := Unit) (ER.setKey hk) h3 j)⟩
      · simp only [Instr.mapEntry, Sem.run_bind, run_und hd, Result.andThen_ok, run_getObj h2 (by simp), hck, hrun, hst, run_setObj h2 (by simp)]
        rw [hE]; rfl
      · rw [he]
        simp only [Option.map_some, Option.getD_some, her.2.2]
        exact .tup' (.cons her.2.1 (.cons (.int _ _) .nil))
  · simp [no] at hs
theorem entryStoreA_ok (p : Pre η P ρ B h w) {t : TypeId} {m s x m' s' x' : Value} {h' : AH} (hs : entryStoreA h m s x = .ok h') (hm : VR η ρ m m') (hst : VR η ρ s s') (hx : VR η ρ x x') :
    ∃ w', (Instr.entryStore t m' s' x').run P w = .ok () w' ∧ Post η ρ B h w ρ h' w' := by
  unfold entryStoreA at hs
  split at hs
  · rename_i r
    obtain ⟨b, dd, n, rfl, hρ⟩ := hm.map_inv
    simp only [bind_ok, intOfA_ok] at hs
    obtain ⟨⟨es, c, own⟩, hmap, bn, ⟨kk, rfl⟩, hs⟩ := hs
    have := hst.int_inv; subst this
    simp only [ite_no] at hs
    obtain ⟨hown, hs⟩ := hs
    have hown : own = true := by simpa using hown
    subst hown
    have hg := mapOf_ok.1 hmap
    simp only [] at hg
    obtain ⟨b2, d2, n2, E, h1, h2, h3, h4⟩ := p.hr.map hg
    rw [hρ] at h1; cases h1
    split at hs
    · rename_i i hi
      rw [okk] at hs; subst hs
      have hf : E.findIdx? (fun e => (e.born : Int) == bn) = some i := by
        have hfi : ∀ (E : Array MapEntry) q, E.findIdx? q = E.toList.findIdx? q := fun E q => by obtain ⟨l⟩ := E; simp
        rw [hfi, ← hi, bornAt]
        exact (L2.findIdx (fun a b hab => by rw [hab.2.2]) h3).symm
      refine ⟨wput w b (.map (E.modify i fun e => { e with val := x' }) c), ?_, Post.map p hg hρ (by rw [Array.toList_modify]; exact L2.modify (α := Unit) (ER.setVal hx) h3 i)⟩
      simp only [Instr.entryStore, Sem.run_bind, Result.andThen_ok, run_getObj h2 (by simp), asInt, run_asIntOf, Sem.run_pure, hf, run_setObj h2 (by simp)]
    · simp [no] at hs
  · simp [no] at hs
theorem deleteA_ok (p : Pre η P ρ B h w) {t : TypeId} {ts : List TypeId} {type : TypeId} {m k m' k' : Value} {h' : AH} (hs : deleteA P h t m k = .ok h') (hm : VR η ρ m m') (hk : VR η ρ k k') :
    ∃ w', (Builtin.delete_ ⟨t :: ts⟩ type #[m', k']).run P w = .ok (.tuple #[]) w' ∧ Post η ρ B h w ρ h' w' := by
  have e0 : (⟨t :: ts⟩ : Array TypeId)[0]? = some t := rfl
  have e2 : (#[m', k'] : Array Value)[0]? = some m' := rfl
  have e3 : (#[m', k'] : Array Value)[1]? = some k' := rfl
  simp only [deleteA, bind_ok, undA_ok] at hs
  obtain ⟨d, hd, hs⟩ := hs
  split at hs
  · rename_i key elem
    split at hs
    · have := hm.map0_inv; subst this
      simp only [bind_ok] at hs
      obtain ⟨kd, hkd, hs⟩ := hs
      rw [okk] at hs; subst hs
      obtain ⟨hu, hd'⟩ := keyKind_ok hkd
      refine ⟨w, ?_, .refl p⟩
      simp only [Builtin.delete_, e0, e2, e3, Sem.run_bind, run_und hd, Result.andThen_ok, run_checkKey hu hd' true 9999 k', Sem.run_pure]
    · rename_i r
      obtain ⟨b, dd, n, rfl, hρ⟩ := hm.map_inv
      simp only [bind_ok] at hs
      obtain ⟨⟨es, c, own⟩, hmap, hs⟩ := hs
      simp only [ite_no] at hs
      obtain ⟨hown, hs⟩ := hs
      have hown : own = true := by simpa using hown
      subst hown
      have hg := mapOf_ok.1 hmap
      simp only [] at hg
      obtain ⟨b2, d2, n2, E, h1, h2, h3, h4⟩ := p.hr.map hg
      rw [hρ] at h1; cases h1
      simp only [bind_ok] at hs
      obtain ⟨f, hf, hs⟩ := hs
      obtain ⟨hck, hf⟩ := findM_ok (P := P) (w := w) hf hk h3
      rcases hf with ⟨rfl, hrun⟩ | ⟨j, e, e', rfl, he, he', her, hkk, hke, hsb, hrun⟩
      · simp only [okk] at hs; subst hs
        refine ⟨wput w b (.map E c), ?_, Post.map p hg hρ h3⟩
        simp only [Builtin.delete_, e0, e2, e3, Sem.run_bind, run_und hd, Result.andThen_ok, run_getObj h2 (by simp), hck, hrun, run_setObj h2 (by simp), Sem.run_pure]
      · simp only [okk] at hs; subst hs
        have hE : (E.eraseIdxIfInBounds j).toList = E.toList.eraseIdx j := by
          have hlt : j < E.size := (List.getElem?_eq_some_iff.1 he').1
          unfold Array.eraseIdxIfInBounds
          rw [dif_pos hlt]
          simp
        refine ⟨wput w b (.map (E.eraseIdxIfInBounds j) c), ?_, Post.map p hg hρ (by rw [hE]; exact h3.eraseIdx j)⟩
        simp only [Builtin.delete_, e0, e2, e3, Sem.run_bind, run_und hd, Result.andThen_ok, run_getObj h2 (by simp), hck, hrun, run_setObj h2 (by simp), Sem.run_pure]
    · simp [no] at hs
  · simp [no] at hs
theorem clearA_ok (hη : OneCells η) (p : Pre η P ρ B h w) {t : TypeId} {ts : List TypeId} {type : TypeId} {x x' : Value} {h' : AH} (hs : clearA P h t x = .ok h') (hx : VR η ρ x x') :
    ∃ w', (Builtin.clear_ ⟨t :: ts⟩ type #[x']).run P w = .ok (.tuple #[]) w' ∧ Post η ρ B h w ρ h' w' := by
  have e0 : (⟨t :: ts⟩ : Array TypeId)[0]? = some t := rfl
  have e2 : (#[x'] : Array Value)[0]? = some x' := rfl
  simp only [clearA, bind_ok, undA_ok] at hs
  obtain ⟨d, hd, hs⟩ := hs
  split at hs
  · have := hx.map0_inv; subst this
    rw [okk] at hs; subst hs
    exact ⟨w, by simp only [Builtin.clear_, e0, e2, Sem.run_bind, run_und hd, Result.andThen_ok]; rfl, .refl p⟩
  · obtain ⟨a', c', rfl, hc⟩ := hx.slice_inv
    have e1 : a' = none := by rcases hc with ⟨_, e, _⟩ | ⟨_, _, e, _⟩ | ⟨_, _, _, _, _, _, e, _⟩ <;> first | exact e | cases e
    subst e1
    rw [okk] at hs; subst hs
    exact ⟨w, by simp only [Builtin.clear_, e0, e2, Sem.run_bind, run_und hd, Result.andThen_ok]; rfl, .refl p⟩
  · rename_i r
    obtain ⟨b, dd, n, rfl, hρ⟩ := hx.map_inv
    simp only [bind_ok] at hs
    obtain ⟨⟨es, c, own⟩, hmap, hs⟩ := hs
    simp only [ite_no', okk] at hs
    obtain ⟨rfl, rfl⟩ := hs
    have hg := mapOf_ok.1 hmap
    simp only [] at hg
    obtain ⟨b2, d2, n2, E, h1, h2, h3, h4⟩ := p.hr.map hg
    rw [hρ] at h1; cases h1
    refine ⟨wput w b (.map #[] c), ?_, Post.map p hg hρ .nil⟩
    simp only [Builtin.clear_, e0, e2, Sem.run_bind, run_und hd, Result.andThen_ok, run_getObj h2 (by simp), run_setObj h2 (by simp), Sem.run_pure]
  · rename_i elem a n c
    obtain ⟨a', c', rfl, hc⟩ := hx.slice_inv
    obtain ⟨q, rfl, hq⟩ : ∃ q, a' = some q ∧ AdR ρ a q := by
      rcases hc with ⟨e, _⟩ | ⟨_, q, e, e', hq, _⟩ | ⟨_, q, _, _, _, _, e, e', hq, _⟩
      · cases e
      · cases e; exact ⟨q, e', hq⟩
      · cases e; exact ⟨q, e', hq⟩
    by_cases hn : n = 0
    · rw [if_pos hn, okk] at hs; subst hs; subst hn
      exact ⟨w, by simp only [Builtin.clear_, e0, e2, Sem.run_bind, run_und hd, Result.andThen_ok]; rfl, .refl p⟩
    · rw [if_neg hn] at hs
      simp only [bind_ok] at hs
      obtain ⟨z, hz, hs⟩ := hs
      have hl := (VR.zero (η := η) (ρ := ρ) hz).cells hη
      have hzc : (Builtin.zeroCells z.cells n).toList = rep z.cells.toList n := range_rep rfl
      rw [cells_cellsL] at hl
      obtain ⟨w', hw', hpost⟩ := storeC_ok (P := P) hη p hs hq (vs' := (Builtin.zeroCells z.cells n).toList) (by rw [hzc, cells_cellsL]; exact LR.rep hl n)
      refine ⟨w', ?_, hpost⟩
      obtain ⟨n', rfl⟩ : ∃ n', n = n' + 1 := ⟨n - 1, by omega⟩
      simp only [Builtin.clear_, e0, e2, Sem.run_bind, run_und hd, Result.andThen_ok, run_zero hz, hw', Sem.run_pure]
  · simp [no] at hs
end
end Go.Ev
