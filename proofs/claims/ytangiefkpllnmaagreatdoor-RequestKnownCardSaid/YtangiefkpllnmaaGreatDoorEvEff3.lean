/- Iterators, methods, calls; all effects. -/
import Derived.Test.YtangiefkpllnmaaGreatDoorEvEff2
namespace Go.Ev
set_option linter.unusedVariables false
set_option linter.unusedSimpArgs false
variable {η : Nat → Value}
section
variable {P : Program} {ρ : Env} {B : Nat} {h : AH} {w : World}
theorem HR.iter (H : HR η ρ B h w) {r : Nat} {m : Option Nat} {since last : Nat} {seen : List Nat} (hg : h.objs.get r = some (.mapIter m since seen last)) :
    ∃ b n m', ρ r = some (b, 0, n) ∧ w.heap[b]? = some (.mapIter m' since seen.toArray last) ∧ ((m = none ∧ m' = none) ∨ ∃ r b d n, m = some r ∧ m' = some b ∧ ρ r = some (b, d, n)) := by
  obtain ⟨b, d, n, o, h1, h2, ⟨rfl, m', rfl, h3⟩, _⟩ := H.obj _ _ hg
  refine ⟨b, n, m', h1, h2, ?_⟩
  cases m <;> cases m' <;> simp only at h3
  · exact .inl ⟨rfl, rfl⟩
  · obtain ⟨d, n, h3⟩ := h3; exact .inr ⟨_, _, d, n, rfl, rfl, h3⟩
theorem nextA_ok (p : Pre η P ρ B h w) {it it' v : Value} {isS : Bool} {type : TypeId} {h' : AH} (hn : nextA h it isS = .ok (v, h')) (hi : VR η ρ it it') :
    ∃ x w', (Instr.next it' isS type).run P w = .ok x w' ∧ VR η ρ v x ∧ Post η ρ B h w ρ h' w' := by
  have over : VR η ρ (tupL [.bool false]) (.tuple #[.bool false]) := .tup' (.cons (.bool _) .nil)
  unfold nextA at hn
  split at hn
  · rename_i r sp
    obtain ⟨q, rfl, hq⟩ := hi.ptr_inv
    obtain ⟨hsp, n, b, d, hρ, rfl⟩ := hq
    simp only at hρ hsp
    split at hn
    · rename_i s pos hg
      obtain ⟨b2, d2, n2, o, h1, h2, ⟨hd0, rfl⟩, h4⟩ := p.hr.obj _ _ hg
      rw [hρ] at h1; cases h1
      subst hd0
      split at hn
      · rename_i hlt
        simp only [okk] at hn
        injection hn with e1 e2; subst e1; subst e2
        refine ⟨.tuple #[.bool true, goInt pos, .int .i32 (Utf8.decode s pos).1], wput w b (.stringIter s (pos + (Utf8.decode s pos).2)), ?_, .tup' (.cons (.bool _) (.cons (.int _ _) (.cons (.int _ _) .nil))), Post.put p hg rfl hρ rfl ⟨rfl, rfl⟩⟩
        simp only [Instr.next, Nat.zero_add, Sem.run_bind, run_getObj h2 (by simp), Result.andThen_ok, hlt, if_true, run_setObj h2 (by simp), Sem.run_pure]
      · rename_i hlt
        simp only [okk] at hn
        injection hn with e1 e2; subst e1; subst e2
        refine ⟨_, w, ?_, over, .refl p⟩
        simp only [Instr.next, Nat.zero_add, Sem.run_bind, run_getObj h2 (by simp), Result.andThen_ok, hlt, if_false, Sem.run_pure]
    · rename_i since seen last hg
      obtain ⟨b2, n2, m', h1, h2, h3⟩ := p.hr.iter hg
      rw [hρ] at h1; cases h1
      rcases h3 with ⟨_, rfl⟩ | ⟨_, _, _, _, h3, _⟩
      case inr => cases h3
      case inl =>
        simp only [okk] at hn
        injection hn with e1 e2; subst e1; subst e2
        refine ⟨_, w, ?_, over, .refl p⟩
        simp only [Instr.next, Nat.zero_add, Sem.run_bind, run_getObj h2 (by simp), Result.andThen_ok, Sem.run_pure]
    · rename_i m since seen last hg
      obtain ⟨b2, n2, m', h1, h2, h3⟩ := p.hr.iter hg
      rw [hρ] at h1; cases h1
      rcases h3 with ⟨h3, _⟩ | ⟨r0, mb, md, mn, h3, rfl, hρm⟩
      case inl => cases h3
      case inr =>
        injection h3 with h3; subst h3
        simp only [bind_ok] at hn
        obtain ⟨⟨es, clock, own⟩, hm, hn⟩ := hn
        obtain ⟨b3, d3, n3, E, k1, k2, k30, hBm⟩ := p.hr.map (mapOf_ok.1 hm)
        have k3 : L2 (ER η ρ) es E.toList := k30
        clear k30 hBm
        rw [hρm] at k1; cases k1
        simp only [ite_no] at hn
        obtain ⟨hall, hn⟩ := hn
        have hallE : ¬ (!seen.toArray.isEmpty && !E.isEmpty && E.all (fun e => decide (e.born ≥ last))) = true := by
          intro hh
          apply hall
          have e1 : E.isEmpty = es.isEmpty := by
            have hl := k3.len
            have : ∀ (A : Array MapEntry), A.isEmpty = A.toList.isEmpty := fun A => by obtain ⟨l⟩ := A; simp
            rw [this]
            clear k3 k2 hall hh hn hm this
            generalize E.toList = l at hl
            cases es <;> cases l <;> simp_all
          have e2 : E.all (fun e => decide (e.born ≥ last)) = es.all (fun e => decide (e.born ≥ last)) := by
            rw [← Array.all_toList]
            clear hn hall hh hm k2 e1
            generalize E.toList = l at k3
            induction k3 with
            | nil => rfl
            | cons hr _ ih => simp only [List.all_cons, ih, hr.2.2]
          rw [e1, e2] at hh
          simpa using hh
        have hleft : L2 (ER η ρ) (es.filter fun e => !seen.contains e.born) (E.filter fun e => !seen.toArray.contains e.born).toList := by
          rw [Array.toList_filter]
          clear hn hall hallE hm k2
          generalize E.toList = l at k3
          induction k3 with
          | nil => exact .nil
          | @cons a c l m hr _ ih =>
            simp only [List.filter_cons]
            have : (!seen.toArray.contains c.born) = !seen.contains a.born := by rw [hr.2.2]; simp
            rw [this]
            split
            · exact .cons hr ih
            · exact ih
        split at hn
        · rename_i hnil
          simp only [okk] at hn
          injection hn with e1 e2; subst e1; subst e2
          rw [hnil] at hleft
          have hE0 : (E.filter fun e => !seen.toArray.contains e.born) = #[] := by
            have := hleft.inv_nil
            rw [← Array.toArray_toList (xs := E.filter _), this]
          refine ⟨_, w, ?_, over, .refl p⟩
          simp only [Instr.next, Nat.zero_add, Sem.run_bind, run_getObj h2 (by simp), run_getObj k2 (by simp), Result.andThen_ok]
          rw [if_neg hallE, hE0]
          simp [Question.forced]
        · rename_i e hone
          simp only [ite_no', okk] at hn
          obtain ⟨hborn, hn⟩ := hn
          injection hn with e1 e2; subst e1; subst e2
          rw [hone] at hleft
          obtain ⟨e', m'', hm1, hre, hm2⟩ := hleft.inv_cons
          have := hm2.inv_nil; subst this
          have hE1 : (E.filter fun e => !seen.toArray.contains e.born) = #[e'] := by
            rw [← Array.toArray_toList (xs := E.filter _), hm1]
          have hb' : e'.born < since := by rw [← hre.2.2]; exact hborn
          refine ⟨.tuple #[.bool true, e'.key, e'.val], wput w b (.mapIter (some mb) since (seen.toArray.push e'.born) clock), ?_, .tup' (.cons (.bool _) (.cons hre.1 (.cons hre.2.1 .nil))), Post.put p hg rfl hρ rfl ⟨rfl, some mb, ?_, ⟨_, _, hρm⟩⟩⟩
          · simp only [Instr.next, Nat.zero_add, Sem.run_bind, run_getObj h2 (by simp), run_getObj k2 (by simp), Result.andThen_ok]
            rw [if_neg hallE, hE1]
            simp [Question.forced, hb', run_setObj h2 (by simp), Nat.not_le.2 hb']
          · rw [hre.2.2]; simp
        · simp [no] at hn
    · simp [no] at hn
  · simp [no] at hn
theorem rangeA_ok (p : Pre η P ρ B h w) {t : TypeId} {x x' v : Value} {h' : AH} (hr : (do
    match ← undA P t, x with
    | .string, .string s => let (r, h) := newA h (.stringIter s 0); .ok (.pointer (some ⟨r, 0, none⟩), h)
    | .map _ _, .map none => let (r, h) := newA h (.mapIter none 0 [] 0); .ok (.pointer (some ⟨r, 0, none⟩), h)
    | .map _ _, .map (some m) => do
      let (_, clock, _) ← mapOf h m
      let (r, h) := newA h (.mapIter (some m) clock [] clock)
      .ok (.pointer (some ⟨r, 0, none⟩), h)
    | _, _ => no "range" : M (Value × AH)) = .ok (v, h')) (hx : VR η ρ x x') :
    ∃ ρ' y w', (Instr.range t x').run P w = .ok y w' ∧ VR η ρ' v y ∧ Post η ρ B h w ρ' h' w' := by
  simp only [bind_ok, undA_ok] at hr
  obtain ⟨d, hd, hr⟩ := hr
  have fin : ∀ (ob : Obj) (a : AObj), OR η (ρ.put h.next (w.heap.size, 0, 0)) a 0 0 ob → (v, h') = (.pointer (some ⟨h.next, 0, none⟩), (newA h a).2) →
      VR η (ρ.put h.next (w.heap.size, 0, 0)) v (.pointer (some ⟨w.heap.size, 0, none⟩)) ∧ Post η ρ B h w (ρ.put h.next (w.heap.size, 0, 0)) h' (wpush w ob) := by
    intro ob a hO he
    injection he with e1 e2; subst e1; subst e2
    exact ⟨VR.ptr_new (Env.put_at _ _ _), Post.new (w' := wpush w ob) (ob := ob) p ⟨rfl, rfl, rfl, rfl⟩ h.objs (fun _ _ hx => hx) hO⟩
  split at hr
  · have := hx.string_inv; subst this
    simp only [newA, okk] at hr
    obtain ⟨f1, f2⟩ := fin (.stringIter _ 0) (.stringIter _ 0) ⟨rfl, rfl⟩ hr.symm
    exact ⟨_, _, _, by simp only [Instr.range, Sem.run_bind, run_und hd, Result.andThen_ok, Sem.run_pure, run_newObj]; rfl, f1, f2⟩
  · have := hx.map0_inv; subst this
    simp only [newA, okk] at hr
    obtain ⟨f1, f2⟩ := fin (.mapIter none 0 #[] 0) (.mapIter none 0 [] 0) ⟨rfl, none, rfl, trivial⟩ hr.symm
    exact ⟨_, _, _, by simp only [Instr.range, Sem.run_bind, run_und hd, Result.andThen_ok, Sem.run_pure, run_newObj]; rfl, f1, f2⟩
  · rename_i m
    obtain ⟨mb, md, mn, rfl, hρ⟩ := hx.map_inv
    simp only [bind_ok] at hr
    obtain ⟨⟨es, clock, own⟩, hm, hr⟩ := hr
    obtain ⟨b3, d3, n3, E, k1, k2, k3, _⟩ := p.hr.map (mapOf_ok.1 hm)
    rw [hρ] at k1; cases k1
    simp only [newA, okk] at hr
    obtain ⟨f1, f2⟩ := fin (.mapIter (some mb) clock #[] clock) (.mapIter (some m) clock [] clock) ⟨rfl, some mb, rfl, ⟨_, _, Env.le_put (p.fresh h.next (Nat.le_refl _)) _ _ hρ⟩⟩ hr.symm
    exact ⟨_, _, _, by simp only [Instr.range, Sem.run_bind, run_und hd, Result.andThen_ok, Sem.run_pure, run_getObj k2 (by simp), run_newObj]; rfl, f1, f2⟩
  · simp [no] at hr
end
end Go.Ev
