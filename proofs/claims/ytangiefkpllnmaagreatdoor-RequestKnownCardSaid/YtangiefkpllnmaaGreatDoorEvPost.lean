/- What a step of the evaluator leads to in the world. -/
import Derived.Test.YtangiefkpllnmaaGreatDoorEvAlloc
namespace Go.Ev
set_option linter.unusedVariables false
set_option linter.unusedSimpArgs false
variable {η : Nat → Value}
structure Pre (η : Nat → Value) (P : Program) (ρ : Env) (B : Nat) (h : AH) (w : World) : Prop where
  hr : HR η ρ B h w
  fresh : FreshR ρ h.next
  glob : GR P ρ
  low : B ≤ w.heap.size
structure Post (η : Nat → Value) (ρ : Env) (B : Nat) (h : AH) (w : World) (ρ' : Env) (h' : AH) (w' : World) : Prop where
  le : Env.le ρ ρ'
  old : ∀ r, r < h.next → ρ' r = ρ r
  fresh : FreshR ρ' h'.next
  next : h.next ≤ h'.next
  hr : HR η ρ' B h' w'
  fr : Fr ρ h w w'
  own : OwnIn ρ ρ' h h' w
  inn : ∀ b, (∃ r a d n, h'.objs.get r = some a ∧ ρ' r = some (b, d, n)) → (∃ r a d n, h.objs.get r = some a ∧ ρ r = some (b, d, n)) ∨ w.heap.size ≤ b
section
variable {P : Program} {ρ : Env} {B : Nat} {h : AH} {w : World}
theorem Pre.get_lt (p : Pre η P ρ B h w) {r : Nat} {a : AObj} (hg : h.objs.get r = some a) : r < h.next := by
  rcases Nat.lt_or_ge r h.next with hl | hl
  · exact hl
  · obtain ⟨b, d, n, o, h1, _⟩ := p.hr.obj r a hg
    rw [p.fresh r hl] at h1; cases h1
theorem Pre.post {ρ' : Env} {h' : AH} {w' : World} (p : Pre η P ρ B h w) (q : Post η ρ B h w ρ' h' w') : Pre η P ρ' B h' w' :=
  ⟨q.hr, q.fresh, p.glob.mono q.le, Nat.le_trans p.low q.fr.size⟩
theorem Post.refl (p : Pre η P ρ B h w) : Post η ρ B h w ρ h w :=
  ⟨Env.le_refl _, fun _ _ => rfl, p.fresh, Nat.le_refl _, p.hr, Fr.refl _ _ _, OwnIn.refl _ _ _, fun _ h => .inl h⟩
theorem Post.trans {ρ' ρ'' : Env} {h' h'' : AH} {w' w'' : World} (q : Post η ρ B h w ρ' h' w') (r : Post η ρ' B h' w' ρ'' h'' w'') : Post η ρ B h w ρ'' h'' w'' :=
  ⟨Env.le_trans q.le r.le, fun k hk => (r.old k (Nat.lt_of_lt_of_le hk q.next)).trans (q.old k hk), r.fresh, Nat.le_trans q.next r.next, r.hr, q.fr.trans q.own r.fr, q.own.trans q.fr.size r.own, fun b hb => by
    rcases r.inn b hb with h1 | h1
    · exact q.inn b h1
    · have := q.fr.size; exact .inr (by omega)⟩
theorem pushed_old {w w' : World} {o : Obj} (hp : Pushed w w' o) {k : Nat} (hk : k < w.heap.size) : w'.heap[k]? = w.heap[k]? := by
  rw [hp.heap, Array.getElem?_push, if_neg (by omega)]
theorem pushed_new {w w' : World} {o : Obj} (hp : Pushed w w' o) : w'.heap[w.heap.size]? = some o := by
  rw [hp.heap, Array.getElem?_push, if_pos rfl]
theorem heap_lt' {w : World} {k : Nat} {o : Obj} (h : w.heap[k]? = some o) : k < w.heap.size := heap_lt h
/-- A new block, and some that are not looked at any more. -/
theorem Post.new (p : Pre η P ρ B h w) {w' : World} {ob : Obj} (hp : Pushed w w' ob) {n : Nat} {a : AObj} (objs : T AObj) (hsub : ∀ r x, objs.get r = some x → h.objs.get r = some x)
    (hO : OR η (ρ.put h.next (w.heap.size, 0, n)) a 0 n ob) : Post η ρ B h w (ρ.put h.next (w.heap.size, 0, n)) (newA { h with objs } a).2 w' := by
  have hn := p.fresh h.next (Nat.le_refl _)
  have hle := Env.le_put (t := (w.heap.size, 0, n)) hn
  refine ⟨hle, fun r hr => Env.put_ne _ _ (by omega), fun r hr => ?_, by simp [newA], ⟨?_, ?_⟩, ⟨hp.os, hp.tape, hp.output, by rw [hp.heap]; simp, fun k hk _ => pushed_old hp hk⟩, ?_, ?_⟩
  · simp only [newA] at hr
    rw [Env.put_ne _ _ (by omega)]; exact p.fresh r (by omega)
  · intro r x hx
    simp only [newA, T.get_set] at hx
    by_cases hr : r = h.next
    · rw [if_pos hr] at hx; cases hx; subst hr
      exact ⟨_, _, _, _, Env.put_at _ _ _, pushed_new hp, hO, fun _ => p.low⟩
    · rw [if_neg hr] at hx
      obtain ⟨b, d, m, o, h1, h2, h3, h4⟩ := p.hr.obj r x (hsub _ _ hx)
      exact ⟨b, d, m, o, hle _ _ h1, by rw [pushed_old hp (heap_lt h2)]; exact h2, h3.mono hle, h4⟩
  · intro r r' x x' b d m d' m' hx hx' e e'
    simp only [newA, T.get_set] at hx hx'
    by_cases hr : r = h.next
    · by_cases hr' : r' = h.next
      · rw [hr, hr']
      · rw [if_neg hr'] at hx'
        subst hr
        rw [Env.put_at] at e; cases e
        rw [Env.put_ne _ _ hr'] at e'
        obtain ⟨b2, d2, m2, o2, h1, h2, _⟩ := p.hr.obj r' x' (hsub _ _ hx')
        rw [e'] at h1; cases h1
        exact absurd (heap_lt h2) (by omega)
    · rw [if_neg hr] at hx
      by_cases hr' : r' = h.next
      · subst hr'
        rw [Env.put_at] at e'; cases e'
        rw [Env.put_ne _ _ hr] at e
        obtain ⟨b2, d2, m2, o2, h1, h2, _⟩ := p.hr.obj r x (hsub _ _ hx)
        rw [e] at h1; cases h1
        exact absurd (heap_lt h2) (by omega)
      · rw [if_neg hr'] at hx'
        rw [Env.put_ne _ _ hr] at e
        rw [Env.put_ne _ _ hr'] at e'
        exact p.hr.inj r r' x x' b d m d' m' (hsub _ _ hx) (hsub _ _ hx') e e'
  · rintro b ⟨r, x, d, m, hx, ho, e⟩
    simp only [newA, T.get_set] at hx
    by_cases hr : r = h.next
    · subst hr
      rw [Env.put_at] at e; cases e
      exact .inr (Nat.le_refl _)
    · rw [if_neg hr] at hx
      rw [Env.put_ne _ _ hr] at e
      exact .inl ⟨r, x, d, m, hsub _ _ hx, ho, e⟩
  · rintro b ⟨r, x, d, m, hx, e⟩
    simp only [newA, T.get_set] at hx
    by_cases hr : r = h.next
    · subst hr
      rw [Env.put_at] at e; cases e
      exact .inr (Nat.le_refl _)
    · rw [if_neg hr] at hx
      rw [Env.put_ne _ _ hr] at e
      exact .inl ⟨r, x, d, m, hsub _ _ hx, e⟩
/-- A block of one's own is written. -/
theorem Post.put (p : Pre η P ρ B h w) {r b d n : Nat} {a a' : AObj} {o' : Obj} {w' : World} (hg : h.objs.get r = some a) (ho : ownO a = true) (he : ρ r = some (b, d, n)) (hw : w' = wput w b o')
    (hO : OR η ρ a' d n o') : Post η ρ B h w ρ (putA h r a') w' := by
  subst hw
  have hlt := p.get_lt hg
  obtain ⟨b0, d0, n0, o0, e0, hb, _, hB⟩ := p.hr.obj r a hg
  rw [he] at e0; cases e0
  refine ⟨Env.le_refl _, fun _ _ => rfl, p.fresh, Nat.le_refl _, ⟨?_, ?_⟩, ⟨rfl, rfl, rfl, by simp [wput], ?_⟩, ?_, ?_⟩
  · intro r' x hx
    simp only [putA, T.get_set] at hx
    by_cases hr : r' = r
    · rw [if_pos hr] at hx; cases hx; subst hr
      exact ⟨b, d, n, o', he, by rw [wput_get, if_pos ⟨rfl, heap_lt hb⟩], hO, fun _ => hB ho⟩
    · rw [if_neg hr] at hx
      obtain ⟨b1, d1, n1, o1, h1, h2, h3, h4⟩ := p.hr.obj r' x hx
      refine ⟨b1, d1, n1, o1, h1, ?_, h3, h4⟩
      rw [wput_get, if_neg]
      · exact h2
      · rintro ⟨e, _⟩
        subst e
        exact hr (p.hr.inj r' r x a _ _ _ _ _ hx hg h1 he)
  · intro r1 r2 x1 x2 bb d1 m1 d2 m2 hx1 hx2 e1 e2
    simp only [putA, T.get_set] at hx1 hx2
    have g1 : ∃ y, h.objs.get r1 = some y := by
      by_cases hr : r1 = r
      · subst hr; exact ⟨_, hg⟩
      · rw [if_neg hr] at hx1; exact ⟨_, hx1⟩
    have g2 : ∃ y, h.objs.get r2 = some y := by
      by_cases hr : r2 = r
      · subst hr; exact ⟨_, hg⟩
      · rw [if_neg hr] at hx2; exact ⟨_, hx2⟩
    obtain ⟨y1, hy1⟩ := g1
    obtain ⟨y2, hy2⟩ := g2
    exact p.hr.inj r1 r2 y1 y2 _ _ _ _ _ hy1 hy2 e1 e2
  · intro k hk hno
    rw [wput_get, if_neg]
    rintro ⟨e, _⟩
    subst e
    exact hno ⟨r, a, d, n, hg, ho, he⟩
  · rintro bb ⟨r', x, d', m', hx, hox, e⟩
    simp only [putA, T.get_set] at hx
    by_cases hr : r' = r
    · subst hr
      rw [he] at e; cases e
      exact .inl ⟨r', a, d, n, hg, ho, he⟩
    · rw [if_neg hr] at hx
      exact .inl ⟨r', x, d', m', hx, hox, e⟩
  · rintro bb ⟨r', x, d', m', hx, e⟩
    simp only [putA, T.get_set] at hx
    by_cases hr : r' = r
    · subst hr
      rw [he] at e; cases e
      exact .inl ⟨r', a, d, n, hg, he⟩
    · rw [if_neg hr] at hx
      exact .inl ⟨r', x, d', m', hx, e⟩
/-- One's own row goes on under a new number. -/
theorem Post.move (p : Pre η P ρ B h w) {r b d n d2 n2 : Nat} {a a' : AObj} {o' : Obj} {w' : World} (hg : h.objs.get r = some a) (ho : ownO a = true) (he : ρ r = some (b, d, n)) (hw : w' = wput w b o')
    (hO : OR η (ρ.put h.next (b, d2, n2)) a' d2 n2 o') : Post η ρ B h w (ρ.put h.next (b, d2, n2)) (newA { h with objs := h.objs.del r } a').2 w' := by
  subst hw
  have hlt := p.get_lt hg
  have hn := p.fresh h.next (Nat.le_refl _)
  have hle := Env.le_put (t := (b, d2, n2)) hn
  obtain ⟨b0, d0, n0, o0, e0, hb, _, hB⟩ := p.hr.obj r a hg
  rw [he] at e0; cases e0
  have get : ∀ r' x, ((h.objs.del r).set h.next a').get r' = some x → r' ≠ h.next → r' ≠ r ∧ h.objs.get r' = some x := by
    intro r' x hx hne
    rw [T.get_set, if_neg hne, T.get_del] at hx
    by_cases e : r' = r
    · rw [if_pos e] at hx; cases hx
    · rw [if_neg e] at hx; exact ⟨e, hx⟩
  refine ⟨hle, fun r hr => Env.put_ne _ _ (by omega), fun r hr => ?_, by simp [newA], ⟨?_, ?_⟩, ⟨rfl, rfl, rfl, by simp [wput], ?_⟩, ?_, ?_⟩
  · simp only [newA] at hr
    rw [Env.put_ne _ _ (by omega)]; exact p.fresh r (by omega)
  · intro r' x hx
    simp only [newA] at hx
    by_cases hr : r' = h.next
    · subst hr
      rw [T.get_set, if_pos rfl] at hx; cases hx
      exact ⟨b, d2, n2, o', Env.put_at _ _ _, by rw [wput_get, if_pos ⟨rfl, heap_lt hb⟩], hO, fun _ => hB ho⟩
    · obtain ⟨hne, hx⟩ := get r' x hx hr
      obtain ⟨b1, d1, n1, o1, h1, h2, h3, h4⟩ := p.hr.obj r' x hx
      refine ⟨b1, d1, n1, o1, hle _ _ h1, ?_, h3.mono hle, h4⟩
      rw [wput_get, if_neg]
      · exact h2
      · rintro ⟨e, _⟩
        subst e
        exact hne (p.hr.inj r' r x a _ _ _ _ _ hx hg h1 he)
  · intro r1 r2 x1 x2 bb e1 m1 e2 m2 hx1 hx2 k1 k2
    simp only [newA] at hx1 hx2
    by_cases hr1 : r1 = h.next
    · by_cases hr2 : r2 = h.next
      · rw [hr1, hr2]
      · obtain ⟨hne, hx2⟩ := get r2 x2 hx2 hr2
        subst hr1
        rw [Env.put_at] at k1; cases k1
        rw [Env.put_ne _ _ hr2] at k2
        exact absurd (p.hr.inj r2 r x2 a _ _ _ _ _ hx2 hg k2 he) hne
    · obtain ⟨hne1, hx1⟩ := get r1 x1 hx1 hr1
      rw [Env.put_ne _ _ hr1] at k1
      by_cases hr2 : r2 = h.next
      · subst hr2
        rw [Env.put_at] at k2; cases k2
        exact absurd (p.hr.inj r1 r x1 a _ _ _ _ _ hx1 hg k1 he) hne1
      · obtain ⟨hne2, hx2⟩ := get r2 x2 hx2 hr2
        rw [Env.put_ne _ _ hr2] at k2
        exact p.hr.inj r1 r2 x1 x2 _ _ _ _ _ hx1 hx2 k1 k2
  · intro k hk hno
    rw [wput_get, if_neg]
    rintro ⟨e, _⟩
    subst e
    exact hno ⟨r, a, d, n, hg, ho, he⟩
  · rintro bb ⟨r', x, d', m', hx, hox, e⟩
    simp only [newA] at hx
    by_cases hr : r' = h.next
    · subst hr
      rw [Env.put_at] at e; cases e
      exact .inl ⟨r, a, d, n, hg, ho, he⟩
    · obtain ⟨_, hx⟩ := get r' x hx hr
      rw [Env.put_ne _ _ hr] at e
      exact .inl ⟨r', x, d', m', hx, hox, e⟩
  · rintro bb ⟨r', x, d', m', hx, e⟩
    simp only [newA] at hx
    by_cases hr : r' = h.next
    · subst hr
      rw [Env.put_at] at e; cases e
      exact .inl ⟨r, a, d, n, hg, he⟩
    · obtain ⟨_, hx⟩ := get r' x hx hr
      rw [Env.put_ne _ _ hr] at e
      exact .inl ⟨r', x, d', m', hx, e⟩
/-- A store. -/
theorem storeC_ok (hη : OneCells η) (p : Pre η P ρ B h w) {a b : Addr} {vs vs' : List Value} {h' : AH} (hs : storeC h a vs = .ok h') (hab : AdR ρ a b) (hv : LR η ρ vs vs') :
    ∃ w', (storeCells b vs').run P w = .ok () w' ∧ Post η ρ B h w ρ h' w' := by
  unfold storeC at hs
  split at hs
  · have := hv.inv_nil; subst this
    rw [okk] at hs; subst hs
    exact ⟨w, rfl, .refl p⟩
  · rename_i hne
    split at hs
    · rename_i ty c q own hc
      rw [ite_no', okk] at hs
      obtain ⟨⟨rfl, hlen, _, hall⟩, rfl⟩ := hs
      have hg := cellsAt_ok.1 hc
      simp only [] at hg
      obtain ⟨bb, d, n, C, lo, hi, h1, h2, h3, h4⟩ := p.hr.cells hg
      obtain ⟨hsp, n', blk, d', h5, rfl⟩ := hab
      rw [h1] at h5; cases h5
      have hcl : c.length ≤ n := h3.len
      have hsz : C.toList.length = d + n := h3.size
      have hvl : vs.length = vs'.length := hv.len
      have hone : ∀ x ∈ vs', x.oneCell' = true := by
        intro x hx
        obtain ⟨i, hi, rfl⟩ := List.getElem_of_mem hx
        have hi' : i < vs.length := by omega
        have := hv.at_ i vs[i] vs'[i] (List.getElem?_eq_getElem hi') (List.getElem?_eq_getElem hi)
        exact this.oneC hη (List.all_eq_true.1 hall _ (List.getElem_mem hi'))
      obtain ⟨C', hC, hr⟩ := run_storeCells (P := P) (o := d + a.off) vs' 0 C w h2 hone (by omega) (fun j hj => by
        have := h3.free rfl (a.off + j) (by omega)
        rwa [show d + a.off + 0 + j = d + (a.off + j) by omega])
      refine ⟨_, hr, Post.put p hg rfl h1 rfl ⟨C', ty, lo, hi, rfl, ⟨rfl, ?_, ?_, ?_, (fun hp => by obtain ⟨q1, q2, q3, q4⟩ := h3.plain hp; exact ⟨q1, q2, q3, by rw [splice_len _ _ _ hlen]; exact q4⟩), h3.free⟩⟩⟩
      · rw [hC, splice_len _ _ _ (by omega)]; exact hsz
      · rw [splice_len _ _ _ hlen]; exact hcl
      · intro i v hi'
        rw [splice_get _ _ _ hlen] at hi'
        rw [hC, splice_get _ _ _ (by omega)]
        by_cases hin : a.off ≤ i ∧ i < a.off + vs.length
        · rw [if_pos hin] at hi'
          rw [if_pos (by omega)]
          obtain ⟨x, hx, hvx⟩ := hv.get hi'
          exact ⟨x, by rw [show d + i - (d + a.off + 0) = i - a.off by omega]; exact hx, hvx⟩
        · rw [if_neg hin] at hi'
          rw [if_neg (by omega)]
          exact h3.at_ i v hi'
    · cases hs
end
end Go.Ev
