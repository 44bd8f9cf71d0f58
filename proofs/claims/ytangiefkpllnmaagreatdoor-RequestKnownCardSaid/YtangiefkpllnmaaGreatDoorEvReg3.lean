/- A drawn region: in whatever order. -/
import Derived.Test.YtangiefkpllnmaaGreatDoorEvReg2
import Derived.Orders
namespace Go.Ev
set_option linter.unusedVariables false
set_option linter.unusedSimpArgs false
variable {η : Nat → Value}
def tmS : List Ent → Nat → (Nat → Bool) → T Value → T Value
  | [], _, _, tm => tm
  | x :: l, i, p, tm => tmS l (i + 1) p (match p i, x.o.dst with | true, some d => tm.set d x.v | _, _ => tm)
theorem tmS_get {p : Nat → Bool} {t : Tmp} : ∀ {l : List Ent} {i : Nat} {tm : T Value}, (tmS l i p tm).get t = wr l i p t (tm.get t)
  | [], i, tm => rfl
  | x :: l, i, tm => by
    simp only [tmS, wr]
    rw [tmS_get]
    congr 1
    cases hp : p i with
    | false => simp
    | true =>
      cases hd : x.o.dst with
      | none => simp
      | some d =>
        simp only [Bool.true_and]
        rw [T.get_set]
        by_cases e : t = d
        · subst e; simp
        · have : ¬ (d = t) := fun h => e h.symm
          simp [e, this]
theorem TR.congr {ρ : Env} {tm tm2 : T Value} {n : Nat} {tmps : Array Value} (h : ∀ t, tm2.get t = tm.get t) (k : TR η ρ tm n tmps) : TR η ρ tm2 n tmps :=
  ⟨k.1, fun t ht => by rw [h]; exact k.2.1 t ht, fun t ht => by rw [h]; exact k.2.2 t ht⟩
def InS (E : List Ent) (ee : List Nat) (base : Nat) (S : Nat → Bool) (k : Nat) (hk : AH) (r : Nat) (a : AObj) : Prop :=
  hk.objs.get r = some a ∨ ∃ j, r = base + j ∧ alOf E j = some a ∧ S j = true ∧ ¬ Merged E ee k j
structure HOk (η : Nat → Value) (B : Nat) (E : List Ent) (ee : List Nat) (base N : Nat) (ρ0 : Env) (h : AH) (w0 : World) (S : Nat → Bool) (ρ : Env) (w : World) (k : Nat) (hk : AH) : Prop where
  obj : ∀ r a, InS E ee base S k hk r a → ∃ b d m o, ρ r = some (b, d, m) ∧ w.heap[b]? = some o ∧ OR η ρ a d m o ∧ (ownO a = true → B ≤ b)
  inj : ∀ r r' a a' b d m d' m', InS E ee base S k hk r a → InS E ee base S k hk r' a' → ρ r = some (b, d, m) → ρ r' = some (b, d', m') → r = r'
  nx : base + N ≤ hk.next
  fresh : FreshR ρ hk.next
  abs : ∀ j, j < N → ¬ Merged E ee k j → hk.objs.get (base + j) = none
  own : ∀ b, (∃ r a d m, InS E ee base S k hk r a ∧ ownO a = true ∧ ρ r = some (b, d, m)) → Own ρ0 h b ∨ w0.heap.size ≤ b
  inn : ∀ b, (∃ r a d m, InS E ee base S k hk r a ∧ ρ r = some (b, d, m)) → (∃ r a d m, h.objs.get r = some a ∧ ρ0 r = some (b, d, m)) ∨ w0.heap.size ≤ b
structure RInv (η : Nat → Value) (P : Program) (B : Nat) (s : RS) (base N n : Nat) (tm0 : T Value) (ρ0 : Env) (h : AH) (w0 : World) (S : Nat → Bool) (ρ : Env) (tmps : Array Value) (w : World) (k : Nat) (hk : AH) : Prop where
  clo : ∀ j x, s.ents[j]? = some x → S j = true → ∀ e ∈ x.o.after.toList, Region.binds .any e = true → S e.on = true
  lt : ∀ j, S j = true → j < N
  tmr : TR η ρ (tmS s.ents 0 S tm0) n tmps
  hhk : s.hh[k]? = some hk
  kle : k ≤ s.ee.length
  ks : ∀ m e, s.ee[m]? = some e → (S e = true ↔ m < k)
  H : HOk η B s.ents s.ee base N ρ0 h w0 S ρ w k hk
  unb : ∀ j, j < N → (S j = false ∨ alOf s.ents j = none) → ρ (base + j) = none
  le : Env.le ρ0 ρ
  old : ∀ r, r < base → ρ r = ρ0 r
  glob : GR P ρ
  fr : Fr ρ0 h w0 w
  low : B ≤ w.heap.size
section
variable {P : Program} {B : Nat} {nest : Nest} {ops : Array Oper} {base N n : Nat} {tm0 : T Value} {h0 : AH} {s : RS} {ρ0 : Env} {h : AH} {w0 : World} {S : Nat → Bool} {ρ : Env} {tmps : Array Value} {w : World} {k : Nat} {hk : AH}
theorem mkE_of {E : List Ent} {j : Nat} {x : Ent} (h : E[j]? = some x) : mkE E j = x.mask := by unfold mkE; rw [h]; rfl
theorem alOf_of {E : List Ent} {j : Nat} {x : Ent} (h : E[j]? = some x) : alOf E j = x.obj := by unfold alOf; rw [h]; rfl
/-- What stands before what is done is done. -/
theorem RInv.mask (G : Good P nest ops.toList base n tm0 h0 s) (I : RInv η P B s base N n tm0 ρ0 h w0 S ρ tmps w k hk) : ∀ (j : Nat) (x : Ent), s.ents[j]? = some x → (∀ e ∈ x.o.after.toList, Region.binds .any e = true → S e.on = true) → ∀ m, x.mask.testBit m = true → S m = true := by
  intro j
  induction j using Nat.strongRecOn with
  | _ j ih =>
    intro x hx hp m hm
    obtain ⟨e, he, hb, hlt, hor⟩ := (G.ent j x hx).clo m hm
    have hse := hp e he hb
    rcases hor with rfl | hor
    · exact hse
    · have hl : e.on < s.ents.length := by have := (List.getElem?_eq_some_iff.1 hx).1; omega
      have hz : s.ents[e.on]? = some s.ents[e.on] := List.getElem?_eq_getElem hl
      rw [mkE_of hz] at hor
      exact ih e.on hlt _ hz (I.clo _ _ hz hse) m hor
theorem RInv.mask' (G : Good P nest ops.toList base n tm0 h0 s) (I : RInv η P B s base N n tm0 ρ0 h w0 S ρ tmps w k hk) {j : Nat} {x : Ent} (hx : s.ents[j]? = some x) (hS : S j = true) : ∀ m, x.mask.testBit m = true → S m = true :=
  I.mask G j x hx (I.clo j x hx hS)
theorem RInv.not_merged (G : Good P nest ops.toList base n tm0 h0 s) (I : RInv η P B s base N n tm0 ρ0 h w0 S ρ tmps w k hk) {i : Nat} (hi : S i = false) : ¬ Merged s.ents s.ee k i := by
  rintro ⟨m, e, hm, he, hb⟩
  have hse := (I.ks m e he).2 hm
  obtain ⟨y, hy, _⟩ := G.effs m e he
  rw [mkE_of hy] at hb
  have := I.mask' G hy hse i hb
  rw [hi] at this; cases this
/-- A part of the heap that is there. -/
theorem RInv.sub (I : RInv η P B s base N n tm0 ρ0 h w0 S ρ tmps w k hk) {mask : Nat} {al : List (Nat × Nat × AObj)} (hal : AlIn s.ents s.ee base k al) (hm : ∀ m, mask.testBit m = true → S m = true) :
    (∀ r a, (withAl mask hk al).objs.get r = some a → InS s.ents s.ee base S k hk r a) ∧ Pre η P ρ B (withAl mask hk al) w := by
  have hin : ∀ r a, (withAl mask hk al).objs.get r = some a → InS s.ents s.ee base S k hk r a := by
    intro r a hg
    rcases withAl_get al hg with h1 | ⟨j, h1, h2⟩
    · exact .inl h1
    · obtain ⟨e1, e2, e3⟩ := hal j r a h1
      exact .inr ⟨j, e1, e2, hm j h2, e3⟩
  refine ⟨hin, ⟨⟨fun r a hg => I.H.obj r a (hin r a hg), fun r r' a a' b d m d' m' h1 h2 => I.H.inj r r' a a' b d m d' m' (hin _ _ h1) (hin _ _ h2)⟩, ?_, I.glob, I.low⟩⟩
  intro r hr
  rw [withAl_next] at hr
  exact I.H.fresh r hr
theorem wr_agree (G : Good P nest ops.toList base n tm0 h0 s) (I : RInv η P B s base N n tm0 ρ0 h w0 S ρ tmps w k hk) {i : Nat} {x : Ent} (hx : s.ents[i]? = some x) (hp : ∀ e ∈ x.o.after.toList, Region.binds .any e = true → S e.on = true) (hi : S i = false) {t : Tmp} (ht : t ∈ looks ops.toList x.o) :
    (tmS s.ents 0 S tm0).get t = x.tm.get t := by
  rw [tmS_get, (G.ent i x hx).tm t]
  refine wr_congr fun j z hz hd => ?_
  rw [Nat.zero_add]
  have hil : i < s.ents.length := (List.getElem?_eq_some_iff.1 hx).1
  rcases Nat.lt_trichotomy j i with hlt | rfl | hgt
  · have hc : clash ops.toList z.o x.o = true := by
      unfold clash; rw [hd]; simp [ht]
    have := I.mask G i x hx hp j ((G.ent i x hx).ord j z hlt hz hc)
    simp [this, hlt]
  · simp [hi]
  · have hc : clash ops.toList x.o z.o = true := by
      unfold clash; rw [hd]; simp [ht]
    have hb := (G.ent j z hz).ord i x hgt hx hc
    have : S j = false := by
      cases hS : S j with
      | false => rfl
      | true => have := I.mask' G hz hS i hb; rw [hi] at this; cases this
    simp [this]; omega
theorem eval_agree (G : Good P nest ops.toList base n tm0 h0 s) (I : RInv η P B s base N n tm0 ρ0 h w0 S ρ tmps w k hk) {i : Nat} {x : Ent} (hx : s.ents[i]? = some x) (hp : ∀ e ∈ x.o.after.toList, Region.binds .any e = true → S e.on = true) (hi : S i = false) (hok : okOps P x.o = true) {fr : Frame} (hfr : fr.tmps = tmps) :
    ∀ y ∈ x.o.op.operands.toList, VR η ρ (evA x.tm y) (fr.eval y) := by
  intro y hy
  have hyo := okOps_all hok y hy
  have := evA_ok (P := P) I.glob (fr := fr) (by rw [hfr]; exact I.tmr) hyo
  have e : evA (tmS s.ents 0 S tm0) y = evA x.tm y := by
    cases y with
    | tmp t =>
      simp only [evA]
      rw [wr_agree G I hx hp hi (List.mem_append_left _ (List.mem_filterMap.2 ⟨.tmp t, hy, rfl⟩))]
    | _ => rfl
  rw [← e]; exact this
theorem want_agree (G : Good P nest ops.toList base n tm0 h0 s) (I : RInv η P B s base N n tm0 ρ0 h w0 S ρ tmps w k hk) {i : Nat} {x : Ent} (hx : s.ents[i]? = some x) (hp : ∀ e ∈ x.o.after.toList, Region.binds .any e = true → S e.on = true) (hi : S i = false) :
    Region.wanted x.o (yielded ops tmps) = x.want := by
  refine wanted_ok I.tmr ?_
  rw [← (G.ent i x hx).want]
  unfold wantedA
  cases hg : x.o.guard with
  | none => rfl
  | some g =>
    obtain ⟨j, want⟩ := g
    simp only []
    cases hd : (ops.toList[j]?).bind (·.dst) with
    | none => rfl
    | some d =>
      simp only []
      rw [wr_agree G I hx hp hi (by
        unfold looks
        refine List.mem_append_right _ ?_
        rw [hg]
        simp only []
        rw [hd]
        simp)]
/-- The temporaries behind. -/
theorem tm_step (G : Good P nest ops.toList base n tm0 h0 s) (I : RInv η P B s base N n tm0 ρ0 h w0 S ρ tmps w k hk) {i : Nat} {x : Ent} (hx : s.ents[i]? = some x) (hi : S i = false) {ρ' : Env} (hle : Env.le ρ ρ') {u : Value} (hv : VR η ρ' x.v u) :
    TR η ρ' (tmS s.ents 0 (fun j => S j || j == i) tm0) n (setD tmps x.o.dst u) := by
  have key : ∀ t, (tmS s.ents 0 (fun j => S j || j == i) tm0).get t = if x.o.dst = some t then some x.v else (tmS s.ents 0 S tm0).get t := by
    intro t
    rw [tmS_get, tmS_get]
    by_cases hd : x.o.dst = some t
    · rw [if_pos hd]
      refine wr_last (j := i) hx hd (by simp) fun j' z hj hz hdz => ?_
      rw [Nat.zero_add]
      have hc : clash ops.toList x.o z.o = true := by
        unfold clash; rw [hd, hdz]; simp
      have hb := (G.ent j' z hz).ord i x hj hx hc
      have : S j' = false := by
        cases hS : S j' with
        | false => rfl
        | true => have := I.mask' G hz hS i hb; rw [hi] at this; cases this
      simp [this]; omega
    · rw [if_neg hd]
      refine wr_congr fun j z hz hdz => ?_
      rw [Nat.zero_add]
      have : j ≠ i := fun e => hd (by subst e; rw [hx] at hz; cases hz; exact hdz)
      simp [this]
  have ht := I.tmr.mono hle
  cases hd : x.o.dst with
  | none =>
    exact TR.congr (fun t => by rw [key t, hd]; simp) ht
  | some d =>
    have hput : putT n (tmS s.ents 0 S tm0) (some d) x.v = .ok ((tmS s.ents 0 S tm0).set d x.v) := by
      simp only [putT]; rw [if_pos ((G.ent i x hx).dst d hd)]
    refine TR.congr (fun t => ?_) (putT_ok hput ht hv)
    rw [key t, T.get_set, hd]
    by_cases e : t = d
    · subst e; simp
    · rw [if_neg e, if_neg (fun h => e (by cases h; rfl))]
theorem ks_step (G : Good P nest ops.toList base n tm0 h0 s) (I : RInv η P B s base N n tm0 ρ0 h w0 S ρ tmps w k hk) {i : Nat} {x : Ent} (hx : s.ents[i]? = some x) (hne : ¬ (x.want = true ∧ x.kind = .effect)) : ∀ m e, s.ee[m]? = some e → ((S e || e == i) = true ↔ m < k) := by
  intro m e he
  obtain ⟨y, hy, hw, hkk⟩ := G.effs m e he
  have : e ≠ i := fun h => hne (by subst h; rw [hx] at hy; cases hy; exact ⟨hw, hkk⟩)
  rw [← I.ks m e he]
  simp [this]
theorem clo_step (I : RInv η P B s base N n tm0 ρ0 h w0 S ρ tmps w k hk) {i : Nat} {x : Ent} (hx : s.ents[i]? = some x) (hp : ∀ e ∈ x.o.after.toList, Region.binds .any e = true → S e.on = true) :
    ∀ j y, s.ents[j]? = some y → (S j || j == i) = true → ∀ e ∈ y.o.after.toList, Region.binds .any e = true → (S e.on || e.on == i) = true := by
  intro j y hy hj e he hb
  by_cases hji : j = i
  · subst hji; rw [hx] at hy; cases hy
    simp [hp e he hb]
  · have : S j = true := by simpa [hji] using hj
    simp [I.clo j y hy this e he hb]
/-- Behind an operation that leaves the world as it was. -/
theorem quiet_step (G : Good P nest ops.toList base n tm0 h0 s) (I : RInv η P B s base N n tm0 ρ0 h w0 S ρ tmps w k hk) {i : Nat} {x : Ent} (hx : s.ents[i]? = some x) (hp : ∀ e ∈ x.o.after.toList, Region.binds .any e = true → S e.on = true) (hi : S i = false) (hiN : i < N)
    (hobj : x.obj = none) (hne : ¬ (x.want = true ∧ x.kind = .effect)) {u : Value} (hv : VR η ρ x.v u) : RInv η P B s base N n tm0 ρ0 h w0 (fun j => S j || j == i) ρ (setD tmps x.o.dst u) w k hk := by
  have hin : ∀ r a, InS s.ents s.ee base (fun j => S j || j == i) k hk r a ↔ InS s.ents s.ee base S k hk r a := by
    intro r a
    constructor
    · rintro (h1 | ⟨j, h1, h2, h3, h4⟩)
      · exact .inl h1
      · refine .inr ⟨j, h1, h2, ?_, h4⟩
        have : j ≠ i := fun e => by subst e; rw [alOf_of hx, hobj] at h2; cases h2
        simpa [this] using h3
    · rintro (h1 | ⟨j, h1, h2, h3, h4⟩)
      · exact .inl h1
      · exact .inr ⟨j, h1, h2, by simp [h3], h4⟩
  refine ⟨clo_step I hx hp, fun j hj => ?_, tm_step G I hx hi (Env.le_refl _) hv, I.hhk, I.kle, ks_step G I hx hne, ⟨fun r a h => I.H.obj r a ((hin r a).1 h), fun r r' a a' b d m d' m' h1 h2 => I.H.inj r r' a a' b d m d' m' ((hin _ _).1 h1) ((hin _ _).1 h2), I.H.nx, I.H.fresh, I.H.abs,
    fun b ⟨r, a, d, m, h1, h2⟩ => I.H.own b ⟨r, a, d, m, (hin _ _).1 h1, h2⟩, fun b ⟨r, a, d, m, h1, h2⟩ => I.H.inn b ⟨r, a, d, m, (hin _ _).1 h1, h2⟩⟩, fun j hj hS => I.unb j hj (hS.imp (fun h => by simp at h; exact h.1) id), I.le, I.old, I.glob, I.fr, I.low⟩
  simp at hj
  rcases hj with hj | rfl
  · exact I.lt j hj
  · exact hiN
/-- Behind an operation that makes a block. -/
theorem alloc_step (G : Good P nest ops.toList base n tm0 h0 s) (I : RInv η P B s base N n tm0 ρ0 h w0 S ρ tmps w k hk) {i : Nat} {x : Ent} (hx : s.ents[i]? = some x) (hp : ∀ e ∈ x.o.after.toList, Region.binds .any e = true → S e.on = true) (hi : S i = false) (hiN : i < N)
    {b : AObj} (hobj : x.obj = some b) (hown : ownO b = true) (hne : ¬ (x.want = true ∧ x.kind = .effect)) {u : Value} {w' : World} {ob : Obj} {nn : Nat} (hpush : Pushed w w' ob)
    (hv : VR η (ρ.put (base + i) (w.heap.size, 0, nn)) x.v u) (hO : OR η (ρ.put (base + i) (w.heap.size, 0, nn)) b 0 nn ob) :
    RInv η P B s base N n tm0 ρ0 h w0 (fun j => S j || j == i) (ρ.put (base + i) (w.heap.size, 0, nn)) (setD tmps x.o.dst u) w' k hk := by
  have hnone := I.unb i hiN (.inl hi)
  have hle := Env.le_put (t := (w.heap.size, 0, nn)) hnone
  have hin : ∀ r a, InS s.ents s.ee base (fun j => S j || j == i) k hk r a → (r = base + i ∧ a = b) ∨ (r ≠ base + i ∧ InS s.ents s.ee base S k hk r a) := by
    intro r a
    rintro (h1 | ⟨j, h1, h2, h3, h4⟩)
    · refine .inr ⟨fun e => ?_, .inl h1⟩
      subst e
      rw [I.H.abs i hiN (I.not_merged G hi)] at h1; cases h1
    · by_cases e : j = i
      · subst e
        rw [alOf_of hx, hobj] at h2; cases h2
        exact .inl ⟨h1, rfl⟩
      · exact .inr ⟨by omega, .inr ⟨j, h1, h2, by simpa [e] using h3, h4⟩⟩
  have blt : ∀ r a b' d m, InS s.ents s.ee base S k hk r a → ρ r = some (b', d, m) → b' < w.heap.size := by
    intro r a b' d m h1 h2
    obtain ⟨b2, d2, m2, o, e1, e2, _⟩ := I.H.obj r a h1
    rw [h2] at e1; cases e1
    exact heap_lt e2
  have hfr : Fr ρ0 h w0 w' := by
    refine ⟨hpush.os.trans I.fr.os, hpush.tape.trans I.fr.tape, hpush.output.trans I.fr.output, by rw [hpush.heap]; have := I.fr.size; simp; omega, fun k2 hk2 hno => ?_⟩
    rw [pushed_old hpush (Nat.lt_of_lt_of_le hk2 I.fr.size)]
    exact I.fr.kept k2 hk2 hno
  refine ⟨clo_step I hx hp, fun j hj => ?_, tm_step G I hx hi hle hv, I.hhk, I.kle, ks_step G I hx hne, ⟨?_, ?_, I.H.nx, ?_, I.H.abs, ?_, ?_⟩, ?_, Env.le_trans I.le hle, ?_, I.glob.mono hle, hfr, ?_⟩
  · simp at hj
    rcases hj with hj | rfl
    · exact I.lt j hj
    · exact hiN
  · intro r a h
    rcases hin r a h with ⟨rfl, rfl⟩ | ⟨hr, h⟩
    · exact ⟨_, _, _, ob, Env.put_at _ _ _, pushed_new hpush, hO, fun _ => I.low⟩
    · obtain ⟨b2, d2, m2, o, e1, e2, e3, e4⟩ := I.H.obj r a h
      exact ⟨b2, d2, m2, o, hle _ _ e1, by rw [pushed_old hpush (heap_lt e2)]; exact e2, e3.mono hle, e4⟩
  · intro r r' a a' b2 d m d' m' h1 h2 e1 e2
    rcases hin r a h1 with ⟨rfl, rfl⟩ | ⟨hr, h1⟩
    · rcases hin r' a' h2 with ⟨rfl, rfl⟩ | ⟨hr', h2⟩
      · rfl
      · rw [Env.put_at] at e1; cases e1
        rw [Env.put_ne _ _ hr'] at e2
        exact absurd (blt _ _ _ _ _ h2 e2) (Nat.lt_irrefl _)
    · rw [Env.put_ne _ _ hr] at e1
      rcases hin r' a' h2 with ⟨rfl, rfl⟩ | ⟨hr', h2⟩
      · rw [Env.put_at] at e2; cases e2
        exact absurd (blt _ _ _ _ _ h1 e1) (Nat.lt_irrefl _)
      · rw [Env.put_ne _ _ hr'] at e2
        exact I.H.inj r r' a a' b2 d m d' m' h1 h2 e1 e2
  · intro r hr
    have := I.H.nx
    rw [Env.put_ne _ _ (by omega)]
    exact I.H.fresh r hr
  · rintro b2 ⟨r, a, d, m, h1, h2, h3⟩
    rcases hin r a h1 with ⟨rfl, rfl⟩ | ⟨hr, h1⟩
    · rw [Env.put_at] at h3; cases h3
      exact .inr I.fr.size
    · rw [Env.put_ne _ _ hr] at h3
      exact I.H.own b2 ⟨r, a, d, m, h1, h2, h3⟩
  · rintro b2 ⟨r, a, d, m, h1, h3⟩
    rcases hin r a h1 with ⟨rfl, rfl⟩ | ⟨hr, h1⟩
    · rw [Env.put_at] at h3; cases h3
      exact .inr I.fr.size
    · rw [Env.put_ne _ _ hr] at h3
      exact I.H.inn b2 ⟨r, a, d, m, h1, h3⟩
  · intro j hj hS
    have hji : j ≠ i := fun e => by
      subst e
      rcases hS with hS | hS
      · simp at hS
      · rw [alOf_of hx, hobj] at hS; cases hS
    rw [Env.put_ne _ _ (by omega)]
    exact I.unb j hj (hS.imp (fun h => by simp at h; exact h.1) id)
  · intro r hr
    rw [Env.put_ne _ _ (by omega)]
    exact I.old r hr
  · have := I.low
    rw [hpush.heap]; simp; omega
/-- Behind an effect. -/
theorem effect_step (G : Good P nest ops.toList base n tm0 h0 s) (I : RInv η P B s base N n tm0 ρ0 h w0 S ρ tmps w k hk) {i : Nat} {x : Ent} (hx : s.ents[i]? = some x) (hp : ∀ e ∈ x.o.after.toList, Region.binds .any e = true → S e.on = true) (hi : S i = false) (hiN : i < N) (hobj : x.obj = none)
    (hek : s.ee[k]? = some i) {hk' : AH} (hhk' : s.hh[k + 1]? = some hk') {al : List (Nat × Nat × AObj)} (hal : AlIn s.ents s.ee base k al) {ρ' : Env} {w' : World} (hpost : Post η ρ B (withAl x.mask hk al) w ρ' hk' w') {u : Value} (hv : VR η ρ' x.v u) :
    RInv η P B s base N n tm0 ρ0 h w0 (fun j => S j || j == i) ρ' (setD tmps x.o.dst u) w' (k + 1) hk' := by
  obtain ⟨hsub, hpre⟩ := I.sub hal (I.mask G i x hx hp)
  have mstep : ∀ j, Merged s.ents s.ee (k + 1) j ↔ Merged s.ents s.ee k j ∨ x.mask.testBit j = true := by
    intro j
    constructor
    · rintro ⟨m, e, hm, he, hb⟩
      rcases Nat.lt_or_ge m k with hlt | hge
      · exact .inl ⟨m, e, hlt, he, hb⟩
      · have : m = k := by omega
        subst this
        rw [hek] at he; cases he
        rw [mkE_of hx] at hb
        exact .inr hb
    · rintro (⟨m, e, hm, he, hb⟩ | hb)
      · exact ⟨m, e, by omega, he, hb⟩
      · exact ⟨k, i, by omega, hek, by rw [mkE_of hx]; exact hb⟩
  have blt : ∀ r a b' d m, InS s.ents s.ee base S k hk r a → ρ r = some (b', d, m) → b' < w.heap.size := by
    intro r a b' d m h1 h2
    obtain ⟨b2, d2, m2, o, e1, e2, _⟩ := I.H.obj r a h1
    rw [h2] at e1; cases e1
    exact heap_lt e2
  have hnx : (withAl x.mask hk al).next = hk.next := withAl_next al
  -- what is left of the blocks made
  have rest : ∀ r a, InS s.ents s.ee base (fun j => S j || j == i) (k + 1) hk' r a → hk'.objs.get r = some a ∨ (∃ j, r = base + j ∧ S j = true ∧ InS s.ents s.ee base S k hk r a ∧ ¬ Merged s.ents s.ee (k + 1) j) := by
    rintro r a (h1 | ⟨j, h1, h2, h3, h4⟩)
    · exact .inl h1
    · have hji : j ≠ i := fun e => by subst e; rw [alOf_of hx, hobj] at h2; cases h2
      have hS : S j = true := by simpa [hji] using h3
      exact .inr ⟨j, h1, hS, .inr ⟨j, h1, h2, hS, fun hm => h4 ((mstep j).2 (.inl hm))⟩, h4⟩
  -- they are not in the part that the effect saw
  have nosub : ∀ j a, j < N → ¬ Merged s.ents s.ee (k + 1) j → (withAl x.mask hk al).objs.get (base + j) ≠ some a := by
    intro j a hj hnm hg
    rcases withAl_get al hg with h1 | ⟨j', h1, h2⟩
    · rw [I.H.abs j hj (fun hm => hnm ((mstep j).2 (.inl hm)))] at h1; cases h1
    · obtain ⟨e1, _, _⟩ := hal j' _ _ h1
      have : j' = j := by omega
      subst this
      exact hnm ((mstep j').2 (.inr h2))
  have hroom := I.H.nx
  -- a block of the rest is none of those behind the effect
  have apart : ∀ j a r2 a2 b d m d2 m2, S j = true → InS s.ents s.ee base S k hk (base + j) a → ¬ Merged s.ents s.ee (k + 1) j → hk'.objs.get r2 = some a2 → ρ (base + j) = some (b, d, m) → ρ' r2 = some (b, d2, m2) → False := by
    intro j a r2 a2 b d m d2 m2 hS hI hnm hg e1 e2
    rcases hpost.inn b ⟨r2, a2, d2, m2, hg, e2⟩ with ⟨r3, a3, d3, m3, hg3, e3⟩ | hge
    · have := I.H.inj _ _ _ _ _ _ _ _ _ (hsub r3 a3 hg3) hI e3 e1
      subst this
      exact nosub j a3 (I.lt j hS) hnm hg3
    · have := blt _ _ _ _ _ hI e1
      omega
  have hold : ∀ j, j < N → ρ' (base + j) = ρ (base + j) := fun j hj => hpost.old _ (by rw [hnx]; omega)
  have hOwn : OwnIn ρ0 ρ h (withAl x.mask hk al) w0 := by
    rintro b ⟨r, a, d, m, h1, h2, h3⟩
    exact I.H.own b ⟨r, a, d, m, hsub r a h1, h2, h3⟩
  refine ⟨clo_step I hx hp, fun j hj => ?_, tm_step G I hx hi hpost.le hv, hhk', by have := (List.getElem?_eq_some_iff.1 hek).1; omega, ?_, ⟨?_, ?_, ?_, hpost.fresh, ?_, ?_, ?_⟩, ?_, Env.le_trans I.le hpost.le, ?_, I.glob.mono hpost.le, I.fr.trans hOwn hpost.fr, Nat.le_trans I.low hpost.fr.size⟩
  · simp at hj
    rcases hj with hj | rfl
    · exact I.lt j hj
    · exact hiN
  · intro m e he
    by_cases hm : m = k
    · subst hm
      rw [hek] at he; cases he
      simp
    · have hne : e ≠ i := by
        intro hei; subst hei
        rcases Nat.lt_trichotomy m k with hlt | h2 | hgt
        · exact absurd (G.inc m k e e hlt he hek) (Nat.lt_irrefl _)
        · exact hm h2
        · exact absurd (G.inc k m e e hgt hek he) (Nat.lt_irrefl _)
      have := I.ks m e he
      simp only [hne, beq_iff_eq, Bool.or_eq_true, or_false]
      rw [this]; omega
  · intro r a hI
    rcases rest r a hI with h1 | ⟨j, rfl, hS, h1, hnm⟩
    · obtain ⟨b, d, m, o, e1, e2, e3, e4⟩ := hpost.hr.obj r a h1
      exact ⟨b, d, m, o, e1, e2, e3, e4⟩
    · obtain ⟨b, d, m, o, e1, e2, e3, e4⟩ := I.H.obj _ a h1
      refine ⟨b, d, m, o, hpost.le _ _ e1, ?_, e3.mono hpost.le, e4⟩
      rw [hpost.fr.kept b (heap_lt e2) ?_]
      · exact e2
      · rintro ⟨r3, a3, d3, m3, h3, _, e5⟩
        have := I.H.inj _ _ _ _ _ _ _ _ _ (hsub r3 a3 h3) h1 e5 e1
        subst this
        exact nosub j a3 (I.lt j hS) hnm h3
  · intro r r' a a' b d m d' m' h1 h2 e1 e2
    rcases rest r a h1 with h1 | ⟨j, rfl, hS, h1, hnm⟩
    · rcases rest r' a' h2 with h2 | ⟨j', rfl, hS', h2, hnm'⟩
      · exact hpost.hr.inj r r' a a' b d m d' m' h1 h2 e1 e2
      · rw [hold j' (I.lt j' hS')] at e2
        exact (apart j' a' r a b d' m' d m hS' h2 hnm' h1 e2 e1).elim
    · rw [hold j (I.lt j hS)] at e1
      rcases rest r' a' h2 with h2 | ⟨j', rfl, hS', h2, hnm'⟩
      · exact (apart j a r' a' b d m d' m' hS h1 hnm h2 e1 e2).elim
      · rw [hold j' (I.lt j' hS')] at e2
        exact I.H.inj _ _ _ _ _ _ _ _ _ h1 h2 e1 e2
  · have := hpost.next
    rw [hnx] at this; omega
  · intro j hj hnm
    cases hg : hk'.objs.get (base + j) with
    | none => rfl
    | some a =>
      exfalso
      obtain ⟨b, d, m, o, e1, e2, _⟩ := hpost.hr.obj _ a hg
      have e1' := e1
      rw [hold j hj] at e1'
      -- its number was bound before: it is that of a block made
      have hS : S j = true := by
        cases hS : S j with
        | true => rfl
        | false => rw [I.unb j hj (.inl hS)] at e1'; cases e1'
      cases hal3 : alOf s.ents j with
      | none => rw [I.unb j hj (.inr hal3)] at e1'; cases e1'
      | some c =>
        have hI : InS s.ents s.ee base S k hk (base + j) c := .inr ⟨j, rfl, hal3, hS, fun hm => hnm ((mstep j).2 (.inl hm))⟩
        rcases hpost.inn b ⟨base + j, a, d, m, hg, e1⟩ with ⟨r3, a3, d3, m3, hg3, e3⟩ | hge
        · have := I.H.inj _ _ _ _ _ _ _ _ _ (hsub r3 a3 hg3) hI e3 e1'
          subst this
          exact nosub j a3 hj hnm hg3
        · have := blt _ _ _ _ _ hI e1'
          omega
  · rintro b ⟨r, a, d, m, h1, h2, h3⟩
    rcases rest r a h1 with h1 | ⟨j, rfl, hS, h1, hnm⟩
    · rcases hpost.own b ⟨r, a, d, m, h1, h2, h3⟩ with ⟨r3, a3, d3, m3, h4, h5, h6⟩ | hge
      · exact I.H.own b ⟨r3, a3, d3, m3, hsub _ _ h4, h5, h6⟩
      · have := I.fr.size; exact .inr (by omega)
    · rw [hold j (I.lt j hS)] at h3
      exact I.H.own b ⟨_, a, d, m, h1, h2, h3⟩
  · rintro b ⟨r, a, d, m, h1, h3⟩
    rcases rest r a h1 with h1 | ⟨j, rfl, hS, h1, hnm⟩
    · rcases hpost.inn b ⟨r, a, d, m, h1, h3⟩ with ⟨r3, a3, d3, m3, h4, h6⟩ | hge
      · exact I.H.inn b ⟨r3, a3, d3, m3, hsub _ _ h4, h6⟩
      · have := I.fr.size; exact .inr (by omega)
    · rw [hold j (I.lt j hS)] at h3
      exact I.H.inn b ⟨_, a, d, m, h1, h3⟩
  · intro j hj hS
    rw [hold j hj]
    exact I.unb j hj (hS.imp (fun h => by simp at h; exact h.1) id)
  · intro r hr
    have h1 := I.old r hr
    rw [hpost.old r (by rw [hnx]; omega)]
    exact h1
end
end Go.Ev
