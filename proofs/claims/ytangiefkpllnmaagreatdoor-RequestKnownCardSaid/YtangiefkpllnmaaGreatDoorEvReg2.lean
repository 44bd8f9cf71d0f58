/- A drawn region: the evaluator's checks go on. -/
import Derived.Test.YtangiefkpllnmaaGreatDoorEvReg
namespace Go.Ev
set_option linter.unusedVariables false
set_option linter.unusedSimpArgs false
variable {η : Nat → Value}
section
variable {P : Program} {nest : Nest} {ops : List Oper} {base n : Nat} {tm0 : T Value} {h0 : AH} {s : RS}
theorem putT_get {n : Nat} {tm tm2 : T Value} {dst : Option Tmp} {v : Value} (h : putT n tm dst v = .ok tm2) : (∀ d, dst = some d → d < n) ∧ ∀ t, tm2.get t = if dst = some t then some v else tm.get t := by
  cases dst with
  | none => simp only [putT, okk] at h; subst h; exact ⟨(fun d hd => by cases hd), (fun t => by simp)⟩
  | some d =>
    simp only [putT] at h
    rw [ite_no', okk] at h
    obtain ⟨hd, rfl⟩ := h
    refine ⟨fun e he => by cases he; exact hd, fun t => ?_⟩
    rw [T.get_set]
    by_cases e : t = d
    · subst e; simp
    · rw [if_neg e, if_neg (fun hc => e (by cases hc; rfl))]
theorem tm_next (G : Good P nest ops base n tm0 h0 s) {x : Ent} {tm2 : T Value} (h : putT n s.tm x.o.dst x.v = .ok tm2) (t : Tmp) : tm2.get t = wr (s.ents ++ [x]) 0 (fun i => decide (i < (s.ents ++ [x]).length)) t (tm0.get t) := by
  rw [(putT_get h).2 t, wr_append, G.tm t]
  simp only [Nat.zero_add, List.length_append, List.length_singleton]
  have e : wr s.ents 0 (fun i => decide (i < s.ents.length)) t (tm0.get t) = wr s.ents 0 (fun i => decide (i < s.ents.length + 1)) t (tm0.get t) := by
    refine wr_congr fun j y hy _ => ?_
    have := (List.getElem?_eq_some_iff.1 hy).1
    simp; omega
  rw [e]
  by_cases hd : x.o.dst = some t
  · simp [hd]
  · simp [hd]
theorem tm_same (x : Ent) (G : Good P nest ops base n tm0 h0 s) (t : Tmp) : s.tm.get t = wr (s.ents ++ [x]) 0 (fun i => decide (i < s.ents.length)) t (tm0.get t) := by
  rw [wr_append, G.tm t]
  simp
theorem msk_next {x : Ent} {mask : Nat} (hmask : x.mask = mask) (hm : ∀ j : Nat, (s.masks[j]?).getD 0 = mkE s.ents j) (hl : s.masks.length = s.ents.length) (j : Nat) : ((s.masks ++ [mask])[j]?).getD 0 = mkE (s.ents ++ [x]) j := by
  rcases Nat.lt_trichotomy j s.ents.length with h | h | h
  · rw [mkE_append h, List.getElem?_append_left (by omega)]; exact hm j
  · subst h
    rw [mkE_new, List.getElem?_append_right (by omega), hl]; simp [hmask]
  · unfold mkE
    rw [List.getElem?_eq_none (by rw [List.length_append]; simp; omega), List.getElem?_eq_none (by rw [List.length_append]; simp; omega)]
    rfl
theorem withAl_next {mask : Nat} {h : AH} : ∀ (al : List (Nat × Nat × AObj)), (withAl mask h al).next = h.next
  | [] => rfl
  | (i, r, b) :: l => by
    simp only [withAl]
    split
    · exact withAl_next l
    · exact withAl_next l
theorem withAl_get {mask : Nat} {h : AH} {r : Nat} {a : AObj} : ∀ (al : List (Nat × Nat × AObj)), (withAl mask h al).objs.get r = some a → h.objs.get r = some a ∨ ∃ j, (j, r, a) ∈ al ∧ mask.testBit j = true
  | [], hg => .inl hg
  | (i, r', b) :: l, hg => by
    simp only [withAl] at hg
    split at hg
    · rename_i hm
      simp only [putA, T.get_set] at hg
      by_cases e : r = r'
      · rw [if_pos e] at hg; cases hg; subst e
        exact .inr ⟨i, by simp, hm⟩
      · rw [if_neg e] at hg
        rcases withAl_get l hg with h1 | ⟨j, h1, h2⟩
        · exact .inl h1
        · exact .inr ⟨j, by simp [h1], h2⟩
    · rcases withAl_get l hg with h1 | ⟨j, h1, h2⟩
      · exact .inl h1
      · exact .inr ⟨j, by simp [h1], h2⟩
theorem Good.ext_same (G : Good P nest ops base n tm0 h0 s) (x : Ent) : Ext s x s.ee s.hh := ⟨fun _ _ => rfl, fun _ _ => rfl⟩
/-- The entry of a step that is no effect. -/
theorem Good.quiet (G : Good P nest ops base n tm0 h0 s) {x : Ent} {tm2 : T Value} {al2 : List (Nat × Nat × AObj)} (hx : EntOk P nest ops base n tm0 (s.ents ++ [x]) s.hh s.ee s.ents.length x) (hp : putT n s.tm x.o.dst x.v = .ok tm2)
    (hal : ∀ p, p ∈ al2 ↔ p ∈ s.al ∨ ∃ b, x.obj = some b ∧ p = (s.ents.length, base + s.ents.length, b)) : Good P nest ops base n tm0 h0 { s with tm := tm2, al := al2, masks := s.masks ++ [x.mask], ents := s.ents ++ [x] } := by
  have X := G.ext_same x
  have hnm : ∀ k, k ≤ s.ee.length → ¬ Merged (s.ents ++ [x]) s.ee k s.ents.length := by
    rintro k hk ⟨m, e, hm, he, hb⟩
    have hel := G.ee_lt he
    rw [mkE_append hel] at hb
    obtain ⟨y, hy, _⟩ := G.effs m e he
    have K := G.ent e y hy
    have hmk : mkE s.ents e = y.mask := by unfold mkE; rw [hy]; rfl
    rw [hmk] at hb
    -- the bits of a mask lie before its entry
    have below : ∀ (e : Nat) (y : Ent), s.ents[e]? = some y → ∀ m, y.mask.testBit m = true → m < e := by
      intro e
      induction e using Nat.strongRecOn with
      | _ e ih =>
        intro y hy m hm
        obtain ⟨ed, _, _, hlt, hor⟩ := (G.ent e y hy).clo m hm
        rcases hor with rfl | hor
        · exact hlt
        · have hl : ed.on < s.ents.length := by have := (List.getElem?_eq_some_iff.1 hy).1; omega
          have hz : s.ents[ed.on]? = some s.ents[ed.on] := List.getElem?_eq_getElem hl
          have : mkE s.ents ed.on = s.ents[ed.on].mask := by unfold mkE; rw [hz]; rfl
          rw [this] at hor
          have := ih ed.on hlt _ hz m hor
          omega
    have := below e y hy _ hb
    omega
  refine ⟨msk_next rfl G.msk G.mlen, by simp [G.mlen], G.hlen, G.hd, G.hl, ?_, ?_, G.inc, ?_, ?_, tm_next G hp⟩
  · intro j y hy
    rcases Nat.lt_trichotomy j s.ents.length with h | h | h
    · rw [List.getElem?_append_left h] at hy
      refine G.keep X hy (fun _ _ k hk hlt hkk _ => ?_)
      have := (List.getElem?_eq_some_iff.1 hkk).1
      rw [G.hlen] at this; omega
    · subst h
      rw [List.getElem?_append_right (Nat.le_refl _)] at hy
      simp at hy; subst hy; exact hx
    · rw [List.getElem?_eq_none (by rw [List.length_append]; simp; omega)] at hy; cases hy
  · intro m e he
    obtain ⟨y, h1, h2⟩ := G.effs m e he
    exact ⟨y, by rw [List.getElem?_append_left (List.getElem?_eq_some_iff.1 h1).1]; exact h1, h2⟩
  · intro j r b hm
    rcases (hal _).1 hm with hm | ⟨b', hb', he⟩
    · exact G.alin X (Nat.le_refl _) G.al j r b hm
    · cases he
      refine ⟨rfl, ?_, hnm _ (Nat.le_refl _)⟩
      unfold alOf
      simp [hb']
  · intro j b hb hnm'
    rcases Nat.lt_trichotomy j s.ents.length with h | h | h
    · rw [alOf_append h] at hb
      exact (hal _).2 (.inl (G.alc j b hb (fun hm => hnm' ((G.merged_iff X (Nat.le_refl _)).2 hm))))
    · subst h
      unfold alOf at hb
      simp at hb
      exact (hal _).2 (.inr ⟨b, hb, rfl⟩)
    · have := alOf_lt hb; rw [List.length_append] at this; simp at this; omega
/-- The entry of an effect. -/
theorem Good.loud (G : Good P nest ops base n tm0 h0 s) {x : Ent} {tm2 : T Value} {h' : AH} (hx : EntOk P nest ops base n tm0 (s.ents ++ [x]) (s.hh ++ [h']) (s.ee ++ [s.ents.length]) s.ents.length x) (hp : putT n s.tm x.o.dst x.v = .ok tm2)
    (hw : x.want = true) (hk : x.kind = .effect) (hobj : x.obj = none) (hrd : readsOk P x.mask (s.al.filter fun p => !x.mask.testBit p.1) h' s.ents 0 = true) :
    Good P nest ops base n tm0 h0 { tm := tm2, h := h', hh := s.hh ++ [h'], ee := s.ee ++ [s.ents.length], al := s.al.filter fun p => !x.mask.testBit p.1, masks := s.masks ++ [x.mask], ents := s.ents ++ [x] } := by
  have X : Ext s x (s.ee ++ [s.ents.length]) (s.hh ++ [h']) := ⟨fun m hm => List.getElem?_append_left hm, fun k hk => List.getElem?_append_left (by rw [G.hlen]; omega)⟩
  have mlast : ∀ j, Merged (s.ents ++ [x]) (s.ee ++ [s.ents.length]) (s.ee.length + 1) j ↔ Merged s.ents s.ee s.ee.length j ∨ x.mask.testBit j = true := by
    intro j
    constructor
    · rintro ⟨m, e, hm, he, hb⟩
      rcases Nat.lt_or_ge m s.ee.length with hlt | hge
      · exact .inl ((G.merged_iff X (Nat.le_refl _)).1 ⟨m, e, hlt, he, hb⟩)
      · have : m = s.ee.length := by omega
        subst this
        rw [List.getElem?_append_right (Nat.le_refl _)] at he
        simp at he; subst he
        rw [mkE_new] at hb
        exact .inr hb
    · rintro (hm | hb)
      · obtain ⟨m, e, h1, h2, h3⟩ := (G.merged_iff X (Nat.le_refl _)).2 hm
        exact ⟨m, e, by omega, h2, h3⟩
      · exact ⟨s.ee.length, s.ents.length, by omega, by rw [List.getElem?_append_right (Nat.le_refl _)]; simp, by rw [mkE_new]; exact hb⟩
  have alin : AlIn (s.ents ++ [x]) (s.ee ++ [s.ents.length]) base (s.ee.length + 1) (s.al.filter fun p => !x.mask.testBit p.1) := by
    intro j r b hm
    simp only [List.mem_filter, Bool.not_eq_true'] at hm
    obtain ⟨h1, h2, h3⟩ := G.al j r b hm.1
    refine ⟨h1, by rw [alOf_append (alOf_lt h2)]; exact h2, fun hmm => ?_⟩
    rcases (mlast j).1 hmm with hmm | hmm
    · exact h3 hmm
    · rw [hmm] at hm; exact absurd hm.2 (by simp)
  refine ⟨msk_next rfl G.msk G.mlen, by simp [G.mlen], by simp [G.hlen], by rw [List.getElem?_append_left (by rw [G.hlen]; omega)]; exact G.hd, ?_, ?_, ?_, ?_, by simpa using alin, ?_, tm_next G hp⟩
  · simp only [List.length_append, List.length_singleton]
    rw [List.getElem?_append_right (by rw [G.hlen]; omega), G.hlen]; simp
  · intro j y hy
    rcases Nat.lt_trichotomy j s.ents.length with h | h | h
    · rw [List.getElem?_append_left h] at hy
      refine G.keep X hy (fun hyw hyk k hk hlt hkk c2 => ?_)
      have hkl := (List.getElem?_eq_some_iff.1 hkk).1
      simp only [List.length_append, List.length_singleton, G.hlen] at hkl
      have hke : k = s.ee.length + 1 := by omega
      subst hke
      rw [List.getElem?_append_right (by rw [G.hlen]; omega), G.hlen] at hkk
      simp at hkk; subst hkk
      have hnb := c2 s.ee.length s.ents.length (by omega) (by rw [List.getElem?_append_right (Nat.le_refl _)]; simp)
      rw [mkE_new] at hnb
      have hsr := readsOk_ok hrd j y hy (by simp [isReadE, hyw, hyk]) (by simpa using hnb)
      exact ⟨_, alin, sameRead_ok hsr⟩
    · subst h
      rw [List.getElem?_append_right (Nat.le_refl _)] at hy
      simp at hy; subst hy; exact hx
    · rw [List.getElem?_eq_none (by rw [List.length_append]; simp; omega)] at hy; cases hy
  · intro m e he
    rcases Nat.lt_or_ge m s.ee.length with hlt | hge
    · rw [X.ee m hlt] at he
      obtain ⟨y, h1, h2⟩ := G.effs m e he
      exact ⟨y, by rw [List.getElem?_append_left (List.getElem?_eq_some_iff.1 h1).1]; exact h1, h2⟩
    · have hl := (List.getElem?_eq_some_iff.1 he).1
      simp only [List.length_append, List.length_singleton] at hl
      have : m = s.ee.length := by omega
      subst this
      rw [List.getElem?_append_right (Nat.le_refl _)] at he
      simp at he; subst he
      exact ⟨x, by simp, hw, hk⟩
  · intro m m' e e' hmm he he'
    have hl := (List.getElem?_eq_some_iff.1 he').1
    simp only [List.length_append, List.length_singleton] at hl
    rw [X.ee m (by omega)] at he
    rcases Nat.lt_or_ge m' s.ee.length with hlt | hge
    · rw [X.ee m' hlt] at he'
      exact G.inc m m' e e' hmm he he'
    · have : m' = s.ee.length := by omega
      subst this
      rw [List.getElem?_append_right (Nat.le_refl _)] at he'
      simp at he'; subst he'
      exact G.ee_lt he
  · intro j b hb hnm'
    simp only [List.length_append, List.length_singleton] at hnm'
    rcases Nat.lt_trichotomy j s.ents.length with h | h | h
    · rw [alOf_append h] at hb
      have hno : ¬ (Merged s.ents s.ee s.ee.length j ∨ x.mask.testBit j = true) := fun hh => hnm' ((mlast j).2 hh)
      have hm := G.alc j b hb (fun hh => hno (.inl hh))
      simp only [List.mem_filter, Bool.not_eq_true']
      exact ⟨hm, by cases hx : x.mask.testBit j <;> first | rfl | exact absurd (.inr hx) hno⟩
    · subst h
      unfold alOf at hb
      simp [hobj] at hb
    · have := alOf_lt hb; rw [List.length_append] at this; simp at this; omega
theorem regStep_good (G : Good P nest ops base n tm0 h0 s) {o : Oper} {s' : RS} (ho : ops[s.ents.length]? = some o) (hs : regStep P n base nest ops s.ents.length o s = .ok s') : Good P nest ops base n tm0 h0 s' ∧ s'.ents.length = s.ents.length + 1 := by
  unfold regStep at hs
  simp only [bind_ok] at hs
  obtain ⟨mask, hmask, hs⟩ := hs
  rw [ite_no] at hs
  obtain ⟨hord, hs⟩ := hs
  have hord : orderOk ops o mask s.ents 0 = true := by simpa using hord
  simp only [bind_ok] at hs
  obtain ⟨want, hwant, hs⟩ := hs
  obtain ⟨m1, m2⟩ := maskOf_ok hmask
  have clo : ∀ (x : Ent) m, mask.testBit m = true → ∃ e ∈ o.after.toList, Region.binds .any e = true ∧ e.on < s.ents.length ∧ (m = e.on ∨ (mkE (s.ents ++ [x]) e.on).testBit m = true) := by
    intro x m hm
    obtain ⟨e, he, hb, hlt, hor⟩ := m2 m hm
    exact ⟨e, he, hb, hlt, by rw [mkE_append hlt, ← G.msk]; exact hor⟩
  have ord : ∀ (x : Ent) j' y, j' < s.ents.length → (s.ents ++ [x])[j']? = some y → clash ops y.o o = true → mask.testBit j' = true := by
    intro x j' y hj hy hc
    rw [List.getElem?_append_left hj] at hy
    simpa using orderOk_ok hord j' y hy hc
  cases want with
  | false =>
    simp only [Bool.not_false, if_true, bind_ok] at hs
    obtain ⟨tm, htm, hs⟩ := hs
    rw [okk] at hs; subst hs
    refine ⟨Good.quiet G (x := { o, mask, tm := s.tm, want := false, v := undef, kind := .read, obj := none }) ⟨ho, m1, clo _, ord _, tm_same _ G, (putT_get htm).1, hwant, fun _ => ⟨rfl, rfl⟩, fun h => (by cases h), fun h => (by cases h), fun h => (by cases h), fun h => (by cases h)⟩ htm (fun p => by simp), by simp⟩
  | true =>
    simp only [Bool.not_true, Bool.false_eq_true, if_false] at hs
    rw [ite_no] at hs
    obtain ⟨hok, hs⟩ := hs
    have hok : okOps P o = true := by simpa using hok
    split at hs
    · simp only [bind_ok] at hs
      obtain ⟨v, hv, hs⟩ := hs
      rw [ite_no] at hs
      obtain ⟨hun, hs⟩ := hs
      rw [Bool.not_eq_true, Bool.not_eq_false'] at hun
      have hun : ∀ (a : Nat) (b : AH), (a, b) ∈ s.ee.zip s.hh → mask.testBit a = true ∨ sameRead P { o, mask, tm := s.tm, want := true, v, kind := .read, obj := none } s.al b = true := fun a b hm => by
        have := List.all_eq_true.1 hun (a, b) hm
        simpa [Bool.or_eq_true] using this
      simp only [bind_ok] at hs
      obtain ⟨tm, htm, hs⟩ := hs
      rw [okk] at hs; subst hs
      have X := G.ext_same { o, mask, tm := s.tm, want := true, v, kind := .read, obj := none }
      refine ⟨Good.quiet G (x := { o, mask, tm := s.tm, want := true, v, kind := .read, obj := none }) ⟨ho, m1, clo _, ord _, tm_same _ G, (putT_get htm).1, hwant, fun h => (by cases h), fun _ => hok, fun _ _ => ⟨rfl, fun k hk hkk c1 c2 => ?_⟩, fun _ h => (by cases h), fun _ h => (by cases h)⟩ htm (fun p => by simp), by simp⟩
      have hkl := (List.getElem?_eq_some_iff.1 hkk).1
      rw [G.hlen] at hkl
      have halk : AlIn (s.ents ++ [{ o, mask, tm := s.tm, want := true, v, kind := .read, obj := none }]) s.ee base k s.al := by
        have := G.alin X (Nat.le_refl _) G.al
        intro j r b hm
        obtain ⟨h1, h2, h3⟩ := this j r b hm
        exact ⟨h1, h2, fun ⟨m, e, hm, q⟩ => h3 ⟨m, e, by omega, q⟩⟩
      rcases Nat.lt_or_ge k s.ee.length with hlt | hge
      · have hz : (s.ee[k], hk) ∈ s.ee.zip s.hh := by
          have hk2 : k < s.hh.length := by rw [G.hlen]; omega
          have : s.hh[k] = hk := by rw [List.getElem?_eq_getElem hk2] at hkk; exact Option.some.inj hkk
          rw [← this]
          have hz := List.getElem_mem (l := s.ee.zip s.hh) (n := k) (by rw [List.length_zip, G.hlen]; omega)
          rwa [List.getElem_zip] at hz
        rcases hun _ _ hz with h1 | h1
        · exact absurd (c1 k s.ee[k] (List.getElem?_eq_getElem hlt) h1) (Nat.lt_irrefl _)
        · exact ⟨s.al, halk, sameRead_ok h1⟩
      · have : k = s.ee.length := by omega
        subst this
        rw [G.hl] at hkk; cases hkk
        exact ⟨s.al, halk, hv⟩
    · simp only [bind_ok] at hs
      obtain ⟨⟨v, b⟩, hv, tm, htm, hs⟩ := hs
      rw [okk] at hs; subst hs
      refine ⟨Good.quiet G (x := { o, mask, tm := s.tm, want := true, v, kind := .alloc, obj := some b }) ⟨ho, m1, clo _, ord _, tm_same _ G, (putT_get htm).1, hwant, fun h => (by cases h), fun _ => hok, fun _ h => (by cases h), fun _ _ => ⟨b, rfl, hv⟩, fun _ h => (by cases h)⟩ htm (fun p => ?_), by simp⟩
      simp only [List.mem_cons]
      constructor
      · rintro (rfl | h)
        · exact .inr ⟨b, rfl, rfl⟩
        · exact .inl h
      · rintro (h | ⟨b', hb', rfl⟩)
        · exact .inr h
        · cases hb'; exact .inl rfl
    · rw [ite_no] at hs
      obtain ⟨hch, hs⟩ := hs
      rw [Bool.not_eq_true, Bool.not_eq_false'] at hch
      have hch : ∀ x ∈ s.ee, mask.testBit x = true := fun x hm => List.all_eq_true.1 hch x hm
      simp only [bind_ok] at hs
      obtain ⟨⟨v, h'⟩, hv, hs⟩ := hs
      rw [ite_no] at hs
      obtain ⟨hrd, hs⟩ := hs
      have hrd : readsOk P mask (s.al.filter fun p => !mask.testBit p.1) h' s.ents 0 = true := by simpa using hrd
      simp only [bind_ok] at hs
      obtain ⟨tm, htm, hs⟩ := hs
      rw [okk] at hs; subst hs
      have X : Ext s { o, mask, tm := s.tm, want := true, v, kind := .effect, obj := none } (s.ee ++ [s.ents.length]) (s.hh ++ [h']) := ⟨fun m hm => List.getElem?_append_left hm, fun k hk => List.getElem?_append_left (by rw [G.hlen]; omega)⟩
      refine ⟨Good.loud G (x := { o, mask, tm := s.tm, want := true, v, kind := .effect, obj := none }) ⟨ho, m1, clo _, ord _, tm_same _ G, (putT_get htm).1, hwant, fun h => (by cases h), fun _ => hok, fun _ h => (by cases h), fun _ h => (by cases h), fun _ _ => ⟨rfl, s.ee.length, s.h, h', ?_, ?_, ?_, ?_, s.al, G.alin X (Nat.le_refl _) G.al, hv⟩⟩ htm rfl rfl rfl hrd, by simp⟩
      · rw [List.getElem?_append_right (Nat.le_refl _)]; simp
      · rw [List.getElem?_append_left (by rw [G.hlen]; omega)]; exact G.hl
      · rw [List.getElem?_append_right (by rw [G.hlen]; omega), G.hlen]; simp
      · intro m e hm he
        rw [List.getElem?_append_left hm] at he
        exact hch e (List.mem_of_getElem? he)
theorem regLoop_good : ∀ {l : List Oper} {s s' : RS}, Good P nest ops base n tm0 h0 s → (∀ j o, l[j]? = some o → ops[s.ents.length + j]? = some o) → regLoop P n base nest ops l s.ents.length s = .ok s' → Good P nest ops base n tm0 h0 s' ∧ s'.ents.length = s.ents.length + l.length
  | [], s, s', G, _, hr => by simp only [regLoop, okk] at hr; subst hr; exact ⟨G, by simp⟩
  | o :: l, s, s', G, ho, hr => by
    simp only [regLoop, bind_ok] at hr
    obtain ⟨s1, h1, hr⟩ := hr
    obtain ⟨G1, hl1⟩ := regStep_good G (ho 0 o rfl) h1
    rw [← hl1] at hr
    obtain ⟨G2, hl2⟩ := regLoop_good G1 (fun j o' hj => by have := ho (j + 1) o' (by simpa using hj); rw [hl1]; rwa [show s.ents.length + (j + 1) = s.ents.length + 1 + j by omega] at this) hr
    exact ⟨G2, by rw [hl2, hl1, List.length_cons]; omega⟩
theorem Good.start (h0 : AH) : Good P nest ops base n tm0 h0 { tm := tm0, h := h0, hh := [h0], ee := [], al := [], masks := [], ents := [] } :=
  ⟨fun j => by simp [mkE], rfl, rfl, rfl, rfl, fun j x h => by simp at h, fun m e h => by simp at h, fun m m' e e' _ h => by simp at h, fun j r b h => by simp at h, fun j b h => by simp [alOf] at h, fun t => rfl⟩
end
end Go.Ev
