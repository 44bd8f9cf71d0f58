/- A drawn region: what the evaluator has checked of it. -/
import Derived.Test.YtangiefkpllnmaaGreatDoorEvStep3
namespace Go.Ev
set_option linter.unusedVariables false
set_option linter.unusedSimpArgs false
variable {η : Nat → Value}
theorem veqL_eq {n : Nat} (ih : ∀ a b, veq n a b = true → a = b) : ∀ (l m : List Value), veq.veqL n l m = true → l = m
  | [], [], _ => rfl
  | [], _ :: _, h => by simp [veq.veqL] at h
  | _ :: _, [], h => by simp [veq.veqL] at h
  | x :: l, y :: m, h => by
    simp only [veq.veqL, Bool.and_eq_true] at h
    rw [ih _ _ h.1, veqL_eq ih l m h.2]
theorem arr_ext {a b : Array Value} (h : a.toList = b.toList) : a = b := by
  rw [← Array.toArray_toList (xs := a), h]
theorem veq_eq : ∀ (n : Nat) (a b : Value), veq n a b = true → a = b
  | 0, a, b, h => by simp [veq] at h
  | n + 1, a, b, h => by
    have ih := veq_eq n
    have ihl := veqL_eq ih
    unfold veq at h
    split at h <;> try simp only [Bool.and_eq_true, beq_iff_eq] at h
    · rw [h]
    · rw [h.1, h.2]
    · rw [byteArray_ext h]
    · rw [h]
    · rw [h.1.1, h.1.2, h.2]
    · rw [h]
    · rw [h]
    · rfl
    · rfl
    · rw [h.1, ih _ _ h.2]
    · rw [h.1.1, arr_ext (ihl _ _ h.1.2), arr_ext (ihl _ _ h.2)]
    · rw [arr_ext (ihl _ _ h)]
    · rw [arr_ext (ihl _ _ h)]
    · cases h
theorem maskOf_ok {masks : List Nat} {i : Nat} : ∀ {es : List Edge} {m : Nat}, maskOf masks i es = .ok m →
    (∀ e ∈ es, Region.binds .any e = true → e.on < i ∧ m.testBit e.on = true) ∧
    (∀ j, m.testBit j = true → ∃ e ∈ es, Region.binds .any e = true ∧ e.on < i ∧ (j = e.on ∨ ((masks[e.on]?).getD 0).testBit j = true))
  | [], m, h => by
    simp only [maskOf, okk] at h; subst h
    exact ⟨fun e he => by simp at he, fun j hj => by simp at hj⟩
  | e :: es, m, h => by
    simp only [maskOf, bind_ok] at h
    obtain ⟨r, hr, h⟩ := h
    obtain ⟨i1, i2⟩ := maskOf_ok hr
    by_cases hb : Region.binds .any e = true
    · rw [if_pos hb, ite_no', okk] at h
      obtain ⟨hlt, rfl⟩ := h
      constructor
      · intro e' he' hb'
        rcases List.mem_cons.1 he' with rfl | he'
        · exact ⟨hlt, by simp [Nat.testBit_or]⟩
        · obtain ⟨a, b⟩ := i1 e' he' hb'
          exact ⟨a, by simp [Nat.testBit_or, b]⟩
      · intro j hj
        simp only [Nat.testBit_or, Bool.or_eq_true] at hj
        rcases hj with (hj | hj) | hj
        · rw [Nat.testBit_two_pow] at hj
          exact ⟨e, by simp, hb, hlt, .inl (by simpa using (of_decide_eq_true hj).symm)⟩
        · exact ⟨e, by simp, hb, hlt, .inr hj⟩
        · obtain ⟨e', he', a, b, c⟩ := i2 j hj
          exact ⟨e', by simp [he'], a, b, c⟩
    · rw [if_neg hb, okk] at h; subst h
      constructor
      · intro e' he' hb'
        rcases List.mem_cons.1 he' with rfl | he'
        · exact absurd hb' hb
        · exact i1 e' he' hb'
      · intro j hj
        obtain ⟨e', he', a, b, c⟩ := i2 j hj
        exact ⟨e', by simp [he'], a, b, c⟩
/-- Who wrote last, of those in a set. -/
def wr : List Ent → Nat → (Nat → Bool) → Tmp → Option Value → Option Value
  | [], _, _, _, acc => acc
  | x :: l, i, p, t, acc => wr l (i + 1) p t (if p i && x.o.dst == some t then some x.v else acc)
theorem wr_congr {p q : Nat → Bool} {t : Tmp} : ∀ {l : List Ent} {i : Nat} {acc : Option Value}, (∀ j x, l[j]? = some x → x.o.dst = some t → p (i + j) = q (i + j)) → wr l i p t acc = wr l i q t acc
  | [], i, acc, _ => rfl
  | x :: l, i, acc, h => by
    simp only [wr]
    have h0 := h 0 x rfl
    have e : (if p i && x.o.dst == some t then some x.v else acc) = (if q i && x.o.dst == some t then some x.v else acc) := by
      by_cases hd : x.o.dst = some t
      · rw [show p i = q i from h0 hd]
      · simp [hd]
    rw [e]
    exact wr_congr fun j y hj hy => by have := h (j + 1) y (by simpa using hj) hy; rwa [show i + (j + 1) = i + 1 + j by omega] at this
theorem wr_none {p : Nat → Bool} {t : Tmp} : ∀ {l : List Ent} {i : Nat} {acc : Option Value}, (∀ j x, l[j]? = some x → x.o.dst = some t → p (i + j) = false) → wr l i p t acc = acc
  | [], i, acc, _ => rfl
  | x :: l, i, acc, h => by
    simp only [wr]
    have h0 := h 0 x rfl
    have e : (if p i && x.o.dst == some t then some x.v else acc) = acc := by
      by_cases hd : x.o.dst = some t
      · rw [show p i = false from h0 hd]; simp
      · simp [hd]
    rw [e]
    exact wr_none fun j y hj hy => by have := h (j + 1) y (by simpa using hj) hy; rwa [show i + (j + 1) = i + 1 + j by omega] at this
theorem wr_last {p : Nat → Bool} {t : Tmp} {x : Ent} : ∀ {l : List Ent} {i j : Nat} {acc : Option Value}, l[j]? = some x → x.o.dst = some t → p (i + j) = true →
    (∀ j' y, j < j' → l[j']? = some y → y.o.dst = some t → p (i + j') = false) → wr l i p t acc = some x.v
  | [], i, j, acc, h, _, _, _ => by simp at h
  | y :: l, i, 0, acc, h, hd, hp, hn => by
    simp at h; subst h
    simp only [wr]
    rw [wr_none (fun j' z hj hz => by have := hn (j' + 1) z (by omega) (by simpa using hj) hz; rwa [show i + (j' + 1) = i + 1 + j' by omega] at this)]
    simp [show p i = true from hp, hd]
  | y :: l, i, j + 1, acc, h, hd, hp, hn => by
    simp only [wr]
    exact wr_last (j := j) (by simpa using h) hd (by rwa [show i + 1 + j = i + (j + 1) by omega]) fun j' z hj hz hdz => by
      have := hn (j' + 1) z (by omega) (by simpa using hz) hdz; rwa [show i + (j' + 1) = i + 1 + j' by omega] at this
theorem wr_append {p : Nat → Bool} {t : Tmp} {x : Ent} : ∀ {l : List Ent} {i : Nat} {acc : Option Value}, wr (l ++ [x]) i p t acc = if p (i + l.length) && x.o.dst == some t then some x.v else wr l i p t acc
  | [], i, acc => rfl
  | y :: l, i, acc => by
    simp only [List.cons_append, wr]
    rw [wr_append, List.length_cons, show i + 1 + l.length = i + (l.length + 1) by omega]
def alOf (E : List Ent) (j : Nat) : Option AObj := (E[j]?).bind (·.obj)
def mkE (E : List Ent) (j : Nat) : Nat := ((E[j]?).map (·.mask)).getD 0
def Merged (E : List Ent) (ee : List Nat) (k j : Nat) : Prop := ∃ m e, m < k ∧ ee[m]? = some e ∧ (mkE E e).testBit j = true
def AlIn (E : List Ent) (ee : List Nat) (base k : Nat) (al : List (Nat × Nat × AObj)) : Prop := ∀ j r b, (j, r, b) ∈ al → r = base + j ∧ alOf E j = some b ∧ ¬ Merged E ee k j
structure EntOk (P : Program) (nest : Nest) (ops : List Oper) (base n : Nat) (tm0 : T Value) (E : List Ent) (hh : List AH) (ee : List Nat) (j : Nat) (x : Ent) : Prop where
  o : ops[j]? = some x.o
  pre : ∀ e ∈ x.o.after.toList, Region.binds .any e = true → e.on < j ∧ x.mask.testBit e.on = true
  clo : ∀ m, x.mask.testBit m = true → ∃ e ∈ x.o.after.toList, Region.binds .any e = true ∧ e.on < j ∧ (m = e.on ∨ (mkE E e.on).testBit m = true)
  ord : ∀ j' y, j' < j → E[j']? = some y → clash ops y.o x.o = true → x.mask.testBit j' = true
  tm : ∀ t, x.tm.get t = wr E 0 (fun i => decide (i < j)) t (tm0.get t)
  dst : ∀ d, x.o.dst = some d → d < n
  want : wantedA ops x.tm x.o = .ok x.want
  un : x.want = false → x.v = undef ∧ x.obj = none
  ok : x.want = true → okOps P x.o = true
  rd : x.want = true → x.kind = .read → x.obj = none ∧ ∀ k hk, hh[k]? = some hk → (∀ m e, ee[m]? = some e → x.mask.testBit e = true → m < k) → (∀ m e, m < k → ee[m]? = some e → (mkE E e).testBit j = false) →
    ∃ al, AlIn E ee base k al ∧ readA P (evA x.tm) x.o (withAl x.mask hk al) = .ok x.v
  alc : x.want = true → x.kind = .alloc → ∃ b, x.obj = some b ∧ allocA P (evA x.tm) x.o (base + j) = .ok (x.v, b)
  eff : x.want = true → x.kind = .effect → x.obj = none ∧ ∃ k hk hk', ee[k]? = some j ∧ hh[k]? = some hk ∧ hh[k + 1]? = some hk' ∧ (∀ m e, m < k → ee[m]? = some e → x.mask.testBit e = true) ∧
    ∃ al, AlIn E ee base k al ∧ effRun P nest (evA x.tm) x.o (withAl x.mask hk al) = .ok (x.v, hk')
structure Good (P : Program) (nest : Nest) (ops : List Oper) (base n : Nat) (tm0 : T Value) (h0 : AH) (s : RS) : Prop where
  msk : ∀ j : Nat, (s.masks[j]?).getD 0 = mkE s.ents j
  mlen : s.masks.length = s.ents.length
  hlen : s.hh.length = s.ee.length + 1
  hd : s.hh[0]? = some h0
  hl : s.hh[s.ee.length]? = some s.h
  ent : ∀ j x, s.ents[j]? = some x → EntOk P nest ops base n tm0 s.ents s.hh s.ee j x
  effs : ∀ (m e : Nat), s.ee[m]? = some e → ∃ x, s.ents[e]? = some x ∧ x.want = true ∧ x.kind = .effect
  inc : ∀ (m m' e e' : Nat), m < m' → s.ee[m]? = some e → s.ee[m']? = some e' → e < e'
  al : AlIn s.ents s.ee base s.ee.length s.al
  alc : ∀ j b, alOf s.ents j = some b → ¬ Merged s.ents s.ee s.ee.length j → (j, base + j, b) ∈ s.al
  tm : ∀ t, s.tm.get t = wr s.ents 0 (fun i => decide (i < s.ents.length)) t (tm0.get t)
section
variable {P : Program} {nest : Nest} {ops : List Oper} {base n : Nat} {tm0 : T Value} {h0 : AH} {s : RS}
theorem mkE_append {E : List Ent} {x : Ent} {j : Nat} (h : j < E.length) : mkE (E ++ [x]) j = mkE E j := by
  unfold mkE; rw [List.getElem?_append_left h]
theorem mkE_new {E : List Ent} {x : Ent} : mkE (E ++ [x]) E.length = x.mask := by
  unfold mkE; simp
theorem alOf_append {E : List Ent} {x : Ent} {j : Nat} (h : j < E.length) : alOf (E ++ [x]) j = alOf E j := by
  unfold alOf; rw [List.getElem?_append_left h]
theorem alOf_lt {E : List Ent} {j : Nat} {b : AObj} (h : alOf E j = some b) : j < E.length := by
  unfold alOf at h
  rcases Nat.lt_or_ge j E.length with h' | h'
  · exact h'
  · rw [List.getElem?_eq_none h'] at h; cases h
theorem Good.ee_lt (G : Good P nest ops base n tm0 h0 s) {m e : Nat} (h : s.ee[m]? = some e) : e < s.ents.length := by
  obtain ⟨x, hx, _⟩ := G.effs m e h
  exact (List.getElem?_eq_some_iff.1 hx).1
/-- Entries and effects that are put behind. -/
structure Ext (s : RS) (x : Ent) (ee' : List Nat) (hh' : List AH) : Prop where
  ee : ∀ m, m < s.ee.length → ee'[m]? = s.ee[m]?
  hh : ∀ k, k ≤ s.ee.length → hh'[k]? = s.hh[k]?
theorem Good.merged_iff (G : Good P nest ops base n tm0 h0 s) {x : Ent} {ee' : List Nat} {hh' : List AH} (X : Ext s x ee' hh') {k j : Nat} (hk : k ≤ s.ee.length) : Merged (s.ents ++ [x]) ee' k j ↔ Merged s.ents s.ee k j := by
  constructor
  · rintro ⟨m, e, hm, he, hb⟩
    rw [X.ee m (by omega)] at he
    exact ⟨m, e, hm, he, by rwa [mkE_append (G.ee_lt he)] at hb⟩
  · rintro ⟨m, e, hm, he, hb⟩
    exact ⟨m, e, hm, by rw [X.ee m (by omega)]; exact he, by rwa [mkE_append (G.ee_lt he)]⟩
theorem Good.alin (G : Good P nest ops base n tm0 h0 s) {x : Ent} {ee' : List Nat} {hh' : List AH} (X : Ext s x ee' hh') {k : Nat} (hk : k ≤ s.ee.length) {al : List (Nat × Nat × AObj)} (h : AlIn s.ents s.ee base k al) : AlIn (s.ents ++ [x]) ee' base k al := by
  intro j r b hm
  obtain ⟨h1, h2, h3⟩ := h j r b hm
  exact ⟨h1, by rw [alOf_append (alOf_lt h2)]; exact h2, fun hh => h3 ((G.merged_iff X hk).1 hh)⟩
/-- An entry goes on to hold. -/
theorem Good.keep (G : Good P nest ops base n tm0 h0 s) {x : Ent} {ee' : List Nat} {hh' : List AH} (X : Ext s x ee' hh') {j : Nat} {y : Ent} (hy : s.ents[j]? = some y)
    (hnew : y.want = true → y.kind = .read → ∀ k hk, s.ee.length < k → hh'[k]? = some hk → (∀ m e, m < k → ee'[m]? = some e → (mkE (s.ents ++ [x]) e).testBit j = false) → ∃ al, AlIn (s.ents ++ [x]) ee' base k al ∧ readA P (evA y.tm) y.o (withAl y.mask hk al) = .ok y.v) :
    EntOk P nest ops base n tm0 (s.ents ++ [x]) hh' ee' j y := by
  have K := G.ent j y hy
  have hj : j < s.ents.length := (List.getElem?_eq_some_iff.1 hy).1
  refine ⟨K.o, K.pre, ?_, ?_, ?_, K.dst, K.want, K.un, K.ok, ?_, K.alc, ?_⟩
  · intro m hm
    obtain ⟨e, he, hb, hlt, hor⟩ := K.clo m hm
    exact ⟨e, he, hb, hlt, by rw [mkE_append (by omega)]; exact hor⟩
  · intro j' z hj' hz
    rw [List.getElem?_append_left (by omega)] at hz
    exact K.ord j' z hj' hz
  · intro t
    rw [K.tm t, wr_append]
    simp only [Nat.zero_add]
    rw [show decide (s.ents.length < j) = false from by simp; omega]
    simp
  · intro hw hk
    obtain ⟨h1, h2⟩ := K.rd hw hk
    refine ⟨h1, fun k hk' hkk c1 c2 => ?_⟩
    rcases Nat.lt_or_ge s.ee.length k with hlt | hle
    · exact hnew hw hk k hk' hlt hkk c2
    · rw [X.hh k hle] at hkk
      obtain ⟨al, a1, a2⟩ := h2 k hk' hkk (fun m e hm hb => by
        have hml : m < s.ee.length := (List.getElem?_eq_some_iff.1 hm).1
        exact c1 m e (by rw [X.ee m hml]; exact hm) hb) (fun m e hm he => by
        have := c2 m e hm (by rw [X.ee m (by omega)]; exact he)
        rwa [mkE_append (G.ee_lt he)] at this)
      exact ⟨al, G.alin X hle a1, a2⟩
  · intro hw hk
    obtain ⟨h1, k, hk1, hk2, e1, e2, e3, e4, al, a1, a2⟩ := K.eff hw hk
    have hkl : k < s.ee.length := (List.getElem?_eq_some_iff.1 e1).1
    refine ⟨h1, k, hk1, hk2, by rw [X.ee k hkl]; exact e1, by rw [X.hh k (by omega)]; exact e2, by rw [X.hh (k + 1) (by omega)]; exact e3, ?_, al, G.alin X (by omega) a1, a2⟩
    intro m e hm he
    exact e4 m e hm (by rw [← X.ee m (by omega)]; exact he)
theorem orderOk_ok {o : Oper} {mask : Nat} : ∀ {E : List Ent} {i : Nat}, orderOk ops o mask E i = true → ∀ j y, E[j]? = some y → clash ops y.o o = true → mask.testBit (i + j) = true
  | [], i, _, j, y, hy, _ => by simp at hy
  | x :: E, i, h, j, y, hy, hc => by
    simp only [orderOk, Bool.and_eq_true, Bool.or_eq_true, Bool.not_eq_true'] at h
    cases j with
    | zero =>
      simp at hy; subst hy
      rcases h.1 with h1 | h1
      · rw [hc] at h1; cases h1
      · exact h1
    | succ j =>
      have := orderOk_ok h.2 j y (by simpa using hy) hc
      rwa [show i + 1 + j = i + (j + 1) by omega] at this
theorem readsOk_ok {mask : Nat} {al : List (Nat × Nat × AObj)} {h : AH} : ∀ {E : List Ent} {i : Nat}, readsOk P mask al h E i = true → ∀ j y, E[j]? = some y → isReadE y = true → mask.testBit (i + j) = false → sameRead P y al h = true
  | [], i, _, j, y, hy, _, _ => by simp at hy
  | x :: E, i, hr, j, y, hy, hc, hm => by
    simp only [readsOk, Bool.and_eq_true, Bool.or_eq_true, Bool.not_eq_true'] at hr
    cases j with
    | zero =>
      simp at hy; subst hy
      rcases hr.1 with (h1 | h1) | h1
      · rw [hc] at h1; cases h1
      · rw [show mask.testBit i = false from hm] at h1; cases h1
      · exact h1
    | succ j => exact readsOk_ok hr.2 j y (by simpa using hy) hc (by rwa [show i + 1 + j = i + (j + 1) by omega])
theorem sameRead_ok {e : Ent} {al : List (Nat × Nat × AObj)} {h : AH} (hs : sameRead P e al h = true) : readA P (evA e.tm) e.o (withAl e.mask h al) = .ok e.v := by
  unfold sameRead at hs
  split at hs
  · rename_i v hv; rw [hv, veq_eq _ _ _ hs]
  · cases hs
end
end Go.Ev
