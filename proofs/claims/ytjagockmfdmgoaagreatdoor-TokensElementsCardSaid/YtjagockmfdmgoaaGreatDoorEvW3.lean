/- Walks by a script: other names for blocks, temporaries that are not looked at any more, and the walk. -/
import Derived.Test.YtjagockmfdmgoaaGreatDoorEvW2
namespace Go.Ev
set_option linter.unusedVariables false
set_option linter.unusedSimpArgs false
variable {η : Nat → Value} {P : Program} {B : Nat}

theorem Run.tm {fn : FuncId} {h0 h : AH} {f : AF} {cs : List AF} {Q : Value → AH → Prop} {tm : T Value} (hi : ∀ t, f.n ≤ t → tm.get t = none) (hg : ∀ t, inT tm t = inT f.tm t) (r : Run η P B fn h0 ⟨{ f with tm := tm }, cs, h⟩ Q) : Run η P B fn h0 ⟨f, cs, h⟩ Q := by
  intro ρ0 w0 ρ fr cs' w cs0 p0 p R
  have F := R.fr
  refine r ρ0 w0 ρ fr cs' w cs0 p0 p ⟨⟨F.fn, ⟨F.tm.1, hi, fun t ht => ?_⟩, F.todo, F.defers, F.mode, F.kind, F.round⟩, R.cs, R.pre⟩
  have := hg t
  unfold inT at this
  show VR η ρ ((tm.get t).getD undef) _
  rw [this]
  exact F.tm.2.2 t ht
/-- Whatever the other temporaries hold. -/
def RunD (η : Nat → Value) (P : Program) (B : Nat) (fn : FuncId) (h0 : AH) (keep : List Nat) (s : AS) (Q : Value → AH → Prop) : Prop :=
  ∀ tm', (∀ t, s.fr.n ≤ t → tm'.get t = none) → (∀ t, keep.contains t = true → inT tm' t = inT s.fr.tm t) → Run η P B fn h0 ⟨{ s.fr with tm := tm' }, s.cs, s.hp⟩ Q
def canonT (keep : List Nat) (tm : T Value) : Nat → T Value
  | 0 => .nil
  | n + 1 => (canonT keep tm n).set n (if keep.contains n then inT tm n else undef)
theorem canonT_get (keep : List Nat) (tm : T Value) : ∀ n t, (canonT keep tm n).get t = if t < n then some (if keep.contains t then inT tm t else undef) else none
  | 0, t => by rw [if_neg (by omega)]; rfl
  | n + 1, t => by
    rw [canonT, T.get_set, canonT_get keep tm n t]
    by_cases h : t = n
    · subst h; rw [if_pos rfl, if_pos (show t < t + 1 by omega)]
    · rw [if_neg h]
      by_cases h2 : t < n
      · rw [if_pos h2, if_pos (show t < n + 1 by omega)]
      · rw [if_neg h2, if_neg (show ¬ t < n + 1 by omega)]
/-- All of a row of temporaries. -/
def allT (n : Nat) (f : Nat → Value) : List Value := (List.range n).map f
theorem allT_eq {n : Nat} {f g : Nat → Value} (h : allT n f = allT n g) : ∀ t, t < n → f t = g t := by
  intro t ht
  have := congrArg (fun l => l[t]?) h
  simp only [allT, List.getElem?_map, List.getElem?_range ht, Option.map_some] at this
  injection this
theorem RunD.intro {fn : FuncId} {h0 : AH} {keep : List Nat} {s : AS} {Q : Value → AH → Prop} (S : (Nat → Value) → AS)
    (e1 : ∀ d, (S d).cs = s.cs ∧ (S d).hp = s.hp ∧ { (S d).fr with tm := s.fr.tm } = s.fr) (hi : ∀ d t, s.fr.n ≤ t → (S d).fr.tm.get t = none) (e2 : ∀ d, allT s.fr.n (inT (S d).fr.tm) = allT s.fr.n fun t => if keep.contains t then inT s.fr.tm t else d t) (r : ∀ d, Run η P B fn h0 (S d) Q) : RunD η P B fn h0 keep s Q := by
  intro tm' h1 h2
  have hr := r (inT tm')
  obtain ⟨c1, c2, c3⟩ := e1 (inT tm')
  have hn : (S (inT tm')).fr.n = s.fr.n := by rw [← c3]
  refine Run.tm (f := { s.fr with tm := tm' }) (tm := (S (inT tm')).fr.tm) (fun t ht => hi _ t ht) (fun t => ?_) ?_
  · show inT _ t = inT tm' t
    by_cases ht : t < s.fr.n
    · rw [allT_eq (e2 (inT tm')) t ht]
      cases hk : keep.contains t with
      | true => simp only [if_true]; exact (h2 t hk).symm
      | false => simp only [Bool.false_eq_true, if_false]
    · unfold inT
      rw [hi _ t (by omega), h1 t (by omega)]
  · have : (⟨{ ({ s.fr with tm := tm' } : AF) with tm := (S (inT tm')).fr.tm }, s.cs, s.hp⟩ : AS) = S (inT tm') := by
      rw [← c1, ← c2]
      have : ({ ({ s.fr with tm := tm' } : AF) with tm := (S (inT tm')).fr.tm } : AF) = (S (inT tm')).fr := by
        have h3 := congrArg (fun f : AF => ({ f with tm := (S (inT tm')).fr.tm } : AF)) c3
        simp only at h3
        exact h3.symm
      rw [this]
    rw [this]
    exact hr
theorem RunD.at {fn : FuncId} {h0 : AH} {keep : List Nat} {f : AF} {cs : List AF} {h : AH} {Q : Value → AH → Prop} (r : RunD η P B fn h0 keep ⟨{ f with tm := canonT keep f.tm f.n }, cs, h⟩ Q) (hi : ∀ t, f.n ≤ t → f.tm.get t = none) (hk : keep.all (fun t => decide (t < f.n)) = true) : Run η P B fn h0 ⟨f, cs, h⟩ Q := by
  refine r f.tm hi (fun t ht => ?_)
  have hlt : t < f.n := by
    have := List.all_eq_true.1 hk t (by simpa using ht)
    simpa using this
  unfold inT
  simp only [canonT_get, if_pos hlt, ht, if_true, Option.getD_some]
  rfl

def mapO {α : Type} (f : α → Option α) : List α → Option (List α)
  | [] => some []
  | x :: xs => match f x, mapO f xs with
    | some y, some ys => some (y :: ys)
    | _, _ => none
def renA (τ : Nat → Option Nat) (a : Addr) : Option Addr := (τ a.block).map fun r => ⟨r, a.off, a.spot⟩
def renV (τ : Nat → Option Nat) : Nat → Value → Option Value
  | 0, _ => none
  | n + 1, v => match v with
    | .pointer (some a) => some (match renA τ a with | some b => .pointer (some b) | none => .chan none)
    | .slice (some a) l c => some (match renA τ a with | some b => .slice (some b) l c | none => .chan none)
    | .map (some r) => some (match τ r with | some b => .map (some b) | none => .chan none)
    | .func (.yield l) a b => match τ l with
      | some r => match mapO (renV τ n) a.toList, mapO (renV τ n) b.toList with
        | some x, some y => some (.func (.yield r) ⟨x⟩ ⟨y⟩)
        | _, _ => none
      | none => some (.chan none)
    | .func f a b => match mapO (renV τ n) a.toList, mapO (renV τ n) b.toList with
      | some x, some y => some (.func f ⟨x⟩ ⟨y⟩)
      | _, _ => none
    | .iface t x => (renV τ n x).map (.iface t)
    | .agg l => (mapO (renV τ n) l.toList).map fun l => .agg ⟨l⟩
    | .tuple l => (mapO (renV τ n) l.toList).map fun l => .tuple ⟨l⟩
    | v => some v
theorem mapO_l2 {α : Type} {R : α → α → Prop} {f : α → Option α} (hf : ∀ x y, f x = some y → R y x) : ∀ {l m : List α}, mapO f l = some m → L2 R m l
  | [], m, h => by simp [mapO] at h; subst h; exact .nil
  | x :: xs, m, h => by
    unfold mapO at h
    split at h
    · rename_i y ys h1 h2; injection h with h; subst h; exact .cons (hf _ _ h1) (mapO_l2 hf h2)
    · cases h
theorem renV_ok {σ : Nat → Nat} {N : Nat} {τ : Nat → Option Nat} (hτ : ∀ r r', τ r = some r' → r' < N ∧ σ r' = r) : ∀ (n : Nat) {v v' : Value}, renV τ n v = some v' → RV σ N true v' v := by
  intro n
  induction n with
  | zero => intro v v' h; cases h
  | succ n ih =>
    intro v v' h
    have hL : ∀ {l m : List Value}, mapO (renV τ n) l = some m → L2 (RV σ N true) m l := fun h => mapO_l2 (R := RV σ N true) (fun x y hx => ih hx) h
    have hget : ∀ {l m : List Value}, L2 (RV σ N true) l m → l.length = m.length ∧ ∀ (i : Nat) (v x : Value), l[i]? = some v → m[i]? = some x → RV σ N true v x := by
      intro l m h2
      refine ⟨h2.len, fun i v x hv hx => ?_⟩
      obtain ⟨b, hb, hr⟩ := h2.get hv
      rw [hx] at hb; injection hb with hb; subst hb; exact hr
    unfold renV at h
    split at h
    · rename_i a
      injection h with h; subst h
      unfold renA
      cases ht : τ a.block with
      | none => exact .any rfl rfl
      | some r =>
        obtain ⟨h1, h2⟩ := hτ _ _ ht
        obtain ⟨b, o, s⟩ := a
        simp only at h2
        subst h2
        exact .ptr h1
    · rename_i a l c
      injection h with h; subst h
      unfold renA
      cases ht : τ a.block with
      | none => exact .any rfl rfl
      | some r =>
        obtain ⟨h1, h2⟩ := hτ _ _ ht
        obtain ⟨b, o, s⟩ := a
        simp only at h2
        subst h2
        exact .slice _ _ h1
    · rename_i r
      injection h with h; subst h
      cases ht : τ r with
      | none => exact .any rfl rfl
      | some r' =>
        obtain ⟨h1, h2⟩ := hτ _ _ ht
        subst h2
        exact .map h1
    · rename_i l a b
      cases ht : τ l with
      | none => rw [ht] at h; injection h with h; subst h; exact .any rfl rfl
      | some r =>
        rw [ht] at h
        obtain ⟨h1, h2⟩ := hτ _ _ ht
        subst h2
        simp only at h
        split at h
        · rename_i x y hx hy
          injection h with h; subst h
          obtain ⟨x1, x2⟩ := hget (hL hx)
          obtain ⟨y1, y2⟩ := hget (hL hy)
          exact .func (.yield h1) x1 y1 x2 y2
        · cases h
    · rename_i f a b hf
      split at h
      · rename_i x y hx hy
        injection h with h; subst h
        obtain ⟨x1, x2⟩ := hget (hL hx)
        obtain ⟨y1, y2⟩ := hget (hL hy)
        exact .func (.same fun l hl => hf l hl) x1 y1 x2 y2
      · cases h
    · rename_i t x
      cases hx : renV τ n x with
      | none => rw [hx] at h; cases h
      | some y => rw [hx] at h; injection h with h; subst h; exact .iface t (ih hx)
    · rename_i l
      cases hx : mapO (renV τ n) l.toList with
      | none => rw [hx] at h; cases h
      | some y =>
        rw [hx] at h; injection h with h; subst h
        obtain ⟨x1, x2⟩ := hget (hL hx)
        exact .agg x1 x2
    · rename_i l
      cases hx : mapO (renV τ n) l.toList with
      | none => rw [hx] at h; cases h
      | some y =>
        rw [hx] at h; injection h with h; subst h
        obtain ⟨x1, x2⟩ := hget (hL hx)
        exact .tuple x1 x2
    · rename_i h1 h2 h3 h4 h5 h6 h7 h8
      injection h with h; subst h
      cases v with
      | bool b => exact .bool b
      | int k n => exact .int k n
      | float k n => exact .float k n
      | complex k a b => exact .complex k a b
      | string s => exact .string s
      | pointer a => cases a with | none => exact .ptr0 | some a => exact absurd rfl (h1 a)
      | slice a l c => cases a with | none => exact .slice0 l c | some a => exact absurd rfl (h2 a l c)
      | map a => cases a with | none => exact .map0 | some a => exact absurd rfl (h3 a)
      | chan c => exact .chan c
      | func f a b => exact absurd rfl (h5 f a b)
      | nilFunc => exact .nilFunc
      | nilIface => exact .nilIface
      | iface t x => exact absurd rfl (h6 t x)
      | agg l => exact absurd rfl (h7 l)
      | tuple l => exact absurd rfl (h8 l)
/-- Values that name no block. -/
def bareN : Value → Bool
  | .bool _ | .int _ _ | .float _ _ | .complex _ _ _ | .string _ | .pointer none | .slice none _ _ | .map none | .nilFunc | .nilIface => true
  | _ => false
def NoNames (c : List Value) : Prop := ∀ v, v ∈ c → bareN v = true
def NoNamesE (es : List MapEntry) : Prop := ∀ e, e ∈ es → bareN e.key = true ∧ bareN e.val = true
theorem bareN_rv {σ : Nat → Nat} {N : Nat} {wk : Bool} {v : Value} (h : bareN v = true) : RV σ N wk v v := by
  unfold bareN at h
  split at h <;> first | exact .bool _ | exact .int _ _ | exact .float _ _ | exact .complex _ _ _ | exact .string _ | exact .ptr0 | exact .slice0 _ _ | exact .map0 | exact .nilFunc | exact .nilIface | cases h
def renE (τ : Nat → Option Nat) (e : MapEntry) : Option MapEntry := match renV τ 50 e.key, renV τ 50 e.val with
  | some k, some v => some { e with key := k, val := v }
  | _, _ => none
def renO (τ : Nat → Option Nat) (open_ : Bool) : AObj → Option (AObj × Prop)
  | .cells ty c p own => if open_ then some (.cells ty c p own, NoNames c) else (mapO (renV τ 50) c).map fun c' => (.cells ty c' p own, True)
  | .map es k own => if open_ then some (.map es k own, NoNamesE es) else (mapO (renE τ) es).map fun es' => (.map es' k own, True)
  | .stringIter s p => some (.stringIter s p, True)
  | .mapIter none a b c => some (.mapIter none a b c, True)
  | .mapIter (some m) a b c => (τ m).map fun r => (.mapIter (some r) a b c, True)
  | _ => none
theorem renO_ok {σ : Nat → Nat} {N : Nat} {τ : Nat → Option Nat} (hτ : ∀ r r', τ r = some r' → r' < N ∧ σ r' = r) {op : Bool} {o o' : AObj} {p : Prop} (h : renO τ op o = some (o', p)) (hp : p) : RO σ N true o' o := by
  unfold renO at h
  split at h
  · rename_i ty c pl own
    cases op with
    | true =>
      simp only [if_true] at h
      injection h with h; injection h with e1 e2; subst e1; subst e2
      exact .cells ty pl (l2_same fun v hv => bareN_rv (hp v hv)) (.inl rfl)
    | false =>
      simp only [Bool.false_eq_true, if_false] at h
      cases hm : mapO (renV τ 50) c with
      | none => rw [hm] at h; cases h
      | some c' =>
        rw [hm] at h
        injection h with h; injection h with e1 e2; subst e1; subst e2
        exact .cells ty pl (mapO_l2 (R := RV σ N true) (fun x y hx => renV_ok hτ 50 hx) hm) (.inl rfl)
  · rename_i es k own
    cases op with
    | true =>
      simp only [if_true] at h
      injection h with h; injection h with e1 e2; subst e1; subst e2
      have key : ∀ {es : List MapEntry}, NoNamesE es → L2 (RE σ N true) es es := by
        intro es
        induction es with
        | nil => intro _; exact .nil
        | cons e es ih =>
          intro h
          have h1 := h e (by simp)
          exact .cons ⟨bareN_rv h1.1, bareN_rv h1.2, rfl⟩ (ih fun x hx => h x (by simp [hx]))
      exact .map k (key hp) (.inl rfl)
    | false =>
      simp only [Bool.false_eq_true, if_false] at h
      cases hm : mapO (renE τ) es with
      | none => rw [hm] at h; cases h
      | some c' =>
        rw [hm] at h
        injection h with h; injection h with e1 e2; subst e1; subst e2
        refine .map k (mapO_l2 (R := RE σ N true) (fun x y hx => ?_) hm) (.inl rfl)
        unfold renE at hx
        split at hx
        · rename_i a b ha hb
          injection hx with hx; subst hx
          exact ⟨renV_ok hτ 50 ha, renV_ok hτ 50 hb, rfl⟩
        · cases hx
  · injection h with h; injection h with e1 e2; subst e1; subst e2; exact .stringIter _ _
  · injection h with h; injection h with e1 e2; subst e1; subst e2; exact .mapIter0 _ _ _
  · rename_i m a b c
    cases ht : τ m with
    | none => rw [ht] at h; cases h
    | some r =>
      rw [ht] at h
      injection h with h; injection h with e1 e2; subst e1; subst e2
      obtain ⟨h1, h2⟩ := hτ _ _ ht
      subst h2
      exact .mapIter _ _ _ h1
  · cases h
/-- Other names: N names; (actual, new) ones; the blocks that are kept, (new, actual, are their data unknown?). -/
structure Rn where
  N : Nat
  τ : List (Nat × Nat)
  bl : List (Nat × Nat × Bool)
def Rn.sg (rn : Rn) (nb r : Nat) : Nat := if r < nb then r else ((rn.τ.find? fun p => p.2 == r).map (·.1)).getD r
def Rn.tf (rn : Rn) (nb a : Nat) : Option Nat := if a < nb then some a else (rn.τ.find? fun p => p.1 == a).map (·.2)
def nodupB : List Nat → Bool
  | [] => true
  | x :: xs => !xs.contains x && nodupB xs
def Rn.good (rn : Rn) (gs nb : Nat) : Bool :=
  decide (gs < nb) && decide (nb ≤ rn.N) && rn.τ.all (fun p => decide (nb ≤ p.2) && decide (p.2 < rn.N) && decide (nb ≤ p.1) && rn.sg nb p.2 == p.1) &&
    rn.bl.all (fun b => decide (b.1 < rn.N) && rn.sg nb b.1 == b.2.1) && nodupB (rn.bl.map (·.1)) && nodupB (rn.bl.map (·.2.1))
theorem Rn.tf_ok {rn : Rn} {gs nb : Nat} (h : rn.good gs nb = true) : ∀ r r', rn.tf nb r = some r' → r' < rn.N ∧ rn.sg nb r' = r := by
  intro r r' hr
  simp only [Rn.good, Bool.and_eq_true, decide_eq_true_eq] at h
  obtain ⟨⟨⟨⟨⟨h1, h2⟩, h3⟩, h4⟩, h5⟩, h6⟩ := h
  unfold Rn.tf at hr
  by_cases hlt : r < nb
  · rw [if_pos hlt] at hr; injection hr with hr; subst hr
    exact ⟨by omega, by unfold Rn.sg; rw [if_pos hlt]⟩
  · rw [if_neg hlt] at hr
    cases hf : rn.τ.find? (fun p => p.1 == r) with
    | none => rw [hf] at hr; cases hr
    | some q =>
      rw [hf] at hr; injection hr with hr; subst hr
      have hq := List.find?_some hf
      have hm := List.mem_of_find?_eq_some hf
      have := List.all_eq_true.1 h3 q hm
      simp only [Bool.and_eq_true, decide_eq_true_eq, beq_iff_eq] at this hq
      exact ⟨this.1.1.2, this.2.trans hq⟩
def renH (τ : Nat → Option Nat) (h : AH) : List (Nat × Nat × Bool) → Option (T AObj × Prop)
  | [] => some (.nil, True)
  | b :: l => match h.objs.get b.2.1 with
    | none => none
    | some o => match renO τ b.2.2 o, renH τ h l with
      | some (o', p), some (t, q) => some (t.set b.1 o', p ∧ q)
      | _, _ => none
theorem renH_ok {σ : Nat → Nat} {N : Nat} {τ : Nat → Option Nat} (hτ : ∀ r r', τ r = some r' → r' < N ∧ σ r' = r) {h : AH} : ∀ {l : List (Nat × Nat × Bool)} {t : T AObj} {p : Prop}, renH τ h l = some (t, p) → p → ∀ r o, t.get r = some o → ∃ b o', b ∈ l ∧ b.1 = r ∧ h.objs.get b.2.1 = some o' ∧ RO σ N true o o'
  | [], t, p, hr, hp, r, o, ho => by
    simp only [renH] at hr; injection hr with hr; injection hr with e1 e2; subst e1; cases ho
  | b :: l, t, p, hr, hp, r, o, ho => by
    unfold renH at hr
    cases hx : h.objs.get b.2.1 with
    | none => rw [hx] at hr; cases hr
    | some ob =>
      rw [hx] at hr
      simp only at hr
      split at hr
      · rename_i o' p1 t1 q1 h1 h2
        injection hr with hr; injection hr with e1 e2; subst e1; subst e2
        rw [T.get_set] at ho
        by_cases hb : r = b.1
        · rw [if_pos hb] at ho
          injection ho with ho; subst ho
          exact ⟨b, ob, by simp, hb.symm, hx, renO_ok hτ h1 hp.1⟩
        · rw [if_neg hb] at ho
          obtain ⟨b', o2, k1, k2, k3, k4⟩ := renH_ok hτ h2 hp.2 r o ho
          exact ⟨b', o2, by simp [k1], k2, k3, k4⟩
      · cases hr
theorem nodupB_inj {α : Type} {f : α → Nat} : ∀ {l : List α}, nodupB (l.map f) = true → ∀ {x y : α}, x ∈ l → y ∈ l → f x = f y → x = y
  | [], _, x, y, hx, _, _ => by cases hx
  | a :: l, h, x, y, hx, hy, e => by
    simp only [List.map_cons, nodupB, Bool.and_eq_true, Bool.not_eq_true'] at h
    have hn : ∀ z, z ∈ l → f z ≠ f a := by
      intro z hz he
      have : (l.map f).contains (f a) = true := by
        rw [List.contains_iff_mem]; exact List.mem_map.2 ⟨z, hz, he⟩
      rw [this] at h; cases h.1
    rcases List.mem_cons.1 hx with h1 | h1
    · rcases List.mem_cons.1 hy with h2 | h2
      · rw [h1, h2]
      · rw [h1] at e; exact absurd e.symm (hn _ h2)
    · rcases List.mem_cons.1 hy with h2 | h2
      · rw [h2] at e; exact absurd e (hn _ h1)
      · exact nodupB_inj h.2 h1 h2 e
theorem ren_emb {rn : Rn} {nb : Nat} {h : AH} {t : T AObj} {p : Prop} (hg : rn.good P.globals.size nb = true) (hr : renH (rn.tf nb) h rn.bl = some (t, p)) (hp : p) : Emb P (rn.sg nb) ⟨t, rn.N⟩ h := by
  have hτ := rn.tf_ok hg
  have key := renH_ok (N := rn.N) (σ := rn.sg nb) hτ hr hp
  simp only [Rn.good, Bool.and_eq_true, decide_eq_true_eq] at hg
  obtain ⟨⟨⟨⟨⟨h1, h2⟩, h3⟩, h4⟩, h5⟩, h6⟩ := hg
  have hb : ∀ b, b ∈ rn.bl → b.1 < rn.N ∧ rn.sg nb b.1 = b.2.1 := by
    intro b hb
    have := List.all_eq_true.1 h4 b hb
    simp only [Bool.and_eq_true, decide_eq_true_eq, beq_iff_eq] at this
    exact this
  refine ⟨fun g hgs => ⟨?_, ?_⟩, fun r a hr => ?_, fun r r' a a' hr hr' he => ?_⟩
  · show g < rn.N; omega
  · unfold Rn.sg; rw [if_pos (by omega)]
  · obtain ⟨b, o', k1, k2, k3, k4⟩ := key r a hr
    obtain ⟨l1, l2⟩ := hb b k1
    subst k2
    exact ⟨l1, o', by rw [l2]; exact k3, k4⟩
  · obtain ⟨b, _, k1, k2, _⟩ := key r a hr
    obtain ⟨b', _, k1', k2', _⟩ := key r' a' hr'
    subst k2; subst k2'
    rw [(hb b k1).2, (hb b' k1').2] at he
    rw [nodupB_inj (f := fun b : Nat × Nat × Bool => b.2.1) h6 k1 k1' he]
def renT (τ : Nat → Option Nat) (keep : List Nat) (tm : T Value) : Nat → Option (T Value)
  | 0 => some .nil
  | n + 1 => match (if keep.contains n then renV τ 50 (inT tm n) else some undef), renT τ keep tm n with
    | some v, some t => some (t.set n v)
    | _, _ => none
theorem renT_ok {τ : Nat → Option Nat} {keep : List Nat} {tm : T Value} : ∀ {n : Nat} {t : T Value}, renT τ keep tm n = some t → (∀ i, n ≤ i → t.get i = none) ∧ ∀ i, i < n → keep.contains i = true → renV τ 50 (inT tm i) = some (inT t i)
  | 0, t, h => by simp only [renT] at h; injection h with h; subst h; exact ⟨fun _ _ => rfl, fun i hi => by omega⟩
  | n + 1, t, h => by
    unfold renT at h
    split at h
    · rename_i v t1 h1 h2
      injection h with h; subst h
      obtain ⟨k1, k2⟩ := renT_ok h2
      refine ⟨fun i hi => by rw [T.get_set, if_neg (by omega)]; exact k1 i (by omega), fun i hi hk => ?_⟩
      unfold inT
      rw [T.get_set]
      by_cases he : i = n
      · subst he; rw [if_pos rfl]; rw [if_pos hk] at h1; unfold inT at h1; rw [h1]; rfl
      · rw [if_neg he]; exact k2 i (by omega) hk
    · cases h
/-- Less is known of any value. -/
theorem weak_ex {σ : Nat → Nat} {N : Nat} (v : Value) : ∃ v0, RV σ N true v0 v := match v with
  | .agg l => by
    have h : ∀ m : List Value, (∀ x, x ∈ m → ∃ v0, RV σ N true v0 x) → ∃ m0, L2 (RV σ N true) m0 m := by
      intro m
      induction m with
      | nil => intro _; exact ⟨[], .nil⟩
      | cons x m ih =>
        intro hx
        obtain ⟨v0, hv⟩ := hx x (by simp)
        obtain ⟨m0, hm⟩ := ih fun y hy => hx y (by simp [hy])
        exact ⟨v0 :: m0, .cons hv hm⟩
    obtain ⟨m0, hm⟩ := h l.toList fun x hx => weak_ex x
    refine ⟨.agg ⟨m0⟩, .agg hm.len fun i v x hv hx => ?_⟩
    obtain ⟨b, hb, hr⟩ := hm.get hv
    rw [hx] at hb; injection hb with hb; subst hb; exact hr
  | .tuple l => by
    have h : ∀ m : List Value, (∀ x, x ∈ m → ∃ v0, RV σ N true v0 x) → ∃ m0, L2 (RV σ N true) m0 m := by
      intro m
      induction m with
      | nil => intro _; exact ⟨[], .nil⟩
      | cons x m ih =>
        intro hx
        obtain ⟨v0, hv⟩ := hx x (by simp)
        obtain ⟨m0, hm⟩ := ih fun y hy => hx y (by simp [hy])
        exact ⟨v0 :: m0, .cons hv hm⟩
    obtain ⟨m0, hm⟩ := h l.toList fun x hx => weak_ex x
    refine ⟨.tuple ⟨m0⟩, .tuple hm.len fun i v x hv hx => ?_⟩
    obtain ⟨b, hb, hr⟩ := hm.get hv
    rw [hx] at hb; injection hb with hb; subst hb; exact hr
  | .bool b => ⟨_, .bool b⟩
  | .int k n => ⟨_, .int k n⟩
  | .float k n => ⟨_, .float k n⟩
  | .complex k a b => ⟨_, .complex k a b⟩
  | .string s => ⟨_, .string s⟩
  | .pointer a => ⟨_, .any rfl rfl⟩
  | .slice a l c => ⟨_, .any rfl rfl⟩
  | .map a => ⟨_, .any rfl rfl⟩
  | .chan c => ⟨_, .chan c⟩
  | .func f a b => ⟨_, .any rfl rfl⟩
  | .nilFunc => ⟨_, .nilFunc⟩
  | .nilIface => ⟨_, .nilIface⟩
  | .iface t v => by obtain ⟨v0, h⟩ := weak_ex v; exact ⟨.iface t v0, .iface t h⟩
termination_by SizeOf.sizeOf v
decreasing_by
  · simp_wf
    have := List.sizeOf_lt_of_mem hx
    have h2 : SizeOf.sizeOf l = 1 + SizeOf.sizeOf l.toList := by cases l; rfl
    omega
  · simp_wf
    have := List.sizeOf_lt_of_mem hx
    have h2 : SizeOf.sizeOf l = 1 + SizeOf.sizeOf l.toList := by cases l; rfl
    omega
  · simp_wf
    omega
/-- A row of temporaries by their values. -/
def tabT (f : Nat → Value) : Nat → T Value
  | 0 => .nil
  | n + 1 => (tabT f n).set n (f n)
theorem tabT_get (f : Nat → Value) : ∀ n t, (tabT f n).get t = if t < n then some (f t) else none
  | 0, t => by rw [if_neg (by omega)]; rfl
  | n + 1, t => by
    rw [tabT, T.get_set, tabT_get f n t]
    by_cases h : t = n
    · subst h; rw [if_pos rfl, if_pos (show t < t + 1 by omega)]
    · rw [if_neg h]
      by_cases h2 : t < n
      · rw [if_pos h2, if_pos (show t < n + 1 by omega)]
      · rw [if_neg h2, if_neg (show ¬ t < n + 1 by omega)]
def plainItems (l : List Item) : Bool := l.all fun | .inRangeFunc _ | .endRangeFunc _ => false | .code _ | .inBlock _ | .inLoop _ | .inScope _ | .inRegion _ _ | .beginRound => true | _ => false
def isRun : FrameMode → Bool
  | .run => true
  | _ => false
def renB (gs nb : Nat) (rn : Rn) (s : AS) : Bool := s.cs.isEmpty && s.fr.defers.isEmpty && s.fr.round.isNone && plainItems s.fr.todo && rn.good gs nb && isRun s.fr.mode
def renS (gs nb : Nat) (rn : Rn) (keep : List Nat) (s : AS) : Option (AS × Prop) :=
  if renB gs nb rn s then
    match renT (rn.tf nb) keep s.fr.tm s.fr.n, renH (rn.tf nb) s.hp rn.bl with
    | some tm, some (t, p) => some (⟨{ s.fr with tm }, [], ⟨t, rn.N⟩⟩, p)
    | _, _ => none
  else none
theorem RunD.renS (hη : OneCells η) {fn : FuncId} {h0 : AH} {rn : Rn} {keep : List Nat} {s s' : AS} {p : Prop} {Q : Value → AH → Prop} (h : renS P.globals.size h0.next rn keep s = some (s', p)) (hp : p) (r : RunD η P B fn h0 keep s' Q) : Run η P B fn h0 s Q := by
  unfold Go.Ev.renS at h
  split at h
  · rename_i hc
    simp only [renB, Bool.and_eq_true, List.isEmpty_iff, Option.isNone_iff_eq_none] at hc
    obtain ⟨⟨⟨⟨⟨c1, c2⟩, c3⟩, c4⟩, c5⟩, c6⟩ := hc
    split at h
    · rename_i tm t q h1 h2
      injection h with h; injection h with e1 e2; subst e1; subst e2
      obtain ⟨f, cs, hp0⟩ := s
      simp only at c1 c2 c3 c4 c6 h1 h2 r
      subst c1
      have hτ := rn.tf_ok c5
      have hgd := c5
      simp only [Rn.good, Bool.and_eq_true, decide_eq_true_eq] at hgd
      have hn : h0.next ≤ rn.N := hgd.1.1.1.1.2
      obtain ⟨k1, k2⟩ := renT_ok h1
      have hw : ∀ i, ∃ v0, RV (rn.sg h0.next) rn.N true v0 (inT f.tm i) ∧ (i < f.n → keep.contains i = true → v0 = inT tm i) := by
        intro i
        by_cases hk : i < f.n ∧ keep.contains i = true
        · exact ⟨inT tm i, renV_ok hτ 50 (k2 i hk.1 hk.2), fun _ _ => rfl⟩
        · obtain ⟨v0, hv⟩ := weak_ex (σ := rn.sg h0.next) (N := rn.N) (inT f.tm i)
          exact ⟨v0, hv, fun h1 h2 => absurd ⟨h1, h2⟩ hk⟩
      let g : Nat → Value := fun i => Classical.choose (hw i)
      have hg : ∀ i, RV (rn.sg h0.next) rn.N true (g i) (inT f.tm i) ∧ (i < f.n → keep.contains i = true → g i = inT tm i) := fun i => Classical.choose_spec (hw i)
      have hr := r (tabT g f.n) (fun i hi => by rw [tabT_get, if_neg (by show ¬ i < f.n; exact Nat.not_lt.2 hi)]) (fun i hk => by
        show inT (tabT g f.n) i = inT tm i
        by_cases hi : i < f.n
        · unfold inT; rw [tabT_get, if_pos hi]; exact (hg i).2 hi hk
        · unfold inT; rw [tabT_get, if_neg hi, k1 i (by omega)])
      refine Run.ren (f := { f with tm := tabT g f.n }) (hs := ⟨t, rn.N⟩) hη (rn.sg h0.next) (ren_emb c5 h2 hp) hn (fun r hr => by unfold Rn.sg; rw [if_pos hr]) ⟨rfl, rfl, fun i hi => ?_, fun i hi => ?_, ri_refl c4, ⟨c2, c2⟩, ⟨rfl, ?_⟩, rfl, ⟨c3, c3⟩⟩ hr
      · show (tabT g f.n).get i = none
        rw [tabT_get, if_neg (by show ¬ i < f.n; exact Nat.not_lt.2 hi)]
      · show RV _ _ _ (((tabT g f.n).get i).getD undef) _
        rw [tabT_get, if_pos (show i < f.n from hi)]
        exact (hg i).1
      · cases hm : f.mode with
        | run => exact .inl rfl
        | returning => exact .inr rfl
        | panicking c => rw [hm] at c6; simp [isRun] at c6
    · cases h
  · cases h
end Go.Ev
