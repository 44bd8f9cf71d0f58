/- Blocks under other names; what a call does not touch. -/
import Derived.Test.YtangiefkpllnmaaGreatDoorEvRule
namespace Go.Ev
set_option linter.unusedVariables false
set_option linter.unusedSimpArgs false
variable {η : Nat → Value} {P : Program} {B : Nat}
inductive RF (σ : Nat → Nat) (N : Nat) : Fn → Fn → Prop
  | same {f : Fn} (h : ∀ l, f ≠ .yield l) : RF σ N f f
  | yield {l : Nat} (h : l < N) : RF σ N (.yield l) (.yield (σ l))
/-- The same value where the blocks below N are called by σ; wk: the first one may know less. -/
inductive RV (σ : Nat → Nat) (N : Nat) (wk : Bool) : Value → Value → Prop
  | bool (b : Bool) : RV σ N wk (.bool b) (.bool b)
  | int (k : IntKind) (n : Int) : RV σ N wk (.int k n) (.int k n)
  | float (k : FloatKind) (b : Nat) : RV σ N wk (.float k b) (.float k b)
  | complex (k : FloatKind) (a b : Nat) : RV σ N wk (.complex k a b) (.complex k a b)
  | string (s : ByteArray) : RV σ N wk (.string s) (.string s)
  | ptr0 : RV σ N wk (.pointer none) (.pointer none)
  | ptr {r o : Nat} {s} (h : r < N) : RV σ N wk (.pointer (some ⟨r, o, s⟩)) (.pointer (some ⟨σ r, o, s⟩))
  | slice0 (l c : Nat) : RV σ N wk (.slice none l c) (.slice none l c)
  | slice {r o : Nat} {s} (l c : Nat) (h : r < N) : RV σ N wk (.slice (some ⟨r, o, s⟩) l c) (.slice (some ⟨σ r, o, s⟩) l c)
  | map0 : RV σ N wk (.map none) (.map none)
  | map {r : Nat} (h : r < N) : RV σ N wk (.map (some r)) (.map (some (σ r)))
  | func {f g : Fn} {a b c d : Array Value} (hf : RF σ N f g) (h1 : a.toList.length = c.toList.length) (h2 : b.toList.length = d.toList.length)
      (h3 : ∀ (i : Nat) (v x : Value), a.toList[i]? = some v → c.toList[i]? = some x → RV σ N wk v x) (h4 : ∀ (i : Nat) (v x : Value), b.toList[i]? = some v → d.toList[i]? = some x → RV σ N wk v x) : RV σ N wk (.func f a b) (.func g c d)
  | nilFunc : RV σ N wk .nilFunc .nilFunc
  | nilIface : RV σ N wk .nilIface .nilIface
  | iface (t : TypeId) {v x : Value} (h : RV σ N wk v x) : RV σ N wk (.iface t v) (.iface t x)
  | agg {a c : Array Value} (h1 : a.toList.length = c.toList.length) (h3 : ∀ (i : Nat) (v x : Value), a.toList[i]? = some v → c.toList[i]? = some x → RV σ N wk v x) : RV σ N wk (.agg a) (.agg c)
  | tuple {a c : Array Value} (h1 : a.toList.length = c.toList.length) (h3 : ∀ (i : Nat) (v x : Value), a.toList[i]? = some v → c.toList[i]? = some x → RV σ N wk v x) : RV σ N wk (.tuple a) (.tuple c)
  | chan (c : Option Nat) : RV σ N wk (.chan c) (.chan c)
  | any {v : Value} (hw : wk = true) (h : oneC v = true) : RV σ N wk (.chan none) v
theorem RV.up {σ : Nat → Nat} {N : Nat} {ρs ρ : Env} (hn : ∀ r t, r < N → ρs r = some t → ρ (σ r) = some t) {v v' x : Value} (k : RV σ N false v v') (h : VR η ρs v x) : VR η ρ v' x := by
  induction k generalizing x with
  | ptr h1 => cases h with | ptr h => exact .ptr (hn _ _ h1 h)
  | slice l c h1 => cases h with
    | slice _ _ h hc => exact .slice _ _ (hn _ _ h1 h) hc
    | sliceU _ s c h a b d e => exact .sliceU _ _ _ (hn _ _ h1 h) a b d e
  | map h1 => cases h with | map h => exact .map (hn _ _ h1 h)
  | func hf h1 h2 h3 h4 i3 i4 => cases h with
    | func kf k1 k2 k3 k4 =>
      refine .func ?_ (h1.symm.trans k1) (h2.symm.trans k2) (fun i v x hv hx => ?_) (fun i v x hv hx => ?_)
      · cases hf with
        | same hh => cases kf with
          | same h' => exact .same h'
          | yield h' => exact absurd rfl (hh _)
        | yield hh => cases kf with
          | same h' => exact absurd rfl (h' _)
          | yield h' => exact .yield (hn _ _ hh h')
      · have hi := (List.getElem?_eq_some_iff.1 hv).1
        rw [← h1] at hi
        exact i3 i _ v (List.getElem?_eq_getElem hi) hv (k3 i _ x (List.getElem?_eq_getElem hi) hx)
      · have hi := (List.getElem?_eq_some_iff.1 hv).1
        rw [← h2] at hi
        exact i4 i _ v (List.getElem?_eq_getElem hi) hv (k4 i _ x (List.getElem?_eq_getElem hi) hx)
  | iface t h1 ih => cases h with | iface _ h => exact .iface _ (ih h)
  | agg h1 h3 i3 => cases h with
    | agg k1 k3 =>
      refine .agg (h1.symm.trans k1) (fun i v x hv hx => ?_)
      have hi := (List.getElem?_eq_some_iff.1 hv).1
      rw [← h1] at hi
      exact i3 i _ v (List.getElem?_eq_getElem hi) hv (k3 i _ x (List.getElem?_eq_getElem hi) hx)
  | tuple h1 h3 i3 => cases h with
    | tuple k1 k3 =>
      refine .tuple (h1.symm.trans k1) (fun i v x hv hx => ?_)
      have hi := (List.getElem?_eq_some_iff.1 hv).1
      rw [← h1] at hi
      exact i3 i _ v (List.getElem?_eq_getElem hi) hv (k3 i _ x (List.getElem?_eq_getElem hi) hx)
  | slice0 l c => cases h with | slice0 _ _ hc => exact .slice0 _ _ hc
  | bool b => cases h; exact .bool b
  | int k n => cases h; exact .int k n
  | float k n => cases h; exact .float k n
  | complex k a b => cases h; exact .complex k a b
  | string s => cases h; exact .string s
  | ptr0 => cases h; exact .ptr0
  | map0 => cases h; exact .map0
  | nilFunc => cases h; exact .nilFunc
  | nilIface => cases h; exact .nilIface
  | chan c => cases h with
    | opq i => exact .opq i
    | any h => exact .any h
  | any hw h1 => cases hw
theorem RV.dn (hη : OneCells η) {σ : Nat → Nat} {N : Nat} {wk : Bool} {ρs ρ : Env} (hn : ∀ r t, r < N → ρ (σ r) = some t → ρs r = some t) {v v' x : Value} (k : RV σ N wk v v') (h : VR η ρ v' x) : VR η ρs v x := by
  induction k generalizing x with
  | ptr h1 => cases h with | ptr h => exact .ptr (hn _ _ h1 h)
  | slice l c h1 => cases h with
    | slice _ _ h hc => exact .slice _ _ (hn _ _ h1 h) hc
    | sliceU _ s c h a b d e => exact .sliceU _ _ _ (hn _ _ h1 h) a b d e
  | map h1 => cases h with | map h => exact .map (hn _ _ h1 h)
  | func hf h1 h2 h3 h4 i3 i4 => cases h with
    | func kf k1 k2 k3 k4 =>
      refine .func ?_ (h1.trans k1) (h2.trans k2) (fun i v x hv hx => ?_) (fun i v x hv hx => ?_)
      · cases hf with
        | same hh => cases kf with
          | same h' => exact .same h'
          | yield h' => exact absurd rfl (hh _)
        | yield hh => cases kf with
          | same h' => exact absurd rfl (h' _)
          | yield h' => exact .yield (hn _ _ hh h')
      · have hi := (List.getElem?_eq_some_iff.1 hv).1
        rw [h1] at hi
        exact i3 i v _ hv (List.getElem?_eq_getElem hi) (k3 i _ x (List.getElem?_eq_getElem hi) hx)
      · have hi := (List.getElem?_eq_some_iff.1 hv).1
        rw [h2] at hi
        exact i4 i v _ hv (List.getElem?_eq_getElem hi) (k4 i _ x (List.getElem?_eq_getElem hi) hx)
  | iface t h1 ih => cases h with | iface _ h => exact .iface _ (ih h)
  | agg h1 h3 i3 => cases h with
    | agg k1 k3 =>
      refine .agg (h1.trans k1) (fun i v x hv hx => ?_)
      have hi := (List.getElem?_eq_some_iff.1 hv).1
      rw [h1] at hi
      exact i3 i v _ hv (List.getElem?_eq_getElem hi) (k3 i _ x (List.getElem?_eq_getElem hi) hx)
  | tuple h1 h3 i3 => cases h with
    | tuple k1 k3 =>
      refine .tuple (h1.trans k1) (fun i v x hv hx => ?_)
      have hi := (List.getElem?_eq_some_iff.1 hv).1
      rw [h1] at hi
      exact i3 i v _ hv (List.getElem?_eq_getElem hi) (k3 i _ x (List.getElem?_eq_getElem hi) hx)
  | slice0 l c => cases h with | slice0 _ _ hc => exact .slice0 _ _ hc
  | bool b => cases h; exact .bool b
  | int k n => cases h; exact .int k n
  | float k n => cases h; exact .float k n
  | complex k a b => cases h; exact .complex k a b
  | string s => cases h; exact .string s
  | ptr0 => cases h; exact .ptr0
  | map0 => cases h; exact .map0
  | nilFunc => cases h; exact .nilFunc
  | nilIface => cases h; exact .nilIface
  | chan c => cases h with
    | opq i => exact .opq i
    | any h => exact .any h
  | any hw h1 => exact .any (h.oneC hη h1)
/-- Values one by one. -/
theorem lr_dn (hη : OneCells η) {σ : Nat → Nat} {N : Nat} {wk : Bool} {ρs ρ : Env} (hn : ∀ r t, r < N → ρ (σ r) = some t → ρs r = some t) {l l' : List Value} (k : L2 (RV σ N wk) l l') {m : List Value} (h : LR η ρ l' m) : LR η ρs l m := by
  induction k generalizing m with
  | nil => have := h.inv_nil; subst this; exact .nil
  | cons a _ ih =>
    obtain ⟨x, m', rfl, h1, h2⟩ := h.inv_cons
    exact .cons (a.dn hη hn h1) (ih h2)
theorem lr_up {σ : Nat → Nat} {N : Nat} {ρs ρ : Env} (hn : ∀ r t, r < N → ρs r = some t → ρ (σ r) = some t) {l l' : List Value} (k : L2 (RV σ N false) l l') {m : List Value} (h : LR η ρs l m) : LR η ρ l' m := by
  induction k generalizing m with
  | nil => have := h.inv_nil; subst this; exact .nil
  | cons a _ ih =>
    obtain ⟨x, m', rfl, h1, h2⟩ := h.inv_cons
    exact .cons (a.up hn h1) (ih h2)
theorem L2.get' {α β : Type} {R : α → β → Prop} {l : List α} {m : List β} (k : L2 R l m) : ∀ {i : Nat} {b : β}, m[i]? = some b → ∃ a, l[i]? = some a ∧ R a b := by
  induction k with
  | nil => intro i a h; simp at h
  | cons h _ ih =>
    intro i a e
    cases i with
    | zero => simp at e; subst e; exact ⟨_, rfl, h⟩
    | succ i => exact ih (by simpa using e)
def RE (σ : Nat → Nat) (N : Nat) (wk : Bool) (e e' : MapEntry) : Prop := RV σ N wk e.key e'.key ∧ RV σ N wk e.val e'.val ∧ e.born = e'.born
/-- Blocks. -/
inductive RO (σ : Nat → Nat) (N : Nat) (wk : Bool) : AObj → AObj → Prop
  | cells (ty : TypeId) {c c' : List Value} (p : Bool) {own own' : Nat} (h : L2 (RV σ N wk) c c') (ho : own = own' ∨ (wk = true ∧ own = 0)) : RO σ N wk (.cells ty c p own) (.cells ty c' p own')
  | map {es es' : List MapEntry} (clock : Nat) {own own' : Bool} (h : L2 (RE σ N wk) es es') (ho : own = own' ∨ (wk = true ∧ own = false)) : RO σ N wk (.map es clock own) (.map es' clock own')
  | stringIter (s : ByteArray) (pos : Nat) : RO σ N wk (.stringIter s pos) (.stringIter s pos)
  | mapIter0 (since : Nat) (seen : List Nat) (last : Nat) : RO σ N wk (.mapIter none since seen last) (.mapIter none since seen last)
  | mapIter {m : Nat} (since : Nat) (seen : List Nat) (last : Nat) (h : m < N) : RO σ N wk (.mapIter (some m) since seen last) (.mapIter (some (σ m)) since seen last)
  | loop {st : LoopState} {pend : Option Code} {fn : FuncId} {tm tm' : T Value} {n : Nat} {ps : List Tmp} {asg body : Code} {ds : Nat} (hi : ∀ t, n ≤ t → tm.get t = none) (hi' : ∀ t, n ≤ t → tm'.get t = none) (ht : ∀ t, t < n → RV σ N wk ((tm.get t).getD undef) ((tm'.get t).getD undef)) (hd : ds < N) : RO σ N wk (.loop st pend fn tm n ps asg body ds) (.loop st pend fn tm' n ps asg body (σ ds))
  | deferred0 : RO σ N wk (.deferred none) (.deferred none)
  | deferred1 : RO σ N wk (.deferred (some [])) (.deferred (some []))
theorem RO.own {σ : Nat → Nat} {N : Nat} {wk : Bool} {a a' : AObj} (k : RO σ N wk a a') (h : ownO a = true) : ownO a' = true := by
  cases k with
  | cells ty p h1 ho => rcases ho with rfl | ⟨_, rfl⟩
                        · exact h
                        · simp [ownO] at h
  | map c h1 ho => rcases ho with rfl | ⟨_, rfl⟩
                   · exact h
                   · simp [ownO] at h
  | _ => rfl
theorem RO.own' {σ : Nat → Nat} {N : Nat} {a a' : AObj} (k : RO σ N false a a') (h : ownO a' = true) : ownO a = true := by
  cases k with
  | cells ty p h1 ho => rcases ho with rfl | ⟨h2, _⟩
                        · exact h
                        · cases h2
  | map c h1 ho => rcases ho with rfl | ⟨h2, _⟩
                   · exact h
                   · cases h2
  | _ => rfl
theorem RO.dn (hη : OneCells η) {σ : Nat → Nat} {N : Nat} {wk : Bool} {ρs ρ : Env} (hn : ∀ r t, r < N → ρ (σ r) = some t → ρs r = some t) {a a' : AObj} (k : RO σ N wk a a') {d n : Nat} {o : Obj} (h : OR η ρ a' d n o) : OR η ρs a d n o := by
  cases k with
  | cells ty p hc ho =>
    obtain ⟨C, t, lo, hi, e, q⟩ := h
    refine ⟨C, t, lo, hi, e, q.ty, q.size, hc.len ▸ q.len, fun i v hv => ?_, fun hp => ?_, fun h2 => ?_⟩
    · obtain ⟨v', h1, h2⟩ := hc.get hv
      obtain ⟨x, h3, h4⟩ := q.at_ i v' h1
      exact ⟨x, h3, h2.dn hη hn h4⟩
    · rw [hc.len]; exact q.plain hp
    · rcases ho with rfl | ⟨_, rfl⟩
      · exact q.free h2
      · cases h2
  | map c hc ho =>
    obtain ⟨E, e, q⟩ := h
    refine ⟨E, e, ?_⟩
    clear e
    generalize E.toList = l at q ⊢
    induction hc generalizing l with
    | nil => cases q; exact .nil
    | cons h1 _ ih => cases q with
      | cons h2 h3 => exact .cons ⟨h1.1.dn hη hn h2.1, h1.2.1.dn hη hn h2.2.1, h1.2.2.trans h2.2.2⟩ (ih _ h3)
  | stringIter s pos => exact h
  | mapIter0 since seen last =>
    obtain ⟨hd, m', e, q⟩ := h
    refine ⟨hd, m', e, ?_⟩
    cases m' with
    | none => exact q
    | some b => exact q
  | mapIter since seen last hm =>
    obtain ⟨hd, m', e, q⟩ := h
    refine ⟨hd, m', e, ?_⟩
    cases m' with
    | none => exact q
    | some b => obtain ⟨d, n, q⟩ := q; exact ⟨d, n, hn _ _ hm q⟩
  | loop hi hi' ht hd =>
    obtain ⟨l, e, a, b, c, t, f, g, i, dd, nn, k⟩ := h
    exact ⟨l, e, a, b, c, ⟨t.1, hi, fun i hi => (ht i hi).dn hη hn (t.2.2 i hi)⟩, f, g, i, dd, nn, hn _ _ hd k⟩
  | deferred0 =>
    obtain ⟨ds', e, q⟩ := h
    refine ⟨ds', e, ?_⟩
    cases ds' with
    | none => trivial
    | some m => exact q
  | deferred1 =>
    obtain ⟨ds', e, q⟩ := h
    refine ⟨ds', e, ?_⟩
    cases ds' with
    | none => exact q
    | some m => simp only at q ⊢; cases q; exact .nil
theorem RO.up {σ : Nat → Nat} {N : Nat} {ρs ρ : Env} (hn : ∀ r t, r < N → ρs r = some t → ρ (σ r) = some t) {a a' : AObj} (k : RO σ N false a a') {d n : Nat} {o : Obj} (h : OR η ρs a d n o) : OR η ρ a' d n o := by
  cases k with
  | cells ty p hc ho =>
    obtain ⟨C, t, lo, hi, e, q⟩ := h
    refine ⟨C, t, lo, hi, e, q.ty, q.size, hc.len ▸ q.len, fun i v hv => ?_, fun hp => ?_, fun h2 => ?_⟩
    · obtain ⟨v', h1, h2⟩ := hc.get' hv
      obtain ⟨x, h3, h4⟩ := q.at_ i v' h1
      exact ⟨x, h3, h2.up hn h4⟩
    · rw [← hc.len]; exact q.plain hp
    · rcases ho with rfl | ⟨h3, _⟩
      · exact q.free h2
      · cases h3
  | map c hc ho =>
    obtain ⟨E, e, q⟩ := h
    refine ⟨E, e, ?_⟩
    clear e
    generalize E.toList = l at q ⊢
    induction hc generalizing l with
    | nil => cases q; exact .nil
    | cons h1 _ ih => cases q with
      | cons h2 h3 => exact .cons ⟨h1.1.up hn h2.1, h1.2.1.up hn h2.2.1, h1.2.2.symm.trans h2.2.2⟩ (ih _ h3)
  | stringIter s pos => exact h
  | mapIter0 since seen last =>
    obtain ⟨hd, m', e, q⟩ := h
    refine ⟨hd, m', e, ?_⟩
    cases m' with
    | none => exact q
    | some b => exact q
  | mapIter since seen last hm =>
    obtain ⟨hd, m', e, q⟩ := h
    refine ⟨hd, m', e, ?_⟩
    cases m' with
    | none => exact q
    | some b => obtain ⟨d, n, q⟩ := q; exact ⟨d, n, hn _ _ hm q⟩
  | loop hi hi' ht hd =>
    obtain ⟨l, e, a, b, c, t, f, g, i, dd, nn, k⟩ := h
    exact ⟨l, e, a, b, c, ⟨t.1, hi', fun i hi => (ht i hi).up hn (t.2.2 i hi)⟩, f, g, i, dd, nn, hn _ _ hd k⟩
  | deferred0 =>
    obtain ⟨ds', e, q⟩ := h
    refine ⟨ds', e, ?_⟩
    cases ds' with
    | none => trivial
    | some m => exact q
  | deferred1 =>
    obtain ⟨ds', e, q⟩ := h
    refine ⟨ds', e, ?_⟩
    cases ds' with
    | none => exact q
    | some m => simp only at q ⊢; cases q; exact .nil
/-- A heap of fewer blocks, under names of its own, in another one. -/
structure Emb (P : Program) (σ : Nat → Nat) (hs h : AH) : Prop where
  glob : ∀ g, g ≤ P.globals.size → g < hs.next ∧ σ g = g
  obj : ∀ r a, hs.objs.get r = some a → r < hs.next ∧ ∃ a', h.objs.get (σ r) = some a' ∧ RO σ hs.next true a a'
  inj : ∀ r r' a a', hs.objs.get r = some a → hs.objs.get r' = some a' → σ r = σ r' → r = r'
def cut (σ : Nat → Nat) (N : Nat) (ρ : Env) : Env := fun r => if r < N then ρ (σ r) else none
theorem cut_dn {σ : Nat → Nat} {N : Nat} {ρ : Env} : ∀ r t, r < N → ρ (σ r) = some t → cut σ N ρ r = some t := by
  intro r t hr h; unfold cut; rw [if_pos hr]; exact h
theorem Emb.pre (hη : OneCells η) {σ : Nat → Nat} {hs h : AH} {ρ : Env} {w : World} (E : Emb P σ hs h) (p : Pre η P ρ B h w) : Pre η P (cut σ hs.next ρ) B hs w := by
  refine ⟨⟨fun r a hr => ?_, fun r r' a a' b d n d' n' h1 h2 e1 e2 => ?_⟩, fun r hr => ?_, fun g hg => ?_, p.low⟩
  · obtain ⟨hlt, a', h1, h2⟩ := E.obj r a hr
    obtain ⟨b, d, n, o, k1, k2, k3, k4⟩ := p.hr.obj _ a' h1
    exact ⟨b, d, n, o, cut_dn _ _ hlt k1, k2, h2.dn hη cut_dn k3, fun ho => k4 (h2.own ho)⟩
  · obtain ⟨l1, b1, g1, _⟩ := E.obj r a h1
    obtain ⟨l2, b2, g2, _⟩ := E.obj r' a' h2
    unfold cut at e1 e2
    rw [if_pos l1] at e1
    rw [if_pos l2] at e2
    exact E.inj r r' a a' h1 h2 (p.hr.inj _ _ _ _ b d n d' n' g1 g2 e1 e2)
  · unfold cut; rw [if_neg (by omega)]
  · obtain ⟨h1, h2⟩ := E.glob g hg
    obtain ⟨n, h3⟩ := p.glob g hg
    exact ⟨n, cut_dn _ _ h1 (by rw [h2]; exact h3)⟩
/-- What is owned in the smaller heap is owned in the bigger one. -/
theorem Emb.own {σ : Nat → Nat} {hs h : AH} {ρ : Env} {b : Nat} (E : Emb P σ hs h) (k : Own (cut σ hs.next ρ) hs b) : ∃ r1 a1 a1' d n, hs.objs.get r1 = some a1 ∧ ownO a1 = true ∧ h.objs.get (σ r1) = some a1' ∧ ownO a1' = true ∧ ρ (σ r1) = some (b, d, n) := by
  obtain ⟨r1, a1, d, n, h1, h2, h3⟩ := k
  obtain ⟨l1, a1', g1, g2⟩ := E.obj r1 a1 h1
  unfold cut at h3
  rw [if_pos l1] at h3
  exact ⟨r1, a1, a1', d, n, h1, h2, g1, g2.own h2, h3⟩
theorem Emb.own' {σ : Nat → Nat} {hs h : AH} {ρ : Env} {b : Nat} (E : Emb P σ hs h) (k : Own (cut σ hs.next ρ) hs b) : Own ρ h b := by
  obtain ⟨r1, a1, a1', d, n, h1, h2, h3, h4, h5⟩ := E.own k
  exact ⟨_, _, _, _, h3, h4, h5⟩
theorem Emb.nam {σ : Nat → Nat} {hs h : AH} {ρ : Env} {b : Nat} (E : Emb P σ hs h) (k : ∃ r a d n, hs.objs.get r = some a ∧ cut σ hs.next ρ r = some (b, d, n)) : ∃ r1 a1 a1' d n, hs.objs.get r1 = some a1 ∧ r1 < hs.next ∧ h.objs.get (σ r1) = some a1' ∧ ρ (σ r1) = some (b, d, n) := by
  obtain ⟨r1, a1, d, n, h1, h3⟩ := k
  obtain ⟨l1, a1', g1, g2⟩ := E.obj r1 a1 h1
  unfold cut at h3
  rw [if_pos l1] at h3
  exact ⟨r1, a1, a1', d, n, h1, l1, g1, h3⟩
/-- The names behind a call: those of before, and new ones. -/
def sg (σ : Nat → Nat) (ns n : Nat) : Nat → Nat := fun r => if r < ns then σ r else n + (r - ns)
/-- The bigger heap behind a call that was proved on the smaller one. -/
structure Framed (σ : Nat → Nat) (hs h hs' h' : AH) : Prop where
  next : h'.next = h.next + (hs'.next - hs.next)
  obj : ∀ r a, h'.objs.get r = some a →
    (∃ r0 a0, r0 < hs'.next ∧ sg σ hs.next h.next r0 = r ∧ hs'.objs.get r0 = some a0 ∧ RO (sg σ hs.next h.next) hs'.next false a0 a) ∨
    (h.objs.get r = some a ∧ ∀ r0 a0, hs.objs.get r0 = some a0 → σ r0 ≠ r) ∨
    (h.objs.get r = some a ∧ ∃ r0 a0 a1, r0 < hs.next ∧ σ r0 = r ∧ hs.objs.get r0 = some a0 ∧ ownO a0 = false ∧ hs'.objs.get r0 = some a1)
theorem Emb.post (hη : OneCells η) {σ : Nat → Nat} {hs h hs' h' : AH} {ρ ρs' : Env} {w w' : World} (E : Emb P σ hs h) (p : Pre η P ρ B h w) (q : Post η (cut σ hs.next ρ) B hs w ρs' hs' w') (F : Framed σ hs h hs' h') :
    ∃ ρ', Post η ρ B h w ρ' h' w' ∧ ∀ r t, r < hs'.next → ρs' r = some t → ρ' (sg σ hs.next h.next r) = some t := by
  have hnx := q.next
  let ρ' : Env := fun r => if r < h.next then ρ r else ρs' (hs.next + (r - h.next))
  have hold : ∀ r, r < h.next → ρ' r = ρ r := fun r hr => if_pos hr
  have hle : Env.le ρ ρ' := by
    intro r t hr
    have hlt : r < h.next := by
      rcases Nat.lt_or_ge r h.next with hl | hl
      · exact hl
      · rw [p.fresh r hl] at hr; cases hr
    rw [hold r hlt]; exact hr
  have hup : ∀ r t, r < hs'.next → ρs' r = some t → ρ' (sg σ hs.next h.next r) = some t := by
    intro r t hr ht
    unfold sg
    by_cases hlt : r < hs.next
    · rw [if_pos hlt]
      rw [q.old r hlt] at ht
      unfold cut at ht
      rw [if_pos hlt] at ht
      exact hle _ _ ht
    · rw [if_neg hlt]
      show (if h.next + (r - hs.next) < h.next then _ else _) = _
      rw [if_neg (by omega)]
      rw [show hs.next + (h.next + (r - hs.next) - h.next) = r by omega]
      exact ht
  -- a block of the bigger heap that the smaller one does not own is left as it was
  have hkeep : ∀ r a b d n o, h.objs.get r = some a → ρ r = some (b, d, n) → w.heap[b]? = some o → ((∀ r0 a0, hs.objs.get r0 = some a0 → σ r0 ≠ r) ∨ ∃ r0 a0 a1, r0 < hs.next ∧ σ r0 = r ∧ hs.objs.get r0 = some a0 ∧ ownO a0 = false ∧ hs'.objs.get r0 = some a1) → w'.heap[b]? = some o := by
    intro r a b d n o hr hρ hb hc
    rw [q.fr.kept b (heap_lt hb) ?_]; exact hb
    intro hown
    obtain ⟨r1, a1, a1', d1, n1, h1, h2, h3, h4, h5⟩ := E.own hown
    have e := p.hr.inj _ _ _ _ _ _ _ _ _ h3 hr h5 hρ
    rcases hc with hc | ⟨r0, a0, _, _, e0, g0, g1, _⟩
    · exact hc r1 a1 h1 e
    · have := E.inj r1 r0 a1 a0 h1 g0 (e.trans e0.symm)
      subst this
      rw [h1] at g0; cases g0
      rw [g1] at h2; cases h2
  -- what each name of the new heap stands for
  have himg : ∀ r0 a0, hs'.objs.get r0 = some a0 → r0 < hs'.next → ∀ r b d n, sg σ hs.next h.next r0 = r → ρ' r = some (b, d, n) → ρs' r0 = some (b, d, n) := by
    intro r0 a0 h0 hl r b d n e hb
    obtain ⟨b1, d1, n1, o1, k1, _⟩ := q.hr.obj r0 a0 h0
    have := hup r0 _ hl k1
    rw [e, hb] at this
    rw [k1]; exact this.symm
  refine ⟨ρ', ⟨hle, hold, fun r hr => ?_, by rw [F.next]; omega, ⟨fun r a hr => ?_, fun r r' a a' b d n d' n' hr hr' e e' => ?_⟩, ⟨q.fr.os, q.fr.tape, q.fr.output, q.fr.size, fun k hk hn => q.fr.kept k hk fun hq => hn (E.own' hq)⟩, ?_, ?_⟩, hup⟩
  · rw [F.next] at hr
    show (if r < h.next then _ else _) = _
    rw [if_neg (by omega)]
    exact q.fresh _ (by omega)
  · rcases F.obj r a hr with ⟨r0, a0, hl, e, h0, hro⟩ | ⟨h1, hc⟩ | ⟨h1, hc⟩
    · obtain ⟨b, d, n, o, k1, k2, k3, k4⟩ := q.hr.obj r0 a0 h0
      exact ⟨b, d, n, o, by rw [← e]; exact hup r0 _ hl k1, k2, hro.up hup k3, fun ho => k4 (hro.own' ho)⟩
    · obtain ⟨b, d, n, o, k1, k2, k3, k4⟩ := p.hr.obj r a h1
      exact ⟨b, d, n, o, hle _ _ k1, hkeep r a b d n o h1 k1 k2 (.inl hc), k3.mono hle, k4⟩
    · obtain ⟨b, d, n, o, k1, k2, k3, k4⟩ := p.hr.obj r a h1
      exact ⟨b, d, n, o, hle _ _ k1, hkeep r a b d n o h1 k1 k2 (.inr hc), k3.mono hle, k4⟩
  · have old1 : ∀ r a, h.objs.get r = some a → ρ' r = ρ r := fun r a hg => hold r (p.get_lt hg)
    -- an image and one that stayed
    have mixed : ∀ r0 a0 r r' a' b d n d' n', r0 < hs'.next → sg σ hs.next h.next r0 = r → hs'.objs.get r0 = some a0 → ρ' r = some (b, d, n) → h.objs.get r' = some a' → ρ' r' = some (b, d', n') → ((∀ r0 a0, hs.objs.get r0 = some a0 → σ r0 ≠ r') ∨ ∃ r0 a0 a1, r0 < hs.next ∧ σ r0 = r' ∧ hs.objs.get r0 = some a0 ∧ ownO a0 = false ∧ hs'.objs.get r0 = some a1) → r = r' := by
      intro r0 a0 r r' a' b d n d' n' hl e0 h0 e hr' e' hc
      have es := himg r0 a0 h0 hl r b d n e0 e
      rw [old1 r' a' hr'] at e'
      rcases hc with hc | ⟨r2, a2, a3, l2, e2, g2, _, g3⟩
      · rcases q.inn b ⟨r0, a0, d, n, h0, es⟩ with h1 | h1
        · obtain ⟨r1, a1, a1', d1, n1, k1, _, k2, k3⟩ := E.nam h1
          exact absurd (p.hr.inj _ _ _ _ _ _ _ _ _ k2 hr' k3 e') (hc r1 a1 k1)
        · obtain ⟨b2, _, _, o2, k1, k2, _⟩ := p.hr.obj r' a' hr'
          rw [e'] at k1; cases k1
          exact absurd (heap_lt k2) (by omega)
      · have e3 : ρs' r2 = some (b, d', n') := by
          rw [q.old r2 l2]; exact cut_dn _ _ l2 (by rw [e2]; exact e')
        have := q.hr.inj r0 r2 a0 a3 b d n d' n' h0 g3 es e3
        subst this
        rw [← e0, ← e2]
        unfold sg; rw [if_pos l2]
    rcases F.obj r a hr with ⟨r0, a0, hl, e0, h0, _⟩ | h1
    · rcases F.obj r' a' hr' with ⟨r0', a0', hl', e0', h0', _⟩ | h1'
      · have es := himg r0 a0 h0 hl r b d n e0 e
        have es' := himg r0' a0' h0' hl' r' b d' n' e0' e'
        have := q.hr.inj r0 r0' a0 a0' b d n d' n' h0 h0' es es'
        subst this
        rw [← e0, ← e0']
      · have ⟨g, hc⟩ : h.objs.get r' = some a' ∧ _ := h1'.elim (fun k => ⟨k.1, Or.inl k.2⟩) (fun k => ⟨k.1, Or.inr k.2⟩)
        exact mixed r0 a0 r r' a' b d n d' n' hl e0 h0 e g e' hc
    · have ⟨g, hc⟩ : h.objs.get r = some a ∧ ((∀ r0 a0, hs.objs.get r0 = some a0 → σ r0 ≠ r) ∨ ∃ r0 a0 a1, r0 < hs.next ∧ σ r0 = r ∧ hs.objs.get r0 = some a0 ∧ ownO a0 = false ∧ hs'.objs.get r0 = some a1) := h1.elim (fun k => ⟨k.1, Or.inl k.2⟩) (fun k => ⟨k.1, Or.inr k.2⟩)
      rcases F.obj r' a' hr' with ⟨r0', a0', hl', e0', h0', _⟩ | h1'
      · exact (mixed r0' a0' r' r a b d' n' d n hl' e0' h0' e' g e hc).symm
      · have g' : h.objs.get r' = some a' := h1'.elim (fun k => k.1) (fun k => k.1)
        rw [old1 r a g] at e
        rw [old1 r' a' g'] at e'
        exact p.hr.inj r r' a a' b d n d' n' g g' e e'
  · rintro b ⟨r, a, d, n, hr, ho, e⟩
    have old1 : ∀ r a, h.objs.get r = some a → ρ' r = ρ r := fun r a hg => hold r (p.get_lt hg)
    rcases F.obj r a hr with ⟨r0, a0, hl, e0, h0, hro⟩ | ⟨h1, _⟩ | ⟨h1, _⟩
    · have es := himg r0 a0 h0 hl r b d n e0 e
      rcases q.own b ⟨r0, a0, d, n, h0, hro.own' ho, es⟩ with k | k
      · exact .inl (E.own' k)
      · exact .inr k
    · exact .inl ⟨r, a, d, n, h1, ho, by rw [← old1 r a h1]; exact e⟩
    · exact .inl ⟨r, a, d, n, h1, ho, by rw [← old1 r a h1]; exact e⟩
  · rintro b ⟨r, a, d, n, hr, e⟩
    have old1 : ∀ r a, h.objs.get r = some a → ρ' r = ρ r := fun r a hg => hold r (p.get_lt hg)
    rcases F.obj r a hr with ⟨r0, a0, hl, e0, h0, hro⟩ | ⟨h1, _⟩ | ⟨h1, _⟩
    · have es := himg r0 a0 h0 hl r b d n e0 e
      rcases q.inn b ⟨r0, a0, d, n, h0, es⟩ with k | k
      · obtain ⟨r1, a1, a1', d1, n1, k1, _, k2, k3⟩ := E.nam k
        exact .inl ⟨_, _, _, _, k2, k3⟩
      · exact .inr k
    · exact .inl ⟨r, a, d, n, h1, by rw [← old1 r a h1]; exact e⟩
    · exact .inl ⟨r, a, d, n, h1, by rw [← old1 r a h1]; exact e⟩
/-- A contract proved on a smaller heap. -/
theorem CallSpec.frame (hη : OneCells η) {f : FuncId} {args args' : List Value} {hs h : AH} {σ : Nat → Nat} {Q1 Q : Value → AH → Prop} (c : CallSpec η P B f args hs Q1) (E : Emb P σ hs h) (ha : L2 (RV σ hs.next true) args args')
    (k : ∀ v hs', Q1 v hs' → hs.next ≤ hs'.next → ∃ v' h', Q v' h' ∧ RV (sg σ hs.next h.next) hs'.next false v v' ∧ Framed σ hs h hs' h') : CallSpec η P B f args' h Q := by
  intro ρ xs w cs l p
  obtain ⟨v, hs', ρs', fr', w', x, q1, q, hv, r⟩ := c (cut σ hs.next ρ) xs w cs (lr_dn hη cut_dn ha l) (E.pre hη p)
  obtain ⟨v', h', hq, hrv, F⟩ := k v hs' q1 q.next
  obtain ⟨ρ', hp, hup⟩ := E.post hη p q F
  exact ⟨v', h', ρ', fr', w', x, hq, hp, hrv.up hup hv, r⟩
end Go.Ev
