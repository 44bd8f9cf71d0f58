/- A state under other names, of which less is known: the way back into a loop's form. -/
import Derived.Test.YtangiefkpllnmaaGreatDoorEvFrame
namespace Go.Ev
set_option linter.unusedVariables false
set_option linter.unusedSimpArgs false
variable {η : Nat → Value} {P : Program} {B : Nat}
inductive RI (σ : Nat → Nat) (N : Nat) : Item → Item → Prop
  | code (c : Code) : RI σ N (.code c) (.code c)
  | inBlock (i : Nat) : RI σ N (.inBlock i) (.inBlock i)
  | inLoop (c : Code) : RI σ N (.inLoop c) (.inLoop c)
  | inScope (c : Code) : RI σ N (.inScope c) (.inScope c)
  | inRegion (ops : Array Oper) (l : List Nat) : RI σ N (.inRegion ops l) (.inRegion ops l)
  | inRangeFunc {l : Nat} (h : l < N) : RI σ N (.inRangeFunc l) (.inRangeFunc (σ l))
  | endRangeFunc {l : Nat} (h : l < N) : RI σ N (.endRangeFunc l) (.endRangeFunc (σ l))
  | beginRound : RI σ N .beginRound .beginRound
theorem ri_refl {σ : Nat → Nat} {N : Nat} : ∀ {l : List Item}, (l.all fun | .inRangeFunc _ | .endRangeFunc _ => false | .code _ | .inBlock _ | .inLoop _ | .inScope _ | .inRegion _ _ | .beginRound => true | _ => false) = true → L2 (RI σ N) l l
  | [], _ => .nil
  | x :: l, h => by
    simp only [List.all_cons, Bool.and_eq_true] at h
    refine .cons ?_ (ri_refl h.2)
    have h1 := h.1
    cases x <;> first | exact .code _ | exact .inBlock _ | exact .inLoop _ | exact .inScope _ | exact .inRegion _ _ | exact .beginRound | (simp at h1)
/-- Deferred calls: only what range loops collect. -/
inductive RDf (σ : Nat → Nat) (N : Nat) : Deferred → Deferred → Prop
  | coll {r : Nat} (h : r < N) : RDf σ N { target := .collected r, args := #[] } { target := .collected (σ r), args := #[] }
def RRo (σ : Nat → Nat) (N : Nat) : Option Nat → Option Nat → Prop
  | none, none => True
  | some r, some r' => r < N ∧ r' = σ r
  | _, _ => False
/-- Frames without deferred calls of their own. -/
structure RFr (σ : Nat → Nat) (N : Nat) (f f' : AF) : Prop where
  fn : f.fn = f'.fn
  n : f.n = f'.n
  hi : ∀ t, f.n ≤ t → f.tm.get t = none
  tm : ∀ t, t < f.n → RV σ N true ((f.tm.get t).getD undef) ((f'.tm.get t).getD undef)
  todo : L2 (RI σ N) f.todo f'.todo
  defers : L2 (RDf σ N) f.defers f'.defers
  mode : f.mode = f'.mode ∧ (f'.mode = .run ∨ f'.mode = .returning)
  kind : f.kind = f'.kind
  round : RRo σ N f.round f'.round
theorem RFr.dn (hη : OneCells η) {σ : Nat → Nat} {N : Nat} {ρs ρ : Env} (hn : ∀ r t, r < N → ρ (σ r) = some t → ρs r = some t) {f f' : AF} (k : RFr σ N f f') {fr : Frame} (F : FrR η ρ f' fr) : FrR η ρs f fr := by
  refine ⟨F.fn.trans k.fn.symm, ⟨F.tm.1.trans k.n.symm, k.hi, fun t ht => (k.tm t ht).dn hη hn (F.tm.2.2 t (by rw [← k.n]; exact ht))⟩, ?_, ?_, ?_, F.kind.trans k.kind.symm, ?_⟩
  · have key : ∀ {a b : List Item}, L2 (RI σ N) a b → ∀ {l : List Item}, L2 (ItR ρ) b l → L2 (ItR ρs) a l := by
      intro a b h2
      induction h2 with
      | nil => intro l h; cases h; exact .nil
      | cons a _ ih =>
        intro l h
        obtain ⟨y, m, rfl, h1, h2⟩ := h.inv_cons
        refine .cons ?_ (ih h2)
        cases a with
        | inRangeFunc hl => cases h1 with | inRangeFunc e => exact .inRangeFunc (hn _ _ hl e)
        | endRangeFunc hl => cases h1 with | endRangeFunc e => exact .endRangeFunc (hn _ _ hl e)
        | code c => cases h1; exact .code c
        | inBlock c => cases h1; exact .inBlock c
        | inLoop c => cases h1; exact .inLoop c
        | inScope c => cases h1; exact .inScope c
        | inRegion a b => cases h1; exact .inRegion a b
        | beginRound => cases h1; exact .beginRound
    exact key k.todo F.todo
  · have key : ∀ {a b : List Deferred}, L2 (RDf σ N) a b → ∀ {l : List Deferred}, L2 (DR η ρ) b l → L2 (DR η ρs) a l := by
      intro a b h2
      induction h2 with
      | nil => intro l h; cases h; exact .nil
      | cons a _ ih =>
        intro l h
        obtain ⟨y, m, rfl, h1, h2⟩ := h.inv_cons
        refine .cons ?_ (ih h2)
        cases a with
        | coll hr =>
          obtain ⟨ht, ha⟩ := h1
          obtain ⟨yt, ya⟩ := y
          refine ⟨?_, ?_⟩
          · cases yt <;> simp only [TgR] at ht ⊢
            obtain ⟨d, n, e⟩ := ht
            exact ⟨d, n, hn _ _ hr e⟩
          · simp only at ha ⊢
            have he : ya.toList = [] := LR.inv_nil ha
            rw [he]; exact .nil
    exact key k.defers F.defers
  · have h := F.mode
    rw [k.mode.1]
    rcases k.mode.2 with e | e
    · rw [e] at h ⊢
      generalize fr.mode = m at h
      cases h; exact .run
    · rw [e] at h ⊢
      generalize fr.mode = m at h
      cases h; exact .returning
  · have h := F.round
    have h2 := k.round
    generalize fr.roundOf = r at h
    generalize f'.round = r1 at h h2
    generalize f.round = r2 at h2
    cases r2 with
    | none => cases r1 with
      | none => cases r with
        | none => trivial
        | some b => exact h
      | some b => exact absurd h2 fun h => h
    | some x => cases r1 with
      | none => exact absurd h2 fun h => h
      | some y =>
        obtain ⟨hx, rfl⟩ := h2
        cases r with
        | none => exact h
        | some b => obtain ⟨d, n, e⟩ := h; exact ⟨d, n, hn _ _ hx e⟩
theorem rfr_dn (hη : OneCells η) {σ : Nat → Nat} {N : Nat} {ρs ρ : Env} (hn : ∀ r t, r < N → ρ (σ r) = some t → ρs r = some t) : ∀ {a b : List AF}, L2 (RFr σ N) a b → ∀ {l : List Frame}, L2 (FrR η ρ) b l → L2 (FrR η ρs) a l := by
  intro a b k
  induction k with
  | nil => intro l h; cases h; exact .nil
  | cons a _ ih =>
    intro l h
    obtain ⟨y, m, rfl, h1, h2⟩ := h.inv_cons
    exact .cons (a.dn hη hn h1) (ih h2)
/-- It is enough to go on from a state of which less is known. -/
theorem Run.ren (hη : OneCells η) {fn : FuncId} {h0 : AH} {f f' : AF} {gs gs' : List AF} {hs h : AH} {Q : Value → AH → Prop} (σ : Nat → Nat) (E : Emb P σ hs h) (hn : h0.next ≤ hs.next) (hσ : ∀ r, r < h0.next → σ r = r) (k : RFr σ hs.next f f') (kg : L2 (RFr σ hs.next) gs gs') (r : Run η P B fn h0 ⟨f, gs, hs⟩ Q) : Run η P B fn h0 ⟨f', gs', h⟩ Q := by
  intro ρ0 w0 ρ fr cs w cs0 p0 p R
  have hC : L2 (FrR η ρ) gs' cs := R.cs
  have hP : Pre η P ρ B h w := R.pre
  have hcs : L2 (FrR η (cut σ hs.next ρ)) gs cs := rfr_dn hη cut_dn kg hC
  have hP' := E.pre hη hP
  have hold : ∀ r, r < h0.next → cut σ hs.next ρ r = ρ0 r := by
    intro r hr
    unfold cut
    rw [if_pos (by omega), hσ r hr]
    exact p.old r hr
  refine r ρ0 w0 (cut σ hs.next ρ) fr cs w cs0 p0 ⟨?_, hold, hP'.fresh, hn, hP'.hr, p.fr, ?_, ?_⟩ ⟨k.dn hη cut_dn R.fr, hcs, hP'⟩
  · intro r t hr
    rcases Nat.lt_or_ge r h0.next with hl | hl
    · rw [hold r hl]; exact hr
    · rw [p0.fresh r hl] at hr; cases hr
  · intro b hb
    exact p.own b (E.own' hb)
  · rintro b hb
    obtain ⟨r1, a1, a1', d1, n1, k1, _, k2, k3⟩ := E.nam hb
    exact p.inn b ⟨_, _, _, _, k2, k3⟩
/-- The heap at the end: its garbage need not be told. -/
theorem CallSpec.forget (hη : OneCells η) {f : FuncId} {args : List Value} {h : AH} {Q1 Q : Value → AH → Prop} (c : CallSpec η P B f args h Q1)
    (k : ∀ v h1, Q1 v h1 → h.next ≤ h1.next → ∃ σ v' h', Q v' h' ∧ Emb P σ h' h1 ∧ h.next ≤ h'.next ∧ (∀ r, r < h.next → σ r = r) ∧ RV σ h'.next true v' v) : CallSpec η P B f args h Q := by
  intro ρ xs w cs l p
  obtain ⟨v, h1, ρ1, fr', w', x, q1, q, hv, r⟩ := c ρ xs w cs l p
  obtain ⟨σ, v', h', hq, E, hn, hσ, hrv⟩ := k v h1 q1 q.next
  have hP' := E.pre hη (p.post q)
  have hold : ∀ r, r < h.next → cut σ h'.next ρ1 r = ρ r := by
    intro r hr
    unfold cut
    rw [if_pos (by omega), hσ r hr]
    exact q.old r hr
  refine ⟨v', h', cut σ h'.next ρ1, fr', w', x, hq, ⟨?_, hold, hP'.fresh, hn, hP'.hr, q.fr, ?_, ?_⟩, hrv.dn hη cut_dn hv, r⟩
  · intro r t hr
    rcases Nat.lt_or_ge r h.next with hl | hl
    · rw [hold r hl]; exact hr
    · rw [p.fresh r hl] at hr; cases hr
  · intro b hb
    exact q.own b (E.own' hb)
  · rintro b hb
    obtain ⟨r1, a1, a1', d1, n1, k1, _, k2, k3⟩ := E.nam hb
    exact q.inn b ⟨_, _, _, _, k2, k3⟩
/-- A heap of which nothing is known but its names. -/
def heapN (n : Nat) : AH := { objs := .nil, next := n }
theorem emb_nil {P : Program} {σ : Nat → Nat} {N : Nat} {h : AH} (hN : P.globals.size < N) (hσ : ∀ g, g ≤ P.globals.size → σ g = g) : Emb P σ (heapN N) h :=
  ⟨fun g hg => ⟨(by show g < N; omega), hσ g hg⟩, (fun r a hr => by cases hr), (fun r r' a a' hr => by cases hr)⟩
/-- A call whose arguments and result hold no blocks: it is the same in each heap. -/
theorem CallSpec.pure (hη : OneCells η) {f : FuncId} {args : List Value} {N : Nat} {v : Value} (hN : P.globals.size < N) (ha : ∀ σ M, L2 (RV σ M true) args args) (hv : ∀ σ M, RV σ M false v v) (c : CallSpec η P B f args (heapN N) fun v1 h1 => v1 = v ∧ h1 = heapN N) (h : AH) :
    CallSpec η P B f args h fun v1 h1 => v1 = v ∧ h1 = h := by
  refine c.frame (σ := fun r => r) hη (emb_nil hN fun _ _ => rfl) (ha _ _) ?_
  rintro v1 hs' ⟨rfl, rfl⟩ _
  refine ⟨v1, h, ⟨rfl, rfl⟩, hv _ _, ⟨by simp [heapN], fun r a hr => .inr (.inl ⟨hr, fun r0 a0 h0 => by cases h0⟩)⟩⟩
end Go.Ev
