/- Calls on the evaluator's own states with data that are not known: the rules. -/
import Derived.Test.YtangiefkpllnmaaGreatDoorEvTop
namespace Go.Ev
set_option linter.unusedVariables false
set_option linter.unusedSimpArgs false
variable {η : Nat → Value} {P : Program} {B : Nat}
/-- A call that ends with a value and a heap of which Q holds. -/
def CallSpec (η : Nat → Value) (P : Program) (B : Nat) (f : FuncId) (args : List Value) (h : AH) (Q : Value → AH → Prop) : Prop :=
  ∀ (ρ : Env) (args' : Array Value) (w : World) (cs : List Frame), LR η ρ args args'.toList → Pre η P ρ B h w →
    ∃ v h' ρ' fr' w' x, Q v h' ∧ Post η ρ B h w ρ' h' w' ∧ VR η ρ' v x ∧ fr'.fn = f ∧ fr'.leaving P w' (.returned x) ∧ Steps P (lone (Frame.enter P f args' .normal) cs w) (lone fr' cs w')
/-- From a state on, the call of fn that began with the heap h0 ends so. -/
def Run (η : Nat → Value) (P : Program) (B : Nat) (fn : FuncId) (h0 : AH) (s : AS) (Q : Value → AH → Prop) : Prop :=
  ∀ (ρ0 : Env) (w0 : World) (ρ : Env) (fr : Frame) (cs : List Frame) (w : World) (cs0 : List Frame), Pre η P ρ0 B h0 w0 → Post η ρ0 B h0 w0 ρ s.hp w → SR η P ρ B s fr cs w →
    ∃ v h' ρ' fr' w' x, Q v h' ∧ Post η ρ0 B h0 w0 ρ' h' w' ∧ VR η ρ' v x ∧ fr'.fn = fn ∧ fr'.leaving P w' (.returned x) ∧ Steps P (lone fr (cs ++ cs0) w) (lone fr' cs0 w')
theorem CallSpec.mono {f : FuncId} {args : List Value} {h : AH} {Q Q' : Value → AH → Prop} (c : CallSpec η P B f args h Q) (k : ∀ v h', Q v h' → Q' v h') : CallSpec η P B f args h Q' := by
  intro ρ args' w cs l p
  obtain ⟨v, h', ρ', fr', w', x, q, r⟩ := c ρ args' w cs l p
  exact ⟨v, h', ρ', fr', w', x, k _ _ q, r⟩
theorem Run.mono {fn : FuncId} {h0 : AH} {s : AS} {Q Q' : Value → AH → Prop} (c : Run η P B fn h0 s Q) (k : ∀ v h', Q v h' → Q' v h') : Run η P B fn h0 s Q' := by
  intro ρ0 w0 ρ fr cs w cs0 p0 p r
  obtain ⟨v, h', ρ', fr', w', x, q, r⟩ := c ρ0 w0 ρ fr cs w cs0 p0 p r
  exact ⟨v, h', ρ', fr', w', x, k _ _ q, r⟩
theorem CallSpec.enter {f : FuncId} {args : List Value} {h : AH} {fr : AF} {Q : Value → AH → Prop} (he : enterA P f args .normal = .ok fr) (r : Run η P B f h ⟨fr, [], h⟩ Q) : CallSpec η P B f args h Q := by
  intro ρ args' w cs l p
  exact r ρ w ρ (Frame.enter P f args' .normal) [] w cs p (.refl p) ⟨enter_ok he l, .nil, p⟩
theorem Run.step (hη : OneCells η) {nest : Nest} (hreg : RegOk η P B nest) {fn : FuncId} {h0 : AH} {s s' : AS} {Q : Value → AH → Prop} (hs : stepA P nest s = .ok (.next s')) (r : Run η P B fn h0 s' Q) : Run η P B fn h0 s Q := by
  intro ρ0 w0 ρ fr cs w cs0 p0 p R
  rcases stepA_ok (cs0 := cs0) hη hreg R hs with ⟨s2, he, ρ1, fr1, cs1, w1, k1, k2, k3⟩ | ⟨v2, he, _⟩
  · injection he with he; subst he
    obtain ⟨v, h', ρ', fr', w', x, q, l1, l2, l3, l4, l5⟩ := r ρ0 w0 ρ1 fr1 cs1 w1 cs0 p0 (p.trans k2) k1
    exact ⟨v, h', ρ', fr', w', x, q, l1, l2, l3, l4, k3.trans l5⟩
  · cases he
theorem Run.done (hη : OneCells η) {nest : Nest} (hreg : RegOk η P B nest) {fn : FuncId} {h0 h' : AH} {s : AS} {v : Value} {Q : Value → AH → Prop} (hs : stepA P nest s = .ok (.done fn v h')) (q : Q v h') : Run η P B fn h0 s Q := by
  intro ρ0 w0 ρ fr cs w cs0 p0 p R
  rcases stepA_ok (cs0 := cs0) hη hreg R hs with ⟨s2, he, _⟩ | ⟨v2, he, hcs, x, hx, hl⟩
  · cases he
  · injection he with e1 e2 e3; subst e1; subst e2; subst e3
    have hc := R.cs
    rw [hcs] at hc
    have := hc.inv_nil; subst this
    exact ⟨v, s.hp, ρ, fr, w, x, q, p, hx, R.fr.fn, hl, .refl _ _⟩
/-- Some steps at once. -/
def runN' (P : Program) (nest : Nest) : Nat → AS → M AS
  | 0, s => .ok s
  | n + 1, s => match stepA P nest s with
    | .ok (.next s) => runN' P nest n s
    | .ok (.done ..) => no "done"
    | .error e => .error e
theorem Run.steps (hη : OneCells η) {nest : Nest} (hreg : RegOk η P B nest) {fn : FuncId} {h0 : AH} {Q : Value → AH → Prop} {s' : AS} : ∀ (n : Nat) {s : AS}, runN' P nest n s = .ok s' → Run η P B fn h0 s' Q → Run η P B fn h0 s Q
  | 0, s, hs, r => by rw [runN', okk] at hs; subst hs; exact r
  | n + 1, s, hs, r => by
    rw [runN'] at hs
    split at hs
    · rename_i s1 h1; exact .step hη hreg h1 (Run.steps hη hreg n hs r)
    · simp [no] at hs
    · cases hs
/-- A call by its contract. -/
theorem Run.call (hη : OneCells η) {fn g : FuncId} {args : List Value} {h0 h1 : AH} {s : AS} {ops : Array Oper} {i : Nat} {rest : List Nat} {k : List Item} {o : Oper} {Q1 Q : Value → AH → Prop} (hm : s.fr.mode = .run) (ht : s.fr.todo = .inRegion ops (i :: rest) :: k) (ho : ops.toList[i]? = some o)
    (hw : wantedA ops.toList s.fr.tm o = .ok true) (hx : execA P (evA s.fr.tm) o s.hp = .ok (.enter g args, h1)) (hc : CallSpec η P B g args h1 Q1) (r : ∀ v h', Q1 v h' → ∃ f2, s.fr.finish v = .ok f2 ∧ Run η P B fn h0 ⟨f2, s.cs, h'⟩ Q) : Run η P B fn h0 s Q := by
  intro ρ0 w0 ρ fr cs w cs0 p0 p R
  obtain ⟨f, acs, hp⟩ := s
  simp only at hm ht hw hx r p
  have F := R.fr
  have hC := R.cs
  have hP := R.pre
  simp only at F hC hP
  have hmode : fr.mode = .run := by
    have h := F.mode
    rw [hm] at h
    generalize fr.mode = m at h
    cases h; rfl
  obtain ⟨k', htodo, hk⟩ : ∃ k', fr.todo = .inRegion ops (i :: rest) :: k' ∧ L2 (ItR ρ) k k' := by
    have h := F.todo
    rw [ht] at h
    obtain ⟨y, k', e, hy, hk⟩ := h.inv_cons
    cases hy
    exact ⟨k', e, hk⟩
  have ho' : ops[i]? = some o := by rw [← Array.getElem?_toList]; exact ho
  have hwant := wanted_ok (ops := ops) F.tm hw
  have hE := execA_ok (w := w) hη hP (o := o) (σ := evA f.tm) (τ := fr.eval) (fun x hx => evA_ok hP.glob F.tm hx) hx
  obtain ⟨ρ1, w1, ⟨xs, hu, hl⟩, hpost⟩ := hE
  have hP1 := hP.post hpost
  obtain ⟨v, h', ρ2, fr2, w2, u, q1, hp2, hv2, _, hleave, hst⟩ := hc ρ1 xs w1 (fr :: (cs ++ cs0)) hl hP1
  obtain ⟨f2, hf2, r2⟩ := r v h' q1
  have hle := Env.le_trans hpost.le hp2.le
  have F2 := finish_ok hf2 (F.mono hle) hv2
  have hd : ∀ c, o.op ≠ .defer c := by
    intro c hcc
    unfold execA at hx
    rw [ite_no] at hx
    have hx := hx.2
    simp only [hcc, kindOf, effA, bind_ok] at hx
    obtain ⟨⟨t, as⟩, _, hx⟩ := hx
    rw [okk] at hx; injection hx with e1 e2; cases e1
  obtain ⟨v', h2, ρ', fr', w', x, q, l1, l2, l3, l4, l5⟩ := r2 ρ0 w0 ρ2 (fr.finish u) cs w2 cs0 p0 (p.trans (hpost.trans hp2)) ⟨F2, L2.map_mono hle hC, hP1.post hp2⟩
  refine ⟨v', h2, ρ', fr', w', x, q, l1, l2, l3, l4, ?_⟩
  have hnc : notCall fr := fun d b r s k hh => by rw [htodo] at hh; cases hh
  refine ((one_go (fr' := Frame.enter P g xs .normal) (cs' := fr :: (cs ++ cs0)) (w' := w1) ?_).trans (hst.trans (.one ?_))).trans l5
  · rw [stepG_region hmode htodo ho' hwant (.inr hd), apply_enter hnc hu]
  · rw [step_leave_returned hleave]
/-- The contract as the kit knows it. -/
theorem CallSpec.calls {f : FuncId} {args : List Value} {args' : Array Value} {h : AH} {ρ : Env} {w : World} {Q : Value → AH → Prop} (c : CallSpec η P B f args h Q) (hl : LR η ρ args args'.toList) (p : Pre η P ρ B h w) :
    Calls P f args' w fun e w' => ∃ v h' ρ' x, e = .returned x ∧ Q v h' ∧ VR η ρ' v x ∧ Post η ρ B h w ρ' h' w' := by
  intro cs
  obtain ⟨v, h', ρ', fr', w', x, q, k1, k2, k3, k4, k5⟩ := c ρ args' w cs hl p
  exact ⟨.returned x, w', fr', ⟨v, h', ρ', x, rfl, q, k2, k1⟩, k5, k3, k4⟩
/-- A contract that says exactly what comes out, for the regions in any order. -/
theorem NestOk.of {nest : Nest} (k : ∀ f args h v h', nest f args h = .ok (v, h') → CallSpec η P B f args h fun v1 h1 => v1 = v ∧ h1 = h') : NestOk η P B nest := by
  intro f args h h' v hn ρ args' w cs l p
  obtain ⟨v1, h1, ρ', fr', w', x, ⟨e1, e2⟩, r⟩ := k f args h v h' hn ρ args' w cs l p
  subst e1; subst e2
  exact ⟨ρ', fr', w', x, r⟩
def noNest : Nest := fun _ _ _ => no "a call in a region of any order"
theorem noNest_ok : NestOk η P B noNest := by
  intro f args h h' v hn; simp [noNest, no] at hn
theorem reg0 (hη : OneCells η) (hmix : P.follows .mixedOrders = true) : RegOk η P B noNest := regionA_ok hη hmix noNest_ok
/-- A closed call that the evaluator ends is a contract. -/
theorem CallSpec.eval (hη : OneCells η) (hmix : P.follows .mixedOrders = true) {fuel depth : Nat} {f : FuncId} {args : List Value} {h h' : AH} {v : Value} (hc : callA P fuel depth f args h = .ok (v, h')) : CallSpec η P B f args h fun v1 h1 => v1 = v ∧ h1 = h' := by
  intro ρ args' w cs l p
  obtain ⟨ρ', fr', w', x, r⟩ := nestA_ok hη hmix fuel (depth + 1) f args h h' v hc ρ args' w cs l p
  exact ⟨v, h', ρ', fr', w', x, ⟨rfl, rfl⟩, r⟩
end Go.Ev
namespace Go.Ev
variable {η : Nat → Value} {P : Program} {B : Nat}
/-- Where the walk stops: a condition, a loop, a call, the end. -/
def stopAt (s : AS) : Bool :=
  match s.fr.mode, s.fr.todo with
  | .run, .code (.cond _ _ _) :: _ => true
  | .run, .code (.loop _) :: _ => true
  | .run, .inLoop _ :: _ => true
  | .run, .inRegion ops (i :: _) :: _ => match ops.toList[i]? with
    | some { op := .call { callee := .builtin _, .. }, .. } => false
    | some { op := .call _, .. } => true
    | _ => false
  | .run, _ => false
  | _, _ => true
/-- One step, and on to where the walk stops. -/
def runTo (P : Program) (nest : Nest) : Nat → AS → M AS
  | 0, _ => no "fuel"
  | n + 1, s => match stepA P nest s with
    | .ok (.next s) => if stopAt s then .ok s else runTo P nest n s
    | .ok (.done ..) => no "done"
    | .error e => .error e
theorem Run.to (hη : OneCells η) {nest : Nest} (hreg : RegOk η P B nest) {fn : FuncId} {h0 : AH} {Q : Value → AH → Prop} {s' : AS} : ∀ (n : Nat) {s : AS}, runTo P nest n s = .ok s' → Run η P B fn h0 s' Q → Run η P B fn h0 s Q
  | 0, s, hs, r => by simp [runTo, no] at hs
  | n + 1, s, hs, r => by
    rw [runTo] at hs
    split at hs
    · rename_i s1 h1
      split at hs
      · rw [okk] at hs; subst hs; exact .step hη hreg h1 r
      · exact .step hη hreg h1 (Run.to hη hreg n hs r)
    · simp [no] at hs
    · cases hs
/-- The same, so that `cbv at` can compute it. -/
theorem Run.go (hη : OneCells η) {nest : Nest} (hreg : RegOk η P B nest) {fn : FuncId} {h0 : AH} {Q : Value → AH → Prop} {s : AS} (n : Nat) (k : ∀ X, runTo P nest n s = X → ∃ s', X = .ok s' ∧ Run η P B fn h0 s' Q) : Run η P B fn h0 s Q := by
  obtain ⟨s', h1, h2⟩ := k _ rfl
  exact .to hη hreg n h1 h2
theorem Run.fin (hη : OneCells η) {nest : Nest} (hreg : RegOk η P B nest) {fn : FuncId} {h0 : AH} {Q : Value → AH → Prop} {s : AS} (k : ∀ X, stepA P nest s = X → ∃ v h', X = .ok (.done fn v h') ∧ Q v h') : Run η P B fn h0 s Q := by
  obtain ⟨v, h', h1, h2⟩ := k _ rfl
  exact .done hη hreg h1 h2
theorem CallSpec.go {f : FuncId} {args : List Value} {h : AH} {Q : Value → AH → Prop} (k : ∀ X, enterA P f args .normal = X → ∃ fr, X = .ok fr ∧ Run η P B f h ⟨fr, [], h⟩ Q) : CallSpec η P B f args h Q := by
  obtain ⟨fr, h1, h2⟩ := k _ rfl
  exact .enter h1 h2
/-- A condition. -/
theorem Run.cond (hη : OneCells η) {nest : Nest} (hreg : RegOk η P B nest) {fn : FuncId} {h0 : AH} {Q : Value → AH → Prop} {fr : AF} {cs : List AF} {h : AH} {c : Operand} {thn els : Code} {k : List Item} {b : Bool} (hm : fr.mode = .run) (ht : fr.todo = .code (.cond c thn els) :: k) (hb : evA fr.tm c = .bool b)
    (h1 : b = true → Run η P B fn h0 ⟨{ fr with todo := .code thn :: k }, cs, h⟩ Q) (h2 : b = false → Run η P B fn h0 ⟨{ fr with todo := .code els :: k }, cs, h⟩ Q) : Run η P B fn h0 ⟨fr, cs, h⟩ Q := by
  have hs : stepA P nest ⟨fr, cs, h⟩ = .ok (.next ⟨{ fr with todo := .code (if b then thn else els) :: k }, cs, h⟩) := by
    unfold stepA
    simp only [hm, ht, hb]
  refine .step hη hreg hs ?_
  cases b with
  | true => exact h1 rfl
  | false => exact h2 rfl
end Go.Ev
namespace Go.Ev
/-- A part of a code by its way from the top. -/
def codeAt : Code → List Nat → Code
  | .seq a b, n :: p => codeAt (if n = 0 then a else b) p
  | .cond _ a b, n :: p => codeAt (if n = 0 then a else b) p
  | .block _ a, _ :: p => codeAt a p
  | .loop a, _ :: p => codeAt a p
  | .scope a, _ :: p => codeAt a p
  | .rangeFunc _ _ a b, n :: p => codeAt (if n = 0 then a else b) p
  | c, _ => c
def opsAt (c : Code) (p : List Nat) : Array Oper :=
  match codeAt c p with
  | .region _ ops _ => ops
  | _ => #[]
def tmL : List (Nat × Value) → T Value
  | [] => .nil
  | (t, v) :: l => (tmL l).set t v
end Go.Ev
