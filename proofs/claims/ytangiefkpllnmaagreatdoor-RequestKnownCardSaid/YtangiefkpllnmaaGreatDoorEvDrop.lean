/- Long closed runs in parts: between two of them the blocks that nothing names are left out. -/
import Derived.Test.YtangiefkpllnmaaGreatDoorEvRule2
import Derived.Test.YtangiefkpllnmaaGreatDoorEvStart
namespace Go.Ev
set_option linter.unusedVariables false
set_option linter.unusedSimpArgs false
variable {η : Nat → Value} {P : Program} {B : Nat}
def keepT (t : T AObj) : List Nat → T AObj
  | [] => .nil
  | r :: l => match t.get r with
    | some a => (keepT t l).set r a
    | none => keepT t l
theorem keepT_get {t : T AObj} : ∀ {l : List Nat} {r : Nat} {a : AObj}, (keepT t l).get r = some a → t.get r = some a
  | [], r, a, h => by simp [keepT, T.get] at h
  | k :: l, r, a, h => by
    unfold keepT at h
    split at h
    · rename_i b hb
      rw [T.get_set] at h
      by_cases e : r = k
      · rw [if_pos e] at h; cases h; rw [e]; exact hb
      · rw [if_neg e] at h; exact keepT_get h
    · exact keepT_get h
def chunk (P : Program) (nest : Nest) (n : Nat) (live : List Nat) (s : AS) : M AS :=
  match runN' P nest n s with
  | .ok s => .ok ⟨s.fr, s.cs, ⟨keepT s.hp.objs live, s.hp.next⟩⟩
  | .error e => .error e
theorem Pre.drop {ρ : Env} {h : AH} {w : World} (p : Pre η P ρ B h w) {o : T AObj} (hs : ∀ r a, o.get r = some a → h.objs.get r = some a) : Pre η P ρ B ⟨o, h.next⟩ w :=
  ⟨⟨fun r a g => p.hr.obj r a (hs r a g), fun r r' a a' b d n d' n' h1 h2 => p.hr.inj r r' a a' b d n d' n' (hs _ _ h1) (hs _ _ h2)⟩, p.fresh, p.glob, p.low⟩
theorem Post.drop {ρ ρ' : Env} {h h' : AH} {w w' : World} (p : Post η ρ B h w ρ' h' w') {o : T AObj} (hs : ∀ r a, o.get r = some a → h'.objs.get r = some a) : Post η ρ B h w ρ' ⟨o, h'.next⟩ w' :=
  ⟨p.le, p.old, p.fresh, p.next, ⟨fun r a g => p.hr.obj r a (hs r a g), fun r r' a a' b d n d' n' h1 h2 => p.hr.inj r r' a a' b d n d' n' (hs _ _ h1) (hs _ _ h2)⟩, p.fr, fun b ⟨r, a, d, n, h1, h2⟩ => p.own b ⟨r, a, d, n, hs _ _ h1, h2⟩, fun b ⟨r, a, d, n, h1, h2⟩ => p.inn b ⟨r, a, d, n, hs _ _ h1, h2⟩⟩
theorem Run.drop {fn : FuncId} {h0 h : AH} {f : AF} {cs : List AF} {Q : Value → AH → Prop} {o : T AObj} (hs : ∀ r a, o.get r = some a → h.objs.get r = some a) (r : Run η P B fn h0 ⟨f, cs, ⟨o, h.next⟩⟩ Q) : Run η P B fn h0 ⟨f, cs, h⟩ Q := by
  intro ρ0 w0 ρ fr cs' w cs0 p0 p R
  exact r ρ0 w0 ρ fr cs' w cs0 p0 (p.drop hs) ⟨R.fr, R.cs, R.pre.drop hs⟩
theorem Run.chunk (hη : OneCells η) {nest : Nest} (hreg : RegOk η P B nest) {fn : FuncId} {h0 : AH} {Q : Value → AH → Prop} {s s' : AS} {n : Nat} {live : List Nat} (hs : chunk P nest n live s = .ok s') (r : Run η P B fn h0 s' Q) : Run η P B fn h0 s Q := by
  unfold Ev.chunk at hs
  split at hs
  · rename_i s1 h1
    rw [okk] at hs; subst hs
    exact .steps hη hreg n h1 (.drop (fun _ _ => keepT_get) r)
  · cases hs
def doneTrue (P : Program) (nest : Nest) (fn : FuncId) (s : AS) : Bool :=
  match stepA P nest s with
  | .ok (.done f (.bool true) _) => f == fn
  | _ => false
theorem Run.doneTrue (hη : OneCells η) {nest : Nest} (hreg : RegOk η P B nest) {fn : FuncId} {h0 : AH} {s : AS} (h : doneTrue P nest fn s = true) : Run η P B fn h0 s fun v _ => v = .bool true := by
  unfold Ev.doneTrue at h
  split at h
  · rename_i f h' hs
    rw [beq_iff_eq] at h; subst h
    exact .done hη hreg hs rfl
  · cases h
/-- The contract of a closed call that ends in 'true', as the kit knows it. -/
theorem CallSpec.true0 {f : FuncId} (c : ∀ (B : Nat), CallSpec (fun _ => .nilIface) P B f [] (heap0 P) fun v _ => v = .bool true) (w : World) :
    Calls P f #[] w fun e w' => e = .returned (.bool true) ∧ Go.RowKit.Below w.heap.size w w' := by
  have p := pre0 (η := fun _ => .nilIface) P w
  refine ((c w.heap.size).calls .nil p).mono ?_
  rintro e w' ⟨v, h', ρ', x, rfl, rfl, hv, hp⟩
  exact ⟨by rw [hv.bool_inv], p.hr.below hp.fr p.low⟩
end Go.Ev
