/- Where the evaluator begins: a heap of which nothing is known. -/
import Derived.Test.YtmjlonnddieehabEvTop
namespace Go.Ev
set_option linter.unusedVariables false
set_option linter.unusedSimpArgs false
def heap0 (P : Program) : AH := { objs := .nil, next := P.globals.size + 1 }
def env0 (P : Program) : Env := fun r => if r < P.globals.size then some (r, 0, 0) else none
theorem pre0 (P : Program) (w : World) : Pre (fun _ => .nilIface) P (env0 P) w.heap.size (heap0 P) w := by
  refine ⟨⟨(fun r a h => by cases h), (fun r r' a a' b d n d' n' h => by cases h)⟩, fun r hr => ?_, fun g hg => ⟨0, ?_⟩, Nat.le_refl _⟩
  · have h : P.globals.size + 1 ≤ r := hr
    unfold env0; rw [if_neg (by omega)]
  · unfold env0; rw [if_pos hg]
def isTrue : Except String (Value × AH) → Bool
  | .ok (.bool true, _) => true
  | _ => false
theorem isTrue_ok {r : Except String (Value × AH)} (h : isTrue r = true) : ∃ h', r = .ok (.bool true, h') := by
  unfold isTrue at h
  split at h
  · exact ⟨_, rfl⟩
  · cases h
/-- A closed call that the evaluator ends in 'true', with nothing known of the memory. -/
theorem calls_true {P : Program} (hmix : P.follows .mixedOrders = true) {fuel depth : Nat} {f : FuncId} (h : isTrue (callA P fuel depth f [] (heap0 P)) = true) (w : World) :
    Calls P f #[] w fun e w' => e = .returned (.bool true) ∧ Go.RowKit.Below w.heap.size w w' := by
  obtain ⟨h', hc⟩ := isTrue_ok h
  exact callA_bool hmix hc (pre0 P w)
end Go.Ev
