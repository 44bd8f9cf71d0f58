/- Where the evaluator begins: a heap of which nothing is known. -/
import Derived.Test.YtangiefkpllnmaaGreatDoorEvTop
namespace Go.Ev
set_option linter.unusedVariables false
set_option linter.unusedSimpArgs false
def heap0 (P : Program) : AH := { objs := .nil, next := P.globals.size + 1 }
def env0 (P : Program) : Env := fun r => if r ≤ P.globals.size then some (r, 0, 0) else none
theorem pre0 {η : Nat → Value} (P : Program) (w : World) : Pre η P (env0 P) w.heap.size (heap0 P) w := by
  refine ⟨⟨(fun r a h => by cases h), (fun r r' a a' b d n d' n' h => by cases h)⟩, fun r hr => ?_, fun g hg => ⟨0, ?_⟩, Nat.le_refl _⟩
  · have h : P.globals.size + 1 ≤ r := hr
    unfold env0; rw [if_neg (by omega)]
  · unfold env0; rw [if_pos hg]
def isTrue : Except String (Value × AH) → Bool
  | .ok (.bool true, _) => true
  | _ => false
theorem isTrue_ok {r : Except String (Value × AH)} (h : isTrue r = true) : ∃ h', r = .ok (.bool true, h') := by
  unfold isTrue at h
  split at h
  · exact ⟨_, rfl⟩
  · cases h
/-- A closed call that the evaluator ends in 'true', with nothing known of the memory. -/
theorem calls_true {P : Program} (hmix : P.follows .mixedOrders = true) {fuel depth : Nat} {f : FuncId} (h : isTrue (callA P fuel depth f [] (heap0 P)) = true) (w : World) :
    Calls P f #[] w fun e w' => e = .returned (.bool true) ∧ Go.RowKit.Below w.heap.size w w' := by
  obtain ⟨h', hc⟩ := isTrue_ok h
  exact callA_bool hmix hc (pre0 P w)
/-- Arguments that are not looked into. -/
def opq (n : Nat) : List Value := (List.range n).map fun i => .chan (some i)
theorem opq_rel {ρ : Env} (args : Array Value) : LR (fun i => args.toList.getD i .nilIface) ρ (opq args.size) args.toList := by
  refine ⟨by simp [opq], fun i v x hv hx => ?_⟩
  have hi : i < args.toList.length := (List.getElem?_eq_some_iff.1 hx).1
  have hv' : v = .chan (some i) := by
    have hi2 : i < args.size := hi
    simp only [opq, List.getElem?_map, List.getElem?_range hi2, Option.map_some] at hv
    exact (Option.some.inj hv).symm
  subst hv'
  have : x = (fun i => args.toList.getD i Value.nilIface) i := by simp [List.getD, hx]
  rw [this]
  exact .opq i
theorem calls_true_opq {P : Program} (hmix : P.follows .mixedOrders = true) {fuel depth : Nat} {f : FuncId} {args : Array Value} {n : Nat} (hn : args.size = n) (hone : ∀ x ∈ args.toList, x.oneCell' = true) (h : isTrue (callA P fuel depth f (opq n) (heap0 P)) = true) (w : World) :
    Calls P f args w fun e w' => e = .returned (.bool true) ∧ Go.RowKit.Below w.heap.size w w' := by
  obtain ⟨h', hc⟩ := isTrue_ok h
  subst hn
  have hη : OneCells fun i => args.toList.getD i Value.nilIface := by
    intro i
    show (args.toList.getD i Value.nilIface).oneCell' = true
    rw [List.getD]
    cases hx : args.toList[i]? with
    | none => rfl
    | some x => exact hone x (List.mem_of_getElem? hx)
  refine (callA_ok hη hmix hc (opq_rel args) (pre0 P w)).mono ?_
  rintro e w' ⟨ρ', x, rfl, hv, hp⟩
  exact ⟨by rw [hv.bool_inv], (pre0 (η := fun i => args.toList.getD i Value.nilIface) P w).hr.below hp.fr (Nat.le_refl _)⟩
end Go.Ev
