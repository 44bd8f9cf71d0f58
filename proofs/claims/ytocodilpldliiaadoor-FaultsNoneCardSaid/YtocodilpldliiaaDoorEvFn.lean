import Derived.Test.YtocodilpldliiaaDoorEvFnP
import Derived.Test.YtocodilpldliiaaDoorEvWr
namespace Go.Ev
set_option linter.unusedVariables false
set_option linter.unusedSimpArgs false
open Go Go.Proofs
variable {η : Nat → Value} {B : Nat}
theorem fn_ok (hη : OneCells η) (hmix : Tryd.prog.follows .mixedOrders = true) (op : List UInt8) (kd bk cn kind : Int) :
    CallSpec η Tryd.prog B 3 [.agg ⟨[.int .i64 kd, .string ⟨⟨op⟩⟩, .int .i64 bk, .int .i64 cn]⟩, .int .i64 kind] (heapL Tryd.prog FN.tab) (fun v _ => v = .bool true) := by
  have hreg : RegOk η Tryd.prog B nestN := regionA_ok hη hmix (nestN_ok hη hmix)
  have e : heapL Tryd.prog FN.tab = FNone.H0 op kd bk cn kind := by kernel_rfl
  rw [e]
  have h6 := FNone.cut6 (D := fun v _ => v = .bool true) hη hmix hreg op kd bk cn kind (by simp only [W.holds, true_and, and_true, implies_true])
  have h5 := FNone.cut5 (D := fun v _ => v = .bool true) hη hmix hreg op kd bk cn kind (by simp only [W.holds, true_and, and_true, implies_true]; exact fun _ => h6)
  have h4 := FNone.cut4 (D := fun v _ => v = .bool true) hη hmix hreg op kd bk cn kind (by simp only [W.holds, true_and, and_true, implies_true]; exact ⟨fun _ => ⟨fun _ _ => h5, fun _ _ => h5⟩, fun _ _ => h5⟩)
  have h3 := FNone.cut3 (D := fun v _ => v = .bool true) hη hmix hreg op kd bk cn kind (by simp only [W.holds, true_and, and_true, implies_true]; exact ⟨fun _ => ⟨fun _ _ => h4, fun _ _ => h4⟩, fun _ _ => h4⟩)
  have h2 := FNone.cut2 (D := fun v _ => v = .bool true) hη hmix hreg op kd bk cn kind (by simp only [W.holds, true_and, and_true, implies_true]; exact ⟨fun _ => ⟨fun _ _ => h3, fun _ _ => h3⟩, fun _ _ => h3⟩)
  have h1 := FNone.cut1 (D := fun v _ => v = .bool true) hη hmix hreg op kd bk cn kind (by simp only [W.holds, true_and, and_true, implies_true]; exact ⟨fun _ => ⟨fun _ _ => h2, fun _ _ => h2⟩, fun _ _ => h2⟩)
  have h0 := FNone.cut0 (D := fun v _ => v = .bool true) hη hmix hreg op kd bk cn kind (by simp only [W.holds, true_and, and_true, implies_true]; exact ⟨fun _ => ⟨fun _ _ => h1, fun _ _ => h1⟩, fun _ _ => h1⟩)
  refine FNone.enter (D := fun v _ => v = .bool true) hη hmix hreg op kd bk cn kind ?_
  simp only [W.holds, true_and, and_true, implies_true]
  exact fun _ _ => h0
end Go.Ev
