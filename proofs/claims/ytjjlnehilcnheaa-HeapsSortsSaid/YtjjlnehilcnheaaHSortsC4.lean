/- HSortsC, part 4: what the proof needs, in the order of its texts. -/
import Derived.Test.YtjjlnehilcnheaaHSortsC3
import Derived.Test.YtjjlnehilcnheaaProg
import Derived.KernelRfl
import Derived.Deep.Slices
import Derived.ChangeArms
import Derived.WideShapes
import Derived.ChangeSame
import Derived.SizedLaws
namespace Go.Ev
set_option linter.unusedVariables false
set_option linter.unusedSimpArgs false
open Go Go.Proofs
open Go.Ev.T renaming node → nN, nil → nZ
open Go.Proofs.Try (prog)
set_option maxRecDepth 100000
set_option maxHeartbeats 2000000
namespace KPush
set_option linter.unusedVariables false
noncomputable def bd : Code := (Go.Proofs.Try.f11.body).getD .skip
noncomputable def H0 (f : Nat) (x : Int) (n : Nat) (s : HQ.QS) (y : Int) : AH := { objs := nN none (nN none (nN none (nN none (nN none (nN none (nN none (nN (some (AObj.cells 58 [Value.func (Fn.func f) ⟨[]⟩ ⟨[]⟩, Value.int IntKind.i64 x, Value.slice (some ⟨128, 0, none⟩) n 9223372036854775810, Value.map (some 129)] true 2)) nZ nZ) nZ) nZ) nZ) nZ) nZ) (nN none (nN none (nN none (nN none (nN none (nN (some (AObj.map s.E s.ck true)) nZ nZ) nZ) nZ) nZ) nZ) nZ)) (nN none (nN none (nN none (nN none (nN none (nN none (nN (some (AObj.cells 47 s.c false 2)) nZ nZ) nZ) nZ) nZ) nZ) nZ) (nN none nZ (nN none nZ (nN none nZ (nN none nZ (nN (some (AObj.cells 54 [Value.pointer (some ⟨126, 0, none⟩), Value.pointer (some ⟨127, 0, none⟩)] true 2)) nZ nZ)))))), next := 130 }
noncomputable def E (f : Nat) (x : Int) (n : Nat) (s : HQ.QS) (y : Int) : AS := ⟨⟨11, 50, nN (some (Value.pointer (some ⟨126, 0, none⟩))) (nN (some (Value.int IntKind.i64 y)) nZ nZ) nZ, [Item.code (codeAt bd [])], [], FrameMode.run, CallKind.normal, none⟩, [], ⟨nN none (nN none (nN none (nN none (nN none (nN none (nN none (nN (some (AObj.cells 58 [Value.func (Fn.func f) ⟨[]⟩ ⟨[]⟩, Value.int IntKind.i64 x, Value.slice (some ⟨128, 0, none⟩) n 9223372036854775810, Value.map (some 129)] true 2)) nZ nZ) nZ) nZ) nZ) nZ) nZ) (nN none (nN none (nN none (nN none (nN none (nN (some (AObj.map s.E s.ck true)) nZ nZ) nZ) nZ) nZ) nZ) nZ)) (nN none (nN none (nN none (nN none (nN none (nN none (nN (some (AObj.cells 47 s.c false 2)) nZ nZ) nZ) nZ) nZ) nZ) nZ) (nN none nZ (nN none nZ (nN none nZ (nN none nZ (nN (some (AObj.cells 54 [Value.pointer (some ⟨126, 0, none⟩), Value.pointer (some ⟨127, 0, none⟩)] true 2)) nZ nZ)))))), 130⟩⟩
theorem enter {η : Nat → Value} {B : Bd} (hη : OneCells η) (hmix : prog.follows .mixedOrders = true) (hreg : RegOk η prog B noNest) {D : Value → AH → Prop} (f : Nat) (x : Int) (n : Nat) (s : HQ.QS) (y : Int) (h : W.holds η prog B 11 (fun kp_ st_ => RunD η prog B 11 (H0 f x n s y) kp_ st_ (QF prog 130 D)) D (.ite ((↑n : Int) == (5000 : Int)) (.done 11 (Value.tuple ⟨[Value.int IntKind.i64 0, Value.int IntKind.i64 5]⟩) (H0 f x n s y)) (.ite (x == (1000000000000000 : Int)) (.done 11 (Value.tuple ⟨[Value.int IntKind.i64 0, Value.int IntKind.i64 5]⟩) (H0 f x n s y)) (.need (Instr.findNow (TypeDesc.int IntKind.i64) (Value.int IntKind.i64 x) s.E (0 : Nat) = some (mFind (TypeDesc.int IntKind.i64) (Value.int IntKind.i64 x) s.E)) (.need ((2 : Nat) ≤ (2 : Nat) ∧ s.c.length = n * (2 : Nat) ∧ n + (1 : Nat) ≤ (1000000 : Nat) ∧ (2 : Nat) = (2 : Nat) ∧ true = true) (.call 39 [Value.iface 52 (Value.pointer (some ⟨127, 0, none⟩)), Value.int IntKind.i64 (IntKind.i64.wrap ((↑(n + 1) : Int) - 1))] (⟨nN none (nN none (nN none (nN none (nN none (nN none (nN none (nN (some (AObj.cells 58 [Value.func (Fn.func f) ⟨[]⟩ ⟨[]⟩, Value.int IntKind.i64 (IntKind.i64.wrap (x + 1)), Value.slice (some ⟨154, 0, none⟩) (n + 1) 9223372036854775810, Value.map (some 129)] true 2)) nZ nZ) nZ) nZ) nZ) nZ) nZ) (nN none (nN none (nN none (nN none (nN none (nN (some (AObj.map (mPut (Value.int IntKind.i64 x) (Value.int IntKind.i64 (↑n : Int)) s.ck s.E (mFind (TypeDesc.int IntKind.i64) (Value.int IntKind.i64 x) s.E)) (mClock s.ck (mFind (TypeDesc.int IntKind.i64) (Value.int IntKind.i64 x) s.E)) true)) nZ nZ) nZ) nZ) nZ) nZ) (nN none (nN none nZ (nN none (nN none (nN (some (AObj.cells 47 [Value.int IntKind.i64 x, Value.int IntKind.i64 y] true 2)) nZ nZ) nZ) nZ)) nZ))) (nN none (nN none (nN none (nN none (nN none (nN none (nN none nZ nZ) nZ) nZ) nZ) nZ) nZ) (nN none (nN none (nN none (nN none (nN none (nN (some (AObj.cells 47 [Value.int IntKind.i64 x, Value.int IntKind.i64 y] true 2)) nZ nZ) nZ) nZ) nZ) (nN none nZ (nN none (nN none (nN (some (AObj.cells 47 (cut0 s.c 0 (n * 2) ++ [Value.int IntKind.i64 x, Value.int IntKind.i64 y]) false 2)) nZ nZ) nZ) nZ))) (nN none nZ (nN none nZ (nN none nZ (nN (some (AObj.cells 54 [Value.pointer (some ⟨126, 0, none⟩), Value.pointer (some ⟨127, 0, none⟩)] true 2)) nZ nZ)))))), 155⟩) (.ret (undef) (⟨nN none (nN none (nN none (nN none (nN none (nN none (nN none (nN (some (AObj.cells 58 [Value.func (Fn.func f) ⟨[]⟩ ⟨[]⟩, Value.int IntKind.i64 (IntKind.i64.wrap (x + 1)), Value.slice (some ⟨154, 0, none⟩) (n + 1) 9223372036854775810, Value.map (some 129)] true 2)) nZ nZ) nZ) nZ) nZ) nZ) nZ) (nN none (nN none (nN none (nN none (nN none (nN (some (AObj.map (HQ.QS.up f ((IntKind.i64.wrap ((↑(n + 1) : Int) - 1)).toNat + 1) (HQ.QS.mk (cut0 s.c 0 (n * 2) ++ [Value.int IntKind.i64 x, Value.int IntKind.i64 y]) (mPut (Value.int IntKind.i64 x) (Value.int IntKind.i64 (↑n : Int)) s.ck s.E (mFind (TypeDesc.int IntKind.i64) (Value.int IntKind.i64 x) s.E)) (mClock s.ck (mFind (TypeDesc.int IntKind.i64) (Value.int IntKind.i64 x) s.E))) (IntKind.i64.wrap ((↑(n + 1) : Int) - 1)).toNat).E (HQ.QS.up f ((IntKind.i64.wrap ((↑(n + 1) : Int) - 1)).toNat + 1) (HQ.QS.mk (cut0 s.c 0 (n * 2) ++ [Value.int IntKind.i64 x, Value.int IntKind.i64 y]) (mPut (Value.int IntKind.i64 x) (Value.int IntKind.i64 (↑n : Int)) s.ck s.E (mFind (TypeDesc.int IntKind.i64) (Value.int IntKind.i64 x) s.E)) (mClock s.ck (mFind (TypeDesc.int IntKind.i64) (Value.int IntKind.i64 x) s.E))) (IntKind.i64.wrap ((↑(n + 1) : Int) - 1)).toNat).ck true)) nZ nZ) nZ) nZ) nZ) nZ) (nN none (nN none nZ (nN none (nN none (nN (some (AObj.cells 47 [Value.int IntKind.i64 x, Value.int IntKind.i64 y] true 2)) nZ nZ) nZ) nZ)) nZ))) (nN none (nN none (nN none (nN none (nN none (nN none (nN none nZ nZ) nZ) nZ) nZ) nZ) nZ) (nN none (nN none (nN none (nN none (nN none (nN (some (AObj.cells 47 [Value.int IntKind.i64 x, Value.int IntKind.i64 y] true 2)) nZ nZ) nZ) nZ) nZ) (nN none nZ (nN none (nN none (nN (some (AObj.cells 47 (HQ.QS.up f ((IntKind.i64.wrap ((↑(n + 1) : Int) - 1)).toNat + 1) (HQ.QS.mk (cut0 s.c 0 (n * 2) ++ [Value.int IntKind.i64 x, Value.int IntKind.i64 y]) (mPut (Value.int IntKind.i64 x) (Value.int IntKind.i64 (↑n : Int)) s.ck s.E (mFind (TypeDesc.int IntKind.i64) (Value.int IntKind.i64 x) s.E)) (mClock s.ck (mFind (TypeDesc.int IntKind.i64) (Value.int IntKind.i64 x) s.E))) (IntKind.i64.wrap ((↑(n + 1) : Int) - 1)).toNat).c false 2)) nZ nZ) nZ) nZ))) (nN none nZ (nN none nZ (nN none nZ (nN (some (AObj.cells 54 [Value.pointer (some ⟨126, 0, none⟩), Value.pointer (some ⟨127, 0, none⟩)] true 2)) nZ nZ)))))), 155⟩)) (.need (True ∧ True ∧ NoNamesE (HQ.QS.up f ((IntKind.i64.wrap ((↑(n + (1 : Nat)) : Int) - (1 : Int))).toNat + (1 : Nat)) (HQ.QS.mk (cut0 s.c (0 : Nat) (n * (2 : Nat)) ++ [Value.int IntKind.i64 x, Value.int IntKind.i64 y]) (mPut (Value.int IntKind.i64 x) (Value.int IntKind.i64 (↑n : Int)) s.ck s.E (mFind (TypeDesc.int IntKind.i64) (Value.int IntKind.i64 x) s.E)) (mClock s.ck (mFind (TypeDesc.int IntKind.i64) (Value.int IntKind.i64 x) s.E))) (IntKind.i64.wrap ((↑(n + (1 : Nat)) : Int) - (1 : Int))).toNat).E ∧ NoNames (HQ.QS.up f ((IntKind.i64.wrap ((↑(n + (1 : Nat)) : Int) - (1 : Int))).toNat + (1 : Nat)) (HQ.QS.mk (cut0 s.c (0 : Nat) (n * (2 : Nat)) ++ [Value.int IntKind.i64 x, Value.int IntKind.i64 y]) (mPut (Value.int IntKind.i64 x) (Value.int IntKind.i64 (↑n : Int)) s.ck s.E (mFind (TypeDesc.int IntKind.i64) (Value.int IntKind.i64 x) s.E)) (mClock s.ck (mFind (TypeDesc.int IntKind.i64) (Value.int IntKind.i64 x) s.E))) (IntKind.i64.wrap ((↑(n + (1 : Nat)) : Int) - (1 : Int))).toNat).c ∧ True) (.done 11 (Value.tuple ⟨[Value.int IntKind.i64 x, Value.int IntKind.i64 0]⟩) (⟨nN none (nN none (nN none (nN none (nN none (nN none (nN none (nN (some (AObj.cells 58 [Value.func (Fn.func f) ⟨[]⟩ ⟨[]⟩, Value.int IntKind.i64 (IntKind.i64.wrap (x + 1)), Value.slice (some ⟨130, 0, none⟩) (n + 1) 9223372036854775810, Value.map (some 129)] true 2)) nZ nZ) nZ) nZ) nZ) nZ) nZ) (nN none (nN none (nN none (nN none (nN none (nN (some (AObj.map (HQ.QS.up f ((IntKind.i64.wrap ((↑(n + 1) : Int) - 1)).toNat + 1) (HQ.QS.mk (cut0 s.c 0 (n * 2) ++ [Value.int IntKind.i64 x, Value.int IntKind.i64 y]) (mPut (Value.int IntKind.i64 x) (Value.int IntKind.i64 (↑n : Int)) s.ck s.E (mFind (TypeDesc.int IntKind.i64) (Value.int IntKind.i64 x) s.E)) (mClock s.ck (mFind (TypeDesc.int IntKind.i64) (Value.int IntKind.i64 x) s.E))) (IntKind.i64.wrap ((↑(n + 1) : Int) - 1)).toNat).E (HQ.QS.up f ((IntKind.i64.wrap ((↑(n + 1) : Int) - 1)).toNat + 1) (HQ.QS.mk (cut0 s.c 0 (n * 2) ++ [Value.int IntKind.i64 x, Value.int IntKind.i64 y]) (mPut (Value.int IntKind.i64 x) (Value.int IntKind.i64 (↑n : Int)) s.ck s.E (mFind (TypeDesc.int IntKind.i64) (Value.int IntKind.i64 x) s.E)) (mClock s.ck (mFind (TypeDesc.int IntKind.i64) (Value.int IntKind.i64 x) s.E))) (IntKind.i64.wrap ((↑(n + 1) : Int) - 1)).toNat).ck true)) nZ nZ) nZ) nZ) nZ) nZ) nZ)) (nN none nZ (nN none (nN none (nN none (nN none (nN none (nN (some (AObj.cells 47 (HQ.QS.up f ((IntKind.i64.wrap ((↑(n + 1) : Int) - 1)).toNat + 1) (HQ.QS.mk (cut0 s.c 0 (n * 2) ++ [Value.int IntKind.i64 x, Value.int IntKind.i64 y]) (mPut (Value.int IntKind.i64 x) (Value.int IntKind.i64 (↑n : Int)) s.ck s.E (mFind (TypeDesc.int IntKind.i64) (Value.int IntKind.i64 x) s.E)) (mClock s.ck (mFind (TypeDesc.int IntKind.i64) (Value.int IntKind.i64 x) s.E))) (IntKind.i64.wrap ((↑(n + 1) : Int) - 1)).toNat).c false 2)) nZ nZ) nZ) nZ) nZ) nZ) (nN none nZ (nN none nZ (nN none nZ (nN (some (AObj.cells 54 [Value.pointer (some ⟨126, 0, none⟩), Value.pointer (some ⟨127, 0, none⟩)] true 2)) nZ nZ)))))), 131⟩))))))))) : CallSpec η prog B 11 [Value.pointer (some ⟨126, 0, none⟩), Value.int IntKind.i64 y] (H0 f x n s y) D := by
  refine CallSpec.ofQF hη (CallSpec.enter (fr := (E f x n s y).fr) (by kernel_rfl) ?_)
  exact walk_okT (h0 := H0 f x n s y) hη hmix hreg (.steps 100 <| .bit 12 (.steps 17 <| .done none) (.steps 10 <| .bit 21 (.steps 7 <| .done none) (.steps 52 <| .reg <| .steps 11 <| .op <| .reg <| .reg <| .steps 7 <| .op <| .steps 3 <| .reg <| .steps 23 <| .call kN <| .steps 11 <| .done (some ⟨131, [(154, 130)], [(126, (126, false)), (127, (127, false)), (129, (129, true)), (130, (154, true))]⟩)))) (E f x n s y) (by kernel_rfl) h (by kernel_rfl)
end KPush
namespace KPush0
set_option linter.unusedVariables false
noncomputable def bd : Code := (Go.Proofs.Try.f11.body).getD .skip
noncomputable def H0 (f : Nat) (x : Int) (y : Int) : AH := { objs := nN none (nN none (nN none (nN none (nN none (nN none (nN none (nN (some (AObj.cells 58 [Value.func (Fn.func f) ⟨[]⟩ ⟨[]⟩, Value.int IntKind.i64 x, Value.slice none 0 0, Value.map (some 128)] true 2)) nZ nZ) nZ) nZ) nZ) nZ) nZ) nZ) (nN none (nN none (nN none (nN none (nN none (nN none (nN (some (AObj.map [] 0 true)) nZ nZ) nZ) nZ) nZ) nZ) nZ) (nN none nZ (nN none nZ (nN none nZ (nN none nZ (nN (some (AObj.cells 54 [Value.pointer (some ⟨126, 0, none⟩), Value.pointer (some ⟨127, 0, none⟩)] true 2)) nZ nZ)))))), next := 129 }
noncomputable def E (f : Nat) (x : Int) (y : Int) : AS := ⟨⟨11, 50, nN (some (Value.pointer (some ⟨126, 0, none⟩))) (nN (some (Value.int IntKind.i64 y)) nZ nZ) nZ, [Item.code (codeAt bd [])], [], FrameMode.run, CallKind.normal, none⟩, [], ⟨nN none (nN none (nN none (nN none (nN none (nN none (nN none (nN (some (AObj.cells 58 [Value.func (Fn.func f) ⟨[]⟩ ⟨[]⟩, Value.int IntKind.i64 x, Value.slice none 0 0, Value.map (some 128)] true 2)) nZ nZ) nZ) nZ) nZ) nZ) nZ) nZ) (nN none (nN none (nN none (nN none (nN none (nN none (nN (some (AObj.map [] 0 true)) nZ nZ) nZ) nZ) nZ) nZ) nZ) (nN none nZ (nN none nZ (nN none nZ (nN none nZ (nN (some (AObj.cells 54 [Value.pointer (some ⟨126, 0, none⟩), Value.pointer (some ⟨127, 0, none⟩)] true 2)) nZ nZ)))))), 129⟩⟩
noncomputable abbrev henter_0 (f : Nat) (x : Int) (y : Int) : AH := ⟨nN none (nN none (nN none (nN none (nN none (nN none (nN none (nN (some (AObj.cells 58 [Value.func (Fn.func f) ⟨[]⟩ ⟨[]⟩, Value.int IntKind.i64 (IntKind.i64.wrap (x + 1)), Value.slice (some ⟨153, 0, none⟩) 1 9223372036854775810, Value.map (some 128)] true 2)) nZ nZ) nZ) nZ) nZ) nZ) nZ) (nN none (nN none (nN none (nN none (nN none (nN (some (AObj.cells 47 [Value.int IntKind.i64 x, Value.int IntKind.i64 y] true 2)) nZ nZ) nZ) nZ) nZ) (nN none nZ (nN none (nN none (nN (some (AObj.cells 47 [Value.int IntKind.i64 x, Value.int IntKind.i64 y] false 2)) nZ nZ) nZ) nZ))) nZ)) (nN none (nN none (nN none (nN none (nN none (nN none (nN (some (AObj.map [{ key := Value.int IntKind.i64 x, val := Value.int IntKind.i64 0, born := 0 }] 1 true)) nZ nZ) nZ) nZ) nZ) nZ) (nN none (nN none nZ (nN none (nN none (nN (some (AObj.cells 47 [Value.int IntKind.i64 x, Value.int IntKind.i64 y] true 2)) nZ nZ) nZ) nZ)) nZ)) (nN none nZ (nN none nZ (nN none nZ (nN none nZ (nN (some (AObj.cells 54 [Value.pointer (some ⟨126, 0, none⟩), Value.pointer (some ⟨127, 0, none⟩)] true 2)) nZ nZ)))))), 154⟩
theorem enter {η : Nat → Value} {B : Bd} (hη : OneCells η) (hmix : prog.follows .mixedOrders = true) (hreg : RegOk η prog B noNest) {D : Value → AH → Prop} (f : Nat) (x : Int) (y : Int) (h : W.holds η prog B 11 (fun kp_ st_ => RunD η prog B 11 (H0 f x y) kp_ st_ (QF prog 129 D)) D (.ite (x == (1000000000000000 : Int)) (.done 11 (Value.tuple ⟨[Value.int IntKind.i64 0, Value.int IntKind.i64 5]⟩) (H0 f x y)) (.call 39 [Value.iface 52 (Value.pointer (some ⟨127, 0, none⟩)), Value.int IntKind.i64 0] ((henter_0 f x y)) (.ret (undef) ((henter_0 f x y))) (.need (True ∧ True ∧ True ∧ True ∧ True) (.done 11 (Value.tuple ⟨[Value.int IntKind.i64 x, Value.int IntKind.i64 0]⟩) (⟨nN none (nN none (nN none (nN none (nN none (nN none (nN none (nN (some (AObj.cells 58 [Value.func (Fn.func f) ⟨[]⟩ ⟨[]⟩, Value.int IntKind.i64 (IntKind.i64.wrap (x + 1)), Value.slice (some ⟨129, 0, none⟩) 1 9223372036854775810, Value.map (some 128)] true 2)) nZ nZ) nZ) nZ) nZ) nZ) nZ) (nN none (nN none (nN none (nN none (nN none (nN (some (AObj.cells 47 [Value.int IntKind.i64 x, Value.int IntKind.i64 y] false 2)) nZ nZ) nZ) nZ) nZ) nZ) nZ)) (nN none (nN none (nN none (nN none (nN none (nN none (nN (some (AObj.map [{ key := Value.int IntKind.i64 x, val := Value.int IntKind.i64 0, born := 0 }] 1 true)) nZ nZ) nZ) nZ) nZ) nZ) nZ) (nN none nZ (nN none nZ (nN none nZ (nN none nZ (nN (some (AObj.cells 54 [Value.pointer (some ⟨126, 0, none⟩), Value.pointer (some ⟨127, 0, none⟩)] true 2)) nZ nZ)))))), 130⟩)))))) : CallSpec η prog B 11 [Value.pointer (some ⟨126, 0, none⟩), Value.int IntKind.i64 y] (H0 f x y) D := by
  refine CallSpec.ofQF hη (CallSpec.enter (fr := (E f x y).fr) (by kernel_rfl) ?_)
  exact walk_okT (h0 := H0 f x y) hη hmix hreg (.steps 110 <| .bit 21 (.steps 7 <| .done none) (.steps 77 <| .call kN <| .steps 11 <| .done (some ⟨130, [(153, 129)], [(126, (126, false)), (127, (127, false)), (128, (128, false)), (129, (153, false))]⟩))) (E f x y) (by kernel_rfl) h (by kernel_rfl)
end KPush0
namespace KPop
set_option linter.unusedVariables false
noncomputable def bd : Code := (Go.Proofs.Try.f8.body).getD .skip
noncomputable def H0 (f : Nat) (x : Int) (n : Nat) (s : HQ.QS) : AH := { objs := nN none (nN none (nN none (nN none (nN none (nN none (nN none (nN (some (AObj.cells 58 [Value.func (Fn.func f) ⟨[]⟩ ⟨[]⟩, Value.int IntKind.i64 x, Value.slice (some ⟨128, 0, none⟩) n 9223372036854775810, Value.map (some 129)] true 2)) nZ nZ) nZ) nZ) nZ) nZ) nZ) (nN none (nN none (nN none (nN none (nN none (nN (some (AObj.map s.E s.ck true)) nZ nZ) nZ) nZ) nZ) nZ) nZ)) (nN none (nN none (nN none (nN none (nN none (nN none (nN (some (AObj.cells 47 s.c false 2)) nZ nZ) nZ) nZ) nZ) nZ) nZ) (nN none nZ (nN none nZ (nN none nZ (nN none nZ (nN (some (AObj.cells 54 [Value.pointer (some ⟨126, 0, none⟩), Value.pointer (some ⟨127, 0, none⟩)] true 2)) nZ nZ)))))), next := 130 }
noncomputable def E (f : Nat) (x : Int) (n : Nat) (s : HQ.QS) : AS := ⟨⟨8, 25, nN (some (Value.pointer (some ⟨126, 0, none⟩))) nZ nZ, [Item.code (codeAt bd [])], [], FrameMode.run, CallKind.normal, none⟩, [], ⟨nN none (nN none (nN none (nN none (nN none (nN none (nN none (nN (some (AObj.cells 58 [Value.func (Fn.func f) ⟨[]⟩ ⟨[]⟩, Value.int IntKind.i64 x, Value.slice (some ⟨128, 0, none⟩) n 9223372036854775810, Value.map (some 129)] true 2)) nZ nZ) nZ) nZ) nZ) nZ) nZ) (nN none (nN none (nN none (nN none (nN none (nN (some (AObj.map s.E s.ck true)) nZ nZ) nZ) nZ) nZ) nZ) nZ)) (nN none (nN none (nN none (nN none (nN none (nN none (nN (some (AObj.cells 47 s.c false 2)) nZ nZ) nZ) nZ) nZ) nZ) nZ) (nN none nZ (nN none nZ (nN none nZ (nN none nZ (nN (some (AObj.cells 54 [Value.pointer (some ⟨126, 0, none⟩), Value.pointer (some ⟨127, 0, none⟩)] true 2)) nZ nZ)))))), 130⟩⟩
noncomputable abbrev henter_2 (f : Nat) (x : Int) (n : Nat) (s : HQ.QS) : AH := ⟨nN none (nN none (nN none (nN none (nN none (nN none (nN none (nN (some (AObj.cells 58 [Value.func (Fn.func f) ⟨[]⟩ ⟨[]⟩, Value.int IntKind.i64 x, Value.slice (some ⟨128, 0, none⟩) n 9223372036854775810, Value.map (some 129)] true 2)) nZ nZ) nZ) nZ) nZ) nZ) nZ) (nN none (nN none (nN none (nN none (nN none (nN (some (AObj.map ((HQ.QS.mk (s.c) (s.E) (s.ck)).swap (Int.toNat 0) (IntKind.i64.wrap ((↑n : Int) - 1)).toNat).E ((HQ.QS.mk (s.c) (s.E) (s.ck)).swap (Int.toNat 0) (IntKind.i64.wrap ((↑n : Int) - 1)).toNat).ck true)) nZ nZ) nZ) nZ) nZ) nZ) nZ)) (nN none (nN none (nN none (nN none (nN none (nN none (nN (some (AObj.cells 47 ((HQ.QS.mk (s.c) (s.E) (s.ck)).swap (Int.toNat 0) (IntKind.i64.wrap ((↑n : Int) - 1)).toNat).c false 2)) nZ nZ) nZ) nZ) nZ) nZ) nZ) (nN none nZ (nN none nZ (nN none nZ (nN none nZ (nN (some (AObj.cells 54 [Value.pointer (some ⟨126, 0, none⟩), Value.pointer (some ⟨127, 0, none⟩)] true 2)) nZ nZ)))))), 130⟩
theorem enter {η : Nat → Value} {B : Bd} (hη : OneCells η) (hmix : prog.follows .mixedOrders = true) (hreg : RegOk η prog B noNest) {D : Value → AH → Prop} (f : Nat) (x : Int) (n : Nat) (s : HQ.QS) (h : W.holds η prog B 8 (fun kp_ st_ => RunD η prog B 8 (H0 f x n s) kp_ st_ (QF prog 130 D)) D (.ite ((↑n : Int) == (0 : Int)) (.done 8 (Value.tuple ⟨[Value.int IntKind.i64 0, Value.int IntKind.i64 0, Value.int IntKind.i64 4]⟩) (H0 f x n s)) (.call 81 [Value.pointer (some ⟨127, 0, none⟩), Value.int IntKind.i64 0, Value.int IntKind.i64 (IntKind.i64.wrap ((↑n : Int) - 1))] (⟨nN none (nN none (nN none (nN none (nN none (nN none (nN none (nN (some (AObj.cells 58 [Value.func (Fn.func f) ⟨[]⟩ ⟨[]⟩, Value.int IntKind.i64 x, Value.slice (some ⟨128, 0, none⟩) n 9223372036854775810, Value.map (some 129)] true 2)) nZ nZ) nZ) nZ) nZ) nZ) nZ) (nN none (nN none (nN none (nN none (nN none (nN (some (AObj.map s.E s.ck true)) nZ nZ) nZ) nZ) nZ) nZ) nZ)) (nN none (nN none (nN none (nN none (nN none (nN none (nN (some (AObj.cells 47 s.c false 2)) nZ nZ) nZ) nZ) nZ) nZ) nZ) (nN none nZ (nN none nZ (nN none nZ (nN none nZ (nN (some (AObj.cells 54 [Value.pointer (some ⟨126, 0, none⟩), Value.pointer (some ⟨127, 0, none⟩)] true 2)) nZ nZ)))))), 130⟩) (.ret (undef) ((henter_2 f x n s))) (.call 34 [Value.iface 52 (Value.pointer (some ⟨127, 0, none⟩)), Value.int IntKind.i64 0, Value.int IntKind.i64 (IntKind.i64.wrap ((↑n : Int) - 1))] ((henter_2 f x n s)) (.ret (Value.bool (decide (Int.toNat 0 < (HQ.QS.down f (IntKind.i64.wrap ((↑n : Int) - 1)).toNat ((IntKind.i64.wrap ((↑n : Int) - 1)).toNat + 1) (HQ.QS.mk (((HQ.QS.mk (s.c) (s.E) (s.ck)).swap (Int.toNat 0) (IntKind.i64.wrap ((↑n : Int) - 1)).toNat).c) (((HQ.QS.mk (s.c) (s.E) (s.ck)).swap (Int.toNat 0) (IntKind.i64.wrap ((↑n : Int) - 1)).toNat).E) (((HQ.QS.mk (s.c) (s.E) (s.ck)).swap (Int.toNat 0) (IntKind.i64.wrap ((↑n : Int) - 1)).toNat).ck)) (Int.toNat 0)).snd))) (⟨nN none (nN none (nN none (nN none (nN none (nN none (nN none (nN (some (AObj.cells 58 [Value.func (Fn.func f) ⟨[]⟩ ⟨[]⟩, Value.int IntKind.i64 x, Value.slice (some ⟨128, 0, none⟩) n 9223372036854775810, Value.map (some 129)] true 2)) nZ nZ) nZ) nZ) nZ) nZ) nZ) (nN none (nN none (nN none (nN none (nN none (nN (some (AObj.map (HQ.QS.down f (IntKind.i64.wrap ((↑n : Int) - 1)).toNat ((IntKind.i64.wrap ((↑n : Int) - 1)).toNat + 1) (HQ.QS.mk (((HQ.QS.mk (s.c) (s.E) (s.ck)).swap (Int.toNat 0) (IntKind.i64.wrap ((↑n : Int) - 1)).toNat).c) (((HQ.QS.mk (s.c) (s.E) (s.ck)).swap (Int.toNat 0) (IntKind.i64.wrap ((↑n : Int) - 1)).toNat).E) (((HQ.QS.mk (s.c) (s.E) (s.ck)).swap (Int.toNat 0) (IntKind.i64.wrap ((↑n : Int) - 1)).toNat).ck)) (Int.toNat 0)).fst.E (HQ.QS.down f (IntKind.i64.wrap ((↑n : Int) - 1)).toNat ((IntKind.i64.wrap ((↑n : Int) - 1)).toNat + 1) (HQ.QS.mk (((HQ.QS.mk (s.c) (s.E) (s.ck)).swap (Int.toNat 0) (IntKind.i64.wrap ((↑n : Int) - 1)).toNat).c) (((HQ.QS.mk (s.c) (s.E) (s.ck)).swap (Int.toNat 0) (IntKind.i64.wrap ((↑n : Int) - 1)).toNat).E) (((HQ.QS.mk (s.c) (s.E) (s.ck)).swap (Int.toNat 0) (IntKind.i64.wrap ((↑n : Int) - 1)).toNat).ck)) (Int.toNat 0)).fst.ck true)) nZ nZ) nZ) nZ) nZ) nZ) nZ)) (nN none (nN none (nN none (nN none (nN none (nN none (nN (some (AObj.cells 47 (HQ.QS.down f (IntKind.i64.wrap ((↑n : Int) - 1)).toNat ((IntKind.i64.wrap ((↑n : Int) - 1)).toNat + 1) (HQ.QS.mk (((HQ.QS.mk (s.c) (s.E) (s.ck)).swap (Int.toNat 0) (IntKind.i64.wrap ((↑n : Int) - 1)).toNat).c) (((HQ.QS.mk (s.c) (s.E) (s.ck)).swap (Int.toNat 0) (IntKind.i64.wrap ((↑n : Int) - 1)).toNat).E) (((HQ.QS.mk (s.c) (s.E) (s.ck)).swap (Int.toNat 0) (IntKind.i64.wrap ((↑n : Int) - 1)).toNat).ck)) (Int.toNat 0)).fst.c false 2)) nZ nZ) nZ) nZ) nZ) nZ) nZ) (nN none nZ (nN none nZ (nN none nZ (nN none nZ (nN (some (AObj.cells 54 [Value.pointer (some ⟨126, 0, none⟩), Value.pointer (some ⟨127, 0, none⟩)] true 2)) nZ nZ)))))), 130⟩)) (.need ((0 : Int) ≤ IntKind.i64.wrap ((↑n : Int) - (1 : Int)) ∧ IntKind.i64.wrap ((↑n : Int) - (1 : Int)) < (↑n : Int)) (.need ((0 : Nat) + (IntKind.i64.wrap ((↑n : Int) - (1 : Int))).toNat * (2 : Nat) + (2 : Nat) ≤ (HQ.QS.down f (IntKind.i64.wrap ((↑n : Int) - (1 : Int))).toNat ((IntKind.i64.wrap ((↑n : Int) - (1 : Int))).toNat + (1 : Nat)) (HQ.QS.mk (((HQ.QS.mk (s.c) (s.E) (s.ck)).swap (Int.toNat (0 : Int)) (IntKind.i64.wrap ((↑n : Int) - (1 : Int))).toNat).c) (((HQ.QS.mk (s.c) (s.E) (s.ck)).swap (Int.toNat (0 : Int)) (IntKind.i64.wrap ((↑n : Int) - (1 : Int))).toNat).E) (((HQ.QS.mk (s.c) (s.E) (s.ck)).swap (Int.toNat (0 : Int)) (IntKind.i64.wrap ((↑n : Int) - (1 : Int))).toNat).ck)) (Int.toNat (0 : Int))).fst.c.length ∧ List.take (2 : Nat) (List.drop ((0 : Nat) + (IntKind.i64.wrap ((↑n : Int) - (1 : Int))).toNat * (2 : Nat)) (HQ.QS.down f (IntKind.i64.wrap ((↑n : Int) - (1 : Int))).toNat ((IntKind.i64.wrap ((↑n : Int) - (1 : Int))).toNat + (1 : Nat)) (HQ.QS.mk (((HQ.QS.mk (s.c) (s.E) (s.ck)).swap (Int.toNat (0 : Int)) (IntKind.i64.wrap ((↑n : Int) - (1 : Int))).toNat).c) (((HQ.QS.mk (s.c) (s.E) (s.ck)).swap (Int.toNat (0 : Int)) (IntKind.i64.wrap ((↑n : Int) - (1 : Int))).toNat).E) (((HQ.QS.mk (s.c) (s.E) (s.ck)).swap (Int.toNat (0 : Int)) (IntKind.i64.wrap ((↑n : Int) - (1 : Int))).toNat).ck)) (Int.toNat (0 : Int))).fst.c) = [Value.int IntKind.i64 (intAt (HQ.QS.down f (IntKind.i64.wrap ((↑n : Int) - (1 : Int))).toNat ((IntKind.i64.wrap ((↑n : Int) - (1 : Int))).toNat + (1 : Nat)) (HQ.QS.mk (((HQ.QS.mk (s.c) (s.E) (s.ck)).swap (Int.toNat (0 : Int)) (IntKind.i64.wrap ((↑n : Int) - (1 : Int))).toNat).c) (((HQ.QS.mk (s.c) (s.E) (s.ck)).swap (Int.toNat (0 : Int)) (IntKind.i64.wrap ((↑n : Int) - (1 : Int))).toNat).E) (((HQ.QS.mk (s.c) (s.E) (s.ck)).swap (Int.toNat (0 : Int)) (IntKind.i64.wrap ((↑n : Int) - (1 : Int))).toNat).ck)) (Int.toNat (0 : Int))).fst.c ((0 : Nat) + (IntKind.i64.wrap ((↑n : Int) - (1 : Int))).toNat * (2 : Nat))), Value.int IntKind.i64 (intAt (HQ.QS.down f (IntKind.i64.wrap ((↑n : Int) - (1 : Int))).toNat ((IntKind.i64.wrap ((↑n : Int) - (1 : Int))).toNat + (1 : Nat)) (HQ.QS.mk (((HQ.QS.mk (s.c) (s.E) (s.ck)).swap (Int.toNat (0 : Int)) (IntKind.i64.wrap ((↑n : Int) - (1 : Int))).toNat).c) (((HQ.QS.mk (s.c) (s.E) (s.ck)).swap (Int.toNat (0 : Int)) (IntKind.i64.wrap ((↑n : Int) - (1 : Int))).toNat).E) (((HQ.QS.mk (s.c) (s.E) (s.ck)).swap (Int.toNat (0 : Int)) (IntKind.i64.wrap ((↑n : Int) - (1 : Int))).toNat).ck)) (Int.toNat (0 : Int))).fst.c ((0 : Nat) + (IntKind.i64.wrap ((↑n : Int) - (1 : Int))).toNat * (2 : Nat) + (1 : Nat)))]) (.need ((0 : Int) ≤ IntKind.i64.wrap ((↑n : Int) - (1 : Int)) ∧ IntKind.i64.wrap ((↑n : Int) - (1 : Int)) ≤ (↑n : Int) ∧ (9223372036854775810 : Nat) = (9223372036854775810 : Nat) ∧ (2 : Nat) ≠ (0 : Nat) ∧ (↑n : Int) ≤ (↑n : Int) ∧ (IntKind.i64.wrap ((↑n : Int) - (1 : Int)) < (↑n : Int) ∨ IntKind.i64.wrap ((↑n : Int) - (1 : Int)) = (0 : Int))) (.need ((0 : Nat) + (IntKind.i64.wrap ((↑n : Int) - (1 : Int))).toNat * (2 : Nat) + (rep [Value.int IntKind.i64 (0 : Int), Value.int IntKind.i64 (0 : Int)] ((↑n : Int).toNat - (IntKind.i64.wrap ((↑n : Int) - (1 : Int))).toNat)).length ≤ (HQ.QS.down f (IntKind.i64.wrap ((↑n : Int) - (1 : Int))).toNat ((IntKind.i64.wrap ((↑n : Int) - (1 : Int))).toNat + (1 : Nat)) (HQ.QS.mk (((HQ.QS.mk (s.c) (s.E) (s.ck)).swap (Int.toNat (0 : Int)) (IntKind.i64.wrap ((↑n : Int) - (1 : Int))).toNat).c) (((HQ.QS.mk (s.c) (s.E) (s.ck)).swap (Int.toNat (0 : Int)) (IntKind.i64.wrap ((↑n : Int) - (1 : Int))).toNat).E) (((HQ.QS.mk (s.c) (s.E) (s.ck)).swap (Int.toNat (0 : Int)) (IntKind.i64.wrap ((↑n : Int) - (1 : Int))).toNat).ck)) (Int.toNat (0 : Int))).fst.c.length) (.ite ((↑n : Int).toNat - (IntKind.i64.wrap ((↑n : Int) - (1 : Int))).toNat == (0 : Nat)) (.need ((0 : Int) ≤ (0 : Int) ∧ (0 : Int) ≤ IntKind.i64.wrap ((↑n : Int) - (1 : Int)) ∧ (9223372036854775810 : Nat) = (9223372036854775810 : Nat) ∧ (2 : Nat) ≠ (0 : Nat) ∧ IntKind.i64.wrap ((↑n : Int) - (1 : Int)) ≤ (↑n : Int) ∧ ((0 : Int) < (↑n : Int) ∨ (0 : Int) = (0 : Int))) (.need (Instr.findNow (TypeDesc.int IntKind.i64) (Value.int IntKind.i64 (intAt (HQ.QS.down f (IntKind.i64.wrap ((↑n : Int) - (1 : Int))).toNat ((IntKind.i64.wrap ((↑n : Int) - (1 : Int))).toNat + (1 : Nat)) (HQ.QS.mk (((HQ.QS.mk (s.c) (s.E) (s.ck)).swap (Int.toNat (0 : Int)) (IntKind.i64.wrap ((↑n : Int) - (1 : Int))).toNat).c) (((HQ.QS.mk (s.c) (s.E) (s.ck)).swap (Int.toNat (0 : Int)) (IntKind.i64.wrap ((↑n : Int) - (1 : Int))).toNat).E) (((HQ.QS.mk (s.c) (s.E) (s.ck)).swap (Int.toNat (0 : Int)) (IntKind.i64.wrap ((↑n : Int) - (1 : Int))).toNat).ck)) (Int.toNat (0 : Int))).fst.c ((0 : Nat) + (IntKind.i64.wrap ((↑n : Int) - (1 : Int))).toNat * (2 : Nat)))) (HQ.QS.down f (IntKind.i64.wrap ((↑n : Int) - (1 : Int))).toNat ((IntKind.i64.wrap ((↑n : Int) - (1 : Int))).toNat + (1 : Nat)) (HQ.QS.mk (((HQ.QS.mk (s.c) (s.E) (s.ck)).swap (Int.toNat (0 : Int)) (IntKind.i64.wrap ((↑n : Int) - (1 : Int))).toNat).c) (((HQ.QS.mk (s.c) (s.E) (s.ck)).swap (Int.toNat (0 : Int)) (IntKind.i64.wrap ((↑n : Int) - (1 : Int))).toNat).E) (((HQ.QS.mk (s.c) (s.E) (s.ck)).swap (Int.toNat (0 : Int)) (IntKind.i64.wrap ((↑n : Int) - (1 : Int))).toNat).ck)) (Int.toNat (0 : Int))).fst.E (0 : Nat) = some (mFind (TypeDesc.int IntKind.i64) (Value.int IntKind.i64 (intAt (HQ.QS.down f (IntKind.i64.wrap ((↑n : Int) - (1 : Int))).toNat ((IntKind.i64.wrap ((↑n : Int) - (1 : Int))).toNat + (1 : Nat)) (HQ.QS.mk (((HQ.QS.mk (s.c) (s.E) (s.ck)).swap (Int.toNat (0 : Int)) (IntKind.i64.wrap ((↑n : Int) - (1 : Int))).toNat).c) (((HQ.QS.mk (s.c) (s.E) (s.ck)).swap (Int.toNat (0 : Int)) (IntKind.i64.wrap ((↑n : Int) - (1 : Int))).toNat).E) (((HQ.QS.mk (s.c) (s.E) (s.ck)).swap (Int.toNat (0 : Int)) (IntKind.i64.wrap ((↑n : Int) - (1 : Int))).toNat).ck)) (Int.toNat (0 : Int))).fst.c ((0 : Nat) + (IntKind.i64.wrap ((↑n : Int) - (1 : Int))).toNat * (2 : Nat)))) (HQ.QS.down f (IntKind.i64.wrap ((↑n : Int) - (1 : Int))).toNat ((IntKind.i64.wrap ((↑n : Int) - (1 : Int))).toNat + (1 : Nat)) (HQ.QS.mk (((HQ.QS.mk (s.c) (s.E) (s.ck)).swap (Int.toNat (0 : Int)) (IntKind.i64.wrap ((↑n : Int) - (1 : Int))).toNat).c) (((HQ.QS.mk (s.c) (s.E) (s.ck)).swap (Int.toNat (0 : Int)) (IntKind.i64.wrap ((↑n : Int) - (1 : Int))).toNat).E) (((HQ.QS.mk (s.c) (s.E) (s.ck)).swap (Int.toNat (0 : Int)) (IntKind.i64.wrap ((↑n : Int) - (1 : Int))).toNat).ck)) (Int.toNat (0 : Int))).fst.E)) (.need (True ∧ True ∧ NoNames (HQ.QS.down f (IntKind.i64.wrap ((↑n : Int) - (1 : Int))).toNat ((IntKind.i64.wrap ((↑n : Int) - (1 : Int))).toNat + (1 : Nat)) (HQ.QS.mk (((HQ.QS.mk (s.c) (s.E) (s.ck)).swap (Int.toNat (0 : Int)) (IntKind.i64.wrap ((↑n : Int) - (1 : Int))).toNat).c) (((HQ.QS.mk (s.c) (s.E) (s.ck)).swap (Int.toNat (0 : Int)) (IntKind.i64.wrap ((↑n : Int) - (1 : Int))).toNat).E) (((HQ.QS.mk (s.c) (s.E) (s.ck)).swap (Int.toNat (0 : Int)) (IntKind.i64.wrap ((↑n : Int) - (1 : Int))).toNat).ck)) (Int.toNat (0 : Int))).fst.c ∧ NoNamesE (mDel (HQ.QS.down f (IntKind.i64.wrap ((↑n : Int) - (1 : Int))).toNat ((IntKind.i64.wrap ((↑n : Int) - (1 : Int))).toNat + (1 : Nat)) (HQ.QS.mk (((HQ.QS.mk (s.c) (s.E) (s.ck)).swap (Int.toNat (0 : Int)) (IntKind.i64.wrap ((↑n : Int) - (1 : Int))).toNat).c) (((HQ.QS.mk (s.c) (s.E) (s.ck)).swap (Int.toNat (0 : Int)) (IntKind.i64.wrap ((↑n : Int) - (1 : Int))).toNat).E) (((HQ.QS.mk (s.c) (s.E) (s.ck)).swap (Int.toNat (0 : Int)) (IntKind.i64.wrap ((↑n : Int) - (1 : Int))).toNat).ck)) (Int.toNat (0 : Int))).fst.E (mFind (TypeDesc.int IntKind.i64) (Value.int IntKind.i64 (intAt (HQ.QS.down f (IntKind.i64.wrap ((↑n : Int) - (1 : Int))).toNat ((IntKind.i64.wrap ((↑n : Int) - (1 : Int))).toNat + (1 : Nat)) (HQ.QS.mk (((HQ.QS.mk (s.c) (s.E) (s.ck)).swap (Int.toNat (0 : Int)) (IntKind.i64.wrap ((↑n : Int) - (1 : Int))).toNat).c) (((HQ.QS.mk (s.c) (s.E) (s.ck)).swap (Int.toNat (0 : Int)) (IntKind.i64.wrap ((↑n : Int) - (1 : Int))).toNat).E) (((HQ.QS.mk (s.c) (s.E) (s.ck)).swap (Int.toNat (0 : Int)) (IntKind.i64.wrap ((↑n : Int) - (1 : Int))).toNat).ck)) (Int.toNat (0 : Int))).fst.c ((0 : Nat) + (IntKind.i64.wrap ((↑n : Int) - (1 : Int))).toNat * (2 : Nat)))) (HQ.QS.down f (IntKind.i64.wrap ((↑n : Int) - (1 : Int))).toNat ((IntKind.i64.wrap ((↑n : Int) - (1 : Int))).toNat + (1 : Nat)) (HQ.QS.mk (((HQ.QS.mk (s.c) (s.E) (s.ck)).swap (Int.toNat (0 : Int)) (IntKind.i64.wrap ((↑n : Int) - (1 : Int))).toNat).c) (((HQ.QS.mk (s.c) (s.E) (s.ck)).swap (Int.toNat (0 : Int)) (IntKind.i64.wrap ((↑n : Int) - (1 : Int))).toNat).E) (((HQ.QS.mk (s.c) (s.E) (s.ck)).swap (Int.toNat (0 : Int)) (IntKind.i64.wrap ((↑n : Int) - (1 : Int))).toNat).ck)) (Int.toNat (0 : Int))).fst.E)) ∧ True) (.done 8 (Value.tuple ⟨[Value.int IntKind.i64 (intAt (HQ.QS.down f (IntKind.i64.wrap ((↑n : Int) - 1)).toNat ((IntKind.i64.wrap ((↑n : Int) - 1)).toNat + 1) (HQ.QS.mk (((HQ.QS.mk (s.c) (s.E) (s.ck)).swap (Int.toNat 0) (IntKind.i64.wrap ((↑n : Int) - 1)).toNat).c) (((HQ.QS.mk (s.c) (s.E) (s.ck)).swap (Int.toNat 0) (IntKind.i64.wrap ((↑n : Int) - 1)).toNat).E) (((HQ.QS.mk (s.c) (s.E) (s.ck)).swap (Int.toNat 0) (IntKind.i64.wrap ((↑n : Int) - 1)).toNat).ck)) (Int.toNat 0)).fst.c (0 + (IntKind.i64.wrap ((↑n : Int) - 1)).toNat * 2)), Value.int IntKind.i64 (intAt (HQ.QS.down f (IntKind.i64.wrap ((↑n : Int) - 1)).toNat ((IntKind.i64.wrap ((↑n : Int) - 1)).toNat + 1) (HQ.QS.mk (((HQ.QS.mk (s.c) (s.E) (s.ck)).swap (Int.toNat 0) (IntKind.i64.wrap ((↑n : Int) - 1)).toNat).c) (((HQ.QS.mk (s.c) (s.E) (s.ck)).swap (Int.toNat 0) (IntKind.i64.wrap ((↑n : Int) - 1)).toNat).E) (((HQ.QS.mk (s.c) (s.E) (s.ck)).swap (Int.toNat 0) (IntKind.i64.wrap ((↑n : Int) - 1)).toNat).ck)) (Int.toNat 0)).fst.c (0 + (IntKind.i64.wrap ((↑n : Int) - 1)).toNat * 2 + 1)), Value.int IntKind.i64 0]⟩) (⟨nN none (nN none (nN none (nN none (nN none (nN none (nN none (nN (some (AObj.cells 58 [Value.func (Fn.func f) ⟨[]⟩ ⟨[]⟩, Value.int IntKind.i64 x, Value.slice (some ⟨128, 0, none⟩) ((IntKind.i64.wrap ((↑n : Int) - 1)).toNat - 0) 9223372036854775810, Value.map (some 129)] true 2)) nZ nZ) nZ) nZ) nZ) nZ) nZ) (nN none (nN none (nN none (nN none (nN none (nN (some (AObj.map (mDel (HQ.QS.down f (IntKind.i64.wrap ((↑n : Int) - 1)).toNat ((IntKind.i64.wrap ((↑n : Int) - 1)).toNat + 1) (HQ.QS.mk (((HQ.QS.mk (s.c) (s.E) (s.ck)).swap (Int.toNat 0) (IntKind.i64.wrap ((↑n : Int) - 1)).toNat).c) (((HQ.QS.mk (s.c) (s.E) (s.ck)).swap (Int.toNat 0) (IntKind.i64.wrap ((↑n : Int) - 1)).toNat).E) (((HQ.QS.mk (s.c) (s.E) (s.ck)).swap (Int.toNat 0) (IntKind.i64.wrap ((↑n : Int) - 1)).toNat).ck)) (Int.toNat 0)).fst.E (mFind (TypeDesc.int IntKind.i64) (Value.int IntKind.i64 (intAt (HQ.QS.down f (IntKind.i64.wrap ((↑n : Int) - 1)).toNat ((IntKind.i64.wrap ((↑n : Int) - 1)).toNat + 1) (HQ.QS.mk (((HQ.QS.mk (s.c) (s.E) (s.ck)).swap (Int.toNat 0) (IntKind.i64.wrap ((↑n : Int) - 1)).toNat).c) (((HQ.QS.mk (s.c) (s.E) (s.ck)).swap (Int.toNat 0) (IntKind.i64.wrap ((↑n : Int) - 1)).toNat).E) (((HQ.QS.mk (s.c) (s.E) (s.ck)).swap (Int.toNat 0) (IntKind.i64.wrap ((↑n : Int) - 1)).toNat).ck)) (Int.toNat 0)).fst.c (0 + (IntKind.i64.wrap ((↑n : Int) - 1)).toNat * 2))) (HQ.QS.down f (IntKind.i64.wrap ((↑n : Int) - 1)).toNat ((IntKind.i64.wrap ((↑n : Int) - 1)).toNat + 1) (HQ.QS.mk (((HQ.QS.mk (s.c) (s.E) (s.ck)).swap (Int.toNat 0) (IntKind.i64.wrap ((↑n : Int) - 1)).toNat).c) (((HQ.QS.mk (s.c) (s.E) (s.ck)).swap (Int.toNat 0) (IntKind.i64.wrap ((↑n : Int) - 1)).toNat).E) (((HQ.QS.mk (s.c) (s.E) (s.ck)).swap (Int.toNat 0) (IntKind.i64.wrap ((↑n : Int) - 1)).toNat).ck)) (Int.toNat 0)).fst.E)) (HQ.QS.down f (IntKind.i64.wrap ((↑n : Int) - 1)).toNat ((IntKind.i64.wrap ((↑n : Int) - 1)).toNat + 1) (HQ.QS.mk (((HQ.QS.mk (s.c) (s.E) (s.ck)).swap (Int.toNat 0) (IntKind.i64.wrap ((↑n : Int) - 1)).toNat).c) (((HQ.QS.mk (s.c) (s.E) (s.ck)).swap (Int.toNat 0) (IntKind.i64.wrap ((↑n : Int) - 1)).toNat).E) (((HQ.QS.mk (s.c) (s.E) (s.ck)).swap (Int.toNat 0) (IntKind.i64.wrap ((↑n : Int) - 1)).toNat).ck)) (Int.toNat 0)).fst.ck true)) nZ nZ) nZ) nZ) nZ) nZ) nZ)) (nN none (nN none (nN none (nN none (nN none (nN none (nN (some (AObj.cells 47 (HQ.QS.down f (IntKind.i64.wrap ((↑n : Int) - 1)).toNat ((IntKind.i64.wrap ((↑n : Int) - 1)).toNat + 1) (HQ.QS.mk (((HQ.QS.mk (s.c) (s.E) (s.ck)).swap (Int.toNat 0) (IntKind.i64.wrap ((↑n : Int) - 1)).toNat).c) (((HQ.QS.mk (s.c) (s.E) (s.ck)).swap (Int.toNat 0) (IntKind.i64.wrap ((↑n : Int) - 1)).toNat).E) (((HQ.QS.mk (s.c) (s.E) (s.ck)).swap (Int.toNat 0) (IntKind.i64.wrap ((↑n : Int) - 1)).toNat).ck)) (Int.toNat 0)).fst.c false 2)) nZ nZ) nZ) nZ) nZ) nZ) nZ) (nN none nZ (nN none nZ (nN none nZ (nN none nZ (nN (some (AObj.cells 54 [Value.pointer (some ⟨126, 0, none⟩), Value.pointer (some ⟨127, 0, none⟩)] true 2)) nZ nZ)))))), 130⟩))))) (.need ((0 : Int) ≤ (0 : Int) ∧ (0 : Int) ≤ IntKind.i64.wrap ((↑n : Int) - (1 : Int)) ∧ (9223372036854775810 : Nat) = (9223372036854775810 : Nat) ∧ (2 : Nat) ≠ (0 : Nat) ∧ IntKind.i64.wrap ((↑n : Int) - (1 : Int)) ≤ (↑n : Int) ∧ ((0 : Int) < (↑n : Int) ∨ (0 : Int) = (0 : Int))) (.need (Instr.findNow (TypeDesc.int IntKind.i64) (Value.int IntKind.i64 (intAt (HQ.QS.down f (IntKind.i64.wrap ((↑n : Int) - (1 : Int))).toNat ((IntKind.i64.wrap ((↑n : Int) - (1 : Int))).toNat + (1 : Nat)) (HQ.QS.mk (((HQ.QS.mk (s.c) (s.E) (s.ck)).swap (Int.toNat (0 : Int)) (IntKind.i64.wrap ((↑n : Int) - (1 : Int))).toNat).c) (((HQ.QS.mk (s.c) (s.E) (s.ck)).swap (Int.toNat (0 : Int)) (IntKind.i64.wrap ((↑n : Int) - (1 : Int))).toNat).E) (((HQ.QS.mk (s.c) (s.E) (s.ck)).swap (Int.toNat (0 : Int)) (IntKind.i64.wrap ((↑n : Int) - (1 : Int))).toNat).ck)) (Int.toNat (0 : Int))).fst.c ((0 : Nat) + (IntKind.i64.wrap ((↑n : Int) - (1 : Int))).toNat * (2 : Nat)))) (HQ.QS.down f (IntKind.i64.wrap ((↑n : Int) - (1 : Int))).toNat ((IntKind.i64.wrap ((↑n : Int) - (1 : Int))).toNat + (1 : Nat)) (HQ.QS.mk (((HQ.QS.mk (s.c) (s.E) (s.ck)).swap (Int.toNat (0 : Int)) (IntKind.i64.wrap ((↑n : Int) - (1 : Int))).toNat).c) (((HQ.QS.mk (s.c) (s.E) (s.ck)).swap (Int.toNat (0 : Int)) (IntKind.i64.wrap ((↑n : Int) - (1 : Int))).toNat).E) (((HQ.QS.mk (s.c) (s.E) (s.ck)).swap (Int.toNat (0 : Int)) (IntKind.i64.wrap ((↑n : Int) - (1 : Int))).toNat).ck)) (Int.toNat (0 : Int))).fst.E (0 : Nat) = some (mFind (TypeDesc.int IntKind.i64) (Value.int IntKind.i64 (intAt (HQ.QS.down f (IntKind.i64.wrap ((↑n : Int) - (1 : Int))).toNat ((IntKind.i64.wrap ((↑n : Int) - (1 : Int))).toNat + (1 : Nat)) (HQ.QS.mk (((HQ.QS.mk (s.c) (s.E) (s.ck)).swap (Int.toNat (0 : Int)) (IntKind.i64.wrap ((↑n : Int) - (1 : Int))).toNat).c) (((HQ.QS.mk (s.c) (s.E) (s.ck)).swap (Int.toNat (0 : Int)) (IntKind.i64.wrap ((↑n : Int) - (1 : Int))).toNat).E) (((HQ.QS.mk (s.c) (s.E) (s.ck)).swap (Int.toNat (0 : Int)) (IntKind.i64.wrap ((↑n : Int) - (1 : Int))).toNat).ck)) (Int.toNat (0 : Int))).fst.c ((0 : Nat) + (IntKind.i64.wrap ((↑n : Int) - (1 : Int))).toNat * (2 : Nat)))) (HQ.QS.down f (IntKind.i64.wrap ((↑n : Int) - (1 : Int))).toNat ((IntKind.i64.wrap ((↑n : Int) - (1 : Int))).toNat + (1 : Nat)) (HQ.QS.mk (((HQ.QS.mk (s.c) (s.E) (s.ck)).swap (Int.toNat (0 : Int)) (IntKind.i64.wrap ((↑n : Int) - (1 : Int))).toNat).c) (((HQ.QS.mk (s.c) (s.E) (s.ck)).swap (Int.toNat (0 : Int)) (IntKind.i64.wrap ((↑n : Int) - (1 : Int))).toNat).E) (((HQ.QS.mk (s.c) (s.E) (s.ck)).swap (Int.toNat (0 : Int)) (IntKind.i64.wrap ((↑n : Int) - (1 : Int))).toNat).ck)) (Int.toNat (0 : Int))).fst.E)) (.need (True ∧ True ∧ NoNames (splice (HQ.QS.down f (IntKind.i64.wrap ((↑n : Int) - (1 : Int))).toNat ((IntKind.i64.wrap ((↑n : Int) - (1 : Int))).toNat + (1 : Nat)) (HQ.QS.mk (((HQ.QS.mk (s.c) (s.E) (s.ck)).swap (Int.toNat (0 : Int)) (IntKind.i64.wrap ((↑n : Int) - (1 : Int))).toNat).c) (((HQ.QS.mk (s.c) (s.E) (s.ck)).swap (Int.toNat (0 : Int)) (IntKind.i64.wrap ((↑n : Int) - (1 : Int))).toNat).E) (((HQ.QS.mk (s.c) (s.E) (s.ck)).swap (Int.toNat (0 : Int)) (IntKind.i64.wrap ((↑n : Int) - (1 : Int))).toNat).ck)) (Int.toNat (0 : Int))).fst.c ((0 : Nat) + (IntKind.i64.wrap ((↑n : Int) - (1 : Int))).toNat * (2 : Nat)) (rep [Value.int IntKind.i64 (0 : Int), Value.int IntKind.i64 (0 : Int)] ((↑n : Int).toNat - (IntKind.i64.wrap ((↑n : Int) - (1 : Int))).toNat))) ∧ NoNamesE (mDel (HQ.QS.down f (IntKind.i64.wrap ((↑n : Int) - (1 : Int))).toNat ((IntKind.i64.wrap ((↑n : Int) - (1 : Int))).toNat + (1 : Nat)) (HQ.QS.mk (((HQ.QS.mk (s.c) (s.E) (s.ck)).swap (Int.toNat (0 : Int)) (IntKind.i64.wrap ((↑n : Int) - (1 : Int))).toNat).c) (((HQ.QS.mk (s.c) (s.E) (s.ck)).swap (Int.toNat (0 : Int)) (IntKind.i64.wrap ((↑n : Int) - (1 : Int))).toNat).E) (((HQ.QS.mk (s.c) (s.E) (s.ck)).swap (Int.toNat (0 : Int)) (IntKind.i64.wrap ((↑n : Int) - (1 : Int))).toNat).ck)) (Int.toNat (0 : Int))).fst.E (mFind (TypeDesc.int IntKind.i64) (Value.int IntKind.i64 (intAt (HQ.QS.down f (IntKind.i64.wrap ((↑n : Int) - (1 : Int))).toNat ((IntKind.i64.wrap ((↑n : Int) - (1 : Int))).toNat + (1 : Nat)) (HQ.QS.mk (((HQ.QS.mk (s.c) (s.E) (s.ck)).swap (Int.toNat (0 : Int)) (IntKind.i64.wrap ((↑n : Int) - (1 : Int))).toNat).c) (((HQ.QS.mk (s.c) (s.E) (s.ck)).swap (Int.toNat (0 : Int)) (IntKind.i64.wrap ((↑n : Int) - (1 : Int))).toNat).E) (((HQ.QS.mk (s.c) (s.E) (s.ck)).swap (Int.toNat (0 : Int)) (IntKind.i64.wrap ((↑n : Int) - (1 : Int))).toNat).ck)) (Int.toNat (0 : Int))).fst.c ((0 : Nat) + (IntKind.i64.wrap ((↑n : Int) - (1 : Int))).toNat * (2 : Nat)))) (HQ.QS.down f (IntKind.i64.wrap ((↑n : Int) - (1 : Int))).toNat ((IntKind.i64.wrap ((↑n : Int) - (1 : Int))).toNat + (1 : Nat)) (HQ.QS.mk (((HQ.QS.mk (s.c) (s.E) (s.ck)).swap (Int.toNat (0 : Int)) (IntKind.i64.wrap ((↑n : Int) - (1 : Int))).toNat).c) (((HQ.QS.mk (s.c) (s.E) (s.ck)).swap (Int.toNat (0 : Int)) (IntKind.i64.wrap ((↑n : Int) - (1 : Int))).toNat).E) (((HQ.QS.mk (s.c) (s.E) (s.ck)).swap (Int.toNat (0 : Int)) (IntKind.i64.wrap ((↑n : Int) - (1 : Int))).toNat).ck)) (Int.toNat (0 : Int))).fst.E)) ∧ True) (.done 8 (Value.tuple ⟨[Value.int IntKind.i64 (intAt (HQ.QS.down f (IntKind.i64.wrap ((↑n : Int) - 1)).toNat ((IntKind.i64.wrap ((↑n : Int) - 1)).toNat + 1) (HQ.QS.mk (((HQ.QS.mk (s.c) (s.E) (s.ck)).swap (Int.toNat 0) (IntKind.i64.wrap ((↑n : Int) - 1)).toNat).c) (((HQ.QS.mk (s.c) (s.E) (s.ck)).swap (Int.toNat 0) (IntKind.i64.wrap ((↑n : Int) - 1)).toNat).E) (((HQ.QS.mk (s.c) (s.E) (s.ck)).swap (Int.toNat 0) (IntKind.i64.wrap ((↑n : Int) - 1)).toNat).ck)) (Int.toNat 0)).fst.c (0 + (IntKind.i64.wrap ((↑n : Int) - 1)).toNat * 2)), Value.int IntKind.i64 (intAt (HQ.QS.down f (IntKind.i64.wrap ((↑n : Int) - 1)).toNat ((IntKind.i64.wrap ((↑n : Int) - 1)).toNat + 1) (HQ.QS.mk (((HQ.QS.mk (s.c) (s.E) (s.ck)).swap (Int.toNat 0) (IntKind.i64.wrap ((↑n : Int) - 1)).toNat).c) (((HQ.QS.mk (s.c) (s.E) (s.ck)).swap (Int.toNat 0) (IntKind.i64.wrap ((↑n : Int) - 1)).toNat).E) (((HQ.QS.mk (s.c) (s.E) (s.ck)).swap (Int.toNat 0) (IntKind.i64.wrap ((↑n : Int) - 1)).toNat).ck)) (Int.toNat 0)).fst.c (0 + (IntKind.i64.wrap ((↑n : Int) - 1)).toNat * 2 + 1)), Value.int IntKind.i64 0]⟩) (⟨nN none (nN none (nN none (nN none (nN none (nN none (nN none (nN (some (AObj.cells 58 [Value.func (Fn.func f) ⟨[]⟩ ⟨[]⟩, Value.int IntKind.i64 x, Value.slice (some ⟨128, 0, none⟩) ((IntKind.i64.wrap ((↑n : Int) - 1)).toNat - 0) 9223372036854775810, Value.map (some 129)] true 2)) nZ nZ) nZ) nZ) nZ) nZ) nZ) (nN none (nN none (nN none (nN none (nN none (nN (some (AObj.map (mDel (HQ.QS.down f (IntKind.i64.wrap ((↑n : Int) - 1)).toNat ((IntKind.i64.wrap ((↑n : Int) - 1)).toNat + 1) (HQ.QS.mk (((HQ.QS.mk (s.c) (s.E) (s.ck)).swap (Int.toNat 0) (IntKind.i64.wrap ((↑n : Int) - 1)).toNat).c) (((HQ.QS.mk (s.c) (s.E) (s.ck)).swap (Int.toNat 0) (IntKind.i64.wrap ((↑n : Int) - 1)).toNat).E) (((HQ.QS.mk (s.c) (s.E) (s.ck)).swap (Int.toNat 0) (IntKind.i64.wrap ((↑n : Int) - 1)).toNat).ck)) (Int.toNat 0)).fst.E (mFind (TypeDesc.int IntKind.i64) (Value.int IntKind.i64 (intAt (HQ.QS.down f (IntKind.i64.wrap ((↑n : Int) - 1)).toNat ((IntKind.i64.wrap ((↑n : Int) - 1)).toNat + 1) (HQ.QS.mk (((HQ.QS.mk (s.c) (s.E) (s.ck)).swap (Int.toNat 0) (IntKind.i64.wrap ((↑n : Int) - 1)).toNat).c) (((HQ.QS.mk (s.c) (s.E) (s.ck)).swap (Int.toNat 0) (IntKind.i64.wrap ((↑n : Int) - 1)).toNat).E) (((HQ.QS.mk (s.c) (s.E) (s.ck)).swap (Int.toNat 0) (IntKind.i64.wrap ((↑n : Int) - 1)).toNat).ck)) (Int.toNat 0)).fst.c (0 + (IntKind.i64.wrap ((↑n : Int) - 1)).toNat * 2))) (HQ.QS.down f (IntKind.i64.wrap ((↑n : Int) - 1)).toNat ((IntKind.i64.wrap ((↑n : Int) - 1)).toNat + 1) (HQ.QS.mk (((HQ.QS.mk (s.c) (s.E) (s.ck)).swap (Int.toNat 0) (IntKind.i64.wrap ((↑n : Int) - 1)).toNat).c) (((HQ.QS.mk (s.c) (s.E) (s.ck)).swap (Int.toNat 0) (IntKind.i64.wrap ((↑n : Int) - 1)).toNat).E) (((HQ.QS.mk (s.c) (s.E) (s.ck)).swap (Int.toNat 0) (IntKind.i64.wrap ((↑n : Int) - 1)).toNat).ck)) (Int.toNat 0)).fst.E)) (HQ.QS.down f (IntKind.i64.wrap ((↑n : Int) - 1)).toNat ((IntKind.i64.wrap ((↑n : Int) - 1)).toNat + 1) (HQ.QS.mk (((HQ.QS.mk (s.c) (s.E) (s.ck)).swap (Int.toNat 0) (IntKind.i64.wrap ((↑n : Int) - 1)).toNat).c) (((HQ.QS.mk (s.c) (s.E) (s.ck)).swap (Int.toNat 0) (IntKind.i64.wrap ((↑n : Int) - 1)).toNat).E) (((HQ.QS.mk (s.c) (s.E) (s.ck)).swap (Int.toNat 0) (IntKind.i64.wrap ((↑n : Int) - 1)).toNat).ck)) (Int.toNat 0)).fst.ck true)) nZ nZ) nZ) nZ) nZ) nZ) nZ)) (nN none (nN none (nN none (nN none (nN none (nN none (nN (some (AObj.cells 47 (splice (HQ.QS.down f (IntKind.i64.wrap ((↑n : Int) - 1)).toNat ((IntKind.i64.wrap ((↑n : Int) - 1)).toNat + 1) (HQ.QS.mk (((HQ.QS.mk (s.c) (s.E) (s.ck)).swap (Int.toNat 0) (IntKind.i64.wrap ((↑n : Int) - 1)).toNat).c) (((HQ.QS.mk (s.c) (s.E) (s.ck)).swap (Int.toNat 0) (IntKind.i64.wrap ((↑n : Int) - 1)).toNat).E) (((HQ.QS.mk (s.c) (s.E) (s.ck)).swap (Int.toNat 0) (IntKind.i64.wrap ((↑n : Int) - 1)).toNat).ck)) (Int.toNat 0)).fst.c (0 + (IntKind.i64.wrap ((↑n : Int) - 1)).toNat * 2) (rep [Value.int IntKind.i64 0, Value.int IntKind.i64 0] ((↑n : Int).toNat - (IntKind.i64.wrap ((↑n : Int) - 1)).toNat))) false 2)) nZ nZ) nZ) nZ) nZ) nZ) nZ) (nN none nZ (nN none nZ (nN none nZ (nN none nZ (nN (some (AObj.cells 54 [Value.pointer (some ⟨126, 0, none⟩), Value.pointer (some ⟨127, 0, none⟩)] true 2)) nZ nZ)))))), 130⟩)))))))))))))) : CallSpec η prog B 8 [Value.pointer (some ⟨126, 0, none⟩)] (H0 f x n s) D := by
  refine CallSpec.ofQF hη (CallSpec.enter (fr := (E f x n s).fr) (by kernel_rfl) ?_)
  exact walk_okT (h0 := H0 f x n s) hη hmix hreg (.steps 101 <| .bit 12 (.steps 9 <| .done none) (.steps 40 <| .call kN <| .steps 5 <| .call kN <| .steps 26 <| .op <| .op <| .steps 10 <| .op <| .op <| .both (.steps 9 <| .op <| .steps 5 <| .reg <| .steps 6 <| .op <| .reg <| .steps 17 <| .reg <| .steps 7 <| .reg <| .steps 1 <| .done (some ⟨130, [], [(126, (126, false)), (127, (127, false)), (128, (128, true)), (129, (129, true))]⟩)) (.steps 9 <| .op <| .steps 5 <| .reg <| .steps 6 <| .op <| .reg <| .steps 17 <| .reg <| .steps 7 <| .reg <| .steps 1 <| .done (some ⟨130, [], [(126, (126, false)), (127, (127, false)), (128, (128, true)), (129, (129, true))]⟩)))) (E f x n s) (by kernel_rfl) h (by kernel_rfl)
end KPop
end Go.Ev

/- Contracts of queues: Push, Pop. -/
namespace Go.Ev
set_option linter.unusedVariables false
set_option linter.unusedSimpArgs false
open Go Go.Proofs Go.RowKit
variable {η : Nat → Value} {B : Bd}
namespace HQ
theorem bare_int {E : List MapEntry} (h : intE E) {σ : Nat → Nat} {N : Nat} {w : Bool} : L2 (RE σ N w) E E := by
  induction E with
  | nil => exact .nil
  | cons e E ih =>
    obtain ⟨k, x, h1, h2⟩ := h e (by simp)
    exact .cons ⟨by rw [h1]; exact .int _ _, by rw [h2]; exact .int _ _, rfl⟩ (ih fun e' he => h e' (by simp [he]))
def objV (f : Nat) (x : Int) (r n cap m : Nat) : AObj := .cells 58 [.func (.func f) #[] #[], .int .i64 x, .slice (some ⟨r, 0, none⟩) n cap, .map (some m)] true 2
theorem ro_V {f : Nat} {x : Int} {r n cap m : Nat} {σ : Nat → Nat} {N : Nat} {w : Bool} (hr : r < N) (hm : m < N) : RO σ N w (objV f x r n cap m) (objV f x (σ r) n cap (σ m)) :=
  .cells _ _ (.cons (rv_fn f) (.cons (.int _ _) (.cons (.slice _ _ hr) (.cons (.map hm) .nil)))) (.inl rfl)
/-- A contract on a queue's values, wherever they stand. -/
theorem any_ok (hη : OneCells η) {F : FuncId} {A A' : List Value} {w : Value} {f : Nat} {x : Int} {n cap : Nat} {s s' : QS} {g g' : G} {k k' : Nat} {v r m : Nat} {H : AH} (hv : H.objs.get v = some (objV f x r n cap m)) (hr : H.objs.get r = some (.cells 47 s.c false 2)) (hm : H.objs.get m = some (.map s.E s.ck true)) (hd : v ≠ r ∧ v ≠ m ∧ r ≠ m)
    (hs : s.c = its g k) (hE : intE s.E) (hs' : s'.c = its g' k') (hE' : intE s'.E) (ha : L2 (RV (sigR (rnQ v r m)) 129 true) A A') (hw : ∀ σ N, RV σ N false w w)
    (c : CallSpec η Try.prog B F A (heapV f (.int .i64 x) n cap s) (KT.ret w (heapV f (.int .i64 x) n cap s')).sat) : CallSpec η Try.prog B F A' H (KT.ret w (withQ H (objV f x r n cap m) v r m s')).sat := by
  have b1 : s.c.all bareV = true := by rw [hs]; exact its_bare g k
  have b2 : s'.c.all bareV = true := by rw [hs']; exact its_bare g' k'
  refine CallSpec.move hη gs9 (rn := rnQ v r m) (l := [objV f x 127 n cap 128, .cells 47 s.c false 2, .map s.E s.ck true]) (l' := [objV f x r n cap m, .cells 47 s.c false 2, .map s.E s.ck true])
    (l2 := [some (objV f x 127 n cap 128), some (.cells 47 s'.c false 2), some (.map s'.E s'.ck true)]) (l2' := [some (objV f x r n cap m), some (.cells 47 s'.c false 2), some (.map s'.E s'.ck true)]) ⟨fun i a hi => ?_, ?_, fun i j hi hj e => ?_⟩ (Nat.le_refl _) ha (hw _ _) ?_ ?_
  · match i, hi with
    | 0, hi => simp at hi; subst hi; exact hv
    | 1, hi => simp at hi; subst hi; exact hr
    | 2, hi => simp at hi; subst hi; exact hm
    | i + 3, hi => simp at hi
  · exact .cons (ro_V (show 127 < 129 by decide) (show 128 < 129 by decide)) (.cons (.cells _ _ (l2_bareV b1) (.inl rfl)) (.cons (.map _ (bare_int hE) (.inl rfl)) .nil))
  · simp only [List.length_cons, List.length_nil] at hi hj
    match i, j, hi, hj, e with
    | 0, 0, _, _, _ => rfl
    | 1, 1, _, _, _ => rfl
    | 2, 2, _, _, _ => rfl
    | 0, 1, _, _, e => exact absurd e hd.1
    | 0, 2, _, _, e => exact absurd e hd.2.1
    | 1, 0, _, _, e => exact absurd e.symm hd.1
    | 1, 2, _, _, e => exact absurd e hd.2.2
    | 2, 0, _, _, e => exact absurd e.symm hd.2.1
    | 2, 1, _, _, e => exact absurd e.symm hd.2.2
  · exact .cons (.some (ro_V (show 127 < 129 by decide) (show 128 < 129 by decide))) (.cons (.some (.cells _ _ (l2_bareV b2) (.inl rfl))) (.cons (.some (.map _ (bare_int hE') (.inl rfl))) .nil))
  · exact c.mono fun v1 h1 ⟨e1, e2⟩ => ⟨e1, by rw [e2]; rfl, by rw [e2]; exact ⟨rfl, rfl, rfl, trivial⟩⟩
theorem wr_n {n : Nat} (h : n ≤ 1000000) : IntKind.i64.wrap (((n + 1 : Nat) : Int) - 1) = (n : Int) := by
  rw [wrap_small (by omega) (by omega)]; omega
theorem wr_p {n : Nat} (h : n ≤ 1000000) (h0 : 0 < n) : IntKind.i64.wrap ((n : Int) - 1) = ((n - 1 : Nat) : Int) := by
  rw [wrap_small (by omega) (by omega)]; omega
def objQ (q v : Nat) : AObj := .cells 54 [.pointer (some ⟨q, 0, none⟩), .pointer (some ⟨v, 0, none⟩)] true 2
theorem its_snoc {g : G} {n : Nat} (x y : Int) : its g n ++ [.int .i64 x, .int .i64 y] = its (upd g n (x, y)) (n + 1) := by
  show _ = its (upd g n (x, y)) n ++ [.int .i64 (upd g n (x, y) n).1, .int .i64 (upd g n (x, y) n).2]
  rw [its_congr (g := upd g n (x, y)) (g' := g) fun k hk => if_neg (by omega)]
  show _ = its g n ++ [.int .i64 (if n = n then (x, y) else g n).1, .int .i64 (if n = n then (x, y) else g n).2]
  rw [if_pos rfl]
set_option maxRecDepth 20000 in
theorem push_home (hη : OneCells η) (hmix : Try.prog.follows .mixedOrders = true) {f : Nat} {x : Int} {n : Nat} {s : QS} {g : G} (hf : isOrd f) (hs : s.c = its g n) (hE : intE s.E) (hn : n < 5000) (hx : x ≠ 1000000000000000) (y : Int) :
    CallSpec η Try.prog B 11 [.pointer (some ⟨126, 0, none⟩), .int .i64 y] (heapK f x n s) fun v h => v = tupL [.int .i64 x, .int .i64 0] ∧ h.next = 131 ∧ hasQ h.objs [some (objQ 126 127), some (objV f (IntKind.i64.wrap (x + 1)) 130 (n + 1) (capU 2) 129), none, some (.map (s.push f n x y).E (s.push f n x y).ck true), some (.cells 47 (s.push f n x y).c false 2)] 126 := by
  have hl := its_len g n
  obtain ⟨c, E, ck⟩ := s
  simp only at hs hE
  subst hs
  have hc : (QS.place ⟨its g n ++ [.int .i64 x, .int .i64 y], E, ck⟩ x n).c = its (upd g n (x, y)) (n + 1) := its_snoc x y
  have hp : intE (QS.place ⟨its g n ++ [.int .i64 x, .int .i64 y], E, ck⟩ x n).E := QS.place_int hE
  obtain ⟨u1, u2⟩ := up_G (f := f) (k := n + 1) hc (Nat.lt_succ_self n)
  have nnc : NoNames ((QS.place ⟨its g n ++ [.int .i64 x, .int .i64 y], E, ck⟩ x n).up f (n + 1) n).c := by rw [u1]; exact its_nn _ _
  have up := up_ok (B := B) (x := IntKind.i64.wrap (x + 1)) (cap := capU 2) hη hmix hf hc hp (Nat.le_refl _) (Nat.lt_succ_self n) (by omega)
  refine KPush.enter hη hmix (reg0 hη hmix) _ _ _ _ _ ?_
  simp only [W.holds, wr_n (n := n) (by omega), Int.toNat_natCast, true_and, and_true, true_implies, Nat.le_refl]
  refine ⟨fun q => by simp at q; omega, fun _ => ⟨fun q => absurd (by simpa using q) hx, fun _ => ⟨find_fE hE, fun _ => ⟨⟨hl, by omega⟩, fun _ => ⟨?_, ⟨nn_int (u2 hp), nnc⟩, fun _ => ?_⟩⟩⟩⟩⟩
  rotate_left
  · exact ⟨rfl, by kernel_rfl, by kernel_rfl, by kernel_rfl, by kernel_rfl, trivial⟩
  exact (any_ok hη (v := 127) (r := 154) (m := 129) (by kernel_rfl) (by kernel_rfl) (by kernel_rfl) ⟨by decide, by decide, by decide⟩ hc hp u1 (u2 hp) (.cons (.iface _ (.ptr (by decide))) (.cons (.int _ _) .nil)) (fun _ _ => .tuple rfl (fun i v w h => by simp at h)) up).conv (by kernel_rfl)
theorem push_home0 (hη : OneCells η) (hmix : Try.prog.follows .mixedOrders = true) {f : Nat} {x : Int} (hf : isOrd f) (hx : x ≠ 1000000000000000) (y : Int) :
    CallSpec η Try.prog B 11 [.pointer (some ⟨126, 0, none⟩), .int .i64 y] (heapK0 f x) fun v h => v = tupL [.int .i64 x, .int .i64 0] ∧ h.next = 126 + 4 ∧ hasQ h.objs [some (objQ 126 127), some (objV f (IntKind.i64.wrap (x + 1)) 129 1 (capU 2) 128), some (.map [{ key := .int .i64 x, val := .int .i64 0, born := 0 }] 1 true), some (.cells 47 [.int .i64 x, .int .i64 y] false 2)] 126 := by
  have hc : (QS.mk [.int .i64 x, .int .i64 y] [{ key := .int .i64 x, val := .int .i64 0, born := 0 }] 1).c = its (fun _ => (x, y)) 1 := rfl
  have hp : intE [{ key := .int .i64 x, val := .int .i64 0, born := 0 }] := fun e he => by
    rw [List.mem_singleton] at he; subst he; exact ⟨x, 0, rfl, rfl⟩
  have up := up_ok (B := B) (x := IntKind.i64.wrap (x + 1)) (cap := capU 2) (j := 0) hη hmix hf hc hp (Nat.le_refl _) (Nat.lt_succ_self 0) (by omega)
  have hu : (QS.mk [.int .i64 x, .int .i64 y] [{ key := .int .i64 x, val := .int .i64 0, born := 0 }] 1).up f (0 + 1) 0 = ⟨[.int .i64 x, .int .i64 y], [{ key := .int .i64 x, val := .int .i64 0, born := 0 }], 1⟩ := if_pos (.inl rfl)
  rw [hu] at up
  refine KPush0.enter hη hmix (reg0 hη hmix) _ _ _ ?_
  simp only [W.holds, true_and, and_true, true_implies]
  refine ⟨fun q => absurd (by simpa using q) hx, fun _ => ⟨?_, ?_⟩⟩
  rotate_left
  · exact ⟨rfl, by kernel_rfl, by kernel_rfl, by kernel_rfl, by kernel_rfl, trivial⟩
  exact (any_ok hη (v := 127) (r := 153) (m := 128) (by kernel_rfl) (by kernel_rfl) (by kernel_rfl) ⟨by decide, by decide, by decide⟩ hc hp hc hp (.cons (.iface _ (.ptr (by decide))) (.cons (.int _ _) .nil)) (fun _ _ => .tuple rfl (fun i v w h => by simp at h)) up).conv (by kernel_rfl)
theorem down_far {f n : Nat} {k : Nat} {g : G} {i a : Nat} (h : n ≤ a) : (downG f n k g i).1 a = g a :=
  down_inv (I := fun h => h a = g a) (fun q i j hi hj e => by rw [far_sw hi hj h]; exact e) rfl
/-- The items without the first one of n. -/
def popG (f n : Nat) (g : G) : G := upd (downG f (n - 1) (n - 1 + 1) (sw g 0 (n - 1)) 0).1 (n - 1) (0, 0)
theorem erase_int {E : List MapEntry} {i : Nat} (h : intE E) : intE (E.eraseIdx i) := fun e he => h e (List.mem_of_mem_eraseIdx he)
theorem del_int {E : List MapEntry} {q : Option (Nat × Value)} (h : intE E) : intE (mDel E q) := by
  cases q with
  | none => exact h
  | some p => exact erase_int h
theorem pop_G {f n m : Nat} {s : QS} {g : G} (hs : s.c = its g m) (hE : intE s.E) (h0 : 0 < n) (hn : n ≤ m) : (s.pop f n).c = its (popG f n g) m ∧ intE (s.pop f n).E := by
  have hc := QS.swap_c (i := 0) (j := n - 1) hs (by omega) (by omega)
  have hp : intE (s.swap 0 (n - 1)).E := QS.swap_int hE
  obtain ⟨d1, d2, d3⟩ := down_G (f := f) (n := n - 1) (k := n - 1 + 1) (i := 0) (by omega) hc
  unfold QS.pop popG
  refine ⟨?_, del_int (d3 hp)⟩
  show splice (QS.down f (n - 1) (n - 1 + 1) (s.swap 0 (n - 1)) 0).1.c ((n - 1) * 2) [.int .i64 0, .int .i64 0] = _
  rw [d1, splice_its (by omega)]
set_option maxRecDepth 20000 in
theorem pop_home (hη : OneCells η) (hmix : Try.prog.follows .mixedOrders = true) {f : Nat} {x : Int} {n m : Nat} {s : QS} {g : G} (hf : isOrd f) (hs : s.c = its g m) (hE : intE s.E) (h0 : 0 < n) (hn : n ≤ m) (hm : n ≤ 1000000) :
    CallSpec η Try.prog B 8 [.pointer (some ⟨126, 0, none⟩)] (heapK f x n s) fun v h => v = tupL [.int .i64 (g 0).1, .int .i64 (g 0).2, .int .i64 0] ∧ h.next = 126 + 4 ∧ hasQ h.objs [some (objQ 126 127), some (objV f x 128 (n - 1) (capU 2) 129), some (.cells 47 (s.pop f n).c false 2), some (.map (s.pop f n).E (s.pop f n).ck true)] 126 := by
  have hl := its_len g m
  have hc := QS.swap_c (i := 0) (j := n - 1) hs (by omega) (by omega)
  have hp : intE (s.swap 0 (n - 1)).E := QS.swap_int hE
  obtain ⟨d1, d2, d3⟩ := down_G (f := f) (n := n - 1) (k := n - 1 + 1) (i := 0) (by omega) hc
  have hE2 := d3 hp
  have hsw := swap_ok (B := B) (f := f) (x := x) (n := n) (cap := capU 2) (i := 0) (j := n - 1) hη hmix hs hE hn h0 (by omega)
  have dn := down_ok (B := B) (x := x) (n := n) (cap := capU 2) (i := 0) (k := n - 1) hη hmix hf hc hp hn (by omega) (by omega) hm
  have hlast : (downG f (n - 1) (n - 1 + 1) (sw g 0 (n - 1)) 0).1 (n - 1) = g 0 := by
    rw [down_far (Nat.le_refl _), sw_at, if_pos rfl]
  have hcut := its_cut (g := (downG f (n - 1) (n - 1 + 1) (sw g 0 (n - 1)) 0).1) (m := m) (k := n - 1) (by omega)
  have hint := its_int (g := (downG f (n - 1) (n - 1 + 1) (sw g 0 (n - 1)) 0).1) (m := m) (k := n - 1) (by omega)
  have hlen := its_len (downG f (n - 1) (n - 1 + 1) (sw g 0 (n - 1)) 0).1 m
  rw [hlast] at hcut hint
  have hfin : (s.pop f n).c = splice (QS.down f (n - 1) (n - 1 + 1) (s.swap 0 (n - 1)) 0).1.c ((n - 1) * 2) [.int .i64 0, .int .i64 0] ∧ (s.pop f n).E = mDel (QS.down f (n - 1) (n - 1 + 1) (s.swap 0 (n - 1)) 0).1.E (fE (QS.down f (n - 1) (n - 1 + 1) (s.swap 0 (n - 1)) 0).1.E (g 0).1) ∧ (s.pop f n).ck = (QS.down f (n - 1) (n - 1 + 1) (s.swap 0 (n - 1)) 0).1.ck := by
    unfold QS.pop
    refine ⟨rfl, ?_, rfl⟩
    show mDel _ (fE _ (intAt (QS.down f (n - 1) (n - 1 + 1) (s.swap 0 (n - 1)) 0).1.c ((n - 1) * 2))) = _
    rw [d1, hint.1]
  obtain ⟨p1, p2⟩ := pop_G (f := f) hs hE h0 hn
  rw [hfin.1] at p1
  rw [hfin.2.1] at p2
  have hrep : rep [Value.int .i64 0, .int .i64 0] (n - (n - 1)) = [.int .i64 0, .int .i64 0] := by rw [show n - (n - 1) = 1 by omega]; rfl
  obtain ⟨e1, e2, e3⟩ := hfin
  rw [e1, e2, e3]
  have eta : ∀ S : QS, QS.mk S.c S.E S.ck = S := fun S => rfl
  refine KPop.enter hη hmix (reg0 hη hmix) _ _ _ _ ?_
  simp only [W.holds, wr_p hm h0, show Int.toNat 0 = 0 from rfl, Int.toNat_natCast, Nat.zero_add, eta, hrep]
  generalize QS.down f (n - 1) (n - 1 + 1) (s.swap 0 (n - 1)) 0 = D at *
  obtain ⟨⟨Dc, DE, Dk⟩, Di⟩ := D
  have d1 : Dc = its (downG f (n - 1) (n - 1 + 1) (sw g 0 (n - 1)) 0).1 m := d1
  have hE2 : intE DE := hE2
  subst d1
  simp only [hcut, hint.1, hint.2, true_and, and_true, true_implies]
  have nn1 : NoNames (splice (its (downG f (n - 1) (n - 1 + 1) (sw g 0 (n - 1)) 0).1 m) ((n - 1) * 2) [.int .i64 0, .int .i64 0]) := by rw [p1]; exact its_nn _ _
  refine ⟨fun q => absurd (show n = 0 by simpa using q) (by omega), fun _ => ⟨?_, ?_, ⟨by omega, by omega⟩, fun _ => ⟨by omega, fun _ => ⟨⟨by omega, by omega, by decide, by omega, .inl (by omega)⟩, fun _ => ⟨by simp only [List.length_cons, List.length_nil]; omega, fun _ => ⟨fun q => absurd (show n - (n - 1) = 0 by simpa using q) (by omega), fun _ => ⟨⟨by omega, by omega, by decide, by omega, .inr trivial⟩, fun _ => ⟨find_fE hE2, fun _ => ⟨⟨nn1, nn_int (del_int hE2)⟩, fun _ => ⟨rfl, by kernel_rfl, by kernel_rfl, by kernel_rfl, by kernel_rfl, trivial⟩⟩⟩⟩⟩⟩⟩⟩⟩⟩
  · exact (any_ok hη (v := 127) (r := 128) (m := 129) (by kernel_rfl) (by kernel_rfl) (by kernel_rfl) ⟨by decide, by decide, by decide⟩ hs hE hc hp (.cons (.ptr (by decide)) (.cons (.int _ _) (.cons (.int _ _) .nil))) (fun _ _ => .tuple rfl (fun i v w h => by simp at h)) hsw).conv (by kernel_rfl)
  · exact (any_ok hη (v := 127) (r := 128) (m := 129) (by kernel_rfl) (by kernel_rfl) (by kernel_rfl) ⟨by decide, by decide, by decide⟩ hc hp (s' := ⟨_, DE, Dk⟩) rfl hE2 (.cons (.iface _ (.ptr (by decide))) (.cons (.int _ _) (.cons (.int _ _) .nil))) (fun _ _ => .bool _) dn).conv (by kernel_rfl)
end HQ
end Go.Ev

/- Contracts of queues, wherever they stand. -/
namespace Go.Ev
set_option linter.unusedVariables false
set_option linter.unusedSimpArgs false
open Go Go.Proofs Go.RowKit
variable {η : Nat → Value} {B : Bd}
namespace HQ
theorem ro_Q {q v : Nat} {σ : Nat → Nat} {N : Nat} {w : Bool} (hq : q < N) (hv : v < N) : RO σ N w (objQ q v) (objQ (σ q) (σ v)) := .cells _ _ (.cons (.ptr hq) (.cons (.ptr hv) .nil)) (.inl rfl)
/-- A queue, as it stands in a heap. -/
structure QAt (H : AH) (q v r m f : Nat) (x : Int) (n : Nat) (s : QS) : Prop where
  hq : H.objs.get q = some (objQ q v)
  hv : H.objs.get v = some (objV f x r n (capU 2) m)
  hr : H.objs.get r = some (.cells 47 s.c false 2)
  hm : H.objs.get m = some (.map s.E s.ck true)
  hd : q ≠ v ∧ q ≠ r ∧ q ≠ m ∧ v ≠ r ∧ v ≠ m ∧ r ≠ m
theorem tup_rv {σ : Nat → Nat} {N : Nat} {w : Bool} {l : List Value} (h : l.all bareV = true) : RV σ N w (tupL l) (tupL l) := .tuple rfl fun i v x h1 h2 => by
  have h1 : l[i]? = some v := h1
  have h2 : l[i]? = some x := h2
  rw [h1] at h2
  injection h2 with h2
  subst h2
  exact rv_bare (List.all_eq_true.1 h v (List.mem_of_getElem? h1))
theorem stands4 {H : AH} {q v r m f : Nat} {x : Int} {n : Nat} {s : QS} {g : G} {k : Nat} (a : QAt H q v r m f x n s) (hs : s.c = its g k) (hE : intE s.E) :
    Stands H [objQ 126 127, objV f x 128 n (capU 2) 129, .cells 47 s.c false 2, .map s.E s.ck true] [objQ q v, objV f x r n (capU 2) m, .cells 47 s.c false 2, .map s.E s.ck true] (rnK q v r m) := by
  have b1 : s.c.all bareV = true := by rw [hs]; exact its_bare g k
  obtain ⟨d1, d2, d3, d4, d5, d6⟩ := a.hd
  refine ⟨fun i a' hi => ?_, ?_, fun i j hi hj e => ?_⟩
  · match i, hi with
    | 0, hi => simp at hi; subst hi; exact a.hq
    | 1, hi => simp at hi; subst hi; exact a.hv
    | 2, hi => simp at hi; subst hi; exact a.hr
    | 3, hi => simp at hi; subst hi; exact a.hm
    | i + 4, hi => simp at hi
  · exact .cons (ro_Q (show 126 < 130 by decide) (show 127 < 130 by decide)) (.cons (ro_V (show 128 < 130 by decide) (show 129 < 130 by decide)) (.cons (.cells _ _ (l2_bareV b1) (.inl rfl)) (.cons (.map _ (bare_int hE) (.inl rfl)) .nil)))
  · simp only [List.length_cons, List.length_nil] at hi hj
    match i, j, hi, hj, e with
    | 0, 0, _, _, _ => rfl
    | 1, 1, _, _, _ => rfl
    | 2, 2, _, _, _ => rfl
    | 3, 3, _, _, _ => rfl
    | 0, 1, _, _, e => exact absurd e d1
    | 0, 2, _, _, e => exact absurd e d2
    | 0, 3, _, _, e => exact absurd e d3
    | 1, 0, _, _, e => exact absurd e.symm d1
    | 1, 2, _, _, e => exact absurd e d4
    | 1, 3, _, _, e => exact absurd e d5
    | 2, 0, _, _, e => exact absurd e.symm d2
    | 2, 1, _, _, e => exact absurd e.symm d4
    | 2, 3, _, _, e => exact absurd e d6
    | 3, 0, _, _, e => exact absurd e.symm d3
    | 3, 1, _, _, e => exact absurd e.symm d5
    | 3, 2, _, _, e => exact absurd e.symm d6
theorem push_form {f n : Nat} {s : QS} {g : G} {x : Int} (hs : s.c = its g n) (hE : intE s.E) (y : Int) : (s.push f n x y).c = its (upG f (n + 1) (upd g n (x, y)) n) (n + 1) ∧ intE (s.push f n x y).E := by
  have hc : (QS.place ⟨s.c ++ [.int .i64 x, .int .i64 y], s.E, s.ck⟩ x n).c = its (upd g n (x, y)) (n + 1) := by
    show s.c ++ [.int .i64 x, .int .i64 y] = _
    rw [hs, its_snoc]
  obtain ⟨u1, u2⟩ := up_G (f := f) (k := n + 1) hc (Nat.lt_succ_self n)
  exact ⟨u1, u2 (QS.place_int hE)⟩
theorem push_any (hη : OneCells η) (hmix : Try.prog.follows .mixedOrders = true) {H : AH} {q v r m f : Nat} {x : Int} {n : Nat} {s : QS} {g : G} (a : QAt H q v r m f x n s) (hf : isOrd f) (hs : s.c = its g n) (hE : intE s.E) (hn : n < 5000) (hx : x ≠ 1000000000000000) (y : Int) :
    CallSpec η Try.prog B 11 [.pointer (some ⟨q, 0, none⟩), .int .i64 y] H (KT.ret (tupL [.int .i64 x, .int .i64 0]) ⟨putL (keyQ (rnK q v r m) 4 H.next) [some (objQ q v), some (objV f (IntKind.i64.wrap (x + 1)) H.next (n + 1) (capU 2) m), none, some (.map (s.push f n x y).E (s.push f n x y).ck true), some (.cells 47 (s.push f n x y).c false 2)] 0 H.objs, H.next + (5 - 4)⟩).sat := by
  obtain ⟨p1, p2⟩ := push_form (f := f) (x := x) hs hE y
  have b2 : (s.push f n x y).c.all bareV = true := by rw [p1]; exact its_bare _ _
  refine CallSpec.move hη gs9 (l2 := [some (objQ 126 127), some (objV f (IntKind.i64.wrap (x + 1)) 130 (n + 1) (capU 2) 129), none, some (.map (s.push f n x y).E (s.push f n x y).ck true), some (.cells 47 (s.push f n x y).c false 2)])
    (args := [.pointer (some ⟨126, 0, none⟩), .int .i64 y]) (stands4 a hs hE) (by simp) (.cons (.ptr (show 126 < 130 by decide)) (.cons (.int _ _) .nil)) (tup_rv rfl) ?_ (push_home hη hmix hf hs hE hn hx y)
  exact .cons (.some (ro_Q (show 126 < 131 by decide) (show 127 < 131 by decide))) (.cons (.some (ro_V (r := 130) (m := 129) (show 130 < 131 by decide) (show 129 < 131 by decide))) (.cons .none (.cons (.some (.map _ (bare_int p2) (.inl rfl))) (.cons (.some (.cells _ _ (l2_bareV b2) (.inl rfl))) .nil))))
theorem pop_any (hη : OneCells η) (hmix : Try.prog.follows .mixedOrders = true) {H : AH} {q v r m f : Nat} {x : Int} {n k : Nat} {s : QS} {g : G} (a : QAt H q v r m f x n s) (hf : isOrd f) (hs : s.c = its g k) (hE : intE s.E) (h0 : 0 < n) (hn : n ≤ k) (hm : n ≤ 1000000) :
    CallSpec η Try.prog B 8 [.pointer (some ⟨q, 0, none⟩)] H (KT.ret (tupL [.int .i64 (g 0).1, .int .i64 (g 0).2, .int .i64 0]) ⟨putL (keyQ (rnK q v r m) 4 H.next) [some (objQ q v), some (objV f x r (n - 1) (capU 2) m), some (.cells 47 (s.pop f n).c false 2), some (.map (s.pop f n).E (s.pop f n).ck true)] 0 H.objs, H.next + (4 - 4)⟩).sat := by
  obtain ⟨p1, p2⟩ := pop_G (f := f) hs hE h0 hn
  have b2 : (s.pop f n).c.all bareV = true := by rw [p1]; exact its_bare _ _
  refine CallSpec.move hη gs9 (l2 := [some (objQ 126 127), some (objV f x 128 (n - 1) (capU 2) 129), some (.cells 47 (s.pop f n).c false 2), some (.map (s.pop f n).E (s.pop f n).ck true)])
    (args := [.pointer (some ⟨126, 0, none⟩)]) (stands4 a hs hE) (by simp) (.cons (.ptr (show 126 < 130 by decide)) .nil) (tup_rv rfl) ?_ (pop_home hη hmix hf hs hE h0 hn hm)
  exact .cons (.some (ro_Q (show 126 < 130 by decide) (show 127 < 130 by decide))) (.cons (.some (ro_V (r := 128) (m := 129) (show 128 < 130 by decide) (show 129 < 130 by decide))) (.cons (.some (.cells _ _ (l2_bareV b2) (.inl rfl))) (.cons (.some (.map _ (bare_int p2) (.inl rfl))) .nil)))
/-- A queue that has had no values. -/
structure QAt0 (H : AH) (q v m f : Nat) (x : Int) : Prop where
  hq : H.objs.get q = some (objQ q v)
  hv : H.objs.get v = some (.cells 58 [.func (.func f) #[] #[], .int .i64 x, .slice none 0 0, .map (some m)] true 2)
  hm : H.objs.get m = some (.map [] 0 true)
  hd : q ≠ v ∧ q ≠ m ∧ v ≠ m
theorem push_any0 (hη : OneCells η) (hmix : Try.prog.follows .mixedOrders = true) {H : AH} {q v m f : Nat} {x : Int} (a : QAt0 H q v m f x) (hf : isOrd f) (hx : x ≠ 1000000000000000) (y : Int) :
    CallSpec η Try.prog B 11 [.pointer (some ⟨q, 0, none⟩), .int .i64 y] H (KT.ret (tupL [.int .i64 x, .int .i64 0]) ⟨putL (keyQ (rnQ q v m) 3 H.next) [some (objQ q v), some (objV f (IntKind.i64.wrap (x + 1)) H.next 1 (capU 2) m), some (.map [{ key := .int .i64 x, val := .int .i64 0, born := 0 }] 1 true), some (.cells 47 [.int .i64 x, .int .i64 y] false 2)] 0 H.objs, H.next + (4 - 3)⟩).sat := by
  obtain ⟨d1, d2, d3⟩ := a.hd
  have hp : intE [{ key := .int .i64 x, val := .int .i64 0, born := 0 }] := fun e he => by
    rw [List.mem_singleton] at he; subst he; exact ⟨x, 0, rfl, rfl⟩
  have st : Stands H [objQ 126 127, .cells 58 [.func (.func f) #[] #[], .int .i64 x, .slice none 0 0, .map (some 128)] true 2, .map [] 0 true] [objQ q v, .cells 58 [.func (.func f) #[] #[], .int .i64 x, .slice none 0 0, .map (some m)] true 2, .map [] 0 true] (rnQ q v m) := by
    refine ⟨fun i a' hi => ?_, ?_, fun i j hi hj e => ?_⟩
    · match i, hi with
      | 0, hi => simp at hi; subst hi; exact a.hq
      | 1, hi => simp at hi; subst hi; exact a.hv
      | 2, hi => simp at hi; subst hi; exact a.hm
      | i + 3, hi => simp at hi
    · exact .cons (ro_Q (show 126 < 129 by decide) (show 127 < 129 by decide)) (.cons (.cells _ _ (.cons (rv_fn f) (.cons (.int _ _) (.cons (.slice0 _ _) (.cons (.map (show 128 < 129 by decide)) .nil)))) (.inl rfl)) (.cons (.map _ .nil (.inl rfl)) .nil))
    · simp only [List.length_cons, List.length_nil] at hi hj
      match i, j, hi, hj, e with
      | 0, 0, _, _, _ => rfl
      | 1, 1, _, _, _ => rfl
      | 2, 2, _, _, _ => rfl
      | 0, 1, _, _, e => exact absurd e d1
      | 0, 2, _, _, e => exact absurd e d2
      | 1, 0, _, _, e => exact absurd e.symm d1
      | 1, 2, _, _, e => exact absurd e d3
      | 2, 0, _, _, e => exact absurd e.symm d2
      | 2, 1, _, _, e => exact absurd e.symm d3
  refine CallSpec.move hη gs9 (l2 := [some (objQ 126 127), some (objV f (IntKind.i64.wrap (x + 1)) 129 1 (capU 2) 128), some (.map [{ key := .int .i64 x, val := .int .i64 0, born := 0 }] 1 true), some (.cells 47 [.int .i64 x, .int .i64 y] false 2)])
    (args := [.pointer (some ⟨126, 0, none⟩), .int .i64 y]) st (by simp) (.cons (.ptr (show 126 < 129 by decide)) (.cons (.int _ _) .nil)) (tup_rv rfl) ?_ (push_home0 hη hmix hf hx y)
  exact .cons (.some (ro_Q (show 126 < 130 by decide) (show 127 < 130 by decide))) (.cons (.some (ro_V (r := 129) (m := 128) (show 129 < 130 by decide) (show 128 < 130 by decide))) (.cons (.some (.map _ (bare_int hp) (.inl rfl))) (.cons (.some (.cells _ _ (.cons (.int _ _) (.cons (.int _ _) .nil)) (.inl rfl))) .nil)))
end HQ
end Go.Ev

namespace Go.Ev
set_option linter.unusedVariables false
set_option linter.unusedSimpArgs false
open Go Go.Proofs
open Go.Ev.T renaming node → nN, nil → nZ
open Go.Proofs.Try (prog)
set_option maxRecDepth 100000
set_option maxHeartbeats 2000000
namespace KNewT
set_option linter.unusedVariables false
noncomputable def bd : Code := (Go.Proofs.Try.f19.body).getD .skip
noncomputable def H0 (u : Nat) : AH := { objs := nZ, next := 126 }
noncomputable def E (u : Nat) : AS := ⟨⟨19, 12, nN (some (Value.func (Fn.func 20) ⟨[]⟩ ⟨[]⟩)) nZ nZ, [Item.code (codeAt bd [])], [], FrameMode.run, CallKind.normal, none⟩, [], ⟨nZ, 126⟩⟩
theorem enter {η : Nat → Value} {B : Bd} (hη : OneCells η) (hmix : prog.follows .mixedOrders = true) (hreg : RegOk η prog B nestE) {D : Value → AH → Prop} (u : Nat) (h : W.holds η prog B 19 (fun kp_ st_ => RunD η prog B 19 (H0 u) kp_ st_ (QF prog 126 D)) D (.need (True ∧ True ∧ True ∧ True) (.done 19 (Value.pointer (some ⟨126, 0, none⟩)) (⟨nN none (nN none (nN none (nN none (nN none (nN none (nN none (nN (some (AObj.cells 58 [Value.func (Fn.func 20) ⟨[]⟩ ⟨[]⟩, Value.int IntKind.i64 1, Value.slice none 0 0, Value.map (some 128)] true 2)) nZ nZ) nZ) nZ) nZ) nZ) nZ) nZ) (nN none (nN none (nN none (nN none (nN none (nN none (nN (some (AObj.map [] 0 true)) nZ nZ) nZ) nZ) nZ) nZ) nZ) (nN none nZ (nN none nZ (nN none nZ (nN none nZ (nN (some (AObj.cells 54 [Value.pointer (some ⟨126, 0, none⟩), Value.pointer (some ⟨127, 0, none⟩)] true 2)) nZ nZ)))))), 129⟩)))) : CallSpec η prog B 19 [Value.func (Fn.func 20) ⟨[]⟩ ⟨[]⟩] (H0 u) D := by
  refine CallSpec.ofQF hη (CallSpec.enter (fr := (E u).fr) (by kernel_rfl) ?_)
  exact walk_okT (h0 := H0 u) hη hmix hreg (.steps 168 <| .done (some ⟨129, [(152, 126), (138, 127), (140, 128)], [(126, (152, false)), (127, (138, false)), (128, (140, false))]⟩)) (E u) (by kernel_rfl) h (by kernel_rfl)
end KNewT
namespace KNewL
set_option linter.unusedVariables false
noncomputable def bd : Code := (Go.Proofs.Try.f19.body).getD .skip
noncomputable def H0 (u : Nat) : AH := { objs := nZ, next := 126 }
noncomputable def E (u : Nat) : AS := ⟨⟨19, 12, nN (some (Value.func (Fn.func 21) ⟨[]⟩ ⟨[]⟩)) nZ nZ, [Item.code (codeAt bd [])], [], FrameMode.run, CallKind.normal, none⟩, [], ⟨nZ, 126⟩⟩
theorem enter {η : Nat → Value} {B : Bd} (hη : OneCells η) (hmix : prog.follows .mixedOrders = true) (hreg : RegOk η prog B nestE) {D : Value → AH → Prop} (u : Nat) (h : W.holds η prog B 19 (fun kp_ st_ => RunD η prog B 19 (H0 u) kp_ st_ (QF prog 126 D)) D (.need (True ∧ True ∧ True ∧ True) (.done 19 (Value.pointer (some ⟨126, 0, none⟩)) (⟨nN none (nN none (nN none (nN none (nN none (nN none (nN none (nN (some (AObj.cells 58 [Value.func (Fn.func 21) ⟨[]⟩ ⟨[]⟩, Value.int IntKind.i64 1, Value.slice none 0 0, Value.map (some 128)] true 2)) nZ nZ) nZ) nZ) nZ) nZ) nZ) nZ) (nN none (nN none (nN none (nN none (nN none (nN none (nN (some (AObj.map [] 0 true)) nZ nZ) nZ) nZ) nZ) nZ) nZ) (nN none nZ (nN none nZ (nN none nZ (nN none nZ (nN (some (AObj.cells 54 [Value.pointer (some ⟨126, 0, none⟩), Value.pointer (some ⟨127, 0, none⟩)] true 2)) nZ nZ)))))), 129⟩)))) : CallSpec η prog B 19 [Value.func (Fn.func 21) ⟨[]⟩ ⟨[]⟩] (H0 u) D := by
  refine CallSpec.ofQF hη (CallSpec.enter (fr := (E u).fr) (by kernel_rfl) ?_)
  exact walk_okT (h0 := H0 u) hη hmix hreg (.steps 168 <| .done (some ⟨129, [(152, 126), (138, 127), (140, 128)], [(126, (152, false)), (127, (138, false)), (128, (140, false))]⟩)) (E u) (by kernel_rfl) h (by kernel_rfl)
end KNewL
namespace KOrd
set_option linter.unusedVariables false
noncomputable def bd : Code := (Go.Proofs.Try.f7.body).getD .skip
noncomputable def H0 (by_ : Int) : AH := { objs := nZ, next := 126 }
noncomputable def E (by_ : Int) : AS := ⟨⟨7, 6, nN (some (Value.int IntKind.u8 by_)) nZ nZ, [Item.code (codeAt bd [])], [], FrameMode.run, CallKind.normal, none⟩, [], ⟨nZ, 126⟩⟩
theorem enter {η : Nat → Value} {B : Bd} (hη : OneCells η) (hmix : prog.follows .mixedOrders = true) (hreg : RegOk η prog B noNest) {D : Value → AH → Prop} (by_ : Int) (h : W.holds η prog B 7 (fun kp_ st_ => RunD η prog B 7 (H0 by_) kp_ st_ (QF prog 126 D)) D (.ite (by_.tmod (2 : Int) == (1 : Int)) (.done 7 (Value.func (Fn.func 20) ⟨[]⟩ ⟨[]⟩) (H0 by_)) (.done 7 (Value.func (Fn.func 21) ⟨[]⟩ ⟨[]⟩) (H0 by_)))) : CallSpec η prog B 7 [Value.int IntKind.u8 by_] (H0 by_) D := by
  refine CallSpec.ofQF hη (CallSpec.enter (fr := (E by_).fr) (by kernel_rfl) ?_)
  exact walk_okT (h0 := H0 by_) hη hmix hreg (.steps 11 <| .bit 5 (.steps 6 <| .done none) (.steps 7 <| .done none)) (E by_) (by kernel_rfl) h (by kernel_rfl)
end KOrd
namespace KPop0
set_option linter.unusedVariables false
noncomputable def bd : Code := (Go.Proofs.Try.f8.body).getD .skip
noncomputable def H0 (u : Nat) : AH := { objs := nN none (nN none (nN none (nN none (nN none (nN none (nN none (nN (some (AObj.cells 58 [Value.chan none, Value.chan none, Value.slice none 0 0, Value.chan none] true 0)) nZ nZ) nZ) nZ) nZ) nZ) nZ) nZ) (nN none nZ (nN none nZ (nN none nZ (nN none nZ (nN none nZ (nN (some (AObj.cells 54 [Value.pointer (some ⟨126, 0, none⟩), Value.pointer (some ⟨127, 0, none⟩)] true 0)) nZ nZ)))))), next := 128 }
noncomputable def E (u : Nat) : AS := ⟨⟨8, 25, nN (some (Value.pointer (some ⟨126, 0, none⟩))) nZ nZ, [Item.code (codeAt bd [])], [], FrameMode.run, CallKind.normal, none⟩, [], ⟨nN none (nN none (nN none (nN none (nN none (nN none (nN none (nN (some (AObj.cells 58 [Value.chan none, Value.chan none, Value.slice none 0 0, Value.chan none] true 0)) nZ nZ) nZ) nZ) nZ) nZ) nZ) nZ) (nN none nZ (nN none nZ (nN none nZ (nN none nZ (nN none nZ (nN (some (AObj.cells 54 [Value.pointer (some ⟨126, 0, none⟩), Value.pointer (some ⟨127, 0, none⟩)] true 0)) nZ nZ)))))), 128⟩⟩
theorem enter {η : Nat → Value} {B : Bd} (hη : OneCells η) (hmix : prog.follows .mixedOrders = true) (hreg : RegOk η prog B noNest) {D : Value → AH → Prop} (u : Nat) (h : W.holds η prog B 8 (fun kp_ st_ => RunD η prog B 8 (H0 u) kp_ st_ (QF prog 128 D)) D (.done 8 (Value.tuple ⟨[Value.int IntKind.i64 0, Value.int IntKind.i64 0, Value.int IntKind.i64 4]⟩) (H0 u))) : CallSpec η prog B 8 [Value.pointer (some ⟨126, 0, none⟩)] (H0 u) D := by
  refine CallSpec.ofQF hη (CallSpec.enter (fr := (E u).fr) (by kernel_rfl) ?_)
  exact walk_okT (h0 := H0 u) hη hmix hreg (.steps 110 <| .done none) (E u) (by kernel_rfl) h (by kernel_rfl)
end KPop0
namespace KPopE
set_option linter.unusedVariables false
noncomputable def bd : Code := (Go.Proofs.Try.f8.body).getD .skip
noncomputable def H0 (c : List Value) : AH := { objs := nN none (nN none (nN none (nN none (nN none (nN none (nN none (nN (some (AObj.cells 58 [Value.chan none, Value.chan none, Value.slice (some ⟨128, 0, none⟩) 0 9223372036854775810, Value.chan none] true 0)) nZ nZ) nZ) nZ) nZ) nZ) nZ) nZ) (nN none (nN none (nN none (nN none (nN none (nN none (nN (some (AObj.cells 47 c false 0)) nZ nZ) nZ) nZ) nZ) nZ) nZ) (nN none nZ (nN none nZ (nN none nZ (nN none nZ (nN (some (AObj.cells 54 [Value.pointer (some ⟨126, 0, none⟩), Value.pointer (some ⟨127, 0, none⟩)] true 0)) nZ nZ)))))), next := 129 }
noncomputable def E (c : List Value) : AS := ⟨⟨8, 25, nN (some (Value.pointer (some ⟨126, 0, none⟩))) nZ nZ, [Item.code (codeAt bd [])], [], FrameMode.run, CallKind.normal, none⟩, [], ⟨nN none (nN none (nN none (nN none (nN none (nN none (nN none (nN (some (AObj.cells 58 [Value.chan none, Value.chan none, Value.slice (some ⟨128, 0, none⟩) 0 9223372036854775810, Value.chan none] true 0)) nZ nZ) nZ) nZ) nZ) nZ) nZ) nZ) (nN none (nN none (nN none (nN none (nN none (nN none (nN (some (AObj.cells 47 c false 0)) nZ nZ) nZ) nZ) nZ) nZ) nZ) (nN none nZ (nN none nZ (nN none nZ (nN none nZ (nN (some (AObj.cells 54 [Value.pointer (some ⟨126, 0, none⟩), Value.pointer (some ⟨127, 0, none⟩)] true 0)) nZ nZ)))))), 129⟩⟩
theorem enter {η : Nat → Value} {B : Bd} (hη : OneCells η) (hmix : prog.follows .mixedOrders = true) (hreg : RegOk η prog B noNest) {D : Value → AH → Prop} (c : List Value) (h : W.holds η prog B 8 (fun kp_ st_ => RunD η prog B 8 (H0 c) kp_ st_ (QF prog 129 D)) D (.done 8 (Value.tuple ⟨[Value.int IntKind.i64 0, Value.int IntKind.i64 0, Value.int IntKind.i64 4]⟩) (H0 c))) : CallSpec η prog B 8 [Value.pointer (some ⟨126, 0, none⟩)] (H0 c) D := by
  refine CallSpec.ofQF hη (CallSpec.enter (fr := (E c).fr) (by kernel_rfl) ?_)
  exact walk_okT (h0 := H0 c) hη hmix hreg (.steps 110 <| .done none) (E c) (by kernel_rfl) h (by kernel_rfl)
end KPopE
end Go.Ev

/- Contracts of queues: New, Pop of none; order, awake. -/
namespace Go.Ev
set_option linter.unusedVariables false
set_option linter.unusedSimpArgs false
open Go Go.Proofs Go.RowKit
variable {η : Nat → Value} {B : Bd}
namespace HQ
theorem regE (hη : OneCells η) (hmix : Try.prog.follows .mixedOrders = true) : RegOk η Try.prog B nestE := regionA_ok hη hmix (nestA_ok hη hmix _ _)
theorem order_T (hη : OneCells η) (hmix : Try.prog.follows .mixedOrders = true) {b : Int} (hb : b.tmod 2 = 1) (h : AH) : CallSpec η Try.prog B 7 [.int .u8 b] h (KT.ret (.func (.func 20) #[] #[]) h).sat := by
  refine CallSpec.bare hη gs9 (fun _ _ => .cons (.int _ _) .nil) (fun _ _ => rv_fn _) (fun _ _ => rv_fn _) ?_ h
  refine KOrd.enter hη hmix (reg0 hη hmix) _ ?_
  simp only [W.holds, true_and, beq_iff_eq, beq_eq_false_iff_ne]
  exact ⟨fun _ => trivial, fun q => absurd hb q⟩
theorem order_L (hη : OneCells η) (hmix : Try.prog.follows .mixedOrders = true) {b : Int} (hb : b.tmod 2 ≠ 1) (h : AH) : CallSpec η Try.prog B 7 [.int .u8 b] h (KT.ret (.func (.func 21) #[] #[]) h).sat := by
  refine CallSpec.bare hη gs9 (fun _ _ => .cons (.int _ _) .nil) (fun _ _ => rv_fn _) (fun _ _ => rv_fn _) ?_ h
  refine KOrd.enter hη hmix (reg0 hη hmix) _ ?_
  simp only [W.holds, true_and, beq_iff_eq, beq_eq_false_iff_ne]
  exact ⟨fun q => absurd q hb, fun _ => trivial⟩
theorem new_any (hη : OneCells η) (hmix : Try.prog.follows .mixedOrders = true) {f : Nat} (hf : isOrd f) (H : AH) :
    CallSpec η Try.prog B 19 [.func (.func f) #[] #[]] H (KT.ret (.pointer (some ⟨H.next, 0, none⟩)) ⟨putL (keyQ (fun _ => 0) 0 H.next) [some (objQ H.next (H.next + 1)), some (.cells 58 [.func (.func f) #[] #[], .int .i64 1, .slice none 0 0, .map (some (H.next + 2))] true 2), some (.map [] 0 true)] 0 H.objs, H.next + (3 - 0)⟩).sat := by
  refine CallSpec.move hη gs9 (rn := fun _ => 0) (l := []) (l' := []) (args := [.func (.func f) #[] #[]]) (v := .pointer (some ⟨126, 0, none⟩)) (l2 := [some (objQ 126 127), some (.cells 58 [.func (.func f) #[] #[], .int .i64 1, .slice none 0 0, .map (some 128)] true 2), some (.map [] 0 true)]) ⟨fun i a' hi => by simp at hi, .nil, fun i j hi _ _ => by simp at hi⟩ (by simp) (.cons (rv_fn f) .nil) (.ptr (show 126 < 129 by decide)) ?_ ?_
  · exact .cons (.some (ro_Q (show 126 < 129 by decide) (show 127 < 129 by decide))) (.cons (.some (.cells _ _ (.cons (rv_fn f) (.cons (.int _ _) (.cons (.slice0 _ _) (.cons (.map (show 128 < 129 by decide)) .nil)))) (.inl rfl))) (.cons (.some (.map _ .nil (.inl rfl))) .nil))
  · rcases hf with rfl | rfl
    · refine KNewT.enter hη hmix (regE hη hmix) 0 ?_
      simp only [W.holds, true_and, and_true, true_implies]
      exact ⟨rfl, by kernel_rfl, by kernel_rfl, by kernel_rfl, trivial⟩
    · refine KNewL.enter hη hmix (regE hη hmix) 0 ?_
      simp only [W.holds, true_and, and_true, true_implies]
      exact ⟨rfl, by kernel_rfl, by kernel_rfl, by kernel_rfl, trivial⟩
set_option maxRecDepth 100000 in
theorem awake_ok (hη : OneCells η) (hmix : Try.prog.follows .mixedOrders = true) (h : AH) : CallSpec η Try.prog B 5 [] h (KT.ret (.bool true) h).sat := by
  refine CallSpec.bare hη gs9 (N := 126) (fun _ _ => .nil) (fun _ _ => .bool _) (fun _ _ => .bool _) ?_ h
  have k : isTrue (callA Try.prog 100000 20 5 [] (heapN 126)) = true := by kernel_rfl
  obtain ⟨h', hc⟩ := isTrue_ok k
  exact (CallSpec.eval hη hmix hc).mono fun v1 h1 hh => hh.1
end HQ
end Go.Ev

/- Queues: what is popped, in its order: plain mathematics; Pop of none. -/
namespace Go.Ev
set_option linter.unusedVariables false
set_option linter.unusedSimpArgs false
open Go Go.Proofs Go.RowKit
variable {η : Nat → Value} {B : Bd}
theorem CallSpec.iteF {P : Program} {f : FuncId} {args : List Value} {h : AH} {b : Bool} {x y : KT} (hb : b = false) (c : CallSpec η P B f args h y.sat) : CallSpec η P B f args h (KT.ite b x y).sat := c.mono fun _ _ q => .inr ⟨hb, q⟩
theorem CallSpec.iteT {P : Program} {f : FuncId} {args : List Value} {h : AH} {b : Bool} {x y : KT} (hb : b = true) (c : CallSpec η P B f args h x.sat) : CallSpec η P B f args h (KT.ite b x y).sat := c.mono fun _ _ q => .inl ⟨hb, q⟩
namespace HQ
theorem pop_none0 (hη : OneCells η) (hmix : Try.prog.follows .mixedOrders = true) {H : AH} {q v m f : Nat} {x : Int} (a : QAt0 H q v m f x) :
    CallSpec η Try.prog B 8 [.pointer (some ⟨q, 0, none⟩)] H (KT.ret (tupL [.int .i64 0, .int .i64 0, .int .i64 4]) H).sat := by
  obtain ⟨d1, d2, d3⟩ := a.hd
  have st : Stands H [.cells 54 [.pointer (some ⟨126, 0, none⟩), .pointer (some ⟨127, 0, none⟩)] true 0, .cells 58 [.chan none, .chan none, .slice none 0 0, .chan none] true 0] [objQ q v, .cells 58 [.func (.func f) #[] #[], .int .i64 x, .slice none 0 0, .map (some m)] true 2] (rnQ q v m) := by
    refine ⟨fun i a' hi => ?_, ?_, fun i j hi hj e => ?_⟩
    · match i, hi with
      | 0, hi => simp at hi; subst hi; exact a.hq
      | 1, hi => simp at hi; subst hi; exact a.hv
      | i + 2, hi => simp at hi
    · exact .cons (.cells _ _ (.cons (.ptr (show 126 < 128 by decide)) (.cons (.ptr (show 127 < 128 by decide)) .nil)) (.inr ⟨rfl, rfl⟩)) (.cons (.cells _ _ (.cons (.any rfl rfl) (.cons (.any rfl rfl) (.cons (.slice0 _ _) (.cons (.any rfl rfl) .nil)))) (.inr ⟨rfl, rfl⟩)) .nil)
    · simp only [List.length_cons, List.length_nil] at hi hj
      match i, j, hi, hj, e with
      | 0, 0, _, _, _ => rfl
      | 1, 1, _, _, _ => rfl
      | 0, 1, _, _, e => exact absurd e d1
      | 1, 0, _, _, e => exact absurd e.symm d1
  refine CallSpec.look hη gs9 (args := [.pointer (some ⟨126, 0, none⟩)]) st (fun a ha => by simp at ha; rcases ha with rfl | rfl <;> rfl) (.cons (.ptr (show 126 < 128 by decide)) .nil) (fun _ _ => tup_rv rfl) ?_
  refine KPop0.enter hη hmix (reg0 hη hmix) 0 ?_
  simp only [W.holds, true_and, and_true, true_implies]
  exact ⟨rfl, rfl⟩
theorem pop_none (hη : OneCells η) (hmix : Try.prog.follows .mixedOrders = true) {H : AH} {q v r m f : Nat} {x : Int} {s : QS} {g : G} {k : Nat} (a : QAt H q v r m f x 0 s) (hs : s.c = its g k) :
    CallSpec η Try.prog B 8 [.pointer (some ⟨q, 0, none⟩)] H (KT.ret (tupL [.int .i64 0, .int .i64 0, .int .i64 4]) H).sat := by
  obtain ⟨d1, d2, d3, d4, d5, d6⟩ := a.hd
  have b1 : s.c.all bareV = true := by rw [hs]; exact its_bare g k
  have st : Stands H [.cells 54 [.pointer (some ⟨126, 0, none⟩), .pointer (some ⟨127, 0, none⟩)] true 0, .cells 58 [.chan none, .chan none, .slice (some ⟨128, 0, none⟩) 0 (capU 2), .chan none] true 0, .cells 47 s.c false 0] [objQ q v, objV f x r 0 (capU 2) m, .cells 47 s.c false 2] (rnQ q v r) := by
    refine ⟨fun i a' hi => ?_, ?_, fun i j hi hj e => ?_⟩
    · match i, hi with
      | 0, hi => simp at hi; subst hi; exact a.hq
      | 1, hi => simp at hi; subst hi; exact a.hv
      | 2, hi => simp at hi; subst hi; exact a.hr
      | i + 3, hi => simp at hi
    · exact .cons (.cells _ _ (.cons (.ptr (show 126 < 129 by decide)) (.cons (.ptr (show 127 < 129 by decide)) .nil)) (.inr ⟨rfl, rfl⟩)) (.cons (.cells _ _ (.cons (.any rfl rfl) (.cons (.any rfl rfl) (.cons (.slice _ _ (show 128 < 129 by decide)) (.cons (.any rfl rfl) .nil)))) (.inr ⟨rfl, rfl⟩)) (.cons (.cells _ _ (l2_bareV b1) (.inr ⟨rfl, rfl⟩)) .nil))
    · simp only [List.length_cons, List.length_nil] at hi hj
      match i, j, hi, hj, e with
      | 0, 0, _, _, _ => rfl
      | 1, 1, _, _, _ => rfl
      | 2, 2, _, _, _ => rfl
      | 0, 1, _, _, e => exact absurd e d1
      | 0, 2, _, _, e => exact absurd e d2
      | 1, 0, _, _, e => exact absurd e.symm d1
      | 1, 2, _, _, e => exact absurd e d4
      | 2, 0, _, _, e => exact absurd e.symm d2
      | 2, 1, _, _, e => exact absurd e.symm d4
  refine CallSpec.look hη gs9 (args := [.pointer (some ⟨126, 0, none⟩)]) st (fun a ha => by simp at ha; rcases ha with rfl | rfl | rfl <;> rfl) (.cons (.ptr (show 126 < 129 by decide)) .nil) (fun _ _ => tup_rv rfl) ?_
  refine KPopE.enter hη hmix (reg0 hη hmix) s.c ?_
  simp only [W.holds, true_and, and_true, true_implies]
  exact ⟨rfl, rfl⟩
theorem pop_at (hη : OneCells η) (hmix : Try.prog.follows .mixedOrders = true) {H : AH} {q v r m f : Nat} {x : Int} {n k : Nat} {s : QS} {g : G} {u w : Int} (h1 : (g 0).1 = u) (h2 : (g 0).2 = w) (a : QAt H q v r m f x n s) (hf : isOrd f) (hs : s.c = its g k) (hE : intE s.E) (h0 : 0 < n) (hn : n ≤ k) (hm : n ≤ 1000000) :
    CallSpec η Try.prog B 8 [.pointer (some ⟨q, 0, none⟩)] H (KT.ret (tupL [.int .i64 u, .int .i64 w, .int .i64 0]) ⟨putL (keyQ (rnK q v r m) 4 H.next) [some (objQ q v), some (objV f x r (n - 1) (capU 2) m), some (.cells 47 (s.pop f n).c false 2), some (.map (s.pop f n).E (s.pop f n).ck true)] 0 H.objs, H.next + (4 - 4)⟩).sat := by
  subst h1; subst h2; exact pop_any hη hmix a hf hs hE h0 hn hm
theorem push_at (hη : OneCells η) (hmix : Try.prog.follows .mixedOrders = true) {H : AH} {q v r m f : Nat} {x x' : Int} {n : Nat} {s : QS} {g : G} (hx' : IntKind.i64.wrap (x + 1) = x') (a : QAt H q v r m f x n s) (hf : isOrd f) (hs : s.c = its g n) (hE : intE s.E) (hn : n < 5000) (hx : x ≠ 1000000000000000) (y : Int) :
    CallSpec η Try.prog B 11 [.pointer (some ⟨q, 0, none⟩), .int .i64 y] H (KT.ret (tupL [.int .i64 x, .int .i64 0]) ⟨putL (keyQ (rnK q v r m) 4 H.next) [some (objQ q v), some (objV f x' H.next (n + 1) (capU 2) m), none, some (.map (s.push f n x y).E (s.push f n x y).ck true), some (.cells 47 (s.push f n x y).c false 2)] 0 H.objs, H.next + (5 - 4)⟩).sat := by
  subst hx'; exact push_any hη hmix a hf hs hE hn hx y
/- seen -/
def bls (sb : Nat → Bool) (n : Nat) : List Value := (List.range n).map fun j => .bool (sb j)
theorem bls_len (sb : Nat → Bool) (n : Nat) : (bls sb n).length = n := by unfold bls; simp
theorem bls_get {sb : Nat → Bool} {n j : Nat} (h : j < n) : (bls sb n)[j]? = some (.bool (sb j)) := by
  unfold bls; rw [List.getElem?_map, List.getElem?_range h]; rfl
theorem bls_bool {sb : Nat → Bool} {n j : Nat} (h : j < n) : boolAt (bls sb n) j = sb j := by unfold boolAt; rw [bls_get h]
theorem bls_nn (sb : Nat → Bool) (n : Nat) : NoNames (bls sb n) := by
  intro v hv
  unfold bls at hv
  obtain ⟨j, _, rfl⟩ := List.mem_map.1 hv
  rfl
theorem bls_set {sb : Nat → Bool} {n j : Nat} (h : j < n) : splice (bls sb n) j [.bool true] = bls (fun k => if k = j then true else sb k) n := by
  have hb : j + [Value.bool true].length ≤ (bls sb n).length := by rw [bls_len]; simp only [List.length_cons, List.length_nil]; omega
  apply List.ext_getElem?
  intro i
  rw [splice_get hb]
  simp only [List.length_cons, List.length_nil]
  rcases Nat.lt_or_ge i n with hi | hi
  · rw [bls_get hi, bls_get hi]
    by_cases e : i = j
    · subst e
      rw [if_neg (Nat.lt_irrefl i), if_pos (show i < i + (0 + 1) by omega), Nat.sub_self, if_pos rfl]; rfl
    · rw [if_neg e]
      by_cases q : i < j
      · rw [if_pos q]
      · rw [if_neg q, if_neg (show ¬ i < j + (0 + 1) by omega)]
  · rw [List.getElem?_eq_none (l := bls sb n) (by rw [bls_len]; exact hi), if_neg (show ¬ i < j by omega), if_neg (show ¬ i < j + (0 + 1) by omega)]
    exact (List.getElem?_eq_none (by rw [bls_len]; exact hi)).symm
theorem rep_bls : ∀ n, rep [Value.bool false] n = bls (fun _ => false) n
  | 0 => rfl
  | n + 1 => by
    unfold rep
    rw [rep_bls n]
    unfold bls
    simp [List.range_succ_eq_map]
/- the order in which values are pushed and popped -/
def Src (src : Nat → Int) (n : Nat) (p : Int × Int) : Prop := ∃ j : Nat, j < n ∧ p = (((j + 1 : Nat) : Int), src j)
structure PushInv (f : Nat) (src : Nat → Int) (i : Nat) (g : G) : Prop where
  heap : heapG f i g
  dis : distinct i g
  src : ∀ k, k < i → Src src i (g k)
theorem PushInv.step {f : Nat} {src : Nat → Int} {i : Nat} {g : G} (h : PushInv f src i g) : PushInv f src (i + 1) (upG f (i + 1) (upd g i (((i + 1 : Nat) : Int), src i)) i) := by
  have u0 : ∀ k, k < i → upd g i (((i + 1 : Nat) : Int), src i) k = g k := fun k hk => if_neg (by omega)
  have u1 : upd g i (((i + 1 : Nat) : Int), src i) i = (((i + 1 : Nat) : Int), src i) := if_pos rfl
  have hs : ∀ k, k < i + 1 → Src src (i + 1) (upd g i (((i + 1 : Nat) : Int), src i) k) := by
    intro k hk
    by_cases e : k = i
    · rw [e, u1]; exact ⟨i, Nat.lt_succ_self i, rfl⟩
    · rw [u0 k (by omega)]
      obtain ⟨j, h1, h2⟩ := h.src k (by omega)
      exact ⟨j, by omega, h2⟩
  refine ⟨up_heap (by omega) (by omega) (fun a ha hai hne => ?_) (fun a ha hai he h0 => by omega), ?_, ?_⟩
  · rw [u0 a (by omega), u0 _ (by omega)]; exact h.heap a ha (by omega)
  · refine up_inv (I := distinct (i + 1)) (fun g a b ha hb hd => distinct_sw ha hb hd) (Nat.lt_succ_self i) ?_
    intro a b ha hb e
    by_cases ea : a = i
    · by_cases eb : b = i
      · omega
      · rw [ea, u1, u0 b (by omega)] at e
        obtain ⟨j, h1, h2⟩ := h.src b (by omega)
        rw [h2] at e
        simp only at e; omega
    · by_cases eb : b = i
      · rw [eb, u1, u0 a (by omega)] at e
        obtain ⟨j, h1, h2⟩ := h.src a (by omega)
        rw [h2] at e
        simp only at e; omega
      · rw [u0 a (by omega), u0 b (by omega)] at e
        exact h.dis a b (by omega) (by omega) e
  · exact up_inv (I := fun g => ∀ k, k < i + 1 → Src src (i + 1) (g k)) (fun g a b ha hb hd => all_sw ha hb hd) (Nat.lt_succ_self i) hs
structure PopInv (f : Nat) (src : Nat → Int) (n a : Nat) (g : G) (sb : Nat → Bool) (at_ last : Int) : Prop where
  le : a ≤ n
  heap : heapG f (n - a) g
  dis : distinct (n - a) g
  src : ∀ k, k < n - a → Src src n (g k)
  fresh : ∀ k, k < n - a → sb ((g k).1 - 1).toNat = false
  last : 0 < a → ∀ k, k < n - a → ¬ lt f (g k) (at_, last) ∧ (g k).1 ≠ at_
theorem PushInv.pop {f : Nat} {src : Nat → Int} {n : Nat} {g : G} (h : PushInv f src n g) : PopInv f src n 0 g (fun _ => false) 0 0 :=
  ⟨Nat.zero_le _, h.heap, h.dis, h.src, fun _ _ => rfl, fun h => absurd h (Nat.lt_irrefl 0)⟩
theorem PopInv.step {f : Nat} {src : Nat → Int} {n a : Nat} {g : G} {sb : Nat → Bool} {at_ last : Int} (h : PopInv f src n a g sb at_ last) (ha : a < n) :
    PopInv f src n (a + 1) (popG f (n - a) g) (fun k => if k = ((g 0).1 - 1).toNat then true else sb k) (g 0).1 (g 0).2 := by
  have hm : 0 < n - a := by omega
  have e1 : n - (a + 1) = n - a - 1 := by omega
  have hle := h.le
  -- before the exchanges
  have b0 : ∀ k, k < n - a - 1 → Src src n (sw g 0 (n - a - 1) k) ∧ sb ((sw g 0 (n - a - 1) k).1 - 1).toNat = false ∧ (sw g 0 (n - a - 1) k).1 ≠ (g 0).1 ∧ ¬ lt f (sw g 0 (n - a - 1) k) (g 0) := by
    intro k hk
    rw [sw_at, if_neg (by omega)]
    by_cases c : k = 0
    · rw [if_pos c]
      exact ⟨h.src _ (by omega), h.fresh _ (by omega), fun e => by have := h.dis _ _ (by omega) hm e; omega, heap_min h.heap _ (by omega)⟩
    · rw [if_neg c]
      exact ⟨h.src _ (by omega), h.fresh _ (by omega), fun e => by have := h.dis _ _ (by omega) hm e; omega, heap_min h.heap _ (by omega)⟩
  have b1 := down_inv (f := f) (n := n - a - 1) (k := n - a - 1 + 1) (i := 0) (I := fun g' => ∀ k, k < n - a - 1 → Src src n (g' k) ∧ sb ((g' k).1 - 1).toNat = false ∧ (g' k).1 ≠ (g 0).1 ∧ ¬ lt f (g' k) (g 0)) (fun g' i j hi hj hd => all_sw (p := fun p => Src src n p ∧ sb (p.1 - 1).toNat = false ∧ p.1 ≠ (g 0).1 ∧ ¬ lt f p (g 0)) hi hj hd) b0
  have d0 : distinct (n - a - 1) (sw g 0 (n - a - 1)) := by
    intro x y hx hy e
    exact distinct_sw (n := n - a) hm (by omega) h.dis x y (by omega) (by omega) e
  have d1 := down_inv (f := f) (n := n - a - 1) (k := n - a - 1 + 1) (i := 0) (I := distinct (n - a - 1)) (fun g' i j hi hj hd => distinct_sw hi hj hd) d0
  have h1 : heapG f (n - a - 1) (downG f (n - a - 1) (n - a - 1 + 1) (sw g 0 (n - a - 1)) 0).1 := by
    refine down_heap (by omega) (fun x hx hxn hp => ?_) (fun x hx hxn hp h0 => absurd h0 (Nat.lt_irrefl 0))
    rw [sw_at, sw_at, if_neg (show ¬ x = n - a - 1 by omega), if_neg (show ¬ x = 0 by omega), if_neg (show ¬ (x - 1) / 2 = n - a - 1 by omega), if_neg hp]
    exact h.heap x hx (by omega)
  have p0 : ∀ k, k < n - a - 1 → popG f (n - a) g k = (downG f (n - a - 1) (n - a - 1 + 1) (sw g 0 (n - a - 1)) 0).1 k := fun k hk => if_neg (by omega)
  refine ⟨by omega, ?_, ?_, ?_, ?_, ?_⟩
  · rw [e1]
    intro k hk hkn
    rw [p0 k hkn, p0 _ (by omega)]; exact h1 k hk hkn
  · rw [e1]
    intro x y hx hy e
    rw [p0 x hx, p0 y hy] at e
    exact d1 x y hx hy e
  · rw [e1]
    intro k hk
    rw [p0 k hk]; exact (b1 k hk).1
  · rw [e1]
    intro k hk
    rw [p0 k hk]
    obtain ⟨q1, q2, q3, _⟩ := b1 k hk
    obtain ⟨j, j1, j2⟩ := q1
    obtain ⟨i, i1, i2⟩ := h.src 0 hm
    rw [if_neg]
    · exact q2
    · rw [j2, i2] at q3
      rw [j2, i2]
      simp only at q3 ⊢
      omega
  · rw [e1]
    intro _ k hk
    rw [p0 k hk]
    exact ⟨(b1 k hk).2.2.2, (b1 k hk).2.2.1⟩
end HQ
end Go.Ev

namespace Go.Ev
set_option linter.unusedVariables false
set_option linter.unusedSimpArgs false
open Go Go.Proofs
open Go.Ev.T renaming node → nN, nil → nZ
open Go.Proofs.Try (prog)
set_option maxRecDepth 100000
set_option maxHeartbeats 2000000
namespace KSortT
set_option linter.unusedVariables false
noncomputable def bd : Code := (Go.Proofs.Try.f3.body).getD .skip
noncomputable def bd6 : Code := (Go.Proofs.Try.f6.body).getD .skip
noncomputable def H0 (by_ : Int) (ty : Nat) (o : Nat) (c : List Value) (n : Nat) (cap : Nat) : AH := { objs := nN none nZ (nN none nZ (nN none nZ (nN none nZ (nN none nZ (nN none nZ (nN (some (AObj.cells ty c false 0)) nZ nZ)))))), next := 127 }
noncomputable def E (by_ : Int) (ty : Nat) (o : Nat) (c : List Value) (n : Nat) (cap : Nat) : AS := ⟨⟨3, 118, nN (some (Value.int IntKind.u8 by_)) (nN (some (Value.slice (some ⟨126, o, none⟩) n cap)) nZ nZ) nZ, [Item.code (codeAt bd [])], [], FrameMode.run, CallKind.normal, none⟩, [], ⟨nN none nZ (nN none nZ (nN none nZ (nN none nZ (nN none nZ (nN none nZ (nN (some (AObj.cells ty c false 0)) nZ nZ)))))), 127⟩⟩
noncomputable def S0 (by_ : Int) (ty : Nat) (o : Nat) (c : List Value) (n : Nat) (cap : Nat)  (d : Nat → Value) : AS := ⟨⟨6, 37, nN (some (d 0)) (nN (some (Value.slice (some ⟨126, o, none⟩) n cap)) (nN (some (d 3)) (nN (some (d 7)) (nN (some (d 15)) (nN (some (d 31)) nZ nZ) nZ) (nN (some (d 23)) nZ nZ)) (nN (some (d 11)) (nN (some (d 19)) (nN (some (d 35)) nZ nZ) nZ) (nN (some (d 27)) nZ nZ))) (nN (some (Value.pointer (some ⟨127, 0, none⟩))) (nN (some (d 9)) (nN (some (d 17)) (nN (some (d 33)) nZ nZ) nZ) (nN (some (d 25)) nZ nZ)) (nN (some (d 13)) (nN (some (d 21)) nZ nZ) (nN (some (d 29)) nZ nZ)))) (nN (some (d 2)) (nN (some (d 4)) (nN (some (d 8)) (nN (some (d 16)) (nN (some (d 32)) nZ nZ) nZ) (nN (some (d 24)) nZ nZ)) (nN (some (d 12)) (nN (some (d 20)) (nN (some (d 36)) nZ nZ) nZ) (nN (some (d 28)) nZ nZ))) (nN (some (Value.int IntKind.i64 0)) (nN (some (d 10)) (nN (some (d 18)) (nN (some (d 34)) nZ nZ) nZ) (nN (some (d 26)) nZ nZ)) (nN (some (d 14)) (nN (some (d 22)) nZ nZ) (nN (some (d 30)) nZ nZ)))), [Item.code (codeAt bd6 [1, 1, 1, 0, 1, 0, 0]), Item.inLoop (codeAt bd6 [1, 1, 1, 0, 1, 0, 0]), Item.inBlock 0, Item.code (codeAt bd6 [1, 1, 1, 1])], [], FrameMode.run, CallKind.normal, none⟩, [⟨3, 118, nN (some (Value.int IntKind.u8 by_)) (nN (some (Value.slice (some ⟨126, o, none⟩) n cap)) (nN none nZ (nN none (nN (some (Value.bool false)) nZ nZ) nZ)) (nN none (nN none (nN (some (Value.slice (some ⟨126, o, none⟩) n cap)) nZ nZ) nZ) (nN none (nN (some (Value.int IntKind.u8 by_)) nZ nZ) nZ))) (nN none (nN (some (Value.bool false)) nZ nZ) (nN none (nN none (nN (some (Value.int IntKind.i64 (↑n : Int))) nZ nZ) nZ) (nN none (nN (some (Value.slice (some ⟨126, o, none⟩) n cap)) nZ nZ) nZ))), [Item.inRegion (opsAt bd [1, 1, 0]) [2, 3], Item.code (codeAt bd [1, 1, 1])], [], FrameMode.run, CallKind.normal, none⟩], ⟨nN none (nN none (nN none (nN none (nN none (nN none (nN none (nN (some (AObj.cells 54 [Value.pointer (some ⟨127, 0, none⟩), Value.pointer (some ⟨128, 0, none⟩)] true 2)) nZ nZ) nZ) nZ) nZ) nZ) nZ) (nN none (nN none (nN none (nN none (nN none (nN (some (AObj.map [] 0 true)) nZ nZ) nZ) nZ) nZ) nZ) nZ)) (nN none (nN none (nN none (nN none (nN none (nN none (nN (some (AObj.cells 58 [Value.func (Fn.func 20) ⟨[]⟩ ⟨[]⟩, Value.int IntKind.i64 1, Value.slice none 0 0, Value.map (some 129)] true 2)) nZ nZ) nZ) nZ) nZ) nZ) nZ) (nN none nZ (nN none nZ (nN none nZ (nN none nZ (nN (some (AObj.cells ty c false 0)) nZ nZ)))))), 130⟩⟩
noncomputable def S1 (by_ : Int) (ty : Nat) (o : Nat) (c : List Value) (n : Nat) (cap : Nat) (i0 : Int) (l0 : List Value) (i1 : Int) (n0 : Nat) (m0 : List MapEntry) (n1 : Nat) (d : Nat → Value) : AS := ⟨⟨6, 37, nN (some (d 0)) (nN (some (Value.slice (some ⟨126, o, none⟩) n cap)) (nN (some (d 3)) (nN (some (d 7)) (nN (some (d 15)) (nN (some (d 31)) nZ nZ) nZ) (nN (some (d 23)) nZ nZ)) (nN (some (d 11)) (nN (some (d 19)) (nN (some (d 35)) nZ nZ) nZ) (nN (some (d 27)) nZ nZ))) (nN (some (Value.pointer (some ⟨127, 0, none⟩))) (nN (some (d 9)) (nN (some (d 17)) (nN (some (d 33)) nZ nZ) nZ) (nN (some (d 25)) nZ nZ)) (nN (some (d 13)) (nN (some (d 21)) nZ nZ) (nN (some (d 29)) nZ nZ)))) (nN (some (d 2)) (nN (some (d 4)) (nN (some (d 8)) (nN (some (d 16)) (nN (some (d 32)) nZ nZ) nZ) (nN (some (d 24)) nZ nZ)) (nN (some (d 12)) (nN (some (d 20)) (nN (some (d 36)) nZ nZ) nZ) (nN (some (d 28)) nZ nZ))) (nN (some (Value.int IntKind.i64 i0)) (nN (some (d 10)) (nN (some (d 18)) (nN (some (d 34)) nZ nZ) nZ) (nN (some (d 26)) nZ nZ)) (nN (some (d 14)) (nN (some (d 22)) nZ nZ) (nN (some (d 30)) nZ nZ)))), [Item.code (codeAt bd6 [1, 1, 1, 0, 1, 0, 0]), Item.inLoop (codeAt bd6 [1, 1, 1, 0, 1, 0, 0]), Item.inBlock 0, Item.code (codeAt bd6 [1, 1, 1, 1])], [], FrameMode.run, CallKind.normal, none⟩, [⟨3, 118, nN (some (Value.int IntKind.u8 by_)) (nN (some (Value.slice (some ⟨126, o, none⟩) n cap)) (nN (some (undef)) (nN (some (undef)) (nN (some (undef)) (nN (some (undef)) (nN (some (undef)) nZ nZ) (nN (some (undef)) nZ nZ)) (nN (some (undef)) (nN (some (undef)) nZ nZ) (nN (some (undef)) nZ nZ))) (nN (some (undef)) (nN (some (undef)) (nN (some (undef)) nZ nZ) (nN (some (undef)) nZ nZ)) (nN (some (undef)) (nN (some (undef)) nZ nZ) nZ))) (nN (some (undef)) (nN (some (Value.bool false)) (nN (some (undef)) (nN (some (undef)) nZ nZ) (nN (some (undef)) nZ nZ)) (nN (some (undef)) (nN (some (undef)) nZ nZ) (nN (some (undef)) nZ nZ))) (nN (some (undef)) (nN (some (undef)) (nN (some (undef)) nZ nZ) (nN (some (undef)) nZ nZ)) (nN (some (undef)) (nN (some (undef)) nZ nZ) nZ)))) (nN (some (undef)) (nN (some (undef)) (nN (some (Value.slice (some ⟨126, o, none⟩) n cap)) (nN (some (undef)) (nN (some (undef)) nZ nZ) (nN (some (undef)) nZ nZ)) (nN (some (undef)) (nN (some (undef)) nZ nZ) (nN (some (undef)) nZ nZ))) (nN (some (undef)) (nN (some (undef)) (nN (some (undef)) nZ nZ) (nN (some (undef)) nZ nZ)) (nN (some (undef)) (nN (some (undef)) nZ nZ) nZ))) (nN (some (undef)) (nN (some (Value.int IntKind.u8 by_)) (nN (some (undef)) (nN (some (undef)) nZ nZ) (nN (some (undef)) nZ nZ)) (nN (some (undef)) (nN (some (undef)) nZ nZ) (nN (some (undef)) nZ nZ))) (nN (some (undef)) (nN (some (undef)) (nN (some (undef)) nZ nZ) (nN (some (undef)) nZ nZ)) (nN (some (undef)) (nN (some (undef)) nZ nZ) nZ))))) (nN (some (undef)) (nN (some (Value.bool false)) (nN (some (undef)) (nN (some (undef)) (nN (some (undef)) (nN (some (undef)) nZ nZ) (nN (some (undef)) nZ nZ)) (nN (some (undef)) (nN (some (undef)) nZ nZ) (nN (some (undef)) nZ nZ))) (nN (some (undef)) (nN (some (undef)) (nN (some (undef)) nZ nZ) (nN (some (undef)) nZ nZ)) (nN (some (undef)) (nN (some (undef)) nZ nZ) nZ))) (nN (some (undef)) (nN (some (undef)) (nN (some (undef)) (nN (some (undef)) nZ nZ) (nN (some (undef)) nZ nZ)) (nN (some (undef)) (nN (some (undef)) nZ nZ) (nN (some (undef)) nZ nZ))) (nN (some (undef)) (nN (some (undef)) (nN (some (undef)) nZ nZ) (nN (some (undef)) nZ nZ)) (nN (some (undef)) (nN (some (undef)) nZ nZ) nZ)))) (nN (some (undef)) (nN (some (undef)) (nN (some (Value.int IntKind.i64 (↑n : Int))) (nN (some (undef)) (nN (some (undef)) nZ nZ) (nN (some (undef)) nZ nZ)) (nN (some (undef)) (nN (some (undef)) nZ nZ) (nN (some (undef)) nZ nZ))) (nN (some (undef)) (nN (some (undef)) (nN (some (undef)) nZ nZ) (nN (some (undef)) nZ nZ)) (nN (some (undef)) (nN (some (undef)) nZ nZ) nZ))) (nN (some (undef)) (nN (some (Value.slice (some ⟨126, o, none⟩) n cap)) (nN (some (undef)) (nN (some (undef)) nZ nZ) (nN (some (undef)) nZ nZ)) (nN (some (undef)) (nN (some (undef)) nZ nZ) nZ)) (nN (some (undef)) (nN (some (undef)) (nN (some (undef)) nZ nZ) (nN (some (undef)) nZ nZ)) (nN (some (undef)) (nN (some (undef)) nZ nZ) nZ))))), [Item.inRegion (opsAt bd [1, 1, 0]) [2, 3], Item.code (codeAt bd [1, 1, 1])], [], FrameMode.run, CallKind.normal, none⟩], ⟨nN none (nN none (nN none (nN none (nN none (nN none (nN none (nN (some (AObj.cells 54 [Value.pointer (some ⟨127, 0, none⟩), Value.pointer (some ⟨128, 0, none⟩)] true 2)) nZ nZ) nZ) nZ) nZ) nZ) nZ) (nN none (nN none (nN none (nN none (nN none (nN (some (AObj.cells 47 l0 false 2)) nZ nZ) nZ) nZ) nZ) nZ) nZ)) (nN none (nN none (nN none (nN none (nN none (nN none (nN (some (AObj.cells 58 [Value.func (Fn.func 20) ⟨[]⟩ ⟨[]⟩, Value.int IntKind.i64 i1, Value.slice (some ⟨129, 0, none⟩) n0 9223372036854775810, Value.map (some 130)] true 2)) nZ nZ) nZ) nZ) nZ) nZ) nZ) (nN none (nN none (nN none (nN none (nN none (nN (some (AObj.map m0 n1 true)) nZ nZ) nZ) nZ) nZ) nZ) (nN none nZ (nN none nZ (nN none nZ (nN (some (AObj.cells ty c false 0)) nZ nZ)))))), 131⟩⟩
noncomputable def S2 (by_ : Int) (ty : Nat) (o : Nat) (c : List Value) (n : Nat) (cap : Nat)  (d : Nat → Value) : AS := ⟨⟨3, 118, nN (some (d 0)) (nN (some (Value.slice (some ⟨126, o, none⟩) n cap)) (nN (some (d 3)) (nN (some (Value.slice (some ⟨127, 0, none⟩) (↑n : Int).toNat (↑n : Int).toNat)) (nN (some (d 15)) (nN (some (d 31)) (nN (some (d 63)) nZ nZ) (nN (some (d 95)) nZ nZ)) (nN (some (d 47)) (nN (some (d 79)) nZ nZ) (nN (some (d 111)) nZ nZ))) (nN (some (d 23)) (nN (some (d 39)) (nN (some (d 71)) nZ nZ) (nN (some (d 103)) nZ nZ)) (nN (some (d 55)) (nN (some (d 87)) nZ nZ) nZ))) (nN (some (d 11)) (nN (some (d 19)) (nN (some (d 35)) (nN (some (d 67)) nZ nZ) (nN (some (d 99)) nZ nZ)) (nN (some (d 51)) (nN (some (d 83)) nZ nZ) (nN (some (d 115)) nZ nZ))) (nN (some (d 27)) (nN (some (d 43)) (nN (some (d 75)) nZ nZ) (nN (some (d 107)) nZ nZ)) (nN (some (d 59)) (nN (some (d 91)) nZ nZ) nZ)))) (nN (some (Value.pointer (some ⟨128, 0, none⟩))) (nN (some (Value.int IntKind.i64 0)) (nN (some (d 17)) (nN (some (d 33)) (nN (some (d 65)) nZ nZ) (nN (some (d 97)) nZ nZ)) (nN (some (d 49)) (nN (some (d 81)) nZ nZ) (nN (some (d 113)) nZ nZ))) (nN (some (d 25)) (nN (some (d 41)) (nN (some (d 73)) nZ nZ) (nN (some (d 105)) nZ nZ)) (nN (some (d 57)) (nN (some (d 89)) nZ nZ) nZ))) (nN (some (d 13)) (nN (some (d 21)) (nN (some (d 37)) (nN (some (d 69)) nZ nZ) (nN (some (d 101)) nZ nZ)) (nN (some (d 53)) (nN (some (d 85)) nZ nZ) (nN (some (d 117)) nZ nZ))) (nN (some (d 29)) (nN (some (d 45)) (nN (some (d 77)) nZ nZ) (nN (some (d 109)) nZ nZ)) (nN (some (d 61)) (nN (some (d 93)) nZ nZ) nZ))))) (nN (some (d 2)) (nN (some (d 4)) (nN (some (Value.int IntKind.i64 0)) (nN (some (d 16)) (nN (some (d 32)) (nN (some (d 64)) nZ nZ) (nN (some (d 96)) nZ nZ)) (nN (some (d 48)) (nN (some (d 80)) nZ nZ) (nN (some (d 112)) nZ nZ))) (nN (some (d 24)) (nN (some (d 40)) (nN (some (d 72)) nZ nZ) (nN (some (d 104)) nZ nZ)) (nN (some (d 56)) (nN (some (d 88)) nZ nZ) nZ))) (nN (some (d 12)) (nN (some (d 20)) (nN (some (d 36)) (nN (some (d 68)) nZ nZ) (nN (some (d 100)) nZ nZ)) (nN (some (d 52)) (nN (some (d 84)) nZ nZ) (nN (some (d 116)) nZ nZ))) (nN (some (d 28)) (nN (some (d 44)) (nN (some (d 76)) nZ nZ) (nN (some (d 108)) nZ nZ)) (nN (some (d 60)) (nN (some (d 92)) nZ nZ) nZ)))) (nN (some (Value.func (Fn.func 20) ⟨[]⟩ ⟨[]⟩)) (nN (some (Value.int IntKind.i64 0)) (nN (some (d 18)) (nN (some (d 34)) (nN (some (d 66)) nZ nZ) (nN (some (d 98)) nZ nZ)) (nN (some (d 50)) (nN (some (d 82)) nZ nZ) (nN (some (d 114)) nZ nZ))) (nN (some (d 26)) (nN (some (d 42)) (nN (some (d 74)) nZ nZ) (nN (some (d 106)) nZ nZ)) (nN (some (d 58)) (nN (some (d 90)) nZ nZ) nZ))) (nN (some (d 14)) (nN (some (d 22)) (nN (some (d 38)) (nN (some (d 70)) nZ nZ) (nN (some (d 102)) nZ nZ)) (nN (some (d 54)) (nN (some (d 86)) nZ nZ) nZ)) (nN (some (d 30)) (nN (some (d 46)) (nN (some (d 78)) nZ nZ) (nN (some (d 110)) nZ nZ)) (nN (some (d 62)) (nN (some (d 94)) nZ nZ) nZ))))), [Item.code (codeAt bd [1, 1, 1, 1, 1, 1, 1, 0, 1, 0, 0]), Item.inLoop (codeAt bd [1, 1, 1, 1, 1, 1, 1, 0, 1, 0, 0]), Item.inBlock 0, Item.code (codeAt bd [1, 1, 1, 1, 1, 1, 1, 1])], [], FrameMode.run, CallKind.normal, none⟩, [], ⟨nN none (nN none (nN none (nN none (nN none (nN none (nN none (nN (some (AObj.cells 4 (rep [Value.bool false] (↑n : Int).toNat) true 2)) nZ nZ) nZ) nZ) nZ) nZ) nZ) (nN none (nN none (nN none (nN none (nN none (nN (some (AObj.cells 58 [Value.func (Fn.func 20) ⟨[]⟩ ⟨[]⟩, Value.int IntKind.i64 1, Value.slice none 0 0, Value.map (some 130)] true 2)) nZ nZ) nZ) nZ) nZ) nZ) nZ)) (nN none (nN none (nN none (nN none (nN none (nN none (nN (some (AObj.cells 54 [Value.pointer (some ⟨128, 0, none⟩), Value.pointer (some ⟨129, 0, none⟩)] true 2)) nZ nZ) nZ) nZ) nZ) nZ) nZ) (nN none (nN none (nN none (nN none (nN none (nN (some (AObj.map [] 0 true)) nZ nZ) nZ) nZ) nZ) nZ) (nN none nZ (nN none nZ (nN none nZ (nN (some (AObj.cells ty c false 0)) nZ nZ)))))), 131⟩⟩
noncomputable def S3 (by_ : Int) (ty : Nat) (o : Nat) (c : List Value) (n : Nat) (cap : Nat) (i0 : Int) (i1 : Int) (i2 : Int) (l0 : List Value) (m0 : List MapEntry) (n0 : Nat) (l1 : List Value) (n1 : Nat) (i3 : Int) (d : Nat → Value) : AS := ⟨⟨3, 118, nN (some (d 0)) (nN (some (Value.slice (some ⟨126, o, none⟩) n cap)) (nN (some (d 3)) (nN (some (Value.slice (some ⟨127, 0, none⟩) (↑n : Int).toNat (↑n : Int).toNat)) (nN (some (d 15)) (nN (some (d 31)) (nN (some (d 63)) nZ nZ) (nN (some (d 95)) nZ nZ)) (nN (some (d 47)) (nN (some (d 79)) nZ nZ) (nN (some (d 111)) nZ nZ))) (nN (some (d 23)) (nN (some (d 39)) (nN (some (d 71)) nZ nZ) (nN (some (d 103)) nZ nZ)) (nN (some (d 55)) (nN (some (d 87)) nZ nZ) nZ))) (nN (some (d 11)) (nN (some (d 19)) (nN (some (d 35)) (nN (some (d 67)) nZ nZ) (nN (some (d 99)) nZ nZ)) (nN (some (d 51)) (nN (some (d 83)) nZ nZ) (nN (some (d 115)) nZ nZ))) (nN (some (d 27)) (nN (some (d 43)) (nN (some (d 75)) nZ nZ) (nN (some (d 107)) nZ nZ)) (nN (some (d 59)) (nN (some (d 91)) nZ nZ) nZ)))) (nN (some (Value.pointer (some ⟨128, 0, none⟩))) (nN (some (Value.int IntKind.i64 i0)) (nN (some (d 17)) (nN (some (d 33)) (nN (some (d 65)) nZ nZ) (nN (some (d 97)) nZ nZ)) (nN (some (d 49)) (nN (some (d 81)) nZ nZ) (nN (some (d 113)) nZ nZ))) (nN (some (d 25)) (nN (some (d 41)) (nN (some (d 73)) nZ nZ) (nN (some (d 105)) nZ nZ)) (nN (some (d 57)) (nN (some (d 89)) nZ nZ) nZ))) (nN (some (d 13)) (nN (some (d 21)) (nN (some (d 37)) (nN (some (d 69)) nZ nZ) (nN (some (d 101)) nZ nZ)) (nN (some (d 53)) (nN (some (d 85)) nZ nZ) (nN (some (d 117)) nZ nZ))) (nN (some (d 29)) (nN (some (d 45)) (nN (some (d 77)) nZ nZ) (nN (some (d 109)) nZ nZ)) (nN (some (d 61)) (nN (some (d 93)) nZ nZ) nZ))))) (nN (some (d 2)) (nN (some (d 4)) (nN (some (Value.int IntKind.i64 i1)) (nN (some (d 16)) (nN (some (d 32)) (nN (some (d 64)) nZ nZ) (nN (some (d 96)) nZ nZ)) (nN (some (d 48)) (nN (some (d 80)) nZ nZ) (nN (some (d 112)) nZ nZ))) (nN (some (d 24)) (nN (some (d 40)) (nN (some (d 72)) nZ nZ) (nN (some (d 104)) nZ nZ)) (nN (some (d 56)) (nN (some (d 88)) nZ nZ) nZ))) (nN (some (d 12)) (nN (some (d 20)) (nN (some (d 36)) (nN (some (d 68)) nZ nZ) (nN (some (d 100)) nZ nZ)) (nN (some (d 52)) (nN (some (d 84)) nZ nZ) (nN (some (d 116)) nZ nZ))) (nN (some (d 28)) (nN (some (d 44)) (nN (some (d 76)) nZ nZ) (nN (some (d 108)) nZ nZ)) (nN (some (d 60)) (nN (some (d 92)) nZ nZ) nZ)))) (nN (some (Value.func (Fn.func 20) ⟨[]⟩ ⟨[]⟩)) (nN (some (Value.int IntKind.i64 i2)) (nN (some (d 18)) (nN (some (d 34)) (nN (some (d 66)) nZ nZ) (nN (some (d 98)) nZ nZ)) (nN (some (d 50)) (nN (some (d 82)) nZ nZ) (nN (some (d 114)) nZ nZ))) (nN (some (d 26)) (nN (some (d 42)) (nN (some (d 74)) nZ nZ) (nN (some (d 106)) nZ nZ)) (nN (some (d 58)) (nN (some (d 90)) nZ nZ) nZ))) (nN (some (d 14)) (nN (some (d 22)) (nN (some (d 38)) (nN (some (d 70)) nZ nZ) (nN (some (d 102)) nZ nZ)) (nN (some (d 54)) (nN (some (d 86)) nZ nZ) nZ)) (nN (some (d 30)) (nN (some (d 46)) (nN (some (d 78)) nZ nZ) (nN (some (d 110)) nZ nZ)) (nN (some (d 62)) (nN (some (d 94)) nZ nZ) nZ))))), [Item.code (codeAt bd [1, 1, 1, 1, 1, 1, 1, 0, 1, 0, 0]), Item.inLoop (codeAt bd [1, 1, 1, 1, 1, 1, 1, 0, 1, 0, 0]), Item.inBlock 0, Item.code (codeAt bd [1, 1, 1, 1, 1, 1, 1, 1])], [], FrameMode.run, CallKind.normal, none⟩, [], ⟨nN none (nN none (nN none (nN none (nN none (nN none (nN none (nN (some (AObj.cells 4 l0 true 2)) nZ nZ) nZ) nZ) nZ) nZ) (nN none (nN none (nN none (nN none (nN (some (AObj.map m0 n1 true)) nZ nZ) nZ) nZ) nZ) nZ)) (nN none (nN none (nN none (nN none (nN none (nN (some (AObj.cells 58 [Value.func (Fn.func 20) ⟨[]⟩ ⟨[]⟩, Value.int IntKind.i64 i3, Value.slice (some ⟨130, 0, none⟩) n0 9223372036854775810, Value.map (some 131)] true 2)) nZ nZ) nZ) nZ) nZ) nZ) nZ)) (nN none (nN none (nN none (nN none (nN none (nN none (nN (some (AObj.cells 54 [Value.pointer (some ⟨128, 0, none⟩), Value.pointer (some ⟨129, 0, none⟩)] true 2)) nZ nZ) nZ) nZ) nZ) nZ) nZ) (nN none (nN none (nN none (nN none (nN none (nN (some (AObj.cells 47 l1 false 2)) nZ nZ) nZ) nZ) nZ) nZ) (nN none nZ (nN none nZ (nN none nZ (nN (some (AObj.cells ty c false 0)) nZ nZ)))))), 132⟩⟩
noncomputable abbrev henter_1 (ty : Nat) (c : List Value) : AH := ⟨nN none nZ (nN none nZ (nN none nZ (nN none nZ (nN none nZ (nN none nZ (nN (some (AObj.cells ty c false 0)) nZ nZ)))))), 127⟩
theorem enter {η : Nat → Value} {B : Bd} (hη : OneCells η) (hmix : prog.follows .mixedOrders = true) (hreg : RegOk η prog B noNest) {D : Value → AH → Prop} (by_ : Int) (ty : Nat) (o : Nat) (c : List Value) (n : Nat) (cap : Nat) (h : W.holds η prog B 3 (fun kp_ st_ => RunD η prog B 3 (H0 by_ ty o c n cap) kp_ st_ (QF prog 127 D)) D (.ite (decide ((↑n : Int) > (300 : Int))) (.call 5 [] ((henter_1 ty c)) (.ret (Value.bool true) ((henter_1 ty c))) (.done 3 (Value.bool true) (H0 by_ ty o c n cap))) (.call 7 [Value.int IntKind.u8 by_] ((henter_1 ty c)) (.ret (Value.func (Fn.func 20) ⟨[]⟩ ⟨[]⟩) ((henter_1 ty c))) (.call 19 [Value.func (Fn.func 20) ⟨[]⟩ ⟨[]⟩] ((henter_1 ty c)) (.ret (Value.pointer (some ⟨127, 0, none⟩)) (⟨nN none (nN none (nN none (nN none (nN none (nN none (nN none (nN (some (AObj.cells 54 [Value.pointer (some ⟨127, 0, none⟩), Value.pointer (some ⟨128, 0, none⟩)] true 2)) nZ nZ) nZ) nZ) nZ) nZ) nZ) (nN none (nN none (nN none (nN none (nN none (nN (some (AObj.map [] 0 true)) nZ nZ) nZ) nZ) nZ) nZ) nZ)) (nN none (nN none (nN none (nN none (nN none (nN none (nN (some (AObj.cells 58 [Value.func (Fn.func 20) ⟨[]⟩ ⟨[]⟩, Value.int IntKind.i64 1, Value.slice none 0 0, Value.map (some 129)] true 2)) nZ nZ) nZ) nZ) nZ) nZ) nZ) (nN none nZ (nN none nZ (nN none nZ (nN none nZ (nN (some (AObj.cells ty c false 0)) nZ nZ)))))), 130⟩)) (.ite (decide ((↑n : Int) > (300 : Int))) (.need (NoNames c ∧ True) (.done 3 (Value.bool false) (H0 by_ ty o c n cap))) (.stop [1, 5, 6] (S0 by_ ty o c n cap  (fun _ => undef)))))))) : CallSpec η prog B 3 [Value.int IntKind.u8 by_, Value.slice (some ⟨126, o, none⟩) n cap] (H0 by_ ty o c n cap) D := by
  refine CallSpec.ofQF hη (CallSpec.enter (fr := (E by_ ty o c n cap).fr) (by kernel_rfl) ?_)
  exact walk_okT (h0 := H0 by_ ty o c n cap) hη hmix hreg (.steps 11 <| .bit 19 (.steps 3 <| .call kN <| .steps 3 <| .done none) (.steps 14 <| .call kN <| .call kN <| .steps 13 <| .bit 18 (.steps 21 <| .done (some ⟨127, [], [(126, (126, true))]⟩)) (.steps 9 <| .stop [1, 5, 6] none))) (E by_ ty o c n cap) (by kernel_rfl) h (by kernel_rfl)
noncomputable abbrev hcut0_1 (ty : Nat) (c : List Value) : AH := ⟨nN none (nN none (nN none (nN none (nN none (nN none (nN none (nN (some (AObj.cells 54 [Value.pointer (some ⟨127, 0, none⟩), Value.pointer (some ⟨128, 0, none⟩)] true 2)) nZ nZ) nZ) nZ) nZ) nZ) nZ) (nN none (nN none (nN none (nN none (nN none (nN (some (AObj.map [] 0 true)) nZ nZ) nZ) nZ) nZ) nZ) nZ)) (nN none (nN none (nN none (nN none (nN none (nN none (nN (some (AObj.cells 58 [Value.func (Fn.func 20) ⟨[]⟩ ⟨[]⟩, Value.int IntKind.i64 1, Value.slice none 0 0, Value.map (some 129)] true 2)) nZ nZ) nZ) nZ) nZ) nZ) nZ) (nN none nZ (nN none nZ (nN none nZ (nN none nZ (nN (some (AObj.cells ty c false 0)) nZ nZ)))))), 130⟩
theorem cut0 {η : Nat → Value} {B : Bd} (hη : OneCells η) (hmix : prog.follows .mixedOrders = true) (hreg : RegOk η prog B noNest) {D : Value → AH → Prop} (by_ : Int) (ty : Nat) (o : Nat) (c : List Value) (n : Nat) (cap : Nat)  (h : W.holds η prog B 3 (fun kp_ st_ => RunD η prog B 3 (H0 by_ ty o c n cap) kp_ st_ (QF prog 127 D)) D (.ite (decide ((0 : Int) < (↑n : Int))) (.need ((0 : Int) ≤ (0 : Int) ∧ (0 : Int) < (↑n : Int)) (.need (c[o + (0 : Nat)]? = some (Value.int IntKind.i64 (intAt c (o + (0 : Nat))))) (.call 11 [Value.pointer (some ⟨127, 0, none⟩), Value.int IntKind.i64 (intAt c (o + 0))] ((hcut0_1 ty c)) (.ret (Value.tuple ⟨[Value.int IntKind.i64 1, Value.int IntKind.i64 0]⟩) (⟨nN none (nN none (nN none (nN none (nN none (nN none (nN none (nN (some (AObj.cells 54 [Value.pointer (some ⟨127, 0, none⟩), Value.pointer (some ⟨128, 0, none⟩)] true 2)) nZ nZ) nZ) nZ) nZ) nZ) nZ) (nN none (nN none (nN none (nN none (nN none (nN (some (AObj.map [{ key := Value.int IntKind.i64 1, val := Value.int IntKind.i64 0, born := 0 }] 1 true)) nZ nZ) nZ) nZ) nZ) nZ) nZ)) (nN none (nN none (nN none (nN none (nN none (nN none (nN (some (AObj.cells 58 [Value.func (Fn.func 20) ⟨[]⟩ ⟨[]⟩, Value.int IntKind.i64 2, Value.slice (some ⟨130, 0, none⟩) 1 9223372036854775810, Value.map (some 129)] true 2)) nZ nZ) nZ) nZ) nZ) nZ) nZ) (nN none (nN none (nN none (nN none (nN none (nN (some (AObj.cells 47 [Value.int IntKind.i64 1, Value.int IntKind.i64 (intAt c (o + 0))] false 2)) nZ nZ) nZ) nZ) nZ) nZ) (nN none nZ (nN none nZ (nN none nZ (nN (some (AObj.cells ty c false 0)) nZ nZ)))))), 131⟩)) (.need (NoNames c ∧ True ∧ True ∧ True ∧ True ∧ True) (.stop [1, 5, 6] (S1 by_ ty o c n cap (1) ([Value.int IntKind.i64 1, Value.int IntKind.i64 (intAt c (o + 0))]) (2) (1) ([{ key := Value.int IntKind.i64 1, val := Value.int IntKind.i64 0, born := 0 }]) (1) (fun _ => undef))))))) (.call 7 [Value.int IntKind.u8 by_] ((hcut0_1 ty c)) (.ret (Value.func (Fn.func 20) ⟨[]⟩ ⟨[]⟩) ((hcut0_1 ty c))) (.need ((0 : Int) ≤ (↑n : Int) ∧ (↑n : Int) ≤ (↑n : Int) ∧ (↑n : Int) ≤ (1000000 : Int)) (.need (NoNames c ∧ NoNames (rep [Value.bool false] (↑n : Int).toNat) ∧ True ∧ True ∧ True ∧ True) (.stop [1, 5, 6, 7, 8, 9, 10] (S2 by_ ty o c n cap  (fun _ => undef)))))))) : RunD η prog B 3 (H0 by_ ty o c n cap) [1, 5, 6] (S0 by_ ty o c n cap  fun _ => undef) (QF prog 127 D) := by
  refine RunD.intro (S0 by_ ty o c n cap ) (fun d => ⟨rfl, rfl, rfl⟩) (fun d => tmOk_get (by kernel_rfl)) (fun d => by kernel_rfl) (fun d => ?_)
  exact walk_okT (h0 := H0 by_ ty o c n cap) hη hmix hreg (.steps 8 <| .bit 22 (.steps 9 <| .op <| .op <| .call kN <| .steps 20 <| .stop [1, 5, 6] (some ⟨131, [(127, 127), (128, 128), (130, 129), (129, 130)], [(126, (126, true)), (127, (127, false)), (128, (128, false)), (129, (130, false)), (130, (129, false))]⟩)) (.steps 22 <| .call kN <| .steps 6 <| .op <| .steps 14 <| .stop [1, 5, 6, 7, 8, 9, 10] (some ⟨131, [(130, 127), (127, 128), (128, 129), (129, 130)], [(126, (126, true)), (127, (130, true)), (128, (127, false)), (129, (128, false)), (130, (129, false))]⟩))) (S0 by_ ty o c n cap  d) (by kernel_rfl) h (by kernel_rfl)
noncomputable abbrev hcut1_1 (ty : Nat) (c : List Value) (l0 : List Value) (i1 : Int) (n0 : Nat) (m0 : List MapEntry) (n1 : Nat) : AH := ⟨nN none (nN none (nN none (nN none (nN none (nN none (nN none (nN (some (AObj.cells 54 [Value.pointer (some ⟨127, 0, none⟩), Value.pointer (some ⟨128, 0, none⟩)] true 2)) nZ nZ) nZ) nZ) nZ) nZ) nZ) (nN none (nN none (nN none (nN none (nN none (nN (some (AObj.cells 47 l0 false 2)) nZ nZ) nZ) nZ) nZ) nZ) nZ)) (nN none (nN none (nN none (nN none (nN none (nN none (nN (some (AObj.cells 58 [Value.func (Fn.func 20) ⟨[]⟩ ⟨[]⟩, Value.int IntKind.i64 i1, Value.slice (some ⟨129, 0, none⟩) n0 9223372036854775810, Value.map (some 130)] true 2)) nZ nZ) nZ) nZ) nZ) nZ) nZ) (nN none (nN none (nN none (nN none (nN none (nN (some (AObj.map m0 n1 true)) nZ nZ) nZ) nZ) nZ) nZ) (nN none nZ (nN none nZ (nN none nZ (nN (some (AObj.cells ty c false 0)) nZ nZ)))))), 131⟩
theorem cut1 {η : Nat → Value} {B : Bd} (hη : OneCells η) (hmix : prog.follows .mixedOrders = true) (hreg : RegOk η prog B noNest) {D : Value → AH → Prop} (by_ : Int) (ty : Nat) (o : Nat) (c : List Value) (n : Nat) (cap : Nat) (i0 : Int) (l0 : List Value) (i1 : Int) (n0 : Nat) (m0 : List MapEntry) (n1 : Nat) (h : W.holds η prog B 3 (fun kp_ st_ => RunD η prog B 3 (H0 by_ ty o c n cap) kp_ st_ (QF prog 127 D)) D (.ite (decide (i0 < (↑n : Int))) (.need ((0 : Int) ≤ i0 ∧ i0 < (↑n : Int)) (.need (c[o + i0.toNat * (1 : Nat)]? = some (Value.int IntKind.i64 (intAt c (o + i0.toNat * (1 : Nat))))) (.call 11 [Value.pointer (some ⟨127, 0, none⟩), Value.int IntKind.i64 (intAt c (o + i0.toNat * 1))] ((hcut1_1 ty c l0 i1 n0 m0 n1)) (.ret (Value.tuple ⟨[Value.int IntKind.i64 i1, Value.int IntKind.i64 0]⟩) (⟨nN none (nN none (nN none (nN none (nN none (nN none (nN none (nN (some (AObj.cells 54 [Value.pointer (some ⟨127, 0, none⟩), Value.pointer (some ⟨128, 0, none⟩)] true 2)) nZ nZ) nZ) nZ) nZ) nZ) (nN none (nN none (nN none (nN none (nN (some (AObj.cells 47 (HQ.QS.push 20 n0 (HQ.QS.mk (l0) (m0) (n1)) i1 (intAt c (o + i0.toNat * 1))).c false 2)) nZ nZ) nZ) nZ) nZ) nZ)) (nN none (nN none (nN none (nN none (nN none (nN none nZ nZ) nZ) nZ) nZ) nZ) nZ)) (nN none (nN none (nN none (nN none (nN none (nN none (nN (some (AObj.cells 58 [Value.func (Fn.func 20) ⟨[]⟩ ⟨[]⟩, Value.int IntKind.i64 (IntKind.i64.wrap (i1 + 1)), Value.slice (some ⟨131, 0, none⟩) (n0 + 1) 9223372036854775810, Value.map (some 130)] true 2)) nZ nZ) nZ) nZ) nZ) nZ) nZ) (nN none (nN none (nN none (nN none (nN none (nN (some (AObj.map (HQ.QS.push 20 n0 (HQ.QS.mk (l0) (m0) (n1)) i1 (intAt c (o + i0.toNat * 1))).E (HQ.QS.push 20 n0 (HQ.QS.mk (l0) (m0) (n1)) i1 (intAt c (o + i0.toNat * 1))).ck true)) nZ nZ) nZ) nZ) nZ) nZ) (nN none nZ (nN none nZ (nN none nZ (nN (some (AObj.cells ty c false 0)) nZ nZ)))))), 132⟩)) (.need (NoNames c ∧ True ∧ True ∧ NoNames (HQ.QS.push (20 : Nat) n0 (HQ.QS.mk (l0) (m0) (n1)) i1 (intAt c (o + i0.toNat * (1 : Nat)))).c ∧ NoNamesE (HQ.QS.push (20 : Nat) n0 (HQ.QS.mk (l0) (m0) (n1)) i1 (intAt c (o + i0.toNat * (1 : Nat)))).E ∧ True) (.stop [1, 5, 6] (S1 by_ ty o c n cap (IntKind.i64.wrap (i0 + 1)) ((HQ.QS.push 20 n0 (HQ.QS.mk (l0) (m0) (n1)) i1 (intAt c (o + i0.toNat * 1))).c) (IntKind.i64.wrap (i1 + 1)) (n0 + 1) ((HQ.QS.push 20 n0 (HQ.QS.mk (l0) (m0) (n1)) i1 (intAt c (o + i0.toNat * 1))).E) ((HQ.QS.push 20 n0 (HQ.QS.mk (l0) (m0) (n1)) i1 (intAt c (o + i0.toNat * 1))).ck) (fun _ => undef))))))) (.call 7 [Value.int IntKind.u8 by_] ((hcut1_1 ty c l0 i1 n0 m0 n1)) (.ret (Value.func (Fn.func 20) ⟨[]⟩ ⟨[]⟩) ((hcut1_1 ty c l0 i1 n0 m0 n1))) (.need ((0 : Int) ≤ (↑n : Int) ∧ (↑n : Int) ≤ (↑n : Int) ∧ (↑n : Int) ≤ (1000000 : Int)) (.need (NoNames c ∧ NoNames (rep [Value.bool false] (↑n : Int).toNat) ∧ True ∧ True ∧ NoNames l0 ∧ NoNamesE m0 ∧ True) (.stop [1, 5, 6, 7, 8, 9, 10] (S3 by_ ty o c n cap (0) (0) (0) (rep [Value.bool false] (↑n : Int).toNat) (m0) (n0) (l0) (n1) (i1) (fun _ => undef)))))))) : RunD η prog B 3 (H0 by_ ty o c n cap) [1, 5, 6] (S1 by_ ty o c n cap i0 l0 i1 n0 m0 n1 fun _ => undef) (QF prog 127 D) := by
  refine RunD.intro (S1 by_ ty o c n cap i0 l0 i1 n0 m0 n1) (fun d => ⟨rfl, rfl, rfl⟩) (fun d => tmOk_get (by kernel_rfl)) (fun d => by kernel_rfl) (fun d => ?_)
  exact walk_okT (h0 := H0 by_ ty o c n cap) hη hmix hreg (.steps 8 <| .bit 22 (.steps 9 <| .op <| .op <| .call kN <| .steps 20 <| .stop [1, 5, 6] (some ⟨131, [(127, 127), (128, 128), (131, 129), (130, 130)], [(126, (126, true)), (127, (127, false)), (128, (128, false)), (129, (131, true)), (130, (130, true))]⟩)) (.steps 22 <| .call kN <| .steps 6 <| .op <| .steps 14 <| .stop [1, 5, 6, 7, 8, 9, 10] (some ⟨132, [(131, 127), (127, 128), (128, 129), (129, 130), (130, 131)], [(126, (126, true)), (127, (131, true)), (128, (127, false)), (129, (128, false)), (130, (129, true)), (131, (130, true))]⟩))) (S1 by_ ty o c n cap i0 l0 i1 n0 m0 n1 d) (by kernel_rfl) h (by kernel_rfl)
noncomputable abbrev hcut2_0 (ty : Nat) (c : List Value) (n : Nat) : AH := ⟨nN none (nN none (nN none (nN none (nN none (nN none (nN none (nN (some (AObj.cells 4 (rep [Value.bool false] (↑n : Int).toNat) true 2)) nZ nZ) nZ) nZ) nZ) nZ) nZ) (nN none (nN none (nN none (nN none (nN none (nN (some (AObj.cells 58 [Value.func (Fn.func 20) ⟨[]⟩ ⟨[]⟩, Value.int IntKind.i64 1, Value.slice none 0 0, Value.map (some 130)] true 2)) nZ nZ) nZ) nZ) nZ) nZ) nZ)) (nN none (nN none (nN none (nN none (nN none (nN none (nN (some (AObj.cells 54 [Value.pointer (some ⟨128, 0, none⟩), Value.pointer (some ⟨129, 0, none⟩)] true 2)) nZ nZ) nZ) nZ) nZ) nZ) nZ) (nN none (nN none (nN none (nN none (nN none (nN (some (AObj.map [] 0 true)) nZ nZ) nZ) nZ) nZ) nZ) (nN none nZ (nN none nZ (nN none nZ (nN (some (AObj.cells ty c false 0)) nZ nZ)))))), 131⟩
theorem cut2 {η : Nat → Value} {B : Bd} (hη : OneCells η) (hmix : prog.follows .mixedOrders = true) (hreg : RegOk η prog B noNest) {D : Value → AH → Prop} (by_ : Int) (ty : Nat) (o : Nat) (c : List Value) (n : Nat) (cap : Nat)  (h : W.holds η prog B 3 (fun kp_ st_ => RunD η prog B 3 (H0 by_ ty o c n cap) kp_ st_ (QF prog 127 D)) D (.ite (decide ((0 : Int) < (↑n : Int))) (.call 8 [Value.pointer (some ⟨128, 0, none⟩)] ((hcut2_0 ty c n)) (.ret (Value.tuple ⟨[Value.int IntKind.i64 0, Value.int IntKind.i64 0, Value.int IntKind.i64 4]⟩) ((hcut2_0 ty c n))) (.need (NoNames c ∧ True) (.done 3 (Value.bool false) (H0 by_ ty o c n cap)))) (.call 8 [Value.pointer (some ⟨128, 0, none⟩)] ((hcut2_0 ty c n)) (.ret (Value.tuple ⟨[Value.int IntKind.i64 0, Value.int IntKind.i64 0, Value.int IntKind.i64 4]⟩) ((hcut2_0 ty c n))) (.call 5 [] ((hcut2_0 ty c n)) (.ret (Value.bool true) ((hcut2_0 ty c n))) (.need (NoNames c ∧ True) (.done 3 (Value.bool true) (H0 by_ ty o c n cap))))))) : RunD η prog B 3 (H0 by_ ty o c n cap) [1, 5, 6, 7, 8, 9, 10] (S2 by_ ty o c n cap  fun _ => undef) (QF prog 127 D) := by
  refine RunD.intro (S2 by_ ty o c n cap ) (fun d => ⟨rfl, rfl, rfl⟩) (fun d => tmOk_get (by kernel_rfl)) (fun d => by kernel_rfl) (fun d => ?_)
  exact walk_okT (h0 := H0 by_ ty o c n cap) hη hmix hreg (.steps 8 <| .bit 34 (.steps 7 <| .call kN <| .steps 56 <| .done (some ⟨127, [], [(126, (126, true))]⟩)) (.steps 5 <| .call kN <| .steps 13 <| .call kN <| .steps 4 <| .done (some ⟨127, [], [(126, (126, true))]⟩))) (S2 by_ ty o c n cap  d) (by kernel_rfl) h (by kernel_rfl)
noncomputable abbrev hcut3_0 (ty : Nat) (c : List Value) (l0 : List Value) (m0 : List MapEntry) (n0 : Nat) (l1 : List Value) (n1 : Nat) (i3 : Int) : AH := ⟨nN none (nN none (nN none (nN none (nN none (nN none (nN none (nN (some (AObj.cells 4 l0 true 2)) nZ nZ) nZ) nZ) nZ) nZ) (nN none (nN none (nN none (nN none (nN (some (AObj.map (HQ.QS.pop 20 n0 (HQ.QS.mk (l1) (m0) (n1))).E (HQ.QS.pop 20 n0 (HQ.QS.mk (l1) (m0) (n1))).ck true)) nZ nZ) nZ) nZ) nZ) nZ)) (nN none (nN none (nN none (nN none (nN none (nN (some (AObj.cells 58 [Value.func (Fn.func 20) ⟨[]⟩ ⟨[]⟩, Value.int IntKind.i64 i3, Value.slice (some ⟨130, 0, none⟩) (n0 - 1) 9223372036854775810, Value.map (some 131)] true 2)) nZ nZ) nZ) nZ) nZ) nZ) nZ)) (nN none (nN none (nN none (nN none (nN none (nN none (nN (some (AObj.cells 54 [Value.pointer (some ⟨128, 0, none⟩), Value.pointer (some ⟨129, 0, none⟩)] true 2)) nZ nZ) nZ) nZ) nZ) nZ) nZ) (nN none (nN none (nN none (nN none (nN none (nN (some (AObj.cells 47 (HQ.QS.pop 20 n0 (HQ.QS.mk (l1) (m0) (n1))).c false 2)) nZ nZ) nZ) nZ) nZ) nZ) (nN none nZ (nN none nZ (nN none nZ (nN (some (AObj.cells ty c false 0)) nZ nZ)))))), 132⟩
noncomputable abbrev hcut3_1 (ty : Nat) (c : List Value) (l0 : List Value) (m0 : List MapEntry) (n0 : Nat) (l1 : List Value) (n1 : Nat) (i3 : Int) : AH := ⟨nN none (nN none (nN none (nN none (nN none (nN none (nN none (nN (some (AObj.cells 4 l0 true 2)) nZ nZ) nZ) nZ) nZ) nZ) (nN none (nN none (nN none (nN none (nN (some (AObj.map m0 n1 true)) nZ nZ) nZ) nZ) nZ) nZ)) (nN none (nN none (nN none (nN none (nN none (nN (some (AObj.cells 58 [Value.func (Fn.func 20) ⟨[]⟩ ⟨[]⟩, Value.int IntKind.i64 i3, Value.slice (some ⟨130, 0, none⟩) n0 9223372036854775810, Value.map (some 131)] true 2)) nZ nZ) nZ) nZ) nZ) nZ) nZ)) (nN none (nN none (nN none (nN none (nN none (nN none (nN (some (AObj.cells 54 [Value.pointer (some ⟨128, 0, none⟩), Value.pointer (some ⟨129, 0, none⟩)] true 2)) nZ nZ) nZ) nZ) nZ) nZ) nZ) (nN none (nN none (nN none (nN none (nN none (nN (some (AObj.cells 47 l1 false 2)) nZ nZ) nZ) nZ) nZ) nZ) (nN none nZ (nN none nZ (nN none nZ (nN (some (AObj.cells ty c false 0)) nZ nZ)))))), 132⟩
theorem cut3 {η : Nat → Value} {B : Bd} (hη : OneCells η) (hmix : prog.follows .mixedOrders = true) (hreg : RegOk η prog B noNest) {D : Value → AH → Prop} (by_ : Int) (ty : Nat) (o : Nat) (c : List Value) (n : Nat) (cap : Nat) (i0 : Int) (i1 : Int) (i2 : Int) (l0 : List Value) (m0 : List MapEntry) (n0 : Nat) (l1 : List Value) (n1 : Nat) (i3 : Int) (h : W.holds η prog B 3 (fun kp_ st_ => RunD η prog B 3 (H0 by_ ty o c n cap) kp_ st_ (QF prog 127 D)) D (.ite (decide (i2 < (↑n : Int))) (.call 8 [Value.pointer (some ⟨128, 0, none⟩)] ((hcut3_1 ty c l0 m0 n0 l1 n1 i3)) (.ite (n0 == (0 : Nat)) (.ret (Value.tuple ⟨[Value.int IntKind.i64 0, Value.int IntKind.i64 0, Value.int IntKind.i64 4]⟩) ((hcut3_1 ty c l0 m0 n0 l1 n1 i3))) (.ret (Value.tuple ⟨[Value.int IntKind.i64 (intAt l1 0), Value.int IntKind.i64 (intAt l1 1), Value.int IntKind.i64 0]⟩) ((hcut3_0 ty c l0 m0 n0 l1 n1 i3)))) (.ite (n0 == (0 : Nat)) (.need (NoNames c ∧ True) (.done 3 (Value.bool false) (H0 by_ ty o c n cap))) (.ite (decide (intAt l1 (0 : Nat) < (1 : Int))) (.need (NoNames c ∧ True) (.done 3 (Value.bool false) (H0 by_ ty o c n cap))) (.ite (decide (intAt l1 (0 : Nat) > (↑n : Int))) (.need (NoNames c ∧ True) (.done 3 (Value.bool false) (H0 by_ ty o c n cap))) (.need ((0 : Int) ≤ IntKind.i64.wrap (intAt l1 (0 : Nat) - (1 : Int)) ∧ IntKind.i64.wrap (intAt l1 (0 : Nat) - (1 : Int)) < (↑(↑n : Int).toNat : Int)) (.need (l0[(0 : Nat) + (IntKind.i64.wrap (intAt l1 (0 : Nat) - (1 : Int))).toNat * (1 : Nat)]? = some (Value.bool (boolAt l0 ((0 : Nat) + (IntKind.i64.wrap (intAt l1 (0 : Nat) - (1 : Int))).toNat * (1 : Nat))))) (.ite (boolAt l0 ((0 : Nat) + (IntKind.i64.wrap (intAt l1 (0 : Nat) - (1 : Int))).toNat * (1 : Nat))) (.need (NoNames c ∧ True) (.done 3 (Value.bool false) (H0 by_ ty o c n cap))) (.need ((0 : Int) ≤ IntKind.i64.wrap (intAt l1 (0 : Nat) - (1 : Int)) ∧ IntKind.i64.wrap (intAt l1 (0 : Nat) - (1 : Int)) < (↑n : Int)) (.need (c[o + (IntKind.i64.wrap (intAt l1 (0 : Nat) - (1 : Int))).toNat * (1 : Nat)]? = some (Value.int IntKind.i64 (intAt c (o + (IntKind.i64.wrap (intAt l1 (0 : Nat) - (1 : Int))).toNat * (1 : Nat))))) (.ite (intAt c (o + (IntKind.i64.wrap (intAt l1 (0 : Nat) - (1 : Int))).toNat * (1 : Nat)) != intAt l1 (1 : Nat)) (.need (NoNames c ∧ True) (.done 3 (Value.bool false) (H0 by_ ty o c n cap))) (.ite ((↑(n0 - (1 : Nat)) : Int) != IntKind.i64.wrap (IntKind.i64.wrap ((↑n : Int) - (1 : Int)) - i2)) (.need (NoNames c ∧ True) (.done 3 (Value.bool false) (H0 by_ ty o c n cap))) (.need ((0 : Int) ≤ IntKind.i64.wrap (intAt l1 (0 : Nat) - (1 : Int)) ∧ IntKind.i64.wrap (intAt l1 (0 : Nat) - (1 : Int)) < (↑(↑n : Int).toNat : Int)) (.need ((0 : Nat) + (IntKind.i64.wrap (intAt l1 (0 : Nat) - (1 : Int))).toNat * (1 : Nat) + (1 : Nat) ≤ l0.length) (.ite (decide (i2 > (0 : Int))) (.ite (decide ((if (if true = true then decide ((0 : Int) > intAt l1 (1 : Nat)) else decide ((0 : Int) < intAt l1 (1 : Nat))) = true then (0 : Int) else intAt l1 (1 : Nat)).tmod (10 : Int) > (if (if true = true then decide ((0 : Int) > i1) else decide ((0 : Int) < i1)) = true then (0 : Int) else i1).tmod (10 : Int))) (.need (NoNames c ∧ True) (.done 3 (Value.bool false) (H0 by_ ty o c n cap))) (.ite (!decide ((if (if true = true then decide ((0 : Int) > i1) else decide ((0 : Int) < i1)) = true then (0 : Int) else i1).tmod (10 : Int) > (if (if true = true then decide ((0 : Int) > intAt l1 (1 : Nat)) else decide ((0 : Int) < intAt l1 (1 : Nat))) = true then (0 : Int) else intAt l1 (1 : Nat)).tmod (10 : Int))) (.ite (decide (intAt l1 (0 : Nat) < i0)) (.need (NoNames c ∧ True) (.done 3 (Value.bool false) (H0 by_ ty o c n cap))) (.stop [1, 5, 6, 7, 8, 9, 10] (S3 by_ ty o c n cap (intAt l1 0) (intAt l1 1) (IntKind.i64.wrap (i2 + 1)) (splice l0 (0 + (IntKind.i64.wrap (intAt l1 0 - 1)).toNat * 1) [Value.bool true]) ((HQ.QS.pop 20 n0 (HQ.QS.mk (l1) (m0) (n1))).E) (n0 - 1) ((HQ.QS.pop 20 n0 (HQ.QS.mk (l1) (m0) (n1))).c) ((HQ.QS.pop 20 n0 (HQ.QS.mk (l1) (m0) (n1))).ck) (i3) (fun _ => undef)))) (.stop [1, 5, 6, 7, 8, 9, 10] (S3 by_ ty o c n cap (intAt l1 0) (intAt l1 1) (IntKind.i64.wrap (i2 + 1)) (splice l0 (0 + (IntKind.i64.wrap (intAt l1 0 - 1)).toNat * 1) [Value.bool true]) ((HQ.QS.pop 20 n0 (HQ.QS.mk (l1) (m0) (n1))).E) (n0 - 1) ((HQ.QS.pop 20 n0 (HQ.QS.mk (l1) (m0) (n1))).c) ((HQ.QS.pop 20 n0 (HQ.QS.mk (l1) (m0) (n1))).ck) (i3) (fun _ => undef))))) (.stop [1, 5, 6, 7, 8, 9, 10] (S3 by_ ty o c n cap (intAt l1 0) (intAt l1 1) (IntKind.i64.wrap (i2 + 1)) (splice l0 (0 + (IntKind.i64.wrap (intAt l1 0 - 1)).toNat * 1) [Value.bool true]) ((HQ.QS.pop 20 n0 (HQ.QS.mk (l1) (m0) (n1))).E) (n0 - 1) ((HQ.QS.pop 20 n0 (HQ.QS.mk (l1) (m0) (n1))).c) ((HQ.QS.pop 20 n0 (HQ.QS.mk (l1) (m0) (n1))).ck) (i3) (fun _ => undef))))))))))))))))) (.call 8 [Value.pointer (some ⟨128, 0, none⟩)] ((hcut3_1 ty c l0 m0 n0 l1 n1 i3)) (.ite (n0 == (0 : Nat)) (.ret (Value.tuple ⟨[Value.int IntKind.i64 0, Value.int IntKind.i64 0, Value.int IntKind.i64 4]⟩) ((hcut3_1 ty c l0 m0 n0 l1 n1 i3))) (.ret (Value.tuple ⟨[Value.int IntKind.i64 (intAt l1 0), Value.int IntKind.i64 (intAt l1 1), Value.int IntKind.i64 0]⟩) ((hcut3_0 ty c l0 m0 n0 l1 n1 i3)))) (.ite (n0 == (0 : Nat)) (.call 5 [] ((hcut3_1 ty c l0 m0 n0 l1 n1 i3)) (.ret (Value.bool true) ((hcut3_1 ty c l0 m0 n0 l1 n1 i3))) (.need (NoNames c ∧ True) (.done 3 (Value.bool true) (H0 by_ ty o c n cap)))) (.need (NoNames c ∧ True) (.done 3 (Value.bool false) (H0 by_ ty o c n cap))))))) : RunD η prog B 3 (H0 by_ ty o c n cap) [1, 5, 6, 7, 8, 9, 10] (S3 by_ ty o c n cap i0 i1 i2 l0 m0 n0 l1 n1 i3 fun _ => undef) (QF prog 127 D) := by
  refine RunD.intro (S3 by_ ty o c n cap i0 i1 i2 l0 m0 n0 l1 n1 i3) (fun d => ⟨rfl, rfl, rfl⟩) (fun d => tmOk_get (by kernel_rfl)) (fun d => by kernel_rfl) (fun d => ?_)
  exact walk_okT (h0 := H0 by_ ty o c n cap) hη hmix hreg (.steps 8 <| .bit 34 (.steps 7 <| .call kN <| .both (.steps 56 <| .done (some ⟨127, [], [(126, (126, true))]⟩)) (.steps 18 <| .bit 49 (.steps 38 <| .done (some ⟨127, [], [(126, (126, true))]⟩)) (.steps 6 <| .bit 55 (.steps 32 <| .done (some ⟨127, [], [(126, (126, true))]⟩)) (.steps 3 <| .op <| .op <| .steps 2 <| .bit 62 (.steps 25 <| .done (some ⟨127, [], [(126, (126, true))]⟩)) (.steps 3 <| .op <| .op <| .steps 4 <| .bit 71 (.steps 16 <| .done (some ⟨127, [], [(126, (126, true))]⟩)) (.steps 69 <| .bit 80 (.steps 6 <| .done (some ⟨127, [], [(126, (126, true))]⟩)) (.steps 7 <| .op <| .op <| .steps 7 <| .bit 87 (.steps 22 <| .bit 92 (.steps 19 <| .done (some ⟨127, [], [(126, (126, true))]⟩)) (.steps 23 <| .bit 98 (.steps 7 <| .bit 104 (.steps 6 <| .done (some ⟨127, [], [(126, (126, true))]⟩)) (.steps 15 <| .stop [1, 5, 6, 7, 8, 9, 10] none)) (.steps 22 <| .stop [1, 5, 6, 7, 8, 9, 10] none))) (.steps 33 <| .stop [1, 5, 6, 7, 8, 9, 10] none)))))))) (.steps 5 <| .call kN <| .both (.steps 13 <| .call kN <| .steps 4 <| .done (some ⟨127, [], [(126, (126, true))]⟩)) (.steps 18 <| .done (some ⟨127, [], [(126, (126, true))]⟩)))) (S3 by_ ty o c n cap i0 i1 i2 l0 m0 n0 l1 n1 i3 d) (by kernel_rfl) h (by kernel_rfl)
end KSortT
namespace KSortT0
set_option linter.unusedVariables false
noncomputable def bd : Code := (Go.Proofs.Try.f3.body).getD .skip
noncomputable def bd6 : Code := (Go.Proofs.Try.f6.body).getD .skip
noncomputable def H0 (by_ : Int) : AH := { objs := nZ, next := 126 }
noncomputable def E (by_ : Int) : AS := ⟨⟨3, 118, nN (some (Value.int IntKind.u8 by_)) (nN (some (Value.slice none 0 0)) nZ nZ) nZ, [Item.code (codeAt bd [])], [], FrameMode.run, CallKind.normal, none⟩, [], ⟨nZ, 126⟩⟩
noncomputable def S0 (by_ : Int)  (d : Nat → Value) : AS := ⟨⟨6, 37, nN (some (d 0)) (nN (some (Value.slice none 0 0)) (nN (some (d 3)) (nN (some (d 7)) (nN (some (d 15)) (nN (some (d 31)) nZ nZ) nZ) (nN (some (d 23)) nZ nZ)) (nN (some (d 11)) (nN (some (d 19)) (nN (some (d 35)) nZ nZ) nZ) (nN (some (d 27)) nZ nZ))) (nN (some (Value.pointer (some ⟨126, 0, none⟩))) (nN (some (d 9)) (nN (some (d 17)) (nN (some (d 33)) nZ nZ) nZ) (nN (some (d 25)) nZ nZ)) (nN (some (d 13)) (nN (some (d 21)) nZ nZ) (nN (some (d 29)) nZ nZ)))) (nN (some (d 2)) (nN (some (d 4)) (nN (some (d 8)) (nN (some (d 16)) (nN (some (d 32)) nZ nZ) nZ) (nN (some (d 24)) nZ nZ)) (nN (some (d 12)) (nN (some (d 20)) (nN (some (d 36)) nZ nZ) nZ) (nN (some (d 28)) nZ nZ))) (nN (some (Value.int IntKind.i64 0)) (nN (some (d 10)) (nN (some (d 18)) (nN (some (d 34)) nZ nZ) nZ) (nN (some (d 26)) nZ nZ)) (nN (some (d 14)) (nN (some (d 22)) nZ nZ) (nN (some (d 30)) nZ nZ)))), [Item.code (codeAt bd6 [1, 1, 1, 0, 1, 0, 0]), Item.inLoop (codeAt bd6 [1, 1, 1, 0, 1, 0, 0]), Item.inBlock 0, Item.code (codeAt bd6 [1, 1, 1, 1])], [], FrameMode.run, CallKind.normal, none⟩, [⟨3, 118, nN (some (Value.int IntKind.u8 by_)) (nN (some (Value.slice none 0 0)) (nN none nZ (nN none (nN (some (Value.bool false)) nZ nZ) nZ)) (nN none (nN none (nN (some (Value.slice none 0 0)) nZ nZ) nZ) (nN none (nN (some (Value.int IntKind.u8 by_)) nZ nZ) nZ))) (nN none (nN (some (Value.bool false)) nZ nZ) (nN none (nN none (nN (some (Value.int IntKind.i64 0)) nZ nZ) nZ) (nN none (nN (some (Value.slice none 0 0)) nZ nZ) nZ))), [Item.inRegion (opsAt bd [1, 1, 0]) [2, 3], Item.code (codeAt bd [1, 1, 1])], [], FrameMode.run, CallKind.normal, none⟩], ⟨nN none (nN none (nN none (nN none (nN none (nN none (nN none (nN (some (AObj.cells 58 [Value.func (Fn.func 20) ⟨[]⟩ ⟨[]⟩, Value.int IntKind.i64 1, Value.slice none 0 0, Value.map (some 128)] true 2)) nZ nZ) nZ) nZ) nZ) nZ) nZ) nZ) (nN none (nN none (nN none (nN none (nN none (nN none (nN (some (AObj.map [] 0 true)) nZ nZ) nZ) nZ) nZ) nZ) nZ) (nN none nZ (nN none nZ (nN none nZ (nN none nZ (nN (some (AObj.cells 54 [Value.pointer (some ⟨126, 0, none⟩), Value.pointer (some ⟨127, 0, none⟩)] true 2)) nZ nZ)))))), 129⟩⟩
noncomputable def S1 (by_ : Int)  (d : Nat → Value) : AS := ⟨⟨3, 118, nN (some (d 0)) (nN (some (Value.slice none 0 0)) (nN (some (d 3)) (nN (some (Value.slice (some ⟨126, 0, none⟩) 0 0)) (nN (some (d 15)) (nN (some (d 31)) (nN (some (d 63)) nZ nZ) (nN (some (d 95)) nZ nZ)) (nN (some (d 47)) (nN (some (d 79)) nZ nZ) (nN (some (d 111)) nZ nZ))) (nN (some (d 23)) (nN (some (d 39)) (nN (some (d 71)) nZ nZ) (nN (some (d 103)) nZ nZ)) (nN (some (d 55)) (nN (some (d 87)) nZ nZ) nZ))) (nN (some (d 11)) (nN (some (d 19)) (nN (some (d 35)) (nN (some (d 67)) nZ nZ) (nN (some (d 99)) nZ nZ)) (nN (some (d 51)) (nN (some (d 83)) nZ nZ) (nN (some (d 115)) nZ nZ))) (nN (some (d 27)) (nN (some (d 43)) (nN (some (d 75)) nZ nZ) (nN (some (d 107)) nZ nZ)) (nN (some (d 59)) (nN (some (d 91)) nZ nZ) nZ)))) (nN (some (Value.pointer (some ⟨127, 0, none⟩))) (nN (some (Value.int IntKind.i64 0)) (nN (some (d 17)) (nN (some (d 33)) (nN (some (d 65)) nZ nZ) (nN (some (d 97)) nZ nZ)) (nN (some (d 49)) (nN (some (d 81)) nZ nZ) (nN (some (d 113)) nZ nZ))) (nN (some (d 25)) (nN (some (d 41)) (nN (some (d 73)) nZ nZ) (nN (some (d 105)) nZ nZ)) (nN (some (d 57)) (nN (some (d 89)) nZ nZ) nZ))) (nN (some (d 13)) (nN (some (d 21)) (nN (some (d 37)) (nN (some (d 69)) nZ nZ) (nN (some (d 101)) nZ nZ)) (nN (some (d 53)) (nN (some (d 85)) nZ nZ) (nN (some (d 117)) nZ nZ))) (nN (some (d 29)) (nN (some (d 45)) (nN (some (d 77)) nZ nZ) (nN (some (d 109)) nZ nZ)) (nN (some (d 61)) (nN (some (d 93)) nZ nZ) nZ))))) (nN (some (d 2)) (nN (some (d 4)) (nN (some (Value.int IntKind.i64 0)) (nN (some (d 16)) (nN (some (d 32)) (nN (some (d 64)) nZ nZ) (nN (some (d 96)) nZ nZ)) (nN (some (d 48)) (nN (some (d 80)) nZ nZ) (nN (some (d 112)) nZ nZ))) (nN (some (d 24)) (nN (some (d 40)) (nN (some (d 72)) nZ nZ) (nN (some (d 104)) nZ nZ)) (nN (some (d 56)) (nN (some (d 88)) nZ nZ) nZ))) (nN (some (d 12)) (nN (some (d 20)) (nN (some (d 36)) (nN (some (d 68)) nZ nZ) (nN (some (d 100)) nZ nZ)) (nN (some (d 52)) (nN (some (d 84)) nZ nZ) (nN (some (d 116)) nZ nZ))) (nN (some (d 28)) (nN (some (d 44)) (nN (some (d 76)) nZ nZ) (nN (some (d 108)) nZ nZ)) (nN (some (d 60)) (nN (some (d 92)) nZ nZ) nZ)))) (nN (some (Value.func (Fn.func 20) ⟨[]⟩ ⟨[]⟩)) (nN (some (Value.int IntKind.i64 0)) (nN (some (d 18)) (nN (some (d 34)) (nN (some (d 66)) nZ nZ) (nN (some (d 98)) nZ nZ)) (nN (some (d 50)) (nN (some (d 82)) nZ nZ) (nN (some (d 114)) nZ nZ))) (nN (some (d 26)) (nN (some (d 42)) (nN (some (d 74)) nZ nZ) (nN (some (d 106)) nZ nZ)) (nN (some (d 58)) (nN (some (d 90)) nZ nZ) nZ))) (nN (some (d 14)) (nN (some (d 22)) (nN (some (d 38)) (nN (some (d 70)) nZ nZ) (nN (some (d 102)) nZ nZ)) (nN (some (d 54)) (nN (some (d 86)) nZ nZ) nZ)) (nN (some (d 30)) (nN (some (d 46)) (nN (some (d 78)) nZ nZ) (nN (some (d 110)) nZ nZ)) (nN (some (d 62)) (nN (some (d 94)) nZ nZ) nZ))))), [Item.code (codeAt bd [1, 1, 1, 1, 1, 1, 1, 0, 1, 0, 0]), Item.inLoop (codeAt bd [1, 1, 1, 1, 1, 1, 1, 0, 1, 0, 0]), Item.inBlock 0, Item.code (codeAt bd [1, 1, 1, 1, 1, 1, 1, 1])], [], FrameMode.run, CallKind.normal, none⟩, [], ⟨nN none (nN none (nN none (nN none (nN none (nN none (nN none (nN (some (AObj.cells 54 [Value.pointer (some ⟨127, 0, none⟩), Value.pointer (some ⟨128, 0, none⟩)] true 2)) nZ nZ) nZ) nZ) nZ) nZ) nZ) (nN none (nN none (nN none (nN none (nN none (nN (some (AObj.map [] 0 true)) nZ nZ) nZ) nZ) nZ) nZ) nZ)) (nN none (nN none (nN none (nN none (nN none (nN none (nN (some (AObj.cells 58 [Value.func (Fn.func 20) ⟨[]⟩ ⟨[]⟩, Value.int IntKind.i64 1, Value.slice none 0 0, Value.map (some 129)] true 2)) nZ nZ) nZ) nZ) nZ) nZ) nZ) (nN none nZ (nN none nZ (nN none nZ (nN none nZ (nN (some (AObj.cells 4 [] true 2)) nZ nZ)))))), 130⟩⟩
theorem enter {η : Nat → Value} {B : Bd} (hη : OneCells η) (hmix : prog.follows .mixedOrders = true) (hreg : RegOk η prog B noNest) {D : Value → AH → Prop} (by_ : Int) (h : W.holds η prog B 3 (fun kp_ st_ => RunD η prog B 3 (H0 by_) kp_ st_ (QF prog 126 D)) D (.call 7 [Value.int IntKind.u8 by_] (⟨nZ, 126⟩) (.ret (Value.func (Fn.func 20) ⟨[]⟩ ⟨[]⟩) (⟨nZ, 126⟩)) (.call 19 [Value.func (Fn.func 20) ⟨[]⟩ ⟨[]⟩] (⟨nZ, 126⟩) (.ret (Value.pointer (some ⟨126, 0, none⟩)) (⟨nN none (nN none (nN none (nN none (nN none (nN none (nN none (nN (some (AObj.cells 58 [Value.func (Fn.func 20) ⟨[]⟩ ⟨[]⟩, Value.int IntKind.i64 1, Value.slice none 0 0, Value.map (some 128)] true 2)) nZ nZ) nZ) nZ) nZ) nZ) nZ) nZ) (nN none (nN none (nN none (nN none (nN none (nN none (nN (some (AObj.map [] 0 true)) nZ nZ) nZ) nZ) nZ) nZ) nZ) (nN none nZ (nN none nZ (nN none nZ (nN none nZ (nN (some (AObj.cells 54 [Value.pointer (some ⟨126, 0, none⟩), Value.pointer (some ⟨127, 0, none⟩)] true 2)) nZ nZ)))))), 129⟩)) (.stop [1, 5, 6] (S0 by_  (fun _ => undef)))))) : CallSpec η prog B 3 [Value.int IntKind.u8 by_, Value.slice none 0 0] (H0 by_) D := by
  refine CallSpec.ofQF hη (CallSpec.enter (fr := (E by_).fr) (by kernel_rfl) ?_)
  exact walk_okT (h0 := H0 by_) hη hmix hreg (.steps 25 <| .call kN <| .call kN <| .steps 22 <| .stop [1, 5, 6] none) (E by_) (by kernel_rfl) h (by kernel_rfl)
noncomputable abbrev hcut0_0 : AH := ⟨nN none (nN none (nN none (nN none (nN none (nN none (nN none (nN (some (AObj.cells 58 [Value.func (Fn.func 20) ⟨[]⟩ ⟨[]⟩, Value.int IntKind.i64 1, Value.slice none 0 0, Value.map (some 128)] true 2)) nZ nZ) nZ) nZ) nZ) nZ) nZ) nZ) (nN none (nN none (nN none (nN none (nN none (nN none (nN (some (AObj.map [] 0 true)) nZ nZ) nZ) nZ) nZ) nZ) nZ) (nN none nZ (nN none nZ (nN none nZ (nN none nZ (nN (some (AObj.cells 54 [Value.pointer (some ⟨126, 0, none⟩), Value.pointer (some ⟨127, 0, none⟩)] true 2)) nZ nZ)))))), 129⟩
theorem cut0 {η : Nat → Value} {B : Bd} (hη : OneCells η) (hmix : prog.follows .mixedOrders = true) (hreg : RegOk η prog B noNest) {D : Value → AH → Prop} (by_ : Int)  (h : W.holds η prog B 3 (fun kp_ st_ => RunD η prog B 3 (H0 by_) kp_ st_ (QF prog 126 D)) D (.call 7 [Value.int IntKind.u8 by_] (hcut0_0) (.ret (Value.func (Fn.func 20) ⟨[]⟩ ⟨[]⟩) (hcut0_0)) (.need (True ∧ True ∧ True ∧ True ∧ True) (.stop [1, 5, 6, 7, 8, 9, 10] (S1 by_  (fun _ => undef)))))) : RunD η prog B 3 (H0 by_) [1, 5, 6] (S0 by_  fun _ => undef) (QF prog 126 D) := by
  refine RunD.intro (S0 by_ ) (fun d => ⟨rfl, rfl, rfl⟩) (fun d => tmOk_get (by kernel_rfl)) (fun d => by kernel_rfl) (fun d => ?_)
  exact walk_okT (h0 := H0 by_) hη hmix hreg (.steps 30 <| .call kN <| .steps 21 <| .stop [1, 5, 6, 7, 8, 9, 10] (some ⟨130, [(129, 126), (126, 127), (127, 128), (128, 129)], [(126, (129, false)), (127, (126, false)), (128, (127, false)), (129, (128, false))]⟩)) (S0 by_  d) (by kernel_rfl) h (by kernel_rfl)
noncomputable abbrev hcut1_0 : AH := ⟨nN none (nN none (nN none (nN none (nN none (nN none (nN none (nN (some (AObj.cells 54 [Value.pointer (some ⟨127, 0, none⟩), Value.pointer (some ⟨128, 0, none⟩)] true 2)) nZ nZ) nZ) nZ) nZ) nZ) nZ) (nN none (nN none (nN none (nN none (nN none (nN (some (AObj.map [] 0 true)) nZ nZ) nZ) nZ) nZ) nZ) nZ)) (nN none (nN none (nN none (nN none (nN none (nN none (nN (some (AObj.cells 58 [Value.func (Fn.func 20) ⟨[]⟩ ⟨[]⟩, Value.int IntKind.i64 1, Value.slice none 0 0, Value.map (some 129)] true 2)) nZ nZ) nZ) nZ) nZ) nZ) nZ) (nN none nZ (nN none nZ (nN none nZ (nN none nZ (nN (some (AObj.cells 4 [] true 2)) nZ nZ)))))), 130⟩
theorem cut1 {η : Nat → Value} {B : Bd} (hη : OneCells η) (hmix : prog.follows .mixedOrders = true) (hreg : RegOk η prog B noNest) {D : Value → AH → Prop} (by_ : Int)  (h : W.holds η prog B 3 (fun kp_ st_ => RunD η prog B 3 (H0 by_) kp_ st_ (QF prog 126 D)) D (.call 8 [Value.pointer (some ⟨127, 0, none⟩)] (hcut1_0) (.ret (Value.tuple ⟨[Value.int IntKind.i64 0, Value.int IntKind.i64 0, Value.int IntKind.i64 4]⟩) (hcut1_0)) (.call 5 [] (hcut1_0) (.ret (Value.bool true) (hcut1_0)) (.need (True) (.done 3 (Value.bool true) (H0 by_)))))) : RunD η prog B 3 (H0 by_) [1, 5, 6, 7, 8, 9, 10] (S1 by_  fun _ => undef) (QF prog 126 D) := by
  refine RunD.intro (S1 by_ ) (fun d => ⟨rfl, rfl, rfl⟩) (fun d => tmOk_get (by kernel_rfl)) (fun d => by kernel_rfl) (fun d => ?_)
  exact walk_okT (h0 := H0 by_) hη hmix hreg (.steps 13 <| .call kN <| .steps 13 <| .call kN <| .steps 4 <| .done (some ⟨126, [], []⟩)) (S1 by_  d) (by kernel_rfl) h (by kernel_rfl)
end KSortT0
end Go.Ev

/- The law of sorts, of one order: tens. -/
namespace Go.Ev
set_option linter.unusedVariables false
set_option linter.unusedSimpArgs false
open Go Go.Proofs Go.RowKit
variable {η : Nat → Value} {B : Bd}
namespace HQ
set_option maxRecDepth 20000 in
theorem sortT_can (hη : OneCells η) (hmix : Try.prog.follows .mixedOrders = true) {b : Int} (hb : b.tmod 2 = 1) {ty o n cap : Nat} {c : List Value} {src : Nat → Int} (hc : ∀ j, j < n → c[o + j]? = some (.int .i64 (src j))) (nn : NoNames c) :
    CallSpec η Try.prog B 3 [.int .u8 b, .slice (some ⟨126, o, none⟩) n cap] (heapT [(ty, c)]) fun v _ => v = .bool true := by
  have hord : isOrd 20 := .inl rfl
  have hsrc : ∀ j, j < n → intAt c (o + j) = src j := fun j hj => by unfold intAt; rw [hc j hj]
  have order := fun (H : AH) => order_T (B := B) hη hmix hb H
  have awake := fun (H : AH) => awake_ok (B := B) hη hmix H
  have tm : ∀ a : Int, (max a 0).tmod 10 = max a 0 % 10 := fun a => Int.tmod_eq_emod_of_nonneg (Int.le_max_right a 0)
  have eta : ∀ S : QS, QS.mk S.c S.E S.ck = S := fun S => rfl
  have wr1 : ∀ i : Nat, i ≤ 1000000 → IntKind.i64.wrap ((i : Int) + 1) = ((i + 1 : Nat) : Int) := fun i hi => by rw [wrap_small (by omega) (by omega)]; omega
  refine KSortT.enter hη hmix (reg0 hη hmix) _ _ _ _ _ _ ?_
  have cut0 := KSortT.cut0 (η := η) (B := B) (D := fun v _ => v = .bool true) hη hmix (reg0 hη hmix) b ty o c n cap
  have cut1 := fun i0 l0 i1 n0 m0 n1 => KSortT.cut1 (η := η) (B := B) (D := fun v _ => v = .bool true) hη hmix (reg0 hη hmix) b ty o c n cap i0 l0 i1 n0 m0 n1
  have cut2 := KSortT.cut2 (η := η) (B := B) (D := fun v _ => v = .bool true) hη hmix (reg0 hη hmix) b ty o c n cap
  have cut3 := fun i0 i1 i2 l0 m0 n0 l1 n1 i3 => KSortT.cut3 (η := η) (B := B) (D := fun v _ => v = .bool true) hη hmix (reg0 hη hmix) b ty o c n cap i0 i1 i2 l0 m0 n0 l1 n1 i3
  simp only [W.holds, true_and, and_true, true_implies, decide_eq_true_eq, decide_eq_false_iff_not, Nat.mul_one, Nat.zero_add, Nat.add_zero, Int.toNat_natCast, Int.le_refl, Nat.le_refl, max0, bne_iff_ne, ne_eq] at cut0 cut1 cut2 cut3 ⊢
  by_cases h300 : (n : Int) > 300
  · exact ⟨fun _ => awake _, fun q => absurd h300 q⟩
  have hn : n ≤ 300 := by omega
  have pops : ∀ (d a : Nat) (g : G) (k : Nat) (s : QS) (sb : Nat → Bool) (at_ last x : Int), n - a = d → PopInv 20 src n a g sb at_ last → s.c = its g k → n - a ≤ k → intE s.E →
      RunD η Try.prog B 3 (KSortT.H0 b ty o c n cap) [1, 5, 6, 7, 8, 9, 10] (KSortT.S3 b ty o c n cap at_ last (a : Int) (bls sb n) s.E (n - a) s.c s.ck x fun _ => undef) (QF Try.prog 127 fun v _ => v = .bool true) := by
    intro d
    induction d with
    | zero =>
      intro a g k s sb at_ last x hd hI hs hk hE
      have c3 := cut3 at_ last (a : Int) (bls sb n) s.E (n - a) s.c s.ck x
      have ha : a = n := by have := hI.le; omega
      have h0 : n - a = 0 := by omega
      refine c3 ⟨fun q => by omega, fun _ => ⟨?_, fun _ => ⟨awake _, nn, fun _ => trivial⟩, fun q => absurd (show n - a = 0 from h0) (by simpa using q)⟩⟩
      refine CallSpec.iteT (by rw [h0]; rfl) ?_
      rw [h0]
      exact pop_none hη hmix (q := 128) (v := 129) (r := 130) (m := 131) (f := 20) (x := x) (s := s) ⟨by kernel_rfl, by kernel_rfl, by kernel_rfl, by kernel_rfl, by decide⟩ hs
    | succ d ih =>
      intro a g k s sb at_ last x hd hI hs hk hE
      have c3 := cut3 at_ last (a : Int) (bls sb n) s.E (n - a) s.c s.ck x
      have ha : a < n := by omega
      have hm : 0 < n - a := by omega
      have i0 : intAt s.c 0 = (g 0).1 := by rw [hs]; exact (its_int (k := 0) (by omega)).1
      have i1 : intAt s.c 1 = (g 0).2 := by rw [hs]; exact (its_int (k := 0) (by omega)).2
      obtain ⟨j, hj, hg⟩ := hI.src 0 hm
      have g1 : (g 0).1 = ((j + 1 : Nat) : Int) := by rw [hg]
      have g2 : (g 0).2 = src j := by rw [hg]
      have wj : IntKind.i64.wrap (((j + 1 : Nat) : Int) - 1) = (j : Int) := wr_n (by omega)
      have hfr := hI.fresh 0 hm
      rw [g1, show (((j + 1 : Nat) : Int) - 1).toNat = j by omega] at hfr
      rw [i0, i1, g1, g2, wj, Int.toNat_natCast, bls_bool hj, bls_get hj, hsrc j hj, hc j hj, hfr, bls_set hj, bls_len, eta] at c3
      refine c3 ⟨fun _ => ⟨?_, fun q => absurd (show n - a = 0 by simpa using q) (by omega), fun _ => ⟨fun q => by omega, fun _ => ⟨fun q => by omega, fun _ => ?_⟩⟩⟩, fun q => by omega⟩
      · exact CallSpec.iteF (by simp; omega) ((pop_at hη hmix (q := 128) (v := 129) (r := 130) (m := 131) (x := x) (s := s) g1 g2 ⟨by kernel_rfl, by kernel_rfl, by kernel_rfl, by kernel_rfl, by decide⟩ hord hs hE hm hk (by omega)).conv (by kernel_rfl))
      · have st := hI.step ha
        rw [g1, g2, show (((j + 1 : Nat) : Int) - 1).toNat = j by omega] at st
        obtain ⟨p1, p2⟩ := pop_G (f := 20) hs hE hm hk
        have next := ih (a + 1) _ k (s.pop 20 (n - a)) _ _ _ x (by omega) st p1 (by omega) p2
        rw [show n - (a + 1) = n - a - 1 by omega, ← wr1 a (by omega)] at next
        have bj : (0 : Int) ≤ (j : Int) ∧ (j : Int) < (n : Int) := ⟨by omega, by omega⟩
        have wl : ((n - a - 1 : Nat) : Int) = IntKind.i64.wrap (IntKind.i64.wrap ((n : Int) - 1) - (a : Int)) := by
          have h1 : IntKind.i64.wrap ((n : Int) - 1) = (n : Int) - 1 := wrap_small (by omega) (by omega)
          rw [h1, wrap_small (by omega) (by omega)]; omega
        have kk : 0 < a → keyO 20 last ≤ keyO 20 (src j) ∧ (keyO 20 last = keyO 20 (src j) → at_ < ((j + 1 : Nat) : Int)) := fun h0 => by
          obtain ⟨q1, q2⟩ := hI.last h0 0 hm
          unfold lt at q1
          rw [g1, g2] at q1
          rw [g1] at q2
          simp only at q1
          exact ⟨by omega, fun e => by omega⟩
        refine ⟨bj, fun _ => ⟨rfl, fun _ => ⟨fun q => by simp at q, fun _ => ⟨bj, fun _ => ⟨rfl, fun _ => ⟨fun q => absurd rfl q, fun _ => ⟨fun q => absurd wl q, fun _ => ⟨bj, fun _ => ⟨hj, fun _ => ⟨fun h0 => ⟨fun q => ?_, fun q => ⟨fun q2 => ⟨fun q3 => ?_, fun _ => next⟩, fun _ => next⟩⟩, fun _ => next⟩⟩⟩⟩⟩⟩⟩⟩⟩⟩
        all_goals exfalso
        all_goals obtain ⟨k1, k2⟩ := kk (by omega)
        · unfold keyO at k1
          rw [if_pos rfl, if_pos rfl] at k1; rw [tm, tm] at q; omega
        · unfold keyO at k1 k2
          rw [if_pos rfl, if_pos rfl] at k1 k2; simp only [tm, Bool.not_eq_true', decide_eq_false_iff_not] at q q2; omega
  have pushes : ∀ (d i : Nat) (g : G) (s : QS), n - i = d → 1 ≤ i → i ≤ n → PushInv 20 src i g → s.c = its g i → intE s.E →
      RunD η Try.prog B 3 (KSortT.H0 b ty o c n cap) [1, 5, 6] (KSortT.S1 b ty o c n cap (i : Int) s.c ((i + 1 : Nat) : Int) i s.E s.ck fun _ => undef) (QF Try.prog 127 fun v _ => v = .bool true) := by
    intro d
    induction d with
    | zero =>
      intro i g s hd h1 hin hI hs hE
      have hi : i = n := by omega
      subst hi
      have c1 := cut1 (i : Int) s.c ((i + 1 : Nat) : Int) i s.E s.ck
      have p := pops (i - 0) 0 g i s (fun _ => false) 0 0 ((i + 1 : Nat) : Int) rfl hI.pop hs (Nat.le_refl _) hE
      rw [← rep_bls, Nat.sub_zero] at p
      refine c1 ⟨fun q => by omega, fun _ => ⟨order _, ⟨by omega, by omega⟩, fun _ => ⟨⟨nn, by rw [rep_bls]; exact bls_nn _ _, by rw [hs]; exact its_nn _ _, nn_int hE⟩, fun _ => ?_⟩⟩⟩
      exact p
    | succ d ih =>
      intro i g s hd h1 hin hI hs hE
      have hi : i < n := by omega
      have c1 := cut1 (i : Int) s.c ((i + 1 : Nat) : Int) i s.E s.ck
      obtain ⟨p1, p2⟩ := push_form (f := 20) (x := ((i + 1 : Nat) : Int)) hs hE (src i)
      have next := ih (i + 1) _ (s.push 20 i ((i + 1 : Nat) : Int) (src i)) (by omega) (by omega) hi hI.step p1 p2
      rw [Int.toNat_natCast, hsrc i hi, hc i hi, eta, wr1 i (by omega), wr1 (i + 1) (by omega)] at c1
      refine c1 ⟨fun _ => ⟨⟨by omega, by omega⟩, fun _ => ⟨rfl, fun _ => ⟨?_, ⟨nn, by rw [p1]; exact its_nn _ _, nn_int p2⟩, fun _ => next⟩⟩⟩, fun q => by omega⟩
      exact (push_at hη hmix (wr1 (i + 1) (by omega)) (q := 127) (v := 128) (r := 129) (m := 130) (f := 20) (x := ((i + 1 : Nat) : Int)) (n := i) (s := s) ⟨by kernel_rfl, by kernel_rfl, by kernel_rfl, by kernel_rfl, by decide⟩ hord hs hE (by omega) (by omega) (src i)).conv (by kernel_rfl)
  refine ⟨fun q => absurd q h300, fun _ => ⟨order _, (new_any hη hmix hord _).conv (by kernel_rfl), fun q => absurd q h300, fun _ => cut0 ⟨fun h0 => ⟨h0, fun _ => ⟨?_, fun _ => ⟨?_, nn, fun _ => ?_⟩⟩⟩, fun h0 => ⟨order _, ⟨by omega, by omega⟩, fun _ => ⟨⟨nn, by rw [rep_bls]; exact bls_nn _ _⟩, fun _ => cut2 ⟨fun q => absurd q h0, fun _ => ⟨?_, awake _, nn, fun _ => trivial⟩⟩⟩⟩⟩⟩⟩
  · have := hc 0 (by omega)
    rw [Nat.add_zero] at this
    rw [this, show intAt c o = src 0 from hsrc 0 (by omega)]
  · exact (push_any0 hη hmix (q := 127) (v := 128) (m := 129) (f := 20) (x := 1) ⟨by kernel_rfl, by kernel_rfl, by kernel_rfl, by decide⟩ hord (by decide) _).conv (by kernel_rfl)
  · rw [show intAt c o = src 0 from hsrc 0 (by omega)]
    exact pushes (n - 1) 1 (fun _ => (1, src 0)) ⟨[.int .i64 1, .int .i64 (src 0)], [{ key := .int .i64 1, val := .int .i64 0, born := 0 }], 1⟩ rfl (Nat.le_refl _) (by omega) ⟨fun k h1 h2 => by omega, fun a b ha hb _ => by omega, fun k hk => ⟨0, Nat.zero_lt_one, rfl⟩⟩ rfl (fun e he => by
      have he : e ∈ [({ key := .int .i64 1, val := .int .i64 0, born := 0 } : MapEntry)] := he
      rw [List.mem_singleton] at he; subst he; exact ⟨1, 0, rfl, rfl⟩)
  · exact pop_none0 hη hmix (q := 128) (v := 129) (m := 130) (f := 20) (x := 1) ⟨by kernel_rfl, by kernel_rfl, by kernel_rfl, by decide⟩
end HQ
end Go.Ev

namespace Go.Ev
set_option linter.unusedVariables false
set_option linter.unusedSimpArgs false
open Go Go.Proofs
open Go.Ev.T renaming node → nN, nil → nZ
open Go.Proofs.Try (prog)
set_option maxRecDepth 100000
set_option maxHeartbeats 2000000
namespace KSortL
set_option linter.unusedVariables false
noncomputable def bd : Code := (Go.Proofs.Try.f3.body).getD .skip
noncomputable def bd6 : Code := (Go.Proofs.Try.f6.body).getD .skip
noncomputable def H0 (by_ : Int) (ty : Nat) (o : Nat) (c : List Value) (n : Nat) (cap : Nat) : AH := { objs := nN none nZ (nN none nZ (nN none nZ (nN none nZ (nN none nZ (nN none nZ (nN (some (AObj.cells ty c false 0)) nZ nZ)))))), next := 127 }
noncomputable def E (by_ : Int) (ty : Nat) (o : Nat) (c : List Value) (n : Nat) (cap : Nat) : AS := ⟨⟨3, 118, nN (some (Value.int IntKind.u8 by_)) (nN (some (Value.slice (some ⟨126, o, none⟩) n cap)) nZ nZ) nZ, [Item.code (codeAt bd [])], [], FrameMode.run, CallKind.normal, none⟩, [], ⟨nN none nZ (nN none nZ (nN none nZ (nN none nZ (nN none nZ (nN none nZ (nN (some (AObj.cells ty c false 0)) nZ nZ)))))), 127⟩⟩
noncomputable def S0 (by_ : Int) (ty : Nat) (o : Nat) (c : List Value) (n : Nat) (cap : Nat)  (d : Nat → Value) : AS := ⟨⟨6, 37, nN (some (d 0)) (nN (some (Value.slice (some ⟨126, o, none⟩) n cap)) (nN (some (d 3)) (nN (some (d 7)) (nN (some (d 15)) (nN (some (d 31)) nZ nZ) nZ) (nN (some (d 23)) nZ nZ)) (nN (some (d 11)) (nN (some (d 19)) (nN (some (d 35)) nZ nZ) nZ) (nN (some (d 27)) nZ nZ))) (nN (some (Value.pointer (some ⟨127, 0, none⟩))) (nN (some (d 9)) (nN (some (d 17)) (nN (some (d 33)) nZ nZ) nZ) (nN (some (d 25)) nZ nZ)) (nN (some (d 13)) (nN (some (d 21)) nZ nZ) (nN (some (d 29)) nZ nZ)))) (nN (some (d 2)) (nN (some (d 4)) (nN (some (d 8)) (nN (some (d 16)) (nN (some (d 32)) nZ nZ) nZ) (nN (some (d 24)) nZ nZ)) (nN (some (d 12)) (nN (some (d 20)) (nN (some (d 36)) nZ nZ) nZ) (nN (some (d 28)) nZ nZ))) (nN (some (Value.int IntKind.i64 0)) (nN (some (d 10)) (nN (some (d 18)) (nN (some (d 34)) nZ nZ) nZ) (nN (some (d 26)) nZ nZ)) (nN (some (d 14)) (nN (some (d 22)) nZ nZ) (nN (some (d 30)) nZ nZ)))), [Item.code (codeAt bd6 [1, 1, 1, 0, 1, 0, 0]), Item.inLoop (codeAt bd6 [1, 1, 1, 0, 1, 0, 0]), Item.inBlock 0, Item.code (codeAt bd6 [1, 1, 1, 1])], [], FrameMode.run, CallKind.normal, none⟩, [⟨3, 118, nN (some (Value.int IntKind.u8 by_)) (nN (some (Value.slice (some ⟨126, o, none⟩) n cap)) (nN none nZ (nN none (nN (some (Value.bool false)) nZ nZ) nZ)) (nN none (nN none (nN (some (Value.slice (some ⟨126, o, none⟩) n cap)) nZ nZ) nZ) (nN none (nN (some (Value.int IntKind.u8 by_)) nZ nZ) nZ))) (nN none (nN (some (Value.bool false)) nZ nZ) (nN none (nN none (nN (some (Value.int IntKind.i64 (↑n : Int))) nZ nZ) nZ) (nN none (nN (some (Value.slice (some ⟨126, o, none⟩) n cap)) nZ nZ) nZ))), [Item.inRegion (opsAt bd [1, 1, 0]) [2, 3], Item.code (codeAt bd [1, 1, 1])], [], FrameMode.run, CallKind.normal, none⟩], ⟨nN none (nN none (nN none (nN none (nN none (nN none (nN none (nN (some (AObj.cells 54 [Value.pointer (some ⟨127, 0, none⟩), Value.pointer (some ⟨128, 0, none⟩)] true 2)) nZ nZ) nZ) nZ) nZ) nZ) nZ) (nN none (nN none (nN none (nN none (nN none (nN (some (AObj.map [] 0 true)) nZ nZ) nZ) nZ) nZ) nZ) nZ)) (nN none (nN none (nN none (nN none (nN none (nN none (nN (some (AObj.cells 58 [Value.func (Fn.func 21) ⟨[]⟩ ⟨[]⟩, Value.int IntKind.i64 1, Value.slice none 0 0, Value.map (some 129)] true 2)) nZ nZ) nZ) nZ) nZ) nZ) nZ) (nN none nZ (nN none nZ (nN none nZ (nN none nZ (nN (some (AObj.cells ty c false 0)) nZ nZ)))))), 130⟩⟩
noncomputable def S1 (by_ : Int) (ty : Nat) (o : Nat) (c : List Value) (n : Nat) (cap : Nat) (i0 : Int) (l0 : List Value) (i1 : Int) (n0 : Nat) (m0 : List MapEntry) (n1 : Nat) (d : Nat → Value) : AS := ⟨⟨6, 37, nN (some (d 0)) (nN (some (Value.slice (some ⟨126, o, none⟩) n cap)) (nN (some (d 3)) (nN (some (d 7)) (nN (some (d 15)) (nN (some (d 31)) nZ nZ) nZ) (nN (some (d 23)) nZ nZ)) (nN (some (d 11)) (nN (some (d 19)) (nN (some (d 35)) nZ nZ) nZ) (nN (some (d 27)) nZ nZ))) (nN (some (Value.pointer (some ⟨127, 0, none⟩))) (nN (some (d 9)) (nN (some (d 17)) (nN (some (d 33)) nZ nZ) nZ) (nN (some (d 25)) nZ nZ)) (nN (some (d 13)) (nN (some (d 21)) nZ nZ) (nN (some (d 29)) nZ nZ)))) (nN (some (d 2)) (nN (some (d 4)) (nN (some (d 8)) (nN (some (d 16)) (nN (some (d 32)) nZ nZ) nZ) (nN (some (d 24)) nZ nZ)) (nN (some (d 12)) (nN (some (d 20)) (nN (some (d 36)) nZ nZ) nZ) (nN (some (d 28)) nZ nZ))) (nN (some (Value.int IntKind.i64 i0)) (nN (some (d 10)) (nN (some (d 18)) (nN (some (d 34)) nZ nZ) nZ) (nN (some (d 26)) nZ nZ)) (nN (some (d 14)) (nN (some (d 22)) nZ nZ) (nN (some (d 30)) nZ nZ)))), [Item.code (codeAt bd6 [1, 1, 1, 0, 1, 0, 0]), Item.inLoop (codeAt bd6 [1, 1, 1, 0, 1, 0, 0]), Item.inBlock 0, Item.code (codeAt bd6 [1, 1, 1, 1])], [], FrameMode.run, CallKind.normal, none⟩, [⟨3, 118, nN (some (Value.int IntKind.u8 by_)) (nN (some (Value.slice (some ⟨126, o, none⟩) n cap)) (nN (some (undef)) (nN (some (undef)) (nN (some (undef)) (nN (some (undef)) (nN (some (undef)) nZ nZ) (nN (some (undef)) nZ nZ)) (nN (some (undef)) (nN (some (undef)) nZ nZ) (nN (some (undef)) nZ nZ))) (nN (some (undef)) (nN (some (undef)) (nN (some (undef)) nZ nZ) (nN (some (undef)) nZ nZ)) (nN (some (undef)) (nN (some (undef)) nZ nZ) nZ))) (nN (some (undef)) (nN (some (Value.bool false)) (nN (some (undef)) (nN (some (undef)) nZ nZ) (nN (some (undef)) nZ nZ)) (nN (some (undef)) (nN (some (undef)) nZ nZ) (nN (some (undef)) nZ nZ))) (nN (some (undef)) (nN (some (undef)) (nN (some (undef)) nZ nZ) (nN (some (undef)) nZ nZ)) (nN (some (undef)) (nN (some (undef)) nZ nZ) nZ)))) (nN (some (undef)) (nN (some (undef)) (nN (some (Value.slice (some ⟨126, o, none⟩) n cap)) (nN (some (undef)) (nN (some (undef)) nZ nZ) (nN (some (undef)) nZ nZ)) (nN (some (undef)) (nN (some (undef)) nZ nZ) (nN (some (undef)) nZ nZ))) (nN (some (undef)) (nN (some (undef)) (nN (some (undef)) nZ nZ) (nN (some (undef)) nZ nZ)) (nN (some (undef)) (nN (some (undef)) nZ nZ) nZ))) (nN (some (undef)) (nN (some (Value.int IntKind.u8 by_)) (nN (some (undef)) (nN (some (undef)) nZ nZ) (nN (some (undef)) nZ nZ)) (nN (some (undef)) (nN (some (undef)) nZ nZ) (nN (some (undef)) nZ nZ))) (nN (some (undef)) (nN (some (undef)) (nN (some (undef)) nZ nZ) (nN (some (undef)) nZ nZ)) (nN (some (undef)) (nN (some (undef)) nZ nZ) nZ))))) (nN (some (undef)) (nN (some (Value.bool false)) (nN (some (undef)) (nN (some (undef)) (nN (some (undef)) (nN (some (undef)) nZ nZ) (nN (some (undef)) nZ nZ)) (nN (some (undef)) (nN (some (undef)) nZ nZ) (nN (some (undef)) nZ nZ))) (nN (some (undef)) (nN (some (undef)) (nN (some (undef)) nZ nZ) (nN (some (undef)) nZ nZ)) (nN (some (undef)) (nN (some (undef)) nZ nZ) nZ))) (nN (some (undef)) (nN (some (undef)) (nN (some (undef)) (nN (some (undef)) nZ nZ) (nN (some (undef)) nZ nZ)) (nN (some (undef)) (nN (some (undef)) nZ nZ) (nN (some (undef)) nZ nZ))) (nN (some (undef)) (nN (some (undef)) (nN (some (undef)) nZ nZ) (nN (some (undef)) nZ nZ)) (nN (some (undef)) (nN (some (undef)) nZ nZ) nZ)))) (nN (some (undef)) (nN (some (undef)) (nN (some (Value.int IntKind.i64 (↑n : Int))) (nN (some (undef)) (nN (some (undef)) nZ nZ) (nN (some (undef)) nZ nZ)) (nN (some (undef)) (nN (some (undef)) nZ nZ) (nN (some (undef)) nZ nZ))) (nN (some (undef)) (nN (some (undef)) (nN (some (undef)) nZ nZ) (nN (some (undef)) nZ nZ)) (nN (some (undef)) (nN (some (undef)) nZ nZ) nZ))) (nN (some (undef)) (nN (some (Value.slice (some ⟨126, o, none⟩) n cap)) (nN (some (undef)) (nN (some (undef)) nZ nZ) (nN (some (undef)) nZ nZ)) (nN (some (undef)) (nN (some (undef)) nZ nZ) nZ)) (nN (some (undef)) (nN (some (undef)) (nN (some (undef)) nZ nZ) (nN (some (undef)) nZ nZ)) (nN (some (undef)) (nN (some (undef)) nZ nZ) nZ))))), [Item.inRegion (opsAt bd [1, 1, 0]) [2, 3], Item.code (codeAt bd [1, 1, 1])], [], FrameMode.run, CallKind.normal, none⟩], ⟨nN none (nN none (nN none (nN none (nN none (nN none (nN none (nN (some (AObj.cells 54 [Value.pointer (some ⟨127, 0, none⟩), Value.pointer (some ⟨128, 0, none⟩)] true 2)) nZ nZ) nZ) nZ) nZ) nZ) nZ) (nN none (nN none (nN none (nN none (nN none (nN (some (AObj.cells 47 l0 false 2)) nZ nZ) nZ) nZ) nZ) nZ) nZ)) (nN none (nN none (nN none (nN none (nN none (nN none (nN (some (AObj.cells 58 [Value.func (Fn.func 21) ⟨[]⟩ ⟨[]⟩, Value.int IntKind.i64 i1, Value.slice (some ⟨129, 0, none⟩) n0 9223372036854775810, Value.map (some 130)] true 2)) nZ nZ) nZ) nZ) nZ) nZ) nZ) (nN none (nN none (nN none (nN none (nN none (nN (some (AObj.map m0 n1 true)) nZ nZ) nZ) nZ) nZ) nZ) (nN none nZ (nN none nZ (nN none nZ (nN (some (AObj.cells ty c false 0)) nZ nZ)))))), 131⟩⟩
noncomputable def S2 (by_ : Int) (ty : Nat) (o : Nat) (c : List Value) (n : Nat) (cap : Nat)  (d : Nat → Value) : AS := ⟨⟨3, 118, nN (some (d 0)) (nN (some (Value.slice (some ⟨126, o, none⟩) n cap)) (nN (some (d 3)) (nN (some (Value.slice (some ⟨127, 0, none⟩) (↑n : Int).toNat (↑n : Int).toNat)) (nN (some (d 15)) (nN (some (d 31)) (nN (some (d 63)) nZ nZ) (nN (some (d 95)) nZ nZ)) (nN (some (d 47)) (nN (some (d 79)) nZ nZ) (nN (some (d 111)) nZ nZ))) (nN (some (d 23)) (nN (some (d 39)) (nN (some (d 71)) nZ nZ) (nN (some (d 103)) nZ nZ)) (nN (some (d 55)) (nN (some (d 87)) nZ nZ) nZ))) (nN (some (d 11)) (nN (some (d 19)) (nN (some (d 35)) (nN (some (d 67)) nZ nZ) (nN (some (d 99)) nZ nZ)) (nN (some (d 51)) (nN (some (d 83)) nZ nZ) (nN (some (d 115)) nZ nZ))) (nN (some (d 27)) (nN (some (d 43)) (nN (some (d 75)) nZ nZ) (nN (some (d 107)) nZ nZ)) (nN (some (d 59)) (nN (some (d 91)) nZ nZ) nZ)))) (nN (some (Value.pointer (some ⟨128, 0, none⟩))) (nN (some (Value.int IntKind.i64 0)) (nN (some (d 17)) (nN (some (d 33)) (nN (some (d 65)) nZ nZ) (nN (some (d 97)) nZ nZ)) (nN (some (d 49)) (nN (some (d 81)) nZ nZ) (nN (some (d 113)) nZ nZ))) (nN (some (d 25)) (nN (some (d 41)) (nN (some (d 73)) nZ nZ) (nN (some (d 105)) nZ nZ)) (nN (some (d 57)) (nN (some (d 89)) nZ nZ) nZ))) (nN (some (d 13)) (nN (some (d 21)) (nN (some (d 37)) (nN (some (d 69)) nZ nZ) (nN (some (d 101)) nZ nZ)) (nN (some (d 53)) (nN (some (d 85)) nZ nZ) (nN (some (d 117)) nZ nZ))) (nN (some (d 29)) (nN (some (d 45)) (nN (some (d 77)) nZ nZ) (nN (some (d 109)) nZ nZ)) (nN (some (d 61)) (nN (some (d 93)) nZ nZ) nZ))))) (nN (some (d 2)) (nN (some (d 4)) (nN (some (Value.int IntKind.i64 0)) (nN (some (d 16)) (nN (some (d 32)) (nN (some (d 64)) nZ nZ) (nN (some (d 96)) nZ nZ)) (nN (some (d 48)) (nN (some (d 80)) nZ nZ) (nN (some (d 112)) nZ nZ))) (nN (some (d 24)) (nN (some (d 40)) (nN (some (d 72)) nZ nZ) (nN (some (d 104)) nZ nZ)) (nN (some (d 56)) (nN (some (d 88)) nZ nZ) nZ))) (nN (some (d 12)) (nN (some (d 20)) (nN (some (d 36)) (nN (some (d 68)) nZ nZ) (nN (some (d 100)) nZ nZ)) (nN (some (d 52)) (nN (some (d 84)) nZ nZ) (nN (some (d 116)) nZ nZ))) (nN (some (d 28)) (nN (some (d 44)) (nN (some (d 76)) nZ nZ) (nN (some (d 108)) nZ nZ)) (nN (some (d 60)) (nN (some (d 92)) nZ nZ) nZ)))) (nN (some (Value.func (Fn.func 21) ⟨[]⟩ ⟨[]⟩)) (nN (some (Value.int IntKind.i64 0)) (nN (some (d 18)) (nN (some (d 34)) (nN (some (d 66)) nZ nZ) (nN (some (d 98)) nZ nZ)) (nN (some (d 50)) (nN (some (d 82)) nZ nZ) (nN (some (d 114)) nZ nZ))) (nN (some (d 26)) (nN (some (d 42)) (nN (some (d 74)) nZ nZ) (nN (some (d 106)) nZ nZ)) (nN (some (d 58)) (nN (some (d 90)) nZ nZ) nZ))) (nN (some (d 14)) (nN (some (d 22)) (nN (some (d 38)) (nN (some (d 70)) nZ nZ) (nN (some (d 102)) nZ nZ)) (nN (some (d 54)) (nN (some (d 86)) nZ nZ) nZ)) (nN (some (d 30)) (nN (some (d 46)) (nN (some (d 78)) nZ nZ) (nN (some (d 110)) nZ nZ)) (nN (some (d 62)) (nN (some (d 94)) nZ nZ) nZ))))), [Item.code (codeAt bd [1, 1, 1, 1, 1, 1, 1, 0, 1, 0, 0]), Item.inLoop (codeAt bd [1, 1, 1, 1, 1, 1, 1, 0, 1, 0, 0]), Item.inBlock 0, Item.code (codeAt bd [1, 1, 1, 1, 1, 1, 1, 1])], [], FrameMode.run, CallKind.normal, none⟩, [], ⟨nN none (nN none (nN none (nN none (nN none (nN none (nN none (nN (some (AObj.cells 4 (rep [Value.bool false] (↑n : Int).toNat) true 2)) nZ nZ) nZ) nZ) nZ) nZ) nZ) (nN none (nN none (nN none (nN none (nN none (nN (some (AObj.cells 58 [Value.func (Fn.func 21) ⟨[]⟩ ⟨[]⟩, Value.int IntKind.i64 1, Value.slice none 0 0, Value.map (some 130)] true 2)) nZ nZ) nZ) nZ) nZ) nZ) nZ)) (nN none (nN none (nN none (nN none (nN none (nN none (nN (some (AObj.cells 54 [Value.pointer (some ⟨128, 0, none⟩), Value.pointer (some ⟨129, 0, none⟩)] true 2)) nZ nZ) nZ) nZ) nZ) nZ) nZ) (nN none (nN none (nN none (nN none (nN none (nN (some (AObj.map [] 0 true)) nZ nZ) nZ) nZ) nZ) nZ) (nN none nZ (nN none nZ (nN none nZ (nN (some (AObj.cells ty c false 0)) nZ nZ)))))), 131⟩⟩
noncomputable def S3 (by_ : Int) (ty : Nat) (o : Nat) (c : List Value) (n : Nat) (cap : Nat) (i0 : Int) (i1 : Int) (i2 : Int) (l0 : List Value) (m0 : List MapEntry) (n0 : Nat) (l1 : List Value) (n1 : Nat) (i3 : Int) (d : Nat → Value) : AS := ⟨⟨3, 118, nN (some (d 0)) (nN (some (Value.slice (some ⟨126, o, none⟩) n cap)) (nN (some (d 3)) (nN (some (Value.slice (some ⟨127, 0, none⟩) (↑n : Int).toNat (↑n : Int).toNat)) (nN (some (d 15)) (nN (some (d 31)) (nN (some (d 63)) nZ nZ) (nN (some (d 95)) nZ nZ)) (nN (some (d 47)) (nN (some (d 79)) nZ nZ) (nN (some (d 111)) nZ nZ))) (nN (some (d 23)) (nN (some (d 39)) (nN (some (d 71)) nZ nZ) (nN (some (d 103)) nZ nZ)) (nN (some (d 55)) (nN (some (d 87)) nZ nZ) nZ))) (nN (some (d 11)) (nN (some (d 19)) (nN (some (d 35)) (nN (some (d 67)) nZ nZ) (nN (some (d 99)) nZ nZ)) (nN (some (d 51)) (nN (some (d 83)) nZ nZ) (nN (some (d 115)) nZ nZ))) (nN (some (d 27)) (nN (some (d 43)) (nN (some (d 75)) nZ nZ) (nN (some (d 107)) nZ nZ)) (nN (some (d 59)) (nN (some (d 91)) nZ nZ) nZ)))) (nN (some (Value.pointer (some ⟨128, 0, none⟩))) (nN (some (Value.int IntKind.i64 i0)) (nN (some (d 17)) (nN (some (d 33)) (nN (some (d 65)) nZ nZ) (nN (some (d 97)) nZ nZ)) (nN (some (d 49)) (nN (some (d 81)) nZ nZ) (nN (some (d 113)) nZ nZ))) (nN (some (d 25)) (nN (some (d 41)) (nN (some (d 73)) nZ nZ) (nN (some (d 105)) nZ nZ)) (nN (some (d 57)) (nN (some (d 89)) nZ nZ) nZ))) (nN (some (d 13)) (nN (some (d 21)) (nN (some (d 37)) (nN (some (d 69)) nZ nZ) (nN (some (d 101)) nZ nZ)) (nN (some (d 53)) (nN (some (d 85)) nZ nZ) (nN (some (d 117)) nZ nZ))) (nN (some (d 29)) (nN (some (d 45)) (nN (some (d 77)) nZ nZ) (nN (some (d 109)) nZ nZ)) (nN (some (d 61)) (nN (some (d 93)) nZ nZ) nZ))))) (nN (some (d 2)) (nN (some (d 4)) (nN (some (Value.int IntKind.i64 i1)) (nN (some (d 16)) (nN (some (d 32)) (nN (some (d 64)) nZ nZ) (nN (some (d 96)) nZ nZ)) (nN (some (d 48)) (nN (some (d 80)) nZ nZ) (nN (some (d 112)) nZ nZ))) (nN (some (d 24)) (nN (some (d 40)) (nN (some (d 72)) nZ nZ) (nN (some (d 104)) nZ nZ)) (nN (some (d 56)) (nN (some (d 88)) nZ nZ) nZ))) (nN (some (d 12)) (nN (some (d 20)) (nN (some (d 36)) (nN (some (d 68)) nZ nZ) (nN (some (d 100)) nZ nZ)) (nN (some (d 52)) (nN (some (d 84)) nZ nZ) (nN (some (d 116)) nZ nZ))) (nN (some (d 28)) (nN (some (d 44)) (nN (some (d 76)) nZ nZ) (nN (some (d 108)) nZ nZ)) (nN (some (d 60)) (nN (some (d 92)) nZ nZ) nZ)))) (nN (some (Value.func (Fn.func 21) ⟨[]⟩ ⟨[]⟩)) (nN (some (Value.int IntKind.i64 i2)) (nN (some (d 18)) (nN (some (d 34)) (nN (some (d 66)) nZ nZ) (nN (some (d 98)) nZ nZ)) (nN (some (d 50)) (nN (some (d 82)) nZ nZ) (nN (some (d 114)) nZ nZ))) (nN (some (d 26)) (nN (some (d 42)) (nN (some (d 74)) nZ nZ) (nN (some (d 106)) nZ nZ)) (nN (some (d 58)) (nN (some (d 90)) nZ nZ) nZ))) (nN (some (d 14)) (nN (some (d 22)) (nN (some (d 38)) (nN (some (d 70)) nZ nZ) (nN (some (d 102)) nZ nZ)) (nN (some (d 54)) (nN (some (d 86)) nZ nZ) nZ)) (nN (some (d 30)) (nN (some (d 46)) (nN (some (d 78)) nZ nZ) (nN (some (d 110)) nZ nZ)) (nN (some (d 62)) (nN (some (d 94)) nZ nZ) nZ))))), [Item.code (codeAt bd [1, 1, 1, 1, 1, 1, 1, 0, 1, 0, 0]), Item.inLoop (codeAt bd [1, 1, 1, 1, 1, 1, 1, 0, 1, 0, 0]), Item.inBlock 0, Item.code (codeAt bd [1, 1, 1, 1, 1, 1, 1, 1])], [], FrameMode.run, CallKind.normal, none⟩, [], ⟨nN none (nN none (nN none (nN none (nN none (nN none (nN none (nN (some (AObj.cells 4 l0 true 2)) nZ nZ) nZ) nZ) nZ) nZ) (nN none (nN none (nN none (nN none (nN (some (AObj.map m0 n1 true)) nZ nZ) nZ) nZ) nZ) nZ)) (nN none (nN none (nN none (nN none (nN none (nN (some (AObj.cells 58 [Value.func (Fn.func 21) ⟨[]⟩ ⟨[]⟩, Value.int IntKind.i64 i3, Value.slice (some ⟨130, 0, none⟩) n0 9223372036854775810, Value.map (some 131)] true 2)) nZ nZ) nZ) nZ) nZ) nZ) nZ)) (nN none (nN none (nN none (nN none (nN none (nN none (nN (some (AObj.cells 54 [Value.pointer (some ⟨128, 0, none⟩), Value.pointer (some ⟨129, 0, none⟩)] true 2)) nZ nZ) nZ) nZ) nZ) nZ) nZ) (nN none (nN none (nN none (nN none (nN none (nN (some (AObj.cells 47 l1 false 2)) nZ nZ) nZ) nZ) nZ) nZ) (nN none nZ (nN none nZ (nN none nZ (nN (some (AObj.cells ty c false 0)) nZ nZ)))))), 132⟩⟩
noncomputable abbrev henter_1 (ty : Nat) (c : List Value) : AH := ⟨nN none nZ (nN none nZ (nN none nZ (nN none nZ (nN none nZ (nN none nZ (nN (some (AObj.cells ty c false 0)) nZ nZ)))))), 127⟩
theorem enter {η : Nat → Value} {B : Bd} (hη : OneCells η) (hmix : prog.follows .mixedOrders = true) (hreg : RegOk η prog B noNest) {D : Value → AH → Prop} (by_ : Int) (ty : Nat) (o : Nat) (c : List Value) (n : Nat) (cap : Nat) (h : W.holds η prog B 3 (fun kp_ st_ => RunD η prog B 3 (H0 by_ ty o c n cap) kp_ st_ (QF prog 127 D)) D (.ite (decide ((↑n : Int) > (300 : Int))) (.call 5 [] ((henter_1 ty c)) (.ret (Value.bool true) ((henter_1 ty c))) (.done 3 (Value.bool true) (H0 by_ ty o c n cap))) (.call 7 [Value.int IntKind.u8 by_] ((henter_1 ty c)) (.ret (Value.func (Fn.func 21) ⟨[]⟩ ⟨[]⟩) ((henter_1 ty c))) (.call 19 [Value.func (Fn.func 21) ⟨[]⟩ ⟨[]⟩] ((henter_1 ty c)) (.ret (Value.pointer (some ⟨127, 0, none⟩)) (⟨nN none (nN none (nN none (nN none (nN none (nN none (nN none (nN (some (AObj.cells 54 [Value.pointer (some ⟨127, 0, none⟩), Value.pointer (some ⟨128, 0, none⟩)] true 2)) nZ nZ) nZ) nZ) nZ) nZ) nZ) (nN none (nN none (nN none (nN none (nN none (nN (some (AObj.map [] 0 true)) nZ nZ) nZ) nZ) nZ) nZ) nZ)) (nN none (nN none (nN none (nN none (nN none (nN none (nN (some (AObj.cells 58 [Value.func (Fn.func 21) ⟨[]⟩ ⟨[]⟩, Value.int IntKind.i64 1, Value.slice none 0 0, Value.map (some 129)] true 2)) nZ nZ) nZ) nZ) nZ) nZ) nZ) (nN none nZ (nN none nZ (nN none nZ (nN none nZ (nN (some (AObj.cells ty c false 0)) nZ nZ)))))), 130⟩)) (.ite (decide ((↑n : Int) > (300 : Int))) (.need (NoNames c ∧ True) (.done 3 (Value.bool false) (H0 by_ ty o c n cap))) (.stop [1, 5, 6] (S0 by_ ty o c n cap  (fun _ => undef)))))))) : CallSpec η prog B 3 [Value.int IntKind.u8 by_, Value.slice (some ⟨126, o, none⟩) n cap] (H0 by_ ty o c n cap) D := by
  refine CallSpec.ofQF hη (CallSpec.enter (fr := (E by_ ty o c n cap).fr) (by kernel_rfl) ?_)
  exact walk_okT (h0 := H0 by_ ty o c n cap) hη hmix hreg (.steps 11 <| .bit 19 (.steps 3 <| .call kN <| .steps 3 <| .done none) (.steps 14 <| .call kN <| .call kN <| .steps 13 <| .bit 18 (.steps 21 <| .done (some ⟨127, [], [(126, (126, true))]⟩)) (.steps 9 <| .stop [1, 5, 6] none))) (E by_ ty o c n cap) (by kernel_rfl) h (by kernel_rfl)
noncomputable abbrev hcut0_1 (ty : Nat) (c : List Value) : AH := ⟨nN none (nN none (nN none (nN none (nN none (nN none (nN none (nN (some (AObj.cells 54 [Value.pointer (some ⟨127, 0, none⟩), Value.pointer (some ⟨128, 0, none⟩)] true 2)) nZ nZ) nZ) nZ) nZ) nZ) nZ) (nN none (nN none (nN none (nN none (nN none (nN (some (AObj.map [] 0 true)) nZ nZ) nZ) nZ) nZ) nZ) nZ)) (nN none (nN none (nN none (nN none (nN none (nN none (nN (some (AObj.cells 58 [Value.func (Fn.func 21) ⟨[]⟩ ⟨[]⟩, Value.int IntKind.i64 1, Value.slice none 0 0, Value.map (some 129)] true 2)) nZ nZ) nZ) nZ) nZ) nZ) nZ) (nN none nZ (nN none nZ (nN none nZ (nN none nZ (nN (some (AObj.cells ty c false 0)) nZ nZ)))))), 130⟩
theorem cut0 {η : Nat → Value} {B : Bd} (hη : OneCells η) (hmix : prog.follows .mixedOrders = true) (hreg : RegOk η prog B noNest) {D : Value → AH → Prop} (by_ : Int) (ty : Nat) (o : Nat) (c : List Value) (n : Nat) (cap : Nat)  (h : W.holds η prog B 3 (fun kp_ st_ => RunD η prog B 3 (H0 by_ ty o c n cap) kp_ st_ (QF prog 127 D)) D (.ite (decide ((0 : Int) < (↑n : Int))) (.need ((0 : Int) ≤ (0 : Int) ∧ (0 : Int) < (↑n : Int)) (.need (c[o + (0 : Nat)]? = some (Value.int IntKind.i64 (intAt c (o + (0 : Nat))))) (.call 11 [Value.pointer (some ⟨127, 0, none⟩), Value.int IntKind.i64 (intAt c (o + 0))] ((hcut0_1 ty c)) (.ret (Value.tuple ⟨[Value.int IntKind.i64 1, Value.int IntKind.i64 0]⟩) (⟨nN none (nN none (nN none (nN none (nN none (nN none (nN none (nN (some (AObj.cells 54 [Value.pointer (some ⟨127, 0, none⟩), Value.pointer (some ⟨128, 0, none⟩)] true 2)) nZ nZ) nZ) nZ) nZ) nZ) nZ) (nN none (nN none (nN none (nN none (nN none (nN (some (AObj.map [{ key := Value.int IntKind.i64 1, val := Value.int IntKind.i64 0, born := 0 }] 1 true)) nZ nZ) nZ) nZ) nZ) nZ) nZ)) (nN none (nN none (nN none (nN none (nN none (nN none (nN (some (AObj.cells 58 [Value.func (Fn.func 21) ⟨[]⟩ ⟨[]⟩, Value.int IntKind.i64 2, Value.slice (some ⟨130, 0, none⟩) 1 9223372036854775810, Value.map (some 129)] true 2)) nZ nZ) nZ) nZ) nZ) nZ) nZ) (nN none (nN none (nN none (nN none (nN none (nN (some (AObj.cells 47 [Value.int IntKind.i64 1, Value.int IntKind.i64 (intAt c (o + 0))] false 2)) nZ nZ) nZ) nZ) nZ) nZ) (nN none nZ (nN none nZ (nN none nZ (nN (some (AObj.cells ty c false 0)) nZ nZ)))))), 131⟩)) (.need (NoNames c ∧ True ∧ True ∧ True ∧ True ∧ True) (.stop [1, 5, 6] (S1 by_ ty o c n cap (1) ([Value.int IntKind.i64 1, Value.int IntKind.i64 (intAt c (o + 0))]) (2) (1) ([{ key := Value.int IntKind.i64 1, val := Value.int IntKind.i64 0, born := 0 }]) (1) (fun _ => undef))))))) (.call 7 [Value.int IntKind.u8 by_] ((hcut0_1 ty c)) (.ret (Value.func (Fn.func 21) ⟨[]⟩ ⟨[]⟩) ((hcut0_1 ty c))) (.need ((0 : Int) ≤ (↑n : Int) ∧ (↑n : Int) ≤ (↑n : Int) ∧ (↑n : Int) ≤ (1000000 : Int)) (.need (NoNames c ∧ NoNames (rep [Value.bool false] (↑n : Int).toNat) ∧ True ∧ True ∧ True ∧ True) (.stop [1, 5, 6, 7, 8, 9, 10] (S2 by_ ty o c n cap  (fun _ => undef)))))))) : RunD η prog B 3 (H0 by_ ty o c n cap) [1, 5, 6] (S0 by_ ty o c n cap  fun _ => undef) (QF prog 127 D) := by
  refine RunD.intro (S0 by_ ty o c n cap ) (fun d => ⟨rfl, rfl, rfl⟩) (fun d => tmOk_get (by kernel_rfl)) (fun d => by kernel_rfl) (fun d => ?_)
  exact walk_okT (h0 := H0 by_ ty o c n cap) hη hmix hreg (.steps 8 <| .bit 22 (.steps 9 <| .op <| .op <| .call kN <| .steps 20 <| .stop [1, 5, 6] (some ⟨131, [(127, 127), (128, 128), (130, 129), (129, 130)], [(126, (126, true)), (127, (127, false)), (128, (128, false)), (129, (130, false)), (130, (129, false))]⟩)) (.steps 22 <| .call kN <| .steps 6 <| .op <| .steps 14 <| .stop [1, 5, 6, 7, 8, 9, 10] (some ⟨131, [(130, 127), (127, 128), (128, 129), (129, 130)], [(126, (126, true)), (127, (130, true)), (128, (127, false)), (129, (128, false)), (130, (129, false))]⟩))) (S0 by_ ty o c n cap  d) (by kernel_rfl) h (by kernel_rfl)
noncomputable abbrev hcut1_1 (ty : Nat) (c : List Value) (l0 : List Value) (i1 : Int) (n0 : Nat) (m0 : List MapEntry) (n1 : Nat) : AH := ⟨nN none (nN none (nN none (nN none (nN none (nN none (nN none (nN (some (AObj.cells 54 [Value.pointer (some ⟨127, 0, none⟩), Value.pointer (some ⟨128, 0, none⟩)] true 2)) nZ nZ) nZ) nZ) nZ) nZ) nZ) (nN none (nN none (nN none (nN none (nN none (nN (some (AObj.cells 47 l0 false 2)) nZ nZ) nZ) nZ) nZ) nZ) nZ)) (nN none (nN none (nN none (nN none (nN none (nN none (nN (some (AObj.cells 58 [Value.func (Fn.func 21) ⟨[]⟩ ⟨[]⟩, Value.int IntKind.i64 i1, Value.slice (some ⟨129, 0, none⟩) n0 9223372036854775810, Value.map (some 130)] true 2)) nZ nZ) nZ) nZ) nZ) nZ) nZ) (nN none (nN none (nN none (nN none (nN none (nN (some (AObj.map m0 n1 true)) nZ nZ) nZ) nZ) nZ) nZ) (nN none nZ (nN none nZ (nN none nZ (nN (some (AObj.cells ty c false 0)) nZ nZ)))))), 131⟩
theorem cut1 {η : Nat → Value} {B : Bd} (hη : OneCells η) (hmix : prog.follows .mixedOrders = true) (hreg : RegOk η prog B noNest) {D : Value → AH → Prop} (by_ : Int) (ty : Nat) (o : Nat) (c : List Value) (n : Nat) (cap : Nat) (i0 : Int) (l0 : List Value) (i1 : Int) (n0 : Nat) (m0 : List MapEntry) (n1 : Nat) (h : W.holds η prog B 3 (fun kp_ st_ => RunD η prog B 3 (H0 by_ ty o c n cap) kp_ st_ (QF prog 127 D)) D (.ite (decide (i0 < (↑n : Int))) (.need ((0 : Int) ≤ i0 ∧ i0 < (↑n : Int)) (.need (c[o + i0.toNat * (1 : Nat)]? = some (Value.int IntKind.i64 (intAt c (o + i0.toNat * (1 : Nat))))) (.call 11 [Value.pointer (some ⟨127, 0, none⟩), Value.int IntKind.i64 (intAt c (o + i0.toNat * 1))] ((hcut1_1 ty c l0 i1 n0 m0 n1)) (.ret (Value.tuple ⟨[Value.int IntKind.i64 i1, Value.int IntKind.i64 0]⟩) (⟨nN none (nN none (nN none (nN none (nN none (nN none (nN none (nN (some (AObj.cells 54 [Value.pointer (some ⟨127, 0, none⟩), Value.pointer (some ⟨128, 0, none⟩)] true 2)) nZ nZ) nZ) nZ) nZ) nZ) (nN none (nN none (nN none (nN none (nN (some (AObj.cells 47 (HQ.QS.push 21 n0 (HQ.QS.mk (l0) (m0) (n1)) i1 (intAt c (o + i0.toNat * 1))).c false 2)) nZ nZ) nZ) nZ) nZ) nZ)) (nN none (nN none (nN none (nN none (nN none (nN none nZ nZ) nZ) nZ) nZ) nZ) nZ)) (nN none (nN none (nN none (nN none (nN none (nN none (nN (some (AObj.cells 58 [Value.func (Fn.func 21) ⟨[]⟩ ⟨[]⟩, Value.int IntKind.i64 (IntKind.i64.wrap (i1 + 1)), Value.slice (some ⟨131, 0, none⟩) (n0 + 1) 9223372036854775810, Value.map (some 130)] true 2)) nZ nZ) nZ) nZ) nZ) nZ) nZ) (nN none (nN none (nN none (nN none (nN none (nN (some (AObj.map (HQ.QS.push 21 n0 (HQ.QS.mk (l0) (m0) (n1)) i1 (intAt c (o + i0.toNat * 1))).E (HQ.QS.push 21 n0 (HQ.QS.mk (l0) (m0) (n1)) i1 (intAt c (o + i0.toNat * 1))).ck true)) nZ nZ) nZ) nZ) nZ) nZ) (nN none nZ (nN none nZ (nN none nZ (nN (some (AObj.cells ty c false 0)) nZ nZ)))))), 132⟩)) (.need (NoNames c ∧ True ∧ True ∧ NoNames (HQ.QS.push (21 : Nat) n0 (HQ.QS.mk (l0) (m0) (n1)) i1 (intAt c (o + i0.toNat * (1 : Nat)))).c ∧ NoNamesE (HQ.QS.push (21 : Nat) n0 (HQ.QS.mk (l0) (m0) (n1)) i1 (intAt c (o + i0.toNat * (1 : Nat)))).E ∧ True) (.stop [1, 5, 6] (S1 by_ ty o c n cap (IntKind.i64.wrap (i0 + 1)) ((HQ.QS.push 21 n0 (HQ.QS.mk (l0) (m0) (n1)) i1 (intAt c (o + i0.toNat * 1))).c) (IntKind.i64.wrap (i1 + 1)) (n0 + 1) ((HQ.QS.push 21 n0 (HQ.QS.mk (l0) (m0) (n1)) i1 (intAt c (o + i0.toNat * 1))).E) ((HQ.QS.push 21 n0 (HQ.QS.mk (l0) (m0) (n1)) i1 (intAt c (o + i0.toNat * 1))).ck) (fun _ => undef))))))) (.call 7 [Value.int IntKind.u8 by_] ((hcut1_1 ty c l0 i1 n0 m0 n1)) (.ret (Value.func (Fn.func 21) ⟨[]⟩ ⟨[]⟩) ((hcut1_1 ty c l0 i1 n0 m0 n1))) (.need ((0 : Int) ≤ (↑n : Int) ∧ (↑n : Int) ≤ (↑n : Int) ∧ (↑n : Int) ≤ (1000000 : Int)) (.need (NoNames c ∧ NoNames (rep [Value.bool false] (↑n : Int).toNat) ∧ True ∧ True ∧ NoNames l0 ∧ NoNamesE m0 ∧ True) (.stop [1, 5, 6, 7, 8, 9, 10] (S3 by_ ty o c n cap (0) (0) (0) (rep [Value.bool false] (↑n : Int).toNat) (m0) (n0) (l0) (n1) (i1) (fun _ => undef)))))))) : RunD η prog B 3 (H0 by_ ty o c n cap) [1, 5, 6] (S1 by_ ty o c n cap i0 l0 i1 n0 m0 n1 fun _ => undef) (QF prog 127 D) := by
  refine RunD.intro (S1 by_ ty o c n cap i0 l0 i1 n0 m0 n1) (fun d => ⟨rfl, rfl, rfl⟩) (fun d => tmOk_get (by kernel_rfl)) (fun d => by kernel_rfl) (fun d => ?_)
  exact walk_okT (h0 := H0 by_ ty o c n cap) hη hmix hreg (.steps 8 <| .bit 22 (.steps 9 <| .op <| .op <| .call kN <| .steps 20 <| .stop [1, 5, 6] (some ⟨131, [(127, 127), (128, 128), (131, 129), (130, 130)], [(126, (126, true)), (127, (127, false)), (128, (128, false)), (129, (131, true)), (130, (130, true))]⟩)) (.steps 22 <| .call kN <| .steps 6 <| .op <| .steps 14 <| .stop [1, 5, 6, 7, 8, 9, 10] (some ⟨132, [(131, 127), (127, 128), (128, 129), (129, 130), (130, 131)], [(126, (126, true)), (127, (131, true)), (128, (127, false)), (129, (128, false)), (130, (129, true)), (131, (130, true))]⟩))) (S1 by_ ty o c n cap i0 l0 i1 n0 m0 n1 d) (by kernel_rfl) h (by kernel_rfl)
noncomputable abbrev hcut2_0 (ty : Nat) (c : List Value) (n : Nat) : AH := ⟨nN none (nN none (nN none (nN none (nN none (nN none (nN none (nN (some (AObj.cells 4 (rep [Value.bool false] (↑n : Int).toNat) true 2)) nZ nZ) nZ) nZ) nZ) nZ) nZ) (nN none (nN none (nN none (nN none (nN none (nN (some (AObj.cells 58 [Value.func (Fn.func 21) ⟨[]⟩ ⟨[]⟩, Value.int IntKind.i64 1, Value.slice none 0 0, Value.map (some 130)] true 2)) nZ nZ) nZ) nZ) nZ) nZ) nZ)) (nN none (nN none (nN none (nN none (nN none (nN none (nN (some (AObj.cells 54 [Value.pointer (some ⟨128, 0, none⟩), Value.pointer (some ⟨129, 0, none⟩)] true 2)) nZ nZ) nZ) nZ) nZ) nZ) nZ) (nN none (nN none (nN none (nN none (nN none (nN (some (AObj.map [] 0 true)) nZ nZ) nZ) nZ) nZ) nZ) (nN none nZ (nN none nZ (nN none nZ (nN (some (AObj.cells ty c false 0)) nZ nZ)))))), 131⟩
theorem cut2 {η : Nat → Value} {B : Bd} (hη : OneCells η) (hmix : prog.follows .mixedOrders = true) (hreg : RegOk η prog B noNest) {D : Value → AH → Prop} (by_ : Int) (ty : Nat) (o : Nat) (c : List Value) (n : Nat) (cap : Nat)  (h : W.holds η prog B 3 (fun kp_ st_ => RunD η prog B 3 (H0 by_ ty o c n cap) kp_ st_ (QF prog 127 D)) D (.ite (decide ((0 : Int) < (↑n : Int))) (.call 8 [Value.pointer (some ⟨128, 0, none⟩)] ((hcut2_0 ty c n)) (.ret (Value.tuple ⟨[Value.int IntKind.i64 0, Value.int IntKind.i64 0, Value.int IntKind.i64 4]⟩) ((hcut2_0 ty c n))) (.need (NoNames c ∧ True) (.done 3 (Value.bool false) (H0 by_ ty o c n cap)))) (.call 8 [Value.pointer (some ⟨128, 0, none⟩)] ((hcut2_0 ty c n)) (.ret (Value.tuple ⟨[Value.int IntKind.i64 0, Value.int IntKind.i64 0, Value.int IntKind.i64 4]⟩) ((hcut2_0 ty c n))) (.call 5 [] ((hcut2_0 ty c n)) (.ret (Value.bool true) ((hcut2_0 ty c n))) (.need (NoNames c ∧ True) (.done 3 (Value.bool true) (H0 by_ ty o c n cap))))))) : RunD η prog B 3 (H0 by_ ty o c n cap) [1, 5, 6, 7, 8, 9, 10] (S2 by_ ty o c n cap  fun _ => undef) (QF prog 127 D) := by
  refine RunD.intro (S2 by_ ty o c n cap ) (fun d => ⟨rfl, rfl, rfl⟩) (fun d => tmOk_get (by kernel_rfl)) (fun d => by kernel_rfl) (fun d => ?_)
  exact walk_okT (h0 := H0 by_ ty o c n cap) hη hmix hreg (.steps 8 <| .bit 34 (.steps 7 <| .call kN <| .steps 56 <| .done (some ⟨127, [], [(126, (126, true))]⟩)) (.steps 5 <| .call kN <| .steps 13 <| .call kN <| .steps 4 <| .done (some ⟨127, [], [(126, (126, true))]⟩))) (S2 by_ ty o c n cap  d) (by kernel_rfl) h (by kernel_rfl)
noncomputable abbrev hcut3_0 (ty : Nat) (c : List Value) (l0 : List Value) (m0 : List MapEntry) (n0 : Nat) (l1 : List Value) (n1 : Nat) (i3 : Int) : AH := ⟨nN none (nN none (nN none (nN none (nN none (nN none (nN none (nN (some (AObj.cells 4 l0 true 2)) nZ nZ) nZ) nZ) nZ) nZ) (nN none (nN none (nN none (nN none (nN (some (AObj.map (HQ.QS.pop 21 n0 (HQ.QS.mk (l1) (m0) (n1))).E (HQ.QS.pop 21 n0 (HQ.QS.mk (l1) (m0) (n1))).ck true)) nZ nZ) nZ) nZ) nZ) nZ)) (nN none (nN none (nN none (nN none (nN none (nN (some (AObj.cells 58 [Value.func (Fn.func 21) ⟨[]⟩ ⟨[]⟩, Value.int IntKind.i64 i3, Value.slice (some ⟨130, 0, none⟩) (n0 - 1) 9223372036854775810, Value.map (some 131)] true 2)) nZ nZ) nZ) nZ) nZ) nZ) nZ)) (nN none (nN none (nN none (nN none (nN none (nN none (nN (some (AObj.cells 54 [Value.pointer (some ⟨128, 0, none⟩), Value.pointer (some ⟨129, 0, none⟩)] true 2)) nZ nZ) nZ) nZ) nZ) nZ) nZ) (nN none (nN none (nN none (nN none (nN none (nN (some (AObj.cells 47 (HQ.QS.pop 21 n0 (HQ.QS.mk (l1) (m0) (n1))).c false 2)) nZ nZ) nZ) nZ) nZ) nZ) (nN none nZ (nN none nZ (nN none nZ (nN (some (AObj.cells ty c false 0)) nZ nZ)))))), 132⟩
noncomputable abbrev hcut3_1 (ty : Nat) (c : List Value) (l0 : List Value) (m0 : List MapEntry) (n0 : Nat) (l1 : List Value) (n1 : Nat) (i3 : Int) : AH := ⟨nN none (nN none (nN none (nN none (nN none (nN none (nN none (nN (some (AObj.cells 4 l0 true 2)) nZ nZ) nZ) nZ) nZ) nZ) (nN none (nN none (nN none (nN none (nN (some (AObj.map m0 n1 true)) nZ nZ) nZ) nZ) nZ) nZ)) (nN none (nN none (nN none (nN none (nN none (nN (some (AObj.cells 58 [Value.func (Fn.func 21) ⟨[]⟩ ⟨[]⟩, Value.int IntKind.i64 i3, Value.slice (some ⟨130, 0, none⟩) n0 9223372036854775810, Value.map (some 131)] true 2)) nZ nZ) nZ) nZ) nZ) nZ) nZ)) (nN none (nN none (nN none (nN none (nN none (nN none (nN (some (AObj.cells 54 [Value.pointer (some ⟨128, 0, none⟩), Value.pointer (some ⟨129, 0, none⟩)] true 2)) nZ nZ) nZ) nZ) nZ) nZ) nZ) (nN none (nN none (nN none (nN none (nN none (nN (some (AObj.cells 47 l1 false 2)) nZ nZ) nZ) nZ) nZ) nZ) (nN none nZ (nN none nZ (nN none nZ (nN (some (AObj.cells ty c false 0)) nZ nZ)))))), 132⟩
theorem cut3 {η : Nat → Value} {B : Bd} (hη : OneCells η) (hmix : prog.follows .mixedOrders = true) (hreg : RegOk η prog B noNest) {D : Value → AH → Prop} (by_ : Int) (ty : Nat) (o : Nat) (c : List Value) (n : Nat) (cap : Nat) (i0 : Int) (i1 : Int) (i2 : Int) (l0 : List Value) (m0 : List MapEntry) (n0 : Nat) (l1 : List Value) (n1 : Nat) (i3 : Int) (h : W.holds η prog B 3 (fun kp_ st_ => RunD η prog B 3 (H0 by_ ty o c n cap) kp_ st_ (QF prog 127 D)) D (.ite (decide (i2 < (↑n : Int))) (.call 8 [Value.pointer (some ⟨128, 0, none⟩)] ((hcut3_1 ty c l0 m0 n0 l1 n1 i3)) (.ite (n0 == (0 : Nat)) (.ret (Value.tuple ⟨[Value.int IntKind.i64 0, Value.int IntKind.i64 0, Value.int IntKind.i64 4]⟩) ((hcut3_1 ty c l0 m0 n0 l1 n1 i3))) (.ret (Value.tuple ⟨[Value.int IntKind.i64 (intAt l1 0), Value.int IntKind.i64 (intAt l1 1), Value.int IntKind.i64 0]⟩) ((hcut3_0 ty c l0 m0 n0 l1 n1 i3)))) (.ite (n0 == (0 : Nat)) (.need (NoNames c ∧ True) (.done 3 (Value.bool false) (H0 by_ ty o c n cap))) (.ite (decide (intAt l1 (0 : Nat) < (1 : Int))) (.need (NoNames c ∧ True) (.done 3 (Value.bool false) (H0 by_ ty o c n cap))) (.ite (decide (intAt l1 (0 : Nat) > (↑n : Int))) (.need (NoNames c ∧ True) (.done 3 (Value.bool false) (H0 by_ ty o c n cap))) (.need ((0 : Int) ≤ IntKind.i64.wrap (intAt l1 (0 : Nat) - (1 : Int)) ∧ IntKind.i64.wrap (intAt l1 (0 : Nat) - (1 : Int)) < (↑(↑n : Int).toNat : Int)) (.need (l0[(0 : Nat) + (IntKind.i64.wrap (intAt l1 (0 : Nat) - (1 : Int))).toNat * (1 : Nat)]? = some (Value.bool (boolAt l0 ((0 : Nat) + (IntKind.i64.wrap (intAt l1 (0 : Nat) - (1 : Int))).toNat * (1 : Nat))))) (.ite (boolAt l0 ((0 : Nat) + (IntKind.i64.wrap (intAt l1 (0 : Nat) - (1 : Int))).toNat * (1 : Nat))) (.need (NoNames c ∧ True) (.done 3 (Value.bool false) (H0 by_ ty o c n cap))) (.need ((0 : Int) ≤ IntKind.i64.wrap (intAt l1 (0 : Nat) - (1 : Int)) ∧ IntKind.i64.wrap (intAt l1 (0 : Nat) - (1 : Int)) < (↑n : Int)) (.need (c[o + (IntKind.i64.wrap (intAt l1 (0 : Nat) - (1 : Int))).toNat * (1 : Nat)]? = some (Value.int IntKind.i64 (intAt c (o + (IntKind.i64.wrap (intAt l1 (0 : Nat) - (1 : Int))).toNat * (1 : Nat))))) (.ite (intAt c (o + (IntKind.i64.wrap (intAt l1 (0 : Nat) - (1 : Int))).toNat * (1 : Nat)) != intAt l1 (1 : Nat)) (.need (NoNames c ∧ True) (.done 3 (Value.bool false) (H0 by_ ty o c n cap))) (.ite ((↑(n0 - (1 : Nat)) : Int) != IntKind.i64.wrap (IntKind.i64.wrap ((↑n : Int) - (1 : Int)) - i2)) (.need (NoNames c ∧ True) (.done 3 (Value.bool false) (H0 by_ ty o c n cap))) (.need ((0 : Int) ≤ IntKind.i64.wrap (intAt l1 (0 : Nat) - (1 : Int)) ∧ IntKind.i64.wrap (intAt l1 (0 : Nat) - (1 : Int)) < (↑(↑n : Int).toNat : Int)) (.need ((0 : Nat) + (IntKind.i64.wrap (intAt l1 (0 : Nat) - (1 : Int))).toNat * (1 : Nat) + (1 : Nat) ≤ l0.length) (.ite (decide (i2 > (0 : Int))) (.ite (decide (intAt l1 (1 : Nat) < i1)) (.need (NoNames c ∧ True) (.done 3 (Value.bool false) (H0 by_ ty o c n cap))) (.ite (!decide (i1 < intAt l1 (1 : Nat))) (.ite (decide (intAt l1 (0 : Nat) < i0)) (.need (NoNames c ∧ True) (.done 3 (Value.bool false) (H0 by_ ty o c n cap))) (.stop [1, 5, 6, 7, 8, 9, 10] (S3 by_ ty o c n cap (intAt l1 0) (intAt l1 1) (IntKind.i64.wrap (i2 + 1)) (splice l0 (0 + (IntKind.i64.wrap (intAt l1 0 - 1)).toNat * 1) [Value.bool true]) ((HQ.QS.pop 21 n0 (HQ.QS.mk (l1) (m0) (n1))).E) (n0 - 1) ((HQ.QS.pop 21 n0 (HQ.QS.mk (l1) (m0) (n1))).c) ((HQ.QS.pop 21 n0 (HQ.QS.mk (l1) (m0) (n1))).ck) (i3) (fun _ => undef)))) (.stop [1, 5, 6, 7, 8, 9, 10] (S3 by_ ty o c n cap (intAt l1 0) (intAt l1 1) (IntKind.i64.wrap (i2 + 1)) (splice l0 (0 + (IntKind.i64.wrap (intAt l1 0 - 1)).toNat * 1) [Value.bool true]) ((HQ.QS.pop 21 n0 (HQ.QS.mk (l1) (m0) (n1))).E) (n0 - 1) ((HQ.QS.pop 21 n0 (HQ.QS.mk (l1) (m0) (n1))).c) ((HQ.QS.pop 21 n0 (HQ.QS.mk (l1) (m0) (n1))).ck) (i3) (fun _ => undef))))) (.stop [1, 5, 6, 7, 8, 9, 10] (S3 by_ ty o c n cap (intAt l1 0) (intAt l1 1) (IntKind.i64.wrap (i2 + 1)) (splice l0 (0 + (IntKind.i64.wrap (intAt l1 0 - 1)).toNat * 1) [Value.bool true]) ((HQ.QS.pop 21 n0 (HQ.QS.mk (l1) (m0) (n1))).E) (n0 - 1) ((HQ.QS.pop 21 n0 (HQ.QS.mk (l1) (m0) (n1))).c) ((HQ.QS.pop 21 n0 (HQ.QS.mk (l1) (m0) (n1))).ck) (i3) (fun _ => undef))))))))))))))))) (.call 8 [Value.pointer (some ⟨128, 0, none⟩)] ((hcut3_1 ty c l0 m0 n0 l1 n1 i3)) (.ite (n0 == (0 : Nat)) (.ret (Value.tuple ⟨[Value.int IntKind.i64 0, Value.int IntKind.i64 0, Value.int IntKind.i64 4]⟩) ((hcut3_1 ty c l0 m0 n0 l1 n1 i3))) (.ret (Value.tuple ⟨[Value.int IntKind.i64 (intAt l1 0), Value.int IntKind.i64 (intAt l1 1), Value.int IntKind.i64 0]⟩) ((hcut3_0 ty c l0 m0 n0 l1 n1 i3)))) (.ite (n0 == (0 : Nat)) (.call 5 [] ((hcut3_1 ty c l0 m0 n0 l1 n1 i3)) (.ret (Value.bool true) ((hcut3_1 ty c l0 m0 n0 l1 n1 i3))) (.need (NoNames c ∧ True) (.done 3 (Value.bool true) (H0 by_ ty o c n cap)))) (.need (NoNames c ∧ True) (.done 3 (Value.bool false) (H0 by_ ty o c n cap))))))) : RunD η prog B 3 (H0 by_ ty o c n cap) [1, 5, 6, 7, 8, 9, 10] (S3 by_ ty o c n cap i0 i1 i2 l0 m0 n0 l1 n1 i3 fun _ => undef) (QF prog 127 D) := by
  refine RunD.intro (S3 by_ ty o c n cap i0 i1 i2 l0 m0 n0 l1 n1 i3) (fun d => ⟨rfl, rfl, rfl⟩) (fun d => tmOk_get (by kernel_rfl)) (fun d => by kernel_rfl) (fun d => ?_)
  exact walk_okT (h0 := H0 by_ ty o c n cap) hη hmix hreg (.steps 8 <| .bit 34 (.steps 7 <| .call kN <| .both (.steps 56 <| .done (some ⟨127, [], [(126, (126, true))]⟩)) (.steps 18 <| .bit 49 (.steps 38 <| .done (some ⟨127, [], [(126, (126, true))]⟩)) (.steps 6 <| .bit 55 (.steps 32 <| .done (some ⟨127, [], [(126, (126, true))]⟩)) (.steps 3 <| .op <| .op <| .steps 2 <| .bit 62 (.steps 25 <| .done (some ⟨127, [], [(126, (126, true))]⟩)) (.steps 3 <| .op <| .op <| .steps 4 <| .bit 71 (.steps 16 <| .done (some ⟨127, [], [(126, (126, true))]⟩)) (.steps 69 <| .bit 80 (.steps 6 <| .done (some ⟨127, [], [(126, (126, true))]⟩)) (.steps 7 <| .op <| .op <| .steps 7 <| .bit 87 (.steps 18 <| .bit 92 (.steps 19 <| .done (some ⟨127, [], [(126, (126, true))]⟩)) (.steps 19 <| .bit 98 (.steps 7 <| .bit 104 (.steps 6 <| .done (some ⟨127, [], [(126, (126, true))]⟩)) (.steps 15 <| .stop [1, 5, 6, 7, 8, 9, 10] none)) (.steps 22 <| .stop [1, 5, 6, 7, 8, 9, 10] none))) (.steps 33 <| .stop [1, 5, 6, 7, 8, 9, 10] none)))))))) (.steps 5 <| .call kN <| .both (.steps 13 <| .call kN <| .steps 4 <| .done (some ⟨127, [], [(126, (126, true))]⟩)) (.steps 18 <| .done (some ⟨127, [], [(126, (126, true))]⟩)))) (S3 by_ ty o c n cap i0 i1 i2 l0 m0 n0 l1 n1 i3 d) (by kernel_rfl) h (by kernel_rfl)
end KSortL
namespace KSortL0
set_option linter.unusedVariables false
noncomputable def bd : Code := (Go.Proofs.Try.f3.body).getD .skip
noncomputable def bd6 : Code := (Go.Proofs.Try.f6.body).getD .skip
noncomputable def H0 (by_ : Int) : AH := { objs := nZ, next := 126 }
noncomputable def E (by_ : Int) : AS := ⟨⟨3, 118, nN (some (Value.int IntKind.u8 by_)) (nN (some (Value.slice none 0 0)) nZ nZ) nZ, [Item.code (codeAt bd [])], [], FrameMode.run, CallKind.normal, none⟩, [], ⟨nZ, 126⟩⟩
noncomputable def S0 (by_ : Int)  (d : Nat → Value) : AS := ⟨⟨6, 37, nN (some (d 0)) (nN (some (Value.slice none 0 0)) (nN (some (d 3)) (nN (some (d 7)) (nN (some (d 15)) (nN (some (d 31)) nZ nZ) nZ) (nN (some (d 23)) nZ nZ)) (nN (some (d 11)) (nN (some (d 19)) (nN (some (d 35)) nZ nZ) nZ) (nN (some (d 27)) nZ nZ))) (nN (some (Value.pointer (some ⟨126, 0, none⟩))) (nN (some (d 9)) (nN (some (d 17)) (nN (some (d 33)) nZ nZ) nZ) (nN (some (d 25)) nZ nZ)) (nN (some (d 13)) (nN (some (d 21)) nZ nZ) (nN (some (d 29)) nZ nZ)))) (nN (some (d 2)) (nN (some (d 4)) (nN (some (d 8)) (nN (some (d 16)) (nN (some (d 32)) nZ nZ) nZ) (nN (some (d 24)) nZ nZ)) (nN (some (d 12)) (nN (some (d 20)) (nN (some (d 36)) nZ nZ) nZ) (nN (some (d 28)) nZ nZ))) (nN (some (Value.int IntKind.i64 0)) (nN (some (d 10)) (nN (some (d 18)) (nN (some (d 34)) nZ nZ) nZ) (nN (some (d 26)) nZ nZ)) (nN (some (d 14)) (nN (some (d 22)) nZ nZ) (nN (some (d 30)) nZ nZ)))), [Item.code (codeAt bd6 [1, 1, 1, 0, 1, 0, 0]), Item.inLoop (codeAt bd6 [1, 1, 1, 0, 1, 0, 0]), Item.inBlock 0, Item.code (codeAt bd6 [1, 1, 1, 1])], [], FrameMode.run, CallKind.normal, none⟩, [⟨3, 118, nN (some (Value.int IntKind.u8 by_)) (nN (some (Value.slice none 0 0)) (nN none nZ (nN none (nN (some (Value.bool false)) nZ nZ) nZ)) (nN none (nN none (nN (some (Value.slice none 0 0)) nZ nZ) nZ) (nN none (nN (some (Value.int IntKind.u8 by_)) nZ nZ) nZ))) (nN none (nN (some (Value.bool false)) nZ nZ) (nN none (nN none (nN (some (Value.int IntKind.i64 0)) nZ nZ) nZ) (nN none (nN (some (Value.slice none 0 0)) nZ nZ) nZ))), [Item.inRegion (opsAt bd [1, 1, 0]) [2, 3], Item.code (codeAt bd [1, 1, 1])], [], FrameMode.run, CallKind.normal, none⟩], ⟨nN none (nN none (nN none (nN none (nN none (nN none (nN none (nN (some (AObj.cells 58 [Value.func (Fn.func 21) ⟨[]⟩ ⟨[]⟩, Value.int IntKind.i64 1, Value.slice none 0 0, Value.map (some 128)] true 2)) nZ nZ) nZ) nZ) nZ) nZ) nZ) nZ) (nN none (nN none (nN none (nN none (nN none (nN none (nN (some (AObj.map [] 0 true)) nZ nZ) nZ) nZ) nZ) nZ) nZ) (nN none nZ (nN none nZ (nN none nZ (nN none nZ (nN (some (AObj.cells 54 [Value.pointer (some ⟨126, 0, none⟩), Value.pointer (some ⟨127, 0, none⟩)] true 2)) nZ nZ)))))), 129⟩⟩
noncomputable def S1 (by_ : Int)  (d : Nat → Value) : AS := ⟨⟨3, 118, nN (some (d 0)) (nN (some (Value.slice none 0 0)) (nN (some (d 3)) (nN (some (Value.slice (some ⟨126, 0, none⟩) 0 0)) (nN (some (d 15)) (nN (some (d 31)) (nN (some (d 63)) nZ nZ) (nN (some (d 95)) nZ nZ)) (nN (some (d 47)) (nN (some (d 79)) nZ nZ) (nN (some (d 111)) nZ nZ))) (nN (some (d 23)) (nN (some (d 39)) (nN (some (d 71)) nZ nZ) (nN (some (d 103)) nZ nZ)) (nN (some (d 55)) (nN (some (d 87)) nZ nZ) nZ))) (nN (some (d 11)) (nN (some (d 19)) (nN (some (d 35)) (nN (some (d 67)) nZ nZ) (nN (some (d 99)) nZ nZ)) (nN (some (d 51)) (nN (some (d 83)) nZ nZ) (nN (some (d 115)) nZ nZ))) (nN (some (d 27)) (nN (some (d 43)) (nN (some (d 75)) nZ nZ) (nN (some (d 107)) nZ nZ)) (nN (some (d 59)) (nN (some (d 91)) nZ nZ) nZ)))) (nN (some (Value.pointer (some ⟨127, 0, none⟩))) (nN (some (Value.int IntKind.i64 0)) (nN (some (d 17)) (nN (some (d 33)) (nN (some (d 65)) nZ nZ) (nN (some (d 97)) nZ nZ)) (nN (some (d 49)) (nN (some (d 81)) nZ nZ) (nN (some (d 113)) nZ nZ))) (nN (some (d 25)) (nN (some (d 41)) (nN (some (d 73)) nZ nZ) (nN (some (d 105)) nZ nZ)) (nN (some (d 57)) (nN (some (d 89)) nZ nZ) nZ))) (nN (some (d 13)) (nN (some (d 21)) (nN (some (d 37)) (nN (some (d 69)) nZ nZ) (nN (some (d 101)) nZ nZ)) (nN (some (d 53)) (nN (some (d 85)) nZ nZ) (nN (some (d 117)) nZ nZ))) (nN (some (d 29)) (nN (some (d 45)) (nN (some (d 77)) nZ nZ) (nN (some (d 109)) nZ nZ)) (nN (some (d 61)) (nN (some (d 93)) nZ nZ) nZ))))) (nN (some (d 2)) (nN (some (d 4)) (nN (some (Value.int IntKind.i64 0)) (nN (some (d 16)) (nN (some (d 32)) (nN (some (d 64)) nZ nZ) (nN (some (d 96)) nZ nZ)) (nN (some (d 48)) (nN (some (d 80)) nZ nZ) (nN (some (d 112)) nZ nZ))) (nN (some (d 24)) (nN (some (d 40)) (nN (some (d 72)) nZ nZ) (nN (some (d 104)) nZ nZ)) (nN (some (d 56)) (nN (some (d 88)) nZ nZ) nZ))) (nN (some (d 12)) (nN (some (d 20)) (nN (some (d 36)) (nN (some (d 68)) nZ nZ) (nN (some (d 100)) nZ nZ)) (nN (some (d 52)) (nN (some (d 84)) nZ nZ) (nN (some (d 116)) nZ nZ))) (nN (some (d 28)) (nN (some (d 44)) (nN (some (d 76)) nZ nZ) (nN (some (d 108)) nZ nZ)) (nN (some (d 60)) (nN (some (d 92)) nZ nZ) nZ)))) (nN (some (Value.func (Fn.func 21) ⟨[]⟩ ⟨[]⟩)) (nN (some (Value.int IntKind.i64 0)) (nN (some (d 18)) (nN (some (d 34)) (nN (some (d 66)) nZ nZ) (nN (some (d 98)) nZ nZ)) (nN (some (d 50)) (nN (some (d 82)) nZ nZ) (nN (some (d 114)) nZ nZ))) (nN (some (d 26)) (nN (some (d 42)) (nN (some (d 74)) nZ nZ) (nN (some (d 106)) nZ nZ)) (nN (some (d 58)) (nN (some (d 90)) nZ nZ) nZ))) (nN (some (d 14)) (nN (some (d 22)) (nN (some (d 38)) (nN (some (d 70)) nZ nZ) (nN (some (d 102)) nZ nZ)) (nN (some (d 54)) (nN (some (d 86)) nZ nZ) nZ)) (nN (some (d 30)) (nN (some (d 46)) (nN (some (d 78)) nZ nZ) (nN (some (d 110)) nZ nZ)) (nN (some (d 62)) (nN (some (d 94)) nZ nZ) nZ))))), [Item.code (codeAt bd [1, 1, 1, 1, 1, 1, 1, 0, 1, 0, 0]), Item.inLoop (codeAt bd [1, 1, 1, 1, 1, 1, 1, 0, 1, 0, 0]), Item.inBlock 0, Item.code (codeAt bd [1, 1, 1, 1, 1, 1, 1, 1])], [], FrameMode.run, CallKind.normal, none⟩, [], ⟨nN none (nN none (nN none (nN none (nN none (nN none (nN none (nN (some (AObj.cells 54 [Value.pointer (some ⟨127, 0, none⟩), Value.pointer (some ⟨128, 0, none⟩)] true 2)) nZ nZ) nZ) nZ) nZ) nZ) nZ) (nN none (nN none (nN none (nN none (nN none (nN (some (AObj.map [] 0 true)) nZ nZ) nZ) nZ) nZ) nZ) nZ)) (nN none (nN none (nN none (nN none (nN none (nN none (nN (some (AObj.cells 58 [Value.func (Fn.func 21) ⟨[]⟩ ⟨[]⟩, Value.int IntKind.i64 1, Value.slice none 0 0, Value.map (some 129)] true 2)) nZ nZ) nZ) nZ) nZ) nZ) nZ) (nN none nZ (nN none nZ (nN none nZ (nN none nZ (nN (some (AObj.cells 4 [] true 2)) nZ nZ)))))), 130⟩⟩
theorem enter {η : Nat → Value} {B : Bd} (hη : OneCells η) (hmix : prog.follows .mixedOrders = true) (hreg : RegOk η prog B noNest) {D : Value → AH → Prop} (by_ : Int) (h : W.holds η prog B 3 (fun kp_ st_ => RunD η prog B 3 (H0 by_) kp_ st_ (QF prog 126 D)) D (.call 7 [Value.int IntKind.u8 by_] (⟨nZ, 126⟩) (.ret (Value.func (Fn.func 21) ⟨[]⟩ ⟨[]⟩) (⟨nZ, 126⟩)) (.call 19 [Value.func (Fn.func 21) ⟨[]⟩ ⟨[]⟩] (⟨nZ, 126⟩) (.ret (Value.pointer (some ⟨126, 0, none⟩)) (⟨nN none (nN none (nN none (nN none (nN none (nN none (nN none (nN (some (AObj.cells 58 [Value.func (Fn.func 21) ⟨[]⟩ ⟨[]⟩, Value.int IntKind.i64 1, Value.slice none 0 0, Value.map (some 128)] true 2)) nZ nZ) nZ) nZ) nZ) nZ) nZ) nZ) (nN none (nN none (nN none (nN none (nN none (nN none (nN (some (AObj.map [] 0 true)) nZ nZ) nZ) nZ) nZ) nZ) nZ) (nN none nZ (nN none nZ (nN none nZ (nN none nZ (nN (some (AObj.cells 54 [Value.pointer (some ⟨126, 0, none⟩), Value.pointer (some ⟨127, 0, none⟩)] true 2)) nZ nZ)))))), 129⟩)) (.stop [1, 5, 6] (S0 by_  (fun _ => undef)))))) : CallSpec η prog B 3 [Value.int IntKind.u8 by_, Value.slice none 0 0] (H0 by_) D := by
  refine CallSpec.ofQF hη (CallSpec.enter (fr := (E by_).fr) (by kernel_rfl) ?_)
  exact walk_okT (h0 := H0 by_) hη hmix hreg (.steps 25 <| .call kN <| .call kN <| .steps 22 <| .stop [1, 5, 6] none) (E by_) (by kernel_rfl) h (by kernel_rfl)
noncomputable abbrev hcut0_0 : AH := ⟨nN none (nN none (nN none (nN none (nN none (nN none (nN none (nN (some (AObj.cells 58 [Value.func (Fn.func 21) ⟨[]⟩ ⟨[]⟩, Value.int IntKind.i64 1, Value.slice none 0 0, Value.map (some 128)] true 2)) nZ nZ) nZ) nZ) nZ) nZ) nZ) nZ) (nN none (nN none (nN none (nN none (nN none (nN none (nN (some (AObj.map [] 0 true)) nZ nZ) nZ) nZ) nZ) nZ) nZ) (nN none nZ (nN none nZ (nN none nZ (nN none nZ (nN (some (AObj.cells 54 [Value.pointer (some ⟨126, 0, none⟩), Value.pointer (some ⟨127, 0, none⟩)] true 2)) nZ nZ)))))), 129⟩
theorem cut0 {η : Nat → Value} {B : Bd} (hη : OneCells η) (hmix : prog.follows .mixedOrders = true) (hreg : RegOk η prog B noNest) {D : Value → AH → Prop} (by_ : Int)  (h : W.holds η prog B 3 (fun kp_ st_ => RunD η prog B 3 (H0 by_) kp_ st_ (QF prog 126 D)) D (.call 7 [Value.int IntKind.u8 by_] (hcut0_0) (.ret (Value.func (Fn.func 21) ⟨[]⟩ ⟨[]⟩) (hcut0_0)) (.need (True ∧ True ∧ True ∧ True ∧ True) (.stop [1, 5, 6, 7, 8, 9, 10] (S1 by_  (fun _ => undef)))))) : RunD η prog B 3 (H0 by_) [1, 5, 6] (S0 by_  fun _ => undef) (QF prog 126 D) := by
  refine RunD.intro (S0 by_ ) (fun d => ⟨rfl, rfl, rfl⟩) (fun d => tmOk_get (by kernel_rfl)) (fun d => by kernel_rfl) (fun d => ?_)
  exact walk_okT (h0 := H0 by_) hη hmix hreg (.steps 30 <| .call kN <| .steps 21 <| .stop [1, 5, 6, 7, 8, 9, 10] (some ⟨130, [(129, 126), (126, 127), (127, 128), (128, 129)], [(126, (129, false)), (127, (126, false)), (128, (127, false)), (129, (128, false))]⟩)) (S0 by_  d) (by kernel_rfl) h (by kernel_rfl)
noncomputable abbrev hcut1_0 : AH := ⟨nN none (nN none (nN none (nN none (nN none (nN none (nN none (nN (some (AObj.cells 54 [Value.pointer (some ⟨127, 0, none⟩), Value.pointer (some ⟨128, 0, none⟩)] true 2)) nZ nZ) nZ) nZ) nZ) nZ) nZ) (nN none (nN none (nN none (nN none (nN none (nN (some (AObj.map [] 0 true)) nZ nZ) nZ) nZ) nZ) nZ) nZ)) (nN none (nN none (nN none (nN none (nN none (nN none (nN (some (AObj.cells 58 [Value.func (Fn.func 21) ⟨[]⟩ ⟨[]⟩, Value.int IntKind.i64 1, Value.slice none 0 0, Value.map (some 129)] true 2)) nZ nZ) nZ) nZ) nZ) nZ) nZ) (nN none nZ (nN none nZ (nN none nZ (nN none nZ (nN (some (AObj.cells 4 [] true 2)) nZ nZ)))))), 130⟩
theorem cut1 {η : Nat → Value} {B : Bd} (hη : OneCells η) (hmix : prog.follows .mixedOrders = true) (hreg : RegOk η prog B noNest) {D : Value → AH → Prop} (by_ : Int)  (h : W.holds η prog B 3 (fun kp_ st_ => RunD η prog B 3 (H0 by_) kp_ st_ (QF prog 126 D)) D (.call 8 [Value.pointer (some ⟨127, 0, none⟩)] (hcut1_0) (.ret (Value.tuple ⟨[Value.int IntKind.i64 0, Value.int IntKind.i64 0, Value.int IntKind.i64 4]⟩) (hcut1_0)) (.call 5 [] (hcut1_0) (.ret (Value.bool true) (hcut1_0)) (.need (True) (.done 3 (Value.bool true) (H0 by_)))))) : RunD η prog B 3 (H0 by_) [1, 5, 6, 7, 8, 9, 10] (S1 by_  fun _ => undef) (QF prog 126 D) := by
  refine RunD.intro (S1 by_ ) (fun d => ⟨rfl, rfl, rfl⟩) (fun d => tmOk_get (by kernel_rfl)) (fun d => by kernel_rfl) (fun d => ?_)
  exact walk_okT (h0 := H0 by_) hη hmix hreg (.steps 13 <| .call kN <| .steps 13 <| .call kN <| .steps 4 <| .done (some ⟨126, [], []⟩)) (S1 by_  d) (by kernel_rfl) h (by kernel_rfl)
end KSortL0
end Go.Ev

/- The law of sorts, of one order: less. -/
namespace Go.Ev
set_option linter.unusedVariables false
set_option linter.unusedSimpArgs false
open Go Go.Proofs Go.RowKit
variable {η : Nat → Value} {B : Bd}
namespace HQ
set_option maxRecDepth 20000 in
theorem sortL_can (hη : OneCells η) (hmix : Try.prog.follows .mixedOrders = true) {b : Int} (hb : b.tmod 2 ≠ 1) {ty o n cap : Nat} {c : List Value} {src : Nat → Int} (hc : ∀ j, j < n → c[o + j]? = some (.int .i64 (src j))) (nn : NoNames c) :
    CallSpec η Try.prog B 3 [.int .u8 b, .slice (some ⟨126, o, none⟩) n cap] (heapT [(ty, c)]) fun v _ => v = .bool true := by
  have hord : isOrd 21 := .inr rfl
  have hsrc : ∀ j, j < n → intAt c (o + j) = src j := fun j hj => by unfold intAt; rw [hc j hj]
  have order := fun (H : AH) => order_L (B := B) hη hmix hb H
  have awake := fun (H : AH) => awake_ok (B := B) hη hmix H
  have tm : ∀ a : Int, (max a 0).tmod 10 = max a 0 % 10 := fun a => Int.tmod_eq_emod_of_nonneg (Int.le_max_right a 0)
  have eta : ∀ S : QS, QS.mk S.c S.E S.ck = S := fun S => rfl
  have wr1 : ∀ i : Nat, i ≤ 1000000 → IntKind.i64.wrap ((i : Int) + 1) = ((i + 1 : Nat) : Int) := fun i hi => by rw [wrap_small (by omega) (by omega)]; omega
  refine KSortL.enter hη hmix (reg0 hη hmix) _ _ _ _ _ _ ?_
  have cut0 := KSortL.cut0 (η := η) (B := B) (D := fun v _ => v = .bool true) hη hmix (reg0 hη hmix) b ty o c n cap
  have cut1 := fun i0 l0 i1 n0 m0 n1 => KSortL.cut1 (η := η) (B := B) (D := fun v _ => v = .bool true) hη hmix (reg0 hη hmix) b ty o c n cap i0 l0 i1 n0 m0 n1
  have cut2 := KSortL.cut2 (η := η) (B := B) (D := fun v _ => v = .bool true) hη hmix (reg0 hη hmix) b ty o c n cap
  have cut3 := fun i0 i1 i2 l0 m0 n0 l1 n1 i3 => KSortL.cut3 (η := η) (B := B) (D := fun v _ => v = .bool true) hη hmix (reg0 hη hmix) b ty o c n cap i0 i1 i2 l0 m0 n0 l1 n1 i3
  simp only [W.holds, true_and, and_true, true_implies, decide_eq_true_eq, decide_eq_false_iff_not, Nat.mul_one, Nat.zero_add, Nat.add_zero, Int.toNat_natCast, Int.le_refl, Nat.le_refl, max0, bne_iff_ne, ne_eq] at cut0 cut1 cut2 cut3 ⊢
  by_cases h300 : (n : Int) > 300
  · exact ⟨fun _ => awake _, fun q => absurd h300 q⟩
  have hn : n ≤ 300 := by omega
  have pops : ∀ (d a : Nat) (g : G) (k : Nat) (s : QS) (sb : Nat → Bool) (at_ last x : Int), n - a = d → PopInv 21 src n a g sb at_ last → s.c = its g k → n - a ≤ k → intE s.E →
      RunD η Try.prog B 3 (KSortL.H0 b ty o c n cap) [1, 5, 6, 7, 8, 9, 10] (KSortL.S3 b ty o c n cap at_ last (a : Int) (bls sb n) s.E (n - a) s.c s.ck x fun _ => undef) (QF Try.prog 127 fun v _ => v = .bool true) := by
    intro d
    induction d with
    | zero =>
      intro a g k s sb at_ last x hd hI hs hk hE
      have c3 := cut3 at_ last (a : Int) (bls sb n) s.E (n - a) s.c s.ck x
      have ha : a = n := by have := hI.le; omega
      have h0 : n - a = 0 := by omega
      refine c3 ⟨fun q => by omega, fun _ => ⟨?_, fun _ => ⟨awake _, nn, fun _ => trivial⟩, fun q => absurd (show n - a = 0 from h0) (by simpa using q)⟩⟩
      refine CallSpec.iteT (by rw [h0]; rfl) ?_
      rw [h0]
      exact pop_none hη hmix (q := 128) (v := 129) (r := 130) (m := 131) (f := 21) (x := x) (s := s) ⟨by kernel_rfl, by kernel_rfl, by kernel_rfl, by kernel_rfl, by decide⟩ hs
    | succ d ih =>
      intro a g k s sb at_ last x hd hI hs hk hE
      have c3 := cut3 at_ last (a : Int) (bls sb n) s.E (n - a) s.c s.ck x
      have ha : a < n := by omega
      have hm : 0 < n - a := by omega
      have i0 : intAt s.c 0 = (g 0).1 := by rw [hs]; exact (its_int (k := 0) (by omega)).1
      have i1 : intAt s.c 1 = (g 0).2 := by rw [hs]; exact (its_int (k := 0) (by omega)).2
      obtain ⟨j, hj, hg⟩ := hI.src 0 hm
      have g1 : (g 0).1 = ((j + 1 : Nat) : Int) := by rw [hg]
      have g2 : (g 0).2 = src j := by rw [hg]
      have wj : IntKind.i64.wrap (((j + 1 : Nat) : Int) - 1) = (j : Int) := wr_n (by omega)
      have hfr := hI.fresh 0 hm
      rw [g1, show (((j + 1 : Nat) : Int) - 1).toNat = j by omega] at hfr
      rw [i0, i1, g1, g2, wj, Int.toNat_natCast, bls_bool hj, bls_get hj, hsrc j hj, hc j hj, hfr, bls_set hj, bls_len, eta] at c3
      refine c3 ⟨fun _ => ⟨?_, fun q => absurd (show n - a = 0 by simpa using q) (by omega), fun _ => ⟨fun q => by omega, fun _ => ⟨fun q => by omega, fun _ => ?_⟩⟩⟩, fun q => by omega⟩
      · exact CallSpec.iteF (by simp; omega) ((pop_at hη hmix (q := 128) (v := 129) (r := 130) (m := 131) (x := x) (s := s) g1 g2 ⟨by kernel_rfl, by kernel_rfl, by kernel_rfl, by kernel_rfl, by decide⟩ hord hs hE hm hk (by omega)).conv (by kernel_rfl))
      · have st := hI.step ha
        rw [g1, g2, show (((j + 1 : Nat) : Int) - 1).toNat = j by omega] at st
        obtain ⟨p1, p2⟩ := pop_G (f := 21) hs hE hm hk
        have next := ih (a + 1) _ k (s.pop 21 (n - a)) _ _ _ x (by omega) st p1 (by omega) p2
        rw [show n - (a + 1) = n - a - 1 by omega, ← wr1 a (by omega)] at next
        have bj : (0 : Int) ≤ (j : Int) ∧ (j : Int) < (n : Int) := ⟨by omega, by omega⟩
        have wl : ((n - a - 1 : Nat) : Int) = IntKind.i64.wrap (IntKind.i64.wrap ((n : Int) - 1) - (a : Int)) := by
          have h1 : IntKind.i64.wrap ((n : Int) - 1) = (n : Int) - 1 := wrap_small (by omega) (by omega)
          rw [h1, wrap_small (by omega) (by omega)]; omega
        have kk : 0 < a → keyO 21 last ≤ keyO 21 (src j) ∧ (keyO 21 last = keyO 21 (src j) → at_ < ((j + 1 : Nat) : Int)) := fun h0 => by
          obtain ⟨q1, q2⟩ := hI.last h0 0 hm
          unfold lt at q1
          rw [g1, g2] at q1
          rw [g1] at q2
          simp only at q1
          exact ⟨by omega, fun e => by omega⟩
        refine ⟨bj, fun _ => ⟨rfl, fun _ => ⟨fun q => by simp at q, fun _ => ⟨bj, fun _ => ⟨rfl, fun _ => ⟨fun q => absurd rfl q, fun _ => ⟨fun q => absurd wl q, fun _ => ⟨bj, fun _ => ⟨hj, fun _ => ⟨fun h0 => ⟨fun q => ?_, fun q => ⟨fun q2 => ⟨fun q3 => ?_, fun _ => next⟩, fun _ => next⟩⟩, fun _ => next⟩⟩⟩⟩⟩⟩⟩⟩⟩⟩
        all_goals exfalso
        all_goals obtain ⟨k1, k2⟩ := kk (by omega)
        · unfold keyO at k1
          rw [if_neg (by decide), if_neg (by decide)] at k1; omega
        · unfold keyO at k1 k2
          rw [if_neg (by decide), if_neg (by decide)] at k1 k2; simp at q2; omega
  have pushes : ∀ (d i : Nat) (g : G) (s : QS), n - i = d → 1 ≤ i → i ≤ n → PushInv 21 src i g → s.c = its g i → intE s.E →
      RunD η Try.prog B 3 (KSortL.H0 b ty o c n cap) [1, 5, 6] (KSortL.S1 b ty o c n cap (i : Int) s.c ((i + 1 : Nat) : Int) i s.E s.ck fun _ => undef) (QF Try.prog 127 fun v _ => v = .bool true) := by
    intro d
    induction d with
    | zero =>
      intro i g s hd h1 hin hI hs hE
      have hi : i = n := by omega
      subst hi
      have c1 := cut1 (i : Int) s.c ((i + 1 : Nat) : Int) i s.E s.ck
      have p := pops (i - 0) 0 g i s (fun _ => false) 0 0 ((i + 1 : Nat) : Int) rfl hI.pop hs (Nat.le_refl _) hE
      rw [← rep_bls, Nat.sub_zero] at p
      refine c1 ⟨fun q => by omega, fun _ => ⟨order _, ⟨by omega, by omega⟩, fun _ => ⟨⟨nn, by rw [rep_bls]; exact bls_nn _ _, by rw [hs]; exact its_nn _ _, nn_int hE⟩, fun _ => ?_⟩⟩⟩
      exact p
    | succ d ih =>
      intro i g s hd h1 hin hI hs hE
      have hi : i < n := by omega
      have c1 := cut1 (i : Int) s.c ((i + 1 : Nat) : Int) i s.E s.ck
      obtain ⟨p1, p2⟩ := push_form (f := 21) (x := ((i + 1 : Nat) : Int)) hs hE (src i)
      have next := ih (i + 1) _ (s.push 21 i ((i + 1 : Nat) : Int) (src i)) (by omega) (by omega) hi hI.step p1 p2
      rw [Int.toNat_natCast, hsrc i hi, hc i hi, eta, wr1 i (by omega), wr1 (i + 1) (by omega)] at c1
      refine c1 ⟨fun _ => ⟨⟨by omega, by omega⟩, fun _ => ⟨rfl, fun _ => ⟨?_, ⟨nn, by rw [p1]; exact its_nn _ _, nn_int p2⟩, fun _ => next⟩⟩⟩, fun q => by omega⟩
      exact (push_at hη hmix (wr1 (i + 1) (by omega)) (q := 127) (v := 128) (r := 129) (m := 130) (f := 21) (x := ((i + 1 : Nat) : Int)) (n := i) (s := s) ⟨by kernel_rfl, by kernel_rfl, by kernel_rfl, by kernel_rfl, by decide⟩ hord hs hE (by omega) (by omega) (src i)).conv (by kernel_rfl)
  refine ⟨fun q => absurd q h300, fun _ => ⟨order _, (new_any hη hmix hord _).conv (by kernel_rfl), fun q => absurd q h300, fun _ => cut0 ⟨fun h0 => ⟨h0, fun _ => ⟨?_, fun _ => ⟨?_, nn, fun _ => ?_⟩⟩⟩, fun h0 => ⟨order _, ⟨by omega, by omega⟩, fun _ => ⟨⟨nn, by rw [rep_bls]; exact bls_nn _ _⟩, fun _ => cut2 ⟨fun q => absurd q h0, fun _ => ⟨?_, awake _, nn, fun _ => trivial⟩⟩⟩⟩⟩⟩⟩
  · have := hc 0 (by omega)
    rw [Nat.add_zero] at this
    rw [this, show intAt c o = src 0 from hsrc 0 (by omega)]
  · exact (push_any0 hη hmix (q := 127) (v := 128) (m := 129) (f := 21) (x := 1) ⟨by kernel_rfl, by kernel_rfl, by kernel_rfl, by decide⟩ hord (by decide) _).conv (by kernel_rfl)
  · rw [show intAt c o = src 0 from hsrc 0 (by omega)]
    exact pushes (n - 1) 1 (fun _ => (1, src 0)) ⟨[.int .i64 1, .int .i64 (src 0)], [{ key := .int .i64 1, val := .int .i64 0, born := 0 }], 1⟩ rfl (Nat.le_refl _) (by omega) ⟨fun k h1 h2 => by omega, fun a b ha hb _ => by omega, fun k hk => ⟨0, Nat.zero_lt_one, rfl⟩⟩ rfl (fun e he => by
      have he : e ∈ [({ key := .int .i64 1, val := .int .i64 0, born := 0 } : MapEntry)] := he
      rw [List.mem_singleton] at he; subst he; exact ⟨1, 0, rfl, rfl⟩)
  · exact pop_none0 hη hmix (q := 128) (v := 129) (m := 130) (f := 21) (x := 1) ⟨by kernel_rfl, by kernel_rfl, by kernel_rfl, by decide⟩
end HQ
end Go.Ev

namespace Go.Ev
set_option linter.unusedVariables false
set_option linter.unusedSimpArgs false
open Go Go.RowKit Go.ChangeShapes Go.WideShapes
variable {P : Program}
/-- A slice of n cells of size s each, at its place; c: what the row holds. -/
def SliceArg (W : World) (v : Value) (n : Nat) (c : List Value) : Prop :=
  (v = .slice none 0 0 ∧ n = 0) ∨ ∃ blk o o' cap ty, v = .slice (some ⟨blk, o, none⟩) n cap ∧ isU cap = false ∧ (o' ≤ o ∧ o ≤ o' + c.length) ∧ (n ≠ 0 → o' = o) ∧ RowAt W ⟨ty, c, blk, o'⟩
theorem rowAt_le {fits : TypeId → Bool} : ∀ (d : Nat) {e : TypeId} {count off n : Nat}, rowAt P fits d e count off n = true → off ≤ count * P.cellsOf e
  | 0, e, count, off, n, h => by simp [rowAt] at h
  | d + 1, e, count, off, n, h => by
    unfold rowAt at h
    simp only at h
    split at h
    · cases h
    · rename_i hs
      have hs : 0 < P.cellsOf e := Nat.pos_of_ne_zero hs
      have hd := Nat.div_add_mod off (P.cellsOf e)
      simp only [Bool.or_eq_true, Bool.and_eq_true, beq_iff_eq, decide_eq_true_eq] at h
      rcases h with ⟨⟨hr, hn⟩, _⟩ | ⟨hi, _⟩
      · rw [hr, Nat.add_zero, Nat.mul_comm] at hd
        rw [← hd]; exact Nat.mul_le_mul_right _ (by omega)
      · exact Nat.le_of_lt ((Nat.div_lt_iff_lt_mul hs).1 hi)
theorem liesAt_le : ∀ (d : Nat) {u : TypeId} {e : TypeId} {count off n : Nat}, liesAt P d e count off u n = true → off ≤ count * P.cellsOf e
  | 0, u, e, count, off, n, h => by simp [liesAt] at h
  | d + 1, u, e, count, off, n, h => by
    unfold liesAt at h
    rw [Bool.or_eq_true] at h
    rcases h with h | h
    · exact rowAt_le _ h
    · cases hu : P.underlying u with
      | none => rw [hu] at h; cases h
      | some t =>
        rw [hu] at h
        cases t with
        | array m u' => exact liesAt_le d h
        | _ => simp at h
theorem has_lt' {w : World} {r : Reach} {base : Nat} {a : Addr} {e : TypeId} {n : Nat} (h : w.has P r base a e n) : a.spot = none ∧ ∃ (C : Array Value) (ty : TypeId) (lo hi : Nat), w.heap[a.block]? = some (.cells C ty (lo, hi)) ∧ a.off ≤ C.size := by
  obtain ⟨_, hs, row, cells, hsh, hl⟩ := h
  refine ⟨hs, ?_⟩
  have hle := Nat.le_trans (liesAt_le _ hl) (Nat.div_mul_le_self _ _)
  unfold World.shape? at hsh
  split at hsh
  · rename_i C ty fr hh
    obtain ⟨lo, hi⟩ := fr
    injection hsh with hsh
    injection hsh with h1 h2
    exact ⟨C, ty, lo, hi, hh, by omega⟩
  · cases hsh
theorem has_of_slice' {w : World} {r : Reach} {b0 : Nat} {t e : TypeId} {a : Addr} {n c : Nat} (hu : P.underlying t = some (.slice e)) (h : Value.okWide P w r b0 t (.slice (some a) n c)) : w.has P r b0 a e c := by
  simp only [Value.okWide, hu, Cell.okWide, Cell.ok] at h
  exact h.2.2
theorem cells_slice' (p : Option Addr) (n c : Nat) : (Value.slice p n c).cells.toList = [.slice p n c] := rfl
theorem notU {c : Nat} (h : c ≤ maxLen) : isU c = false := by
  have : maxLen < 9223372036854775808 := by decide
  unfold isU capB
  exact decide_eq_false (by omega)
/-- A row that begins at an element. -/
theorem row_at {W : World} {b o : Nat} {C : Array Value} {ty : TypeId} {lo hi : Nat} {c : List Value} (hb : W.heap[b]? = some (.cells C ty (lo, hi))) (hc : ∀ (i : Nat) (v : Value), c[i]? = some v → W.cell? ⟨b, o + i, none⟩ = some v) (hbare : c.all bareV = true) (hne : c ≠ []) : RowAt W ⟨ty, c, b, o⟩ := by
  have hall : ∀ (i : Nat) (v : Value), c[i]? = some v → C[o + i]? = some v := by
    intro i v hv
    have h := hc i v hv
    unfold World.cell? at h
    simp only [hb, Option.isSome_none, Bool.false_eq_true, if_false] at h
    exact h
  refine ⟨C, lo, hi, hb, ?_, fun i v hv => by simpa using hall i v hv, hbare⟩
  have hl : 0 < c.length := List.length_pos_iff.2 hne
  have := hall (c.length - 1) (c[c.length - 1]'(by omega)) (List.getElem?_eq_getElem (by omega))
  have := (Array.getElem?_eq_some_iff.1 this).1
  show o + c.length ≤ C.size
  omega
end Go.Ev

namespace Go.Ev
set_option linter.unusedVariables false
set_option linter.unusedSimpArgs false
open Go Go.RowKit Go.ChangeShapes Go.WideShapes
variable {P : Program}
def intsV (k : IntKind) (l : List Int) : List Value := l.map fun n => .int k n
theorem intsV_bare (k : IntKind) (l : List Int) : (intsV k l).all bareV = true := by
  rw [List.all_eq_true]; intro v hv
  unfold intsV at hv
  rw [List.mem_map] at hv
  obtain ⟨x, _, rfl⟩ := hv; rfl
theorem intsV_get {k : IntKind} {l : List Int} {j : Nat} (h : j < l.length) : (intsV k l)[j]? = some (.int k l[j]) := by
  unfold intsV; rw [List.getElem?_map, List.getElem?_eq_getElem h]; rfl
theorem open_ints_arg {t e : TypeId} {k : IntKind} (hu : P.underlying t = some (.slice e)) (he : P.underlying e = some (.int k)) (hC : P.cellsOf e = 1)
    {H : Type} {enc : TypeId × Value → H} {W : World} {r : Reach} {b0 base : Nat} {sp : Nat → Bool} {held : Bool} {v : Value} {d : DataW H} {ps : List MemPlace}
    (hval : Value.okWide P W r b0 t v) (h : DataW.Trod enc P W base sp held t v d ps) : ∃ b : List Int, SliceArg W v b.length (intsV k b) := by
  obtain ⟨p, n, c, rfl⟩ := okWide_slice hu hval
  obtain ⟨fuel, hf⟩ := h
  rw [cells_slice'] at hf
  rcases Go.Deep.open_slice1 hu hC hf with ⟨hn, _⟩ | ⟨a, len, cap, m, q, V, D, Pl, hcs, hb, hl, hm, hmm, hx, hi⟩
  · simp at hn
    obtain ⟨rfl, rfl, rfl⟩ := hn
    exact ⟨[], .inl ⟨rfl, rfl⟩⟩
  · simp at hcs
    obtain ⟨rfl, rfl, rfl⟩ := hcs
    obtain ⟨hsp, C, ty, lo, hi', hblk, hoff⟩ := has_lt' (has_of_slice' hu hval)
    obtain ⟨b, o, spot⟩ := a
    simp only at hsp hblk hoff
    subst hsp
    have hlm : n ≤ m := by rw [hmm]; split <;> omega
    have hel : ∀ i, i < n → ∃ x : Int, W.cell? ⟨b, o + i, none⟩ = some (.int k x) := by
      intro i hin
      obtain ⟨h1, h2⟩ := hi i (by omega)
      obtain ⟨z, hz, _, hw⟩ := DataW.trod_int he h2
      injection hz with hz _
      refine ⟨z, ?_⟩
      rw [hz] at h1
      simpa [Go.WideShapes.add_plain] using h1
    obtain ⟨F, hF⟩ := Go.Deep.choose_lt hel
    refine ⟨(List.range n).map F, ?_⟩
    have hlen : ((List.range n).map F).length = n := by simp
    rw [hlen]
    cases n with
    | zero => exact .inr ⟨b, o, o, c, ty, rfl, notU hm, ⟨Nat.le_refl _, Nat.le_add_right _ _⟩, fun h => absurd rfl h, C, lo, hi', hblk, hoff, (fun i v hv => by simp [intsV] at hv), rfl⟩
    | succ n =>
      refine .inr ⟨b, o, o, c, ty, rfl, notU hm, ⟨Nat.le_refl _, Nat.le_add_right _ _⟩, fun _ => rfl, row_at hblk (fun i v hv => ?_) (intsV_bare _ _) (by simp [intsV])⟩
      unfold intsV at hv
      rw [List.map_map, List.getElem?_map, Option.map_eq_some_iff] at hv
      obtain ⟨j, hj, rfl⟩ := hv
      rw [List.getElem?_eq_some_iff] at hj
      obtain ⟨hj1, rfl⟩ := hj
      rw [List.length_range] at hj1
      rw [List.getElem_range]
      exact hF i hj1
end Go.Ev

/- The law of sorts, over the world. -/
namespace Go.Ev
set_option linter.unusedVariables false
set_option linter.unusedSimpArgs false
open Go Go.Proofs Go.RowKit
variable {η : Nat → Value} {B : Bd}
namespace HQ
theorem sort_can (hη : OneCells η) (hmix : Try.prog.follows .mixedOrders = true) (b : Int) {ty o n cap : Nat} {c : List Value} {src : Nat → Int} (hc : ∀ j, j < n → c[o + j]? = some (.int .i64 (src j))) (nn : NoNames c) :
    CallSpec η Try.prog B 3 [.int .u8 b, .slice (some ⟨126, o, none⟩) n cap] (heapT [(ty, c)]) fun v _ => v = .bool true := by
  by_cases hb : b.tmod 2 = 1
  · exact sortT_can hη hmix hb hc nn
  · exact sortL_can hη hmix hb hc nn
theorem sort_nil (hη : OneCells η) (hmix : Try.prog.follows .mixedOrders = true) (b : Int) : CallSpec η Try.prog B 3 [.int .u8 b, .slice none 0 0] (heapO []) fun v _ => v = .bool true := by
  by_cases hb : b.tmod 2 = 1
  · refine KSortT0.enter hη hmix (reg0 hη hmix) b ?_
    have cut0 := KSortT0.cut0 (η := η) (B := B) (D := fun v _ => v = .bool true) hη hmix (reg0 hη hmix) b
    have cut1 := KSortT0.cut1 (η := η) (B := B) (D := fun v _ => v = .bool true) hη hmix (reg0 hη hmix) b
    simp only [W.holds, true_and, and_true, true_implies] at cut0 cut1 ⊢
    exact ⟨order_T hη hmix hb _, (new_any hη hmix (.inl rfl) _).conv (by kernel_rfl), cut0 ⟨order_T hη hmix hb _, cut1 ⟨pop_none0 hη hmix (q := 127) (v := 128) (m := 129) (f := 20) (x := 1) ⟨by kernel_rfl, by kernel_rfl, by kernel_rfl, by decide⟩, awake_ok hη hmix _⟩⟩⟩
  · refine KSortL0.enter hη hmix (reg0 hη hmix) b ?_
    have cut0 := KSortL0.cut0 (η := η) (B := B) (D := fun v _ => v = .bool true) hη hmix (reg0 hη hmix) b
    have cut1 := KSortL0.cut1 (η := η) (B := B) (D := fun v _ => v = .bool true) hη hmix (reg0 hη hmix) b
    simp only [W.holds, true_and, and_true, true_implies] at cut0 cut1 ⊢
    exact ⟨order_L hη hmix hb _, (new_any hη hmix (.inr rfl) _).conv (by kernel_rfl), cut0 ⟨order_L hη hmix hb _, cut1 ⟨pop_none0 hη hmix (q := 127) (v := 128) (m := 129) (f := 21) (x := 1) ⟨by kernel_rfl, by kernel_rfl, by kernel_rfl, by decide⟩, awake_ok hη hmix _⟩⟩⟩
theorem nn_ints (L : List Int) : NoNames (intsV .i64 L) := by
  intro v hv
  unfold intsV at hv
  obtain ⟨x, _, rfl⟩ := List.mem_map.1 hv
  rfl
theorem sorts_row (hmix : Try.prog.follows .mixedOrders = true) {w0 : World} (b : Int) (L : List Int) (a : Value) (ha : SliceArg w0 a L.length (intsV .i64 L)) :
    Calls Try.prog 3 #[.int .u8 b, a] w0 fun e w' => e = .returned (.bool true) ∧ Go.RowKit.Below w0.heap.size w0 w' := by
  have hη : OneCells (fun _ => Value.nilIface) := fun _ => rfl
  rcases ha with ⟨rfl, _⟩ | ⟨blk, o, o', cap, ty, rfl, hcap, hle, ho, hr⟩
  · exact CallSpec.trueP (η := fun _ => .nilIface) (l := []) (args := [.int .u8 b, .slice none 0 0]) gs9 (fun x hx => by cases hx) (.cons (.int _ _) (.cons (.slice0 _ _ rfl) .nil)) (sort_nil hη hmix b)
  · refine CallSpec.trueR (η := fun _ => .nilIface) (l := [⟨ty, intsV .i64 L, blk, o'⟩]) (args := [.int .u8 b, .slice (some ⟨126, o - o', none⟩) L.length cap]) gs9 (fun x hx => by rw [List.mem_singleton] at hx; subst hx; exact hr) (.cons (.int _ _) (.cons ?_ .nil)) ?_
    · have := VR.slice (η := fun _ => .nilIface) (ρ := envR Try.prog w0 [⟨ty, intsV .i64 L, blk, o'⟩]) (r := 126) (o := o - o') (b := blk) (d := o') (n := sizeB w0 blk - o') L.length cap rfl hcap
      rw [show o' + (o - o') = o by omega] at this
      exact this
    · cases hb : L with
      | nil => exact sort_can hη hmix b (ty := ty) (o := o - o') (n := 0) (c := intsV .i64 []) (src := fun _ => 0) (fun j hj => absurd hj (Nat.not_lt_zero j)) (nn_ints [])
      | cons x y =>
        rw [← hb, ho (by rw [hb]; simp), Nat.sub_self]
        exact sort_can hη hmix b (ty := ty) (o := 0) (n := L.length) (c := intsV .i64 L) (src := fun j => (L[j]?).getD 0) (fun j hj => by rw [Nat.zero_add, intsV_get hj, List.getElem?_eq_getElem hj]; rfl) (nn_ints L)
end HQ
end Go.Ev

