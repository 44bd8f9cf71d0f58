/- HChecks, part 7: what the proof needs, in the order of its texts. -/
import Derived.Test.YtibnongfdafoeaaGreatDoorHChecks6
import Derived.Test.YtibnongfdafoeaaGreatDoorProg
import Derived.KernelRfl
namespace Go.Ev
set_option linter.unusedVariables false
set_option linter.unusedSimpArgs false
open Go Go.Proofs
set_option maxRecDepth 100000
set_option maxHeartbeats 2000000
namespace BKind
set_option linter.unusedVariables false
noncomputable def bd : Code := (Go.Proofs.Tryz.f131.body).getD .skip
noncomputable def H0 (c : UInt8) : AH := { objs := T.nil, next := 126 }
noncomputable def E (c : UInt8) : AS := ⟨⟨131, 32, T.node (some (Value.int IntKind.u8 (↑c.toNat : Int))) T.nil T.nil, [Item.code (codeAt bd [])], [], FrameMode.run, CallKind.normal, none⟩, [], ⟨T.nil, 126⟩⟩
theorem enter {η : Nat → Value} {B : Nat} (hη : OneCells η) (hmix : Go.Proofs.Tryz.prog.follows .mixedOrders = true) (hreg : RegOk η Go.Proofs.Tryz.prog B noNest) {D : Value → AH → Prop} (c : UInt8) (h : W.holds η Go.Proofs.Tryz.prog B 131 (fun kp_ st_ => RunD η Go.Proofs.Tryz.prog B 131 (H0 c) kp_ st_ (QF Go.Proofs.Tryz.prog 126 D)) D (.ite ((↑c.toNat : Int) == (9 : Int)) (.done 131 (Value.int IntKind.i64 2) (H0 c)) (.ite ((↑c.toNat : Int) == (32 : Int)) (.done 131 (Value.int IntKind.i64 2) (H0 c)) (.ite ((↑c.toNat : Int) == (34 : Int)) (.done 131 (Value.int IntKind.i64 3) (H0 c)) (.ite ((↑c.toNat : Int) == (92 : Int)) (.done 131 (Value.int IntKind.i64 4) (H0 c)) (.ite ((↑c.toNat : Int) == (44 : Int)) (.done 131 (Value.int IntKind.i64 5) (H0 c)) (.ite ((↑c.toNat : Int) == (59 : Int)) (.done 131 (Value.int IntKind.i64 6) (H0 c)) (.ite (decide ((65 : Int) ≤ (↑c.toNat : Int))) (.ite (decide ((↑c.toNat : Int) ≤ (90 : Int))) (.done 131 (Value.int IntKind.i64 1) (H0 c)) (.ite (decide ((97 : Int) ≤ (↑c.toNat : Int))) (.ite (decide ((↑c.toNat : Int) ≤ (122 : Int))) (.done 131 (Value.int IntKind.i64 1) (H0 c)) (.ite (decide ((48 : Int) ≤ (↑c.toNat : Int))) (.ite (decide ((↑c.toNat : Int) ≤ (57 : Int))) (.done 131 (Value.int IntKind.i64 1) (H0 c)) (.ite (decide (firstIdx { data := #[OfNat.ofNat (33 : Nat), OfNat.ofNat (35 : Nat), OfNat.ofNat (36 : Nat), OfNat.ofNat (37 : Nat), OfNat.ofNat (38 : Nat), OfNat.ofNat (39 : Nat), OfNat.ofNat (42 : Nat), OfNat.ofNat (43 : Nat), OfNat.ofNat (45 : Nat), OfNat.ofNat (46 : Nat), OfNat.ofNat (94 : Nat), OfNat.ofNat (95 : Nat), OfNat.ofNat (96 : Nat), OfNat.ofNat (124 : Nat), OfNat.ofNat (126 : Nat)] } (↑c.toNat : Int).toNat.toUInt8 ≥ (0 : Int))) (.done 131 (Value.int IntKind.i64 1) (H0 c)) (.ite (decide ((32 : Int) < (↑c.toNat : Int))) (.ite (decide ((↑c.toNat : Int) ≤ (126 : Int))) (.done 131 (Value.int IntKind.i64 7) (H0 c)) (.done 131 (Value.int IntKind.i64 0) (H0 c))) (.done 131 (Value.int IntKind.i64 0) (H0 c))))) (.ite (decide (firstIdx { data := #[OfNat.ofNat (33 : Nat), OfNat.ofNat (35 : Nat), OfNat.ofNat (36 : Nat), OfNat.ofNat (37 : Nat), OfNat.ofNat (38 : Nat), OfNat.ofNat (39 : Nat), OfNat.ofNat (42 : Nat), OfNat.ofNat (43 : Nat), OfNat.ofNat (45 : Nat), OfNat.ofNat (46 : Nat), OfNat.ofNat (94 : Nat), OfNat.ofNat (95 : Nat), OfNat.ofNat (96 : Nat), OfNat.ofNat (124 : Nat), OfNat.ofNat (126 : Nat)] } (↑c.toNat : Int).toNat.toUInt8 ≥ (0 : Int))) (.done 131 (Value.int IntKind.i64 1) (H0 c)) (.ite (decide ((32 : Int) < (↑c.toNat : Int))) (.ite (decide ((↑c.toNat : Int) ≤ (126 : Int))) (.done 131 (Value.int IntKind.i64 7) (H0 c)) (.done 131 (Value.int IntKind.i64 0) (H0 c))) (.done 131 (Value.int IntKind.i64 0) (H0 c)))))) (.ite (decide ((48 : Int) ≤ (↑c.toNat : Int))) (.ite (decide ((↑c.toNat : Int) ≤ (57 : Int))) (.done 131 (Value.int IntKind.i64 1) (H0 c)) (.ite (decide (firstIdx { data := #[OfNat.ofNat (33 : Nat), OfNat.ofNat (35 : Nat), OfNat.ofNat (36 : Nat), OfNat.ofNat (37 : Nat), OfNat.ofNat (38 : Nat), OfNat.ofNat (39 : Nat), OfNat.ofNat (42 : Nat), OfNat.ofNat (43 : Nat), OfNat.ofNat (45 : Nat), OfNat.ofNat (46 : Nat), OfNat.ofNat (94 : Nat), OfNat.ofNat (95 : Nat), OfNat.ofNat (96 : Nat), OfNat.ofNat (124 : Nat), OfNat.ofNat (126 : Nat)] } (↑c.toNat : Int).toNat.toUInt8 ≥ (0 : Int))) (.done 131 (Value.int IntKind.i64 1) (H0 c)) (.ite (decide ((32 : Int) < (↑c.toNat : Int))) (.ite (decide ((↑c.toNat : Int) ≤ (126 : Int))) (.done 131 (Value.int IntKind.i64 7) (H0 c)) (.done 131 (Value.int IntKind.i64 0) (H0 c))) (.done 131 (Value.int IntKind.i64 0) (H0 c))))) (.ite (decide (firstIdx { data := #[OfNat.ofNat (33 : Nat), OfNat.ofNat (35 : Nat), OfNat.ofNat (36 : Nat), OfNat.ofNat (37 : Nat), OfNat.ofNat (38 : Nat), OfNat.ofNat (39 : Nat), OfNat.ofNat (42 : Nat), OfNat.ofNat (43 : Nat), OfNat.ofNat (45 : Nat), OfNat.ofNat (46 : Nat), OfNat.ofNat (94 : Nat), OfNat.ofNat (95 : Nat), OfNat.ofNat (96 : Nat), OfNat.ofNat (124 : Nat), OfNat.ofNat (126 : Nat)] } (↑c.toNat : Int).toNat.toUInt8 ≥ (0 : Int))) (.done 131 (Value.int IntKind.i64 1) (H0 c)) (.ite (decide ((32 : Int) < (↑c.toNat : Int))) (.ite (decide ((↑c.toNat : Int) ≤ (126 : Int))) (.done 131 (Value.int IntKind.i64 7) (H0 c)) (.done 131 (Value.int IntKind.i64 0) (H0 c))) (.done 131 (Value.int IntKind.i64 0) (H0 c))))))) (.ite (decide ((97 : Int) ≤ (↑c.toNat : Int))) (.ite (decide ((↑c.toNat : Int) ≤ (122 : Int))) (.done 131 (Value.int IntKind.i64 1) (H0 c)) (.ite (decide ((48 : Int) ≤ (↑c.toNat : Int))) (.ite (decide ((↑c.toNat : Int) ≤ (57 : Int))) (.done 131 (Value.int IntKind.i64 1) (H0 c)) (.ite (decide (firstIdx { data := #[OfNat.ofNat (33 : Nat), OfNat.ofNat (35 : Nat), OfNat.ofNat (36 : Nat), OfNat.ofNat (37 : Nat), OfNat.ofNat (38 : Nat), OfNat.ofNat (39 : Nat), OfNat.ofNat (42 : Nat), OfNat.ofNat (43 : Nat), OfNat.ofNat (45 : Nat), OfNat.ofNat (46 : Nat), OfNat.ofNat (94 : Nat), OfNat.ofNat (95 : Nat), OfNat.ofNat (96 : Nat), OfNat.ofNat (124 : Nat), OfNat.ofNat (126 : Nat)] } (↑c.toNat : Int).toNat.toUInt8 ≥ (0 : Int))) (.done 131 (Value.int IntKind.i64 1) (H0 c)) (.ite (decide ((32 : Int) < (↑c.toNat : Int))) (.ite (decide ((↑c.toNat : Int) ≤ (126 : Int))) (.done 131 (Value.int IntKind.i64 7) (H0 c)) (.done 131 (Value.int IntKind.i64 0) (H0 c))) (.done 131 (Value.int IntKind.i64 0) (H0 c))))) (.ite (decide (firstIdx { data := #[OfNat.ofNat (33 : Nat), OfNat.ofNat (35 : Nat), OfNat.ofNat (36 : Nat), OfNat.ofNat (37 : Nat), OfNat.ofNat (38 : Nat), OfNat.ofNat (39 : Nat), OfNat.ofNat (42 : Nat), OfNat.ofNat (43 : Nat), OfNat.ofNat (45 : Nat), OfNat.ofNat (46 : Nat), OfNat.ofNat (94 : Nat), OfNat.ofNat (95 : Nat), OfNat.ofNat (96 : Nat), OfNat.ofNat (124 : Nat), OfNat.ofNat (126 : Nat)] } (↑c.toNat : Int).toNat.toUInt8 ≥ (0 : Int))) (.done 131 (Value.int IntKind.i64 1) (H0 c)) (.ite (decide ((32 : Int) < (↑c.toNat : Int))) (.ite (decide ((↑c.toNat : Int) ≤ (126 : Int))) (.done 131 (Value.int IntKind.i64 7) (H0 c)) (.done 131 (Value.int IntKind.i64 0) (H0 c))) (.done 131 (Value.int IntKind.i64 0) (H0 c)))))) (.ite (decide ((48 : Int) ≤ (↑c.toNat : Int))) (.ite (decide ((↑c.toNat : Int) ≤ (57 : Int))) (.done 131 (Value.int IntKind.i64 1) (H0 c)) (.ite (decide (firstIdx { data := #[OfNat.ofNat (33 : Nat), OfNat.ofNat (35 : Nat), OfNat.ofNat (36 : Nat), OfNat.ofNat (37 : Nat), OfNat.ofNat (38 : Nat), OfNat.ofNat (39 : Nat), OfNat.ofNat (42 : Nat), OfNat.ofNat (43 : Nat), OfNat.ofNat (45 : Nat), OfNat.ofNat (46 : Nat), OfNat.ofNat (94 : Nat), OfNat.ofNat (95 : Nat), OfNat.ofNat (96 : Nat), OfNat.ofNat (124 : Nat), OfNat.ofNat (126 : Nat)] } (↑c.toNat : Int).toNat.toUInt8 ≥ (0 : Int))) (.done 131 (Value.int IntKind.i64 1) (H0 c)) (.ite (decide ((32 : Int) < (↑c.toNat : Int))) (.ite (decide ((↑c.toNat : Int) ≤ (126 : Int))) (.done 131 (Value.int IntKind.i64 7) (H0 c)) (.done 131 (Value.int IntKind.i64 0) (H0 c))) (.done 131 (Value.int IntKind.i64 0) (H0 c))))) (.ite (decide (firstIdx { data := #[OfNat.ofNat (33 : Nat), OfNat.ofNat (35 : Nat), OfNat.ofNat (36 : Nat), OfNat.ofNat (37 : Nat), OfNat.ofNat (38 : Nat), OfNat.ofNat (39 : Nat), OfNat.ofNat (42 : Nat), OfNat.ofNat (43 : Nat), OfNat.ofNat (45 : Nat), OfNat.ofNat (46 : Nat), OfNat.ofNat (94 : Nat), OfNat.ofNat (95 : Nat), OfNat.ofNat (96 : Nat), OfNat.ofNat (124 : Nat), OfNat.ofNat (126 : Nat)] } (↑c.toNat : Int).toNat.toUInt8 ≥ (0 : Int))) (.done 131 (Value.int IntKind.i64 1) (H0 c)) (.ite (decide ((32 : Int) < (↑c.toNat : Int))) (.ite (decide ((↑c.toNat : Int) ≤ (126 : Int))) (.done 131 (Value.int IntKind.i64 7) (H0 c)) (.done 131 (Value.int IntKind.i64 0) (H0 c))) (.done 131 (Value.int IntKind.i64 0) (H0 c)))))))))))))) : CallSpec η Go.Proofs.Tryz.prog B 131 [Value.int IntKind.u8 (↑c.toNat : Int)] (H0 c) D := by
  refine CallSpec.ofQF hη (CallSpec.enter (fr := (E c).fr) (by kernel_rfl) ?_)
  exact walk_ok (h0 := H0 c) hη hmix hreg (fun _ _ k => k) 10000 (.steps 16 <| .bit 4 (.steps 8 <| .done none) (.steps 5 <| .bit 4 (.steps 6 <| .done none) (.steps 6 <| .bit 7 (.steps 6 <| .done none) (.steps 6 <| .bit 9 (.steps 6 <| .done none) (.steps 6 <| .bit 11 (.steps 6 <| .done none) (.steps 6 <| .bit 13 (.steps 6 <| .done none) (.steps 25 <| .bit 5 (.steps 8 <| .bit 5 (.steps 27 <| .done none) (.steps 3 <| .bit 8 (.steps 9 <| .bit 17 (.steps 15 <| .done none) (.steps 11 <| .bit 5 (.steps 9 <| .bit 21 (.steps 11 <| .done none) (.steps 31 <| .bit 25 (.steps 6 <| .done none) (.steps 8 <| .bit 28 (.steps 4 <| .bit 31 (.steps 6 <| .done none) (.steps 7 <| .done none)) (.steps 11 <| .done none)))) (.steps 40 <| .bit 25 (.steps 6 <| .done none) (.steps 8 <| .bit 28 (.steps 4 <| .bit 31 (.steps 6 <| .done none) (.steps 7 <| .done none)) (.steps 11 <| .done none))))) (.steps 20 <| .bit 5 (.steps 9 <| .bit 21 (.steps 11 <| .done none) (.steps 31 <| .bit 25 (.steps 6 <| .done none) (.steps 8 <| .bit 28 (.steps 4 <| .bit 31 (.steps 6 <| .done none) (.steps 7 <| .done none)) (.steps 11 <| .done none)))) (.steps 40 <| .bit 25 (.steps 6 <| .done none) (.steps 8 <| .bit 28 (.steps 4 <| .bit 31 (.steps 6 <| .done none) (.steps 7 <| .done none)) (.steps 11 <| .done none)))))) (.steps 11 <| .bit 8 (.steps 9 <| .bit 17 (.steps 15 <| .done none) (.steps 11 <| .bit 5 (.steps 9 <| .bit 21 (.steps 11 <| .done none) (.steps 31 <| .bit 25 (.steps 6 <| .done none) (.steps 8 <| .bit 28 (.steps 4 <| .bit 31 (.steps 6 <| .done none) (.steps 7 <| .done none)) (.steps 11 <| .done none)))) (.steps 40 <| .bit 25 (.steps 6 <| .done none) (.steps 8 <| .bit 28 (.steps 4 <| .bit 31 (.steps 6 <| .done none) (.steps 7 <| .done none)) (.steps 11 <| .done none))))) (.steps 20 <| .bit 5 (.steps 9 <| .bit 21 (.steps 11 <| .done none) (.steps 31 <| .bit 25 (.steps 6 <| .done none) (.steps 8 <| .bit 28 (.steps 4 <| .bit 31 (.steps 6 <| .done none) (.steps 7 <| .done none)) (.steps 11 <| .done none)))) (.steps 40 <| .bit 25 (.steps 6 <| .done none) (.steps 8 <| .bit 28 (.steps 4 <| .bit 31 (.steps 6 <| .done none) (.steps 7 <| .done none)) (.steps 11 <| .done none)))))))))))) (E c) (tmOk_get (by kernel_rfl)) (Eq.mpr (congrArg (W.holds η Go.Proofs.Tryz.prog B 131 (fun kp_ st_ => RunD η Go.Proofs.Tryz.prog B 131 (H0 c) kp_ st_ (QF Go.Proofs.Tryz.prog 126 D)) D) (by kernel_rfl)) h)
end BKind
namespace BLet
set_option linter.unusedVariables false
noncomputable def bd : Code := (Go.Proofs.Tryz.f129.body).getD .skip
noncomputable def H0 (c : UInt8) : AH := { objs := T.nil, next := 126 }
noncomputable def E (c : UInt8) : AS := ⟨⟨129, 38, T.node (some (Value.int IntKind.u8 (↑c.toNat : Int))) T.nil T.nil, [Item.code (codeAt bd [])], [], FrameMode.run, CallKind.normal, none⟩, [], ⟨T.nil, 126⟩⟩
theorem enter {η : Nat → Value} {B : Nat} (hη : OneCells η) (hmix : Go.Proofs.Tryz.prog.follows .mixedOrders = true) (hreg : RegOk η Go.Proofs.Tryz.prog B noNest) {D : Value → AH → Prop} (c : UInt8) (h : W.holds η Go.Proofs.Tryz.prog B 129 (fun kp_ st_ => RunD η Go.Proofs.Tryz.prog B 129 (H0 c) kp_ st_ (QF Go.Proofs.Tryz.prog 126 D)) D (.ite (decide ((↑c.toNat : Int) ≥ (97 : Int))) (.ite (decide ((↑c.toNat : Int) ≤ (122 : Int))) (.done 129 (Value.bool true) (H0 c)) (.ite (decide ((↑c.toNat : Int) ≥ (65 : Int))) (.ite (decide ((↑c.toNat : Int) ≤ (90 : Int))) (.done 129 (Value.bool true) (H0 c)) (.ite (decide ((↑c.toNat : Int) ≥ (48 : Int))) (.ite (decide ((↑c.toNat : Int) ≤ (57 : Int))) (.done 129 (Value.bool true) (H0 c)) (.ite ((33 : Int) == (↑c.toNat : Int)) (.done 129 (Value.bool true) (H0 c)) (.ite ((35 : Int) == (↑c.toNat : Int)) (.done 129 (Value.bool true) (H0 c)) (.ite ((36 : Int) == (↑c.toNat : Int)) (.done 129 (Value.bool true) (H0 c)) (.ite ((37 : Int) == (↑c.toNat : Int)) (.done 129 (Value.bool true) (H0 c)) (.ite ((38 : Int) == (↑c.toNat : Int)) (.done 129 (Value.bool true) (H0 c)) (.ite ((39 : Int) == (↑c.toNat : Int)) (.done 129 (Value.bool true) (H0 c)) (.ite ((42 : Int) == (↑c.toNat : Int)) (.done 129 (Value.bool true) (H0 c)) (.ite ((43 : Int) == (↑c.toNat : Int)) (.done 129 (Value.bool true) (H0 c)) (.ite ((45 : Int) == (↑c.toNat : Int)) (.done 129 (Value.bool true) (H0 c)) (.ite ((46 : Int) == (↑c.toNat : Int)) (.done 129 (Value.bool true) (H0 c)) (.ite ((94 : Int) == (↑c.toNat : Int)) (.done 129 (Value.bool true) (H0 c)) (.ite ((95 : Int) == (↑c.toNat : Int)) (.done 129 (Value.bool true) (H0 c)) (.ite ((96 : Int) == (↑c.toNat : Int)) (.done 129 (Value.bool true) (H0 c)) (.ite ((124 : Int) == (↑c.toNat : Int)) (.done 129 (Value.bool true) (H0 c)) (.ite ((126 : Int) == (↑c.toNat : Int)) (.done 129 (Value.bool true) (H0 c)) (.done 129 (Value.bool false) (H0 c)))))))))))))))))) (.ite ((33 : Int) == (↑c.toNat : Int)) (.done 129 (Value.bool true) (H0 c)) (.ite ((35 : Int) == (↑c.toNat : Int)) (.done 129 (Value.bool true) (H0 c)) (.ite ((36 : Int) == (↑c.toNat : Int)) (.done 129 (Value.bool true) (H0 c)) (.ite ((37 : Int) == (↑c.toNat : Int)) (.done 129 (Value.bool true) (H0 c)) (.ite ((38 : Int) == (↑c.toNat : Int)) (.done 129 (Value.bool true) (H0 c)) (.ite ((39 : Int) == (↑c.toNat : Int)) (.done 129 (Value.bool true) (H0 c)) (.ite ((42 : Int) == (↑c.toNat : Int)) (.done 129 (Value.bool true) (H0 c)) (.ite ((43 : Int) == (↑c.toNat : Int)) (.done 129 (Value.bool true) (H0 c)) (.ite ((45 : Int) == (↑c.toNat : Int)) (.done 129 (Value.bool true) (H0 c)) (.ite ((46 : Int) == (↑c.toNat : Int)) (.done 129 (Value.bool true) (H0 c)) (.ite ((94 : Int) == (↑c.toNat : Int)) (.done 129 (Value.bool true) (H0 c)) (.ite ((95 : Int) == (↑c.toNat : Int)) (.done 129 (Value.bool true) (H0 c)) (.ite ((96 : Int) == (↑c.toNat : Int)) (.done 129 (Value.bool true) (H0 c)) (.ite ((124 : Int) == (↑c.toNat : Int)) (.done 129 (Value.bool true) (H0 c)) (.ite ((126 : Int) == (↑c.toNat : Int)) (.done 129 (Value.bool true) (H0 c)) (.done 129 (Value.bool false) (H0 c))))))))))))))))))) (.ite (decide ((↑c.toNat : Int) ≥ (48 : Int))) (.ite (decide ((↑c.toNat : Int) ≤ (57 : Int))) (.done 129 (Value.bool true) (H0 c)) (.ite ((33 : Int) == (↑c.toNat : Int)) (.done 129 (Value.bool true) (H0 c)) (.ite ((35 : Int) == (↑c.toNat : Int)) (.done 129 (Value.bool true) (H0 c)) (.ite ((36 : Int) == (↑c.toNat : Int)) (.done 129 (Value.bool true) (H0 c)) (.ite ((37 : Int) == (↑c.toNat : Int)) (.done 129 (Value.bool true) (H0 c)) (.ite ((38 : Int) == (↑c.toNat : Int)) (.done 129 (Value.bool true) (H0 c)) (.ite ((39 : Int) == (↑c.toNat : Int)) (.done 129 (Value.bool true) (H0 c)) (.ite ((42 : Int) == (↑c.toNat : Int)) (.done 129 (Value.bool true) (H0 c)) (.ite ((43 : Int) == (↑c.toNat : Int)) (.done 129 (Value.bool true) (H0 c)) (.ite ((45 : Int) == (↑c.toNat : Int)) (.done 129 (Value.bool true) (H0 c)) (.ite ((46 : Int) == (↑c.toNat : Int)) (.done 129 (Value.bool true) (H0 c)) (.ite ((94 : Int) == (↑c.toNat : Int)) (.done 129 (Value.bool true) (H0 c)) (.ite ((95 : Int) == (↑c.toNat : Int)) (.done 129 (Value.bool true) (H0 c)) (.ite ((96 : Int) == (↑c.toNat : Int)) (.done 129 (Value.bool true) (H0 c)) (.ite ((124 : Int) == (↑c.toNat : Int)) (.done 129 (Value.bool true) (H0 c)) (.ite ((126 : Int) == (↑c.toNat : Int)) (.done 129 (Value.bool true) (H0 c)) (.done 129 (Value.bool false) (H0 c)))))))))))))))))) (.ite ((33 : Int) == (↑c.toNat : Int)) (.done 129 (Value.bool true) (H0 c)) (.ite ((35 : Int) == (↑c.toNat : Int)) (.done 129 (Value.bool true) (H0 c)) (.ite ((36 : Int) == (↑c.toNat : Int)) (.done 129 (Value.bool true) (H0 c)) (.ite ((37 : Int) == (↑c.toNat : Int)) (.done 129 (Value.bool true) (H0 c)) (.ite ((38 : Int) == (↑c.toNat : Int)) (.done 129 (Value.bool true) (H0 c)) (.ite ((39 : Int) == (↑c.toNat : Int)) (.done 129 (Value.bool true) (H0 c)) (.ite ((42 : Int) == (↑c.toNat : Int)) (.done 129 (Value.bool true) (H0 c)) (.ite ((43 : Int) == (↑c.toNat : Int)) (.done 129 (Value.bool true) (H0 c)) (.ite ((45 : Int) == (↑c.toNat : Int)) (.done 129 (Value.bool true) (H0 c)) (.ite ((46 : Int) == (↑c.toNat : Int)) (.done 129 (Value.bool true) (H0 c)) (.ite ((94 : Int) == (↑c.toNat : Int)) (.done 129 (Value.bool true) (H0 c)) (.ite ((95 : Int) == (↑c.toNat : Int)) (.done 129 (Value.bool true) (H0 c)) (.ite ((96 : Int) == (↑c.toNat : Int)) (.done 129 (Value.bool true) (H0 c)) (.ite ((124 : Int) == (↑c.toNat : Int)) (.done 129 (Value.bool true) (H0 c)) (.ite ((126 : Int) == (↑c.toNat : Int)) (.done 129 (Value.bool true) (H0 c)) (.done 129 (Value.bool false) (H0 c)))))))))))))))))))) (.ite (decide ((↑c.toNat : Int) ≥ (65 : Int))) (.ite (decide ((↑c.toNat : Int) ≤ (90 : Int))) (.done 129 (Value.bool true) (H0 c)) (.ite (decide ((↑c.toNat : Int) ≥ (48 : Int))) (.ite (decide ((↑c.toNat : Int) ≤ (57 : Int))) (.done 129 (Value.bool true) (H0 c)) (.ite ((33 : Int) == (↑c.toNat : Int)) (.done 129 (Value.bool true) (H0 c)) (.ite ((35 : Int) == (↑c.toNat : Int)) (.done 129 (Value.bool true) (H0 c)) (.ite ((36 : Int) == (↑c.toNat : Int)) (.done 129 (Value.bool true) (H0 c)) (.ite ((37 : Int) == (↑c.toNat : Int)) (.done 129 (Value.bool true) (H0 c)) (.ite ((38 : Int) == (↑c.toNat : Int)) (.done 129 (Value.bool true) (H0 c)) (.ite ((39 : Int) == (↑c.toNat : Int)) (.done 129 (Value.bool true) (H0 c)) (.ite ((42 : Int) == (↑c.toNat : Int)) (.done 129 (Value.bool true) (H0 c)) (.ite ((43 : Int) == (↑c.toNat : Int)) (.done 129 (Value.bool true) (H0 c)) (.ite ((45 : Int) == (↑c.toNat : Int)) (.done 129 (Value.bool true) (H0 c)) (.ite ((46 : Int) == (↑c.toNat : Int)) (.done 129 (Value.bool true) (H0 c)) (.ite ((94 : Int) == (↑c.toNat : Int)) (.done 129 (Value.bool true) (H0 c)) (.ite ((95 : Int) == (↑c.toNat : Int)) (.done 129 (Value.bool true) (H0 c)) (.ite ((96 : Int) == (↑c.toNat : Int)) (.done 129 (Value.bool true) (H0 c)) (.ite ((124 : Int) == (↑c.toNat : Int)) (.done 129 (Value.bool true) (H0 c)) (.ite ((126 : Int) == (↑c.toNat : Int)) (.done 129 (Value.bool true) (H0 c)) (.done 129 (Value.bool false) (H0 c)))))))))))))))))) (.ite ((33 : Int) == (↑c.toNat : Int)) (.done 129 (Value.bool true) (H0 c)) (.ite ((35 : Int) == (↑c.toNat : Int)) (.done 129 (Value.bool true) (H0 c)) (.ite ((36 : Int) == (↑c.toNat : Int)) (.done 129 (Value.bool true) (H0 c)) (.ite ((37 : Int) == (↑c.toNat : Int)) (.done 129 (Value.bool true) (H0 c)) (.ite ((38 : Int) == (↑c.toNat : Int)) (.done 129 (Value.bool true) (H0 c)) (.ite ((39 : Int) == (↑c.toNat : Int)) (.done 129 (Value.bool true) (H0 c)) (.ite ((42 : Int) == (↑c.toNat : Int)) (.done 129 (Value.bool true) (H0 c)) (.ite ((43 : Int) == (↑c.toNat : Int)) (.done 129 (Value.bool true) (H0 c)) (.ite ((45 : Int) == (↑c.toNat : Int)) (.done 129 (Value.bool true) (H0 c)) (.ite ((46 : Int) == (↑c.toNat : Int)) (.done 129 (Value.bool true) (H0 c)) (.ite ((94 : Int) == (↑c.toNat : Int)) (.done 129 (Value.bool true) (H0 c)) (.ite ((95 : Int) == (↑c.toNat : Int)) (.done 129 (Value.bool true) (H0 c)) (.ite ((96 : Int) == (↑c.toNat : Int)) (.done 129 (Value.bool true) (H0 c)) (.ite ((124 : Int) == (↑c.toNat : Int)) (.done 129 (Value.bool true) (H0 c)) (.ite ((126 : Int) == (↑c.toNat : Int)) (.done 129 (Value.bool true) (H0 c)) (.done 129 (Value.bool false) (H0 c))))))))))))))))))) (.ite (decide ((↑c.toNat : Int) ≥ (48 : Int))) (.ite (decide ((↑c.toNat : Int) ≤ (57 : Int))) (.done 129 (Value.bool true) (H0 c)) (.ite ((33 : Int) == (↑c.toNat : Int)) (.done 129 (Value.bool true) (H0 c)) (.ite ((35 : Int) == (↑c.toNat : Int)) (.done 129 (Value.bool true) (H0 c)) (.ite ((36 : Int) == (↑c.toNat : Int)) (.done 129 (Value.bool true) (H0 c)) (.ite ((37 : Int) == (↑c.toNat : Int)) (.done 129 (Value.bool true) (H0 c)) (.ite ((38 : Int) == (↑c.toNat : Int)) (.done 129 (Value.bool true) (H0 c)) (.ite ((39 : Int) == (↑c.toNat : Int)) (.done 129 (Value.bool true) (H0 c)) (.ite ((42 : Int) == (↑c.toNat : Int)) (.done 129 (Value.bool true) (H0 c)) (.ite ((43 : Int) == (↑c.toNat : Int)) (.done 129 (Value.bool true) (H0 c)) (.ite ((45 : Int) == (↑c.toNat : Int)) (.done 129 (Value.bool true) (H0 c)) (.ite ((46 : Int) == (↑c.toNat : Int)) (.done 129 (Value.bool true) (H0 c)) (.ite ((94 : Int) == (↑c.toNat : Int)) (.done 129 (Value.bool true) (H0 c)) (.ite ((95 : Int) == (↑c.toNat : Int)) (.done 129 (Value.bool true) (H0 c)) (.ite ((96 : Int) == (↑c.toNat : Int)) (.done 129 (Value.bool true) (H0 c)) (.ite ((124 : Int) == (↑c.toNat : Int)) (.done 129 (Value.bool true) (H0 c)) (.ite ((126 : Int) == (↑c.toNat : Int)) (.done 129 (Value.bool true) (H0 c)) (.done 129 (Value.bool false) (H0 c)))))))))))))))))) (.ite ((33 : Int) == (↑c.toNat : Int)) (.done 129 (Value.bool true) (H0 c)) (.ite ((35 : Int) == (↑c.toNat : Int)) (.done 129 (Value.bool true) (H0 c)) (.ite ((36 : Int) == (↑c.toNat : Int)) (.done 129 (Value.bool true) (H0 c)) (.ite ((37 : Int) == (↑c.toNat : Int)) (.done 129 (Value.bool true) (H0 c)) (.ite ((38 : Int) == (↑c.toNat : Int)) (.done 129 (Value.bool true) (H0 c)) (.ite ((39 : Int) == (↑c.toNat : Int)) (.done 129 (Value.bool true) (H0 c)) (.ite ((42 : Int) == (↑c.toNat : Int)) (.done 129 (Value.bool true) (H0 c)) (.ite ((43 : Int) == (↑c.toNat : Int)) (.done 129 (Value.bool true) (H0 c)) (.ite ((45 : Int) == (↑c.toNat : Int)) (.done 129 (Value.bool true) (H0 c)) (.ite ((46 : Int) == (↑c.toNat : Int)) (.done 129 (Value.bool true) (H0 c)) (.ite ((94 : Int) == (↑c.toNat : Int)) (.done 129 (Value.bool true) (H0 c)) (.ite ((95 : Int) == (↑c.toNat : Int)) (.done 129 (Value.bool true) (H0 c)) (.ite ((96 : Int) == (↑c.toNat : Int)) (.done 129 (Value.bool true) (H0 c)) (.ite ((124 : Int) == (↑c.toNat : Int)) (.done 129 (Value.bool true) (H0 c)) (.ite ((126 : Int) == (↑c.toNat : Int)) (.done 129 (Value.bool true) (H0 c)) (.done 129 (Value.bool false) (H0 c))))))))))))))))))))) : CallSpec η Go.Proofs.Tryz.prog B 129 [Value.int IntKind.u8 (↑c.toNat : Int)] (H0 c) D := by
  refine CallSpec.ofQF hη (CallSpec.enter (fr := (E c).fr) (by kernel_rfl) ?_)
  exact walk_ok (h0 := H0 c) hη hmix hreg (fun _ _ k => k) 10000 (.steps 10 <| .bit 7 (.steps 4 <| .bit 11 (.steps 22 <| .done none) (.steps 3 <| .bit 14 (.steps 5 <| .bit 19 (.steps 14 <| .done none) (.steps 3 <| .bit 22 (.steps 5 <| .bit 26 (.steps 6 <| .done none) (.steps 33 <| .bit 37 (.steps 6 <| .done none) (.steps 29 <| .bit 37 (.steps 6 <| .done none) (.steps 29 <| .bit 37 (.steps 6 <| .done none) (.steps 29 <| .bit 37 (.steps 6 <| .done none) (.steps 29 <| .bit 37 (.steps 6 <| .done none) (.steps 29 <| .bit 37 (.steps 6 <| .done none) (.steps 29 <| .bit 37 (.steps 6 <| .done none) (.steps 29 <| .bit 37 (.steps 6 <| .done none) (.steps 29 <| .bit 37 (.steps 6 <| .done none) (.steps 29 <| .bit 37 (.steps 6 <| .done none) (.steps 29 <| .bit 37 (.steps 6 <| .done none) (.steps 29 <| .bit 37 (.steps 6 <| .done none) (.steps 29 <| .bit 37 (.steps 6 <| .done none) (.steps 29 <| .bit 37 (.steps 6 <| .done none) (.steps 29 <| .bit 37 (.steps 6 <| .done none) (.steps 24 <| .done none))))))))))))))))) (.steps 38 <| .bit 37 (.steps 6 <| .done none) (.steps 29 <| .bit 37 (.steps 6 <| .done none) (.steps 29 <| .bit 37 (.steps 6 <| .done none) (.steps 29 <| .bit 37 (.steps 6 <| .done none) (.steps 29 <| .bit 37 (.steps 6 <| .done none) (.steps 29 <| .bit 37 (.steps 6 <| .done none) (.steps 29 <| .bit 37 (.steps 6 <| .done none) (.steps 29 <| .bit 37 (.steps 6 <| .done none) (.steps 29 <| .bit 37 (.steps 6 <| .done none) (.steps 29 <| .bit 37 (.steps 6 <| .done none) (.steps 29 <| .bit 37 (.steps 6 <| .done none) (.steps 29 <| .bit 37 (.steps 6 <| .done none) (.steps 29 <| .bit 37 (.steps 6 <| .done none) (.steps 29 <| .bit 37 (.steps 6 <| .done none) (.steps 29 <| .bit 37 (.steps 6 <| .done none) (.steps 24 <| .done none)))))))))))))))))) (.steps 8 <| .bit 22 (.steps 5 <| .bit 26 (.steps 6 <| .done none) (.steps 33 <| .bit 37 (.steps 6 <| .done none) (.steps 29 <| .bit 37 (.steps 6 <| .done none) (.steps 29 <| .bit 37 (.steps 6 <| .done none) (.steps 29 <| .bit 37 (.steps 6 <| .done none) (.steps 29 <| .bit 37 (.steps 6 <| .done none) (.steps 29 <| .bit 37 (.steps 6 <| .done none) (.steps 29 <| .bit 37 (.steps 6 <| .done none) (.steps 29 <| .bit 37 (.steps 6 <| .done none) (.steps 29 <| .bit 37 (.steps 6 <| .done none) (.steps 29 <| .bit 37 (.steps 6 <| .done none) (.steps 29 <| .bit 37 (.steps 6 <| .done none) (.steps 29 <| .bit 37 (.steps 6 <| .done none) (.steps 29 <| .bit 37 (.steps 6 <| .done none) (.steps 29 <| .bit 37 (.steps 6 <| .done none) (.steps 29 <| .bit 37 (.steps 6 <| .done none) (.steps 24 <| .done none))))))))))))))))) (.steps 38 <| .bit 37 (.steps 6 <| .done none) (.steps 29 <| .bit 37 (.steps 6 <| .done none) (.steps 29 <| .bit 37 (.steps 6 <| .done none) (.steps 29 <| .bit 37 (.steps 6 <| .done none) (.steps 29 <| .bit 37 (.steps 6 <| .done none) (.steps 29 <| .bit 37 (.steps 6 <| .done none) (.steps 29 <| .bit 37 (.steps 6 <| .done none) (.steps 29 <| .bit 37 (.steps 6 <| .done none) (.steps 29 <| .bit 37 (.steps 6 <| .done none) (.steps 29 <| .bit 37 (.steps 6 <| .done none) (.steps 29 <| .bit 37 (.steps 6 <| .done none) (.steps 29 <| .bit 37 (.steps 6 <| .done none) (.steps 29 <| .bit 37 (.steps 6 <| .done none) (.steps 29 <| .bit 37 (.steps 6 <| .done none) (.steps 29 <| .bit 37 (.steps 6 <| .done none) (.steps 24 <| .done none))))))))))))))))))) (.steps 7 <| .bit 14 (.steps 5 <| .bit 19 (.steps 14 <| .done none) (.steps 3 <| .bit 22 (.steps 5 <| .bit 26 (.steps 6 <| .done none) (.steps 33 <| .bit 37 (.steps 6 <| .done none) (.steps 29 <| .bit 37 (.steps 6 <| .done none) (.steps 29 <| .bit 37 (.steps 6 <| .done none) (.steps 29 <| .bit 37 (.steps 6 <| .done none) (.steps 29 <| .bit 37 (.steps 6 <| .done none) (.steps 29 <| .bit 37 (.steps 6 <| .done none) (.steps 29 <| .bit 37 (.steps 6 <| .done none) (.steps 29 <| .bit 37 (.steps 6 <| .done none) (.steps 29 <| .bit 37 (.steps 6 <| .done none) (.steps 29 <| .bit 37 (.steps 6 <| .done none) (.steps 29 <| .bit 37 (.steps 6 <| .done none) (.steps 29 <| .bit 37 (.steps 6 <| .done none) (.steps 29 <| .bit 37 (.steps 6 <| .done none) (.steps 29 <| .bit 37 (.steps 6 <| .done none) (.steps 29 <| .bit 37 (.steps 6 <| .done none) (.steps 24 <| .done none))))))))))))))))) (.steps 38 <| .bit 37 (.steps 6 <| .done none) (.steps 29 <| .bit 37 (.steps 6 <| .done none) (.steps 29 <| .bit 37 (.steps 6 <| .done none) (.steps 29 <| .bit 37 (.steps 6 <| .done none) (.steps 29 <| .bit 37 (.steps 6 <| .done none) (.steps 29 <| .bit 37 (.steps 6 <| .done none) (.steps 29 <| .bit 37 (.steps 6 <| .done none) (.steps 29 <| .bit 37 (.steps 6 <| .done none) (.steps 29 <| .bit 37 (.steps 6 <| .done none) (.steps 29 <| .bit 37 (.steps 6 <| .done none) (.steps 29 <| .bit 37 (.steps 6 <| .done none) (.steps 29 <| .bit 37 (.steps 6 <| .done none) (.steps 29 <| .bit 37 (.steps 6 <| .done none) (.steps 29 <| .bit 37 (.steps 6 <| .done none) (.steps 29 <| .bit 37 (.steps 6 <| .done none) (.steps 24 <| .done none)))))))))))))))))) (.steps 8 <| .bit 22 (.steps 5 <| .bit 26 (.steps 6 <| .done none) (.steps 33 <| .bit 37 (.steps 6 <| .done none) (.steps 29 <| .bit 37 (.steps 6 <| .done none) (.steps 29 <| .bit 37 (.steps 6 <| .done none) (.steps 29 <| .bit 37 (.steps 6 <| .done none) (.steps 29 <| .bit 37 (.steps 6 <| .done none) (.steps 29 <| .bit 37 (.steps 6 <| .done none) (.steps 29 <| .bit 37 (.steps 6 <| .done none) (.steps 29 <| .bit 37 (.steps 6 <| .done none) (.steps 29 <| .bit 37 (.steps 6 <| .done none) (.steps 29 <| .bit 37 (.steps 6 <| .done none) (.steps 29 <| .bit 37 (.steps 6 <| .done none) (.steps 29 <| .bit 37 (.steps 6 <| .done none) (.steps 29 <| .bit 37 (.steps 6 <| .done none) (.steps 29 <| .bit 37 (.steps 6 <| .done none) (.steps 29 <| .bit 37 (.steps 6 <| .done none) (.steps 24 <| .done none))))))))))))))))) (.steps 38 <| .bit 37 (.steps 6 <| .done none) (.steps 29 <| .bit 37 (.steps 6 <| .done none) (.steps 29 <| .bit 37 (.steps 6 <| .done none) (.steps 29 <| .bit 37 (.steps 6 <| .done none) (.steps 29 <| .bit 37 (.steps 6 <| .done none) (.steps 29 <| .bit 37 (.steps 6 <| .done none) (.steps 29 <| .bit 37 (.steps 6 <| .done none) (.steps 29 <| .bit 37 (.steps 6 <| .done none) (.steps 29 <| .bit 37 (.steps 6 <| .done none) (.steps 29 <| .bit 37 (.steps 6 <| .done none) (.steps 29 <| .bit 37 (.steps 6 <| .done none) (.steps 29 <| .bit 37 (.steps 6 <| .done none) (.steps 29 <| .bit 37 (.steps 6 <| .done none) (.steps 29 <| .bit 37 (.steps 6 <| .done none) (.steps 29 <| .bit 37 (.steps 6 <| .done none) (.steps 24 <| .done none))))))))))))))))))) (E c) (tmOk_get (by kernel_rfl)) (Eq.mpr (congrArg (W.holds η Go.Proofs.Tryz.prog B 129 (fun kp_ st_ => RunD η Go.Proofs.Tryz.prog B 129 (H0 c) kp_ st_ (QF Go.Proofs.Tryz.prog 126 D)) D) (by kernel_rfl)) h)
end BLet
namespace BTokN
set_option linter.unusedVariables false
noncomputable def bd : Code := (Go.Proofs.Tryz.f144.body).getD .skip
noncomputable def H0 (s : List UInt8) : AH := { objs := T.nil, next := 126 }
noncomputable def E (s : List UInt8) : AS := ⟨⟨144, 18, T.node (some (Value.string { data := { toList := s } })) T.nil T.nil, [Item.code (codeAt bd [])], [], FrameMode.run, CallKind.normal, none⟩, [], ⟨T.nil, 126⟩⟩
noncomputable def S0 (s : List UInt8) (i0 : Int) (d : Nat → Value) : AS := ⟨⟨144, 18, T.node (some (Value.string { data := { toList := s } })) (T.node (some (d 1)) (T.node (some (Value.int IntKind.i64 i0)) (T.node (some (d 7)) (T.node (some (d 15)) T.nil T.nil) T.nil) (T.node (some (d 11)) T.nil T.nil)) (T.node (some (d 5)) (T.node (some (d 9)) (T.node (some (d 17)) T.nil T.nil) T.nil) (T.node (some (d 13)) T.nil T.nil))) (T.node (some (d 2)) (T.node (some (d 4)) (T.node (some (d 8)) (T.node (some (d 16)) T.nil T.nil) T.nil) (T.node (some (d 12)) T.nil T.nil)) (T.node (some (d 6)) (T.node (some (d 10)) T.nil T.nil) (T.node (some (d 14)) T.nil T.nil))), [Item.code (codeAt bd [1, 1, 0, 0, 0]), Item.inLoop (codeAt bd [1, 1, 0, 0, 0]), Item.inBlock 0, Item.code (codeAt bd [1, 1, 1])], [], FrameMode.run, CallKind.normal, none⟩, [], ⟨T.nil, 126⟩⟩
theorem enter {η : Nat → Value} {B : Nat} (hη : OneCells η) (hmix : Go.Proofs.Tryz.prog.follows .mixedOrders = true) (hreg : RegOk η Go.Proofs.Tryz.prog B noNest) {D : Value → AH → Prop} (s : List UInt8) (h : W.holds η Go.Proofs.Tryz.prog B 144 (fun kp_ st_ => RunD η Go.Proofs.Tryz.prog B 144 (H0 s) kp_ st_ (QF Go.Proofs.Tryz.prog 126 D)) D (.stop [0, 3] (S0 s (0) (fun _ => undef)))) : CallSpec η Go.Proofs.Tryz.prog B 144 [Value.string { data := { toList := s } }] (H0 s) D := by
  refine CallSpec.ofQF hη (CallSpec.enter (fr := (E s).fr) (by kernel_rfl) ?_)
  exact walk_ok (h0 := H0 s) hη hmix hreg (fun _ _ k => k) 10000 (.steps 11 <| .stop [0, 3] none) (E s) (tmOk_get (by kernel_rfl)) (Eq.mpr (congrArg (W.holds η Go.Proofs.Tryz.prog B 144 (fun kp_ st_ => RunD η Go.Proofs.Tryz.prog B 144 (H0 s) kp_ st_ (QF Go.Proofs.Tryz.prog 126 D)) D) (by kernel_rfl)) h)
theorem cut0 {η : Nat → Value} {B : Nat} (hη : OneCells η) (hmix : Go.Proofs.Tryz.prog.follows .mixedOrders = true) (hreg : RegOk η Go.Proofs.Tryz.prog B noNest) {D : Value → AH → Prop} (s : List UInt8) (i0 : Int) (h : W.holds η Go.Proofs.Tryz.prog B 144 (fun kp_ st_ => RunD η Go.Proofs.Tryz.prog B 144 (H0 s) kp_ st_ (QF Go.Proofs.Tryz.prog 126 D)) D (.ite (decide (i0 < (↑s.length : Int))) (.need ((0 : Int) ≤ i0 ∧ i0 < (↑s.length : Int)) (.call 131 [Value.int IntKind.u8 (byteAt s i0)] ({ objs := T.nil, next := 126 }) (.ret (Value.int IntKind.i64 (TB.kdN (byteAt s i0).toNat)) ({ objs := T.nil, next := 126 })) (.ite (TB.kdN (byteAt s i0).toNat == (1 : Int)) (.stop [0, 3] (S0 s (IntKind.i64.wrap (i0 + 1)) (fun _ => undef))) (.done 144 (Value.int IntKind.i64 i0) (H0 s))))) (.done 144 (Value.int IntKind.i64 i0) (H0 s)))) : RunD η Go.Proofs.Tryz.prog B 144 (H0 s) [0, 3] (S0 s i0 fun _ => undef) (QF Go.Proofs.Tryz.prog 126 D) := by
  refine RunD.intro (S0 s i0) (fun d => ⟨rfl, rfl, rfl⟩) (fun d => tmOk_get (by kernel_rfl)) (fun d => by kernel_rfl) (fun d => ?_)
  exact walk_ok (h0 := H0 s) hη hmix hreg (fun _ _ k => k) 10000 (.steps 8 <| .bit 8 (.steps 2 <| .op <| .call (.ret (Value.int IntKind.i64 (TB.kdN (byteAt s i0).toNat)) ({ objs := T.nil, next := 126 })) <| .steps 3 <| .bit 14 (.steps 10 <| .stop [0, 3] none) (.steps 8 <| .done none)) (.steps 15 <| .done none)) (S0 s i0 d) (tmOk_get (by kernel_rfl)) (Eq.mpr (congrArg (W.holds η Go.Proofs.Tryz.prog B 144 (fun kp_ st_ => RunD η Go.Proofs.Tryz.prog B 144 (H0 s) kp_ st_ (QF Go.Proofs.Tryz.prog 126 D)) D) (by kernel_rfl)) h)
end BTokN
namespace BTok
set_option linter.unusedVariables false
noncomputable def bd : Code := (Go.Proofs.Tryz.f87.body).getD .skip
noncomputable def H0 (s : List UInt8) : AH := { objs := T.nil, next := 126 }
noncomputable def E (s : List UInt8) : AS := ⟨⟨87, 17, T.node (some (Value.string { data := { toList := s } })) T.nil T.nil, [Item.code (codeAt bd [])], [], FrameMode.run, CallKind.normal, none⟩, [], ⟨T.nil, 126⟩⟩
theorem enter {η : Nat → Value} {B : Nat} (hη : OneCells η) (hmix : Go.Proofs.Tryz.prog.follows .mixedOrders = true) (hreg : RegOk η Go.Proofs.Tryz.prog B noNest) {D : Value → AH → Prop} (s : List UInt8) (h : W.holds η Go.Proofs.Tryz.prog B 87 (fun kp_ st_ => RunD η Go.Proofs.Tryz.prog B 87 (H0 s) kp_ st_ (QF Go.Proofs.Tryz.prog 126 D)) D (.ite (!s == #[].toList) (.ite (decide ((↑s.length : Int) ≤ (64 : Int))) (.call 144 [Value.string { data := { toList := s } }] ({ objs := T.nil, next := 126 }) (.ret (Value.int IntKind.i64 (↑(TB.tokN s) : Int)) ({ objs := T.nil, next := 126 })) (.done 87 (Value.bool ((↑(TB.tokN s) : Int) == (↑s.length : Int))) (H0 s))) (.done 87 (Value.bool false) (H0 s))) (.done 87 (Value.bool false) (H0 s)))) : CallSpec η Go.Proofs.Tryz.prog B 87 [Value.string { data := { toList := s } }] (H0 s) D := by
  refine CallSpec.ofQF hη (CallSpec.enter (fr := (E s).fr) (by kernel_rfl) ?_)
  exact walk_ok (h0 := H0 s) hη hmix hreg (fun _ _ k => k) 10000 (.steps 9 <| .bit 5 (.steps 5 <| .bit 10 (.steps 1 <| .call (.ret (Value.int IntKind.i64 (↑(TB.tokN s) : Int)) ({ objs := T.nil, next := 126 })) <| .steps 7 <| .done none) (.steps 9 <| .done none)) (.steps 14 <| .done none)) (E s) (tmOk_get (by kernel_rfl)) (Eq.mpr (congrArg (W.holds η Go.Proofs.Tryz.prog B 87 (fun kp_ st_ => RunD η Go.Proofs.Tryz.prog B 87 (H0 s) kp_ st_ (QF Go.Proofs.Tryz.prog 126 D)) D) (by kernel_rfl)) h)
end BTok
namespace BFoldT
set_option linter.unusedVariables false
noncomputable def bd : Code := (Go.Proofs.Tryz.f29.body).getD .skip
noncomputable def H0 (s : List UInt8) : AH := { objs := T.nil, next := 126 }
noncomputable def E (s : List UInt8) : AS := ⟨⟨29, 22, T.node (some (Value.string { data := { toList := s } })) T.nil T.nil, [Item.code (codeAt bd [])], [], FrameMode.run, CallKind.normal, none⟩, [], ⟨T.nil, 126⟩⟩
noncomputable def S0 (s : List UInt8)  (d : Nat → Value) : AS := ⟨⟨29, 22, T.node (some (Value.string { data := { toList := s } })) (T.node (some (d 1)) (T.node (some (Value.pointer (some { block := 126, off := 0 }))) (T.node (some (Value.int IntKind.i64 (↑s.length : Int))) (T.node (some (d 15)) T.nil T.nil) T.nil) (T.node (some (d 11)) (T.node (some (d 19)) T.nil T.nil) T.nil)) (T.node (some (d 5)) (T.node (some (d 9)) (T.node (some (d 17)) T.nil T.nil) T.nil) (T.node (some (d 13)) (T.node (some (d 21)) T.nil T.nil) T.nil))) (T.node (some (d 2)) (T.node (some (d 4)) (T.node (some (Value.int IntKind.i64 0)) (T.node (some (d 16)) T.nil T.nil) T.nil) (T.node (some (d 12)) (T.node (some (d 20)) T.nil T.nil) T.nil)) (T.node (some (d 6)) (T.node (some (d 10)) (T.node (some (d 18)) T.nil T.nil) T.nil) (T.node (some (d 14)) T.nil T.nil))), [Item.code (codeAt bd [1, 1, 0, 1, 0, 0]), Item.inLoop (codeAt bd [1, 1, 0, 1, 0, 0]), Item.inBlock 0, Item.code (codeAt bd [1, 1, 1])], [], FrameMode.run, CallKind.normal, none⟩, [], ⟨T.node none T.nil (T.node none T.nil (T.node none T.nil (T.node none T.nil (T.node none T.nil (T.node none T.nil (T.node (some (AObj.cells 90 [Value.pointer none, Value.slice none 0 0] true 2)) T.nil T.nil)))))), 127⟩⟩
noncomputable def S1 (s : List UInt8) (l0 : List Value) (i0 : Int) (n0 : Nat) (d : Nat → Value) : AS := ⟨⟨29, 22, T.node (some (Value.string { data := { toList := s } })) (T.node (some (d 1)) (T.node (some (Value.pointer (some { block := 126, off := 0 }))) (T.node (some (Value.int IntKind.i64 (↑s.length : Int))) (T.node (some (d 15)) T.nil T.nil) T.nil) (T.node (some (d 11)) (T.node (some (d 19)) T.nil T.nil) T.nil)) (T.node (some (d 5)) (T.node (some (d 9)) (T.node (some (d 17)) T.nil T.nil) T.nil) (T.node (some (d 13)) (T.node (some (d 21)) T.nil T.nil) T.nil))) (T.node (some (d 2)) (T.node (some (d 4)) (T.node (some (Value.int IntKind.i64 i0)) (T.node (some (d 16)) T.nil T.nil) T.nil) (T.node (some (d 12)) (T.node (some (d 20)) T.nil T.nil) T.nil)) (T.node (some (d 6)) (T.node (some (d 10)) (T.node (some (d 18)) T.nil T.nil) T.nil) (T.node (some (d 14)) T.nil T.nil))), [Item.code (codeAt bd [1, 1, 0, 1, 0, 0]), Item.inLoop (codeAt bd [1, 1, 0, 1, 0, 0]), Item.inBlock 0, Item.code (codeAt bd [1, 1, 1])], [], FrameMode.run, CallKind.normal, none⟩, [], ⟨T.node none (T.node none (T.node none (T.node none (T.node none (T.node none (T.node none (T.node (some (AObj.cells 5 l0 false 2)) T.nil T.nil) T.nil) T.nil) T.nil) T.nil) T.nil) T.nil) (T.node none T.nil (T.node none T.nil (T.node none T.nil (T.node none T.nil (T.node none T.nil (T.node (some (AObj.cells 90 [Value.pointer (some { block := 126, off := 0 }), Value.slice (some { block := 127, off := 0 }) n0 9223372036854775809] true 2)) T.nil T.nil)))))), 128⟩⟩
theorem enter {η : Nat → Value} {B : Nat} (hη : OneCells η) (hmix : Go.Proofs.Tryz.prog.follows .mixedOrders = true) (hreg : RegOk η Go.Proofs.Tryz.prog B noNest) {D : Value → AH → Prop} (s : List UInt8) (h : W.holds η Go.Proofs.Tryz.prog B 29 (fun kp_ st_ => RunD η Go.Proofs.Tryz.prog B 29 (H0 s) kp_ st_ (QF Go.Proofs.Tryz.prog 126 D)) D (.stop [0, 3, 7, 8] (S0 s  (fun _ => undef)))) : CallSpec η Go.Proofs.Tryz.prog B 29 [Value.string { data := { toList := s } }] (H0 s) D := by
  refine CallSpec.ofQF hη (CallSpec.enter (fr := (E s).fr) (by kernel_rfl) ?_)
  exact walk_ok (h0 := H0 s) hη hmix hreg (fun _ _ k => k) 10000 (.steps 17 <| .stop [0, 3, 7, 8] none) (E s) (tmOk_get (by kernel_rfl)) (Eq.mpr (congrArg (W.holds η Go.Proofs.Tryz.prog B 29 (fun kp_ st_ => RunD η Go.Proofs.Tryz.prog B 29 (H0 s) kp_ st_ (QF Go.Proofs.Tryz.prog 126 D)) D) (by kernel_rfl)) h)
theorem cut0 {η : Nat → Value} {B : Nat} (hη : OneCells η) (hmix : Go.Proofs.Tryz.prog.follows .mixedOrders = true) (hreg : RegOk η Go.Proofs.Tryz.prog B noNest) {D : Value → AH → Prop} (s : List UInt8)  (h : W.holds η Go.Proofs.Tryz.prog B 29 (fun kp_ st_ => RunD η Go.Proofs.Tryz.prog B 29 (H0 s) kp_ st_ (QF Go.Proofs.Tryz.prog 126 D)) D (.ite (decide ((0 : Int) < (↑s.length : Int))) (.need ((0 : Int) ≤ (0 : Int) ∧ (0 : Int) < (↑s.length : Int)) (.ite (decide ((65 : Int) ≤ byteAt s (0 : Int))) (.ite (decide (byteAt s (0 : Int) ≤ (90 : Int))) (.need (True ∧ True ∧ True) (.stop [0, 3, 7, 8] (S1 s ([Value.int IntKind.u8 (IntKind.u8.wrap (byteAt s 0 + 32))]) (1) (1) (fun _ => undef)))) (.need (True ∧ True ∧ True) (.stop [0, 3, 7, 8] (S1 s ([Value.int IntKind.u8 (byteAt s 0)]) (1) (1) (fun _ => undef))))) (.need (True ∧ True ∧ True) (.stop [0, 3, 7, 8] (S1 s ([Value.int IntKind.u8 (byteAt s 0)]) (1) (1) (fun _ => undef)))))) (.need (True) (.done 29 (Value.string { data := #[] }) (H0 s))))) : RunD η Go.Proofs.Tryz.prog B 29 (H0 s) [0, 3, 7, 8] (S0 s  fun _ => undef) (QF Go.Proofs.Tryz.prog 126 D) := by
  refine RunD.intro (S0 s ) (fun d => ⟨rfl, rfl, rfl⟩) (fun d => tmOk_get (by kernel_rfl)) (fun d => by kernel_rfl) (fun d => ?_)
  exact walk_ok (h0 := H0 s) hη hmix hreg (fun _ _ k => k) 10000 (.steps 5 <| .bit 9 (.steps 13 <| .op <| .steps 16 <| .bit 5 (.steps 8 <| .bit 15 (.steps 66 <| .stop [0, 3, 7, 8] (some ⟨128, [(126, 126), (128, 127)], [(126, (126, false)), (127, (128, false))]⟩)) (.steps 62 <| .stop [0, 3, 7, 8] (some ⟨128, [(126, 126), (128, 127)], [(126, (126, false)), (127, (128, false))]⟩))) (.steps 70 <| .stop [0, 3, 7, 8] (some ⟨128, [(126, 126), (128, 127)], [(126, (126, false)), (127, (128, false))]⟩))) (.steps 10 <| .reg <| .steps 12 <| .reg <| .steps 5 <| .done (some ⟨126, [], []⟩))) (S0 s  d) (tmOk_get (by kernel_rfl)) (Eq.mpr (congrArg (W.holds η Go.Proofs.Tryz.prog B 29 (fun kp_ st_ => RunD η Go.Proofs.Tryz.prog B 29 (H0 s) kp_ st_ (QF Go.Proofs.Tryz.prog 126 D)) D) (by kernel_rfl)) h)
theorem cut1 {η : Nat → Value} {B : Nat} (hη : OneCells η) (hmix : Go.Proofs.Tryz.prog.follows .mixedOrders = true) (hreg : RegOk η Go.Proofs.Tryz.prog B noNest) {D : Value → AH → Prop} (s : List UInt8) (l0 : List Value) (i0 : Int) (n0 : Nat) (h : W.holds η Go.Proofs.Tryz.prog B 29 (fun kp_ st_ => RunD η Go.Proofs.Tryz.prog B 29 (H0 s) kp_ st_ (QF Go.Proofs.Tryz.prog 126 D)) D (.ite (decide (i0 < (↑s.length : Int))) (.need ((0 : Int) ≤ i0 ∧ i0 < (↑s.length : Int)) (.ite (decide ((65 : Int) ≤ byteAt s i0)) (.ite (decide (byteAt s i0 ≤ (90 : Int))) (.need ((1 : Nat) ≤ (1 : Nat) ∧ l0.length = n0 * (1 : Nat) ∧ n0 + (1 : Nat) ≤ (1000000 : Nat) ∧ (1 : Nat) = (1 : Nat) ∧ true = true) (.need (True ∧ NoNames (l0 ++ [Value.int IntKind.u8 (IntKind.u8.wrap (byteAt s i0 + (32 : Int)))]) ∧ True) (.stop [0, 3, 7, 8] (S1 s (l0 ++ [Value.int IntKind.u8 (IntKind.u8.wrap (byteAt s i0 + 32))]) (IntKind.i64.wrap (i0 + 1)) (n0 + 1) (fun _ => undef))))) (.need ((1 : Nat) ≤ (1 : Nat) ∧ l0.length = n0 * (1 : Nat) ∧ n0 + (1 : Nat) ≤ (1000000 : Nat) ∧ (1 : Nat) = (1 : Nat) ∧ true = true) (.need (True ∧ NoNames (l0 ++ [Value.int IntKind.u8 (byteAt s i0)]) ∧ True) (.stop [0, 3, 7, 8] (S1 s (l0 ++ [Value.int IntKind.u8 (byteAt s i0)]) (IntKind.i64.wrap (i0 + 1)) (n0 + 1) (fun _ => undef)))))) (.need ((1 : Nat) ≤ (1 : Nat) ∧ l0.length = n0 * (1 : Nat) ∧ n0 + (1 : Nat) ≤ (1000000 : Nat) ∧ (1 : Nat) = (1 : Nat) ∧ true = true) (.need (True ∧ NoNames (l0 ++ [Value.int IntKind.u8 (byteAt s i0)]) ∧ True) (.stop [0, 3, 7, 8] (S1 s (l0 ++ [Value.int IntKind.u8 (byteAt s i0)]) (IntKind.i64.wrap (i0 + 1)) (n0 + 1) (fun _ => undef))))))) (.need ((0 : Nat) < n0) (.need ((0 : Int) ≤ (↑n0 : Int) ∧ (↑n0 : Int) ≤ (1000000 : Int) ∧ (0 : Nat) + (↑n0 : Int).toNat ≤ l0.length ∧ bytesOf (List.take (↑n0 : Int).toNat l0) = Except.ok (bytesIn l0 (0 : Nat) (↑n0 : Int).toNat)) (.ite ((↑n0 : Int) == (0 : Int)) (.need (True) (.done 29 (Value.string { data := #[] }) (H0 s))) (.need (True) (.done 29 (Value.string { data := { toList := bytesIn l0 0 (↑n0 : Int).toNat } }) (H0 s)))))))) : RunD η Go.Proofs.Tryz.prog B 29 (H0 s) [0, 3, 7, 8] (S1 s l0 i0 n0 fun _ => undef) (QF Go.Proofs.Tryz.prog 126 D) := by
  refine RunD.intro (S1 s l0 i0 n0) (fun d => ⟨rfl, rfl, rfl⟩) (fun d => tmOk_get (by kernel_rfl)) (fun d => by kernel_rfl) (fun d => ?_)
  exact walk_ok (h0 := H0 s) hη hmix hreg (fun _ _ k => k) 10000 (.steps 5 <| .bit 9 (.steps 13 <| .op <| .steps 16 <| .bit 5 (.steps 8 <| .bit 15 (.steps 49 <| .op <| .steps 17 <| .stop [0, 3, 7, 8] (some ⟨128, [(126, 126), (129, 127)], [(126, (126, false)), (127, (129, true))]⟩)) (.steps 45 <| .op <| .steps 17 <| .stop [0, 3, 7, 8] (some ⟨128, [(126, 126), (129, 127)], [(126, (126, false)), (127, (129, true))]⟩))) (.steps 53 <| .op <| .steps 17 <| .stop [0, 3, 7, 8] (some ⟨128, [(126, 126), (129, 127)], [(126, (126, false)), (127, (129, true))]⟩))) (.steps 10 <| .reg <| .steps 4 <| .op <| .steps 5 <| .op <| .both (.steps 1 <| .reg <| .steps 5 <| .done (some ⟨126, [], []⟩)) (.steps 1 <| .reg <| .steps 5 <| .done (some ⟨126, [], []⟩)))) (S1 s l0 i0 n0 d) (tmOk_get (by kernel_rfl)) (Eq.mpr (congrArg (W.holds η Go.Proofs.Tryz.prog B 29 (fun kp_ st_ => RunD η Go.Proofs.Tryz.prog B 29 (H0 s) kp_ st_ (QF Go.Proofs.Tryz.prog 126 D)) D) (by kernel_rfl)) h)
end BFoldT
namespace BClone
set_option linter.unusedVariables false
noncomputable def bd : Code := (Go.Proofs.Tryz.f82.body).getD .skip
noncomputable def H0 (s : List UInt8) : AH := { objs := T.nil, next := 126 }
noncomputable def E (s : List UInt8) : AS := ⟨⟨82, 5, T.node (some (Value.string { data := { toList := s } })) T.nil T.nil, [Item.code (codeAt bd [])], [], FrameMode.run, CallKind.normal, none⟩, [], ⟨T.nil, 126⟩⟩
theorem enter {η : Nat → Value} {B : Nat} (hη : OneCells η) (hmix : Go.Proofs.Tryz.prog.follows .mixedOrders = true) (hreg : RegOk η Go.Proofs.Tryz.prog B noNest) {D : Value → AH → Prop} (s : List UInt8) (h : W.holds η Go.Proofs.Tryz.prog B 82 (fun kp_ st_ => RunD η Go.Proofs.Tryz.prog B 82 (H0 s) kp_ st_ (QF Go.Proofs.Tryz.prog 126 D)) D (.ite ((↑s.length : Int) == (0 : Int)) (.done 82 (Value.string { data := #[] }) (H0 s)) (.need ((0 : Int) ≤ (↑s.length : Int) ∧ (↑s.length : Int) ≤ (↑s.length : Int) ∧ (↑s.length : Int) ≤ (1000000 : Int)) (.need (True ∧ (bytesV (List.take (s.length.min (↑s.length : Int).toNat) s)).length = s.length.min (↑s.length : Int).toNat * (1 : Nat) ∧ (0 : Nat) + (bytesV (List.take (s.length.min (↑s.length : Int).toNat) s)).length ≤ (rep [Value.int IntKind.u8 (0 : Int)] (↑s.length : Int).toNat).length ∧ (bytesV (List.take (s.length.min (↑s.length : Int).toNat) s)).all oneC = true) (.ite (s.length.min (↑s.length : Int).toNat == (0 : Nat)) (.need ((0 : Int) ≤ (0 : Int) ∧ (0 : Int) < (↑(↑s.length : Int).toNat : Int)) (.need ((0 : Int) ≤ (↑(↑s.length : Int).toNat : Int) ∧ (↑(↑s.length : Int).toNat : Int) ≤ (1000000 : Int) ∧ (0 : Nat) + (↑(↑s.length : Int).toNat : Int).toNat ≤ (rep [Value.int IntKind.u8 (0 : Int)] (↑s.length : Int).toNat).length ∧ bytesOf (List.take (↑(↑s.length : Int).toNat : Int).toNat (List.drop (0 : Nat) (rep [Value.int IntKind.u8 (0 : Int)] (↑s.length : Int).toNat))) = Except.ok (bytesIn (rep [Value.int IntKind.u8 (0 : Int)] (↑s.length : Int).toNat) (0 : Nat) (↑(↑s.length : Int).toNat : Int).toNat)) (.ite ((↑(↑s.length : Int).toNat : Int) == (0 : Int)) (.need (True) (.done 82 (Value.string { data := #[] }) (H0 s))) (.need (True) (.done 82 (Value.string { data := { toList := bytesIn (rep [Value.int IntKind.u8 0] (↑s.length : Int).toNat) 0 (↑(↑s.length : Int).toNat : Int).toNat } }) (H0 s)))))) (.need ((0 : Int) ≤ (0 : Int) ∧ (0 : Int) < (↑(↑s.length : Int).toNat : Int)) (.need ((0 : Int) ≤ (↑(↑s.length : Int).toNat : Int) ∧ (↑(↑s.length : Int).toNat : Int) ≤ (1000000 : Int) ∧ (0 : Nat) + (↑(↑s.length : Int).toNat : Int).toNat ≤ (splice (rep [Value.int IntKind.u8 (0 : Int)] (↑s.length : Int).toNat) (0 : Nat) (bytesV (List.take (s.length.min (↑s.length : Int).toNat) s))).length ∧ bytesOf (List.take (↑(↑s.length : Int).toNat : Int).toNat (List.drop (0 : Nat) (splice (rep [Value.int IntKind.u8 (0 : Int)] (↑s.length : Int).toNat) (0 : Nat) (bytesV (List.take (s.length.min (↑s.length : Int).toNat) s))))) = Except.ok (bytesIn (splice (rep [Value.int IntKind.u8 (0 : Int)] (↑s.length : Int).toNat) (0 : Nat) (bytesV (List.take (s.length.min (↑s.length : Int).toNat) s))) (0 : Nat) (↑(↑s.length : Int).toNat : Int).toNat)) (.ite ((↑(↑s.length : Int).toNat : Int) == (0 : Int)) (.need (True) (.done 82 (Value.string { data := #[] }) (H0 s))) (.need (True) (.done 82 (Value.string { data := { toList := bytesIn (splice (rep [Value.int IntKind.u8 0] (↑s.length : Int).toNat) 0 (bytesV (List.take (s.length.min (↑s.length : Int).toNat) s))) 0 (↑(↑s.length : Int).toNat : Int).toNat } }) (H0 s))))))))))) : CallSpec η Go.Proofs.Tryz.prog B 82 [Value.string { data := { toList := s } }] (H0 s) D := by
  refine CallSpec.ofQF hη (CallSpec.enter (fr := (E s).fr) (by kernel_rfl) ?_)
  exact walk_ok (h0 := H0 s) hη hmix hreg (fun _ _ k => k) 10000 (.steps 19 <| .bit 6 (.steps 10 <| .done none) (.steps 6 <| .op <| .steps 6 <| .op <| .both (.steps 4 <| .op <| .steps 2 <| .op <| .both (.steps 7 <| .done (some ⟨126, [], []⟩)) (.steps 7 <| .done (some ⟨126, [], []⟩))) (.steps 4 <| .op <| .steps 2 <| .op <| .both (.steps 7 <| .done (some ⟨126, [], []⟩)) (.steps 7 <| .done (some ⟨126, [], []⟩))))) (E s) (tmOk_get (by kernel_rfl)) (Eq.mpr (congrArg (W.holds η Go.Proofs.Tryz.prog B 82 (fun kp_ st_ => RunD η Go.Proofs.Tryz.prog B 82 (H0 s) kp_ st_ (QF Go.Proofs.Tryz.prog 126 D)) D) (by kernel_rfl)) h)
end BClone
namespace BRTok
set_option linter.unusedVariables false
noncomputable def bd : Code := (Go.Proofs.Tryz.f76.body).getD .skip
noncomputable def H0 (s : List UInt8) : AH := { objs := T.nil, next := 126 }
noncomputable def E (s : List UInt8) : AS := ⟨⟨76, 23, T.node (some (Value.string { data := { toList := s } })) T.nil T.nil, [Item.code (codeAt bd [])], [], FrameMode.run, CallKind.normal, none⟩, [], ⟨T.nil, 126⟩⟩
noncomputable def S0 (s : List UInt8) (i0 : Int) (d : Nat → Value) : AS := ⟨⟨76, 23, T.node (some (Value.string { data := { toList := s } })) (T.node (some (d 1)) (T.node (some (Value.int IntKind.i64 i0)) (T.node (some (d 7)) (T.node (some (d 15)) T.nil T.nil) T.nil) (T.node (some (d 11)) (T.node (some (d 19)) T.nil T.nil) T.nil)) (T.node (some (d 5)) (T.node (some (d 9)) (T.node (some (d 17)) T.nil T.nil) T.nil) (T.node (some (d 13)) (T.node (some (d 21)) T.nil T.nil) T.nil))) (T.node (some (d 2)) (T.node (some (d 4)) (T.node (some (d 8)) (T.node (some (d 16)) T.nil T.nil) T.nil) (T.node (some (d 12)) (T.node (some (d 20)) T.nil T.nil) T.nil)) (T.node (some (d 6)) (T.node (some (d 10)) (T.node (some (d 18)) T.nil T.nil) T.nil) (T.node (some (d 14)) (T.node (some (d 22)) T.nil T.nil) T.nil))), [Item.code (codeAt bd [1, 1, 0, 1, 0, 0]), Item.inLoop (codeAt bd [1, 1, 0, 1, 0, 0]), Item.inBlock 0, Item.code (codeAt bd [1, 1, 1])], [], FrameMode.run, CallKind.normal, none⟩, [], ⟨T.nil, 126⟩⟩
theorem enter {η : Nat → Value} {B : Nat} (hη : OneCells η) (hmix : Go.Proofs.Tryz.prog.follows .mixedOrders = true) (hreg : RegOk η Go.Proofs.Tryz.prog B noNest) {D : Value → AH → Prop} (s : List UInt8) (h : W.holds η Go.Proofs.Tryz.prog B 76 (fun kp_ st_ => RunD η Go.Proofs.Tryz.prog B 76 (H0 s) kp_ st_ (QF Go.Proofs.Tryz.prog 126 D)) D (.ite (decide ((↑s.length : Int) < (1 : Int))) (.done 76 (Value.bool false) (H0 s)) (.ite (decide ((↑s.length : Int) > (64 : Int))) (.done 76 (Value.bool false) (H0 s)) (.stop [0, 3] (S0 s (0) (fun _ => undef)))))) : CallSpec η Go.Proofs.Tryz.prog B 76 [Value.string { data := { toList := s } }] (H0 s) D := by
  refine CallSpec.ofQF hη (CallSpec.enter (fr := (E s).fr) (by kernel_rfl) ?_)
  exact walk_ok (h0 := H0 s) hη hmix hreg (fun _ _ k => k) 10000 (.steps 11 <| .bit 7 (.steps 11 <| .done none) (.steps 5 <| .bit 11 (.steps 6 <| .done none) (.steps 9 <| .stop [0, 3] none))) (E s) (tmOk_get (by kernel_rfl)) (Eq.mpr (congrArg (W.holds η Go.Proofs.Tryz.prog B 76 (fun kp_ st_ => RunD η Go.Proofs.Tryz.prog B 76 (H0 s) kp_ st_ (QF Go.Proofs.Tryz.prog 126 D)) D) (by kernel_rfl)) h)
theorem cut0 {η : Nat → Value} {B : Nat} (hη : OneCells η) (hmix : Go.Proofs.Tryz.prog.follows .mixedOrders = true) (hreg : RegOk η Go.Proofs.Tryz.prog B noNest) {D : Value → AH → Prop} (s : List UInt8) (i0 : Int) (h : W.holds η Go.Proofs.Tryz.prog B 76 (fun kp_ st_ => RunD η Go.Proofs.Tryz.prog B 76 (H0 s) kp_ st_ (QF Go.Proofs.Tryz.prog 126 D)) D (.ite (decide (i0 < (↑s.length : Int))) (.need ((0 : Int) ≤ i0 ∧ i0 < (↑s.length : Int)) (.call 129 [Value.int IntKind.u8 (byteAt s i0)] ({ objs := T.nil, next := 126 }) (.ret (Value.bool (TB.letB (UInt8.ofNat (byteAt s i0).toNat))) ({ objs := T.nil, next := 126 })) (.ite (!TB.letB (UInt8.ofNat (byteAt s i0).toNat)) (.done 76 (Value.bool false) (H0 s)) (.stop [0, 3] (S0 s (IntKind.i64.wrap (i0 + 1)) (fun _ => undef)))))) (.done 76 (Value.bool true) (H0 s)))) : RunD η Go.Proofs.Tryz.prog B 76 (H0 s) [0, 3] (S0 s i0 fun _ => undef) (QF Go.Proofs.Tryz.prog 126 D) := by
  refine RunD.intro (S0 s i0) (fun d => ⟨rfl, rfl, rfl⟩) (fun d => tmOk_get (by kernel_rfl)) (fun d => by kernel_rfl) (fun d => ?_)
  exact walk_ok (h0 := H0 s) hη hmix hreg (fun _ _ k => k) 10000 (.steps 8 <| .bit 15 (.steps 8 <| .op <| .call (.ret (Value.bool (TB.letB (UInt8.ofNat (byteAt s i0).toNat))) ({ objs := T.nil, next := 126 })) <| .steps 2 <| .bit 22 (.steps 6 <| .done none) (.steps 9 <| .stop [0, 3] none)) (.steps 7 <| .done none)) (S0 s i0 d) (tmOk_get (by kernel_rfl)) (Eq.mpr (congrArg (W.holds η Go.Proofs.Tryz.prog B 76 (fun kp_ st_ => RunD η Go.Proofs.Tryz.prog B 76 (H0 s) kp_ st_ (QF Go.Proofs.Tryz.prog 126 D)) D) (by kernel_rfl)) h)
end BRTok
namespace BRFold
set_option linter.unusedVariables false
noncomputable def bd : Code := (Go.Proofs.Tryz.f58.body).getD .skip
noncomputable def H0 (s : List UInt8) : AH := { objs := T.nil, next := 126 }
noncomputable def E (s : List UInt8) : AS := ⟨⟨58, 36, T.node (some (Value.string { data := { toList := s } })) T.nil T.nil, [Item.code (codeAt bd [])], [], FrameMode.run, CallKind.normal, none⟩, [], ⟨T.nil, 126⟩⟩
noncomputable def S0 (s : List UInt8) (i0 : Int) (l0 : List Value) (d : Nat → Value) : AS := ⟨⟨58, 36, T.node (some (d 0)) (T.node (some (d 1)) (T.node (some (Value.slice (some { block := 126, off := 0 }) s.length 9223372036854775809)) (T.node (some (d 7)) (T.node (some (d 15)) (T.node (some (d 31)) T.nil T.nil) T.nil) (T.node (some (d 23)) T.nil T.nil)) (T.node (some (d 11)) (T.node (some (d 19)) (T.node (some (d 35)) T.nil T.nil) T.nil) (T.node (some (d 27)) T.nil T.nil))) (T.node (some (d 5)) (T.node (some (d 9)) (T.node (some (d 17)) (T.node (some (d 33)) T.nil T.nil) T.nil) (T.node (some (d 25)) T.nil T.nil)) (T.node (some (d 13)) (T.node (some (d 21)) T.nil T.nil) (T.node (some (d 29)) T.nil T.nil)))) (T.node (some (d 2)) (T.node (some (Value.int IntKind.i64 i0)) (T.node (some (d 8)) (T.node (some (d 16)) (T.node (some (d 32)) T.nil T.nil) T.nil) (T.node (some (d 24)) T.nil T.nil)) (T.node (some (d 12)) (T.node (some (d 20)) T.nil T.nil) (T.node (some (d 28)) T.nil T.nil))) (T.node (some (d 6)) (T.node (some (d 10)) (T.node (some (d 18)) (T.node (some (d 34)) T.nil T.nil) T.nil) (T.node (some (d 26)) T.nil T.nil)) (T.node (some (d 14)) (T.node (some (d 22)) T.nil T.nil) (T.node (some (d 30)) T.nil T.nil)))), [Item.code (codeAt bd [1, 1, 0, 1, 0, 0]), Item.inLoop (codeAt bd [1, 1, 0, 1, 0, 0]), Item.inBlock 0, Item.code (codeAt bd [1, 1, 1])], [], FrameMode.run, CallKind.normal, none⟩, [], ⟨T.node none T.nil (T.node none T.nil (T.node none T.nil (T.node none T.nil (T.node none T.nil (T.node none T.nil (T.node (some (AObj.cells 5 l0 false 2)) T.nil T.nil)))))), 127⟩⟩
theorem enter {η : Nat → Value} {B : Nat} (hη : OneCells η) (hmix : Go.Proofs.Tryz.prog.follows .mixedOrders = true) (hreg : RegOk η Go.Proofs.Tryz.prog B noNest) {D : Value → AH → Prop} (s : List UInt8) (h : W.holds η Go.Proofs.Tryz.prog B 58 (fun kp_ st_ => RunD η Go.Proofs.Tryz.prog B 58 (H0 s) kp_ st_ (QF Go.Proofs.Tryz.prog 126 D)) D (.need (s.length ≤ (1000000 : Nat)) (.stop [3, 4] (S0 s (0) (bytesV s) (fun _ => undef))))) : CallSpec η Go.Proofs.Tryz.prog B 58 [Value.string { data := { toList := s } }] (H0 s) D := by
  refine CallSpec.ofQF hη (CallSpec.enter (fr := (E s).fr) (by kernel_rfl) ?_)
  exact walk_ok (h0 := H0 s) hη hmix hreg (fun _ _ k => k) 10000 (.steps 7 <| .op <| .steps 9 <| .stop [3, 4] none) (E s) (tmOk_get (by kernel_rfl)) (Eq.mpr (congrArg (W.holds η Go.Proofs.Tryz.prog B 58 (fun kp_ st_ => RunD η Go.Proofs.Tryz.prog B 58 (H0 s) kp_ st_ (QF Go.Proofs.Tryz.prog 126 D)) D) (by kernel_rfl)) h)
theorem cut0 {η : Nat → Value} {B : Nat} (hη : OneCells η) (hmix : Go.Proofs.Tryz.prog.follows .mixedOrders = true) (hreg : RegOk η Go.Proofs.Tryz.prog B noNest) {D : Value → AH → Prop} (s : List UInt8) (i0 : Int) (l0 : List Value) (h : W.holds η Go.Proofs.Tryz.prog B 58 (fun kp_ st_ => RunD η Go.Proofs.Tryz.prog B 58 (H0 s) kp_ st_ (QF Go.Proofs.Tryz.prog 126 D)) D (.ite (decide (i0 < (↑s.length : Int))) (.need ((0 : Int) ≤ i0 ∧ i0 < (↑s.length : Int)) (.need (l0[(0 : Nat) + i0.toNat * (1 : Nat)]? = some (Value.int IntKind.u8 (intAt l0 ((0 : Nat) + i0.toNat * (1 : Nat))))) (.ite (decide (intAt l0 ((0 : Nat) + i0.toNat * (1 : Nat)) ≥ (65 : Int))) (.need ((0 : Int) ≤ i0 ∧ i0 < (↑s.length : Int)) (.need (l0[(0 : Nat) + i0.toNat * (1 : Nat)]? = some (Value.int IntKind.u8 (intAt l0 ((0 : Nat) + i0.toNat * (1 : Nat))))) (.ite (decide (intAt l0 ((0 : Nat) + i0.toNat * (1 : Nat)) ≤ (90 : Int))) (.need ((0 : Int) ≤ i0 ∧ i0 < (↑s.length : Int)) (.need (l0[(0 : Nat) + i0.toNat * (1 : Nat)]? = some (Value.int IntKind.u8 (intAt l0 ((0 : Nat) + i0.toNat * (1 : Nat))))) (.need ((0 : Int) ≤ i0 ∧ i0 < (↑s.length : Int)) (.need ((0 : Nat) + i0.toNat * (1 : Nat) + (1 : Nat) ≤ l0.length) (.stop [3, 4] (S0 s (IntKind.i64.wrap (i0 + 1)) (splice l0 (0 + i0.toNat * 1) [Value.int IntKind.u8 (IntKind.u8.wrap (IntKind.u8.wrap (intAt l0 (0 + i0.toNat * 1) + 97) - 65))]) (fun _ => undef))))))) (.stop [3, 4] (S0 s (IntKind.i64.wrap (i0 + 1)) (l0) (fun _ => undef)))))) (.stop [3, 4] (S0 s (IntKind.i64.wrap (i0 + 1)) (l0) (fun _ => undef)))))) (.need ((0 : Nat) + s.length ≤ l0.length ∧ bytesOf (List.take s.length l0) = Except.ok (bytesIn l0 (0 : Nat) s.length)) (.need (True) (.done 58 (Value.string { data := { toList := bytesIn l0 0 s.length } }) (H0 s)))))) : RunD η Go.Proofs.Tryz.prog B 58 (H0 s) [3, 4] (S0 s i0 l0 fun _ => undef) (QF Go.Proofs.Tryz.prog 126 D) := by
  refine RunD.intro (S0 s i0 l0) (fun d => ⟨rfl, rfl, rfl⟩) (fun d => tmOk_get (by kernel_rfl)) (fun d => by kernel_rfl) (fun d => ?_)
  exact walk_ok (h0 := H0 s) hη hmix hreg (fun _ _ k => k) 10000 (.steps 8 <| .bit 10 (.steps 8 <| .op <| .op <| .steps 2 <| .bit 18 (.steps 2 <| .op <| .op <| .steps 3 <| .bit 24 (.steps 6 <| .op <| .op <| .steps 2 <| .op <| .op <| .steps 8 <| .stop [3, 4] none) (.steps 9 <| .stop [3, 4] none)) (.steps 16 <| .stop [3, 4] none)) (.steps 5 <| .op <| .steps 3 <| .done (some ⟨126, [], []⟩))) (S0 s i0 l0 d) (tmOk_get (by kernel_rfl)) (Eq.mpr (congrArg (W.holds η Go.Proofs.Tryz.prog B 58 (fun kp_ st_ => RunD η Go.Proofs.Tryz.prog B 58 (H0 s) kp_ st_ (QF Go.Proofs.Tryz.prog 126 D)) D) (by kernel_rfl)) h)
end BRFold
end Go.Ev

namespace Go.Ev
set_option linter.unusedVariables false
set_option linter.unusedSimpArgs false
open Go Go.Proofs
variable {η : Nat → Value} {P : Program} {B : Nat}
namespace TB
theorem gs9 : Tryz.prog.globals.size < 126 := of_decide_eq_true (by kernel_rfl)
def isInt (n : Int) : Value → Bool
  | .int .i64 m => decide (m = n)
  | _ => false
def isBool (b : Bool) : Value → Bool
  | .bool c => b == c
  | _ => false
theorem isInt_eq {n : Int} {v : Value} (h : isInt n v = true) : v = .int .i64 n := by
  unfold isInt at h
  split at h
  · rw [of_decide_eq_true h]
  · cases h
theorem isBool_eq {b : Bool} {v : Value} (h : isBool b v = true) : v = .bool b := by
  unfold isBool at h
  split at h
  · rw [eq_of_beq h]
  · cases h
theorem kind_any (hη : OneCells η) (hmix : Tryz.prog.follows .mixedOrders = true) {n : Int} (h0 : 0 ≤ n) (h1 : n ≤ 255) (h : AH) :
    CallSpec η Tryz.prog B 131 [.int .u8 n] h (KT.ret (.int .i64 (kdN n.toNat)) h).sat := by
  obtain ⟨c, rfl, hc⟩ := u8_of h0 h1
  refine CallSpec.bare hη gs9 (fun σ M => .cons (.int _ _) .nil) (fun σ M => .int _ _) (fun σ M => .int _ _) ?_ h
  refine (BKind.enter hη hmix (reg0 hη hmix) (D := fun v _ => isInt (kdN (c.toNat : Int).toNat) v = true) c (W.pureB_ok ?_)).mono fun v _ hv => isInt_eq hv
  clear h0 h1 hc
  revert c
  exact forall_u8 (by decide +kernel)
theorem let_any (hη : OneCells η) (hmix : Tryz.prog.follows .mixedOrders = true) {n : Int} (h0 : 0 ≤ n) (h1 : n ≤ 255) (h : AH) :
    CallSpec η Tryz.prog B 129 [.int .u8 n] h (KT.ret (.bool (letB (UInt8.ofNat n.toNat))) h).sat := by
  obtain ⟨c, rfl, hc⟩ := u8_of h0 h1
  rw [hc]
  refine CallSpec.bare hη gs9 (fun σ M => .cons (.int _ _) .nil) (fun σ M => .bool _) (fun σ M => .bool _) ?_ h
  refine (BLet.enter hη hmix (reg0 hη hmix) (D := fun v _ => isBool (letB c) v = true) c (W.pureB_ok ?_)).mono fun v _ hv => isBool_eq hv
  clear h0 h1 hc
  revert c
  exact forall_u8 (by decide +kernel)
end TB
end Go.Ev
namespace Go.Ev
set_option linter.unusedVariables false
set_option linter.unusedSimpArgs false
open Go Go.Proofs
variable {η : Nat → Value} {B : Nat}
theorem at_cons {s : List UInt8} {i : Nat} {c : UInt8} {r : List UInt8} (h : s.drop i = c :: r) : i < s.length ∧ byteAt s (i : Int) = (c.toNat : Int) ∧ s.drop (i + 1) = r := by
  have hi : i < s.length := by
    rcases Nat.lt_or_ge i s.length with h' | h'
    · exact h'
    · rw [List.drop_eq_nil_of_le h'] at h; cases h
  have e : s.drop i = s[i] :: s.drop (i + 1) := List.drop_eq_getElem_cons hi
  rw [h] at e
  injection e with e1 e2
  refine ⟨hi, ?_, e2.symm⟩
  rw [byteAt_get hi, e1]
theorem at_nil {s : List UInt8} {i : Nat} (h : s.drop i = []) : s.length ≤ i := List.drop_eq_nil_iff.1 h
theorem wrap1 {i : Nat} (h : i ≤ 1000000000) : IntKind.i64.wrap ((i : Int) + 1) = ((i + 1 : Nat) : Int) := by
  rw [IntWalk.i64_in _ ⟨by omega, by omega⟩]; rfl
theorem str_args {σ : Nat → Nat} {M : Nat} {s : ByteArray} : L2 (RV σ M true) [.string s] [.string s] := .cons (.string _) .nil
namespace TB
theorem kd1 (c : UInt8) : (kdN c.toNat == 1) = letB c := eq_of_beq (forall_u8 (p := fun c => (kdN c.toNat == 1) == letB c) (by decide +kernel) c)
theorem tokN_all : ∀ s : List UInt8, tokN s = s.length ↔ s.all letB = true
  | [] => by simp [tokN]
  | c :: r => by
    have := tokN_all r
    unfold tokN
    cases h : letB c <;> simp [h, this]
theorem tokN_ok (hη : OneCells η) (hmix : Tryz.prog.follows .mixedOrders = true) (s : List UInt8) (hs : s.length ≤ 1000000) (h : AH) :
    CallSpec η Tryz.prog B 144 [.string ⟨⟨s⟩⟩] h (tokNK [.string ⟨⟨s⟩⟩] h).sat := by
  refine CallSpec.bare (v := .int .i64 (tokN s : Int)) hη gs9 (fun _ _ => str_args) (fun σ M => .int _ _) (fun σ M => .int _ _) ?_ h
  have cut := fun i0 => BTokN.cut0 (η := η) (B := B) (D := fun v _ => v = .int .i64 (tokN s : Int)) hη hmix (reg0 hη hmix) s i0
  simp only [W.holds, true_and, decide_eq_true_eq, decide_eq_false_iff_not] at cut
  have loop : ∀ (r : List UInt8) (i : Nat), s.drop i = r → i + tokN r = tokN s → RunD η Tryz.prog B 144 (BTokN.H0 s) [0, 3] (BTokN.S0 s (i : Int) fun _ => undef) (QF Tryz.prog 126 fun v _ => v = .int .i64 (tokN s : Int)) := by
    intro r
    induction r with
    | nil =>
      intro i hd he
      have := at_nil hd
      refine cut _ ⟨fun h => by omega, fun _ => ?_⟩
      rw [← he]; rfl
    | cons c r ih =>
      intro i hd he
      obtain ⟨hi, hb, hd2⟩ := at_cons hd
      refine cut _ ⟨fun _ => ⟨⟨by omega, by omega⟩, fun _ => ⟨kind_any hη hmix (byteAt_range _ _).1 (byteAt_range _ _).2 _, fun h => ?_, fun h => ?_⟩⟩, fun h => by omega⟩
      · rw [hb, Int.toNat_natCast, kd1] at h
        rw [wrap1 (by omega)]
        refine ih (i + 1) hd2 ?_
        rw [← he, tokN, if_pos h]; omega
      · rw [hb, Int.toNat_natCast, kd1] at h
        rw [← he, tokN, h]; rfl
  refine BTokN.enter hη hmix (reg0 hη hmix) _ ?_
  simp only [W.holds]
  exact loop s 0 rfl (by omega)
theorem nil_beq (s : List UInt8) : (s == []) = decide (s = []) := by cases s <;> rfl
theorem toL0 : (#[] : Array UInt8).toList = [] := rfl
theorem tok_ok (hη : OneCells η) (hmix : Tryz.prog.follows .mixedOrders = true) (s : List UInt8) (hs : s.length ≤ 1000000) (h : AH) :
    CallSpec η Tryz.prog B 87 [.string ⟨⟨s⟩⟩] h (tokK [.string ⟨⟨s⟩⟩] h).sat := by
  refine CallSpec.bare (v := .bool (tokB s)) hη gs9 (fun _ _ => str_args) (fun σ M => .bool _) (fun σ M => .bool _) ?_ h
  refine BTok.enter hη hmix (reg0 hη hmix) _ ?_
  simp only [W.holds, true_and, toL0, nil_beq, Bool.not_eq_true', Bool.not_eq_false', decide_eq_true_eq, decide_eq_false_iff_not]
  refine ⟨fun h0 => ⟨fun h1 => ⟨tokN_ok hη hmix s hs _, ?_⟩, fun h1 => ?_⟩, fun h0 => ?_⟩
  · have hp : 1 ≤ s.length := by cases s with | nil => exact absurd rfl h0 | cons => simp
    have e : ((tokN s : Int) == (s.length : Int)) = s.all letB := by
      have := tokN_all s
      cases ha : s.all letB with
      | true => rw [ha] at this; rw [this.2 rfl]; simp
      | false =>
        rw [ha] at this
        have hne : tokN s ≠ s.length := fun e => by cases this.1 e
        simp; omega
    rw [e]; unfold tokB
    rw [decide_eq_true (by omega), Bool.true_and]
  · unfold tokB; rw [decide_eq_false (by omega)]; rfl
  · subst h0; rfl
theorem rtok_ok (hη : OneCells η) (hmix : Tryz.prog.follows .mixedOrders = true) (s : List UInt8) (h : AH) :
    CallSpec η Tryz.prog B 76 [.string ⟨⟨s⟩⟩] h (tokK [.string ⟨⟨s⟩⟩] h).sat := by
  refine CallSpec.bare (v := .bool (tokB s)) hη gs9 (fun _ _ => str_args) (fun σ M => .bool _) (fun σ M => .bool _) ?_ h
  have cut := fun i0 => BRTok.cut0 (η := η) (B := B) (D := fun v _ => v = .bool (tokB s)) hη hmix (reg0 hη hmix) s i0
  simp only [W.holds, true_and, decide_eq_true_eq, decide_eq_false_iff_not] at cut
  refine BRTok.enter hη hmix (reg0 hη hmix) _ ?_
  simp only [W.holds, true_and, decide_eq_true_eq, decide_eq_false_iff_not]
  refine ⟨fun h => ?_, fun h0 => ⟨fun h => ?_, fun h => ?_⟩⟩
  · unfold tokB; rw [decide_eq_false (by omega)]; rfl
  · unfold tokB; rw [decide_eq_false (by omega)]; rfl
  have hs : 1 ≤ s.length ∧ s.length ≤ 64 := by omega
  have loop : ∀ (r : List UInt8) (i : Nat), s.drop i = r → s.all letB = r.all letB → RunD η Tryz.prog B 76 (BRTok.H0 s) [0, 3] (BRTok.S0 s (i : Int) fun _ => undef) (QF Tryz.prog 126 fun v _ => v = .bool (tokB s)) := by
    intro r
    induction r with
    | nil =>
      intro i hd he
      have := at_nil hd
      refine cut _ ⟨fun h => by omega, fun _ => ?_⟩
      unfold tokB; rw [he, decide_eq_true hs]; rfl
    | cons c r ih =>
      intro i hd he
      obtain ⟨hi, hb, hd2⟩ := at_cons hd
      refine cut _ ⟨fun _ => ⟨⟨by omega, by omega⟩, fun _ => ⟨let_any hη hmix (byteAt_range _ _).1 (byteAt_range _ _).2 _, fun h => ?_, fun h => ?_⟩⟩, fun h => by omega⟩
      · rw [hb, Int.toNat_natCast, UInt8.ofNat_toNat] at h
        unfold tokB
        rw [he, List.all_cons, show letB c = false by simpa using h, Bool.false_and, Bool.and_false]
      · rw [hb, Int.toNat_natCast, UInt8.ofNat_toNat] at h
        rw [wrap1 (by omega)]
        refine ih (i + 1) hd2 ?_
        rw [he, List.all_cons, show letB c = true by simpa using h, Bool.true_and]
  exact loop s 0 rfl rfl
end TB
end Go.Ev
namespace Go.Ev
set_option linter.unusedVariables false
set_option linter.unusedSimpArgs false
open Go Go.Proofs
variable {η : Nat → Value} {B : Nat}
theorem bytesV_app (a b : List UInt8) : bytesV (a ++ b) = bytesV a ++ bytesV b := by unfold bytesV; rw [List.map_append]
theorem bytesV_snoc (d : List UInt8) (c : UInt8) : bytesV d ++ [.int .u8 (c.toNat : Int)] = bytesV (d ++ [c]) := by rw [bytesV_app]; rfl
theorem bytesV_get (l : List UInt8) (i : Nat) : (bytesV l)[i]? = l[i]?.map fun b => .int .u8 (b.toNat : Int) := by unfold bytesV; rw [List.getElem?_map]
theorem app_get (d : List UInt8) (c : UInt8) (r : List UInt8) : (d ++ c :: r)[d.length]? = some c := by
  rw [List.getElem?_append_right (Nat.le_refl _), Nat.sub_self]; rfl
theorem splice_at (d : List UInt8) (c c' : UInt8) (r : List UInt8) : splice (bytesV (d ++ c :: r)) d.length [.int .u8 (c'.toNat : Int)] = bytesV (d ++ c' :: r) := by
  unfold splice
  rw [bytesV_app, bytesV_app]
  have hl : d.length = (bytesV d).length := (bytesV_len d).symm
  have e1 : (bytesV d ++ bytesV (c :: r)).take d.length = bytesV d := by rw [hl]; exact List.take_left
  have e2 : (bytesV d ++ bytesV (c :: r)).drop (d.length + 1) = bytesV r := by
    rw [hl, List.drop_append, List.drop_eq_nil_of_le (by omega), show (bytesV d).length + 1 - (bytesV d).length = 1 by omega]
    rfl
  have e3 : ([Value.int .u8 (c'.toNat : Int)] : List Value).length = 1 := rfl
  rw [e3, e1, e2, List.append_assoc]; rfl
/-- What a buffer of written bytes gives as a string. -/
theorem buf_ok (d : List UInt8) (h : d.length ≤ 1000000) : (0 : Int) ≤ (d.length : Int) ∧ (d.length : Int) ≤ 1000000 ∧ 0 + ((d.length : Int)).toNat ≤ (bytesV d).length ∧ bytesOf (List.take ((d.length : Int)).toNat (bytesV d)) = Except.ok (bytesIn (bytesV d) 0 ((d.length : Int)).toNat) := by
  rw [Int.toNat_natCast, bytesIn_all, List.take_of_length_le (by rw [bytesV_len]; exact Nat.le_refl _), bytesOf_bytesV, bytesV_len]
  exact ⟨by omega, by omega, by omega, rfl⟩
namespace TB
theorem low_hi {c : UInt8} (h1 : 65 ≤ c.toNat) (h2 : c.toNat ≤ 90) : IntKind.u8.wrap ((c.toNat : Int) + 32) = ((lowB c).toNat : Int) ∧ IntKind.u8.wrap (IntKind.u8.wrap ((c.toNat : Int) + 97) - 65) = ((lowB c).toNat : Int) := by
  have := forall_u8 (p := fun c => !(decide (65 ≤ c.toNat) && decide (c.toNat ≤ 90)) || (decide (IntKind.u8.wrap ((c.toNat : Int) + 32) = ((lowB c).toNat : Int)) && decide (IntKind.u8.wrap (IntKind.u8.wrap ((c.toNat : Int) + 97) - 65) = ((lowB c).toNat : Int)))) (by decide +kernel) c
  rw [decide_eq_true h1, decide_eq_true h2] at this
  simpa using this
theorem low_else {c : UInt8} (h : ¬ (65 ≤ c.toNat ∧ c.toNat ≤ 90)) : lowB c = c := by unfold lowB; rw [if_neg h]
theorem clone_ok (hη : OneCells η) (hmix : Tryz.prog.follows .mixedOrders = true) (s : List UInt8) (hs : s.length ≤ 1000000) (h : AH) :
    CallSpec η Tryz.prog B 82 [.string ⟨⟨s⟩⟩] h (cloneK [.string ⟨⟨s⟩⟩] h).sat := by
  refine CallSpec.bare (v := .string ⟨⟨s⟩⟩) hη gs9 (fun _ _ => str_args) (fun σ M => .string _) (fun σ M => .string _) ?_ h
  refine BClone.enter hη hmix (reg0 hη hmix) _ ?_
  have e1 : (s.length : Int).toNat = s.length := Int.toNat_natCast _
  have e2 : s.length.min s.length = s.length := Nat.min_self _
  have e3 : List.take s.length s = s := List.take_of_length_le (Nat.le_refl _)
  have e4 : splice (List.replicate s.length (Value.int IntKind.u8 (0 : Int))) 0 (bytesV s) = bytesV s := splice_all (by rw [List.length_replicate, bytesV_len])
  simp only [W.holds, true_and, e1, e2, e3, e4, Int.toNat_natCast, take_bytesV, bytesOf_bytesV, bytesIn_all, bytesV_len, bytesV_one, Nat.mul_one, Nat.zero_add, rep_one, List.length_replicate, beq_iff_eq, beq_eq_false_iff_ne]
  refine ⟨fun h => ?_, fun h => ⟨⟨by omega, by omega, by omega⟩, fun _ => ⟨⟨Nat.le_refl _, trivial⟩, fun _ => ⟨fun h0 => by omega, fun h0 => ⟨⟨by omega, by omega⟩, fun _ => ⟨⟨by omega, by omega, Nat.le_refl _, trivial⟩, fun _ => ⟨fun h1 => by omega, fun _ _ => trivial⟩⟩⟩⟩⟩⟩⟩
  have : s = [] := List.length_eq_zero_iff.1 (by omega)
  rw [this]
theorem fold_ok (hη : OneCells η) (hmix : Tryz.prog.follows .mixedOrders = true) (s : List UInt8) (hs : s.length ≤ 900000) (h : AH) :
    CallSpec η Tryz.prog B 29 [.string ⟨⟨s⟩⟩] h (foldK [.string ⟨⟨s⟩⟩] h).sat := by
  refine CallSpec.bare (v := .string ⟨⟨s.map lowB⟩⟩) hη gs9 (fun _ _ => str_args) (fun σ M => .string _) (fun σ M => .string _) ?_ h
  have cut := fun l0 i0 n0 => BFoldT.cut1 (η := η) (B := B) (D := fun v _ => v = .string ⟨⟨s.map lowB⟩⟩) hη hmix (reg0 hη hmix) s l0 i0 n0
  simp only [W.holds, true_and, decide_eq_true_eq, decide_eq_false_iff_not] at cut
  have loop : ∀ (r : List UInt8) (i : Nat) (d : List UInt8), s.drop i = r → d.length = i → 1 ≤ i → d ++ r.map lowB = s.map lowB → RunD η Tryz.prog B 29 (BFoldT.H0 s) [0, 3, 7, 8] (BFoldT.S1 s (bytesV d) (i : Int) d.length fun _ => undef) (QF Tryz.prog 126 fun v _ => v = .string ⟨⟨s.map lowB⟩⟩) := by
    intro r
    induction r with
    | nil =>
      intro i d hd hl hi he
      have := at_nil hd
      have hdl : d.length ≤ 900000 := by
        have := congrArg List.length he
        simp at this; omega
      refine cut _ _ _ ⟨fun h => by omega, fun _ => ⟨by omega, fun _ => ⟨buf_ok d (by omega), fun _ => ⟨fun h => ?_, fun _ _ => ?_⟩⟩⟩⟩
      · have : (d.length : Int) = 0 := by simpa using h
        omega
      · rw [Int.toNat_natCast, bytesIn_all, ← he]; simp
    | cons c r ih =>
      intro i d hd hl hi he
      obtain ⟨hi2, hb, hd2⟩ := at_cons hd
      have next : ∀ x : UInt8, x = lowB c → RunD η Tryz.prog B 29 (BFoldT.H0 s) [0, 3, 7, 8] (BFoldT.S1 s (bytesV d ++ [.int .u8 (x.toNat : Int)]) (IntKind.i64.wrap ((i : Int) + 1)) (d.length + 1) fun _ => undef) (QF Tryz.prog 126 fun v _ => v = .string ⟨⟨s.map lowB⟩⟩) := by
        rintro x rfl
        rw [bytesV_snoc, wrap1 (by omega)]
        have := ih (i + 1) (d ++ [lowB c]) hd2 (by simp; omega) (by omega) (by rw [← he]; simp)
        rw [List.length_append] at this
        exact this
      have app : 1 ≤ 1 ∧ (bytesV d).length = d.length * 1 ∧ d.length + 1 ≤ 1000000 ∧ True := ⟨by omega, by rw [bytesV_len, Nat.mul_one], by omega, trivial⟩
      have nn : ∀ x : Int, NoNames (bytesV d ++ [.int .u8 x]) := by
        intro x v hv
        rcases List.mem_append.1 hv with h | h
        · exact bytesV_plain d v h
        · rw [List.mem_singleton.1 h]; rfl
      refine cut _ _ _ ⟨fun _ => ⟨⟨by omega, by omega⟩, fun _ => ⟨fun h1 => ⟨fun h2 => ⟨app, fun _ => ⟨⟨nn _, trivial⟩, fun _ => ?_⟩⟩, fun h2 => ⟨app, fun _ => ⟨⟨nn _, trivial⟩, fun _ => ?_⟩⟩⟩, fun h1 => ⟨app, fun _ => ⟨⟨nn _, trivial⟩, fun _ => ?_⟩⟩⟩⟩, fun h => by omega⟩
      · rw [hb] at h1 h2 ⊢
        rw [(low_hi (c := c) (by omega) (by omega)).1]
        exact next _ rfl
      · rw [hb] at h1 h2 ⊢
        exact next c (low_else (by omega)).symm
      · rw [hb] at h1 ⊢
        exact next c (low_else (by omega)).symm
  refine BFoldT.enter hη hmix (reg0 hη hmix) _ ?_
  simp only [W.holds]
  refine BFoldT.cut0 hη hmix (reg0 hη hmix) _ ?_
  simp only [W.holds, true_and, and_true, decide_eq_true_eq, decide_eq_false_iff_not, implies_true, true_implies]
  match s, loop with
  | [], loop => exact ⟨fun h => absurd h (by decide), fun _ => rfl⟩
  | c :: r, loop =>
    have hb : byteAt (c :: r) 0 = (c.toNat : Int) := rfl
    have next : ∀ x : UInt8, x = lowB c → RunD η Tryz.prog B 29 (BFoldT.H0 (c :: r)) [0, 3, 7, 8] (BFoldT.S1 (c :: r) [.int .u8 (x.toNat : Int)] 1 1 fun _ => undef) (QF Tryz.prog 126 fun v _ => v = .string ⟨⟨(c :: r).map lowB⟩⟩) := by
      rintro x rfl
      exact loop r 1 [lowB c] rfl rfl (by omega) rfl
    refine ⟨fun _ => ⟨⟨by omega, by simp <;> omega⟩, fun _ => ⟨fun h1 => ⟨fun h2 => ?_, fun h2 => ?_⟩, fun h1 => ?_⟩⟩, fun h => absurd h (by simp <;> omega)⟩
    · rw [hb] at h1 h2 ⊢
      rw [(low_hi (c := c) (by omega) (by omega)).1]
      exact next _ rfl
    · rw [hb] at h1 h2 ⊢
      exact next c (low_else (by omega)).symm
    · rw [hb] at h1 ⊢
      exact next c (low_else (by omega)).symm
theorem rfold_ok (hη : OneCells η) (hmix : Tryz.prog.follows .mixedOrders = true) (s : List UInt8) (hs : s.length ≤ 900000) (h : AH) :
    CallSpec η Tryz.prog B 58 [.string ⟨⟨s⟩⟩] h (foldK [.string ⟨⟨s⟩⟩] h).sat := by
  refine CallSpec.bare (v := .string ⟨⟨s.map lowB⟩⟩) hη gs9 (fun _ _ => str_args) (fun σ M => .string _) (fun σ M => .string _) ?_ h
  have cut := fun i0 l0 => BRFold.cut0 (η := η) (B := B) (D := fun v _ => v = .string ⟨⟨s.map lowB⟩⟩) hη hmix (reg0 hη hmix) s i0 l0
  simp only [W.holds, true_and, decide_eq_true_eq, decide_eq_false_iff_not, Nat.zero_add, Nat.mul_one] at cut
  have loop : ∀ (r d : List UInt8), d.length + r.length = s.length → d ++ r.map lowB = s.map lowB → RunD η Tryz.prog B 58 (BRFold.H0 s) [3, 4] (BRFold.S0 s (d.length : Int) (bytesV (d ++ r)) fun _ => undef) (QF Tryz.prog 126 fun v _ => v = .string ⟨⟨s.map lowB⟩⟩) := by
    intro r
    induction r with
    | nil =>
      intro d hl he
      simp only [List.length_nil, Nat.add_zero] at hl
      rw [List.append_nil]
      refine cut _ _ ⟨fun h => by omega, fun _ => ⟨?_, fun _ _ => ?_⟩⟩
      · rw [← hl, List.take_of_length_le (by rw [bytesV_len]; exact Nat.le_refl _), bytesIn_all, bytesOf_bytesV, bytesV_len]
        exact ⟨Nat.le_refl _, rfl⟩
      · rw [← hl, bytesIn_all, ← he]; simp
    | cons c r ih =>
      intro d hl he
      simp only [List.length_cons] at hl
      have hI : (0 : Int) ≤ (d.length : Int) ∧ (d.length : Int) < (s.length : Int) := ⟨by omega, by omega⟩
      have hg : (bytesV (d ++ c :: r))[(d.length : Int).toNat]? = some (.int .u8 (c.toNat : Int)) := by
        rw [Int.toNat_natCast, bytesV_get, app_get]; rfl
      have ha : intAt (bytesV (d ++ c :: r)) (d.length : Int).toNat = (c.toNat : Int) := by unfold intAt; rw [hg]
      have next : ∀ x : UInt8, x = lowB c → RunD η Tryz.prog B 58 (BRFold.H0 s) [3, 4] (BRFold.S0 s (IntKind.i64.wrap ((d.length : Int) + 1)) (bytesV (d ++ x :: r)) fun _ => undef) (QF Tryz.prog 126 fun v _ => v = .string ⟨⟨s.map lowB⟩⟩) := by
        rintro x rfl
        rw [wrap1 (by omega)]
        have := ih (d ++ [lowB c]) (by simp; omega) (by rw [← he]; simp)
        rw [List.length_append, List.append_assoc] at this
        exact this
      have hb : some (Value.int .u8 (c.toNat : Int)) = some (Value.int .u8 (intAt (bytesV (d ++ c :: r)) (d.length : Int).toNat)) := by rw [ha]
      refine cut _ _ ⟨fun _ => ⟨hI, fun _ => ⟨hg.trans hb, fun _ => ⟨fun h1 => ⟨hI, fun _ => ⟨hg.trans hb, fun _ => ⟨fun h2 => ⟨hI, fun _ => ⟨hg.trans hb, fun _ => ⟨hI, fun _ => ⟨by rw [bytesV_len]; simp, fun _ => ?_⟩⟩⟩⟩, fun h2 => ?_⟩⟩⟩, fun h1 => ?_⟩⟩⟩, fun h => by omega⟩
      · rw [ha] at h1 h2 ⊢
        rw [(low_hi (c := c) (by omega) (by omega)).2, Int.toNat_natCast, splice_at]
        exact next _ rfl
      · rw [ha] at h1 h2
        exact next c (low_else (by omega)).symm
      · rw [ha] at h1
        exact next c (low_else (by omega)).symm
  refine BRFold.enter hη hmix (reg0 hη hmix) _ ?_
  simp only [W.holds]
  exact ⟨by omega, fun _ => loop s [] (by simp) rfl⟩
end TB
end Go.Ev

namespace Go.Ev
set_option linter.unusedVariables false
set_option linter.unusedSimpArgs false
open Go Go.Proofs
variable {η : Nat → Value} {B : Nat}
theorem RV.tup2 {σ : Nat → Nat} {N : Nat} {w : Bool} {a b : Value} (ha : RV σ N w a a) (hb : RV σ N w b b) : RV σ N w (.tuple ⟨[a, b]⟩) (.tuple ⟨[a, b]⟩) := .tuple rfl fun i v x hv hx => by
  match i, hv, hx with
  | 0, hv, hx => cases hv; cases hx; exact ha
  | 1, hv, hx => cases hv; cases hx; exact hb
namespace TB
end TB
end Go.Ev
namespace Go.Ev
set_option linter.unusedVariables false
set_option linter.unusedSimpArgs false
open Go Go.Proofs
variable {η : Nat → Value} {B : Nat}
namespace TB
/-- What a scan has found when d stands for i bytes. -/
def after (i : Nat) (d : List UInt8) (x : Option (Nat × List UInt8)) : Option (Nat × List UInt8) := x.map fun x => (x.1 + i, d ++ x.2)
end TB
end Go.Ev
namespace Go.Ev
set_option linter.unusedVariables false
set_option linter.unusedSimpArgs false
open Go Go.Proofs
variable {η : Nat → Value} {B : Nat}
namespace TB
end TB
end Go.Ev

