/- RTgtC, part 8: what the proof needs, in the order of its texts. -/
import Derived.Test.YtklnjollalaehaaGreatDoorRTgtC7
import Derived.Test.YtklnjollalaehaaGreatDoorProg
import Derived.KernelRfl
namespace Go.Ev
set_option linter.unusedVariables false
set_option linter.unusedSimpArgs false
open Go Go.Proofs
open Go.Ev.T renaming node → nN, nil → nZ
open Go.Proofs.Tryz (prog)
set_option maxRecDepth 100000
set_option maxHeartbeats 2000000
namespace RHex
set_option linter.unusedVariables false
noncomputable def bd : Code := (Go.Proofs.Tryz.f119.body).getD .skip
noncomputable def H0 (c : UInt8) : AH := { objs := nZ, next := 126 }
noncomputable def E (c : UInt8) : AS := ⟨⟨119, 35, nN (some (Value.int IntKind.u8 (↑c.toNat : Int))) nZ nZ, [Item.code (codeAt bd [])], [], FrameMode.run, CallKind.normal, none⟩, [], ⟨nZ, 126⟩⟩
theorem enter {η : Nat → Value} {B : Bd} (hη : OneCells η) (hmix : prog.follows .mixedOrders = true) (hreg : RegOk η prog B noNest) {D : Value → AH → Prop} (c : UInt8) (h : W.holds η prog B 119 (fun kp_ st_ => RunD η prog B 119 (H0 c) kp_ st_ (QF prog 126 D)) D (.ite (decide ((↑c.toNat : Int) ≥ (48 : Int))) (.ite (decide ((↑c.toNat : Int) ≤ (57 : Int))) (.done 119 (Value.int IntKind.i64 (IntKind.i64.wrap (IntKind.u8.wrap ((↑c.toNat : Int) - 48)))) (H0 c)) (.ite (decide ((↑c.toNat : Int) ≥ (97 : Int))) (.ite (decide ((↑c.toNat : Int) ≤ (102 : Int))) (.done 119 (Value.int IntKind.i64 (IntKind.i64.wrap (IntKind.i64.wrap (IntKind.u8.wrap ((↑c.toNat : Int) - 97)) + 10))) (H0 c)) (.ite (decide ((↑c.toNat : Int) ≥ (65 : Int))) (.ite (decide ((↑c.toNat : Int) ≤ (70 : Int))) (.done 119 (Value.int IntKind.i64 (IntKind.i64.wrap (IntKind.i64.wrap (IntKind.u8.wrap ((↑c.toNat : Int) - 65)) + 10))) (H0 c)) (.done 119 (Value.int IntKind.i64 (-1)) (H0 c))) (.done 119 (Value.int IntKind.i64 (-1)) (H0 c)))) (.ite (decide ((↑c.toNat : Int) ≥ (65 : Int))) (.ite (decide ((↑c.toNat : Int) ≤ (70 : Int))) (.done 119 (Value.int IntKind.i64 (IntKind.i64.wrap (IntKind.i64.wrap (IntKind.u8.wrap ((↑c.toNat : Int) - 65)) + 10))) (H0 c)) (.done 119 (Value.int IntKind.i64 (-1)) (H0 c))) (.done 119 (Value.int IntKind.i64 (-1)) (H0 c))))) (.ite (decide ((↑c.toNat : Int) ≥ (97 : Int))) (.ite (decide ((↑c.toNat : Int) ≤ (102 : Int))) (.done 119 (Value.int IntKind.i64 (IntKind.i64.wrap (IntKind.i64.wrap (IntKind.u8.wrap ((↑c.toNat : Int) - 97)) + 10))) (H0 c)) (.ite (decide ((↑c.toNat : Int) ≥ (65 : Int))) (.ite (decide ((↑c.toNat : Int) ≤ (70 : Int))) (.done 119 (Value.int IntKind.i64 (IntKind.i64.wrap (IntKind.i64.wrap (IntKind.u8.wrap ((↑c.toNat : Int) - 65)) + 10))) (H0 c)) (.done 119 (Value.int IntKind.i64 (-1)) (H0 c))) (.done 119 (Value.int IntKind.i64 (-1)) (H0 c)))) (.ite (decide ((↑c.toNat : Int) ≥ (65 : Int))) (.ite (decide ((↑c.toNat : Int) ≤ (70 : Int))) (.done 119 (Value.int IntKind.i64 (IntKind.i64.wrap (IntKind.i64.wrap (IntKind.u8.wrap ((↑c.toNat : Int) - 65)) + 10))) (H0 c)) (.done 119 (Value.int IntKind.i64 (-1)) (H0 c))) (.done 119 (Value.int IntKind.i64 (-1)) (H0 c)))))) : CallSpec η prog B 119 [Value.int IntKind.u8 (↑c.toNat : Int)] (H0 c) D := by
  refine CallSpec.ofQF hη (CallSpec.enter (fr := (E c).fr) (by kernel_rfl) ?_)
  exact walk_okT (h0 := H0 c) hη hmix hreg (.steps 11 <| .bit 6 (.steps 5 <| .bit 3 (.steps 9 <| .done none) (.steps 6 <| .bit 16 (.steps 5 <| .bit 13 (.steps 10 <| .done none) (.steps 6 <| .bit 27 (.steps 5 <| .bit 24 (.steps 10 <| .done none) (.steps 8 <| .done none)) (.steps 13 <| .done none))) (.steps 11 <| .bit 27 (.steps 5 <| .bit 24 (.steps 10 <| .done none) (.steps 8 <| .done none)) (.steps 13 <| .done none)))) (.steps 11 <| .bit 16 (.steps 5 <| .bit 13 (.steps 10 <| .done none) (.steps 6 <| .bit 27 (.steps 5 <| .bit 24 (.steps 10 <| .done none) (.steps 8 <| .done none)) (.steps 13 <| .done none))) (.steps 11 <| .bit 27 (.steps 5 <| .bit 24 (.steps 10 <| .done none) (.steps 8 <| .done none)) (.steps 13 <| .done none)))) (E c) (by kernel_rfl) h (by kernel_rfl)
end RHex
namespace RPln
set_option linter.unusedVariables false
noncomputable def bd : Code := (Go.Proofs.Tryz.f115.body).getD .skip
noncomputable def H0 (c : UInt8) : AH := { objs := nZ, next := 126 }
noncomputable def E (c : UInt8) : AS := ⟨⟨115, 41, nN (some (Value.int IntKind.u8 (↑c.toNat : Int))) nZ nZ, [Item.code (codeAt bd [])], [], FrameMode.run, CallKind.normal, none⟩, [], ⟨nZ, 126⟩⟩
theorem enter {η : Nat → Value} {B : Bd} (hη : OneCells η) (hmix : prog.follows .mixedOrders = true) (hreg : RegOk η prog B noNest) {D : Value → AH → Prop} (c : UInt8) (h : W.holds η prog B 115 (fun kp_ st_ => RunD η prog B 115 (H0 c) kp_ st_ (QF prog 126 D)) D (.ite (decide ((↑c.toNat : Int) ≥ (97 : Int))) (.ite (decide ((↑c.toNat : Int) ≤ (122 : Int))) (.done 115 (Value.bool true) (H0 c)) (.ite (decide ((↑c.toNat : Int) ≥ (65 : Int))) (.ite (decide ((↑c.toNat : Int) ≤ (90 : Int))) (.done 115 (Value.bool true) (H0 c)) (.ite (decide ((↑c.toNat : Int) ≥ (48 : Int))) (.ite (decide ((↑c.toNat : Int) ≤ (57 : Int))) (.done 115 (Value.bool true) (H0 c)) (.ite ((↑c.toNat : Int) == (45 : Int)) (.done 115 (Value.bool true) (H0 c)) (.ite ((↑c.toNat : Int) == (46 : Int)) (.done 115 (Value.bool true) (H0 c)) (.ite ((↑c.toNat : Int) == (95 : Int)) (.done 115 (Value.bool true) (H0 c)) (.done 115 (Value.bool ((↑c.toNat : Int) == 126)) (H0 c)))))) (.ite ((↑c.toNat : Int) == (45 : Int)) (.done 115 (Value.bool true) (H0 c)) (.ite ((↑c.toNat : Int) == (46 : Int)) (.done 115 (Value.bool true) (H0 c)) (.ite ((↑c.toNat : Int) == (95 : Int)) (.done 115 (Value.bool true) (H0 c)) (.done 115 (Value.bool ((↑c.toNat : Int) == 126)) (H0 c))))))) (.ite (decide ((↑c.toNat : Int) ≥ (48 : Int))) (.ite (decide ((↑c.toNat : Int) ≤ (57 : Int))) (.done 115 (Value.bool true) (H0 c)) (.ite ((↑c.toNat : Int) == (45 : Int)) (.done 115 (Value.bool true) (H0 c)) (.ite ((↑c.toNat : Int) == (46 : Int)) (.done 115 (Value.bool true) (H0 c)) (.ite ((↑c.toNat : Int) == (95 : Int)) (.done 115 (Value.bool true) (H0 c)) (.done 115 (Value.bool ((↑c.toNat : Int) == 126)) (H0 c)))))) (.ite ((↑c.toNat : Int) == (45 : Int)) (.done 115 (Value.bool true) (H0 c)) (.ite ((↑c.toNat : Int) == (46 : Int)) (.done 115 (Value.bool true) (H0 c)) (.ite ((↑c.toNat : Int) == (95 : Int)) (.done 115 (Value.bool true) (H0 c)) (.done 115 (Value.bool ((↑c.toNat : Int) == 126)) (H0 c)))))))) (.ite (decide ((↑c.toNat : Int) ≥ (65 : Int))) (.ite (decide ((↑c.toNat : Int) ≤ (90 : Int))) (.done 115 (Value.bool true) (H0 c)) (.ite (decide ((↑c.toNat : Int) ≥ (48 : Int))) (.ite (decide ((↑c.toNat : Int) ≤ (57 : Int))) (.done 115 (Value.bool true) (H0 c)) (.ite ((↑c.toNat : Int) == (45 : Int)) (.done 115 (Value.bool true) (H0 c)) (.ite ((↑c.toNat : Int) == (46 : Int)) (.done 115 (Value.bool true) (H0 c)) (.ite ((↑c.toNat : Int) == (95 : Int)) (.done 115 (Value.bool true) (H0 c)) (.done 115 (Value.bool ((↑c.toNat : Int) == 126)) (H0 c)))))) (.ite ((↑c.toNat : Int) == (45 : Int)) (.done 115 (Value.bool true) (H0 c)) (.ite ((↑c.toNat : Int) == (46 : Int)) (.done 115 (Value.bool true) (H0 c)) (.ite ((↑c.toNat : Int) == (95 : Int)) (.done 115 (Value.bool true) (H0 c)) (.done 115 (Value.bool ((↑c.toNat : Int) == 126)) (H0 c))))))) (.ite (decide ((↑c.toNat : Int) ≥ (48 : Int))) (.ite (decide ((↑c.toNat : Int) ≤ (57 : Int))) (.done 115 (Value.bool true) (H0 c)) (.ite ((↑c.toNat : Int) == (45 : Int)) (.done 115 (Value.bool true) (H0 c)) (.ite ((↑c.toNat : Int) == (46 : Int)) (.done 115 (Value.bool true) (H0 c)) (.ite ((↑c.toNat : Int) == (95 : Int)) (.done 115 (Value.bool true) (H0 c)) (.done 115 (Value.bool ((↑c.toNat : Int) == 126)) (H0 c)))))) (.ite ((↑c.toNat : Int) == (45 : Int)) (.done 115 (Value.bool true) (H0 c)) (.ite ((↑c.toNat : Int) == (46 : Int)) (.done 115 (Value.bool true) (H0 c)) (.ite ((↑c.toNat : Int) == (95 : Int)) (.done 115 (Value.bool true) (H0 c)) (.done 115 (Value.bool ((↑c.toNat : Int) == 126)) (H0 c))))))))) : CallSpec η prog B 115 [Value.int IntKind.u8 (↑c.toNat : Int)] (H0 c) D := by
  refine CallSpec.ofQF hη (CallSpec.enter (fr := (E c).fr) (by kernel_rfl) ?_)
  exact walk_okT (h0 := H0 c) hη hmix hreg (.steps 9 <| .bit 5 (.steps 4 <| .bit 9 (.steps 34 <| .done none) (.steps 3 <| .bit 12 (.steps 5 <| .bit 17 (.steps 26 <| .done none) (.steps 3 <| .bit 20 (.steps 5 <| .bit 25 (.steps 18 <| .done none) (.steps 4 <| .bit 29 (.steps 14 <| .done none) (.steps 4 <| .bit 33 (.steps 10 <| .done none) (.steps 4 <| .bit 37 (.steps 6 <| .done none) (.steps 6 <| .done none))))) (.steps 9 <| .bit 29 (.steps 14 <| .done none) (.steps 4 <| .bit 33 (.steps 10 <| .done none) (.steps 4 <| .bit 37 (.steps 6 <| .done none) (.steps 6 <| .done none)))))) (.steps 8 <| .bit 20 (.steps 5 <| .bit 25 (.steps 18 <| .done none) (.steps 4 <| .bit 29 (.steps 14 <| .done none) (.steps 4 <| .bit 33 (.steps 10 <| .done none) (.steps 4 <| .bit 37 (.steps 6 <| .done none) (.steps 6 <| .done none))))) (.steps 9 <| .bit 29 (.steps 14 <| .done none) (.steps 4 <| .bit 33 (.steps 10 <| .done none) (.steps 4 <| .bit 37 (.steps 6 <| .done none) (.steps 6 <| .done none))))))) (.steps 7 <| .bit 12 (.steps 5 <| .bit 17 (.steps 26 <| .done none) (.steps 3 <| .bit 20 (.steps 5 <| .bit 25 (.steps 18 <| .done none) (.steps 4 <| .bit 29 (.steps 14 <| .done none) (.steps 4 <| .bit 33 (.steps 10 <| .done none) (.steps 4 <| .bit 37 (.steps 6 <| .done none) (.steps 6 <| .done none))))) (.steps 9 <| .bit 29 (.steps 14 <| .done none) (.steps 4 <| .bit 33 (.steps 10 <| .done none) (.steps 4 <| .bit 37 (.steps 6 <| .done none) (.steps 6 <| .done none)))))) (.steps 8 <| .bit 20 (.steps 5 <| .bit 25 (.steps 18 <| .done none) (.steps 4 <| .bit 29 (.steps 14 <| .done none) (.steps 4 <| .bit 33 (.steps 10 <| .done none) (.steps 4 <| .bit 37 (.steps 6 <| .done none) (.steps 6 <| .done none))))) (.steps 9 <| .bit 29 (.steps 14 <| .done none) (.steps 4 <| .bit 33 (.steps 10 <| .done none) (.steps 4 <| .bit 37 (.steps 6 <| .done none) (.steps 6 <| .done none))))))) (E c) (by kernel_rfl) h (by kernel_rfl)
end RPln
namespace RAm
set_option linter.unusedVariables false
noncomputable def bd : Code := (Go.Proofs.Tryz.f116.body).getD .skip
noncomputable def H0 (c : UInt8) : AH := { objs := nZ, next := 126 }
noncomputable def E (c : UInt8) : AS := ⟨⟨116, 17, nN (some (Value.int IntKind.u8 (↑c.toNat : Int))) (nN (some (Value.string ⟨#[OfNat.ofNat 33, OfNat.ofNat 36, OfNat.ofNat 38, OfNat.ofNat 39, OfNat.ofNat 40, OfNat.ofNat 41, OfNat.ofNat 42, OfNat.ofNat 43, OfNat.ofNat 44, OfNat.ofNat 59, OfNat.ofNat 61, OfNat.ofNat 58, OfNat.ofNat 64, OfNat.ofNat 47]⟩)) nZ nZ) nZ, [Item.code (codeAt bd [])], [], FrameMode.run, CallKind.normal, none⟩, [], ⟨nZ, 126⟩⟩
theorem enter {η : Nat → Value} {B : Bd} (hη : OneCells η) (hmix : prog.follows .mixedOrders = true) (hreg : RegOk η prog B noNest) {D : Value → AH → Prop} (c : UInt8) (h : W.holds η prog B 116 (fun kp_ st_ => RunD η prog B 116 (H0 c) kp_ st_ (QF prog 126 D)) D (.ite ((33 : Int) == (↑c.toNat : Int)) (.done 116 (Value.bool true) (H0 c)) (.ite ((36 : Int) == (↑c.toNat : Int)) (.done 116 (Value.bool true) (H0 c)) (.ite ((38 : Int) == (↑c.toNat : Int)) (.done 116 (Value.bool true) (H0 c)) (.ite ((39 : Int) == (↑c.toNat : Int)) (.done 116 (Value.bool true) (H0 c)) (.ite ((40 : Int) == (↑c.toNat : Int)) (.done 116 (Value.bool true) (H0 c)) (.ite ((41 : Int) == (↑c.toNat : Int)) (.done 116 (Value.bool true) (H0 c)) (.ite ((42 : Int) == (↑c.toNat : Int)) (.done 116 (Value.bool true) (H0 c)) (.ite ((43 : Int) == (↑c.toNat : Int)) (.done 116 (Value.bool true) (H0 c)) (.ite ((44 : Int) == (↑c.toNat : Int)) (.done 116 (Value.bool true) (H0 c)) (.ite ((59 : Int) == (↑c.toNat : Int)) (.done 116 (Value.bool true) (H0 c)) (.ite ((61 : Int) == (↑c.toNat : Int)) (.done 116 (Value.bool true) (H0 c)) (.ite ((58 : Int) == (↑c.toNat : Int)) (.done 116 (Value.bool true) (H0 c)) (.ite ((64 : Int) == (↑c.toNat : Int)) (.done 116 (Value.bool true) (H0 c)) (.ite ((47 : Int) == (↑c.toNat : Int)) (.done 116 (Value.bool true) (H0 c)) (.done 116 (Value.bool false) (H0 c))))))))))))))))) : CallSpec η prog B 116 [Value.int IntKind.u8 (↑c.toNat : Int), Value.string ⟨#[OfNat.ofNat 33, OfNat.ofNat 36, OfNat.ofNat 38, OfNat.ofNat 39, OfNat.ofNat 40, OfNat.ofNat 41, OfNat.ofNat 42, OfNat.ofNat 43, OfNat.ofNat 44, OfNat.ofNat 59, OfNat.ofNat 61, OfNat.ofNat 58, OfNat.ofNat 64, OfNat.ofNat 47]⟩] (H0 c) D := by
  refine CallSpec.ofQF hη (CallSpec.enter (fr := (E c).fr) (by kernel_rfl) ?_)
  exact walk_okT (h0 := H0 c) hη hmix hreg (.steps 31 <| .bit 16 (.steps 6 <| .done none) (.steps 29 <| .bit 16 (.steps 6 <| .done none) (.steps 29 <| .bit 16 (.steps 6 <| .done none) (.steps 29 <| .bit 16 (.steps 6 <| .done none) (.steps 29 <| .bit 16 (.steps 6 <| .done none) (.steps 29 <| .bit 16 (.steps 6 <| .done none) (.steps 29 <| .bit 16 (.steps 6 <| .done none) (.steps 29 <| .bit 16 (.steps 6 <| .done none) (.steps 29 <| .bit 16 (.steps 6 <| .done none) (.steps 29 <| .bit 16 (.steps 6 <| .done none) (.steps 29 <| .bit 16 (.steps 6 <| .done none) (.steps 29 <| .bit 16 (.steps 6 <| .done none) (.steps 29 <| .bit 16 (.steps 6 <| .done none) (.steps 29 <| .bit 16 (.steps 6 <| .done none) (.steps 24 <| .done none))))))))))))))) (E c) (by kernel_rfl) h (by kernel_rfl)
end RAm
namespace REnc
set_option linter.unusedVariables false
noncomputable def bd : Code := (Go.Proofs.Tryz.f114.body).getD .skip
noncomputable def H0 (s : List UInt8) (i : Int) : AH := { objs := nZ, next := 126 }
noncomputable def E (s : List UInt8) (i : Int) : AS := ⟨⟨114, 32, nN (some (Value.string ⟨⟨s⟩⟩)) (nN (some (Value.int IntKind.i64 i)) nZ nZ) nZ, [Item.code (codeAt bd [])], [], FrameMode.run, CallKind.normal, none⟩, [], ⟨nZ, 126⟩⟩
theorem enter {η : Nat → Value} {B : Bd} (hη : OneCells η) (hmix : prog.follows .mixedOrders = true) (hreg : RegOk η prog B noNest) {D : Value → AH → Prop} (s : List UInt8) (i : Int) (h : W.holds η prog B 114 (fun kp_ st_ => RunD η prog B 114 (H0 s i) kp_ st_ (QF prog 126 D)) D (.ite (decide (IntKind.i64.wrap (i + (2 : Int)) < (↑s.length : Int))) (.need ((0 : Int) ≤ i ∧ i < (↑s.length : Int)) (.ite (byteAt s i == (37 : Int)) (.need ((0 : Int) ≤ IntKind.i64.wrap (i + (1 : Int)) ∧ IntKind.i64.wrap (i + (1 : Int)) < (↑s.length : Int)) (.call 119 [Value.int IntKind.u8 (byteAt s (IntKind.i64.wrap (i + 1)))] (⟨nZ, 126⟩) (.ret (Value.int IntKind.i64 (TR.hexN (byteAt s (IntKind.i64.wrap (i + 1))).toNat)) (⟨nZ, 126⟩)) (.ite (decide (TR.hexN (byteAt s (IntKind.i64.wrap (i + (1 : Int)))).toNat ≥ (0 : Int))) (.need ((0 : Int) ≤ IntKind.i64.wrap (i + (2 : Int)) ∧ IntKind.i64.wrap (i + (2 : Int)) < (↑s.length : Int)) (.call 119 [Value.int IntKind.u8 (byteAt s (IntKind.i64.wrap (i + 2)))] (⟨nZ, 126⟩) (.ret (Value.int IntKind.i64 (TR.hexN (byteAt s (IntKind.i64.wrap (i + 2))).toNat)) (⟨nZ, 126⟩)) (.done 114 (Value.bool (decide (TR.hexN (byteAt s (IntKind.i64.wrap (i + 2))).toNat ≥ 0))) (H0 s i)))) (.done 114 (Value.bool false) (H0 s i))))) (.done 114 (Value.bool false) (H0 s i)))) (.done 114 (Value.bool false) (H0 s i)))) : CallSpec η prog B 114 [Value.string ⟨⟨s⟩⟩, Value.int IntKind.i64 i] (H0 s i) D := by
  refine CallSpec.ofQF hη (CallSpec.enter (fr := (E s i).fr) (by kernel_rfl) ?_)
  exact walk_okT (h0 := H0 s i) hη hmix hreg (.steps 12 <| .bit 10 (.steps 2 <| .op <| .steps 3 <| .bit 16 (.steps 3 <| .op <| .call kN <| .steps 3 <| .bit 24 (.steps 3 <| .op <| .call kN <| .steps 5 <| .done none) (.steps 10 <| .done none)) (.steps 18 <| .done none)) (.steps 24 <| .done none)) (E s i) (by kernel_rfl) h (by kernel_rfl)
end REnc
namespace RTgt
set_option linter.unusedVariables false
noncomputable def bd : Code := (Go.Proofs.Tryz.f71.body).getD .skip
noncomputable def H0 (s : List UInt8) : AH := { objs := nZ, next := 126 }
noncomputable def E (s : List UInt8) : AS := ⟨⟨71, 52, nN (some (Value.string ⟨⟨s⟩⟩)) nZ nZ, [Item.code (codeAt bd [])], [], FrameMode.run, CallKind.normal, none⟩, [], ⟨nZ, 126⟩⟩
noncomputable def S0 (s : List UInt8) (i0 : Int) (i1 : Int) (d : Nat → Value) : AS := ⟨⟨71, 52, nN (some (Value.string ⟨⟨s⟩⟩)) (nN (some (d 1)) (nN (some (d 3)) (nN (some (d 7)) (nN (some (d 15)) (nN (some (d 31)) nZ nZ) (nN (some (d 47)) nZ nZ)) (nN (some (d 23)) (nN (some (d 39)) nZ nZ) nZ)) (nN (some (d 11)) (nN (some (d 19)) (nN (some (d 35)) nZ nZ) (nN (some (d 51)) nZ nZ)) (nN (some (d 27)) (nN (some (d 43)) nZ nZ) nZ))) (nN (some (Value.int IntKind.i64 i0)) (nN (some (d 9)) (nN (some (d 17)) (nN (some (d 33)) nZ nZ) (nN (some (d 49)) nZ nZ)) (nN (some (d 25)) (nN (some (d 41)) nZ nZ) nZ)) (nN (some (d 13)) (nN (some (d 21)) (nN (some (d 37)) nZ nZ) nZ) (nN (some (d 29)) (nN (some (d 45)) nZ nZ) nZ)))) (nN (some (d 2)) (nN (some (Value.int IntKind.i64 i1)) (nN (some (d 8)) (nN (some (d 16)) (nN (some (d 32)) nZ nZ) (nN (some (d 48)) nZ nZ)) (nN (some (d 24)) (nN (some (d 40)) nZ nZ) nZ)) (nN (some (d 12)) (nN (some (d 20)) (nN (some (d 36)) nZ nZ) nZ) (nN (some (d 28)) (nN (some (d 44)) nZ nZ) nZ))) (nN (some (d 6)) (nN (some (d 10)) (nN (some (d 18)) (nN (some (d 34)) nZ nZ) (nN (some (d 50)) nZ nZ)) (nN (some (d 26)) (nN (some (d 42)) nZ nZ) nZ)) (nN (some (d 14)) (nN (some (d 22)) (nN (some (d 38)) nZ nZ) nZ) (nN (some (d 30)) (nN (some (d 46)) nZ nZ) nZ)))), [Item.code (codeAt bd [1, 1, 1, 1, 0, 1, 0, 0]), Item.inLoop (codeAt bd [1, 1, 1, 1, 0, 1, 0, 0]), Item.inBlock 0, Item.code (codeAt bd [1, 1, 1, 1, 1])], [], FrameMode.run, CallKind.normal, none⟩, [], ⟨nZ, 126⟩⟩
theorem enter {η : Nat → Value} {B : Bd} (hη : OneCells η) (hmix : prog.follows .mixedOrders = true) (hreg : RegOk η prog B noNest) {D : Value → AH → Prop} (s : List UInt8) (h : W.holds η prog B 71 (fun kp_ st_ => RunD η prog B 71 (H0 s) kp_ st_ (QF prog 126 D)) D (.ite (decide ((↑s.length : Int) > (500 : Int))) (.done 71 (Value.tuple ⟨[Value.int IntKind.i64 0, Value.int IntKind.i64 3]⟩) (H0 s)) (.ite (s == #[].toList) (.done 71 (Value.tuple ⟨[Value.int IntKind.i64 0, Value.int IntKind.i64 6]⟩) (H0 s)) (.need ((0 : Int) ≤ (0 : Int) ∧ (0 : Int) < (↑s.length : Int)) (.ite (byteAt s (0 : Int) != (47 : Int)) (.done 71 (Value.tuple ⟨[Value.int IntKind.i64 0, Value.int IntKind.i64 6]⟩) (H0 s)) (.stop [0, 4, 5] (S0 s (0) ((↑s.length : Int)) (fun _ => undef)))))))) : CallSpec η prog B 71 [Value.string ⟨⟨s⟩⟩] (H0 s) D := by
  refine CallSpec.ofQF hη (CallSpec.enter (fr := (E s).fr) (by kernel_rfl) ?_)
  exact walk_okT (h0 := H0 s) hη hmix hreg (.steps 12 <| .bit 8 (.steps 7 <| .done none) (.steps 8 <| .bit 11 (.steps 12 <| .done none) (.steps 1 <| .op <| .steps 3 <| .bit 15 (.steps 7 <| .done none) (.steps 15 <| .stop [0, 4, 5] none)))) (E s) (by kernel_rfl) h (by kernel_rfl)
theorem cut0 {η : Nat → Value} {B : Bd} (hη : OneCells η) (hmix : prog.follows .mixedOrders = true) (hreg : RegOk η prog B noNest) {D : Value → AH → Prop} (s : List UInt8) (i0 : Int) (i1 : Int) (h : W.holds η prog B 71 (fun kp_ st_ => RunD η prog B 71 (H0 s) kp_ st_ (QF prog 126 D)) D (.ite (decide (i0 < (↑s.length : Int))) (.need ((0 : Int) ≤ i0 ∧ i0 < (↑s.length : Int)) (.ite (byteAt s i0 == (63 : Int)) (.stop [0, 4, 5] (S0 s (IntKind.i64.wrap (i0 + 1)) (if (if false = true then decide (i0 > i1) else decide (i0 < i1)) = true then i0 else i1) (fun _ => undef))) (.call 114 [Value.string ⟨⟨s⟩⟩, Value.int IntKind.i64 i0] (⟨nZ, 126⟩) (.ret (Value.bool (TR.encB (List.drop i0.toNat s))) (⟨nZ, 126⟩)) (.ite (TR.encB (List.drop i0.toNat s)) (.stop [0, 4, 5] (S0 s (IntKind.i64.wrap (IntKind.i64.wrap (i0 + 2) + 1)) (i1) (fun _ => undef))) (.need ((0 : Int) ≤ i0 ∧ i0 < (↑s.length : Int)) (.call 115 [Value.int IntKind.u8 (byteAt s i0)] (⟨nZ, 126⟩) (.ret (Value.bool (TR.plnB (UInt8.ofNat (byteAt s i0).toNat))) (⟨nZ, 126⟩)) (.ite (!TR.plnB (UInt8.ofNat (byteAt s i0).toNat)) (.need ((0 : Int) ≤ i0 ∧ i0 < (↑s.length : Int)) (.call 116 [Value.int IntKind.u8 (byteAt s i0), Value.string ⟨#[OfNat.ofNat 33, OfNat.ofNat 36, OfNat.ofNat 38, OfNat.ofNat 39, OfNat.ofNat 40, OfNat.ofNat 41, OfNat.ofNat 42, OfNat.ofNat 43, OfNat.ofNat 44, OfNat.ofNat 59, OfNat.ofNat 61, OfNat.ofNat 58, OfNat.ofNat 64, OfNat.ofNat 47]⟩] (⟨nZ, 126⟩) (.ret (Value.bool (TR.resB (UInt8.ofNat (byteAt s i0).toNat))) (⟨nZ, 126⟩)) (.ite (!TR.resB (UInt8.ofNat (byteAt s i0).toNat)) (.done 71 (Value.tuple ⟨[Value.int IntKind.i64 0, Value.int IntKind.i64 6]⟩) (H0 s)) (.stop [0, 4, 5] (S0 s (IntKind.i64.wrap (i0 + 1)) (i1) (fun _ => undef)))))) (.stop [0, 4, 5] (S0 s (IntKind.i64.wrap (i0 + 1)) (i1) (fun _ => undef)))))))))) (.done 71 (Value.tuple ⟨[Value.int IntKind.i64 i1, Value.int IntKind.i64 0]⟩) (H0 s)))) : RunD η prog B 71 (H0 s) [0, 4, 5] (S0 s i0 i1 fun _ => undef) (QF prog 126 D) := by
  refine RunD.intro (S0 s i0 i1) (fun d => ⟨rfl, rfl, rfl⟩) (fun d => tmOk_get (by kernel_rfl)) (fun d => by kernel_rfl) (fun d => ?_)
  exact walk_okT (h0 := H0 s) hη hmix hreg (.steps 8 <| .bit 21 (.steps 9 <| .op <| .steps 3 <| .bit 24 (.steps 15 <| .stop [0, 4, 5] none) (.steps 5 <| .call kN <| .steps 2 <| .bit 32 (.steps 14 <| .stop [0, 4, 5] none) (.steps 5 <| .op <| .call kN <| .steps 2 <| .bit 44 (.steps 2 <| .op <| .call kN <| .steps 4 <| .bit 38 (.steps 7 <| .done none) (.steps 10 <| .stop [0, 4, 5] none)) (.steps 18 <| .stop [0, 4, 5] none)))) (.steps 9 <| .done none)) (S0 s i0 i1 d) (by kernel_rfl) h (by kernel_rfl)
end RTgt
namespace RSpl
set_option linter.unusedVariables false
noncomputable def bd : Code := (Go.Proofs.Tryz.f29.body).getD .skip
noncomputable def H0 (s : List UInt8) : AH := { objs := nZ, next := 126 }
noncomputable def E (s : List UInt8) : AS := ⟨⟨29, 28, nN (some (Value.string ⟨⟨s⟩⟩)) nZ nZ, [Item.code (codeAt bd [])], [], FrameMode.run, CallKind.normal, none⟩, [], ⟨nZ, 126⟩⟩
theorem enter {η : Nat → Value} {B : Bd} (hη : OneCells η) (hmix : prog.follows .mixedOrders = true) (hreg : RegOk η prog B noNest) {D : Value → AH → Prop} (s : List UInt8) (h : W.holds η prog B 29 (fun kp_ st_ => RunD η prog B 29 (H0 s) kp_ st_ (QF prog 126 D)) D (.call 71 [Value.string ⟨⟨s⟩⟩] (⟨nZ, 126⟩) (.ret (Value.tuple ⟨[Value.int IntKind.i64 (TR.tgtM s), Value.int IntKind.i64 (TR.tgtE s)]⟩) (⟨nZ, 126⟩)) (.ite (TR.tgtE s != (0 : Int)) (.done 29 (Value.tuple ⟨[Value.string ⟨#[]⟩, Value.string ⟨#[]⟩, Value.bool false, Value.int IntKind.i64 (TR.tgtE s)]⟩) (H0 s)) (.ite (TR.tgtM s == (↑s.length : Int)) (.done 29 (Value.tuple ⟨[Value.string ⟨⟨s⟩⟩, Value.string ⟨#[]⟩, Value.bool false, Value.int IntKind.i64 0]⟩) (H0 s)) (.need ((0 : Int) ≤ (0 : Int) ∧ (0 : Int) ≤ TR.tgtM s ∧ TR.tgtM s ≤ (↑s.length : Int)) (.need ((0 : Int) ≤ IntKind.i64.wrap (TR.tgtM s + (1 : Int)) ∧ IntKind.i64.wrap (TR.tgtM s + (1 : Int)) ≤ (↑s.length : Int) ∧ (↑s.length : Int) ≤ (↑s.length : Int)) (.need (True) (.done 29 (Value.tuple ⟨[Value.string ⟨⟨List.take ((TR.tgtM s).toNat - 0) (List.drop 0 s)⟩⟩, Value.string ⟨⟨List.take ((↑s.length : Int).toNat - (IntKind.i64.wrap (TR.tgtM s + 1)).toNat) (List.drop (IntKind.i64.wrap (TR.tgtM s + 1)).toNat s)⟩⟩, Value.bool true, Value.int IntKind.i64 0]⟩) (H0 s))))))))) : CallSpec η prog B 29 [Value.string ⟨⟨s⟩⟩] (H0 s) D := by
  refine CallSpec.ofQF hη (CallSpec.enter (fr := (E s).fr) (by kernel_rfl) ?_)
  exact walk_okT (h0 := H0 s) hη hmix hreg (.steps 10 <| .call kN <| .steps 12 <| .bit 14 (.steps 10 <| .done none) (.steps 10 <| .bit 19 (.steps 10 <| .done none) (.steps 3 <| .reg <| .steps 2 <| .op <| .steps 3 <| .op <| .steps 4 <| .reg <| .steps 1 <| .done (some ⟨126, [], []⟩)))) (E s) (by kernel_rfl) h (by kernel_rfl)
end RSpl
namespace RDec
set_option linter.unusedVariables false
noncomputable def bd : Code := (Go.Proofs.Tryz.f74.body).getD .skip
noncomputable def H0 (s : List UInt8) : AH := { objs := nZ, next := 126 }
noncomputable def E (s : List UInt8) : AS := ⟨⟨74, 54, nN (some (Value.string ⟨⟨s⟩⟩)) nZ nZ, [Item.code (codeAt bd [])], [], FrameMode.run, CallKind.normal, none⟩, [], ⟨nZ, 126⟩⟩
noncomputable def S0 (s : List UInt8)  (d : Nat → Value) : AS := ⟨⟨74, 54, nN (some (Value.string ⟨⟨s⟩⟩)) (nN (some (d 1)) (nN (some (Value.slice none 0 0)) (nN (some (d 7)) (nN (some (d 15)) (nN (some (d 31)) nZ nZ) (nN (some (d 47)) nZ nZ)) (nN (some (d 23)) (nN (some (d 39)) nZ nZ) nZ)) (nN (some (d 11)) (nN (some (d 19)) (nN (some (d 35)) nZ nZ) (nN (some (d 51)) nZ nZ)) (nN (some (d 27)) (nN (some (d 43)) nZ nZ) nZ))) (nN (some (d 5)) (nN (some (d 9)) (nN (some (d 17)) (nN (some (d 33)) nZ nZ) (nN (some (d 49)) nZ nZ)) (nN (some (d 25)) (nN (some (d 41)) nZ nZ) nZ)) (nN (some (d 13)) (nN (some (d 21)) (nN (some (d 37)) nZ nZ) (nN (some (d 53)) nZ nZ)) (nN (some (d 29)) (nN (some (d 45)) nZ nZ) nZ)))) (nN (some (d 2)) (nN (some (Value.int IntKind.i64 0)) (nN (some (d 8)) (nN (some (d 16)) (nN (some (d 32)) nZ nZ) (nN (some (d 48)) nZ nZ)) (nN (some (d 24)) (nN (some (d 40)) nZ nZ) nZ)) (nN (some (d 12)) (nN (some (d 20)) (nN (some (d 36)) nZ nZ) (nN (some (d 52)) nZ nZ)) (nN (some (d 28)) (nN (some (d 44)) nZ nZ) nZ))) (nN (some (d 6)) (nN (some (d 10)) (nN (some (d 18)) (nN (some (d 34)) nZ nZ) (nN (some (d 50)) nZ nZ)) (nN (some (d 26)) (nN (some (d 42)) nZ nZ) nZ)) (nN (some (d 14)) (nN (some (d 22)) (nN (some (d 38)) nZ nZ) nZ) (nN (some (d 30)) (nN (some (d 46)) nZ nZ) nZ)))), [Item.code (codeAt bd [1, 1, 0, 1, 0, 0]), Item.inLoop (codeAt bd [1, 1, 0, 1, 0, 0]), Item.inBlock 0, Item.code (codeAt bd [1, 1, 1])], [], FrameMode.run, CallKind.normal, none⟩, [], ⟨nZ, 126⟩⟩
noncomputable def S1 (s : List UInt8) (i0 : Int) (l0 : List Value) (n0 : Nat) (d : Nat → Value) : AS := ⟨⟨74, 54, nN (some (Value.string ⟨⟨s⟩⟩)) (nN (some (d 1)) (nN (some (Value.slice (some ⟨126, 0, none⟩) n0 9223372036854775809)) (nN (some (d 7)) (nN (some (d 15)) (nN (some (d 31)) nZ nZ) (nN (some (d 47)) nZ nZ)) (nN (some (d 23)) (nN (some (d 39)) nZ nZ) nZ)) (nN (some (d 11)) (nN (some (d 19)) (nN (some (d 35)) nZ nZ) (nN (some (d 51)) nZ nZ)) (nN (some (d 27)) (nN (some (d 43)) nZ nZ) nZ))) (nN (some (d 5)) (nN (some (d 9)) (nN (some (d 17)) (nN (some (d 33)) nZ nZ) (nN (some (d 49)) nZ nZ)) (nN (some (d 25)) (nN (some (d 41)) nZ nZ) nZ)) (nN (some (d 13)) (nN (some (d 21)) (nN (some (d 37)) nZ nZ) (nN (some (d 53)) nZ nZ)) (nN (some (d 29)) (nN (some (d 45)) nZ nZ) nZ)))) (nN (some (d 2)) (nN (some (Value.int IntKind.i64 i0)) (nN (some (d 8)) (nN (some (d 16)) (nN (some (d 32)) nZ nZ) (nN (some (d 48)) nZ nZ)) (nN (some (d 24)) (nN (some (d 40)) nZ nZ) nZ)) (nN (some (d 12)) (nN (some (d 20)) (nN (some (d 36)) nZ nZ) (nN (some (d 52)) nZ nZ)) (nN (some (d 28)) (nN (some (d 44)) nZ nZ) nZ))) (nN (some (d 6)) (nN (some (d 10)) (nN (some (d 18)) (nN (some (d 34)) nZ nZ) (nN (some (d 50)) nZ nZ)) (nN (some (d 26)) (nN (some (d 42)) nZ nZ) nZ)) (nN (some (d 14)) (nN (some (d 22)) (nN (some (d 38)) nZ nZ) nZ) (nN (some (d 30)) (nN (some (d 46)) nZ nZ) nZ)))), [Item.code (codeAt bd [1, 1, 0, 1, 0, 0]), Item.inLoop (codeAt bd [1, 1, 0, 1, 0, 0]), Item.inBlock 0, Item.code (codeAt bd [1, 1, 1])], [], FrameMode.run, CallKind.normal, none⟩, [], ⟨nN none nZ (nN none nZ (nN none nZ (nN none nZ (nN none nZ (nN none nZ (nN (some (AObj.cells 5 l0 false 2)) nZ nZ)))))), 127⟩⟩
theorem enter {η : Nat → Value} {B : Bd} (hη : OneCells η) (hmix : prog.follows .mixedOrders = true) (hreg : RegOk η prog B noNest) {D : Value → AH → Prop} (s : List UInt8) (h : W.holds η prog B 74 (fun kp_ st_ => RunD η prog B 74 (H0 s) kp_ st_ (QF prog 126 D)) D (.stop [0, 3, 4] (S0 s  (fun _ => undef)))) : CallSpec η prog B 74 [Value.string ⟨⟨s⟩⟩] (H0 s) D := by
  refine CallSpec.ofQF hη (CallSpec.enter (fr := (E s).fr) (by kernel_rfl) ?_)
  exact walk_okT (h0 := H0 s) hη hmix hreg (.steps 15 <| .stop [0, 3, 4] none) (E s) (by kernel_rfl) h (by kernel_rfl)
theorem cut0 {η : Nat → Value} {B : Bd} (hη : OneCells η) (hmix : prog.follows .mixedOrders = true) (hreg : RegOk η prog B noNest) {D : Value → AH → Prop} (s : List UInt8)  (h : W.holds η prog B 74 (fun kp_ st_ => RunD η prog B 74 (H0 s) kp_ st_ (QF prog 126 D)) D (.ite (decide ((0 : Int) < (↑s.length : Int))) (.call 114 [Value.string ⟨⟨s⟩⟩, Value.int IntKind.i64 0] (⟨nZ, 126⟩) (.ret (Value.bool (TR.encB (List.drop 0 s))) (⟨nZ, 126⟩)) (.ite (!TR.encB (List.drop (0 : Nat) s)) (.need ((0 : Int) ≤ (0 : Int) ∧ (0 : Int) < (↑s.length : Int)) (.need (True ∧ True) (.stop [0, 3, 4] (S1 s (1) ([Value.int IntKind.u8 (byteAt s 0)]) (1) (fun _ => undef))))) (.need ((0 : Int) ≤ (1 : Int) ∧ (1 : Int) < (↑s.length : Int)) (.call 119 [Value.int IntKind.u8 (byteAt s 1)] (⟨nZ, 140⟩) (.ret (Value.int IntKind.i64 (TR.hexN (byteAt s 1).toNat)) (⟨nZ, 140⟩)) (.need (True ∧ (⟨nZ, 140⟩ : AH) = (⟨nZ, 140⟩)) (.need ((0 : Int) ≤ (2 : Int) ∧ (2 : Int) < (↑s.length : Int)) (.call 119 [Value.int IntKind.u8 (byteAt s 2)] (⟨nZ, 140⟩) (.ret (Value.int IntKind.i64 (TR.hexN (byteAt s 2).toNat)) (⟨nZ, 140⟩)) (.need (consM 119 ([Value.int IntKind.u8 (byteAt s 2)]) (⟨nZ, 140⟩) (Value.int IntKind.i64 (TR.hexN (byteAt s 2).toNat)) (⟨nZ, 140⟩) [⟨119, [Value.int IntKind.u8 (byteAt s 1)], ⟨nZ, 140⟩, Value.int IntKind.i64 (TR.hexN (byteAt s 1).toNat), ⟨nZ, 140⟩⟩] ∧ (⟨nZ, 140⟩ : AH) = (⟨nZ, 140⟩)) (.call 115 [Value.int IntKind.u8 (IntKind.u8.wrap (IntKind.i64.wrap (IntKind.i64.wrap (16 * TR.hexN (byteAt s 1).toNat) + TR.hexN (byteAt s 2).toNat)))] (⟨nZ, 140⟩) (.ret (Value.bool (TR.plnB (UInt8.ofNat (IntKind.u8.wrap (IntKind.i64.wrap (IntKind.i64.wrap (16 * TR.hexN (byteAt s 1).toNat) + TR.hexN (byteAt s 2).toNat))).toNat))) (⟨nZ, 140⟩)) (.ite (TR.plnB (UInt8.ofNat (IntKind.u8.wrap (IntKind.i64.wrap (IntKind.i64.wrap ((16 : Int) * TR.hexN (byteAt s (1 : Int)).toNat) + TR.hexN (byteAt s (2 : Int)).toNat))).toNat)) (.need (True ∧ True) (.stop [0, 3, 4] (S1 s (3) ([Value.int IntKind.u8 (IntKind.u8.wrap (IntKind.i64.wrap (IntKind.i64.wrap (16 * TR.hexN (byteAt s 1).toNat) + TR.hexN (byteAt s 2).toNat)))]) (1) (fun _ => undef)))) (.need ((0 : Int) ≤ IntKind.u8.wrap ((IntKind.u8.wrap (IntKind.i64.wrap (IntKind.i64.wrap ((16 : Int) * TR.hexN (byteAt s (1 : Int)).toNat) + TR.hexN (byteAt s (2 : Int)).toNat))).tdiv (16 : Int)) ∧ IntKind.u8.wrap ((IntKind.u8.wrap (IntKind.i64.wrap (IntKind.i64.wrap ((16 : Int) * TR.hexN (byteAt s (1 : Int)).toNat) + TR.hexN (byteAt s (2 : Int)).toNat))).tdiv (16 : Int)) < (16 : Int)) (.need ((0 : Int) ≤ (IntKind.u8.wrap (IntKind.i64.wrap (IntKind.i64.wrap ((16 : Int) * TR.hexN (byteAt s (1 : Int)).toNat) + TR.hexN (byteAt s (2 : Int)).toNat))).tmod (16 : Int) ∧ (IntKind.u8.wrap (IntKind.i64.wrap (IntKind.i64.wrap ((16 : Int) * TR.hexN (byteAt s (1 : Int)).toNat) + TR.hexN (byteAt s (2 : Int)).toNat))).tmod (16 : Int) < (16 : Int)) (.need (True ∧ True) (.stop [0, 3, 4] (S1 s (3) ([Value.int IntKind.u8 37, Value.int IntKind.u8 (byteAt #[OfNat.ofNat 48, OfNat.ofNat 49, OfNat.ofNat 50, OfNat.ofNat 51, OfNat.ofNat 52, OfNat.ofNat 53, OfNat.ofNat 54, OfNat.ofNat 55, OfNat.ofNat 56, OfNat.ofNat 57, OfNat.ofNat 65, OfNat.ofNat 66, OfNat.ofNat 67, OfNat.ofNat 68, OfNat.ofNat 69, OfNat.ofNat 70].toList (IntKind.u8.wrap ((IntKind.u8.wrap (IntKind.i64.wrap (IntKind.i64.wrap (16 * TR.hexN (byteAt s 1).toNat) + TR.hexN (byteAt s 2).toNat))).tdiv 16))), Value.int IntKind.u8 (byteAt #[OfNat.ofNat 48, OfNat.ofNat 49, OfNat.ofNat 50, OfNat.ofNat 51, OfNat.ofNat 52, OfNat.ofNat 53, OfNat.ofNat 54, OfNat.ofNat 55, OfNat.ofNat 56, OfNat.ofNat 57, OfNat.ofNat 65, OfNat.ofNat 66, OfNat.ofNat 67, OfNat.ofNat 68, OfNat.ofNat 69, OfNat.ofNat 70].toList ((IntKind.u8.wrap (IntKind.i64.wrap (IntKind.i64.wrap (16 * TR.hexN (byteAt s 1).toNat) + TR.hexN (byteAt s 2).toNat))).tmod 16))]) (3) (fun _ => undef)))))))))))))))) (.done 74 (Value.string ⟨#[]⟩) (H0 s)))) : RunD η prog B 74 (H0 s) [0, 3, 4] (S0 s  fun _ => undef) (QF prog 126 D) := by
  refine RunD.intro (S0 s ) (fun d => ⟨rfl, rfl, rfl⟩) (fun d => tmOk_get (by kernel_rfl)) (fun d => by kernel_rfl) (fun d => ?_)
  exact walk_okT (h0 := H0 s) hη hmix hreg (.steps 8 <| .bit 9 (.steps 9 <| .call kN <| .steps 2 <| .bit 15 (.steps 6 <| .op <| .steps 11 <| .stop [0, 3, 4] (some ⟨127, [(127, 126)], [(126, (127, false))]⟩)) (.steps 3 <| .regM [4, 10] <| .steps 3 <| .op <| .call kN <| .steps 4 <| .op <| .call kN <| .steps 3 <| .regM [4, 10] <| .steps 4 <| .call kN <| .steps 1 <| .bit 36 (.steps 20 <| .stop [0, 3, 4] (some ⟨127, [(141, 126)], [(126, (141, false))]⟩)) (.steps 1 <| .reg <| .steps 3 <| .op <| .steps 2 <| .op <| .steps 3 <| .reg <| .steps 12 <| .stop [0, 3, 4] (some ⟨127, [(150, 126)], [(126, (150, false))]⟩)))) (.steps 9 <| .done none)) (S0 s  d) (by kernel_rfl) h (by kernel_rfl)
noncomputable abbrev hcut1_0 (l0 : List Value) : AH := ⟨nN none nZ (nN none nZ (nN none nZ (nN none nZ (nN none nZ (nN none nZ (nN (some (AObj.cells 5 l0 false 2)) nZ nZ)))))), 127⟩
noncomputable abbrev hcut1_1 (l0 : List Value) : AH := ⟨nN none nZ (nN none nZ (nN none nZ (nN none nZ (nN none nZ (nN none nZ (nN (some (AObj.cells 5 l0 false 2)) nZ nZ)))))), 141⟩
theorem cut1 {η : Nat → Value} {B : Bd} (hη : OneCells η) (hmix : prog.follows .mixedOrders = true) (hreg : RegOk η prog B noNest) {D : Value → AH → Prop} (s : List UInt8) (i0 : Int) (l0 : List Value) (n0 : Nat) (h : W.holds η prog B 74 (fun kp_ st_ => RunD η prog B 74 (H0 s) kp_ st_ (QF prog 126 D)) D (.ite (decide (i0 < (↑s.length : Int))) (.call 114 [Value.string ⟨⟨s⟩⟩, Value.int IntKind.i64 i0] ((hcut1_0 l0)) (.ret (Value.bool (TR.encB (List.drop i0.toNat s))) ((hcut1_0 l0))) (.ite (!TR.encB (List.drop i0.toNat s)) (.need ((0 : Int) ≤ i0 ∧ i0 < (↑s.length : Int)) (.need ((1 : Nat) ≤ (1 : Nat) ∧ l0.length = n0 * (1 : Nat) ∧ n0 + (1 : Nat) ≤ (1000000 : Nat) ∧ (1 : Nat) = (1 : Nat) ∧ true = true) (.need (NoNames (l0 ++ [Value.int IntKind.u8 (byteAt s i0)]) ∧ True) (.stop [0, 3, 4] (S1 s (IntKind.i64.wrap (i0 + 1)) (l0 ++ [Value.int IntKind.u8 (byteAt s i0)]) (n0 + 1) (fun _ => undef)))))) (.need ((0 : Int) ≤ IntKind.i64.wrap (i0 + (1 : Int)) ∧ IntKind.i64.wrap (i0 + (1 : Int)) < (↑s.length : Int)) (.call 119 [Value.int IntKind.u8 (byteAt s (IntKind.i64.wrap (i0 + 1)))] ((hcut1_1 l0)) (.ret (Value.int IntKind.i64 (TR.hexN (byteAt s (IntKind.i64.wrap (i0 + 1))).toNat)) ((hcut1_1 l0))) (.need (True ∧ ((hcut1_1 l0) : AH) = ((hcut1_1 l0))) (.need ((0 : Int) ≤ IntKind.i64.wrap (i0 + (2 : Int)) ∧ IntKind.i64.wrap (i0 + (2 : Int)) < (↑s.length : Int)) (.call 119 [Value.int IntKind.u8 (byteAt s (IntKind.i64.wrap (i0 + 2)))] ((hcut1_1 l0)) (.ret (Value.int IntKind.i64 (TR.hexN (byteAt s (IntKind.i64.wrap (i0 + 2))).toNat)) ((hcut1_1 l0))) (.need (consM 119 ([Value.int IntKind.u8 (byteAt s (IntKind.i64.wrap (i0 + 2)))]) ((hcut1_1 l0)) (Value.int IntKind.i64 (TR.hexN (byteAt s (IntKind.i64.wrap (i0 + 2))).toNat)) ((hcut1_1 l0)) [⟨119, [Value.int IntKind.u8 (byteAt s (IntKind.i64.wrap (i0 + 1)))], (hcut1_1 l0), Value.int IntKind.i64 (TR.hexN (byteAt s (IntKind.i64.wrap (i0 + 1))).toNat), (hcut1_1 l0)⟩] ∧ ((hcut1_1 l0) : AH) = ((hcut1_1 l0))) (.call 115 [Value.int IntKind.u8 (IntKind.u8.wrap (IntKind.i64.wrap (IntKind.i64.wrap (16 * TR.hexN (byteAt s (IntKind.i64.wrap (i0 + 1))).toNat) + TR.hexN (byteAt s (IntKind.i64.wrap (i0 + 2))).toNat)))] ((hcut1_1 l0)) (.ret (Value.bool (TR.plnB (UInt8.ofNat (IntKind.u8.wrap (IntKind.i64.wrap (IntKind.i64.wrap (16 * TR.hexN (byteAt s (IntKind.i64.wrap (i0 + 1))).toNat) + TR.hexN (byteAt s (IntKind.i64.wrap (i0 + 2))).toNat))).toNat))) ((hcut1_1 l0))) (.ite (TR.plnB (UInt8.ofNat (IntKind.u8.wrap (IntKind.i64.wrap (IntKind.i64.wrap ((16 : Int) * TR.hexN (byteAt s (IntKind.i64.wrap (i0 + (1 : Int)))).toNat) + TR.hexN (byteAt s (IntKind.i64.wrap (i0 + (2 : Int)))).toNat))).toNat)) (.need ((1 : Nat) ≤ (1 : Nat) ∧ l0.length = n0 * (1 : Nat) ∧ n0 + (1 : Nat) ≤ (1000000 : Nat) ∧ (1 : Nat) = (1 : Nat) ∧ true = true) (.need (NoNames (l0 ++ [Value.int IntKind.u8 (IntKind.u8.wrap (IntKind.i64.wrap (IntKind.i64.wrap ((16 : Int) * TR.hexN (byteAt s (IntKind.i64.wrap (i0 + (1 : Int)))).toNat) + TR.hexN (byteAt s (IntKind.i64.wrap (i0 + (2 : Int)))).toNat)))]) ∧ True) (.stop [0, 3, 4] (S1 s (IntKind.i64.wrap (IntKind.i64.wrap (i0 + 2) + 1)) (l0 ++ [Value.int IntKind.u8 (IntKind.u8.wrap (IntKind.i64.wrap (IntKind.i64.wrap (16 * TR.hexN (byteAt s (IntKind.i64.wrap (i0 + 1))).toNat) + TR.hexN (byteAt s (IntKind.i64.wrap (i0 + 2))).toNat)))]) (n0 + 1) (fun _ => undef))))) (.need ((0 : Int) ≤ IntKind.u8.wrap ((IntKind.u8.wrap (IntKind.i64.wrap (IntKind.i64.wrap ((16 : Int) * TR.hexN (byteAt s (IntKind.i64.wrap (i0 + (1 : Int)))).toNat) + TR.hexN (byteAt s (IntKind.i64.wrap (i0 + (2 : Int)))).toNat))).tdiv (16 : Int)) ∧ IntKind.u8.wrap ((IntKind.u8.wrap (IntKind.i64.wrap (IntKind.i64.wrap ((16 : Int) * TR.hexN (byteAt s (IntKind.i64.wrap (i0 + (1 : Int)))).toNat) + TR.hexN (byteAt s (IntKind.i64.wrap (i0 + (2 : Int)))).toNat))).tdiv (16 : Int)) < (16 : Int)) (.need ((0 : Int) ≤ (IntKind.u8.wrap (IntKind.i64.wrap (IntKind.i64.wrap ((16 : Int) * TR.hexN (byteAt s (IntKind.i64.wrap (i0 + (1 : Int)))).toNat) + TR.hexN (byteAt s (IntKind.i64.wrap (i0 + (2 : Int)))).toNat))).tmod (16 : Int) ∧ (IntKind.u8.wrap (IntKind.i64.wrap (IntKind.i64.wrap ((16 : Int) * TR.hexN (byteAt s (IntKind.i64.wrap (i0 + (1 : Int)))).toNat) + TR.hexN (byteAt s (IntKind.i64.wrap (i0 + (2 : Int)))).toNat))).tmod (16 : Int) < (16 : Int)) (.need ((3 : Nat) ≤ (3 : Nat) ∧ l0.length = n0 * (1 : Nat) ∧ n0 + (3 : Nat) ≤ (1000000 : Nat) ∧ (3 : Nat) = (3 : Nat) ∧ true = true) (.need (NoNames (l0 ++ [Value.int IntKind.u8 (37 : Int), Value.int IntKind.u8 (byteAt #[OfNat.ofNat (48 : Nat), OfNat.ofNat (49 : Nat), OfNat.ofNat (50 : Nat), OfNat.ofNat (51 : Nat), OfNat.ofNat (52 : Nat), OfNat.ofNat (53 : Nat), OfNat.ofNat (54 : Nat), OfNat.ofNat (55 : Nat), OfNat.ofNat (56 : Nat), OfNat.ofNat (57 : Nat), OfNat.ofNat (65 : Nat), OfNat.ofNat (66 : Nat), OfNat.ofNat (67 : Nat), OfNat.ofNat (68 : Nat), OfNat.ofNat (69 : Nat), OfNat.ofNat (70 : Nat)].toList (IntKind.u8.wrap ((IntKind.u8.wrap (IntKind.i64.wrap (IntKind.i64.wrap ((16 : Int) * TR.hexN (byteAt s (IntKind.i64.wrap (i0 + (1 : Int)))).toNat) + TR.hexN (byteAt s (IntKind.i64.wrap (i0 + (2 : Int)))).toNat))).tdiv (16 : Int)))), Value.int IntKind.u8 (byteAt #[OfNat.ofNat (48 : Nat), OfNat.ofNat (49 : Nat), OfNat.ofNat (50 : Nat), OfNat.ofNat (51 : Nat), OfNat.ofNat (52 : Nat), OfNat.ofNat (53 : Nat), OfNat.ofNat (54 : Nat), OfNat.ofNat (55 : Nat), OfNat.ofNat (56 : Nat), OfNat.ofNat (57 : Nat), OfNat.ofNat (65 : Nat), OfNat.ofNat (66 : Nat), OfNat.ofNat (67 : Nat), OfNat.ofNat (68 : Nat), OfNat.ofNat (69 : Nat), OfNat.ofNat (70 : Nat)].toList ((IntKind.u8.wrap (IntKind.i64.wrap (IntKind.i64.wrap ((16 : Int) * TR.hexN (byteAt s (IntKind.i64.wrap (i0 + (1 : Int)))).toNat) + TR.hexN (byteAt s (IntKind.i64.wrap (i0 + (2 : Int)))).toNat))).tmod (16 : Int)))]) ∧ True) (.stop [0, 3, 4] (S1 s (IntKind.i64.wrap (IntKind.i64.wrap (i0 + 2) + 1)) (l0 ++ [Value.int IntKind.u8 37, Value.int IntKind.u8 (byteAt #[OfNat.ofNat 48, OfNat.ofNat 49, OfNat.ofNat 50, OfNat.ofNat 51, OfNat.ofNat 52, OfNat.ofNat 53, OfNat.ofNat 54, OfNat.ofNat 55, OfNat.ofNat 56, OfNat.ofNat 57, OfNat.ofNat 65, OfNat.ofNat 66, OfNat.ofNat 67, OfNat.ofNat 68, OfNat.ofNat 69, OfNat.ofNat 70].toList (IntKind.u8.wrap ((IntKind.u8.wrap (IntKind.i64.wrap (IntKind.i64.wrap (16 * TR.hexN (byteAt s (IntKind.i64.wrap (i0 + 1))).toNat) + TR.hexN (byteAt s (IntKind.i64.wrap (i0 + 2))).toNat))).tdiv 16))), Value.int IntKind.u8 (byteAt #[OfNat.ofNat 48, OfNat.ofNat 49, OfNat.ofNat 50, OfNat.ofNat 51, OfNat.ofNat 52, OfNat.ofNat 53, OfNat.ofNat 54, OfNat.ofNat 55, OfNat.ofNat 56, OfNat.ofNat 57, OfNat.ofNat 65, OfNat.ofNat 66, OfNat.ofNat 67, OfNat.ofNat 68, OfNat.ofNat 69, OfNat.ofNat 70].toList ((IntKind.u8.wrap (IntKind.i64.wrap (IntKind.i64.wrap (16 * TR.hexN (byteAt s (IntKind.i64.wrap (i0 + 1))).toNat) + TR.hexN (byteAt s (IntKind.i64.wrap (i0 + 2))).toNat))).tmod 16))]) (n0 + 3) (fun _ => undef))))))))))))))))) (.need ((0 : Nat) + n0 ≤ l0.length ∧ bytesOf (List.take n0 l0) = Except.ok (bytesIn l0 (0 : Nat) n0)) (.need (True) (.done 74 (Value.string ⟨⟨bytesIn l0 0 n0⟩⟩) (H0 s)))))) : RunD η prog B 74 (H0 s) [0, 3, 4] (S1 s i0 l0 n0 fun _ => undef) (QF prog 126 D) := by
  refine RunD.intro (S1 s i0 l0 n0) (fun d => ⟨rfl, rfl, rfl⟩) (fun d => tmOk_get (by kernel_rfl)) (fun d => by kernel_rfl) (fun d => ?_)
  exact walk_okT (h0 := H0 s) hη hmix hreg (.steps 8 <| .bit 9 (.steps 9 <| .call kN <| .steps 2 <| .bit 15 (.steps 6 <| .op <| .steps 1 <| .op <| .steps 9 <| .stop [0, 3, 4] (some ⟨127, [(128, 126)], [(126, (128, true))]⟩)) (.steps 3 <| .regM [4, 10] <| .steps 3 <| .op <| .call kN <| .steps 4 <| .op <| .call kN <| .steps 3 <| .regM [4, 10] <| .steps 4 <| .call kN <| .steps 1 <| .bit 36 (.steps 5 <| .op <| .steps 14 <| .stop [0, 3, 4] (some ⟨127, [(142, 126)], [(126, (142, true))]⟩)) (.steps 1 <| .reg <| .steps 3 <| .op <| .steps 2 <| .op <| .steps 1 <| .op <| .steps 1 <| .reg <| .steps 12 <| .stop [0, 3, 4] (some ⟨127, [(151, 126)], [(126, (151, true))]⟩)))) (.steps 5 <| .op <| .steps 3 <| .done (some ⟨126, [], []⟩))) (S1 s i0 l0 n0 d) (by kernel_rfl) h (by kernel_rfl)
end RDec
namespace RSeg
set_option linter.unusedVariables false
noncomputable def bd : Code := (Go.Proofs.Tryz.f73.body).getD .skip
noncomputable def H0 (s : List UInt8) : AH := { objs := nZ, next := 126 }
noncomputable def E (s : List UInt8) : AS := ⟨⟨73, 31, nN (some (Value.string ⟨⟨s⟩⟩)) nZ nZ, [Item.code (codeAt bd [])], [], FrameMode.run, CallKind.normal, none⟩, [], ⟨nZ, 126⟩⟩
noncomputable def S0 (s : List UInt8) (i0 : Int) (d : Nat → Value) : AS := ⟨⟨73, 31, nN (some (Value.string ⟨⟨s⟩⟩)) (nN (some (d 1)) (nN (some (Value.slice none 0 0)) (nN (some (d 7)) (nN (some (d 15)) nZ nZ) (nN (some (d 23)) nZ nZ)) (nN (some (d 11)) (nN (some (d 19)) nZ nZ) (nN (some (d 27)) nZ nZ))) (nN (some (Value.int IntKind.i64 i0)) (nN (some (d 9)) (nN (some (d 17)) nZ nZ) (nN (some (d 25)) nZ nZ)) (nN (some (d 13)) (nN (some (d 21)) nZ nZ) (nN (some (d 29)) nZ nZ)))) (nN (some (d 2)) (nN (some (Value.int IntKind.i64 1)) (nN (some (d 8)) (nN (some (d 16)) nZ nZ) (nN (some (d 24)) nZ nZ)) (nN (some (d 12)) (nN (some (d 20)) nZ nZ) (nN (some (d 28)) nZ nZ))) (nN (some (d 6)) (nN (some (d 10)) (nN (some (d 18)) nZ nZ) (nN (some (d 26)) nZ nZ)) (nN (some (d 14)) (nN (some (d 22)) nZ nZ) (nN (some (d 30)) nZ nZ)))), [Item.code (codeAt bd [1, 1, 1, 0, 1, 0, 0]), Item.inLoop (codeAt bd [1, 1, 1, 0, 1, 0, 0]), Item.inBlock 0, Item.code (codeAt bd [1, 1, 1, 1])], [], FrameMode.run, CallKind.normal, none⟩, [], ⟨nZ, 126⟩⟩
noncomputable def S1 (s : List UInt8) (n0 : Nat) (i0 : Int) (i1 : Int) (l0 : List Value) (d : Nat → Value) : AS := ⟨⟨73, 31, nN (some (Value.string ⟨⟨s⟩⟩)) (nN (some (d 1)) (nN (some (Value.slice (some ⟨126, 0, none⟩) n0 9223372036854775809)) (nN (some (d 7)) (nN (some (d 15)) nZ nZ) (nN (some (d 23)) nZ nZ)) (nN (some (d 11)) (nN (some (d 19)) nZ nZ) (nN (some (d 27)) nZ nZ))) (nN (some (Value.int IntKind.i64 i0)) (nN (some (d 9)) (nN (some (d 17)) nZ nZ) (nN (some (d 25)) nZ nZ)) (nN (some (d 13)) (nN (some (d 21)) nZ nZ) (nN (some (d 29)) nZ nZ)))) (nN (some (d 2)) (nN (some (Value.int IntKind.i64 i1)) (nN (some (d 8)) (nN (some (d 16)) nZ nZ) (nN (some (d 24)) nZ nZ)) (nN (some (d 12)) (nN (some (d 20)) nZ nZ) (nN (some (d 28)) nZ nZ))) (nN (some (d 6)) (nN (some (d 10)) (nN (some (d 18)) nZ nZ) (nN (some (d 26)) nZ nZ)) (nN (some (d 14)) (nN (some (d 22)) nZ nZ) (nN (some (d 30)) nZ nZ)))), [Item.code (codeAt bd [1, 1, 1, 0, 1, 0, 0]), Item.inLoop (codeAt bd [1, 1, 1, 0, 1, 0, 0]), Item.inBlock 0, Item.code (codeAt bd [1, 1, 1, 1])], [], FrameMode.run, CallKind.normal, none⟩, [], ⟨nN none nZ (nN none nZ (nN none nZ (nN none nZ (nN none nZ (nN none nZ (nN (some (AObj.cells 9 l0 false 2)) nZ nZ)))))), 127⟩⟩
theorem enter {η : Nat → Value} {B : Bd} (hη : OneCells η) (hmix : prog.follows .mixedOrders = true) (hreg : RegOk η prog B noNest) {D : Value → AH → Prop} (s : List UInt8) (h : W.holds η prog B 73 (fun kp_ st_ => RunD η prog B 73 (H0 s) kp_ st_ (QF prog 126 D)) D (.stop [0, 3, 4, 5] (S0 s (1) (fun _ => undef)))) : CallSpec η prog B 73 [Value.string ⟨⟨s⟩⟩] (H0 s) D := by
  refine CallSpec.ofQF hη (CallSpec.enter (fr := (E s).fr) (by kernel_rfl) ?_)
  exact walk_okT (h0 := H0 s) hη hmix hreg (.steps 19 <| .stop [0, 3, 4, 5] none) (E s) (by kernel_rfl) h (by kernel_rfl)
theorem cut0 {η : Nat → Value} {B : Bd} (hη : OneCells η) (hmix : prog.follows .mixedOrders = true) (hreg : RegOk η prog B noNest) {D : Value → AH → Prop} (s : List UInt8) (i0 : Int) (h : W.holds η prog B 73 (fun kp_ st_ => RunD η prog B 73 (H0 s) kp_ st_ (QF prog 126 D)) D (.ite (decide (i0 < (↑s.length : Int))) (.need ((0 : Int) ≤ i0 ∧ i0 < (↑s.length : Int)) (.ite (byteAt s i0 == (47 : Int)) (.need ((0 : Int) ≤ (1 : Int) ∧ (1 : Int) ≤ i0 ∧ i0 ≤ (↑s.length : Int)) (.need (True ∧ True) (.stop [0, 3, 4, 5] (S1 s (1) (IntKind.i64.wrap (i0 + 1)) (IntKind.i64.wrap (i0 + 1)) ([Value.string ⟨⟨List.take (i0.toNat - 1) (List.drop 1 s)⟩⟩]) (fun _ => undef))))) (.stop [0, 3, 4, 5] (S0 s (IntKind.i64.wrap (i0 + 1)) (fun _ => undef))))) (.need ((0 : Int) ≤ (1 : Int) ∧ (1 : Int) ≤ (↑s.length : Int) ∧ (↑s.length : Int) ≤ (↑s.length : Int)) (.need (True ∧ True) (.done 73 (Value.slice (some ⟨126, 0, none⟩) 1 9223372036854775809) (⟨nN none nZ (nN none nZ (nN none nZ (nN none nZ (nN none nZ (nN none nZ (nN (some (AObj.cells 9 [Value.string ⟨⟨List.take ((↑s.length : Int).toNat - 1) (List.drop 1 s)⟩⟩] false 2)) nZ nZ)))))), 127⟩)))))) : RunD η prog B 73 (H0 s) [0, 3, 4, 5] (S0 s i0 fun _ => undef) (QF prog 126 D) := by
  refine RunD.intro (S0 s i0) (fun d => ⟨rfl, rfl, rfl⟩) (fun d => tmOk_get (by kernel_rfl)) (fun d => by kernel_rfl) (fun d => ?_)
  exact walk_okT (h0 := H0 s) hη hmix hreg (.steps 8 <| .bit 9 (.steps 8 <| .op <| .steps 2 <| .bit 15 (.steps 7 <| .op <| .steps 16 <| .stop [0, 3, 4, 5] (some ⟨127, [(127, 126)], [(126, (127, false))]⟩)) (.steps 9 <| .stop [0, 3, 4, 5] none)) (.steps 7 <| .op <| .steps 5 <| .done (some ⟨127, [(127, 126)], [(126, (127, false))]⟩))) (S0 s i0 d) (by kernel_rfl) h (by kernel_rfl)
theorem cut1 {η : Nat → Value} {B : Bd} (hη : OneCells η) (hmix : prog.follows .mixedOrders = true) (hreg : RegOk η prog B noNest) {D : Value → AH → Prop} (s : List UInt8) (n0 : Nat) (i0 : Int) (i1 : Int) (l0 : List Value) (h : W.holds η prog B 73 (fun kp_ st_ => RunD η prog B 73 (H0 s) kp_ st_ (QF prog 126 D)) D (.ite (decide (i0 < (↑s.length : Int))) (.need ((0 : Int) ≤ i0 ∧ i0 < (↑s.length : Int)) (.ite (byteAt s i0 == (47 : Int)) (.need ((0 : Int) ≤ i1 ∧ i1 ≤ i0 ∧ i0 ≤ (↑s.length : Int)) (.need ((1 : Nat) ≤ (1 : Nat) ∧ l0.length = n0 * (1 : Nat) ∧ n0 + (1 : Nat) ≤ (1000000 : Nat) ∧ (1 : Nat) = (1 : Nat) ∧ true = true) (.need (NoNames (l0 ++ [Value.string ⟨⟨List.take (i0.toNat - i1.toNat) (List.drop i1.toNat s)⟩⟩]) ∧ True) (.stop [0, 3, 4, 5] (S1 s (n0 + 1) (IntKind.i64.wrap (i0 + 1)) (IntKind.i64.wrap (i0 + 1)) (l0 ++ [Value.string ⟨⟨List.take (i0.toNat - i1.toNat) (List.drop i1.toNat s)⟩⟩]) (fun _ => undef)))))) (.stop [0, 3, 4, 5] (S1 s (n0) (IntKind.i64.wrap (i0 + 1)) (i1) (l0) (fun _ => undef))))) (.need ((0 : Int) ≤ i1 ∧ i1 ≤ (↑s.length : Int) ∧ (↑s.length : Int) ≤ (↑s.length : Int)) (.need ((1 : Nat) ≤ (1 : Nat) ∧ l0.length = n0 * (1 : Nat) ∧ n0 + (1 : Nat) ≤ (1000000 : Nat) ∧ (1 : Nat) = (1 : Nat) ∧ true = true) (.need (NoNames (l0 ++ [Value.string ⟨⟨List.take ((↑s.length : Int).toNat - i1.toNat) (List.drop i1.toNat s)⟩⟩]) ∧ True) (.done 73 (Value.slice (some ⟨126, 0, none⟩) (n0 + 1) 9223372036854775809) (⟨nN none nZ (nN none nZ (nN none nZ (nN none nZ (nN none nZ (nN none nZ (nN (some (AObj.cells 9 (l0 ++ [Value.string ⟨⟨List.take ((↑s.length : Int).toNat - i1.toNat) (List.drop i1.toNat s)⟩⟩]) false 2)) nZ nZ)))))), 127⟩))))))) : RunD η prog B 73 (H0 s) [0, 3, 4, 5] (S1 s n0 i0 i1 l0 fun _ => undef) (QF prog 126 D) := by
  refine RunD.intro (S1 s n0 i0 i1 l0) (fun d => ⟨rfl, rfl, rfl⟩) (fun d => tmOk_get (by kernel_rfl)) (fun d => by kernel_rfl) (fun d => ?_)
  exact walk_okT (h0 := H0 s) hη hmix hreg (.steps 8 <| .bit 9 (.steps 8 <| .op <| .steps 2 <| .bit 15 (.steps 7 <| .op <| .steps 1 <| .op <| .steps 14 <| .stop [0, 3, 4, 5] (some ⟨127, [(128, 126)], [(126, (128, true))]⟩)) (.steps 9 <| .stop [0, 3, 4, 5] none)) (.steps 7 <| .op <| .steps 1 <| .op <| .steps 3 <| .done (some ⟨127, [(128, 126)], [(126, (128, true))]⟩))) (S1 s n0 i0 i1 l0 d) (by kernel_rfl) h (by kernel_rfl)
end RSeg
namespace RCln
set_option linter.unusedVariables false
noncomputable def bd : Code := (Go.Proofs.Tryz.f31.body).getD .skip
noncomputable def H0 (s : List UInt8) : AH := { objs := nZ, next := 126 }
noncomputable def E (s : List UInt8) : AS := ⟨⟨31, 97, nN (some (Value.string ⟨⟨s⟩⟩)) nZ nZ, [Item.code (codeAt bd [])], [], FrameMode.run, CallKind.normal, none⟩, [], ⟨nZ, 126⟩⟩
noncomputable def S0 (s : List UInt8) (i0 : Int) (d : Nat → Value) : AS := ⟨⟨31, 97, nN (some (d 0)) (nN (some (d 1)) (nN (some (d 3)) (nN (some (d 7)) (nN (some (d 15)) (nN (some (d 31)) (nN (some (d 63)) nZ nZ) (nN (some (d 95)) nZ nZ)) (nN (some (d 47)) (nN (some (d 79)) nZ nZ) nZ)) (nN (some (d 23)) (nN (some (d 39)) (nN (some (d 71)) nZ nZ) nZ) (nN (some (d 55)) (nN (some (d 87)) nZ nZ) nZ))) (nN (some (d 11)) (nN (some (d 19)) (nN (some (d 35)) (nN (some (d 67)) nZ nZ) nZ) (nN (some (d 51)) (nN (some (d 83)) nZ nZ) nZ)) (nN (some (d 27)) (nN (some (d 43)) (nN (some (d 75)) nZ nZ) nZ) (nN (some (d 59)) (nN (some (d 91)) nZ nZ) nZ)))) (nN (some (Value.string ⟨⟨TR.splQ s⟩⟩)) (nN (some (Value.slice none 0 0)) (nN (some (d 17)) (nN (some (d 33)) (nN (some (d 65)) nZ nZ) nZ) (nN (some (d 49)) (nN (some (d 81)) nZ nZ) nZ)) (nN (some (d 25)) (nN (some (d 41)) (nN (some (d 73)) nZ nZ) nZ) (nN (some (d 57)) (nN (some (d 89)) nZ nZ) nZ))) (nN (some (d 13)) (nN (some (d 21)) (nN (some (d 37)) (nN (some (d 69)) nZ nZ) nZ) (nN (some (d 53)) (nN (some (d 85)) nZ nZ) nZ)) (nN (some (d 29)) (nN (some (d 45)) (nN (some (d 77)) nZ nZ) nZ) (nN (some (d 61)) (nN (some (d 93)) nZ nZ) nZ))))) (nN (some (d 2)) (nN (some (d 4)) (nN (some (Value.slice (some ⟨126, 0, none⟩) (TR.segs (TR.dec (TR.splP s))).length 9223372036854775809)) (nN (some (d 16)) (nN (some (d 32)) (nN (some (d 64)) nZ nZ) (nN (some (d 96)) nZ nZ)) (nN (some (d 48)) (nN (some (d 80)) nZ nZ) nZ)) (nN (some (d 24)) (nN (some (d 40)) (nN (some (d 72)) nZ nZ) nZ) (nN (some (d 56)) (nN (some (d 88)) nZ nZ) nZ))) (nN (some (d 12)) (nN (some (d 20)) (nN (some (d 36)) (nN (some (d 68)) nZ nZ) nZ) (nN (some (d 52)) (nN (some (d 84)) nZ nZ) nZ)) (nN (some (d 28)) (nN (some (d 44)) (nN (some (d 76)) nZ nZ) nZ) (nN (some (d 60)) (nN (some (d 92)) nZ nZ) nZ)))) (nN (some (Value.bool (TR.splB s))) (nN (some (Value.int IntKind.i64 i0)) (nN (some (d 18)) (nN (some (d 34)) (nN (some (d 66)) nZ nZ) nZ) (nN (some (d 50)) (nN (some (d 82)) nZ nZ) nZ)) (nN (some (d 26)) (nN (some (d 42)) (nN (some (d 74)) nZ nZ) nZ) (nN (some (d 58)) (nN (some (d 90)) nZ nZ) nZ))) (nN (some (d 14)) (nN (some (d 22)) (nN (some (d 38)) (nN (some (d 70)) nZ nZ) nZ) (nN (some (d 54)) (nN (some (d 86)) nZ nZ) nZ)) (nN (some (d 30)) (nN (some (d 46)) (nN (some (d 78)) nZ nZ) nZ) (nN (some (d 62)) (nN (some (d 94)) nZ nZ) nZ))))), [Item.code (codeAt bd [1, 1, 1, 1, 1, 0, 1, 0, 0]), Item.inLoop (codeAt bd [1, 1, 1, 1, 1, 0, 1, 0, 0]), Item.inBlock 0, Item.code (codeAt bd [1, 1, 1, 1, 1, 1])], [], FrameMode.run, CallKind.normal, none⟩, [], ⟨nN none nZ (nN none nZ (nN none nZ (nN none nZ (nN none nZ (nN none nZ (nN (some (AObj.cells 9 (TE.strs (TR.segs (TR.dec (TR.splP s)))) false 2)) nZ nZ)))))), 127⟩⟩
noncomputable def S1 (s : List UInt8) (l0 : List Value) (i0 : Int) (n0 : Nat) (d : Nat → Value) : AS := ⟨⟨31, 97, nN (some (d 0)) (nN (some (d 1)) (nN (some (d 3)) (nN (some (d 7)) (nN (some (d 15)) (nN (some (d 31)) (nN (some (d 63)) nZ nZ) (nN (some (d 95)) nZ nZ)) (nN (some (d 47)) (nN (some (d 79)) nZ nZ) nZ)) (nN (some (d 23)) (nN (some (d 39)) (nN (some (d 71)) nZ nZ) nZ) (nN (some (d 55)) (nN (some (d 87)) nZ nZ) nZ))) (nN (some (d 11)) (nN (some (d 19)) (nN (some (d 35)) (nN (some (d 67)) nZ nZ) nZ) (nN (some (d 51)) (nN (some (d 83)) nZ nZ) nZ)) (nN (some (d 27)) (nN (some (d 43)) (nN (some (d 75)) nZ nZ) nZ) (nN (some (d 59)) (nN (some (d 91)) nZ nZ) nZ)))) (nN (some (Value.string ⟨⟨TR.splQ s⟩⟩)) (nN (some (Value.slice (some ⟨126, 0, none⟩) n0 9223372036854775809)) (nN (some (d 17)) (nN (some (d 33)) (nN (some (d 65)) nZ nZ) nZ) (nN (some (d 49)) (nN (some (d 81)) nZ nZ) nZ)) (nN (some (d 25)) (nN (some (d 41)) (nN (some (d 73)) nZ nZ) nZ) (nN (some (d 57)) (nN (some (d 89)) nZ nZ) nZ))) (nN (some (d 13)) (nN (some (d 21)) (nN (some (d 37)) (nN (some (d 69)) nZ nZ) nZ) (nN (some (d 53)) (nN (some (d 85)) nZ nZ) nZ)) (nN (some (d 29)) (nN (some (d 45)) (nN (some (d 77)) nZ nZ) nZ) (nN (some (d 61)) (nN (some (d 93)) nZ nZ) nZ))))) (nN (some (d 2)) (nN (some (d 4)) (nN (some (Value.slice (some ⟨127, 0, none⟩) (TR.segs (TR.dec (TR.splP s))).length 9223372036854775809)) (nN (some (d 16)) (nN (some (d 32)) (nN (some (d 64)) nZ nZ) (nN (some (d 96)) nZ nZ)) (nN (some (d 48)) (nN (some (d 80)) nZ nZ) nZ)) (nN (some (d 24)) (nN (some (d 40)) (nN (some (d 72)) nZ nZ) nZ) (nN (some (d 56)) (nN (some (d 88)) nZ nZ) nZ))) (nN (some (d 12)) (nN (some (d 20)) (nN (some (d 36)) (nN (some (d 68)) nZ nZ) nZ) (nN (some (d 52)) (nN (some (d 84)) nZ nZ) nZ)) (nN (some (d 28)) (nN (some (d 44)) (nN (some (d 76)) nZ nZ) nZ) (nN (some (d 60)) (nN (some (d 92)) nZ nZ) nZ)))) (nN (some (Value.bool (TR.splB s))) (nN (some (Value.int IntKind.i64 i0)) (nN (some (d 18)) (nN (some (d 34)) (nN (some (d 66)) nZ nZ) nZ) (nN (some (d 50)) (nN (some (d 82)) nZ nZ) nZ)) (nN (some (d 26)) (nN (some (d 42)) (nN (some (d 74)) nZ nZ) nZ) (nN (some (d 58)) (nN (some (d 90)) nZ nZ) nZ))) (nN (some (d 14)) (nN (some (d 22)) (nN (some (d 38)) (nN (some (d 70)) nZ nZ) nZ) (nN (some (d 54)) (nN (some (d 86)) nZ nZ) nZ)) (nN (some (d 30)) (nN (some (d 46)) (nN (some (d 78)) nZ nZ) nZ) (nN (some (d 62)) (nN (some (d 94)) nZ nZ) nZ))))), [Item.code (codeAt bd [1, 1, 1, 1, 1, 0, 1, 0, 0]), Item.inLoop (codeAt bd [1, 1, 1, 1, 1, 0, 1, 0, 0]), Item.inBlock 0, Item.code (codeAt bd [1, 1, 1, 1, 1, 1])], [], FrameMode.run, CallKind.normal, none⟩, [], ⟨nN none (nN none (nN none (nN none (nN none (nN none (nN none (nN (some (AObj.cells 9 (TE.strs (TR.segs (TR.dec (TR.splP s)))) false 2)) nZ nZ) nZ) nZ) nZ) nZ) nZ) nZ) (nN none nZ (nN none nZ (nN none nZ (nN none nZ (nN none nZ (nN (some (AObj.cells 9 l0 false 2)) nZ nZ)))))), 128⟩⟩
noncomputable def S2 (s : List UInt8)  (d : Nat → Value) : AS := ⟨⟨31, 97, nN (some (d 0)) (nN (some (d 1)) (nN (some (d 3)) (nN (some (d 7)) (nN (some (d 15)) (nN (some (d 31)) (nN (some (d 63)) nZ nZ) (nN (some (d 95)) nZ nZ)) (nN (some (d 47)) (nN (some (d 79)) nZ nZ) nZ)) (nN (some (d 23)) (nN (some (d 39)) (nN (some (d 71)) nZ nZ) nZ) (nN (some (d 55)) (nN (some (d 87)) nZ nZ) nZ))) (nN (some (d 11)) (nN (some (d 19)) (nN (some (d 35)) (nN (some (d 67)) nZ nZ) nZ) (nN (some (d 51)) (nN (some (d 83)) nZ nZ) nZ)) (nN (some (d 27)) (nN (some (d 43)) (nN (some (d 75)) nZ nZ) nZ) (nN (some (d 59)) (nN (some (d 91)) nZ nZ) nZ)))) (nN (some (Value.string ⟨⟨TR.splQ s⟩⟩)) (nN (some (Value.slice none 0 0)) (nN (some (d 17)) (nN (some (d 33)) (nN (some (d 65)) nZ nZ) nZ) (nN (some (d 49)) (nN (some (d 81)) nZ nZ) nZ)) (nN (some (d 25)) (nN (some (d 41)) (nN (some (d 73)) nZ nZ) nZ) (nN (some (d 57)) (nN (some (d 89)) nZ nZ) nZ))) (nN (some (Value.int IntKind.i64 0)) (nN (some (d 21)) (nN (some (d 37)) (nN (some (d 69)) nZ nZ) nZ) (nN (some (d 53)) (nN (some (d 85)) nZ nZ) nZ)) (nN (some (d 29)) (nN (some (d 45)) (nN (some (d 77)) nZ nZ) nZ) (nN (some (d 61)) (nN (some (d 93)) nZ nZ) nZ))))) (nN (some (d 2)) (nN (some (d 4)) (nN (some (d 8)) (nN (some (d 16)) (nN (some (d 32)) (nN (some (d 64)) nZ nZ) (nN (some (d 96)) nZ nZ)) (nN (some (d 48)) (nN (some (d 80)) nZ nZ) nZ)) (nN (some (d 24)) (nN (some (d 40)) (nN (some (d 72)) nZ nZ) nZ) (nN (some (d 56)) (nN (some (d 88)) nZ nZ) nZ))) (nN (some (Value.string ⟨#[]⟩)) (nN (some (d 20)) (nN (some (d 36)) (nN (some (d 68)) nZ nZ) nZ) (nN (some (d 52)) (nN (some (d 84)) nZ nZ) nZ)) (nN (some (d 28)) (nN (some (d 44)) (nN (some (d 76)) nZ nZ) nZ) (nN (some (d 60)) (nN (some (d 92)) nZ nZ) nZ)))) (nN (some (Value.bool (TR.splB s))) (nN (some (d 10)) (nN (some (d 18)) (nN (some (d 34)) (nN (some (d 66)) nZ nZ) nZ) (nN (some (d 50)) (nN (some (d 82)) nZ nZ) nZ)) (nN (some (d 26)) (nN (some (d 42)) (nN (some (d 74)) nZ nZ) nZ) (nN (some (d 58)) (nN (some (d 90)) nZ nZ) nZ))) (nN (some (d 14)) (nN (some (d 22)) (nN (some (d 38)) (nN (some (d 70)) nZ nZ) nZ) (nN (some (d 54)) (nN (some (d 86)) nZ nZ) nZ)) (nN (some (d 30)) (nN (some (d 46)) (nN (some (d 78)) nZ nZ) nZ) (nN (some (d 62)) (nN (some (d 94)) nZ nZ) nZ))))), [Item.code (codeAt bd [1, 1, 1, 1, 1, 1, 1, 0, 1, 0, 0]), Item.inLoop (codeAt bd [1, 1, 1, 1, 1, 1, 1, 0, 1, 0, 0]), Item.inBlock 2, Item.code (codeAt bd [1, 1, 1, 1, 1, 1, 1, 1])], [], FrameMode.run, CallKind.normal, none⟩, [], ⟨nZ, 126⟩⟩
noncomputable def S3 (s : List UInt8) (l0 : List Value) (i0 : Int) (y0 : ByteArray) (n0 : Nat) (d : Nat → Value) : AS := ⟨⟨31, 97, nN (some (d 0)) (nN (some (d 1)) (nN (some (d 3)) (nN (some (d 7)) (nN (some (d 15)) (nN (some (d 31)) (nN (some (d 63)) nZ nZ) (nN (some (d 95)) nZ nZ)) (nN (some (d 47)) (nN (some (d 79)) nZ nZ) nZ)) (nN (some (d 23)) (nN (some (d 39)) (nN (some (d 71)) nZ nZ) nZ) (nN (some (d 55)) (nN (some (d 87)) nZ nZ) nZ))) (nN (some (d 11)) (nN (some (d 19)) (nN (some (d 35)) (nN (some (d 67)) nZ nZ) nZ) (nN (some (d 51)) (nN (some (d 83)) nZ nZ) nZ)) (nN (some (d 27)) (nN (some (d 43)) (nN (some (d 75)) nZ nZ) nZ) (nN (some (d 59)) (nN (some (d 91)) nZ nZ) nZ)))) (nN (some (Value.string ⟨⟨TR.splQ s⟩⟩)) (nN (some (Value.slice (some ⟨126, 0, none⟩) n0 9223372036854775809)) (nN (some (d 17)) (nN (some (d 33)) (nN (some (d 65)) nZ nZ) nZ) (nN (some (d 49)) (nN (some (d 81)) nZ nZ) nZ)) (nN (some (d 25)) (nN (some (d 41)) (nN (some (d 73)) nZ nZ) nZ) (nN (some (d 57)) (nN (some (d 89)) nZ nZ) nZ))) (nN (some (Value.int IntKind.i64 i0)) (nN (some (d 21)) (nN (some (d 37)) (nN (some (d 69)) nZ nZ) nZ) (nN (some (d 53)) (nN (some (d 85)) nZ nZ) nZ)) (nN (some (d 29)) (nN (some (d 45)) (nN (some (d 77)) nZ nZ) nZ) (nN (some (d 61)) (nN (some (d 93)) nZ nZ) nZ))))) (nN (some (d 2)) (nN (some (d 4)) (nN (some (d 8)) (nN (some (d 16)) (nN (some (d 32)) (nN (some (d 64)) nZ nZ) (nN (some (d 96)) nZ nZ)) (nN (some (d 48)) (nN (some (d 80)) nZ nZ) nZ)) (nN (some (d 24)) (nN (some (d 40)) (nN (some (d 72)) nZ nZ) nZ) (nN (some (d 56)) (nN (some (d 88)) nZ nZ) nZ))) (nN (some (Value.string y0)) (nN (some (d 20)) (nN (some (d 36)) (nN (some (d 68)) nZ nZ) nZ) (nN (some (d 52)) (nN (some (d 84)) nZ nZ) nZ)) (nN (some (d 28)) (nN (some (d 44)) (nN (some (d 76)) nZ nZ) nZ) (nN (some (d 60)) (nN (some (d 92)) nZ nZ) nZ)))) (nN (some (Value.bool (TR.splB s))) (nN (some (d 10)) (nN (some (d 18)) (nN (some (d 34)) (nN (some (d 66)) nZ nZ) nZ) (nN (some (d 50)) (nN (some (d 82)) nZ nZ) nZ)) (nN (some (d 26)) (nN (some (d 42)) (nN (some (d 74)) nZ nZ) nZ) (nN (some (d 58)) (nN (some (d 90)) nZ nZ) nZ))) (nN (some (d 14)) (nN (some (d 22)) (nN (some (d 38)) (nN (some (d 70)) nZ nZ) nZ) (nN (some (d 54)) (nN (some (d 86)) nZ nZ) nZ)) (nN (some (d 30)) (nN (some (d 46)) (nN (some (d 78)) nZ nZ) nZ) (nN (some (d 62)) (nN (some (d 94)) nZ nZ) nZ))))), [Item.code (codeAt bd [1, 1, 1, 1, 1, 1, 1, 0, 1, 0, 0]), Item.inLoop (codeAt bd [1, 1, 1, 1, 1, 1, 1, 0, 1, 0, 0]), Item.inBlock 2, Item.code (codeAt bd [1, 1, 1, 1, 1, 1, 1, 1])], [], FrameMode.run, CallKind.normal, none⟩, [], ⟨nN none nZ (nN none nZ (nN none nZ (nN none nZ (nN none nZ (nN none nZ (nN (some (AObj.cells 9 l0 false 2)) nZ nZ)))))), 127⟩⟩
theorem enter {η : Nat → Value} {B : Bd} (hη : OneCells η) (hmix : prog.follows .mixedOrders = true) (hreg : RegOk η prog B noNest) {D : Value → AH → Prop} (s : List UInt8) (h : W.holds η prog B 31 (fun kp_ st_ => RunD η prog B 31 (H0 s) kp_ st_ (QF prog 126 D)) D (.call 29 [Value.string ⟨⟨s⟩⟩] (⟨nZ, 126⟩) (.ret (Value.tuple ⟨[Value.string ⟨⟨TR.splP s⟩⟩, Value.string ⟨⟨TR.splQ s⟩⟩, Value.bool (TR.splB s), Value.int IntKind.i64 (TR.tgtE s)]⟩) (⟨nZ, 126⟩)) (.ite (TR.tgtE s != (0 : Int)) (.done 31 (Value.tuple ⟨[Value.string ⟨#[]⟩, Value.int IntKind.i64 (TR.tgtE s)]⟩) (H0 s)) (.call 74 [Value.string ⟨⟨TR.splP s⟩⟩] (⟨nZ, 126⟩) (.ret (Value.string ⟨⟨TR.dec (TR.splP s)⟩⟩) (⟨nZ, 126⟩)) (.call 73 [Value.string ⟨⟨TR.dec (TR.splP s)⟩⟩] (⟨nZ, 126⟩) (.ret (Value.slice (some ⟨126, 0, none⟩) (TR.segs (TR.dec (TR.splP s))).length 9223372036854775809) (⟨nN none nZ (nN none nZ (nN none nZ (nN none nZ (nN none nZ (nN none nZ (nN (some (AObj.cells 9 (TE.strs (TR.segs (TR.dec (TR.splP s)))) false 2)) nZ nZ)))))), 127⟩)) (.stop [5, 6, 8, 9, 10] (S0 s (0) (fun _ => undef)))))))) : CallSpec η prog B 31 [Value.string ⟨⟨s⟩⟩] (H0 s) D := by
  refine CallSpec.ofQF hη (CallSpec.enter (fr := (E s).fr) (by kernel_rfl) ?_)
  exact walk_okT (h0 := H0 s) hη hmix hreg (.steps 8 <| .call kN <| .steps 16 <| .bit 22 (.steps 8 <| .done none) (.steps 5 <| .call kN <| .call kN <| .steps 13 <| .stop [5, 6, 8, 9, 10] none)) (E s) (by kernel_rfl) h (by kernel_rfl)
theorem cut0 {η : Nat → Value} {B : Bd} (hη : OneCells η) (hmix : prog.follows .mixedOrders = true) (hreg : RegOk η prog B noNest) {D : Value → AH → Prop} (s : List UInt8) (i0 : Int) (h : W.holds η prog B 31 (fun kp_ st_ => RunD η prog B 31 (H0 s) kp_ st_ (QF prog 126 D)) D (.ite (decide (i0 < (↑(TR.segs (TR.dec (TR.splP s))).length : Int))) (.need ((0 : Int) ≤ i0 ∧ i0 < (↑(TR.segs (TR.dec (TR.splP s))).length : Int)) (.need ((TE.strs (TR.segs (TR.dec (TR.splP s))))[(0 : Nat) + i0.toNat * (1 : Nat)]? = some (Value.string ⟨⟨strAt (TE.strs (TR.segs (TR.dec (TR.splP s)))) ((0 : Nat) + i0.toNat * (1 : Nat))⟩⟩)) (.ite (strAt (TE.strs (TR.segs (TR.dec (TR.splP s)))) ((0 : Nat) + i0.toNat * (1 : Nat)) == #[OfNat.ofNat (46 : Nat)].toList) (.need ((0 : Int) ≤ i0 ∧ i0 < (↑(TR.segs (TR.dec (TR.splP s))).length : Int)) (.need ((TE.strs (TR.segs (TR.dec (TR.splP s))))[(0 : Nat) + i0.toNat * (1 : Nat)]? = some (Value.string ⟨⟨strAt (TE.strs (TR.segs (TR.dec (TR.splP s)))) ((0 : Nat) + i0.toNat * (1 : Nat))⟩⟩)) (.ite (strAt (TE.strs (TR.segs (TR.dec (TR.splP s)))) ((0 : Nat) + i0.toNat * (1 : Nat)) == #[OfNat.ofNat (46 : Nat), OfNat.ofNat (46 : Nat)].toList) (.ite (i0 == IntKind.i64.wrap ((↑(TR.segs (TR.dec (TR.splP s))).length : Int) - (1 : Int))) (.need (True ∧ NoNames (TE.strs (TR.segs (TR.dec (TR.splP s)))) ∧ True) (.stop [5, 6, 8, 9, 10] (S1 s ([Value.string ⟨#[]⟩]) (IntKind.i64.wrap (i0 + 1)) (1) (fun _ => undef)))) (.stop [5, 6, 8, 9, 10] (S0 s (IntKind.i64.wrap (i0 + 1)) (fun _ => undef)))) (.ite (i0 == IntKind.i64.wrap ((↑(TR.segs (TR.dec (TR.splP s))).length : Int) - (1 : Int))) (.need (True ∧ NoNames (TE.strs (TR.segs (TR.dec (TR.splP s)))) ∧ True) (.stop [5, 6, 8, 9, 10] (S1 s ([Value.string ⟨#[]⟩]) (IntKind.i64.wrap (i0 + 1)) (1) (fun _ => undef)))) (.stop [5, 6, 8, 9, 10] (S0 s (IntKind.i64.wrap (i0 + 1)) (fun _ => undef))))))) (.need ((0 : Int) ≤ i0 ∧ i0 < (↑(TR.segs (TR.dec (TR.splP s))).length : Int)) (.need ((TE.strs (TR.segs (TR.dec (TR.splP s))))[(0 : Nat) + i0.toNat * (1 : Nat)]? = some (Value.string ⟨⟨strAt (TE.strs (TR.segs (TR.dec (TR.splP s)))) ((0 : Nat) + i0.toNat * (1 : Nat))⟩⟩)) (.need ((0 : Int) ≤ i0 ∧ i0 < (↑(TR.segs (TR.dec (TR.splP s))).length : Int)) (.need ((TE.strs (TR.segs (TR.dec (TR.splP s))))[(0 : Nat) + i0.toNat * (1 : Nat)]? = some (Value.string ⟨⟨strAt (TE.strs (TR.segs (TR.dec (TR.splP s)))) ((0 : Nat) + i0.toNat * (1 : Nat))⟩⟩)) (.ite (strAt (TE.strs (TR.segs (TR.dec (TR.splP s)))) ((0 : Nat) + i0.toNat * (1 : Nat)) == #[OfNat.ofNat (46 : Nat), OfNat.ofNat (46 : Nat)].toList) (.ite (!strAt (TE.strs (TR.segs (TR.dec (TR.splP s)))) ((0 : Nat) + i0.toNat * (1 : Nat)) == #[OfNat.ofNat (46 : Nat), OfNat.ofNat (46 : Nat)].toList) (.need ((0 : Int) ≤ i0 ∧ i0 < (↑(TR.segs (TR.dec (TR.splP s))).length : Int)) (.need ((TE.strs (TR.segs (TR.dec (TR.splP s))))[(0 : Nat) + i0.toNat * (1 : Nat)]? = some (Value.string ⟨⟨strAt (TE.strs (TR.segs (TR.dec (TR.splP s)))) ((0 : Nat) + i0.toNat * (1 : Nat))⟩⟩)) (.need (True ∧ NoNames (TE.strs (TR.segs (TR.dec (TR.splP s)))) ∧ True) (.stop [5, 6, 8, 9, 10] (S1 s ([Value.string ⟨⟨strAt (TE.strs (TR.segs (TR.dec (TR.splP s)))) (0 + i0.toNat * 1)⟩⟩]) (IntKind.i64.wrap (i0 + 1)) (1) (fun _ => undef)))))) (.ite (i0 == IntKind.i64.wrap ((↑(TR.segs (TR.dec (TR.splP s))).length : Int) - (1 : Int))) (.need (True ∧ NoNames (TE.strs (TR.segs (TR.dec (TR.splP s)))) ∧ True) (.stop [5, 6, 8, 9, 10] (S1 s ([Value.string ⟨#[]⟩]) (IntKind.i64.wrap (i0 + 1)) (1) (fun _ => undef)))) (.stop [5, 6, 8, 9, 10] (S0 s (IntKind.i64.wrap (i0 + 1)) (fun _ => undef))))) (.ite (!strAt (TE.strs (TR.segs (TR.dec (TR.splP s)))) ((0 : Nat) + i0.toNat * (1 : Nat)) == #[OfNat.ofNat (46 : Nat), OfNat.ofNat (46 : Nat)].toList) (.need ((0 : Int) ≤ i0 ∧ i0 < (↑(TR.segs (TR.dec (TR.splP s))).length : Int)) (.need ((TE.strs (TR.segs (TR.dec (TR.splP s))))[(0 : Nat) + i0.toNat * (1 : Nat)]? = some (Value.string ⟨⟨strAt (TE.strs (TR.segs (TR.dec (TR.splP s)))) ((0 : Nat) + i0.toNat * (1 : Nat))⟩⟩)) (.need (True ∧ NoNames (TE.strs (TR.segs (TR.dec (TR.splP s)))) ∧ True) (.stop [5, 6, 8, 9, 10] (S1 s ([Value.string ⟨⟨strAt (TE.strs (TR.segs (TR.dec (TR.splP s)))) (0 + i0.toNat * 1)⟩⟩]) (IntKind.i64.wrap (i0 + 1)) (1) (fun _ => undef)))))) (.ite (i0 == IntKind.i64.wrap ((↑(TR.segs (TR.dec (TR.splP s))).length : Int) - (1 : Int))) (.need (True ∧ NoNames (TE.strs (TR.segs (TR.dec (TR.splP s)))) ∧ True) (.stop [5, 6, 8, 9, 10] (S1 s ([Value.string ⟨#[]⟩]) (IntKind.i64.wrap (i0 + 1)) (1) (fun _ => undef)))) (.stop [5, 6, 8, 9, 10] (S0 s (IntKind.i64.wrap (i0 + 1)) (fun _ => undef))))))))))))) (.need (True) (.stop [5, 6, 9, 12, 13] (S2 s  (fun _ => undef)))))) : RunD η prog B 31 (H0 s) [5, 6, 8, 9, 10] (S0 s i0 fun _ => undef) (QF prog 126 D) := by
  refine RunD.intro (S0 s i0) (fun d => ⟨rfl, rfl, rfl⟩) (fun d => tmOk_get (by kernel_rfl)) (fun d => by kernel_rfl) (fun d => ?_)
  exact walk_okT (h0 := H0 s) hη hmix hreg (.steps 8 <| .bit 30 (.steps 8 <| .op <| .op <| .steps 2 <| .bit 38 (.steps 13 <| .op <| .op <| .steps 2 <| .bit 50 (.steps 21 <| .bit 73 (.steps 14 <| .stop [5, 6, 8, 9, 10] (some ⟨128, [(128, 126), (126, 127)], [(126, (128, false)), (127, (126, true))]⟩)) (.steps 9 <| .stop [5, 6, 8, 9, 10] none)) (.steps 21 <| .bit 73 (.steps 14 <| .stop [5, 6, 8, 9, 10] (some ⟨128, [(128, 126), (126, 127)], [(126, (128, false)), (127, (126, true))]⟩)) (.steps 9 <| .stop [5, 6, 8, 9, 10] none))) (.steps 2 <| .op <| .op <| .steps 9 <| .op <| .op <| .steps 2 <| .bit 50 (.steps 12 <| .bit 61 (.steps 5 <| .op <| .op <| .steps 11 <| .stop [5, 6, 8, 9, 10] (some ⟨128, [(128, 126), (126, 127)], [(126, (128, false)), (127, (126, true))]⟩)) (.steps 9 <| .bit 73 (.steps 14 <| .stop [5, 6, 8, 9, 10] (some ⟨128, [(128, 126), (126, 127)], [(126, (128, false)), (127, (126, true))]⟩)) (.steps 9 <| .stop [5, 6, 8, 9, 10] none))) (.steps 12 <| .bit 61 (.steps 5 <| .op <| .op <| .steps 11 <| .stop [5, 6, 8, 9, 10] (some ⟨128, [(128, 126), (126, 127)], [(126, (128, false)), (127, (126, true))]⟩)) (.steps 9 <| .bit 73 (.steps 14 <| .stop [5, 6, 8, 9, 10] (some ⟨128, [(128, 126), (126, 127)], [(126, (128, false)), (127, (126, true))]⟩)) (.steps 9 <| .stop [5, 6, 8, 9, 10] none))))) (.steps 13 <| .stop [5, 6, 9, 12, 13] (some ⟨126, [], []⟩))) (S0 s i0 d) (by kernel_rfl) h (by kernel_rfl)
theorem cut1 {η : Nat → Value} {B : Bd} (hη : OneCells η) (hmix : prog.follows .mixedOrders = true) (hreg : RegOk η prog B noNest) {D : Value → AH → Prop} (s : List UInt8) (l0 : List Value) (i0 : Int) (n0 : Nat) (h : W.holds η prog B 31 (fun kp_ st_ => RunD η prog B 31 (H0 s) kp_ st_ (QF prog 126 D)) D (.ite (decide (i0 < (↑(TR.segs (TR.dec (TR.splP s))).length : Int))) (.need ((0 : Int) ≤ i0 ∧ i0 < (↑(TR.segs (TR.dec (TR.splP s))).length : Int)) (.need ((TE.strs (TR.segs (TR.dec (TR.splP s))))[(0 : Nat) + i0.toNat * (1 : Nat)]? = some (Value.string ⟨⟨strAt (TE.strs (TR.segs (TR.dec (TR.splP s)))) ((0 : Nat) + i0.toNat * (1 : Nat))⟩⟩)) (.ite (strAt (TE.strs (TR.segs (TR.dec (TR.splP s)))) ((0 : Nat) + i0.toNat * (1 : Nat)) == #[OfNat.ofNat (46 : Nat)].toList) (.need ((0 : Int) ≤ i0 ∧ i0 < (↑(TR.segs (TR.dec (TR.splP s))).length : Int)) (.need ((TE.strs (TR.segs (TR.dec (TR.splP s))))[(0 : Nat) + i0.toNat * (1 : Nat)]? = some (Value.string ⟨⟨strAt (TE.strs (TR.segs (TR.dec (TR.splP s)))) ((0 : Nat) + i0.toNat * (1 : Nat))⟩⟩)) (.ite (strAt (TE.strs (TR.segs (TR.dec (TR.splP s)))) ((0 : Nat) + i0.toNat * (1 : Nat)) == #[OfNat.ofNat (46 : Nat), OfNat.ofNat (46 : Nat)].toList) (.ite (decide ((↑n0 : Int) > (0 : Int))) (.need ((0 : Int) ≤ (0 : Int) ∧ (0 : Int) ≤ IntKind.i64.wrap ((↑n0 : Int) - (1 : Int)) ∧ (9223372036854775809 : Nat) = (9223372036854775809 : Nat) ∧ (1 : Nat) ≠ (0 : Nat) ∧ IntKind.i64.wrap ((↑n0 : Int) - (1 : Int)) ≤ (↑n0 : Int) ∧ ((0 : Int) < (↑n0 : Int) ∨ (0 : Int) = (0 : Int))) (.ite (i0 == IntKind.i64.wrap ((↑(TR.segs (TR.dec (TR.splP s))).length : Int) - (1 : Int))) (.need ((1 : Nat) ≤ (1 : Nat) ∧ (0 : Nat) + ((IntKind.i64.wrap ((↑n0 : Int) - (1 : Int))).toNat - (0 : Nat)) * (1 : Nat) ≤ l0.length ∧ (IntKind.i64.wrap ((↑n0 : Int) - (1 : Int))).toNat - (0 : Nat) + (1 : Nat) ≤ (1000000 : Nat) ∧ (1 : Nat) = (1 : Nat) ∧ true = true) (.need (NoNames (List.take (((IntKind.i64.wrap ((↑n0 : Int) - (1 : Int))).toNat - (0 : Nat)) * (1 : Nat)) l0 ++ [Value.string ⟨#[]⟩]) ∧ NoNames (TE.strs (TR.segs (TR.dec (TR.splP s)))) ∧ True) (.stop [5, 6, 8, 9, 10] (S1 s (List.take (((IntKind.i64.wrap ((↑n0 : Int) - 1)).toNat - 0) * 1) l0 ++ [Value.string ⟨#[]⟩]) (IntKind.i64.wrap (i0 + 1)) ((IntKind.i64.wrap ((↑n0 : Int) - 1)).toNat - 0 + 1) (fun _ => undef))))) (.stop [5, 6, 8, 9, 10] (S1 s (l0) (IntKind.i64.wrap (i0 + 1)) ((IntKind.i64.wrap ((↑n0 : Int) - 1)).toNat - 0) (fun _ => undef))))) (.ite (i0 == IntKind.i64.wrap ((↑(TR.segs (TR.dec (TR.splP s))).length : Int) - (1 : Int))) (.need ((1 : Nat) ≤ (1 : Nat) ∧ (0 : Nat) + n0 * (1 : Nat) ≤ l0.length ∧ n0 + (1 : Nat) ≤ (1000000 : Nat) ∧ (1 : Nat) = (1 : Nat) ∧ true = true) (.need (NoNames (List.take (n0 * (1 : Nat)) l0 ++ [Value.string ⟨#[]⟩]) ∧ NoNames (TE.strs (TR.segs (TR.dec (TR.splP s)))) ∧ True) (.stop [5, 6, 8, 9, 10] (S1 s (List.take (n0 * 1) l0 ++ [Value.string ⟨#[]⟩]) (IntKind.i64.wrap (i0 + 1)) (n0 + 1) (fun _ => undef))))) (.stop [5, 6, 8, 9, 10] (S1 s (l0) (IntKind.i64.wrap (i0 + 1)) (n0) (fun _ => undef))))) (.ite (i0 == IntKind.i64.wrap ((↑(TR.segs (TR.dec (TR.splP s))).length : Int) - (1 : Int))) (.need ((1 : Nat) ≤ (1 : Nat) ∧ (0 : Nat) + n0 * (1 : Nat) ≤ l0.length ∧ n0 + (1 : Nat) ≤ (1000000 : Nat) ∧ (1 : Nat) = (1 : Nat) ∧ true = true) (.need (NoNames (List.take (n0 * (1 : Nat)) l0 ++ [Value.string ⟨#[]⟩]) ∧ NoNames (TE.strs (TR.segs (TR.dec (TR.splP s)))) ∧ True) (.stop [5, 6, 8, 9, 10] (S1 s (List.take (n0 * 1) l0 ++ [Value.string ⟨#[]⟩]) (IntKind.i64.wrap (i0 + 1)) (n0 + 1) (fun _ => undef))))) (.stop [5, 6, 8, 9, 10] (S1 s (l0) (IntKind.i64.wrap (i0 + 1)) (n0) (fun _ => undef))))))) (.need ((0 : Int) ≤ i0 ∧ i0 < (↑(TR.segs (TR.dec (TR.splP s))).length : Int)) (.need ((TE.strs (TR.segs (TR.dec (TR.splP s))))[(0 : Nat) + i0.toNat * (1 : Nat)]? = some (Value.string ⟨⟨strAt (TE.strs (TR.segs (TR.dec (TR.splP s)))) ((0 : Nat) + i0.toNat * (1 : Nat))⟩⟩)) (.need ((0 : Int) ≤ i0 ∧ i0 < (↑(TR.segs (TR.dec (TR.splP s))).length : Int)) (.need ((TE.strs (TR.segs (TR.dec (TR.splP s))))[(0 : Nat) + i0.toNat * (1 : Nat)]? = some (Value.string ⟨⟨strAt (TE.strs (TR.segs (TR.dec (TR.splP s)))) ((0 : Nat) + i0.toNat * (1 : Nat))⟩⟩)) (.ite (strAt (TE.strs (TR.segs (TR.dec (TR.splP s)))) ((0 : Nat) + i0.toNat * (1 : Nat)) == #[OfNat.ofNat (46 : Nat), OfNat.ofNat (46 : Nat)].toList) (.ite (decide ((↑n0 : Int) > (0 : Int))) (.need ((0 : Int) ≤ (0 : Int) ∧ (0 : Int) ≤ IntKind.i64.wrap ((↑n0 : Int) - (1 : Int)) ∧ (9223372036854775809 : Nat) = (9223372036854775809 : Nat) ∧ (1 : Nat) ≠ (0 : Nat) ∧ IntKind.i64.wrap ((↑n0 : Int) - (1 : Int)) ≤ (↑n0 : Int) ∧ ((0 : Int) < (↑n0 : Int) ∨ (0 : Int) = (0 : Int))) (.ite (!strAt (TE.strs (TR.segs (TR.dec (TR.splP s)))) ((0 : Nat) + i0.toNat * (1 : Nat)) == #[OfNat.ofNat (46 : Nat), OfNat.ofNat (46 : Nat)].toList) (.need ((0 : Int) ≤ i0 ∧ i0 < (↑(TR.segs (TR.dec (TR.splP s))).length : Int)) (.need ((TE.strs (TR.segs (TR.dec (TR.splP s))))[(0 : Nat) + i0.toNat * (1 : Nat)]? = some (Value.string ⟨⟨strAt (TE.strs (TR.segs (TR.dec (TR.splP s)))) ((0 : Nat) + i0.toNat * (1 : Nat))⟩⟩)) (.need ((1 : Nat) ≤ (1 : Nat) ∧ (0 : Nat) + ((IntKind.i64.wrap ((↑n0 : Int) - (1 : Int))).toNat - (0 : Nat)) * (1 : Nat) ≤ l0.length ∧ (IntKind.i64.wrap ((↑n0 : Int) - (1 : Int))).toNat - (0 : Nat) + (1 : Nat) ≤ (1000000 : Nat) ∧ (1 : Nat) = (1 : Nat) ∧ true = true) (.need (NoNames (List.take (((IntKind.i64.wrap ((↑n0 : Int) - (1 : Int))).toNat - (0 : Nat)) * (1 : Nat)) l0 ++ [Value.string ⟨⟨strAt (TE.strs (TR.segs (TR.dec (TR.splP s)))) ((0 : Nat) + i0.toNat * (1 : Nat))⟩⟩]) ∧ NoNames (TE.strs (TR.segs (TR.dec (TR.splP s)))) ∧ True) (.stop [5, 6, 8, 9, 10] (S1 s (List.take (((IntKind.i64.wrap ((↑n0 : Int) - 1)).toNat - 0) * 1) l0 ++ [Value.string ⟨⟨strAt (TE.strs (TR.segs (TR.dec (TR.splP s)))) (0 + i0.toNat * 1)⟩⟩]) (IntKind.i64.wrap (i0 + 1)) ((IntKind.i64.wrap ((↑n0 : Int) - 1)).toNat - 0 + 1) (fun _ => undef))))))) (.ite (i0 == IntKind.i64.wrap ((↑(TR.segs (TR.dec (TR.splP s))).length : Int) - (1 : Int))) (.need ((1 : Nat) ≤ (1 : Nat) ∧ (0 : Nat) + ((IntKind.i64.wrap ((↑n0 : Int) - (1 : Int))).toNat - (0 : Nat)) * (1 : Nat) ≤ l0.length ∧ (IntKind.i64.wrap ((↑n0 : Int) - (1 : Int))).toNat - (0 : Nat) + (1 : Nat) ≤ (1000000 : Nat) ∧ (1 : Nat) = (1 : Nat) ∧ true = true) (.need (NoNames (List.take (((IntKind.i64.wrap ((↑n0 : Int) - (1 : Int))).toNat - (0 : Nat)) * (1 : Nat)) l0 ++ [Value.string ⟨#[]⟩]) ∧ NoNames (TE.strs (TR.segs (TR.dec (TR.splP s)))) ∧ True) (.stop [5, 6, 8, 9, 10] (S1 s (List.take (((IntKind.i64.wrap ((↑n0 : Int) - 1)).toNat - 0) * 1) l0 ++ [Value.string ⟨#[]⟩]) (IntKind.i64.wrap (i0 + 1)) ((IntKind.i64.wrap ((↑n0 : Int) - 1)).toNat - 0 + 1) (fun _ => undef))))) (.stop [5, 6, 8, 9, 10] (S1 s (l0) (IntKind.i64.wrap (i0 + 1)) ((IntKind.i64.wrap ((↑n0 : Int) - 1)).toNat - 0) (fun _ => undef)))))) (.ite (!strAt (TE.strs (TR.segs (TR.dec (TR.splP s)))) ((0 : Nat) + i0.toNat * (1 : Nat)) == #[OfNat.ofNat (46 : Nat), OfNat.ofNat (46 : Nat)].toList) (.need ((0 : Int) ≤ i0 ∧ i0 < (↑(TR.segs (TR.dec (TR.splP s))).length : Int)) (.need ((TE.strs (TR.segs (TR.dec (TR.splP s))))[(0 : Nat) + i0.toNat * (1 : Nat)]? = some (Value.string ⟨⟨strAt (TE.strs (TR.segs (TR.dec (TR.splP s)))) ((0 : Nat) + i0.toNat * (1 : Nat))⟩⟩)) (.need ((1 : Nat) ≤ (1 : Nat) ∧ (0 : Nat) + n0 * (1 : Nat) ≤ l0.length ∧ n0 + (1 : Nat) ≤ (1000000 : Nat) ∧ (1 : Nat) = (1 : Nat) ∧ true = true) (.need (NoNames (List.take (n0 * (1 : Nat)) l0 ++ [Value.string ⟨⟨strAt (TE.strs (TR.segs (TR.dec (TR.splP s)))) ((0 : Nat) + i0.toNat * (1 : Nat))⟩⟩]) ∧ NoNames (TE.strs (TR.segs (TR.dec (TR.splP s)))) ∧ True) (.stop [5, 6, 8, 9, 10] (S1 s (List.take (n0 * 1) l0 ++ [Value.string ⟨⟨strAt (TE.strs (TR.segs (TR.dec (TR.splP s)))) (0 + i0.toNat * 1)⟩⟩]) (IntKind.i64.wrap (i0 + 1)) (n0 + 1) (fun _ => undef))))))) (.ite (i0 == IntKind.i64.wrap ((↑(TR.segs (TR.dec (TR.splP s))).length : Int) - (1 : Int))) (.need ((1 : Nat) ≤ (1 : Nat) ∧ (0 : Nat) + n0 * (1 : Nat) ≤ l0.length ∧ n0 + (1 : Nat) ≤ (1000000 : Nat) ∧ (1 : Nat) = (1 : Nat) ∧ true = true) (.need (NoNames (List.take (n0 * (1 : Nat)) l0 ++ [Value.string ⟨#[]⟩]) ∧ NoNames (TE.strs (TR.segs (TR.dec (TR.splP s)))) ∧ True) (.stop [5, 6, 8, 9, 10] (S1 s (List.take (n0 * 1) l0 ++ [Value.string ⟨#[]⟩]) (IntKind.i64.wrap (i0 + 1)) (n0 + 1) (fun _ => undef))))) (.stop [5, 6, 8, 9, 10] (S1 s (l0) (IntKind.i64.wrap (i0 + 1)) (n0) (fun _ => undef)))))) (.ite (!strAt (TE.strs (TR.segs (TR.dec (TR.splP s)))) ((0 : Nat) + i0.toNat * (1 : Nat)) == #[OfNat.ofNat (46 : Nat), OfNat.ofNat (46 : Nat)].toList) (.need ((0 : Int) ≤ i0 ∧ i0 < (↑(TR.segs (TR.dec (TR.splP s))).length : Int)) (.need ((TE.strs (TR.segs (TR.dec (TR.splP s))))[(0 : Nat) + i0.toNat * (1 : Nat)]? = some (Value.string ⟨⟨strAt (TE.strs (TR.segs (TR.dec (TR.splP s)))) ((0 : Nat) + i0.toNat * (1 : Nat))⟩⟩)) (.need ((1 : Nat) ≤ (1 : Nat) ∧ (0 : Nat) + n0 * (1 : Nat) ≤ l0.length ∧ n0 + (1 : Nat) ≤ (1000000 : Nat) ∧ (1 : Nat) = (1 : Nat) ∧ true = true) (.need (NoNames (List.take (n0 * (1 : Nat)) l0 ++ [Value.string ⟨⟨strAt (TE.strs (TR.segs (TR.dec (TR.splP s)))) ((0 : Nat) + i0.toNat * (1 : Nat))⟩⟩]) ∧ NoNames (TE.strs (TR.segs (TR.dec (TR.splP s)))) ∧ True) (.stop [5, 6, 8, 9, 10] (S1 s (List.take (n0 * 1) l0 ++ [Value.string ⟨⟨strAt (TE.strs (TR.segs (TR.dec (TR.splP s)))) (0 + i0.toNat * 1)⟩⟩]) (IntKind.i64.wrap (i0 + 1)) (n0 + 1) (fun _ => undef))))))) (.ite (i0 == IntKind.i64.wrap ((↑(TR.segs (TR.dec (TR.splP s))).length : Int) - (1 : Int))) (.need ((1 : Nat) ≤ (1 : Nat) ∧ (0 : Nat) + n0 * (1 : Nat) ≤ l0.length ∧ n0 + (1 : Nat) ≤ (1000000 : Nat) ∧ (1 : Nat) = (1 : Nat) ∧ true = true) (.need (NoNames (List.take (n0 * (1 : Nat)) l0 ++ [Value.string ⟨#[]⟩]) ∧ NoNames (TE.strs (TR.segs (TR.dec (TR.splP s)))) ∧ True) (.stop [5, 6, 8, 9, 10] (S1 s (List.take (n0 * 1) l0 ++ [Value.string ⟨#[]⟩]) (IntKind.i64.wrap (i0 + 1)) (n0 + 1) (fun _ => undef))))) (.stop [5, 6, 8, 9, 10] (S1 s (l0) (IntKind.i64.wrap (i0 + 1)) (n0) (fun _ => undef))))))))))))) (.need (NoNames l0 ∧ True) (.stop [5, 6, 9, 12, 13] (S3 s (l0) (0) (⟨#[]⟩) (n0) (fun _ => undef)))))) : RunD η prog B 31 (H0 s) [5, 6, 8, 9, 10] (S1 s l0 i0 n0 fun _ => undef) (QF prog 126 D) := by
  refine RunD.intro (S1 s l0 i0 n0) (fun d => ⟨rfl, rfl, rfl⟩) (fun d => tmOk_get (by kernel_rfl)) (fun d => by kernel_rfl) (fun d => ?_)
  exact walk_okT (h0 := H0 s) hη hmix hreg (.steps 8 <| .bit 30 (.steps 8 <| .op <| .op <| .steps 2 <| .bit 38 (.steps 13 <| .op <| .op <| .steps 2 <| .bit 50 (.steps 5 <| .bit 54 (.steps 6 <| .op <| .steps 16 <| .bit 73 (.steps 4 <| .opT <| .steps 9 <| .stop [5, 6, 8, 9, 10] (some ⟨128, [(129, 126), (127, 127)], [(126, (129, true)), (127, (127, true))]⟩)) (.steps 9 <| .stop [5, 6, 8, 9, 10] none)) (.steps 16 <| .bit 73 (.steps 4 <| .opT <| .steps 9 <| .stop [5, 6, 8, 9, 10] (some ⟨128, [(129, 126), (127, 127)], [(126, (129, true)), (127, (127, true))]⟩)) (.steps 9 <| .stop [5, 6, 8, 9, 10] none))) (.steps 21 <| .bit 73 (.steps 4 <| .opT <| .steps 9 <| .stop [5, 6, 8, 9, 10] (some ⟨128, [(129, 126), (127, 127)], [(126, (129, true)), (127, (127, true))]⟩)) (.steps 9 <| .stop [5, 6, 8, 9, 10] none))) (.steps 2 <| .op <| .op <| .steps 9 <| .op <| .op <| .steps 2 <| .bit 50 (.steps 5 <| .bit 54 (.steps 6 <| .op <| .steps 7 <| .bit 61 (.steps 5 <| .op <| .op <| .steps 1 <| .opT <| .steps 9 <| .stop [5, 6, 8, 9, 10] (some ⟨128, [(129, 126), (127, 127)], [(126, (129, true)), (127, (127, true))]⟩)) (.steps 9 <| .bit 73 (.steps 4 <| .opT <| .steps 9 <| .stop [5, 6, 8, 9, 10] (some ⟨128, [(129, 126), (127, 127)], [(126, (129, true)), (127, (127, true))]⟩)) (.steps 9 <| .stop [5, 6, 8, 9, 10] none))) (.steps 7 <| .bit 61 (.steps 5 <| .op <| .op <| .steps 1 <| .opT <| .steps 9 <| .stop [5, 6, 8, 9, 10] (some ⟨128, [(129, 126), (127, 127)], [(126, (129, true)), (127, (127, true))]⟩)) (.steps 9 <| .bit 73 (.steps 4 <| .opT <| .steps 9 <| .stop [5, 6, 8, 9, 10] (some ⟨128, [(129, 126), (127, 127)], [(126, (129, true)), (127, (127, true))]⟩)) (.steps 9 <| .stop [5, 6, 8, 9, 10] none)))) (.steps 12 <| .bit 61 (.steps 5 <| .op <| .op <| .steps 1 <| .opT <| .steps 9 <| .stop [5, 6, 8, 9, 10] (some ⟨128, [(129, 126), (127, 127)], [(126, (129, true)), (127, (127, true))]⟩)) (.steps 9 <| .bit 73 (.steps 4 <| .opT <| .steps 9 <| .stop [5, 6, 8, 9, 10] (some ⟨128, [(129, 126), (127, 127)], [(126, (129, true)), (127, (127, true))]⟩)) (.steps 9 <| .stop [5, 6, 8, 9, 10] none))))) (.steps 13 <| .stop [5, 6, 9, 12, 13] (some ⟨127, [(126, 126)], [(126, (126, true))]⟩))) (S1 s l0 i0 n0 d) (by kernel_rfl) h (by kernel_rfl)
theorem cut2 {η : Nat → Value} {B : Bd} (hη : OneCells η) (hmix : prog.follows .mixedOrders = true) (hreg : RegOk η prog B noNest) {D : Value → AH → Prop} (s : List UInt8)  (h : W.holds η prog B 31 (fun kp_ st_ => RunD η prog B 31 (H0 s) kp_ st_ (QF prog 126 D)) D (.ite (TR.splB s) (.call 74 [Value.string ⟨⟨TR.splQ s⟩⟩] (⟨nZ, 126⟩) (.ret (Value.string ⟨⟨TR.dec (TR.splQ s)⟩⟩) (⟨nZ, 126⟩)) (.need ((1 : Nat) + (TR.dec (TR.splQ s)).length ≤ (9223372036854775807 : Nat)) (.done 31 (Value.tuple ⟨[Value.string ⟨⟨#[].toList ++ #[OfNat.ofNat 63].toList ++ TR.dec (TR.splQ s)⟩⟩, Value.int IntKind.i64 0]⟩) (H0 s)))) (.done 31 (Value.tuple ⟨[Value.string ⟨#[]⟩, Value.int IntKind.i64 0]⟩) (H0 s)))) : RunD η prog B 31 (H0 s) [5, 6, 9, 12, 13] (S2 s  fun _ => undef) (QF prog 126 D) := by
  refine RunD.intro (S2 s ) (fun d => ⟨rfl, rfl, rfl⟩) (fun d => tmOk_get (by kernel_rfl)) (fun d => by kernel_rfl) (fun d => ?_)
  exact walk_okT (h0 := H0 s) hη hmix hreg (.steps 15 <| .bit 90 (.steps 5 <| .call kN <| .op <| .steps 9 <| .done none) (.steps 9 <| .done none)) (S2 s  d) (by kernel_rfl) h (by kernel_rfl)
noncomputable abbrev hcut3_0 (l0 : List Value) : AH := ⟨nN none nZ (nN none nZ (nN none nZ (nN none nZ (nN none nZ (nN none nZ (nN (some (AObj.cells 9 l0 false 2)) nZ nZ)))))), 127⟩
theorem cut3 {η : Nat → Value} {B : Bd} (hη : OneCells η) (hmix : prog.follows .mixedOrders = true) (hreg : RegOk η prog B noNest) {D : Value → AH → Prop} (s : List UInt8) (l0 : List Value) (i0 : Int) (y0 : ByteArray) (n0 : Nat) (h : W.holds η prog B 31 (fun kp_ st_ => RunD η prog B 31 (H0 s) kp_ st_ (QF prog 126 D)) D (.ite (decide (i0 < (↑n0 : Int))) (.need (y0.data.toList.length + (1 : Nat) ≤ (9223372036854775807 : Nat)) (.need ((0 : Int) ≤ i0 ∧ i0 < (↑n0 : Int)) (.need (l0[(0 : Nat) + i0.toNat * (1 : Nat)]? = some (Value.string ⟨⟨strAt l0 ((0 : Nat) + i0.toNat * (1 : Nat))⟩⟩)) (.need ((y0.data.toList ++ #[OfNat.ofNat (47 : Nat)].toList).length + (strAt l0 ((0 : Nat) + i0.toNat * (1 : Nat))).length ≤ (9223372036854775807 : Nat)) (.stop [5, 6, 9, 12, 13] (S3 s (l0) (IntKind.i64.wrap (i0 + 1)) (⟨⟨y0.data.toList ++ #[OfNat.ofNat 47].toList ++ strAt l0 (0 + i0.toNat * 1)⟩⟩) (n0) (fun _ => undef))))))) (.ite (TR.splB s) (.need (y0.data.toList.length + (1 : Nat) ≤ (9223372036854775807 : Nat)) (.call 74 [Value.string ⟨⟨TR.splQ s⟩⟩] ((hcut3_0 l0)) (.ret (Value.string ⟨⟨TR.dec (TR.splQ s)⟩⟩) ((hcut3_0 l0))) (.need ((y0.data.toList ++ #[OfNat.ofNat (63 : Nat)].toList).length + (TR.dec (TR.splQ s)).length ≤ (9223372036854775807 : Nat)) (.need (True) (.done 31 (Value.tuple ⟨[Value.string ⟨⟨y0.data.toList ++ #[OfNat.ofNat 63].toList ++ TR.dec (TR.splQ s)⟩⟩, Value.int IntKind.i64 0]⟩) (H0 s)))))) (.need (True) (.done 31 (Value.tuple ⟨[Value.string y0, Value.int IntKind.i64 0]⟩) (H0 s)))))) : RunD η prog B 31 (H0 s) [5, 6, 9, 12, 13] (S3 s l0 i0 y0 n0 fun _ => undef) (QF prog 126 D) := by
  refine RunD.intro (S3 s l0 i0 y0 n0) (fun d => ⟨rfl, rfl, rfl⟩) (fun d => tmOk_get (by kernel_rfl)) (fun d => by kernel_rfl) (fun d => ?_)
  exact walk_okT (h0 := H0 s) hη hmix hreg (.steps 8 <| .bit 80 (.steps 6 <| .op <| .steps 2 <| .op <| .op <| .op <| .steps 9 <| .stop [5, 6, 9, 12, 13] none) (.steps 7 <| .bit 90 (.steps 3 <| .op <| .steps 1 <| .call kN <| .op <| .steps 9 <| .done (some ⟨126, [], []⟩)) (.steps 9 <| .done (some ⟨126, [], []⟩)))) (S3 s l0 i0 y0 n0 d) (by kernel_rfl) h (by kernel_rfl)
end RCln
end Go.Ev

namespace Go.Ev
set_option linter.unusedVariables false
set_option linter.unusedSimpArgs false
open Go Go.Proofs
open Go.Ev.T renaming node → nN, nil → nZ
open Go.Proofs.Tryz (prog)
set_option maxRecDepth 100000
set_option maxHeartbeats 2000000
namespace BClone
set_option linter.unusedVariables false
noncomputable def bd : Code := (Go.Proofs.Tryz.f70.body).getD .skip
noncomputable def H0 (s : List UInt8) : AH := { objs := nZ, next := 126 }
noncomputable def E (s : List UInt8) : AS := ⟨⟨70, 5, nN (some (Value.string ⟨⟨s⟩⟩)) nZ nZ, [Item.code (codeAt bd [])], [], FrameMode.run, CallKind.normal, none⟩, [], ⟨nZ, 126⟩⟩
theorem enter {η : Nat → Value} {B : Bd} (hη : OneCells η) (hmix : prog.follows .mixedOrders = true) (hreg : RegOk η prog B noNest) {D : Value → AH → Prop} (s : List UInt8) (h : W.holds η prog B 70 (fun kp_ st_ => RunD η prog B 70 (H0 s) kp_ st_ (QF prog 126 D)) D (.ite ((↑s.length : Int) == (0 : Int)) (.done 70 (Value.string ⟨#[]⟩) (H0 s)) (.need ((0 : Int) ≤ (↑s.length : Int) ∧ (↑s.length : Int) ≤ (↑s.length : Int) ∧ (↑s.length : Int) ≤ (1000000 : Int)) (.need (True ∧ (bytesV (List.take (s.length.min (↑s.length : Int).toNat) s)).length = s.length.min (↑s.length : Int).toNat * (1 : Nat) ∧ (0 : Nat) + (bytesV (List.take (s.length.min (↑s.length : Int).toNat) s)).length ≤ (rep [Value.int IntKind.u8 (0 : Int)] (↑s.length : Int).toNat).length ∧ (bytesV (List.take (s.length.min (↑s.length : Int).toNat) s)).all oneC = true) (.ite (s.length.min (↑s.length : Int).toNat == (0 : Nat)) (.need ((0 : Int) ≤ (0 : Int) ∧ (0 : Int) < (↑(↑s.length : Int).toNat : Int)) (.need ((0 : Int) ≤ (↑(↑s.length : Int).toNat : Int) ∧ (↑(↑s.length : Int).toNat : Int) ≤ (1000000 : Int) ∧ (0 : Nat) + (↑(↑s.length : Int).toNat : Int).toNat ≤ (rep [Value.int IntKind.u8 (0 : Int)] (↑s.length : Int).toNat).length ∧ bytesOf (List.take (↑(↑s.length : Int).toNat : Int).toNat (List.drop (0 : Nat) (rep [Value.int IntKind.u8 (0 : Int)] (↑s.length : Int).toNat))) = Except.ok (bytesIn (rep [Value.int IntKind.u8 (0 : Int)] (↑s.length : Int).toNat) (0 : Nat) (↑(↑s.length : Int).toNat : Int).toNat)) (.ite ((↑(↑s.length : Int).toNat : Int) == (0 : Int)) (.need (True) (.done 70 (Value.string ⟨#[]⟩) (H0 s))) (.need (True) (.done 70 (Value.string ⟨⟨bytesIn (rep [Value.int IntKind.u8 0] (↑s.length : Int).toNat) 0 (↑(↑s.length : Int).toNat : Int).toNat⟩⟩) (H0 s)))))) (.need ((0 : Int) ≤ (0 : Int) ∧ (0 : Int) < (↑(↑s.length : Int).toNat : Int)) (.need ((0 : Int) ≤ (↑(↑s.length : Int).toNat : Int) ∧ (↑(↑s.length : Int).toNat : Int) ≤ (1000000 : Int) ∧ (0 : Nat) + (↑(↑s.length : Int).toNat : Int).toNat ≤ (splice (rep [Value.int IntKind.u8 (0 : Int)] (↑s.length : Int).toNat) (0 : Nat) (bytesV (List.take (s.length.min (↑s.length : Int).toNat) s))).length ∧ bytesOf (List.take (↑(↑s.length : Int).toNat : Int).toNat (List.drop (0 : Nat) (splice (rep [Value.int IntKind.u8 (0 : Int)] (↑s.length : Int).toNat) (0 : Nat) (bytesV (List.take (s.length.min (↑s.length : Int).toNat) s))))) = Except.ok (bytesIn (splice (rep [Value.int IntKind.u8 (0 : Int)] (↑s.length : Int).toNat) (0 : Nat) (bytesV (List.take (s.length.min (↑s.length : Int).toNat) s))) (0 : Nat) (↑(↑s.length : Int).toNat : Int).toNat)) (.ite ((↑(↑s.length : Int).toNat : Int) == (0 : Int)) (.need (True) (.done 70 (Value.string ⟨#[]⟩) (H0 s))) (.need (True) (.done 70 (Value.string ⟨⟨bytesIn (splice (rep [Value.int IntKind.u8 0] (↑s.length : Int).toNat) 0 (bytesV (List.take (s.length.min (↑s.length : Int).toNat) s))) 0 (↑(↑s.length : Int).toNat : Int).toNat⟩⟩) (H0 s))))))))))) : CallSpec η prog B 70 [Value.string ⟨⟨s⟩⟩] (H0 s) D := by
  refine CallSpec.ofQF hη (CallSpec.enter (fr := (E s).fr) (by kernel_rfl) ?_)
  exact walk_okT (h0 := H0 s) hη hmix hreg (.steps 19 <| .bit 6 (.steps 10 <| .done none) (.steps 6 <| .op <| .steps 6 <| .op <| .both (.steps 4 <| .op <| .steps 2 <| .op <| .both (.steps 7 <| .done (some ⟨126, [], []⟩)) (.steps 7 <| .done (some ⟨126, [], []⟩))) (.steps 4 <| .op <| .steps 2 <| .op <| .both (.steps 7 <| .done (some ⟨126, [], []⟩)) (.steps 7 <| .done (some ⟨126, [], []⟩))))) (E s) (by kernel_rfl) h (by kernel_rfl)
end BClone
end Go.Ev

namespace Go.Ev
set_option linter.unusedVariables false
set_option linter.unusedSimpArgs false
open Go Go.Proofs
variable {η : Nat → Value} {P : Program} {B : Bd}
namespace TB
theorem gs9 : Tryz.prog.globals.size < 126 := of_decide_eq_true (by kernel_rfl)
def isInt (n : Int) : Value → Bool
  | .int .i64 m => decide (m = n)
  | _ => false
def isBool (b : Bool) : Value → Bool
  | .bool c => b == c
  | _ => false
theorem isInt_eq {n : Int} {v : Value} (h : isInt n v = true) : v = .int .i64 n := by
  unfold isInt at h
  split at h
  · rw [of_decide_eq_true h]
  · cases h
theorem isBool_eq {b : Bool} {v : Value} (h : isBool b v = true) : v = .bool b := by
  unfold isBool at h
  split at h
  · rw [eq_of_beq h]
  · cases h
end TB
end Go.Ev
namespace Go.Ev
set_option linter.unusedVariables false
set_option linter.unusedSimpArgs false
open Go Go.Proofs
variable {η : Nat → Value} {B : Bd}
theorem at_cons {s : List UInt8} {i : Nat} {c : UInt8} {r : List UInt8} (h : s.drop i = c :: r) : i < s.length ∧ byteAt s (i : Int) = (c.toNat : Int) ∧ s.drop (i + 1) = r := by
  have hi : i < s.length := by
    rcases Nat.lt_or_ge i s.length with h' | h'
    · exact h'
    · rw [List.drop_eq_nil_of_le h'] at h; cases h
  have e : s.drop i = s[i] :: s.drop (i + 1) := List.drop_eq_getElem_cons hi
  rw [h] at e
  injection e with e1 e2
  refine ⟨hi, ?_, e2.symm⟩
  rw [byteAt_get hi, e1]
theorem at_nil {s : List UInt8} {i : Nat} (h : s.drop i = []) : s.length ≤ i := List.drop_eq_nil_iff.1 h
theorem wrap1 {i : Nat} (h : i ≤ 1000000000) : IntKind.i64.wrap ((i : Int) + 1) = ((i + 1 : Nat) : Int) := by
  rw [IntWalk.i64_in _ ⟨by omega, by omega⟩]; rfl
theorem str_args {σ : Nat → Nat} {M : Nat} {s : ByteArray} : L2 (RV σ M true) [.string s] [.string s] := .cons (.string _) .nil
namespace TB
end TB
end Go.Ev
namespace Go.Ev
set_option linter.unusedVariables false
set_option linter.unusedSimpArgs false
open Go Go.Proofs
variable {η : Nat → Value} {B : Bd}
theorem bytesV_app (a b : List UInt8) : bytesV (a ++ b) = bytesV a ++ bytesV b := by unfold bytesV; rw [List.map_append]
theorem bytesV_snoc (d : List UInt8) (c : UInt8) : bytesV d ++ [.int .u8 (c.toNat : Int)] = bytesV (d ++ [c]) := by rw [bytesV_app]; rfl
/-- What a buffer of written bytes gives as a string. -/
theorem buf_ok (d : List UInt8) (h : d.length ≤ 1000000) : (0 : Int) ≤ (d.length : Int) ∧ (d.length : Int) ≤ 1000000 ∧ 0 + ((d.length : Int)).toNat ≤ (bytesV d).length ∧ bytesOf (List.take ((d.length : Int)).toNat (bytesV d)) = Except.ok (bytesIn (bytesV d) 0 ((d.length : Int)).toNat) := by
  rw [Int.toNat_natCast, bytesIn_all, List.take_of_length_le (by rw [bytesV_len]; exact Nat.le_refl _), bytesOf_bytesV, bytesV_len]
  exact ⟨by omega, by omega, by omega, rfl⟩
namespace TB
theorem clone_ok (hη : OneCells η) (hmix : Tryz.prog.follows .mixedOrders = true) (s : List UInt8) (hs : s.length ≤ 1000000) (h : AH) :
    CallSpec η Tryz.prog B 70 [.string ⟨⟨s⟩⟩] h (cloneK [.string ⟨⟨s⟩⟩] h).sat := by
  refine CallSpec.bare (v := .string ⟨⟨s⟩⟩) hη gs9 (fun _ _ => str_args) (fun σ M => .string _) (fun σ M => .string _) ?_ h
  refine BClone.enter hη hmix (reg0 hη hmix) _ ?_
  have e1 : (s.length : Int).toNat = s.length := Int.toNat_natCast _
  have e2 : s.length.min s.length = s.length := Nat.min_self _
  have e3 : List.take s.length s = s := List.take_of_length_le (Nat.le_refl _)
  have e4 : splice (List.replicate s.length (Value.int IntKind.u8 (0 : Int))) 0 (bytesV s) = bytesV s := splice_all (by rw [List.length_replicate, bytesV_len])
  simp only [W.holds, true_and, e1, e2, e3, e4, Int.toNat_natCast, take_bytesV, bytesOf_bytesV, bytesIn_all, bytesV_len, bytesV_one, Nat.mul_one, Nat.zero_add, rep_one, List.length_replicate, beq_iff_eq, beq_eq_false_iff_ne]
  refine ⟨fun h => ?_, fun h => ⟨⟨by omega, by omega, by omega⟩, fun _ => ⟨⟨Nat.le_refl _, trivial⟩, fun _ => ⟨fun h0 => by omega, fun h0 => ⟨⟨by omega, by omega⟩, fun _ => ⟨⟨by omega, by omega, Nat.le_refl _, trivial⟩, fun _ => ⟨fun h1 => by omega, fun _ _ => trivial⟩⟩⟩⟩⟩⟩⟩
  have : s = [] := List.length_eq_zero_iff.1 (by omega)
  rw [this]
end TB
end Go.Ev

namespace Go.Ev
set_option linter.unusedVariables false
set_option linter.unusedSimpArgs false
open Go Go.Proofs
variable {η : Nat → Value} {B : Bd}
theorem app_nn (d : List UInt8) (x : Int) : NoNames (bytesV d ++ [.int .u8 x]) := by
  intro v hv
  rcases List.mem_append.1 hv with h | h
  · exact bytesV_plain d v h
  · rw [List.mem_singleton.1 h]; rfl
theorem RV.tup2 {σ : Nat → Nat} {N : Nat} {w : Bool} {a b : Value} (ha : RV σ N w a a) (hb : RV σ N w b b) : RV σ N w (.tuple ⟨[a, b]⟩) (.tuple ⟨[a, b]⟩) := .tuple rfl fun i v x hv hx => by
  match i, hv, hx with
  | 0, hv, hx => cases hv; cases hx; exact ha
  | 1, hv, hx => cases hv; cases hx; exact hb
namespace TB
end TB
end Go.Ev
namespace Go.Ev
set_option linter.unusedVariables false
set_option linter.unusedSimpArgs false
open Go Go.Proofs
variable {η : Nat → Value} {B : Bd}
namespace TB
/-- What a scan has found when d stands for i bytes. -/
def after (i : Nat) (d : List UInt8) (x : Option (Nat × List UInt8)) : Option (Nat × List UInt8) := x.map fun x => (x.1 + i, d ++ x.2)
end TB
end Go.Ev
namespace Go.Ev
set_option linter.unusedVariables false
set_option linter.unusedSimpArgs false
open Go Go.Proofs
variable {η : Nat → Value} {B : Bd}
namespace TB
end TB
end Go.Ev

namespace Go.Ev
set_option linter.unusedVariables false
set_option linter.unusedSimpArgs false
open Go Go.Proofs
variable {η : Nat → Value} {B : Bd}
namespace TR
open TB
theorem rhex_any (hη : OneCells η) (hmix : Tryz.prog.follows .mixedOrders = true) {n : Int} (h0 : 0 ≤ n) (h1 : n ≤ 255) (h : AH) :
    CallSpec η Tryz.prog B 119 [.int .u8 n] h (KT.ret (.int .i64 (hexN n.toNat)) h).sat := by
  obtain ⟨c, rfl, hc⟩ := u8_of h0 h1
  refine CallSpec.bare hη gs9 (fun σ M => .cons (.int _ _) .nil) (fun σ M => .int _ _) (fun σ M => .int _ _) ?_ h
  refine (RHex.enter hη hmix (reg0 hη hmix) (D := fun v _ => isInt (hexN (c.toNat : Int).toNat) v = true) c (W.pureB_ok ?_)).mono fun v _ hv => isInt_eq hv
  clear h0 h1 hc
  revert c
  exact forall_u8 (by decide +kernel)
theorem rpln_any (hη : OneCells η) (hmix : Tryz.prog.follows .mixedOrders = true) {n : Int} (h0 : 0 ≤ n) (h1 : n ≤ 255) (h : AH) :
    CallSpec η Tryz.prog B 115 [.int .u8 n] h (KT.ret (.bool (plnB (UInt8.ofNat n.toNat))) h).sat := by
  obtain ⟨c, rfl, hc⟩ := u8_of h0 h1
  rw [hc]
  refine CallSpec.bare hη gs9 (fun σ M => .cons (.int _ _) .nil) (fun σ M => .bool _) (fun σ M => .bool _) ?_ h
  refine (RPln.enter hη hmix (reg0 hη hmix) (D := fun v _ => isBool (plnB c) v = true) c (W.pureB_ok ?_)).mono fun v _ hv => isBool_eq hv
  clear h0 h1 hc
  revert c
  exact forall_u8 (by decide +kernel)
theorem ram_any (hη : OneCells η) (hmix : Tryz.prog.follows .mixedOrders = true) {n : Int} (h0 : 0 ≤ n) (h1 : n ≤ 255) (h : AH) :
    CallSpec η Tryz.prog B 116 [.int .u8 n, .string ⟨#[33, 36, 38, 39, 40, 41, 42, 43, 44, 59, 61, 58, 64, 47]⟩] h (KT.ret (.bool (resB (UInt8.ofNat n.toNat))) h).sat := by
  obtain ⟨c, rfl, hc⟩ := u8_of h0 h1
  rw [hc]
  refine CallSpec.bare hη gs9 (fun σ M => .cons (.int _ _) (.cons (.string _) .nil)) (fun σ M => .bool _) (fun σ M => .bool _) ?_ h
  refine (RAm.enter hη hmix (reg0 hη hmix) (D := fun v _ => isBool (resB c) v = true) c (W.pureB_ok ?_)).mono fun v _ hv => isBool_eq hv
  clear h0 h1 hc
  revert c
  exact forall_u8 (by decide +kernel)
theorem rpln_c (hη : OneCells η) (hmix : Tryz.prog.follows .mixedOrders = true) (c : UInt8) (h : AH) : CallSpec η Tryz.prog B 115 [.int .u8 (c.toNat : Int)] h (KT.ret (.bool (plnB c)) h).sat := by
  have := rpln_any (B := B) hη hmix (n := (c.toNat : Int)) (by omega) (by have := c.toNat_lt; omega) h
  rw [Int.toNat_natCast, show UInt8.ofNat c.toNat = c by simp] at this
  exact this
theorem ram_c (hη : OneCells η) (hmix : Tryz.prog.follows .mixedOrders = true) (c : UInt8) (h : AH) : CallSpec η Tryz.prog B 116 [.int .u8 (c.toNat : Int), .string ⟨#[33, 36, 38, 39, 40, 41, 42, 43, 44, 59, 61, 58, 64, 47]⟩] h (KT.ret (.bool (resB c)) h).sat := by
  have := ram_any (B := B) hη hmix (n := (c.toNat : Int)) (by omega) (by have := c.toNat_lt; omega) h
  rw [Int.toNat_natCast, show UInt8.ofNat c.toNat = c by simp] at this
  exact this
theorem byte_rt (c : UInt8) : UInt8.ofNat c.toNat = c := by simp
theorem eq_u8 {c : UInt8} {n : Nat} (hn : n < 256) : ((c.toNat : Int) == (n : Int)) = (c == UInt8.ofNat n) := by
  rw [Bool.eq_iff_iff, beq_iff_eq, beq_iff_eq]
  constructor
  · intro h
    have : c.toNat = n := by omega
    rw [← this]; simp
  · rintro rfl
    simp [Nat.mod_eq_of_lt hn]
theorem eqI {c : UInt8} {n : Nat} (hn : n < 256) : ((c.toNat : Int) = (n : Int)) ↔ c = UInt8.ofNat n := by
  have := eq_u8 (c := c) hn
  rw [Bool.eq_iff_iff, beq_iff_eq, beq_iff_eq] at this
  exact this
theorem encB_cons (c a b : UInt8) (t : List UInt8) : encB (c :: a :: b :: t) = (c == 37 && hexB a && hexB b) := by
  unfold encB encO
  cases hq : (c == 37 && hexB a && hexB b) with
  | false => simp [hq]
  | true => simp [hq]
theorem encB_short {s : List UInt8} (h : s.length < 3) : encB s = false := by
  match s, h with
  | [], _ => rfl
  | [_], _ => rfl
  | [_, _], _ => rfl
  | _ :: _ :: _ :: _, h => simp at h; omega
theorem wrapA {i k : Nat} (h : i + k ≤ 1000000000) : IntKind.i64.wrap ((i : Int) + (k : Int)) = ((i + k : Nat) : Int) := by
  rw [IntWalk.i64_in _ ⟨by omega, by omega⟩]; rfl
theorem enc_ok (hη : OneCells η) (hmix : Tryz.prog.follows .mixedOrders = true) (s : List UInt8) (hs : s.length ≤ 1000000) {i : Nat} (hi : i ≤ s.length) (h : AH) :
    CallSpec η Tryz.prog B 114 [.string ⟨⟨s⟩⟩, .int .i64 (i : Int)] h (KT.ret (.bool (encB (s.drop i))) h).sat := by
  refine CallSpec.bare (v := .bool (encB (s.drop i))) hη gs9 (fun _ _ => .cons (.string _) (.cons (.int _ _) .nil)) (fun σ M => .bool _) (fun σ M => .bool _) ?_ h
  refine REnc.enter hη hmix (reg0 hη hmix) (D := fun v _ => v = .bool (encB (s.drop i))) s (i : Int) ?_
  have w1 : IntKind.i64.wrap ((i : Int) + 1) = ((i + 1 : Nat) : Int) := wrapA (k := 1) (by omega)
  have w2 : IntKind.i64.wrap ((i : Int) + 2) = ((i + 2 : Nat) : Int) := wrapA (k := 2) (by omega)
  simp only [W.holds, w1, w2, true_and, and_true, decide_eq_true_eq, decide_eq_false_iff_not, Value.bool.injEq]
  by_cases hl : i + 2 < s.length
  · obtain ⟨c, a, b, t, hd⟩ : ∃ c a b t, s.drop i = c :: a :: b :: t := by
      have : (s.drop i).length = s.length - i := List.length_drop
      match hq : s.drop i with
      | [] => rw [hq] at this; simp at this; omega
      | [_] => rw [hq] at this; simp at this; omega
      | [_, _] => rw [hq] at this; simp at this; omega
      | c :: a :: b :: t => exact ⟨c, a, b, t, rfl⟩
    obtain ⟨_, q0, d1⟩ := at_cons hd
    obtain ⟨_, q1, d2⟩ := at_cons d1
    obtain ⟨_, q2, _⟩ := at_cons d2
    rw [show i + 1 + 1 = i + 2 by omega] at q2
    rw [hd, encB_cons]
    have e0 : ((c.toNat : Int) == 37) = (c == 37) := eq_u8 (n := 37) (by decide)
    simp only [q0, q1, q2, e0, Int.toNat_natCast]
    have hh : ∀ x : UInt8, (hexN x.toNat ≥ 0) ↔ hexB x = true := fun x => by unfold hexB hexI; rw [decide_eq_true_eq]
    refine ⟨fun _ => ⟨⟨by omega, by omega⟩, fun _ => ⟨fun h1 => ⟨⟨by omega, by omega⟩, fun _ => ⟨rhex_any hη hmix (by omega) (by have := a.toNat_lt; omega) _, fun h2 => ⟨⟨by omega, by omega⟩, fun _ => ⟨rhex_any hη hmix (by omega) (by have := b.toNat_lt; omega) _, ?_⟩⟩, fun h2 => ?_⟩⟩, fun h1 => by rw [h1]; simp⟩⟩, fun h => by omega⟩
    · rw [h1, (hh a).1 h2, Bool.true_and, Bool.true_and]; rfl
    · have : hexB a = false := by cases hq : hexB a with | false => rfl | true => exact absurd ((hh a).2 hq) h2
      rw [this, Bool.and_false, Bool.false_and]
  · have : (s.drop i).length < 3 := by rw [List.length_drop]; omega
    rw [encB_short this]
    exact ⟨fun h => by omega, fun _ => rfl⟩
theorem okT_nil : okT [] = true := by rw [okT]
theorem encB_ne {c : UInt8} {r : List UInt8} (h : c ≠ 37) : encB (c :: r) = false := by
  match r with
  | [] => rfl
  | [_] => rfl
  | a :: b :: t => rw [encB_cons, show (c == 37) = false from by rw [beq_eq_false_iff_ne]; exact h]; rfl
theorem encB_some {c : UInt8} {r : List UInt8} (h : encB (c :: r) = true) : c = 37 ∧ ∃ a b t, r = a :: b :: t ∧ hexB a = true ∧ hexB b = true := by
  match r with
  | [] => cases h
  | [_] => cases h
  | a :: b :: t =>
    rw [encB_cons] at h
    simp only [Bool.and_eq_true, beq_iff_eq] at h
    exact ⟨h.1.1, a, b, t, rfl, h.1.2, h.2⟩
theorem okT_cons (c : UInt8) (r : List UInt8) : okT (c :: r) = if encB (c :: r) then okT (r.drop 2) else (c == 63 || plnB c || resB c) && okT r := by rw [okT]
/-- The mark, as far as it is looked for. -/
def markAt (s : List UInt8) (i : Nat) : Nat := if (s.take i).any (· == 63) then (markL s).length else s.length
theorem take_mark {a : List UInt8} (r : List UInt8) (h : a.any (· == 63) = false) : markL (a ++ 63 :: r) = a := by
  unfold markL
  rw [List.takeWhile_append_of_pos]
  · simp
  · intro x hx
    rw [List.any_eq_false] at h
    have := h x hx
    simpa using this
theorem mark_le (s : List UInt8) : (markL s).length ≤ s.length := (List.takeWhile_sublist _).length_le
theorem markAt_end {s : List UInt8} {i : Nat} (h : s.length ≤ i) : markAt s i = (markL s).length := by
  unfold markAt
  rw [List.take_of_length_le h]
  cases hq : s.any (· == 63) with
  | true => rfl
  | false =>
    have : markL s = s := by
      unfold markL
      rw [List.any_eq_false] at hq
      have key : ∀ l : List UInt8, (∀ x ∈ l, x ≠ 63) → l.takeWhile (· != 63) = l := by
        intro l
        induction l with
        | nil => intro _; rfl
        | cons x l ih => intro hl; rw [List.takeWhile_cons_of_pos (by simpa using hl x (by simp)), ih fun y hy => hl y (by simp [hy])]
      exact key s fun x hx => by have := hq x hx; simpa using this
    rw [this]; rfl
theorem markAt_no {s : List UInt8} {i k : Nat} (h : ∀ j, i ≤ j → j < i + k → s[j]? ≠ some 63) : markAt s (i + k) = markAt s i := by
  have : (s.take (i + k)).any (· == 63) = (s.take i).any (· == 63) := by
    rw [List.take_add, List.any_append]
    have : ((s.drop i).take k).any (· == 63) = false := by
      rw [List.any_eq_false]
      intro x hx
      obtain ⟨j, hj, e⟩ := List.getElem_of_mem hx
      rw [List.getElem_take, List.getElem_drop] at e
      rw [List.length_take, List.length_drop] at hj
      intro h63
      rw [beq_iff_eq] at h63
      exact h (i + j) (by omega) (by omega) (by rw [List.getElem?_eq_getElem (by omega), e, h63])
    rw [this, Bool.or_false]
  unfold markAt
  rw [this]
theorem markAt_at {s : List UInt8} {i : Nat} {r : List UInt8} (hd : s.drop i = 63 :: r) (hi : i < s.length) : markAt s (i + 1) = if i < markAt s i then i else markAt s i := by
  have hs : s = s.take i ++ 63 :: r := by rw [← hd, List.take_append_drop]
  have h1 : (s.take (i + 1)).any (· == 63) = true := by
    rw [List.take_add, hd, List.any_append]; simp
  unfold markAt
  rw [if_pos h1]
  cases hq : (s.take i).any (· == 63) with
  | true =>
    rw [if_pos rfl]
    have : (markL s).length ≤ i := by
      rw [List.any_eq_true] at hq
      obtain ⟨x, hx, h63⟩ := hq
      rw [beq_iff_eq] at h63; subst h63
      obtain ⟨a, b, e⟩ := List.append_of_mem hx
      have e2 : s = a ++ 63 :: (b ++ 63 :: r) := by
        conv => lhs; rw [hs, e]
        simp
      have hl : (s.take i).length ≤ i := by rw [List.length_take]; omega
      rw [e] at hl
      have ha : (markL s).length ≤ a.length := by
        rw [e2]; unfold markL
        rw [List.takeWhile_append]
        split
        · simp
        · exact (List.takeWhile_sublist _).length_le
      simp at hl
      omega
    rw [if_neg (by omega)]
  | false =>
    have hm : markL s = s.take i := by
      have := take_mark r hq
      rwa [← hs] at this
    have hlen : (s.take i).length = i := by rw [List.length_take]; omega
    simp only [hm, hlen, Bool.false_eq_true, if_false, if_pos hi]
theorem hex_no {c : UInt8} (h : hexB c = true) : c ≠ 63 := by
  have := forall_u8 (p := fun c => !hexB c || decide (c ≠ 63)) (by decide +kernel) c
  rw [h] at this; simpa using this
theorem ite_int {a b : Nat} : (if (if false = true then decide ((a : Int) > (b : Int)) else decide ((a : Int) < (b : Int))) = true then (a : Int) else (b : Int)) = ((if a < b then a else b : Nat) : Int) := by
  by_cases h : a < b
  · simp [h]
  · simp [h]
theorem get_drop {s r : List UInt8} {i : Nat} {c : UInt8} (h : s.drop i = c :: r) : s[i]? = some c := by
  have := List.getElem?_drop (xs := s) (i := i) (j := 0)
  rw [h] at this
  simpa using this.symm
set_option maxRecDepth 20000 in
theorem tgt_ok (hη : OneCells η) (hmix : Tryz.prog.follows .mixedOrders = true) (s : List UInt8) (hs : s.length ≤ 1000000) (h : AH) :
    CallSpec η Tryz.prog B 71 [.string ⟨⟨s⟩⟩] h (tgtK [.string ⟨⟨s⟩⟩] h).sat := by
  refine CallSpec.bare (v := .tuple ⟨[.int .i64 (tgtM s), .int .i64 (tgtE s)]⟩) hη gs9 (fun _ _ => str_args) (fun σ M => RV.tup2 (.int _ _) (.int _ _)) (fun σ M => RV.tup2 (.int _ _) (.int _ _)) ?_ h
  have cut := fun i0 i1 => RTgt.cut0 (η := η) (B := B) (D := fun v _ => v = .tuple ⟨[.int .i64 (tgtM s), .int .i64 (tgtE s)]⟩) hη hmix (reg0 hη hmix) s i0 i1
  have bad : ∀ {e : Int}, tgtE s = e → e ≠ 0 → Value.tuple ⟨[.int .i64 0, .int .i64 e]⟩ = .tuple ⟨[.int .i64 (tgtM s), .int .i64 (tgtE s)]⟩ := by
    intro e h1 h2; unfold tgtM; rw [h1, if_neg h2]
  refine RTgt.enter hη hmix (reg0 hη hmix) s ?_
  simp only [W.holds, true_and, and_true, decide_eq_true_eq, decide_eq_false_iff_not, beq_iff_eq, beq_eq_false_iff_ne, ne_eq, bne_iff_ne, bne_eq_false_iff_eq, Bool.not_eq_true', Bool.not_eq_false'] at cut ⊢
  refine ⟨fun h5 => bad (by unfold tgtE; rw [if_pos (by omega)]) (by decide), fun h5 => ⟨fun h0 => bad (by unfold tgtE; rw [if_neg (by omega), h0]) (by decide), fun h0 => ?_⟩⟩
  refine ⟨⟨by omega, by have : 0 < s.length := List.length_pos_iff.2 h0; omega⟩, fun _ => ⟨fun h47 => bad ?_ (by decide), fun h47 => ?_⟩⟩
  · unfold tgtE
    rw [if_neg (by omega)]
    cases s with
    | nil => rfl
    | cons c r =>
      have hb : byteAt (c :: r) ((0 : Nat) : Int) = (c.toNat : Int) := (at_cons (s := c :: r) (i := 0) rfl).2.1
      have : (c == 47) = false := by
        rw [beq_eq_false_iff_ne]
        intro e; exact h47 (hb.trans ((eqI (n := 47) (by decide)).2 e))
      simp [this]
  have hE : tgtE s = if okT s = true then 0 else 6 := by
    unfold tgtE
    rw [if_neg (by omega)]
    cases s with
    | nil => exact absurd rfl h0
    | cons c r =>
      have hb : byteAt (c :: r) ((0 : Nat) : Int) = (c.toNat : Int) := (at_cons (s := c :: r) (i := 0) rfl).2.1
      have : (c == 47) = true := by
        rw [beq_iff_eq]
        exact (eqI (n := 47) (by decide)).1 (hb.symm.trans h47)
      simp [this]
  have loop : ∀ (n : Nat) (r : List UInt8) (i : Nat), r.length ≤ n → s.drop i = r → okT s = okT r → RunD η Tryz.prog B 71 (RTgt.H0 s) [0, 4, 5] (RTgt.S0 s (i : Int) (markAt s i : Int) fun _ => undef) (QF Tryz.prog 126 fun v _ => v = .tuple ⟨[.int .i64 (tgtM s), .int .i64 (tgtE s)]⟩) := by
    intro n
    induction n with
    | zero =>
      intro r i hr hd he
      obtain rfl : r = [] := List.length_eq_zero_iff.1 (by omega)
      have := at_nil hd
      have e0 : tgtE s = 0 := by rw [hE, he, okT_nil]; rfl
      refine cut _ _ ⟨fun h => by omega, fun _ => ?_⟩
      rw [markAt_end this]; unfold tgtM; rw [e0]; rfl
    | succ n ih =>
      intro r i hr hd he
      cases r with
      | nil =>
        have := at_nil hd
        have e0 : tgtE s = 0 := by rw [hE, he, okT_nil]; rfl
        refine cut _ _ ⟨fun h => by omega, fun _ => ?_⟩
        rw [markAt_end this]; unfold tgtM; rw [e0]; rfl
      | cons c r =>
        obtain ⟨hi, hb, hd2⟩ := at_cons hd
        have c1 := cut (i : Int) (markAt s i : Int)
        have w1 := wrap1 (i := i) (by omega)
        have w3 : IntKind.i64.wrap (IntKind.i64.wrap ((i : Int) + 2) + 1) = ((i + 3 : Nat) : Int) := by
          rw [show IntKind.i64.wrap ((i : Int) + 2) = ((i + 2 : Nat) : Int) from wrapA (k := 2) (by omega)]
          exact wrap1 (by omega)
        rw [List.length_cons] at hr
        rw [hb, w1, w3, ite_int] at c1
        simp only [Int.toNat_natCast, hd, byte_rt] at c1
        have e63 : ((c.toNat : Int) = 63) ↔ c = 63 := eqI (n := 63) (by decide)
        have hg := get_drop hd
        have hE6 : okT (c :: r) = false → tgtE s = 6 := fun h => by rw [hE, he, h]; rfl
        refine c1 ⟨fun _ => ⟨⟨by omega, by omega⟩, fun _ => ⟨fun h63 => ?_, fun h63 => ⟨?_, fun hen => ?_, fun hen => ⟨⟨by omega, by omega⟩, fun _ => ⟨?_, fun hp => ⟨⟨by omega, by omega⟩, fun _ => ⟨?_, fun hr2 => ?_, fun hr2 => ?_⟩⟩, fun hp => ?_⟩⟩⟩⟩⟩, fun h => by omega⟩
        · have h63 := e63.1 h63
          subst h63
          rw [← markAt_at hd hi]
          refine ih r (i + 1) (by omega) hd2 ?_
          rw [he, okT_cons, encB_ne (by decide)]; rfl
        · have := enc_ok (B := B) hη hmix s hs (i := i) (by omega) (heapN 126)
          rw [hd] at this
          exact this
        · obtain ⟨rfl, a, b, t, rfl, ha, hb2⟩ := encB_some hen
          obtain ⟨_, _, d3⟩ := at_cons hd2
          have g1 := get_drop hd2
          have g2 := get_drop d3
          have hm := markAt_no (s := s) (i := i) (k := 3) fun j h1 h2 => by
            have : j = i ∨ j = i + 1 ∨ j = i + 2 := by omega
            rcases this with rfl | rfl | rfl
            · rw [hg]; decide
            · rw [g1]; intro e; injection e with e; exact hex_no ha e
            · rw [g2]; intro e; injection e with e; exact hex_no hb2 e
          rw [← hm]
          refine ih t (i + 3) (by simp at hr; omega) (at_cons d3).2.2 ?_
          rw [he, okT_cons, if_pos hen]; rfl
        · exact rpln_c hη hmix c _
        · exact ram_c hη hmix c _
        · exact bad (hE6 (by rw [okT_cons, if_neg (by rw [hen]; simp), hp, hr2, show (c == 63) = false from by rw [beq_eq_false_iff_ne]; exact fun e => h63 (e63.2 e)]; rfl)) (by decide)
        · rw [← markAt_no (k := 1) fun j h1 h2 => by
            obtain rfl : j = i := by omega
            rw [hg]; intro e; injection e with e; exact h63 (e63.2 e)]
          refine ih r (i + 1) (by omega) hd2 ?_
          rw [he, okT_cons, if_neg (by rw [hen]; simp), hr2, Bool.or_true, Bool.true_and]
        · rw [← markAt_no (k := 1) fun j h1 h2 => by
            obtain rfl : j = i := by omega
            rw [hg]; intro e; injection e with e; exact h63 (e63.2 e)]
          refine ih r (i + 1) (by omega) hd2 ?_
          rw [he, okT_cons, if_neg (by rw [hen]; simp), hp, Bool.or_true, Bool.true_or, Bool.true_and]
  have := loop s.length s 0 (Nat.le_refl _) rfl rfl
  have m0 : markAt s 0 = s.length := by unfold markAt; simp
  rw [m0] at this
  exact this
theorem mark_take (s : List UInt8) : s.take (markL s).length = markL s := (List.prefix_iff_eq_take.1 (List.takeWhile_prefix _)).symm
theorem hasQ_iff (s : List UInt8) : hasQ s = true ↔ (markL s).length < s.length := by
  have h := markAt_end (s := s) (i := s.length) (Nat.le_refl _)
  unfold markAt at h
  rw [List.take_length] at h
  have hl := mark_le s
  unfold hasQ
  cases hq : s.any (· == 63) with
  | true =>
    refine ⟨fun _ => ?_, fun _ => rfl⟩
    rw [List.any_eq_true] at hq
    obtain ⟨x, hx, e⟩ := hq
    rw [beq_iff_eq] at e; subst e
    rcases Nat.lt_or_ge (markL s).length s.length with h1 | h1
    · exact h1
    · have : markL s = s := by rw [← mark_take, List.take_of_length_le h1]
      have h2 : (63 : UInt8) ∈ markL s := by rw [this]; exact hx
      have key : ∀ l : List UInt8, (63 : UInt8) ∉ l.takeWhile (· != 63) := by
        intro l
        induction l with
        | nil => simp
        | cons y l ih =>
          by_cases hy : y = 63
          · subst hy; simp
          · rw [List.takeWhile_cons_of_pos (by simpa using hy)]
            simp only [List.mem_cons, not_or]
            exact ⟨fun e => hy e.symm, ih⟩
      exact absurd h2 (key s)
  | false => rw [hq] at h; simp only [Bool.false_eq_true, if_false] at h; exact ⟨fun h => (by cases h), fun h2 => by omega⟩
theorem rv4 {σ : Nat → Nat} {M : Nat} {w : Bool} (a b : List UInt8) (x : Bool) (e : Int) : RV σ M w (.tuple ⟨[.string ⟨⟨a⟩⟩, .string ⟨⟨b⟩⟩, .bool x, .int .i64 e]⟩) (.tuple ⟨[.string ⟨⟨a⟩⟩, .string ⟨⟨b⟩⟩, .bool x, .int .i64 e]⟩) := .tuple rfl fun i v y hv hy => by
  match i, hv, hy with
  | 0, hv, hy => simp at hv hy; subst hv; subst hy; exact .string _
  | 1, hv, hy => simp at hv hy; subst hv; subst hy; exact .string _
  | 2, hv, hy => simp at hv hy; subst hv; subst hy; exact .bool _
  | 3, hv, hy => simp at hv hy; subst hv; subst hy; exact .int _ _
  | i + 4, hv, _ => simp at hv
theorem rspl_ok (hη : OneCells η) (hmix : Tryz.prog.follows .mixedOrders = true) (s : List UInt8) (hs : s.length ≤ 1000000) (h : AH) :
    CallSpec η Tryz.prog B 29 [.string ⟨⟨s⟩⟩] h (splK [.string ⟨⟨s⟩⟩] h).sat := by
  refine CallSpec.bare (v := .tuple ⟨[.string ⟨⟨splP s⟩⟩, .string ⟨⟨splQ s⟩⟩, .bool (splB s), .int .i64 (tgtE s)]⟩) hη gs9 (fun _ _ => str_args) (fun σ M => rv4 _ _ _ _) (fun σ M => rv4 _ _ _ _) ?_ h
  refine RSpl.enter hη hmix (reg0 hη hmix) (D := fun v _ => v = .tuple ⟨[.string ⟨⟨splP s⟩⟩, .string ⟨⟨splQ s⟩⟩, .bool (splB s), .int .i64 (tgtE s)]⟩) s ?_
  simp only [W.holds, true_and, and_true, true_implies, decide_eq_true_eq, decide_eq_false_iff_not, beq_iff_eq, beq_eq_false_iff_ne, ne_eq, bne_iff_ne, bne_eq_false_iff_eq, List.drop_zero, Nat.sub_zero, Nat.le_refl, Int.le_refl, Int.toNat_natCast]
  refine ⟨tgt_ok hη hmix s hs _, fun he => ?_, fun he => ?_⟩
  · unfold splP splQ splB
    rw [if_neg he, if_neg he, show (tgtE s == 0) = false from by rw [beq_eq_false_iff_ne]; exact he]; rfl
  · have hM : tgtM s = ((markL s).length : Int) := by unfold tgtM; rw [if_pos he]
    have hl := mark_le s
    have e1 : splP s = markL s := by unfold splP; rw [if_pos he]
    have e2 : splQ s = qry s := by unfold splQ; rw [if_pos he]
    have e3 : splB s = hasQ s := by unfold splB; rw [he]; rfl
    rw [hM, wrap1 (by omega), Int.toNat_natCast, Int.toNat_natCast, mark_take, e1, e2, e3, he]
    refine ⟨fun hq => ?_, fun hq => ⟨⟨by omega, by omega⟩, fun _ => ⟨⟨by omega, by omega⟩, fun _ => ?_⟩⟩⟩
    · have hq' : (markL s).length = s.length := by omega
      have hm : markL s = s := by rw [← mark_take, hq', List.take_length]
      have hf : hasQ s = false := by
        cases hc : hasQ s with
        | false => rfl
        | true => have := (hasQ_iff s).1 hc; omega
      have hqq : qry s = [] := by unfold qry; rw [hq', List.drop_length]; rfl
      rw [hm, hf, hqq]
    · have hf : hasQ s = true := (hasQ_iff s).2 (by omega)
      have hqq : (s.drop ((markL s).length + 1)).take (s.length - ((markL s).length + 1)) = qry s := by
        unfold qry
        rw [List.drop_drop, List.take_of_length_le (by rw [List.length_drop]; omega)]
      rw [hf, hqq]
end TR
end Go.Ev

namespace Go.Ev
set_option linter.unusedVariables false
set_option linter.unusedSimpArgs false
open Go Go.Proofs
variable {η : Nat → Value} {B : Bd}
namespace TR
open TB
def encX (a b : UInt8) : UInt8 := UInt8.ofNat (16 * hexI a + hexI b).toNat
theorem hex_range {c : UInt8} (h : hexB c = true) : 0 ≤ hexI c ∧ hexI c < 16 := by
  have := forall_u8 (p := fun c => !hexB c || decide (0 ≤ hexI c ∧ hexI c < 16)) (by decide +kernel) c
  rw [h] at this; simpa using this
theorem encX_nat : ∀ a b : Nat, a < 16 → b < 16 → IntKind.u8.wrap (IntKind.i64.wrap (IntKind.i64.wrap (16 * (a : Int)) + (b : Int))) = ((UInt8.ofNat (16 * (a : Int) + (b : Int)).toNat).toNat : Int) := by
  have key : ((List.range 16).all fun a => (List.range 16).all fun b => decide (IntKind.u8.wrap (IntKind.i64.wrap (IntKind.i64.wrap (16 * (a : Int)) + (b : Int))) = ((UInt8.ofNat (16 * (a : Int) + (b : Int)).toNat).toNat : Int))) = true := by decide +kernel
  intro a b ha hb
  have := List.all_eq_true.1 (List.all_eq_true.1 key a (List.mem_range.2 ha)) b (List.mem_range.2 hb)
  exact of_decide_eq_true this
theorem encX_ok {a b : UInt8} (ha : hexB a = true) (hb : hexB b = true) : IntKind.u8.wrap (IntKind.i64.wrap (IntKind.i64.wrap (16 * hexN a.toNat) + hexN b.toNat)) = ((encX a b).toNat : Int) := by
  obtain ⟨a0, a1⟩ := hex_range ha
  obtain ⟨b0, b1⟩ := hex_range hb
  obtain ⟨m, hm⟩ := Int.eq_ofNat_of_zero_le a0
  obtain ⟨n, hn⟩ := Int.eq_ofNat_of_zero_le b0
  have := encX_nat m n (by omega) (by omega)
  unfold encX
  rw [hm, hn]
  unfold hexI at hm hn
  rw [hm, hn]
  exact this
abbrev tbl : List UInt8 := #[48, 49, 50, 51, 52, 53, 54, 55, 56, 57, 65, 66, 67, 68, 69, 70].toList
theorem tbl_ok (x : UInt8) : ((0 : Int) ≤ IntKind.u8.wrap ((x.toNat : Int).tdiv 16) ∧ IntKind.u8.wrap ((x.toNat : Int).tdiv 16) < 16) ∧ ((0 : Int) ≤ (x.toNat : Int).tmod 16 ∧ (x.toNat : Int).tmod 16 < 16) ∧ byteAt tbl (IntKind.u8.wrap ((x.toNat : Int).tdiv 16)) = ((hexU (x.toNat / 16)).toNat : Int) ∧ byteAt tbl ((x.toNat : Int).tmod 16) = ((hexU (x.toNat % 16)).toNat : Int) :=
  of_decide_eq_true (forall_u8 (p := fun x => decide (((0 : Int) ≤ IntKind.u8.wrap ((x.toNat : Int).tdiv 16) ∧ IntKind.u8.wrap ((x.toNat : Int).tdiv 16) < 16) ∧ ((0 : Int) ≤ (x.toNat : Int).tmod 16 ∧ (x.toNat : Int).tmod 16 < 16) ∧ byteAt tbl (IntKind.u8.wrap ((x.toNat : Int).tdiv 16)) = ((hexU (x.toNat / 16)).toNat : Int) ∧ byteAt tbl ((x.toNat : Int).tmod 16) = ((hexU (x.toNat % 16)).toNat : Int))) (by decide +kernel) x)
theorem dec_nil : dec [] = [] := by rw [dec]
theorem dec_no {c : UInt8} {r : List UInt8} (h : encB (c :: r) = false) : dec (c :: r) = c :: dec r := by
  rw [dec]
  unfold encB at h
  cases hq : encO (c :: r) with
  | none => rfl
  | some x => rw [hq] at h; cases h
def out3 (x : UInt8) : List UInt8 := if plnB x then [x] else [37, hexU (x.toNat / 16), hexU (x.toNat % 16)]
theorem encO_yes {a b : UInt8} {t : List UInt8} (ha : hexB a = true) (hb : hexB b = true) : encO (37 :: a :: b :: t) = some (encX a b) := by
  unfold encO encX
  simp [ha, hb]
theorem dec_yes {a b : UInt8} {t : List UInt8} (ha : hexB a = true) (hb : hexB b = true) : dec (37 :: a :: b :: t) = out3 (encX a b) ++ dec t := by
  rw [dec, encO_yes ha hb]; rfl
theorem dec_len : ∀ (n : Nat) (s : List UInt8), s.length ≤ n → (dec s).length ≤ s.length
  | 0, s, h => by
    obtain rfl : s = [] := List.length_eq_zero_iff.1 (by omega)
    rw [dec_nil]; exact Nat.le_refl _
  | n + 1, [], h => by rw [dec_nil]; exact Nat.le_refl _
  | n + 1, c :: r, h => by
    rw [List.length_cons] at h
    cases he : encB (c :: r) with
    | false =>
      rw [dec_no he, List.length_cons, List.length_cons]
      have := dec_len n r (by omega); omega
    | true =>
      obtain ⟨rfl, a, b, t, rfl, ha, hb⟩ := encB_some he
      rw [dec_yes ha hb, List.length_append]
      have := dec_len n t (by simp at h; omega)
      have : (out3 (encX a b)).length ≤ 3 := by unfold out3; split <;> simp
      simp only [List.length_cons]; omega
theorem app_needK (d : List UInt8) (k : Nat) (h : d.length + k ≤ 1000000) : (bytesV d).length = d.length * 1 ∧ d.length + k ≤ 1000000 := ⟨by rw [bytesV_len, Nat.mul_one], h⟩
theorem bytesV_three (d : List UInt8) (x y z : UInt8) : bytesV d ++ [.int .u8 (x.toNat : Int), .int .u8 (y.toNat : Int), .int .u8 (z.toNat : Int)] = bytesV (d ++ [x, y, z]) := by rw [bytesV_app]; rfl
theorem cons_hex {g : FuncId} {h1 h2 : AH} {x y : Int} : consM g [.int .u8 y] h1 (.int .i64 (hexN y.toNat)) h1 [⟨g, [.int .u8 x], h2, .int .i64 (hexN x.toNat), h2⟩] :=
  ⟨fun _ ha hh => by injection ha with ha; injection ha with _ ha; subst ha; exact ⟨rfl, hh⟩, trivial⟩
set_option maxRecDepth 20000 in
theorem rdec_ok (hη : OneCells η) (hmix : Tryz.prog.follows .mixedOrders = true) (s : List UInt8) (hs : s.length ≤ 900000) (h : AH) :
    CallSpec η Tryz.prog B 74 [.string ⟨⟨s⟩⟩] h (decK [.string ⟨⟨s⟩⟩] h).sat := by
  refine CallSpec.bare (v := .string ⟨⟨dec s⟩⟩) hη gs9 (fun _ _ => str_args) (fun σ M => .string _) (fun σ M => .string _) ?_ h
  have cut0 := RDec.cut0 (η := η) (B := B) (D := fun v _ => v = .string ⟨⟨dec s⟩⟩) hη hmix (reg0 hη hmix) s
  have cut1 := fun i0 l0 n0 => RDec.cut1 (η := η) (B := B) (D := fun v _ => v = .string ⟨⟨dec s⟩⟩) hη hmix (reg0 hη hmix) s i0 l0 n0
  refine RDec.enter hη hmix (reg0 hη hmix) s ?_
  simp only [W.holds, true_and, and_true, true_implies, decide_eq_true_eq, decide_eq_false_iff_not, Bool.not_eq_true', Bool.not_eq_false', List.drop_zero, Nat.le_refl, eq_self, cons_hex] at cut0 cut1 ⊢
  have loop : ∀ (n : Nat) (r acc : List UInt8) (i : Nat), r.length ≤ n → s.drop i = r → dec s = acc ++ dec r → acc.length ≤ i → RunD η Tryz.prog B 74 (RDec.H0 s) [0, 3, 4] (RDec.S1 s (i : Int) (bytesV acc) acc.length fun _ => undef) (QF Tryz.prog 126 fun v _ => v = .string ⟨⟨dec s⟩⟩) := by
    have fin : ∀ (acc : List UInt8) (i : Nat), s.length ≤ i → dec s = acc → RunD η Tryz.prog B 74 (RDec.H0 s) [0, 3, 4] (RDec.S1 s (i : Int) (bytesV acc) acc.length fun _ => undef) (QF Tryz.prog 126 fun v _ => v = .string ⟨⟨dec s⟩⟩) := by
      intro acc i hi he
      refine cut1 _ _ _ ⟨fun h => by omega, fun _ => ⟨⟨by rw [bytesV_len]; omega, ?_⟩, fun _ => ?_⟩⟩
      · rw [bytesIn_all, List.take_of_length_le (by rw [bytesV_len]; omega), bytesOf_bytesV]
      · rw [bytesIn_all, he]
    intro n
    induction n with
    | zero =>
      intro r acc i hr hd he hl
      obtain rfl : r = [] := List.length_eq_zero_iff.1 (by omega)
      exact fin acc i (at_nil hd) (by rw [he, dec_nil, List.append_nil])
    | succ n ih =>
      intro r acc i hr hd he hl
      cases r with
      | nil => exact fin acc i (at_nil hd) (by rw [he, dec_nil, List.append_nil])
      | cons c r =>
        obtain ⟨hi, hb, hd2⟩ := at_cons hd
        have c1 := cut1 (i : Int) (bytesV acc) acc.length
        have w1 := wrap1 (i := i) (by omega)
        have w2 : IntKind.i64.wrap ((i : Int) + 2) = ((i + 2 : Nat) : Int) := wrapA (k := 2) (by omega)
        have w3 : IntKind.i64.wrap (((i + 2 : Nat) : Int) + 1) = ((i + 3 : Nat) : Int) := wrap1 (by omega)
        rw [List.length_cons] at hr
        rw [hb, w1, w2, w3] at c1
        simp only [Int.toNat_natCast, hd] at c1
        have enc : ∀ h, CallSpec η Tryz.prog B 114 [.string ⟨⟨s⟩⟩, .int .i64 (i : Int)] h (KT.ret (.bool (encB (c :: r))) h).sat := fun h => by
          have := enc_ok (B := B) hη hmix s (by omega) (i := i) (by omega) h
          rw [hd] at this
          exact this
        refine c1 ⟨fun _ => ⟨enc _, fun hen => ⟨⟨by omega, by omega⟩, fun _ => ⟨app_needK _ _ (by omega), fun _ => ⟨app_nn _ _, fun _ => ?_⟩⟩⟩, fun hen => ?_⟩, fun h => by omega⟩
        · rw [bytesV_snoc]
          have := ih r (acc ++ [c]) (i + 1) (by omega) hd2 (by rw [he, dec_no hen]; simp) (by simp; omega)
          rw [List.length_append, List.length_singleton] at this
          exact this
        · obtain ⟨rfl, a, b, t, rfl, ha, hb2⟩ := encB_some hen
          obtain ⟨hi1, q1, d3⟩ := at_cons hd2
          obtain ⟨hi2, q2, d4⟩ := at_cons d3
          rw [show i + 1 + 1 = i + 2 by omega] at q2
          obtain ⟨t1, t2, t3, t4⟩ := tbl_ok (encX a b)
          rw [q1, q2]
          simp only [Int.toNat_natCast, encX_ok ha hb2, byte_rt, t3, t4]
          rw [dec_yes ha hb2] at he
          have hl3 : (dec s).length ≤ s.length := dec_len _ s (Nat.le_refl _)
          refine ⟨⟨by omega, by omega⟩, fun _ => ⟨rhex_any hη hmix (by omega) (by have := a.toNat_lt; omega) _, ⟨by omega, by omega⟩, fun _ => ⟨rhex_any hη hmix (by omega) (by have := b.toNat_lt; omega) _, rpln_c hη hmix _ _, fun hp => ⟨app_needK _ _ (by omega), fun _ => ⟨app_nn _ _, fun _ => ?_⟩⟩, fun hp => ⟨t1, fun _ => ⟨t2, fun _ => ⟨app_needK _ _ (by omega), fun _ => ⟨?_, fun _ => ?_⟩⟩⟩⟩⟩⟩⟩
          · rw [bytesV_snoc]
            have ho : out3 (encX a b) = [encX a b] := if_pos hp
            have := ih t (acc ++ [encX a b]) (i + 3) (by simp at hr; omega) d4 (by rw [he, ho]; simp) (by simp; omega)
            rw [List.length_append, List.length_singleton] at this
            exact this
          · exact bytesV_three acc 37 _ _ ▸ bytesV_plain _
          · have ho : out3 (encX a b) = [37, hexU ((encX a b).toNat / 16), hexU ((encX a b).toNat % 16)] := if_neg (by rw [hp]; simp)
            have := ih t (acc ++ [37, hexU ((encX a b).toNat / 16), hexU ((encX a b).toNat % 16)]) (i + 3) (by simp at hr; omega) d4 (by rw [he, ho]; simp) (by simp; omega)
            rw [List.length_append, ← bytesV_three] at this
            exact this
  cases s with
  | nil => exact cut0 ⟨fun h => absurd h (by decide), fun _ => by rw [dec_nil]⟩
  | cons c r =>
    have hd : (c :: r).drop 0 = c :: r := rfl
    obtain ⟨hi, hb, hd2⟩ := at_cons hd
    rw [show ((0 : Nat) : Int) = 0 from rfl] at hb
    have enc : ∀ h, CallSpec η Tryz.prog B 114 [.string ⟨⟨c :: r⟩⟩, .int .i64 0] h (KT.ret (.bool (encB (c :: r))) h).sat := fun h =>
      enc_ok (B := B) hη hmix (c :: r) (by omega) (i := 0) (by omega) h
    rw [hb] at cut0
    refine cut0 ⟨fun _ => ⟨enc _, fun hen => ⟨⟨by omega, by omega⟩, fun _ => ?_⟩, fun hen => ?_⟩, fun h => by rw [List.length_cons] at h; omega⟩
    · exact loop r.length r [c] 1 (Nat.le_refl _) rfl (by rw [dec_no hen]; rfl) (Nat.le_refl _)
    · obtain ⟨rfl, a, b, t, rfl, ha, hb2⟩ := encB_some hen
      obtain ⟨hi1, q1, d3⟩ := at_cons hd2
      obtain ⟨hi2, q2, d4⟩ := at_cons d3
      have q1' : byteAt (37 :: a :: b :: t) 1 = (a.toNat : Int) := q1
      have q2' : byteAt (37 :: a :: b :: t) 2 = (b.toNat : Int) := q2
      obtain ⟨t1, t2, t3, t4⟩ := tbl_ok (encX a b)
      rw [q1', q2']
      simp only [Int.toNat_natCast, encX_ok ha hb2, byte_rt, t3, t4]
      refine ⟨⟨by omega, by omega⟩, fun _ => ⟨rhex_any hη hmix (by omega) (by have := a.toNat_lt; omega) _, ⟨by omega, by omega⟩, fun _ => ⟨rhex_any hη hmix (by omega) (by have := b.toNat_lt; omega) _, rpln_c hη hmix _ _, fun hp => ?_, fun hp => ⟨t1, fun _ => ⟨t2, fun _ => ?_⟩⟩⟩⟩⟩
      · have ho : out3 (encX a b) = [encX a b] := if_pos hp
        exact loop t.length t [encX a b] 3 (Nat.le_refl _) rfl (by rw [dec_yes ha hb2, ho]) (by simp)
      · have ho : out3 (encX a b) = [37, hexU ((encX a b).toNat / 16), hexU ((encX a b).toNat % 16)] := if_neg (by rw [hp]; simp)
        exact loop t.length t [37, hexU ((encX a b).toNat / 16), hexU ((encX a b).toNat % 16)] 3 (Nat.le_refl _) rfl (by rw [dec_yes ha hb2, ho]) (by simp)
end TR
end Go.Ev

