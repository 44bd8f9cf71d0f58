/- HLinesC, part 9: what the proof needs, in the order of its texts. -/
import Derived.Test.YtklnjollalaehaaGreatDoorHLinesC8
import Derived.Test.YtklnjollalaehaaGreatDoorProg
import Derived.KernelRfl
namespace Go.Ev
set_option linter.unusedVariables false
set_option linter.unusedSimpArgs false
open Go Go.Proofs
open Go.Ev.T renaming node → nN, nil → nZ
open Go.Proofs.Tryz (prog)
set_option maxRecDepth 100000
set_option maxHeartbeats 2000000
namespace HPrint
set_option linter.unusedVariables false
noncomputable def bd : Code := (Go.Proofs.Tryz.f12.body).getD .skip
noncomputable def H0 (ty : Nat) (o : Nat) (c : List Value) (n : Nat) (cap : Nat) : AH := { objs := nN none nZ (nN none nZ (nN none nZ (nN none nZ (nN none nZ (nN none nZ (nN (some (AObj.cells ty c false 0)) nZ nZ)))))), next := 127 }
noncomputable def E (ty : Nat) (o : Nat) (c : List Value) (n : Nat) (cap : Nat) : AS := ⟨⟨12, 30, nN (some (Value.slice (some ⟨126, o, none⟩) n cap)) nZ nZ, [Item.code (codeAt bd [])], [], FrameMode.run, CallKind.normal, none⟩, [], ⟨nN none nZ (nN none nZ (nN none nZ (nN none nZ (nN none nZ (nN none nZ (nN (some (AObj.cells ty c false 0)) nZ nZ)))))), 127⟩⟩
noncomputable def S0 (ty : Nat) (o : Nat) (c : List Value) (n : Nat) (cap : Nat)  (d : Nat → Value) : AS := ⟨⟨12, 30, nN (some (d 0)) (nN (some (d 1)) (nN (some (d 3)) (nN (some (d 7)) (nN (some (Value.int IntKind.i64 0)) nZ nZ) (nN (some (d 23)) nZ nZ)) (nN (some (d 11)) (nN (some (d 19)) nZ nZ) (nN (some (d 27)) nZ nZ))) (nN (some (Value.pointer (some ⟨127, 0, none⟩))) (nN (some (d 9)) (nN (some (d 17)) nZ nZ) (nN (some (d 25)) nZ nZ)) (nN (some (Value.slice (some ⟨126, o, none⟩) n cap)) (nN (some (d 21)) nZ nZ) (nN (some (d 29)) nZ nZ)))) (nN (some (d 2)) (nN (some (d 4)) (nN (some (d 8)) (nN (some (d 16)) nZ nZ) (nN (some (d 24)) nZ nZ)) (nN (some (d 12)) (nN (some (d 20)) nZ nZ) (nN (some (d 28)) nZ nZ))) (nN (some (d 6)) (nN (some (d 10)) (nN (some (d 18)) nZ nZ) (nN (some (d 26)) nZ nZ)) (nN (some (Value.int IntKind.i64 (↑n : Int))) (nN (some (d 22)) nZ nZ) nZ))), [Item.code (codeAt bd [1, 1, 1, 0, 1, 0, 0]), Item.inLoop (codeAt bd [1, 1, 1, 0, 1, 0, 0]), Item.inBlock 0, Item.code (codeAt bd [1, 1, 1, 1])], [], FrameMode.run, CallKind.normal, none⟩, [], ⟨nN none (nN none (nN none (nN none (nN none (nN none (nN none (nN (some (AObj.cells 63 [Value.pointer none, Value.slice none 0 0] true 2)) nZ nZ) nZ) nZ) nZ) nZ) nZ) nZ) (nN none nZ (nN none nZ (nN none nZ (nN none nZ (nN none nZ (nN (some (AObj.cells ty c false 0)) nZ nZ)))))), 128⟩⟩
noncomputable def S1 (ty : Nat) (o : Nat) (c : List Value) (n : Nat) (cap : Nat) (i0 : Int) (d : Nat → Value) : AS := ⟨⟨12, 30, nN (some (d 0)) (nN (some (d 1)) (nN (some (d 3)) (nN (some (d 7)) (nN (some (Value.int IntKind.i64 i0)) nZ nZ) (nN (some (d 23)) nZ nZ)) (nN (some (d 11)) (nN (some (d 19)) nZ nZ) (nN (some (d 27)) nZ nZ))) (nN (some (Value.pointer (some ⟨127, 0, none⟩))) (nN (some (d 9)) (nN (some (d 17)) nZ nZ) (nN (some (d 25)) nZ nZ)) (nN (some (Value.slice (some ⟨126, o, none⟩) n cap)) (nN (some (d 21)) nZ nZ) (nN (some (d 29)) nZ nZ)))) (nN (some (d 2)) (nN (some (d 4)) (nN (some (d 8)) (nN (some (d 16)) nZ nZ) (nN (some (d 24)) nZ nZ)) (nN (some (d 12)) (nN (some (d 20)) nZ nZ) (nN (some (d 28)) nZ nZ))) (nN (some (d 6)) (nN (some (d 10)) (nN (some (d 18)) nZ nZ) (nN (some (d 26)) nZ nZ)) (nN (some (Value.int IntKind.i64 (↑n : Int))) (nN (some (d 22)) nZ nZ) nZ))), [Item.code (codeAt bd [1, 1, 1, 0, 1, 0, 0]), Item.inLoop (codeAt bd [1, 1, 1, 0, 1, 0, 0]), Item.inBlock 0, Item.code (codeAt bd [1, 1, 1, 1])], [], FrameMode.run, CallKind.normal, none⟩, [], ⟨nN none (nN none (nN none (nN none (nN none (nN none (nN none (nN (some (AObj.cells 63 [Value.pointer (some ⟨127, 0, none⟩), Value.slice none 0 0] true 2)) nZ nZ) nZ) nZ) nZ) nZ) nZ) nZ) (nN none nZ (nN none nZ (nN none nZ (nN none nZ (nN none nZ (nN (some (AObj.cells ty c false 0)) nZ nZ)))))), 128⟩⟩
noncomputable def S2 (ty : Nat) (o : Nat) (c : List Value) (n : Nat) (cap : Nat) (i0 : Int) (n0 : Nat) (l0 : List Value) (d : Nat → Value) : AS := ⟨⟨12, 30, nN (some (d 0)) (nN (some (d 1)) (nN (some (d 3)) (nN (some (d 7)) (nN (some (Value.int IntKind.i64 i0)) nZ nZ) (nN (some (d 23)) nZ nZ)) (nN (some (d 11)) (nN (some (d 19)) nZ nZ) (nN (some (d 27)) nZ nZ))) (nN (some (Value.pointer (some ⟨127, 0, none⟩))) (nN (some (d 9)) (nN (some (d 17)) nZ nZ) (nN (some (d 25)) nZ nZ)) (nN (some (Value.slice (some ⟨126, o, none⟩) n cap)) (nN (some (d 21)) nZ nZ) (nN (some (d 29)) nZ nZ)))) (nN (some (d 2)) (nN (some (d 4)) (nN (some (d 8)) (nN (some (d 16)) nZ nZ) (nN (some (d 24)) nZ nZ)) (nN (some (d 12)) (nN (some (d 20)) nZ nZ) (nN (some (d 28)) nZ nZ))) (nN (some (d 6)) (nN (some (d 10)) (nN (some (d 18)) nZ nZ) (nN (some (d 26)) nZ nZ)) (nN (some (Value.int IntKind.i64 (↑n : Int))) (nN (some (d 22)) nZ nZ) nZ))), [Item.code (codeAt bd [1, 1, 1, 0, 1, 0, 0]), Item.inLoop (codeAt bd [1, 1, 1, 0, 1, 0, 0]), Item.inBlock 0, Item.code (codeAt bd [1, 1, 1, 1])], [], FrameMode.run, CallKind.normal, none⟩, [], ⟨nN none (nN none (nN none (nN none (nN none (nN none (nN none (nN (some (AObj.cells 63 [Value.pointer (some ⟨127, 0, none⟩), Value.slice (some ⟨128, 0, none⟩) n0 9223372036854775809] true 2)) nZ nZ) nZ) nZ) nZ) nZ) nZ) nZ) (nN none (nN none (nN none (nN none (nN none (nN none (nN (some (AObj.cells 5 l0 false 2)) nZ nZ) nZ) nZ) nZ) nZ) nZ) (nN none nZ (nN none nZ (nN none nZ (nN none nZ (nN (some (AObj.cells ty c false 0)) nZ nZ)))))), 129⟩⟩
theorem enter {η : Nat → Value} {B : Bd} (hη : OneCells η) (hmix : prog.follows .mixedOrders = true) (hreg : RegOk η prog B noNest) {D : Value → AH → Prop} (ty : Nat) (o : Nat) (c : List Value) (n : Nat) (cap : Nat) (h : W.holds η prog B 12 (fun kp_ st_ => RunD η prog B 12 (H0 ty o c n cap) kp_ st_ (QF prog 127 D)) D (.call 17 [Value.slice (some ⟨126, o, none⟩) n cap] (⟨nN none nZ (nN none nZ (nN none nZ (nN none nZ (nN none nZ (nN none nZ (nN (some (AObj.cells ty c false 0)) nZ nZ)))))), 127⟩) (.ret (Value.int IntKind.i64 (TH.chk (TH.fieldsAt ⟨nN none nZ (nN none nZ (nN none nZ (nN none nZ (nN none nZ (nN none nZ (nN (some (AObj.cells ty c false 0)) nZ nZ)))))), 127⟩ (Value.slice (some ⟨126, o, none⟩) n cap)))) (⟨nN none nZ (nN none nZ (nN none nZ (nN none nZ (nN none nZ (nN none nZ (nN (some (AObj.cells ty c false 0)) nZ nZ)))))), 127⟩)) (.ite (TH.chk (TH.fieldsAt ⟨nN none nZ (nN none nZ (nN none nZ (nN none nZ (nN none nZ (nN none nZ (nN (some (AObj.cells ty c false (0 : Nat))) nZ nZ)))))), (127 : Nat)⟩ (Value.slice (some ⟨(126 : Nat), o, none⟩) n cap)) != (0 : Int)) (.done 12 (Value.tuple ⟨[Value.string ⟨#[]⟩, Value.int IntKind.i64 (TH.chk (TH.fieldsAt ⟨nN none nZ (nN none nZ (nN none nZ (nN none nZ (nN none nZ (nN none nZ (nN (some (AObj.cells ty c false 0)) nZ nZ)))))), 127⟩ (Value.slice (some ⟨126, o, none⟩) n cap)))]⟩) (H0 ty o c n cap)) (.stop [5, 13, 14, 15] (S0 ty o c n cap  (fun _ => undef)))))) : CallSpec η prog B 12 [Value.slice (some ⟨126, o, none⟩) n cap] (H0 ty o c n cap) D := by
  refine CallSpec.ofQF hη (CallSpec.enter (fr := (E ty o c n cap).fr) (by kernel_rfl) ?_)
  exact walk_okT (h0 := H0 ty o c n cap) hη hmix hreg (.steps 9 <| .call kN <| .steps 7 <| .bit 11 (.steps 8 <| .done none) (.steps 15 <| .stop [5, 13, 14, 15] none)) (E ty o c n cap) (by kernel_rfl) h (by kernel_rfl)
theorem cut0 {η : Nat → Value} {B : Bd} (hη : OneCells η) (hmix : prog.follows .mixedOrders = true) (hreg : RegOk η prog B noNest) {D : Value → AH → Prop} (ty : Nat) (o : Nat) (c : List Value) (n : Nat) (cap : Nat)  (h : W.holds η prog B 12 (fun kp_ st_ => RunD η prog B 12 (H0 ty o c n cap) kp_ st_ (QF prog 127 D)) D (.ite (decide ((0 : Int) < (↑n : Int))) (.need ((0 : Int) ≤ (0 : Int) ∧ (0 : Int) < (↑n : Int)) (.need (o + (0 : Nat) + (2 : Nat) ≤ c.length ∧ List.take (2 : Nat) (List.drop (o + (0 : Nat)) c) = [Value.string ⟨⟨strAt c (o + (0 : Nat))⟩⟩, Value.string ⟨⟨strAt c (o + (0 : Nat) + (1 : Nat))⟩⟩]) (.need ((strAt c (o + (0 : Nat))).length + (2 : Nat) ≤ (9223372036854775807 : Nat)) (.need ((strAt c (o + (0 : Nat)) ++ #[OfNat.ofNat (58 : Nat), OfNat.ofNat (32 : Nat)].toList).length + (strAt c (o + (0 : Nat) + (1 : Nat))).length ≤ (9223372036854775807 : Nat)) (.need ((strAt c (o + (0 : Nat)) ++ #[OfNat.ofNat (58 : Nat), OfNat.ofNat (32 : Nat)].toList ++ strAt c (o + (0 : Nat) + (1 : Nat))).length + (2 : Nat) ≤ (9223372036854775807 : Nat)) (.need (True ∧ (strAt c (o + (0 : Nat)) ++ #[OfNat.ofNat (58 : Nat), OfNat.ofNat (32 : Nat)].toList ++ strAt c (o + (0 : Nat) + (1 : Nat)) ++ #[OfNat.ofNat (13 : Nat), OfNat.ofNat (10 : Nat)].toList).length ≤ (1000000 : Nat) ∧ (bytesV (List.take (strAt c (o + (0 : Nat)) ++ #[OfNat.ofNat (58 : Nat), OfNat.ofNat (32 : Nat)].toList ++ strAt c (o + (0 : Nat) + (1 : Nat)) ++ #[OfNat.ofNat (13 : Nat), OfNat.ofNat (10 : Nat)].toList).length (strAt c (o + (0 : Nat)) ++ #[OfNat.ofNat (58 : Nat), OfNat.ofNat (32 : Nat)].toList ++ strAt c (o + (0 : Nat) + (1 : Nat)) ++ #[OfNat.ofNat (13 : Nat), OfNat.ofNat (10 : Nat)].toList))).length = (strAt c (o + (0 : Nat)) ++ #[OfNat.ofNat (58 : Nat), OfNat.ofNat (32 : Nat)].toList ++ strAt c (o + (0 : Nat) + (1 : Nat)) ++ #[OfNat.ofNat (13 : Nat), OfNat.ofNat (10 : Nat)].toList).length * (1 : Nat) ∧ (bytesV (List.take (strAt c (o + (0 : Nat)) ++ #[OfNat.ofNat (58 : Nat), OfNat.ofNat (32 : Nat)].toList ++ strAt c (o + (0 : Nat) + (1 : Nat)) ++ #[OfNat.ofNat (13 : Nat), OfNat.ofNat (10 : Nat)].toList).length (strAt c (o + (0 : Nat)) ++ #[OfNat.ofNat (58 : Nat), OfNat.ofNat (32 : Nat)].toList ++ strAt c (o + (0 : Nat) + (1 : Nat)) ++ #[OfNat.ofNat (13 : Nat), OfNat.ofNat (10 : Nat)].toList))).all oneC = true) (.ite ((strAt c (o + (0 : Nat)) ++ #[OfNat.ofNat (58 : Nat), OfNat.ofNat (32 : Nat)].toList ++ strAt c (o + (0 : Nat) + (1 : Nat)) ++ #[OfNat.ofNat (13 : Nat), OfNat.ofNat (10 : Nat)].toList).length == (0 : Nat)) (.need (NoNames c ∧ True ∧ True) (.stop [5, 13, 14, 15] (S1 ty o c n cap (1) (fun _ => undef)))) (.need (NoNames c ∧ True ∧ NoNames ([] ++ bytesV (List.take (strAt c (o + (0 : Nat)) ++ #[OfNat.ofNat (58 : Nat), OfNat.ofNat (32 : Nat)].toList ++ strAt c (o + (0 : Nat) + (1 : Nat)) ++ #[OfNat.ofNat (13 : Nat), OfNat.ofNat (10 : Nat)].toList).length (strAt c (o + (0 : Nat)) ++ #[OfNat.ofNat (58 : Nat), OfNat.ofNat (32 : Nat)].toList ++ strAt c (o + (0 : Nat) + (1 : Nat)) ++ #[OfNat.ofNat (13 : Nat), OfNat.ofNat (10 : Nat)].toList))) ∧ True) (.stop [5, 13, 14, 15] (S2 ty o c n cap (1) (0 + (strAt c (o + 0) ++ #[OfNat.ofNat 58, OfNat.ofNat 32].toList ++ strAt c (o + 0 + 1) ++ #[OfNat.ofNat 13, OfNat.ofNat 10].toList).length) ([] ++ bytesV (List.take (strAt c (o + 0) ++ #[OfNat.ofNat 58, OfNat.ofNat 32].toList ++ strAt c (o + 0 + 1) ++ #[OfNat.ofNat 13, OfNat.ofNat 10].toList).length (strAt c (o + 0) ++ #[OfNat.ofNat 58, OfNat.ofNat 32].toList ++ strAt c (o + 0 + 1) ++ #[OfNat.ofNat 13, OfNat.ofNat 10].toList))) (fun _ => undef))))))))))) (.need (NoNames c ∧ True) (.done 12 (Value.tuple ⟨[Value.string ⟨⟨[UInt8.ofNat 13, UInt8.ofNat 10]⟩⟩, Value.int IntKind.i64 0]⟩) (H0 ty o c n cap))))) : RunD η prog B 12 (H0 ty o c n cap) [5, 13, 14, 15] (S0 ty o c n cap  fun _ => undef) (QF prog 127 D) := by
  refine RunD.intro (S0 ty o c n cap ) (fun d => ⟨rfl, rfl, rfl⟩) (fun d => tmOk_get (by kernel_rfl)) (fun d => by kernel_rfl) (fun d => ?_)
  exact walk_okT (h0 := H0 ty o c n cap) hη hmix hreg (.steps 5 <| .bit 16 (.steps 6 <| .op <| .op <| .steps 6 <| .op <| .steps 2 <| .op <| .op <| .steps 40 <| .op <| .both (.steps 20 <| .stop [5, 13, 14, 15] (some ⟨128, [(127, 127)], [(126, (126, true)), (127, (127, false))]⟩)) (.steps 20 <| .stop [5, 13, 14, 15] (some ⟨129, [(127, 127), (129, 128)], [(126, (126, true)), (127, (127, false)), (128, (129, true))]⟩))) (.steps 67 <| .reg <| .steps 12 <| .reg <| .steps 6 <| .done (some ⟨127, [], [(126, (126, true))]⟩))) (S0 ty o c n cap  d) (by kernel_rfl) h (by kernel_rfl)
theorem cut1 {η : Nat → Value} {B : Bd} (hη : OneCells η) (hmix : prog.follows .mixedOrders = true) (hreg : RegOk η prog B noNest) {D : Value → AH → Prop} (ty : Nat) (o : Nat) (c : List Value) (n : Nat) (cap : Nat) (i0 : Int) (h : W.holds η prog B 12 (fun kp_ st_ => RunD η prog B 12 (H0 ty o c n cap) kp_ st_ (QF prog 127 D)) D (.ite (decide (i0 < (↑n : Int))) (.need ((0 : Int) ≤ i0 ∧ i0 < (↑n : Int)) (.need (o + i0.toNat * (2 : Nat) + (2 : Nat) ≤ c.length ∧ List.take (2 : Nat) (List.drop (o + i0.toNat * (2 : Nat)) c) = [Value.string ⟨⟨strAt c (o + i0.toNat * (2 : Nat))⟩⟩, Value.string ⟨⟨strAt c (o + i0.toNat * (2 : Nat) + (1 : Nat))⟩⟩]) (.need ((strAt c (o + i0.toNat * (2 : Nat))).length + (2 : Nat) ≤ (9223372036854775807 : Nat)) (.need ((strAt c (o + i0.toNat * (2 : Nat)) ++ #[OfNat.ofNat (58 : Nat), OfNat.ofNat (32 : Nat)].toList).length + (strAt c (o + i0.toNat * (2 : Nat) + (1 : Nat))).length ≤ (9223372036854775807 : Nat)) (.need ((strAt c (o + i0.toNat * (2 : Nat)) ++ #[OfNat.ofNat (58 : Nat), OfNat.ofNat (32 : Nat)].toList ++ strAt c (o + i0.toNat * (2 : Nat) + (1 : Nat))).length + (2 : Nat) ≤ (9223372036854775807 : Nat)) (.need (True ∧ (strAt c (o + i0.toNat * (2 : Nat)) ++ #[OfNat.ofNat (58 : Nat), OfNat.ofNat (32 : Nat)].toList ++ strAt c (o + i0.toNat * (2 : Nat) + (1 : Nat)) ++ #[OfNat.ofNat (13 : Nat), OfNat.ofNat (10 : Nat)].toList).length ≤ (1000000 : Nat) ∧ (bytesV (List.take (strAt c (o + i0.toNat * (2 : Nat)) ++ #[OfNat.ofNat (58 : Nat), OfNat.ofNat (32 : Nat)].toList ++ strAt c (o + i0.toNat * (2 : Nat) + (1 : Nat)) ++ #[OfNat.ofNat (13 : Nat), OfNat.ofNat (10 : Nat)].toList).length (strAt c (o + i0.toNat * (2 : Nat)) ++ #[OfNat.ofNat (58 : Nat), OfNat.ofNat (32 : Nat)].toList ++ strAt c (o + i0.toNat * (2 : Nat) + (1 : Nat)) ++ #[OfNat.ofNat (13 : Nat), OfNat.ofNat (10 : Nat)].toList))).length = (strAt c (o + i0.toNat * (2 : Nat)) ++ #[OfNat.ofNat (58 : Nat), OfNat.ofNat (32 : Nat)].toList ++ strAt c (o + i0.toNat * (2 : Nat) + (1 : Nat)) ++ #[OfNat.ofNat (13 : Nat), OfNat.ofNat (10 : Nat)].toList).length * (1 : Nat) ∧ (bytesV (List.take (strAt c (o + i0.toNat * (2 : Nat)) ++ #[OfNat.ofNat (58 : Nat), OfNat.ofNat (32 : Nat)].toList ++ strAt c (o + i0.toNat * (2 : Nat) + (1 : Nat)) ++ #[OfNat.ofNat (13 : Nat), OfNat.ofNat (10 : Nat)].toList).length (strAt c (o + i0.toNat * (2 : Nat)) ++ #[OfNat.ofNat (58 : Nat), OfNat.ofNat (32 : Nat)].toList ++ strAt c (o + i0.toNat * (2 : Nat) + (1 : Nat)) ++ #[OfNat.ofNat (13 : Nat), OfNat.ofNat (10 : Nat)].toList))).all oneC = true) (.ite ((strAt c (o + i0.toNat * (2 : Nat)) ++ #[OfNat.ofNat (58 : Nat), OfNat.ofNat (32 : Nat)].toList ++ strAt c (o + i0.toNat * (2 : Nat) + (1 : Nat)) ++ #[OfNat.ofNat (13 : Nat), OfNat.ofNat (10 : Nat)].toList).length == (0 : Nat)) (.need (NoNames c ∧ True ∧ True) (.stop [5, 13, 14, 15] (S1 ty o c n cap (IntKind.i64.wrap (i0 + 1)) (fun _ => undef)))) (.need (NoNames c ∧ True ∧ NoNames ([] ++ bytesV (List.take (strAt c (o + i0.toNat * (2 : Nat)) ++ #[OfNat.ofNat (58 : Nat), OfNat.ofNat (32 : Nat)].toList ++ strAt c (o + i0.toNat * (2 : Nat) + (1 : Nat)) ++ #[OfNat.ofNat (13 : Nat), OfNat.ofNat (10 : Nat)].toList).length (strAt c (o + i0.toNat * (2 : Nat)) ++ #[OfNat.ofNat (58 : Nat), OfNat.ofNat (32 : Nat)].toList ++ strAt c (o + i0.toNat * (2 : Nat) + (1 : Nat)) ++ #[OfNat.ofNat (13 : Nat), OfNat.ofNat (10 : Nat)].toList))) ∧ True) (.stop [5, 13, 14, 15] (S2 ty o c n cap (IntKind.i64.wrap (i0 + 1)) (0 + (strAt c (o + i0.toNat * 2) ++ #[OfNat.ofNat 58, OfNat.ofNat 32].toList ++ strAt c (o + i0.toNat * 2 + 1) ++ #[OfNat.ofNat 13, OfNat.ofNat 10].toList).length) ([] ++ bytesV (List.take (strAt c (o + i0.toNat * 2) ++ #[OfNat.ofNat 58, OfNat.ofNat 32].toList ++ strAt c (o + i0.toNat * 2 + 1) ++ #[OfNat.ofNat 13, OfNat.ofNat 10].toList).length (strAt c (o + i0.toNat * 2) ++ #[OfNat.ofNat 58, OfNat.ofNat 32].toList ++ strAt c (o + i0.toNat * 2 + 1) ++ #[OfNat.ofNat 13, OfNat.ofNat 10].toList))) (fun _ => undef))))))))))) (.need (NoNames c ∧ True) (.done 12 (Value.tuple ⟨[Value.string ⟨⟨[UInt8.ofNat 13, UInt8.ofNat 10]⟩⟩, Value.int IntKind.i64 0]⟩) (H0 ty o c n cap))))) : RunD η prog B 12 (H0 ty o c n cap) [5, 13, 14, 15] (S1 ty o c n cap i0 fun _ => undef) (QF prog 127 D) := by
  refine RunD.intro (S1 ty o c n cap i0) (fun d => ⟨rfl, rfl, rfl⟩) (fun d => tmOk_get (by kernel_rfl)) (fun d => by kernel_rfl) (fun d => ?_)
  exact walk_okT (h0 := H0 ty o c n cap) hη hmix hreg (.steps 5 <| .bit 16 (.steps 6 <| .op <| .op <| .steps 6 <| .op <| .steps 2 <| .op <| .op <| .steps 41 <| .op <| .both (.steps 20 <| .stop [5, 13, 14, 15] (some ⟨128, [(127, 127)], [(126, (126, true)), (127, (127, false))]⟩)) (.steps 20 <| .stop [5, 13, 14, 15] (some ⟨129, [(127, 127), (129, 128)], [(126, (126, true)), (127, (127, false)), (128, (129, true))]⟩))) (.steps 68 <| .reg <| .steps 12 <| .reg <| .steps 6 <| .done (some ⟨127, [], [(126, (126, true))]⟩))) (S1 ty o c n cap i0 d) (by kernel_rfl) h (by kernel_rfl)
theorem cut2 {η : Nat → Value} {B : Bd} (hη : OneCells η) (hmix : prog.follows .mixedOrders = true) (hreg : RegOk η prog B noNest) {D : Value → AH → Prop} (ty : Nat) (o : Nat) (c : List Value) (n : Nat) (cap : Nat) (i0 : Int) (n0 : Nat) (l0 : List Value) (h : W.holds η prog B 12 (fun kp_ st_ => RunD η prog B 12 (H0 ty o c n cap) kp_ st_ (QF prog 127 D)) D (.ite (decide (i0 < (↑n : Int))) (.need ((0 : Int) ≤ i0 ∧ i0 < (↑n : Int)) (.need (o + i0.toNat * (2 : Nat) + (2 : Nat) ≤ c.length ∧ List.take (2 : Nat) (List.drop (o + i0.toNat * (2 : Nat)) c) = [Value.string ⟨⟨strAt c (o + i0.toNat * (2 : Nat))⟩⟩, Value.string ⟨⟨strAt c (o + i0.toNat * (2 : Nat) + (1 : Nat))⟩⟩]) (.need ((strAt c (o + i0.toNat * (2 : Nat))).length + (2 : Nat) ≤ (9223372036854775807 : Nat)) (.need ((strAt c (o + i0.toNat * (2 : Nat)) ++ #[OfNat.ofNat (58 : Nat), OfNat.ofNat (32 : Nat)].toList).length + (strAt c (o + i0.toNat * (2 : Nat) + (1 : Nat))).length ≤ (9223372036854775807 : Nat)) (.need ((strAt c (o + i0.toNat * (2 : Nat)) ++ #[OfNat.ofNat (58 : Nat), OfNat.ofNat (32 : Nat)].toList ++ strAt c (o + i0.toNat * (2 : Nat) + (1 : Nat))).length + (2 : Nat) ≤ (9223372036854775807 : Nat)) (.need (True ∧ l0.length = n0 * (1 : Nat) ∧ n0 + (strAt c (o + i0.toNat * (2 : Nat)) ++ #[OfNat.ofNat (58 : Nat), OfNat.ofNat (32 : Nat)].toList ++ strAt c (o + i0.toNat * (2 : Nat) + (1 : Nat)) ++ #[OfNat.ofNat (13 : Nat), OfNat.ofNat (10 : Nat)].toList).length ≤ (1000000 : Nat) ∧ (bytesV (List.take (strAt c (o + i0.toNat * (2 : Nat)) ++ #[OfNat.ofNat (58 : Nat), OfNat.ofNat (32 : Nat)].toList ++ strAt c (o + i0.toNat * (2 : Nat) + (1 : Nat)) ++ #[OfNat.ofNat (13 : Nat), OfNat.ofNat (10 : Nat)].toList).length (strAt c (o + i0.toNat * (2 : Nat)) ++ #[OfNat.ofNat (58 : Nat), OfNat.ofNat (32 : Nat)].toList ++ strAt c (o + i0.toNat * (2 : Nat) + (1 : Nat)) ++ #[OfNat.ofNat (13 : Nat), OfNat.ofNat (10 : Nat)].toList))).length = (strAt c (o + i0.toNat * (2 : Nat)) ++ #[OfNat.ofNat (58 : Nat), OfNat.ofNat (32 : Nat)].toList ++ strAt c (o + i0.toNat * (2 : Nat) + (1 : Nat)) ++ #[OfNat.ofNat (13 : Nat), OfNat.ofNat (10 : Nat)].toList).length * (1 : Nat) ∧ (bytesV (List.take (strAt c (o + i0.toNat * (2 : Nat)) ++ #[OfNat.ofNat (58 : Nat), OfNat.ofNat (32 : Nat)].toList ++ strAt c (o + i0.toNat * (2 : Nat) + (1 : Nat)) ++ #[OfNat.ofNat (13 : Nat), OfNat.ofNat (10 : Nat)].toList).length (strAt c (o + i0.toNat * (2 : Nat)) ++ #[OfNat.ofNat (58 : Nat), OfNat.ofNat (32 : Nat)].toList ++ strAt c (o + i0.toNat * (2 : Nat) + (1 : Nat)) ++ #[OfNat.ofNat (13 : Nat), OfNat.ofNat (10 : Nat)].toList))).all oneC = true) (.need (NoNames c ∧ True ∧ NoNames (l0 ++ bytesV (List.take (strAt c (o + i0.toNat * (2 : Nat)) ++ #[OfNat.ofNat (58 : Nat), OfNat.ofNat (32 : Nat)].toList ++ strAt c (o + i0.toNat * (2 : Nat) + (1 : Nat)) ++ #[OfNat.ofNat (13 : Nat), OfNat.ofNat (10 : Nat)].toList).length (strAt c (o + i0.toNat * (2 : Nat)) ++ #[OfNat.ofNat (58 : Nat), OfNat.ofNat (32 : Nat)].toList ++ strAt c (o + i0.toNat * (2 : Nat) + (1 : Nat)) ++ #[OfNat.ofNat (13 : Nat), OfNat.ofNat (10 : Nat)].toList))) ∧ True) (.stop [5, 13, 14, 15] (S2 ty o c n cap (IntKind.i64.wrap (i0 + 1)) (n0 + (strAt c (o + i0.toNat * 2) ++ #[OfNat.ofNat 58, OfNat.ofNat 32].toList ++ strAt c (o + i0.toNat * 2 + 1) ++ #[OfNat.ofNat 13, OfNat.ofNat 10].toList).length) (l0 ++ bytesV (List.take (strAt c (o + i0.toNat * 2) ++ #[OfNat.ofNat 58, OfNat.ofNat 32].toList ++ strAt c (o + i0.toNat * 2 + 1) ++ #[OfNat.ofNat 13, OfNat.ofNat 10].toList).length (strAt c (o + i0.toNat * 2) ++ #[OfNat.ofNat 58, OfNat.ofNat 32].toList ++ strAt c (o + i0.toNat * 2 + 1) ++ #[OfNat.ofNat 13, OfNat.ofNat 10].toList))) (fun _ => undef)))))))))) (.need (True ∧ l0.length = n0 * (1 : Nat) ∧ n0 + (2 : Nat) ≤ (1000000 : Nat) ∧ (2 : Nat) = (2 : Nat) ∧ true = true) (.need ((0 : Int) ≤ (↑(n0 + (2 : Nat)) : Int) ∧ (↑(n0 + (2 : Nat)) : Int) ≤ (1000000 : Int) ∧ (0 : Nat) + (↑(n0 + (2 : Nat)) : Int).toNat ≤ (l0 ++ [Value.int IntKind.u8 (13 : Int), Value.int IntKind.u8 (10 : Int)]).length ∧ bytesOf (List.take (↑(n0 + (2 : Nat)) : Int).toNat (List.drop (0 : Nat) (l0 ++ [Value.int IntKind.u8 (13 : Int), Value.int IntKind.u8 (10 : Int)]))) = Except.ok (bytesIn (l0 ++ [Value.int IntKind.u8 (13 : Int), Value.int IntKind.u8 (10 : Int)]) (0 : Nat) (↑(n0 + (2 : Nat)) : Int).toNat)) (.ite (false) (.need (NoNames c ∧ True) (.done 12 (Value.tuple ⟨[Value.string ⟨#[]⟩, Value.int IntKind.i64 0]⟩) (H0 ty o c n cap))) (.need (NoNames c ∧ True) (.done 12 (Value.tuple ⟨[Value.string ⟨⟨bytesIn (l0 ++ [Value.int IntKind.u8 13, Value.int IntKind.u8 10]) 0 (↑(n0 + 2) : Int).toNat⟩⟩, Value.int IntKind.i64 0]⟩) (H0 ty o c n cap)))))))) : RunD η prog B 12 (H0 ty o c n cap) [5, 13, 14, 15] (S2 ty o c n cap i0 n0 l0 fun _ => undef) (QF prog 127 D) := by
  refine RunD.intro (S2 ty o c n cap i0 n0 l0) (fun d => ⟨rfl, rfl, rfl⟩) (fun d => tmOk_get (by kernel_rfl)) (fun d => by kernel_rfl) (fun d => ?_)
  exact walk_okT (h0 := H0 ty o c n cap) hη hmix hreg (.steps 5 <| .bit 16 (.steps 6 <| .op <| .op <| .steps 6 <| .op <| .steps 2 <| .op <| .op <| .steps 41 <| .op <| .steps 20 <| .stop [5, 13, 14, 15] (some ⟨129, [(127, 127), (130, 128)], [(126, (126, true)), (127, (127, false)), (128, (130, true))]⟩)) (.steps 45 <| .op <| .steps 22 <| .reg <| .steps 10 <| .op <| .both (.steps 1 <| .reg <| .steps 6 <| .done (some ⟨127, [], [(126, (126, true))]⟩)) (.steps 1 <| .reg <| .steps 6 <| .done (some ⟨127, [], [(126, (126, true))]⟩)))) (S2 ty o c n cap i0 n0 l0 d) (by kernel_rfl) h (by kernel_rfl)
end HPrint
namespace HPrint0
set_option linter.unusedVariables false
noncomputable def bd : Code := (Go.Proofs.Tryz.f12.body).getD .skip
noncomputable def H0 (n : Int) : AH := { objs := nZ, next := 126 }
noncomputable def E (n : Int) : AS := ⟨⟨12, 30, nN (some (Value.slice none 0 0)) nZ nZ, [Item.code (codeAt bd [])], [], FrameMode.run, CallKind.normal, none⟩, [], ⟨nZ, 126⟩⟩
noncomputable def S0 (n : Int)  (d : Nat → Value) : AS := ⟨⟨12, 30, nN (some (d 0)) (nN (some (d 1)) (nN (some (d 3)) (nN (some (d 7)) (nN (some (Value.int IntKind.i64 0)) nZ nZ) (nN (some (d 23)) nZ nZ)) (nN (some (d 11)) (nN (some (d 19)) nZ nZ) (nN (some (d 27)) nZ nZ))) (nN (some (Value.pointer (some ⟨126, 0, none⟩))) (nN (some (d 9)) (nN (some (d 17)) nZ nZ) (nN (some (d 25)) nZ nZ)) (nN (some (Value.slice none 0 0)) (nN (some (d 21)) nZ nZ) (nN (some (d 29)) nZ nZ)))) (nN (some (d 2)) (nN (some (d 4)) (nN (some (d 8)) (nN (some (d 16)) nZ nZ) (nN (some (d 24)) nZ nZ)) (nN (some (d 12)) (nN (some (d 20)) nZ nZ) (nN (some (d 28)) nZ nZ))) (nN (some (d 6)) (nN (some (d 10)) (nN (some (d 18)) nZ nZ) (nN (some (d 26)) nZ nZ)) (nN (some (Value.int IntKind.i64 0)) (nN (some (d 22)) nZ nZ) nZ))), [Item.code (codeAt bd [1, 1, 1, 0, 1, 0, 0]), Item.inLoop (codeAt bd [1, 1, 1, 0, 1, 0, 0]), Item.inBlock 0, Item.code (codeAt bd [1, 1, 1, 1])], [], FrameMode.run, CallKind.normal, none⟩, [], ⟨nN none nZ (nN none nZ (nN none nZ (nN none nZ (nN none nZ (nN none nZ (nN (some (AObj.cells 63 [Value.pointer none, Value.slice none 0 0] true 2)) nZ nZ)))))), 127⟩⟩
theorem enter {η : Nat → Value} {B : Bd} (hη : OneCells η) (hmix : prog.follows .mixedOrders = true) (hreg : RegOk η prog B noNest) {D : Value → AH → Prop} (n : Int) (h : W.holds η prog B 12 (fun kp_ st_ => RunD η prog B 12 (H0 n) kp_ st_ (QF prog 126 D)) D (.call 17 [Value.slice none 0 0] (⟨nZ, 126⟩) (.ret (Value.int IntKind.i64 0) (⟨nZ, 126⟩)) (.stop [5, 13, 14, 15] (S0 n  (fun _ => undef))))) : CallSpec η prog B 12 [Value.slice none 0 0] (H0 n) D := by
  refine CallSpec.ofQF hη (CallSpec.enter (fr := (E n).fr) (by kernel_rfl) ?_)
  exact walk_okT (h0 := H0 n) hη hmix hreg (.steps 9 <| .call kN <| .steps 22 <| .stop [5, 13, 14, 15] none) (E n) (by kernel_rfl) h (by kernel_rfl)
theorem cut0 {η : Nat → Value} {B : Bd} (hη : OneCells η) (hmix : prog.follows .mixedOrders = true) (hreg : RegOk η prog B noNest) {D : Value → AH → Prop} (n : Int)  (h : W.holds η prog B 12 (fun kp_ st_ => RunD η prog B 12 (H0 n) kp_ st_ (QF prog 126 D)) D (.need (True) (.done 12 (Value.tuple ⟨[Value.string ⟨⟨[UInt8.ofNat 13, UInt8.ofNat 10]⟩⟩, Value.int IntKind.i64 0]⟩) (H0 n)))) : RunD η prog B 12 (H0 n) [5, 13, 14, 15] (S0 n  fun _ => undef) (QF prog 126 D) := by
  refine RunD.intro (S0 n ) (fun d => ⟨rfl, rfl, rfl⟩) (fun d => tmOk_get (by kernel_rfl)) (fun d => by kernel_rfl) (fun d => ?_)
  exact walk_okT (h0 := H0 n) hη hmix hreg (.steps 72 <| .reg <| .steps 12 <| .reg <| .steps 6 <| .done (some ⟨126, [], []⟩)) (S0 n  d) (by kernel_rfl) h (by kernel_rfl)
end HPrint0
namespace HRPrint
set_option linter.unusedVariables false
noncomputable def bd : Code := (Go.Proofs.Tryz.f13.body).getD .skip
noncomputable def H0 (ty : Nat) (o : Nat) (c : List Value) (n : Nat) (cap : Nat) : AH := { objs := nN none nZ (nN none nZ (nN none nZ (nN none nZ (nN none nZ (nN none nZ (nN (some (AObj.cells ty c false 0)) nZ nZ)))))), next := 127 }
noncomputable def E (ty : Nat) (o : Nat) (c : List Value) (n : Nat) (cap : Nat) : AS := ⟨⟨13, 12, nN (some (Value.slice (some ⟨126, o, none⟩) n cap)) nZ nZ, [Item.code (codeAt bd [])], [], FrameMode.run, CallKind.normal, none⟩, [], ⟨nN none nZ (nN none nZ (nN none nZ (nN none nZ (nN none nZ (nN none nZ (nN (some (AObj.cells ty c false 0)) nZ nZ)))))), 127⟩⟩
theorem enter {η : Nat → Value} {B : Bd} (hη : OneCells η) (hmix : prog.follows .mixedOrders = true) (hreg : RegOk η prog B noNest) {D : Value → AH → Prop} (ty : Nat) (o : Nat) (c : List Value) (n : Nat) (cap : Nat) (h : W.holds η prog B 13 (fun kp_ st_ => RunD η prog B 13 (H0 ty o c n cap) kp_ st_ (QF prog 127 D)) D (.call 45 [Value.slice (some ⟨126, o, none⟩) n cap] (⟨nN none nZ (nN none nZ (nN none nZ (nN none nZ (nN none nZ (nN none nZ (nN (some (AObj.cells ty c false 0)) nZ nZ)))))), 127⟩) (.ret (Value.int IntKind.i64 (TH.chk (TH.fieldsAt ⟨nN none nZ (nN none nZ (nN none nZ (nN none nZ (nN none nZ (nN none nZ (nN (some (AObj.cells ty c false 0)) nZ nZ)))))), 127⟩ (Value.slice (some ⟨126, o, none⟩) n cap)))) (⟨nN none nZ (nN none nZ (nN none nZ (nN none nZ (nN none nZ (nN none nZ (nN (some (AObj.cells ty c false 0)) nZ nZ)))))), 127⟩)) (.ite (TH.chk (TH.fieldsAt ⟨nN none nZ (nN none nZ (nN none nZ (nN none nZ (nN none nZ (nN none nZ (nN (some (AObj.cells ty c false (0 : Nat))) nZ nZ)))))), (127 : Nat)⟩ (Value.slice (some ⟨(126 : Nat), o, none⟩) n cap)) != (0 : Int)) (.done 13 (Value.tuple ⟨[Value.string ⟨#[]⟩, Value.int IntKind.i64 (TH.chk (TH.fieldsAt ⟨nN none nZ (nN none nZ (nN none nZ (nN none nZ (nN none nZ (nN none nZ (nN (some (AObj.cells ty c false 0)) nZ nZ)))))), 127⟩ (Value.slice (some ⟨126, o, none⟩) n cap)))]⟩) (H0 ty o c n cap)) (.call 46 [Value.slice (some ⟨126, o, none⟩) n cap] (⟨nN none nZ (nN none nZ (nN none nZ (nN none nZ (nN none nZ (nN none nZ (nN (some (AObj.cells ty c false 0)) nZ nZ)))))), 127⟩) (.ret (Value.string ⟨⟨TH.lns (TH.fieldsAt ⟨nN none nZ (nN none nZ (nN none nZ (nN none nZ (nN none nZ (nN none nZ (nN (some (AObj.cells ty c false 0)) nZ nZ)))))), 127⟩ (Value.slice (some ⟨126, o, none⟩) n cap)) ++ [OfNat.ofNat 13, OfNat.ofNat 10]⟩⟩) (⟨nN none nZ (nN none nZ (nN none nZ (nN none nZ (nN none nZ (nN none nZ (nN (some (AObj.cells ty c false 0)) nZ nZ)))))), 127⟩)) (.done 13 (Value.tuple ⟨[Value.string ⟨⟨TH.lns (TH.fieldsAt ⟨nN none nZ (nN none nZ (nN none nZ (nN none nZ (nN none nZ (nN none nZ (nN (some (AObj.cells ty c false 0)) nZ nZ)))))), 127⟩ (Value.slice (some ⟨126, o, none⟩) n cap)) ++ [OfNat.ofNat 13, OfNat.ofNat 10]⟩⟩, Value.int IntKind.i64 0]⟩) (H0 ty o c n cap)))))) : CallSpec η prog B 13 [Value.slice (some ⟨126, o, none⟩) n cap] (H0 ty o c n cap) D := by
  refine CallSpec.ofQF hη (CallSpec.enter (fr := (E ty o c n cap).fr) (by kernel_rfl) ?_)
  exact walk_okT (h0 := H0 ty o c n cap) hη hmix hreg (.steps 8 <| .call kN <| .steps 8 <| .bit 8 (.steps 8 <| .done none) (.steps 5 <| .call kN <| .steps 4 <| .done none)) (E ty o c n cap) (by kernel_rfl) h (by kernel_rfl)
end HRPrint
namespace HRPrint0
set_option linter.unusedVariables false
noncomputable def bd : Code := (Go.Proofs.Tryz.f13.body).getD .skip
noncomputable def H0 (n : Int) : AH := { objs := nZ, next := 126 }
noncomputable def E (n : Int) : AS := ⟨⟨13, 12, nN (some (Value.slice none 0 0)) nZ nZ, [Item.code (codeAt bd [])], [], FrameMode.run, CallKind.normal, none⟩, [], ⟨nZ, 126⟩⟩
theorem enter {η : Nat → Value} {B : Bd} (hη : OneCells η) (hmix : prog.follows .mixedOrders = true) (hreg : RegOk η prog B noNest) {D : Value → AH → Prop} (n : Int) (h : W.holds η prog B 13 (fun kp_ st_ => RunD η prog B 13 (H0 n) kp_ st_ (QF prog 126 D)) D (.call 45 [Value.slice none 0 0] (⟨nZ, 126⟩) (.ret (Value.int IntKind.i64 0) (⟨nZ, 126⟩)) (.call 46 [Value.slice none 0 0] (⟨nZ, 126⟩) (.ret (Value.string ⟨⟨TH.lns [] ++ [OfNat.ofNat 13, OfNat.ofNat 10]⟩⟩) (⟨nZ, 126⟩)) (.done 13 (Value.tuple ⟨[Value.string ⟨⟨TH.lns [] ++ [OfNat.ofNat 13, OfNat.ofNat 10]⟩⟩, Value.int IntKind.i64 0]⟩) (H0 n))))) : CallSpec η prog B 13 [Value.slice none 0 0] (H0 n) D := by
  refine CallSpec.ofQF hη (CallSpec.enter (fr := (E n).fr) (by kernel_rfl) ?_)
  exact walk_okT (h0 := H0 n) hη hmix hreg (.steps 8 <| .call kN <| .steps 13 <| .call kN <| .steps 4 <| .done none) (E n) (by kernel_rfl) h (by kernel_rfl)
end HRPrint0
namespace HCut
set_option linter.unusedVariables false
noncomputable def bd : Code := (Go.Proofs.Tryz.f100.body).getD .skip
noncomputable def H0 (s : List UInt8) : AH := { objs := nZ, next := 126 }
noncomputable def E (s : List UInt8) : AS := ⟨⟨100, 13, nN (some (Value.string ⟨⟨s⟩⟩)) (nN (some (Value.string ⟨#[OfNat.ofNat 58]⟩)) nZ nZ) nZ, [Item.code (codeAt bd [])], [], FrameMode.run, CallKind.normal, none⟩, [], ⟨nZ, 126⟩⟩
theorem enter {η : Nat → Value} {B : Bd} (hη : OneCells η) (hmix : prog.follows .mixedOrders = true) (hreg : RegOk η prog B noNest) {D : Value → AH → Prop} (s : List UInt8) (h : W.holds η prog B 100 (fun kp_ st_ => RunD η prog B 100 (H0 s) kp_ st_ (QF prog 126 D)) D (.call 185 [Value.string ⟨⟨s⟩⟩, Value.string ⟨#[OfNat.ofNat 58]⟩] (⟨nZ, 126⟩) (.ret (Value.int IntKind.i64 (TH.ix s (#[OfNat.ofNat 58].toList.headD (OfNat.ofNat 0)))) (⟨nZ, 126⟩)) (.ite (decide (TH.ix s (#[OfNat.ofNat (58 : Nat)].toList.headD (OfNat.ofNat (0 : Nat))) ≥ (0 : Int))) (.need ((0 : Int) ≤ (0 : Int) ∧ (0 : Int) ≤ TH.ix s (#[OfNat.ofNat (58 : Nat)].toList.headD (OfNat.ofNat (0 : Nat))) ∧ TH.ix s (#[OfNat.ofNat (58 : Nat)].toList.headD (OfNat.ofNat (0 : Nat))) ≤ (↑s.length : Int)) (.need ((0 : Int) ≤ IntKind.i64.wrap (TH.ix s (#[OfNat.ofNat (58 : Nat)].toList.headD (OfNat.ofNat (0 : Nat))) + (1 : Int)) ∧ IntKind.i64.wrap (TH.ix s (#[OfNat.ofNat (58 : Nat)].toList.headD (OfNat.ofNat (0 : Nat))) + (1 : Int)) ≤ (↑s.length : Int) ∧ (↑s.length : Int) ≤ (↑s.length : Int)) (.need (True) (.done 100 (Value.tuple ⟨[Value.string ⟨⟨List.take ((TH.ix s (#[OfNat.ofNat 58].toList.headD (OfNat.ofNat 0))).toNat - 0) (List.drop 0 s)⟩⟩, Value.string ⟨⟨List.take ((↑s.length : Int).toNat - (IntKind.i64.wrap (TH.ix s (#[OfNat.ofNat 58].toList.headD (OfNat.ofNat 0)) + 1)).toNat) (List.drop (IntKind.i64.wrap (TH.ix s (#[OfNat.ofNat 58].toList.headD (OfNat.ofNat 0)) + 1)).toNat s)⟩⟩, Value.bool true]⟩) (H0 s))))) (.done 100 (Value.tuple ⟨[Value.string ⟨⟨s⟩⟩, Value.string ⟨#[]⟩, Value.bool false]⟩) (H0 s))))) : CallSpec η prog B 100 [Value.string ⟨⟨s⟩⟩, Value.string ⟨#[OfNat.ofNat 58]⟩] (H0 s) D := by
  refine CallSpec.ofQF hη (CallSpec.enter (fr := (E s).fr) (by kernel_rfl) ?_)
  exact walk_okT (h0 := H0 s) hη hmix hreg (.steps 22 <| .call kN <| .steps 7 <| .bit 12 (.steps 2 <| .reg <| .steps 2 <| .op <| .steps 5 <| .op <| .steps 3 <| .reg <| .steps 10 <| .done (some ⟨126, [], []⟩)) (.steps 19 <| .done none)) (E s) (by kernel_rfl) h (by kernel_rfl)
end HCut
namespace HRdL
set_option linter.unusedVariables false
noncomputable def bd : Code := (Go.Proofs.Tryz.f48.body).getD .skip
noncomputable def H0 (s : List UInt8) : AH := { objs := nZ, next := 126 }
noncomputable def E (s : List UInt8) : AS := ⟨⟨48, 42, nN (some (Value.string ⟨⟨s⟩⟩)) nZ nZ, [Item.code (codeAt bd [])], [], FrameMode.run, CallKind.normal, none⟩, [], ⟨nZ, 126⟩⟩
theorem enter {η : Nat → Value} {B : Bd} (hη : OneCells η) (hmix : prog.follows .mixedOrders = true) (hreg : RegOk η prog B noNest) {D : Value → AH → Prop} (s : List UInt8) (h : W.holds η prog B 48 (fun kp_ st_ => RunD η prog B 48 (H0 s) kp_ st_ (QF prog 126 D)) D (.ite (decide ((↑s.length : Int) ≥ (2 : Int))) (.need ((0 : Int) ≤ IntKind.i64.wrap ((↑s.length : Int) - (2 : Int)) ∧ IntKind.i64.wrap ((↑s.length : Int) - (2 : Int)) ≤ (↑s.length : Int) ∧ (↑s.length : Int) ≤ (↑s.length : Int)) (.ite (!List.take ((↑s.length : Int).toNat - (IntKind.i64.wrap ((↑s.length : Int) - (2 : Int))).toNat) (List.drop (IntKind.i64.wrap ((↑s.length : Int) - (2 : Int))).toNat s) == #[OfNat.ofNat (13 : Nat), OfNat.ofNat (10 : Nat)].toList) (.call 100 [Value.string ⟨⟨s⟩⟩, Value.string ⟨#[OfNat.ofNat 58]⟩] (⟨nN none nZ (nN none nZ (nN none nZ (nN none nZ (nN none nZ (nN none nZ (nN (some (AObj.cells 37 [Value.string ⟨#[]⟩, Value.string ⟨#[]⟩] true 2)) nZ nZ)))))), 127⟩) (.ret (Value.tuple ⟨[Value.string ⟨⟨TH.cutL s⟩⟩, Value.string ⟨⟨TH.cutR s⟩⟩, Value.bool (TH.cutB s)]⟩) (⟨nN none nZ (nN none nZ (nN none nZ (nN none nZ (nN none nZ (nN none nZ (nN (some (AObj.cells 37 [Value.string ⟨#[]⟩, Value.string ⟨#[]⟩] true 2)) nZ nZ)))))), 127⟩)) (.need (True) (.done 48 (Value.tuple ⟨[Value.agg ⟨[Value.string ⟨#[]⟩, Value.string ⟨#[]⟩]⟩, Value.bool false]⟩) (H0 s)))) (.need ((0 : Int) ≤ (0 : Int) ∧ (0 : Int) ≤ IntKind.i64.wrap ((↑s.length : Int) - (2 : Int)) ∧ IntKind.i64.wrap ((↑s.length : Int) - (2 : Int)) ≤ (↑s.length : Int)) (.call 100 [Value.string ⟨⟨List.take ((IntKind.i64.wrap ((↑s.length : Int) - 2)).toNat - 0) (List.drop 0 s)⟩⟩, Value.string ⟨#[OfNat.ofNat 58]⟩] (⟨nN none nZ (nN none nZ (nN none nZ (nN none nZ (nN none nZ (nN none nZ (nN (some (AObj.cells 37 [Value.string ⟨#[]⟩, Value.string ⟨#[]⟩] true 2)) nZ nZ)))))), 127⟩) (.ret (Value.tuple ⟨[Value.string ⟨⟨TH.cutL (List.take ((IntKind.i64.wrap ((↑s.length : Int) - 2)).toNat - 0) (List.drop 0 s))⟩⟩, Value.string ⟨⟨TH.cutR (List.take ((IntKind.i64.wrap ((↑s.length : Int) - 2)).toNat - 0) (List.drop 0 s))⟩⟩, Value.bool (TH.cutB (List.take ((IntKind.i64.wrap ((↑s.length : Int) - 2)).toNat - 0) (List.drop 0 s)))]⟩) (⟨nN none nZ (nN none nZ (nN none nZ (nN none nZ (nN none nZ (nN none nZ (nN (some (AObj.cells 37 [Value.string ⟨#[]⟩, Value.string ⟨#[]⟩] true 2)) nZ nZ)))))), 127⟩)) (.ite (!TH.cutB (List.take ((IntKind.i64.wrap ((↑s.length : Int) - (2 : Int))).toNat - (0 : Nat)) (List.drop (0 : Nat) s))) (.need (True) (.done 48 (Value.tuple ⟨[Value.agg ⟨[Value.string ⟨#[]⟩, Value.string ⟨#[]⟩]⟩, Value.bool false]⟩) (H0 s))) (.call 92 [Value.string ⟨⟨TH.cutL (List.take ((IntKind.i64.wrap ((↑s.length : Int) - 2)).toNat - 0) (List.drop 0 s))⟩⟩] (⟨nN none nZ (nN none nZ (nN none nZ (nN none nZ (nN none nZ (nN none nZ (nN (some (AObj.cells 37 [Value.string ⟨#[]⟩, Value.string ⟨#[]⟩] true 2)) nZ nZ)))))), 127⟩) (.ret (Value.bool (TB.tokB (TH.cutL (List.take ((IntKind.i64.wrap ((↑s.length : Int) - 2)).toNat - 0) (List.drop 0 s))))) (⟨nN none nZ (nN none nZ (nN none nZ (nN none nZ (nN none nZ (nN none nZ (nN (some (AObj.cells 37 [Value.string ⟨#[]⟩, Value.string ⟨#[]⟩] true 2)) nZ nZ)))))), 127⟩)) (.ite (!TB.tokB (TH.cutL (List.take ((IntKind.i64.wrap ((↑s.length : Int) - (2 : Int))).toNat - (0 : Nat)) (List.drop (0 : Nat) s)))) (.need (True) (.done 48 (Value.tuple ⟨[Value.agg ⟨[Value.string ⟨#[]⟩, Value.string ⟨#[]⟩]⟩, Value.bool false]⟩) (H0 s))) (.call 101 [Value.string ⟨⟨TH.cutR (List.take ((IntKind.i64.wrap ((↑s.length : Int) - 2)).toNat - 0) (List.drop 0 s))⟩⟩] (⟨nN none nZ (nN none nZ (nN none nZ (nN none nZ (nN none nZ (nN none nZ (nN (some (AObj.cells 37 [Value.string ⟨#[]⟩, Value.string ⟨#[]⟩] true 2)) nZ nZ)))))), 127⟩) (.ret (Value.bool ((TH.cutR (List.take ((IntKind.i64.wrap ((↑s.length : Int) - 2)).toNat - 0) (List.drop 0 s))).all TB.plB)) (⟨nN none nZ (nN none nZ (nN none nZ (nN none nZ (nN none nZ (nN none nZ (nN (some (AObj.cells 37 [Value.string ⟨#[]⟩, Value.string ⟨#[]⟩] true 2)) nZ nZ)))))), 127⟩)) (.ite (!(TH.cutR (List.take ((IntKind.i64.wrap ((↑s.length : Int) - (2 : Int))).toNat - (0 : Nat)) (List.drop (0 : Nat) s))).all TB.plB) (.need (True) (.done 48 (Value.tuple ⟨[Value.agg ⟨[Value.string ⟨#[]⟩, Value.string ⟨#[]⟩]⟩, Value.bool false]⟩) (H0 s))) (.call 103 [Value.string ⟨⟨TH.cutR (List.take ((IntKind.i64.wrap ((↑s.length : Int) - 2)).toNat - 0) (List.drop 0 s))⟩⟩, Value.string ⟨#[OfNat.ofNat 9, OfNat.ofNat 32]⟩] (⟨nN none nZ (nN none nZ (nN none nZ (nN none nZ (nN none nZ (nN none nZ (nN (some (AObj.cells 37 [Value.string ⟨#[]⟩, Value.string ⟨#[]⟩] true 2)) nZ nZ)))))), 127⟩) (.ret (Value.string ⟨⟨TE.trimB (TH.cutR (List.take ((IntKind.i64.wrap ((↑s.length : Int) - 2)).toNat - 0) (List.drop 0 s)))⟩⟩) (⟨nN none nZ (nN none nZ (nN none nZ (nN none nZ (nN none nZ (nN none nZ (nN (some (AObj.cells 37 [Value.string ⟨#[]⟩, Value.string ⟨#[]⟩] true 2)) nZ nZ)))))), 127⟩)) (.call 102 [Value.agg ⟨[Value.string ⟨⟨TH.cutL (List.take ((IntKind.i64.wrap ((↑s.length : Int) - 2)).toNat - 0) (List.drop 0 s))⟩⟩, Value.string ⟨⟨TE.trimB (TH.cutR (List.take ((IntKind.i64.wrap ((↑s.length : Int) - 2)).toNat - 0) (List.drop 0 s)))⟩⟩]⟩] (⟨nN none nZ (nN none nZ (nN none nZ (nN none nZ (nN none nZ (nN none nZ (nN (some (AObj.cells 37 [Value.string ⟨#[]⟩, Value.string ⟨#[]⟩] true 2)) nZ nZ)))))), 127⟩) (.ret (Value.agg ⟨[Value.string ⟨⟨TH.cutL (List.take ((IntKind.i64.wrap ((↑s.length : Int) - 2)).toNat - 0) (List.drop 0 s))⟩⟩, Value.string ⟨⟨TE.trimB (TH.cutR (List.take ((IntKind.i64.wrap ((↑s.length : Int) - 2)).toNat - 0) (List.drop 0 s)))⟩⟩]⟩) (⟨nN none nZ (nN none nZ (nN none nZ (nN none nZ (nN none nZ (nN none nZ (nN (some (AObj.cells 37 [Value.string ⟨#[]⟩, Value.string ⟨#[]⟩] true 2)) nZ nZ)))))), 127⟩)) (.need (True) (.done 48 (Value.tuple ⟨[Value.agg ⟨[Value.string ⟨⟨TH.cutL (List.take ((IntKind.i64.wrap ((↑s.length : Int) - 2)).toNat - 0) (List.drop 0 s))⟩⟩, Value.string ⟨⟨TE.trimB (TH.cutR (List.take ((IntKind.i64.wrap ((↑s.length : Int) - 2)).toNat - 0) (List.drop 0 s)))⟩⟩]⟩, Value.bool true]⟩) (H0 s)))))))))))))) (.call 100 [Value.string ⟨⟨s⟩⟩, Value.string ⟨#[OfNat.ofNat 58]⟩] (⟨nN none nZ (nN none nZ (nN none nZ (nN none nZ (nN none nZ (nN none nZ (nN (some (AObj.cells 37 [Value.string ⟨#[]⟩, Value.string ⟨#[]⟩] true 2)) nZ nZ)))))), 127⟩) (.ret (Value.tuple ⟨[Value.string ⟨⟨TH.cutL s⟩⟩, Value.string ⟨⟨TH.cutR s⟩⟩, Value.bool (TH.cutB s)]⟩) (⟨nN none nZ (nN none nZ (nN none nZ (nN none nZ (nN none nZ (nN none nZ (nN (some (AObj.cells 37 [Value.string ⟨#[]⟩, Value.string ⟨#[]⟩] true 2)) nZ nZ)))))), 127⟩)) (.need (True) (.done 48 (Value.tuple ⟨[Value.agg ⟨[Value.string ⟨#[]⟩, Value.string ⟨#[]⟩]⟩, Value.bool false]⟩) (H0 s)))))) : CallSpec η prog B 48 [Value.string ⟨⟨s⟩⟩] (H0 s) D := by
  refine CallSpec.ofQF hη (CallSpec.enter (fr := (E s).fr) (by kernel_rfl) ?_)
  exact walk_okT (h0 := H0 s) hη hmix hreg (.steps 42 <| .bit 10 (.steps 6 <| .op <| .steps 9 <| .bit 9 (.steps 25 <| .call kN <| .steps 36 <| .done (some ⟨126, [], []⟩)) (.steps 10 <| .op <| .steps 21 <| .call kN <| .steps 18 <| .bit 26 (.steps 18 <| .done (some ⟨126, [], []⟩)) (.steps 1 <| .call kN <| .steps 3 <| .bit 31 (.steps 13 <| .done (some ⟨126, [], []⟩)) (.steps 1 <| .call kN <| .steps 3 <| .bit 35 (.steps 8 <| .done (some ⟨126, [], []⟩)) (.steps 6 <| .call kN <| .steps 1 <| .call kN <| .steps 4 <| .done (some ⟨126, [], []⟩)))))) (.steps 41 <| .call kN <| .steps 36 <| .done (some ⟨126, [], []⟩))) (E s) (by kernel_rfl) h (by kernel_rfl)
end HRdL
namespace HRRead
set_option linter.unusedVariables false
noncomputable def bd : Code := (Go.Proofs.Tryz.f50.body).getD .skip
noncomputable def H0 (s : List UInt8) : AH := { objs := nZ, next := 126 }
noncomputable def E (s : List UInt8) : AS := ⟨⟨50, 46, nN (some (Value.string ⟨⟨s⟩⟩)) nZ nZ, [Item.code (codeAt bd [])], [], FrameMode.run, CallKind.normal, none⟩, [], ⟨nZ, 126⟩⟩
noncomputable def S0 (s : List UInt8) (i0 : Int) (d : Nat → Value) : AS := ⟨⟨50, 46, nN (some (Value.string ⟨⟨s⟩⟩)) (nN (some (d 1)) (nN (some (d 3)) (nN (some (d 7)) (nN (some (d 15)) (nN (some (d 31)) nZ nZ) nZ) (nN (some (d 23)) (nN (some (d 39)) nZ nZ) nZ)) (nN (some (d 11)) (nN (some (d 19)) (nN (some (d 35)) nZ nZ) nZ) (nN (some (d 27)) (nN (some (d 43)) nZ nZ) nZ))) (nN (some (d 5)) (nN (some (d 9)) (nN (some (d 17)) (nN (some (d 33)) nZ nZ) nZ) (nN (some (d 25)) (nN (some (d 41)) nZ nZ) nZ)) (nN (some (d 13)) (nN (some (d 21)) (nN (some (d 37)) nZ nZ) nZ) (nN (some (d 29)) (nN (some (d 45)) nZ nZ) nZ)))) (nN (some (Value.pointer (some ⟨126, 0, none⟩))) (nN (some (Value.int IntKind.i64 i0)) (nN (some (d 8)) (nN (some (d 16)) (nN (some (d 32)) nZ nZ) nZ) (nN (some (d 24)) (nN (some (d 40)) nZ nZ) nZ)) (nN (some (d 12)) (nN (some (d 20)) (nN (some (d 36)) nZ nZ) nZ) (nN (some (d 28)) (nN (some (d 44)) nZ nZ) nZ))) (nN (some (d 6)) (nN (some (d 10)) (nN (some (d 18)) (nN (some (d 34)) nZ nZ) nZ) (nN (some (d 26)) (nN (some (d 42)) nZ nZ) nZ)) (nN (some (d 14)) (nN (some (d 22)) (nN (some (d 38)) nZ nZ) nZ) (nN (some (d 30)) nZ nZ)))), [Item.code (codeAt bd [1, 1, 0, 0, 0]), Item.inLoop (codeAt bd [1, 1, 0, 0, 0]), Item.inBlock 0, Item.code (codeAt bd [1, 1, 1])], [], FrameMode.run, CallKind.normal, none⟩, [], ⟨nN none nZ (nN none nZ (nN none nZ (nN none nZ (nN none nZ (nN none nZ (nN (some (AObj.cells 37 [Value.string ⟨#[]⟩, Value.string ⟨#[]⟩] true 2)) nZ nZ)))))), 127⟩⟩
theorem enter {η : Nat → Value} {B : Bd} (hη : OneCells η) (hmix : prog.follows .mixedOrders = true) (hreg : RegOk η prog B noNest) {D : Value → AH → Prop} (s : List UInt8) (h : W.holds η prog B 50 (fun kp_ st_ => RunD η prog B 50 (H0 s) kp_ st_ (QF prog 126 D)) D (.stop [0, 2, 4] (S0 s (0) (fun _ => undef)))) : CallSpec η prog B 50 [Value.string ⟨⟨s⟩⟩] (H0 s) D := by
  refine CallSpec.ofQF hη (CallSpec.enter (fr := (E s).fr) (by kernel_rfl) ?_)
  exact walk_okT (h0 := H0 s) hη hmix hreg (.steps 12 <| .stop [0, 2, 4] none) (E s) (by kernel_rfl) h (by kernel_rfl)
theorem cut0 {η : Nat → Value} {B : Bd} (hη : OneCells η) (hmix : prog.follows .mixedOrders = true) (hreg : RegOk η prog B noNest) {D : Value → AH → Prop} (s : List UInt8) (i0 : Int) (h : W.holds η prog B 50 (fun kp_ st_ => RunD η prog B 50 (H0 s) kp_ st_ (QF prog 126 D)) D (.ite (decide (i0 < (↑s.length : Int))) (.need ((0 : Int) ≤ i0 ∧ i0 < (↑s.length : Int)) (.ite (byteAt s i0 != (58 : Int)) (.stop [0, 2, 4] (S0 s (IntKind.i64.wrap (i0 + 1)) (fun _ => undef))) (.ite (i0 == (↑s.length : Int)) (.need (True) (.done 50 (Value.tuple ⟨[Value.agg ⟨[Value.string ⟨#[]⟩, Value.string ⟨#[]⟩]⟩, Value.bool false]⟩) (H0 s))) (.need ((0 : Int) ≤ (0 : Int) ∧ (0 : Int) ≤ i0 ∧ i0 ≤ (↑s.length : Int)) (.call 94 [Value.string ⟨⟨List.take (i0.toNat - 0) (List.drop 0 s)⟩⟩] (⟨nN none nZ (nN none nZ (nN none nZ (nN none nZ (nN none nZ (nN none nZ (nN (some (AObj.cells 37 [Value.string ⟨#[]⟩, Value.string ⟨#[]⟩] true 2)) nZ nZ)))))), 127⟩) (.ret (Value.bool (TB.tokB (List.take (i0.toNat - 0) (List.drop 0 s)))) (⟨nN none nZ (nN none nZ (nN none nZ (nN none nZ (nN none nZ (nN none nZ (nN (some (AObj.cells 37 [Value.string ⟨#[]⟩, Value.string ⟨#[]⟩] true 2)) nZ nZ)))))), 127⟩)) (.ite (!TB.tokB (List.take (i0.toNat - (0 : Nat)) (List.drop (0 : Nat) s))) (.need (True) (.done 50 (Value.tuple ⟨[Value.agg ⟨[Value.string ⟨#[]⟩, Value.string ⟨#[]⟩]⟩, Value.bool false]⟩) (H0 s))) (.need ((0 : Int) ≤ IntKind.i64.wrap (i0 + (1 : Int)) ∧ IntKind.i64.wrap (i0 + (1 : Int)) ≤ (↑s.length : Int) ∧ (↑s.length : Int) ≤ (↑s.length : Int)) (.call 95 [Value.string ⟨⟨List.take ((↑s.length : Int).toNat - (IntKind.i64.wrap (i0 + 1)).toNat) (List.drop (IntKind.i64.wrap (i0 + 1)).toNat s)⟩⟩] (⟨nN none nZ (nN none nZ (nN none nZ (nN none nZ (nN none nZ (nN none nZ (nN (some (AObj.cells 37 [Value.string ⟨#[]⟩, Value.string ⟨#[]⟩] true 2)) nZ nZ)))))), 127⟩) (.ret (Value.bool ((List.take ((↑s.length : Int).toNat - (IntKind.i64.wrap (i0 + 1)).toNat) (List.drop (IntKind.i64.wrap (i0 + 1)).toNat s)).all TB.plB)) (⟨nN none nZ (nN none nZ (nN none nZ (nN none nZ (nN none nZ (nN none nZ (nN (some (AObj.cells 37 [Value.string ⟨#[]⟩, Value.string ⟨#[]⟩] true 2)) nZ nZ)))))), 127⟩)) (.ite (!(List.take ((↑s.length : Int).toNat - (IntKind.i64.wrap (i0 + (1 : Int))).toNat) (List.drop (IntKind.i64.wrap (i0 + (1 : Int))).toNat s)).all TB.plB) (.need (True) (.done 50 (Value.tuple ⟨[Value.agg ⟨[Value.string ⟨#[]⟩, Value.string ⟨#[]⟩]⟩, Value.bool false]⟩) (H0 s))) (.need ((0 : Int) ≤ (0 : Int) ∧ (0 : Int) ≤ i0 ∧ i0 ≤ (↑s.length : Int)) (.need ((0 : Int) ≤ IntKind.i64.wrap (i0 + (1 : Int)) ∧ IntKind.i64.wrap (i0 + (1 : Int)) ≤ (↑s.length : Int) ∧ (↑s.length : Int) ≤ (↑s.length : Int)) (.call 96 [Value.string ⟨⟨List.take ((↑s.length : Int).toNat - (IntKind.i64.wrap (i0 + 1)).toNat) (List.drop (IntKind.i64.wrap (i0 + 1)).toNat s)⟩⟩] (⟨nN none nZ (nN none nZ (nN none nZ (nN none nZ (nN none nZ (nN none nZ (nN (some (AObj.cells 37 [Value.string ⟨#[]⟩, Value.string ⟨#[]⟩] true 2)) nZ nZ)))))), 138⟩) (.ret (Value.string ⟨⟨TE.trimB (List.take ((↑s.length : Int).toNat - (IntKind.i64.wrap (i0 + 1)).toNat) (List.drop (IntKind.i64.wrap (i0 + 1)).toNat s))⟩⟩) (⟨nN none nZ (nN none nZ (nN none nZ (nN none nZ (nN none nZ (nN none nZ (nN (some (AObj.cells 37 [Value.string ⟨#[]⟩, Value.string ⟨#[]⟩] true 2)) nZ nZ)))))), 138⟩)) (.need (True ∧ (⟨nN none nZ (nN none nZ (nN none nZ (nN none nZ (nN none nZ (nN none nZ (nN (some (AObj.cells 37 [Value.string ⟨#[]⟩, Value.string ⟨#[]⟩] true 2)) nZ nZ)))))), 138⟩ : AH) = (⟨nN none nZ (nN none nZ (nN none nZ (nN none nZ (nN none nZ (nN none nZ (nN (some (AObj.cells 37 [Value.string ⟨#[]⟩, Value.string ⟨#[]⟩] true 2)) nZ nZ)))))), 138⟩)) (.need (True) (.done 50 (Value.tuple ⟨[Value.agg ⟨[Value.string ⟨⟨List.take (i0.toNat - 0) (List.drop 0 s)⟩⟩, Value.string ⟨⟨TE.trimB (List.take ((↑s.length : Int).toNat - (IntKind.i64.wrap (i0 + 1)).toNat) (List.drop (IntKind.i64.wrap (i0 + 1)).toNat s))⟩⟩]⟩, Value.bool true]⟩) (H0 s)))))))))))))))) (.ite (i0 == (↑s.length : Int)) (.need (True) (.done 50 (Value.tuple ⟨[Value.agg ⟨[Value.string ⟨#[]⟩, Value.string ⟨#[]⟩]⟩, Value.bool false]⟩) (H0 s))) (.need ((0 : Int) ≤ (0 : Int) ∧ (0 : Int) ≤ i0 ∧ i0 ≤ (↑s.length : Int)) (.call 94 [Value.string ⟨⟨List.take (i0.toNat - 0) (List.drop 0 s)⟩⟩] (⟨nN none nZ (nN none nZ (nN none nZ (nN none nZ (nN none nZ (nN none nZ (nN (some (AObj.cells 37 [Value.string ⟨#[]⟩, Value.string ⟨#[]⟩] true 2)) nZ nZ)))))), 127⟩) (.ret (Value.bool (TB.tokB (List.take (i0.toNat - 0) (List.drop 0 s)))) (⟨nN none nZ (nN none nZ (nN none nZ (nN none nZ (nN none nZ (nN none nZ (nN (some (AObj.cells 37 [Value.string ⟨#[]⟩, Value.string ⟨#[]⟩] true 2)) nZ nZ)))))), 127⟩)) (.ite (!TB.tokB (List.take (i0.toNat - (0 : Nat)) (List.drop (0 : Nat) s))) (.need (True) (.done 50 (Value.tuple ⟨[Value.agg ⟨[Value.string ⟨#[]⟩, Value.string ⟨#[]⟩]⟩, Value.bool false]⟩) (H0 s))) (.need ((0 : Int) ≤ IntKind.i64.wrap (i0 + (1 : Int)) ∧ IntKind.i64.wrap (i0 + (1 : Int)) ≤ (↑s.length : Int) ∧ (↑s.length : Int) ≤ (↑s.length : Int)) (.call 95 [Value.string ⟨⟨List.take ((↑s.length : Int).toNat - (IntKind.i64.wrap (i0 + 1)).toNat) (List.drop (IntKind.i64.wrap (i0 + 1)).toNat s)⟩⟩] (⟨nN none nZ (nN none nZ (nN none nZ (nN none nZ (nN none nZ (nN none nZ (nN (some (AObj.cells 37 [Value.string ⟨#[]⟩, Value.string ⟨#[]⟩] true 2)) nZ nZ)))))), 127⟩) (.ret (Value.bool ((List.take ((↑s.length : Int).toNat - (IntKind.i64.wrap (i0 + 1)).toNat) (List.drop (IntKind.i64.wrap (i0 + 1)).toNat s)).all TB.plB)) (⟨nN none nZ (nN none nZ (nN none nZ (nN none nZ (nN none nZ (nN none nZ (nN (some (AObj.cells 37 [Value.string ⟨#[]⟩, Value.string ⟨#[]⟩] true 2)) nZ nZ)))))), 127⟩)) (.ite (!(List.take ((↑s.length : Int).toNat - (IntKind.i64.wrap (i0 + (1 : Int))).toNat) (List.drop (IntKind.i64.wrap (i0 + (1 : Int))).toNat s)).all TB.plB) (.need (True) (.done 50 (Value.tuple ⟨[Value.agg ⟨[Value.string ⟨#[]⟩, Value.string ⟨#[]⟩]⟩, Value.bool false]⟩) (H0 s))) (.need ((0 : Int) ≤ (0 : Int) ∧ (0 : Int) ≤ i0 ∧ i0 ≤ (↑s.length : Int)) (.need ((0 : Int) ≤ IntKind.i64.wrap (i0 + (1 : Int)) ∧ IntKind.i64.wrap (i0 + (1 : Int)) ≤ (↑s.length : Int) ∧ (↑s.length : Int) ≤ (↑s.length : Int)) (.call 96 [Value.string ⟨⟨List.take ((↑s.length : Int).toNat - (IntKind.i64.wrap (i0 + 1)).toNat) (List.drop (IntKind.i64.wrap (i0 + 1)).toNat s)⟩⟩] (⟨nN none nZ (nN none nZ (nN none nZ (nN none nZ (nN none nZ (nN none nZ (nN (some (AObj.cells 37 [Value.string ⟨#[]⟩, Value.string ⟨#[]⟩] true 2)) nZ nZ)))))), 138⟩) (.ret (Value.string ⟨⟨TE.trimB (List.take ((↑s.length : Int).toNat - (IntKind.i64.wrap (i0 + 1)).toNat) (List.drop (IntKind.i64.wrap (i0 + 1)).toNat s))⟩⟩) (⟨nN none nZ (nN none nZ (nN none nZ (nN none nZ (nN none nZ (nN none nZ (nN (some (AObj.cells 37 [Value.string ⟨#[]⟩, Value.string ⟨#[]⟩] true 2)) nZ nZ)))))), 138⟩)) (.need (True ∧ (⟨nN none nZ (nN none nZ (nN none nZ (nN none nZ (nN none nZ (nN none nZ (nN (some (AObj.cells 37 [Value.string ⟨#[]⟩, Value.string ⟨#[]⟩] true 2)) nZ nZ)))))), 138⟩ : AH) = (⟨nN none nZ (nN none nZ (nN none nZ (nN none nZ (nN none nZ (nN none nZ (nN (some (AObj.cells 37 [Value.string ⟨#[]⟩, Value.string ⟨#[]⟩] true 2)) nZ nZ)))))), 138⟩)) (.need (True) (.done 50 (Value.tuple ⟨[Value.agg ⟨[Value.string ⟨⟨List.take (i0.toNat - 0) (List.drop 0 s)⟩⟩, Value.string ⟨⟨TE.trimB (List.take ((↑s.length : Int).toNat - (IntKind.i64.wrap (i0 + 1)).toNat) (List.drop (IntKind.i64.wrap (i0 + 1)).toNat s))⟩⟩]⟩, Value.bool true]⟩) (H0 s)))))))))))))))) : RunD η prog B 50 (H0 s) [0, 2, 4] (S0 s i0 fun _ => undef) (QF prog 126 D) := by
  refine RunD.intro (S0 s i0) (fun d => ⟨rfl, rfl, rfl⟩) (fun d => tmOk_get (by kernel_rfl)) (fun d => by kernel_rfl) (fun d => ?_)
  exact walk_okT (h0 := H0 s) hη hmix hreg (.steps 8 <| .bit 9 (.steps 2 <| .op <| .steps 3 <| .bit 14 (.steps 10 <| .stop [0, 2, 4] none) (.steps 10 <| .bit 21 (.steps 23 <| .done (some ⟨126, [], []⟩)) (.steps 2 <| .op <| .call kN <| .steps 3 <| .bit 28 (.steps 16 <| .done (some ⟨126, [], []⟩)) (.steps 3 <| .op <| .call kN <| .steps 3 <| .bit 35 (.steps 8 <| .done (some ⟨126, [], []⟩)) (.steps 3 <| .regM [7] <| .steps 2 <| .op <| .steps 3 <| .op <| .call kN <| .steps 3 <| .regM [7] <| .steps 1 <| .done (some ⟨126, [], []⟩)))))) (.steps 16 <| .bit 21 (.steps 23 <| .done (some ⟨126, [], []⟩)) (.steps 2 <| .op <| .call kN <| .steps 3 <| .bit 28 (.steps 16 <| .done (some ⟨126, [], []⟩)) (.steps 3 <| .op <| .call kN <| .steps 3 <| .bit 35 (.steps 8 <| .done (some ⟨126, [], []⟩)) (.steps 3 <| .regM [7] <| .steps 2 <| .op <| .steps 3 <| .op <| .call kN <| .steps 3 <| .regM [7] <| .steps 1 <| .done (some ⟨126, [], []⟩)))))) (S0 s i0 d) (by kernel_rfl) h (by kernel_rfl)
end HRRead
namespace HRRet
set_option linter.unusedVariables false
noncomputable def bd : Code := (Go.Proofs.Tryz.f49.body).getD .skip
noncomputable def H0 (s : List UInt8) : AH := { objs := nZ, next := 126 }
noncomputable def E (s : List UInt8) : AS := ⟨⟨49, 14, nN (some (Value.string ⟨⟨s⟩⟩)) nZ nZ, [Item.code (codeAt bd [])], [], FrameMode.run, CallKind.normal, none⟩, [], ⟨nZ, 126⟩⟩
noncomputable def S0 (s : List UInt8) (i0 : Int) (d : Nat → Value) : AS := ⟨⟨49, 14, nN (some (Value.string ⟨⟨s⟩⟩)) (nN (some (d 1)) (nN (some (Value.int IntKind.i64 i0)) (nN (some (d 7)) nZ nZ) (nN (some (d 11)) nZ nZ)) (nN (some (d 5)) (nN (some (d 9)) nZ nZ) (nN (some (d 13)) nZ nZ))) (nN (some (d 2)) (nN (some (d 4)) (nN (some (d 8)) nZ nZ) (nN (some (d 12)) nZ nZ)) (nN (some (d 6)) (nN (some (d 10)) nZ nZ) nZ)), [Item.code (codeAt bd [1, 0, 1, 0, 0]), Item.inLoop (codeAt bd [1, 0, 1, 0, 0]), Item.inBlock 0, Item.code (codeAt bd [1, 1])], [], FrameMode.run, CallKind.normal, none⟩, [], ⟨nZ, 126⟩⟩
theorem enter {η : Nat → Value} {B : Bd} (hη : OneCells η) (hmix : prog.follows .mixedOrders = true) (hreg : RegOk η prog B noNest) {D : Value → AH → Prop} (s : List UInt8) (h : W.holds η prog B 49 (fun kp_ st_ => RunD η prog B 49 (H0 s) kp_ st_ (QF prog 126 D)) D (.stop [0, 3] (S0 s (0) (fun _ => undef)))) : CallSpec η prog B 49 [Value.string ⟨⟨s⟩⟩] (H0 s) D := by
  refine CallSpec.ofQF hη (CallSpec.enter (fr := (E s).fr) (by kernel_rfl) ?_)
  exact walk_okT (h0 := H0 s) hη hmix hreg (.steps 11 <| .stop [0, 3] none) (E s) (by kernel_rfl) h (by kernel_rfl)
theorem cut0 {η : Nat → Value} {B : Bd} (hη : OneCells η) (hmix : prog.follows .mixedOrders = true) (hreg : RegOk η prog B noNest) {D : Value → AH → Prop} (s : List UInt8) (i0 : Int) (h : W.holds η prog B 49 (fun kp_ st_ => RunD η prog B 49 (H0 s) kp_ st_ (QF prog 126 D)) D (.ite (decide (i0 < (↑s.length : Int))) (.need ((0 : Int) ≤ i0 ∧ i0 < (↑s.length : Int)) (.ite (byteAt s i0 == (13 : Int)) (.done 49 (Value.bool true) (H0 s)) (.stop [0, 3] (S0 s (IntKind.i64.wrap (i0 + 1)) (fun _ => undef))))) (.done 49 (Value.bool false) (H0 s)))) : RunD η prog B 49 (H0 s) [0, 3] (S0 s i0 fun _ => undef) (QF prog 126 D) := by
  refine RunD.intro (S0 s i0) (fun d => ⟨rfl, rfl, rfl⟩) (fun d => tmOk_get (by kernel_rfl)) (fun d => by kernel_rfl) (fun d => ?_)
  exact walk_okT (h0 := H0 s) hη hmix hreg (.steps 8 <| .bit 7 (.steps 8 <| .op <| .steps 2 <| .bit 13 (.steps 6 <| .done none) (.steps 9 <| .stop [0, 3] none)) (.steps 7 <| .done none)) (S0 s i0 d) (by kernel_rfl) h (by kernel_rfl)
end HRRet
namespace HRPar
set_option linter.unusedVariables false
noncomputable def bd : Code := (Go.Proofs.Tryz.f15.body).getD .skip
noncomputable def H0 (ty : Nat) (o : Nat) (c : List Value) (n : Nat) (cap : Nat) : AH := { objs := nN none nZ (nN none nZ (nN none nZ (nN none nZ (nN none nZ (nN none nZ (nN (some (AObj.cells ty c false 0)) nZ nZ)))))), next := 127 }
noncomputable def E (ty : Nat) (o : Nat) (c : List Value) (n : Nat) (cap : Nat) : AS := ⟨⟨15, 80, nN (some (Value.slice (some ⟨126, o, none⟩) n cap)) nZ nZ, [Item.code (codeAt bd [])], [], FrameMode.run, CallKind.normal, none⟩, [], ⟨nN none nZ (nN none nZ (nN none nZ (nN none nZ (nN none nZ (nN none nZ (nN (some (AObj.cells ty c false 0)) nZ nZ)))))), 127⟩⟩
noncomputable def S0 (ty : Nat) (o : Nat) (c : List Value) (n : Nat) (cap : Nat) (i0 : Int) (d : Nat → Value) : AS := ⟨⟨15, 80, nN (some (Value.slice (some ⟨126, o, none⟩) n cap)) (nN (some (d 1)) (nN (some (d 3)) (nN (some (Value.int IntKind.i64 i0)) (nN (some (d 15)) (nN (some (d 31)) (nN (some (d 63)) nZ nZ) nZ) (nN (some (d 47)) (nN (some (d 79)) nZ nZ) nZ)) (nN (some (d 23)) (nN (some (d 39)) (nN (some (d 71)) nZ nZ) nZ) (nN (some (d 55)) nZ nZ))) (nN (some (d 11)) (nN (some (d 19)) (nN (some (d 35)) (nN (some (d 67)) nZ nZ) nZ) (nN (some (d 51)) nZ nZ)) (nN (some (d 27)) (nN (some (d 43)) (nN (some (d 75)) nZ nZ) nZ) (nN (some (d 59)) nZ nZ)))) (nN (some (Value.slice none 0 0)) (nN (some (d 9)) (nN (some (d 17)) (nN (some (d 33)) (nN (some (d 65)) nZ nZ) nZ) (nN (some (d 49)) nZ nZ)) (nN (some (d 25)) (nN (some (d 41)) (nN (some (d 73)) nZ nZ) nZ) (nN (some (d 57)) nZ nZ))) (nN (some (d 13)) (nN (some (d 21)) (nN (some (d 37)) (nN (some (d 69)) nZ nZ) nZ) (nN (some (d 53)) nZ nZ)) (nN (some (d 29)) (nN (some (d 45)) (nN (some (d 77)) nZ nZ) nZ) (nN (some (d 61)) nZ nZ))))) (nN (some (d 2)) (nN (some (d 4)) (nN (some (d 8)) (nN (some (d 16)) (nN (some (d 32)) (nN (some (d 64)) nZ nZ) nZ) (nN (some (d 48)) nZ nZ)) (nN (some (d 24)) (nN (some (d 40)) (nN (some (d 72)) nZ nZ) nZ) (nN (some (d 56)) nZ nZ))) (nN (some (d 12)) (nN (some (d 20)) (nN (some (d 36)) (nN (some (d 68)) nZ nZ) nZ) (nN (some (d 52)) nZ nZ)) (nN (some (d 28)) (nN (some (d 44)) (nN (some (d 76)) nZ nZ) nZ) (nN (some (d 60)) nZ nZ)))) (nN (some (Value.int IntKind.i64 0)) (nN (some (d 10)) (nN (some (d 18)) (nN (some (d 34)) (nN (some (d 66)) nZ nZ) nZ) (nN (some (d 50)) nZ nZ)) (nN (some (d 26)) (nN (some (d 42)) (nN (some (d 74)) nZ nZ) nZ) (nN (some (d 58)) nZ nZ))) (nN (some (d 14)) (nN (some (d 22)) (nN (some (d 38)) (nN (some (d 70)) nZ nZ) nZ) (nN (some (d 54)) nZ nZ)) (nN (some (d 30)) (nN (some (d 46)) (nN (some (d 78)) nZ nZ) nZ) (nN (some (d 62)) nZ nZ))))), [Item.code (codeAt bd [1, 1, 1, 0, 1, 0, 0]), Item.inLoop (codeAt bd [1, 1, 1, 0, 1, 0, 0]), Item.inBlock 0, Item.code (codeAt bd [1, 1, 1, 1])], [], FrameMode.run, CallKind.normal, none⟩, [], ⟨nN none nZ (nN none nZ (nN none nZ (nN none nZ (nN none nZ (nN none nZ (nN (some (AObj.cells ty c false 0)) nZ nZ)))))), 127⟩⟩
noncomputable def S1 (ty : Nat) (o : Nat) (c : List Value) (n : Nat) (cap : Nat) (i0 : Int) (n0 : Nat) (i1 : Int) (l0 : List Value) (d : Nat → Value) : AS := ⟨⟨15, 80, nN (some (Value.slice (some ⟨126, o, none⟩) n cap)) (nN (some (d 1)) (nN (some (d 3)) (nN (some (Value.int IntKind.i64 i0)) (nN (some (d 15)) (nN (some (d 31)) (nN (some (d 63)) nZ nZ) nZ) (nN (some (d 47)) (nN (some (d 79)) nZ nZ) nZ)) (nN (some (d 23)) (nN (some (d 39)) (nN (some (d 71)) nZ nZ) nZ) (nN (some (d 55)) nZ nZ))) (nN (some (d 11)) (nN (some (d 19)) (nN (some (d 35)) (nN (some (d 67)) nZ nZ) nZ) (nN (some (d 51)) nZ nZ)) (nN (some (d 27)) (nN (some (d 43)) (nN (some (d 75)) nZ nZ) nZ) (nN (some (d 59)) nZ nZ)))) (nN (some (Value.slice (some ⟨127, 0, none⟩) n0 9223372036854775810)) (nN (some (d 9)) (nN (some (d 17)) (nN (some (d 33)) (nN (some (d 65)) nZ nZ) nZ) (nN (some (d 49)) nZ nZ)) (nN (some (d 25)) (nN (some (d 41)) (nN (some (d 73)) nZ nZ) nZ) (nN (some (d 57)) nZ nZ))) (nN (some (d 13)) (nN (some (d 21)) (nN (some (d 37)) (nN (some (d 69)) nZ nZ) nZ) (nN (some (d 53)) nZ nZ)) (nN (some (d 29)) (nN (some (d 45)) (nN (some (d 77)) nZ nZ) nZ) (nN (some (d 61)) nZ nZ))))) (nN (some (d 2)) (nN (some (d 4)) (nN (some (d 8)) (nN (some (d 16)) (nN (some (d 32)) (nN (some (d 64)) nZ nZ) nZ) (nN (some (d 48)) nZ nZ)) (nN (some (d 24)) (nN (some (d 40)) (nN (some (d 72)) nZ nZ) nZ) (nN (some (d 56)) nZ nZ))) (nN (some (d 12)) (nN (some (d 20)) (nN (some (d 36)) (nN (some (d 68)) nZ nZ) nZ) (nN (some (d 52)) nZ nZ)) (nN (some (d 28)) (nN (some (d 44)) (nN (some (d 76)) nZ nZ) nZ) (nN (some (d 60)) nZ nZ)))) (nN (some (Value.int IntKind.i64 i1)) (nN (some (d 10)) (nN (some (d 18)) (nN (some (d 34)) (nN (some (d 66)) nZ nZ) nZ) (nN (some (d 50)) nZ nZ)) (nN (some (d 26)) (nN (some (d 42)) (nN (some (d 74)) nZ nZ) nZ) (nN (some (d 58)) nZ nZ))) (nN (some (d 14)) (nN (some (d 22)) (nN (some (d 38)) (nN (some (d 70)) nZ nZ) nZ) (nN (some (d 54)) nZ nZ)) (nN (some (d 30)) (nN (some (d 46)) (nN (some (d 78)) nZ nZ) nZ) (nN (some (d 62)) nZ nZ))))), [Item.code (codeAt bd [1, 1, 1, 0, 1, 0, 0]), Item.inLoop (codeAt bd [1, 1, 1, 0, 1, 0, 0]), Item.inBlock 0, Item.code (codeAt bd [1, 1, 1, 1])], [], FrameMode.run, CallKind.normal, none⟩, [], ⟨nN none (nN none (nN none (nN none (nN none (nN none (nN none (nN (some (AObj.cells 37 l0 false 2)) nZ nZ) nZ) nZ) nZ) nZ) nZ) nZ) (nN none nZ (nN none nZ (nN none nZ (nN none nZ (nN none nZ (nN (some (AObj.cells ty c false 0)) nZ nZ)))))), 128⟩⟩
theorem enter {η : Nat → Value} {B : Bd} (hη : OneCells η) (hmix : prog.follows .mixedOrders = true) (hreg : RegOk η prog B noNest) {D : Value → AH → Prop} (ty : Nat) (o : Nat) (c : List Value) (n : Nat) (cap : Nat) (h : W.holds η prog B 15 (fun kp_ st_ => RunD η prog B 15 (H0 ty o c n cap) kp_ st_ (QF prog 127 D)) D (.stop [0, 5, 6, 7] (S0 ty o c n cap (0) (fun _ => undef)))) : CallSpec η prog B 15 [Value.slice (some ⟨126, o, none⟩) n cap] (H0 ty o c n cap) D := by
  refine CallSpec.ofQF hη (CallSpec.enter (fr := (E ty o c n cap).fr) (by kernel_rfl) ?_)
  exact walk_okT (h0 := H0 ty o c n cap) hη hmix hreg (.steps 21 <| .stop [0, 5, 6, 7] none) (E ty o c n cap) (by kernel_rfl) h (by kernel_rfl)
theorem cut0 {η : Nat → Value} {B : Bd} (hη : OneCells η) (hmix : prog.follows .mixedOrders = true) (hreg : RegOk η prog B noNest) {D : Value → AH → Prop} (ty : Nat) (o : Nat) (c : List Value) (n : Nat) (cap : Nat) (i0 : Int) (h : W.holds η prog B 15 (fun kp_ st_ => RunD η prog B 15 (H0 ty o c n cap) kp_ st_ (QF prog 127 D)) D (.ite (decide (i0 < (↑n : Int))) (.need ((0 : Int) ≤ i0 ∧ i0 < (↑n : Int)) (.need (c[o + i0.toNat * (1 : Nat)]? = some (Value.int IntKind.u8 (intAt c (o + i0.toNat * (1 : Nat))))) (.ite (intAt c (o + i0.toNat * (1 : Nat)) != (10 : Int)) (.stop [0, 5, 6, 7] (S0 ty o c n cap (IntKind.i64.wrap (i0 + 1)) (fun _ => undef))) (.ite (decide (i0 ≥ (8192 : Int))) (.done 15 (Value.tuple ⟨[Value.slice none 0 0, Value.int IntKind.i64 0, Value.int IntKind.i64 3]⟩) (H0 ty o c n cap)) (.ite (i0 == (0 : Int)) (.done 15 (Value.tuple ⟨[Value.slice none 0 0, Value.int IntKind.i64 0, Value.int IntKind.i64 6]⟩) (H0 ty o c n cap)) (.need ((0 : Int) ≤ IntKind.i64.wrap (i0 - (1 : Int)) ∧ IntKind.i64.wrap (i0 - (1 : Int)) < (↑n : Int)) (.need (c[o + (IntKind.i64.wrap (i0 - (1 : Int))).toNat * (1 : Nat)]? = some (Value.int IntKind.u8 (intAt c (o + (IntKind.i64.wrap (i0 - (1 : Int))).toNat * (1 : Nat))))) (.ite (intAt c (o + (IntKind.i64.wrap (i0 - (1 : Int))).toNat * (1 : Nat)) != (13 : Int)) (.done 15 (Value.tuple ⟨[Value.slice none 0 0, Value.int IntKind.i64 0, Value.int IntKind.i64 6]⟩) (H0 ty o c n cap)) (.need ((0 : Int) ≤ (0 : Int) ∧ (0 : Int) ≤ IntKind.i64.wrap (i0 - (1 : Int)) ∧ capP cap (cap = (9223372036854775809 : Nat) ∧ (1 : Nat) ≠ (0 : Nat) ∧ IntKind.i64.wrap (i0 - (1 : Int)) ≤ (↑n : Int) ∧ ((0 : Int) < (↑n : Int) ∨ (0 : Int) = (0 : Int))) (IntKind.i64.wrap (i0 - (1 : Int)) ≤ (↑cap : Int))) (.need (o + capN cap (0 : Nat) (cutN cap (0 : Nat) (1 : Nat)) + ((IntKind.i64.wrap (i0 - (1 : Int))).toNat - (0 : Nat)) ≤ c.length ∧ bytesOf (List.take ((IntKind.i64.wrap (i0 - (1 : Int))).toNat - (0 : Nat)) (List.drop (o + capN cap (0 : Nat) (cutN cap (0 : Nat) (1 : Nat))) c)) = Except.ok (bytesIn c (o + capN cap (0 : Nat) (cutN cap (0 : Nat) (1 : Nat))) ((IntKind.i64.wrap (i0 - (1 : Int))).toNat - (0 : Nat)))) (.call 49 [Value.string ⟨⟨bytesIn c (o + capN cap 0 (cutN cap 0 1)) ((IntKind.i64.wrap (i0 - 1)).toNat - 0)⟩⟩] (⟨nN none nZ (nN none nZ (nN none nZ (nN none nZ (nN none nZ (nN none nZ (nN (some (AObj.cells ty c false 0)) nZ nZ)))))), 127⟩) (.ret (Value.bool (TH.reB (bytesIn c (o + capN cap 0 (cutN cap 0 1)) ((IntKind.i64.wrap (i0 - 1)).toNat - 0)))) (⟨nN none nZ (nN none nZ (nN none nZ (nN none nZ (nN none nZ (nN none nZ (nN (some (AObj.cells ty c false 0)) nZ nZ)))))), 127⟩)) (.ite (TH.reB (bytesIn c (o + capN cap (0 : Nat) (cutN cap (0 : Nat) (1 : Nat))) ((IntKind.i64.wrap (i0 - (1 : Int))).toNat - (0 : Nat)))) (.done 15 (Value.tuple ⟨[Value.slice none 0 0, Value.int IntKind.i64 0, Value.int IntKind.i64 6]⟩) (H0 ty o c n cap)) (.ite (i0 == (1 : Int)) (.done 15 (Value.tuple ⟨[Value.slice none 0 0, Value.int IntKind.i64 (IntKind.i64.wrap (i0 + 1)), Value.int IntKind.i64 0]⟩) (H0 ty o c n cap)) (.need ((0 : Int) ≤ (0 : Int) ∧ (0 : Int) ≤ IntKind.i64.wrap (i0 - (1 : Int)) ∧ capP cap (cap = (9223372036854775809 : Nat) ∧ (1 : Nat) ≠ (0 : Nat) ∧ IntKind.i64.wrap (i0 - (1 : Int)) ≤ (↑n : Int) ∧ ((0 : Int) < (↑n : Int) ∨ (0 : Int) = (0 : Int))) (IntKind.i64.wrap (i0 - (1 : Int)) ≤ (↑cap : Int))) (.need (o + capN cap (0 : Nat) (cutN cap (0 : Nat) (1 : Nat)) + ((IntKind.i64.wrap (i0 - (1 : Int))).toNat - (0 : Nat)) ≤ c.length ∧ bytesOf (List.take ((IntKind.i64.wrap (i0 - (1 : Int))).toNat - (0 : Nat)) (List.drop (o + capN cap (0 : Nat) (cutN cap (0 : Nat) (1 : Nat))) c)) = Except.ok (bytesIn c (o + capN cap (0 : Nat) (cutN cap (0 : Nat) (1 : Nat))) ((IntKind.i64.wrap (i0 - (1 : Int))).toNat - (0 : Nat)))) (.call 50 [Value.string ⟨⟨bytesIn c (o + capN cap 0 (cutN cap 0 1)) ((IntKind.i64.wrap (i0 - 1)).toNat - 0)⟩⟩] (⟨nN none nZ (nN none nZ (nN none nZ (nN none nZ (nN none nZ (nN none nZ (nN (some (AObj.cells ty c false 0)) nZ nZ)))))), 127⟩) (.ret (Value.tuple ⟨[Value.agg ⟨[Value.string ⟨⟨(TH.feF (bytesIn c (o + capN cap 0 (cutN cap 0 1)) ((IntKind.i64.wrap (i0 - 1)).toNat - 0))).fst⟩⟩, Value.string ⟨⟨(TH.feF (bytesIn c (o + capN cap 0 (cutN cap 0 1)) ((IntKind.i64.wrap (i0 - 1)).toNat - 0))).snd⟩⟩]⟩, Value.bool (TH.feB (bytesIn c (o + capN cap 0 (cutN cap 0 1)) ((IntKind.i64.wrap (i0 - 1)).toNat - 0)))]⟩) (⟨nN none nZ (nN none nZ (nN none nZ (nN none nZ (nN none nZ (nN none nZ (nN (some (AObj.cells ty c false 0)) nZ nZ)))))), 127⟩)) (.ite (!TH.feB (bytesIn c (o + capN cap (0 : Nat) (cutN cap (0 : Nat) (1 : Nat))) ((IntKind.i64.wrap (i0 - (1 : Int))).toNat - (0 : Nat)))) (.need (NoNames c ∧ True) (.done 15 (Value.tuple ⟨[Value.slice none 0 0, Value.int IntKind.i64 0, Value.int IntKind.i64 6]⟩) (H0 ty o c n cap))) (.ite (decide ((↑(TH.feF (bytesIn c (o + capN cap (0 : Nat) (cutN cap (0 : Nat) (1 : Nat))) ((IntKind.i64.wrap (i0 - (1 : Int))).toNat - (0 : Nat)))).snd.length : Int) > (2000 : Int))) (.need (NoNames c ∧ True) (.done 15 (Value.tuple ⟨[Value.slice none 0 0, Value.int IntKind.i64 0, Value.int IntKind.i64 3]⟩) (H0 ty o c n cap))) (.need (NoNames c ∧ True ∧ True) (.stop [0, 5, 6, 7] (S1 ty o c n cap (IntKind.i64.wrap (i0 + 1)) (1) (IntKind.i64.wrap (i0 + 1)) ([Value.string ⟨⟨(TH.feF (bytesIn c (o + capN cap 0 (cutN cap 0 1)) ((IntKind.i64.wrap (i0 - 1)).toNat - 0))).fst⟩⟩, Value.string ⟨⟨(TH.feF (bytesIn c (o + capN cap 0 (cutN cap 0 1)) ((IntKind.i64.wrap (i0 - 1)).toNat - 0))).snd⟩⟩]) (fun _ => undef)))))))))))))))))))))) (.ite (decide ((↑n : Int) > (8192 : Int))) (.done 15 (Value.tuple ⟨[Value.slice none 0 0, Value.int IntKind.i64 0, Value.int IntKind.i64 3]⟩) (H0 ty o c n cap)) (.done 15 (Value.tuple ⟨[Value.slice none 0 0, Value.int IntKind.i64 0, Value.int IntKind.i64 10]⟩) (H0 ty o c n cap))))) : RunD η prog B 15 (H0 ty o c n cap) [0, 5, 6, 7] (S0 ty o c n cap i0 fun _ => undef) (QF prog 127 D) := by
  refine RunD.intro (S0 ty o c n cap i0) (fun d => ⟨rfl, rfl, rfl⟩) (fun d => tmOk_get (by kernel_rfl)) (fun d => by kernel_rfl) (fun d => ?_)
  exact walk_okT (h0 := H0 ty o c n cap) hη hmix hreg (.steps 8 <| .bit 13 (.steps 9 <| .op <| .op <| .steps 2 <| .bit 20 (.steps 8 <| .stop [0, 5, 6, 7] none) (.steps 8 <| .bit 22 (.steps 8 <| .done none) (.steps 9 <| .bit 26 (.steps 25 <| .done none) (.steps 3 <| .op <| .op <| .steps 3 <| .bit 34 (.steps 17 <| .done none) (.steps 4 <| .op <| .op <| .call kN <| .steps 2 <| .bit 42 (.steps 8 <| .done none) (.steps 10 <| .bit 46 (.steps 11 <| .done none) (.steps 8 <| .op <| .op <| .call kN <| .steps 13 <| .bit 61 (.steps 8 <| .done (some ⟨127, [], [(126, (126, true))]⟩)) (.steps 10 <| .bit 66 (.steps 13 <| .done (some ⟨127, [], [(126, (126, true))]⟩)) (.steps 27 <| .stop [0, 5, 6, 7] (some ⟨128, [(129, 127)], [(126, (126, true)), (127, (129, false))]⟩)))))))))) (.steps 9 <| .bit 79 (.steps 8 <| .done none) (.steps 9 <| .done none))) (S0 ty o c n cap i0 d) (by kernel_rfl) h (by kernel_rfl)
theorem cut1 {η : Nat → Value} {B : Bd} (hη : OneCells η) (hmix : prog.follows .mixedOrders = true) (hreg : RegOk η prog B noNest) {D : Value → AH → Prop} (ty : Nat) (o : Nat) (c : List Value) (n : Nat) (cap : Nat) (i0 : Int) (n0 : Nat) (i1 : Int) (l0 : List Value) (h : W.holds η prog B 15 (fun kp_ st_ => RunD η prog B 15 (H0 ty o c n cap) kp_ st_ (QF prog 127 D)) D (.ite (decide (i0 < (↑n : Int))) (.need ((0 : Int) ≤ i0 ∧ i0 < (↑n : Int)) (.need (c[o + i0.toNat * (1 : Nat)]? = some (Value.int IntKind.u8 (intAt c (o + i0.toNat * (1 : Nat))))) (.ite (intAt c (o + i0.toNat * (1 : Nat)) != (10 : Int)) (.stop [0, 5, 6, 7] (S1 ty o c n cap (IntKind.i64.wrap (i0 + 1)) (n0) (i1) (l0) (fun _ => undef))) (.ite (decide (i0 ≥ (8192 : Int))) (.need (NoNames c ∧ True) (.done 15 (Value.tuple ⟨[Value.slice none 0 0, Value.int IntKind.i64 0, Value.int IntKind.i64 3]⟩) (H0 ty o c n cap))) (.ite (i0 == i1) (.need (NoNames c ∧ True) (.done 15 (Value.tuple ⟨[Value.slice none 0 0, Value.int IntKind.i64 0, Value.int IntKind.i64 6]⟩) (H0 ty o c n cap))) (.need ((0 : Int) ≤ IntKind.i64.wrap (i0 - (1 : Int)) ∧ IntKind.i64.wrap (i0 - (1 : Int)) < (↑n : Int)) (.need (c[o + (IntKind.i64.wrap (i0 - (1 : Int))).toNat * (1 : Nat)]? = some (Value.int IntKind.u8 (intAt c (o + (IntKind.i64.wrap (i0 - (1 : Int))).toNat * (1 : Nat))))) (.ite (intAt c (o + (IntKind.i64.wrap (i0 - (1 : Int))).toNat * (1 : Nat)) != (13 : Int)) (.need (NoNames c ∧ True) (.done 15 (Value.tuple ⟨[Value.slice none 0 0, Value.int IntKind.i64 0, Value.int IntKind.i64 6]⟩) (H0 ty o c n cap))) (.need ((0 : Int) ≤ i1 ∧ i1 ≤ IntKind.i64.wrap (i0 - (1 : Int)) ∧ capP cap (cap = (9223372036854775809 : Nat) ∧ (1 : Nat) ≠ (0 : Nat) ∧ IntKind.i64.wrap (i0 - (1 : Int)) ≤ (↑n : Int) ∧ (i1 < (↑n : Int) ∨ i1 = (0 : Int))) (IntKind.i64.wrap (i0 - (1 : Int)) ≤ (↑cap : Int))) (.need (o + capN cap (i1.toNat * (1 : Nat)) (cutN cap i1.toNat (1 : Nat)) + ((IntKind.i64.wrap (i0 - (1 : Int))).toNat - i1.toNat) ≤ c.length ∧ bytesOf (List.take ((IntKind.i64.wrap (i0 - (1 : Int))).toNat - i1.toNat) (List.drop (o + capN cap (i1.toNat * (1 : Nat)) (cutN cap i1.toNat (1 : Nat))) c)) = Except.ok (bytesIn c (o + capN cap (i1.toNat * (1 : Nat)) (cutN cap i1.toNat (1 : Nat))) ((IntKind.i64.wrap (i0 - (1 : Int))).toNat - i1.toNat))) (.call 49 [Value.string ⟨⟨bytesIn c (o + capN cap (i1.toNat * 1) (cutN cap i1.toNat 1)) ((IntKind.i64.wrap (i0 - 1)).toNat - i1.toNat)⟩⟩] (⟨nN none (nN none (nN none (nN none (nN none (nN none (nN none (nN (some (AObj.cells 37 l0 false 2)) nZ nZ) nZ) nZ) nZ) nZ) nZ) nZ) (nN none nZ (nN none nZ (nN none nZ (nN none nZ (nN none nZ (nN (some (AObj.cells ty c false 0)) nZ nZ)))))), 128⟩) (.ret (Value.bool (TH.reB (bytesIn c (o + capN cap (i1.toNat * 1) (cutN cap i1.toNat 1)) ((IntKind.i64.wrap (i0 - 1)).toNat - i1.toNat)))) (⟨nN none (nN none (nN none (nN none (nN none (nN none (nN none (nN (some (AObj.cells 37 l0 false 2)) nZ nZ) nZ) nZ) nZ) nZ) nZ) nZ) (nN none nZ (nN none nZ (nN none nZ (nN none nZ (nN none nZ (nN (some (AObj.cells ty c false 0)) nZ nZ)))))), 128⟩)) (.ite (TH.reB (bytesIn c (o + capN cap (i1.toNat * (1 : Nat)) (cutN cap i1.toNat (1 : Nat))) ((IntKind.i64.wrap (i0 - (1 : Int))).toNat - i1.toNat))) (.need (NoNames c ∧ True) (.done 15 (Value.tuple ⟨[Value.slice none 0 0, Value.int IntKind.i64 0, Value.int IntKind.i64 6]⟩) (H0 ty o c n cap))) (.ite (i0 == IntKind.i64.wrap (i1 + (1 : Int))) (.done 15 (Value.tuple ⟨[Value.slice (some ⟨127, 0, none⟩) n0 9223372036854775810, Value.int IntKind.i64 (IntKind.i64.wrap (i0 + 1)), Value.int IntKind.i64 0]⟩) (⟨nN none (nN none (nN none (nN none (nN none (nN none (nN none (nN (some (AObj.cells 37 l0 false 2)) nZ nZ) nZ) nZ) nZ) nZ) nZ) nZ) (nN none nZ (nN none nZ (nN none nZ (nN none nZ (nN none nZ (nN (some (AObj.cells ty c false 0)) nZ nZ)))))), 128⟩)) (.need ((0 : Int) ≤ i1 ∧ i1 ≤ IntKind.i64.wrap (i0 - (1 : Int)) ∧ capP cap (cap = (9223372036854775809 : Nat) ∧ (1 : Nat) ≠ (0 : Nat) ∧ IntKind.i64.wrap (i0 - (1 : Int)) ≤ (↑n : Int) ∧ (i1 < (↑n : Int) ∨ i1 = (0 : Int))) (IntKind.i64.wrap (i0 - (1 : Int)) ≤ (↑cap : Int))) (.need (o + capN cap (i1.toNat * (1 : Nat)) (cutN cap i1.toNat (1 : Nat)) + ((IntKind.i64.wrap (i0 - (1 : Int))).toNat - i1.toNat) ≤ c.length ∧ bytesOf (List.take ((IntKind.i64.wrap (i0 - (1 : Int))).toNat - i1.toNat) (List.drop (o + capN cap (i1.toNat * (1 : Nat)) (cutN cap i1.toNat (1 : Nat))) c)) = Except.ok (bytesIn c (o + capN cap (i1.toNat * (1 : Nat)) (cutN cap i1.toNat (1 : Nat))) ((IntKind.i64.wrap (i0 - (1 : Int))).toNat - i1.toNat))) (.call 50 [Value.string ⟨⟨bytesIn c (o + capN cap (i1.toNat * 1) (cutN cap i1.toNat 1)) ((IntKind.i64.wrap (i0 - 1)).toNat - i1.toNat)⟩⟩] (⟨nN none (nN none (nN none (nN none (nN none (nN none (nN none (nN (some (AObj.cells 37 l0 false 2)) nZ nZ) nZ) nZ) nZ) nZ) nZ) nZ) (nN none nZ (nN none nZ (nN none nZ (nN none nZ (nN none nZ (nN (some (AObj.cells ty c false 0)) nZ nZ)))))), 128⟩) (.ret (Value.tuple ⟨[Value.agg ⟨[Value.string ⟨⟨(TH.feF (bytesIn c (o + capN cap (i1.toNat * 1) (cutN cap i1.toNat 1)) ((IntKind.i64.wrap (i0 - 1)).toNat - i1.toNat))).fst⟩⟩, Value.string ⟨⟨(TH.feF (bytesIn c (o + capN cap (i1.toNat * 1) (cutN cap i1.toNat 1)) ((IntKind.i64.wrap (i0 - 1)).toNat - i1.toNat))).snd⟩⟩]⟩, Value.bool (TH.feB (bytesIn c (o + capN cap (i1.toNat * 1) (cutN cap i1.toNat 1)) ((IntKind.i64.wrap (i0 - 1)).toNat - i1.toNat)))]⟩) (⟨nN none (nN none (nN none (nN none (nN none (nN none (nN none (nN (some (AObj.cells 37 l0 false 2)) nZ nZ) nZ) nZ) nZ) nZ) nZ) nZ) (nN none nZ (nN none nZ (nN none nZ (nN none nZ (nN none nZ (nN (some (AObj.cells ty c false 0)) nZ nZ)))))), 128⟩)) (.ite (!TH.feB (bytesIn c (o + capN cap (i1.toNat * (1 : Nat)) (cutN cap i1.toNat (1 : Nat))) ((IntKind.i64.wrap (i0 - (1 : Int))).toNat - i1.toNat))) (.need (NoNames c ∧ True) (.done 15 (Value.tuple ⟨[Value.slice none 0 0, Value.int IntKind.i64 0, Value.int IntKind.i64 6]⟩) (H0 ty o c n cap))) (.ite (decide ((↑(TH.feF (bytesIn c (o + capN cap (i1.toNat * (1 : Nat)) (cutN cap i1.toNat (1 : Nat))) ((IntKind.i64.wrap (i0 - (1 : Int))).toNat - i1.toNat))).snd.length : Int) > (2000 : Int))) (.need (NoNames c ∧ True) (.done 15 (Value.tuple ⟨[Value.slice none 0 0, Value.int IntKind.i64 0, Value.int IntKind.i64 3]⟩) (H0 ty o c n cap))) (.ite ((↑n0 : Int) == (100 : Int)) (.need (NoNames c ∧ True) (.done 15 (Value.tuple ⟨[Value.slice none 0 0, Value.int IntKind.i64 0, Value.int IntKind.i64 3]⟩) (H0 ty o c n cap))) (.need ((2 : Nat) ≤ (2 : Nat) ∧ l0.length = n0 * (2 : Nat) ∧ n0 + (1 : Nat) ≤ (1000000 : Nat) ∧ (2 : Nat) = (2 : Nat) ∧ true = true) (.need (NoNames c ∧ NoNames (l0 ++ [Value.string ⟨⟨(TH.feF (bytesIn c (o + capN cap (i1.toNat * (1 : Nat)) (cutN cap i1.toNat (1 : Nat))) ((IntKind.i64.wrap (i0 - (1 : Int))).toNat - i1.toNat))).fst⟩⟩, Value.string ⟨⟨(TH.feF (bytesIn c (o + capN cap (i1.toNat * (1 : Nat)) (cutN cap i1.toNat (1 : Nat))) ((IntKind.i64.wrap (i0 - (1 : Int))).toNat - i1.toNat))).snd⟩⟩]) ∧ True) (.stop [0, 5, 6, 7] (S1 ty o c n cap (IntKind.i64.wrap (i0 + 1)) (n0 + 1) (IntKind.i64.wrap (i0 + 1)) (l0 ++ [Value.string ⟨⟨(TH.feF (bytesIn c (o + capN cap (i1.toNat * 1) (cutN cap i1.toNat 1)) ((IntKind.i64.wrap (i0 - 1)).toNat - i1.toNat))).fst⟩⟩, Value.string ⟨⟨(TH.feF (bytesIn c (o + capN cap (i1.toNat * 1) (cutN cap i1.toNat 1)) ((IntKind.i64.wrap (i0 - 1)).toNat - i1.toNat))).snd⟩⟩]) (fun _ => undef)))))))))))))))))))))))) (.ite (decide ((↑n : Int) > (8192 : Int))) (.need (NoNames c ∧ True) (.done 15 (Value.tuple ⟨[Value.slice none 0 0, Value.int IntKind.i64 0, Value.int IntKind.i64 3]⟩) (H0 ty o c n cap))) (.need (NoNames c ∧ True) (.done 15 (Value.tuple ⟨[Value.slice none 0 0, Value.int IntKind.i64 0, Value.int IntKind.i64 10]⟩) (H0 ty o c n cap)))))) : RunD η prog B 15 (H0 ty o c n cap) [0, 5, 6, 7] (S1 ty o c n cap i0 n0 i1 l0 fun _ => undef) (QF prog 127 D) := by
  refine RunD.intro (S1 ty o c n cap i0 n0 i1 l0) (fun d => ⟨rfl, rfl, rfl⟩) (fun d => tmOk_get (by kernel_rfl)) (fun d => by kernel_rfl) (fun d => ?_)
  exact walk_okT (h0 := H0 ty o c n cap) hη hmix hreg (.steps 8 <| .bit 13 (.steps 9 <| .op <| .op <| .steps 2 <| .bit 20 (.steps 8 <| .stop [0, 5, 6, 7] none) (.steps 8 <| .bit 22 (.steps 8 <| .done (some ⟨127, [], [(126, (126, true))]⟩)) (.steps 9 <| .bit 26 (.steps 25 <| .done (some ⟨127, [], [(126, (126, true))]⟩)) (.steps 3 <| .op <| .op <| .steps 3 <| .bit 34 (.steps 17 <| .done (some ⟨127, [], [(126, (126, true))]⟩)) (.steps 4 <| .op <| .op <| .call kN <| .steps 2 <| .bit 42 (.steps 8 <| .done (some ⟨127, [], [(126, (126, true))]⟩)) (.steps 10 <| .bit 46 (.steps 11 <| .done none) (.steps 8 <| .op <| .op <| .call kN <| .steps 13 <| .bit 61 (.steps 8 <| .done (some ⟨127, [], [(126, (126, true))]⟩)) (.steps 10 <| .bit 66 (.steps 13 <| .done (some ⟨127, [], [(126, (126, true))]⟩)) (.steps 5 <| .bit 70 (.steps 8 <| .done (some ⟨127, [], [(126, (126, true))]⟩)) (.steps 7 <| .op <| .steps 14 <| .stop [0, 5, 6, 7] (some ⟨128, [(130, 127)], [(126, (126, true)), (127, (130, true))]⟩))))))))))) (.steps 9 <| .bit 79 (.steps 8 <| .done (some ⟨127, [], [(126, (126, true))]⟩)) (.steps 9 <| .done (some ⟨127, [], [(126, (126, true))]⟩)))) (S1 ty o c n cap i0 n0 i1 l0 d) (by kernel_rfl) h (by kernel_rfl)
end HRPar
namespace HRPar0
set_option linter.unusedVariables false
noncomputable def bd : Code := (Go.Proofs.Tryz.f15.body).getD .skip
noncomputable def H0 (n : Int) : AH := { objs := nZ, next := 126 }
noncomputable def E (n : Int) : AS := ⟨⟨15, 80, nN (some (Value.slice none 0 0)) nZ nZ, [Item.code (codeAt bd [])], [], FrameMode.run, CallKind.normal, none⟩, [], ⟨nZ, 126⟩⟩
noncomputable def S0 (n : Int)  (d : Nat → Value) : AS := ⟨⟨15, 80, nN (some (Value.slice none 0 0)) (nN (some (d 1)) (nN (some (d 3)) (nN (some (Value.int IntKind.i64 0)) (nN (some (d 15)) (nN (some (d 31)) (nN (some (d 63)) nZ nZ) nZ) (nN (some (d 47)) (nN (some (d 79)) nZ nZ) nZ)) (nN (some (d 23)) (nN (some (d 39)) (nN (some (d 71)) nZ nZ) nZ) (nN (some (d 55)) nZ nZ))) (nN (some (d 11)) (nN (some (d 19)) (nN (some (d 35)) (nN (some (d 67)) nZ nZ) nZ) (nN (some (d 51)) nZ nZ)) (nN (some (d 27)) (nN (some (d 43)) (nN (some (d 75)) nZ nZ) nZ) (nN (some (d 59)) nZ nZ)))) (nN (some (Value.slice none 0 0)) (nN (some (d 9)) (nN (some (d 17)) (nN (some (d 33)) (nN (some (d 65)) nZ nZ) nZ) (nN (some (d 49)) nZ nZ)) (nN (some (d 25)) (nN (some (d 41)) (nN (some (d 73)) nZ nZ) nZ) (nN (some (d 57)) nZ nZ))) (nN (some (d 13)) (nN (some (d 21)) (nN (some (d 37)) (nN (some (d 69)) nZ nZ) nZ) (nN (some (d 53)) nZ nZ)) (nN (some (d 29)) (nN (some (d 45)) (nN (some (d 77)) nZ nZ) nZ) (nN (some (d 61)) nZ nZ))))) (nN (some (d 2)) (nN (some (d 4)) (nN (some (d 8)) (nN (some (d 16)) (nN (some (d 32)) (nN (some (d 64)) nZ nZ) nZ) (nN (some (d 48)) nZ nZ)) (nN (some (d 24)) (nN (some (d 40)) (nN (some (d 72)) nZ nZ) nZ) (nN (some (d 56)) nZ nZ))) (nN (some (d 12)) (nN (some (d 20)) (nN (some (d 36)) (nN (some (d 68)) nZ nZ) nZ) (nN (some (d 52)) nZ nZ)) (nN (some (d 28)) (nN (some (d 44)) (nN (some (d 76)) nZ nZ) nZ) (nN (some (d 60)) nZ nZ)))) (nN (some (Value.int IntKind.i64 0)) (nN (some (d 10)) (nN (some (d 18)) (nN (some (d 34)) (nN (some (d 66)) nZ nZ) nZ) (nN (some (d 50)) nZ nZ)) (nN (some (d 26)) (nN (some (d 42)) (nN (some (d 74)) nZ nZ) nZ) (nN (some (d 58)) nZ nZ))) (nN (some (d 14)) (nN (some (d 22)) (nN (some (d 38)) (nN (some (d 70)) nZ nZ) nZ) (nN (some (d 54)) nZ nZ)) (nN (some (d 30)) (nN (some (d 46)) (nN (some (d 78)) nZ nZ) nZ) (nN (some (d 62)) nZ nZ))))), [Item.code (codeAt bd [1, 1, 1, 0, 1, 0, 0]), Item.inLoop (codeAt bd [1, 1, 1, 0, 1, 0, 0]), Item.inBlock 0, Item.code (codeAt bd [1, 1, 1, 1])], [], FrameMode.run, CallKind.normal, none⟩, [], ⟨nZ, 126⟩⟩
theorem enter {η : Nat → Value} {B : Bd} (hη : OneCells η) (hmix : prog.follows .mixedOrders = true) (hreg : RegOk η prog B noNest) {D : Value → AH → Prop} (n : Int) (h : W.holds η prog B 15 (fun kp_ st_ => RunD η prog B 15 (H0 n) kp_ st_ (QF prog 126 D)) D (.stop [0, 5, 6, 7] (S0 n  (fun _ => undef)))) : CallSpec η prog B 15 [Value.slice none 0 0] (H0 n) D := by
  refine CallSpec.ofQF hη (CallSpec.enter (fr := (E n).fr) (by kernel_rfl) ?_)
  exact walk_okT (h0 := H0 n) hη hmix hreg (.steps 21 <| .stop [0, 5, 6, 7] none) (E n) (by kernel_rfl) h (by kernel_rfl)
theorem cut0 {η : Nat → Value} {B : Bd} (hη : OneCells η) (hmix : prog.follows .mixedOrders = true) (hreg : RegOk η prog B noNest) {D : Value → AH → Prop} (n : Int)  (h : W.holds η prog B 15 (fun kp_ st_ => RunD η prog B 15 (H0 n) kp_ st_ (QF prog 126 D)) D (.done 15 (Value.tuple ⟨[Value.slice none 0 0, Value.int IntKind.i64 0, Value.int IntKind.i64 10]⟩) (H0 n))) : RunD η prog B 15 (H0 n) [0, 5, 6, 7] (S0 n  fun _ => undef) (QF prog 126 D) := by
  refine RunD.intro (S0 n ) (fun d => ⟨rfl, rfl, rfl⟩) (fun d => tmOk_get (by kernel_rfl)) (fun d => by kernel_rfl) (fun d => ?_)
  exact walk_okT (h0 := H0 n) hη hmix hreg (.steps 26 <| .done none) (S0 n  d) (by kernel_rfl) h (by kernel_rfl)
end HRPar0
namespace HRLns
set_option linter.unusedVariables false
noncomputable def bd : Code := (Go.Proofs.Tryz.f46.body).getD .skip
noncomputable def H0 (ty : Nat) (o : Nat) (c : List Value) (n : Nat) (cap : Nat) : AH := { objs := nN none nZ (nN none nZ (nN none nZ (nN none nZ (nN none nZ (nN none nZ (nN (some (AObj.cells ty c false 0)) nZ nZ)))))), next := 127 }
noncomputable def E (ty : Nat) (o : Nat) (c : List Value) (n : Nat) (cap : Nat) : AS := ⟨⟨46, 28, nN (some (Value.slice (some ⟨126, o, none⟩) n cap)) nZ nZ, [Item.code (codeAt bd [])], [], FrameMode.run, CallKind.normal, none⟩, [], ⟨nN none nZ (nN none nZ (nN none nZ (nN none nZ (nN none nZ (nN none nZ (nN (some (AObj.cells ty c false 0)) nZ nZ)))))), 127⟩⟩
noncomputable def S0 (ty : Nat) (o : Nat) (c : List Value) (n : Nat) (cap : Nat) (y0 : ByteArray) (i0 : Int) (d : Nat → Value) : AS := ⟨⟨46, 28, nN (some (Value.slice (some ⟨126, o, none⟩) n cap)) (nN (some (d 1)) (nN (some (Value.string y0)) (nN (some (d 7)) (nN (some (d 15)) nZ nZ) (nN (some (d 23)) nZ nZ)) (nN (some (d 11)) (nN (some (d 19)) nZ nZ) (nN (some (d 27)) nZ nZ))) (nN (some (d 5)) (nN (some (d 9)) (nN (some (d 17)) nZ nZ) (nN (some (d 25)) nZ nZ)) (nN (some (d 13)) (nN (some (d 21)) nZ nZ) nZ))) (nN (some (d 2)) (nN (some (Value.int IntKind.i64 i0)) (nN (some (d 8)) (nN (some (d 16)) nZ nZ) (nN (some (d 24)) nZ nZ)) (nN (some (d 12)) (nN (some (d 20)) nZ nZ) nZ)) (nN (some (d 6)) (nN (some (d 10)) (nN (some (d 18)) nZ nZ) (nN (some (d 26)) nZ nZ)) (nN (some (d 14)) (nN (some (d 22)) nZ nZ) nZ))), [Item.code (codeAt bd [1, 1, 0, 1, 0, 0]), Item.inLoop (codeAt bd [1, 1, 0, 1, 0, 0]), Item.inBlock 0, Item.code (codeAt bd [1, 1, 1])], [], FrameMode.run, CallKind.normal, none⟩, [], ⟨nN none nZ (nN none nZ (nN none nZ (nN none nZ (nN none nZ (nN none nZ (nN (some (AObj.cells ty c false 0)) nZ nZ)))))), 127⟩⟩
theorem enter {η : Nat → Value} {B : Bd} (hη : OneCells η) (hmix : prog.follows .mixedOrders = true) (hreg : RegOk η prog B noNest) {D : Value → AH → Prop} (ty : Nat) (o : Nat) (c : List Value) (n : Nat) (cap : Nat) (h : W.holds η prog B 46 (fun kp_ st_ => RunD η prog B 46 (H0 ty o c n cap) kp_ st_ (QF prog 127 D)) D (.stop [0, 3, 4] (S0 ty o c n cap (⟨#[]⟩) (0) (fun _ => undef)))) : CallSpec η prog B 46 [Value.slice (some ⟨126, o, none⟩) n cap] (H0 ty o c n cap) D := by
  refine CallSpec.ofQF hη (CallSpec.enter (fr := (E ty o c n cap).fr) (by kernel_rfl) ?_)
  exact walk_okT (h0 := H0 ty o c n cap) hη hmix hreg (.steps 15 <| .stop [0, 3, 4] none) (E ty o c n cap) (by kernel_rfl) h (by kernel_rfl)
theorem cut0 {η : Nat → Value} {B : Bd} (hη : OneCells η) (hmix : prog.follows .mixedOrders = true) (hreg : RegOk η prog B noNest) {D : Value → AH → Prop} (ty : Nat) (o : Nat) (c : List Value) (n : Nat) (cap : Nat) (y0 : ByteArray) (i0 : Int) (h : W.holds η prog B 46 (fun kp_ st_ => RunD η prog B 46 (H0 ty o c n cap) kp_ st_ (QF prog 127 D)) D (.ite (decide (i0 < (↑n : Int))) (.need ((0 : Int) ≤ i0 ∧ i0 < (↑n : Int)) (.need (c[o + i0.toNat * (2 : Nat) + (0 : Nat)]? = some (Value.string ⟨⟨strAt c (o + i0.toNat * (2 : Nat) + (0 : Nat))⟩⟩)) (.need (y0.data.toList.length + (strAt c (o + i0.toNat * (2 : Nat) + (0 : Nat))).length ≤ (9223372036854775807 : Nat)) (.need ((y0.data.toList ++ strAt c (o + i0.toNat * (2 : Nat) + (0 : Nat))).length + (2 : Nat) ≤ (9223372036854775807 : Nat)) (.need ((0 : Int) ≤ i0 ∧ i0 < (↑n : Int)) (.need (c[o + i0.toNat * (2 : Nat) + (1 : Nat)]? = some (Value.string ⟨⟨strAt c (o + i0.toNat * (2 : Nat) + (1 : Nat))⟩⟩)) (.need ((y0.data.toList ++ strAt c (o + i0.toNat * (2 : Nat) + (0 : Nat)) ++ #[OfNat.ofNat (58 : Nat), OfNat.ofNat (32 : Nat)].toList).length + (strAt c (o + i0.toNat * (2 : Nat) + (1 : Nat))).length ≤ (9223372036854775807 : Nat)) (.need ((y0.data.toList ++ strAt c (o + i0.toNat * (2 : Nat) + (0 : Nat)) ++ #[OfNat.ofNat (58 : Nat), OfNat.ofNat (32 : Nat)].toList ++ strAt c (o + i0.toNat * (2 : Nat) + (1 : Nat))).length + (2 : Nat) ≤ (9223372036854775807 : Nat)) (.need (NoNames c ∧ True) (.stop [0, 3, 4] (S0 ty o c n cap (⟨⟨y0.data.toList ++ strAt c (o + i0.toNat * 2 + 0) ++ #[OfNat.ofNat 58, OfNat.ofNat 32].toList ++ strAt c (o + i0.toNat * 2 + 1) ++ #[OfNat.ofNat 13, OfNat.ofNat 10].toList⟩⟩) (IntKind.i64.wrap (i0 + 1)) (fun _ => undef)))))))))))) (.need (y0.data.toList.length + (2 : Nat) ≤ (9223372036854775807 : Nat)) (.done 46 (Value.string ⟨⟨y0.data.toList ++ #[OfNat.ofNat 13, OfNat.ofNat 10].toList⟩⟩) (H0 ty o c n cap))))) : RunD η prog B 46 (H0 ty o c n cap) [0, 3, 4] (S0 ty o c n cap y0 i0 fun _ => undef) (QF prog 127 D) := by
  refine RunD.intro (S0 ty o c n cap y0 i0) (fun d => ⟨rfl, rfl, rfl⟩) (fun d => tmOk_get (by kernel_rfl)) (fun d => by kernel_rfl) (fun d => ?_)
  exact walk_okT (h0 := H0 ty o c n cap) hη hmix hreg (.steps 8 <| .bit 8 (.steps 4 <| .reg <| .steps 3 <| .op <| .steps 1 <| .op <| .op <| .op <| .steps 2 <| .op <| .steps 1 <| .op <| .op <| .op <| .steps 1 <| .reg <| .steps 7 <| .stop [0, 3, 4] (some ⟨127, [], [(126, (126, true))]⟩)) (.steps 5 <| .op <| .steps 3 <| .done none)) (S0 ty o c n cap y0 i0 d) (by kernel_rfl) h (by kernel_rfl)
end HRLns
namespace HRLns0
set_option linter.unusedVariables false
noncomputable def bd : Code := (Go.Proofs.Tryz.f46.body).getD .skip
noncomputable def H0 (n : Int) : AH := { objs := nZ, next := 126 }
noncomputable def E (n : Int) : AS := ⟨⟨46, 28, nN (some (Value.slice none 0 0)) nZ nZ, [Item.code (codeAt bd [])], [], FrameMode.run, CallKind.normal, none⟩, [], ⟨nZ, 126⟩⟩
noncomputable def S0 (n : Int)  (d : Nat → Value) : AS := ⟨⟨46, 28, nN (some (Value.slice none 0 0)) (nN (some (d 1)) (nN (some (Value.string ⟨#[]⟩)) (nN (some (d 7)) (nN (some (d 15)) nZ nZ) (nN (some (d 23)) nZ nZ)) (nN (some (d 11)) (nN (some (d 19)) nZ nZ) (nN (some (d 27)) nZ nZ))) (nN (some (d 5)) (nN (some (d 9)) (nN (some (d 17)) nZ nZ) (nN (some (d 25)) nZ nZ)) (nN (some (d 13)) (nN (some (d 21)) nZ nZ) nZ))) (nN (some (d 2)) (nN (some (Value.int IntKind.i64 0)) (nN (some (d 8)) (nN (some (d 16)) nZ nZ) (nN (some (d 24)) nZ nZ)) (nN (some (d 12)) (nN (some (d 20)) nZ nZ) nZ)) (nN (some (d 6)) (nN (some (d 10)) (nN (some (d 18)) nZ nZ) (nN (some (d 26)) nZ nZ)) (nN (some (d 14)) (nN (some (d 22)) nZ nZ) nZ))), [Item.code (codeAt bd [1, 1, 0, 1, 0, 0]), Item.inLoop (codeAt bd [1, 1, 0, 1, 0, 0]), Item.inBlock 0, Item.code (codeAt bd [1, 1, 1])], [], FrameMode.run, CallKind.normal, none⟩, [], ⟨nZ, 126⟩⟩
theorem enter {η : Nat → Value} {B : Bd} (hη : OneCells η) (hmix : prog.follows .mixedOrders = true) (hreg : RegOk η prog B noNest) {D : Value → AH → Prop} (n : Int) (h : W.holds η prog B 46 (fun kp_ st_ => RunD η prog B 46 (H0 n) kp_ st_ (QF prog 126 D)) D (.stop [0, 3, 4] (S0 n  (fun _ => undef)))) : CallSpec η prog B 46 [Value.slice none 0 0] (H0 n) D := by
  refine CallSpec.ofQF hη (CallSpec.enter (fr := (E n).fr) (by kernel_rfl) ?_)
  exact walk_okT (h0 := H0 n) hη hmix hreg (.steps 15 <| .stop [0, 3, 4] none) (E n) (by kernel_rfl) h (by kernel_rfl)
theorem cut0 {η : Nat → Value} {B : Bd} (hη : OneCells η) (hmix : prog.follows .mixedOrders = true) (hreg : RegOk η prog B noNest) {D : Value → AH → Prop} (n : Int)  (h : W.holds η prog B 46 (fun kp_ st_ => RunD η prog B 46 (H0 n) kp_ st_ (QF prog 126 D)) D (.done 46 (Value.string ⟨⟨#[].toList ++ #[OfNat.ofNat 13, OfNat.ofNat 10].toList⟩⟩) (H0 n))) : RunD η prog B 46 (H0 n) [0, 3, 4] (S0 n  fun _ => undef) (QF prog 126 D) := by
  refine RunD.intro (S0 n ) (fun d => ⟨rfl, rfl, rfl⟩) (fun d => tmOk_get (by kernel_rfl)) (fun d => by kernel_rfl) (fun d => ?_)
  exact walk_okT (h0 := H0 n) hη hmix hreg (.steps 17 <| .done none) (S0 n  d) (by kernel_rfl) h (by kernel_rfl)
end HRLns0
namespace HCpyL
set_option linter.unusedVariables false
noncomputable def bd : Code := (Go.Proofs.Tryz.f102.body).getD .skip
noncomputable def H0 (n : List UInt8) (v : List UInt8) : AH := { objs := nZ, next := 126 }
noncomputable def E (n : List UInt8) (v : List UInt8) : AS := ⟨⟨102, 10, nN (some (Value.agg ⟨[Value.string ⟨⟨n⟩⟩, Value.string ⟨⟨v⟩⟩]⟩)) nZ nZ, [Item.code (codeAt bd [])], [], FrameMode.run, CallKind.normal, none⟩, [], ⟨nZ, 126⟩⟩
theorem enter {η : Nat → Value} {B : Bd} (hη : OneCells η) (hmix : prog.follows .mixedOrders = true) (hreg : RegOk η prog B noNest) {D : Value → AH → Prop} (n : List UInt8) (v : List UInt8) (h : W.holds η prog B 102 (fun kp_ st_ => RunD η prog B 102 (H0 n v) kp_ st_ (QF prog 126 D)) D (.call 70 [Value.string ⟨⟨n⟩⟩] (⟨nN none (nN none (nN none (nN none (nN none (nN none (nN none (nN (some (AObj.cells 37 [Value.string ⟨#[]⟩, Value.string ⟨#[]⟩] true 2)) nZ nZ) nZ) nZ) nZ) nZ) nZ) nZ) (nN none nZ (nN none nZ (nN none nZ (nN none nZ (nN none nZ (nN (some (AObj.cells 37 [Value.string ⟨⟨n⟩⟩, Value.string ⟨⟨v⟩⟩] true 2)) nZ nZ)))))), 136⟩) (.ret (Value.string ⟨⟨n⟩⟩) (⟨nN none (nN none (nN none (nN none (nN none (nN none (nN none (nN (some (AObj.cells 37 [Value.string ⟨#[]⟩, Value.string ⟨#[]⟩] true 2)) nZ nZ) nZ) nZ) nZ) nZ) nZ) nZ) (nN none nZ (nN none nZ (nN none nZ (nN none nZ (nN none nZ (nN (some (AObj.cells 37 [Value.string ⟨⟨n⟩⟩, Value.string ⟨⟨v⟩⟩] true 2)) nZ nZ)))))), 136⟩)) (.need (True ∧ (⟨nN none (nN none (nN none (nN none (nN none (nN none (nN none (nN (some (AObj.cells 37 [Value.string ⟨#[]⟩, Value.string ⟨#[]⟩] true 2)) nZ nZ) nZ) nZ) nZ) nZ) nZ) nZ) (nN none nZ (nN none nZ (nN none nZ (nN none nZ (nN none nZ (nN (some (AObj.cells 37 [Value.string ⟨⟨n⟩⟩, Value.string ⟨⟨v⟩⟩] true 2)) nZ nZ)))))), 136⟩ : AH) = (⟨nN none (nN none (nN none (nN none (nN none (nN none (nN none (nN (some (AObj.cells 37 [Value.string ⟨#[]⟩, Value.string ⟨#[]⟩] true 2)) nZ nZ) nZ) nZ) nZ) nZ) nZ) nZ) (nN none nZ (nN none nZ (nN none nZ (nN none nZ (nN none nZ (nN (some (AObj.cells 37 [Value.string ⟨⟨n⟩⟩, Value.string ⟨⟨v⟩⟩] true 2)) nZ nZ)))))), 136⟩)) (.call 70 [Value.string ⟨⟨v⟩⟩] (⟨nN none (nN none (nN none (nN none (nN none (nN none (nN none (nN (some (AObj.cells 37 [Value.string ⟨#[]⟩, Value.string ⟨#[]⟩] true 2)) nZ nZ) nZ) nZ) nZ) nZ) nZ) nZ) (nN none nZ (nN none nZ (nN none nZ (nN none nZ (nN none nZ (nN (some (AObj.cells 37 [Value.string ⟨⟨n⟩⟩, Value.string ⟨⟨v⟩⟩] true 2)) nZ nZ)))))), 136⟩) (.ret (Value.string ⟨⟨v⟩⟩) (⟨nN none (nN none (nN none (nN none (nN none (nN none (nN none (nN (some (AObj.cells 37 [Value.string ⟨#[]⟩, Value.string ⟨#[]⟩] true 2)) nZ nZ) nZ) nZ) nZ) nZ) nZ) nZ) (nN none nZ (nN none nZ (nN none nZ (nN none nZ (nN none nZ (nN (some (AObj.cells 37 [Value.string ⟨⟨n⟩⟩, Value.string ⟨⟨v⟩⟩] true 2)) nZ nZ)))))), 136⟩)) (.need (consM 70 ([Value.string ⟨⟨v⟩⟩]) (⟨nN none (nN none (nN none (nN none (nN none (nN none (nN none (nN (some (AObj.cells 37 [Value.string ⟨#[]⟩, Value.string ⟨#[]⟩] true 2)) nZ nZ) nZ) nZ) nZ) nZ) nZ) nZ) (nN none nZ (nN none nZ (nN none nZ (nN none nZ (nN none nZ (nN (some (AObj.cells 37 [Value.string ⟨⟨n⟩⟩, Value.string ⟨⟨v⟩⟩] true 2)) nZ nZ)))))), 136⟩) (Value.string ⟨⟨v⟩⟩) (⟨nN none (nN none (nN none (nN none (nN none (nN none (nN none (nN (some (AObj.cells 37 [Value.string ⟨#[]⟩, Value.string ⟨#[]⟩] true 2)) nZ nZ) nZ) nZ) nZ) nZ) nZ) nZ) (nN none nZ (nN none nZ (nN none nZ (nN none nZ (nN none nZ (nN (some (AObj.cells 37 [Value.string ⟨⟨n⟩⟩, Value.string ⟨⟨v⟩⟩] true 2)) nZ nZ)))))), 136⟩) [⟨70, [Value.string ⟨⟨n⟩⟩], ⟨nN none (nN none (nN none (nN none (nN none (nN none (nN none (nN (some (AObj.cells 37 [Value.string ⟨#[]⟩, Value.string ⟨#[]⟩] true 2)) nZ nZ) nZ) nZ) nZ) nZ) nZ) nZ) (nN none nZ (nN none nZ (nN none nZ (nN none nZ (nN none nZ (nN (some (AObj.cells 37 [Value.string ⟨⟨n⟩⟩, Value.string ⟨⟨v⟩⟩] true 2)) nZ nZ)))))), 136⟩, Value.string ⟨⟨n⟩⟩, ⟨nN none (nN none (nN none (nN none (nN none (nN none (nN none (nN (some (AObj.cells 37 [Value.string ⟨#[]⟩, Value.string ⟨#[]⟩] true 2)) nZ nZ) nZ) nZ) nZ) nZ) nZ) nZ) (nN none nZ (nN none nZ (nN none nZ (nN none nZ (nN none nZ (nN (some (AObj.cells 37 [Value.string ⟨⟨n⟩⟩, Value.string ⟨⟨v⟩⟩] true 2)) nZ nZ)))))), 136⟩⟩] ∧ (⟨nN none (nN none (nN none (nN none (nN none (nN none (nN none (nN (some (AObj.cells 37 [Value.string ⟨#[]⟩, Value.string ⟨#[]⟩] true 2)) nZ nZ) nZ) nZ) nZ) nZ) nZ) nZ) (nN none nZ (nN none nZ (nN none nZ (nN none nZ (nN none nZ (nN (some (AObj.cells 37 [Value.string ⟨⟨n⟩⟩, Value.string ⟨⟨v⟩⟩] true 2)) nZ nZ)))))), 136⟩ : AH) = (⟨nN none (nN none (nN none (nN none (nN none (nN none (nN none (nN (some (AObj.cells 37 [Value.string ⟨#[]⟩, Value.string ⟨#[]⟩] true 2)) nZ nZ) nZ) nZ) nZ) nZ) nZ) nZ) (nN none nZ (nN none nZ (nN none nZ (nN none nZ (nN none nZ (nN (some (AObj.cells 37 [Value.string ⟨⟨n⟩⟩, Value.string ⟨⟨v⟩⟩] true 2)) nZ nZ)))))), 136⟩)) (.need (True) (.done 102 (Value.agg ⟨[Value.string ⟨⟨n⟩⟩, Value.string ⟨⟨v⟩⟩]⟩) (H0 n v)))))))) : CallSpec η prog B 102 [Value.agg ⟨[Value.string ⟨⟨n⟩⟩, Value.string ⟨⟨v⟩⟩]⟩] (H0 n v) D := by
  refine CallSpec.ofQF hη (CallSpec.enter (fr := (E n v).fr) (by kernel_rfl) ?_)
  exact walk_okT (h0 := H0 n v) hη hmix hreg (.steps 6 <| .regM [2, 5] <| .steps 2 <| .call kN <| .steps 2 <| .call kN <| .steps 2 <| .regM [2, 5] <| .steps 1 <| .done (some ⟨126, [], []⟩)) (E n v) (by kernel_rfl) h (by kernel_rfl)
end HCpyL
end Go.Ev

namespace Go.Ev
set_option linter.unusedVariables false
set_option linter.unusedSimpArgs false
namespace TH
open TB TE
theorem let_ne (c : UInt8) : letB c = true → c ≠ 58 ∧ c ≠ 10 ∧ c ≠ 13 := by
  have h := forall_u8 (p := fun c => !letB c || (c != 58 && c != 10 && c != 13)) (by decide +kernel) c
  intro hl
  simp only [hl, Bool.not_true, Bool.false_or, Bool.and_eq_true, bne_iff_ne] at h
  exact ⟨h.1.1, h.1.2, h.2⟩
theorem pl_ne (c : UInt8) : plB c = true → c ≠ 10 ∧ c ≠ 13 := by
  have h := forall_u8 (p := fun c => !plB c || (c != 10 && c != 13)) (by decide +kernel) c
  intro hl
  simp only [hl, Bool.not_true, Bool.false_or, Bool.and_eq_true, bne_iff_ne] at h
  exact h
theorem tok_ne {n : List UInt8} (h : tokB n = true) : ∀ c ∈ n, c ≠ 58 ∧ c ≠ 10 ∧ c ≠ 13 := by
  unfold tokB at h
  simp only [Bool.and_eq_true] at h
  exact fun c hc => let_ne c (List.all_eq_true.1 h.2 c hc)
theorem tw58 : ∀ (n r : List UInt8), (∀ c ∈ n, c ≠ 58) → (n ++ 58 :: r).takeWhile (· != 58) = n
  | [], r, _ => by simp
  | c :: n, r, h => by
    rw [List.cons_append, List.takeWhile_cons, if_pos (by simpa using h c (by simp)), tw58 n r fun d hd => h d (by simp [hd])]
theorem par_app (fin : Int) : ∀ (a cur r : List UInt8) (u : Nat) (l : List HF), (∀ c ∈ a, c ≠ 10) → par fin cur (a ++ r) u l = par fin (cur ++ a) r u l
  | [], cur, r, u, l, _ => by rw [List.append_nil]; rfl
  | c :: a, cur, r, u, l, h => by
    rw [List.cons_append, par, if_neg (h c (by simp)), par_app fin a _ r u l fun d hd => h d (by simp [hd]), List.append_assoc]
    rfl
theorem lnOf_len (p : HF) : (lnOf p).length = p.1.length + p.2.length + 4 := by
  unfold lnOf; simp only [List.length_append, List.length_cons, List.length_nil]; omega
theorem chkF_cons {p : HF} {l : List HF} {n : Nat} (h : chkF (p :: l) n = 0) : ckf p.1 p.2 = 0 ∧ chkF l (n + (lnOf p).length) = 0 := by
  unfold chkF at h
  split at h
  · rename_i h1; exact absurd h h1
  · rename_i h1
    rw [lnOf_len, ← Nat.add_assoc, ← Nat.add_assoc]
    exact ⟨Decidable.byContradiction h1, h⟩
theorem chkF_len : ∀ {l : List HF} {n : Nat}, chkF l n = 0 → n + (lns l).length ≤ 8192
  | [], n, h => by
    unfold chkF at h
    split at h
    · cases h
    · simp only [lns, List.length_nil]; omega
  | p :: l, n, h => by
    have := chkF_len (chkF_cons h).2
    simp only [lns, List.length_append]; omega
theorem chk0 {l : List HF} (h : chk l = 0) : l.length ≤ 100 ∧ chkF l 2 = 0 := by
  unfold chk at h
  split at h
  · cases h
  · exact ⟨by omega, h⟩
/-- What was used. -/
theorem par_used {fin fin' : Int} : ∀ (r : List UInt8) {cur : List UInt8} {u : Nat} {l L : List HF} {N : Nat}, par fin cur r u l = (L, N, 0) → fin ≠ 0 → l.length ≤ 100 →
    u + cur.length < N ∧ u + 2 ≤ N ∧ N ≤ u + cur.length + r.length ∧ N ≤ 8192 ∧ L.length ≤ 100 ∧ par fin' cur (r.take (N - u - cur.length)) u l = (L, N, 0)
  | [], cur, u, l, L, N, h, hf, _ => by
    unfold par at h
    simp at h
    exact absurd h.2.2 hf
  | c :: r, cur, u, l, L, N, h, hf, hl => by
    rw [par] at h
    by_cases hc : c = 10
    · rw [if_pos hc] at h
      by_cases h1 : 8192 < u + cur.length + 1
      · rw [if_pos h1] at h; simp at h
      · rw [if_neg h1] at h
        by_cases h2 : cur = [13]
        · rw [if_pos h2] at h
          have h' := h
          injection h with e1 h
          injection h with e2 _
          subst e1
          have hcl : cur.length = 1 := by rw [h2]; rfl
          refine ⟨by omega, by omega, by simp only [List.length_cons]; omega, by omega, hl, ?_⟩
          rw [show N - u - cur.length = 0 + 1 by omega, List.take_succ_cons, par, if_pos hc, if_neg h1, if_pos h2]
          exact h'
        · rw [if_neg h2] at h
          cases hq : lineOf cur with
          | none => rw [hq] at h; simp at h
          | some f =>
            rw [hq] at h
            simp only at h
            by_cases h3 : 2000 < f.2.length ∨ l.length = 100
            · rw [if_pos h3] at h; simp at h
            · rw [if_neg h3] at h
              obtain ⟨k1, k2, k3, k4, k5, k6⟩ := par_used (fin' := fin') r h hf (by rw [List.length_append, List.length_singleton]; omega)
              simp only [List.length_nil] at k1 k3 k6
              refine ⟨by omega, by omega, by simp only [List.length_cons]; omega, k4, k5, ?_⟩
              rw [show N - u - cur.length = (N - (u + cur.length + 1) - 0) + 1 by omega, List.take_succ_cons, par, if_pos hc, if_neg h1, if_neg h2, hq]
              simp only
              rw [if_neg h3]
              exact k6
    · rw [if_neg hc] at h
      obtain ⟨k1, k2, k3, k4, k5, k6⟩ := par_used (fin' := fin') r h hf hl
      simp only [List.length_append, List.length_singleton] at k1 k3 k6
      refine ⟨by omega, by omega, by simp only [List.length_cons]; omega, k4, k5, ?_⟩
      rw [show N - u - cur.length = (N - u - (cur.length + 1)) + 1 by omega, List.take_succ_cons, par, if_neg hc]
      exact k6
theorem fin_ne (b : List UInt8) : finE b ≠ 0 := by unfold finE; split <;> decide
theorem parse_used {b : List UInt8} {L : List HF} {N : Nat} (h : parse b = (L, N, 0)) : 2 ≤ N ∧ N ≤ b.length ∧ N ≤ 8192 ∧ L.length ≤ 100 ∧ parse (b.take N) = (L, N, 0) := by
  obtain ⟨_, k2, k3, k4, k5, k6⟩ := par_used (fin' := finE (b.take N)) b h (fin_ne b) (by simp)
  simp only [List.length_nil, Nat.sub_zero, Nat.zero_add, Nat.add_zero] at k2 k3 k6
  exact ⟨k2, k3, k4, k5, k6⟩
/-- With an error nothing is returned. -/
theorem par_err {fin : Int} : ∀ (r : List UInt8) {cur : List UInt8} {u : Nat} {l : List HF}, (par fin cur r u l).2.2 ≠ 0 → (par fin cur r u l).1 = [] ∧ (par fin cur r u l).2.1 = 0
  | [], cur, u, l, h => ⟨rfl, rfl⟩
  | c :: r, cur, u, l, h => by
    rw [par] at h ⊢
    by_cases hc : c = 10
    · rw [if_pos hc] at h ⊢
      by_cases h1 : 8192 < u + cur.length + 1
      · rw [if_pos h1]; exact ⟨rfl, rfl⟩
      · rw [if_neg h1] at h ⊢
        by_cases h2 : cur = [13]
        · rw [if_pos h2] at h; exact absurd rfl h
        · rw [if_neg h2] at h ⊢
          cases hq : lineOf cur with
          | none => exact ⟨rfl, rfl⟩
          | some f =>
            rw [hq] at h
            simp only at h ⊢
            by_cases h3 : 2000 < f.2.length ∨ l.length = 100
            · rw [if_pos h3]; exact ⟨rfl, rfl⟩
            · rw [if_neg h3] at h ⊢
              exact par_err r h
    · rw [if_neg hc] at h ⊢
      exact par_err r h
theorem parse_err {b : List UInt8} (h : (parse b).2.2 ≠ 0) : (parse b).1 = [] ∧ (parse b).2.1 = 0 := par_err b h
theorem parse_le {b : List UInt8} : (parse b).1.length ≤ 100 := by
  by_cases h : (parse b).2.2 = 0
  · have : parse b = ((parse b).1, (parse b).2.1, 0) := by rw [← h]
    exact (parse_used this).2.2.2.1
  · rw [(parse_err h).1]; simp
end TH
end Go.Ev

namespace Go.Ev
set_option linter.unusedVariables false
set_option linter.unusedSimpArgs false
open Go Go.Proofs Go.RowKit
variable {η : Nat → Value} {B : Bd}
namespace TH
open TB TE
theorem u8_of {c : UInt8} {n : Nat} (hn : n < 256) (h : (c.toNat : Int) = n) : c = UInt8.ofNat n := by
  have h2 : c.toNat = n := by omega
  rw [← h2]; exact (UInt8.ofNat_toNat).symm
theorem u8_ne {c : UInt8} {n : Nat} (hn : n < 256) (h : ¬ (c.toNat : Int) = n) : c ≠ UInt8.ofNat n := by
  intro e; apply h; rw [e, UInt8.toNat_ofNat']; omega
theorem ret_ok (hη : OneCells η) (hmix : Tryz.prog.follows .mixedOrders = true) (s : List UInt8) (hs : s.length ≤ 1000000) (h : AH) :
    CallSpec η Tryz.prog B 49 [.string ⟨⟨s⟩⟩] h (reK [.string ⟨⟨s⟩⟩] h).sat := by
  refine CallSpec.bare (v := .bool (reB s)) hη gs9 (fun _ _ => str_args) (fun σ M => .bool _) (fun σ M => .bool _) ?_ h
  have cut := fun i0 => HRRet.cut0 (η := η) (B := B) (D := fun v _ => v = .bool (reB s)) hη hmix (reg0 hη hmix) s i0
  simp only [W.holds, true_and, decide_eq_true_eq, decide_eq_false_iff_not, beq_iff_eq, beq_eq_false_iff_ne, ne_eq] at cut
  refine HRRet.enter hη hmix (reg0 hη hmix) _ ?_
  simp only [W.holds]
  have loop : ∀ (r : List UInt8) (i : Nat), s.drop i = r → reB s = reB r → RunD η Tryz.prog B 49 (HRRet.H0 s) [0, 3] (HRRet.S0 s (i : Int) fun _ => undef) (QF Tryz.prog 126 fun v _ => v = .bool (reB s)) := by
    intro r
    induction r with
    | nil =>
      intro i hd he
      have := at_nil hd
      refine cut _ ⟨fun h => by omega, fun _ => ?_⟩
      rw [he]; rfl
    | cons c r ih =>
      intro i hd he
      obtain ⟨hi, hb, hd2⟩ := at_cons hd
      have c1 := cut (i : Int)
      rw [hb, wrap1 (by omega)] at c1
      refine c1 ⟨fun _ => ⟨⟨by omega, by omega⟩, fun _ => ⟨fun h13 => ?_, fun h13 => ih (i + 1) hd2 ?_⟩⟩, fun h => by omega⟩
      · rw [he, u8_of (n := 13) (by decide) h13]; rfl
      · rw [he]; unfold reB; rw [List.any_cons, show (c == 13) = false from beq_false_of_ne (u8_ne (n := 13) (by decide) h13)]; rfl
  exact loop s 0 rfl rfl
theorem fieldOf_none {s : List UInt8} (h : ∀ c ∈ s, c ≠ 58) : fieldOf s = none := by
  unfold fieldOf
  have : s.takeWhile (· != 58) = s := by
    induction s with
    | nil => rfl
    | cons a s ih => rw [List.takeWhile_cons, if_pos (by simpa using h a (by simp)), ih fun c hc => h c (by simp [hc])]
  rw [this, List.drop_length]
theorem fieldOf_at {n v : List UInt8} (h : ∀ c ∈ n, c ≠ 58) : fieldOf (n ++ 58 :: v) = if (tokB n && v.all plB) = true then some (n, trimB v) else none := by
  unfold fieldOf
  rw [tw58 n v h, List.drop_left]
theorem fieldOf_re {s : List UInt8} (h : reB s = true) : fieldOf s = none := by
  unfold fieldOf
  split
  · rfl
  · rename_i c v hd
    rw [if_neg]
    intro hc
    simp only [Bool.and_eq_true] at hc
    have e : s.takeWhile (· != 58) ++ s.drop (s.takeWhile (· != 58)).length = s := by
      have := List.takeWhile_append_dropWhile (p := fun x => x != (58 : UInt8)) (l := s)
      rw [show s.drop (s.takeWhile (· != 58)).length = s.dropWhile (· != 58) from by
        conv => lhs; rw [← this]
        rw [show (List.takeWhile (fun x => x != 58) (List.takeWhile (fun x => x != 58) s ++ List.dropWhile (fun x => x != 58) s)) = List.takeWhile (fun x => x != 58) s from by rw [this], List.drop_left]]
      exact this
    have hdw : s.dropWhile (· != 58) = c :: v := by
      have := List.takeWhile_append_dropWhile (p := fun x => x != (58 : UInt8)) (l := s)
      have h2 := this.trans e.symm
      rw [hd] at h2
      exact List.append_cancel_left h2
    have hc58 : c = 58 := by
      have := List.head_dropWhile_not (fun x => x != (58 : UInt8)) (l := s) (by rw [hdw]; simp)
      simp only [hdw, List.head_cons] at this
      simpa using this
    unfold reB at h
    rw [← e, hd, List.any_append, List.any_cons] at h
    simp only [Bool.or_eq_true, List.any_eq_true, beq_iff_eq] at h
    rcases h with ⟨x, hx, rfl⟩ | rfl | ⟨x, hx, rfl⟩
    · exact (tok_ne hc.1 _ hx).2.2 rfl
    · cases hc58
    · exact (pl_ne _ (List.all_eq_true.1 hc.2 _ hx)).2 rfl
theorem rv_fe {σ : Nat → Nat} {M : Nat} {w : Bool} (n v : List UInt8) (b : Bool) : RV σ M w (.tuple ⟨[.agg ⟨[.string ⟨⟨n⟩⟩, .string ⟨⟨v⟩⟩]⟩, .bool b]⟩) (.tuple ⟨[.agg ⟨[.string ⟨⟨n⟩⟩, .string ⟨⟨v⟩⟩]⟩, .bool b]⟩) := RV.tup2 (rv_agg2 _ _) (.bool _)
set_option maxRecDepth 20000 in
theorem rread_ok (hη : OneCells η) (hmix : Tryz.prog.follows .mixedOrders = true) (s : List UInt8) (hs : s.length ≤ 1000000) (h : AH) :
    CallSpec η Tryz.prog B 50 [.string ⟨⟨s⟩⟩] h (feK [.string ⟨⟨s⟩⟩] h).sat := by
  refine CallSpec.bare (v := .tuple ⟨[.agg ⟨[.string ⟨⟨(feF s).1⟩⟩, .string ⟨⟨(feF s).2⟩⟩]⟩, .bool (feB s)]⟩) hη gs9 (fun _ _ => str_args) (fun σ M => rv_fe _ _ _) (fun σ M => rv_fe _ _ _) ?_ h
  have cut := fun i0 => HRRead.cut0 (η := η) (B := B) (D := fun v _ => v = .tuple ⟨[.agg ⟨[.string ⟨⟨(feF s).1⟩⟩, .string ⟨⟨(feF s).2⟩⟩]⟩, .bool (feB s)]⟩) hη hmix (reg0 hη hmix) s i0
  simp only [W.holds, true_and, and_true, true_implies, decide_eq_true_eq, decide_eq_false_iff_not, beq_iff_eq, beq_eq_false_iff_ne, bne_iff_ne, bne_eq_false_iff_eq, ne_eq, Bool.not_eq_true', Bool.not_eq_false', List.drop_zero, Nat.sub_zero, Int.toNat_natCast, Nat.le_refl, Int.le_refl] at cut
  refine HRRead.enter hη hmix (reg0 hη hmix) _ ?_
  simp only [W.holds]
  have bad : fieldOf s = none → Value.tuple ⟨[.agg ⟨[.string ⟨#[]⟩, .string ⟨#[]⟩]⟩, .bool false]⟩ = .tuple ⟨[.agg ⟨[.string ⟨⟨(feF s).1⟩⟩, .string ⟨⟨(feF s).2⟩⟩]⟩, .bool (feB s)]⟩ := by
    intro e; unfold feF feB; rw [e]; rfl
  have loop : ∀ (r : List UInt8) (i : Nat), s.drop i = r → (∀ c ∈ s.take i, c ≠ 58) → i ≤ s.length → RunD η Tryz.prog B 50 (HRRead.H0 s) [0, 2, 4] (HRRead.S0 s (i : Int) fun _ => undef) (QF Tryz.prog 126 fun v _ => v = .tuple ⟨[.agg ⟨[.string ⟨⟨(feF s).1⟩⟩, .string ⟨⟨(feF s).2⟩⟩]⟩, .bool (feB s)]⟩) := by
    intro r
    induction r with
    | nil =>
      intro i hd hn hi
      have := at_nil hd
      have hlen : i = s.length := by omega
      rw [hlen, List.take_length] at hn
      refine cut _ ⟨fun h => by omega, fun _ => ⟨fun _ => bad (fieldOf_none hn), fun h => absurd (by omega) h⟩⟩
    | cons c r ih =>
      intro i hd hn hi
      obtain ⟨hi, hb, hd2⟩ := at_cons hd
      have c1 := cut (i : Int)
      rw [hb, wrap1 (by omega)] at c1
      simp only [Int.toNat_natCast] at c1
      refine c1 ⟨fun _ => ⟨⟨by omega, by omega⟩, fun _ => ⟨fun h58 => ih (i + 1) hd2 ?_ (by omega), fun h58 => ⟨fun h => by omega, fun _ => ?_⟩⟩⟩, fun h => by omega⟩
      · intro x hx
        rw [List.take_add_one, List.mem_append] at hx
        rcases hx with hx | hx
        · exact hn x hx
        · have : s[i]? = some c := by
            have := congrArg (fun l => l[0]?) hd
            simpa using this
          rw [this] at hx
          simp only [Option.toList_some, List.mem_singleton] at hx
          rw [hx]; exact u8_ne (n := 58) (by decide) h58
      · have hc : c = 58 := u8_of (n := 58) (by decide) h58
        subst hc
        have hs2 : s = s.take i ++ 58 :: r := by rw [← hd, List.take_append_drop]
        have hf := fieldOf_at (v := r) hn
        rw [← hs2] at hf
        rw [hd2]
        have htk : List.take (s.length - (i + 1)) r = r := List.take_of_length_le (by rw [← hd2, List.length_drop]; omega)
        rw [htk]
        have hr : r.length ≤ 1000000 := by rw [← hd2, List.length_drop]; omega
        refine ⟨by omega, fun _ => ⟨rtok_ok hη hmix _ _, fun ht => bad (by rw [hf, ht]; rfl), fun ht => ⟨⟨by omega, by omega⟩, fun _ => ⟨pln_ok hη hmix _ hr _, fun hp => bad (by rw [hf, hp, Bool.and_false]; rfl), fun hp => ⟨by omega, fun _ => ⟨⟨by omega, by omega⟩, fun _ => ⟨htrim_ok hη hmix _ hr _, ?_⟩⟩⟩⟩⟩⟩⟩
        unfold feF feB
        rw [hf, ht, hp]
        rfl
  exact loop s 0 rfl (by simp) (by omega)
end TH
end Go.Ev

namespace Go.Ev
set_option linter.unusedVariables false
set_option linter.unusedSimpArgs false
open Go Go.Proofs Go.RowKit
variable {η : Nat → Value} {B : Bd}
namespace TH
open TB TE
theorem ix_gen (x : UInt8) : ∀ s : List UInt8, (ix s x = -1 ∧ ∀ c ∈ s, c ≠ x) ∨ (∃ a r, s = a ++ x :: r ∧ (∀ c ∈ a, c ≠ x) ∧ ix s x = (a.length : Int))
  | [] => .inl ⟨rfl, fun c hc => by cases hc⟩
  | b :: s => by
    have hd : ix (b :: s) x = if (b == x) = true then 0 else if (ix s x == -1) = true then -1 else ix s x + 1 := rfl
    by_cases hb : b = x
    · subst hb
      exact .inr ⟨[], s, rfl, fun c hc => (by cases hc), (by rw [hd, if_pos (by simp)]; rfl)⟩
    · have hb' : ¬ (b == x) = true := by simpa using hb
      rcases ix_gen x s with ⟨h1, h2⟩ | ⟨a, r, h1, h2, h3⟩
      · refine .inl ⟨by rw [hd, if_neg hb', h1]; rfl, fun c hc => ?_⟩
        rcases List.mem_cons.1 hc with rfl | hc
        · exact hb
        · exact h2 c hc
      · refine .inr ⟨b :: a, r, by rw [h1]; rfl, fun c hc => ?_, ?_⟩
        · rcases List.mem_cons.1 hc with rfl | hc
          · exact hb
          · exact h2 c hc
        · rw [hd, if_neg hb', if_neg (by rw [h3, beq_iff_eq]; omega), h3, List.length_cons]; omega
theorem cut_none {s : List UInt8} (h : ∀ c ∈ s, c ≠ 58) : cutL s = s ∧ cutR s = [] ∧ cutB s = false := by
  have h1 : cutL s = s := by
    unfold cutL
    induction s with
    | nil => rfl
    | cons a s ih => rw [List.takeWhile_cons, if_pos (by simpa using h a (by simp)), ih fun c hc => h c (by simp [hc])]
  refine ⟨h1, by unfold cutR; rw [h1, List.drop_length]; rfl, ?_⟩
  unfold cutB
  rw [List.any_eq_false]
  intro c hc
  simpa using h c hc
theorem cut_some {a r : List UInt8} (h : ∀ c ∈ a, c ≠ 58) : cutL (a ++ 58 :: r) = a ∧ cutR (a ++ 58 :: r) = r ∧ cutB (a ++ 58 :: r) = true := by
  have h1 : cutL (a ++ 58 :: r) = a := tw58 a r h
  refine ⟨h1, by unfold cutR; rw [h1, List.drop_left]; rfl, ?_⟩
  unfold cutB
  simp
theorem fieldOf_cut (s : List UInt8) : fieldOf s = if (cutB s && tokB (cutL s) && (cutR s).all plB) = true then some (cutL s, trimB (cutR s)) else none := by
  rcases ix_gen 58 s with ⟨_, h⟩ | ⟨a, r, rfl, h, _⟩
  · rw [fieldOf_none h, (cut_none h).2.2]; rfl
  · obtain ⟨h1, h2, h3⟩ := cut_some (r := r) h
    rw [fieldOf_at h, h1, h2, h3, Bool.true_and]
theorem si_ok (s : List UInt8) (h : AH) : CallSpec η Tryz.prog B 185 [.string ⟨⟨s⟩⟩, .string ⟨#[58]⟩] h (siK [.string ⟨⟨s⟩⟩, .string ⟨#[58]⟩] h).sat := by
  refine CallSpec.ofCalls (v := .int .i64 (ix s 58)) fun ρ args' w hl p => ?_
  obtain rfl := args_inv rfl hl
  refine (Tryz.stringslite_Index_one ⟨⟨s⟩⟩ 58 w).mono ?_
  rintro e w' ⟨rfl, rfl⟩
  exact ⟨_, rfl, .int _ _, Below.refl _ _⟩
theorem rv_cut {σ : Nat → Nat} {M : Nat} {w : Bool} (n v : List UInt8) (b : Bool) : RV σ M w (.tuple ⟨[.string ⟨⟨n⟩⟩, .string ⟨⟨v⟩⟩, .bool b]⟩) (.tuple ⟨[.string ⟨⟨n⟩⟩, .string ⟨⟨v⟩⟩, .bool b]⟩) := .tuple rfl fun i x y hx hy => by
  rw [hx] at hy; injection hy with hy; subst hy
  match i, hx with
  | 0, hx => simp at hx; subst hx; exact .string _
  | 1, hx => simp at hx; subst hx; exact .string _
  | 2, hx => simp at hx; subst hx; exact .bool _
theorem cut_ok (hη : OneCells η) (hmix : Tryz.prog.follows .mixedOrders = true) (s : List UInt8) (hs : s.length ≤ 1000000) (h : AH) :
    CallSpec η Tryz.prog B 100 [.string ⟨⟨s⟩⟩, .string ⟨#[58]⟩] h (cutK [.string ⟨⟨s⟩⟩, .string ⟨#[58]⟩] h).sat := by
  refine CallSpec.bare (v := .tuple ⟨[.string ⟨⟨cutL s⟩⟩, .string ⟨⟨cutR s⟩⟩, .bool (cutB s)]⟩) hη gs9 (fun _ _ => .cons (.string _) (.cons (.string _) .nil)) (fun σ M => rv_cut _ _ _) (fun σ M => rv_cut _ _ _) ?_ h
  refine HCut.enter hη hmix (reg0 hη hmix) _ ?_
  have e58 : (#[(58 : UInt8)].toList.headD (0 : UInt8)) = 58 := rfl
  simp only [W.holds, true_and, and_true, true_implies, e58, decide_eq_true_eq, decide_eq_false_iff_not, List.drop_zero, Nat.sub_zero, Int.toNat_natCast, Nat.le_refl, Int.le_refl]
  refine ⟨si_ok s _, ?_⟩
  rcases ix_gen 58 s with ⟨h1, h⟩ | ⟨a, r, rfl, h, h1⟩
  · obtain ⟨c1, c2, c3⟩ := cut_none h
    rw [h1, c1, c2, c3]
    exact ⟨fun h => absurd h (by decide), fun _ => rfl⟩
  · obtain ⟨c1, c2, c3⟩ := cut_some (r := r) h
    rw [h1, c1, c2, c3, wrap1 (by simp only [List.length_append] at hs; omega)]
    simp only [Int.toNat_natCast]
    simp only [List.length_append, List.length_cons] at hs ⊢
    refine ⟨fun _ => ⟨⟨by omega, by omega⟩, fun _ => ⟨⟨by omega, by omega⟩, fun _ => ?_⟩⟩, fun h => absurd (by omega) h⟩
    rw [List.take_left, show List.drop (a.length + 1) (a ++ 58 :: r) = r from by rw [← List.drop_drop, List.drop_left]; rfl, List.take_of_length_le (by omega)]
theorem cpy_ok' (hη : OneCells η) (hmix : Tryz.prog.follows .mixedOrders = true) (n v : List UInt8) (hn : n.length ≤ 1000000) (hv : v.length ≤ 1000000) (h : AH) :
    CallSpec η Tryz.prog B 102 [.agg ⟨[.string ⟨⟨n⟩⟩, .string ⟨⟨v⟩⟩]⟩] h (cpyK [.agg ⟨[.string ⟨⟨n⟩⟩, .string ⟨⟨v⟩⟩]⟩] h).sat := by
  refine CallSpec.bare (v := .agg ⟨[.string ⟨⟨n⟩⟩, .string ⟨⟨v⟩⟩]⟩) hη gs9 (fun _ _ => .cons (rv_agg2 _ _) .nil) (fun σ M => rv_agg2 _ _) (fun σ M => rv_agg2 _ _) ?_ h
  refine HCpyL.enter hη hmix (reg0 hη hmix) _ _ ?_
  simp only [W.holds, true_and, and_true, true_implies, consM, Nat.reduceEqDiff, false_implies, and_self]
  have ok := fun (s : List UInt8) (hs : s.length ≤ 1000000) h => clone_ok (B := B) hη hmix s hs h
  exact ⟨ok n hn _, ok v hv _, fun e => by injection e, fun _ => trivial⟩
theorem rdO_some (t : List UInt8) : rdO (t ++ [13, 10]) = fieldOf t := by
  unfold rdO lineOf
  rw [show t ++ [13, 10] = (t ++ [13]) ++ [10] by simp, if_pos List.getLast?_concat, List.dropLast_concat, if_pos List.getLast?_concat, List.dropLast_concat]
theorem rdO_none {s : List UInt8} (h : ∀ t, s ≠ t ++ [13, 10]) : rdO s = none := by
  unfold rdO lineOf
  split
  · rename_i h1
    split
    · rename_i h2
      exfalso
      obtain ⟨ys, e1⟩ := List.getLast?_eq_some_iff.1 h1
      rw [e1, List.dropLast_concat] at h2
      obtain ⟨zs, e2⟩ := List.getLast?_eq_some_iff.1 h2
      apply h zs
      rw [e1, e2]; simp
    · rfl
  · rfl
set_option maxRecDepth 20000 in
theorem rdl_ok (hη : OneCells η) (hmix : Tryz.prog.follows .mixedOrders = true) (s : List UInt8) (hs : s.length ≤ 900000) (h : AH) :
    CallSpec η Tryz.prog B 48 [.string ⟨⟨s⟩⟩] h (rdK [.string ⟨⟨s⟩⟩] h).sat := by
  refine CallSpec.bare (v := .tuple ⟨[.agg ⟨[.string ⟨⟨(rdF s).1⟩⟩, .string ⟨⟨(rdF s).2⟩⟩]⟩, .bool (rdB s)]⟩) hη gs9 (fun _ _ => str_args) (fun σ M => rv_fe _ _ _) (fun σ M => rv_fe _ _ _) ?_ h
  refine HRdL.enter hη hmix (reg0 hη hmix) _ ?_
  simp only [W.holds, true_and, and_true, true_implies, decide_eq_true_eq, decide_eq_false_iff_not, List.drop_zero, Nat.sub_zero, Int.toNat_natCast, Nat.le_refl, Int.le_refl, Bool.not_eq_true', Bool.not_eq_false', beq_iff_eq, beq_eq_false_iff_ne, ne_eq]
  have bad : rdO s = none → Value.tuple ⟨[.agg ⟨[.string ⟨#[]⟩, .string ⟨#[]⟩]⟩, .bool false]⟩ = .tuple ⟨[.agg ⟨[.string ⟨⟨(rdF s).1⟩⟩, .string ⟨⟨(rdF s).2⟩⟩]⟩, .bool (rdB s)]⟩ := by
    intro e; unfold rdF rdB; rw [e]; rfl
  refine ⟨fun h2 => ?_, fun h2 => ⟨cut_ok hη hmix s (by omega) _, bad (rdO_none fun t e => ?_)⟩⟩
  · have h2' : 2 ≤ s.length := by omega
    rw [wrapL' (by omega) (by omega)]
    have ez : ((s.length : Int) - 2).toNat = s.length - 2 := by omega
    rw [ez]
    refine ⟨⟨by omega, by omega⟩, fun _ => ⟨fun hne => ⟨cut_ok hη hmix s (by omega) _, bad (rdO_none fun t e => ?_)⟩, fun he => ⟨⟨by omega, by omega⟩, fun _ => ?_⟩⟩⟩
    · apply hne
      have hlen : s.length = t.length + 2 := by rw [e]; simp
      rw [hlen, show t.length + 2 - 2 = t.length by omega, e, List.drop_left]
      exact List.take_of_length_le (by simp)
    · have htl : List.drop (s.length - 2) s = [13, 10] := by
        rw [List.take_of_length_le (by rw [List.length_drop]; omega)] at he
        exact he
      have hs2 : s = s.take (s.length - 2) ++ [13, 10] := by
        have := List.take_append_drop (s.length - 2) s
        rw [htl] at this
        exact this.symm
      have hr : rdO s = fieldOf (s.take (s.length - 2)) := by
        rw [← rdO_some, ← hs2]
      have htn : (s.take (s.length - 2)).length ≤ 900000 := by rw [List.length_take]; omega
      generalize s.take (s.length - 2) = t at hr htn
      have hf := fieldOf_cut t
      rw [← hr] at hf
      have hcl : (cutL t).length ≤ 900000 := Nat.le_trans (List.takeWhile_sublist _).length_le htn
      have hcr : (cutR t).length ≤ 900000 := by unfold cutR; simp only [List.length_drop]; omega
      have htr := trim_len (cutR t)
      refine ⟨cut_ok hη hmix t (by omega) _, fun hb => bad (by rw [hf, hb]; rfl), fun hb => ⟨tok_ok hη hmix _ (by omega) _, fun ht => bad (by rw [hf, ht, Bool.and_false]; rfl), fun ht => ⟨text_ok hη hmix _ (by omega) _, fun hp => bad (by rw [hf, hp, Bool.and_false]; rfl), fun hp => ⟨trim_ok _ (by omega), cpy_ok' hη hmix _ _ (by omega) (by omega) _, ?_⟩⟩⟩⟩
      rw [hb, ht, hp] at hf
      unfold rdF rdB
      rw [hf]
      rfl
  · apply h2
    rw [e]; simp; omega
/- Lines, by the reference. -/
theorem lns_snoc (l : List HF) (p : HF) : lns (l ++ [p]) = lns l ++ lnOf p := by
  induction l with
  | nil => simp [lns]
  | cons a l ih => rw [List.cons_append, lns, ih, lns, List.append_assoc]
set_option maxRecDepth 20000 in
theorem lns_le {l : List HF} (hL : Small l) : ∀ k, (lns (l.take k)).length ≤ k * 40004
  | 0 => by simp [lns]
  | k + 1 => by
    have ih := lns_le hL k
    rcases Nat.lt_or_ge k l.length with h | h
    · rw [List.take_succ_eq_append_getElem h, lns_snoc, List.length_append, lnOf_len]
      have := hL.2 _ (List.getElem_mem h)
      omega
    · rw [List.take_of_length_le (by omega)]
      rw [List.take_of_length_le h] at ih
      exact Nat.le_trans ih (Nat.mul_le_mul_right _ (Nat.le_succ k))
set_option maxRecDepth 20000 in
theorem rlns_can (hη : OneCells η) (hmix : Tryz.prog.follows .mixedOrders = true) {l : List HF} {c : List Value} {o : Nat} (ty cap : Nat) (F : FldsAt c o l) (hL : Small l) {D : Value → AH → Prop}
    (d : D (.string ⟨⟨lns l ++ [13, 10]⟩⟩) (heapT [(ty, c)])) :
    CallSpec η Tryz.prog B 46 [.slice (some ⟨126, o, none⟩) l.length cap] (heapT [(ty, c)]) D := by
  have e0 : HRLns.H0 ty o c l.length cap = heapT [(ty, c)] := rfl
  rw [← e0] at d ⊢
  have nn := nn_bare F.1
  have hl := hL.1
  have cut0 := fun y0 i0 => HRLns.cut0 (η := η) (B := B) (D := D) hη hmix (reg0 hη hmix) ty o c l.length cap y0 i0
  refine HRLns.enter hη hmix (reg0 hη hmix) _ _ _ _ _ ?_
  simp only [W.holds, true_and, and_true, decide_eq_true_eq, decide_eq_false_iff_not, true_implies, Nat.le_refl] at cut0 ⊢
  have loop : ∀ (rest : List HF) (i : Nat), l.drop i = rest → i ≤ l.length → RunD η Tryz.prog B 46 (HRLns.H0 ty o c l.length cap) [0, 3, 4] (HRLns.S0 ty o c l.length cap ⟨⟨lns (l.take i)⟩⟩ (i : Int) fun _ => undef) (QF Tryz.prog 127 D) := by
    intro rest
    induction rest with
    | nil =>
      intro i hd hi0
      have hi : l.length ≤ i := List.drop_eq_nil_iff.1 hd
      have hn := lns_le hL i
      have c1 := cut0 ⟨⟨lns (l.take i)⟩⟩ (i : Int)
      simp only [bdl] at c1
      refine c1 ⟨fun h => by omega, fun _ => ⟨by omega, fun _ => ?_⟩⟩
      rw [List.take_of_length_le hi]; exact d
    | cons p rest ih =>
      intro i hd hi0
      have hi : i < l.length := by
        rcases Nat.lt_or_ge i l.length with h | h
        · exact h
        · rw [List.drop_of_length_le h] at hd; cases hd
      rw [List.drop_eq_getElem_cons hi] at hd
      injection hd with e1 e2
      obtain ⟨b1, b2⟩ := hL.2 p (by rw [← e1]; exact List.getElem_mem hi)
      obtain ⟨f0, f1⟩ := F.2 i hi
      obtain ⟨_, g1, g2⟩ := fl_get F hi
      have hn := lns_le hL i
      have c1 := cut0 ⟨⟨lns (l.take i)⟩⟩ (i : Int)
      rw [Int.toNat_natCast, show o + i * 2 + 0 = o + i * 2 from rfl, g1, g2, wrap1 (by omega), e1] at c1
      rw [e1] at f0 f1
      have h58 : (#[(58 : UInt8), 32].toList) = [58, 32] := rfl
      simp only [bdl, h58] at c1
      have hI : (0 : Int) ≤ (i : Int) ∧ (i : Int) < (l.length : Int) := ⟨by omega, by omega⟩
      refine c1 ⟨fun _ => ⟨hI, fun _ => ⟨f0, fun _ => ⟨?_, fun _ => ⟨?_, fun _ => ⟨hI, fun _ => ⟨f1, fun _ => ⟨?_, fun _ => ⟨?_, fun _ => ⟨nn, fun _ => ?_⟩⟩⟩⟩⟩⟩⟩⟩⟩, fun h => by omega⟩
      · omega
      · rw [List.length_append]; omega
      · simp only [List.length_append, List.length_cons, List.length_nil]; omega
      · simp only [List.length_append, List.length_cons, List.length_nil]; omega
      · have := ih (i + 1) e2 (by omega)
        rw [List.take_succ_eq_append_getElem hi, lns_snoc, e1] at this
        have hq : lns (l.take i) ++ p.1 ++ [58, 32] ++ p.2 ++ [13, 10] = lns (l.take i) ++ lnOf p := by unfold lnOf; simp only [List.append_assoc]
        rw [← hq] at this
        exact this
  exact loop l 0 rfl (by omega)
end TH
end Go.Ev

namespace Go.Ev
set_option linter.unusedVariables false
set_option linter.unusedSimpArgs false
open Go Go.Proofs Go.RowKit
variable {η : Nat → Value} {B : Bd}
namespace TH
open TB TE
theorem rchk_K (hη : OneCells η) (hmix : Tryz.prog.follows .mixedOrders = true) {h : AH} {v : Value} {l : List HF} (k : IsFlds h v l) (hL : Small l) :
    CallSpec η Tryz.prog B 45 [v] h (KT.ret (.int .i64 (chk l)) h).sat := by
  have := rchk_ok (B := B) hη hmix k hL
  simp only [chkK, k.at_] at this
  exact this
end TH
end Go.Ev

namespace Go.Ev
set_option linter.unusedVariables false
set_option linter.unusedSimpArgs false
open Go Go.Proofs Go.RowKit
variable {η : Nat → Value} {B : Bd}
namespace TH
open TB TE
theorem row0 {ty : Nat} {c : List Value} {h1 : AH} (hh : h1.objs.get 126 = some (.cells ty c false 0)) : ∀ i x, [(ty, c)][i]? = some x → h1.objs.get (126 + i) = some (.cells x.1 x.2 false 0) := fun i x hx => by
  match i with
  | 0 => simp at hx; subst hx; exact hh
  | i + 1 => simp at hx
theorem rlns_ok (hη : OneCells η) (hmix : Tryz.prog.follows .mixedOrders = true) {h : AH} {v : Value} {l : List HF} (k : IsFlds h v l) (hL : Small l) :
    CallSpec η Tryz.prog B 46 [v] h (KT.ret (.string ⟨⟨lns l ++ [13, 10]⟩⟩) h).sat := by
  rcases k with ⟨rfl, rfl⟩ | ⟨r, o, ty, c, own, cap, rfl, hr, F⟩
  · refine CallSpec.bare (v := .string ⟨⟨lns [] ++ [13, 10]⟩⟩) hη gs9 (fun _ _ => .cons (.slice0 _ _) .nil) (fun σ M => .string _) (fun σ M => .string _) ?_ h
    refine HRLns0.enter hη hmix (reg0 hη hmix) 0 ?_
    simp only [W.holds]
    refine HRLns0.cut0 hη hmix (reg0 hη hmix) 0 ?_
    simp only [W.holds, true_and]
    rfl
  · exact CallSpec.bareR (args := [.slice (some ⟨126, o, none⟩) l.length cap]) hη gs9 (rows1 hr F.1) (.cons (.slice (σ := sigR fun _ => r) _ _ (by simp)) .nil) (fun σ M => .string _) (fun σ M => .string _) (rlns_can hη hmix ty cap F hL ⟨rfl, row0 rfl⟩)
theorem prS_err {l : List HF} (h : chk l ≠ 0) : prS l = [] := if_neg h
theorem prS_ok {l : List HF} (h : chk l = 0) : prS l = lns l ++ [13, 10] := if_pos h
set_option maxRecDepth 20000 in
theorem rprint_ok (hη : OneCells η) (hmix : Tryz.prog.follows .mixedOrders = true) {h : AH} {v : Value} {l : List HF} (k : IsFlds h v l) (hL : Small l) :
    CallSpec η Tryz.prog B 13 [v] h (KT.ret (.tuple ⟨[.string ⟨⟨prS l⟩⟩, .int .i64 (chk l)]⟩) h).sat := by
  rcases k with ⟨rfl, rfl⟩ | ⟨r, o, ty, c, own, cap, rfl, hr, F⟩
  · have k0 : ∀ h, IsFlds h (.slice none 0 0) [] := fun h => .inl ⟨rfl, rfl⟩
    refine CallSpec.bare (v := .tuple ⟨[.string ⟨⟨prS []⟩⟩, .int .i64 (chk [])]⟩) hη gs9 (fun _ _ => .cons (.slice0 _ _) .nil) (fun σ M => RV.tup2 (.string _) (.int _ _)) (fun σ M => RV.tup2 (.string _) (.int _ _)) ?_ h
    refine HRPrint0.enter hη hmix (reg0 hη hmix) 0 ?_
    simp only [W.holds, true_and, and_true, true_implies]
    exact ⟨rchk_K hη hmix (k0 _) hL, rlns_ok hη hmix (k0 _) hL, rfl⟩
  · refine CallSpec.bareR (args := [.slice (some ⟨126, o, none⟩) l.length cap]) (v := .tuple ⟨[.string ⟨⟨prS l⟩⟩, .int .i64 (chk l)]⟩) hη gs9 (rows1 hr F.1) (.cons (.slice (σ := sigR fun _ => r) _ _ (by simp)) .nil) (fun σ M => RV.tup2 (.string _) (.int _ _)) (fun σ M => RV.tup2 (.string _) (.int _ _)) ?_
    have k := isF c o ty cap F
    have e : fieldsAt (HRPrint.H0 ty o c l.length cap) (.slice (some ⟨126, o, none⟩) l.length cap) = l := k.at_
    unfold HRPrint.H0 at e
    refine HRPrint.enter hη hmix (reg0 hη hmix) _ _ _ _ _ ?_
    simp only [W.holds, e, bne_iff_ne, ne_eq, bne_eq_false_iff_eq, true_and, and_true, true_implies]
    refine ⟨rchk_K hη hmix k hL, fun hc => ⟨by rw [prS_err hc], row0 rfl⟩, fun hc => ⟨rlns_ok hη hmix k hL, by rw [prS_ok hc, hc], row0 rfl⟩⟩
theorem lns_app (a b : List HF) : lns (a ++ b) = lns a ++ lns b := by
  induction a with
  | nil => rfl
  | cons p a ih => rw [List.cons_append, lns, ih, lns, List.append_assoc]
theorem lns_take_le (l : List HF) (k : Nat) : (lns (l.take k)).length ≤ (lns l).length := by
  have := congrArg List.length (lns_app (l.take k) (l.drop k))
  rw [List.take_append_drop, List.length_append] at this
  omega
set_option maxRecDepth 20000 in
theorem print_can (hη : OneCells η) (hmix : Tryz.prog.follows .mixedOrders = true) {l : List HF} {c : List Value} {o : Nat} (ty cap : Nat) (F : FldsAt c o l) (hL : Small l) {D : Value → AH → Prop}
    (d : D (.tuple ⟨[.string ⟨⟨prS l⟩⟩, .int .i64 (chk l)]⟩) (heapT [(ty, c)])) :
    CallSpec η Tryz.prog B 12 [.slice (some ⟨126, o, none⟩) l.length cap] (heapT [(ty, c)]) D := by
  have k := isF c o ty cap F
  have e : fieldsAt (HPrint.H0 ty o c l.length cap) (.slice (some ⟨126, o, none⟩) l.length cap) = l := k.at_
  have e0 : HPrint.H0 ty o c l.length cap = heapT [(ty, c)] := rfl
  have kc := chk_K (η := η) (B := B) hη hmix k hL
  rw [← e0] at d kc ⊢
  have nn := nn_bare F.1
  have hl := hL.1
  have cut0 := HPrint.cut0 (η := η) (B := B) (D := D) hη hmix (reg0 hη hmix) ty o c l.length cap
  have cut2 := fun i0 n0 l0 => HPrint.cut2 (η := η) (B := B) (D := D) hη hmix (reg0 hη hmix) ty o c l.length cap i0 n0 l0
  unfold HPrint.H0 at e
  refine HPrint.enter hη hmix (reg0 hη hmix) _ _ _ _ _ ?_
  have h58 : (#[(58 : UInt8), 32].toList) = [58, 32] := rfl
  have h13 : (#[(13 : UInt8), 10].toList) = [13, 10] := rfl
  simp only [W.holds, e, true_and, and_true, decide_eq_true_eq, decide_eq_false_iff_not, true_implies, Nat.le_refl, bne_iff_ne, ne_eq, bne_eq_false_iff_eq, h58, h13, List.take_length, Nat.mul_one, bytesV_len, bytesV_one, Bool.false_eq_true, false_implies, beq_iff_eq, beq_eq_false_iff_ne, Bool.true_eq_false] at cut0 cut2 ⊢
  refine ⟨kc, fun hc => ?_, fun hc => ?_⟩
  · rw [prS_err hc] at d; exact d
  rw [prS_ok hc, hc] at d
  have hlen := chkF_len (chk0 hc).2
  have hq : ∀ p : HF, p.1 ++ [58, 32] ++ p.2 ++ [13, 10] = lnOf p := fun p => rfl
  have loop : ∀ (rest : List HF) (i : Nat), l.drop i = rest → i ≤ l.length → RunD η Tryz.prog B 12 (HPrint.H0 ty o c l.length cap) [5, 13, 14, 15] (HPrint.S2 ty o c l.length cap (i : Int) (lns (l.take i)).length (bytesV (lns (l.take i))) fun _ => undef) (QF Tryz.prog 127 D) := by
    intro rest
    induction rest with
    | nil =>
      intro i hd hi0
      have hi : l.length ≤ i := List.drop_eq_nil_iff.1 hd
      have c1 := cut2 (i : Int) (lns l).length (bytesV (lns l))
      rw [List.take_of_length_le hi]
      have hb : bytesV (lns l) ++ [Value.int .u8 13, .int .u8 10] = bytesV (lns l ++ [13, 10]) := by
        unfold bytesV; rw [List.map_append]; rfl
      have hn : (((lns l).length + 2 : Nat) : Int).toNat = (lns l ++ [13, 10]).length := by rw [List.length_append]; rfl
      rw [hb, hn, bytesIn_all, take_bytesV] at c1
      simp only [bytesV_len, bytesOf_bytesV, true_and, and_true, Nat.zero_add, Nat.le_refl] at c1
      refine c1 ⟨fun h => by omega, fun _ => ⟨by omega, fun _ => ⟨⟨by omega, by omega⟩, fun _ => ⟨nn, fun _ => d⟩⟩⟩⟩
    | cons p rest ih =>
      intro i hd hi0
      have hi : i < l.length := by
        rcases Nat.lt_or_ge i l.length with h | h
        · exact h
        · rw [List.drop_of_length_le h] at hd; cases hd
      rw [List.drop_eq_getElem_cons hi] at hd
      injection hd with e1 e2
      obtain ⟨g0, g1, g2⟩ := fl_get F hi
      have c1 := cut2 (i : Int) (lns (l.take i)).length (bytesV (lns (l.take i)))
      rw [Int.toNat_natCast, g1, g2, wrap1 (by omega), e1, hq] at c1
      rw [e1] at g0
      have h2 := lns_take_le l (i + 1)
      have h3 := lns_snoc (l.take i) p
      rw [← e1, ← List.take_succ_eq_append_getElem hi, e1] at h3
      have h4 := congrArg List.length h3
      rw [List.length_append] at h4
      have h5 := lnOf_len p
      have hI : (0 : Int) ≤ (i : Int) ∧ (i : Int) < (l.length : Int) := ⟨by omega, by omega⟩
      have hbb : bytesV (lns (l.take i)) ++ bytesV (lnOf p) = bytesV (lns (l.take (i + 1))) := by rw [h3]; unfold bytesV; rw [List.map_append]
      simp only [bytesV_len, true_and] at c1
      rw [hbb, ← h4] at c1
      refine c1 ⟨fun _ => ⟨hI, fun _ => ⟨g0, fun _ => ⟨by omega, fun _ => ⟨by simp only [List.length_append, List.length_cons, List.length_nil]; omega, fun _ => ⟨by simp only [List.length_append, List.length_cons, List.length_nil]; omega, fun _ => ⟨by omega, fun _ => ⟨⟨nn, bytesV_plain _⟩, fun _ => ih (i + 1) e2 (by omega)⟩⟩⟩⟩⟩⟩⟩, fun h => by omega⟩
  refine cut0 ⟨fun h0 => ?_, fun h0 => ⟨nn, fun _ => ?_⟩⟩
  · have h1 : 0 < l.length := by omega
    obtain ⟨g0, g1, g2⟩ := fl_get F h1
    rw [show o + 0 * 2 = o + 0 from rfl] at g0
    have g1' : strAt c (o + 0) = l[0].1 := g1
    have g2' : strAt c (o + 0 + 1) = l[0].2 := g2
    rw [g1', g2', hq]
    have h2 := lns_take_le l 1
    have h3 : lns (l.take 1) = lnOf l[0] := by
      have := lns_snoc (l.take 0) l[0]
      rw [← List.take_succ_eq_append_getElem h1] at this
      simpa [lns] using this
    have h4 := congrArg List.length h3
    have h5 := lnOf_len l[0]
    have hI : (0 : Int) ≤ 0 ∧ (0 : Int) < (l.length : Int) := ⟨by omega, by omega⟩
    refine ⟨hI, fun _ => ⟨g0, fun _ => ⟨by omega, fun _ => ⟨by simp only [List.length_append, List.length_cons, List.length_nil]; omega, fun _ => ⟨by simp only [List.length_append, List.length_cons, List.length_nil]; omega, fun _ => ⟨by omega, fun _ => ⟨fun hz => by omega, fun _ => ⟨⟨nn, bytesV_plain _⟩, fun _ => ?_⟩⟩⟩⟩⟩⟩⟩⟩
    have := loop (l.drop 1) 1 rfl (by omega)
    rw [h3] at this
    rw [List.nil_append, Nat.zero_add]
    exact this
  · have hl0 : l = [] := List.length_eq_zero_iff.1 (by omega)
    subst hl0
    exact d
theorem print_ok (hη : OneCells η) (hmix : Tryz.prog.follows .mixedOrders = true) {h : AH} {v : Value} {l : List HF} (k : IsFlds h v l) (hL : Small l) :
    CallSpec η Tryz.prog B 12 [v] h (KT.ret (.tuple ⟨[.string ⟨⟨prS l⟩⟩, .int .i64 (chk l)]⟩) h).sat := by
  rcases k with ⟨rfl, rfl⟩ | ⟨r, o, ty, c, own, cap, rfl, hr, F⟩
  · have k0 : ∀ h, IsFlds h (.slice none 0 0) [] := fun h => .inl ⟨rfl, rfl⟩
    refine CallSpec.bare (v := .tuple ⟨[.string ⟨⟨prS []⟩⟩, .int .i64 (chk [])]⟩) hη gs9 (fun _ _ => .cons (.slice0 _ _) .nil) (fun σ M => RV.tup2 (.string _) (.int _ _)) (fun σ M => RV.tup2 (.string _) (.int _ _)) ?_ h
    refine HPrint0.enter hη hmix (reg0 hη hmix) 0 ?_
    simp only [W.holds, true_and, and_true, true_implies]
    refine ⟨chk_K hη hmix (k0 _) hL, HPrint0.cut0 hη hmix (reg0 hη hmix) 0 ?_⟩
    simp only [W.holds, true_and, true_implies]
    rfl
  · exact CallSpec.bareR (args := [.slice (some ⟨126, o, none⟩) l.length cap]) hη gs9 (rows1 hr F.1) (.cons (.slice (σ := sigR fun _ => r) _ _ (by simp)) .nil) (fun σ M => RV.tup2 (.string _) (.int _ _)) (fun σ M => RV.tup2 (.string _) (.int _ _)) (print_can hη hmix ty cap F hL ⟨rfl, row0 rfl⟩)
end TH
end Go.Ev

namespace Go.Ev
set_option linter.unusedVariables false
set_option linter.unusedSimpArgs false
open Go Go.Proofs Go.RowKit
variable {η : Nat → Value} {B : Bd}
namespace TH
open TB TE
def BytesAt (c : List Value) (o : Nat) (s : List UInt8) : Prop := c.all bareV = true ∧ ∀ (i : Nat) (hi : i < s.length), c[o + i]? = some (.int .u8 (s[i].toNat : Int))
/-- A value that stands for bytes. -/
def IsBytes (h : AH) (v : Value) (s : List UInt8) : Prop :=
  (v = .slice none 0 0 ∧ s = []) ∨ ∃ r o ty c own cap, v = .slice (some ⟨r, o, none⟩) s.length cap ∧ h.objs.get r = some (.cells ty c false own) ∧ BytesAt c o s ∧ ((isU cap = false ∧ s.length ≤ cap) ∨ cap = capU 1)
theorem by_get {c : List Value} {o : Nat} {s : List UInt8} (F : BytesAt c o s) {i : Nat} {x : UInt8} {r : List UInt8} (hd : s.drop i = x :: r) : i < s.length ∧ c[o + i]? = some (.int .u8 (x.toNat : Int)) ∧ intAt c (o + i) = (x.toNat : Int) ∧ s.drop (i + 1) = r := by
  have hi : i < s.length := by
    rcases Nat.lt_or_ge i s.length with h | h
    · exact h
    · rw [List.drop_of_length_le h] at hd; cases hd
  rw [List.drop_eq_getElem_cons hi] at hd
  injection hd with e1 e2
  have h1 := F.2 i hi
  rw [e1] at h1
  exact ⟨hi, h1, by unfold intAt; rw [h1], e2⟩
theorem by_in {c : List Value} {o : Nat} {s : List UInt8} (F : BytesAt c o s) {a : Nat} {ct r : List UInt8} (ha : a < s.length) (hd : s.drop a = ct ++ r) : bytesIn c (o + a) ct.length = ct ∧ o + a + ct.length ≤ c.length ∧ bytesOf (List.take ct.length (List.drop (o + a) c)) = .ok ct := by
  have hlen : a + ct.length ≤ s.length := by
    have := congrArg List.length hd
    rw [List.length_drop, List.length_append] at this
    omega
  have key : List.take ct.length (List.drop (o + a) c) = bytesV ct := by
    refine List.ext_getElem? fun j => ?_
    rw [List.getElem?_take, List.getElem?_drop]
    by_cases hj : j < ct.length
    · rw [if_pos hj]
      have h1 := F.2 (a + j) (by omega)
      rw [show o + a + j = o + (a + j) by omega, h1]
      have h2 : s[a + j]? = ct[j]? := by
        have := congrArg (fun l => l[j]?) hd
        simp only [List.getElem?_drop] at this
        rw [this, List.getElem?_append_left hj]
      rw [List.getElem?_eq_getElem (by omega : a + j < s.length), List.getElem?_eq_getElem hj] at h2
      unfold bytesV
      rw [List.getElem?_map, List.getElem?_eq_getElem hj, Option.map_some, Option.some.inj h2]
    · rw [if_neg hj, List.getElem?_eq_none (by rw [bytesV_len]; omega)]
  refine ⟨by unfold bytesIn; rw [key, map_byteOf], ?_, by rw [key, bytesOf_bytesV]⟩
  by_cases h0 : ct.length = 0
  · have h1 := F.2 a ha
    have := (List.getElem?_eq_some_iff.1 h1).1
    omega
  · have h1 := F.2 (a + ct.length - 1) (by omega)
    have := (List.getElem?_eq_some_iff.1 h1).1
    omega
theorem cutN0 (c s : Nat) : cutN c 0 s = 0 := by unfold cutN; rw [Nat.zero_mul]; split <;> rfl
theorem cutN_ne {c l : Nat} (h : c ≠ l) : cutN c l 1 = l := by unfold cutN; rw [if_neg h, Nat.mul_one]
theorem lineOf_snoc (ct : List UInt8) (x : UInt8) : lineOf (ct ++ [x]) = if x = 13 then fieldOf ct else none := by
  unfold lineOf
  rw [List.getLast?_concat, List.dropLast_concat]
  by_cases h : x = 13
  · rw [if_pos h, if_pos (by rw [h])]
  · rw [if_neg h, if_neg (by intro e; injection e with e; exact h e)]
theorem snoc13 {ct : List UInt8} {x : UInt8} : ct ++ [x] = [13] ↔ ct = [] ∧ x = 13 := by
  constructor
  · intro h
    cases ct with
    | nil => exact ⟨rfl, by injection h⟩
    | cons a ct => have := congrArg List.length h; simp at this
  · rintro ⟨rfl, rfl⟩; rfl
theorem fe_none {s : List UInt8} (h : feB s = false) : fieldOf s = none := by
  unfold feB at h
  cases hq : fieldOf s with
  | none => rfl
  | some f => rw [hq] at h; cases h
theorem fe_some {s : List UInt8} (h : feB s = true) : fieldOf s = some (feF s) := by
  unfold feB at h
  cases hq : fieldOf s with
  | none => rw [hq] at h; cases h
  | some f => unfold feF; rw [hq]; rfl
theorem fe_len {s : List UInt8} (hs : s.length ≤ 20000) : (feF s).1.length ≤ 20000 ∧ (feF s).2.length ≤ 20000 := by
  unfold feF
  rw [fieldOf_cut]
  split
  · have h1 : (cutL s).length ≤ s.length := (List.takeWhile_sublist _).length_le
    have h2 : (cutR s).length ≤ s.length := by unfold cutR; simp only [List.length_drop]; omega
    have h3 := trim_len (cutR s)
    simp only [Option.getD_some]
    omega
  · simp
theorem snoc_ex {l : List UInt8} (h : l ≠ []) : ∃ a x, l = a ++ [x] := ⟨l.dropLast, l.getLast h, (List.dropLast_concat_getLast h).symm⟩
theorem flds_snocL : ∀ (L : List HF) (p : HF), Go.Ev.flds L ++ [.string ⟨⟨p.1⟩⟩, .string ⟨⟨p.2⟩⟩] = Go.Ev.flds (L ++ [p])
  | [], p => rfl
  | q :: L, p => by
    show .string ⟨⟨q.1⟩⟩ :: .string ⟨⟨q.2⟩⟩ :: (Go.Ev.flds L ++ _) = .string ⟨⟨q.1⟩⟩ :: .string ⟨⟨q.2⟩⟩ :: Go.Ev.flds (L ++ [p])
    rw [flds_snocL L p]
theorem flds_nnL (L : List HF) : NoNames (Go.Ev.flds L) := nn_bare (flds_bare L)
set_option maxRecDepth 20000 in
theorem rpar_can (hη : OneCells η) (hmix : Tryz.prog.follows .mixedOrders = true) {s : List UInt8} {c : List Value} {o : Nat} (ty cap : Nat) (F : BytesAt c o s) (hU : isU cap = false) (hcap : s.length ≤ cap) (hs : s.length ≤ 20000) {D : Value → AH → Prop}
    (derr : (parse s).2.2 ≠ 0 → D (.tuple ⟨[.slice none 0 0, .int .i64 0, .int .i64 (parse s).2.2]⟩) (heapT [(ty, c)]))
    (dnone : (parse s).2.2 = 0 → (parse s).1 = [] → D (.tuple ⟨[.slice none 0 0, .int .i64 (parse s).2.1, .int .i64 0]⟩) (heapT [(ty, c)]))
    (dsome : (parse s).2.2 = 0 → (parse s).1 ≠ [] → D (.tuple ⟨[.slice (some ⟨127, 0, none⟩) (parse s).1.length (capU 2), .int .i64 (parse s).2.1, .int .i64 0]⟩) (withRow (heapT [(ty, c)]) 37 (Go.Ev.flds (parse s).1) false)) :
    CallSpec η Tryz.prog B 15 [.slice (some ⟨126, o, none⟩) s.length cap] (heapT [(ty, c)]) D := by
  have e0 : HRPar.H0 ty o c s.length cap = heapT [(ty, c)] := rfl
  rw [← e0] at derr dnone dsome ⊢
  have nn := nn_bare F.1
  have dE : ∀ E : Int, parse s = ([], 0, E) → E ≠ 0 → D (.tuple ⟨[.slice none 0 0, .int .i64 0, .int .i64 E]⟩) (HRPar.H0 ty o c s.length cap) := by
    intro E hp hE
    rw [hp] at derr
    exact derr hE
  have cut0 := fun i0 => HRPar.cut0 (η := η) (B := B) (D := D) hη hmix (reg0 hη hmix) ty o c s.length cap i0
  have cut1 := fun i0 n0 i1 l0 => HRPar.cut1 (η := η) (B := B) (D := D) hη hmix (reg0 hη hmix) ty o c s.length cap i0 n0 i1 l0
  refine HRPar.enter hη hmix (reg0 hη hmix) _ _ _ _ _ ?_
  simp only [W.holds, true_and, and_true, decide_eq_true_eq, decide_eq_false_iff_not, true_implies, bne_iff_ne, ne_eq, bne_eq_false_iff_eq, beq_iff_eq, beq_eq_false_iff_ne, Bool.not_eq_true', Bool.not_eq_false', Nat.le_refl, Int.le_refl, Nat.mul_one, Nat.sub_zero, capP_no hU, capN_no hU, cutN0, Nat.add_zero] at cut0 cut1 ⊢
  have fin3 : 8192 < s.length → finE s = 3 := fun h => if_pos h
  have fin10 : ¬ 8192 < s.length → finE s = 10 := fun h => if_neg h
  have loop1 : ∀ (rest cur : List UInt8) (frm : Nat) (L : List HF), s.drop frm = cur ++ rest → frm ≤ s.length → L ≠ [] → L.length ≤ 100 → parse s = par (finE s) cur rest frm L →
      RunD η Tryz.prog B 15 (HRPar.H0 ty o c s.length cap) [0, 5, 6, 7] (HRPar.S1 ty o c s.length cap ((frm + cur.length : Nat) : Int) L.length (frm : Int) (Go.Ev.flds L) fun _ => undef) (QF Tryz.prog 127 D) := by
    intro rest
    induction rest with
    | nil =>
      intro cur frm L hd hf hne hL hp
      rw [List.append_nil] at hd
      have hlen := congrArg List.length hd
      rw [List.length_drop] at hlen
      rw [par] at hp
      refine cut1 _ _ _ _ ⟨fun h => by omega, fun _ => ⟨fun h8 => ⟨nn, fun _ => dE 3 (by rw [hp, fin3 (by omega)]) (by decide)⟩, fun h8 => ⟨nn, fun _ => dE 10 (by rw [hp, fin10 (by omega)]) (by decide)⟩⟩⟩
    | cons x rest ih =>
      intro cur frm L hd hf hne hL hp
      have hd1 : s.drop (frm + cur.length) = x :: rest := by rw [← List.drop_drop, hd, List.drop_left]
      obtain ⟨hi, g0, g1, hd4⟩ := by_get F hd1
      have hw1 : IntKind.i64.wrap (((frm + cur.length : Nat) : Int) + 1) = ((frm + cur.length + 1 : Nat) : Int) := wrap1 (by omega)
      have hw2 : IntKind.i64.wrap ((frm : Int) + 1) = ((frm + 1 : Nat) : Int) := wrap1 (by omega)
      have hcn : cutN cap frm 1 = frm := cutN_ne (by omega)
      have c1 := cut1 ((frm + cur.length : Nat) : Int) L.length (frm : Int) (Go.Ev.flds L)
      rw [Int.toNat_natCast, g1, hw1, hw2] at c1
      simp only [Int.toNat_natCast, hcn] at c1
      refine c1 ⟨fun _ => ⟨⟨by omega, by omega⟩, fun _ => ⟨g0, fun _ => ⟨fun hx => ?_, fun hx => ?_⟩⟩⟩, fun h => by omega⟩
      · have hx10 : x ≠ 10 := u8_ne (n := 10) (by decide) hx
        rw [par, if_neg hx10] at hp
        have := ih (cur ++ [x]) frm L (by rw [hd]; simp) hf hne hL hp
        rw [List.length_append, List.length_singleton, ← Nat.add_assoc] at this
        exact this
      · have hx10 : x = 10 := u8_of (n := 10) (by decide) hx
        subst hx10
        rw [par, if_pos rfl] at hp
        refine ⟨fun h8 => ⟨nn, fun _ => dE 3 (by rw [hp, if_pos (by omega)]) (by decide)⟩, fun h8 => ⟨fun hq => ?_, fun hq => ?_⟩⟩
        · have h0 : cur = [] := List.length_eq_zero_iff.1 (by omega)
          subst h0
          exact ⟨nn, fun _ => dE 6 (by rw [hp, if_neg (by omega), if_neg (by simp)]; rfl) (by decide)⟩
        · obtain ⟨ct, y, rfl⟩ := snoc_ex (l := cur) (by rintro rfl; exact hq (by simp))
          rw [if_neg (by omega)] at hp
          have hm : IntKind.i64.wrap (((frm + (ct ++ [y]).length : Nat) : Int) - 1) = ((frm + ct.length : Nat) : Int) := by
            rw [List.length_append, List.length_singleton, wrapL' (by omega) (by simp only [List.length_append, List.length_singleton] at hi; omega)]
            omega
          have hd2 : s.drop (frm + ct.length) = y :: 10 :: rest := by rw [← List.drop_drop, hd, List.append_assoc, List.drop_left]; rfl
          obtain ⟨hi2, k0, k1, _⟩ := by_get F hd2
          obtain ⟨q1, q2, q3⟩ := by_in F (a := frm) (ct := ct) (r := [y] ++ 10 :: rest) (by omega) (by rw [hd, List.append_assoc])
          rw [hm]
          simp only [Int.toNat_natCast, k1, Nat.add_sub_cancel_left, q1, q3, and_true]
          have hct : ct.length ≤ 20000 := by omega
          obtain ⟨w1, w2⟩ := fe_len hct
          refine ⟨⟨by omega, by omega⟩, fun _ => ⟨k0, fun _ => ⟨fun hy => ⟨nn, fun _ => dE 6 (by
            rw [hp, if_neg (by rw [snoc13]; rintro ⟨_, rfl⟩; exact hy rfl), lineOf_snoc, if_neg (by rintro rfl; exact hy rfl)]) (by decide)⟩, fun hy => ?_⟩⟩⟩
          have hy13 : y = 13 := u8_of (n := 13) (by decide) hy
          subst hy13
          rw [lineOf_snoc, if_pos rfl] at hp
          refine ⟨⟨by omega, by omega, by omega⟩, fun _ => ⟨q2, fun _ => ⟨ret_ok hη hmix ct (by omega) _, fun hr => ⟨nn, fun _ => dE 6 (by
            rw [hp, if_neg (by rw [snoc13]; rintro ⟨rfl, _⟩; cases hr), fieldOf_re hr]) (by decide)⟩, fun hr => ⟨fun he => ?_, fun he => ?_⟩⟩⟩⟩
          · have h0 : ct = [] := List.length_eq_zero_iff.1 (by rw [List.length_append, List.length_singleton] at he; omega)
            subst h0
            rw [if_pos (by rfl)] at hp
            have e1 : (parse s).1 = L := by rw [hp]
            have e2 : (parse s).2.1 = frm + ([] ++ [(13 : UInt8)]).length + 1 := congrArg (fun z => z.2.1) hp
            have e3 : (parse s).2.2 = 0 := by rw [hp]
            have := dsome e3 (by rw [e1]; exact hne)
            rw [e1, e2] at this
            exact Eq.mp (by kernel_rfl) this
          · have hne0 : ct ≠ [] := by rintro rfl; exact he rfl
            rw [if_neg (by rw [snoc13]; rintro ⟨h, _⟩; exact hne0 h)] at hp
            refine ⟨⟨by omega, by omega, by omega⟩, fun _ => ⟨q2, fun _ => ⟨rread_ok hη hmix ct (by omega) _, fun hb => ⟨nn, fun _ => dE 6 (by rw [hp, fe_none hb]) (by decide)⟩, fun hb => ?_⟩⟩⟩
            rw [fe_some hb] at hp
            simp only at hp
            refine ⟨fun h2 => ⟨nn, fun _ => dE 3 (by rw [hp, if_pos (.inl (by omega))]) (by decide)⟩, fun h2 => ⟨fun h100 => ⟨nn, fun _ => dE 3 (by rw [hp, if_pos (.inr (by omega))]) (by decide)⟩, fun h100 => ⟨⟨by rw [flds_len]; omega, by omega⟩, fun _ => ⟨⟨nn, by rw [flds_snocL]; exact flds_nnL _⟩, fun _ => ?_⟩⟩⟩⟩
            rw [if_neg (by rintro (h | h) <;> omega)] at hp
            have := ih [] (frm + (ct ++ [13]).length + 1) (L ++ [feF ct]) (by rw [hd4]; rfl) (by omega) (by simp) (by rw [List.length_append, List.length_singleton]; omega) hp
            rw [flds_snocL]
            rw [show (L ++ [feF ct]).length = L.length + 1 from by simp] at this
            exact this
  have loop0 : ∀ (rest cur : List UInt8), s = cur ++ rest → parse s = par (finE s) cur rest 0 [] →
      RunD η Tryz.prog B 15 (HRPar.H0 ty o c s.length cap) [0, 5, 6, 7] (HRPar.S0 ty o c s.length cap (cur.length : Int) fun _ => undef) (QF Tryz.prog 127 D) := by
    intro rest
    induction rest with
    | nil =>
      intro cur hd hp
      have hlen := congrArg List.length hd
      rw [List.append_nil] at hlen
      rw [par] at hp
      refine cut0 _ ⟨fun h => by omega, fun _ => ⟨fun h8 => dE 3 (by rw [hp, fin3 (by omega)]) (by decide), fun h8 => dE 10 (by rw [hp, fin10 (by omega)]) (by decide)⟩⟩
    | cons x rest ih =>
      intro cur hd hp
      have hd1 : s.drop cur.length = x :: rest := by rw [hd, List.drop_left]
      obtain ⟨hi, g0, g1, hd4⟩ := by_get F hd1
      have hw1 : IntKind.i64.wrap ((cur.length : Int) + 1) = ((cur.length + 1 : Nat) : Int) := wrap1 (by omega)
      have c1 := cut0 (cur.length : Int)
      rw [Int.toNat_natCast, g1, hw1] at c1
      refine c1 ⟨fun _ => ⟨⟨by omega, by omega⟩, fun _ => ⟨g0, fun _ => ⟨fun hx => ?_, fun hx => ?_⟩⟩⟩, fun h => by omega⟩
      · have hx10 : x ≠ 10 := u8_ne (n := 10) (by decide) hx
        rw [par, if_neg hx10] at hp
        have := ih (cur ++ [x]) (by rw [hd]; simp) hp
        rw [List.length_append, List.length_singleton] at this
        exact this
      · have hx10 : x = 10 := u8_of (n := 10) (by decide) hx
        subst hx10
        rw [par, if_pos rfl, Nat.zero_add] at hp
        refine ⟨fun h8 => dE 3 (by rw [hp, if_pos (by omega)]) (by decide), fun h8 => ⟨fun hq => ?_, fun hq => ?_⟩⟩
        · have h0 : cur = [] := List.length_eq_zero_iff.1 (by omega)
          subst h0
          exact dE 6 (by rw [hp, if_neg (by simp), if_neg (by simp)]; rfl) (by decide)
        · obtain ⟨ct, y, rfl⟩ := snoc_ex (l := cur) (by rintro rfl; exact hq (by simp))
          rw [if_neg (by omega)] at hp
          have hm : IntKind.i64.wrap ((((ct ++ [y]).length : Nat) : Int) - 1) = ((ct.length : Nat) : Int) := by
            rw [List.length_append, List.length_singleton, wrapL' (by omega) (by simp only [List.length_append, List.length_singleton] at hi; omega)]
            omega
          have hd2 : s.drop ct.length = y :: 10 :: rest := by rw [hd, List.append_assoc, List.drop_left]; rfl
          obtain ⟨hi2, k0, k1, _⟩ := by_get F hd2
          obtain ⟨q1, q2, q3⟩ := by_in F (a := 0) (ct := ct) (r := [y] ++ 10 :: rest) (by omega) (by rw [List.drop_zero, hd, List.append_assoc])
          rw [Nat.add_zero] at q1 q2 q3
          rw [hm]
          simp only [Int.toNat_natCast, k1, q1, q3, and_true]
          have hct : ct.length ≤ 20000 := by omega
          obtain ⟨w1, w2⟩ := fe_len hct
          refine ⟨⟨by omega, by omega⟩, fun _ => ⟨k0, fun _ => ⟨fun hy => dE 6 (by
            rw [hp, if_neg (by rw [snoc13]; rintro ⟨_, rfl⟩; exact hy rfl), lineOf_snoc, if_neg (by rintro rfl; exact hy rfl)]) (by decide), fun hy => ?_⟩⟩⟩
          have hy13 : y = 13 := u8_of (n := 13) (by decide) hy
          subst hy13
          rw [lineOf_snoc, if_pos rfl] at hp
          refine ⟨⟨by omega, by omega⟩, fun _ => ⟨q2, fun _ => ⟨ret_ok hη hmix ct (by omega) _, fun hr => dE 6 (by
            rw [hp, if_neg (by rw [snoc13]; rintro ⟨rfl, _⟩; cases hr), fieldOf_re hr]) (by decide), fun hr => ⟨fun he => ?_, fun he => ?_⟩⟩⟩⟩
          · have h0 : ct = [] := List.length_eq_zero_iff.1 (by rw [List.length_append, List.length_singleton] at he; omega)
            subst h0
            rw [if_pos (by rfl)] at hp
            have e1 : (parse s).1 = [] := by rw [hp]
            have e2 : (parse s).2.1 = ([] ++ [(13 : UInt8)]).length + 1 := congrArg (fun z => z.2.1) hp
            have e3 : (parse s).2.2 = 0 := by rw [hp]
            have := dnone e3 e1
            rw [e2] at this
            exact this
          · have hne0 : ct ≠ [] := by rintro rfl; exact he rfl
            rw [if_neg (by rw [snoc13]; rintro ⟨h, _⟩; exact hne0 h)] at hp
            refine ⟨⟨by omega, by omega⟩, fun _ => ⟨q2, fun _ => ⟨rread_ok hη hmix ct (by omega) _, fun hb => ⟨nn, fun _ => dE 6 (by rw [hp, fe_none hb]) (by decide)⟩, fun hb => ?_⟩⟩⟩
            rw [fe_some hb] at hp
            simp only at hp
            refine ⟨fun h2 => ⟨nn, fun _ => dE 3 (by rw [hp, if_pos (.inl (by omega))]) (by decide)⟩, fun h2 => ⟨nn, fun _ => ?_⟩⟩
            rw [if_neg (by rintro (h | h); omega; cases h)] at hp
            have := loop1 rest [] ((ct ++ [13]).length + 1) [feF ct] (by rw [hd4]; rfl) (by omega) (by simp) (by simp) hp
            exact this
  exact loop0 s [] rfl rfl
end TH
end Go.Ev

namespace Go.Ev
set_option linter.unusedVariables false
set_option linter.unusedSimpArgs false
open Go
variable {η : Nat → Value} {P : Program} {B : Bd}
theorem LR.split {ρ : Env} : ∀ {a b m : List Value}, LR η ρ (a ++ b) m → ∃ m1 m2, m = m1 ++ m2 ∧ LR η ρ a m1 ∧ LR η ρ b m2
  | [], b, m, h => ⟨[], m, rfl, .nil, h⟩
  | x :: a, b, m, h => by
    obtain ⟨y, m', rfl, h1, h2⟩ := LR.inv_cons (show LR η ρ (x :: (a ++ b)) m from h)
    obtain ⟨m1, m2, rfl, h3, h4⟩ := LR.split h2
    exact ⟨y :: m1, m2, rfl, .cons h1 h3, h4⟩
theorem CallSpec.cap {f : FuncId} {a b : List Value} {r o n s : Nat} {h : AH} {Q : Value → AH → Prop} (k : ∀ c, isU c = false → n ≤ c → CallSpec η P B f (a ++ .slice (some ⟨r, o, none⟩) n c :: b) h Q) :
    CallSpec η P B f (a ++ .slice (some ⟨r, o, none⟩) n (capU s) :: b) h Q := by
  intro ρ args' w cs l p
  obtain ⟨m1, m2, hm, l1, l2⟩ := l.split
  obtain ⟨x, m3, rfl, hx, l3⟩ := l2.inv_cons
  generalize hcu : capU s = cu at hx
  cases hx with
  | slice _ _ h3 hc => rw [← hcu, isU_capU] at hc; cases hc
  | sliceU _ s1 c h3 hs hc hle hb =>
    have hU : isU c = false := by unfold isU; simp only [decide_eq_false_iff_not]; omega
    refine k c hU hle ρ args' w cs ?_ p
    rw [hm]
    exact l1.append (.cons (.slice _ _ h3 hU) l3)
end Go.Ev

namespace Go.Ev
set_option linter.unusedVariables false
set_option linter.unusedSimpArgs false
open Go Go.Proofs Go.RowKit
variable {η : Nat → Value} {B : Bd}
namespace TH
open TB TE
theorem rv_tup3 {σ : Nat → Nat} {M : Nat} {w : Bool} {a a' b b' c c' : Value} (h : RV σ M w a a') (k : RV σ M w b b') (l : RV σ M w c c') : RV σ M w (.tuple ⟨[a, b, c]⟩) (.tuple ⟨[a', b', c']⟩) := .tuple rfl fun i x y hx hy => by
  match i, hx, hy with
  | 0, hx, hy => simp at hx hy; subst hx; subst hy; exact h
  | 1, hx, hy => simp at hx hy; subst hx; subst hy; exact k
  | 2, hx, hy => simp at hx hy; subst hx; subst hy; exact l
  | i + 3, hx, _ => simp at hx
theorem listedP (hη : OneCells η) {f : FuncId} {h : AH} {v : Value} {s : List UInt8} (k : IsBytes h v s)
    (c0 : CallSpec η Tryz.prog B f [.slice none 0 0] (heapN 126) fun v1 h1 => v1 = .tuple ⟨[.slice none 0 0, .int .i64 0, .int .i64 10]⟩ ∧ h1 = heapN 126)
    (c1 : ∀ {c : List Value} {o ty cap : Nat} {D : Value → AH → Prop}, BytesAt c o s → isU cap = false → s.length ≤ cap → ((parse s).2.2 ≠ 0 → D (.tuple ⟨[.slice none 0 0, .int .i64 0, .int .i64 (parse s).2.2]⟩) (heapT [(ty, c)])) → ((parse s).2.2 = 0 → (parse s).1 = [] → D (.tuple ⟨[.slice none 0 0, .int .i64 (parse s).2.1, .int .i64 0]⟩) (heapT [(ty, c)])) → ((parse s).2.2 = 0 → (parse s).1 ≠ [] → D (.tuple ⟨[.slice (some ⟨127, 0, none⟩) (parse s).1.length (capU 2), .int .i64 (parse s).2.1, .int .i64 0]⟩) (withRow (heapT [(ty, c)]) 37 (Go.Ev.flds (parse s).1) false)) → CallSpec η Tryz.prog B f [.slice (some ⟨126, o, none⟩) s.length cap] (heapT [(ty, c)]) D) :
    CallSpec η Tryz.prog B f [v] h (paT s h).sat := by
  have he : (paB s = true ∧ (parse s).2.2 ≠ 0) ∨ (paB s = false ∧ (parse s).2.2 = 0) := by
    unfold paB
    by_cases h : (parse s).2.2 = 0
    · exact .inr ⟨by simp [h], h⟩
    · exact .inl ⟨by simp [h], h⟩
  have hb : (paN s = true ∧ (parse s).1 = []) ∨ (paN s = false ∧ (parse s).1 ≠ []) := by
    unfold paN
    cases (parse s).1 with
    | nil => exact .inl ⟨rfl, rfl⟩
    | cons a b => exact .inr ⟨rfl, by simp⟩
  rcases k with ⟨rfl, rfl⟩ | ⟨r, o, ty, c, own, cap, rfl, hr, F, hcap⟩
  · refine (CallSpec.pure hη gs9 (fun _ _ => .cons (.slice0 _ _) .nil) (fun _ _ => rv_tup3 (.slice0 _ _) (.int _ _) (.int _ _)) c0 h).mono ?_
    rintro v1 h1 ⟨rfl, rfl⟩
    exact .inl ⟨rfl, rfl, rfl⟩
  · have known : ∀ cap, isU cap = false → s.length ≤ cap → CallSpec η Tryz.prog B f [.slice (some ⟨r, o, none⟩) s.length cap] h (paT s h).sat := by
      intro cap hU hle
      have ha : L2 (RV (sigR fun _ => r) (126 + 1) true) [.slice (some ⟨126, o, none⟩) s.length cap] [.slice (some ⟨r, o, none⟩) s.length cap] := .cons (.slice (σ := sigR fun _ => r) _ _ (by simp)) .nil
      rcases he with ⟨e1, e2⟩ | ⟨e1, e2⟩
      · refine (CallSpec.pureR (v := .tuple ⟨[.slice none 0 0, .int .i64 0, .int .i64 (parse s).2.2]⟩) hη gs9 (rows1 hr F.1) ha (fun _ _ => rv_tup3 (.slice0 _ _) (.int _ _) (.int _ _)) (c1 F hU hle (fun _ => ⟨rfl, rfl⟩) (fun h => absurd h e2) fun h => absurd h e2)).mono ?_
        rintro v1 h1 ⟨rfl, rfl⟩
        exact .inl ⟨e1, rfl, rfl⟩
      · rcases hb with ⟨b1, b2⟩ | ⟨b1, b2⟩
        · refine (CallSpec.pureR (v := .tuple ⟨[.slice none 0 0, .int .i64 (parse s).2.1, .int .i64 0]⟩) hη gs9 (rows1 hr F.1) ha (fun _ _ => rv_tup3 (.slice0 _ _) (.int _ _) (.int _ _)) (c1 F hU hle (fun h => absurd e2 h) (fun _ _ => ⟨rfl, rfl⟩) fun _ h => absurd b2 h)).mono ?_
          rintro v1 h1 ⟨rfl, rfl⟩
          exact .inr ⟨e1, .inl ⟨b1, rfl, rfl⟩⟩
        · refine (CallSpec.freshR (mk := fun r => .tuple ⟨[.slice (some ⟨r, 0, none⟩) (parse s).1.length (capU 2), .int .i64 (parse s).2.1, .int .i64 0]⟩) (ty := 37) (c := Go.Ev.flds (parse s).1) (p := false) hη gs9 (rows1 hr F.1) ha (fun σ M r hr => rv_tup3 (.slice _ _ hr) (.int _ _) (.int _ _)) (flds_bare _) (c1 F hU hle (fun h => absurd e2 h) (fun _ h => absurd h b2) fun _ _ => ⟨rfl, rfl⟩)).mono ?_
          rintro v1 h1 ⟨rfl, rfl⟩
          exact .inr ⟨e1, .inr ⟨b1, rfl, rfl⟩⟩
    rcases hcap with ⟨hU, hle⟩ | rfl
    · exact known cap hU hle
    · exact CallSpec.cap (a := []) fun c hU hle => known c hU hle
theorem IsBytes.at_ {h : AH} {v : Value} {s : List UInt8} (k : IsBytes h v s) : bytesAt h v = s := by
  rcases k with ⟨rfl, rfl⟩ | ⟨r, o, ty, c, own, cap, rfl, hr, F, _⟩
  · rfl
  · unfold bytesAt
    simp only [hr]
    cases s with
    | nil => unfold bytesIn; simp
    | cons x s =>
      have := (by_in F (a := 0) (ct := x :: s) (r := []) (by simp) (by simp)).1
      rw [Nat.add_zero] at this
      exact this
theorem rpar_ok (hη : OneCells η) (hmix : Tryz.prog.follows .mixedOrders = true) {h : AH} {v : Value} {s : List UInt8} (k : IsBytes h v s) (hs : s.length ≤ 20000) :
    CallSpec η Tryz.prog B 15 [v] h (paT s h).sat := by
  refine listedP hη k ?_ fun F hU hle d0 d1 d2 => rpar_can hη hmix _ _ F hU hle hs d0 d1 d2
  refine HRPar0.enter hη hmix (reg0 hη hmix) 0 ?_
  simp only [W.holds]
  refine HRPar0.cut0 hη hmix (reg0 hη hmix) 0 ?_
  simp only [W.holds]
  exact ⟨trivial, trivial, rfl⟩
end TH
end Go.Ev

namespace Go.Ev
set_option linter.unusedVariables false
set_option linter.unusedSimpArgs false
open Go Go.Proofs Go.RowKit
variable {η : Nat → Value} {B : Bd}
namespace TH
open TB TE
theorem BytesAt.drop {c : List Value} {o : Nat} {s : List UInt8} (F : BytesAt c o s) (a : Nat) : BytesAt c (o + a) (s.drop a) := ⟨F.1, fun i hi => by
  have := F.2 (a + i) (by rw [List.length_drop] at hi; omega)
  rw [show o + a + i = o + (a + i) by omega, this, List.getElem_drop]⟩
theorem BytesAt.take {c : List Value} {o : Nat} {s : List UInt8} (F : BytesAt c o s) (a : Nat) : BytesAt c o (s.take a) := ⟨F.1, fun i hi => by
  have := F.2 i (by rw [List.length_take] at hi; omega)
  rw [this, List.getElem_take]⟩
theorem ixb_ok {h : AH} {r ty own o cap : Nat} {c : List Value} {s : List UInt8} (hr : h.objs.get r = some (.cells ty c false own)) (F : BytesAt c o s) (hU : isU cap = false) :
    CallSpec η Tryz.prog B 98 [.slice (some ⟨r, o, none⟩) s.length cap, .int .u8 10] h (KT.ret (.int .i64 (ix s 10)) h).sat := by
  refine CallSpec.ofCalls (v := .int .i64 (ix s 10)) fun ρ args' w hl p => ?_
  obtain ⟨x0, m0, e0, v0, hl⟩ := hl.inv_cons
  obtain ⟨x1, m1, e1, v1, hl⟩ := hl.inv_cons
  obtain rfl := hl.inv_nil
  obtain ⟨A⟩ := args'
  simp only at e0
  subst e1; subst e0
  cases v1
  obtain ⟨b, d, n, ob, h1, h2, ⟨C, ty', lo, hi, rfl, k⟩, _⟩ := p.hr.obj r _ hr
  generalize hcu : cap = cu at v0
  cases v0 with
  | sliceU _ s1 c1 h3 hs hc hle => rw [hcu, isU_capU] at hU; cases hU
  | slice _ _ h3 hc =>
    rw [h1] at h3
    injection h3 with h3
    injection h3 with q1 q2
    injection q2 with q2 q3
    subst q1; subst q2; subst q3
    have hxs : (s.map fun b => ((b.toNat : Nat) : Int)).length = s.length := List.length_map _
    have hbo : Lib.bytesOf (s.map fun b => ((b.toNat : Nat) : Int)) = s := by
      unfold Lib.bytesOf
      rw [List.map_map]
      refine (List.map_congr_left fun x _ => ?_).trans (List.map_id _)
      exact UInt8.ofNat_toNat
    have key := Tryz.bytes_IndexByte b (d + o) s.length cu (s.map fun b => ((b.toNat : Nat) : Int)) 10 w hxs (fun i hi => by
      have hv := F.2 i hi
      obtain ⟨y, hy, hvy⟩ := k.at_ (o + i) _ hv
      cases hvy
      have hg : (s.map fun b => ((b.toNat : Nat) : Int)).getD i 0 = (s[i].toNat : Int) := by
        rw [List.getD_eq_getElem?_getD, List.getElem?_map, List.getElem?_eq_getElem hi]; rfl
      rw [hg]
      unfold World.cell?
      simp only [h2]
      obtain ⟨C⟩ := C
      simp only at hy
      rw [show d + o + i = d + (o + i) by omega]
      simp [hy])
    rw [hbo] at key
    refine key.mono ?_
    rintro e w' ⟨rfl, rfl⟩
    exact ⟨_, rfl, .int _ _, Below.refl _ _⟩
end TH
end Go.Ev

namespace Go.Ev
set_option linter.unusedVariables false
set_option linter.unusedSimpArgs false
open Go Go.Proofs Go.RowKit
variable {η : Nat → Value} {B : Bd}
namespace TH
open TB TE
theorem rdO_at (a : List UInt8) : rdO (a ++ [10]) = lineOf a := by
  unfold rdO
  rw [if_pos List.getLast?_concat, List.dropLast_concat]
theorem rd_none {a : List UInt8} (h : rdB (a ++ [10]) = false) : lineOf a = none := by
  unfold rdB at h
  rw [rdO_at] at h
  cases hq : lineOf a with
  | none => rfl
  | some f => rw [hq] at h; cases h
theorem rd_some {a : List UInt8} (h : rdB (a ++ [10]) = true) : lineOf a = some (rdF (a ++ [10])) := by
  unfold rdB at h
  rw [rdO_at] at h
  unfold rdF
  rw [rdO_at]
  cases hq : lineOf a with
  | none => rw [hq] at h; cases h
  | some f => rfl
theorem line13 {a : List UInt8} : a ++ [10] = [13, 10] ↔ a = [13] := by
  constructor
  · intro h
    exact List.append_cancel_right (show a ++ [10] = [13] ++ [10] from h)
  · rintro rfl; rfl
theorem isU_sub {c k : Nat} (h : isU c = false) : isU (c - k) = false := by
  unfold isU at h ⊢
  simp only [decide_eq_false_iff_not] at h ⊢
  omega
theorem cut_at {c : List Value} {n0 cap k : Nat} {s r : List UInt8} (F : BytesAt c n0 s) (hs : s.drop k = r) (hcap : s.length ≤ cap) (hk : k ≤ s.length) : BytesAt c (n0 + cutN cap k 1) r := by
  unfold cutN
  by_cases h : cap = k
  · have : r = [] := by rw [← hs]; exact List.drop_of_length_le (by omega)
    subst this
    exact ⟨F.1, fun i hi => by simp at hi⟩
  · rw [if_neg h, Nat.mul_one, ← hs]
    exact F.drop k
set_option maxRecDepth 20000 in
theorem par_can (hη : OneCells η) (hmix : Tryz.prog.follows .mixedOrders = true) {s : List UInt8} {c : List Value} {o : Nat} (ty cap : Nat) (F : BytesAt c o s) (hU : isU cap = false) (hcap : s.length ≤ cap) (hs : s.length ≤ 20000) {D : Value → AH → Prop}
    (derr : (parse s).2.2 ≠ 0 → D (.tuple ⟨[.slice none 0 0, .int .i64 0, .int .i64 (parse s).2.2]⟩) (heapT [(ty, c)]))
    (dnone : (parse s).2.2 = 0 → (parse s).1 = [] → D (.tuple ⟨[.slice none 0 0, .int .i64 (parse s).2.1, .int .i64 0]⟩) (heapT [(ty, c)]))
    (dsome : (parse s).2.2 = 0 → (parse s).1 ≠ [] → D (.tuple ⟨[.slice (some ⟨127, 0, none⟩) (parse s).1.length (capU 2), .int .i64 (parse s).2.1, .int .i64 0]⟩) (withRow (heapT [(ty, c)]) 37 (Go.Ev.flds (parse s).1) false)) :
    CallSpec η Tryz.prog B 14 [.slice (some ⟨126, o, none⟩) s.length cap] (heapT [(ty, c)]) D := by
  have e0 : HPar.H0 ty o c s.length cap = heapT [(ty, c)] := rfl
  rw [← e0] at derr dnone dsome ⊢
  have nn := nn_bare F.1
  have dE : ∀ E : Int, parse s = ([], 0, E) → E ≠ 0 → D (.tuple ⟨[.slice none 0 0, .int .i64 0, .int .i64 E]⟩) (HPar.H0 ty o c s.length cap) := by
    intro E hp hE
    rw [hp] at derr
    exact derr hE
  have cut0 := HPar.cut0 (η := η) (B := B) (D := D) hη hmix (reg0 hη hmix) ty o c s.length cap
  have cut1 := fun l0 l1 n0 n1 n2 n3 => HPar.cut1 (η := η) (B := B) (D := D) hη hmix (reg0 hη hmix) ty o c s.length cap l0 l1 n0 n1 n2 n3
  refine HPar.enter hη hmix (reg0 hη hmix) _ _ _ _ _ ?_
  have h13 : (#[(13 : UInt8), 10].toList) = [13, 10] := rfl
  have u10 : UInt8.ofNat (10 : Int).toNat = 10 := rfl
  have u10' : UInt8.ofNat 10 = 10 := rfl
  simp only [W.holds, true_and, and_true, decide_eq_true_eq, decide_eq_false_iff_not, true_implies, bne_iff_ne, ne_eq, bne_eq_false_iff_eq, beq_iff_eq, beq_eq_false_iff_ne, Bool.not_eq_true', Bool.not_eq_false', Nat.le_refl, Int.le_refl, Nat.mul_one, Nat.sub_zero, Nat.add_zero, Int.toNat_natCast, h13, u10', capP_no hU, capN_no hU, cutN0] at cut0 cut1 ⊢
  have fin3 : 8192 < s.length → finE s = 3 := fun h => if_pos h
  have fin10 : ¬ 8192 < s.length → finE s = 10 := fun h => if_neg h
  refine ⟨nn, fun _ => ?_⟩
  have loop1 : ∀ (m : Nat) (rem : List UInt8) (frm n0 n2 : Nat) (L : List HF), rem.length ≤ m → BytesAt c n0 rem → isU n2 = false → rem.length ≤ n2 → frm + rem.length = s.length → L ≠ [] → L.length ≤ 100 → parse s = par (finE s) [] rem frm L →
      RunD η Tryz.prog B 14 (HPar.H0 ty o c s.length cap) [0, 1] (HPar.S1 ty o c s.length cap [.int .i64 (frm : Int)] (Go.Ev.flds L) n0 rem.length n2 L.length fun _ => undef) (QF Tryz.prog 127 D) := by
    intro m
    induction m with
    | zero =>
      intro rem frm n0 n2 L hm G hU2 hcap2 hfr hne hL hp
      have h0 : rem = [] := List.length_eq_zero_iff.1 (by omega)
      subst h0
      rw [par] at hp
      have c1 := cut1 [.int .i64 (frm : Int)] (Go.Ev.flds L) n0 ([] : List UInt8).length n2 L.length
      exact c1 ⟨fun h => by simp at h, fun _ => ⟨fun h8 => ⟨Nat.le_refl 1, fun _ => ⟨nn, fun _ => dE 3 (by rw [hp, fin3 (by omega)]) (by decide)⟩⟩, fun h8 => ⟨Nat.le_refl 1, fun _ => ⟨nn, fun _ => dE 10 (by rw [hp, fin10 (by omega)]) (by decide)⟩⟩⟩⟩
    | succ m ih =>
      intro rem frm n0 n2 L hm G hU2 hcap2 hfr hne hL hp
      have c1 := cut1 [.int .i64 (frm : Int)] (Go.Ev.flds L) n0 rem.length n2 L.length
      have hi0 : intAt [Value.int .i64 (frm : Int)] 0 = (frm : Int) := rfl
      simp only [capP_no hU2, capN_no hU2, hi0] at c1
      by_cases h0 : rem = []
      · subst h0
        rw [par] at hp
        exact c1 ⟨fun h => by simp at h, fun _ => ⟨fun h8 => ⟨Nat.le_refl 1, fun _ => ⟨nn, fun _ => dE 3 (by rw [hp, fin3 (by omega)]) (by decide)⟩⟩, fun h8 => ⟨Nat.le_refl 1, fun _ => ⟨nn, fun _ => dE 10 (by rw [hp, fin10 (by omega)]) (by decide)⟩⟩⟩⟩
      · have hpos : 0 < rem.length := List.length_pos_iff.2 h0
        have hbi : bytesIn c n0 rem.length = rem := by
          have := (by_in G (a := 0) (ct := rem) (r := []) hpos (by simp)).1
          rw [Nat.add_zero] at this; exact this
        rw [hbi] at c1
        refine c1 ⟨fun _ => ⟨ixb_ok rfl G hU2, ?_⟩, fun h => by omega⟩
        rcases ix_gen 10 rem with ⟨h1, h2⟩ | ⟨a, r, rfl, h2, h1⟩
        · rw [h1]
          refine ⟨fun h => by omega, fun _ => ?_⟩
          have hp' : parse s = ([], 0, finE s) := by
            rw [hp, ← List.append_nil rem, par_app _ _ _ _ _ _ h2, par]
          obtain ⟨q, x, hq⟩ := snoc_ex h0
          have hx : x ≠ 10 := h2 x (by rw [hq]; simp)
          have hw : IntKind.i64.wrap ((rem.length : Int) - 1) = ((rem.length - 1 : Nat) : Int) := by rw [wrapL' (by omega) (by omega)]; omega
          have hdx : rem.drop (rem.length - 1) = x :: [] := by
            have : rem.length - 1 = q.length := by rw [hq]; simp
            rw [this, hq, List.drop_left]
          obtain ⟨_, g0, g1, _⟩ := by_get G hdx
          rw [hw]
          simp only [Int.toNat_natCast, g1]
          refine ⟨⟨by omega, by omega, by omega⟩, fun _ => ⟨⟨by omega, by omega⟩, fun _ => ⟨g0, fun _ => ⟨fun _ => ⟨fun h8 => ⟨Nat.le_refl 1, fun _ => ⟨nn, fun _ => dE 3 (by rw [hp', fin3 (by omega)]) (by decide)⟩⟩, fun h8 => ⟨Nat.le_refl 1, fun _ => ⟨nn, fun _ => dE 10 (by rw [hp', fin10 (by omega)]) (by decide)⟩⟩⟩, fun he => absurd (u8_of (n := 10) (by decide) he) hx⟩⟩⟩⟩
        · have hln : (a ++ 10 :: r).length = a.length + 1 + r.length := by simp only [List.length_append, List.length_cons]; omega
          rw [hln] at hm hcap2 hfr hpos
          have hw1 : IntKind.i64.wrap ((a.length : Int) + 1) = ((a.length + 1 : Nat) : Int) := wrap1 (by omega)
          have hmm : IntKind.i64.wrap (((a.length + 1 : Nat) : Int) - 1) = (a.length : Int) := by rw [wrapL' (by omega) (by omega)]; omega
          have hu : IntKind.i64.wrap ((frm : Int) + ((a.length + 1 : Nat) : Int)) = ((frm + (a.length + 1) : Nat) : Int) := by rw [wrapL' (by omega) (by omega)]; omega
          obtain ⟨q1, q2, q3⟩ := by_in G (a := 0) (ct := a ++ [10]) (r := r) (by rw [hln]; omega) (by simp)
          have hl1 : (a ++ [(10 : UInt8)]).length = a.length + 1 := by simp
          rw [Nat.add_zero, hl1] at q1 q2
          rw [Nat.add_zero, hl1] at q3
          have hda : (a ++ 10 :: r).drop a.length = 10 :: r := List.drop_left
          obtain ⟨_, g0, g1, hdr⟩ := by_get G hda
          have g1' : intAt c (n0 + a.length) = 10 := g1
          simp only [h1, hw1, Int.toNat_natCast, Nat.add_zero, hmm, hu, g1', q1, q3, hln, and_true, true_and, not_true_eq_false, false_implies, true_implies]
          rw [par_app _ _ _ _ _ _ h2, List.nil_append, par, if_pos rfl] at hp
          have hlr : a.length + 1 + r.length - (a.length + 1) = r.length := by omega
          have nI : ∀ z : Int, NoNames [Value.int .i64 z] := fun z => nn_bare rfl
          rw [hlr]
          refine ⟨fun _ => ⟨⟨by omega, by omega⟩, fun _ => ⟨⟨by omega, by omega, by omega⟩, fun _ => ⟨⟨by omega, by omega, by omega⟩, fun _ => ⟨⟨by omega, by omega⟩, fun _ => ⟨g0, fun _ => ⟨rfl, fun _ => ⟨Nat.le_refl 1, fun _ => ⟨fun h8 => ⟨nn, fun _ => dE 3 (by rw [hp, if_pos (by omega)]) (by decide)⟩, fun h8 => ⟨q2, fun _ => ⟨fun he => ?_, fun he => ?_⟩⟩⟩⟩⟩⟩⟩⟩⟩⟩, fun h => by omega⟩
          · have ha : a = [13] := line13.1 he
            rw [if_neg (by omega), if_pos ha] at hp
            have e1 : (parse s).1 = L := by rw [hp]
            have e2 : (parse s).2.1 = frm + a.length + 1 := congrArg (fun z => z.2.1) hp
            have e3 : (parse s).2.2 = 0 := by rw [hp]
            have := dsome e3 (by rw [e1]; exact hne)
            rw [e1, e2] at this
            exact ⟨⟨nn, flds_nnL _⟩, fun _ => Eq.mp (by kernel_rfl) this⟩
          · have ha : ¬ a = [13] := fun e => he (line13.2 e)
            rw [if_neg (by omega), if_neg ha] at hp
            refine ⟨q2, fun _ => ⟨rdl_ok hη hmix _ (by rw [List.length_append, List.length_singleton]; omega) _, fun hb => ⟨nn, fun _ => dE 6 (by rw [hp, rd_none hb]) (by decide)⟩, fun hb => ?_⟩⟩
            rw [rd_some hb] at hp
            simp only at hp
            refine ⟨fun h3 => ⟨nn, fun _ => dE 3 (by rw [hp, if_pos (.inl (by omega))]) (by decide)⟩, fun h3 => ⟨fun h100 => ⟨nn, fun _ => dE 3 (by rw [hp, if_pos (.inr (by omega))]) (by decide)⟩, fun h100 => ⟨⟨by rw [flds_len]; omega, by omega⟩, fun _ => ⟨⟨nn, nI _, by rw [flds_snocL]; exact flds_nnL _⟩, fun _ => ?_⟩⟩⟩⟩
            rw [if_neg (by rintro (h | h) <;> omega)] at hp
            have := ih r (frm + (a.length + 1)) (n0 + cutN n2 (a.length + 1) 1) (n2 - (a.length + 1)) (L ++ [rdF (a ++ [10])]) (by omega) (cut_at G (by rw [hdr]) (by rw [hln]; omega) (by rw [hln]; omega)) (isU_sub hU2) (by omega) (by omega) (by simp) (by rw [List.length_append, List.length_singleton]; omega) hp
            rw [flds_snocL]
            rw [show (L ++ [rdF (a ++ [10])]).length = L.length + 1 from by simp] at this
            exact this
  have hp : parse s = par (finE s) [] s 0 [] := rfl
  by_cases h0 : s = []
  · have hl0 : s.length = 0 := by rw [h0]; rfl
    have hp' : parse s = ([], 0, finE s) := by rw [hp]; rw [h0]; rfl
    exact cut0 ⟨fun h => by omega, fun _ => ⟨fun h8 => ⟨nn, fun _ => dE 3 (by rw [hp', fin3 (by omega)]) (by decide)⟩, fun h8 => ⟨nn, fun _ => dE 10 (by rw [hp', fin10 (by omega)]) (by decide)⟩⟩⟩
  · have hpos : 0 < s.length := List.length_pos_iff.2 h0
    have hbi : bytesIn c o s.length = s := by
      have := (by_in F (a := 0) (ct := s) (r := []) hpos (by simp)).1
      rw [Nat.add_zero] at this; exact this
    rw [hbi] at cut0
    refine cut0 ⟨fun _ => ⟨ixb_ok rfl F hU, ?_⟩, fun h => by omega⟩
    rcases ix_gen 10 s with ⟨h1, h2⟩ | ⟨a, r, hsr, h2, h1⟩
    · rw [h1]
      refine ⟨fun h => by omega, fun _ => ?_⟩
      have hp' : parse s = ([], 0, finE s) := by
        have := par_app (finE s) s [] [] 0 [] h2
        rw [List.append_nil] at this
        rw [hp, this, par]
      obtain ⟨q, x, hq⟩ := snoc_ex h0
      have hx : x ≠ 10 := h2 x (by rw [hq]; simp)
      have hw : IntKind.i64.wrap ((s.length : Int) - 1) = ((s.length - 1 : Nat) : Int) := by rw [wrapL' (by omega) (by omega)]; omega
      have hdx : s.drop (s.length - 1) = x :: [] := by
        have : s.length - 1 = q.length := by rw [hq]; simp
        rw [this, hq, List.drop_left]
      obtain ⟨_, g0, g1, _⟩ := by_get F hdx
      rw [hw]
      simp only [Int.toNat_natCast, g1]
      refine ⟨⟨by omega, by omega, by omega⟩, fun _ => ⟨⟨by omega, by omega⟩, fun _ => ⟨g0, fun _ => ⟨fun _ => ⟨fun h8 => ⟨nn, fun _ => dE 3 (by rw [hp', fin3 (by omega)]) (by decide)⟩, fun h8 => ⟨nn, fun _ => dE 10 (by rw [hp', fin10 (by omega)]) (by decide)⟩⟩, fun he => absurd (u8_of (n := 10) (by decide) he) hx⟩⟩⟩⟩
    · have hln : s.length = a.length + 1 + r.length := by rw [hsr]; simp only [List.length_append, List.length_cons]; omega
      have hw1 : IntKind.i64.wrap ((a.length : Int) + 1) = ((a.length + 1 : Nat) : Int) := wrap1 (by omega)
      have hmm : IntKind.i64.wrap (((a.length + 1 : Nat) : Int) - 1) = (a.length : Int) := by rw [wrapL' (by omega) (by omega)]; omega
      have hu : IntKind.i64.wrap (0 + ((a.length + 1 : Nat) : Int)) = ((a.length + 1 : Nat) : Int) := by rw [wrapL' (by omega) (by omega)]; omega
      obtain ⟨q1, q2, q3⟩ := by_in F (a := 0) (ct := a ++ [10]) (r := r) hpos (by rw [List.drop_zero, hsr]; simp)
      have hl1 : (a ++ [(10 : UInt8)]).length = a.length + 1 := by simp
      rw [Nat.add_zero, hl1] at q1 q2
      rw [Nat.add_zero, hl1] at q3
      have hda : s.drop a.length = 10 :: r := by rw [hsr, List.drop_left]
      obtain ⟨_, g0, g1, hdr⟩ := by_get F hda
      have g1' : intAt c (o + a.length) = 10 := g1
      simp only [h1, hw1, Int.toNat_natCast, Nat.add_zero, hmm, hu, g1', q1, q3, and_true, true_and, not_true_eq_false, false_implies, true_implies]
      have hp2 : parse s = par (finE s) [] (a ++ 10 :: r) 0 [] := by rw [hp]; congr 1
      rw [par_app _ _ _ _ _ _ h2, List.nil_append, par, if_pos rfl, Nat.zero_add] at hp2
      refine ⟨fun _ => ⟨⟨by omega, by omega⟩, fun _ => ⟨⟨by omega, by omega, by omega⟩, fun _ => ⟨⟨by omega, by omega, by omega⟩, fun _ => ⟨⟨by omega, by omega⟩, fun _ => ⟨g0, fun _ => ⟨fun h8 => ⟨nn, fun _ => dE 3 (by rw [hp2, if_pos (by omega)]) (by decide)⟩, fun h8 => ⟨q2, fun _ => ⟨fun he => ?_, fun he => ?_⟩⟩⟩⟩⟩⟩⟩⟩, fun h => by omega⟩
      · have ha : a = [13] := line13.1 he
        rw [if_neg (by omega), if_pos ha] at hp2
        have e1 : (parse s).1 = [] := by rw [hp2]
        have e2 : (parse s).2.1 = a.length + 1 := congrArg (fun z => z.2.1) hp2
        have e3 : (parse s).2.2 = 0 := by rw [hp2]
        have := dnone e3 e1
        rw [e2] at this
        exact ⟨nn, fun _ => this⟩
      · have ha : ¬ a = [13] := fun e => he (line13.2 e)
        rw [if_neg (by omega), if_neg ha] at hp2
        refine ⟨q2, fun _ => ⟨rdl_ok hη hmix _ (by rw [List.length_append, List.length_singleton]; omega) _, fun hb => ⟨nn, fun _ => dE 6 (by rw [hp2, rd_none hb]) (by decide)⟩, fun hb => ?_⟩⟩
        rw [rd_some hb] at hp2
        simp only at hp2
        refine ⟨fun h3 => ⟨nn, fun _ => dE 3 (by rw [hp2, if_pos (.inl (by omega))]) (by decide)⟩, fun h3 => ⟨nn, fun _ => ?_⟩⟩
        rw [if_neg (by rintro (h | h); omega; cases h)] at hp2
        have hlr : s.length - (a.length + 1) = r.length := by omega
        rw [hlr]
        exact loop1 r.length r (a.length + 1) (o + cutN cap (a.length + 1) 1) (cap - (a.length + 1)) [rdF (a ++ [10])] (Nat.le_refl _) (cut_at F hdr hcap (by omega)) (isU_sub hU) (by omega) (by omega) (by simp) (by simp) hp2
theorem ppar_ok (hη : OneCells η) (hmix : Tryz.prog.follows .mixedOrders = true) {h : AH} {v : Value} {s : List UInt8} (k : IsBytes h v s) (hs : s.length ≤ 20000) :
    CallSpec η Tryz.prog B 14 [v] h (paT s h).sat := by
  refine listedP hη k ?_ fun F hU hle d0 d1 d2 => par_can hη hmix _ _ F hU hle hs d0 d1 d2
  refine HPar0.enter hη hmix (reg0 hη hmix) 0 ?_
  simp only [W.holds, true_and, and_true, true_implies]
  refine HPar0.cut0 hη hmix (reg0 hη hmix) 0 ?_
  simp only [W.holds, true_and, and_true, true_implies]
  exact rfl
end TH
end Go.Ev

namespace Go.Ev
set_option linter.unusedVariables false
set_option linter.unusedSimpArgs false
open Go Go.Proofs Go.RowKit
variable {η : Nat → Value} {B : Bd}
namespace TH
open TB TE
theorem far_K (hη : OneCells η) (hmix : Tryz.prog.follows .mixedOrders = true) {h : AH} {v : Value} {l : List HF} (k : IsFlds h v l) :
    CallSpec η Tryz.prog B 10 [v] h (KT.ret (.bool (farB l)) h).sat := by
  have := far_ok (B := B) hη hmix k
  simp only [farK, k.at_] at this
  exact this
end TH
end Go.Ev

namespace Go.Ev
set_option linter.unusedVariables false
set_option linter.unusedSimpArgs false
open Go Go.Proofs Go.RowKit
variable {η : Nat → Value} {B : Bd}
namespace TH
open TB TE
theorem by_all {c : List Value} {o : Nat} {s : List UInt8} (F : BytesAt c o s) : bytesIn c o s.length = s := by
  cases s with
  | nil => unfold bytesIn; simp
  | cons x s =>
    have := (by_in F (a := 0) (ct := x :: s) (r := []) (by simp) (by simp)).1
    rw [Nat.add_zero] at this
    exact this
theorem paT_E {s : List UInt8} {h h' : AH} {v : Value} (k : (paT s h).sat v h') (he : (parse s).2.2 ≠ 0) : (KT.ret (.tuple ⟨[.slice none 0 0, .int .i64 0, .int .i64 (parse s).2.2]⟩) h).sat v h' := by
  rcases k with ⟨_, k⟩ | ⟨e, _⟩
  · exact k
  · unfold paB at e; simp at e; exact absurd e he
theorem paT_Z {s : List UInt8} {h h' : AH} {v : Value} (k : (paT s h).sat v h') (he : (parse s).2.2 = 0) (hn : (parse s).1 = []) : (KT.ret (.tuple ⟨[.slice none 0 0, .int .i64 (parse s).2.1, .int .i64 0]⟩) h).sat v h' := by
  rcases k with ⟨e, _⟩ | ⟨_, ⟨_, k⟩ | ⟨e, _⟩⟩
  · unfold paB at e; simp at e; exact absurd he e
  · exact k
  · unfold paN at e; rw [hn] at e; cases e
theorem paT_R {s : List UInt8} {h h' : AH} {v : Value} (k : (paT s h).sat v h') (he : (parse s).2.2 = 0) (hn : (parse s).1 ≠ []) : (KT.ret (.tuple ⟨[.slice (some ⟨h.next, 0, none⟩) (parse s).1.length (capU 2), .int .i64 (parse s).2.1, .int .i64 0]⟩) (withRow h 37 (Go.Ev.flds (parse s).1) false)).sat v h' := by
  rcases k with ⟨e, _⟩ | ⟨_, ⟨e, _⟩ | ⟨_, k⟩⟩
  · unfold paB at e; simp at e; exact absurd he e
  · unfold paN at e; rw [List.isEmpty_iff] at e; exact absurd e hn
  · exact k
theorem fieldsAt_litL {h : AH} {r n cap ty own : Nat} {p : Bool} {M : List HF} (hr : h.objs.get r = some (.cells ty (Go.Ev.flds M) p own)) (hn : n = M.length) : fieldsAt h (.slice (some ⟨r, 0, none⟩) n cap) = M := by
  subst hn
  have F : FldsAt (Go.Ev.flds M) 0 M := ⟨flds_bare M, fun i hi => by
    obtain ⟨h0, h1⟩ := flds_at hi
    rw [show 0 + i * 2 = 2 * i by omega]
    exact ⟨h0, h1⟩⟩
  unfold fieldsAt
  simp only [hr]
  refine List.ext_getElem (by simp) fun i h1 h2 => ?_
  obtain ⟨_, g1, g2⟩ := fl_get F h2
  rw [List.getElem_map, List.getElem_range]
  rw [show 0 + 2 * i = 0 + i * 2 by omega, g1, g2]
theorem isRowL {h : AH} {r n cap ty own : Nat} {M : List HF} (hr : h.objs.get r = some (.cells ty (Go.Ev.flds M) false own)) (hn : n = M.length) : IsFlds h (.slice (some ⟨r, 0, none⟩) n cap) M := by
  subst hn
  refine .inr ⟨r, 0, ty, _, own, cap, rfl, hr, flds_bare M, fun i hi => ?_⟩
  obtain ⟨h0, h1⟩ := flds_at hi
  rw [show 0 + i * 2 = 2 * i by omega]
  exact ⟨h0, h1⟩
theorem equ_nil (hη : OneCells η) (hmix : Tryz.prog.follows .mixedOrders = true) {h : AH} : CallSpec η Tryz.prog B 16 [.slice none 0 0, .slice none 0 0] h (KT.ret (.bool true) h).sat :=
  equ_ok hη hmix (X := []) (Y := []) (by simp) (.inl ⟨rfl, rfl⟩) (.inl ⟨rfl, rfl⟩) (fun _ _ _ _ e => by cases e)
theorem equ_rows (hη : OneCells η) (hmix : Tryz.prog.follows .mixedOrders = true) {h : AH} {r1 r2 t1 t2 o1 o2 cap cap' : Nat} {M : List HF} (h1 : h.objs.get r1 = some (.cells t1 (Go.Ev.flds M) false o1)) (h2 : h.objs.get r2 = some (.cells t2 (Go.Ev.flds M) false o2)) (hne : r1 ≠ r2) (hM : M.length ≤ 100000) :
    CallSpec η Tryz.prog B 16 [.slice (some ⟨r1, 0, none⟩) M.length cap, .slice (some ⟨r2, 0, none⟩) M.length cap'] h (KT.ret (.bool true) h).sat := by
  have := equ_ok (B := B) hη hmix hM (isRowL (cap := cap) h1 rfl) (isRowL (cap := cap') h2 rfl) (fun x y n c e n' c' e' => by cases e; cases e'; exact hne)
  rw [beq_self_eq_true] at this
  exact this
theorem ppar_R (hη : OneCells η) (hmix : Tryz.prog.follows .mixedOrders = true) {h : AH} {v : Value} {s : List UInt8} (k : IsBytes h v s) (hs : s.length ≤ 20000) (he : (parse s).2.2 = 0) (hn : (parse s).1 ≠ []) :
    CallSpec η Tryz.prog B 14 [v] h (KT.ret (.tuple ⟨[.slice (some ⟨h.next, 0, none⟩) (parse s).1.length (capU 2), .int .i64 (parse s).2.1, .int .i64 0]⟩) (withRow h 37 (Go.Ev.flds (parse s).1) false)).sat :=
  (ppar_ok hη hmix k hs).mono fun _ _ q => paT_R q he hn
theorem rpar_R (hη : OneCells η) (hmix : Tryz.prog.follows .mixedOrders = true) {h : AH} {v : Value} {s : List UInt8} (k : IsBytes h v s) (hs : s.length ≤ 20000) (he : (parse s).2.2 = 0) (hn : (parse s).1 ≠ []) :
    CallSpec η Tryz.prog B 15 [v] h (KT.ret (.tuple ⟨[.slice (some ⟨h.next, 0, none⟩) (parse s).1.length (capU 2), .int .i64 (parse s).2.1, .int .i64 0]⟩) (withRow h 37 (Go.Ev.flds (parse s).1) false)).sat :=
  (rpar_ok hη hmix k hs).mono fun _ _ q => paT_R q he hn
set_option maxRecDepth 20000 in
theorem lin_can (hη : OneCells η) (hmix : Tryz.prog.follows .mixedOrders = true) (haw : ∀ {B : Bd} (h : AH), CallSpec η Tryz.prog B 11 [] h fun v h' => v = .bool true ∧ h' = h) {l : List HF} {s : List UInt8} {lv : Value} {c c' : List Value} {o' : Nat} (ty ty' cap' : Nat)
    (k : ∀ h' : AH, h'.objs.get 126 = some (.cells ty c false 0) → IsFlds h' lv l) (nn : NoNames c) (F : BytesAt c' o' s) (hU : isU cap' = false) (hcap : s.length ≤ cap') :
    CallSpec η Tryz.prog B 3 [lv, .slice (some ⟨127, o', none⟩) s.length cap'] (heapT [(ty, c), (ty', c')]) fun v _ => v = .bool true := by
  have nn' := nn_bare F.1
  have e2 := by_all F
  have isb : ∀ h' : AH, h'.objs.get 127 = some (.cells ty' c' false 0) → IsBytes h' (.slice (some ⟨127, o', none⟩) s.length cap') s := fun h' hh => .inr ⟨127, o', ty', c', 0, cap', rfl, hh, F, .inl ⟨hU, hcap⟩⟩
  have el : ∀ h' : AH, h'.objs.get 126 = some (.cells ty c false 0) → fieldsAt h' lv = l := fun h' hh => (k h' hh).at_
  by_cases hE : (parse s).2.2 = 0
  · by_cases hN : (parse s).1 = []
    · have e := el (HLinZ.H0 lv ty ty' o' c c' s.length cap') rfl
      unfold HLinZ.H0 at e
      refine HLinZ.enter hη hmix (reg0 hη hmix) _ _ _ _ _ _ _ _ ?_
      simp only [W.holds, e, e2, true_and, and_true, decide_eq_true_eq, decide_eq_false_iff_not, true_implies, beq_self_eq_true, reduceCtorEq, Bool.true_eq_false, false_implies]
      refine ⟨far_K hη hmix (k _ rfl), fun _ => haw _, fun hf => ⟨fun _ => haw _, fun h9 => ?_⟩⟩
      have hL := far_small hf
      have hs : s.length ≤ 20000 := by omega
      exact ⟨print_ok hη hmix (k _ rfl) hL, rprint_ok hη hmix (k _ rfl) hL, (ppar_ok hη hmix (isb _ rfl) hs).mono fun v h' q => paT_Z q hE hN, (rpar_ok hη hmix (isb _ rfl) hs).mono fun v h' q => paT_Z q hE hN, equ_nil hη hmix, haw _⟩
    · have e := el (HLinR.H0 lv ty ty' o' c c' s.length cap') rfl
      unfold HLinR.H0 at e
      refine HLinR.enter hη hmix (reg0 hη hmix) _ _ _ _ _ _ _ _ ?_
      simp only [W.holds, e, e2, true_and, and_true, decide_eq_true_eq, decide_eq_false_iff_not, true_implies, beq_self_eq_true, reduceCtorEq, Bool.true_eq_false, false_implies]
      rw [fieldsAt_litL (r := 128) (M := (parse s).1) (hr := ?h1) (hn := rfl), fieldsAt_litL (r := 129) (M := (parse s).1) (hr := ?h2) (hn := rfl)]
      case h1 => rfl
      case h2 => rfl
      simp only [beq_self_eq_true, true_implies, Bool.true_eq_false, false_implies, and_true]
      refine ⟨far_K hη hmix (k _ rfl), fun _ => haw _, fun hf => ⟨fun _ => haw _, fun h9 => ?_⟩⟩
      have hL := far_small hf
      have hs : s.length ≤ 20000 := by omega
      exact ⟨print_ok hη hmix (k _ rfl) hL, rprint_ok hη hmix (k _ rfl) hL, (ppar_R hη hmix (isb _ rfl) hs hE hN).conv (by kernel_rfl), (rpar_R hη hmix (isb _ rfl) hs hE hN).conv (by kernel_rfl), equ_rows hη hmix rfl rfl (by decide) (by have := parse_le (b := s); omega), haw _, ⟨nn, nn'⟩, fun _ => trivial⟩
  · have e := el (HLinE.H0 lv ty ty' o' c c' s.length cap') rfl
    unfold HLinE.H0 at e
    refine HLinE.enter hη hmix (reg0 hη hmix) _ _ _ _ _ _ _ _ ?_
    simp only [W.holds, e, e2, true_and, and_true, decide_eq_true_eq, decide_eq_false_iff_not, true_implies, beq_self_eq_true, reduceCtorEq, Bool.true_eq_false, false_implies]
    refine ⟨far_K hη hmix (k _ rfl), fun _ => haw _, fun hf => ⟨fun _ => haw _, fun h9 => ?_⟩⟩
    have hL := far_small hf
    have hs : s.length ≤ 20000 := by omega
    exact ⟨print_ok hη hmix (k _ rfl) hL, rprint_ok hη hmix (k _ rfl) hL, (ppar_ok hη hmix (isb _ rfl) hs).mono fun v h' q => paT_E q hE, (rpar_ok hη hmix (isb _ rfl) hs).mono fun v h' q => paT_E q hE, equ_nil hη hmix, haw _⟩
set_option maxRecDepth 20000 in
theorem lin_nil (hη : OneCells η) (hmix : Tryz.prog.follows .mixedOrders = true) (haw : ∀ {B : Bd} (h : AH), CallSpec η Tryz.prog B 11 [] h fun v h' => v = .bool true ∧ h' = h) {l : List HF} {lv : Value} {c : List Value} (ty : Nat)
    (k : ∀ h' : AH, h'.objs.get 126 = some (.cells ty c false 0) → IsFlds h' lv l) :
    CallSpec η Tryz.prog B 3 [lv, .slice none 0 0] (heapT [(ty, c)]) fun v _ => v = .bool true := by
  have e := (k (HLinN.H0 lv ty c) rfl).at_
  unfold HLinN.H0 at e
  have isb : ∀ h' : AH, IsBytes h' (.slice none 0 0) [] := fun h' => .inl ⟨rfl, rfl⟩
  have hE : (parse []).2.2 ≠ 0 := by decide
  refine HLinN.enter hη hmix (reg0 hη hmix) _ _ _ ?_
  simp only [W.holds, e, true_and, and_true, decide_eq_true_eq, decide_eq_false_iff_not, true_implies, beq_self_eq_true, reduceCtorEq, Bool.true_eq_false, false_implies]
  refine ⟨far_K hη hmix (k _ rfl), fun _ => haw _, fun hf => ?_⟩
  have hL := far_small hf
  exact ⟨print_ok hη hmix (k _ rfl) hL, rprint_ok hη hmix (k _ rfl) hL, (ppar_ok hη hmix (isb _) (by simp)).mono fun v h' q => paT_E q hE, (rpar_ok hη hmix (isb _) (by simp)).mono fun v h' q => paT_E q hE, equ_nil hη hmix, haw _⟩
end TH
end Go.Ev

namespace Go.Ev
set_option linter.unusedVariables false
set_option linter.unusedSimpArgs false
open Go Go.Proofs
namespace TH
theorem fldsAt_of (l : List HF) : FldsAt (Go.Ev.flds l) 0 l := ⟨flds_bare l, fun i hi => by
  obtain ⟨h0, h1⟩ := flds_at hi
  rw [show 0 + i * 2 = 2 * i by omega]
  exact ⟨h0, h1⟩⟩
end TH
end Go.Ev

namespace Go.Ev
set_option linter.unusedVariables false
set_option linter.unusedSimpArgs false
open Go Go.Proofs Go.RowKit
section
variable {P : Program}
/-- A row of nothing, in some block. -/
def Spare (W : World) : Prop := ∃ (b : Nat) (ty : TypeId), RowAt W ⟨ty, [], b, 0⟩
theorem spare_of {W : World} (hS : W.ShapedOpen P) (hN : 0 < P.globals.size) (h : (((begin P (fun _ _ => 0) default).world.heap[0]?).bind Obj.row?).isSome = true) : Spare W := by
  obtain ⟨⟨zero, t⟩, hz⟩ := Option.isSome_iff_exists.1 h
  obtain ⟨cs, hcs, _⟩ := hS.1 0 zero t hN hz
  exact ⟨0, t, cs, 0, 0, hcs, Nat.zero_le _, (fun i v hv => by simp at hv), rfl⟩
theorem cap_of_slice {w : World} {r : Reach} {b0 : Nat} {t e : TypeId} {p : Option Addr} {n c : Nat} (hu : P.underlying t = some (.slice e)) (h : Value.okWide P w r b0 t (.slice p n c)) : n ≤ c := by
  cases p with
  | none =>
    simp only [Value.okWide, hu, Cell.okWide, Cell.ok] at h
    cases n with
    | zero => exact Nat.zero_le _
    | succ n => simp at h
  | some a =>
    simp only [Value.okWide, hu, Cell.okWide, Cell.ok] at h
    exact h.1
end
namespace TH
theorem bytesAt_of (s : List UInt8) : BytesAt (bytesV s) 0 s := ⟨by
  rw [List.all_eq_true]; intro v hv
  unfold bytesV at hv
  rw [List.mem_map] at hv
  obtain ⟨x, _, rfl⟩ := hv; rfl, fun i hi => by
  rw [Nat.zero_add]
  unfold bytesV
  rw [List.getElem?_map, List.getElem?_eq_getElem hi]; rfl⟩
theorem envR_0 {P : Program} {W : World} {l : List Row} {x : Row} (h : l[0]? = some x) : envR P W l 126 = some (x.b, x.o, sizeB W x.b - x.o) := by
  unfold envR
  rw [if_pos (by omega), Nat.sub_self, h]; rfl
theorem envR_1 {P : Program} {W : World} {l : List Row} {x : Row} (h : l[1]? = some x) : envR P W l 127 = some (x.b, x.o, sizeB W x.b - x.o) := by
  unfold envR
  rw [if_pos (by omega), show 127 - 126 = 1 from rfl, h]; rfl
/-- The fields, as the first row. -/
theorem flds_in {η : Nat → Value} {P : Program} {W : World} {l : List HF} {a : Value} (ha : SliceArg W a l.length (Go.Ev.flds l)) (hsp : Spare W) :
    ∃ (x : Row) (fa : Value), RowAt W x ∧ (∀ l', l'[0]? = some x → VR η (envR P W l') fa a) ∧ (∀ h' : AH, h'.objs.get 126 = some (.cells x.ty x.c false 0) → IsFlds h' fa l) ∧ NoNames x.c ∧ (∀ y n c, fa = .slice (some y) n c → y.block = 126) := by
  rcases ha with ⟨rfl, hn⟩ | ⟨blk, o, o', cap, ty, rfl, hcap, hle, ho, hr⟩
  · obtain ⟨b', ty, hr⟩ := hsp
    obtain rfl : l = [] := List.length_eq_zero_iff.1 hn
    exact ⟨⟨ty, [], b', 0⟩, .slice none 0 0, hr, fun _ _ => .slice0 _ _ rfl, fun _ _ => .inl ⟨rfl, rfl⟩, (fun v hv => by cases hv), fun y n c h => by cases h⟩
  · refine ⟨⟨ty, Go.Ev.flds l, blk, o'⟩, .slice (some ⟨126, o - o', none⟩) l.length cap, hr, fun l' hl => ?_, fun h' hh => ?_, nn_bare (flds_bare l), fun y n c h => by cases h; rfl⟩
    · have := VR.slice (η := η) (ρ := envR P W l') (r := 126) (o := o - o') (b := blk) (d := o') (n := sizeB W blk - o') l.length cap (envR_0 hl) hcap
      rw [show o' + (o - o') = o by omega] at this
      exact this
    · refine .inr ⟨126, o - o', ty, Go.Ev.flds l, 0, cap, rfl, hh, ?_⟩
      cases l with
      | nil => exact ⟨rfl, fun i hi => by simp at hi⟩
      | cons x y =>
        rw [ho (by simp), Nat.sub_self]
        exact fldsAt_of _
theorem lines_row (hmix : Tryz.prog.follows .mixedOrders = true) (haw : ∀ {B : Bd} (h : AH), CallSpec (fun _ => .nilIface) Tryz.prog B 11 [] h fun v h' => v = .bool true ∧ h' = h) {w0 : World} (l : List HF) (a : Value) (s : List UInt8) (b : Value) (ha : SliceArg w0 a l.length (Go.Ev.flds l)) (hb : SliceArg w0 b s.length (bytesV s))
    (hcap : ∀ p n c, b = .slice p n c → n ≤ c) (hsp : Spare w0) :
    Calls Tryz.prog 3 #[a, b] w0 fun e w' => e = .returned (.bool true) ∧ Go.RowKit.Below w0.heap.size w0 w' := by
  have hη : OneCells (fun _ => Value.nilIface) := fun _ => rfl
  rcases hb with ⟨rfl, hn⟩ | ⟨blk, o, o', cap, ty', rfl, hU, hle, ho, hr⟩
  · obtain ⟨x, fa, hx, hv, hf, nn, _⟩ := flds_in (η := fun _ => .nilIface) (P := Tryz.prog) ha hsp
    obtain ⟨ty, c, xb, xo⟩ := x
    exact CallSpec.trueR (η := fun _ => .nilIface) (l := [⟨ty, c, xb, xo⟩]) (args := [fa, .slice none 0 0]) TB.gs9 (fun y hy => by rw [List.mem_singleton] at hy; subst hy; exact hx) (.cons (hv _ rfl) (.cons (.slice0 _ _ rfl) .nil)) (lin_nil hη hmix haw ty hf)
  · obtain ⟨x, fa, hx, hv, hf, nn, _⟩ := flds_in (η := fun _ => .nilIface) (P := Tryz.prog) ha hsp
    obtain ⟨ty, c, xb, xo⟩ := x
    refine CallSpec.trueR (η := fun _ => .nilIface) (l := [⟨ty, c, xb, xo⟩, ⟨ty', bytesV s, blk, o'⟩]) (args := [fa, .slice (some ⟨127, o - o', none⟩) s.length cap]) TB.gs9 (fun y hy => ?_) (.cons (hv _ rfl) (.cons ?_ .nil)) ?_
    · simp only [List.mem_cons, List.not_mem_nil, or_false] at hy
      rcases hy with rfl | rfl
      · exact hx
      · exact hr
    · have := VR.slice (η := fun _ => .nilIface) (ρ := envR Tryz.prog w0 [⟨ty, c, xb, xo⟩, ⟨ty', bytesV s, blk, o'⟩]) (r := 127) (o := o - o') (b := blk) (d := o') (n := sizeB w0 blk - o') s.length cap (envR_1 (x := ⟨ty', bytesV s, blk, o'⟩) rfl) hU
      rw [show o' + (o - o') = o by omega] at this
      exact this
    · refine lin_can hη hmix haw ty ty' cap hf nn ?_ hU (hcap _ _ _ rfl)
      cases s with
      | nil => exact ⟨rfl, fun i hi => by simp at hi⟩
      | cons x y =>
        rw [ho (by simp), Nat.sub_self]
        exact bytesAt_of _
end TH
end Go.Ev

