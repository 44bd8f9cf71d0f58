/- HIdlC, part 8: what the proof needs, in the order of its texts. -/
import Derived.Test.YtecamcpifkibkaaDoorHIdlC7
import Derived.Test.YtecamcpifkibkaaDoorProg
import Derived.KernelRfl
import Derived.ChangeSame
set_option linter.unusedVariables false
set_option linter.unusedSimpArgs false
namespace Go.Ev
open Go Go.Proofs
open Go.Ev.T renaming node → nN, nil → nZ
open Go.Proofs.Tryd (prog)
set_option maxRecDepth 100000
set_option maxHeartbeats 2000000
namespace LINEN2
noncomputable def bd:Code:=(Go.Proofs.Tryd.f6.body).getD .skip
noncomputable def H0(ty:Nat)(ty2:Nat)(n:Nat)(m:Nat)(cap:Nat)(cap2:Nat)(c:List Value)(c2:List Value)(kn:Int)(xa:Int)(xb:Int)(xe:Int)(s:List UInt8):AH:={ objs:=eE (eE (eE (eE (eE (eE (eE (lL (AObj.cells ty2 c2 false 0)) nZ) nZ) nZ) nZ) nZ) nZ) (eE nZ (eE nZ (eE nZ (eE nZ (eE nZ (lL (AObj.cells ty c false 0))))))),next:=128 }
noncomputable def E(ty:Nat)(ty2:Nat)(n:Nat)(m:Nat)(cap:Nat)(cap2:Nat)(c:List Value)(c2:List Value)(kn:Int)(xa:Int)(xb:Int)(xe:Int)(s:List UInt8):AS:=⟨⟨6,148,nS (Value.agg ⟨[sS 126 0 n cap,Value.slice none 0 9223372036854775808,iI kn,sS 127 0 m cap2]⟩) (lL (Value.string ⟨⟨s⟩⟩)) (lL (Value.agg ⟨[uI xa,uI xb,uI xe]⟩)),[Item.code (codeAt bd [])],[],FrameMode.run,CallKind.normal,none⟩,[],H0 ty ty2 n m cap cap2 c c2 kn xa xb xe s⟩
theorem enter{η:Nat→Value}{B:Bd}(hη:OneCells η)(hmix:prog.follows .mixedOrders=true)(hreg:RegOk η prog B noNest){D:Value→AH→Prop}(ty:Nat)(ty2:Nat)(n:Nat)(m:Nat)(cap:Nat)(cap2:Nat)(c:List Value)(c2:List Value)(kn:Int)(xa:Int)(xb:Int)(xe:Int)(s:List UInt8)(h:let q1:AH:=⟨eE (eE (eE (eE (eE (eE (eE (lL (AObj.cells ty2 c2 false 0)) nZ) nZ) nZ) nZ) nZ) (eE (eE (eE (eE (eE (lL (AObj.cells 46 [uI xa,uI xb,uI xe] true 2)) nZ) nZ) nZ) nZ) nZ)) (eE (eE (eE (eE (eE (eE (lL (AObj.cells 26 [sS 126 0 n cap,Value.slice none 0 9223372036854775808,iI kn,sS 127 0 m cap2] true 2)) nZ) nZ) nZ) nZ) nZ) (eE nZ (eE nZ (eE nZ (eE nZ (lL (AObj.cells ty c false 0))))))),130⟩;let q0:W:=(.call 9 [] (q1) (.ret (Value.bool true) (q1)) (.need (NoNames c∧NoNames c2∧True) (.done 6 (Value.bool true) (H0 ty ty2 n m cap cap2 c c2 kn xa xb xe s))));W.holds η prog B 6 (fun kp_ st_=>RunD η prog B 6 (H0 ty ty2 n m cap cap2 c c2 kn xa xb xe s) kp_ st_ (QF prog 128 D)) D (.call 7 [Value.agg ⟨[Value.slice (some ⟨126,0,none⟩) n cap,Value.slice none 0 9223372036854775808,Value.int IntKind.i64 kn,Value.slice (some ⟨127,0,none⟩) m cap2]⟩] (q1) (.ret (Value.bool (RG.farB c n [] 0 kn m)) (q1)) (.ite (RG.farB c n [] (0:Nat) kn m) q0 (.ite (decide ((↑s.length:Int) > (100:Int))) q0 (.call 8 [Value.agg ⟨[Value.slice (some ⟨126,0,none⟩) n cap,Value.slice none 0 9223372036854775808,Value.int IntKind.i64 kn,Value.slice (some ⟨127,0,none⟩) m cap2]⟩] (q1) (.ret (Value.int IntKind.i64 2) (q1)) q0))))):CallSpec η prog B 6 [Value.agg ⟨[Value.slice (some ⟨126,0,none⟩) n cap,Value.slice none 0 9223372036854775808,Value.int IntKind.i64 kn,Value.slice (some ⟨127,0,none⟩) m cap2]⟩,Value.string ⟨⟨s⟩⟩,Value.agg ⟨[Value.int IntKind.u8 xa,Value.int IntKind.u8 xb,Value.int IntKind.u8 xe]⟩] (H0 ty ty2 n m cap cap2 c c2 kn xa xb xe s) D:=by
 refine CallSpec.ofQF hη (CallSpec.enter (fr:=(E ty ty2 n m cap cap2 c c2 kn xa xb xe s).fr) (by kernel_rfl) ?_)
 exact walk_okT (h0:=H0 ty ty2 n m cap cap2 c c2 kn xa xb xe s) hη hmix hreg (.steps 10 <| .call kN <| .steps 1 <| .bit 18 (.steps 22 <| .call kN <| .steps 3 <| .done (some ⟨128,[],[(126,(126,true)),(127,(127,true))]⟩)) (.steps 5 <| .bit 23 (.steps 17 <| .call kN <| .steps 3 <| .done (some ⟨128,[],[(126,(126,true)),(127,(127,true))]⟩)) (.steps 1 <| .call kN <| .steps 15 <| .call kN <| .steps 3 <| .done (some ⟨128,[],[(126,(126,true)),(127,(127,true))]⟩)))) (E ty ty2 n m cap cap2 c c2 kn xa xb xe s) (by kernel_rfl) h (by kernel_rfl)
end LINEN2
namespace LINEN3
noncomputable def bd:Code:=(Go.Proofs.Tryd.f6.body).getD .skip
noncomputable def H0(ty:Nat)(ty2:Nat)(n:Nat)(m:Nat)(cap:Nat)(cap2:Nat)(c:List Value)(c2:List Value)(kn:Int)(xa:Int)(xb:Int)(xe:Int)(s:List UInt8):AH:={ objs:=eE (eE (eE (eE (eE (eE (eE (lL (AObj.cells ty2 c2 false 0)) nZ) nZ) nZ) nZ) nZ) nZ) (eE nZ (eE nZ (eE nZ (eE nZ (eE nZ (lL (AObj.cells ty c false 0))))))),next:=128 }
noncomputable def E(ty:Nat)(ty2:Nat)(n:Nat)(m:Nat)(cap:Nat)(cap2:Nat)(c:List Value)(c2:List Value)(kn:Int)(xa:Int)(xb:Int)(xe:Int)(s:List UInt8):AS:=⟨⟨6,148,nS (Value.agg ⟨[sS 126 0 n cap,Value.slice none 0 9223372036854775808,iI kn,sS 127 0 m cap2]⟩) (lL (Value.string ⟨⟨s⟩⟩)) (lL (Value.agg ⟨[uI xa,uI xb,uI xe]⟩)),[Item.code (codeAt bd [])],[],FrameMode.run,CallKind.normal,none⟩,[],H0 ty ty2 n m cap cap2 c c2 kn xa xb xe s⟩
theorem enter{η:Nat→Value}{B:Bd}(hη:OneCells η)(hmix:prog.follows .mixedOrders=true)(hreg:RegOk η prog B noNest){D:Value→AH→Prop}(ty:Nat)(ty2:Nat)(n:Nat)(m:Nat)(cap:Nat)(cap2:Nat)(c:List Value)(c2:List Value)(kn:Int)(xa:Int)(xb:Int)(xe:Int)(s:List UInt8)(h:let q1:AH:=⟨eE (eE (eE (eE (eE (eE (eE (lL (AObj.cells ty2 c2 false 0)) nZ) nZ) nZ) nZ) nZ) (eE (eE (eE (eE (eE (lL (AObj.cells 46 [uI xa,uI xb,uI xe] true 2)) nZ) nZ) nZ) nZ) nZ)) (eE (eE (eE (eE (eE (eE (lL (AObj.cells 26 [sS 126 0 n cap,Value.slice none 0 9223372036854775808,iI kn,sS 127 0 m cap2] true 2)) nZ) nZ) nZ) nZ) nZ) (eE nZ (eE nZ (eE nZ (eE nZ (lL (AObj.cells ty c false 0))))))),130⟩;let q0:W:=(.call 9 [] (q1) (.ret (Value.bool true) (q1)) (.need (NoNames c∧NoNames c2∧True) (.done 6 (Value.bool true) (H0 ty ty2 n m cap cap2 c c2 kn xa xb xe s))));W.holds η prog B 6 (fun kp_ st_=>RunD η prog B 6 (H0 ty ty2 n m cap cap2 c c2 kn xa xb xe s) kp_ st_ (QF prog 128 D)) D (.call 7 [Value.agg ⟨[Value.slice (some ⟨126,0,none⟩) n cap,Value.slice none 0 9223372036854775808,Value.int IntKind.i64 kn,Value.slice (some ⟨127,0,none⟩) m cap2]⟩] (q1) (.ret (Value.bool (RG.farB c n [] 0 kn m)) (q1)) (.ite (RG.farB c n [] (0:Nat) kn m) q0 (.ite (decide ((↑s.length:Int) > (100:Int))) q0 (.call 8 [Value.agg ⟨[Value.slice (some ⟨126,0,none⟩) n cap,Value.slice none 0 9223372036854775808,Value.int IntKind.i64 kn,Value.slice (some ⟨127,0,none⟩) m cap2]⟩] (q1) (.ret (Value.int IntKind.i64 3) (q1)) q0))))):CallSpec η prog B 6 [Value.agg ⟨[Value.slice (some ⟨126,0,none⟩) n cap,Value.slice none 0 9223372036854775808,Value.int IntKind.i64 kn,Value.slice (some ⟨127,0,none⟩) m cap2]⟩,Value.string ⟨⟨s⟩⟩,Value.agg ⟨[Value.int IntKind.u8 xa,Value.int IntKind.u8 xb,Value.int IntKind.u8 xe]⟩] (H0 ty ty2 n m cap cap2 c c2 kn xa xb xe s) D:=by
 refine CallSpec.ofQF hη (CallSpec.enter (fr:=(E ty ty2 n m cap cap2 c c2 kn xa xb xe s).fr) (by kernel_rfl) ?_)
 exact walk_okT (h0:=H0 ty ty2 n m cap cap2 c c2 kn xa xb xe s) hη hmix hreg (.steps 10 <| .call kN <| .steps 1 <| .bit 18 (.steps 22 <| .call kN <| .steps 3 <| .done (some ⟨128,[],[(126,(126,true)),(127,(127,true))]⟩)) (.steps 5 <| .bit 23 (.steps 17 <| .call kN <| .steps 3 <| .done (some ⟨128,[],[(126,(126,true)),(127,(127,true))]⟩)) (.steps 1 <| .call kN <| .steps 15 <| .call kN <| .steps 3 <| .done (some ⟨128,[],[(126,(126,true)),(127,(127,true))]⟩)))) (E ty ty2 n m cap cap2 c c2 kn xa xb xe s) (by kernel_rfl) h (by kernel_rfl)
end LINEN3
namespace LINEE2
noncomputable def bd:Code:=(Go.Proofs.Tryd.f6.body).getD .skip
noncomputable def H0(ty:Nat)(n:Nat)(cap:Nat)(c:List Value)(kn:Int)(xa:Int)(xb:Int)(xe:Int)(s:List UInt8):AH:={ objs:=eE nZ (eE nZ (eE nZ (eE nZ (eE nZ (eE nZ (lL (AObj.cells ty c false 0))))))),next:=127 }
noncomputable def E(ty:Nat)(n:Nat)(cap:Nat)(c:List Value)(kn:Int)(xa:Int)(xb:Int)(xe:Int)(s:List UInt8):AS:=⟨⟨6,148,nS (Value.agg ⟨[sS 126 0 n cap,Value.slice none 0 9223372036854775808,iI kn,Value.slice none 0 9223372036854775808]⟩) (lL (Value.string ⟨⟨s⟩⟩)) (lL (Value.agg ⟨[uI xa,uI xb,uI xe]⟩)),[Item.code (codeAt bd [])],[],FrameMode.run,CallKind.normal,none⟩,[],H0 ty n cap c kn xa xb xe s⟩
theorem enter{η:Nat→Value}{B:Bd}(hη:OneCells η)(hmix:prog.follows .mixedOrders=true)(hreg:RegOk η prog B noNest){D:Value→AH→Prop}(ty:Nat)(n:Nat)(cap:Nat)(c:List Value)(kn:Int)(xa:Int)(xb:Int)(xe:Int)(s:List UInt8)(h:let q1:AH:=⟨eE (eE (eE (eE (eE (eE (eE (lL (AObj.cells 26 [sS 126 0 n cap,Value.slice none 0 9223372036854775808,iI kn,Value.slice none 0 9223372036854775808] true 2)) nZ) nZ) nZ) nZ) nZ) nZ) (eE (eE (eE (eE (eE (eE (lL (AObj.cells 46 [uI xa,uI xb,uI xe] true 2)) nZ) nZ) nZ) nZ) nZ) (eE nZ (eE nZ (eE nZ (eE nZ (lL (AObj.cells ty c false 0))))))),129⟩;let q0:W:=(.call 9 [] (q1) (.ret (Value.bool true) (q1)) (.need (NoNames c∧True) (.done 6 (Value.bool true) (H0 ty n cap c kn xa xb xe s))));W.holds η prog B 6 (fun kp_ st_=>RunD η prog B 6 (H0 ty n cap c kn xa xb xe s) kp_ st_ (QF prog 127 D)) D (.call 7 [Value.agg ⟨[Value.slice (some ⟨126,0,none⟩) n cap,Value.slice none 0 9223372036854775808,Value.int IntKind.i64 kn,Value.slice none 0 9223372036854775808]⟩] (q1) (.ret (Value.bool (RG.farB c n [] 0 kn 0)) (q1)) (.ite (RG.farB c n [] (0:Nat) kn (0:Nat)) q0 (.ite (decide ((↑s.length:Int) > (100:Int))) q0 (.call 8 [Value.agg ⟨[Value.slice (some ⟨126,0,none⟩) n cap,Value.slice none 0 9223372036854775808,Value.int IntKind.i64 kn,Value.slice none 0 9223372036854775808]⟩] (q1) (.ret (Value.int IntKind.i64 2) (q1)) q0))))):CallSpec η prog B 6 [Value.agg ⟨[Value.slice (some ⟨126,0,none⟩) n cap,Value.slice none 0 9223372036854775808,Value.int IntKind.i64 kn,Value.slice none 0 9223372036854775808]⟩,Value.string ⟨⟨s⟩⟩,Value.agg ⟨[Value.int IntKind.u8 xa,Value.int IntKind.u8 xb,Value.int IntKind.u8 xe]⟩] (H0 ty n cap c kn xa xb xe s) D:=by
 refine CallSpec.ofQF hη (CallSpec.enter (fr:=(E ty n cap c kn xa xb xe s).fr) (by kernel_rfl) ?_)
 exact walk_okT (h0:=H0 ty n cap c kn xa xb xe s) hη hmix hreg (.steps 10 <| .call kN <| .steps 1 <| .bit 18 (.steps 22 <| .call kN <| .steps 3 <| .done (some ⟨127,[],[(126,(126,true))]⟩)) (.steps 5 <| .bit 23 (.steps 17 <| .call kN <| .steps 3 <| .done (some ⟨127,[],[(126,(126,true))]⟩)) (.steps 1 <| .call kN <| .steps 15 <| .call kN <| .steps 3 <| .done (some ⟨127,[],[(126,(126,true))]⟩)))) (E ty n cap c kn xa xb xe s) (by kernel_rfl) h (by kernel_rfl)
end LINEE2
namespace LINEE3
noncomputable def bd:Code:=(Go.Proofs.Tryd.f6.body).getD .skip
noncomputable def H0(ty:Nat)(n:Nat)(cap:Nat)(c:List Value)(kn:Int)(xa:Int)(xb:Int)(xe:Int)(s:List UInt8):AH:={ objs:=eE nZ (eE nZ (eE nZ (eE nZ (eE nZ (eE nZ (lL (AObj.cells ty c false 0))))))),next:=127 }
noncomputable def E(ty:Nat)(n:Nat)(cap:Nat)(c:List Value)(kn:Int)(xa:Int)(xb:Int)(xe:Int)(s:List UInt8):AS:=⟨⟨6,148,nS (Value.agg ⟨[sS 126 0 n cap,Value.slice none 0 9223372036854775808,iI kn,Value.slice none 0 9223372036854775808]⟩) (lL (Value.string ⟨⟨s⟩⟩)) (lL (Value.agg ⟨[uI xa,uI xb,uI xe]⟩)),[Item.code (codeAt bd [])],[],FrameMode.run,CallKind.normal,none⟩,[],H0 ty n cap c kn xa xb xe s⟩
theorem enter{η:Nat→Value}{B:Bd}(hη:OneCells η)(hmix:prog.follows .mixedOrders=true)(hreg:RegOk η prog B noNest){D:Value→AH→Prop}(ty:Nat)(n:Nat)(cap:Nat)(c:List Value)(kn:Int)(xa:Int)(xb:Int)(xe:Int)(s:List UInt8)(h:let q1:AH:=⟨eE (eE (eE (eE (eE (eE (eE (lL (AObj.cells 26 [sS 126 0 n cap,Value.slice none 0 9223372036854775808,iI kn,Value.slice none 0 9223372036854775808] true 2)) nZ) nZ) nZ) nZ) nZ) nZ) (eE (eE (eE (eE (eE (eE (lL (AObj.cells 46 [uI xa,uI xb,uI xe] true 2)) nZ) nZ) nZ) nZ) nZ) (eE nZ (eE nZ (eE nZ (eE nZ (lL (AObj.cells ty c false 0))))))),129⟩;let q0:W:=(.call 9 [] (q1) (.ret (Value.bool true) (q1)) (.need (NoNames c∧True) (.done 6 (Value.bool true) (H0 ty n cap c kn xa xb xe s))));W.holds η prog B 6 (fun kp_ st_=>RunD η prog B 6 (H0 ty n cap c kn xa xb xe s) kp_ st_ (QF prog 127 D)) D (.call 7 [Value.agg ⟨[Value.slice (some ⟨126,0,none⟩) n cap,Value.slice none 0 9223372036854775808,Value.int IntKind.i64 kn,Value.slice none 0 9223372036854775808]⟩] (q1) (.ret (Value.bool (RG.farB c n [] 0 kn 0)) (q1)) (.ite (RG.farB c n [] (0:Nat) kn (0:Nat)) q0 (.ite (decide ((↑s.length:Int) > (100:Int))) q0 (.call 8 [Value.agg ⟨[Value.slice (some ⟨126,0,none⟩) n cap,Value.slice none 0 9223372036854775808,Value.int IntKind.i64 kn,Value.slice none 0 9223372036854775808]⟩] (q1) (.ret (Value.int IntKind.i64 3) (q1)) q0))))):CallSpec η prog B 6 [Value.agg ⟨[Value.slice (some ⟨126,0,none⟩) n cap,Value.slice none 0 9223372036854775808,Value.int IntKind.i64 kn,Value.slice none 0 9223372036854775808]⟩,Value.string ⟨⟨s⟩⟩,Value.agg ⟨[Value.int IntKind.u8 xa,Value.int IntKind.u8 xb,Value.int IntKind.u8 xe]⟩] (H0 ty n cap c kn xa xb xe s) D:=by
 refine CallSpec.ofQF hη (CallSpec.enter (fr:=(E ty n cap c kn xa xb xe s).fr) (by kernel_rfl) ?_)
 exact walk_okT (h0:=H0 ty n cap c kn xa xb xe s) hη hmix hreg (.steps 10 <| .call kN <| .steps 1 <| .bit 18 (.steps 22 <| .call kN <| .steps 3 <| .done (some ⟨127,[],[(126,(126,true))]⟩)) (.steps 5 <| .bit 23 (.steps 17 <| .call kN <| .steps 3 <| .done (some ⟨127,[],[(126,(126,true))]⟩)) (.steps 1 <| .call kN <| .steps 15 <| .call kN <| .steps 3 <| .done (some ⟨127,[],[(126,(126,true))]⟩)))) (E ty n cap c kn xa xb xe s) (by kernel_rfl) h (by kernel_rfl)
end LINEE3
namespace LIENN3
noncomputable def bd:Code:=(Go.Proofs.Tryd.f6.body).getD .skip
noncomputable def H0(ty':Nat)(ty2:Nat)(n':Nat)(m:Nat)(cap':Nat)(cap2:Nat)(c':List Value)(c2:List Value)(kn:Int)(xa:Int)(xb:Int)(xe:Int)(s:List UInt8):AH:={ objs:=eE (eE (eE (eE (eE (eE (eE (lL (AObj.cells ty2 c2 false 0)) nZ) nZ) nZ) nZ) nZ) nZ) (eE nZ (eE nZ (eE nZ (eE nZ (eE nZ (lL (AObj.cells ty' c' false 0))))))),next:=128 }
noncomputable def E(ty':Nat)(ty2:Nat)(n':Nat)(m:Nat)(cap':Nat)(cap2:Nat)(c':List Value)(c2:List Value)(kn:Int)(xa:Int)(xb:Int)(xe:Int)(s:List UInt8):AS:=⟨⟨6,148,nS (Value.agg ⟨[Value.slice none 0 9223372036854775808,sS 126 0 n' cap',iI kn,sS 127 0 m cap2]⟩) (lL (Value.string ⟨⟨s⟩⟩)) (lL (Value.agg ⟨[uI xa,uI xb,uI xe]⟩)),[Item.code (codeAt bd [])],[],FrameMode.run,CallKind.normal,none⟩,[],H0 ty' ty2 n' m cap' cap2 c' c2 kn xa xb xe s⟩
theorem enter{η:Nat→Value}{B:Bd}(hη:OneCells η)(hmix:prog.follows .mixedOrders=true)(hreg:RegOk η prog B noNest){D:Value→AH→Prop}(ty':Nat)(ty2:Nat)(n':Nat)(m:Nat)(cap':Nat)(cap2:Nat)(c':List Value)(c2:List Value)(kn:Int)(xa:Int)(xb:Int)(xe:Int)(s:List UInt8)(h:let q1:AH:=⟨eE (eE (eE (eE (eE (eE (eE (lL (AObj.cells ty2 c2 false 0)) nZ) nZ) nZ) nZ) nZ) (eE (eE (eE (eE (eE (lL (AObj.cells 46 [uI xa,uI xb,uI xe] true 2)) nZ) nZ) nZ) nZ) nZ)) (eE (eE (eE (eE (eE (eE (lL (AObj.cells 26 [Value.slice none 0 9223372036854775808,sS 126 0 n' cap',iI kn,sS 127 0 m cap2] true 2)) nZ) nZ) nZ) nZ) nZ) (eE nZ (eE nZ (eE nZ (eE nZ (lL (AObj.cells ty' c' false 0))))))),130⟩;let q0:W:=(.call 9 [] (q1) (.ret (Value.bool true) (q1)) (.need (NoNames c'∧NoNames c2∧True) (.done 6 (Value.bool true) (H0 ty' ty2 n' m cap' cap2 c' c2 kn xa xb xe s))));W.holds η prog B 6 (fun kp_ st_=>RunD η prog B 6 (H0 ty' ty2 n' m cap' cap2 c' c2 kn xa xb xe s) kp_ st_ (QF prog 128 D)) D (.call 7 [Value.agg ⟨[Value.slice none 0 9223372036854775808,Value.slice (some ⟨126,0,none⟩) n' cap',Value.int IntKind.i64 kn,Value.slice (some ⟨127,0,none⟩) m cap2]⟩] (q1) (.ret (Value.bool (RG.farB [] 0 c' n' kn m)) (q1)) (.ite (RG.farB [] (0:Nat) c' n' kn m) q0 (.ite (decide ((↑s.length:Int) > (100:Int))) q0 (.call 8 [Value.agg ⟨[Value.slice none 0 9223372036854775808,Value.slice (some ⟨126,0,none⟩) n' cap',Value.int IntKind.i64 kn,Value.slice (some ⟨127,0,none⟩) m cap2]⟩] (q1) (.ret (Value.int IntKind.i64 3) (q1)) q0))))):CallSpec η prog B 6 [Value.agg ⟨[Value.slice none 0 9223372036854775808,Value.slice (some ⟨126,0,none⟩) n' cap',Value.int IntKind.i64 kn,Value.slice (some ⟨127,0,none⟩) m cap2]⟩,Value.string ⟨⟨s⟩⟩,Value.agg ⟨[Value.int IntKind.u8 xa,Value.int IntKind.u8 xb,Value.int IntKind.u8 xe]⟩] (H0 ty' ty2 n' m cap' cap2 c' c2 kn xa xb xe s) D:=by
 refine CallSpec.ofQF hη (CallSpec.enter (fr:=(E ty' ty2 n' m cap' cap2 c' c2 kn xa xb xe s).fr) (by kernel_rfl) ?_)
 exact walk_okT (h0:=H0 ty' ty2 n' m cap' cap2 c' c2 kn xa xb xe s) hη hmix hreg (.steps 10 <| .call kN <| .steps 1 <| .bit 18 (.steps 22 <| .call kN <| .steps 3 <| .done (some ⟨128,[],[(126,(126,true)),(127,(127,true))]⟩)) (.steps 5 <| .bit 23 (.steps 17 <| .call kN <| .steps 3 <| .done (some ⟨128,[],[(126,(126,true)),(127,(127,true))]⟩)) (.steps 1 <| .call kN <| .steps 15 <| .call kN <| .steps 3 <| .done (some ⟨128,[],[(126,(126,true)),(127,(127,true))]⟩)))) (E ty' ty2 n' m cap' cap2 c' c2 kn xa xb xe s) (by kernel_rfl) h (by kernel_rfl)
end LIENN3
namespace LIENE3
noncomputable def bd:Code:=(Go.Proofs.Tryd.f6.body).getD .skip
noncomputable def H0(ty':Nat)(n':Nat)(cap':Nat)(c':List Value)(kn:Int)(xa:Int)(xb:Int)(xe:Int)(s:List UInt8):AH:={ objs:=eE nZ (eE nZ (eE nZ (eE nZ (eE nZ (eE nZ (lL (AObj.cells ty' c' false 0))))))),next:=127 }
noncomputable def E(ty':Nat)(n':Nat)(cap':Nat)(c':List Value)(kn:Int)(xa:Int)(xb:Int)(xe:Int)(s:List UInt8):AS:=⟨⟨6,148,nS (Value.agg ⟨[Value.slice none 0 9223372036854775808,sS 126 0 n' cap',iI kn,Value.slice none 0 9223372036854775808]⟩) (lL (Value.string ⟨⟨s⟩⟩)) (lL (Value.agg ⟨[uI xa,uI xb,uI xe]⟩)),[Item.code (codeAt bd [])],[],FrameMode.run,CallKind.normal,none⟩,[],H0 ty' n' cap' c' kn xa xb xe s⟩
theorem enter{η:Nat→Value}{B:Bd}(hη:OneCells η)(hmix:prog.follows .mixedOrders=true)(hreg:RegOk η prog B noNest){D:Value→AH→Prop}(ty':Nat)(n':Nat)(cap':Nat)(c':List Value)(kn:Int)(xa:Int)(xb:Int)(xe:Int)(s:List UInt8)(h:let q1:AH:=⟨eE (eE (eE (eE (eE (eE (eE (lL (AObj.cells 26 [Value.slice none 0 9223372036854775808,sS 126 0 n' cap',iI kn,Value.slice none 0 9223372036854775808] true 2)) nZ) nZ) nZ) nZ) nZ) nZ) (eE (eE (eE (eE (eE (eE (lL (AObj.cells 46 [uI xa,uI xb,uI xe] true 2)) nZ) nZ) nZ) nZ) nZ) (eE nZ (eE nZ (eE nZ (eE nZ (lL (AObj.cells ty' c' false 0))))))),129⟩;let q0:W:=(.call 9 [] (q1) (.ret (Value.bool true) (q1)) (.need (NoNames c'∧True) (.done 6 (Value.bool true) (H0 ty' n' cap' c' kn xa xb xe s))));W.holds η prog B 6 (fun kp_ st_=>RunD η prog B 6 (H0 ty' n' cap' c' kn xa xb xe s) kp_ st_ (QF prog 127 D)) D (.call 7 [Value.agg ⟨[Value.slice none 0 9223372036854775808,Value.slice (some ⟨126,0,none⟩) n' cap',Value.int IntKind.i64 kn,Value.slice none 0 9223372036854775808]⟩] (q1) (.ret (Value.bool (RG.farB [] 0 c' n' kn 0)) (q1)) (.ite (RG.farB [] (0:Nat) c' n' kn (0:Nat)) q0 (.ite (decide ((↑s.length:Int) > (100:Int))) q0 (.call 8 [Value.agg ⟨[Value.slice none 0 9223372036854775808,Value.slice (some ⟨126,0,none⟩) n' cap',Value.int IntKind.i64 kn,Value.slice none 0 9223372036854775808]⟩] (q1) (.ret (Value.int IntKind.i64 3) (q1)) q0))))):CallSpec η prog B 6 [Value.agg ⟨[Value.slice none 0 9223372036854775808,Value.slice (some ⟨126,0,none⟩) n' cap',Value.int IntKind.i64 kn,Value.slice none 0 9223372036854775808]⟩,Value.string ⟨⟨s⟩⟩,Value.agg ⟨[Value.int IntKind.u8 xa,Value.int IntKind.u8 xb,Value.int IntKind.u8 xe]⟩] (H0 ty' n' cap' c' kn xa xb xe s) D:=by
 refine CallSpec.ofQF hη (CallSpec.enter (fr:=(E ty' n' cap' c' kn xa xb xe s).fr) (by kernel_rfl) ?_)
 exact walk_okT (h0:=H0 ty' n' cap' c' kn xa xb xe s) hη hmix hreg (.steps 10 <| .call kN <| .steps 1 <| .bit 18 (.steps 22 <| .call kN <| .steps 3 <| .done (some ⟨127,[],[(126,(126,true))]⟩)) (.steps 5 <| .bit 23 (.steps 17 <| .call kN <| .steps 3 <| .done (some ⟨127,[],[(126,(126,true))]⟩)) (.steps 1 <| .call kN <| .steps 15 <| .call kN <| .steps 3 <| .done (some ⟨127,[],[(126,(126,true))]⟩)))) (E ty' n' cap' c' kn xa xb xe s) (by kernel_rfl) h (by kernel_rfl)
end LIENE3
namespace LIEEN3
noncomputable def bd:Code:=(Go.Proofs.Tryd.f6.body).getD .skip
noncomputable def H0(ty2:Nat)(m:Nat)(cap2:Nat)(c2:List Value)(kn:Int)(xa:Int)(xb:Int)(xe:Int)(s:List UInt8):AH:={ objs:=eE nZ (eE nZ (eE nZ (eE nZ (eE nZ (eE nZ (lL (AObj.cells ty2 c2 false 0))))))),next:=127 }
noncomputable def E(ty2:Nat)(m:Nat)(cap2:Nat)(c2:List Value)(kn:Int)(xa:Int)(xb:Int)(xe:Int)(s:List UInt8):AS:=⟨⟨6,148,nS (Value.agg ⟨[Value.slice none 0 9223372036854775808,Value.slice none 0 9223372036854775808,iI kn,sS 126 0 m cap2]⟩) (lL (Value.string ⟨⟨s⟩⟩)) (lL (Value.agg ⟨[uI xa,uI xb,uI xe]⟩)),[Item.code (codeAt bd [])],[],FrameMode.run,CallKind.normal,none⟩,[],H0 ty2 m cap2 c2 kn xa xb xe s⟩
theorem enter{η:Nat→Value}{B:Bd}(hη:OneCells η)(hmix:prog.follows .mixedOrders=true)(hreg:RegOk η prog B noNest){D:Value→AH→Prop}(ty2:Nat)(m:Nat)(cap2:Nat)(c2:List Value)(kn:Int)(xa:Int)(xb:Int)(xe:Int)(s:List UInt8)(h:let q1:AH:=⟨eE (eE (eE (eE (eE (eE (eE (lL (AObj.cells 26 [Value.slice none 0 9223372036854775808,Value.slice none 0 9223372036854775808,iI kn,sS 126 0 m cap2] true 2)) nZ) nZ) nZ) nZ) nZ) nZ) (eE (eE (eE (eE (eE (eE (lL (AObj.cells 46 [uI xa,uI xb,uI xe] true 2)) nZ) nZ) nZ) nZ) nZ) (eE nZ (eE nZ (eE nZ (eE nZ (lL (AObj.cells ty2 c2 false 0))))))),129⟩;let q0:W:=(.call 9 [] (q1) (.ret (Value.bool true) (q1)) (.need (NoNames c2∧True) (.done 6 (Value.bool true) (H0 ty2 m cap2 c2 kn xa xb xe s))));W.holds η prog B 6 (fun kp_ st_=>RunD η prog B 6 (H0 ty2 m cap2 c2 kn xa xb xe s) kp_ st_ (QF prog 127 D)) D (.call 7 [Value.agg ⟨[Value.slice none 0 9223372036854775808,Value.slice none 0 9223372036854775808,Value.int IntKind.i64 kn,Value.slice (some ⟨126,0,none⟩) m cap2]⟩] (q1) (.ret (Value.bool (RG.farB [] 0 [] 0 kn m)) (q1)) (.ite (RG.farB [] (0:Nat) [] (0:Nat) kn m) q0 (.ite (decide ((↑s.length:Int) > (100:Int))) q0 (.call 8 [Value.agg ⟨[Value.slice none 0 9223372036854775808,Value.slice none 0 9223372036854775808,Value.int IntKind.i64 kn,Value.slice (some ⟨126,0,none⟩) m cap2]⟩] (q1) (.ret (Value.int IntKind.i64 3) (q1)) q0))))):CallSpec η prog B 6 [Value.agg ⟨[Value.slice none 0 9223372036854775808,Value.slice none 0 9223372036854775808,Value.int IntKind.i64 kn,Value.slice (some ⟨126,0,none⟩) m cap2]⟩,Value.string ⟨⟨s⟩⟩,Value.agg ⟨[Value.int IntKind.u8 xa,Value.int IntKind.u8 xb,Value.int IntKind.u8 xe]⟩] (H0 ty2 m cap2 c2 kn xa xb xe s) D:=by
 refine CallSpec.ofQF hη (CallSpec.enter (fr:=(E ty2 m cap2 c2 kn xa xb xe s).fr) (by kernel_rfl) ?_)
 exact walk_okT (h0:=H0 ty2 m cap2 c2 kn xa xb xe s) hη hmix hreg (.steps 10 <| .call kN <| .steps 1 <| .bit 18 (.steps 22 <| .call kN <| .steps 3 <| .done (some ⟨127,[],[(126,(126,true))]⟩)) (.steps 5 <| .bit 23 (.steps 17 <| .call kN <| .steps 3 <| .done (some ⟨127,[],[(126,(126,true))]⟩)) (.steps 1 <| .call kN <| .steps 15 <| .call kN <| .steps 3 <| .done (some ⟨127,[],[(126,(126,true))]⟩)))) (E ty2 m cap2 c2 kn xa xb xe s) (by kernel_rfl) h (by kernel_rfl)
end LIEEN3
namespace LIEEE3
noncomputable def bd:Code:=(Go.Proofs.Tryd.f6.body).getD .skip
noncomputable def H0(kn:Int)(xa:Int)(xb:Int)(xe:Int)(s:List UInt8):AH:={ objs:=nZ,next:=126 }
noncomputable def E(kn:Int)(xa:Int)(xb:Int)(xe:Int)(s:List UInt8):AS:=⟨⟨6,148,nS (Value.agg ⟨[Value.slice none 0 9223372036854775808,Value.slice none 0 9223372036854775808,iI kn,Value.slice none 0 9223372036854775808]⟩) (lL (Value.string ⟨⟨s⟩⟩)) (lL (Value.agg ⟨[uI xa,uI xb,uI xe]⟩)),[Item.code (codeAt bd [])],[],FrameMode.run,CallKind.normal,none⟩,[],H0 kn xa xb xe s⟩
theorem enter{η:Nat→Value}{B:Bd}(hη:OneCells η)(hmix:prog.follows .mixedOrders=true)(hreg:RegOk η prog B noNest){D:Value→AH→Prop}(kn:Int)(xa:Int)(xb:Int)(xe:Int)(s:List UInt8)(h:let q1:AH:=⟨eE (eE (eE (eE (eE (eE (eE (lL (AObj.cells 46 [uI xa,uI xb,uI xe] true 2)) nZ) nZ) nZ) nZ) nZ) nZ) (eE nZ (eE nZ (eE nZ (eE nZ (eE nZ (lL (AObj.cells 26 [Value.slice none 0 9223372036854775808,Value.slice none 0 9223372036854775808,iI kn,Value.slice none 0 9223372036854775808] true 2))))))),128⟩;let q0:W:=(.call 9 [] (q1) (.ret (Value.bool true) (q1)) (.need (True) (.done 6 (Value.bool true) (H0 kn xa xb xe s))));W.holds η prog B 6 (fun kp_ st_=>RunD η prog B 6 (H0 kn xa xb xe s) kp_ st_ (QF prog 126 D)) D (.call 7 [Value.agg ⟨[Value.slice none 0 9223372036854775808,Value.slice none 0 9223372036854775808,Value.int IntKind.i64 kn,Value.slice none 0 9223372036854775808]⟩] (q1) (.ret (Value.bool false) (q1)) (.ite (decide ((↑s.length:Int) > (100:Int))) q0 (.call 8 [Value.agg ⟨[Value.slice none 0 9223372036854775808,Value.slice none 0 9223372036854775808,Value.int IntKind.i64 kn,Value.slice none 0 9223372036854775808]⟩] (q1) (.ret (Value.int IntKind.i64 3) (q1)) q0)))):CallSpec η prog B 6 [Value.agg ⟨[Value.slice none 0 9223372036854775808,Value.slice none 0 9223372036854775808,Value.int IntKind.i64 kn,Value.slice none 0 9223372036854775808]⟩,Value.string ⟨⟨s⟩⟩,Value.agg ⟨[Value.int IntKind.u8 xa,Value.int IntKind.u8 xb,Value.int IntKind.u8 xe]⟩] (H0 kn xa xb xe s) D:=by
 refine CallSpec.ofQF hη (CallSpec.enter (fr:=(E kn xa xb xe s).fr) (by kernel_rfl) ?_)
 exact walk_okT (h0:=H0 kn xa xb xe s) hη hmix hreg (.steps 10 <| .call kN <| .steps 6 <| .bit 23 (.steps 17 <| .call kN <| .steps 3 <| .done (some ⟨126,[],[]⟩)) (.steps 1 <| .call kN <| .steps 15 <| .call kN <| .steps 3 <| .done (some ⟨126,[],[]⟩))) (E kn xa xb xe s) (by kernel_rfl) h (by kernel_rfl)
end LIEEE3
end Go.Ev

/- Rings of backends: the law of an idle backend where names or weights are empty (written by mkRGI.py). -/
namespace Go.Ev
open Go Go.Proofs
variable {η:Nat→Value} {B:Bd}
namespace RG
set_option maxHeartbeats 2000000 in
theorem idleENN_can(hη:OneCells η)(hmix:Tryd.prog.follows .mixedOrders=true){ty' ty2 n' m cap' cap2:Nat}{c' c2:List Value}{k xa xb xe:Int}{s:List UInt8}(hc':RowI c' 0 n')(hp2:c2.all bareV=true) :
  CallSpec η Tryd.prog B 6 [.agg ⟨[.slice none 0 9223372036854775808,.slice (some ⟨126,0,none⟩) n' cap',.int .i64 k,.slice (some ⟨127,0,none⟩) m cap2]⟩,.string ⟨⟨s⟩⟩,.agg ⟨[.int .u8 xa,.int .u8 xb,.int .u8 xe]⟩] (heapT [(ty',c'),(ty2,c2)]) fun v _=>v = .bool true:=by
 have kf:=fun (H:AH) q0 q1=>farENN_any (B:=B) (H:=H) (r':=126) (ty':=ty') (own':=0) (cap':=cap') (n':=n') (r2:=127) (ty2:=ty2) (own2:=0) (cap2:=cap2) (m:=m) (k:=k) hη hmix q0 q1 (by decide) hc' hp2
 have aw:=fun (H:AH)=>FN.awake_ok (B:=B) hη hmix H
 refine LIENN3.enter hη hmix (reg0 hη hmix) ty' ty2 n' m cap' cap2 c' c2 k xa xb xe s ?_
 simp only [W.holds,true_and,and_true,true_implies,decide_eq_true_eq,decide_eq_false_iff_not,eq_self,implies_true,forall_const]
 exact⟨kf _ (by kernel_rfl) (by kernel_rfl),fun _=>⟨aw _,⟨nn_of hc'.1,nn_of hp2⟩⟩,fun _=>⟨fun _=>⟨aw _,⟨nn_of hc'.1,nn_of hp2⟩⟩,fun _=>⟨ckZ_any hη hmix rfl rfl,⟨aw _,⟨nn_of hc'.1,nn_of hp2⟩⟩⟩⟩⟩
set_option maxHeartbeats 2000000 in
theorem idleENE_can(hη:OneCells η)(hmix:Tryd.prog.follows .mixedOrders=true){ty' n' cap':Nat}{c':List Value}{k xa xb xe:Int}{s:List UInt8}(hc':RowI c' 0 n') :
  CallSpec η Tryd.prog B 6 [.agg ⟨[.slice none 0 9223372036854775808,.slice (some ⟨126,0,none⟩) n' cap',.int .i64 k,.slice none 0 9223372036854775808]⟩,.string ⟨⟨s⟩⟩,.agg ⟨[.int .u8 xa,.int .u8 xb,.int .u8 xe]⟩] (heapT [(ty',c')]) fun v _=>v = .bool true:=by
 have kf:=fun (H:AH) q0=>farENE_any (B:=B) (H:=H) (r':=126) (ty':=ty') (own':=0) (cap':=cap') (n':=n') (k:=k) hη hmix q0 hc'
 have aw:=fun (H:AH)=>FN.awake_ok (B:=B) hη hmix H
 refine LIENE3.enter hη hmix (reg0 hη hmix) ty' n' cap' c' k xa xb xe s ?_
 simp only [W.holds,true_and,and_true,true_implies,decide_eq_true_eq,decide_eq_false_iff_not,eq_self,implies_true,forall_const]
 exact⟨kf _ (by kernel_rfl),fun _=>⟨aw _,nn_of hc'.1⟩,fun _=>⟨fun _=>⟨aw _,nn_of hc'.1⟩,fun _=>⟨ckZ_any hη hmix rfl rfl,⟨aw _,nn_of hc'.1⟩⟩⟩⟩
set_option maxHeartbeats 2000000 in
theorem idleEEN_can(hη:OneCells η)(hmix:Tryd.prog.follows .mixedOrders=true){ty2 m cap2:Nat}{c2:List Value}{k xa xb xe:Int}{s:List UInt8}(hp2:c2.all bareV=true) :
  CallSpec η Tryd.prog B 6 [.agg ⟨[.slice none 0 9223372036854775808,.slice none 0 9223372036854775808,.int .i64 k,.slice (some ⟨126,0,none⟩) m cap2]⟩,.string ⟨⟨s⟩⟩,.agg ⟨[.int .u8 xa,.int .u8 xb,.int .u8 xe]⟩] (heapT [(ty2,c2)]) fun v _=>v = .bool true:=by
 have kf:=fun (H:AH) q0=>farEEN_any (B:=B) (H:=H) (r2:=126) (ty2:=ty2) (own2:=0) (cap2:=cap2) (m:=m) (k:=k) hη hmix q0 hp2
 have aw:=fun (H:AH)=>FN.awake_ok (B:=B) hη hmix H
 refine LIEEN3.enter hη hmix (reg0 hη hmix) ty2 m cap2 c2 k xa xb xe s ?_
 simp only [W.holds,true_and,and_true,true_implies,decide_eq_true_eq,decide_eq_false_iff_not,eq_self,implies_true,forall_const]
 exact⟨kf _ (by kernel_rfl),fun _=>⟨aw _,nn_of hp2⟩,fun _=>⟨fun _=>⟨aw _,nn_of hp2⟩,fun _=>⟨ckZ_any hη hmix rfl rfl,⟨aw _,nn_of hp2⟩⟩⟩⟩
set_option maxHeartbeats 2000000 in
theorem idleEEE_can(hη:OneCells η)(hmix:Tryd.prog.follows .mixedOrders=true){k xa xb xe:Int}{s:List UInt8} :
  CallSpec η Tryd.prog B 6 [.agg ⟨[.slice none 0 9223372036854775808,.slice none 0 9223372036854775808,.int .i64 k,.slice none 0 9223372036854775808]⟩,.string ⟨⟨s⟩⟩,.agg ⟨[.int .u8 xa,.int .u8 xb,.int .u8 xe]⟩] (heapT []) fun v _=>v = .bool true:=by
 have kf:=fun (H:AH)=>farEEE_any (B:=B) (H:=H) (k:=k) hη hmix
 rw [show farB [] 0 [] 0 k 0=false by unfold farB;rfl] at kf
 have aw:=fun (H:AH)=>FN.awake_ok (B:=B) hη hmix H
 refine LIEEE3.enter hη hmix (reg0 hη hmix) k xa xb xe s ?_
 simp only [W.holds,true_and,and_true,true_implies,decide_eq_true_eq,decide_eq_false_iff_not,eq_self,implies_true,forall_const]
 exact⟨kf _,fun _=>aw _,fun _=>⟨ckZ_any hη hmix rfl rfl,aw _⟩⟩
set_option maxHeartbeats 2000000 in
theorem idleNEN_can(hη:OneCells η)(hmix:Tryd.prog.follows .mixedOrders=true){ty ty2 n m cap cap2:Nat}{c c2:List Value}{k xa xb xe:Int}{s:List UInt8}(hc:RowS c 0 n)(hp2:c2.all bareV=true) :
  CallSpec η Tryd.prog B 6 [.agg ⟨[.slice (some ⟨126,0,none⟩) n cap,.slice none 0 9223372036854775808,.int .i64 k,.slice (some ⟨127,0,none⟩) m cap2]⟩,.string ⟨⟨s⟩⟩,.agg ⟨[.int .u8 xa,.int .u8 xb,.int .u8 xe]⟩] (heapT [(ty,c),(ty2,c2)]) fun v _=>v = .bool true:=by
 have kf:=fun (H:AH) q0 q1=>farNEN_any (B:=B) (H:=H) (r:=126) (ty:=ty) (own:=0) (cap:=cap) (n:=n) (r2:=127) (ty2:=ty2) (own2:=0) (cap2:=cap2) (m:=m) (k:=k) hη hmix q0 q1 (by decide) hc hp2
 have aw:=fun (H:AH)=>FN.awake_ok (B:=B) hη hmix H
 have kc:=fun (H:AH) q=>ckW_any (B:=B) (H:=H) (r:=126) (ty:=ty) (own:=0) (n:=n) (cap:=cap) (k:=k) (pv:=.slice (some ⟨127,0,none⟩) m cap2) hη hmix q hc rfl
 by_cases h:n=0∨16<n
 ·rw [show chE n=3 by unfold chE;rw [if_pos h]] at kc
  refine LINEN3.enter hη hmix (reg0 hη hmix) ty ty2 n m cap cap2 c c2 k xa xb xe s ?_
  simp only [W.holds,true_and,and_true,true_implies,decide_eq_true_eq,decide_eq_false_iff_not,eq_self,implies_true,forall_const]
  exact⟨kf _ (by kernel_rfl) (by kernel_rfl),fun _=>⟨aw _,⟨nn_of hc.1,nn_of hp2⟩⟩,fun _=>⟨fun _=>⟨aw _,⟨nn_of hc.1,nn_of hp2⟩⟩,fun _=>⟨kc _ (by kernel_rfl),⟨aw _,⟨nn_of hc.1,nn_of hp2⟩⟩⟩⟩⟩
 ·rw [show chE n=2 by unfold chE;rw [if_neg h]] at kc
  refine LINEN2.enter hη hmix (reg0 hη hmix) ty ty2 n m cap cap2 c c2 k xa xb xe s ?_
  simp only [W.holds,true_and,and_true,true_implies,decide_eq_true_eq,decide_eq_false_iff_not,eq_self,implies_true,forall_const]
  exact⟨kf _ (by kernel_rfl) (by kernel_rfl),fun _=>⟨aw _,⟨nn_of hc.1,nn_of hp2⟩⟩,fun _=>⟨fun _=>⟨aw _,⟨nn_of hc.1,nn_of hp2⟩⟩,fun _=>⟨kc _ (by kernel_rfl),⟨aw _,⟨nn_of hc.1,nn_of hp2⟩⟩⟩⟩⟩
set_option maxHeartbeats 2000000 in
theorem idleNEE_can(hη:OneCells η)(hmix:Tryd.prog.follows .mixedOrders=true){ty n cap:Nat}{c:List Value}{k xa xb xe:Int}{s:List UInt8}(hc:RowS c 0 n) :
  CallSpec η Tryd.prog B 6 [.agg ⟨[.slice (some ⟨126,0,none⟩) n cap,.slice none 0 9223372036854775808,.int .i64 k,.slice none 0 9223372036854775808]⟩,.string ⟨⟨s⟩⟩,.agg ⟨[.int .u8 xa,.int .u8 xb,.int .u8 xe]⟩] (heapT [(ty,c)]) fun v _=>v = .bool true:=by
 have kf:=fun (H:AH) q0=>farNEE_any (B:=B) (H:=H) (r:=126) (ty:=ty) (own:=0) (cap:=cap) (n:=n) (k:=k) hη hmix q0 hc
 have aw:=fun (H:AH)=>FN.awake_ok (B:=B) hη hmix H
 have kc:=fun (H:AH) q=>ckW_any (B:=B) (H:=H) (r:=126) (ty:=ty) (own:=0) (n:=n) (cap:=cap) (k:=k) (pv:=.slice none 0 9223372036854775808) hη hmix q hc rfl
 by_cases h:n=0∨16<n
 ·rw [show chE n=3 by unfold chE;rw [if_pos h]] at kc
  refine LINEE3.enter hη hmix (reg0 hη hmix) ty n cap c k xa xb xe s ?_
  simp only [W.holds,true_and,and_true,true_implies,decide_eq_true_eq,decide_eq_false_iff_not,eq_self,implies_true,forall_const]
  exact⟨kf _ (by kernel_rfl),fun _=>⟨aw _,nn_of hc.1⟩,fun _=>⟨fun _=>⟨aw _,nn_of hc.1⟩,fun _=>⟨kc _ (by kernel_rfl),⟨aw _,nn_of hc.1⟩⟩⟩⟩
 ·rw [show chE n=2 by unfold chE;rw [if_neg h]] at kc
  refine LINEE2.enter hη hmix (reg0 hη hmix) ty n cap c k xa xb xe s ?_
  simp only [W.holds,true_and,and_true,true_implies,decide_eq_true_eq,decide_eq_false_iff_not,eq_self,implies_true,forall_const]
  exact⟨kf _ (by kernel_rfl),fun _=>⟨aw _,nn_of hc.1⟩,fun _=>⟨fun _=>⟨aw _,nn_of hc.1⟩,fun _=>⟨kc _ (by kernel_rfl),⟨aw _,nn_of hc.1⟩⟩⟩⟩
end RG
end Go.Ev

namespace Go.Ev
open Go Go.RowKit Go.ChangeShapes Go.WideShapes
variable {P:Program}
def NoLie(P:Program)(T e:TypeId):Prop:=∀ count off n,liesAt P P.depth T count off e n=false
theorem rowAt_no{fits:TypeId→Bool}{row el:TypeId}{m:Nat}{k:IntKind}(h1:P.underlying row=some (.array m el))(h2:P.underlying el=some (.int k))(f1:fits row=false)(f2:fits el=false):∀ d count off n,rowAt P fits d row count off n=false:=by
 have inner:∀ d count off n,rowAt P fits d el count off n=false:=by
  intro d count off n
  cases d with
  | zero=>rfl
  | succ d=>
   unfold rowAt
   simp only [f2,Bool.and_false,Bool.false_or,h2]
   split <;> rfl
 intro d count off n
 cases d with
 | zero=>rfl
 | succ d=>
  unfold rowAt
  simp only [f1,Bool.and_false,Bool.false_or,h1,inner]
  split <;> rfl
theorem NoLie.of{T el e:TypeId}{m:Nat}{k:IntKind}(h1:P.underlying T=some (.array m el))(h2:P.underlying el=some (.int k))(f1:sameLayout P P.depth T e=false)(f2:sameLayout P P.depth el e=false)(he:(match P.underlying e with | some (.array _ _)=>false | _=>true)=true):NoLie P T e:=by
 intro count off n
 generalize hd:P.depth=d at *
 cases d with
 | zero=>rfl
 | succ d=>
  unfold liesAt
  rw [hd,rowAt_no h1 h2 (fits:=fun x=>sameLayout P (d+1) x e) f1 f2]
  split
  ·rename_i q;rw [q] at he;cases he
  ·rfl
def RArg(T:TypeId)(W:World)(v:Value)(n:Nat)(c:List Value):Prop:=
 (n=0∧∃ a cp,v = .slice a 0 cp)∨(0<n∧∃ blk o cap ty,v = .slice (some ⟨blk,o,none⟩) n cap∧isU cap=false∧n≤cap∧ty ≠ T∧RowAt W ⟨ty,c,blk,o⟩)
theorem has_row{T e:TypeId}{w:World}{r:Reach}{base n:Nat}{a:Addr}(hT:NoLie P T e)(h:w.has P r base a e n):a.spot=none∧∃ (C:Array Value) (ty:TypeId) (lo hi:Nat),w.heap[a.block]? = some (.cells C ty (lo,hi))∧ty ≠ T:=by
 obtain⟨_,hs,row,cells,hsh,hl⟩:=h
 refine⟨hs,?_⟩
 unfold World.shape? at hsh
 split at hsh
 ·rename_i C ty fr hh
  obtain⟨lo,hi⟩:=fr
  injection hsh with hsh
  injection hsh with h1 h2
  refine⟨C,ty,lo,hi,hh,fun q=>?_⟩
  rw [← h1,q,hT] at hl;cases hl
 ·cases hsh
theorem cap_le{w:World}{r:Reach}{b0:Nat}{t e:TypeId}{a:Addr}{n c:Nat}(hu:P.underlying t=some (.slice e))(h:Value.okWide P w r b0 t (.slice (some a) n c)):n≤c:=by
 simp only [Value.okWide,hu,Cell.okWide,Cell.ok] at h
 exact h.1
theorem open_row1{T t e:TypeId}{Q:Value→Prop}(hu:P.underlying t=some (.slice e))(hC:P.cellsOf e=1)(hT:NoLie P T e)
  {H:Type} {enc:TypeId × Value→H} {W:World} {r:Reach} {b0 base:Nat} {sp:Nat→Bool} {held:Bool} {v:Value} {d:DataW H} {ps:List MemPlace}
  (hQ:∀ fuel u x,DataW.trod enc P W base sp held fuel e [u]=some x→Q u) (hB:∀ u,Q u→bareV u=true)
  (hval:Value.okWide P W r b0 t v) (h:DataW.Trod enc P W base sp held t v d ps):∃ n c,RArg T W v n c∧c.length=n∧∀ u,u ∈ c→Q u:=by
 obtain⟨p,n,c,rfl⟩:=okWide_slice hu hval
 obtain⟨fuel,hf⟩:=h
 rw [cells_slice'] at hf
 rcases Go.Deep.open_slice1 hu hC hf with⟨hn,_⟩ | ⟨a,len,cap,m,q,V,D,Pl,hcs,hb,hl,hm,hmm,hx,hi⟩
 ·simp at hn
  obtain⟨rfl,rfl,rfl⟩:=hn
  exact⟨0,[],.inl ⟨rfl,_,_,rfl⟩,rfl,fun u hu=>by cases hu⟩
 ·simp at hcs
  obtain⟨rfl,rfl,rfl⟩:=hcs
  cases n with
  | zero=>exact⟨0,[],.inl ⟨rfl,_,_,rfl⟩,rfl,fun u hu=>by cases hu⟩
  | succ n=>
  obtain⟨hsp,C,ty,lo,hi',hblk,hty⟩:=has_row hT (has_of_slice' hu hval)
  have hcl:=cap_le hu hval
  obtain⟨b,o,spot⟩:=a
  simp only at hsp hblk
  subst hsp
  have hlm:n+1≤m:=by rw [hmm];split <;> omega
  refine⟨n+1,(List.range (n+1)).map V,.inr ⟨by omega,b,o,c,ty,rfl,notU hm,hcl,hty,row_at hblk (fun i v hv=>?_) ?_ (by simp)⟩,by simp,fun u hu=>?_⟩
  ·rw [List.getElem?_map,Option.map_eq_some_iff] at hv
   obtain⟨j,hj,rfl⟩:=hv
   rw [List.getElem?_eq_some_iff] at hj
   obtain⟨hj1,rfl⟩:=hj
   rw [List.length_range] at hj1
   rw [List.getElem_range]
   simpa [Go.WideShapes.add_plain] using (hi i (by omega)).1
  ·rw [List.all_eq_true]
   intro u hu
   rw [List.mem_map] at hu
   obtain⟨i,hi1,rfl⟩:=hu
   rw [List.mem_range] at hi1
   exact hB _ (hQ _ _ _ (hi i (by omega)).2)
  ·rw [List.mem_map] at hu
   obtain⟨i,hi1,rfl⟩:=hu
   rw [List.mem_range] at hi1
   exact hQ _ _ _ (hi i (by omega)).2
def prs{α:Type}(f g:α→Value):List α→List Value
 | []=>[]
 | p :: l=>f p :: g p :: prs f g l
theorem prs_len{α:Type}{f g:α→Value}:∀ l:List α,(prs f g l).length=2 * l.length
 | []=>rfl
 | p :: l=>by unfold prs;simp only [List.length_cons,prs_len l];omega
theorem prs_at{α:Type}{f g:α→Value}:∀ {l:List α} {i:Nat} (h:i<l.length),(prs f g l)[2 * i]? = some (f l[i])∧(prs f g l)[2 * i+1]? = some (g l[i])
 | [],i,h=>by simp at h
 | p :: l,0,h=>⟨rfl,rfl⟩
 | p :: l,i+1,h=>by
  have:=prs_at (f:=f) (g:=g) (l:=l) (i:=i) (by simpa using h)
  unfold prs
  rw [show 2 * (i+1)=2 * i+1+1 by omega,List.getElem?_cons_succ,List.getElem?_cons_succ,List.getElem?_cons_succ,List.getElem?_cons_succ]
  exact this
theorem prs_bare{α:Type}{f g:α→Value}(hf:∀ p,bareV (f p)=true)(hg:∀ p,bareV (g p)=true):∀ l:List α,(prs f g l).all bareV=true
 | []=>rfl
 | p :: l=>by unfold prs;rw [List.all_cons,List.all_cons,hf,hg,prs_bare hf hg l];rfl
theorem open_row2{α:Type}[Inhabited α]{f g:α→Value}{T t e:TypeId}{f0 f1:Field}(hu:P.underlying t=some (.slice e))(he:P.underlying e=some (.struct #[f0,f1]))
  (o0:f0.offset=0) (o1:f1.offset=1) (c0:P.cellsOf f0.type=1) (c1:P.cellsOf f1.type=1) (hC:P.cellsOf e=2) (hT:NoLie P T e)
  {H:Type} {enc:TypeId × Value→H} {W:World} {r:Reach} {b0 base:Nat} {sp:Nat→Bool} {held:Bool} {v:Value} {d:DataW H} {ps:List MemPlace}
  (hQ:∀ fuel u x u' x',DataW.trod enc P W base sp held fuel f0.type [u]=some x→DataW.trod enc P W base sp held fuel f1.type [u']=some x'→∃ p,u=f p∧u'=g p) (hf':∀ p,bareV (f p)=true) (hg':∀ p,bareV (g p)=true)
  (hval:Value.okWide P W r b0 t v) (h:DataW.Trod enc P W base sp held t v d ps):∃ l:List α,RArg T W v l.length (prs f g l):=by
 obtain⟨p,n,c,rfl⟩:=okWide_slice hu hval
 obtain⟨fuel,hf⟩:=h
 rw [cells_slice'] at hf
 rcases Go.Deep.open_slice hu hf with⟨hn,_⟩ | ⟨a,len,cap,m,k,D,Pl,hcs,hb,hl,hm,hmm,hx,hi⟩
 ·simp at hn
  obtain⟨rfl,rfl,rfl⟩:=hn
  exact⟨[],.inl ⟨rfl,_,_,rfl⟩⟩
 ·simp at hcs
  obtain⟨rfl,rfl,rfl⟩:=hcs
  cases n with
  | zero=>exact⟨[],.inl ⟨rfl,_,_,rfl⟩⟩
  | succ n=>
  obtain⟨hsp,C,ty,lo,hi',hblk,hty⟩:=has_row hT (has_of_slice' hu hval)
  have hcl:=cap_le hu hval
  obtain⟨b,o,spot⟩:=a
  simp only at hsp hblk
  subst hsp
  have hlm:n+1≤m:=by rw [hmm];split <;> omega
  have hel:∀ i,i<n+1→∃ p:α,W.cell? ⟨b,o+i * 2,none⟩=some (f p)∧W.cell? ⟨b,o+i * 2+1,none⟩=some (g p):=by
   intro i him
   obtain⟨cs,hc,ht⟩:=hi i (by omega)
   rw [hC] at hc
   obtain⟨_,hcl,hat⟩:=World.cells?_some hc
   obtain⟨xs,k',_,_,_,hxl,hg⟩:=DataW.trod_struct he ht
   have g0:=hg 0 f0 rfl
   have g1:=hg 1 f1 rfl
   rw [o0,c0] at g0
   rw [o1,c1] at g1
   match cs,hcl with
   | [u0,u1],_=>
    have hx0:xs[0]? = some (xs[0]'(by simp at hxl;omega)):=List.getElem?_eq_getElem _
    have hx1:xs[1]? = some (xs[1]'(by simp at hxl;omega)):=List.getElem?_eq_getElem _
    rw [hx0] at g0
    rw [hx1] at g1
    obtain⟨p,e0',e1'⟩:=hQ _ _ _ _ _ g0 g1
    have e0:=hat 0 (by omega)
    have e1:=hat 1 (by omega)
    simp at e0 e1
    refine⟨p,?_,?_⟩
    ·rw [← e0'];simpa [Go.WideShapes.add_plain] using e0
    ·rw [← e1'];simpa [Go.WideShapes.add_plain,Nat.add_assoc] using e1
  obtain⟨F,hF⟩:=Go.Deep.choose_lt hel
  refine⟨(List.range (n+1)).map F,?_⟩
  have hlen:((List.range (n+1)).map F).length=n+1:=by simp
  rw [hlen]
  refine .inr ⟨by omega,b,o,c,ty,rfl,notU hm,hcl,hty,row_at hblk (fun i v hv=>?_) (prs_bare hf' hg' _) (by rw [List.range_succ_eq_map];simp [prs])⟩
  have hil:i<2 * (n+1):=by
   have:=(List.getElem?_eq_some_iff.1 hv).1
   rw [prs_len,hlen] at this;exact this
  obtain⟨q1,q2⟩:=prs_at (f:=f) (g:=g) (l:=(List.range (n+1)).map F) (i:=i / 2) (by rw [hlen];omega)
  rw [List.getElem_map,List.getElem_range] at q1 q2
  obtain⟨w1,w2⟩:=hF (i / 2) (by omega)
  rcases Nat.mod_two_eq_zero_or_one i with hm0 | hm1
  ·rw [show 2 * (i / 2)=i by omega] at q1
   rw [q1] at hv;injection hv with hv;subst hv
   rw [show o+i=o+i / 2 * 2 by omega];exact w1
  ·rw [show 2 * (i / 2)+1=i by omega] at q2
   rw [q2] at hv;injection hv with hv;subst hv
   rw [show o+i=o+i / 2 * 2+1 by omega];exact w2
theorem struct_cell{t:TypeId}{fs:Array Field}{ts:List TypeId}(hu:P.underlying t=some (.struct fs))(hts:P.cellTypes P.depth t=some ts){W:World}{r:Reach}{b0:Nat}{cs:Array Value}(hval:Value.okWide P W r b0 t (.agg cs))(hl:cs.size=ts.length){i:Nat}{u:TypeId}{v:Value}(h1:ts[i]? = some u)(h2:cs[i]? = some v):Cell.okWide P W r b0 u v:=by
 simp only [Value.okWide,hu] at hval
 obtain⟨cs',e,_,hr⟩:=hval
 injection e with e
 subst e
 obtain⟨ts',hts',_,hc⟩:=hr
 rw [hts] at hts'
 injection hts' with hts'
 subst hts'
 obtain⟨u',hu',ho⟩:=hc i v h2
 have hi:i<ts.length:=(List.getElem?_eq_some_iff.1 h1).1
 rw [Nat.mod_eq_of_lt hi,h1] at hu'
 injection hu' with hu'
 subst hu';exact ho
theorem slice_okWide{W:World}{r:Reach}{b0:Nat}{t e:TypeId}{v:Value}(hu:P.underlying t=some (.slice e))(h:Cell.okWide P W r b0 t v):Value.okWide P W r b0 t v:=by
 unfold Value.okWide
 rw [hu];exact h
theorem wf_u8{n:Int}(h:(Lit.int .u8 n).wf=true):0≤n∧n<256:=by
 have e1:IntKind.u8.min=0:=by decide
 have e2:IntKind.u8.max=255:=by decide
 simp only [Lit.wf,Bool.and_eq_true,decide_eq_true_eq,e1,e2] at h
 omega
theorem open_arr3{t e:TypeId}(hu:P.underlying t=some (.array 3 e))(he:P.underlying e=some (.int .u8))(hC:P.cellsOf e=1)(hT:P.cellsOf t=3)
  {H:Type} {enc:TypeId × Value→H} {W:World} {r:Reach} {b0 base:Nat} {sp:Nat→Bool} {held:Bool} {v:Value} {d:DataW H} {ps:List MemPlace}
  (hval:Value.okWide P W r b0 t v) (h:DataW.Trod enc P W base sp held t v d ps):∃ y0 y1 y2:Int,v = .agg ⟨[.int .u8 y0,.int .u8 y1,.int .u8 y2]⟩∧(0≤y0∧y0<256)∧(0≤y1∧y1<256)∧(0≤y2∧y2<256):=by
 simp only [Value.okWide,hu] at hval
 obtain⟨cs,rfl,hsz,_⟩:=hval
 obtain⟨l⟩:=cs
 obtain⟨fuel,hf⟩:=h
 cases fuel with
 | zero=>simp [DataW.trod] at hf
 | succ m=>
  rw [DataW.trod_step] at hf
  unfold DataW.trodStep at hf
  simp only [hu,Value.cells] at hf
  rw [hT] at hsz
  rw [if_pos (by rw [hT];simpa using hsz)] at hf
  simp only [Option.map_eq_some_iff] at hf
  obtain⟨ys,hy,_⟩:=hf
  rw [hC] at hy
  have e2:List.range 3=[0,1,2]:=rfl
  rw [e2,List.mapM_cons] at hy
  simp only [bind,Option.bind_eq_some_iff,pure] at hy
  obtain⟨y,h0,ys',h1,_⟩:=hy
  rw [List.mapM_cons] at h1
  simp only [bind,Option.bind_eq_some_iff,pure] at h1
  obtain⟨z,h1,ys'',h2,_⟩:=h1
  rw [List.mapM_cons] at h2
  simp only [bind,Option.bind_eq_some_iff,pure] at h2
  obtain⟨z2,h2,_⟩:=h2
  obtain⟨a,ea,_,wa⟩:=DataW.trod_int he h0
  obtain⟨b,eb,_,wb⟩:=DataW.trod_int he h1
  obtain⟨c,ec,_,wc⟩:=DataW.trod_int he h2
  refine⟨a,b,c,?_,wf_u8 wa,wf_u8 wb,wf_u8 wc⟩
  have hl:l.length=3:=by simpa using hsz
  match l,hl with
  | [p,q,o],_=>
   simp at ea eb ec
   rw [ea,eb,ec]
end Go.Ev

/- Rings of backends: the law of an idle backend, over the world. -/
namespace Go.Ev
open Go Go.Proofs Go.RowKit
variable {η:Nat→Value} {B:Bd}
theorem VR.agg4{ρ:Env}{a0 a1 a2 a3 x0 x1 x2 x3:Value}(h0:VR η ρ a0 x0)(h1:VR η ρ a1 x1)(h2:VR η ρ a2 x2)(h3:VR η ρ a3 x3):VR η ρ (.agg ⟨[a0,a1,a2,a3]⟩) (.agg ⟨[x0,x1,x2,x3]⟩):=by
 refine .agg rfl fun i v y e1 e2=>?_
 match i,e1,e2 with
 | 0,e1,e2=>simp at e1 e2;subst e1;subst e2;exact h0
 | 1,e1,e2=>simp at e1 e2;subst e1;subst e2;exact h1
 | 2,e1,e2=>simp at e1 e2;subst e1;subst e2;exact h2
 | 3,e1,e2=>simp at e1 e2;subst e1;subst e2;exact h3
 | i+4,e1,e2=>simp at e1
theorem VR.agg3{ρ:Env}{a0 a1 a2 x0 x1 x2:Value}(h0:VR η ρ a0 x0)(h1:VR η ρ a1 x1)(h2:VR η ρ a2 x2):VR η ρ (.agg ⟨[a0,a1,a2]⟩) (.agg ⟨[x0,x1,x2]⟩):=by
 refine .agg rfl fun i v y e1 e2=>?_
 match i,e1,e2 with
 | 0,e1,e2=>simp at e1 e2;subst e1;subst e2;exact h0
 | 1,e1,e2=>simp at e1 e2;subst e1;subst e2;exact h1
 | 2,e1,e2=>simp at e1 e2;subst e1;subst e2;exact h2
 | i+3,e1,e2=>simp at e1
theorem VR.slot{P:Program}{W:World}{l:List Row}{i blk o n cap:Nat}{ty:TypeId}{c:List Value}(hl:l[i]? = some ⟨ty,c,blk,o⟩)(hc:isU cap=false):VR η (envR P W l) (.slice (some ⟨126+i,0,none⟩) n cap) (.slice (some ⟨blk,o,none⟩) n cap):=by
 have e:envR P W l (126+i)=some (blk,o,sizeB W blk - o):=by
  unfold envR
  rw [if_pos (by omega),Nat.add_sub_cancel_left,hl]
  rfl
 have:=VR.slice (η:=η) (ρ:=envR P W l) (r:=126+i) (o:=0) (b:=blk) (d:=o) (n:=sizeB W blk - o) n cap e hc
 rw [Nat.add_zero] at this
 exact this
theorem all1{α:Type}{p:α→Prop}{a:α}(ha:p a):∀ x,x ∈ [a]→p x:=fun x hx=>by rw [List.mem_singleton] at hx;subst hx;exact ha
theorem all2{α:Type}{p:α→Prop}{a b:α}(ha:p a)(hb:p b):∀ x,x ∈ [a,b]→p x:=fun x hx=>by
 rcases List.mem_cons.1 hx with rfl | hx
 ·exact ha
 ·exact all1 hb x hx
theorem all3{α:Type}{p:α→Prop}{a b c:α}(ha:p a)(hb:p b)(hc:p c):∀ x,x ∈ [a,b,c]→p x:=fun x hx=>by
 rcases List.mem_cons.1 hx with rfl | hx
 ·exact ha
 ·exact all2 hb hc x hx
namespace RG
theorem prs_ptV:∀ l:List (Int × Int),prs (fun p=>.int .u32 p.1) (fun p=>.int .i64 p.2) l=ptV l
 | []=>rfl
 | p :: l=>by unfold prs;rw [prs_ptV l];rfl
theorem rowS_of{c:List Value}{n:Nat}(hn:c.length=n)(h:∀ u,u ∈ c→∃ s,u = .string s):RowS c 0 n:=by
 refine⟨List.all_eq_true.2 fun u hu=>by obtain⟨s,rfl⟩:=h u hu;rfl,fun i hi=>?_⟩
 rw [Nat.zero_add]
 obtain⟨⟨⟨s⟩⟩,e⟩:=h c[i] (List.getElem_mem (by omega))
 have e2:c[i]? = some (.string ⟨⟨s⟩⟩):=by rw [List.getElem?_eq_getElem (by omega),e]
 unfold strAt
 rw [e2]
theorem rowI_of{c:List Value}{n:Nat}(hn:c.length=n)(h:∀ u,u ∈ c→∃ z,u = .int .i64 z):RowI c 0 n:=by
 refine⟨List.all_eq_true.2 fun u hu=>by obtain⟨s,rfl⟩:=h u hu;rfl,fun i hi=>?_⟩
 rw [Nat.zero_add]
 obtain⟨z,e⟩:=h c[i] (List.getElem_mem (by omega))
 have e2:c[i]? = some (.int .i64 z):=by rw [List.getElem?_eq_getElem (by omega),e]
 unfold intAt
 rw [e2]
theorem callT{f:FuncId}{W:World}{l:List Row}{a0 a1 a2 v0 v1 v2:Value}{k xa xb xe:Int}{s:List UInt8}(ht:∀ x ∈ tabR,TabAtP (fun _=>.nilIface) Tryd.prog W x)(hl:∀ x ∈ l,RowAt W x)(hd:∀ x ∈ l,x.ty ≠ 115)
  (h0:VR (fun _=>.nilIface) (envR Tryd.prog W l) a0 v0) (h1:VR (fun _=>.nilIface) (envR Tryd.prog W l) a1 v1) (h2:VR (fun _=>.nilIface) (envR Tryd.prog W l) a2 v2)
  (q:CallSpec (fun _=>.nilIface) Tryd.prog (bdRT W tabR) f [.agg ⟨[a0,a1,.int .i64 k,a2]⟩,.string ⟨⟨s⟩⟩,.agg ⟨[.int .u8 xa,.int .u8 xb,.int .u8 xe]⟩] (heapRT tabR l) fun v _=>v = .bool true) :
  Calls Tryd.prog f #[.agg ⟨[v0,v1,.int .i64 k,v2]⟩,.string ⟨⟨s⟩⟩,.agg ⟨[.int .u8 xa,.int .u8 xb,.int .u8 xe]⟩] W fun e w'=>e = .returned (.bool true)∧Go.RowKit.Below W.heap.size W w':=
 CallSpec.trueRT FN.gs9 ht hl (fun x hx y hy=>by
  unfold tabR at hy
  rw [List.mem_singleton] at hy
  subst hy;exact hd x hx) (.cons (.agg4 h0 h1 (.int _ _) h2) (.cons (.string _) (.cons (.agg3 (.int _ _) (.int _ _) (.int _ _)) .nil))) q
theorem callR{f:FuncId}{W:World}{l:List Row}{a0 a1 a2 v0 v1 v2:Value}{k xa xb xe:Int}{s:List UInt8}(hl:∀ x ∈ l,RowAt W x)
  (h0:VR (fun _=>.nilIface) (envR Tryd.prog W l) a0 v0) (h1:VR (fun _=>.nilIface) (envR Tryd.prog W l) a1 v1) (h2:VR (fun _=>.nilIface) (envR Tryd.prog W l) a2 v2)
  (q:CallSpec (fun _=>.nilIface) Tryd.prog (bdR W) f [.agg ⟨[a0,a1,.int .i64 k,a2]⟩,.string ⟨⟨s⟩⟩,.agg ⟨[.int .u8 xa,.int .u8 xb,.int .u8 xe]⟩] (heapR l) fun v _=>v = .bool true) :
  Calls Tryd.prog f #[.agg ⟨[v0,v1,.int .i64 k,v2]⟩,.string ⟨⟨s⟩⟩,.agg ⟨[.int .u8 xa,.int .u8 xb,.int .u8 xe]⟩] W fun e w'=>e = .returned (.bool true)∧Go.RowKit.Below W.heap.size W w':=
 CallSpec.trueR FN.gs9 hl (.cons (.agg4 h0 h1 (.int _ _) h2) (.cons (.string _) (.cons (.agg3 (.int _ _) (.int _ _) (.int _ _)) .nil))) q
theorem idle_row(hmix:Tryd.prog.follows .mixedOrders=true){W:World}(ht:∀ x ∈ tabR,TabAtP (fun _=>.nilIface) Tryd.prog W x){v0 v1 v2:Value}{n n':Nat}{c c':List Value}{l:List (Int × Int)}{k xa xb xe:Int}{s:List UInt8}
  (h0:RArg 115 W v0 n c) (l0:c.length=n) (s0:∀ u,u ∈ c→∃ s,u = .string s) (h1:RArg 115 W v1 n' c') (l1:c'.length=n') (s1:∀ u,u ∈ c'→∃ z,u = .int .i64 z) (h2:RArg 115 W v2 l.length (prs (fun p=>.int .u32 p.1) (fun p=>.int .i64 p.2) l))
  (ba:0≤xa∧xa<256) (bb:0≤xb∧xb<256) (be:0≤xe∧xe<256) :
  Calls Tryd.prog 6 #[.agg ⟨[v0,v1,.int .i64 k,v2]⟩,.string ⟨⟨s⟩⟩,.agg ⟨[.int .u8 xa,.int .u8 xb,.int .u8 xe]⟩] W fun e w'=>e = .returned (.bool true)∧Go.RowKit.Below W.heap.size W w':=by
 have hη:OneCells (fun _=>Value.nilIface):=fun _=>rfl
 have hc:=rowS_of l0 s0
 have hc':=rowI_of l1 s1
 rw [prs_ptV] at h2
 have hp2:=ptV_bare l
 rcases h0 with⟨e0,p0,q0,rfl⟩ | ⟨n0,blk0,o0,cap0,ty0,rfl,u0,k0,t0,r0⟩ <;> rcases h1 with⟨e1,p1,q1,rfl⟩ | ⟨n1,blk1,o1,cap1,ty1,rfl,u1,k1,t1,r1⟩ <;> rcases h2 with⟨e2,p2,q2,rfl⟩ | ⟨n2,blk2,o2,cap2,ty2,rfl,u2,k2,t2,r2⟩
 ·exact callR (l:=[]) (fun x hx=>by cases hx) (.sliceE _ _) (.sliceE _ _) (.sliceE _ _) (idleEEE_can hη hmix)
 ·exact callR (l:=[⟨ty2,ptV l,blk2,o2⟩]) (all1 r2) (.sliceE _ _) (.sliceE _ _) (.slot (i:=0) rfl u2) (idleEEN_can hη hmix hp2)
 ·exact callR (l:=[⟨ty1,c',blk1,o1⟩]) (all1 r1) (.sliceE _ _) (.slot (i:=0) rfl u1) (.sliceE _ _) (idleENE_can hη hmix hc')
 ·exact callR (l:=[⟨ty1,c',blk1,o1⟩,⟨ty2,ptV l,blk2,o2⟩]) (all2 r1 r2) (.sliceE _ _) (.slot (i:=0) rfl u1) (.slot (i:=1) rfl u2) (idleENN_can hη hmix hc' hp2)
 ·exact callR (l:=[⟨ty0,c,blk0,o0⟩]) (all1 r0) (.slot (i:=0) rfl u0) (.sliceE _ _) (.sliceE _ _) (idleNEE_can hη hmix hc)
 ·exact callR (l:=[⟨ty0,c,blk0,o0⟩,⟨ty2,ptV l,blk2,o2⟩]) (all2 r0 r2) (.slot (i:=0) rfl u0) (.sliceE _ _) (.slot (i:=1) rfl u2) (idleNEN_can hη hmix hc hp2)
 ·exact callT (l:=[⟨ty0,c,blk0,o0⟩,⟨ty1,c',blk1,o1⟩]) ht (all2 r0 r1) (all2 t0 t1) (.slot (i:=0) rfl u0) (.slot (i:=1) rfl u1) (.sliceE _ _) (idleNNE_can hη hmix hc hc' u0 k0 u1 k1 ba bb be)
 ·exact callT (l:=[⟨ty0,c,blk0,o0⟩,⟨ty1,c',blk1,o1⟩,⟨ty2,ptV l,blk2,o2⟩]) ht (all3 r0 r1 r2) (all3 t0 t1 t2) (.slot (i:=0) rfl u0) (.slot (i:=1) rfl u1) (.slot (i:=2) rfl u2) (idleNNN_can hη hmix hc hc' u0 k0 u1 k1 (fun e=>by rw [e] at n2;exact absurd n2 (Nat.lt_irrefl _)) ba bb be)
end RG
end Go.Ev

