/- HLvsC, part 7: what the proof needs, in the order of its texts. -/
import Derived.Test.YtecamcpifkibkaaDoorHLvsC6
import Derived.Test.YtecamcpifkibkaaDoorProg
import Derived.KernelRfl
import Derived.ChangeSame
set_option linter.unusedVariables false
set_option linter.unusedSimpArgs false
namespace Go.Ev
open Go Go.Proofs
open Go.Ev.T renaming node → nN, nil → nZ
open Go.Proofs.Tryd (prog)
set_option maxRecDepth 100000
set_option maxHeartbeats 2000000
namespace RFaNNN
noncomputable def bd:Code:=(Go.Proofs.Tryd.f7.body).getD .skip
noncomputable def H0(ty ty' ty2 n n' m cap cap' cap2:Nat)(c c' c2:List Value)(kn:Int):AH:={ objs:=eE (eE (eE (eE (eE (eE (eE (lL (AObj.cells ty' c' false 0)) nZ) nZ) nZ) nZ) nZ) nZ) (eE (eE (eE (eE (eE (eE (lL (AObj.cells ty2 c2 false 0)) nZ) nZ) nZ) nZ) nZ) (eE nZ (eE nZ (eE nZ (eE nZ (lL (AObj.cells ty c false 0))))))),next:=129 }
noncomputable def E(ty ty' ty2 n n' m cap cap' cap2:Nat)(c c' c2:List Value)(kn:Int):AS:=⟨⟨7,95,lL (Value.agg ⟨[sS 126 0 n cap,sS 127 0 n' cap',iI kn,sS 128 0 m cap2]⟩),[Item.code (codeAt bd [])],[],FrameMode.run,CallKind.normal,none⟩,[],H0 ty ty' ty2 n n' m cap cap' cap2 c c' c2 kn⟩
noncomputable def S0(ty ty' ty2 n n' m cap cap' cap2:Nat)(c c' c2:List Value)(kn i0 i1:Int)(d:Nat→Value):AS:=⟨⟨7,95,nS (d 0) (nS (pP 129 0) (nS (iI i0) (nS (d 7) (nS (d 15) (nS (d 31) (lL (d 63)) nZ) (nS (d 47) (lL (d 79)) nZ)) (nS (d 23) (nS (d 39) (lL (d 71)) nZ) (nS (d 55) (lL (d 87)) nZ))) (nS (d 11) (nS (d 19) (nS (d 35) (lL (d 67)) nZ) (nS (d 51) (lL (d 83)) nZ)) (nS (d 27) (nS (d 43) (lL (d 75)) nZ) (nS (d 59) (lL (d 91)) nZ)))) (nS (d 5) (nS (d 9) (nS (d 17) (nS (d 33) (lL (d 65)) nZ) (nS (d 49) (lL (d 81)) nZ)) (nS (d 25) (nS (d 41) (lL (d 73)) nZ) (nS (d 57) (lL (d 89)) nZ))) (nS (d 13) (nS (d 21) (nS (d 37) (lL (d 69)) nZ) (nS (d 53) (lL (d 85)) nZ)) (nS (d 29) (nS (d 45) (lL (d 77)) nZ) (nS (d 61) (lL (d 93)) nZ))))) (nS (d 2) (nS (iI i1) (nS (d 8) (nS (d 16) (nS (d 32) (lL (d 64)) nZ) (nS (d 48) (lL (d 80)) nZ)) (nS (d 24) (nS (d 40) (lL (d 72)) nZ) (nS (d 56) (lL (d 88)) nZ))) (nS (d 12) (nS (d 20) (nS (d 36) (lL (d 68)) nZ) (nS (d 52) (lL (d 84)) nZ)) (nS (d 28) (nS (d 44) (lL (d 76)) nZ) (nS (d 60) (lL (d 92)) nZ)))) (nS (d 6) (nS (d 10) (nS (d 18) (nS (d 34) (lL (d 66)) nZ) (nS (d 50) (lL (d 82)) nZ)) (nS (d 26) (nS (d 42) (lL (d 74)) nZ) (nS (d 58) (lL (d 90)) nZ))) (nS (d 14) (nS (d 22) (nS (d 38) (lL (d 70)) nZ) (nS (d 54) (lL (d 86)) nZ)) (nS (d 30) (nS (d 46) (lL (d 78)) nZ) (nS (d 62) (lL (d 94)) nZ))))),[Item.code (codeAt bd [1,1,1,0,1,0,0]),Item.inLoop (codeAt bd [1,1,1,0,1,0,0]),Item.inBlock 0,Item.code (codeAt bd [1,1,1,1])],[],FrameMode.run,CallKind.normal,none⟩,[],⟨eE (eE (eE (eE (eE (eE (eE (lL (AObj.cells ty' c' false 0)) nZ) nZ) nZ) nZ) nZ) (eE (eE (eE (eE (eE (lL (AObj.cells 26 [sS 126 0 n cap,sS 127 0 n' cap',iI kn,sS 128 0 m cap2] true 2)) nZ) nZ) nZ) nZ) nZ)) (eE (eE (eE (eE (eE (eE (lL (AObj.cells ty2 c2 false 0)) nZ) nZ) nZ) nZ) nZ) (eE nZ (eE nZ (eE nZ (eE nZ (lL (AObj.cells ty c false 0))))))),130⟩⟩
noncomputable def S1(ty ty' ty2 n n' m cap cap' cap2:Nat)(c c' c2:List Value)(kn i0 i1:Int)(d:Nat→Value):AS:=⟨⟨7,95,nS (d 0) (nS (pP 129 0) (nS (iI i1) (nS (d 7) (nS (d 15) (nS (d 31) (lL (d 63)) nZ) (nS (d 47) (lL (d 79)) nZ)) (nS (d 23) (nS (d 39) (lL (d 71)) nZ) (nS (d 55) (lL (d 87)) nZ))) (nS (d 11) (nS (d 19) (nS (d 35) (lL (d 67)) nZ) (nS (d 51) (lL (d 83)) nZ)) (nS (d 27) (nS (d 43) (lL (d 75)) nZ) (nS (d 59) (lL (d 91)) nZ)))) (nS (iI i0) (nS (d 9) (nS (d 17) (nS (d 33) (lL (d 65)) nZ) (nS (d 49) (lL (d 81)) nZ)) (nS (d 25) (nS (d 41) (lL (d 73)) nZ) (nS (d 57) (lL (d 89)) nZ))) (nS (d 13) (nS (d 21) (nS (d 37) (lL (d 69)) nZ) (nS (d 53) (lL (d 85)) nZ)) (nS (d 29) (nS (d 45) (lL (d 77)) nZ) (nS (d 61) (lL (d 93)) nZ))))) (nS (d 2) (nS (d 4) (nS (d 8) (nS (d 16) (nS (d 32) (lL (d 64)) nZ) (nS (d 48) (lL (d 80)) nZ)) (nS (d 24) (nS (d 40) (lL (d 72)) nZ) (nS (d 56) (lL (d 88)) nZ))) (nS (d 12) (nS (d 20) (nS (d 36) (lL (d 68)) nZ) (nS (d 52) (lL (d 84)) nZ)) (nS (d 28) (nS (d 44) (lL (d 76)) nZ) (nS (d 60) (lL (d 92)) nZ)))) (nS (d 6) (nS (d 10) (nS (d 18) (nS (d 34) (lL (d 66)) nZ) (nS (d 50) (lL (d 82)) nZ)) (nS (d 26) (nS (d 42) (lL (d 74)) nZ) (nS (d 58) (lL (d 90)) nZ))) (nS (d 14) (nS (d 22) (nS (d 38) (lL (d 70)) nZ) (nS (d 54) (lL (d 86)) nZ)) (nS (d 30) (nS (d 46) (lL (d 78)) nZ) (nS (d 62) (lL (d 94)) nZ))))),[Item.code (codeAt bd [1,1,1,1,0,1,0,0]),Item.inLoop (codeAt bd [1,1,1,1,0,1,0,0]),Item.inBlock 2,Item.code (codeAt bd [1,1,1,1,1])],[],FrameMode.run,CallKind.normal,none⟩,[],⟨eE (eE (eE (eE (eE (eE (eE (lL (AObj.cells ty' c' false 0)) nZ) nZ) nZ) nZ) nZ) (eE (eE (eE (eE (eE (lL (AObj.cells 26 [sS 126 0 n cap,sS 127 0 n' cap',iI kn,sS 128 0 m cap2] true 2)) nZ) nZ) nZ) nZ) nZ)) (eE (eE (eE (eE (eE (eE (lL (AObj.cells ty2 c2 false 0)) nZ) nZ) nZ) nZ) nZ) (eE nZ (eE nZ (eE nZ (eE nZ (lL (AObj.cells ty c false 0))))))),130⟩⟩
theorem enter{η:Nat→Value}{B:Bd}(hη:OneCells η)(hmix:prog.follows .mixedOrders=true)(hreg:RegOk η prog B noNest){D:Value→AH→Prop}(ty ty' ty2 n n' m cap cap' cap2:Nat)(c c' c2:List Value)(kn:Int)(h:let q1:W:=(.stop [1,3,4] (S0 ty ty' ty2 n n' m cap cap' cap2 c c' c2 kn (0) (0) (fun _=>undef)));let q0:W:=(.need (NoNames c∧NoNames c'∧NoNames c2∧True) (.done 7 (Value.bool true) (H0 ty ty' ty2 n n' m cap cap' cap2 c c' c2 kn)));W.holds η prog B 7 (fun kp_ st_=>RunD η prog B 7 (H0 ty ty' ty2 n n' m cap cap' cap2 c c' c2 kn) kp_ st_ (QF prog 129 D)) D (.ite (decide ((↑n:Int) > (20:Int))) q0 (.ite (decide ((↑n':Int) > (20:Int))) q0 (.ite (decide ((↑m:Int) > (600:Int))) (.ite (decide ((↑m:Int)≤(4096:Int))) q0 (.ite (decide ((↑m:Int) > (5000:Int))) q0 q1)) (.ite (decide ((↑m:Int) > (5000:Int))) q0 q1))))):CallSpec η prog B 7 [Value.agg ⟨[Value.slice (some ⟨126,0,none⟩) n cap,Value.slice (some ⟨127,0,none⟩) n' cap',Value.int IntKind.i64 kn,Value.slice (some ⟨128,0,none⟩) m cap2]⟩] (H0 ty ty' ty2 n n' m cap cap' cap2 c c' c2 kn) D:=by
 refine CallSpec.ofQF hη (CallSpec.enter (fr:=(E ty ty' ty2 n n' m cap cap' cap2 c c' c2 kn).fr) (by kernel_rfl) ?_)
 exact walk_okT (h0:=H0 ty ty' ty2 n n' m cap cap' cap2 c c' c2 kn) hη hmix hreg (.steps 13 <| .bit 10 (.steps 30 <| .done (some ⟨129,[],[(126,(126,true)),(127,(127,true)),(128,(128,true))]⟩)) (.steps 6 <| .bit 16 (.steps 24 <| .done (some ⟨129,[],[(126,(126,true)),(127,(127,true)),(128,(128,true))]⟩)) (.steps 5 <| .bit 21 (.steps 7 <| .bit 28 (.steps 12 <| .done (some ⟨129,[],[(126,(126,true)),(127,(127,true)),(128,(128,true))]⟩)) (.steps 6 <| .bit 33 (.steps 6 <| .done (some ⟨129,[],[(126,(126,true)),(127,(127,true)),(128,(128,true))]⟩)) (.steps 13 <| .stop [1,3,4] none))) (.steps 13 <| .bit 33 (.steps 6 <| .done (some ⟨129,[],[(126,(126,true)),(127,(127,true)),(128,(128,true))]⟩)) (.steps 13 <| .stop [1,3,4] none))))) (E ty ty' ty2 n n' m cap cap' cap2 c c' c2 kn) (by kernel_rfl) h (by kernel_rfl)
theorem cut0{η:Nat→Value}{B:Bd}(hη:OneCells η)(hmix:prog.follows .mixedOrders=true)(hreg:RegOk η prog B noNest){D:Value→AH→Prop}(ty ty' ty2 n n' m cap cap' cap2:Nat)(c c' c2:List Value)(kn i0 i1:Int)(h:let q1:=(Value.int IntKind.i64 (intAt c' ((0:Nat)+i1.toNat * (1:Nat))));let q0:W:=(.stop [1,3,4] (S0 ty ty' ty2 n n' m cap cap' cap2 c c' c2 kn (i0) (IntKind.i64.wrap (i1+1)) (fun _=>undef)));W.holds η prog B 7 (fun kp_ st_=>RunD η prog B 7 (H0 ty ty' ty2 n n' m cap cap' cap2 c c' c2 kn) kp_ st_ (QF prog 129 D)) D (.ite (decide (i1<(↑n':Int))) (.need ((0:Int)≤i1∧i1<(↑n':Int)) (.need (c'[(0:Nat)+i1.toNat * (1:Nat)]? = some q1) (.ite (decide (intAt c' ((0:Nat)+i1.toNat * (1:Nat)) ≥ (0:Int))) (.need ((0:Int)≤i1∧i1<(↑n':Int)) (.need (c'[(0:Nat)+i1.toNat * (1:Nat)]? = some q1) (.ite (decide (intAt c' ((0:Nat)+i1.toNat * (1:Nat))≤(20:Int))) (.ite (decide (kn ≥ (0:Int))) (.ite (decide (kn≤(100:Int))) (.need ((0:Int)≤i1∧i1<(↑n':Int)) (.need (c'[(0:Nat)+i1.toNat * (1:Nat)]? = some q1) (.need (NoNames c∧NoNames c'∧NoNames c2∧True∧True) (.stop [1,3,4] (S0 ty ty' ty2 n n' m cap cap' cap2 c c' c2 kn (IntKind.i64.wrap (i0+IntKind.i64.wrap (intAt c' (0+i1.toNat * 1) * kn))) (IntKind.i64.wrap (i1+1)) (fun _=>undef)))))) q0) q0) q0))) q0))) (.stop [1,3,5] (S1 ty ty' ty2 n n' m cap cap' cap2 c c' c2 kn (0) (i0) (fun _=>undef))))):RunD η prog B 7 (H0 ty ty' ty2 n n' m cap cap' cap2 c c' c2 kn) [1,3,4] (S0 ty ty' ty2 n n' m cap cap' cap2 c c' c2 kn i0 i1 fun _=>undef) (QF prog 129 D):=by
 refine RunD.intro (S0 ty ty' ty2 n n' m cap cap' cap2 c c' c2 kn i0 i1) (fun d=>⟨rfl,rfl,rfl⟩) (fun d=>tmOk_get (by kernel_rfl)) (fun d=>by kernel_rfl) (fun d=>?_)
 exact walk_okT (h0:=H0 ty ty' ty2 n n' m cap cap' cap2 c c' c2 kn) hη hmix hreg (.steps 9 <| .bit 38 (.steps 9 <| .op <| .op <| .steps 2 <| .bit 47 (.steps 3 <| .op <| .op <| .steps 3 <| .bit 55 (.steps 5 <| .bit 60 (.steps 5 <| .bit 64 (.steps 1 <| .reg <| .steps 4 <| .op <| .op <| .steps 5 <| .reg <| .steps 7 <| .stop [1,3,4] (some ⟨130,[(129,129)],[(126,(126,true)),(127,(127,true)),(128,(128,true)),(129,(129,false))]⟩)) (.steps 9 <| .stop [1,3,4] none)) (.steps 14 <| .stop [1,3,4] none)) (.steps 19 <| .stop [1,3,4] none)) (.steps 27 <| .stop [1,3,4] none)) (.steps 9 <| .stop [1,3,5] none)) (S0 ty ty' ty2 n n' m cap cap' cap2 c c' c2 kn i0 i1 d) (by kernel_rfl) h (by kernel_rfl)
theorem cut1{η:Nat→Value}{B:Bd}(hη:OneCells η)(hmix:prog.follows .mixedOrders=true)(hreg:RegOk η prog B noNest){D:Value→AH→Prop}(ty ty' ty2 n n' m cap cap' cap2:Nat)(c c' c2:List Value)(kn i0 i1:Int)(h:W.holds η prog B 7 (fun kp_ st_=>RunD η prog B 7 (H0 ty ty' ty2 n n' m cap cap' cap2 c c' c2 kn) kp_ st_ (QF prog 129 D)) D (.ite (decide (i0<(↑n:Int))) (.need ((0:Int)≤i0∧i0<(↑n:Int)) (.need (c[(0:Nat)+i0.toNat * (1:Nat)]? = some (Value.string ⟨⟨strAt c ((0:Nat)+i0.toNat * (1:Nat))⟩⟩)) (.ite (decide ((↑(strAt c ((0:Nat)+i0.toNat * (1:Nat))).length:Int) > (100:Int))) (.need (NoNames c∧NoNames c'∧NoNames c2∧True) (.done 7 (Value.bool true) (H0 ty ty' ty2 n n' m cap cap' cap2 c c' c2 kn))) (.stop [1,3,5] (S1 ty ty' ty2 n n' m cap cap' cap2 c c' c2 kn (IntKind.i64.wrap (i0+1)) (i1) (fun _=>undef)))))) (.ite (decide (i1 > (600:Int))) (.need (NoNames c∧NoNames c'∧NoNames c2∧True) (.done 7 (Value.bool (decide (i1≤4096))) (H0 ty ty' ty2 n n' m cap cap' cap2 c c' c2 kn))) (.need (NoNames c∧NoNames c'∧NoNames c2∧True) (.done 7 (Value.bool false) (H0 ty ty' ty2 n n' m cap cap' cap2 c c' c2 kn)))))):RunD η prog B 7 (H0 ty ty' ty2 n n' m cap cap' cap2 c c' c2 kn) [1,3,5] (S1 ty ty' ty2 n n' m cap cap' cap2 c c' c2 kn i0 i1 fun _=>undef) (QF prog 129 D):=by
 refine RunD.intro (S1 ty ty' ty2 n n' m cap cap' cap2 c c' c2 kn i0 i1) (fun d=>⟨rfl,rfl,rfl⟩) (fun d=>tmOk_get (by kernel_rfl)) (fun d=>by kernel_rfl) (fun d=>?_)
 exact walk_okT (h0:=H0 ty ty' ty2 n n' m cap cap' cap2 c c' c2 kn) hη hmix hreg (.steps 9 <| .bit 79 (.steps 9 <| .op <| .op <| .steps 3 <| .bit 88 (.steps 6 <| .done (some ⟨129,[],[(126,(126,true)),(127,(127,true)),(128,(128,true))]⟩)) (.steps 9 <| .stop [1,3,5] none)) (.steps 7 <| .bit 91 (.steps 6 <| .done (some ⟨129,[],[(126,(126,true)),(127,(127,true)),(128,(128,true))]⟩)) (.steps 6 <| .done (some ⟨129,[],[(126,(126,true)),(127,(127,true)),(128,(128,true))]⟩)))) (S1 ty ty' ty2 n n' m cap cap' cap2 c c' c2 kn i0 i1 d) (by kernel_rfl) h (by kernel_rfl)
end RFaNNN
namespace RFaNNE
noncomputable def bd:Code:=(Go.Proofs.Tryd.f7.body).getD .skip
noncomputable def H0(ty ty' n n' cap cap':Nat)(c c':List Value)(kn:Int):AH:={ objs:=eE (eE (eE (eE (eE (eE (eE (lL (AObj.cells ty' c' false 0)) nZ) nZ) nZ) nZ) nZ) nZ) (eE nZ (eE nZ (eE nZ (eE nZ (eE nZ (lL (AObj.cells ty c false 0))))))),next:=128 }
noncomputable def E(ty ty' n n' cap cap':Nat)(c c':List Value)(kn:Int):AS:=⟨⟨7,95,lL (Value.agg ⟨[sS 126 0 n cap,sS 127 0 n' cap',iI kn,Value.slice none 0 9223372036854775808]⟩),[Item.code (codeAt bd [])],[],FrameMode.run,CallKind.normal,none⟩,[],H0 ty ty' n n' cap cap' c c' kn⟩
noncomputable def S0(ty ty' n n' cap cap':Nat)(c c':List Value)(kn i0 i1:Int)(d:Nat→Value):AS:=⟨⟨7,95,nS (d 0) (nS (pP 128 0) (nS (iI i0) (nS (d 7) (nS (d 15) (nS (d 31) (lL (d 63)) nZ) (nS (d 47) (lL (d 79)) nZ)) (nS (d 23) (nS (d 39) (lL (d 71)) nZ) (nS (d 55) (lL (d 87)) nZ))) (nS (d 11) (nS (d 19) (nS (d 35) (lL (d 67)) nZ) (nS (d 51) (lL (d 83)) nZ)) (nS (d 27) (nS (d 43) (lL (d 75)) nZ) (nS (d 59) (lL (d 91)) nZ)))) (nS (d 5) (nS (d 9) (nS (d 17) (nS (d 33) (lL (d 65)) nZ) (nS (d 49) (lL (d 81)) nZ)) (nS (d 25) (nS (d 41) (lL (d 73)) nZ) (nS (d 57) (lL (d 89)) nZ))) (nS (d 13) (nS (d 21) (nS (d 37) (lL (d 69)) nZ) (nS (d 53) (lL (d 85)) nZ)) (nS (d 29) (nS (d 45) (lL (d 77)) nZ) (nS (d 61) (lL (d 93)) nZ))))) (nS (d 2) (nS (iI i1) (nS (d 8) (nS (d 16) (nS (d 32) (lL (d 64)) nZ) (nS (d 48) (lL (d 80)) nZ)) (nS (d 24) (nS (d 40) (lL (d 72)) nZ) (nS (d 56) (lL (d 88)) nZ))) (nS (d 12) (nS (d 20) (nS (d 36) (lL (d 68)) nZ) (nS (d 52) (lL (d 84)) nZ)) (nS (d 28) (nS (d 44) (lL (d 76)) nZ) (nS (d 60) (lL (d 92)) nZ)))) (nS (d 6) (nS (d 10) (nS (d 18) (nS (d 34) (lL (d 66)) nZ) (nS (d 50) (lL (d 82)) nZ)) (nS (d 26) (nS (d 42) (lL (d 74)) nZ) (nS (d 58) (lL (d 90)) nZ))) (nS (d 14) (nS (d 22) (nS (d 38) (lL (d 70)) nZ) (nS (d 54) (lL (d 86)) nZ)) (nS (d 30) (nS (d 46) (lL (d 78)) nZ) (nS (d 62) (lL (d 94)) nZ))))),[Item.code (codeAt bd [1,1,1,0,1,0,0]),Item.inLoop (codeAt bd [1,1,1,0,1,0,0]),Item.inBlock 0,Item.code (codeAt bd [1,1,1,1])],[],FrameMode.run,CallKind.normal,none⟩,[],⟨eE (eE (eE (eE (eE (eE (eE (lL (AObj.cells ty' c' false 0)) nZ) nZ) nZ) nZ) nZ) nZ) (eE (eE (eE (eE (eE (eE (lL (AObj.cells 26 [sS 126 0 n cap,sS 127 0 n' cap',iI kn,Value.slice none 0 9223372036854775808] true 2)) nZ) nZ) nZ) nZ) nZ) (eE nZ (eE nZ (eE nZ (eE nZ (lL (AObj.cells ty c false 0))))))),129⟩⟩
noncomputable def S1(ty ty' n n' cap cap':Nat)(c c':List Value)(kn i0 i1:Int)(d:Nat→Value):AS:=⟨⟨7,95,nS (d 0) (nS (pP 128 0) (nS (iI i1) (nS (d 7) (nS (d 15) (nS (d 31) (lL (d 63)) nZ) (nS (d 47) (lL (d 79)) nZ)) (nS (d 23) (nS (d 39) (lL (d 71)) nZ) (nS (d 55) (lL (d 87)) nZ))) (nS (d 11) (nS (d 19) (nS (d 35) (lL (d 67)) nZ) (nS (d 51) (lL (d 83)) nZ)) (nS (d 27) (nS (d 43) (lL (d 75)) nZ) (nS (d 59) (lL (d 91)) nZ)))) (nS (iI i0) (nS (d 9) (nS (d 17) (nS (d 33) (lL (d 65)) nZ) (nS (d 49) (lL (d 81)) nZ)) (nS (d 25) (nS (d 41) (lL (d 73)) nZ) (nS (d 57) (lL (d 89)) nZ))) (nS (d 13) (nS (d 21) (nS (d 37) (lL (d 69)) nZ) (nS (d 53) (lL (d 85)) nZ)) (nS (d 29) (nS (d 45) (lL (d 77)) nZ) (nS (d 61) (lL (d 93)) nZ))))) (nS (d 2) (nS (d 4) (nS (d 8) (nS (d 16) (nS (d 32) (lL (d 64)) nZ) (nS (d 48) (lL (d 80)) nZ)) (nS (d 24) (nS (d 40) (lL (d 72)) nZ) (nS (d 56) (lL (d 88)) nZ))) (nS (d 12) (nS (d 20) (nS (d 36) (lL (d 68)) nZ) (nS (d 52) (lL (d 84)) nZ)) (nS (d 28) (nS (d 44) (lL (d 76)) nZ) (nS (d 60) (lL (d 92)) nZ)))) (nS (d 6) (nS (d 10) (nS (d 18) (nS (d 34) (lL (d 66)) nZ) (nS (d 50) (lL (d 82)) nZ)) (nS (d 26) (nS (d 42) (lL (d 74)) nZ) (nS (d 58) (lL (d 90)) nZ))) (nS (d 14) (nS (d 22) (nS (d 38) (lL (d 70)) nZ) (nS (d 54) (lL (d 86)) nZ)) (nS (d 30) (nS (d 46) (lL (d 78)) nZ) (nS (d 62) (lL (d 94)) nZ))))),[Item.code (codeAt bd [1,1,1,1,0,1,0,0]),Item.inLoop (codeAt bd [1,1,1,1,0,1,0,0]),Item.inBlock 2,Item.code (codeAt bd [1,1,1,1,1])],[],FrameMode.run,CallKind.normal,none⟩,[],⟨eE (eE (eE (eE (eE (eE (eE (lL (AObj.cells ty' c' false 0)) nZ) nZ) nZ) nZ) nZ) nZ) (eE (eE (eE (eE (eE (eE (lL (AObj.cells 26 [sS 126 0 n cap,sS 127 0 n' cap',iI kn,Value.slice none 0 9223372036854775808] true 2)) nZ) nZ) nZ) nZ) nZ) (eE nZ (eE nZ (eE nZ (eE nZ (lL (AObj.cells ty c false 0))))))),129⟩⟩
theorem enter{η:Nat→Value}{B:Bd}(hη:OneCells η)(hmix:prog.follows .mixedOrders=true)(hreg:RegOk η prog B noNest){D:Value→AH→Prop}(ty ty' n n' cap cap':Nat)(c c':List Value)(kn:Int)(h:let q0:W:=(.need (NoNames c∧NoNames c'∧True) (.done 7 (Value.bool true) (H0 ty ty' n n' cap cap' c c' kn)));W.holds η prog B 7 (fun kp_ st_=>RunD η prog B 7 (H0 ty ty' n n' cap cap' c c' kn) kp_ st_ (QF prog 128 D)) D (.ite (decide ((↑n:Int) > (20:Int))) q0 (.ite (decide ((↑n':Int) > (20:Int))) q0 (.stop [1,3,4] (S0 ty ty' n n' cap cap' c c' kn (0) (0) (fun _=>undef)))))):CallSpec η prog B 7 [Value.agg ⟨[Value.slice (some ⟨126,0,none⟩) n cap,Value.slice (some ⟨127,0,none⟩) n' cap',Value.int IntKind.i64 kn,Value.slice none 0 9223372036854775808]⟩] (H0 ty ty' n n' cap cap' c c' kn) D:=by
 refine CallSpec.ofQF hη (CallSpec.enter (fr:=(E ty ty' n n' cap cap' c c' kn).fr) (by kernel_rfl) ?_)
 exact walk_okT (h0:=H0 ty ty' n n' cap cap' c c' kn) hη hmix hreg (.steps 13 <| .bit 10 (.steps 30 <| .done (some ⟨128,[],[(126,(126,true)),(127,(127,true))]⟩)) (.steps 6 <| .bit 16 (.steps 24 <| .done (some ⟨128,[],[(126,(126,true)),(127,(127,true))]⟩)) (.steps 31 <| .stop [1,3,4] none))) (E ty ty' n n' cap cap' c c' kn) (by kernel_rfl) h (by kernel_rfl)
theorem cut0{η:Nat→Value}{B:Bd}(hη:OneCells η)(hmix:prog.follows .mixedOrders=true)(hreg:RegOk η prog B noNest){D:Value→AH→Prop}(ty ty' n n' cap cap':Nat)(c c':List Value)(kn i0 i1:Int)(h:let q1:=(Value.int IntKind.i64 (intAt c' ((0:Nat)+i1.toNat * (1:Nat))));let q0:W:=(.stop [1,3,4] (S0 ty ty' n n' cap cap' c c' kn (i0) (IntKind.i64.wrap (i1+1)) (fun _=>undef)));W.holds η prog B 7 (fun kp_ st_=>RunD η prog B 7 (H0 ty ty' n n' cap cap' c c' kn) kp_ st_ (QF prog 128 D)) D (.ite (decide (i1<(↑n':Int))) (.need ((0:Int)≤i1∧i1<(↑n':Int)) (.need (c'[(0:Nat)+i1.toNat * (1:Nat)]? = some q1) (.ite (decide (intAt c' ((0:Nat)+i1.toNat * (1:Nat)) ≥ (0:Int))) (.need ((0:Int)≤i1∧i1<(↑n':Int)) (.need (c'[(0:Nat)+i1.toNat * (1:Nat)]? = some q1) (.ite (decide (intAt c' ((0:Nat)+i1.toNat * (1:Nat))≤(20:Int))) (.ite (decide (kn ≥ (0:Int))) (.ite (decide (kn≤(100:Int))) (.need ((0:Int)≤i1∧i1<(↑n':Int)) (.need (c'[(0:Nat)+i1.toNat * (1:Nat)]? = some q1) (.need (NoNames c∧NoNames c'∧True∧True) (.stop [1,3,4] (S0 ty ty' n n' cap cap' c c' kn (IntKind.i64.wrap (i0+IntKind.i64.wrap (intAt c' (0+i1.toNat * 1) * kn))) (IntKind.i64.wrap (i1+1)) (fun _=>undef)))))) q0) q0) q0))) q0))) (.stop [1,3,5] (S1 ty ty' n n' cap cap' c c' kn (0) (i0) (fun _=>undef))))):RunD η prog B 7 (H0 ty ty' n n' cap cap' c c' kn) [1,3,4] (S0 ty ty' n n' cap cap' c c' kn i0 i1 fun _=>undef) (QF prog 128 D):=by
 refine RunD.intro (S0 ty ty' n n' cap cap' c c' kn i0 i1) (fun d=>⟨rfl,rfl,rfl⟩) (fun d=>tmOk_get (by kernel_rfl)) (fun d=>by kernel_rfl) (fun d=>?_)
 exact walk_okT (h0:=H0 ty ty' n n' cap cap' c c' kn) hη hmix hreg (.steps 9 <| .bit 38 (.steps 9 <| .op <| .op <| .steps 2 <| .bit 47 (.steps 3 <| .op <| .op <| .steps 3 <| .bit 55 (.steps 5 <| .bit 60 (.steps 5 <| .bit 64 (.steps 1 <| .reg <| .steps 4 <| .op <| .op <| .steps 5 <| .reg <| .steps 7 <| .stop [1,3,4] (some ⟨129,[(128,128)],[(126,(126,true)),(127,(127,true)),(128,(128,false))]⟩)) (.steps 9 <| .stop [1,3,4] none)) (.steps 14 <| .stop [1,3,4] none)) (.steps 19 <| .stop [1,3,4] none)) (.steps 27 <| .stop [1,3,4] none)) (.steps 9 <| .stop [1,3,5] none)) (S0 ty ty' n n' cap cap' c c' kn i0 i1 d) (by kernel_rfl) h (by kernel_rfl)
theorem cut1{η:Nat→Value}{B:Bd}(hη:OneCells η)(hmix:prog.follows .mixedOrders=true)(hreg:RegOk η prog B noNest){D:Value→AH→Prop}(ty ty' n n' cap cap':Nat)(c c':List Value)(kn i0 i1:Int)(h:W.holds η prog B 7 (fun kp_ st_=>RunD η prog B 7 (H0 ty ty' n n' cap cap' c c' kn) kp_ st_ (QF prog 128 D)) D (.ite (decide (i0<(↑n:Int))) (.need ((0:Int)≤i0∧i0<(↑n:Int)) (.need (c[(0:Nat)+i0.toNat * (1:Nat)]? = some (Value.string ⟨⟨strAt c ((0:Nat)+i0.toNat * (1:Nat))⟩⟩)) (.ite (decide ((↑(strAt c ((0:Nat)+i0.toNat * (1:Nat))).length:Int) > (100:Int))) (.need (NoNames c∧NoNames c'∧True) (.done 7 (Value.bool true) (H0 ty ty' n n' cap cap' c c' kn))) (.stop [1,3,5] (S1 ty ty' n n' cap cap' c c' kn (IntKind.i64.wrap (i0+1)) (i1) (fun _=>undef)))))) (.ite (decide (i1 > (600:Int))) (.need (NoNames c∧NoNames c'∧True) (.done 7 (Value.bool (decide (i1≤4096))) (H0 ty ty' n n' cap cap' c c' kn))) (.need (NoNames c∧NoNames c'∧True) (.done 7 (Value.bool false) (H0 ty ty' n n' cap cap' c c' kn)))))):RunD η prog B 7 (H0 ty ty' n n' cap cap' c c' kn) [1,3,5] (S1 ty ty' n n' cap cap' c c' kn i0 i1 fun _=>undef) (QF prog 128 D):=by
 refine RunD.intro (S1 ty ty' n n' cap cap' c c' kn i0 i1) (fun d=>⟨rfl,rfl,rfl⟩) (fun d=>tmOk_get (by kernel_rfl)) (fun d=>by kernel_rfl) (fun d=>?_)
 exact walk_okT (h0:=H0 ty ty' n n' cap cap' c c' kn) hη hmix hreg (.steps 9 <| .bit 79 (.steps 9 <| .op <| .op <| .steps 3 <| .bit 88 (.steps 6 <| .done (some ⟨128,[],[(126,(126,true)),(127,(127,true))]⟩)) (.steps 9 <| .stop [1,3,5] none)) (.steps 7 <| .bit 91 (.steps 6 <| .done (some ⟨128,[],[(126,(126,true)),(127,(127,true))]⟩)) (.steps 6 <| .done (some ⟨128,[],[(126,(126,true)),(127,(127,true))]⟩)))) (S1 ty ty' n n' cap cap' c c' kn i0 i1 d) (by kernel_rfl) h (by kernel_rfl)
end RFaNNE
namespace RFaNEN
noncomputable def bd:Code:=(Go.Proofs.Tryd.f7.body).getD .skip
noncomputable def H0(ty ty2 n m cap cap2:Nat)(c c2:List Value)(kn:Int):AH:={ objs:=eE (eE (eE (eE (eE (eE (eE (lL (AObj.cells ty2 c2 false 0)) nZ) nZ) nZ) nZ) nZ) nZ) (eE nZ (eE nZ (eE nZ (eE nZ (eE nZ (lL (AObj.cells ty c false 0))))))),next:=128 }
noncomputable def E(ty ty2 n m cap cap2:Nat)(c c2:List Value)(kn:Int):AS:=⟨⟨7,95,lL (Value.agg ⟨[sS 126 0 n cap,Value.slice none 0 9223372036854775808,iI kn,sS 127 0 m cap2]⟩),[Item.code (codeAt bd [])],[],FrameMode.run,CallKind.normal,none⟩,[],H0 ty ty2 n m cap cap2 c c2 kn⟩
noncomputable def S0(ty ty2 n m cap cap2:Nat)(c c2:List Value)(kn:Int) (d:Nat→Value):AS:=⟨⟨7,95,nS (d 0) (nS (pP 128 0) (nS (iI 0) (nS (d 7) (nS (d 15) (nS (d 31) (lL (d 63)) nZ) (nS (d 47) (lL (d 79)) nZ)) (nS (d 23) (nS (d 39) (lL (d 71)) nZ) (nS (d 55) (lL (d 87)) nZ))) (nS (d 11) (nS (d 19) (nS (d 35) (lL (d 67)) nZ) (nS (d 51) (lL (d 83)) nZ)) (nS (d 27) (nS (d 43) (lL (d 75)) nZ) (nS (d 59) (lL (d 91)) nZ)))) (nS (d 5) (nS (d 9) (nS (d 17) (nS (d 33) (lL (d 65)) nZ) (nS (d 49) (lL (d 81)) nZ)) (nS (d 25) (nS (d 41) (lL (d 73)) nZ) (nS (d 57) (lL (d 89)) nZ))) (nS (d 13) (nS (d 21) (nS (d 37) (lL (d 69)) nZ) (nS (d 53) (lL (d 85)) nZ)) (nS (d 29) (nS (d 45) (lL (d 77)) nZ) (nS (d 61) (lL (d 93)) nZ))))) (nS (d 2) (nS (iI 0) (nS (d 8) (nS (d 16) (nS (d 32) (lL (d 64)) nZ) (nS (d 48) (lL (d 80)) nZ)) (nS (d 24) (nS (d 40) (lL (d 72)) nZ) (nS (d 56) (lL (d 88)) nZ))) (nS (d 12) (nS (d 20) (nS (d 36) (lL (d 68)) nZ) (nS (d 52) (lL (d 84)) nZ)) (nS (d 28) (nS (d 44) (lL (d 76)) nZ) (nS (d 60) (lL (d 92)) nZ)))) (nS (d 6) (nS (d 10) (nS (d 18) (nS (d 34) (lL (d 66)) nZ) (nS (d 50) (lL (d 82)) nZ)) (nS (d 26) (nS (d 42) (lL (d 74)) nZ) (nS (d 58) (lL (d 90)) nZ))) (nS (d 14) (nS (d 22) (nS (d 38) (lL (d 70)) nZ) (nS (d 54) (lL (d 86)) nZ)) (nS (d 30) (nS (d 46) (lL (d 78)) nZ) (nS (d 62) (lL (d 94)) nZ))))),[Item.code (codeAt bd [1,1,1,0,1,0,0]),Item.inLoop (codeAt bd [1,1,1,0,1,0,0]),Item.inBlock 0,Item.code (codeAt bd [1,1,1,1])],[],FrameMode.run,CallKind.normal,none⟩,[],⟨eE (eE (eE (eE (eE (eE (eE (lL (AObj.cells ty2 c2 false 0)) nZ) nZ) nZ) nZ) nZ) nZ) (eE (eE (eE (eE (eE (eE (lL (AObj.cells 26 [sS 126 0 n cap,Value.slice none 0 9223372036854775808,iI kn,sS 127 0 m cap2] true 2)) nZ) nZ) nZ) nZ) nZ) (eE nZ (eE nZ (eE nZ (eE nZ (lL (AObj.cells ty c false 0))))))),129⟩⟩
noncomputable def S1(ty ty2 n m cap cap2:Nat)(c c2:List Value)(kn i0:Int)(d:Nat→Value):AS:=⟨⟨7,95,nS (d 0) (nS (pP 128 0) (nS (iI 0) (nS (d 7) (nS (d 15) (nS (d 31) (lL (d 63)) nZ) (nS (d 47) (lL (d 79)) nZ)) (nS (d 23) (nS (d 39) (lL (d 71)) nZ) (nS (d 55) (lL (d 87)) nZ))) (nS (d 11) (nS (d 19) (nS (d 35) (lL (d 67)) nZ) (nS (d 51) (lL (d 83)) nZ)) (nS (d 27) (nS (d 43) (lL (d 75)) nZ) (nS (d 59) (lL (d 91)) nZ)))) (nS (iI i0) (nS (d 9) (nS (d 17) (nS (d 33) (lL (d 65)) nZ) (nS (d 49) (lL (d 81)) nZ)) (nS (d 25) (nS (d 41) (lL (d 73)) nZ) (nS (d 57) (lL (d 89)) nZ))) (nS (d 13) (nS (d 21) (nS (d 37) (lL (d 69)) nZ) (nS (d 53) (lL (d 85)) nZ)) (nS (d 29) (nS (d 45) (lL (d 77)) nZ) (nS (d 61) (lL (d 93)) nZ))))) (nS (d 2) (nS (d 4) (nS (d 8) (nS (d 16) (nS (d 32) (lL (d 64)) nZ) (nS (d 48) (lL (d 80)) nZ)) (nS (d 24) (nS (d 40) (lL (d 72)) nZ) (nS (d 56) (lL (d 88)) nZ))) (nS (d 12) (nS (d 20) (nS (d 36) (lL (d 68)) nZ) (nS (d 52) (lL (d 84)) nZ)) (nS (d 28) (nS (d 44) (lL (d 76)) nZ) (nS (d 60) (lL (d 92)) nZ)))) (nS (d 6) (nS (d 10) (nS (d 18) (nS (d 34) (lL (d 66)) nZ) (nS (d 50) (lL (d 82)) nZ)) (nS (d 26) (nS (d 42) (lL (d 74)) nZ) (nS (d 58) (lL (d 90)) nZ))) (nS (d 14) (nS (d 22) (nS (d 38) (lL (d 70)) nZ) (nS (d 54) (lL (d 86)) nZ)) (nS (d 30) (nS (d 46) (lL (d 78)) nZ) (nS (d 62) (lL (d 94)) nZ))))),[Item.code (codeAt bd [1,1,1,1,0,1,0,0]),Item.inLoop (codeAt bd [1,1,1,1,0,1,0,0]),Item.inBlock 2,Item.code (codeAt bd [1,1,1,1,1])],[],FrameMode.run,CallKind.normal,none⟩,[],⟨eE (eE (eE (eE (eE (eE (eE (lL (AObj.cells ty2 c2 false 0)) nZ) nZ) nZ) nZ) nZ) nZ) (eE (eE (eE (eE (eE (eE (lL (AObj.cells 26 [sS 126 0 n cap,Value.slice none 0 9223372036854775808,iI kn,sS 127 0 m cap2] true 2)) nZ) nZ) nZ) nZ) nZ) (eE nZ (eE nZ (eE nZ (eE nZ (lL (AObj.cells ty c false 0))))))),129⟩⟩
theorem enter{η:Nat→Value}{B:Bd}(hη:OneCells η)(hmix:prog.follows .mixedOrders=true)(hreg:RegOk η prog B noNest){D:Value→AH→Prop}(ty ty2 n m cap cap2:Nat)(c c2:List Value)(kn:Int)(h:let q1:W:=(.stop [1,3,4] (S0 ty ty2 n m cap cap2 c c2 kn  (fun _=>undef)));let q0:W:=(.need (NoNames c∧NoNames c2∧True) (.done 7 (Value.bool true) (H0 ty ty2 n m cap cap2 c c2 kn)));W.holds η prog B 7 (fun kp_ st_=>RunD η prog B 7 (H0 ty ty2 n m cap cap2 c c2 kn) kp_ st_ (QF prog 128 D)) D (.ite (decide ((↑n:Int) > (20:Int))) q0 (.ite (decide ((↑m:Int) > (600:Int))) (.ite (decide ((↑m:Int)≤(4096:Int))) q0 (.ite (decide ((↑m:Int) > (5000:Int))) q0 q1)) (.ite (decide ((↑m:Int) > (5000:Int))) q0 q1)))):CallSpec η prog B 7 [Value.agg ⟨[Value.slice (some ⟨126,0,none⟩) n cap,Value.slice none 0 9223372036854775808,Value.int IntKind.i64 kn,Value.slice (some ⟨127,0,none⟩) m cap2]⟩] (H0 ty ty2 n m cap cap2 c c2 kn) D:=by
 refine CallSpec.ofQF hη (CallSpec.enter (fr:=(E ty ty2 n m cap cap2 c c2 kn).fr) (by kernel_rfl) ?_)
 exact walk_okT (h0:=H0 ty ty2 n m cap cap2 c c2 kn) hη hmix hreg (.steps 13 <| .bit 10 (.steps 30 <| .done (some ⟨128,[],[(126,(126,true)),(127,(127,true))]⟩)) (.steps 11 <| .bit 21 (.steps 7 <| .bit 28 (.steps 12 <| .done (some ⟨128,[],[(126,(126,true)),(127,(127,true))]⟩)) (.steps 6 <| .bit 33 (.steps 6 <| .done (some ⟨128,[],[(126,(126,true)),(127,(127,true))]⟩)) (.steps 13 <| .stop [1,3,4] none))) (.steps 13 <| .bit 33 (.steps 6 <| .done (some ⟨128,[],[(126,(126,true)),(127,(127,true))]⟩)) (.steps 13 <| .stop [1,3,4] none)))) (E ty ty2 n m cap cap2 c c2 kn) (by kernel_rfl) h (by kernel_rfl)
theorem cut0{η:Nat→Value}{B:Bd}(hη:OneCells η)(hmix:prog.follows .mixedOrders=true)(hreg:RegOk η prog B noNest){D:Value→AH→Prop}(ty ty2 n m cap cap2:Nat)(c c2:List Value)(kn:Int) (h:W.holds η prog B 7 (fun kp_ st_=>RunD η prog B 7 (H0 ty ty2 n m cap cap2 c c2 kn) kp_ st_ (QF prog 128 D)) D (.stop [1,3,5] (S1 ty ty2 n m cap cap2 c c2 kn (0) (fun _=>undef)))):RunD η prog B 7 (H0 ty ty2 n m cap cap2 c c2 kn) [1,3,4] (S0 ty ty2 n m cap cap2 c c2 kn  fun _=>undef) (QF prog 128 D):=by
 refine RunD.intro (S0 ty ty2 n m cap cap2 c c2 kn) (fun d=>⟨rfl,rfl,rfl⟩) (fun d=>tmOk_get (by kernel_rfl)) (fun d=>by kernel_rfl) (fun d=>?_)
 exact walk_okT (h0:=H0 ty ty2 n m cap cap2 c c2 kn) hη hmix hreg (.steps 18 <| .stop [1,3,5] none) (S0 ty ty2 n m cap cap2 c c2 kn  d) (by kernel_rfl) h (by kernel_rfl)
theorem cut1{η:Nat→Value}{B:Bd}(hη:OneCells η)(hmix:prog.follows .mixedOrders=true)(hreg:RegOk η prog B noNest){D:Value→AH→Prop}(ty ty2 n m cap cap2:Nat)(c c2:List Value)(kn i0:Int)(h:W.holds η prog B 7 (fun kp_ st_=>RunD η prog B 7 (H0 ty ty2 n m cap cap2 c c2 kn) kp_ st_ (QF prog 128 D)) D (.ite (decide (i0<(↑n:Int))) (.need ((0:Int)≤i0∧i0<(↑n:Int)) (.need (c[(0:Nat)+i0.toNat * (1:Nat)]? = some (Value.string ⟨⟨strAt c ((0:Nat)+i0.toNat * (1:Nat))⟩⟩)) (.ite (decide ((↑(strAt c ((0:Nat)+i0.toNat * (1:Nat))).length:Int) > (100:Int))) (.need (NoNames c∧NoNames c2∧True) (.done 7 (Value.bool true) (H0 ty ty2 n m cap cap2 c c2 kn))) (.stop [1,3,5] (S1 ty ty2 n m cap cap2 c c2 kn (IntKind.i64.wrap (i0+1)) (fun _=>undef)))))) (.need (NoNames c∧NoNames c2∧True) (.done 7 (Value.bool false) (H0 ty ty2 n m cap cap2 c c2 kn))))):RunD η prog B 7 (H0 ty ty2 n m cap cap2 c c2 kn) [1,3,5] (S1 ty ty2 n m cap cap2 c c2 kn i0 fun _=>undef) (QF prog 128 D):=by
 refine RunD.intro (S1 ty ty2 n m cap cap2 c c2 kn i0) (fun d=>⟨rfl,rfl,rfl⟩) (fun d=>tmOk_get (by kernel_rfl)) (fun d=>by kernel_rfl) (fun d=>?_)
 exact walk_okT (h0:=H0 ty ty2 n m cap cap2 c c2 kn) hη hmix hreg (.steps 9 <| .bit 79 (.steps 9 <| .op <| .op <| .steps 3 <| .bit 88 (.steps 6 <| .done (some ⟨128,[],[(126,(126,true)),(127,(127,true))]⟩)) (.steps 9 <| .stop [1,3,5] none)) (.steps 13 <| .done (some ⟨128,[],[(126,(126,true)),(127,(127,true))]⟩))) (S1 ty ty2 n m cap cap2 c c2 kn i0 d) (by kernel_rfl) h (by kernel_rfl)
end RFaNEN
namespace RFaNEE
noncomputable def bd:Code:=(Go.Proofs.Tryd.f7.body).getD .skip
noncomputable def H0(ty n cap:Nat)(c:List Value)(kn:Int):AH:={ objs:=eE nZ (eE nZ (eE nZ (eE nZ (eE nZ (eE nZ (lL (AObj.cells ty c false 0))))))),next:=127 }
noncomputable def E(ty n cap:Nat)(c:List Value)(kn:Int):AS:=⟨⟨7,95,lL (Value.agg ⟨[sS 126 0 n cap,Value.slice none 0 9223372036854775808,iI kn,Value.slice none 0 9223372036854775808]⟩),[Item.code (codeAt bd [])],[],FrameMode.run,CallKind.normal,none⟩,[],H0 ty n cap c kn⟩
noncomputable def S0(ty n cap:Nat)(c:List Value)(kn:Int) (d:Nat→Value):AS:=⟨⟨7,95,nS (d 0) (nS (pP 127 0) (nS (iI 0) (nS (d 7) (nS (d 15) (nS (d 31) (lL (d 63)) nZ) (nS (d 47) (lL (d 79)) nZ)) (nS (d 23) (nS (d 39) (lL (d 71)) nZ) (nS (d 55) (lL (d 87)) nZ))) (nS (d 11) (nS (d 19) (nS (d 35) (lL (d 67)) nZ) (nS (d 51) (lL (d 83)) nZ)) (nS (d 27) (nS (d 43) (lL (d 75)) nZ) (nS (d 59) (lL (d 91)) nZ)))) (nS (d 5) (nS (d 9) (nS (d 17) (nS (d 33) (lL (d 65)) nZ) (nS (d 49) (lL (d 81)) nZ)) (nS (d 25) (nS (d 41) (lL (d 73)) nZ) (nS (d 57) (lL (d 89)) nZ))) (nS (d 13) (nS (d 21) (nS (d 37) (lL (d 69)) nZ) (nS (d 53) (lL (d 85)) nZ)) (nS (d 29) (nS (d 45) (lL (d 77)) nZ) (nS (d 61) (lL (d 93)) nZ))))) (nS (d 2) (nS (iI 0) (nS (d 8) (nS (d 16) (nS (d 32) (lL (d 64)) nZ) (nS (d 48) (lL (d 80)) nZ)) (nS (d 24) (nS (d 40) (lL (d 72)) nZ) (nS (d 56) (lL (d 88)) nZ))) (nS (d 12) (nS (d 20) (nS (d 36) (lL (d 68)) nZ) (nS (d 52) (lL (d 84)) nZ)) (nS (d 28) (nS (d 44) (lL (d 76)) nZ) (nS (d 60) (lL (d 92)) nZ)))) (nS (d 6) (nS (d 10) (nS (d 18) (nS (d 34) (lL (d 66)) nZ) (nS (d 50) (lL (d 82)) nZ)) (nS (d 26) (nS (d 42) (lL (d 74)) nZ) (nS (d 58) (lL (d 90)) nZ))) (nS (d 14) (nS (d 22) (nS (d 38) (lL (d 70)) nZ) (nS (d 54) (lL (d 86)) nZ)) (nS (d 30) (nS (d 46) (lL (d 78)) nZ) (nS (d 62) (lL (d 94)) nZ))))),[Item.code (codeAt bd [1,1,1,0,1,0,0]),Item.inLoop (codeAt bd [1,1,1,0,1,0,0]),Item.inBlock 0,Item.code (codeAt bd [1,1,1,1])],[],FrameMode.run,CallKind.normal,none⟩,[],⟨eE (eE (eE (eE (eE (eE (eE (lL (AObj.cells 26 [sS 126 0 n cap,Value.slice none 0 9223372036854775808,iI kn,Value.slice none 0 9223372036854775808] true 2)) nZ) nZ) nZ) nZ) nZ) nZ) (eE nZ (eE nZ (eE nZ (eE nZ (eE nZ (lL (AObj.cells ty c false 0))))))),128⟩⟩
noncomputable def S1(ty n cap:Nat)(c:List Value)(kn i0:Int)(d:Nat→Value):AS:=⟨⟨7,95,nS (d 0) (nS (pP 127 0) (nS (iI 0) (nS (d 7) (nS (d 15) (nS (d 31) (lL (d 63)) nZ) (nS (d 47) (lL (d 79)) nZ)) (nS (d 23) (nS (d 39) (lL (d 71)) nZ) (nS (d 55) (lL (d 87)) nZ))) (nS (d 11) (nS (d 19) (nS (d 35) (lL (d 67)) nZ) (nS (d 51) (lL (d 83)) nZ)) (nS (d 27) (nS (d 43) (lL (d 75)) nZ) (nS (d 59) (lL (d 91)) nZ)))) (nS (iI i0) (nS (d 9) (nS (d 17) (nS (d 33) (lL (d 65)) nZ) (nS (d 49) (lL (d 81)) nZ)) (nS (d 25) (nS (d 41) (lL (d 73)) nZ) (nS (d 57) (lL (d 89)) nZ))) (nS (d 13) (nS (d 21) (nS (d 37) (lL (d 69)) nZ) (nS (d 53) (lL (d 85)) nZ)) (nS (d 29) (nS (d 45) (lL (d 77)) nZ) (nS (d 61) (lL (d 93)) nZ))))) (nS (d 2) (nS (d 4) (nS (d 8) (nS (d 16) (nS (d 32) (lL (d 64)) nZ) (nS (d 48) (lL (d 80)) nZ)) (nS (d 24) (nS (d 40) (lL (d 72)) nZ) (nS (d 56) (lL (d 88)) nZ))) (nS (d 12) (nS (d 20) (nS (d 36) (lL (d 68)) nZ) (nS (d 52) (lL (d 84)) nZ)) (nS (d 28) (nS (d 44) (lL (d 76)) nZ) (nS (d 60) (lL (d 92)) nZ)))) (nS (d 6) (nS (d 10) (nS (d 18) (nS (d 34) (lL (d 66)) nZ) (nS (d 50) (lL (d 82)) nZ)) (nS (d 26) (nS (d 42) (lL (d 74)) nZ) (nS (d 58) (lL (d 90)) nZ))) (nS (d 14) (nS (d 22) (nS (d 38) (lL (d 70)) nZ) (nS (d 54) (lL (d 86)) nZ)) (nS (d 30) (nS (d 46) (lL (d 78)) nZ) (nS (d 62) (lL (d 94)) nZ))))),[Item.code (codeAt bd [1,1,1,1,0,1,0,0]),Item.inLoop (codeAt bd [1,1,1,1,0,1,0,0]),Item.inBlock 2,Item.code (codeAt bd [1,1,1,1,1])],[],FrameMode.run,CallKind.normal,none⟩,[],⟨eE (eE (eE (eE (eE (eE (eE (lL (AObj.cells 26 [sS 126 0 n cap,Value.slice none 0 9223372036854775808,iI kn,Value.slice none 0 9223372036854775808] true 2)) nZ) nZ) nZ) nZ) nZ) nZ) (eE nZ (eE nZ (eE nZ (eE nZ (eE nZ (lL (AObj.cells ty c false 0))))))),128⟩⟩
theorem enter{η:Nat→Value}{B:Bd}(hη:OneCells η)(hmix:prog.follows .mixedOrders=true)(hreg:RegOk η prog B noNest){D:Value→AH→Prop}(ty n cap:Nat)(c:List Value)(kn:Int)(h:W.holds η prog B 7 (fun kp_ st_=>RunD η prog B 7 (H0 ty n cap c kn) kp_ st_ (QF prog 127 D)) D (.ite (decide ((↑n:Int) > (20:Int))) (.need (NoNames c∧True) (.done 7 (Value.bool true) (H0 ty n cap c kn))) (.stop [1,3,4] (S0 ty n cap c kn  (fun _=>undef))))):CallSpec η prog B 7 [Value.agg ⟨[Value.slice (some ⟨126,0,none⟩) n cap,Value.slice none 0 9223372036854775808,Value.int IntKind.i64 kn,Value.slice none 0 9223372036854775808]⟩] (H0 ty n cap c kn) D:=by
 refine CallSpec.ofQF hη (CallSpec.enter (fr:=(E ty n cap c kn).fr) (by kernel_rfl) ?_)
 exact walk_okT (h0:=H0 ty n cap c kn) hη hmix hreg (.steps 13 <| .bit 10 (.steps 30 <| .done (some ⟨127,[],[(126,(126,true))]⟩)) (.steps 37 <| .stop [1,3,4] none)) (E ty n cap c kn) (by kernel_rfl) h (by kernel_rfl)
theorem cut0{η:Nat→Value}{B:Bd}(hη:OneCells η)(hmix:prog.follows .mixedOrders=true)(hreg:RegOk η prog B noNest){D:Value→AH→Prop}(ty n cap:Nat)(c:List Value)(kn:Int) (h:W.holds η prog B 7 (fun kp_ st_=>RunD η prog B 7 (H0 ty n cap c kn) kp_ st_ (QF prog 127 D)) D (.stop [1,3,5] (S1 ty n cap c kn (0) (fun _=>undef)))):RunD η prog B 7 (H0 ty n cap c kn) [1,3,4] (S0 ty n cap c kn  fun _=>undef) (QF prog 127 D):=by
 refine RunD.intro (S0 ty n cap c kn) (fun d=>⟨rfl,rfl,rfl⟩) (fun d=>tmOk_get (by kernel_rfl)) (fun d=>by kernel_rfl) (fun d=>?_)
 exact walk_okT (h0:=H0 ty n cap c kn) hη hmix hreg (.steps 18 <| .stop [1,3,5] none) (S0 ty n cap c kn  d) (by kernel_rfl) h (by kernel_rfl)
theorem cut1{η:Nat→Value}{B:Bd}(hη:OneCells η)(hmix:prog.follows .mixedOrders=true)(hreg:RegOk η prog B noNest){D:Value→AH→Prop}(ty n cap:Nat)(c:List Value)(kn i0:Int)(h:W.holds η prog B 7 (fun kp_ st_=>RunD η prog B 7 (H0 ty n cap c kn) kp_ st_ (QF prog 127 D)) D (.ite (decide (i0<(↑n:Int))) (.need ((0:Int)≤i0∧i0<(↑n:Int)) (.need (c[(0:Nat)+i0.toNat * (1:Nat)]? = some (Value.string ⟨⟨strAt c ((0:Nat)+i0.toNat * (1:Nat))⟩⟩)) (.ite (decide ((↑(strAt c ((0:Nat)+i0.toNat * (1:Nat))).length:Int) > (100:Int))) (.need (NoNames c∧True) (.done 7 (Value.bool true) (H0 ty n cap c kn))) (.stop [1,3,5] (S1 ty n cap c kn (IntKind.i64.wrap (i0+1)) (fun _=>undef)))))) (.need (NoNames c∧True) (.done 7 (Value.bool false) (H0 ty n cap c kn))))):RunD η prog B 7 (H0 ty n cap c kn) [1,3,5] (S1 ty n cap c kn i0 fun _=>undef) (QF prog 127 D):=by
 refine RunD.intro (S1 ty n cap c kn i0) (fun d=>⟨rfl,rfl,rfl⟩) (fun d=>tmOk_get (by kernel_rfl)) (fun d=>by kernel_rfl) (fun d=>?_)
 exact walk_okT (h0:=H0 ty n cap c kn) hη hmix hreg (.steps 9 <| .bit 79 (.steps 9 <| .op <| .op <| .steps 3 <| .bit 88 (.steps 6 <| .done (some ⟨127,[],[(126,(126,true))]⟩)) (.steps 9 <| .stop [1,3,5] none)) (.steps 13 <| .done (some ⟨127,[],[(126,(126,true))]⟩))) (S1 ty n cap c kn i0 d) (by kernel_rfl) h (by kernel_rfl)
end RFaNEE
namespace RFaENN
noncomputable def bd:Code:=(Go.Proofs.Tryd.f7.body).getD .skip
noncomputable def H0(ty' ty2 n' m cap' cap2:Nat)(c' c2:List Value)(kn:Int):AH:={ objs:=eE (eE (eE (eE (eE (eE (eE (lL (AObj.cells ty2 c2 false 0)) nZ) nZ) nZ) nZ) nZ) nZ) (eE nZ (eE nZ (eE nZ (eE nZ (eE nZ (lL (AObj.cells ty' c' false 0))))))),next:=128 }
noncomputable def E(ty' ty2 n' m cap' cap2:Nat)(c' c2:List Value)(kn:Int):AS:=⟨⟨7,95,lL (Value.agg ⟨[Value.slice none 0 9223372036854775808,sS 126 0 n' cap',iI kn,sS 127 0 m cap2]⟩),[Item.code (codeAt bd [])],[],FrameMode.run,CallKind.normal,none⟩,[],H0 ty' ty2 n' m cap' cap2 c' c2 kn⟩
noncomputable def S0(ty' ty2 n' m cap' cap2:Nat)(c' c2:List Value)(kn i0 i1:Int)(d:Nat→Value):AS:=⟨⟨7,95,nS (d 0) (nS (pP 128 0) (nS (iI i0) (nS (d 7) (nS (d 15) (nS (d 31) (lL (d 63)) nZ) (nS (d 47) (lL (d 79)) nZ)) (nS (d 23) (nS (d 39) (lL (d 71)) nZ) (nS (d 55) (lL (d 87)) nZ))) (nS (d 11) (nS (d 19) (nS (d 35) (lL (d 67)) nZ) (nS (d 51) (lL (d 83)) nZ)) (nS (d 27) (nS (d 43) (lL (d 75)) nZ) (nS (d 59) (lL (d 91)) nZ)))) (nS (d 5) (nS (d 9) (nS (d 17) (nS (d 33) (lL (d 65)) nZ) (nS (d 49) (lL (d 81)) nZ)) (nS (d 25) (nS (d 41) (lL (d 73)) nZ) (nS (d 57) (lL (d 89)) nZ))) (nS (d 13) (nS (d 21) (nS (d 37) (lL (d 69)) nZ) (nS (d 53) (lL (d 85)) nZ)) (nS (d 29) (nS (d 45) (lL (d 77)) nZ) (nS (d 61) (lL (d 93)) nZ))))) (nS (d 2) (nS (iI i1) (nS (d 8) (nS (d 16) (nS (d 32) (lL (d 64)) nZ) (nS (d 48) (lL (d 80)) nZ)) (nS (d 24) (nS (d 40) (lL (d 72)) nZ) (nS (d 56) (lL (d 88)) nZ))) (nS (d 12) (nS (d 20) (nS (d 36) (lL (d 68)) nZ) (nS (d 52) (lL (d 84)) nZ)) (nS (d 28) (nS (d 44) (lL (d 76)) nZ) (nS (d 60) (lL (d 92)) nZ)))) (nS (d 6) (nS (d 10) (nS (d 18) (nS (d 34) (lL (d 66)) nZ) (nS (d 50) (lL (d 82)) nZ)) (nS (d 26) (nS (d 42) (lL (d 74)) nZ) (nS (d 58) (lL (d 90)) nZ))) (nS (d 14) (nS (d 22) (nS (d 38) (lL (d 70)) nZ) (nS (d 54) (lL (d 86)) nZ)) (nS (d 30) (nS (d 46) (lL (d 78)) nZ) (nS (d 62) (lL (d 94)) nZ))))),[Item.code (codeAt bd [1,1,1,0,1,0,0]),Item.inLoop (codeAt bd [1,1,1,0,1,0,0]),Item.inBlock 0,Item.code (codeAt bd [1,1,1,1])],[],FrameMode.run,CallKind.normal,none⟩,[],⟨eE (eE (eE (eE (eE (eE (eE (lL (AObj.cells ty2 c2 false 0)) nZ) nZ) nZ) nZ) nZ) nZ) (eE (eE (eE (eE (eE (eE (lL (AObj.cells 26 [Value.slice none 0 9223372036854775808,sS 126 0 n' cap',iI kn,sS 127 0 m cap2] true 2)) nZ) nZ) nZ) nZ) nZ) (eE nZ (eE nZ (eE nZ (eE nZ (lL (AObj.cells ty' c' false 0))))))),129⟩⟩
noncomputable def S1(ty' ty2 n' m cap' cap2:Nat)(c' c2:List Value)(kn i0:Int)(d:Nat→Value):AS:=⟨⟨7,95,nS (d 0) (nS (pP 128 0) (nS (iI i0) (nS (d 7) (nS (d 15) (nS (d 31) (lL (d 63)) nZ) (nS (d 47) (lL (d 79)) nZ)) (nS (d 23) (nS (d 39) (lL (d 71)) nZ) (nS (d 55) (lL (d 87)) nZ))) (nS (d 11) (nS (d 19) (nS (d 35) (lL (d 67)) nZ) (nS (d 51) (lL (d 83)) nZ)) (nS (d 27) (nS (d 43) (lL (d 75)) nZ) (nS (d 59) (lL (d 91)) nZ)))) (nS (iI 0) (nS (d 9) (nS (d 17) (nS (d 33) (lL (d 65)) nZ) (nS (d 49) (lL (d 81)) nZ)) (nS (d 25) (nS (d 41) (lL (d 73)) nZ) (nS (d 57) (lL (d 89)) nZ))) (nS (d 13) (nS (d 21) (nS (d 37) (lL (d 69)) nZ) (nS (d 53) (lL (d 85)) nZ)) (nS (d 29) (nS (d 45) (lL (d 77)) nZ) (nS (d 61) (lL (d 93)) nZ))))) (nS (d 2) (nS (d 4) (nS (d 8) (nS (d 16) (nS (d 32) (lL (d 64)) nZ) (nS (d 48) (lL (d 80)) nZ)) (nS (d 24) (nS (d 40) (lL (d 72)) nZ) (nS (d 56) (lL (d 88)) nZ))) (nS (d 12) (nS (d 20) (nS (d 36) (lL (d 68)) nZ) (nS (d 52) (lL (d 84)) nZ)) (nS (d 28) (nS (d 44) (lL (d 76)) nZ) (nS (d 60) (lL (d 92)) nZ)))) (nS (d 6) (nS (d 10) (nS (d 18) (nS (d 34) (lL (d 66)) nZ) (nS (d 50) (lL (d 82)) nZ)) (nS (d 26) (nS (d 42) (lL (d 74)) nZ) (nS (d 58) (lL (d 90)) nZ))) (nS (d 14) (nS (d 22) (nS (d 38) (lL (d 70)) nZ) (nS (d 54) (lL (d 86)) nZ)) (nS (d 30) (nS (d 46) (lL (d 78)) nZ) (nS (d 62) (lL (d 94)) nZ))))),[Item.code (codeAt bd [1,1,1,1,0,1,0,0]),Item.inLoop (codeAt bd [1,1,1,1,0,1,0,0]),Item.inBlock 2,Item.code (codeAt bd [1,1,1,1,1])],[],FrameMode.run,CallKind.normal,none⟩,[],⟨eE (eE (eE (eE (eE (eE (eE (lL (AObj.cells ty2 c2 false 0)) nZ) nZ) nZ) nZ) nZ) nZ) (eE (eE (eE (eE (eE (eE (lL (AObj.cells 26 [Value.slice none 0 9223372036854775808,sS 126 0 n' cap',iI kn,sS 127 0 m cap2] true 2)) nZ) nZ) nZ) nZ) nZ) (eE nZ (eE nZ (eE nZ (eE nZ (lL (AObj.cells ty' c' false 0))))))),129⟩⟩
theorem enter{η:Nat→Value}{B:Bd}(hη:OneCells η)(hmix:prog.follows .mixedOrders=true)(hreg:RegOk η prog B noNest){D:Value→AH→Prop}(ty' ty2 n' m cap' cap2:Nat)(c' c2:List Value)(kn:Int)(h:let q1:W:=(.stop [1,3,4] (S0 ty' ty2 n' m cap' cap2 c' c2 kn (0) (0) (fun _=>undef)));let q0:W:=(.need (NoNames c'∧NoNames c2∧True) (.done 7 (Value.bool true) (H0 ty' ty2 n' m cap' cap2 c' c2 kn)));W.holds η prog B 7 (fun kp_ st_=>RunD η prog B 7 (H0 ty' ty2 n' m cap' cap2 c' c2 kn) kp_ st_ (QF prog 128 D)) D (.ite (decide ((↑n':Int) > (20:Int))) q0 (.ite (decide ((↑m:Int) > (600:Int))) (.ite (decide ((↑m:Int)≤(4096:Int))) q0 (.ite (decide ((↑m:Int) > (5000:Int))) q0 q1)) (.ite (decide ((↑m:Int) > (5000:Int))) q0 q1)))):CallSpec η prog B 7 [Value.agg ⟨[Value.slice none 0 9223372036854775808,Value.slice (some ⟨126,0,none⟩) n' cap',Value.int IntKind.i64 kn,Value.slice (some ⟨127,0,none⟩) m cap2]⟩] (H0 ty' ty2 n' m cap' cap2 c' c2 kn) D:=by
 refine CallSpec.ofQF hη (CallSpec.enter (fr:=(E ty' ty2 n' m cap' cap2 c' c2 kn).fr) (by kernel_rfl) ?_)
 exact walk_okT (h0:=H0 ty' ty2 n' m cap' cap2 c' c2 kn) hη hmix hreg (.steps 19 <| .bit 16 (.steps 24 <| .done (some ⟨128,[],[(126,(126,true)),(127,(127,true))]⟩)) (.steps 5 <| .bit 21 (.steps 7 <| .bit 28 (.steps 12 <| .done (some ⟨128,[],[(126,(126,true)),(127,(127,true))]⟩)) (.steps 6 <| .bit 33 (.steps 6 <| .done (some ⟨128,[],[(126,(126,true)),(127,(127,true))]⟩)) (.steps 13 <| .stop [1,3,4] none))) (.steps 13 <| .bit 33 (.steps 6 <| .done (some ⟨128,[],[(126,(126,true)),(127,(127,true))]⟩)) (.steps 13 <| .stop [1,3,4] none)))) (E ty' ty2 n' m cap' cap2 c' c2 kn) (by kernel_rfl) h (by kernel_rfl)
theorem cut0{η:Nat→Value}{B:Bd}(hη:OneCells η)(hmix:prog.follows .mixedOrders=true)(hreg:RegOk η prog B noNest){D:Value→AH→Prop}(ty' ty2 n' m cap' cap2:Nat)(c' c2:List Value)(kn i0 i1:Int)(h:let q1:=(Value.int IntKind.i64 (intAt c' ((0:Nat)+i1.toNat * (1:Nat))));let q0:W:=(.stop [1,3,4] (S0 ty' ty2 n' m cap' cap2 c' c2 kn (i0) (IntKind.i64.wrap (i1+1)) (fun _=>undef)));W.holds η prog B 7 (fun kp_ st_=>RunD η prog B 7 (H0 ty' ty2 n' m cap' cap2 c' c2 kn) kp_ st_ (QF prog 128 D)) D (.ite (decide (i1<(↑n':Int))) (.need ((0:Int)≤i1∧i1<(↑n':Int)) (.need (c'[(0:Nat)+i1.toNat * (1:Nat)]? = some q1) (.ite (decide (intAt c' ((0:Nat)+i1.toNat * (1:Nat)) ≥ (0:Int))) (.need ((0:Int)≤i1∧i1<(↑n':Int)) (.need (c'[(0:Nat)+i1.toNat * (1:Nat)]? = some q1) (.ite (decide (intAt c' ((0:Nat)+i1.toNat * (1:Nat))≤(20:Int))) (.ite (decide (kn ≥ (0:Int))) (.ite (decide (kn≤(100:Int))) (.need ((0:Int)≤i1∧i1<(↑n':Int)) (.need (c'[(0:Nat)+i1.toNat * (1:Nat)]? = some q1) (.need (NoNames c'∧NoNames c2∧True∧True) (.stop [1,3,4] (S0 ty' ty2 n' m cap' cap2 c' c2 kn (IntKind.i64.wrap (i0+IntKind.i64.wrap (intAt c' (0+i1.toNat * 1) * kn))) (IntKind.i64.wrap (i1+1)) (fun _=>undef)))))) q0) q0) q0))) q0))) (.stop [1,3,5] (S1 ty' ty2 n' m cap' cap2 c' c2 kn (i0) (fun _=>undef))))):RunD η prog B 7 (H0 ty' ty2 n' m cap' cap2 c' c2 kn) [1,3,4] (S0 ty' ty2 n' m cap' cap2 c' c2 kn i0 i1 fun _=>undef) (QF prog 128 D):=by
 refine RunD.intro (S0 ty' ty2 n' m cap' cap2 c' c2 kn i0 i1) (fun d=>⟨rfl,rfl,rfl⟩) (fun d=>tmOk_get (by kernel_rfl)) (fun d=>by kernel_rfl) (fun d=>?_)
 exact walk_okT (h0:=H0 ty' ty2 n' m cap' cap2 c' c2 kn) hη hmix hreg (.steps 9 <| .bit 38 (.steps 9 <| .op <| .op <| .steps 2 <| .bit 47 (.steps 3 <| .op <| .op <| .steps 3 <| .bit 55 (.steps 5 <| .bit 60 (.steps 5 <| .bit 64 (.steps 1 <| .reg <| .steps 4 <| .op <| .op <| .steps 5 <| .reg <| .steps 7 <| .stop [1,3,4] (some ⟨129,[(128,128)],[(126,(126,true)),(127,(127,true)),(128,(128,false))]⟩)) (.steps 9 <| .stop [1,3,4] none)) (.steps 14 <| .stop [1,3,4] none)) (.steps 19 <| .stop [1,3,4] none)) (.steps 27 <| .stop [1,3,4] none)) (.steps 9 <| .stop [1,3,5] none)) (S0 ty' ty2 n' m cap' cap2 c' c2 kn i0 i1 d) (by kernel_rfl) h (by kernel_rfl)
theorem cut1{η:Nat→Value}{B:Bd}(hη:OneCells η)(hmix:prog.follows .mixedOrders=true)(hreg:RegOk η prog B noNest){D:Value→AH→Prop}(ty' ty2 n' m cap' cap2:Nat)(c' c2:List Value)(kn i0:Int)(h:W.holds η prog B 7 (fun kp_ st_=>RunD η prog B 7 (H0 ty' ty2 n' m cap' cap2 c' c2 kn) kp_ st_ (QF prog 128 D)) D (.ite (decide (i0 > (600:Int))) (.need (NoNames c'∧NoNames c2∧True) (.done 7 (Value.bool (decide (i0≤4096))) (H0 ty' ty2 n' m cap' cap2 c' c2 kn))) (.need (NoNames c'∧NoNames c2∧True) (.done 7 (Value.bool false) (H0 ty' ty2 n' m cap' cap2 c' c2 kn))))):RunD η prog B 7 (H0 ty' ty2 n' m cap' cap2 c' c2 kn) [1,3,5] (S1 ty' ty2 n' m cap' cap2 c' c2 kn i0 fun _=>undef) (QF prog 128 D):=by
 refine RunD.intro (S1 ty' ty2 n' m cap' cap2 c' c2 kn i0) (fun d=>⟨rfl,rfl,rfl⟩) (fun d=>tmOk_get (by kernel_rfl)) (fun d=>by kernel_rfl) (fun d=>?_)
 exact walk_okT (h0:=H0 ty' ty2 n' m cap' cap2 c' c2 kn) hη hmix hreg (.steps 16 <| .bit 91 (.steps 6 <| .done (some ⟨128,[],[(126,(126,true)),(127,(127,true))]⟩)) (.steps 6 <| .done (some ⟨128,[],[(126,(126,true)),(127,(127,true))]⟩))) (S1 ty' ty2 n' m cap' cap2 c' c2 kn i0 d) (by kernel_rfl) h (by kernel_rfl)
end RFaENN
namespace RFaENE
noncomputable def bd:Code:=(Go.Proofs.Tryd.f7.body).getD .skip
noncomputable def H0(ty' n' cap':Nat)(c':List Value)(kn:Int):AH:={ objs:=eE nZ (eE nZ (eE nZ (eE nZ (eE nZ (eE nZ (lL (AObj.cells ty' c' false 0))))))),next:=127 }
noncomputable def E(ty' n' cap':Nat)(c':List Value)(kn:Int):AS:=⟨⟨7,95,lL (Value.agg ⟨[Value.slice none 0 9223372036854775808,sS 126 0 n' cap',iI kn,Value.slice none 0 9223372036854775808]⟩),[Item.code (codeAt bd [])],[],FrameMode.run,CallKind.normal,none⟩,[],H0 ty' n' cap' c' kn⟩
noncomputable def S0(ty' n' cap':Nat)(c':List Value)(kn i0 i1:Int)(d:Nat→Value):AS:=⟨⟨7,95,nS (d 0) (nS (pP 127 0) (nS (iI i0) (nS (d 7) (nS (d 15) (nS (d 31) (lL (d 63)) nZ) (nS (d 47) (lL (d 79)) nZ)) (nS (d 23) (nS (d 39) (lL (d 71)) nZ) (nS (d 55) (lL (d 87)) nZ))) (nS (d 11) (nS (d 19) (nS (d 35) (lL (d 67)) nZ) (nS (d 51) (lL (d 83)) nZ)) (nS (d 27) (nS (d 43) (lL (d 75)) nZ) (nS (d 59) (lL (d 91)) nZ)))) (nS (d 5) (nS (d 9) (nS (d 17) (nS (d 33) (lL (d 65)) nZ) (nS (d 49) (lL (d 81)) nZ)) (nS (d 25) (nS (d 41) (lL (d 73)) nZ) (nS (d 57) (lL (d 89)) nZ))) (nS (d 13) (nS (d 21) (nS (d 37) (lL (d 69)) nZ) (nS (d 53) (lL (d 85)) nZ)) (nS (d 29) (nS (d 45) (lL (d 77)) nZ) (nS (d 61) (lL (d 93)) nZ))))) (nS (d 2) (nS (iI i1) (nS (d 8) (nS (d 16) (nS (d 32) (lL (d 64)) nZ) (nS (d 48) (lL (d 80)) nZ)) (nS (d 24) (nS (d 40) (lL (d 72)) nZ) (nS (d 56) (lL (d 88)) nZ))) (nS (d 12) (nS (d 20) (nS (d 36) (lL (d 68)) nZ) (nS (d 52) (lL (d 84)) nZ)) (nS (d 28) (nS (d 44) (lL (d 76)) nZ) (nS (d 60) (lL (d 92)) nZ)))) (nS (d 6) (nS (d 10) (nS (d 18) (nS (d 34) (lL (d 66)) nZ) (nS (d 50) (lL (d 82)) nZ)) (nS (d 26) (nS (d 42) (lL (d 74)) nZ) (nS (d 58) (lL (d 90)) nZ))) (nS (d 14) (nS (d 22) (nS (d 38) (lL (d 70)) nZ) (nS (d 54) (lL (d 86)) nZ)) (nS (d 30) (nS (d 46) (lL (d 78)) nZ) (nS (d 62) (lL (d 94)) nZ))))),[Item.code (codeAt bd [1,1,1,0,1,0,0]),Item.inLoop (codeAt bd [1,1,1,0,1,0,0]),Item.inBlock 0,Item.code (codeAt bd [1,1,1,1])],[],FrameMode.run,CallKind.normal,none⟩,[],⟨eE (eE (eE (eE (eE (eE (eE (lL (AObj.cells 26 [Value.slice none 0 9223372036854775808,sS 126 0 n' cap',iI kn,Value.slice none 0 9223372036854775808] true 2)) nZ) nZ) nZ) nZ) nZ) nZ) (eE nZ (eE nZ (eE nZ (eE nZ (eE nZ (lL (AObj.cells ty' c' false 0))))))),128⟩⟩
noncomputable def S1(ty' n' cap':Nat)(c':List Value)(kn i0:Int)(d:Nat→Value):AS:=⟨⟨7,95,nS (d 0) (nS (pP 127 0) (nS (iI i0) (nS (d 7) (nS (d 15) (nS (d 31) (lL (d 63)) nZ) (nS (d 47) (lL (d 79)) nZ)) (nS (d 23) (nS (d 39) (lL (d 71)) nZ) (nS (d 55) (lL (d 87)) nZ))) (nS (d 11) (nS (d 19) (nS (d 35) (lL (d 67)) nZ) (nS (d 51) (lL (d 83)) nZ)) (nS (d 27) (nS (d 43) (lL (d 75)) nZ) (nS (d 59) (lL (d 91)) nZ)))) (nS (iI 0) (nS (d 9) (nS (d 17) (nS (d 33) (lL (d 65)) nZ) (nS (d 49) (lL (d 81)) nZ)) (nS (d 25) (nS (d 41) (lL (d 73)) nZ) (nS (d 57) (lL (d 89)) nZ))) (nS (d 13) (nS (d 21) (nS (d 37) (lL (d 69)) nZ) (nS (d 53) (lL (d 85)) nZ)) (nS (d 29) (nS (d 45) (lL (d 77)) nZ) (nS (d 61) (lL (d 93)) nZ))))) (nS (d 2) (nS (d 4) (nS (d 8) (nS (d 16) (nS (d 32) (lL (d 64)) nZ) (nS (d 48) (lL (d 80)) nZ)) (nS (d 24) (nS (d 40) (lL (d 72)) nZ) (nS (d 56) (lL (d 88)) nZ))) (nS (d 12) (nS (d 20) (nS (d 36) (lL (d 68)) nZ) (nS (d 52) (lL (d 84)) nZ)) (nS (d 28) (nS (d 44) (lL (d 76)) nZ) (nS (d 60) (lL (d 92)) nZ)))) (nS (d 6) (nS (d 10) (nS (d 18) (nS (d 34) (lL (d 66)) nZ) (nS (d 50) (lL (d 82)) nZ)) (nS (d 26) (nS (d 42) (lL (d 74)) nZ) (nS (d 58) (lL (d 90)) nZ))) (nS (d 14) (nS (d 22) (nS (d 38) (lL (d 70)) nZ) (nS (d 54) (lL (d 86)) nZ)) (nS (d 30) (nS (d 46) (lL (d 78)) nZ) (nS (d 62) (lL (d 94)) nZ))))),[Item.code (codeAt bd [1,1,1,1,0,1,0,0]),Item.inLoop (codeAt bd [1,1,1,1,0,1,0,0]),Item.inBlock 2,Item.code (codeAt bd [1,1,1,1,1])],[],FrameMode.run,CallKind.normal,none⟩,[],⟨eE (eE (eE (eE (eE (eE (eE (lL (AObj.cells 26 [Value.slice none 0 9223372036854775808,sS 126 0 n' cap',iI kn,Value.slice none 0 9223372036854775808] true 2)) nZ) nZ) nZ) nZ) nZ) nZ) (eE nZ (eE nZ (eE nZ (eE nZ (eE nZ (lL (AObj.cells ty' c' false 0))))))),128⟩⟩
theorem enter{η:Nat→Value}{B:Bd}(hη:OneCells η)(hmix:prog.follows .mixedOrders=true)(hreg:RegOk η prog B noNest){D:Value→AH→Prop}(ty' n' cap':Nat)(c':List Value)(kn:Int)(h:W.holds η prog B 7 (fun kp_ st_=>RunD η prog B 7 (H0 ty' n' cap' c' kn) kp_ st_ (QF prog 127 D)) D (.ite (decide ((↑n':Int) > (20:Int))) (.need (NoNames c'∧True) (.done 7 (Value.bool true) (H0 ty' n' cap' c' kn))) (.stop [1,3,4] (S0 ty' n' cap' c' kn (0) (0) (fun _=>undef))))):CallSpec η prog B 7 [Value.agg ⟨[Value.slice none 0 9223372036854775808,Value.slice (some ⟨126,0,none⟩) n' cap',Value.int IntKind.i64 kn,Value.slice none 0 9223372036854775808]⟩] (H0 ty' n' cap' c' kn) D:=by
 refine CallSpec.ofQF hη (CallSpec.enter (fr:=(E ty' n' cap' c' kn).fr) (by kernel_rfl) ?_)
 exact walk_okT (h0:=H0 ty' n' cap' c' kn) hη hmix hreg (.steps 19 <| .bit 16 (.steps 24 <| .done (some ⟨127,[],[(126,(126,true))]⟩)) (.steps 31 <| .stop [1,3,4] none)) (E ty' n' cap' c' kn) (by kernel_rfl) h (by kernel_rfl)
theorem cut0{η:Nat→Value}{B:Bd}(hη:OneCells η)(hmix:prog.follows .mixedOrders=true)(hreg:RegOk η prog B noNest){D:Value→AH→Prop}(ty' n' cap':Nat)(c':List Value)(kn i0 i1:Int)(h:let q1:=(Value.int IntKind.i64 (intAt c' ((0:Nat)+i1.toNat * (1:Nat))));let q0:W:=(.stop [1,3,4] (S0 ty' n' cap' c' kn (i0) (IntKind.i64.wrap (i1+1)) (fun _=>undef)));W.holds η prog B 7 (fun kp_ st_=>RunD η prog B 7 (H0 ty' n' cap' c' kn) kp_ st_ (QF prog 127 D)) D (.ite (decide (i1<(↑n':Int))) (.need ((0:Int)≤i1∧i1<(↑n':Int)) (.need (c'[(0:Nat)+i1.toNat * (1:Nat)]? = some q1) (.ite (decide (intAt c' ((0:Nat)+i1.toNat * (1:Nat)) ≥ (0:Int))) (.need ((0:Int)≤i1∧i1<(↑n':Int)) (.need (c'[(0:Nat)+i1.toNat * (1:Nat)]? = some q1) (.ite (decide (intAt c' ((0:Nat)+i1.toNat * (1:Nat))≤(20:Int))) (.ite (decide (kn ≥ (0:Int))) (.ite (decide (kn≤(100:Int))) (.need ((0:Int)≤i1∧i1<(↑n':Int)) (.need (c'[(0:Nat)+i1.toNat * (1:Nat)]? = some q1) (.need (NoNames c'∧True∧True) (.stop [1,3,4] (S0 ty' n' cap' c' kn (IntKind.i64.wrap (i0+IntKind.i64.wrap (intAt c' (0+i1.toNat * 1) * kn))) (IntKind.i64.wrap (i1+1)) (fun _=>undef)))))) q0) q0) q0))) q0))) (.stop [1,3,5] (S1 ty' n' cap' c' kn (i0) (fun _=>undef))))):RunD η prog B 7 (H0 ty' n' cap' c' kn) [1,3,4] (S0 ty' n' cap' c' kn i0 i1 fun _=>undef) (QF prog 127 D):=by
 refine RunD.intro (S0 ty' n' cap' c' kn i0 i1) (fun d=>⟨rfl,rfl,rfl⟩) (fun d=>tmOk_get (by kernel_rfl)) (fun d=>by kernel_rfl) (fun d=>?_)
 exact walk_okT (h0:=H0 ty' n' cap' c' kn) hη hmix hreg (.steps 9 <| .bit 38 (.steps 9 <| .op <| .op <| .steps 2 <| .bit 47 (.steps 3 <| .op <| .op <| .steps 3 <| .bit 55 (.steps 5 <| .bit 60 (.steps 5 <| .bit 64 (.steps 1 <| .reg <| .steps 4 <| .op <| .op <| .steps 5 <| .reg <| .steps 7 <| .stop [1,3,4] (some ⟨128,[(127,127)],[(126,(126,true)),(127,(127,false))]⟩)) (.steps 9 <| .stop [1,3,4] none)) (.steps 14 <| .stop [1,3,4] none)) (.steps 19 <| .stop [1,3,4] none)) (.steps 27 <| .stop [1,3,4] none)) (.steps 9 <| .stop [1,3,5] none)) (S0 ty' n' cap' c' kn i0 i1 d) (by kernel_rfl) h (by kernel_rfl)
theorem cut1{η:Nat→Value}{B:Bd}(hη:OneCells η)(hmix:prog.follows .mixedOrders=true)(hreg:RegOk η prog B noNest){D:Value→AH→Prop}(ty' n' cap':Nat)(c':List Value)(kn i0:Int)(h:W.holds η prog B 7 (fun kp_ st_=>RunD η prog B 7 (H0 ty' n' cap' c' kn) kp_ st_ (QF prog 127 D)) D (.ite (decide (i0 > (600:Int))) (.need (NoNames c'∧True) (.done 7 (Value.bool (decide (i0≤4096))) (H0 ty' n' cap' c' kn))) (.need (NoNames c'∧True) (.done 7 (Value.bool false) (H0 ty' n' cap' c' kn))))):RunD η prog B 7 (H0 ty' n' cap' c' kn) [1,3,5] (S1 ty' n' cap' c' kn i0 fun _=>undef) (QF prog 127 D):=by
 refine RunD.intro (S1 ty' n' cap' c' kn i0) (fun d=>⟨rfl,rfl,rfl⟩) (fun d=>tmOk_get (by kernel_rfl)) (fun d=>by kernel_rfl) (fun d=>?_)
 exact walk_okT (h0:=H0 ty' n' cap' c' kn) hη hmix hreg (.steps 16 <| .bit 91 (.steps 6 <| .done (some ⟨127,[],[(126,(126,true))]⟩)) (.steps 6 <| .done (some ⟨127,[],[(126,(126,true))]⟩))) (S1 ty' n' cap' c' kn i0 d) (by kernel_rfl) h (by kernel_rfl)
end RFaENE
namespace RFaEEN
noncomputable def bd:Code:=(Go.Proofs.Tryd.f7.body).getD .skip
noncomputable def H0(ty2 m cap2:Nat)(c2:List Value)(kn:Int):AH:={ objs:=eE nZ (eE nZ (eE nZ (eE nZ (eE nZ (eE nZ (lL (AObj.cells ty2 c2 false 0))))))),next:=127 }
noncomputable def E(ty2 m cap2:Nat)(c2:List Value)(kn:Int):AS:=⟨⟨7,95,lL (Value.agg ⟨[Value.slice none 0 9223372036854775808,Value.slice none 0 9223372036854775808,iI kn,sS 126 0 m cap2]⟩),[Item.code (codeAt bd [])],[],FrameMode.run,CallKind.normal,none⟩,[],H0 ty2 m cap2 c2 kn⟩
noncomputable def S0(ty2 m cap2:Nat)(c2:List Value)(kn:Int) (d:Nat→Value):AS:=⟨⟨7,95,nS (d 0) (nS (pP 127 0) (nS (iI 0) (nS (d 7) (nS (d 15) (nS (d 31) (lL (d 63)) nZ) (nS (d 47) (lL (d 79)) nZ)) (nS (d 23) (nS (d 39) (lL (d 71)) nZ) (nS (d 55) (lL (d 87)) nZ))) (nS (d 11) (nS (d 19) (nS (d 35) (lL (d 67)) nZ) (nS (d 51) (lL (d 83)) nZ)) (nS (d 27) (nS (d 43) (lL (d 75)) nZ) (nS (d 59) (lL (d 91)) nZ)))) (nS (d 5) (nS (d 9) (nS (d 17) (nS (d 33) (lL (d 65)) nZ) (nS (d 49) (lL (d 81)) nZ)) (nS (d 25) (nS (d 41) (lL (d 73)) nZ) (nS (d 57) (lL (d 89)) nZ))) (nS (d 13) (nS (d 21) (nS (d 37) (lL (d 69)) nZ) (nS (d 53) (lL (d 85)) nZ)) (nS (d 29) (nS (d 45) (lL (d 77)) nZ) (nS (d 61) (lL (d 93)) nZ))))) (nS (d 2) (nS (iI 0) (nS (d 8) (nS (d 16) (nS (d 32) (lL (d 64)) nZ) (nS (d 48) (lL (d 80)) nZ)) (nS (d 24) (nS (d 40) (lL (d 72)) nZ) (nS (d 56) (lL (d 88)) nZ))) (nS (d 12) (nS (d 20) (nS (d 36) (lL (d 68)) nZ) (nS (d 52) (lL (d 84)) nZ)) (nS (d 28) (nS (d 44) (lL (d 76)) nZ) (nS (d 60) (lL (d 92)) nZ)))) (nS (d 6) (nS (d 10) (nS (d 18) (nS (d 34) (lL (d 66)) nZ) (nS (d 50) (lL (d 82)) nZ)) (nS (d 26) (nS (d 42) (lL (d 74)) nZ) (nS (d 58) (lL (d 90)) nZ))) (nS (d 14) (nS (d 22) (nS (d 38) (lL (d 70)) nZ) (nS (d 54) (lL (d 86)) nZ)) (nS (d 30) (nS (d 46) (lL (d 78)) nZ) (nS (d 62) (lL (d 94)) nZ))))),[Item.code (codeAt bd [1,1,1,0,1,0,0]),Item.inLoop (codeAt bd [1,1,1,0,1,0,0]),Item.inBlock 0,Item.code (codeAt bd [1,1,1,1])],[],FrameMode.run,CallKind.normal,none⟩,[],⟨eE (eE (eE (eE (eE (eE (eE (lL (AObj.cells 26 [Value.slice none 0 9223372036854775808,Value.slice none 0 9223372036854775808,iI kn,sS 126 0 m cap2] true 2)) nZ) nZ) nZ) nZ) nZ) nZ) (eE nZ (eE nZ (eE nZ (eE nZ (eE nZ (lL (AObj.cells ty2 c2 false 0))))))),128⟩⟩
noncomputable def S1(ty2 m cap2:Nat)(c2:List Value)(kn:Int) (d:Nat→Value):AS:=⟨⟨7,95,nS (d 0) (nS (pP 127 0) (nS (iI 0) (nS (d 7) (nS (d 15) (nS (d 31) (lL (d 63)) nZ) (nS (d 47) (lL (d 79)) nZ)) (nS (d 23) (nS (d 39) (lL (d 71)) nZ) (nS (d 55) (lL (d 87)) nZ))) (nS (d 11) (nS (d 19) (nS (d 35) (lL (d 67)) nZ) (nS (d 51) (lL (d 83)) nZ)) (nS (d 27) (nS (d 43) (lL (d 75)) nZ) (nS (d 59) (lL (d 91)) nZ)))) (nS (iI 0) (nS (d 9) (nS (d 17) (nS (d 33) (lL (d 65)) nZ) (nS (d 49) (lL (d 81)) nZ)) (nS (d 25) (nS (d 41) (lL (d 73)) nZ) (nS (d 57) (lL (d 89)) nZ))) (nS (d 13) (nS (d 21) (nS (d 37) (lL (d 69)) nZ) (nS (d 53) (lL (d 85)) nZ)) (nS (d 29) (nS (d 45) (lL (d 77)) nZ) (nS (d 61) (lL (d 93)) nZ))))) (nS (d 2) (nS (d 4) (nS (d 8) (nS (d 16) (nS (d 32) (lL (d 64)) nZ) (nS (d 48) (lL (d 80)) nZ)) (nS (d 24) (nS (d 40) (lL (d 72)) nZ) (nS (d 56) (lL (d 88)) nZ))) (nS (d 12) (nS (d 20) (nS (d 36) (lL (d 68)) nZ) (nS (d 52) (lL (d 84)) nZ)) (nS (d 28) (nS (d 44) (lL (d 76)) nZ) (nS (d 60) (lL (d 92)) nZ)))) (nS (d 6) (nS (d 10) (nS (d 18) (nS (d 34) (lL (d 66)) nZ) (nS (d 50) (lL (d 82)) nZ)) (nS (d 26) (nS (d 42) (lL (d 74)) nZ) (nS (d 58) (lL (d 90)) nZ))) (nS (d 14) (nS (d 22) (nS (d 38) (lL (d 70)) nZ) (nS (d 54) (lL (d 86)) nZ)) (nS (d 30) (nS (d 46) (lL (d 78)) nZ) (nS (d 62) (lL (d 94)) nZ))))),[Item.code (codeAt bd [1,1,1,1,0,1,0,0]),Item.inLoop (codeAt bd [1,1,1,1,0,1,0,0]),Item.inBlock 2,Item.code (codeAt bd [1,1,1,1,1])],[],FrameMode.run,CallKind.normal,none⟩,[],⟨eE (eE (eE (eE (eE (eE (eE (lL (AObj.cells 26 [Value.slice none 0 9223372036854775808,Value.slice none 0 9223372036854775808,iI kn,sS 126 0 m cap2] true 2)) nZ) nZ) nZ) nZ) nZ) nZ) (eE nZ (eE nZ (eE nZ (eE nZ (eE nZ (lL (AObj.cells ty2 c2 false 0))))))),128⟩⟩
theorem enter{η:Nat→Value}{B:Bd}(hη:OneCells η)(hmix:prog.follows .mixedOrders=true)(hreg:RegOk η prog B noNest){D:Value→AH→Prop}(ty2 m cap2:Nat)(c2:List Value)(kn:Int)(h:let q1:W:=(.stop [1,3,4] (S0 ty2 m cap2 c2 kn  (fun _=>undef)));let q0:W:=(.need (NoNames c2∧True) (.done 7 (Value.bool true) (H0 ty2 m cap2 c2 kn)));W.holds η prog B 7 (fun kp_ st_=>RunD η prog B 7 (H0 ty2 m cap2 c2 kn) kp_ st_ (QF prog 127 D)) D (.ite (decide ((↑m:Int) > (600:Int))) (.ite (decide ((↑m:Int)≤(4096:Int))) q0 (.ite (decide ((↑m:Int) > (5000:Int))) q0 q1)) (.ite (decide ((↑m:Int) > (5000:Int))) q0 q1))):CallSpec η prog B 7 [Value.agg ⟨[Value.slice none 0 9223372036854775808,Value.slice none 0 9223372036854775808,Value.int IntKind.i64 kn,Value.slice (some ⟨126,0,none⟩) m cap2]⟩] (H0 ty2 m cap2 c2 kn) D:=by
 refine CallSpec.ofQF hη (CallSpec.enter (fr:=(E ty2 m cap2 c2 kn).fr) (by kernel_rfl) ?_)
 exact walk_okT (h0:=H0 ty2 m cap2 c2 kn) hη hmix hreg (.steps 24 <| .bit 21 (.steps 7 <| .bit 28 (.steps 12 <| .done (some ⟨127,[],[(126,(126,true))]⟩)) (.steps 6 <| .bit 33 (.steps 6 <| .done (some ⟨127,[],[(126,(126,true))]⟩)) (.steps 13 <| .stop [1,3,4] none))) (.steps 13 <| .bit 33 (.steps 6 <| .done (some ⟨127,[],[(126,(126,true))]⟩)) (.steps 13 <| .stop [1,3,4] none))) (E ty2 m cap2 c2 kn) (by kernel_rfl) h (by kernel_rfl)
theorem cut0{η:Nat→Value}{B:Bd}(hη:OneCells η)(hmix:prog.follows .mixedOrders=true)(hreg:RegOk η prog B noNest){D:Value→AH→Prop}(ty2 m cap2:Nat)(c2:List Value)(kn:Int) (h:W.holds η prog B 7 (fun kp_ st_=>RunD η prog B 7 (H0 ty2 m cap2 c2 kn) kp_ st_ (QF prog 127 D)) D (.stop [1,3,5] (S1 ty2 m cap2 c2 kn  (fun _=>undef)))):RunD η prog B 7 (H0 ty2 m cap2 c2 kn) [1,3,4] (S0 ty2 m cap2 c2 kn  fun _=>undef) (QF prog 127 D):=by
 refine RunD.intro (S0 ty2 m cap2 c2 kn) (fun d=>⟨rfl,rfl,rfl⟩) (fun d=>tmOk_get (by kernel_rfl)) (fun d=>by kernel_rfl) (fun d=>?_)
 exact walk_okT (h0:=H0 ty2 m cap2 c2 kn) hη hmix hreg (.steps 18 <| .stop [1,3,5] none) (S0 ty2 m cap2 c2 kn  d) (by kernel_rfl) h (by kernel_rfl)
theorem cut1{η:Nat→Value}{B:Bd}(hη:OneCells η)(hmix:prog.follows .mixedOrders=true)(hreg:RegOk η prog B noNest){D:Value→AH→Prop}(ty2 m cap2:Nat)(c2:List Value)(kn:Int) (h:W.holds η prog B 7 (fun kp_ st_=>RunD η prog B 7 (H0 ty2 m cap2 c2 kn) kp_ st_ (QF prog 127 D)) D (.need (NoNames c2∧True) (.done 7 (Value.bool false) (H0 ty2 m cap2 c2 kn)))):RunD η prog B 7 (H0 ty2 m cap2 c2 kn) [1,3,5] (S1 ty2 m cap2 c2 kn  fun _=>undef) (QF prog 127 D):=by
 refine RunD.intro (S1 ty2 m cap2 c2 kn) (fun d=>⟨rfl,rfl,rfl⟩) (fun d=>tmOk_get (by kernel_rfl)) (fun d=>by kernel_rfl) (fun d=>?_)
 exact walk_okT (h0:=H0 ty2 m cap2 c2 kn) hη hmix hreg (.steps 22 <| .done (some ⟨127,[],[(126,(126,true))]⟩)) (S1 ty2 m cap2 c2 kn  d) (by kernel_rfl) h (by kernel_rfl)
end RFaEEN
namespace RFaEEE
noncomputable def bd:Code:=(Go.Proofs.Tryd.f7.body).getD .skip
noncomputable def H0(kn:Int):AH:={ objs:=nZ,next:=126 }
noncomputable def E(kn:Int):AS:=⟨⟨7,95,lL (Value.agg ⟨[Value.slice none 0 9223372036854775808,Value.slice none 0 9223372036854775808,iI kn,Value.slice none 0 9223372036854775808]⟩),[Item.code (codeAt bd [])],[],FrameMode.run,CallKind.normal,none⟩,[],H0 kn⟩
noncomputable def S0(kn:Int) (d:Nat→Value):AS:=⟨⟨7,95,nS (d 0) (nS (pP 126 0) (nS (iI 0) (nS (d 7) (nS (d 15) (nS (d 31) (lL (d 63)) nZ) (nS (d 47) (lL (d 79)) nZ)) (nS (d 23) (nS (d 39) (lL (d 71)) nZ) (nS (d 55) (lL (d 87)) nZ))) (nS (d 11) (nS (d 19) (nS (d 35) (lL (d 67)) nZ) (nS (d 51) (lL (d 83)) nZ)) (nS (d 27) (nS (d 43) (lL (d 75)) nZ) (nS (d 59) (lL (d 91)) nZ)))) (nS (d 5) (nS (d 9) (nS (d 17) (nS (d 33) (lL (d 65)) nZ) (nS (d 49) (lL (d 81)) nZ)) (nS (d 25) (nS (d 41) (lL (d 73)) nZ) (nS (d 57) (lL (d 89)) nZ))) (nS (d 13) (nS (d 21) (nS (d 37) (lL (d 69)) nZ) (nS (d 53) (lL (d 85)) nZ)) (nS (d 29) (nS (d 45) (lL (d 77)) nZ) (nS (d 61) (lL (d 93)) nZ))))) (nS (d 2) (nS (iI 0) (nS (d 8) (nS (d 16) (nS (d 32) (lL (d 64)) nZ) (nS (d 48) (lL (d 80)) nZ)) (nS (d 24) (nS (d 40) (lL (d 72)) nZ) (nS (d 56) (lL (d 88)) nZ))) (nS (d 12) (nS (d 20) (nS (d 36) (lL (d 68)) nZ) (nS (d 52) (lL (d 84)) nZ)) (nS (d 28) (nS (d 44) (lL (d 76)) nZ) (nS (d 60) (lL (d 92)) nZ)))) (nS (d 6) (nS (d 10) (nS (d 18) (nS (d 34) (lL (d 66)) nZ) (nS (d 50) (lL (d 82)) nZ)) (nS (d 26) (nS (d 42) (lL (d 74)) nZ) (nS (d 58) (lL (d 90)) nZ))) (nS (d 14) (nS (d 22) (nS (d 38) (lL (d 70)) nZ) (nS (d 54) (lL (d 86)) nZ)) (nS (d 30) (nS (d 46) (lL (d 78)) nZ) (nS (d 62) (lL (d 94)) nZ))))),[Item.code (codeAt bd [1,1,1,0,1,0,0]),Item.inLoop (codeAt bd [1,1,1,0,1,0,0]),Item.inBlock 0,Item.code (codeAt bd [1,1,1,1])],[],FrameMode.run,CallKind.normal,none⟩,[],⟨eE nZ (eE nZ (eE nZ (eE nZ (eE nZ (eE nZ (lL (AObj.cells 26 [Value.slice none 0 9223372036854775808,Value.slice none 0 9223372036854775808,iI kn,Value.slice none 0 9223372036854775808] true 2))))))),127⟩⟩
noncomputable def S1(kn:Int) (d:Nat→Value):AS:=⟨⟨7,95,nS (d 0) (nS (pP 126 0) (nS (iI 0) (nS (d 7) (nS (d 15) (nS (d 31) (lL (d 63)) nZ) (nS (d 47) (lL (d 79)) nZ)) (nS (d 23) (nS (d 39) (lL (d 71)) nZ) (nS (d 55) (lL (d 87)) nZ))) (nS (d 11) (nS (d 19) (nS (d 35) (lL (d 67)) nZ) (nS (d 51) (lL (d 83)) nZ)) (nS (d 27) (nS (d 43) (lL (d 75)) nZ) (nS (d 59) (lL (d 91)) nZ)))) (nS (iI 0) (nS (d 9) (nS (d 17) (nS (d 33) (lL (d 65)) nZ) (nS (d 49) (lL (d 81)) nZ)) (nS (d 25) (nS (d 41) (lL (d 73)) nZ) (nS (d 57) (lL (d 89)) nZ))) (nS (d 13) (nS (d 21) (nS (d 37) (lL (d 69)) nZ) (nS (d 53) (lL (d 85)) nZ)) (nS (d 29) (nS (d 45) (lL (d 77)) nZ) (nS (d 61) (lL (d 93)) nZ))))) (nS (d 2) (nS (d 4) (nS (d 8) (nS (d 16) (nS (d 32) (lL (d 64)) nZ) (nS (d 48) (lL (d 80)) nZ)) (nS (d 24) (nS (d 40) (lL (d 72)) nZ) (nS (d 56) (lL (d 88)) nZ))) (nS (d 12) (nS (d 20) (nS (d 36) (lL (d 68)) nZ) (nS (d 52) (lL (d 84)) nZ)) (nS (d 28) (nS (d 44) (lL (d 76)) nZ) (nS (d 60) (lL (d 92)) nZ)))) (nS (d 6) (nS (d 10) (nS (d 18) (nS (d 34) (lL (d 66)) nZ) (nS (d 50) (lL (d 82)) nZ)) (nS (d 26) (nS (d 42) (lL (d 74)) nZ) (nS (d 58) (lL (d 90)) nZ))) (nS (d 14) (nS (d 22) (nS (d 38) (lL (d 70)) nZ) (nS (d 54) (lL (d 86)) nZ)) (nS (d 30) (nS (d 46) (lL (d 78)) nZ) (nS (d 62) (lL (d 94)) nZ))))),[Item.code (codeAt bd [1,1,1,1,0,1,0,0]),Item.inLoop (codeAt bd [1,1,1,1,0,1,0,0]),Item.inBlock 2,Item.code (codeAt bd [1,1,1,1,1])],[],FrameMode.run,CallKind.normal,none⟩,[],⟨eE nZ (eE nZ (eE nZ (eE nZ (eE nZ (eE nZ (lL (AObj.cells 26 [Value.slice none 0 9223372036854775808,Value.slice none 0 9223372036854775808,iI kn,Value.slice none 0 9223372036854775808] true 2))))))),127⟩⟩
theorem enter{η:Nat→Value}{B:Bd}(hη:OneCells η)(hmix:prog.follows .mixedOrders=true)(hreg:RegOk η prog B noNest){D:Value→AH→Prop}(kn:Int)(h:W.holds η prog B 7 (fun kp_ st_=>RunD η prog B 7 (H0 kn) kp_ st_ (QF prog 126 D)) D (.stop [1,3,4] (S0 kn  (fun _=>undef)))):CallSpec η prog B 7 [Value.agg ⟨[Value.slice none 0 9223372036854775808,Value.slice none 0 9223372036854775808,Value.int IntKind.i64 kn,Value.slice none 0 9223372036854775808]⟩] (H0 kn) D:=by
 refine CallSpec.ofQF hη (CallSpec.enter (fr:=(E kn).fr) (by kernel_rfl) ?_)
 exact walk_okT (h0:=H0 kn) hη hmix hreg (.steps 50 <| .stop [1,3,4] none) (E kn) (by kernel_rfl) h (by kernel_rfl)
theorem cut0{η:Nat→Value}{B:Bd}(hη:OneCells η)(hmix:prog.follows .mixedOrders=true)(hreg:RegOk η prog B noNest){D:Value→AH→Prop}(kn:Int) (h:W.holds η prog B 7 (fun kp_ st_=>RunD η prog B 7 (H0 kn) kp_ st_ (QF prog 126 D)) D (.stop [1,3,5] (S1 kn  (fun _=>undef)))):RunD η prog B 7 (H0 kn) [1,3,4] (S0 kn  fun _=>undef) (QF prog 126 D):=by
 refine RunD.intro (S0 kn) (fun d=>⟨rfl,rfl,rfl⟩) (fun d=>tmOk_get (by kernel_rfl)) (fun d=>by kernel_rfl) (fun d=>?_)
 exact walk_okT (h0:=H0 kn) hη hmix hreg (.steps 18 <| .stop [1,3,5] none) (S0 kn  d) (by kernel_rfl) h (by kernel_rfl)
theorem cut1{η:Nat→Value}{B:Bd}(hη:OneCells η)(hmix:prog.follows .mixedOrders=true)(hreg:RegOk η prog B noNest){D:Value→AH→Prop}(kn:Int) (h:W.holds η prog B 7 (fun kp_ st_=>RunD η prog B 7 (H0 kn) kp_ st_ (QF prog 126 D)) D (.need (True) (.done 7 (Value.bool false) (H0 kn)))):RunD η prog B 7 (H0 kn) [1,3,5] (S1 kn  fun _=>undef) (QF prog 126 D):=by
 refine RunD.intro (S1 kn) (fun d=>⟨rfl,rfl,rfl⟩) (fun d=>tmOk_get (by kernel_rfl)) (fun d=>by kernel_rfl) (fun d=>?_)
 exact walk_okT (h0:=H0 kn) hη hmix hreg (.steps 22 <| .done (some ⟨126,[],[]⟩)) (S1 kn  d) (by kernel_rfl) h (by kernel_rfl)
end RFaEEE
end Go.Ev

/- Rings of backends: what is more than is looked at, in all shapes (written by mkRGF.py). -/
namespace Go.Ev
open Go Go.Proofs
variable {η:Nat→Value} {B:Bd}
namespace RG
set_option maxHeartbeats 2000000 in
theorem farNNN_can(hη:OneCells η)(hmix:Tryd.prog.follows .mixedOrders=true){ty ty' ty2 n n' m cap cap' cap2:Nat}{c c' c2:List Value}{k:Int}(hc:RowS c 0 n)(hc':RowI c' 0 n')(hp2:c2.all bareV=true) :
  CallSpec η Tryd.prog B 7 [.agg ⟨[.slice (some ⟨126,0,none⟩) n cap,.slice (some ⟨127,0,none⟩) n' cap',.int .i64 k,.slice (some ⟨128,0,none⟩) m cap2]⟩] (heapT [(ty,c),(ty',c'),(ty2,c2)]) fun v h=>v = .bool (farB c n c' n' k m)∧h=(heapT [(ty,c),(ty',c'),(ty2,c2)]):=by
 have e0:RFaNNN.H0 ty ty' ty2 n n' m cap cap' cap2 c c' c2 k=heapT [(ty,c),(ty',c'),(ty2,c2)]:=rfl
 rw [← e0]
 have hs:∀ i,i<n→c[i]? = some (.string ⟨⟨strAt c i⟩⟩):=fun i h=>by have:=hc.2 i h;rw [Nat.zero_add] at this;exact this
 have hw:∀ i,i<n'→c'[i]? = some (.int .i64 (intAt c' i)):=fun i h=>by have:=hc'.2 i h;rw [Nat.zero_add] at this;exact this
 have cut0:=fun i0 i1=>RFaNNN.cut0 (η:=η) (B:=B) (D:=fun v h=>v = .bool (farB c n c' n' k m)∧h=(RFaNNN.H0 ty ty' ty2 n n' m cap cap' cap2 c c' c2 k)) hη hmix (reg0 hη hmix) ty ty' ty2 n n' m cap cap' cap2 c c' c2 k i0 i1
 have cut1:=fun i0 i1=>RFaNNN.cut1 (η:=η) (B:=B) (D:=fun v h=>v = .bool (farB c n c' n' k m)∧h=(RFaNNN.H0 ty ty' ty2 n n' m cap cap' cap2 c c' c2 k)) hη hmix (reg0 hη hmix) ty ty' ty2 n n' m cap cap' cap2 c c' c2 k i0 i1
 refine RFaNNN.enter hη hmix (reg0 hη hmix) ty ty' ty2 n n' m cap cap' cap2 c c' c2 k ?_
 simp only [W.holds,true_and,and_true,true_implies,decide_eq_true_eq,decide_eq_false_iff_not,Nat.zero_add,Nat.mul_one] at cut0 cut1 ⊢
 have l1:∀ (mm i:Nat) (q:Int),i+mm=n→n≤20→(farB c n c' n' k m)=(farL c mm i || farT q)→RunD η Tryd.prog B 7 (RFaNNN.H0 ty ty' ty2 n n' m cap cap' cap2 c c' c2 k) [1,3,5] (RFaNNN.S1 ty ty' ty2 n n' m cap cap' cap2 c c' c2 k (i:Int) q fun _=>undef) (QF Tryd.prog 129 fun v h=>v = .bool (farB c n c' n' k m)∧h=(RFaNNN.H0 ty ty' ty2 n n' m cap cap' cap2 c c' c2 k)):=by
  intro mm
  induction mm with
  | zero=>
   intro i q hi hn he
   have cut:=cut1 (i:Int) q
   simp only [Int.toNat_natCast] at cut
   exact cut ⟨fun h=>by omega,fun _=>⟨fun h=>⟨⟨nn_of hc.1,nn_of hc'.1,nn_of hp2⟩,fun _=>by rw [he];show _=Value.bool (decide (600<q) && decide (q≤4096));rw [decide_eq_true h];rfl⟩,fun h=>⟨⟨nn_of hc.1,nn_of hc'.1,nn_of hp2⟩,fun _=>by rw [he];show _=Value.bool (decide (600<q) && decide (q≤4096));rw [decide_eq_false h];rfl⟩⟩⟩
  | succ mm ih=>
   intro i q hi hn he
   have cut:=cut1 (i:Int) q
   simp only [Int.toNat_natCast] at cut
   refine cut ⟨fun h=>⟨⟨by omega,h⟩,fun _=>⟨hs i (by omega),fun _=>⟨fun h=>⟨⟨nn_of hc.1,nn_of hc'.1,nn_of hp2⟩,fun _=>by rw [he];unfold farL;rw [decide_eq_true (by omega)];rfl⟩,fun h=>?_⟩⟩⟩,fun h=>by omega⟩
   rw [show IntKind.i64.wrap ((i:Int)+1)=((i+1:Nat):Int) from(wrap_small (by omega) (by omega)).trans rfl]
   refine ih (i+1) q (by omega) hn ?_
   rw [he];conv=>lhs;unfold farL
   rw [decide_eq_false (by omega),Bool.false_or]
 have l0:∀ (mm i:Nat) (q:Int),i+mm=n'→n'≤20→n≤20→(farB c n c' n' k m)=(farL c n 0 || farT (farM c' k mm i q))→RunD η Tryd.prog B 7 (RFaNNN.H0 ty ty' ty2 n n' m cap cap' cap2 c c' c2 k) [1,3,4] (RFaNNN.S0 ty ty' ty2 n n' m cap cap' cap2 c c' c2 k q (i:Int) fun _=>undef) (QF Tryd.prog 129 fun v h=>v = .bool (farB c n c' n' k m)∧h=(RFaNNN.H0 ty ty' ty2 n n' m cap cap' cap2 c c' c2 k)):=by
  intro mm
  induction mm with
  | zero=>
   intro i q hi hm hn he
   have cut:=cut0 q (i:Int)
   simp only [Int.toNat_natCast] at cut
   exact cut ⟨fun h=>by omega,fun _=>l1 n 0 q (by omega) (by omega) he⟩
  | succ mm ih=>
   intro i q hi hm hn he
   have cut:=cut0 q (i:Int)
   simp only [Int.toNat_natCast] at cut
   rw [show IntKind.i64.wrap ((i:Int)+1)=((i+1:Nat):Int) from(wrap_small (by omega) (by omega)).trans rfl] at cut
   have hi2:(0:Int)≤(i:Int)∧(i:Int)<n':=by omega
   have hwi:=hw i (by omega)
   have go:=fun q2=>ih (i+1) q2 (by omega) hm hn
   have st:∀ q2,(if 0≤intAt c' i∧intAt c' i≤20∧0≤k∧k≤100 then IntKind.i64.wrap (q+IntKind.i64.wrap (intAt c' i * k)) else q)=q2→(farB c n c' n' k m)=(farL c n 0 || farT (farM c' k mm (i+1) q2)):=fun q2 h=>by rw [← h];exact he
   refine cut ⟨fun h=>⟨hi2,fun _=>⟨hwi,fun _=>⟨fun h1=>⟨hi2,fun _=>⟨hwi,fun _=>⟨fun h2=>⟨fun h3=>⟨fun h4=>⟨hi2,fun _=>⟨hwi,fun _=>⟨⟨nn_of hc.1,nn_of hc'.1,nn_of hp2⟩,fun _=>go _ (st _ (if_pos ⟨h1,h2,h3,h4⟩))⟩⟩⟩,fun h4=>go _ (st _ (if_neg fun z=>h4 z.2.2.2))⟩,fun h3=>go _ (st _ (if_neg fun z=>h3 z.2.2.1))⟩,fun h2=>go _ (st _ (if_neg fun z=>h2 z.2.1))⟩⟩⟩,fun h1=>go _ (st _ (if_neg fun z=>h1 z.1))⟩⟩⟩,fun h=>by omega⟩
 exact⟨fun h1=>⟨⟨nn_of hc.1,nn_of hc'.1,nn_of hp2⟩,fun _=>by rw [farB_1 (by omega)]⟩,fun h1=>⟨fun h2=>⟨⟨nn_of hc.1,nn_of hc'.1,nn_of hp2⟩,fun _=>by rw [farB_2 (by omega)]⟩,fun h2=>⟨fun h3=>⟨fun h4=>⟨⟨nn_of hc.1,nn_of hc'.1,nn_of hp2⟩,fun _=>by rw [farB_3 (by omega) (by omega)]⟩,fun h4=>⟨fun h5=>⟨⟨nn_of hc.1,nn_of hc'.1,nn_of hp2⟩,fun _=>by rw [farB_4 (by omega)]⟩,fun h5=>l0 n' 0 0 (by omega) (by omega) (by omega) (farB_0 (by omega) (by omega) (by omega) (by omega))⟩⟩,fun h3=>⟨fun h5=>⟨⟨nn_of hc.1,nn_of hc'.1,nn_of hp2⟩,fun _=>by rw [farB_4 (by omega)]⟩,fun h5=>l0 n' 0 0 (by omega) (by omega) (by omega) (farB_0 (by omega) (by omega) (by omega) (by omega))⟩⟩⟩⟩
set_option maxHeartbeats 2000000 in
theorem farNNE_can(hη:OneCells η)(hmix:Tryd.prog.follows .mixedOrders=true){ty ty' n n' cap cap':Nat}{c c':List Value}{k:Int}(hc:RowS c 0 n)(hc':RowI c' 0 n') :
  CallSpec η Tryd.prog B 7 [.agg ⟨[.slice (some ⟨126,0,none⟩) n cap,.slice (some ⟨127,0,none⟩) n' cap',.int .i64 k,.slice none 0 9223372036854775808]⟩] (heapT [(ty,c),(ty',c')]) fun v h=>v = .bool (farB c n c' n' k 0)∧h=(heapT [(ty,c),(ty',c')]):=by
 have e0:RFaNNE.H0 ty ty' n n' cap cap' c c' k=heapT [(ty,c),(ty',c')]:=rfl
 rw [← e0]
 have hs:∀ i,i<n→c[i]? = some (.string ⟨⟨strAt c i⟩⟩):=fun i h=>by have:=hc.2 i h;rw [Nat.zero_add] at this;exact this
 have hw:∀ i,i<n'→c'[i]? = some (.int .i64 (intAt c' i)):=fun i h=>by have:=hc'.2 i h;rw [Nat.zero_add] at this;exact this
 have cut0:=fun i0 i1=>RFaNNE.cut0 (η:=η) (B:=B) (D:=fun v h=>v = .bool (farB c n c' n' k 0)∧h=(RFaNNE.H0 ty ty' n n' cap cap' c c' k)) hη hmix (reg0 hη hmix) ty ty' n n' cap cap' c c' k i0 i1
 have cut1:=fun i0 i1=>RFaNNE.cut1 (η:=η) (B:=B) (D:=fun v h=>v = .bool (farB c n c' n' k 0)∧h=(RFaNNE.H0 ty ty' n n' cap cap' c c' k)) hη hmix (reg0 hη hmix) ty ty' n n' cap cap' c c' k i0 i1
 refine RFaNNE.enter hη hmix (reg0 hη hmix) ty ty' n n' cap cap' c c' k ?_
 simp only [W.holds,true_and,and_true,true_implies,decide_eq_true_eq,decide_eq_false_iff_not,Nat.zero_add,Nat.mul_one] at cut0 cut1 ⊢
 have l1:∀ (mm i:Nat) (q:Int),i+mm=n→n≤20→(farB c n c' n' k 0)=(farL c mm i || farT q)→RunD η Tryd.prog B 7 (RFaNNE.H0 ty ty' n n' cap cap' c c' k) [1,3,5] (RFaNNE.S1 ty ty' n n' cap cap' c c' k (i:Int) q fun _=>undef) (QF Tryd.prog 128 fun v h=>v = .bool (farB c n c' n' k 0)∧h=(RFaNNE.H0 ty ty' n n' cap cap' c c' k)):=by
  intro mm
  induction mm with
  | zero=>
   intro i q hi hn he
   have cut:=cut1 (i:Int) q
   simp only [Int.toNat_natCast] at cut
   exact cut ⟨fun h=>by omega,fun _=>⟨fun h=>⟨⟨nn_of hc.1,nn_of hc'.1⟩,fun _=>by rw [he];show _=Value.bool (decide (600<q) && decide (q≤4096));rw [decide_eq_true h];rfl⟩,fun h=>⟨⟨nn_of hc.1,nn_of hc'.1⟩,fun _=>by rw [he];show _=Value.bool (decide (600<q) && decide (q≤4096));rw [decide_eq_false h];rfl⟩⟩⟩
  | succ mm ih=>
   intro i q hi hn he
   have cut:=cut1 (i:Int) q
   simp only [Int.toNat_natCast] at cut
   refine cut ⟨fun h=>⟨⟨by omega,h⟩,fun _=>⟨hs i (by omega),fun _=>⟨fun h=>⟨⟨nn_of hc.1,nn_of hc'.1⟩,fun _=>by rw [he];unfold farL;rw [decide_eq_true (by omega)];rfl⟩,fun h=>?_⟩⟩⟩,fun h=>by omega⟩
   rw [show IntKind.i64.wrap ((i:Int)+1)=((i+1:Nat):Int) from(wrap_small (by omega) (by omega)).trans rfl]
   refine ih (i+1) q (by omega) hn ?_
   rw [he];conv=>lhs;unfold farL
   rw [decide_eq_false (by omega),Bool.false_or]
 have l0:∀ (mm i:Nat) (q:Int),i+mm=n'→n'≤20→n≤20→(farB c n c' n' k 0)=(farL c n 0 || farT (farM c' k mm i q))→RunD η Tryd.prog B 7 (RFaNNE.H0 ty ty' n n' cap cap' c c' k) [1,3,4] (RFaNNE.S0 ty ty' n n' cap cap' c c' k q (i:Int) fun _=>undef) (QF Tryd.prog 128 fun v h=>v = .bool (farB c n c' n' k 0)∧h=(RFaNNE.H0 ty ty' n n' cap cap' c c' k)):=by
  intro mm
  induction mm with
  | zero=>
   intro i q hi hm hn he
   have cut:=cut0 q (i:Int)
   simp only [Int.toNat_natCast] at cut
   exact cut ⟨fun h=>by omega,fun _=>l1 n 0 q (by omega) (by omega) he⟩
  | succ mm ih=>
   intro i q hi hm hn he
   have cut:=cut0 q (i:Int)
   simp only [Int.toNat_natCast] at cut
   rw [show IntKind.i64.wrap ((i:Int)+1)=((i+1:Nat):Int) from(wrap_small (by omega) (by omega)).trans rfl] at cut
   have hi2:(0:Int)≤(i:Int)∧(i:Int)<n':=by omega
   have hwi:=hw i (by omega)
   have go:=fun q2=>ih (i+1) q2 (by omega) hm hn
   have st:∀ q2,(if 0≤intAt c' i∧intAt c' i≤20∧0≤k∧k≤100 then IntKind.i64.wrap (q+IntKind.i64.wrap (intAt c' i * k)) else q)=q2→(farB c n c' n' k 0)=(farL c n 0 || farT (farM c' k mm (i+1) q2)):=fun q2 h=>by rw [← h];exact he
   refine cut ⟨fun h=>⟨hi2,fun _=>⟨hwi,fun _=>⟨fun h1=>⟨hi2,fun _=>⟨hwi,fun _=>⟨fun h2=>⟨fun h3=>⟨fun h4=>⟨hi2,fun _=>⟨hwi,fun _=>⟨⟨nn_of hc.1,nn_of hc'.1⟩,fun _=>go _ (st _ (if_pos ⟨h1,h2,h3,h4⟩))⟩⟩⟩,fun h4=>go _ (st _ (if_neg fun z=>h4 z.2.2.2))⟩,fun h3=>go _ (st _ (if_neg fun z=>h3 z.2.2.1))⟩,fun h2=>go _ (st _ (if_neg fun z=>h2 z.2.1))⟩⟩⟩,fun h1=>go _ (st _ (if_neg fun z=>h1 z.1))⟩⟩⟩,fun h=>by omega⟩
 exact⟨fun h1=>⟨⟨nn_of hc.1,nn_of hc'.1⟩,fun _=>by rw [farB_1 (by omega)]⟩,fun h1=>⟨fun h2=>⟨⟨nn_of hc.1,nn_of hc'.1⟩,fun _=>by rw [farB_2 (by omega)]⟩,fun h2=>l0 n' 0 0 (by omega) (by omega) (by omega) (farB_0 (by omega) (by omega) (by omega) (by omega))⟩⟩
set_option maxHeartbeats 2000000 in
theorem farNEN_can(hη:OneCells η)(hmix:Tryd.prog.follows .mixedOrders=true){ty ty2 n m cap cap2:Nat}{c c2:List Value}{k:Int}(hc:RowS c 0 n)(hp2:c2.all bareV=true) :
  CallSpec η Tryd.prog B 7 [.agg ⟨[.slice (some ⟨126,0,none⟩) n cap,.slice none 0 9223372036854775808,.int .i64 k,.slice (some ⟨127,0,none⟩) m cap2]⟩] (heapT [(ty,c),(ty2,c2)]) fun v h=>v = .bool (farB c n [] 0 k m)∧h=(heapT [(ty,c),(ty2,c2)]):=by
 have e0:RFaNEN.H0 ty ty2 n m cap cap2 c c2 k=heapT [(ty,c),(ty2,c2)]:=rfl
 rw [← e0]
 have hs:∀ i,i<n→c[i]? = some (.string ⟨⟨strAt c i⟩⟩):=fun i h=>by have:=hc.2 i h;rw [Nat.zero_add] at this;exact this
 have cut0:=RFaNEN.cut0 (η:=η) (B:=B) (D:=fun v h=>v = .bool (farB c n [] 0 k m)∧h=(RFaNEN.H0 ty ty2 n m cap cap2 c c2 k)) hη hmix (reg0 hη hmix) ty ty2 n m cap cap2 c c2 k
 have cut1:=fun i0=>RFaNEN.cut1 (η:=η) (B:=B) (D:=fun v h=>v = .bool (farB c n [] 0 k m)∧h=(RFaNEN.H0 ty ty2 n m cap cap2 c c2 k)) hη hmix (reg0 hη hmix) ty ty2 n m cap cap2 c c2 k i0
 refine RFaNEN.enter hη hmix (reg0 hη hmix) ty ty2 n m cap cap2 c c2 k ?_
 simp only [W.holds,true_and,and_true,true_implies,decide_eq_true_eq,decide_eq_false_iff_not,Nat.zero_add,Nat.mul_one] at cut0 cut1 ⊢
 have l1:∀ (mm i:Nat),i+mm=n→n≤20→(farB c n [] 0 k m)=(farL c mm i || farT 0)→RunD η Tryd.prog B 7 (RFaNEN.H0 ty ty2 n m cap cap2 c c2 k) [1,3,5] (RFaNEN.S1 ty ty2 n m cap cap2 c c2 k (i:Int) fun _=>undef) (QF Tryd.prog 128 fun v h=>v = .bool (farB c n [] 0 k m)∧h=(RFaNEN.H0 ty ty2 n m cap cap2 c c2 k)):=by
  intro mm
  induction mm with
  | zero=>
   intro i hi hn he
   have cut:=cut1 (i:Int)
   simp only [Int.toNat_natCast] at cut
   exact cut ⟨fun h=>by omega,fun _=>⟨⟨nn_of hc.1,nn_of hp2⟩,fun _=>by rw [he];rfl⟩⟩
  | succ mm ih=>
   intro i hi hn he
   have cut:=cut1 (i:Int)
   simp only [Int.toNat_natCast] at cut
   refine cut ⟨fun h=>⟨⟨by omega,h⟩,fun _=>⟨hs i (by omega),fun _=>⟨fun h=>⟨⟨nn_of hc.1,nn_of hp2⟩,fun _=>by rw [he];unfold farL;rw [decide_eq_true (by omega)];rfl⟩,fun h=>?_⟩⟩⟩,fun h=>by omega⟩
   rw [show IntKind.i64.wrap ((i:Int)+1)=((i+1:Nat):Int) from(wrap_small (by omega) (by omega)).trans rfl]
   refine ih (i+1) (by omega) hn ?_
   rw [he];conv=>lhs;unfold farL
   rw [decide_eq_false (by omega),Bool.false_or]
 have l0:n≤20→(farB c n [] 0 k m)=(farL c n 0 || farT (farM [] k 0 0 0))→RunD η Tryd.prog B 7 (RFaNEN.H0 ty ty2 n m cap cap2 c c2 k) [1,3,4] (RFaNEN.S0 ty ty2 n m cap cap2 c c2 k  fun _=>undef) (QF Tryd.prog 128 fun v h=>v = .bool (farB c n [] 0 k m)∧h=(RFaNEN.H0 ty ty2 n m cap cap2 c c2 k)):=by
  intro hn he
  exact cut0 (l1 n 0 (by omega) (by omega) he)
 exact⟨fun h1=>⟨⟨nn_of hc.1,nn_of hp2⟩,fun _=>by rw [farB_1 (by omega)]⟩,fun h1=>⟨fun h3=>⟨fun h4=>⟨⟨nn_of hc.1,nn_of hp2⟩,fun _=>by rw [farB_3 (by omega) (by omega)]⟩,fun h4=>⟨fun h5=>⟨⟨nn_of hc.1,nn_of hp2⟩,fun _=>by rw [farB_4 (by omega)]⟩,fun h5=>l0 (by omega) (farB_0 (by omega) (by omega) (by omega) (by omega))⟩⟩,fun h3=>⟨fun h5=>⟨⟨nn_of hc.1,nn_of hp2⟩,fun _=>by rw [farB_4 (by omega)]⟩,fun h5=>l0 (by omega) (farB_0 (by omega) (by omega) (by omega) (by omega))⟩⟩⟩
set_option maxHeartbeats 2000000 in
theorem farNEE_can(hη:OneCells η)(hmix:Tryd.prog.follows .mixedOrders=true){ty n cap:Nat}{c:List Value}{k:Int}(hc:RowS c 0 n) :
  CallSpec η Tryd.prog B 7 [.agg ⟨[.slice (some ⟨126,0,none⟩) n cap,.slice none 0 9223372036854775808,.int .i64 k,.slice none 0 9223372036854775808]⟩] (heapT [(ty,c)]) fun v h=>v = .bool (farB c n [] 0 k 0)∧h=(heapT [(ty,c)]):=by
 have e0:RFaNEE.H0 ty n cap c k=heapT [(ty,c)]:=rfl
 rw [← e0]
 have hs:∀ i,i<n→c[i]? = some (.string ⟨⟨strAt c i⟩⟩):=fun i h=>by have:=hc.2 i h;rw [Nat.zero_add] at this;exact this
 have cut0:=RFaNEE.cut0 (η:=η) (B:=B) (D:=fun v h=>v = .bool (farB c n [] 0 k 0)∧h=(RFaNEE.H0 ty n cap c k)) hη hmix (reg0 hη hmix) ty n cap c k
 have cut1:=fun i0=>RFaNEE.cut1 (η:=η) (B:=B) (D:=fun v h=>v = .bool (farB c n [] 0 k 0)∧h=(RFaNEE.H0 ty n cap c k)) hη hmix (reg0 hη hmix) ty n cap c k i0
 refine RFaNEE.enter hη hmix (reg0 hη hmix) ty n cap c k ?_
 simp only [W.holds,true_and,and_true,true_implies,decide_eq_true_eq,decide_eq_false_iff_not,Nat.zero_add,Nat.mul_one] at cut0 cut1 ⊢
 have l1:∀ (mm i:Nat),i+mm=n→n≤20→(farB c n [] 0 k 0)=(farL c mm i || farT 0)→RunD η Tryd.prog B 7 (RFaNEE.H0 ty n cap c k) [1,3,5] (RFaNEE.S1 ty n cap c k (i:Int) fun _=>undef) (QF Tryd.prog 127 fun v h=>v = .bool (farB c n [] 0 k 0)∧h=(RFaNEE.H0 ty n cap c k)):=by
  intro mm
  induction mm with
  | zero=>
   intro i hi hn he
   have cut:=cut1 (i:Int)
   simp only [Int.toNat_natCast] at cut
   exact cut ⟨fun h=>by omega,fun _=>⟨nn_of hc.1,fun _=>by rw [he];rfl⟩⟩
  | succ mm ih=>
   intro i hi hn he
   have cut:=cut1 (i:Int)
   simp only [Int.toNat_natCast] at cut
   refine cut ⟨fun h=>⟨⟨by omega,h⟩,fun _=>⟨hs i (by omega),fun _=>⟨fun h=>⟨nn_of hc.1,fun _=>by rw [he];unfold farL;rw [decide_eq_true (by omega)];rfl⟩,fun h=>?_⟩⟩⟩,fun h=>by omega⟩
   rw [show IntKind.i64.wrap ((i:Int)+1)=((i+1:Nat):Int) from(wrap_small (by omega) (by omega)).trans rfl]
   refine ih (i+1) (by omega) hn ?_
   rw [he];conv=>lhs;unfold farL
   rw [decide_eq_false (by omega),Bool.false_or]
 have l0:n≤20→(farB c n [] 0 k 0)=(farL c n 0 || farT (farM [] k 0 0 0))→RunD η Tryd.prog B 7 (RFaNEE.H0 ty n cap c k) [1,3,4] (RFaNEE.S0 ty n cap c k  fun _=>undef) (QF Tryd.prog 127 fun v h=>v = .bool (farB c n [] 0 k 0)∧h=(RFaNEE.H0 ty n cap c k)):=by
  intro hn he
  exact cut0 (l1 n 0 (by omega) (by omega) he)
 exact⟨fun h1=>⟨nn_of hc.1,fun _=>by rw [farB_1 (by omega)]⟩,fun h1=>l0 (by omega) (farB_0 (by omega) (by omega) (by omega) (by omega))⟩
set_option maxHeartbeats 2000000 in
theorem farENN_can(hη:OneCells η)(hmix:Tryd.prog.follows .mixedOrders=true){ty' ty2 n' m cap' cap2:Nat}{c' c2:List Value}{k:Int}(hc':RowI c' 0 n')(hp2:c2.all bareV=true) :
  CallSpec η Tryd.prog B 7 [.agg ⟨[.slice none 0 9223372036854775808,.slice (some ⟨126,0,none⟩) n' cap',.int .i64 k,.slice (some ⟨127,0,none⟩) m cap2]⟩] (heapT [(ty',c'),(ty2,c2)]) fun v h=>v = .bool (farB [] 0 c' n' k m)∧h=(heapT [(ty',c'),(ty2,c2)]):=by
 have e0:RFaENN.H0 ty' ty2 n' m cap' cap2 c' c2 k=heapT [(ty',c'),(ty2,c2)]:=rfl
 rw [← e0]
 have hw:∀ i,i<n'→c'[i]? = some (.int .i64 (intAt c' i)):=fun i h=>by have:=hc'.2 i h;rw [Nat.zero_add] at this;exact this
 have cut0:=fun i0 i1=>RFaENN.cut0 (η:=η) (B:=B) (D:=fun v h=>v = .bool (farB [] 0 c' n' k m)∧h=(RFaENN.H0 ty' ty2 n' m cap' cap2 c' c2 k)) hη hmix (reg0 hη hmix) ty' ty2 n' m cap' cap2 c' c2 k i0 i1
 have cut1:=fun i0=>RFaENN.cut1 (η:=η) (B:=B) (D:=fun v h=>v = .bool (farB [] 0 c' n' k m)∧h=(RFaENN.H0 ty' ty2 n' m cap' cap2 c' c2 k)) hη hmix (reg0 hη hmix) ty' ty2 n' m cap' cap2 c' c2 k i0
 refine RFaENN.enter hη hmix (reg0 hη hmix) ty' ty2 n' m cap' cap2 c' c2 k ?_
 simp only [W.holds,true_and,and_true,true_implies,decide_eq_true_eq,decide_eq_false_iff_not,Nat.zero_add,Nat.mul_one] at cut0 cut1 ⊢
 have l1:∀ (q:Int),(farB [] 0 c' n' k m)=(farL [] 0 0 || farT q)→RunD η Tryd.prog B 7 (RFaENN.H0 ty' ty2 n' m cap' cap2 c' c2 k) [1,3,5] (RFaENN.S1 ty' ty2 n' m cap' cap2 c' c2 k q fun _=>undef) (QF Tryd.prog 128 fun v h=>v = .bool (farB [] 0 c' n' k m)∧h=(RFaENN.H0 ty' ty2 n' m cap' cap2 c' c2 k)):=by
  intro q he
  exact cut1 q ⟨fun h=>⟨⟨nn_of hc'.1,nn_of hp2⟩,fun _=>by rw [he];show _=Value.bool (decide (600<q) && decide (q≤4096));rw [decide_eq_true h];rfl⟩,fun h=>⟨⟨nn_of hc'.1,nn_of hp2⟩,fun _=>by rw [he];show _=Value.bool (decide (600<q) && decide (q≤4096));rw [decide_eq_false h];rfl⟩⟩
 have l0:∀ (mm i:Nat) (q:Int),i+mm=n'→n'≤20→(farB [] 0 c' n' k m)=(farL [] 0 0 || farT (farM c' k mm i q))→RunD η Tryd.prog B 7 (RFaENN.H0 ty' ty2 n' m cap' cap2 c' c2 k) [1,3,4] (RFaENN.S0 ty' ty2 n' m cap' cap2 c' c2 k q (i:Int) fun _=>undef) (QF Tryd.prog 128 fun v h=>v = .bool (farB [] 0 c' n' k m)∧h=(RFaENN.H0 ty' ty2 n' m cap' cap2 c' c2 k)):=by
  intro mm
  induction mm with
  | zero=>
   intro i q hi hm he
   have cut:=cut0 q (i:Int)
   simp only [Int.toNat_natCast] at cut
   exact cut ⟨fun h=>by omega,fun _=>l1 q he⟩
  | succ mm ih=>
   intro i q hi hm he
   have cut:=cut0 q (i:Int)
   simp only [Int.toNat_natCast] at cut
   rw [show IntKind.i64.wrap ((i:Int)+1)=((i+1:Nat):Int) from(wrap_small (by omega) (by omega)).trans rfl] at cut
   have hi2:(0:Int)≤(i:Int)∧(i:Int)<n':=by omega
   have hwi:=hw i (by omega)
   have go:=fun q2=>ih (i+1) q2 (by omega) hm
   have st:∀ q2,(if 0≤intAt c' i∧intAt c' i≤20∧0≤k∧k≤100 then IntKind.i64.wrap (q+IntKind.i64.wrap (intAt c' i * k)) else q)=q2→(farB [] 0 c' n' k m)=(farL [] 0 0 || farT (farM c' k mm (i+1) q2)):=fun q2 h=>by rw [← h];exact he
   refine cut ⟨fun h=>⟨hi2,fun _=>⟨hwi,fun _=>⟨fun h1=>⟨hi2,fun _=>⟨hwi,fun _=>⟨fun h2=>⟨fun h3=>⟨fun h4=>⟨hi2,fun _=>⟨hwi,fun _=>⟨⟨nn_of hc'.1,nn_of hp2⟩,fun _=>go _ (st _ (if_pos ⟨h1,h2,h3,h4⟩))⟩⟩⟩,fun h4=>go _ (st _ (if_neg fun z=>h4 z.2.2.2))⟩,fun h3=>go _ (st _ (if_neg fun z=>h3 z.2.2.1))⟩,fun h2=>go _ (st _ (if_neg fun z=>h2 z.2.1))⟩⟩⟩,fun h1=>go _ (st _ (if_neg fun z=>h1 z.1))⟩⟩⟩,fun h=>by omega⟩
 exact⟨fun h2=>⟨⟨nn_of hc'.1,nn_of hp2⟩,fun _=>by rw [farB_2 (by omega)]⟩,fun h2=>⟨fun h3=>⟨fun h4=>⟨⟨nn_of hc'.1,nn_of hp2⟩,fun _=>by rw [farB_3 (by omega) (by omega)]⟩,fun h4=>⟨fun h5=>⟨⟨nn_of hc'.1,nn_of hp2⟩,fun _=>by rw [farB_4 (by omega)]⟩,fun h5=>l0 n' 0 0 (by omega) (by omega) (farB_0 (by omega) (by omega) (by omega) (by omega))⟩⟩,fun h3=>⟨fun h5=>⟨⟨nn_of hc'.1,nn_of hp2⟩,fun _=>by rw [farB_4 (by omega)]⟩,fun h5=>l0 n' 0 0 (by omega) (by omega) (farB_0 (by omega) (by omega) (by omega) (by omega))⟩⟩⟩
set_option maxHeartbeats 2000000 in
theorem farENE_can(hη:OneCells η)(hmix:Tryd.prog.follows .mixedOrders=true){ty' n' cap':Nat}{c':List Value}{k:Int}(hc':RowI c' 0 n') :
  CallSpec η Tryd.prog B 7 [.agg ⟨[.slice none 0 9223372036854775808,.slice (some ⟨126,0,none⟩) n' cap',.int .i64 k,.slice none 0 9223372036854775808]⟩] (heapT [(ty',c')]) fun v h=>v = .bool (farB [] 0 c' n' k 0)∧h=(heapT [(ty',c')]):=by
 have e0:RFaENE.H0 ty' n' cap' c' k=heapT [(ty',c')]:=rfl
 rw [← e0]
 have hw:∀ i,i<n'→c'[i]? = some (.int .i64 (intAt c' i)):=fun i h=>by have:=hc'.2 i h;rw [Nat.zero_add] at this;exact this
 have cut0:=fun i0 i1=>RFaENE.cut0 (η:=η) (B:=B) (D:=fun v h=>v = .bool (farB [] 0 c' n' k 0)∧h=(RFaENE.H0 ty' n' cap' c' k)) hη hmix (reg0 hη hmix) ty' n' cap' c' k i0 i1
 have cut1:=fun i0=>RFaENE.cut1 (η:=η) (B:=B) (D:=fun v h=>v = .bool (farB [] 0 c' n' k 0)∧h=(RFaENE.H0 ty' n' cap' c' k)) hη hmix (reg0 hη hmix) ty' n' cap' c' k i0
 refine RFaENE.enter hη hmix (reg0 hη hmix) ty' n' cap' c' k ?_
 simp only [W.holds,true_and,and_true,true_implies,decide_eq_true_eq,decide_eq_false_iff_not,Nat.zero_add,Nat.mul_one] at cut0 cut1 ⊢
 have l1:∀ (q:Int),(farB [] 0 c' n' k 0)=(farL [] 0 0 || farT q)→RunD η Tryd.prog B 7 (RFaENE.H0 ty' n' cap' c' k) [1,3,5] (RFaENE.S1 ty' n' cap' c' k q fun _=>undef) (QF Tryd.prog 127 fun v h=>v = .bool (farB [] 0 c' n' k 0)∧h=(RFaENE.H0 ty' n' cap' c' k)):=by
  intro q he
  exact cut1 q ⟨fun h=>⟨nn_of hc'.1,fun _=>by rw [he];show _=Value.bool (decide (600<q) && decide (q≤4096));rw [decide_eq_true h];rfl⟩,fun h=>⟨nn_of hc'.1,fun _=>by rw [he];show _=Value.bool (decide (600<q) && decide (q≤4096));rw [decide_eq_false h];rfl⟩⟩
 have l0:∀ (mm i:Nat) (q:Int),i+mm=n'→n'≤20→(farB [] 0 c' n' k 0)=(farL [] 0 0 || farT (farM c' k mm i q))→RunD η Tryd.prog B 7 (RFaENE.H0 ty' n' cap' c' k) [1,3,4] (RFaENE.S0 ty' n' cap' c' k q (i:Int) fun _=>undef) (QF Tryd.prog 127 fun v h=>v = .bool (farB [] 0 c' n' k 0)∧h=(RFaENE.H0 ty' n' cap' c' k)):=by
  intro mm
  induction mm with
  | zero=>
   intro i q hi hm he
   have cut:=cut0 q (i:Int)
   simp only [Int.toNat_natCast] at cut
   exact cut ⟨fun h=>by omega,fun _=>l1 q he⟩
  | succ mm ih=>
   intro i q hi hm he
   have cut:=cut0 q (i:Int)
   simp only [Int.toNat_natCast] at cut
   rw [show IntKind.i64.wrap ((i:Int)+1)=((i+1:Nat):Int) from(wrap_small (by omega) (by omega)).trans rfl] at cut
   have hi2:(0:Int)≤(i:Int)∧(i:Int)<n':=by omega
   have hwi:=hw i (by omega)
   have go:=fun q2=>ih (i+1) q2 (by omega) hm
   have st:∀ q2,(if 0≤intAt c' i∧intAt c' i≤20∧0≤k∧k≤100 then IntKind.i64.wrap (q+IntKind.i64.wrap (intAt c' i * k)) else q)=q2→(farB [] 0 c' n' k 0)=(farL [] 0 0 || farT (farM c' k mm (i+1) q2)):=fun q2 h=>by rw [← h];exact he
   refine cut ⟨fun h=>⟨hi2,fun _=>⟨hwi,fun _=>⟨fun h1=>⟨hi2,fun _=>⟨hwi,fun _=>⟨fun h2=>⟨fun h3=>⟨fun h4=>⟨hi2,fun _=>⟨hwi,fun _=>⟨nn_of hc'.1,fun _=>go _ (st _ (if_pos ⟨h1,h2,h3,h4⟩))⟩⟩⟩,fun h4=>go _ (st _ (if_neg fun z=>h4 z.2.2.2))⟩,fun h3=>go _ (st _ (if_neg fun z=>h3 z.2.2.1))⟩,fun h2=>go _ (st _ (if_neg fun z=>h2 z.2.1))⟩⟩⟩,fun h1=>go _ (st _ (if_neg fun z=>h1 z.1))⟩⟩⟩,fun h=>by omega⟩
 exact⟨fun h2=>⟨nn_of hc'.1,fun _=>by rw [farB_2 (by omega)]⟩,fun h2=>l0 n' 0 0 (by omega) (by omega) (farB_0 (by omega) (by omega) (by omega) (by omega))⟩
set_option maxHeartbeats 2000000 in
theorem farEEN_can(hη:OneCells η)(hmix:Tryd.prog.follows .mixedOrders=true){ty2 m cap2:Nat}{c2:List Value}{k:Int}(hp2:c2.all bareV=true) :
  CallSpec η Tryd.prog B 7 [.agg ⟨[.slice none 0 9223372036854775808,.slice none 0 9223372036854775808,.int .i64 k,.slice (some ⟨126,0,none⟩) m cap2]⟩] (heapT [(ty2,c2)]) fun v h=>v = .bool (farB [] 0 [] 0 k m)∧h=(heapT [(ty2,c2)]):=by
 have e0:RFaEEN.H0 ty2 m cap2 c2 k=heapT [(ty2,c2)]:=rfl
 rw [← e0]
 have cut0:=RFaEEN.cut0 (η:=η) (B:=B) (D:=fun v h=>v = .bool (farB [] 0 [] 0 k m)∧h=(RFaEEN.H0 ty2 m cap2 c2 k)) hη hmix (reg0 hη hmix) ty2 m cap2 c2 k
 have cut1:=RFaEEN.cut1 (η:=η) (B:=B) (D:=fun v h=>v = .bool (farB [] 0 [] 0 k m)∧h=(RFaEEN.H0 ty2 m cap2 c2 k)) hη hmix (reg0 hη hmix) ty2 m cap2 c2 k
 refine RFaEEN.enter hη hmix (reg0 hη hmix) ty2 m cap2 c2 k ?_
 simp only [W.holds,true_and,and_true,true_implies,decide_eq_true_eq,decide_eq_false_iff_not,Nat.zero_add,Nat.mul_one] at cut0 cut1 ⊢
 have l1:(farB [] 0 [] 0 k m)=(farL [] 0 0 || farT 0)→RunD η Tryd.prog B 7 (RFaEEN.H0 ty2 m cap2 c2 k) [1,3,5] (RFaEEN.S1 ty2 m cap2 c2 k  fun _=>undef) (QF Tryd.prog 127 fun v h=>v = .bool (farB [] 0 [] 0 k m)∧h=(RFaEEN.H0 ty2 m cap2 c2 k)):=by
  intro he
  exact cut1 ⟨nn_of hp2,fun _=>by rw [he];rfl⟩
 have l0:(farB [] 0 [] 0 k m)=(farL [] 0 0 || farT (farM [] k 0 0 0))→RunD η Tryd.prog B 7 (RFaEEN.H0 ty2 m cap2 c2 k) [1,3,4] (RFaEEN.S0 ty2 m cap2 c2 k  fun _=>undef) (QF Tryd.prog 127 fun v h=>v = .bool (farB [] 0 [] 0 k m)∧h=(RFaEEN.H0 ty2 m cap2 c2 k)):=by
  intro he
  exact cut0 (l1 he)
 exact⟨fun h3=>⟨fun h4=>⟨nn_of hp2,fun _=>by rw [farB_3 (by omega) (by omega)]⟩,fun h4=>⟨fun h5=>⟨nn_of hp2,fun _=>by rw [farB_4 (by omega)]⟩,fun h5=>l0 (farB_0 (by omega) (by omega) (by omega) (by omega))⟩⟩,fun h3=>⟨fun h5=>⟨nn_of hp2,fun _=>by rw [farB_4 (by omega)]⟩,fun h5=>l0 (farB_0 (by omega) (by omega) (by omega) (by omega))⟩⟩
set_option maxHeartbeats 2000000 in
theorem farEEE_can(hη:OneCells η)(hmix:Tryd.prog.follows .mixedOrders=true){k:Int} :
  CallSpec η Tryd.prog B 7 [.agg ⟨[.slice none 0 9223372036854775808,.slice none 0 9223372036854775808,.int .i64 k,.slice none 0 9223372036854775808]⟩] (heapT []) fun v h=>v = .bool (farB [] 0 [] 0 k 0)∧h=(heapT []):=by
 have e0:RFaEEE.H0 k=heapT []:=rfl
 rw [← e0]
 have cut0:=RFaEEE.cut0 (η:=η) (B:=B) (D:=fun v h=>v = .bool (farB [] 0 [] 0 k 0)∧h=(RFaEEE.H0 k)) hη hmix (reg0 hη hmix) k
 have cut1:=RFaEEE.cut1 (η:=η) (B:=B) (D:=fun v h=>v = .bool (farB [] 0 [] 0 k 0)∧h=(RFaEEE.H0 k)) hη hmix (reg0 hη hmix) k
 refine RFaEEE.enter hη hmix (reg0 hη hmix) k ?_
 simp only [W.holds,true_and,and_true,true_implies,decide_eq_true_eq,decide_eq_false_iff_not,Nat.zero_add,Nat.mul_one] at cut0 cut1 ⊢
 have l1:(farB [] 0 [] 0 k 0)=(farL [] 0 0 || farT 0)→RunD η Tryd.prog B 7 (RFaEEE.H0 k) [1,3,5] (RFaEEE.S1 k  fun _=>undef) (QF Tryd.prog 126 fun v h=>v = .bool (farB [] 0 [] 0 k 0)∧h=(RFaEEE.H0 k)):=by
  intro he
  exact cut1 (by rw [he];rfl)
 have l0:(farB [] 0 [] 0 k 0)=(farL [] 0 0 || farT (farM [] k 0 0 0))→RunD η Tryd.prog B 7 (RFaEEE.H0 k) [1,3,4] (RFaEEE.S0 k  fun _=>undef) (QF Tryd.prog 126 fun v h=>v = .bool (farB [] 0 [] 0 k 0)∧h=(RFaEEE.H0 k)):=by
  intro he
  exact cut0 (l1 he)
 exact l0 (farB_0 (by omega) (by omega) (by omega) (by omega))
end RG
end Go.Ev

/- Rings of backends: far from any heap (written by mkRGG.py). -/
namespace Go.Ev
open Go Go.Proofs
variable {η:Nat→Value} {B:Bd}
namespace RG
theorem farNNN_any(hη:OneCells η)(hmix:Tryd.prog.follows .mixedOrders=true){H:AH}{r ty n cap own r' ty' n' cap' own' r2 ty2 m cap2 own2:Nat}{c c' c2:List Value}{k:Int}(h0:H.objs.get r=some (.cells ty c false own))(h1:H.objs.get r'=some (.cells ty' c' false own'))(h2:H.objs.get r2=some (.cells ty2 c2 false own2))(ne1:r ≠ r')(ne2:r ≠ r2)(ne3:r' ≠ r2)(hc:RowS c 0 n)(hc':RowI c' 0 n')(hp2:c2.all bareV=true) :
  CallSpec η Tryd.prog B 7 [.agg ⟨[.slice (some ⟨r,0,none⟩) n cap,.slice (some ⟨r',0,none⟩) n' cap',.int .i64 k,.slice (some ⟨r2,0,none⟩) m cap2]⟩] H (KT.ret (.bool (farB c n c' n' k m)) H).sat:=by
 refine CallSpec.pureR (l:=[(ty,c),(ty',c'),(ty2,c2)]) (rn:=(r3 r r' r2)) (args:=[.agg ⟨[.slice (some ⟨126,0,none⟩) n cap,.slice (some ⟨127,0,none⟩) n' cap',.int .i64 k,.slice (some ⟨128,0,none⟩) m cap2]⟩]) hη FN.gs9 (rows3 h0 h1 h2 ne1 ne2 ne3 hc.1 hc'.1 hp2) (.cons (.agg rfl fun j y z e1 e2=>?_) .nil) (fun _ _=>.bool _) (farNNN_can hη hmix hc hc' hp2)
 match j,e1,e2 with
 | 0,e1,e2=>simp at e1 e2;subst e1;subst e2;exact .slice (σ:=sigR (r3 r r' r2)) (r:=126) _ _ (show 126<129 by decide)
 | 1,e1,e2=>simp at e1 e2;subst e1;subst e2;exact .slice (σ:=sigR (r3 r r' r2)) (r:=127) _ _ (show 127<129 by decide)
 | 2,e1,e2=>simp at e1 e2;subst e1;subst e2;exact .int _ _
 | 3,e1,e2=>simp at e1 e2;subst e1;subst e2;exact .slice (σ:=sigR (r3 r r' r2)) (r:=128) _ _ (show 128<129 by decide)
 | j+4,e1,e2=>simp at e1
theorem farNNE_any(hη:OneCells η)(hmix:Tryd.prog.follows .mixedOrders=true){H:AH}{r ty n cap own r' ty' n' cap' own':Nat}{c c':List Value}{k:Int}(h0:H.objs.get r=some (.cells ty c false own))(h1:H.objs.get r'=some (.cells ty' c' false own'))(ne:r ≠ r')(hc:RowS c 0 n)(hc':RowI c' 0 n') :
  CallSpec η Tryd.prog B 7 [.agg ⟨[.slice (some ⟨r,0,none⟩) n cap,.slice (some ⟨r',0,none⟩) n' cap',.int .i64 k,.slice none 0 9223372036854775808]⟩] H (KT.ret (.bool (farB c n c' n' k 0)) H).sat:=by
 refine CallSpec.pureR (l:=[(ty,c),(ty',c')]) (rn:=(fun i=>if i=0 then r else r')) (args:=[.agg ⟨[.slice (some ⟨126,0,none⟩) n cap,.slice (some ⟨127,0,none⟩) n' cap',.int .i64 k,.slice none 0 9223372036854775808]⟩]) hη FN.gs9 (rows2 h0 h1 ne hc.1 hc'.1) (.cons (.agg rfl fun j y z e1 e2=>?_) .nil) (fun _ _=>.bool _) (farNNE_can hη hmix hc hc')
 match j,e1,e2 with
 | 0,e1,e2=>simp at e1 e2;subst e1;subst e2;exact .slice (σ:=sigR (fun i=>if i=0 then r else r')) (r:=126) _ _ (show 126<128 by decide)
 | 1,e1,e2=>simp at e1 e2;subst e1;subst e2;exact .slice (σ:=sigR (fun i=>if i=0 then r else r')) (r:=127) _ _ (show 127<128 by decide)
 | 2,e1,e2=>simp at e1 e2;subst e1;subst e2;exact .int _ _
 | 3,e1,e2=>simp at e1 e2;subst e1;subst e2;exact .slice0 _ _
 | j+4,e1,e2=>simp at e1
theorem farNEN_any(hη:OneCells η)(hmix:Tryd.prog.follows .mixedOrders=true){H:AH}{r ty n cap own r2 ty2 m cap2 own2:Nat}{c c2:List Value}{k:Int}(h0:H.objs.get r=some (.cells ty c false own))(h1:H.objs.get r2=some (.cells ty2 c2 false own2))(ne:r ≠ r2)(hc:RowS c 0 n)(hp2:c2.all bareV=true) :
  CallSpec η Tryd.prog B 7 [.agg ⟨[.slice (some ⟨r,0,none⟩) n cap,.slice none 0 9223372036854775808,.int .i64 k,.slice (some ⟨r2,0,none⟩) m cap2]⟩] H (KT.ret (.bool (farB c n [] 0 k m)) H).sat:=by
 refine CallSpec.pureR (l:=[(ty,c),(ty2,c2)]) (rn:=(fun i=>if i=0 then r else r2)) (args:=[.agg ⟨[.slice (some ⟨126,0,none⟩) n cap,.slice none 0 9223372036854775808,.int .i64 k,.slice (some ⟨127,0,none⟩) m cap2]⟩]) hη FN.gs9 (rows2 h0 h1 ne hc.1 hp2) (.cons (.agg rfl fun j y z e1 e2=>?_) .nil) (fun _ _=>.bool _) (farNEN_can hη hmix hc hp2)
 match j,e1,e2 with
 | 0,e1,e2=>simp at e1 e2;subst e1;subst e2;exact .slice (σ:=sigR (fun i=>if i=0 then r else r2)) (r:=126) _ _ (show 126<128 by decide)
 | 1,e1,e2=>simp at e1 e2;subst e1;subst e2;exact .slice0 _ _
 | 2,e1,e2=>simp at e1 e2;subst e1;subst e2;exact .int _ _
 | 3,e1,e2=>simp at e1 e2;subst e1;subst e2;exact .slice (σ:=sigR (fun i=>if i=0 then r else r2)) (r:=127) _ _ (show 127<128 by decide)
 | j+4,e1,e2=>simp at e1
theorem farNEE_any(hη:OneCells η)(hmix:Tryd.prog.follows .mixedOrders=true){H:AH}{r ty n cap own:Nat}{c:List Value}{k:Int}(h0:H.objs.get r=some (.cells ty c false own))(hc:RowS c 0 n) :
  CallSpec η Tryd.prog B 7 [.agg ⟨[.slice (some ⟨r,0,none⟩) n cap,.slice none 0 9223372036854775808,.int .i64 k,.slice none 0 9223372036854775808]⟩] H (KT.ret (.bool (farB c n [] 0 k 0)) H).sat:=by
 refine CallSpec.pureR (l:=[(ty,c)]) (rn:=(fun _=>r)) (args:=[.agg ⟨[.slice (some ⟨126,0,none⟩) n cap,.slice none 0 9223372036854775808,.int .i64 k,.slice none 0 9223372036854775808]⟩]) hη FN.gs9 (FN.rowsIn1 h0 hc.1) (.cons (.agg rfl fun j y z e1 e2=>?_) .nil) (fun _ _=>.bool _) (farNEE_can hη hmix hc)
 match j,e1,e2 with
 | 0,e1,e2=>simp at e1 e2;subst e1;subst e2;exact .slice (σ:=sigR (fun _=>r)) (r:=126) _ _ (show 126<127 by decide)
 | 1,e1,e2=>simp at e1 e2;subst e1;subst e2;exact .slice0 _ _
 | 2,e1,e2=>simp at e1 e2;subst e1;subst e2;exact .int _ _
 | 3,e1,e2=>simp at e1 e2;subst e1;subst e2;exact .slice0 _ _
 | j+4,e1,e2=>simp at e1
theorem farENN_any(hη:OneCells η)(hmix:Tryd.prog.follows .mixedOrders=true){H:AH}{r' ty' n' cap' own' r2 ty2 m cap2 own2:Nat}{c' c2:List Value}{k:Int}(h0:H.objs.get r'=some (.cells ty' c' false own'))(h1:H.objs.get r2=some (.cells ty2 c2 false own2))(ne:r' ≠ r2)(hc':RowI c' 0 n')(hp2:c2.all bareV=true) :
  CallSpec η Tryd.prog B 7 [.agg ⟨[.slice none 0 9223372036854775808,.slice (some ⟨r',0,none⟩) n' cap',.int .i64 k,.slice (some ⟨r2,0,none⟩) m cap2]⟩] H (KT.ret (.bool (farB [] 0 c' n' k m)) H).sat:=by
 refine CallSpec.pureR (l:=[(ty',c'),(ty2,c2)]) (rn:=(fun i=>if i=0 then r' else r2)) (args:=[.agg ⟨[.slice none 0 9223372036854775808,.slice (some ⟨126,0,none⟩) n' cap',.int .i64 k,.slice (some ⟨127,0,none⟩) m cap2]⟩]) hη FN.gs9 (rows2 h0 h1 ne hc'.1 hp2) (.cons (.agg rfl fun j y z e1 e2=>?_) .nil) (fun _ _=>.bool _) (farENN_can hη hmix hc' hp2)
 match j,e1,e2 with
 | 0,e1,e2=>simp at e1 e2;subst e1;subst e2;exact .slice0 _ _
 | 1,e1,e2=>simp at e1 e2;subst e1;subst e2;exact .slice (σ:=sigR (fun i=>if i=0 then r' else r2)) (r:=126) _ _ (show 126<128 by decide)
 | 2,e1,e2=>simp at e1 e2;subst e1;subst e2;exact .int _ _
 | 3,e1,e2=>simp at e1 e2;subst e1;subst e2;exact .slice (σ:=sigR (fun i=>if i=0 then r' else r2)) (r:=127) _ _ (show 127<128 by decide)
 | j+4,e1,e2=>simp at e1
theorem farENE_any(hη:OneCells η)(hmix:Tryd.prog.follows .mixedOrders=true){H:AH}{r' ty' n' cap' own':Nat}{c':List Value}{k:Int}(h0:H.objs.get r'=some (.cells ty' c' false own'))(hc':RowI c' 0 n') :
  CallSpec η Tryd.prog B 7 [.agg ⟨[.slice none 0 9223372036854775808,.slice (some ⟨r',0,none⟩) n' cap',.int .i64 k,.slice none 0 9223372036854775808]⟩] H (KT.ret (.bool (farB [] 0 c' n' k 0)) H).sat:=by
 refine CallSpec.pureR (l:=[(ty',c')]) (rn:=(fun _=>r')) (args:=[.agg ⟨[.slice none 0 9223372036854775808,.slice (some ⟨126,0,none⟩) n' cap',.int .i64 k,.slice none 0 9223372036854775808]⟩]) hη FN.gs9 (FN.rowsIn1 h0 hc'.1) (.cons (.agg rfl fun j y z e1 e2=>?_) .nil) (fun _ _=>.bool _) (farENE_can hη hmix hc')
 match j,e1,e2 with
 | 0,e1,e2=>simp at e1 e2;subst e1;subst e2;exact .slice0 _ _
 | 1,e1,e2=>simp at e1 e2;subst e1;subst e2;exact .slice (σ:=sigR (fun _=>r')) (r:=126) _ _ (show 126<127 by decide)
 | 2,e1,e2=>simp at e1 e2;subst e1;subst e2;exact .int _ _
 | 3,e1,e2=>simp at e1 e2;subst e1;subst e2;exact .slice0 _ _
 | j+4,e1,e2=>simp at e1
theorem farEEN_any(hη:OneCells η)(hmix:Tryd.prog.follows .mixedOrders=true){H:AH}{r2 ty2 m cap2 own2:Nat}{c2:List Value}{k:Int}(h0:H.objs.get r2=some (.cells ty2 c2 false own2))(hp2:c2.all bareV=true) :
  CallSpec η Tryd.prog B 7 [.agg ⟨[.slice none 0 9223372036854775808,.slice none 0 9223372036854775808,.int .i64 k,.slice (some ⟨r2,0,none⟩) m cap2]⟩] H (KT.ret (.bool (farB [] 0 [] 0 k m)) H).sat:=by
 refine CallSpec.pureR (l:=[(ty2,c2)]) (rn:=(fun _=>r2)) (args:=[.agg ⟨[.slice none 0 9223372036854775808,.slice none 0 9223372036854775808,.int .i64 k,.slice (some ⟨126,0,none⟩) m cap2]⟩]) hη FN.gs9 (FN.rowsIn1 h0 hp2) (.cons (.agg rfl fun j y z e1 e2=>?_) .nil) (fun _ _=>.bool _) (farEEN_can hη hmix hp2)
 match j,e1,e2 with
 | 0,e1,e2=>simp at e1 e2;subst e1;subst e2;exact .slice0 _ _
 | 1,e1,e2=>simp at e1 e2;subst e1;subst e2;exact .slice0 _ _
 | 2,e1,e2=>simp at e1 e2;subst e1;subst e2;exact .int _ _
 | 3,e1,e2=>simp at e1 e2;subst e1;subst e2;exact .slice (σ:=sigR (fun _=>r2)) (r:=126) _ _ (show 126<127 by decide)
 | j+4,e1,e2=>simp at e1
theorem farEEE_any(hη:OneCells η)(hmix:Tryd.prog.follows .mixedOrders=true){H:AH}{k:Int} :
  CallSpec η Tryd.prog B 7 [.agg ⟨[.slice none 0 9223372036854775808,.slice none 0 9223372036854775808,.int .i64 k,.slice none 0 9223372036854775808]⟩] H (KT.ret (.bool (farB [] 0 [] 0 k 0)) H).sat:=by
 refine CallSpec.pureR (l:=[]) (rn:=(fun _=>0)) (args:=[.agg ⟨[.slice none 0 9223372036854775808,.slice none 0 9223372036854775808,.int .i64 k,.slice none 0 9223372036854775808]⟩]) hη FN.gs9 ⟨fun i x hi=>by simp at hi,fun i j hi=>by simp at hi⟩ (.cons (.agg rfl fun j y z e1 e2=>?_) .nil) (fun _ _=>.bool _) (farEEE_can hη hmix)
 match j,e1,e2 with
 | 0,e1,e2=>simp at e1 e2;subst e1;subst e2;exact .slice0 _ _
 | 1,e1,e2=>simp at e1 e2;subst e1;subst e2;exact .slice0 _ _
 | 2,e1,e2=>simp at e1 e2;subst e1;subst e2;exact .int _ _
 | 3,e1,e2=>simp at e1 e2;subst e1;subst e2;exact .slice0 _ _
 | j+4,e1,e2=>simp at e1
end RG
end Go.Ev

/- Rings of backends: what the law's calls return. -/
namespace Go.Ev
namespace RG
def fnP(c2:List Value)(m:Nat)(s:List UInt8):Int:=bknL (ptsOf c2 m) (FN.fnv .u32 16777619 (bytesV s) 0 s.length 2166136261)
noncomputable def hb3(x:Int):Int:=Classical.choose (⟨FN.fnv .u32 16777619 [.int .u8 x] 0 1 2166136261,rfl⟩:∃ y,y=FN.fnv .u32 16777619 [.int .u8 x] 0 1 2166136261)
end RG
end Go.Ev

namespace Go.Ev
open Go Go.Proofs
open Go.Ev.T renaming node → nN, nil → nZ
open Go.Proofs.Tryd (prog)
set_option maxRecDepth 100000
set_option maxHeartbeats 2000000
namespace LUENNN3
noncomputable def bd:Code:=(Go.Proofs.Tryd.f3.body).getD .skip
noncomputable def H0(ty' ty2 ty3 n' m nk cap' cap2 cap3:Nat)(c' c2 c3:List Value)(kn xb:Int):AH:={ objs:=eE (eE (eE (eE (eE (eE (eE (lL (AObj.cells ty2 c2 false 0)) nZ) nZ) nZ) nZ) nZ) nZ) (eE (eE (eE (eE (eE (eE (lL (AObj.cells ty3 c3 false 0)) nZ) nZ) nZ) nZ) nZ) (eE nZ (eE nZ (eE nZ (eE nZ (lL (AObj.cells ty' c' false 0))))))),next:=129 }
noncomputable def E(ty' ty2 ty3 n' m nk cap' cap2 cap3:Nat)(c' c2 c3:List Value)(kn xb:Int):AS:=⟨⟨3,154,nS (Value.agg ⟨[Value.slice none 0 9223372036854775808,sS 126 0 n' cap',iI kn,sS 127 0 m cap2]⟩) (lL (uI xb)) (lL (sS 128 0 nk cap3)),[Item.code (codeAt bd [])],[],FrameMode.run,CallKind.normal,none⟩,[],H0 ty' ty2 ty3 n' m nk cap' cap2 cap3 c' c2 c3 kn xb⟩
theorem enter{η:Nat→Value}{B:Bd}(hη:OneCells η)(hmix:prog.follows .mixedOrders=true)(hreg:RegOk η prog B noNest){D:Value→AH→Prop}(ty' ty2 ty3 n' m nk cap' cap2 cap3:Nat)(c' c2 c3:List Value)(kn xb:Int)(h:let q1:AH:=⟨eE (eE (eE (eE (eE (eE (eE (lL (AObj.cells ty2 c2 false 0)) nZ) nZ) nZ) nZ) nZ) (eE (eE (eE (eE (eE (lL (AObj.cells 26 [Value.slice none 0 9223372036854775808,sS 126 0 n' cap',iI kn,sS 127 0 m cap2] true 2)) nZ) nZ) nZ) nZ) nZ)) (eE (eE (eE (eE (eE (eE (lL (AObj.cells ty3 c3 false 0)) nZ) nZ) nZ) nZ) nZ) (eE nZ (eE nZ (eE nZ (eE nZ (lL (AObj.cells ty' c' false 0))))))),130⟩;let q0:W:=(.call 9 [] (q1) (.ret (Value.bool true) (q1)) (.need (NoNames c'∧NoNames c2∧NoNames c3∧True) (.done 3 (Value.bool true) (H0 ty' ty2 ty3 n' m nk cap' cap2 cap3 c' c2 c3 kn xb))));W.holds η prog B 3 (fun kp_ st_=>RunD η prog B 3 (H0 ty' ty2 ty3 n' m nk cap' cap2 cap3 c' c2 c3 kn xb) kp_ st_ (QF prog 129 D)) D (.call 7 [Value.agg ⟨[Value.slice none 0 9223372036854775808,Value.slice (some ⟨126,0,none⟩) n' cap',Value.int IntKind.i64 kn,Value.slice (some ⟨127,0,none⟩) m cap2]⟩] (q1) (.ret (Value.bool (RG.farB [] 0 c' n' kn m)) (q1)) (.ite (RG.farB [] (0:Nat) c' n' kn m) q0 (.ite (decide ((↑nk:Int) > (60:Int))) q0 (.call 8 [Value.agg ⟨[Value.slice none 0 9223372036854775808,Value.slice (some ⟨126,0,none⟩) n' cap',Value.int IntKind.i64 kn,Value.slice (some ⟨127,0,none⟩) m cap2]⟩] (q1) (.ret (Value.int IntKind.i64 3) (q1)) q0))))):CallSpec η prog B 3 [Value.agg ⟨[Value.slice none 0 9223372036854775808,Value.slice (some ⟨126,0,none⟩) n' cap',Value.int IntKind.i64 kn,Value.slice (some ⟨127,0,none⟩) m cap2]⟩,Value.int IntKind.u8 xb,Value.slice (some ⟨128,0,none⟩) nk cap3] (H0 ty' ty2 ty3 n' m nk cap' cap2 cap3 c' c2 c3 kn xb) D:=by
 refine CallSpec.ofQF hη (CallSpec.enter (fr:=(E ty' ty2 ty3 n' m nk cap' cap2 cap3 c' c2 c3 kn xb).fr) (by kernel_rfl) ?_)
 exact walk_okT (h0:=H0 ty' ty2 ty3 n' m nk cap' cap2 cap3 c' c2 c3 kn xb) hη hmix hreg (.steps 9 <| .call kN <| .steps 1 <| .bit 19 (.steps 19 <| .call kN <| .steps 3 <| .done (some ⟨129,[],[(126,(126,true)),(127,(127,true)),(128,(128,true))]⟩)) (.steps 5 <| .bit 24 (.steps 14 <| .call kN <| .steps 3 <| .done (some ⟨129,[],[(126,(126,true)),(127,(127,true)),(128,(128,true))]⟩)) (.steps 1 <| .call kN <| .steps 12 <| .call kN <| .steps 3 <| .done (some ⟨129,[],[(126,(126,true)),(127,(127,true)),(128,(128,true))]⟩)))) (E ty' ty2 ty3 n' m nk cap' cap2 cap3 c' c2 c3 kn xb) (by kernel_rfl) h (by kernel_rfl)
end LUENNN3
namespace LUENNE3
noncomputable def bd:Code:=(Go.Proofs.Tryd.f3.body).getD .skip
noncomputable def H0(ty' ty2 n' m cap' cap2:Nat)(c' c2:List Value)(kn xb:Int):AH:={ objs:=eE (eE (eE (eE (eE (eE (eE (lL (AObj.cells ty2 c2 false 0)) nZ) nZ) nZ) nZ) nZ) nZ) (eE nZ (eE nZ (eE nZ (eE nZ (eE nZ (lL (AObj.cells ty' c' false 0))))))),next:=128 }
noncomputable def E(ty' ty2 n' m cap' cap2:Nat)(c' c2:List Value)(kn xb:Int):AS:=⟨⟨3,154,nS (Value.agg ⟨[Value.slice none 0 9223372036854775808,sS 126 0 n' cap',iI kn,sS 127 0 m cap2]⟩) (lL (uI xb)) (lL (Value.slice none 0 9223372036854775808)),[Item.code (codeAt bd [])],[],FrameMode.run,CallKind.normal,none⟩,[],H0 ty' ty2 n' m cap' cap2 c' c2 kn xb⟩
theorem enter{η:Nat→Value}{B:Bd}(hη:OneCells η)(hmix:prog.follows .mixedOrders=true)(hreg:RegOk η prog B noNest){D:Value→AH→Prop}(ty' ty2 n' m cap' cap2:Nat)(c' c2:List Value)(kn xb:Int)(h:let q1:AH:=⟨eE (eE (eE (eE (eE (eE (eE (lL (AObj.cells ty2 c2 false 0)) nZ) nZ) nZ) nZ) nZ) nZ) (eE (eE (eE (eE (eE (eE (lL (AObj.cells 26 [Value.slice none 0 9223372036854775808,sS 126 0 n' cap',iI kn,sS 127 0 m cap2] true 2)) nZ) nZ) nZ) nZ) nZ) (eE nZ (eE nZ (eE nZ (eE nZ (lL (AObj.cells ty' c' false 0))))))),129⟩;let q0:W:=(.call 9 [] (q1) (.ret (Value.bool true) (q1)) (.need (NoNames c'∧NoNames c2∧True) (.done 3 (Value.bool true) (H0 ty' ty2 n' m cap' cap2 c' c2 kn xb))));W.holds η prog B 3 (fun kp_ st_=>RunD η prog B 3 (H0 ty' ty2 n' m cap' cap2 c' c2 kn xb) kp_ st_ (QF prog 128 D)) D (.call 7 [Value.agg ⟨[Value.slice none 0 9223372036854775808,Value.slice (some ⟨126,0,none⟩) n' cap',Value.int IntKind.i64 kn,Value.slice (some ⟨127,0,none⟩) m cap2]⟩] (q1) (.ret (Value.bool (RG.farB [] 0 c' n' kn m)) (q1)) (.ite (RG.farB [] (0:Nat) c' n' kn m) q0 (.call 8 [Value.agg ⟨[Value.slice none 0 9223372036854775808,Value.slice (some ⟨126,0,none⟩) n' cap',Value.int IntKind.i64 kn,Value.slice (some ⟨127,0,none⟩) m cap2]⟩] (q1) (.ret (Value.int IntKind.i64 3) (q1)) q0)))):CallSpec η prog B 3 [Value.agg ⟨[Value.slice none 0 9223372036854775808,Value.slice (some ⟨126,0,none⟩) n' cap',Value.int IntKind.i64 kn,Value.slice (some ⟨127,0,none⟩) m cap2]⟩,Value.int IntKind.u8 xb,Value.slice none 0 9223372036854775808] (H0 ty' ty2 n' m cap' cap2 c' c2 kn xb) D:=by
 refine CallSpec.ofQF hη (CallSpec.enter (fr:=(E ty' ty2 n' m cap' cap2 c' c2 kn xb).fr) (by kernel_rfl) ?_)
 exact walk_okT (h0:=H0 ty' ty2 n' m cap' cap2 c' c2 kn xb) hη hmix hreg (.steps 9 <| .call kN <| .steps 1 <| .bit 19 (.steps 19 <| .call kN <| .steps 3 <| .done (some ⟨128,[],[(126,(126,true)),(127,(127,true))]⟩)) (.steps 6 <| .call kN <| .steps 12 <| .call kN <| .steps 3 <| .done (some ⟨128,[],[(126,(126,true)),(127,(127,true))]⟩))) (E ty' ty2 n' m cap' cap2 c' c2 kn xb) (by kernel_rfl) h (by kernel_rfl)
end LUENNE3
namespace LUENEN3
noncomputable def bd:Code:=(Go.Proofs.Tryd.f3.body).getD .skip
noncomputable def H0(ty' ty3 n' nk cap' cap3:Nat)(c' c3:List Value)(kn xb:Int):AH:={ objs:=eE (eE (eE (eE (eE (eE (eE (lL (AObj.cells ty3 c3 false 0)) nZ) nZ) nZ) nZ) nZ) nZ) (eE nZ (eE nZ (eE nZ (eE nZ (eE nZ (lL (AObj.cells ty' c' false 0))))))),next:=128 }
noncomputable def E(ty' ty3 n' nk cap' cap3:Nat)(c' c3:List Value)(kn xb:Int):AS:=⟨⟨3,154,nS (Value.agg ⟨[Value.slice none 0 9223372036854775808,sS 126 0 n' cap',iI kn,Value.slice none 0 9223372036854775808]⟩) (lL (uI xb)) (lL (sS 127 0 nk cap3)),[Item.code (codeAt bd [])],[],FrameMode.run,CallKind.normal,none⟩,[],H0 ty' ty3 n' nk cap' cap3 c' c3 kn xb⟩
theorem enter{η:Nat→Value}{B:Bd}(hη:OneCells η)(hmix:prog.follows .mixedOrders=true)(hreg:RegOk η prog B noNest){D:Value→AH→Prop}(ty' ty3 n' nk cap' cap3:Nat)(c' c3:List Value)(kn xb:Int)(h:let q1:AH:=⟨eE (eE (eE (eE (eE (eE (eE (lL (AObj.cells ty3 c3 false 0)) nZ) nZ) nZ) nZ) nZ) nZ) (eE (eE (eE (eE (eE (eE (lL (AObj.cells 26 [Value.slice none 0 9223372036854775808,sS 126 0 n' cap',iI kn,Value.slice none 0 9223372036854775808] true 2)) nZ) nZ) nZ) nZ) nZ) (eE nZ (eE nZ (eE nZ (eE nZ (lL (AObj.cells ty' c' false 0))))))),129⟩;let q0:W:=(.call 9 [] (q1) (.ret (Value.bool true) (q1)) (.need (NoNames c'∧NoNames c3∧True) (.done 3 (Value.bool true) (H0 ty' ty3 n' nk cap' cap3 c' c3 kn xb))));W.holds η prog B 3 (fun kp_ st_=>RunD η prog B 3 (H0 ty' ty3 n' nk cap' cap3 c' c3 kn xb) kp_ st_ (QF prog 128 D)) D (.call 7 [Value.agg ⟨[Value.slice none 0 9223372036854775808,Value.slice (some ⟨126,0,none⟩) n' cap',Value.int IntKind.i64 kn,Value.slice none 0 9223372036854775808]⟩] (q1) (.ret (Value.bool (RG.farB [] 0 c' n' kn 0)) (q1)) (.ite (RG.farB [] (0:Nat) c' n' kn (0:Nat)) q0 (.ite (decide ((↑nk:Int) > (60:Int))) q0 (.call 8 [Value.agg ⟨[Value.slice none 0 9223372036854775808,Value.slice (some ⟨126,0,none⟩) n' cap',Value.int IntKind.i64 kn,Value.slice none 0 9223372036854775808]⟩] (q1) (.ret (Value.int IntKind.i64 3) (q1)) q0))))):CallSpec η prog B 3 [Value.agg ⟨[Value.slice none 0 9223372036854775808,Value.slice (some ⟨126,0,none⟩) n' cap',Value.int IntKind.i64 kn,Value.slice none 0 9223372036854775808]⟩,Value.int IntKind.u8 xb,Value.slice (some ⟨127,0,none⟩) nk cap3] (H0 ty' ty3 n' nk cap' cap3 c' c3 kn xb) D:=by
 refine CallSpec.ofQF hη (CallSpec.enter (fr:=(E ty' ty3 n' nk cap' cap3 c' c3 kn xb).fr) (by kernel_rfl) ?_)
 exact walk_okT (h0:=H0 ty' ty3 n' nk cap' cap3 c' c3 kn xb) hη hmix hreg (.steps 9 <| .call kN <| .steps 1 <| .bit 19 (.steps 19 <| .call kN <| .steps 3 <| .done (some ⟨128,[],[(126,(126,true)),(127,(127,true))]⟩)) (.steps 5 <| .bit 24 (.steps 14 <| .call kN <| .steps 3 <| .done (some ⟨128,[],[(126,(126,true)),(127,(127,true))]⟩)) (.steps 1 <| .call kN <| .steps 12 <| .call kN <| .steps 3 <| .done (some ⟨128,[],[(126,(126,true)),(127,(127,true))]⟩)))) (E ty' ty3 n' nk cap' cap3 c' c3 kn xb) (by kernel_rfl) h (by kernel_rfl)
end LUENEN3
namespace LUENEE3
noncomputable def bd:Code:=(Go.Proofs.Tryd.f3.body).getD .skip
noncomputable def H0(ty' n' cap':Nat)(c':List Value)(kn xb:Int):AH:={ objs:=eE nZ (eE nZ (eE nZ (eE nZ (eE nZ (eE nZ (lL (AObj.cells ty' c' false 0))))))),next:=127 }
noncomputable def E(ty' n' cap':Nat)(c':List Value)(kn xb:Int):AS:=⟨⟨3,154,nS (Value.agg ⟨[Value.slice none 0 9223372036854775808,sS 126 0 n' cap',iI kn,Value.slice none 0 9223372036854775808]⟩) (lL (uI xb)) (lL (Value.slice none 0 9223372036854775808)),[Item.code (codeAt bd [])],[],FrameMode.run,CallKind.normal,none⟩,[],H0 ty' n' cap' c' kn xb⟩
theorem enter{η:Nat→Value}{B:Bd}(hη:OneCells η)(hmix:prog.follows .mixedOrders=true)(hreg:RegOk η prog B noNest){D:Value→AH→Prop}(ty' n' cap':Nat)(c':List Value)(kn xb:Int)(h:let q1:AH:=⟨eE (eE (eE (eE (eE (eE (eE (lL (AObj.cells 26 [Value.slice none 0 9223372036854775808,sS 126 0 n' cap',iI kn,Value.slice none 0 9223372036854775808] true 2)) nZ) nZ) nZ) nZ) nZ) nZ) (eE nZ (eE nZ (eE nZ (eE nZ (eE nZ (lL (AObj.cells ty' c' false 0))))))),128⟩;let q0:W:=(.call 9 [] (q1) (.ret (Value.bool true) (q1)) (.need (NoNames c'∧True) (.done 3 (Value.bool true) (H0 ty' n' cap' c' kn xb))));W.holds η prog B 3 (fun kp_ st_=>RunD η prog B 3 (H0 ty' n' cap' c' kn xb) kp_ st_ (QF prog 127 D)) D (.call 7 [Value.agg ⟨[Value.slice none 0 9223372036854775808,Value.slice (some ⟨126,0,none⟩) n' cap',Value.int IntKind.i64 kn,Value.slice none 0 9223372036854775808]⟩] (q1) (.ret (Value.bool (RG.farB [] 0 c' n' kn 0)) (q1)) (.ite (RG.farB [] (0:Nat) c' n' kn (0:Nat)) q0 (.call 8 [Value.agg ⟨[Value.slice none 0 9223372036854775808,Value.slice (some ⟨126,0,none⟩) n' cap',Value.int IntKind.i64 kn,Value.slice none 0 9223372036854775808]⟩] (q1) (.ret (Value.int IntKind.i64 3) (q1)) q0)))):CallSpec η prog B 3 [Value.agg ⟨[Value.slice none 0 9223372036854775808,Value.slice (some ⟨126,0,none⟩) n' cap',Value.int IntKind.i64 kn,Value.slice none 0 9223372036854775808]⟩,Value.int IntKind.u8 xb,Value.slice none 0 9223372036854775808] (H0 ty' n' cap' c' kn xb) D:=by
 refine CallSpec.ofQF hη (CallSpec.enter (fr:=(E ty' n' cap' c' kn xb).fr) (by kernel_rfl) ?_)
 exact walk_okT (h0:=H0 ty' n' cap' c' kn xb) hη hmix hreg (.steps 9 <| .call kN <| .steps 1 <| .bit 19 (.steps 19 <| .call kN <| .steps 3 <| .done (some ⟨127,[],[(126,(126,true))]⟩)) (.steps 6 <| .call kN <| .steps 12 <| .call kN <| .steps 3 <| .done (some ⟨127,[],[(126,(126,true))]⟩))) (E ty' n' cap' c' kn xb) (by kernel_rfl) h (by kernel_rfl)
end LUENEE3
namespace LUEENN3
noncomputable def bd:Code:=(Go.Proofs.Tryd.f3.body).getD .skip
noncomputable def H0(ty2 ty3 m nk cap2 cap3:Nat)(c2 c3:List Value)(kn xb:Int):AH:={ objs:=eE (eE (eE (eE (eE (eE (eE (lL (AObj.cells ty3 c3 false 0)) nZ) nZ) nZ) nZ) nZ) nZ) (eE nZ (eE nZ (eE nZ (eE nZ (eE nZ (lL (AObj.cells ty2 c2 false 0))))))),next:=128 }
noncomputable def E(ty2 ty3 m nk cap2 cap3:Nat)(c2 c3:List Value)(kn xb:Int):AS:=⟨⟨3,154,nS (Value.agg ⟨[Value.slice none 0 9223372036854775808,Value.slice none 0 9223372036854775808,iI kn,sS 126 0 m cap2]⟩) (lL (uI xb)) (lL (sS 127 0 nk cap3)),[Item.code (codeAt bd [])],[],FrameMode.run,CallKind.normal,none⟩,[],H0 ty2 ty3 m nk cap2 cap3 c2 c3 kn xb⟩
theorem enter{η:Nat→Value}{B:Bd}(hη:OneCells η)(hmix:prog.follows .mixedOrders=true)(hreg:RegOk η prog B noNest){D:Value→AH→Prop}(ty2 ty3 m nk cap2 cap3:Nat)(c2 c3:List Value)(kn xb:Int)(h:let q1:AH:=⟨eE (eE (eE (eE (eE (eE (eE (lL (AObj.cells ty3 c3 false 0)) nZ) nZ) nZ) nZ) nZ) nZ) (eE (eE (eE (eE (eE (eE (lL (AObj.cells 26 [Value.slice none 0 9223372036854775808,Value.slice none 0 9223372036854775808,iI kn,sS 126 0 m cap2] true 2)) nZ) nZ) nZ) nZ) nZ) (eE nZ (eE nZ (eE nZ (eE nZ (lL (AObj.cells ty2 c2 false 0))))))),129⟩;let q0:W:=(.call 9 [] (q1) (.ret (Value.bool true) (q1)) (.need (NoNames c2∧NoNames c3∧True) (.done 3 (Value.bool true) (H0 ty2 ty3 m nk cap2 cap3 c2 c3 kn xb))));W.holds η prog B 3 (fun kp_ st_=>RunD η prog B 3 (H0 ty2 ty3 m nk cap2 cap3 c2 c3 kn xb) kp_ st_ (QF prog 128 D)) D (.call 7 [Value.agg ⟨[Value.slice none 0 9223372036854775808,Value.slice none 0 9223372036854775808,Value.int IntKind.i64 kn,Value.slice (some ⟨126,0,none⟩) m cap2]⟩] (q1) (.ret (Value.bool (RG.farB [] 0 [] 0 kn m)) (q1)) (.ite (RG.farB [] (0:Nat) [] (0:Nat) kn m) q0 (.ite (decide ((↑nk:Int) > (60:Int))) q0 (.call 8 [Value.agg ⟨[Value.slice none 0 9223372036854775808,Value.slice none 0 9223372036854775808,Value.int IntKind.i64 kn,Value.slice (some ⟨126,0,none⟩) m cap2]⟩] (q1) (.ret (Value.int IntKind.i64 3) (q1)) q0))))):CallSpec η prog B 3 [Value.agg ⟨[Value.slice none 0 9223372036854775808,Value.slice none 0 9223372036854775808,Value.int IntKind.i64 kn,Value.slice (some ⟨126,0,none⟩) m cap2]⟩,Value.int IntKind.u8 xb,Value.slice (some ⟨127,0,none⟩) nk cap3] (H0 ty2 ty3 m nk cap2 cap3 c2 c3 kn xb) D:=by
 refine CallSpec.ofQF hη (CallSpec.enter (fr:=(E ty2 ty3 m nk cap2 cap3 c2 c3 kn xb).fr) (by kernel_rfl) ?_)
 exact walk_okT (h0:=H0 ty2 ty3 m nk cap2 cap3 c2 c3 kn xb) hη hmix hreg (.steps 9 <| .call kN <| .steps 1 <| .bit 19 (.steps 19 <| .call kN <| .steps 3 <| .done (some ⟨128,[],[(126,(126,true)),(127,(127,true))]⟩)) (.steps 5 <| .bit 24 (.steps 14 <| .call kN <| .steps 3 <| .done (some ⟨128,[],[(126,(126,true)),(127,(127,true))]⟩)) (.steps 1 <| .call kN <| .steps 12 <| .call kN <| .steps 3 <| .done (some ⟨128,[],[(126,(126,true)),(127,(127,true))]⟩)))) (E ty2 ty3 m nk cap2 cap3 c2 c3 kn xb) (by kernel_rfl) h (by kernel_rfl)
end LUEENN3
namespace LUEENE3
noncomputable def bd:Code:=(Go.Proofs.Tryd.f3.body).getD .skip
noncomputable def H0(ty2 m cap2:Nat)(c2:List Value)(kn xb:Int):AH:={ objs:=eE nZ (eE nZ (eE nZ (eE nZ (eE nZ (eE nZ (lL (AObj.cells ty2 c2 false 0))))))),next:=127 }
noncomputable def E(ty2 m cap2:Nat)(c2:List Value)(kn xb:Int):AS:=⟨⟨3,154,nS (Value.agg ⟨[Value.slice none 0 9223372036854775808,Value.slice none 0 9223372036854775808,iI kn,sS 126 0 m cap2]⟩) (lL (uI xb)) (lL (Value.slice none 0 9223372036854775808)),[Item.code (codeAt bd [])],[],FrameMode.run,CallKind.normal,none⟩,[],H0 ty2 m cap2 c2 kn xb⟩
theorem enter{η:Nat→Value}{B:Bd}(hη:OneCells η)(hmix:prog.follows .mixedOrders=true)(hreg:RegOk η prog B noNest){D:Value→AH→Prop}(ty2 m cap2:Nat)(c2:List Value)(kn xb:Int)(h:let q1:AH:=⟨eE (eE (eE (eE (eE (eE (eE (lL (AObj.cells 26 [Value.slice none 0 9223372036854775808,Value.slice none 0 9223372036854775808,iI kn,sS 126 0 m cap2] true 2)) nZ) nZ) nZ) nZ) nZ) nZ) (eE nZ (eE nZ (eE nZ (eE nZ (eE nZ (lL (AObj.cells ty2 c2 false 0))))))),128⟩;let q0:W:=(.call 9 [] (q1) (.ret (Value.bool true) (q1)) (.need (NoNames c2∧True) (.done 3 (Value.bool true) (H0 ty2 m cap2 c2 kn xb))));W.holds η prog B 3 (fun kp_ st_=>RunD η prog B 3 (H0 ty2 m cap2 c2 kn xb) kp_ st_ (QF prog 127 D)) D (.call 7 [Value.agg ⟨[Value.slice none 0 9223372036854775808,Value.slice none 0 9223372036854775808,Value.int IntKind.i64 kn,Value.slice (some ⟨126,0,none⟩) m cap2]⟩] (q1) (.ret (Value.bool (RG.farB [] 0 [] 0 kn m)) (q1)) (.ite (RG.farB [] (0:Nat) [] (0:Nat) kn m) q0 (.call 8 [Value.agg ⟨[Value.slice none 0 9223372036854775808,Value.slice none 0 9223372036854775808,Value.int IntKind.i64 kn,Value.slice (some ⟨126,0,none⟩) m cap2]⟩] (q1) (.ret (Value.int IntKind.i64 3) (q1)) q0)))):CallSpec η prog B 3 [Value.agg ⟨[Value.slice none 0 9223372036854775808,Value.slice none 0 9223372036854775808,Value.int IntKind.i64 kn,Value.slice (some ⟨126,0,none⟩) m cap2]⟩,Value.int IntKind.u8 xb,Value.slice none 0 9223372036854775808] (H0 ty2 m cap2 c2 kn xb) D:=by
 refine CallSpec.ofQF hη (CallSpec.enter (fr:=(E ty2 m cap2 c2 kn xb).fr) (by kernel_rfl) ?_)
 exact walk_okT (h0:=H0 ty2 m cap2 c2 kn xb) hη hmix hreg (.steps 9 <| .call kN <| .steps 1 <| .bit 19 (.steps 19 <| .call kN <| .steps 3 <| .done (some ⟨127,[],[(126,(126,true))]⟩)) (.steps 6 <| .call kN <| .steps 12 <| .call kN <| .steps 3 <| .done (some ⟨127,[],[(126,(126,true))]⟩))) (E ty2 m cap2 c2 kn xb) (by kernel_rfl) h (by kernel_rfl)
end LUEENE3
namespace LUEEEN3
noncomputable def bd:Code:=(Go.Proofs.Tryd.f3.body).getD .skip
noncomputable def H0(ty3 nk cap3:Nat)(c3:List Value)(kn xb:Int):AH:={ objs:=eE nZ (eE nZ (eE nZ (eE nZ (eE nZ (eE nZ (lL (AObj.cells ty3 c3 false 0))))))),next:=127 }
noncomputable def E(ty3 nk cap3:Nat)(c3:List Value)(kn xb:Int):AS:=⟨⟨3,154,nS (Value.agg ⟨[Value.slice none 0 9223372036854775808,Value.slice none 0 9223372036854775808,iI kn,Value.slice none 0 9223372036854775808]⟩) (lL (uI xb)) (lL (sS 126 0 nk cap3)),[Item.code (codeAt bd [])],[],FrameMode.run,CallKind.normal,none⟩,[],H0 ty3 nk cap3 c3 kn xb⟩
theorem enter{η:Nat→Value}{B:Bd}(hη:OneCells η)(hmix:prog.follows .mixedOrders=true)(hreg:RegOk η prog B noNest){D:Value→AH→Prop}(ty3 nk cap3:Nat)(c3:List Value)(kn xb:Int)(h:let q1:AH:=⟨eE (eE (eE (eE (eE (eE (eE (lL (AObj.cells 26 [Value.slice none 0 9223372036854775808,Value.slice none 0 9223372036854775808,iI kn,Value.slice none 0 9223372036854775808] true 2)) nZ) nZ) nZ) nZ) nZ) nZ) (eE nZ (eE nZ (eE nZ (eE nZ (eE nZ (lL (AObj.cells ty3 c3 false 0))))))),128⟩;let q0:W:=(.call 9 [] (q1) (.ret (Value.bool true) (q1)) (.need (NoNames c3∧True) (.done 3 (Value.bool true) (H0 ty3 nk cap3 c3 kn xb))));W.holds η prog B 3 (fun kp_ st_=>RunD η prog B 3 (H0 ty3 nk cap3 c3 kn xb) kp_ st_ (QF prog 127 D)) D (.call 7 [Value.agg ⟨[Value.slice none 0 9223372036854775808,Value.slice none 0 9223372036854775808,Value.int IntKind.i64 kn,Value.slice none 0 9223372036854775808]⟩] (q1) (.ret (Value.bool false) (q1)) (.ite (decide ((↑nk:Int) > (60:Int))) q0 (.call 8 [Value.agg ⟨[Value.slice none 0 9223372036854775808,Value.slice none 0 9223372036854775808,Value.int IntKind.i64 kn,Value.slice none 0 9223372036854775808]⟩] (q1) (.ret (Value.int IntKind.i64 3) (q1)) q0)))):CallSpec η prog B 3 [Value.agg ⟨[Value.slice none 0 9223372036854775808,Value.slice none 0 9223372036854775808,Value.int IntKind.i64 kn,Value.slice none 0 9223372036854775808]⟩,Value.int IntKind.u8 xb,Value.slice (some ⟨126,0,none⟩) nk cap3] (H0 ty3 nk cap3 c3 kn xb) D:=by
 refine CallSpec.ofQF hη (CallSpec.enter (fr:=(E ty3 nk cap3 c3 kn xb).fr) (by kernel_rfl) ?_)
 exact walk_okT (h0:=H0 ty3 nk cap3 c3 kn xb) hη hmix hreg (.steps 9 <| .call kN <| .steps 6 <| .bit 24 (.steps 14 <| .call kN <| .steps 3 <| .done (some ⟨127,[],[(126,(126,true))]⟩)) (.steps 1 <| .call kN <| .steps 12 <| .call kN <| .steps 3 <| .done (some ⟨127,[],[(126,(126,true))]⟩))) (E ty3 nk cap3 c3 kn xb) (by kernel_rfl) h (by kernel_rfl)
end LUEEEN3
namespace LUEEEE3
noncomputable def bd:Code:=(Go.Proofs.Tryd.f3.body).getD .skip
noncomputable def H0(kn xb:Int):AH:={ objs:=nZ,next:=126 }
noncomputable def E(kn xb:Int):AS:=⟨⟨3,154,nS (Value.agg ⟨[Value.slice none 0 9223372036854775808,Value.slice none 0 9223372036854775808,iI kn,Value.slice none 0 9223372036854775808]⟩) (lL (uI xb)) (lL (Value.slice none 0 9223372036854775808)),[Item.code (codeAt bd [])],[],FrameMode.run,CallKind.normal,none⟩,[],H0 kn xb⟩
theorem enter{η:Nat→Value}{B:Bd}(hη:OneCells η)(hmix:prog.follows .mixedOrders=true)(hreg:RegOk η prog B noNest){D:Value→AH→Prop}(kn xb:Int)(h:let q0:AH:=⟨eE nZ (eE nZ (eE nZ (eE nZ (eE nZ (eE nZ (lL (AObj.cells 26 [Value.slice none 0 9223372036854775808,Value.slice none 0 9223372036854775808,iI kn,Value.slice none 0 9223372036854775808] true 2))))))),127⟩;W.holds η prog B 3 (fun kp_ st_=>RunD η prog B 3 (H0 kn xb) kp_ st_ (QF prog 126 D)) D (.call 7 [Value.agg ⟨[Value.slice none 0 9223372036854775808,Value.slice none 0 9223372036854775808,Value.int IntKind.i64 kn,Value.slice none 0 9223372036854775808]⟩] (q0) (.ret (Value.bool false) (q0)) (.call 8 [Value.agg ⟨[Value.slice none 0 9223372036854775808,Value.slice none 0 9223372036854775808,Value.int IntKind.i64 kn,Value.slice none 0 9223372036854775808]⟩] (q0) (.ret (Value.int IntKind.i64 3) (q0)) (.call 9 [] (q0) (.ret (Value.bool true) (q0)) (.need (True) (.done 3 (Value.bool true) (H0 kn xb))))))):CallSpec η prog B 3 [Value.agg ⟨[Value.slice none 0 9223372036854775808,Value.slice none 0 9223372036854775808,Value.int IntKind.i64 kn,Value.slice none 0 9223372036854775808]⟩,Value.int IntKind.u8 xb,Value.slice none 0 9223372036854775808] (H0 kn xb) D:=by
 refine CallSpec.ofQF hη (CallSpec.enter (fr:=(E kn xb).fr) (by kernel_rfl) ?_)
 exact walk_okT (h0:=H0 kn xb) hη hmix hreg (.steps 9 <| .call kN <| .steps 7 <| .call kN <| .steps 12 <| .call kN <| .steps 3 <| .done (some ⟨126,[],[]⟩)) (E kn xb) (by kernel_rfl) h (by kernel_rfl)
end LUEEEE3
namespace LUNENN2
noncomputable def bd:Code:=(Go.Proofs.Tryd.f3.body).getD .skip
noncomputable def H0(ty ty2 ty3 n m nk cap cap2 cap3:Nat)(c c2 c3:List Value)(kn xb:Int):AH:={ objs:=eE (eE (eE (eE (eE (eE (eE (lL (AObj.cells ty2 c2 false 0)) nZ) nZ) nZ) nZ) nZ) nZ) (eE (eE (eE (eE (eE (eE (lL (AObj.cells ty3 c3 false 0)) nZ) nZ) nZ) nZ) nZ) (eE nZ (eE nZ (eE nZ (eE nZ (lL (AObj.cells ty c false 0))))))),next:=129 }
noncomputable def E(ty ty2 ty3 n m nk cap cap2 cap3:Nat)(c c2 c3:List Value)(kn xb:Int):AS:=⟨⟨3,154,nS (Value.agg ⟨[sS 126 0 n cap,Value.slice none 0 9223372036854775808,iI kn,sS 127 0 m cap2]⟩) (lL (uI xb)) (lL (sS 128 0 nk cap3)),[Item.code (codeAt bd [])],[],FrameMode.run,CallKind.normal,none⟩,[],H0 ty ty2 ty3 n m nk cap cap2 cap3 c c2 c3 kn xb⟩
theorem enter{η:Nat→Value}{B:Bd}(hη:OneCells η)(hmix:prog.follows .mixedOrders=true)(hreg:RegOk η prog B noNest){D:Value→AH→Prop}(ty ty2 ty3 n m nk cap cap2 cap3:Nat)(c c2 c3:List Value)(kn xb:Int)(h:let q1:AH:=⟨eE (eE (eE (eE (eE (eE (eE (lL (AObj.cells ty2 c2 false 0)) nZ) nZ) nZ) nZ) nZ) (eE (eE (eE (eE (eE (lL (AObj.cells 26 [sS 126 0 n cap,Value.slice none 0 9223372036854775808,iI kn,sS 127 0 m cap2] true 2)) nZ) nZ) nZ) nZ) nZ)) (eE (eE (eE (eE (eE (eE (lL (AObj.cells ty3 c3 false 0)) nZ) nZ) nZ) nZ) nZ) (eE nZ (eE nZ (eE nZ (eE nZ (lL (AObj.cells ty c false 0))))))),130⟩;let q0:W:=(.call 9 [] (q1) (.ret (Value.bool true) (q1)) (.need (NoNames c∧NoNames c2∧NoNames c3∧True) (.done 3 (Value.bool true) (H0 ty ty2 ty3 n m nk cap cap2 cap3 c c2 c3 kn xb))));W.holds η prog B 3 (fun kp_ st_=>RunD η prog B 3 (H0 ty ty2 ty3 n m nk cap cap2 cap3 c c2 c3 kn xb) kp_ st_ (QF prog 129 D)) D (.call 7 [Value.agg ⟨[Value.slice (some ⟨126,0,none⟩) n cap,Value.slice none 0 9223372036854775808,Value.int IntKind.i64 kn,Value.slice (some ⟨127,0,none⟩) m cap2]⟩] (q1) (.ret (Value.bool (RG.farB c n [] 0 kn m)) (q1)) (.ite (RG.farB c n [] (0:Nat) kn m) q0 (.ite (decide ((↑nk:Int) > (60:Int))) q0 (.call 8 [Value.agg ⟨[Value.slice (some ⟨126,0,none⟩) n cap,Value.slice none 0 9223372036854775808,Value.int IntKind.i64 kn,Value.slice (some ⟨127,0,none⟩) m cap2]⟩] (q1) (.ret (Value.int IntKind.i64 2) (q1)) q0))))):CallSpec η prog B 3 [Value.agg ⟨[Value.slice (some ⟨126,0,none⟩) n cap,Value.slice none 0 9223372036854775808,Value.int IntKind.i64 kn,Value.slice (some ⟨127,0,none⟩) m cap2]⟩,Value.int IntKind.u8 xb,Value.slice (some ⟨128,0,none⟩) nk cap3] (H0 ty ty2 ty3 n m nk cap cap2 cap3 c c2 c3 kn xb) D:=by
 refine CallSpec.ofQF hη (CallSpec.enter (fr:=(E ty ty2 ty3 n m nk cap cap2 cap3 c c2 c3 kn xb).fr) (by kernel_rfl) ?_)
 exact walk_okT (h0:=H0 ty ty2 ty3 n m nk cap cap2 cap3 c c2 c3 kn xb) hη hmix hreg (.steps 9 <| .call kN <| .steps 1 <| .bit 19 (.steps 19 <| .call kN <| .steps 3 <| .done (some ⟨129,[],[(126,(126,true)),(127,(127,true)),(128,(128,true))]⟩)) (.steps 5 <| .bit 24 (.steps 14 <| .call kN <| .steps 3 <| .done (some ⟨129,[],[(126,(126,true)),(127,(127,true)),(128,(128,true))]⟩)) (.steps 1 <| .call kN <| .steps 12 <| .call kN <| .steps 3 <| .done (some ⟨129,[],[(126,(126,true)),(127,(127,true)),(128,(128,true))]⟩)))) (E ty ty2 ty3 n m nk cap cap2 cap3 c c2 c3 kn xb) (by kernel_rfl) h (by kernel_rfl)
end LUNENN2
namespace LUNENN3
noncomputable def bd:Code:=(Go.Proofs.Tryd.f3.body).getD .skip
noncomputable def H0(ty ty2 ty3 n m nk cap cap2 cap3:Nat)(c c2 c3:List Value)(kn xb:Int):AH:={ objs:=eE (eE (eE (eE (eE (eE (eE (lL (AObj.cells ty2 c2 false 0)) nZ) nZ) nZ) nZ) nZ) nZ) (eE (eE (eE (eE (eE (eE (lL (AObj.cells ty3 c3 false 0)) nZ) nZ) nZ) nZ) nZ) (eE nZ (eE nZ (eE nZ (eE nZ (lL (AObj.cells ty c false 0))))))),next:=129 }
noncomputable def E(ty ty2 ty3 n m nk cap cap2 cap3:Nat)(c c2 c3:List Value)(kn xb:Int):AS:=⟨⟨3,154,nS (Value.agg ⟨[sS 126 0 n cap,Value.slice none 0 9223372036854775808,iI kn,sS 127 0 m cap2]⟩) (lL (uI xb)) (lL (sS 128 0 nk cap3)),[Item.code (codeAt bd [])],[],FrameMode.run,CallKind.normal,none⟩,[],H0 ty ty2 ty3 n m nk cap cap2 cap3 c c2 c3 kn xb⟩
theorem enter{η:Nat→Value}{B:Bd}(hη:OneCells η)(hmix:prog.follows .mixedOrders=true)(hreg:RegOk η prog B noNest){D:Value→AH→Prop}(ty ty2 ty3 n m nk cap cap2 cap3:Nat)(c c2 c3:List Value)(kn xb:Int)(h:let q1:AH:=⟨eE (eE (eE (eE (eE (eE (eE (lL (AObj.cells ty2 c2 false 0)) nZ) nZ) nZ) nZ) nZ) (eE (eE (eE (eE (eE (lL (AObj.cells 26 [sS 126 0 n cap,Value.slice none 0 9223372036854775808,iI kn,sS 127 0 m cap2] true 2)) nZ) nZ) nZ) nZ) nZ)) (eE (eE (eE (eE (eE (eE (lL (AObj.cells ty3 c3 false 0)) nZ) nZ) nZ) nZ) nZ) (eE nZ (eE nZ (eE nZ (eE nZ (lL (AObj.cells ty c false 0))))))),130⟩;let q0:W:=(.call 9 [] (q1) (.ret (Value.bool true) (q1)) (.need (NoNames c∧NoNames c2∧NoNames c3∧True) (.done 3 (Value.bool true) (H0 ty ty2 ty3 n m nk cap cap2 cap3 c c2 c3 kn xb))));W.holds η prog B 3 (fun kp_ st_=>RunD η prog B 3 (H0 ty ty2 ty3 n m nk cap cap2 cap3 c c2 c3 kn xb) kp_ st_ (QF prog 129 D)) D (.call 7 [Value.agg ⟨[Value.slice (some ⟨126,0,none⟩) n cap,Value.slice none 0 9223372036854775808,Value.int IntKind.i64 kn,Value.slice (some ⟨127,0,none⟩) m cap2]⟩] (q1) (.ret (Value.bool (RG.farB c n [] 0 kn m)) (q1)) (.ite (RG.farB c n [] (0:Nat) kn m) q0 (.ite (decide ((↑nk:Int) > (60:Int))) q0 (.call 8 [Value.agg ⟨[Value.slice (some ⟨126,0,none⟩) n cap,Value.slice none 0 9223372036854775808,Value.int IntKind.i64 kn,Value.slice (some ⟨127,0,none⟩) m cap2]⟩] (q1) (.ret (Value.int IntKind.i64 3) (q1)) q0))))):CallSpec η prog B 3 [Value.agg ⟨[Value.slice (some ⟨126,0,none⟩) n cap,Value.slice none 0 9223372036854775808,Value.int IntKind.i64 kn,Value.slice (some ⟨127,0,none⟩) m cap2]⟩,Value.int IntKind.u8 xb,Value.slice (some ⟨128,0,none⟩) nk cap3] (H0 ty ty2 ty3 n m nk cap cap2 cap3 c c2 c3 kn xb) D:=by
 refine CallSpec.ofQF hη (CallSpec.enter (fr:=(E ty ty2 ty3 n m nk cap cap2 cap3 c c2 c3 kn xb).fr) (by kernel_rfl) ?_)
 exact walk_okT (h0:=H0 ty ty2 ty3 n m nk cap cap2 cap3 c c2 c3 kn xb) hη hmix hreg (.steps 9 <| .call kN <| .steps 1 <| .bit 19 (.steps 19 <| .call kN <| .steps 3 <| .done (some ⟨129,[],[(126,(126,true)),(127,(127,true)),(128,(128,true))]⟩)) (.steps 5 <| .bit 24 (.steps 14 <| .call kN <| .steps 3 <| .done (some ⟨129,[],[(126,(126,true)),(127,(127,true)),(128,(128,true))]⟩)) (.steps 1 <| .call kN <| .steps 12 <| .call kN <| .steps 3 <| .done (some ⟨129,[],[(126,(126,true)),(127,(127,true)),(128,(128,true))]⟩)))) (E ty ty2 ty3 n m nk cap cap2 cap3 c c2 c3 kn xb) (by kernel_rfl) h (by kernel_rfl)
end LUNENN3
namespace LUNENE2
noncomputable def bd:Code:=(Go.Proofs.Tryd.f3.body).getD .skip
noncomputable def H0(ty ty2 n m cap cap2:Nat)(c c2:List Value)(kn xb:Int):AH:={ objs:=eE (eE (eE (eE (eE (eE (eE (lL (AObj.cells ty2 c2 false 0)) nZ) nZ) nZ) nZ) nZ) nZ) (eE nZ (eE nZ (eE nZ (eE nZ (eE nZ (lL (AObj.cells ty c false 0))))))),next:=128 }
noncomputable def E(ty ty2 n m cap cap2:Nat)(c c2:List Value)(kn xb:Int):AS:=⟨⟨3,154,nS (Value.agg ⟨[sS 126 0 n cap,Value.slice none 0 9223372036854775808,iI kn,sS 127 0 m cap2]⟩) (lL (uI xb)) (lL (Value.slice none 0 9223372036854775808)),[Item.code (codeAt bd [])],[],FrameMode.run,CallKind.normal,none⟩,[],H0 ty ty2 n m cap cap2 c c2 kn xb⟩
theorem enter{η:Nat→Value}{B:Bd}(hη:OneCells η)(hmix:prog.follows .mixedOrders=true)(hreg:RegOk η prog B noNest){D:Value→AH→Prop}(ty ty2 n m cap cap2:Nat)(c c2:List Value)(kn xb:Int)(h:let q1:AH:=⟨eE (eE (eE (eE (eE (eE (eE (lL (AObj.cells ty2 c2 false 0)) nZ) nZ) nZ) nZ) nZ) nZ) (eE (eE (eE (eE (eE (eE (lL (AObj.cells 26 [sS 126 0 n cap,Value.slice none 0 9223372036854775808,iI kn,sS 127 0 m cap2] true 2)) nZ) nZ) nZ) nZ) nZ) (eE nZ (eE nZ (eE nZ (eE nZ (lL (AObj.cells ty c false 0))))))),129⟩;let q0:W:=(.call 9 [] (q1) (.ret (Value.bool true) (q1)) (.need (NoNames c∧NoNames c2∧True) (.done 3 (Value.bool true) (H0 ty ty2 n m cap cap2 c c2 kn xb))));W.holds η prog B 3 (fun kp_ st_=>RunD η prog B 3 (H0 ty ty2 n m cap cap2 c c2 kn xb) kp_ st_ (QF prog 128 D)) D (.call 7 [Value.agg ⟨[Value.slice (some ⟨126,0,none⟩) n cap,Value.slice none 0 9223372036854775808,Value.int IntKind.i64 kn,Value.slice (some ⟨127,0,none⟩) m cap2]⟩] (q1) (.ret (Value.bool (RG.farB c n [] 0 kn m)) (q1)) (.ite (RG.farB c n [] (0:Nat) kn m) q0 (.call 8 [Value.agg ⟨[Value.slice (some ⟨126,0,none⟩) n cap,Value.slice none 0 9223372036854775808,Value.int IntKind.i64 kn,Value.slice (some ⟨127,0,none⟩) m cap2]⟩] (q1) (.ret (Value.int IntKind.i64 2) (q1)) q0)))):CallSpec η prog B 3 [Value.agg ⟨[Value.slice (some ⟨126,0,none⟩) n cap,Value.slice none 0 9223372036854775808,Value.int IntKind.i64 kn,Value.slice (some ⟨127,0,none⟩) m cap2]⟩,Value.int IntKind.u8 xb,Value.slice none 0 9223372036854775808] (H0 ty ty2 n m cap cap2 c c2 kn xb) D:=by
 refine CallSpec.ofQF hη (CallSpec.enter (fr:=(E ty ty2 n m cap cap2 c c2 kn xb).fr) (by kernel_rfl) ?_)
 exact walk_okT (h0:=H0 ty ty2 n m cap cap2 c c2 kn xb) hη hmix hreg (.steps 9 <| .call kN <| .steps 1 <| .bit 19 (.steps 19 <| .call kN <| .steps 3 <| .done (some ⟨128,[],[(126,(126,true)),(127,(127,true))]⟩)) (.steps 6 <| .call kN <| .steps 12 <| .call kN <| .steps 3 <| .done (some ⟨128,[],[(126,(126,true)),(127,(127,true))]⟩))) (E ty ty2 n m cap cap2 c c2 kn xb) (by kernel_rfl) h (by kernel_rfl)
end LUNENE2
namespace LUNENE3
noncomputable def bd:Code:=(Go.Proofs.Tryd.f3.body).getD .skip
noncomputable def H0(ty ty2 n m cap cap2:Nat)(c c2:List Value)(kn xb:Int):AH:={ objs:=eE (eE (eE (eE (eE (eE (eE (lL (AObj.cells ty2 c2 false 0)) nZ) nZ) nZ) nZ) nZ) nZ) (eE nZ (eE nZ (eE nZ (eE nZ (eE nZ (lL (AObj.cells ty c false 0))))))),next:=128 }
noncomputable def E(ty ty2 n m cap cap2:Nat)(c c2:List Value)(kn xb:Int):AS:=⟨⟨3,154,nS (Value.agg ⟨[sS 126 0 n cap,Value.slice none 0 9223372036854775808,iI kn,sS 127 0 m cap2]⟩) (lL (uI xb)) (lL (Value.slice none 0 9223372036854775808)),[Item.code (codeAt bd [])],[],FrameMode.run,CallKind.normal,none⟩,[],H0 ty ty2 n m cap cap2 c c2 kn xb⟩
theorem enter{η:Nat→Value}{B:Bd}(hη:OneCells η)(hmix:prog.follows .mixedOrders=true)(hreg:RegOk η prog B noNest){D:Value→AH→Prop}(ty ty2 n m cap cap2:Nat)(c c2:List Value)(kn xb:Int)(h:let q1:AH:=⟨eE (eE (eE (eE (eE (eE (eE (lL (AObj.cells ty2 c2 false 0)) nZ) nZ) nZ) nZ) nZ) nZ) (eE (eE (eE (eE (eE (eE (lL (AObj.cells 26 [sS 126 0 n cap,Value.slice none 0 9223372036854775808,iI kn,sS 127 0 m cap2] true 2)) nZ) nZ) nZ) nZ) nZ) (eE nZ (eE nZ (eE nZ (eE nZ (lL (AObj.cells ty c false 0))))))),129⟩;let q0:W:=(.call 9 [] (q1) (.ret (Value.bool true) (q1)) (.need (NoNames c∧NoNames c2∧True) (.done 3 (Value.bool true) (H0 ty ty2 n m cap cap2 c c2 kn xb))));W.holds η prog B 3 (fun kp_ st_=>RunD η prog B 3 (H0 ty ty2 n m cap cap2 c c2 kn xb) kp_ st_ (QF prog 128 D)) D (.call 7 [Value.agg ⟨[Value.slice (some ⟨126,0,none⟩) n cap,Value.slice none 0 9223372036854775808,Value.int IntKind.i64 kn,Value.slice (some ⟨127,0,none⟩) m cap2]⟩] (q1) (.ret (Value.bool (RG.farB c n [] 0 kn m)) (q1)) (.ite (RG.farB c n [] (0:Nat) kn m) q0 (.call 8 [Value.agg ⟨[Value.slice (some ⟨126,0,none⟩) n cap,Value.slice none 0 9223372036854775808,Value.int IntKind.i64 kn,Value.slice (some ⟨127,0,none⟩) m cap2]⟩] (q1) (.ret (Value.int IntKind.i64 3) (q1)) q0)))):CallSpec η prog B 3 [Value.agg ⟨[Value.slice (some ⟨126,0,none⟩) n cap,Value.slice none 0 9223372036854775808,Value.int IntKind.i64 kn,Value.slice (some ⟨127,0,none⟩) m cap2]⟩,Value.int IntKind.u8 xb,Value.slice none 0 9223372036854775808] (H0 ty ty2 n m cap cap2 c c2 kn xb) D:=by
 refine CallSpec.ofQF hη (CallSpec.enter (fr:=(E ty ty2 n m cap cap2 c c2 kn xb).fr) (by kernel_rfl) ?_)
 exact walk_okT (h0:=H0 ty ty2 n m cap cap2 c c2 kn xb) hη hmix hreg (.steps 9 <| .call kN <| .steps 1 <| .bit 19 (.steps 19 <| .call kN <| .steps 3 <| .done (some ⟨128,[],[(126,(126,true)),(127,(127,true))]⟩)) (.steps 6 <| .call kN <| .steps 12 <| .call kN <| .steps 3 <| .done (some ⟨128,[],[(126,(126,true)),(127,(127,true))]⟩))) (E ty ty2 n m cap cap2 c c2 kn xb) (by kernel_rfl) h (by kernel_rfl)
end LUNENE3
namespace LUNEEN2
noncomputable def bd:Code:=(Go.Proofs.Tryd.f3.body).getD .skip
noncomputable def H0(ty ty3 n nk cap cap3:Nat)(c c3:List Value)(kn xb:Int):AH:={ objs:=eE (eE (eE (eE (eE (eE (eE (lL (AObj.cells ty3 c3 false 0)) nZ) nZ) nZ) nZ) nZ) nZ) (eE nZ (eE nZ (eE nZ (eE nZ (eE nZ (lL (AObj.cells ty c false 0))))))),next:=128 }
noncomputable def E(ty ty3 n nk cap cap3:Nat)(c c3:List Value)(kn xb:Int):AS:=⟨⟨3,154,nS (Value.agg ⟨[sS 126 0 n cap,Value.slice none 0 9223372036854775808,iI kn,Value.slice none 0 9223372036854775808]⟩) (lL (uI xb)) (lL (sS 127 0 nk cap3)),[Item.code (codeAt bd [])],[],FrameMode.run,CallKind.normal,none⟩,[],H0 ty ty3 n nk cap cap3 c c3 kn xb⟩
theorem enter{η:Nat→Value}{B:Bd}(hη:OneCells η)(hmix:prog.follows .mixedOrders=true)(hreg:RegOk η prog B noNest){D:Value→AH→Prop}(ty ty3 n nk cap cap3:Nat)(c c3:List Value)(kn xb:Int)(h:let q1:AH:=⟨eE (eE (eE (eE (eE (eE (eE (lL (AObj.cells ty3 c3 false 0)) nZ) nZ) nZ) nZ) nZ) nZ) (eE (eE (eE (eE (eE (eE (lL (AObj.cells 26 [sS 126 0 n cap,Value.slice none 0 9223372036854775808,iI kn,Value.slice none 0 9223372036854775808] true 2)) nZ) nZ) nZ) nZ) nZ) (eE nZ (eE nZ (eE nZ (eE nZ (lL (AObj.cells ty c false 0))))))),129⟩;let q0:W:=(.call 9 [] (q1) (.ret (Value.bool true) (q1)) (.need (NoNames c∧NoNames c3∧True) (.done 3 (Value.bool true) (H0 ty ty3 n nk cap cap3 c c3 kn xb))));W.holds η prog B 3 (fun kp_ st_=>RunD η prog B 3 (H0 ty ty3 n nk cap cap3 c c3 kn xb) kp_ st_ (QF prog 128 D)) D (.call 7 [Value.agg ⟨[Value.slice (some ⟨126,0,none⟩) n cap,Value.slice none 0 9223372036854775808,Value.int IntKind.i64 kn,Value.slice none 0 9223372036854775808]⟩] (q1) (.ret (Value.bool (RG.farB c n [] 0 kn 0)) (q1)) (.ite (RG.farB c n [] (0:Nat) kn (0:Nat)) q0 (.ite (decide ((↑nk:Int) > (60:Int))) q0 (.call 8 [Value.agg ⟨[Value.slice (some ⟨126,0,none⟩) n cap,Value.slice none 0 9223372036854775808,Value.int IntKind.i64 kn,Value.slice none 0 9223372036854775808]⟩] (q1) (.ret (Value.int IntKind.i64 2) (q1)) q0))))):CallSpec η prog B 3 [Value.agg ⟨[Value.slice (some ⟨126,0,none⟩) n cap,Value.slice none 0 9223372036854775808,Value.int IntKind.i64 kn,Value.slice none 0 9223372036854775808]⟩,Value.int IntKind.u8 xb,Value.slice (some ⟨127,0,none⟩) nk cap3] (H0 ty ty3 n nk cap cap3 c c3 kn xb) D:=by
 refine CallSpec.ofQF hη (CallSpec.enter (fr:=(E ty ty3 n nk cap cap3 c c3 kn xb).fr) (by kernel_rfl) ?_)
 exact walk_okT (h0:=H0 ty ty3 n nk cap cap3 c c3 kn xb) hη hmix hreg (.steps 9 <| .call kN <| .steps 1 <| .bit 19 (.steps 19 <| .call kN <| .steps 3 <| .done (some ⟨128,[],[(126,(126,true)),(127,(127,true))]⟩)) (.steps 5 <| .bit 24 (.steps 14 <| .call kN <| .steps 3 <| .done (some ⟨128,[],[(126,(126,true)),(127,(127,true))]⟩)) (.steps 1 <| .call kN <| .steps 12 <| .call kN <| .steps 3 <| .done (some ⟨128,[],[(126,(126,true)),(127,(127,true))]⟩)))) (E ty ty3 n nk cap cap3 c c3 kn xb) (by kernel_rfl) h (by kernel_rfl)
end LUNEEN2
namespace LUNEEN3
noncomputable def bd:Code:=(Go.Proofs.Tryd.f3.body).getD .skip
noncomputable def H0(ty ty3 n nk cap cap3:Nat)(c c3:List Value)(kn xb:Int):AH:={ objs:=eE (eE (eE (eE (eE (eE (eE (lL (AObj.cells ty3 c3 false 0)) nZ) nZ) nZ) nZ) nZ) nZ) (eE nZ (eE nZ (eE nZ (eE nZ (eE nZ (lL (AObj.cells ty c false 0))))))),next:=128 }
noncomputable def E(ty ty3 n nk cap cap3:Nat)(c c3:List Value)(kn xb:Int):AS:=⟨⟨3,154,nS (Value.agg ⟨[sS 126 0 n cap,Value.slice none 0 9223372036854775808,iI kn,Value.slice none 0 9223372036854775808]⟩) (lL (uI xb)) (lL (sS 127 0 nk cap3)),[Item.code (codeAt bd [])],[],FrameMode.run,CallKind.normal,none⟩,[],H0 ty ty3 n nk cap cap3 c c3 kn xb⟩
theorem enter{η:Nat→Value}{B:Bd}(hη:OneCells η)(hmix:prog.follows .mixedOrders=true)(hreg:RegOk η prog B noNest){D:Value→AH→Prop}(ty ty3 n nk cap cap3:Nat)(c c3:List Value)(kn xb:Int)(h:let q1:AH:=⟨eE (eE (eE (eE (eE (eE (eE (lL (AObj.cells ty3 c3 false 0)) nZ) nZ) nZ) nZ) nZ) nZ) (eE (eE (eE (eE (eE (eE (lL (AObj.cells 26 [sS 126 0 n cap,Value.slice none 0 9223372036854775808,iI kn,Value.slice none 0 9223372036854775808] true 2)) nZ) nZ) nZ) nZ) nZ) (eE nZ (eE nZ (eE nZ (eE nZ (lL (AObj.cells ty c false 0))))))),129⟩;let q0:W:=(.call 9 [] (q1) (.ret (Value.bool true) (q1)) (.need (NoNames c∧NoNames c3∧True) (.done 3 (Value.bool true) (H0 ty ty3 n nk cap cap3 c c3 kn xb))));W.holds η prog B 3 (fun kp_ st_=>RunD η prog B 3 (H0 ty ty3 n nk cap cap3 c c3 kn xb) kp_ st_ (QF prog 128 D)) D (.call 7 [Value.agg ⟨[Value.slice (some ⟨126,0,none⟩) n cap,Value.slice none 0 9223372036854775808,Value.int IntKind.i64 kn,Value.slice none 0 9223372036854775808]⟩] (q1) (.ret (Value.bool (RG.farB c n [] 0 kn 0)) (q1)) (.ite (RG.farB c n [] (0:Nat) kn (0:Nat)) q0 (.ite (decide ((↑nk:Int) > (60:Int))) q0 (.call 8 [Value.agg ⟨[Value.slice (some ⟨126,0,none⟩) n cap,Value.slice none 0 9223372036854775808,Value.int IntKind.i64 kn,Value.slice none 0 9223372036854775808]⟩] (q1) (.ret (Value.int IntKind.i64 3) (q1)) q0))))):CallSpec η prog B 3 [Value.agg ⟨[Value.slice (some ⟨126,0,none⟩) n cap,Value.slice none 0 9223372036854775808,Value.int IntKind.i64 kn,Value.slice none 0 9223372036854775808]⟩,Value.int IntKind.u8 xb,Value.slice (some ⟨127,0,none⟩) nk cap3] (H0 ty ty3 n nk cap cap3 c c3 kn xb) D:=by
 refine CallSpec.ofQF hη (CallSpec.enter (fr:=(E ty ty3 n nk cap cap3 c c3 kn xb).fr) (by kernel_rfl) ?_)
 exact walk_okT (h0:=H0 ty ty3 n nk cap cap3 c c3 kn xb) hη hmix hreg (.steps 9 <| .call kN <| .steps 1 <| .bit 19 (.steps 19 <| .call kN <| .steps 3 <| .done (some ⟨128,[],[(126,(126,true)),(127,(127,true))]⟩)) (.steps 5 <| .bit 24 (.steps 14 <| .call kN <| .steps 3 <| .done (some ⟨128,[],[(126,(126,true)),(127,(127,true))]⟩)) (.steps 1 <| .call kN <| .steps 12 <| .call kN <| .steps 3 <| .done (some ⟨128,[],[(126,(126,true)),(127,(127,true))]⟩)))) (E ty ty3 n nk cap cap3 c c3 kn xb) (by kernel_rfl) h (by kernel_rfl)
end LUNEEN3
namespace LUNEEE2
noncomputable def bd:Code:=(Go.Proofs.Tryd.f3.body).getD .skip
noncomputable def H0(ty n cap:Nat)(c:List Value)(kn xb:Int):AH:={ objs:=eE nZ (eE nZ (eE nZ (eE nZ (eE nZ (eE nZ (lL (AObj.cells ty c false 0))))))),next:=127 }
noncomputable def E(ty n cap:Nat)(c:List Value)(kn xb:Int):AS:=⟨⟨3,154,nS (Value.agg ⟨[sS 126 0 n cap,Value.slice none 0 9223372036854775808,iI kn,Value.slice none 0 9223372036854775808]⟩) (lL (uI xb)) (lL (Value.slice none 0 9223372036854775808)),[Item.code (codeAt bd [])],[],FrameMode.run,CallKind.normal,none⟩,[],H0 ty n cap c kn xb⟩
theorem enter{η:Nat→Value}{B:Bd}(hη:OneCells η)(hmix:prog.follows .mixedOrders=true)(hreg:RegOk η prog B noNest){D:Value→AH→Prop}(ty n cap:Nat)(c:List Value)(kn xb:Int)(h:let q1:AH:=⟨eE (eE (eE (eE (eE (eE (eE (lL (AObj.cells 26 [sS 126 0 n cap,Value.slice none 0 9223372036854775808,iI kn,Value.slice none 0 9223372036854775808] true 2)) nZ) nZ) nZ) nZ) nZ) nZ) (eE nZ (eE nZ (eE nZ (eE nZ (eE nZ (lL (AObj.cells ty c false 0))))))),128⟩;let q0:W:=(.call 9 [] (q1) (.ret (Value.bool true) (q1)) (.need (NoNames c∧True) (.done 3 (Value.bool true) (H0 ty n cap c kn xb))));W.holds η prog B 3 (fun kp_ st_=>RunD η prog B 3 (H0 ty n cap c kn xb) kp_ st_ (QF prog 127 D)) D (.call 7 [Value.agg ⟨[Value.slice (some ⟨126,0,none⟩) n cap,Value.slice none 0 9223372036854775808,Value.int IntKind.i64 kn,Value.slice none 0 9223372036854775808]⟩] (q1) (.ret (Value.bool (RG.farB c n [] 0 kn 0)) (q1)) (.ite (RG.farB c n [] (0:Nat) kn (0:Nat)) q0 (.call 8 [Value.agg ⟨[Value.slice (some ⟨126,0,none⟩) n cap,Value.slice none 0 9223372036854775808,Value.int IntKind.i64 kn,Value.slice none 0 9223372036854775808]⟩] (q1) (.ret (Value.int IntKind.i64 2) (q1)) q0)))):CallSpec η prog B 3 [Value.agg ⟨[Value.slice (some ⟨126,0,none⟩) n cap,Value.slice none 0 9223372036854775808,Value.int IntKind.i64 kn,Value.slice none 0 9223372036854775808]⟩,Value.int IntKind.u8 xb,Value.slice none 0 9223372036854775808] (H0 ty n cap c kn xb) D:=by
 refine CallSpec.ofQF hη (CallSpec.enter (fr:=(E ty n cap c kn xb).fr) (by kernel_rfl) ?_)
 exact walk_okT (h0:=H0 ty n cap c kn xb) hη hmix hreg (.steps 9 <| .call kN <| .steps 1 <| .bit 19 (.steps 19 <| .call kN <| .steps 3 <| .done (some ⟨127,[],[(126,(126,true))]⟩)) (.steps 6 <| .call kN <| .steps 12 <| .call kN <| .steps 3 <| .done (some ⟨127,[],[(126,(126,true))]⟩))) (E ty n cap c kn xb) (by kernel_rfl) h (by kernel_rfl)
end LUNEEE2
namespace LUNEEE3
noncomputable def bd:Code:=(Go.Proofs.Tryd.f3.body).getD .skip
noncomputable def H0(ty n cap:Nat)(c:List Value)(kn xb:Int):AH:={ objs:=eE nZ (eE nZ (eE nZ (eE nZ (eE nZ (eE nZ (lL (AObj.cells ty c false 0))))))),next:=127 }
noncomputable def E(ty n cap:Nat)(c:List Value)(kn xb:Int):AS:=⟨⟨3,154,nS (Value.agg ⟨[sS 126 0 n cap,Value.slice none 0 9223372036854775808,iI kn,Value.slice none 0 9223372036854775808]⟩) (lL (uI xb)) (lL (Value.slice none 0 9223372036854775808)),[Item.code (codeAt bd [])],[],FrameMode.run,CallKind.normal,none⟩,[],H0 ty n cap c kn xb⟩
theorem enter{η:Nat→Value}{B:Bd}(hη:OneCells η)(hmix:prog.follows .mixedOrders=true)(hreg:RegOk η prog B noNest){D:Value→AH→Prop}(ty n cap:Nat)(c:List Value)(kn xb:Int)(h:let q1:AH:=⟨eE (eE (eE (eE (eE (eE (eE (lL (AObj.cells 26 [sS 126 0 n cap,Value.slice none 0 9223372036854775808,iI kn,Value.slice none 0 9223372036854775808] true 2)) nZ) nZ) nZ) nZ) nZ) nZ) (eE nZ (eE nZ (eE nZ (eE nZ (eE nZ (lL (AObj.cells ty c false 0))))))),128⟩;let q0:W:=(.call 9 [] (q1) (.ret (Value.bool true) (q1)) (.need (NoNames c∧True) (.done 3 (Value.bool true) (H0 ty n cap c kn xb))));W.holds η prog B 3 (fun kp_ st_=>RunD η prog B 3 (H0 ty n cap c kn xb) kp_ st_ (QF prog 127 D)) D (.call 7 [Value.agg ⟨[Value.slice (some ⟨126,0,none⟩) n cap,Value.slice none 0 9223372036854775808,Value.int IntKind.i64 kn,Value.slice none 0 9223372036854775808]⟩] (q1) (.ret (Value.bool (RG.farB c n [] 0 kn 0)) (q1)) (.ite (RG.farB c n [] (0:Nat) kn (0:Nat)) q0 (.call 8 [Value.agg ⟨[Value.slice (some ⟨126,0,none⟩) n cap,Value.slice none 0 9223372036854775808,Value.int IntKind.i64 kn,Value.slice none 0 9223372036854775808]⟩] (q1) (.ret (Value.int IntKind.i64 3) (q1)) q0)))):CallSpec η prog B 3 [Value.agg ⟨[Value.slice (some ⟨126,0,none⟩) n cap,Value.slice none 0 9223372036854775808,Value.int IntKind.i64 kn,Value.slice none 0 9223372036854775808]⟩,Value.int IntKind.u8 xb,Value.slice none 0 9223372036854775808] (H0 ty n cap c kn xb) D:=by
 refine CallSpec.ofQF hη (CallSpec.enter (fr:=(E ty n cap c kn xb).fr) (by kernel_rfl) ?_)
 exact walk_okT (h0:=H0 ty n cap c kn xb) hη hmix hreg (.steps 9 <| .call kN <| .steps 1 <| .bit 19 (.steps 19 <| .call kN <| .steps 3 <| .done (some ⟨127,[],[(126,(126,true))]⟩)) (.steps 6 <| .call kN <| .steps 12 <| .call kN <| .steps 3 <| .done (some ⟨127,[],[(126,(126,true))]⟩))) (E ty n cap c kn xb) (by kernel_rfl) h (by kernel_rfl)
end LUNEEE3
end Go.Ev

/- Rings of backends: what the functions of orders return. -/
namespace Go.Ev
namespace RG
def ixI(c:List Value)(x:Int)(n:Nat):Int:=fstIx (fun i=>x == intAt c i) n 0
def plL(l:List (Int × Int))(x:Int):Nat:=if lbL l x=l.length then 0 else lbL l x
def plN(c:List Value)(n:Nat)(s:List UInt8):Nat:=plL (ptsOf c n) (FN.fnv .u32 16777619 (bytesV s) 0 s.length 2166136261)
end RG
end Go.Ev

/- Rings of backends: a backend that leaves: what the law's calls return. -/
namespace Go.Ev
namespace RG
def ordF(l:List (Int × Int))(p:Nat):Nat→Nat→List Int→List Int
 | 0,_,a=>a
 | m+1,i,a=>ordF l p m (i+1) (if(l[(p+i) % l.length]?.getD (0,0)).2 ∈ a then a else a ++ [(l[(p+i) % l.length]?.getD (0,0)).2])
def ordL(l:List (Int × Int))(x:Int):List Int:=ordF l (plL l x) l.length 0 []
def intV(a:List Int):List Value:=a.map fun z=>.int .i64 z
def ordC(c:List Value)(n:Nat)(s:List UInt8):List Value:=intV (ordL (ptsOf c n) (FN.fnv .u32 16777619 (bytesV s) 0 s.length 2166136261))
def ordN(c:List Value)(n:Nat)(s:List UInt8):Nat:=(ordL (ptsOf c n) (FN.fnv .u32 16777619 (bytesV s) 0 s.length 2166136261)).length
def ckN1(c:List Value)(o n:Nat)(c':List Value)(o' n':Nat)(k:Int)(l:List (Int × Int)):Nat:=(ckR c o n c' o' n' k l).toNat - 1
end RG
end Go.Ev

namespace Go.Ev
open Go Go.Proofs
open Go.Ev.T renaming node → nN, nil → nZ
open Go.Proofs.Tryd (prog)
set_option maxRecDepth 100000
set_option maxHeartbeats 2000000
namespace LwNN
noncomputable def bd:Code:=(Go.Proofs.Tryd.f3.body).getD .skip
noncomputable def H0(tb:List Value)(ty ty' ty2 ty3 n n' m nk cap cap' cap2 cap3:Nat)(c c' c2 c3:List Value)(kn xb:Int):AH:={ objs:=nS (AObj.cells 115 tb true 0) (eE (eE (eE (eE (eE (eE (lL (AObj.cells ty' c' false 0)) nZ) nZ) nZ) nZ) nZ) (eE (eE (eE (eE (eE (lL (AObj.cells ty3 c3 false 0)) nZ) nZ) nZ) nZ) nZ)) (eE (eE (eE (eE (eE (eE (lL (AObj.cells ty2 c2 false 0)) nZ) nZ) nZ) nZ) nZ) (eE nZ (eE nZ (eE nZ (eE nZ (lL (AObj.cells ty c false 0))))))),next:=130 }
noncomputable def E(tb:List Value)(ty ty' ty2 ty3 n n' m nk cap cap' cap2 cap3:Nat)(c c' c2 c3:List Value)(kn xb:Int):AS:=⟨⟨3,154,nS (Value.agg ⟨[sS 126 0 n cap,sS 127 0 n' cap',iI kn,sS 128 0 m cap2]⟩) (lL (uI xb)) (lL (sS 129 0 nk cap3)),[Item.code (codeAt bd [])],[],FrameMode.run,CallKind.normal,none⟩,[],H0 tb ty ty' ty2 ty3 n n' m nk cap cap' cap2 cap3 c c' c2 c3 kn xb⟩
theorem enter{η:Nat→Value}{B:Bd}(hη:OneCells η)(hmix:prog.follows .mixedOrders=true)(hreg:RegOk η prog B noNest){D:Value→AH→Prop}(tb:List Value)(ty ty' ty2 ty3 n n' m nk cap cap' cap2 cap3:Nat)(c c' c2 c3:List Value)(kn xb:Int)(h:let q1:AH:=⟨nS (AObj.cells 115 tb true 0) (eE (eE (eE (eE (eE (eE (lL (AObj.cells ty' c' false 0)) nZ) nZ) nZ) nZ) nZ) (eE (eE (eE (eE (eE (lL (AObj.cells ty3 c3 false 0)) nZ) nZ) nZ) nZ) nZ)) (eE (eE (eE (eE (eE (eE (lL (AObj.cells ty2 c2 false 0)) nZ) nZ) nZ) nZ) nZ) (eE (eE (eE (eE (eE (lL (AObj.cells 26 [sS 126 0 n cap,sS 127 0 n' cap',iI kn,sS 128 0 m cap2] true 2)) nZ) nZ) nZ) nZ) (eE nZ (eE nZ (eE nZ (lL (AObj.cells ty c false 0))))))),131⟩;let q0:W:=(.call 9 [] (q1) (.ret (Value.bool true) (q1)) (.need (NoNames tb∧NoNames c∧NoNames c'∧NoNames c2∧NoNames c3∧True) (.done 3 (Value.bool true) (H0 tb ty ty' ty2 ty3 n n' m nk cap cap' cap2 cap3 c c' c2 c3 kn xb))));W.holds η prog B 3 (fun kp_ st_=>RunD η prog B 3 (H0 tb ty ty' ty2 ty3 n n' m nk cap cap' cap2 cap3 c c' c2 c3 kn xb) kp_ st_ (QF prog 130 D)) D (.call 7 [Value.agg ⟨[Value.slice (some ⟨126,0,none⟩) n cap,Value.slice (some ⟨127,0,none⟩) n' cap',Value.int IntKind.i64 kn,Value.slice (some ⟨128,0,none⟩) m cap2]⟩] (q1) (.ret (Value.bool (RG.farB c n c' n' kn m)) (q1)) (.ite (RG.farB c n c' n' kn m) q0 (.ite (decide ((↑nk:Int) > (60:Int))) q0 (.call 8 [Value.agg ⟨[Value.slice (some ⟨126,0,none⟩) n cap,Value.slice (some ⟨127,0,none⟩) n' cap',Value.int IntKind.i64 kn,Value.slice (some ⟨128,0,none⟩) m cap2]⟩] (q1) (.ret (Value.int IntKind.i64 (Int.ofNat (RG.ckN1 c 0 n c' 0 n' kn (RG.ptsOf c2 m)).succ)) (q1)) q0))))):CallSpec η prog B 3 [Value.agg ⟨[Value.slice (some ⟨126,0,none⟩) n cap,Value.slice (some ⟨127,0,none⟩) n' cap',Value.int IntKind.i64 kn,Value.slice (some ⟨128,0,none⟩) m cap2]⟩,Value.int IntKind.u8 xb,Value.slice (some ⟨129,0,none⟩) nk cap3] (H0 tb ty ty' ty2 ty3 n n' m nk cap cap' cap2 cap3 c c' c2 c3 kn xb) D:=by
 refine CallSpec.ofQF hη (CallSpec.enter (fr:=(E tb ty ty' ty2 ty3 n n' m nk cap cap' cap2 cap3 c c' c2 c3 kn xb).fr) (by kernel_rfl) ?_)
 exact walk_okT (h0:=H0 tb ty ty' ty2 ty3 n n' m nk cap cap' cap2 cap3 c c' c2 c3 kn xb) hη hmix hreg (.steps 9 <| .call kN <| .steps 1 <| .bit 19 (.steps 19 <| .call kN <| .steps 3 <| .done (some ⟨130,[],[(0,(0,true)),(126,(126,true)),(127,(127,true)),(128,(128,true)),(129,(129,true))]⟩)) (.steps 5 <| .bit 24 (.steps 14 <| .call kN <| .steps 3 <| .done (some ⟨130,[],[(0,(0,true)),(126,(126,true)),(127,(127,true)),(128,(128,true)),(129,(129,true))]⟩)) (.steps 1 <| .call kN <| .steps 12 <| .call kN <| .steps 3 <| .done (some ⟨130,[],[(0,(0,true)),(126,(126,true)),(127,(127,true)),(128,(128,true)),(129,(129,true))]⟩)))) (E tb ty ty' ty2 ty3 n n' m nk cap cap' cap2 cap3 c c' c2 c3 kn xb) (by kernel_rfl) h (by kernel_rfl)
end LwNN
namespace LwNE
noncomputable def bd:Code:=(Go.Proofs.Tryd.f3.body).getD .skip
noncomputable def H0(tb:List Value)(ty ty' ty2 n n' m cap cap' cap2:Nat)(c c' c2:List Value)(kn xb:Int):AH:={ objs:=nS (AObj.cells 115 tb true 0) (eE (eE (eE (eE (eE (eE (lL (AObj.cells ty' c' false 0)) nZ) nZ) nZ) nZ) nZ) nZ) (eE (eE (eE (eE (eE (eE (lL (AObj.cells ty2 c2 false 0)) nZ) nZ) nZ) nZ) nZ) (eE nZ (eE nZ (eE nZ (eE nZ (lL (AObj.cells ty c false 0))))))),next:=129 }
noncomputable def E(tb:List Value)(ty ty' ty2 n n' m cap cap' cap2:Nat)(c c' c2:List Value)(kn xb:Int):AS:=⟨⟨3,154,nS (Value.agg ⟨[sS 126 0 n cap,sS 127 0 n' cap',iI kn,sS 128 0 m cap2]⟩) (lL (uI xb)) (lL (Value.slice none 0 9223372036854775808)),[Item.code (codeAt bd [])],[],FrameMode.run,CallKind.normal,none⟩,[],H0 tb ty ty' ty2 n n' m cap cap' cap2 c c' c2 kn xb⟩
theorem enter{η:Nat→Value}{B:Bd}(hη:OneCells η)(hmix:prog.follows .mixedOrders=true)(hreg:RegOk η prog B noNest){D:Value→AH→Prop}(tb:List Value)(ty ty' ty2 n n' m cap cap' cap2:Nat)(c c' c2:List Value)(kn xb:Int)(h:let q1:AH:=⟨nS (AObj.cells 115 tb true 0) (eE (eE (eE (eE (eE (eE (lL (AObj.cells ty' c' false 0)) nZ) nZ) nZ) nZ) nZ) (eE (eE (eE (eE (eE (lL (AObj.cells 26 [sS 126 0 n cap,sS 127 0 n' cap',iI kn,sS 128 0 m cap2] true 2)) nZ) nZ) nZ) nZ) nZ)) (eE (eE (eE (eE (eE (eE (lL (AObj.cells ty2 c2 false 0)) nZ) nZ) nZ) nZ) nZ) (eE nZ (eE nZ (eE nZ (eE nZ (lL (AObj.cells ty c false 0))))))),130⟩;let q0:W:=(.call 9 [] (q1) (.ret (Value.bool true) (q1)) (.need (NoNames tb∧NoNames c∧NoNames c'∧NoNames c2∧True) (.done 3 (Value.bool true) (H0 tb ty ty' ty2 n n' m cap cap' cap2 c c' c2 kn xb))));W.holds η prog B 3 (fun kp_ st_=>RunD η prog B 3 (H0 tb ty ty' ty2 n n' m cap cap' cap2 c c' c2 kn xb) kp_ st_ (QF prog 129 D)) D (.call 7 [Value.agg ⟨[Value.slice (some ⟨126,0,none⟩) n cap,Value.slice (some ⟨127,0,none⟩) n' cap',Value.int IntKind.i64 kn,Value.slice (some ⟨128,0,none⟩) m cap2]⟩] (q1) (.ret (Value.bool (RG.farB c n c' n' kn m)) (q1)) (.ite (RG.farB c n c' n' kn m) q0 (.call 8 [Value.agg ⟨[Value.slice (some ⟨126,0,none⟩) n cap,Value.slice (some ⟨127,0,none⟩) n' cap',Value.int IntKind.i64 kn,Value.slice (some ⟨128,0,none⟩) m cap2]⟩] (q1) (.ret (Value.int IntKind.i64 (Int.ofNat (RG.ckN1 c 0 n c' 0 n' kn (RG.ptsOf c2 m)).succ)) (q1)) q0)))):CallSpec η prog B 3 [Value.agg ⟨[Value.slice (some ⟨126,0,none⟩) n cap,Value.slice (some ⟨127,0,none⟩) n' cap',Value.int IntKind.i64 kn,Value.slice (some ⟨128,0,none⟩) m cap2]⟩,Value.int IntKind.u8 xb,Value.slice none 0 9223372036854775808] (H0 tb ty ty' ty2 n n' m cap cap' cap2 c c' c2 kn xb) D:=by
 refine CallSpec.ofQF hη (CallSpec.enter (fr:=(E tb ty ty' ty2 n n' m cap cap' cap2 c c' c2 kn xb).fr) (by kernel_rfl) ?_)
 exact walk_okT (h0:=H0 tb ty ty' ty2 n n' m cap cap' cap2 c c' c2 kn xb) hη hmix hreg (.steps 9 <| .call kN <| .steps 1 <| .bit 19 (.steps 19 <| .call kN <| .steps 3 <| .done (some ⟨129,[],[(0,(0,true)),(126,(126,true)),(127,(127,true)),(128,(128,true))]⟩)) (.steps 6 <| .call kN <| .steps 12 <| .call kN <| .steps 3 <| .done (some ⟨129,[],[(0,(0,true)),(126,(126,true)),(127,(127,true)),(128,(128,true))]⟩))) (E tb ty ty' ty2 n n' m cap cap' cap2 c c' c2 kn xb) (by kernel_rfl) h (by kernel_rfl)
end LwNE
namespace LwEN
noncomputable def bd:Code:=(Go.Proofs.Tryd.f3.body).getD .skip
noncomputable def H0(tb:List Value)(ty ty' ty3 n n' nk cap cap' cap3:Nat)(c c' c3:List Value)(kn xb:Int):AH:={ objs:=nS (AObj.cells 115 tb true 0) (eE (eE (eE (eE (eE (eE (lL (AObj.cells ty' c' false 0)) nZ) nZ) nZ) nZ) nZ) nZ) (eE (eE (eE (eE (eE (eE (lL (AObj.cells ty3 c3 false 0)) nZ) nZ) nZ) nZ) nZ) (eE nZ (eE nZ (eE nZ (eE nZ (lL (AObj.cells ty c false 0))))))),next:=129 }
noncomputable def E(tb:List Value)(ty ty' ty3 n n' nk cap cap' cap3:Nat)(c c' c3:List Value)(kn xb:Int):AS:=⟨⟨3,154,nS (Value.agg ⟨[sS 126 0 n cap,sS 127 0 n' cap',iI kn,Value.slice none 0 9223372036854775808]⟩) (lL (uI xb)) (lL (sS 128 0 nk cap3)),[Item.code (codeAt bd [])],[],FrameMode.run,CallKind.normal,none⟩,[],H0 tb ty ty' ty3 n n' nk cap cap' cap3 c c' c3 kn xb⟩
theorem enter{η:Nat→Value}{B:Bd}(hη:OneCells η)(hmix:prog.follows .mixedOrders=true)(hreg:RegOk η prog B noNest){D:Value→AH→Prop}(tb:List Value)(ty ty' ty3 n n' nk cap cap' cap3:Nat)(c c' c3:List Value)(kn xb:Int)(h:let q1:AH:=⟨nS (AObj.cells 115 tb true 0) (eE (eE (eE (eE (eE (eE (lL (AObj.cells ty' c' false 0)) nZ) nZ) nZ) nZ) nZ) (eE (eE (eE (eE (eE (lL (AObj.cells 26 [sS 126 0 n cap,sS 127 0 n' cap',iI kn,Value.slice none 0 9223372036854775808] true 2)) nZ) nZ) nZ) nZ) nZ)) (eE (eE (eE (eE (eE (eE (lL (AObj.cells ty3 c3 false 0)) nZ) nZ) nZ) nZ) nZ) (eE nZ (eE nZ (eE nZ (eE nZ (lL (AObj.cells ty c false 0))))))),130⟩;let q0:W:=(.call 9 [] (q1) (.ret (Value.bool true) (q1)) (.need (NoNames tb∧NoNames c∧NoNames c'∧NoNames c3∧True) (.done 3 (Value.bool true) (H0 tb ty ty' ty3 n n' nk cap cap' cap3 c c' c3 kn xb))));W.holds η prog B 3 (fun kp_ st_=>RunD η prog B 3 (H0 tb ty ty' ty3 n n' nk cap cap' cap3 c c' c3 kn xb) kp_ st_ (QF prog 129 D)) D (.call 7 [Value.agg ⟨[Value.slice (some ⟨126,0,none⟩) n cap,Value.slice (some ⟨127,0,none⟩) n' cap',Value.int IntKind.i64 kn,Value.slice none 0 9223372036854775808]⟩] (q1) (.ret (Value.bool (RG.farB c n c' n' kn 0)) (q1)) (.ite (RG.farB c n c' n' kn (0:Nat)) q0 (.ite (decide ((↑nk:Int) > (60:Int))) q0 (.call 8 [Value.agg ⟨[Value.slice (some ⟨126,0,none⟩) n cap,Value.slice (some ⟨127,0,none⟩) n' cap',Value.int IntKind.i64 kn,Value.slice none 0 9223372036854775808]⟩] (q1) (.ret (Value.int IntKind.i64 (Int.ofNat (RG.ckN1 c 0 n c' 0 n' kn []).succ)) (q1)) q0))))):CallSpec η prog B 3 [Value.agg ⟨[Value.slice (some ⟨126,0,none⟩) n cap,Value.slice (some ⟨127,0,none⟩) n' cap',Value.int IntKind.i64 kn,Value.slice none 0 9223372036854775808]⟩,Value.int IntKind.u8 xb,Value.slice (some ⟨128,0,none⟩) nk cap3] (H0 tb ty ty' ty3 n n' nk cap cap' cap3 c c' c3 kn xb) D:=by
 refine CallSpec.ofQF hη (CallSpec.enter (fr:=(E tb ty ty' ty3 n n' nk cap cap' cap3 c c' c3 kn xb).fr) (by kernel_rfl) ?_)
 exact walk_okT (h0:=H0 tb ty ty' ty3 n n' nk cap cap' cap3 c c' c3 kn xb) hη hmix hreg (.steps 9 <| .call kN <| .steps 1 <| .bit 19 (.steps 19 <| .call kN <| .steps 3 <| .done (some ⟨129,[],[(0,(0,true)),(126,(126,true)),(127,(127,true)),(128,(128,true))]⟩)) (.steps 5 <| .bit 24 (.steps 14 <| .call kN <| .steps 3 <| .done (some ⟨129,[],[(0,(0,true)),(126,(126,true)),(127,(127,true)),(128,(128,true))]⟩)) (.steps 1 <| .call kN <| .steps 12 <| .call kN <| .steps 3 <| .done (some ⟨129,[],[(0,(0,true)),(126,(126,true)),(127,(127,true)),(128,(128,true))]⟩)))) (E tb ty ty' ty3 n n' nk cap cap' cap3 c c' c3 kn xb) (by kernel_rfl) h (by kernel_rfl)
end LwEN
namespace LwEE
noncomputable def bd:Code:=(Go.Proofs.Tryd.f3.body).getD .skip
noncomputable def H0(tb:List Value)(ty ty' n n' cap cap':Nat)(c c':List Value)(kn xb:Int):AH:={ objs:=nS (AObj.cells 115 tb true 0) (eE (eE (eE (eE (eE (eE (lL (AObj.cells ty' c' false 0)) nZ) nZ) nZ) nZ) nZ) nZ) (eE nZ (eE nZ (eE nZ (eE nZ (eE nZ (lL (AObj.cells ty c false 0))))))),next:=128 }
noncomputable def E(tb:List Value)(ty ty' n n' cap cap':Nat)(c c':List Value)(kn xb:Int):AS:=⟨⟨3,154,nS (Value.agg ⟨[sS 126 0 n cap,sS 127 0 n' cap',iI kn,Value.slice none 0 9223372036854775808]⟩) (lL (uI xb)) (lL (Value.slice none 0 9223372036854775808)),[Item.code (codeAt bd [])],[],FrameMode.run,CallKind.normal,none⟩,[],H0 tb ty ty' n n' cap cap' c c' kn xb⟩
theorem enter{η:Nat→Value}{B:Bd}(hη:OneCells η)(hmix:prog.follows .mixedOrders=true)(hreg:RegOk η prog B noNest){D:Value→AH→Prop}(tb:List Value)(ty ty' n n' cap cap':Nat)(c c':List Value)(kn xb:Int)(h:let q1:AH:=⟨nS (AObj.cells 115 tb true 0) (eE (eE (eE (eE (eE (eE (lL (AObj.cells ty' c' false 0)) nZ) nZ) nZ) nZ) nZ) nZ) (eE (eE (eE (eE (eE (eE (lL (AObj.cells 26 [sS 126 0 n cap,sS 127 0 n' cap',iI kn,Value.slice none 0 9223372036854775808] true 2)) nZ) nZ) nZ) nZ) nZ) (eE nZ (eE nZ (eE nZ (eE nZ (lL (AObj.cells ty c false 0))))))),129⟩;let q0:W:=(.call 9 [] (q1) (.ret (Value.bool true) (q1)) (.need (NoNames tb∧NoNames c∧NoNames c'∧True) (.done 3 (Value.bool true) (H0 tb ty ty' n n' cap cap' c c' kn xb))));W.holds η prog B 3 (fun kp_ st_=>RunD η prog B 3 (H0 tb ty ty' n n' cap cap' c c' kn xb) kp_ st_ (QF prog 128 D)) D (.call 7 [Value.agg ⟨[Value.slice (some ⟨126,0,none⟩) n cap,Value.slice (some ⟨127,0,none⟩) n' cap',Value.int IntKind.i64 kn,Value.slice none 0 9223372036854775808]⟩] (q1) (.ret (Value.bool (RG.farB c n c' n' kn 0)) (q1)) (.ite (RG.farB c n c' n' kn (0:Nat)) q0 (.call 8 [Value.agg ⟨[Value.slice (some ⟨126,0,none⟩) n cap,Value.slice (some ⟨127,0,none⟩) n' cap',Value.int IntKind.i64 kn,Value.slice none 0 9223372036854775808]⟩] (q1) (.ret (Value.int IntKind.i64 (Int.ofNat (RG.ckN1 c 0 n c' 0 n' kn []).succ)) (q1)) q0)))):CallSpec η prog B 3 [Value.agg ⟨[Value.slice (some ⟨126,0,none⟩) n cap,Value.slice (some ⟨127,0,none⟩) n' cap',Value.int IntKind.i64 kn,Value.slice none 0 9223372036854775808]⟩,Value.int IntKind.u8 xb,Value.slice none 0 9223372036854775808] (H0 tb ty ty' n n' cap cap' c c' kn xb) D:=by
 refine CallSpec.ofQF hη (CallSpec.enter (fr:=(E tb ty ty' n n' cap cap' c c' kn xb).fr) (by kernel_rfl) ?_)
 exact walk_okT (h0:=H0 tb ty ty' n n' cap cap' c c' kn xb) hη hmix hreg (.steps 9 <| .call kN <| .steps 1 <| .bit 19 (.steps 19 <| .call kN <| .steps 3 <| .done (some ⟨128,[],[(0,(0,true)),(126,(126,true)),(127,(127,true))]⟩)) (.steps 6 <| .call kN <| .steps 12 <| .call kN <| .steps 3 <| .done (some ⟨128,[],[(0,(0,true)),(126,(126,true)),(127,(127,true))]⟩))) (E tb ty ty' n n' cap cap' c c' kn xb) (by kernel_rfl) h (by kernel_rfl)
end LwEE
end Go.Ev

/- Rings of backends: what depends on the names' and weights' cells alone; a row with one more cell. -/
namespace Go.Ev
open Go Go.Proofs
namespace RG
theorem fstIx_congr{p q:Nat→Bool}:∀ m i,(∀ j,i≤j→j<i+m→p j=q j)→fstIx p m i=fstIx q m i
 | 0,_,_=>rfl
 | m+1,i,h=>by
  unfold fstIx
  rw [h i (Nat.le_refl _) (by omega),fstIx_congr m (i+1) fun j a b=>h j (by omega) (by omega)]
theorem badN_congr{c d:List Value}{o p n:Nat}(h:∀ i,i<n→strAt c (o+i)=strAt d (p+i)):badN c o n=badN d p n:=by
 unfold badN
 exact fstIx_congr n 0 fun j _ b=>by rw [h j (by omega)]
theorem badW_congr{c d:List Value}{o p n:Nat}(h:∀ i,i<n→intAt c (o+i)=intAt d (p+i)):badW c o n=badW d p n:=by
 unfold badW
 exact fstIx_congr n 0 fun j _ b=>by rw [h j (by omega)]
theorem ixS_congr{c d:List Value}{s:List UInt8}{o p n:Nat}(h:∀ i,i<n→strAt c (o+i)=strAt d (p+i)):ixS c s o n=ixS d s p n:=by
 unfold ixS
 exact fstIx_congr n 0 fun j _ b=>by rw [h j (by omega)]
theorem twiF_congr{c d:List Value}{o p n:Nat}(h:∀ i,i<n→strAt c (o+i)=strAt d (p+i)):∀ m i,i+m≤n→twiF c o m i=twiF d p m i
 | 0,_,_=>rfl
 | m+1,i,hi=>by
  unfold twiF
  rw [h i (by omega),ixS_congr (n:=i) fun j hj=>h j (by omega),twiF_congr h m (i+1) (by omega)]
theorem twi_congr{c d:List Value}{o p n:Nat}(h:∀ i,i<n→strAt c (o+i)=strAt d (p+i)):twi c o n=twi d p n:=by
 unfold twi
 exact twiF_congr h n 0 (by omega)
theorem cntF_congr{c d:List Value}{k:Int}{o p n:Nat}(h:∀ i,i<n→intAt c (o+i)=intAt d (p+i)):∀ m i a,i+m≤n→cntF c k o m i a=cntF d k p m i a
 | 0,_,_,_=>rfl
 | m+1,i,a,hi=>by
  unfold cntF
  rw [h i (by omega),cntF_congr h m (i+1) _ (by omega)]
theorem cnt_congr{c d:List Value}{k:Int}{o p n:Nat}(h:∀ i,i<n→intAt c (o+i)=intAt d (p+i)):cnt c k o n=cnt d k p n:=by
 unfold cnt
 exact cntF_congr h n 0 0 (by omega)
theorem chkI_congr{c d:List Value}{o p n:Nat}{c' d':List Value}{o' p' n':Nat}{k:Int}(h:∀ i,i<n→strAt c (o+i)=strAt d (p+i))(h':∀ i,i<n'→intAt c' (o'+i)=intAt d' (p'+i)):chkI c o n c' o' n' k=chkI d p n d' p' n' k:=by
 unfold chkI chkB
 rw [badW_congr h',badN_congr h,twi_congr h,cnt_congr h']
theorem allP_congr{c d:List Value}{o p n:Nat}{c' d':List Value}{o' p':Nat}{k:Int}(h:∀ i,i<n→strAt c (o+i)=strAt d (p+i))(h':∀ i,i<n→intAt c' (o'+i)=intAt d' (p'+i)):∀ m i,i+m≤n→allP c o c' o' k m i=allP d p d' p' k m i
 | 0,_,_=>rfl
 | m+1,i,hi=>by
  unfold allP
  rw [h i (by omega),h' i (by omega),allP_congr h h' m (i+1) (by omega)]
theorem ptsS_congr{c d:List Value}{o p n:Nat}{c' d':List Value}{o' p':Nat}{k:Int}(h:∀ i,i<n→strAt c (o+i)=strAt d (p+i))(h':∀ i,i<n→intAt c' (o'+i)=intAt d' (p'+i)):ptsS c o c' o' k n=ptsS d p d' p' k n:=by
 unfold ptsS
 rw [allP_congr h h' n 0 (by omega)]
theorem intAt_of{c d:List Value}{i j:Nat}(h:c[i]? = d[j]?):intAt c i=intAt d j:=by unfold intAt;rw [h]
theorem strR_get(c:List Value)(o:Nat):∀ m i j,j<m→(strR c o m i)[j]? = some (.string ⟨⟨strAt c (o+(i+j))⟩⟩)
 | 0,_,_,h=>by omega
 | m+1,i,0,_=>rfl
 | m+1,i,j+1,h=>by
  show(strR c o m (i+1))[j]? = _
  rw [strR_get c o m (i+1) j (by omega),show i+1+j=i+(j+1) by omega]
theorem strC_at{c:List Value}{o n i:Nat}(h:i<n):strAt (strC c o n) (0+i)=strAt c (o+i):=by
 have e:strC c o n=strR c o n 0:=by unfold strC;rfl
 rw [e]
 have:=strR_get c o n 0 i h
 unfold strAt
 rw [Nat.zero_add,this,Nat.zero_add];rfl
theorem strC_row{c:List Value}{o n:Nat}:RowS (strC c o n) 0 n:=by
 have e:strC c o n=strR c o n 0:=by unfold strC;rfl
 refine⟨?_,fun i hi=>?_⟩
 ·rw [e]
  have:∀ m i,(strR c o m i).all bareV=true:=fun m=>by
   induction m with
   | zero=>intro i;rfl
   | succ m ih=>intro i;unfold strR;rw [List.all_cons,ih];rfl
  exact this n 0
 ·rw [strC_at hi,e,Nat.zero_add,strR_get c o n 0 i hi,Nat.zero_add]
theorem cutC_get{c:List Value}{o n i:Nat}(h:i<n):(cutC c o n)[0+i]? = c[o+i]?:=by
 have e:cutC c o n=List.take n (List.drop o c):=by unfold cutC cutI;rfl
 rw [e,Nat.zero_add,List.getElem?_take_of_lt h,List.getElem?_drop]
theorem cutC_row{c:List Value}{o n:Nat}(h:RowI c o n):RowI (cutC c o n) 0 n:=by
 refine⟨?_,fun i hi=>?_⟩
 ·have e:cutC c o n=List.take n (List.drop o c):=by unfold cutC cutI;rfl
  rw [e]
  exact List.all_eq_true.2 fun v hv=>List.all_eq_true.1 h.1 v (List.mem_of_mem_drop (List.mem_of_mem_take hv))
 ·rw [intAt_of (cutC_get hi),cutC_get hi];exact h.2 i hi
theorem row_len{c:List Value}{n:Nat}(h:∀ i,i<n→∃ v,c[0+i]? = some v):n≤c.length:=by
 cases n with
 | zero=>exact Nat.zero_le _
 | succ n=>
  obtain⟨v,hv⟩:=h n (Nat.lt_succ_self _)
  have:=(List.getElem?_eq_some_iff.1 hv).1
  omega
theorem RowS.len{c:List Value}{n:Nat}(h:RowS c 0 n):n≤c.length:=row_len fun i hi=>⟨_,h.2 i hi⟩
theorem RowI.len{c:List Value}{n:Nat}(h:RowI c 0 n):n≤c.length:=row_len fun i hi=>⟨_,h.2 i hi⟩
end RG
end Go.Ev

namespace Go.Ev
open Go
variable {η:Nat→Value} {P:Program} {B:Bd}
theorem LR.split{ρ:Env}:∀ {a b m:List Value},LR η ρ (a ++ b) m→∃ m1 m2,m=m1 ++ m2∧LR η ρ a m1∧LR η ρ b m2
 | [],b,m,h=>⟨[],m,rfl,.nil,h⟩
 | x :: a,b,m,h=>by
  obtain⟨y,m',rfl,h1,h2⟩:=LR.inv_cons (show LR η ρ (x :: (a ++ b)) m from h)
  obtain⟨m1,m2,rfl,h3,h4⟩:=LR.split h2
  exact⟨y :: m1,m2,rfl,.cons h1 h3,h4⟩
theorem CallSpec.cap{f:FuncId}{a b:List Value}{r o n s:Nat}{h:AH}{Q:Value→AH→Prop}(k:∀ c,isU c=false→n≤c→CallSpec η P B f (a ++ .slice (some ⟨r,o,none⟩) n c :: b) h Q) :
  CallSpec η P B f (a ++ .slice (some ⟨r,o,none⟩) n (capU s) :: b) h Q:=by
 intro ρ args' w cs l p
 obtain⟨m1,m2,hm,l1,l2⟩:=l.split
 obtain⟨x,m3,rfl,hx,l3⟩:=l2.inv_cons
 generalize hcu:capU s=cu at hx
 cases hx with
 | slice _ _ h3 hc=>rw [← hcu,isU_capU] at hc;cases hc
 | sliceU _ s1 c h3 hs hc hle hb=>
  have hU:isU c=false:=by unfold isU;simp only [decide_eq_false_iff_not];omega
  refine k c hU hle ρ args' w cs ?_ p
  rw [hm]
  exact l1.append (.cons (.slice _ _ h3 hU) l3)
end Go.Ev

/- A fresh block of which no more is said than what it holds. -/
namespace Go.Ev
open Go Go.Proofs
variable {η:Nat→Value} {P:Program} {B:Bd}
theorem withRow_get(H:AH)(ty:TypeId)(c:List Value)(p:Bool)(r:Nat):(withRow H ty c p).objs.get r=if r=H.next then some (.cells ty c p 2) else H.objs.get r:=T.get_set _ _ _ _
theorem withRow_up{H:AH}{ty:TypeId}{c:List Value}{r:Nat}{a:AObj}(h:(withRow H ty c false).objs.get r=some a):∃ a1,(withRow H ty c true).objs.get r=some a1∧(shO a1=true→shO a=true)∧(ownO a=true→ownO a1=true):=by
 rw [withRow_get] at h
 by_cases hr:r=H.next
 ·rw [if_pos hr] at h;cases h
  exact⟨_,by rw [withRow_get,if_pos hr],fun q=>(by cases q),fun _=>rfl⟩
 ·rw [if_neg hr] at h
  exact⟨a,by rw [withRow_get,if_neg hr];exact h,id,id⟩
theorem CallSpec.unp{f:FuncId}{args:List Value}{H:AH}{v:Value}{ty:TypeId}{c:List Value}(k:CallSpec η P B f args H (KT.ret v (withRow H ty c true)).sat):CallSpec η P B f args H (KT.ret v (withRow H ty c false)).sat:=by
 intro ρ xs w cs l p
 obtain⟨v1,h1,ρ1,fr',w',x,⟨rfl,rfl⟩,q,hv,r⟩:=k ρ xs w cs l p
 refine⟨v1,withRow H ty c false,ρ1,fr',w',x,⟨rfl,rfl⟩,⟨q.le,q.old,q.fresh,q.next,⟨fun r a ha=>?_,fun r r' a a' b d n d' n' h1 h2 e1 e2=>?_,fun r a b d n h1 e1 hS=>?_⟩,q.fr,fun b hb=>?_,fun b hb=>?_⟩,hv,r⟩
 ·rw [withRow_get] at ha
  by_cases hr:r=H.next
  ·rw [if_pos hr] at ha;cases ha
   obtain⟨b,d,n,o,k1,k2,⟨C,ty',lo,hi,e,kk⟩,k4⟩:=q.hr.obj r (.cells ty c true 2) (by rw [withRow_get,if_pos hr])
   exact⟨b,d,n,o,k1,k2,⟨C,ty',lo,hi,e,⟨kk.ty,kk.size,kk.len,kk.at_,fun q=>(by cases q),kk.free⟩⟩,fun _=>k4 rfl⟩
  ·rw [if_neg hr] at ha
   exact q.hr.obj r a (by rw [withRow_get,if_neg hr];exact ha)
 ·obtain⟨a1,g1,_⟩:=withRow_up h1
  obtain⟨a2,g2,_⟩:=withRow_up h2
  exact q.hr.inj r r' a1 a2 b d n d' n' g1 g2 e1 e2
 ·obtain⟨a1,g1,g2,_⟩:=withRow_up h1
  exact g2 (q.hr.sh r a1 b d n g1 e1 hS)
 ·refine q.own b ?_
  obtain⟨r,a,d,n,h1,h2,h3⟩:=hb
  obtain⟨a1,g1,_,g3⟩:=withRow_up h1
  exact⟨r,a1,d,n,g1,g3 h2,h3⟩
 ·refine q.inn b ?_
  obtain⟨r,a,d,n,h1,h2⟩:=hb
  obtain⟨a1,g1,_⟩:=withRow_up h1
  exact⟨r,a1,d,n,g1,h2⟩
end Go.Ev

/- Rings of backends: the law of an idle backend where there are points. -/
namespace Go.Ev
open Go Go.Proofs
variable {η:Nat→Value} {B:Bd}
namespace RG
theorem isU_small{n:Nat}(h:n≤1000000):isU n=false:=by
 unfold isU capB;rw [decide_eq_false_iff_not];omega
theorem fnP_ptV(l:List (Int × Int))(s:List UInt8):fnP (ptV l) l.length s=bknL l (hsK s):=by
 unfold fnP hsK;rw [ptsOf_ptV]
theorem copied_ck{c c':List Value}{n:Nat}{k:Int}(h:chkI c 0 n c' 0 n k=0):ckR (strC c 0 n) 0 n (cutC c' 0 n) 0 n k (ptsS c 0 c' 0 k n)=0:=by
 have e1:∀ i,i<n→strAt (strC c 0 n) (0+i)=strAt c (0+i):=fun i hi=>strC_at hi
 have e2:∀ i,i<n→intAt (cutC c' 0 n) (0+i)=intAt c' (0+i):=fun i hi=>intAt_of (cutC_get hi)
 unfold ckR
 rw [chkI_congr e1 e2,ptsS_congr e1 e2,if_neg (by rw [h];simp),if_pos rfl]
theorem ckR_zero{c:List Value}{o n:Nat}{c':List Value}{o' n':Nat}{k:Int}{l:List (Int × Int)}(h:ckR c o n c' o' n' k l=0):chkI c o n c' o' n' k=0∧l=ptsS c o c' o' k n:=by
 unfold ckR at h
 split at h
 ·rename_i q;exact absurd h q
 ·rename_i q
  split at h
  ·rename_i e;exact⟨Decidable.not_not.1 q,e⟩
  ·cases h
end RG
end Go.Ev

/- Rings of backends: the law of an idle backend where there are no points (written by mkRGR.py). -/
namespace Go.Ev
open Go Go.Proofs
variable {η:Nat→Value} {B:Bd}
theorem agg_nil{ρ:Env}{a b d x:Value}(h:VR η ρ (.agg ⟨[a,b,d,.slice none 0 0]⟩) x):VR η ρ (.agg ⟨[a,b,d,.slice none 0 9223372036854775808]⟩) x:=by
 cases h with
 | agg h1 h3=>
  refine .agg h1 fun i v y e1 e2=>?_
  match i,e1 with
  | 0,e1=>exact h3 0 v y e1 e2
  | 1,e1=>exact h3 1 v y e1 e2
  | 2,e1=>exact h3 2 v y e1 e2
  | 3,e1=>
   have e3:Value.slice none 0 9223372036854775808=v:=by simpa using e1
   subst e3
   have:=h3 3 (.slice none 0 0) y rfl e2
   cases this with
   | slice0=>exact .sliceE none 0
  | i+4,e1=>simp at e1
theorem CallSpec.nilArg{P:Program}{f:FuncId}{a b d w:Value}{h:AH}{Q:Value→AH→Prop}(c:CallSpec η P B f [.agg ⟨[a,b,d,.slice none 0 9223372036854775808]⟩,w] h Q):CallSpec η P B f [.agg ⟨[a,b,d,.slice none 0 0]⟩,w] h Q:=fun ρ xs u cs l p=>c ρ xs u cs ⟨l.len,fun i v y e1 e2=>by
 match i,e1 with
 | 0,e1=>
  have e3:Value.agg ⟨[a,b,d,.slice none 0 9223372036854775808]⟩=v:=by simpa using e1
  subst e3
  exact agg_nil (l.at_ 0 _ y rfl e2)
 | 1,e1=>exact l.at_ 1 v y e1 e2
 | i+2,e1=>simp at e1⟩ p
namespace RG
end RG
end Go.Ev

namespace Go.Ev
open Go Go.RowKit Go.ChangeShapes Go.WideShapes
variable {P:Program}
def NoLie(P:Program)(T e:TypeId):Prop:=∀ count off n,liesAt P P.depth T count off e n=false
theorem rowAt_no{fits:TypeId→Bool}{row el:TypeId}{m:Nat}{k:IntKind}(h1:P.underlying row=some (.array m el))(h2:P.underlying el=some (.int k))(f1:fits row=false)(f2:fits el=false):∀ d count off n,rowAt P fits d row count off n=false:=by
 have inner:∀ d count off n,rowAt P fits d el count off n=false:=by
  intro d count off n
  cases d with
  | zero=>rfl
  | succ d=>
   unfold rowAt
   simp only [f2,Bool.and_false,Bool.false_or,h2]
   split <;> rfl
 intro d count off n
 cases d with
 | zero=>rfl
 | succ d=>
  unfold rowAt
  simp only [f1,Bool.and_false,Bool.false_or,h1,inner]
  split <;> rfl
theorem NoLie.of{T el e:TypeId}{m:Nat}{k:IntKind}(h1:P.underlying T=some (.array m el))(h2:P.underlying el=some (.int k))(f1:sameLayout P P.depth T e=false)(f2:sameLayout P P.depth el e=false)(he:(match P.underlying e with | some (.array _ _)=>false | _=>true)=true):NoLie P T e:=by
 intro count off n
 generalize hd:P.depth=d at *
 cases d with
 | zero=>rfl
 | succ d=>
  unfold liesAt
  rw [hd,rowAt_no h1 h2 (fits:=fun x=>sameLayout P (d+1) x e) f1 f2]
  split
  ·rename_i q;rw [q] at he;cases he
  ·rfl
def RArg(T:TypeId)(W:World)(v:Value)(n:Nat)(c:List Value):Prop:=
 (n=0∧∃ a cp,v = .slice a 0 cp)∨(0<n∧∃ blk o cap ty,v = .slice (some ⟨blk,o,none⟩) n cap∧isU cap=false∧n≤cap∧ty ≠ T∧RowAt W ⟨ty,c,blk,o⟩)
theorem has_row{T e:TypeId}{w:World}{r:Reach}{base n:Nat}{a:Addr}(hT:NoLie P T e)(h:w.has P r base a e n):a.spot=none∧∃ (C:Array Value) (ty:TypeId) (lo hi:Nat),w.heap[a.block]? = some (.cells C ty (lo,hi))∧ty ≠ T:=by
 obtain⟨_,hs,row,cells,hsh,hl⟩:=h
 refine⟨hs,?_⟩
 unfold World.shape? at hsh
 split at hsh
 ·rename_i C ty fr hh
  obtain⟨lo,hi⟩:=fr
  injection hsh with hsh
  injection hsh with h1 h2
  refine⟨C,ty,lo,hi,hh,fun q=>?_⟩
  rw [← h1,q,hT] at hl;cases hl
 ·cases hsh
theorem cap_le{w:World}{r:Reach}{b0:Nat}{t e:TypeId}{a:Addr}{n c:Nat}(hu:P.underlying t=some (.slice e))(h:Value.okWide P w r b0 t (.slice (some a) n c)):n≤c:=by
 simp only [Value.okWide,hu,Cell.okWide,Cell.ok] at h
 exact h.1
theorem open_row1{T t e:TypeId}{Q:Value→Prop}(hu:P.underlying t=some (.slice e))(hC:P.cellsOf e=1)(hT:NoLie P T e)
  {H:Type} {enc:TypeId × Value→H} {W:World} {r:Reach} {b0 base:Nat} {sp:Nat→Bool} {held:Bool} {v:Value} {d:DataW H} {ps:List MemPlace}
  (hQ:∀ fuel u x,DataW.trod enc P W base sp held fuel e [u]=some x→Q u) (hB:∀ u,Q u→bareV u=true)
  (hval:Value.okWide P W r b0 t v) (h:DataW.Trod enc P W base sp held t v d ps):∃ n c,RArg T W v n c∧c.length=n∧∀ u,u ∈ c→Q u:=by
 obtain⟨p,n,c,rfl⟩:=okWide_slice hu hval
 obtain⟨fuel,hf⟩:=h
 rw [cells_slice'] at hf
 rcases Go.Deep.open_slice1 hu hC hf with⟨hn,_⟩ | ⟨a,len,cap,m,q,V,D,Pl,hcs,hb,hl,hm,hmm,hx,hi⟩
 ·simp at hn
  obtain⟨rfl,rfl,rfl⟩:=hn
  exact⟨0,[],.inl ⟨rfl,_,_,rfl⟩,rfl,fun u hu=>by cases hu⟩
 ·simp at hcs
  obtain⟨rfl,rfl,rfl⟩:=hcs
  cases n with
  | zero=>exact⟨0,[],.inl ⟨rfl,_,_,rfl⟩,rfl,fun u hu=>by cases hu⟩
  | succ n=>
  obtain⟨hsp,C,ty,lo,hi',hblk,hty⟩:=has_row hT (has_of_slice' hu hval)
  have hcl:=cap_le hu hval
  obtain⟨b,o,spot⟩:=a
  simp only at hsp hblk
  subst hsp
  have hlm:n+1≤m:=by rw [hmm];split <;> omega
  refine⟨n+1,(List.range (n+1)).map V,.inr ⟨by omega,b,o,c,ty,rfl,notU hm,hcl,hty,row_at hblk (fun i v hv=>?_) ?_ (by simp)⟩,by simp,fun u hu=>?_⟩
  ·rw [List.getElem?_map,Option.map_eq_some_iff] at hv
   obtain⟨j,hj,rfl⟩:=hv
   rw [List.getElem?_eq_some_iff] at hj
   obtain⟨hj1,rfl⟩:=hj
   rw [List.length_range] at hj1
   rw [List.getElem_range]
   simpa [Go.WideShapes.add_plain] using (hi i (by omega)).1
  ·rw [List.all_eq_true]
   intro u hu
   rw [List.mem_map] at hu
   obtain⟨i,hi1,rfl⟩:=hu
   rw [List.mem_range] at hi1
   exact hB _ (hQ _ _ _ (hi i (by omega)).2)
  ·rw [List.mem_map] at hu
   obtain⟨i,hi1,rfl⟩:=hu
   rw [List.mem_range] at hi1
   exact hQ _ _ _ (hi i (by omega)).2
def prs{α:Type}(f g:α→Value):List α→List Value
 | []=>[]
 | p :: l=>f p :: g p :: prs f g l
theorem prs_len{α:Type}{f g:α→Value}:∀ l:List α,(prs f g l).length=2 * l.length
 | []=>rfl
 | p :: l=>by unfold prs;simp only [List.length_cons,prs_len l];omega
theorem prs_at{α:Type}{f g:α→Value}:∀ {l:List α} {i:Nat} (h:i<l.length),(prs f g l)[2 * i]? = some (f l[i])∧(prs f g l)[2 * i+1]? = some (g l[i])
 | [],i,h=>by simp at h
 | p :: l,0,h=>⟨rfl,rfl⟩
 | p :: l,i+1,h=>by
  have:=prs_at (f:=f) (g:=g) (l:=l) (i:=i) (by simpa using h)
  unfold prs
  rw [show 2 * (i+1)=2 * i+1+1 by omega,List.getElem?_cons_succ,List.getElem?_cons_succ,List.getElem?_cons_succ,List.getElem?_cons_succ]
  exact this
theorem prs_bare{α:Type}{f g:α→Value}(hf:∀ p,bareV (f p)=true)(hg:∀ p,bareV (g p)=true):∀ l:List α,(prs f g l).all bareV=true
 | []=>rfl
 | p :: l=>by unfold prs;rw [List.all_cons,List.all_cons,hf,hg,prs_bare hf hg l];rfl
theorem open_row2{α:Type}[Inhabited α]{f g:α→Value}{T t e:TypeId}{f0 f1:Field}(hu:P.underlying t=some (.slice e))(he:P.underlying e=some (.struct #[f0,f1]))
  (o0:f0.offset=0) (o1:f1.offset=1) (c0:P.cellsOf f0.type=1) (c1:P.cellsOf f1.type=1) (hC:P.cellsOf e=2) (hT:NoLie P T e)
  {H:Type} {enc:TypeId × Value→H} {W:World} {r:Reach} {b0 base:Nat} {sp:Nat→Bool} {held:Bool} {v:Value} {d:DataW H} {ps:List MemPlace}
  (hQ:∀ fuel u x u' x',DataW.trod enc P W base sp held fuel f0.type [u]=some x→DataW.trod enc P W base sp held fuel f1.type [u']=some x'→∃ p,u=f p∧u'=g p) (hf':∀ p,bareV (f p)=true) (hg':∀ p,bareV (g p)=true)
  (hval:Value.okWide P W r b0 t v) (h:DataW.Trod enc P W base sp held t v d ps):∃ l:List α,RArg T W v l.length (prs f g l):=by
 obtain⟨p,n,c,rfl⟩:=okWide_slice hu hval
 obtain⟨fuel,hf⟩:=h
 rw [cells_slice'] at hf
 rcases Go.Deep.open_slice hu hf with⟨hn,_⟩ | ⟨a,len,cap,m,k,D,Pl,hcs,hb,hl,hm,hmm,hx,hi⟩
 ·simp at hn
  obtain⟨rfl,rfl,rfl⟩:=hn
  exact⟨[],.inl ⟨rfl,_,_,rfl⟩⟩
 ·simp at hcs
  obtain⟨rfl,rfl,rfl⟩:=hcs
  cases n with
  | zero=>exact⟨[],.inl ⟨rfl,_,_,rfl⟩⟩
  | succ n=>
  obtain⟨hsp,C,ty,lo,hi',hblk,hty⟩:=has_row hT (has_of_slice' hu hval)
  have hcl:=cap_le hu hval
  obtain⟨b,o,spot⟩:=a
  simp only at hsp hblk
  subst hsp
  have hlm:n+1≤m:=by rw [hmm];split <;> omega
  have hel:∀ i,i<n+1→∃ p:α,W.cell? ⟨b,o+i * 2,none⟩=some (f p)∧W.cell? ⟨b,o+i * 2+1,none⟩=some (g p):=by
   intro i him
   obtain⟨cs,hc,ht⟩:=hi i (by omega)
   rw [hC] at hc
   obtain⟨_,hcl,hat⟩:=World.cells?_some hc
   obtain⟨xs,k',_,_,_,hxl,hg⟩:=DataW.trod_struct he ht
   have g0:=hg 0 f0 rfl
   have g1:=hg 1 f1 rfl
   rw [o0,c0] at g0
   rw [o1,c1] at g1
   match cs,hcl with
   | [u0,u1],_=>
    have hx0:xs[0]? = some (xs[0]'(by simp at hxl;omega)):=List.getElem?_eq_getElem _
    have hx1:xs[1]? = some (xs[1]'(by simp at hxl;omega)):=List.getElem?_eq_getElem _
    rw [hx0] at g0
    rw [hx1] at g1
    obtain⟨p,e0',e1'⟩:=hQ _ _ _ _ _ g0 g1
    have e0:=hat 0 (by omega)
    have e1:=hat 1 (by omega)
    simp at e0 e1
    refine⟨p,?_,?_⟩
    ·rw [← e0'];simpa [Go.WideShapes.add_plain] using e0
    ·rw [← e1'];simpa [Go.WideShapes.add_plain,Nat.add_assoc] using e1
  obtain⟨F,hF⟩:=Go.Deep.choose_lt hel
  refine⟨(List.range (n+1)).map F,?_⟩
  have hlen:((List.range (n+1)).map F).length=n+1:=by simp
  rw [hlen]
  refine .inr ⟨by omega,b,o,c,ty,rfl,notU hm,hcl,hty,row_at hblk (fun i v hv=>?_) (prs_bare hf' hg' _) (by rw [List.range_succ_eq_map];simp [prs])⟩
  have hil:i<2 * (n+1):=by
   have:=(List.getElem?_eq_some_iff.1 hv).1
   rw [prs_len,hlen] at this;exact this
  obtain⟨q1,q2⟩:=prs_at (f:=f) (g:=g) (l:=(List.range (n+1)).map F) (i:=i / 2) (by rw [hlen];omega)
  rw [List.getElem_map,List.getElem_range] at q1 q2
  obtain⟨w1,w2⟩:=hF (i / 2) (by omega)
  rcases Nat.mod_two_eq_zero_or_one i with hm0 | hm1
  ·rw [show 2 * (i / 2)=i by omega] at q1
   rw [q1] at hv;injection hv with hv;subst hv
   rw [show o+i=o+i / 2 * 2 by omega];exact w1
  ·rw [show 2 * (i / 2)+1=i by omega] at q2
   rw [q2] at hv;injection hv with hv;subst hv
   rw [show o+i=o+i / 2 * 2+1 by omega];exact w2
theorem struct_cell{t:TypeId}{fs:Array Field}{ts:List TypeId}(hu:P.underlying t=some (.struct fs))(hts:P.cellTypes P.depth t=some ts){W:World}{r:Reach}{b0:Nat}{cs:Array Value}(hval:Value.okWide P W r b0 t (.agg cs))(hl:cs.size=ts.length){i:Nat}{u:TypeId}{v:Value}(h1:ts[i]? = some u)(h2:cs[i]? = some v):Cell.okWide P W r b0 u v:=by
 simp only [Value.okWide,hu] at hval
 obtain⟨cs',e,_,hr⟩:=hval
 injection e with e
 subst e
 obtain⟨ts',hts',_,hc⟩:=hr
 rw [hts] at hts'
 injection hts' with hts'
 subst hts'
 obtain⟨u',hu',ho⟩:=hc i v h2
 have hi:i<ts.length:=(List.getElem?_eq_some_iff.1 h1).1
 rw [Nat.mod_eq_of_lt hi,h1] at hu'
 injection hu' with hu'
 subst hu';exact ho
theorem slice_okWide{W:World}{r:Reach}{b0:Nat}{t e:TypeId}{v:Value}(hu:P.underlying t=some (.slice e))(h:Cell.okWide P W r b0 t v):Value.okWide P W r b0 t v:=by
 unfold Value.okWide
 rw [hu];exact h
theorem wf_u8{n:Int}(h:(Lit.int .u8 n).wf=true):0≤n∧n<256:=by
 have e1:IntKind.u8.min=0:=by decide
 have e2:IntKind.u8.max=255:=by decide
 simp only [Lit.wf,Bool.and_eq_true,decide_eq_true_eq,e1,e2] at h
 omega
end Go.Ev

/- Rings of backends: the law of an idle backend, over the world. -/
namespace Go.Ev
open Go Go.Proofs Go.RowKit
variable {η:Nat→Value} {B:Bd}
theorem VR.agg4{ρ:Env}{a0 a1 a2 a3 x0 x1 x2 x3:Value}(h0:VR η ρ a0 x0)(h1:VR η ρ a1 x1)(h2:VR η ρ a2 x2)(h3:VR η ρ a3 x3):VR η ρ (.agg ⟨[a0,a1,a2,a3]⟩) (.agg ⟨[x0,x1,x2,x3]⟩):=by
 refine .agg rfl fun i v y e1 e2=>?_
 match i,e1,e2 with
 | 0,e1,e2=>simp at e1 e2;subst e1;subst e2;exact h0
 | 1,e1,e2=>simp at e1 e2;subst e1;subst e2;exact h1
 | 2,e1,e2=>simp at e1 e2;subst e1;subst e2;exact h2
 | 3,e1,e2=>simp at e1 e2;subst e1;subst e2;exact h3
 | i+4,e1,e2=>simp at e1
theorem VR.slot{P:Program}{W:World}{l:List Row}{i blk o n cap:Nat}{ty:TypeId}{c:List Value}(hl:l[i]? = some ⟨ty,c,blk,o⟩)(hc:isU cap=false):VR η (envR P W l) (.slice (some ⟨126+i,0,none⟩) n cap) (.slice (some ⟨blk,o,none⟩) n cap):=by
 have e:envR P W l (126+i)=some (blk,o,sizeB W blk - o):=by
  unfold envR
  rw [if_pos (by omega),Nat.add_sub_cancel_left,hl]
  rfl
 have:=VR.slice (η:=η) (ρ:=envR P W l) (r:=126+i) (o:=0) (b:=blk) (d:=o) (n:=sizeB W blk - o) n cap e hc
 rw [Nat.add_zero] at this
 exact this
theorem all1{α:Type}{p:α→Prop}{a:α}(ha:p a):∀ x,x ∈ [a]→p x:=fun x hx=>by rw [List.mem_singleton] at hx;subst hx;exact ha
theorem all2{α:Type}{p:α→Prop}{a b:α}(ha:p a)(hb:p b):∀ x,x ∈ [a,b]→p x:=fun x hx=>by
 rcases List.mem_cons.1 hx with rfl | hx
 ·exact ha
 ·exact all1 hb x hx
theorem all3{α:Type}{p:α→Prop}{a b c:α}(ha:p a)(hb:p b)(hc:p c):∀ x,x ∈ [a,b,c]→p x:=fun x hx=>by
 rcases List.mem_cons.1 hx with rfl | hx
 ·exact ha
 ·exact all2 hb hc x hx
namespace RG
theorem prs_ptV:∀ l:List (Int × Int),prs (fun p=>.int .u32 p.1) (fun p=>.int .i64 p.2) l=ptV l
 | []=>rfl
 | p :: l=>by unfold prs;rw [prs_ptV l];rfl
theorem rowS_of{c:List Value}{n:Nat}(hn:c.length=n)(h:∀ u,u ∈ c→∃ s,u = .string s):RowS c 0 n:=by
 refine⟨List.all_eq_true.2 fun u hu=>by obtain⟨s,rfl⟩:=h u hu;rfl,fun i hi=>?_⟩
 rw [Nat.zero_add]
 obtain⟨⟨⟨s⟩⟩,e⟩:=h c[i] (List.getElem_mem (by omega))
 have e2:c[i]? = some (.string ⟨⟨s⟩⟩):=by rw [List.getElem?_eq_getElem (by omega),e]
 unfold strAt
 rw [e2]
theorem rowI_of{c:List Value}{n:Nat}(hn:c.length=n)(h:∀ u,u ∈ c→∃ z,u = .int .i64 z):RowI c 0 n:=by
 refine⟨List.all_eq_true.2 fun u hu=>by obtain⟨s,rfl⟩:=h u hu;rfl,fun i hi=>?_⟩
 rw [Nat.zero_add]
 obtain⟨z,e⟩:=h c[i] (List.getElem_mem (by omega))
 have e2:c[i]? = some (.int .i64 z):=by rw [List.getElem?_eq_getElem (by omega),e]
 unfold intAt
 rw [e2]
end RG
end Go.Ev

namespace Go.Ev
open Go Go.Proofs
open Go.Ev.T renaming node → nN, nil → nZ
open Go.Proofs.Tryd (prog)
set_option maxRecDepth 100000
set_option maxHeartbeats 2000000
namespace OPl
noncomputable def bd:Code:=(Go.Proofs.Tryd.f30.body).getD .skip
noncomputable def H0(ty:Nat)(c:List Value)(n cap:Nat)(s:List UInt8):AH:={ objs:=eE nZ (eE nZ (eE nZ (eE nZ (eE nZ (eE nZ (lL (AObj.cells ty c false 0))))))),next:=127 }
noncomputable def E(ty:Nat)(c:List Value)(n cap:Nat)(s:List UInt8):AS:=⟨⟨30,20,nS (sS 126 0 n cap) (lL (Value.string ⟨⟨s⟩⟩)) nZ,[Item.code (codeAt bd [])],[],FrameMode.run,CallKind.normal,none⟩,[],H0 ty c n cap s⟩
theorem enter{η:Nat→Value}{B:Bd}(hη:OneCells η)(hmix:prog.follows .mixedOrders=true)(hreg:RegOk η prog B noNest){D:Value→AH→Prop}(ty:Nat)(c:List Value)(n cap:Nat)(s:List UInt8)(h:let q2:=(FN.fnv IntKind.u32 16777619 (bytesV s) 0 s.length 2166136261);let q1:=(RG.lbN c n q2);let q0:AH:=⟨eE (eE (eE (eE (eE (eE (eE (lL (AObj.cells 5 (bytesV s) false 2)) nZ) nZ) nZ) nZ) nZ) nZ) (eE nZ (eE nZ (eE nZ (eE nZ (eE nZ (lL (AObj.cells ty c false 0))))))),128⟩;W.holds η prog B 30 (fun kp_ st_=>RunD η prog B 30 (H0 ty c n cap s) kp_ st_ (QF prog 127 D)) D (.need (s.length≤(1000000:Nat)) (.call 15 [Value.slice (some ⟨127,0,none⟩) s.length 9223372036854775809] (q0) (.ret (Value.int IntKind.u32 q2) (q0)) (.call 44 [Value.slice (some ⟨126,0,none⟩) n cap,Value.int IntKind.u32 q2,Value.func (Fn.func 45) ⟨[]⟩ ⟨[]⟩] (q0) (.ret (Value.tuple ⟨[Value.int IntKind.i64 (↑q1:Int),Value.bool (RG.lbB c n q2)]⟩) (q0)) (.ite ((↑(RG.lbN c n (FN.fnv IntKind.u32 (16777619:Int) (bytesV s) (0:Nat) s.length (2166136261:Int))):Int) == (↑n:Int)) (.need (NoNames c∧True) (.done 30 (Value.int IntKind.i64 0) (H0 ty c n cap s))) (.need (NoNames c∧True) (.done 30 (Value.int IntKind.i64 (↑q1:Int)) (H0 ty c n cap s)))))))):CallSpec η prog B 30 [Value.slice (some ⟨126,0,none⟩) n cap,Value.string ⟨⟨s⟩⟩] (H0 ty c n cap s) D:=by
 refine CallSpec.ofQF hη (CallSpec.enter (fr:=(E ty c n cap s).fr) (by kernel_rfl) ?_)
 exact walk_okT (h0:=H0 ty c n cap s) hη hmix hreg (.steps 8 <| .op <| .call kN <| .call kN <| .steps 14 <| .bit 18 (.steps 6 <| .done (some ⟨127,[],[(126,(126,true))]⟩)) (.steps 8 <| .done (some ⟨127,[],[(126,(126,true))]⟩))) (E ty c n cap s) (by kernel_rfl) h (by kernel_rfl)
end OPl
namespace OIx
noncomputable def bd:Code:=(Go.Proofs.Tryd.f46.body).getD .skip
noncomputable def H0(ty:Nat)(c:List Value)(n cap:Nat)(x:Int):AH:={ objs:=eE nZ (eE nZ (eE nZ (eE nZ (eE nZ (eE nZ (lL (AObj.cells ty c false 0))))))),next:=127 }
noncomputable def E(ty:Nat)(c:List Value)(n cap:Nat)(x:Int):AS:=⟨⟨46,19,nS (sS 126 0 n cap) (lL (iI x)) nZ,[Item.code (codeAt bd [])],[],FrameMode.run,CallKind.normal,none⟩,[],H0 ty c n cap x⟩
noncomputable def S0(ty:Nat)(c:List Value)(n cap:Nat)(x i0:Int)(d:Nat→Value):AS:=⟨⟨46,19,nS (sS 126 0 n cap) (nS (iI x) (nS (d 3) (nS (iI (↑n:Int)) (lL (d 15)) nZ) (lL (d 11))) (nS (d 5) (nS (d 9) (lL (d 17)) nZ) (lL (d 13)))) (nS (d 2) (nS (d 4) (nS (iI i0) (lL (d 16)) nZ) (lL (d 12))) (nS (d 6) (nS (d 10) (lL (d 18)) nZ) (lL (d 14)))),[Item.code (codeAt bd [1,0,1,0,0]),Item.inLoop (codeAt bd [1,0,1,0,0]),Item.inBlock 0,Item.code (codeAt bd [1,1])],[],FrameMode.run,CallKind.normal,none⟩,[],⟨eE nZ (eE nZ (eE nZ (eE nZ (eE nZ (eE nZ (lL (AObj.cells ty c false 0))))))),127⟩⟩
theorem enter{η:Nat→Value}{B:Bd}(hη:OneCells η)(hmix:prog.follows .mixedOrders=true)(hreg:RegOk η prog B noNest){D:Value→AH→Prop}(ty:Nat)(c:List Value)(n cap:Nat)(x:Int)(h:W.holds η prog B 46 (fun kp_ st_=>RunD η prog B 46 (H0 ty c n cap x) kp_ st_ (QF prog 127 D)) D (.stop [0,1,7,8] (S0 ty c n cap x (0) (fun _=>undef)))):CallSpec η prog B 46 [Value.slice (some ⟨126,0,none⟩) n cap,Value.int IntKind.i64 x] (H0 ty c n cap x) D:=by
 refine CallSpec.ofQF hη (CallSpec.enter (fr:=(E ty c n cap x).fr) (by kernel_rfl) ?_)
 exact walk_okT (h0:=H0 ty c n cap x) hη hmix hreg (.steps 13 <| .stop [0,1,7,8] none) (E ty c n cap x) (by kernel_rfl) h (by kernel_rfl)
theorem cut0{η:Nat→Value}{B:Bd}(hη:OneCells η)(hmix:prog.follows .mixedOrders=true)(hreg:RegOk η prog B noNest){D:Value→AH→Prop}(ty:Nat)(c:List Value)(n cap:Nat)(x i0:Int)(h:W.holds η prog B 46 (fun kp_ st_=>RunD η prog B 46 (H0 ty c n cap x) kp_ st_ (QF prog 127 D)) D (.ite (decide (i0<(↑n:Int))) (.need ((0:Int)≤i0∧i0<(↑n:Int)) (.need (c[(0:Nat)+i0.toNat * (1:Nat)]? = some (Value.int IntKind.i64 (intAt c ((0:Nat)+i0.toNat * (1:Nat))))) (.ite (x == intAt c ((0:Nat)+i0.toNat * (1:Nat))) (.done 46 (Value.int IntKind.i64 i0) (H0 ty c n cap x)) (.stop [0,1,7,8] (S0 ty c n cap x (IntKind.i64.wrap (i0+1)) (fun _=>undef)))))) (.done 46 (Value.int IntKind.i64 (-1)) (H0 ty c n cap x)))):RunD η prog B 46 (H0 ty c n cap x) [0,1,7,8] (S0 ty c n cap x i0 fun _=>undef) (QF prog 127 D):=by
 refine RunD.intro (S0 ty c n cap x i0) (fun d=>⟨rfl,rfl,rfl⟩) (fun d=>tmOk_get (by kernel_rfl)) (fun d=>by kernel_rfl) (fun d=>?_)
 exact walk_okT (h0:=H0 ty c n cap x) hη hmix hreg (.steps 5 <| .bit 9 (.steps 14 <| .op <| .op <| .steps 2 <| .bit 16 (.steps 7 <| .done none) (.steps 8 <| .stop [0,1,7,8] none)) (.steps 7 <| .done none)) (S0 ty c n cap x i0 d) (by kernel_rfl) h (by kernel_rfl)
end OIx
namespace OCi
noncomputable def bd:Code:=(Go.Proofs.Tryd.f31.body).getD .skip
noncomputable def H0(ty:Nat)(c:List Value)(n cap:Nat)(x:Int):AH:={ objs:=eE nZ (eE nZ (eE nZ (eE nZ (eE nZ (eE nZ (lL (AObj.cells ty c false 0))))))),next:=127 }
noncomputable def E(ty:Nat)(c:List Value)(n cap:Nat)(x:Int):AS:=⟨⟨31,9,nS (sS 126 0 n cap) (lL (iI x)) nZ,[Item.code (codeAt bd [])],[],FrameMode.run,CallKind.normal,none⟩,[],H0 ty c n cap x⟩
theorem enter{η:Nat→Value}{B:Bd}(hη:OneCells η)(hmix:prog.follows .mixedOrders=true)(hreg:RegOk η prog B noNest){D:Value→AH→Prop}(ty:Nat)(c:List Value)(n cap:Nat)(x:Int)(h:let q0:AH:=⟨eE nZ (eE nZ (eE nZ (eE nZ (eE nZ (eE nZ (lL (AObj.cells ty c false 0))))))),127⟩;W.holds η prog B 31 (fun kp_ st_=>RunD η prog B 31 (H0 ty c n cap x) kp_ st_ (QF prog 127 D)) D (.call 46 [Value.slice (some ⟨126,0,none⟩) n cap,Value.int IntKind.i64 x] (q0) (.ret (Value.int IntKind.i64 (RG.ixI c x n)) (q0)) (.done 31 (Value.bool (decide (RG.ixI c x n ≥ 0))) (H0 ty c n cap x)))):CallSpec η prog B 31 [Value.slice (some ⟨126,0,none⟩) n cap,Value.int IntKind.i64 x] (H0 ty c n cap x) D:=by
 refine CallSpec.ofQF hη (CallSpec.enter (fr:=(E ty c n cap x).fr) (by kernel_rfl) ?_)
 exact walk_okT (h0:=H0 ty c n cap x) hη hmix hreg (.steps 8 <| .call kN <| .steps 4 <| .done none) (E ty c n cap x) (by kernel_rfl) h (by kernel_rfl)
end OCi
namespace OCn
noncomputable def bd:Code:=(Go.Proofs.Tryd.f31.body).getD .skip
noncomputable def H0(x:Int):AH:={ objs:=nZ,next:=126 }
noncomputable def E(x:Int):AS:=⟨⟨31,9,nS (Value.slice none 0 0) (lL (iI x)) nZ,[Item.code (codeAt bd [])],[],FrameMode.run,CallKind.normal,none⟩,[],H0 x⟩
theorem enter{η:Nat→Value}{B:Bd}(hη:OneCells η)(hmix:prog.follows .mixedOrders=true)(hreg:RegOk η prog B noNest){D:Value→AH→Prop}(x:Int)(h:W.holds η prog B 31 (fun kp_ st_=>RunD η prog B 31 (H0 x) kp_ st_ (QF prog 126 D)) D (.done 31 (Value.bool false) (H0 x))):CallSpec η prog B 31 [Value.slice none 0 0,Value.int IntKind.i64 x] (H0 x) D:=by
 refine CallSpec.ofQF hη (CallSpec.enter (fr:=(E x).fr) (by kernel_rfl) ?_)
 exact walk_okT (h0:=H0 x) hη hmix hreg (.steps 39 <| .done none) (E x) (by kernel_rfl) h (by kernel_rfl)
end OCn
end Go.Ev

namespace Go.Ev
open Go Go.Proofs
open Go.Ev.T renaming node → nN, nil → nZ
open Go.Proofs.Tryd (prog)
set_option maxRecDepth 100000
set_option maxHeartbeats 2000000
namespace OOr
noncomputable def bd:Code:=(Go.Proofs.Tryd.f22.body).getD .skip
noncomputable def H0(ty:Nat)(c:List Value)(n cap:Nat)(s:List UInt8):AH:={ objs:=eE nZ (eE nZ (eE nZ (eE nZ (eE nZ (eE nZ (lL (AObj.cells ty c false 0))))))),next:=127 }
noncomputable def E(ty:Nat)(c:List Value)(n cap:Nat)(s:List UInt8):AS:=⟨⟨22,37,nS (sS 126 0 n cap) (lL (Value.string ⟨⟨s⟩⟩)) nZ,[Item.code (codeAt bd [])],[],FrameMode.run,CallKind.normal,none⟩,[],H0 ty c n cap s⟩
noncomputable def S0(ty:Nat)(c:List Value)(n cap:Nat)(s:List UInt8) (d:Nat→Value):AS:=⟨⟨22,37,nS (sS 126 0 n cap) (nS (d 1) (nS (d 3) (nS (d 7) (nS (d 15) (lL (d 31)) nZ) (lL (d 23))) (nS (d 11) (nS (d 19) (lL (d 35)) nZ) (lL (d 27)))) (nS (Value.slice none 0 0) (nS (d 9) (nS (d 17) (lL (d 33)) nZ) (lL (d 25))) (nS (iI (↑n:Int)) (lL (d 21)) (lL (d 29))))) (nS (d 2) (nS (d 4) (nS (d 8) (nS (d 16) (lL (d 32)) nZ) (lL (d 24))) (nS (d 12) (nS (d 20) (lL (d 36)) nZ) (lL (d 28)))) (nS (iI (↑(RG.plN c n s):Int)) (nS (d 10) (nS (d 18) (lL (d 34)) nZ) (lL (d 26))) (nS (iI 0) (lL (d 22)) (lL (d 30))))),[Item.code (codeAt bd [1,1,1,0,1,0,0]),Item.inLoop (codeAt bd [1,1,1,0,1,0,0]),Item.inBlock 0,Item.code (codeAt bd [1,1,1,1])],[],FrameMode.run,CallKind.normal,none⟩,[],⟨eE nZ (eE nZ (eE nZ (eE nZ (eE nZ (eE nZ (lL (AObj.cells ty c false 0))))))),127⟩⟩
noncomputable def S1(ty:Nat)(c:List Value)(n cap:Nat)(s:List UInt8)(n0:Nat)(i0:Int)(l0:List Value)(d:Nat→Value):AS:=⟨⟨22,37,nS (sS 126 0 n cap) (nS (d 1) (nS (d 3) (nS (d 7) (nS (d 15) (lL (d 31)) nZ) (lL (d 23))) (nS (d 11) (nS (d 19) (lL (d 35)) nZ) (lL (d 27)))) (nS (sS 127 0 n0 9223372036854775809) (nS (d 9) (nS (d 17) (lL (d 33)) nZ) (lL (d 25))) (nS (iI (↑n:Int)) (lL (d 21)) (lL (d 29))))) (nS (d 2) (nS (d 4) (nS (d 8) (nS (d 16) (lL (d 32)) nZ) (lL (d 24))) (nS (d 12) (nS (d 20) (lL (d 36)) nZ) (lL (d 28)))) (nS (iI (↑(RG.plN c n s):Int)) (nS (d 10) (nS (d 18) (lL (d 34)) nZ) (lL (d 26))) (nS (iI i0) (lL (d 22)) (lL (d 30))))),[Item.code (codeAt bd [1,1,1,0,1,0,0]),Item.inLoop (codeAt bd [1,1,1,0,1,0,0]),Item.inBlock 0,Item.code (codeAt bd [1,1,1,1])],[],FrameMode.run,CallKind.normal,none⟩,[],⟨eE (eE (eE (eE (eE (eE (eE (lL (AObj.cells 3 l0 false 2)) nZ) nZ) nZ) nZ) nZ) nZ) (eE nZ (eE nZ (eE nZ (eE nZ (eE nZ (lL (AObj.cells ty c false 0))))))),128⟩⟩
theorem enter{η:Nat→Value}{B:Bd}(hη:OneCells η)(hmix:prog.follows .mixedOrders=true)(hreg:RegOk η prog B noNest){D:Value→AH→Prop}(ty:Nat)(c:List Value)(n cap:Nat)(s:List UInt8)(h:let q0:AH:=⟨eE nZ (eE nZ (eE nZ (eE nZ (eE nZ (eE nZ (lL (AObj.cells ty c false 0))))))),127⟩;W.holds η prog B 22 (fun kp_ st_=>RunD η prog B 22 (H0 ty c n cap s) kp_ st_ (QF prog 127 D)) D (.call 30 [Value.slice (some ⟨126,0,none⟩) n cap,Value.string ⟨⟨s⟩⟩] (q0) (.ret (Value.int IntKind.i64 (↑(RG.plN c n s):Int)) (q0)) (.stop [0,5,6,13,14] (S0 ty c n cap s  (fun _=>undef))))):CallSpec η prog B 22 [Value.slice (some ⟨126,0,none⟩) n cap,Value.string ⟨⟨s⟩⟩] (H0 ty c n cap s) D:=by
 refine CallSpec.ofQF hη (CallSpec.enter (fr:=(E ty c n cap s).fr) (by kernel_rfl) ?_)
 exact walk_okT (h0:=H0 ty c n cap s) hη hmix hreg (.steps 12 <| .call kN <| .steps 11 <| .stop [0,5,6,13,14] none) (E ty c n cap s) (by kernel_rfl) h (by kernel_rfl)
theorem cut0{η:Nat→Value}{B:Bd}(hη:OneCells η)(hmix:prog.follows .mixedOrders=true)(hreg:RegOk η prog B noNest){D:Value→AH→Prop}(ty:Nat)(c:List Value)(n cap:Nat)(s:List UInt8) (h:let q3:=(IntKind.i64.wrap ((↑(RG.plN c n s):Int)+(0:Int)));let q2:=(q3.tmod (↑n:Int));let q1:=(intAt c (0+((IntKind.i64.wrap ((↑(RG.plN c n s):Int)+0)).tmod (↑n:Int)).toNat * 2+1));let q0:AH:=⟨eE nZ (eE nZ (eE nZ (eE nZ (eE nZ (eE nZ (lL (AObj.cells ty c false 0))))))),127⟩;W.holds η prog B 22 (fun kp_ st_=>RunD η prog B 22 (H0 ty c n cap s) kp_ st_ (QF prog 127 D)) D (.ite (decide ((0:Int)<(↑n:Int))) (.need ((↑n:Int) ≠ (0:Int)) (.need ((0:Int)≤q3.tmod (↑n:Int)∧q3.tmod (↑n:Int)<(↑n:Int)) (.need (c[(0:Nat)+q2.toNat * (2:Nat)+(1:Nat)]? = some (Value.int IntKind.i64 (intAt c ((0:Nat)+q2.toNat * (2:Nat)+(1:Nat))))) (.call 31 [Value.slice none 0 0,Value.int IntKind.i64 q1] (q0) (.ret (Value.bool false) (q0)) (.need (NoNames c∧True∧True) (.stop [0,5,6,13,14] (S1 ty c n cap s (1) (1) ([Value.int IntKind.i64 q1]) (fun _=>undef)))))))) (.done 22 (Value.slice none 0 0) (H0 ty c n cap s)))):RunD η prog B 22 (H0 ty c n cap s) [0,5,6,13,14] (S0 ty c n cap s  fun _=>undef) (QF prog 127 D):=by
 refine RunD.intro (S0 ty c n cap s) (fun d=>⟨rfl,rfl,rfl⟩) (fun d=>tmOk_get (by kernel_rfl)) (fun d=>by kernel_rfl) (fun d=>?_)
 exact walk_okT (h0:=H0 ty c n cap s) hη hmix hreg (.steps 5 <| .bit 15 (.steps 17 <| .op <| .op <| .steps 1 <| .op <| .steps 6 <| .call kN <| .steps 16 <| .stop [0,5,6,13,14] (some ⟨128,[(128,127)],[(126,(126,true)),(127,(128,false))]⟩)) (.steps 8 <| .done none)) (S0 ty c n cap s  d) (by kernel_rfl) h (by kernel_rfl)
theorem cut1{η:Nat→Value}{B:Bd}(hη:OneCells η)(hmix:prog.follows .mixedOrders=true)(hreg:RegOk η prog B noNest){D:Value→AH→Prop}(ty:Nat)(c:List Value)(n cap:Nat)(s:List UInt8)(n0:Nat)(i0:Int)(l0:List Value)(h:let q3:=(IntKind.i64.wrap ((↑(RG.plN c n s):Int)+i0));let q2:=(intAt c (0+(q3.tmod (↑n:Int)).toNat * 2+1));let q1:=(intAt c ((0:Nat)+(q3.tmod (↑n:Int)).toNat * (2:Nat)+(1:Nat)));let q0:AH:=⟨eE (eE (eE (eE (eE (eE (eE (lL (AObj.cells 3 l0 false 2)) nZ) nZ) nZ) nZ) nZ) nZ) (eE nZ (eE nZ (eE nZ (eE nZ (eE nZ (lL (AObj.cells ty c false 0))))))),128⟩;W.holds η prog B 22 (fun kp_ st_=>RunD η prog B 22 (H0 ty c n cap s) kp_ st_ (QF prog 127 D)) D (.ite (decide (i0<(↑n:Int))) (.need ((↑n:Int) ≠ (0:Int)) (.need ((0:Int)≤q3.tmod (↑n:Int)∧q3.tmod (↑n:Int)<(↑n:Int)) (.need (c[(0:Nat)+(q3.tmod (↑n:Int)).toNat * (2:Nat)+(1:Nat)]? = some (Value.int IntKind.i64 q1)) (.call 31 [Value.slice (some ⟨127,0,none⟩) n0 9223372036854775809,Value.int IntKind.i64 q2] (q0) (.ret (Value.bool (decide (0≤RG.ixI l0 q2 n0))) (q0)) (.ite (!decide ((0:Int)≤RG.ixI l0 q1 n0)) (.need ((1:Nat)≤(1:Nat)∧l0.length=n0 * (1:Nat)∧n0+(1:Nat)≤(1000000:Nat)∧(1:Nat)=(1:Nat)∧true=true) (.need (NoNames c∧NoNames (l0 ++ [Value.int IntKind.i64 q1])∧True) (.stop [0,5,6,13,14] (S1 ty c n cap s (n0+1) (IntKind.i64.wrap (i0+1)) (l0 ++ [Value.int IntKind.i64 q2]) (fun _=>undef))))) (.stop [0,5,6,13,14] (S1 ty c n cap s (n0) (IntKind.i64.wrap (i0+1)) (l0) (fun _=>undef)))))))) (.done 22 (Value.slice (some ⟨127,0,none⟩) n0 9223372036854775809) (q0)))):RunD η prog B 22 (H0 ty c n cap s) [0,5,6,13,14] (S1 ty c n cap s n0 i0 l0 fun _=>undef) (QF prog 127 D):=by
 refine RunD.intro (S1 ty c n cap s n0 i0 l0) (fun d=>⟨rfl,rfl,rfl⟩) (fun d=>tmOk_get (by kernel_rfl)) (fun d=>by kernel_rfl) (fun d=>?_)
 exact walk_okT (h0:=H0 ty c n cap s) hη hmix hreg (.steps 5 <| .bit 15 (.steps 17 <| .op <| .op <| .steps 1 <| .op <| .steps 6 <| .call kN <| .steps 2 <| .bit 30 (.steps 5 <| .op <| .steps 8 <| .stop [0,5,6,13,14] (some ⟨128,[(129,127)],[(126,(126,true)),(127,(129,true))]⟩)) (.steps 8 <| .stop [0,5,6,13,14] none)) (.steps 8 <| .done none)) (S1 ty c n cap s n0 i0 l0 d) (by kernel_rfl) h (by kernel_rfl)
end OOr
end Go.Ev

/- Rings of backends: the order of a key. -/
namespace Go.Ev
open Go Go.Proofs
variable {η:Nat→Value} {B:Bd}
namespace RG
theorem ixI_can(hη:OneCells η)(hmix:Tryd.prog.follows .mixedOrders=true){ty n cap:Nat}{c:List Value}{x:Int}(hc:RowI c 0 n)(hn:n≤1000000) :
  CallSpec η Tryd.prog B 46 [.slice (some ⟨126,0,none⟩) n cap,.int .i64 x] (heapT [(ty,c)]) fun v h=>v = .int .i64 (ixI c x n)∧h=heapT [(ty,c)]:=by
 have e0:OIx.H0 ty c n cap x=heapT [(ty,c)]:=rfl
 rw [← e0]
 have cut:=fun i0=>OIx.cut0 (η:=η) (B:=B) (D:=fun v h=>v = .int .i64 (ixI c x n)∧h=OIx.H0 ty c n cap x) hη hmix (reg0 hη hmix) ty c n cap x i0
 refine OIx.enter hη hmix (reg0 hη hmix) _ _ _ _ _ ?_
 simp only [W.holds,true_and,and_true,decide_eq_true_eq,decide_eq_false_iff_not,Nat.mul_one,true_implies,Nat.zero_add] at cut ⊢
 have loop:∀ (m i:Nat),i+m=n→fstIx (fun i=>x == intAt c i) m i=ixI c x n→RunD η Tryd.prog B 46 (OIx.H0 ty c n cap x) [0,1,7,8] (OIx.S0 ty c n cap x (i:Int) fun _=>undef) (QF Tryd.prog 127 fun v h=>v = .int .i64 (ixI c x n)∧h=OIx.H0 ty c n cap x):=by
  intro m
  induction m with
  | zero=>
   intro i hi he
   exact cut _ ⟨fun q=>by omega,fun _=>by rw [← he];rfl⟩
  | succ m ih=>
   intro i hi he
   have c1:=cut (i:Int)
   simp only [w1 i (by omega),Int.toNat_natCast] at c1
   have he2:fstIx (fun i=>x == intAt c i) (m+1) i=if(fun i=>x == intAt c i) i then(i:Int) else fstIx (fun i=>x == intAt c i) m (i+1):=rfl
   rw [he2] at he
   simp only at he
   have hci:=hc.2 i (by omega)
   rw [Nat.zero_add] at hci
   refine c1 ⟨fun _=>⟨⟨by omega,by omega⟩,fun _=>⟨hci,fun _=>⟨fun h=>?_,fun h=>ih (i+1) (by omega) ?_⟩⟩⟩,fun q=>by omega⟩
   ·rw [← he,if_pos h]
   ·rw [← he,if_neg (by rw [h];decide)]
 exact loop n 0 (by omega) (by unfold ixI;rfl)
theorem ciI_any(hη:OneCells η)(hmix:Tryd.prog.follows .mixedOrders=true){H:AH}{r ty n cap own:Nat}{c:List Value}{x:Int}(hr:H.objs.get r=some (.cells ty c false own))(hc:RowI c 0 n)(hn:n≤1000000) :
  CallSpec η Tryd.prog B 31 [.slice (some ⟨r,0,none⟩) n cap,.int .i64 x] H (KT.ret (.bool (decide (0≤ixI c x n))) H).sat:=by
 refine CallSpec.pureR (l:=[(ty,c)]) (rn:=fun _=>r) (args:=[.slice (some ⟨126,0,none⟩) n cap,.int .i64 x]) hη FN.gs9 (FN.rowsIn1 hr hc.1) (.cons (.slice (σ:=sigR fun _=>r) _ _ (by simp)) (.cons (.int _ _) .nil)) (fun _ _=>.bool _) ?_
 refine OCi.enter hη hmix (reg0 hη hmix) _ _ _ _ _ ?_
 simp only [W.holds,true_and,and_true,true_implies]
 exact⟨ixI_can hη hmix hc hn,rfl⟩
theorem ciN_any(hη:OneCells η)(hmix:Tryd.prog.follows .mixedOrders=true){H:AH}{x:Int} :
  CallSpec η Tryd.prog B 31 [.slice none 0 0,.int .i64 x] H (KT.ret (.bool false) H).sat:=by
 refine CallSpec.pureR (l:=[]) (rn:=fun _=>0) (args:=[.slice none 0 0,.int .i64 x]) hη FN.gs9 ⟨fun i x hi=>by simp at hi,fun i j hi=>by simp at hi⟩ (.cons (.slice0 _ _) (.cons (.int _ _) .nil)) (fun _ _=>.bool _) ?_
 refine OCn.enter hη hmix (reg0 hη hmix) _ ?_
 simp only [W.holds,true_and,and_true,true_implies]
 rfl
theorem plN_eq(l:List (Int × Int))(s:List UInt8):plN (ptV l) l.length s=plL l (hsK s):=by unfold plN;rw [ptsOf_ptV];rfl
theorem pl_can(hη:OneCells η)(hmix:Tryd.prog.follows .mixedOrders=true){ty cap:Nat}{l:List (Int × Int)}{s:List UInt8}(hll:l.length≤1000000)(hs:s.length≤1000)(hsort:l.Pairwise fun p q=>p.1≤q.1) :
  CallSpec η Tryd.prog B 30 [.slice (some ⟨126,0,none⟩) l.length cap,.string ⟨⟨s⟩⟩] (heapT [(ty,ptV l)]) fun v h=>v = .int .i64 (plL l (hsK s):Int)∧h=heapT [(ty,ptV l)]:=by
 have nl:=nn_of (ptV_bare l)
 have elb:lbN (ptV l) l.length (hsK s)=lbL l (hsK s):=by unfold lbN;rw [ptsOf_ptV]
 have eK:FN.fnv .u32 16777619 (bytesV s) 0 s.length 2166136261=hsK s:=rfl
 have sm:=fun (H:AH) (hr:H.objs.get 127=some (.cells 5 (bytesV s) false 2))=>FN.onV_any (B:=B) (cap:=capU 1) hη (pre:=[]) hr (FN.row_bytes s) (fun _ _=>.nil) (FN.HS3_can hη hmix (FN.row_bytes s) (by omega))
 have bi:=fun (H:AH) hr=>bin_any (B:=B) (H:=H) (r:=126) (ty:=ty) (own:=0) (cap:=cap) (x:=hsK s) hη hmix hr hll hsort
 simp only [elb] at bi
 refine OPl.enter hη hmix (reg0 hη hmix) _ _ _ _ _ ?_
 simp only [W.holds,true_and,and_true,true_implies,beq_iff_eq,beq_eq_false_iff_ne,ne_eq,eK,elb]
 refine⟨by omega,fun _=>⟨sm _ (by kernel_rfl),bi _ (by kernel_rfl),fun he=>⟨nl,fun _=>⟨?_,rfl⟩⟩,fun he=>⟨nl,fun _=>⟨?_,rfl⟩⟩⟩⟩
 ·unfold plL;rw [if_pos (by omega)];rfl
 ·unfold plL;rw [if_neg (by omega)]
theorem pl_any(hη:OneCells η)(hmix:Tryd.prog.follows .mixedOrders=true){H:AH}{r ty cap own:Nat}{l:List (Int × Int)}{s:List UInt8}(hr:H.objs.get r=some (.cells ty (ptV l) false own))(hll:l.length≤1000000)(hs:s.length≤1000)(hsort:l.Pairwise fun p q=>p.1≤q.1) :
  CallSpec η Tryd.prog B 30 [.slice (some ⟨r,0,none⟩) l.length cap,.string ⟨⟨s⟩⟩] H (KT.ret (.int .i64 (plL l (hsK s):Int)) H).sat:=
 CallSpec.pureR (l:=[(ty,ptV l)]) (rn:=fun _=>r) (args:=[.slice (some ⟨126,0,none⟩) l.length cap,.string ⟨⟨s⟩⟩]) hη FN.gs9 (FN.rowsIn1 hr (ptV_bare l)) (.cons (.slice (σ:=sigR fun _=>r) _ _ (by simp)) (.cons (.string _) .nil)) (fun _ _=>.int _ _) (pl_can hη hmix hll hs hsort)
theorem intV_row(a:List Int):RowI (intV a) 0 a.length:=by
 refine⟨List.all_eq_true.2 fun v hv=>?_,fun i hi=>?_⟩
 ·unfold intV at hv
  obtain⟨z,_,rfl⟩:=List.mem_map.1 hv;rfl
 ·have e:(intV a)[0+i]? = some (.int .i64 a[i]):=by
   unfold intV
   rw [Nat.zero_add,List.getElem?_map,List.getElem?_eq_getElem hi];rfl
  unfold intAt
  rw [e]
theorem intV_at{a:List Int}{i:Nat}(hi:i<a.length):intAt (intV a) i=a[i]:=by
 unfold intAt intV
 rw [List.getElem?_map,List.getElem?_eq_getElem hi];rfl
theorem ixI_mem(a:List Int)(x:Int):(0≤ixI (intV a) x a.length) ↔ x ∈ a:=by
 have h:=fstIx_neg (fun i=>x == intAt (intV a) i) a.length 0
 have e:ixI (intV a) x a.length=fstIx (fun i=>x == intAt (intV a) i) a.length 0:=by unfold ixI;rfl
 rw [e]
 refine⟨fun q=>?_,fun q=>?_⟩
 ·refine Decidable.byContradiction fun hn=>?_
  have:=h.2 fun j _ hj=>by
   have hj:j<a.length:=by omega
   show(x == intAt (intV a) j)=false
   rw [intV_at hj,beq_eq_false_iff_ne]
   exact fun e=>hn (e ▸ List.getElem_mem hj)
  omega
 ·refine Decidable.byContradiction fun hn=>?_
  have h2:=h.1 (by omega)
  obtain⟨j,hj,e⟩:=List.mem_iff_getElem.1 q
  have:(x == intAt (intV a) j)=false:=h2 j (by omega) (by omega)
  rw [intV_at hj,beq_eq_false_iff_ne] at this
  exact this e.symm
set_option maxHeartbeats 4000000 in
theorem ord_can(hη:OneCells η)(hmix:Tryd.prog.follows .mixedOrders=true){ty cap:Nat}{l:List (Int × Int)}{s:List UInt8}(hne:l ≠ [])(hll:l.length≤100000)(hs:s.length≤1000)(hsort:l.Pairwise fun p q=>p.1≤q.1) :
  CallSpec η Tryd.prog B 22 [.slice (some ⟨126,0,none⟩) l.length cap,.string ⟨⟨s⟩⟩] (heapT [(ty,ptV l)]) fun v h=>v = .slice (some ⟨127,0,none⟩) (ordL l (hsK s)).length (capU 1)∧h=withRow (heapT [(ty,ptV l)]) 3 (intV (ordL l (hsK s))) false:=by
 have nl:=nn_of (ptV_bare l)
 have hpos:0<l.length:=List.length_pos_iff.2 hne
 have hpl:plL l (hsK s)<l.length:=by
  have:=lb_le l (hsK s)
  unfold plL;split <;> omega
 have pl:=fun (H:AH) hr=>pl_any (B:=B) (H:=H) (r:=126) (ty:=ty) (own:=0) (cap:=cap) (s:=s) hη hmix hr (by omega:l.length≤1000000) hs hsort
 have cut0:=OOr.cut0 (η:=η) (B:=B) (D:=fun v h=>v = .slice (some ⟨127,0,none⟩) (ordL l (hsK s)).length (capU 1)∧h=withRow (heapT [(ty,ptV l)]) 3 (intV (ordL l (hsK s))) false) hη hmix (reg0 hη hmix) ty (ptV l) l.length cap s
 have cut1:=fun n0 i0 l0=>OOr.cut1 (η:=η) (B:=B) (D:=fun v h=>v = .slice (some ⟨127,0,none⟩) (ordL l (hsK s)).length (capU 1)∧h=withRow (heapT [(ty,ptV l)]) 3 (intV (ordL l (hsK s))) false) hη hmix (reg0 hη hmix) ty (ptV l) l.length cap s n0 i0 l0
 refine OOr.enter hη hmix (reg0 hη hmix) _ _ _ _ _ ?_
 simp only [W.holds,true_and,and_true,true_implies,plN_eq,decide_eq_true_eq,decide_eq_false_iff_not,Nat.mul_one,Nat.zero_add,Bool.not_eq_true',Bool.not_eq_false'] at cut0 cut1 ⊢
 have tm:∀ i:Nat,i<l.length→(IntKind.i64.wrap ((plL l (hsK s):Int)+(i:Int))).tmod (l.length:Int)=(((plL l (hsK s)+i) % l.length:Nat):Int):=fun i hi=>by
  rw [wrap_small (by omega) (by omega),← Int.natCast_add]
  exact(Int.ofNat_tmod _ _).symm
 have ml:∀ i:Nat,(plL l (hsK s)+i) % l.length<l.length:=fun i=>Nat.mod_lt _ hpos
 have gt:∀ {j:Nat} (h:j<l.length),(ptV l)[j * 2+1]? = some (.int .i64 (intAt (ptV l) (j * 2+1)))∧intAt (ptV l) (j * 2+1)=l[j].2:=fun {j} h=>by
  obtain⟨_,g2⟩:=ptV_get l h
  obtain⟨_,_,_,g4⟩:=pt_at h
  exact⟨by rw [g2,g4],g4⟩
 have gd:∀ i:Nat,(l[(plL l (hsK s)+i) % l.length]?.getD (0,0)).2=(l[(plL l (hsK s)+i) % l.length]'(ml i)).2:=fun i=>by rw [List.getElem?_eq_getElem (ml i)];rfl
 have loop:∀ (m i:Nat) (a:List Int),i+m=l.length→a.length≤i→ordF l (plL l (hsK s)) m i a=ordL l (hsK s)→RunD η Tryd.prog B 22 (OOr.H0 ty (ptV l) l.length cap s) [0,5,6,13,14] (OOr.S1 ty (ptV l) l.length cap s a.length (i:Int) (intV a) fun _=>undef) (QF Tryd.prog 127 fun v h=>v = .slice (some ⟨127,0,none⟩) (ordL l (hsK s)).length (capU 1)∧h=withRow (heapT [(ty,ptV l)]) 3 (intV (ordL l (hsK s))) false):=by
  intro m
  induction m with
  | zero=>
   intro i a hi ha he
   refine cut1 _ _ _ ⟨fun q=>by omega,fun _=>?_⟩
   have he:a=ordL l (hsK s):=he
   rw [← he]
   exact⟨rfl,by kernel_rfl⟩
  | succ m ih=>
   intro i a hi ha he
   have c1:=cut1 a.length (i:Int) (intV a)
   simp only [w1 i (by omega),tm i (by omega),Int.toNat_natCast,(gt (ml i)).2] at c1
   unfold ordF at he
   rw [gd i] at he
   have g1:=(gt (ml i)).1
   rw [(gt (ml i)).2] at g1
   have hlen:(intV a).length=a.length:=by unfold intV;rw [List.length_map]
   refine c1 ⟨fun _=>⟨by omega,fun _=>⟨⟨by omega,by have:=ml i;omega⟩,fun _=>⟨g1,fun _=>⟨ciI_any (r:=127) (ty:=3) (own:=2) hη hmix (by kernel_rfl) (intV_row a) (by omega),fun hno=>⟨⟨Nat.le_refl _,hlen,by omega⟩,fun _=>⟨⟨nl,nn_of (by rw [List.all_append,(intV_row a).1];rfl)⟩,fun _=>?_⟩⟩,fun hyes=>?_⟩⟩⟩⟩,fun q=>by omega⟩
   ·rw [ixI_mem] at hno
    rw [if_neg hno] at he
    have:=ih (i+1) _ (by omega) (by rw [List.length_append,List.length_singleton];omega) he
    rw [List.length_append,List.length_singleton] at this
    have e:intV (a ++ [(l[(plL l (hsK s)+i) % l.length]'(ml i)).2])=intV a ++ [.int .i64 (l[(plL l (hsK s)+i) % l.length]'(ml i)).2]:=by unfold intV;rw [List.map_append];rfl
    rw [e] at this
    exact this
   ·rw [ixI_mem] at hyes
    rw [if_pos hyes] at he
    exact ih (i+1) a (by omega) (by omega) he
 have t0:=tm 0 hpos
 rw [Nat.add_zero] at t0
 have m0:=ml 0
 rw [Nat.add_zero] at m0
 have e0:((plL l (hsK s):Int)+((0:Nat):Int))=(plL l (hsK s):Int)+0:=rfl
 rw [e0] at t0
 simp only [t0,Int.toNat_natCast,(gt m0).2] at cut0
 have g1:=(gt m0).1
 rw [(gt m0).2] at g1
 refine⟨pl _ (by kernel_rfl),cut0 ⟨fun _=>⟨by omega,fun _=>⟨⟨by omega,by omega⟩,fun _=>⟨g1,fun _=>⟨ciN_any hη hmix,nl,fun _=>?_⟩⟩⟩⟩,fun q=>by omega⟩⟩
 refine loop (l.length - 1) 1 [(l[plL l (hsK s) % l.length]'m0).2] (by omega) (by simp) ?_
 have e1:ordL l (hsK s)=ordF l (plL l (hsK s)) (l.length - 1+1) 0 []:=by unfold ordL;rw [Nat.sub_add_cancel hpos]
 rw [e1]
 show _=ordF l (plL l (hsK s)) (l.length - 1) 1 _
 rw [gd 0,if_neg (by simp)]
 rfl
end RG
end Go.Ev

