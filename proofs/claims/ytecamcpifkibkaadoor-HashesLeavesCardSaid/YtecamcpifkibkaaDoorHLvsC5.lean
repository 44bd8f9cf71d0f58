/- HLvsC, part 5: what the proof needs, in the order of its texts. -/
import Derived.Test.YtecamcpifkibkaaDoorHLvsC4
import Derived.Test.YtecamcpifkibkaaDoorProg
import Derived.KernelRfl
import Derived.Calls
set_option linter.unusedVariables false
set_option linter.unusedSimpArgs false
namespace Go.Ev
open Go Go.Proofs
open Go.Ev.T renaming node → nN, nil → nZ
open Go.Proofs.Tryd (prog)
set_option maxRecDepth 100000
set_option maxHeartbeats 2000000
namespace RNoN
noncomputable def bd:Code:=(Go.Proofs.Tryd.f37.body).getD .skip
noncomputable def H0(s:List UInt8):AH:={ objs:=nZ,next:=126 }
noncomputable def E(s:List UInt8):AS:=⟨⟨37,27,lL (Value.string ⟨⟨s⟩⟩),[Item.code (codeAt bd [])],[],FrameMode.run,CallKind.normal,none⟩,[],H0 s⟩
noncomputable def S0(s:List UInt8)(i0:Int)(d:Nat→Value):AS:=⟨⟨37,27,nS (Value.string ⟨⟨s⟩⟩) (nS (d 1) (nS (d 3) (nS (d 7) (lL (d 15)) (lL (d 23))) (nS (d 11) (lL (d 19)) nZ)) (nS (iI (↑s.length:Int)) (nS (d 9) (lL (d 17)) (lL (d 25))) (nS (d 13) (lL (d 21)) nZ))) (nS (d 2) (nS (d 4) (nS (d 8) (lL (d 16)) (lL (d 24))) (nS (d 12) (lL (d 20)) nZ)) (nS (iI i0) (nS (d 10) (lL (d 18)) (lL (d 26))) (nS (d 14) (lL (d 22)) nZ))),[Item.code (codeAt bd [1,0,1,0,0]),Item.inLoop (codeAt bd [1,0,1,0,0]),Item.inBlock 0,Item.code (codeAt bd [1,1])],[],FrameMode.run,CallKind.normal,none⟩,[],⟨nZ,126⟩⟩
theorem enter{η:Nat→Value}{B:Bd}(hη:OneCells η)(hmix:prog.follows .mixedOrders=true)(hreg:RegOk η prog B noNest){D:Value→AH→Prop}(s:List UInt8)(h:W.holds η prog B 37 (fun kp_ st_=>RunD η prog B 37 (H0 s) kp_ st_ (QF prog 126 D)) D (.stop [0,5,6] (S0 s (0) (fun _=>undef)))):CallSpec η prog B 37 [Value.string ⟨⟨s⟩⟩] (H0 s) D:=by
 refine CallSpec.ofQF hη (CallSpec.enter (fr:=(E s).fr) (by kernel_rfl) ?_)
 exact walk_okT (h0:=H0 s) hη hmix hreg (.steps 13 <| .stop [0,5,6] none) (E s) (by kernel_rfl) h (by kernel_rfl)
theorem cut0{η:Nat→Value}{B:Bd}(hη:OneCells η)(hmix:prog.follows .mixedOrders=true)(hreg:RegOk η prog B noNest){D:Value→AH→Prop}(s:List UInt8)(i0:Int)(h:let q0:W:=(.done 37 (Value.bool true) (H0 s));W.holds η prog B 37 (fun kp_ st_=>RunD η prog B 37 (H0 s) kp_ st_ (QF prog 126 D)) D (.ite (decide (i0<(↑s.length:Int))) (.need ((0:Int)≤i0∧i0<(↑s.length:Int)) (.ite (decide (byteAt s i0<(33:Int))) q0 (.need ((0:Int)≤i0∧i0<(↑s.length:Int)) (.ite (decide (byteAt s i0 > (126:Int))) q0 (.stop [0,5,6] (S0 s (IntKind.i64.wrap (i0+1)) (fun _=>undef))))))) (.ite (s == #[].toList) q0 (.done 37 (Value.bool (decide ((↑s.length:Int) > 32))) (H0 s))))):RunD η prog B 37 (H0 s) [0,5,6] (S0 s i0 fun _=>undef) (QF prog 126 D):=by
 refine RunD.intro (S0 s i0) (fun d=>⟨rfl,rfl,rfl⟩) (fun d=>tmOk_get (by kernel_rfl)) (fun d=>by kernel_rfl) (fun d=>?_)
 exact walk_okT (h0:=H0 s) hη hmix hreg (.steps 5 <| .bit 7 (.steps 13 <| .op <| .steps 2 <| .bit 13 (.steps 12 <| .done none) (.steps 2 <| .op <| .steps 3 <| .bit 18 (.steps 6 <| .done none) (.steps 8 <| .stop [0,5,6] none))) (.steps 7 <| .bit 22 (.steps 7 <| .done none) (.steps 7 <| .done none))) (S0 s i0 d) (by kernel_rfl) h (by kernel_rfl)
end RNoN
namespace RIdI
noncomputable def bd:Code:=(Go.Proofs.Tryd.f47.body).getD .skip
noncomputable def H0(ty o:Nat)(c:List Value)(n cap:Nat):AH:={ objs:=eE nZ (eE nZ (eE nZ (eE nZ (eE nZ (eE nZ (lL (AObj.cells ty c false 0))))))),next:=127 }
noncomputable def E(ty o:Nat)(c:List Value)(n cap:Nat):AS:=⟨⟨47,19,nS (sS 126 o n cap) (lL (Value.func (Fn.func 36) ⟨[]⟩ ⟨[]⟩)) nZ,[Item.code (codeAt bd [])],[],FrameMode.run,CallKind.normal,none⟩,[],H0 ty o c n cap⟩
noncomputable def S0(ty o:Nat)(c:List Value)(n cap:Nat)(i0:Int)(d:Nat→Value):AS:=⟨⟨47,19,nS (sS 126 o n cap) (nS (Value.func (Fn.func 36) ⟨[]⟩ ⟨[]⟩) (nS (d 3) (nS (iI (↑n:Int)) (lL (d 15)) nZ) (lL (d 11))) (nS (d 5) (nS (d 9) (lL (d 17)) nZ) (lL (d 13)))) (nS (d 2) (nS (d 4) (nS (iI i0) (lL (d 16)) nZ) (lL (d 12))) (nS (d 6) (nS (d 10) (lL (d 18)) nZ) (lL (d 14)))),[Item.code (codeAt bd [1,0,1,0,0]),Item.inLoop (codeAt bd [1,0,1,0,0]),Item.inBlock 0,Item.code (codeAt bd [1,1])],[],FrameMode.run,CallKind.normal,none⟩,[],⟨eE nZ (eE nZ (eE nZ (eE nZ (eE nZ (eE nZ (lL (AObj.cells ty c false 0))))))),127⟩⟩
theorem enter{η:Nat→Value}{B:Bd}(hη:OneCells η)(hmix:prog.follows .mixedOrders=true)(hreg:RegOk η prog B noNest){D:Value→AH→Prop}(ty o:Nat)(c:List Value)(n cap:Nat)(h:W.holds η prog B 47 (fun kp_ st_=>RunD η prog B 47 (H0 ty o c n cap) kp_ st_ (QF prog 127 D)) D (.stop [0,1,7,8] (S0 ty o c n cap (0) (fun _=>undef)))):CallSpec η prog B 47 [Value.slice (some ⟨126,o,none⟩) n cap,Value.func (Fn.func 36) ⟨[]⟩ ⟨[]⟩] (H0 ty o c n cap) D:=by
 refine CallSpec.ofQF hη (CallSpec.enter (fr:=(E ty o c n cap).fr) (by kernel_rfl) ?_)
 exact walk_okT (h0:=H0 ty o c n cap) hη hmix hreg (.steps 13 <| .stop [0,1,7,8] none) (E ty o c n cap) (by kernel_rfl) h (by kernel_rfl)
theorem cut0{η:Nat→Value}{B:Bd}(hη:OneCells η)(hmix:prog.follows .mixedOrders=true)(hreg:RegOk η prog B noNest){D:Value→AH→Prop}(ty o:Nat)(c:List Value)(n cap:Nat)(i0:Int)(h:let q0:W:=(.done 47 (Value.int IntKind.i64 i0) (H0 ty o c n cap));W.holds η prog B 47 (fun kp_ st_=>RunD η prog B 47 (H0 ty o c n cap) kp_ st_ (QF prog 127 D)) D (.ite (decide (i0<(↑n:Int))) (.need ((0:Int)≤i0∧i0<(↑n:Int)) (.need (c[o+i0.toNat * (1:Nat)]? = some (Value.int IntKind.i64 (intAt c (o+i0.toNat * (1:Nat))))) (.ite (decide (intAt c (o+i0.toNat * (1:Nat))<(0:Int))) q0 (.ite (decide (intAt c (o+i0.toNat * (1:Nat)) > (20:Int))) q0 (.stop [0,1,7,8] (S0 ty o c n cap (IntKind.i64.wrap (i0+1)) (fun _=>undef))))))) (.done 47 (Value.int IntKind.i64 (-1)) (H0 ty o c n cap)))):RunD η prog B 47 (H0 ty o c n cap) [0,1,7,8] (S0 ty o c n cap i0 fun _=>undef) (QF prog 127 D):=by
 refine RunD.intro (S0 ty o c n cap i0) (fun d=>⟨rfl,rfl,rfl⟩) (fun d=>tmOk_get (by kernel_rfl)) (fun d=>by kernel_rfl) (fun d=>?_)
 exact walk_okT (h0:=H0 ty o c n cap) hη hmix hreg (.steps 5 <| .bit 9 (.steps 14 <| .op <| .op <| .steps 10 <| .bit 5 (.steps 15 <| .done none) (.steps 8 <| .bit 16 (.steps 7 <| .done none) (.steps 8 <| .stop [0,1,7,8] none))) (.steps 7 <| .done none)) (S0 ty o c n cap i0 d) (by kernel_rfl) h (by kernel_rfl)
end RIdI
namespace RIdx
noncomputable def bd:Code:=(Go.Proofs.Tryd.f56.body).getD .skip
noncomputable def H0(ty o:Nat)(c:List Value)(n cap:Nat)(s:List UInt8):AH:={ objs:=eE nZ (eE nZ (eE nZ (eE nZ (eE nZ (eE nZ (lL (AObj.cells ty c false 0))))))),next:=127 }
noncomputable def E(ty o:Nat)(c:List Value)(n cap:Nat)(s:List UInt8):AS:=⟨⟨56,19,nS (sS 126 o n cap) (lL (Value.string ⟨⟨s⟩⟩)) nZ,[Item.code (codeAt bd [])],[],FrameMode.run,CallKind.normal,none⟩,[],H0 ty o c n cap s⟩
noncomputable def S0(ty o:Nat)(c:List Value)(n cap:Nat)(s:List UInt8)(i0:Int)(d:Nat→Value):AS:=⟨⟨56,19,nS (sS 126 o n cap) (nS (Value.string ⟨⟨s⟩⟩) (nS (d 3) (nS (iI (↑n:Int)) (lL (d 15)) nZ) (lL (d 11))) (nS (d 5) (nS (d 9) (lL (d 17)) nZ) (lL (d 13)))) (nS (d 2) (nS (d 4) (nS (iI i0) (lL (d 16)) nZ) (lL (d 12))) (nS (d 6) (nS (d 10) (lL (d 18)) nZ) (lL (d 14)))),[Item.code (codeAt bd [1,0,1,0,0]),Item.inLoop (codeAt bd [1,0,1,0,0]),Item.inBlock 0,Item.code (codeAt bd [1,1])],[],FrameMode.run,CallKind.normal,none⟩,[],⟨eE nZ (eE nZ (eE nZ (eE nZ (eE nZ (eE nZ (lL (AObj.cells ty c false 0))))))),127⟩⟩
theorem enter{η:Nat→Value}{B:Bd}(hη:OneCells η)(hmix:prog.follows .mixedOrders=true)(hreg:RegOk η prog B noNest){D:Value→AH→Prop}(ty o:Nat)(c:List Value)(n cap:Nat)(s:List UInt8)(h:W.holds η prog B 56 (fun kp_ st_=>RunD η prog B 56 (H0 ty o c n cap s) kp_ st_ (QF prog 127 D)) D (.stop [0,1,7,8] (S0 ty o c n cap s (0) (fun _=>undef)))):CallSpec η prog B 56 [Value.slice (some ⟨126,o,none⟩) n cap,Value.string ⟨⟨s⟩⟩] (H0 ty o c n cap s) D:=by
 refine CallSpec.ofQF hη (CallSpec.enter (fr:=(E ty o c n cap s).fr) (by kernel_rfl) ?_)
 exact walk_okT (h0:=H0 ty o c n cap s) hη hmix hreg (.steps 13 <| .stop [0,1,7,8] none) (E ty o c n cap s) (by kernel_rfl) h (by kernel_rfl)
theorem cut0{η:Nat→Value}{B:Bd}(hη:OneCells η)(hmix:prog.follows .mixedOrders=true)(hreg:RegOk η prog B noNest){D:Value→AH→Prop}(ty o:Nat)(c:List Value)(n cap:Nat)(s:List UInt8)(i0:Int)(h:W.holds η prog B 56 (fun kp_ st_=>RunD η prog B 56 (H0 ty o c n cap s) kp_ st_ (QF prog 127 D)) D (.ite (decide (i0<(↑n:Int))) (.need ((0:Int)≤i0∧i0<(↑n:Int)) (.need (c[o+i0.toNat * (1:Nat)]? = some (Value.string ⟨⟨strAt c (o+i0.toNat * (1:Nat))⟩⟩)) (.ite (s == strAt c (o+i0.toNat * (1:Nat))) (.done 56 (Value.int IntKind.i64 i0) (H0 ty o c n cap s)) (.stop [0,1,7,8] (S0 ty o c n cap s (IntKind.i64.wrap (i0+1)) (fun _=>undef)))))) (.done 56 (Value.int IntKind.i64 (-1)) (H0 ty o c n cap s)))):RunD η prog B 56 (H0 ty o c n cap s) [0,1,7,8] (S0 ty o c n cap s i0 fun _=>undef) (QF prog 127 D):=by
 refine RunD.intro (S0 ty o c n cap s i0) (fun d=>⟨rfl,rfl,rfl⟩) (fun d=>tmOk_get (by kernel_rfl)) (fun d=>by kernel_rfl) (fun d=>?_)
 exact walk_okT (h0:=H0 ty o c n cap s) hη hmix hreg (.steps 5 <| .bit 9 (.steps 14 <| .op <| .op <| .steps 2 <| .bit 16 (.steps 7 <| .done none) (.steps 8 <| .stop [0,1,7,8] none)) (.steps 7 <| .done none)) (S0 ty o c n cap s i0 d) (by kernel_rfl) h (by kernel_rfl)
end RIdx
namespace RCnt
noncomputable def bd:Code:=(Go.Proofs.Tryd.f39.body).getD .skip
noncomputable def H0(ty o:Nat)(c:List Value)(n cap:Nat)(k:Int):AH:={ objs:=eE nZ (eE nZ (eE nZ (eE nZ (eE nZ (eE nZ (lL (AObj.cells ty c false 0))))))),next:=127 }
noncomputable def E(ty o:Nat)(c:List Value)(n cap:Nat)(k:Int):AS:=⟨⟨39,21,nS (sS 126 o n cap) (lL (iI k)) nZ,[Item.code (codeAt bd [])],[],FrameMode.run,CallKind.normal,none⟩,[],H0 ty o c n cap k⟩
noncomputable def S0(ty o:Nat)(c:List Value)(n cap:Nat)(k i0 i1:Int)(d:Nat→Value):AS:=⟨⟨39,21,nS (d 0) (nS (iI k) (nS (d 3) (nS (d 7) (lL (d 15)) nZ) (nS (d 11) (lL (d 19)) nZ)) (nS (iI i0) (nS (iI (↑n:Int)) (lL (d 17)) nZ) (lL (d 13)))) (nS (d 2) (nS (d 4) (nS (sS 126 o n cap) (lL (d 16)) nZ) (nS (d 12) (lL (d 20)) nZ)) (nS (d 6) (nS (iI i1) (lL (d 18)) nZ) (lL (d 14)))),[Item.code (codeAt bd [1,1,0,1,0,0]),Item.inLoop (codeAt bd [1,1,0,1,0,0]),Item.inBlock 0,Item.code (codeAt bd [1,1,1])],[],FrameMode.run,CallKind.normal,none⟩,[],⟨eE nZ (eE nZ (eE nZ (eE nZ (eE nZ (eE nZ (lL (AObj.cells ty c false 0))))))),127⟩⟩
theorem enter{η:Nat→Value}{B:Bd}(hη:OneCells η)(hmix:prog.follows .mixedOrders=true)(hreg:RegOk η prog B noNest){D:Value→AH→Prop}(ty o:Nat)(c:List Value)(n cap:Nat)(k:Int)(h:W.holds η prog B 39 (fun kp_ st_=>RunD η prog B 39 (H0 ty o c n cap k) kp_ st_ (QF prog 127 D)) D (.stop [1,5,8,9,10] (S0 ty o c n cap k (0) (0) (fun _=>undef)))):CallSpec η prog B 39 [Value.slice (some ⟨126,o,none⟩) n cap,Value.int IntKind.i64 k] (H0 ty o c n cap k) D:=by
 refine CallSpec.ofQF hη (CallSpec.enter (fr:=(E ty o c n cap k).fr) (by kernel_rfl) ?_)
 exact walk_okT (h0:=H0 ty o c n cap k) hη hmix hreg (.steps 17 <| .stop [1,5,8,9,10] none) (E ty o c n cap k) (by kernel_rfl) h (by kernel_rfl)
theorem cut0{η:Nat→Value}{B:Bd}(hη:OneCells η)(hmix:prog.follows .mixedOrders=true)(hreg:RegOk η prog B noNest){D:Value→AH→Prop}(ty o:Nat)(c:List Value)(n cap:Nat)(k i0 i1:Int)(h:W.holds η prog B 39 (fun kp_ st_=>RunD η prog B 39 (H0 ty o c n cap k) kp_ st_ (QF prog 127 D)) D (.ite (decide (i1<(↑n:Int))) (.need ((0:Int)≤i1∧i1<(↑n:Int)) (.need (c[o+i1.toNat * (1:Nat)]? = some (Value.int IntKind.i64 (intAt c (o+i1.toNat * (1:Nat))))) (.stop [1,5,8,9,10] (S0 ty o c n cap k (IntKind.i64.wrap (i0+IntKind.i64.wrap (intAt c (o+i1.toNat * 1) * k))) (IntKind.i64.wrap (i1+1)) (fun _=>undef))))) (.done 39 (Value.int IntKind.i64 i0) (H0 ty o c n cap k)))):RunD η prog B 39 (H0 ty o c n cap k) [1,5,8,9,10] (S0 ty o c n cap k i0 i1 fun _=>undef) (QF prog 127 D):=by
 refine RunD.intro (S0 ty o c n cap k i0 i1) (fun d=>⟨rfl,rfl,rfl⟩) (fun d=>tmOk_get (by kernel_rfl)) (fun d=>by kernel_rfl) (fun d=>?_)
 exact walk_okT (h0:=H0 ty o c n cap k) hη hmix hreg (.steps 5 <| .bit 11 (.steps 6 <| .op <| .op <| .steps 16 <| .stop [1,5,8,9,10] none) (.steps 8 <| .done none)) (S0 ty o c n cap k i0 i1 d) (by kernel_rfl) h (by kernel_rfl)
end RCnt
namespace RClo
noncomputable def bd:Code:=(Go.Proofs.Tryd.f19.body).getD .skip
noncomputable def H0(ty o:Nat)(c:List Value)(n cap:Nat):AH:={ objs:=eE nZ (eE nZ (eE nZ (eE nZ (eE nZ (eE nZ (lL (AObj.cells ty c false 0))))))),next:=127 }
noncomputable def E(ty o:Nat)(c:List Value)(n cap:Nat):AS:=⟨⟨19,8,lL (sS 126 o n cap),[Item.code (codeAt bd [])],[],FrameMode.run,CallKind.normal,none⟩,[],H0 ty o c n cap⟩
theorem enter{η:Nat→Value}{B:Bd}(hη:OneCells η)(hmix:prog.follows .mixedOrders=true)(hreg:RegOk η prog B noNest){D:Value→AH→Prop}(ty o:Nat)(c:List Value)(n cap:Nat)(h:let q0:=(List.take (n * (1:Nat)) (List.drop o c));W.holds η prog B 19 (fun kp_ st_=>RunD η prog B 19 (H0 ty o c n cap) kp_ st_ (QF prog 127 D)) D (.need (o+n * (1:Nat)≤c.length∧(0:Nat)<n∧n≤(1000000:Nat)∧q0.length=n * (1:Nat)∧q0.all oneC=true) (.need (NoNames c∧NoNames ([] ++ List.take (n * (1:Nat)) (List.drop o c))∧True) (.done 19 (Value.slice (some ⟨127,0,none⟩) (0+n) 9223372036854775809) (⟨eE (eE (eE (eE (eE (eE (eE (lL (AObj.cells 3 ([] ++ List.take (n * 1) (List.drop o c)) false 2)) nZ) nZ) nZ) nZ) nZ) nZ) (eE nZ (eE nZ (eE nZ (eE nZ (eE nZ (lL (AObj.cells ty c false 0))))))),128⟩))))):CallSpec η prog B 19 [Value.slice (some ⟨126,o,none⟩) n cap] (H0 ty o c n cap) D:=by
 refine CallSpec.ofQF hη (CallSpec.enter (fr:=(E ty o c n cap).fr) (by kernel_rfl) ?_)
 exact walk_okT (h0:=H0 ty o c n cap) hη hmix hreg (.steps 16 <| .op <| .steps 3 <| .done (some ⟨128,[(128,127)],[(126,(126,true)),(127,(128,true))]⟩)) (E ty o c n cap) (by kernel_rfl) h (by kernel_rfl)
end RClo
namespace RCmH
noncomputable def bd:Code:=(Go.Proofs.Tryd.f45.body).getD .skip
noncomputable def H0(a b i:Int):AH:={ objs:=nZ,next:=126 }
noncomputable def E(a b i:Int):AS:=⟨⟨45,9,nS (Value.agg ⟨[Value.int IntKind.u32 a,iI i]⟩) (lL (Value.int IntKind.u32 b)) nZ,[Item.code (codeAt bd [])],[],FrameMode.run,CallKind.normal,none⟩,[],H0 a b i⟩
theorem enter{η:Nat→Value}{B:Bd}(hη:OneCells η)(hmix:prog.follows .mixedOrders=true)(hreg:RegOk η prog B noNest){D:Value→AH→Prop}(a b i:Int)(h:let q2:W:=(.need (True) (.done 45 (Value.int IntKind.i64 1) (H0 a b i)));let q1:W:=(.need (True) (.done 45 (Value.int IntKind.i64 0) (H0 a b i)));let q0:W:=(.need (True) (.done 45 (Value.int IntKind.i64 (-1)) (H0 a b i)));W.holds η prog B 45 (fun kp_ st_=>RunD η prog B 45 (H0 a b i) kp_ st_ (QF prog 126 D)) D (.ite (a != a) (.ite (b != b) q1 q0) (.ite (b != b) q2 (.ite (decide (a<b)) q0 (.ite (decide (a > b)) q2 q1))))):CallSpec η prog B 45 [Value.agg ⟨[Value.int IntKind.u32 a,Value.int IntKind.i64 i]⟩,Value.int IntKind.u32 b] (H0 a b i) D:=by
 refine CallSpec.ofQF hη (CallSpec.enter (fr:=(E a b i).fr) (by kernel_rfl) ?_)
 exact walk_okT (h0:=H0 a b i) hη hmix hreg (.steps 58 <| .bit 11 (.steps 6 <| .bit 12 (.steps 10 <| .done (some ⟨126,[],[]⟩)) (.steps 11 <| .done (some ⟨126,[],[]⟩))) (.steps 7 <| .bit 13 (.steps 10 <| .done (some ⟨126,[],[]⟩)) (.steps 9 <| .bit 16 (.steps 10 <| .done (some ⟨126,[],[]⟩)) (.steps 9 <| .bit 19 (.steps 10 <| .done (some ⟨126,[],[]⟩)) (.steps 11 <| .done (some ⟨126,[],[]⟩)))))) (E a b i) (by kernel_rfl) h (by kernel_rfl)
end RCmH
namespace REqu
noncomputable def bd:Code:=(Go.Proofs.Tryd.f18.body).getD .skip
noncomputable def H0(ty ty' o o':Nat)(c c':List Value)(n n' cap cap':Nat):AH:={ objs:=eE (eE (eE (eE (eE (eE (eE (lL (AObj.cells ty' c' false 0)) nZ) nZ) nZ) nZ) nZ) nZ) (eE nZ (eE nZ (eE nZ (eE nZ (eE nZ (lL (AObj.cells ty c false 0))))))),next:=128 }
noncomputable def E(ty ty' o o':Nat)(c c':List Value)(n n' cap cap':Nat):AS:=⟨⟨18,26,nS (sS 126 o n cap) (lL (Value.slice (some ⟨127,o',none⟩) n' cap')) nZ,[Item.code (codeAt bd [])],[],FrameMode.run,CallKind.normal,none⟩,[],H0 ty ty' o o' c c' n n' cap cap'⟩
noncomputable def S0(ty ty' o o':Nat)(c c':List Value)(n n' cap cap':Nat)(i0:Int)(d:Nat→Value):AS:=⟨⟨18,26,nS (sS 126 o n cap) (nS (Value.slice (some ⟨127,o',none⟩) n' cap') (nS (d 3) (nS (d 7) (lL (d 15)) (lL (d 23))) (nS (d 11) (lL (d 19)) nZ)) (nS (d 5) (nS (d 9) (lL (d 17)) (lL (d 25))) (nS (iI i0) (lL (d 21)) nZ))) (nS (d 2) (nS (d 4) (nS (d 8) (lL (d 16)) (lL (d 24))) (nS (iI (↑n:Int)) (lL (d 20)) nZ)) (nS (d 6) (nS (d 10) (lL (d 18)) nZ) (nS (d 14) (lL (d 22)) nZ))),[Item.code (codeAt bd [1,1,0,1,0,0]),Item.inLoop (codeAt bd [1,1,0,1,0,0]),Item.inBlock 0,Item.code (codeAt bd [1,1,1])],[],FrameMode.run,CallKind.normal,none⟩,[],⟨eE (eE (eE (eE (eE (eE (eE (lL (AObj.cells ty' c' false 0)) nZ) nZ) nZ) nZ) nZ) nZ) (eE nZ (eE nZ (eE nZ (eE nZ (eE nZ (lL (AObj.cells ty c false 0))))))),128⟩⟩
theorem enter{η:Nat→Value}{B:Bd}(hη:OneCells η)(hmix:prog.follows .mixedOrders=true)(hreg:RegOk η prog B noNest){D:Value→AH→Prop}(ty ty' o o':Nat)(c c':List Value)(n n' cap cap':Nat)(h:W.holds η prog B 18 (fun kp_ st_=>RunD η prog B 18 (H0 ty ty' o o' c c' n n' cap cap') kp_ st_ (QF prog 128 D)) D (.ite ((↑n:Int) != (↑n':Int)) (.done 18 (Value.bool false) (H0 ty ty' o o' c c' n n' cap cap')) (.stop [0,1,12,13] (S0 ty ty' o o' c c' n n' cap cap' (0) (fun _=>undef))))):CallSpec η prog B 18 [Value.slice (some ⟨126,o,none⟩) n cap,Value.slice (some ⟨127,o',none⟩) n' cap'] (H0 ty ty' o o' c c' n n' cap cap') D:=by
 refine CallSpec.ofQF hη (CallSpec.enter (fr:=(E ty ty' o o' c c' n n' cap cap').fr) (by kernel_rfl) ?_)
 exact walk_okT (h0:=H0 ty ty' o o' c c' n n' cap cap') hη hmix hreg (.steps 13 <| .bit 10 (.steps 6 <| .done none) (.steps 11 <| .stop [0,1,12,13] none)) (E ty ty' o o' c c' n n' cap cap') (by kernel_rfl) h (by kernel_rfl)
theorem cut0{η:Nat→Value}{B:Bd}(hη:OneCells η)(hmix:prog.follows .mixedOrders=true)(hreg:RegOk η prog B noNest){D:Value→AH→Prop}(ty ty' o o':Nat)(c c':List Value)(n n' cap cap':Nat)(i0:Int)(h:W.holds η prog B 18 (fun kp_ st_=>RunD η prog B 18 (H0 ty ty' o o' c c' n n' cap cap') kp_ st_ (QF prog 128 D)) D (.ite (decide (i0<(↑n:Int))) (.need ((0:Int)≤i0∧i0<(↑n:Int)) (.need (o+i0.toNat * (2:Nat)+(2:Nat)≤c.length∧List.take (2:Nat) (List.drop (o+i0.toNat * (2:Nat)) c)=[Value.int IntKind.u32 (intAt c (o+i0.toNat * (2:Nat))),Value.int IntKind.i64 (intAt c (o+i0.toNat * (2:Nat)+(1:Nat)))]) (.need ((0:Int)≤i0∧i0<(↑n':Int)) (.need (o'+i0.toNat * (2:Nat)+(2:Nat)≤c'.length∧List.take (2:Nat) (List.drop (o'+i0.toNat * (2:Nat)) c')=[Value.int IntKind.u32 (intAt c' (o'+i0.toNat * (2:Nat))),Value.int IntKind.i64 (intAt c' (o'+i0.toNat * (2:Nat)+(1:Nat)))]) (.need (True) (.ite (!(intAt c (o+i0.toNat * (2:Nat)) == intAt c' (o'+i0.toNat * (2:Nat)) && intAt c (o+i0.toNat * (2:Nat)+(1:Nat)) == intAt c' (o'+i0.toNat * (2:Nat)+(1:Nat)))) (.need (NoNames c∧NoNames c'∧True) (.done 18 (Value.bool false) (H0 ty ty' o o' c c' n n' cap cap'))) (.need (NoNames c∧NoNames c'∧True) (.stop [0,1,12,13] (S0 ty ty' o o' c c' n n' cap cap' (IntKind.i64.wrap (i0+1)) (fun _=>undef)))))))))) (.done 18 (Value.bool true) (H0 ty ty' o o' c c' n n' cap cap')))):RunD η prog B 18 (H0 ty ty' o o' c c' n n' cap cap') [0,1,12,13] (S0 ty ty' o o' c c' n n' cap cap' i0 fun _=>undef) (QF prog 128 D):=by
 refine RunD.intro (S0 ty ty' o o' c c' n n' cap cap' i0) (fun d=>⟨rfl,rfl,rfl⟩) (fun d=>tmOk_get (by kernel_rfl)) (fun d=>by kernel_rfl) (fun d=>?_)
 exact walk_okT (h0:=H0 ty ty' o o' c c' n n' cap cap') hη hmix hreg (.steps 5 <| .bit 14 (.steps 10 <| .reg <| .steps 2 <| .op <| .op <| .steps 2 <| .op <| .op <| .op <| .reg <| .bit 24 (.steps 6 <| .done (some ⟨128,[],[(126,(126,true)),(127,(127,true))]⟩)) (.steps 8 <| .stop [0,1,12,13] (some ⟨128,[],[(126,(126,true)),(127,(127,true))]⟩))) (.steps 7 <| .done none)) (S0 ty ty' o o' c c' n n' cap cap' i0 d) (by kernel_rfl) h (by kernel_rfl)
end REqu
namespace RCmp
noncomputable def bd:Code:=(Go.Proofs.Tryd.f43.body).getD .skip
noncomputable def H0(a b i j:Int):AH:={ objs:=nZ,next:=126 }
noncomputable def E(a b i j:Int):AS:=⟨⟨43,17,nS (Value.agg ⟨[Value.int IntKind.u32 a,iI i]⟩) (lL (Value.agg ⟨[Value.int IntKind.u32 b,iI j]⟩)) nZ,[Item.code (codeAt bd [])],[],FrameMode.run,CallKind.normal,none⟩,[],H0 a b i j⟩
theorem enter{η:Nat→Value}{B:Bd}(hη:OneCells η)(hmix:prog.follows .mixedOrders=true)(hreg:RegOk η prog B noNest){D:Value→AH→Prop}(a b i j:Int)(h:let q2:=(Value.int IntKind.i64 (RG.orI (RG.cmpI a b) (RG.cmpI i j)));let q1:AH:=⟨eE (eE (eE (eE (eE (eE (eE (lL (AObj.cells 55 [Value.int IntKind.u32 b,iI j] true 2)) nZ) nZ) nZ) nZ) nZ) nZ) (eE nZ (eE nZ (eE nZ (eE nZ (eE nZ (lL (AObj.cells 55 [Value.int IntKind.u32 a,iI i] true 2))))))),141⟩;let q0:AH:=⟨eE (eE (eE (eE (eE (eE (eE (lL (AObj.cells 55 [Value.int IntKind.u32 b,iI j] true 2)) nZ) nZ) nZ) nZ) nZ) nZ) (eE nZ (eE (eE nZ (eE (eE (eE (lL (AObj.cells 3 [iI (RG.cmpI a b),iI (RG.cmpI i j)] true 2)) nZ) nZ) nZ)) (eE nZ (eE nZ (eE nZ (lL (AObj.cells 55 [Value.int IntKind.u32 a,iI i] true 2))))))),141⟩;W.holds η prog B 43 (fun kp_ st_=>RunD η prog B 43 (H0 a b i j) kp_ st_ (QF prog 126 D)) D (.need ((True)∧(True)∧(True)∧(True)∧True) (.call 54 [Value.int IntKind.u32 a,Value.int IntKind.u32 b] (q1) (.ret (Value.int IntKind.i64 (RG.cmpI a b)) (q1)) (.need (True∧Value.int IntKind.u32 b=Value.int IntKind.u32 b∧Value.pointer (some ⟨(127:Nat),(0:Nat),none⟩)=Value.pointer (some ⟨(127:Nat),(0:Nat),none⟩)∧Value.int IntKind.u32 a=Value.int IntKind.u32 a∧Value.pointer (some ⟨(126:Nat),(0:Nat),none⟩)=Value.pointer (some ⟨(126:Nat),(0:Nat),none⟩)∧True) (.need ((Value.pointer (some ⟨(126:Nat),(1:Nat),none⟩)=Value.pointer (some ⟨(126:Nat),(1:Nat),none⟩)∧True)∧(Value.int IntKind.i64 i=Value.int IntKind.i64 i∧True)∧(Value.pointer (some ⟨(127:Nat),(1:Nat),none⟩)=Value.pointer (some ⟨(127:Nat),(1:Nat),none⟩)∧True)∧(Value.int IntKind.i64 j=Value.int IntKind.i64 j∧True)∧True) (.call 55 [Value.int IntKind.i64 i,Value.int IntKind.i64 j] (q1) (.ret (Value.int IntKind.i64 (RG.cmpI i j)) (q1)) (.need (consM 55 ([Value.int IntKind.i64 i,Value.int IntKind.i64 j]) (q1) (Value.int IntKind.i64 (RG.cmpI i j)) (q1) [⟨54,[Value.int IntKind.u32 a,Value.int IntKind.u32 b],q1,Value.int IntKind.i64 (RG.cmpI a b),q1⟩]∧True) (.need ((True)∧True) (.call 53 [Value.slice (some ⟨138,0,none⟩) 2 2] (q0) (.ret q2 (q0)) (.need (consM 53 ([Value.slice (some ⟨138,0,none⟩) 2 2]) (q0) q2 (q0) [⟨55,[Value.int IntKind.i64 i,Value.int IntKind.i64 j],q1,Value.int IntKind.i64 (RG.cmpI i j),q1⟩,⟨54,[Value.int IntKind.u32 a,Value.int IntKind.u32 b],q1,Value.int IntKind.i64 (RG.cmpI a b),q1⟩]∧True) (.need ((True)∧True) (.need (True) (.done 43 q2 (H0 a b i j)))))))))))))):CallSpec η prog B 43 [Value.agg ⟨[Value.int IntKind.u32 a,Value.int IntKind.i64 i]⟩,Value.agg ⟨[Value.int IntKind.u32 b,Value.int IntKind.i64 j]⟩] (H0 a b i j) D:=by
 refine CallSpec.ofQF hη (CallSpec.enter (fr:=(E a b i j).fr) (by kernel_rfl) ?_)
 exact walk_okT (h0:=H0 a b i j) hη hmix hreg (.steps 7 <| .regN [4] <| .steps 4 <| .call kN <| .steps 4 <| .call kN <| .steps 1 <| .call kN <| .steps 1 <| .regN [4] <| .steps 1 <| .done (some ⟨126,[],[]⟩)) (E a b i j) (by kernel_rfl) h (by kernel_rfl)
end RCmp
namespace RC32
noncomputable def bd:Code:=(Go.Proofs.Tryd.f54.body).getD .skip
noncomputable def H0(a b:Int):AH:={ objs:=nZ,next:=126 }
noncomputable def E(a b:Int):AS:=⟨⟨54,20,nS (Value.int IntKind.u32 a) (lL (Value.int IntKind.u32 b)) nZ,[Item.code (codeAt bd [])],[],FrameMode.run,CallKind.normal,none⟩,[],H0 a b⟩
theorem enter{η:Nat→Value}{B:Bd}(hη:OneCells η)(hmix:prog.follows .mixedOrders=true)(hreg:RegOk η prog B noNest){D:Value→AH→Prop}(a b:Int)(h:let q2:W:=(.done 54 (Value.int IntKind.i64 1) (H0 a b));let q1:W:=(.done 54 (Value.int IntKind.i64 0) (H0 a b));let q0:W:=(.done 54 (Value.int IntKind.i64 (-1)) (H0 a b));W.holds η prog B 54 (fun kp_ st_=>RunD η prog B 54 (H0 a b) kp_ st_ (QF prog 126 D)) D (.ite (a != a) (.ite (b != b) q1 q0) (.ite (b != b) q2 (.ite (decide (a<b)) q0 (.ite (decide (a > b)) q2 q1))))):CallSpec η prog B 54 [Value.int IntKind.u32 a,Value.int IntKind.u32 b] (H0 a b) D:=by
 refine CallSpec.ofQF hη (CallSpec.enter (fr:=(E a b).fr) (by kernel_rfl) ?_)
 exact walk_okT (h0:=H0 a b) hη hmix hreg (.steps 47 <| .bit 11 (.steps 6 <| .bit 12 (.steps 6 <| .done none) (.steps 7 <| .done none)) (.steps 7 <| .bit 13 (.steps 6 <| .done none) (.steps 9 <| .bit 16 (.steps 6 <| .done none) (.steps 9 <| .bit 19 (.steps 6 <| .done none) (.steps 7 <| .done none))))) (E a b) (by kernel_rfl) h (by kernel_rfl)
end RC32
namespace RC64
noncomputable def bd:Code:=(Go.Proofs.Tryd.f55.body).getD .skip
noncomputable def H0(a b:Int):AH:={ objs:=nZ,next:=126 }
noncomputable def E(a b:Int):AS:=⟨⟨55,20,nS (iI a) (lL (iI b)) nZ,[Item.code (codeAt bd [])],[],FrameMode.run,CallKind.normal,none⟩,[],H0 a b⟩
theorem enter{η:Nat→Value}{B:Bd}(hη:OneCells η)(hmix:prog.follows .mixedOrders=true)(hreg:RegOk η prog B noNest){D:Value→AH→Prop}(a b:Int)(h:let q2:W:=(.done 55 (Value.int IntKind.i64 1) (H0 a b));let q1:W:=(.done 55 (Value.int IntKind.i64 0) (H0 a b));let q0:W:=(.done 55 (Value.int IntKind.i64 (-1)) (H0 a b));W.holds η prog B 55 (fun kp_ st_=>RunD η prog B 55 (H0 a b) kp_ st_ (QF prog 126 D)) D (.ite (a != a) (.ite (b != b) q1 q0) (.ite (b != b) q2 (.ite (decide (a<b)) q0 (.ite (decide (a > b)) q2 q1))))):CallSpec η prog B 55 [Value.int IntKind.i64 a,Value.int IntKind.i64 b] (H0 a b) D:=by
 refine CallSpec.ofQF hη (CallSpec.enter (fr:=(E a b).fr) (by kernel_rfl) ?_)
 exact walk_okT (h0:=H0 a b) hη hmix hreg (.steps 47 <| .bit 11 (.steps 6 <| .bit 12 (.steps 6 <| .done none) (.steps 7 <| .done none)) (.steps 7 <| .bit 13 (.steps 6 <| .done none) (.steps 9 <| .bit 16 (.steps 6 <| .done none) (.steps 9 <| .bit 19 (.steps 6 <| .done none) (.steps 7 <| .done none))))) (E a b) (by kernel_rfl) h (by kernel_rfl)
end RC64
namespace ROr
noncomputable def bd:Code:=(Go.Proofs.Tryd.f53.body).getD .skip
noncomputable def H0(x y:Int):AH:={ objs:=eE nZ (eE nZ (eE nZ (eE nZ (eE nZ (eE nZ (lL (AObj.cells 3 [iI x,iI y] true 0))))))),next:=127 }
noncomputable def E(x y:Int):AS:=⟨⟨53,18,lL (sS 126 0 2 2),[Item.code (codeAt bd [])],[],FrameMode.run,CallKind.normal,none⟩,[],H0 x y⟩
noncomputable def S0(x y:Int) (d:Nat→Value):AS:=⟨⟨53,18,nS (d 0) (nS (d 1) (nS (iI 0) (nS (iI 2) (lL (d 15)) nZ) (lL (d 11))) (nS (d 5) (nS (d 9) (lL (d 17)) nZ) (lL (d 13)))) (nS (d 2) (nS (d 4) (nS (iI 0) (lL (d 16)) nZ) (lL (d 12))) (nS (sS 126 0 2 2) (lL (d 10)) (lL (d 14)))),[Item.code (codeAt bd [1,1,0,1,0,0]),Item.inLoop (codeAt bd [1,1,0,1,0,0]),Item.inBlock 0,Item.code (codeAt bd [1,1,1])],[],FrameMode.run,CallKind.normal,none⟩,[],⟨eE nZ (eE nZ (eE nZ (eE nZ (eE nZ (eE nZ (lL (AObj.cells 3 [iI x,iI y] true 0))))))),127⟩⟩
noncomputable def S1(x y:Int) (d:Nat→Value):AS:=⟨⟨53,18,nS (d 0) (nS (d 1) (nS (iI 0) (nS (iI 2) (lL (d 15)) nZ) (lL (d 11))) (nS (d 5) (nS (d 9) (lL (d 17)) nZ) (lL (d 13)))) (nS (d 2) (nS (d 4) (nS (iI 1) (lL (d 16)) nZ) (lL (d 12))) (nS (sS 126 0 2 2) (lL (d 10)) (lL (d 14)))),[Item.code (codeAt bd [1,1,0,1,0,0]),Item.inLoop (codeAt bd [1,1,0,1,0,0]),Item.inBlock 0,Item.code (codeAt bd [1,1,1])],[],FrameMode.run,CallKind.normal,none⟩,[],⟨eE nZ (eE nZ (eE nZ (eE nZ (eE nZ (eE nZ (lL (AObj.cells 3 [iI x,iI y] true 0))))))),127⟩⟩
noncomputable def S2(x y:Int) (d:Nat→Value):AS:=⟨⟨53,18,nS (d 0) (nS (d 1) (nS (iI 0) (nS (iI 2) (lL (d 15)) nZ) (lL (d 11))) (nS (d 5) (nS (d 9) (lL (d 17)) nZ) (lL (d 13)))) (nS (d 2) (nS (d 4) (nS (iI 2) (lL (d 16)) nZ) (lL (d 12))) (nS (sS 126 0 2 2) (lL (d 10)) (lL (d 14)))),[Item.code (codeAt bd [1,1,0,1,0,0]),Item.inLoop (codeAt bd [1,1,0,1,0,0]),Item.inBlock 0,Item.code (codeAt bd [1,1,1])],[],FrameMode.run,CallKind.normal,none⟩,[],⟨eE nZ (eE nZ (eE nZ (eE nZ (eE nZ (eE nZ (lL (AObj.cells 3 [iI x,iI y] true 0))))))),127⟩⟩
theorem enter{η:Nat→Value}{B:Bd}(hη:OneCells η)(hmix:prog.follows .mixedOrders=true)(hreg:RegOk η prog B noNest){D:Value→AH→Prop}(x y:Int)(h:W.holds η prog B 53 (fun kp_ st_=>RunD η prog B 53 (H0 x y) kp_ st_ (QF prog 127 D)) D (.stop [3,6,7,8] (S0 x y  (fun _=>undef)))):CallSpec η prog B 53 [Value.slice (some ⟨126,0,none⟩) 2 2] (H0 x y) D:=by
 refine CallSpec.ofQF hη (CallSpec.enter (fr:=(E x y).fr) (by kernel_rfl) ?_)
 exact walk_okT (h0:=H0 x y) hη hmix hreg (.steps 17 <| .stop [3,6,7,8] none) (E x y) (by kernel_rfl) h (by kernel_rfl)
theorem cut0{η:Nat→Value}{B:Bd}(hη:OneCells η)(hmix:prog.follows .mixedOrders=true)(hreg:RegOk η prog B noNest){D:Value→AH→Prop}(x y:Int) (h:W.holds η prog B 53 (fun kp_ st_=>RunD η prog B 53 (H0 x y) kp_ st_ (QF prog 127 D)) D (.ite (x != (0:Int)) (.done 53 (Value.int IntKind.i64 x) (H0 x y)) (.stop [3,6,7,8] (S1 x y  (fun _=>undef))))):RunD η prog B 53 (H0 x y) [3,6,7,8] (S0 x y  fun _=>undef) (QF prog 127 D):=by
 refine RunD.intro (S0 x y) (fun d=>⟨rfl,rfl,rfl⟩) (fun d=>tmOk_get (by kernel_rfl)) (fun d=>by kernel_rfl) (fun d=>?_)
 exact walk_okT (h0:=H0 x y) hη hmix hreg (.steps 21 <| .bit 14 (.steps 7 <| .done none) (.steps 8 <| .stop [3,6,7,8] none)) (S0 x y  d) (by kernel_rfl) h (by kernel_rfl)
theorem cut1{η:Nat→Value}{B:Bd}(hη:OneCells η)(hmix:prog.follows .mixedOrders=true)(hreg:RegOk η prog B noNest){D:Value→AH→Prop}(x y:Int) (h:W.holds η prog B 53 (fun kp_ st_=>RunD η prog B 53 (H0 x y) kp_ st_ (QF prog 127 D)) D (.ite (y != (0:Int)) (.done 53 (Value.int IntKind.i64 y) (H0 x y)) (.stop [3,6,7,8] (S2 x y  (fun _=>undef))))):RunD η prog B 53 (H0 x y) [3,6,7,8] (S1 x y  fun _=>undef) (QF prog 127 D):=by
 refine RunD.intro (S1 x y) (fun d=>⟨rfl,rfl,rfl⟩) (fun d=>tmOk_get (by kernel_rfl)) (fun d=>by kernel_rfl) (fun d=>?_)
 exact walk_okT (h0:=H0 x y) hη hmix hreg (.steps 21 <| .bit 14 (.steps 7 <| .done none) (.steps 8 <| .stop [3,6,7,8] none)) (S1 x y  d) (by kernel_rfl) h (by kernel_rfl)
theorem cut2{η:Nat→Value}{B:Bd}(hη:OneCells η)(hmix:prog.follows .mixedOrders=true)(hreg:RegOk η prog B noNest){D:Value→AH→Prop}(x y:Int) (h:W.holds η prog B 53 (fun kp_ st_=>RunD η prog B 53 (H0 x y) kp_ st_ (QF prog 127 D)) D (.done 53 (Value.int IntKind.i64 0) (H0 x y))):RunD η prog B 53 (H0 x y) [3,6,7,8] (S2 x y  fun _=>undef) (QF prog 127 D):=by
 refine RunD.intro (S2 x y) (fun d=>⟨rfl,rfl,rfl⟩) (fun d=>tmOk_get (by kernel_rfl)) (fun d=>by kernel_rfl) (fun d=>?_)
 exact walk_okT (h0:=H0 x y) hη hmix hreg (.steps 13 <| .done none) (S2 x y  d) (by kernel_rfl) h (by kernel_rfl)
end ROr
namespace RIdS
noncomputable def bd:Code:=(Go.Proofs.Tryd.f32.body).getD .skip
noncomputable def H0(ty o:Nat)(c:List Value)(n cap:Nat):AH:={ objs:=eE nZ (eE nZ (eE nZ (eE nZ (eE nZ (eE nZ (lL (AObj.cells ty c false 0))))))),next:=127 }
noncomputable def E(ty o:Nat)(c:List Value)(n cap:Nat):AS:=⟨⟨32,19,nS (sS 126 o n cap) (lL (Value.func (Fn.func 37) ⟨[]⟩ ⟨[]⟩)) nZ,[Item.code (codeAt bd [])],[],FrameMode.run,CallKind.normal,none⟩,[],H0 ty o c n cap⟩
noncomputable def S0(ty o:Nat)(c:List Value)(n cap:Nat)(i0:Int)(d:Nat→Value):AS:=⟨⟨32,19,nS (sS 126 o n cap) (nS (Value.func (Fn.func 37) ⟨[]⟩ ⟨[]⟩) (nS (d 3) (nS (iI (↑n:Int)) (lL (d 15)) nZ) (lL (d 11))) (nS (d 5) (nS (d 9) (lL (d 17)) nZ) (lL (d 13)))) (nS (d 2) (nS (d 4) (nS (iI i0) (lL (d 16)) nZ) (lL (d 12))) (nS (d 6) (nS (d 10) (lL (d 18)) nZ) (lL (d 14)))),[Item.code (codeAt bd [1,0,1,0,0]),Item.inLoop (codeAt bd [1,0,1,0,0]),Item.inBlock 0,Item.code (codeAt bd [1,1])],[],FrameMode.run,CallKind.normal,none⟩,[],⟨eE nZ (eE nZ (eE nZ (eE nZ (eE nZ (eE nZ (lL (AObj.cells ty c false 0))))))),127⟩⟩
theorem enter{η:Nat→Value}{B:Bd}(hη:OneCells η)(hmix:prog.follows .mixedOrders=true)(hreg:RegOk η prog B noNest){D:Value→AH→Prop}(ty o:Nat)(c:List Value)(n cap:Nat)(h:W.holds η prog B 32 (fun kp_ st_=>RunD η prog B 32 (H0 ty o c n cap) kp_ st_ (QF prog 127 D)) D (.stop [0,1,7,8] (S0 ty o c n cap (0) (fun _=>undef)))):CallSpec η prog B 32 [Value.slice (some ⟨126,o,none⟩) n cap,Value.func (Fn.func 37) ⟨[]⟩ ⟨[]⟩] (H0 ty o c n cap) D:=by
 refine CallSpec.ofQF hη (CallSpec.enter (fr:=(E ty o c n cap).fr) (by kernel_rfl) ?_)
 exact walk_okT (h0:=H0 ty o c n cap) hη hmix hreg (.steps 13 <| .stop [0,1,7,8] none) (E ty o c n cap) (by kernel_rfl) h (by kernel_rfl)
theorem cut0{η:Nat→Value}{B:Bd}(hη:OneCells η)(hmix:prog.follows .mixedOrders=true)(hreg:RegOk η prog B noNest){D:Value→AH→Prop}(ty o:Nat)(c:List Value)(n cap:Nat)(i0:Int)(h:let q0:AH:=⟨eE nZ (eE nZ (eE nZ (eE nZ (eE nZ (eE nZ (lL (AObj.cells ty c false 0))))))),127⟩;W.holds η prog B 32 (fun kp_ st_=>RunD η prog B 32 (H0 ty o c n cap) kp_ st_ (QF prog 127 D)) D (.ite (decide (i0<(↑n:Int))) (.need ((0:Int)≤i0∧i0<(↑n:Int)) (.need (c[o+i0.toNat * (1:Nat)]? = some (Value.string ⟨⟨strAt c (o+i0.toNat * (1:Nat))⟩⟩)) (.call 37 [Value.string ⟨⟨strAt c (o+i0.toNat * 1)⟩⟩] (q0) (.ret (Value.bool (RG.noNB (strAt c (o+i0.toNat * 1)))) (q0)) (.ite (RG.noNB (strAt c (o+i0.toNat * (1:Nat)))) (.done 32 (Value.int IntKind.i64 i0) (H0 ty o c n cap)) (.stop [0,1,7,8] (S0 ty o c n cap (IntKind.i64.wrap (i0+1)) (fun _=>undef))))))) (.done 32 (Value.int IntKind.i64 (-1)) (H0 ty o c n cap)))):RunD η prog B 32 (H0 ty o c n cap) [0,1,7,8] (S0 ty o c n cap i0 fun _=>undef) (QF prog 127 D):=by
 refine RunD.intro (S0 ty o c n cap i0) (fun d=>⟨rfl,rfl,rfl⟩) (fun d=>tmOk_get (by kernel_rfl)) (fun d=>by kernel_rfl) (fun d=>?_)
 exact walk_okT (h0:=H0 ty o c n cap) hη hmix hreg (.steps 5 <| .bit 9 (.steps 14 <| .op <| .op <| .call kN <| .steps 1 <| .bit 16 (.steps 7 <| .done none) (.steps 8 <| .stop [0,1,7,8] none)) (.steps 7 <| .done none)) (S0 ty o c n cap i0 d) (by kernel_rfl) h (by kernel_rfl)
end RIdS
namespace RCpN
noncomputable def bd:Code:=(Go.Proofs.Tryd.f28.body).getD .skip
noncomputable def H0(ty o:Nat)(c:List Value)(n cap:Nat):AH:={ objs:=eE nZ (eE nZ (eE nZ (eE nZ (eE nZ (eE nZ (lL (AObj.cells ty c false 0))))))),next:=127 }
noncomputable def E(ty o:Nat)(c:List Value)(n cap:Nat):AS:=⟨⟨28,23,lL (sS 126 o n cap),[Item.code (codeAt bd [])],[],FrameMode.run,CallKind.normal,none⟩,[],H0 ty o c n cap⟩
noncomputable def S0(ty o:Nat)(c:List Value)(n cap:Nat)(i0:Int)(l0:List Value)(d:Nat→Value):AS:=⟨⟨28,23,nS (d 0) (nS (d 1) (nS (sS 127 0 (↑n:Int).toNat (↑n:Int).toNat) (nS (d 7) (lL (d 15)) nZ) (nS (iI i0) (lL (d 19)) nZ)) (nS (d 5) (nS (sS 126 o n cap) (lL (d 17)) nZ) (nS (d 13) (lL (d 21)) nZ))) (nS (d 2) (nS (d 4) (nS (d 8) (lL (d 16)) nZ) (nS (d 12) (lL (d 20)) nZ)) (nS (d 6) (nS (iI (↑n:Int)) (lL (d 18)) nZ) (nS (d 14) (lL (d 22)) nZ))),[Item.code (codeAt bd [1,1,0,1,0,0]),Item.inLoop (codeAt bd [1,1,0,1,0,0]),Item.inBlock 0,Item.code (codeAt bd [1,1,1])],[],FrameMode.run,CallKind.normal,none⟩,[],⟨eE (eE (eE (eE (eE (eE (eE (lL (AObj.cells 9 l0 true 2)) nZ) nZ) nZ) nZ) nZ) nZ) (eE nZ (eE nZ (eE nZ (eE nZ (eE nZ (lL (AObj.cells ty c false 0))))))),128⟩⟩
theorem enter{η:Nat→Value}{B:Bd}(hη:OneCells η)(hmix:prog.follows .mixedOrders=true)(hreg:RegOk η prog B noNest){D:Value→AH→Prop}(ty o:Nat)(c:List Value)(n cap:Nat)(h:W.holds η prog B 28 (fun kp_ st_=>RunD η prog B 28 (H0 ty o c n cap) kp_ st_ (QF prog 127 D)) D (.need ((0:Int)≤(↑n:Int)∧(↑n:Int)≤(↑n:Int)∧(↑n:Int)≤(1000000:Int)) (.stop [3,9,10,11] (S0 ty o c n cap (0) (rep [Value.string ⟨#[]⟩] (↑n:Int).toNat) (fun _=>undef))))):CallSpec η prog B 28 [Value.slice (some ⟨126,o,none⟩) n cap] (H0 ty o c n cap) D:=by
 refine CallSpec.ofQF hη (CallSpec.enter (fr:=(E ty o c n cap).fr) (by kernel_rfl) ?_)
 exact walk_okT (h0:=H0 ty o c n cap) hη hmix hreg (.steps 8 <| .op <| .steps 11 <| .stop [3,9,10,11] none) (E ty o c n cap) (by kernel_rfl) h (by kernel_rfl)
theorem cut0{η:Nat→Value}{B:Bd}(hη:OneCells η)(hmix:prog.follows .mixedOrders=true)(hreg:RegOk η prog B noNest){D:Value→AH→Prop}(ty o:Nat)(c:List Value)(n cap:Nat)(i0:Int)(l0:List Value)(h:let q0:AH:=⟨eE (eE (eE (eE (eE (eE (eE (lL (AObj.cells 9 l0 true 2)) nZ) nZ) nZ) nZ) nZ) nZ) (eE nZ (eE nZ (eE nZ (eE nZ (eE nZ (lL (AObj.cells ty c false 0))))))),128⟩;W.holds η prog B 28 (fun kp_ st_=>RunD η prog B 28 (H0 ty o c n cap) kp_ st_ (QF prog 127 D)) D (.ite (decide (i0<(↑n:Int))) (.need ((0:Int)≤i0∧i0<(↑n:Int)) (.need (c[o+i0.toNat * (1:Nat)]? = some (Value.string ⟨⟨strAt c (o+i0.toNat * (1:Nat))⟩⟩)) (.call 40 [Value.string ⟨⟨strAt c (o+i0.toNat * 1)⟩⟩] (q0) (.ret (Value.string ⟨⟨strAt c (o+i0.toNat * 1)⟩⟩) (q0)) (.need ((0:Int)≤i0∧i0<(↑(↑n:Int).toNat:Int)) (.need ((0:Nat)+i0.toNat * (1:Nat)+(1:Nat)≤l0.length) (.stop [3,9,10,11] (S0 ty o c n cap (IntKind.i64.wrap (i0+1)) (splice l0 (0+i0.toNat * 1) [Value.string ⟨⟨strAt c (o+i0.toNat * 1)⟩⟩]) (fun _=>undef)))))))) (.done 28 (Value.slice (some ⟨127,0,none⟩) (↑n:Int).toNat (↑n:Int).toNat) (q0)))):RunD η prog B 28 (H0 ty o c n cap) [3,9,10,11] (S0 ty o c n cap i0 l0 fun _=>undef) (QF prog 127 D):=by
 refine RunD.intro (S0 ty o c n cap i0 l0) (fun d=>⟨rfl,rfl,rfl⟩) (fun d=>tmOk_get (by kernel_rfl)) (fun d=>by kernel_rfl) (fun d=>?_)
 exact walk_okT (h0:=H0 ty o c n cap) hη hmix hreg (.steps 5 <| .bit 12 (.steps 7 <| .op <| .op <| .steps 7 <| .call kN <| .op <| .op <| .steps 7 <| .stop [3,9,10,11] none) (.steps 8 <| .done none)) (S0 ty o c n cap i0 l0 d) (by kernel_rfl) h (by kernel_rfl)
end RCpN
namespace RSCl
noncomputable def bd:Code:=(Go.Proofs.Tryd.f40.body).getD .skip
noncomputable def H0(s:List UInt8):AH:={ objs:=nZ,next:=126 }
noncomputable def E(s:List UInt8):AS:=⟨⟨40,5,lL (Value.string ⟨⟨s⟩⟩),[Item.code (codeAt bd [])],[],FrameMode.run,CallKind.normal,none⟩,[],H0 s⟩
theorem enter{η:Nat→Value}{B:Bd}(hη:OneCells η)(hmix:prog.follows .mixedOrders=true)(hreg:RegOk η prog B noNest){D:Value→AH→Prop}(s:List UInt8)(h:let q5:=((↑(↑s.length:Int).toNat:Int) == (0:Int));let q4:W:=(.need (True) (.done 40 (Value.string ⟨#[]⟩) (H0 s)));let q3:=(rep [Value.int IntKind.u8 0] (↑s.length:Int).toNat);let q2:=(bytesV (List.take (s.length.min (↑s.length:Int).toNat) s));let q1:=(rep [Value.int IntKind.u8 (0:Int)] (↑s.length:Int).toNat);let q0:=(splice q1 (0:Nat) q2);W.holds η prog B 40 (fun kp_ st_=>RunD η prog B 40 (H0 s) kp_ st_ (QF prog 126 D)) D (.ite ((↑s.length:Int) == (0:Int)) (.done 40 (Value.string ⟨#[]⟩) (H0 s)) (.need ((0:Int)≤(↑s.length:Int)∧(↑s.length:Int)≤(↑s.length:Int)∧(↑s.length:Int)≤(1000000:Int)) (.need (True∧q2.length=s.length.min (↑s.length:Int).toNat * (1:Nat)∧(0:Nat)+q2.length≤q1.length∧q2.all oneC=true) (.ite (s.length.min (↑s.length:Int).toNat == (0:Nat)) (.need ((0:Int)≤(0:Int)∧(0:Int)<(↑(↑s.length:Int).toNat:Int)) (.need ((0:Int)≤(↑(↑s.length:Int).toNat:Int)∧(↑(↑s.length:Int).toNat:Int)≤(1000000:Int)∧(0:Nat)+(↑(↑s.length:Int).toNat:Int).toNat≤q1.length∧bytesOf (List.take (↑(↑s.length:Int).toNat:Int).toNat (List.drop (0:Nat) q1))=Except.ok (bytesIn q1 (0:Nat) (↑(↑s.length:Int).toNat:Int).toNat)) (.ite q5 q4 (.need (True) (.done 40 (Value.string ⟨⟨bytesIn q3 0 (↑(↑s.length:Int).toNat:Int).toNat⟩⟩) (H0 s)))))) (.need ((0:Int)≤(0:Int)∧(0:Int)<(↑(↑s.length:Int).toNat:Int)) (.need ((0:Int)≤(↑(↑s.length:Int).toNat:Int)∧(↑(↑s.length:Int).toNat:Int)≤(1000000:Int)∧(0:Nat)+(↑(↑s.length:Int).toNat:Int).toNat≤q0.length∧bytesOf (List.take (↑(↑s.length:Int).toNat:Int).toNat (List.drop (0:Nat) q0))=Except.ok (bytesIn q0 (0:Nat) (↑(↑s.length:Int).toNat:Int).toNat)) (.ite q5 q4 (.need (True) (.done 40 (Value.string ⟨⟨bytesIn (splice q3 0 q2) 0 (↑(↑s.length:Int).toNat:Int).toNat⟩⟩) (H0 s))))))))))):CallSpec η prog B 40 [Value.string ⟨⟨s⟩⟩] (H0 s) D:=by
 refine CallSpec.ofQF hη (CallSpec.enter (fr:=(E s).fr) (by kernel_rfl) ?_)
 exact walk_okT (h0:=H0 s) hη hmix hreg (.steps 19 <| .bit 6 (.steps 10 <| .done none) (.steps 6 <| .op <| .steps 6 <| .op <| .both (.steps 4 <| .op <| .steps 2 <| .op <| .both (.steps 7 <| .done (some ⟨126,[],[]⟩)) (.steps 7 <| .done (some ⟨126,[],[]⟩))) (.steps 4 <| .op <| .steps 2 <| .op <| .both (.steps 7 <| .done (some ⟨126,[],[]⟩)) (.steps 7 <| .done (some ⟨126,[],[]⟩))))) (E s) (by kernel_rfl) h (by kernel_rfl)
end RSCl
end Go.Ev

namespace Go.Ev
open Go Go.Proofs
variable {η:Nat→Value} {P:Program} {B:Bd}
def T.put{α:Type}(t:T α)(r:Nat):Option α→T α
 | some a=>t.set r a
 | none=>t.del r
theorem T.get_put{α:Type}(t:T α)(r:Nat)(x:Option α)(m:Nat):(t.put r x).get m=if m=r then x else t.get m:=by
 cases x with
 | some a=>exact T.get_set t r a m
 | none=>exact T.get_del t r m
def putL(rk:Nat→Nat):List (Option AObj)→Nat→T AObj→T AObj
 | [],_,t=>t
 | x :: l,i,t=>(putL rk l (i+1) t).put (rk i) x
theorem putL_get{rk:Nat→Nat}:∀ {l:List (Option AObj)} {i:Nat} {t:T AObj} {r:Nat} {a:AObj},(putL rk l i t).get r=some a→(∃ j,l[j]? = some (some a)∧rk (i+j)=r)∨(t.get r=some a∧∀ j,j<l.length→rk (i+j) ≠ r)
 | [],i,t,r,a,h=>.inr ⟨h,fun j hj=>by simp at hj⟩
 | x :: l,i,t,r,a,h=>by
  unfold putL at h
  rw [T.get_put] at h
  by_cases e:r=rk i
  ·rw [if_pos e] at h
   exact .inl ⟨0,by rw [h];rfl,e.symm⟩
  ·rw [if_neg e] at h
   rcases putL_get h with⟨j,h1,h2⟩ | ⟨h1,h2⟩
   ·exact .inl ⟨j+1,by simpa using h1,by rw [show i+(j+1)=i+1+j by omega];exact h2⟩
   ·refine .inr ⟨h1,fun j hj=>?_⟩
    cases j with
    | zero=>exact fun h=>e h.symm
    | succ j=>rw [show i+(j+1)=i+1+j by omega];exact h2 j (by simpa using hj)
def hasQ(t:T AObj):List (Option AObj)→Nat→Prop
 | [],_=>True
 | none :: l,i=>hasQ t l (i+1)
 | some a :: l,i=>t.get i=some a∧hasQ t l (i+1)
theorem hasQ_get{t:T AObj}:∀ {l:List (Option AObj)} {i j:Nat} {a:AObj},hasQ t l i→l[j]? = some (some a)→t.get (i+j)=some a
 | [],_,_,_,_,h=>by simp at h
 | none :: l,i,0,a,k,h=>by simp at h
 | some x :: l,i,0,a,k,h=>by simp at h;subst h;exact k.1
 | none :: l,i,j+1,a,k,h=>by rw [show i+(j+1)=i+1+j by omega];exact hasQ_get (l:=l) k (by simpa using h)
 | some x :: l,i,j+1,a,k,h=>by rw [show i+(j+1)=i+1+j by omega];exact hasQ_get (l:=l) k.2 (by simpa using h)
def keyQ(rn:Nat→Nat)(k n i:Nat):Nat:=if i<k then rn i else n+(i - k)
structure Stands (h:AH) (l l':List AObj) (rn:Nat→Nat):Prop where
 at_:∀ i a',l'[i]? = some a'→h.objs.get (rn i)=some a'
 rel:L2 (RO (sigR rn) (126+l.length) true) l l'
 inj:∀ i j,i<l.length→j<l.length→rn i=rn j→i=j
theorem l2_at{α β:Type}{R:α→β→Prop}:∀ {l:List α} {m:List β},L2 R l m→∀ {i:Nat} {a:α},l[i]? = some a→∃ b,m[i]? = some b∧R a b
 | _,_,.nil,i,a,h=>by simp at h
 | _,_,.cons h1 h2,0,a,h=>by simp at h;subst h;exact⟨_,rfl,h1⟩
 | _,_,.cons h1 h2,i+1,a,h=>by
  obtain⟨b,k1,k2⟩:=l2_at h2 (i:=i) (by simpa using h)
  exact⟨b,by simpa using k1,k2⟩
theorem l2_at'{α β:Type}{R:α→β→Prop}:∀ {l:List α} {m:List β},L2 R l m→∀ {i:Nat} {b:β},m[i]? = some b→∃ a,l[i]? = some a∧R a b
 | _,_,.nil,i,a,h=>by simp at h
 | _,_,.cons h1 h2,0,a,h=>by simp at h;subst h;exact⟨_,rfl,h1⟩
 | _,_,.cons h1 h2,i+1,a,h=>by
  obtain⟨b,k1,k2⟩:=l2_at' h2 (i:=i) (by simpa using h)
  exact⟨b,by simpa using k1,k2⟩
theorem l2_len{α β:Type}{R:α→β→Prop}:∀ {l:List α} {m:List β},L2 R l m→l.length=m.length
 | _,_,.nil=>rfl
 | _,_,.cons _ h=>by simp [l2_len h]
theorem Stands.emb{h:AH}{l l':List AObj}{rn:Nat→Nat}(hN:P.globals.size<126)(k:Stands h l l' rn):Emb P (sigR rn) (heapO l) h:=by
 refine⟨fun g hg=>⟨by show g<126+l.length;omega,by unfold sigR;rw [if_neg (by omega)]⟩,fun r a ha=>?_,fun r r' a a' ha ha' he=>?_⟩
 ·obtain⟨h1,hx⟩:=objsO_get ha
  obtain⟨a',e1,e2⟩:=l2_at k.rel hx
  have hlt:=(List.getElem?_eq_some_iff.1 hx).1
  exact⟨by show r<126+l.length;omega,a',by unfold sigR;rw [if_pos h1];exact k.at_ _ _ e1,e2⟩
 ·obtain⟨h1,hx⟩:=objsO_get ha
  obtain⟨h1',hy⟩:=objsO_get ha'
  unfold sigR at he
  rw [if_pos h1,if_pos h1'] at he
  have:=k.inj _ _ (List.getElem?_eq_some_iff.1 hx).1 (List.getElem?_eq_some_iff.1 hy).1 he
  omega
inductive ROp (σ:Nat→Nat) (N:Nat):Option AObj→Option AObj→Prop
 | none:ROp σ N none none
 | some {a a':AObj} (h:RO σ N false a a'):ROp σ N (some a) (some a')
theorem CallSpec.move(hη:OneCells η){f:FuncId}{args args':List Value}{l l':List AObj}{l2 l2':List (Option AObj)}{rn:Nat→Nat}{h:AH}{v v':Value}(hN:P.globals.size<126)(hs:Stands h l l' rn)(hle:l.length≤l2.length)
  (ha:L2 (RV (sigR rn) (126+l.length) true) args args') (hv:RV (sg (sigR rn) (126+l.length) h.next) (126+l2.length) false v v') (ho:L2 (ROp (sg (sigR rn) (126+l.length) h.next) (126+l2.length)) l2 l2')
  (c:CallSpec η P B f args (heapO l) fun v1 h1=>v1=v∧h1.next=126+l2.length∧hasQ h1.objs l2 126) :
  CallSpec η P B f args' h fun v1 h1=>v1=v'∧h1=⟨putL (keyQ rn l.length h.next) l2' 0 h.objs,h.next+(l2.length - l.length)⟩:=by
 refine c.frame (σ:=sigR rn) hη (hs.emb hN) ha ?_
 rintro v1 hs' ⟨rfl,hnx,hq⟩ _
 refine⟨v',_,⟨rfl,rfl⟩,by rw [hnx];exact hv,⟨?_,fun r a hr=>?_⟩⟩
 ·show h.next+(l2.length - l.length)=h.next+(hs'.next - (126+l.length));omega
 ·rcases putL_get hr with⟨j,h1,h2⟩ | ⟨h1,h2⟩
  ·rw [Nat.zero_add] at h2
   obtain⟨x,e1,e2⟩:=l2_at' ho h1
   cases e2 with
   | some hro=>
    have hlt:=(List.getElem?_eq_some_iff.1 e1).1
    have hk:sg (sigR rn) (126+l.length) h.next (126+j)=keyQ rn l.length h.next j:=by
     unfold sg keyQ sigR
     by_cases hj:j<l.length
     ·rw [if_pos (by omega),if_pos (by omega),if_pos hj,Nat.add_sub_cancel_left]
     ·rw [if_neg (by omega),if_neg hj,show 126+j - (126+l.length)=j - l.length by omega]
    exact .inl ⟨126+j,_,(by rw [hnx];omega),hk.trans h2,hasQ_get hq e1,by rw [hnx];exact hro⟩
  ·refine .inr (.inl ⟨h1,fun r0 a0 h0 e=>?_⟩)
   obtain⟨g1,g2⟩:=objsO_get h0
   have hlt:=(List.getElem?_eq_some_iff.1 g2).1
   refine h2 (r0 - 126) (l2_len ho ▸ Nat.lt_of_lt_of_le hlt hle) ?_
   unfold sigR at e
   rw [if_pos g1] at e
   rw [Nat.zero_add]
   unfold keyQ
   rw [if_pos hlt];exact e
theorem CallSpec.look(hη:OneCells η){f:FuncId}{args args':List Value}{l l':List AObj}{rn:Nat→Nat}{h:AH}{v v':Value}(hN:P.globals.size<126)(hs:Stands h l l' rn)(how:∀ a,a ∈ l→ownO a=false)
  (ha:L2 (RV (sigR rn) (126+l.length) true) args args') (hv:∀ σ N,RV σ N false v v') (c:CallSpec η P B f args (heapO l) fun v1 h1=>v1=v∧h1=heapO l) :
  CallSpec η P B f args' h fun v1 h1=>v1=v'∧h1=h:=by
 refine c.frame (σ:=sigR rn) hη (hs.emb hN) ha ?_
 rintro v1 hs' ⟨rfl,rfl⟩ _
 refine⟨v',h,⟨rfl,rfl⟩,hv _ _,⟨by simp,fun r a hr=>?_⟩⟩
 by_cases hq:∃ i,i<l.length∧rn i=r
 ·obtain⟨i,hi,e⟩:=hq
  have hx:=List.getElem?_eq_getElem hi
  exact .inr (.inr ⟨hr,126+i,_,_,(by show 126+i<126+l.length;omega),(by unfold sigR;rw [if_pos (by omega),Nat.add_sub_cancel_left,e]),objsO_at hx,how _ (List.getElem_mem hi),objsO_at hx⟩)
 ·refine .inr (.inl ⟨hr,fun r0 a0 h0 e=>hq ?_⟩)
  obtain⟨g1,g2⟩:=objsO_get h0
  unfold sigR at e
  rw [if_pos g1] at e
  exact⟨r0 - 126,(List.getElem?_eq_some_iff.1 g2).1,e⟩
end Go.Ev

namespace Go.Ev
open Go Go.Proofs
open Go.Ev.T renaming node → nN, nil → nZ
open Go.Proofs.Tryd (prog)
set_option maxRecDepth 100000
set_option maxHeartbeats 2000000
namespace HGo3
noncomputable def bd:Code:=(Go.Proofs.Tryd.f33.body).getD .skip
noncomputable def H0(u f:Int)(ty o:Nat)(c:List Value)(n cap:Nat):AH:={ objs:=eE nZ (eE nZ (eE nZ (eE nZ (eE nZ (eE nZ (lL (AObj.cells ty c false 0))))))),next:=127 }
noncomputable def E(u f:Int)(ty o:Nat)(c:List Value)(n cap:Nat):AS:=⟨⟨33,23,nS (Value.int IntKind.u32 u) (lL (Value.int IntKind.u32 f)) (lL (sS 126 o n cap)),[Item.code (codeAt bd [])],[],FrameMode.run,CallKind.normal,none⟩,[],H0 u f ty o c n cap⟩
noncomputable def S0(u f:Int)(ty o:Nat)(c:List Value)(n cap:Nat)(i0 i1:Int)(d:Nat→Value):AS:=⟨⟨33,23,nS (Value.int IntKind.u32 i0) (nS (Value.int IntKind.u32 f) (nS (d 3) (nS (d 7) (lL (d 15)) nZ) (nS (iI i1) (lL (d 19)) nZ)) (nS (d 5) (nS (sS 126 o n cap) (lL (d 17)) nZ) (nS (d 13) (lL (d 21)) nZ))) (nS (d 2) (nS (d 4) (nS (d 8) (lL (d 16)) nZ) (nS (d 12) (lL (d 20)) nZ)) (nS (d 6) (nS (iI (↑n:Int)) (lL (d 18)) nZ) (nS (d 14) (lL (d 22)) nZ))),[Item.code (codeAt bd [1,0,1,0,0]),Item.inLoop (codeAt bd [1,0,1,0,0]),Item.inBlock 0,Item.code (codeAt bd [1,1])],[],FrameMode.run,CallKind.normal,none⟩,[],⟨eE nZ (eE nZ (eE nZ (eE nZ (eE nZ (eE nZ (lL (AObj.cells ty c false 0))))))),127⟩⟩
theorem enter{η:Nat→Value}{B:Bd}(hη:OneCells η)(hmix:prog.follows .mixedOrders=true)(hreg:RegOk η prog B noNest){D:Value→AH→Prop}(u f:Int)(ty o:Nat)(c:List Value)(n cap:Nat)(h:W.holds η prog B 33 (fun kp_ st_=>RunD η prog B 33 (H0 u f ty o c n cap) kp_ st_ (QF prog 127 D)) D (.stop [0,1,9,10,11] (S0 u f ty o c n cap (u) (0) (fun _=>undef)))):CallSpec η prog B 33 [Value.int IntKind.u32 u,Value.int IntKind.u32 f,Value.slice (some ⟨126,o,none⟩) n cap] (H0 u f ty o c n cap) D:=by
 refine CallSpec.ofQF hη (CallSpec.enter (fr:=(E u f ty o c n cap).fr) (by kernel_rfl) ?_)
 exact walk_okT (h0:=H0 u f ty o c n cap) hη hmix hreg (.steps 13 <| .stop [0,1,9,10,11] none) (E u f ty o c n cap) (by kernel_rfl) h (by kernel_rfl)
theorem cut0{η:Nat→Value}{B:Bd}(hη:OneCells η)(hmix:prog.follows .mixedOrders=true)(hreg:RegOk η prog B noNest){D:Value→AH→Prop}(u f:Int)(ty o:Nat)(c:List Value)(n cap:Nat)(i0 i1:Int)(h:W.holds η prog B 33 (fun kp_ st_=>RunD η prog B 33 (H0 u f ty o c n cap) kp_ st_ (QF prog 127 D)) D (.ite (decide (i1<(↑n:Int))) (.need ((0:Int)≤i1∧i1<(↑n:Int)) (.need (c[o+i1.toNat * (1:Nat)]? = some (Value.int IntKind.u8 (intAt c (o+i1.toNat * (1:Nat))))) (.stop [0,1,9,10,11] (S0 u f ty o c n cap (IntKind.u32.wrap (IntKind.u32.wrap (↑(BitVec.ofInt IntKind.u32.bits i0 ^^^ BitVec.ofInt IntKind.u32.bits (IntKind.u32.wrap (intAt c (o+i1.toNat * 1)))).toNat:Int) * f)) (IntKind.i64.wrap (i1+1)) (fun _=>undef))))) (.done 33 (Value.int IntKind.u32 i0) (H0 u f ty o c n cap)))):RunD η prog B 33 (H0 u f ty o c n cap) [0,1,9,10,11] (S0 u f ty o c n cap i0 i1 fun _=>undef) (QF prog 127 D):=by
 refine RunD.intro (S0 u f ty o c n cap i0 i1) (fun d=>⟨rfl,rfl,rfl⟩) (fun d=>tmOk_get (by kernel_rfl)) (fun d=>by kernel_rfl) (fun d=>?_)
 exact walk_okT (h0:=H0 u f ty o c n cap) hη hmix hreg (.steps 5 <| .bit 12 (.steps 6 <| .op <| .op <| .steps 17 <| .stop [0,1,9,10,11] none) (.steps 8 <| .done none)) (S0 u f ty o c n cap i0 i1 d) (by kernel_rfl) h (by kernel_rfl)
end HGo3
end Go.Ev

namespace Go.Ev
open Go Go.Proofs
open Go.Ev.T renaming node → nN, nil → nZ
open Go.Proofs.Tryd (prog)
set_option maxRecDepth 100000
set_option maxHeartbeats 2000000
namespace HO3
noncomputable def bd:Code:=(Go.Proofs.Tryd.f25.body).getD .skip
noncomputable def H0(u:Int)(ty o:Nat)(c:List Value)(n cap:Nat):AH:={ objs:=eE nZ (eE nZ (eE nZ (eE nZ (eE nZ (eE nZ (lL (AObj.cells ty c false 0))))))),next:=127 }
noncomputable def E(u:Int)(ty o:Nat)(c:List Value)(n cap:Nat):AS:=⟨⟨25,8,nS (Value.int IntKind.u32 u) (lL (sS 126 o n cap)) nZ,[Item.code (codeAt bd [])],[],FrameMode.run,CallKind.normal,none⟩,[],H0 u ty o c n cap⟩
theorem enter{η:Nat→Value}{B:Bd}(hη:OneCells η)(hmix:prog.follows .mixedOrders=true)(hreg:RegOk η prog B noNest){D:Value→AH→Prop}(u:Int)(ty o:Nat)(c:List Value)(n cap:Nat)(h:let q1:=(Value.int IntKind.u32 (FN.fnv IntKind.u32 16777619 c o n u));let q0:AH:=⟨eE nZ (eE nZ (eE nZ (eE nZ (eE nZ (eE nZ (lL (AObj.cells ty c false 0))))))),127⟩;W.holds η prog B 25 (fun kp_ st_=>RunD η prog B 25 (H0 u ty o c n cap) kp_ st_ (QF prog 127 D)) D (.call 33 [Value.int IntKind.u32 u,Value.int IntKind.u32 16777619,Value.slice (some ⟨126,o,none⟩) n cap] (q0) (.ret q1 (q0)) (.done 25 q1 (H0 u ty o c n cap)))):CallSpec η prog B 25 [Value.int IntKind.u32 u,Value.slice (some ⟨126,o,none⟩) n cap] (H0 u ty o c n cap) D:=by
 refine CallSpec.ofQF hη (CallSpec.enter (fr:=(E u ty o c n cap).fr) (by kernel_rfl) ?_)
 exact walk_okT (h0:=H0 u ty o c n cap) hη hmix hreg (.steps 8 <| .call kN <| .steps 3 <| .done none) (E u ty o c n cap) (by kernel_rfl) h (by kernel_rfl)
end HO3
namespace HS3
noncomputable def bd:Code:=(Go.Proofs.Tryd.f15.body).getD .skip
noncomputable def H0(ty o:Nat)(c:List Value)(n cap:Nat):AH:={ objs:=eE nZ (eE nZ (eE nZ (eE nZ (eE nZ (eE nZ (lL (AObj.cells ty c false 0))))))),next:=127 }
noncomputable def E(ty o:Nat)(c:List Value)(n cap:Nat):AS:=⟨⟨15,5,lL (sS 126 o n cap),[Item.code (codeAt bd [])],[],FrameMode.run,CallKind.normal,none⟩,[],H0 ty o c n cap⟩
theorem enter{η:Nat→Value}{B:Bd}(hη:OneCells η)(hmix:prog.follows .mixedOrders=true)(hreg:RegOk η prog B noNest){D:Value→AH→Prop}(ty o:Nat)(c:List Value)(n cap:Nat)(h:let q1:=(Value.int IntKind.u32 (FN.fnv IntKind.u32 16777619 c o n 2166136261));let q0:AH:=⟨eE nZ (eE nZ (eE nZ (eE nZ (eE nZ (eE nZ (lL (AObj.cells ty c false 0))))))),127⟩;W.holds η prog B 15 (fun kp_ st_=>RunD η prog B 15 (H0 ty o c n cap) kp_ st_ (QF prog 127 D)) D (.call 25 [Value.int IntKind.u32 2166136261,Value.slice (some ⟨126,o,none⟩) n cap] (q0) (.ret q1 (q0)) (.done 15 q1 (H0 ty o c n cap)))):CallSpec η prog B 15 [Value.slice (some ⟨126,o,none⟩) n cap] (H0 ty o c n cap) D:=by
 refine CallSpec.ofQF hη (CallSpec.enter (fr:=(E ty o c n cap).fr) (by kernel_rfl) ?_)
 exact walk_okT (h0:=H0 ty o c n cap) hη hmix hreg (.steps 7 <| .call kN <| .steps 3 <| .done none) (E ty o c n cap) (by kernel_rfl) h (by kernel_rfl)
end HS3
end Go.Ev

/- Hashes of bytes: contracts. -/
namespace Go.Ev
open Go Go.Proofs
variable {η:Nat→Value} {B:Bd}
namespace FN
theorem gs9:Tryd.prog.globals.size<126:=of_decide_eq_true (by kernel_rfl)
theorem wr1(i:Nat)(h:i≤1000000):IntKind.i64.wrap ((i:Int)+1)=((i+1:Nat):Int):=by
 rw [wrap_small (by omega) (by omega)];omega
def Row8(c:List Value)(o n:Nat):Prop:=c.all bareV=true∧∀ i,i<n→c[o+i]? = some (.int .u8 (intAt c (o+i)))
theorem rowsIn1{h:AH}{r:Nat}{ty:TypeId}{c:List Value}{own:Nat}(hr:h.objs.get r=some (.cells ty c false own))(hb:c.all bareV=true):RowsIn h [(ty,c)] fun _=>r:=⟨fun i x hi=>by
 cases i with
 | zero=>simp at hi;subst hi;exact⟨hb,own,hr⟩
 | succ i=>simp at hi,fun i j hi hj _=>by simp at hi hj;omega⟩

theorem HGo3_can(hη:OneCells η)(hmix:Tryd.prog.follows .mixedOrders=true)(u f:Int){ty o n cap:Nat}{c:List Value}(hc:Row8 c o n)(hn:n≤1000000) :
  CallSpec η Tryd.prog B 33 [.int .u32 u,.int .u32 f,.slice (some ⟨126,o,none⟩) n cap] (heapT [(ty,c)]) fun v h=>v = .int .u32 (fnv .u32 f c o n u)∧h=heapT [(ty,c)]:=by
 have e0:HGo3.H0 u f ty o c n cap=heapT [(ty,c)]:=rfl
 rw [← e0]
 have cut:=fun i0 i1=>HGo3.cut0 (η:=η) (B:=B) (D:=fun v h=>v = .int .u32 (fnv .u32 f c o n u)∧h=HGo3.H0 u f ty o c n cap) hη hmix (reg0 hη hmix) u f ty o c n cap i0 i1
 refine HGo3.enter hη hmix (reg0 hη hmix) _ _ _ _ _ _ _ ?_
 simp only [W.holds,true_and,and_true,decide_eq_true_eq,decide_eq_false_iff_not,Nat.mul_one,true_implies] at cut ⊢
 have loop:∀ (m i:Nat) (x:Int),i+m=n→fnvC .u32 f c m (o+i) x=fnv .u32 f c o n u→RunD η Tryd.prog B 33 (HGo3.H0 u f ty o c n cap) [0,1,9,10,11] (HGo3.S0 u f ty o c n cap x (i:Int) fun _=>undef) (QF Tryd.prog 127 fun v h=>v = .int .u32 (fnv .u32 f c o n u)∧h=HGo3.H0 u f ty o c n cap):=by
  intro m
  induction m with
  | zero=>
   intro i x hi he
   exact cut _ _ ⟨fun q=>by omega,fun _=>by rw [← he];rfl⟩
  | succ m ih=>
   intro i x hi he
   have c1:=cut x (i:Int)
   simp only [wr1 i (by omega),Int.toNat_natCast] at c1
   have nx:=ih (i+1) (stp .u32 f x (intAt c (o+i))) (by omega) he
   simp only [stp] at nx
   exact c1 ⟨fun _=>⟨⟨by omega,by omega⟩,fun _=>⟨hc.2 i (by omega),fun _=>nx⟩⟩,fun q=>by omega⟩
 exact loop n 0 u (by omega) (by unfold fnv;rfl)

theorem onV_any(hη:OneCells η){fn:FuncId}{pre:List Value}{k:IntKind}{y:Int}{H:AH}{r o n cap:Nat}{ty:TypeId}{c:List Value}{own:Nat}(hr:H.objs.get r=some (.cells ty c false own))(hc:Row8 c o n)(hp:∀ σ M,L2 (RV σ M true) pre pre)
  (k1:CallSpec η Tryd.prog B fn (pre ++ [.slice (some ⟨126,o,none⟩) n cap]) (heapT [(ty,c)]) fun v h=>v = .int k y∧h=heapT [(ty,c)]) :
  CallSpec η Tryd.prog B fn (pre ++ [.slice (some ⟨r,o,none⟩) n cap]) H (KT.ret (.int k y) H).sat:=by
 refine CallSpec.pureR hη gs9 (rowsIn1 hr hc.1) ?_ (fun _ _=>.int _ _) k1
 exact(hp _ _).append (.cons (.slice (σ:=sigR fun _=>r) _ _ (by simp)) .nil)

theorem HO3_can(hη:OneCells η)(hmix:Tryd.prog.follows .mixedOrders=true)(u:Int){ty o n cap:Nat}{c:List Value}(hc:Row8 c o n)(hn:n≤1000000) :
  CallSpec η Tryd.prog B 25 [.int .u32 u,.slice (some ⟨126,o,none⟩) n cap] (heapT [(ty,c)]) fun v h=>v = .int .u32 (fnv .u32 16777619 c o n u)∧h=heapT [(ty,c)]:=by
 refine HO3.enter hη hmix (reg0 hη hmix) _ _ _ _ _ _ ?_
 simp only [W.holds,true_and,and_true,true_implies]
 exact⟨HGo3_can hη hmix u 16777619 hc hn,rfl⟩

theorem HS3_can(hη:OneCells η)(hmix:Tryd.prog.follows .mixedOrders=true){ty o n cap:Nat}{c:List Value}(hc:Row8 c o n)(hn:n≤1000000) :
  CallSpec η Tryd.prog B 15 [.slice (some ⟨126,o,none⟩) n cap] (heapT [(ty,c)]) fun v h=>v = .int .u32 (fnv .u32 16777619 c o n 2166136261)∧h=heapT [(ty,c)]:=by
 refine HS3.enter hη hmix (reg0 hη hmix) _ _ _ _ _ ?_
 simp only [W.holds,true_and,and_true,true_implies]
 exact⟨HO3_can hη hmix 2166136261 hc hn,rfl⟩

end FN
end Go.Ev

/- Rings of backends: contracts of the small functions. -/
namespace Go.Ev
open Go Go.Proofs
variable {η:Nat→Value} {B:Bd}
namespace RG
theorem cmp32_any(hη:OneCells η)(hmix:Tryd.prog.follows .mixedOrders=true)(a b:Int)(H:AH):CallSpec η Tryd.prog B 54 [.int .u32 a,.int .u32 b] H (KT.ret (.int .i64 (cmpI a b)) H).sat:=by
 refine CallSpec.bare hη FN.gs9 (N:=126) (fun _ _=>.cons (.int _ _) (.cons (.int _ _) .nil)) (fun _ _=>.int _ _) (fun _ _=>.int _ _) ?_ H
 refine RC32.enter hη hmix (reg0 hη hmix) a b ?_
 simp only [W.holds,bne_self_eq_false,Bool.false_eq_true,false_implies,true_implies,true_and,and_true,decide_eq_true_eq,decide_eq_false_iff_not]
 refine⟨fun h=>?_,fun h=>⟨fun h2=>?_,fun h2=>?_⟩⟩
 ·unfold cmpI;rw [if_pos h]
 ·unfold cmpI;rw [if_neg h,if_pos h2]
 ·unfold cmpI;rw [if_neg h,if_neg h2]
theorem cmp64_any(hη:OneCells η)(hmix:Tryd.prog.follows .mixedOrders=true)(a b:Int)(H:AH):CallSpec η Tryd.prog B 55 [.int .i64 a,.int .i64 b] H (KT.ret (.int .i64 (cmpI a b)) H).sat:=by
 refine CallSpec.bare hη FN.gs9 (N:=126) (fun _ _=>.cons (.int _ _) (.cons (.int _ _) .nil)) (fun _ _=>.int _ _) (fun _ _=>.int _ _) ?_ H
 refine RC64.enter hη hmix (reg0 hη hmix) a b ?_
 simp only [W.holds,bne_self_eq_false,Bool.false_eq_true,false_implies,true_implies,true_and,and_true,decide_eq_true_eq,decide_eq_false_iff_not]
 refine⟨fun h=>?_,fun h=>⟨fun h2=>?_,fun h2=>?_⟩⟩
 ·unfold cmpI;rw [if_pos h]
 ·unfold cmpI;rw [if_neg h,if_pos h2]
 ·unfold cmpI;rw [if_neg h,if_neg h2]
theorem or_can(hη:OneCells η)(hmix:Tryd.prog.follows .mixedOrders=true)(x y:Int) :
  CallSpec η Tryd.prog B 53 [.slice (some ⟨126,0,none⟩) 2 2] (heapO [.cells 3 [.int .i64 x,.int .i64 y] true 0]) fun v h=>v = .int .i64 (orI x y)∧h=heapO [.cells 3 [.int .i64 x,.int .i64 y] true 0]:=by
 have e0:ROr.H0 x y=heapO [.cells 3 [.int .i64 x,.int .i64 y] true 0]:=rfl
 rw [← e0]
 have cut0:=ROr.cut0 (η:=η) (B:=B) (D:=fun v h=>v = .int .i64 (orI x y)∧h=ROr.H0 x y) hη hmix (reg0 hη hmix) x y
 have cut1:=ROr.cut1 (η:=η) (B:=B) (D:=fun v h=>v = .int .i64 (orI x y)∧h=ROr.H0 x y) hη hmix (reg0 hη hmix) x y
 have cut2:=ROr.cut2 (η:=η) (B:=B) (D:=fun v h=>v = .int .i64 (orI x y)∧h=ROr.H0 x y) hη hmix (reg0 hη hmix) x y
 refine ROr.enter hη hmix (reg0 hη hmix) _ _ ?_
 simp only [W.holds,bne_iff_ne,ne_eq,bne_eq_false_iff_eq,true_and,and_true,true_implies] at cut0 cut1 cut2 ⊢
 refine cut0 ⟨fun h=>by unfold orI;rw [if_neg h],fun h=>cut1 ⟨fun h2=>by unfold orI;rw [if_pos h],fun h2=>cut2 (by unfold orI;rw [if_pos h,h2])⟩⟩
theorem or_any(hη:OneCells η)(hmix:Tryd.prog.follows .mixedOrders=true)(x y:Int){H:AH}{r:Nat}(hr:H.objs.get r=some (.cells 3 [.int .i64 x,.int .i64 y] true 2)):CallSpec η Tryd.prog B 53 [.slice (some ⟨r,0,none⟩) 2 2] H (KT.ret (.int .i64 (orI x y)) H).sat:=by
 refine CallSpec.look hη FN.gs9 (rn:=fun _=>r) (l:=[.cells 3 [.int .i64 x,.int .i64 y] true 0]) (l':=[.cells 3 [.int .i64 x,.int .i64 y] true 2]) (args:=[.slice (some ⟨126,0,none⟩) 2 2]) ⟨fun i a' hi=>?_,.cons (.cells _ _ (.cons (.int _ _) (.cons (.int _ _) .nil)) (.inr ⟨rfl,rfl⟩)) .nil,fun i j hi hj _=>by simp at hi hj;omega⟩ (fun a ha=>by simp at ha;subst ha;rfl) (.cons (.slice (σ:=sigR fun _=>r) _ _ (show 126<127 by decide)) .nil) (fun _ _=>.int _ _) (or_can hη hmix x y)
 cases i with
 | zero=>simp at hi;subst hi;exact hr
 | succ i=>simp at hi
theorem cmpP_can(hη:OneCells η)(hmix:Tryd.prog.follows .mixedOrders=true)(a b i j:Int):CallSpec η Tryd.prog B 43 [.agg ⟨[.int .u32 a,.int .i64 i]⟩,.agg ⟨[.int .u32 b,.int .i64 j]⟩] (heapN 126) fun v _=>v = .int .i64 (cmpP (a,i) (b,j)):=by
 refine RCmp.enter hη hmix (reg0 hη hmix) a b i j ?_
 simp only [W.holds,eq_self,true_and,and_true,true_implies]
 have n1:(54:Nat)=55→False:=fun q=>absurd q (by decide)
 have n2:(54:Nat)=53→False:=fun q=>absurd q (by decide)
 have n3:(55:Nat)=53→False:=fun q=>absurd q (by decide)
 exact⟨cmp32_any hη hmix _ _ _,cmp64_any hη hmix _ _ _,⟨fun q=>(n1 q).elim,trivial⟩,fun _=>⟨or_any hη hmix _ _ (by kernel_rfl),⟨fun q=>(n3 q).elim,fun q=>(n2 q).elim,trivial⟩,fun _=>rfl⟩⟩
theorem cmpH_any(hη:OneCells η)(hmix:Tryd.prog.follows .mixedOrders=true)(a b i:Int)(H:AH):CallSpec η Tryd.prog B 45 [.agg ⟨[.int .u32 a,.int .i64 i]⟩,.int .u32 b] H (KT.ret (.int .i64 (cmpI a b)) H).sat:=by
 refine CallSpec.bare hη FN.gs9 (N:=126) (fun _ _=>.cons (.agg rfl fun j y z h1 h2=>?_) (.cons (.int _ _) .nil)) (fun _ _=>.int _ _) (fun _ _=>.int _ _) ?_ H
 ·match j,h1,h2 with
  | 0,h1,h2=>simp at h1 h2;subst h1;subst h2;exact .int _ _
  | 1,h1,h2=>simp at h1 h2;subst h1;subst h2;exact .int _ _
  | j+2,h1,h2=>simp at h1
 ·refine RCmH.enter hη hmix (reg0 hη hmix) a b i ?_
  simp only [W.holds,bne_self_eq_false,Bool.false_eq_true,false_implies,true_implies,true_and,and_true,decide_eq_true_eq,decide_eq_false_iff_not]
  refine⟨fun h=>?_,fun h=>⟨fun h2=>?_,fun h2=>?_⟩⟩
  ·unfold cmpI;rw [if_pos h]
  ·unfold cmpI;rw [if_neg h,if_pos h2]
  ·unfold cmpI;rw [if_neg h,if_neg h2]
theorem w1(i:Nat)(h:i≤1000000):IntKind.i64.wrap ((i:Int)+1)=((i+1:Nat):Int):=FN.wr1 i h
def RowI(c:List Value)(o n:Nat):Prop:=c.all bareV=true∧∀ i,i<n→c[o+i]? = some (.int .i64 (intAt c (o+i)))
def RowS(c:List Value)(o n:Nat):Prop:=c.all bareV=true∧∀ i,i<n→c[o+i]? = some (.string ⟨⟨strAt c (o+i)⟩⟩)
theorem idI_can(hη:OneCells η)(hmix:Tryd.prog.follows .mixedOrders=true){ty o n cap:Nat}{c:List Value}(hc:RowI c o n)(hn:n≤1000000) :
  CallSpec η Tryd.prog B 47 [.slice (some ⟨126,o,none⟩) n cap,.func (.func 36) #[] #[]] (heapT [(ty,c)]) fun v h=>v = .int .i64 (fstIx (fun i=>noW (intAt c (o+i))) n 0)∧h=heapT [(ty,c)]:=by
 have e0:RIdI.H0 ty o c n cap=heapT [(ty,c)]:=rfl
 rw [← e0]
 have cut:=fun i0=>RIdI.cut0 (η:=η) (B:=B) (D:=fun v h=>v = .int .i64 (fstIx (fun i=>noW (intAt c (o+i))) n 0)∧h=RIdI.H0 ty o c n cap) hη hmix (reg0 hη hmix) ty o c n cap i0
 refine RIdI.enter hη hmix (reg0 hη hmix) _ _ _ _ _ ?_
 simp only [W.holds,true_and,and_true,decide_eq_true_eq,decide_eq_false_iff_not,Nat.mul_one,true_implies] at cut ⊢
 have loop:∀ (m i:Nat),i+m=n→fstIx (fun i=>noW (intAt c (o+i))) m i=fstIx (fun i=>noW (intAt c (o+i))) n 0→RunD η Tryd.prog B 47 (RIdI.H0 ty o c n cap) [0,1,7,8] (RIdI.S0 ty o c n cap (i:Int) fun _=>undef) (QF Tryd.prog 127 fun v h=>v = .int .i64 (fstIx (fun i=>noW (intAt c (o+i))) n 0)∧h=RIdI.H0 ty o c n cap):=by
  intro m
  induction m with
  | zero=>
   intro i hi he
   exact cut _ ⟨fun q=>by omega,fun _=>by rw [← he];rfl⟩
  | succ m ih=>
   intro i hi he
   have c1:=cut (i:Int)
   simp only [w1 i (by omega),Int.toNat_natCast] at c1
   have he2:fstIx (fun i=>noW (intAt c (o+i))) (m+1) i=if noW (intAt c (o+i)) then(i:Int) else fstIx (fun i=>noW (intAt c (o+i))) m (i+1):=rfl
   rw [he2] at he
   refine c1 ⟨fun _=>⟨⟨by omega,by omega⟩,fun _=>⟨hc.2 i (by omega),fun _=>⟨fun h=>?_,fun h=>⟨fun h2=>?_,fun h2=>ih (i+1) (by omega) ?_⟩⟩⟩⟩,fun q=>by omega⟩
   ·rw [← he,if_pos (by unfold noW;rw [decide_eq_true h];rfl)]
   ·rw [← he,if_pos (by unfold noW;rw [decide_eq_true (show 20<intAt c (o+i) from h2),Bool.or_true])]
   ·rw [← he,if_neg (by unfold noW;rw [decide_eq_false h,decide_eq_false (show ¬ 20<intAt c (o+i) from h2)];simp)]
 exact loop n 0 (by omega) rfl
end RG
end Go.Ev

namespace Go.Ev
open Go Go.Proofs
open Go.Ev.T renaming node → nN, nil → nZ
open Go.Proofs.Tryd (prog)
set_option maxRecDepth 100000
set_option maxHeartbeats 2000000
namespace RCfI
noncomputable def bd:Code:=(Go.Proofs.Tryd.f35.body).getD .skip
noncomputable def H0(ty o:Nat)(c:List Value)(n cap:Nat):AH:={ objs:=eE nZ (eE nZ (eE nZ (eE nZ (eE nZ (eE nZ (lL (AObj.cells ty c false 0))))))),next:=127 }
noncomputable def E(ty o:Nat)(c:List Value)(n cap:Nat):AS:=⟨⟨35,9,nS (sS 126 o n cap) (lL (Value.func (Fn.func 36) ⟨[]⟩ ⟨[]⟩)) nZ,[Item.code (codeAt bd [])],[],FrameMode.run,CallKind.normal,none⟩,[],H0 ty o c n cap⟩
theorem enter{η:Nat→Value}{B:Bd}(hη:OneCells η)(hmix:prog.follows .mixedOrders=true)(hreg:RegOk η prog B noNest){D:Value→AH→Prop}(ty o:Nat)(c:List Value)(n cap:Nat)(h:let q0:AH:=⟨eE nZ (eE nZ (eE nZ (eE nZ (eE nZ (eE nZ (lL (AObj.cells ty c false 0))))))),127⟩;W.holds η prog B 35 (fun kp_ st_=>RunD η prog B 35 (H0 ty o c n cap) kp_ st_ (QF prog 127 D)) D (.call 47 [Value.slice (some ⟨126,o,none⟩) n cap,Value.func (Fn.func 36) ⟨[]⟩ ⟨[]⟩] (q0) (.ret (Value.int IntKind.i64 (RG.badW c o n)) (q0)) (.done 35 (Value.bool (decide (RG.badW c o n ≥ 0))) (H0 ty o c n cap)))):CallSpec η prog B 35 [Value.slice (some ⟨126,o,none⟩) n cap,Value.func (Fn.func 36) ⟨[]⟩ ⟨[]⟩] (H0 ty o c n cap) D:=by
 refine CallSpec.ofQF hη (CallSpec.enter (fr:=(E ty o c n cap).fr) (by kernel_rfl) ?_)
 exact walk_okT (h0:=H0 ty o c n cap) hη hmix hreg (.steps 8 <| .call kN <| .steps 4 <| .done none) (E ty o c n cap) (by kernel_rfl) h (by kernel_rfl)
end RCfI
namespace RCfS
noncomputable def bd:Code:=(Go.Proofs.Tryd.f23.body).getD .skip
noncomputable def H0(ty o:Nat)(c:List Value)(n cap:Nat):AH:={ objs:=eE nZ (eE nZ (eE nZ (eE nZ (eE nZ (eE nZ (lL (AObj.cells ty c false 0))))))),next:=127 }
noncomputable def E(ty o:Nat)(c:List Value)(n cap:Nat):AS:=⟨⟨23,9,nS (sS 126 o n cap) (lL (Value.func (Fn.func 37) ⟨[]⟩ ⟨[]⟩)) nZ,[Item.code (codeAt bd [])],[],FrameMode.run,CallKind.normal,none⟩,[],H0 ty o c n cap⟩
theorem enter{η:Nat→Value}{B:Bd}(hη:OneCells η)(hmix:prog.follows .mixedOrders=true)(hreg:RegOk η prog B noNest){D:Value→AH→Prop}(ty o:Nat)(c:List Value)(n cap:Nat)(h:let q0:AH:=⟨eE nZ (eE nZ (eE nZ (eE nZ (eE nZ (eE nZ (lL (AObj.cells ty c false 0))))))),127⟩;W.holds η prog B 23 (fun kp_ st_=>RunD η prog B 23 (H0 ty o c n cap) kp_ st_ (QF prog 127 D)) D (.call 32 [Value.slice (some ⟨126,o,none⟩) n cap,Value.func (Fn.func 37) ⟨[]⟩ ⟨[]⟩] (q0) (.ret (Value.int IntKind.i64 (RG.badN c o n)) (q0)) (.done 23 (Value.bool (decide (RG.badN c o n ≥ 0))) (H0 ty o c n cap)))):CallSpec η prog B 23 [Value.slice (some ⟨126,o,none⟩) n cap,Value.func (Fn.func 37) ⟨[]⟩ ⟨[]⟩] (H0 ty o c n cap) D:=by
 refine CallSpec.ofQF hη (CallSpec.enter (fr:=(E ty o c n cap).fr) (by kernel_rfl) ?_)
 exact walk_okT (h0:=H0 ty o c n cap) hη hmix hreg (.steps 8 <| .call kN <| .steps 4 <| .done none) (E ty o c n cap) (by kernel_rfl) h (by kernel_rfl)
end RCfS
namespace RCon
noncomputable def bd:Code:=(Go.Proofs.Tryd.f48.body).getD .skip
noncomputable def H0(ty o:Nat)(c:List Value)(n cap:Nat)(s:List UInt8):AH:={ objs:=eE nZ (eE nZ (eE nZ (eE nZ (eE nZ (eE nZ (lL (AObj.cells ty c false 0))))))),next:=127 }
noncomputable def E(ty o:Nat)(c:List Value)(n cap:Nat)(s:List UInt8):AS:=⟨⟨48,9,nS (sS 126 o n cap) (lL (Value.string ⟨⟨s⟩⟩)) nZ,[Item.code (codeAt bd [])],[],FrameMode.run,CallKind.normal,none⟩,[],H0 ty o c n cap s⟩
theorem enter{η:Nat→Value}{B:Bd}(hη:OneCells η)(hmix:prog.follows .mixedOrders=true)(hreg:RegOk η prog B noNest){D:Value→AH→Prop}(ty o:Nat)(c:List Value)(n cap:Nat)(s:List UInt8)(h:let q0:AH:=⟨eE nZ (eE nZ (eE nZ (eE nZ (eE nZ (eE nZ (lL (AObj.cells ty c false 0))))))),127⟩;W.holds η prog B 48 (fun kp_ st_=>RunD η prog B 48 (H0 ty o c n cap s) kp_ st_ (QF prog 127 D)) D (.call 56 [Value.slice (some ⟨126,o,none⟩) n cap,Value.string ⟨⟨s⟩⟩] (q0) (.ret (Value.int IntKind.i64 (RG.ixS c s o n)) (q0)) (.done 48 (Value.bool (decide (RG.ixS c s o n ≥ 0))) (H0 ty o c n cap s)))):CallSpec η prog B 48 [Value.slice (some ⟨126,o,none⟩) n cap,Value.string ⟨⟨s⟩⟩] (H0 ty o c n cap s) D:=by
 refine CallSpec.ofQF hη (CallSpec.enter (fr:=(E ty o c n cap s).fr) (by kernel_rfl) ?_)
 exact walk_okT (h0:=H0 ty o c n cap s) hη hmix hreg (.steps 8 <| .call kN <| .steps 4 <| .done none) (E ty o c n cap s) (by kernel_rfl) h (by kernel_rfl)
end RCon
namespace RTwi
noncomputable def bd:Code:=(Go.Proofs.Tryd.f38.body).getD .skip
noncomputable def H0(ty o:Nat)(c:List Value)(n cap:Nat):AH:={ objs:=eE nZ (eE nZ (eE nZ (eE nZ (eE nZ (eE nZ (lL (AObj.cells ty c false 0))))))),next:=127 }
noncomputable def E(ty o:Nat)(c:List Value)(n cap:Nat):AS:=⟨⟨38,18,lL (sS 126 o n cap),[Item.code (codeAt bd [])],[],FrameMode.run,CallKind.normal,none⟩,[],H0 ty o c n cap⟩
noncomputable def S0(ty o:Nat)(c:List Value)(n cap:Nat)(i0:Int)(d:Nat→Value):AS:=⟨⟨38,18,nS (sS 126 o n cap) (nS (d 1) (nS (d 3) (nS (iI i0) (lL (d 15)) nZ) (lL (d 11))) (nS (sS 126 o n cap) (nS (d 9) (lL (d 17)) nZ) (lL (d 13)))) (nS (d 2) (nS (d 4) (nS (d 8) (lL (d 16)) nZ) (lL (d 12))) (nS (iI (↑n:Int)) (lL (d 10)) (lL (d 14)))),[Item.code (codeAt bd [1,0,1,0,0]),Item.inLoop (codeAt bd [1,0,1,0,0]),Item.inBlock 0,Item.code (codeAt bd [1,1])],[],FrameMode.run,CallKind.normal,none⟩,[],⟨eE nZ (eE nZ (eE nZ (eE nZ (eE nZ (eE nZ (lL (AObj.cells ty c false 0))))))),127⟩⟩
theorem enter{η:Nat→Value}{B:Bd}(hη:OneCells η)(hmix:prog.follows .mixedOrders=true)(hreg:RegOk η prog B noNest){D:Value→AH→Prop}(ty o:Nat)(c:List Value)(n cap:Nat)(h:W.holds η prog B 38 (fun kp_ st_=>RunD η prog B 38 (H0 ty o c n cap) kp_ st_ (QF prog 127 D)) D (.stop [0,5,6,7] (S0 ty o c n cap (0) (fun _=>undef)))):CallSpec η prog B 38 [Value.slice (some ⟨126,o,none⟩) n cap] (H0 ty o c n cap) D:=by
 refine CallSpec.ofQF hη (CallSpec.enter (fr:=(E ty o c n cap).fr) (by kernel_rfl) ?_)
 exact walk_okT (h0:=H0 ty o c n cap) hη hmix hreg (.steps 13 <| .stop [0,5,6,7] none) (E ty o c n cap) (by kernel_rfl) h (by kernel_rfl)
theorem cut0{η:Nat→Value}{B:Bd}(hη:OneCells η)(hmix:prog.follows .mixedOrders=true)(hreg:RegOk η prog B noNest){D:Value→AH→Prop}(ty o:Nat)(c:List Value)(n cap:Nat)(i0:Int)(h:let q0:AH:=⟨eE nZ (eE nZ (eE nZ (eE nZ (eE nZ (eE nZ (lL (AObj.cells ty c false 0))))))),127⟩;W.holds η prog B 38 (fun kp_ st_=>RunD η prog B 38 (H0 ty o c n cap) kp_ st_ (QF prog 127 D)) D (.ite (decide (i0<(↑n:Int))) (.need ((0:Int)≤i0∧i0<(↑n:Int)) (.need (c[o+i0.toNat * (1:Nat)]? = some (Value.string ⟨⟨strAt c (o+i0.toNat * (1:Nat))⟩⟩)) (.need ((0:Int)≤(0:Int)∧(0:Int)≤i0∧capP cap (cap=(9223372036854775809:Nat)∧(1:Nat) ≠ (0:Nat)∧i0≤(↑n:Int)∧((0:Int)<(↑n:Int)∨(0:Int)=(0:Int))) (i0≤(↑cap:Int))) (.call 48 [Value.slice (some ⟨126,o+capN cap 0 (cutN cap 0 1),none⟩) (i0.toNat - 0) (capN cap cap (cap - 0)),Value.string ⟨⟨strAt c (o+i0.toNat * 1)⟩⟩] (q0) (.ret (Value.bool (decide (0≤RG.ixS c (strAt c (o+i0.toNat * 1)) (o+capN cap 0 (cutN cap 0 1)) (i0.toNat - 0)))) (q0)) (.ite (decide ((0:Int)≤RG.ixS c (strAt c (o+i0.toNat * (1:Nat))) (o+capN cap (0:Nat) (cutN cap (0:Nat) (1:Nat))) (i0.toNat - (0:Nat)))) (.done 38 (Value.bool true) (H0 ty o c n cap)) (.stop [0,5,6,7] (S0 ty o c n cap (IntKind.i64.wrap (i0+1)) (fun _=>undef)))))))) (.done 38 (Value.bool false) (H0 ty o c n cap)))):RunD η prog B 38 (H0 ty o c n cap) [0,5,6,7] (S0 ty o c n cap i0 fun _=>undef) (QF prog 127 D):=by
 refine RunD.intro (S0 ty o c n cap i0) (fun d=>⟨rfl,rfl,rfl⟩) (fun d=>tmOk_get (by kernel_rfl)) (fun d=>by kernel_rfl) (fun d=>?_)
 exact walk_okT (h0:=H0 ty o c n cap) hη hmix hreg (.steps 5 <| .bit 8 (.steps 7 <| .op <| .op <| .steps 7 <| .op <| .steps 1 <| .call kN <| .steps 1 <| .bit 16 (.steps 6 <| .done none) (.steps 8 <| .stop [0,5,6,7] none)) (.steps 7 <| .done none)) (S0 ty o c n cap i0 d) (by kernel_rfl) h (by kernel_rfl)
end RTwi
namespace RChk
noncomputable def bd:Code:=(Go.Proofs.Tryd.f27.body).getD .skip
noncomputable def H0(ty ty' o o':Nat)(c c':List Value)(n n' cap cap':Nat)(k:Int):AH:={ objs:=eE (eE (eE (eE (eE (eE (eE (lL (AObj.cells ty' c' false 0)) nZ) nZ) nZ) nZ) nZ) nZ) (eE nZ (eE nZ (eE nZ (eE nZ (eE nZ (lL (AObj.cells ty c false 0))))))),next:=128 }
noncomputable def E(ty ty' o o':Nat)(c c':List Value)(n n' cap cap':Nat)(k:Int):AS:=⟨⟨27,44,nS (sS 126 o n cap) (lL (Value.slice (some ⟨127,o',none⟩) n' cap')) (lL (iI k)),[Item.code (codeAt bd [])],[],FrameMode.run,CallKind.normal,none⟩,[],H0 ty ty' o o' c c' n n' cap cap' k⟩
theorem enter{η:Nat→Value}{B:Bd}(hη:OneCells η)(hmix:prog.follows .mixedOrders=true)(hreg:RegOk η prog B noNest){D:Value→AH→Prop}(ty ty' o o':Nat)(c c':List Value)(n n' cap cap':Nat)(k:Int)(h:let q2:W:=(.done 27 (Value.int IntKind.i64 7) (H0 ty ty' o o' c c' n n' cap cap' k));let q1:W:=(.done 27 (Value.int IntKind.i64 3) (H0 ty ty' o o' c c' n n' cap cap' k));let q0:AH:=⟨eE (eE (eE (eE (eE (eE (eE (lL (AObj.cells ty' c' false 0)) nZ) nZ) nZ) nZ) nZ) nZ) (eE nZ (eE nZ (eE nZ (eE nZ (eE nZ (lL (AObj.cells ty c false 0))))))),128⟩;W.holds η prog B 27 (fun kp_ st_=>RunD η prog B 27 (H0 ty ty' o o' c c' n n' cap cap' k) kp_ st_ (QF prog 128 D)) D (.ite ((↑n:Int) == (0:Int)) q1 (.ite (decide ((↑n:Int) > (16:Int))) q1 (.ite ((↑n':Int) != (↑n:Int)) (.done 27 (Value.int IntKind.i64 2) (H0 ty ty' o o' c c' n n' cap cap' k)) (.call 35 [Value.slice (some ⟨127,o',none⟩) n' cap',Value.func (Fn.func 36) ⟨[]⟩ ⟨[]⟩] (q0) (.ret (Value.bool (decide (0≤RG.badW c' o' n'))) (q0)) (.ite (decide ((0:Int)≤RG.badW c' o' n')) q2 (.ite (decide (k<(1:Int))) q2 (.ite (decide (k > (100:Int))) q2 (.call 23 [Value.slice (some ⟨126,o,none⟩) n cap,Value.func (Fn.func 37) ⟨[]⟩ ⟨[]⟩] (q0) (.ret (Value.bool (decide (0≤RG.badN c o n))) (q0)) (.ite (decide ((0:Int)≤RG.badN c o n)) (.done 27 (Value.int IntKind.i64 6) (H0 ty ty' o o' c c' n n' cap cap' k)) (.call 38 [Value.slice (some ⟨126,o,none⟩) n cap] (q0) (.ret (Value.bool (RG.twi c o n)) (q0)) (.ite (RG.twi c o n) (.done 27 (Value.int IntKind.i64 8) (H0 ty ty' o o' c c' n n' cap cap' k)) (.call 39 [Value.slice (some ⟨127,o',none⟩) n' cap',Value.int IntKind.i64 k] (q0) (.ret (Value.int IntKind.i64 (RG.cnt c' k o' n')) (q0)) (.ite (decide (RG.cnt c' k o' n' > (4096:Int))) q1 (.done 27 (Value.int IntKind.i64 0) (H0 ty ty' o o' c c' n n' cap cap' k)))))))))))))))):CallSpec η prog B 27 [Value.slice (some ⟨126,o,none⟩) n cap,Value.slice (some ⟨127,o',none⟩) n' cap',Value.int IntKind.i64 k] (H0 ty ty' o o' c c' n n' cap cap' k) D:=by
 refine CallSpec.ofQF hη (CallSpec.enter (fr:=(E ty ty' o o' c c' n n' cap cap' k).fr) (by kernel_rfl) ?_)
 exact walk_okT (h0:=H0 ty ty' o o' c c' n n' cap cap' k) hη hmix hreg (.steps 12 <| .bit 11 (.steps 12 <| .done none) (.steps 6 <| .bit 7 (.steps 6 <| .done none) (.steps 10 <| .bit 16 (.steps 6 <| .done none) (.steps 4 <| .call kN <| .steps 1 <| .bit 25 (.steps 15 <| .done none) (.steps 4 <| .bit 29 (.steps 11 <| .done none) (.steps 5 <| .bit 22 (.steps 6 <| .done none) (.steps 4 <| .call kN <| .steps 2 <| .bit 33 (.steps 6 <| .done none) (.steps 4 <| .call kN <| .steps 2 <| .bit 36 (.steps 6 <| .done none) (.steps 5 <| .call kN <| .steps 3 <| .bit 39 (.steps 6 <| .done none) (.steps 8 <| .done none)))))))))) (E ty ty' o o' c c' n n' cap cap' k) (by kernel_rfl) h (by kernel_rfl)
end RChk
end Go.Ev

/- Rings of backends: names and weights. -/
namespace Go.Ev
open Go Go.Proofs
variable {η:Nat→Value} {B:Bd}
namespace RG
theorem rv_f(f:Nat){σ:Nat→Nat}{N:Nat}{wk:Bool}:RV σ N wk (.func (.func f) #[] #[]) (.func (.func f) #[] #[]):=RV.func (.same fun l h=>by cases h) rfl rfl (fun i v x h1 _=>by simp at h1) (fun i v x h1 _=>by simp at h1)
theorem row_any(hη:OneCells η){fn:FuncId}{post:List Value}{x:Value}{H:AH}{r o n cap:Nat}{ty:TypeId}{c:List Value}{own:Nat}(hr:H.objs.get r=some (.cells ty c false own))(hb:c.all bareV=true)(hp:∀ σ M,L2 (RV σ M true) post post)(hx:∀ σ M,RV σ M false x x)
  (k1:CallSpec η Tryd.prog B fn (.slice (some ⟨126,o,none⟩) n cap :: post) (heapT [(ty,c)]) fun v h=>v=x∧h=heapT [(ty,c)]) :
  CallSpec η Tryd.prog B fn (.slice (some ⟨r,o,none⟩) n cap :: post) H (KT.ret x H).sat:=by
 refine CallSpec.pureR hη FN.gs9 (FN.rowsIn1 hr hb) ?_ (fun _ _=>hx _ _) k1
 exact .cons (.slice (σ:=sigR fun _=>r) _ _ (by simp)) (hp _ _)
theorem bytes_noN(s:List UInt8)(i:Nat)(hi:i<s.length):(byteAt s (i:Int)<33 ↔ s[i]<33)∧(byteAt s (i:Int) > 126 ↔ 126<s[i]):=by
 have e:byteAt s (i:Int)=(s[i].toNat:Int):=by
  unfold byteAt
  simp [hi]
 rw [e]
 refine⟨?_,?_⟩
 ·rw [UInt8.lt_iff_toNat_lt];show((s[i].toNat:Int)<33) ↔ s[i].toNat<33;omega
 ·rw [UInt8.lt_iff_toNat_lt];show((s[i].toNat:Int) > 126) ↔ 126<s[i].toNat;omega
theorem noN_can(hη:OneCells η)(hmix:Tryd.prog.follows .mixedOrders=true)(s:List UInt8)(hs:s.length≤1000000) :
  CallSpec η Tryd.prog B 37 [.string ⟨⟨s⟩⟩] (heapN 126) fun v h=>v = .bool (noNB s)∧h=heapN 126:=by
 have e0:RNoN.H0 s=heapN 126:=rfl
 rw [← e0]
 have cut:=fun i0=>RNoN.cut0 (η:=η) (B:=B) (D:=fun v h=>v = .bool (noNB s)∧h=RNoN.H0 s) hη hmix (reg0 hη hmix) s i0
 refine RNoN.enter hη hmix (reg0 hη hmix) _ ?_
 simp only [W.holds,true_and,and_true,decide_eq_true_eq,decide_eq_false_iff_not,true_implies] at cut ⊢
 have loop:∀ (m i:Nat),i+m=s.length→(∀ j (hj:j<s.length),j<i→¬ s[j]<33∧¬ 126<s[j])→RunD η Tryd.prog B 37 (RNoN.H0 s) [0,5,6] (RNoN.S0 s (i:Int) fun _=>undef) (QF Tryd.prog 126 fun v h=>v = .bool (noNB s)∧h=RNoN.H0 s):=by
  intro m
  induction m with
  | zero=>
   intro i hi hp
   have ha:s.any (fun c=>c<33 || 126<c)=false:=by
    rw [List.any_eq_false]
    intro x hx
    obtain⟨j,hj,rfl⟩:=List.getElem_of_mem hx
    have:=hp j hj (by omega)
    simp [this.1,this.2]
   refine cut _ ⟨fun q=>by omega,fun _=>⟨fun h=>?_,fun h=>?_⟩⟩
   ·have h2:s=[]:=by simpa using h
    subst h2;unfold noNB;rfl
   ·unfold noNB
    rw [ha]
    have h2:s ≠ []:=by simpa using h
    have h3:s.isEmpty=false:=by cases s <;> first | exact absurd rfl h2 | rfl
    rw [h3]
    simp only [Bool.false_or]
    congr 1
    exact decide_eq_decide.2 ⟨fun q=>by omega,fun q=>by omega⟩
  | succ m ih=>
   intro i hi hp
   have c1:=cut (i:Int)
   have hil:i<s.length:=by omega
   obtain⟨b1,b2⟩:=bytes_noN s i hil
   simp only [w1 i (by omega)] at c1
   have hany:(s[i]<33∨126<s[i])→noNB s=true:=fun h=>by
    unfold noNB
    have:s.any (fun c=>c<33 || 126<c)=true:=List.any_eq_true.2 ⟨s[i],List.getElem_mem hil,by simpa using h⟩
    rw [this];rfl
   refine c1 ⟨fun _=>⟨⟨by omega,by omega⟩,fun _=>⟨fun h=>?_,fun h=>⟨⟨by omega,by omega⟩,fun _=>⟨fun h2=>?_,fun h2=>ih (i+1) (by omega) ?_⟩⟩⟩⟩,fun q=>by omega⟩
   ·rw [hany (.inl (b1.1 h))]
   ·rw [hany (.inr (b2.1 h2))]
   ·intro j hj hji
    rcases Nat.lt_or_ge j i with q | q
    ·exact hp j hj q
    ·have:j=i:=by omega
     subst this
     exact⟨fun q=>h (b1.2 q),fun q=>h2 (b2.2 q)⟩
 exact loop s.length 0 (by omega) (fun j _ h=>by omega)
theorem noN_any(hη:OneCells η)(hmix:Tryd.prog.follows .mixedOrders=true)(s:List UInt8)(hs:s.length≤1000000)(H:AH):CallSpec η Tryd.prog B 37 [.string ⟨⟨s⟩⟩] H (KT.ret (.bool (noNB s)) H).sat:=
 CallSpec.bare hη FN.gs9 (N:=126) (fun _ _=>.cons (.string _) .nil) (fun _ _=>.bool _) (fun _ _=>.bool _) ((noN_can hη hmix s hs).mono fun _ _ h=>h.1) H

theorem idS_can(hη:OneCells η)(hmix:Tryd.prog.follows .mixedOrders=true){ty o n cap:Nat}{c:List Value}(hc:RowS c o n)(hn:n≤1000000)(hl:∀ i,i<n→(strAt c (o+i)).length≤1000000) :
  CallSpec η Tryd.prog B 32 [.slice (some ⟨126,o,none⟩) n cap,.func (.func 37) #[] #[]] (heapT [(ty,c)]) fun v h=>v = .int .i64 (badN c o n)∧h=heapT [(ty,c)]:=by
 have e0:RIdS.H0 ty o c n cap=heapT [(ty,c)]:=rfl
 rw [← e0]
 have cut:=fun i0=>RIdS.cut0 (η:=η) (B:=B) (D:=fun v h=>v = .int .i64 (badN c o n)∧h=RIdS.H0 ty o c n cap) hη hmix (reg0 hη hmix) ty o c n cap i0
 refine RIdS.enter hη hmix (reg0 hη hmix) _ _ _ _ _ ?_
 simp only [W.holds,true_and,and_true,decide_eq_true_eq,decide_eq_false_iff_not,Nat.mul_one,true_implies] at cut ⊢
 have loop:∀ (m i:Nat),i+m=n→fstIx (fun i=>noNB (strAt c (o+i))) m i=badN c o n→RunD η Tryd.prog B 32 (RIdS.H0 ty o c n cap) [0,1,7,8] (RIdS.S0 ty o c n cap (i:Int) fun _=>undef) (QF Tryd.prog 127 fun v h=>v = .int .i64 (badN c o n)∧h=RIdS.H0 ty o c n cap):=by
  intro m
  induction m with
  | zero=>
   intro i hi he
   exact cut _ ⟨fun q=>by omega,fun _=>by rw [← he];rfl⟩
  | succ m ih=>
   intro i hi he
   have c1:=cut (i:Int)
   simp only [w1 i (by omega),Int.toNat_natCast] at c1
   have he2:fstIx (fun i=>noNB (strAt c (o+i))) (m+1) i=if(fun i=>noNB (strAt c (o+i))) i then(i:Int) else fstIx (fun i=>noNB (strAt c (o+i))) m (i+1):=rfl
   rw [he2] at he
   simp only at he
   refine c1 ⟨fun _=>⟨⟨by omega,by omega⟩,fun _=>⟨hc.2 i (by omega),fun _=>⟨noN_any hη hmix _ (hl i (by omega)) _,fun h=>?_,fun h=>ih (i+1) (by omega) ?_⟩⟩⟩,fun q=>by omega⟩
   ·rw [← he,if_pos h]
   ·rw [← he,if_neg (by rw [h];decide)]
 exact loop n 0 (by omega) (by unfold badN;rfl)

theorem idx_can(hη:OneCells η)(hmix:Tryd.prog.follows .mixedOrders=true){ty o n cap:Nat}{c:List Value}{s:List UInt8}(hc:RowS c o n)(hn:n≤1000000) :
  CallSpec η Tryd.prog B 56 [.slice (some ⟨126,o,none⟩) n cap,.string ⟨⟨s⟩⟩] (heapT [(ty,c)]) fun v h=>v = .int .i64 (ixS c s o n)∧h=heapT [(ty,c)]:=by
 have e0:RIdx.H0 ty o c n cap s=heapT [(ty,c)]:=rfl
 rw [← e0]
 have cut:=fun i0=>RIdx.cut0 (η:=η) (B:=B) (D:=fun v h=>v = .int .i64 (ixS c s o n)∧h=RIdx.H0 ty o c n cap s) hη hmix (reg0 hη hmix) ty o c n cap s i0
 refine RIdx.enter hη hmix (reg0 hη hmix) _ _ _ _ _ _ ?_
 simp only [W.holds,true_and,and_true,decide_eq_true_eq,decide_eq_false_iff_not,Nat.mul_one,true_implies] at cut ⊢
 have loop:∀ (m i:Nat),i+m=n→fstIx (fun i=>s == strAt c (o+i)) m i=ixS c s o n→RunD η Tryd.prog B 56 (RIdx.H0 ty o c n cap s) [0,1,7,8] (RIdx.S0 ty o c n cap s (i:Int) fun _=>undef) (QF Tryd.prog 127 fun v h=>v = .int .i64 (ixS c s o n)∧h=RIdx.H0 ty o c n cap s):=by
  intro m
  induction m with
  | zero=>
   intro i hi he
   exact cut _ ⟨fun q=>by omega,fun _=>by rw [← he];rfl⟩
  | succ m ih=>
   intro i hi he
   have c1:=cut (i:Int)
   simp only [w1 i (by omega),Int.toNat_natCast] at c1
   have he2:fstIx (fun i=>s == strAt c (o+i)) (m+1) i=if(fun i=>s == strAt c (o+i)) i then(i:Int) else fstIx (fun i=>s == strAt c (o+i)) m (i+1):=rfl
   rw [he2] at he
   simp only at he
   refine c1 ⟨fun _=>⟨⟨by omega,by omega⟩,fun _=>⟨hc.2 i (by omega),fun _=>⟨fun h=>?_,fun h=>ih (i+1) (by omega) ?_⟩⟩⟩,fun q=>by omega⟩
   ·rw [← he,if_pos h]
   ·rw [← he,if_neg (by rw [h];decide)]
 exact loop n 0 (by omega) (by unfold ixS;rfl)

theorem cfI_can(hη:OneCells η)(hmix:Tryd.prog.follows .mixedOrders=true){ty o n cap:Nat}{c:List Value}(hc:RowI c o n)(hn:n≤1000000) :
  CallSpec η Tryd.prog B 35 [.slice (some ⟨126,o,none⟩) n cap,.func (.func 36) #[] #[]] (heapT [(ty,c)]) fun v h=>v = .bool (decide (0≤badW c o n))∧h=heapT [(ty,c)]:=by
 refine RCfI.enter hη hmix (reg0 hη hmix) _ _ _ _ _ ?_
 simp only [W.holds,true_and,and_true,true_implies]
 exact⟨by have:=idI_can (B:=B) (ty:=ty) (cap:=cap) hη hmix hc hn;rw [show fstIx (fun i=>noW (intAt c (o+i))) n 0=badW c o n by unfold badW;rfl] at this;exact this,rfl⟩

theorem cfS_can(hη:OneCells η)(hmix:Tryd.prog.follows .mixedOrders=true){ty o n cap:Nat}{c:List Value}(hc:RowS c o n)(hn:n≤1000000)(hl:∀ i,i<n→(strAt c (o+i)).length≤1000000) :
  CallSpec η Tryd.prog B 23 [.slice (some ⟨126,o,none⟩) n cap,.func (.func 37) #[] #[]] (heapT [(ty,c)]) fun v h=>v = .bool (decide (0≤badN c o n))∧h=heapT [(ty,c)]:=by
 refine RCfS.enter hη hmix (reg0 hη hmix) _ _ _ _ _ ?_
 simp only [W.holds,true_and,and_true,true_implies]
 exact⟨idS_can hη hmix hc hn hl,rfl⟩

theorem con_can(hη:OneCells η)(hmix:Tryd.prog.follows .mixedOrders=true){ty o n cap:Nat}{c:List Value}{s:List UInt8}(hc:RowS c o n)(hn:n≤1000000) :
  CallSpec η Tryd.prog B 48 [.slice (some ⟨126,o,none⟩) n cap,.string ⟨⟨s⟩⟩] (heapT [(ty,c)]) fun v h=>v = .bool (decide (0≤ixS c s o n))∧h=heapT [(ty,c)]:=by
 refine RCon.enter hη hmix (reg0 hη hmix) _ _ _ _ _ _ ?_
 simp only [W.holds,true_and,and_true,true_implies]
 exact⟨idx_can hη hmix hc hn,rfl⟩
theorem RowS.less{c:List Value}{o n m:Nat}(h:RowS c o n)(hm:m≤n):RowS c o m:=⟨h.1,fun i hi=>h.2 i (by omega)⟩
theorem cutN_0(c s:Nat):cutN c 0 s=0:=by unfold cutN;rw [Nat.zero_mul];split <;> rfl
theorem twi_can(hη:OneCells η)(hmix:Tryd.prog.follows .mixedOrders=true){ty o n cap:Nat}{c:List Value}(hc:RowS c o n)(hn:n≤1000000)(hcap:isU cap=false)(hcn:n≤cap) :
  CallSpec η Tryd.prog B 38 [.slice (some ⟨126,o,none⟩) n cap] (heapT [(ty,c)]) fun v h=>v = .bool (twi c o n)∧h=heapT [(ty,c)]:=by
 have e0:RTwi.H0 ty o c n cap=heapT [(ty,c)]:=rfl
 rw [← e0]
 have cut:=fun i0=>RTwi.cut0 (η:=η) (B:=B) (D:=fun v h=>v = .bool (twi c o n)∧h=RTwi.H0 ty o c n cap) hη hmix (reg0 hη hmix) ty o c n cap i0
 refine RTwi.enter hη hmix (reg0 hη hmix) _ _ _ _ _ ?_
 simp only [W.holds,true_and,and_true,decide_eq_true_eq,decide_eq_false_iff_not,Nat.mul_one,true_implies,capP_no hcap,capN_no hcap,cutN_0,Nat.add_zero,Nat.sub_zero] at cut ⊢
 have loop:∀ (m i:Nat),i+m=n→twiF c o m i=twi c o n→RunD η Tryd.prog B 38 (RTwi.H0 ty o c n cap) [0,5,6,7] (RTwi.S0 ty o c n cap (i:Int) fun _=>undef) (QF Tryd.prog 127 fun v h=>v = .bool (twi c o n)∧h=RTwi.H0 ty o c n cap):=by
  intro m
  induction m with
  | zero=>
   intro i hi he
   exact cut _ ⟨fun q=>by omega,fun _=>by rw [← he];rfl⟩
  | succ m ih=>
   intro i hi he
   have c1:=cut (i:Int)
   simp only [w1 i (by omega),Int.toNat_natCast] at c1
   have he2:twiF c o (m+1) i=if 0≤ixS c (strAt c (o+i)) o i then true else twiF c o m (i+1):=rfl
   rw [he2] at he
   refine c1 ⟨fun _=>⟨⟨by omega,by omega⟩,fun _=>⟨hc.2 i (by omega),fun _=>⟨⟨by omega,by omega,by omega⟩,fun _=>⟨con_can hη hmix (hc.less (by omega)) (by omega),fun h=>?_,fun h=>ih (i+1) (by omega) ?_⟩⟩⟩⟩,fun q=>by omega⟩
   ·rw [← he,if_pos h]
   ·rw [← he,if_neg h]
 exact loop n 0 (by omega) (by unfold twi;rfl)
theorem cnt_can(hη:OneCells η)(hmix:Tryd.prog.follows .mixedOrders=true){ty o n cap:Nat}{c:List Value}{k:Int}(hc:RowI c o n)(hn:n≤1000000) :
  CallSpec η Tryd.prog B 39 [.slice (some ⟨126,o,none⟩) n cap,.int .i64 k] (heapT [(ty,c)]) fun v h=>v = .int .i64 (cnt c k o n)∧h=heapT [(ty,c)]:=by
 have e0:RCnt.H0 ty o c n cap k=heapT [(ty,c)]:=rfl
 rw [← e0]
 have cut:=fun i0 i1=>RCnt.cut0 (η:=η) (B:=B) (D:=fun v h=>v = .int .i64 (cnt c k o n)∧h=RCnt.H0 ty o c n cap k) hη hmix (reg0 hη hmix) ty o c n cap k i0 i1
 refine RCnt.enter hη hmix (reg0 hη hmix) _ _ _ _ _ _ ?_
 simp only [W.holds,true_and,and_true,decide_eq_true_eq,decide_eq_false_iff_not,Nat.mul_one,true_implies] at cut ⊢
 have loop:∀ (m i:Nat) (a:Int),i+m=n→cntF c k o m i a=cnt c k o n→RunD η Tryd.prog B 39 (RCnt.H0 ty o c n cap k) [1,5,8,9,10] (RCnt.S0 ty o c n cap k a (i:Int) fun _=>undef) (QF Tryd.prog 127 fun v h=>v = .int .i64 (cnt c k o n)∧h=RCnt.H0 ty o c n cap k):=by
  intro m
  induction m with
  | zero=>
   intro i a hi he
   exact cut _ _ ⟨fun q=>by omega,fun _=>by rw [← he];rfl⟩
  | succ m ih=>
   intro i a hi he
   have c1:=cut a (i:Int)
   simp only [w1 i (by omega),Int.toNat_natCast] at c1
   exact c1 ⟨fun _=>⟨⟨by omega,by omega⟩,fun _=>⟨hc.2 i (by omega),fun _=>ih (i+1) _ (by omega) he⟩⟩,fun q=>by omega⟩
 exact loop n 0 0 (by omega) (by unfold cnt;rfl)
theorem chk_any(hη:OneCells η)(hmix:Tryd.prog.follows .mixedOrders=true){H:AH}{r r' ty ty' o o' n n' cap cap' own own':Nat}{c c':List Value}{k:Int}(hr:H.objs.get r=some (.cells ty c false own))(hr':H.objs.get r'=some (.cells ty' c' false own'))(hne:r ≠ r')(hc:RowS c o n)(hc':RowI c' o' n')(hl:∀ i,i<n→(strAt c (o+i)).length≤1000000)(hcap:isU cap=false)(hcn:n≤cap) :
  CallSpec η Tryd.prog B 27 [.slice (some ⟨r,o,none⟩) n cap,.slice (some ⟨r',o',none⟩) n' cap',.int .i64 k] H (KT.ret (.int .i64 (chkB c o n c' o' n' k)) H).sat:=by
 refine CallSpec.pureR (l:=[(ty,c),(ty',c')]) (rn:=fun i=>if i=0 then r else r') (args:=[.slice (some ⟨126,o,none⟩) n cap,.slice (some ⟨127,o',none⟩) n' cap',.int .i64 k]) hη FN.gs9 ⟨fun i x hi=>?_,fun i j hi hj hij=>?_⟩ (.cons ?_ (.cons ?_ (.cons (.int _ _) .nil))) (fun _ _=>.int _ _) ?_
 ·match i with
  | 0=>simp at hi;subst hi;exact⟨hc.1,own,hr⟩
  | 1=>simp at hi;subst hi;exact⟨hc'.1,own',hr'⟩
  | i+2=>simp at hi
 ·simp only [List.length_cons,List.length_nil] at hi hj
  simp only at hij
  by_cases h0:i=0 <;> by_cases h0':j=0
  ·omega
  ·rw [if_pos h0,if_neg h0'] at hij;exact absurd hij hne
  ·rw [if_neg h0,if_pos h0'] at hij;exact absurd hij.symm hne
  ·omega
 ·exact .slice (σ:=sigR fun i=>if i=0 then r else r') _ _ (by simp)
 ·exact .slice (σ:=sigR fun i=>if i=0 then r else r') _ _ (by simp)
 ·refine RChk.enter hη hmix (reg0 hη hmix) _ _ _ _ _ _ _ _ _ _ _ ?_
  simp only [W.holds,true_and,and_true,true_implies,decide_eq_true_eq,decide_eq_false_iff_not,beq_iff_eq,bne_iff_ne,ne_eq,beq_eq_false_iff_ne,bne_eq_false_iff_eq]
  refine⟨fun h=>?_,fun h=>⟨fun h2=>?_,fun h2=>⟨fun h3=>?_,fun h3=>⟨?_,fun h4=>?_,fun h4=>⟨fun h5=>?_,fun h5=>⟨fun h6=>?_,fun h6=>⟨?_,fun h7=>?_,fun h7=>⟨?_,fun h8=>?_,fun h8=>⟨?_,fun h9=>?_,fun h9=>?_⟩⟩⟩⟩⟩⟩⟩⟩⟩
  case refine_4=>exact row_any hη (ty:=ty') (r:=127) (own:=0) (by kernel_rfl) hc'.1 (fun _ _=>.cons (rv_f _) .nil) (fun _ _=>.bool _) (cfI_can hη hmix hc' (by omega))
  case refine_8=>exact row_any hη (ty:=ty) (r:=126) (own:=0) (by kernel_rfl) hc.1 (fun _ _=>.cons (rv_f _) .nil) (fun _ _=>.bool _) (cfS_can hη hmix hc (by omega) hl)
  case refine_10=>exact row_any hη (ty:=ty) (r:=126) (own:=0) (by kernel_rfl) hc.1 (fun _ _=>.nil) (fun _ _=>.bool _) (twi_can hη hmix hc (by omega) hcap hcn)
  case refine_12=>exact row_any hη (ty:=ty') (r:=127) (own:=0) (by kernel_rfl) hc'.1 (fun _ _=>.cons (.int _ _) .nil) (fun _ _=>.int _ _) (cnt_can hη hmix hc' (by omega))
  all_goals
   refine⟨congrArg (Value.int .i64) ?_,rfl⟩
   unfold chkB
   repeat' split
   all_goals first | rfl | (exfalso;omega) | (exfalso;simp_all;done)
end RG
end Go.Ev

/- Whatever the machine does, the number of draws does not go down: so every call ends in a world that has drawn as much as it began with, or more. -/
namespace Go.Ev.Dr
open Go
variable {P:Program}

theorem ask_le{α:Type}:∀ (a:Ask α) (w:World),w.drawn≤(w.ask a).2.drawn
 | .done _,_=>Nat.le_refl _
 | .ask s r k,w=>by
  unfold World.ask
  simp only
  split
  ·exact ask_le (k 0) w
  ·refine Nat.le_trans ?_ (ask_le _ _)
   exact Nat.le_succ _
theorem sys_le(w:World)(c:Sys):w.drawn≤(w.sys c).2.drawn:=by
 have h:=ask_le (Kernel.perform c w.os) w
 unfold World.sys
 generalize w.ask (Kernel.perform c w.os)=x at h
 obtain⟨⟨r,o⟩,w'⟩:=x
 cases r <;> first | exact Nat.le_refl _ | exact h
theorem far_le{w w':World}{a:Addr}{v:Value}{b:Bool}{l:List Addr}(h:w.farStore P a v b = .ok (w',l)):w.drawn≤w'.drawn:=by
 unfold World.farStore at h
 split at h
 ·split at h
  ·rename_i hr
   injection h with h
   subst h
   unfold World.viewStore at hr
   simp only [bind,Except.bind,pure,Except.pure,throw,throwThe,MonadExceptOf.throw] at hr
   repeat' split at hr
   all_goals first
    | cases hr;exact Nat.le_refl _
    | cases hr
  ·cases h
 ·cases h
theorem freeze_le(w:World)(a:Addr)(n:Nat):(w.freeze a n).drawn=w.drawn:=by
 unfold World.freeze
 split <;> rfl
def RD{α:Type}(n:Nat):Result α→Prop
 | .ok _ w=>n≤w.drawn
 | .halt _ w=>n≤w.drawn
theorem run_D{α:Type}(n:Nat):∀ (s:Sem α) (w:World),n≤w.drawn→RD n (s.run P w):=by
 intro s
 induction s with
 | pure a=>intro w h;exact h
 | load m a k ih=>
  intro w h;unfold Sem.run
  split
  ·exact ih _ w h
  ·split
   ·exact ih _ w h
   ·exact h
 | store m a v k ih=>
  intro w h
  have key:RD n (match w.cell? a with
   | some _=>if w.frozen? a then Result.halt (.unsupported (.unsafePointer "a write to bytes that a string shares")) w else k.run P (w.setCell a v)
   | none=>match w.farStore P a v (m == .atomic) with
    | .ok (w,_)=>k.run P w
    | .error h=>.halt h w):=by
   cases w.cell? a with
   | some _=>dsimp only;split;exact h;exact ih _ h
   | none=>
    dsimp only
    cases hf:w.farStore P a v (m == .atomic) with
    | ok x=>exact ih _ (Nat.le_trans h (far_le (l:=x.2) hf))
    | error e=>exact h
  cases v <;> first | exact h | exact key
 | new o k ih=>intro w h;unfold Sem.run;exact ih _ _ h
 | shape r k ih=>intro w h;unfold Sem.run;exact ih _ _ h
 | freeze a m k ih=>intro w h;unfold Sem.run;exact ih _ (by rw [freeze_le];exact h)
 | frozen a k ih=>intro w h;unfold Sem.run;exact ih _ _ h
 | getObj r k ih=>intro w h;unfold Sem.run;split <;> first | exact h | exact ih _ _ h
 | setObj r o k ih=>intro w h;unfold Sem.run;split <;> first | exact h | exact ih _ h
 | choose q k ih=>intro w h;unfold Sem.run;split <;> first | exact ih _ _ h | exact ih _ _ (Nat.le_succ_of_le h)
 | sys c k ih=>intro w h;unfold Sem.run;exact ih _ _ (Nat.le_trans h (sys_le _ _))
 | program k ih=>intro w h;unfold Sem.run;exact ih _ _ h
 | mark m k ih=>intro w h;unfold Sem.run;exact ih _ h
 | halt e=>intro w h;exact h
theorem runT_D{α:Type}(n:Nat):∀ (s:Sem α) (w:World) (es:Array Event),n≤w.drawn→RD n (s.runT P w es).1:=by
 intro s
 induction s with
 | pure a=>intro w es h;exact h
 | load m a k ih=>
  intro w es h;unfold Sem.runT
  split
  ·exact ih _ w _ h
  ·split
   ·exact ih _ w _ h
   ·exact h
 | store m a v k ih=>
  intro w es h
  have key:RD n (match w.cell? a with
   | some _=>
    if w.frozen? a then(Result.halt (.unsupported (.unsafePointer "a write to bytes that a string shares")) w,es)
    else k.runT P (w.setCell a v) (es.push ⟨.cell a,true,m == Mode.atomic⟩)
   | none=>match w.farStore P a v (m == Mode.atomic) with
    | .ok (w,touched)=>k.runT P w (es ++ touched.toArray.map (fun x=>(⟨.cell x,true,m == Mode.atomic⟩:Event)))
    | .error h=>(.halt h w,es)).1:=by
   cases w.cell? a with
   | some _=>dsimp only;split;exact h;exact ih _ _ h
   | none=>
    dsimp only
    cases hf:w.farStore P a v (m == .atomic) with
    | ok x=>exact ih _ _ (Nat.le_trans h (far_le (l:=x.2) hf))
    | error e=>exact h
  cases v <;> first | exact h | exact key
 | new o k ih=>intro w es h;unfold Sem.runT;exact ih _ _ _ h
 | shape r k ih=>intro w es h;unfold Sem.runT;exact ih _ _ _ h
 | freeze a m k ih=>intro w es h;unfold Sem.runT;exact ih _ _ (by rw [freeze_le];exact h)
 | frozen a k ih=>intro w es h;unfold Sem.runT;exact ih _ _ _ h
 | getObj r k ih=>intro w es h;unfold Sem.runT;split <;> first | exact h | exact ih _ _ _ h
 | setObj r o k ih=>intro w es h;unfold Sem.runT;split <;> first | exact h | exact ih _ _ h
 | choose q k ih=>intro w es h;unfold Sem.runT;split <;> first | exact ih _ _ _ h | exact ih _ _ _ (Nat.le_succ_of_le h)
 | sys c k ih=>intro w es h;unfold Sem.runT;exact ih _ _ _ (Nat.le_trans h (sys_le _ _))
 | program k ih=>intro w es h;unfold Sem.runT;exact ih _ _ _ h
 | mark m k ih=>intro w es h;unfold Sem.runT;exact ih _ _ h
 | halt e=>intro w es h;exact h

def GD(n:Nat):GStep→Prop
 | .ended ..=>True
 | .go _ w _=>n≤w.drawn
 | .comm _ _ _ _ w _=>n≤w.drawn
 | .spawn _ _ w _=>n≤w.drawn
 | .count _ w _=>n≤w.drawn
 | .timer _ _ w _=>n≤w.drawn
 | .alone _ _ w _=>n≤w.drawn
 | .newcoro _ _ _ w _=>n≤w.drawn
 | .coroswitch _ _ _ w _=>n≤w.drawn
 | .collect _ w _=>n≤w.drawn
 | .watch _ w _=>n≤w.drawn
def SD(n:Nat):Stepped→Prop
 | .next m=>n≤m.world.drawn
 | _=>True
theorem GD.after{n:Nat}{es:Array Event}{s:GStep}(h:GD n s):GD n (s.after es):=by cases s <;> exact h
theorem doReturn_D{n:Nat}{main:Bool}{fr:Frame}{cs:List Frame}{d:Option Dying}{v:Value}{w:World}(h:n≤w.drawn):GD n (doReturn P main fr cs d v w):=by
 unfold doReturn
 repeat' split
 all_goals first | exact h | exact trivial
theorem dieOf_D{n:Nat}{fr:Frame}{l:List ByteArray}{m:String}{b:Bool}{w:World}(h:n≤w.drawn):GD n (dieOf fr l m b w):=h
theorem endThrow_D{n:Nat}{fr:Frame}{m:String}{w:World}(h:n≤w.drawn):GD n (endThrow fr m w):=h
theorem endWith_D{n:Nat}{fd:Nat}{t:ByteArray}{o:Outcome}{w:World}(h:n≤w.drawn):GD n (endWith w fd t o):=by
 unfold endWith
 simp only
 repeat' split
 all_goals first | exact h | exact trivial
theorem endPrinting_D{n:Nat}{fr:Frame}{v:Value}{w:World}(h:n≤w.drawn):GD n (endPrinting P fr v w):=by
 unfold endPrinting
 simp only
 split
 all_goals first | exact h | exact trivial
theorem ok_D{α:Type}{n:Nat}{s:Sem α}{w w':World}{a:α}(e:s.run P w = .ok a w')(h:n≤w.drawn):n≤w'.drawn:=by
 have:=run_D (P:=P) n s w h
 rw [e] at this
 exact this
theorem halt_D{α:Type}{n:Nat}{s:Sem α}{w w':World}{a:Halt}(e:s.run P w = .halt a w')(h:n≤w.drawn):n≤w'.drawn:=by
 have:=run_D (P:=P) n s w h
 rw [e] at this
 exact this
theorem okT_D{α:Type}{n:Nat}{s:Sem α}{w w':World}{es es':Array Event}{a:α}(e:s.runT P w es=(.ok a w',es'))(h:n≤w.drawn):n≤w'.drawn:=by
 have:=runT_D (P:=P) n s w es h
 rw [e] at this
 exact this
theorem haltT_D{α:Type}{n:Nat}{s:Sem α}{w w':World}{es es':Array Event}{a:Halt}(e:s.runT P w es=(.halt a w',es'))(h:n≤w.drawn):n≤w'.drawn:=by
 have:=runT_D (P:=P) n s w es h
 rw [e] at this
 exact this
theorem okF_D{α:Type}{n:Nat}{s:Sem α}{w w':World}{es:Array Event}{a:α}(e:(s.runT P w es).1 = .ok a w')(h:n≤w.drawn):n≤w'.drawn:=by
 have:=runT_D (P:=P) n s w es h
 rw [e] at this
 exact this
theorem haltF_D{α:Type}{n:Nat}{s:Sem α}{w w':World}{es:Array Event}{a:Halt}(e:(s.runT P w es).1 = .halt a w')(h:n≤w.drawn):n≤w'.drawn:=by
 have:=runT_D (P:=P) n s w es h
 rw [e] at this
 exact this
theorem endFatal_D{n:Nat}{fr:Frame}{cs:List Frame}{d:Option Dying}{m:String}{w:World}(h:n≤w.drawn):GD n (endFatal P fr cs d m w):=by
 unfold endFatal
 simp only
 split
 ·rename_i hr;exact dieOf_D (ok_D hr h)
 all_goals exact trivial
macro "gd" h:ident:tactic=>`(tactic| first
 | exact trivial | exact $h
 | (have hq:=okT_D (by assumption) $h;first | exact hq | exact doReturn_D hq | exact endFatal_D hq | exact endThrow_D hq | exact endPrinting_D hq)
 | (have hq:=haltT_D (by assumption) $h;first | exact hq | exact endFatal_D hq | exact endThrow_D hq | exact endPrinting_D hq)
 | (have hq:=ok_D (by assumption) $h;first | exact hq | exact dieOf_D hq)
 | (have hq:=halt_D (by assumption) $h;exact hq)
 | (have hq:=okF_D (by assumption) $h;first | exact hq | exact doReturn_D hq | exact endFatal_D hq | exact endThrow_D hq | exact endPrinting_D hq)
 | (have hq:=haltF_D (by assumption) $h;first | exact hq | exact endFatal_D hq | exact endThrow_D hq | exact endPrinting_D hq)
 | exact doReturn_D $h | exact endThrow_D $h | exact endPrinting_D $h | exact endWith_D $h)
theorem writeOn_D{n:Nat}{fr:Frame}{d:Dying}{f:Fatal}{w:World}(h:n≤w.drawn):GD n (writeOn P fr d f w):=by
 unfold writeOn
 simp only
 repeat' (first | exact trivial | split)
 all_goals gd h
theorem die_D{n:Nat}{fr:Frame}{d:Dying}{w:World}(h:n≤w.drawn):GD n (die P fr d w):=by
 unfold die
 simp only
 split
 ·exact writeOn_D h
 repeat' (first | exact trivial | refine GD.after ?_ | split)
 all_goals gd h
theorem callDeferred_D{n:Nat}{fr:Frame}{cs:List Frame}{d:Option Dying}{f:Deferred}{w:World}(h:n≤w.drawn):GD n (callDeferred P fr cs d f w):=by
 unfold callDeferred
 simp only
 repeat' (first | exact trivial | refine GD.after ?_ | split)
 all_goals gd h
theorem unwind_D{n:Nat}{main:Bool}{fr:Frame}{cs:List Frame}{d:Option Dying}{w:World}(h:n≤w.drawn):GD n (unwind P main fr cs d w):=by
 unfold unwind
 split
 ·simp only
  repeat' (first | exact trivial | refine GD.after ?_ | split)
  all_goals gd h
 ·exact callDeferred_D h
 ·repeat' (first | exact trivial | refine GD.after ?_ | split)
  all_goals gd h
theorem early_D{n:Nat}{fr:Frame}{cs:List Frame}{d:Option Dying}{g:Nat}{w:World}(h:n≤w.drawn):GD n (early P fr cs d g w):=by
 have ny:∀ w:World,n≤w.drawn→GD n (match w.heap[g]? with
  | some (.pending c elem)=>.go { frame:=fr,callers:=cs,status:=.running,dying:=d } { w with heap:=w.heap.setIfInBounds g (.cells c elem) }
  | _=>.ended (.stuck "early: the variable does not wait" (fr.pos P)) w):=fun w h=>by
  split
  ·exact h
  ·exact trivial
 unfold early
 simp only
 repeat' (first | exact trivial | exact ny _ h | exact h | split)
 all_goals first | (have hq:=ok_D (by assumption) h;first | exact ny _ hq | exact hq)
theorem apply_D{n:Nat}{listen:Bool}{fr:Frame}{cs:List Frame}{d:Option Dying}{s:Sem Next}{w:World}(h:n≤w.drawn):GD n (stepG.apply P listen fr cs d s w):=by
 unfold stepG.apply
 have key:RD n (if listen then s.runT P w #[] else(s.run P w,#[])).1:=by
  cases listen
  ·exact run_D n s w h
  ·exact runT_D n s w _ h
 revert key
 generalize (if listen then s.runT P w #[] else(s.run P w,#[]))=x
 obtain⟨r,es⟩:=x
 intro key
 dsimp only
 refine GD.after ?_
 cases r with
 | ok a w'=>
  have h':n≤w'.drawn:=key
  cases a <;> (try dsimp only) <;> repeat' (first | exact trivial | exact h' | exact endThrow_D h' | split)
 | halt e w'=>
  have h':n≤w'.drawn:=key
  cases e
  case unsupported u=>cases u <;> (try dsimp only) <;> repeat' (first | exact trivial | exact h' | exact early_D h' | split)
  all_goals (try dsimp only) <;> repeat' (first | exact trivial | exact h' | exact endThrow_D h' | exact endFatal_D h' | exact early_D h' | split)
theorem oper_D{n:Nat}{listen:Bool}{fr:Frame}{cs:List Frame}{d:Option Dying}{w:World}(h:n≤w.drawn):GD n (stepG.oper P listen fr cs d w):=by
 unfold stepG.oper
 repeat' (first | exact trivial | exact apply_D h | split)
theorem elim_D{α:Type}{n:Nat}{o:Option α}{a:GStep}{f:α→GStep}(h1:GD n a)(h2:∀ x,GD n (f x)):GD n (o.elim a f):=by
 cases o
 ·exact h1
 ·exact h2 _
theorem exec_D{n:Nat}{main listen:Bool}{fr:Frame}{cs:List Frame}{d:Option Dying}{w:World}(h:n≤w.drawn):GD n (stepG.exec P main listen fr cs d w):=by
 unfold stepG.exec
 simp only
 repeat' (first | exact trivial | exact h | exact apply_D h | exact oper_D h | exact apply_D (okF_D (by assumption) h) | exact apply_D (okT_D (by assumption) h) | refine GD.after ?_ | refine elim_D ?_ (fun _=>?_) | split)
 all_goals gd h
theorem stepG_D{n:Nat}{main listen:Bool}{g:Goroutine}{w:World}(h:n≤w.drawn):GD n (stepG P main g w listen):=by
 unfold stepG
 simp only
 split
 ·exact die_D h
 ·exact exec_D h
 ·exact unwind_D h
theorem communicate_D{n:Nat}{rest:Rest}{gs:Array Goroutine}{i:Nat}{g:Goroutine}{cases_:Array CommCase}{b:Bool}{sh:CommShape}{w:World}(h:n≤w.drawn):SD n (communicate P rest gs i g cases_ b sh w).1:=by
 unfold communicate
 simp only
 split
 ·exact trivial
 split
 ·split
  ·split
   ·rename_i hw
    unfold waitingAt at hw
    split at hw
    ·split at hw
     ·injection hw with hw;subst hw;exact h
     ·cases hw
    ·injection hw with hw;subst hw;exact h
   ·exact trivial
  ·exact h
 split
 ·exact trivial
 rename_i hr
 have h1:=ok_D hr h
 split
 ·split
  ·rename_i hp
   exact halt_D hp h1
  ·exact trivial
 ·exact h1
 ·exact h1
 ·split
  ·exact h1
  ·split
   ·rename_i hq
    have hx:=ok_D hq h1
    exact hx
   ·exact trivial
 ·exact h1
 ·exact h1
 ·exact trivial
theorem look_D{n:Nat}{gs:Array Goroutine}{rest:Rest}{w:World}(h:n≤w.drawn):SD n (look P gs rest w):=by
 unfold look
 simp only
 repeat' (first | exact trivial | (rename_i hq;have hx:=ok_D hq h;exact hx) | split)
theorem serve_D{n:Nat}{m:Machine}{k:Nat}(h:n≤m.world.drawn):SD n (serve P m k):=by
 unfold serve
 simp only
 repeat' (first | exact trivial | exact h | split)
theorem timerOp_D{n:Nat}{m m':Machine}{op:TimerOp}{v:Value}(h:n≤m.world.drawn)(e:timerOp m op = .ok (v,m')):n≤m'.world.drawn:=by
  have hd:∀ (w:World) (c:Nat),(drain w c).2.drawn=w.drawn:=fun w c=>by
    unfold drain
    split <;> rfl
  have hr:∀ (m:Machine) (k:Nat) (t:Timer) (a b:Nat),n≤m.world.drawn→n≤(retime m k t a b).2.world.drawn:=fun m k t a b h=>by
    unfold retime
    simp only
    split
    · rw [hd];exact h
    · exact h
  have hn:∀ (m:Machine) (var:Addr) (f:Nat→Timer→Value × Machine) (x:Value × Machine),(∀ k t,n≤(f k t).2.world.drawn)→timerOp.named m var f = .ok x→n≤x.2.world.drawn:=fun m var f x hf hx=>by
    unfold timerOp.named at hx
    split at hx
    · injection hx with hx;subst hx;exact hf _ _
    · cases hx
  cases op <;> unfold timerOp at e <;> simp only at e
  all_goals first
    | (repeat' split at e) <;> first | (injection e with e;injection e with e1 e2;subst e2;exact h) | cases e
    | exact hn _ _ _ _ (fun k t=>hr _ _ _ _ _ h) e
    | (split at e
       · rename_i ho
         refine hn _ _ _ _ (fun k t=>hr _ _ _ _ _ ?_) e
         unfold timerOp.opened at ho
         split at ho
         · split at ho
           · injection ho with ho;subst ho;exact h
           · cases ho
         · injection ho with ho;subst ho;exact h
       · cases e)
theorem done_D{n:Nat}{m:Machine}{i:Nat}{listen:Bool}(h:n≤m.world.drawn):SD n (Go.runT P m i listen).1:=by
 unfold Go.runT
 simp only
 generalize m.gs.swapAt! i { (default:Goroutine) with status:=.finished }=y
 obtain⟨g,gs⟩:=y
 simp only
 have hs:=stepG_D (P:=P) (main:=i == 0) (listen:=listen) (g:=g) h
 revert hs
 generalize stepG P (i == 0) g m.world listen=s
 intro hs
 cases s with
 | ended o w es=>exact trivial
 | comm g c b sh w es=>exact communicate_D (P:=P) hs
 | go g w es=>exact hs
 | spawn g c w es=>exact hs
 | count g w es=>dsimp only;split;exact trivial;exact hs
 | alone g on w es=>exact hs
 | collect g w es=>exact look_D hs
 | watch g w es=>exact hs
 | newcoro g c d w es=>exact hs
 | coroswitch g c e w es=>
  dsimp only
  split
  ·exact hs
  ·split
   ·rename_i he
    have:=endThrow_D (n:=n) (fr:=g.frame) (m:= "coroswitch on exited coro") (w:=w) hs
    rw [he] at this
    exact this
   ·exact trivial
  ·exact trivial
 | timer g op w es=>
  dsimp only
  split
  ·rename_i he
   have hx:n≤w.drawn:=hs
   have hy:=timerOp_D (m:={ world:=w,gs,rest:=m.rest }) hx he
   exact hy
  ·split
   ·rename_i he
    have:=endThrow_D (n:=n) (fr:=g.frame) (m:=‹String›) (w:=w) hs
    rw [he] at this
    exact this
   ·exact trivial
  ·exact trivial
  ·exact trivial
def MD(n:Nat):Move→Prop
 | .goroutine m _=>n≤m.world.drawn
 | .machine s _=>SD n s
theorem askOn_D{n:Nat}{m:Machine}(h:n≤m.world.drawn):MD n (askOn P m):=by
 have pick:∀ (m:Machine) (rs:List Nat),n≤m.world.drawn→MD n (match (choose (.sched rs.length)).run P m.world with
   | .halt _ w=>.machine (.ended (.stuck "sched" "") w)
   | .ok k world=>
    if rs.length≤1 then .goroutine { m with world } (rs.getD k 0) else
    match (choose (.extern "sched.slice" 65536)).run P world with
    | .halt _ w=>.machine (.ended (.stuck "sched.slice" "") w)
    | .ok n world=>.goroutine { m with world,rest:={ m.rest with slice:=if n=0 then none else some (rs.getD k 0,n) } } (rs.getD k 0)):=fun m rs h=>by
  split
  ·exact trivial
  ·rename_i hq
   have h1:=ok_D hq h
   split
   ·exact h1
   ·split
    ·exact trivial
    ·rename_i hq
     have h2:=ok_D hq h1
     exact h2
 unfold askOn
 simp only
 split
 ·exact trivial
 ·rename_i hq
  have h1:n≤_:=ok_D hq h
  split
  ·exact serve_D h1
  ·split
   ·split
    ·exact h1
    ·split
     ·exact h1
     ·split
      ·exact trivial
      ·exact trivial
   ·split
    ·exact pick { m with world:=_ } _ h1
    ·split
     ·exact trivial
     ·rename_i hq
      have h2:=ok_D hq h1
      exact pick { m with world:=_ } _ h2
     ·rename_i hq
      have h2:=ok_D hq h1
      exact h2
     ·rename_i hq
      have h2:=ok_D hq h1
      exact pick (Machine.advanceTo _ _) _ h2
theorem ask_D{n:Nat}{m:Machine}(h:n≤m.world.drawn):MD n (ask P m):=by
 unfold ask
 split
 ·split
  ·exact trivial
  ·rename_i hq
   have h1:=ok_D hq h
   have hl:=look_D (P:=P) (gs:=m.gs) (rest:=m.rest) h1
   split
   ·rename_i he
    rw [he] at hl
    exact askOn_D hl
   ·rename_i s _
    exact hl
  ·rename_i hq
   have h1:=ok_D hq h
   exact askOn_D h1
 ·exact askOn_D h
theorem move_D{n:Nat}{m:Machine}(h:n≤m.world.drawn):MD n (move P m):=by
 unfold move
 split
 ·split
  ·exact h
  ·exact trivial
 ·split
  ·split
   ·exact h
   ·exact ask_D (m:={ m with rest:={ m.rest with slice:=none } }) h
  ·exact ask_D h
theorem step_D{n:Nat}{m:Machine}(h:n≤m.world.drawn):SD n (step P m):=by
 unfold step stepT
 have:=move_D (P:=P) h
 revert this
 generalize move P m=x
 intro hx
 cases x with
 | goroutine m i=>exact done_D hx
 | machine s ops=>exact hx
theorem runN_D{n:Nat}:∀ (k:Nat) (m:Machine),n≤m.world.drawn→SD n (runN P k m)
 | 0,_,h=>h
 | k+1,m,h=>by
  have hs:=step_D (P:=P) h
  unfold runN
  revert hs
  generalize step P m=s
  intro hs
  cases s with
  | next m'=>exact runN_D k m' hs
  | ended o w=>exact trivial
theorem steps_D{m m':Machine}(h:Steps P m m'):m.world.drawn≤m'.world.drawn:=by
 obtain⟨k,hk⟩:=h
 have:=runN_D (P:=P) k m (Nat.le_refl _)
 rw [hk] at this
 exact this
theorem calls{f:FuncId}{args:Array Value}{w:World}{R:Ending→World→Prop}(h:Calls P f args w R):Calls P f args w fun e w'=>R e w'∧(e ≠ .outgrown→w.drawn≤w'.drawn):=by
 intro cs
 obtain⟨e,w',fr,hR,hc,hf,hl⟩:=h cs
 refine⟨e,w',fr,⟨hR,fun hne=>?_⟩,hc,hf,hl⟩
 cases e with
 | returned v=>exact steps_D hc
 | panicked c=>exact steps_D hc
 | outgrown=>exact absurd rfl hne
end Go.Ev.Dr

