/- HHandC, part 6: what the proof needs, in the order of its texts. -/
import Derived.Test.YtgicpaknlgammaaHHandC5
import Derived.Test.YtgicpaknlgammaaProg
import Derived.KernelRfl
import Derived.Sort.AssemblyPlain
import Derived.Sort.LotD5
set_option linter.unusedVariables false
set_option linter.unusedSimpArgs false
namespace Go.Ev
open Go Go.Proofs
open Go.Ev.T renaming node → nN, nil → nZ
open Go.Proofs.Try (prog)
set_option maxRecDepth 100000
set_option maxHeartbeats 2000000
namespace KPartial
noncomputable def bd:Code:=(Go.Proofs.Try.f79.body).getD .skip
noncomputable def H0(f:Nat)(n:Nat)(cap:Nat)(c:List Value)(a:Nat)(b:Nat):AH:={ objs:=eE (eE (eE (eE (eE (eE (eE (lL (AObj.cells 74 [Value.func (Fn.func f) ⟨[]⟩ ⟨[]⟩,Value.chan none,Value.chan none,Value.chan none] true 0)) nZ) nZ) nZ) nZ) nZ) nZ) (eE nZ (eE nZ (eE nZ (eE nZ (eE nZ (lL (AObj.cells 52 c false 2))))))),next:=128 }
noncomputable def E(f:Nat)(n:Nat)(cap:Nat)(c:List Value)(a:Nat)(b:Nat):AS:=⟨⟨79,141,nS (sS 126 0 n cap) (nS (iI (↑a:Int)) (lL (Value.func (Fn.func 36) ⟨[pP 127 0]⟩ ⟨[]⟩)) nZ) (lL (iI (↑b:Int))),[Item.code (codeAt bd [])],[],FrameMode.run,CallKind.normal,none⟩,[],H0 f n cap c a b⟩
noncomputable def S0(f:Nat)(n:Nat)(cap:Nat)(c:List Value)(a:Nat)(b:Nat)(i0:Int)(l0:List Value)(i1:Int)(d:Nat→Value):AS:=⟨⟨79,141,nS (sS 126 0 n cap) (nS (iI (↑a:Int)) (nS (Value.func (Fn.func 36) ⟨[pP 127 0]⟩ ⟨[]⟩) (nS (d 7) (nS (d 15) (nS (d 31) (nS (d 63) (lL (d 127)) nZ) (lL (d 95))) (nS (d 47) (lL (d 79)) (lL (d 111)))) (nS (d 23) (nS (d 39) (nS (d 71) (lL (d 135)) nZ) (lL (d 103))) (nS (d 55) (lL (d 87)) (lL (d 119))))) (nS (d 11) (nS (d 19) (nS (d 35) (nS (d 67) (lL (d 131)) nZ) (lL (d 99))) (nS (d 51) (lL (d 83)) (lL (d 115)))) (nS (d 27) (nS (d 43) (nS (d 75) (lL (d 139)) nZ) (lL (d 107))) (nS (d 59) (lL (d 91)) (lL (d 123)))))) (nS (d 5) (nS (iI i1) (nS (d 17) (nS (d 33) (nS (d 65) (lL (d 129)) nZ) (lL (d 97))) (nS (d 49) (lL (d 81)) (lL (d 113)))) (nS (d 25) (nS (d 41) (nS (d 73) (lL (d 137)) nZ) (lL (d 105))) (nS (d 57) (lL (d 89)) (lL (d 121))))) (nS (d 13) (nS (d 21) (nS (d 37) (nS (d 69) (lL (d 133)) nZ) (lL (d 101))) (nS (d 53) (lL (d 85)) (lL (d 117)))) (nS (d 29) (nS (d 45) (lL (d 77)) (lL (d 109))) (nS (d 61) (lL (d 93)) (lL (d 125))))))) (nS (iI (↑b:Int)) (nS (d 4) (nS (d 8) (nS (d 16) (nS (d 32) (nS (d 64) (lL (d 128)) nZ) (lL (d 96))) (nS (d 48) (lL (d 80)) (lL (d 112)))) (nS (d 24) (nS (d 40) (nS (d 72) (lL (d 136)) nZ) (lL (d 104))) (nS (d 56) (lL (d 88)) (lL (d 120))))) (nS (d 12) (nS (d 20) (nS (d 36) (nS (d 68) (lL (d 132)) nZ) (lL (d 100))) (nS (d 52) (lL (d 84)) (lL (d 116)))) (nS (d 28) (nS (d 44) (nS (d 76) (lL (d 140)) nZ) (lL (d 108))) (nS (d 60) (lL (d 92)) (lL (d 124)))))) (nS (d 6) (nS (iI i0) (nS (d 18) (nS (d 34) (nS (d 66) (lL (d 130)) nZ) (lL (d 98))) (nS (d 50) (lL (d 82)) (lL (d 114)))) (nS (d 26) (nS (d 42) (nS (d 74) (lL (d 138)) nZ) (lL (d 106))) (nS (d 58) (lL (d 90)) (lL (d 122))))) (nS (d 14) (nS (d 22) (nS (d 38) (nS (d 70) (lL (d 134)) nZ) (lL (d 102))) (nS (d 54) (lL (d 86)) (lL (d 118)))) (nS (d 30) (nS (d 46) (lL (d 78)) (lL (d 110))) (nS (d 62) (lL (d 94)) (lL (d 126))))))),[Item.code (codeAt bd [1,1,0,1,0,0]),Item.inLoop (codeAt bd [1,1,0,1,0,0]),Item.inBlock 0,Item.code (codeAt bd [1,1,1])],[],FrameMode.run,CallKind.normal,none⟩,[],⟨eE (eE (eE (eE (eE (eE (eE (lL (AObj.cells 74 [Value.func (Fn.func f) ⟨[]⟩ ⟨[]⟩,Value.chan none,Value.chan none,Value.chan none] true 0)) nZ) nZ) nZ) nZ) nZ) nZ) (eE nZ (eE nZ (eE nZ (eE nZ (eE nZ (lL (AObj.cells 52 l0 false 2))))))),128⟩⟩
noncomputable def S1(f:Nat)(n:Nat)(cap:Nat)(c:List Value)(a:Nat)(b:Nat)(i0:Int)(i1:Int)(l0:List Value)(d:Nat→Value):AS:=⟨⟨79,141,nS (sS 126 0 n cap) (nS (iI (↑a:Int)) (nS (Value.func (Fn.func 36) ⟨[pP 127 0]⟩ ⟨[]⟩) (nS (d 7) (nS (d 15) (nS (d 31) (nS (d 63) (lL (d 127)) nZ) (lL (d 95))) (nS (d 47) (lL (d 79)) (lL (d 111)))) (nS (d 23) (nS (d 39) (nS (d 71) (lL (d 135)) nZ) (lL (d 103))) (nS (d 55) (lL (d 87)) (lL (d 119))))) (nS (d 11) (nS (d 19) (nS (d 35) (nS (d 67) (lL (d 131)) nZ) (lL (d 99))) (nS (d 51) (lL (d 83)) (lL (d 115)))) (nS (d 27) (nS (d 43) (nS (d 75) (lL (d 139)) nZ) (lL (d 107))) (nS (d 59) (lL (d 91)) (lL (d 123)))))) (nS (d 5) (nS (iI i0) (nS (d 17) (nS (d 33) (nS (d 65) (lL (d 129)) nZ) (lL (d 97))) (nS (d 49) (lL (d 81)) (lL (d 113)))) (nS (d 25) (nS (d 41) (nS (d 73) (lL (d 137)) nZ) (lL (d 105))) (nS (d 57) (lL (d 89)) (lL (d 121))))) (nS (d 13) (nS (d 21) (nS (d 37) (nS (d 69) (lL (d 133)) nZ) (lL (d 101))) (nS (d 53) (lL (d 85)) (lL (d 117)))) (nS (d 29) (nS (d 45) (lL (d 77)) (lL (d 109))) (nS (d 61) (lL (d 93)) (lL (d 125))))))) (nS (iI (↑b:Int)) (nS (d 4) (nS (d 8) (nS (d 16) (nS (d 32) (nS (d 64) (lL (d 128)) nZ) (lL (d 96))) (nS (d 48) (lL (d 80)) (lL (d 112)))) (nS (d 24) (nS (d 40) (nS (d 72) (lL (d 136)) nZ) (lL (d 104))) (nS (d 56) (lL (d 88)) (lL (d 120))))) (nS (d 12) (nS (d 20) (nS (d 36) (nS (d 68) (lL (d 132)) nZ) (lL (d 100))) (nS (d 52) (lL (d 84)) (lL (d 116)))) (nS (d 28) (nS (d 44) (nS (d 76) (lL (d 140)) nZ) (lL (d 108))) (nS (d 60) (lL (d 92)) (lL (d 124)))))) (nS (d 6) (nS (iI i1) (nS (d 18) (nS (d 34) (nS (d 66) (lL (d 130)) nZ) (lL (d 98))) (nS (d 50) (lL (d 82)) (lL (d 114)))) (nS (d 26) (nS (d 42) (nS (d 74) (lL (d 138)) nZ) (lL (d 106))) (nS (d 58) (lL (d 90)) (lL (d 122))))) (nS (d 14) (nS (d 22) (nS (d 38) (nS (d 70) (lL (d 134)) nZ) (lL (d 102))) (nS (d 54) (lL (d 86)) (lL (d 118)))) (nS (d 30) (nS (d 46) (lL (d 78)) (lL (d 110))) (nS (d 62) (lL (d 94)) (lL (d 126))))))),[Item.code (codeAt bd [1,1,0,1,0,0,1,0,0,0,0,0]),Item.inLoop (codeAt bd [1,1,0,1,0,0,1,0,0,0,0,0]),Item.inBlock 2,Item.code (codeAt bd [1,1,0,1,0,0,1,0,0,1]),Item.inBlock 1,Item.code (codeAt bd [1,1,0,1,0,0,1,1]),Item.inLoop (codeAt bd [1,1,0,1,0,0]),Item.inBlock 0,Item.code (codeAt bd [1,1,1])],[],FrameMode.run,CallKind.normal,none⟩,[],⟨eE (eE (eE (eE (eE (eE (eE (lL (AObj.cells 74 [Value.func (Fn.func f) ⟨[]⟩ ⟨[]⟩,Value.chan none,Value.chan none,Value.chan none] true 0)) nZ) nZ) nZ) nZ) nZ) nZ) (eE nZ (eE nZ (eE nZ (eE nZ (eE nZ (lL (AObj.cells 52 l0 false 2))))))),128⟩⟩
noncomputable def S2(f:Nat)(n:Nat)(cap:Nat)(c:List Value)(a:Nat)(b:Nat)(i0:Int)(l0:List Value)(i1:Int)(i2:Int)(d:Nat→Value):AS:=⟨⟨79,141,nS (sS 126 0 n cap) (nS (iI (↑a:Int)) (nS (Value.func (Fn.func 36) ⟨[pP 127 0]⟩ ⟨[]⟩) (nS (d 7) (nS (d 15) (nS (d 31) (nS (d 63) (lL (d 127)) nZ) (lL (d 95))) (nS (d 47) (lL (d 79)) (lL (d 111)))) (nS (d 23) (nS (d 39) (nS (d 71) (lL (d 135)) nZ) (lL (d 103))) (nS (d 55) (lL (d 87)) (lL (d 119))))) (nS (iI i0) (nS (d 19) (nS (d 35) (nS (d 67) (lL (d 131)) nZ) (lL (d 99))) (nS (d 51) (lL (d 83)) (lL (d 115)))) (nS (d 27) (nS (d 43) (nS (d 75) (lL (d 139)) nZ) (lL (d 107))) (nS (d 59) (lL (d 91)) (lL (d 123)))))) (nS (d 5) (nS (iI i1) (nS (d 17) (nS (d 33) (nS (d 65) (lL (d 129)) nZ) (lL (d 97))) (nS (d 49) (lL (d 81)) (lL (d 113)))) (nS (d 25) (nS (d 41) (nS (d 73) (lL (d 137)) nZ) (lL (d 105))) (nS (d 57) (lL (d 89)) (lL (d 121))))) (nS (d 13) (nS (d 21) (nS (d 37) (nS (d 69) (lL (d 133)) nZ) (lL (d 101))) (nS (d 53) (lL (d 85)) (lL (d 117)))) (nS (d 29) (nS (d 45) (lL (d 77)) (lL (d 109))) (nS (d 61) (lL (d 93)) (lL (d 125))))))) (nS (iI (↑b:Int)) (nS (d 4) (nS (d 8) (nS (d 16) (nS (d 32) (nS (d 64) (lL (d 128)) nZ) (lL (d 96))) (nS (d 48) (lL (d 80)) (lL (d 112)))) (nS (d 24) (nS (d 40) (nS (d 72) (lL (d 136)) nZ) (lL (d 104))) (nS (d 56) (lL (d 88)) (lL (d 120))))) (nS (d 12) (nS (d 20) (nS (d 36) (nS (d 68) (lL (d 132)) nZ) (lL (d 100))) (nS (d 52) (lL (d 84)) (lL (d 116)))) (nS (d 28) (nS (d 44) (nS (d 76) (lL (d 140)) nZ) (lL (d 108))) (nS (d 60) (lL (d 92)) (lL (d 124)))))) (nS (d 6) (nS (iI i2) (nS (d 18) (nS (d 34) (nS (d 66) (lL (d 130)) nZ) (lL (d 98))) (nS (d 50) (lL (d 82)) (lL (d 114)))) (nS (d 26) (nS (d 42) (nS (d 74) (lL (d 138)) nZ) (lL (d 106))) (nS (d 58) (lL (d 90)) (lL (d 122))))) (nS (d 14) (nS (d 22) (nS (d 38) (nS (d 70) (lL (d 134)) nZ) (lL (d 102))) (nS (d 54) (lL (d 86)) (lL (d 118)))) (nS (d 30) (nS (d 46) (lL (d 78)) (lL (d 110))) (nS (d 62) (lL (d 94)) (lL (d 126))))))),[Item.code (codeAt bd [1,1,0,1,0,0,1,0,0,1,1,1,1,0,1,0,1,0,0]),Item.inLoop (codeAt bd [1,1,0,1,0,0,1,0,0,1,1,1,1,0,1,0,1,0,0]),Item.inBlock 4,Item.code (codeAt bd [1,1,0,1,0,0,1,0,0,1,1,1,1,1]),Item.inBlock 1,Item.code (codeAt bd [1,1,0,1,0,0,1,1]),Item.inLoop (codeAt bd [1,1,0,1,0,0]),Item.inBlock 0,Item.code (codeAt bd [1,1,1])],[],FrameMode.run,CallKind.normal,none⟩,[],⟨eE (eE (eE (eE (eE (eE (eE (lL (AObj.cells 74 [Value.func (Fn.func f) ⟨[]⟩ ⟨[]⟩,Value.chan none,Value.chan none,Value.chan none] true 0)) nZ) nZ) nZ) nZ) nZ) nZ) (eE nZ (eE nZ (eE nZ (eE nZ (eE nZ (lL (AObj.cells 52 l0 false 2))))))),128⟩⟩
noncomputable def S3(f:Nat)(n:Nat)(cap:Nat)(c:List Value)(a:Nat)(b:Nat)(i0:Int)(l0:List Value)(i1:Int)(i2:Int)(d:Nat→Value):AS:=⟨⟨79,141,nS (sS 126 0 n cap) (nS (iI (↑a:Int)) (nS (Value.func (Fn.func 36) ⟨[pP 127 0]⟩ ⟨[]⟩) (nS (d 7) (nS (d 15) (nS (d 31) (nS (d 63) (lL (d 127)) nZ) (lL (d 95))) (nS (d 47) (lL (d 79)) (lL (d 111)))) (nS (d 23) (nS (d 39) (nS (d 71) (lL (d 135)) nZ) (lL (d 103))) (nS (d 55) (lL (d 87)) (lL (d 119))))) (nS (d 11) (nS (d 19) (nS (d 35) (nS (d 67) (lL (d 131)) nZ) (lL (d 99))) (nS (d 51) (lL (d 83)) (lL (d 115)))) (nS (d 27) (nS (d 43) (nS (d 75) (lL (d 139)) nZ) (lL (d 107))) (nS (d 59) (lL (d 91)) (lL (d 123)))))) (nS (d 5) (nS (iI i1) (nS (d 17) (nS (d 33) (nS (d 65) (lL (d 129)) nZ) (lL (d 97))) (nS (d 49) (lL (d 81)) (lL (d 113)))) (nS (d 25) (nS (d 41) (nS (d 73) (lL (d 137)) nZ) (lL (d 105))) (nS (d 57) (lL (d 89)) (lL (d 121))))) (nS (d 13) (nS (d 21) (nS (d 37) (nS (d 69) (lL (d 133)) nZ) (lL (d 101))) (nS (d 53) (lL (d 85)) (lL (d 117)))) (nS (d 29) (nS (d 45) (lL (d 77)) (lL (d 109))) (nS (d 61) (lL (d 93)) (lL (d 125))))))) (nS (iI (↑b:Int)) (nS (d 4) (nS (d 8) (nS (d 16) (nS (d 32) (nS (d 64) (lL (d 128)) nZ) (lL (d 96))) (nS (d 48) (lL (d 80)) (lL (d 112)))) (nS (d 24) (nS (d 40) (nS (d 72) (lL (d 136)) nZ) (lL (d 104))) (nS (d 56) (lL (d 88)) (lL (d 120))))) (nS (iI i0) (nS (d 20) (nS (d 36) (nS (d 68) (lL (d 132)) nZ) (lL (d 100))) (nS (d 52) (lL (d 84)) (lL (d 116)))) (nS (d 28) (nS (d 44) (nS (d 76) (lL (d 140)) nZ) (lL (d 108))) (nS (d 60) (lL (d 92)) (lL (d 124)))))) (nS (d 6) (nS (iI i2) (nS (d 18) (nS (d 34) (nS (d 66) (lL (d 130)) nZ) (lL (d 98))) (nS (d 50) (lL (d 82)) (lL (d 114)))) (nS (d 26) (nS (d 42) (nS (d 74) (lL (d 138)) nZ) (lL (d 106))) (nS (d 58) (lL (d 90)) (lL (d 122))))) (nS (d 14) (nS (d 22) (nS (d 38) (nS (d 70) (lL (d 134)) nZ) (lL (d 102))) (nS (d 54) (lL (d 86)) (lL (d 118)))) (nS (d 30) (nS (d 46) (lL (d 78)) (lL (d 110))) (nS (d 62) (lL (d 94)) (lL (d 126))))))),[Item.code (codeAt bd [1,1,0,1,0,0,1,0,0,1,1,1,1,1,1,0,1,0,0]),Item.inLoop (codeAt bd [1,1,0,1,0,0,1,0,0,1,1,1,1,1,1,0,1,0,0]),Item.inBlock 6,Item.inBlock 1,Item.code (codeAt bd [1,1,0,1,0,0,1,1]),Item.inLoop (codeAt bd [1,1,0,1,0,0]),Item.inBlock 0,Item.code (codeAt bd [1,1,1])],[],FrameMode.run,CallKind.normal,none⟩,[],⟨eE (eE (eE (eE (eE (eE (eE (lL (AObj.cells 74 [Value.func (Fn.func f) ⟨[]⟩ ⟨[]⟩,Value.chan none,Value.chan none,Value.chan none] true 0)) nZ) nZ) nZ) nZ) nZ) nZ) (eE nZ (eE nZ (eE nZ (eE nZ (eE nZ (lL (AObj.cells 52 l0 false 2))))))),128⟩⟩
theorem enter{η:Nat→Value}{B:Bd}(hη:OneCells η)(hmix:prog.follows .mixedOrders=true)(hreg:RegOk η prog B noNest){D:Value→AH→Prop}(f:Nat)(n:Nat)(cap:Nat)(c:List Value)(a:Nat)(b:Nat)(h:W.holds η prog B 79 (fun kp_ st_=>RunD η prog B 79 (H0 f n cap c a b) kp_ st_ (QF prog 128 D)) D (.stop [0,1,2,3,9,10] (S0 f n cap c a b (0) (c) (IntKind.i64.wrap ((↑a:Int)+1)) (fun _=>undef)))):CallSpec η prog B 79 [Value.slice (some ⟨126,0,none⟩) n cap,Value.int IntKind.i64 (↑a:Int),Value.int IntKind.i64 (↑b:Int),Value.func (Fn.func 36) ⟨[Value.pointer (some ⟨127,0,none⟩)]⟩ ⟨[]⟩] (H0 f n cap c a b) D:=by
 refine CallSpec.ofQF hη (CallSpec.enter (fr:=(E f n cap c a b).fr) (by kernel_rfl) ?_)
 exact walk_okT (h0:=H0 f n cap c a b) hη hmix hreg (.steps 17 <| .stop [0,1,2,3,9,10] none) (E f n cap c a b) (by kernel_rfl) h (by kernel_rfl)
theorem cut0{η:Nat→Value}{B:Bd}(hη:OneCells η)(hmix:prog.follows .mixedOrders=true)(hreg:RegOk η prog B noNest){D:Value→AH→Prop}(f:Nat)(n:Nat)(cap:Nat)(c:List Value)(a:Nat)(b:Nat)(i0:Int)(l0:List Value)(i1:Int)(h:W.holds η prog B 79 (fun kp_ st_=>RunD η prog B 79 (H0 f n cap c a b) kp_ st_ (QF prog 128 D)) D (.ite (decide (i0<(5:Int))) (.stop [0,1,2,3,9,10] (S1 f n cap c a b (i1) (i0) (l0) (fun _=>undef))) (.done 79 (Value.bool false) (⟨eE (eE (eE (eE (eE (eE (eE (lL (AObj.cells 74 [Value.func (Fn.func f) ⟨[]⟩ ⟨[]⟩,Value.chan none,Value.chan none,Value.chan none] true 0)) nZ) nZ) nZ) nZ) nZ) nZ) (eE nZ (eE nZ (eE nZ (eE nZ (eE nZ (lL (AObj.cells 52 l0 false 2))))))),128⟩)))):RunD η prog B 79 (H0 f n cap c a b) [0,1,2,3,9,10] (S0 f n cap c a b i0 l0 i1 fun _=>undef) (QF prog 128 D):=by
 refine RunD.intro (S0 f n cap c a b i0 l0 i1) (fun d=>⟨rfl,rfl,rfl⟩) (fun d=>tmOk_get (by kernel_rfl)) (fun d=>by kernel_rfl) (fun d=>?_)
 exact walk_okT (h0:=H0 f n cap c a b) hη hmix hreg (.steps 6 <| .bit 16 (.steps 7 <| .stop [0,1,2,3,9,10] none) (.steps 7 <| .done none)) (S0 f n cap c a b i0 l0 i1 d) (by kernel_rfl) h (by kernel_rfl)
theorem cut1{η:Nat→Value}{B:Bd}(hη:OneCells η)(hmix:prog.follows .mixedOrders=true)(hreg:RegOk η prog B noNest){D:Value→AH→Prop}(f:Nat)(n:Nat)(cap:Nat)(c:List Value)(a:Nat)(b:Nat)(i0:Int)(i1:Int)(l0:List Value)(h:let q10:=(intAt l0 ((0:Nat)+i0.toNat * (2:Nat)));let q9:=(intAt l0 (0+(IntKind.i64.wrap (i0 - 1)).toNat * 2));let q8:=(intAt l0 ((0:Nat)+i0.toNat * (2:Nat)+(1:Nat)));let q7:=(intAt l0 (0+(IntKind.i64.wrap (i0 - 1)).toNat * 2+1));let q6:=(decide (IntKind.i64.wrap ((↑b:Int) - (↑a:Int))<(50:Int)));let q5:=(intAt l0 ((0:Nat)+(IntKind.i64.wrap (i0 - (1:Int))).toNat * (2:Nat)));let q4:=(intAt l0 ((0:Nat)+(IntKind.i64.wrap (i0 - (1:Int))).toNat * (2:Nat)+(1:Nat)));let q3:AH:=⟨eE (eE (eE (eE (eE (eE (eE (lL (AObj.cells 74 [Value.func (Fn.func f) ⟨[]⟩ ⟨[]⟩,Value.chan none,Value.chan none,Value.chan none] true 0)) nZ) nZ) nZ) nZ) nZ) nZ) (eE nZ (eE nZ (eE nZ (eE nZ (eE nZ (lL (AObj.cells 52 l0 false 2))))))),146⟩;let q2:W:=(.need (NoNames l0∧True∧True) (.done 79 (Value.bool true) (⟨eE (eE (eE (eE (eE (eE (eE (lL (AObj.cells 74 [Value.func (Fn.func f) ⟨[]⟩ ⟨[]⟩,Value.chan none,Value.chan none,Value.chan none] true 0)) nZ) nZ) nZ) nZ) nZ) nZ) (eE nZ (eE nZ (eE nZ (eE nZ (eE nZ (lL (AObj.cells 52 l0 false 2))))))),128⟩)));let q1:W:=(.need (NoNames l0∧True∧True) (.done 79 (Value.bool false) (⟨eE (eE (eE (eE (eE (eE (eE (lL (AObj.cells 74 [Value.func (Fn.func f) ⟨[]⟩ ⟨[]⟩,Value.chan none,Value.chan none,Value.chan none] true 0)) nZ) nZ) nZ) nZ) nZ) nZ) (eE nZ (eE nZ (eE nZ (eE nZ (eE nZ (lL (AObj.cells 52 l0 false 2))))))),128⟩)));let q0:W:=(.need ((0:Int)≤IntKind.i64.wrap (i0 - (1:Int))∧IntKind.i64.wrap (i0 - (1:Int))<(↑n:Int)) (.need ((0:Nat)+(IntKind.i64.wrap (i0 - (1:Int))).toNat * (2:Nat)+(2:Nat)≤l0.length∧List.take (2:Nat) (List.drop ((0:Nat)+(IntKind.i64.wrap (i0 - (1:Int))).toNat * (2:Nat)) l0)=[Value.int IntKind.i64 q5,Value.int IntKind.i64 q4]) (.need ((0:Int)≤i0∧i0<(↑n:Int)) (.need ((0:Nat)+i0.toNat * (2:Nat)+(2:Nat)≤l0.length∧List.take (2:Nat) (List.drop ((0:Nat)+i0.toNat * (2:Nat)) l0)=[Value.int IntKind.i64 q10,Value.int IntKind.i64 q8]) (.need ((0:Int)≤i0∧i0<(↑n:Int)) (.need ((0:Nat)+i0.toNat * (2:Nat)+(2:Nat)≤l0.length) (.need ((0:Int)≤IntKind.i64.wrap (i0 - (1:Int))∧IntKind.i64.wrap (i0 - (1:Int))<(↑n:Int)) (.need ((0:Nat)+(IntKind.i64.wrap (i0 - (1:Int))).toNat * (2:Nat)+(2:Nat)≤(splice l0 ((0:Nat)+i0.toNat * (2:Nat)) [Value.int IntKind.i64 q5,Value.int IntKind.i64 q4]).length) (.ite (decide (IntKind.i64.wrap (i0 - (↑a:Int)) ≥ (2:Int))) (.need (NoNames (splice (splice l0 ((0:Nat)+i0.toNat * (2:Nat)) [Value.int IntKind.i64 q5,Value.int IntKind.i64 q4]) ((0:Nat)+(IntKind.i64.wrap (i0 - (1:Int))).toNat * (2:Nat)) [Value.int IntKind.i64 q10,Value.int IntKind.i64 q8])∧True∧True) (.stop [0,1,2,3,9,10,11] (S2 f n cap c a b (IntKind.i64.wrap (i0 - 1)) (splice (splice l0 (0+i0.toNat * 2) [Value.int IntKind.i64 q9,Value.int IntKind.i64 q7]) (0+(IntKind.i64.wrap (i0 - 1)).toNat * 2) [Value.int IntKind.i64 (intAt l0 (0+i0.toNat * 2)),Value.int IntKind.i64 (intAt l0 (0+i0.toNat * 2+1))]) (i0) (i1) (fun _=>undef)))) (.ite (decide (IntKind.i64.wrap ((↑b:Int) - i0) ≥ (2:Int))) (.need (NoNames (splice (splice l0 ((0:Nat)+i0.toNat * (2:Nat)) [Value.int IntKind.i64 q5,Value.int IntKind.i64 q4]) ((0:Nat)+(IntKind.i64.wrap (i0 - (1:Int))).toNat * (2:Nat)) [Value.int IntKind.i64 q10,Value.int IntKind.i64 q8])∧True∧True) (.stop [0,1,2,3,9,10,12] (S3 f n cap c a b (IntKind.i64.wrap (i0+1)) (splice (splice l0 (0+i0.toNat * 2) [Value.int IntKind.i64 q9,Value.int IntKind.i64 q7]) (0+(IntKind.i64.wrap (i0 - 1)).toNat * 2) [Value.int IntKind.i64 (intAt l0 (0+i0.toNat * 2)),Value.int IntKind.i64 (intAt l0 (0+i0.toNat * 2+1))]) (i0) (i1) (fun _=>undef)))) (.need (NoNames (splice (splice l0 ((0:Nat)+i0.toNat * (2:Nat)) [Value.int IntKind.i64 q5,Value.int IntKind.i64 q4]) ((0:Nat)+(IntKind.i64.wrap (i0 - (1:Int))).toNat * (2:Nat)) [Value.int IntKind.i64 q10,Value.int IntKind.i64 q8])∧True∧True) (.stop [0,1,2,3,9,10] (S0 f n cap c a b (IntKind.i64.wrap (i1+1)) (splice (splice l0 (0+i0.toNat * 2) [Value.int IntKind.i64 q9,Value.int IntKind.i64 q7]) (0+(IntKind.i64.wrap (i0 - 1)).toNat * 2) [Value.int IntKind.i64 (intAt l0 (0+i0.toNat * 2)),Value.int IntKind.i64 (intAt l0 (0+i0.toNat * 2+1))]) (i0) (fun _=>undef))))))))))))));W.holds η prog B 79 (fun kp_ st_=>RunD η prog B 79 (H0 f n cap c a b) kp_ st_ (QF prog 128 D)) D (.ite (decide (i0<(↑b:Int))) (.need ((0:Int)≤i0∧i0<(↑n:Int)) (.need ((0:Nat)+i0.toNat * (2:Nat)+(2:Nat)≤l0.length∧List.take (2:Nat) (List.drop ((0:Nat)+i0.toNat * (2:Nat)) l0)=[Value.int IntKind.i64 q10,Value.int IntKind.i64 q8]) (.need ((0:Int)≤IntKind.i64.wrap (i0 - (1:Int))∧IntKind.i64.wrap (i0 - (1:Int))<(↑n:Int)) (.need ((0:Nat)+(IntKind.i64.wrap (i0 - (1:Int))).toNat * (2:Nat)+(2:Nat)≤l0.length∧List.take (2:Nat) (List.drop ((0:Nat)+(IntKind.i64.wrap (i0 - (1:Int))).toNat * (2:Nat)) l0)=[Value.int IntKind.i64 q5,Value.int IntKind.i64 q4]) (.call 36 [Value.pointer (some ⟨127,0,none⟩),Value.agg ⟨[Value.int IntKind.i64 (intAt l0 (0+i0.toNat * 2)),Value.int IntKind.i64 (intAt l0 (0+i0.toNat * 2+1))]⟩,Value.agg ⟨[Value.int IntKind.i64 q9,Value.int IntKind.i64 q7]⟩] (q3) (.ret (Value.int IntKind.i64 (HQ.cmpA f (intAt l0 (0+i0.toNat * 2)) (intAt l0 (0+i0.toNat * 2+1)) q9 q7)) (q3)) (.ite (!decide (HQ.cmpA f q10 q8 q5 q4<(0:Int))) (.need (NoNames l0∧True∧True) (.stop [0,1,2,3,9,10] (S1 f n cap c a b (IntKind.i64.wrap (i0+1)) (i1) (l0) (fun _=>undef)))) (.ite (i0 == (↑b:Int)) q2 (.ite q6 q1 q0)))))))) (.ite (i0 == (↑b:Int)) q2 (.ite q6 q1 q0)))):RunD η prog B 79 (H0 f n cap c a b) [0,1,2,3,9,10] (S1 f n cap c a b i0 i1 l0 fun _=>undef) (QF prog 128 D):=by
 refine RunD.intro (S1 f n cap c a b i0 i1 l0) (fun d=>⟨rfl,rfl,rfl⟩) (fun d=>tmOk_get (by kernel_rfl)) (fun d=>by kernel_rfl) (fun d=>?_)
 exact walk_okT (h0:=H0 f n cap c a b) hη hmix hreg (.steps 2 <| .reg <| .steps 4 <| .bit 22 (.steps 3 <| .op <| .op <| .steps 3 <| .op <| .op <| .call kN <| .steps 3 <| .reg <| .bit 36 (.steps 10 <| .stop [0,1,2,3,9,10] (some ⟨128,[],[(126,(126,true)),(127,(127,false))]⟩)) (.steps 9 <| .bit 41 (.steps 6 <| .done (some ⟨128,[],[(126,(126,true)),(127,(127,false))]⟩)) (.steps 10 <| .bit 45 (.steps 6 <| .done (some ⟨128,[],[(126,(126,true)),(127,(127,false))]⟩)) (.steps 3 <| .reg <| .steps 8 <| .op <| .op <| .steps 2 <| .op <| .op <| .op <| .op <| .op <| .op <| .reg <| .steps 8 <| .bit 65 (.steps 9 <| .stop [0,1,2,3,9,10,11] (some ⟨128,[],[(126,(126,true)),(127,(127,false))]⟩)) (.steps 9 <| .bit 104 (.steps 9 <| .stop [0,1,2,3,9,10,12] (some ⟨128,[],[(126,(126,true)),(127,(127,false))]⟩)) (.steps 9 <| .stop [0,1,2,3,9,10] (some ⟨128,[],[(126,(126,true)),(127,(127,false))]⟩))))))) (.steps 14 <| .reg <| .steps 9 <| .bit 41 (.steps 6 <| .done (some ⟨128,[],[(126,(126,true)),(127,(127,false))]⟩)) (.steps 10 <| .bit 45 (.steps 6 <| .done (some ⟨128,[],[(126,(126,true)),(127,(127,false))]⟩)) (.steps 3 <| .reg <| .steps 8 <| .op <| .op <| .steps 2 <| .op <| .op <| .op <| .op <| .op <| .op <| .reg <| .steps 8 <| .bit 65 (.steps 9 <| .stop [0,1,2,3,9,10,11] (some ⟨128,[],[(126,(126,true)),(127,(127,false))]⟩)) (.steps 9 <| .bit 104 (.steps 9 <| .stop [0,1,2,3,9,10,12] (some ⟨128,[],[(126,(126,true)),(127,(127,false))]⟩)) (.steps 9 <| .stop [0,1,2,3,9,10] (some ⟨128,[],[(126,(126,true)),(127,(127,false))]⟩))))))) (S1 f n cap c a b i0 i1 l0 d) (by kernel_rfl) h (by kernel_rfl)
theorem cut2{η:Nat→Value}{B:Bd}(hη:OneCells η)(hmix:prog.follows .mixedOrders=true)(hreg:RegOk η prog B noNest){D:Value→AH→Prop}(f:Nat)(n:Nat)(cap:Nat)(c:List Value)(a:Nat)(b:Nat)(i0:Int)(l0:List Value)(i1:Int)(i2:Int)(h:let q15:=(intAt l0 (0+i0.toNat * 2));let q14:=(intAt l0 (0+i0.toNat * 2+1));let q13:=(IntKind.i64.wrap (i0 - (1:Int)));let q12:=(intAt l0 ((0:Nat)+i0.toNat * (2:Nat)));let q11:=(List.drop ((0:Nat)+i0.toNat * (2:Nat)) l0);let q10:=(intAt l0 (0+(IntKind.i64.wrap (i0 - 1)).toNat * 2));let q9:=(decide (IntKind.i64.wrap ((↑b:Int) - i1) ≥ (2:Int)));let q8:=(intAt l0 ((0:Nat)+i0.toNat * (2:Nat)+(1:Nat)));let q7:=(intAt l0 (0+(IntKind.i64.wrap (i0 - 1)).toNat * 2+1));let q6:=(intAt l0 ((0:Nat)+q13.toNat * (2:Nat)));let q5:=(List.drop ((0:Nat)+q13.toNat * (2:Nat)) l0);let q4:=(intAt l0 ((0:Nat)+q13.toNat * (2:Nat)+(1:Nat)));let q3:W:=(.stop [0,1,2,3,9,10] (S0 f n cap c a b (IntKind.i64.wrap (i2+1)) (l0) (i1) (fun _=>undef)));let q2:W:=(.stop [0,1,2,3,9,10,12] (S3 f n cap c a b (IntKind.i64.wrap (i1+1)) (l0) (i1) (i2) (fun _=>undef)));let q1:=(splice l0 ((0:Nat)+i0.toNat * (2:Nat)) [Value.int IntKind.i64 q6,Value.int IntKind.i64 q4]);let q0:AH:=⟨eE (eE (eE (eE (eE (eE (eE (lL (AObj.cells 74 [Value.func (Fn.func f) ⟨[]⟩ ⟨[]⟩,Value.chan none,Value.chan none,Value.chan none] true 0)) nZ) nZ) nZ) nZ) nZ) nZ) (eE nZ (eE nZ (eE nZ (eE nZ (eE nZ (lL (AObj.cells 52 l0 false 2))))))),141⟩;W.holds η prog B 79 (fun kp_ st_=>RunD η prog B 79 (H0 f n cap c a b) kp_ st_ (QF prog 128 D)) D (.ite (decide (i0 ≥ (1:Int))) (.need ((0:Int)≤i0∧i0<(↑n:Int)) (.need ((0:Nat)+i0.toNat * (2:Nat)+(2:Nat)≤l0.length∧List.take (2:Nat) q11=[Value.int IntKind.i64 q12,Value.int IntKind.i64 q8]) (.need ((0:Int)≤IntKind.i64.wrap (i0 - (1:Int))∧IntKind.i64.wrap (i0 - (1:Int))<(↑n:Int)) (.need ((0:Nat)+q13.toNat * (2:Nat)+(2:Nat)≤l0.length∧List.take (2:Nat) q5=[Value.int IntKind.i64 q6,Value.int IntKind.i64 q4]) (.call 36 [Value.pointer (some ⟨127,0,none⟩),Value.agg ⟨[Value.int IntKind.i64 q15,Value.int IntKind.i64 q14]⟩,Value.agg ⟨[Value.int IntKind.i64 q10,Value.int IntKind.i64 q7]⟩] (q0) (.ret (Value.int IntKind.i64 (HQ.cmpA f q15 q14 q10 q7)) (q0)) (.ite (!decide (HQ.cmpA f q12 q8 q6 q4<(0:Int))) (.ite q9 (.need (NoNames l0∧True∧True) q2) (.need (NoNames l0∧True∧True) q3)) (.need ((0:Int)≤IntKind.i64.wrap (i0 - (1:Int))∧IntKind.i64.wrap (i0 - (1:Int))<(↑n:Int)) (.need ((0:Nat)+q13.toNat * (2:Nat)+(2:Nat)≤l0.length∧List.take (2:Nat) q5=[Value.int IntKind.i64 q6,Value.int IntKind.i64 q4]) (.need ((0:Int)≤i0∧i0<(↑n:Int)) (.need ((0:Nat)+i0.toNat * (2:Nat)+(2:Nat)≤l0.length∧List.take (2:Nat) q11=[Value.int IntKind.i64 q12,Value.int IntKind.i64 q8]) (.need ((0:Int)≤i0∧i0<(↑n:Int)) (.need ((0:Nat)+i0.toNat * (2:Nat)+(2:Nat)≤l0.length) (.need ((0:Int)≤IntKind.i64.wrap (i0 - (1:Int))∧IntKind.i64.wrap (i0 - (1:Int))<(↑n:Int)) (.need ((0:Nat)+q13.toNat * (2:Nat)+(2:Nat)≤q1.length) (.need (NoNames (splice q1 ((0:Nat)+q13.toNat * (2:Nat)) [Value.int IntKind.i64 q12,Value.int IntKind.i64 q8])∧True∧True) (.stop [0,1,2,3,9,10,11] (S2 f n cap c a b (IntKind.i64.wrap (i0 - 1)) (splice (splice l0 (0+i0.toNat * 2) [Value.int IntKind.i64 q10,Value.int IntKind.i64 q7]) (0+(IntKind.i64.wrap (i0 - 1)).toNat * 2) [Value.int IntKind.i64 q15,Value.int IntKind.i64 q14]) (i1) (i2) (fun _=>undef)))))))))))))))))) (.ite q9 q2 q3))):RunD η prog B 79 (H0 f n cap c a b) [0,1,2,3,9,10,11] (S2 f n cap c a b i0 l0 i1 i2 fun _=>undef) (QF prog 128 D):=by
 refine RunD.intro (S2 f n cap c a b i0 l0 i1 i2) (fun d=>⟨rfl,rfl,rfl⟩) (fun d=>tmOk_get (by kernel_rfl)) (fun d=>by kernel_rfl) (fun d=>?_)
 exact walk_okT (h0:=H0 f n cap c a b) hη hmix hreg (.steps 6 <| .bit 69 (.steps 6 <| .reg <| .steps 3 <| .op <| .op <| .steps 3 <| .op <| .op <| .call kN <| .steps 2 <| .reg <| .bit 84 (.steps 9 <| .bit 104 (.steps 9 <| .stop [0,1,2,3,9,10,12] (some ⟨128,[],[(126,(126,true)),(127,(127,false))]⟩)) (.steps 9 <| .stop [0,1,2,3,9,10] (some ⟨128,[],[(126,(126,true)),(127,(127,false))]⟩))) (.steps 2 <| .reg <| .steps 8 <| .op <| .op <| .steps 2 <| .op <| .op <| .op <| .op <| .op <| .op <| .reg <| .steps 7 <| .stop [0,1,2,3,9,10,11] (some ⟨128,[],[(126,(126,true)),(127,(127,false))]⟩))) (.steps 9 <| .bit 104 (.steps 9 <| .stop [0,1,2,3,9,10,12] none) (.steps 9 <| .stop [0,1,2,3,9,10] none))) (S2 f n cap c a b i0 l0 i1 i2 d) (by kernel_rfl) h (by kernel_rfl)
theorem cut3{η:Nat→Value}{B:Bd}(hη:OneCells η)(hmix:prog.follows .mixedOrders=true)(hreg:RegOk η prog B noNest){D:Value→AH→Prop}(f:Nat)(n:Nat)(cap:Nat)(c:List Value)(a:Nat)(b:Nat)(i0:Int)(l0:List Value)(i1:Int)(i2:Int)(h:let q13:=(intAt l0 (0+i0.toNat * 2));let q12:=(intAt l0 (0+i0.toNat * 2+1));let q11:=(IntKind.i64.wrap (i0 - (1:Int)));let q10:=(intAt l0 ((0:Nat)+i0.toNat * (2:Nat)));let q9:=(List.drop ((0:Nat)+i0.toNat * (2:Nat)) l0);let q8:=(intAt l0 (0+(IntKind.i64.wrap (i0 - 1)).toNat * 2));let q7:=(intAt l0 ((0:Nat)+i0.toNat * (2:Nat)+(1:Nat)));let q6:=(intAt l0 (0+(IntKind.i64.wrap (i0 - 1)).toNat * 2+1));let q5:=(intAt l0 ((0:Nat)+q11.toNat * (2:Nat)));let q4:=(List.drop ((0:Nat)+q11.toNat * (2:Nat)) l0);let q3:=(intAt l0 ((0:Nat)+q11.toNat * (2:Nat)+(1:Nat)));let q2:W:=(.stop [0,1,2,3,9,10] (S0 f n cap c a b (IntKind.i64.wrap (i2+1)) (l0) (i1) (fun _=>undef)));let q1:=(splice l0 ((0:Nat)+i0.toNat * (2:Nat)) [Value.int IntKind.i64 q5,Value.int IntKind.i64 q3]);let q0:AH:=⟨eE (eE (eE (eE (eE (eE (eE (lL (AObj.cells 74 [Value.func (Fn.func f) ⟨[]⟩ ⟨[]⟩,Value.chan none,Value.chan none,Value.chan none] true 0)) nZ) nZ) nZ) nZ) nZ) nZ) (eE nZ (eE nZ (eE nZ (eE nZ (eE nZ (lL (AObj.cells 52 l0 false 2))))))),141⟩;W.holds η prog B 79 (fun kp_ st_=>RunD η prog B 79 (H0 f n cap c a b) kp_ st_ (QF prog 128 D)) D (.ite (decide (i0<(↑b:Int))) (.need ((0:Int)≤i0∧i0<(↑n:Int)) (.need ((0:Nat)+i0.toNat * (2:Nat)+(2:Nat)≤l0.length∧List.take (2:Nat) q9=[Value.int IntKind.i64 q10,Value.int IntKind.i64 q7]) (.need ((0:Int)≤IntKind.i64.wrap (i0 - (1:Int))∧IntKind.i64.wrap (i0 - (1:Int))<(↑n:Int)) (.need ((0:Nat)+q11.toNat * (2:Nat)+(2:Nat)≤l0.length∧List.take (2:Nat) q4=[Value.int IntKind.i64 q5,Value.int IntKind.i64 q3]) (.call 36 [Value.pointer (some ⟨127,0,none⟩),Value.agg ⟨[Value.int IntKind.i64 q13,Value.int IntKind.i64 q12]⟩,Value.agg ⟨[Value.int IntKind.i64 q8,Value.int IntKind.i64 q6]⟩] (q0) (.ret (Value.int IntKind.i64 (HQ.cmpA f q13 q12 q8 q6)) (q0)) (.ite (!decide (HQ.cmpA f q10 q7 q5 q3<(0:Int))) (.need (NoNames l0∧True∧True) q2) (.need ((0:Int)≤IntKind.i64.wrap (i0 - (1:Int))∧IntKind.i64.wrap (i0 - (1:Int))<(↑n:Int)) (.need ((0:Nat)+q11.toNat * (2:Nat)+(2:Nat)≤l0.length∧List.take (2:Nat) q4=[Value.int IntKind.i64 q5,Value.int IntKind.i64 q3]) (.need ((0:Int)≤i0∧i0<(↑n:Int)) (.need ((0:Nat)+i0.toNat * (2:Nat)+(2:Nat)≤l0.length∧List.take (2:Nat) q9=[Value.int IntKind.i64 q10,Value.int IntKind.i64 q7]) (.need ((0:Int)≤i0∧i0<(↑n:Int)) (.need ((0:Nat)+i0.toNat * (2:Nat)+(2:Nat)≤l0.length) (.need ((0:Int)≤IntKind.i64.wrap (i0 - (1:Int))∧IntKind.i64.wrap (i0 - (1:Int))<(↑n:Int)) (.need ((0:Nat)+q11.toNat * (2:Nat)+(2:Nat)≤q1.length) (.need (NoNames (splice q1 ((0:Nat)+q11.toNat * (2:Nat)) [Value.int IntKind.i64 q10,Value.int IntKind.i64 q7])∧True∧True) (.stop [0,1,2,3,9,10,12] (S3 f n cap c a b (IntKind.i64.wrap (i0+1)) (splice (splice l0 (0+i0.toNat * 2) [Value.int IntKind.i64 q8,Value.int IntKind.i64 q6]) (0+(IntKind.i64.wrap (i0 - 1)).toNat * 2) [Value.int IntKind.i64 q13,Value.int IntKind.i64 q12]) (i1) (i2) (fun _=>undef)))))))))))))))))) q2)):RunD η prog B 79 (H0 f n cap c a b) [0,1,2,3,9,10,12] (S3 f n cap c a b i0 l0 i1 i2 fun _=>undef) (QF prog 128 D):=by
 refine RunD.intro (S3 f n cap c a b i0 l0 i1 i2) (fun d=>⟨rfl,rfl,rfl⟩) (fun d=>tmOk_get (by kernel_rfl)) (fun d=>by kernel_rfl) (fun d=>?_)
 exact walk_okT (h0:=H0 f n cap c a b) hη hmix hreg (.steps 7 <| .bit 109 (.steps 6 <| .reg <| .steps 3 <| .op <| .op <| .steps 3 <| .op <| .op <| .call kN <| .steps 2 <| .reg <| .bit 124 (.steps 9 <| .stop [0,1,2,3,9,10] (some ⟨128,[],[(126,(126,true)),(127,(127,false))]⟩)) (.steps 2 <| .reg <| .steps 8 <| .op <| .op <| .steps 2 <| .op <| .op <| .op <| .op <| .op <| .op <| .reg <| .steps 7 <| .stop [0,1,2,3,9,10,12] (some ⟨128,[],[(126,(126,true)),(127,(127,false))]⟩))) (.steps 9 <| .stop [0,1,2,3,9,10] none)) (S3 f n cap c a b i0 l0 i1 i2 d) (by kernel_rfl) h (by kernel_rfl)
end KPartial
end Go.Ev

/- Sorting items: the insertion sort of few steps. -/
namespace Go.Ev
open Go Go.Proofs Go.RowKit
variable {η:Nat→Value} {B:Bd}
namespace HQ
abbrev RPl(η:Nat→Value)(B:Bd)(f n cap:Nat)(d:A2)(a b:Nat)(R:A2 × Bool)(keep:List Nat)(S:(Nat→Value)→AS):Prop:=
 RunD η Try.prog B 79 (KPartial.H0 f n cap (aC d) a b) keep (S fun _=>undef) (QF Try.prog 128 (KT.ret (.bool R.2) (heapS f (aC R.1))).sat)
theorem sw2{d:A2}{i:Nat}(h:i<d.size)(h0:0<i)(p:Int × Int)(x y:Int):splice (aC (d.setIfInBounds i p)) ((i - 1) * 2) [.int .i64 x,.int .i64 y]=aC ((d.setIfInBounds i p).setIfInBounds (i - 1) (x,y)):=aC_put (by simp;omega) x y
set_option maxHeartbeats 4000000 in
theorem partial_ok(hη:OneCells η)(hmix:Try.prog.follows .mixedOrders=true){f n cap:Nat}{d:A2}{a b:Nat}(hf:isOrd f)(hab:a<b)(hb:b≤n)(hn:n≤d.size)(hm:d.size≤1000000) :
  CallSpec η Try.prog B 79 (sArgs n cap [.int .i64 (a:Int),.int .i64 (b:Int)]) (heapS f (aC d)) (KT.ret (.bool (Sort.partialInsertionSort (ltA f) d a b).2) (heapS f (aC (Sort.partialInsertionSort (ltA f) d a b).1))).sat:=by
 generalize hR:Sort.partialInsertionSort (ltA f) d a b=R
 have cut0:=fun i0 l0 i1=>KPartial.cut0 (η:=η) (B:=B) (D:=(KT.ret (.bool R.2) (heapS f (aC R.1))).sat) hη hmix (reg0 hη hmix) f n cap (aC d) a b i0 l0 i1
 have cut1:=fun i0 i1 l0=>KPartial.cut1 (η:=η) (B:=B) (D:=(KT.ret (.bool R.2) (heapS f (aC R.1))).sat) hη hmix (reg0 hη hmix) f n cap (aC d) a b i0 i1 l0
 have cut2:=fun i0 l0 i1 i2=>KPartial.cut2 (η:=η) (B:=B) (D:=(KT.ret (.bool R.2) (heapS f (aC R.1))).sat) hη hmix (reg0 hη hmix) f n cap (aC d) a b i0 l0 i1 i2
 have cut3:=fun i0 l0 i1 i2=>KPartial.cut3 (η:=η) (B:=B) (D:=(KT.ret (.bool R.2) (heapS f (aC R.1))).sat) hη hmix (reg0 hη hmix) f n cap (aC d) a b i0 l0 i1 i2
 have wba:IntKind.i64.wrap ((b:Int) - (a:Int))=((b - a:Nat):Int):=wn _ (by omega) (by omega)
 have all:∀ (s i:Nat) (t:A2),s≤5→a+1≤i→i≤b→t.size=d.size→Sort.partialIns (ltA f) a b s i t=R→RPl η B f n cap d a b R [0,1,2,3,9,10] (KPartial.S0 f n cap (aC d) a b ((5 - s:Nat):Int) (aC t) (i:Int)):=by
  intro s
  induction s with
  | zero=>
   intro i t hs hi hib ht he
   refine cut0 _ _ _ ?_
   have he:(t,false)=R:=he
   subst he
   simp only [W.holds,decide_eq_true_eq,decide_eq_false_iff_not,true_and,and_true,true_implies]
   exact⟨fun q=>by omega,fun q=>⟨rfl,by kernel_rfl⟩⟩
  | succ s ih=>
   intro i t hs hi hib ht he
   have wc:IntKind.i64.wrap (((5 - (s+1):Nat):Int)+1)=((5 - s:Nat):Int):=wn _ (by omega) (by omega)
   unfold Sort.partialIns at he
      -- behind the second shift
   have up:∀ (k i j:Nat) (u:A2),b - j<k→a+1≤i→i≤b→1≤j→j≤b+1→u.size=d.size→Sort.partialIns (ltA f) a b s i (Sort.shiftUp (ltA f) b j u)=R→RPl η B f n cap d a b R [0,1,2,3,9,10,12] (KPartial.S3 f n cap (aC d) a b (j:Int) (aC u) (i:Int) ((5 - (s+1):Nat):Int)):=by
    intro k
    induction k with
    | zero=>intro i j u h;omega
    | succ k ihk=>
     intro i j u hk hi hib hj1 hjb hu he
     unfold Sort.shiftUp at he
     refine cut3 _ _ _ _ ?_
     have wj:IntKind.i64.wrap ((j:Int) - 1)=((j - 1:Nat):Int):=wm j (by omega) (by omega)
     by_cases q:j<b
     ·rw [if_pos q] at he
      have h1:j<u.size:=by omega
      have h0:j - 1<u.size:=by omega
      obtain⟨a1,a2⟩:=aC_int h1
      obtain⟨b1,b2⟩:=aC_int h0
      have p1:=fun x y=>aC_put (d:=u) (k:=j) h1 x y
      have go:ltA f u[j]! u[j - 1]! = true→RPl η B f n cap d a b R [0,1,2,3,9,10,12] (KPartial.S3 f n cap (aC d) a b ((j+1:Nat):Int) (aC (Sort.swp u j (j - 1))) (i:Int) ((5 - (s+1):Nat):Int)):=fun e=>by
       rw [if_neg (by rw [e];simp)] at he
       exact ihk i (j+1) _ (by omega) hi hib (by omega) (by omega) (by rw [Sort.size_swp];exact hu) he
      have st:ltA f u[j]! u[j - 1]! = false→RPl η B f n cap d a b R [0,1,2,3,9,10] (KPartial.S0 f n cap (aC d) a b ((5 - s:Nat):Int) (aC u) (i:Int)):=fun e=>by
       rw [if_pos (by rw [e];rfl)] at he
       exact ih i u (by omega) hi hib hu he
      simp only [W.holds,lt_nat,wc,wj,wp j (by omega),Bool.not_eq_true',Bool.not_eq_false',decide_eq_true_eq,decide_eq_false_iff_not,Int.toNat_natCast,Nat.zero_add,Nat.add_zero,a1,a2,b1,b2,aC_cut h1,aC_cut h0,p1,sw2 h1 hj1,aC_len,aC_nn,Array.size_setIfInBounds,true_and,and_true,true_implies]
      refine⟨fun _=>?_,fun q2=>absurd q q2⟩
      repeat' first
       | exact cmp_at hη hmix hf (l:=aC u) (by kernel_rfl) _ _ _ _
       | exact go (decide_eq_true (by assumption))
       | exact st (decide_eq_false (by assumption))
       | refine⟨by omega,fun _=>?_⟩
       | refine⟨?_,fun _=>?_,fun _=>?_⟩
     ·rw [if_neg q] at he
      have nx:=ih i u (by omega) hi hib hu he
      simp only [W.holds,lt_nat,wc,decide_eq_true_eq,decide_eq_false_iff_not,aC_nn,true_and,and_true,true_implies]
      exact⟨fun q2=>absurd q2 q,fun _=>nx⟩
      -- from the test before the second shift on
   have mid:∀ (i:Nat) (u:A2),a+1≤i→i≤b→u.size=d.size→Sort.partialIns (ltA f) a b s i (if b - i ≥ 2 then Sort.shiftUp (ltA f) b (i+1) u else u)=R→
     ((b - i ≥ 2→RPl η B f n cap d a b R [0,1,2,3,9,10,12] (KPartial.S3 f n cap (aC d) a b ((i+1:Nat):Int) (aC u) (i:Int) ((5 - (s+1):Nat):Int)))∧(¬ b - i ≥ 2→RPl η B f n cap d a b R [0,1,2,3,9,10] (KPartial.S0 f n cap (aC d) a b ((5 - s:Nat):Int) (aC u) (i:Int)))):=by
    intro i u hi hib hu he
    refine⟨fun q=>?_,fun q=>?_⟩
    ·rw [if_pos q] at he
     exact up (b+1) i (i+1) u (by omega) hi hib (by omega) (by omega) hu he
    ·rw [if_neg q] at he
     exact ih i u (by omega) hi hib hu he
   have down:∀ (j i:Nat) (u:A2),a+1≤i→i≤b→j<b→u.size=d.size→Sort.partialIns (ltA f) a b s i (if b - i ≥ 2 then Sort.shiftUp (ltA f) b (i+1) (Sort.shiftDown (ltA f) j u) else(Sort.shiftDown (ltA f) j u))=R→RPl η B f n cap d a b R [0,1,2,3,9,10,11] (KPartial.S2 f n cap (aC d) a b (j:Int) (aC u) (i:Int) ((5 - (s+1):Nat):Int)):=by
    intro j
    induction j with
    | zero=>
     intro i u hi hib hj hu he
     have M:=mid i u hi hib hu he
     have wbi:IntKind.i64.wrap ((b:Int) - (i:Int))=((b - i:Nat):Int):=wn _ (by omega) (by omega)
     refine cut2 _ _ _ _ ?_
     have hge:decide (((b - i:Nat):Int) ≥ 2)=decide (b - i ≥ 2):=ge_nat _ 2
     simp only [W.holds,wc,wbi,hge,wp i (by omega),decide_eq_true_eq,decide_eq_false_iff_not,aC_nn,true_and,and_true,true_implies]
     refine⟨fun q=>by omega,fun _=>?_⟩
     exact M
    | succ j ihj=>
     intro i u hi hib hj hu he
     have wbi:IntKind.i64.wrap ((b:Int) - (i:Int))=((b - i:Nat):Int):=wn _ (by omega) (by omega)
     have hge:decide (((b - i:Nat):Int) ≥ 2)=decide (b - i ≥ 2):=ge_nat _ 2
     have h1:j+1<u.size:=by omega
     have h0:j<u.size:=by omega
     obtain⟨a1,a2⟩:=aC_int h1
     obtain⟨b1,b2⟩:=aC_int h0
     have p1:=fun x y=>aC_put (d:=u) (k:=j+1) h1 x y
     have p2:=fun p x y=>aC_put (d:=u.setIfInBounds (j+1) p) (k:=j) (by simpa using h0) x y
     have go:ltA f u[j+1]! u[j]! = true→RPl η B f n cap d a b R [0,1,2,3,9,10,11] (KPartial.S2 f n cap (aC d) a b (j:Int) (aC (Sort.swp u (j+1) j)) (i:Int) ((5 - (s+1):Nat):Int)):=fun e=>by
      have e2:Sort.shiftDown (ltA f) (j+1) u=Sort.shiftDown (ltA f) j (Sort.swp u (j+1) j):=by
       show(if !ltA f u[j+1]! u[j]! then u else _)=_
       rw [e];rfl
      rw [e2] at he
      exact ihj i _ hi hib (by omega) (by rw [Sort.size_swp];exact hu) he
     have st:ltA f u[j+1]! u[j]! = false→_:=fun e=>by
      have e2:Sort.shiftDown (ltA f) (j+1) u=u:=by
       show(if !ltA f u[j+1]! u[j]! then u else _)=_
       rw [e];rfl
      rw [e2] at he
      exact mid i u hi hib hu he
     refine cut2 _ _ _ _ ?_
     simp only [W.holds,wc,wbi,hge,wp i (by omega),wm (j+1) (by omega) (by omega),Nat.add_sub_cancel,Bool.not_eq_true',Bool.not_eq_false',decide_eq_true_eq,decide_eq_false_iff_not,Int.toNat_natCast,Nat.zero_add,Nat.add_zero,a1,a2,b1,b2,aC_cut h1,aC_cut h0,p1,p2,aC_len,aC_nn,Array.size_setIfInBounds,true_and,and_true,true_implies]
     refine⟨fun _=>?_,fun q=>by omega⟩
     repeat' first
      | exact cmp_at hη hmix hf (l:=aC u) (by kernel_rfl) _ _ _ _
      | exact go (decide_eq_true (by assumption))
      | exact st (decide_eq_false (by assumption))
      | refine⟨by omega,fun _=>?_⟩
      | refine⟨?_,fun _=>?_,fun _=>?_⟩
   have scan:∀ (k i:Nat),b - i<k→a+1≤i→i≤b→(match Sort.scanSorted (ltA f) t b i with
     | i=>if i=b then(t,true) else if b - a<50 then(t,false) else Sort.partialIns (ltA f) a b s i (if b - i ≥ 2 then Sort.shiftUp (ltA f) b (i+1) (if i - a ≥ 2 then Sort.shiftDown (ltA f) (i - 1) (Sort.swp t i (i - 1)) else Sort.swp t i (i - 1)) else(if i - a ≥ 2 then Sort.shiftDown (ltA f) (i - 1) (Sort.swp t i (i - 1)) else Sort.swp t i (i - 1))))=R→
     RPl η B f n cap d a b R [0,1,2,3,9,10] (KPartial.S1 f n cap (aC d) a b (i:Int) ((5 - (s+1):Nat):Int) (aC t)):=by
    intro k
    induction k with
    | zero=>intro i h;omega
    | succ k ihk=>
     intro i hk hi hib he
     have wj:IntKind.i64.wrap ((i:Int) - 1)=((i - 1:Nat):Int):=wm i (by omega) (by omega)
     have wia:IntKind.i64.wrap ((i:Int) - (a:Int))=((i - a:Nat):Int):=wn _ (by omega) (by omega)
     have wbi:IntKind.i64.wrap ((b:Int) - (i:Int))=((b - i:Nat):Int):=wn _ (by omega) (by omega)
     have sc1:i<b→ltA f t[i]! t[i - 1]! = false→Sort.scanSorted (ltA f) t b i=Sort.scanSorted (ltA f) t b (i+1):=fun h e=>by
      rw [Sort.scanSorted,if_pos (by rw [e,decide_eq_true h];rfl)]
     have sc2:ltA f t[i]! t[i - 1]! = true→Sort.scanSorted (ltA f) t b i=i:=fun e=>by
      rw [Sort.scanSorted,if_neg (by rw [e];simp)]
     have sc3:¬ i<b→Sort.scanSorted (ltA f) t b i=i:=fun h=>by
      rw [Sort.scanSorted,if_neg (by simp;omega)]
     refine cut1 _ _ _ ?_
     by_cases q:i<b
     ·have h1:i<t.size:=by omega
      have h0:i - 1<t.size:=by omega
      obtain⟨a1,a2⟩:=aC_int h1
      obtain⟨b1,b2⟩:=aC_int h0
      have p1:=fun x y=>aC_put (d:=t) (k:=i) h1 x y
      have go:ltA f t[i]! t[i - 1]! = false→RPl η B f n cap d a b R [0,1,2,3,9,10] (KPartial.S1 f n cap (aC d) a b ((i+1:Nat):Int) ((5 - (s+1):Nat):Int) (aC t)):=fun e=>by
       rw [sc1 q e] at he
       exact ihk (i+1) (by omega) (by omega) (by omega) he
      have tl:ltA f t[i]! t[i - 1]! = true→(if i=b then(t,true) else if b - a<50 then(t,false) else Sort.partialIns (ltA f) a b s i (if b - i ≥ 2 then Sort.shiftUp (ltA f) b (i+1) (if i - a ≥ 2 then Sort.shiftDown (ltA f) (i - 1) (Sort.swp t i (i - 1)) else Sort.swp t i (i - 1)) else(if i - a ≥ 2 then Sort.shiftDown (ltA f) (i - 1) (Sort.swp t i (i - 1)) else Sort.swp t i (i - 1))))=R:=fun e=>by
       rw [sc2 e] at he
       exact he
      have A:ltA f t[i]! t[i - 1]! = true→b - a<50→(t,false)=R:=fun e h=>by
       have he:=tl e
       rw [if_neg (by omega),if_pos h] at he
       exact he
      have Bq:ltA f t[i]! t[i - 1]! = true→¬ b - a<50→i - a ≥ 2→RPl η B f n cap d a b R [0,1,2,3,9,10,11] (KPartial.S2 f n cap (aC d) a b ((i - 1:Nat):Int) (aC (Sort.swp t i (i - 1))) (i:Int) ((5 - (s+1):Nat):Int)):=fun e h h2=>by
       have he:=tl e
       rw [if_neg (by omega),if_neg h,if_pos h2] at he
       exact down (i - 1) i _ hi hib (by omega) (by rw [Sort.size_swp];exact ht) he
      have C:=fun (e:ltA f t[i]! t[i - 1]! = true) (h:¬ b - a<50) (h2:¬ i - a ≥ 2)=>mid i (Sort.swp t i (i - 1)) hi hib (by rw [Sort.size_swp];exact ht) (by
       have he:=tl e
       rw [if_neg (by omega),if_neg h,if_neg h2] at he
       exact he)
      simp only [W.holds,lt_nat,wc,wj,wba,wia,wbi,wp i (by omega),Bool.not_eq_true',Bool.not_eq_false',beq_iff_eq,beq_eq_false_iff_ne,decide_eq_true_eq,decide_eq_false_iff_not,Int.toNat_natCast,Nat.zero_add,Nat.add_zero,a1,a2,b1,b2,aC_cut h1,aC_cut h0,p1,sw2 h1 (show 0<i by omega),aC_len,aC_nn,Array.size_setIfInBounds,true_and,and_true,true_implies]
      refine⟨fun _=>?_,fun q2=>absurd q q2⟩
      repeat' first
       | exact cmp_at hη hmix hf (l:=aC t) (by kernel_rfl) _ _ _ _
       | exact go (decide_eq_false (by assumption))
       | (exfalso;omega)
       | (rw [← A (decide_eq_true (by assumption)) (by omega)];exact⟨rfl,by kernel_rfl⟩)
       | exact Bq (decide_eq_true (by assumption)) (by omega) (by omega)
       | exact(C (decide_eq_true (by assumption)) (by omega) (by omega)).1 (by omega)
       | exact(C (decide_eq_true (by assumption)) (by omega) (by omega)).2 (by omega)
       | refine⟨by omega,fun _=>?_⟩
       | refine⟨?_,fun _=>?_,fun _=>?_⟩
       | refine⟨fun _=>?_,fun _=>?_⟩
     ·rw [sc3 q] at he
      have e:i=b:=by omega
      have he:(if i=b then(t,true) else _)=R:=he
      rw [if_pos e] at he
      subst he
      simp only [W.holds,lt_nat,aC_nn,beq_iff_eq,beq_eq_false_iff_ne,decide_eq_true_eq,decide_eq_false_iff_not,true_and,and_true,true_implies]
      refine⟨fun q2=>absurd q2 q,fun _=>⟨fun _=>⟨rfl,by kernel_rfl⟩,fun ne=>absurd (by rw [e]) ne⟩⟩
   refine cut0 _ _ _ ?_
   simp only [W.holds,decide_eq_true_eq,decide_eq_false_iff_not,aC_nn,true_and,and_true,true_implies]
   exact⟨fun _=>scan (b+1) i (by omega) hi hib he,fun q=>by omega⟩
 refine KPartial.enter hη hmix (reg0 hη hmix) _ _ _ _ _ _ ?_
 simp only [W.holds,wp a (by omega)]
 exact all 5 (a+1) d (Nat.le_refl _) (Nat.le_refl _) (by omega) rfl hR
end HQ
end Go.Ev

namespace Go.Ev
open Go Go.Proofs
open Go.Ev.T renaming node → nN, nil → nZ
open Go.Proofs.Try (prog)
set_option maxRecDepth 100000
set_option maxHeartbeats 2000000
namespace KPartEq
noncomputable def bd:Code:=(Go.Proofs.Try.f80.body).getD .skip
noncomputable def H0(f:Nat)(n:Nat)(cap:Nat)(c:List Value)(a:Nat)(b:Nat)(p:Nat):AH:={ objs:=eE (eE (eE (eE (eE (eE (eE (lL (AObj.cells 74 [Value.func (Fn.func f) ⟨[]⟩ ⟨[]⟩,Value.chan none,Value.chan none,Value.chan none] true 0)) nZ) nZ) nZ) nZ) nZ) nZ) (eE nZ (eE nZ (eE nZ (eE nZ (eE nZ (lL (AObj.cells 52 c false 2))))))),next:=128 }
noncomputable def E(f:Nat)(n:Nat)(cap:Nat)(c:List Value)(a:Nat)(b:Nat)(p:Nat):AS:=⟨⟨80,90,nS (sS 126 0 n cap) (nS (iI (↑a:Int)) (lL (iI (↑p:Int))) nZ) (nS (iI (↑b:Int)) (lL (Value.func (Fn.func 36) ⟨[pP 127 0]⟩ ⟨[]⟩)) nZ),[Item.code (codeAt bd [])],[],FrameMode.run,CallKind.normal,none⟩,[],H0 f n cap c a b p⟩
noncomputable def S0(f:Nat)(n:Nat)(cap:Nat)(c:List Value)(a:Nat)(b:Nat)(p:Nat)(i0:Int)(i1:Int)(l0:List Value)(d:Nat→Value):AS:=⟨⟨80,90,nS (sS 126 0 n cap) (nS (iI (↑a:Int)) (nS (d 3) (nS (d 7) (nS (d 15) (nS (d 31) (lL (d 63)) nZ) (nS (d 47) (lL (d 79)) nZ)) (nS (d 23) (nS (d 39) (lL (d 71)) nZ) (nS (d 55) (lL (d 87)) nZ))) (nS (iI i0) (nS (d 19) (nS (d 35) (lL (d 67)) nZ) (nS (d 51) (lL (d 83)) nZ)) (nS (d 27) (nS (d 43) (lL (d 75)) nZ) (lL (d 59))))) (nS (d 5) (nS (d 9) (nS (d 17) (nS (d 33) (lL (d 65)) nZ) (nS (d 49) (lL (d 81)) nZ)) (nS (d 25) (nS (d 41) (lL (d 73)) nZ) (nS (d 57) (lL (d 89)) nZ))) (nS (d 13) (nS (d 21) (nS (d 37) (lL (d 69)) nZ) (nS (d 53) (lL (d 85)) nZ)) (nS (d 29) (nS (d 45) (lL (d 77)) nZ) (lL (d 61)))))) (nS (d 2) (nS (Value.func (Fn.func 36) ⟨[pP 127 0]⟩ ⟨[]⟩) (nS (d 8) (nS (d 16) (nS (d 32) (lL (d 64)) nZ) (nS (d 48) (lL (d 80)) nZ)) (nS (d 24) (nS (d 40) (lL (d 72)) nZ) (nS (d 56) (lL (d 88)) nZ))) (nS (iI i1) (nS (d 20) (nS (d 36) (lL (d 68)) nZ) (nS (d 52) (lL (d 84)) nZ)) (nS (d 28) (nS (d 44) (lL (d 76)) nZ) (lL (d 60))))) (nS (d 6) (nS (d 10) (nS (d 18) (nS (d 34) (lL (d 66)) nZ) (nS (d 50) (lL (d 82)) nZ)) (nS (d 26) (nS (d 42) (lL (d 74)) nZ) (lL (d 58)))) (nS (d 14) (nS (d 22) (nS (d 38) (lL (d 70)) nZ) (nS (d 54) (lL (d 86)) nZ)) (nS (d 30) (nS (d 46) (lL (d 78)) nZ) (lL (d 62)))))),[Item.code (codeAt bd [1,1,1,0,0,0]),Item.inLoop (codeAt bd [1,1,1,0,0,0]),Item.inBlock 0,Item.code (codeAt bd [1,1,1,1])],[],FrameMode.run,CallKind.normal,none⟩,[],⟨eE (eE (eE (eE (eE (eE (eE (lL (AObj.cells 74 [Value.func (Fn.func f) ⟨[]⟩ ⟨[]⟩,Value.chan none,Value.chan none,Value.chan none] true 0)) nZ) nZ) nZ) nZ) nZ) nZ) (eE nZ (eE nZ (eE nZ (eE nZ (eE nZ (lL (AObj.cells 52 l0 false 2))))))),128⟩⟩
noncomputable def S1(f:Nat)(n:Nat)(cap:Nat)(c:List Value)(a:Nat)(b:Nat)(p:Nat)(i0:Int)(i1:Int)(l0:List Value)(d:Nat→Value):AS:=⟨⟨80,90,nS (sS 126 0 n cap) (nS (iI (↑a:Int)) (nS (d 3) (nS (d 7) (nS (d 15) (nS (d 31) (lL (d 63)) nZ) (nS (d 47) (lL (d 79)) nZ)) (nS (d 23) (nS (d 39) (lL (d 71)) nZ) (nS (d 55) (lL (d 87)) nZ))) (nS (iI i0) (nS (d 19) (nS (d 35) (lL (d 67)) nZ) (nS (d 51) (lL (d 83)) nZ)) (nS (d 27) (nS (d 43) (lL (d 75)) nZ) (lL (d 59))))) (nS (d 5) (nS (d 9) (nS (d 17) (nS (d 33) (lL (d 65)) nZ) (nS (d 49) (lL (d 81)) nZ)) (nS (d 25) (nS (d 41) (lL (d 73)) nZ) (nS (d 57) (lL (d 89)) nZ))) (nS (d 13) (nS (d 21) (nS (d 37) (lL (d 69)) nZ) (nS (d 53) (lL (d 85)) nZ)) (nS (d 29) (nS (d 45) (lL (d 77)) nZ) (lL (d 61)))))) (nS (d 2) (nS (Value.func (Fn.func 36) ⟨[pP 127 0]⟩ ⟨[]⟩) (nS (d 8) (nS (d 16) (nS (d 32) (lL (d 64)) nZ) (nS (d 48) (lL (d 80)) nZ)) (nS (d 24) (nS (d 40) (lL (d 72)) nZ) (nS (d 56) (lL (d 88)) nZ))) (nS (iI i1) (nS (d 20) (nS (d 36) (lL (d 68)) nZ) (nS (d 52) (lL (d 84)) nZ)) (nS (d 28) (nS (d 44) (lL (d 76)) nZ) (lL (d 60))))) (nS (d 6) (nS (d 10) (nS (d 18) (nS (d 34) (lL (d 66)) nZ) (nS (d 50) (lL (d 82)) nZ)) (nS (d 26) (nS (d 42) (lL (d 74)) nZ) (lL (d 58)))) (nS (d 14) (nS (d 22) (nS (d 38) (lL (d 70)) nZ) (nS (d 54) (lL (d 86)) nZ)) (nS (d 30) (nS (d 46) (lL (d 78)) nZ) (lL (d 62)))))),[Item.code (codeAt bd [1,1,1,0,0,0,0,0,0,0]),Item.inLoop (codeAt bd [1,1,1,0,0,0,0,0,0,0]),Item.inBlock 2,Item.code (codeAt bd [1,1,1,0,0,0,0,1]),Item.inBlock 1,Item.inLoop (codeAt bd [1,1,1,0,0,0]),Item.inBlock 0,Item.code (codeAt bd [1,1,1,1])],[],FrameMode.run,CallKind.normal,none⟩,[],⟨eE (eE (eE (eE (eE (eE (eE (lL (AObj.cells 74 [Value.func (Fn.func f) ⟨[]⟩ ⟨[]⟩,Value.chan none,Value.chan none,Value.chan none] true 0)) nZ) nZ) nZ) nZ) nZ) nZ) (eE nZ (eE nZ (eE nZ (eE nZ (eE nZ (lL (AObj.cells 52 l0 false 2))))))),128⟩⟩
noncomputable def S2(f:Nat)(n:Nat)(cap:Nat)(c:List Value)(a:Nat)(b:Nat)(p:Nat)(i0:Int)(i1:Int)(l0:List Value)(d:Nat→Value):AS:=⟨⟨80,90,nS (sS 126 0 n cap) (nS (iI (↑a:Int)) (nS (d 3) (nS (d 7) (nS (d 15) (nS (d 31) (lL (d 63)) nZ) (nS (d 47) (lL (d 79)) nZ)) (nS (d 23) (nS (d 39) (lL (d 71)) nZ) (nS (d 55) (lL (d 87)) nZ))) (nS (iI i1) (nS (d 19) (nS (d 35) (lL (d 67)) nZ) (nS (d 51) (lL (d 83)) nZ)) (nS (d 27) (nS (d 43) (lL (d 75)) nZ) (lL (d 59))))) (nS (d 5) (nS (d 9) (nS (d 17) (nS (d 33) (lL (d 65)) nZ) (nS (d 49) (lL (d 81)) nZ)) (nS (d 25) (nS (d 41) (lL (d 73)) nZ) (nS (d 57) (lL (d 89)) nZ))) (nS (d 13) (nS (d 21) (nS (d 37) (lL (d 69)) nZ) (nS (d 53) (lL (d 85)) nZ)) (nS (d 29) (nS (d 45) (lL (d 77)) nZ) (lL (d 61)))))) (nS (d 2) (nS (Value.func (Fn.func 36) ⟨[pP 127 0]⟩ ⟨[]⟩) (nS (d 8) (nS (d 16) (nS (d 32) (lL (d 64)) nZ) (nS (d 48) (lL (d 80)) nZ)) (nS (d 24) (nS (d 40) (lL (d 72)) nZ) (nS (d 56) (lL (d 88)) nZ))) (nS (iI i0) (nS (d 20) (nS (d 36) (lL (d 68)) nZ) (nS (d 52) (lL (d 84)) nZ)) (nS (d 28) (nS (d 44) (lL (d 76)) nZ) (lL (d 60))))) (nS (d 6) (nS (d 10) (nS (d 18) (nS (d 34) (lL (d 66)) nZ) (nS (d 50) (lL (d 82)) nZ)) (nS (d 26) (nS (d 42) (lL (d 74)) nZ) (lL (d 58)))) (nS (d 14) (nS (d 22) (nS (d 38) (lL (d 70)) nZ) (nS (d 54) (lL (d 86)) nZ)) (nS (d 30) (nS (d 46) (lL (d 78)) nZ) (lL (d 62)))))),[Item.code (codeAt bd [1,1,1,0,0,0,0,1,0,0,0]),Item.inLoop (codeAt bd [1,1,1,0,0,0,0,1,0,0,0]),Item.inBlock 4,Item.code (codeAt bd [1,1,1,0,0,0,0,1,1]),Item.inBlock 1,Item.inLoop (codeAt bd [1,1,1,0,0,0]),Item.inBlock 0,Item.code (codeAt bd [1,1,1,1])],[],FrameMode.run,CallKind.normal,none⟩,[],⟨eE (eE (eE (eE (eE (eE (eE (lL (AObj.cells 74 [Value.func (Fn.func f) ⟨[]⟩ ⟨[]⟩,Value.chan none,Value.chan none,Value.chan none] true 0)) nZ) nZ) nZ) nZ) nZ) nZ) (eE nZ (eE nZ (eE nZ (eE nZ (eE nZ (lL (AObj.cells 52 l0 false 2))))))),128⟩⟩
theorem enter{η:Nat→Value}{B:Bd}(hη:OneCells η)(hmix:prog.follows .mixedOrders=true)(hreg:RegOk η prog B noNest){D:Value→AH→Prop}(f:Nat)(n:Nat)(cap:Nat)(c:List Value)(a:Nat)(b:Nat)(p:Nat)(h:let q3:=((0:Nat)+(↑p:Int).toNat * (2:Nat));let q2:=(intAt c ((0:Nat)+(↑a:Int).toNat * (2:Nat)));let q1:=(intAt c ((0:Nat)+(↑a:Int).toNat * (2:Nat)+(1:Nat)));let q0:=(splice c ((0:Nat)+(↑a:Int).toNat * (2:Nat)) [Value.int IntKind.i64 (intAt c q3),Value.int IntKind.i64 (intAt c ((0:Nat)+(↑p:Int).toNat * (2:Nat)+(1:Nat)))]);W.holds η prog B 80 (fun kp_ st_=>RunD η prog B 80 (H0 f n cap c a b p) kp_ st_ (QF prog 128 D)) D (.need ((0:Int)≤(↑p:Int)∧(↑p:Int)<(↑n:Int)) (.need ((0:Nat)+(↑p:Int).toNat * (2:Nat)+(2:Nat)≤c.length∧List.take (2:Nat) (List.drop q3 c)=[Value.int IntKind.i64 (intAt c q3),Value.int IntKind.i64 (intAt c ((0:Nat)+(↑p:Int).toNat * (2:Nat)+(1:Nat)))]) (.need ((0:Int)≤(↑a:Int)∧(↑a:Int)<(↑n:Int)) (.need ((0:Nat)+(↑a:Int).toNat * (2:Nat)+(2:Nat)≤c.length∧List.take (2:Nat) (List.drop ((0:Nat)+(↑a:Int).toNat * (2:Nat)) c)=[Value.int IntKind.i64 q2,Value.int IntKind.i64 q1]) (.need ((0:Int)≤(↑a:Int)∧(↑a:Int)<(↑n:Int)) (.need ((0:Nat)+(↑a:Int).toNat * (2:Nat)+(2:Nat)≤c.length) (.need ((0:Int)≤(↑p:Int)∧(↑p:Int)<(↑n:Int)) (.need ((0:Nat)+(↑p:Int).toNat * (2:Nat)+(2:Nat)≤q0.length) (.need (NoNames (splice q0 q3 [Value.int IntKind.i64 q2,Value.int IntKind.i64 q1])∧True∧True) (.stop [0,1,4,11,12] (S0 f n cap c a b p (IntKind.i64.wrap ((↑a:Int)+1)) (IntKind.i64.wrap ((↑b:Int) - 1)) (splice (splice c (0+(↑a:Int).toNat * 2) [Value.int IntKind.i64 (intAt c (0+(↑p:Int).toNat * 2)),Value.int IntKind.i64 (intAt c (0+(↑p:Int).toNat * 2+1))]) (0+(↑p:Int).toNat * 2) [Value.int IntKind.i64 (intAt c (0+(↑a:Int).toNat * 2)),Value.int IntKind.i64 (intAt c (0+(↑a:Int).toNat * 2+1))]) (fun _=>undef))))))))))))):CallSpec η prog B 80 [Value.slice (some ⟨126,0,none⟩) n cap,Value.int IntKind.i64 (↑a:Int),Value.int IntKind.i64 (↑b:Int),Value.int IntKind.i64 (↑p:Int),Value.func (Fn.func 36) ⟨[Value.pointer (some ⟨127,0,none⟩)]⟩ ⟨[]⟩] (H0 f n cap c a b p) D:=by
 refine CallSpec.ofQF hη (CallSpec.enter (fr:=(E f n cap c a b p).fr) (by kernel_rfl) ?_)
 exact walk_okT (h0:=H0 f n cap c a b p) hη hmix hreg (.steps 5 <| .reg <| .steps 6 <| .op <| .op <| .steps 2 <| .op <| .op <| .op <| .op <| .op <| .op <| .reg <| .steps 12 <| .stop [0,1,4,11,12] (some ⟨128,[],[(126,(126,true)),(127,(127,false))]⟩)) (E f n cap c a b p) (by kernel_rfl) h (by kernel_rfl)
theorem cut0{η:Nat→Value}{B:Bd}(hη:OneCells η)(hmix:prog.follows .mixedOrders=true)(hreg:RegOk η prog B noNest){D:Value→AH→Prop}(f:Nat)(n:Nat)(cap:Nat)(c:List Value)(a:Nat)(b:Nat)(p:Nat)(i0:Int)(i1:Int)(l0:List Value)(h:W.holds η prog B 80 (fun kp_ st_=>RunD η prog B 80 (H0 f n cap c a b p) kp_ st_ (QF prog 128 D)) D (.stop [0,1,4,11,12] (S1 f n cap c a b p (i0) (i1) (l0) (fun _=>undef)))):RunD η prog B 80 (H0 f n cap c a b p) [0,1,4,11,12] (S0 f n cap c a b p i0 i1 l0 fun _=>undef) (QF prog 128 D):=by
 refine RunD.intro (S0 f n cap c a b p i0 i1 l0) (fun d=>⟨rfl,rfl,rfl⟩) (fun d=>tmOk_get (by kernel_rfl)) (fun d=>by kernel_rfl) (fun d=>?_)
 exact walk_okT (h0:=H0 f n cap c a b p) hη hmix hreg (.steps 4 <| .stop [0,1,4,11,12] none) (S0 f n cap c a b p i0 i1 l0 d) (by kernel_rfl) h (by kernel_rfl)
theorem cut1{η:Nat→Value}{B:Bd}(hη:OneCells η)(hmix:prog.follows .mixedOrders=true)(hreg:RegOk η prog B noNest){D:Value→AH→Prop}(f:Nat)(n:Nat)(cap:Nat)(c:List Value)(a:Nat)(b:Nat)(p:Nat)(i0:Int)(i1:Int)(l0:List Value)(h:let q6:=(intAt l0 (0+(↑a:Int).toNat * 2+1));let q5:=(intAt l0 ((0:Nat)+i0.toNat * (2:Nat)));let q4:=(intAt l0 ((0:Nat)+(↑a:Int).toNat * (2:Nat)));let q3:=(intAt l0 ((0:Nat)+i0.toNat * (2:Nat)+(1:Nat)));let q2:=(intAt l0 ((0:Nat)+(↑a:Int).toNat * (2:Nat)+(1:Nat)));let q1:W:=(.need (NoNames l0∧True∧True) (.stop [0,1,4,11,12] (S2 f n cap c a b p (i1) (i0) (l0) (fun _=>undef))));let q0:AH:=⟨eE (eE (eE (eE (eE (eE (eE (lL (AObj.cells 74 [Value.func (Fn.func f) ⟨[]⟩ ⟨[]⟩,Value.chan none,Value.chan none,Value.chan none] true 0)) nZ) nZ) nZ) nZ) nZ) nZ) (eE nZ (eE nZ (eE nZ (eE nZ (eE nZ (lL (AObj.cells 52 l0 false 2))))))),145⟩;W.holds η prog B 80 (fun kp_ st_=>RunD η prog B 80 (H0 f n cap c a b p) kp_ st_ (QF prog 128 D)) D (.ite (decide (i0≤i1)) (.need ((0:Int)≤(↑a:Int)∧(↑a:Int)<(↑n:Int)) (.need ((0:Nat)+(↑a:Int).toNat * (2:Nat)+(2:Nat)≤l0.length∧List.take (2:Nat) (List.drop ((0:Nat)+(↑a:Int).toNat * (2:Nat)) l0)=[Value.int IntKind.i64 q4,Value.int IntKind.i64 q2]) (.need ((0:Int)≤i0∧i0<(↑n:Int)) (.need ((0:Nat)+i0.toNat * (2:Nat)+(2:Nat)≤l0.length∧List.take (2:Nat) (List.drop ((0:Nat)+i0.toNat * (2:Nat)) l0)=[Value.int IntKind.i64 q5,Value.int IntKind.i64 q3]) (.call 36 [Value.pointer (some ⟨127,0,none⟩),Value.agg ⟨[Value.int IntKind.i64 (intAt l0 (0+(↑a:Int).toNat * 2)),Value.int IntKind.i64 q6]⟩,Value.agg ⟨[Value.int IntKind.i64 (intAt l0 (0+i0.toNat * 2)),Value.int IntKind.i64 (intAt l0 (0+i0.toNat * 2+1))]⟩] (q0) (.ret (Value.int IntKind.i64 (HQ.cmpA f (intAt l0 (0+(↑a:Int).toNat * 2)) q6 (intAt l0 (0+i0.toNat * 2)) (intAt l0 (0+i0.toNat * 2+1)))) (q0)) (.ite (!decide (HQ.cmpA f q4 q2 q5 q3<(0:Int))) (.need (NoNames l0∧True∧True) (.stop [0,1,4,11,12] (S1 f n cap c a b p (IntKind.i64.wrap (i0+1)) (i1) (l0) (fun _=>undef)))) q1)))))) q1)):RunD η prog B 80 (H0 f n cap c a b p) [0,1,4,11,12] (S1 f n cap c a b p i0 i1 l0 fun _=>undef) (QF prog 128 D):=by
 refine RunD.intro (S1 f n cap c a b p i0 i1 l0) (fun d=>⟨rfl,rfl,rfl⟩) (fun d=>tmOk_get (by kernel_rfl)) (fun d=>by kernel_rfl) (fun d=>?_)
 exact walk_okT (h0:=H0 f n cap c a b p) hη hmix hreg (.steps 2 <| .reg <| .steps 4 <| .bit 34 (.steps 3 <| .op <| .op <| .steps 2 <| .op <| .op <| .call kN <| .steps 3 <| .reg <| .bit 47 (.steps 10 <| .stop [0,1,4,11,12] (some ⟨128,[],[(126,(126,true)),(127,(127,false))]⟩)) (.steps 5 <| .stop [0,1,4,11,12] (some ⟨128,[],[(126,(126,true)),(127,(127,false))]⟩))) (.steps 13 <| .reg <| .steps 5 <| .stop [0,1,4,11,12] (some ⟨128,[],[(126,(126,true)),(127,(127,false))]⟩))) (S1 f n cap c a b p i0 i1 l0 d) (by kernel_rfl) h (by kernel_rfl)
theorem cut2{η:Nat→Value}{B:Bd}(hη:OneCells η)(hmix:prog.follows .mixedOrders=true)(hreg:RegOk η prog B noNest){D:Value→AH→Prop}(f:Nat)(n:Nat)(cap:Nat)(c:List Value)(a:Nat)(b:Nat)(p:Nat)(i0:Int)(i1:Int)(l0:List Value)(h:let q7:=(intAt l0 (0+(↑a:Int).toNat * 2+1));let q6:=(intAt l0 ((0:Nat)+i0.toNat * (2:Nat)));let q5:=(intAt l0 ((0:Nat)+(↑a:Int).toNat * (2:Nat)));let q4:=(intAt l0 ((0:Nat)+i0.toNat * (2:Nat)+(1:Nat)));let q3:=(intAt l0 ((0:Nat)+(↑a:Int).toNat * (2:Nat)+(1:Nat)));let q2:AH:=⟨eE (eE (eE (eE (eE (eE (eE (lL (AObj.cells 74 [Value.func (Fn.func f) ⟨[]⟩ ⟨[]⟩,Value.chan none,Value.chan none,Value.chan none] true 0)) nZ) nZ) nZ) nZ) nZ) nZ) (eE nZ (eE nZ (eE nZ (eE nZ (eE nZ (lL (AObj.cells 52 l0 false 2))))))),144⟩;let q1:W:=(.need (NoNames l0∧True∧True) (.done 80 (Value.int IntKind.i64 i1) (⟨eE (eE (eE (eE (eE (eE (eE (lL (AObj.cells 74 [Value.func (Fn.func f) ⟨[]⟩ ⟨[]⟩,Value.chan none,Value.chan none,Value.chan none] true 0)) nZ) nZ) nZ) nZ) nZ) nZ) (eE nZ (eE nZ (eE nZ (eE nZ (eE nZ (lL (AObj.cells 52 l0 false 2))))))),128⟩)));let q0:W:=(.need ((0:Int)≤i0∧i0<(↑n:Int)) (.need ((0:Nat)+i0.toNat * (2:Nat)+(2:Nat)≤l0.length∧List.take (2:Nat) (List.drop ((0:Nat)+i0.toNat * (2:Nat)) l0)=[Value.int IntKind.i64 q6,Value.int IntKind.i64 q4]) (.need ((0:Int)≤i1∧i1<(↑n:Int)) (.need ((0:Nat)+i1.toNat * (2:Nat)+(2:Nat)≤l0.length∧List.take (2:Nat) (List.drop ((0:Nat)+i1.toNat * (2:Nat)) l0)=[Value.int IntKind.i64 (intAt l0 ((0:Nat)+i1.toNat * (2:Nat))),Value.int IntKind.i64 (intAt l0 ((0:Nat)+i1.toNat * (2:Nat)+(1:Nat)))]) (.need ((0:Int)≤i1∧i1<(↑n:Int)) (.need ((0:Nat)+i1.toNat * (2:Nat)+(2:Nat)≤l0.length) (.need ((0:Int)≤i0∧i0<(↑n:Int)) (.need ((0:Nat)+i0.toNat * (2:Nat)+(2:Nat)≤(splice l0 ((0:Nat)+i1.toNat * (2:Nat)) [Value.int IntKind.i64 q6,Value.int IntKind.i64 q4]).length) (.need (NoNames (splice (splice l0 ((0:Nat)+i1.toNat * (2:Nat)) [Value.int IntKind.i64 q6,Value.int IntKind.i64 q4]) ((0:Nat)+i0.toNat * (2:Nat)) [Value.int IntKind.i64 (intAt l0 ((0:Nat)+i1.toNat * (2:Nat))),Value.int IntKind.i64 (intAt l0 ((0:Nat)+i1.toNat * (2:Nat)+(1:Nat)))])∧True∧True) (.stop [0,1,4,11,12] (S0 f n cap c a b p (IntKind.i64.wrap (i1+1)) (IntKind.i64.wrap (i0 - 1)) (splice (splice l0 (0+i1.toNat * 2) [Value.int IntKind.i64 (intAt l0 (0+i0.toNat * 2)),Value.int IntKind.i64 (intAt l0 (0+i0.toNat * 2+1))]) (0+i0.toNat * 2) [Value.int IntKind.i64 (intAt l0 (0+i1.toNat * 2)),Value.int IntKind.i64 (intAt l0 (0+i1.toNat * 2+1))]) (fun _=>undef))))))))))));W.holds η prog B 80 (fun kp_ st_=>RunD η prog B 80 (H0 f n cap c a b p) kp_ st_ (QF prog 128 D)) D (.ite (decide (i1≤i0)) (.need ((0:Int)≤(↑a:Int)∧(↑a:Int)<(↑n:Int)) (.need ((0:Nat)+(↑a:Int).toNat * (2:Nat)+(2:Nat)≤l0.length∧List.take (2:Nat) (List.drop ((0:Nat)+(↑a:Int).toNat * (2:Nat)) l0)=[Value.int IntKind.i64 q5,Value.int IntKind.i64 q3]) (.need ((0:Int)≤i0∧i0<(↑n:Int)) (.need ((0:Nat)+i0.toNat * (2:Nat)+(2:Nat)≤l0.length∧List.take (2:Nat) (List.drop ((0:Nat)+i0.toNat * (2:Nat)) l0)=[Value.int IntKind.i64 q6,Value.int IntKind.i64 q4]) (.call 36 [Value.pointer (some ⟨127,0,none⟩),Value.agg ⟨[Value.int IntKind.i64 (intAt l0 (0+(↑a:Int).toNat * 2)),Value.int IntKind.i64 q7]⟩,Value.agg ⟨[Value.int IntKind.i64 (intAt l0 (0+i0.toNat * 2)),Value.int IntKind.i64 (intAt l0 (0+i0.toNat * 2+1))]⟩] (q2) (.ret (Value.int IntKind.i64 (HQ.cmpA f (intAt l0 (0+(↑a:Int).toNat * 2)) q7 (intAt l0 (0+i0.toNat * 2)) (intAt l0 (0+i0.toNat * 2+1)))) (q2)) (.ite (decide (HQ.cmpA f q5 q3 q6 q4<(0:Int))) (.need (NoNames l0∧True∧True) (.stop [0,1,4,11,12] (S2 f n cap c a b p (IntKind.i64.wrap (i0 - 1)) (i1) (l0) (fun _=>undef)))) (.ite (decide (i1 > i0)) q1 q0))))))) (.ite (decide (i1 > i0)) q1 q0))):RunD η prog B 80 (H0 f n cap c a b p) [0,1,4,11,12] (S2 f n cap c a b p i0 i1 l0 fun _=>undef) (QF prog 128 D):=by
 refine RunD.intro (S2 f n cap c a b p i0 i1 l0) (fun d=>⟨rfl,rfl,rfl⟩) (fun d=>tmOk_get (by kernel_rfl)) (fun d=>by kernel_rfl) (fun d=>?_)
 exact walk_okT (h0:=H0 f n cap c a b p) hη hmix hreg (.steps 2 <| .reg <| .steps 4 <| .bit 53 (.steps 3 <| .op <| .op <| .steps 2 <| .op <| .op <| .call kN <| .steps 2 <| .reg <| .bit 65 (.steps 10 <| .stop [0,1,4,11,12] (some ⟨128,[],[(126,(126,true)),(127,(127,false))]⟩)) (.steps 9 <| .bit 70 (.steps 8 <| .done (some ⟨128,[],[(126,(126,true)),(127,(127,false))]⟩)) (.steps 3 <| .reg <| .steps 6 <| .op <| .op <| .steps 2 <| .op <| .op <| .op <| .op <| .op <| .op <| .reg <| .steps 13 <| .stop [0,1,4,11,12] (some ⟨128,[],[(126,(126,true)),(127,(127,false))]⟩)))) (.steps 12 <| .reg <| .steps 9 <| .bit 70 (.steps 8 <| .done (some ⟨128,[],[(126,(126,true)),(127,(127,false))]⟩)) (.steps 3 <| .reg <| .steps 6 <| .op <| .op <| .steps 2 <| .op <| .op <| .op <| .op <| .op <| .op <| .reg <| .steps 13 <| .stop [0,1,4,11,12] (some ⟨128,[],[(126,(126,true)),(127,(127,false))]⟩)))) (S2 f n cap c a b p i0 i1 l0 d) (by kernel_rfl) h (by kernel_rfl)
end KPartEq
end Go.Ev

/- Sorting items: what is alike goes to one side. -/
namespace Go.Ev
open Go Go.Proofs Go.RowKit
variable {η:Nat→Value} {B:Bd}
namespace HQ
abbrev RPe(η:Nat→Value)(B:Bd)(f n cap:Nat)(d:A2)(a b p:Nat)(R:Nat × A2)(keep:List Nat)(S:(Nat→Value)→AS):Prop:=
 RunD η Try.prog B 80 (KPartEq.H0 f n cap (aC d) a b p) keep (S fun _=>undef) (QF Try.prog 128 (KT.ret (iv R.1) (heapS f (aC R.2))).sat)
theorem le_nat(a b:Nat):decide ((a:Int)≤(b:Int))=decide (a≤b):=decide_eq_decide.2 (by omega)
set_option maxHeartbeats 4000000 in
theorem parteq_ok(hη:OneCells η)(hmix:Try.prog.follows .mixedOrders=true){f n cap:Nat}{d:A2}{a b p:Nat}(hf:isOrd f)(hp:a≤p)(hpb:p<b)(hb:b≤n)(hn:n≤d.size)(hm:d.size≤1000000) :
  CallSpec η Try.prog B 80 (sArgs n cap [.int .i64 (a:Int),.int .i64 (b:Int),.int .i64 (p:Int)]) (heapS f (aC d)) (KT.ret (iv (Sort.partitionEqual (ltA f) d a b p).1) (heapS f (aC (Sort.partitionEqual (ltA f) d a b p).2))).sat:=by
 generalize hR:Sort.partitionEqual (ltA f) d a b p=R
 have cut0:=fun i0 i1 l0=>KPartEq.cut0 (η:=η) (B:=B) (D:=(KT.ret (iv R.1) (heapS f (aC R.2))).sat) hη hmix (reg0 hη hmix) f n cap (aC d) a b p i0 i1 l0
 have cut1:=fun i0 i1 l0=>KPartEq.cut1 (η:=η) (B:=B) (D:=(KT.ret (iv R.1) (heapS f (aC R.2))).sat) hη hmix (reg0 hη hmix) f n cap (aC d) a b p i0 i1 l0
 have cut2:=fun i0 i1 l0=>KPartEq.cut2 (η:=η) (B:=B) (D:=(KT.ret (iv R.1) (heapS f (aC R.2))).sat) hη hmix (reg0 hη hmix) f n cap (aC d) a b p i0 i1 l0
 have loop:∀ (k i j:Nat) (t:A2),j+1 - i<k→a<i→i≤j+2→j<b→t.size=d.size→Sort.partEqLoop (ltA f) a i j t=R→RPe η B f n cap d a b p R [0,1,4,11,12] (KPartEq.S0 f n cap (aC d) a b p (i:Int) (j:Int) (aC t)):=by
  intro k
  induction k with
  | zero=>intro i j t h;omega
  | succ k ihk=>
   intro i j t hk hai hij hjb ht he
   unfold Sort.partEqLoop at he
   have hA:a<t.size:=by omega
   obtain⟨c1,c2⟩:=aC_int hA
   let tail:Nat→Nat→Nat × A2:=fun i2 j2=>if i2 > j2 then(i2,t) else if h:(j2 - 1)+1 - (i2+1)<j+1 - i then Sort.partEqLoop (ltA f) a (i2+1) (j2 - 1) (Sort.swp t i2 j2) else(i2,t)
   have he:tail (Sort.scanUp (fun x=>!ltA f t[a]! x) t j i) (Sort.scanDown (fun x=>ltA f t[a]! x) t (Sort.scanUp (fun x=>!ltA f t[a]! x) t j i) j)=R:=he
   have stop:∀ {i2 j2:Nat},i2 > j2→tail i2 j2=R→R=(i2,t):=fun h e=>by rw [← e];exact if_pos h
   have next:∀ {i2 j2:Nat},i≤i2→j2≤j→¬ i2 > j2→tail i2 j2=R→RPe η B f n cap d a b p R [0,1,4,11,12] (KPartEq.S0 f n cap (aC d) a b p ((i2+1:Nat):Int) ((j2 - 1:Nat):Int) (aC (Sort.swp t i2 j2))):=fun {i2 j2} h1 h2 h3 e=>by
    have e:(if i2 > j2 then(i2,t) else if h:(j2 - 1)+1 - (i2+1)<j+1 - i then Sort.partEqLoop (ltA f) a (i2+1) (j2 - 1) (Sort.swp t i2 j2) else(i2,t))=R:=e
    rw [if_neg h3,dif_pos (by omega)] at e
    exact ihk (i2+1) (j2 - 1) _ (by omega) (by omega) (by omega) (by omega) (by rw [Sort.size_swp];exact ht) e
   have dn:∀ (j' i2:Nat),i≤i2→i2≤j+2→i2≤j'+2→j'≤j→tail i2 (Sort.scanDown (fun x=>ltA f t[a]! x) t i2 j')=R→RPe η B f n cap d a b p R [0,1,4,11,12] (KPartEq.S2 f n cap (aC d) a b p (j':Int) (i2:Int) (aC t)):=by
    intro j'
    induction j' with
    | zero=>
     intro i2 h1 h2 h3 h4 e
     have e:=stop (show i2 > 0 by omega) e
     subst e
     refine cut2 _ _ _ ?_
     simp only [W.holds,le_nat,gt_nat,decide_eq_true_eq,decide_eq_false_iff_not,aC_nn,true_and,and_true,true_implies]
     exact⟨fun q=>by omega,fun _=>⟨fun _=>⟨rfl,by kernel_rfl⟩,fun q=>by omega⟩⟩
    | succ j' ihj=>
     intro i2 h1 h2 h3 h4 e
     refine cut2 _ _ _ ?_
     by_cases q:i2≤j'+1
     ·have hJ:j'+1<t.size:=by omega
      have hI:i2<t.size:=by omega
      obtain⟨a1,a2⟩:=aC_int hJ
      obtain⟨b1,b2⟩:=aC_int hI
      have p1:=fun x y=>aC_put (d:=t) (k:=i2) hI x y
      have p2:=fun p x y=>aC_put (d:=t.setIfInBounds i2 p) (k:=j'+1) (by simpa using hJ) x y
      have go:ltA f t[a]! t[j'+1]! = true→RPe η B f n cap d a b p R [0,1,4,11,12] (KPartEq.S2 f n cap (aC d) a b p (j':Int) (i2:Int) (aC t)):=fun e1=>by
       have e2:Sort.scanDown (fun x=>ltA f t[a]! x) t i2 (j'+1)=Sort.scanDown (fun x=>ltA f t[a]! x) t i2 j':=if_pos (by dsimp only;rw [e1,decide_eq_true q];rfl)
       rw [e2] at e
       exact ihj i2 h1 h2 (by omega) (by omega) e
      have st:ltA f t[a]! t[j'+1]! = false→tail i2 (j'+1)=R:=fun e1=>by
       have e2:Sort.scanDown (fun x=>ltA f t[a]! x) t i2 (j'+1)=j'+1:=if_neg (by dsimp only;rw [e1];simp)
       rw [e2] at e
       exact e
      simp only [W.holds,le_nat,gt_nat,wm (j'+1) (by omega) (by omega),Nat.add_sub_cancel,wp i2 (by omega),decide_eq_true_eq,decide_eq_false_iff_not,Int.toNat_natCast,Nat.zero_add,Nat.add_zero,a1,a2,b1,b2,c1,c2,aC_cut hJ,aC_cut hI,aC_cut hA,p1,p2,aC_len,aC_nn,Array.size_setIfInBounds,true_and,and_true,true_implies]
      refine⟨fun _=>?_,fun q2=>absurd q q2⟩
      repeat' first
       | exact cmp_at hη hmix hf (l:=aC t) (by kernel_rfl) _ _ _ _
       | exact go (decide_eq_true (by assumption))
       | (exfalso;omega)
       | exact next (j2:=j'+1) h1 h4 (by assumption) (st (decide_eq_false (by assumption)))
       | refine⟨by omega,fun _=>?_⟩
       | refine⟨?_,fun _=>?_,fun _=>?_⟩
       | refine⟨fun _=>?_,fun _=>?_⟩
     ·have e2:Sort.scanDown (fun x=>ltA f t[a]! x) t i2 (j'+1)=j'+1:=if_neg (by simp;omega)
      rw [e2] at e
      have e:=stop (show i2 > j'+1 by omega) e
      subst e
      simp only [W.holds,le_nat,gt_nat,decide_eq_true_eq,decide_eq_false_iff_not,aC_nn,true_and,and_true,true_implies]
      refine⟨fun q2=>absurd q2 q,fun _=>⟨fun _=>⟨rfl,by kernel_rfl⟩,fun q=>by omega⟩⟩
   have up:∀ (k i':Nat),j+1 - i'<k→i≤i'→i'≤j+2→tail (Sort.scanUp (fun x=>!ltA f t[a]! x) t j i') (Sort.scanDown (fun x=>ltA f t[a]! x) t (Sort.scanUp (fun x=>!ltA f t[a]! x) t j i') j)=R→RPe η B f n cap d a b p R [0,1,4,11,12] (KPartEq.S1 f n cap (aC d) a b p (i':Int) (j:Int) (aC t)):=by
    intro k
    induction k with
    | zero=>intro i' h;omega
    | succ k ihk=>
     intro i' hk h1 h2 e
     have su1:i'≤j→ltA f t[a]! t[i']! = false→Sort.scanUp (fun x=>!ltA f t[a]! x) t j i'=Sort.scanUp (fun x=>!ltA f t[a]! x) t j (i'+1):=fun h e1=>by
      rw [Sort.scanUp,if_pos (by rw [e1,decide_eq_true h];rfl)]
     have su2:ltA f t[a]! t[i']! = true→Sort.scanUp (fun x=>!ltA f t[a]! x) t j i'=i':=fun e1=>by
      rw [Sort.scanUp,if_neg (by rw [e1];simp)]
     have su3:¬ i'≤j→Sort.scanUp (fun x=>!ltA f t[a]! x) t j i'=i':=fun h=>by
      rw [Sort.scanUp,if_neg (by simp;omega)]
     refine cut1 _ _ _ ?_
     by_cases q:i'≤j
     ·have hI:i'<t.size:=by omega
      obtain⟨b1,b2⟩:=aC_int hI
      have go:ltA f t[a]! t[i']! = false→RPe η B f n cap d a b p R [0,1,4,11,12] (KPartEq.S1 f n cap (aC d) a b p ((i'+1:Nat):Int) (j:Int) (aC t)):=fun e1=>by
       rw [su1 q e1] at e
       exact ihk (i'+1) (by omega) (by omega) (by omega) e
      have st:ltA f t[a]! t[i']! = true→RPe η B f n cap d a b p R [0,1,4,11,12] (KPartEq.S2 f n cap (aC d) a b p (j:Int) (i':Int) (aC t)):=fun e1=>by
       rw [su2 e1] at e
       exact dn j i' h1 h2 h2 (Nat.le_refl _) e
      simp only [W.holds,le_nat,wp i' (by omega),Bool.not_eq_true',Bool.not_eq_false',decide_eq_true_eq,decide_eq_false_iff_not,Int.toNat_natCast,Nat.zero_add,Nat.add_zero,b1,b2,c1,c2,aC_cut hI,aC_cut hA,aC_len,aC_nn,true_and,and_true,true_implies]
      refine⟨fun _=>?_,fun q2=>absurd q q2⟩
      repeat' first
       | exact cmp_at hη hmix hf (l:=aC t) (by kernel_rfl) _ _ _ _
       | exact go (decide_eq_false (by assumption))
       | exact st (decide_eq_true (by assumption))
       | refine⟨by omega,fun _=>?_⟩
       | refine⟨?_,fun _=>?_,fun _=>?_⟩
     ·rw [su3 q] at e
      have nx:=dn j i' h1 h2 h2 (Nat.le_refl _) e
      simp only [W.holds,le_nat,decide_eq_true_eq,decide_eq_false_iff_not,aC_nn,true_and,and_true,true_implies]
      exact⟨fun q2=>absurd q2 q,fun _=>nx⟩
   refine cut0 _ _ _ ?_
   simp only [W.holds,aC_nn,true_and,and_true,true_implies]
   exact up (j+2) i (by omega) (Nat.le_refl _) hij he
 have hA:a<d.size:=by omega
 have hP:p<d.size:=by omega
 obtain⟨a1,a2⟩:=aC_int hA
 obtain⟨b1,b2⟩:=aC_int hP
 have p1:=fun x y=>aC_put (d:=d) (k:=a) hA x y
 have p2:=fun q x y=>aC_put (d:=d.setIfInBounds a q) (k:=p) (by simpa using hP) x y
 have nx:=loop (b+2) (a+1) (b - 1) (Sort.swp d a p) (by omega) (by omega) (by omega) (by omega) (by rw [Sort.size_swp]) hR
 refine KPartEq.enter hη hmix (reg0 hη hmix) _ _ _ _ _ _ _ ?_
 simp only [W.holds,wp a (by omega),wm b (by omega) (by omega),Int.toNat_natCast,Nat.zero_add,Nat.add_zero,a1,a2,b1,b2,aC_cut hA,aC_cut hP,p1,p2,aC_len,aC_nn,Array.size_setIfInBounds,true_and,and_true,true_implies]
 repeat' first
  | exact nx
  | refine⟨by omega,fun _=>?_⟩
end HQ
end Go.Ev

namespace Go.Ev
open Go Go.Proofs
open Go.Ev.T renaming node → nN, nil → nZ
open Go.Proofs.Try (prog)
set_option maxRecDepth 100000
set_option maxHeartbeats 2000000
namespace KPart
noncomputable def bd:Code:=(Go.Proofs.Try.f81.body).getD .skip
noncomputable def H0(f:Nat)(n:Nat)(cap:Nat)(c:List Value)(a:Nat)(b:Nat)(p:Nat):AH:={ objs:=eE (eE (eE (eE (eE (eE (eE (lL (AObj.cells 74 [Value.func (Fn.func f) ⟨[]⟩ ⟨[]⟩,Value.chan none,Value.chan none,Value.chan none] true 0)) nZ) nZ) nZ) nZ) nZ) nZ) (eE nZ (eE nZ (eE nZ (eE nZ (eE nZ (lL (AObj.cells 52 c false 2))))))),next:=128 }
noncomputable def E(f:Nat)(n:Nat)(cap:Nat)(c:List Value)(a:Nat)(b:Nat)(p:Nat):AS:=⟨⟨81,178,nS (sS 126 0 n cap) (nS (iI (↑a:Int)) (lL (iI (↑p:Int))) nZ) (nS (iI (↑b:Int)) (lL (Value.func (Fn.func 36) ⟨[pP 127 0]⟩ ⟨[]⟩)) nZ),[Item.code (codeAt bd [])],[],FrameMode.run,CallKind.normal,none⟩,[],H0 f n cap c a b p⟩
noncomputable def S0(f:Nat)(n:Nat)(cap:Nat)(c:List Value)(a:Nat)(b:Nat)(p:Nat)(i0:Int)(d:Nat→Value):AS:=⟨⟨81,178,nS (sS 126 0 n cap) (nS (iI (↑a:Int)) (nS (d 3) (nS (d 7) (nS (d 15) (nS (d 31) (nS (d 63) (lL (d 127)) nZ) (nS (d 95) (lL (d 159)) nZ)) (nS (d 47) (nS (d 79) (lL (d 143)) nZ) (nS (d 111) (lL (d 175)) nZ))) (nS (d 23) (nS (d 39) (nS (d 71) (lL (d 135)) nZ) (nS (d 103) (lL (d 167)) nZ)) (nS (d 55) (nS (d 87) (lL (d 151)) nZ) (lL (d 119))))) (nS (d 11) (nS (d 19) (nS (d 35) (nS (d 67) (lL (d 131)) nZ) (nS (d 99) (lL (d 163)) nZ)) (nS (d 51) (nS (d 83) (lL (d 147)) nZ) (lL (d 115)))) (nS (d 27) (nS (d 43) (nS (d 75) (lL (d 139)) nZ) (nS (d 107) (lL (d 171)) nZ)) (nS (d 59) (nS (d 91) (lL (d 155)) nZ) (lL (d 123)))))) (nS (d 5) (nS (d 9) (nS (d 17) (nS (d 33) (nS (d 65) (lL (d 129)) nZ) (nS (d 97) (lL (d 161)) nZ)) (nS (d 49) (nS (d 81) (lL (d 145)) nZ) (nS (d 113) (lL (d 177)) nZ))) (nS (d 25) (nS (d 41) (nS (d 73) (lL (d 137)) nZ) (nS (d 105) (lL (d 169)) nZ)) (nS (d 57) (nS (d 89) (lL (d 153)) nZ) (lL (d 121))))) (nS (iI (IntKind.i64.wrap ((↑b:Int) - 1))) (nS (d 21) (nS (d 37) (nS (d 69) (lL (d 133)) nZ) (nS (d 101) (lL (d 165)) nZ)) (nS (d 53) (nS (d 85) (lL (d 149)) nZ) (lL (d 117)))) (nS (d 29) (nS (d 45) (nS (d 77) (lL (d 141)) nZ) (nS (d 109) (lL (d 173)) nZ)) (nS (d 61) (nS (d 93) (lL (d 157)) nZ) (lL (d 125))))))) (nS (d 2) (nS (Value.func (Fn.func 36) ⟨[pP 127 0]⟩ ⟨[]⟩) (nS (d 8) (nS (d 16) (nS (d 32) (nS (d 64) (lL (d 128)) nZ) (nS (d 96) (lL (d 160)) nZ)) (nS (d 48) (nS (d 80) (lL (d 144)) nZ) (nS (d 112) (lL (d 176)) nZ))) (nS (d 24) (nS (d 40) (nS (d 72) (lL (d 136)) nZ) (nS (d 104) (lL (d 168)) nZ)) (nS (d 56) (nS (d 88) (lL (d 152)) nZ) (lL (d 120))))) (nS (iI i0) (nS (d 20) (nS (d 36) (nS (d 68) (lL (d 132)) nZ) (nS (d 100) (lL (d 164)) nZ)) (nS (d 52) (nS (d 84) (lL (d 148)) nZ) (lL (d 116)))) (nS (d 28) (nS (d 44) (nS (d 76) (lL (d 140)) nZ) (nS (d 108) (lL (d 172)) nZ)) (nS (d 60) (nS (d 92) (lL (d 156)) nZ) (lL (d 124)))))) (nS (d 6) (nS (d 10) (nS (d 18) (nS (d 34) (nS (d 66) (lL (d 130)) nZ) (nS (d 98) (lL (d 162)) nZ)) (nS (d 50) (nS (d 82) (lL (d 146)) nZ) (lL (d 114)))) (nS (d 26) (nS (d 42) (nS (d 74) (lL (d 138)) nZ) (nS (d 106) (lL (d 170)) nZ)) (nS (d 58) (nS (d 90) (lL (d 154)) nZ) (lL (d 122))))) (nS (d 14) (nS (d 22) (nS (d 38) (nS (d 70) (lL (d 134)) nZ) (nS (d 102) (lL (d 166)) nZ)) (nS (d 54) (nS (d 86) (lL (d 150)) nZ) (lL (d 118)))) (nS (d 30) (nS (d 46) (nS (d 78) (lL (d 142)) nZ) (nS (d 110) (lL (d 174)) nZ)) (nS (d 62) (nS (d 94) (lL (d 158)) nZ) (lL (d 126))))))),[Item.code (codeAt bd [1,1,1,0,0,0]),Item.inLoop (codeAt bd [1,1,1,0,0,0]),Item.inBlock 0,Item.code (codeAt bd [1,1,1,1])],[],FrameMode.run,CallKind.normal,none⟩,[],⟨eE (eE (eE (eE (eE (eE (eE (lL (AObj.cells 74 [Value.func (Fn.func f) ⟨[]⟩ ⟨[]⟩,Value.chan none,Value.chan none,Value.chan none] true 0)) nZ) nZ) nZ) nZ) nZ) nZ) (eE nZ (eE nZ (eE nZ (eE nZ (eE nZ (lL (AObj.cells 52 (splice (splice c (0+(↑a:Int).toNat * 2) [iI (intAt c (0+(↑p:Int).toNat * 2)),iI (intAt c (0+(↑p:Int).toNat * 2+1))]) (0+(↑p:Int).toNat * 2) [iI (intAt c (0+(↑a:Int).toNat * 2)),iI (intAt c (0+(↑a:Int).toNat * 2+1))]) false 2))))))),128⟩⟩
noncomputable def S1(f:Nat)(n:Nat)(cap:Nat)(c:List Value)(a:Nat)(b:Nat)(p:Nat)(i0:Int)(i1:Int)(d:Nat→Value):AS:=⟨⟨81,178,nS (sS 126 0 n cap) (nS (iI (↑a:Int)) (nS (d 3) (nS (d 7) (nS (d 15) (nS (d 31) (nS (d 63) (lL (d 127)) nZ) (nS (d 95) (lL (d 159)) nZ)) (nS (d 47) (nS (d 79) (lL (d 143)) nZ) (nS (d 111) (lL (d 175)) nZ))) (nS (d 23) (nS (d 39) (nS (d 71) (lL (d 135)) nZ) (nS (d 103) (lL (d 167)) nZ)) (nS (d 55) (nS (d 87) (lL (d 151)) nZ) (lL (d 119))))) (nS (d 11) (nS (d 19) (nS (d 35) (nS (d 67) (lL (d 131)) nZ) (nS (d 99) (lL (d 163)) nZ)) (nS (d 51) (nS (d 83) (lL (d 147)) nZ) (lL (d 115)))) (nS (d 27) (nS (d 43) (nS (d 75) (lL (d 139)) nZ) (nS (d 107) (lL (d 171)) nZ)) (nS (d 59) (nS (d 91) (lL (d 155)) nZ) (lL (d 123)))))) (nS (d 5) (nS (d 9) (nS (d 17) (nS (d 33) (nS (d 65) (lL (d 129)) nZ) (nS (d 97) (lL (d 161)) nZ)) (nS (d 49) (nS (d 81) (lL (d 145)) nZ) (nS (d 113) (lL (d 177)) nZ))) (nS (d 25) (nS (d 41) (nS (d 73) (lL (d 137)) nZ) (nS (d 105) (lL (d 169)) nZ)) (nS (d 57) (nS (d 89) (lL (d 153)) nZ) (lL (d 121))))) (nS (iI i0) (nS (d 21) (nS (d 37) (nS (d 69) (lL (d 133)) nZ) (nS (d 101) (lL (d 165)) nZ)) (nS (d 53) (nS (d 85) (lL (d 149)) nZ) (lL (d 117)))) (nS (d 29) (nS (d 45) (nS (d 77) (lL (d 141)) nZ) (nS (d 109) (lL (d 173)) nZ)) (nS (d 61) (nS (d 93) (lL (d 157)) nZ) (lL (d 125))))))) (nS (d 2) (nS (Value.func (Fn.func 36) ⟨[pP 127 0]⟩ ⟨[]⟩) (nS (d 8) (nS (d 16) (nS (d 32) (nS (d 64) (lL (d 128)) nZ) (nS (d 96) (lL (d 160)) nZ)) (nS (d 48) (nS (d 80) (lL (d 144)) nZ) (nS (d 112) (lL (d 176)) nZ))) (nS (d 24) (nS (d 40) (nS (d 72) (lL (d 136)) nZ) (nS (d 104) (lL (d 168)) nZ)) (nS (d 56) (nS (d 88) (lL (d 152)) nZ) (lL (d 120))))) (nS (iI i1) (nS (d 20) (nS (d 36) (nS (d 68) (lL (d 132)) nZ) (nS (d 100) (lL (d 164)) nZ)) (nS (d 52) (nS (d 84) (lL (d 148)) nZ) (lL (d 116)))) (nS (d 28) (nS (d 44) (nS (d 76) (lL (d 140)) nZ) (nS (d 108) (lL (d 172)) nZ)) (nS (d 60) (nS (d 92) (lL (d 156)) nZ) (lL (d 124)))))) (nS (d 6) (nS (d 10) (nS (d 18) (nS (d 34) (nS (d 66) (lL (d 130)) nZ) (nS (d 98) (lL (d 162)) nZ)) (nS (d 50) (nS (d 82) (lL (d 146)) nZ) (lL (d 114)))) (nS (d 26) (nS (d 42) (nS (d 74) (lL (d 138)) nZ) (nS (d 106) (lL (d 170)) nZ)) (nS (d 58) (nS (d 90) (lL (d 154)) nZ) (lL (d 122))))) (nS (d 14) (nS (d 22) (nS (d 38) (nS (d 70) (lL (d 134)) nZ) (nS (d 102) (lL (d 166)) nZ)) (nS (d 54) (nS (d 86) (lL (d 150)) nZ) (lL (d 118)))) (nS (d 30) (nS (d 46) (nS (d 78) (lL (d 142)) nZ) (nS (d 110) (lL (d 174)) nZ)) (nS (d 62) (nS (d 94) (lL (d 158)) nZ) (lL (d 126))))))),[Item.code (codeAt bd [1,1,1,1,0,0,0]),Item.inLoop (codeAt bd [1,1,1,1,0,0,0]),Item.inBlock 2,Item.code (codeAt bd [1,1,1,1,1])],[],FrameMode.run,CallKind.normal,none⟩,[],⟨eE (eE (eE (eE (eE (eE (eE (lL (AObj.cells 74 [Value.func (Fn.func f) ⟨[]⟩ ⟨[]⟩,Value.chan none,Value.chan none,Value.chan none] true 0)) nZ) nZ) nZ) nZ) nZ) nZ) (eE nZ (eE nZ (eE nZ (eE nZ (eE nZ (lL (AObj.cells 52 (splice (splice c (0+(↑a:Int).toNat * 2) [iI (intAt c (0+(↑p:Int).toNat * 2)),iI (intAt c (0+(↑p:Int).toNat * 2+1))]) (0+(↑p:Int).toNat * 2) [iI (intAt c (0+(↑a:Int).toNat * 2)),iI (intAt c (0+(↑a:Int).toNat * 2+1))]) false 2))))))),128⟩⟩
noncomputable def S2(f:Nat)(n:Nat)(cap:Nat)(c:List Value)(a:Nat)(b:Nat)(p:Nat)(i0:Int)(i1:Int)(l0:List Value)(d:Nat→Value):AS:=⟨⟨81,178,nS (sS 126 0 n cap) (nS (iI (↑a:Int)) (nS (d 3) (nS (d 7) (nS (d 15) (nS (d 31) (nS (d 63) (lL (d 127)) nZ) (nS (d 95) (lL (d 159)) nZ)) (nS (d 47) (nS (d 79) (lL (d 143)) nZ) (nS (d 111) (lL (d 175)) nZ))) (nS (d 23) (nS (d 39) (nS (d 71) (lL (d 135)) nZ) (nS (d 103) (lL (d 167)) nZ)) (nS (d 55) (nS (d 87) (lL (d 151)) nZ) (lL (d 119))))) (nS (d 11) (nS (d 19) (nS (d 35) (nS (d 67) (lL (d 131)) nZ) (nS (d 99) (lL (d 163)) nZ)) (nS (d 51) (nS (d 83) (lL (d 147)) nZ) (lL (d 115)))) (nS (d 27) (nS (d 43) (nS (d 75) (lL (d 139)) nZ) (nS (d 107) (lL (d 171)) nZ)) (nS (d 59) (nS (d 91) (lL (d 155)) nZ) (lL (d 123)))))) (nS (d 5) (nS (d 9) (nS (d 17) (nS (d 33) (nS (d 65) (lL (d 129)) nZ) (nS (d 97) (lL (d 161)) nZ)) (nS (d 49) (nS (d 81) (lL (d 145)) nZ) (nS (d 113) (lL (d 177)) nZ))) (nS (d 25) (nS (d 41) (nS (d 73) (lL (d 137)) nZ) (nS (d 105) (lL (d 169)) nZ)) (nS (d 57) (nS (d 89) (lL (d 153)) nZ) (lL (d 121))))) (nS (iI i0) (nS (d 21) (nS (d 37) (nS (d 69) (lL (d 133)) nZ) (nS (d 101) (lL (d 165)) nZ)) (nS (d 53) (nS (d 85) (lL (d 149)) nZ) (lL (d 117)))) (nS (d 29) (nS (d 45) (nS (d 77) (lL (d 141)) nZ) (nS (d 109) (lL (d 173)) nZ)) (nS (d 61) (nS (d 93) (lL (d 157)) nZ) (lL (d 125))))))) (nS (d 2) (nS (Value.func (Fn.func 36) ⟨[pP 127 0]⟩ ⟨[]⟩) (nS (d 8) (nS (d 16) (nS (d 32) (nS (d 64) (lL (d 128)) nZ) (nS (d 96) (lL (d 160)) nZ)) (nS (d 48) (nS (d 80) (lL (d 144)) nZ) (nS (d 112) (lL (d 176)) nZ))) (nS (d 24) (nS (d 40) (nS (d 72) (lL (d 136)) nZ) (nS (d 104) (lL (d 168)) nZ)) (nS (d 56) (nS (d 88) (lL (d 152)) nZ) (lL (d 120))))) (nS (iI i1) (nS (d 20) (nS (d 36) (nS (d 68) (lL (d 132)) nZ) (nS (d 100) (lL (d 164)) nZ)) (nS (d 52) (nS (d 84) (lL (d 148)) nZ) (lL (d 116)))) (nS (d 28) (nS (d 44) (nS (d 76) (lL (d 140)) nZ) (nS (d 108) (lL (d 172)) nZ)) (nS (d 60) (nS (d 92) (lL (d 156)) nZ) (lL (d 124)))))) (nS (d 6) (nS (d 10) (nS (d 18) (nS (d 34) (nS (d 66) (lL (d 130)) nZ) (nS (d 98) (lL (d 162)) nZ)) (nS (d 50) (nS (d 82) (lL (d 146)) nZ) (lL (d 114)))) (nS (d 26) (nS (d 42) (nS (d 74) (lL (d 138)) nZ) (nS (d 106) (lL (d 170)) nZ)) (nS (d 58) (nS (d 90) (lL (d 154)) nZ) (lL (d 122))))) (nS (d 14) (nS (d 22) (nS (d 38) (nS (d 70) (lL (d 134)) nZ) (nS (d 102) (lL (d 166)) nZ)) (nS (d 54) (nS (d 86) (lL (d 150)) nZ) (lL (d 118)))) (nS (d 30) (nS (d 46) (nS (d 78) (lL (d 142)) nZ) (nS (d 110) (lL (d 174)) nZ)) (nS (d 62) (nS (d 94) (lL (d 158)) nZ) (lL (d 126))))))),[Item.code (codeAt bd [1,1,1,1,1,1,1,1,1,0,0,0]),Item.inLoop (codeAt bd [1,1,1,1,1,1,1,1,1,0,0,0]),Item.inBlock 4,Item.code (codeAt bd [1,1,1,1,1,1,1,1,1,1])],[],FrameMode.run,CallKind.normal,none⟩,[],⟨eE (eE (eE (eE (eE (eE (eE (lL (AObj.cells 74 [Value.func (Fn.func f) ⟨[]⟩ ⟨[]⟩,Value.chan none,Value.chan none,Value.chan none] true 0)) nZ) nZ) nZ) nZ) nZ) nZ) (eE nZ (eE nZ (eE nZ (eE nZ (eE nZ (lL (AObj.cells 52 l0 false 2))))))),128⟩⟩
noncomputable def S3(f:Nat)(n:Nat)(cap:Nat)(c:List Value)(a:Nat)(b:Nat)(p:Nat)(i0:Int)(i1:Int)(l0:List Value)(d:Nat→Value):AS:=⟨⟨81,178,nS (sS 126 0 n cap) (nS (iI (↑a:Int)) (nS (d 3) (nS (d 7) (nS (d 15) (nS (d 31) (nS (d 63) (lL (d 127)) nZ) (nS (d 95) (lL (d 159)) nZ)) (nS (d 47) (nS (d 79) (lL (d 143)) nZ) (nS (d 111) (lL (d 175)) nZ))) (nS (d 23) (nS (d 39) (nS (d 71) (lL (d 135)) nZ) (nS (d 103) (lL (d 167)) nZ)) (nS (d 55) (nS (d 87) (lL (d 151)) nZ) (lL (d 119))))) (nS (d 11) (nS (d 19) (nS (d 35) (nS (d 67) (lL (d 131)) nZ) (nS (d 99) (lL (d 163)) nZ)) (nS (d 51) (nS (d 83) (lL (d 147)) nZ) (lL (d 115)))) (nS (d 27) (nS (d 43) (nS (d 75) (lL (d 139)) nZ) (nS (d 107) (lL (d 171)) nZ)) (nS (d 59) (nS (d 91) (lL (d 155)) nZ) (lL (d 123)))))) (nS (d 5) (nS (d 9) (nS (d 17) (nS (d 33) (nS (d 65) (lL (d 129)) nZ) (nS (d 97) (lL (d 161)) nZ)) (nS (d 49) (nS (d 81) (lL (d 145)) nZ) (nS (d 113) (lL (d 177)) nZ))) (nS (d 25) (nS (d 41) (nS (d 73) (lL (d 137)) nZ) (nS (d 105) (lL (d 169)) nZ)) (nS (d 57) (nS (d 89) (lL (d 153)) nZ) (lL (d 121))))) (nS (iI i1) (nS (d 21) (nS (d 37) (nS (d 69) (lL (d 133)) nZ) (nS (d 101) (lL (d 165)) nZ)) (nS (d 53) (nS (d 85) (lL (d 149)) nZ) (lL (d 117)))) (nS (d 29) (nS (d 45) (nS (d 77) (lL (d 141)) nZ) (nS (d 109) (lL (d 173)) nZ)) (nS (d 61) (nS (d 93) (lL (d 157)) nZ) (lL (d 125))))))) (nS (d 2) (nS (Value.func (Fn.func 36) ⟨[pP 127 0]⟩ ⟨[]⟩) (nS (d 8) (nS (d 16) (nS (d 32) (nS (d 64) (lL (d 128)) nZ) (nS (d 96) (lL (d 160)) nZ)) (nS (d 48) (nS (d 80) (lL (d 144)) nZ) (nS (d 112) (lL (d 176)) nZ))) (nS (d 24) (nS (d 40) (nS (d 72) (lL (d 136)) nZ) (nS (d 104) (lL (d 168)) nZ)) (nS (d 56) (nS (d 88) (lL (d 152)) nZ) (lL (d 120))))) (nS (iI i0) (nS (d 20) (nS (d 36) (nS (d 68) (lL (d 132)) nZ) (nS (d 100) (lL (d 164)) nZ)) (nS (d 52) (nS (d 84) (lL (d 148)) nZ) (lL (d 116)))) (nS (d 28) (nS (d 44) (nS (d 76) (lL (d 140)) nZ) (nS (d 108) (lL (d 172)) nZ)) (nS (d 60) (nS (d 92) (lL (d 156)) nZ) (lL (d 124)))))) (nS (d 6) (nS (d 10) (nS (d 18) (nS (d 34) (nS (d 66) (lL (d 130)) nZ) (nS (d 98) (lL (d 162)) nZ)) (nS (d 50) (nS (d 82) (lL (d 146)) nZ) (lL (d 114)))) (nS (d 26) (nS (d 42) (nS (d 74) (lL (d 138)) nZ) (nS (d 106) (lL (d 170)) nZ)) (nS (d 58) (nS (d 90) (lL (d 154)) nZ) (lL (d 122))))) (nS (d 14) (nS (d 22) (nS (d 38) (nS (d 70) (lL (d 134)) nZ) (nS (d 102) (lL (d 166)) nZ)) (nS (d 54) (nS (d 86) (lL (d 150)) nZ) (lL (d 118)))) (nS (d 30) (nS (d 46) (nS (d 78) (lL (d 142)) nZ) (nS (d 110) (lL (d 174)) nZ)) (nS (d 62) (nS (d 94) (lL (d 158)) nZ) (lL (d 126))))))),[Item.code (codeAt bd [1,1,1,1,1,1,1,1,1,0,0,0,0,0,0,0]),Item.inLoop (codeAt bd [1,1,1,1,1,1,1,1,1,0,0,0,0,0,0,0]),Item.inBlock 6,Item.code (codeAt bd [1,1,1,1,1,1,1,1,1,0,0,0,0,1]),Item.inBlock 5,Item.inLoop (codeAt bd [1,1,1,1,1,1,1,1,1,0,0,0]),Item.inBlock 4,Item.code (codeAt bd [1,1,1,1,1,1,1,1,1,1])],[],FrameMode.run,CallKind.normal,none⟩,[],⟨eE (eE (eE (eE (eE (eE (eE (lL (AObj.cells 74 [Value.func (Fn.func f) ⟨[]⟩ ⟨[]⟩,Value.chan none,Value.chan none,Value.chan none] true 0)) nZ) nZ) nZ) nZ) nZ) nZ) (eE nZ (eE nZ (eE nZ (eE nZ (eE nZ (lL (AObj.cells 52 l0 false 2))))))),128⟩⟩
noncomputable def S4(f:Nat)(n:Nat)(cap:Nat)(c:List Value)(a:Nat)(b:Nat)(p:Nat)(i0:Int)(i1:Int)(l0:List Value)(d:Nat→Value):AS:=⟨⟨81,178,nS (sS 126 0 n cap) (nS (iI (↑a:Int)) (nS (d 3) (nS (d 7) (nS (d 15) (nS (d 31) (nS (d 63) (lL (d 127)) nZ) (nS (d 95) (lL (d 159)) nZ)) (nS (d 47) (nS (d 79) (lL (d 143)) nZ) (nS (d 111) (lL (d 175)) nZ))) (nS (d 23) (nS (d 39) (nS (d 71) (lL (d 135)) nZ) (nS (d 103) (lL (d 167)) nZ)) (nS (d 55) (nS (d 87) (lL (d 151)) nZ) (lL (d 119))))) (nS (d 11) (nS (d 19) (nS (d 35) (nS (d 67) (lL (d 131)) nZ) (nS (d 99) (lL (d 163)) nZ)) (nS (d 51) (nS (d 83) (lL (d 147)) nZ) (lL (d 115)))) (nS (d 27) (nS (d 43) (nS (d 75) (lL (d 139)) nZ) (nS (d 107) (lL (d 171)) nZ)) (nS (d 59) (nS (d 91) (lL (d 155)) nZ) (lL (d 123)))))) (nS (d 5) (nS (d 9) (nS (d 17) (nS (d 33) (nS (d 65) (lL (d 129)) nZ) (nS (d 97) (lL (d 161)) nZ)) (nS (d 49) (nS (d 81) (lL (d 145)) nZ) (nS (d 113) (lL (d 177)) nZ))) (nS (d 25) (nS (d 41) (nS (d 73) (lL (d 137)) nZ) (nS (d 105) (lL (d 169)) nZ)) (nS (d 57) (nS (d 89) (lL (d 153)) nZ) (lL (d 121))))) (nS (iI i0) (nS (d 21) (nS (d 37) (nS (d 69) (lL (d 133)) nZ) (nS (d 101) (lL (d 165)) nZ)) (nS (d 53) (nS (d 85) (lL (d 149)) nZ) (lL (d 117)))) (nS (d 29) (nS (d 45) (nS (d 77) (lL (d 141)) nZ) (nS (d 109) (lL (d 173)) nZ)) (nS (d 61) (nS (d 93) (lL (d 157)) nZ) (lL (d 125))))))) (nS (d 2) (nS (Value.func (Fn.func 36) ⟨[pP 127 0]⟩ ⟨[]⟩) (nS (d 8) (nS (d 16) (nS (d 32) (nS (d 64) (lL (d 128)) nZ) (nS (d 96) (lL (d 160)) nZ)) (nS (d 48) (nS (d 80) (lL (d 144)) nZ) (nS (d 112) (lL (d 176)) nZ))) (nS (d 24) (nS (d 40) (nS (d 72) (lL (d 136)) nZ) (nS (d 104) (lL (d 168)) nZ)) (nS (d 56) (nS (d 88) (lL (d 152)) nZ) (lL (d 120))))) (nS (iI i1) (nS (d 20) (nS (d 36) (nS (d 68) (lL (d 132)) nZ) (nS (d 100) (lL (d 164)) nZ)) (nS (d 52) (nS (d 84) (lL (d 148)) nZ) (lL (d 116)))) (nS (d 28) (nS (d 44) (nS (d 76) (lL (d 140)) nZ) (nS (d 108) (lL (d 172)) nZ)) (nS (d 60) (nS (d 92) (lL (d 156)) nZ) (lL (d 124)))))) (nS (d 6) (nS (d 10) (nS (d 18) (nS (d 34) (nS (d 66) (lL (d 130)) nZ) (nS (d 98) (lL (d 162)) nZ)) (nS (d 50) (nS (d 82) (lL (d 146)) nZ) (lL (d 114)))) (nS (d 26) (nS (d 42) (nS (d 74) (lL (d 138)) nZ) (nS (d 106) (lL (d 170)) nZ)) (nS (d 58) (nS (d 90) (lL (d 154)) nZ) (lL (d 122))))) (nS (d 14) (nS (d 22) (nS (d 38) (nS (d 70) (lL (d 134)) nZ) (nS (d 102) (lL (d 166)) nZ)) (nS (d 54) (nS (d 86) (lL (d 150)) nZ) (lL (d 118)))) (nS (d 30) (nS (d 46) (nS (d 78) (lL (d 142)) nZ) (nS (d 110) (lL (d 174)) nZ)) (nS (d 62) (nS (d 94) (lL (d 158)) nZ) (lL (d 126))))))),[Item.code (codeAt bd [1,1,1,1,1,1,1,1,1,0,0,0,0,1,0,0,0]),Item.inLoop (codeAt bd [1,1,1,1,1,1,1,1,1,0,0,0,0,1,0,0,0]),Item.inBlock 8,Item.code (codeAt bd [1,1,1,1,1,1,1,1,1,0,0,0,0,1,1]),Item.inBlock 5,Item.inLoop (codeAt bd [1,1,1,1,1,1,1,1,1,0,0,0]),Item.inBlock 4,Item.code (codeAt bd [1,1,1,1,1,1,1,1,1,1])],[],FrameMode.run,CallKind.normal,none⟩,[],⟨eE (eE (eE (eE (eE (eE (eE (lL (AObj.cells 74 [Value.func (Fn.func f) ⟨[]⟩ ⟨[]⟩,Value.chan none,Value.chan none,Value.chan none] true 0)) nZ) nZ) nZ) nZ) nZ) nZ) (eE nZ (eE nZ (eE nZ (eE nZ (eE nZ (lL (AObj.cells 52 l0 false 2))))))),128⟩⟩
theorem enter{η:Nat→Value}{B:Bd}(hη:OneCells η)(hmix:prog.follows .mixedOrders=true)(hreg:RegOk η prog B noNest){D:Value→AH→Prop}(f:Nat)(n:Nat)(cap:Nat)(c:List Value)(a:Nat)(b:Nat)(p:Nat)(h:let q3:=((0:Nat)+(↑p:Int).toNat * (2:Nat));let q2:=(intAt c ((0:Nat)+(↑a:Int).toNat * (2:Nat)));let q1:=(intAt c ((0:Nat)+(↑a:Int).toNat * (2:Nat)+(1:Nat)));let q0:=(splice c ((0:Nat)+(↑a:Int).toNat * (2:Nat)) [Value.int IntKind.i64 (intAt c q3),Value.int IntKind.i64 (intAt c ((0:Nat)+(↑p:Int).toNat * (2:Nat)+(1:Nat)))]);W.holds η prog B 81 (fun kp_ st_=>RunD η prog B 81 (H0 f n cap c a b p) kp_ st_ (QF prog 128 D)) D (.need ((0:Int)≤(↑p:Int)∧(↑p:Int)<(↑n:Int)) (.need ((0:Nat)+(↑p:Int).toNat * (2:Nat)+(2:Nat)≤c.length∧List.take (2:Nat) (List.drop q3 c)=[Value.int IntKind.i64 (intAt c q3),Value.int IntKind.i64 (intAt c ((0:Nat)+(↑p:Int).toNat * (2:Nat)+(1:Nat)))]) (.need ((0:Int)≤(↑a:Int)∧(↑a:Int)<(↑n:Int)) (.need ((0:Nat)+(↑a:Int).toNat * (2:Nat)+(2:Nat)≤c.length∧List.take (2:Nat) (List.drop ((0:Nat)+(↑a:Int).toNat * (2:Nat)) c)=[Value.int IntKind.i64 q2,Value.int IntKind.i64 q1]) (.need ((0:Int)≤(↑a:Int)∧(↑a:Int)<(↑n:Int)) (.need ((0:Nat)+(↑a:Int).toNat * (2:Nat)+(2:Nat)≤c.length) (.need ((0:Int)≤(↑p:Int)∧(↑p:Int)<(↑n:Int)) (.need ((0:Nat)+(↑p:Int).toNat * (2:Nat)+(2:Nat)≤q0.length) (.need (NoNames (splice q0 q3 [Value.int IntKind.i64 q2,Value.int IntKind.i64 q1])∧True∧True) (.stop [0,1,4,12,13] (S0 f n cap c a b p (IntKind.i64.wrap ((↑a:Int)+1)) (fun _=>undef))))))))))))):CallSpec η prog B 81 [Value.slice (some ⟨126,0,none⟩) n cap,Value.int IntKind.i64 (↑a:Int),Value.int IntKind.i64 (↑b:Int),Value.int IntKind.i64 (↑p:Int),Value.func (Fn.func 36) ⟨[Value.pointer (some ⟨127,0,none⟩)]⟩ ⟨[]⟩] (H0 f n cap c a b p) D:=by
 refine CallSpec.ofQF hη (CallSpec.enter (fr:=(E f n cap c a b p).fr) (by kernel_rfl) ?_)
 exact walk_okT (h0:=H0 f n cap c a b p) hη hmix hreg (.steps 6 <| .reg <| .steps 6 <| .op <| .op <| .steps 2 <| .op <| .op <| .op <| .op <| .op <| .op <| .reg <| .steps 12 <| .stop [0,1,4,12,13] (some ⟨128,[],[(126,(126,true)),(127,(127,false))]⟩)) (E f n cap c a b p) (by kernel_rfl) h (by kernel_rfl)
theorem cut0{η:Nat→Value}{B:Bd}(hη:OneCells η)(hmix:prog.follows .mixedOrders=true)(hreg:RegOk η prog B noNest){D:Value→AH→Prop}(f:Nat)(n:Nat)(cap:Nat)(c:List Value)(a:Nat)(b:Nat)(p:Nat)(i0:Int)(h:let q10:=(intAt (splice (splice c (0+(↑a:Int).toNat * 2) [Value.int IntKind.i64 (intAt c (0+(↑p:Int).toNat * 2)),Value.int IntKind.i64 (intAt c (0+(↑p:Int).toNat * 2+1))]) (0+(↑p:Int).toNat * 2) [Value.int IntKind.i64 (intAt c (0+(↑a:Int).toNat * 2)),Value.int IntKind.i64 (intAt c (0+(↑a:Int).toNat * 2+1))]) (0+i0.toNat * 2));let q9:=(intAt (splice (splice c (0+(↑a:Int).toNat * 2) [Value.int IntKind.i64 (intAt c (0+(↑p:Int).toNat * 2)),Value.int IntKind.i64 (intAt c (0+(↑p:Int).toNat * 2+1))]) (0+(↑p:Int).toNat * 2) [Value.int IntKind.i64 (intAt c (0+(↑a:Int).toNat * 2)),Value.int IntKind.i64 (intAt c (0+(↑a:Int).toNat * 2+1))]) (0+i0.toNat * 2+1));let q8:=(intAt (splice (splice c (0+(↑a:Int).toNat * 2) [Value.int IntKind.i64 (intAt c (0+(↑p:Int).toNat * 2)),Value.int IntKind.i64 (intAt c (0+(↑p:Int).toNat * 2+1))]) (0+(↑p:Int).toNat * 2) [Value.int IntKind.i64 (intAt c (0+(↑a:Int).toNat * 2)),Value.int IntKind.i64 (intAt c (0+(↑a:Int).toNat * 2+1))]) (0+(↑a:Int).toNat * 2));let q7:=(intAt (splice (splice c (0+(↑a:Int).toNat * 2) [Value.int IntKind.i64 (intAt c (0+(↑p:Int).toNat * 2)),Value.int IntKind.i64 (intAt c (0+(↑p:Int).toNat * 2+1))]) (0+(↑p:Int).toNat * 2) [Value.int IntKind.i64 (intAt c (0+(↑a:Int).toNat * 2)),Value.int IntKind.i64 (intAt c (0+(↑a:Int).toNat * 2+1))]) (0+(↑a:Int).toNat * 2+1));let q6:=(splice (splice c ((0:Nat)+(↑a:Int).toNat * (2:Nat)) [Value.int IntKind.i64 (intAt c ((0:Nat)+(↑p:Int).toNat * (2:Nat))),Value.int IntKind.i64 (intAt c ((0:Nat)+(↑p:Int).toNat * (2:Nat)+(1:Nat)))]) ((0:Nat)+(↑p:Int).toNat * (2:Nat)) [Value.int IntKind.i64 (intAt c ((0:Nat)+(↑a:Int).toNat * (2:Nat))),Value.int IntKind.i64 (intAt c ((0:Nat)+(↑a:Int).toNat * (2:Nat)+(1:Nat)))]);let q5:=(intAt q6 ((0:Nat)+i0.toNat * (2:Nat)));let q4:=(intAt q6 ((0:Nat)+(↑a:Int).toNat * (2:Nat)));let q3:=(intAt q6 ((0:Nat)+i0.toNat * (2:Nat)+(1:Nat)));let q2:=(intAt q6 ((0:Nat)+(↑a:Int).toNat * (2:Nat)+(1:Nat)));let q1:W:=(.need (NoNames q6∧True∧True) (.stop [0,1,4,12,13] (S1 f n cap c a b p (IntKind.i64.wrap ((↑b:Int) - 1)) (i0) (fun _=>undef))));let q0:AH:=⟨eE (eE (eE (eE (eE (eE (eE (lL (AObj.cells 74 [Value.func (Fn.func f) ⟨[]⟩ ⟨[]⟩,Value.chan none,Value.chan none,Value.chan none] true 0)) nZ) nZ) nZ) nZ) nZ) nZ) (eE nZ (eE nZ (eE nZ (eE nZ (eE nZ (lL (AObj.cells 52 (splice (splice c (0+(↑a:Int).toNat * 2) [iI (intAt c (0+(↑p:Int).toNat * 2)),iI (intAt c (0+(↑p:Int).toNat * 2+1))]) (0+(↑p:Int).toNat * 2) [iI (intAt c (0+(↑a:Int).toNat * 2)),iI (intAt c (0+(↑a:Int).toNat * 2+1))]) false 2))))))),144⟩;W.holds η prog B 81 (fun kp_ st_=>RunD η prog B 81 (H0 f n cap c a b p) kp_ st_ (QF prog 128 D)) D (.ite (decide (i0≤IntKind.i64.wrap ((↑b:Int) - (1:Int)))) (.need ((0:Int)≤i0∧i0<(↑n:Int)) (.need ((0:Nat)+i0.toNat * (2:Nat)+(2:Nat)≤q6.length∧List.take (2:Nat) (List.drop ((0:Nat)+i0.toNat * (2:Nat)) q6)=[Value.int IntKind.i64 q5,Value.int IntKind.i64 q3]) (.need ((0:Int)≤(↑a:Int)∧(↑a:Int)<(↑n:Int)) (.need ((0:Nat)+(↑a:Int).toNat * (2:Nat)+(2:Nat)≤q6.length∧List.take (2:Nat) (List.drop ((0:Nat)+(↑a:Int).toNat * (2:Nat)) q6)=[Value.int IntKind.i64 q4,Value.int IntKind.i64 q2]) (.call 36 [Value.pointer (some ⟨127,0,none⟩),Value.agg ⟨[Value.int IntKind.i64 q10,Value.int IntKind.i64 q9]⟩,Value.agg ⟨[Value.int IntKind.i64 q8,Value.int IntKind.i64 q7]⟩] (q0) (.ret (Value.int IntKind.i64 (HQ.cmpA f q10 q9 q8 q7)) (q0)) (.ite (decide (HQ.cmpA f q5 q3 q4 q2<(0:Int))) (.need (NoNames q6∧True∧True) (.stop [0,1,4,12,13] (S0 f n cap c a b p (IntKind.i64.wrap (i0+1)) (fun _=>undef)))) q1)))))) q1)):RunD η prog B 81 (H0 f n cap c a b p) [0,1,4,12,13] (S0 f n cap c a b p i0 fun _=>undef) (QF prog 128 D):=by
 refine RunD.intro (S0 f n cap c a b p i0) (fun d=>⟨rfl,rfl,rfl⟩) (fun d=>tmOk_get (by kernel_rfl)) (fun d=>by kernel_rfl) (fun d=>?_)
 exact walk_okT (h0:=H0 f n cap c a b p) hη hmix hreg (.steps 2 <| .reg <| .steps 4 <| .bit 35 (.steps 3 <| .op <| .op <| .steps 2 <| .op <| .op <| .call kN <| .steps 2 <| .reg <| .bit 47 (.steps 10 <| .stop [0,1,4,12,13] (some ⟨128,[],[(126,(126,true)),(127,(127,false))]⟩)) (.steps 5 <| .stop [0,1,4,12,13] (some ⟨128,[],[(126,(126,true)),(127,(127,false))]⟩))) (.steps 12 <| .reg <| .steps 5 <| .stop [0,1,4,12,13] (some ⟨128,[],[(126,(126,true)),(127,(127,false))]⟩))) (S0 f n cap c a b p i0 d) (by kernel_rfl) h (by kernel_rfl)
theorem cut1{η:Nat→Value}{B:Bd}(hη:OneCells η)(hmix:prog.follows .mixedOrders=true)(hreg:RegOk η prog B noNest){D:Value→AH→Prop}(f:Nat)(n:Nat)(cap:Nat)(c:List Value)(a:Nat)(b:Nat)(p:Nat)(i0:Int)(i1:Int)(h:let q11:=(intAt (splice (splice c (0+(↑a:Int).toNat * 2) [Value.int IntKind.i64 (intAt c (0+(↑p:Int).toNat * 2)),Value.int IntKind.i64 (intAt c (0+(↑p:Int).toNat * 2+1))]) (0+(↑p:Int).toNat * 2) [Value.int IntKind.i64 (intAt c (0+(↑a:Int).toNat * 2)),Value.int IntKind.i64 (intAt c (0+(↑a:Int).toNat * 2+1))]) (0+i0.toNat * 2));let q10:=(intAt (splice (splice c (0+(↑a:Int).toNat * 2) [Value.int IntKind.i64 (intAt c (0+(↑p:Int).toNat * 2)),Value.int IntKind.i64 (intAt c (0+(↑p:Int).toNat * 2+1))]) (0+(↑p:Int).toNat * 2) [Value.int IntKind.i64 (intAt c (0+(↑a:Int).toNat * 2)),Value.int IntKind.i64 (intAt c (0+(↑a:Int).toNat * 2+1))]) (0+i0.toNat * 2+1));let q9:=(intAt (splice (splice c (0+(↑a:Int).toNat * 2) [Value.int IntKind.i64 (intAt c (0+(↑p:Int).toNat * 2)),Value.int IntKind.i64 (intAt c (0+(↑p:Int).toNat * 2+1))]) (0+(↑p:Int).toNat * 2) [Value.int IntKind.i64 (intAt c (0+(↑a:Int).toNat * 2)),Value.int IntKind.i64 (intAt c (0+(↑a:Int).toNat * 2+1))]) (0+(↑a:Int).toNat * 2));let q8:=(intAt (splice (splice c (0+(↑a:Int).toNat * 2) [Value.int IntKind.i64 (intAt c (0+(↑p:Int).toNat * 2)),Value.int IntKind.i64 (intAt c (0+(↑p:Int).toNat * 2+1))]) (0+(↑p:Int).toNat * 2) [Value.int IntKind.i64 (intAt c (0+(↑a:Int).toNat * 2)),Value.int IntKind.i64 (intAt c (0+(↑a:Int).toNat * 2+1))]) (0+(↑a:Int).toNat * 2+1));let q7:=(splice (splice c ((0:Nat)+(↑a:Int).toNat * (2:Nat)) [Value.int IntKind.i64 (intAt c ((0:Nat)+(↑p:Int).toNat * (2:Nat))),Value.int IntKind.i64 (intAt c ((0:Nat)+(↑p:Int).toNat * (2:Nat)+(1:Nat)))]) ((0:Nat)+(↑p:Int).toNat * (2:Nat)) [Value.int IntKind.i64 (intAt c ((0:Nat)+(↑a:Int).toNat * (2:Nat))),Value.int IntKind.i64 (intAt c ((0:Nat)+(↑a:Int).toNat * (2:Nat)+(1:Nat)))]);let q6:=(intAt q7 ((0:Nat)+i0.toNat * (2:Nat)));let q5:=(intAt q7 ((0:Nat)+(↑a:Int).toNat * (2:Nat)));let q4:=(intAt q7 ((0:Nat)+i0.toNat * (2:Nat)+(1:Nat)));let q3:=(intAt q7 ((0:Nat)+(↑a:Int).toNat * (2:Nat)+(1:Nat)));let q2:AH:=⟨eE (eE (eE (eE (eE (eE (eE (lL (AObj.cells 74 [Value.func (Fn.func f) ⟨[]⟩ ⟨[]⟩,Value.chan none,Value.chan none,Value.chan none] true 0)) nZ) nZ) nZ) nZ) nZ) nZ) (eE nZ (eE nZ (eE nZ (eE nZ (eE nZ (lL (AObj.cells 52 (splice (splice c (0+(↑a:Int).toNat * 2) [iI (intAt c (0+(↑p:Int).toNat * 2)),iI (intAt c (0+(↑p:Int).toNat * 2+1))]) (0+(↑p:Int).toNat * 2) [iI (intAt c (0+(↑a:Int).toNat * 2)),iI (intAt c (0+(↑a:Int).toNat * 2+1))]) false 2))))))),145⟩;let q1:W:=(.need ((0:Int)≤i0∧i0<(↑n:Int)) (.need ((0:Nat)+i0.toNat * (2:Nat)+(2:Nat)≤q7.length∧List.take (2:Nat) (List.drop ((0:Nat)+i0.toNat * (2:Nat)) q7)=[Value.int IntKind.i64 q6,Value.int IntKind.i64 q4]) (.need ((0:Int)≤i1∧i1<(↑n:Int)) (.need ((0:Nat)+i1.toNat * (2:Nat)+(2:Nat)≤q7.length∧List.take (2:Nat) (List.drop ((0:Nat)+i1.toNat * (2:Nat)) q7)=[Value.int IntKind.i64 (intAt q7 ((0:Nat)+i1.toNat * (2:Nat))),Value.int IntKind.i64 (intAt q7 ((0:Nat)+i1.toNat * (2:Nat)+(1:Nat)))]) (.need ((0:Int)≤i1∧i1<(↑n:Int)) (.need ((0:Nat)+i1.toNat * (2:Nat)+(2:Nat)≤q7.length) (.need ((0:Int)≤i0∧i0<(↑n:Int)) (.need ((0:Nat)+i0.toNat * (2:Nat)+(2:Nat)≤(splice q7 ((0:Nat)+i1.toNat * (2:Nat)) [Value.int IntKind.i64 q6,Value.int IntKind.i64 q4]).length) (.need (NoNames (splice (splice q7 ((0:Nat)+i1.toNat * (2:Nat)) [Value.int IntKind.i64 q6,Value.int IntKind.i64 q4]) ((0:Nat)+i0.toNat * (2:Nat)) [Value.int IntKind.i64 (intAt q7 ((0:Nat)+i1.toNat * (2:Nat))),Value.int IntKind.i64 (intAt q7 ((0:Nat)+i1.toNat * (2:Nat)+(1:Nat)))])∧True∧True) (.stop [0,1,4,12,13] (S2 f n cap c a b p (IntKind.i64.wrap (i0 - 1)) (IntKind.i64.wrap (i1+1)) (splice (splice (splice (splice c (0+(↑a:Int).toNat * 2) [Value.int IntKind.i64 (intAt c (0+(↑p:Int).toNat * 2)),Value.int IntKind.i64 (intAt c (0+(↑p:Int).toNat * 2+1))]) (0+(↑p:Int).toNat * 2) [Value.int IntKind.i64 (intAt c (0+(↑a:Int).toNat * 2)),Value.int IntKind.i64 (intAt c (0+(↑a:Int).toNat * 2+1))]) (0+i1.toNat * 2) [Value.int IntKind.i64 q11,Value.int IntKind.i64 q10]) (0+i0.toNat * 2) [Value.int IntKind.i64 (intAt (splice (splice c (0+(↑a:Int).toNat * 2) [Value.int IntKind.i64 (intAt c (0+(↑p:Int).toNat * 2)),Value.int IntKind.i64 (intAt c (0+(↑p:Int).toNat * 2+1))]) (0+(↑p:Int).toNat * 2) [Value.int IntKind.i64 (intAt c (0+(↑a:Int).toNat * 2)),Value.int IntKind.i64 (intAt c (0+(↑a:Int).toNat * 2+1))]) (0+i1.toNat * 2)),Value.int IntKind.i64 (intAt (splice (splice c (0+(↑a:Int).toNat * 2) [Value.int IntKind.i64 (intAt c (0+(↑p:Int).toNat * 2)),Value.int IntKind.i64 (intAt c (0+(↑p:Int).toNat * 2+1))]) (0+(↑p:Int).toNat * 2) [Value.int IntKind.i64 (intAt c (0+(↑a:Int).toNat * 2)),Value.int IntKind.i64 (intAt c (0+(↑a:Int).toNat * 2+1))]) (0+i1.toNat * 2+1))]) (fun _=>undef))))))))))));let q0:W:=(.need ((0:Int)≤(↑a:Int)∧(↑a:Int)<(↑n:Int)) (.need ((0:Nat)+(↑a:Int).toNat * (2:Nat)+(2:Nat)≤q7.length∧List.take (2:Nat) (List.drop ((0:Nat)+(↑a:Int).toNat * (2:Nat)) q7)=[Value.int IntKind.i64 q5,Value.int IntKind.i64 q3]) (.need ((0:Int)≤i0∧i0<(↑n:Int)) (.need ((0:Nat)+i0.toNat * (2:Nat)+(2:Nat)≤q7.length∧List.take (2:Nat) (List.drop ((0:Nat)+i0.toNat * (2:Nat)) q7)=[Value.int IntKind.i64 q6,Value.int IntKind.i64 q4]) (.need ((0:Int)≤i0∧i0<(↑n:Int)) (.need ((0:Nat)+i0.toNat * (2:Nat)+(2:Nat)≤q7.length) (.need ((0:Int)≤(↑a:Int)∧(↑a:Int)<(↑n:Int)) (.need ((0:Nat)+(↑a:Int).toNat * (2:Nat)+(2:Nat)≤(splice q7 ((0:Nat)+i0.toNat * (2:Nat)) [Value.int IntKind.i64 q5,Value.int IntKind.i64 q3]).length) (.need (NoNames (splice (splice q7 ((0:Nat)+i0.toNat * (2:Nat)) [Value.int IntKind.i64 q5,Value.int IntKind.i64 q3]) ((0:Nat)+(↑a:Int).toNat * (2:Nat)) [Value.int IntKind.i64 q6,Value.int IntKind.i64 q4])∧True∧True) (.done 81 (Value.tuple ⟨[Value.int IntKind.i64 i0,Value.bool true]⟩) (⟨eE (eE (eE (eE (eE (eE (eE (lL (AObj.cells 74 [Value.func (Fn.func f) ⟨[]⟩ ⟨[]⟩,Value.chan none,Value.chan none,Value.chan none] true 0)) nZ) nZ) nZ) nZ) nZ) nZ) (eE nZ (eE nZ (eE nZ (eE nZ (eE nZ (lL (AObj.cells 52 (splice (splice (splice (splice c (0+(↑a:Int).toNat * 2) [iI (intAt c (0+(↑p:Int).toNat * 2)),iI (intAt c (0+(↑p:Int).toNat * 2+1))]) (0+(↑p:Int).toNat * 2) [iI (intAt c (0+(↑a:Int).toNat * 2)),iI (intAt c (0+(↑a:Int).toNat * 2+1))]) (0+i0.toNat * 2) [iI q9,iI q8]) (0+(↑a:Int).toNat * 2) [iI q11,iI q10]) false 2))))))),128⟩)))))))))));W.holds η prog B 81 (fun kp_ st_=>RunD η prog B 81 (H0 f n cap c a b p) kp_ st_ (QF prog 128 D)) D (.ite (decide (i1≤i0)) (.need ((0:Int)≤i0∧i0<(↑n:Int)) (.need ((0:Nat)+i0.toNat * (2:Nat)+(2:Nat)≤q7.length∧List.take (2:Nat) (List.drop ((0:Nat)+i0.toNat * (2:Nat)) q7)=[Value.int IntKind.i64 q6,Value.int IntKind.i64 q4]) (.need ((0:Int)≤(↑a:Int)∧(↑a:Int)<(↑n:Int)) (.need ((0:Nat)+(↑a:Int).toNat * (2:Nat)+(2:Nat)≤q7.length∧List.take (2:Nat) (List.drop ((0:Nat)+(↑a:Int).toNat * (2:Nat)) q7)=[Value.int IntKind.i64 q5,Value.int IntKind.i64 q3]) (.call 36 [Value.pointer (some ⟨127,0,none⟩),Value.agg ⟨[Value.int IntKind.i64 q11,Value.int IntKind.i64 q10]⟩,Value.agg ⟨[Value.int IntKind.i64 q9,Value.int IntKind.i64 q8]⟩] (q2) (.ret (Value.int IntKind.i64 (HQ.cmpA f q11 q10 q9 q8)) (q2)) (.ite (!decide (HQ.cmpA f q6 q4 q5 q3<(0:Int))) (.need (NoNames q7∧True∧True) (.stop [0,1,4,12,13] (S1 f n cap c a b p (IntKind.i64.wrap (i0 - 1)) (i1) (fun _=>undef)))) (.ite (decide (i1 > i0)) q0 q1))))))) (.ite (decide (i1 > i0)) q0 q1))):RunD η prog B 81 (H0 f n cap c a b p) [0,1,4,12,13] (S1 f n cap c a b p i0 i1 fun _=>undef) (QF prog 128 D):=by
 refine RunD.intro (S1 f n cap c a b p i0 i1) (fun d=>⟨rfl,rfl,rfl⟩) (fun d=>tmOk_get (by kernel_rfl)) (fun d=>by kernel_rfl) (fun d=>?_)
 exact walk_okT (h0:=H0 f n cap c a b p) hη hmix hreg (.steps 2 <| .reg <| .steps 4 <| .bit 53 (.steps 3 <| .op <| .op <| .steps 2 <| .op <| .op <| .call kN <| .steps 3 <| .reg <| .bit 66 (.steps 10 <| .stop [0,1,4,12,13] (some ⟨128,[],[(126,(126,true)),(127,(127,false))]⟩)) (.steps 9 <| .bit 71 (.steps 2 <| .reg <| .steps 6 <| .op <| .op <| .steps 2 <| .op <| .op <| .op <| .op <| .op <| .op <| .reg <| .steps 7 <| .done (some ⟨128,[],[(126,(126,true)),(127,(127,false))]⟩)) (.steps 3 <| .reg <| .steps 6 <| .op <| .op <| .steps 2 <| .op <| .op <| .op <| .op <| .op <| .op <| .reg <| .steps 15 <| .stop [0,1,4,12,13] (some ⟨128,[],[(126,(126,true)),(127,(127,false))]⟩)))) (.steps 13 <| .reg <| .steps 9 <| .bit 71 (.steps 2 <| .reg <| .steps 6 <| .op <| .op <| .steps 2 <| .op <| .op <| .op <| .op <| .op <| .op <| .reg <| .steps 7 <| .done (some ⟨128,[],[(126,(126,true)),(127,(127,false))]⟩)) (.steps 3 <| .reg <| .steps 6 <| .op <| .op <| .steps 2 <| .op <| .op <| .op <| .op <| .op <| .op <| .reg <| .steps 15 <| .stop [0,1,4,12,13] (some ⟨128,[],[(126,(126,true)),(127,(127,false))]⟩)))) (S1 f n cap c a b p i0 i1 d) (by kernel_rfl) h (by kernel_rfl)
theorem cut2{η:Nat→Value}{B:Bd}(hη:OneCells η)(hmix:prog.follows .mixedOrders=true)(hreg:RegOk η prog B noNest){D:Value→AH→Prop}(f:Nat)(n:Nat)(cap:Nat)(c:List Value)(a:Nat)(b:Nat)(p:Nat)(i0:Int)(i1:Int)(l0:List Value)(h:W.holds η prog B 81 (fun kp_ st_=>RunD η prog B 81 (H0 f n cap c a b p) kp_ st_ (QF prog 128 D)) D (.stop [0,1,4,12,13] (S3 f n cap c a b p (i1) (i0) (l0) (fun _=>undef)))):RunD η prog B 81 (H0 f n cap c a b p) [0,1,4,12,13] (S2 f n cap c a b p i0 i1 l0 fun _=>undef) (QF prog 128 D):=by
 refine RunD.intro (S2 f n cap c a b p i0 i1 l0) (fun d=>⟨rfl,rfl,rfl⟩) (fun d=>tmOk_get (by kernel_rfl)) (fun d=>by kernel_rfl) (fun d=>?_)
 exact walk_okT (h0:=H0 f n cap c a b p) hη hmix hreg (.steps 4 <| .stop [0,1,4,12,13] none) (S2 f n cap c a b p i0 i1 l0 d) (by kernel_rfl) h (by kernel_rfl)
theorem cut3{η:Nat→Value}{B:Bd}(hη:OneCells η)(hmix:prog.follows .mixedOrders=true)(hreg:RegOk η prog B noNest){D:Value→AH→Prop}(f:Nat)(n:Nat)(cap:Nat)(c:List Value)(a:Nat)(b:Nat)(p:Nat)(i0:Int)(i1:Int)(l0:List Value)(h:let q6:=(intAt l0 (0+(↑a:Int).toNat * 2+1));let q5:=(intAt l0 ((0:Nat)+i0.toNat * (2:Nat)));let q4:=(intAt l0 ((0:Nat)+(↑a:Int).toNat * (2:Nat)));let q3:=(intAt l0 ((0:Nat)+i0.toNat * (2:Nat)+(1:Nat)));let q2:=(intAt l0 ((0:Nat)+(↑a:Int).toNat * (2:Nat)+(1:Nat)));let q1:W:=(.need (NoNames l0∧True∧True) (.stop [0,1,4,12,13] (S4 f n cap c a b p (i1) (i0) (l0) (fun _=>undef))));let q0:AH:=⟨eE (eE (eE (eE (eE (eE (eE (lL (AObj.cells 74 [Value.func (Fn.func f) ⟨[]⟩ ⟨[]⟩,Value.chan none,Value.chan none,Value.chan none] true 0)) nZ) nZ) nZ) nZ) nZ) nZ) (eE nZ (eE nZ (eE nZ (eE nZ (eE nZ (lL (AObj.cells 52 l0 false 2))))))),144⟩;W.holds η prog B 81 (fun kp_ st_=>RunD η prog B 81 (H0 f n cap c a b p) kp_ st_ (QF prog 128 D)) D (.ite (decide (i0≤i1)) (.need ((0:Int)≤i0∧i0<(↑n:Int)) (.need ((0:Nat)+i0.toNat * (2:Nat)+(2:Nat)≤l0.length∧List.take (2:Nat) (List.drop ((0:Nat)+i0.toNat * (2:Nat)) l0)=[Value.int IntKind.i64 q5,Value.int IntKind.i64 q3]) (.need ((0:Int)≤(↑a:Int)∧(↑a:Int)<(↑n:Int)) (.need ((0:Nat)+(↑a:Int).toNat * (2:Nat)+(2:Nat)≤l0.length∧List.take (2:Nat) (List.drop ((0:Nat)+(↑a:Int).toNat * (2:Nat)) l0)=[Value.int IntKind.i64 q4,Value.int IntKind.i64 q2]) (.call 36 [Value.pointer (some ⟨127,0,none⟩),Value.agg ⟨[Value.int IntKind.i64 (intAt l0 (0+i0.toNat * 2)),Value.int IntKind.i64 (intAt l0 (0+i0.toNat * 2+1))]⟩,Value.agg ⟨[Value.int IntKind.i64 (intAt l0 (0+(↑a:Int).toNat * 2)),Value.int IntKind.i64 q6]⟩] (q0) (.ret (Value.int IntKind.i64 (HQ.cmpA f (intAt l0 (0+i0.toNat * 2)) (intAt l0 (0+i0.toNat * 2+1)) (intAt l0 (0+(↑a:Int).toNat * 2)) q6)) (q0)) (.ite (decide (HQ.cmpA f q5 q3 q4 q2<(0:Int))) (.need (NoNames l0∧True∧True) (.stop [0,1,4,12,13] (S3 f n cap c a b p (IntKind.i64.wrap (i0+1)) (i1) (l0) (fun _=>undef)))) q1)))))) q1)):RunD η prog B 81 (H0 f n cap c a b p) [0,1,4,12,13] (S3 f n cap c a b p i0 i1 l0 fun _=>undef) (QF prog 128 D):=by
 refine RunD.intro (S3 f n cap c a b p i0 i1 l0) (fun d=>⟨rfl,rfl,rfl⟩) (fun d=>tmOk_get (by kernel_rfl)) (fun d=>by kernel_rfl) (fun d=>?_)
 exact walk_okT (h0:=H0 f n cap c a b p) hη hmix hreg (.steps 2 <| .reg <| .steps 4 <| .bit 108 (.steps 3 <| .op <| .op <| .steps 2 <| .op <| .op <| .call kN <| .steps 2 <| .reg <| .bit 120 (.steps 10 <| .stop [0,1,4,12,13] (some ⟨128,[],[(126,(126,true)),(127,(127,false))]⟩)) (.steps 5 <| .stop [0,1,4,12,13] (some ⟨128,[],[(126,(126,true)),(127,(127,false))]⟩))) (.steps 12 <| .reg <| .steps 5 <| .stop [0,1,4,12,13] (some ⟨128,[],[(126,(126,true)),(127,(127,false))]⟩))) (S3 f n cap c a b p i0 i1 l0 d) (by kernel_rfl) h (by kernel_rfl)
theorem cut4{η:Nat→Value}{B:Bd}(hη:OneCells η)(hmix:prog.follows .mixedOrders=true)(hreg:RegOk η prog B noNest){D:Value→AH→Prop}(f:Nat)(n:Nat)(cap:Nat)(c:List Value)(a:Nat)(b:Nat)(p:Nat)(i0:Int)(i1:Int)(l0:List Value)(h:let q7:=(intAt l0 (0+(↑a:Int).toNat * 2+1));let q6:=(intAt l0 ((0:Nat)+i0.toNat * (2:Nat)));let q5:=(intAt l0 ((0:Nat)+(↑a:Int).toNat * (2:Nat)));let q4:=(intAt l0 ((0:Nat)+i0.toNat * (2:Nat)+(1:Nat)));let q3:=(intAt l0 ((0:Nat)+(↑a:Int).toNat * (2:Nat)+(1:Nat)));let q2:AH:=⟨eE (eE (eE (eE (eE (eE (eE (lL (AObj.cells 74 [Value.func (Fn.func f) ⟨[]⟩ ⟨[]⟩,Value.chan none,Value.chan none,Value.chan none] true 0)) nZ) nZ) nZ) nZ) nZ) nZ) (eE nZ (eE nZ (eE nZ (eE nZ (eE nZ (lL (AObj.cells 52 l0 false 2))))))),145⟩;let q1:W:=(.need ((0:Int)≤i0∧i0<(↑n:Int)) (.need ((0:Nat)+i0.toNat * (2:Nat)+(2:Nat)≤l0.length∧List.take (2:Nat) (List.drop ((0:Nat)+i0.toNat * (2:Nat)) l0)=[Value.int IntKind.i64 q6,Value.int IntKind.i64 q4]) (.need ((0:Int)≤i1∧i1<(↑n:Int)) (.need ((0:Nat)+i1.toNat * (2:Nat)+(2:Nat)≤l0.length∧List.take (2:Nat) (List.drop ((0:Nat)+i1.toNat * (2:Nat)) l0)=[Value.int IntKind.i64 (intAt l0 ((0:Nat)+i1.toNat * (2:Nat))),Value.int IntKind.i64 (intAt l0 ((0:Nat)+i1.toNat * (2:Nat)+(1:Nat)))]) (.need ((0:Int)≤i1∧i1<(↑n:Int)) (.need ((0:Nat)+i1.toNat * (2:Nat)+(2:Nat)≤l0.length) (.need ((0:Int)≤i0∧i0<(↑n:Int)) (.need ((0:Nat)+i0.toNat * (2:Nat)+(2:Nat)≤(splice l0 ((0:Nat)+i1.toNat * (2:Nat)) [Value.int IntKind.i64 q6,Value.int IntKind.i64 q4]).length) (.need (NoNames (splice (splice l0 ((0:Nat)+i1.toNat * (2:Nat)) [Value.int IntKind.i64 q6,Value.int IntKind.i64 q4]) ((0:Nat)+i0.toNat * (2:Nat)) [Value.int IntKind.i64 (intAt l0 ((0:Nat)+i1.toNat * (2:Nat))),Value.int IntKind.i64 (intAt l0 ((0:Nat)+i1.toNat * (2:Nat)+(1:Nat)))])∧True∧True) (.stop [0,1,4,12,13] (S2 f n cap c a b p (IntKind.i64.wrap (i0 - 1)) (IntKind.i64.wrap (i1+1)) (splice (splice l0 (0+i1.toNat * 2) [Value.int IntKind.i64 (intAt l0 (0+i0.toNat * 2)),Value.int IntKind.i64 (intAt l0 (0+i0.toNat * 2+1))]) (0+i0.toNat * 2) [Value.int IntKind.i64 (intAt l0 (0+i1.toNat * 2)),Value.int IntKind.i64 (intAt l0 (0+i1.toNat * 2+1))]) (fun _=>undef))))))))))));let q0:W:=(.need ((0:Int)≤(↑a:Int)∧(↑a:Int)<(↑n:Int)) (.need ((0:Nat)+(↑a:Int).toNat * (2:Nat)+(2:Nat)≤l0.length∧List.take (2:Nat) (List.drop ((0:Nat)+(↑a:Int).toNat * (2:Nat)) l0)=[Value.int IntKind.i64 q5,Value.int IntKind.i64 q3]) (.need ((0:Int)≤i0∧i0<(↑n:Int)) (.need ((0:Nat)+i0.toNat * (2:Nat)+(2:Nat)≤l0.length∧List.take (2:Nat) (List.drop ((0:Nat)+i0.toNat * (2:Nat)) l0)=[Value.int IntKind.i64 q6,Value.int IntKind.i64 q4]) (.need ((0:Int)≤i0∧i0<(↑n:Int)) (.need ((0:Nat)+i0.toNat * (2:Nat)+(2:Nat)≤l0.length) (.need ((0:Int)≤(↑a:Int)∧(↑a:Int)<(↑n:Int)) (.need ((0:Nat)+(↑a:Int).toNat * (2:Nat)+(2:Nat)≤(splice l0 ((0:Nat)+i0.toNat * (2:Nat)) [Value.int IntKind.i64 q5,Value.int IntKind.i64 q3]).length) (.need (NoNames (splice (splice l0 ((0:Nat)+i0.toNat * (2:Nat)) [Value.int IntKind.i64 q5,Value.int IntKind.i64 q3]) ((0:Nat)+(↑a:Int).toNat * (2:Nat)) [Value.int IntKind.i64 q6,Value.int IntKind.i64 q4])∧True∧True) (.done 81 (Value.tuple ⟨[Value.int IntKind.i64 i0,Value.bool false]⟩) (⟨eE (eE (eE (eE (eE (eE (eE (lL (AObj.cells 74 [Value.func (Fn.func f) ⟨[]⟩ ⟨[]⟩,Value.chan none,Value.chan none,Value.chan none] true 0)) nZ) nZ) nZ) nZ) nZ) nZ) (eE nZ (eE nZ (eE nZ (eE nZ (eE nZ (lL (AObj.cells 52 (splice (splice l0 (0+i0.toNat * 2) [iI (intAt l0 (0+(↑a:Int).toNat * 2)),iI q7]) (0+(↑a:Int).toNat * 2) [iI (intAt l0 (0+i0.toNat * 2)),iI (intAt l0 (0+i0.toNat * 2+1))]) false 2))))))),128⟩)))))))))));W.holds η prog B 81 (fun kp_ st_=>RunD η prog B 81 (H0 f n cap c a b p) kp_ st_ (QF prog 128 D)) D (.ite (decide (i1≤i0)) (.need ((0:Int)≤i0∧i0<(↑n:Int)) (.need ((0:Nat)+i0.toNat * (2:Nat)+(2:Nat)≤l0.length∧List.take (2:Nat) (List.drop ((0:Nat)+i0.toNat * (2:Nat)) l0)=[Value.int IntKind.i64 q6,Value.int IntKind.i64 q4]) (.need ((0:Int)≤(↑a:Int)∧(↑a:Int)<(↑n:Int)) (.need ((0:Nat)+(↑a:Int).toNat * (2:Nat)+(2:Nat)≤l0.length∧List.take (2:Nat) (List.drop ((0:Nat)+(↑a:Int).toNat * (2:Nat)) l0)=[Value.int IntKind.i64 q5,Value.int IntKind.i64 q3]) (.call 36 [Value.pointer (some ⟨127,0,none⟩),Value.agg ⟨[Value.int IntKind.i64 (intAt l0 (0+i0.toNat * 2)),Value.int IntKind.i64 (intAt l0 (0+i0.toNat * 2+1))]⟩,Value.agg ⟨[Value.int IntKind.i64 (intAt l0 (0+(↑a:Int).toNat * 2)),Value.int IntKind.i64 q7]⟩] (q2) (.ret (Value.int IntKind.i64 (HQ.cmpA f (intAt l0 (0+i0.toNat * 2)) (intAt l0 (0+i0.toNat * 2+1)) (intAt l0 (0+(↑a:Int).toNat * 2)) q7)) (q2)) (.ite (!decide (HQ.cmpA f q6 q4 q5 q3<(0:Int))) (.need (NoNames l0∧True∧True) (.stop [0,1,4,12,13] (S4 f n cap c a b p (IntKind.i64.wrap (i0 - 1)) (i1) (l0) (fun _=>undef)))) (.ite (decide (i1 > i0)) q0 q1))))))) (.ite (decide (i1 > i0)) q0 q1))):RunD η prog B 81 (H0 f n cap c a b p) [0,1,4,12,13] (S4 f n cap c a b p i0 i1 l0 fun _=>undef) (QF prog 128 D):=by
 refine RunD.intro (S4 f n cap c a b p i0 i1 l0) (fun d=>⟨rfl,rfl,rfl⟩) (fun d=>tmOk_get (by kernel_rfl)) (fun d=>by kernel_rfl) (fun d=>?_)
 exact walk_okT (h0:=H0 f n cap c a b p) hη hmix hreg (.steps 2 <| .reg <| .steps 4 <| .bit 126 (.steps 3 <| .op <| .op <| .steps 2 <| .op <| .op <| .call kN <| .steps 3 <| .reg <| .bit 139 (.steps 10 <| .stop [0,1,4,12,13] (some ⟨128,[],[(126,(126,true)),(127,(127,false))]⟩)) (.steps 9 <| .bit 144 (.steps 3 <| .reg <| .steps 6 <| .op <| .op <| .steps 2 <| .op <| .op <| .op <| .op <| .op <| .op <| .reg <| .steps 7 <| .done (some ⟨128,[],[(126,(126,true)),(127,(127,false))]⟩)) (.steps 3 <| .reg <| .steps 6 <| .op <| .op <| .steps 2 <| .op <| .op <| .op <| .op <| .op <| .op <| .reg <| .steps 13 <| .stop [0,1,4,12,13] (some ⟨128,[],[(126,(126,true)),(127,(127,false))]⟩)))) (.steps 13 <| .reg <| .steps 9 <| .bit 144 (.steps 3 <| .reg <| .steps 6 <| .op <| .op <| .steps 2 <| .op <| .op <| .op <| .op <| .op <| .op <| .reg <| .steps 7 <| .done (some ⟨128,[],[(126,(126,true)),(127,(127,false))]⟩)) (.steps 3 <| .reg <| .steps 6 <| .op <| .op <| .steps 2 <| .op <| .op <| .op <| .op <| .op <| .op <| .reg <| .steps 13 <| .stop [0,1,4,12,13] (some ⟨128,[],[(126,(126,true)),(127,(127,false))]⟩)))) (S4 f n cap c a b p i0 i1 l0 d) (by kernel_rfl) h (by kernel_rfl)
end KPart
end Go.Ev

/- Sorting items: partition. -/
namespace Go.Ev
open Go Go.Proofs Go.RowKit
variable {η:Nat→Value} {B:Bd}
namespace HQ
abbrev RPa(η:Nat→Value)(B:Bd)(f n cap:Nat)(d:A2)(a b p:Nat)(R:Nat × Bool × A2)(keep:List Nat)(S:(Nat→Value)→AS):Prop:=
 RunD η Try.prog B 81 (KPart.H0 f n cap (aC d) a b p) keep (S fun _=>undef) (QF Try.prog 128 (KT.ret (tupL [iv R.1,.bool R.2.1]) (heapS f (aC R.2.2))).sat)
set_option maxHeartbeats 8000000 in
theorem part_ok(hη:OneCells η)(hmix:Try.prog.follows .mixedOrders=true){f n cap:Nat}{d:A2}{a b p:Nat}(hf:isOrd f)(hp:a≤p)(hpb:p<b)(hb:b≤n)(hn:n≤d.size)(hm:d.size≤1000000) :
  CallSpec η Try.prog B 81 (sArgs n cap [.int .i64 (a:Int),.int .i64 (b:Int),.int .i64 (p:Int)]) (heapS f (aC d)) (KT.ret (tupL [iv (Sort.partition (ltA f) d a b p).1,.bool (Sort.partition (ltA f) d a b p).2.1]) (heapS f (aC (Sort.partition (ltA f) d a b p).2.2))).sat:=by
 generalize hR:Sort.partition (ltA f) d a b p=R
 have cut0:=fun i0=>KPart.cut0 (η:=η) (B:=B) (D:=(KT.ret (tupL [iv R.1,.bool R.2.1]) (heapS f (aC R.2.2))).sat) hη hmix (reg0 hη hmix) f n cap (aC d) a b p i0
 have cut1:=fun i0 i1=>KPart.cut1 (η:=η) (B:=B) (D:=(KT.ret (tupL [iv R.1,.bool R.2.1]) (heapS f (aC R.2.2))).sat) hη hmix (reg0 hη hmix) f n cap (aC d) a b p i0 i1
 have cut2:=fun i0 i1 l0=>KPart.cut2 (η:=η) (B:=B) (D:=(KT.ret (tupL [iv R.1,.bool R.2.1]) (heapS f (aC R.2.2))).sat) hη hmix (reg0 hη hmix) f n cap (aC d) a b p i0 i1 l0
 have cut3:=fun i0 i1 l0=>KPart.cut3 (η:=η) (B:=B) (D:=(KT.ret (tupL [iv R.1,.bool R.2.1]) (heapS f (aC R.2.2))).sat) hη hmix (reg0 hη hmix) f n cap (aC d) a b p i0 i1 l0
 have cut4:=fun i0 i1 l0=>KPart.cut4 (η:=η) (B:=B) (D:=(KT.ret (tupL [iv R.1,.bool R.2.1]) (heapS f (aC R.2.2))).sat) hη hmix (reg0 hη hmix) f n cap (aC d) a b p i0 i1 l0
 have loop:∀ (k i j:Nat) (t:A2),j+1 - i<k→a<i→i≤j+2→j<b→t.size=d.size→((Sort.partLoop (ltA f) a i j t).1,false,Sort.swp (Sort.partLoop (ltA f) a i j t).2 (Sort.partLoop (ltA f) a i j t).1 a)=R→RPa η B f n cap d a b p R [0,1,4,12,13] (KPart.S2 f n cap (aC d) a b p (j:Int) (i:Int) (aC t)):=by
  intro k
  induction k with
  | zero=>intro i j t h;omega
  | succ k ihk=>
   intro i j t hk hai hij hjb ht he
   have hA:a<t.size:=by omega
   obtain⟨c1,c2⟩:=aC_int hA
   let tl:Nat→Nat→Nat × A2:=fun i2 j2=>if i2 > j2 then(j2,t) else if h:(j2 - 1)+1 - (i2+1)<j+1 - i then Sort.partLoop (ltA f) a (i2+1) (j2 - 1) (Sort.swp t i2 j2) else(j2,t)
   have hl:Sort.partLoop (ltA f) a i j t=tl (Sort.scanUp (fun x=>ltA f x t[a]!) t j i) (Sort.scanDown (fun x=>!ltA f x t[a]!) t (Sort.scanUp (fun x=>ltA f x t[a]!) t j i) j):=by rw [Sort.partLoop]
   let tail:Nat→Nat→Nat × Bool × A2:=fun i2 j2=>((tl i2 j2).1,false,Sort.swp (tl i2 j2).2 (tl i2 j2).1 a)
   rw [hl] at he
   have he:tail (Sort.scanUp (fun x=>ltA f x t[a]!) t j i) (Sort.scanDown (fun x=>!ltA f x t[a]!) t (Sort.scanUp (fun x=>ltA f x t[a]!) t j i) j)=R:=he
   have stop:∀ {i2 j2:Nat},i2 > j2→tail i2 j2=R→R=(j2,false,Sort.swp t j2 a):=fun {i2 j2} h e=>by
    have e3:tl i2 j2=(j2,t):=if_pos h
    rw [← e]
    show((tl i2 j2).1,false,Sort.swp (tl i2 j2).2 (tl i2 j2).1 a)=_
    rw [e3]
   have next:∀ {i2 j2:Nat},i≤i2→j2≤j→¬ i2 > j2→tail i2 j2=R→RPa η B f n cap d a b p R [0,1,4,12,13] (KPart.S2 f n cap (aC d) a b p ((j2 - 1:Nat):Int) ((i2+1:Nat):Int) (aC (Sort.swp t i2 j2))):=fun {i2 j2} h1 h2 h3 e=>by
    have e3:tl i2 j2=Sort.partLoop (ltA f) a (i2+1) (j2 - 1) (Sort.swp t i2 j2):=by
     show(if i2 > j2 then(j2,t) else if h:(j2 - 1)+1 - (i2+1)<j+1 - i then Sort.partLoop (ltA f) a (i2+1) (j2 - 1) (Sort.swp t i2 j2) else(j2,t))=_
     rw [if_neg h3,dif_pos (by omega)]
    have e:((tl i2 j2).1,false,Sort.swp (tl i2 j2).2 (tl i2 j2).1 a)=R:=e
    rw [e3] at e
    exact ihk (i2+1) (j2 - 1) _ (by omega) (by omega) (by omega) (by omega) (by rw [Sort.size_swp];exact ht) e
   have dn:∀ (j' i2:Nat),i≤i2→i2≤j+2→i2≤j'+2→j'≤j→tail i2 (Sort.scanDown (fun x=>!ltA f x t[a]!) t i2 j')=R→RPa η B f n cap d a b p R [0,1,4,12,13] (KPart.S4 f n cap (aC d) a b p (j':Int) (i2:Int) (aC t)):=by
    intro j'
    induction j' with
    | zero=>
     intro i2 h1 h2 h3 h4 e
     have e:=stop (show i2 > 0 by omega) e
     subst e
     have hJ:0<t.size:=by omega
     obtain⟨a1,a2⟩:=aC_int hJ
     have p1:=fun x y=>aC_put (d:=t) (k:=0) hJ x y
     have p2:=fun q x y=>aC_put (d:=t.setIfInBounds 0 q) (k:=a) (by simpa using hA) x y
     refine cut4 _ _ _ ?_
     simp only [W.holds,le_nat,gt_nat,decide_eq_true_eq,decide_eq_false_iff_not,Int.toNat_natCast,Nat.zero_add,Nat.add_zero,a1,a2,c1,c2,aC_cut hJ,aC_cut hA,p1,p2,aC_len,aC_nn,Array.size_setIfInBounds,true_and,and_true,true_implies]
     refine⟨fun q=>by omega,fun _=>⟨fun _=>?_,fun q=>by omega⟩⟩
     repeat' first | exact⟨rfl,by kernel_rfl⟩ | refine⟨by omega,fun _=>?_⟩
    | succ j' ihj=>
     intro i2 h1 h2 h3 h4 e
     have hJ:j'+1<t.size:=by omega
     obtain⟨a1,a2⟩:=aC_int hJ
     refine cut4 _ _ _ ?_
     by_cases q:i2≤j'+1
     ·have hI:i2<t.size:=by omega
      obtain⟨b1,b2⟩:=aC_int hI
      have p1:=fun x y=>aC_put (d:=t) (k:=i2) hI x y
      have p2:=fun p x y=>aC_put (d:=t.setIfInBounds i2 p) (k:=j'+1) (by simpa using hJ) x y
      have go:ltA f t[j'+1]! t[a]! = false→RPa η B f n cap d a b p R [0,1,4,12,13] (KPart.S4 f n cap (aC d) a b p (j':Int) (i2:Int) (aC t)):=fun e1=>by
       have e2:Sort.scanDown (fun x=>!ltA f x t[a]!) t i2 (j'+1)=Sort.scanDown (fun x=>!ltA f x t[a]!) t i2 j':=if_pos (by dsimp only;rw [e1,decide_eq_true q];rfl)
       rw [e2] at e
       exact ihj i2 h1 h2 (by omega) (by omega) e
      have st:ltA f t[j'+1]! t[a]! = true→tail i2 (j'+1)=R:=fun e1=>by
       have e2:Sort.scanDown (fun x=>!ltA f x t[a]!) t i2 (j'+1)=j'+1:=if_neg (by dsimp only;rw [e1];simp)
       rw [e2] at e
       exact e
      simp only [W.holds,le_nat,gt_nat,wm (j'+1) (by omega) (by omega),Nat.add_sub_cancel,wp i2 (by omega),Bool.not_eq_true',Bool.not_eq_false',decide_eq_true_eq,decide_eq_false_iff_not,Int.toNat_natCast,Nat.zero_add,Nat.add_zero,a1,a2,b1,b2,c1,c2,aC_cut hJ,aC_cut hI,aC_cut hA,p1,p2,aC_len,aC_nn,Array.size_setIfInBounds,true_and,and_true,true_implies]
      refine⟨fun _=>?_,fun q2=>absurd q q2⟩
      repeat' first
       | exact cmp_at hη hmix hf (l:=aC t) (by kernel_rfl) _ _ _ _
       | exact go (decide_eq_false (by assumption))
       | (exfalso;omega)
       | exact next (j2:=j'+1) h1 h4 (by assumption) (st (decide_eq_true (by assumption)))
       | refine⟨by omega,fun _=>?_⟩
       | refine⟨?_,fun _=>?_,fun _=>?_⟩
       | refine⟨fun _=>?_,fun _=>?_⟩
     ·have e2:Sort.scanDown (fun x=>!ltA f x t[a]!) t i2 (j'+1)=j'+1:=if_neg (by simp;omega)
      rw [e2] at e
      have e:=stop (show i2 > j'+1 by omega) e
      subst e
      have p1:=fun x y=>aC_put (d:=t) (k:=j'+1) hJ x y
      have p2:=fun q x y=>aC_put (d:=t.setIfInBounds (j'+1) q) (k:=a) (by simpa using hA) x y
      simp only [W.holds,le_nat,gt_nat,decide_eq_true_eq,decide_eq_false_iff_not,Int.toNat_natCast,Nat.zero_add,Nat.add_zero,a1,a2,c1,c2,aC_cut hJ,aC_cut hA,p1,p2,aC_len,aC_nn,Array.size_setIfInBounds,true_and,and_true,true_implies]
      refine⟨fun q2=>absurd q2 q,fun _=>⟨fun _=>?_,fun q=>by omega⟩⟩
      repeat' first | exact⟨rfl,by kernel_rfl⟩ | refine⟨by omega,fun _=>?_⟩
   have up:∀ (k i':Nat),j+1 - i'<k→i≤i'→i'≤j+2→tail (Sort.scanUp (fun x=>ltA f x t[a]!) t j i') (Sort.scanDown (fun x=>!ltA f x t[a]!) t (Sort.scanUp (fun x=>ltA f x t[a]!) t j i') j)=R→RPa η B f n cap d a b p R [0,1,4,12,13] (KPart.S3 f n cap (aC d) a b p (i':Int) (j:Int) (aC t)):=by
    intro k
    induction k with
    | zero=>intro i' h;omega
    | succ k ihk=>
     intro i' hk h1 h2 e
     have su1:i'≤j→ltA f t[i']! t[a]! = true→Sort.scanUp (fun x=>ltA f x t[a]!) t j i'=Sort.scanUp (fun x=>ltA f x t[a]!) t j (i'+1):=fun h e1=>by
      rw [Sort.scanUp,if_pos (by rw [e1,decide_eq_true h];rfl)]
     have su2:ltA f t[i']! t[a]! = false→Sort.scanUp (fun x=>ltA f x t[a]!) t j i'=i':=fun e1=>by
      rw [Sort.scanUp,if_neg (by rw [e1];simp)]
     have su3:¬ i'≤j→Sort.scanUp (fun x=>ltA f x t[a]!) t j i'=i':=fun h=>by
      rw [Sort.scanUp,if_neg (by simp;omega)]
     refine cut3 _ _ _ ?_
     by_cases q:i'≤j
     ·have hI:i'<t.size:=by omega
      obtain⟨b1,b2⟩:=aC_int hI
      have go:ltA f t[i']! t[a]! = true→RPa η B f n cap d a b p R [0,1,4,12,13] (KPart.S3 f n cap (aC d) a b p ((i'+1:Nat):Int) (j:Int) (aC t)):=fun e1=>by
       rw [su1 q e1] at e
       exact ihk (i'+1) (by omega) (by omega) (by omega) e
      have st:ltA f t[i']! t[a]! = false→RPa η B f n cap d a b p R [0,1,4,12,13] (KPart.S4 f n cap (aC d) a b p (j:Int) (i':Int) (aC t)):=fun e1=>by
       rw [su2 e1] at e
       exact dn j i' h1 h2 h2 (Nat.le_refl _) e
      simp only [W.holds,le_nat,wp i' (by omega),Bool.not_eq_true',Bool.not_eq_false',decide_eq_true_eq,decide_eq_false_iff_not,Int.toNat_natCast,Nat.zero_add,Nat.add_zero,b1,b2,c1,c2,aC_cut hI,aC_cut hA,aC_len,aC_nn,true_and,and_true,true_implies]
      refine⟨fun _=>?_,fun q2=>absurd q q2⟩
      repeat' first
       | exact cmp_at hη hmix hf (l:=aC t) (by kernel_rfl) _ _ _ _
       | exact go (decide_eq_true (by assumption))
       | exact st (decide_eq_false (by assumption))
       | refine⟨by omega,fun _=>?_⟩
       | refine⟨?_,fun _=>?_,fun _=>?_⟩
     ·rw [su3 q] at e
      have nx:=dn j i' h1 h2 h2 (Nat.le_refl _) e
      simp only [W.holds,le_nat,Int.toNat_natCast,Nat.zero_add,Nat.add_zero,decide_eq_true_eq,decide_eq_false_iff_not,aC_nn,true_and,and_true,true_implies]
      exact⟨fun q2=>absurd q2 q,fun _=>nx⟩
   refine cut2 _ _ _ ?_
   simp only [W.holds,aC_nn,true_and,and_true,true_implies]
   exact up (j+2) i (by omega) (Nat.le_refl _) hij he
 have hA0:a<d.size:=by omega
 have hP:p<d.size:=by omega
 obtain⟨x1,x2⟩:=aC_int hA0
 obtain⟨y1,y2⟩:=aC_int hP
 have q1:=fun x y=>aC_put (d:=d) (k:=a) hA0 x y
 have q2:=fun q x y=>aC_put (d:=d.setIfInBounds a q) (k:=p) (by simpa using hP) x y
 have sw:aC ((d.setIfInBounds a ((d[p]!).1,(d[p]!).2)).setIfInBounds p ((d[a]!).1,(d[a]!).2))=aC (Sort.swp d a p):=rfl
 have sz:((d.setIfInBounds a ((d[p]!).1,(d[p]!).2)).setIfInBounds p ((d[a]!).1,(d[a]!).2)).size=d.size:=by simp
 generalize ht0:Sort.swp d a p=t at sw
 have ht:t.size=d.size:=by rw [← ht0,Sort.size_swp]
 have hA:a<t.size:=by omega
 obtain⟨c1,c2⟩:=aC_int hA
 have wj:IntKind.i64.wrap ((b:Int) - 1)=((b - 1:Nat):Int):=wm b (by omega) (by omega)
 let tail:Nat→Nat→Nat × Bool × A2:=fun i2 j2=>if i2 > j2 then(j2,true,Sort.swp t j2 a) else((Sort.partLoop (ltA f) a (i2+1) (j2 - 1) (Sort.swp t i2 j2)).1,false,Sort.swp (Sort.partLoop (ltA f) a (i2+1) (j2 - 1) (Sort.swp t i2 j2)).2 (Sort.partLoop (ltA f) a (i2+1) (j2 - 1) (Sort.swp t i2 j2)).1 a)
 generalize hj:b - 1=j at wj
 generalize hi:a+1=i
 have he:tail (Sort.scanUp (fun x=>ltA f x t[a]!) t j i) (Sort.scanDown (fun x=>!ltA f x t[a]!) t (Sort.scanUp (fun x=>ltA f x t[a]!) t j i) j)=R:=by
  rw [← hR,← hj,← hi]
  unfold Sort.partition
  simp only [ht0]
  rfl
 have stop:∀ {i2 j2:Nat},i2 > j2→tail i2 j2=R→R=(j2,true,Sort.swp t j2 a):=fun {i2 j2} h e=>by
  rw [← e];exact if_pos h
 have next:∀ {i2 j2:Nat},i≤i2→j2≤j→¬ i2 > j2→tail i2 j2=R→RPa η B f n cap d a b p R [0,1,4,12,13] (KPart.S2 f n cap (aC d) a b p ((j2 - 1:Nat):Int) ((i2+1:Nat):Int) (aC (Sort.swp t i2 j2))):=fun {i2 j2} h1 h2 h3 e=>by
  have e:(if i2 > j2 then(j2,true,Sort.swp t j2 a) else((Sort.partLoop (ltA f) a (i2+1) (j2 - 1) (Sort.swp t i2 j2)).1,false,Sort.swp (Sort.partLoop (ltA f) a (i2+1) (j2 - 1) (Sort.swp t i2 j2)).2 (Sort.partLoop (ltA f) a (i2+1) (j2 - 1) (Sort.swp t i2 j2)).1 a))=R:=e
  rw [if_neg h3] at e
  exact loop (b+2) (i2+1) (j2 - 1) _ (by omega) (by omega) (by omega) (by omega) (by rw [Sort.size_swp];exact ht) e
 have dn:∀ (j' i2:Nat),i≤i2→i2≤j+2→i2≤j'+2→j'≤j→tail i2 (Sort.scanDown (fun x=>!ltA f x t[a]!) t i2 j')=R→RPa η B f n cap d a b p R [0,1,4,12,13] (KPart.S1 f n cap (aC d) a b p (j':Int) (i2:Int)):=by
  intro j'
  induction j' with
  | zero=>
   intro i2 h1 h2 h3 h4 e
   have e:=stop (show i2 > 0 by omega) e
   subst e
   have hJ:0<t.size:=by omega
   obtain⟨a1,a2⟩:=aC_int hJ
   have p1:=fun x y=>aC_put (d:=t) (k:=0) hJ x y
   have p2:=fun q x y=>aC_put (d:=t.setIfInBounds 0 q) (k:=a) (by simpa using hA) x y
   refine cut1 _ _ ?_
   simp only [W.holds,le_nat,gt_nat,x1,x2,y1,y2,aC_cut hA0,aC_cut hP,q1,q2,sw,sz,wj,decide_eq_true_eq,decide_eq_false_iff_not,Int.toNat_natCast,Nat.zero_add,Nat.add_zero,a1,a2,c1,c2,aC_cut hJ,aC_cut hA,p1,p2,aC_len,aC_nn,Array.size_setIfInBounds,true_and,and_true,true_implies]
   refine⟨fun q=>by omega,fun _=>⟨fun _=>?_,fun q=>by omega⟩⟩
   repeat' first | exact⟨rfl,by kernel_rfl⟩ | refine⟨by omega,fun _=>?_⟩
  | succ j' ihj=>
   intro i2 h1 h2 h3 h4 e
   have hJ:j'+1<t.size:=by omega
   obtain⟨a1,a2⟩:=aC_int hJ
   refine cut1 _ _ ?_
   by_cases q:i2≤j'+1
   ·have hI:i2<t.size:=by omega
    obtain⟨b1,b2⟩:=aC_int hI
    have p1:=fun x y=>aC_put (d:=t) (k:=i2) hI x y
    have p2:=fun p x y=>aC_put (d:=t.setIfInBounds i2 p) (k:=j'+1) (by simpa using hJ) x y
    have go:ltA f t[j'+1]! t[a]! = false→RPa η B f n cap d a b p R [0,1,4,12,13] (KPart.S1 f n cap (aC d) a b p (j':Int) (i2:Int)):=fun e1=>by
     have e2:Sort.scanDown (fun x=>!ltA f x t[a]!) t i2 (j'+1)=Sort.scanDown (fun x=>!ltA f x t[a]!) t i2 j':=if_pos (by dsimp only;rw [e1,decide_eq_true q];rfl)
     rw [e2] at e
     exact ihj i2 h1 h2 (by omega) (by omega) e
    have st:ltA f t[j'+1]! t[a]! = true→tail i2 (j'+1)=R:=fun e1=>by
     have e2:Sort.scanDown (fun x=>!ltA f x t[a]!) t i2 (j'+1)=j'+1:=if_neg (by dsimp only;rw [e1];simp)
     rw [e2] at e
     exact e
    simp only [W.holds,le_nat,gt_nat,x1,x2,y1,y2,aC_cut hA0,aC_cut hP,q1,q2,sw,sz,wj,wm (j'+1) (by omega) (by omega),Nat.add_sub_cancel,wp i2 (by omega),Bool.not_eq_true',Bool.not_eq_false',decide_eq_true_eq,decide_eq_false_iff_not,Int.toNat_natCast,Nat.zero_add,Nat.add_zero,a1,a2,b1,b2,c1,c2,aC_cut hJ,aC_cut hI,aC_cut hA,p1,p2,aC_len,aC_nn,Array.size_setIfInBounds,true_and,and_true,true_implies]
    refine⟨fun _=>?_,fun q2=>absurd q q2⟩
    repeat' first
     | exact cmp_at hη hmix hf (l:=aC t) (by kernel_rfl) _ _ _ _
     | exact go (decide_eq_false (by assumption))
     | (exfalso;omega)
     | exact next (j2:=j'+1) h1 h4 (by assumption) (st (decide_eq_true (by assumption)))
     | refine⟨by omega,fun _=>?_⟩
     | refine⟨?_,fun _=>?_,fun _=>?_⟩
     | refine⟨fun _=>?_,fun _=>?_⟩
   ·have e2:Sort.scanDown (fun x=>!ltA f x t[a]!) t i2 (j'+1)=j'+1:=if_neg (by simp;omega)
    rw [e2] at e
    have e:=stop (show i2 > j'+1 by omega) e
    subst e
    have p1:=fun x y=>aC_put (d:=t) (k:=j'+1) hJ x y
    have p2:=fun q x y=>aC_put (d:=t.setIfInBounds (j'+1) q) (k:=a) (by simpa using hA) x y
    simp only [W.holds,le_nat,gt_nat,x1,x2,y1,y2,aC_cut hA0,aC_cut hP,q1,q2,sw,sz,wj,decide_eq_true_eq,decide_eq_false_iff_not,Int.toNat_natCast,Nat.zero_add,Nat.add_zero,a1,a2,c1,c2,aC_cut hJ,aC_cut hA,p1,p2,aC_len,aC_nn,Array.size_setIfInBounds,true_and,and_true,true_implies]
    refine⟨fun q2=>absurd q2 q,fun _=>⟨fun _=>?_,fun q=>by omega⟩⟩
    repeat' first | exact⟨rfl,by kernel_rfl⟩ | refine⟨by omega,fun _=>?_⟩
 have up:∀ (k i':Nat),j+1 - i'<k→i≤i'→i'≤j+2→tail (Sort.scanUp (fun x=>ltA f x t[a]!) t j i') (Sort.scanDown (fun x=>!ltA f x t[a]!) t (Sort.scanUp (fun x=>ltA f x t[a]!) t j i') j)=R→RPa η B f n cap d a b p R [0,1,4,12,13] (KPart.S0 f n cap (aC d) a b p (i':Int)):=by
  intro k
  induction k with
  | zero=>intro i' h;omega
  | succ k ihk=>
   intro i' hk h1 h2 e
   have su1:i'≤j→ltA f t[i']! t[a]! = true→Sort.scanUp (fun x=>ltA f x t[a]!) t j i'=Sort.scanUp (fun x=>ltA f x t[a]!) t j (i'+1):=fun h e1=>by
    rw [Sort.scanUp,if_pos (by rw [e1,decide_eq_true h];rfl)]
   have su2:ltA f t[i']! t[a]! = false→Sort.scanUp (fun x=>ltA f x t[a]!) t j i'=i':=fun e1=>by
    rw [Sort.scanUp,if_neg (by rw [e1];simp)]
   have su3:¬ i'≤j→Sort.scanUp (fun x=>ltA f x t[a]!) t j i'=i':=fun h=>by
    rw [Sort.scanUp,if_neg (by simp;omega)]
   refine cut0 _ ?_
   by_cases q:i'≤j
   ·have hI:i'<t.size:=by omega
    obtain⟨b1,b2⟩:=aC_int hI
    have go:ltA f t[i']! t[a]! = true→RPa η B f n cap d a b p R [0,1,4,12,13] (KPart.S0 f n cap (aC d) a b p ((i'+1:Nat):Int)):=fun e1=>by
     rw [su1 q e1] at e
     exact ihk (i'+1) (by omega) (by omega) (by omega) e
    have st:ltA f t[i']! t[a]! = false→RPa η B f n cap d a b p R [0,1,4,12,13] (KPart.S1 f n cap (aC d) a b p (j:Int) (i':Int)):=fun e1=>by
     rw [su2 e1] at e
     exact dn j i' h1 h2 h2 (Nat.le_refl _) e
    simp only [W.holds,le_nat,x1,x2,y1,y2,aC_cut hA0,aC_cut hP,q1,q2,sw,sz,wj,wp i' (by omega),Bool.not_eq_true',Bool.not_eq_false',decide_eq_true_eq,decide_eq_false_iff_not,Int.toNat_natCast,Nat.zero_add,Nat.add_zero,b1,b2,c1,c2,aC_cut hI,aC_cut hA,aC_len,aC_nn,true_and,and_true,true_implies]
    refine⟨fun _=>?_,fun q2=>absurd q q2⟩
    repeat' first
     | exact cmp_at hη hmix hf (l:=aC t) (by kernel_rfl) _ _ _ _
     | exact go (decide_eq_true (by assumption))
     | exact st (decide_eq_false (by assumption))
     | refine⟨by omega,fun _=>?_⟩
     | refine⟨?_,fun _=>?_,fun _=>?_⟩
   ·rw [su3 q] at e
    have nx:=dn j i' h1 h2 h2 (Nat.le_refl _) e
    simp only [W.holds,le_nat,x1,x2,y1,y2,aC_cut hA0,aC_cut hP,q1,q2,sw,sz,wj,Int.toNat_natCast,Nat.zero_add,Nat.add_zero,decide_eq_true_eq,decide_eq_false_iff_not,aC_nn,true_and,and_true,true_implies]
    exact⟨fun q2=>absurd q2 q,fun _=>nx⟩
 refine KPart.enter hη hmix (reg0 hη hmix) _ _ _ _ _ _ _ ?_
 have nx:=up (b+2) i (by omega) (Nat.le_refl _) (by omega) he
 rw [← hi] at nx
 simp only [W.holds,x1,x2,y1,y2,aC_cut hA0,aC_cut hP,q1,q2,sw,sz,wp a (by omega),Int.toNat_natCast,Nat.zero_add,Nat.add_zero,aC_len,aC_nn,Array.size_setIfInBounds,true_and,and_true,true_implies]
 repeat' first
  | exact nx
  | refine⟨by omega,fun _=>?_⟩
end HQ
end Go.Ev

namespace Go.Ev
open Go Go.Proofs
open Go.Ev.T renaming node → nN, nil → nZ
open Go.Proofs.Try (prog)
set_option maxRecDepth 100000
set_option maxHeartbeats 2000000
namespace KPdq
noncomputable def bd:Code:=(Go.Proofs.Try.f62.body).getD .skip
noncomputable def H0(f:Nat)(n:Nat)(cap:Nat)(c:List Value)(a:Nat)(b:Nat)(m:Nat):AH:={ objs:=eE (eE (eE (eE (eE (eE (eE (lL (AObj.cells 74 [Value.func (Fn.func f) ⟨[]⟩ ⟨[]⟩,Value.chan none,Value.chan none,Value.chan none] true 0)) nZ) nZ) nZ) nZ) nZ) nZ) (eE nZ (eE nZ (eE nZ (eE nZ (eE nZ (lL (AObj.cells 52 c false 2))))))),next:=128 }
noncomputable def E(f:Nat)(n:Nat)(cap:Nat)(c:List Value)(a:Nat)(b:Nat)(m:Nat):AS:=⟨⟨62,148,nS (sS 126 0 n cap) (nS (iI (↑a:Int)) (lL (iI (↑m:Int))) nZ) (nS (iI (↑b:Int)) (lL (Value.func (Fn.func 36) ⟨[pP 127 0]⟩ ⟨[]⟩)) nZ),[Item.code (codeAt bd [])],[],FrameMode.run,CallKind.normal,none⟩,[],H0 f n cap c a b m⟩
noncomputable def S0(f:Nat)(n:Nat)(cap:Nat)(c:List Value)(a:Nat)(b:Nat)(m:Nat)(i0:Int)(l0:List Value)(b0:Bool)(b1:Bool)(i1:Int)(i2:Int)(d:Nat→Value):AS:=⟨⟨62,148,nS (sS 126 0 n cap) (nS (iI i0) (nS (iI i2) (nS (d 7) (nS (d 15) (nS (d 31) (nS (d 63) (lL (d 127)) nZ) (lL (d 95))) (nS (d 47) (nS (d 79) (lL (d 143)) nZ) (lL (d 111)))) (nS (d 23) (nS (d 39) (nS (d 71) (lL (d 135)) nZ) (lL (d 103))) (nS (d 55) (lL (d 87)) (lL (d 119))))) (nS (Value.bool b0) (nS (d 19) (nS (d 35) (nS (d 67) (lL (d 131)) nZ) (lL (d 99))) (nS (d 51) (nS (d 83) (lL (d 147)) nZ) (lL (d 115)))) (nS (d 27) (nS (d 43) (nS (d 75) (lL (d 139)) nZ) (lL (d 107))) (nS (d 59) (lL (d 91)) (lL (d 123)))))) (nS (d 5) (nS (d 9) (nS (d 17) (nS (d 33) (nS (d 65) (lL (d 129)) nZ) (lL (d 97))) (nS (d 49) (nS (d 81) (lL (d 145)) nZ) (lL (d 113)))) (nS (d 25) (nS (d 41) (nS (d 73) (lL (d 137)) nZ) (lL (d 105))) (nS (d 57) (lL (d 89)) (lL (d 121))))) (nS (d 13) (nS (d 21) (nS (d 37) (nS (d 69) (lL (d 133)) nZ) (lL (d 101))) (nS (d 53) (lL (d 85)) (lL (d 117)))) (nS (d 29) (nS (d 45) (nS (d 77) (lL (d 141)) nZ) (lL (d 109))) (nS (d 61) (lL (d 93)) (lL (d 125))))))) (nS (iI i1) (nS (Value.func (Fn.func 36) ⟨[pP 127 0]⟩ ⟨[]⟩) (nS (d 8) (nS (d 16) (nS (d 32) (nS (d 64) (lL (d 128)) nZ) (lL (d 96))) (nS (d 48) (nS (d 80) (lL (d 144)) nZ) (lL (d 112)))) (nS (d 24) (nS (d 40) (nS (d 72) (lL (d 136)) nZ) (lL (d 104))) (nS (d 56) (lL (d 88)) (lL (d 120))))) (nS (d 12) (nS (d 20) (nS (d 36) (nS (d 68) (lL (d 132)) nZ) (lL (d 100))) (nS (d 52) (lL (d 84)) (lL (d 116)))) (nS (d 28) (nS (d 44) (nS (d 76) (lL (d 140)) nZ) (lL (d 108))) (nS (d 60) (lL (d 92)) (lL (d 124)))))) (nS (d 6) (nS (Value.bool b1) (nS (d 18) (nS (d 34) (nS (d 66) (lL (d 130)) nZ) (lL (d 98))) (nS (d 50) (nS (d 82) (lL (d 146)) nZ) (lL (d 114)))) (nS (d 26) (nS (d 42) (nS (d 74) (lL (d 138)) nZ) (lL (d 106))) (nS (d 58) (lL (d 90)) (lL (d 122))))) (nS (d 14) (nS (d 22) (nS (d 38) (nS (d 70) (lL (d 134)) nZ) (lL (d 102))) (nS (d 54) (lL (d 86)) (lL (d 118)))) (nS (d 30) (nS (d 46) (nS (d 78) (lL (d 142)) nZ) (lL (d 110))) (nS (d 62) (lL (d 94)) (lL (d 126))))))),[Item.code (codeAt bd [1,1,0,0]),Item.inLoop (codeAt bd [1,1,0,0]),Item.inBlock 0],[],FrameMode.run,CallKind.normal,none⟩,[],⟨eE (eE (eE (eE (eE (eE (eE (lL (AObj.cells 74 [Value.func (Fn.func f) ⟨[]⟩ ⟨[]⟩,Value.chan none,Value.chan none,Value.chan none] true 0)) nZ) nZ) nZ) nZ) nZ) nZ) (eE nZ (eE nZ (eE nZ (eE nZ (eE nZ (lL (AObj.cells 52 l0 false 2))))))),128⟩⟩
noncomputable def S1(f:Nat)(n:Nat)(cap:Nat)(c:List Value)(a:Nat)(b:Nat)(m:Nat)(i0:Int)(i1:Int)(b0:Bool)(i2:Int)(i3:Int)(b1:Bool)(l0:List Value)(d:Nat→Value):AS:=⟨⟨62,148,nS (sS 126 0 n cap) (nS (iI i0) (nS (iI i1) (nS (d 7) (nS (d 15) (nS (d 31) (nS (d 63) (lL (d 127)) nZ) (lL (d 95))) (nS (d 47) (nS (d 79) (lL (d 143)) nZ) (lL (d 111)))) (nS (d 23) (nS (d 39) (nS (d 71) (lL (d 135)) nZ) (lL (d 103))) (nS (d 55) (lL (d 87)) (lL (d 119))))) (nS (Value.bool b0) (nS (d 19) (nS (d 35) (nS (d 67) (lL (d 131)) nZ) (lL (d 99))) (nS (d 51) (nS (d 83) (lL (d 147)) nZ) (lL (d 115)))) (nS (d 27) (nS (d 43) (nS (d 75) (lL (d 139)) nZ) (lL (d 107))) (nS (d 59) (lL (d 91)) (lL (d 123)))))) (nS (d 5) (nS (d 9) (nS (d 17) (nS (d 33) (nS (d 65) (lL (d 129)) nZ) (lL (d 97))) (nS (d 49) (nS (d 81) (lL (d 145)) nZ) (lL (d 113)))) (nS (d 25) (nS (d 41) (nS (d 73) (lL (d 137)) nZ) (lL (d 105))) (nS (d 57) (lL (d 89)) (lL (d 121))))) (nS (d 13) (nS (d 21) (nS (d 37) (nS (d 69) (lL (d 133)) nZ) (lL (d 101))) (nS (d 53) (lL (d 85)) (lL (d 117)))) (nS (d 29) (nS (d 45) (nS (d 77) (lL (d 141)) nZ) (lL (d 109))) (nS (d 61) (lL (d 93)) (lL (d 125))))))) (nS (iI i2) (nS (Value.func (Fn.func 36) ⟨[pP 127 0]⟩ ⟨[]⟩) (nS (d 8) (nS (d 16) (nS (d 32) (nS (d 64) (lL (d 128)) nZ) (lL (d 96))) (nS (d 48) (nS (d 80) (lL (d 144)) nZ) (lL (d 112)))) (nS (d 24) (nS (d 40) (nS (d 72) (lL (d 136)) nZ) (lL (d 104))) (nS (d 56) (lL (d 88)) (lL (d 120))))) (nS (iI i3) (nS (d 20) (nS (d 36) (nS (d 68) (lL (d 132)) nZ) (lL (d 100))) (nS (d 52) (lL (d 84)) (lL (d 116)))) (nS (d 28) (nS (d 44) (nS (d 76) (lL (d 140)) nZ) (lL (d 108))) (nS (d 60) (lL (d 92)) (lL (d 124)))))) (nS (d 6) (nS (Value.bool b1) (nS (d 18) (nS (d 34) (nS (d 66) (lL (d 130)) nZ) (lL (d 98))) (nS (d 50) (nS (d 82) (lL (d 146)) nZ) (lL (d 114)))) (nS (d 26) (nS (d 42) (nS (d 74) (lL (d 138)) nZ) (lL (d 106))) (nS (d 58) (lL (d 90)) (lL (d 122))))) (nS (d 14) (nS (d 22) (nS (d 38) (nS (d 70) (lL (d 134)) nZ) (lL (d 102))) (nS (d 54) (lL (d 86)) (lL (d 118)))) (nS (d 30) (nS (d 46) (nS (d 78) (lL (d 142)) nZ) (lL (d 110))) (nS (d 62) (lL (d 94)) (lL (d 126))))))),[Item.code (codeAt bd [1,1,0,0,0,1,1,1,1,0]),Item.code (codeAt bd [1,1,0,0,0,1,1,1,1,1]),Item.inBlock 1,Item.inLoop (codeAt bd [1,1,0,0]),Item.inBlock 0],[],FrameMode.run,CallKind.normal,none⟩,[],⟨eE (eE (eE (eE (eE (eE (eE (lL (AObj.cells 74 [Value.func (Fn.func f) ⟨[]⟩ ⟨[]⟩,Value.chan none,Value.chan none,Value.chan none] true 0)) nZ) nZ) nZ) nZ) nZ) nZ) (eE nZ (eE nZ (eE nZ (eE nZ (eE nZ (lL (AObj.cells 52 l0 false 2))))))),128⟩⟩
noncomputable def S2(f:Nat)(n:Nat)(cap:Nat)(c:List Value)(a:Nat)(b:Nat)(m:Nat)(i0:Int)(i1:Int)(b0:Bool)(i2:Int)(i3:Int)(i4:Int)(b1:Bool)(i5:Int)(l0:List Value)(d:Nat→Value):AS:=⟨⟨62,148,nS (sS 126 0 n cap) (nS (iI i0) (nS (iI i1) (nS (d 7) (nS (d 15) (nS (d 31) (nS (d 63) (lL (d 127)) nZ) (lL (d 95))) (nS (d 47) (nS (d 79) (lL (d 143)) nZ) (lL (d 111)))) (nS (d 23) (nS (d 39) (nS (d 71) (lL (d 135)) nZ) (lL (d 103))) (nS (d 55) (lL (d 87)) (lL (d 119))))) (nS (Value.bool b0) (nS (d 19) (nS (d 35) (nS (d 67) (lL (d 131)) nZ) (lL (d 99))) (nS (d 51) (nS (d 83) (lL (d 147)) nZ) (lL (d 115)))) (nS (d 27) (nS (d 43) (nS (d 75) (lL (d 139)) nZ) (lL (d 107))) (nS (d 59) (lL (d 91)) (lL (d 123)))))) (nS (d 5) (nS (d 9) (nS (d 17) (nS (d 33) (nS (d 65) (lL (d 129)) nZ) (lL (d 97))) (nS (d 49) (nS (d 81) (lL (d 145)) nZ) (lL (d 113)))) (nS (d 25) (nS (d 41) (nS (d 73) (lL (d 137)) nZ) (lL (d 105))) (nS (d 57) (lL (d 89)) (lL (d 121))))) (nS (iI i2) (nS (d 21) (nS (d 37) (nS (d 69) (lL (d 133)) nZ) (lL (d 101))) (nS (d 53) (lL (d 85)) (lL (d 117)))) (nS (d 29) (nS (d 45) (nS (d 77) (lL (d 141)) nZ) (lL (d 109))) (nS (d 61) (lL (d 93)) (lL (d 125))))))) (nS (iI i3) (nS (Value.func (Fn.func 36) ⟨[pP 127 0]⟩ ⟨[]⟩) (nS (d 8) (nS (d 16) (nS (d 32) (nS (d 64) (lL (d 128)) nZ) (lL (d 96))) (nS (d 48) (nS (d 80) (lL (d 144)) nZ) (lL (d 112)))) (nS (d 24) (nS (d 40) (nS (d 72) (lL (d 136)) nZ) (lL (d 104))) (nS (d 56) (lL (d 88)) (lL (d 120))))) (nS (iI i4) (nS (d 20) (nS (d 36) (nS (d 68) (lL (d 132)) nZ) (lL (d 100))) (nS (d 52) (lL (d 84)) (lL (d 116)))) (nS (d 28) (nS (d 44) (nS (d 76) (lL (d 140)) nZ) (lL (d 108))) (nS (d 60) (lL (d 92)) (lL (d 124)))))) (nS (d 6) (nS (Value.bool b1) (nS (d 18) (nS (d 34) (nS (d 66) (lL (d 130)) nZ) (lL (d 98))) (nS (d 50) (nS (d 82) (lL (d 146)) nZ) (lL (d 114)))) (nS (d 26) (nS (d 42) (nS (d 74) (lL (d 138)) nZ) (lL (d 106))) (nS (d 58) (lL (d 90)) (lL (d 122))))) (nS (iI i5) (nS (d 22) (nS (d 38) (nS (d 70) (lL (d 134)) nZ) (lL (d 102))) (nS (d 54) (lL (d 86)) (lL (d 118)))) (nS (d 30) (nS (d 46) (nS (d 78) (lL (d 142)) nZ) (lL (d 110))) (nS (d 62) (lL (d 94)) (lL (d 126))))))),[Item.code (codeAt bd [1,1,0,0,0,1,1,1,1,1,0,0]),Item.code (codeAt bd [1,1,0,0,0,1,1,1,1,1,0,1]),Item.code (codeAt bd [1,1,0,0,0,1,1,1,1,1,1]),Item.inBlock 1,Item.inLoop (codeAt bd [1,1,0,0]),Item.inBlock 0],[],FrameMode.run,CallKind.normal,none⟩,[],⟨eE (eE (eE (eE (eE (eE (eE (lL (AObj.cells 74 [Value.func (Fn.func f) ⟨[]⟩ ⟨[]⟩,Value.chan none,Value.chan none,Value.chan none] true 0)) nZ) nZ) nZ) nZ) nZ) nZ) (eE nZ (eE nZ (eE nZ (eE nZ (eE nZ (lL (AObj.cells 52 l0 false 2))))))),128⟩⟩
noncomputable def S3(f:Nat)(n:Nat)(cap:Nat)(c:List Value)(a:Nat)(b:Nat)(m:Nat)(i0:Int)(i1:Int)(l0:List Value)(i2:Int)(i3:Int)(b0:Bool)(i4:Int)(i5:Int)(b1:Bool)(d:Nat→Value):AS:=⟨⟨62,148,nS (sS 126 0 n cap) (nS (iI i2) (nS (iI i3) (nS (d 7) (nS (d 15) (nS (d 31) (nS (d 63) (lL (d 127)) nZ) (lL (d 95))) (nS (d 47) (nS (d 79) (lL (d 143)) nZ) (lL (d 111)))) (nS (d 23) (nS (d 39) (nS (d 71) (lL (d 135)) nZ) (lL (d 103))) (nS (d 55) (lL (d 87)) (lL (d 119))))) (nS (Value.bool b0) (nS (d 19) (nS (d 35) (nS (d 67) (lL (d 131)) nZ) (lL (d 99))) (nS (d 51) (nS (d 83) (lL (d 147)) nZ) (lL (d 115)))) (nS (d 27) (nS (d 43) (nS (d 75) (lL (d 139)) nZ) (lL (d 107))) (nS (d 59) (lL (d 91)) (lL (d 123)))))) (nS (d 5) (nS (d 9) (nS (d 17) (nS (d 33) (nS (d 65) (lL (d 129)) nZ) (lL (d 97))) (nS (d 49) (nS (d 81) (lL (d 145)) nZ) (lL (d 113)))) (nS (d 25) (nS (d 41) (nS (d 73) (lL (d 137)) nZ) (lL (d 105))) (nS (d 57) (lL (d 89)) (lL (d 121))))) (nS (iI i0) (nS (d 21) (nS (d 37) (nS (d 69) (lL (d 133)) nZ) (lL (d 101))) (nS (d 53) (lL (d 85)) (lL (d 117)))) (nS (d 29) (nS (d 45) (nS (d 77) (lL (d 141)) nZ) (lL (d 109))) (nS (d 61) (lL (d 93)) (lL (d 125))))))) (nS (iI i4) (nS (Value.func (Fn.func 36) ⟨[pP 127 0]⟩ ⟨[]⟩) (nS (d 8) (nS (d 16) (nS (d 32) (nS (d 64) (lL (d 128)) nZ) (lL (d 96))) (nS (d 48) (nS (d 80) (lL (d 144)) nZ) (lL (d 112)))) (nS (d 24) (nS (d 40) (nS (d 72) (lL (d 136)) nZ) (lL (d 104))) (nS (d 56) (lL (d 88)) (lL (d 120))))) (nS (iI i5) (nS (d 20) (nS (d 36) (nS (d 68) (lL (d 132)) nZ) (lL (d 100))) (nS (d 52) (lL (d 84)) (lL (d 116)))) (nS (d 28) (nS (d 44) (nS (d 76) (lL (d 140)) nZ) (lL (d 108))) (nS (d 60) (lL (d 92)) (lL (d 124)))))) (nS (d 6) (nS (Value.bool b1) (nS (d 18) (nS (d 34) (nS (d 66) (lL (d 130)) nZ) (lL (d 98))) (nS (d 50) (nS (d 82) (lL (d 146)) nZ) (lL (d 114)))) (nS (d 26) (nS (d 42) (nS (d 74) (lL (d 138)) nZ) (lL (d 106))) (nS (d 58) (lL (d 90)) (lL (d 122))))) (nS (iI i1) (nS (d 22) (nS (d 38) (nS (d 70) (lL (d 134)) nZ) (lL (d 102))) (nS (d 54) (lL (d 86)) (lL (d 118)))) (nS (d 30) (nS (d 46) (nS (d 78) (lL (d 142)) nZ) (lL (d 110))) (nS (d 62) (lL (d 94)) (lL (d 126))))))),[Item.code (codeAt bd [1,1,0,0,0,1,1,1,1,1,1,0,0]),Item.code (codeAt bd [1,1,0,0,0,1,1,1,1,1,1,0,1]),Item.code (codeAt bd [1,1,0,0,0,1,1,1,1,1,1,1]),Item.inBlock 1,Item.inLoop (codeAt bd [1,1,0,0]),Item.inBlock 0],[],FrameMode.run,CallKind.normal,none⟩,[],⟨eE (eE (eE (eE (eE (eE (eE (lL (AObj.cells 74 [Value.func (Fn.func f) ⟨[]⟩ ⟨[]⟩,Value.chan none,Value.chan none,Value.chan none] true 0)) nZ) nZ) nZ) nZ) nZ) nZ) (eE nZ (eE nZ (eE nZ (eE nZ (eE nZ (lL (AObj.cells 52 l0 false 2))))))),128⟩⟩
noncomputable def S4(f:Nat)(n:Nat)(cap:Nat)(c:List Value)(a:Nat)(b:Nat)(m:Nat)(l0:List Value)(i0:Int)(i1:Int)(b0:Bool)(i2:Int)(i3:Int)(b1:Bool)(i4:Int)(d:Nat→Value):AS:=⟨⟨62,148,nS (sS 126 0 n cap) (nS (iI i0) (nS (iI i1) (nS (d 7) (nS (d 15) (nS (d 31) (nS (d 63) (lL (d 127)) nZ) (lL (d 95))) (nS (d 47) (nS (d 79) (lL (d 143)) nZ) (lL (d 111)))) (nS (d 23) (nS (d 39) (nS (d 71) (lL (d 135)) nZ) (lL (d 103))) (nS (d 55) (lL (d 87)) (lL (d 119))))) (nS (Value.bool b0) (nS (d 19) (nS (d 35) (nS (d 67) (lL (d 131)) nZ) (lL (d 99))) (nS (d 51) (nS (d 83) (lL (d 147)) nZ) (lL (d 115)))) (nS (d 27) (nS (d 43) (nS (d 75) (lL (d 139)) nZ) (lL (d 107))) (nS (d 59) (lL (d 91)) (lL (d 123)))))) (nS (d 5) (nS (d 9) (nS (d 17) (nS (d 33) (nS (d 65) (lL (d 129)) nZ) (lL (d 97))) (nS (d 49) (nS (d 81) (lL (d 145)) nZ) (lL (d 113)))) (nS (d 25) (nS (d 41) (nS (d 73) (lL (d 137)) nZ) (lL (d 105))) (nS (d 57) (lL (d 89)) (lL (d 121))))) (nS (iI i4) (nS (d 21) (nS (d 37) (nS (d 69) (lL (d 133)) nZ) (lL (d 101))) (nS (d 53) (lL (d 85)) (lL (d 117)))) (nS (d 29) (nS (d 45) (nS (d 77) (lL (d 141)) nZ) (lL (d 109))) (nS (d 61) (lL (d 93)) (lL (d 125))))))) (nS (iI i2) (nS (Value.func (Fn.func 36) ⟨[pP 127 0]⟩ ⟨[]⟩) (nS (d 8) (nS (d 16) (nS (d 32) (nS (d 64) (lL (d 128)) nZ) (lL (d 96))) (nS (d 48) (nS (d 80) (lL (d 144)) nZ) (lL (d 112)))) (nS (d 24) (nS (d 40) (nS (d 72) (lL (d 136)) nZ) (lL (d 104))) (nS (d 56) (lL (d 88)) (lL (d 120))))) (nS (iI i3) (nS (d 20) (nS (d 36) (nS (d 68) (lL (d 132)) nZ) (lL (d 100))) (nS (d 52) (lL (d 84)) (lL (d 116)))) (nS (d 28) (nS (d 44) (nS (d 76) (lL (d 140)) nZ) (lL (d 108))) (nS (d 60) (lL (d 92)) (lL (d 124)))))) (nS (d 6) (nS (Value.bool b1) (nS (d 18) (nS (d 34) (nS (d 66) (lL (d 130)) nZ) (lL (d 98))) (nS (d 50) (nS (d 82) (lL (d 146)) nZ) (lL (d 114)))) (nS (d 26) (nS (d 42) (nS (d 74) (lL (d 138)) nZ) (lL (d 106))) (nS (d 58) (lL (d 90)) (lL (d 122))))) (nS (d 14) (nS (d 22) (nS (d 38) (nS (d 70) (lL (d 134)) nZ) (lL (d 102))) (nS (d 54) (lL (d 86)) (lL (d 118)))) (nS (d 30) (nS (d 46) (nS (d 78) (lL (d 142)) nZ) (lL (d 110))) (nS (d 62) (lL (d 94)) (lL (d 126))))))),[Item.code (codeAt bd [1,1,0,0,0,1,1,1,1,1,1,1,0,0]),Item.code (codeAt bd [1,1,0,0,0,1,1,1,1,1,1,1,0,1]),Item.code (codeAt bd [1,1,0,0,0,1,1,1,1,1,1,1,1]),Item.inBlock 1,Item.inLoop (codeAt bd [1,1,0,0]),Item.inBlock 0],[],FrameMode.run,CallKind.normal,none⟩,[],⟨eE (eE (eE (eE (eE (eE (eE (lL (AObj.cells 74 [Value.func (Fn.func f) ⟨[]⟩ ⟨[]⟩,Value.chan none,Value.chan none,Value.chan none] true 0)) nZ) nZ) nZ) nZ) nZ) nZ) (eE nZ (eE nZ (eE nZ (eE nZ (eE nZ (lL (AObj.cells 52 l0 false 2))))))),128⟩⟩
theorem enter{η:Nat→Value}{B:Bd}(hη:OneCells η)(hmix:prog.follows .mixedOrders=true)(hreg:RegOk η prog B noNest){D:Value→AH→Prop}(f:Nat)(n:Nat)(cap:Nat)(c:List Value)(a:Nat)(b:Nat)(m:Nat)(h:W.holds η prog B 62 (fun kp_ st_=>RunD η prog B 62 (H0 f n cap c a b m) kp_ st_ (QF prog 128 D)) D (.stop [0,1,2,3,4,10,11] (S0 f n cap c a b m ((↑a:Int)) (c) (true) (true) ((↑b:Int)) ((↑m:Int)) (fun _=>undef)))):CallSpec η prog B 62 [Value.slice (some ⟨126,0,none⟩) n cap,Value.int IntKind.i64 (↑a:Int),Value.int IntKind.i64 (↑b:Int),Value.int IntKind.i64 (↑m:Int),Value.func (Fn.func 36) ⟨[Value.pointer (some ⟨127,0,none⟩)]⟩ ⟨[]⟩] (H0 f n cap c a b m) D:=by
 refine CallSpec.ofQF hη (CallSpec.enter (fr:=(E f n cap c a b m).fr) (by kernel_rfl) ?_)
 exact walk_okT (h0:=H0 f n cap c a b m) hη hmix hreg (.steps 10 <| .stop [0,1,2,3,4,10,11] none) (E f n cap c a b m) (by kernel_rfl) h (by kernel_rfl)
theorem cut0{η:Nat→Value}{B:Bd}(hη:OneCells η)(hmix:prog.follows .mixedOrders=true)(hreg:RegOk η prog B noNest){D:Value→AH→Prop}(f:Nat)(n:Nat)(cap:Nat)(c:List Value)(a:Nat)(b:Nat)(m:Nat)(i0:Int)(l0:List Value)(b0:Bool)(b1:Bool)(i1:Int)(i2:Int)(h:let q2:AH:=⟨eE (eE (eE (eE (eE (eE (eE (lL (AObj.cells 74 [Value.func (Fn.func f) ⟨[]⟩ ⟨[]⟩,Value.chan none,Value.chan none,Value.chan none] true 0)) nZ) nZ) nZ) nZ) nZ) nZ) (eE nZ (eE nZ (eE nZ (eE nZ (eE nZ (lL (AObj.cells 52 l0 false 2))))))),128⟩;let q1:AH:=⟨eE (eE (eE (eE (eE (eE (eE (lL (AObj.cells 74 [Value.func (Fn.func f) ⟨[]⟩ ⟨[]⟩,Value.chan none,Value.chan none,Value.chan none] true 0)) nZ) nZ) nZ) nZ) nZ) nZ) (eE nZ (eE nZ (eE nZ (eE nZ (eE nZ (lL (AObj.cells 52 (HQ.hsC f l0 i0.toNat i1.toNat) false 2))))))),128⟩;let q0:AH:=⟨eE (eE (eE (eE (eE (eE (eE (lL (AObj.cells 74 [Value.func (Fn.func f) ⟨[]⟩ ⟨[]⟩,Value.chan none,Value.chan none,Value.chan none] true 0)) nZ) nZ) nZ) nZ) nZ) nZ) (eE nZ (eE nZ (eE nZ (eE nZ (eE nZ (lL (AObj.cells 52 (HQ.insC f l0 i0.toNat i1.toNat) false 2))))))),128⟩;W.holds η prog B 62 (fun kp_ st_=>RunD η prog B 62 (H0 f n cap c a b m) kp_ st_ (QF prog 128 D)) D (.ite (decide (IntKind.i64.wrap (i1 - i0)≤(12:Int))) (.call 74 [Value.slice (some ⟨126,0,none⟩) n cap,Value.int IntKind.i64 i0,Value.int IntKind.i64 i1,Value.func (Fn.func 36) ⟨[Value.pointer (some ⟨127,0,none⟩)]⟩ ⟨[]⟩] (q2) (.ret (undef) (q0)) (.done 62 (undef) (q0))) (.ite (i2 == (0:Int)) (.call 75 [Value.slice (some ⟨126,0,none⟩) n cap,Value.int IntKind.i64 i0,Value.int IntKind.i64 i1,Value.func (Fn.func 36) ⟨[Value.pointer (some ⟨127,0,none⟩)]⟩ ⟨[]⟩] (q2) (.ret (undef) (q1)) (.done 62 (undef) (q1))) (.ite (!b1) (.call 76 [Value.slice (some ⟨126,0,none⟩) n cap,Value.int IntKind.i64 i0,Value.int IntKind.i64 i1,Value.func (Fn.func 36) ⟨[Value.pointer (some ⟨127,0,none⟩)]⟩ ⟨[]⟩] (q2) (.ret (undef) (⟨eE (eE (eE (eE (eE (eE (eE (lL (AObj.cells 74 [Value.func (Fn.func f) ⟨[]⟩ ⟨[]⟩,Value.chan none,Value.chan none,Value.chan none] true 0)) nZ) nZ) nZ) nZ) nZ) nZ) (eE nZ (eE nZ (eE nZ (eE nZ (eE nZ (lL (AObj.cells 52 (HQ.brC l0 i0.toNat i1.toNat) false 2))))))),128⟩)) (.stop [0,1,2,3,4,10,11,12] (S1 f n cap c a b m (i0) (IntKind.i64.wrap (i2 - 1)) (b0) (i1) (IntKind.i64.wrap (i1 - i0)) (b1) (HQ.brC l0 i0.toNat i1.toNat) (fun _=>undef)))) (.stop [0,1,2,3,4,10,11,12] (S1 f n cap c a b m (i0) (i2) (b0) (i1) (IntKind.i64.wrap (i1 - i0)) (b1) (l0) (fun _=>undef))))))):RunD η prog B 62 (H0 f n cap c a b m) [0,1,2,3,4,10,11] (S0 f n cap c a b m i0 l0 b0 b1 i1 i2 fun _=>undef) (QF prog 128 D):=by
 refine RunD.intro (S0 f n cap c a b m i0 l0 b0 b1 i1 i2) (fun d=>⟨rfl,rfl,rfl⟩) (fun d=>tmOk_get (by kernel_rfl)) (fun d=>by kernel_rfl) (fun d=>?_)
 exact walk_okT (h0:=H0 f n cap c a b m) hη hmix hreg (.steps 14 <| .bit 25 (.steps 7 <| .call kN <| .steps 2 <| .done none) (.steps 8 <| .bit 32 (.steps 7 <| .call kN <| .steps 2 <| .done none) (.steps 8 <| .bit 39 (.steps 7 <| .call kN <| .steps 7 <| .stop [0,1,2,3,4,10,11,12] none) (.steps 3 <| .stop [0,1,2,3,4,10,11,12] none)))) (S0 f n cap c a b m i0 l0 b0 b1 i1 i2 d) (by kernel_rfl) h (by kernel_rfl)
theorem cut1{η:Nat→Value}{B:Bd}(hη:OneCells η)(hmix:prog.follows .mixedOrders=true)(hreg:RegOk η prog B noNest){D:Value→AH→Prop}(f:Nat)(n:Nat)(cap:Nat)(c:List Value)(a:Nat)(b:Nat)(m:Nat)(i0:Int)(i1:Int)(b0:Bool)(i2:Int)(i3:Int)(b1:Bool)(l0:List Value)(h:let q0:AH:=⟨eE (eE (eE (eE (eE (eE (eE (lL (AObj.cells 74 [Value.func (Fn.func f) ⟨[]⟩ ⟨[]⟩,Value.chan none,Value.chan none,Value.chan none] true 0)) nZ) nZ) nZ) nZ) nZ) nZ) (eE nZ (eE nZ (eE nZ (eE nZ (eE nZ (lL (AObj.cells 52 l0 false 2))))))),128⟩;W.holds η prog B 62 (fun kp_ st_=>RunD η prog B 62 (H0 f n cap c a b m) kp_ st_ (QF prog 128 D)) D (.call 77 [Value.slice (some ⟨126,0,none⟩) n cap,Value.int IntKind.i64 i0,Value.int IntKind.i64 i2,Value.func (Fn.func 36) ⟨[Value.pointer (some ⟨127,0,none⟩)]⟩ ⟨[]⟩] (q0) (.ret (Value.tuple ⟨[Value.int IntKind.i64 (↑(HQ.chP f l0 i0.toNat i2.toNat):Int),Value.int IntKind.i64 (HQ.chH f l0 i0.toNat i2.toNat)]⟩) (q0)) (.stop [0,1,2,3,4,10,11,12,13,14] (S2 f n cap c a b m (i0) (i1) (b0) ((↑(HQ.chP f l0 i0.toNat i2.toNat):Int)) (i2) (i3) (b1) (HQ.chH f l0 i0.toNat i2.toNat) (l0) (fun _=>undef))))):RunD η prog B 62 (H0 f n cap c a b m) [0,1,2,3,4,10,11,12] (S1 f n cap c a b m i0 i1 b0 i2 i3 b1 l0 fun _=>undef) (QF prog 128 D):=by
 refine RunD.intro (S1 f n cap c a b m i0 i1 b0 i2 i3 b1 l0) (fun d=>⟨rfl,rfl,rfl⟩) (fun d=>tmOk_get (by kernel_rfl)) (fun d=>by kernel_rfl) (fun d=>?_)
 exact walk_okT (h0:=H0 f n cap c a b m) hη hmix hreg (.steps 5 <| .call kN <| .steps 8 <| .stop [0,1,2,3,4,10,11,12,13,14] none) (S1 f n cap c a b m i0 i1 b0 i2 i3 b1 l0 d) (by kernel_rfl) h (by kernel_rfl)
theorem cut2{η:Nat→Value}{B:Bd}(hη:OneCells η)(hmix:prog.follows .mixedOrders=true)(hreg:RegOk η prog B noNest){D:Value→AH→Prop}(f:Nat)(n:Nat)(cap:Nat)(c:List Value)(a:Nat)(b:Nat)(m:Nat)(i0:Int)(i1:Int)(b0:Bool)(i2:Int)(i3:Int)(i4:Int)(b1:Bool)(i5:Int)(l0:List Value)(h:let q0:T AObj:=(eE (eE (eE (eE (eE (eE (lL (AObj.cells 74 [Value.func (Fn.func f) ⟨[]⟩ ⟨[]⟩,Value.chan none,Value.chan none,Value.chan none] true 0)) nZ) nZ) nZ) nZ) nZ) nZ);W.holds η prog B 62 (fun kp_ st_=>RunD η prog B 62 (H0 f n cap c a b m) kp_ st_ (QF prog 128 D)) D (.ite (i5 == (2:Int)) (.call 78 [Value.slice (some ⟨126,0,none⟩) n cap,Value.int IntKind.i64 i0,Value.int IntKind.i64 i3,Value.func (Fn.func 36) ⟨[Value.pointer (some ⟨127,0,none⟩)]⟩ ⟨[]⟩] (⟨eE q0 (eE nZ (eE nZ (eE nZ (eE nZ (eE nZ (lL (AObj.cells 52 l0 false 2))))))),128⟩) (.ret (undef) (⟨eE q0 (eE nZ (eE nZ (eE nZ (eE nZ (eE nZ (lL (AObj.cells 52 (HQ.rvC l0 i0.toNat i3.toNat) false 2))))))),128⟩)) (.stop [0,1,2,3,4,10,11,12,13,14] (S3 f n cap c a b m (IntKind.i64.wrap (IntKind.i64.wrap (i3 - 1) - IntKind.i64.wrap (i2 - i0))) (1) (HQ.rvC l0 i0.toNat i3.toNat) (i0) (i1) (b0) (i3) (i4) (b1) (fun _=>undef)))) (.stop [0,1,2,3,4,10,11,12,13,14] (S3 f n cap c a b m (i2) (i5) (l0) (i0) (i1) (b0) (i3) (i4) (b1) (fun _=>undef))))):RunD η prog B 62 (H0 f n cap c a b m) [0,1,2,3,4,10,11,12,13,14] (S2 f n cap c a b m i0 i1 b0 i2 i3 i4 b1 i5 l0 fun _=>undef) (QF prog 128 D):=by
 refine RunD.intro (S2 f n cap c a b m i0 i1 b0 i2 i3 i4 b1 i5 l0) (fun d=>⟨rfl,rfl,rfl⟩) (fun d=>tmOk_get (by kernel_rfl)) (fun d=>by kernel_rfl) (fun d=>?_)
 exact walk_okT (h0:=H0 f n cap c a b m) hη hmix hreg (.steps 4 <| .bit 56 (.steps 7 <| .call kN <| .steps 16 <| .stop [0,1,2,3,4,10,11,12,13,14] none) (.steps 4 <| .stop [0,1,2,3,4,10,11,12,13,14] none)) (S2 f n cap c a b m i0 i1 b0 i2 i3 i4 b1 i5 l0 d) (by kernel_rfl) h (by kernel_rfl)
theorem cut3{η:Nat→Value}{B:Bd}(hη:OneCells η)(hmix:prog.follows .mixedOrders=true)(hreg:RegOk η prog B noNest){D:Value→AH→Prop}(f:Nat)(n:Nat)(cap:Nat)(c:List Value)(a:Nat)(b:Nat)(m:Nat)(i0:Int)(i1:Int)(l0:List Value)(i2:Int)(i3:Int)(b0:Bool)(i4:Int)(i5:Int)(b1:Bool)(h:let q1:W:=(.stop [0,1,2,3,4,10,11,12,13] (S4 f n cap c a b m (l0) (i2) (i3) (b0) (i4) (i5) (b1) (i0) (fun _=>undef)));let q0:AH:=⟨eE (eE (eE (eE (eE (eE (eE (lL (AObj.cells 74 [Value.func (Fn.func f) ⟨[]⟩ ⟨[]⟩,Value.chan none,Value.chan none,Value.chan none] true 0)) nZ) nZ) nZ) nZ) nZ) nZ) (eE nZ (eE nZ (eE nZ (eE nZ (eE nZ (lL (AObj.cells 52 (HQ.plC f l0 i2.toNat i4.toNat) false 2))))))),128⟩;W.holds η prog B 62 (fun kp_ st_=>RunD η prog B 62 (H0 f n cap c a b m) kp_ st_ (QF prog 128 D)) D (.ite (b1) (.ite (b0) (.ite (i1 == (1:Int)) (.call 79 [Value.slice (some ⟨126,0,none⟩) n cap,Value.int IntKind.i64 i2,Value.int IntKind.i64 i4,Value.func (Fn.func 36) ⟨[Value.pointer (some ⟨127,0,none⟩)]⟩ ⟨[]⟩] (⟨eE (eE (eE (eE (eE (eE (eE (lL (AObj.cells 74 [Value.func (Fn.func f) ⟨[]⟩ ⟨[]⟩,Value.chan none,Value.chan none,Value.chan none] true 0)) nZ) nZ) nZ) nZ) nZ) nZ) (eE nZ (eE nZ (eE nZ (eE nZ (eE nZ (lL (AObj.cells 52 l0 false 2))))))),128⟩) (.ret (Value.bool (HQ.plB f l0 i2.toNat i4.toNat)) (q0)) (.ite (HQ.plB f l0 i2.toNat i4.toNat) (.done 62 (undef) (q0)) (.stop [0,1,2,3,4,10,11,12,13] (S4 f n cap c a b m (HQ.plC f l0 i2.toNat i4.toNat) (i2) (i3) (b0) (i4) (i5) (b1) (i0) (fun _=>undef))))) q1) q1) q1)):RunD η prog B 62 (H0 f n cap c a b m) [0,1,2,3,4,10,11,12,13,14] (S3 f n cap c a b m i0 i1 l0 i2 i3 b0 i4 i5 b1 fun _=>undef) (QF prog 128 D):=by
 refine RunD.intro (S3 f n cap c a b m i0 i1 l0 i2 i3 b0 i4 i5 b1) (fun d=>⟨rfl,rfl,rfl⟩) (fun d=>tmOk_get (by kernel_rfl)) (fun d=>by kernel_rfl) (fun d=>?_)
 exact walk_okT (h0:=H0 f n cap c a b m) hη hmix hreg (.steps 3 <| .bit 69 (.steps 3 <| .bit 72 (.steps 4 <| .bit 75 (.steps 7 <| .call kN <| .steps 1 <| .bit 80 (.steps 2 <| .done none) (.steps 4 <| .stop [0,1,2,3,4,10,11,12,13] none)) (.steps 4 <| .stop [0,1,2,3,4,10,11,12,13] none)) (.steps 8 <| .stop [0,1,2,3,4,10,11,12,13] none)) (.steps 11 <| .stop [0,1,2,3,4,10,11,12,13] none)) (S3 f n cap c a b m i0 i1 l0 i2 i3 b0 i4 i5 b1 d) (by kernel_rfl) h (by kernel_rfl)
theorem cut4{η:Nat→Value}{B:Bd}(hη:OneCells η)(hmix:prog.follows .mixedOrders=true)(hreg:RegOk η prog B noNest){D:Value→AH→Prop}(f:Nat)(n:Nat)(cap:Nat)(c:List Value)(a:Nat)(b:Nat)(m:Nat)(l0:List Value)(i0:Int)(i1:Int)(b0:Bool)(i2:Int)(i3:Int)(b1:Bool)(i4:Int)(h:let q9:=(HQ.peC f l0 i0.toNat i2.toNat i4.toNat);let q8:=(HQ.peM f l0 i0.toNat i2.toNat i4.toNat);let q7:=(intAt l0 ((0:Nat)+i4.toNat * (2:Nat)));let q6:=(intAt l0 (0+(IntKind.i64.wrap (i0 - 1)).toNat * 2));let q5:=(intAt l0 ((0:Nat)+i4.toNat * (2:Nat)+(1:Nat)));let q4:=(intAt l0 (0+(IntKind.i64.wrap (i0 - 1)).toNat * 2+1));let q3:=(intAt l0 ((0:Nat)+(IntKind.i64.wrap (i0 - (1:Int))).toNat * (2:Nat)));let q2:=(intAt l0 ((0:Nat)+(IntKind.i64.wrap (i0 - (1:Int))).toNat * (2:Nat)+(1:Nat)));let q1:AH:=⟨eE (eE (eE (eE (eE (eE (eE (lL (AObj.cells 74 [Value.func (Fn.func f) ⟨[]⟩ ⟨[]⟩,Value.chan none,Value.chan none,Value.chan none] true 0)) nZ) nZ) nZ) nZ) nZ) nZ) (eE nZ (eE nZ (eE nZ (eE nZ (eE nZ (lL (AObj.cells 52 l0 false 2))))))),145⟩;let q0:W:=(.call 81 [Value.slice (some ⟨126,0,none⟩) n cap,Value.int IntKind.i64 i0,Value.int IntKind.i64 i2,Value.int IntKind.i64 i4,Value.func (Fn.func 36) ⟨[Value.pointer (some ⟨127,0,none⟩)]⟩ ⟨[]⟩] (q1) (.ret (Value.tuple ⟨[Value.int IntKind.i64 (↑(HQ.paM f l0 i0.toNat i2.toNat i4.toNat):Int),Value.bool (HQ.paB f l0 i0.toNat i2.toNat i4.toNat)]⟩) (⟨eE (eE (eE (eE (eE (eE (eE (lL (AObj.cells 74 [Value.func (Fn.func f) ⟨[]⟩ ⟨[]⟩,Value.chan none,Value.chan none,Value.chan none] true 0)) nZ) nZ) nZ) nZ) nZ) nZ) (eE nZ (eE nZ (eE nZ (eE nZ (eE nZ (lL (AObj.cells 52 (HQ.paC f l0 i0.toNat i2.toNat i4.toNat) false 2))))))),145⟩)) (.ite (decide (IntKind.i64.wrap ((↑(HQ.paM f l0 i0.toNat i2.toNat i4.toNat):Int) - i0)<IntKind.i64.wrap (i2 - (↑(HQ.paM f l0 i0.toNat i2.toNat i4.toNat):Int)))) (.call 62 [Value.slice (some ⟨126,0,none⟩) n cap,Value.int IntKind.i64 i0,Value.int IntKind.i64 (↑(HQ.paM f l0 i0.toNat i2.toNat i4.toNat):Int),Value.int IntKind.i64 i1,Value.func (Fn.func 36) ⟨[Value.pointer (some ⟨127,0,none⟩)]⟩ ⟨[]⟩] (⟨eE (eE (eE (eE (eE (eE (eE (lL (AObj.cells 74 [Value.func (Fn.func f) ⟨[]⟩ ⟨[]⟩,Value.chan none,Value.chan none,Value.chan none] true 0)) nZ) nZ) nZ) nZ) nZ) nZ) (eE nZ (eE nZ (eE nZ (eE nZ (eE nZ (lL (AObj.cells 52 (HQ.paC f l0 i0.toNat i2.toNat i4.toNat) false 2))))))),145⟩) (.ret (undef) (⟨eE (eE (eE (eE (eE (eE (eE (lL (AObj.cells 74 [Value.func (Fn.func f) ⟨[]⟩ ⟨[]⟩,Value.chan none,Value.chan none,Value.chan none] true 0)) nZ) nZ) nZ) nZ) nZ) nZ) (eE nZ (eE nZ (eE nZ (eE nZ (eE nZ (lL (AObj.cells 52 (HQ.pdC f (HQ.paC f l0 i0.toNat i2.toNat i4.toNat) i0.toNat (↑(HQ.paM f l0 i0.toNat i2.toNat i4.toNat):Int).toNat i1.toNat) false 2))))))),145⟩)) (.need (NoNames (HQ.pdC f (HQ.paC f l0 i0.toNat i2.toNat i4.toNat) i0.toNat (↑(HQ.paM f l0 i0.toNat i2.toNat i4.toNat):Int).toNat i1.toNat)∧True∧True) (.stop [0,1,2,3,4,10,11] (S0 f n cap c a b m (IntKind.i64.wrap ((↑(HQ.paM f l0 i0.toNat i2.toNat i4.toNat):Int)+1)) (HQ.pdC f (HQ.paC f l0 i0.toNat i2.toNat i4.toNat) i0.toNat (↑(HQ.paM f l0 i0.toNat i2.toNat i4.toNat):Int).toNat i1.toNat) (HQ.paB f l0 i0.toNat i2.toNat i4.toNat) (decide (IntKind.i64.wrap ((↑(HQ.paM f l0 i0.toNat i2.toNat i4.toNat):Int) - i0) ≥ IntKind.i64.wrap (i3.tdiv 8))) (i2) (i1) (fun _=>undef))))) (.call 62 [Value.slice (some ⟨126,0,none⟩) n cap,Value.int IntKind.i64 (IntKind.i64.wrap ((↑(HQ.paM f l0 i0.toNat i2.toNat i4.toNat):Int)+1)),Value.int IntKind.i64 i2,Value.int IntKind.i64 i1,Value.func (Fn.func 36) ⟨[Value.pointer (some ⟨127,0,none⟩)]⟩ ⟨[]⟩] (⟨eE (eE (eE (eE (eE (eE (eE (lL (AObj.cells 74 [Value.func (Fn.func f) ⟨[]⟩ ⟨[]⟩,Value.chan none,Value.chan none,Value.chan none] true 0)) nZ) nZ) nZ) nZ) nZ) nZ) (eE nZ (eE nZ (eE nZ (eE nZ (eE nZ (lL (AObj.cells 52 (HQ.paC f l0 i0.toNat i2.toNat i4.toNat) false 2))))))),145⟩) (.ret (undef) (⟨eE (eE (eE (eE (eE (eE (eE (lL (AObj.cells 74 [Value.func (Fn.func f) ⟨[]⟩ ⟨[]⟩,Value.chan none,Value.chan none,Value.chan none] true 0)) nZ) nZ) nZ) nZ) nZ) nZ) (eE nZ (eE nZ (eE nZ (eE nZ (eE nZ (lL (AObj.cells 52 (HQ.pdC f (HQ.paC f l0 i0.toNat i2.toNat i4.toNat) (IntKind.i64.wrap ((↑(HQ.paM f l0 i0.toNat i2.toNat i4.toNat):Int)+1)).toNat i2.toNat i1.toNat) false 2))))))),145⟩)) (.need (NoNames (HQ.pdC f (HQ.paC f l0 i0.toNat i2.toNat i4.toNat) (IntKind.i64.wrap ((↑(HQ.paM f l0 i0.toNat i2.toNat i4.toNat):Int)+(1:Int))).toNat i2.toNat i1.toNat)∧True∧True) (.stop [0,1,2,3,4,10,11] (S0 f n cap c a b m (i0) (HQ.pdC f (HQ.paC f l0 i0.toNat i2.toNat i4.toNat) (IntKind.i64.wrap ((↑(HQ.paM f l0 i0.toNat i2.toNat i4.toNat):Int)+1)).toNat i2.toNat i1.toNat) (HQ.paB f l0 i0.toNat i2.toNat i4.toNat) (decide (IntKind.i64.wrap (i2 - (↑(HQ.paM f l0 i0.toNat i2.toNat i4.toNat):Int)) ≥ IntKind.i64.wrap (i3.tdiv 8))) ((↑(HQ.paM f l0 i0.toNat i2.toNat i4.toNat):Int)) (i1) (fun _=>undef)))))));W.holds η prog B 62 (fun kp_ st_=>RunD η prog B 62 (H0 f n cap c a b m) kp_ st_ (QF prog 128 D)) D (.ite (decide (i0 > (0:Int))) (.need ((0:Int)≤IntKind.i64.wrap (i0 - (1:Int))∧IntKind.i64.wrap (i0 - (1:Int))<(↑n:Int)) (.need ((0:Nat)+(IntKind.i64.wrap (i0 - (1:Int))).toNat * (2:Nat)+(2:Nat)≤l0.length∧List.take (2:Nat) (List.drop ((0:Nat)+(IntKind.i64.wrap (i0 - (1:Int))).toNat * (2:Nat)) l0)=[Value.int IntKind.i64 q3,Value.int IntKind.i64 q2]) (.need ((0:Int)≤i4∧i4<(↑n:Int)) (.need ((0:Nat)+i4.toNat * (2:Nat)+(2:Nat)≤l0.length∧List.take (2:Nat) (List.drop ((0:Nat)+i4.toNat * (2:Nat)) l0)=[Value.int IntKind.i64 q7,Value.int IntKind.i64 q5]) (.call 36 [Value.pointer (some ⟨127,0,none⟩),Value.agg ⟨[Value.int IntKind.i64 q6,Value.int IntKind.i64 q4]⟩,Value.agg ⟨[Value.int IntKind.i64 (intAt l0 (0+i4.toNat * 2)),Value.int IntKind.i64 (intAt l0 (0+i4.toNat * 2+1))]⟩] (q1) (.ret (Value.int IntKind.i64 (HQ.cmpA f q6 q4 (intAt l0 (0+i4.toNat * 2)) (intAt l0 (0+i4.toNat * 2+1)))) (q1)) (.ite (!decide (HQ.cmpA f q3 q2 q7 q5<(0:Int))) (.call 80 [Value.slice (some ⟨126,0,none⟩) n cap,Value.int IntKind.i64 i0,Value.int IntKind.i64 i2,Value.int IntKind.i64 i4,Value.func (Fn.func 36) ⟨[Value.pointer (some ⟨127,0,none⟩)]⟩ ⟨[]⟩] (q1) (.ret (Value.int IntKind.i64 (↑q8:Int)) (⟨eE (eE (eE (eE (eE (eE (eE (lL (AObj.cells 74 [Value.func (Fn.func f) ⟨[]⟩ ⟨[]⟩,Value.chan none,Value.chan none,Value.chan none] true 0)) nZ) nZ) nZ) nZ) nZ) nZ) (eE nZ (eE nZ (eE nZ (eE nZ (eE nZ (lL (AObj.cells 52 q9 false 2))))))),145⟩)) (.need (NoNames q9∧True∧True) (.stop [0,1,2,3,4,10,11] (S0 f n cap c a b m ((↑q8:Int)) q9 (b0) (b1) (i2) (i1) (fun _=>undef))))) q0)))))) q0)):RunD η prog B 62 (H0 f n cap c a b m) [0,1,2,3,4,10,11,12,13] (S4 f n cap c a b m l0 i0 i1 b0 i2 i3 b1 i4 fun _=>undef) (QF prog 128 D):=by
 refine RunD.intro (S4 f n cap c a b m l0 i0 i1 b0 i2 i3 b1 i4) (fun d=>⟨rfl,rfl,rfl⟩) (fun d=>tmOk_get (by kernel_rfl)) (fun d=>by kernel_rfl) (fun d=>?_)
 exact walk_okT (h0:=H0 f n cap c a b m) hη hmix hreg (.reg <| .steps 3 <| .bit 83 (.steps 4 <| .op <| .op <| .steps 2 <| .op <| .op <| .call kN <| .steps 3 <| .reg <| .bit 97 (.steps 8 <| .call kN <| .steps 9 <| .stop [0,1,2,3,4,10,11] (some ⟨128,[],[(126,(126,true)),(127,(127,false))]⟩)) (.steps 9 <| .call kN <| .steps 34 <| .bit 125 (.steps 15 <| .call kN <| .steps 8 <| .stop [0,1,2,3,4,10,11] (some ⟨128,[],[(126,(126,true)),(127,(127,false))]⟩)) (.steps 16 <| .call kN <| .steps 7 <| .stop [0,1,2,3,4,10,11] (some ⟨128,[],[(126,(126,true)),(127,(127,false))]⟩)))) (.steps 14 <| .reg <| .steps 9 <| .call kN <| .steps 34 <| .bit 125 (.steps 15 <| .call kN <| .steps 8 <| .stop [0,1,2,3,4,10,11] (some ⟨128,[],[(126,(126,true)),(127,(127,false))]⟩)) (.steps 16 <| .call kN <| .steps 7 <| .stop [0,1,2,3,4,10,11] (some ⟨128,[],[(126,(126,true)),(127,(127,false))]⟩)))) (S4 f n cap c a b m l0 i0 i1 b0 i2 i3 b1 i4 d) (by kernel_rfl) h (by kernel_rfl)
end KPdq
end Go.Ev

/- Sorting items: pdqsort. -/
namespace Go.Ev
open Go Go.Proofs Go.RowKit
variable {η:Nat→Value} {B:Bd}
namespace HQ
abbrev L2I:=Int × Int→Int × Int→Bool
theorem insInner_size(lt:L2I)(a:Nat):∀ (j:Nat) (d:A2),(Sort.insInner lt a j d).size=d.size
 | 0,_=>rfl
 | j+1,d=>by
  unfold Sort.insInner
  split
  ·rw [insInner_size lt a j,Sort.size_swp]
  ·rfl
theorem insOuter_size(lt:L2I)(a b:Nat):∀ (k i:Nat) (d:A2),b - i≤k→(Sort.insOuter lt a b i d).size=d.size:=by
 intro k
 induction k with
 | zero=>intro i d h;rw [Sort.insOuter,if_neg (by omega)]
 | succ k ih=>
  intro i d h
  rw [Sort.insOuter]
  split
  ·rw [ih _ _ (by omega),insInner_size]
  ·rfl
theorem heapBuild_size(lt:L2I)(hi first:Nat):∀ (k:Nat) (d:A2),(Sort.heapBuild lt hi first k d).size=d.size
 | 0,_=>rfl
 | k+1,d=>by
  unfold Sort.heapBuild
  rw [heapBuild_size lt hi first k,siftDown_size _ _ _ _ _ _ (Nat.le_refl _)]
theorem heapPop_size(lt:L2I)(first:Nat):∀ (k:Nat) (d:A2),(Sort.heapPop lt first k d).size=d.size
 | 0,_=>rfl
 | k+1,d=>by
  unfold Sort.heapPop
  rw [heapPop_size lt first k,siftDown_size _ _ _ _ _ _ (Nat.le_refl _),Sort.size_swp]
theorem shiftDown_size(lt:L2I):∀ (j:Nat) (d:A2),(Sort.shiftDown lt j d).size=d.size
 | 0,_=>rfl
 | j+1,d=>by
  unfold Sort.shiftDown
  split
  ·rfl
  ·rw [shiftDown_size lt j,Sort.size_swp]
theorem shiftUp_size(lt:L2I)(b:Nat):∀ (k j:Nat) (d:A2),b - j≤k→(Sort.shiftUp lt b j d).size=d.size:=by
 intro k
 induction k with
 | zero=>intro j d h;rw [Sort.shiftUp,if_neg (by omega)]
 | succ k ih=>
  intro j d h
  rw [Sort.shiftUp]
  split
  ·split
   ·rfl
   ·rw [ih _ _ (by omega),Sort.size_swp]
  ·rfl
theorem partialIns_size(lt:L2I)(a b:Nat):∀ (s i:Nat) (d:A2),(Sort.partialIns lt a b s i d).1.size=d.size
 | 0,_,_=>rfl
 | s+1,i,d=>by
  unfold Sort.partialIns
  dsimp only
  split
  ·rfl
  ·split
   ·rfl
   ·rw [partialIns_size lt a b s]
    split
    ·rw [shiftUp_size _ _ _ _ _ (Nat.le_refl _)]
     split
     ·rw [shiftDown_size,Sort.size_swp]
     ·rw [Sort.size_swp]
    ·split
     ·rw [shiftDown_size,Sort.size_swp]
     ·rw [Sort.size_swp]
theorem partEqLoop_r(lt:L2I)(a b:Nat):∀ (k i j:Nat) (t:A2),j+1 - i<k→a<i→i≤j+2→i≤b→j<b→a<(Sort.partEqLoop lt a i j t).1∧(Sort.partEqLoop lt a i j t).1≤b∧(Sort.partEqLoop lt a i j t).2.size=t.size:=by
 intro k
 induction k with
 | zero=>intro i j t h;omega
 | succ k ih=>
  intro i j t hk h1 h2 h3 h4
  have g1:=Sort.scanUp_ge (fun x=>!lt t[a]! x) t j i
  have g2:=(Sort.scanUp_spec (fun x=>!lt t[a]! x) t j _ i rfl).2.1
  have g3:=Sort.scanDown_le (fun x=>lt t[a]! x) t (Sort.scanUp (fun x=>!lt t[a]! x) t j i) j
  have g4:¬ i≤j→Sort.scanUp (fun x=>!lt t[a]! x) t j i=i:=fun h=>by rw [Sort.scanUp,if_neg (by simp;omega)]
  have g5:i≤j∨¬ i≤j:=Classical.em _
  have g6:Sort.scanUp (fun x=>!lt t[a]! x) t j i≤b:=by
   rcases g5 with g5 | g5
   ·have:=g2 (by omega);omega
   ·rw [g4 g5];exact h3
  rw [Sort.partEqLoop]
  split
  ·exact⟨by dsimp only;omega,by dsimp only;omega,rfl⟩
  ·split
   ·have:=ih (Sort.scanUp (fun x=>!lt t[a]! x) t j i+1) (Sort.scanDown (fun x=>lt t[a]! x) t (Sort.scanUp (fun x=>!lt t[a]! x) t j i) j - 1) (Sort.swp t (Sort.scanUp (fun x=>!lt t[a]! x) t j i) (Sort.scanDown (fun x=>lt t[a]! x) t (Sort.scanUp (fun x=>!lt t[a]! x) t j i) j)) (by omega) (by omega) (by omega) (by omega) (by omega)
    rw [Sort.size_swp] at this
    exact this
   ·exact⟨by dsimp only;omega,by dsimp only;omega,rfl⟩
def keyA(f:Nat)(a:Int):Int:=if f=31 then -(max a 0 % 10) else a
theorem ordA_key(f:Nat)(a b:Int):ordA f a b=decide (keyA f a<keyA f b):=by
 unfold ordA keyA
 split
 ·exact decide_eq_decide.2 (by omega)
 ·rfl
theorem ltA_key(f:Nat)(x y:Int × Int):ltA f x y=decide (keyA f x.2<keyA f y.2∨(keyA f x.2=keyA f y.2∧x.1<y.1)):=by
 unfold ltA cmpA
 rw [ordA_key,ordA_key]
 refine decide_eq_decide.2 ?_
 by_cases h1:keyA f x.2<keyA f y.2
 ·have h2:¬ keyA f y.2<keyA f x.2:=by omega
  rw [decide_eq_true h1,decide_eq_false h2,if_pos (by rfl),if_pos rfl]
  exact⟨fun _=>.inl h1,fun _=>by decide⟩
 ·rw [decide_eq_false h1]
  by_cases h2:keyA f y.2<keyA f x.2
  ·rw [decide_eq_true h2,if_pos (by rfl),if_neg (by simp)]
   exact⟨fun h=>absurd h (by decide),fun h=>by omega⟩
  ·rw [decide_eq_false h2,if_neg (by simp)]
   by_cases h3:x.1<y.1
   ·rw [if_pos h3]
    exact⟨fun _=>.inr ⟨by omega,h3⟩,fun _=>by decide⟩
   ·rw [if_neg h3]
    refine⟨fun h=>?_,fun h=>by omega⟩
    exfalso
    split at h <;> omega
theorem ltA_swo(f:Nat):Sort.SWO (ltA f):=by
 refine⟨fun x=>?_,fun x y z h1 h2=>?_,fun x y z h1 h2=>?_⟩
 ·rw [ltA_key,decide_eq_false_iff_not];omega
 ·rw [ltA_key,decide_eq_true_eq] at *;omega
 ·rw [ltA_key,decide_eq_false_iff_not] at *;omega
def pdqT(lt:L2I)(a b L:Nat)(wb wp:Bool)(d3:A2)(pivot:Nat):A2:=
 if a > 0 && !lt d3[a - 1]! d3[pivot]! then
  (if a<(Sort.partitionEqual lt d3 a b pivot).1∧(Sort.partitionEqual lt d3 a b pivot).1≤b then Sort.pdq lt (Sort.partitionEqual lt d3 a b pivot).2 (Sort.partitionEqual lt d3 a b pivot).1 b L wb wp else(Sort.partitionEqual lt d3 a b pivot).2)
 else
  (if a≤(Sort.partition lt d3 a b pivot).1∧(Sort.partition lt d3 a b pivot).1<b then
   (if(Sort.partition lt d3 a b pivot).1 - a<b - (Sort.partition lt d3 a b pivot).1 then
    Sort.pdq lt (Sort.pdq lt (Sort.partition lt d3 a b pivot).2.2 a (Sort.partition lt d3 a b pivot).1 L true true) ((Sort.partition lt d3 a b pivot).1+1) b L (decide ((Sort.partition lt d3 a b pivot).1 - a ≥ (b - a) / 8)) (Sort.partition lt d3 a b pivot).2.1
   else
    Sort.pdq lt (Sort.pdq lt (Sort.partition lt d3 a b pivot).2.2 ((Sort.partition lt d3 a b pivot).1+1) b L true true) a (Sort.partition lt d3 a b pivot).1 L (decide (b - (Sort.partition lt d3 a b pivot).1 ≥ (b - a) / 8)) (Sort.partition lt d3 a b pivot).2.1)
  else(Sort.partition lt d3 a b pivot).2.2)
def pdqP(lt:L2I)(a b L:Nat)(wb wp:Bool)(hint:Sort.Hint)(d2:A2)(pivot:Nat):A2:=
 if(if wb && wp && hint = .increasing then Sort.partialInsertionSort lt d2 a b else(d2,false)).2 then(if wb && wp && hint = .increasing then Sort.partialInsertionSort lt d2 a b else(d2,false)).1
 else pdqT lt a b L wb wp (if wb && wp && hint = .increasing then Sort.partialInsertionSort lt d2 a b else(d2,false)).1 pivot
def pdqC(lt:L2I)(a b L:Nat)(wb wp:Bool)(d1:A2):A2:=
 pdqP lt a b L wb wp (if(Sort.choosePivot lt d1 a b).2 = .decreasing then Sort.Hint.increasing else(Sort.choosePivot lt d1 a b).2) (if(Sort.choosePivot lt d1 a b).2 = .decreasing then Sort.reverseRange d1 a b else d1) (if(Sort.choosePivot lt d1 a b).2 = .decreasing then(b - 1) - ((Sort.choosePivot lt d1 a b).1 - a) else(Sort.choosePivot lt d1 a b).1)
theorem pdq_un(lt:L2I)(d:A2)(a b L:Nat)(wb wp:Bool):Sort.pdq lt d a b L wb wp =
  if b - a≤12 then Sort.insertionSort lt d a b else if L=0 then Sort.heapSort lt d a b else pdqC lt a b (if !wb then L - 1 else L) wb wp (if !wb then Sort.breakPatterns d a b else d):=by
 rw [Sort.pdq]
 rfl
end HQ
end Go.Ev

/- Sorting items: pdqsort's contract. -/
namespace Go.Ev
open Go Go.Proofs Go.RowKit
variable {η:Nat→Value} {B:Bd}
namespace HQ
abbrev RPq(η:Nat→Value)(B:Bd)(f n cap:Nat)(d:A2)(a b m:Nat)(R:A2)(keep:List Nat)(S:(Nat→Value)→AS):Prop:=
 RunD η Try.prog B 62 (KPdq.H0 f n cap (aC d) a b m) keep (S fun _=>undef) (QF Try.prog 128 (KT.ret undef (heapS f (aC R))).sat)
abbrev LK:List Nat:=[0,1,2,3,4,10,11,12,13,14]
theorem insC_eq(f:Nat)(d:A2)(a b:Nat):insC f (aC d) a b=aC (Sort.insertionSort (ltA f) d a b):=by unfold insC;rw [aC_arr]
theorem hsC_eq(f:Nat)(d:A2)(a b:Nat):hsC f (aC d) a b=aC (Sort.heapSort (ltA f) d a b):=by unfold hsC;rw [aC_arr]
theorem brC_eq(d:A2)(a b:Nat):brC (aC d) a b=aC (Sort.breakPatterns d a b):=by unfold brC;rw [aC_arr]
theorem rvC_eq(d:A2)(a b:Nat):rvC (aC d) a b=aC (Sort.reverseRange d a b):=by unfold rvC;rw [aC_arr]
theorem plB_eq(f:Nat)(d:A2)(a b:Nat):plB f (aC d) a b=(Sort.partialInsertionSort (ltA f) d a b).2:=by unfold plB;rw [aC_arr]
theorem plC_eq(f:Nat)(d:A2)(a b:Nat):plC f (aC d) a b=aC (Sort.partialInsertionSort (ltA f) d a b).1:=by unfold plC;rw [aC_arr]
theorem peM_eq(f:Nat)(d:A2)(a b p:Nat):peM f (aC d) a b p=(Sort.partitionEqual (ltA f) d a b p).1:=by unfold peM;rw [aC_arr]
theorem peC_eq(f:Nat)(d:A2)(a b p:Nat):peC f (aC d) a b p=aC (Sort.partitionEqual (ltA f) d a b p).2:=by unfold peC;rw [aC_arr]
theorem paM_eq(f:Nat)(d:A2)(a b p:Nat):paM f (aC d) a b p=(Sort.partition (ltA f) d a b p).1:=by unfold paM;rw [aC_arr]
theorem paB_eq(f:Nat)(d:A2)(a b p:Nat):paB f (aC d) a b p=(Sort.partition (ltA f) d a b p).2.1:=by unfold paB;rw [aC_arr]
theorem paC_eq(f:Nat)(d:A2)(a b p:Nat):paC f (aC d) a b p=aC (Sort.partition (ltA f) d a b p).2.2:=by unfold paC;rw [aC_arr]
theorem pdC_eq(f:Nat)(d:A2)(a b m:Nat):pdC f (aC d) a b m=aC (Sort.pdq (ltA f) d a b m true true):=by unfold pdC;rw [aC_arr]
theorem rv_t2{σ:Nat→Nat}{N:Nat}{wk:Bool}{x y:Value}(hx:RV σ N wk x x)(hy:RV σ N wk y y):RV σ N wk (tupL [x,y]) (tupL [x,y]):=.tuple rfl (fun i v w h1 h2=>by
 match i,h1,h2 with
 | 0,h1,h2=>cases h1;cases h2;exact hx
 | 1,h1,h2=>cases h1;cases h2;exact hy
 | i+2,h1,h2=>simp [tupL] at h1)
theorem gt_zero(a:Nat):decide ((a:Int) > 0)=decide (a > 0):=decide_eq_decide.2 (by omega)
theorem pdq_size(f:Nat):∀ (N:Nat) (d:A2) (a b L:Nat) (wb wp:Bool),b - a<N→a≤b→b≤d.size→(Sort.pdq (ltA f) d a b L wb wp).size=d.size:=by
 intro N
 induction N with
 | zero=>intro d a b L wb wp h;omega
 | succ N ih=>
  intro d a b L wb wp h hab hb
  rw [pdq_un]
  split
  ·exact insOuter_size _ _ _ _ _ _ (Nat.le_refl _)
  split
  ·unfold Sort.heapSort;rw [heapPop_size,heapBuild_size]
  rename_i h12 _
  have T:∀ (L:Nat) (wb wp:Bool) (d3:A2) (p:Nat),d3.size=d.size→a≤p→p<b→(pdqT (ltA f) a b L wb wp d3 p).size=d.size:=by
   intro L wb wp d3 p hs hp hpb
   have pr:=Sort.partition_holds (ltA f) (ltA_swo f) d3 a b p hp hpb (by omega)
   have pe:=partEqLoop_r (ltA f) a b (b+2) (a+1) (b - 1) (Sort.swp d3 a p) (by omega) (by omega) (by omega) (by omega) (by omega)
   rw [Sort.size_swp] at pe
   have hPE:Sort.partEqLoop (ltA f) a (a+1) (b - 1) (Sort.swp d3 a p)=Sort.partitionEqual (ltA f) d3 a b p:=rfl
   rw [hPE] at pe
   have p3:=pr.2.2.1.1
   unfold pdqT
   split
   ·split
    ·rw [ih _ _ _ _ _ _ (by omega) (by omega) (by omega),pe.2.2,hs]
    ·rw [pe.2.2,hs]
   ·split
    ·split
     ·have e1:=ih (Sort.partition (ltA f) d3 a b p).2.2 a (Sort.partition (ltA f) d3 a b p).1 L true true (by omega) (by omega) (by omega)
      rw [ih _ _ _ _ _ _ (by omega) (by omega) (by omega),e1,p3,hs]
     ·have e1:=ih (Sort.partition (ltA f) d3 a b p).2.2 ((Sort.partition (ltA f) d3 a b p).1+1) b L true true (by omega) (by omega) (by omega)
      rw [ih _ _ _ _ _ _ (by omega) (by omega) (by omega),e1,p3,hs]
    ·rw [p3,hs]
  have C:∀ (L:Nat) (wb wp:Bool) (d1:A2),d1.size=d.size→(pdqC (ltA f) a b L wb wp d1).size=d.size:=by
   intro L wb wp d1 hs
   have cr:=Sort.choosePivot_holds (ltA f) d1 a b (by omega)
   have rs:(Sort.reverseRange d1 a b).size=d.size:=by rw [← hs];exact(Sort.reverseRange_holds d1 a b hab (by omega)).1
   have P:∀ (hint:Sort.Hint) (d2:A2) (p:Nat),d2.size=d.size→a≤p→p<b→(pdqP (ltA f) a b L wb wp hint d2 p).size=d.size:=by
    intro hint d2 p hs hp hpb
    have ps:(Sort.partialInsertionSort (ltA f) d2 a b).1.size=d.size:=by rw [← hs];exact partialIns_size _ _ _ _ _ _
    unfold pdqP
    cases hc:(wb && wp && decide (hint=Sort.Hint.increasing))
    ·simp only [Bool.false_eq_true,if_false]
     exact T _ _ _ _ _ hs hp hpb
    ·simp only [if_true]
     split
     ·exact ps
     ·exact T _ _ _ _ _ ps hp hpb
   unfold pdqC
   refine P _ _ _ ?_ ?_ ?_
   ·split
    ·exact rs
    ·exact hs
   ·split <;> omega
   ·split <;> omega
  refine C _ _ _ _ ?_
  split
  ·exact(Sort.breakPatterns_holds d a b hab hb).1
  ·rfl
def PdqSpec(η:Nat→Value)(B:Bd)(f n cap N:Nat):Prop:=∀ (d:A2) (a b m:Nat),b - a<N→a≤b→b≤n→n≤d.size→d.size≤1000000→m≤1000→
 CallSpec η Try.prog B 62 (sArgs n cap [.int .i64 (a:Int),.int .i64 (b:Int),.int .i64 (m:Int)]) (heapS f (aC d)) (KT.ret undef (heapS f (aC (Sort.pdq (ltA f) d a b m true true)))).sat
def BreakSpec(η:Nat→Value)(B:Bd)(f n cap:Nat):Prop:=∀ (d:A2) (a b:Nat),a≤b→b≤n→n≤d.size→d.size≤1000000→
 CallSpec η Try.prog B 76 (sArgs n cap [.int .i64 (a:Int),.int .i64 (b:Int)]) (heapS f (aC d)) (KT.ret undef (heapS f (aC (Sort.breakPatterns d a b)))).sat
set_option maxHeartbeats 8000000 in
theorem pdq_step(hη:OneCells η)(hmix:Try.prog.follows .mixedOrders=true){f n cap N:Nat}(hf:isOrd f)(hbk:BreakSpec η B f n cap)(ih:PdqSpec η B f n cap N):PdqSpec η B f n cap (N+1):=by
 intro d a b m hN hab hb hn hm hM
 generalize hR:Sort.pdq (ltA f) d a b m true true=R
 have cut0:=fun i0 l0 b0 b1 i1 i2=>KPdq.cut0 (η:=η) (B:=B) (D:=(KT.ret undef (heapS f (aC R))).sat) hη hmix (reg0 hη hmix) f n cap (aC d) a b m i0 l0 b0 b1 i1 i2
 have cut1:=fun i0 i1 b0 i2 i3 b1 l0=>KPdq.cut1 (η:=η) (B:=B) (D:=(KT.ret undef (heapS f (aC R))).sat) hη hmix (reg0 hη hmix) f n cap (aC d) a b m i0 i1 b0 i2 i3 b1 l0
 have cut2:=fun i0 i1 b0 i2 i3 i4 b1 i5 l0=>KPdq.cut2 (η:=η) (B:=B) (D:=(KT.ret undef (heapS f (aC R))).sat) hη hmix (reg0 hη hmix) f n cap (aC d) a b m i0 i1 b0 i2 i3 i4 b1 i5 l0
 have cut3:=fun i0 i1 l0 i2 i3 b0 i4 i5 b1=>KPdq.cut3 (η:=η) (B:=B) (D:=(KT.ret undef (heapS f (aC R))).sat) hη hmix (reg0 hη hmix) f n cap (aC d) a b m i0 i1 l0 i2 i3 b0 i4 i5 b1
 have cut4:=fun l0 i0 i1 b0 i2 i3 b1 i4=>KPdq.cut4 (η:=η) (B:=B) (D:=(KT.ret undef (heapS f (aC R))).sat) hη hmix (reg0 hη hmix) f n cap (aC d) a b m l0 i0 i1 b0 i2 i3 b1 i4
 have loop:∀ (k a' b' L:Nat) (wb wp:Bool) (t:A2),b' - a'<k→b' - a'≤N→a'≤b'→b'≤n→L≤1000→t.size=d.size→Sort.pdq (ltA f) t a' b' L wb wp=R→RPq η B f n cap d a b m R [0,1,2,3,4,10,11] (KPdq.S0 f n cap (aC d) a b m (a':Int) (aC t) wp wb (b':Int) (L:Int)):=by
  intro k
  induction k with
  | zero=>intro a' b' L wb wp t h;omega
  | succ k ihk=>
   intro a' b' L wb wp t hk hw hab' hb' hL ht he
   rw [pdq_un] at he
   have wba:IntKind.i64.wrap ((b':Int) - (a':Int))=((b' - a':Nat):Int):=wn _ (by omega) (by omega)
   refine cut0 _ _ _ _ _ _ ?_
   have h12:decide (((b' - a':Nat):Int)≤12)=decide (b' - a'≤12):=le_nat _ 12
   by_cases q1:b' - a'≤12
   ·rw [if_pos q1] at he
    subst he
    simp only [W.holds,wba,h12,insC_eq,Int.toNat_natCast,decide_eq_true_eq,decide_eq_false_iff_not,aC_nn,true_and,and_true,true_implies]
    refine⟨fun _=>⟨here_S hη (c:=t) rfl (by kernel_rfl) (by kernel_rfl) (fun _ _=>rv_un) (by kernel_rfl) (ins_ok hη hmix hf hb' (by omega) (by omega) (by omega)),rfl,by kernel_rfl⟩,fun q=>absurd q1 q⟩
   ·rw [if_neg q1] at he
    have hab2:a'<b':=by omega
    have wl8:(((b' - a':Nat):Int)).tdiv 8=(((b' - a') / 8:Nat):Int):=by rw [Int.tdiv_eq_ediv_of_nonneg (by omega)];omega
    have w8:IntKind.i64.wrap (((b' - a') / 8:Nat):Int)=(((b' - a') / 8:Nat):Int):=ww _ (by omega)
    have s4:∀ (t:A2) (p L:Nat),t.size=d.size→L≤1000→a'≤p→p<b'→pdqT (ltA f) a' b' L wb wp t p=R→RPq η B f n cap d a b m R [0,1,2,3,4,10,11,12,13] (KPdq.S4 f n cap (aC d) a b m (aC t) (a':Int) (L:Int) wp (b':Int) ((b' - a':Nat):Int) wb (p:Int)):=by
     intro t p L ht hL hap hpb he
     have hP:p<t.size:=by omega
     obtain⟨b1,b2⟩:=aC_int hP
     have pr:=Sort.partition_holds (ltA f) (ltA_swo f) t a' b' p hap hpb (by omega)
     have par:=part_ok (η:=η) (B:=B) (cap:=cap) hη hmix hf hap hpb hb' (show n≤t.size by omega) (by omega)
     generalize hPA:Sort.partition (ltA f) t a' b' p=PA at pr par
     obtain⟨mid,ap,d4⟩:=PA
     have hs4:d4.size=d.size:=by rw [pr.2.2.1.1,ht]
     have r1:a'≤mid:=pr.1
     have r2:mid<b':=pr.2.1
     have wm1:IntKind.i64.wrap ((mid:Int) - (a':Int))=((mid - a':Nat):Int):=wn _ (by omega) (by omega)
     have wm2:IntKind.i64.wrap ((b':Int) - (mid:Int))=((b' - mid:Nat):Int):=wn _ (by omega) (by omega)
     have he2:(a' > 0 && !ltA f t[a' - 1]! t[p]!)=false→(if mid - a'<b' - mid then
       Sort.pdq (ltA f) (Sort.pdq (ltA f) d4 a' mid L true true) (mid+1) b' L (decide (mid - a' ≥ (b' - a') / 8)) ap
      else Sort.pdq (ltA f) (Sort.pdq (ltA f) d4 (mid+1) b' L true true) a' mid L (decide (b' - mid ≥ (b' - a') / 8)) ap)=R:=fun e=>by
      unfold pdqT at he
      rw [if_neg (by rw [e];simp),hPA,if_pos ⟨r1,r2⟩] at he
      exact he
     have low:(a' > 0 && !ltA f t[a' - 1]! t[p]!)=false→mid - a'<b' - mid→RPq η B f n cap d a b m R [0,1,2,3,4,10,11] (KPdq.S0 f n cap (aC d) a b m ((mid+1:Nat):Int) (aC (Sort.pdq (ltA f) d4 a' mid L true true)) ap (decide (mid - a' ≥ (b' - a') / 8)) (b':Int) (L:Int)):=fun e h=>by
      have he:=he2 e
      rw [if_pos h] at he
      exact ihk (mid+1) b' L _ ap _ (by omega) (by omega) (by omega) hb' hL (by rw [pdq_size f (b'+2) _ _ _ _ _ _ (by omega) (by omega) (by omega),hs4]) he
     have high:(a' > 0 && !ltA f t[a' - 1]! t[p]!)=false→¬ mid - a'<b' - mid→RPq η B f n cap d a b m R [0,1,2,3,4,10,11] (KPdq.S0 f n cap (aC d) a b m (a':Int) (aC (Sort.pdq (ltA f) d4 (mid+1) b' L true true)) ap (decide (b' - mid ≥ (b' - a') / 8)) (mid:Int) (L:Int)):=fun e h=>by
      have he:=he2 e
      rw [if_neg h] at he
      exact ihk a' mid L _ ap _ (by omega) (by omega) (by omega) (by omega) hL (by rw [pdq_size f (b'+2) _ _ _ _ _ _ (by omega) (by omega) (by omega),hs4]) he
     have rl:=ih d4 a' mid L (by omega) r1 (by omega) (by omega) (by omega) hL
     have rh:=ih d4 (mid+1) b' L (by omega) (by omega) hb' (by omega) (by omega) hL
     refine cut4 _ _ _ _ _ _ _ _ ?_
     by_cases q0:a' > 0
     ·have hA:a' - 1<t.size:=by omega
      obtain⟨a1,a2⟩:=aC_int hA
      have pe:=partEqLoop_r (ltA f) a' b' (b'+2) (a'+1) (b' - 1) (Sort.swp t a' p) (by omega) (by omega) (by omega) (by omega) (by omega)
      have pek:=parteq_ok (η:=η) (B:=B) (cap:=cap) hη hmix hf hap hpb hb' (show n≤t.size by omega) (by omega)
      rw [Sort.size_swp] at pe
      have hPE:Sort.partEqLoop (ltA f) a' (a'+1) (b' - 1) (Sort.swp t a' p)=Sort.partitionEqual (ltA f) t a' b' p:=rfl
      rw [hPE] at pe
      have heq:ltA f t[a' - 1]! t[p]! = false→Sort.pdq (ltA f) (Sort.partitionEqual (ltA f) t a' b' p).2 (Sort.partitionEqual (ltA f) t a' b' p).1 b' L wb wp=R:=fun e=>by
       unfold pdqT at he
       rw [if_pos (by rw [e,decide_eq_true q0];rfl),if_pos ⟨pe.1,pe.2.1⟩] at he
       exact he
      generalize hPQ:Sort.partitionEqual (ltA f) t a' b' p=PE at pe heq pek
      obtain⟨mq,dq⟩:=PE
      have eqn:ltA f t[a' - 1]! t[p]! = false→RPq η B f n cap d a b m R [0,1,2,3,4,10,11] (KPdq.S0 f n cap (aC d) a b m (mq:Int) (aC dq) wp wb (b':Int) (L:Int)):=fun e=>by
       have p1:a'<mq:=pe.1
       have p2:mq≤b':=pe.2.1
       exact ihk mq b' L wb wp dq (by omega) (by omega) p2 hb' hL (by rw [pe.2.2,ht]) (heq e)
      have bk:ltA f t[a' - 1]! t[p]! = true→(a' > 0 && !ltA f t[a' - 1]! t[p]!)=false:=fun e=>by rw [e];simp
      simp only [W.holds,gt_zero,lt_nat,ge_nat,wm a' (by omega) q0,HQ.wp mid (by omega),peM_eq,peC_eq,paM_eq,paB_eq,paC_eq,pdC_eq,hPA,hPQ,wm1,wm2,wl8,w8,Bool.not_eq_true',Bool.not_eq_false',decide_eq_true_eq,decide_eq_false_iff_not,Int.toNat_natCast,Nat.zero_add,Nat.add_zero,a1,a2,b1,b2,aC_cut hA,aC_cut hP,aC_len,aC_nn,true_and,and_true,true_implies]
      repeat' first
       | exact cmp_at hη hmix hf (l:=aC t) (by kernel_rfl) _ _ _ _
       | exact here_S hη (c:=t) (c':=dq) rfl (by kernel_rfl) (by kernel_rfl) (fun _ _=>.int _ _) (by kernel_rfl) pek
       | exact here_S hη (c:=t) (c':=d4) rfl (by kernel_rfl) (by kernel_rfl) (fun _ _=>rv_t2 (.int _ _) (.bool _)) (by kernel_rfl) par
       | exact here_S hη (c:=d4) rfl (by kernel_rfl) (by kernel_rfl) (fun _ _=>rv_un) (by kernel_rfl) rl
       | exact here_S hη (c:=d4) rfl (by kernel_rfl) (by kernel_rfl) (fun _ _=>rv_un) (by kernel_rfl) rh
       | exact eqn (decide_eq_false (by assumption))
       | exact low (bk (decide_eq_true (by assumption))) (by assumption)
       | exact high (bk (decide_eq_true (by assumption))) (by assumption)
       | (exfalso;omega)
       | refine And.intro (by omega) (fun _=>?_)
       | refine And.intro ?_ ?_
       | intro _
     ·have bk:(a' > 0 && !ltA f t[a' - 1]! t[p]!)=false:=by rw [decide_eq_false q0];rfl
      simp only [W.holds,gt_zero,lt_nat,ge_nat,HQ.wp mid (by omega),paM_eq,paB_eq,paC_eq,pdC_eq,hPA,wm1,wm2,wl8,w8,Bool.not_eq_true',Bool.not_eq_false',decide_eq_true_eq,decide_eq_false_iff_not,Int.toNat_natCast,Nat.zero_add,Nat.add_zero,aC_len,aC_nn,true_and,and_true,true_implies]
      refine⟨fun q=>absurd q q0,fun _=>?_⟩
      repeat' first
       | exact here_S hη (c:=t) (c':=d4) rfl (by kernel_rfl) (by kernel_rfl) (fun _ _=>rv_t2 (.int _ _) (.bool _)) (by kernel_rfl) par
       | exact here_S hη (c:=d4) rfl (by kernel_rfl) (by kernel_rfl) (fun _ _=>rv_un) (by kernel_rfl) rl
       | exact here_S hη (c:=d4) rfl (by kernel_rfl) (by kernel_rfl) (fun _ _=>rv_un) (by kernel_rfl) rh
       | exact low bk (by assumption)
       | exact high bk (by assumption)
       | (exfalso;omega)
       | refine And.intro (by omega) (fun _=>?_)
       | refine And.intro ?_ ?_
       | intro _
    have one:∀ h:Sort.Hint,(Sort.hintCode h == 1)=decide (h = .increasing):=fun h=>by cases h <;> rfl
    have two:∀ h:Sort.Hint,(Sort.hintCode h == 2)=decide (h = .decreasing):=fun h=>by cases h <;> rfl
    have s3:∀ (t:A2) (p:Nat) (hint:Sort.Hint) (L:Nat),t.size=d.size→L≤1000→a'≤p→p<b'→pdqP (ltA f) a' b' L wb wp hint t p=R→RPq η B f n cap d a b m R LK (KPdq.S3 f n cap (aC d) a b m (p:Int) (Sort.hintCode hint) (aC t) (a':Int) (L:Int) wp (b':Int) ((b' - a':Nat):Int) wb):=by
     intro t p hint L ht hL hap hpb he
     refine cut3 _ _ _ _ _ _ _ _ _ ?_
     by_cases c:wb=true∧wp=true∧hint = .increasing
     ·obtain⟨c1,c2,c3⟩:=c
      have he:(if(Sort.partialInsertionSort (ltA f) t a' b').2 then(Sort.partialInsertionSort (ltA f) t a' b').1 else pdqT (ltA f) a' b' L wb wp (Sort.partialInsertionSort (ltA f) t a' b').1 p)=R:=by
       rw [← he]
       unfold pdqP
       simp only [c1,c2,c3,Bool.and_self,decide_true,if_true]
      have ps:(Sort.partialInsertionSort (ltA f) t a' b').1.size=d.size:=by rw [← ht];exact partialIns_size _ _ _ _ _ _
      have pk:=partial_ok (η:=η) (B:=B) (cap:=cap) hη hmix hf hab2 hb' (show n≤t.size by omega) (by omega)
      have sp:=s4 (Sort.partialInsertionSort (ltA f) t a' b').1 p L ps hL hap hpb
      simp only [W.holds,c1,c2,c3,one,decide_true,plB_eq,plC_eq,Int.toNat_natCast,aC_nn,true_and,and_true,true_implies]
      have dn:(Sort.partialInsertionSort (ltA f) t a' b').2=true→R=(Sort.partialInsertionSort (ltA f) t a' b').1:=fun e=>by
       rw [if_pos e] at he
       exact he.symm
      have sn:(Sort.partialInsertionSort (ltA f) t a' b').2=false→_:=fun e=>by
       rw [if_neg (by rw [e];simp)] at he
       exact sp he
      rw [c1,c2] at sn
      repeat' first
       | exact here_S hη (c:=t) rfl (by kernel_rfl) (by kernel_rfl) (fun _ _=>.bool _) (by kernel_rfl) pk
       | exact⟨rfl,by rw [dn (by assumption)];kernel_rfl⟩
       | exact sn (by assumption)
       | contradiction
       | refine And.intro ?_ ?_
       | intro _
     ·have hc:(wb && wp && decide (hint=Sort.Hint.increasing))=false:=by
       cases hb:wb <;> cases hw:wp <;> simp_all
      have he:pdqT (ltA f) a' b' L wb wp t p=R:=by
       rw [← he]
       unfold pdqP
       simp only [hc,Bool.false_eq_true,if_false]
      have nx:=s4 t p L ht hL hap hpb he
      simp only [W.holds,one,decide_eq_true_eq,aC_nn,true_and,and_true,true_implies]
      exact⟨fun h1=>⟨fun h2=>⟨fun h3=>absurd ⟨h1,h2,h3⟩ c,fun _=>nx⟩,fun _=>nx⟩,fun _=>nx⟩
    have s2:∀ (t:A2) (p:Nat) (hint:Sort.Hint) (L:Nat),t.size=d.size→L≤1000→a'≤p→p<b'→pdqP (ltA f) a' b' L wb wp (if hint = .decreasing then Sort.Hint.increasing else hint) (if hint = .decreasing then Sort.reverseRange t a' b' else t) (if hint = .decreasing then(b' - 1) - (p - a') else p)=R→
      RPq η B f n cap d a b m R LK (KPdq.S2 f n cap (aC d) a b m (a':Int) (L:Int) wp (p:Int) (b':Int) ((b' - a':Nat):Int) wb (Sort.hintCode hint) (aC t)):=by
     intro t p hint L ht hL hap hpb he
     refine cut2 _ _ _ _ _ _ _ _ _ ?_
     by_cases c:hint = .decreasing
     ·rw [if_pos c,if_pos c,if_pos c] at he
      have rs:(Sort.reverseRange t a' b').size=d.size:=by rw [← ht];exact(Sort.reverseRange_holds t a' b' (by omega) (by omega)).1
      have rk:=rev_ok (η:=η) (B:=B) (f:=f) (cap:=cap) hη hmix hab2 hb' (show n≤t.size by omega) (by omega)
      have nx:=s3 (Sort.reverseRange t a' b') ((b' - 1) - (p - a')) .increasing L rs hL (by omega) (by omega) he
      have v1:IntKind.i64.wrap ((b':Int) - 1)=((b' - 1:Nat):Int):=wm b' (by omega) (by omega)
      have v2:IntKind.i64.wrap ((p:Int) - (a':Int))=((p - a':Nat):Int):=wn _ (by omega) (by omega)
      have v3:IntKind.i64.wrap (((b' - 1:Nat):Int) - ((p - a':Nat):Int))=(((b' - 1) - (p - a'):Nat):Int):=wn _ (by omega) (by omega)
      simp only [W.holds,two,c,decide_true,v1,v2,v3,rvC_eq,Int.toNat_natCast,aC_nn,true_and,and_true,true_implies]
      repeat' first
       | exact here_S hη (c:=t) rfl (by kernel_rfl) (by kernel_rfl) (fun _ _=>rv_un) (by kernel_rfl) rk
       | exact nx
       | contradiction
       | refine And.intro ?_ ?_
       | intro _
     ·rw [if_neg c,if_neg c,if_neg c] at he
      have nx:=s3 t p hint L ht hL hap hpb he
      simp only [W.holds,two,decide_eq_true_eq,aC_nn,true_and,and_true,true_implies]
      exact⟨fun h=>absurd h c,fun _=>nx⟩
    have s1:∀ (t:A2) (L:Nat),t.size=d.size→L≤1000→pdqC (ltA f) a' b' L wb wp t=R→RPq η B f n cap d a b m R [0,1,2,3,4,10,11,12] (KPdq.S1 f n cap (aC d) a b m (a':Int) (L:Int) wp (b':Int) ((b' - a':Nat):Int) wb (aC t)):=by
     intro t L ht hL he
     have cr:=Sort.choosePivot_holds (ltA f) t a' b' hab2
     have ck:=choose_ok (η:=η) (B:=B) (cap:=cap) hη hmix hf (show a'≤b' by omega) hb' (show n≤t.size by omega) (by omega)
     rw [chP_eq,chH_eq] at ck
     have nx:=s2 t _ _ L ht hL cr.1 cr.2 he
     refine cut1 _ _ _ _ _ _ _ ?_
     simp only [W.holds,chP_eq,chH_eq,Int.toNat_natCast,aC_nn,true_and,and_true,true_implies]
     exact⟨here_S hη (c:=t) (c':=t) rfl (by kernel_rfl) (by kernel_rfl) (fun _ _=>rv_t2 (.int _ _) (.int _ _)) (by kernel_rfl) ck,nx⟩
    have L0:(((L:Int)) == 0)=decide (L=0):=by
     by_cases h:L=0
     ·subst h;rfl
     ·rw [decide_eq_false h,beq_eq_false_iff_ne];omega
    by_cases q2:L=0
    ·rw [if_pos q2] at he
     subst he
     have hk:=hsort_ok (η:=η) (B:=B) (cap:=cap) hη hmix hf hab2 hb' (show n≤t.size by omega) (by omega)
     simp only [W.holds,wba,h12,L0,hsC_eq,Int.toNat_natCast,decide_eq_true_eq,decide_eq_false_iff_not,aC_nn,true_and,and_true,true_implies]
     exact⟨fun h=>absurd h q1,fun _=>⟨fun _=>⟨here_S hη (c:=t) rfl (by kernel_rfl) (by kernel_rfl) (fun _ _=>rv_un) (by kernel_rfl) hk,rfl,by kernel_rfl⟩,fun h=>absurd q2 h⟩⟩
    ·rw [if_neg q2] at he
     have vL:IntKind.i64.wrap ((L:Int) - 1)=((L - 1:Nat):Int):=wm L (by omega) (by omega)
     cases hwb:wb with
     | false=>
      have he:pdqC (ltA f) a' b' (L - 1) wb wp (Sort.breakPatterns t a' b')=R:=by rw [← he,hwb];rfl
      have bs:(Sort.breakPatterns t a' b').size=d.size:=by rw [← ht];exact(Sort.breakPatterns_holds t a' b' (by omega) (by omega)).1
      have bk:=hbk t a' b' (by omega) hb' (by omega) (by omega)
      have nx:=s1 _ (L - 1) bs (by omega) he
      rw [hwb] at nx
      simp only [W.holds,wba,h12,L0,vL,brC_eq,Int.toNat_natCast,decide_eq_true_eq,decide_eq_false_iff_not,Bool.not_false,aC_nn,true_and,and_true,true_implies]
      repeat' first
       | exact here_S hη (c:=t) rfl (by kernel_rfl) (by kernel_rfl) (fun _ _=>rv_un) (by kernel_rfl) bk
       | exact nx
       | contradiction
       | refine And.intro ?_ ?_
       | intro _
     | true=>
      have he:pdqC (ltA f) a' b' L wb wp t=R:=by rw [← he,hwb];rfl
      have nx:=s1 t L ht hL he
      rw [hwb] at nx
      simp only [W.holds,wba,h12,L0,Int.toNat_natCast,decide_eq_true_eq,decide_eq_false_iff_not,Bool.not_true,aC_nn,true_and,and_true,true_implies]
      repeat' first
       | exact nx
       | contradiction
       | refine And.intro ?_ ?_
       | intro _
 refine KPdq.enter hη hmix (reg0 hη hmix) _ _ _ _ _ _ _ ?_
 simp only [W.holds,aC_nn,true_and,and_true,true_implies]
 exact loop (b+1) a b m true true d (by omega) (by omega) hab hb hM rfl hR
end HQ
end Go.Ev

namespace Go.Ev
open Go Go.Proofs
open Go.Ev.T renaming node → nN, nil → nZ
open Go.Proofs.Try (prog)
set_option maxRecDepth 100000
set_option maxHeartbeats 2000000
namespace KNext
noncomputable def bd:Code:=(Go.Proofs.Try.f87.body).getD .skip
noncomputable def H0(x:Nat):AH:={ objs:=eE nZ (eE nZ (eE nZ (eE nZ (eE nZ (eE nZ (lL (AObj.cells 144 [Value.int IntKind.u64 (↑x:Int)] true 2))))))),next:=127 }
noncomputable def E(x:Nat):AS:=⟨⟨87,33,lL (pP 126 0),[Item.code (codeAt bd [])],[],FrameMode.run,CallKind.normal,none⟩,[],H0 x⟩
theorem enter{η:Nat→Value}{B:Bd}(hη:OneCells η)(hmix:prog.follows .mixedOrders=true)(hreg:RegOk η prog B noNest){D:Value→AH→Prop}(x:Nat)(h:let q0:=(IntKind.u64.wrap (↑(BitVec.ofInt IntKind.u64.bits (IntKind.u64.wrap (↑(BitVec.ofInt IntKind.u64.bits (IntKind.u64.wrap (↑(BitVec.ofInt IntKind.u64.bits (↑x:Int) ^^^ BitVec.ofInt IntKind.u64.bits (IntKind.u64.wrap ((↑x:Int) * 2 ^ min (Int.toNat 13) IntKind.u64.bits))).toNat:Int)) ^^^ BitVec.ofInt IntKind.u64.bits ((IntKind.u64.wrap (↑(BitVec.ofInt IntKind.u64.bits (↑x:Int) ^^^ BitVec.ofInt IntKind.u64.bits (IntKind.u64.wrap ((↑x:Int) * 2 ^ min (Int.toNat 13) IntKind.u64.bits))).toNat:Int)).fdiv (2 ^ min (Int.toNat 7) IntKind.u64.bits))).toNat:Int)) ^^^ BitVec.ofInt IntKind.u64.bits (IntKind.u64.wrap (IntKind.u64.wrap (↑(BitVec.ofInt IntKind.u64.bits (IntKind.u64.wrap (↑(BitVec.ofInt IntKind.u64.bits (↑x:Int) ^^^ BitVec.ofInt IntKind.u64.bits (IntKind.u64.wrap ((↑x:Int) * 2 ^ min (Int.toNat 13) IntKind.u64.bits))).toNat:Int)) ^^^ BitVec.ofInt IntKind.u64.bits ((IntKind.u64.wrap (↑(BitVec.ofInt IntKind.u64.bits (↑x:Int) ^^^ BitVec.ofInt IntKind.u64.bits (IntKind.u64.wrap ((↑x:Int) * 2 ^ min (Int.toNat 13) IntKind.u64.bits))).toNat:Int)).fdiv (2 ^ min (Int.toNat 7) IntKind.u64.bits))).toNat:Int) * 2 ^ min (Int.toNat 17) IntKind.u64.bits))).toNat:Int));W.holds η prog B 87 (fun kp_ st_=>RunD η prog B 87 (H0 x) kp_ st_ (QF prog 127 D)) D (.need (True∧True) (.done 87 (Value.int IntKind.u64 q0) (⟨eE nZ (eE nZ (eE nZ (eE nZ (eE nZ (eE nZ (lL (AObj.cells 144 [Value.int IntKind.u64 q0] true 2))))))),127⟩)))):CallSpec η prog B 87 [Value.pointer (some ⟨126,0,none⟩)] (H0 x) D:=by
 refine CallSpec.ofQF hη (CallSpec.enter (fr:=(E x).fr) (by kernel_rfl) ?_)
 exact walk_okT (h0:=H0 x) hη hmix hreg (.steps 18 <| .done (some ⟨127,[],[(126,(126,false))]⟩)) (E x) (by kernel_rfl) h (by kernel_rfl)
end KNext
end Go.Ev

/- Sorting items: the numbers that break patterns. -/
namespace Go.Ev
open Go Go.Proofs Go.RowKit
variable {η:Nat→Value} {B:Bd}
namespace HQ
theorem wu(x:Nat)(h:x<18446744073709551616):IntKind.u64.wrap (x:Int)=(x:Int):=by
 show(x:Int) % 18446744073709551616=x
 omega
theorem wush(x k:Nat):IntKind.u64.wrap ((x:Int) * (k:Int))=((x * k % 18446744073709551616:Nat):Int):=by
 show((x:Int) * (k:Int)) % 18446744073709551616=_
 rw [← Int.natCast_mul]
 omega
theorem wxor(a b:Nat)(ha:a<18446744073709551616)(hb:b<18446744073709551616):IntKind.u64.wrap (((BitVec.ofInt IntKind.u64.bits (a:Int) ^^^ BitVec.ofInt IntKind.u64.bits (b:Int)).toNat:Nat):Int)=((a ^^^ b:Nat):Int):=by
 have e:∀ x:Nat,x<18446744073709551616→(BitVec.ofInt 64 (x:Int)).toNat=x:=fun x hx=>by
  rw [BitVec.toNat_ofInt];omega
 have:(BitVec.ofInt IntKind.u64.bits (a:Int) ^^^ BitVec.ofInt IntKind.u64.bits (b:Int)).toNat=a ^^^ b:=by
  show(BitVec.ofInt 64 (a:Int) ^^^ BitVec.ofInt 64 (b:Int)).toNat=a ^^^ b
  rw [BitVec.toNat_xor,e a ha,e b hb]
 rw [this]
 exact wu _ (Nat.xor_lt_two_pow (n:=64) (by omega) (by omega))
theorem wfd(x:Nat):((x:Int)).fdiv 128=((x / 128:Nat):Int):=by
 rw [Int.fdiv_eq_ediv_of_nonneg _ (by omega)];omega
theorem next_ok(hη:OneCells η)(hmix:Try.prog.follows .mixedOrders=true){x:Nat}(hx:x<18446744073709551616) :
  CallSpec η Try.prog B 87 [.pointer (some ⟨126,0,none⟩)] (heapO [.cells 144 [.int .u64 (x:Int)] true 2]) (KT.ret (.int .u64 ((Sort.xorNextN x:Nat):Int)) (heapO [.cells 144 [.int .u64 ((Sort.xorNextN x:Nat):Int)] true 2])).sat:=by
 have e13:(2:Int) ^ min (Int.toNat 13) IntKind.u64.bits=((8192:Nat):Int):=by decide
 have e17:(2:Int) ^ min (Int.toNat 17) IntKind.u64.bits=((131072:Nat):Int):=by decide
 have e7:(2:Int) ^ min (Int.toNat 7) IntKind.u64.bits=128:=by decide
 have h1:x ^^^ (x * 8192 % 18446744073709551616)<18446744073709551616:=Nat.xor_lt_two_pow (n:=64) (by omega) (by omega)
 have h2:(x ^^^ (x * 8192 % 18446744073709551616)) ^^^ ((x ^^^ (x * 8192 % 18446744073709551616)) / 128)<18446744073709551616:=Nat.xor_lt_two_pow (n:=64) (by omega) (by omega)
 refine KNext.enter hη hmix (reg0 hη hmix) _ ?_
 simp only [W.holds,e13,e17,e7,wush,wfd,wxor x _ hx (Nat.mod_lt _ (by omega)),wxor _ _ h1 (show(x ^^^ (x * 8192 % 18446744073709551616)) / 128<18446744073709551616 by omega),wxor _ _ h2 (Nat.mod_lt _ (by omega)),true_and,and_true,true_implies]
 exact⟨rfl,by kernel_rfl⟩
end HQ
end Go.Ev

/- Sorting items: K of the numbers that break patterns. -/
namespace Go.Ev.HQ
open Go Go.Ev
def xnN(x:Nat):Nat:=Sort.xorNextN x
end Go.Ev.HQ

namespace Go.Ev
open Go Go.Proofs
open Go.Ev.T renaming node → nN, nil → nZ
open Go.Proofs.Try (prog)
set_option maxRecDepth 100000
set_option maxHeartbeats 2000000
namespace KBreak
noncomputable def bd:Code:=(Go.Proofs.Try.f76.body).getD .skip
noncomputable def H0(f:Nat)(n:Nat)(cap:Nat)(c:List Value)(a:Nat)(b:Nat):AH:={ objs:=eE (eE (eE (eE (eE (eE (eE (lL (AObj.cells 74 [Value.func (Fn.func f) ⟨[]⟩ ⟨[]⟩,Value.chan none,Value.chan none,Value.chan none] true 0)) nZ) nZ) nZ) nZ) nZ) nZ) (eE nZ (eE nZ (eE nZ (eE nZ (eE nZ (lL (AObj.cells 52 c false 2))))))),next:=128 }
noncomputable def E(f:Nat)(n:Nat)(cap:Nat)(c:List Value)(a:Nat)(b:Nat):AS:=⟨⟨76,67,nS (sS 126 0 n cap) (nS (iI (↑a:Int)) (lL (Value.func (Fn.func 36) ⟨[pP 127 0]⟩ ⟨[]⟩)) nZ) (lL (iI (↑b:Int))),[Item.code (codeAt bd [])],[],FrameMode.run,CallKind.normal,none⟩,[],H0 f n cap c a b⟩
noncomputable def S0(f:Nat)(n:Nat)(cap:Nat)(c:List Value)(a:Nat)(b:Nat)(i0:Int)(l0:List Value)(l1:List Value)(d:Nat→Value):AS:=⟨⟨76,67,nS (sS 126 0 n cap) (nS (iI (↑a:Int)) (nS (d 3) (nS (d 7) (nS (d 15) (nS (d 31) (lL (d 63)) nZ) (lL (d 47))) (nS (d 23) (lL (d 39)) (lL (d 55)))) (nS (iI i0) (nS (d 19) (lL (d 35)) (lL (d 51))) (nS (d 27) (lL (d 43)) (lL (d 59))))) (nS (d 5) (nS (pP 128 0) (nS (d 17) (nS (d 33) (lL (d 65)) nZ) (lL (d 49))) (nS (d 25) (lL (d 41)) (lL (d 57)))) (nS (d 13) (nS (d 21) (lL (d 37)) (lL (d 53))) (nS (d 29) (lL (d 45)) (lL (d 61)))))) (nS (d 2) (nS (d 4) (nS (iI (IntKind.i64.wrap ((↑b:Int) - (↑a:Int)))) (nS (d 16) (nS (d 32) (lL (d 64)) nZ) (lL (d 48))) (nS (d 24) (lL (d 40)) (lL (d 56)))) (nS (d 12) (nS (d 20) (lL (d 36)) (lL (d 52))) (nS (d 28) (lL (d 44)) (lL (d 60))))) (nS (d 6) (nS (Value.int IntKind.u64 (IntKind.u64.wrap (1 * 2 ^ min (↑(HQ.blN (IntKind.u64.wrap (IntKind.i64.wrap ((↑b:Int) - (↑a:Int)))).toNat):Int).toNat 64))) (nS (d 18) (nS (d 34) (lL (d 66)) nZ) (lL (d 50))) (nS (d 26) (lL (d 42)) (lL (d 58)))) (nS (d 14) (nS (d 22) (lL (d 38)) (lL (d 54))) (nS (d 30) (lL (d 46)) (lL (d 62)))))),[Item.code (codeAt bd [1,1,0,1,1,1,0,0]),Item.inLoop (codeAt bd [1,1,0,1,1,1,0,0]),Item.inBlock 0],[],FrameMode.run,CallKind.normal,none⟩,[],⟨eE (eE (eE (eE (eE (eE (eE (lL (AObj.cells 74 [Value.func (Fn.func f) ⟨[]⟩ ⟨[]⟩,Value.chan none,Value.chan none,Value.chan none] true 0)) nZ) nZ) nZ) nZ) nZ) nZ) (eE (eE (eE (eE (eE (eE (lL (AObj.cells 144 l0 true 2)) nZ) nZ) nZ) nZ) nZ) (eE nZ (eE nZ (eE nZ (eE nZ (lL (AObj.cells 52 l1 false 2))))))),129⟩⟩
theorem enter{η:Nat→Value}{B:Bd}(hη:OneCells η)(hmix:prog.follows .mixedOrders=true)(hreg:RegOk η prog B noNest){D:Value→AH→Prop}(f:Nat)(n:Nat)(cap:Nat)(c:List Value)(a:Nat)(b:Nat)(h:let q1:=(IntKind.u64.wrap (IntKind.i64.wrap ((↑b:Int) - (↑a:Int))));let q0:AH:=⟨eE (eE (eE (eE (eE (eE (eE (lL (AObj.cells 74 [Value.func (Fn.func f) ⟨[]⟩ ⟨[]⟩,Value.chan none,Value.chan none,Value.chan none] true 0)) nZ) nZ) nZ) nZ) nZ) nZ) (eE (eE (eE (eE (eE (eE (lL (AObj.cells 144 [Value.int IntKind.u64 q1] true 2)) nZ) nZ) nZ) nZ) nZ) (eE nZ (eE nZ (eE nZ (eE nZ (lL (AObj.cells 52 c false 2))))))),129⟩;W.holds η prog B 76 (fun kp_ st_=>RunD η prog B 76 (H0 f n cap c a b) kp_ st_ (QF prog 128 D)) D (.ite (decide (IntKind.i64.wrap ((↑b:Int) - (↑a:Int)) ≥ (8:Int))) (.call 63 [Value.int IntKind.u64 q1] (q0) (.ret (Value.int IntKind.i64 (↑(HQ.blN q1.toNat):Int)) (q0)) (.stop [0,1,8,9,10,11] (S0 f n cap c a b (IntKind.i64.wrap (IntKind.i64.wrap ((↑a:Int)+IntKind.i64.wrap (IntKind.i64.wrap ((IntKind.i64.wrap ((↑b:Int) - (↑a:Int))).tdiv 4) * 2)) - 1)) ([Value.int IntKind.u64 q1]) (c) (fun _=>undef)))) (.done 76 (undef) (H0 f n cap c a b)))):CallSpec η prog B 76 [Value.slice (some ⟨126,0,none⟩) n cap,Value.int IntKind.i64 (↑a:Int),Value.int IntKind.i64 (↑b:Int),Value.func (Fn.func 36) ⟨[Value.pointer (some ⟨127,0,none⟩)]⟩ ⟨[]⟩] (H0 f n cap c a b) D:=by
 refine CallSpec.ofQF hη (CallSpec.enter (fr:=(E f n cap c a b).fr) (by kernel_rfl) ?_)
 exact walk_okT (h0:=H0 f n cap c a b) hη hmix hreg (.steps 12 <| .bit 17 (.steps 20 <| .call kN <| .steps 19 <| .stop [0,1,8,9,10,11] none) (.steps 3 <| .done none)) (E f n cap c a b) (by kernel_rfl) h (by kernel_rfl)
theorem cut0{η:Nat→Value}{B:Bd}(hη:OneCells η)(hmix:prog.follows .mixedOrders=true)(hreg:RegOk η prog B noNest){D:Value→AH→Prop}(f:Nat)(n:Nat)(cap:Nat)(c:List Value)(a:Nat)(b:Nat)(i0:Int)(l0:List Value)(l1:List Value)(h:let q17:=(IntKind.i64.wrap ((↑b:Int) - (↑a:Int)));let q16:=(intAt l1 ((0:Nat)+i0.toNat * (2:Nat)));let q15:=(List.drop ((0:Nat)+i0.toNat * (2:Nat)) l1);let q14:=(intAt l1 ((0:Nat)+i0.toNat * (2:Nat)+(1:Nat)));let q13:=((0:Nat)+i0.toNat * (2:Nat)+(2:Nat)≤l1.length);let q12:T AObj:=(eE nZ (eE nZ (eE nZ (eE nZ (lL (AObj.cells 52 l1 false 2))))));let q11:T AObj:=(eE (eE (eE (eE (eE (eE (lL (AObj.cells 74 [Value.func (Fn.func f) ⟨[]⟩ ⟨[]⟩,Value.chan none,Value.chan none,Value.chan none] true 0)) nZ) nZ) nZ) nZ) nZ) nZ);let q10:=(IntKind.u64.wrap (↑(BitVec.ofInt IntKind.u64.bits (↑(HQ.xnN (intAt l0 0).toNat):Int) &&& BitVec.ofInt IntKind.u64.bits (IntKind.u64.wrap (IntKind.u64.wrap (1 * 2 ^ min (↑(HQ.blN (IntKind.u64.wrap q17).toNat):Int).toNat 64) - 1))).toNat:Int));let q9:=(0+(IntKind.i64.wrap ((↑a:Int)+IntKind.i64.wrap q10)).toNat * 2);let q8:=((↑a:Int)+IntKind.i64.wrap (IntKind.u64.wrap (↑(BitVec.ofInt IntKind.u64.bits (↑(HQ.xnN (intAt l0 (0:Nat)).toNat):Int) &&& BitVec.ofInt IntKind.u64.bits (IntKind.u64.wrap (IntKind.u64.wrap ((1:Int) * (2:Int) ^ min (↑(HQ.blN (IntKind.u64.wrap q17).toNat):Int).toNat (64:Nat)) - (1:Int)))).toNat:Int)));let q7:=(IntKind.i64.wrap q8);let q6:=((0:Nat)+q7.toNat * (2:Nat));let q5:=(0+(IntKind.i64.wrap ((↑a:Int)+IntKind.i64.wrap (IntKind.i64.wrap q10 - IntKind.i64.wrap ((↑b:Int) - (↑a:Int))))).toNat * 2);let q4:=((↑a:Int)+IntKind.i64.wrap (IntKind.i64.wrap (IntKind.u64.wrap (↑(BitVec.ofInt IntKind.u64.bits (↑(HQ.xnN (intAt l0 (0:Nat)).toNat):Int) &&& BitVec.ofInt IntKind.u64.bits (IntKind.u64.wrap (IntKind.u64.wrap ((1:Int) * (2:Int) ^ min (↑(HQ.blN (IntKind.u64.wrap q17).toNat):Int).toNat (64:Nat)) - (1:Int)))).toNat:Int)) - IntKind.i64.wrap ((↑b:Int) - (↑a:Int))));let q3:=(IntKind.i64.wrap q4);let q2:=((0:Nat)+q3.toNat * (2:Nat));let q1:=(splice l1 ((0:Nat)+i0.toNat * (2:Nat)) [Value.int IntKind.i64 (intAt l1 q6),Value.int IntKind.i64 (intAt l1 ((0:Nat)+q7.toNat * (2:Nat)+(1:Nat)))]);let q0:=(splice l1 ((0:Nat)+i0.toNat * (2:Nat)) [Value.int IntKind.i64 (intAt l1 q2),Value.int IntKind.i64 (intAt l1 ((0:Nat)+q3.toNat * (2:Nat)+(1:Nat)))]);W.holds η prog B 76 (fun kp_ st_=>RunD η prog B 76 (H0 f n cap c a b) kp_ st_ (QF prog 128 D)) D (.ite (decide (i0≤IntKind.i64.wrap (IntKind.i64.wrap ((↑a:Int)+IntKind.i64.wrap (IntKind.i64.wrap (q17.tdiv (4:Int)) * (2:Int)))+(1:Int)))) (.call 87 [Value.pointer (some ⟨128,0,none⟩)] (⟨eE q11 (eE (eE (eE (eE (eE (eE (lL (AObj.cells 144 l0 true 2)) nZ) nZ) nZ) nZ) nZ) q12),129⟩) (.ret (Value.int IntKind.u64 (↑(HQ.xnN (intAt l0 0).toNat):Int)) (⟨eE q11 (eE (eE (eE (eE (eE (eE (lL (AObj.cells 144 [Value.int IntKind.u64 (↑(HQ.xnN (intAt l0 0).toNat):Int)] true 2)) nZ) nZ) nZ) nZ) nZ) q12),129⟩)) (.ite (decide (IntKind.i64.wrap (IntKind.u64.wrap (↑(BitVec.ofInt IntKind.u64.bits (↑(HQ.xnN (intAt l0 (0:Nat)).toNat):Int) &&& BitVec.ofInt IntKind.u64.bits (IntKind.u64.wrap (IntKind.u64.wrap ((1:Int) * (2:Int) ^ min (↑(HQ.blN (IntKind.u64.wrap q17).toNat):Int).toNat (64:Nat)) - (1:Int)))).toNat:Int)) ≥ IntKind.i64.wrap ((↑b:Int) - (↑a:Int)))) (.need ((0:Int)≤IntKind.i64.wrap q4∧IntKind.i64.wrap q4<(↑n:Int)) (.need ((0:Nat)+q3.toNat * (2:Nat)+(2:Nat)≤l1.length∧List.take (2:Nat) (List.drop q2 l1)=[Value.int IntKind.i64 (intAt l1 q2),Value.int IntKind.i64 (intAt l1 ((0:Nat)+q3.toNat * (2:Nat)+(1:Nat)))]) (.need ((0:Int)≤i0∧i0<(↑n:Int)) (.need ((0:Nat)+i0.toNat * (2:Nat)+(2:Nat)≤l1.length∧List.take (2:Nat) q15=[Value.int IntKind.i64 q16,Value.int IntKind.i64 q14]) (.need ((0:Int)≤i0∧i0<(↑n:Int)) (.need q13 (.need ((0:Int)≤IntKind.i64.wrap q4∧IntKind.i64.wrap q4<(↑n:Int)) (.need ((0:Nat)+q3.toNat * (2:Nat)+(2:Nat)≤q0.length) (.need (NoNames (splice q0 q2 [Value.int IntKind.i64 q16,Value.int IntKind.i64 q14])∧True∧True∧True) (.stop [0,1,8,9,10,11] (S0 f n cap c a b (IntKind.i64.wrap (i0+1)) ([Value.int IntKind.u64 (↑(HQ.xnN (intAt l0 0).toNat):Int)]) (splice (splice l1 (0+i0.toNat * 2) [Value.int IntKind.i64 (intAt l1 q5),Value.int IntKind.i64 (intAt l1 (0+(IntKind.i64.wrap ((↑a:Int)+IntKind.i64.wrap (IntKind.i64.wrap q10 - IntKind.i64.wrap ((↑b:Int) - (↑a:Int))))).toNat * 2+1))]) q5 [Value.int IntKind.i64 (intAt l1 (0+i0.toNat * 2)),Value.int IntKind.i64 (intAt l1 (0+i0.toNat * 2+1))]) (fun _=>undef)))))))))))) (.need ((0:Int)≤IntKind.i64.wrap q8∧IntKind.i64.wrap q8<(↑n:Int)) (.need ((0:Nat)+q7.toNat * (2:Nat)+(2:Nat)≤l1.length∧List.take (2:Nat) (List.drop q6 l1)=[Value.int IntKind.i64 (intAt l1 q6),Value.int IntKind.i64 (intAt l1 ((0:Nat)+q7.toNat * (2:Nat)+(1:Nat)))]) (.need ((0:Int)≤i0∧i0<(↑n:Int)) (.need ((0:Nat)+i0.toNat * (2:Nat)+(2:Nat)≤l1.length∧List.take (2:Nat) q15=[Value.int IntKind.i64 q16,Value.int IntKind.i64 q14]) (.need ((0:Int)≤i0∧i0<(↑n:Int)) (.need q13 (.need ((0:Int)≤IntKind.i64.wrap q8∧IntKind.i64.wrap q8<(↑n:Int)) (.need ((0:Nat)+q7.toNat * (2:Nat)+(2:Nat)≤q1.length) (.need (NoNames (splice q1 q6 [Value.int IntKind.i64 q16,Value.int IntKind.i64 q14])∧True∧True∧True) (.stop [0,1,8,9,10,11] (S0 f n cap c a b (IntKind.i64.wrap (i0+1)) ([Value.int IntKind.u64 (↑(HQ.xnN (intAt l0 0).toNat):Int)]) (splice (splice l1 (0+i0.toNat * 2) [Value.int IntKind.i64 (intAt l1 q9),Value.int IntKind.i64 (intAt l1 (0+(IntKind.i64.wrap ((↑a:Int)+IntKind.i64.wrap q10)).toNat * 2+1))]) q9 [Value.int IntKind.i64 (intAt l1 (0+i0.toNat * 2)),Value.int IntKind.i64 (intAt l1 (0+i0.toNat * 2+1))]) (fun _=>undef)))))))))))))) (.need (NoNames l1∧True∧True) (.done 76 (undef) (⟨eE q11 (eE nZ q12),128⟩))))):RunD η prog B 76 (H0 f n cap c a b) [0,1,8,9,10,11] (S0 f n cap c a b i0 l0 l1 fun _=>undef) (QF prog 128 D):=by
 refine RunD.intro (S0 f n cap c a b i0 l0 l1) (fun d=>⟨rfl,rfl,rfl⟩) (fun d=>tmOk_get (by kernel_rfl)) (fun d=>by kernel_rfl) (fun d=>?_)
 exact walk_okT (h0:=H0 f n cap c a b) hη hmix hreg (.steps 12 <| .bit 35 (.steps 6 <| .call kN <| .steps 13 <| .bit 45 (.steps 7 <| .reg <| .steps 10 <| .op <| .op <| .steps 2 <| .op <| .op <| .op <| .op <| .op <| .op <| .reg <| .steps 7 <| .stop [0,1,8,9,10,11] (some ⟨129,[(128,128)],[(126,(126,true)),(127,(127,false)),(128,(128,false))]⟩)) (.steps 2 <| .reg <| .steps 10 <| .op <| .op <| .steps 2 <| .op <| .op <| .op <| .op <| .op <| .op <| .reg <| .steps 7 <| .stop [0,1,8,9,10,11] (some ⟨129,[(128,128)],[(126,(126,true)),(127,(127,false)),(128,(128,false))]⟩))) (.steps 3 <| .done (some ⟨128,[],[(126,(126,true)),(127,(127,false))]⟩))) (S0 f n cap c a b i0 l0 l1 d) (by kernel_rfl) h (by kernel_rfl)
end KBreak
end Go.Ev

