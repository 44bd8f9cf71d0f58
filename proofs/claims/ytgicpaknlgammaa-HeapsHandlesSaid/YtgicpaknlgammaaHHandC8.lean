/- HHandC, part 8: what the proof needs, in the order of its texts. -/
import Derived.Test.YtgicpaknlgammaaHHandC7
import Derived.Test.YtgicpaknlgammaaProg
import Derived.KernelRfl
import Derived.Deep.Slices
import Derived.ChangeArms
import Derived.WideShapes
import Derived.ChangeSame
import Derived.SizedLaws
set_option linter.unusedVariables false
set_option linter.unusedSimpArgs false
namespace Go.Ev
open Go Go.Proofs
open Go.Ev.T renaming node → nN, nil → nZ
open Go.Proofs.Try (prog)
set_option maxRecDepth 100000
set_option maxHeartbeats 2000000
namespace KHand0
noncomputable def bd:Code:=(Go.Proofs.Try.f4.body).getD .skip
noncomputable def bd16:Code:=(Go.Proofs.Try.f16.body).getD .skip
noncomputable def H0(by_:Int)(ya:Int)(yb:Int):AH:={ objs:=nZ,next:=126 }
noncomputable def E(by_:Int)(ya:Int)(yb:Int):AS:=⟨⟨4,187,nS (uI by_) (lL (Value.slice none 0 9223372036854775808)) (lL (Value.agg ⟨[iI ya,iI yb]⟩)),[Item.code (codeAt bd [])],[],FrameMode.run,CallKind.normal,none⟩,[],H0 by_ ya yb⟩
noncomputable def S0(by_:Int)(ya:Int)(yb:Int) (d:Nat→Value):AS:=⟨⟨16,37,nS (d 0) (nS (Value.slice none 0 9223372036854775808) (nS (d 3) (nS (d 7) (nS (d 15) (lL (d 31)) nZ) (lL (d 23))) (nS (d 11) (nS (d 19) (lL (d 35)) nZ) (lL (d 27)))) (nS (pP 126 0) (nS (d 9) (nS (d 17) (lL (d 33)) nZ) (lL (d 25))) (nS (d 13) (lL (d 21)) (lL (d 29))))) (nS (d 2) (nS (d 4) (nS (d 8) (nS (d 16) (lL (d 32)) nZ) (lL (d 24))) (nS (d 12) (nS (d 20) (lL (d 36)) nZ) (lL (d 28)))) (nS (iI 0) (nS (d 10) (nS (d 18) (lL (d 34)) nZ) (lL (d 26))) (nS (d 14) (lL (d 22)) (lL (d 30))))),[Item.code (codeAt bd16 [1,1,1,0,1,0,0]),Item.inLoop (codeAt bd16 [1,1,1,0,1,0,0]),Item.inBlock 0,Item.code (codeAt bd16 [1,1,1,1])],[],FrameMode.run,CallKind.normal,none⟩,[⟨4,187,nS (uI by_) (nS (Value.slice none 0 9223372036854775808) (nS undef (nS undef (nS undef u5 u5) (nS vF u5 u5)) (nS undef (nS undef u5 u5) (nS undef u5 (nS undef u4 u1)))) (nS (pP 127 0) (nS undef (nS undef u5 u5) (nS (uI by_) u5 u5)) (nS undef (nS (Value.slice none 0 9223372036854775808) u5 u5) (nS undef u5 (nS undef u4 u1))))) (nS (Value.agg ⟨[iI ya,iI yb]⟩) (nS undef (nS undef (nS undef u5 u5) (nS undef u5 u5)) (nS undef (nS undef u5 u5) (nS undef u5 (nS undef u4 u1)))) (nS vF (nS undef (nS undef u5 u5) (nS (Value.slice none 0 9223372036854775808) u5 u5)) (nS undef (nS (iI 0) u5 u5) (nS undef u5 (nS undef u4 u1))))),[Item.inRegion (opsAt bd [1,1,0]) [2,3],Item.code (codeAt bd [1,1,1])],[],FrameMode.run,CallKind.normal,none⟩],⟨eE (eE (eE (eE (eE (eE (eE (lL (AObj.cells 44 [iI ya,iI yb] true 2)) nZ) nZ) nZ) nZ) nZ) (eE (eE (eE (eE (eE (lL (AObj.map [] 0 true)) nZ) nZ) nZ) nZ) nZ)) (eE (eE (eE (eE (eE (eE (lL (AObj.cells 74 [Value.func (Fn.func (HQ.ordN by_)) ⟨[]⟩ ⟨[]⟩,iI 1,Value.slice none 0 0,Value.map (some 129)] true 2)) nZ) nZ) nZ) nZ) nZ) (eE nZ (eE nZ (eE nZ (eE nZ (lL (AObj.cells 78 [pP 126 0,pP 128 0] true 2))))))),130⟩⟩
noncomputable def S1(by_:Int)(ya:Int)(yb:Int) (d:Nat→Value):AS:=⟨⟨4,187,nS (d 0) (nS (Value.slice none 0 9223372036854775808) (nS (d 3) (nS (pP 126 0) (nS (d 15) (nS (d 31) (nS (d 63) (lL (d 127)) nZ) (nS (d 95) (lL (d 159)) nZ)) (nS (d 47) (nS (d 79) (lL (d 143)) nZ) (nS (d 111) (lL (d 175)) nZ))) (nS (d 23) (nS (d 39) (nS (d 71) (lL (d 135)) nZ) (nS (d 103) (lL (d 167)) nZ)) (nS (d 55) (nS (d 87) (lL (d 151)) nZ) (nS (d 119) (lL (d 183)) nZ)))) (nS (d 11) (nS (d 19) (nS (d 35) (nS (d 67) (lL (d 131)) nZ) (nS (d 99) (lL (d 163)) nZ)) (nS (d 51) (nS (d 83) (lL (d 147)) nZ) (nS (d 115) (lL (d 179)) nZ))) (nS (d 27) (nS (d 43) (nS (d 75) (lL (d 139)) nZ) (nS (d 107) (lL (d 171)) nZ)) (nS (d 59) (nS (d 91) (lL (d 155)) nZ) (lL (d 123)))))) (nS (pP 127 0) (nS (iI 0) (nS (d 17) (nS (d 33) (nS (d 65) (lL (d 129)) nZ) (nS (d 97) (lL (d 161)) nZ)) (nS (d 49) (nS (d 81) (lL (d 145)) nZ) (nS (d 113) (lL (d 177)) nZ))) (nS (d 25) (nS (d 41) (nS (d 73) (lL (d 137)) nZ) (nS (d 105) (lL (d 169)) nZ)) (nS (d 57) (nS (d 89) (lL (d 153)) nZ) (nS (d 121) (lL (d 185)) nZ)))) (nS (d 13) (nS (d 21) (nS (d 37) (nS (d 69) (lL (d 133)) nZ) (nS (d 101) (lL (d 165)) nZ)) (nS (d 53) (nS (d 85) (lL (d 149)) nZ) (nS (d 117) (lL (d 181)) nZ))) (nS (d 29) (nS (d 45) (nS (d 77) (lL (d 141)) nZ) (nS (d 109) (lL (d 173)) nZ)) (nS (d 61) (nS (d 93) (lL (d 157)) nZ) (lL (d 125))))))) (nS (d 2) (nS (d 4) (nS (pP 128 0) (nS (d 16) (nS (d 32) (nS (d 64) (lL (d 128)) nZ) (nS (d 96) (lL (d 160)) nZ)) (nS (d 48) (nS (d 80) (lL (d 144)) nZ) (nS (d 112) (lL (d 176)) nZ))) (nS (d 24) (nS (d 40) (nS (d 72) (lL (d 136)) nZ) (nS (d 104) (lL (d 168)) nZ)) (nS (d 56) (nS (d 88) (lL (d 152)) nZ) (nS (d 120) (lL (d 184)) nZ)))) (nS (d 12) (nS (d 20) (nS (d 36) (nS (d 68) (lL (d 132)) nZ) (nS (d 100) (lL (d 164)) nZ)) (nS (d 52) (nS (d 84) (lL (d 148)) nZ) (nS (d 116) (lL (d 180)) nZ))) (nS (d 28) (nS (d 44) (nS (d 76) (lL (d 140)) nZ) (nS (d 108) (lL (d 172)) nZ)) (nS (d 60) (nS (d 92) (lL (d 156)) nZ) (lL (d 124)))))) (nS (d 6) (nS (d 10) (nS (d 18) (nS (d 34) (nS (d 66) (lL (d 130)) nZ) (nS (d 98) (lL (d 162)) nZ)) (nS (d 50) (nS (d 82) (lL (d 146)) nZ) (nS (d 114) (lL (d 178)) nZ))) (nS (d 26) (nS (d 42) (nS (d 74) (lL (d 138)) nZ) (nS (d 106) (lL (d 170)) nZ)) (nS (d 58) (nS (d 90) (lL (d 154)) nZ) (nS (d 122) (lL (d 186)) nZ)))) (nS (d 14) (nS (d 22) (nS (d 38) (nS (d 70) (lL (d 134)) nZ) (nS (d 102) (lL (d 166)) nZ)) (nS (d 54) (nS (d 86) (lL (d 150)) nZ) (nS (d 118) (lL (d 182)) nZ))) (nS (d 30) (nS (d 46) (nS (d 78) (lL (d 142)) nZ) (nS (d 110) (lL (d 174)) nZ)) (nS (d 62) (nS (d 94) (lL (d 158)) nZ) (lL (d 126))))))),[Item.code (codeAt bd [1,1,1,1,1,0,1,0,0]),Item.inLoop (codeAt bd [1,1,1,1,1,0,1,0,0]),Item.inBlock 0,Item.code (codeAt bd [1,1,1,1,1,1])],[],FrameMode.run,CallKind.normal,none⟩,[],⟨eE (eE (eE (eE (eE (eE (eE (lL (AObj.cells 44 [iI ya,iI yb] true 2)) nZ) nZ) nZ) nZ) nZ) (eE (eE (eE (eE (eE (lL (AObj.cells 74 [Value.func (Fn.func (HQ.ordN by_)) ⟨[]⟩ ⟨[]⟩,iI 1,Value.slice none 0 0,Value.map (some 130)] true 2)) nZ) nZ) nZ) nZ) nZ)) (eE (eE (eE (eE (eE (eE (lL (AObj.cells 24 [iI 1,Value.slice none 0 0] true 2)) nZ) nZ) nZ) nZ) nZ) (eE (eE (eE (eE (eE (lL (AObj.map [] 0 true)) nZ) nZ) nZ) nZ) (eE nZ (eE nZ (eE nZ (lL (AObj.cells 78 [pP 126 0,pP 129 0] true 2))))))),131⟩⟩
noncomputable def S2(by_:Int)(ya:Int)(yb:Int) (d:Nat→Value):AS:=⟨⟨4,187,nS (d 0) (nS (Value.slice none 0 9223372036854775808) (nS (d 3) (nS (pP 126 0) (nS (d 15) (nS (d 31) (nS (d 63) (lL (d 127)) nZ) (nS (d 95) (lL (d 159)) nZ)) (nS (d 47) (nS (d 79) (lL (d 143)) nZ) (nS (d 111) (lL (d 175)) nZ))) (nS (d 23) (nS (d 39) (nS (d 71) (lL (d 135)) nZ) (nS (d 103) (lL (d 167)) nZ)) (nS (d 55) (nS (d 87) (lL (d 151)) nZ) (nS (d 119) (lL (d 183)) nZ)))) (nS (d 11) (nS (d 19) (nS (d 35) (nS (d 67) (lL (d 131)) nZ) (nS (d 99) (lL (d 163)) nZ)) (nS (d 51) (nS (d 83) (lL (d 147)) nZ) (nS (d 115) (lL (d 179)) nZ))) (nS (d 27) (nS (d 43) (nS (d 75) (lL (d 139)) nZ) (nS (d 107) (lL (d 171)) nZ)) (nS (d 59) (nS (d 91) (lL (d 155)) nZ) (lL (d 123)))))) (nS (pP 127 0) (nS (iI 1) (nS (d 17) (nS (d 33) (nS (d 65) (lL (d 129)) nZ) (nS (d 97) (lL (d 161)) nZ)) (nS (d 49) (nS (d 81) (lL (d 145)) nZ) (nS (d 113) (lL (d 177)) nZ))) (nS (d 25) (nS (d 41) (nS (d 73) (lL (d 137)) nZ) (nS (d 105) (lL (d 169)) nZ)) (nS (d 57) (nS (d 89) (lL (d 153)) nZ) (nS (d 121) (lL (d 185)) nZ)))) (nS (d 13) (nS (d 21) (nS (d 37) (nS (d 69) (lL (d 133)) nZ) (nS (d 101) (lL (d 165)) nZ)) (nS (d 53) (nS (d 85) (lL (d 149)) nZ) (nS (d 117) (lL (d 181)) nZ))) (nS (d 29) (nS (d 45) (nS (d 77) (lL (d 141)) nZ) (nS (d 109) (lL (d 173)) nZ)) (nS (d 61) (nS (d 93) (lL (d 157)) nZ) (lL (d 125))))))) (nS (d 2) (nS (d 4) (nS (pP 128 0) (nS (d 16) (nS (d 32) (nS (d 64) (lL (d 128)) nZ) (nS (d 96) (lL (d 160)) nZ)) (nS (d 48) (nS (d 80) (lL (d 144)) nZ) (nS (d 112) (lL (d 176)) nZ))) (nS (d 24) (nS (d 40) (nS (d 72) (lL (d 136)) nZ) (nS (d 104) (lL (d 168)) nZ)) (nS (d 56) (nS (d 88) (lL (d 152)) nZ) (nS (d 120) (lL (d 184)) nZ)))) (nS (d 12) (nS (d 20) (nS (d 36) (nS (d 68) (lL (d 132)) nZ) (nS (d 100) (lL (d 164)) nZ)) (nS (d 52) (nS (d 84) (lL (d 148)) nZ) (nS (d 116) (lL (d 180)) nZ))) (nS (d 28) (nS (d 44) (nS (d 76) (lL (d 140)) nZ) (nS (d 108) (lL (d 172)) nZ)) (nS (d 60) (nS (d 92) (lL (d 156)) nZ) (lL (d 124)))))) (nS (d 6) (nS (d 10) (nS (d 18) (nS (d 34) (nS (d 66) (lL (d 130)) nZ) (nS (d 98) (lL (d 162)) nZ)) (nS (d 50) (nS (d 82) (lL (d 146)) nZ) (nS (d 114) (lL (d 178)) nZ))) (nS (d 26) (nS (d 42) (nS (d 74) (lL (d 138)) nZ) (nS (d 106) (lL (d 170)) nZ)) (nS (d 58) (nS (d 90) (lL (d 154)) nZ) (nS (d 122) (lL (d 186)) nZ)))) (nS (d 14) (nS (d 22) (nS (d 38) (nS (d 70) (lL (d 134)) nZ) (nS (d 102) (lL (d 166)) nZ)) (nS (d 54) (nS (d 86) (lL (d 150)) nZ) (nS (d 118) (lL (d 182)) nZ))) (nS (d 30) (nS (d 46) (nS (d 78) (lL (d 142)) nZ) (nS (d 110) (lL (d 174)) nZ)) (nS (d 62) (nS (d 94) (lL (d 158)) nZ) (lL (d 126))))))),[Item.code (codeAt bd [1,1,1,1,1,0,1,0,0]),Item.inLoop (codeAt bd [1,1,1,1,1,0,1,0,0]),Item.inBlock 0,Item.code (codeAt bd [1,1,1,1,1,1])],[],FrameMode.run,CallKind.normal,none⟩,[],⟨eE (eE (eE (eE (eE (eE (eE (lL (AObj.cells 44 [iI ya,iI yb] true 2)) nZ) nZ) nZ) nZ) (eE (eE (eE (eE (lL (AObj.map [] 1 true)) nZ) nZ) nZ) nZ)) (eE (eE (eE (eE (eE (lL (AObj.cells 74 [Value.func (Fn.func (HQ.ordN by_)) ⟨[]⟩ ⟨[]⟩,iI 2,sS 130 0 0 u2,Value.map (some 131)] true 2)) nZ) nZ) nZ) nZ) nZ)) (eE (eE (eE (eE (eE (eE (lL (AObj.cells 24 [iI 1,Value.slice none 0 0] true 2)) nZ) nZ) nZ) nZ) nZ) (eE (eE (eE (eE (eE (lL (AObj.cells 52 [iI 0,iI 0] false 2)) nZ) nZ) nZ) nZ) (eE nZ (eE nZ (eE nZ (lL (AObj.cells 78 [pP 126 0,pP 129 0] true 2))))))),132⟩⟩
noncomputable def S3(by_:Int)(ya:Int)(yb:Int) (d:Nat→Value):AS:=⟨⟨4,187,nS (d 0) (nS (Value.slice none 0 9223372036854775808) (nS (d 3) (nS (pP 126 0) (nS (d 15) (nS (d 31) (nS (d 63) (lL (d 127)) nZ) (nS (d 95) (lL (d 159)) nZ)) (nS (d 47) (nS (d 79) (lL (d 143)) nZ) (nS (d 111) (lL (d 175)) nZ))) (nS (d 23) (nS (d 39) (nS (d 71) (lL (d 135)) nZ) (nS (d 103) (lL (d 167)) nZ)) (nS (d 55) (nS (d 87) (lL (d 151)) nZ) (nS (d 119) (lL (d 183)) nZ)))) (nS (d 11) (nS (d 19) (nS (d 35) (nS (d 67) (lL (d 131)) nZ) (nS (d 99) (lL (d 163)) nZ)) (nS (d 51) (nS (d 83) (lL (d 147)) nZ) (nS (d 115) (lL (d 179)) nZ))) (nS (d 27) (nS (d 43) (nS (d 75) (lL (d 139)) nZ) (nS (d 107) (lL (d 171)) nZ)) (nS (d 59) (nS (d 91) (lL (d 155)) nZ) (lL (d 123)))))) (nS (pP 127 0) (nS (iI 2) (nS (d 17) (nS (d 33) (nS (d 65) (lL (d 129)) nZ) (nS (d 97) (lL (d 161)) nZ)) (nS (d 49) (nS (d 81) (lL (d 145)) nZ) (nS (d 113) (lL (d 177)) nZ))) (nS (d 25) (nS (d 41) (nS (d 73) (lL (d 137)) nZ) (nS (d 105) (lL (d 169)) nZ)) (nS (d 57) (nS (d 89) (lL (d 153)) nZ) (nS (d 121) (lL (d 185)) nZ)))) (nS (d 13) (nS (d 21) (nS (d 37) (nS (d 69) (lL (d 133)) nZ) (nS (d 101) (lL (d 165)) nZ)) (nS (d 53) (nS (d 85) (lL (d 149)) nZ) (nS (d 117) (lL (d 181)) nZ))) (nS (d 29) (nS (d 45) (nS (d 77) (lL (d 141)) nZ) (nS (d 109) (lL (d 173)) nZ)) (nS (d 61) (nS (d 93) (lL (d 157)) nZ) (lL (d 125))))))) (nS (d 2) (nS (d 4) (nS (pP 128 0) (nS (d 16) (nS (d 32) (nS (d 64) (lL (d 128)) nZ) (nS (d 96) (lL (d 160)) nZ)) (nS (d 48) (nS (d 80) (lL (d 144)) nZ) (nS (d 112) (lL (d 176)) nZ))) (nS (d 24) (nS (d 40) (nS (d 72) (lL (d 136)) nZ) (nS (d 104) (lL (d 168)) nZ)) (nS (d 56) (nS (d 88) (lL (d 152)) nZ) (nS (d 120) (lL (d 184)) nZ)))) (nS (d 12) (nS (d 20) (nS (d 36) (nS (d 68) (lL (d 132)) nZ) (nS (d 100) (lL (d 164)) nZ)) (nS (d 52) (nS (d 84) (lL (d 148)) nZ) (nS (d 116) (lL (d 180)) nZ))) (nS (d 28) (nS (d 44) (nS (d 76) (lL (d 140)) nZ) (nS (d 108) (lL (d 172)) nZ)) (nS (d 60) (nS (d 92) (lL (d 156)) nZ) (lL (d 124)))))) (nS (d 6) (nS (d 10) (nS (d 18) (nS (d 34) (nS (d 66) (lL (d 130)) nZ) (nS (d 98) (lL (d 162)) nZ)) (nS (d 50) (nS (d 82) (lL (d 146)) nZ) (nS (d 114) (lL (d 178)) nZ))) (nS (d 26) (nS (d 42) (nS (d 74) (lL (d 138)) nZ) (nS (d 106) (lL (d 170)) nZ)) (nS (d 58) (nS (d 90) (lL (d 154)) nZ) (nS (d 122) (lL (d 186)) nZ)))) (nS (d 14) (nS (d 22) (nS (d 38) (nS (d 70) (lL (d 134)) nZ) (nS (d 102) (lL (d 166)) nZ)) (nS (d 54) (nS (d 86) (lL (d 150)) nZ) (nS (d 118) (lL (d 182)) nZ))) (nS (d 30) (nS (d 46) (nS (d 78) (lL (d 142)) nZ) (nS (d 110) (lL (d 174)) nZ)) (nS (d 62) (nS (d 94) (lL (d 158)) nZ) (lL (d 126))))))),[Item.code (codeAt bd [1,1,1,1,1,0,1,0,0]),Item.inLoop (codeAt bd [1,1,1,1,1,0,1,0,0]),Item.inBlock 0,Item.code (codeAt bd [1,1,1,1,1,1])],[],FrameMode.run,CallKind.normal,none⟩,[],⟨eE (eE (eE (eE (eE (eE (eE (lL (AObj.cells 44 [iI ya,iI yb] true 2)) nZ) nZ) nZ) nZ) (eE (eE (eE (eE (lL (AObj.map [] 2 true)) nZ) nZ) nZ) nZ)) (eE (eE (eE (eE (eE (lL (AObj.cells 74 [Value.func (Fn.func (HQ.ordN by_)) ⟨[]⟩ ⟨[]⟩,iI 3,sS 130 0 0 u2,Value.map (some 131)] true 2)) nZ) nZ) nZ) nZ) nZ)) (eE (eE (eE (eE (eE (eE (lL (AObj.cells 24 [iI 1,Value.slice none 0 0] true 2)) nZ) nZ) nZ) nZ) nZ) (eE (eE (eE (eE (eE (lL (AObj.cells 52 [iI 0,iI 0] false 2)) nZ) nZ) nZ) nZ) (eE nZ (eE nZ (eE nZ (lL (AObj.cells 78 [pP 126 0,pP 129 0] true 2))))))),132⟩⟩
noncomputable def S4(by_:Int)(ya:Int)(yb:Int) (d:Nat→Value):AS:=⟨⟨4,187,nS (d 0) (nS (Value.slice none 0 9223372036854775808) (nS (d 3) (nS (pP 126 0) (nS (d 15) (nS (d 31) (nS (d 63) (lL (d 127)) nZ) (nS (d 95) (lL (d 159)) nZ)) (nS (d 47) (nS (d 79) (lL (d 143)) nZ) (nS (d 111) (lL (d 175)) nZ))) (nS (d 23) (nS (d 39) (nS (d 71) (lL (d 135)) nZ) (nS (d 103) (lL (d 167)) nZ)) (nS (d 55) (nS (d 87) (lL (d 151)) nZ) (nS (d 119) (lL (d 183)) nZ)))) (nS (d 11) (nS (d 19) (nS (d 35) (nS (d 67) (lL (d 131)) nZ) (nS (d 99) (lL (d 163)) nZ)) (nS (d 51) (nS (d 83) (lL (d 147)) nZ) (nS (d 115) (lL (d 179)) nZ))) (nS (d 27) (nS (d 43) (nS (d 75) (lL (d 139)) nZ) (nS (d 107) (lL (d 171)) nZ)) (nS (d 59) (nS (d 91) (lL (d 155)) nZ) (lL (d 123)))))) (nS (pP 127 0) (nS (iI 3) (nS (d 17) (nS (d 33) (nS (d 65) (lL (d 129)) nZ) (nS (d 97) (lL (d 161)) nZ)) (nS (d 49) (nS (d 81) (lL (d 145)) nZ) (nS (d 113) (lL (d 177)) nZ))) (nS (d 25) (nS (d 41) (nS (d 73) (lL (d 137)) nZ) (nS (d 105) (lL (d 169)) nZ)) (nS (d 57) (nS (d 89) (lL (d 153)) nZ) (nS (d 121) (lL (d 185)) nZ)))) (nS (d 13) (nS (d 21) (nS (d 37) (nS (d 69) (lL (d 133)) nZ) (nS (d 101) (lL (d 165)) nZ)) (nS (d 53) (nS (d 85) (lL (d 149)) nZ) (nS (d 117) (lL (d 181)) nZ))) (nS (d 29) (nS (d 45) (nS (d 77) (lL (d 141)) nZ) (nS (d 109) (lL (d 173)) nZ)) (nS (d 61) (nS (d 93) (lL (d 157)) nZ) (lL (d 125))))))) (nS (d 2) (nS (d 4) (nS (pP 128 0) (nS (d 16) (nS (d 32) (nS (d 64) (lL (d 128)) nZ) (nS (d 96) (lL (d 160)) nZ)) (nS (d 48) (nS (d 80) (lL (d 144)) nZ) (nS (d 112) (lL (d 176)) nZ))) (nS (d 24) (nS (d 40) (nS (d 72) (lL (d 136)) nZ) (nS (d 104) (lL (d 168)) nZ)) (nS (d 56) (nS (d 88) (lL (d 152)) nZ) (nS (d 120) (lL (d 184)) nZ)))) (nS (d 12) (nS (d 20) (nS (d 36) (nS (d 68) (lL (d 132)) nZ) (nS (d 100) (lL (d 164)) nZ)) (nS (d 52) (nS (d 84) (lL (d 148)) nZ) (nS (d 116) (lL (d 180)) nZ))) (nS (d 28) (nS (d 44) (nS (d 76) (lL (d 140)) nZ) (nS (d 108) (lL (d 172)) nZ)) (nS (d 60) (nS (d 92) (lL (d 156)) nZ) (lL (d 124)))))) (nS (d 6) (nS (d 10) (nS (d 18) (nS (d 34) (nS (d 66) (lL (d 130)) nZ) (nS (d 98) (lL (d 162)) nZ)) (nS (d 50) (nS (d 82) (lL (d 146)) nZ) (nS (d 114) (lL (d 178)) nZ))) (nS (d 26) (nS (d 42) (nS (d 74) (lL (d 138)) nZ) (nS (d 106) (lL (d 170)) nZ)) (nS (d 58) (nS (d 90) (lL (d 154)) nZ) (nS (d 122) (lL (d 186)) nZ)))) (nS (d 14) (nS (d 22) (nS (d 38) (nS (d 70) (lL (d 134)) nZ) (nS (d 102) (lL (d 166)) nZ)) (nS (d 54) (nS (d 86) (lL (d 150)) nZ) (nS (d 118) (lL (d 182)) nZ))) (nS (d 30) (nS (d 46) (nS (d 78) (lL (d 142)) nZ) (nS (d 110) (lL (d 174)) nZ)) (nS (d 62) (nS (d 94) (lL (d 158)) nZ) (lL (d 126))))))),[Item.code (codeAt bd [1,1,1,1,1,0,1,0,0]),Item.inLoop (codeAt bd [1,1,1,1,1,0,1,0,0]),Item.inBlock 0,Item.code (codeAt bd [1,1,1,1,1,1])],[],FrameMode.run,CallKind.normal,none⟩,[],⟨eE (eE (eE (eE (eE (eE (eE (lL (AObj.cells 44 [iI ya,iI yb] true 2)) nZ) nZ) nZ) nZ) (eE (eE (eE (eE (lL (AObj.map [] 3 true)) nZ) nZ) nZ) nZ)) (eE (eE (eE (eE (eE (lL (AObj.cells 74 [Value.func (Fn.func (HQ.ordN by_)) ⟨[]⟩ ⟨[]⟩,iI 4,sS 130 0 0 u2,Value.map (some 131)] true 2)) nZ) nZ) nZ) nZ) nZ)) (eE (eE (eE (eE (eE (eE (lL (AObj.cells 24 [iI 1,Value.slice none 0 0] true 2)) nZ) nZ) nZ) nZ) nZ) (eE (eE (eE (eE (eE (lL (AObj.cells 52 [iI 0,iI 0] false 2)) nZ) nZ) nZ) nZ) (eE nZ (eE nZ (eE nZ (lL (AObj.cells 78 [pP 126 0,pP 129 0] true 2))))))),132⟩⟩
theorem enter{η:Nat→Value}{B:Bd}(hη:OneCells η)(hmix:prog.follows .mixedOrders=true)(hreg:RegOk η prog B nestE){D:Value→AH→Prop}(by_:Int)(ya:Int)(yb:Int)(h:let q0:AH:=⟨eE nZ (eE nZ (eE nZ (eE nZ (eE nZ (eE nZ (lL (AObj.cells 44 [iI ya,iI yb] true 2))))))),127⟩;W.holds η prog B 4 (fun kp_ st_=>RunD η prog B 4 (H0 by_ ya yb) kp_ st_ (QF prog 126 D)) D (.call 8 [Value.int IntKind.u8 by_] (q0) (.ret (Value.func (Fn.func (HQ.ordN by_)) ⟨[]⟩ ⟨[]⟩) (q0)) (.need (True∧True∧True∧True∧True) (.stop [1,5,6] (S0 by_ ya yb  (fun _=>undef)))))):CallSpec η prog B 4 [Value.int IntKind.u8 by_,Value.slice none 0 9223372036854775808,Value.agg ⟨[Value.int IntKind.i64 ya,Value.int IntKind.i64 yb]⟩] (H0 by_ ya yb) D:=by
 refine CallSpec.ofQF hη (CallSpec.enter (fr:=(E by_ ya yb).fr) (by kernel_rfl) ?_)
 exact walk_okT (h0:=H0 by_ ya yb) hη hmix hreg (.steps 26 <| .call kN <| .steps 192 <| .stop [1,5,6] (some ⟨130,[(153,126),(126,127),(139,128),(141,129)],[(126,(153,false)),(127,(126,false)),(128,(139,false)),(129,(141,false))]⟩)) (E by_ ya yb) (by kernel_rfl) h (by kernel_rfl)
theorem cut0{η:Nat→Value}{B:Bd}(hη:OneCells η)(hmix:prog.follows .mixedOrders=true)(hreg:RegOk η prog B nestE){D:Value→AH→Prop}(by_:Int)(ya:Int)(yb:Int) (h:let q0:AH:=⟨eE (eE (eE (eE (eE (eE (eE (lL (AObj.cells 44 [iI ya,iI yb] true 2)) nZ) nZ) nZ) nZ) nZ) (eE (eE (eE (eE (eE (lL (AObj.map [] 0 true)) nZ) nZ) nZ) nZ) nZ)) (eE (eE (eE (eE (eE (eE (lL (AObj.cells 74 [Value.func (Fn.func (HQ.ordN by_)) ⟨[]⟩ ⟨[]⟩,iI 1,Value.slice none 0 0,Value.map (some 129)] true 2)) nZ) nZ) nZ) nZ) nZ) (eE nZ (eE nZ (eE nZ (eE nZ (lL (AObj.cells 78 [pP 126 0,pP 128 0] true 2))))))),130⟩;W.holds η prog B 4 (fun kp_ st_=>RunD η prog B 4 (H0 by_ ya yb) kp_ st_ (QF prog 126 D)) D (.call 13 [Value.pointer (some ⟨126,0,none⟩)] (q0) (.ret (Value.agg ⟨[Value.int IntKind.i64 1,Value.slice none 0 0]⟩) (q0)) (.need (True∧True∧True∧True∧True∧True) (.stop [1,5,7,8,9] (S1 by_ ya yb  (fun _=>undef)))))):RunD η prog B 4 (H0 by_ ya yb) [1,5,6] (S0 by_ ya yb  fun _=>undef) (QF prog 126 D):=by
 refine RunD.intro (S0 by_ ya yb) (fun d=>⟨rfl,rfl,rfl⟩) (fun d=>tmOk_get (by kernel_rfl)) (fun d=>by kernel_rfl) (fun d=>?_)
 exact walk_okT (h0:=H0 by_ ya yb) hη hmix hreg (.steps 30 <| .call kN <| .steps 10 <| .stop [1,5,7,8,9] (some ⟨131,[(126,126),(127,127),(130,128),(128,129),(129,130)],[(126,(126,false)),(127,(127,false)),(128,(130,false)),(129,(128,false)),(130,(129,false))]⟩)) (S0 by_ ya yb  d) (by kernel_rfl) h (by kernel_rfl)
theorem cut1{η:Nat→Value}{B:Bd}(hη:OneCells η)(hmix:prog.follows .mixedOrders=true)(hreg:RegOk η prog B nestE){D:Value→AH→Prop}(by_:Int)(ya:Int)(yb:Int) (h:let q1:AH:=⟨eE (eE (eE (eE (eE (eE (eE (lL (AObj.cells 44 [iI ya,iI yb] true 2)) nZ) nZ) nZ) nZ) (eE (eE (eE (eE (lL (AObj.cells 52 [iI 1,iI ya] true 2)) nZ) nZ) nZ) (eE nZ (eE (eE (lL (AObj.cells 52 [iI 0,iI 0] false 2)) nZ) nZ)))) (eE (eE (eE (eE (eE (lL (AObj.cells 74 [Value.func (Fn.func (HQ.ordN by_)) ⟨[]⟩ ⟨[]⟩,iI 2,sS 155 0 0 u2,Value.map (some 130)] true 2)) nZ) nZ) nZ) nZ) nZ)) (eE (eE (eE (eE (eE (eE (lL (AObj.cells 24 [iI 1,Value.slice none 0 0] true 2)) nZ) nZ) nZ) nZ) (eE nZ (eE nZ (eE (eE (lL (AObj.cells 52 [iI 1,iI ya] true 2)) nZ) nZ)))) (eE (eE (eE (eE (eE (lL (AObj.map [] 1 true)) nZ) nZ) nZ) nZ) (eE (eE nZ (eE (eE (lL (AObj.cells 52 [iI 1,iI ya] true 2)) nZ) nZ)) (eE nZ (eE nZ (lL (AObj.cells 78 [pP 126 0,pP 129 0] true 2))))))),181⟩;let q0:AH:=⟨eE (eE (eE (eE (eE (eE (eE (lL (AObj.cells 44 [iI ya,iI yb] true 2)) nZ) nZ) nZ) nZ) (eE (eE (eE (eE (lL (AObj.cells 52 [iI 1,iI ya] true 2)) nZ) nZ) nZ) (eE nZ (eE (eE (lL (AObj.cells 52 [iI 0,iI 0] false 2)) nZ) nZ)))) (eE (eE (eE (eE (eE (lL (AObj.cells 74 [Value.func (Fn.func (HQ.ordN by_)) ⟨[]⟩ ⟨[]⟩,iI 2,sS 155 0 0 u2,Value.map (some 130)] true 2)) nZ) nZ) nZ) nZ) (eE (eE nZ (eE nZ (eE (lL (AObj.cells 52 [] true 2)) nZ))) nZ))) (eE (eE (eE (eE (eE (eE (lL (AObj.cells 24 [iI 1,Value.slice none 0 0] true 2)) nZ) nZ) nZ) nZ) (eE nZ (eE nZ (eE (eE (lL (AObj.cells 52 [iI 1,iI ya] true 2)) nZ) nZ)))) (eE (eE (eE (eE (eE (lL (AObj.map [] 1 true)) nZ) nZ) nZ) nZ) (eE (eE nZ (eE (eE (lL (AObj.cells 52 [iI 1,iI ya] true 2)) nZ) nZ)) (eE nZ (eE nZ (lL (AObj.cells 78 [pP 126 0,pP 129 0] true 2))))))),182⟩;W.holds η prog B 4 (fun kp_ st_=>RunD η prog B 4 (H0 by_ ya yb) kp_ st_ (QF prog 126 D)) D (.need ((True)∧(True)∧(True)∧(True)∧(True)∧(True)∧(True)∧(True)∧(True)∧True) (.ite (ya != ya) (.need ((True)∧(True)∧(True)∧(True)∧(True)∧(True)∧(True)∧(True)∧True) (.need (True) (.done 4 (Value.bool false) (H0 by_ ya yb)))) (.need ((True)∧True) (.call 13 [Value.pointer (some ⟨126,0,none⟩)] (q1) (.ret (Value.agg ⟨[Value.int IntKind.i64 2,Value.slice (some ⟨181,0,none⟩) 0 0]⟩) (q0)) (.need (True∧Value.pointer (some ⟨(126:Nat),(0:Nat),none⟩)=Value.pointer (some ⟨(126:Nat),(0:Nat),none⟩)∧Value.bool (ya != ya)=Value.bool (ya != ya)∧Value.bool (ya != ya)=Value.bool (ya != ya)∧Value.bool (ya != ya)=Value.bool (ya != ya)∧Value.int IntKind.i64 ya=Value.int IntKind.i64 ya∧Value.pointer (some ⟨(127:Nat),(0:Nat),none⟩)=Value.pointer (some ⟨(127:Nat),(0:Nat),none⟩)∧Value.int IntKind.i64 ya=Value.int IntKind.i64 ya∧Value.bool false=Value.bool false∧Value.bool false=Value.bool false∧Value.int IntKind.i64 (0:Int)=Value.int IntKind.i64 (0:Int)∧True) (.need ((Value.slice (some ⟨(181:Nat),(0:Nat),none⟩) (0:Nat) (0:Nat)=Value.slice (some ⟨(181:Nat),(0:Nat),none⟩) (0:Nat) (0:Nat)∧True)∧(Value.pointer (some ⟨(128:Nat),(1:Nat),none⟩)=Value.pointer (some ⟨(128:Nat),(1:Nat),none⟩)∧True)∧(Value.slice none (0:Nat) (0:Nat)=Value.slice none (0:Nat) (0:Nat)∧True)∧True) (.call 14 [Value.slice (some ⟨181,0,none⟩) 0 0,Value.slice none 0 0] (q0) (.ret (Value.bool true) (q0)) (.need (consM 14 ([Value.slice (some ⟨181,0,none⟩) 0 0,Value.slice none 0 0]) (q0) (Value.bool true) (q0) [⟨13,[Value.pointer (some ⟨126,0,none⟩)],q1,Value.agg ⟨[Value.int IntKind.i64 2,Value.slice (some ⟨181,0,none⟩) 0 0]⟩,q0⟩]∧True) (.need ((True)∧(True)∧True) (.need (True∧True∧True∧True∧True∧True∧True) (.stop [1,5,7,8,9] (S2 by_ ya yb  (fun _=>undef)))))))))))))):RunD η prog B 4 (H0 by_ ya yb) [1,5,7,8,9] (S1 by_ ya yb  fun _=>undef) (QF prog 126 D):=by
 refine RunD.intro (S1 by_ ya yb) (fun d=>⟨rfl,rfl,rfl⟩) (fun d=>tmOk_get (by kernel_rfl)) (fun d=>by kernel_rfl) (fun d=>?_)
 exact walk_okT (h0:=H0 by_ ya yb) hη hmix hreg (.steps 487 <| .regN [10] <| .steps 9 <| .bit 67 (.steps 8 <| .regN [10] <| .steps 6 <| .done (some ⟨126,[],[]⟩)) (.steps 1 <| .call kN <| .steps 3 <| .call kN <| .steps 2 <| .regN [10] <| .steps 9 <| .stop [1,5,7,8,9] (some ⟨132,[(126,126),(127,127),(128,128),(129,129),(155,130),(130,131)],[(126,(126,false)),(127,(127,false)),(128,(128,false)),(129,(129,false)),(130,(155,false)),(131,(130,false))]⟩))) (S1 by_ ya yb  d) (by kernel_rfl) h (by kernel_rfl)
theorem cut2{η:Nat→Value}{B:Bd}(hη:OneCells η)(hmix:prog.follows .mixedOrders=true)(hreg:RegOk η prog B nestE){D:Value→AH→Prop}(by_:Int)(ya:Int)(yb:Int) (h:let q1:AH:=⟨eE (eE (eE (eE (eE (eE (eE (lL (AObj.cells 44 [iI ya,iI yb] true 2)) nZ) nZ) nZ) (eE nZ (eE (eE (lL (AObj.cells 52 [iI 2,iI ya] true 2)) nZ) nZ))) (eE (eE (eE (eE (lL (AObj.map [] 2 true)) nZ) nZ) nZ) nZ)) (eE (eE (eE (eE (eE (lL (AObj.cells 74 [Value.func (Fn.func (HQ.ordN by_)) ⟨[]⟩ ⟨[]⟩,iI 3,sS 156 0 0 u2,Value.map (some 131)] true 2)) nZ) nZ) nZ) nZ) (eE nZ (eE nZ (eE (eE (lL (AObj.cells 52 [iI 2,iI ya] true 2)) nZ) nZ))))) (eE (eE (eE (eE (eE (eE (lL (AObj.cells 24 [iI 1,Value.slice none 0 0] true 2)) nZ) nZ) nZ) nZ) (eE (eE (eE (eE (lL (AObj.cells 52 [iI 2,iI ya] true 2)) nZ) nZ) nZ) (eE nZ (eE (eE (lL (AObj.cells 52 [iI 0,iI 0] false 2)) nZ) nZ)))) (eE (eE (eE (eE (eE (eE nZ nZ) nZ) nZ) nZ) nZ) (eE nZ (eE nZ (eE nZ (lL (AObj.cells 78 [pP 126 0,pP 129 0] true 2))))))),182⟩;let q0:AH:=⟨eE (eE (eE (eE (eE (eE (eE (lL (AObj.cells 44 [iI ya,iI yb] true 2)) nZ) nZ) nZ) (eE nZ (eE (eE (lL (AObj.cells 52 [iI 2,iI ya] true 2)) nZ) nZ))) (eE (eE (eE (eE (lL (AObj.map [] 2 true)) nZ) nZ) nZ) nZ)) (eE (eE (eE (eE (eE (lL (AObj.cells 74 [Value.func (Fn.func (HQ.ordN by_)) ⟨[]⟩ ⟨[]⟩,iI 3,sS 156 0 0 u2,Value.map (some 131)] true 2)) nZ) nZ) nZ) nZ) (eE nZ (eE nZ (eE (eE (lL (AObj.cells 52 [iI 2,iI ya] true 2)) nZ) nZ))))) (eE (eE (eE (eE (eE (eE (lL (AObj.cells 24 [iI 1,Value.slice none 0 0] true 2)) nZ) nZ) nZ) nZ) (eE (eE (eE (eE (lL (AObj.cells 52 [iI 2,iI ya] true 2)) nZ) nZ) nZ) (eE nZ (eE (eE (lL (AObj.cells 52 [iI 0,iI 0] false 2)) nZ) nZ)))) (eE (eE (eE (eE (eE (eE nZ nZ) nZ) nZ) nZ) nZ) (eE (eE nZ (eE nZ (eE (lL (AObj.cells 52 [] true 2)) nZ))) (eE nZ (eE nZ (lL (AObj.cells 78 [pP 126 0,pP 129 0] true 2))))))),183⟩;W.holds η prog B 4 (fun kp_ st_=>RunD η prog B 4 (H0 by_ ya yb) kp_ st_ (QF prog 126 D)) D (.need ((True)∧(True)∧(True)∧(True)∧(True)∧(True)∧(True)∧(True)∧(True)∧True) (.ite (ya != ya) (.need ((True)∧(True)∧(True)∧(True)∧(True)∧(True)∧(True)∧(True)∧True) (.need (True) (.done 4 (Value.bool false) (H0 by_ ya yb)))) (.need ((True)∧True) (.call 13 [Value.pointer (some ⟨126,0,none⟩)] (q1) (.ret (Value.agg ⟨[Value.int IntKind.i64 3,Value.slice (some ⟨182,0,none⟩) 0 0]⟩) (q0)) (.need (True∧Value.pointer (some ⟨(126:Nat),(0:Nat),none⟩)=Value.pointer (some ⟨(126:Nat),(0:Nat),none⟩)∧Value.bool (ya != ya)=Value.bool (ya != ya)∧Value.bool (ya != ya)=Value.bool (ya != ya)∧Value.bool (ya != ya)=Value.bool (ya != ya)∧Value.int IntKind.i64 ya=Value.int IntKind.i64 ya∧Value.pointer (some ⟨(127:Nat),(0:Nat),none⟩)=Value.pointer (some ⟨(127:Nat),(0:Nat),none⟩)∧Value.int IntKind.i64 ya=Value.int IntKind.i64 ya∧Value.bool false=Value.bool false∧Value.bool false=Value.bool false∧Value.int IntKind.i64 (0:Int)=Value.int IntKind.i64 (0:Int)∧True) (.need ((Value.slice (some ⟨(182:Nat),(0:Nat),none⟩) (0:Nat) (0:Nat)=Value.slice (some ⟨(182:Nat),(0:Nat),none⟩) (0:Nat) (0:Nat)∧True)∧(Value.pointer (some ⟨(128:Nat),(1:Nat),none⟩)=Value.pointer (some ⟨(128:Nat),(1:Nat),none⟩)∧True)∧(Value.slice none (0:Nat) (0:Nat)=Value.slice none (0:Nat) (0:Nat)∧True)∧True) (.call 14 [Value.slice (some ⟨182,0,none⟩) 0 0,Value.slice none 0 0] (q0) (.ret (Value.bool true) (q0)) (.need (consM 14 ([Value.slice (some ⟨182,0,none⟩) 0 0,Value.slice none 0 0]) (q0) (Value.bool true) (q0) [⟨13,[Value.pointer (some ⟨126,0,none⟩)],q1,Value.agg ⟨[Value.int IntKind.i64 3,Value.slice (some ⟨182,0,none⟩) 0 0]⟩,q0⟩]∧True) (.need ((True)∧(True)∧True) (.need (True∧True∧True∧True∧True∧True∧True) (.stop [1,5,7,8,9] (S3 by_ ya yb  (fun _=>undef)))))))))))))):RunD η prog B 4 (H0 by_ ya yb) [1,5,7,8,9] (S2 by_ ya yb  fun _=>undef) (QF prog 126 D):=by
 refine RunD.intro (S2 by_ ya yb) (fun d=>⟨rfl,rfl,rfl⟩) (fun d=>tmOk_get (by kernel_rfl)) (fun d=>by kernel_rfl) (fun d=>?_)
 exact walk_okT (h0:=H0 by_ ya yb) hη hmix hreg (.steps 487 <| .regN [10] <| .steps 9 <| .bit 67 (.steps 8 <| .regN [10] <| .steps 6 <| .done (some ⟨126,[],[]⟩)) (.steps 1 <| .call kN <| .steps 3 <| .call kN <| .steps 2 <| .regN [10] <| .steps 9 <| .stop [1,5,7,8,9] (some ⟨132,[(126,126),(127,127),(128,128),(129,129),(156,130),(131,131)],[(126,(126,false)),(127,(127,false)),(128,(128,false)),(129,(129,false)),(130,(156,false)),(131,(131,false))]⟩))) (S2 by_ ya yb  d) (by kernel_rfl) h (by kernel_rfl)
theorem cut3{η:Nat→Value}{B:Bd}(hη:OneCells η)(hmix:prog.follows .mixedOrders=true)(hreg:RegOk η prog B nestE){D:Value→AH→Prop}(by_:Int)(ya:Int)(yb:Int) (h:let q1:AH:=⟨eE (eE (eE (eE (eE (eE (eE (lL (AObj.cells 44 [iI ya,iI yb] true 2)) nZ) nZ) nZ) (eE nZ (eE (eE (lL (AObj.cells 52 [iI 3,iI ya] true 2)) nZ) nZ))) (eE (eE (eE (eE (lL (AObj.map [] 3 true)) nZ) nZ) nZ) nZ)) (eE (eE (eE (eE (eE (lL (AObj.cells 74 [Value.func (Fn.func (HQ.ordN by_)) ⟨[]⟩ ⟨[]⟩,iI 4,sS 156 0 0 u2,Value.map (some 131)] true 2)) nZ) nZ) nZ) nZ) (eE nZ (eE nZ (eE (eE (lL (AObj.cells 52 [iI 3,iI ya] true 2)) nZ) nZ))))) (eE (eE (eE (eE (eE (eE (lL (AObj.cells 24 [iI 1,Value.slice none 0 0] true 2)) nZ) nZ) nZ) nZ) (eE (eE (eE (eE (lL (AObj.cells 52 [iI 3,iI ya] true 2)) nZ) nZ) nZ) (eE nZ (eE (eE (lL (AObj.cells 52 [iI 0,iI 0] false 2)) nZ) nZ)))) (eE (eE (eE (eE (eE (eE nZ nZ) nZ) nZ) nZ) nZ) (eE nZ (eE nZ (eE nZ (lL (AObj.cells 78 [pP 126 0,pP 129 0] true 2))))))),182⟩;let q0:AH:=⟨eE (eE (eE (eE (eE (eE (eE (lL (AObj.cells 44 [iI ya,iI yb] true 2)) nZ) nZ) nZ) (eE nZ (eE (eE (lL (AObj.cells 52 [iI 3,iI ya] true 2)) nZ) nZ))) (eE (eE (eE (eE (lL (AObj.map [] 3 true)) nZ) nZ) nZ) nZ)) (eE (eE (eE (eE (eE (lL (AObj.cells 74 [Value.func (Fn.func (HQ.ordN by_)) ⟨[]⟩ ⟨[]⟩,iI 4,sS 156 0 0 u2,Value.map (some 131)] true 2)) nZ) nZ) nZ) nZ) (eE nZ (eE nZ (eE (eE (lL (AObj.cells 52 [iI 3,iI ya] true 2)) nZ) nZ))))) (eE (eE (eE (eE (eE (eE (lL (AObj.cells 24 [iI 1,Value.slice none 0 0] true 2)) nZ) nZ) nZ) nZ) (eE (eE (eE (eE (lL (AObj.cells 52 [iI 3,iI ya] true 2)) nZ) nZ) nZ) (eE nZ (eE (eE (lL (AObj.cells 52 [iI 0,iI 0] false 2)) nZ) nZ)))) (eE (eE (eE (eE (eE (eE nZ nZ) nZ) nZ) nZ) nZ) (eE (eE nZ (eE nZ (eE (lL (AObj.cells 52 [] true 2)) nZ))) (eE nZ (eE nZ (lL (AObj.cells 78 [pP 126 0,pP 129 0] true 2))))))),183⟩;W.holds η prog B 4 (fun kp_ st_=>RunD η prog B 4 (H0 by_ ya yb) kp_ st_ (QF prog 126 D)) D (.need ((True)∧(True)∧(True)∧(True)∧(True)∧(True)∧(True)∧(True)∧(True)∧True) (.ite (ya != ya) (.need ((True)∧(True)∧(True)∧(True)∧(True)∧(True)∧(True)∧(True)∧True) (.need (True) (.done 4 (Value.bool false) (H0 by_ ya yb)))) (.need ((True)∧True) (.call 13 [Value.pointer (some ⟨126,0,none⟩)] (q1) (.ret (Value.agg ⟨[Value.int IntKind.i64 4,Value.slice (some ⟨182,0,none⟩) 0 0]⟩) (q0)) (.need (True∧Value.pointer (some ⟨(126:Nat),(0:Nat),none⟩)=Value.pointer (some ⟨(126:Nat),(0:Nat),none⟩)∧Value.bool (ya != ya)=Value.bool (ya != ya)∧Value.bool (ya != ya)=Value.bool (ya != ya)∧Value.bool (ya != ya)=Value.bool (ya != ya)∧Value.int IntKind.i64 ya=Value.int IntKind.i64 ya∧Value.pointer (some ⟨(127:Nat),(0:Nat),none⟩)=Value.pointer (some ⟨(127:Nat),(0:Nat),none⟩)∧Value.int IntKind.i64 ya=Value.int IntKind.i64 ya∧Value.bool false=Value.bool false∧Value.bool false=Value.bool false∧Value.int IntKind.i64 (0:Int)=Value.int IntKind.i64 (0:Int)∧True) (.need ((Value.slice (some ⟨(182:Nat),(0:Nat),none⟩) (0:Nat) (0:Nat)=Value.slice (some ⟨(182:Nat),(0:Nat),none⟩) (0:Nat) (0:Nat)∧True)∧(Value.pointer (some ⟨(128:Nat),(1:Nat),none⟩)=Value.pointer (some ⟨(128:Nat),(1:Nat),none⟩)∧True)∧(Value.slice none (0:Nat) (0:Nat)=Value.slice none (0:Nat) (0:Nat)∧True)∧True) (.call 14 [Value.slice (some ⟨182,0,none⟩) 0 0,Value.slice none 0 0] (q0) (.ret (Value.bool true) (q0)) (.need (consM 14 ([Value.slice (some ⟨182,0,none⟩) 0 0,Value.slice none 0 0]) (q0) (Value.bool true) (q0) [⟨13,[Value.pointer (some ⟨126,0,none⟩)],q1,Value.agg ⟨[Value.int IntKind.i64 4,Value.slice (some ⟨182,0,none⟩) 0 0]⟩,q0⟩]∧True) (.need ((True)∧(True)∧True) (.need (True∧True∧True∧True∧True∧True∧True) (.stop [1,5,7,8,9] (S4 by_ ya yb  (fun _=>undef)))))))))))))):RunD η prog B 4 (H0 by_ ya yb) [1,5,7,8,9] (S3 by_ ya yb  fun _=>undef) (QF prog 126 D):=by
 refine RunD.intro (S3 by_ ya yb) (fun d=>⟨rfl,rfl,rfl⟩) (fun d=>tmOk_get (by kernel_rfl)) (fun d=>by kernel_rfl) (fun d=>?_)
 exact walk_okT (h0:=H0 by_ ya yb) hη hmix hreg (.steps 487 <| .regN [10] <| .steps 9 <| .bit 67 (.steps 8 <| .regN [10] <| .steps 6 <| .done (some ⟨126,[],[]⟩)) (.steps 1 <| .call kN <| .steps 3 <| .call kN <| .steps 2 <| .regN [10] <| .steps 9 <| .stop [1,5,7,8,9] (some ⟨132,[(126,126),(127,127),(128,128),(129,129),(156,130),(131,131)],[(126,(126,false)),(127,(127,false)),(128,(128,false)),(129,(129,false)),(130,(156,false)),(131,(131,false))]⟩))) (S3 by_ ya yb  d) (by kernel_rfl) h (by kernel_rfl)
theorem cut4{η:Nat→Value}{B:Bd}(hη:OneCells η)(hmix:prog.follows .mixedOrders=true)(hreg:RegOk η prog B nestE){D:Value→AH→Prop}(by_:Int)(ya:Int)(yb:Int) (h:let q0:AH:=⟨eE (eE (eE (eE (eE (eE (eE (lL (AObj.cells 44 [iI ya,iI yb] true 2)) nZ) nZ) nZ) nZ) (eE (eE (eE (eE (lL (AObj.map [] 3 true)) nZ) nZ) nZ) nZ)) (eE (eE (eE (eE (eE (lL (AObj.cells 74 [Value.func (Fn.func (HQ.ordN by_)) ⟨[]⟩ ⟨[]⟩,iI 4,sS 130 0 0 u2,Value.map (some 131)] true 2)) nZ) nZ) nZ) nZ) nZ)) (eE (eE (eE (eE (eE (eE (lL (AObj.cells 24 [iI 1,Value.slice none 0 0] true 2)) nZ) nZ) nZ) nZ) nZ) (eE (eE (eE (eE (eE (lL (AObj.cells 52 [iI 0,iI 0] false 2)) nZ) nZ) nZ) nZ) (eE nZ (eE nZ (eE nZ (lL (AObj.cells 78 [pP 126 0,pP 129 0] true 2))))))),132⟩;W.holds η prog B 4 (fun kp_ st_=>RunD η prog B 4 (H0 by_ ya yb) kp_ st_ (QF prog 126 D)) D (.call 6 [] (q0) (.ret (Value.bool true) (q0)) (.need (True) (.done 4 (Value.bool true) (H0 by_ ya yb))))):RunD η prog B 4 (H0 by_ ya yb) [1,5,7,8,9] (S4 by_ ya yb  fun _=>undef) (QF prog 126 D):=by
 refine RunD.intro (S4 by_ ya yb) (fun d=>⟨rfl,rfl,rfl⟩) (fun d=>tmOk_get (by kernel_rfl)) (fun d=>by kernel_rfl) (fun d=>?_)
 exact walk_okT (h0:=H0 by_ ya yb) hη hmix hreg (.steps 18 <| .call kN <| .steps 3 <| .done (some ⟨126,[],[]⟩)) (S4 by_ ya yb  d) (by kernel_rfl) h (by kernel_rfl)
end KHand0
end Go.Ev

namespace Go.Ev
open Go Go.Proofs
open Go.Ev.T renaming node → nN, nil → nZ
open Go.Proofs.Try (prog)
set_option maxRecDepth 100000
set_option maxHeartbeats 2000000
namespace KSave1
noncomputable def bd:Code:=(Go.Proofs.Try.f13.body).getD .skip
noncomputable def H0(f:Nat)(x:Int)(s:HQ.QS):AH:={ objs:=eE (eE (eE (eE (eE (eE (eE (lL (AObj.cells 74 [Value.func (Fn.func f) ⟨[]⟩ ⟨[]⟩,iI x,sS 128 0 0 u2,Value.map (some 129)] true 2)) nZ) nZ) nZ) nZ) nZ) (eE (eE (eE (eE (eE (lL (AObj.map s.E s.ck true)) nZ) nZ) nZ) nZ) nZ)) (eE (eE (eE (eE (eE (eE (lL (AObj.cells 52 s.c false 2)) nZ) nZ) nZ) nZ) nZ) (eE nZ (eE nZ (eE nZ (eE nZ (lL (AObj.cells 78 [pP 126 0,pP 127 0] true 2))))))),next:=130 }
noncomputable def E(f:Nat)(x:Int)(s:HQ.QS):AS:=⟨⟨13,32,lL (pP 126 0),[Item.code (codeAt bd [])],[],FrameMode.run,CallKind.normal,none⟩,[],H0 f x s⟩
theorem enter{η:Nat→Value}{B:Bd}(hη:OneCells η)(hmix:prog.follows .mixedOrders=true)(hreg:RegOk η prog B noNest){D:Value→AH→Prop}(f:Nat)(x:Int)(s:HQ.QS)(h:W.holds η prog B 13 (fun kp_ st_=>RunD η prog B 13 (H0 f x s) kp_ st_ (QF prog 130 D)) D (.need (True∧True∧NoNames s.c∧NoNamesE s.E∧True∧True) (.done 13 (Value.agg ⟨[Value.int IntKind.i64 x,Value.slice (some ⟨130,0,none⟩) 0 0]⟩) (⟨eE (eE (eE (eE (eE (eE (eE (lL (AObj.cells 74 [Value.func (Fn.func f) ⟨[]⟩ ⟨[]⟩,iI x,sS 128 0 0 u2,Value.map (some 129)] true 2)) nZ) nZ) nZ) nZ) nZ) (eE (eE (eE (eE (eE (lL (AObj.map s.E s.ck true)) nZ) nZ) nZ) nZ) nZ)) (eE (eE (eE (eE (eE (eE (lL (AObj.cells 52 s.c false 2)) nZ) nZ) nZ) nZ) nZ) (eE (eE (eE (eE (eE (lL (AObj.cells 52 [] true 2)) nZ) nZ) nZ) nZ) (eE nZ (eE nZ (eE nZ (lL (AObj.cells 78 [pP 126 0,pP 127 0] true 2))))))),131⟩)))):CallSpec η prog B 13 [Value.pointer (some ⟨126,0,none⟩)] (H0 f x s) D:=by
 refine CallSpec.ofQF hη (CallSpec.enter (fr:=(E f x s).fr) (by kernel_rfl) ?_)
 exact walk_okT (h0:=H0 f x s) hη hmix hreg (.steps 216 <| .done (some ⟨131,[(131,130)],[(126,(126,false)),(127,(127,false)),(128,(128,true)),(129,(129,true)),(130,(131,false))]⟩)) (E f x s) (by kernel_rfl) h (by kernel_rfl)
end KSave1
end Go.Ev

namespace Go.Ev
open Go Go.Proofs
open Go.Ev.T renaming node → nN, nil → nZ
open Go.Proofs.Try (prog)
set_option maxRecDepth 100000
set_option maxHeartbeats 2000000
namespace KSave0
noncomputable def bd:Code:=(Go.Proofs.Try.f13.body).getD .skip
noncomputable def H0(f:Nat)(x:Int):AH:={ objs:=eE (eE (eE (eE (eE (eE (eE (lL (AObj.cells 74 [Value.func (Fn.func f) ⟨[]⟩ ⟨[]⟩,iI x,Value.slice none 0 0,Value.map (some 128)] true 2)) nZ) nZ) nZ) nZ) nZ) nZ) (eE (eE (eE (eE (eE (eE (lL (AObj.map [] 0 true)) nZ) nZ) nZ) nZ) nZ) (eE nZ (eE nZ (eE nZ (eE nZ (lL (AObj.cells 78 [pP 126 0,pP 127 0] true 2))))))),next:=129 }
noncomputable def E(f:Nat)(x:Int):AS:=⟨⟨13,32,lL (pP 126 0),[Item.code (codeAt bd [])],[],FrameMode.run,CallKind.normal,none⟩,[],H0 f x⟩
theorem enter{η:Nat→Value}{B:Bd}(hη:OneCells η)(hmix:prog.follows .mixedOrders=true)(hreg:RegOk η prog B noNest){D:Value→AH→Prop}(f:Nat)(x:Int)(h:W.holds η prog B 13 (fun kp_ st_=>RunD η prog B 13 (H0 f x) kp_ st_ (QF prog 129 D)) D (.need (True∧True∧True∧True) (.done 13 (Value.agg ⟨[Value.int IntKind.i64 x,Value.slice none 0 0]⟩) (H0 f x)))):CallSpec η prog B 13 [Value.pointer (some ⟨126,0,none⟩)] (H0 f x) D:=by
 refine CallSpec.ofQF hη (CallSpec.enter (fr:=(E f x).fr) (by kernel_rfl) ?_)
 exact walk_okT (h0:=H0 f x) hη hmix hreg (.steps 212 <| .done (some ⟨129,[],[(126,(126,false)),(127,(127,false)),(128,(128,false))]⟩)) (E f x) (by kernel_rfl) h (by kernel_rfl)
end KSave0
end Go.Ev

namespace Go.Ev
open Go Go.RowKit Go.ChangeShapes Go.WideShapes
variable {P:Program}
def SliceArg(W:World)(v:Value)(n:Nat)(c:List Value):Prop:=
 (v = .slice none 0 0∧n=0)∨∃ blk o o' cap ty,v = .slice (some ⟨blk,o,none⟩) n cap∧isU cap=false∧(o'≤o∧o≤o'+c.length)∧(n ≠ 0→o'=o)∧RowAt W ⟨ty,c,blk,o'⟩
theorem rowAt_le{fits:TypeId→Bool}:∀ (d:Nat) {e:TypeId} {count off n:Nat},rowAt P fits d e count off n=true→off≤count * P.cellsOf e
 | 0,e,count,off,n,h=>by simp [rowAt] at h
 | d+1,e,count,off,n,h=>by
  unfold rowAt at h
  simp only at h
  split at h
  ·cases h
  ·rename_i hs
   have hs:0<P.cellsOf e:=Nat.pos_of_ne_zero hs
   have hd:=Nat.div_add_mod off (P.cellsOf e)
   simp only [Bool.or_eq_true,Bool.and_eq_true,beq_iff_eq,decide_eq_true_eq] at h
   rcases h with⟨⟨hr,hn⟩,_⟩ | ⟨hi,_⟩
   ·rw [hr,Nat.add_zero,Nat.mul_comm] at hd
    rw [← hd];exact Nat.mul_le_mul_right _ (by omega)
   ·exact Nat.le_of_lt ((Nat.div_lt_iff_lt_mul hs).1 hi)
theorem liesAt_le:∀ (d:Nat) {u:TypeId} {e:TypeId} {count off n:Nat},liesAt P d e count off u n=true→off≤count * P.cellsOf e
 | 0,u,e,count,off,n,h=>by simp [liesAt] at h
 | d+1,u,e,count,off,n,h=>by
  unfold liesAt at h
  rw [Bool.or_eq_true] at h
  rcases h with h | h
  ·exact rowAt_le _ h
  ·cases hu:P.underlying u with
   | none=>rw [hu] at h;cases h
   | some t=>
    rw [hu] at h
    cases t with
    | array m u'=>exact liesAt_le d h
    | _=>simp at h
theorem has_lt'{w:World}{r:Reach}{base:Nat}{a:Addr}{e:TypeId}{n:Nat}(h:w.has P r base a e n):a.spot=none∧∃ (C:Array Value) (ty:TypeId) (lo hi:Nat),w.heap[a.block]? = some (.cells C ty (lo,hi))∧a.off≤C.size:=by
 obtain⟨_,hs,row,cells,hsh,hl⟩:=h
 refine⟨hs,?_⟩
 have hle:=Nat.le_trans (liesAt_le _ hl) (Nat.div_mul_le_self _ _)
 unfold World.shape? at hsh
 split at hsh
 ·rename_i C ty fr hh
  obtain⟨lo,hi⟩:=fr
  injection hsh with hsh
  injection hsh with h1 h2
  exact⟨C,ty,lo,hi,hh,by omega⟩
 ·cases hsh
theorem has_of_slice'{w:World}{r:Reach}{b0:Nat}{t e:TypeId}{a:Addr}{n c:Nat}(hu:P.underlying t=some (.slice e))(h:Value.okWide P w r b0 t (.slice (some a) n c)):w.has P r b0 a e c:=by
 simp only [Value.okWide,hu,Cell.okWide,Cell.ok] at h
 exact h.2.2
theorem cells_slice'(p:Option Addr)(n c:Nat):(Value.slice p n c).cells.toList=[.slice p n c]:=rfl
theorem notU{c:Nat}(h:c≤maxLen):isU c=false:=by
 have:maxLen<9223372036854775808:=by decide
 unfold isU capB
 exact decide_eq_false (by omega)
theorem row_at{W:World}{b o:Nat}{C:Array Value}{ty:TypeId}{lo hi:Nat}{c:List Value}(hb:W.heap[b]? = some (.cells C ty (lo,hi)))(hc:∀ (i:Nat) (v:Value),c[i]? = some v→W.cell? ⟨b,o+i,none⟩=some v)(hbare:c.all bareV=true)(hne:c ≠ []):RowAt W ⟨ty,c,b,o⟩:=by
 have hall:∀ (i:Nat) (v:Value),c[i]? = some v→C[o+i]? = some v:=by
  intro i v hv
  have h:=hc i v hv
  unfold World.cell? at h
  simp only [hb,Option.isSome_none,Bool.false_eq_true,if_false] at h
  exact h
 refine⟨C,lo,hi,hb,?_,fun i v hv=>by simpa using hall i v hv,hbare⟩
 have hl:0<c.length:=List.length_pos_iff.2 hne
 have:=hall (c.length - 1) (c[c.length - 1]'(by omega)) (List.getElem?_eq_getElem (by omega))
 have:=(Array.getElem?_eq_some_iff.1 this).1
 show o+c.length≤C.size
 omega
end Go.Ev

namespace Go.Ev
open Go Go.RowKit Go.ChangeShapes Go.WideShapes
variable {P:Program}
def intsV(k:IntKind)(l:List Int):List Value:=l.map fun n=>.int k n
theorem intsV_bare(k:IntKind)(l:List Int):(intsV k l).all bareV=true:=by
 rw [List.all_eq_true];intro v hv
 unfold intsV at hv
 rw [List.mem_map] at hv
 obtain⟨x,_,rfl⟩:=hv;rfl
theorem intsV_get{k:IntKind}{l:List Int}{j:Nat}(h:j<l.length):(intsV k l)[j]? = some (.int k l[j]):=by
 unfold intsV;rw [List.getElem?_map,List.getElem?_eq_getElem h];rfl
theorem open_ints_arg{t e:TypeId}{k:IntKind}(hu:P.underlying t=some (.slice e))(he:P.underlying e=some (.int k))(hC:P.cellsOf e=1)
  {H:Type} {enc:TypeId × Value→H} {W:World} {r:Reach} {b0 base:Nat} {sp:Nat→Bool} {held:Bool} {v:Value} {d:DataW H} {ps:List MemPlace}
  (hval:Value.okWide P W r b0 t v) (h:DataW.Trod enc P W base sp held t v d ps):∃ b:List Int,SliceArg W v b.length (intsV k b):=by
 obtain⟨p,n,c,rfl⟩:=okWide_slice hu hval
 obtain⟨fuel,hf⟩:=h
 rw [cells_slice'] at hf
 rcases Go.Deep.open_slice1 hu hC hf with⟨hn,_⟩ | ⟨a,len,cap,m,q,V,D,Pl,hcs,hb,hl,hm,hmm,hx,hi⟩
 ·simp at hn
  obtain⟨rfl,rfl,rfl⟩:=hn
  exact⟨[],.inl ⟨rfl,rfl⟩⟩
 ·simp at hcs
  obtain⟨rfl,rfl,rfl⟩:=hcs
  obtain⟨hsp,C,ty,lo,hi',hblk,hoff⟩:=has_lt' (has_of_slice' hu hval)
  obtain⟨b,o,spot⟩:=a
  simp only at hsp hblk hoff
  subst hsp
  have hlm:n≤m:=by rw [hmm];split <;> omega
  have hel:∀ i,i<n→∃ x:Int,W.cell? ⟨b,o+i,none⟩=some (.int k x):=by
   intro i hin
   obtain⟨h1,h2⟩:=hi i (by omega)
   obtain⟨z,hz,_,hw⟩:=DataW.trod_int he h2
   injection hz with hz _
   refine⟨z,?_⟩
   rw [hz] at h1
   simpa [Go.WideShapes.add_plain] using h1
  obtain⟨F,hF⟩:=Go.Deep.choose_lt hel
  refine⟨(List.range n).map F,?_⟩
  have hlen:((List.range n).map F).length=n:=by simp
  rw [hlen]
  cases n with
  | zero=>exact .inr ⟨b,o,o,c,ty,rfl,notU hm,⟨Nat.le_refl _,Nat.le_add_right _ _⟩,fun h=>absurd rfl h,C,lo,hi',hblk,hoff,(fun i v hv=>by simp [intsV] at hv),rfl⟩
  | succ n=>
   refine .inr ⟨b,o,o,c,ty,rfl,notU hm,⟨Nat.le_refl _,Nat.le_add_right _ _⟩,fun _=>rfl,row_at hblk (fun i v hv=>?_) (intsV_bare _ _) (by simp [intsV])⟩
   unfold intsV at hv
   rw [List.map_map,List.getElem?_map,Option.map_eq_some_iff] at hv
   obtain⟨j,hj,rfl⟩:=hv
   rw [List.getElem?_eq_some_iff] at hj
   obtain⟨hj1,rfl⟩:=hj
   rw [List.length_range] at hj1
   rw [List.getElem_range]
   exact hF i hj1
end Go.Ev

namespace Go.Ev
open Go Go.RowKit Go.ChangeShapes Go.WideShapes
variable {P:Program}
theorem wf_i64{n:Int}(h:(Lit.int .i64 n).wf=true):-9223372036854775808≤n∧n≤9223372036854775807:=by
 have e1:IntKind.i64.min=-9223372036854775808:=by decide
 have e2:IntKind.i64.max=9223372036854775807:=by decide
 simp only [Lit.wf,Bool.and_eq_true,decide_eq_true_eq,e1,e2] at h
 exact h
theorem open_arr2_arg{t e:TypeId}(hu:P.underlying t=some (.array 2 e))(he:P.underlying e=some (.int .i64))(hC:P.cellsOf e=1)(hT:P.cellsOf t=2)
  {H:Type} {enc:TypeId × Value→H} {W:World} {r:Reach} {b0 base:Nat} {sp:Nat→Bool} {held:Bool} {v:Value} {d:DataW H} {ps:List MemPlace}
  (hval:Value.okWide P W r b0 t v) (h:DataW.Trod enc P W base sp held t v d ps):∃ y0 y1:Int,v = .agg ⟨[.int .i64 y0,.int .i64 y1]⟩∧(-9223372036854775808≤y0∧y0≤9223372036854775807)∧(-9223372036854775808≤y1∧y1≤9223372036854775807):=by
 simp only [Value.okWide,hu] at hval
 obtain⟨cs,rfl,hsz,_⟩:=hval
 obtain⟨l⟩:=cs
 obtain⟨fuel,hf⟩:=h
 cases fuel with
 | zero=>simp [DataW.trod] at hf
 | succ m=>
  rw [DataW.trod_step] at hf
  unfold DataW.trodStep at hf
  simp only [hu,Value.cells] at hf
  rw [hT] at hsz
  rw [if_pos (by rw [hT];simpa using hsz)] at hf
  simp only [Option.map_eq_some_iff] at hf
  obtain⟨ys,hy,_⟩:=hf
  rw [hC] at hy
  have e2:List.range 2=[0,1]:=rfl
  rw [e2,List.mapM_cons] at hy
  simp only [bind,Option.bind_eq_some_iff,pure] at hy
  obtain⟨y,h0,ys',h1,_⟩:=hy
  rw [List.mapM_cons] at h1
  simp only [bind,Option.bind_eq_some_iff,pure] at h1
  obtain⟨z,h1,_⟩:=h1
  obtain⟨a,ea,_,wa⟩:=DataW.trod_int he h0
  obtain⟨b,eb,_,wb⟩:=DataW.trod_int he h1
  refine⟨a,b,?_,wf_i64 wa,wf_i64 wb⟩
  have hl:l.length=2:=by simpa using hsz
  match l,hl with
  | [p,q],_=>
   simp at ea eb
   rw [ea,eb]
end Go.Ev

/- The law of handles: no values; over any arguments. -/
namespace Go.Ev
open Go Go.Proofs Go.RowKit
variable {η:Nat→Value} {B:Bd}
namespace HQ
theorem intsG(k:IntKind)(L:List Int):∀ j,j<L.length→(intsV k L)[0+j]? = some (.int k (intAt (intsV k L) (0+j))):=fun j hj=>by
 rw [Nat.zero_add]
 unfold intAt
 rw [intsV_get hj]
theorem save_none0(hη:OneCells η)(hmix:Try.prog.follows .mixedOrders=true){H:AH}{q v m f:Nat}{x:Int}(a:QAt0 H q v m f x) :
  CallSpec η Try.prog B 13 [.pointer (some ⟨q,0,none⟩)] H (KT.ret (.agg ⟨[.int .i64 x,.slice none 0 0]⟩) ⟨putL (keyQ (rnQ q v m) 3 H.next) [some (objQ q v),some (.cells 74 [.func (.func f) #[] #[],.int .i64 x,.slice none 0 0,.map (some m)] true 2),some (.map [] 0 true)] 0 H.objs,H.next+(3 - 3)⟩).sat:=by
 obtain⟨d1,d2,d3⟩:=a.hd
 refine CallSpec.move hη gs9 (rn:=rnQ q v m) (l:=[objQ 126 127,.cells 74 [.func (.func f) #[] #[],.int .i64 x,.slice none 0 0,.map (some 128)] true 2,.map [] 0 true]) (l':=[objQ q v,.cells 74 [.func (.func f) #[] #[],.int .i64 x,.slice none 0 0,.map (some m)] true 2,.map [] 0 true])
  (args:=[.pointer (some ⟨126,0,none⟩)]) (v:=.agg ⟨[.int .i64 x,.slice none 0 0]⟩) (l2:=[some (objQ 126 127),some (.cells 74 [.func (.func f) #[] #[],.int .i64 x,.slice none 0 0,.map (some 128)] true 2),some (.map [] 0 true)]) ⟨fun i a' hi=>?_,?_,fun i j hi hj e=>?_⟩ (by simp) (.cons (.ptr (show 126<129 by decide)) .nil) (.agg rfl fun j y z h1 h2=>?_) ?_ ?_
 ·match i,hi with
  | 0,hi=>simp at hi;subst hi;exact a.hq
  | 1,hi=>simp at hi;subst hi;exact a.hv
  | 2,hi=>simp at hi;subst hi;exact a.hm
  | i+3,hi=>simp at hi
 ·exact .cons (ro_Q (show 126<129 by decide) (show 127<129 by decide)) (.cons (.cells _ _ (.cons (rv_fn f) (.cons (.int _ _) (.cons (.slice0 _ _) (.cons (.map (show 128<129 by decide)) .nil)))) (.inl rfl)) (.cons (.map _ .nil (.inl rfl)) .nil))
 ·simp only [List.length_cons,List.length_nil] at hi hj
  match i,j,hi,hj,e with
  | 0,0,_,_,_=>rfl
  | 1,1,_,_,_=>rfl
  | 2,2,_,_,_=>rfl
  | 0,1,_,_,e=>exact absurd e d1
  | 0,2,_,_,e=>exact absurd e d2
  | 1,0,_,_,e=>exact absurd e.symm d1
  | 1,2,_,_,e=>exact absurd e d3
  | 2,0,_,_,e=>exact absurd e.symm d2
  | 2,1,_,_,e=>exact absurd e.symm d3
 ·match j,h1,h2 with
  | 0,h1,h2=>simp at h1 h2;subst h1;subst h2;exact .int _ _
  | 1,h1,h2=>simp at h1 h2;subst h1;subst h2;exact .slice0 _ _
  | j+2,h1,h2=>simp at h1
 ·exact .cons (.some (ro_Q (show 126<129 by decide) (show 127<129 by decide))) (.cons (.some (.cells _ _ (.cons (rv_fn f) (.cons (.int _ _) (.cons (.slice0 _ _) (.cons (.map (show 128<129 by decide)) .nil)))) (.inl rfl))) (.cons (.some (.map _ .nil (.inl rfl))) .nil))
 ·refine KSave0.enter hη hmix (reg0 hη hmix) _ _ ?_
  simp only [W.holds,true_and,and_true,true_implies]
  first | exact⟨rfl,by kernel_rfl,by kernel_rfl,by kernel_rfl,trivial⟩ | exact⟨by kernel_rfl,by kernel_rfl,by kernel_rfl,trivial⟩ | exact⟨rfl,rfl,by kernel_rfl,by kernel_rfl,by kernel_rfl,trivial⟩
theorem save_zero(hη:OneCells η)(hmix:Try.prog.follows .mixedOrders=true){H:AH}{q v r m f:Nat}{x:Int}{k:Nat}{s:QS}{g:G}(a:QAt H q v r m f x 0 s)(hs:s.c=its g k)(hE:intE s.E) :
  CallSpec η Try.prog B 13 [.pointer (some ⟨q,0,none⟩)] H (KT.ret (.agg ⟨[.int .i64 x,.slice (some ⟨H.next,0,none⟩) 0 0]⟩) ⟨putL (keyQ (rnK q v r m) 4 H.next) [some (objQ q v),some (objV f x r 0 (capU 2) m),some (.cells 52 s.c false 2),some (.map s.E s.ck true),some (.cells 52 [] true 2)] 0 H.objs,H.next+(5 - 4)⟩).sat:=by
 have nn:NoNames s.c:=by rw [hs];exact its_nn _ _
 refine CallSpec.move hη gs9 (v:=.agg ⟨[.int .i64 x,.slice (some ⟨130,0,none⟩) 0 0]⟩) (l2:=[some (objQ 126 127),some (objV f x 128 0 (capU 2) 129),some (.cells 52 s.c false 2),some (.map s.E s.ck true),some (.cells 52 [] true 2)])
  (args:=[.pointer (some ⟨126,0,none⟩)]) (stands4 a hs hE) (by simp) (.cons (.ptr (show 126<130 by decide)) .nil) (.agg rfl fun j y z h1 h2=>?_) ?_ ?_
 ·match j,h1,h2 with
  | 0,h1,h2=>simp at h1 h2;subst h1;subst h2;exact .int _ _
  | 1,h1,h2=>simp at h1 h2;subst h1;subst h2;exact .slice _ _ (show 130<131 by decide)
  | j+2,h1,h2=>simp at h1
 ·exact .cons (.some (ro_Q (show 126<131 by decide) (show 127<131 by decide))) (.cons (.some (ro_V (r:=128) (m:=129) (show 128<131 by decide) (show 129<131 by decide))) (.cons (.some (.cells _ _ (l2_bareV (bare_Q hs)) (.inl rfl))) (.cons (.some (.map _ (bare_int hE) (.inl rfl))) (.cons (.some (.cells _ _ .nil (.inl rfl))) .nil))))
 ·refine KSave1.enter hη hmix (reg0 hη hmix) _ _ _ ?_
  simp only [W.holds,true_and,and_true,true_implies]
  exact⟨⟨nn,nn_int hE⟩,fun _=>⟨by kernel_rfl,by kernel_rfl,by kernel_rfl,by kernel_rfl,by kernel_rfl,by kernel_rfl,trivial⟩⟩
set_option maxRecDepth 20000 in
set_option maxHeartbeats 4000000 in
theorem hand0_can(hη:OneCells η)(hmix:Try.prog.follows .mixedOrders=true)(b ya yb:Int):CallSpec η Try.prog B 4 [.int .u8 b,.slice none 0 9223372036854775808,.agg ⟨[.int .i64 ya,.int .i64 yb]⟩] (heapO []) fun v _=>v = .bool true:=by
 have reg:=regE (B:=B) (η:=η) hη hmix
 have cut0:=KHand0.cut0 (η:=η) (B:=B) (D:=fun v _=>v = .bool true) hη hmix reg b ya yb
 have cut1:=KHand0.cut1 (η:=η) (B:=B) (D:=fun v _=>v = .bool true) hη hmix reg b ya yb
 have cut2:=KHand0.cut2 (η:=η) (B:=B) (D:=fun v _=>v = .bool true) hη hmix reg b ya yb
 have cut3:=KHand0.cut3 (η:=η) (B:=B) (D:=fun v _=>v = .bool true) hη hmix reg b ya yb
 have cut4:=KHand0.cut4 (η:=η) (B:=B) (D:=fun v _=>v = .bool true) hη hmix reg b ya yb
 refine KHand0.enter hη hmix reg b ya yb ?_
 generalize hD:(QF Try.prog 126 fun v _=>v = .bool true)=D at cut0 cut1 cut2 cut3 cut4 ⊢
 simp only [W.holds,eq_self,true_and,and_true,true_implies,bne_self_eq_false,Bool.false_eq_true,false_implies] at cut0 cut1 cut2 cut3 cut4 ⊢
 have e4:=cut4 (awake_ok hη hmix _)
 have ne:(13:Nat)=14→False:=fun q=>absurd q (by decide)
 have sv:=fun (H:AH) (x:Int) (ck r m:Nat) hA=>save_zero (B:=B) (H:=H) (q:=126) (v:=129) (r:=r) (m:=m) (f:=ordN b) (x:=x) (k:=1) (s:=⟨its (fun _=>(0,0)) 1,[],ck⟩) (g:=fun _=>(0,0)) hη hmix hA rfl (fun e he=>by cases he)
 have e3:=cut3 ⟨(sv _ 4 3 156 131 ⟨by kernel_rfl,by kernel_rfl,by kernel_rfl,by kernel_rfl,by decide⟩).conv (by kernel_rfl),CallSpec.eval (fuel:=100000) (depth:=20) hη hmix (by kernel_rfl),⟨fun q=>(ne q).elim,trivial⟩,fun _=>e4⟩
 have e2:=cut2 ⟨(sv _ 3 2 156 131 ⟨by kernel_rfl,by kernel_rfl,by kernel_rfl,by kernel_rfl,by decide⟩).conv (by kernel_rfl),CallSpec.eval (fuel:=100000) (depth:=20) hη hmix (by kernel_rfl),⟨fun q=>(ne q).elim,trivial⟩,fun _=>e3⟩
 have e1:=cut1 ⟨(sv _ 2 1 155 130 ⟨by kernel_rfl,by kernel_rfl,by kernel_rfl,by kernel_rfl,by decide⟩).conv (by kernel_rfl),CallSpec.eval (fuel:=100000) (depth:=20) hη hmix (by kernel_rfl),⟨fun q=>(ne q).elim,trivial⟩,fun _=>e2⟩
 have e0:=cut0 ⟨(save_none0 (B:=B) hη hmix (q:=126) (v:=128) (m:=129) (f:=ordN b) (x:=1) ⟨by kernel_rfl,by kernel_rfl,by kernel_rfl,by decide⟩).conv (by kernel_rfl),e1⟩
 exact⟨order_N hη hmix b _,e0⟩
theorem hand_row(hmix:Try.prog.follows .mixedOrders=true){w0:World}(b ya yb:Int)(h1:-9223372036854775808≤yb)(h2:yb≤9223372036854775807)(L:List Int)(a:Value)(ha:SliceArg w0 a L.length (intsV .i64 L)) :
  Calls Try.prog 4 #[.int .u8 b,a,.agg ⟨[.int .i64 ya,.int .i64 yb]⟩] w0 fun e w'=>e = .returned (.bool true)∧Go.RowKit.Below w0.heap.size w0 w':=by
 have hη:OneCells (fun _=>Value.nilIface):=fun _=>rfl
 have hy:∀ ρ:Env,VR (fun _=>Value.nilIface) ρ (.agg ⟨[.int .i64 ya,.int .i64 yb]⟩) (.agg ⟨[.int .i64 ya,.int .i64 yb]⟩):=fun ρ=>.agg rfl fun j y z g1 g2=>by
  match j with
  | 0=>simp at g1 g2;subst g1;subst g2;exact .int _ _
  | 1=>simp at g1 g2;subst g1;subst g2;exact .int _ _
  | j+2=>simp at g1
 have zero:∀ (q:Option Addr) (cap:Nat),Calls Try.prog 4 #[.int .u8 b,.slice q 0 cap,.agg ⟨[.int .i64 ya,.int .i64 yb]⟩] w0 fun e w'=>e = .returned (.bool true)∧Go.RowKit.Below w0.heap.size w0 w':=fun q cap=>
  CallSpec.trueP (η:=fun _=>.nilIface) (l:=[]) (args:=[.int .u8 b,.slice none 0 9223372036854775808,.agg ⟨[.int .i64 ya,.int .i64 yb]⟩]) gs9 (fun x hx=>by cases hx) (.cons (.int _ _) (.cons (.sliceE _ _) (.cons (hy _) .nil))) (hand0_can hη hmix b ya yb)
 rcases ha with⟨rfl,_⟩ | ⟨blk,o,o',cap,ty,rfl,hcap,hle,ho,hr⟩
 ·exact zero none 0
 ·by_cases hL:L=[]
  ·subst hL;exact zero _ _
  ·have hpos:0<L.length:=List.length_pos_iff.2 hL
   have eo:=ho (by omega)
   refine CallSpec.trueR (η:=fun _=>.nilIface) (l:=[⟨ty,intsV .i64 L,blk,o'⟩]) (args:=[.int .u8 b,.slice (some ⟨126,o - o',none⟩) L.length cap,.agg ⟨[.int .i64 ya,.int .i64 yb]⟩]) gs9 (fun x hx=>by rw [List.mem_singleton] at hx;subst hx;exact hr) (.cons (.int _ _) (.cons ?_ (.cons (hy _) .nil))) ?_
   ·have:=VR.slice (η:=fun _=>.nilIface) (ρ:=envR Try.prog w0 [⟨ty,intsV .i64 L,blk,o'⟩]) (r:=126) (o:=o - o') (b:=blk) (d:=o') (n:=sizeB w0 blk - o') L.length cap rfl hcap
    rw [show o'+(o - o')=o by omega] at this
    exact this
   ·rw [eo,Nat.sub_self]
    exact hand_can hη hmix b (intsG .i64 L) (intsV_bare _ _) hpos h1 h2
end HQ
end Go.Ev

