/- MessageKnown: the run of the closed call: all of it. -/
import Derived.Test.YtgicpaknlgammaaGreatDoorMessageKnownRun1
import Derived.Test.YtgicpaknlgammaaGreatDoorMessageKnownRun2
import Derived.Test.YtgicpaknlgammaaGreatDoorMessageKnownRun3
import Derived.Test.YtgicpaknlgammaaGreatDoorMessageKnownRun4
import Derived.Test.YtgicpaknlgammaaGreatDoorMessageKnownRun5
import Derived.Test.YtgicpaknlgammaaGreatDoorMessageKnownRun6
import Derived.Test.YtgicpaknlgammaaGreatDoorMessageKnownRun7
import Derived.Test.YtgicpaknlgammaaGreatDoorMessageKnownRun8
import Derived.Test.YtgicpaknlgammaaGreatDoorMessageKnownRun9
import Derived.Test.YtgicpaknlgammaaGreatDoorMessageKnownRun10
import Derived.Test.YtgicpaknlgammaaGreatDoorMessageKnownRun11
import Derived.Test.YtgicpaknlgammaaGreatDoorMessageKnownRun12
import Derived.Test.YtgicpaknlgammaaGreatDoorMessageKnownRun13
import Derived.Test.YtgicpaknlgammaaGreatDoorMessageKnownRun14
import Derived.Test.YtgicpaknlgammaaGreatDoorMessageKnownRun15
import Derived.Test.YtgicpaknlgammaaGreatDoorMessageKnownRun16
import Derived.Test.YtgicpaknlgammaaGreatDoorMessageKnownRun17
import Derived.Test.YtgicpaknlgammaaGreatDoorMessageKnownRun18
import Derived.Test.YtgicpaknlgammaaGreatDoorMessageKnownRun19
import Derived.Test.YtgicpaknlgammaaGreatDoorMessageKnownRun20
import Derived.Test.YtgicpaknlgammaaGreatDoorMessageKnownRun21
import Derived.Test.YtgicpaknlgammaaGreatDoorMessageKnownRun22
import Derived.Test.YtgicpaknlgammaaGreatDoorMessageKnownRun23
import Derived.Test.YtgicpaknlgammaaGreatDoorMessageKnownRun24
import Derived.Test.YtgicpaknlgammaaGreatDoorMessageKnownRun25
import Derived.Test.YtgicpaknlgammaaGreatDoorMessageKnownRun26
import Derived.Test.YtgicpaknlgammaaGreatDoorMessageKnownRun27
import Derived.Test.YtgicpaknlgammaaGreatDoorMessageKnownRun28
import Derived.Test.YtgicpaknlgammaaGreatDoorMessageKnownRun29
import Derived.Test.YtgicpaknlgammaaGreatDoorMessageKnownRun30
import Derived.Test.YtgicpaknlgammaaGreatDoorMessageKnownRun31
import Derived.Test.YtgicpaknlgammaaGreatDoorMessageKnownRun32
import Derived.Test.YtgicpaknlgammaaGreatDoorMessageKnownRun33
import Derived.Test.YtgicpaknlgammaaGreatDoorMessageKnownRun34
import Derived.Test.YtgicpaknlgammaaGreatDoorMessageKnownRun35
import Derived.Test.YtgicpaknlgammaaGreatDoorMessageKnownRun36
import Derived.Test.YtgicpaknlgammaaGreatDoorMessageKnownRun37
import Derived.Test.YtgicpaknlgammaaGreatDoorMessageKnownRun38
import Derived.Test.YtgicpaknlgammaaGreatDoorMessageKnownRun39
namespace Go.Proofs.YtgicpaknlgammaaGreatDoor.messageKnownRun
open Go Go.Ev Go.Proofs
set_option maxRecDepth 100000
set_option linter.unusedVariables false
theorem last : doneTrue Tryz.prog nest 3 s214 = true := by kernel_rfl
theorem last1 : stepA Tryz.prog nest s18 = .ok (.done 85 x1.v x1.h') := by kernel_rfl
theorem call1 {η : Nat → Value} (hη : OneCells η) (hmix : Tryz.prog.follows .mixedOrders = true) {B : Bd} : x1.Ok η Tryz.prog B := by
  have hnest := nestA_ok (B := B) (P := Tryz.prog) hη hmix 1000000 20
  have hreg := regionA_ok hη hmix hnest
  refine CallSpec.enter (fr := s13.fr) (by kernel_rfl) ?_
  exact Run.chunkS hη hmix hnest seg14 <| Run.chunkS hη hmix hnest seg15 <| Run.chunkS hη hmix hnest seg16 <| Run.chunkS hη hmix hnest seg17 <| Run.chunkS hη hmix hnest seg18 <| Run.done hη hreg last1 ⟨rfl, rfl⟩
theorem last2 : stepA Tryz.prog nest s20 = .ok (.done 44 x2.v x2.h') := by kernel_rfl
theorem call2 {η : Nat → Value} (hη : OneCells η) (hmix : Tryz.prog.follows .mixedOrders = true) {B : Bd} : x2.Ok η Tryz.prog B := by
  have hnest := nestA_ok (B := B) (P := Tryz.prog) hη hmix 1000000 20
  have hreg := regionA_ok hη hmix hnest
  refine CallSpec.enter (fr := s8.fr) (by kernel_rfl) ?_
  exact Run.chunkS hη hmix hnest seg9 <| Run.chunkS hη hmix hnest seg10 <| Run.chunkS hη hmix hnest seg11 <| Run.chunkS hη hmix hnest seg12 <| Run.chunkS hη hmix (nestX_ok hη hmix (call1 hη hmix)) seg19 <| Run.chunkS hη hmix hnest seg20 <| Run.done hη hreg last2 ⟨rfl, rfl⟩
theorem last3 : stepA Tryz.prog nest s22 = .ok (.done 47 x3.v x3.h') := by kernel_rfl
theorem call3 {η : Nat → Value} (hη : OneCells η) (hmix : Tryz.prog.follows .mixedOrders = true) {B : Bd} : x3.Ok η Tryz.prog B := by
  have hnest := nestA_ok (B := B) (P := Tryz.prog) hη hmix 1000000 20
  have hreg := regionA_ok hη hmix hnest
  refine CallSpec.enter (fr := s6.fr) (by kernel_rfl) ?_
  exact Run.chunkS hη hmix hnest seg7 <| Run.chunkS hη hmix (nestX_ok hη hmix (call2 hη hmix)) seg21 <| Run.chunkS hη hmix hnest seg22 <| Run.done hη hreg last3 ⟨rfl, rfl⟩
theorem last4 : stepA Tryz.prog nest s48 = .ok (.done 85 x4.v x4.h') := by kernel_rfl
theorem call4 {η : Nat → Value} (hη : OneCells η) (hmix : Tryz.prog.follows .mixedOrders = true) {B : Bd} : x4.Ok η Tryz.prog B := by
  have hnest := nestA_ok (B := B) (P := Tryz.prog) hη hmix 1000000 20
  have hreg := regionA_ok hη hmix hnest
  refine CallSpec.enter (fr := s43.fr) (by kernel_rfl) ?_
  exact Run.chunkS hη hmix hnest seg44 <| Run.chunkS hη hmix hnest seg45 <| Run.chunkS hη hmix hnest seg46 <| Run.chunkS hη hmix hnest seg47 <| Run.chunkS hη hmix hnest seg48 <| Run.done hη hreg last4 ⟨rfl, rfl⟩
theorem last5 : stepA Tryz.prog nest s50 = .ok (.done 44 x5.v x5.h') := by kernel_rfl
theorem call5 {η : Nat → Value} (hη : OneCells η) (hmix : Tryz.prog.follows .mixedOrders = true) {B : Bd} : x5.Ok η Tryz.prog B := by
  have hnest := nestA_ok (B := B) (P := Tryz.prog) hη hmix 1000000 20
  have hreg := regionA_ok hη hmix hnest
  refine CallSpec.enter (fr := s38.fr) (by kernel_rfl) ?_
  exact Run.chunkS hη hmix hnest seg39 <| Run.chunkS hη hmix hnest seg40 <| Run.chunkS hη hmix hnest seg41 <| Run.chunkS hη hmix hnest seg42 <| Run.chunkS hη hmix (nestX_ok hη hmix (call4 hη hmix)) seg49 <| Run.chunkS hη hmix hnest seg50 <| Run.done hη hreg last5 ⟨rfl, rfl⟩
theorem last6 : stepA Tryz.prog nest s61 = .ok (.done 85 x6.v x6.h') := by kernel_rfl
theorem call6 {η : Nat → Value} (hη : OneCells η) (hmix : Tryz.prog.follows .mixedOrders = true) {B : Bd} : x6.Ok η Tryz.prog B := by
  have hnest := nestA_ok (B := B) (P := Tryz.prog) hη hmix 1000000 20
  have hreg := regionA_ok hη hmix hnest
  refine CallSpec.enter (fr := s56.fr) (by kernel_rfl) ?_
  exact Run.chunkS hη hmix hnest seg57 <| Run.chunkS hη hmix hnest seg58 <| Run.chunkS hη hmix hnest seg59 <| Run.chunkS hη hmix hnest seg60 <| Run.chunkS hη hmix hnest seg61 <| Run.done hη hreg last6 ⟨rfl, rfl⟩
theorem last7 : stepA Tryz.prog nest s63 = .ok (.done 44 x7.v x7.h') := by kernel_rfl
theorem call7 {η : Nat → Value} (hη : OneCells η) (hmix : Tryz.prog.follows .mixedOrders = true) {B : Bd} : x7.Ok η Tryz.prog B := by
  have hnest := nestA_ok (B := B) (P := Tryz.prog) hη hmix 1000000 20
  have hreg := regionA_ok hη hmix hnest
  refine CallSpec.enter (fr := s53.fr) (by kernel_rfl) ?_
  exact Run.chunkS hη hmix hnest seg54 <| Run.chunkS hη hmix hnest seg55 <| Run.chunkS hη hmix (nestX_ok hη hmix (call6 hη hmix)) seg62 <| Run.chunkS hη hmix hnest seg63 <| Run.done hη hreg last7 ⟨rfl, rfl⟩
theorem last8 : stepA Tryz.prog nest s65 = .ok (.done 47 x8.v x8.h') := by kernel_rfl
theorem call8 {η : Nat → Value} (hη : OneCells η) (hmix : Tryz.prog.follows .mixedOrders = true) {B : Bd} : x8.Ok η Tryz.prog B := by
  have hnest := nestA_ok (B := B) (P := Tryz.prog) hη hmix 1000000 20
  have hreg := regionA_ok hη hmix hnest
  refine CallSpec.enter (fr := s36.fr) (by kernel_rfl) ?_
  exact Run.chunkS hη hmix hnest seg37 <| Run.chunkS hη hmix (nestX_ok hη hmix (call5 hη hmix)) seg51 <| Run.chunkS hη hmix hnest seg52 <| Run.chunkS hη hmix (nestX_ok hη hmix (call7 hη hmix)) seg64 <| Run.chunkS hη hmix hnest seg65 <| Run.done hη hreg last8 ⟨rfl, rfl⟩
theorem last9 : stepA Tryz.prog nest s91 = .ok (.done 44 x9.v x9.h') := by kernel_rfl
theorem call9 {η : Nat → Value} (hη : OneCells η) (hmix : Tryz.prog.follows .mixedOrders = true) {B : Bd} : x9.Ok η Tryz.prog B := by
  have hnest := nestA_ok (B := B) (P := Tryz.prog) hη hmix 1000000 20
  have hreg := regionA_ok hη hmix hnest
  refine CallSpec.enter (fr := s90.fr) (by kernel_rfl) ?_
  exact Run.chunkS hη hmix hnest seg91 <| Run.done hη hreg last9 ⟨rfl, rfl⟩
theorem last10 : stepA Tryz.prog nest s93 = .ok (.done 47 x10.v x10.h') := by kernel_rfl
theorem call10 {η : Nat → Value} (hη : OneCells η) (hmix : Tryz.prog.follows .mixedOrders = true) {B : Bd} : x10.Ok η Tryz.prog B := by
  have hnest := nestA_ok (B := B) (P := Tryz.prog) hη hmix 1000000 20
  have hreg := regionA_ok hη hmix hnest
  refine CallSpec.enter (fr := s88.fr) (by kernel_rfl) ?_
  exact Run.chunkS hη hmix hnest seg89 <| Run.chunkS hη hmix (nestX_ok hη hmix (call9 hη hmix)) seg92 <| Run.chunkS hη hmix hnest seg93 <| Run.done hη hreg last10 ⟨rfl, rfl⟩
theorem last11 : stepA Tryz.prog nest s125 = .ok (.done 85 x11.v x11.h') := by kernel_rfl
theorem call11 {η : Nat → Value} (hη : OneCells η) (hmix : Tryz.prog.follows .mixedOrders = true) {B : Bd} : x11.Ok η Tryz.prog B := by
  have hnest := nestA_ok (B := B) (P := Tryz.prog) hη hmix 1000000 20
  have hreg := regionA_ok hη hmix hnest
  refine CallSpec.enter (fr := s120.fr) (by kernel_rfl) ?_
  exact Run.chunkS hη hmix hnest seg121 <| Run.chunkS hη hmix hnest seg122 <| Run.chunkS hη hmix hnest seg123 <| Run.chunkS hη hmix hnest seg124 <| Run.chunkS hη hmix hnest seg125 <| Run.done hη hreg last11 ⟨rfl, rfl⟩
theorem last12 : stepA Tryz.prog nest s127 = .ok (.done 44 x12.v x12.h') := by kernel_rfl
theorem call12 {η : Nat → Value} (hη : OneCells η) (hmix : Tryz.prog.follows .mixedOrders = true) {B : Bd} : x12.Ok η Tryz.prog B := by
  have hnest := nestA_ok (B := B) (P := Tryz.prog) hη hmix 1000000 20
  have hreg := regionA_ok hη hmix hnest
  refine CallSpec.enter (fr := s115.fr) (by kernel_rfl) ?_
  exact Run.chunkS hη hmix hnest seg116 <| Run.chunkS hη hmix hnest seg117 <| Run.chunkS hη hmix hnest seg118 <| Run.chunkS hη hmix hnest seg119 <| Run.chunkS hη hmix (nestX_ok hη hmix (call11 hη hmix)) seg126 <| Run.chunkS hη hmix hnest seg127 <| Run.done hη hreg last12 ⟨rfl, rfl⟩
theorem last13 : stepA Tryz.prog nest s129 = .ok (.done 47 x13.v x13.h') := by kernel_rfl
theorem call13 {η : Nat → Value} (hη : OneCells η) (hmix : Tryz.prog.follows .mixedOrders = true) {B : Bd} : x13.Ok η Tryz.prog B := by
  have hnest := nestA_ok (B := B) (P := Tryz.prog) hη hmix 1000000 20
  have hreg := regionA_ok hη hmix hnest
  refine CallSpec.enter (fr := s113.fr) (by kernel_rfl) ?_
  exact Run.chunkS hη hmix hnest seg114 <| Run.chunkS hη hmix (nestX_ok hη hmix (call12 hη hmix)) seg128 <| Run.chunkS hη hmix hnest seg129 <| Run.done hη hreg last13 ⟨rfl, rfl⟩
theorem last14 : stepA Tryz.prog nest s160 = .ok (.done 85 x14.v x14.h') := by kernel_rfl
theorem call14 {η : Nat → Value} (hη : OneCells η) (hmix : Tryz.prog.follows .mixedOrders = true) {B : Bd} : x14.Ok η Tryz.prog B := by
  have hnest := nestA_ok (B := B) (P := Tryz.prog) hη hmix 1000000 20
  have hreg := regionA_ok hη hmix hnest
  refine CallSpec.enter (fr := s155.fr) (by kernel_rfl) ?_
  exact Run.chunkS hη hmix hnest seg156 <| Run.chunkS hη hmix hnest seg157 <| Run.chunkS hη hmix hnest seg158 <| Run.chunkS hη hmix hnest seg159 <| Run.chunkS hη hmix hnest seg160 <| Run.done hη hreg last14 ⟨rfl, rfl⟩
theorem last15 : stepA Tryz.prog nest s162 = .ok (.done 44 x15.v x15.h') := by kernel_rfl
theorem call15 {η : Nat → Value} (hη : OneCells η) (hmix : Tryz.prog.follows .mixedOrders = true) {B : Bd} : x15.Ok η Tryz.prog B := by
  have hnest := nestA_ok (B := B) (P := Tryz.prog) hη hmix 1000000 20
  have hreg := regionA_ok hη hmix hnest
  refine CallSpec.enter (fr := s150.fr) (by kernel_rfl) ?_
  exact Run.chunkS hη hmix hnest seg151 <| Run.chunkS hη hmix hnest seg152 <| Run.chunkS hη hmix hnest seg153 <| Run.chunkS hη hmix hnest seg154 <| Run.chunkS hη hmix (nestX_ok hη hmix (call14 hη hmix)) seg161 <| Run.chunkS hη hmix hnest seg162 <| Run.done hη hreg last15 ⟨rfl, rfl⟩
theorem last16 : stepA Tryz.prog nest s164 = .ok (.done 47 x16.v x16.h') := by kernel_rfl
theorem call16 {η : Nat → Value} (hη : OneCells η) (hmix : Tryz.prog.follows .mixedOrders = true) {B : Bd} : x16.Ok η Tryz.prog B := by
  have hnest := nestA_ok (B := B) (P := Tryz.prog) hη hmix 1000000 20
  have hreg := regionA_ok hη hmix hnest
  refine CallSpec.enter (fr := s148.fr) (by kernel_rfl) ?_
  exact Run.chunkS hη hmix hnest seg149 <| Run.chunkS hη hmix (nestX_ok hη hmix (call15 hη hmix)) seg163 <| Run.chunkS hη hmix hnest seg164 <| Run.done hη hreg last16 ⟨rfl, rfl⟩
theorem last17 : stepA Tryz.prog nest s195 = .ok (.done 85 x17.v x17.h') := by kernel_rfl
theorem call17 {η : Nat → Value} (hη : OneCells η) (hmix : Tryz.prog.follows .mixedOrders = true) {B : Bd} : x17.Ok η Tryz.prog B := by
  have hnest := nestA_ok (B := B) (P := Tryz.prog) hη hmix 1000000 20
  have hreg := regionA_ok hη hmix hnest
  refine CallSpec.enter (fr := s190.fr) (by kernel_rfl) ?_
  exact Run.chunkS hη hmix hnest seg191 <| Run.chunkS hη hmix hnest seg192 <| Run.chunkS hη hmix hnest seg193 <| Run.chunkS hη hmix hnest seg194 <| Run.chunkS hη hmix hnest seg195 <| Run.done hη hreg last17 ⟨rfl, rfl⟩
theorem last18 : stepA Tryz.prog nest s197 = .ok (.done 44 x18.v x18.h') := by kernel_rfl
theorem call18 {η : Nat → Value} (hη : OneCells η) (hmix : Tryz.prog.follows .mixedOrders = true) {B : Bd} : x18.Ok η Tryz.prog B := by
  have hnest := nestA_ok (B := B) (P := Tryz.prog) hη hmix 1000000 20
  have hreg := regionA_ok hη hmix hnest
  refine CallSpec.enter (fr := s185.fr) (by kernel_rfl) ?_
  exact Run.chunkS hη hmix hnest seg186 <| Run.chunkS hη hmix hnest seg187 <| Run.chunkS hη hmix hnest seg188 <| Run.chunkS hη hmix hnest seg189 <| Run.chunkS hη hmix (nestX_ok hη hmix (call17 hη hmix)) seg196 <| Run.chunkS hη hmix hnest seg197 <| Run.done hη hreg last18 ⟨rfl, rfl⟩
theorem last19 : stepA Tryz.prog nest s199 = .ok (.done 47 x19.v x19.h') := by kernel_rfl
theorem call19 {η : Nat → Value} (hη : OneCells η) (hmix : Tryz.prog.follows .mixedOrders = true) {B : Bd} : x19.Ok η Tryz.prog B := by
  have hnest := nestA_ok (B := B) (P := Tryz.prog) hη hmix 1000000 20
  have hreg := regionA_ok hη hmix hnest
  refine CallSpec.enter (fr := s183.fr) (by kernel_rfl) ?_
  exact Run.chunkS hη hmix hnest seg184 <| Run.chunkS hη hmix (nestX_ok hη hmix (call18 hη hmix)) seg198 <| Run.chunkS hη hmix hnest seg199 <| Run.done hη hreg last19 ⟨rfl, rfl⟩
theorem whole {η : Nat → Value} (hη : OneCells η) (hmix : Tryz.prog.follows .mixedOrders = true) {B : Bd} : CallSpec η Tryz.prog B 3 [] (heapL Tryz.prog tab) fun v _ => v = .bool true := by
  have hnest := nestA_ok (B := B) (P := Tryz.prog) hη hmix 1000000 20
  have hreg := regionA_ok hη hmix hnest
  refine CallSpec.enter (fr := s0.fr) (by kernel_rfl) ?_
  exact Run.chunkS hη hmix hnest seg1 <| Run.chunkS hη hmix hnest seg2 <| Run.chunkS hη hmix hnest seg3 <| Run.chunkS hη hmix hnest seg4 <| Run.chunkS hη hmix hnest seg5 <| Run.chunkS hη hmix (nestX_ok hη hmix (call3 hη hmix)) seg23 <| Run.chunkS hη hmix hnest seg24 <| Run.chunkS hη hmix hnest seg25 <| Run.chunkS hη hmix hnest seg26 <| Run.chunkS hη hmix hnest seg27 <| Run.chunkS hη hmix hnest seg28 <| Run.chunkS hη hmix hnest seg29 <| Run.chunkS hη hmix hnest seg30 <| Run.chunkS hη hmix hnest seg31 <| Run.chunkS hη hmix hnest seg32 <| Run.chunkS hη hmix hnest seg33 <| Run.chunkS hη hmix hnest seg34 <| Run.chunkS hη hmix hnest seg35 <| Run.chunkS hη hmix (nestX_ok hη hmix (call8 hη hmix)) seg66 <| Run.chunkS hη hmix hnest seg67 <| Run.chunkS hη hmix hnest seg68 <| Run.chunkS hη hmix hnest seg69 <| Run.chunkS hη hmix hnest seg70 <| Run.chunkS hη hmix hnest seg71 <| Run.chunkS hη hmix hnest seg72 <| Run.chunkS hη hmix hnest seg73 <| Run.chunkS hη hmix hnest seg74 <| Run.chunkS hη hmix hnest seg75 <| Run.chunkS hη hmix hnest seg76 <| Run.chunkS hη hmix hnest seg77 <| Run.chunkS hη hmix hnest seg78 <| Run.chunkS hη hmix hnest seg79 <| Run.chunkS hη hmix hnest seg80 <| Run.chunkS hη hmix hnest seg81 <| Run.chunkS hη hmix hnest seg82 <| Run.chunkS hη hmix hnest seg83 <| Run.chunkS hη hmix hnest seg84 <| Run.chunkS hη hmix hnest seg85 <| Run.chunkS hη hmix hnest seg86 <| Run.chunkS hη hmix hnest seg87 <| Run.chunkS hη hmix (nestX_ok hη hmix (call10 hη hmix)) seg94 <| Run.chunkS hη hmix hnest seg95 <| Run.chunkS hη hmix hnest seg96 <| Run.chunkS hη hmix hnest seg97 <| Run.chunkS hη hmix hnest seg98 <| Run.chunkS hη hmix hnest seg99 <| Run.chunkS hη hmix hnest seg100 <| Run.chunkS hη hmix hnest seg101 <| Run.chunkS hη hmix hnest seg102 <| Run.chunkS hη hmix hnest seg103 <| Run.chunkS hη hmix hnest seg104 <| Run.chunkS hη hmix hnest seg105 <| Run.chunkS hη hmix hnest seg106 <| Run.chunkS hη hmix hnest seg107 <| Run.chunkS hη hmix hnest seg108 <| Run.chunkS hη hmix hnest seg109 <| Run.chunkS hη hmix hnest seg110 <| Run.chunkS hη hmix hnest seg111 <| Run.chunkS hη hmix hnest seg112 <| Run.chunkS hη hmix (nestX_ok hη hmix (call13 hη hmix)) seg130 <| Run.chunkS hη hmix hnest seg131 <| Run.chunkS hη hmix hnest seg132 <| Run.chunkS hη hmix hnest seg133 <| Run.chunkS hη hmix hnest seg134 <| Run.chunkS hη hmix hnest seg135 <| Run.chunkS hη hmix hnest seg136 <| Run.chunkS hη hmix hnest seg137 <| Run.chunkS hη hmix hnest seg138 <| Run.chunkS hη hmix hnest seg139 <| Run.chunkS hη hmix hnest seg140 <| Run.chunkS hη hmix hnest seg141 <| Run.chunkS hη hmix hnest seg142 <| Run.chunkS hη hmix hnest seg143 <| Run.chunkS hη hmix hnest seg144 <| Run.chunkS hη hmix hnest seg145 <| Run.chunkS hη hmix hnest seg146 <| Run.chunkS hη hmix hnest seg147 <| Run.chunkS hη hmix (nestX_ok hη hmix (call16 hη hmix)) seg165 <| Run.chunkS hη hmix hnest seg166 <| Run.chunkS hη hmix hnest seg167 <| Run.chunkS hη hmix hnest seg168 <| Run.chunkS hη hmix hnest seg169 <| Run.chunkS hη hmix hnest seg170 <| Run.chunkS hη hmix hnest seg171 <| Run.chunkS hη hmix hnest seg172 <| Run.chunkS hη hmix hnest seg173 <| Run.chunkS hη hmix hnest seg174 <| Run.chunkS hη hmix hnest seg175 <| Run.chunkS hη hmix hnest seg176 <| Run.chunkS hη hmix hnest seg177 <| Run.chunkS hη hmix hnest seg178 <| Run.chunkS hη hmix hnest seg179 <| Run.chunkS hη hmix hnest seg180 <| Run.chunkS hη hmix hnest seg181 <| Run.chunkS hη hmix hnest seg182 <| Run.chunkS hη hmix (nestX_ok hη hmix (call19 hη hmix)) seg200 <| Run.chunkS hη hmix hnest seg201 <| Run.chunkS hη hmix hnest seg202 <| Run.chunkS hη hmix hnest seg203 <| Run.chunkS hη hmix hnest seg204 <| Run.chunkS hη hmix hnest seg205 <| Run.chunkS hη hmix hnest seg206 <| Run.chunkS hη hmix hnest seg207 <| Run.chunkS hη hmix hnest seg208 <| Run.chunkS hη hmix hnest seg209 <| Run.chunkS hη hmix hnest seg210 <| Run.chunkS hη hmix hnest seg211 <| Run.chunkS hη hmix hnest seg212 <| Run.chunkS hη hmix hnest seg213 <| Run.chunkS hη hmix hnest seg214 <| Run.doneTrue hη hreg last
end Go.Proofs.YtgicpaknlgammaaGreatDoor.messageKnownRun
