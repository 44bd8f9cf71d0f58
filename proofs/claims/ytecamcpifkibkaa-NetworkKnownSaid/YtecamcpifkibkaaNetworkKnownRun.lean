/- NetworkKnown: the run of the closed call: all of it. -/
import Derived.Test.YtecamcpifkibkaaNetworkKnownRun1
import Derived.Test.YtecamcpifkibkaaNetworkKnownRun2
import Derived.Test.YtecamcpifkibkaaNetworkKnownRun3
namespace Go.Proofs.Ytecamcpifkibkaa.networkKnownRun
open Go Go.Ev Go.Proofs
set_option maxRecDepth 100000
set_option linter.unusedVariables false
theorem last : doneTrue Try.prog nest 3 s15 = true := by kernel_rfl
theorem whole {η : Nat → Value} (hη : OneCells η) (hmix : Try.prog.follows .mixedOrders = true) {B : Bd} : CallSpec η Try.prog B 3 [] (heapL Try.prog tab) fun v _ => v = .bool true := by
  have hnest := nestA_ok (B := B) (P := Try.prog) hη hmix 1000000 20
  have hreg := regionA_ok hη hmix hnest
  refine CallSpec.enter (fr := s0.fr) (by kernel_rfl) ?_
  exact Run.chunkS hη hmix hnest seg1 <| Run.chunkS hη hmix hnest seg2 <| Run.chunkS hη hmix hnest seg3 <| Run.chunkS hη hmix hnest seg4 <| Run.chunkS hη hmix hnest seg5 <| Run.chunkS hη hmix hnest seg6 <| Run.chunkS hη hmix hnest seg7 <| Run.chunkS hη hmix hnest seg8 <| Run.chunkS hη hmix hnest seg9 <| Run.chunkS hη hmix hnest seg10 <| Run.chunkS hη hmix hnest seg11 <| Run.chunkS hη hmix hnest seg12 <| Run.chunkS hη hmix hnest seg13 <| Run.chunkS hη hmix hnest seg14 <| Run.chunkS hη hmix hnest seg15 <| Run.doneTrue hη hreg last
end Go.Proofs.Ytecamcpifkibkaa.networkKnownRun
