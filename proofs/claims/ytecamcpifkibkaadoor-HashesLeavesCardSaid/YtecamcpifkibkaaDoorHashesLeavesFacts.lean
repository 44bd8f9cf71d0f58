/- HashesLeaves: what the row says of the code that is reached, by the kernel. -/
import Derived.Test.YtecamcpifkibkaaDoorCards
import Derived.Test.YtecamcpifkibkaaDoorTie
import Derived.JoinedCond
import Derived.ProofKit
import Derived.KernelRfl
namespace Go.Proofs.YtecamcpifkibkaaDoor.hashesLeaves
set_option linter.unusedVariables false
set_option linter.unusedSimpArgs false
theorem facts : joinedFacts Tryd.pinned.checked.prog 3 Tryd.f3 (OpenSpec.ofChange Rows.hashesLeavesSpec).bare Rows.hashesLeavesRow = true := by kernel_rfl
end Go.Proofs.YtecamcpifkibkaaDoor.hashesLeaves
