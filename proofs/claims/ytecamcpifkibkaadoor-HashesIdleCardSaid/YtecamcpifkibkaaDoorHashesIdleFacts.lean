/- HashesIdle: what the row says of the code that is reached, by the kernel. -/
import Derived.Test.YtecamcpifkibkaaDoorCards
import Derived.Test.YtecamcpifkibkaaDoorTie
import Derived.JoinedCond
import Derived.ProofKit
import Derived.KernelRfl
namespace Go.Proofs.YtecamcpifkibkaaDoor.hashesIdle
set_option linter.unusedVariables false
set_option linter.unusedSimpArgs false
theorem facts : joinedFacts Tryd.pinned.checked.prog 6 Tryd.f6 (OpenSpec.ofChange Rows.hashesIdleSpec).bare Rows.hashesIdleRow = true := by kernel_rfl
end Go.Proofs.YtecamcpifkibkaaDoor.hashesIdle
