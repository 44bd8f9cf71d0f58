/- HeadersLines: what the row says of the code that is reached, by the kernel. -/
import Derived.Test.YtklnjollalaehaaGreatDoorCards
import Derived.Test.YtklnjollalaehaaGreatDoorTie
import Derived.JoinedCond
import Derived.ProofKit
import Derived.KernelRfl
namespace Go.Proofs.YtklnjollalaehaaGreatDoor.headersLines
set_option linter.unusedVariables false
set_option linter.unusedSimpArgs false
theorem facts : joinedFacts Tryz.pinned.checked.prog 3 Tryz.f3 (OpenSpec.ofChange Rows.headersLinesSpec).bare Rows.headersLinesRow = true := by kernel_rfl
end Go.Proofs.YtklnjollalaehaaGreatDoor.headersLines
