/- HeadersChecks: what the row says of the code that is reached, by the kernel. -/
import Derived.Test.YtibnongfdafoeaaGreatDoorCards
import Derived.Test.YtibnongfdafoeaaGreatDoorTie
import Derived.JoinedCond
import Derived.ProofKit
import Derived.KernelRfl
namespace Go.Proofs.YtibnongfdafoeaaGreatDoor.headersChecks
set_option linter.unusedVariables false
set_option linter.unusedSimpArgs false
theorem facts : joinedFacts Tryz.pinned.checked.prog 8 Tryz.f8 (OpenSpec.ofChange Rows.headersChecksSpec).bare Rows.headersChecksRow = true := by kernel_rfl
end Go.Proofs.YtibnongfdafoeaaGreatDoor.headersChecks
