/- RequestTargets: what the row says of the code that is reached, by the kernel. -/
import Derived.Test.YtklnjollalaehaaGreatDoorCards
import Derived.Test.YtklnjollalaehaaGreatDoorTie
import Derived.JoinedCond
import Derived.ProofKit
import Derived.KernelRfl
namespace Go.Proofs.YtklnjollalaehaaGreatDoor.requestTargets
set_option linter.unusedVariables false
set_option linter.unusedSimpArgs false
theorem facts : joinedFacts Tryz.pinned.checked.prog 6 Tryz.f6 (OpenSpec.ofChange Rows.requestTargetsSpec).bare Rows.requestTargetsRow = true := by kernel_rfl
end Go.Proofs.YtklnjollalaehaaGreatDoor.requestTargets
