/- MessageKnown: what the row says of the code that is reached, by the kernel. -/
import Derived.Test.YtgicpaknlgammaaGreatDoorCards
import Derived.Test.YtgicpaknlgammaaGreatDoorTie
import Derived.JoinedCond
import Derived.ProofKit
import Derived.KernelRfl
namespace Go.Proofs.YtgicpaknlgammaaGreatDoor.messageKnown
set_option linter.unusedVariables false
set_option linter.unusedSimpArgs false
theorem facts : joinedFacts Tryz.pinned.checked.prog 3 Tryz.f3 (OpenSpec.ofChange Rows.messageKnownSpec).bare Rows.messageKnownRow = true := by kernel_rfl
end Go.Proofs.YtgicpaknlgammaaGreatDoor.messageKnown
