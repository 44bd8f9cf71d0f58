/- ResponseKnown: what the row says of the code that is reached, by the kernel. -/
import Derived.Test.YtjjlnehilcnheaaGreatDoorCards
import Derived.Test.YtjjlnehilcnheaaGreatDoorTie
import Derived.JoinedCond
import Derived.ProofKit
import Derived.KernelRfl
namespace Go.Proofs.YtjjlnehilcnheaaGreatDoor.responseKnown
set_option linter.unusedVariables false
set_option linter.unusedSimpArgs false
theorem facts : joinedFacts Tryz.pinned.checked.prog 6 Tryz.f6 (OpenSpec.ofChange Rows.responseKnownSpec).bare Rows.responseKnownRow = true := by kernel_rfl
end Go.Proofs.YtjjlnehilcnheaaGreatDoor.responseKnown
