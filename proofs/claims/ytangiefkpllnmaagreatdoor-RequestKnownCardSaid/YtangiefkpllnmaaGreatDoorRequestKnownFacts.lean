/- RequestKnown: what the row says of the code that is reached, by the kernel. -/
import Derived.Test.YtangiefkpllnmaaGreatDoorCards
import Derived.Test.YtangiefkpllnmaaGreatDoorTie
import Derived.JoinedCond
import Derived.ProofKit
import Derived.KernelRfl
namespace Go.Proofs.YtangiefkpllnmaaGreatDoor.requestKnown
set_option linter.unusedVariables false
set_option linter.unusedSimpArgs false
theorem facts : joinedFacts Tryz.pinned.checked.prog 10 Tryz.f10 (OpenSpec.ofChange Rows.requestKnownSpec).bare Rows.requestKnownRow = true := by kernel_rfl
end Go.Proofs.YtangiefkpllnmaaGreatDoor.requestKnown
