/- ChunksKnown: what the row says of the code that is reached, by the kernel. -/
import Derived.Test.YtklnjollalaehaaGreatDoorCards
import Derived.Test.YtklnjollalaehaaGreatDoorTie
import Derived.JoinedCond
import Derived.ProofKit
import Derived.KernelRfl
namespace Go.Proofs.YtklnjollalaehaaGreatDoor.chunksKnown
set_option linter.unusedVariables false
set_option linter.unusedSimpArgs false
theorem facts : joinedFacts Tryz.pinned.checked.prog 9 Tryz.f9 (OpenSpec.ofChange Rows.chunksKnownSpec).bare Rows.chunksKnownRow = true := by kernel_rfl
end Go.Proofs.YtklnjollalaehaaGreatDoor.chunksKnown
