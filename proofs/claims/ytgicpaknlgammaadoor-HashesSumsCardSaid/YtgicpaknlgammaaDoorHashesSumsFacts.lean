/- HashesSums: what the row says of the code that is reached, by the kernel. -/
import Derived.Test.YtgicpaknlgammaaDoorCards
import Derived.Test.YtgicpaknlgammaaDoorTie
import Derived.JoinedCond
import Derived.ProofKit
import Derived.KernelRfl
namespace Go.Proofs.YtgicpaknlgammaaDoor.hashesSums
set_option linter.unusedVariables false
set_option linter.unusedSimpArgs false
theorem facts : joinedFacts Tryd.pinned.checked.prog 3 Tryd.f3 (OpenSpec.ofChange Rows.hashesSumsSpec).bare Rows.hashesSumsRow = true := by kernel_rfl
end Go.Proofs.YtgicpaknlgammaaDoor.hashesSums
