/- HeadersReads: what the row says of the code that is reached, by the kernel. -/
import Derived.Test.YtklnjollalaehaaDoorCards
import Derived.Test.YtklnjollalaehaaDoorTie
import Derived.JoinedCond
import Derived.ProofKit
import Derived.KernelRfl
namespace Go.Proofs.YtklnjollalaehaaDoor.headersReads
set_option linter.unusedVariables false
set_option linter.unusedSimpArgs false
theorem facts : joinedFacts Tryd.pinned.checked.prog 3 Tryd.f3 (OpenSpec.ofChange Rows.headersReadsSpec).bare Rows.headersReadsRow = true := by kernel_rfl
end Go.Proofs.YtklnjollalaehaaDoor.headersReads
