/- NetworkKnown: the run of the closed call: stretches from 0 on, each computed by the kernel. -/
import Derived.Test.YtecamcpifkibkaaNetworkKnownRun0
namespace Go.Proofs.Ytecamcpifkibkaa.networkKnownRun
open Go Go.Ev Go.Proofs
set_option maxRecDepth 100000
set_option linter.unusedVariables false
theorem seg1 : chunkS Try.prog nest 2819 [51, 53] s0 = .ok s1 := by kernel_rfl
theorem seg2 : chunkS Try.prog nest 3427 [51, 53, 401, 402, 412, 414, 775, 776, 797, 799, 1143, 1169] s1 = .ok s2 := by kernel_rfl
theorem seg3 : chunkS Try.prog nest 3326 [51, 53, 401, 402, 412, 414, 775, 776, 797, 799, 1143, 1169, 1179, 1181, 1238, 1248, 1471, 1481, 1483, 1845, 1846] s2 = .ok s3 := by kernel_rfl
theorem seg4 : chunkS Try.prog nest 3514 [51, 53, 401, 402, 412, 414, 775, 776, 797, 799, 1143, 1169, 1179, 1181, 1238, 1248, 1471, 1481, 1483, 1845, 1846, 1869, 1871, 1937, 1951, 2249, 2259, 2261, 2327, 2341] s3 = .ok s4 := by kernel_rfl
theorem seg5 : chunkS Try.prog nest 3414 [51, 53, 401, 402, 412, 414, 775, 776, 797, 799, 1143, 1169, 1179, 1181, 1238, 1248, 1471, 1481, 1483, 1845, 1846, 1869, 1871, 1937, 1951, 2249, 2259, 2261, 2327, 2341, 2620, 2622, 2966, 3008, 3018, 3020, 3077, 3087] s4 = .ok s5 := by kernel_rfl
end Go.Proofs.Ytecamcpifkibkaa.networkKnownRun
