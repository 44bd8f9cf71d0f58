/- MessageKnown: the run of the closed call: stretches from 75 on, each computed by the kernel. -/
import Derived.Test.YtgicpaknlgammaaGreatDoorMessageKnownRun01
namespace Go.Proofs.YtgicpaknlgammaaGreatDoor.messageKnownRun
open Go Go.Ev Go.Proofs
set_option maxRecDepth 100000
set_option linter.unusedVariables false
theorem seg84 : chunkS Tryz.prog nest 2585 [0, 1, 3, 14, 2681, 2684, 6413, 6416, 7913, 7915, 9122, 9125, 9126] s83 = .ok s84 := by kernel_rfl
theorem seg85 : chunkS Tryz.prog nest 2797 [0, 1, 3, 14, 2681, 2684, 6413, 6416, 7913, 7915, 9122, 9125, 9126, 9441, 9442, 9443, 9444, 9445, 9446, 9447] s84 = .ok s85 := by kernel_rfl
theorem seg86 : chunkS Tryz.prog nest 3278 [0, 1, 3, 14, 2681, 2684, 6413, 6416, 7913, 7915, 9122, 9125, 9126, 9441, 9442, 9443] s85 = .ok s86 := by kernel_rfl
theorem seg87 : chunkS Tryz.prog nest 1530 [0, 1, 3, 14, 2681, 2684, 6413, 6416, 7913, 7915, 9122, 9125, 9126, 9441, 9442, 9443, 9928, 9960, 9961, 9962, 9963, 9968, 9977] s86 = .ok s87 := by kernel_rfl
theorem seg89 : chunkS Tryz.prog nest 79 [0, 1, 3, 14, 2681, 2684, 6413, 6416, 7913, 7915, 9122, 9125, 9126, 9441, 9442, 9443, 9928, 9960, 9961, 9962, 9963, 9968, 9977, 9989, 9990, 10010] s88 = .ok s89 := by kernel_rfl
end Go.Proofs.YtgicpaknlgammaaGreatDoor.messageKnownRun
