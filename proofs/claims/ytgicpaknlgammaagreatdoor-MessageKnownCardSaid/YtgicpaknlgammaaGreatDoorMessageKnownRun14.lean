/- MessageKnown: the run of the closed call: stretches from 65 on, each computed by the kernel. -/
import Derived.Test.YtgicpaknlgammaaGreatDoorMessageKnownRun01
namespace Go.Proofs.YtgicpaknlgammaaGreatDoor.messageKnownRun
open Go Go.Ev Go.Proofs
set_option maxRecDepth 100000
set_option linter.unusedVariables false
theorem seg74 : chunkS Tryz.prog nest 2778 [0, 1, 3, 14, 2681, 2684, 6413, 6416, 6417, 6732, 7530] s73 = .ok s74 := by kernel_rfl
theorem seg75 : chunkS Tryz.prog nest 2797 [0, 1, 3, 14, 2681, 2684, 6413, 6416, 6417, 6732, 7530, 7533, 7534, 7535, 7536, 7537, 7538, 7539] s74 = .ok s75 := by kernel_rfl
theorem seg76 : chunkS Tryz.prog nest 3291 [0, 1, 3, 14, 2681, 2684, 6413, 6416] s75 = .ok s76 := by kernel_rfl
theorem seg77 : chunkS Tryz.prog nest 2795 [0, 1, 3, 14, 2681, 2684, 6413, 6416, 7913, 7915, 7916, 7917, 7918, 7919, 7920] s76 = .ok s77 := by kernel_rfl
theorem seg78 : chunkS Tryz.prog nest 2585 [0, 1, 3, 14, 2681, 2684, 6413, 6416, 7913, 7915, 7916] s77 = .ok s78 := by kernel_rfl
end Go.Proofs.YtgicpaknlgammaaGreatDoor.messageKnownRun
