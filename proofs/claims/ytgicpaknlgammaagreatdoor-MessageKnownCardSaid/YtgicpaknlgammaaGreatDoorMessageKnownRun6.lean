/- MessageKnown: the run of the closed call: stretches from 25 on, each computed by the kernel. -/
import Derived.Test.YtgicpaknlgammaaGreatDoorMessageKnownRun01
namespace Go.Proofs.YtgicpaknlgammaaGreatDoor.messageKnownRun
open Go Go.Ev Go.Proofs
set_option maxRecDepth 100000
set_option linter.unusedVariables false
theorem seg29 : chunkS Tryz.prog nest 3773 [0, 1, 3, 14, 15, 330, 1308, 1856, 1859, 1860, 1861, 1862, 1863, 2093, 2094, 2095, 2096, 2129, 2130, 2155, 2156, 2157, 2400] s28 = .ok s29 := by kernel_rfl
theorem seg30 : chunkS Tryz.prog nest 4409 [0, 1, 3, 14, 15, 330, 1308, 1856, 1859, 1860, 1861, 1862, 1863, 2093, 2094, 2095] s29 = .ok s30 := by kernel_rfl
theorem seg31 : chunkS Tryz.prog nest 3285 [0, 1, 3, 14, 2681, 2684, 2685, 2686, 2687, 2688, 2689] s30 = .ok s31 := by kernel_rfl
theorem seg32 : chunkS Tryz.prog nest 2585 [0, 1, 3, 14, 2681, 2684, 2685] s31 = .ok s32 := by kernel_rfl
theorem seg33 : chunkS Tryz.prog nest 2797 [0, 1, 3, 14, 2681, 2684, 2685, 3000, 3001, 3002, 3003, 3004, 3005, 3006] s32 = .ok s33 := by kernel_rfl
end Go.Proofs.YtgicpaknlgammaaGreatDoor.messageKnownRun
