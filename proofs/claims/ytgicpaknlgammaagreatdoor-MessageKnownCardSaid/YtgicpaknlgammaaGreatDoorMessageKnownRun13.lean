/- MessageKnown: the run of the closed call: stretches from 60 on, each computed by the kernel. -/
import Derived.Test.YtgicpaknlgammaaGreatDoorMessageKnownRun01
namespace Go.Proofs.YtgicpaknlgammaaGreatDoor.messageKnownRun
open Go Go.Ev Go.Proofs
set_option maxRecDepth 100000
set_option linter.unusedVariables false
theorem seg69 : chunkS Tryz.prog nest 4524 [0, 1, 3, 14, 2681, 2684] s68 = .ok s69 := by kernel_rfl
theorem seg70 : chunkS Tryz.prog nest 2809 [0, 1, 3, 14, 2681, 2684, 6413, 6416, 6417, 6418, 6419, 6420, 6421] s69 = .ok s70 := by kernel_rfl
theorem seg71 : chunkS Tryz.prog nest 2585 [0, 1, 3, 14, 2681, 2684, 6413, 6416, 6417] s70 = .ok s71 := by kernel_rfl
theorem seg72 : chunkS Tryz.prog nest 2797 [0, 1, 3, 14, 2681, 2684, 6413, 6416, 6417, 6732, 6733, 6734, 6735, 6736, 6737, 6738] s71 = .ok s72 := by kernel_rfl
theorem seg73 : chunkS Tryz.prog nest 3278 [0, 1, 3, 14, 2681, 2684, 6413, 6416, 6417, 6732, 6733, 6734] s72 = .ok s73 := by kernel_rfl
end Go.Proofs.YtgicpaknlgammaaGreatDoor.messageKnownRun
