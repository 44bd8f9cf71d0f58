/- MessageKnown: the run of the closed call: stretches from 0 on, each computed by the kernel. -/
import Derived.Test.YtgicpaknlgammaaGreatDoorMessageKnownRun01
namespace Go.Proofs.YtgicpaknlgammaaGreatDoor.messageKnownRun
open Go Go.Ev Go.Proofs
set_option maxRecDepth 100000
set_option linter.unusedVariables false
theorem seg1 : chunkS Tryz.prog nest 2818 [0, 1, 3, 14, 15, 16, 17, 18, 19] s0 = .ok s1 := by kernel_rfl
theorem seg2 : chunkS Tryz.prog nest 2585 [0, 1, 3, 14, 15] s1 = .ok s2 := by kernel_rfl
theorem seg3 : chunkS Tryz.prog nest 2797 [0, 1, 3, 14, 15, 330, 331, 332, 333, 334, 335, 336] s2 = .ok s3 := by kernel_rfl
theorem seg4 : chunkS Tryz.prog nest 3278 [0, 1, 3, 14, 15, 330, 331, 332] s3 = .ok s4 := by kernel_rfl
theorem seg5 : chunkS Tryz.prog nest 1530 [0, 1, 3, 14, 15, 330, 331, 332, 817, 849, 850, 851, 852, 857, 866] s4 = .ok s5 := by kernel_rfl
end Go.Proofs.YtgicpaknlgammaaGreatDoor.messageKnownRun
