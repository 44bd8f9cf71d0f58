/- MessageKnown: the run of the closed call: stretches from 30 on, each computed by the kernel. -/
import Derived.Test.YtgicpaknlgammaaGreatDoorMessageKnownRun01
namespace Go.Proofs.YtgicpaknlgammaaGreatDoor.messageKnownRun
open Go Go.Ev Go.Proofs
set_option maxRecDepth 100000
set_option linter.unusedVariables false
theorem seg34 : chunkS Tryz.prog nest 3278 [0, 1, 3, 14, 2681, 2684, 2685, 3000, 3001, 3002] s33 = .ok s34 := by kernel_rfl
theorem seg35 : chunkS Tryz.prog nest 1530 [0, 1, 3, 14, 2681, 2684, 2685, 3000, 3001, 3002, 3487, 3519, 3520, 3521, 3522, 3527, 3536] s34 = .ok s35 := by kernel_rfl
theorem seg37 : chunkS Tryz.prog nest 79 [0, 1, 3, 14, 2681, 2684, 2685, 3000, 3001, 3002, 3487, 3519, 3520, 3521, 3522, 3527, 3536, 3548, 3549, 3569] s36 = .ok s37 := by kernel_rfl
theorem seg39 : chunkS Tryz.prog nest 2902 [0, 1, 3, 14, 2681, 2684, 2685, 3000, 3001, 3002, 3487, 3519, 3520, 3521, 3522, 3527, 3536, 3548, 3549, 3569, 3577, 3587, 3588, 3601, 3602, 3649, 3682, 3683] s38 = .ok s39 := by kernel_rfl
theorem seg40 : chunkS Tryz.prog nest 4382 [0, 1, 3, 14, 2681, 2684, 2685, 3000, 3001, 3002, 3487, 3519, 3520, 3521, 3522, 3527, 3536, 3548, 3549, 3569, 3577, 3587, 3588, 3601, 3602, 3649, 3741, 3780, 3781, 3782, 3833, 3834, 3835, 3836, 3837, 3838, 3849] s39 = .ok s40 := by kernel_rfl
end Go.Proofs.YtgicpaknlgammaaGreatDoor.messageKnownRun
