/- MessageKnown: the run of the closed call: stretches from 35 on, each computed by the kernel. -/
import Derived.Test.YtgicpaknlgammaaGreatDoorMessageKnownRun01
namespace Go.Proofs.YtgicpaknlgammaaGreatDoor.messageKnownRun
open Go Go.Ev Go.Proofs
set_option maxRecDepth 100000
set_option linter.unusedVariables false
theorem seg41 : chunkS Tryz.prog nest 4573 [0, 1, 3, 14, 2681, 2684, 2685, 3000, 3001, 3002, 3487, 3519, 3520, 3521, 3522, 3527, 3536, 3548, 3549, 3569, 3577, 3587, 3588, 3601, 3602, 3649, 3879, 3882, 3883, 3980] s40 = .ok s41 := by kernel_rfl
theorem seg42 : chunkS Tryz.prog nest 113 [0, 1, 3, 14, 2681, 2684, 2685, 3000, 3001, 3002, 3487, 3519, 3520, 3521, 3522, 3527, 3536, 3548, 3549, 3569, 3577, 3587, 3588, 3601, 3602, 3980, 3997, 3998] s41 = .ok s42 := by kernel_rfl
theorem seg44 : chunkS Tryz.prog nest 3336 [0, 1, 3, 14, 2681, 2684, 2685, 3000, 3001, 3002, 3487, 3519, 3520, 3521, 3522, 3527, 3536, 3548, 3549, 3569, 3577, 3587, 3588, 3601, 3602, 3980, 3997, 3998, 4013, 4038, 4039, 4040] s43 = .ok s44 := by kernel_rfl
theorem seg45 : chunkS Tryz.prog nest 3537 [0, 1, 3, 14, 2681, 2684, 2685, 3000, 3001, 3002, 3487, 3519, 3520, 3521, 3522, 3527, 3536, 3548, 3549, 3569, 3577, 3587, 3588, 3601, 3602, 3980, 3997, 3998, 4013, 4038, 4039, 4040] s44 = .ok s45 := by kernel_rfl
theorem seg46 : chunkS Tryz.prog nest 3727 [0, 1, 3, 14, 2681, 2684, 2685, 3000, 3001, 3002, 3487, 3519, 3520, 3521, 3522, 3527, 3536, 3548, 3549, 3569, 3577, 3587, 3588, 3601, 3602, 3980, 3997, 3998, 4013, 4038, 4039, 4040, 4182, 4183, 4184, 4185, 4186, 4187] s45 = .ok s46 := by kernel_rfl
end Go.Proofs.YtgicpaknlgammaaGreatDoor.messageKnownRun
