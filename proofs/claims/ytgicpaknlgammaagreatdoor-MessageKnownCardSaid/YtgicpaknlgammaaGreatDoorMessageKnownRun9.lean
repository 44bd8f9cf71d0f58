/- MessageKnown: the run of the closed call: stretches from 40 on, each computed by the kernel. -/
import Derived.Test.YtgicpaknlgammaaGreatDoorMessageKnownRun01
namespace Go.Proofs.YtgicpaknlgammaaGreatDoor.messageKnownRun
open Go Go.Ev Go.Proofs
set_option maxRecDepth 100000
set_option linter.unusedVariables false
theorem seg47 : chunkS Tryz.prog nest 3773 [0, 1, 3, 14, 2681, 2684, 2685, 3000, 3001, 3002, 3487, 3519, 3520, 3521, 3522, 3527, 3536, 3548, 3549, 3569, 3577, 3587, 3588, 3601, 3602, 3980, 3997, 3998, 4013, 4038, 4039, 4040, 4283] s46 = .ok s47 := by kernel_rfl
theorem seg48 : chunkS Tryz.prog nest 4525 [0, 1, 3, 14, 2681, 2684, 2685, 3000, 3001, 3002, 3487, 3519, 3520, 3521, 3522, 3527, 3536, 3548, 3549, 3569, 3577, 3587, 3588, 3601, 3602, 3980, 3997, 3998, 4013] s47 = .ok s48 := by kernel_rfl
theorem seg49 : chunkS Tryz.prog (nestX Tryz.prog x4) 1 [0, 1, 3, 14, 2681, 2684, 2685, 3000, 3001, 3002, 3487, 3519, 3520, 3521, 3522, 3527, 3536, 3548, 3549, 3569, 3577, 3587, 3588, 3601, 3602, 3980, 3997, 3998] s42 = .ok s49 := by kernel_rfl
theorem seg50 : chunkS Tryz.prog nest 186 [0, 1, 3, 14, 2681, 2684, 2685, 3000, 3001, 3002, 3487, 3519, 3520, 3521, 3522, 3527, 3536, 3548, 3549, 3569, 3577, 3587, 3588, 3602, 3980, 4443] s49 = .ok s50 := by kernel_rfl
theorem seg51 : chunkS Tryz.prog (nestX Tryz.prog x5) 1 [0, 1, 3, 14, 2681, 2684, 2685, 3000, 3001, 3002, 3487, 3519, 3520, 3521, 3522, 3527, 3536, 3548, 3549, 3569, 3577, 3583, 3980] s37 = .ok s51 := by kernel_rfl
end Go.Proofs.YtgicpaknlgammaaGreatDoor.messageKnownRun
