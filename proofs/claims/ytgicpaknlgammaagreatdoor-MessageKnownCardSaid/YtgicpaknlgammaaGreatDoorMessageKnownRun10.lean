/- MessageKnown: the run of the closed call: stretches from 45 on, each computed by the kernel. -/
import Derived.Test.YtgicpaknlgammaaGreatDoorMessageKnownRun01
namespace Go.Proofs.YtgicpaknlgammaaGreatDoor.messageKnownRun
open Go Go.Ev Go.Proofs
set_option maxRecDepth 100000
set_option linter.unusedVariables false
theorem seg52 : chunkS Tryz.prog nest 383 [0, 1, 3, 14, 2681, 2684, 2685, 3000, 3001, 3002, 3487, 3519, 3520, 3521, 3522, 3527, 3536, 3548, 3549, 5139] s51 = .ok s52 := by kernel_rfl
theorem seg54 : chunkS Tryz.prog nest 4476 [0, 1, 3, 14, 2681, 2684, 2685, 3000, 3001, 3002, 3487, 3519, 3520, 3521, 3522, 3527, 3536, 3548, 3549, 5139, 5147, 5157, 5158] s53 = .ok s54 := by kernel_rfl
theorem seg55 : chunkS Tryz.prog nest 4176 [0, 1, 3, 14, 2681, 2684, 2685, 3000, 3001, 3002, 3487, 3519, 3520, 3521, 3522, 3527, 3536, 3548, 3549, 5139, 5147, 5157, 5158, 5266, 5267, 5413, 5430, 5431] s54 = .ok s55 := by kernel_rfl
theorem seg57 : chunkS Tryz.prog nest 3336 [0, 1, 3, 14, 2681, 2684, 2685, 3000, 3001, 3002, 3487, 3519, 3520, 3521, 3522, 3527, 3536, 3548, 3549, 5139, 5147, 5157, 5158, 5266, 5267, 5413, 5430, 5431, 5446, 5471, 5472, 5473] s56 = .ok s57 := by kernel_rfl
theorem seg58 : chunkS Tryz.prog nest 3537 [0, 1, 3, 14, 2681, 2684, 2685, 3000, 3001, 3002, 3487, 3519, 3520, 3521, 3522, 3527, 3536, 3548, 3549, 5139, 5147, 5157, 5158, 5266, 5267, 5413, 5430, 5431, 5446, 5471, 5472, 5473] s57 = .ok s58 := by kernel_rfl
end Go.Proofs.YtgicpaknlgammaaGreatDoor.messageKnownRun
