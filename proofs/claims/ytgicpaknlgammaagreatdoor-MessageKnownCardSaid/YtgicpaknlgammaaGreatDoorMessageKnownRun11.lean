/- MessageKnown: the run of the closed call: stretches from 50 on, each computed by the kernel. -/
import Derived.Test.YtgicpaknlgammaaGreatDoorMessageKnownRun01
namespace Go.Proofs.YtgicpaknlgammaaGreatDoor.messageKnownRun
open Go Go.Ev Go.Proofs
set_option maxRecDepth 100000
set_option linter.unusedVariables false
theorem seg59 : chunkS Tryz.prog nest 3727 [0, 1, 3, 14, 2681, 2684, 2685, 3000, 3001, 3002, 3487, 3519, 3520, 3521, 3522, 3527, 3536, 3548, 3549, 5139, 5147, 5157, 5158, 5266, 5267, 5413, 5430, 5431, 5446, 5471, 5472, 5473, 5615, 5616, 5617, 5618, 5619, 5620] s58 = .ok s59 := by kernel_rfl
theorem seg60 : chunkS Tryz.prog nest 3773 [0, 1, 3, 14, 2681, 2684, 2685, 3000, 3001, 3002, 3487, 3519, 3520, 3521, 3522, 3527, 3536, 3548, 3549, 5139, 5147, 5157, 5158, 5266, 5267, 5413, 5430, 5431, 5446, 5471, 5472, 5473, 5716] s59 = .ok s60 := by kernel_rfl
theorem seg61 : chunkS Tryz.prog nest 4525 [0, 1, 3, 14, 2681, 2684, 2685, 3000, 3001, 3002, 3487, 3519, 3520, 3521, 3522, 3527, 3536, 3548, 3549, 5139, 5147, 5157, 5158, 5266, 5267, 5413, 5430, 5431, 5446] s60 = .ok s61 := by kernel_rfl
theorem seg62 : chunkS Tryz.prog (nestX Tryz.prog x6) 1 [0, 1, 3, 14, 2681, 2684, 2685, 3000, 3001, 3002, 3487, 3519, 3520, 3521, 3522, 3527, 3536, 3548, 3549, 5139, 5147, 5157, 5158, 5266, 5267, 5413, 5430, 5431] s55 = .ok s62 := by kernel_rfl
theorem seg63 : chunkS Tryz.prog nest 186 [0, 1, 3, 14, 2681, 2684, 2685, 3000, 3001, 3002, 3487, 3519, 3520, 3521, 3522, 3527, 3536, 3548, 3549, 5139, 5147, 5157, 5158, 5267, 5413, 5876] s62 = .ok s63 := by kernel_rfl
end Go.Proofs.YtgicpaknlgammaaGreatDoor.messageKnownRun
