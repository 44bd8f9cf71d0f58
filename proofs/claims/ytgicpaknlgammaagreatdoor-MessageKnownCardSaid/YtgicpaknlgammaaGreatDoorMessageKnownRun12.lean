/- MessageKnown: the run of the closed call: stretches from 55 on, each computed by the kernel. -/
import Derived.Test.YtgicpaknlgammaaGreatDoorMessageKnownRun01
namespace Go.Proofs.YtgicpaknlgammaaGreatDoor.messageKnownRun
open Go Go.Ev Go.Proofs
set_option maxRecDepth 100000
set_option linter.unusedVariables false
theorem seg64 : chunkS Tryz.prog (nestX Tryz.prog x7) 1 [0, 1, 3, 14, 2681, 2684, 2685, 3000, 3001, 3002, 3487, 3519, 3520, 3521, 3522, 3527, 3536, 3548, 3549, 5139, 5147, 5153, 5413] s52 = .ok s64 := by kernel_rfl
theorem seg65 : chunkS Tryz.prog nest 63 [0, 1, 3, 14, 2681, 2684, 2685, 3000, 3001, 3002, 3487, 3519, 3520, 3521, 3522, 3527, 3536, 3548, 3549] s64 = .ok s65 := by kernel_rfl
theorem seg66 : chunkS Tryz.prog (nestX Tryz.prog x8) 1 [0, 1, 3, 14, 2681, 2684, 2685, 3000, 3001, 3002, 3487, 3519, 3520, 3521, 3522, 3527, 3536] s35 = .ok s66 := by kernel_rfl
theorem seg67 : chunkS Tryz.prog nest 2893 [0, 1, 3, 14, 2681, 2684, 2685, 3000, 5935, 5938, 5939, 5940, 5941, 5942, 5943, 5944] s66 = .ok s67 := by kernel_rfl
theorem seg68 : chunkS Tryz.prog nest 2500 [0, 1, 3, 14, 2681, 2684, 2685, 3000, 5935, 5938, 5939, 5940, 5941, 5942, 6172, 6173, 6174, 6175] s67 = .ok s68 := by kernel_rfl
end Go.Proofs.YtgicpaknlgammaaGreatDoor.messageKnownRun
