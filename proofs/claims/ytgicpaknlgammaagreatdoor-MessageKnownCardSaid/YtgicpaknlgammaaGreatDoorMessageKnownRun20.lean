/- MessageKnown: the run of the closed call: stretches from 95 on, each computed by the kernel. -/
import Derived.Test.YtgicpaknlgammaaGreatDoorMessageKnownRun01
namespace Go.Proofs.YtgicpaknlgammaaGreatDoor.messageKnownRun
open Go Go.Ev Go.Proofs
set_option maxRecDepth 100000
set_option linter.unusedVariables false
theorem seg106 : chunkS Tryz.prog nest 3421 [0, 1, 3, 14, 2681, 2684, 6413, 6416, 7913, 7915, 9122, 9125, 11426, 11741, 11742, 11743, 11744, 11745, 11746] s105 = .ok s106 := by kernel_rfl
theorem seg107 : chunkS Tryz.prog nest 3376 [0, 1, 3, 14, 2681, 2684, 6413, 6416, 7913, 7915, 9122, 9125, 11426, 11741] s106 = .ok s107 := by kernel_rfl
theorem seg108 : chunkS Tryz.prog nest 2807 [0, 1, 3, 14, 2681, 2684, 6413, 6416, 7913, 7915, 9122, 9125, 11426, 11741, 12107, 12108, 12109, 12110, 12111, 12112] s107 = .ok s108 := by kernel_rfl
theorem seg109 : chunkS Tryz.prog nest 2585 [0, 1, 3, 14, 2681, 2684, 6413, 6416, 7913, 7915, 9122, 9125, 11426, 11741, 12107, 12108] s108 = .ok s109 := by kernel_rfl
theorem seg110 : chunkS Tryz.prog nest 2797 [0, 1, 3, 14, 2681, 2684, 6413, 6416, 7913, 7915, 9122, 9125, 11426, 11741, 12107, 12108, 12423, 12424, 12425, 12426, 12427, 12428, 12429] s109 = .ok s110 := by kernel_rfl
end Go.Proofs.YtgicpaknlgammaaGreatDoor.messageKnownRun
