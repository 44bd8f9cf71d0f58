/- MessageKnown: the run of the closed call: stretches from 130 on, each computed by the kernel. -/
import Derived.Test.YtgicpaknlgammaaGreatDoorMessageKnownRun01
namespace Go.Proofs.YtgicpaknlgammaaGreatDoor.messageKnownRun
open Go Go.Ev Go.Proofs
set_option maxRecDepth 100000
set_option linter.unusedVariables false
theorem seg144 : chunkS Tryz.prog nest 2585 [0, 1, 3, 14, 2681, 2684, 6413, 6416, 7913, 7915, 9122, 9125, 11426, 11741, 12107, 15228, 15368, 15371, 15372] s143 = .ok s144 := by kernel_rfl
theorem seg145 : chunkS Tryz.prog nest 2797 [0, 1, 3, 14, 2681, 2684, 6413, 6416, 7913, 7915, 9122, 9125, 11426, 11741, 12107, 15228, 15368, 15371, 15372, 15687, 15688, 15689, 15690, 15691, 15692, 15693] s144 = .ok s145 := by kernel_rfl
theorem seg146 : chunkS Tryz.prog nest 3278 [0, 1, 3, 14, 2681, 2684, 6413, 6416, 7913, 7915, 9122, 9125, 11426, 11741, 12107, 15228, 15368, 15371, 15372, 15687, 15688, 15689] s145 = .ok s146 := by kernel_rfl
theorem seg147 : chunkS Tryz.prog nest 1530 [0, 1, 3, 14, 2681, 2684, 6413, 6416, 7913, 7915, 9122, 9125, 11426, 11741, 12107, 15228, 15368, 15371, 15372, 15687, 15688, 15689, 16174, 16206, 16207, 16208, 16209, 16214, 16223] s146 = .ok s147 := by kernel_rfl
theorem seg149 : chunkS Tryz.prog nest 79 [0, 1, 3, 14, 2681, 2684, 6413, 6416, 7913, 7915, 9122, 9125, 11426, 11741, 12107, 15228, 15368, 15371, 15372, 15687, 15688, 15689, 16174, 16206, 16207, 16208, 16209, 16214, 16223, 16235, 16236, 16256] s148 = .ok s149 := by kernel_rfl
end Go.Proofs.YtgicpaknlgammaaGreatDoor.messageKnownRun
