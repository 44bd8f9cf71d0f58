/- MessageKnown: the run of the closed call: stretches from 190 on, each computed by the kernel. -/
import Derived.Test.YtgicpaknlgammaaGreatDoorMessageKnownRun01
namespace Go.Proofs.YtgicpaknlgammaaGreatDoor.messageKnownRun
open Go Go.Ev Go.Proofs
set_option maxRecDepth 100000
set_option linter.unusedVariables false
theorem seg210 : chunkS Tryz.prog nest 2797 [0, 1, 3, 14, 2681, 2684, 6413, 6416, 7913, 7915, 9122, 9125, 11426, 11741, 12107, 15228, 15368, 15371, 18492, 18632, 18635, 21284, 21286, 21287, 21602, 21603, 21604, 21605, 21606, 21607, 21608] s209 = .ok s210 := by kernel_rfl
theorem seg211 : chunkS Tryz.prog nest 3278 [0, 1, 3, 14, 2681, 2684, 6413, 6416, 7913, 7915, 9122, 9125, 11426, 11741, 12107, 15228, 15368, 15371, 18492, 18632, 18635, 21284, 21286, 21287, 21602, 21603, 21604] s210 = .ok s211 := by kernel_rfl
theorem seg212 : chunkS Tryz.prog nest 2501 [0, 1, 3, 14, 2681, 2684, 6413, 6416, 7913, 7915, 9122, 9125, 11426, 11741, 12107, 15228, 15368, 15371, 18492, 18632, 18635, 21284, 21286, 21287, 21602, 22200] s211 = .ok s212 := by kernel_rfl
theorem seg213 : chunkS Tryz.prog nest 2797 [0, 1, 3, 14, 2681, 2684, 6413, 6416, 7913, 7915, 9122, 9125, 11426, 11741, 12107, 15228, 15368, 15371, 18492, 18632, 18635, 21284, 21286, 21287, 21602, 22200, 22203, 22204, 22205, 22206, 22207, 22208, 22209] s212 = .ok s213 := by kernel_rfl
theorem seg214 : chunkS Tryz.prog nest 3374 [0, 1, 3, 14, 2681, 2684, 6413, 6416, 7913, 7915, 9122, 9125, 11426] s213 = .ok s214 := by kernel_rfl
end Go.Proofs.YtgicpaknlgammaaGreatDoor.messageKnownRun
