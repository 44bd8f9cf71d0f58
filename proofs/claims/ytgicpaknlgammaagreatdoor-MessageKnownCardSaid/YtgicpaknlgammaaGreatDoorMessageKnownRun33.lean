/- MessageKnown: the run of the closed call: stretches from 160 on, each computed by the kernel. -/
import Derived.Test.YtgicpaknlgammaaGreatDoorMessageKnownRun01
namespace Go.Proofs.YtgicpaknlgammaaGreatDoor.messageKnownRun
open Go Go.Ev Go.Proofs
set_option maxRecDepth 100000
set_option linter.unusedVariables false
theorem seg177 : chunkS Tryz.prog nest 4571 [0, 1, 3, 14, 2681, 2684, 6413, 6416, 7913, 7915, 9122, 9125, 11426, 11741, 12107, 15228, 15368, 15371, 18492] s176 = .ok s177 := by kernel_rfl
theorem seg178 : chunkS Tryz.prog nest 2808 [0, 1, 3, 14, 2681, 2684, 6413, 6416, 7913, 7915, 9122, 9125, 11426, 11741, 12107, 15228, 15368, 15371, 18492, 18632, 18635, 18636, 18637, 18638, 18639, 18640] s177 = .ok s178 := by kernel_rfl
theorem seg179 : chunkS Tryz.prog nest 2585 [0, 1, 3, 14, 2681, 2684, 6413, 6416, 7913, 7915, 9122, 9125, 11426, 11741, 12107, 15228, 15368, 15371, 18492, 18632, 18635, 18636] s178 = .ok s179 := by kernel_rfl
theorem seg180 : chunkS Tryz.prog nest 2797 [0, 1, 3, 14, 2681, 2684, 6413, 6416, 7913, 7915, 9122, 9125, 11426, 11741, 12107, 15228, 15368, 15371, 18492, 18632, 18635, 18636, 18951, 18952, 18953, 18954, 18955, 18956, 18957] s179 = .ok s180 := by kernel_rfl
theorem seg181 : chunkS Tryz.prog nest 3278 [0, 1, 3, 14, 2681, 2684, 6413, 6416, 7913, 7915, 9122, 9125, 11426, 11741, 12107, 15228, 15368, 15371, 18492, 18632, 18635, 18636, 18951, 18952, 18953] s180 = .ok s181 := by kernel_rfl
end Go.Proofs.YtgicpaknlgammaaGreatDoor.messageKnownRun
