/- MessageKnown: the run of the closed call: stretches from 125 on, each computed by the kernel. -/
import Derived.Test.YtgicpaknlgammaaGreatDoorMessageKnownRun01
namespace Go.Proofs.YtgicpaknlgammaaGreatDoor.messageKnownRun
open Go Go.Ev Go.Proofs
set_option maxRecDepth 100000
set_option linter.unusedVariables false
theorem seg139 : chunkS Tryz.prog nest 3537 [0, 1, 3, 14, 2681, 2684, 6413, 6416, 7913, 7915, 9122, 9125, 11426, 11741, 12107, 12108, 12423, 13401, 13931, 13934, 13935, 13936, 14740, 14741, 14742, 14775, 14776, 14801, 14802, 14803] s138 = .ok s139 := by kernel_rfl
theorem seg140 : chunkS Tryz.prog nest 3727 [0, 1, 3, 14, 2681, 2684, 6413, 6416, 7913, 7915, 9122, 9125, 11426, 11741, 12107, 12108, 12423, 13401, 13931, 13934, 13935, 13936, 14740, 14741, 14742, 14775, 14776, 14801, 14802, 14803, 14945, 14946, 14947, 14948, 14949, 14950] s139 = .ok s140 := by kernel_rfl
theorem seg141 : chunkS Tryz.prog nest 3773 [0, 1, 3, 14, 2681, 2684, 6413, 6416, 7913, 7915, 9122, 9125, 11426, 11741, 12107, 12108, 12423, 13401, 13931, 13934, 13935, 13936, 14740, 14741, 14742, 14775, 14776, 14801, 14802, 14803, 15046] s140 = .ok s141 := by kernel_rfl
theorem seg142 : chunkS Tryz.prog nest 4571 [0, 1, 3, 14, 2681, 2684, 6413, 6416, 7913, 7915, 9122, 9125, 11426, 11741, 12107, 15228] s141 = .ok s142 := by kernel_rfl
theorem seg143 : chunkS Tryz.prog nest 2808 [0, 1, 3, 14, 2681, 2684, 6413, 6416, 7913, 7915, 9122, 9125, 11426, 11741, 12107, 15228, 15368, 15371, 15372, 15373, 15374, 15375, 15376] s142 = .ok s143 := by kernel_rfl
end Go.Proofs.YtgicpaknlgammaaGreatDoor.messageKnownRun
