/- MessageKnown: the run of the closed call: stretches from 120 on, each computed by the kernel. -/
import Derived.Test.YtgicpaknlgammaaGreatDoorMessageKnownRun01
namespace Go.Proofs.YtgicpaknlgammaaGreatDoor.messageKnownRun
open Go Go.Ev Go.Proofs
set_option maxRecDepth 100000
set_option linter.unusedVariables false
theorem seg134 : chunkS Tryz.prog nest 3537 [0, 1, 3, 14, 2681, 2684, 6413, 6416, 7913, 7915, 9122, 9125, 11426, 11741, 12107, 12108, 12423, 13401, 13931, 13934, 13935, 13936, 13937, 13938, 14168, 14169, 14170, 14171, 14204, 14205, 14230, 14231, 14232] s133 = .ok s134 := by kernel_rfl
theorem seg135 : chunkS Tryz.prog nest 3727 [0, 1, 3, 14, 2681, 2684, 6413, 6416, 7913, 7915, 9122, 9125, 11426, 11741, 12107, 12108, 12423, 13401, 13931, 13934, 13935, 13936, 13937, 13938, 14168, 14169, 14170, 14171, 14204, 14205, 14230, 14231, 14232, 14374, 14375, 14376, 14377, 14378, 14379] s134 = .ok s135 := by kernel_rfl
theorem seg136 : chunkS Tryz.prog nest 3773 [0, 1, 3, 14, 2681, 2684, 6413, 6416, 7913, 7915, 9122, 9125, 11426, 11741, 12107, 12108, 12423, 13401, 13931, 13934, 13935, 13936, 13937, 13938, 14168, 14169, 14170, 14171, 14204, 14205, 14230, 14231, 14232, 14475] s135 = .ok s136 := by kernel_rfl
theorem seg137 : chunkS Tryz.prog nest 4409 [0, 1, 3, 14, 2681, 2684, 6413, 6416, 7913, 7915, 9122, 9125, 11426, 11741, 12107, 12108, 12423, 13401, 13931, 13934, 13935, 13936, 13937, 13938, 14168, 14169, 14170] s136 = .ok s137 := by kernel_rfl
theorem seg138 : chunkS Tryz.prog nest 4485 [0, 1, 3, 14, 2681, 2684, 6413, 6416, 7913, 7915, 9122, 9125, 11426, 11741, 12107, 12108, 12423, 13401, 13931, 13934, 13935, 13936, 14740, 14741, 14742, 14775, 14776, 14801, 14802, 14803] s137 = .ok s138 := by kernel_rfl
end Go.Proofs.YtgicpaknlgammaaGreatDoor.messageKnownRun
