/- MessageKnown: the run of the closed call: stretches from 115 on, each computed by the kernel. -/
import Derived.Test.YtgicpaknlgammaaGreatDoorMessageKnownRun01
namespace Go.Proofs.YtgicpaknlgammaaGreatDoor.messageKnownRun
open Go Go.Ev Go.Proofs
set_option maxRecDepth 100000
set_option linter.unusedVariables false
theorem seg129 : chunkS Tryz.prog nest 89 [0, 1, 3, 14, 2681, 2684, 6413, 6416, 7913, 7915, 9122, 9125, 11426, 11741, 12107, 12108, 12423, 12424, 12425, 12910, 12942, 12943, 12944, 12945, 12950, 12959, 12971, 12972, 13401] s128 = .ok s129 := by kernel_rfl
theorem seg130 : chunkS Tryz.prog (nestX Tryz.prog x13) 1 [0, 1, 3, 14, 2681, 2684, 6413, 6416, 7913, 7915, 9122, 9125, 11426, 11741, 12107, 12108, 12423, 12424, 12425, 12910, 12942, 12943, 12944, 12945, 12950, 12959, 13401] s112 = .ok s130 := by kernel_rfl
theorem seg131 : chunkS Tryz.prog nest 2912 [0, 1, 3, 14, 2681, 2684, 6413, 6416, 7913, 7915, 9122, 9125, 11426, 11741, 12107, 12108, 12423, 13401, 13931, 13934, 13935, 13936, 13937, 13938, 13939, 13940] s130 = .ok s131 := by kernel_rfl
theorem seg132 : chunkS Tryz.prog nest 2500 [0, 1, 3, 14, 2681, 2684, 6413, 6416, 7913, 7915, 9122, 9125, 11426, 11741, 12107, 12108, 12423, 13401, 13931, 13934, 13935, 13936, 13937, 13938, 14168, 14169, 14170, 14171] s131 = .ok s132 := by kernel_rfl
theorem seg133 : chunkS Tryz.prog nest 3523 [0, 1, 3, 14, 2681, 2684, 6413, 6416, 7913, 7915, 9122, 9125, 11426, 11741, 12107, 12108, 12423, 13401, 13931, 13934, 13935, 13936, 13937, 13938, 14168, 14169, 14170, 14171, 14204, 14205, 14230, 14231, 14232] s132 = .ok s133 := by kernel_rfl
end Go.Proofs.YtgicpaknlgammaaGreatDoor.messageKnownRun
