/- MessageKnown: the run of the closed call: stretches from 100 on, each computed by the kernel. -/
import Derived.Test.YtgicpaknlgammaaGreatDoorMessageKnownRun01
namespace Go.Proofs.YtgicpaknlgammaaGreatDoor.messageKnownRun
open Go Go.Ev Go.Proofs
set_option maxRecDepth 100000
set_option linter.unusedVariables false
theorem seg111 : chunkS Tryz.prog nest 3278 [0, 1, 3, 14, 2681, 2684, 6413, 6416, 7913, 7915, 9122, 9125, 11426, 11741, 12107, 12108, 12423, 12424, 12425] s110 = .ok s111 := by kernel_rfl
theorem seg112 : chunkS Tryz.prog nest 1530 [0, 1, 3, 14, 2681, 2684, 6413, 6416, 7913, 7915, 9122, 9125, 11426, 11741, 12107, 12108, 12423, 12424, 12425, 12910, 12942, 12943, 12944, 12945, 12950, 12959] s111 = .ok s112 := by kernel_rfl
theorem seg114 : chunkS Tryz.prog nest 79 [0, 1, 3, 14, 2681, 2684, 6413, 6416, 7913, 7915, 9122, 9125, 11426, 11741, 12107, 12108, 12423, 12424, 12425, 12910, 12942, 12943, 12944, 12945, 12950, 12959, 12971, 12972, 12992] s113 = .ok s114 := by kernel_rfl
theorem seg116 : chunkS Tryz.prog nest 2902 [0, 1, 3, 14, 2681, 2684, 6413, 6416, 7913, 7915, 9122, 9125, 11426, 11741, 12107, 12108, 12423, 12424, 12425, 12910, 12942, 12943, 12944, 12945, 12950, 12959, 12971, 12972, 12992, 13000, 13010, 13011, 13024, 13025, 13072, 13105, 13106] s115 = .ok s116 := by kernel_rfl
theorem seg117 : chunkS Tryz.prog nest 4322 [0, 1, 3, 14, 2681, 2684, 6413, 6416, 7913, 7915, 9122, 9125, 11426, 11741, 12107, 12108, 12423, 12424, 12425, 12910, 12942, 12943, 12944, 12945, 12950, 12959, 12971, 12972, 12992, 13000, 13010, 13011, 13024, 13025, 13072, 13164, 13201, 13202, 13203, 13254, 13255, 13256, 13257, 13258, 13259, 13270] s116 = .ok s117 := by kernel_rfl
end Go.Proofs.YtgicpaknlgammaaGreatDoor.messageKnownRun
