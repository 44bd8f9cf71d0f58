/- MessageKnown: the run of the closed call: stretches from 110 on, each computed by the kernel. -/
import Derived.Test.YtgicpaknlgammaaGreatDoorMessageKnownRun01
namespace Go.Proofs.YtgicpaknlgammaaGreatDoor.messageKnownRun
open Go Go.Ev Go.Proofs
set_option maxRecDepth 100000
set_option linter.unusedVariables false
theorem seg124 : chunkS Tryz.prog nest 3773 [0, 1, 3, 14, 2681, 2684, 6413, 6416, 7913, 7915, 9122, 9125, 11426, 11741, 12107, 12108, 12423, 12424, 12425, 12910, 12942, 12943, 12944, 12945, 12950, 12959, 12971, 12972, 12992, 13000, 13010, 13011, 13024, 13025, 13401, 13418, 13419, 13434, 13459, 13460, 13461, 13704] s123 = .ok s124 := by kernel_rfl
theorem seg125 : chunkS Tryz.prog nest 4264 [0, 1, 3, 14, 2681, 2684, 6413, 6416, 7913, 7915, 9122, 9125, 11426, 11741, 12107, 12108, 12423, 12424, 12425, 12910, 12942, 12943, 12944, 12945, 12950, 12959, 12971, 12972, 12992, 13000, 13010, 13011, 13024, 13025, 13401, 13418, 13419, 13434] s124 = .ok s125 := by kernel_rfl
theorem seg126 : chunkS Tryz.prog (nestX Tryz.prog x11) 1 [0, 1, 3, 14, 2681, 2684, 6413, 6416, 7913, 7915, 9122, 9125, 11426, 11741, 12107, 12108, 12423, 12424, 12425, 12910, 12942, 12943, 12944, 12945, 12950, 12959, 12971, 12972, 12992, 13000, 13010, 13011, 13024, 13025, 13401, 13418, 13419] s119 = .ok s126 := by kernel_rfl
theorem seg127 : chunkS Tryz.prog nest 186 [0, 1, 3, 14, 2681, 2684, 6413, 6416, 7913, 7915, 9122, 9125, 11426, 11741, 12107, 12108, 12423, 12424, 12425, 12910, 12942, 12943, 12944, 12945, 12950, 12959, 12971, 12972, 12992, 13000, 13010, 13011, 13025, 13401, 13864] s126 = .ok s127 := by kernel_rfl
theorem seg128 : chunkS Tryz.prog (nestX Tryz.prog x12) 1 [0, 1, 3, 14, 2681, 2684, 6413, 6416, 7913, 7915, 9122, 9125, 11426, 11741, 12107, 12108, 12423, 12424, 12425, 12910, 12942, 12943, 12944, 12945, 12950, 12959, 12971, 12972, 12992, 13000, 13006, 13401] s114 = .ok s128 := by kernel_rfl
end Go.Proofs.YtgicpaknlgammaaGreatDoor.messageKnownRun
