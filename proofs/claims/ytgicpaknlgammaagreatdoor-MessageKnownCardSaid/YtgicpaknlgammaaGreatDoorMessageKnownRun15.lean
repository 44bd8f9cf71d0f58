/- MessageKnown: the run of the closed call: stretches from 70 on, each computed by the kernel. -/
import Derived.Test.YtgicpaknlgammaaGreatDoorMessageKnownRun01
namespace Go.Proofs.YtgicpaknlgammaaGreatDoor.messageKnownRun
open Go Go.Ev Go.Proofs
set_option maxRecDepth 100000
set_option linter.unusedVariables false
theorem seg79 : chunkS Tryz.prog nest 2797 [0, 1, 3, 14, 2681, 2684, 6413, 6416, 7913, 7915, 7916, 8231, 8232, 8233, 8234, 8235, 8236, 8237] s78 = .ok s79 := by kernel_rfl
theorem seg80 : chunkS Tryz.prog nest 3278 [0, 1, 3, 14, 2681, 2684, 6413, 6416, 7913, 7915, 7916, 8231, 8232, 8233] s79 = .ok s80 := by kernel_rfl
theorem seg81 : chunkS Tryz.prog nest 4213 [0, 1, 3, 14, 2681, 2684, 6413, 6416, 7913, 7915, 7916, 8231, 8739, 8742, 8743, 8744, 8745, 8746, 8747, 8748] s80 = .ok s81 := by kernel_rfl
theorem seg82 : chunkS Tryz.prog nest 3323 [0, 1, 3, 14, 2681, 2684, 6413, 6416, 7913, 7915] s81 = .ok s82 := by kernel_rfl
theorem seg83 : chunkS Tryz.prog nest 2809 [0, 1, 3, 14, 2681, 2684, 6413, 6416, 7913, 7915, 9122, 9125, 9126, 9127, 9128, 9129, 9130] s82 = .ok s83 := by kernel_rfl
end Go.Proofs.YtgicpaknlgammaaGreatDoor.messageKnownRun
