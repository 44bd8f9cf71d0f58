/- MessageKnown: the run of the closed call: stretches from 145 on, each computed by the kernel. -/
import Derived.Test.YtgicpaknlgammaaGreatDoorMessageKnownRun01
namespace Go.Proofs.YtgicpaknlgammaaGreatDoor.messageKnownRun
open Go Go.Ev Go.Proofs
set_option maxRecDepth 100000
set_option linter.unusedVariables false
theorem seg162 : chunkS Tryz.prog nest 186 [0, 1, 3, 14, 2681, 2684, 6413, 6416, 7913, 7915, 9122, 9125, 11426, 11741, 12107, 15228, 15368, 15371, 15372, 15687, 15688, 15689, 16174, 16206, 16207, 16208, 16209, 16214, 16223, 16235, 16236, 16256, 16264, 16274, 16275, 16289, 16665, 17128] s161 = .ok s162 := by kernel_rfl
theorem seg163 : chunkS Tryz.prog (nestX Tryz.prog x15) 1 [0, 1, 3, 14, 2681, 2684, 6413, 6416, 7913, 7915, 9122, 9125, 11426, 11741, 12107, 15228, 15368, 15371, 15372, 15687, 15688, 15689, 16174, 16206, 16207, 16208, 16209, 16214, 16223, 16235, 16236, 16256, 16264, 16270, 16665] s149 = .ok s163 := by kernel_rfl
theorem seg164 : chunkS Tryz.prog nest 89 [0, 1, 3, 14, 2681, 2684, 6413, 6416, 7913, 7915, 9122, 9125, 11426, 11741, 12107, 15228, 15368, 15371, 15372, 15687, 15688, 15689, 16174, 16206, 16207, 16208, 16209, 16214, 16223, 16235, 16236, 16665] s163 = .ok s164 := by kernel_rfl
theorem seg165 : chunkS Tryz.prog (nestX Tryz.prog x16) 1 [0, 1, 3, 14, 2681, 2684, 6413, 6416, 7913, 7915, 9122, 9125, 11426, 11741, 12107, 15228, 15368, 15371, 15372, 15687, 15688, 15689, 16174, 16206, 16207, 16208, 16209, 16214, 16223, 16665] s147 = .ok s165 := by kernel_rfl
theorem seg166 : chunkS Tryz.prog nest 2912 [0, 1, 3, 14, 2681, 2684, 6413, 6416, 7913, 7915, 9122, 9125, 11426, 11741, 12107, 15228, 15368, 15371, 15372, 15687, 16665, 17195, 17198, 17199, 17200, 17201, 17202, 17203, 17204] s165 = .ok s166 := by kernel_rfl
end Go.Proofs.YtgicpaknlgammaaGreatDoor.messageKnownRun
