/- MessageKnown: the run of the closed call: stretches from 90 on, each computed by the kernel. -/
import Derived.Test.YtgicpaknlgammaaGreatDoorMessageKnownRun01
namespace Go.Proofs.YtgicpaknlgammaaGreatDoor.messageKnownRun
open Go Go.Ev Go.Proofs
set_option maxRecDepth 100000
set_option linter.unusedVariables false
theorem seg101 : chunkS Tryz.prog nest 2757 [0, 1, 3, 14, 2681, 2684, 6413, 6416, 7913, 7915, 9122, 9125, 9126, 9441, 10677, 10680, 10681, 10682, 11175, 11176, 11177] s100 = .ok s101 := by kernel_rfl
theorem seg102 : chunkS Tryz.prog nest 3366 [0, 1, 3, 14, 2681, 2684, 6413, 6416, 7913, 7915, 9122, 9125, 9126, 9441, 10677, 10680, 10681, 10682, 11175, 11176, 11177, 11210, 11211, 11213, 11214, 11215] s101 = .ok s102 := by kernel_rfl
theorem seg103 : chunkS Tryz.prog nest 4036 [0, 1, 3, 14, 2681, 2684, 6413, 6416, 7913, 7915, 9122, 9125, 9126, 9441, 10677, 10680, 10681, 10682, 11175, 11176, 11177, 11210, 11211, 11213, 11214, 11215] s102 = .ok s103 := by kernel_rfl
theorem seg104 : chunkS Tryz.prog nest 2642 [0, 1, 3, 14, 2681, 2684, 6413, 6416, 7913, 7915, 9122, 9125, 11426, 11427, 11428, 11429, 11430, 11431] s103 = .ok s104 := by kernel_rfl
theorem seg105 : chunkS Tryz.prog nest 4125 [0, 1, 3, 14, 2681, 2684, 6413, 6416, 7913, 7915, 9122, 9125, 11426, 11427, 11428, 11429] s104 = .ok s105 := by kernel_rfl
end Go.Proofs.YtgicpaknlgammaaGreatDoor.messageKnownRun
