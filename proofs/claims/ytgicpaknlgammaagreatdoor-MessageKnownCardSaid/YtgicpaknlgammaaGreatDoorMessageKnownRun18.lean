/- MessageKnown: the run of the closed call: stretches from 85 on, each computed by the kernel. -/
import Derived.Test.YtgicpaknlgammaaGreatDoorMessageKnownRun01
namespace Go.Proofs.YtgicpaknlgammaaGreatDoor.messageKnownRun
open Go Go.Ev Go.Proofs
set_option maxRecDepth 100000
set_option linter.unusedVariables false
theorem seg96 : chunkS Tryz.prog nest 4036 [0, 1, 3, 14, 2681, 2684, 6413, 6416, 7913, 7915, 9122, 9125, 9126, 9441, 9442, 9443, 9928, 10464, 10465, 10466, 10467, 10472, 10481, 10482, 10483, 10532, 10533, 10566, 10567, 10569, 10570, 10571] s95 = .ok s96 := by kernel_rfl
theorem seg97 : chunkS Tryz.prog nest 2580 [0, 1, 3, 14, 2681, 2684, 6413, 6416, 7913, 7915, 9122, 9125, 9126, 9441, 10677, 10680, 10681, 10682, 10683, 10684, 10685, 10686, 10687] s96 = .ok s97 := by kernel_rfl
theorem seg98 : chunkS Tryz.prog nest 4157 [0, 1, 3, 14, 2681, 2684, 6413, 6416, 7913, 7915, 9122, 9125, 9126, 9441, 10677, 10680, 10681, 10682, 10683, 10684] s97 = .ok s98 := by kernel_rfl
theorem seg99 : chunkS Tryz.prog nest 3854 [0, 1, 3, 14, 2681, 2684, 6413, 6416, 7913, 7915, 9122, 9125, 9126, 9441, 10677, 10680, 10681, 10682, 10683, 10684, 10914, 10915, 10916, 10917, 10950, 10951, 10953, 10954, 10955] s98 = .ok s99 := by kernel_rfl
theorem seg100 : chunkS Tryz.prog nest 4036 [0, 1, 3, 14, 2681, 2684, 6413, 6416, 7913, 7915, 9122, 9125, 9126, 9441, 10677, 10680, 10681, 10682, 10683, 10684, 10914, 10915, 10916, 10917, 10950, 10951, 10953, 10954, 10955] s99 = .ok s100 := by kernel_rfl
end Go.Proofs.YtgicpaknlgammaaGreatDoor.messageKnownRun
