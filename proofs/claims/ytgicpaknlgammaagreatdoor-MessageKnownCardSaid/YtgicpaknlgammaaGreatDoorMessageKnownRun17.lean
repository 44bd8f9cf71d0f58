/- MessageKnown: the run of the closed call: stretches from 80 on, each computed by the kernel. -/
import Derived.Test.YtgicpaknlgammaaGreatDoorMessageKnownRun01
namespace Go.Proofs.YtgicpaknlgammaaGreatDoor.messageKnownRun
open Go Go.Ev Go.Proofs
set_option maxRecDepth 100000
set_option linter.unusedVariables false
theorem seg91 : chunkS Tryz.prog nest 4338 [0, 1, 3, 14, 2681, 2684, 6413, 6416, 7913, 7915, 9122, 9125, 9126, 9441, 9442, 9443, 9928, 9960, 9961, 9962, 9963, 9968, 9977, 9989, 9990, 10010, 10018, 10028, 10029, 10043, 10398] s90 = .ok s91 := by kernel_rfl
theorem seg92 : chunkS Tryz.prog (nestX Tryz.prog x9) 1 [0, 1, 3, 14, 2681, 2684, 6413, 6416, 7913, 7915, 9122, 9125, 9126, 9441, 9442, 9443, 9928, 9960, 9961, 9962, 9963, 9968, 9977, 9989, 9990, 10010, 10018, 10024] s89 = .ok s92 := by kernel_rfl
theorem seg93 : chunkS Tryz.prog nest 89 [0, 1, 3, 14, 2681, 2684, 6413, 6416, 7913, 7915, 9122, 9125, 9126, 9441, 9442, 9443, 9928, 9960, 9961, 9962, 9963, 9968, 9977, 9989, 9990] s92 = .ok s93 := by kernel_rfl
theorem seg94 : chunkS Tryz.prog (nestX Tryz.prog x10) 1 [0, 1, 3, 14, 2681, 2684, 6413, 6416, 7913, 7915, 9122, 9125, 9126, 9441, 9442, 9443, 9928, 9960, 9961, 9962, 9963, 9968, 9977] s87 = .ok s94 := by kernel_rfl
theorem seg95 : chunkS Tryz.prog nest 4169 [0, 1, 3, 14, 2681, 2684, 6413, 6416, 7913, 7915, 9122, 9125, 9126, 9441, 9442, 9443, 9928, 10464, 10465, 10466, 10467, 10472, 10481, 10482, 10483, 10532, 10533, 10566, 10567, 10569, 10570, 10571] s94 = .ok s95 := by kernel_rfl
end Go.Proofs.YtgicpaknlgammaaGreatDoor.messageKnownRun
