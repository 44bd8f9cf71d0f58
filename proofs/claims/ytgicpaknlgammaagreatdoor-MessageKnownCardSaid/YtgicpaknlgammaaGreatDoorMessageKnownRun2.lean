/- MessageKnown: the run of the closed call: stretches from 5 on, each computed by the kernel. -/
import Derived.Test.YtgicpaknlgammaaGreatDoorMessageKnownRun01
namespace Go.Proofs.YtgicpaknlgammaaGreatDoor.messageKnownRun
open Go Go.Ev Go.Proofs
set_option maxRecDepth 100000
set_option linter.unusedVariables false
theorem seg7 : chunkS Tryz.prog nest 79 [0, 1, 3, 14, 15, 330, 331, 332, 817, 849, 850, 851, 852, 857, 866, 878, 879, 899] s6 = .ok s7 := by kernel_rfl
theorem seg9 : chunkS Tryz.prog nest 2902 [0, 1, 3, 14, 15, 330, 331, 332, 817, 849, 850, 851, 852, 857, 866, 878, 879, 899, 907, 917, 918, 931, 932, 979, 1012, 1013] s8 = .ok s9 := by kernel_rfl
theorem seg10 : chunkS Tryz.prog nest 4322 [0, 1, 3, 14, 15, 330, 331, 332, 817, 849, 850, 851, 852, 857, 866, 878, 879, 899, 907, 917, 918, 931, 932, 979, 1071, 1108, 1109, 1110, 1161, 1162, 1163, 1164, 1165, 1166, 1177] s9 = .ok s10 := by kernel_rfl
theorem seg11 : chunkS Tryz.prog nest 4525 [0, 1, 3, 14, 15, 330, 331, 332, 817, 849, 850, 851, 852, 857, 866, 878, 879, 899, 907, 917, 918, 931, 932, 1308] s10 = .ok s11 := by kernel_rfl
theorem seg12 : chunkS Tryz.prog nest 77 [0, 1, 3, 14, 15, 330, 331, 332, 817, 849, 850, 851, 852, 857, 866, 878, 879, 899, 907, 917, 918, 931, 932, 1308, 1325, 1326] s11 = .ok s12 := by kernel_rfl
end Go.Proofs.YtgicpaknlgammaaGreatDoor.messageKnownRun
