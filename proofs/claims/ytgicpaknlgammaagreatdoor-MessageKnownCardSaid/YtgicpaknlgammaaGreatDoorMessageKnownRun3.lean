/- MessageKnown: the run of the closed call: stretches from 10 on, each computed by the kernel. -/
import Derived.Test.YtgicpaknlgammaaGreatDoorMessageKnownRun01
namespace Go.Proofs.YtgicpaknlgammaaGreatDoor.messageKnownRun
open Go Go.Ev Go.Proofs
set_option maxRecDepth 100000
set_option linter.unusedVariables false
theorem seg14 : chunkS Tryz.prog nest 3336 [0, 1, 3, 14, 15, 330, 331, 332, 817, 849, 850, 851, 852, 857, 866, 878, 879, 899, 907, 917, 918, 931, 932, 1308, 1325, 1326, 1341, 1366, 1367, 1368] s13 = .ok s14 := by kernel_rfl
theorem seg15 : chunkS Tryz.prog nest 3537 [0, 1, 3, 14, 15, 330, 331, 332, 817, 849, 850, 851, 852, 857, 866, 878, 879, 899, 907, 917, 918, 931, 932, 1308, 1325, 1326, 1341, 1366, 1367, 1368] s14 = .ok s15 := by kernel_rfl
theorem seg16 : chunkS Tryz.prog nest 3727 [0, 1, 3, 14, 15, 330, 331, 332, 817, 849, 850, 851, 852, 857, 866, 878, 879, 899, 907, 917, 918, 931, 932, 1308, 1325, 1326, 1341, 1366, 1367, 1368, 1510, 1511, 1512, 1513, 1514, 1515] s15 = .ok s16 := by kernel_rfl
theorem seg17 : chunkS Tryz.prog nest 3773 [0, 1, 3, 14, 15, 330, 331, 332, 817, 849, 850, 851, 852, 857, 866, 878, 879, 899, 907, 917, 918, 931, 932, 1308, 1325, 1326, 1341, 1366, 1367, 1368, 1611] s16 = .ok s17 := by kernel_rfl
theorem seg18 : chunkS Tryz.prog nest 4264 [0, 1, 3, 14, 15, 330, 331, 332, 817, 849, 850, 851, 852, 857, 866, 878, 879, 899, 907, 917, 918, 931, 932, 1308, 1325, 1326, 1341] s17 = .ok s18 := by kernel_rfl
end Go.Proofs.YtgicpaknlgammaaGreatDoor.messageKnownRun
