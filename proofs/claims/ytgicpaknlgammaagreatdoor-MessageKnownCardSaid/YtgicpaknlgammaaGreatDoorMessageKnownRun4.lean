/- MessageKnown: the run of the closed call: stretches from 15 on, each computed by the kernel. -/
import Derived.Test.YtgicpaknlgammaaGreatDoorMessageKnownRun01
namespace Go.Proofs.YtgicpaknlgammaaGreatDoor.messageKnownRun
open Go Go.Ev Go.Proofs
set_option maxRecDepth 100000
set_option linter.unusedVariables false
theorem seg19 : chunkS Tryz.prog (nestX Tryz.prog x1) 1 [0, 1, 3, 14, 15, 330, 331, 332, 817, 849, 850, 851, 852, 857, 866, 878, 879, 899, 907, 917, 918, 931, 932, 1308, 1325, 1326] s12 = .ok s19 := by kernel_rfl
theorem seg20 : chunkS Tryz.prog nest 186 [0, 1, 3, 14, 15, 330, 331, 332, 817, 849, 850, 851, 852, 857, 866, 878, 879, 899, 907, 917, 918, 932, 1308, 1771] s19 = .ok s20 := by kernel_rfl
theorem seg21 : chunkS Tryz.prog (nestX Tryz.prog x2) 1 [0, 1, 3, 14, 15, 330, 331, 332, 817, 849, 850, 851, 852, 857, 866, 878, 879, 899, 907, 913, 1308] s7 = .ok s21 := by kernel_rfl
theorem seg22 : chunkS Tryz.prog nest 89 [0, 1, 3, 14, 15, 330, 331, 332, 817, 849, 850, 851, 852, 857, 866, 878, 879, 1308] s21 = .ok s22 := by kernel_rfl
theorem seg23 : chunkS Tryz.prog (nestX Tryz.prog x3) 1 [0, 1, 3, 14, 15, 330, 331, 332, 817, 849, 850, 851, 852, 857, 866, 1308] s5 = .ok s23 := by kernel_rfl
end Go.Proofs.YtgicpaknlgammaaGreatDoor.messageKnownRun
