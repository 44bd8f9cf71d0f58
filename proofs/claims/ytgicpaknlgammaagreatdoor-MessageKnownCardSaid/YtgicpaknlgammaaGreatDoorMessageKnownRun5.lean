/- MessageKnown: the run of the closed call: stretches from 20 on, each computed by the kernel. -/
import Derived.Test.YtgicpaknlgammaaGreatDoorMessageKnownRun01
namespace Go.Proofs.YtgicpaknlgammaaGreatDoor.messageKnownRun
open Go Go.Ev Go.Proofs
set_option maxRecDepth 100000
set_option linter.unusedVariables false
theorem seg24 : chunkS Tryz.prog nest 3164 [0, 1, 3, 14, 15, 330, 1308, 1856, 1859, 1860, 1861, 1862, 1863, 1864, 1865] s23 = .ok s24 := by kernel_rfl
theorem seg25 : chunkS Tryz.prog nest 2500 [0, 1, 3, 14, 15, 330, 1308, 1856, 1859, 1860, 1861, 1862, 1863, 2093, 2094, 2095, 2096] s24 = .ok s25 := by kernel_rfl
theorem seg26 : chunkS Tryz.prog nest 3523 [0, 1, 3, 14, 15, 330, 1308, 1856, 1859, 1860, 1861, 1862, 1863, 2093, 2094, 2095, 2096, 2129, 2130, 2155, 2156, 2157] s25 = .ok s26 := by kernel_rfl
theorem seg27 : chunkS Tryz.prog nest 3537 [0, 1, 3, 14, 15, 330, 1308, 1856, 1859, 1860, 1861, 1862, 1863, 2093, 2094, 2095, 2096, 2129, 2130, 2155, 2156, 2157] s26 = .ok s27 := by kernel_rfl
theorem seg28 : chunkS Tryz.prog nest 3727 [0, 1, 3, 14, 15, 330, 1308, 1856, 1859, 1860, 1861, 1862, 1863, 2093, 2094, 2095, 2096, 2129, 2130, 2155, 2156, 2157, 2299, 2300, 2301, 2302, 2303, 2304] s27 = .ok s28 := by kernel_rfl
end Go.Proofs.YtgicpaknlgammaaGreatDoor.messageKnownRun
