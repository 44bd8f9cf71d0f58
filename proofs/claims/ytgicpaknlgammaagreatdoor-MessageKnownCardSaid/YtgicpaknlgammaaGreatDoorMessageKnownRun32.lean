/- MessageKnown: the run of the closed call: stretches from 155 on, each computed by the kernel. -/
import Derived.Test.YtgicpaknlgammaaGreatDoorMessageKnownRun01
namespace Go.Proofs.YtgicpaknlgammaaGreatDoor.messageKnownRun
open Go Go.Ev Go.Proofs
set_option maxRecDepth 100000
set_option linter.unusedVariables false
theorem seg172 : chunkS Tryz.prog nest 4409 [0, 1, 3, 14, 2681, 2684, 6413, 6416, 7913, 7915, 9122, 9125, 11426, 11741, 12107, 15228, 15368, 15371, 15372, 15687, 16665, 17195, 17198, 17199, 17200, 17201, 17202, 17432, 17433, 17434] s171 = .ok s172 := by kernel_rfl
theorem seg173 : chunkS Tryz.prog nest 4485 [0, 1, 3, 14, 2681, 2684, 6413, 6416, 7913, 7915, 9122, 9125, 11426, 11741, 12107, 15228, 15368, 15371, 15372, 15687, 16665, 17195, 17198, 17199, 17200, 18004, 18005, 18006, 18039, 18040, 18065, 18066, 18067] s172 = .ok s173 := by kernel_rfl
theorem seg174 : chunkS Tryz.prog nest 3537 [0, 1, 3, 14, 2681, 2684, 6413, 6416, 7913, 7915, 9122, 9125, 11426, 11741, 12107, 15228, 15368, 15371, 15372, 15687, 16665, 17195, 17198, 17199, 17200, 18004, 18005, 18006, 18039, 18040, 18065, 18066, 18067] s173 = .ok s174 := by kernel_rfl
theorem seg175 : chunkS Tryz.prog nest 3727 [0, 1, 3, 14, 2681, 2684, 6413, 6416, 7913, 7915, 9122, 9125, 11426, 11741, 12107, 15228, 15368, 15371, 15372, 15687, 16665, 17195, 17198, 17199, 17200, 18004, 18005, 18006, 18039, 18040, 18065, 18066, 18067, 18209, 18210, 18211, 18212, 18213, 18214] s174 = .ok s175 := by kernel_rfl
theorem seg176 : chunkS Tryz.prog nest 3773 [0, 1, 3, 14, 2681, 2684, 6413, 6416, 7913, 7915, 9122, 9125, 11426, 11741, 12107, 15228, 15368, 15371, 15372, 15687, 16665, 17195, 17198, 17199, 17200, 18004, 18005, 18006, 18039, 18040, 18065, 18066, 18067, 18310] s175 = .ok s176 := by kernel_rfl
end Go.Proofs.YtgicpaknlgammaaGreatDoor.messageKnownRun
