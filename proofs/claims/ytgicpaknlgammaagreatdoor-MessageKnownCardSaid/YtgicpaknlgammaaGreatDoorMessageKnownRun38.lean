/- MessageKnown: the run of the closed call: stretches from 185 on, each computed by the kernel. -/
import Derived.Test.YtgicpaknlgammaaGreatDoorMessageKnownRun01
namespace Go.Proofs.YtgicpaknlgammaaGreatDoor.messageKnownRun
open Go Go.Ev Go.Proofs
set_option maxRecDepth 100000
set_option linter.unusedVariables false
theorem seg205 : chunkS Tryz.prog nest 3727 [0, 1, 3, 14, 2681, 2684, 6413, 6416, 7913, 7915, 9122, 9125, 11426, 11741, 12107, 15228, 15368, 15371, 18492, 18632, 18635, 18636, 18951, 19929, 20459, 20462, 20463, 20464, 20465, 20466, 20696, 20697, 20698, 20699, 20732, 20733, 20758, 20759, 20760, 20902, 20903, 20904, 20905, 20906, 20907] s204 = .ok s205 := by kernel_rfl
theorem seg206 : chunkS Tryz.prog nest 3773 [0, 1, 3, 14, 2681, 2684, 6413, 6416, 7913, 7915, 9122, 9125, 11426, 11741, 12107, 15228, 15368, 15371, 18492, 18632, 18635, 18636, 18951, 19929, 20459, 20462, 20463, 20464, 20465, 20466, 20696, 20697, 20698, 20699, 20732, 20733, 20758, 20759, 20760, 21003] s205 = .ok s206 := by kernel_rfl
theorem seg207 : chunkS Tryz.prog nest 4409 [0, 1, 3, 14, 2681, 2684, 6413, 6416, 7913, 7915, 9122, 9125, 11426, 11741, 12107, 15228, 15368, 15371, 18492, 18632, 18635, 18636, 18951, 19929, 20459, 20462, 20463, 20464, 20465, 20466, 20696, 20697, 20698] s206 = .ok s207 := by kernel_rfl
theorem seg208 : chunkS Tryz.prog nest 3273 [0, 1, 3, 14, 2681, 2684, 6413, 6416, 7913, 7915, 9122, 9125, 11426, 11741, 12107, 15228, 15368, 15371, 18492, 18632, 18635, 21284, 21286, 21287, 21288, 21289, 21290, 21291] s207 = .ok s208 := by kernel_rfl
theorem seg209 : chunkS Tryz.prog nest 2585 [0, 1, 3, 14, 2681, 2684, 6413, 6416, 7913, 7915, 9122, 9125, 11426, 11741, 12107, 15228, 15368, 15371, 18492, 18632, 18635, 21284, 21286, 21287] s208 = .ok s209 := by kernel_rfl
end Go.Proofs.YtgicpaknlgammaaGreatDoor.messageKnownRun
