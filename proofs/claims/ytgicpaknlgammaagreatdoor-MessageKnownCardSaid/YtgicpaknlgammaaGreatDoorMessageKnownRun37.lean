/- MessageKnown: the run of the closed call: stretches from 180 on, each computed by the kernel. -/
import Derived.Test.YtgicpaknlgammaaGreatDoorMessageKnownRun01
namespace Go.Proofs.YtgicpaknlgammaaGreatDoor.messageKnownRun
open Go Go.Ev Go.Proofs
set_option maxRecDepth 100000
set_option linter.unusedVariables false
theorem seg200 : chunkS Tryz.prog (nestX Tryz.prog x19) 1 [0, 1, 3, 14, 2681, 2684, 6413, 6416, 7913, 7915, 9122, 9125, 11426, 11741, 12107, 15228, 15368, 15371, 18492, 18632, 18635, 18636, 18951, 18952, 18953, 19438, 19470, 19471, 19472, 19473, 19478, 19487, 19929] s182 = .ok s200 := by kernel_rfl
theorem seg201 : chunkS Tryz.prog nest 2899 [0, 1, 3, 14, 2681, 2684, 6413, 6416, 7913, 7915, 9122, 9125, 11426, 11741, 12107, 15228, 15368, 15371, 18492, 18632, 18635, 18636, 18951, 19929, 20459, 20462, 20463, 20464, 20465, 20466, 20467, 20468] s200 = .ok s201 := by kernel_rfl
theorem seg202 : chunkS Tryz.prog nest 2500 [0, 1, 3, 14, 2681, 2684, 6413, 6416, 7913, 7915, 9122, 9125, 11426, 11741, 12107, 15228, 15368, 15371, 18492, 18632, 18635, 18636, 18951, 19929, 20459, 20462, 20463, 20464, 20465, 20466, 20696, 20697, 20698, 20699] s201 = .ok s202 := by kernel_rfl
theorem seg203 : chunkS Tryz.prog nest 3523 [0, 1, 3, 14, 2681, 2684, 6413, 6416, 7913, 7915, 9122, 9125, 11426, 11741, 12107, 15228, 15368, 15371, 18492, 18632, 18635, 18636, 18951, 19929, 20459, 20462, 20463, 20464, 20465, 20466, 20696, 20697, 20698, 20699, 20732, 20733, 20758, 20759, 20760] s202 = .ok s203 := by kernel_rfl
theorem seg204 : chunkS Tryz.prog nest 3537 [0, 1, 3, 14, 2681, 2684, 6413, 6416, 7913, 7915, 9122, 9125, 11426, 11741, 12107, 15228, 15368, 15371, 18492, 18632, 18635, 18636, 18951, 19929, 20459, 20462, 20463, 20464, 20465, 20466, 20696, 20697, 20698, 20699, 20732, 20733, 20758, 20759, 20760] s203 = .ok s204 := by kernel_rfl
end Go.Proofs.YtgicpaknlgammaaGreatDoor.messageKnownRun
