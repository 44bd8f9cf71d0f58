/- TJoin, part 4: what the proof needs, in the order of its texts. -/
import Derived.Test.YtibnongfdafoeaaGreatDoorTJoin3
import Derived.Test.YtibnongfdafoeaaGreatDoorRows
import Derived.KernelRfl
import Derived.Lib.LaidTab
namespace Go.Proofs.YtibnongfdafoeaaGreatDoor.tokensAwakeRun
open Go Go.Ev Go.Proofs
set_option maxRecDepth 100000
set_option linter.unusedVariables false
noncomputable abbrev nest : Nest := nestA Tryz.prog 1000000 20
noncomputable def b15 : Code := ((Tryz.f15).body).getD .skip
noncomputable def b27 : Code := ((Tryz.f27).body).getD .skip
noncomputable def b30 : Code := ((Tryz.f30).body).getD .skip
noncomputable def b80 : Code := ((Tryz.f80).body).getD .skip
noncomputable def b25 : Code := ((Tryz.f25).body).getD .skip
noncomputable def b18 : Code := ((Tryz.f18).body).getD .skip
noncomputable def b131 : Code := ((Tryz.f131).body).getD .skip
noncomputable def b144 : Code := ((Tryz.f144).body).getD .skip
noncomputable def b159 : Code := ((Tryz.f159).body).getD .skip
noncomputable def b161 : Code := ((Tryz.f161).body).getD .skip
noncomputable def b117 : Code := ((Tryz.f117).body).getD .skip
noncomputable def b60 : Code := ((Tryz.f60).body).getD .skip
noncomputable def b16 : Code := ((Tryz.f16).body).getD .skip
noncomputable def b87 : Code := ((Tryz.f87).body).getD .skip
noncomputable def b199 : Code := ((Tryz.f199).body).getD .skip
noncomputable def b135 : Code := ((Tryz.f135).body).getD .skip
noncomputable def b198 : Code := ((Tryz.f198).body).getD .skip
noncomputable def b160 : Code := ((Tryz.f160).body).getD .skip
noncomputable def b177 : Code := ((Tryz.f177).body).getD .skip
noncomputable def b141 : Code := ((Tryz.f141).body).getD .skip
noncomputable def b83 : Code := ((Tryz.f83).body).getD .skip
noncomputable def b132 : Code := ((Tryz.f132).body).getD .skip
noncomputable def b59 : Code := ((Tryz.f59).body).getD .skip
def tab : List (Nat × TypeId × List Value) := []
noncomputable def s0 : AS := ⟨⟨15, 79, .nil, [.code (codeAt b15 [])], [], .run, .normal, none⟩, [], ⟨.nil, 9⟩⟩
noncomputable def s1 : AS := ⟨⟨59, 16, (.node (some (.string ⟨⟨[115, 97, 121, 32, 34, 104, 105, 34]⟩⟩)) (.node none (.node (some (.int .i64 0)) (.node (some (.string ⟨⟨[115, 97, 121, 32, 34, 104, 105, 34]⟩⟩)) .nil .nil) (.node (some (.bool false)) .nil .nil)) (.node (some (.int .i64 8)) (.node (some (.bool false)) .nil .nil) .nil)) (.node (some (.string ⟨⟨[]⟩⟩)) (.node (some (.string ⟨⟨[115, 97, 121, 32, 34, 104, 105, 34]⟩⟩)) (.node (some (.bool true)) .nil .nil) .nil) (.node (some (.bool false)) (.node (some (.string ⟨⟨[115, 97, 121, 32, 34, 104, 105, 34]⟩⟩)) .nil .nil) .nil))), [.inRegion (opsAt b59 [1, 1, 1, 0, 0]) [], .code (codeAt b59 [1, 1, 1, 0, 1]), .code (codeAt b59 [1, 1, 1, 1])], [], .run, .normal, none⟩, [⟨15, 79, (.node (some (.bool false)) .nil .nil), [.inRegion (opsAt b15 [1, 0]) [0, 1, 2, 3, 4, 5], .code (codeAt b15 [1, 1])], [], .run, .normal, none⟩], ⟨.nil, 9⟩⟩
theorem seg0 : chunk Tryz.prog nest 1416 [] s0 = .ok s1 := by kernel_rfl
noncomputable def s2 : AS := ⟨⟨59, 16, (.node (some (.string ⟨⟨[115, 97, 121, 32, 34, 104, 105, 34]⟩⟩)) (.node none (.node (some (.int .i64 0)) (.node (some (.string ⟨⟨[115, 97, 121, 32, 34, 104, 105, 34]⟩⟩)) (.node (some (.string ⟨⟨[34, 115, 97, 121, 32, 92, 34, 104, 105, 92, 34, 34]⟩⟩)) .nil .nil) .nil) (.node (some (.bool false)) .nil .nil)) (.node (some (.int .i64 8)) (.node (some (.bool false)) .nil .nil) .nil)) (.node (some (.string ⟨⟨[]⟩⟩)) (.node (some (.string ⟨⟨[115, 97, 121, 32, 34, 104, 105, 34]⟩⟩)) (.node (some (.bool true)) .nil .nil) .nil) (.node (some (.bool false)) (.node (some (.string ⟨⟨[115, 97, 121, 32, 34, 104, 105, 34]⟩⟩)) .nil .nil) (.node (some (.string ⟨⟨[115, 97, 121, 32, 34, 104, 105, 34]⟩⟩)) .nil .nil)))), [.inRegion (opsAt b59 [1, 1, 1, 1, 0]) [2, 3], .code .ret], [], .run, .normal, none⟩, [⟨15, 79, (.node (some (.bool false)) .nil .nil), [.inRegion (opsAt b15 [1, 0]) [0, 1, 2, 3, 4, 5], .code (codeAt b15 [1, 1])], [], .run, .normal, none⟩], ⟨.nil, 46⟩⟩
theorem seg1 : chunk Tryz.prog nest 1663 [] s1 = .ok s2 := by kernel_rfl
noncomputable def s3 : AS := ⟨⟨25, 38, (.node (some (.string ⟨⟨[97, 44, 32, 44, 34, 98, 44, 99, 34, 32, 44, 44, 32, 100]⟩⟩)) (.node none (.node (some (.int .i64 0)) (.node (some (.bool true)) (.node (some (.tuple ⟨[(.int .i64 1), (.bool true)]⟩)) (.node (some (.slice (some ⟨49, 0, none⟩) 1 1)) .nil .nil) .nil) (.node (some (.int .i64 1)) .nil .nil)) (.node (some (.bool false)) (.node (some (.bool true)) (.node (some (.string ⟨⟨[44, 34, 98, 44, 99, 34, 32, 44, 44, 32, 100]⟩⟩)) .nil .nil) .nil) (.node (some (.bool false)) .nil .nil))) (.node (some (.string ⟨⟨[32, 44, 34, 98, 44, 99, 34, 32, 44, 44, 32, 100]⟩⟩)) (.node (some (.string ⟨⟨[97, 44, 32, 44, 34, 98, 44, 99, 34, 32, 44, 44, 32, 100]⟩⟩)) (.node (some (.tuple ⟨[(.int .i64 1), (.bool true)]⟩)) (.node (some (.string ⟨⟨[32, 44, 34, 98, 44, 99, 34, 32, 44, 44, 32, 100]⟩⟩)) .nil .nil) .nil) (.node (some (.string ⟨⟨[]⟩⟩)) .nil .nil)) (.node (some (.string ⟨⟨[32, 44, 34, 98, 44, 99, 34, 32, 44, 44, 32, 100]⟩⟩)) (.node (some (.bool false)) .nil .nil) (.node (some (.string ⟨⟨[97]⟩⟩)) .nil .nil)))) (.node (some (.slice none 0 0)) (.node (some (.slice (some ⟨50, 0, none⟩) 1 9223372036854775809)) (.node (some (.string ⟨⟨[]⟩⟩)) (.node (some (.string ⟨⟨[32, 44, 34, 98, 44, 99, 34, 32, 44, 44, 32, 100]⟩⟩)) (.node (some (.slice (some ⟨50, 0, none⟩) 1 9223372036854775809)) .nil .nil) .nil) (.node (some (.string ⟨⟨[32]⟩⟩)) .nil .nil)) (.node (some (.string ⟨⟨[97, 44, 32, 44, 34, 98, 44, 99, 34, 32, 44, 44, 32, 100]⟩⟩)) (.node (some (.bool true)) (.node (some (.string ⟨⟨[34, 98, 44, 99, 34, 32, 44, 44, 32, 100]⟩⟩)) .nil .nil) .nil) (.node (some (.slice none 0 0)) .nil .nil))) (.node (some (.int .i64 1)) (.node (some (.int .i64 14)) (.node (some (.int .i64 1)) (.node (some (.int .i64 1)) .nil .nil) .nil) (.node (some (.string ⟨⟨[]⟩⟩)) .nil .nil)) (.node (some (.bool true)) (.node (some (.string ⟨⟨[32, 44, 34, 98, 44, 99, 34, 32, 44, 44, 32, 100]⟩⟩)) .nil .nil) (.node (some (.string ⟨⟨[97]⟩⟩)) .nil .nil))))), [.inRegion (opsAt b25 [1, 1, 1, 0, 1, 0, 0, 1, 0, 1, 1, 1]) [4], .inBlock 1, .inLoop (codeAt b25 [1, 1, 1, 0, 1, 0, 0]), .inBlock 0, .code (codeAt b25 [1, 1, 1, 1])], [], .run, .normal, none⟩, [⟨15, 79, (.node (some (.bool false)) (.node (some (.string ⟨⟨[34, 115, 97, 121, 32, 92, 34, 104, 105, 92, 34, 34]⟩⟩)) (.node none (.node none (.node (some (.int .i64 0)) .nil .nil) .nil) .nil) (.node none .nil (.node (some (.tuple ⟨[(.string ⟨⟨[34, 115, 97, 121, 32, 92, 34, 104, 105, 92, 34, 34]⟩⟩), (.int .i64 0)]⟩)) .nil .nil))) (.node (some (.int .i64 0)) (.node none .nil (.node (some (.tuple ⟨[(.string ⟨⟨[34, 115, 97, 121, 32, 92, 34, 104, 105, 92, 34, 34]⟩⟩), (.int .i64 0)]⟩)) .nil .nil)) (.node none .nil (.node (some (.string ⟨⟨[34, 115, 97, 121, 32, 92, 34, 104, 105, 92, 34, 34]⟩⟩)) .nil .nil)))), [.inRegion (opsAt b15 [1, 1, 0]) [0, 1, 2, 3, 4, 5], .code (codeAt b15 [1, 1, 1])], [], .run, .normal, none⟩], ⟨(.node none (.node none .nil (.node none (.node none (.node none .nil (.node (some (.cells 9 [(.string ⟨⟨[97]⟩⟩)] true 2)) .nil .nil)) .nil) .nil)) (.node none .nil (.node none (.node none (.node none .nil (.node (some (.cells 9 [(.string ⟨⟨[97]⟩⟩)] false 2)) .nil .nil)) .nil) .nil))), 53⟩⟩
theorem seg2 : chunk Tryz.prog nest 1236 [49, 50] s2 = .ok s3 := by kernel_rfl
noncomputable def s4 : AS := ⟨⟨25, 38, (.node (some (.string ⟨⟨[97, 44, 32, 44, 34, 98, 44, 99, 34, 32, 44, 44, 32, 100]⟩⟩)) (.node none (.node (some (.int .i64 0)) (.node (some (.bool true)) (.node (some (.tuple ⟨[(.int .i64 6), (.bool true)]⟩)) (.node (some (.slice (some ⟨49, 0, none⟩) 1 1)) .nil .nil) .nil) (.node (some (.int .i64 6)) .nil .nil)) (.node (some (.bool false)) (.node (some (.bool true)) (.node (some (.string ⟨⟨[44, 34, 98, 44, 99, 34, 32, 44, 44, 32, 100]⟩⟩)) .nil .nil) .nil) (.node (some (.bool false)) .nil .nil))) (.node (some (.string ⟨⟨[34, 98, 44, 99, 34, 32, 44, 44, 32, 100]⟩⟩)) (.node (some (.string ⟨⟨[97, 44, 32, 44, 34, 98, 44, 99, 34, 32, 44, 44, 32, 100]⟩⟩)) (.node (some (.tuple ⟨[(.int .i64 6), (.bool true)]⟩)) (.node (some (.string ⟨⟨[32, 44, 34, 98, 44, 99, 34, 32, 44, 44, 32, 100]⟩⟩)) .nil .nil) .nil) (.node (some (.string ⟨⟨[34, 98, 44, 99, 34]⟩⟩)) .nil .nil)) (.node (some (.string ⟨⟨[34, 98, 44, 99, 34, 32, 44, 44, 32, 100]⟩⟩)) (.node (some (.bool false)) .nil .nil) (.node (some (.string ⟨⟨[97]⟩⟩)) .nil .nil)))) (.node (some (.slice none 0 0)) (.node (some (.slice (some ⟨50, 0, none⟩) 1 9223372036854775809)) (.node (some (.string ⟨⟨[]⟩⟩)) (.node (some (.string ⟨⟨[34, 98, 44, 99, 34, 32, 44, 44, 32, 100]⟩⟩)) (.node (some (.slice (some ⟨50, 0, none⟩) 1 9223372036854775809)) .nil .nil) .nil) (.node (some (.string ⟨⟨[34, 98, 44, 99, 34, 32]⟩⟩)) .nil .nil)) (.node (some (.string ⟨⟨[97, 44, 32, 44, 34, 98, 44, 99, 34, 32, 44, 44, 32, 100]⟩⟩)) (.node (some (.bool true)) (.node (some (.string ⟨⟨[34, 98, 44, 99, 34, 32, 44, 44, 32, 100]⟩⟩)) .nil .nil) .nil) (.node (some (.slice none 0 0)) .nil .nil))) (.node (some (.int .i64 6)) (.node (some (.int .i64 14)) (.node (some (.int .i64 6)) (.node (some (.int .i64 1)) .nil .nil) .nil) (.node (some (.string ⟨⟨[]⟩⟩)) .nil .nil)) (.node (some (.bool true)) (.node (some (.string ⟨⟨[34, 98, 44, 99, 34, 32, 44, 44, 32, 100]⟩⟩)) .nil .nil) (.node (some (.string ⟨⟨[97]⟩⟩)) .nil .nil))))), [.inRegion (opsAt b25 [1, 1, 1, 0, 1, 0, 0, 1, 0, 1, 1, 0, 0]) [4], .code (codeAt b25 [1, 1, 1, 0, 1, 0, 0, 1, 0, 1, 1, 0, 1]), .code (codeAt b25 [1, 1, 1, 0, 1, 0, 0, 1, 0, 1, 1, 1]), .inBlock 1, .inLoop (codeAt b25 [1, 1, 1, 0, 1, 0, 0]), .inBlock 0, .code (codeAt b25 [1, 1, 1, 1])], [], .run, .normal, none⟩, [⟨15, 79, (.node (some (.bool false)) (.node (some (.string ⟨⟨[34, 115, 97, 121, 32, 92, 34, 104, 105, 92, 34, 34]⟩⟩)) (.node none (.node none (.node (some (.int .i64 0)) .nil .nil) .nil) .nil) (.node none .nil (.node (some (.tuple ⟨[(.string ⟨⟨[34, 115, 97, 121, 32, 92, 34, 104, 105, 92, 34, 34]⟩⟩), (.int .i64 0)]⟩)) .nil .nil))) (.node (some (.int .i64 0)) (.node none .nil (.node (some (.tuple ⟨[(.string ⟨⟨[34, 115, 97, 121, 32, 92, 34, 104, 105, 92, 34, 34]⟩⟩), (.int .i64 0)]⟩)) .nil .nil)) (.node none .nil (.node (some (.string ⟨⟨[34, 115, 97, 121, 32, 92, 34, 104, 105, 92, 34, 34]⟩⟩)) .nil .nil)))), [.inRegion (opsAt b15 [1, 1, 0]) [0, 1, 2, 3, 4, 5], .code (codeAt b15 [1, 1, 1])], [], .run, .normal, none⟩], ⟨(.node none (.node none .nil (.node none (.node none (.node none .nil (.node (some (.cells 9 [(.string ⟨⟨[97]⟩⟩)] true 2)) .nil .nil)) .nil) .nil)) (.node none .nil (.node none (.node none (.node none .nil (.node (some (.cells 9 [(.string ⟨⟨[97]⟩⟩)] false 2)) .nil .nil)) .nil) .nil))), 74⟩⟩
theorem seg3 : chunk Tryz.prog nest 1303 [49, 50] s3 = .ok s4 := by kernel_rfl
noncomputable def s5 : AS := ⟨⟨131, 32, (.node (some (.int .u8 34)) (.node none (.node (some (.int .u8 34)) (.node (some (.bool true)) .nil .nil) .nil) (.node (some (.bool false)) .nil .nil)) (.node (some (.int .i64 0)) (.node (some (.bool false)) (.node (some (.bool true)) .nil .nil) .nil) (.node (some (.bool false)) .nil .nil))), [.inRegion (opsAt b131 [1, 0, 1, 0, 1, 1, 1, 0, 0]) [0], .code .ret, .inBlock 0, .code (codeAt b131 [1, 1])], [], .run, .normal, none⟩, [⟨80, 36, (.node (some (.string ⟨⟨[97, 59, 81, 61, 49, 59, 32, 120, 61, 34, 121, 59, 122, 34, 44, 32, 98]⟩⟩)) (.node none (.node (some (.bool false)) (.node (some (.string ⟨⟨[97, 59, 81, 61, 49, 59, 32, 120, 61, 34, 121, 59, 122, 34, 44, 32, 98]⟩⟩)) (.node (some (.int .i64 9)) .nil .nil) .nil) (.node (some (.int .i64 9)) (.node (some (.bool false)) .nil .nil) .nil)) (.node none (.node (some (.bool true)) (.node (some (.bool false)) .nil .nil) .nil) (.node (some (.int .i64 7)) (.node (some (.bool false)) .nil .nil) .nil))) (.node (some (.int .i64 9)) (.node none (.node (some (.int .i64 17)) (.node (some (.bool false)) .nil .nil) .nil) (.node (some (.int .u8 34)) (.node (some (.bool false)) .nil .nil) .nil)) (.node (some (.int .i64 9)) (.node (some (.string ⟨⟨[97, 59, 81, 61, 49, 59, 32, 120, 61, 34, 121, 59, 122, 34, 44, 32, 98]⟩⟩)) .nil .nil) (.node (some (.int .i64 8)) (.node (some (.bool false)) .nil .nil) .nil)))), [.inRegion (opsAt b80 [1, 0, 0, 0, 1, 0, 0]) [3], .code (codeAt b80 [1, 0, 0, 0, 1, 0, 1]), .inBlock 1, .inLoop (codeAt b80 [1, 0, 0, 0]), .inBlock 0, .code (codeAt b80 [1, 1])], [], .run, .normal, none⟩, ⟨25, 38, (.node (some (.string ⟨⟨[97, 59, 81, 61, 49, 59, 32, 120, 61, 34, 121, 59, 122, 34, 44, 32, 98]⟩⟩)) (.node none (.node (some (.int .i64 0)) .nil (.node (some (.bool false)) .nil .nil)) (.node (some (.string ⟨⟨[97, 59, 81, 61, 49, 59, 32, 120, 61, 34, 121, 59, 122, 34, 44, 32, 98]⟩⟩)) (.node (some (.string ⟨⟨[97, 59, 81, 61, 49, 59, 32, 120, 61, 34, 121, 59, 122, 34, 44, 32, 98]⟩⟩)) .nil .nil) (.node (some (.string ⟨⟨[97, 59, 81, 61, 49, 59, 32, 120, 61, 34, 121, 59, 122, 34, 44, 32, 98]⟩⟩)) .nil .nil))) (.node (some (.slice none 0 0)) (.node (some (.slice none 0 0)) (.node none (.node (some (.string ⟨⟨[97, 59, 81, 61, 49, 59, 32, 120, 61, 34, 121, 59, 122, 34, 44, 32, 98]⟩⟩)) .nil .nil) .nil) (.node (some (.string ⟨⟨[97, 59, 81, 61, 49, 59, 32, 120, 61, 34, 121, 59, 122, 34, 44, 32, 98]⟩⟩)) .nil .nil)) (.node none (.node (some (.int .i64 17)) .nil .nil) (.node (some (.bool true)) .nil .nil)))), [.inRegion (opsAt b25 [1, 1, 1, 0, 1, 0, 0, 1, 0, 0]) [1, 2, 3, 4, 5, 6], .code (codeAt b25 [1, 1, 1, 0, 1, 0, 0, 1, 0, 1]), .inBlock 1, .inLoop (codeAt b25 [1, 1, 1, 0, 1, 0, 0]), .inBlock 0, .code (codeAt b25 [1, 1, 1, 1])], [], .run, .normal, none⟩, ⟨16, 42, (.node (some (.string ⟨⟨[97, 59, 81, 61, 49, 59, 32, 120, 61, 34, 121, 59, 122, 34, 44, 32, 98]⟩⟩)) (.node none (.node (some (.int .i64 0)) .nil .nil) .nil) (.node (some (.slice none 0 0)) (.node none .nil (.node (some (.string ⟨⟨[97, 59, 81, 61, 49, 59, 32, 120, 61, 34, 121, 59, 122, 34, 44, 32, 98]⟩⟩)) .nil .nil)) .nil)), [.inRegion (opsAt b16 [1, 0]) [1, 2, 3, 4, 5, 6], .code (codeAt b16 [1, 1])], [], .run, .normal, none⟩, ⟨15, 79, (.node (some (.bool false)) (.node (some (.string ⟨⟨[34, 115, 97, 121, 32, 92, 34, 104, 105, 92, 34, 34]⟩⟩)) (.node (some (.slice (some ⟨81, 0, none⟩) 3 9223372036854775809)) (.node none (.node (some (.int .i64 0)) .nil .nil) .nil) (.node none (.node (some (.int .i64 0)) .nil .nil) .nil)) (.node none (.node none (.node (some (.tuple ⟨[(.slice (some ⟨81, 0, none⟩) 3 9223372036854775809), (.int .i64 0)]⟩)) .nil .nil) .nil) (.node (some (.tuple ⟨[(.string ⟨⟨[34, 115, 97, 121, 32, 92, 34, 104, 105, 92, 34, 34]⟩⟩), (.int .i64 0)]⟩)) .nil .nil))) (.node (some (.int .i64 0)) (.node (some (.int .i64 0)) (.node none (.node (some (.tuple ⟨[(.slice (some ⟨81, 0, none⟩) 3 9223372036854775809), (.int .i64 0)]⟩)) .nil .nil) .nil) (.node (some (.tuple ⟨[(.string ⟨⟨[34, 115, 97, 121, 32, 92, 34, 104, 105, 92, 34, 34]⟩⟩), (.int .i64 0)]⟩)) .nil .nil)) (.node none (.node none (.node (some (.slice (some ⟨81, 0, none⟩) 3 9223372036854775809)) .nil .nil) .nil) (.node (some (.string ⟨⟨[34, 115, 97, 121, 32, 92, 34, 104, 105, 92, 34, 34]⟩⟩)) .nil .nil)))), [.inRegion (opsAt b15 [1, 1, 1, 0]) [0, 1, 2, 3, 4, 5], .code (codeAt b15 [1, 1, 1, 1])], [], .run, .normal, none⟩], ⟨(.node none (.node none .nil (.node none (.node none (.node none .nil (.node none (.node (some (.cells 9 [(.string ⟨⟨[97]⟩⟩), (.string ⟨⟨[34, 98, 44, 99, 34]⟩⟩), (.string ⟨⟨[100]⟩⟩)] false 2)) .nil .nil) .nil)) .nil) .nil)) .nil), 82⟩⟩
theorem seg4 : chunk Tryz.prog nest 2500 [81] s4 = .ok s5 := by kernel_rfl
noncomputable def s6 : AS := ⟨⟨16, 42, (.node (some (.string ⟨⟨[97, 59, 81, 61, 49, 59, 32, 120, 61, 34, 121, 59, 122, 34, 44, 32, 98]⟩⟩)) (.node none (.node (some (.int .i64 0)) .nil .nil) (.node none .nil (.node (some (.tuple ⟨[(.slice (some ⟨110, 0, none⟩) 2 9223372036854775809), (.int .i64 0)]⟩)) .nil .nil))) (.node (some (.slice none 0 0)) (.node none .nil (.node (some (.string ⟨⟨[97, 59, 81, 61, 49, 59, 32, 120, 61, 34, 121, 59, 122, 34, 44, 32, 98]⟩⟩)) .nil .nil)) .nil)), [.inRegion (opsAt b16 [1, 0]) [2, 3, 4, 5, 6], .code (codeAt b16 [1, 1])], [], .run, .normal, none⟩, [⟨15, 79, (.node (some (.bool false)) (.node (some (.string ⟨⟨[34, 115, 97, 121, 32, 92, 34, 104, 105, 92, 34, 34]⟩⟩)) (.node (some (.slice (some ⟨81, 0, none⟩) 3 9223372036854775809)) (.node none (.node (some (.int .i64 0)) .nil .nil) .nil) (.node none (.node (some (.int .i64 0)) .nil .nil) .nil)) (.node none (.node none (.node (some (.tuple ⟨[(.slice (some ⟨81, 0, none⟩) 3 9223372036854775809), (.int .i64 0)]⟩)) .nil .nil) .nil) (.node (some (.tuple ⟨[(.string ⟨⟨[34, 115, 97, 121, 32, 92, 34, 104, 105, 92, 34, 34]⟩⟩), (.int .i64 0)]⟩)) .nil .nil))) (.node (some (.int .i64 0)) (.node (some (.int .i64 0)) (.node none (.node (some (.tuple ⟨[(.slice (some ⟨81, 0, none⟩) 3 9223372036854775809), (.int .i64 0)]⟩)) .nil .nil) .nil) (.node (some (.tuple ⟨[(.string ⟨⟨[34, 115, 97, 121, 32, 92, 34, 104, 105, 92, 34, 34]⟩⟩), (.int .i64 0)]⟩)) .nil .nil)) (.node none (.node none (.node (some (.slice (some ⟨81, 0, none⟩) 3 9223372036854775809)) .nil .nil) .nil) (.node (some (.string ⟨⟨[34, 115, 97, 121, 32, 92, 34, 104, 105, 92, 34, 34]⟩⟩)) .nil .nil)))), [.inRegion (opsAt b15 [1, 1, 1, 0]) [0, 1, 2, 3, 4, 5], .code (codeAt b15 [1, 1, 1, 1])], [], .run, .normal, none⟩], ⟨(.node none (.node none .nil (.node none (.node none (.node none .nil (.node none (.node (some (.cells 9 [(.string ⟨⟨[97]⟩⟩), (.string ⟨⟨[34, 98, 44, 99, 34]⟩⟩), (.string ⟨⟨[100]⟩⟩)] false 2)) .nil .nil) .nil)) .nil) .nil)) (.node none .nil (.node none .nil (.node none .nil (.node none (.node none .nil (.node (some (.cells 9 [(.string ⟨⟨[97, 59, 81, 61, 49, 59, 32, 120, 61, 34, 121, 59, 122, 34]⟩⟩), (.string ⟨⟨[98]⟩⟩)] false 2)) .nil .nil)) .nil))))), 111⟩⟩
theorem seg5 : chunk Tryz.prog nest 1987 [81, 110] s5 = .ok s6 := by kernel_rfl
noncomputable def s7 : AS := ⟨⟨131, 32, (.node (some (.int .u8 59)) (.node none (.node (some (.int .u8 59)) .nil .nil) .nil) (.node (some (.int .i64 0)) .nil .nil)), [.code (codeAt b131 [1, 0, 1, 0, 0, 0]), .code (codeAt b131 [1, 0, 1, 0, 0, 1]), .code (codeAt b131 [1, 0, 1, 0, 1]), .inBlock 0, .code (codeAt b131 [1, 1])], [], .run, .normal, none⟩, [⟨144, 18, (.node (some (.string ⟨⟨[49, 59, 32, 120, 61, 34, 121, 59, 122, 34]⟩⟩)) (.node none (.node (some (.int .i64 1)) (.node (some (.bool true)) (.node (some (.int .i64 0)) .nil .nil) .nil) (.node (some (.int .u8 59)) .nil .nil)) (.node (some (.string ⟨⟨[49, 59, 32, 120, 61, 34, 121, 59, 122, 34]⟩⟩)) (.node (some (.string ⟨⟨[49, 59, 32, 120, 61, 34, 121, 59, 122, 34]⟩⟩)) .nil .nil) (.node (some (.bool true)) .nil .nil))) (.node (some (.int .i64 0)) (.node (some (.int .i64 1)) (.node (some (.bool true)) (.node (some (.int .i64 1)) .nil .nil) .nil) (.node (some (.int .i64 1)) .nil .nil)) (.node (some (.int .i64 10)) (.node (some (.int .i64 1)) .nil .nil) (.node (some (.bool true)) .nil .nil)))), [.inRegion (opsAt b144 [1, 1, 0, 0, 0, 0, 0]) [8, 9, 10], .code (codeAt b144 [1, 1, 0, 0, 0, 0, 1]), .code (codeAt b144 [1, 1, 0, 0, 0, 1]), .inLoop (codeAt b144 [1, 1, 0, 0, 0]), .inBlock 0, .code (codeAt b144 [1, 1, 1])], [], .run, .normal, none⟩, ⟨159, 30, (.node (some (.pointer (some ⟨113, 0, none⟩))) (.node none (.node (some (.bool false)) (.node (some (.pointer (some ⟨113, 0, none⟩))) .nil .nil) .nil) (.node none (.node (some (.string ⟨⟨[49, 59, 32, 120, 61, 34, 121, 59, 122, 34]⟩⟩)) .nil .nil) .nil)) (.node (some (.string ⟨⟨[]⟩⟩)) (.node none (.node (some (.pointer (some ⟨113, 0, none⟩))) .nil .nil) .nil) (.node (some (.pointer (some ⟨113, 0, none⟩))) .nil .nil))), [.inRegion (opsAt b159 [1, 0]) [4, 5], .code (codeAt b159 [1, 1])], [], .run, .normal, none⟩, ⟨199, 44, (.node (some (.pointer (some ⟨113, 0, none⟩))) (.node none (.node (some (.bool false)) (.node (some (.pointer (some ⟨113, 0, none⟩))) (.node (some (.string ⟨⟨[49, 59, 32, 120, 61, 34, 121, 59, 122, 34]⟩⟩)) .nil .nil) .nil) (.node (some (.bool false)) (.node (some (.bool true)) .nil .nil) .nil)) (.node none (.node (some (.string ⟨⟨[49, 59, 32, 120, 61, 34, 121, 59, 122, 34]⟩⟩)) (.node (some (.int .i64 1)) .nil .nil) .nil) (.node (some (.pointer (some ⟨113, 0, none⟩))) .nil .nil))) (.node (some (.string ⟨⟨[]⟩⟩)) (.node none (.node (some (.pointer (some ⟨113, 0, none⟩))) (.node (some (.int .u8 49)) .nil .nil) .nil) (.node (some (.pointer (some ⟨113, 0, none⟩))) (.node (some (.pointer (some ⟨113, 0, none⟩))) .nil .nil) .nil)) (.node (some (.pointer (some ⟨113, 0, none⟩))) (.node (some (.bool false)) (.node (some (.bool true)) .nil .nil) .nil) (.node (some (.pointer (some ⟨113, 0, none⟩))) .nil .nil)))), [.inRegion (opsAt b199 [1, 0, 1, 0, 0]) [1, 2, 3, 4, 5], .code .ret, .code (codeAt b199 [1, 1])], [], .run, .normal, none⟩, ⟨161, 38, (.node (some (.pointer (some ⟨113, 0, none⟩))) (.node none (.node (some (.bool true)) (.node (some (.tuple ⟨[(.string ⟨⟨[81]⟩⟩), (.bool true)]⟩)) (.node (some (.pointer (some ⟨119, 0, none⟩))) (.node (some (.pointer (some ⟨113, 0, none⟩))) .nil .nil) .nil) (.node (some (.string ⟨⟨[49, 59, 32, 120, 61, 34, 121, 59, 122, 34]⟩⟩)) .nil .nil)) (.node (some (.bool false)) (.node (some (.pointer (some ⟨113, 0, none⟩))) .nil .nil) (.node (some (.bool true)) .nil .nil))) (.node (some (.tuple ⟨[(.string ⟨⟨[81]⟩⟩), (.bool true)]⟩)) (.node (some (.bool true)) (.node (some (.pointer (some ⟨113, 0, none⟩))) .nil .nil) (.node (some (.pointer (some ⟨113, 0, none⟩))) .nil .nil)) (.node (some (.string ⟨⟨[81]⟩⟩)) (.node (some (.string ⟨⟨[61, 49, 59, 32, 120, 61, 34, 121, 59, 122, 34]⟩⟩)) .nil .nil) .nil))) (.node (some (.pointer (some ⟨119, 0, none⟩))) (.node (some (.string ⟨⟨[81]⟩⟩)) (.node (some (.string ⟨⟨[81]⟩⟩)) (.node (some (.tuple ⟨[(.string ⟨⟨[49, 59, 32, 120, 61, 34, 121, 59, 122, 34]⟩⟩), (.bool true)]⟩)) .nil .nil) (.node (some (.bool true)) .nil .nil)) (.node none (.node (some (.pointer (some ⟨113, 0, none⟩))) .nil .nil) (.node (some (.bool false)) .nil .nil))) (.node (some (.pointer (some ⟨113, 0, none⟩))) (.node (some (.bool true)) (.node (some (.pointer (some ⟨113, 0, none⟩))) .nil .nil) (.node (some (.pointer (some ⟨113, 0, none⟩))) .nil .nil)) (.node (some (.string ⟨⟨[113]⟩⟩)) (.node (some (.tuple ⟨[(.string ⟨⟨[49, 59, 32, 120, 61, 34, 121, 59, 122, 34]⟩⟩), (.bool true)]⟩)) .nil .nil) .nil)))), [.inRegion (opsAt b161 [1, 1, 1, 1, 1, 0]) [1, 2, 3, 4, 5, 6, 7], .code (codeAt b161 [1, 1, 1, 1, 1, 1])], [], .run, .normal, none⟩, ⟨117, 47, (.node (some (.string ⟨⟨[97, 59, 81, 61, 49, 59, 32, 120, 61, 34, 121, 59, 122, 34]⟩⟩)) (.node none (.node (some (.bool true)) (.node (some (.string ⟨⟨[97, 59, 81, 61, 49, 59, 32, 120, 61, 34, 121, 59, 122, 34]⟩⟩)) (.node (some (.bool false)) (.node (some (.bool false)) .nil .nil) .nil) (.node (some (.pointer (some ⟨113, 0, none⟩))) .nil .nil)) (.node (some (.string ⟨⟨[97]⟩⟩)) (.node (some (.bool true)) .nil .nil) (.node (some (.pointer (some ⟨113, 0, none⟩))) .nil .nil))) (.node none (.node (some (.tuple ⟨[(.string ⟨⟨[97]⟩⟩), (.bool true)]⟩)) (.node (some (.pointer (some ⟨113, 0, none⟩))) .nil .nil) (.node (some (.bool false)) .nil .nil)) (.node (some (.pointer (some ⟨112, 0, none⟩))) (.node (some (.bool false)) .nil .nil) (.node (some (.int .u8 81)) .nil .nil)))) (.node (some (.pointer (some ⟨112, 0, none⟩))) (.node (some (.pointer (some ⟨113, 0, none⟩))) (.node (some (.agg ⟨[(.string ⟨⟨[97, 59, 81, 61, 49, 59, 32, 120, 61, 34, 121, 59, 122, 34]⟩⟩)]⟩)) (.node none (.node (some (.bool false)) .nil .nil) .nil) (.node (some (.string ⟨⟨[81, 61, 49, 59, 32, 120, 61, 34, 121, 59, 122, 34]⟩⟩)) .nil .nil)) (.node (some (.bool true)) (.node (some (.bool true)) .nil .nil) (.node (some (.string ⟨⟨[81, 61, 49, 59, 32, 120, 61, 34, 121, 59, 122, 34]⟩⟩)) .nil .nil))) (.node none (.node (some (.tuple ⟨[(.string ⟨⟨[97]⟩⟩), (.bool true)]⟩)) (.node (some (.string ⟨⟨[59, 81, 61, 49, 59, 32, 120, 61, 34, 121, 59, 122, 34]⟩⟩)) .nil .nil) (.node (some (.bool false)) .nil .nil)) (.node (some (.bool true)) .nil (.node (some (.int .i64 1)) .nil .nil))))), [.inRegion (opsAt b117 [1, 1, 1, 0, 0, 0, 1, 0, 1, 1, 0]) [0, 1, 2, 3, 4, 5, 6], .code (codeAt b117 [1, 1, 1, 0, 0, 0, 1, 0, 1, 1, 1]), .inBlock 1, .inLoop (codeAt b117 [1, 1, 1, 0, 0, 0]), .inBlock 0, .code (codeAt b117 [1, 1, 1, 1])], [], .run, .normal, none⟩, ⟨60, 26, (.node (some (.string ⟨⟨[97, 59, 81, 61, 49, 59, 32, 120, 61, 34, 121, 59, 122, 34]⟩⟩)) (.node none (.node (some (.int .i64 0)) (.node (some (.string ⟨⟨[97, 59, 81, 61, 49, 59, 32, 120, 61, 34, 121, 59, 122, 34]⟩⟩)) .nil .nil) .nil) .nil) (.node (some (.pointer (some ⟨111, 0, none⟩))) .nil .nil)), [.inRegion (opsAt b60 [1, 0]) [1, 2, 3, 4, 5, 6, 7], .code (codeAt b60 [1, 1])], [], .run, .normal, none⟩, ⟨16, 42, (.node (some (.string ⟨⟨[97, 59, 81, 61, 49, 59, 32, 120, 61, 34, 121, 59, 122, 34, 44, 32, 98]⟩⟩)) (.node none (.node (some (.int .i64 0)) (.node none (.node (some (.int .i64 0)) .nil .nil) (.node (some (.int .i64 2)) .nil .nil)) (.node (some (.tuple ⟨[(.slice (some ⟨110, 0, none⟩) 2 9223372036854775809), (.int .i64 0)]⟩)) (.node (some (.slice (some ⟨110, 0, none⟩) 2 9223372036854775809)) .nil .nil) (.node (some (.string ⟨⟨[97, 59, 81, 61, 49, 59, 32, 120, 61, 34, 121, 59, 122, 34]⟩⟩)) .nil .nil))) (.node (some (.int .i64 0)) (.node none (.node (some (.bool false)) .nil .nil) (.node (some (.bool true)) .nil .nil)) (.node (some (.tuple ⟨[(.slice (some ⟨110, 0, none⟩) 2 9223372036854775809), (.int .i64 0)]⟩)) (.node (some (.bool false)) .nil .nil) (.node (some (.string ⟨⟨[97, 59, 81, 61, 49, 59, 32, 120, 61, 34, 121, 59, 122, 34]⟩⟩)) .nil .nil)))) (.node (some (.slice none 0 0)) (.node (some (.slice (some ⟨110, 0, none⟩) 2 9223372036854775809)) (.node (some (.string ⟨⟨[97, 59, 81, 61, 49, 59, 32, 120, 61, 34, 121, 59, 122, 34]⟩⟩)) (.node (some (.int .i64 0)) .nil .nil) (.node (some (.int .i64 0)) .nil .nil)) (.node (some (.string ⟨⟨[97, 59, 81, 61, 49, 59, 32, 120, 61, 34, 121, 59, 122, 34, 44, 32, 98]⟩⟩)) (.node (some (.int .i64 2)) .nil .nil) .nil)) (.node (some (.slice none 0 0)) (.node none .nil (.node (some (.pointer (some ⟨110, 0, none⟩))) .nil .nil)) (.node (some (.slice (some ⟨110, 0, none⟩) 2 9223372036854775809)) (.node (some (.slice (some ⟨110, 0, none⟩) 2 9223372036854775809)) .nil .nil) .nil)))), [.inRegion (opsAt b16 [1, 1, 1, 1, 1, 0, 1, 0, 0, 1, 1, 0, 0, 1, 0]) [1, 2, 3, 4, 5, 6, 7], .code (codeAt b16 [1, 1, 1, 1, 1, 0, 1, 0, 0, 1, 1, 0, 0, 1, 1]), .inBlock 1, .code (codeAt b16 [1, 1, 1, 1, 1, 0, 1, 0, 0, 1, 1, 1]), .inLoop (codeAt b16 [1, 1, 1, 1, 1, 0, 1, 0, 0]), .inBlock 0, .code (codeAt b16 [1, 1, 1, 1, 1, 1])], [], .run, .normal, none⟩, ⟨15, 79, (.node (some (.bool false)) (.node (some (.string ⟨⟨[34, 115, 97, 121, 32, 92, 34, 104, 105, 92, 34, 34]⟩⟩)) (.node (some (.slice (some ⟨81, 0, none⟩) 3 9223372036854775809)) (.node none (.node (some (.int .i64 0)) .nil .nil) .nil) (.node none (.node (some (.int .i64 0)) .nil .nil) .nil)) (.node none (.node none (.node (some (.tuple ⟨[(.slice (some ⟨81, 0, none⟩) 3 9223372036854775809), (.int .i64 0)]⟩)) .nil .nil) .nil) (.node (some (.tuple ⟨[(.string ⟨⟨[34, 115, 97, 121, 32, 92, 34, 104, 105, 92, 34, 34]⟩⟩), (.int .i64 0)]⟩)) .nil .nil))) (.node (some (.int .i64 0)) (.node (some (.int .i64 0)) (.node none (.node (some (.tuple ⟨[(.slice (some ⟨81, 0, none⟩) 3 9223372036854775809), (.int .i64 0)]⟩)) .nil .nil) .nil) (.node (some (.tuple ⟨[(.string ⟨⟨[34, 115, 97, 121, 32, 92, 34, 104, 105, 92, 34, 34]⟩⟩), (.int .i64 0)]⟩)) .nil .nil)) (.node none (.node none (.node (some (.slice (some ⟨81, 0, none⟩) 3 9223372036854775809)) .nil .nil) .nil) (.node (some (.string ⟨⟨[34, 115, 97, 121, 32, 92, 34, 104, 105, 92, 34, 34]⟩⟩)) .nil .nil)))), [.inRegion (opsAt b15 [1, 1, 1, 0]) [0, 1, 2, 3, 4, 5], .code (codeAt b15 [1, 1, 1, 1])], [], .run, .normal, none⟩], ⟨(.node none (.node none (.node none (.node none (.node none .nil (.node none .nil (.node (some (.cells 46 [(.string ⟨⟨[]⟩⟩), (.slice none 0 0)] true 2)) .nil .nil))) (.node none .nil (.node none .nil (.node (some (.cells 53 [(.string ⟨⟨[113]⟩⟩), (.string ⟨⟨[]⟩⟩)] true 2)) .nil .nil)))) .nil) (.node none (.node none (.node none .nil (.node none (.node (some (.cells 9 [(.string ⟨⟨[97]⟩⟩), (.string ⟨⟨[34, 98, 44, 99, 34]⟩⟩), (.string ⟨⟨[100]⟩⟩)] false 2)) .nil .nil) (.node (some (.cells 172 [(.string ⟨⟨[49, 59, 32, 120, 61, 34, 121, 59, 122, 34]⟩⟩)] true 2)) .nil .nil))) .nil) .nil)) (.node none (.node none (.node none (.node none .nil (.node none .nil (.node (some (.cells 46 [(.string ⟨⟨[97]⟩⟩), (.slice none 0 0)] true 2)) .nil .nil))) .nil) .nil) (.node none .nil (.node none .nil (.node none (.node none .nil (.node (some (.cells 9 [(.string ⟨⟨[97, 59, 81, 61, 49, 59, 32, 120, 61, 34, 121, 59, 122, 34]⟩⟩), (.string ⟨⟨[98]⟩⟩)] false 2)) .nil .nil)) .nil))))), 136⟩⟩
theorem seg6 : chunk Tryz.prog nest 2500 [81, 110, 111, 112, 113, 119] s6 = .ok s7 := by kernel_rfl
noncomputable def s8 : AS := ⟨⟨131, 32, (.node (some (.int .u8 122)) (.node none (.node (some (.int .u8 122)) (.node (some (.bool false)) .nil .nil) .nil) (.node (some (.bool false)) (.node (some (.bool false)) .nil .nil) .nil)) (.node (some (.int .i64 0)) (.node (some (.bool false)) (.node (some (.bool false)) .nil .nil) .nil) (.node (some (.bool false)) (.node (some (.bool false)) .nil .nil) .nil))), [.code (codeAt b131 [1, 0, 1, 0, 1, 1, 1, 1, 1, 1, 0]), .code (codeAt b131 [1, 0, 1, 0, 1, 1, 1, 1, 1, 1, 1]), .inBlock 0, .code (codeAt b131 [1, 1])], [], .run, .normal, none⟩, [⟨132, 42, (.node (some (.string ⟨⟨[34, 121, 59, 122, 34]⟩⟩)) (.node none (.node (some (.int .i64 0)) (.node (some (.int .i64 3)) (.node (some (.int .i64 6)) .nil .nil) (.node (some (.bool false)) .nil .nil)) (.node (some (.bool false)) (.node (some (.bool false)) .nil .nil) (.node (some (.int .u8 59)) .nil .nil))) (.node (some (.int .i64 3)) (.node (some (.string ⟨⟨[34, 121, 59, 122, 34]⟩⟩)) (.node (some (.bool false)) .nil .nil) (.node (some (.string ⟨⟨[34, 121, 59, 122, 34]⟩⟩)) .nil .nil)) (.node (some (.int .i64 3)) .nil .nil))) (.node (some (.string ⟨⟨[]⟩⟩)) (.node (some (.pointer (some ⟨161, 0, none⟩))) (.node (some (.int .i64 3)) (.node (some (.bool false)) .nil .nil) (.node (some (.bool false)) .nil .nil)) (.node (some (.string ⟨⟨[34, 121, 59, 122, 34]⟩⟩)) .nil (.node (some .nilIface) .nil .nil))) (.node (some (.int .i64 2)) (.node (some (.int .i64 5)) (.node (some (.bool false)) .nil .nil) (.node (some (.int .i64 2)) .nil .nil)) (.node (some (.int .u8 122)) .nil .nil)))), [.inRegion (opsAt b132 [1, 0, 1, 1, 1, 1, 1, 0, 0]) [3], .code (codeAt b132 [1, 0, 1, 1, 1, 1, 1, 0, 1]), .code (codeAt b132 [1, 0, 1, 1, 1, 1, 1, 1]), .inScope (codeAt b132 [1, 0])], [], .run, .normal, none⟩, ⟨199, 44, (.node (some (.pointer (some ⟨113, 0, none⟩))) (.node none (.node (some (.bool false)) (.node (some (.pointer (some ⟨113, 0, none⟩))) (.node (some (.string ⟨⟨[34, 121, 59, 122, 34]⟩⟩)) .nil .nil) .nil) (.node (some (.bool false)) (.node (some (.bool false)) .nil .nil) (.node (some (.pointer (some ⟨113, 0, none⟩))) .nil .nil))) (.node none (.node (some (.string ⟨⟨[34, 121, 59, 122, 34]⟩⟩)) (.node (some (.int .i64 3)) .nil .nil) (.node (some (.pointer (some ⟨113, 0, none⟩))) .nil .nil)) (.node (some (.pointer (some ⟨113, 0, none⟩))) .nil .nil))) (.node (some (.string ⟨⟨[]⟩⟩)) (.node none (.node (some (.pointer (some ⟨113, 0, none⟩))) (.node (some (.int .u8 34)) .nil .nil) .nil) (.node (some (.pointer (some ⟨113, 0, none⟩))) .nil (.node (some (.string ⟨⟨[34, 121, 59, 122, 34]⟩⟩)) .nil .nil))) (.node (some (.pointer (some ⟨113, 0, none⟩))) (.node (some (.bool false)) (.node (some (.bool false)) .nil .nil) (.node (some (.pointer (some ⟨113, 0, none⟩))) .nil .nil)) (.node (some (.pointer (some ⟨113, 0, none⟩))) .nil .nil)))), [.inRegion (opsAt b199 [1, 1, 0]) [4, 5, 6, 7, 8, 9], .code (codeAt b199 [1, 1, 1])], [], .run, .normal, none⟩, ⟨161, 38, (.node (some (.pointer (some ⟨113, 0, none⟩))) (.node none (.node (some (.bool true)) (.node (some (.tuple ⟨[(.string ⟨⟨[120]⟩⟩), (.bool true)]⟩)) (.node (some (.pointer (some ⟨144, 0, none⟩))) (.node (some (.pointer (some ⟨113, 0, none⟩))) .nil .nil) .nil) (.node (some (.string ⟨⟨[34, 121, 59, 122, 34]⟩⟩)) .nil .nil)) (.node (some (.bool false)) (.node (some (.pointer (some ⟨113, 0, none⟩))) .nil .nil) (.node (some (.bool true)) .nil .nil))) (.node (some (.tuple ⟨[(.string ⟨⟨[120]⟩⟩), (.bool true)]⟩)) (.node (some (.bool true)) (.node (some (.pointer (some ⟨113, 0, none⟩))) .nil .nil) (.node (some (.pointer (some ⟨113, 0, none⟩))) .nil .nil)) (.node (some (.string ⟨⟨[120]⟩⟩)) (.node (some (.string ⟨⟨[61, 34, 121, 59, 122, 34]⟩⟩)) .nil .nil) .nil))) (.node (some (.pointer (some ⟨144, 0, none⟩))) (.node (some (.string ⟨⟨[120]⟩⟩)) (.node (some (.string ⟨⟨[120]⟩⟩)) (.node (some (.tuple ⟨[(.string ⟨⟨[34, 121, 59, 122, 34]⟩⟩), (.bool true)]⟩)) .nil .nil) (.node (some (.bool true)) .nil .nil)) (.node none (.node (some (.pointer (some ⟨113, 0, none⟩))) .nil .nil) (.node (some (.bool false)) .nil .nil))) (.node (some (.pointer (some ⟨113, 0, none⟩))) (.node (some (.bool true)) (.node (some (.pointer (some ⟨113, 0, none⟩))) .nil .nil) (.node (some (.pointer (some ⟨113, 0, none⟩))) .nil .nil)) (.node (some (.string ⟨⟨[120]⟩⟩)) (.node (some (.tuple ⟨[(.string ⟨⟨[34, 121, 59, 122, 34]⟩⟩), (.bool true)]⟩)) .nil .nil) .nil)))), [.inRegion (opsAt b161 [1, 1, 1, 1, 1, 0]) [1, 2, 3, 4, 5, 6, 7], .code (codeAt b161 [1, 1, 1, 1, 1, 1])], [], .run, .normal, none⟩, ⟨117, 47, (.node (some (.string ⟨⟨[97, 59, 81, 61, 49, 59, 32, 120, 61, 34, 121, 59, 122, 34]⟩⟩)) (.node none (.node (some (.bool true)) (.node (some (.string ⟨⟨[97, 59, 81, 61, 49, 59, 32, 120, 61, 34, 121, 59, 122, 34]⟩⟩)) (.node (some (.bool false)) (.node (some (.bool false)) .nil .nil) .nil) (.node (some (.pointer (some ⟨113, 0, none⟩))) .nil .nil)) (.node (some (.string ⟨⟨[97]⟩⟩)) (.node (some (.bool true)) (.node (some (.agg ⟨[(.string ⟨⟨[113]⟩⟩), (.string ⟨⟨[49]⟩⟩)]⟩)) .nil .nil) .nil) (.node (some (.pointer (some ⟨113, 0, none⟩))) (.node (some (.slice (some ⟨138, 0, none⟩) 1 1)) .nil .nil) .nil))) (.node (some (.pointer (some ⟨137, 0, none⟩))) (.node (some (.tuple ⟨[(.string ⟨⟨[97]⟩⟩), (.bool true)]⟩)) (.node (some (.pointer (some ⟨113, 0, none⟩))) (.node (some (.tuple ⟨[(.agg ⟨[(.string ⟨⟨[113]⟩⟩), (.string ⟨⟨[49]⟩⟩)]⟩), (.bool true)]⟩)) .nil .nil) .nil) (.node (some (.bool false)) (.node (some (.slice none 0 0)) .nil .nil) .nil)) (.node (some (.pointer (some ⟨112, 0, none⟩))) (.node (some (.bool false)) (.node (some (.bool true)) .nil .nil) .nil) (.node (some (.int .u8 120)) (.node (some (.pointer (some ⟨112, 1, none⟩))) .nil .nil) .nil)))) (.node (some (.pointer (some ⟨112, 0, none⟩))) (.node (some (.pointer (some ⟨113, 0, none⟩))) (.node (some (.agg ⟨[(.string ⟨⟨[97, 59, 81, 61, 49, 59, 32, 120, 61, 34, 121, 59, 122, 34]⟩⟩)]⟩)) (.node none (.node (some (.bool false)) .nil .nil) .nil) (.node (some (.string ⟨⟨[120, 61, 34, 121, 59, 122, 34]⟩⟩)) (.node (some (.pointer (some ⟨112, 1, none⟩))) .nil .nil) .nil)) (.node (some (.bool true)) (.node (some (.bool true)) (.node (some (.bool true)) .nil .nil) .nil) (.node (some (.string ⟨⟨[120, 61, 34, 121, 59, 122, 34]⟩⟩)) (.node (some (.slice (some ⟨139, 0, none⟩) 1 9223372036854775810)) .nil .nil) .nil))) (.node (some (.bool true)) (.node (some (.tuple ⟨[(.string ⟨⟨[97]⟩⟩), (.bool true)]⟩)) (.node (some (.string ⟨⟨[59, 32, 120, 61, 34, 121, 59, 122, 34]⟩⟩)) (.node (some (.tuple ⟨[(.agg ⟨[(.string ⟨⟨[113]⟩⟩), (.string ⟨⟨[49]⟩⟩)]⟩), (.bool true)]⟩)) .nil .nil) .nil) (.node (some (.bool false)) (.node (some (.agg ⟨[(.string ⟨⟨[113]⟩⟩), (.string ⟨⟨[49]⟩⟩)]⟩)) .nil .nil) .nil)) (.node (some (.bool true)) (.node none (.node (some (.bool false)) .nil .nil) .nil) (.node (some (.int .i64 1)) .nil .nil))))), [.inRegion (opsAt b117 [1, 1, 1, 0, 0, 0, 1, 0, 1, 1, 0]) [0, 1, 2, 3, 4, 5, 6], .code (codeAt b117 [1, 1, 1, 0, 0, 0, 1, 0, 1, 1, 1]), .inBlock 1, .inLoop (codeAt b117 [1, 1, 1, 0, 0, 0]), .inBlock 0, .code (codeAt b117 [1, 1, 1, 1])], [], .run, .normal, none⟩, ⟨60, 26, (.node (some (.string ⟨⟨[97, 59, 81, 61, 49, 59, 32, 120, 61, 34, 121, 59, 122, 34]⟩⟩)) (.node none (.node (some (.int .i64 0)) (.node (some (.string ⟨⟨[97, 59, 81, 61, 49, 59, 32, 120, 61, 34, 121, 59, 122, 34]⟩⟩)) .nil .nil) .nil) .nil) (.node (some (.pointer (some ⟨111, 0, none⟩))) .nil .nil)), [.inRegion (opsAt b60 [1, 0]) [1, 2, 3, 4, 5, 6, 7], .code (codeAt b60 [1, 1])], [], .run, .normal, none⟩, ⟨16, 42, (.node (some (.string ⟨⟨[97, 59, 81, 61, 49, 59, 32, 120, 61, 34, 121, 59, 122, 34, 44, 32, 98]⟩⟩)) (.node none (.node (some (.int .i64 0)) (.node none (.node (some (.int .i64 0)) .nil .nil) (.node (some (.int .i64 2)) .nil .nil)) (.node (some (.tuple ⟨[(.slice (some ⟨110, 0, none⟩) 2 9223372036854775809), (.int .i64 0)]⟩)) (.node (some (.slice (some ⟨110, 0, none⟩) 2 9223372036854775809)) .nil .nil) (.node (some (.string ⟨⟨[97, 59, 81, 61, 49, 59, 32, 120, 61, 34, 121, 59, 122, 34]⟩⟩)) .nil .nil))) (.node (some (.int .i64 0)) (.node none (.node (some (.bool false)) .nil .nil) (.node (some (.bool true)) .nil .nil)) (.node (some (.tuple ⟨[(.slice (some ⟨110, 0, none⟩) 2 9223372036854775809), (.int .i64 0)]⟩)) (.node (some (.bool false)) .nil .nil) (.node (some (.string ⟨⟨[97, 59, 81, 61, 49, 59, 32, 120, 61, 34, 121, 59, 122, 34]⟩⟩)) .nil .nil)))) (.node (some (.slice none 0 0)) (.node (some (.slice (some ⟨110, 0, none⟩) 2 9223372036854775809)) (.node (some (.string ⟨⟨[97, 59, 81, 61, 49, 59, 32, 120, 61, 34, 121, 59, 122, 34]⟩⟩)) (.node (some (.int .i64 0)) .nil .nil) (.node (some (.int .i64 0)) .nil .nil)) (.node (some (.string ⟨⟨[97, 59, 81, 61, 49, 59, 32, 120, 61, 34, 121, 59, 122, 34, 44, 32, 98]⟩⟩)) (.node (some (.int .i64 2)) .nil .nil) .nil)) (.node (some (.slice none 0 0)) (.node none .nil (.node (some (.pointer (some ⟨110, 0, none⟩))) .nil .nil)) (.node (some (.slice (some ⟨110, 0, none⟩) 2 9223372036854775809)) (.node (some (.slice (some ⟨110, 0, none⟩) 2 9223372036854775809)) .nil .nil) .nil)))), [.inRegion (opsAt b16 [1, 1, 1, 1, 1, 0, 1, 0, 0, 1, 1, 0, 0, 1, 0]) [1, 2, 3, 4, 5, 6, 7], .code (codeAt b16 [1, 1, 1, 1, 1, 0, 1, 0, 0, 1, 1, 0, 0, 1, 1]), .inBlock 1, .code (codeAt b16 [1, 1, 1, 1, 1, 0, 1, 0, 0, 1, 1, 1]), .inLoop (codeAt b16 [1, 1, 1, 1, 1, 0, 1, 0, 0]), .inBlock 0, .code (codeAt b16 [1, 1, 1, 1, 1, 1])], [], .run, .normal, none⟩, ⟨15, 79, (.node (some (.bool false)) (.node (some (.string ⟨⟨[34, 115, 97, 121, 32, 92, 34, 104, 105, 92, 34, 34]⟩⟩)) (.node (some (.slice (some ⟨81, 0, none⟩) 3 9223372036854775809)) (.node none (.node (some (.int .i64 0)) .nil .nil) .nil) (.node none (.node (some (.int .i64 0)) .nil .nil) .nil)) (.node none (.node none (.node (some (.tuple ⟨[(.slice (some ⟨81, 0, none⟩) 3 9223372036854775809), (.int .i64 0)]⟩)) .nil .nil) .nil) (.node (some (.tuple ⟨[(.string ⟨⟨[34, 115, 97, 121, 32, 92, 34, 104, 105, 92, 34, 34]⟩⟩), (.int .i64 0)]⟩)) .nil .nil))) (.node (some (.int .i64 0)) (.node (some (.int .i64 0)) (.node none (.node (some (.tuple ⟨[(.slice (some ⟨81, 0, none⟩) 3 9223372036854775809), (.int .i64 0)]⟩)) .nil .nil) .nil) (.node (some (.tuple ⟨[(.string ⟨⟨[34, 115, 97, 121, 32, 92, 34, 104, 105, 92, 34, 34]⟩⟩), (.int .i64 0)]⟩)) .nil .nil)) (.node none (.node none (.node (some (.slice (some ⟨81, 0, none⟩) 3 9223372036854775809)) .nil .nil) .nil) (.node (some (.string ⟨⟨[34, 115, 97, 121, 32, 92, 34, 104, 105, 92, 34, 34]⟩⟩)) .nil .nil)))), [.inRegion (opsAt b15 [1, 1, 1, 0]) [0, 1, 2, 3, 4, 5], .code (codeAt b15 [1, 1, 1, 1])], [], .run, .normal, none⟩], ⟨(.node none (.node none (.node none (.node none (.node none .nil (.node none .nil (.node (some (.cells 46 [(.string ⟨⟨[]⟩⟩), (.slice none 0 0)] true 2)) .nil .nil))) .nil) (.node none .nil (.node none (.node none (.node none (.node (some (.cells 53 [(.string ⟨⟨[113]⟩⟩), (.string ⟨⟨[49]⟩⟩)] false 2)) .nil .nil) .nil) .nil) .nil))) (.node none (.node none (.node none (.node none .nil (.node none (.node (some (.cells 90 [(.pointer (some ⟨161, 0, none⟩)), (.slice (some ⟨165, 0, none⟩) 2 9223372036854775809)] true 2)) .nil .nil) .nil)) (.node none (.node (some (.cells 9 [(.string ⟨⟨[97]⟩⟩), (.string ⟨⟨[34, 98, 44, 99, 34]⟩⟩), (.string ⟨⟨[100]⟩⟩)] false 2)) .nil .nil) (.node (some (.cells 172 [(.string ⟨⟨[34, 121, 59, 122, 34]⟩⟩)] true 2)) .nil .nil))) (.node none (.node none (.node none (.node (some (.cells 53 [(.string ⟨⟨[113]⟩⟩), (.string ⟨⟨[49]⟩⟩)] true 2)) .nil .nil) .nil) .nil) .nil)) (.node none (.node none (.node none .nil (.node none (.node (some (.cells 5 [(.int .u8 121), (.int .u8 59)] false 2)) .nil .nil) .nil)) .nil) .nil))) (.node none (.node none (.node none (.node none .nil (.node none (.node none (.node (some (.cells 53 [(.string ⟨⟨[120]⟩⟩), (.string ⟨⟨[]⟩⟩)] true 2)) .nil .nil) .nil) (.node (some (.cells 46 [(.string ⟨⟨[97]⟩⟩), (.slice (some ⟨139, 0, none⟩) 1 9223372036854775810)] true 2)) .nil .nil))) .nil) .nil) (.node none (.node none .nil (.node none (.node none (.node none (.node (some (.cells 53 [(.string ⟨⟨[113]⟩⟩), (.string ⟨⟨[49]⟩⟩)] true 2)) .nil .nil) .nil) .nil) .nil)) (.node none .nil (.node none (.node none .nil (.node (some (.cells 9 [(.string ⟨⟨[97, 59, 81, 61, 49, 59, 32, 120, 61, 34, 121, 59, 122, 34]⟩⟩), (.string ⟨⟨[98]⟩⟩)] false 2)) .nil .nil)) .nil))))), 166⟩⟩
theorem seg7 : chunk Tryz.prog nest 2500 [81, 110, 111, 112, 113, 137, 138, 139, 144, 161, 165] s7 = .ok s8 := by kernel_rfl
noncomputable def s9 : AS := ⟨⟨16, 42, (.node (some (.string ⟨⟨[97, 59, 81, 61, 49, 59, 32, 120, 61, 34, 121, 59, 122, 34, 44, 32, 98]⟩⟩)) (.node none (.node (some (.int .i64 0)) (.node none (.node (some (.int .i64 0)) (.node (some (.agg ⟨[(.string ⟨⟨[97]⟩⟩), (.slice (some ⟨182, 0, none⟩) 2 9223372036854775810)]⟩)) .nil .nil) .nil) (.node (some (.int .i64 2)) (.node (some (.slice (some ⟨193, 0, none⟩) 1 9223372036854775810)) .nil .nil) .nil)) (.node (some (.tuple ⟨[(.slice (some ⟨110, 0, none⟩) 2 9223372036854775809), (.int .i64 0)]⟩)) (.node (some (.slice (some ⟨110, 0, none⟩) 2 9223372036854775809)) .nil .nil) (.node (some (.string ⟨⟨[98]⟩⟩)) .nil .nil))) (.node (some (.int .i64 0)) (.node (some (.pointer (some ⟨191, 0, none⟩))) (.node (some (.bool false)) (.node (some (.int .i64 0)) .nil .nil) .nil) (.node (some (.bool true)) .nil .nil)) (.node (some (.tuple ⟨[(.slice (some ⟨110, 0, none⟩) 2 9223372036854775809), (.int .i64 0)]⟩)) (.node (some (.bool false)) (.node (some (.agg ⟨[(.string ⟨⟨[97]⟩⟩), (.slice (some ⟨182, 0, none⟩) 2 9223372036854775810)]⟩)) .nil .nil) .nil) (.node (some (.string ⟨⟨[98]⟩⟩)) .nil .nil)))) (.node (some (.slice none 0 0)) (.node (some (.slice (some ⟨110, 0, none⟩) 2 9223372036854775809)) (.node (some (.string ⟨⟨[98]⟩⟩)) (.node (some (.int .i64 0)) (.node (some (.int .i64 0)) .nil .nil) .nil) (.node (some (.int .i64 1)) (.node (some (.int .i64 1)) .nil .nil) .nil)) (.node (some (.string ⟨⟨[97, 59, 81, 61, 49, 59, 32, 120, 61, 34, 121, 59, 122, 34, 44, 32, 98]⟩⟩)) (.node (some (.int .i64 2)) (.node (some (.slice none 0 0)) .nil .nil) .nil) (.node (some (.tuple ⟨[(.agg ⟨[(.string ⟨⟨[97]⟩⟩), (.slice (some ⟨182, 0, none⟩) 2 9223372036854775810)]⟩), (.int .i64 0)]⟩)) .nil .nil))) (.node (some (.slice (some ⟨193, 0, none⟩) 1 9223372036854775810)) (.node (some (.int .i64 0)) (.node none (.node (some (.bool false)) .nil .nil) .nil) (.node (some (.pointer (some ⟨110, 1, none⟩))) .nil .nil)) (.node (some (.slice (some ⟨110, 0, none⟩) 2 9223372036854775809)) (.node (some (.slice (some ⟨110, 0, none⟩) 2 9223372036854775809)) (.node (some (.slice (some ⟨192, 0, none⟩) 1 1)) .nil .nil) .nil) (.node (some (.tuple ⟨[(.agg ⟨[(.string ⟨⟨[98]⟩⟩), (.slice none 0 0)]⟩), (.int .i64 0)]⟩)) .nil .nil))))), [.inRegion (opsAt b16 [1, 1, 1, 1, 1, 0, 1, 0, 0, 1, 1, 0, 0, 1, 0]) [2, 3, 4, 5, 6, 7], .code (codeAt b16 [1, 1, 1, 1, 1, 0, 1, 0, 0, 1, 1, 0, 0, 1, 1]), .inBlock 1, .code (codeAt b16 [1, 1, 1, 1, 1, 0, 1, 0, 0, 1, 1, 1]), .inLoop (codeAt b16 [1, 1, 1, 1, 1, 0, 1, 0, 0]), .inBlock 0, .code (codeAt b16 [1, 1, 1, 1, 1, 1])], [], .run, .normal, none⟩, [⟨15, 79, (.node (some (.bool false)) (.node (some (.string ⟨⟨[34, 115, 97, 121, 32, 92, 34, 104, 105, 92, 34, 34]⟩⟩)) (.node (some (.slice (some ⟨81, 0, none⟩) 3 9223372036854775809)) (.node none (.node (some (.int .i64 0)) .nil .nil) .nil) (.node none (.node (some (.int .i64 0)) .nil .nil) .nil)) (.node none (.node none (.node (some (.tuple ⟨[(.slice (some ⟨81, 0, none⟩) 3 9223372036854775809), (.int .i64 0)]⟩)) .nil .nil) .nil) (.node (some (.tuple ⟨[(.string ⟨⟨[34, 115, 97, 121, 32, 92, 34, 104, 105, 92, 34, 34]⟩⟩), (.int .i64 0)]⟩)) .nil .nil))) (.node (some (.int .i64 0)) (.node (some (.int .i64 0)) (.node none (.node (some (.tuple ⟨[(.slice (some ⟨81, 0, none⟩) 3 9223372036854775809), (.int .i64 0)]⟩)) .nil .nil) .nil) (.node (some (.tuple ⟨[(.string ⟨⟨[34, 115, 97, 121, 32, 92, 34, 104, 105, 92, 34, 34]⟩⟩), (.int .i64 0)]⟩)) .nil .nil)) (.node none (.node none (.node (some (.slice (some ⟨81, 0, none⟩) 3 9223372036854775809)) .nil .nil) .nil) (.node (some (.string ⟨⟨[34, 115, 97, 121, 32, 92, 34, 104, 105, 92, 34, 34]⟩⟩)) .nil .nil)))), [.inRegion (opsAt b15 [1, 1, 1, 0]) [0, 1, 2, 3, 4, 5], .code (codeAt b15 [1, 1, 1, 1])], [], .run, .normal, none⟩], ⟨(.node none (.node none (.node none (.node none (.node none (.node none (.node none .nil (.node (some (.cells 46 [(.string ⟨⟨[97]⟩⟩), (.slice (some ⟨182, 0, none⟩) 2 9223372036854775810)] true 2)) .nil .nil)) .nil) .nil) .nil) .nil) (.node none (.node none (.node none (.node none (.node none .nil (.node (some (.cells 46 [(.string ⟨⟨[97]⟩⟩), (.slice (some ⟨182, 0, none⟩) 2 9223372036854775810)] false 2)) .nil .nil)) .nil) (.node none (.node (some (.cells 9 [(.string ⟨⟨[97]⟩⟩), (.string ⟨⟨[34, 98, 44, 99, 34]⟩⟩), (.string ⟨⟨[100]⟩⟩)] false 2)) .nil .nil) .nil)) .nil) .nil)) (.node none (.node none (.node none (.node none (.node none (.node none .nil (.node (some (.cells 46 [(.string ⟨⟨[97]⟩⟩), (.slice (some ⟨182, 0, none⟩) 2 9223372036854775810)] true 2)) .nil .nil)) .nil) .nil) .nil) .nil) (.node none .nil (.node none (.node none .nil (.node none .nil (.node none (.node (some (.cells 53 [(.string ⟨⟨[113]⟩⟩), (.string ⟨⟨[49]⟩⟩), (.string ⟨⟨[120]⟩⟩), (.string ⟨⟨[121, 59, 122]⟩⟩)] false 2)) .nil .nil) .nil))) (.node none (.node none .nil (.node (some (.cells 9 [(.string ⟨⟨[97, 59, 81, 61, 49, 59, 32, 120, 61, 34, 121, 59, 122, 34]⟩⟩), (.string ⟨⟨[98]⟩⟩)] false 2)) .nil .nil)) .nil))))), 201⟩⟩
theorem seg8 : chunk Tryz.prog nest 1436 [81, 110, 182, 191, 192, 193] s8 = .ok s9 := by kernel_rfl
noncomputable def s10 : AS := ⟨⟨177, 18, (.node (some (.string ⟨⟨[44, 32, 99, 59, 113, 61, 48, 46, 53]⟩⟩)) (.node (some (.string ⟨⟨[44]⟩⟩)) (.node none (.node (some (.string ⟨⟨[44]⟩⟩)) .nil .nil) .nil) (.node (some (.string ⟨⟨[44, 32, 99, 59, 113, 61, 48, 46, 53]⟩⟩)) .nil .nil)) (.node none (.node (some (.bool false)) .nil .nil) (.node (some (.int .i64 9)) .nil .nil))), [.inRegion (opsAt b177 [1, 0]) [3, 4, 5, 6, 7, 8, 9, 10, 11, 12, 13], .code .ret], [], .run, .normal, none⟩, [⟨141, 13, (.node (some (.string ⟨⟨[44, 32, 99, 59, 113, 61, 48, 46, 53]⟩⟩)) (.node (some (.string ⟨⟨[44]⟩⟩)) .nil (.node (some (.string ⟨⟨[44, 32, 99, 59, 113, 61, 48, 46, 53]⟩⟩)) .nil .nil)) (.node none (.node (some (.string ⟨⟨[]⟩⟩)) .nil .nil) (.node (some (.string ⟨⟨[44]⟩⟩)) .nil .nil))), [.inRegion (opsAt b141 [1, 0, 0]) [2], .code (codeAt b141 [1, 0, 1]), .code (codeAt b141 [1, 1])], [], .run, .normal, none⟩, ⟨83, 8, (.node (some (.string ⟨⟨[44, 32, 99, 59, 113, 61, 48, 46, 53]⟩⟩)) (.node (some (.string ⟨⟨[44]⟩⟩)) .nil (.node (some (.string ⟨⟨[44, 32, 99, 59, 113, 61, 48, 46, 53]⟩⟩)) .nil .nil)) (.node none (.node (some (.string ⟨⟨[]⟩⟩)) .nil .nil) (.node (some (.string ⟨⟨[44]⟩⟩)) .nil .nil))), [.inRegion (opsAt b83 [1, 0]) [2, 3], .code .ret], [], .run, .normal, none⟩, ⟨25, 38, (.node (some (.string ⟨⟨[97, 59, 113, 61, 48, 46, 53, 44, 32, 98, 44, 32, 99, 59, 113, 61, 48, 46, 53]⟩⟩)) (.node none (.node (some (.int .i64 0)) (.node (some (.bool true)) (.node (some (.tuple ⟨[(.int .i64 2), (.bool true)]⟩)) (.node (some (.slice (some ⟨212, 0, none⟩) 1 1)) .nil .nil) .nil) (.node (some (.int .i64 2)) .nil .nil)) (.node (some (.bool false)) (.node (some (.bool true)) (.node (some (.string ⟨⟨[44, 32, 99, 59, 113, 61, 48, 46, 53]⟩⟩)) .nil .nil) .nil) (.node (some (.bool true)) .nil .nil))) (.node (some (.string ⟨⟨[32, 98, 44, 32, 99, 59, 113, 61, 48, 46, 53]⟩⟩)) (.node (some (.string ⟨⟨[97, 59, 113, 61, 48, 46, 53, 44, 32, 98, 44, 32, 99, 59, 113, 61, 48, 46, 53]⟩⟩)) (.node (some (.tuple ⟨[(.int .i64 2), (.bool true)]⟩)) (.node (some (.string ⟨⟨[32, 98, 44, 32, 99, 59, 113, 61, 48, 46, 53]⟩⟩)) .nil .nil) .nil) (.node (some (.string ⟨⟨[98]⟩⟩)) .nil .nil)) (.node (some (.string ⟨⟨[32, 98, 44, 32, 99, 59, 113, 61, 48, 46, 53]⟩⟩)) (.node (some (.bool false)) .nil .nil) (.node (some (.string ⟨⟨[98]⟩⟩)) .nil .nil)))) (.node (some (.slice none 0 0)) (.node (some (.slice (some ⟨213, 0, none⟩) 2 9223372036854775809)) (.node (some (.string ⟨⟨[98]⟩⟩)) (.node (some (.string ⟨⟨[32, 98, 44, 32, 99, 59, 113, 61, 48, 46, 53]⟩⟩)) (.node (some (.slice (some ⟨213, 0, none⟩) 2 9223372036854775809)) .nil .nil) .nil) (.node (some (.string ⟨⟨[32, 98]⟩⟩)) .nil .nil)) (.node (some (.string ⟨⟨[97, 59, 113, 61, 48, 46, 53, 44, 32, 98, 44, 32, 99, 59, 113, 61, 48, 46, 53]⟩⟩)) (.node (some (.bool true)) (.node (some (.string ⟨⟨[32, 98, 44, 32, 99, 59, 113, 61, 48, 46, 53]⟩⟩)) .nil .nil) .nil) (.node (some (.slice (some ⟨208, 0, none⟩) 1 9223372036854775809)) .nil .nil))) (.node (some (.int .i64 2)) (.node (some (.int .i64 19)) (.node (some (.int .i64 2)) (.node (some (.int .i64 2)) .nil .nil) .nil) (.node (some (.string ⟨⟨[98]⟩⟩)) .nil .nil)) (.node (some (.bool true)) (.node (some (.string ⟨⟨[32, 98, 44, 32, 99, 59, 113, 61, 48, 46, 53]⟩⟩)) .nil .nil) (.node (some (.string ⟨⟨[98]⟩⟩)) .nil .nil))))), [.inRegion (opsAt b25 [1, 1, 1, 0, 1, 0, 0, 1, 0, 1, 1, 1]) [3, 4], .inBlock 1, .inLoop (codeAt b25 [1, 1, 1, 0, 1, 0, 0]), .inBlock 0, .code (codeAt b25 [1, 1, 1, 1])], [], .run, .normal, none⟩, ⟨16, 42, (.node (some (.string ⟨⟨[97, 59, 113, 61, 48, 46, 53, 44, 32, 98, 44, 32, 99, 59, 113, 61, 48, 46, 53]⟩⟩)) (.node none (.node (some (.int .i64 0)) .nil .nil) .nil) (.node (some (.slice none 0 0)) (.node none .nil (.node (some (.string ⟨⟨[97, 59, 113, 61, 48, 46, 53, 44, 32, 98, 44, 32, 99, 59, 113, 61, 48, 46, 53]⟩⟩)) .nil .nil)) .nil)), [.inRegion (opsAt b16 [1, 0]) [1, 2, 3, 4, 5, 6], .code (codeAt b16 [1, 1])], [], .run, .normal, none⟩, ⟨18, 44, (.node (some (.string ⟨⟨[97, 59, 113, 61, 48, 46, 53, 44, 32, 98, 44, 32, 99, 59, 113, 61, 48, 46, 53]⟩⟩)) (.node none (.node (some (.int .i64 0)) .nil .nil) .nil) (.node (some (.slice none 0 0)) (.node none .nil (.node (some (.string ⟨⟨[97, 59, 113, 61, 48, 46, 53, 44, 32, 98, 44, 32, 99, 59, 113, 61, 48, 46, 53]⟩⟩)) .nil .nil)) .nil)), [.inRegion (opsAt b18 [1, 0]) [1, 2, 3, 4, 5, 6], .code (codeAt b18 [1, 1])], [], .run, .normal, none⟩, ⟨15, 79, (.node (some (.bool false)) (.node (some (.string ⟨⟨[34, 115, 97, 121, 32, 92, 34, 104, 105, 92, 34, 34]⟩⟩)) (.node (some (.slice (some ⟨81, 0, none⟩) 3 9223372036854775809)) (.node none (.node (some (.int .i64 0)) .nil .nil) (.node (some (.int .i64 0)) .nil .nil)) (.node none (.node (some (.int .i64 0)) .nil .nil) .nil)) (.node (some (.slice (some ⟨203, 0, none⟩) 2 9223372036854775810)) (.node none (.node (some (.tuple ⟨[(.slice (some ⟨81, 0, none⟩) 3 9223372036854775809), (.int .i64 0)]⟩)) .nil .nil) .nil) (.node (some (.tuple ⟨[(.string ⟨⟨[34, 115, 97, 121, 32, 92, 34, 104, 105, 92, 34, 34]⟩⟩), (.int .i64 0)]⟩)) (.node (some (.tuple ⟨[(.slice (some ⟨203, 0, none⟩) 2 9223372036854775810), (.int .i64 0)]⟩)) .nil .nil) .nil))) (.node (some (.int .i64 0)) (.node (some (.int .i64 0)) (.node none (.node (some (.tuple ⟨[(.slice (some ⟨81, 0, none⟩) 3 9223372036854775809), (.int .i64 0)]⟩)) .nil .nil) .nil) (.node (some (.tuple ⟨[(.string ⟨⟨[34, 115, 97, 121, 32, 92, 34, 104, 105, 92, 34, 34]⟩⟩), (.int .i64 0)]⟩)) (.node (some (.tuple ⟨[(.slice (some ⟨203, 0, none⟩) 2 9223372036854775810), (.int .i64 0)]⟩)) .nil .nil) .nil)) (.node (some (.int .i64 0)) (.node none (.node (some (.slice (some ⟨81, 0, none⟩) 3 9223372036854775809)) .nil .nil) .nil) (.node (some (.string ⟨⟨[34, 115, 97, 121, 32, 92, 34, 104, 105, 92, 34, 34]⟩⟩)) (.node (some (.slice (some ⟨203, 0, none⟩) 2 9223372036854775810)) .nil .nil) .nil)))), [.inRegion (opsAt b15 [1, 1, 1, 1, 0]) [0, 1, 2, 3, 4, 5], .code (codeAt b15 [1, 1, 1, 1, 1])], [], .run, .normal, none⟩], ⟨(.node none (.node none (.node none .nil (.node none .nil (.node none (.node none (.node none .nil (.node (some (.cells 46 [(.string ⟨⟨[97]⟩⟩), (.slice (some ⟨182, 0, none⟩) 2 9223372036854775810), (.string ⟨⟨[98]⟩⟩), (.slice none 0 0)] false 2)) .nil .nil)) .nil) .nil))) (.node none (.node none (.node none .nil (.node none (.node (some (.cells 9 [(.string ⟨⟨[97]⟩⟩), (.string ⟨⟨[34, 98, 44, 99, 34]⟩⟩), (.string ⟨⟨[100]⟩⟩)] false 2)) .nil .nil) .nil)) .nil) (.node none (.node none .nil (.node none (.node none .nil (.node (some (.cells 9 [(.string ⟨⟨[97, 59, 113, 61, 48, 46, 53]⟩⟩), (.string ⟨⟨[98]⟩⟩)] false 2)) .nil .nil)) .nil)) .nil))) (.node none (.node none .nil (.node none (.node none .nil (.node none (.node none .nil (.node (some (.cells 9 [(.string ⟨⟨[98]⟩⟩)] true 2)) .nil .nil)) .nil)) .nil)) (.node none .nil (.node none (.node none .nil (.node none .nil (.node none (.node (some (.cells 53 [(.string ⟨⟨[113]⟩⟩), (.string ⟨⟨[49]⟩⟩), (.string ⟨⟨[120]⟩⟩), (.string ⟨⟨[121, 59, 122]⟩⟩)] false 2)) .nil .nil) .nil))) .nil)))), 214⟩⟩
theorem seg9 : chunk Tryz.prog nest 2500 [81, 182, 203, 212, 213] s9 = .ok s10 := by kernel_rfl
noncomputable def s11 : AS := ⟨⟨135, 21, (.node (some (.string ⟨⟨[9, 32]⟩⟩)) (.node none (.node (some (.bool false)) (.node (some (.string ⟨⟨[9, 32]⟩⟩)) (.node (some (.int .u8 32)) .nil .nil) .nil) (.node (some (.int .i64 1)) (.node (some (.pointer (some ⟨223, 32, none⟩))) .nil .nil) .nil)) (.node (some (.int .u8 32)) (.node (some (.bool true)) .nil .nil) (.node (some (.int .i64 1)) .nil .nil))) (.node (some (.pointer (some ⟨223, 0, none⟩))) (.node (some (.int .i64 1)) (.node (some (.int .i64 2)) (.node (some (.bool false)) .nil .nil) .nil) (.node (some (.string ⟨⟨[9, 32]⟩⟩)) .nil .nil)) (.node (some (.int .i64 1)) (.node (some (.int .i64 0)) (.node (some (.int .u8 32)) .nil .nil) .nil) (.node (some (.int .u8 32)) .nil .nil)))), [.code (codeAt b135 [1, 0, 1, 0, 0, 1, 1]), .inLoop (codeAt b135 [1, 0, 1, 0, 0]), .inBlock 0, .code (codeAt b135 [1, 1])], [], .run, .normal, none⟩, [⟨198, 37, (.node (some (.string ⟨⟨[59, 113, 61, 48, 46, 53]⟩⟩)) (.node (some (.string ⟨⟨[9, 32]⟩⟩)) (.node none (.node (some (.string ⟨⟨[59, 113, 61, 48, 46, 53]⟩⟩)) (.node (some (.int .i64 2)) .nil .nil) .nil) (.node (some (.bool false)) (.node (some (.tuple ⟨[]⟩)) .nil .nil) (.node (some (.string ⟨⟨[9, 32]⟩⟩)) .nil .nil))) (.node none (.node (some (.bool false)) (.node (some (.bool false)) .nil .nil) .nil) (.node none (.node (some (.bool false)) .nil .nil) .nil))) (.node none (.node (some (.string ⟨⟨[]⟩⟩)) (.node (some (.bool false)) (.node (some (.bool false)) .nil .nil) .nil) (.node (some (.bool false)) (.node (some (.tuple ⟨[]⟩)) .nil .nil) .nil)) (.node none (.node (some (.string ⟨⟨[9, 32]⟩⟩)) (.node (some (.tuple ⟨[]⟩)) .nil .nil) .nil) (.node (some (.string ⟨⟨[9, 32]⟩⟩)) .nil .nil)))), [.inRegion (opsAt b198 [1, 1, 1, 0, 0]) [1, 2, 3, 4, 5, 6, 7], .code (codeAt b198 [1, 1, 1, 0, 1]), .code (codeAt b198 [1, 1, 1, 1])], [], .run, .normal, none⟩, ⟨160, 20, (.node (some (.pointer (some ⟨221, 0, none⟩))) (.node none (.node none (.node (some (.pointer (some ⟨221, 0, none⟩))) .nil .nil) .nil) (.node none (.node (some (.string ⟨⟨[59, 113, 61, 48, 46, 53]⟩⟩)) .nil .nil) .nil)) (.node (some (.bool false)) (.node none (.node (some (.pointer (some ⟨221, 0, none⟩))) .nil .nil) .nil) (.node (some (.pointer (some ⟨221, 0, none⟩))) .nil .nil))), [.inRegion (opsAt b160 [1, 0]) [4, 5, 6, 7, 8, 9, 10], .code (codeAt b160 [1, 1])], [], .run, .normal, none⟩, ⟨117, 47, (.node (some (.string ⟨⟨[97, 59, 113, 61, 48, 46, 53]⟩⟩)) (.node none (.node (some (.bool true)) (.node (some (.string ⟨⟨[97, 59, 113, 61, 48, 46, 53]⟩⟩)) (.node (some (.bool false)) .nil .nil) .nil) (.node (some (.string ⟨⟨[97]⟩⟩)) (.node (some (.bool true)) .nil .nil) .nil)) (.node none (.node (some (.tuple ⟨[(.string ⟨⟨[97]⟩⟩), (.bool true)]⟩)) (.node (some (.pointer (some ⟨221, 0, none⟩))) .nil .nil) .nil) (.node (some (.pointer (some ⟨220, 0, none⟩))) .nil .nil))) (.node (some (.pointer (some ⟨220, 0, none⟩))) (.node (some (.pointer (some ⟨221, 0, none⟩))) (.node (some (.agg ⟨[(.string ⟨⟨[97, 59, 113, 61, 48, 46, 53]⟩⟩)]⟩)) .nil .nil) (.node (some (.bool true)) .nil .nil)) (.node none (.node (some (.tuple ⟨[(.string ⟨⟨[97]⟩⟩), (.bool true)]⟩)) (.node (some (.string ⟨⟨[59, 113, 61, 48, 46, 53]⟩⟩)) .nil .nil) .nil) (.node (some (.bool true)) .nil .nil)))), [.inRegion (opsAt b117 [1, 1, 1, 0, 0, 0, 1, 0, 0, 0]) [0, 1], .code (codeAt b117 [1, 1, 1, 0, 0, 0, 1, 0, 0, 1]), .code (codeAt b117 [1, 1, 1, 0, 0, 0, 1, 0, 1]), .inBlock 1, .inLoop (codeAt b117 [1, 1, 1, 0, 0, 0]), .inBlock 0, .code (codeAt b117 [1, 1, 1, 1])], [], .run, .normal, none⟩, ⟨60, 26, (.node (some (.string ⟨⟨[97, 59, 113, 61, 48, 46, 53]⟩⟩)) (.node none (.node (some (.int .i64 0)) (.node (some (.string ⟨⟨[97, 59, 113, 61, 48, 46, 53]⟩⟩)) .nil .nil) .nil) .nil) (.node (some (.pointer (some ⟨219, 0, none⟩))) .nil .nil)), [.inRegion (opsAt b60 [1, 0]) [1, 2, 3, 4, 5, 6, 7], .code (codeAt b60 [1, 1])], [], .run, .normal, none⟩, ⟨16, 42, (.node (some (.string ⟨⟨[97, 59, 113, 61, 48, 46, 53, 44, 32, 98, 44, 32, 99, 59, 113, 61, 48, 46, 53]⟩⟩)) (.node none (.node (some (.int .i64 0)) (.node none (.node (some (.int .i64 0)) .nil .nil) (.node (some (.int .i64 3)) .nil .nil)) (.node (some (.tuple ⟨[(.slice (some ⟨218, 0, none⟩) 3 9223372036854775809), (.int .i64 0)]⟩)) (.node (some (.slice (some ⟨218, 0, none⟩) 3 9223372036854775809)) .nil .nil) (.node (some (.string ⟨⟨[97, 59, 113, 61, 48, 46, 53]⟩⟩)) .nil .nil))) (.node (some (.int .i64 0)) (.node none (.node (some (.bool false)) .nil .nil) (.node (some (.bool true)) .nil .nil)) (.node (some (.tuple ⟨[(.slice (some ⟨218, 0, none⟩) 3 9223372036854775809), (.int .i64 0)]⟩)) (.node (some (.bool false)) .nil .nil) (.node (some (.string ⟨⟨[97, 59, 113, 61, 48, 46, 53]⟩⟩)) .nil .nil)))) (.node (some (.slice none 0 0)) (.node (some (.slice (some ⟨218, 0, none⟩) 3 9223372036854775809)) (.node (some (.string ⟨⟨[97, 59, 113, 61, 48, 46, 53]⟩⟩)) (.node (some (.int .i64 0)) .nil .nil) (.node (some (.int .i64 0)) .nil .nil)) (.node (some (.string ⟨⟨[97, 59, 113, 61, 48, 46, 53, 44, 32, 98, 44, 32, 99, 59, 113, 61, 48, 46, 53]⟩⟩)) (.node (some (.int .i64 3)) .nil .nil) .nil)) (.node (some (.slice none 0 0)) (.node none .nil (.node (some (.pointer (some ⟨218, 0, none⟩))) .nil .nil)) (.node (some (.slice (some ⟨218, 0, none⟩) 3 9223372036854775809)) (.node (some (.slice (some ⟨218, 0, none⟩) 3 9223372036854775809)) .nil .nil) .nil)))), [.inRegion (opsAt b16 [1, 1, 1, 1, 1, 0, 1, 0, 0, 1, 1, 0, 0, 1, 0]) [1, 2, 3, 4, 5, 6, 7], .code (codeAt b16 [1, 1, 1, 1, 1, 0, 1, 0, 0, 1, 1, 0, 0, 1, 1]), .inBlock 1, .code (codeAt b16 [1, 1, 1, 1, 1, 0, 1, 0, 0, 1, 1, 1]), .inLoop (codeAt b16 [1, 1, 1, 1, 1, 0, 1, 0, 0]), .inBlock 0, .code (codeAt b16 [1, 1, 1, 1, 1, 1])], [], .run, .normal, none⟩, ⟨18, 44, (.node (some (.string ⟨⟨[97, 59, 113, 61, 48, 46, 53, 44, 32, 98, 44, 32, 99, 59, 113, 61, 48, 46, 53]⟩⟩)) (.node none (.node (some (.int .i64 0)) .nil .nil) .nil) (.node (some (.slice none 0 0)) (.node none .nil (.node (some (.string ⟨⟨[97, 59, 113, 61, 48, 46, 53, 44, 32, 98, 44, 32, 99, 59, 113, 61, 48, 46, 53]⟩⟩)) .nil .nil)) .nil)), [.inRegion (opsAt b18 [1, 0]) [1, 2, 3, 4, 5, 6], .code (codeAt b18 [1, 1])], [], .run, .normal, none⟩, ⟨15, 79, (.node (some (.bool false)) (.node (some (.string ⟨⟨[34, 115, 97, 121, 32, 92, 34, 104, 105, 92, 34, 34]⟩⟩)) (.node (some (.slice (some ⟨81, 0, none⟩) 3 9223372036854775809)) (.node none (.node (some (.int .i64 0)) .nil .nil) (.node (some (.int .i64 0)) .nil .nil)) (.node none (.node (some (.int .i64 0)) .nil .nil) .nil)) (.node (some (.slice (some ⟨203, 0, none⟩) 2 9223372036854775810)) (.node none (.node (some (.tuple ⟨[(.slice (some ⟨81, 0, none⟩) 3 9223372036854775809), (.int .i64 0)]⟩)) .nil .nil) .nil) (.node (some (.tuple ⟨[(.string ⟨⟨[34, 115, 97, 121, 32, 92, 34, 104, 105, 92, 34, 34]⟩⟩), (.int .i64 0)]⟩)) (.node (some (.tuple ⟨[(.slice (some ⟨203, 0, none⟩) 2 9223372036854775810), (.int .i64 0)]⟩)) .nil .nil) .nil))) (.node (some (.int .i64 0)) (.node (some (.int .i64 0)) (.node none (.node (some (.tuple ⟨[(.slice (some ⟨81, 0, none⟩) 3 9223372036854775809), (.int .i64 0)]⟩)) .nil .nil) .nil) (.node (some (.tuple ⟨[(.string ⟨⟨[34, 115, 97, 121, 32, 92, 34, 104, 105, 92, 34, 34]⟩⟩), (.int .i64 0)]⟩)) (.node (some (.tuple ⟨[(.slice (some ⟨203, 0, none⟩) 2 9223372036854775810), (.int .i64 0)]⟩)) .nil .nil) .nil)) (.node (some (.int .i64 0)) (.node none (.node (some (.slice (some ⟨81, 0, none⟩) 3 9223372036854775809)) .nil .nil) .nil) (.node (some (.string ⟨⟨[34, 115, 97, 121, 32, 92, 34, 104, 105, 92, 34, 34]⟩⟩)) (.node (some (.slice (some ⟨203, 0, none⟩) 2 9223372036854775810)) .nil .nil) .nil)))), [.inRegion (opsAt b15 [1, 1, 1, 1, 0]) [0, 1, 2, 3, 4, 5], .code (codeAt b15 [1, 1, 1, 1, 1])], [], .run, .normal, none⟩], ⟨(.node none (.node none (.node none (.node none (.node none (.node none .nil (.node none .nil (.node (some (.cells 150 [(.bool false), (.bool false), (.bool false), (.bool false), (.bool false), (.bool false), (.bool false), (.bool false), (.bool false), (.bool true), (.bool false), (.bool false), (.bool false), (.bool false), (.bool false), (.bool false), (.bool false), (.bool false), (.bool false), (.bool false), (.bool false), (.bool false), (.bool false), (.bool false), (.bool false), (.bool false), (.bool false), (.bool false), (.bool false), (.bool false), (.bool false), (.bool false), (.bool true), (.bool false), (.bool false), (.bool false), (.bool false), (.bool false), (.bool false), (.bool false), (.bool false), (.bool false), (.bool false), (.bool false), (.bool false), (.bool false), (.bool false), (.bool false), (.bool false), (.bool false), (.bool false), (.bool false), (.bool false), (.bool false), (.bool false), (.bool false), (.bool false), (.bool false), (.bool false), (.bool false), (.bool false), (.bool false), (.bool false), (.bool false), (.bool false), (.bool false), (.bool false), (.bool false), (.bool false), (.bool false), (.bool false), (.bool false), (.bool false), (.bool false), (.bool false), (.bool false), (.bool false), (.bool false), (.bool false), (.bool false), (.bool false), (.bool false), (.bool false), (.bool false), (.bool false), (.bool false), (.bool false), (.bool false), (.bool false), (.bool false), (.bool false), (.bool false), (.bool false), (.bool false), (.bool false), (.bool false), (.bool false), (.bool false), (.bool false), (.bool false), (.bool false), (.bool false), (.bool false), (.bool false), (.bool false), (.bool false), (.bool false), (.bool false), (.bool false), (.bool false), (.bool false), (.bool false), (.bool false), (.bool false), (.bool false), (.bool false), (.bool false), (.bool false), (.bool false), (.bool false), (.bool false), (.bool false), (.bool false), (.bool false), (.bool false), (.bool false), (.bool false), (.bool false), (.bool false), (.bool false), (.bool false), (.bool false), (.bool false), (.bool false), (.bool false), (.bool false), (.bool false), (.bool false), (.bool false), (.bool false), (.bool false), (.bool false), (.bool false), (.bool false), (.bool false), (.bool false), (.bool false), (.bool false), (.bool false), (.bool false), (.bool false), (.bool false), (.bool false), (.bool false), (.bool false), (.bool false), (.bool false), (.bool false), (.bool false), (.bool false), (.bool false), (.bool false), (.bool false), (.bool false), (.bool false), (.bool false), (.bool false), (.bool false), (.bool false), (.bool false), (.bool false), (.bool false), (.bool false), (.bool false), (.bool false), (.bool false), (.bool false), (.bool false), (.bool false), (.bool false), (.bool false), (.bool false), (.bool false), (.bool false), (.bool false), (.bool false), (.bool false), (.bool false), (.bool false), (.bool false), (.bool false), (.bool false), (.bool false), (.bool false), (.bool false), (.bool false), (.bool false), (.bool false), (.bool false), (.bool false), (.bool false), (.bool false), (.bool false), (.bool false), (.bool false), (.bool false), (.bool false), (.bool false), (.bool false), (.bool false), (.bool false), (.bool false), (.bool false), (.bool false), (.bool false), (.bool false), (.bool false), (.bool false), (.bool false), (.bool false), (.bool false), (.bool false), (.bool false), (.bool false), (.bool false), (.bool false), (.bool false), (.bool false), (.bool false), (.bool false), (.bool false), (.bool false), (.bool false), (.bool false), (.bool false), (.bool false), (.bool false), (.bool false), (.bool false), (.bool false), (.bool false), (.bool false), (.bool false), (.bool false), (.bool false), (.bool false), (.bool false), (.bool false), (.bool false), (.bool false), (.bool false), (.bool false), (.bool false), (.bool false), (.bool false), (.bool false)] true 2)) .nil .nil))) .nil) .nil) (.node none .nil (.node none (.node none (.node none .nil (.node (some (.cells 46 [(.string ⟨⟨[97]⟩⟩), (.slice (some ⟨182, 0, none⟩) 2 9223372036854775810), (.string ⟨⟨[98]⟩⟩), (.slice none 0 0)] false 2)) .nil .nil)) .nil) (.node none (.node none .nil (.node (some (.cells 46 [(.string ⟨⟨[]⟩⟩), (.slice none 0 0)] true 2)) .nil .nil)) .nil)))) (.node none (.node none (.node none .nil (.node none (.node (some (.cells 9 [(.string ⟨⟨[97]⟩⟩), (.string ⟨⟨[34, 98, 44, 99, 34]⟩⟩), (.string ⟨⟨[100]⟩⟩)] false 2)) .nil .nil) .nil)) .nil) (.node none .nil (.node none .nil (.node none (.node none .nil (.node (some (.cells 172 [(.string ⟨⟨[59, 113, 61, 48, 46, 53]⟩⟩)] true 2)) .nil .nil)) .nil))))) (.node none (.node none .nil (.node none .nil (.node none .nil (.node none (.node none .nil (.node (some (.cells 46 [(.string ⟨⟨[97]⟩⟩), (.slice none 0 0)] true 2)) .nil .nil)) .nil)))) (.node none (.node none .nil (.node none .nil (.node none (.node none .nil (.node (some (.cells 9 [(.string ⟨⟨[97, 59, 113, 61, 48, 46, 53]⟩⟩), (.string ⟨⟨[98]⟩⟩), (.string ⟨⟨[99, 59, 113, 61, 48, 46, 53]⟩⟩)] false 2)) .nil .nil)) .nil))) (.node none (.node none .nil (.node none .nil (.node none (.node (some (.cells 53 [(.string ⟨⟨[113]⟩⟩), (.string ⟨⟨[49]⟩⟩), (.string ⟨⟨[120]⟩⟩), (.string ⟨⟨[121, 59, 122]⟩⟩)] false 2)) .nil .nil) .nil))) .nil)))), 224⟩⟩
theorem seg10 : chunk Tryz.prog nest 2500 [81, 182, 203, 218, 219, 220, 221, 223] s10 = .ok s11 := by kernel_rfl
noncomputable def s12 : AS := ⟨⟨144, 18, (.node (some (.string ⟨⟨[48, 46, 53]⟩⟩)) (.node none (.node (some (.int .i64 2)) (.node (some (.bool true)) (.node (some (.int .i64 1)) .nil .nil) .nil) (.node (some (.int .u8 46)) .nil .nil)) (.node (some (.string ⟨⟨[48, 46, 53]⟩⟩)) (.node (some (.string ⟨⟨[48, 46, 53]⟩⟩)) .nil .nil) (.node (some (.bool true)) .nil .nil))) (.node (some (.int .i64 0)) (.node (some (.int .i64 1)) (.node (some (.bool true)) (.node (some (.int .i64 2)) .nil .nil) .nil) (.node (some (.int .i64 1)) .nil .nil)) (.node (some (.int .i64 3)) (.node (some (.int .i64 1)) .nil .nil) (.node (some (.bool true)) .nil .nil)))), [.inRegion (opsAt b144 [1, 1, 0, 0, 0, 0, 0]) [0, 1, 2, 3, 4, 5, 6, 7, 8, 9, 10], .code (codeAt b144 [1, 1, 0, 0, 0, 0, 1]), .code (codeAt b144 [1, 1, 0, 0, 0, 1]), .inLoop (codeAt b144 [1, 1, 0, 0, 0]), .inBlock 0, .code (codeAt b144 [1, 1, 1])], [], .run, .normal, none⟩, [⟨87, 17, (.node (some (.string ⟨⟨[48, 46, 53]⟩⟩)) (.node none (.node (some (.string ⟨⟨[48, 46, 53]⟩⟩)) (.node (some (.int .i64 3)) .nil .nil) (.node (some (.string ⟨⟨[48, 46, 53]⟩⟩)) .nil .nil)) (.node (some (.bool true)) (.node (some (.bool true)) .nil .nil) .nil)) (.node (some (.bool false)) (.node (some (.bool true)) (.node (some (.bool true)) .nil .nil) .nil) (.node (some (.string ⟨⟨[48, 46, 53]⟩⟩)) (.node (some (.bool true)) .nil .nil) .nil))), [.inRegion (opsAt b87 [1, 0]) [9, 10, 11, 12, 13, 14], .code .ret], [], .run, .normal, none⟩, ⟨159, 30, (.node (some (.pointer (some ⟨221, 0, none⟩))) (.node none (.node (some (.bool false)) (.node (some (.pointer (some ⟨221, 0, none⟩))) (.node (some (.int .i64 3)) .nil .nil) (.node (some (.string ⟨⟨[]⟩⟩)) .nil .nil)) (.node (some (.pointer (some ⟨221, 0, none⟩))) (.node (some (.pointer (some ⟨221, 0, none⟩))) .nil .nil) (.node (some (.string ⟨⟨[48, 46, 53]⟩⟩)) .nil .nil))) (.node (some (.string ⟨⟨[48, 46, 53]⟩⟩)) (.node (some (.string ⟨⟨[48, 46, 53]⟩⟩)) (.node (some (.pointer (some ⟨221, 0, none⟩))) .nil .nil) (.node (some (.pointer (some ⟨221, 0, none⟩))) .nil .nil)) (.node (some (.pointer (some ⟨221, 0, none⟩))) (.node (some (.string ⟨⟨[48, 46, 53]⟩⟩)) .nil .nil) .nil))) (.node (some (.string ⟨⟨[]⟩⟩)) (.node (some (.int .i64 3)) (.node (some (.pointer (some ⟨221, 0, none⟩))) (.node (some (.string ⟨⟨[48, 46, 53]⟩⟩)) .nil .nil) (.node (some (.pointer (some ⟨221, 0, none⟩))) .nil .nil)) (.node (some (.pointer (some ⟨221, 0, none⟩))) (.node (some (.pointer (some ⟨221, 0, none⟩))) .nil .nil) (.node (some (.string ⟨⟨[48, 46, 53]⟩⟩)) .nil .nil))) (.node (some (.pointer (some ⟨221, 0, none⟩))) (.node (some (.int .i64 3)) (.node (some (.pointer (some ⟨221, 0, none⟩))) .nil .nil) (.node (some (.string ⟨⟨[48, 46, 53]⟩⟩)) .nil .nil)) (.node (some (.string ⟨⟨[48, 46, 53]⟩⟩)) (.node (some (.int .i64 3)) .nil .nil) .nil)))), [.inRegion (opsAt b159 [1, 1, 1, 1, 0]) [3, 4, 5], .code .ret], [], .run, .normal, none⟩, ⟨199, 44, (.node (some (.pointer (some ⟨221, 0, none⟩))) (.node none (.node (some (.bool false)) (.node (some (.pointer (some ⟨221, 0, none⟩))) (.node (some (.string ⟨⟨[48, 46, 53]⟩⟩)) .nil .nil) .nil) (.node (some (.bool false)) (.node (some (.bool true)) .nil .nil) .nil)) (.node none (.node (some (.string ⟨⟨[48, 46, 53]⟩⟩)) (.node (some (.int .i64 1)) .nil .nil) .nil) (.node (some (.pointer (some ⟨221, 0, none⟩))) .nil .nil))) (.node (some (.string ⟨⟨[]⟩⟩)) (.node none (.node (some (.pointer (some ⟨221, 0, none⟩))) (.node (some (.int .u8 48)) .nil .nil) .nil) (.node (some (.pointer (some ⟨221, 0, none⟩))) (.node (some (.pointer (some ⟨221, 0, none⟩))) .nil .nil) .nil)) (.node (some (.pointer (some ⟨221, 0, none⟩))) (.node (some (.bool false)) (.node (some (.bool true)) .nil .nil) .nil) (.node (some (.pointer (some ⟨221, 0, none⟩))) .nil .nil)))), [.inRegion (opsAt b199 [1, 0, 1, 0, 0]) [1, 2, 3, 4, 5], .code .ret, .code (codeAt b199 [1, 1])], [], .run, .normal, none⟩, ⟨161, 38, (.node (some (.pointer (some ⟨221, 0, none⟩))) (.node none (.node (some (.bool true)) (.node (some (.tuple ⟨[(.string ⟨⟨[113]⟩⟩), (.bool true)]⟩)) (.node (some (.pointer (some ⟨227, 0, none⟩))) (.node (some (.pointer (some ⟨221, 0, none⟩))) .nil .nil) .nil) (.node (some (.string ⟨⟨[48, 46, 53]⟩⟩)) .nil .nil)) (.node (some (.bool false)) (.node (some (.pointer (some ⟨221, 0, none⟩))) .nil .nil) (.node (some (.bool true)) .nil .nil))) (.node (some (.tuple ⟨[(.string ⟨⟨[113]⟩⟩), (.bool true)]⟩)) (.node (some (.bool true)) (.node (some (.pointer (some ⟨221, 0, none⟩))) .nil .nil) (.node (some (.pointer (some ⟨221, 0, none⟩))) .nil .nil)) (.node (some (.string ⟨⟨[113]⟩⟩)) (.node (some (.string ⟨⟨[61, 48, 46, 53]⟩⟩)) .nil .nil) .nil))) (.node (some (.pointer (some ⟨227, 0, none⟩))) (.node (some (.string ⟨⟨[113]⟩⟩)) (.node (some (.string ⟨⟨[113]⟩⟩)) (.node (some (.tuple ⟨[(.string ⟨⟨[48, 46, 53]⟩⟩), (.bool true)]⟩)) .nil .nil) (.node (some (.bool true)) .nil .nil)) (.node none (.node (some (.pointer (some ⟨221, 0, none⟩))) .nil .nil) (.node (some (.bool false)) .nil .nil))) (.node (some (.pointer (some ⟨221, 0, none⟩))) (.node (some (.bool true)) (.node (some (.pointer (some ⟨221, 0, none⟩))) .nil .nil) (.node (some (.pointer (some ⟨221, 0, none⟩))) .nil .nil)) (.node (some (.string ⟨⟨[113]⟩⟩)) (.node (some (.tuple ⟨[(.string ⟨⟨[48, 46, 53]⟩⟩), (.bool true)]⟩)) .nil .nil) .nil)))), [.inRegion (opsAt b161 [1, 1, 1, 1, 1, 0]) [1, 2, 3, 4, 5, 6, 7], .code (codeAt b161 [1, 1, 1, 1, 1, 1])], [], .run, .normal, none⟩, ⟨117, 47, (.node (some (.string ⟨⟨[97, 59, 113, 61, 48, 46, 53]⟩⟩)) (.node none (.node (some (.bool true)) (.node (some (.string ⟨⟨[97, 59, 113, 61, 48, 46, 53]⟩⟩)) (.node (some (.bool false)) (.node (some (.bool false)) .nil .nil) .nil) (.node (some (.pointer (some ⟨221, 0, none⟩))) .nil .nil)) (.node (some (.string ⟨⟨[97]⟩⟩)) (.node (some (.bool true)) .nil .nil) (.node (some (.pointer (some ⟨221, 0, none⟩))) .nil .nil))) (.node none (.node (some (.tuple ⟨[(.string ⟨⟨[97]⟩⟩), (.bool true)]⟩)) (.node (some (.pointer (some ⟨221, 0, none⟩))) .nil .nil) (.node (some (.bool false)) .nil .nil)) (.node (some (.pointer (some ⟨220, 0, none⟩))) (.node (some (.bool false)) .nil .nil) (.node (some (.int .u8 113)) .nil .nil)))) (.node (some (.pointer (some ⟨220, 0, none⟩))) (.node (some (.pointer (some ⟨221, 0, none⟩))) (.node (some (.agg ⟨[(.string ⟨⟨[97, 59, 113, 61, 48, 46, 53]⟩⟩)]⟩)) (.node none (.node (some (.bool false)) .nil .nil) .nil) (.node (some (.string ⟨⟨[113, 61, 48, 46, 53]⟩⟩)) .nil .nil)) (.node (some (.bool true)) (.node (some (.bool true)) .nil .nil) (.node (some (.string ⟨⟨[113, 61, 48, 46, 53]⟩⟩)) .nil .nil))) (.node none (.node (some (.tuple ⟨[(.string ⟨⟨[97]⟩⟩), (.bool true)]⟩)) (.node (some (.string ⟨⟨[59, 113, 61, 48, 46, 53]⟩⟩)) .nil .nil) (.node (some (.bool false)) .nil .nil)) (.node (some (.bool true)) .nil (.node (some (.int .i64 1)) .nil .nil))))), [.inRegion (opsAt b117 [1, 1, 1, 0, 0, 0, 1, 0, 1, 1, 0]) [0, 1, 2, 3, 4, 5, 6], .code (codeAt b117 [1, 1, 1, 0, 0, 0, 1, 0, 1, 1, 1]), .inBlock 1, .inLoop (codeAt b117 [1, 1, 1, 0, 0, 0]), .inBlock 0, .code (codeAt b117 [1, 1, 1, 1])], [], .run, .normal, none⟩, ⟨60, 26, (.node (some (.string ⟨⟨[97, 59, 113, 61, 48, 46, 53]⟩⟩)) (.node none (.node (some (.int .i64 0)) (.node (some (.string ⟨⟨[97, 59, 113, 61, 48, 46, 53]⟩⟩)) .nil .nil) .nil) .nil) (.node (some (.pointer (some ⟨219, 0, none⟩))) .nil .nil)), [.inRegion (opsAt b60 [1, 0]) [1, 2, 3, 4, 5, 6, 7], .code (codeAt b60 [1, 1])], [], .run, .normal, none⟩, ⟨16, 42, (.node (some (.string ⟨⟨[97, 59, 113, 61, 48, 46, 53, 44, 32, 98, 44, 32, 99, 59, 113, 61, 48, 46, 53]⟩⟩)) (.node none (.node (some (.int .i64 0)) (.node none (.node (some (.int .i64 0)) .nil .nil) (.node (some (.int .i64 3)) .nil .nil)) (.node (some (.tuple ⟨[(.slice (some ⟨218, 0, none⟩) 3 9223372036854775809), (.int .i64 0)]⟩)) (.node (some (.slice (some ⟨218, 0, none⟩) 3 9223372036854775809)) .nil .nil) (.node (some (.string ⟨⟨[97, 59, 113, 61, 48, 46, 53]⟩⟩)) .nil .nil))) (.node (some (.int .i64 0)) (.node none (.node (some (.bool false)) .nil .nil) (.node (some (.bool true)) .nil .nil)) (.node (some (.tuple ⟨[(.slice (some ⟨218, 0, none⟩) 3 9223372036854775809), (.int .i64 0)]⟩)) (.node (some (.bool false)) .nil .nil) (.node (some (.string ⟨⟨[97, 59, 113, 61, 48, 46, 53]⟩⟩)) .nil .nil)))) (.node (some (.slice none 0 0)) (.node (some (.slice (some ⟨218, 0, none⟩) 3 9223372036854775809)) (.node (some (.string ⟨⟨[97, 59, 113, 61, 48, 46, 53]⟩⟩)) (.node (some (.int .i64 0)) .nil .nil) (.node (some (.int .i64 0)) .nil .nil)) (.node (some (.string ⟨⟨[97, 59, 113, 61, 48, 46, 53, 44, 32, 98, 44, 32, 99, 59, 113, 61, 48, 46, 53]⟩⟩)) (.node (some (.int .i64 3)) .nil .nil) .nil)) (.node (some (.slice none 0 0)) (.node none .nil (.node (some (.pointer (some ⟨218, 0, none⟩))) .nil .nil)) (.node (some (.slice (some ⟨218, 0, none⟩) 3 9223372036854775809)) (.node (some (.slice (some ⟨218, 0, none⟩) 3 9223372036854775809)) .nil .nil) .nil)))), [.inRegion (opsAt b16 [1, 1, 1, 1, 1, 0, 1, 0, 0, 1, 1, 0, 0, 1, 0]) [1, 2, 3, 4, 5, 6, 7], .code (codeAt b16 [1, 1, 1, 1, 1, 0, 1, 0, 0, 1, 1, 0, 0, 1, 1]), .inBlock 1, .code (codeAt b16 [1, 1, 1, 1, 1, 0, 1, 0, 0, 1, 1, 1]), .inLoop (codeAt b16 [1, 1, 1, 1, 1, 0, 1, 0, 0]), .inBlock 0, .code (codeAt b16 [1, 1, 1, 1, 1, 1])], [], .run, .normal, none⟩, ⟨18, 44, (.node (some (.string ⟨⟨[97, 59, 113, 61, 48, 46, 53, 44, 32, 98, 44, 32, 99, 59, 113, 61, 48, 46, 53]⟩⟩)) (.node none (.node (some (.int .i64 0)) .nil .nil) .nil) (.node (some (.slice none 0 0)) (.node none .nil (.node (some (.string ⟨⟨[97, 59, 113, 61, 48, 46, 53, 44, 32, 98, 44, 32, 99, 59, 113, 61, 48, 46, 53]⟩⟩)) .nil .nil)) .nil)), [.inRegion (opsAt b18 [1, 0]) [1, 2, 3, 4, 5, 6], .code (codeAt b18 [1, 1])], [], .run, .normal, none⟩, ⟨15, 79, (.node (some (.bool false)) (.node (some (.string ⟨⟨[34, 115, 97, 121, 32, 92, 34, 104, 105, 92, 34, 34]⟩⟩)) (.node (some (.slice (some ⟨81, 0, none⟩) 3 9223372036854775809)) (.node none (.node (some (.int .i64 0)) .nil .nil) (.node (some (.int .i64 0)) .nil .nil)) (.node none (.node (some (.int .i64 0)) .nil .nil) .nil)) (.node (some (.slice (some ⟨203, 0, none⟩) 2 9223372036854775810)) (.node none (.node (some (.tuple ⟨[(.slice (some ⟨81, 0, none⟩) 3 9223372036854775809), (.int .i64 0)]⟩)) .nil .nil) .nil) (.node (some (.tuple ⟨[(.string ⟨⟨[34, 115, 97, 121, 32, 92, 34, 104, 105, 92, 34, 34]⟩⟩), (.int .i64 0)]⟩)) (.node (some (.tuple ⟨[(.slice (some ⟨203, 0, none⟩) 2 9223372036854775810), (.int .i64 0)]⟩)) .nil .nil) .nil))) (.node (some (.int .i64 0)) (.node (some (.int .i64 0)) (.node none (.node (some (.tuple ⟨[(.slice (some ⟨81, 0, none⟩) 3 9223372036854775809), (.int .i64 0)]⟩)) .nil .nil) .nil) (.node (some (.tuple ⟨[(.string ⟨⟨[34, 115, 97, 121, 32, 92, 34, 104, 105, 92, 34, 34]⟩⟩), (.int .i64 0)]⟩)) (.node (some (.tuple ⟨[(.slice (some ⟨203, 0, none⟩) 2 9223372036854775810), (.int .i64 0)]⟩)) .nil .nil) .nil)) (.node (some (.int .i64 0)) (.node none (.node (some (.slice (some ⟨81, 0, none⟩) 3 9223372036854775809)) .nil .nil) .nil) (.node (some (.string ⟨⟨[34, 115, 97, 121, 32, 92, 34, 104, 105, 92, 34, 34]⟩⟩)) (.node (some (.slice (some ⟨203, 0, none⟩) 2 9223372036854775810)) .nil .nil) .nil)))), [.inRegion (opsAt b15 [1, 1, 1, 1, 0]) [0, 1, 2, 3, 4, 5], .code (codeAt b15 [1, 1, 1, 1, 1])], [], .run, .normal, none⟩], ⟨(.node none (.node none (.node none .nil (.node none (.node none (.node none .nil (.node none .nil (.node (some (.cells 53 [(.string ⟨⟨[113]⟩⟩), (.string ⟨⟨[]⟩⟩)] true 2)) .nil .nil))) .nil) (.node none (.node none (.node none .nil (.node (some (.cells 46 [(.string ⟨⟨[97]⟩⟩), (.slice (some ⟨182, 0, none⟩) 2 9223372036854775810), (.string ⟨⟨[98]⟩⟩), (.slice none 0 0)] false 2)) .nil .nil)) .nil) (.node none (.node none .nil (.node (some (.cells 46 [(.string ⟨⟨[]⟩⟩), (.slice none 0 0)] true 2)) .nil .nil)) .nil)))) (.node none (.node none (.node none .nil (.node none (.node (some (.cells 9 [(.string ⟨⟨[97]⟩⟩), (.string ⟨⟨[34, 98, 44, 99, 34]⟩⟩), (.string ⟨⟨[100]⟩⟩)] false 2)) .nil .nil) .nil)) .nil) (.node none .nil (.node none .nil (.node none (.node none .nil (.node (some (.cells 172 [(.string ⟨⟨[]⟩⟩)] true 2)) .nil .nil)) .nil))))) (.node none (.node none .nil (.node none .nil (.node none .nil (.node none (.node none .nil (.node (some (.cells 46 [(.string ⟨⟨[97]⟩⟩), (.slice none 0 0)] true 2)) .nil .nil)) .nil)))) (.node none (.node none .nil (.node none .nil (.node none (.node none .nil (.node (some (.cells 9 [(.string ⟨⟨[97, 59, 113, 61, 48, 46, 53]⟩⟩), (.string ⟨⟨[98]⟩⟩), (.string ⟨⟨[99, 59, 113, 61, 48, 46, 53]⟩⟩)] false 2)) .nil .nil)) .nil))) (.node none (.node none .nil (.node none .nil (.node none (.node (some (.cells 53 [(.string ⟨⟨[113]⟩⟩), (.string ⟨⟨[49]⟩⟩), (.string ⟨⟨[120]⟩⟩), (.string ⟨⟨[121, 59, 122]⟩⟩)] false 2)) .nil .nil) .nil))) .nil)))), 245⟩⟩
theorem seg11 : chunk Tryz.prog nest 2500 [81, 182, 203, 218, 219, 220, 221, 227] s11 = .ok s12 := by kernel_rfl
noncomputable def s13 : AS := ⟨⟨131, 32, (.node (some (.int .u8 113)) (.node none (.node (some (.int .u8 113)) .nil .nil) .nil) (.node (some (.int .i64 0)) .nil .nil)), [.code (codeAt b131 [1, 0, 1, 0, 0, 0]), .code (codeAt b131 [1, 0, 1, 0, 0, 1]), .code (codeAt b131 [1, 0, 1, 0, 1]), .inBlock 0, .code (codeAt b131 [1, 1])], [], .run, .normal, none⟩, [⟨144, 18, (.node (some (.string ⟨⟨[113, 61, 48, 46, 53]⟩⟩)) (.node none (.node (some (.int .i64 0)) (.node (some (.bool true)) .nil .nil) (.node (some (.int .u8 113)) .nil .nil)) (.node (some (.string ⟨⟨[113, 61, 48, 46, 53]⟩⟩)) (.node (some (.string ⟨⟨[113, 61, 48, 46, 53]⟩⟩)) .nil .nil) .nil)) (.node (some (.int .i64 0)) (.node (some (.int .i64 0)) (.node (some (.bool true)) .nil .nil) .nil) (.node (some (.int .i64 5)) (.node (some (.int .i64 0)) .nil .nil) .nil))), [.inRegion (opsAt b144 [1, 1, 0, 0, 0, 0, 0]) [8, 9, 10], .code (codeAt b144 [1, 1, 0, 0, 0, 0, 1]), .code (codeAt b144 [1, 1, 0, 0, 0, 1]), .inLoop (codeAt b144 [1, 1, 0, 0, 0]), .inBlock 0, .code (codeAt b144 [1, 1, 1])], [], .run, .normal, none⟩, ⟨159, 30, (.node (some (.pointer (some ⟨268, 0, none⟩))) (.node none (.node (some (.bool false)) (.node (some (.pointer (some ⟨268, 0, none⟩))) .nil .nil) .nil) (.node none (.node (some (.string ⟨⟨[113, 61, 48, 46, 53]⟩⟩)) .nil .nil) .nil)) (.node (some (.string ⟨⟨[]⟩⟩)) (.node none (.node (some (.pointer (some ⟨268, 0, none⟩))) .nil .nil) .nil) (.node (some (.pointer (some ⟨268, 0, none⟩))) .nil .nil))), [.inRegion (opsAt b159 [1, 0]) [4, 5], .code (codeAt b159 [1, 1])], [], .run, .normal, none⟩, ⟨161, 38, (.node (some (.pointer (some ⟨268, 0, none⟩))) (.node none (.node (some (.bool false)) .nil .nil) .nil) (.node (some (.pointer (some ⟨274, 0, none⟩))) .nil (.node (some (.pointer (some ⟨268, 0, none⟩))) .nil .nil))), [.inRegion (opsAt b161 [1, 0]) [1, 2, 3, 4, 5, 6], .code (codeAt b161 [1, 1])], [], .run, .normal, none⟩, ⟨117, 47, (.node (some (.string ⟨⟨[99, 59, 113, 61, 48, 46, 53]⟩⟩)) (.node none (.node (some (.bool true)) (.node (some (.string ⟨⟨[99, 59, 113, 61, 48, 46, 53]⟩⟩)) (.node (some (.bool false)) (.node (some (.bool false)) .nil .nil) .nil) (.node (some (.pointer (some ⟨268, 0, none⟩))) .nil .nil)) (.node (some (.string ⟨⟨[99]⟩⟩)) (.node (some (.bool true)) .nil .nil) (.node (some (.pointer (some ⟨268, 0, none⟩))) .nil .nil))) (.node none (.node (some (.tuple ⟨[(.string ⟨⟨[99]⟩⟩), (.bool true)]⟩)) (.node (some (.pointer (some ⟨268, 0, none⟩))) .nil .nil) (.node (some (.bool false)) .nil .nil)) (.node (some (.pointer (some ⟨267, 0, none⟩))) (.node (some (.bool false)) .nil .nil) (.node (some (.int .u8 113)) .nil .nil)))) (.node (some (.pointer (some ⟨267, 0, none⟩))) (.node (some (.pointer (some ⟨268, 0, none⟩))) (.node (some (.agg ⟨[(.string ⟨⟨[99, 59, 113, 61, 48, 46, 53]⟩⟩)]⟩)) (.node none (.node (some (.bool false)) .nil .nil) .nil) (.node (some (.string ⟨⟨[113, 61, 48, 46, 53]⟩⟩)) .nil .nil)) (.node (some (.bool true)) (.node (some (.bool true)) .nil .nil) (.node (some (.string ⟨⟨[113, 61, 48, 46, 53]⟩⟩)) .nil .nil))) (.node none (.node (some (.tuple ⟨[(.string ⟨⟨[99]⟩⟩), (.bool true)]⟩)) (.node (some (.string ⟨⟨[59, 113, 61, 48, 46, 53]⟩⟩)) .nil .nil) (.node (some (.bool false)) .nil .nil)) (.node (some (.bool true)) .nil (.node (some (.int .i64 1)) .nil .nil))))), [.inRegion (opsAt b117 [1, 1, 1, 0, 0, 0, 1, 0, 1, 1, 0]) [0, 1, 2, 3, 4, 5, 6], .code (codeAt b117 [1, 1, 1, 0, 0, 0, 1, 0, 1, 1, 1]), .inBlock 1, .inLoop (codeAt b117 [1, 1, 1, 0, 0, 0]), .inBlock 0, .code (codeAt b117 [1, 1, 1, 1])], [], .run, .normal, none⟩, ⟨60, 26, (.node (some (.string ⟨⟨[99, 59, 113, 61, 48, 46, 53]⟩⟩)) (.node none (.node (some (.int .i64 0)) (.node (some (.string ⟨⟨[99, 59, 113, 61, 48, 46, 53]⟩⟩)) .nil .nil) .nil) .nil) (.node (some (.pointer (some ⟨266, 0, none⟩))) .nil .nil)), [.inRegion (opsAt b60 [1, 0]) [1, 2, 3, 4, 5, 6, 7], .code (codeAt b60 [1, 1])], [], .run, .normal, none⟩, ⟨16, 42, (.node (some (.string ⟨⟨[97, 59, 113, 61, 48, 46, 53, 44, 32, 98, 44, 32, 99, 59, 113, 61, 48, 46, 53]⟩⟩)) (.node none (.node (some (.int .i64 0)) (.node none (.node (some (.int .i64 0)) (.node (some (.agg ⟨[(.string ⟨⟨[98]⟩⟩), (.slice none 0 0)]⟩)) .nil .nil) .nil) (.node (some (.int .i64 3)) (.node (some (.slice (some ⟨265, 0, none⟩) 2 9223372036854775810)) .nil .nil) .nil)) (.node (some (.tuple ⟨[(.slice (some ⟨218, 0, none⟩) 3 9223372036854775809), (.int .i64 0)]⟩)) (.node (some (.slice (some ⟨218, 0, none⟩) 3 9223372036854775809)) .nil .nil) (.node (some (.string ⟨⟨[99, 59, 113, 61, 48, 46, 53]⟩⟩)) .nil .nil))) (.node (some (.int .i64 0)) (.node (some (.pointer (some ⟨263, 0, none⟩))) (.node (some (.bool false)) (.node (some (.int .i64 0)) .nil .nil) .nil) (.node (some (.bool true)) .nil .nil)) (.node (some (.tuple ⟨[(.slice (some ⟨218, 0, none⟩) 3 9223372036854775809), (.int .i64 0)]⟩)) (.node (some (.bool false)) (.node (some (.agg ⟨[(.string ⟨⟨[98]⟩⟩), (.slice none 0 0)]⟩)) .nil .nil) .nil) (.node (some (.string ⟨⟨[99, 59, 113, 61, 48, 46, 53]⟩⟩)) .nil .nil)))) (.node (some (.slice none 0 0)) (.node (some (.slice (some ⟨218, 0, none⟩) 3 9223372036854775809)) (.node (some (.string ⟨⟨[99, 59, 113, 61, 48, 46, 53]⟩⟩)) (.node (some (.int .i64 0)) (.node (some (.int .i64 0)) .nil .nil) .nil) (.node (some (.int .i64 2)) (.node (some (.int .i64 2)) .nil .nil) .nil)) (.node (some (.string ⟨⟨[97, 59, 113, 61, 48, 46, 53, 44, 32, 98, 44, 32, 99, 59, 113, 61, 48, 46, 53]⟩⟩)) (.node (some (.int .i64 3)) (.node (some (.slice (some ⟨255, 0, none⟩) 1 9223372036854775810)) .nil .nil) .nil) (.node (some (.tuple ⟨[(.agg ⟨[(.string ⟨⟨[98]⟩⟩), (.slice none 0 0)]⟩), (.int .i64 0)]⟩)) .nil .nil))) (.node (some (.slice (some ⟨265, 0, none⟩) 2 9223372036854775810)) (.node (some (.int .i64 0)) (.node none (.node (some (.bool false)) .nil .nil) .nil) (.node (some (.pointer (some ⟨218, 2, none⟩))) .nil .nil)) (.node (some (.slice (some ⟨218, 0, none⟩) 3 9223372036854775809)) (.node (some (.slice (some ⟨218, 0, none⟩) 3 9223372036854775809)) (.node (some (.slice (some ⟨264, 0, none⟩) 1 1)) .nil .nil) .nil) (.node (some (.tuple ⟨[(.agg ⟨[(.string ⟨⟨[98]⟩⟩), (.slice none 0 0)]⟩), (.int .i64 0)]⟩)) .nil .nil))))), [.inRegion (opsAt b16 [1, 1, 1, 1, 1, 0, 1, 0, 0, 1, 1, 0, 0, 1, 0]) [1, 2, 3, 4, 5, 6, 7], .code (codeAt b16 [1, 1, 1, 1, 1, 0, 1, 0, 0, 1, 1, 0, 0, 1, 1]), .inBlock 1, .code (codeAt b16 [1, 1, 1, 1, 1, 0, 1, 0, 0, 1, 1, 1]), .inLoop (codeAt b16 [1, 1, 1, 1, 1, 0, 1, 0, 0]), .inBlock 0, .code (codeAt b16 [1, 1, 1, 1, 1, 1])], [], .run, .normal, none⟩, ⟨18, 44, (.node (some (.string ⟨⟨[97, 59, 113, 61, 48, 46, 53, 44, 32, 98, 44, 32, 99, 59, 113, 61, 48, 46, 53]⟩⟩)) (.node none (.node (some (.int .i64 0)) .nil .nil) .nil) (.node (some (.slice none 0 0)) (.node none .nil (.node (some (.string ⟨⟨[97, 59, 113, 61, 48, 46, 53, 44, 32, 98, 44, 32, 99, 59, 113, 61, 48, 46, 53]⟩⟩)) .nil .nil)) .nil)), [.inRegion (opsAt b18 [1, 0]) [1, 2, 3, 4, 5, 6], .code (codeAt b18 [1, 1])], [], .run, .normal, none⟩, ⟨15, 79, (.node (some (.bool false)) (.node (some (.string ⟨⟨[34, 115, 97, 121, 32, 92, 34, 104, 105, 92, 34, 34]⟩⟩)) (.node (some (.slice (some ⟨81, 0, none⟩) 3 9223372036854775809)) (.node none (.node (some (.int .i64 0)) .nil .nil) (.node (some (.int .i64 0)) .nil .nil)) (.node none (.node (some (.int .i64 0)) .nil .nil) .nil)) (.node (some (.slice (some ⟨203, 0, none⟩) 2 9223372036854775810)) (.node none (.node (some (.tuple ⟨[(.slice (some ⟨81, 0, none⟩) 3 9223372036854775809), (.int .i64 0)]⟩)) .nil .nil) .nil) (.node (some (.tuple ⟨[(.string ⟨⟨[34, 115, 97, 121, 32, 92, 34, 104, 105, 92, 34, 34]⟩⟩), (.int .i64 0)]⟩)) (.node (some (.tuple ⟨[(.slice (some ⟨203, 0, none⟩) 2 9223372036854775810), (.int .i64 0)]⟩)) .nil .nil) .nil))) (.node (some (.int .i64 0)) (.node (some (.int .i64 0)) (.node none (.node (some (.tuple ⟨[(.slice (some ⟨81, 0, none⟩) 3 9223372036854775809), (.int .i64 0)]⟩)) .nil .nil) .nil) (.node (some (.tuple ⟨[(.string ⟨⟨[34, 115, 97, 121, 32, 92, 34, 104, 105, 92, 34, 34]⟩⟩), (.int .i64 0)]⟩)) (.node (some (.tuple ⟨[(.slice (some ⟨203, 0, none⟩) 2 9223372036854775810), (.int .i64 0)]⟩)) .nil .nil) .nil)) (.node (some (.int .i64 0)) (.node none (.node (some (.slice (some ⟨81, 0, none⟩) 3 9223372036854775809)) .nil .nil) .nil) (.node (some (.string ⟨⟨[34, 115, 97, 121, 32, 92, 34, 104, 105, 92, 34, 34]⟩⟩)) (.node (some (.slice (some ⟨203, 0, none⟩) 2 9223372036854775810)) .nil .nil) .nil)))), [.inRegion (opsAt b15 [1, 1, 1, 1, 0]) [0, 1, 2, 3, 4, 5], .code (codeAt b15 [1, 1, 1, 1, 1])], [], .run, .normal, none⟩], ⟨(.node none (.node none (.node none (.node none .nil (.node none (.node none (.node none (.node none (.node (some (.cells 46 [(.string ⟨⟨[98]⟩⟩), (.slice none 0 0)] true 2)) .nil .nil) .nil) .nil) .nil) (.node none .nil (.node none .nil (.node (some (.cells 53 [(.string ⟨⟨[113]⟩⟩), (.string ⟨⟨[48, 46, 53]⟩⟩)] false 2)) .nil .nil))))) (.node none .nil (.node none (.node none (.node none (.node none (.node (some (.cells 46 [(.string ⟨⟨[99]⟩⟩), (.slice none 0 0)] true 2)) .nil .nil) .nil) (.node (some (.cells 46 [(.string ⟨⟨[97]⟩⟩), (.slice (some ⟨182, 0, none⟩) 2 9223372036854775810), (.string ⟨⟨[98]⟩⟩), (.slice none 0 0)] false 2)) .nil .nil)) .nil) .nil))) (.node none (.node none (.node none .nil (.node none (.node (some (.cells 9 [(.string ⟨⟨[97]⟩⟩), (.string ⟨⟨[34, 98, 44, 99, 34]⟩⟩), (.string ⟨⟨[100]⟩⟩)] false 2)) .nil .nil) .nil)) (.node none (.node none (.node none (.node none (.node (some (.cells 46 [(.string ⟨⟨[97]⟩⟩), (.slice (some ⟨247, 0, none⟩) 1 9223372036854775810), (.string ⟨⟨[98]⟩⟩), (.slice none 0 0)] false 2)) .nil .nil) .nil) .nil) .nil) .nil)) .nil)) (.node none (.node none (.node none .nil (.node none (.node none (.node none (.node none (.node (some (.cells 46 [(.string ⟨⟨[98]⟩⟩), (.slice none 0 0)] true 2)) .nil .nil) .nil) .nil) .nil) .nil)) (.node none .nil (.node none (.node none (.node none (.node none (.node (some (.cells 172 [(.string ⟨⟨[113, 61, 48, 46, 53]⟩⟩)] true 2)) .nil .nil) .nil) .nil) .nil) .nil))) (.node none (.node none (.node none .nil (.node none (.node none (.node none (.node (some (.cells 53 [(.string ⟨⟨[]⟩⟩), (.string ⟨⟨[]⟩⟩)] true 2)) .nil .nil) .nil) .nil) .nil)) (.node none (.node none (.node none (.node none (.node (some (.cells 46 [(.string ⟨⟨[]⟩⟩), (.slice none 0 0)] true 2)) .nil .nil) .nil) .nil) .nil) (.node none (.node none .nil (.node (some (.cells 9 [(.string ⟨⟨[97, 59, 113, 61, 48, 46, 53]⟩⟩), (.string ⟨⟨[98]⟩⟩), (.string ⟨⟨[99, 59, 113, 61, 48, 46, 53]⟩⟩)] false 2)) .nil .nil)) .nil))) (.node none (.node none .nil (.node none .nil (.node none (.node (some (.cells 53 [(.string ⟨⟨[113]⟩⟩), (.string ⟨⟨[49]⟩⟩), (.string ⟨⟨[120]⟩⟩), (.string ⟨⟨[121, 59, 122]⟩⟩)] false 2)) .nil .nil) .nil))) .nil)))), 275⟩⟩
theorem seg12 : chunk Tryz.prog nest 2500 [81, 182, 203, 218, 247, 263, 264, 265, 266, 267, 268, 274] s12 = .ok s13 := by kernel_rfl
noncomputable def s14 : AS := ⟨⟨18, 44, (.node (some (.string ⟨⟨[97, 59, 113, 61, 48, 46, 53, 44, 32, 98, 44, 32, 99, 59, 113, 61, 48, 46, 53]⟩⟩)) (.node none (.node (some (.int .i64 0)) .nil .nil) (.node none .nil (.node (some (.tuple ⟨[(.slice (some ⟨302, 0, none⟩) 3 9223372036854775810), (.int .i64 0)]⟩)) .nil .nil))) (.node (some (.slice none 0 0)) (.node none .nil (.node (some (.string ⟨⟨[97, 59, 113, 61, 48, 46, 53, 44, 32, 98, 44, 32, 99, 59, 113, 61, 48, 46, 53]⟩⟩)) .nil .nil)) .nil)), [.inRegion (opsAt b18 [1, 0]) [2, 3, 4, 5, 6], .code (codeAt b18 [1, 1])], [], .run, .normal, none⟩, [⟨15, 79, (.node (some (.bool false)) (.node (some (.string ⟨⟨[34, 115, 97, 121, 32, 92, 34, 104, 105, 92, 34, 34]⟩⟩)) (.node (some (.slice (some ⟨81, 0, none⟩) 3 9223372036854775809)) (.node none (.node (some (.int .i64 0)) .nil .nil) (.node (some (.int .i64 0)) .nil .nil)) (.node none (.node (some (.int .i64 0)) .nil .nil) .nil)) (.node (some (.slice (some ⟨203, 0, none⟩) 2 9223372036854775810)) (.node none (.node (some (.tuple ⟨[(.slice (some ⟨81, 0, none⟩) 3 9223372036854775809), (.int .i64 0)]⟩)) .nil .nil) .nil) (.node (some (.tuple ⟨[(.string ⟨⟨[34, 115, 97, 121, 32, 92, 34, 104, 105, 92, 34, 34]⟩⟩), (.int .i64 0)]⟩)) (.node (some (.tuple ⟨[(.slice (some ⟨203, 0, none⟩) 2 9223372036854775810), (.int .i64 0)]⟩)) .nil .nil) .nil))) (.node (some (.int .i64 0)) (.node (some (.int .i64 0)) (.node none (.node (some (.tuple ⟨[(.slice (some ⟨81, 0, none⟩) 3 9223372036854775809), (.int .i64 0)]⟩)) .nil .nil) .nil) (.node (some (.tuple ⟨[(.string ⟨⟨[34, 115, 97, 121, 32, 92, 34, 104, 105, 92, 34, 34]⟩⟩), (.int .i64 0)]⟩)) (.node (some (.tuple ⟨[(.slice (some ⟨203, 0, none⟩) 2 9223372036854775810), (.int .i64 0)]⟩)) .nil .nil) .nil)) (.node (some (.int .i64 0)) (.node none (.node (some (.slice (some ⟨81, 0, none⟩) 3 9223372036854775809)) .nil .nil) .nil) (.node (some (.string ⟨⟨[34, 115, 97, 121, 32, 92, 34, 104, 105, 92, 34, 34]⟩⟩)) (.node (some (.slice (some ⟨203, 0, none⟩) 2 9223372036854775810)) .nil .nil) .nil)))), [.inRegion (opsAt b15 [1, 1, 1, 1, 0]) [0, 1, 2, 3, 4, 5], .code (codeAt b15 [1, 1, 1, 1, 1])], [], .run, .normal, none⟩], ⟨(.node none (.node none (.node none (.node none .nil (.node none .nil (.node none .nil (.node none .nil (.node (some (.cells 53 [(.string ⟨⟨[113]⟩⟩), (.string ⟨⟨[48, 46, 53]⟩⟩)] false 2)) .nil .nil))))) (.node none .nil (.node none (.node none (.node none .nil (.node (some (.cells 46 [(.string ⟨⟨[97]⟩⟩), (.slice (some ⟨182, 0, none⟩) 2 9223372036854775810), (.string ⟨⟨[98]⟩⟩), (.slice none 0 0)] false 2)) .nil .nil)) .nil) .nil))) (.node none (.node none (.node none .nil (.node none (.node (some (.cells 9 [(.string ⟨⟨[97]⟩⟩), (.string ⟨⟨[34, 98, 44, 99, 34]⟩⟩), (.string ⟨⟨[100]⟩⟩)] false 2)) .nil .nil) .nil)) .nil) .nil)) (.node none .nil (.node none .nil (.node none (.node none (.node none .nil (.node none (.node none (.node (some (.cells 53 [(.string ⟨⟨[113]⟩⟩), (.string ⟨⟨[48, 46, 53]⟩⟩)] false 2)) .nil .nil) .nil) .nil)) (.node none .nil (.node none (.node (some (.cells 53 [(.string ⟨⟨[113]⟩⟩), (.string ⟨⟨[49]⟩⟩), (.string ⟨⟨[120]⟩⟩), (.string ⟨⟨[121, 59, 122]⟩⟩)] false 2)) .nil .nil) .nil))) (.node none (.node none .nil (.node none (.node none (.node (some (.cells 46 [(.string ⟨⟨[97]⟩⟩), (.slice (some ⟨247, 0, none⟩) 1 9223372036854775810), (.string ⟨⟨[98]⟩⟩), (.slice none 0 0), (.string ⟨⟨[99]⟩⟩), (.slice (some ⟨294, 0, none⟩) 1 9223372036854775810)] false 2)) .nil .nil) .nil) .nil)) .nil))))), 303⟩⟩
theorem seg13 : chunk Tryz.prog nest 2457 [81, 182, 203, 247, 294, 302] s13 = .ok s14 := by kernel_rfl
noncomputable def s15 : AS := ⟨⟨18, 44, (.node (some (.string ⟨⟨[97, 59, 113, 61, 48, 46, 53, 44, 32, 98, 44, 32, 99, 59, 113, 61, 48, 46, 53]⟩⟩)) (.node none (.node (some (.int .i64 0)) (.node none (.node (some (.int .i64 0)) (.node (some (.bool false)) .nil .nil) .nil) (.node (some (.pointer (some ⟨302, 4, none⟩))) (.node (some (.slice (some ⟨324, 0, none⟩) 2 9223372036854775810)) .nil .nil) .nil)) (.node (some (.tuple ⟨[(.slice (some ⟨302, 0, none⟩) 3 9223372036854775810), (.int .i64 0)]⟩)) (.node (some (.slice (some ⟨302, 0, none⟩) 3 9223372036854775810)) (.node (some (.string ⟨⟨[98]⟩⟩)) .nil .nil) .nil) (.node (some (.tuple ⟨[(.int .i64 500), (.int .i64 0)]⟩)) .nil .nil))) (.node (some (.int .i64 0)) (.node (some (.int .i64 1000)) (.node (some (.bool false)) (.node (some (.slice (some ⟨320, 0, none⟩) 1 9223372036854775810)) .nil .nil) .nil) (.node (some (.tuple ⟨[(.int .i64 500), (.int .i64 0)]⟩)) .nil .nil)) (.node (some (.tuple ⟨[(.slice (some ⟨302, 0, none⟩) 3 9223372036854775810), (.int .i64 0)]⟩)) (.node (some (.int .i64 2)) (.node (some (.agg ⟨[(.string ⟨⟨[98]⟩⟩), (.int .i64 1000)]⟩)) .nil .nil) .nil) (.node (some (.int .i64 0)) .nil .nil)))) (.node (some (.slice none 0 0)) (.node (some (.slice (some ⟨302, 0, none⟩) 3 9223372036854775810)) (.node (some (.pointer (some ⟨325, 0, none⟩))) (.node (some (.int .i64 0)) .nil .nil) (.node (some (.agg ⟨[(.string ⟨⟨[99]⟩⟩), (.slice (some ⟨294, 0, none⟩) 1 9223372036854775810)]⟩)) (.node (some (.int .i64 2)) .nil .nil) .nil)) (.node (some (.string ⟨⟨[97, 59, 113, 61, 48, 46, 53, 44, 32, 98, 44, 32, 99, 59, 113, 61, 48, 46, 53]⟩⟩)) (.node (some (.int .i64 3)) (.node (some (.int .i64 1000)) .nil .nil) .nil) (.node (some (.int .i64 1000)) .nil .nil))) (.node (some (.slice (some ⟨324, 0, none⟩) 2 9223372036854775810)) (.node (some (.int .i64 0)) (.node none (.node (some (.pointer (some ⟨321, 0, none⟩))) .nil .nil) .nil) (.node (some (.agg ⟨[(.string ⟨⟨[99]⟩⟩), (.slice (some ⟨294, 0, none⟩) 1 9223372036854775810)]⟩)) .nil .nil)) (.node (some (.slice (some ⟨302, 0, none⟩) 3 9223372036854775810)) (.node (some (.bool true)) (.node (some (.slice (some ⟨323, 0, none⟩) 1 1)) .nil .nil) .nil) (.node (some (.int .i64 0)) .nil .nil))))), [.inRegion (opsAt b18 [1, 1, 1, 1, 0, 1, 0, 0, 1, 1, 0, 0, 1, 0]) [3, 4, 5, 6], .code (codeAt b18 [1, 1, 1, 1, 0, 1, 0, 0, 1, 1, 0, 0, 1, 1]), .inBlock 1, .code (codeAt b18 [1, 1, 1, 1, 0, 1, 0, 0, 1, 1, 1]), .inLoop (codeAt b18 [1, 1, 1, 1, 0, 1, 0, 0]), .inBlock 0, .code (codeAt b18 [1, 1, 1, 1, 1])], [], .run, .normal, none⟩, [⟨15, 79, (.node (some (.bool false)) (.node (some (.string ⟨⟨[34, 115, 97, 121, 32, 92, 34, 104, 105, 92, 34, 34]⟩⟩)) (.node (some (.slice (some ⟨81, 0, none⟩) 3 9223372036854775809)) (.node none (.node (some (.int .i64 0)) .nil .nil) (.node (some (.int .i64 0)) .nil .nil)) (.node none (.node (some (.int .i64 0)) .nil .nil) .nil)) (.node (some (.slice (some ⟨203, 0, none⟩) 2 9223372036854775810)) (.node none (.node (some (.tuple ⟨[(.slice (some ⟨81, 0, none⟩) 3 9223372036854775809), (.int .i64 0)]⟩)) .nil .nil) .nil) (.node (some (.tuple ⟨[(.string ⟨⟨[34, 115, 97, 121, 32, 92, 34, 104, 105, 92, 34, 34]⟩⟩), (.int .i64 0)]⟩)) (.node (some (.tuple ⟨[(.slice (some ⟨203, 0, none⟩) 2 9223372036854775810), (.int .i64 0)]⟩)) .nil .nil) .nil))) (.node (some (.int .i64 0)) (.node (some (.int .i64 0)) (.node none (.node (some (.tuple ⟨[(.slice (some ⟨81, 0, none⟩) 3 9223372036854775809), (.int .i64 0)]⟩)) .nil .nil) .nil) (.node (some (.tuple ⟨[(.string ⟨⟨[34, 115, 97, 121, 32, 92, 34, 104, 105, 92, 34, 34]⟩⟩), (.int .i64 0)]⟩)) (.node (some (.tuple ⟨[(.slice (some ⟨203, 0, none⟩) 2 9223372036854775810), (.int .i64 0)]⟩)) .nil .nil) .nil)) (.node (some (.int .i64 0)) (.node none (.node (some (.slice (some ⟨81, 0, none⟩) 3 9223372036854775809)) .nil .nil) .nil) (.node (some (.string ⟨⟨[34, 115, 97, 121, 32, 92, 34, 104, 105, 92, 34, 34]⟩⟩)) (.node (some (.slice (some ⟨203, 0, none⟩) 2 9223372036854775810)) .nil .nil) .nil)))), [.inRegion (opsAt b15 [1, 1, 1, 1, 0]) [0, 1, 2, 3, 4, 5], .code (codeAt b15 [1, 1, 1, 1, 1])], [], .run, .normal, none⟩], ⟨(.node none (.node none (.node none (.node none .nil (.node none .nil (.node none .nil (.node none .nil (.node (some (.cells 53 [(.string ⟨⟨[113]⟩⟩), (.string ⟨⟨[48, 46, 53]⟩⟩)] false 2)) .nil .nil))))) (.node none (.node none (.node none (.node none .nil (.node none (.node (some (.cells 48 [(.string ⟨⟨[98]⟩⟩), (.int .i64 1000)] true 2)) .nil .nil) .nil)) .nil) .nil) (.node none (.node none (.node none .nil (.node (some (.cells 46 [(.string ⟨⟨[97]⟩⟩), (.slice (some ⟨182, 0, none⟩) 2 9223372036854775810), (.string ⟨⟨[98]⟩⟩), (.slice none 0 0)] false 2)) .nil .nil)) .nil) .nil))) (.node none (.node none (.node none (.node none (.node none .nil (.node none (.node (some (.cells 46 [(.string ⟨⟨[98]⟩⟩), (.slice none 0 0)] true 2)) .nil .nil) .nil)) .nil) (.node none (.node (some (.cells 9 [(.string ⟨⟨[97]⟩⟩), (.string ⟨⟨[34, 98, 44, 99, 34]⟩⟩), (.string ⟨⟨[100]⟩⟩)] false 2)) .nil .nil) .nil)) .nil) (.node none (.node none (.node none (.node none .nil (.node none (.node (some (.cells 46 [(.string ⟨⟨[99]⟩⟩), (.slice (some ⟨294, 0, none⟩) 1 9223372036854775810)] true 2)) .nil .nil) .nil)) .nil) .nil) .nil))) (.node none (.node none .nil (.node none (.node none (.node none (.node none .nil (.node none (.node (some (.cells 48 [(.string ⟨⟨[97]⟩⟩), (.int .i64 500), (.string ⟨⟨[98]⟩⟩), (.int .i64 1000)] false 2)) .nil .nil) .nil)) .nil) .nil) .nil)) (.node none .nil (.node none (.node none (.node none .nil (.node none (.node none (.node (some (.cells 53 [(.string ⟨⟨[113]⟩⟩), (.string ⟨⟨[48, 46, 53]⟩⟩)] false 2)) .nil .nil) .nil) .nil)) (.node none .nil (.node none (.node (some (.cells 53 [(.string ⟨⟨[113]⟩⟩), (.string ⟨⟨[49]⟩⟩), (.string ⟨⟨[120]⟩⟩), (.string ⟨⟨[121, 59, 122]⟩⟩)] false 2)) .nil .nil) .nil))) (.node none (.node none .nil (.node none (.node none (.node (some (.cells 46 [(.string ⟨⟨[97]⟩⟩), (.slice (some ⟨247, 0, none⟩) 1 9223372036854775810), (.string ⟨⟨[98]⟩⟩), (.slice none 0 0), (.string ⟨⟨[99]⟩⟩), (.slice (some ⟨294, 0, none⟩) 1 9223372036854775810)] false 2)) .nil .nil) .nil) .nil)) .nil))))), 341⟩⟩
theorem seg14 : chunk Tryz.prog nest 1200 [81, 182, 203, 247, 294, 302, 321, 323, 324, 325] s14 = .ok s15 := by kernel_rfl
noncomputable def s16 : AS := ⟨⟨30, 33, (.node (some (.string ⟨⟨[99, 108, 111, 115, 101, 44, 32, 75, 101, 101, 112, 45, 65, 108, 105, 118, 101]⟩⟩)) (.node (some (.string ⟨⟨[107, 101, 101, 112, 45, 97, 108, 105, 118, 101]⟩⟩)) (.node none .nil (.node (some (.bool true)) .nil .nil)) (.node (some (.int .i64 0)) .nil .nil)) (.node none (.node (some (.bool false)) .nil .nil) (.node none (.node (some (.string ⟨⟨[107, 101, 101, 112, 45, 97, 108, 105, 118, 101]⟩⟩)) .nil .nil) .nil))), [.inRegion (opsAt b30 [1, 0, 0]) [2], .code (codeAt b30 [1, 0, 1]), .code (codeAt b30 [1, 1])], [], .run, .normal, none⟩, [⟨15, 79, (.node (some (.bool false)) (.node (some (.string ⟨⟨[34, 115, 97, 121, 32, 92, 34, 104, 105, 92, 34, 34]⟩⟩)) (.node (some (.slice (some ⟨81, 0, none⟩) 3 9223372036854775809)) (.node (some (.slice (some ⟨342, 0, none⟩) 3 9223372036854775810)) (.node (some (.int .i64 0)) .nil .nil) (.node (some (.int .i64 0)) .nil .nil)) (.node none (.node (some (.int .i64 0)) .nil .nil) (.node (some (.int .i64 0)) .nil .nil))) (.node (some (.slice (some ⟨203, 0, none⟩) 2 9223372036854775810)) (.node none (.node (some (.tuple ⟨[(.slice (some ⟨81, 0, none⟩) 3 9223372036854775809), (.int .i64 0)]⟩)) .nil .nil) (.node (some (.tuple ⟨[(.slice (some ⟨342, 0, none⟩) 3 9223372036854775810), (.int .i64 0)]⟩)) .nil .nil)) (.node (some (.tuple ⟨[(.string ⟨⟨[34, 115, 97, 121, 32, 92, 34, 104, 105, 92, 34, 34]⟩⟩), (.int .i64 0)]⟩)) (.node (some (.tuple ⟨[(.slice (some ⟨203, 0, none⟩) 2 9223372036854775810), (.int .i64 0)]⟩)) .nil .nil) .nil))) (.node (some (.int .i64 0)) (.node (some (.int .i64 0)) (.node (some (.int .i64 0)) (.node (some (.tuple ⟨[(.slice (some ⟨81, 0, none⟩) 3 9223372036854775809), (.int .i64 0)]⟩)) .nil .nil) (.node (some (.tuple ⟨[(.slice (some ⟨342, 0, none⟩) 3 9223372036854775810), (.int .i64 0)]⟩)) .nil .nil)) (.node (some (.tuple ⟨[(.string ⟨⟨[34, 115, 97, 121, 32, 92, 34, 104, 105, 92, 34, 34]⟩⟩), (.int .i64 0)]⟩)) (.node (some (.tuple ⟨[(.slice (some ⟨203, 0, none⟩) 2 9223372036854775810), (.int .i64 0)]⟩)) .nil .nil) .nil)) (.node (some (.int .i64 0)) (.node none (.node (some (.slice (some ⟨81, 0, none⟩) 3 9223372036854775809)) .nil .nil) (.node (some (.slice (some ⟨342, 0, none⟩) 3 9223372036854775810)) .nil .nil)) (.node (some (.string ⟨⟨[34, 115, 97, 121, 32, 92, 34, 104, 105, 92, 34, 34]⟩⟩)) (.node (some (.slice (some ⟨203, 0, none⟩) 2 9223372036854775810)) .nil .nil) .nil)))), [.inRegion (opsAt b15 [1, 1, 1, 1, 1, 0]) [0, 1, 2, 3, 4, 5], .code (codeAt b15 [1, 1, 1, 1, 1, 1])], [], .run, .normal, none⟩], ⟨(.node none (.node none (.node none .nil (.node none .nil (.node none (.node none (.node none .nil (.node (some (.cells 46 [(.string ⟨⟨[97]⟩⟩), (.slice (some ⟨182, 0, none⟩) 2 9223372036854775810), (.string ⟨⟨[98]⟩⟩), (.slice none 0 0)] false 2)) .nil .nil)) .nil) .nil))) (.node none (.node none (.node none .nil (.node none (.node (some (.cells 9 [(.string ⟨⟨[97]⟩⟩), (.string ⟨⟨[34, 98, 44, 99, 34]⟩⟩), (.string ⟨⟨[100]⟩⟩)] false 2)) .nil .nil) .nil)) .nil) .nil)) (.node none .nil (.node none .nil (.node none (.node none .nil (.node none (.node none .nil (.node none (.node (some (.cells 48 [(.string ⟨⟨[98]⟩⟩), (.int .i64 1000), (.string ⟨⟨[97]⟩⟩), (.int .i64 500), (.string ⟨⟨[99]⟩⟩), (.int .i64 500)] false 2)) .nil .nil) .nil)) (.node none (.node (some (.cells 53 [(.string ⟨⟨[113]⟩⟩), (.string ⟨⟨[49]⟩⟩), (.string ⟨⟨[120]⟩⟩), (.string ⟨⟨[121, 59, 122]⟩⟩)] false 2)) .nil .nil) .nil))) .nil)))), 416⟩⟩
theorem seg15 : chunk Tryz.prog nest 1625 [81, 182, 203, 342] s15 = .ok s16 := by kernel_rfl
noncomputable def s17 : AS := ⟨⟨80, 36, (.node (some (.string ⟨⟨[32, 75, 101, 101, 112, 45, 65, 108, 105, 118, 101]⟩⟩)) (.node none (.node (some (.bool false)) (.node (some (.string ⟨⟨[32, 75, 101, 101, 112, 45, 65, 108, 105, 118, 101]⟩⟩)) (.node (some (.int .i64 8)) .nil .nil) .nil) (.node (some (.int .i64 7)) (.node (some (.bool false)) .nil .nil) .nil)) (.node none (.node (some (.bool true)) (.node (some (.bool false)) .nil .nil) .nil) (.node (some (.int .i64 1)) (.node (some (.bool false)) .nil .nil) .nil))) (.node (some (.int .i64 8)) (.node none (.node (some (.int .i64 11)) (.node (some (.bool false)) .nil .nil) .nil) (.node (some (.int .u8 108)) (.node (some (.bool false)) .nil .nil) .nil)) (.node (some (.int .i64 7)) (.node (some (.string ⟨⟨[32, 75, 101, 101, 112, 45, 65, 108, 105, 118, 101]⟩⟩)) .nil .nil) (.node (some (.int .i64 7)) (.node (some (.bool false)) .nil .nil) .nil)))), [.inBlock 1, .inLoop (codeAt b80 [1, 0, 0, 0]), .inBlock 0, .code (codeAt b80 [1, 1])], [], .run, .normal, none⟩, [⟨25, 38, (.node (some (.string ⟨⟨[99, 108, 111, 115, 101, 44, 32, 75, 101, 101, 112, 45, 65, 108, 105, 118, 101]⟩⟩)) (.node none (.node (some (.int .i64 0)) (.node (some (.bool true)) (.node (some (.tuple ⟨[(.int .i64 5), (.bool true)]⟩)) (.node (some (.slice (some ⟨419, 0, none⟩) 1 1)) .nil .nil) .nil) (.node (some (.int .i64 5)) .nil .nil)) (.node (some (.bool false)) (.node (some (.bool true)) (.node (some (.string ⟨⟨[44, 32, 75, 101, 101, 112, 45, 65, 108, 105, 118, 101]⟩⟩)) .nil .nil) .nil) (.node (some (.bool true)) .nil .nil))) (.node (some (.string ⟨⟨[32, 75, 101, 101, 112, 45, 65, 108, 105, 118, 101]⟩⟩)) (.node (some (.string ⟨⟨[99, 108, 111, 115, 101, 44, 32, 75, 101, 101, 112, 45, 65, 108, 105, 118, 101]⟩⟩)) (.node (some (.tuple ⟨[(.int .i64 5), (.bool true)]⟩)) (.node (some (.string ⟨⟨[99, 108, 111, 115, 101, 44, 32, 75, 101, 101, 112, 45, 65, 108, 105, 118, 101]⟩⟩)) .nil .nil) .nil) (.node (some (.string ⟨⟨[99, 108, 111, 115, 101]⟩⟩)) .nil .nil)) (.node (some (.string ⟨⟨[32, 75, 101, 101, 112, 45, 65, 108, 105, 118, 101]⟩⟩)) (.node (some (.bool false)) .nil .nil) (.node (some (.string ⟨⟨[99, 108, 111, 115, 101]⟩⟩)) .nil .nil)))) (.node (some (.slice none 0 0)) (.node (some (.slice (some ⟨420, 0, none⟩) 1 9223372036854775809)) (.node (some (.string ⟨⟨[99, 108, 111, 115, 101]⟩⟩)) (.node (some (.string ⟨⟨[32, 75, 101, 101, 112, 45, 65, 108, 105, 118, 101]⟩⟩)) (.node (some (.slice (some ⟨420, 0, none⟩) 1 9223372036854775809)) .nil .nil) .nil) (.node (some (.string ⟨⟨[99, 108, 111, 115, 101]⟩⟩)) .nil .nil)) (.node (some (.string ⟨⟨[99, 108, 111, 115, 101, 44, 32, 75, 101, 101, 112, 45, 65, 108, 105, 118, 101]⟩⟩)) (.node (some (.bool true)) (.node (some (.string ⟨⟨[32, 75, 101, 101, 112, 45, 65, 108, 105, 118, 101]⟩⟩)) .nil .nil) .nil) (.node (some (.slice none 0 0)) .nil .nil))) (.node (some (.int .i64 5)) (.node (some (.int .i64 17)) (.node (some (.int .i64 5)) (.node (some (.int .i64 5)) .nil .nil) .nil) (.node (some (.string ⟨⟨[99, 108, 111, 115, 101]⟩⟩)) .nil .nil)) (.node (some (.bool true)) (.node (some (.string ⟨⟨[99, 108, 111, 115, 101, 44, 32, 75, 101, 101, 112, 45, 65, 108, 105, 118, 101]⟩⟩)) .nil .nil) (.node (some (.string ⟨⟨[99, 108, 111, 115, 101]⟩⟩)) .nil .nil))))), [.inRegion (opsAt b25 [1, 1, 1, 0, 1, 0, 0, 1, 0, 0]) [1, 2, 3, 4, 5, 6], .code (codeAt b25 [1, 1, 1, 0, 1, 0, 0, 1, 0, 1]), .inBlock 1, .inLoop (codeAt b25 [1, 1, 1, 0, 1, 0, 0]), .inBlock 0, .code (codeAt b25 [1, 1, 1, 1])], [], .run, .normal, none⟩, ⟨30, 33, (.node (some (.string ⟨⟨[99, 108, 111, 115, 101, 44, 32, 75, 101, 101, 112, 45, 65, 108, 105, 118, 101]⟩⟩)) (.node (some (.string ⟨⟨[107, 101, 101, 112, 45, 97, 108, 105, 118, 101]⟩⟩)) (.node none .nil (.node (some (.bool true)) .nil .nil)) (.node (some (.int .i64 0)) .nil .nil)) (.node none (.node (some (.bool false)) .nil (.node (some (.bool false)) .nil .nil)) (.node none (.node (some (.string ⟨⟨[107, 101, 101, 112, 45, 97, 108, 105, 118, 101]⟩⟩)) .nil .nil) (.node (some (.string ⟨⟨[99, 108, 111, 115, 101, 44, 32, 75, 101, 101, 112, 45, 65, 108, 105, 118, 101]⟩⟩)) .nil .nil)))), [.inRegion (opsAt b30 [1, 1, 0]) [1, 2, 3, 4, 5, 6], .code (codeAt b30 [1, 1, 1])], [], .run, .normal, none⟩, ⟨15, 79, (.node (some (.bool false)) (.node (some (.string ⟨⟨[34, 115, 97, 121, 32, 92, 34, 104, 105, 92, 34, 34]⟩⟩)) (.node (some (.slice (some ⟨81, 0, none⟩) 3 9223372036854775809)) (.node (some (.slice (some ⟨342, 0, none⟩) 3 9223372036854775810)) (.node (some (.int .i64 0)) .nil .nil) (.node (some (.int .i64 0)) .nil .nil)) (.node none (.node (some (.int .i64 0)) .nil .nil) (.node (some (.int .i64 0)) .nil .nil))) (.node (some (.slice (some ⟨203, 0, none⟩) 2 9223372036854775810)) (.node none (.node (some (.tuple ⟨[(.slice (some ⟨81, 0, none⟩) 3 9223372036854775809), (.int .i64 0)]⟩)) .nil .nil) (.node (some (.tuple ⟨[(.slice (some ⟨342, 0, none⟩) 3 9223372036854775810), (.int .i64 0)]⟩)) .nil .nil)) (.node (some (.tuple ⟨[(.string ⟨⟨[34, 115, 97, 121, 32, 92, 34, 104, 105, 92, 34, 34]⟩⟩), (.int .i64 0)]⟩)) (.node (some (.tuple ⟨[(.slice (some ⟨203, 0, none⟩) 2 9223372036854775810), (.int .i64 0)]⟩)) .nil .nil) .nil))) (.node (some (.int .i64 0)) (.node (some (.int .i64 0)) (.node (some (.int .i64 0)) (.node (some (.tuple ⟨[(.slice (some ⟨81, 0, none⟩) 3 9223372036854775809), (.int .i64 0)]⟩)) .nil .nil) (.node (some (.tuple ⟨[(.slice (some ⟨342, 0, none⟩) 3 9223372036854775810), (.int .i64 0)]⟩)) .nil .nil)) (.node (some (.tuple ⟨[(.string ⟨⟨[34, 115, 97, 121, 32, 92, 34, 104, 105, 92, 34, 34]⟩⟩), (.int .i64 0)]⟩)) (.node (some (.tuple ⟨[(.slice (some ⟨203, 0, none⟩) 2 9223372036854775810), (.int .i64 0)]⟩)) .nil .nil) .nil)) (.node (some (.int .i64 0)) (.node none (.node (some (.slice (some ⟨81, 0, none⟩) 3 9223372036854775809)) .nil .nil) (.node (some (.slice (some ⟨342, 0, none⟩) 3 9223372036854775810)) .nil .nil)) (.node (some (.string ⟨⟨[34, 115, 97, 121, 32, 92, 34, 104, 105, 92, 34, 34]⟩⟩)) (.node (some (.slice (some ⟨203, 0, none⟩) 2 9223372036854775810)) .nil .nil) .nil)))), [.inRegion (opsAt b15 [1, 1, 1, 1, 1, 0]) [0, 1, 2, 3, 4, 5], .code (codeAt b15 [1, 1, 1, 1, 1, 1])], [], .run, .normal, none⟩], ⟨(.node none (.node none (.node none .nil (.node none (.node none (.node none .nil (.node none (.node none .nil (.node (some (.cells 9 [(.string ⟨⟨[99, 108, 111, 115, 101]⟩⟩)] true 2)) .nil .nil)) .nil)) .nil) (.node none (.node none (.node none .nil (.node (some (.cells 46 [(.string ⟨⟨[97]⟩⟩), (.slice (some ⟨182, 0, none⟩) 2 9223372036854775810), (.string ⟨⟨[98]⟩⟩), (.slice none 0 0)] false 2)) .nil .nil)) .nil) .nil))) (.node none (.node none (.node none .nil (.node none (.node (some (.cells 9 [(.string ⟨⟨[97]⟩⟩), (.string ⟨⟨[34, 98, 44, 99, 34]⟩⟩), (.string ⟨⟨[100]⟩⟩)] false 2)) .nil .nil) .nil)) .nil) .nil)) (.node none (.node none .nil (.node none (.node none (.node none .nil (.node none (.node none .nil (.node (some (.cells 9 [(.string ⟨⟨[99, 108, 111, 115, 101]⟩⟩)] false 2)) .nil .nil)) .nil)) .nil) .nil)) (.node none .nil (.node none (.node none .nil (.node none (.node none .nil (.node none (.node (some (.cells 48 [(.string ⟨⟨[98]⟩⟩), (.int .i64 1000), (.string ⟨⟨[97]⟩⟩), (.int .i64 500), (.string ⟨⟨[99]⟩⟩), (.int .i64 500)] false 2)) .nil .nil) .nil)) (.node none (.node (some (.cells 53 [(.string ⟨⟨[113]⟩⟩), (.string ⟨⟨[49]⟩⟩), (.string ⟨⟨[120]⟩⟩), (.string ⟨⟨[121, 59, 122]⟩⟩)] false 2)) .nil .nil) .nil))) .nil)))), 421⟩⟩
theorem seg16 : chunk Tryz.prog nest 2500 [81, 182, 203, 342, 419, 420] s16 = .ok s17 := by kernel_rfl
noncomputable def s18 : AS := ⟨⟨30, 33, (.node (some (.string ⟨⟨[99, 108, 111, 115, 101, 44, 32, 75, 101, 101, 112, 45, 65, 108, 105, 118, 101]⟩⟩)) (.node (some (.string ⟨⟨[107, 101, 101, 112, 45, 97, 108, 105, 118, 101]⟩⟩)) (.node none (.node (some (.int .i64 0)) (.node (some (.tuple ⟨[(.slice (some ⟨425, 0, none⟩) 2 9223372036854775809), (.int .i64 0)]⟩)) .nil .nil) (.node (some (.int .i64 0)) .nil .nil)) (.node (some (.bool true)) (.node (some (.bool false)) .nil .nil) (.node (some (.string ⟨⟨[99, 108, 111, 115, 101]⟩⟩)) .nil .nil))) (.node (some (.int .i64 0)) (.node (some (.string ⟨⟨[99, 108, 111, 115, 101]⟩⟩)) (.node (some (.int .i64 0)) .nil .nil) (.node (some (.pointer (some ⟨425, 0, none⟩))) .nil .nil)) (.node (some (.tuple ⟨[(.slice (some ⟨425, 0, none⟩) 2 9223372036854775809), (.int .i64 0)]⟩)) (.node (some (.slice (some ⟨425, 0, none⟩) 2 9223372036854775809)) .nil .nil) .nil))) (.node none (.node (some (.bool false)) (.node none (.node (some (.slice (some ⟨425, 0, none⟩) 2 9223372036854775809)) .nil .nil) (.node (some (.bool true)) .nil .nil)) (.node (some (.bool false)) .nil (.node (some (.string ⟨⟨[99, 108, 111, 115, 101]⟩⟩)) .nil .nil))) (.node (some (.slice (some ⟨425, 0, none⟩) 2 9223372036854775809)) (.node (some (.string ⟨⟨[107, 101, 101, 112, 45, 97, 108, 105, 118, 101]⟩⟩)) (.node (some (.int .i64 0)) .nil .nil) (.node (some (.string ⟨⟨[99, 108, 111, 115, 101]⟩⟩)) .nil .nil)) (.node (some (.string ⟨⟨[99, 108, 111, 115, 101, 44, 32, 75, 101, 101, 112, 45, 65, 108, 105, 118, 101]⟩⟩)) (.node (some (.int .i64 2)) .nil .nil) .nil)))), [.inRegion (opsAt b30 [1, 1, 1, 1, 0, 1, 0, 0, 1, 1, 0, 0, 1, 0]) [2, 3, 4], .code (codeAt b30 [1, 1, 1, 1, 0, 1, 0, 0, 1, 1, 0, 0, 1, 1]), .inBlock 1, .code (codeAt b30 [1, 1, 1, 1, 0, 1, 0, 0, 1, 1, 1]), .inLoop (codeAt b30 [1, 1, 1, 1, 0, 1, 0, 0]), .inBlock 0, .code (codeAt b30 [1, 1, 1, 1, 1])], [], .run, .normal, none⟩, [⟨15, 79, (.node (some (.bool false)) (.node (some (.string ⟨⟨[34, 115, 97, 121, 32, 92, 34, 104, 105, 92, 34, 34]⟩⟩)) (.node (some (.slice (some ⟨81, 0, none⟩) 3 9223372036854775809)) (.node (some (.slice (some ⟨342, 0, none⟩) 3 9223372036854775810)) (.node (some (.int .i64 0)) .nil .nil) (.node (some (.int .i64 0)) .nil .nil)) (.node none (.node (some (.int .i64 0)) .nil .nil) (.node (some (.int .i64 0)) .nil .nil))) (.node (some (.slice (some ⟨203, 0, none⟩) 2 9223372036854775810)) (.node none (.node (some (.tuple ⟨[(.slice (some ⟨81, 0, none⟩) 3 9223372036854775809), (.int .i64 0)]⟩)) .nil .nil) (.node (some (.tuple ⟨[(.slice (some ⟨342, 0, none⟩) 3 9223372036854775810), (.int .i64 0)]⟩)) .nil .nil)) (.node (some (.tuple ⟨[(.string ⟨⟨[34, 115, 97, 121, 32, 92, 34, 104, 105, 92, 34, 34]⟩⟩), (.int .i64 0)]⟩)) (.node (some (.tuple ⟨[(.slice (some ⟨203, 0, none⟩) 2 9223372036854775810), (.int .i64 0)]⟩)) .nil .nil) .nil))) (.node (some (.int .i64 0)) (.node (some (.int .i64 0)) (.node (some (.int .i64 0)) (.node (some (.tuple ⟨[(.slice (some ⟨81, 0, none⟩) 3 9223372036854775809), (.int .i64 0)]⟩)) .nil .nil) (.node (some (.tuple ⟨[(.slice (some ⟨342, 0, none⟩) 3 9223372036854775810), (.int .i64 0)]⟩)) .nil .nil)) (.node (some (.tuple ⟨[(.string ⟨⟨[34, 115, 97, 121, 32, 92, 34, 104, 105, 92, 34, 34]⟩⟩), (.int .i64 0)]⟩)) (.node (some (.tuple ⟨[(.slice (some ⟨203, 0, none⟩) 2 9223372036854775810), (.int .i64 0)]⟩)) .nil .nil) .nil)) (.node (some (.int .i64 0)) (.node none (.node (some (.slice (some ⟨81, 0, none⟩) 3 9223372036854775809)) .nil .nil) (.node (some (.slice (some ⟨342, 0, none⟩) 3 9223372036854775810)) .nil .nil)) (.node (some (.string ⟨⟨[34, 115, 97, 121, 32, 92, 34, 104, 105, 92, 34, 34]⟩⟩)) (.node (some (.slice (some ⟨203, 0, none⟩) 2 9223372036854775810)) .nil .nil) .nil)))), [.inRegion (opsAt b15 [1, 1, 1, 1, 1, 0]) [0, 1, 2, 3, 4, 5], .code (codeAt b15 [1, 1, 1, 1, 1, 1])], [], .run, .normal, none⟩], ⟨(.node none (.node none (.node none .nil (.node none .nil (.node none (.node none (.node none .nil (.node (some (.cells 46 [(.string ⟨⟨[97]⟩⟩), (.slice (some ⟨182, 0, none⟩) 2 9223372036854775810), (.string ⟨⟨[98]⟩⟩), (.slice none 0 0)] false 2)) .nil .nil)) .nil) .nil))) (.node none (.node none (.node none .nil (.node none (.node (some (.cells 9 [(.string ⟨⟨[97]⟩⟩), (.string ⟨⟨[34, 98, 44, 99, 34]⟩⟩), (.string ⟨⟨[100]⟩⟩)] false 2)) .nil .nil) .nil)) (.node none (.node none .nil (.node none (.node none .nil (.node (some (.cells 9 [(.string ⟨⟨[99, 108, 111, 115, 101]⟩⟩), (.string ⟨⟨[75, 101, 101, 112, 45, 65, 108, 105, 118, 101]⟩⟩)] false 2)) .nil .nil)) .nil)) .nil)) .nil)) (.node none .nil (.node none .nil (.node none (.node none .nil (.node none (.node none .nil (.node none (.node (some (.cells 48 [(.string ⟨⟨[98]⟩⟩), (.int .i64 1000), (.string ⟨⟨[97]⟩⟩), (.int .i64 500), (.string ⟨⟨[99]⟩⟩), (.int .i64 500)] false 2)) .nil .nil) .nil)) (.node none (.node (some (.cells 53 [(.string ⟨⟨[113]⟩⟩), (.string ⟨⟨[49]⟩⟩), (.string ⟨⟨[120]⟩⟩), (.string ⟨⟨[121, 59, 122]⟩⟩)] false 2)) .nil .nil) .nil))) .nil)))), 449⟩⟩
theorem seg17 : chunk Tryz.prog nest 1560 [81, 182, 203, 342, 425] s17 = .ok s18 := by kernel_rfl
noncomputable def s19 : AS := ⟨⟨30, 33, (.node (some (.string ⟨⟨[99, 108, 111, 115, 101, 44, 32, 75, 101, 101, 112, 45, 65, 108, 105, 118, 101]⟩⟩)) (.node (some (.string ⟨⟨[107, 101, 101, 112, 45, 97, 108, 105, 118, 101]⟩⟩)) (.node none (.node (some (.int .i64 0)) (.node (some (.tuple ⟨[(.slice (some ⟨425, 0, none⟩) 2 9223372036854775809), (.int .i64 0)]⟩)) (.node (some (.bool false)) .nil .nil) .nil) (.node (some (.int .i64 1)) .nil .nil)) (.node (some (.bool true)) (.node (some (.bool false)) .nil .nil) (.node (some (.string ⟨⟨[75, 101, 101, 112, 45, 65, 108, 105, 118, 101]⟩⟩)) .nil .nil))) (.node (some (.int .i64 0)) (.node (some (.string ⟨⟨[75, 101, 101, 112, 45, 65, 108, 105, 118, 101]⟩⟩)) (.node (some (.int .i64 0)) .nil .nil) (.node (some (.pointer (some ⟨425, 1, none⟩))) .nil .nil)) (.node (some (.tuple ⟨[(.slice (some ⟨425, 0, none⟩) 2 9223372036854775809), (.int .i64 0)]⟩)) (.node (some (.slice (some ⟨425, 0, none⟩) 2 9223372036854775809)) .nil .nil) (.node (some (.string ⟨⟨[107, 101, 101, 112, 45, 97, 108, 105, 118, 101]⟩⟩)) .nil .nil)))) (.node none (.node (some (.bool false)) (.node none (.node (some (.slice (some ⟨425, 0, none⟩) 2 9223372036854775809)) (.node (some (.int .i64 1)) .nil .nil) .nil) (.node (some (.bool true)) .nil .nil)) (.node (some (.bool false)) .nil (.node (some (.string ⟨⟨[107, 101, 101, 112, 45, 97, 108, 105, 118, 101]⟩⟩)) .nil .nil))) (.node (some (.slice (some ⟨425, 0, none⟩) 2 9223372036854775809)) (.node (some (.string ⟨⟨[107, 101, 101, 112, 45, 97, 108, 105, 118, 101]⟩⟩)) (.node (some (.int .i64 0)) .nil .nil) (.node (some (.string ⟨⟨[75, 101, 101, 112, 45, 65, 108, 105, 118, 101]⟩⟩)) .nil .nil)) (.node (some (.string ⟨⟨[99, 108, 111, 115, 101, 44, 32, 75, 101, 101, 112, 45, 65, 108, 105, 118, 101]⟩⟩)) (.node (some (.int .i64 2)) .nil .nil) (.node (some (.string ⟨⟨[107, 101, 101, 112, 45, 97, 108, 105, 118, 101]⟩⟩)) .nil .nil))))), [.inRegion (opsAt b30 [1, 1, 1, 1, 0, 1, 0, 0, 1, 1, 0, 0, 1, 0]) [2, 3, 4], .code (codeAt b30 [1, 1, 1, 1, 0, 1, 0, 0, 1, 1, 0, 0, 1, 1]), .inBlock 1, .code (codeAt b30 [1, 1, 1, 1, 0, 1, 0, 0, 1, 1, 1]), .inLoop (codeAt b30 [1, 1, 1, 1, 0, 1, 0, 0]), .inBlock 0, .code (codeAt b30 [1, 1, 1, 1, 1])], [], .run, .normal, none⟩, [⟨15, 79, (.node (some (.bool false)) (.node (some (.string ⟨⟨[34, 115, 97, 121, 32, 92, 34, 104, 105, 92, 34, 34]⟩⟩)) (.node (some (.slice (some ⟨81, 0, none⟩) 3 9223372036854775809)) (.node (some (.slice (some ⟨342, 0, none⟩) 3 9223372036854775810)) (.node (some (.int .i64 0)) .nil .nil) (.node (some (.int .i64 0)) .nil .nil)) (.node none (.node (some (.int .i64 0)) .nil .nil) (.node (some (.int .i64 0)) .nil .nil))) (.node (some (.slice (some ⟨203, 0, none⟩) 2 9223372036854775810)) (.node none (.node (some (.tuple ⟨[(.slice (some ⟨81, 0, none⟩) 3 9223372036854775809), (.int .i64 0)]⟩)) .nil .nil) (.node (some (.tuple ⟨[(.slice (some ⟨342, 0, none⟩) 3 9223372036854775810), (.int .i64 0)]⟩)) .nil .nil)) (.node (some (.tuple ⟨[(.string ⟨⟨[34, 115, 97, 121, 32, 92, 34, 104, 105, 92, 34, 34]⟩⟩), (.int .i64 0)]⟩)) (.node (some (.tuple ⟨[(.slice (some ⟨203, 0, none⟩) 2 9223372036854775810), (.int .i64 0)]⟩)) .nil .nil) .nil))) (.node (some (.int .i64 0)) (.node (some (.int .i64 0)) (.node (some (.int .i64 0)) (.node (some (.tuple ⟨[(.slice (some ⟨81, 0, none⟩) 3 9223372036854775809), (.int .i64 0)]⟩)) .nil .nil) (.node (some (.tuple ⟨[(.slice (some ⟨342, 0, none⟩) 3 9223372036854775810), (.int .i64 0)]⟩)) .nil .nil)) (.node (some (.tuple ⟨[(.string ⟨⟨[34, 115, 97, 121, 32, 92, 34, 104, 105, 92, 34, 34]⟩⟩), (.int .i64 0)]⟩)) (.node (some (.tuple ⟨[(.slice (some ⟨203, 0, none⟩) 2 9223372036854775810), (.int .i64 0)]⟩)) .nil .nil) .nil)) (.node (some (.int .i64 0)) (.node none (.node (some (.slice (some ⟨81, 0, none⟩) 3 9223372036854775809)) .nil .nil) (.node (some (.slice (some ⟨342, 0, none⟩) 3 9223372036854775810)) .nil .nil)) (.node (some (.string ⟨⟨[34, 115, 97, 121, 32, 92, 34, 104, 105, 92, 34, 34]⟩⟩)) (.node (some (.slice (some ⟨203, 0, none⟩) 2 9223372036854775810)) .nil .nil) .nil)))), [.inRegion (opsAt b15 [1, 1, 1, 1, 1, 0]) [0, 1, 2, 3, 4, 5], .code (codeAt b15 [1, 1, 1, 1, 1, 1])], [], .run, .normal, none⟩], ⟨(.node none (.node none (.node none .nil (.node none .nil (.node none (.node none (.node none .nil (.node (some (.cells 46 [(.string ⟨⟨[97]⟩⟩), (.slice (some ⟨182, 0, none⟩) 2 9223372036854775810), (.string ⟨⟨[98]⟩⟩), (.slice none 0 0)] false 2)) .nil .nil)) .nil) .nil))) (.node none (.node none (.node none .nil (.node none (.node (some (.cells 9 [(.string ⟨⟨[97]⟩⟩), (.string ⟨⟨[34, 98, 44, 99, 34]⟩⟩), (.string ⟨⟨[100]⟩⟩)] false 2)) .nil .nil) .nil)) (.node none (.node none .nil (.node none (.node none .nil (.node (some (.cells 9 [(.string ⟨⟨[99, 108, 111, 115, 101]⟩⟩), (.string ⟨⟨[75, 101, 101, 112, 45, 65, 108, 105, 118, 101]⟩⟩)] false 2)) .nil .nil)) .nil)) .nil)) .nil)) (.node none .nil (.node none .nil (.node none (.node none .nil (.node none (.node none .nil (.node none (.node (some (.cells 48 [(.string ⟨⟨[98]⟩⟩), (.int .i64 1000), (.string ⟨⟨[97]⟩⟩), (.int .i64 500), (.string ⟨⟨[99]⟩⟩), (.int .i64 500)] false 2)) .nil .nil) .nil)) (.node none (.node (some (.cells 53 [(.string ⟨⟨[113]⟩⟩), (.string ⟨⟨[49]⟩⟩), (.string ⟨⟨[120]⟩⟩), (.string ⟨⟨[121, 59, 122]⟩⟩)] false 2)) .nil .nil) .nil))) .nil)))), 515⟩⟩
theorem seg18 : chunk Tryz.prog nest 2235 [81, 182, 203, 342, 425] s18 = .ok s19 := by kernel_rfl
noncomputable def s20 : AS := ⟨⟨27, 26, (.node (some (.slice (some ⟨81, 0, none⟩) 3 9223372036854775809)) (.node (some (.slice (some ⟨550, 0, none⟩) 3 3)) (.node none (.node (some (.int .i64 3)) (.node (some (.int .i64 0)) .nil .nil) (.node (some (.pointer (some ⟨550, 0, none⟩))) .nil .nil)) (.node (some (.int .i64 0)) (.node (some (.pointer (some ⟨81, 0, none⟩))) .nil .nil) .nil)) (.node (some (.int .i64 0)) (.node (some (.int .i64 3)) (.node (some (.slice (some ⟨81, 0, none⟩) 3 9223372036854775809)) .nil .nil) (.node (some (.bool false)) .nil .nil)) (.node (some (.int .i64 3)) (.node (some (.slice (some ⟨550, 0, none⟩) 3 3)) .nil .nil) .nil))) (.node none (.node (some (.bool false)) (.node (some (.slice (some ⟨550, 0, none⟩) 3 3)) (.node (some (.int .i64 1)) .nil .nil) (.node (some (.string ⟨⟨[97]⟩⟩)) .nil .nil)) (.node (some (.slice (some ⟨81, 0, none⟩) 3 9223372036854775809)) (.node (some (.string ⟨⟨[97]⟩⟩)) .nil .nil) .nil)) (.node (some (.slice (some ⟨81, 0, none⟩) 3 9223372036854775809)) (.node (some (.bool false)) (.node (some (.int .i64 0)) .nil .nil) .nil) (.node (some (.bool true)) (.node (some (.int .i64 0)) .nil .nil) .nil)))), [.inRegion (opsAt b27 [1, 1, 0, 1, 0, 0, 1, 1]) [2], .inLoop (codeAt b27 [1, 1, 0, 1, 0, 0]), .inBlock 0, .code (codeAt b27 [1, 1, 1])], [], .run, .normal, none⟩, [⟨15, 79, (.node (some (.bool false)) (.node (some (.string ⟨⟨[34, 115, 97, 121, 32, 92, 34, 104, 105, 92, 34, 34]⟩⟩)) (.node (some (.slice (some ⟨81, 0, none⟩) 3 9223372036854775809)) (.node (some (.slice (some ⟨342, 0, none⟩) 3 9223372036854775810)) (.node (some (.int .i64 0)) (.node (some (.int .i64 0)) .nil .nil) (.node (some (.int .i64 0)) .nil .nil)) (.node (some (.int .i64 0)) (.node (some (.int .i64 0)) .nil .nil) (.node (some (.slice (some ⟨549, 0, none⟩) 2 2)) .nil .nil))) (.node (some (.slice (some ⟨549, 0, none⟩) 2 2)) (.node (some (.int .i64 0)) (.node (some (.int .i64 0)) .nil .nil) (.node (some (.agg ⟨[(.string ⟨⟨[120]⟩⟩), (.string ⟨⟨[121, 59, 122]⟩⟩)]⟩)) .nil .nil)) (.node (some (.int .i64 0)) (.node (some (.int .i64 0)) .nil .nil) (.node (some (.slice (some ⟨81, 0, none⟩) 3 9223372036854775809)) .nil .nil)))) (.node (some (.slice (some ⟨203, 0, none⟩) 2 9223372036854775810)) (.node (some (.bool true)) (.node (some (.tuple ⟨[(.slice (some ⟨81, 0, none⟩) 3 9223372036854775809), (.int .i64 0)]⟩)) (.node (some (.bool false)) .nil .nil) (.node (some (.bool false)) .nil .nil)) (.node (some (.tuple ⟨[(.slice (some ⟨342, 0, none⟩) 3 9223372036854775810), (.int .i64 0)]⟩)) (.node (some (.bool false)) .nil .nil) (.node (some (.bool true)) .nil .nil))) (.node (some (.tuple ⟨[(.string ⟨⟨[34, 115, 97, 121, 32, 92, 34, 104, 105, 92, 34, 34]⟩⟩), (.int .i64 0)]⟩)) (.node (some (.tuple ⟨[(.slice (some ⟨203, 0, none⟩) 2 9223372036854775810), (.int .i64 0)]⟩)) (.node (some (.bool false)) .nil .nil) (.node (some (.agg ⟨[(.string ⟨⟨[97]⟩⟩), (.slice (some ⟨548, 0, none⟩) 2 2)]⟩)) .nil .nil)) (.node (some (.tuple ⟨[(.bool true), (.int .i64 0)]⟩)) (.node (some (.bool false)) .nil .nil) .nil)))) (.node (some (.int .i64 0)) (.node (some (.int .i64 0)) (.node (some (.int .i64 0)) (.node (some (.tuple ⟨[(.slice (some ⟨81, 0, none⟩) 3 9223372036854775809), (.int .i64 0)]⟩)) (.node (some (.int .i64 0)) .nil .nil) (.node (some (.bool false)) .nil .nil)) (.node (some (.tuple ⟨[(.slice (some ⟨342, 0, none⟩) 3 9223372036854775810), (.int .i64 0)]⟩)) (.node (some (.bool false)) .nil .nil) (.node (some (.string ⟨⟨[34, 115, 97, 121, 32, 92, 34, 104, 105, 92, 34, 34]⟩⟩)) .nil .nil))) (.node (some (.tuple ⟨[(.string ⟨⟨[34, 115, 97, 121, 32, 92, 34, 104, 105, 92, 34, 34]⟩⟩), (.int .i64 0)]⟩)) (.node (some (.tuple ⟨[(.slice (some ⟨203, 0, none⟩) 2 9223372036854775810), (.int .i64 0)]⟩)) (.node (some (.bool false)) .nil .nil) (.node (some (.slice (some ⟨548, 0, none⟩) 2 2)) .nil .nil)) (.node (some (.tuple ⟨[(.bool true), (.int .i64 0)]⟩)) (.node (some (.bool false)) .nil .nil) (.node (some (.slice (some ⟨550, 0, none⟩) 3 3)) .nil .nil)))) (.node (some (.int .i64 0)) (.node (some (.int .i64 0)) (.node (some (.slice (some ⟨81, 0, none⟩) 3 9223372036854775809)) (.node (some (.bool false)) .nil .nil) (.node (some (.agg ⟨[(.string ⟨⟨[113]⟩⟩), (.string ⟨⟨[49]⟩⟩)]⟩)) .nil .nil)) (.node (some (.slice (some ⟨342, 0, none⟩) 3 9223372036854775810)) (.node (some (.bool false)) .nil .nil) (.node (some (.bool true)) .nil .nil))) (.node (some (.string ⟨⟨[34, 115, 97, 121, 32, 92, 34, 104, 105, 92, 34, 34]⟩⟩)) (.node (some (.slice (some ⟨203, 0, none⟩) 2 9223372036854775810)) (.node (some (.bool false)) .nil .nil) (.node (some (.agg ⟨[(.string ⟨⟨[98]⟩⟩), (.slice none 0 0)]⟩)) .nil .nil)) (.node (some (.bool true)) (.node (some (.bool false)) .nil .nil) .nil))))), [.inRegion (opsAt b15 [1, 1, 1, 1, 1, 1, 1, 1, 0]) [5, 6, 7, 8, 9, 10, 11, 12, 13, 14, 15, 16, 17, 18, 19, 20, 21, 22, 23], .code .ret], [], .run, .normal, none⟩], ⟨(.node none (.node none (.node none .nil (.node none .nil (.node none (.node none (.node none .nil (.node (some (.cells 46 [(.string ⟨⟨[97]⟩⟩), (.slice (some ⟨182, 0, none⟩) 2 9223372036854775810), (.string ⟨⟨[98]⟩⟩), (.slice none 0 0)] false 2)) .nil .nil)) .nil) .nil))) (.node none (.node none (.node none .nil (.node none (.node (some (.cells 9 [(.string ⟨⟨[97]⟩⟩), (.string ⟨⟨[34, 98, 44, 99, 34]⟩⟩), (.string ⟨⟨[100]⟩⟩)] false 2)) .nil .nil) .nil)) .nil) (.node none (.node none (.node none .nil (.node none (.node none (.node none (.node (some (.cells 46 [(.string ⟨⟨[97]⟩⟩), (.slice (some ⟨548, 0, none⟩) 2 2), (.string ⟨⟨[98]⟩⟩), (.slice none 0 0)] true 2)) .nil .nil) .nil) .nil) .nil)) .nil) .nil))) (.node none (.node none .nil (.node none (.node none (.node none .nil (.node none (.node none (.node none (.node (some (.cells 53 [(.string ⟨⟨[113]⟩⟩), (.string ⟨⟨[49]⟩⟩), (.string ⟨⟨[120]⟩⟩), (.string ⟨⟨[121, 59, 122]⟩⟩)] true 2)) .nil .nil) .nil) .nil) .nil)) .nil) .nil)) (.node none .nil (.node none (.node none (.node none .nil (.node none (.node none (.node none (.node (some (.cells 9 [(.string ⟨⟨[97]⟩⟩), (.string ⟨⟨[34, 98, 44, 99, 34]⟩⟩), (.string ⟨⟨[100]⟩⟩)] true 2)) .nil .nil) .nil) .nil) .nil)) (.node none (.node none .nil (.node none (.node (some (.cells 48 [(.string ⟨⟨[98]⟩⟩), (.int .i64 1000), (.string ⟨⟨[97]⟩⟩), (.int .i64 500), (.string ⟨⟨[99]⟩⟩), (.int .i64 500)] false 2)) .nil .nil) .nil)) (.node none (.node (some (.cells 53 [(.string ⟨⟨[113]⟩⟩), (.string ⟨⟨[49]⟩⟩), (.string ⟨⟨[120]⟩⟩), (.string ⟨⟨[121, 59, 122]⟩⟩)] false 2)) .nil .nil) .nil))) .nil)))), 560⟩⟩
theorem seg19 : chunk Tryz.prog nest 1200 [81, 182, 203, 342, 548, 549, 550] s19 = .ok s20 := by kernel_rfl
noncomputable def s21 : AS := ⟨⟨15, 79, (.node (some (.bool true)) (.node (some (.string ⟨⟨[34, 115, 97, 121, 32, 92, 34, 104, 105, 92, 34, 34]⟩⟩)) (.node (some (.slice (some ⟨81, 0, none⟩) 3 9223372036854775809)) (.node (some (.slice (some ⟨342, 0, none⟩) 3 9223372036854775810)) (.node (some (.int .i64 0)) (.node (some (.int .i64 0)) (.node (some (.bool true)) .nil .nil) .nil) (.node (some (.int .i64 0)) .nil .nil)) (.node (some (.int .i64 0)) (.node (some (.int .i64 0)) (.node (some (.agg ⟨[(.string ⟨⟨[97]⟩⟩), (.int .i64 500)]⟩)) .nil .nil) .nil) (.node (some (.slice (some ⟨549, 0, none⟩) 2 2)) .nil .nil))) (.node (some (.slice (some ⟨549, 0, none⟩) 2 2)) (.node (some (.int .i64 0)) (.node (some (.int .i64 0)) (.node (some (.bool true)) .nil .nil) .nil) (.node (some (.agg ⟨[(.string ⟨⟨[120]⟩⟩), (.string ⟨⟨[121, 59, 122]⟩⟩)]⟩)) .nil .nil)) (.node (some (.int .i64 0)) (.node (some (.int .i64 0)) (.node (some (.bool true)) .nil .nil) .nil) (.node (some (.slice (some ⟨81, 0, none⟩) 3 9223372036854775809)) .nil .nil)))) (.node (some (.slice (some ⟨203, 0, none⟩) 2 9223372036854775810)) (.node (some (.bool true)) (.node (some (.tuple ⟨[(.slice (some ⟨81, 0, none⟩) 3 9223372036854775809), (.int .i64 0)]⟩)) (.node (some (.bool false)) (.node (some (.slice (some ⟨549, 0, none⟩) 2 2)) .nil .nil) .nil) (.node (some (.bool false)) .nil .nil)) (.node (some (.tuple ⟨[(.slice (some ⟨342, 0, none⟩) 3 9223372036854775810), (.int .i64 0)]⟩)) (.node (some (.bool false)) (.node (some (.slice (some ⟨664, 0, none⟩) 3 3)) .nil .nil) .nil) (.node (some (.bool true)) .nil .nil))) (.node (some (.tuple ⟨[(.string ⟨⟨[34, 115, 97, 121, 32, 92, 34, 104, 105, 92, 34, 34]⟩⟩), (.int .i64 0)]⟩)) (.node (some (.tuple ⟨[(.slice (some ⟨203, 0, none⟩) 2 9223372036854775810), (.int .i64 0)]⟩)) (.node (some (.bool false)) (.node (some (.slice (some ⟨342, 0, none⟩) 3 9223372036854775810)) .nil .nil) .nil) (.node (some (.agg ⟨[(.string ⟨⟨[97]⟩⟩), (.slice (some ⟨548, 0, none⟩) 2 2)]⟩)) .nil .nil)) (.node (some (.tuple ⟨[(.bool true), (.int .i64 0)]⟩)) (.node (some (.bool false)) (.node (some (.bool true)) .nil .nil) .nil) (.node (some (.bool true)) .nil .nil))))) (.node (some (.int .i64 0)) (.node (some (.int .i64 0)) (.node (some (.int .i64 0)) (.node (some (.tuple ⟨[(.slice (some ⟨81, 0, none⟩) 3 9223372036854775809), (.int .i64 0)]⟩)) (.node (some (.int .i64 0)) (.node (some (.slice (some ⟨203, 0, none⟩) 2 9223372036854775810)) .nil .nil) .nil) (.node (some (.bool false)) .nil .nil)) (.node (some (.tuple ⟨[(.slice (some ⟨342, 0, none⟩) 3 9223372036854775810), (.int .i64 0)]⟩)) (.node (some (.bool false)) (.node (some (.agg ⟨[(.string ⟨⟨[99]⟩⟩), (.int .i64 500)]⟩)) .nil .nil) .nil) (.node (some (.string ⟨⟨[34, 115, 97, 121, 32, 92, 34, 104, 105, 92, 34, 34]⟩⟩)) .nil .nil))) (.node (some (.tuple ⟨[(.string ⟨⟨[34, 115, 97, 121, 32, 92, 34, 104, 105, 92, 34, 34]⟩⟩), (.int .i64 0)]⟩)) (.node (some (.tuple ⟨[(.slice (some ⟨203, 0, none⟩) 2 9223372036854775810), (.int .i64 0)]⟩)) (.node (some (.bool false)) (.node (some (.bool true)) .nil .nil) .nil) (.node (some (.slice (some ⟨548, 0, none⟩) 2 2)) .nil .nil)) (.node (some (.tuple ⟨[(.bool true), (.int .i64 0)]⟩)) (.node (some (.bool false)) (.node (some (.bool true)) .nil .nil) .nil) (.node (some (.slice (some ⟨550, 0, none⟩) 3 3)) .nil .nil)))) (.node (some (.int .i64 0)) (.node (some (.int .i64 0)) (.node (some (.slice (some ⟨81, 0, none⟩) 3 9223372036854775809)) (.node (some (.bool false)) (.node (some (.bool true)) .nil .nil) .nil) (.node (some (.agg ⟨[(.string ⟨⟨[113]⟩⟩), (.string ⟨⟨[49]⟩⟩)]⟩)) .nil .nil)) (.node (some (.slice (some ⟨342, 0, none⟩) 3 9223372036854775810)) (.node (some (.bool false)) (.node (some (.bool true)) .nil .nil) .nil) (.node (some (.bool true)) .nil .nil))) (.node (some (.string ⟨⟨[34, 115, 97, 121, 32, 92, 34, 104, 105, 92, 34, 34]⟩⟩)) (.node (some (.slice (some ⟨203, 0, none⟩) 2 9223372036854775810)) (.node (some (.bool false)) (.node (some (.agg ⟨[(.string ⟨⟨[98]⟩⟩), (.int .i64 1000)]⟩)) .nil .nil) .nil) (.node (some (.agg ⟨[(.string ⟨⟨[98]⟩⟩), (.slice none 0 0)]⟩)) .nil .nil)) (.node (some (.bool true)) (.node (some (.bool false)) (.node (some (.bool true)) .nil .nil) .nil) (.node (some (.bool true)) .nil .nil)))))), [.code .ret], [], .returning, .normal, none⟩, [], ⟨(.node none (.node none (.node none .nil (.node none .nil (.node none (.node none (.node none .nil (.node (some (.cells 46 [(.string ⟨⟨[97]⟩⟩), (.slice (some ⟨182, 0, none⟩) 2 9223372036854775810), (.string ⟨⟨[98]⟩⟩), (.slice none 0 0)] false 2)) .nil .nil)) .nil) .nil))) (.node none (.node none (.node none .nil (.node none (.node (some (.cells 9 [(.string ⟨⟨[97]⟩⟩), (.string ⟨⟨[34, 98, 44, 99, 34]⟩⟩), (.string ⟨⟨[100]⟩⟩)] false 2)) .nil .nil) .nil)) .nil) (.node none (.node none (.node none .nil (.node none (.node none (.node none (.node (some (.cells 46 [(.string ⟨⟨[97]⟩⟩), (.slice (some ⟨548, 0, none⟩) 2 2), (.string ⟨⟨[98]⟩⟩), (.slice none 0 0)] true 2)) .nil .nil) .nil) .nil) .nil)) .nil) .nil))) (.node none (.node none (.node none .nil (.node none .nil (.node none (.node none (.node none .nil (.node none (.node (some (.cells 48 [(.string ⟨⟨[98]⟩⟩), (.int .i64 1000), (.string ⟨⟨[97]⟩⟩), (.int .i64 500), (.string ⟨⟨[99]⟩⟩), (.int .i64 500)] true 2)) .nil .nil) .nil)) .nil) .nil))) (.node none (.node none (.node none .nil (.node none (.node none (.node none (.node (some (.cells 53 [(.string ⟨⟨[113]⟩⟩), (.string ⟨⟨[49]⟩⟩), (.string ⟨⟨[120]⟩⟩), (.string ⟨⟨[121, 59, 122]⟩⟩)] true 2)) .nil .nil) .nil) .nil) .nil)) .nil) .nil)) (.node none .nil (.node none (.node none (.node none .nil (.node none (.node none (.node none (.node (some (.cells 9 [(.string ⟨⟨[97]⟩⟩), (.string ⟨⟨[34, 98, 44, 99, 34]⟩⟩), (.string ⟨⟨[100]⟩⟩)] true 2)) .nil .nil) .nil) .nil) .nil)) (.node none (.node none .nil (.node none (.node (some (.cells 48 [(.string ⟨⟨[98]⟩⟩), (.int .i64 1000), (.string ⟨⟨[97]⟩⟩), (.int .i64 500), (.string ⟨⟨[99]⟩⟩), (.int .i64 500)] false 2)) .nil .nil) .nil)) (.node none (.node (some (.cells 53 [(.string ⟨⟨[113]⟩⟩), (.string ⟨⟨[49]⟩⟩), (.string ⟨⟨[120]⟩⟩), (.string ⟨⟨[121, 59, 122]⟩⟩)] false 2)) .nil .nil) .nil))) .nil)))), 692⟩⟩
theorem seg20 : chunk Tryz.prog nest 372 [81, 182, 203, 342, 548, 549, 550, 664] s20 = .ok s21 := by kernel_rfl
theorem last : doneTrue Tryz.prog nest 15 s21 = true := by kernel_rfl
theorem whole {η : Nat → Value} (hη : OneCells η) (hmix : Tryz.prog.follows .mixedOrders = true) {B : Nat} : CallSpec η Tryz.prog B 15 [] (heapL Tryz.prog tab) fun v _ => v = .bool true := by
  have hreg := regionA_ok (B := B) hη hmix (nestA_ok hη hmix 1000000 20)
  refine CallSpec.enter (fr := s0.fr) (by kernel_rfl) ?_
  exact Run.chunk hη hreg seg0 <| Run.chunk hη hreg seg1 <| Run.chunk hη hreg seg2 <| Run.chunk hη hreg seg3 <| Run.chunk hη hreg seg4 <| Run.chunk hη hreg seg5 <| Run.chunk hη hreg seg6 <| Run.chunk hη hreg seg7 <| Run.chunk hη hreg seg8 <| Run.chunk hη hreg seg9 <| Run.chunk hη hreg seg10 <| Run.chunk hη hreg seg11 <| Run.chunk hη hreg seg12 <| Run.chunk hη hreg seg13 <| Run.chunk hη hreg seg14 <| Run.chunk hη hreg seg15 <| Run.chunk hη hreg seg16 <| Run.chunk hη hreg seg17 <| Run.chunk hη hreg seg18 <| Run.chunk hη hreg seg19 <| Run.chunk hη hreg seg20 <| Run.doneTrue hη hreg last
end Go.Proofs.YtibnongfdafoeaaGreatDoor.tokensAwakeRun

namespace Go.Ev
set_option linter.unusedVariables false
set_option linter.unusedSimpArgs false
variable {η : Nat → Value} {P : Program} {B : Nat}
def objsP : List (Nat × TypeId × List Value) → T AObj
  | [] => .nil
  | x :: l => (objsP l).set x.1 (.cells x.2.1 x.2.2 true 0)
theorem objsP_get : ∀ {l : List (Nat × TypeId × List Value)} {r : Nat} {a : AObj}, (objsP l).get r = some a → ∃ x ∈ l, x.1 = r ∧ a = .cells x.2.1 x.2.2 true 0
  | [], r, a, h => by simp [objsP, T.get] at h
  | x :: l, r, a, h => by
    unfold objsP at h
    rw [T.get_set] at h
    by_cases e : r = x.1
    · rw [if_pos e] at h; cases h; exact ⟨x, by simp, e.symm, rfl⟩
    · rw [if_neg e] at h
      obtain ⟨y, h1, h2⟩ := objsP_get h
      exact ⟨y, by simp [h1], h2⟩
def heapP (P : Program) (l : List (Nat × TypeId × List Value)) : AH := ⟨objsP l, 126⟩
/-- What a listed variable's block holds, all of it. -/
def TabAtP (η : Nat → Value) (P : Program) (W : World) (x : Nat × TypeId × List Value) : Prop :=
  x.1 < P.globals.size ∧ ∃ (C : Array Value), W.heap[x.1]? = some (.cells C x.2.1 (0, 0)) ∧ LR η (envL P W) x.2.2 C.toList
theorem preP {l : List (Nat × TypeId × List Value)} {W : World} (hN : P.globals.size < 126) (hl : ∀ x ∈ l, TabAtP η P W x) : Pre η P (envL P W) W.heap.size (heapP P l) W := by
  refine ⟨⟨fun r a h => ?_, fun r r' a a' b d n d' n' h h' e e' => ?_⟩, fun r hr => ?_, fun g hg => ⟨sizeAt W g, ?_⟩, Nat.le_refl _⟩
  · obtain ⟨x, hx, rfl, rfl⟩ := objsP_get h
    obtain ⟨h1, C, h2, h3⟩ := hl x hx
    have hs : sizeAt W x.1 = C.size := by unfold sizeAt; rw [h2]
    have hc : x.2.2.length = C.size := h3.len
    refine ⟨x.1, 0, C.size, _, by unfold envL; rw [if_pos (Nat.le_of_lt h1), hs], h2, ⟨C, x.2.1, 0, 0, rfl, ⟨rfl, by simp, ?_, fun i v hv => ?_, (fun _ => ⟨rfl, rfl, rfl, hc⟩), (fun h => by cases h)⟩⟩, (fun h => by cases h)⟩
    · omega
    · obtain ⟨y, hy, hv⟩ := h3.get hv
      exact ⟨y, by rw [Nat.zero_add]; exact hy, hv⟩
  · unfold envL at e e'
    split at e
    · split at e'
      · cases e; cases e'; rfl
      · cases e'
    · cases e
  · have h : 126 ≤ r := hr
    unfold envL; rw [if_neg (by omega)]
  · unfold envL; rw [if_pos hg]
theorem CallSpec.trueP {f : FuncId} {args : List Value} {args' : Array Value} {l : List (Nat × TypeId × List Value)} {W : World} (hN : P.globals.size < 126) (hl : ∀ x ∈ l, TabAtP η P W x) (ha : LR η (envL P W) args args'.toList) (c : CallSpec η P W.heap.size f args (heapP P l) fun v _ => v = .bool true) :
    Calls P f args' W fun e w' => e = .returned (.bool true) ∧ Go.RowKit.Below W.heap.size W w' := by
  have p := preP hN hl
  refine (c.calls ha p).mono ?_
  rintro e w' ⟨v, h', ρ', x, rfl, rfl, hv, hp⟩
  exact ⟨by rw [hv.bool_inv], p.hr.below hp.fr p.low⟩
/-- A variable of one cell, of which no more is said than what it is. -/
theorem TabAtP.opq {W : World} {g i : Nat} {t : TypeId} {z : Array Value} {name : String} (hS : W.ShapedOpen P) (h0 : ((begin P (fun _ _ => 0) default).world.heap[g]?).bind Obj.row? = some (z, t)) (hg : g < P.globals.size) (hn : P.globalNamed name = some g)
    (hv : W.var? P name = some #[η i]) : TabAtP η P W (g, t, [.chan (some i)]) := by
  obtain ⟨cs, hh, _⟩ := hS.1 g z t hg h0
  unfold World.var? at hv
  rw [hn] at hv
  simp only [Option.bind_some, hh] at hv
  injection hv with hv
  refine ⟨hg, cs, hh, ?_⟩
  rw [hv]
  exact .cons (.opq i) .nil
/-- What a block that is known whole says of the world's. -/
theorem Pre.row {ρ : Env} {h : AH} {w : World} (p : Pre η P ρ B h w) {g : Nat} {ty : TypeId} {c : List Value} {own : Nat} (hg : g ≤ P.globals.size) (ho : h.objs.get g = some (.cells ty c true own)) :
    ∃ C : Array Value, w.heap[g]? = some (.cells C ty (0, 0)) ∧ C.toList.length = c.length ∧ ∀ (i : Nat) (v : Value), c[i]? = some v → ∃ x, C.toList[i]? = some x ∧ VR η ρ v x := by
  obtain ⟨b, d, n, o, h1, h2, ⟨C, ty', lo, hi, rfl, k⟩, _⟩ := p.hr.obj g _ ho
  obtain ⟨n', h3⟩ := p.glob g hg
  rw [h3] at h1
  injection h1 with h1
  injection h1 with e1 e2
  injection e2 with e2 e3
  subst e1; subst e2; subst e3
  obtain ⟨rfl, rfl, _, hl⟩ := k.plain rfl
  obtain rfl := k.ty
  refine ⟨C, h2, ?_, fun i v hv => ?_⟩
  · have := k.size; omega
  · obtain ⟨x, hx, hv⟩ := k.at_ i v hv
    exact ⟨x, by rw [Nat.zero_add] at hx; exact hx, hv⟩
/-- An opaque variable, in the world. -/
theorem Pre.cell {ρ : Env} {h : AH} {w : World} (p : Pre η P ρ B h w) {g i : Nat} {ty : TypeId} {own : Nat} (hg : g ≤ P.globals.size) (ho : h.objs.get g = some (.cells ty [.chan (some i)] true own)) :
    w.cell? ⟨g, 0, none⟩ = some (η i) := by
  obtain ⟨C, h1, h2, h3⟩ := p.row hg ho
  obtain ⟨x, hx, hv⟩ := h3 0 _ rfl
  unfold World.cell?
  simp only [h1]
  cases hv
  obtain ⟨C⟩ := C
  simp only at hx
  simp [hx]
/-- A contract of the world's, which returns v and leaves what was there alone, as a contract on the evaluator's states. -/
theorem CallSpec.ofCalls {f : FuncId} {args : List Value} {h : AH} {v : Value} (hx : ∀ (ρ : Env) (args' : Array Value) (w : World), LR η ρ args args'.toList → Pre η P ρ B h w → Calls P f args' w fun e w' => ∃ x, e = .returned x ∧ VR η ρ v x ∧ Go.RowKit.Below w.heap.size w w') :
    CallSpec η P B f args h (fun v' h' => v' = v ∧ h' = h) := by
  intro ρ args' w cs hl p
  obtain ⟨e, w', fr, ⟨x, rfl, hv, hb⟩, hc, hf, hlv⟩ := hx ρ args' w hl p cs
  refine ⟨v, h, ρ, fr, w', x, ⟨rfl, rfl⟩, ⟨fun _ _ h => h, fun _ _ => rfl, p.fresh, Nat.le_refl _, ⟨fun r a ha => ?_, p.hr.inj⟩, ⟨hb.os, hb.tape, hb.output, hb.size, fun k hk _ => hb.block k hk⟩, fun _ h => .inl h, fun _ h => .inl h⟩, hv, hf, hlv, hc⟩
  obtain ⟨b, d, n, o, h1, h2, h3, h4⟩ := p.hr.obj r a ha
  have hlt : b < w.heap.size := by
    rcases Nat.lt_or_ge b w.heap.size with h | h
    · exact h
    · rw [Array.getElem?_eq_none h] at h2; cases h2
  exact ⟨b, d, n, o, h1, by rw [hb.block b hlt]; exact h2, h3, h4⟩
end Go.Ev

namespace Go.Ev
set_option linter.unusedVariables false
set_option linter.unusedSimpArgs false
variable {η : Nat → Value} {P : Program} {B : Nat}

/-- What a contract says: values and heaps, by cases. -/
inductive KT where
  | ret (v : Value) (h : AH)
  | ite (b : Bool) (x y : KT)
  | know (p : Prop) (x : KT)
def KT.sat : KT → Value → AH → Prop
  | .ret v0 h0, v, h => v = v0 ∧ h = h0
  | .ite b x y, v, h => (b = true ∧ x.sat v h) ∨ (b = false ∧ y.sat v h)
  | .know p x, v, h => p ∧ x.sat v h
/-- What a walk asks. -/
inductive W where
  | ite (b : Bool) (x y : W)
  | need (p : Prop) (x : W)
  | know (p : Prop) (x : W)
  | call (f : FuncId) (args : List Value) (h : AH) (k : KT) (x : W)
  | stop (keep : List Nat) (s : AS)
  | done (f : FuncId) (v : Value) (h : AH)
  | fail (m : String)
def W.holds (η : Nat → Value) (P : Program) (B : Nat) (fn : FuncId) (K : List Nat → AS → Prop) (D : Value → AH → Prop) : W → Prop
  | .ite b x y => (b = true → x.holds η P B fn K D) ∧ (b = false → y.holds η P B fn K D)
  | .need p x => p ∧ (p → x.holds η P B fn K D)
  | .know p x => p → x.holds η P B fn K D
  | .call f args h k x => CallSpec η P B f args h k.sat ∧ x.holds η P B fn K D
  | .stop l s => K l s
  | .done f v h => f = fn ∧ D v h
  | .fail _ => False

/-- Cells as they are typed. -/
def intAt (c : List Value) (i : Nat) : Int := match c[i]? with | some (.int _ n) => n | _ => 0
def strAt (c : List Value) (i : Nat) : List UInt8 := match c[i]? with | some (.string s) => s.data.toList | _ => []
def boolAt (c : List Value) (i : Nat) : Bool := match c[i]? with | some (.bool b) => b | _ => false
section
variable (P : Program)
/-- The types of the cells of a value. -/
def cellTypes : Nat → TypeId → M (List TypeId)
  | 0, _ => no "cellTypes"
  | n + 1, t => do
    match ← undA P t with
    | .struct fs => fs.toList.foldlM (fun acc f => do .ok (acc ++ (← cellTypes n f.type))) []
    | .array k e => do .ok ((List.replicate k (← cellTypes n e)).flatten)
    | _ => .ok [t]
def cellTyped (c : List Value) (t : TypeId) (i : Nat) : M Value := do
  match ← undA P t with
  | .int k => .ok (.int k (intAt c i))
  | .string => .ok (strL (strAt c i))
  | .bool => .ok (.bool (boolAt c i))
  | _ => no "a cell of another type"
def cellsTyped (c : List Value) : List TypeId → Nat → M (List Value)
  | [], _ => .ok []
  | t :: ts, i => do .ok ((← cellTyped P c t i) :: (← cellsTyped c ts (i + 1)))
/-- An operation that asks something of its data. -/
def wLoad (ρ : Operand → Value) (t : TypeId) (x : Operand) (h : AH) : M (Prop × Value × AH) := do
  let a ← addrA (ρ x)
  let (_, c, _, _) ← cellsAt h a.block
  if ← isAggA P t then
    let n ← sizeA P t
    let ts ← cellTypes P 20 t
    let vs ← cellsTyped P c ts a.off
    .ok (a.off + n ≤ c.length ∧ (c.drop a.off).take n = vs, aggL vs, h)
  else do
    let v ← cellTyped P c t a.off
    .ok (c[a.off]? = some v, v, h)
def wStore (ρ : Operand → Value) (t : TypeId) (x y : Operand) (h : AH) : M (Prop × Value × AH) := do
  let a ← addrA (ρ x)
  let vs := cellsL (ρ y)
  let (ty, c, p, own) ← cellsAt h a.block
  if vs.length ≠ (← sizeA P t) ∨ vs.isEmpty = true ∨ own ≠ 2 ∨ vs.all oneC = false then no "store" else
  .ok (a.off + vs.length ≤ c.length, undef, putA h a.block (.cells ty (splice c a.off vs) p 2))
def wIndexAddr (ρ : Operand → Value) (t : TypeId) (x ix : Operand) (h : AH) : M (Prop × Value × AH) := do
  let i ← intOfA (ρ ix)
  match ← undA P t, ρ x with
  | .array len elem, .pointer (some a) => do
    let n ← sizeA P elem
    if a.spot = none then .ok (0 ≤ i ∧ i < len, .pointer (some (addO a (i.toNat * n))), h) else no "spot"
  | .slice elem, .slice (some a) len _ => do
    let n ← sizeA P elem
    .ok (0 ≤ i ∧ i < len, .pointer (some (addO a (i.toNat * n))), h)
  | _, _ => no "index"
def byteAt (l : List UInt8) (i : Int) : Int := ((l[i.toNat]?).getD 0).toNat
def wIndex (ρ : Operand → Value) (t : TypeId) (x ix : Operand) (h : AH) : M (Prop × Value × AH) := do
  let i ← intOfA (ρ ix)
  match ← undA P t, ρ x with
  | .string, .string s => .ok (0 ≤ i ∧ i < s.data.toList.length, .int .u8 (byteAt s.data.toList i), h)
  | _, _ => no "index"
def wInt (v : Option Value) (d : Int) : M Int := match v with
  | none => .ok d
  | some v => intOfA v
def wSlice (ρ : Operand → Value) (t : TypeId) (x : Operand) (lo hi mx : Option Operand) (h : AH) : M (Prop × Value × AH) := do
  match ← undA P t, ρ x, mx with
  | .string, .string s, none => do
    let l ← wInt (lo.map ρ) 0
    let u ← wInt (hi.map ρ) s.data.toList.length
    .ok (0 ≤ l ∧ l ≤ u ∧ u ≤ s.data.toList.length, strL ((s.data.toList.drop l.toNat).take (u.toNat - l.toNat)), h)
  | .slice elem, .slice (some a) len cap, none => do
    let l ← wInt (lo.map ρ) 0
    let u ← wInt (hi.map ρ) len
    let size ← sizeA P elem
    if isU cap = false ∨ cap ≠ capU size ∨ size = 0 then no "slice: mark" else
    .ok (0 ≤ l ∧ l ≤ u ∧ u ≤ len ∧ l < len, .slice (some (addO a (l.toNat * size))) (u.toNat - l.toNat) cap, h)
  | _, _, _ => no "slice"
def wBin (ρ : Operand → Value) (op : BinOp) (x y : Operand) (h : AH) : M (Prop × Value × AH) :=
  match ρ x, ρ y, op with
  | .int k a, .int k' b, .quo => if k = k' then .ok (b ≠ 0, .int k (k.wrap (a.tdiv b)), h) else no "kinds"
  | .int k a, .int k' b, .rem => if k = k' then .ok (b ≠ 0, .int k (a.tmod b), h) else no "kinds"
  | .int k a, .int _ b, .shl => .ok (0 ≤ b, .int k (k.wrap (a * 2 ^ (min b.toNat k.bits))), h)
  | .int k a, .int _ b, .shr => .ok (0 ≤ b, .int k (a.fdiv (2 ^ (min b.toNat k.bits))), h)
  | .string a, .string b, .add => .ok (a.data.toList.length + b.data.toList.length ≤ 9223372036854775807, strL (a.data.toList ++ b.data.toList), h)
  | _, _, _ => no "binop"
end

/-- One operation at the front of a region, its value told. -/
theorem exec_eff {ρ : Operand → Value} {o : Oper} {h : AH} {r : AN × AH} (hok : okOps P o = true) (hk : kindOf P o.op = .effect) (hr : effA P ρ o h = .ok r) : execA P ρ o h = .ok r := by
  unfold execA
  rw [hok, hk]
  simp only [Bool.not_true, Bool.false_eq_true, if_false, hr]
theorem wLoad_ok {ρ : Operand → Value} {o : Oper} {t : TypeId} {x : Operand} {h h' : AH} {p : Prop} {v : Value} (ho : o.op = .load t x) (hw : wLoad P ρ t x h = .ok (p, v, h')) (hp : p) : readA P ρ o h = .ok v ∧ h' = h := by
  unfold wLoad at hw
  simp only [bind_ok] at hw
  obtain ⟨a, ha, ⟨ty, c, pl, own⟩, hc, g, hg, hw⟩ := hw
  have hsp : a.spot = none := by
    unfold addrA at ha
    split at ha
    · split at ha
      · rename_i h1; rw [okk] at ha; subst ha; exact h1
      · simp [no] at ha
    · simp [no] at ha
  cases g with
  | true =>
    simp only [if_true, bind_ok] at hw
    obtain ⟨n, hn, ts, _, vs, _, hw⟩ := hw
    rw [okk] at hw
    injection hw with e1 e2
    injection e2 with e2 e3
    subst e1; subst e2; subst e3
    refine ⟨?_, rfl⟩
    unfold readA
    simp only [ho, ha, loadA, hg, hn, bind, Except.bind, if_true, getC, hc]
    rw [if_pos ⟨hp.1, hsp⟩]
    simp only [hp.2]
  | false =>
    simp only [Bool.false_eq_true, if_false, bind_ok] at hw
    obtain ⟨v1, _, hw⟩ := hw
    rw [okk] at hw
    injection hw with e1 e2
    injection e2 with e2 e3
    subst e1; subst e2; subst e3
    refine ⟨?_, rfl⟩
    have hl := (List.getElem?_eq_some_iff.1 hp).1
    have hd : (c.drop a.off).take 1 = [v1] := by
      rw [List.drop_eq_getElem_cons hl]
      simp [(List.getElem?_eq_some_iff.1 hp).2]
    unfold readA
    simp only [ho, ha, loadA, hg, bind, Except.bind, Bool.false_eq_true, if_false, getC, hc]
    rw [if_pos ⟨by omega, hsp⟩]
    simp only [hd]
theorem addr_spot {v : Value} {a : Addr} (ha : addrA v = .ok a) : a.spot = none := by
  unfold addrA at ha
  split at ha
  · split at ha
    · rename_i h1; rw [okk] at ha; subst ha; exact h1
    · simp [no] at ha
  · simp [no] at ha
theorem wStore_ok {ρ : Operand → Value} {o : Oper} {t : TypeId} {x y : Operand} {h h' : AH} {p : Prop} {v : Value} (ho : o.op = .store t x y) (hw : wStore P ρ t x y h = .ok (p, v, h')) (hp : p) : effA P ρ o h = .ok (.skip, h') ∧ v = undef := by
  unfold wStore at hw
  simp only [bind_ok] at hw
  obtain ⟨a, ha, ⟨ty, c, pl, own⟩, hc, n, hn, hw⟩ := hw
  have hsp := addr_spot ha
  simp only at hw
  split at hw
  · simp [no] at hw
  · rename_i hcond
    rw [okk] at hw
    injection hw with e1 e2
    injection e2 with e2 e3
    subst e1; subst e2; subst e3
    refine ⟨?_, rfl⟩
    have h1 : (cellsL (ρ y)).length = n := Decidable.byContradiction fun hh => hcond (.inl hh)
    have h2 : ¬ (cellsL (ρ y)).isEmpty = true := fun hh => hcond (.inr (.inl hh))
    have h3 : own = 2 := Decidable.byContradiction fun hh => hcond (.inr (.inr (.inl hh)))
    have h4 : (cellsL (ρ y)).all oneC = true := by
      cases hq : (cellsL (ρ y)).all oneC with
      | true => rfl
      | false => exact absurd (.inr (.inr (.inr hq))) hcond
    have hst : storeC h a (cellsL (ρ y)) = .ok (putA h a.block (.cells ty (splice c a.off (cellsL (ρ y))) pl 2)) := by
      unfold storeC
      split
      · rename_i he; rw [he] at h2; simp at h2
      · rw [hc]
        simp only
        rw [if_pos ⟨h3, hp, hsp, h4⟩]
    unfold effA
    simp only [ho, ha, bind, Except.bind, storeA, hn]
    rw [if_neg (by rw [h1]; simp), hst]
theorem wIndexAddr_ok {ρ : Operand → Value} {o : Oper} {t : TypeId} {x y : Operand} {h h' : AH} {p : Prop} {v : Value} (ho : o.op = .indexAddr t x y) (hw : wIndexAddr P ρ t x y h = .ok (p, v, h')) (hp : p) : readA P ρ o h = .ok v ∧ h' = h := by
  unfold wIndexAddr at hw
  simp only [bind_ok] at hw
  obtain ⟨i, hi, d, hd, hw⟩ := hw
  split at hw
  · rename_i len elem a hx
    simp only [bind_ok] at hw
    obtain ⟨n, hn, hw⟩ := hw
    split at hw
    · rename_i hs
      rw [okk] at hw
      injection hw with e1 e2
      injection e2 with e2 e3
      subst e1; subst e2; subst e3
      refine ⟨?_, rfl⟩
      unfold readA
      simp only [ho, hi, hd, hx, hn, bind, Except.bind]
      rw [if_pos ⟨hp.1, hp.2, hs⟩]
    · simp [no] at hw
  · rename_i elem a len cap hx
    simp only [bind_ok] at hw
    obtain ⟨n, hn, hw⟩ := hw
    rw [okk] at hw
    injection hw with e1 e2
    injection e2 with e2 e3
    subst e1; subst e2; subst e3
    refine ⟨?_, rfl⟩
    unfold readA
    simp only [ho, hi, hd, hx, hn, bind, Except.bind]
    rw [if_pos hp]
  · simp [no] at hw
theorem wIndex_ok {ρ : Operand → Value} {o : Oper} {t : TypeId} {x y : Operand} {h h' : AH} {p : Prop} {v : Value} (ho : o.op = .index t x y) (hw : wIndex P ρ t x y h = .ok (p, v, h')) (hp : p) : readA P ρ o h = .ok v ∧ h' = h := by
  unfold wIndex at hw
  simp only [bind_ok] at hw
  obtain ⟨i, hi, d, hd, hw⟩ := hw
  split at hw
  · rename_i s hx
    rw [okk] at hw
    injection hw with e1 e2
    injection e2 with e2 e3
    subst e1; subst e2; subst e3
    refine ⟨?_, rfl⟩
    have hlt : i.toNat < s.data.toList.length := by omega
    unfold readA
    simp only [ho, hi, hd, hx, bind, Except.bind]
    rw [if_pos hp.1, List.getElem?_eq_getElem hlt]
    simp only [byteAt, List.getElem?_eq_getElem hlt, Option.getD_some]
  · simp [no] at hw
theorem wBin_ok {ρ : Operand → Value} {o : Oper} {op : BinOp} {t yt : TypeId} {x y : Operand} {h h' : AH} {p : Prop} {v : Value} (ho : o.op = .binOp op t x y yt) (hw : wBin ρ op x y h = .ok (p, v, h')) (hp : p) : readA P ρ o h = .ok v ∧ h' = h := by
  unfold wBin at hw
  split at hw
  · rename_i k a k' b hx hy
    split at hw
    · rename_i hk
      rw [okk] at hw
      injection hw with e1 e2
      injection e2 with e2 e3
      subst e1; subst e2; subst e3; subst hk
      refine ⟨?_, rfl⟩
      unfold readA
      simp only [ho, hx, hy, guardOk, isEq, bind, Except.bind, binA, isShift, intA, if_true, Bool.false_eq_true, if_false]
      rw [if_neg hp]
    · simp [no] at hw
  · rename_i k a k' b hx hy
    split at hw
    · rename_i hk
      rw [okk] at hw
      injection hw with e1 e2
      injection e2 with e2 e3
      subst e1; subst e2; subst e3; subst hk
      refine ⟨?_, rfl⟩
      unfold readA
      simp only [ho, hx, hy, guardOk, isEq, bind, Except.bind, binA, isShift, intA, if_true, Bool.false_eq_true, if_false]
      rw [if_neg hp]
    · simp [no] at hw
  · rename_i k a k' b hx hy
    rw [okk] at hw
    injection hw with e1 e2
    injection e2 with e2 e3
    subst e1; subst e2; subst e3
    refine ⟨?_, rfl⟩
    unfold readA
    simp only [ho, hx, hy, guardOk, isEq, bind, Except.bind, binA, isShift, shiftA, if_true]
    rw [if_neg (by omega)]
  · rename_i k a k' b hx hy
    rw [okk] at hw
    injection hw with e1 e2
    injection e2 with e2 e3
    subst e1; subst e2; subst e3
    refine ⟨?_, rfl⟩
    unfold readA
    simp only [ho, hx, hy, guardOk, isEq, bind, Except.bind, binA, isShift, shiftA, if_true]
    rw [if_neg (by omega)]
  · rename_i a b hx hy
    rw [okk] at hw
    injection hw with e1 e2
    injection e2 with e2 e3
    subst e1; subst e2; subst e3
    refine ⟨?_, rfl⟩
    unfold readA
    have hs : strA .add a.data.toList b.data.toList = .ok (strL (a.data.toList ++ b.data.toList)) := if_pos hp
    have hb : ∀ h : AH, binA P h .add t (.string a) (.string b) = strA .add a.data.toList b.data.toList := fun _ => rfl
    rw [← hb h] at hs
    generalize Value.string a = u at hx hs
    generalize Value.string b = u2 at hy hs
    clear hp
    simp only [ho, hx, hy, guardOk, isEq, bind, Except.bind, if_true, hs]
  · simp [no] at hw
theorem wSlice_ok {ρ : Operand → Value} {o : Oper} {t : TypeId} {x : Operand} {lo hi mx : Option Operand} {h h' : AH} {p : Prop} {v : Value} (ho : o.op = .slice t x lo hi mx) (hw : wSlice P ρ t x lo hi mx h = .ok (p, v, h')) (hp : p) : readA P ρ o h = .ok v ∧ h' = h := by
  unfold wSlice at hw
  simp only [bind_ok] at hw
  obtain ⟨d, hd, hw⟩ := hw
  have key : ∀ (v? : Option Value) (y : Nat) (n : Int) (dflt : Int), wInt v? dflt = .ok n → ∀ w, v? = some w → 0 ≤ n → n ≤ y → boundA w y = .ok n.toNat := by
    intro v? y n dflt h1 w h2 h3 h4
    subst h2
    unfold wInt at h1
    simp only at h1
    unfold boundA
    simp only [h1, bind, Except.bind]
    rw [if_pos ⟨h3, h4⟩]
  split at hw
  · rename_i s hx
    simp only [bind_ok] at hw
    obtain ⟨l, hl, u, hu, hw⟩ := hw
    rw [okk] at hw
    injection hw with e1 e2
    injection e2 with e2 e3
    subst e1; subst e2; subst e3
    refine ⟨?_, rfl⟩
    obtain ⟨p1, p2, p3⟩ := hp
    have hsz : s.size = s.data.toList.length := rfl
    unfold readA
    simp only [ho, hd, hx, sliceA, bind, Except.bind, Option.map_none, Option.isSome_none, Bool.false_eq_true, if_false]
    have hb : boundsA s.size s.size (lo.map ρ) (hi.map ρ) none = .ok (l.toNat, u.toNat, s.size) := by
      unfold boundsA
      simp only [bind, Except.bind]
      cases hhi : hi.map ρ with
      | none =>
        rw [hhi] at hu
        unfold wInt at hu; rw [okk] at hu
        simp only
        cases hlo : lo.map ρ with
        | none =>
          rw [hlo] at hl
          unfold wInt at hl; rw [okk] at hl
          simp only
          rw [← hl, ← hu, hsz]; simp
        | some w =>
          simp only
          rw [key _ s.size l 0 hl w hlo p1 (by omega)]
          simp only
          rw [← hu, hsz]; simp
      | some w2 =>
        simp only
        rw [key _ s.size u _ hu w2 hhi (by omega) (by omega)]
        simp only
        cases hlo : lo.map ρ with
        | none =>
          rw [hlo] at hl
          unfold wInt at hl; rw [okk] at hl
          simp only
          rw [← hl]; simp
        | some w =>
          simp only
          rw [key _ u.toNat l 0 hl w hlo p1 (by omega)]
    rw [hb]
  · rename_i elem a len cap hx
    simp only [bind_ok] at hw
    obtain ⟨l, hl, u, hu, size, hsz, hw⟩ := hw
    split at hw
    · simp [no] at hw
    · rename_i hcond
      rw [okk] at hw
      injection hw with e1 e2
      injection e2 with e2 e3
      subst e1; subst e2; subst e3
      refine ⟨?_, rfl⟩
      obtain ⟨p1, p2, p3, p4⟩ := hp
      have c1 : isU cap = true := by cases hq : isU cap with | true => rfl | false => exact absurd (.inl hq) hcond
      have c2 : cap = capU size := Decidable.byContradiction fun hh => hcond (.inr (.inl hh))
      have c3 : ¬ size = 0 := fun hh => hcond (.inr (.inr hh))
      unfold readA
      simp only [ho, hd, hx, sliceA, bind, Except.bind, hsz, c1, if_true, Option.map_none]
      have hb : boundsA len len (lo.map ρ) (hi.map ρ) none = .ok (l.toNat, u.toNat, len) := by
        unfold boundsA
        simp only [bind, Except.bind]
        cases hhi : hi.map ρ with
        | none =>
          rw [hhi] at hu
          unfold wInt at hu; rw [okk] at hu
          simp only
          cases hlo : lo.map ρ with
          | none =>
            rw [hlo] at hl
            unfold wInt at hl; rw [okk] at hl
            simp only
            rw [← hl, ← hu]; simp
          | some w =>
            simp only
            rw [key _ len l 0 hl w hlo p1 (by omega)]
            simp only
            rw [← hu]; simp
        | some w2 =>
          simp only
          rw [key _ len u _ hu w2 hhi (by omega) (by omega)]
          simp only
          cases hlo : lo.map ρ with
          | none =>
            rw [hlo] at hl
            unfold wInt at hl; rw [okk] at hl
            simp only
            rw [← hl]; simp
          | some w =>
            simp only
            rw [key _ u.toNat l 0 hl w hlo p1 (by omega)]
      rw [hb]
      simp only
      rw [if_neg (by intro hh; rcases hh with hh | hh; exact hh c2; exact c3 hh)]
      simp only [Option.isSome_none, Bool.false_eq_true, if_false]
      rw [if_pos (by omega)]
      rfl
  · simp [no] at hw
end Go.Ev

namespace Go.Ev
set_option linter.unusedVariables false
set_option linter.unusedSimpArgs false
variable {η : Nat → Value} {P : Program} {B : Nat}
section
variable (P : Program)
/-- The first cells of a row: those that are asked for. -/
def cut0 (c : List Value) : Nat → Nat → List Value
  | 0, _ => c
  | off, n => (c.drop off).take n
def cutOk (c : List Value) : Nat → Nat → Prop
  | 0, n => c.length = n
  | off, n => off + n ≤ c.length
def wFirst (h : AH) (size n : Nat) : Value → M (Prop × List Value)
  | .slice (some a) _ _ => do
    let (_, c, _, _) ← cellsAt h a.block
    if a.spot = none then .ok (a.off + n * size ≤ c.length, (c.drop a.off).take (n * size)) else no "spot"
  | .slice none _ _ => .ok (n * size = 0, [])
  | .string s => if size = 1 then .ok (True, bytesV (s.data.toList.take n)) else no "bytes"
  | _ => no "slice or string"
def wAppend (ρ : Operand → Value) (argTypes : List TypeId) (args : List Value) (h : AH) : M (Prop × KT) := do
  match argTypes, args with
  | [sT, xT], [.slice base len cap, x] => do
    match ← undA P sT with
    | .slice elem => do
      let ei ← infoA P elem
      let z ← zeroA P elem
      let isInt ← isIntT P xT
      if isInt then no "append of make" else
      if ei.size = 0 ∨ ei.bytes > 65536 ∨ (cellsL z).length ≠ ei.size then no "append: size" else
      let n ← lenA x
      let (pn, new) ← wFirst h ei.size n x
      match base with
      | some a => do
        let (ty, c, _, own) ← cellsAt h a.block
        if isU cap = false ∨ own ≠ 2 ∨ cap ≠ capU ei.size ∨ ty ≠ elem ∨ a.spot ≠ none then no "append: mark" else
        let r := freshA { h with objs := h.objs.del a.block } elem ei.size (len + n) (cut0 c a.off (len * ei.size) ++ new)
        .ok (pn ∧ cutOk c a.off (len * ei.size) ∧ len + n ≤ 1000000 ∧ new.length = n * ei.size ∧ new.all oneC = true, .ret r.1 r.2)
      | none => do
        if isU cap = true ∨ len ≠ 0 ∨ cap ≠ 0 then no "append: nil" else
        let r := freshA h elem ei.size (0 + n) ([] ++ new)
        .ok (pn ∧ n ≤ 1000000 ∧ new.length = n * ei.size ∧ new.all oneC = true, .ite (n == 0) (.ret (.slice none 0 0) h) (.ret r.1 r.2))
    | _ => no "append"
  | _, _ => no "append args"
def byteOf : Value → UInt8
  | .int _ n => UInt8.ofNat n.toNat
  | _ => 0
def bytesIn (c : List Value) (off n : Nat) : List UInt8 := ((c.drop off).take n).map byteOf
def wConv (ρ : Operand → Value) (src dst : TypeId) (x : Operand) (h : AH) : M (Prop × KT) := do
  match ← undA P src, ← undA P dst, ρ x with
  | .slice e, .string, .slice (some a) len _ => do
    match ← undA P e with
    | .int .u8 => do
      let (_, c, _, _) ← cellsAt h a.block
      if a.spot ≠ none then no "spot" else
      .ok (a.off + len ≤ c.length ∧ bytesOf ((c.drop a.off).take len) = .ok (bytesIn c a.off len), .ret (strL (bytesIn c a.off len)) h)
    | _ => no "conv"
  | .string, .slice e, .string s => do
    match ← undA P e with
    | .int .u8 =>
      .ok (s.size ≤ 1000000, .ret (.slice (some ⟨h.next, 0, none⟩) s.size (capU 1)) (newA h (.cells e (bytesV s.data.toList) false 2)).2)
    | _ => no "conv"
  | _, _, _ => no "conv"
def wMakeSlice (ρ : Operand → Value) (t : TypeId) (l c : Operand) (h : AH) : M (Prop × KT) := do
  match ← undA P t with
  | .slice elem => do
    let l ← intOfA (ρ l)
    let c ← intOfA (ρ c)
    let ei ← infoA P elem
    if ei.bytes > 65536 then no "makeSlice" else
    let z := cellsL (← zeroA P elem)
    if z.length ≠ ei.size then no "makeSlice: zero" else
    .ok (0 ≤ l ∧ l ≤ c ∧ c ≤ 1000000, .ret (.slice (some ⟨h.next, 0, none⟩) l.toNat c.toNat) (newA h (.cells elem (rep z c.toNat) true 2)).2)
  | _ => no "makeSlice"
/-- What a map holds at a key, or zero. -/
def mVal (z : Value) : Option (Nat × Value) → Value
  | some (_, v) => v
  | none => z
def mFind (d : TypeDesc) (k : Value) (es : List MapEntry) : Option (Nat × Value) := (Instr.findNow d k es 0).getD none
def typedOf (c : List Value) (t : TypeId) : M Value := do
  if ← isAggA P t then .ok (aggL (← cellsTyped P c (← cellTypes P 20 t) 0)) else cellTyped P c t 0
def wLookup (ρ : Operand → Value) (t : TypeId) (x k : Operand) (commaOk : Bool) (h : AH) : M (Prop × KT) := do
  match ← undA P t with
  | .map key elem => do
    match ρ x with
    | .map (some r) => do
      let (es, _, _) ← mapOf h r
      let d ← keyKind P key
      let z ← zeroA P elem
      let f := mFind d (ρ k) es
      let v ← typedOf P (cellsL (mVal z f)) elem
      .ok (Instr.findNow d (ρ k) es 0 = some f ∧ mVal z f = v, .ret (if commaOk then tupL [v, .bool f.isSome] else v) h)
    | _ => no "map"
  | _ => no "map type"
def mPut (k x : Value) (c : Nat) (es : List MapEntry) : Option (Nat × Value) → List MapEntry
  | some (i, _) => modEntry (fun e => { e with key := k, val := x }) es i
  | none => es ++ [{ key := k, val := x, born := c }]
def mClock (c : Nat) : Option (Nat × Value) → Nat
  | some _ => c
  | none => c + 1
def wMapSet (ρ : Operand → Value) (t : TypeId) (m k x : Operand) (h : AH) : M (Prop × KT) := do
  match ← undA P t, ρ m with
  | .map key _, .map (some r) => do
    let (es, c, own) ← mapOf h r
    if !own then no "map not own" else
    let d ← keyKind P key
    let f := mFind d (ρ k) es
    .ok (Instr.findNow d (ρ k) es 0 = some f, .ret undef (putA h r (.map (mPut (ρ k) (ρ x) c es f) (mClock c f) own)))
  | _, _ => no "map type"
def wCopy (ρ : Operand → Value) (argTypes : List TypeId) (args : List Value) (h : AH) : M (Prop × KT) := do
  match argTypes, args with
  | t :: _, [.slice (some a) dLen _, src] => do
    match ← undA P t with
    | .slice elem => do
      let sl ← lenA src
      let size ← sizeA P elem
      let n := Nat.min sl dLen
      let (pn, cs) ← wFirst h size n src
      let (ty, c, p, own) ← cellsAt h a.block
      if own ≠ 2 ∨ a.spot ≠ none ∨ size = 0 then no "copy" else
      .ok (pn ∧ cs.length = n * size ∧ a.off + cs.length ≤ c.length ∧ cs.all oneC = true, .ite (n == 0) (.ret (goInt 0) h) (.ret (goInt n) (putA h a.block (.cells ty (splice c a.off cs) p 2))))
    | _ => no "copy"
  | _, _ => no "copy args"
def wUnsafeString (ρ : Operand → Value) (argTypes : List TypeId) (args : List Value) (h : AH) : M (Prop × KT) := do
  match argTypes, args with
  | t :: _, [.pointer (some a), .int kd n] => do
    let (ty, c, p, own) ← cellsAt h a.block
    match ← undA P t, P.underlying ty with
    | .pointer e, some (.int .u8) =>
      if e ≠ ty ∨ P.cellsOf ty ≠ 1 ∨ own = 0 ∨ a.spot ≠ none then no "unsafe.String: type" else
      .ok (0 ≤ n ∧ n ≤ 1000000 ∧ a.off + n.toNat ≤ c.length ∧ bytesOf ((c.drop a.off).take n.toNat) = .ok (bytesIn c a.off n.toNat), .ite (n == 0) (.ret (.string ⟨#[]⟩) h) (.ret (strL (bytesIn c a.off n.toNat)) (putA h a.block (.cells ty c false 1))))
    | _, _ => no "unsafe.String: type"
  | _, _ => no "unsafe.String"
/-- unsafe.SliceData of a slice of an unknown capacity. -/
def wSliceData (ts : List TypeId) (args : List Value) (h : AH) : M (Prop × Value × AH) := match args with
  | [.slice (some a) l c] => if isU c = true ∧ ts.isEmpty = false then .ok (0 < l, .pointer (some a), h) else no "SliceData"
  | _ => no "SliceData"
def lift1 (x : M (Prop × Value × AH)) : M (Prop × KT) := do
  let (p, v, h) ← x
  .ok (p, .ret v h)
/-- An operation, and what it asks. -/
def opW (ρ : Operand → Value) (o : Oper) (h : AH) : M (Prop × KT) :=
  if !okOps P o then no "a constant" else
  match o.op with
  | .load t x => lift1 (wLoad P ρ t x h)
  | .store t x y => lift1 (wStore P ρ t x y h)
  | .indexAddr t x y => lift1 (wIndexAddr P ρ t x y h)
  | .index t x y => lift1 (wIndex P ρ t x y h)
  | .binOp op _ x y _ => lift1 (wBin ρ op x y h)
  | .slice t x lo hi mx => lift1 (wSlice P ρ t x lo hi mx h)
  | .call { callee := .builtin .append, args, argTypes } => wAppend P ρ argTypes.toList (args.toList.map ρ) h
  | .call { callee := .builtin .copy, args, argTypes } => wCopy P ρ argTypes.toList (args.toList.map ρ) h
  | .call { callee := .builtin .unsafeString, args, argTypes } => wUnsafeString P ρ argTypes.toList (args.toList.map ρ) h
  | .call { callee := .builtin .unsafeSliceData, args, argTypes } => lift1 (wSliceData argTypes.toList (args.toList.map ρ) h)
  | .convert s d x => wConv P ρ s d x h
  | .makeSlice t l c => wMakeSlice P ρ t l c h
  | .lookup t x k ok => wLookup P ρ t x k ok h
  | .mapUpdate t m k x => wMapSet P ρ t m k x h
  | .insert t m k x => wMapSet P ρ t m k x h
  | _ => no "operation"
end
/-- What an operation leads to, if it goes on. -/
def Goes (P : Program) (ρ : Operand → Value) (o : Oper) (h : AH) (v : Value) (h' : AH) : Prop := execA P ρ o h = .ok (.value v, h') ∨ (execA P ρ o h = .ok (.skip, h') ∧ v = undef)
theorem read_goes {ρ : Operand → Value} {o : Oper} {h : AH} {v : Value} (hok : okOps P o = true) (hk : kindOf P o.op = .read) (hr : readA P ρ o h = .ok v) : Goes P ρ o h v h := .inl (exec_read hok hk hr)
theorem wFirst_ok {h : AH} {size n : Nat} {x : Value} {p : Prop} {l : List Value} (hw : wFirst h size n x = .ok (p, l)) (hp : p) : firstA h size n x = .ok l := by
  unfold wFirst at hw
  split at hw
  · rename_i a _ _
    simp only [bind_ok] at hw
    obtain ⟨⟨ty, c, pl, own⟩, hc, hw⟩ := hw
    simp only at hw
    split at hw
    · rename_i hs
      rw [okk] at hw; injection hw with e1 e2; subst e1; subst e2
      unfold firstA getC
      simp only [hc]
      rw [if_pos ⟨hp, hs⟩]
    · simp [no] at hw
  · rw [okk] at hw; injection hw with e1 e2; subst e1; subst e2
    unfold firstA
    simp only
    rw [if_pos hp]
  · split at hw
    · rename_i hs
      rw [okk] at hw; injection hw with e1 e2; subst e1; subst e2
      unfold firstA
      simp only
      rw [if_pos hs]
    · simp [no] at hw
  · simp [no] at hw
theorem wAppend_ok {ρ : Operand → Value} {ts : List TypeId} {args : List Value} {h : AH} {p : Prop} {k : KT} (hw : wAppend P ρ ts args h = .ok (p, k)) (hp : p) : ∃ v h', k.sat v h' ∧ appendA P h ts args = .ok (v, h') := by
  unfold wAppend at hw
  split at hw
  · rename_i sT xT base len cap x
    simp only [bind_ok] at hw
    obtain ⟨d, hd, hw⟩ := hw
    split at hw
    · rename_i elem
      simp only [bind_ok] at hw
      obtain ⟨ei, hei, z, hz, isInt, hi, hw⟩ := hw
      rw [ite_no] at hw
      obtain ⟨hi2, hw⟩ := hw
      rw [ite_no] at hw
      obtain ⟨hs, hw⟩ := hw
      simp only [bind_ok] at hw
      obtain ⟨n, hn, ⟨pn, new⟩, hnew, hw⟩ := hw
      simp only at hw
      cases base with
      | some a =>
        simp only [bind_ok] at hw
        obtain ⟨⟨ty, c, pl, own⟩, hc, hw⟩ := hw
        simp only at hw
        rw [ite_no] at hw
        obtain ⟨hm, hw⟩ := hw
        rw [okk] at hw
        injection hw with e1 e2; subst e1; subst e2
        obtain ⟨p1, p2, p3, p4, p5⟩ := hp
        refine ⟨_, _, ⟨rfl, rfl⟩, ?_⟩
        have m1 : isU cap = true := by cases hq : isU cap with | true => rfl | false => exact absurd (.inl hq) hm
        have m2 : own = 2 := Decidable.byContradiction fun hh => hm (.inr (.inl hh))
        have m3 : cap = capU ei.size := Decidable.byContradiction fun hh => hm (.inr (.inr (.inl hh)))
        have m4 : ty = elem := Decidable.byContradiction fun hh => hm (.inr (.inr (.inr (.inl hh))))
        have m5 : a.spot = none := Decidable.byContradiction fun hh => hm (.inr (.inr (.inr (.inr hh))))
        have hf := wFirst_ok hnew p1
        have hold : firstA h ei.size len (.slice (some a) len cap) = .ok (cut0 c a.off (len * ei.size)) ∧ (cut0 c a.off (len * ei.size)).length = len * ei.size := by
          unfold firstA getC
          simp only [hc]
          cases ha : a.off with
          | zero =>
            rw [ha] at p2
            have p2 : c.length = len * ei.size := p2
            rw [if_pos ⟨by omega, m5⟩]
            refine ⟨?_, p2⟩
            show _ = Except.ok c
            rw [List.drop_zero, List.take_of_length_le (by omega)]
          | succ o =>
            rw [ha] at p2
            have p2 : o + 1 + len * ei.size ≤ c.length := p2
            rw [if_pos ⟨p2, m5⟩]
            refine ⟨rfl, ?_⟩
            show ((c.drop (o + 1)).take (len * ei.size)).length = _
            rw [List.length_take, List.length_drop]; omega
        unfold appendA
        simp only [hd, hei, hz, hi, hn, hf, hold.1, bind, Except.bind]
        rw [if_neg hi2, if_neg hs, if_neg (by rintro (hh | hh | hh | hh); omega; exact hh p4; exact hh hold.2; rw [p5] at hh; cases hh), if_pos m1]
        simp only [hc]
        rw [if_neg (by rintro (hh | hh | hh); exact hh m2; exact hh m3; exact hh m4)]
      | none =>
        simp only at hw
        rw [ite_no] at hw
        obtain ⟨hm, hw⟩ := hw
        rw [okk] at hw
        injection hw with e1 e2; subst e1; subst e2
        obtain ⟨p1, p3, p4, p5⟩ := hp
        have m1 : isU cap = false := by cases hq : isU cap with | false => rfl | true => exact absurd (.inl hq) hm
        have m2 : len = 0 := Decidable.byContradiction fun hh => hm (.inr (.inl hh))
        have m3 : cap = 0 := Decidable.byContradiction fun hh => hm (.inr (.inr hh))
        subst m2; subst m3
        have hf := wFirst_ok hnew p1
        have hold : firstA h ei.size 0 (.slice none 0 0) = .ok [] := by
          unfold firstA; simp
        have hz0 : ei.size ≠ 0 := fun hh => hs (.inl hh)
        cases hn0 : (n == 0) with
        | true =>
          have hn0' : n = 0 := by simpa using hn0
          refine ⟨_, _, .inl ⟨rfl, rfl, rfl⟩, ?_⟩
          unfold appendA
          simp only [hd, hei, hz, hi, hn, hf, hold, bind, Except.bind]
          rw [if_neg hi2, if_neg hs, if_neg (by rintro (hh | hh | hh | hh); omega; exact hh p4; simp at hh; rw [p5] at hh; cases hh), if_neg (by rw [m1]; simp), if_pos (by omega)]
          have : new = [] := by
            have : new.length = 0 := by rw [p4, hn0']; simp
            exact List.length_eq_zero_iff.1 this
          subst this
          simp [hn0']
        | false =>
          have hn0' : n ≠ 0 := by simpa using hn0
          refine ⟨_, _, .inr ⟨rfl, rfl, rfl⟩, ?_⟩
          unfold appendA
          simp only [hd, hei, hz, hi, hn, hf, hold, bind, Except.bind]
          rw [if_neg hi2, if_neg hs, if_neg (by rintro (hh | hh | hh | hh); omega; exact hh p4; simp at hh; rw [p5] at hh; cases hh), if_neg (by rw [m1]; simp), if_neg (by omega), if_pos (by omega)]
    · simp [no] at hw
  · simp [no] at hw
theorem wConv_ok {ρ : Operand → Value} {o : Oper} {s d : TypeId} {x : Operand} {h : AH} {p : Prop} {k : KT} (hok : okOps P o = true) (ho : o.op = .convert s d x) (hw : wConv P ρ s d x h = .ok (p, k)) (hp : p) : ∃ v h', k.sat v h' ∧ Goes P ρ o h v h' := by
  unfold wConv at hw
  simp only [bind_ok] at hw
  obtain ⟨t1, h1, t2, h2, hw⟩ := hw
  split at hw
  · rename_i e a len cap hx
    simp only [bind_ok] at hw
    obtain ⟨t3, h3, hw⟩ := hw
    split at hw
    · simp only [bind_ok] at hw
      obtain ⟨⟨ty, c, pl, own⟩, hc, hw⟩ := hw
      simp only at hw
      rw [ite_no] at hw
      obtain ⟨hs, hw⟩ := hw
      rw [okk] at hw
      injection hw with e1 e2; subst e1; subst e2
      have hs' : a.spot = none := Decidable.byContradiction hs
      refine ⟨_, _, ⟨rfl, rfl⟩, read_goes hok ?_ ?_⟩
      · rw [ho]; unfold kindOf
        have : isSliceT P d = false := by
          unfold isSliceT
          unfold undA orNo at h2
          split at h2
          · rename_i hu; rw [okk] at h2; rw [hu, h2]
          · simp [no] at h2
        simp only [this, Bool.false_eq_true, if_false]
      · unfold readA
        simp only [ho, convA, h1, h2, hx, h3, bind, Except.bind, getC, hc]
        rw [if_pos ⟨hp.1, hs'⟩]
        simp only [hp.2]
    · simp [no] at hw
  · rename_i e s1 hx
    simp only [bind_ok] at hw
    obtain ⟨t3, h3, hw⟩ := hw
    split at hw
    · rw [okk] at hw
      injection hw with e1 e2; subst e1; subst e2
      refine ⟨_, _, ⟨rfl, rfl⟩, .inl ?_⟩
      have hk : kindOf P o.op = .alloc := by
        rw [ho]; unfold kindOf
        have : isSliceT P d = true := by
          unfold isSliceT
          unfold undA orNo at h2
          split at h2
          · rename_i hu; rw [okk] at h2; rw [hu, h2]
          · simp [no] at h2
        have hs' : isSliceT P s = false := by
          unfold isSliceT
          unfold undA orNo at h1
          split at h1
          · rename_i hu; rw [okk] at h1; rw [hu, h1]
          · simp [no] at h1
        simp only [this, hs', if_true, Bool.false_eq_true, if_false]
      unfold execA
      rw [hok, hk]
      simp only [Bool.not_true, Bool.false_eq_true, if_false, allocA, ho, h1, h2, hx, h3, bind, Except.bind]
      rw [if_neg (by omega)]
    · simp [no] at hw
  · simp [no] at hw
theorem wMakeSlice_ok {ρ : Operand → Value} {o : Oper} {t : TypeId} {x y : Operand} {h : AH} {p : Prop} {k : KT} (hok : okOps P o = true) (ho : o.op = .makeSlice t x y) (hw : wMakeSlice P ρ t x y h = .ok (p, k)) (hp : p) : ∃ v h', k.sat v h' ∧ Goes P ρ o h v h' := by
  unfold wMakeSlice at hw
  simp only [bind_ok] at hw
  obtain ⟨d, hd, hw⟩ := hw
  split at hw
  · simp only [bind_ok] at hw
    obtain ⟨l, hl, c, hc, ei, hei, hw⟩ := hw
    rw [ite_no] at hw
    obtain ⟨hb, hw⟩ := hw
    simp only [bind_ok] at hw
    obtain ⟨z, hz, hw⟩ := hw
    rw [ite_no] at hw
    obtain ⟨hzl, hw⟩ := hw
    rw [okk] at hw
    injection hw with e1 e2; subst e1; subst e2
    obtain ⟨p1, p2, p3⟩ := hp
    refine ⟨_, _, ⟨rfl, rfl⟩, .inl ?_⟩
    have hzl' : (cellsL z).length = ei.size := Decidable.byContradiction hzl
    unfold execA
    rw [hok, ho]
    simp only [Bool.not_true, Bool.false_eq_true, if_false, kindOf, allocA, ho, hd, hl, hc, hei, bind, Except.bind]
    rw [if_neg (by omega)]
    by_cases h0 : c.toNat * ei.size = 0
    · simp only [h0, if_true]
      have hr : ∀ (m : Nat) (zz : List Value), zz.length = 0 ∨ m = 0 → rep zz m = [] := by
        intro m zz hm
        induction m with
        | zero => rfl
        | succ m ih =>
          rcases hm with hm | hm
          · rw [rep, ih (.inl hm), List.length_eq_zero_iff.1 hm]; rfl
          · omega
      have hq : c.toNat = 0 ∨ ei.size = 0 := Nat.mul_eq_zero.1 h0
      simp only [ne_eq, not_true_eq_false, false_and, if_false]
      rw [hr _ [] (.inl rfl), hr _ (cellsL z) (by rcases hq with hq | hq; exact .inr hq; exact .inl (hzl'.trans hq))]
    · simp only [h0, if_false, hz]
      rw [if_neg (by rintro ⟨_, hh⟩; exact hh hzl')]
  · simp [no] at hw
theorem wLookup_ok {ρ : Operand → Value} {o : Oper} {t : TypeId} {x y : Operand} {c : Bool} {h : AH} {p : Prop} {k : KT} (hok : okOps P o = true) (ho : o.op = .lookup t x y c) (hw : wLookup P ρ t x y c h = .ok (p, k)) (hp : p) : ∃ v h', k.sat v h' ∧ Goes P ρ o h v h' := by
  unfold wLookup at hw
  simp only [bind_ok] at hw
  obtain ⟨d, hd, hw⟩ := hw
  split at hw
  · rename_i key elem
    split at hw
    · rename_i r hx
      simp only [bind_ok] at hw
      obtain ⟨⟨es, cl, own⟩, hm, dk, hdk, z, hz, v, hv, hw⟩ := hw
      rw [okk] at hw
      injection hw with e1 e2; subst e1; subst e2
      refine ⟨_, _, ⟨rfl, rfl⟩, read_goes hok (by rw [ho]; rfl) ?_⟩
      obtain ⟨p1, p2⟩ := hp
      unfold readA
      simp only [ho, lookA, hd, hx, hm, bind, Except.bind, findM, hdk, p1, orNo]
      cases hf : mFind dk (ρ y) es with
      | none =>
        rw [hf] at p2
        simp only [hz]
        unfold mVal at p2
        simp only at p2
        rw [p2]
        cases c <;> rfl
      | some q =>
        obtain ⟨i, u⟩ := q
        rw [hf] at p2
        unfold mVal at p2
        simp only at p2
        subst p2
        cases c <;> rfl
    · simp [no] at hw
  · simp [no] at hw
theorem mapSet_ok' {ρ : Operand → Value} {t : TypeId} {m k x : Operand} {h : AH} {p : Prop} {kt : KT} (hw : wMapSet P ρ t m k x h = .ok (p, kt)) (hp : p) : ∃ h', kt.sat undef h' ∧ mapSet P h t (ρ m) (ρ k) (ρ x) = .ok h' := by
  unfold wMapSet at hw
  simp only [bind_ok] at hw
  obtain ⟨d, hd, hw⟩ := hw
  split at hw
  · rename_i key elem r hx
    simp only [bind_ok] at hw
    obtain ⟨⟨es, cl, own⟩, hm, hw⟩ := hw
    simp only at hw
    rw [ite_no] at hw
    obtain ⟨ho, hw⟩ := hw
    simp only [bind_ok] at hw
    obtain ⟨dk, hdk, hw⟩ := hw
    rw [okk] at hw
    injection hw with e1 e2; subst e1; subst e2
    refine ⟨_, ⟨rfl, rfl⟩, ?_⟩
    unfold mapSet
    simp only [hd, hx, hm, bind, Except.bind, findM, hdk, hp, orNo]
    rw [if_neg ho]
    cases hf : mFind dk (ρ k) es with
    | none => rfl
    | some q => obtain ⟨i, u⟩ := q; rfl
  · simp [no] at hw
theorem wCopy_ok {ρ : Operand → Value} {ts : List TypeId} {args : List Value} {h : AH} {p : Prop} {k : KT} (hw : wCopy P ρ ts args h = .ok (p, k)) (hp : p) : ∃ v h', k.sat v h' ∧ builtinA P h .copy ts args = .ok (.value v, h') := by
  unfold wCopy at hw
  split at hw
  · rename_i t r a dLen dc src
    simp only [bind_ok] at hw
    obtain ⟨d, hd, hw⟩ := hw
    split at hw
    · rename_i elem
      simp only [bind_ok] at hw
      obtain ⟨sl, hsl, size, hsz, ⟨pn, cs⟩, hcs, ⟨ty, c, pl, own⟩, hc, hw⟩ := hw
      simp only at hw
      rw [ite_no] at hw
      obtain ⟨hm, hw⟩ := hw
      rw [okk] at hw
      injection hw with e1 e2; subst e1; subst e2
      obtain ⟨p1, p2, p3, p4⟩ := hp
      have m1 : own = 2 := Decidable.byContradiction fun hh => hm (.inl hh)
      have m2 : a.spot = none := Decidable.byContradiction fun hh => hm (.inr (.inl hh))
      have m3 : ¬ size = 0 := fun hh => hm (.inr (.inr hh))
      have hf := wFirst_ok hcs p1
      have hbase : builtinA P h .copy (t :: r) [.slice (some a) dLen dc, src] = (do let h ← storeC h a cs; .ok (.value (goInt (Nat.min sl dLen : Nat)), h)) := by
        unfold builtinA
        simp only [List.isEmpty_cons, Bool.false_eq_true, if_false, List.headD_cons, hd, hsl, hsz, hf, bind, Except.bind]
      rw [hbase]
      cases hn : (Nat.min sl dLen == 0) with
      | true =>
        have hn0 : Nat.min sl dLen = 0 := by simpa using hn
        have hcs0 : cs = [] := List.length_eq_zero_iff.1 (by rw [p2, hn0]; simp)
        refine ⟨_, _, .inl ⟨rfl, rfl, rfl⟩, ?_⟩
        subst hcs0
        rw [hn0]
        rfl
      | false =>
        have hn0 : Nat.min sl dLen ≠ 0 := by simpa using hn
        have hcs0 : cs ≠ [] := by
          intro e
          rw [e] at p2
          have := p2.symm
          rw [List.length_nil, Nat.mul_eq_zero] at this
          rcases this with h1 | h1
          · exact hn0 h1
          · exact m3 h1
        refine ⟨_, _, .inr ⟨rfl, rfl, rfl⟩, ?_⟩
        have hst : storeC h a cs = .ok (putA h a.block (.cells ty (splice c a.off cs) pl 2)) := by
          unfold storeC
          split
          · exact absurd rfl hcs0
          · rw [hc]
            simp only
            rw [if_pos ⟨m1, p3, m2, p4⟩]
        rw [hst]
        rfl
    · simp [no] at hw
  · simp [no] at hw
theorem wUnsafeString_ok {ρ : Operand → Value} {ts : List TypeId} {args : List Value} {h : AH} {p : Prop} {k : KT} (hw : wUnsafeString P ρ ts args h = .ok (p, k)) (hp : p) : ∃ v h', k.sat v h' ∧ builtinA P h .unsafeString ts args = .ok (.value v, h') := by
  unfold wUnsafeString at hw
  split at hw
  · rename_i t r a kd n
    simp only [bind_ok] at hw
    obtain ⟨⟨ty, c, pl, own⟩, hc, d, hd, hw⟩ := hw
    simp only at hw
    split at hw
    · rename_i e hu
      rw [ite_no] at hw
      obtain ⟨hm, hw⟩ := hw
      rw [okk] at hw
      injection hw with e1 e2; subst e1; subst e2
      obtain ⟨p1, p2, p3, p4⟩ := hp
      have m1 : e = ty := Decidable.byContradiction fun hh => hm (.inl hh)
      have m2 : P.cellsOf ty = 1 := Decidable.byContradiction fun hh => hm (.inr (.inl hh))
      have m3 : ¬ own = 0 := fun hh => hm (.inr (.inr (.inl hh)))
      have m4 : a.spot = none := Decidable.byContradiction fun hh => hm (.inr (.inr (.inr hh)))
      cases hn : (n == 0) with
      | true =>
        have hn0 : n = 0 := by simpa using hn
        refine ⟨_, _, .inl ⟨rfl, rfl, rfl⟩, ?_⟩
        unfold builtinA
        simp only [List.isEmpty_cons, Bool.false_eq_true, if_false, intOfA, bind, Except.bind]
        rw [if_neg (by omega), if_pos hn0]
      | false =>
        have hn0 : n ≠ 0 := by simpa using hn
        refine ⟨_, _, .inr ⟨rfl, rfl, rfl⟩, ?_⟩
        have hg : getC h a n.toNat = .ok ((c.drop a.off).take n.toNat) := by
          unfold getC; rw [hc]; simp only; rw [if_pos ⟨p3, m4⟩]
        unfold builtinA
        simp only [List.isEmpty_cons, Bool.false_eq_true, if_false, intOfA, bind, Except.bind]
        rw [if_neg (by omega), if_neg hn0]
        simp only [hc]
        rw [if_neg m3]
        simp only [List.headD_cons, hd, hu]
        rw [if_neg (by rintro (hh | hh); exact hh m1; exact hh m2), hg]
        simp only [p4]
    · simp [no] at hw
  · simp [no] at hw
theorem opW_ok {ρ : Operand → Value} {o : Oper} {h : AH} {p : Prop} {k : KT} (hw : opW P ρ o h = .ok (p, k)) (hp : p) : ∃ v h', k.sat v h' ∧ Goes P ρ o h v h' := by
  unfold opW at hw
  rw [ite_no] at hw
  obtain ⟨hok, hw⟩ := hw
  have hok : okOps P o = true := by cases hq : okOps P o with | true => rfl | false => rw [hq] at hok; simp at hok
  have l1 : ∀ {x : M (Prop × Value × AH)}, lift1 x = .ok (p, k) → ∃ v h', x = .ok (p, v, h') ∧ k = .ret v h' := by
    intro x hx
    unfold lift1 at hx
    simp only [bind_ok] at hx
    obtain ⟨⟨p1, v, h'⟩, hx, e⟩ := hx
    rw [okk] at e
    injection e with e1 e2
    subst e1; subst e2
    exact ⟨v, h', hx, rfl⟩
  split at hw
  · rename_i t x ho
    obtain ⟨v, h', hx, rfl⟩ := l1 hw
    obtain ⟨hr, rfl⟩ := wLoad_ok ho hx hp
    exact ⟨v, h', ⟨rfl, rfl⟩, read_goes hok (by rw [ho]; rfl) hr⟩
  · rename_i t x y ho
    obtain ⟨v, h', hx, rfl⟩ := l1 hw
    obtain ⟨hr, rfl⟩ := wStore_ok ho hx hp
    exact ⟨undef, h', ⟨rfl, rfl⟩, .inr ⟨exec_eff hok (by rw [ho]; rfl) hr, rfl⟩⟩
  · rename_i t x y ho
    obtain ⟨v, h', hx, rfl⟩ := l1 hw
    obtain ⟨hr, rfl⟩ := wIndexAddr_ok ho hx hp
    exact ⟨v, h', ⟨rfl, rfl⟩, read_goes hok (by rw [ho]; rfl) hr⟩
  · rename_i t x y ho
    obtain ⟨v, h', hx, rfl⟩ := l1 hw
    obtain ⟨hr, rfl⟩ := wIndex_ok ho hx hp
    exact ⟨v, h', ⟨rfl, rfl⟩, read_goes hok (by rw [ho]; rfl) hr⟩
  · rename_i op t x y yt ho
    obtain ⟨v, h', hx, rfl⟩ := l1 hw
    obtain ⟨hr, rfl⟩ := wBin_ok ho hx hp
    exact ⟨v, h', ⟨rfl, rfl⟩, read_goes hok (by rw [ho]; rfl) hr⟩
  · rename_i t x lo hi mx ho
    obtain ⟨v, h', hx, rfl⟩ := l1 hw
    obtain ⟨hr, rfl⟩ := wSlice_ok ho hx hp
    exact ⟨v, h', ⟨rfl, rfl⟩, read_goes hok (by rw [ho]; rfl) hr⟩
  · rename_i args ats ho
    obtain ⟨v, h', hs, ha⟩ := wAppend_ok hw hp
    refine ⟨v, h', hs, .inl (exec_eff hok (by rw [ho]; rfl) ?_)⟩
    unfold effA
    simp only [ho, resolveA, bind, Except.bind, invokeA, builtinA]
    rw [ha]
  · rename_i args ats ho
    obtain ⟨v, h', hs, ha⟩ := wCopy_ok hw hp
    refine ⟨v, h', hs, .inl (exec_eff hok (by rw [ho]; rfl) ?_)⟩
    unfold effA
    simp only [ho, resolveA, bind, Except.bind, invokeA]
    exact ha
  · rename_i args ats ho
    obtain ⟨v, h', hs, ha⟩ := wUnsafeString_ok hw hp
    refine ⟨v, h', hs, .inl (exec_eff hok (by rw [ho]; rfl) ?_)⟩
    unfold effA
    simp only [ho, resolveA, bind, Except.bind, invokeA]
    exact ha
  · rename_i args ats ho
    obtain ⟨v, h', hx, rfl⟩ := l1 hw
    unfold wSliceData at hx
    split at hx
    · rename_i a l c ha
      split at hx
      · rename_i hc
        rw [okk] at hx
        injection hx with e1 e2
        injection e2 with e2 e3
        subst e1; subst e2; subst e3
        refine ⟨_, _, ⟨rfl, rfl⟩, read_goes hok (by rw [ho]; rfl) ?_⟩
        unfold readA
        simp only [ho, hc.2, ha, Bool.false_eq_true, if_false]
        have hc0 : c ≠ 0 := by rintro rfl; exact absurd hc.1 (by decide)
        unfold readB
        exact if_pos ⟨hc0, .inr hp⟩
      · simp [no] at hx
    · simp [no] at hx
  · rename_i s d x ho
    exact wConv_ok hok ho hw hp
  · rename_i t l c ho
    exact wMakeSlice_ok hok ho hw hp
  · rename_i t x y c ho
    exact wLookup_ok hok ho hw hp
  · rename_i t m y x ho
    obtain ⟨h', hs, ha⟩ := mapSet_ok' hw hp
    refine ⟨undef, h', hs, .inr ⟨exec_eff hok (by rw [ho]; rfl) ?_, rfl⟩⟩
    unfold effA
    simp only [ho, bind, Except.bind, ha]
  · rename_i t m y x ho
    obtain ⟨h', hs, ha⟩ := mapSet_ok' hw hp
    refine ⟨undef, h', hs, .inr ⟨exec_eff hok (by rw [ho]; rfl) ?_, rfl⟩⟩
    unfold effA
    simp only [ho, bind, Except.bind, ha]
  · simp [no] at hw
end Go.Ev

