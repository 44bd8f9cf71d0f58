/- RClnC, part 4: what the proof needs, in the order of its texts. -/
import Derived.Test.YtjjlnehilcnheaaGreatDoorRClnC3
import Derived.Test.YtjjlnehilcnheaaGreatDoorRows
import Derived.KernelRfl
namespace Go.Proofs.YtjjlnehilcnheaaGreatDoor.requestShownRun
open Go Go.Ev Go.Proofs
set_option maxRecDepth 100000
set_option linter.unusedVariables false
noncomputable abbrev nest : Nest := nestA Tryz.prog 1000000 20
noncomputable def b8 : Code := ((Tryz.f8).body).getD .skip
noncomputable def b62 : Code := ((Tryz.f62).body).getD .skip
noncomputable def b28 : Code := ((Tryz.f28).body).getD .skip
noncomputable def b33 : Code := ((Tryz.f33).body).getD .skip
noncomputable def b9 : Code := ((Tryz.f9).body).getD .skip
noncomputable def b27 : Code := ((Tryz.f27).body).getD .skip
noncomputable def b25 : Code := ((Tryz.f25).body).getD .skip
def tab : List (Nat × TypeId × List Value) := [(0, 102, [(.string ⟨⟨[71, 69, 84]⟩⟩), (.bool true), (.bool true), (.bool true), (.bool false), (.bool false), (.string ⟨⟨[72, 69, 65, 68]⟩⟩), (.bool true), (.bool true), (.bool true), (.bool false), (.bool false), (.string ⟨⟨[79, 80, 84, 73, 79, 78, 83]⟩⟩), (.bool true), (.bool true), (.bool false), (.bool false), (.bool false), (.string ⟨⟨[84, 82, 65, 67, 69]⟩⟩), (.bool true), (.bool true), (.bool true), (.bool false), (.bool false), (.string ⟨⟨[80, 85, 84]⟩⟩), (.bool false), (.bool true), (.bool false), (.bool true), (.bool false), (.string ⟨⟨[68, 69, 76, 69, 84, 69]⟩⟩), (.bool false), (.bool true), (.bool false), (.bool false), (.bool false), (.string ⟨⟨[80, 79, 83, 84]⟩⟩), (.bool false), (.bool false), (.bool false), (.bool true), (.bool false), (.string ⟨⟨[80, 65, 84, 67, 72]⟩⟩), (.bool false), (.bool false), (.bool false), (.bool true), (.bool false), (.string ⟨⟨[67, 79, 78, 78, 69, 67, 84]⟩⟩), (.bool false), (.bool false), (.bool false), (.bool false), (.bool true)]), (1, 191, [(.int .u8 0), (.int .u8 0), (.int .u8 0), (.int .u8 0), (.int .u8 0), (.int .u8 0), (.int .u8 0), (.int .u8 0), (.int .u8 0), (.int .u8 0), (.int .u8 0), (.int .u8 0), (.int .u8 0), (.int .u8 0), (.int .u8 0), (.int .u8 0), (.int .u8 0), (.int .u8 0), (.int .u8 0), (.int .u8 0), (.int .u8 0), (.int .u8 0), (.int .u8 0), (.int .u8 0), (.int .u8 0), (.int .u8 0), (.int .u8 0), (.int .u8 0), (.int .u8 0), (.int .u8 0), (.int .u8 0), (.int .u8 0), (.int .u8 0), (.int .u8 2), (.int .u8 0), (.int .u8 0), (.int .u8 2), (.int .u8 0), (.int .u8 2), (.int .u8 2), (.int .u8 2), (.int .u8 2), (.int .u8 2), (.int .u8 2), (.int .u8 2), (.int .u8 1), (.int .u8 1), (.int .u8 2), (.int .u8 1), (.int .u8 1), (.int .u8 1), (.int .u8 1), (.int .u8 1), (.int .u8 1), (.int .u8 1), (.int .u8 1), (.int .u8 1), (.int .u8 1), (.int .u8 2), (.int .u8 2), (.int .u8 0), (.int .u8 2), (.int .u8 0), (.int .u8 2), (.int .u8 2), (.int .u8 1), (.int .u8 1), (.int .u8 1), (.int .u8 1), (.int .u8 1), (.int .u8 1), (.int .u8 1), (.int .u8 1), (.int .u8 1), (.int .u8 1), (.int .u8 1), (.int .u8 1), (.int .u8 1), (.int .u8 1), (.int .u8 1), (.int .u8 1), (.int .u8 1), (.int .u8 1), (.int .u8 1), (.int .u8 1), (.int .u8 1), (.int .u8 1), (.int .u8 1), (.int .u8 1), (.int .u8 1), (.int .u8 1), (.int .u8 0), (.int .u8 0), (.int .u8 0), (.int .u8 0), (.int .u8 1), (.int .u8 0), (.int .u8 1), (.int .u8 1), (.int .u8 1), (.int .u8 1), (.int .u8 1), (.int .u8 1), (.int .u8 1), (.int .u8 1), (.int .u8 1), (.int .u8 1), (.int .u8 1), (.int .u8 1), (.int .u8 1), (.int .u8 1), (.int .u8 1), (.int .u8 1), (.int .u8 1), (.int .u8 1), (.int .u8 1), (.int .u8 1), (.int .u8 1), (.int .u8 1), (.int .u8 1), (.int .u8 1), (.int .u8 1), (.int .u8 1), (.int .u8 0), (.int .u8 0), (.int .u8 0), (.int .u8 1), (.int .u8 0)])]
noncomputable def s0 : AS := ⟨⟨8, 77, .nil, [.code (codeAt b8 [])], [], .run, .normal, none⟩, [], ⟨(.node (some (.cells 102 [(.string ⟨⟨[71, 69, 84]⟩⟩), (.bool true), (.bool true), (.bool true), (.bool false), (.bool false), (.string ⟨⟨[72, 69, 65, 68]⟩⟩), (.bool true), (.bool true), (.bool true), (.bool false), (.bool false), (.string ⟨⟨[79, 80, 84, 73, 79, 78, 83]⟩⟩), (.bool true), (.bool true), (.bool false), (.bool false), (.bool false), (.string ⟨⟨[84, 82, 65, 67, 69]⟩⟩), (.bool true), (.bool true), (.bool true), (.bool false), (.bool false), (.string ⟨⟨[80, 85, 84]⟩⟩), (.bool false), (.bool true), (.bool false), (.bool true), (.bool false), (.string ⟨⟨[68, 69, 76, 69, 84, 69]⟩⟩), (.bool false), (.bool true), (.bool false), (.bool false), (.bool false), (.string ⟨⟨[80, 79, 83, 84]⟩⟩), (.bool false), (.bool false), (.bool false), (.bool true), (.bool false), (.string ⟨⟨[80, 65, 84, 67, 72]⟩⟩), (.bool false), (.bool false), (.bool false), (.bool true), (.bool false), (.string ⟨⟨[67, 79, 78, 78, 69, 67, 84]⟩⟩), (.bool false), (.bool false), (.bool false), (.bool false), (.bool true)] true 0)) (.node (some (.cells 191 [(.int .u8 0), (.int .u8 0), (.int .u8 0), (.int .u8 0), (.int .u8 0), (.int .u8 0), (.int .u8 0), (.int .u8 0), (.int .u8 0), (.int .u8 0), (.int .u8 0), (.int .u8 0), (.int .u8 0), (.int .u8 0), (.int .u8 0), (.int .u8 0), (.int .u8 0), (.int .u8 0), (.int .u8 0), (.int .u8 0), (.int .u8 0), (.int .u8 0), (.int .u8 0), (.int .u8 0), (.int .u8 0), (.int .u8 0), (.int .u8 0), (.int .u8 0), (.int .u8 0), (.int .u8 0), (.int .u8 0), (.int .u8 0), (.int .u8 0), (.int .u8 2), (.int .u8 0), (.int .u8 0), (.int .u8 2), (.int .u8 0), (.int .u8 2), (.int .u8 2), (.int .u8 2), (.int .u8 2), (.int .u8 2), (.int .u8 2), (.int .u8 2), (.int .u8 1), (.int .u8 1), (.int .u8 2), (.int .u8 1), (.int .u8 1), (.int .u8 1), (.int .u8 1), (.int .u8 1), (.int .u8 1), (.int .u8 1), (.int .u8 1), (.int .u8 1), (.int .u8 1), (.int .u8 2), (.int .u8 2), (.int .u8 0), (.int .u8 2), (.int .u8 0), (.int .u8 2), (.int .u8 2), (.int .u8 1), (.int .u8 1), (.int .u8 1), (.int .u8 1), (.int .u8 1), (.int .u8 1), (.int .u8 1), (.int .u8 1), (.int .u8 1), (.int .u8 1), (.int .u8 1), (.int .u8 1), (.int .u8 1), (.int .u8 1), (.int .u8 1), (.int .u8 1), (.int .u8 1), (.int .u8 1), (.int .u8 1), (.int .u8 1), (.int .u8 1), (.int .u8 1), (.int .u8 1), (.int .u8 1), (.int .u8 1), (.int .u8 1), (.int .u8 0), (.int .u8 0), (.int .u8 0), (.int .u8 0), (.int .u8 1), (.int .u8 0), (.int .u8 1), (.int .u8 1), (.int .u8 1), (.int .u8 1), (.int .u8 1), (.int .u8 1), (.int .u8 1), (.int .u8 1), (.int .u8 1), (.int .u8 1), (.int .u8 1), (.int .u8 1), (.int .u8 1), (.int .u8 1), (.int .u8 1), (.int .u8 1), (.int .u8 1), (.int .u8 1), (.int .u8 1), (.int .u8 1), (.int .u8 1), (.int .u8 1), (.int .u8 1), (.int .u8 1), (.int .u8 1), (.int .u8 1), (.int .u8 0), (.int .u8 0), (.int .u8 0), (.int .u8 1), (.int .u8 0)] true 0)) .nil .nil) .nil), 126⟩⟩
noncomputable def s1 : AS := ⟨⟨25, 41, (.node (some (.agg ⟨[(.int .i64 7), (.string ⟨⟨[71, 69, 84]⟩⟩), (.string ⟨⟨[47, 97, 47, 46, 46, 47, 98, 37, 55, 101, 63, 120]⟩⟩), (.string ⟨⟨[104]⟩⟩), (.slice (some ⟨127, 0, none⟩) 2 2), (.string ⟨⟨[]⟩⟩)]⟩)) (.node (some (.pointer (some ⟨128, 0, none⟩))) (.node (some (.int .i64 0)) .nil (.node (some (.agg ⟨[(.int .i64 7), (.string ⟨⟨[71, 69, 84]⟩⟩), (.string ⟨⟨[47, 97, 47, 46, 46, 47, 98, 37, 55, 101, 63, 120]⟩⟩), (.string ⟨⟨[104]⟩⟩), (.slice (some ⟨127, 0, none⟩) 2 2), (.string ⟨⟨[]⟩⟩)]⟩)) .nil .nil)) .nil) (.node (some (.string ⟨⟨[]⟩⟩)) (.node none .nil (.node (some (.tuple ⟨[(.string ⟨⟨[]⟩⟩), (.int .i64 0)]⟩)) .nil .nil)) .nil)), [.inRegion (opsAt b25 [1, 0, 0]) [2, 3, 4, 5, 6], .code (codeAt b25 [1, 0, 1]), .code (codeAt b25 [1, 1])], [], .run, .normal, none⟩, [⟨8, 77, (.node (some (.bool false)) .nil (.node none (.node none .nil (.node (some (.agg ⟨[(.int .i64 7), (.string ⟨⟨[71, 69, 84]⟩⟩), (.string ⟨⟨[47, 97, 47, 46, 46, 47, 98, 37, 55, 101, 63, 120]⟩⟩), (.string ⟨⟨[104]⟩⟩), (.slice (some ⟨127, 0, none⟩) 2 2), (.string ⟨⟨[]⟩⟩)]⟩)) .nil .nil)) .nil)), [.inRegion (opsAt b8 [1, 0]) [1, 2, 3, 4, 5, 6], .code (codeAt b8 [1, 1])], [], .run, .normal, none⟩], ⟨(.node (some (.cells 102 [(.string ⟨⟨[71, 69, 84]⟩⟩), (.bool true), (.bool true), (.bool true), (.bool false), (.bool false), (.string ⟨⟨[72, 69, 65, 68]⟩⟩), (.bool true), (.bool true), (.bool true), (.bool false), (.bool false), (.string ⟨⟨[79, 80, 84, 73, 79, 78, 83]⟩⟩), (.bool true), (.bool true), (.bool false), (.bool false), (.bool false), (.string ⟨⟨[84, 82, 65, 67, 69]⟩⟩), (.bool true), (.bool true), (.bool true), (.bool false), (.bool false), (.string ⟨⟨[80, 85, 84]⟩⟩), (.bool false), (.bool true), (.bool false), (.bool true), (.bool false), (.string ⟨⟨[68, 69, 76, 69, 84, 69]⟩⟩), (.bool false), (.bool true), (.bool false), (.bool false), (.bool false), (.string ⟨⟨[80, 79, 83, 84]⟩⟩), (.bool false), (.bool false), (.bool false), (.bool true), (.bool false), (.string ⟨⟨[80, 65, 84, 67, 72]⟩⟩), (.bool false), (.bool false), (.bool false), (.bool true), (.bool false), (.string ⟨⟨[67, 79, 78, 78, 69, 67, 84]⟩⟩), (.bool false), (.bool false), (.bool false), (.bool false), (.bool true)] true 0)) (.node (some (.cells 191 [(.int .u8 0), (.int .u8 0), (.int .u8 0), (.int .u8 0), (.int .u8 0), (.int .u8 0), (.int .u8 0), (.int .u8 0), (.int .u8 0), (.int .u8 0), (.int .u8 0), (.int .u8 0), (.int .u8 0), (.int .u8 0), (.int .u8 0), (.int .u8 0), (.int .u8 0), (.int .u8 0), (.int .u8 0), (.int .u8 0), (.int .u8 0), (.int .u8 0), (.int .u8 0), (.int .u8 0), (.int .u8 0), (.int .u8 0), (.int .u8 0), (.int .u8 0), (.int .u8 0), (.int .u8 0), (.int .u8 0), (.int .u8 0), (.int .u8 0), (.int .u8 2), (.int .u8 0), (.int .u8 0), (.int .u8 2), (.int .u8 0), (.int .u8 2), (.int .u8 2), (.int .u8 2), (.int .u8 2), (.int .u8 2), (.int .u8 2), (.int .u8 2), (.int .u8 1), (.int .u8 1), (.int .u8 2), (.int .u8 1), (.int .u8 1), (.int .u8 1), (.int .u8 1), (.int .u8 1), (.int .u8 1), (.int .u8 1), (.int .u8 1), (.int .u8 1), (.int .u8 1), (.int .u8 2), (.int .u8 2), (.int .u8 0), (.int .u8 2), (.int .u8 0), (.int .u8 2), (.int .u8 2), (.int .u8 1), (.int .u8 1), (.int .u8 1), (.int .u8 1), (.int .u8 1), (.int .u8 1), (.int .u8 1), (.int .u8 1), (.int .u8 1), (.int .u8 1), (.int .u8 1), (.int .u8 1), (.int .u8 1), (.int .u8 1), (.int .u8 1), (.int .u8 1), (.int .u8 1), (.int .u8 1), (.int .u8 1), (.int .u8 1), (.int .u8 1), (.int .u8 1), (.int .u8 1), (.int .u8 1), (.int .u8 1), (.int .u8 1), (.int .u8 0), (.int .u8 0), (.int .u8 0), (.int .u8 0), (.int .u8 1), (.int .u8 0), (.int .u8 1), (.int .u8 1), (.int .u8 1), (.int .u8 1), (.int .u8 1), (.int .u8 1), (.int .u8 1), (.int .u8 1), (.int .u8 1), (.int .u8 1), (.int .u8 1), (.int .u8 1), (.int .u8 1), (.int .u8 1), (.int .u8 1), (.int .u8 1), (.int .u8 1), (.int .u8 1), (.int .u8 1), (.int .u8 1), (.int .u8 1), (.int .u8 1), (.int .u8 1), (.int .u8 1), (.int .u8 1), (.int .u8 1), (.int .u8 0), (.int .u8 0), (.int .u8 0), (.int .u8 1), (.int .u8 0)] true 0)) (.node none (.node none (.node none (.node none (.node none (.node (some (.cells 49 [(.string ⟨⟨[67, 111, 110, 110, 101, 99, 116, 105, 111, 110]⟩⟩), (.string ⟨⟨[99, 108, 111, 115, 101]⟩⟩), (.string ⟨⟨[65, 99, 99, 101, 112, 116]⟩⟩), (.string ⟨⟨[42]⟩⟩)] true 2)) .nil .nil) .nil) .nil) .nil) .nil) .nil) .nil) (.node none (.node none (.node none (.node none (.node none (.node none (.node (some (.cells 24 [(.int .i64 7), (.string ⟨⟨[71, 69, 84]⟩⟩), (.string ⟨⟨[47, 97, 47, 46, 46, 47, 98, 37, 55, 101, 63, 120]⟩⟩), (.string ⟨⟨[104]⟩⟩), (.slice (some ⟨127, 0, none⟩) 2 2), (.string ⟨⟨[]⟩⟩)] true 2)) .nil .nil) .nil) .nil) .nil) .nil) .nil) .nil)), 587⟩⟩
theorem seg0 : chunk Tryz.prog nest 12351 [0, 1, 127, 128] s0 = .ok s1 := by kernel_rfl
noncomputable def s2 : AS := ⟨⟨8, 77, (.node (some (.bool false)) (.node none .nil (.node none .nil (.node (some (.tuple ⟨[(.string ⟨⟨[71, 69, 84, 32, 47, 97, 47, 46, 46, 47, 98, 37, 55, 101, 63, 120, 32, 72, 84, 84, 80, 47, 49, 46, 49, 13, 10, 72, 111, 115, 116, 58, 32, 104, 13, 10, 88, 45, 82, 101, 113, 117, 101, 115, 116, 45, 73, 100, 58, 32, 55, 13, 10, 65, 99, 99, 101, 112, 116, 58, 32, 42, 13, 10, 13, 10]⟩⟩), (.int .i64 0)]⟩)) .nil .nil))) (.node none (.node none .nil (.node (some (.agg ⟨[(.int .i64 7), (.string ⟨⟨[71, 69, 84]⟩⟩), (.string ⟨⟨[47, 97, 47, 46, 46, 47, 98, 37, 55, 101, 63, 120]⟩⟩), (.string ⟨⟨[104]⟩⟩), (.slice (some ⟨127, 0, none⟩) 2 2), (.string ⟨⟨[]⟩⟩)]⟩)) .nil .nil)) .nil)), [.inRegion (opsAt b8 [1, 0]) [2, 3, 4, 5, 6], .code (codeAt b8 [1, 1])], [], .run, .normal, none⟩, [], ⟨(.node (some (.cells 102 [(.string ⟨⟨[71, 69, 84]⟩⟩), (.bool true), (.bool true), (.bool true), (.bool false), (.bool false), (.string ⟨⟨[72, 69, 65, 68]⟩⟩), (.bool true), (.bool true), (.bool true), (.bool false), (.bool false), (.string ⟨⟨[79, 80, 84, 73, 79, 78, 83]⟩⟩), (.bool true), (.bool true), (.bool false), (.bool false), (.bool false), (.string ⟨⟨[84, 82, 65, 67, 69]⟩⟩), (.bool true), (.bool true), (.bool true), (.bool false), (.bool false), (.string ⟨⟨[80, 85, 84]⟩⟩), (.bool false), (.bool true), (.bool false), (.bool true), (.bool false), (.string ⟨⟨[68, 69, 76, 69, 84, 69]⟩⟩), (.bool false), (.bool true), (.bool false), (.bool false), (.bool false), (.string ⟨⟨[80, 79, 83, 84]⟩⟩), (.bool false), (.bool false), (.bool false), (.bool true), (.bool false), (.string ⟨⟨[80, 65, 84, 67, 72]⟩⟩), (.bool false), (.bool false), (.bool false), (.bool true), (.bool false), (.string ⟨⟨[67, 79, 78, 78, 69, 67, 84]⟩⟩), (.bool false), (.bool false), (.bool false), (.bool false), (.bool true)] true 0)) (.node (some (.cells 191 [(.int .u8 0), (.int .u8 0), (.int .u8 0), (.int .u8 0), (.int .u8 0), (.int .u8 0), (.int .u8 0), (.int .u8 0), (.int .u8 0), (.int .u8 0), (.int .u8 0), (.int .u8 0), (.int .u8 0), (.int .u8 0), (.int .u8 0), (.int .u8 0), (.int .u8 0), (.int .u8 0), (.int .u8 0), (.int .u8 0), (.int .u8 0), (.int .u8 0), (.int .u8 0), (.int .u8 0), (.int .u8 0), (.int .u8 0), (.int .u8 0), (.int .u8 0), (.int .u8 0), (.int .u8 0), (.int .u8 0), (.int .u8 0), (.int .u8 0), (.int .u8 2), (.int .u8 0), (.int .u8 0), (.int .u8 2), (.int .u8 0), (.int .u8 2), (.int .u8 2), (.int .u8 2), (.int .u8 2), (.int .u8 2), (.int .u8 2), (.int .u8 2), (.int .u8 1), (.int .u8 1), (.int .u8 2), (.int .u8 1), (.int .u8 1), (.int .u8 1), (.int .u8 1), (.int .u8 1), (.int .u8 1), (.int .u8 1), (.int .u8 1), (.int .u8 1), (.int .u8 1), (.int .u8 2), (.int .u8 2), (.int .u8 0), (.int .u8 2), (.int .u8 0), (.int .u8 2), (.int .u8 2), (.int .u8 1), (.int .u8 1), (.int .u8 1), (.int .u8 1), (.int .u8 1), (.int .u8 1), (.int .u8 1), (.int .u8 1), (.int .u8 1), (.int .u8 1), (.int .u8 1), (.int .u8 1), (.int .u8 1), (.int .u8 1), (.int .u8 1), (.int .u8 1), (.int .u8 1), (.int .u8 1), (.int .u8 1), (.int .u8 1), (.int .u8 1), (.int .u8 1), (.int .u8 1), (.int .u8 1), (.int .u8 1), (.int .u8 1), (.int .u8 0), (.int .u8 0), (.int .u8 0), (.int .u8 0), (.int .u8 1), (.int .u8 0), (.int .u8 1), (.int .u8 1), (.int .u8 1), (.int .u8 1), (.int .u8 1), (.int .u8 1), (.int .u8 1), (.int .u8 1), (.int .u8 1), (.int .u8 1), (.int .u8 1), (.int .u8 1), (.int .u8 1), (.int .u8 1), (.int .u8 1), (.int .u8 1), (.int .u8 1), (.int .u8 1), (.int .u8 1), (.int .u8 1), (.int .u8 1), (.int .u8 1), (.int .u8 1), (.int .u8 1), (.int .u8 1), (.int .u8 1), (.int .u8 0), (.int .u8 0), (.int .u8 0), (.int .u8 1), (.int .u8 0)] true 0)) (.node none (.node none (.node none (.node none (.node none (.node (some (.cells 49 [(.string ⟨⟨[67, 111, 110, 110, 101, 99, 116, 105, 111, 110]⟩⟩), (.string ⟨⟨[99, 108, 111, 115, 101]⟩⟩), (.string ⟨⟨[65, 99, 99, 101, 112, 116]⟩⟩), (.string ⟨⟨[42]⟩⟩)] true 2)) .nil .nil) .nil) .nil) .nil) .nil) .nil) .nil) .nil), 943⟩⟩
theorem seg1 : chunk Tryz.prog nest 8074 [0, 1, 127] s1 = .ok s2 := by kernel_rfl
noncomputable def s3 : AS := ⟨⟨33, 36, (.node (some (.agg ⟨[(.int .i64 7), (.string ⟨⟨[71, 69, 84]⟩⟩), (.string ⟨⟨[47, 97, 47, 46, 46, 47, 98, 37, 55, 101, 63, 120]⟩⟩), (.string ⟨⟨[104]⟩⟩), (.slice (some ⟨1061, 0, none⟩) 2 2), (.string ⟨⟨[]⟩⟩)]⟩)) (.node (some (.pointer (some ⟨1077, 0, none⟩))) (.node (some (.int .i64 0)) (.node none (.node (some (.slice (some ⟨1061, 0, none⟩) 2 2)) .nil .nil) (.node (some (.string ⟨⟨[97, 99, 99, 101, 112, 116]⟩⟩)) .nil .nil)) (.node (some (.int .i64 0)) (.node (some (.pointer (some ⟨1061, 2, none⟩))) .nil .nil) (.node (some (.agg ⟨[(.int .i64 7), (.string ⟨⟨[71, 69, 84]⟩⟩), (.string ⟨⟨[47, 97, 47, 46, 46, 47, 98, 37, 55, 101, 63, 120]⟩⟩), (.string ⟨⟨[104]⟩⟩), (.slice (some ⟨1061, 0, none⟩) 2 2), (.string ⟨⟨[]⟩⟩)]⟩)) .nil .nil))) (.node (some (.pointer (some ⟨1158, 0, none⟩))) (.node (some (.slice (some ⟨1061, 0, none⟩) 2 2)) (.node (some (.int .i64 2)) .nil .nil) (.node (some (.int .i64 2)) .nil .nil)) (.node none (.node (some (.pointer (some ⟨1158, 0, none⟩))) .nil .nil) .nil))) (.node (some (.int .i64 0)) (.node none (.node (some (.pointer (some ⟨1077, 4, none⟩))) (.node (some (.int .i64 2)) .nil .nil) (.node (some (.bool false)) .nil .nil)) (.node (some (.bool false)) (.node (some (.agg ⟨[(.string ⟨⟨[65, 99, 99, 101, 112, 116]⟩⟩), (.string ⟨⟨[42]⟩⟩)]⟩)) .nil .nil) (.node (some (.tuple ⟨[(.slice (some ⟨1448, 0, none⟩) 3 9223372036854775810), (.int .i64 0)]⟩)) .nil .nil))) (.node none (.node (some (.int .i64 0)) (.node (some (.bool false)) .nil .nil) .nil) (.node (some (.pointer (some ⟨1077, 4, none⟩))) (.node (some (.string ⟨⟨[65, 99, 99, 101, 112, 116]⟩⟩)) .nil .nil) .nil)))), [.inRegion (opsAt b33 [1, 1, 1, 0]) [2, 3, 4, 5, 6], .code (codeAt b33 [1, 1, 1, 1])], [], .run, .normal, none⟩, [⟨9, 42, (.node (some (.agg ⟨[(.int .i64 7), (.string ⟨⟨[71, 69, 84]⟩⟩), (.string ⟨⟨[47, 97, 47, 46, 46, 47, 98, 37, 55, 101, 63, 120]⟩⟩), (.string ⟨⟨[104]⟩⟩), (.slice (some ⟨1061, 0, none⟩) 2 2), (.string ⟨⟨[]⟩⟩)]⟩)) (.node (some (.pointer (some ⟨1063, 0, none⟩))) (.node (some (.int .i64 0)) (.node none (.node (some (.bool false)) (.node (some (.bool false)) .nil .nil) .nil) (.node (some (.string ⟨⟨[47, 97, 47, 46, 46, 47, 98, 37, 55, 101, 63, 120]⟩⟩)) .nil .nil)) (.node (some (.bool false)) (.node (some (.int .i64 0)) .nil .nil) .nil)) (.node (some (.int .i64 0)) (.node (some (.int .i64 7)) (.node (some (.string ⟨⟨[71, 69, 84]⟩⟩)) .nil .nil) (.node (some (.int .i64 0)) .nil .nil)) (.node (some (.int .i64 7)) .nil (.node (some (.string ⟨⟨[104]⟩⟩)) .nil .nil)))) (.node (some (.string ⟨⟨[]⟩⟩)) (.node (some (.int .i64 0)) (.node (some (.pointer (some ⟨1063, 0, none⟩))) (.node (some (.pointer (some ⟨1063, 1, none⟩))) (.node (some (.agg ⟨[(.int .i64 7), (.string ⟨⟨[71, 69, 84]⟩⟩), (.string ⟨⟨[47, 97, 47, 46, 46, 47, 98, 37, 55, 101, 63, 120]⟩⟩), (.string ⟨⟨[104]⟩⟩), (.slice (some ⟨1061, 0, none⟩) 2 2), (.string ⟨⟨[]⟩⟩)]⟩)) .nil .nil) .nil) (.node (some (.int .i64 0)) .nil .nil)) (.node (some (.pointer (some ⟨1063, 0, none⟩))) (.node (some (.bool false)) .nil .nil) (.node (some (.pointer (some ⟨1063, 3, none⟩))) .nil .nil))) (.node none (.node (some (.bool false)) (.node (some (.int .i64 0)) .nil .nil) (.node (some (.bool false)) .nil .nil)) (.node (some (.bool false)) (.node (some (.pointer (some ⟨1063, 2, none⟩))) .nil .nil) (.node (some (.bool true)) .nil .nil))))), [.inRegion (opsAt b9 [1, 1, 1, 1, 1, 0, 0]) [1, 2], .code (codeAt b9 [1, 1, 1, 1, 1, 0, 1]), .code (codeAt b9 [1, 1, 1, 1, 1, 1])], [], .run, .normal, none⟩, ⟨27, 57, (.node (some (.agg ⟨[(.int .i64 7), (.string ⟨⟨[71, 69, 84]⟩⟩), (.string ⟨⟨[47, 97, 47, 46, 46, 47, 98, 37, 55, 101, 63, 120]⟩⟩), (.string ⟨⟨[104]⟩⟩), (.slice (some ⟨1061, 0, none⟩) 2 2), (.string ⟨⟨[]⟩⟩)]⟩)) (.node (some (.int .i64 3)) (.node (some (.pointer (some ⟨1062, 0, none⟩))) (.node (some (.int .i64 0)) (.node (some (.int .i64 3)) .nil .nil) .nil) .nil) (.node none (.node none (.node (some (.bool true)) .nil .nil) .nil) .nil)) (.node (some (.string ⟨⟨[97, 99, 99, 101, 112, 116]⟩⟩)) (.node none (.node none (.node (some (.string ⟨⟨[97, 99, 99, 101, 112, 116]⟩⟩)) .nil .nil) .nil) (.node none (.node (some (.agg ⟨[(.int .i64 7), (.string ⟨⟨[71, 69, 84]⟩⟩), (.string ⟨⟨[47, 97, 47, 46, 46, 47, 98, 37, 55, 101, 63, 120]⟩⟩), (.string ⟨⟨[104]⟩⟩), (.slice (some ⟨1061, 0, none⟩) 2 2), (.string ⟨⟨[]⟩⟩)]⟩)) .nil .nil) .nil)) (.node (some (.string ⟨⟨[]⟩⟩)) (.node none (.node (some (.bool false)) .nil .nil) .nil) .nil))), [.inRegion (opsAt b27 [1, 1, 0, 0]) [1, 2, 3, 4, 5, 6], .code (codeAt b27 [1, 1, 0, 1]), .code (codeAt b27 [1, 1, 1])], [], .run, .normal, none⟩, ⟨8, 77, (.node (some (.bool false)) (.node (some (.string ⟨⟨[71, 69, 84, 32, 47, 97, 47, 46, 46, 47, 98, 37, 55, 101, 63, 120, 32, 72, 84, 84, 80, 47, 49, 46, 49, 13, 10, 72, 111, 115, 116, 58, 32, 104, 13, 10, 88, 45, 82, 101, 113, 117, 101, 115, 116, 45, 73, 100, 58, 32, 55, 13, 10, 65, 99, 99, 101, 112, 116, 58, 32, 42, 13, 10, 13, 10]⟩⟩)) (.node (some (.string ⟨⟨[47, 98, 126, 63, 120]⟩⟩)) (.node none (.node (some (.int .i64 0)) .nil .nil) (.node (some (.agg ⟨[(.int .i64 7), (.string ⟨⟨[71, 69, 84]⟩⟩), (.string ⟨⟨[47, 97, 47, 46, 46, 47, 98, 37, 55, 101, 63, 120]⟩⟩), (.string ⟨⟨[104]⟩⟩), (.slice (some ⟨1061, 0, none⟩) 2 2), (.string ⟨⟨[]⟩⟩)]⟩)) .nil .nil)) (.node (some (.tuple ⟨[(.string ⟨⟨[71, 69, 84, 32, 47, 97, 47, 46, 46, 47, 98, 37, 55, 101, 63, 120, 32, 72, 84, 84, 80, 47, 49, 46, 49, 13, 10, 72, 111, 115, 116, 58, 32, 104, 13, 10, 88, 45, 82, 101, 113, 117, 101, 115, 116, 45, 73, 100, 58, 32, 55, 13, 10, 65, 99, 99, 101, 112, 116, 58, 32, 42, 13, 10, 13, 10]⟩⟩), (.int .i64 0)]⟩)) (.node (some (.tuple ⟨[(.string ⟨⟨[47, 98, 126, 63, 120]⟩⟩), (.int .i64 0)]⟩)) .nil .nil) .nil)) (.node none (.node none (.node (some (.agg ⟨[(.int .i64 7), (.string ⟨⟨[71, 69, 84]⟩⟩), (.string ⟨⟨[47, 97, 47, 46, 46, 47, 98, 37, 55, 101, 63, 120]⟩⟩), (.string ⟨⟨[104]⟩⟩), (.slice (some ⟨944, 0, none⟩) 2 2), (.string ⟨⟨[]⟩⟩)]⟩)) .nil .nil) .nil) (.node (some (.tuple ⟨[(.string ⟨⟨[71, 69, 84, 32, 47, 97, 47, 46, 46, 47, 98, 37, 55, 101, 63, 120, 32, 72, 84, 84, 80, 47, 49, 46, 49, 13, 10, 72, 111, 115, 116, 58, 32, 104, 13, 10, 88, 45, 82, 101, 113, 117, 101, 115, 116, 45, 73, 100, 58, 32, 55, 13, 10, 65, 99, 99, 101, 112, 116, 58, 32, 42, 13, 10, 13, 10]⟩⟩), (.int .i64 0)]⟩)) (.node (some (.int .i64 0)) .nil .nil) .nil))) (.node (some (.int .i64 0)) (.node (some (.int .i64 0)) (.node none (.node (some (.tuple ⟨[(.string ⟨⟨[47, 98, 126, 63, 120]⟩⟩), (.int .i64 0)]⟩)) .nil .nil) .nil) (.node (some (.agg ⟨[(.int .i64 7), (.string ⟨⟨[71, 69, 84]⟩⟩), (.string ⟨⟨[47, 97, 47, 46, 46, 47, 98, 37, 55, 101, 63, 120]⟩⟩), (.string ⟨⟨[104]⟩⟩), (.slice (some ⟨127, 0, none⟩) 2 2), (.string ⟨⟨[]⟩⟩)]⟩)) (.node (some (.string ⟨⟨[47, 98, 126, 63, 120]⟩⟩)) .nil .nil) .nil)) (.node none (.node none (.node (some (.string ⟨⟨[47, 97, 47, 46, 46, 47, 98, 37, 55, 101, 63, 120]⟩⟩)) .nil .nil) .nil) (.node (some (.string ⟨⟨[71, 69, 84, 32, 47, 97, 47, 46, 46, 47, 98, 37, 55, 101, 63, 120, 32, 72, 84, 84, 80, 47, 49, 46, 49, 13, 10, 72, 111, 115, 116, 58, 32, 104, 13, 10, 88, 45, 82, 101, 113, 117, 101, 115, 116, 45, 73, 100, 58, 32, 55, 13, 10, 65, 99, 99, 101, 112, 116, 58, 32, 42, 13, 10, 13, 10]⟩⟩)) .nil .nil)))), [.inRegion (opsAt b8 [1, 1, 1, 0]) [1, 2, 3, 4, 5, 6], .code (codeAt b8 [1, 1, 1, 1])], [], .run, .normal, none⟩], ⟨(.node (some (.cells 102 [(.string ⟨⟨[71, 69, 84]⟩⟩), (.bool true), (.bool true), (.bool true), (.bool false), (.bool false), (.string ⟨⟨[72, 69, 65, 68]⟩⟩), (.bool true), (.bool true), (.bool true), (.bool false), (.bool false), (.string ⟨⟨[79, 80, 84, 73, 79, 78, 83]⟩⟩), (.bool true), (.bool true), (.bool false), (.bool false), (.bool false), (.string ⟨⟨[84, 82, 65, 67, 69]⟩⟩), (.bool true), (.bool true), (.bool true), (.bool false), (.bool false), (.string ⟨⟨[80, 85, 84]⟩⟩), (.bool false), (.bool true), (.bool false), (.bool true), (.bool false), (.string ⟨⟨[68, 69, 76, 69, 84, 69]⟩⟩), (.bool false), (.bool true), (.bool false), (.bool false), (.bool false), (.string ⟨⟨[80, 79, 83, 84]⟩⟩), (.bool false), (.bool false), (.bool false), (.bool true), (.bool false), (.string ⟨⟨[80, 65, 84, 67, 72]⟩⟩), (.bool false), (.bool false), (.bool false), (.bool true), (.bool false), (.string ⟨⟨[67, 79, 78, 78, 69, 67, 84]⟩⟩), (.bool false), (.bool false), (.bool false), (.bool false), (.bool true)] true 0)) (.node (some (.cells 191 [(.int .u8 0), (.int .u8 0), (.int .u8 0), (.int .u8 0), (.int .u8 0), (.int .u8 0), (.int .u8 0), (.int .u8 0), (.int .u8 0), (.int .u8 0), (.int .u8 0), (.int .u8 0), (.int .u8 0), (.int .u8 0), (.int .u8 0), (.int .u8 0), (.int .u8 0), (.int .u8 0), (.int .u8 0), (.int .u8 0), (.int .u8 0), (.int .u8 0), (.int .u8 0), (.int .u8 0), (.int .u8 0), (.int .u8 0), (.int .u8 0), (.int .u8 0), (.int .u8 0), (.int .u8 0), (.int .u8 0), (.int .u8 0), (.int .u8 0), (.int .u8 2), (.int .u8 0), (.int .u8 0), (.int .u8 2), (.int .u8 0), (.int .u8 2), (.int .u8 2), (.int .u8 2), (.int .u8 2), (.int .u8 2), (.int .u8 2), (.int .u8 2), (.int .u8 1), (.int .u8 1), (.int .u8 2), (.int .u8 1), (.int .u8 1), (.int .u8 1), (.int .u8 1), (.int .u8 1), (.int .u8 1), (.int .u8 1), (.int .u8 1), (.int .u8 1), (.int .u8 1), (.int .u8 2), (.int .u8 2), (.int .u8 0), (.int .u8 2), (.int .u8 0), (.int .u8 2), (.int .u8 2), (.int .u8 1), (.int .u8 1), (.int .u8 1), (.int .u8 1), (.int .u8 1), (.int .u8 1), (.int .u8 1), (.int .u8 1), (.int .u8 1), (.int .u8 1), (.int .u8 1), (.int .u8 1), (.int .u8 1), (.int .u8 1), (.int .u8 1), (.int .u8 1), (.int .u8 1), (.int .u8 1), (.int .u8 1), (.int .u8 1), (.int .u8 1), (.int .u8 1), (.int .u8 1), (.int .u8 1), (.int .u8 1), (.int .u8 1), (.int .u8 0), (.int .u8 0), (.int .u8 0), (.int .u8 0), (.int .u8 1), (.int .u8 0), (.int .u8 1), (.int .u8 1), (.int .u8 1), (.int .u8 1), (.int .u8 1), (.int .u8 1), (.int .u8 1), (.int .u8 1), (.int .u8 1), (.int .u8 1), (.int .u8 1), (.int .u8 1), (.int .u8 1), (.int .u8 1), (.int .u8 1), (.int .u8 1), (.int .u8 1), (.int .u8 1), (.int .u8 1), (.int .u8 1), (.int .u8 1), (.int .u8 1), (.int .u8 1), (.int .u8 1), (.int .u8 1), (.int .u8 1), (.int .u8 0), (.int .u8 0), (.int .u8 0), (.int .u8 1), (.int .u8 0)] true 0)) (.node none (.node none (.node none (.node none (.node none (.node (some (.cells 49 [(.string ⟨⟨[67, 111, 110, 110, 101, 99, 116, 105, 111, 110]⟩⟩), (.string ⟨⟨[99, 108, 111, 115, 101]⟩⟩), (.string ⟨⟨[65, 99, 99, 101, 112, 116]⟩⟩), (.string ⟨⟨[42]⟩⟩)] true 2)) .nil .nil) .nil) .nil) .nil) (.node none (.node none .nil (.node none (.node none (.node none (.node none (.node (some (.cells 24 [(.int .i64 7), (.string ⟨⟨[71, 69, 84]⟩⟩), (.string ⟨⟨[47, 97, 47, 46, 46, 47, 98, 37, 55, 101, 63, 120]⟩⟩), (.string ⟨⟨[104]⟩⟩), (.slice (some ⟨1061, 0, none⟩) 2 2), (.string ⟨⟨[]⟩⟩)] true 2)) .nil .nil) .nil) .nil) .nil) .nil)) .nil)) .nil) (.node none .nil (.node none (.node none (.node none .nil (.node none (.node none (.node none (.node none (.node (some (.cells 49 [(.string ⟨⟨[67, 111, 110, 110, 101, 99, 116, 105, 111, 110]⟩⟩), (.string ⟨⟨[99, 108, 111, 115, 101]⟩⟩), (.string ⟨⟨[65, 99, 99, 101, 112, 116]⟩⟩), (.string ⟨⟨[42]⟩⟩)] true 2)) .nil .nil) .nil) .nil) .nil) .nil)) (.node none .nil (.node none (.node none (.node none (.node none (.node (some (.cells 24 [(.int .i64 7), (.string ⟨⟨[71, 69, 84]⟩⟩), (.string ⟨⟨[47, 97, 47, 46, 46, 47, 98, 37, 55, 101, 63, 120]⟩⟩), (.string ⟨⟨[104]⟩⟩), (.slice (some ⟨1061, 0, none⟩) 2 2), (.string ⟨⟨[]⟩⟩)] true 2)) .nil .nil) .nil) .nil) .nil) .nil))) .nil))) (.node none (.node none (.node none (.node none .nil (.node none .nil (.node none (.node none .nil (.node none .nil (.node (some (.cells 49 [(.string ⟨⟨[67, 111, 110, 110, 101, 99, 116, 105, 111, 110]⟩⟩), (.string ⟨⟨[99, 108, 111, 115, 101]⟩⟩), (.string ⟨⟨[65, 99, 99, 101, 112, 116]⟩⟩), (.string ⟨⟨[42]⟩⟩)] true 2)) .nil .nil))) .nil))) (.node none (.node none .nil (.node none (.node none .nil (.node none .nil (.node none (.node (some (.cells 49 [(.string ⟨⟨[72, 111, 115, 116]⟩⟩), (.string ⟨⟨[104]⟩⟩), (.string ⟨⟨[88, 45, 82, 101, 113, 117, 101, 115, 116, 45, 73, 100]⟩⟩), (.string ⟨⟨[55]⟩⟩), (.string ⟨⟨[65, 99, 99, 101, 112, 116]⟩⟩), (.string ⟨⟨[42]⟩⟩)] false 2)) .nil .nil) .nil))) .nil)) .nil)) .nil) (.node none .nil (.node none (.node none (.node none (.node none (.node none .nil (.node none (.node none (.node (some (.cells 49 [(.string ⟨⟨[65, 99, 99, 101, 112, 116]⟩⟩), (.string ⟨⟨[42]⟩⟩)] true 2)) .nil .nil) .nil) .nil)) .nil) (.node none (.node none (.node none (.node none (.node (some (.cells 24 [(.int .i64 7), (.string ⟨⟨[71, 69, 84]⟩⟩), (.string ⟨⟨[47, 97, 47, 46, 46, 47, 98, 37, 55, 101, 63, 120]⟩⟩), (.string ⟨⟨[104]⟩⟩), (.slice (some ⟨1061, 0, none⟩) 2 2), (.string ⟨⟨[]⟩⟩)] true 2)) .nil .nil) .nil) .nil) .nil) .nil)) .nil) .nil)))), 1451⟩⟩
theorem seg2 : chunk Tryz.prog nest 14709 [0, 1, 127, 944, 1061, 1062, 1063, 1077, 1158, 1448] s2 = .ok s3 := by kernel_rfl
noncomputable def s4 : AS := ⟨⟨62, 51, (.node (some (.slice (some ⟨1670, 0, none⟩) 69 9223372036854775809)) (.node none (.node (some (.int .i64 0)) (.node none (.node (some (.int .i64 0)) .nil .nil) (.node (some (.tuple ⟨[(.slice (some ⟨1814, 0, none⟩) 3 9223372036854775810), (.int .i64 39), (.int .i64 0)]⟩)) .nil .nil)) (.node (some (.tuple ⟨[(.agg ⟨[(.int .i64 0), (.string ⟨⟨[71, 69, 84]⟩⟩), (.string ⟨⟨[47, 97, 47, 46, 46, 47, 98, 37, 55, 101, 63, 120]⟩⟩), (.string ⟨⟨[]⟩⟩), (.slice none 0 0), (.string ⟨⟨[]⟩⟩)]⟩), (.int .i64 27), (.int .i64 0)]⟩)) .nil .nil)) (.node (some (.int .i64 0)) (.node (some (.tuple ⟨[(.agg ⟨[(.int .i64 0), (.string ⟨⟨[71, 69, 84]⟩⟩), (.string ⟨⟨[47, 97, 47, 46, 46, 47, 98, 37, 55, 101, 63, 120]⟩⟩), (.string ⟨⟨[]⟩⟩), (.slice none 0 0), (.string ⟨⟨[]⟩⟩)]⟩), (.int .i64 27), (.int .i64 0)]⟩)) .nil .nil) (.node (some (.int .i64 27)) (.node (some (.int .i64 27)) .nil .nil) .nil))) (.node (some (.pointer (some ⟨1672, 0, none⟩))) (.node (some (.int .i64 0)) (.node none (.node (some (.bool false)) .nil .nil) .nil) (.node (some (.agg ⟨[(.int .i64 0), (.string ⟨⟨[71, 69, 84]⟩⟩), (.string ⟨⟨[47, 97, 47, 46, 46, 47, 98, 37, 55, 101, 63, 120]⟩⟩), (.string ⟨⟨[]⟩⟩), (.slice none 0 0), (.string ⟨⟨[]⟩⟩)]⟩)) (.node (some (.slice (some ⟨1670, 0, none⟩) 69 9223372036854775809)) .nil .nil) .nil)) (.node (some (.int .i64 27)) (.node (some (.slice (some ⟨1670, 0, none⟩) 69 9223372036854775809)) .nil .nil) (.node (some (.int .i64 0)) (.node (some (.slice (some ⟨1670, 27, none⟩) 42 9223372036854775809)) .nil .nil) .nil)))), [.inRegion (opsAt b62 [1, 1, 1, 0]) [4, 5, 6, 7, 8, 9, 10], .code (codeAt b62 [1, 1, 1, 1])], [], .run, .normal, none⟩, [⟨28, 45, (.node (some (.slice (some ⟨1670, 0, none⟩) 69 9223372036854775809)) (.node none (.node (some (.int .i64 0)) (.node (some (.slice (some ⟨1670, 0, none⟩) 69 9223372036854775809)) .nil .nil) .nil) .nil) (.node (some (.pointer (some ⟨1671, 0, none⟩))) (.node (some (.int .i64 0)) .nil .nil) .nil)), [.inRegion (opsAt b28 [1, 0]) [1, 2, 3, 4, 5, 6, 7, 8, 9, 10], .code (codeAt b28 [1, 1])], [], .run, .normal, none⟩, ⟨8, 77, (.node (some (.bool false)) (.node (some (.string ⟨⟨[71, 69, 84, 32, 47, 97, 47, 46, 46, 47, 98, 37, 55, 101, 63, 120, 32, 72, 84, 84, 80, 47, 49, 46, 49, 13, 10, 72, 111, 115, 116, 58, 32, 104, 13, 10, 88, 45, 82, 101, 113, 117, 101, 115, 116, 45, 73, 100, 58, 32, 55, 13, 10, 65, 99, 99, 101, 112, 116, 58, 32, 42, 13, 10, 13, 10]⟩⟩)) (.node (some (.string ⟨⟨[47, 98, 126, 63, 120]⟩⟩)) (.node none (.node (some (.int .i64 0)) .nil .nil) (.node (some (.agg ⟨[(.int .i64 7), (.string ⟨⟨[71, 69, 84]⟩⟩), (.string ⟨⟨[47, 97, 47, 46, 46, 47, 98, 37, 55, 101, 63, 120]⟩⟩), (.string ⟨⟨[104]⟩⟩), (.slice (some ⟨1061, 0, none⟩) 2 2), (.string ⟨⟨[]⟩⟩)]⟩)) .nil .nil)) (.node (some (.tuple ⟨[(.string ⟨⟨[71, 69, 84, 32, 47, 97, 47, 46, 46, 47, 98, 37, 55, 101, 63, 120, 32, 72, 84, 84, 80, 47, 49, 46, 49, 13, 10, 72, 111, 115, 116, 58, 32, 104, 13, 10, 88, 45, 82, 101, 113, 117, 101, 115, 116, 45, 73, 100, 58, 32, 55, 13, 10, 65, 99, 99, 101, 112, 116, 58, 32, 42, 13, 10, 13, 10]⟩⟩), (.int .i64 0)]⟩)) (.node (some (.tuple ⟨[(.string ⟨⟨[47, 98, 126, 63, 120]⟩⟩), (.int .i64 0)]⟩)) .nil .nil) .nil)) (.node (some (.string ⟨⟨[42]⟩⟩)) (.node none (.node (some (.agg ⟨[(.int .i64 7), (.string ⟨⟨[71, 69, 84]⟩⟩), (.string ⟨⟨[47, 97, 47, 46, 46, 47, 98, 37, 55, 101, 63, 120]⟩⟩), (.string ⟨⟨[104]⟩⟩), (.slice (some ⟨944, 0, none⟩) 2 2), (.string ⟨⟨[]⟩⟩)]⟩)) .nil .nil) (.node (some (.string ⟨⟨[42]⟩⟩)) .nil .nil)) (.node (some (.tuple ⟨[(.string ⟨⟨[71, 69, 84, 32, 47, 97, 47, 46, 46, 47, 98, 37, 55, 101, 63, 120, 32, 72, 84, 84, 80, 47, 49, 46, 49, 13, 10, 72, 111, 115, 116, 58, 32, 104, 13, 10, 88, 45, 82, 101, 113, 117, 101, 115, 116, 45, 73, 100, 58, 32, 55, 13, 10, 65, 99, 99, 101, 112, 116, 58, 32, 42, 13, 10, 13, 10]⟩⟩), (.int .i64 0)]⟩)) (.node (some (.int .i64 0)) .nil .nil) (.node (some (.string ⟨⟨[71, 69, 84, 32, 47, 97, 47, 46, 46, 47, 98, 37, 55, 101, 63, 120, 32, 72, 84, 84, 80, 47, 49, 46, 49, 13, 10, 72, 111, 115, 116, 58, 32, 104, 13, 10, 88, 45, 82, 101, 113, 117, 101, 115, 116, 45, 73, 100, 58, 32, 55, 13, 10, 65, 99, 99, 101, 112, 116, 58, 32, 42, 13, 10, 13, 10, 71, 69, 84]⟩⟩)) .nil .nil)))) (.node (some (.int .i64 0)) (.node (some (.int .i64 0)) (.node none (.node (some (.tuple ⟨[(.string ⟨⟨[47, 98, 126, 63, 120]⟩⟩), (.int .i64 0)]⟩)) .nil .nil) (.node (some (.tuple ⟨[(.string ⟨⟨[42]⟩⟩), (.int .i64 0)]⟩)) .nil .nil)) (.node (some (.agg ⟨[(.int .i64 7), (.string ⟨⟨[71, 69, 84]⟩⟩), (.string ⟨⟨[47, 97, 47, 46, 46, 47, 98, 37, 55, 101, 63, 120]⟩⟩), (.string ⟨⟨[104]⟩⟩), (.slice (some ⟨127, 0, none⟩) 2 2), (.string ⟨⟨[]⟩⟩)]⟩)) (.node (some (.string ⟨⟨[47, 98, 126, 63, 120]⟩⟩)) .nil .nil) (.node (some (.string ⟨⟨[71, 69, 84, 32, 47, 97, 47, 46, 46, 47, 98, 37, 55, 101, 63, 120, 32, 72, 84, 84, 80, 47, 49, 46, 49, 13, 10, 72, 111, 115, 116, 58, 32, 104, 13, 10, 88, 45, 82, 101, 113, 117, 101, 115, 116, 45, 73, 100, 58, 32, 55, 13, 10, 65, 99, 99, 101, 112, 116, 58, 32, 42, 13, 10, 13, 10]⟩⟩)) .nil .nil))) (.node (some (.int .i64 0)) (.node none (.node (some (.string ⟨⟨[47, 97, 47, 46, 46, 47, 98, 37, 55, 101, 63, 120]⟩⟩)) .nil .nil) (.node (some (.int .i64 0)) .nil .nil)) (.node (some (.string ⟨⟨[71, 69, 84, 32, 47, 97, 47, 46, 46, 47, 98, 37, 55, 101, 63, 120, 32, 72, 84, 84, 80, 47, 49, 46, 49, 13, 10, 72, 111, 115, 116, 58, 32, 104, 13, 10, 88, 45, 82, 101, 113, 117, 101, 115, 116, 45, 73, 100, 58, 32, 55, 13, 10, 65, 99, 99, 101, 112, 116, 58, 32, 42, 13, 10, 13, 10]⟩⟩)) (.node (some (.tuple ⟨[(.string ⟨⟨[42]⟩⟩), (.int .i64 0)]⟩)) .nil .nil) (.node (some (.slice (some ⟨1670, 0, none⟩) 69 9223372036854775809)) .nil .nil))))), [.inRegion (opsAt b8 [1, 1, 1, 1, 0]) [3, 4, 5, 6, 7, 8, 9, 10, 11], .code (codeAt b8 [1, 1, 1, 1, 1])], [], .run, .normal, none⟩], ⟨(.node (some (.cells 102 [(.string ⟨⟨[71, 69, 84]⟩⟩), (.bool true), (.bool true), (.bool true), (.bool false), (.bool false), (.string ⟨⟨[72, 69, 65, 68]⟩⟩), (.bool true), (.bool true), (.bool true), (.bool false), (.bool false), (.string ⟨⟨[79, 80, 84, 73, 79, 78, 83]⟩⟩), (.bool true), (.bool true), (.bool false), (.bool false), (.bool false), (.string ⟨⟨[84, 82, 65, 67, 69]⟩⟩), (.bool true), (.bool true), (.bool true), (.bool false), (.bool false), (.string ⟨⟨[80, 85, 84]⟩⟩), (.bool false), (.bool true), (.bool false), (.bool true), (.bool false), (.string ⟨⟨[68, 69, 76, 69, 84, 69]⟩⟩), (.bool false), (.bool true), (.bool false), (.bool false), (.bool false), (.string ⟨⟨[80, 79, 83, 84]⟩⟩), (.bool false), (.bool false), (.bool false), (.bool true), (.bool false), (.string ⟨⟨[80, 65, 84, 67, 72]⟩⟩), (.bool false), (.bool false), (.bool false), (.bool true), (.bool false), (.string ⟨⟨[67, 79, 78, 78, 69, 67, 84]⟩⟩), (.bool false), (.bool false), (.bool false), (.bool false), (.bool true)] true 0)) (.node (some (.cells 191 [(.int .u8 0), (.int .u8 0), (.int .u8 0), (.int .u8 0), (.int .u8 0), (.int .u8 0), (.int .u8 0), (.int .u8 0), (.int .u8 0), (.int .u8 0), (.int .u8 0), (.int .u8 0), (.int .u8 0), (.int .u8 0), (.int .u8 0), (.int .u8 0), (.int .u8 0), (.int .u8 0), (.int .u8 0), (.int .u8 0), (.int .u8 0), (.int .u8 0), (.int .u8 0), (.int .u8 0), (.int .u8 0), (.int .u8 0), (.int .u8 0), (.int .u8 0), (.int .u8 0), (.int .u8 0), (.int .u8 0), (.int .u8 0), (.int .u8 0), (.int .u8 2), (.int .u8 0), (.int .u8 0), (.int .u8 2), (.int .u8 0), (.int .u8 2), (.int .u8 2), (.int .u8 2), (.int .u8 2), (.int .u8 2), (.int .u8 2), (.int .u8 2), (.int .u8 1), (.int .u8 1), (.int .u8 2), (.int .u8 1), (.int .u8 1), (.int .u8 1), (.int .u8 1), (.int .u8 1), (.int .u8 1), (.int .u8 1), (.int .u8 1), (.int .u8 1), (.int .u8 1), (.int .u8 2), (.int .u8 2), (.int .u8 0), (.int .u8 2), (.int .u8 0), (.int .u8 2), (.int .u8 2), (.int .u8 1), (.int .u8 1), (.int .u8 1), (.int .u8 1), (.int .u8 1), (.int .u8 1), (.int .u8 1), (.int .u8 1), (.int .u8 1), (.int .u8 1), (.int .u8 1), (.int .u8 1), (.int .u8 1), (.int .u8 1), (.int .u8 1), (.int .u8 1), (.int .u8 1), (.int .u8 1), (.int .u8 1), (.int .u8 1), (.int .u8 1), (.int .u8 1), (.int .u8 1), (.int .u8 1), (.int .u8 1), (.int .u8 1), (.int .u8 0), (.int .u8 0), (.int .u8 0), (.int .u8 0), (.int .u8 1), (.int .u8 0), (.int .u8 1), (.int .u8 1), (.int .u8 1), (.int .u8 1), (.int .u8 1), (.int .u8 1), (.int .u8 1), (.int .u8 1), (.int .u8 1), (.int .u8 1), (.int .u8 1), (.int .u8 1), (.int .u8 1), (.int .u8 1), (.int .u8 1), (.int .u8 1), (.int .u8 1), (.int .u8 1), (.int .u8 1), (.int .u8 1), (.int .u8 1), (.int .u8 1), (.int .u8 1), (.int .u8 1), (.int .u8 1), (.int .u8 1), (.int .u8 0), (.int .u8 0), (.int .u8 0), (.int .u8 1), (.int .u8 0)] true 0)) (.node none (.node none (.node none (.node none (.node none (.node (some (.cells 49 [(.string ⟨⟨[67, 111, 110, 110, 101, 99, 116, 105, 111, 110]⟩⟩), (.string ⟨⟨[99, 108, 111, 115, 101]⟩⟩), (.string ⟨⟨[65, 99, 99, 101, 112, 116]⟩⟩), (.string ⟨⟨[42]⟩⟩)] true 2)) .nil .nil) .nil) .nil) .nil) (.node none (.node none (.node none (.node none .nil (.node none (.node none .nil (.node (some (.cells 24 [(.int .i64 0), (.string ⟨⟨[]⟩⟩), (.string ⟨⟨[]⟩⟩), (.string ⟨⟨[]⟩⟩), (.slice none 0 0), (.string ⟨⟨[]⟩⟩)] true 2)) .nil .nil)) .nil)) .nil) .nil) .nil)) .nil) (.node none .nil (.node none (.node none (.node none .nil (.node none (.node none (.node none (.node none (.node (some (.cells 49 [(.string ⟨⟨[67, 111, 110, 110, 101, 99, 116, 105, 111, 110]⟩⟩), (.string ⟨⟨[99, 108, 111, 115, 101]⟩⟩), (.string ⟨⟨[65, 99, 99, 101, 112, 116]⟩⟩), (.string ⟨⟨[42]⟩⟩)] true 2)) .nil .nil) .nil) .nil) .nil) .nil)) .nil) .nil))) (.node none (.node none (.node none (.node none .nil (.node none .nil (.node none (.node none .nil (.node none .nil (.node (some (.cells 49 [(.string ⟨⟨[67, 111, 110, 110, 101, 99, 116, 105, 111, 110]⟩⟩), (.string ⟨⟨[99, 108, 111, 115, 101]⟩⟩), (.string ⟨⟨[65, 99, 99, 101, 112, 116]⟩⟩), (.string ⟨⟨[42]⟩⟩)] true 2)) .nil .nil))) .nil))) (.node none (.node none (.node none (.node none .nil (.node none (.node none .nil (.node (some (.cells 24 [(.int .i64 0), (.string ⟨⟨[71, 69, 84]⟩⟩), (.string ⟨⟨[47, 97, 47, 46, 46, 47, 98, 37, 55, 101, 63, 120]⟩⟩), (.string ⟨⟨[]⟩⟩), (.slice none 0 0), (.string ⟨⟨[]⟩⟩)] true 2)) .nil .nil)) .nil)) .nil) .nil) .nil)) .nil) (.node none .nil (.node none (.node none (.node none (.node none (.node none .nil (.node none (.node none .nil (.node (some (.cells 5 [(.int .u8 71), (.int .u8 69), (.int .u8 84), (.int .u8 32), (.int .u8 47), (.int .u8 97), (.int .u8 47), (.int .u8 46), (.int .u8 46), (.int .u8 47), (.int .u8 98), (.int .u8 37), (.int .u8 55), (.int .u8 101), (.int .u8 63), (.int .u8 120), (.int .u8 32), (.int .u8 72), (.int .u8 84), (.int .u8 84), (.int .u8 80), (.int .u8 47), (.int .u8 49), (.int .u8 46), (.int .u8 49), (.int .u8 13), (.int .u8 10), (.int .u8 72), (.int .u8 111), (.int .u8 115), (.int .u8 116), (.int .u8 58), (.int .u8 32), (.int .u8 104), (.int .u8 13), (.int .u8 10), (.int .u8 88), (.int .u8 45), (.int .u8 82), (.int .u8 101), (.int .u8 113), (.int .u8 117), (.int .u8 101), (.int .u8 115), (.int .u8 116), (.int .u8 45), (.int .u8 73), (.int .u8 100), (.int .u8 58), (.int .u8 32), (.int .u8 55), (.int .u8 13), (.int .u8 10), (.int .u8 65), (.int .u8 99), (.int .u8 99), (.int .u8 101), (.int .u8 112), (.int .u8 116), (.int .u8 58), (.int .u8 32), (.int .u8 42), (.int .u8 13), (.int .u8 10), (.int .u8 13), (.int .u8 10), (.int .u8 71), (.int .u8 69), (.int .u8 84)] false 2)) .nil .nil)) .nil)) .nil) .nil) (.node none (.node none (.node none (.node none .nil (.node none .nil (.node (some (.cells 49 [(.string ⟨⟨[72, 111, 115, 116]⟩⟩), (.string ⟨⟨[104]⟩⟩), (.string ⟨⟨[88, 45, 82, 101, 113, 117, 101, 115, 116, 45, 73, 100]⟩⟩), (.string ⟨⟨[55]⟩⟩), (.string ⟨⟨[65, 99, 99, 101, 112, 116]⟩⟩), (.string ⟨⟨[42]⟩⟩)] false 2)) .nil .nil))) .nil) .nil) .nil)) .nil)))), 1830⟩⟩
theorem seg3 : chunk Tryz.prog nest 10422 [0, 1, 127, 944, 1061, 1670, 1671, 1672, 1814] s3 = .ok s4 := by kernel_rfl
noncomputable def s5 : AS := ⟨⟨8, 77, (.node (some (.bool true)) (.node (some (.string ⟨⟨[71, 69, 84, 32, 47, 97, 47, 46, 46, 47, 98, 37, 55, 101, 63, 120, 32, 72, 84, 84, 80, 47, 49, 46, 49, 13, 10, 72, 111, 115, 116, 58, 32, 104, 13, 10, 88, 45, 82, 101, 113, 117, 101, 115, 116, 45, 73, 100, 58, 32, 55, 13, 10, 65, 99, 99, 101, 112, 116, 58, 32, 42, 13, 10, 13, 10]⟩⟩)) (.node (some (.string ⟨⟨[47, 98, 126, 63, 120]⟩⟩)) (.node (some (.pointer (some ⟨2221, 0, none⟩))) (.node (some (.int .i64 0)) (.node (some (.tuple ⟨[(.agg ⟨[(.int .i64 7), (.string ⟨⟨[71, 69, 84]⟩⟩), (.string ⟨⟨[47, 97, 47, 46, 46, 47, 98, 37, 55, 101, 63, 120]⟩⟩), (.string ⟨⟨[104]⟩⟩), (.slice (some ⟨1932, 0, none⟩) 1 9223372036854775810), (.string ⟨⟨[]⟩⟩)]⟩), (.int .i64 66), (.int .i64 0)]⟩)) (.node (some (.bool true)) .nil .nil) .nil) (.node (some (.string ⟨⟨[42]⟩⟩)) .nil .nil)) (.node (some (.agg ⟨[(.int .i64 7), (.string ⟨⟨[71, 69, 84]⟩⟩), (.string ⟨⟨[47, 97, 47, 46, 46, 47, 98, 37, 55, 101, 63, 120]⟩⟩), (.string ⟨⟨[104]⟩⟩), (.slice (some ⟨1061, 0, none⟩) 2 2), (.string ⟨⟨[]⟩⟩)]⟩)) (.node (some (.pointer (some ⟨2224, 4, none⟩))) (.node (some (.bool true)) .nil .nil) .nil) (.node (some (.bool true)) .nil .nil))) (.node (some (.tuple ⟨[(.string ⟨⟨[71, 69, 84, 32, 47, 97, 47, 46, 46, 47, 98, 37, 55, 101, 63, 120, 32, 72, 84, 84, 80, 47, 49, 46, 49, 13, 10, 72, 111, 115, 116, 58, 32, 104, 13, 10, 88, 45, 82, 101, 113, 117, 101, 115, 116, 45, 73, 100, 58, 32, 55, 13, 10, 65, 99, 99, 101, 112, 116, 58, 32, 42, 13, 10, 13, 10]⟩⟩), (.int .i64 0)]⟩)) (.node (some (.tuple ⟨[(.string ⟨⟨[47, 98, 126, 63, 120]⟩⟩), (.int .i64 0)]⟩)) (.node (some (.agg ⟨[(.int .i64 7), (.string ⟨⟨[71, 69, 84]⟩⟩), (.string ⟨⟨[47, 97, 47, 46, 46, 47, 98, 37, 55, 101, 63, 120]⟩⟩), (.string ⟨⟨[104]⟩⟩), (.slice (some ⟨2223, 0, none⟩) 2 2), (.string ⟨⟨[]⟩⟩)]⟩)) (.node (some (.bool true)) .nil .nil) .nil) (.node (some (.agg ⟨[(.int .i64 7), (.string ⟨⟨[71, 69, 84]⟩⟩), (.string ⟨⟨[47, 97, 47, 46, 46, 47, 98, 37, 55, 101, 63, 120]⟩⟩), (.string ⟨⟨[104]⟩⟩), (.slice (some ⟨1932, 0, none⟩) 1 9223372036854775810), (.string ⟨⟨[]⟩⟩)]⟩)) .nil .nil)) (.node (some (.tuple ⟨[(.agg ⟨[(.int .i64 7), (.string ⟨⟨[71, 69, 84]⟩⟩), (.string ⟨⟨[47, 97, 47, 46, 46, 47, 98, 37, 55, 101, 63, 120]⟩⟩), (.string ⟨⟨[104]⟩⟩), (.slice (some ⟨1932, 0, none⟩) 1 9223372036854775810), (.string ⟨⟨[]⟩⟩)]⟩), (.int .i64 66), (.int .i64 0)]⟩)) (.node (some (.string ⟨⟨[47, 98, 126, 63, 120]⟩⟩)) (.node (some (.bool true)) .nil .nil) .nil) (.node (some (.bool true)) .nil .nil)))) (.node (some (.string ⟨⟨[42]⟩⟩)) (.node (some (.int .i64 0)) (.node (some (.agg ⟨[(.int .i64 7), (.string ⟨⟨[71, 69, 84]⟩⟩), (.string ⟨⟨[47, 97, 47, 46, 46, 47, 98, 37, 55, 101, 63, 120]⟩⟩), (.string ⟨⟨[104]⟩⟩), (.slice (some ⟨944, 0, none⟩) 2 2), (.string ⟨⟨[]⟩⟩)]⟩)) (.node (some (.int .i64 66)) (.node (some (.bool true)) .nil .nil) .nil) (.node (some (.bool true)) .nil .nil)) (.node (some (.string ⟨⟨[42]⟩⟩)) (.node (some (.bool true)) (.node (some (.bool true)) .nil .nil) .nil) (.node (some (.string ⟨⟨[71, 69, 84, 32, 47, 97, 47, 46, 46, 47, 98, 37, 55, 101, 63, 120, 32, 72, 84, 84, 80, 47, 49, 46, 49, 13, 10, 72, 111, 115, 116, 58, 32, 104, 13, 10, 88, 45, 82, 101, 113, 117, 101, 115, 116, 45, 73, 100, 58, 32, 55, 13, 10, 65, 99, 99, 101, 112, 116, 58, 32, 42, 13, 10, 13, 10]⟩⟩)) .nil .nil))) (.node (some (.tuple ⟨[(.string ⟨⟨[71, 69, 84, 32, 47, 97, 47, 46, 46, 47, 98, 37, 55, 101, 63, 120, 32, 72, 84, 84, 80, 47, 49, 46, 49, 13, 10, 72, 111, 115, 116, 58, 32, 104, 13, 10, 88, 45, 82, 101, 113, 117, 101, 115, 116, 45, 73, 100, 58, 32, 55, 13, 10, 65, 99, 99, 101, 112, 116, 58, 32, 42, 13, 10, 13, 10]⟩⟩), (.int .i64 0)]⟩)) (.node (some (.int .i64 0)) (.node (some (.slice (some ⟨2223, 0, none⟩) 2 2)) (.node (some (.bool true)) .nil .nil) .nil) (.node (some (.bool true)) .nil .nil)) (.node (some (.string ⟨⟨[71, 69, 84, 32, 47, 97, 47, 46, 46, 47, 98, 37, 55, 101, 63, 120, 32, 72, 84, 84, 80, 47, 49, 46, 49, 13, 10, 72, 111, 115, 116, 58, 32, 104, 13, 10, 88, 45, 82, 101, 113, 117, 101, 115, 116, 45, 73, 100, 58, 32, 55, 13, 10, 65, 99, 99, 101, 112, 116, 58, 32, 42, 13, 10, 13, 10, 71, 69, 84]⟩⟩)) (.node (some (.bool true)) .nil .nil) (.node (some (.bool true)) .nil .nil))))) (.node (some (.int .i64 0)) (.node (some (.int .i64 0)) (.node (some (.int .i64 66)) (.node (some (.tuple ⟨[(.string ⟨⟨[47, 98, 126, 63, 120]⟩⟩), (.int .i64 0)]⟩)) (.node (some (.agg ⟨[(.int .i64 7), (.string ⟨⟨[71, 69, 84]⟩⟩), (.string ⟨⟨[47, 97, 47, 46, 46, 47, 98, 37, 55, 101, 63, 120]⟩⟩), (.string ⟨⟨[104]⟩⟩), (.slice (some ⟨1932, 0, none⟩) 1 9223372036854775810), (.string ⟨⟨[]⟩⟩)]⟩)) (.node (some (.bool true)) .nil .nil) .nil) (.node (some (.bool true)) .nil .nil)) (.node (some (.tuple ⟨[(.string ⟨⟨[42]⟩⟩), (.int .i64 0)]⟩)) (.node (some (.string ⟨⟨[71, 69, 84, 32, 47, 97, 47, 46, 46, 47, 98, 37, 55, 101, 63, 120, 32, 72, 84, 84, 80, 47, 49, 46, 49, 13, 10, 72, 111, 115, 116, 58, 32, 104, 13, 10, 88, 45, 82, 101, 113, 117, 101, 115, 116, 45, 73, 100, 58, 32, 55, 13, 10, 65, 99, 99, 101, 112, 116, 58, 32, 42, 13, 10, 13, 10]⟩⟩)) (.node (some (.bool true)) .nil .nil) .nil) (.node (some (.int .i64 66)) .nil .nil))) (.node (some (.agg ⟨[(.int .i64 7), (.string ⟨⟨[71, 69, 84]⟩⟩), (.string ⟨⟨[47, 97, 47, 46, 46, 47, 98, 37, 55, 101, 63, 120]⟩⟩), (.string ⟨⟨[104]⟩⟩), (.slice (some ⟨127, 0, none⟩) 2 2), (.string ⟨⟨[]⟩⟩)]⟩)) (.node (some (.string ⟨⟨[47, 98, 126, 63, 120]⟩⟩)) (.node (some (.pointer (some ⟨2224, 4, none⟩))) (.node (some (.bool true)) .nil .nil) .nil) (.node (some (.agg ⟨[(.int .i64 7), (.string ⟨⟨[71, 69, 84]⟩⟩), (.string ⟨⟨[47, 97, 47, 46, 46, 47, 98, 37, 55, 101, 63, 120]⟩⟩), (.string ⟨⟨[104]⟩⟩), (.slice (some ⟨2223, 2, none⟩) 1 1), (.string ⟨⟨[]⟩⟩)]⟩)) .nil .nil)) (.node (some (.string ⟨⟨[71, 69, 84, 32, 47, 97, 47, 46, 46, 47, 98, 37, 55, 101, 63, 120, 32, 72, 84, 84, 80, 47, 49, 46, 49, 13, 10, 72, 111, 115, 116, 58, 32, 104, 13, 10, 88, 45, 82, 101, 113, 117, 101, 115, 116, 45, 73, 100, 58, 32, 55, 13, 10, 65, 99, 99, 101, 112, 116, 58, 32, 42, 13, 10, 13, 10]⟩⟩)) (.node (some (.bool true)) (.node (some (.bool true)) .nil .nil) .nil) (.node (some (.bool true)) .nil .nil)))) (.node (some (.int .i64 0)) (.node (some (.pointer (some ⟨2224, 0, none⟩))) (.node (some (.string ⟨⟨[47, 97, 47, 46, 46, 47, 98, 37, 55, 101, 63, 120]⟩⟩)) (.node (some (.int .i64 0)) (.node (some (.int .i64 0)) .nil .nil) .nil) (.node (some (.bool true)) .nil .nil)) (.node (some (.int .i64 0)) (.node (some (.bool true)) (.node (some (.int .i64 0)) .nil .nil) .nil) (.node (some (.int .i64 66)) .nil .nil))) (.node (some (.string ⟨⟨[71, 69, 84, 32, 47, 97, 47, 46, 46, 47, 98, 37, 55, 101, 63, 120, 32, 72, 84, 84, 80, 47, 49, 46, 49, 13, 10, 72, 111, 115, 116, 58, 32, 104, 13, 10, 88, 45, 82, 101, 113, 117, 101, 115, 116, 45, 73, 100, 58, 32, 55, 13, 10, 65, 99, 99, 101, 112, 116, 58, 32, 42, 13, 10, 13, 10]⟩⟩)) (.node (some (.tuple ⟨[(.string ⟨⟨[42]⟩⟩), (.int .i64 0)]⟩)) (.node (some (.slice (some ⟨2223, 2, none⟩) 1 1)) (.node (some (.int .i64 0)) .nil .nil) .nil) (.node (some (.bool true)) .nil .nil)) (.node (some (.slice (some ⟨1670, 0, none⟩) 69 9223372036854775809)) (.node (some (.bool true)) .nil .nil) (.node (some (.int .i64 0)) .nil .nil)))))), [.code .ret], [], .returning, .normal, none⟩, [], ⟨(.node (some (.cells 102 [(.string ⟨⟨[71, 69, 84]⟩⟩), (.bool true), (.bool true), (.bool true), (.bool false), (.bool false), (.string ⟨⟨[72, 69, 65, 68]⟩⟩), (.bool true), (.bool true), (.bool true), (.bool false), (.bool false), (.string ⟨⟨[79, 80, 84, 73, 79, 78, 83]⟩⟩), (.bool true), (.bool true), (.bool false), (.bool false), (.bool false), (.string ⟨⟨[84, 82, 65, 67, 69]⟩⟩), (.bool true), (.bool true), (.bool true), (.bool false), (.bool false), (.string ⟨⟨[80, 85, 84]⟩⟩), (.bool false), (.bool true), (.bool false), (.bool true), (.bool false), (.string ⟨⟨[68, 69, 76, 69, 84, 69]⟩⟩), (.bool false), (.bool true), (.bool false), (.bool false), (.bool false), (.string ⟨⟨[80, 79, 83, 84]⟩⟩), (.bool false), (.bool false), (.bool false), (.bool true), (.bool false), (.string ⟨⟨[80, 65, 84, 67, 72]⟩⟩), (.bool false), (.bool false), (.bool false), (.bool true), (.bool false), (.string ⟨⟨[67, 79, 78, 78, 69, 67, 84]⟩⟩), (.bool false), (.bool false), (.bool false), (.bool false), (.bool true)] true 0)) (.node (some (.cells 191 [(.int .u8 0), (.int .u8 0), (.int .u8 0), (.int .u8 0), (.int .u8 0), (.int .u8 0), (.int .u8 0), (.int .u8 0), (.int .u8 0), (.int .u8 0), (.int .u8 0), (.int .u8 0), (.int .u8 0), (.int .u8 0), (.int .u8 0), (.int .u8 0), (.int .u8 0), (.int .u8 0), (.int .u8 0), (.int .u8 0), (.int .u8 0), (.int .u8 0), (.int .u8 0), (.int .u8 0), (.int .u8 0), (.int .u8 0), (.int .u8 0), (.int .u8 0), (.int .u8 0), (.int .u8 0), (.int .u8 0), (.int .u8 0), (.int .u8 0), (.int .u8 2), (.int .u8 0), (.int .u8 0), (.int .u8 2), (.int .u8 0), (.int .u8 2), (.int .u8 2), (.int .u8 2), (.int .u8 2), (.int .u8 2), (.int .u8 2), (.int .u8 2), (.int .u8 1), (.int .u8 1), (.int .u8 2), (.int .u8 1), (.int .u8 1), (.int .u8 1), (.int .u8 1), (.int .u8 1), (.int .u8 1), (.int .u8 1), (.int .u8 1), (.int .u8 1), (.int .u8 1), (.int .u8 2), (.int .u8 2), (.int .u8 0), (.int .u8 2), (.int .u8 0), (.int .u8 2), (.int .u8 2), (.int .u8 1), (.int .u8 1), (.int .u8 1), (.int .u8 1), (.int .u8 1), (.int .u8 1), (.int .u8 1), (.int .u8 1), (.int .u8 1), (.int .u8 1), (.int .u8 1), (.int .u8 1), (.int .u8 1), (.int .u8 1), (.int .u8 1), (.int .u8 1), (.int .u8 1), (.int .u8 1), (.int .u8 1), (.int .u8 1), (.int .u8 1), (.int .u8 1), (.int .u8 1), (.int .u8 1), (.int .u8 1), (.int .u8 1), (.int .u8 0), (.int .u8 0), (.int .u8 0), (.int .u8 0), (.int .u8 1), (.int .u8 0), (.int .u8 1), (.int .u8 1), (.int .u8 1), (.int .u8 1), (.int .u8 1), (.int .u8 1), (.int .u8 1), (.int .u8 1), (.int .u8 1), (.int .u8 1), (.int .u8 1), (.int .u8 1), (.int .u8 1), (.int .u8 1), (.int .u8 1), (.int .u8 1), (.int .u8 1), (.int .u8 1), (.int .u8 1), (.int .u8 1), (.int .u8 1), (.int .u8 1), (.int .u8 1), (.int .u8 1), (.int .u8 1), (.int .u8 1), (.int .u8 0), (.int .u8 0), (.int .u8 0), (.int .u8 1), (.int .u8 0)] true 0)) (.node none (.node none (.node none (.node none (.node none (.node (some (.cells 49 [(.string ⟨⟨[67, 111, 110, 110, 101, 99, 116, 105, 111, 110]⟩⟩), (.string ⟨⟨[99, 108, 111, 115, 101]⟩⟩), (.string ⟨⟨[65, 99, 99, 101, 112, 116]⟩⟩), (.string ⟨⟨[42]⟩⟩)] true 2)) .nil .nil) .nil) .nil) (.node none .nil (.node none (.node none .nil (.node none (.node none (.node none (.node (some (.cells 49 [(.string ⟨⟨[67, 111, 110, 110, 101, 99, 116, 105, 111, 110]⟩⟩), (.string ⟨⟨[99, 108, 111, 115, 101]⟩⟩), (.string ⟨⟨[65, 99, 99, 101, 112, 116]⟩⟩), (.string ⟨⟨[42]⟩⟩)] true 2)) .nil .nil) .nil) .nil) .nil)) .nil))) .nil) .nil) (.node none .nil (.node none (.node none (.node none .nil (.node none (.node none (.node none (.node none (.node (some (.cells 49 [(.string ⟨⟨[67, 111, 110, 110, 101, 99, 116, 105, 111, 110]⟩⟩), (.string ⟨⟨[99, 108, 111, 115, 101]⟩⟩), (.string ⟨⟨[65, 99, 99, 101, 112, 116]⟩⟩), (.string ⟨⟨[42]⟩⟩)] true 2)) .nil .nil) .nil) .nil) .nil) .nil)) .nil) (.node none (.node none .nil (.node none (.node none .nil (.node none (.node none (.node none (.node (some (.cells 24 [(.int .i64 7), (.string ⟨⟨[71, 69, 84]⟩⟩), (.string ⟨⟨[47, 97, 47, 46, 46, 47, 98, 37, 55, 101, 63, 120]⟩⟩), (.string ⟨⟨[104]⟩⟩), (.slice (some ⟨1932, 0, none⟩) 1 9223372036854775810), (.string ⟨⟨[]⟩⟩)] true 2)) .nil .nil) .nil) .nil) .nil)) .nil)) .nil)))) (.node none (.node none (.node none (.node none .nil (.node none .nil (.node none (.node none .nil (.node none (.node none (.node none (.node (some (.cells 24 [(.int .i64 7), (.string ⟨⟨[71, 69, 84]⟩⟩), (.string ⟨⟨[47, 97, 47, 46, 46, 47, 98, 37, 55, 101, 63, 120]⟩⟩), (.string ⟨⟨[104]⟩⟩), (.slice (some ⟨2223, 2, none⟩) 1 1), (.string ⟨⟨[]⟩⟩)] true 2)) .nil .nil) .nil) .nil) (.node (some (.cells 49 [(.string ⟨⟨[67, 111, 110, 110, 101, 99, 116, 105, 111, 110]⟩⟩), (.string ⟨⟨[99, 108, 111, 115, 101]⟩⟩), (.string ⟨⟨[65, 99, 99, 101, 112, 116]⟩⟩), (.string ⟨⟨[42]⟩⟩)] true 2)) .nil .nil))) .nil))) .nil) (.node none .nil (.node none (.node none (.node none (.node none .nil (.node none .nil (.node none .nil (.node (some (.cells 49 [(.string ⟨⟨[65, 99, 99, 101, 112, 116]⟩⟩), (.string ⟨⟨[42]⟩⟩)] false 2)) .nil .nil)))) .nil) .nil) .nil))) (.node none .nil (.node none (.node none (.node none (.node none (.node none .nil (.node none (.node none .nil (.node (some (.cells 5 [(.int .u8 71), (.int .u8 69), (.int .u8 84), (.int .u8 32), (.int .u8 47), (.int .u8 97), (.int .u8 47), (.int .u8 46), (.int .u8 46), (.int .u8 47), (.int .u8 98), (.int .u8 37), (.int .u8 55), (.int .u8 101), (.int .u8 63), (.int .u8 120), (.int .u8 32), (.int .u8 72), (.int .u8 84), (.int .u8 84), (.int .u8 80), (.int .u8 47), (.int .u8 49), (.int .u8 46), (.int .u8 49), (.int .u8 13), (.int .u8 10), (.int .u8 72), (.int .u8 111), (.int .u8 115), (.int .u8 116), (.int .u8 58), (.int .u8 32), (.int .u8 104), (.int .u8 13), (.int .u8 10), (.int .u8 88), (.int .u8 45), (.int .u8 82), (.int .u8 101), (.int .u8 113), (.int .u8 117), (.int .u8 101), (.int .u8 115), (.int .u8 116), (.int .u8 45), (.int .u8 73), (.int .u8 100), (.int .u8 58), (.int .u8 32), (.int .u8 55), (.int .u8 13), (.int .u8 10), (.int .u8 65), (.int .u8 99), (.int .u8 99), (.int .u8 101), (.int .u8 112), (.int .u8 116), (.int .u8 58), (.int .u8 32), (.int .u8 42), (.int .u8 13), (.int .u8 10), (.int .u8 13), (.int .u8 10), (.int .u8 71), (.int .u8 69), (.int .u8 84)] false 2)) .nil .nil)) .nil)) .nil) .nil) .nil) .nil)))), 2236⟩⟩
theorem seg4 : chunk Tryz.prog nest 10404 [0, 1, 127, 944, 1061, 1670, 1932, 2221, 2223, 2224] s4 = .ok s5 := by kernel_rfl
theorem last : doneTrue Tryz.prog nest 8 s5 = true := by kernel_rfl
theorem whole {η : Nat → Value} (hη : OneCells η) (hmix : Tryz.prog.follows .mixedOrders = true) {B : Bd} : CallSpec η Tryz.prog B 8 [] (heapP Tryz.prog tab) fun v _ => v = .bool true := by
  have hreg := regionA_ok (B := B) hη hmix (nestA_ok hη hmix 1000000 20)
  refine CallSpec.enter (fr := s0.fr) (by kernel_rfl) ?_
  exact Run.chunk hη hreg seg0 <| Run.chunk hη hreg seg1 <| Run.chunk hη hreg seg2 <| Run.chunk hη hreg seg3 <| Run.chunk hη hreg seg4 <| Run.doneTrue hη hreg last
end Go.Proofs.YtjjlnehilcnheaaGreatDoor.requestShownRun

namespace Go.Ev
set_option linter.unusedVariables false
set_option linter.unusedSimpArgs false
variable {η : Nat → Value} {P : Program} {B : Bd}

/-- What a contract says: values and heaps, by cases. -/
inductive KT where
  | ret (v : Value) (h : AH)
  | ite (b : Bool) (x y : KT)
  | know (p : Prop) (x : KT)
def KT.sat : KT → Value → AH → Prop
  | .ret v0 h0, v, h => v = v0 ∧ h = h0
  | .ite b x y, v, h => (b = true ∧ x.sat v h) ∨ (b = false ∧ y.sat v h)
  | .know p x, v, h => p ∧ x.sat v h
/-- What a walk asks. -/
inductive W where
  | ite (b : Bool) (x y : W)
  | need (p : Prop) (x : W)
  | know (p : Prop) (x : W)
  | call (f : FuncId) (args : List Value) (h : AH) (k : KT) (x : W)
  | stop (keep : List Nat) (s : AS)
  | done (f : FuncId) (v : Value) (h : AH)
  | fail (m : String)
def W.holds (η : Nat → Value) (P : Program) (B : Bd) (fn : FuncId) (K : List Nat → AS → Prop) (D : Value → AH → Prop) : W → Prop
  | .ite b x y => (b = true → x.holds η P B fn K D) ∧ (b = false → y.holds η P B fn K D)
  | .need p x => p ∧ (p → x.holds η P B fn K D)
  | .know p x => p → x.holds η P B fn K D
  | .call f args h k x => CallSpec η P B f args h k.sat ∧ x.holds η P B fn K D
  | .stop l s => K l s
  | .done f v h => f = fn ∧ D v h
  | .fail _ => False

/-- Cells as they are typed. -/
def intAt (c : List Value) (i : Nat) : Int := match c[i]? with | some (.int _ n) => n | _ => 0
def strAt (c : List Value) (i : Nat) : List UInt8 := match c[i]? with | some (.string s) => s.data.toList | _ => []
def boolAt (c : List Value) (i : Nat) : Bool := match c[i]? with | some (.bool b) => b | _ => false
def sEq2 (a b c d : ByteArray) : Bool := a.data.toList == c.data.toList && b.data.toList == d.data.toList
def strF (P : Program) (f : Field) : Bool := f.name != "_" && (match P.underlying f.type with | some .string => true | _ => false)
def twoS (P : Program) (t : TypeId) : Bool := match P.underlying t with
  | some (.struct ⟨[f, g]⟩) => strF P f && strF P g && f.offset == 0 && g.offset == 1 && !P.stoodInHeld t && !P.eqGuardType P.depth t
  | _ => false
theorem eqA_two {h : AH} {t : TypeId} {a b c d : ByteArray} (hq : twoS P t = true) : eqA P h 10000 t (.agg ⟨[.string a, .string b]⟩) (.agg ⟨[.string c, .string d]⟩) = .ok (sEq2 a b c d) ∧ P.eqGuardType P.depth t = false := by
  unfold twoS at hq
  split at hq
  · rename_i f g hu
    simp only [Bool.and_eq_true, strF, bne_iff_ne, ne_eq, Bool.not_eq_true', beq_iff_eq] at hq
    obtain ⟨⟨⟨⟨⟨⟨hn, hf⟩, hn', hg⟩, ho⟩, ho'⟩, hs⟩, he⟩ := hq
    refine ⟨?_, he⟩
    have uf : P.underlying f.type = some .string := by split at hf <;> simp_all
    have ug : P.underlying g.type = some .string := by split at hg <;> simp_all
    show eqA P h (9998 + 1 + 1) t _ _ = _
    unfold eqA
    simp only [undA, hu, orNo, bind, Except.bind, hs, Bool.false_eq_true, if_false, eqFields, hn, hn', partA, isAggA, uf, ug, ho, ho', List.getElem?_cons_zero, List.getElem?_cons_succ, List.drop]
    unfold eqA
    simp only [undA, uf, ug, orNo, bind, Except.bind]
    unfold sEq2
    cases (a.data.toList == c.data.toList) <;> cases (b.data.toList == d.data.toList) <;> simp
  · cases hq
section
variable (P : Program)
/-- The types of the cells of a value. -/
def cellTypes : Nat → TypeId → M (List TypeId)
  | 0, _ => no "cellTypes"
  | n + 1, t => do
    match ← undA P t with
    | .struct fs => fs.toList.foldlM (fun acc f => do .ok (acc ++ (← cellTypes n f.type))) []
    | .array k e => do .ok ((List.replicate k (← cellTypes n e)).flatten)
    | _ => .ok [t]
def cellTyped (c : List Value) (t : TypeId) (i : Nat) : M Value := do
  match ← undA P t with
  | .int k => .ok (.int k (intAt c i))
  | .string => .ok (strL (strAt c i))
  | .bool => .ok (.bool (boolAt c i))
  | _ => no "a cell of another type"
def cellsTyped (c : List Value) : List TypeId → Nat → M (List Value)
  | [], _ => .ok []
  | t :: ts, i => do .ok ((← cellTyped P c t i) :: (← cellsTyped c ts (i + 1)))
/-- An operation that asks something of its data. -/
def wLoad (ρ : Operand → Value) (t : TypeId) (x : Operand) (h : AH) : M (Prop × Value × AH) := do
  let a ← addrA (ρ x)
  let (_, c, _, _) ← cellsAt h a.block
  if ← isAggA P t then
    let n ← sizeA P t
    let ts ← cellTypes P 20 t
    let vs ← cellsTyped P c ts a.off
    .ok (a.off + n ≤ c.length ∧ (c.drop a.off).take n = vs, aggL vs, h)
  else do
    let v ← cellTyped P c t a.off
    .ok (c[a.off]? = some v, v, h)
def wStore (ρ : Operand → Value) (t : TypeId) (x y : Operand) (h : AH) : M (Prop × Value × AH) := do
  let a ← addrA (ρ x)
  let vs := cellsL (ρ y)
  let (ty, c, p, own) ← cellsAt h a.block
  if vs.length ≠ (← sizeA P t) ∨ vs.isEmpty = true ∨ own ≠ 2 ∨ vs.all oneC = false then no "store" else
  .ok (a.off + vs.length ≤ c.length, undef, putA h a.block (.cells ty (splice c a.off vs) p 2))
def wIndexAddr (ρ : Operand → Value) (t : TypeId) (x ix : Operand) (h : AH) : M (Prop × Value × AH) := do
  let i ← intOfA (ρ ix)
  match ← undA P t, ρ x with
  | .array len elem, .pointer (some a) => do
    let n ← sizeA P elem
    if a.spot = none then .ok (0 ≤ i ∧ i < len, .pointer (some (addO a (i.toNat * n))), h) else no "spot"
  | .slice elem, .slice (some a) len _ => do
    let n ← sizeA P elem
    .ok (0 ≤ i ∧ i < len, .pointer (some (addO a (i.toNat * n))), h)
  | _, _ => no "index"
def byteAt (l : List UInt8) (i : Int) : Int := ((l[i.toNat]?).getD 0).toNat
def wIndex (ρ : Operand → Value) (t : TypeId) (x ix : Operand) (h : AH) : M (Prop × Value × AH) := do
  let i ← intOfA (ρ ix)
  match ← undA P t, ρ x with
  | .string, .string s => .ok (0 ≤ i ∧ i < s.data.toList.length, .int .u8 (byteAt s.data.toList i), h)
  | _, _ => no "index"
def wInt (v : Option Value) (d : Int) : M Int := match v with
  | none => .ok d
  | some v => intOfA v
/-- By whether a capacity is a mark. -/
def capP (c : Nat) (p q : Prop) : Prop := if isU c = true then p else q
def capN (c : Nat) (p q : Nat) : Nat := if isU c = true then p else q
/-- How far an address goes on: not at all if nothing is left. -/
def cutN (c l size : Nat) : Nat := if c = l then 0 else l * size
theorem capP_no {c : Nat} (h : isU c = false) (p q : Prop) : capP c p q = q := by unfold capP; rw [h]; rfl
theorem capN_no {c : Nat} (h : isU c = false) (p q : Nat) : capN c p q = q := by unfold capN; rw [h]; rfl
def wSlice (ρ : Operand → Value) (t : TypeId) (x : Operand) (lo hi mx : Option Operand) (h : AH) : M (Prop × Value × AH) := do
  match ← undA P t, ρ x, mx with
  | .string, .string s, none => do
    let l ← wInt (lo.map ρ) 0
    let u ← wInt (hi.map ρ) s.data.toList.length
    .ok (0 ≤ l ∧ l ≤ u ∧ u ≤ s.data.toList.length, strL ((s.data.toList.drop l.toNat).take (u.toNat - l.toNat)), h)
  | .slice elem, .slice (some a) len cap, none => do
    let l ← wInt (lo.map ρ) 0
    let u ← wInt (hi.map ρ) len
    let size ← sizeA P elem
    if a.spot ≠ none then no "spot" else
    .ok (0 ≤ l ∧ l ≤ u ∧ capP cap (cap = capU size ∧ size ≠ 0 ∧ u ≤ len ∧ (l < len ∨ l = 0)) (u ≤ cap), .slice (some (addO a (capN cap (l.toNat * size) (cutN cap l.toNat size)))) (u.toNat - l.toNat) (capN cap cap (cap - l.toNat)), h)
  | .slice elem, .slice (some a) len cap, some m => do
    match hi with
    | none => no "slice"
    | some hi => do
      let l ← wInt (lo.map ρ) 0
      let u ← intOfA (ρ hi)
      let m ← intOfA (ρ m)
      let size ← sizeA P elem
      if a.spot ≠ none then no "spot" else
      .ok (0 ≤ l ∧ l ≤ u ∧ u ≤ m ∧ m < 9223372036854775808 ∧ capP cap (cap = capU size ∧ size ≠ 0 ∧ m ≤ len) (m ≤ cap), .slice (some (addO a (cutN m.toNat l.toNat size))) (u.toNat - l.toNat) (m.toNat - l.toNat), h)
  | _, _, _ => no "slice"
def wBin (ρ : Operand → Value) (op : BinOp) (t : TypeId) (x y : Operand) (h : AH) : M (Prop × Value × AH) :=
  match ρ x, ρ y, op with
  | .int k a, .int k' b, .quo => if k = k' then .ok (b ≠ 0, .int k (k.wrap (a.tdiv b)), h) else no "kinds"
  | .int k a, .int k' b, .rem => if k = k' then .ok (b ≠ 0, .int k (a.tmod b), h) else no "kinds"
  | .int k a, .int _ b, .shl => .ok (0 ≤ b, .int k (k.wrap (a * 2 ^ (min b.toNat k.bits))), h)
  | .int k a, .int _ b, .shr => .ok (0 ≤ b, .int k (a.fdiv (2 ^ (min b.toNat k.bits))), h)
  | .string a, .string b, .add => .ok (a.data.toList.length + b.data.toList.length ≤ 9223372036854775807, strL (a.data.toList ++ b.data.toList), h)
  | .agg ⟨[.string a, .string b]⟩, .agg ⟨[.string c, .string d]⟩, .eql => if twoS P t then .ok (True, .bool (sEq2 a b c d), h) else no "binop"
  | .agg ⟨[.string a, .string b]⟩, .agg ⟨[.string c, .string d]⟩, .neq => if twoS P t then .ok (True, .bool (!sEq2 a b c d), h) else no "binop"
  | _, _, _ => no "binop"
end

/-- One operation at the front of a region, its value told. -/
theorem exec_eff {ρ : Operand → Value} {o : Oper} {h : AH} {r : AN × AH} (hok : okOps P o = true) (hk : kindOf P o.op = .effect) (hr : effA P ρ o h = .ok r) : execA P ρ o h = .ok r := by
  unfold execA
  rw [hok, hk]
  simp only [Bool.not_true, Bool.false_eq_true, if_false, hr]
theorem wLoad_ok {ρ : Operand → Value} {o : Oper} {t : TypeId} {x : Operand} {h h' : AH} {p : Prop} {v : Value} (ho : o.op = .load t x) (hw : wLoad P ρ t x h = .ok (p, v, h')) (hp : p) : readA P ρ o h = .ok v ∧ h' = h := by
  unfold wLoad at hw
  simp only [bind_ok] at hw
  obtain ⟨a, ha, ⟨ty, c, pl, own⟩, hc, g, hg, hw⟩ := hw
  have hsp : a.spot = none := by
    unfold addrA at ha
    split at ha
    · split at ha
      · rename_i h1; rw [okk] at ha; subst ha; exact h1
      · simp [no] at ha
    · simp [no] at ha
  cases g with
  | true =>
    simp only [if_true, bind_ok] at hw
    obtain ⟨n, hn, ts, _, vs, _, hw⟩ := hw
    rw [okk] at hw
    injection hw with e1 e2
    injection e2 with e2 e3
    subst e1; subst e2; subst e3
    refine ⟨?_, rfl⟩
    unfold readA
    simp only [ho, ha, loadA, hg, hn, bind, Except.bind, if_true, getC, hc]
    rw [if_pos ⟨hp.1, hsp⟩]
    simp only [hp.2]
  | false =>
    simp only [Bool.false_eq_true, if_false, bind_ok] at hw
    obtain ⟨v1, _, hw⟩ := hw
    rw [okk] at hw
    injection hw with e1 e2
    injection e2 with e2 e3
    subst e1; subst e2; subst e3
    refine ⟨?_, rfl⟩
    have hl := (List.getElem?_eq_some_iff.1 hp).1
    have hd : (c.drop a.off).take 1 = [v1] := by
      rw [List.drop_eq_getElem_cons hl]
      simp [(List.getElem?_eq_some_iff.1 hp).2]
    unfold readA
    simp only [ho, ha, loadA, hg, bind, Except.bind, Bool.false_eq_true, if_false, getC, hc]
    rw [if_pos ⟨by omega, hsp⟩]
    simp only [hd]
theorem addr_spot {v : Value} {a : Addr} (ha : addrA v = .ok a) : a.spot = none := by
  unfold addrA at ha
  split at ha
  · split at ha
    · rename_i h1; rw [okk] at ha; subst ha; exact h1
    · simp [no] at ha
  · simp [no] at ha
theorem wStore_ok {ρ : Operand → Value} {o : Oper} {t : TypeId} {x y : Operand} {h h' : AH} {p : Prop} {v : Value} (ho : o.op = .store t x y) (hw : wStore P ρ t x y h = .ok (p, v, h')) (hp : p) : effA P ρ o h = .ok (.skip, h') ∧ v = undef := by
  unfold wStore at hw
  simp only [bind_ok] at hw
  obtain ⟨a, ha, ⟨ty, c, pl, own⟩, hc, n, hn, hw⟩ := hw
  have hsp := addr_spot ha
  simp only at hw
  split at hw
  · simp [no] at hw
  · rename_i hcond
    rw [okk] at hw
    injection hw with e1 e2
    injection e2 with e2 e3
    subst e1; subst e2; subst e3
    refine ⟨?_, rfl⟩
    have h1 : (cellsL (ρ y)).length = n := Decidable.byContradiction fun hh => hcond (.inl hh)
    have h2 : ¬ (cellsL (ρ y)).isEmpty = true := fun hh => hcond (.inr (.inl hh))
    have h3 : own = 2 := Decidable.byContradiction fun hh => hcond (.inr (.inr (.inl hh)))
    have h4 : (cellsL (ρ y)).all oneC = true := by
      cases hq : (cellsL (ρ y)).all oneC with
      | true => rfl
      | false => exact absurd (.inr (.inr (.inr hq))) hcond
    have hst : storeC h a (cellsL (ρ y)) = .ok (putA h a.block (.cells ty (splice c a.off (cellsL (ρ y))) pl 2)) := by
      unfold storeC
      split
      · rename_i he; rw [he] at h2; simp at h2
      · rw [hc]
        simp only
        rw [if_pos ⟨h3, hp, hsp, h4⟩]
    unfold effA
    simp only [ho, ha, bind, Except.bind, storeA, hn]
    rw [if_neg (by rw [h1]; simp), hst]
theorem wIndexAddr_ok {ρ : Operand → Value} {o : Oper} {t : TypeId} {x y : Operand} {h h' : AH} {p : Prop} {v : Value} (ho : o.op = .indexAddr t x y) (hw : wIndexAddr P ρ t x y h = .ok (p, v, h')) (hp : p) : readA P ρ o h = .ok v ∧ h' = h := by
  unfold wIndexAddr at hw
  simp only [bind_ok] at hw
  obtain ⟨i, hi, d, hd, hw⟩ := hw
  split at hw
  · rename_i len elem a hx
    simp only [bind_ok] at hw
    obtain ⟨n, hn, hw⟩ := hw
    split at hw
    · rename_i hs
      rw [okk] at hw
      injection hw with e1 e2
      injection e2 with e2 e3
      subst e1; subst e2; subst e3
      refine ⟨?_, rfl⟩
      unfold readA
      simp only [ho, hi, hd, hx, hn, bind, Except.bind]
      rw [if_pos ⟨hp.1, hp.2, hs⟩]
    · simp [no] at hw
  · rename_i elem a len cap hx
    simp only [bind_ok] at hw
    obtain ⟨n, hn, hw⟩ := hw
    rw [okk] at hw
    injection hw with e1 e2
    injection e2 with e2 e3
    subst e1; subst e2; subst e3
    refine ⟨?_, rfl⟩
    unfold readA
    simp only [ho, hi, hd, hx, hn, bind, Except.bind]
    rw [if_pos hp]
  · simp [no] at hw
theorem wIndex_ok {ρ : Operand → Value} {o : Oper} {t : TypeId} {x y : Operand} {h h' : AH} {p : Prop} {v : Value} (ho : o.op = .index t x y) (hw : wIndex P ρ t x y h = .ok (p, v, h')) (hp : p) : readA P ρ o h = .ok v ∧ h' = h := by
  unfold wIndex at hw
  simp only [bind_ok] at hw
  obtain ⟨i, hi, d, hd, hw⟩ := hw
  split at hw
  · rename_i s hx
    rw [okk] at hw
    injection hw with e1 e2
    injection e2 with e2 e3
    subst e1; subst e2; subst e3
    refine ⟨?_, rfl⟩
    have hlt : i.toNat < s.data.toList.length := by omega
    unfold readA
    simp only [ho, hi, hd, hx, bind, Except.bind]
    rw [if_pos hp.1, List.getElem?_eq_getElem hlt]
    simp only [byteAt, List.getElem?_eq_getElem hlt, Option.getD_some]
  · simp [no] at hw
theorem wBin_ok {ρ : Operand → Value} {o : Oper} {op : BinOp} {t yt : TypeId} {x y : Operand} {h h' : AH} {p : Prop} {v : Value} (ho : o.op = .binOp op t x y yt) (hw : wBin P ρ op t x y h = .ok (p, v, h')) (hp : p) : readA P ρ o h = .ok v ∧ h' = h := by
  unfold wBin at hw
  split at hw
  · rename_i k a k' b hx hy
    split at hw
    · rename_i hk
      rw [okk] at hw
      injection hw with e1 e2
      injection e2 with e2 e3
      subst e1; subst e2; subst e3; subst hk
      refine ⟨?_, rfl⟩
      unfold readA
      simp only [ho, hx, hy, guardOk, isEq, bind, Except.bind, binA, isShift, intA, if_true, Bool.false_eq_true, if_false]
      rw [if_neg hp]
    · simp [no] at hw
  · rename_i k a k' b hx hy
    split at hw
    · rename_i hk
      rw [okk] at hw
      injection hw with e1 e2
      injection e2 with e2 e3
      subst e1; subst e2; subst e3; subst hk
      refine ⟨?_, rfl⟩
      unfold readA
      simp only [ho, hx, hy, guardOk, isEq, bind, Except.bind, binA, isShift, intA, if_true, Bool.false_eq_true, if_false]
      rw [if_neg hp]
    · simp [no] at hw
  · rename_i k a k' b hx hy
    rw [okk] at hw
    injection hw with e1 e2
    injection e2 with e2 e3
    subst e1; subst e2; subst e3
    refine ⟨?_, rfl⟩
    unfold readA
    simp only [ho, hx, hy, guardOk, isEq, bind, Except.bind, binA, isShift, shiftA, if_true]
    rw [if_neg (by omega)]
  · rename_i k a k' b hx hy
    rw [okk] at hw
    injection hw with e1 e2
    injection e2 with e2 e3
    subst e1; subst e2; subst e3
    refine ⟨?_, rfl⟩
    unfold readA
    simp only [ho, hx, hy, guardOk, isEq, bind, Except.bind, binA, isShift, shiftA, if_true]
    rw [if_neg (by omega)]
  · rename_i a b hx hy
    rw [okk] at hw
    injection hw with e1 e2
    injection e2 with e2 e3
    subst e1; subst e2; subst e3
    refine ⟨?_, rfl⟩
    unfold readA
    have hs : strA .add a.data.toList b.data.toList = .ok (strL (a.data.toList ++ b.data.toList)) := if_pos hp
    have hb : ∀ h : AH, binA P h .add t (.string a) (.string b) = strA .add a.data.toList b.data.toList := fun _ => rfl
    rw [← hb h] at hs
    generalize Value.string a = u at hx hs
    generalize Value.string b = u2 at hy hs
    clear hp
    simp only [ho, hx, hy, guardOk, isEq, bind, Except.bind, if_true, hs]
  · rename_i a b c d hx hy
    split at hw
    · rename_i hq
      rw [okk] at hw
      injection hw with e1 e2
      injection e2 with e2 e3
      subst e1; subst e2; subst e3
      obtain ⟨k1, k2⟩ := eqA_two (h := h) (a := a) (b := b) (c := c) (d := d) hq
      refine ⟨?_, rfl⟩
      have hb : binA P h .eql t (.agg ⟨[.string a, .string b]⟩) (.agg ⟨[.string c, .string d]⟩) = .ok (.bool (sEq2 a b c d)) := by
        unfold binA
        simp only [plainV, isEq, k1, bind, Except.bind, Bool.and_self, if_true]
        cases sEq2 a b c d <;> rfl
      unfold readA
      simp only [ho, hx, hy, guardOk, isEq, k2, Bool.not_false, bind, Except.bind, if_true, hb]
    · simp [no] at hw
  · rename_i a b c d hx hy
    split at hw
    · rename_i hq
      rw [okk] at hw
      injection hw with e1 e2
      injection e2 with e2 e3
      subst e1; subst e2; subst e3
      obtain ⟨k1, k2⟩ := eqA_two (h := h) (a := a) (b := b) (c := c) (d := d) hq
      refine ⟨?_, rfl⟩
      have hb : binA P h .neq t (.agg ⟨[.string a, .string b]⟩) (.agg ⟨[.string c, .string d]⟩) = .ok (.bool (!sEq2 a b c d)) := by
        unfold binA
        simp only [plainV, isEq, k1, bind, Except.bind, Bool.and_self, if_true]
        cases sEq2 a b c d <;> rfl
      unfold readA
      simp only [ho, hx, hy, guardOk, isEq, k2, Bool.not_false, bind, Except.bind, if_true, hb]
    · simp [no] at hw
  · simp [no] at hw
theorem wSlice_ok {ρ : Operand → Value} {o : Oper} {t : TypeId} {x : Operand} {lo hi mx : Option Operand} {h h' : AH} {p : Prop} {v : Value} (ho : o.op = .slice t x lo hi mx) (hw : wSlice P ρ t x lo hi mx h = .ok (p, v, h')) (hp : p) : readA P ρ o h = .ok v ∧ h' = h := by
  unfold wSlice at hw
  simp only [bind_ok] at hw
  obtain ⟨d, hd, hw⟩ := hw
  have key : ∀ (v? : Option Value) (y : Nat) (n : Int) (dflt : Int), wInt v? dflt = .ok n → ∀ w, v? = some w → 0 ≤ n → n ≤ y → boundA w y = .ok n.toNat := by
    intro v? y n dflt h1 w h2 h3 h4
    subst h2
    unfold wInt at h1
    simp only at h1
    unfold boundA
    simp only [h1, bind, Except.bind]
    rw [if_pos ⟨h3, h4⟩]
  have bw : ∀ (len y : Nat) (lo hi : Option Value) (l u : Int), wInt lo 0 = .ok l → wInt hi len = .ok u → 0 ≤ l → l ≤ u → u ≤ y → boundsA len y lo hi none = .ok (l.toNat, u.toNat, y) := by
    intro len y lo hi l u hl hu p1 p2 p3
    unfold boundsA
    simp only [bind, Except.bind]
    cases hi with
    | none =>
      unfold wInt at hu; rw [okk] at hu
      simp only
      cases lo with
      | none =>
        unfold wInt at hl; rw [okk] at hl
        simp only
        rw [← hl, ← hu]; simp
      | some w =>
        simp only
        rw [key _ len l 0 hl w rfl p1 (by omega)]
        simp only
        rw [← hu]; simp
    | some w2 =>
      simp only
      rw [key _ y u _ hu w2 rfl (by omega) (by omega)]
      simp only
      cases lo with
      | none =>
        unfold wInt at hl; rw [okk] at hl
        simp only
        rw [← hl]; simp
      | some w =>
        simp only
        rw [key _ u.toNat l 0 hl w rfl p1 (by omega)]
  split at hw
  · rename_i s hx
    simp only [bind_ok] at hw
    obtain ⟨l, hl, u, hu, hw⟩ := hw
    rw [okk] at hw
    injection hw with e1 e2
    injection e2 with e2 e3
    subst e1; subst e2; subst e3
    refine ⟨?_, rfl⟩
    obtain ⟨p1, p2, p3⟩ := hp
    have hsz : s.size = s.data.toList.length := rfl
    unfold readA
    simp only [ho, hd, hx, sliceA, bind, Except.bind, Option.map_none, Option.isSome_none, Bool.false_eq_true, if_false]
    have hb : boundsA s.size s.size (lo.map ρ) (hi.map ρ) none = .ok (l.toNat, u.toNat, s.size) := by
      unfold boundsA
      simp only [bind, Except.bind]
      cases hhi : hi.map ρ with
      | none =>
        rw [hhi] at hu
        unfold wInt at hu; rw [okk] at hu
        simp only
        cases hlo : lo.map ρ with
        | none =>
          rw [hlo] at hl
          unfold wInt at hl; rw [okk] at hl
          simp only
          rw [← hl, ← hu, hsz]; simp
        | some w =>
          simp only
          rw [key _ s.size l 0 hl w hlo p1 (by omega)]
          simp only
          rw [← hu, hsz]; simp
      | some w2 =>
        simp only
        rw [key _ s.size u _ hu w2 hhi (by omega) (by omega)]
        simp only
        cases hlo : lo.map ρ with
        | none =>
          rw [hlo] at hl
          unfold wInt at hl; rw [okk] at hl
          simp only
          rw [← hl]; simp
        | some w =>
          simp only
          rw [key _ u.toNat l 0 hl w hlo p1 (by omega)]
    rw [hb]
  · rename_i elem a len cap hx
    simp only [bind_ok] at hw
    obtain ⟨l, hl, u, hu, size, hsz, hw⟩ := hw
    rw [ite_no, okk] at hw
    obtain ⟨hspot, hw⟩ := hw
    have hspot : a.spot = none := Decidable.byContradiction hspot
    injection hw with e1 e2
    injection e2 with e2 e3
    subst e1; subst e2; subst e3
    refine ⟨?_, rfl⟩
    obtain ⟨p1, p2, p3⟩ := hp
    unfold readA
    simp only [ho, hd, hx, sliceA, bind, Except.bind, hsz, Option.map_none, Option.isNone_some, Bool.false_eq_true, false_and, if_false]
    cases hq : isU cap with
    | true =>
      unfold capP at p3
      simp only [hq, if_true] at p3 ⊢
      obtain ⟨c2, c3, p3, p4⟩ := p3
      rw [bw len len _ _ _ _ hl hu p1 p2 p3]
      simp only
      rw [if_neg (by intro hh; rcases hh with hh | hh; exact hh c2; exact c3 hh)]
      simp only [Option.isSome_none, Bool.false_eq_true, if_false]
      rw [if_pos (by omega)]
      unfold capN
      simp only [hq, if_true]
      rfl
    | false =>
      rw [capP_no hq] at p3
      simp only [Bool.false_eq_true, if_false]
      rw [bw len cap _ _ _ _ hl hu p1 p2 p3]
      simp only
      unfold mkS
      have : isU (cap - l.toNat) = false := by
        unfold isU at hq ⊢
        simp only [decide_eq_false_iff_not] at hq ⊢
        omega
      rw [this, capN_no hq, capN_no hq]
      unfold cutN
      simp only [Bool.false_eq_true, if_false]
      by_cases hc : cap = l.toNat
      · rw [if_pos hc, if_pos hc]
        unfold addO
        rw [Nat.add_zero]
        cases a; simp only at hspot; rw [hspot]
      · rw [if_neg hc, if_neg hc]
        rfl
  · rename_i elem a len cap m hx
    cases hi with
    | none => simp [no] at hw
    | some hi =>
      simp only [bind_ok] at hw
      obtain ⟨l, hl, u, hu, m', hm, size, hsz, hw⟩ := hw
      rw [ite_no, okk] at hw
      obtain ⟨hspot, hw⟩ := hw
      have hspot : a.spot = none := Decidable.byContradiction hspot
      injection hw with e1 e2
      injection e2 with e2 e3
      subst e1; subst e2; subst e3
      refine ⟨?_, rfl⟩
      obtain ⟨p1, p2, p3, p4, p5⟩ := hp
      unfold readA
      have hw2 : wInt (some (ρ hi)) 0 = .ok u := hu
      have hw3 : wInt (some (ρ m)) 0 = .ok m' := hm
      have b3 : ∀ y : Nat, m' ≤ y → boundsA len y (lo.map ρ) (some (ρ hi)) (some (ρ m)) = .ok (l.toNat, u.toNat, m'.toNat) := by
        intro y hy
        unfold boundsA
        simp only [bind, Except.bind]
        rw [key _ y m' 0 hw3 _ rfl (by omega) hy]
        simp only
        rw [key _ m'.toNat u 0 hw2 _ rfl (by omega) (by omega)]
        simp only
        cases hlo : lo.map ρ with
        | none =>
          rw [hlo] at hl
          unfold wInt at hl; rw [okk] at hl
          simp only
          rw [← hl]; simp
        | some w =>
          simp only
          rw [key _ u.toNat l 0 hl w hlo p1 (by omega)]
      have hU : isU (m'.toNat - l.toNat) = false := by
        unfold isU capB
        simp only [decide_eq_false_iff_not]
        omega
      have fin : ∀ a : Addr, a.spot = none → mkS (if m'.toNat = l.toNat then some a else Option.map (addO · (l.toNat * size)) (some a)) (u.toNat - l.toNat) (m'.toNat - l.toNat) = .ok (.slice (some (addO a (cutN m'.toNat l.toNat size))) (u.toNat - l.toNat) (m'.toNat - l.toNat)) := by
        intro a hsp
        unfold mkS
        rw [hU]
        simp only [Bool.false_eq_true, if_false]
        unfold cutN
        by_cases hc : m'.toNat = l.toNat
        · rw [if_pos hc, if_pos hc]
          unfold addO
          rw [Nat.add_zero]
          cases a; simp only at hsp; rw [hsp]
        · rw [if_neg hc, if_neg hc]
          rfl
      simp only [ho, hd, hx, sliceA, bind, Except.bind, hsz, Option.map_some, Option.isNone_some, Bool.false_eq_true, false_and, if_false]
      cases hq : isU cap with
      | true =>
        unfold capP at p5
        simp only [hq, if_true] at p5 ⊢
        obtain ⟨c2, c3, p5⟩ := p5
        rw [b3 len p5]
        simp only
        rw [if_neg (by intro hh; rcases hh with hh | hh; exact hh c2; exact c3 hh)]
        simp only [Option.isSome_some, if_true]
        exact fin _ hspot
      | false =>
        rw [capP_no hq] at p5
        simp only [Bool.false_eq_true, if_false]
        rw [b3 cap p5]
        simp only
        exact fin _ hspot
  · simp [no] at hw
end Go.Ev

namespace Go.Ev
set_option linter.unusedVariables false
set_option linter.unusedSimpArgs false
variable {η : Nat → Value} {P : Program} {B : Bd}
section
variable (P : Program)
/-- The first cells of a row: those that are asked for. -/
def cut0 (c : List Value) : Nat → Nat → List Value
  | 0, _ => c
  | off, n => (c.drop off).take n
def cutOk (c : List Value) : Nat → Nat → Prop
  | 0, n => c.length = n
  | off, n => off + n ≤ c.length
def wFirst (h : AH) (size n : Nat) : Value → M (Prop × List Value)
  | .slice (some a) _ _ => do
    let (_, c, _, _) ← cellsAt h a.block
    if a.spot = none then .ok (a.off + n * size ≤ c.length, (c.drop a.off).take (n * size)) else no "spot"
  | .slice none _ c => if c = capE then no "nil cells" else .ok (n * size = 0, [])
  | .string s => if size = 1 then .ok (True, bytesV (s.data.toList.take n)) else no "bytes"
  | _ => no "slice or string"
def wAppend (ρ : Operand → Value) (argTypes : List TypeId) (args : List Value) (h : AH) : M (Prop × KT) := do
  match argTypes, args with
  | [sT, xT], [.slice base len cap, x] => do
    match ← undA P sT with
    | .slice elem => do
      let ei ← infoA P elem
      let z ← zeroA P elem
      let isInt ← isIntT P xT
      if isInt then no "append of make" else
      if ei.size = 0 ∨ ei.bytes > 65536 ∨ (cellsL z).length ≠ ei.size then no "append: size" else
      let n ← lenA x
      let (pn, new) ← wFirst h ei.size n x
      match base with
      | some a => do
        let (ty, c, _, own) ← cellsAt h a.block
        if isU cap = false ∨ own ≠ 2 ∨ cap ≠ capU ei.size ∨ ty ≠ elem ∨ a.spot ≠ none then no "append: mark" else
        let r := freshA { h with objs := h.objs.del a.block } elem ei.size (len + n) (cut0 c a.off (len * ei.size) ++ new)
        .ok (pn ∧ cutOk c a.off (len * ei.size) ∧ len + n ≤ 1000000 ∧ new.length = n * ei.size ∧ new.all oneC = true, .ret r.1 r.2)
      | none => do
        if isU cap = true ∨ len ≠ 0 ∨ cap ≠ 0 then no "append: nil" else
        let r := freshA h elem ei.size (0 + n) ([] ++ new)
        .ok (pn ∧ n ≤ 1000000 ∧ new.length = n * ei.size ∧ new.all oneC = true, .ite (n == 0) (.ret (.slice none 0 0) h) (.ret r.1 r.2))
    | _ => no "append"
  | _, _ => no "append args"
/-- append, where the row may have cells behind the slice: they are cut off. -/
def wAppendT (ρ : Operand → Value) (argTypes : List TypeId) (args : List Value) (h : AH) : M (Prop × KT) := do
  match argTypes, args with
  | [sT, xT], [.slice (some a) len cap, x] => do
    match ← undA P sT with
    | .slice elem => do
      let ei ← infoA P elem
      let z ← zeroA P elem
      let isInt ← isIntT P xT
      if isInt then no "append of make" else
      if ei.size = 0 ∨ ei.bytes > 65536 ∨ (cellsL z).length ≠ ei.size then no "append: size" else
      let n ← lenA x
      let (pn, new) ← wFirst h ei.size n x
      let (ty, c, _, own) ← cellsAt h a.block
      if isU cap = false ∨ own ≠ 2 ∨ cap ≠ capU ei.size ∨ ty ≠ elem ∨ a.spot ≠ none then no "append: mark" else
      let r := freshA { h with objs := h.objs.del a.block } elem ei.size (len + n) ((c.drop a.off).take (len * ei.size) ++ new)
      .ok (pn ∧ a.off + len * ei.size ≤ c.length ∧ len + n ≤ 1000000 ∧ new.length = n * ei.size ∧ new.all oneC = true, .ret r.1 r.2)
    | _ => no "append"
  | _, _ => no "append args"
def byteOf : Value → UInt8
  | .int _ n => UInt8.ofNat n.toNat
  | _ => 0
def bytesIn (c : List Value) (off n : Nat) : List UInt8 := ((c.drop off).take n).map byteOf
def wConv (ρ : Operand → Value) (src dst : TypeId) (x : Operand) (h : AH) : M (Prop × KT) := do
  match ← undA P src, ← undA P dst, ρ x with
  | .slice e, .string, .slice (some a) len _ => do
    match ← undA P e with
    | .int .u8 => do
      let (_, c, _, _) ← cellsAt h a.block
      if a.spot ≠ none then no "spot" else
      .ok (a.off + len ≤ c.length ∧ bytesOf ((c.drop a.off).take len) = .ok (bytesIn c a.off len), .ret (strL (bytesIn c a.off len)) h)
    | _ => no "conv"
  | .string, .slice e, .string s => do
    match ← undA P e with
    | .int .u8 =>
      .ok (s.size ≤ 1000000, .ret (.slice (some ⟨h.next, 0, none⟩) s.size (capU 1)) (newA h (.cells e (bytesV s.data.toList) false 2)).2)
    | _ => no "conv"
  | _, _, _ => no "conv"
def wMakeSlice (ρ : Operand → Value) (t : TypeId) (l c : Operand) (h : AH) : M (Prop × KT) := do
  match ← undA P t with
  | .slice elem => do
    let l ← intOfA (ρ l)
    let c ← intOfA (ρ c)
    let ei ← infoA P elem
    if ei.bytes > 65536 then no "makeSlice" else
    let z := cellsL (← zeroA P elem)
    if z.length ≠ ei.size then no "makeSlice: zero" else
    .ok (0 ≤ l ∧ l ≤ c ∧ c ≤ 1000000, .ret (.slice (some ⟨h.next, 0, none⟩) l.toNat c.toNat) (newA h (.cells elem (rep z c.toNat) true 2)).2)
  | _ => no "makeSlice"
/-- What a map holds at a key, or zero. -/
def mVal (z : Value) : Option (Nat × Value) → Value
  | some (_, v) => v
  | none => z
def mFind (d : TypeDesc) (k : Value) (es : List MapEntry) : Option (Nat × Value) := (Instr.findNow d k es 0).getD none
def typedOf (c : List Value) (t : TypeId) : M Value := do
  if ← isAggA P t then .ok (aggL (← cellsTyped P c (← cellTypes P 20 t) 0)) else cellTyped P c t 0
def wLookup (ρ : Operand → Value) (t : TypeId) (x k : Operand) (commaOk : Bool) (h : AH) : M (Prop × KT) := do
  match ← undA P t with
  | .map key elem => do
    match ρ x with
    | .map (some r) => do
      let (es, _, _) ← mapOf h r
      let d ← keyKind P key
      let z ← zeroA P elem
      let f := mFind d (ρ k) es
      let v ← typedOf P (cellsL (mVal z f)) elem
      .ok (Instr.findNow d (ρ k) es 0 = some f ∧ mVal z f = v, .ret (if commaOk then tupL [v, .bool f.isSome] else v) h)
    | _ => no "map"
  | _ => no "map type"
def mPut (k x : Value) (c : Nat) (es : List MapEntry) : Option (Nat × Value) → List MapEntry
  | some (i, _) => modEntry (fun e => { e with key := k, val := x }) es i
  | none => es ++ [{ key := k, val := x, born := c }]
def mClock (c : Nat) : Option (Nat × Value) → Nat
  | some _ => c
  | none => c + 1
def wMapSet (ρ : Operand → Value) (t : TypeId) (m k x : Operand) (h : AH) : M (Prop × KT) := do
  match ← undA P t, ρ m with
  | .map key _, .map (some r) => do
    let (es, c, own) ← mapOf h r
    if !own then no "map not own" else
    let d ← keyKind P key
    let f := mFind d (ρ k) es
    .ok (Instr.findNow d (ρ k) es 0 = some f, .ret undef (putA h r (.map (mPut (ρ k) (ρ x) c es f) (mClock c f) own)))
  | _, _ => no "map type"
def wCopy (ρ : Operand → Value) (argTypes : List TypeId) (args : List Value) (h : AH) : M (Prop × KT) := do
  match argTypes, args with
  | t :: _, [.slice (some a) dLen _, src] => do
    match ← undA P t with
    | .slice elem => do
      let sl ← lenA src
      let size ← sizeA P elem
      let n := Nat.min sl dLen
      let (pn, cs) ← wFirst h size n src
      let (ty, c, p, own) ← cellsAt h a.block
      if own ≠ 2 ∨ a.spot ≠ none ∨ size = 0 then no "copy" else
      .ok (pn ∧ cs.length = n * size ∧ a.off + cs.length ≤ c.length ∧ cs.all oneC = true, .ite (n == 0) (.ret (goInt 0) h) (.ret (goInt n) (putA h a.block (.cells ty (splice c a.off cs) p 2))))
    | _ => no "copy"
  | _, _ => no "copy args"
def wUnsafeString (ρ : Operand → Value) (argTypes : List TypeId) (args : List Value) (h : AH) : M (Prop × KT) := do
  match argTypes, args with
  | t :: _, [.pointer (some a), .int kd n] => do
    let (ty, c, p, own) ← cellsAt h a.block
    match ← undA P t, P.underlying ty with
    | .pointer e, some (.int .u8) =>
      if e ≠ ty ∨ P.cellsOf ty ≠ 1 ∨ own = 0 ∨ a.spot ≠ none then no "unsafe.String: type" else
      .ok (0 ≤ n ∧ n ≤ 1000000 ∧ a.off + n.toNat ≤ c.length ∧ bytesOf ((c.drop a.off).take n.toNat) = .ok (bytesIn c a.off n.toNat), .ite (n == 0) (.ret (.string ⟨#[]⟩) h) (.ret (strL (bytesIn c a.off n.toNat)) (putA h a.block (.cells ty c false 1))))
    | _, _ => no "unsafe.String: type"
  | _, _ => no "unsafe.String"
def mDel (es : List MapEntry) : Option (Nat × Value) → List MapEntry
  | some (i, _) => es.eraseIdx i
  | none => es
def wDelete (argTypes : List TypeId) (args : List Value) (h : AH) : M (Prop × KT) := do
  match argTypes, args with
  | t :: _, [.map (some r), k] => do
    match ← undA P t with
    | .map key _ => do
      let (es, c, own) ← mapOf h r
      if !own then no "map not own" else
      let d ← keyKind P key
      let f := mFind d k es
      .ok (Instr.findNow d k es 0 = some f, .ret (tupL []) (putA h r (.map (mDel es f) c own)))
    | _ => no "map type"
  | _, _ => no "delete args"
def wClear (argTypes : List TypeId) (args : List Value) (h : AH) : M (Prop × KT) := do
  match argTypes, args with
  | t :: _, [.slice (some a) n _] => do
    match ← undA P t with
    | .slice elem => do
      let z ← zeroA P elem
      let (ty, c, p, own) ← cellsAt h a.block
      if own ≠ 2 ∨ a.spot ≠ none ∨ (cellsL z).isEmpty = true ∨ (cellsL z).all oneC = false then no "clear" else
      .ok (a.off + (rep (cellsL z) n).length ≤ c.length, .ite (n == 0) (.ret (tupL []) h) (.ret (tupL []) (putA h a.block (.cells ty (splice c a.off (rep (cellsL z) n)) p 2))))
    | _ => no "clear"
  | _, _ => no "clear args"
/-- unsafe.SliceData of a slice of an unknown capacity. -/
def wSliceData (ts : List TypeId) (args : List Value) (h : AH) : M (Prop × Value × AH) := match args with
  | [.slice (some a) l c] => if isU c = true ∧ ts.isEmpty = false then .ok (0 < l, .pointer (some a), h) else no "SliceData"
  | _ => no "SliceData"
def lift1 (x : M (Prop × Value × AH)) : M (Prop × KT) := do
  let (p, v, h) ← x
  .ok (p, .ret v h)
/-- An operation, and what it asks. -/
def opW (ρ : Operand → Value) (o : Oper) (h : AH) : M (Prop × KT) :=
  if !okOps P o then no "a constant" else
  match o.op with
  | .load t x => lift1 (wLoad P ρ t x h)
  | .store t x y => lift1 (wStore P ρ t x y h)
  | .indexAddr t x y => lift1 (wIndexAddr P ρ t x y h)
  | .index t x y => lift1 (wIndex P ρ t x y h)
  | .binOp op t x y _ => lift1 (wBin P ρ op t x y h)
  | .slice t x lo hi mx => lift1 (wSlice P ρ t x lo hi mx h)
  | .call { callee := .builtin .append, args, argTypes } => wAppend P ρ argTypes.toList (args.toList.map ρ) h
  | .call { callee := .builtin .copy, args, argTypes } => wCopy P ρ argTypes.toList (args.toList.map ρ) h
  | .call { callee := .builtin .unsafeString, args, argTypes } => wUnsafeString P ρ argTypes.toList (args.toList.map ρ) h
  | .call { callee := .builtin .delete, args, argTypes } => wDelete P argTypes.toList (args.toList.map ρ) h
  | .call { callee := .builtin .clear, args, argTypes } => wClear P argTypes.toList (args.toList.map ρ) h
  | .call { callee := .builtin .unsafeSliceData, args, argTypes } => lift1 (wSliceData argTypes.toList (args.toList.map ρ) h)
  | .convert s d x => wConv P ρ s d x h
  | .makeSlice t l c => wMakeSlice P ρ t l c h
  | .lookup t x k ok => wLookup P ρ t x k ok h
  | .mapUpdate t m k x => wMapSet P ρ t m k x h
  | .insert t m k x => wMapSet P ρ t m k x h
  | _ => no "operation"
/-- An append that cuts off. -/
def opT (ρ : Operand → Value) (o : Oper) (h : AH) : M (Prop × KT) :=
  if !okOps P o then no "a constant" else
  match o.op with
  | .call { callee := .builtin .append, args, argTypes } => wAppendT P ρ argTypes.toList (args.toList.map ρ) h
  | _ => no "operation"
end
/-- What an operation leads to, if it goes on. -/
def Goes (P : Program) (ρ : Operand → Value) (o : Oper) (h : AH) (v : Value) (h' : AH) : Prop := execA P ρ o h = .ok (.value v, h') ∨ (execA P ρ o h = .ok (.skip, h') ∧ v = undef)
theorem read_goes {ρ : Operand → Value} {o : Oper} {h : AH} {v : Value} (hok : okOps P o = true) (hk : kindOf P o.op = .read) (hr : readA P ρ o h = .ok v) : Goes P ρ o h v h := .inl (exec_read hok hk hr)
theorem wFirst_ok {h : AH} {size n : Nat} {x : Value} {p : Prop} {l : List Value} (hw : wFirst h size n x = .ok (p, l)) (hp : p) : firstA h size n x = .ok l := by
  unfold wFirst at hw
  split at hw
  · rename_i a _ _
    simp only [bind_ok] at hw
    obtain ⟨⟨ty, c, pl, own⟩, hc, hw⟩ := hw
    simp only at hw
    split at hw
    · rename_i hs
      rw [okk] at hw; injection hw with e1 e2; subst e1; subst e2
      unfold firstA getC
      simp only [hc]
      rw [if_pos ⟨hp, hs⟩]
    · simp [no] at hw
  · rw [ite_no, okk] at hw
    obtain ⟨hcE, hw⟩ := hw
    injection hw with e1 e2; subst e1; subst e2
    unfold firstA
    simp only
    rw [if_pos ⟨hp, hcE⟩]
  · split at hw
    · rename_i hs
      rw [okk] at hw; injection hw with e1 e2; subst e1; subst e2
      unfold firstA
      simp only
      rw [if_pos hs]
    · simp [no] at hw
  · simp [no] at hw
theorem wAppend_ok {ρ : Operand → Value} {ts : List TypeId} {args : List Value} {h : AH} {p : Prop} {k : KT} (hw : wAppend P ρ ts args h = .ok (p, k)) (hp : p) : ∃ v h', k.sat v h' ∧ appendA P h ts args = .ok (v, h') := by
  unfold wAppend at hw
  split at hw
  · rename_i sT xT base len cap x
    simp only [bind_ok] at hw
    obtain ⟨d, hd, hw⟩ := hw
    split at hw
    · rename_i elem
      simp only [bind_ok] at hw
      obtain ⟨ei, hei, z, hz, isInt, hi, hw⟩ := hw
      rw [ite_no] at hw
      obtain ⟨hi2, hw⟩ := hw
      rw [ite_no] at hw
      obtain ⟨hs, hw⟩ := hw
      simp only [bind_ok] at hw
      obtain ⟨n, hn, ⟨pn, new⟩, hnew, hw⟩ := hw
      simp only at hw
      cases base with
      | some a =>
        simp only [bind_ok] at hw
        obtain ⟨⟨ty, c, pl, own⟩, hc, hw⟩ := hw
        simp only at hw
        rw [ite_no] at hw
        obtain ⟨hm, hw⟩ := hw
        rw [okk] at hw
        injection hw with e1 e2; subst e1; subst e2
        obtain ⟨p1, p2, p3, p4, p5⟩ := hp
        refine ⟨_, _, ⟨rfl, rfl⟩, ?_⟩
        have m1 : isU cap = true := by cases hq : isU cap with | true => rfl | false => exact absurd (.inl hq) hm
        have m2 : own = 2 := Decidable.byContradiction fun hh => hm (.inr (.inl hh))
        have m3 : cap = capU ei.size := Decidable.byContradiction fun hh => hm (.inr (.inr (.inl hh)))
        have m4 : ty = elem := Decidable.byContradiction fun hh => hm (.inr (.inr (.inr (.inl hh))))
        have m5 : a.spot = none := Decidable.byContradiction fun hh => hm (.inr (.inr (.inr (.inr hh))))
        have hf := wFirst_ok hnew p1
        have hold : firstA h ei.size len (.slice (some a) len cap) = .ok (cut0 c a.off (len * ei.size)) ∧ (cut0 c a.off (len * ei.size)).length = len * ei.size := by
          unfold firstA getC
          simp only [hc]
          cases ha : a.off with
          | zero =>
            rw [ha] at p2
            have p2 : c.length = len * ei.size := p2
            rw [if_pos ⟨by omega, m5⟩]
            refine ⟨?_, p2⟩
            show _ = Except.ok c
            rw [List.drop_zero, List.take_of_length_le (by omega)]
          | succ o =>
            rw [ha] at p2
            have p2 : o + 1 + len * ei.size ≤ c.length := p2
            rw [if_pos ⟨p2, m5⟩]
            refine ⟨rfl, ?_⟩
            show ((c.drop (o + 1)).take (len * ei.size)).length = _
            rw [List.length_take, List.length_drop]; omega
        unfold appendA
        simp only [hd, hei, hz, hi, hn, hf, hold.1, bind, Except.bind, Option.isNone_some, Bool.false_eq_true, false_and, if_false]
        rw [if_neg hi2, if_neg hs, if_neg (by rintro (hh | hh | hh | hh); omega; exact hh p4; exact hh hold.2; rw [p5] at hh; cases hh), if_pos m1]
        simp only [hc]
        rw [if_neg (by rintro (hh | hh | hh); exact hh m2; exact hh m3; exact hh m4)]
      | none =>
        simp only at hw
        rw [ite_no] at hw
        obtain ⟨hm, hw⟩ := hw
        rw [okk] at hw
        injection hw with e1 e2; subst e1; subst e2
        obtain ⟨p1, p3, p4, p5⟩ := hp
        have m1 : isU cap = false := by cases hq : isU cap with | false => rfl | true => exact absurd (.inl hq) hm
        have m2 : len = 0 := Decidable.byContradiction fun hh => hm (.inr (.inl hh))
        have m3 : cap = 0 := Decidable.byContradiction fun hh => hm (.inr (.inr hh))
        subst m2; subst m3
        have hf := wFirst_ok hnew p1
        have hold : firstA h ei.size 0 (.slice none 0 0) = .ok [] := by
          unfold firstA; simp [capE, capB]
        have hz0 : ei.size ≠ 0 := fun hh => hs (.inl hh)
        cases hn0 : (n == 0) with
        | true =>
          have hn0' : n = 0 := by simpa using hn0
          refine ⟨_, _, .inl ⟨rfl, rfl, rfl⟩, ?_⟩
          unfold appendA
          simp only [hd, hei, hz, hi, hn, hf, hold, bind, Except.bind]
          rw [if_neg (show ¬ ((none : Option Addr).isNone = true ∧ 0 = capE) from by decide), if_neg hi2, if_neg hs, if_neg (by rintro (hh | hh | hh | hh); omega; exact hh p4; simp at hh; rw [p5] at hh; cases hh), if_neg (by rw [m1]; simp), if_pos (by omega)]
          have : new = [] := by
            have : new.length = 0 := by rw [p4, hn0']; simp
            exact List.length_eq_zero_iff.1 this
          subst this
          simp [hn0']
        | false =>
          have hn0' : n ≠ 0 := by simpa using hn0
          refine ⟨_, _, .inr ⟨rfl, rfl, rfl⟩, ?_⟩
          unfold appendA
          simp only [hd, hei, hz, hi, hn, hf, hold, bind, Except.bind]
          rw [if_neg (show ¬ ((none : Option Addr).isNone = true ∧ 0 = capE) from by decide), if_neg hi2, if_neg hs, if_neg (by rintro (hh | hh | hh | hh); omega; exact hh p4; simp at hh; rw [p5] at hh; cases hh), if_neg (by rw [m1]; simp), if_neg (by omega), if_pos (by omega)]
    · simp [no] at hw
  · simp [no] at hw
theorem wAppendT_ok {ρ : Operand → Value} {ts : List TypeId} {args : List Value} {h : AH} {p : Prop} {k : KT} (hw : wAppendT P ρ ts args h = .ok (p, k)) (hp : p) : ∃ v h', k.sat v h' ∧ appendA P h ts args = .ok (v, h') := by
  unfold wAppendT at hw
  split at hw
  · rename_i sT xT a len cap x
    simp only [bind_ok] at hw
    obtain ⟨d, hd, hw⟩ := hw
    split at hw
    · rename_i elem
      simp only [bind_ok] at hw
      obtain ⟨ei, hei, z, hz, b, hi, hw⟩ := hw
      rw [ite_no] at hw
      obtain ⟨hi2, hw⟩ := hw
      rw [ite_no] at hw
      obtain ⟨hs, hw⟩ := hw
      simp only [bind_ok] at hw
      obtain ⟨n, hn, ⟨pn, new⟩, hnew, ⟨ty, c, pl, own⟩, hc, hw⟩ := hw
      simp only at hw
      rw [ite_no] at hw
      obtain ⟨hm, hw⟩ := hw
      rw [okk] at hw
      injection hw with e1 e2; subst e1; subst e2
      obtain ⟨p1, p2, p3, p4, p5⟩ := hp
      refine ⟨_, _, ⟨rfl, rfl⟩, ?_⟩
      have m1 : isU cap = true := by cases hq : isU cap with | true => rfl | false => exact absurd (.inl hq) hm
      have m2 : own = 2 := Decidable.byContradiction fun hh => hm (.inr (.inl hh))
      have m3 : cap = capU ei.size := Decidable.byContradiction fun hh => hm (.inr (.inr (.inl hh)))
      have m4 : ty = elem := Decidable.byContradiction fun hh => hm (.inr (.inr (.inr (.inl hh))))
      have m5 : a.spot = none := Decidable.byContradiction fun hh => hm (.inr (.inr (.inr (.inr hh))))
      have hf := wFirst_ok hnew p1
      have hold : firstA h ei.size len (.slice (some a) len cap) = .ok ((c.drop a.off).take (len * ei.size)) ∧ ((c.drop a.off).take (len * ei.size)).length = len * ei.size := by
        unfold firstA getC
        simp only [hc]
        rw [if_pos ⟨p2, m5⟩]
        refine ⟨rfl, ?_⟩
        rw [List.length_take, List.length_drop]; omega
      unfold appendA
      simp only [hd, hei, hz, hi, hn, hf, hold.1, bind, Except.bind, Option.isNone_some, Bool.false_eq_true, false_and, if_false]
      rw [if_neg hi2, if_neg hs, if_neg (by rintro (hh | hh | hh | hh); omega; exact hh p4; exact hh hold.2; rw [p5] at hh; cases hh), if_pos m1]
      simp only [hc]
      rw [if_neg (by rintro (hh | hh | hh); exact hh m2; exact hh m3; exact hh m4)]
    · simp [no] at hw
  · simp [no] at hw
theorem wConv_ok {ρ : Operand → Value} {o : Oper} {s d : TypeId} {x : Operand} {h : AH} {p : Prop} {k : KT} (hok : okOps P o = true) (ho : o.op = .convert s d x) (hw : wConv P ρ s d x h = .ok (p, k)) (hp : p) : ∃ v h', k.sat v h' ∧ Goes P ρ o h v h' := by
  unfold wConv at hw
  simp only [bind_ok] at hw
  obtain ⟨t1, h1, t2, h2, hw⟩ := hw
  split at hw
  · rename_i e a len cap hx
    simp only [bind_ok] at hw
    obtain ⟨t3, h3, hw⟩ := hw
    split at hw
    · simp only [bind_ok] at hw
      obtain ⟨⟨ty, c, pl, own⟩, hc, hw⟩ := hw
      simp only at hw
      rw [ite_no] at hw
      obtain ⟨hs, hw⟩ := hw
      rw [okk] at hw
      injection hw with e1 e2; subst e1; subst e2
      have hs' : a.spot = none := Decidable.byContradiction hs
      refine ⟨_, _, ⟨rfl, rfl⟩, read_goes hok ?_ ?_⟩
      · rw [ho]; unfold kindOf
        have : isSliceT P d = false := by
          unfold isSliceT
          unfold undA orNo at h2
          split at h2
          · rename_i hu; rw [okk] at h2; rw [hu, h2]
          · simp [no] at h2
        simp only [this, Bool.false_eq_true, if_false]
      · unfold readA
        simp only [ho, convA, h1, h2, hx, h3, bind, Except.bind, getC, hc, Option.isNone_some, Bool.false_eq_true, false_and, if_false]
        rw [if_pos ⟨hp.1, hs'⟩]
        simp only [hp.2]
    · simp [no] at hw
  · rename_i e s1 hx
    simp only [bind_ok] at hw
    obtain ⟨t3, h3, hw⟩ := hw
    split at hw
    · rw [okk] at hw
      injection hw with e1 e2; subst e1; subst e2
      refine ⟨_, _, ⟨rfl, rfl⟩, .inl ?_⟩
      have hk : kindOf P o.op = .alloc := by
        rw [ho]; unfold kindOf
        have : isSliceT P d = true := by
          unfold isSliceT
          unfold undA orNo at h2
          split at h2
          · rename_i hu; rw [okk] at h2; rw [hu, h2]
          · simp [no] at h2
        have hs' : isSliceT P s = false := by
          unfold isSliceT
          unfold undA orNo at h1
          split at h1
          · rename_i hu; rw [okk] at h1; rw [hu, h1]
          · simp [no] at h1
        simp only [this, hs', if_true, Bool.false_eq_true, if_false]
      unfold execA
      rw [hok, hk]
      simp only [Bool.not_true, Bool.false_eq_true, if_false, allocA, ho, h1, h2, hx, h3, bind, Except.bind]
      rw [if_neg (by omega)]
    · simp [no] at hw
  · simp [no] at hw
theorem wMakeSlice_ok {ρ : Operand → Value} {o : Oper} {t : TypeId} {x y : Operand} {h : AH} {p : Prop} {k : KT} (hok : okOps P o = true) (ho : o.op = .makeSlice t x y) (hw : wMakeSlice P ρ t x y h = .ok (p, k)) (hp : p) : ∃ v h', k.sat v h' ∧ Goes P ρ o h v h' := by
  unfold wMakeSlice at hw
  simp only [bind_ok] at hw
  obtain ⟨d, hd, hw⟩ := hw
  split at hw
  · simp only [bind_ok] at hw
    obtain ⟨l, hl, c, hc, ei, hei, hw⟩ := hw
    rw [ite_no] at hw
    obtain ⟨hb, hw⟩ := hw
    simp only [bind_ok] at hw
    obtain ⟨z, hz, hw⟩ := hw
    rw [ite_no] at hw
    obtain ⟨hzl, hw⟩ := hw
    rw [okk] at hw
    injection hw with e1 e2; subst e1; subst e2
    obtain ⟨p1, p2, p3⟩ := hp
    refine ⟨_, _, ⟨rfl, rfl⟩, .inl ?_⟩
    have hzl' : (cellsL z).length = ei.size := Decidable.byContradiction hzl
    unfold execA
    rw [hok, ho]
    simp only [Bool.not_true, Bool.false_eq_true, if_false, kindOf, allocA, ho, hd, hl, hc, hei, bind, Except.bind]
    rw [if_neg (by omega)]
    by_cases h0 : c.toNat * ei.size = 0
    · simp only [h0, if_true]
      have hr : ∀ (m : Nat) (zz : List Value), zz.length = 0 ∨ m = 0 → rep zz m = [] := by
        intro m zz hm
        induction m with
        | zero => rfl
        | succ m ih =>
          rcases hm with hm | hm
          · rw [rep, ih (.inl hm), List.length_eq_zero_iff.1 hm]; rfl
          · omega
      have hq : c.toNat = 0 ∨ ei.size = 0 := Nat.mul_eq_zero.1 h0
      simp only [ne_eq, not_true_eq_false, false_and, if_false]
      rw [hr _ [] (.inl rfl), hr _ (cellsL z) (by rcases hq with hq | hq; exact .inr hq; exact .inl (hzl'.trans hq))]
    · simp only [h0, if_false, hz]
      rw [if_neg (by rintro ⟨_, hh⟩; exact hh hzl')]
  · simp [no] at hw
theorem wLookup_ok {ρ : Operand → Value} {o : Oper} {t : TypeId} {x y : Operand} {c : Bool} {h : AH} {p : Prop} {k : KT} (hok : okOps P o = true) (ho : o.op = .lookup t x y c) (hw : wLookup P ρ t x y c h = .ok (p, k)) (hp : p) : ∃ v h', k.sat v h' ∧ Goes P ρ o h v h' := by
  unfold wLookup at hw
  simp only [bind_ok] at hw
  obtain ⟨d, hd, hw⟩ := hw
  split at hw
  · rename_i key elem
    split at hw
    · rename_i r hx
      simp only [bind_ok] at hw
      obtain ⟨⟨es, cl, own⟩, hm, dk, hdk, z, hz, v, hv, hw⟩ := hw
      rw [okk] at hw
      injection hw with e1 e2; subst e1; subst e2
      refine ⟨_, _, ⟨rfl, rfl⟩, read_goes hok (by rw [ho]; rfl) ?_⟩
      obtain ⟨p1, p2⟩ := hp
      unfold readA
      simp only [ho, lookA, hd, hx, hm, bind, Except.bind, findM, hdk, p1, orNo]
      cases hf : mFind dk (ρ y) es with
      | none =>
        rw [hf] at p2
        simp only [hz]
        unfold mVal at p2
        simp only at p2
        rw [p2]
        cases c <;> rfl
      | some q =>
        obtain ⟨i, u⟩ := q
        rw [hf] at p2
        unfold mVal at p2
        simp only at p2
        subst p2
        cases c <;> rfl
    · simp [no] at hw
  · simp [no] at hw
theorem mapSet_ok' {ρ : Operand → Value} {t : TypeId} {m k x : Operand} {h : AH} {p : Prop} {kt : KT} (hw : wMapSet P ρ t m k x h = .ok (p, kt)) (hp : p) : ∃ h', kt.sat undef h' ∧ mapSet P h t (ρ m) (ρ k) (ρ x) = .ok h' := by
  unfold wMapSet at hw
  simp only [bind_ok] at hw
  obtain ⟨d, hd, hw⟩ := hw
  split at hw
  · rename_i key elem r hx
    simp only [bind_ok] at hw
    obtain ⟨⟨es, cl, own⟩, hm, hw⟩ := hw
    simp only at hw
    rw [ite_no] at hw
    obtain ⟨ho, hw⟩ := hw
    simp only [bind_ok] at hw
    obtain ⟨dk, hdk, hw⟩ := hw
    rw [okk] at hw
    injection hw with e1 e2; subst e1; subst e2
    refine ⟨_, ⟨rfl, rfl⟩, ?_⟩
    unfold mapSet
    simp only [hd, hx, hm, bind, Except.bind, findM, hdk, hp, orNo]
    rw [if_neg ho]
    cases hf : mFind dk (ρ k) es with
    | none => rfl
    | some q => obtain ⟨i, u⟩ := q; rfl
  · simp [no] at hw
theorem wCopy_ok {ρ : Operand → Value} {ts : List TypeId} {args : List Value} {h : AH} {p : Prop} {k : KT} (hw : wCopy P ρ ts args h = .ok (p, k)) (hp : p) : ∃ v h', k.sat v h' ∧ builtinA P h .copy ts args = .ok (.value v, h') := by
  unfold wCopy at hw
  split at hw
  · rename_i t r a dLen dc src
    simp only [bind_ok] at hw
    obtain ⟨d, hd, hw⟩ := hw
    split at hw
    · rename_i elem
      simp only [bind_ok] at hw
      obtain ⟨sl, hsl, size, hsz, ⟨pn, cs⟩, hcs, ⟨ty, c, pl, own⟩, hc, hw⟩ := hw
      simp only at hw
      rw [ite_no] at hw
      obtain ⟨hm, hw⟩ := hw
      rw [okk] at hw
      injection hw with e1 e2; subst e1; subst e2
      obtain ⟨p1, p2, p3, p4⟩ := hp
      have m1 : own = 2 := Decidable.byContradiction fun hh => hm (.inl hh)
      have m2 : a.spot = none := Decidable.byContradiction fun hh => hm (.inr (.inl hh))
      have m3 : ¬ size = 0 := fun hh => hm (.inr (.inr hh))
      have hf := wFirst_ok hcs p1
      have hbase : builtinA P h .copy (t :: r) [.slice (some a) dLen dc, src] = (do let h ← storeC h a cs; .ok (.value (goInt (Nat.min sl dLen : Nat)), h)) := by
        unfold builtinA
        simp only [List.isEmpty_cons, Bool.false_eq_true, if_false, List.headD_cons, hd, hsl, hsz, hf, bind, Except.bind, Option.isNone_some, false_and]
      rw [hbase]
      cases hn : (Nat.min sl dLen == 0) with
      | true =>
        have hn0 : Nat.min sl dLen = 0 := by simpa using hn
        have hcs0 : cs = [] := List.length_eq_zero_iff.1 (by rw [p2, hn0]; simp)
        refine ⟨_, _, .inl ⟨rfl, rfl, rfl⟩, ?_⟩
        subst hcs0
        rw [hn0]
        rfl
      | false =>
        have hn0 : Nat.min sl dLen ≠ 0 := by simpa using hn
        have hcs0 : cs ≠ [] := by
          intro e
          rw [e] at p2
          have := p2.symm
          rw [List.length_nil, Nat.mul_eq_zero] at this
          rcases this with h1 | h1
          · exact hn0 h1
          · exact m3 h1
        refine ⟨_, _, .inr ⟨rfl, rfl, rfl⟩, ?_⟩
        have hst : storeC h a cs = .ok (putA h a.block (.cells ty (splice c a.off cs) pl 2)) := by
          unfold storeC
          split
          · exact absurd rfl hcs0
          · rw [hc]
            simp only
            rw [if_pos ⟨m1, p3, m2, p4⟩]
        rw [hst]
        rfl
    · simp [no] at hw
  · simp [no] at hw
theorem wUnsafeString_ok {ρ : Operand → Value} {ts : List TypeId} {args : List Value} {h : AH} {p : Prop} {k : KT} (hw : wUnsafeString P ρ ts args h = .ok (p, k)) (hp : p) : ∃ v h', k.sat v h' ∧ builtinA P h .unsafeString ts args = .ok (.value v, h') := by
  unfold wUnsafeString at hw
  split at hw
  · rename_i t r a kd n
    simp only [bind_ok] at hw
    obtain ⟨⟨ty, c, pl, own⟩, hc, d, hd, hw⟩ := hw
    simp only at hw
    split at hw
    · rename_i e hu
      rw [ite_no] at hw
      obtain ⟨hm, hw⟩ := hw
      rw [okk] at hw
      injection hw with e1 e2; subst e1; subst e2
      obtain ⟨p1, p2, p3, p4⟩ := hp
      have m1 : e = ty := Decidable.byContradiction fun hh => hm (.inl hh)
      have m2 : P.cellsOf ty = 1 := Decidable.byContradiction fun hh => hm (.inr (.inl hh))
      have m3 : ¬ own = 0 := fun hh => hm (.inr (.inr (.inl hh)))
      have m4 : a.spot = none := Decidable.byContradiction fun hh => hm (.inr (.inr (.inr hh)))
      cases hn : (n == 0) with
      | true =>
        have hn0 : n = 0 := by simpa using hn
        refine ⟨_, _, .inl ⟨rfl, rfl, rfl⟩, ?_⟩
        unfold builtinA
        simp only [List.isEmpty_cons, Bool.false_eq_true, if_false, intOfA, bind, Except.bind]
        rw [if_neg (by omega), if_pos hn0]
      | false =>
        have hn0 : n ≠ 0 := by simpa using hn
        refine ⟨_, _, .inr ⟨rfl, rfl, rfl⟩, ?_⟩
        have hg : getC h a n.toNat = .ok ((c.drop a.off).take n.toNat) := by
          unfold getC; rw [hc]; simp only; rw [if_pos ⟨p3, m4⟩]
        unfold builtinA
        simp only [List.isEmpty_cons, Bool.false_eq_true, if_false, intOfA, bind, Except.bind]
        rw [if_neg (by omega), if_neg hn0]
        simp only [hc]
        rw [if_neg m3]
        simp only [List.headD_cons, hd, hu]
        rw [if_neg (by rintro (hh | hh); exact hh m1; exact hh m2), hg]
        simp only [p4]
    · simp [no] at hw
  · simp [no] at hw
theorem wDelete_ok {ts : List TypeId} {args : List Value} {h : AH} {p : Prop} {k : KT} (hw : wDelete P ts args h = .ok (p, k)) (hp : p) : ∃ v h', k.sat v h' ∧ builtinA P h .delete ts args = .ok (.value v, h') := by
  unfold wDelete at hw
  split at hw
  · rename_i t r mr y
    simp only [bind_ok] at hw
    obtain ⟨d, hd, hw⟩ := hw
    split at hw
    · rename_i key elem
      simp only [bind_ok] at hw
      obtain ⟨⟨es, cl, own⟩, hm, hw⟩ := hw
      simp only at hw
      rw [ite_no] at hw
      obtain ⟨ho, hw⟩ := hw
      simp only [bind_ok] at hw
      obtain ⟨dk, hdk, hw⟩ := hw
      rw [okk] at hw
      injection hw with e1 e2; subst e1; subst e2
      refine ⟨_, _, ⟨rfl, rfl⟩, ?_⟩
      unfold builtinA
      simp only [List.isEmpty_cons, Bool.false_eq_true, if_false, List.headD_cons, deleteA, hd, hm, bind, Except.bind, findM, hdk, hp, orNo]
      rw [if_neg ho]
      cases hf : mFind dk y es with
      | none => rfl
      | some q => obtain ⟨i, u⟩ := q; rfl
    · simp [no] at hw
  · simp [no] at hw
theorem rep_oneC {z : List Value} (h : z.all oneC = true) : ∀ n, (rep z n).all oneC = true
  | 0 => rfl
  | n + 1 => by unfold rep; rw [List.all_append, h, rep_oneC h n]; rfl
theorem wClear_ok {ts : List TypeId} {args : List Value} {h : AH} {p : Prop} {k : KT} (hw : wClear P ts args h = .ok (p, k)) (hp : p) : ∃ v h', k.sat v h' ∧ builtinA P h .clear ts args = .ok (.value v, h') := by
  unfold wClear at hw
  split at hw
  · rename_i t r a n cc
    simp only [bind_ok] at hw
    obtain ⟨d, hd, hw⟩ := hw
    split at hw
    · rename_i elem
      simp only [bind_ok] at hw
      obtain ⟨z, hz, ⟨ty, c, pl, own⟩, hc, hw⟩ := hw
      simp only at hw
      rw [ite_no] at hw
      obtain ⟨hm, hw⟩ := hw
      rw [okk] at hw
      injection hw with e1 e2; subst e1; subst e2
      have m1 : own = 2 := Decidable.byContradiction fun hh => hm (.inl hh)
      have m2 : a.spot = none := Decidable.byContradiction fun hh => hm (.inr (.inl hh))
      have m3 : ¬ (cellsL z).isEmpty = true := fun hh => hm (.inr (.inr (.inl hh)))
      have m4 : (cellsL z).all oneC = true := by
        cases hq : (cellsL z).all oneC with
        | true => rfl
        | false => exact absurd (.inr (.inr (.inr hq))) hm
      have hbase : builtinA P h .clear (t :: r) [.slice (some a) n cc] = (do let h ← (if n = 0 then .ok h else storeC h a (rep (cellsL z) n) : M AH); .ok (.value (tupL []), h)) := by
        unfold builtinA
        simp only [List.isEmpty_cons, Bool.false_eq_true, if_false, List.headD_cons, clearA, hd, hz, bind, Except.bind]
      rw [hbase]
      cases hn : (n == 0) with
      | true =>
        have hn0 : n = 0 := by simpa using hn
        refine ⟨_, _, .inl ⟨rfl, rfl, rfl⟩, ?_⟩
        rw [if_pos hn0]
        rfl
      | false =>
        have hn0 : n ≠ 0 := by simpa using hn
        refine ⟨_, _, .inr ⟨rfl, rfl, rfl⟩, ?_⟩
        rw [if_neg hn0]
        have hne : rep (cellsL z) n ≠ [] := by
          cases n with
          | zero => exact absurd rfl hn0
          | succ n =>
            unfold rep
            intro e
            rw [List.append_eq_nil_iff] at e
            rw [e.1] at m3
            exact m3 rfl
        have hst : storeC h a (rep (cellsL z) n) = .ok (putA h a.block (.cells ty (splice c a.off (rep (cellsL z) n)) pl 2)) := by
          unfold storeC
          split
          · rename_i he; exact absurd he hne
          · rw [hc]
            simp only
            rw [if_pos ⟨m1, hp, m2, rep_oneC m4 n⟩]
        rw [hst]
        rfl
    · simp [no] at hw
  · simp [no] at hw
theorem opW_ok {ρ : Operand → Value} {o : Oper} {h : AH} {p : Prop} {k : KT} (hw : opW P ρ o h = .ok (p, k)) (hp : p) : ∃ v h', k.sat v h' ∧ Goes P ρ o h v h' := by
  unfold opW at hw
  rw [ite_no] at hw
  obtain ⟨hok, hw⟩ := hw
  have hok : okOps P o = true := by cases hq : okOps P o with | true => rfl | false => rw [hq] at hok; simp at hok
  have l1 : ∀ {x : M (Prop × Value × AH)}, lift1 x = .ok (p, k) → ∃ v h', x = .ok (p, v, h') ∧ k = .ret v h' := by
    intro x hx
    unfold lift1 at hx
    simp only [bind_ok] at hx
    obtain ⟨⟨p1, v, h'⟩, hx, e⟩ := hx
    rw [okk] at e
    injection e with e1 e2
    subst e1; subst e2
    exact ⟨v, h', hx, rfl⟩
  split at hw
  · rename_i t x ho
    obtain ⟨v, h', hx, rfl⟩ := l1 hw
    obtain ⟨hr, rfl⟩ := wLoad_ok ho hx hp
    exact ⟨v, h', ⟨rfl, rfl⟩, read_goes hok (by rw [ho]; rfl) hr⟩
  · rename_i t x y ho
    obtain ⟨v, h', hx, rfl⟩ := l1 hw
    obtain ⟨hr, rfl⟩ := wStore_ok ho hx hp
    exact ⟨undef, h', ⟨rfl, rfl⟩, .inr ⟨exec_eff hok (by rw [ho]; rfl) hr, rfl⟩⟩
  · rename_i t x y ho
    obtain ⟨v, h', hx, rfl⟩ := l1 hw
    obtain ⟨hr, rfl⟩ := wIndexAddr_ok ho hx hp
    exact ⟨v, h', ⟨rfl, rfl⟩, read_goes hok (by rw [ho]; rfl) hr⟩
  · rename_i t x y ho
    obtain ⟨v, h', hx, rfl⟩ := l1 hw
    obtain ⟨hr, rfl⟩ := wIndex_ok ho hx hp
    exact ⟨v, h', ⟨rfl, rfl⟩, read_goes hok (by rw [ho]; rfl) hr⟩
  · rename_i op t x y yt ho
    obtain ⟨v, h', hx, rfl⟩ := l1 hw
    obtain ⟨hr, rfl⟩ := wBin_ok ho hx hp
    exact ⟨v, h', ⟨rfl, rfl⟩, read_goes hok (by rw [ho]; rfl) hr⟩
  · rename_i t x lo hi mx ho
    obtain ⟨v, h', hx, rfl⟩ := l1 hw
    obtain ⟨hr, rfl⟩ := wSlice_ok ho hx hp
    exact ⟨v, h', ⟨rfl, rfl⟩, read_goes hok (by rw [ho]; rfl) hr⟩
  · rename_i args ats ho
    obtain ⟨v, h', hs, ha⟩ := wAppend_ok hw hp
    refine ⟨v, h', hs, .inl (exec_eff hok (by rw [ho]; rfl) ?_)⟩
    unfold effA
    simp only [ho, resolveA, bind, Except.bind, invokeA, builtinA]
    rw [ha]
  · rename_i args ats ho
    obtain ⟨v, h', hs, ha⟩ := wCopy_ok hw hp
    refine ⟨v, h', hs, .inl (exec_eff hok (by rw [ho]; rfl) ?_)⟩
    unfold effA
    simp only [ho, resolveA, bind, Except.bind, invokeA]
    exact ha
  · rename_i args ats ho
    obtain ⟨v, h', hs, ha⟩ := wUnsafeString_ok hw hp
    refine ⟨v, h', hs, .inl (exec_eff hok (by rw [ho]; rfl) ?_)⟩
    unfold effA
    simp only [ho, resolveA, bind, Except.bind, invokeA]
    exact ha
  · rename_i args ats ho
    obtain ⟨v, h', hs, ha⟩ := wDelete_ok hw hp
    refine ⟨v, h', hs, .inl (exec_eff hok (by rw [ho]; rfl) ?_)⟩
    unfold effA
    simp only [ho, resolveA, bind, Except.bind, invokeA]
    exact ha
  · rename_i args ats ho
    obtain ⟨v, h', hs, ha⟩ := wClear_ok hw hp
    refine ⟨v, h', hs, .inl (exec_eff hok (by rw [ho]; rfl) ?_)⟩
    unfold effA
    simp only [ho, resolveA, bind, Except.bind, invokeA]
    exact ha
  · rename_i args ats ho
    obtain ⟨v, h', hx, rfl⟩ := l1 hw
    unfold wSliceData at hx
    split at hx
    · rename_i a l c ha
      split at hx
      · rename_i hc
        rw [okk] at hx
        injection hx with e1 e2
        injection e2 with e2 e3
        subst e1; subst e2; subst e3
        refine ⟨_, _, ⟨rfl, rfl⟩, read_goes hok (by rw [ho]; rfl) ?_⟩
        unfold readA
        simp only [ho, hc.2, ha, Bool.false_eq_true, if_false]
        have hc0 : c ≠ 0 := by rintro rfl; exact absurd hc.1 (by decide)
        unfold readB
        exact if_pos ⟨hc0, .inr hp⟩
      · simp [no] at hx
    · simp [no] at hx
  · rename_i s d x ho
    exact wConv_ok hok ho hw hp
  · rename_i t l c ho
    exact wMakeSlice_ok hok ho hw hp
  · rename_i t x y c ho
    exact wLookup_ok hok ho hw hp
  · rename_i t m y x ho
    obtain ⟨h', hs, ha⟩ := mapSet_ok' hw hp
    refine ⟨undef, h', hs, .inr ⟨exec_eff hok (by rw [ho]; rfl) ?_, rfl⟩⟩
    unfold effA
    simp only [ho, bind, Except.bind, ha]
  · rename_i t m y x ho
    obtain ⟨h', hs, ha⟩ := mapSet_ok' hw hp
    refine ⟨undef, h', hs, .inr ⟨exec_eff hok (by rw [ho]; rfl) ?_, rfl⟩⟩
    unfold effA
    simp only [ho, bind, Except.bind, ha]
  · simp [no] at hw
theorem opT_ok {ρ : Operand → Value} {o : Oper} {h : AH} {p : Prop} {k : KT} (hw : opT P ρ o h = .ok (p, k)) (hp : p) : ∃ v h', k.sat v h' ∧ Goes P ρ o h v h' := by
  unfold opT at hw
  rw [ite_no] at hw
  obtain ⟨hok, hw⟩ := hw
  have hok : okOps P o = true := by cases hq : okOps P o with | true => rfl | false => rw [hq] at hok; simp at hok
  split at hw
  · rename_i args ats ho
    obtain ⟨v, h', hs, ha⟩ := wAppendT_ok hw hp
    refine ⟨v, h', hs, .inl (exec_eff hok (by rw [ho]; rfl) ?_)⟩
    unfold effA
    simp only [ho, resolveA, bind, Except.bind, invokeA, builtinA]
    rw [ha]
  · simp [no] at hw
end Go.Ev

namespace Go.Ev
set_option linter.unusedVariables false
set_option linter.unusedSimpArgs false
variable {η : Nat → Value} {P : Program} {B : Bd}

theorem Run.tm {fn : FuncId} {h0 h : AH} {f : AF} {cs : List AF} {Q : Value → AH → Prop} {tm : T Value} (hi : ∀ t, f.n ≤ t → tm.get t = none) (hg : ∀ t, inT tm t = inT f.tm t) (r : Run η P B fn h0 ⟨{ f with tm := tm }, cs, h⟩ Q) : Run η P B fn h0 ⟨f, cs, h⟩ Q := by
  intro ρ0 w0 ρ fr cs' w cs0 p0 p R
  have F := R.fr
  refine r ρ0 w0 ρ fr cs' w cs0 p0 p ⟨⟨F.fn, ⟨F.tm.1, hi, fun t ht => ?_⟩, F.todo, F.defers, F.mode, F.kind, F.round⟩, R.cs, R.pre⟩
  have := hg t
  unfold inT at this
  show VR η ρ ((tm.get t).getD undef) _
  rw [this]
  exact F.tm.2.2 t ht
/-- Whatever the other temporaries hold. -/
def RunD (η : Nat → Value) (P : Program) (B : Bd) (fn : FuncId) (h0 : AH) (keep : List Nat) (s : AS) (Q : Value → AH → Prop) : Prop :=
  ∀ tm', (∀ t, s.fr.n ≤ t → tm'.get t = none) → (∀ t, keep.contains t = true → inT tm' t = inT s.fr.tm t) → Run η P B fn h0 ⟨{ s.fr with tm := tm' }, s.cs, s.hp⟩ Q
def canonT (keep : List Nat) (tm : T Value) : Nat → T Value
  | 0 => .nil
  | n + 1 => (canonT keep tm n).set n (if keep.contains n then inT tm n else undef)
theorem canonT_get (keep : List Nat) (tm : T Value) : ∀ n t, (canonT keep tm n).get t = if t < n then some (if keep.contains t then inT tm t else undef) else none
  | 0, t => by rw [if_neg (by omega)]; rfl
  | n + 1, t => by
    rw [canonT, T.get_set, canonT_get keep tm n t]
    by_cases h : t = n
    · subst h; rw [if_pos rfl, if_pos (show t < t + 1 by omega)]
    · rw [if_neg h]
      by_cases h2 : t < n
      · rw [if_pos h2, if_pos (show t < n + 1 by omega)]
      · rw [if_neg h2, if_neg (show ¬ t < n + 1 by omega)]
/-- All of a row of temporaries. -/
def allT (n : Nat) (f : Nat → Value) : List Value := (List.range n).map f
theorem allT_eq {n : Nat} {f g : Nat → Value} (h : allT n f = allT n g) : ∀ t, t < n → f t = g t := by
  intro t ht
  have := congrArg (fun l => l[t]?) h
  simp only [allT, List.getElem?_map, List.getElem?_range ht, Option.map_some] at this
  injection this
theorem RunD.intro {fn : FuncId} {h0 : AH} {keep : List Nat} {s : AS} {Q : Value → AH → Prop} (S : (Nat → Value) → AS)
    (e1 : ∀ d, (S d).cs = s.cs ∧ (S d).hp = s.hp ∧ { (S d).fr with tm := s.fr.tm } = s.fr) (hi : ∀ d t, s.fr.n ≤ t → (S d).fr.tm.get t = none) (e2 : ∀ d, allT s.fr.n (inT (S d).fr.tm) = allT s.fr.n fun t => if keep.contains t then inT s.fr.tm t else d t) (r : ∀ d, Run η P B fn h0 (S d) Q) : RunD η P B fn h0 keep s Q := by
  intro tm' h1 h2
  have hr := r (inT tm')
  obtain ⟨c1, c2, c3⟩ := e1 (inT tm')
  have hn : (S (inT tm')).fr.n = s.fr.n := by rw [← c3]
  refine Run.tm (f := { s.fr with tm := tm' }) (tm := (S (inT tm')).fr.tm) (fun t ht => hi _ t ht) (fun t => ?_) ?_
  · show inT _ t = inT tm' t
    by_cases ht : t < s.fr.n
    · rw [allT_eq (e2 (inT tm')) t ht]
      cases hk : keep.contains t with
      | true => simp only [if_true]; exact (h2 t hk).symm
      | false => simp only [Bool.false_eq_true, if_false]
    · unfold inT
      rw [hi _ t (by omega), h1 t (by omega)]
  · have : (⟨{ ({ s.fr with tm := tm' } : AF) with tm := (S (inT tm')).fr.tm }, s.cs, s.hp⟩ : AS) = S (inT tm') := by
      rw [← c1, ← c2]
      have : ({ ({ s.fr with tm := tm' } : AF) with tm := (S (inT tm')).fr.tm } : AF) = (S (inT tm')).fr := by
        have h3 := congrArg (fun f : AF => ({ f with tm := (S (inT tm')).fr.tm } : AF)) c3
        simp only at h3
        exact h3.symm
      rw [this]
    rw [this]
    exact hr
theorem RunD.at {fn : FuncId} {h0 : AH} {keep : List Nat} {f : AF} {cs : List AF} {h : AH} {Q : Value → AH → Prop} (r : RunD η P B fn h0 keep ⟨{ f with tm := canonT keep f.tm f.n }, cs, h⟩ Q) (hi : ∀ t, f.n ≤ t → f.tm.get t = none) (hk : keep.all (fun t => decide (t < f.n)) = true) : Run η P B fn h0 ⟨f, cs, h⟩ Q := by
  refine r f.tm hi (fun t ht => ?_)
  have hlt : t < f.n := by
    have := List.all_eq_true.1 hk t (by simpa using ht)
    simpa using this
  unfold inT
  simp only [canonT_get, if_pos hlt, ht, if_true, Option.getD_some]
  rfl

def mapO {α : Type} (f : α → Option α) : List α → Option (List α)
  | [] => some []
  | x :: xs => match f x, mapO f xs with
    | some y, some ys => some (y :: ys)
    | _, _ => none
def renA (τ : Nat → Option Nat) (a : Addr) : Option Addr := (τ a.block).map fun r => ⟨r, a.off, a.spot⟩
def renV (τ : Nat → Option Nat) : Nat → Value → Option Value
  | 0, _ => none
  | n + 1, v => match v with
    | .pointer (some a) => some (match renA τ a with | some b => .pointer (some b) | none => .chan none)
    | .slice (some a) l c => some (match renA τ a with | some b => .slice (some b) l c | none => .chan none)
    | .map (some r) => some (match τ r with | some b => .map (some b) | none => .chan none)
    | .func (.yield l) a b => match τ l with
      | some r => match mapO (renV τ n) a.toList, mapO (renV τ n) b.toList with
        | some x, some y => some (.func (.yield r) ⟨x⟩ ⟨y⟩)
        | _, _ => none
      | none => some (.chan none)
    | .func f a b => match mapO (renV τ n) a.toList, mapO (renV τ n) b.toList with
      | some x, some y => some (.func f ⟨x⟩ ⟨y⟩)
      | _, _ => none
    | .iface t x => (renV τ n x).map (.iface t)
    | .agg l => (mapO (renV τ n) l.toList).map fun l => .agg ⟨l⟩
    | .tuple l => (mapO (renV τ n) l.toList).map fun l => .tuple ⟨l⟩
    | v => some v
theorem mapO_l2 {α : Type} {R : α → α → Prop} {f : α → Option α} (hf : ∀ x y, f x = some y → R y x) : ∀ {l m : List α}, mapO f l = some m → L2 R m l
  | [], m, h => by simp [mapO] at h; subst h; exact .nil
  | x :: xs, m, h => by
    unfold mapO at h
    split at h
    · rename_i y ys h1 h2; injection h with h; subst h; exact .cons (hf _ _ h1) (mapO_l2 hf h2)
    · cases h
theorem renV_ok {σ : Nat → Nat} {N : Nat} {τ : Nat → Option Nat} (hτ : ∀ r r', τ r = some r' → r' < N ∧ σ r' = r) : ∀ (n : Nat) {v v' : Value}, renV τ n v = some v' → RV σ N true v' v := by
  intro n
  induction n with
  | zero => intro v v' h; cases h
  | succ n ih =>
    intro v v' h
    have hL : ∀ {l m : List Value}, mapO (renV τ n) l = some m → L2 (RV σ N true) m l := fun h => mapO_l2 (R := RV σ N true) (fun x y hx => ih hx) h
    have hget : ∀ {l m : List Value}, L2 (RV σ N true) l m → l.length = m.length ∧ ∀ (i : Nat) (v x : Value), l[i]? = some v → m[i]? = some x → RV σ N true v x := by
      intro l m h2
      refine ⟨h2.len, fun i v x hv hx => ?_⟩
      obtain ⟨b, hb, hr⟩ := h2.get hv
      rw [hx] at hb; injection hb with hb; subst hb; exact hr
    unfold renV at h
    split at h
    · rename_i a
      injection h with h; subst h
      unfold renA
      cases ht : τ a.block with
      | none => exact .any rfl rfl
      | some r =>
        obtain ⟨h1, h2⟩ := hτ _ _ ht
        obtain ⟨b, o, s⟩ := a
        simp only at h2
        subst h2
        exact .ptr h1
    · rename_i a l c
      injection h with h; subst h
      unfold renA
      cases ht : τ a.block with
      | none => exact .any rfl rfl
      | some r =>
        obtain ⟨h1, h2⟩ := hτ _ _ ht
        obtain ⟨b, o, s⟩ := a
        simp only at h2
        subst h2
        exact .slice _ _ h1
    · rename_i r
      injection h with h; subst h
      cases ht : τ r with
      | none => exact .any rfl rfl
      | some r' =>
        obtain ⟨h1, h2⟩ := hτ _ _ ht
        subst h2
        exact .map h1
    · rename_i l a b
      cases ht : τ l with
      | none => rw [ht] at h; injection h with h; subst h; exact .any rfl rfl
      | some r =>
        rw [ht] at h
        obtain ⟨h1, h2⟩ := hτ _ _ ht
        subst h2
        simp only at h
        split at h
        · rename_i x y hx hy
          injection h with h; subst h
          obtain ⟨x1, x2⟩ := hget (hL hx)
          obtain ⟨y1, y2⟩ := hget (hL hy)
          exact .func (.yield h1) x1 y1 x2 y2
        · cases h
    · rename_i f a b hf
      split at h
      · rename_i x y hx hy
        injection h with h; subst h
        obtain ⟨x1, x2⟩ := hget (hL hx)
        obtain ⟨y1, y2⟩ := hget (hL hy)
        exact .func (.same fun l hl => hf l hl) x1 y1 x2 y2
      · cases h
    · rename_i t x
      cases hx : renV τ n x with
      | none => rw [hx] at h; cases h
      | some y => rw [hx] at h; injection h with h; subst h; exact .iface t (ih hx)
    · rename_i l
      cases hx : mapO (renV τ n) l.toList with
      | none => rw [hx] at h; cases h
      | some y =>
        rw [hx] at h; injection h with h; subst h
        obtain ⟨x1, x2⟩ := hget (hL hx)
        exact .agg x1 x2
    · rename_i l
      cases hx : mapO (renV τ n) l.toList with
      | none => rw [hx] at h; cases h
      | some y =>
        rw [hx] at h; injection h with h; subst h
        obtain ⟨x1, x2⟩ := hget (hL hx)
        exact .tuple x1 x2
    · rename_i h1 h2 h3 h4 h5 h6 h7 h8
      injection h with h; subst h
      cases v with
      | bool b => exact .bool b
      | int k n => exact .int k n
      | float k n => exact .float k n
      | complex k a b => exact .complex k a b
      | string s => exact .string s
      | pointer a => cases a with | none => exact .ptr0 | some a => exact absurd rfl (h1 a)
      | slice a l c => cases a with | none => exact .slice0 l c | some a => exact absurd rfl (h2 a l c)
      | map a => cases a with | none => exact .map0 | some a => exact absurd rfl (h3 a)
      | chan c => exact .chan c
      | func f a b => exact absurd rfl (h5 f a b)
      | nilFunc => exact .nilFunc
      | nilIface => exact .nilIface
      | iface t x => exact absurd rfl (h6 t x)
      | agg l => exact absurd rfl (h7 l)
      | tuple l => exact absurd rfl (h8 l)
/-- Values that name no block. -/
def bareN : Value → Bool
  | .bool _ | .int _ _ | .float _ _ | .complex _ _ _ | .string _ | .pointer none | .slice none _ _ | .map none | .nilFunc | .nilIface => true
  | _ => false
def NoNames (c : List Value) : Prop := ∀ v, v ∈ c → bareN v = true
def NoNamesE (es : List MapEntry) : Prop := ∀ e, e ∈ es → bareN e.key = true ∧ bareN e.val = true
theorem bareN_rv {σ : Nat → Nat} {N : Nat} {wk : Bool} {v : Value} (h : bareN v = true) : RV σ N wk v v := by
  unfold bareN at h
  split at h <;> first | exact .bool _ | exact .int _ _ | exact .float _ _ | exact .complex _ _ _ | exact .string _ | exact .ptr0 | exact .slice0 _ _ | exact .map0 | exact .nilFunc | exact .nilIface | cases h
/-- Nothing is told beyond the last temporary. -/
def tmOk (n : Nat) : T Value → Nat → Nat → Bool
  | .nil, _, _ => true
  | .node o l r, a, c => (o.isNone || decide (c < n)) && tmOk n l (2 * a) (a + c) && tmOk n r (2 * a) (2 * a + c)
theorem tmOk_at {n : Nat} : ∀ {t : T Value} {a c : Nat}, tmOk n t a c = true → ∀ i, n ≤ a * i + c → t.get i = none
  | .nil, _, _, _, _, _ => rfl
  | .node o l r, a, c, h, i, hi => by
    simp only [tmOk, Bool.and_eq_true, Bool.or_eq_true, decide_eq_true_eq, Option.isNone_iff_eq_none] at h
    unfold T.get
    by_cases h0 : i = 0
    · rw [if_pos h0]; subst h0
      rcases h.1.1 with h1 | h1
      · exact h1
      · omega
    · rw [if_neg h0]
      by_cases h1 : i % 2 = 1
      · rw [if_pos h1]
        refine tmOk_at h.1.2 _ ?_
        have hh : i = 2 * (i / 2) + 1 := by omega
        have : a * i = 2 * a * (i / 2) + a := by
          conv => lhs; rw [hh]
          rw [Nat.mul_add, Nat.mul_one, ← Nat.mul_assoc, Nat.mul_comm a 2]
        omega
      · rw [if_neg h1]
        refine tmOk_at h.2 _ ?_
        have hh : i = 2 * (i / 2 - 1) + 2 := by omega
        have : a * i = 2 * a * (i / 2 - 1) + 2 * a := by
          conv => lhs; rw [hh]
          rw [Nat.mul_add, ← Nat.mul_assoc, Nat.mul_comm a 2]
        omega
theorem tmOk_get {n : Nat} {t : T Value} (h : tmOk n t 1 0 = true) : ∀ i, n ≤ i → t.get i = none := fun i hi => tmOk_at h i (by omega)
def renT (τ : Nat → Option Nat) (keep : List Nat) (tm : T Value) : Nat → Option (T Value)
  | 0 => some .nil
  | n + 1 => match (if keep.contains n then renV τ 50 (inT tm n) else some undef), renT τ keep tm n with
    | some v, some t => some (t.set n v)
    | _, _ => none
theorem renT_ok {τ : Nat → Option Nat} {keep : List Nat} {tm : T Value} : ∀ {n : Nat} {t : T Value}, renT τ keep tm n = some t → (∀ i, n ≤ i → t.get i = none) ∧ ∀ i, i < n → keep.contains i = true → renV τ 50 (inT tm i) = some (inT t i)
  | 0, t, h => by simp only [renT] at h; injection h with h; subst h; exact ⟨fun _ _ => rfl, fun i hi => by omega⟩
  | n + 1, t, h => by
    unfold renT at h
    split at h
    · rename_i v t1 h1 h2
      injection h with h; subst h
      obtain ⟨k1, k2⟩ := renT_ok h2
      refine ⟨fun i hi => by rw [T.get_set, if_neg (by omega)]; exact k1 i (by omega), fun i hi hk => ?_⟩
      unfold inT
      rw [T.get_set]
      by_cases he : i = n
      · subst he; rw [if_pos rfl]; rw [if_pos hk] at h1; unfold inT at h1; rw [h1]; rfl
      · rw [if_neg he]; exact k2 i (by omega) hk
    · cases h
def renE (τ : Nat → Option Nat) (e : MapEntry) : Option MapEntry := match renV τ 50 e.key, renV τ 50 e.val with
  | some k, some v => some { e with key := k, val := v }
  | _, _ => none
def renO (τ : Nat → Option Nat) (open_ : Bool) : AObj → Option (AObj × Prop)
  | .cells ty c p own => if open_ then some (.cells ty c p own, NoNames c) else (mapO (renV τ 50) c).map fun c' => (.cells ty c' p own, True)
  | .map es k own => if open_ then some (.map es k own, NoNamesE es) else (mapO (renE τ) es).map fun es' => (.map es' k own, True)
  | .stringIter s p => some (.stringIter s p, True)
  | .mapIter none a b c => some (.mapIter none a b c, True)
  | .mapIter (some m) a b c => (τ m).map fun r => (.mapIter (some r) a b c, True)
  | .loop st pend fn tm n ps asg body ds => if tmOk n tm 1 0 then (match renT τ (List.range n) tm n, τ ds with
    | some tm', some ds' => some (.loop st pend fn tm' n ps asg body ds', True)
    | _, _ => none) else none
  | .deferred none => some (.deferred none, True)
  | .deferred (some []) => some (.deferred (some []), True)
  | _ => none
theorem renO_ok {σ : Nat → Nat} {N : Nat} {τ : Nat → Option Nat} (hτ : ∀ r r', τ r = some r' → r' < N ∧ σ r' = r) {op : Bool} {o o' : AObj} {p : Prop} (h : renO τ op o = some (o', p)) (hp : p) : RO σ N true o' o := by
  unfold renO at h
  split at h
  · rename_i ty c pl own
    cases op with
    | true =>
      simp only [if_true] at h
      injection h with h; injection h with e1 e2; subst e1; subst e2
      exact .cells ty pl (l2_same fun v hv => bareN_rv (hp v hv)) (.inl rfl)
    | false =>
      simp only [Bool.false_eq_true, if_false] at h
      cases hm : mapO (renV τ 50) c with
      | none => rw [hm] at h; cases h
      | some c' =>
        rw [hm] at h
        injection h with h; injection h with e1 e2; subst e1; subst e2
        exact .cells ty pl (mapO_l2 (R := RV σ N true) (fun x y hx => renV_ok hτ 50 hx) hm) (.inl rfl)
  · rename_i es k own
    cases op with
    | true =>
      simp only [if_true] at h
      injection h with h; injection h with e1 e2; subst e1; subst e2
      have key : ∀ {es : List MapEntry}, NoNamesE es → L2 (RE σ N true) es es := by
        intro es
        induction es with
        | nil => intro _; exact .nil
        | cons e es ih =>
          intro h
          have h1 := h e (by simp)
          exact .cons ⟨bareN_rv h1.1, bareN_rv h1.2, rfl⟩ (ih fun x hx => h x (by simp [hx]))
      exact .map k (key hp) (.inl rfl)
    | false =>
      simp only [Bool.false_eq_true, if_false] at h
      cases hm : mapO (renE τ) es with
      | none => rw [hm] at h; cases h
      | some c' =>
        rw [hm] at h
        injection h with h; injection h with e1 e2; subst e1; subst e2
        refine .map k (mapO_l2 (R := RE σ N true) (fun x y hx => ?_) hm) (.inl rfl)
        unfold renE at hx
        split at hx
        · rename_i a b ha hb
          injection hx with hx; subst hx
          exact ⟨renV_ok hτ 50 ha, renV_ok hτ 50 hb, rfl⟩
        · cases hx
  · injection h with h; injection h with e1 e2; subst e1; subst e2; exact .stringIter _ _
  · injection h with h; injection h with e1 e2; subst e1; subst e2; exact .mapIter0 _ _ _
  · rename_i m a b c
    cases ht : τ m with
    | none => rw [ht] at h; cases h
    | some r =>
      rw [ht] at h
      injection h with h; injection h with e1 e2; subst e1; subst e2
      obtain ⟨h1, h2⟩ := hτ _ _ ht
      subst h2
      exact .mapIter _ _ _ h1
  · rename_i st pend fn tm n ps asg body ds
    split at h
    · rename_i hok
      split at h
      · rename_i tm' ds' ht hd
        injection h with h; injection h with e1 e2; subst e1; subst e2
        obtain ⟨k1, k2⟩ := renT_ok ht
        obtain ⟨h1, h2⟩ := hτ _ _ hd
        subst h2
        exact .loop k1 (tmOk_get hok) (fun t ht => renV_ok hτ 50 (k2 t ht (by rw [List.contains_iff_mem]; exact List.mem_range.2 ht))) h1
      · cases h
    · cases h
  · injection h with h; injection h with e1 e2; subst e1; subst e2; exact .deferred0
  · injection h with h; injection h with e1 e2; subst e1; subst e2; exact .deferred1
  · cases h
/-- Other names: N names; (actual, new) ones; the blocks that are kept, (new, actual, are their data unknown?). -/
structure Rn where
  N : Nat
  τ : List (Nat × Nat)
  bl : List (Nat × Nat × Bool)
def Rn.sg (rn : Rn) (nb r : Nat) : Nat := if r < nb then r else ((rn.τ.find? fun p => p.2 == r).map (·.1)).getD r
def Rn.tf (rn : Rn) (nb a : Nat) : Option Nat := if a < nb then some a else (rn.τ.find? fun p => p.1 == a).map (·.2)
def nodupB : List Nat → Bool
  | [] => true
  | x :: xs => !xs.contains x && nodupB xs
def Rn.good (rn : Rn) (gs nb : Nat) : Bool :=
  decide (gs < nb) && decide (nb ≤ rn.N) && rn.τ.all (fun p => decide (nb ≤ p.2) && decide (p.2 < rn.N) && decide (nb ≤ p.1) && rn.sg nb p.2 == p.1) &&
    rn.bl.all (fun b => decide (b.1 < rn.N) && rn.sg nb b.1 == b.2.1) && nodupB (rn.bl.map (·.1)) && nodupB (rn.bl.map (·.2.1))
theorem Rn.tf_ok {rn : Rn} {gs nb : Nat} (h : rn.good gs nb = true) : ∀ r r', rn.tf nb r = some r' → r' < rn.N ∧ rn.sg nb r' = r := by
  intro r r' hr
  simp only [Rn.good, Bool.and_eq_true, decide_eq_true_eq] at h
  obtain ⟨⟨⟨⟨⟨h1, h2⟩, h3⟩, h4⟩, h5⟩, h6⟩ := h
  unfold Rn.tf at hr
  by_cases hlt : r < nb
  · rw [if_pos hlt] at hr; injection hr with hr; subst hr
    exact ⟨by omega, by unfold Rn.sg; rw [if_pos hlt]⟩
  · rw [if_neg hlt] at hr
    cases hf : rn.τ.find? (fun p => p.1 == r) with
    | none => rw [hf] at hr; cases hr
    | some q =>
      rw [hf] at hr; injection hr with hr; subst hr
      have hq := List.find?_some hf
      have hm := List.mem_of_find?_eq_some hf
      have := List.all_eq_true.1 h3 q hm
      simp only [Bool.and_eq_true, decide_eq_true_eq, beq_iff_eq] at this hq
      exact ⟨this.1.1.2, this.2.trans hq⟩
def renH (τ : Nat → Option Nat) (h : AH) : List (Nat × Nat × Bool) → Option (T AObj × Prop)
  | [] => some (.nil, True)
  | b :: l => match h.objs.get b.2.1 with
    | none => none
    | some o => match renO τ b.2.2 o, renH τ h l with
      | some (o', p), some (t, q) => some (t.set b.1 o', p ∧ q)
      | _, _ => none
theorem renH_ok {σ : Nat → Nat} {N : Nat} {τ : Nat → Option Nat} (hτ : ∀ r r', τ r = some r' → r' < N ∧ σ r' = r) {h : AH} : ∀ {l : List (Nat × Nat × Bool)} {t : T AObj} {p : Prop}, renH τ h l = some (t, p) → p → ∀ r o, t.get r = some o → ∃ b o', b ∈ l ∧ b.1 = r ∧ h.objs.get b.2.1 = some o' ∧ RO σ N true o o'
  | [], t, p, hr, hp, r, o, ho => by
    simp only [renH] at hr; injection hr with hr; injection hr with e1 e2; subst e1; cases ho
  | b :: l, t, p, hr, hp, r, o, ho => by
    unfold renH at hr
    cases hx : h.objs.get b.2.1 with
    | none => rw [hx] at hr; cases hr
    | some ob =>
      rw [hx] at hr
      simp only at hr
      split at hr
      · rename_i o' p1 t1 q1 h1 h2
        injection hr with hr; injection hr with e1 e2; subst e1; subst e2
        rw [T.get_set] at ho
        by_cases hb : r = b.1
        · rw [if_pos hb] at ho
          injection ho with ho; subst ho
          exact ⟨b, ob, by simp, hb.symm, hx, renO_ok hτ h1 hp.1⟩
        · rw [if_neg hb] at ho
          obtain ⟨b', o2, k1, k2, k3, k4⟩ := renH_ok hτ h2 hp.2 r o ho
          exact ⟨b', o2, by simp [k1], k2, k3, k4⟩
      · cases hr
theorem nodupB_inj {α : Type} {f : α → Nat} : ∀ {l : List α}, nodupB (l.map f) = true → ∀ {x y : α}, x ∈ l → y ∈ l → f x = f y → x = y
  | [], _, x, y, hx, _, _ => by cases hx
  | a :: l, h, x, y, hx, hy, e => by
    simp only [List.map_cons, nodupB, Bool.and_eq_true, Bool.not_eq_true'] at h
    have hn : ∀ z, z ∈ l → f z ≠ f a := by
      intro z hz he
      have : (l.map f).contains (f a) = true := by
        rw [List.contains_iff_mem]; exact List.mem_map.2 ⟨z, hz, he⟩
      rw [this] at h; cases h.1
    rcases List.mem_cons.1 hx with h1 | h1
    · rcases List.mem_cons.1 hy with h2 | h2
      · rw [h1, h2]
      · rw [h1] at e; exact absurd e.symm (hn _ h2)
    · rcases List.mem_cons.1 hy with h2 | h2
      · rw [h2] at e; exact absurd e (hn _ h1)
      · exact nodupB_inj h.2 h1 h2 e
theorem ren_emb {rn : Rn} {nb : Nat} {h : AH} {t : T AObj} {p : Prop} (hg : rn.good P.globals.size nb = true) (hr : renH (rn.tf nb) h rn.bl = some (t, p)) (hp : p) : Emb P (rn.sg nb) ⟨t, rn.N⟩ h := by
  have hτ := rn.tf_ok hg
  have key := renH_ok (N := rn.N) (σ := rn.sg nb) hτ hr hp
  simp only [Rn.good, Bool.and_eq_true, decide_eq_true_eq] at hg
  obtain ⟨⟨⟨⟨⟨h1, h2⟩, h3⟩, h4⟩, h5⟩, h6⟩ := hg
  have hb : ∀ b, b ∈ rn.bl → b.1 < rn.N ∧ rn.sg nb b.1 = b.2.1 := by
    intro b hb
    have := List.all_eq_true.1 h4 b hb
    simp only [Bool.and_eq_true, decide_eq_true_eq, beq_iff_eq] at this
    exact this
  refine ⟨fun g hgs => ⟨?_, ?_⟩, fun r a hr => ?_, fun r r' a a' hr hr' he => ?_⟩
  · show g < rn.N; omega
  · unfold Rn.sg; rw [if_pos (by omega)]
  · obtain ⟨b, o', k1, k2, k3, k4⟩ := key r a hr
    obtain ⟨l1, l2⟩ := hb b k1
    subst k2
    exact ⟨l1, o', by rw [l2]; exact k3, k4⟩
  · obtain ⟨b, _, k1, k2, _⟩ := key r a hr
    obtain ⟨b', _, k1', k2', _⟩ := key r' a' hr'
    subst k2; subst k2'
    rw [(hb b k1).2, (hb b' k1').2] at he
    rw [nodupB_inj (f := fun b : Nat × Nat × Bool => b.2.1) h6 k1 k1' he]
/-- Less is known of any value. -/
theorem weak_ex {σ : Nat → Nat} {N : Nat} (v : Value) : ∃ v0, RV σ N true v0 v := match v with
  | .agg l => by
    have h : ∀ m : List Value, (∀ x, x ∈ m → ∃ v0, RV σ N true v0 x) → ∃ m0, L2 (RV σ N true) m0 m := by
      intro m
      induction m with
      | nil => intro _; exact ⟨[], .nil⟩
      | cons x m ih =>
        intro hx
        obtain ⟨v0, hv⟩ := hx x (by simp)
        obtain ⟨m0, hm⟩ := ih fun y hy => hx y (by simp [hy])
        exact ⟨v0 :: m0, .cons hv hm⟩
    obtain ⟨m0, hm⟩ := h l.toList fun x hx => weak_ex x
    refine ⟨.agg ⟨m0⟩, .agg hm.len fun i v x hv hx => ?_⟩
    obtain ⟨b, hb, hr⟩ := hm.get hv
    rw [hx] at hb; injection hb with hb; subst hb; exact hr
  | .tuple l => by
    have h : ∀ m : List Value, (∀ x, x ∈ m → ∃ v0, RV σ N true v0 x) → ∃ m0, L2 (RV σ N true) m0 m := by
      intro m
      induction m with
      | nil => intro _; exact ⟨[], .nil⟩
      | cons x m ih =>
        intro hx
        obtain ⟨v0, hv⟩ := hx x (by simp)
        obtain ⟨m0, hm⟩ := ih fun y hy => hx y (by simp [hy])
        exact ⟨v0 :: m0, .cons hv hm⟩
    obtain ⟨m0, hm⟩ := h l.toList fun x hx => weak_ex x
    refine ⟨.tuple ⟨m0⟩, .tuple hm.len fun i v x hv hx => ?_⟩
    obtain ⟨b, hb, hr⟩ := hm.get hv
    rw [hx] at hb; injection hb with hb; subst hb; exact hr
  | .bool b => ⟨_, .bool b⟩
  | .int k n => ⟨_, .int k n⟩
  | .float k n => ⟨_, .float k n⟩
  | .complex k a b => ⟨_, .complex k a b⟩
  | .string s => ⟨_, .string s⟩
  | .pointer a => ⟨_, .any rfl rfl⟩
  | .slice a l c => ⟨_, .any rfl rfl⟩
  | .map a => ⟨_, .any rfl rfl⟩
  | .chan c => ⟨_, .chan c⟩
  | .func f a b => ⟨_, .any rfl rfl⟩
  | .nilFunc => ⟨_, .nilFunc⟩
  | .nilIface => ⟨_, .nilIface⟩
  | .iface t v => by obtain ⟨v0, h⟩ := weak_ex v; exact ⟨.iface t v0, .iface t h⟩
termination_by SizeOf.sizeOf v
decreasing_by
  · simp_wf
    have := List.sizeOf_lt_of_mem hx
    have h2 : SizeOf.sizeOf l = 1 + SizeOf.sizeOf l.toList := by cases l; rfl
    omega
  · simp_wf
    have := List.sizeOf_lt_of_mem hx
    have h2 : SizeOf.sizeOf l = 1 + SizeOf.sizeOf l.toList := by cases l; rfl
    omega
  · simp_wf
    omega
/-- A row of temporaries by their values. -/
def tabT (f : Nat → Value) : Nat → T Value
  | 0 => .nil
  | n + 1 => (tabT f n).set n (f n)
theorem tabT_get (f : Nat → Value) : ∀ n t, (tabT f n).get t = if t < n then some (f t) else none
  | 0, t => by rw [if_neg (by omega)]; rfl
  | n + 1, t => by
    rw [tabT, T.get_set, tabT_get f n t]
    by_cases h : t = n
    · subst h; rw [if_pos rfl, if_pos (show t < t + 1 by omega)]
    · rw [if_neg h]
      by_cases h2 : t < n
      · rw [if_pos h2, if_pos (show t < n + 1 by omega)]
      · rw [if_neg h2, if_neg (show ¬ t < n + 1 by omega)]
def isRun : FrameMode → Bool
  | .run => true
  | _ => false
def renI (τ : Nat → Option Nat) : Item → Option Item
  | .inRangeFunc l => (τ l).map .inRangeFunc
  | .endRangeFunc l => (τ l).map .endRangeFunc
  | .code c => some (.code c)
  | .inBlock i => some (.inBlock i)
  | .inLoop c => some (.inLoop c)
  | .inScope c => some (.inScope c)
  | .inRegion a b => some (.inRegion a b)
  | .beginRound => some .beginRound
  | _ => none
theorem renI_ok {σ : Nat → Nat} {N : Nat} {τ : Nat → Option Nat} (hτ : ∀ r r', τ r = some r' → r' < N ∧ σ r' = r) {x y : Item} (h : renI τ x = some y) : RI σ N y x := by
  unfold renI at h
  split at h
  · rename_i l
    rw [Option.map_eq_some_iff] at h
    obtain ⟨r, h1, rfl⟩ := h
    obtain ⟨h2, h3⟩ := hτ _ _ h1
    subst h3; exact .inRangeFunc h2
  · rename_i l
    rw [Option.map_eq_some_iff] at h
    obtain ⟨r, h1, rfl⟩ := h
    obtain ⟨h2, h3⟩ := hτ _ _ h1
    subst h3; exact .endRangeFunc h2
  · injection h with h; subst h; exact .code _
  · injection h with h; subst h; exact .inBlock _
  · injection h with h; subst h; exact .inLoop _
  · injection h with h; subst h; exact .inScope _
  · injection h with h; subst h; exact .inRegion _ _
  · injection h with h; subst h; exact .beginRound
  · cases h
def renD (τ : Nat → Option Nat) : Deferred → Option Deferred
  | { target := .collected r, args := ⟨[]⟩ } => (τ r).map fun r' => { target := .collected r', args := ⟨[]⟩ }
  | _ => none
theorem renD_ok {σ : Nat → Nat} {N : Nat} {τ : Nat → Option Nat} (hτ : ∀ r r', τ r = some r' → r' < N ∧ σ r' = r) {x y : Deferred} (h : renD τ x = some y) : RDf σ N y x := by
  unfold renD at h
  split at h
  · rename_i r
    rw [Option.map_eq_some_iff] at h
    obtain ⟨r', h1, rfl⟩ := h
    obtain ⟨h2, h3⟩ := hτ _ _ h1
    subst h3; exact .coll h2
  · cases h
def renRo (τ : Nat → Option Nat) : Option Nat → Option (Option Nat)
  | none => some none
  | some r => (τ r).map some
theorem renRo_ok {σ : Nat → Nat} {N : Nat} {τ : Nat → Option Nat} (hτ : ∀ r r', τ r = some r' → r' < N ∧ σ r' = r) {x y : Option Nat} (h : renRo τ x = some y) : RRo σ N y x := by
  cases x with
  | none => injection h with h; subst h; trivial
  | some r =>
    unfold renRo at h
    rw [Option.map_eq_some_iff] at h
    obtain ⟨r', h1, rfl⟩ := h
    obtain ⟨h2, h3⟩ := hτ _ _ h1
    exact ⟨h2, h3.symm⟩
/-- A frame under other names. -/
def renF (τ : Nat → Option Nat) (keep : List Nat) (f : AF) : Option AF :=
  if isRun f.mode then match renT τ keep f.tm f.n, mapO (renI τ) f.todo, mapO (renD τ) f.defers, renRo τ f.round with
    | some tm, some todo, some defers, some round => some { fn := f.fn, n := f.n, tm, todo, defers, mode := f.mode, kind := f.kind, round }
    | _, _, _, _ => none
  else none
theorem renF_ok {σ : Nat → Nat} {N : Nat} {τ : Nat → Option Nat} (hτ : ∀ r r', τ r = some r' → r' < N ∧ σ r' = r) {keep : List Nat} {f f' : AF} (h : renF τ keep f = some f') (tm : T Value) (hi : ∀ t, f.n ≤ t → tm.get t = none) (ht : ∀ t, t < f.n → RV σ N true (inT tm t) (inT f.tm t)) :
    RFr σ N { f' with tm := tm } f := by
  unfold renF at h
  split at h
  · rename_i hm
    split at h
    · rename_i tm1 todo defers round h1 h2 h3 h4
      injection h with h; subst h
      refine ⟨rfl, rfl, hi, ht, mapO_l2 (R := RI σ N) (fun x y hx => renI_ok hτ hx) h2, mapO_l2 (R := RDf σ N) (fun x y hx => renD_ok hτ hx) h3, ⟨rfl, ?_⟩, rfl, renRo_ok hτ h4⟩
      cases hm2 : f.mode with
      | run => exact .inl rfl
      | returning => exact .inr rfl
      | panicking c => rw [hm2] at hm; simp [isRun] at hm
    · cases h
  · cases h
theorem renF_tm {τ : Nat → Option Nat} {keep : List Nat} {f f' : AF} (h : renF τ keep f = some f') : renT τ keep f.tm f.n = some f'.tm ∧ f'.n = f.n := by
  unfold renF at h
  split at h
  · split at h
    · rename_i tm1 todo defers round h1 h2 h3 h4
      injection h with h; subst h
      exact ⟨h1, rfl⟩
    · cases h
  · cases h
def renC (τ : Nat → Option Nat) (f : AF) : Option AF := renF τ (List.range f.n) f
theorem renC_ok {σ : Nat → Nat} {N : Nat} {τ : Nat → Option Nat} (hτ : ∀ r r', τ r = some r' → r' < N ∧ σ r' = r) {f f' : AF} (h : renC τ f = some f') : RFr σ N f' f := by
  obtain ⟨h1, h2⟩ := renF_tm h
  obtain ⟨k1, k2⟩ := renT_ok h1
  exact renF_ok hτ h f'.tm k1 fun t ht => renV_ok hτ 50 (k2 t ht (by rw [List.contains_iff_mem]; exact List.mem_range.2 ht))
def renS (gs nb : Nat) (rn : Rn) (keep : List Nat) (s : AS) : Option (AS × Prop) :=
  if rn.good gs nb then
    match renF (rn.tf nb) keep s.fr, mapO (renC (rn.tf nb)) s.cs, renH (rn.tf nb) s.hp rn.bl with
    | some fr, some cs, some (t, p) => some (⟨fr, cs, ⟨t, rn.N⟩⟩, p)
    | _, _, _ => none
  else none
theorem RunD.renS (hη : OneCells η) {fn : FuncId} {h0 : AH} {rn : Rn} {keep : List Nat} {s s' : AS} {p : Prop} {Q : Value → AH → Prop} (h : renS P.globals.size h0.next rn keep s = some (s', p)) (hp : p) (r : RunD η P B fn h0 keep s' Q) : Run η P B fn h0 s Q := by
  unfold Go.Ev.renS at h
  split at h
  · rename_i c5
    split at h
    · rename_i fr cs t q h1 hcs h2
      injection h with h; injection h with e1 e2; subst e1; subst e2
      obtain ⟨f, cs0, hp0⟩ := s
      simp only at h1 hcs h2 r
      have hτ := rn.tf_ok c5
      have hgd := c5
      simp only [Rn.good, Bool.and_eq_true, decide_eq_true_eq] at hgd
      have hn : h0.next ≤ rn.N := hgd.1.1.1.1.2
      obtain ⟨ht, hnn⟩ := renF_tm h1
      obtain ⟨k1, k2⟩ := renT_ok ht
      have hw : ∀ i, ∃ v0, RV (rn.sg h0.next) rn.N true v0 (inT f.tm i) ∧ (i < f.n → keep.contains i = true → v0 = inT fr.tm i) := by
        intro i
        by_cases hk : i < f.n ∧ keep.contains i = true
        · exact ⟨inT fr.tm i, renV_ok hτ 50 (k2 i hk.1 hk.2), fun _ _ => rfl⟩
        · obtain ⟨v0, hv⟩ := weak_ex (σ := rn.sg h0.next) (N := rn.N) (inT f.tm i)
          exact ⟨v0, hv, fun h1 h2 => absurd ⟨h1, h2⟩ hk⟩
      let g : Nat → Value := fun i => Classical.choose (hw i)
      have hg : ∀ i, RV (rn.sg h0.next) rn.N true (g i) (inT f.tm i) ∧ (i < f.n → keep.contains i = true → g i = inT fr.tm i) := fun i => Classical.choose_spec (hw i)
      have hr := r (tabT g f.n) (fun i hi => by rw [tabT_get, if_neg (by simp only at hi; omega)]) (fun i hk => by
        show inT (tabT g f.n) i = inT fr.tm i
        by_cases hi : i < f.n
        · unfold inT; rw [tabT_get, if_pos hi]; exact (hg i).2 hi hk
        · unfold inT; rw [tabT_get, if_neg hi, k1 i (by omega)])
      refine Run.ren (f := { fr with tm := tabT g f.n }) (hs := ⟨t, rn.N⟩) hη (rn.sg h0.next) (ren_emb c5 h2 hp) hn (fun r hr => by unfold Rn.sg; rw [if_pos hr]) (renF_ok hτ h1 (tabT g f.n) (fun i hi => ?_) fun i hi => ?_) (mapO_l2 (R := RFr (rn.sg h0.next) rn.N) (fun x y hx => renC_ok hτ hx) hcs) hr
      · rw [tabT_get, if_neg (by omega)]
      · show RV _ _ _ (((tabT g f.n).get i).getD undef) _
        rw [tabT_get, if_pos (show i < f.n from hi)]
        exact (hg i).1
    · cases h
  · cases h
end Go.Ev

