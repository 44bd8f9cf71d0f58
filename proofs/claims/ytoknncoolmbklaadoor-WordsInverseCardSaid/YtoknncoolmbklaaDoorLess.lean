/- less of the package and of the reference compare two decimal forms, and number of the package reads one: conditions: Amb and a bound on the length for number. -/
import Derived.Test.YtoknncoolmbklaaDoorPlain
import Derived.Test.YtoknncoolmbklaaDoorName
import Derived.Test.YtoknncoolmbklaaDoorInt
import Derived.Test.YtoknncoolmbklaaDoorRInt
namespace Go.Proofs.YtoknncoolmbklaaDoor
set_option linter.unusedVariables false
set_option linter.unusedSimpArgs false
open Go.RowKit Go.Sort

theorem lessL_same {a b : ByteArray} (h : a.size = b.size) : Op.bytesLess a.toList b.toList = lessL a.data.toList b.data.toList := by
  unfold lessL
  rw [if_pos (by rw [len_data, len_data]; exact h), ByteArray.toList_eq, ByteArray.toList_eq]
theorem lessL_not {a b : ByteArray} (h : a.size ≠ b.size) : decide (a.size < b.size) = lessL a.data.toList b.data.toList := by
  unfold lessL
  rw [if_neg (by rw [len_data, len_data]; exact h), len_data, len_data]

theorem wLess (a b : ByteArray) (w : World) : Calls Tryd.prog 85 #[.string a, .string b] w fun e w' => e = .returned (.bool (lessL a.data.toList b.data.toList)) ∧ w = w' := by
  by_cases h : a.size = b.size
  · have HL := Lib.hid (lessL_same h)
    have h' : ((a.size : Int) == (b.size : Int)) = true := by simp [h]
    clear h
    go_enter Tryd.func85, Tryd.ntmps85
    go_wp2
    go_ret
    exact ⟨ret_bool HL.out, rfl⟩
  · have HL := Lib.hid (lessL_not h)
    have h' : ((a.size : Int) == (b.size : Int)) = false := by rw [beq_eq_false_iff_ne]; omega
    clear h
    go_enter Tryd.func85, Tryd.ntmps85
    go_wp2
    go_ret
    exact ⟨ret_bool HL.out, rfl⟩
theorem rLess (a b : ByteArray) (w : World) : Calls Tryd.prog 63 #[.string a, .string b] w fun e w' => e = .returned (.bool (lessL a.data.toList b.data.toList)) ∧ w = w' := by
  by_cases h : a.size = b.size
  · have HL := Lib.hid (lessL_same h)
    have h' : ((a.size : Int) == (b.size : Int)) = true := by simp [h]
    clear h
    go_enter Tryd.func63, Tryd.ntmps63
    go_wp2
    go_ret
    exact ⟨ret_bool HL.out, rfl⟩
  · have HL := Lib.hid (lessL_not h)
    have h' : ((a.size : Int) == (b.size : Int)) = false := by rw [beq_eq_false_iff_ne]; omega
    clear h
    go_enter Tryd.func63, Tryd.ntmps63
    go_wp2
    go_ret
    exact ⟨ret_bool HL.out, rfl⟩

theorem wNumber (s : ByteArray) (w : World) (ha : Amb w) (hs : s.size ≤ 281474976710656) :
    Calls Tryd.prog 61 #[.string s] w fun e w' => e = .returned (.tuple #[.int .i64 (intV s.data.toList 0 1000000000), .int .i64 (intE s.data.toList 0 1000000000)]) ∧ Below w.heap.size w w' := by
  have hw : IntKind.i64.wrap (intV s.data.toList 0 1000000000) = intV s.data.toList 0 1000000000 := by
    apply IntWalk.i64_in; unfold intV; split
    · rename_i h; unfold inI64 at h; omega
    · omega
  go_enter Tryd.func61, Tryd.ntmps61
  go_wp2_with fail
  refine (wInt s 0 1000000000 (by decide) (by decide) _ ha hs).mono ?_
  rintro e W1 ⟨rfl, b1⟩
  go_wp2_with fail
  go_ret2
  exact ⟨rfl, b1⟩

end Go.Proofs.YtoknncoolmbklaaDoor
