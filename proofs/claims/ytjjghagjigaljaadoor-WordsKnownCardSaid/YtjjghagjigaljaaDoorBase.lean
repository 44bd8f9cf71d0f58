/- Plain words for the contracts of layer 1: booleans of propositions, bytes, names. -/
import Derived.WalkKit
namespace Go.Proofs.YtjjghagjigaljaaDoor
open Go.RowKit

noncomputable def boolOf (p : Prop) : Bool := @decide p (Classical.propDecidable p)
theorem boolOf_true {p : Prop} (h : p) : boolOf p = true := by unfold boolOf; exact @decide_eq_true _ (Classical.propDecidable p) h
theorem boolOf_false {p : Prop} (h : ¬p) : boolOf p = false := by unfold boolOf; exact @decide_eq_false _ (Classical.propDecidable p) h
theorem boolOf_iff {p : Prop} {b : Bool} (h : b = true ↔ p) : boolOf p = b := by
  cases b with
  | true => exact boolOf_true (h.1 rfl)
  | false => exact boolOf_false (fun hp => by have := h.2 hp; simp at this)

theorem ret_bool {a b : Bool} (h : a = b) : Ending.returned (.bool a) = .returned (.bool b) := by rw [h]
theorem ret_int {k : IntKind} {a b : Int} (h : a = b) : Ending.returned (.int k a) = .returned (.int k b) := by rw [h]
theorem ret_str {a b : ByteArray} (h : a = b) : Ending.returned (.string a) = .returned (.string b) := by rw [h]

def lowB (c : Int) : Bool := decide (97 ≤ c) && decide (c ≤ 122)
def digB (c : Int) : Bool := decide (48 ≤ c) && decide (c ≤ 57)
def ncB (c : Int) : Bool := lowB c || digB c || decide (c = 45)
/-- A byte that stands for itself between quotes. -/
def plB (c : Int) : Bool := decide (32 ≤ c) && decide (c ≤ 126) && !decide (c = 34) && !decide (c = 92)

theorem isEmpty_of_pos (s : ByteArray) (h : 0 < s.size) : s.toList.isEmpty = false := by
  rw [ByteArray.toList_eq]
  cases hd : s.data.toList with
  | nil => simp [← ByteArray.size_data, ← Array.length_toList, hd] at h
  | cons a l => rfl
theorem isEmpty_of_zero (s : ByteArray) (h : s.size = 0) : s.toList.isEmpty = true := by
  rw [ByteArray.toList_eq]
  have : s.data.toList.length = 0 := by rw [Array.length_toList, ByteArray.size_data]; exact h
  rw [List.isEmpty_iff]; exact List.length_eq_zero_iff.1 this
theorem toList_nil_of_zero (s : ByteArray) (h : s.size = 0) : s.toList = [] := by
  have := isEmpty_of_zero s h
  simpa using this
theorem toList_ne_of_pos (s : ByteArray) (h : 0 < s.size) : ¬ s.toList = [] := by
  have := isEmpty_of_pos s h
  intro h'; simp [h'] at this

/-- P1.1: a name. -/
def nameP (s : ByteArray) : Prop := ∃ h : 0 < s.size, s.size ≤ 16 ∧ lowB s[0].toNat = true ∧ ∀ j (hj : j < s.size), ncB s[j].toNat = true
end Go.Proofs.YtjjghagjigaljaaDoor
