/- Plain: the magnitude of a decimal form, byte by byte. -/
import Derived.Test.YtoknncoolmbklaaDoorPlain
namespace Go.Proofs.YtoknncoolmbklaaDoor
set_option linter.unusedVariables false
set_option linter.unusedSimpArgs false
open Go.RowKit

def mag (l : List UInt8) : Nat := decVal 0 (l.filter fun c => c != 45)
theorem decVal_append (a b : List UInt8) (acc : Nat) : decVal acc (a ++ b) = decVal (decVal acc a) b := by unfold decVal; rw [List.foldl_append]
theorem mag_minus (l : List UInt8) : mag (l ++ [45]) = mag l := by unfold mag; rw [List.filter_append]; simp
theorem mag_digit (l : List UInt8) (c : UInt8) (h : c ≠ 45) : mag (l ++ [c]) = mag l * 10 + (c.toNat - 48) := by
  unfold mag; rw [List.filter_append, decVal_append]; simp [h, decVal]
theorem mag_append_le (a b : List UInt8) : mag a ≤ mag (a ++ b) := by
  unfold mag; rw [List.filter_append, decVal_append]; exact decVal_le _ _
theorem filter_digits {l : List UInt8} (h : ∀ c ∈ l, digB c.toNat = true) : l.filter (fun c => c != 45) = l := by
  rw [List.filter_eq_self]
  intro c hc
  have := digB_iff.1 (h c hc)
  rw [bne_iff_ne]
  intro h'; rw [h'] at this; simp at this
theorem mag_neg {l : List UInt8} (h : decL l = true) (hm : l.head? = some 45) : decInt l = -(mag l : Int) := by
  cases l with
  | nil => simp at hm
  | cons c r =>
    obtain rfl : c = 45 := by simpa using hm
    unfold decL at h; rw [if_pos hm] at h
    simp only [List.tail_cons, Bool.and_eq_true] at h
    obtain ⟨_, _, hd⟩ := natL_iff.1 h.1
    unfold decInt mag
    rw [if_pos hm, List.tail_cons]
    have : (45 :: r).filter (fun c => c != 45) = r := by
      rw [List.filter_cons_of_neg (by simp)]; exact filter_digits hd
    rw [this]
theorem mag_pos {l : List UInt8} (h : decL l = true) (hm : l.head? ≠ some 45) : decInt l = (mag l : Int) := by
  unfold decL at h; rw [if_neg hm] at h
  obtain ⟨_, _, hd⟩ := natL_iff.1 h
  unfold decInt mag
  rw [if_neg hm, filter_digits hd]
theorem decL_bytes {l : List UInt8} (h : decL l = true) : ∀ c ∈ l, c = 45 ∨ digB c.toNat = true := by
  intro c hc
  unfold decL at h
  by_cases hm : l.head? = some 45
  · rw [if_pos hm] at h
    rw [Bool.and_eq_true] at h
    obtain ⟨_, _, hd⟩ := natL_iff.1 h.1
    cases l with
    | nil => simp at hm
    | cons a r =>
      rcases List.mem_cons.1 hc with rfl | hc
      · left; simpa using hm
      · exact .inr (hd c hc)
  · rw [if_neg hm] at h
    exact .inr ((natL_iff.1 h).2.2 c hc)
theorem decL_pos {l : List UInt8} (h : decL l = true) : l ≠ [] := by
  intro h'; subst h'; simp [decL, natL] at h
theorem take_snoc_data (s : ByteArray) (k : Nat) (h : k < s.size) : s.data.toList.take (k + 1) = s.data.toList.take k ++ [s[k]] := by
  rw [List.take_succ_eq_append_getElem (by simpa using h)]; rfl
theorem mag_take_le (s : ByteArray) (k : Nat) : mag (s.data.toList.take k) ≤ mag s.data.toList := by
  have := mag_append_le (s.data.toList.take k) (s.data.toList.drop k)
  rwa [List.take_append_drop] at this
end Go.Proofs.YtoknncoolmbklaaDoor
