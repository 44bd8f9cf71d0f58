/- Plain arithmetic on decimal forms: no program. -/
import Derived.Test.YtjjghagjigaljaaDoorBase
import Derived.Lib.ParseIntB
import Derived.Lib.ItoaNum
import Derived.Lib.Strings
namespace Go.Proofs.YtjjghagjigaljaaDoor
open Go.RowKit

/-- The decimal form of a number that is not negative, of any size. -/
def natL (l : List UInt8) : Bool := decide (l ≠ []) && !(l.head? == some 48 && decide (1 < l.length)) && l.all fun c => digB c.toNat
/-- The decimal form of an integer of any size. -/
def decL (l : List UInt8) : Bool := if l.head? = some 45 then natL l.tail && decide (l.tail ≠ [48]) else natL l
def decVal (acc : Nat) (l : List UInt8) : Nat := l.foldl (fun a c => a * 10 + (c.toNat - 48)) acc
def decInt (l : List UInt8) : Int := if l.head? = some 45 then -(decVal 0 l.tail : Int) else decVal 0 l
def inI64 (v : Int) : Prop := -9223372036854775808 ≤ v ∧ v ≤ 9223372036854775807
instance (v : Int) : Decidable (inI64 v) := by unfold inI64; infer_instance
/-- P1.1: what Int returns. -/
def intV (l : List UInt8) (low high : Int) : Int := if decL l = true ∧ inI64 (decInt l) ∧ low ≤ decInt l ∧ decInt l ≤ high then decInt l else 0
def intE (l : List UInt8) (low high : Int) : Int := if decL l = true then (if inI64 (decInt l) ∧ low ≤ decInt l ∧ decInt l ≤ high then 0 else 7) else 6

theorem decVal_le (l : List UInt8) : ∀ acc, acc ≤ decVal acc l := by
  induction l with
  | nil => intro acc; exact Nat.le_refl _
  | cons c r ih => intro acc; have := ih (acc * 10 + (c.toNat - 48)); show acc ≤ decVal (acc * 10 + (c.toNat - 48)) r; omega

theorem digB_iff {c : UInt8} : digB c.toNat = true ↔ 48 ≤ c.toNat ∧ c.toNat ≤ 57 := by unfold digB; simp; omega

theorem parseM (l : List UInt8) : ∀ acc, (∀ c ∈ l, digB c.toNat = true) → acc ≤ 18446744073709551615 →
    Lib.parseUintM 18446744073709551615 acc l = if decVal acc l ≤ 18446744073709551615 then .ok (decVal acc l) else .range := by
  induction l with
  | nil => intro acc _ h; simp [Lib.parseUintM, decVal, h]
  | cons c r ih =>
    intro acc hd h
    have hc := digB_iff.1 (hd c (by simp))
    have e : decVal acc (c :: r) = decVal (acc * 10 + (c.toNat - 48)) r := rfl
    have hle := decVal_le r (acc * 10 + (c.toNat - 48))
    rw [e, Lib.parseUintM, if_pos hc]
    by_cases h1 : 1844674407370955162 ≤ acc
    · rw [if_pos h1, if_neg (by omega)]
    · rw [if_neg h1]
      by_cases h2 : 18446744073709551615 < acc * 10 + (c.toNat - 48)
      · rw [if_pos h2, if_neg (by omega)]
      · rw [if_neg h2]
        exact ih _ (fun x hx => hd x (by simp [hx])) (by omega)

theorem natL_iff {l : List UInt8} : natL l = true ↔ l ≠ [] ∧ ¬(l.head? = some 48 ∧ 1 < l.length) ∧ ∀ c ∈ l, digB c.toNat = true := by
  unfold natL
  rw [Bool.and_eq_true, Bool.and_eq_true, Bool.not_eq_true', Bool.and_eq_false_iff, decide_eq_true_iff, List.all_eq_true, and_assoc]
  have : (l.head? == some 48) = false ∨ decide (1 < l.length) = false ↔ ¬(l.head? = some 48 ∧ 1 < l.length) := by
    by_cases h1 : l.head? = some 48 <;> by_cases h2 : 1 < l.length <;> simp [h1, h2] <;> omega
  rw [this]

theorem parseB (l : List UInt8) (h : decL l = true) :
    Lib.parseIntB 64 l = if inI64 (decInt l) then .ok (decInt l) else .range := by
  cases l with
  | nil => simp [decL, natL] at h
  | cons c r =>
    unfold decL at h
    by_cases hc : c = 45
    · subst hc
      simp only [List.head?_cons, ↓reduceIte, List.tail_cons, Bool.and_eq_true] at h
      obtain ⟨h, h0⟩ := h
      obtain ⟨hne, _, hd⟩ := natL_iff.1 h
      have e : decInt (45 :: r) = -(decVal 0 r : Int) := by simp [decInt]
      unfold Lib.parseIntB
      rw [e]
      simp only [show (45 : UInt8).toNat = 45 from rfl, or_true, ↓reduceIte, not_true_eq_false, false_and, true_and]
      unfold Lib.parseUintB
      rw [if_neg hne, show (2 ^ 64 - 1 : Nat) = 18446744073709551615 from rfl, parseM r 0 hd (by omega)]
      by_cases hv : decVal 0 r ≤ 18446744073709551615
      · rw [if_pos hv]
        simp only
        by_cases hw : 2 ^ (64 - 1) < decVal 0 r
        · rw [if_pos hw, if_neg (by unfold inI64; omega)]
        · rw [if_neg hw, if_pos (by unfold inI64; omega)]
      · rw [if_neg hv]
        simp only
        rw [if_neg (by unfold inI64; omega)]
    · have hc' : (c :: r).head? ≠ some 45 := by simpa using hc
      rw [if_neg hc'] at h
      obtain ⟨hne, _, hd⟩ := natL_iff.1 h
      have hcd := digB_iff.1 (hd c (by simp))
      have e : decInt (c :: r) = (decVal 0 (c :: r) : Int) := by unfold decInt; rw [if_neg hc']
      unfold Lib.parseIntB
      rw [e]
      have n1 : ¬ c.toNat = 43 := by omega
      have n2 : ¬ c.toNat = 45 := by omega
      simp only [n1, n2, or_self, ↓reduceIte, not_false_eq_true, false_and, true_and]
      unfold Lib.parseUintB
      rw [if_neg hne, show (2 ^ 64 - 1 : Nat) = 18446744073709551615 from rfl, parseM _ 0 hd (by omega)]
      by_cases hv : decVal 0 (c :: r) ≤ 18446744073709551615
      · rw [if_pos hv]
        simp only
        by_cases hw : 2 ^ (64 - 1) ≤ decVal 0 (c :: r)
        · rw [if_pos hw, if_neg (by unfold inI64; omega)]
        · rw [if_neg hw, if_pos (by unfold inI64; omega)]
      · rw [if_neg hv]
        simp only
        rw [if_neg (by unfold inI64; omega)]

theorem data_getElem (s : ByteArray) (j : Nat) (h : j < s.size) : s.data.toList[j]'(by simpa using h) = s[j] := rfl
theorem mem_data {s : ByteArray} {c : UInt8} : c ∈ s.data.toList ↔ ∃ j, ∃ h : j < s.size, s[j] = c := by
  rw [List.mem_iff_getElem]
  constructor
  · rintro ⟨i, h, rfl⟩; exact ⟨i, by simpa using h, rfl⟩
  · rintro ⟨i, h, rfl⟩; exact ⟨i, by simpa using h, rfl⟩
theorem len_data (s : ByteArray) : s.data.toList.length = s.size := by simp
theorem head_data (s : ByteArray) (h : 0 < s.size) : s.data.toList.head? = some s[0] := by
  rw [List.head?_eq_getElem?, List.getElem?_eq_getElem (by simpa using h)]; rfl
theorem head_data_none (s : ByteArray) (h : s.size = 0) : s.data.toList = [] := by
  rw [← List.length_eq_zero_iff, len_data]; exact h
theorem data_ne (s : ByteArray) (h : 0 < s.size) : s.data.toList ≠ [] := by
  intro h'; have := len_data s; rw [h'] at this; simp at this; omega

theorem natL_data {s : ByteArray} : natL s.data.toList = true ↔ ∃ h : 0 < s.size, ¬(s[0].toNat = 48 ∧ 1 < s.size) ∧ ∀ j (hj : j < s.size), digB s[j].toNat = true := by
  rw [natL_iff, len_data]
  constructor
  · rintro ⟨h1, h2, h3⟩
    have h : 0 < s.size := by
      rcases Nat.eq_zero_or_pos s.size with h | h
      · exact absurd (head_data_none s h) h1
      · exact h
    refine ⟨h, ?_, fun j hj => h3 _ (mem_data.2 ⟨j, hj, rfl⟩)⟩
    rw [head_data s h] at h2
    intro ⟨a, b⟩
    exact h2 ⟨by rw [Option.some.injEq]; exact UInt8.toNat_inj.1 a, b⟩
  · rintro ⟨h, h2, h3⟩
    refine ⟨data_ne s h, ?_, ?_⟩
    · rw [head_data s h]
      rintro ⟨a, b⟩
      exact h2 ⟨by rw [Option.some.injEq] at a; rw [a]; rfl, b⟩
    · intro c hc
      obtain ⟨j, hj, rfl⟩ := mem_data.1 hc
      exact h3 j hj
end Go.Proofs.YtjjghagjigaljaaDoor
