/- Plain: the lines of a text. -/
import Derived.Test.YtjjghagjigaljaaDoorBase
import Derived.Lib.IndexMore
import Derived.Lib.IndexBytes
import Derived.Lib.Strings
namespace Go.Proofs.YtjjghagjigaljaaDoor
open Go.RowKit

/-- The lines that end in what is left; cur: what has been read of the first one. -/
def linesC : List UInt8 → List UInt8 → List (List UInt8)
  | _, [] => []
  | cur, c :: r => if c = 10 then cur :: linesC [] r else linesC (cur ++ [c]) r
def linesL (l : List UInt8) : List (List UInt8) := linesC [] l
/-- P1.5: the error, and the lines. -/
def linE (l : List UInt8) : Int := if 1048576 < l.length then 3 else if l ≠ [] ∧ l.getLast? ≠ some 10 then 6 else if 5000 < (linesL l).length then 3 else 0
def linF (l : List UInt8) : List (List UInt8) := if linE l = 0 then linesL l else []
theorem lin_long {l : List UInt8} (h : 1048576 < l.length) : linE l = 3 ∧ linF l = [] := by
  have : linE l = 3 := by unfold linE; rw [if_pos h]
  exact ⟨this, by unfold linF; rw [this]; rfl⟩
theorem lin_form {l : List UInt8} (h : ¬ 1048576 < l.length) (h1 : l ≠ [] ∧ l.getLast? ≠ some 10) : linE l = 6 ∧ linF l = [] := by
  have : linE l = 6 := by unfold linE; rw [if_neg h, if_pos h1]
  exact ⟨this, by unfold linF; rw [this]; rfl⟩
theorem lin_many {l : List UInt8} (h : ¬ 1048576 < l.length) (h1 : ¬ (l ≠ [] ∧ l.getLast? ≠ some 10)) (h2 : 5000 < (linesL l).length) : linE l = 3 ∧ linF l = [] := by
  have : linE l = 3 := by unfold linE; rw [if_neg h, if_neg h1, if_pos h2]
  exact ⟨this, by unfold linF; rw [this]; rfl⟩
theorem lin_ok {l : List UInt8} (h : ¬ 1048576 < l.length) (h1 : ¬ (l ≠ [] ∧ l.getLast? ≠ some 10)) (h2 : ¬ 5000 < (linesL l).length) : linE l = 0 ∧ linF l = linesL l := by
  have : linE l = 0 := by unfold linE; rw [if_neg h, if_neg h1, if_neg h2]
  exact ⟨this, by unfold linF; rw [this]; rfl⟩

theorem linesC_len (l : List UInt8) : ∀ cur, (linesC cur l).length = Lib.countByte l 10 := by
  unfold Lib.countByte
  induction l with
  | nil => intro cur; rfl
  | cons c r ih =>
    intro cur
    unfold linesC
    by_cases h : c = 10
    · subst h; rw [if_pos rfl, List.length_cons, ih, List.count_cons_self]
    · rw [if_neg h, ih, List.count_cons_of_ne (by simpa using h)]
theorem linesL_len (l : List UInt8) : (linesL l).length = Lib.countByte l 10 := linesC_len l []
theorem linesL_le (l : List UInt8) : (linesL l).length ≤ l.length := by rw [linesL_len]; exact List.count_le_length
theorem suffix_last (l : List UInt8) : Lib.hasSuffix l [10] = decide (l.getLast? = some 10) := by
  unfold Lib.hasSuffix
  rw [Bool.eq_iff_iff, decide_eq_true_iff, List.isSuffixOf_iff_suffix]
  constructor
  · rintro ⟨t, rfl⟩; simp
  · intro h
    obtain ⟨ys, rfl⟩ := List.getLast?_eq_some_iff.1 h
    exact ⟨ys, rfl⟩

theorem idx_nonneg (l : List UInt8) : l.getLast? = some 10 → 0 ≤ Lib.indexByte l 10 ∧ (Lib.indexByte l 10).toNat < l.length := by
  induction l with
  | nil => simp
  | cons a r ih =>
    intro h
    unfold Lib.indexByte
    by_cases ha : (a == 10) = true
    · rw [if_pos ha]; simp
    · rw [if_neg ha]
      cases r with
      | nil => simp at h ha; exact absurd h ha
      | cons b r =>
        have := ih (by simpa using h)
        rw [if_neg (by simp; omega)]
        rw [List.length_cons]
        omega
/-- The first line is cut off. -/
theorem linesC_cut (l : List UInt8) : ∀ cur, 0 ≤ Lib.indexByte l 10 → linesC cur l = (cur ++ l.take (Lib.indexByte l 10).toNat) :: linesL (l.drop ((Lib.indexByte l 10).toNat + 1)) := by
  induction l with
  | nil => intro cur h; simp [Lib.indexByte] at h
  | cons a r ih =>
    intro cur h
    unfold Lib.indexByte at h ⊢
    by_cases ha : (a == 10) = true
    · rw [if_pos ha] at h ⊢
      rw [beq_iff_eq] at ha
      subst ha
      unfold linesC; rw [if_pos rfl]; simp [linesL]
    · rw [if_neg ha] at h ⊢
      have hn : ¬ (Lib.indexByte r 10 == -1) = true := by
        intro h'; rw [if_pos h'] at h; simp at h
      rw [if_neg hn] at h ⊢
      rw [beq_iff_eq] at ha hn
      have hg := Lib.indexByte_ge r 10
      have h0 : 0 ≤ Lib.indexByte r 10 := by omega
      obtain ⟨n, hnn⟩ : ∃ n : Nat, Lib.indexByte r 10 = n := ⟨(Lib.indexByte r 10).toNat, by omega⟩
      unfold linesC
      rw [if_neg ha, ih _ h0, hnn]
      have e : ((n : Int) + 1).toNat = n + 1 := by omega
      rw [e]
      simp
/-- What Cut returns of a text that ends in a newline. -/
theorem cut_line {l : List UInt8} (h : l.getLast? = some 10) : ∃ a b, Lib.cut l [10] = (a, b, true) ∧ linesL l = a :: linesL b ∧ b.length < l.length ∧ a.length ≤ l.length ∧ (b = [] ∨ b.getLast? = some 10) := by
  obtain ⟨h0, h1⟩ := idx_nonneg l h
  refine ⟨l.take (Lib.indexByte l 10).toNat, l.drop ((Lib.indexByte l 10).toNat + 1), ?_, ?_, ?_, ?_, ?_⟩
  · unfold Lib.cut; rw [Lib.index_one, if_pos h0]; rfl
  · have := linesC_cut l [] h0
    simpa [linesL] using this
  · rw [List.length_drop]; omega
  · rw [List.length_take]; omega
  · by_cases hb : l.drop ((Lib.indexByte l 10).toNat + 1) = []
    · exact .inl hb
    · right
      rw [List.getLast?_drop, if_neg (by intro h2; exact hb (List.drop_eq_nil_of_le h2))]
      exact h

/-- The reference's walk from byte to byte: from: where the line begins, i: where it is. -/
def Upto (l : List UInt8) (i : Nat) (fr : Nat) (out : List (List UInt8)) : Prop := linesL l = out ++ linesC ((l.drop fr).take (i - fr)) (l.drop i)
theorem upto_start (l : List UInt8) : Upto l 0 0 [] := by unfold Upto linesL; simp
theorem upto_line {l : List UInt8} {i fr : Nat} {out : List (List UInt8)} (h : Upto l i fr out) (hi : i < l.length) (hc : l[i] = 10) : Upto l (i + 1) (i + 1) (out ++ [(l.drop fr).take (i - fr)]) := by
  unfold Upto at h ⊢
  rw [h, List.drop_eq_getElem_cons hi, linesC, if_pos hc]
  simp
theorem upto_other {l : List UInt8} {i fr : Nat} {out : List (List UInt8)} (h : Upto l i fr out) (hf : fr ≤ i) (hi : i < l.length) (hc : l[i] ≠ 10) : Upto l (i + 1) fr out := by
  unfold Upto at h ⊢
  rw [h, List.drop_eq_getElem_cons hi, linesC, if_neg hc]
  congr 1
  rw [show i + 1 - fr = (i - fr) + 1 by omega, List.take_add_one, List.getElem?_drop, show fr + (i - fr) = i by omega, List.getElem?_eq_getElem hi]
  simp
theorem upto_end {l : List UInt8} {i fr : Nat} {out : List (List UInt8)} (h : Upto l i fr out) (hi : l.length ≤ i) : linesL l = out := by
  unfold Upto at h
  rw [h, List.drop_eq_nil_of_le hi]; simp [linesC]
end Go.Proofs.YtjjghagjigaljaaDoor
