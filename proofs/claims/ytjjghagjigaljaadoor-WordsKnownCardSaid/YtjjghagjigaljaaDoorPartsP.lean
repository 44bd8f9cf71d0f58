/- Plain: the parts of a string, as the library's Split cuts them. -/
import Derived.Test.YtjjghagjigaljaaDoorParseP
import Derived.Lib.Split
import Derived.Lib.CountLaws
import Derived.Lib.SplitLaws
import Derived.Lib.IndexBytes
namespace Go.Proofs.YtjjghagjigaljaaDoor
open Go.RowKit
theorem partsC_miss (c : UInt8) (l : List UInt8) : ∀ cur, Lib.indexByte l c = -1 → partsC c cur l = [cur ++ l] := by
  induction l with
  | nil => intro cur _; simp [partsC]
  | cons a r ih =>
    intro cur h
    unfold Lib.indexByte at h
    by_cases ha : (a == c) = true
    · rw [if_pos ha] at h; simp at h
    · rw [if_neg ha] at h
      have hn : (Lib.indexByte r c == -1) = true := by
        by_cases hb : (Lib.indexByte r c == -1) = true
        · exact hb
        · rw [if_neg hb] at h
          have := Lib.indexByte_ge r c
          omega
      rw [beq_iff_eq] at ha hn
      unfold partsC
      rw [if_neg ha, ih _ hn]; simp
theorem partsC_cut (c : UInt8) (l : List UInt8) : ∀ cur, 0 ≤ Lib.indexByte l c → partsC c cur l = (cur ++ l.take (Lib.indexByte l c).toNat) :: partsL c (l.drop ((Lib.indexByte l c).toNat + 1)) := by
  induction l with
  | nil => intro cur h; simp [Lib.indexByte] at h
  | cons a r ih =>
    intro cur h
    unfold Lib.indexByte at h ⊢
    by_cases ha : (a == c) = true
    · rw [if_pos ha] at h ⊢
      rw [beq_iff_eq] at ha
      subst ha
      unfold partsC; rw [if_pos rfl]; simp [partsL]
    · rw [if_neg ha] at h ⊢
      have hn : ¬ (Lib.indexByte r c == -1) = true := by
        intro h'; rw [if_pos h'] at h; simp at h
      rw [if_neg hn] at h ⊢
      rw [beq_iff_eq] at ha hn
      have hg := Lib.indexByte_ge r c
      have h0 : 0 ≤ Lib.indexByte r c := by omega
      obtain ⟨n, hnn⟩ : ∃ n : Nat, Lib.indexByte r c = n := ⟨(Lib.indexByte r c).toNat, by omega⟩
      unfold partsC
      rw [if_neg ha, ih _ h0, hnn]
      have e : ((n : Int) + 1).toNat = n + 1 := by omega
      rw [e]
      simp
theorem indexB_one (s : ByteArray) (c : UInt8) : Lib.indexB s ⟨#[c]⟩ = Lib.indexByte s.data.toList c := Lib.index_one s.data.toList c
theorem splitB_parts (c : UInt8) : ∀ (k : Nat) (s : ByteArray), Lib.countB s ⟨#[c]⟩ = k → Lib.splitB ⟨#[c]⟩ 0 k s = (partsL c s.data.toList).map fun l => ⟨l.toArray⟩ := by
  intro k
  induction k with
  | zero =>
    intro s h
    have hi : Lib.indexByte s.data.toList c = -1 := by
      have hg := Lib.indexByte_ge s.data.toList c
      by_cases h0 : Lib.indexByte s.data.toList c = -1
      · exact h0
      · have := Lib.countB_hit s ⟨#[c]⟩ (Lib.indexByte s.data.toList c).toNat (Nat.le_refl _) (by rw [indexB_one]; omega)
        omega
    unfold partsL
    rw [partsC_miss c _ _ hi]; simp [Lib.splitB]
  | succ k ih =>
    intro s h
    have hg := Lib.indexByte_ge s.data.toList c
    have h0 : 0 ≤ Lib.indexByte s.data.toList c := by
      by_cases h1 : Lib.indexByte s.data.toList c = -1
      · have := Lib.countB_miss s ⟨#[c]⟩ (by rw [indexB_one]; exact h1)
        omega
      · omega
    obtain ⟨n, hn⟩ : ∃ n : Nat, Lib.indexByte s.data.toList c = n := ⟨(Lib.indexByte s.data.toList c).toNat, by omega⟩
    have hc := Lib.countB_hit s ⟨#[c]⟩ n (Nat.le_refl _) (by rw [indexB_one]; exact hn)
    unfold Lib.splitB partsL
    rw [partsC_cut c _ _ h0, indexB_one, hn, if_neg (by simp)]
    have e1 : ((n : Int)).toNat = n := by omega
    have e2 : (⟨#[c]⟩ : ByteArray).size = 1 := rfl
    rw [e1, e2, ih _ (by rw [e2] at hc; omega), List.map_cons]
    congr 1
    · simp only [List.nil_append, Nat.add_zero]
      rw [show s.data.toList.take n = (s.extract 0 n).data.toList by rw [Lib.extract_data]; simp]
    · rw [Lib.extract_data, List.take_of_length_le (by simp)]
theorem partsC_pos (c : UInt8) (l : List UInt8) : ∀ cur, partsC c cur l ≠ [] := by
  induction l with
  | nil => intro cur; simp [partsC]
  | cons a r ih => intro cur; unfold partsC; split <;> simp [ih]
theorem parts_len (c : UInt8) (l : List UInt8) : ∀ cur, (partsC c cur l).length ≤ l.length + 1 := by
  induction l with
  | nil => intro cur; simp [partsC]
  | cons a r ih =>
    intro cur; unfold partsC; split
    · have := ih []; simp; omega
    · have := ih (cur ++ [a]); simp; omega
theorem parts_each (c : UInt8) (l : List UInt8) : ∀ cur, ∀ p ∈ partsC c cur l, p.length ≤ cur.length + l.length := by
  induction l with
  | nil => intro cur p hp; simp [partsC] at hp; simp [hp]
  | cons a r ih =>
    intro cur p hp
    unfold partsC at hp
    split at hp
    · rcases List.mem_cons.1 hp with rfl | hp
      · omega
      · have := ih [] p hp; simp at *; omega
    · have := ih _ p hp; simp at *; omega
theorem partsC_count (c : UInt8) (l : List UInt8) : ∀ cur, (partsC c cur l).length = l.count c + 1 := by
  induction l with
  | nil => intro cur; simp [partsC]
  | cons a r ih =>
    intro cur; unfold partsC
    by_cases h : a = c
    · subst h; rw [if_pos rfl, List.length_cons, ih, List.count_cons_self]
    · rw [if_neg h, ih, List.count_cons_of_ne (by simpa using h)]
theorem countB_parts (c : UInt8) (s : ByteArray) : Lib.countB s ⟨#[c]⟩ + 1 = (partsL c s.data.toList).length := by
  unfold partsL
  rw [partsC_count]
  have := Lib.count_one c s.data.toList
  show Lib.count s.data.toList [c] + 1 = _
  rw [this]
end Go.Proofs.YtjjghagjigaljaaDoor
