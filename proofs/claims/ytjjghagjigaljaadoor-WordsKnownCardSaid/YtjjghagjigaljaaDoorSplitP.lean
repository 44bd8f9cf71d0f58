/- Plain: what Split returns. -/
import Derived.Test.YtjjghagjigaljaaDoorFieldP
namespace Go.Proofs.YtjjghagjigaljaaDoor
open Go.RowKit
def longB (fs : List FL) : Bool := decide (64 < fs.length) || fs.any fun f => decide (2000 < f.1.length)
/-- Whether the line consists of fields. -/
def formB (l : List UInt8) : Bool := (seqL l).all fun x => x.2
def allF (l : List UInt8) : List FL := (seqL l).map fun x => x.1
/-- P1.3: the error, and the fields. -/
def splE (l : List UInt8) : Int := if 8192 < l.length then 3 else if formB l = false then 6 else if longB (allF l) = true then 3 else 0
def splF (l : List UInt8) : List FL := if splE l = 0 then allF l else []
theorem splE_long {l : List UInt8} (h : 8192 < l.length) : splE l = 3 ∧ splF l = [] := by
  have : splE l = 3 := by unfold splE; rw [if_pos h]
  exact ⟨this, by unfold splF; rw [this]; rfl⟩
theorem splE_form {l : List UInt8} (h0 : ¬ 8192 < l.length) (h : formB l = false) : splE l = 6 ∧ splF l = [] := by
  have : splE l = 6 := by unfold splE; rw [if_neg h0, if_pos h]
  exact ⟨this, by unfold splF; rw [this]; rfl⟩
theorem splE_many {l : List UInt8} (h0 : ¬ 8192 < l.length) (h : formB l = true) (h1 : longB (allF l) = true) : splE l = 3 ∧ splF l = [] := by
  have : splE l = 3 := by unfold splE; rw [if_neg h0, if_neg (by simp [h]), if_pos h1]
  exact ⟨this, by unfold splF; rw [this]; rfl⟩
theorem splE_ok {l : List UInt8} (h0 : ¬ 8192 < l.length) (h : formB l = true) (h1 : longB (allF l) = false) : splE l = 0 ∧ splF l = allF l := by
  have : splE l = 0 := by unfold splE; rw [if_neg h0, if_neg (by simp [h]), if_neg (by simp [h1])]
  exact ⟨this, by unfold splF; rw [this]; rfl⟩
theorem seqC_len : ∀ (k : Nat) (l : List UInt8), l.length ≤ k → (seqC l).length ≤ l.length + 1 := by
  intro k
  induction k with
  | zero =>
    intro l hk
    by_cases ho : okAt l = true
    · have := okAt_iff.1 ho; have := fieldAt_le l; omega
    · rw [seqC_bad (by simpa using ho)]; simp
  | succ k ih =>
    intro l hk
    by_cases ho : okAt l = true
    · by_cases he : (fieldAt l).2 = l.length
      · rw [seqC_end ho he]; simp
      · rw [seqC_step ho he, List.length_cons]
        have := fieldAt_le l
        have hd : (l.drop ((fieldAt l).2 + 1)).length = l.length - ((fieldAt l).2 + 1) := List.length_drop
        have := ih (l.drop ((fieldAt l).2 + 1)) (by omega)
        omega
    · rw [seqC_bad (by simpa using ho)]; simp
theorem seqL_len (l : List UInt8) : (seqL l).length ≤ l.length + 1 := by
  unfold seqL; split
  · simp
  · exact seqC_len _ _ (Nat.le_refl _)
end Go.Proofs.YtjjghagjigaljaaDoor
