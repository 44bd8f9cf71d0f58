/- Plain: what Join returns. -/
import Derived.Test.YtjjghagjigaljaaDoorRSplitP
namespace Go.Proofs.YtjjghagjigaljaaDoor
open Go.RowKit
/-- How a field is written. -/
def itemL (f : FL) : List UInt8 := if f.2 = true then quoteL f.1 else f.1
/-- A field that may not be written as it is. -/
def badF (f : FL) : Bool := !f.2 && !bareS f.1
def joinL (fs : List FL) : List UInt8 := (fs.flatMap fun f => 32 :: itemL f).drop 1
/-- P1.4: the error, and the line. -/
def joiE (fs : List FL) : Int := if longB fs = true then 3 else if fs.any badF = true then 6 else if 8192 < (joinL fs).length then 3 else 0
def joiS (fs : List FL) : List UInt8 := if joiE fs = 0 then joinL fs else []
theorem joi_long {fs : List FL} (h : longB fs = true) : joiE fs = 3 ∧ joiS fs = [] := by
  have : joiE fs = 3 := by unfold joiE; rw [if_pos h]
  exact ⟨this, by unfold joiS; rw [this]; rfl⟩
theorem joi_form {fs : List FL} (h : longB fs = false) (h1 : fs.any badF = true) : joiE fs = 6 ∧ joiS fs = [] := by
  have : joiE fs = 6 := by unfold joiE; rw [if_neg (by simp [h]), if_pos h1]
  exact ⟨this, by unfold joiS; rw [this]; rfl⟩
theorem joi_line {fs : List FL} (h : longB fs = false) (h1 : fs.any badF = false) (h2 : 8192 < (joinL fs).length) : joiE fs = 3 ∧ joiS fs = [] := by
  have : joiE fs = 3 := by unfold joiE; rw [if_neg (by simp [h]), if_neg (by rw [h1]; simp), if_pos h2]
  exact ⟨this, by unfold joiS; rw [this]; rfl⟩
theorem joi_ok {fs : List FL} (h : longB fs = false) (h1 : fs.any badF = false) (h2 : ¬ 8192 < (joinL fs).length) : joiE fs = 0 ∧ joiS fs = joinL fs := by
  have : joiE fs = 0 := by unfold joiE; rw [if_neg (by simp [h]), if_neg (by rw [h1]; simp), if_neg h2]
  exact ⟨this, by unfold joiS; rw [this]; rfl⟩
theorem joinL_snoc (fs : List FL) (f : FL) : joinL (fs ++ [f]) = joinL fs ++ ((if fs = [] then [] else [32]) ++ itemL f) := by
  unfold joinL
  cases fs with
  | nil => simp
  | cons g fs => simp [List.flatMap_cons, List.flatMap_append]
theorem flat4 (l : List UInt8) : (l.flatMap esc).length ≤ 4 * l.length := by
  induction l with
  | nil => simp
  | cons c l ih => have := esc_len c; rw [List.flatMap_cons, List.length_append, List.length_cons]; omega
theorem itemL_len (f : FL) : (itemL f).length ≤ 4 * f.1.length + 2 := by
  unfold itemL
  split
  · have := flat4 f.1
    unfold quoteL; rw [List.length_cons, List.length_append, List.length_cons, List.length_nil]; omega
  · omega
theorem joinL_len {M : Nat} (fs : List FL) (h : ∀ f ∈ fs, f.1.length ≤ M) : (joinL fs).length ≤ fs.length * (4 * M + 3) := by
  have : (fs.flatMap fun f => 32 :: itemL f).length ≤ fs.length * (4 * M + 3) := by
    induction fs with
    | nil => simp
    | cons f fs ih =>
      have h1 := h f (by simp)
      have h2 := ih (fun g hg => h g (by simp [hg]))
      have h3 := itemL_len f
      rw [List.flatMap_cons, List.length_append, List.length_cons, List.length_cons, Nat.succ_mul]
      omega
  unfold joinL; rw [List.length_drop]; omega
theorem bareS_iff {l : List UInt8} : bareS l = true ↔ l ≠ [] ∧ bareN l = l.length := by
  constructor
  · intro h
    unfold bareS at h
    rw [Bool.and_eq_true, List.all_eq_true] at h
    exact ⟨fun e => by simp [e] at h, bareN_of (fun c hc => h.2 c (List.mem_of_mem_take hc)) (Nat.le_refl _) (.inl rfl)⟩
  · rintro ⟨h0, h1⟩
    have := take_bareN l
    rw [h1, List.take_length] at this
    unfold bareS
    rw [Bool.and_eq_true, List.all_eq_true]
    exact ⟨by cases l <;> simp_all, this⟩
theorem longB_parts {fs : List FL} (h : longB fs = false) : fs.length ≤ 64 ∧ ∀ f ∈ fs, f.1.length ≤ 2000 := by
  unfold longB at h
  rw [Bool.or_eq_false_iff, List.any_eq_false] at h
  refine ⟨by have := h.1; simp at this; omega, fun f hf => by have := h.2 f hf; simp at this; omega⟩
theorem any_bad {fs : List FL} {k : Nat} (hk : k < fs.length) (h : badF fs[k] = true) : fs.any badF = true := List.any_eq_true.2 ⟨_, List.getElem_mem hk, h⟩
theorem none_bad {fs : List FL} (h : ∀ j (h : j < fs.length), badF fs[j] = false) : fs.any badF = false := by
  rw [List.any_eq_false]
  intro f hf
  obtain ⟨j, hj, rfl⟩ := List.mem_iff_getElem.1 hf
  rw [h j hj]; simp
end Go.Proofs.YtjjghagjigaljaaDoor
