/- Plain: the fields of a line. -/
import Derived.Test.YtjjghagjigaljaaDoorQuoteP
namespace Go.Proofs.YtjjghagjigaljaaDoor
open Go.RowKit

def bareB (c : UInt8) : Bool := plB c.toNat && decide (c ≠ 32)
def bareN (l : List UInt8) : Nat := (l.takeWhile bareB).length
/-- A field: its string, and whether it is quoted. -/
abbrev FL := List UInt8 × Bool
/-- The field at the beginning, and how many bytes it has (0: there is none). -/
def fieldAt (l : List UInt8) : FL × Nat := if l.head? = some 34 then ((rqT l, true), (rqN l).toNat) else ((l.take (bareN l), false), bareN l)
def okAt (l : List UInt8) : Bool := decide ((fieldAt l).2 ≠ 0) && (decide ((fieldAt l).2 = l.length) || decide (l[(fieldAt l).2]? = some 32))
def seqF : Nat → List UInt8 → List (FL × Bool)
  | 0, _ => []
  | f + 1, l => if okAt l = true then (if (fieldAt l).2 = l.length then [((fieldAt l).1, true)] else ((fieldAt l).1, true) :: seqF f (l.drop ((fieldAt l).2 + 1))) else [(([], false), false)]
def seqC (l : List UInt8) : List (FL × Bool) := seqF (l.length + 1) l
/-- What the line's fields are, in the end false if the rest has not the form. -/
def seqL (l : List UInt8) : List (FL × Bool) := if l = [] then [] else seqC l

theorem bareN_le (l : List UInt8) : bareN l ≤ l.length := (List.takeWhile_sublist _).length_le
theorem fieldAt_le (l : List UInt8) : (fieldAt l).2 ≤ l.length := by
  unfold fieldAt
  split
  · simp only
    unfold rqN
    cases h : rqL l with
    | none => simp
    | some p =>
      obtain ⟨x, n⟩ := p
      obtain ⟨r, rfl, rfl⟩ := of_rqL h
      simp
  · exact bareN_le l

theorem seqF_fuel : ∀ (f g : Nat) (l : List UInt8), l.length < f → l.length < g → seqF f l = seqF g l := by
  intro f
  induction f with
  | zero => intro g l h; omega
  | succ f ih =>
    intro g l hf hg
    cases g with
    | zero => omega
    | succ g =>
      unfold seqF
      by_cases ho : okAt l = true
      · rw [if_pos ho, if_pos ho]
        by_cases he : (fieldAt l).2 = l.length
        · rw [if_pos he, if_pos he]
        · rw [if_neg he, if_neg he]
          have := fieldAt_le l
          rw [ih g _ (by rw [List.length_drop]; omega) (by rw [List.length_drop]; omega)]
      · rw [if_neg ho, if_neg ho]

theorem seqC_bad {l : List UInt8} (h : okAt l = false) : seqC l = [(([], false), false)] := by unfold seqC seqF; rw [if_neg (by simp [h])]
theorem seqC_end {l : List UInt8} (h : okAt l = true) (he : (fieldAt l).2 = l.length) : seqC l = [((fieldAt l).1, true)] := by unfold seqC seqF; rw [if_pos h, if_pos he]
theorem seqC_step {l : List UInt8} (h : okAt l = true) (he : (fieldAt l).2 ≠ l.length) : seqC l = ((fieldAt l).1, true) :: seqC (l.drop ((fieldAt l).2 + 1)) := by
  have := fieldAt_le l
  unfold seqC
  rw [seqF, if_pos h, if_neg he, seqF_fuel _ ((l.drop ((fieldAt l).2 + 1)).length + 1) _ (by rw [List.length_drop]; omega) (by omega)]

theorem okAt_iff {l : List UInt8} : okAt l = true ↔ (fieldAt l).2 ≠ 0 ∧ ((fieldAt l).2 = l.length ∨ l[(fieldAt l).2]? = some 32) := by
  unfold okAt; simp
theorem okAt_false {l : List UInt8} (h : ¬ ((fieldAt l).2 ≠ 0 ∧ ((fieldAt l).2 = l.length ∨ l[(fieldAt l).2]? = some 32))) : okAt l = false := by
  cases hb : okAt l with
  | false => rfl
  | true => exact absurd (okAt_iff.1 hb) h

/-- All but the last are fields. -/
theorem seqC_ok : ∀ (k : Nat) (l : List UInt8), l.length ≤ k → ∀ pre x y r, seqC l = pre ++ x :: y :: r → x.2 = true := by
  intro k
  induction k with
  | zero =>
    intro l hk pre x y r h
    by_cases ho : okAt l = true
    · have := okAt_iff.1 ho; have := fieldAt_le l; omega
    · rw [seqC_bad (by simpa using ho)] at h
      have := congrArg List.length h; simp at this; omega
  | succ k ih =>
    intro l hk pre x y r h
    by_cases ho : okAt l = true
    · by_cases he : (fieldAt l).2 = l.length
      · rw [seqC_end ho he] at h
        have := congrArg List.length h; simp at this; omega
      · rw [seqC_step ho he] at h
        cases pre with
        | nil => simp at h; rw [← h.1]
        | cons p pre =>
          simp only [List.cons_append, List.cons.injEq] at h
          have := fieldAt_le l
          exact ih _ (by rw [List.length_drop]; omega) pre x y r h.2
    · rw [seqC_bad (by simpa using ho)] at h
      have := congrArg List.length h; simp at this; omega
theorem seqL_ok {l : List UInt8} {pre : List (FL × Bool)} {x y : FL × Bool} {r : List (FL × Bool)} (h : seqL l = pre ++ x :: y :: r) : x.2 = true := by
  unfold seqL at h
  split at h
  · have := congrArg List.length h; simp at this
  · exact seqC_ok _ _ (Nat.le_refl _) _ _ _ _ h
end Go.Proofs.YtjjghagjigaljaaDoor
