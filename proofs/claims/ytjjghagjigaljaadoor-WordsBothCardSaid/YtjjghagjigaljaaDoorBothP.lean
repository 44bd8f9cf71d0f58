/- Plain: two lines with a space between them. -/
import Derived.Test.YtjjghagjigaljaaDoorJoinP
namespace Go.Proofs.YtjjghagjigaljaaDoor
open Go.RowKit
theorem joiE_zero {fs : List FL} : joiE fs = 0 ↔ longB fs = false ∧ fs.any badF = false ∧ (joinL fs).length ≤ 8192 := by
  unfold joiE
  constructor
  · intro h
    split at h
    · simp at h
    · split at h
      · simp at h
      · split at h
        · simp at h
        · rename_i h1 h2 h3
          exact ⟨by simpa using h1, Bool.eq_false_iff.2 h2, by omega⟩
  · rintro ⟨h1, h2, h3⟩
    rw [if_neg (by simp [h1]), if_neg (by rw [h2]; simp), if_neg (by omega)]
theorem joinL_append {l m : List FL} (hl : l ≠ []) (hm : m ≠ []) : joinL (l ++ m) = joinL l ++ [32] ++ joinL m := by
  unfold joinL
  cases l with
  | nil => exact absurd rfl hl
  | cons f l =>
    cases m with
    | nil => exact absurd rfl hm
    | cons g m => simp [List.flatMap_cons, List.flatMap_append]
theorem longB_append {l m : List FL} (h : longB (l ++ m) = false) : longB l = false ∧ longB m = false := by
  unfold longB at *
  rw [Bool.or_eq_false_iff, List.any_append, Bool.or_eq_false_iff, List.length_append] at h
  have h1 := h.1
  rw [decide_eq_false_iff_not] at h1
  rw [Bool.or_eq_false_iff, Bool.or_eq_false_iff, decide_eq_false_iff_not, decide_eq_false_iff_not]
  exact ⟨⟨by omega, h.2.1⟩, ⟨by omega, h.2.2⟩⟩
theorem both_bad {l m : List FL} (hl : l ≠ []) (hm : m ≠ []) (h : joiE l ≠ 0 ∨ joiE m ≠ 0) : joiE (l ++ m) ≠ 0 := by
  intro h0
  obtain ⟨h1, h2, h3⟩ := joiE_zero.1 h0
  have ha := longB_append h1
  rw [List.any_append, Bool.or_eq_false_iff] at h2
  rw [joinL_append hl hm] at h3
  simp at h3
  rcases h with h | h
  · exact h (joiE_zero.2 ⟨ha.1, h2.1, by omega⟩)
  · exact h (joiE_zero.2 ⟨ha.2, h2.2, by omega⟩)
theorem both_long {l m : List FL} (hl : l ≠ []) (hm : m ≠ []) (zl : joiE l = 0) (zm : joiE m = 0) (h : 64 < l.length + m.length ∨ 8192 < (joinL l).length + 1 + (joinL m).length) : joiE (l ++ m) = 3 ∧ joiS (l ++ m) = [] := by
  obtain ⟨a1, a2, _⟩ := joiE_zero.1 zl
  obtain ⟨b1, b2, _⟩ := joiE_zero.1 zm
  cases hlb : longB (l ++ m) with
  | true => exact joi_long hlb
  | false =>
    have h64 : ¬ 64 < l.length + m.length := by
      unfold longB at hlb
      rw [Bool.or_eq_false_iff, decide_eq_false_iff_not, List.length_append] at hlb
      exact hlb.1
    refine joi_line hlb (by rw [List.any_append, a2, b2]; rfl) ?_
    rw [joinL_append hl hm]; simp; omega
theorem both_ok {l m : List FL} (hl : l ≠ []) (hm : m ≠ []) (zl : joiE l = 0) (zm : joiE m = 0) (h : ¬ 64 < l.length + m.length) (h' : ¬ 8192 < (joinL l).length + 1 + (joinL m).length) : joiE (l ++ m) = 0 ∧ joiS (l ++ m) = joinL l ++ [32] ++ joinL m := by
  obtain ⟨a1, a2, _⟩ := joiE_zero.1 zl
  obtain ⟨b1, b2, _⟩ := joiE_zero.1 zm
  have hlb : longB (l ++ m) = false := by
    unfold longB at *
    rw [Bool.or_eq_false_iff] at *
    rw [List.any_append, a1.2, b1.2, List.length_append]
    exact ⟨decide_eq_false h, rfl⟩
  have := joi_ok hlb (by rw [List.any_append, a2, b2]; rfl) (by rw [joinL_append hl hm]; simp; omega)
  rw [joinL_append hl hm] at this
  exact this
theorem joiS_zero {fs : List FL} (h : joiE fs = 0) : joiS fs = joinL fs ∧ (joinL fs).length ≤ 8192 := ⟨by unfold joiS; rw [if_pos h], (joiE_zero.1 h).2.2⟩
end Go.Proofs.YtjjghagjigaljaaDoor
