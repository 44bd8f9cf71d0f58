/- The contract of the law's function of P1.3: on every string it returns true; under the ambient facts of Amb. -/
import Derived.Test.YtoknncoolmbklaaDoorShown
import Derived.Test.YtoknncoolmbklaaDoorRLine
namespace Go.Proofs.YtoknncoolmbklaaDoor
set_option linter.unusedVariables false
set_option linter.unusedSimpArgs false
open Go.RowKit Go.Sort
theorem splF_len (l : List UInt8) : (splF l).length ≤ l.length + 1 := by
  unfold splF allF
  split
  · rw [List.length_map]; exact seqL_len l
  · simp
theorem lSplits (s : ByteArray) (w : World) (hs : s.size ≤ 9223372036854775807) (ha : Amb w) :
    Calls Tryd.prog 5 #[.string s] w fun e w' => e = .returned (.bool true) ∧ Below w.heap.size w w' := by
  by_cases hx : s.size ≤ 3000 ∨ 8192 < s.size ∧ s.size ≤ 9000
  · have hk : decide ((3000 : Int) < s.size) = false ∨ decide ((3000 : Int) < s.size) = true ∧ decide ((s.size : Int) ≤ 8192) = false := by
      rcases hx with h | h
      · left; simp; omega
      · right; simp; omega
    have hk9 : decide ((9000 : Int) < s.size) = false := by simp; omega
    have hl := splF_len s.data.toList
    rw [len_data] at hl
    have HX := Lib.hid hx
    have HL := Lib.hid hl
    clear hx hl
    rcases hk with hk | ⟨hk, hk'⟩
    all_goals
      go_enter Tryd.func5, Tryd.ntmps5
      go_wp2_with fail
      refine (wSplit s _ ha (by have := HX.out; omega)).mono ?_
      rintro e W1 ⟨v, rfl, hv, b1⟩
      go_wp2_with fail
      refine (rSplit s _ (by have := HX.out; omega)).mono ?_
      rintro e W2 ⟨u, rfl, hu, b2⟩
      have fv := (fieldsAt_of_owns hv (by have := HL.out; have := HX.out; omega)).below b2
      have fu := fieldsAt_of_owns hu (by have := HL.out; have := HX.out; omega)
      have bw2 := b1.trans (b2.mono b1.size)
      clear b1 b2 hv hu
      go_wp2_with fail
      refine (rSame v u _ _ _ fv fu).mono ?_
      rintro e W3 ⟨rfl, b3⟩
      have bw3 := bw2.trans (b3.mono bw2.size)
      clear bw2 b3
      go_wp2_with fail
      refine (lShown _ (ha.below bw3)).mono ?_
      rintro e W6 ⟨rfl, b6⟩
      go_wp2_with fail
      go_ret
      exact ⟨rfl, bw3.trans (b6.mono bw3.size)⟩
  · have hk1 : decide ((3000 : Int) < s.size) = true := by simp; omega
    have hk2 : decide ((s.size : Int) ≤ 8192) = !decide ((9000 : Int) < s.size) := by
      by_cases h : s.size ≤ 8192
      · have h1 : (s.size : Int) ≤ 8192 := by omega
        have h2 : ¬ (9000 : Int) < s.size := by omega
        simp [h1, h2]
      · have h1 : ¬ (s.size : Int) ≤ 8192 := by omega
        have h2 : (9000 : Int) < s.size := by omega
        simp [h1, h2]
    clear hx
    cases hk9 : decide ((9000 : Int) < s.size)
    all_goals
      rw [hk9] at hk2
      simp only [Bool.not_false, Bool.not_true] at hk2
      go_enter Tryd.func5, Tryd.ntmps5
      go_wp2_with fail
      refine (lShown _ ha).mono ?_
      rintro e W6 ⟨rfl, b6⟩
      go_wp2_with fail
      go_ret
      exact ⟨rfl, b6⟩
end Go.Proofs.YtoknncoolmbklaaDoor
