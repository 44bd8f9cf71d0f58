/- Contracts of the functions on names, of the program and of the reference. -/
import Derived.Test.YtoknncoolmbklaaDoorProg
import Derived.Test.YtoknncoolmbklaaDoorPlain
import Derived.Handy
import Derived.Lib.Hide
import Derived.Outline
namespace Go.Proofs.YtoknncoolmbklaaDoor
set_option linter.unusedVariables false
set_option linter.unusedSimpArgs false
open Go.RowKit

theorem wLower (c : Int) (w : World) :
    Calls Tryd.prog 38 #[.int .u8 c] w fun e w' => e = .returned (.bool (lowB c)) ∧ w = w' := by
  go_enter Tryd.func38, Tryd.ntmps38
  go_wp2
  all_goals (go_ret; refine ⟨ret_bool ?_, rfl⟩; simp [lowB]; try omega)
theorem wDigit (c : Int) (w : World) :
    Calls Tryd.prog 39 #[.int .u8 c] w fun e w' => e = .returned (.bool (digB c)) ∧ w = w' := by
  go_enter Tryd.func39, Tryd.ntmps39
  go_wp2
  all_goals (go_ret; refine ⟨ret_bool ?_, rfl⟩; simp [digB]; try omega)
theorem rLower (c : Int) (w : World) :
    Calls Tryd.prog 40 #[.int .u8 c] w fun e w' => e = .returned (.bool (lowB c)) ∧ w = w' := by
  go_enter Tryd.func40, Tryd.ntmps40
  go_wp2
  all_goals (go_ret; refine ⟨ret_bool ?_, rfl⟩; simp [lowB]; try omega)
theorem rDigit (c : Int) (w : World) :
    Calls Tryd.prog 41 #[.int .u8 c] w fun e w' => e = .returned (.bool (digB c)) ∧ w = w' := by
  go_enter Tryd.func41, Tryd.ntmps41
  go_wp2
  all_goals (go_ret; refine ⟨ret_bool ?_, rfl⟩; simp [digB]; try omega)
theorem wPlain (c : Int) (w : World) :
    Calls Tryd.prog 71 #[.int .u8 c] w fun e w' => e = .returned (.bool (plB c)) ∧ w = w' := by
  go_enter Tryd.func71, Tryd.ntmps71
  go_wp2
  all_goals (go_ret; refine ⟨ret_bool ?_, rfl⟩; (first | (simp [plB]; omega) | (rw [Bool.eq_iff_iff]; simp [plB, *]; done) | (rw [Bool.eq_iff_iff]; simp [plB]; omega)))
theorem rPlain (c : Int) (w : World) :
    Calls Tryd.prog 73 #[.int .u8 c] w fun e w' => e = .returned (.bool (plB c)) ∧ w = w' := by
  go_enter Tryd.func73, Tryd.ntmps73
  go_wp2
  all_goals (go_ret; refine ⟨ret_bool ?_, rfl⟩; (first | (simp [plB]; omega) | (rw [Bool.eq_iff_iff]; simp [plB, *]; done) | (rw [Bool.eq_iff_iff]; simp [plB]; omega)))

theorem wName (s : ByteArray) (w : World) :
    Calls Tryd.prog 15 #[.string s] w fun e w' => e = .returned (.bool (boolOf (nameP s))) ∧ w = w' := by
  by_cases h0 : s.size = 0
  · have he := isEmpty_of_zero s h0
    have H0 := h0
    clear h0
    go_enter Tryd.func15, Tryd.ntmps15
    go_wp2_with fail
    go_ret
    exact ⟨ret_bool (boolOf_false (fun ⟨h, _, _⟩ => by omega)).symm, rfl⟩
  have hp : 0 < s.size := by omega
  have he := isEmpty_of_pos s hp
  by_cases h16 : (16 : Int) < s.size
  · go_enter Tryd.func15, Tryd.ntmps15
    go_wp2_with fail
    go_ret
    exact ⟨ret_bool (boolOf_false (fun ⟨_, h, _⟩ => by omega)).symm, rfl⟩
  have h16' : (s.size : Int) ≤ 16 := by omega
  clear h16
  by_cases hl : lowB s[0].toNat = true
  · have hl' : (!lowB s[0].toNat) = false := by simp [hl]
    have HL := hl
    clear hl
    go_enter Tryd.func15, Tryd.ntmps15
    go_wp2_with (go_at_call 38; refine (wLower _ _).mono ?_; rintro e w' ⟨rfl, rfl⟩)
    go_loop [3] (fun i => ∃ k : Nat, 1 ≤ k ∧ k ≤ s.size ∧ i = .int .i64 k ∧ Hid (∀ j (hj : j < k) (hj' : j < s.size), ncB s[j].toNat = true)) (fun i => s.size - (intOf i).toNat)
    case atStart =>
      refine ⟨1, by omega, by omega, rfl, ?_⟩
      intro j hj hj'
      obtain rfl : j = 0 := by omega
      unfold ncB; rw [HL]; rfl
    case round =>
      obtain ⟨k, hk1, hk, rfl, hall⟩ := hrel
      by_cases hlt : k < s.size
      · have hnc : ∀ b, ncB s[k].toNat = b → Hid (ncB s[k].toNat = b) := fun _ h => h
        cases ha : lowB s[k].toNat with
        | true =>
          have ha' : (!lowB s[k].toNat) = false := by simp [ha]
          have HN : Hid (ncB s[k].toNat = true) := by unfold Hid ncB; rw [ha]; rfl
          clear ha hnc
          go_wp2_with (first | (go_at_call 38; refine (wLower _ _).mono ?_; rintro e w' ⟨rfl, rfl⟩) | (go_at_call 39; refine (wDigit _ _).mono ?_; rintro e w' ⟨rfl, rfl⟩))
          refine ⟨⟨k + 1, by omega, by omega, by go_num, ?_⟩, by simp [intOf]; omega⟩
          intro j hj hj'
          by_cases hjk : j = k
          · subst hjk; exact HN
          · exact hall j (by omega) hj'
        | false =>
          have ha' : (!lowB s[k].toNat) = true := by simp [ha]
          cases hd : digB s[k].toNat with
          | true =>
            have hd' : (!digB s[k].toNat) = false := by simp [hd]
            have HN : Hid (ncB s[k].toNat = true) := by unfold Hid ncB; rw [ha, hd]; rfl
            clear ha hd hnc
            go_wp2_with (first | (go_at_call 38; refine (wLower _ _).mono ?_; rintro e w' ⟨rfl, rfl⟩) | (go_at_call 39; refine (wDigit _ _).mono ?_; rintro e w' ⟨rfl, rfl⟩))
            refine ⟨⟨k + 1, by omega, by omega, by go_num, ?_⟩, by simp [intOf]; omega⟩
            intro j hj hj'
            by_cases hjk : j = k
            · subst hjk; exact HN
            · exact hall j (by omega) hj'
          | false =>
            have hd' : (!digB s[k].toNat) = true := by simp [hd]
            by_cases hc : (s[k].toNat : Int) = 45
            · have hc' : ((s[k].toNat : Int) != 45) = false := by rw [hc]; rfl
              have HN : Hid (ncB s[k].toNat = true) := by unfold Hid ncB; rw [ha, hd, hc]; rfl
              clear ha hd hnc hc
              go_wp2_with (first | (go_at_call 38; refine (wLower _ _).mono ?_; rintro e w' ⟨rfl, rfl⟩) | (go_at_call 39; refine (wDigit _ _).mono ?_; rintro e w' ⟨rfl, rfl⟩))
              refine ⟨⟨k + 1, by omega, by omega, by go_num, ?_⟩, by simp [intOf]; omega⟩
              intro j hj hj'
              by_cases hjk : j = k
              · subst hjk; exact HN
              · exact hall j (by omega) hj'
            · have hc' : ((s[k].toNat : Int) != 45) = true := by simpa using hc
              have HN : Hid (ncB s[k].toNat = false) := by unfold Hid ncB; rw [ha, hd]; simp [hc]
              clear ha hd hnc hc
              go_wp2_with (first | (go_at_call 38; refine (wLower _ _).mono ?_; rintro e w' ⟨rfl, rfl⟩) | (go_at_call 39; refine (wDigit _ _).mono ?_; rintro e w' ⟨rfl, rfl⟩))
              go_ret
              exact ⟨ret_bool (boolOf_false (fun ⟨_, _, _, h⟩ => by have := h k hlt; rw [HN.out] at this; exact absurd this (by simp))).symm, rfl⟩
      · go_wp2_with fail
        go_ret
        exact ⟨ret_bool (boolOf_true ⟨hp, by omega, HL, fun j hj => hall j (by omega) hj⟩).symm, rfl⟩
  · have hl' : (!lowB s[0].toNat) = true := by simpa using hl
    have HL : Hid (lowB s[0].toNat = false) := by simpa [Hid] using hl
    clear hl
    go_enter Tryd.func15, Tryd.ntmps15
    go_wp2_with (go_at_call 38; refine (wLower _ _).mono ?_; rintro e w' ⟨rfl, rfl⟩)
    go_ret
    exact ⟨ret_bool (boolOf_false (fun ⟨_, _, h, _⟩ => by rw [HL.out] at h; exact absurd h (by simp))).symm, rfl⟩

theorem all_snoc {s : ByteArray} {p : Int → Bool} {k : Nat} (h : Hid (∀ j (hj : j < k) (hj' : j < s.size), p s[j].toNat = true)) (hn : ∀ hk : k < s.size, p s[k].toNat = true) :
    Hid (∀ j (hj : j < k + 1) (hj' : j < s.size), p s[j].toNat = true) := by
  intro j hj hj'
  by_cases hjk : j = k
  · subst hjk; exact hn hj'
  · exact h j (by omega) hj'
theorem rName (s : ByteArray) (w : World) :
    Calls Tryd.prog 16 #[.string s] w fun e w' => e = .returned (.bool (boolOf (nameP s))) ∧ w = w' := by
  by_cases h0 : (s.size : Int) < 1
  · go_enter Tryd.func16, Tryd.ntmps16
    go_wp2_with fail
    go_ret
    exact ⟨ret_bool (boolOf_false (fun ⟨h, _, _⟩ => by omega)).symm, rfl⟩
  have hp : 0 < s.size := by omega
  have hp' : 1 ≤ (s.size : Int) := by omega
  clear h0
  by_cases h16 : (16 : Int) < s.size
  · go_enter Tryd.func16, Tryd.ntmps16
    go_wp2_with fail
    go_ret
    exact ⟨ret_bool (boolOf_false (fun ⟨_, h, _⟩ => by omega)).symm, rfl⟩
  have h16' : (s.size : Int) ≤ 16 := by omega
  clear h16
  cases hl : lowB s[0].toNat with
  | false =>
    have hl' : (!lowB s[0].toNat) = true := by simpa using hl
    have HL := Lib.hid hl
    clear hl
    go_enter Tryd.func16, Tryd.ntmps16
    go_wp2_with (go_at_call 40; refine (rLower _ _).mono ?_; rintro e w' ⟨rfl, rfl⟩)
    go_ret
    exact ⟨ret_bool (boolOf_false (fun ⟨_, _, h, _⟩ => by rw [HL.out] at h; exact absurd h (by simp))).symm, rfl⟩
  | true =>
    have hl' : (!lowB s[0].toNat) = false := by simp [hl]
    have HL := Lib.hid hl
    clear hl
    go_enter Tryd.func16, Tryd.ntmps16
    go_wp2_with (go_at_call 40; refine (rLower _ _).mono ?_; rintro e w' ⟨rfl, rfl⟩)
    go_loop [3] (fun i => ∃ k : Nat, k ≤ s.size ∧ i = .int .i64 k ∧ Hid (∀ j (hj : j < k) (hj' : j < s.size), ncB s[j].toNat = true)) (fun i => s.size - (intOf i).toNat)
    case atStart => exact ⟨0, by omega, rfl, fun j hj hj' => by omega⟩
    case round =>
      obtain ⟨k, hk, rfl, hall⟩ := hrel
      by_cases hlt : k < s.size
      · go_wp2_with (first | (go_at_call 40; refine (rLower _ _).mono ?_; rintro e w' ⟨rfl, rfl⟩) | (go_at_call 41; refine (rDigit _ _).mono ?_; rintro e w' ⟨rfl, rfl⟩))
        all_goals first
          | (have hn : ncB s[k].toNat = true := by (simp [ncB, *]; try simp_all)
             exact ⟨⟨k + 1, by omega, by go_num, all_snoc hall (fun _ => hn)⟩, by simp [intOf]; omega⟩)
          | (have hn : ncB s[k].toNat = false := by (simp [ncB, *]; try simp_all)
             go_ret
             exact ⟨ret_bool (boolOf_false (fun ⟨_, _, _, h⟩ => by have := h k hlt; rw [hn] at this; exact absurd this (by simp))).symm, rfl⟩)
      · go_wp2_with fail
        go_ret
        exact ⟨ret_bool (boolOf_true ⟨hp, by omega, HL.out, fun j hj => hall j (by omega) hj⟩).symm, rfl⟩
end Go.Proofs.YtoknncoolmbklaaDoor
