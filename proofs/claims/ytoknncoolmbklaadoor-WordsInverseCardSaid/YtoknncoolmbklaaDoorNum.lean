/- Contracts of the functions on decimal forms. -/
import Derived.Test.YtoknncoolmbklaaDoorName
import Derived.Test.YtoknncoolmbklaaDoorPlain
namespace Go.Proofs.YtoknncoolmbklaaDoor
set_option linter.unusedVariables false
set_option linter.unusedSimpArgs false
open Go.RowKit

theorem wNatural (s : ByteArray) (w : World) (hs : s.size ≤ 9223372036854775807) :
    Calls Tryd.prog 65 #[.string s] w fun e w' => e = .returned (.bool (natL s.data.toList)) ∧ w = w' := by
  by_cases h0 : s.size = 0
  · have he := isEmpty_of_zero s h0
    have H0 := Lib.hid h0
    clear h0
    go_enter Tryd.func65, Tryd.ntmps65
    go_wp2_with fail
    go_ret
    exact ⟨ret_bool (by rw [head_data_none s H0.out]; rfl), rfl⟩
  have hp : 0 < s.size := by omega
  have he := isEmpty_of_pos s hp
  by_cases hz : s[0].toNat = 48 ∧ 1 < s.size
  · obtain ⟨hz1, hz2⟩ := hz
    have h1 : ((s[0].toNat : Int) == 48) = true := by rw [hz1]; rfl
    have H : natL s.data.toList = false := by
      cases hb : natL s.data.toList with
      | false => rfl
      | true => obtain ⟨_, h, _⟩ := natL_data.1 hb; exact absurd ⟨hz1, hz2⟩ h
    have H' := Lib.hid H
    clear H hz1
    go_enter Tryd.func65, Tryd.ntmps65
    go_wp2_with fail
    go_ret
    exact ⟨ret_bool H'.out.symm, rfl⟩
  have HZ := Lib.hid hz
  have hpath : ((s[0].toNat : Int) == 48) = false ∨ (((s[0].toNat : Int) == 48) = true ∧ (s.size : Int) ≤ 1) := by
    by_cases h : s[0].toNat = 48
    · right; exact ⟨by rw [h]; rfl, by have : ¬ 1 < s.size := fun h' => hz ⟨h, h'⟩; omega⟩
    · left; simpa using (by omega : ¬ (s[0].toNat : Int) = 48)
  clear hz h0
  rcases hpath with h1 | ⟨h1, h2⟩
  all_goals
    go_enter Tryd.func65, Tryd.ntmps65
    go_wp2_with fail
    go_loop [3] (fun i => ∃ k : Nat, k ≤ s.size ∧ i = .int .i64 k ∧ Hid (∀ j (hj : j < k) (hj' : j < s.size), digB s[j].toNat = true)) (fun i => s.size - (intOf i).toNat)
    case atStart => exact ⟨0, by omega, rfl, fun j hj hj' => by omega⟩
    case round =>
      obtain ⟨k, hk, rfl, hall⟩ := hrel
      by_cases hlt : k < s.size
      · go_wp2_with (go_at_call 39; refine (wDigit _ _).mono ?_; rintro e w' ⟨rfl, rfl⟩)
        all_goals first
          | (have hn : digB s[k].toNat = true := by simpa using ‹(!digB _) = false›
             exact ⟨⟨k + 1, by omega, by go_num, all_snoc hall (fun _ => hn)⟩, by simp [intOf]; omega⟩)
          | (have hn : digB s[k].toNat = false := by simpa using ‹(!digB _) = true›
             go_ret
             refine ⟨ret_bool ?_, rfl⟩
             cases hb : natL s.data.toList with
             | false => rfl
             | true => obtain ⟨_, _, h⟩ := natL_data.1 hb; have := h k hlt; rw [hn] at this; exact absurd this (by simp))
      · go_wp2_with fail
        go_ret
        exact ⟨ret_bool (natL_data.2 ⟨hp, HZ.out, fun j hj => hall j (by omega) hj⟩).symm, rfl⟩
end Go.Proofs.YtoknncoolmbklaaDoor
