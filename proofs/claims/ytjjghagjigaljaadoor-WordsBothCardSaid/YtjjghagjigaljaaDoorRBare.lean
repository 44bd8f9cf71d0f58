/- bare of the reference answers whether a string has only bytes of bare fields, and one at least; conditions: a bound on the length. -/
import Derived.Test.YtjjghagjigaljaaDoorRSplitP
import Derived.Test.YtjjghagjigaljaaDoorBare
namespace Go.Proofs.YtjjghagjigaljaaDoor
open Go.RowKit Go.Sort
theorem bareS_false {s : ByteArray} {k : Nat} (hk : k < s.size) (h : bareB s[k] = false) : bareS s.data.toList = false := by
  unfold bareS
  rw [Bool.and_eq_false_iff]; right
  cases hb : s.data.toList.all bareB with
  | false => rfl
  | true =>
    rw [List.all_eq_true] at hb
    have hm : s[k] ∈ s.data.toList := Array.mem_toList_iff.2 (Array.getElem_mem hk)
    rw [hb _ hm] at h; simp at h
theorem bareS_true {s : ByteArray} (h : ∀ c ∈ s.data.toList.take s.size, bareB c = true) : bareS s.data.toList = decide (0 < s.size) := by
  rw [List.take_of_length_le (by rw [len_data]; omega)] at h
  unfold bareS
  rw [List.all_eq_true.2 h, Bool.and_true]
  have := len_data s
  cases hd : s.data.toList with
  | nil => rw [hd] at this; simp at this; simp [← this]
  | cons a r => rw [hd] at this; simp at this; simp; omega
theorem rBare (s : ByteArray) (w : World) (hs : s.size ≤ 9223372036854775806) :
    Calls Tryd.prog 51 #[.string s] w fun e w' => e = .returned (.bool (bareS s.data.toList)) ∧ w = w' := by
  go_enter Tryd.func51, Tryd.ntmps51
  go_wp2_with fail
  go_loop [3] (fun i => ∃ k : Nat, k ≤ s.size ∧ i = .int .i64 k ∧ Hid (∀ c ∈ s.data.toList.take k, bareB c = true)) (fun i => s.size - (intOf i).toNat)
  case atStart => exact ⟨0, by omega, rfl, fun c hc => by simp at hc⟩
  case round =>
    obtain ⟨k, hk, rfl, hall⟩ := hrel
    by_cases hlt : k < s.size
    · cases hp : plB (s[k].toNat : Int) with
      | false =>
        have HB := Lib.hid (bareS_false hlt (by unfold bareB; rw [hp]; rfl))
        go_wp2_with (go_at_call 73; refine (rPlain _ _).mono ?_; rintro e w' ⟨rfl, rfl⟩)
        go_ret
        exact ⟨ret_bool HB.out.symm, rfl⟩
      | true =>
        by_cases h32 : s[k].toNat = 32
        · have h32' : ((s[k].toNat : Int) == 32) = true := by rw [h32]; rfl
          have HB := Lib.hid (bareS_false hlt (by rw [show s[k] = 32 from UInt8.toNat_inj.1 h32]; exact bareB_32))
          clear h32
          go_wp2_with (go_at_call 73; refine (rPlain _ _).mono ?_; rintro e w' ⟨rfl, rfl⟩)
          go_ret
          exact ⟨ret_bool HB.out.symm, rfl⟩
        · have h32' : ((s[k].toNat : Int) == 32) = false := by rw [beq_eq_false_iff_ne]; omega
          have HB : Hid (bareB s[k] = true) := by
            unfold Hid bareB; rw [hp, Bool.true_and, decide_eq_true_iff]; intro h; rw [h] at h32; exact h32 rfl
          clear h32
          go_wp2_with (go_at_call 73; refine (rPlain _ _).mono ?_; rintro e w' ⟨rfl, rfl⟩)
          refine ⟨⟨k + 1, by omega, by go_num, ?_⟩, by simp [intOf]; omega⟩
          intro c hc
          rw [take_snoc_data s k hlt, List.mem_append] at hc
          rcases hc with hc | hc
          · exact hall c hc
          · simp at hc; rw [hc]; exact HB.out
    · obtain rfl : k = s.size := by omega
      go_wp2_with fail
      go_ret
      exact ⟨ret_bool (by rw [bareS_true hall.out]), rfl⟩
end Go.Proofs.YtjjghagjigaljaaDoor
