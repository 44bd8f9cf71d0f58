/- Int of the reference returns the number and the error that P1.1 names, and leaves the world as it is; conditions: both bounds fit int64, the string's length at most 281474976710656. -/
import Derived.Test.YtoknncoolmbklaaDoorInt
import Derived.Test.YtoknncoolmbklaaDoorMag
namespace Go.Proofs.YtoknncoolmbklaaDoor
set_option linter.unusedVariables false
set_option linter.unusedSimpArgs false
open Go.RowKit Go.Sort
theorem tdiv_lim {d : Int} (h : 0 ≤ d ∧ d ≤ 9) : (-9223372036854775808 + d).tdiv 10 = -((9223372036854775808 - d) / 10) := by
  have e : (-9223372036854775808 + d) = -(9223372036854775808 - d) := by omega
  rw [e, Int.neg_tdiv, Int.tdiv_eq_ediv_of_nonneg (by omega)]
theorem over_lim {V c : Int} (hc : 48 ≤ c ∧ c ≤ 57) (h : -V < (-9223372036854775808 + (c - 48)).tdiv 10) : 9223372036854775808 < V * 10 + (c - 48) := by
  rw [tdiv_lim (by omega)] at h; omega
theorem under_lim {V c : Int} (hc : 48 ≤ c ∧ c ≤ 57) (h : (-9223372036854775808 + (c - 48)).tdiv 10 ≤ -V) : V * 10 + (c - 48) ≤ 9223372036854775808 := by
  rw [tdiv_lim (by omega)] at h; omega
theorem int_far {l : List UInt8} {low high : Int} (hd : decL l = true) (h : 9223372036854775808 < mag l) : intV l low high = 0 ∧ intE l low high = 7 := by
  refine int_out hd (fun a _ _ => ?_)
  unfold inI64 at a
  by_cases hm : l.head? = some 45
  · rw [mag_neg hd hm] at a; omega
  · rw [mag_pos hd hm] at a; omega
theorem head_is {s : ByteArray} (hp : 0 < s.size) {b : Bool} (h : ((s[0].toNat : Int) == 45) = b) : (b = true ↔ s.data.toList.head? = some 45) := by
  rw [head_data s hp, Option.some.injEq, ← UInt8.toNat_inj, ← h, beq_iff_eq]
  show (s[0].toNat : Int) = 45 ↔ s[0].toNat = 45
  omega
set_option maxHeartbeats 400000 in
theorem rInt (s : ByteArray) (low high : Int) (hl : inI64 low) (hh : inI64 high) (w : World) (hs : s.size ≤ 281474976710656) :
    Calls Tryd.prog 14 #[.string s, .int .i64 low, .int .i64 high] w fun e w' => e = .returned (.tuple #[.int .i64 (intV s.data.toList low high), .int .i64 (intE s.data.toList low high)]) ∧ w = w' := by
  cases hd : decL s.data.toList with
  | false =>
    have hd' : (!decL s.data.toList) = true := by simp [hd]
    have HD := Lib.hid hd
    clear hd
    go_enter Tryd.func14, Tryd.ntmps14
    go_wp2_with (go_at_call 37; refine (rDecimal _ _ (by omega)).mono ?_; rintro e w' ⟨rfl, rfl⟩)
    go_ret2
    exact ⟨ret_int_err (int_bad HD.out).1.symm (int_bad HD.out).2.symm, rfl⟩
  | true =>
    have hd' : (!decL s.data.toList) = false := by simp [hd]
    have HD := Lib.hid hd
    clear hd
    have hp : 0 < s.size := by
      have := decL_pos HD.out
      rcases Nat.eq_zero_or_pos s.size with h | h
      · exact absurd (head_data_none s h) this
      · exact h
    obtain ⟨mn, hmn⟩ : ∃ b : Bool, ((s[0].toNat : Int) == 45) = b := ⟨_, rfl⟩
    have HMN := Lib.hid hmn
    go_enter Tryd.func14, Tryd.ntmps14
    go_wp2_with (go_at_call 37; refine (rDecimal _ _ (by omega)).mono ?_; rintro e w' ⟨rfl, rfl⟩)
    clear hmn
    go_loop [9, 10] (fun n i => ∃ k V : Nat, k ≤ s.size ∧ i = .int .i64 k ∧ n = .int .i64 (-(V : Int)) ∧ V ≤ 9223372036854775808 ∧ Hid (mag (s.data.toList.take k) = V)) (fun n i => s.size - (intOf i).toNat)
    case atStart => exact ⟨0, 0, by omega, rfl, rfl, by omega, rfl⟩
    case round =>
      obtain ⟨k, V, hk, rfl, rfl, hV, HV⟩ := hrel
      by_cases hlt : k < s.size
      · by_cases hc : (s[k].toNat : Int) = 45
        · have hc' : ((s[k].toNat : Int) == 45) = true := by rw [hc]; rfl
          have HS : Hid (mag (s.data.toList.take (k + 1)) = V) := by
            have h45 : s[k] = 45 := UInt8.toNat_inj.1 (by have : s[k].toNat = 45 := by omega
                                                          rw [this]; rfl)
            unfold Hid; rw [take_snoc_data s k hlt, h45, mag_minus]; exact HV
          clear hc
          go_wp2_with fail
          exact ⟨⟨k + 1, V, by omega, by go_num, rfl, hV, HS⟩, by simp [intOf]; omega⟩
        · have hc' : ((s[k].toNat : Int) == 45) = false := by simpa using hc
          have hdg : 48 ≤ (s[k].toNat : Int) ∧ (s[k].toNat : Int) ≤ 57 := by
            rcases decL_bytes HD.out s[k] (mem_data.2 ⟨k, hlt, rfl⟩) with h | h
            · rw [h] at hc; exact absurd rfl hc
            · have := digB_iff.1 h; omega
          have HS : Hid (mag (s.data.toList.take (k + 1)) = V * 10 + (s[k].toNat - 48)) := by
            unfold Hid; rw [take_snoc_data s k hlt, mag_digit _ _ (by intro h; rw [h] at hc; exact hc rfl), HV.out]
          clear hc
          go_wp2_with fail
          · go_ret2
            have h1 := over_lim hdg ‹_›
            have h2 := mag_take_le s (k + 1)
            rw [HS.out] at h2
            have hq := int_far (low := low) (high := high) HD.out (by omega)
            exact ⟨ret_int_err hq.1.symm hq.2.symm, rfl⟩
          · have h1 := under_lim hdg ‹_›
            refine ⟨⟨k + 1, V * 10 + (s[k].toNat - 48), by omega, by go_num, ret_i ?_, by omega, HS⟩, by simp [intOf]; omega⟩
            have e1 : wrap64 (10 * -(V : Int)) = 10 * -(V : Int) := IntWalk.wrap64_in _ (by omega)
            rw [e1, IntWalk.wrap64_in _ (by omega)]
            omega
      · have HM : Hid (mag s.data.toList = V) := by
          have := HV.out
          rwa [List.take_of_length_le (by rw [len_data]; omega)] at this
        have HI := Lib.hid (head_is hp HMN.out)
        clear HMN
        cases mn with
        | true =>
          have HN : Hid (decInt s.data.toList = -(V : Int)) := by unfold Hid; rw [mag_neg HD.out (HI.out.1 rfl), HM.out]
          clear HI
          go_wp2_with fail
          all_goals go_ret2
          all_goals first
            | (have hx : -(V : Int) < low ∨ high < -(V : Int) := by omega
               have hq := int_out (low := low) (high := high) HD.out (fun _ a b => by rw [HN.out] at a b; omega)
               exact ⟨ret_int_err hq.1.symm hq.2.symm, rfl⟩)
            | (have hx : low ≤ -(V : Int) ∧ -(V : Int) ≤ high := by omega
               have hq := int_ok HD.out HN.out (show inI64 (-(V : Int)) from ⟨by omega, by omega⟩) hx.1 hx.2
               exact ⟨ret_int_err hq.1.symm hq.2.symm, rfl⟩)
        | false =>
          have HN : Hid (decInt s.data.toList = (V : Int)) := by unfold Hid; rw [mag_pos HD.out (fun h => by have := HI.out.2 h; simp at this), HM.out]
          clear HI
          by_cases hbig : (V : Int) = 9223372036854775808
          · have hb' : (-(V : Int) == -9223372036854775808) = true := by rw [hbig]; rfl
            have hq := Lib.hid (int_out (low := low) (high := high) HD.out (fun a _ _ => by rw [HN.out] at a; unfold inI64 at a; omega))
            clear hbig
            go_wp2_with fail
            go_ret2
            exact ⟨ret_int_err hq.out.1.symm hq.out.2.symm, rfl⟩
          · have hb' : (-(V : Int) == -9223372036854775808) = false := by rw [beq_eq_false_iff_ne]; omega
            have hV' : (V : Int) ≤ 9223372036854775807 := by omega
            clear hbig hV
            go_wp2_with fail
            all_goals go_ret2
            all_goals first
              | (have hx : (V : Int) < low ∨ high < (V : Int) := by omega
                 have hq := int_out (low := low) (high := high) HD.out (fun _ a b => by rw [HN.out] at a b; omega)
                 exact ⟨ret_int_err hq.1.symm hq.2.symm, rfl⟩)
              | (have hx : low ≤ (V : Int) ∧ (V : Int) ≤ high := by omega
                 have hq := int_ok HD.out HN.out (show inI64 (V : Int) from ⟨by omega, by omega⟩) hx.1 hx.2
                 exact ⟨ret_int_err hq.1.symm hq.2.symm, rfl⟩)
end Go.Proofs.YtoknncoolmbklaaDoor
