/- decimal of the package and of the reference both answer whether the bytes are a decimal number, and leave the world as it is; conditions: the length fits an int. -/
import Derived.Test.YtoknncoolmbklaaDoorNum
import Derived.Deep.DeepCutAuto
namespace Go.Proofs.YtoknncoolmbklaaDoor
set_option linter.unusedVariables false
set_option linter.unusedSimpArgs false
open Go.RowKit
theorem extract_tail (s : ByteArray) : (s.extract 1 s.size).data.toList = s.data.toList.tail := by
  rw [Lib.extract_data, List.drop_one, List.take_of_length_le (by simp)]
theorem wDecimal (s : ByteArray) (w : World) (hs : s.size ≤ 9223372036854775807) :
    Calls Tryd.prog 35 #[.string s] w fun e w' => e = .returned (.bool (decL s.data.toList)) ∧ w = w' := by
  by_cases h0 : s.size = 0
  · have he := toList_nil_of_zero s h0
    have H0 := Lib.hid h0
    go_enter Tryd.func35, Tryd.ntmps35
    go_wp2_with (go_at_call 65; refine (wNatural _ _ (by omega)).mono ?_; rintro e w' ⟨rfl, rfl⟩)
    go_ret
    exact ⟨ret_bool (by rw [head_data_none s H0.out]; rfl), rfl⟩
  have hp : 0 < s.size := by omega
  have he := isEmpty_of_pos s hp
  by_cases hm : (s[0].toNat : Int) = 45
  · have h1 : ((s[0].toNat : Int) == 45) = true := by rw [hm]; rfl
    have HM : Hid (s.data.toList.head? = some 45) := by
      unfold Hid; rw [head_data s hp, Option.some.injEq]; exact UInt8.toNat_inj.1 (by simpa using (by omega : s[0].toNat = 45))
    clear hm
    go_enter Tryd.func35, Tryd.ntmps35
    go_wp2_with (go_at_call 65; refine (wNatural _ _ (by simp; omega)).mono ?_; rintro e w' ⟨rfl, rfl⟩)
    all_goals go_ret
    · have hl : s.data.toList = [45, 48] := by rw [← Lib.toList_data]; assumption
      exact ⟨ret_bool (by rw [hl]; rfl), rfl⟩
    · have hl : ¬ s.data.toList = [45, 48] := by rw [← Lib.toList_data]; assumption
      refine ⟨ret_bool ?_, rfl⟩
      have hhd := HM.out
      have e1 : (!s.toList == [45, 48]) = true := by rw [Lib.toList_data]; simpa using hl
      rw [e1, Bool.true_and]
      cases hd : s.data.toList with
      | nil => rw [hd] at hhd; simp at hhd
      | cons c r =>
        rw [hd] at hhd hl
        obtain rfl : c = 45 := by simpa using hhd
        have e2 : s.size - 1 = r.length := by rw [← len_data s, hd]; simp
        rw [e2, List.tail_cons, List.take_length]
        unfold decL
        simp only [List.head?_cons, ↓reduceIte, List.tail_cons]
        have e3 : r ≠ [48] := fun h => hl (by rw [h])
        simp [e3]
  · have h1 : ((s[0].toNat : Int) == 45) = false := by simpa using hm
    have HM : Hid (s.data.toList.head? ≠ some 45) := by
      unfold Hid; rw [head_data s hp]; intro h; injection h with h; rw [h] at hm; exact hm rfl
    clear hm
    go_enter Tryd.func35, Tryd.ntmps35
    go_wp2_with (go_at_call 65; refine (wNatural _ _ (by omega)).mono ?_; rintro e w' ⟨rfl, rfl⟩)
    go_ret
    exact ⟨ret_bool (by unfold decL; rw [if_neg HM.out]), rfl⟩

theorem decL_cut (s : ByteArray) (hp : 1 < s.size) (h0 : s[0].toNat = 45) (h1 : s[1].toNat ≠ 48) : decL s.data.toList = natL (s.extract 1 s.size).data.toList := by
  have hh : s.data.toList.head? = some 45 := by
    rw [head_data s (by omega), Option.some.injEq]; exact UInt8.toNat_inj.1 h0
  unfold decL; rw [if_pos hh, extract_tail]
  have : s.data.toList.tail ≠ [48] := by
    intro h
    have e : s.data.toList.tail[0]? = some s[1] := by rw [List.getElem?_tail, List.getElem?_eq_getElem (by simpa using hp)]; rfl
    rw [h] at e
    injection e with e
    rw [← e] at h1; exact h1 rfl
  simp [this]
theorem decL_same (s : ByteArray) (h : ¬ (1 < s.size ∧ (∀ hp : 0 < s.size, s[0].toNat = 45) ∧ ∀ hp : 1 < s.size, s[1].toNat ≠ 48)) : decL s.data.toList = natL s.data.toList := by
  unfold decL
  by_cases hh : s.data.toList.head? = some 45
  · rw [if_pos hh]
    have hp : 0 < s.size := by
      rcases Nat.eq_zero_or_pos s.size with h' | h'
      · rw [head_data_none s h'] at hh; simp at hh
      · exact h'
    have h0 : s[0] = 45 := by rw [head_data s hp] at hh; simpa using hh
    have e1 : natL s.data.toList = false := by
      cases hb : natL s.data.toList with
      | false => rfl
      | true => obtain ⟨_, _, hd⟩ := natL_data.1 hb; have := hd 0 hp; rw [h0] at this; exact absurd this (by decide)
    rw [e1]
    rw [Bool.and_eq_false_iff]
    by_cases h1 : 1 < s.size
    · have h48 : s[1].toNat = 48 := by
        rcases Nat.decEq (s[1].toNat) 48 with h' | h'
        · exact absurd ⟨h1, fun _ => by rw [h0]; rfl, fun _ => h'⟩ h
        · exact h'
      have htl : s.data.toList.tail.head? = some 48 := by
        rw [List.head?_tail, List.getElem?_eq_getElem (by simpa using h1), Option.some.injEq]
        exact UInt8.toNat_inj.1 h48
      by_cases h2 : s.data.toList.tail = [48]
      · right; simp [h2]
      · left
        cases hb : natL s.data.toList.tail with
        | false => rfl
        | true =>
          obtain ⟨_, hx, _⟩ := natL_iff.1 hb
          refine absurd ⟨htl, ?_⟩ hx
          cases hl : s.data.toList.tail with
          | nil => rw [hl] at htl; simp at htl
          | cons a r =>
            rw [hl] at htl h2
            obtain rfl : a = 48 := by simpa using htl
            cases r with
            | nil => exact absurd rfl h2
            | cons b r => simp
    · left
      have : s.data.toList.tail = [] := by rw [← List.length_eq_zero_iff, List.length_tail, len_data]; omega
      rw [this]; rfl
  · rw [if_neg hh]

theorem natL_false {s : ByteArray} (h : ¬ ∃ h : 0 < s.size, ¬(s[0].toNat = 48 ∧ 1 < s.size) ∧ ∀ j (hj : j < s.size), digB s[j].toNat = true) : natL s.data.toList = false := by
  cases hb : natL s.data.toList with
  | false => rfl
  | true => exact absurd (natL_data.1 hb) h

theorem rDecimal (s : ByteArray) (w : World) (hs : s.size ≤ 9223372036854775807) :
    Calls Tryd.prog 37 #[.string s] w fun e w' => e = .returned (.bool (decL s.data.toList)) ∧ w = w' := by
  go_enter Tryd.func37, Tryd.ntmps37
  go_upto_region 1 with fail
  go_cut [16] (fun c wx => wx = w ∧ ∃ b : Bool, c = .bool b ∧ Hid (b = true ↔ 1 < s.size ∧ (∀ hp : 0 < s.size, s[0].toNat = 45) ∧ ∀ hp : 1 < s.size, s[1].toNat ≠ 48))
  case first =>
    go_wp2_with fail
    all_goals go_meet
    all_goals refine ⟨rfl, _, rfl, ?_⟩
    · have h1 : 1 < s.size := by omega
      have h2 : (s[0].toNat : Int) = 45 := by assumption
      unfold Hid; simp only [bne_iff_ne, ne_eq]
      exact ⟨fun h => ⟨h1, fun _ => by omega, fun _ => by omega⟩, fun ⟨_, _, h⟩ => by have := h h1; omega⟩
    · have h1 : 1 < s.size := by omega
      have h2 : ¬ (s[0].toNat : Int) = 45 := by assumption
      unfold Hid; simp only [Bool.false_eq_true, false_iff]
      exact fun ⟨_, h, _⟩ => by have := h (by omega); omega
    · unfold Hid; simp only [Bool.false_eq_true, false_iff]
      exact fun ⟨h, _, _⟩ => by omega
  case rest =>
    obtain ⟨rfl, b, rfl, hb⟩ := hcut
    go_upto_if 16 with fail
    go_cut [0] (fun s0 wx => wx = wc ∧ ∃ t : ByteArray, s0 = .string t ∧ t.size ≤ s.size ∧ Hid (decL s.data.toList = natL t.data.toList))
    case first =>
      cases b with
      | true =>
        have F := hb.out.1 rfl
        have HF := Lib.hid F
        clear F hb
        have hp : 1 < s.size := HF.out.1
        go_wp2_with fail
        go_meet
        exact ⟨rfl, _, rfl, by simp, decL_cut s hp (HF.out.2.1 (by omega)) (HF.out.2.2 hp)⟩
      | false =>
        go_wp2_with fail
        go_meet
        exact ⟨rfl, _, rfl, by simp, decL_same s (fun h => by have := hb.out.2 h; simp at this)⟩
    case rest =>
      obtain ⟨rfl, t, rfl, ht, HT⟩ := hcut
      clear hb b
      by_cases h0 : t.size = 0
      · have h0' : ((t.size : Int) == 0) = true := by rw [h0]; rfl
        have H0 := Lib.hid h0
        clear h0
        go_wp2_with fail
        go_ret
        exact ⟨ret_bool (by rw [HT.out, head_data_none t H0.out]; rfl), rfl⟩
      have hp : 0 < t.size := by omega
      have h0' : ((t.size : Int) == 0) = false := by simpa using h0
      by_cases hz : t[0].toNat = 48 ∧ 1 < t.size
      · obtain ⟨hz1, hz2⟩ := hz
        have h1 : ((t[0].toNat : Int) == 48) = true := by rw [hz1]; rfl
        have H' := Lib.hid (natL_false (s := t) (fun ⟨_, h, _⟩ => h ⟨hz1, hz2⟩))
        clear hz1
        go_wp2_with fail
        go_ret
        exact ⟨ret_bool (by rw [HT.out, H'.out]), rfl⟩
      have HZ := Lib.hid hz
      have hpath : ((t[0].toNat : Int) == 48) = false ∨ (((t[0].toNat : Int) == 48) = true ∧ (t.size : Int) ≤ 1) := by
        by_cases h : t[0].toNat = 48
        · right; exact ⟨by rw [h]; rfl, by have : ¬ 1 < t.size := fun h' => hz ⟨h, h'⟩; omega⟩
        · left; simpa using (by omega : ¬ (t[0].toNat : Int) = 48)
      clear hz h0
      rcases hpath with h1 | ⟨h1, h2⟩
      all_goals
        go_wp2_with fail
        all_goals
          go_loop [3] (fun i => ∃ k : Nat, k ≤ t.size ∧ i = .int .i64 k ∧ Hid (∀ j (hj : j < k) (hj' : j < t.size), digB t[j].toNat = true)) (fun i => t.size - (intOf i).toNat)
          case atStart => exact ⟨0, by omega, rfl, fun j hj hj' => by omega⟩
          case round =>
            obtain ⟨k, hk, rfl, hall⟩ := hrel
            by_cases hlt : k < t.size
            · go_wp2_with (go_at_call 41; refine (rDigit _ _).mono ?_; rintro e w' ⟨rfl, rfl⟩)
              all_goals first
                | (have hn : digB t[k].toNat = true := by simpa using ‹(!digB _) = false›
                   exact ⟨⟨k + 1, by omega, by go_num, all_snoc hall (fun _ => hn)⟩, by simp [intOf]; omega⟩)
                | (have hn : digB t[k].toNat = false := by simpa using ‹(!digB _) = true›
                   go_ret
                   exact ⟨ret_bool (by rw [HT.out, natL_false (s := t) (fun ⟨_, _, h⟩ => by have := h k hlt; rw [hn] at this; exact absurd this (by simp))]), rfl⟩)
            · go_wp2_with fail
              go_ret
              exact ⟨ret_bool (by rw [HT.out]; exact (natL_data.2 ⟨hp, HZ.out, fun j hj => hall j (by omega) hj⟩).symm), rfl⟩
end Go.Proofs.YtoknncoolmbklaaDoor
