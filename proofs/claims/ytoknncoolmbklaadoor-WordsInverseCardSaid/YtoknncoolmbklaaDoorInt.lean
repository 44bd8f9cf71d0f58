/- Int of the package returns the number and the error that P1.1 names; conditions: Amb, both bounds fit int64, the string's length at most 281474976710656. -/
import Derived.Test.YtoknncoolmbklaaDoorRDigits
namespace Go.Proofs.YtoknncoolmbklaaDoor
set_option linter.unusedVariables false
set_option linter.unusedSimpArgs false
open Go.RowKit Go.Sort

theorem ret_int_err {a b c d : Int} (h : a = b) (h' : c = d) : Ending.returned (.tuple #[.int .i64 a, .int .i64 c]) = .returned (.tuple #[.int .i64 b, .int .i64 d]) := by rw [h, h']
theorem below_bytesWorld (w : World) (e : TypeId) (t : ByteArray) : Below w.heap.size w (Lib.bytesWorld w e t) := by
  refine ⟨rfl, rfl, rfl, ?_, fun k hk => ?_⟩
  · simp [Lib.bytesWorld, World.freeze]
  · have h1 := Below.heap_alloc w.drew (.cells (Lib.bytesCells w e t) e) k hk
    unfold Lib.bytesWorld World.freeze
    show (Array.modify _ _ _)[k]? = _
    rw [Array.getElem?_modify, if_neg (show w.heap.size ≠ k by omega)]
    exact h1
theorem int_ok {l : List UInt8} {n low high : Int} (hd : decL l = true) (hn : decInt l = n) (hb : inI64 n) (h1 : low ≤ n) (h2 : n ≤ high) : intV l low high = n ∧ intE l low high = 0 := by
  unfold intV intE
  rw [if_pos ⟨hd, by rw [hn]; exact hb, by rw [hn]; exact h1, by rw [hn]; exact h2⟩, if_pos hd, if_pos ⟨by rw [hn]; exact hb, by rw [hn]; exact h1, by rw [hn]; exact h2⟩]
  exact ⟨hn, rfl⟩
theorem int_out {l : List UInt8} {low high : Int} (hd : decL l = true) (h : inI64 (decInt l) → low ≤ decInt l → decInt l ≤ high → False) : intV l low high = 0 ∧ intE l low high = 7 := by
  unfold intV intE
  rw [if_neg (fun ⟨_, a, b, c⟩ => h a b c), if_pos hd, if_neg (fun ⟨a, b, c⟩ => h a b c)]
  exact ⟨rfl, rfl⟩
theorem int_bad {l : List UInt8} {low high : Int} (hd : decL l = false) : intV l low high = 0 ∧ intE l low high = 6 := by
  unfold intV intE
  rw [if_neg (fun ⟨a, _⟩ => by rw [hd] at a; simp at a), if_neg (by rw [hd]; simp)]
  exact ⟨rfl, rfl⟩

theorem below_or {w w1 : World} (h : w1 = w ∨ ∃ t, w1 = Lib.bytesWorld w 5 t) : Below w.heap.size w w1 := by
  rcases h with rfl | ⟨t, rfl⟩
  · exact Below.refl _ _
  · exact below_bytesWorld _ _ _

theorem wInt (s : ByteArray) (low high : Int) (hl : inI64 low) (hh : inI64 high) (w : World) (ha : Amb w) (hs : s.size ≤ 281474976710656) :
    Calls Tryd.prog 13 #[.string s, .int .i64 low, .int .i64 high] w fun e w' => e = .returned (.tuple #[.int .i64 (intV s.data.toList low high), .int .i64 (intE s.data.toList low high)]) ∧ Below w.heap.size w w' := by
  have hmx : s.size ≤ 9223372036854775806 := by omega
  cases hd : decL s.data.toList with
  | false =>
    have hd' : (!decL s.data.toList) = true := by simp [hd]
    have HD := Lib.hid hd
    clear hd
    go_enter Tryd.func13, Tryd.ntmps13
    go_wp2_with (go_at_call 35; refine (wDecimal _ _ (by omega)).mono ?_; rintro e w' ⟨rfl, rfl⟩)
    go_ret2
    exact ⟨ret_int_err (int_bad HD.out).1.symm (int_bad HD.out).2.symm, Below.refl _ _⟩
  | true =>
    have hd' : (!decL s.data.toList) = false := by simp [hd]
    have hp := parseB _ hd
    have HD := Lib.hid hd
    clear hd
    by_cases hv : inI64 (decInt s.data.toList)
    · rw [if_pos hv] at hp
      have HV := Lib.hid hv
      have HP := Lib.hid hp
      have hb : -9223372036854775808 ≤ decInt s.data.toList ∧ decInt s.data.toList ≤ 9223372036854775807 := hv
      clear hv hp
      generalize hn : decInt s.data.toList = n at *
      have HN := Lib.hid hn
      clear hn
      go_enter Tryd.func13, Tryd.ntmps13
      go_wp2_with (first | (go_at_call 35; refine (wDecimal _ _ (by omega)).mono ?_; rintro e w' ⟨rfl, rfl⟩) | (go_at_call 36; refine (Tryd.strconv_ParseInt_10_at64_ok s hmx n HP.out _).mono ?_; rintro e w1 ⟨rfl, hw⟩; have hbl := (below_or hw); clear hw))
      all_goals go_ret2
      all_goals first
        | (have hx : n < low ∨ high < n := by omega
           have hq := int_out (low := low) (high := high) HD.out (fun _ a b => by rw [HN.out] at a b; omega)
           exact ⟨ret_int_err hq.1.symm hq.2.symm, hbl⟩)
        | (have hx : low ≤ n ∧ n ≤ high := by omega
           have hq := int_ok HD.out HN.out (show inI64 n from hb) hx.1 hx.2
           exact ⟨ret_int_err hq.1.symm hq.2.symm, hbl⟩)
    · rw [if_neg hv] at hp
      have HV := Lib.hid hv
      have HP := Lib.hid hp
      clear hv hp
      obtain ⟨tp, p, hvar⟩ := ha.rng
      have HR := Lib.hid hvar
      clear hvar
      go_enter Tryd.func13, Tryd.ntmps13
      go_wp2_with (first | (go_at_call 35; refine (wDecimal _ _ (by omega)).mono ?_; rintro e w' ⟨rfl, rfl⟩) | (go_at_call 36; refine (Tryd.strconv_ParseInt_10_at64_range_var s (by omega) HP.out tp p _ HR.out).mono ?_; rintro e w1 ⟨N, rfl, hN, hcell, hb⟩))
      go_ret2
      have hq := int_out (low := low) (high := high) HD.out (fun a _ _ => HV.out a)
      exact ⟨ret_int_err hq.1.symm hq.2.symm, hb⟩
end Go.Proofs.YtoknncoolmbklaaDoor
