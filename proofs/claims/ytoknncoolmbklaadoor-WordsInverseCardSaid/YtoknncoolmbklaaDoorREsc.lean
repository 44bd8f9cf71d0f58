/- hex and escaped of the reference: the digit of base 16, and the bytes that stand for a byte between quotes; no conditions. -/
import Derived.Test.YtoknncoolmbklaaDoorWriteQuoted
import Derived.Test.YtoknncoolmbklaaDoorRDigits
import Derived.Test.YtoknncoolmbklaaDoorName
namespace Go.Proofs.YtoknncoolmbklaaDoor
set_option linter.unusedVariables false
set_option linter.unusedSimpArgs false
open Go.RowKit Go.Sort

theorem rHex (n : Nat) (h : n < 16) (w : World) : Calls Tryd.prog 74 #[.int .u8 n] w fun e w' => e = .returned (.int .u8 (hexD n).toNat) ∧ w = w' := by
  have hx := hexAt n h
  have h' : (n : Int) < 16 := by omega
  go_enter Tryd.func74, Tryd.ntmps74
  go_wp2
  go_ret
  exact ⟨rfl, rfl⟩

theorem conv2 (c d : Int) (W : World) : (convert 38 9 (.slice (some ⟨W.heap.size, 0, none⟩) 2 2)).run Tryd.prog (W.alloc (.cells #[.int .u8 c, .int .u8 d] 5)) = .ok (.string ⟨#[UInt8.ofNat c.toNat, UInt8.ofNat d.toNat]⟩) (W.alloc (.cells #[.int .u8 c, .int .u8 d] 5)) := by
  have h := run_convert_bytes_arg (P := Tryd.prog) (W.alloc (.cells #[.int .u8 c, .int .u8 d] 5)) 38 5 Tryd.underlying38 Tryd.underlying5 W.heap.size 0 2 2 [c, d] rfl
    (fun i hi => by rcases (show i = 0 ∨ i = 1 by omega) with rfl | rfl <;> simp [World.cell?_alloc_new]) 9 Tryd.underlying9
  rw [h]; rfl
theorem rHexI (m : Int) (n : Nat) (hm : m = n) (h : n < 16) (w : World) : Calls Tryd.prog 74 #[.int .u8 m] w fun e w' => e = .returned (.int .u8 (hexD n).toNat) ∧ w = w' := by subst hm; exact rHex n h w
set_option maxRecDepth 100000 in
theorem rEscaped (c : UInt8) (w : World) : Calls Tryd.prog 48 #[.int .u8 c.toNat] w fun e w' => e = .returned (.string ⟨(esc c).toArray⟩) ∧ Below w.heap.size w w' := by
  have hc256 : (c.toNat : Int) < 256 := by have := c.toNat_lt; omega
  have k1 := conv1
  have k2 := conv2
  have hci : IntKind.u8.wrap (c.toNat : Int) = c.toNat := IntWalk.u8_in _ (by omega)
  cases hp : plB c.toNat with
  | true =>
    have HE : Hid (esc c = [c]) := by unfold Hid esc; rw [if_pos hp]
    go_enter Tryd.func48, Tryd.ntmps48
    go_wp2_with (first | (go_at_call 73; refine (rPlain _ _).mono ?_; rintro e w' ⟨rfl, rfl⟩))
    go_ret
    exact ⟨ret_str (by rw [HE.out]), (Below.refl _ _).alloc (Nat.le_refl _) _⟩
  | false =>
    by_cases hl : letB c.toNat = true
    · have hv : ∀ n : Nat, c.toNat = n → c = UInt8.ofNat n := fun n h => by rw [← h]; simp
      have HE : Hid (∀ n : Nat, n < 256 → c.toNat = n → esc c = esc (UInt8.ofNat n)) := Lib.hid fun n _ h => by rw [hv n h]
      have HL : Hid (c.toNat = 34 ∨ c.toNat = 92 ∨ c.toNat = 10 ∨ c.toNat = 13 ∨ c.toNat = 9) := by
        unfold Hid; unfold letB at hl; simp at hl; omega
      clear hv hl
      go_enter Tryd.func48, Tryd.ntmps48
      go_wp2_with (first | (go_at_call 73; refine (rPlain _ _).mono ?_; rintro e w' ⟨rfl, rfl⟩))
      · have h : c.toNat = 34 := by have := ‹((c.toNat : Int) == 34) = true›; rw [beq_iff_eq] at this; omega
        go_ret
        exact ⟨ret_str (by rw [HE.out 34 (by decide) h]; decide), Below.refl _ _⟩
      · have h : c.toNat = 92 := by have := ‹((c.toNat : Int) == 92) = true›; rw [beq_iff_eq] at this; omega
        go_ret
        exact ⟨ret_str (by rw [HE.out 92 (by decide) h]; decide), Below.refl _ _⟩
      · have h : c.toNat = 10 := by have := ‹((c.toNat : Int) == 10) = true›; rw [beq_iff_eq] at this; omega
        go_ret
        exact ⟨ret_str (by rw [HE.out 10 (by decide) h]; decide), Below.refl _ _⟩
      · have h : c.toNat = 13 := by have := ‹((c.toNat : Int) == 13) = true›; rw [beq_iff_eq] at this; omega
        go_ret
        exact ⟨ret_str (by rw [HE.out 13 (by decide) h]; decide), Below.refl _ _⟩
      · have h : c.toNat = 9 := by have := ‹((c.toNat : Int) == 9) = true›; rw [beq_iff_eq] at this; omega
        go_ret
        exact ⟨ret_str (by rw [HE.out 9 (by decide) h]; decide), Below.refl _ _⟩
      · exfalso
        have h1 := ‹((c.toNat : Int) == 34) = false›
        have h2 := ‹((c.toNat : Int) == 92) = false›
        have h3 := ‹((c.toNat : Int) == 10) = false›
        have h4 := ‹((c.toNat : Int) == 13) = false›
        have h5 := ‹((c.toNat : Int) == 9) = false›
        rw [beq_eq_false_iff_ne] at h1 h2 h3 h4 h5
        have := HL.out
        omega
    · have HE : Hid (esc c = [92, 120, hexD (c.toNat / 16), hexD (c.toNat % 16)]) := by unfold Hid esc; rw [if_neg (by simp [hp]), if_neg hl]
      have hn : ((c.toNat : Int) == 34) = false ∧ ((c.toNat : Int) == 92) = false ∧ ((c.toNat : Int) == 10) = false ∧ ((c.toNat : Int) == 13) = false ∧ ((c.toNat : Int) == 9) = false := by
        unfold letB at hl; simp at hl
        refine ⟨?_, ?_, ?_, ?_, ?_⟩ <;> rw [beq_eq_false_iff_ne] <;> omega
      obtain ⟨n1, n2, n3, n4, n5⟩ := hn
      clear hl
      go_enter Tryd.func48, Tryd.ntmps48
      go_wp2_with (first | (go_at_call 73; refine (rPlain _ _).mono ?_; rintro e w' ⟨rfl, rfl⟩) | (go_at_call 74; refine (rHexI _ (c.toNat / 16) (by omega) (by omega) _).mono ?_; rintro e w' ⟨rfl, rfl⟩) | (go_at_call 74; refine (rHexI _ (c.toNat % 16) (by omega) (by omega) _).mono ?_; rintro e w' ⟨rfl, rfl⟩))
      go_ret
      exact ⟨ret_str (by rw [HE.out]; exact mk_append [92, 120] _), (Below.refl _ _).alloc (Nat.le_refl _) _⟩
end Go.Proofs.YtoknncoolmbklaaDoor
