/- readByte of the package reads one byte of a quoted text, escaped or plain; conditions: Amb, a bound on the string's length. -/
import Derived.Test.YtoknncoolmbklaaDoorHex
import Derived.Deep.QuietTactic
import Derived.BigQuiet
namespace Go.Proofs.YtoknncoolmbklaaDoor
set_option linter.unusedVariables false
set_option linter.unusedSimpArgs false
open Go.RowKit Go.Sort
theorem data1 (s : ByteArray) (h : 0 < s.size) : ∃ r, s.data.toList = s[0] :: r := by
  cases hd : s.data.toList with
  | nil => have := len_data s; rw [hd] at this; simp at this; omega
  | cons a r => 
    refine ⟨r, ?_⟩
    have : s.data.toList[0]? = some s[0] := by rw [List.getElem?_eq_getElem (by simpa using h)]; rfl
    rw [hd] at this; simp at this; rw [this]
theorem data2 (s : ByteArray) (h : 1 < s.size) : ∃ r, s.data.toList = s[0] :: s[1] :: r := by
  obtain ⟨r, hr⟩ := data1 s (by omega)
  cases r with
  | nil => have := len_data s; rw [hr] at this; simp at this; omega
  | cons b r =>
    refine ⟨r, ?_⟩
    have : s.data.toList[1]? = some s[1] := by rw [List.getElem?_eq_getElem (by simpa using h)]; rfl
    rw [hr] at this; simp at this; rw [hr, this]

theorem rb_let (s : ByteArray) (h1 : 1 < s.size) (h0 : s[0].toNat = 92) (hx : s[1].toNat ≠ 120) : rbL s.data.toList = (unlet s[1].toNat).map fun c => (c, 2) := by
  obtain ⟨r, hr⟩ := data2 s h1
  rw [hr]
  have e0 : s[0] = 92 := UInt8.toNat_inj.1 (by rw [h0]; rfl)
  have hp : plB ((92 : UInt8).toNat : Int) = false := by decide
  have e1 : s[1] ≠ 120 := fun h => hx (by rw [h]; rfl)
  rw [e0]
  simp [rbL, show plB 92 = false from by decide, e1]
set_option maxRecDepth 100000 in
set_option maxHeartbeats 400000 in
theorem wReadByte_let (s : ByteArray) (w : World) (ha : Amb w) (h1 : 1 < s.size) (h0 : s[0].toNat = 92) (hx : s[1].toNat ≠ 120) :
    Calls Tryd.prog 69 #[.string s] w fun e w' => e = .returned (.tuple #[.int .u8 (oV (rbL s.data.toList)), .int .i64 (oN (rbL s.data.toList))]) ∧ Below w.heap.size w w' := by
  have hp : plB s[0].toNat = false := by rw [h0]; rfl
  have h0' : ((s[0].toNat : Int) != 92) = false := by rw [h0]; rfl
  have h1' : ((s.size : Int) == 1) = false := by rw [beq_eq_false_iff_ne]; omega
  have hx' : ((s[1].toNat : Int) == 120) = false := by rw [beq_eq_false_iff_ne]; omega
  have H0 := Lib.hid h0
  have HX := Lib.hid hx
  clear h0 hx
  obtain ⟨t, fr, hg⟩ := ha.escRow
  have HG := Lib.hid hg
  clear hg
  have i0 : ∀ w, (Instr.index 119 (.agg escCells) (.int .i64 0)).run Tryd.prog w = .ok (.agg #[.int .u8 34, .int .u8 34]) w := fun _ => by kernel_rfl
  have i1 : ∀ w, (Instr.index 119 (.agg escCells) (.int .i64 1)).run Tryd.prog w = .ok (.agg #[.int .u8 92, .int .u8 92]) w := fun _ => by kernel_rfl
  have i2 : ∀ w, (Instr.index 119 (.agg escCells) (.int .i64 2)).run Tryd.prog w = .ok (.agg #[.int .u8 10, .int .u8 110]) w := fun _ => by kernel_rfl
  have i3 : ∀ w, (Instr.index 119 (.agg escCells) (.int .i64 3)).run Tryd.prog w = .ok (.agg #[.int .u8 13, .int .u8 114]) w := fun _ => by kernel_rfl
  have i4 : ∀ w, (Instr.index 119 (.agg escCells) (.int .i64 4)).run Tryd.prog w = .ok (.agg #[.int .u8 9, .int .u8 116]) w := fun _ => by kernel_rfl
  go_enter Tryd.func69, Tryd.ntmps69
  go_wp2_with (first | (go_at_call 71; refine (wPlain _ _).mono ?_; rintro e w' ⟨rfl, rfl⟩) | (refine wpList_load_row rfl 119 _ rfl 0 rfl t _ fr _ HG.out Tryd.underlying119 rfl (by kernel_rfl) ?_))
  refine wp_loop_rounds 6 ?_
  rw [rounds_succ]
  go_wp2
  go_quiet (fail)
  go_wp2
  rotate_left
  · rw [rounds_succ]
    go_wp2
    go_quiet (fail)
    go_wp2
    rotate_left
    · rw [rounds_succ]
      go_wp2
      go_quiet (fail)
      go_wp2
      rotate_left
      · rw [rounds_succ]
        go_wp2
        go_quiet (fail)
        go_wp2
        rotate_left
        · rw [rounds_succ]
          go_wp2
          go_quiet (fail)
          go_wp2
          rotate_left
          · rw [rounds_succ]
            go_wp2
            go_ret2
            refine ⟨?_, by repeat' (first | exact Below.refl _ _ | refine below_drewN ?_ _ | refine Below.alloc ?_ (by simp <;> omega) _)⟩
            rw [rb_let s h1 H0.out HX.out]
            simp only [beq_iff_eq, beq_eq_false_iff_ne, ne_eq] at *
            unfold unlet
            rw [if_neg (by omega), if_neg (by omega), if_neg (by omega), if_neg (by omega), if_neg (by omega)]
            rfl
          · go_ret2
            refine ⟨?_, by repeat' (first | exact Below.refl _ _ | refine below_drewN ?_ _ | refine Below.alloc ?_ (by simp <;> omega) _)⟩
            have hb : (s[1].toNat : Int) = 116 := by have := ‹((116 : Int) == (s[1].toNat : Int)) = true›; simp only [beq_iff_eq] at this; omega
            rw [rb_let s h1 H0.out HX.out, hb]; rfl
        · go_ret2
          refine ⟨?_, by repeat' (first | exact Below.refl _ _ | refine below_drewN ?_ _ | refine Below.alloc ?_ (by simp <;> omega) _)⟩
          have hb : (s[1].toNat : Int) = 114 := by have := ‹((114 : Int) == (s[1].toNat : Int)) = true›; simp only [beq_iff_eq] at this; omega
          rw [rb_let s h1 H0.out HX.out, hb]; rfl
      · go_ret2
        refine ⟨?_, by repeat' (first | exact Below.refl _ _ | refine below_drewN ?_ _ | refine Below.alloc ?_ (by simp <;> omega) _)⟩
        have hb : (s[1].toNat : Int) = 110 := by have := ‹((110 : Int) == (s[1].toNat : Int)) = true›; simp only [beq_iff_eq] at this; omega
        rw [rb_let s h1 H0.out HX.out, hb]; rfl
    · go_ret2
      refine ⟨?_, by repeat' (first | exact Below.refl _ _ | refine below_drewN ?_ _ | refine Below.alloc ?_ (by simp <;> omega) _)⟩
      have hb : (s[1].toNat : Int) = 92 := by have := ‹((92 : Int) == (s[1].toNat : Int)) = true›; simp only [beq_iff_eq] at this; omega
      rw [rb_let s h1 H0.out HX.out, hb]; rfl
  · go_ret2
    refine ⟨?_, by repeat' (first | exact Below.refl _ _ | refine below_drewN ?_ _ | refine Below.alloc ?_ (by simp <;> omega) _)⟩
    have hb : (s[1].toNat : Int) = 34 := by have := ‹((34 : Int) == (s[1].toNat : Int)) = true›; simp only [beq_iff_eq] at this; omega
    rw [rb_let s h1 H0.out HX.out, hb]; rfl

set_option maxRecDepth 100000 in
theorem wReadByte (s : ByteArray) (w : World) (ha : Amb w) (h0 : 0 < s.size) :
    Calls Tryd.prog 69 #[.string s] w fun e w' => e = .returned (.tuple #[.int .u8 (oV (rbL s.data.toList)), .int .i64 (oN (rbL s.data.toList))]) ∧ Below w.heap.size w w' := by
  obtain ⟨r, hr⟩ := data1 s h0
  cases hp : plB s[0].toNat with
  | true =>
    have HS : Hid (rbL s.data.toList = some ((s[0].toNat : Int), 1)) := by unfold Hid; rw [hr]; simp [rbL, hp]
    clear hr
    go_enter Tryd.func69, Tryd.ntmps69
    go_wp2_with (first | (go_at_call 71; refine (wPlain _ _).mono ?_; rintro e w' ⟨rfl, rfl⟩))
    go_ret2
    rw [HS.out]
    exact ⟨ret_u8i rfl rfl, Below.refl _ _⟩
  | false =>
    by_cases h92 : s[0].toNat = 92
    · by_cases h1 : 1 < s.size
      · by_cases hx : s[1].toNat = 120
        · have h0' : ((s[0].toNat : Int) != 92) = false := by rw [h92]; rfl
          have h1' : ((s.size : Int) == 1) = false := by rw [beq_eq_false_iff_ne]; omega
          have hx' : ((s[1].toNat : Int) == 120) = true := by rw [hx]; rfl
          have HS : Hid (rbL s.data.toList = rhexL s.data.toList) := by
            obtain ⟨r, hr⟩ := data2 s h1
            unfold Hid; rw [hr]
            have e0 : s[0] = 92 := UInt8.toNat_inj.1 (by rw [h92]; rfl)
            have e1 : s[1] = 120 := UInt8.toNat_inj.1 (by rw [hx]; rfl)
            simp [rbL, show plB 92 = false from by decide, e0, e1]
          clear hr h92 hx
          go_enter Tryd.func69, Tryd.ntmps69
          go_wp2_with (first | (go_at_call 71; refine (wPlain _ _).mono ?_; rintro e w' ⟨rfl, rfl⟩) | (go_at_call 96; refine (wReadHex _ _ ha).mono ?_; rintro e w' ⟨rfl, hb⟩))
          go_ret2
          rw [HS.out]
          exact ⟨ret_u8i rfl rfl, hb⟩
        · exact wReadByte_let s w ha h1 h92 hx
      · have h0' : ((s[0].toNat : Int) != 92) = false := by rw [h92]; rfl
        have h1' : ((s.size : Int) == 1) = true := by rw [beq_iff_eq]; omega
        have HS : Hid (rbL s.data.toList = none) := by
          have hl := len_data s
          unfold Hid; rw [hr] at hl ⊢
          cases r with
          | nil => simp [rbL, hp]
          | cons b r => simp at hl; omega
        clear hr h92
        go_enter Tryd.func69, Tryd.ntmps69
        go_wp2_with (first | (go_at_call 71; refine (wPlain _ _).mono ?_; rintro e w' ⟨rfl, rfl⟩))
        go_ret2
        rw [HS.out]
        exact ⟨ret_u8i rfl rfl, Below.refl _ _⟩
    · have h0' : ((s[0].toNat : Int) != 92) = true := by rw [bne_iff_ne]; omega
      have HS : Hid (rbL s.data.toList = none) := by
        unfold Hid; rw [hr]
        have : s[0] ≠ 92 := fun h => h92 (by rw [h]; rfl)
        simp [rbL, hp, this]
      clear hr h92
      go_enter Tryd.func69, Tryd.ntmps69
      go_wp2_with (first | (go_at_call 71; refine (wPlain _ _).mono ?_; rintro e w' ⟨rfl, rfl⟩))
      go_ret2
      rw [HS.out]
      exact ⟨ret_u8i rfl rfl, Below.refl _ _⟩
end Go.Proofs.YtoknncoolmbklaaDoor
