/- Digits of the reference returns the decimal text of every int64, by induction on its size; no further conditions. -/
import Derived.Test.YtoknncoolmbklaaDoorDigits
import Derived.Test.YtoknncoolmbklaaDoorPlain
import Derived.Deep.RegionWith
import Derived.WalkSpells
import Derived.Deep.DeepCutAuto
namespace Go.Proofs.YtoknncoolmbklaaDoor
set_option linter.unusedVariables false
set_option linter.unusedSimpArgs false
open Go.RowKit Go.Sort
theorem bcell {W w1 : World} (hb : Below W.heap.size W w1) : (∀ b o, b < W.heap.size → w1.cell? ⟨b, o, none⟩ = W.cell? ⟨b, o, none⟩) ∧ (∀ b o, b < W.heap.size → w1.frozen? ⟨b, o, none⟩ = W.frozen? ⟨b, o, none⟩) :=
  ⟨fun b o h => hb.cell (p := ⟨b, o, none⟩) h, fun b o h => hb.frozen (p := ⟨b, o, none⟩) h⟩
theorem convB (b : Nat) (c : Int) (W : World) (hc : W.cell? ⟨b, 0, none⟩ = some (.int .u8 c)) : (convert 38 9 (.slice (some ⟨b, 0, none⟩) 1 1)).run Tryd.prog W = .ok (.string ⟨#[UInt8.ofNat c.toNat]⟩) W := by
  have h := run_convert_bytes_arg (P := Tryd.prog) W 38 5 Tryd.underlying38 Tryd.underlying5 b 0 1 1 [c] rfl
    (fun i hi => by obtain rfl : i = 0 := by omega
                    simpa using hc) 9 Tryd.underlying9
  rw [h]; rfl
set_option maxRecDepth 100000 in
theorem rDigits_neg (n : Int) (h0 : -9 ≤ n) (h1 : n < 0) (w : World) :
    Calls Tryd.prog 18 #[.int .i64 n] w fun e w' => e = .returned (.string ⟨(Lib.itoa n).toArray⟩) ∧ Below w.heap.size w w' := by
  have hl := itoa_len (n := -n) (by omega) (by omega)
  go_enter Tryd.func18, Tryd.ntmps18
  go_wp2_with (go_at_call 18; go_must (refine (rDigits_small _ (by omega) (by omega) _).mono ?_; rintro e w' ⟨rfl, hb⟩))
  go_ret
  exact ⟨ret_str (by rw [itoa_neg h1]; exact mk_append [45] _), hb⟩

theorem ret_i {k : IntKind} {a b : Int} (h : a = b) : Value.int k a = .int k b := by rw [h]
theorem tparts (n : Int) (h : n < 0) : n = 10 * n.tdiv 10 + n.tmod 10 ∧ n.tmod 10 ≤ 0 ∧ -9 ≤ n.tmod 10 := by
  have e : n.tmod 10 = -((-n) % 10) := by rw [← Int.tmod_eq_emod_of_nonneg (by omega), Int.neg_tmod, Int.neg_neg]
  have := Int.mul_tdiv_add_tmod n 10
  omega

set_option maxRecDepth 100000 in
set_option maxHeartbeats 400000 in
theorem rDigits_low (n q m : Int) (w : World) (hn : n < -9) (hlo : -9223372036854775808 ≤ n) (hq : Hid (n.tdiv 10 = q)) (hm : Hid (n.tmod 10 = -m)) (hqb : -922337203685477580 ≤ q ∧ q ≤ 0) (hmb : 0 ≤ m ∧ m ≤ 9)
    (ih : ∀ W : World, Calls Tryd.prog 18 #[.int .i64 q] W fun e w' => e = .returned (.string ⟨(Lib.itoa q).toArray⟩) ∧ Below W.heap.size W w') :
    Calls Tryd.prog 18 #[.int .i64 n] w fun e w' => e = .returned (.string ⟨(Lib.itoa q ++ [UInt8.ofNat (48 + m).toNat]).toArray⟩) ∧ Below w.heap.size w w' := by
  have k1 := convB
  have hl := itoa_len (n := q) (by omega) (by omega)
  have hd : decide (n < -9) = true := by simpa using hn
  have IH := Lib.hid ih
  clear ih
  have hm' := hm.out
  have hq' := hq.out
  go_enter Tryd.func18, Tryd.ntmps18
  go_upto_if 13 with fail
  go_cut [3] (fun v wx => wx = w ∧ v = .int .i64 m)
  case first =>
    go_wp2_with fail
    all_goals (go_meet; exact ⟨rfl, ret_i (by omega)⟩)
  case rest =>
    obtain ⟨rfl, rfl⟩ := hcut
    go_wp2_with fail
    have a1 : IntKind.i64.wrap q = q := IntWalk.i64_in _ (by omega)
    have a2 : IntKind.i64.wrap (48 + m) = 48 + m := IntWalk.i64_in _ (by omega)
    have a3 : IntKind.u8.wrap (48 + m) = 48 + m := IntWalk.u8_in _ (by omega)
    go_region_with (go_at_call 18; with_reducible refine (IH.out _).mono ?_; rintro e w' ⟨rfl, hb⟩; obtain ⟨hc, hf⟩ := bcell hb)
    all_goals
      go_wp2_with fail
      go_ret
      refine ⟨ret_str (mk_append _ [_]), ?_⟩
      first
        | exact ((Below.refl _ _).drew.trans hb).alloc hb.size _
        | exact (((Below.refl _ _).alloc (Nat.le_refl _) _).drew).trans (hb.mono (by simp))

set_option maxRecDepth 100000 in
set_option maxHeartbeats 400000 in
theorem rDigits_high (n q m : Int) (w : World) (hn : 9 < n) (hhi : n ≤ 9223372036854775807) (hq : Hid (n / 10 = q)) (hm : Hid (n % 10 = m)) (hqb : 0 ≤ q ∧ q ≤ 922337203685477580) (hmb : 0 ≤ m ∧ m ≤ 9)
    (ih : ∀ W : World, Calls Tryd.prog 18 #[.int .i64 q] W fun e w' => e = .returned (.string ⟨(Lib.itoa q).toArray⟩) ∧ Below W.heap.size W w') :
    Calls Tryd.prog 18 #[.int .i64 n] w fun e w' => e = .returned (.string ⟨(Lib.itoa q ++ [UInt8.ofNat (48 + m).toNat]).toArray⟩) ∧ Below w.heap.size w w' := by
  have k1 := convB
  have hl := itoa_len (n := q) (by omega) (by omega)
  have IH := Lib.hid ih
  clear ih
  have hm' := hm.out
  have hq' := hq.out
  have hq2 : n.tdiv 10 = q := by rw [Int.tdiv_eq_ediv_of_nonneg (by omega)]; exact hq'
  go_enter Tryd.func18, Tryd.ntmps18
  go_upto_if 13 with fail
  go_cut [3] (fun v wx => wx = w ∧ v = .int .i64 m)
  case first =>
    go_wp2_with fail
    all_goals (go_meet; exact ⟨rfl, ret_i (by omega)⟩)
  case rest =>
    obtain ⟨rfl, rfl⟩ := hcut
    go_wp2_with fail
    have a1 : IntKind.i64.wrap q = q := IntWalk.i64_in _ (by omega)
    have a2 : IntKind.i64.wrap (48 + m) = 48 + m := IntWalk.i64_in _ (by omega)
    have a3 : IntKind.u8.wrap (48 + m) = 48 + m := IntWalk.u8_in _ (by omega)
    go_region_with (go_at_call 18; with_reducible refine (IH.out _).mono ?_; rintro e w' ⟨rfl, hb⟩; obtain ⟨hc, hf⟩ := bcell hb)
    all_goals
      go_wp2_with fail
      go_ret
      refine ⟨ret_str (mk_append _ [_]), ?_⟩
      first
        | exact ((Below.refl _ _).drew.trans hb).alloc hb.size _
        | exact (((Below.refl _ _).alloc (Nat.le_refl _) _).drew).trans (hb.mono (by simp))

theorem rDigits_ind (k : Nat) : ∀ (n : Int) (w : World), n.natAbs ≤ k → -9223372036854775808 ≤ n → n ≤ 9223372036854775807 →
    Calls Tryd.prog 18 #[.int .i64 n] w fun e w' => e = .returned (.string ⟨(Lib.itoa n).toArray⟩) ∧ Below w.heap.size w w' := by
  induction k with
  | zero => intro n w hk _ _; exact rDigits_small n (by omega) (by omega) w
  | succ k ih =>
    intro n w hk hlo hhi
    by_cases h9 : n ≤ 9
    · by_cases hn9 : -9 ≤ n
      · by_cases hn0 : 0 ≤ n
        · exact rDigits_small n hn0 h9 w
        · exact rDigits_neg n hn9 (by omega) w
      · obtain ⟨e1, e2, e3⟩ := tparts n (by omega)
        rw [itoa_step_neg (by omega)]
        exact rDigits_low n _ (-n.tmod 10) w (by omega) hlo rfl (by unfold Hid; omega) (by omega) (by omega) (fun W => ih _ W (by omega) (by omega) (by omega))
    · rw [itoa_step_pos (by omega)]
      exact rDigits_high n _ _ w (by omega) hhi rfl rfl (by omega) (by omega) (fun W => ih _ W (by omega) (by omega) (by omega))

theorem rDigits (n : Int) (h0 : -9223372036854775808 ≤ n) (h1 : n ≤ 9223372036854775807) (w : World) :
    Calls Tryd.prog 18 #[.int .i64 n] w fun e w' => e = .returned (.string ⟨(Lib.itoa n).toArray⟩) ∧ Below w.heap.size w w' :=
  rDigits_ind n.natAbs n w (Nat.le_refl _) h0 h1
end Go.Proofs.YtoknncoolmbklaaDoor
