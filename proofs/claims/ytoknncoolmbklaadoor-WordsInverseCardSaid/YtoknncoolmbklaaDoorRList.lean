/- List of the reference returns the list expression and the error that P1.6 names; conditions: the slice reads as these integers. -/
import Derived.Test.YtoknncoolmbklaaDoorList
import Derived.Test.YtoknncoolmbklaaDoorRDigits
import Derived.Test.YtoknncoolmbklaaDoorWriteField
import Derived.Deep.QuietTactic
import Derived.BigQuiet
import Derived.Deep.DeepCutAuto
namespace Go.Proofs.YtoknncoolmbklaaDoor
set_option linter.unusedVariables false
set_option linter.unusedSimpArgs false
open Go.RowKit Go.Sort
theorem numB_false {x : Int} (h : x < 0 ∨ 1000000000 < x) : numB x = false := by
  unfold numB; rw [Bool.and_eq_false_iff]; simp only [decide_eq_false_iff_not]; omega
theorem numB_true {x : Int} (h : 0 ≤ x ∧ x ≤ 1000000000) : numB x = true := by
  unfold numB; rw [Bool.and_eq_true]; simp only [decide_eq_true_iff]; exact h
def ascS (zs : List Int) : List UInt8 := if ascB zs = true then listL zs else []
def ascE (zs : List Int) : Int := if ascB zs = true then 0 else 6
theorem asc_no {zs : List Int} (h : ascB zs = false) : ascS zs = [] ∧ ascE zs = 6 := by unfold ascS ascE; rw [if_neg (by simp [h]), if_neg (by simp [h])]; exact ⟨rfl, rfl⟩
theorem asc_yes {zs : List Int} (h : ascB zs = true) : ascS zs = listL zs ∧ ascE zs = 0 := by unfold ascS ascE; rw [if_pos h, if_pos h]; exact ⟨rfl, rfl⟩
theorem decDigits_pos (u : Nat) : 0 < (Lib.decDigits u).length := by
  rw [Lib.decDigits]; split <;> simp
theorem itoa_pos (n : Int) : 0 < (Lib.itoa n).length := by
  unfold Lib.itoa; split
  · simp
  · exact decDigits_pos _
/-- What holds between two runs that are written. -/
def AtTxt (zs : List Int) (w : World) (v6 v7 : Value) (wr : World) : Prop :=
  ∃ (k : Nat) (T : List UInt8), k ≤ zs.length ∧ v7 = .int .i64 k ∧ v6 = .string ⟨T.toArray⟩ ∧ T.length ≤ 70 * k ∧ Below w.heap.size w wr ∧ Hid (k = 0 → T = []) ∧ Hid (k ≠ 0 → T ≠ []) ∧
    Hid (listC zs = T ++ (if k = 0 then listC zs else if zs.drop k = [] then [] else 44 :: listC (zs.drop k)))
set_option maxRecDepth 100000 in
set_option maxHeartbeats 2000000 in
theorem rList_write (b o cap : Nat) (zs : List Int) (w : World) (hlt : b < w.heap.size)
    (hc : ∀ i (h : i < zs.length), w.cell? ⟨b, o + i, none⟩ = some (.int .i64 zs[i])) (h5 : zs.length ≤ 500) (hn : numsB zs = true) (h0 : 0 < zs.length) :
    Calls Tryd.prog 31 #[.slice (some ⟨b, o, none⟩) zs.length cap] w fun e w' => e = .returned (.tuple #[.string ⟨(ascS zs).toArray⟩, .int .i64 (ascE zs)]) ∧ Below w.heap.size w w' := by
  have HC := Lib.hid hc
  have HN := Lib.hid (numsB_at hn)
  have h5' : (zs.length : Int) ≤ 500 := by omega
  have h0' : ((zs.length : Int) == 0) = false := by rw [beq_eq_false_iff_ne]; omega
  clear hc hn
  go_enter Tryd.func31, Tryd.ntmps31
  go_wp2_with fail
  go_loop [4] (fun i => ∃ k : Nat, k ≤ zs.length ∧ i = .int .i64 k) (fun i => zs.length - (intOf i).toNat)
  case atStart => exact ⟨0, by omega, rfl⟩
  case round =>
    obtain ⟨k, hk, rfl⟩ := hrel
    by_cases hkl : k < zs.length
    · have hz := HC.out k hkl
      have hb := HN.out k hkl
      have hb1 : ¬ zs[k] < 0 := by omega
      have hb2 : ¬ (1000000000 : Int) < zs[k] := by omega
      have hkI : (k : Int) < zs.length := by omega
      go_wp2_with fail
      go_round
      case rel => exact ⟨k + 1, by omega, by go_num⟩
      case measure => simp [intOf]; omega
    · have hkI : ¬ (k : Int) < zs.length := by omega
      go_wp2_with fail
      go_loopw [5] (fun i wr => ∃ k : Nat, (k ≤ zs.length ∨ k = 1) ∧ 1 ≤ k ∧ i = .int .i64 k ∧ Below w.heap.size w wr ∧ Hid (∀ j (hj : j + 1 < k) (h : j + 1 < zs.length), zs[j] < zs[j + 1])) (fun i _ => zs.length - (intOf i).toNat)
      case atStart => exact ⟨1, .inr rfl, by omega, rfl, Below.refl _ _, fun j hj => by omega⟩
      case round =>
        obtain ⟨k, hk, hk1, rfl, hbw, hall⟩ := hrel
        by_cases hkl : k < zs.length
        · obtain ⟨j, rfl⟩ : ∃ j, k = j + 1 := ⟨k - 1, by omega⟩
          have h0 : wr.cell? ⟨b, o + (j + 1), none⟩ = some (.int .i64 zs[j + 1]) := (hbw.cell (p := ⟨b, o + (j + 1), none⟩) hlt).trans (HC.out (j + 1) hkl)
          have h1 : wr.cell? ⟨b, o + j, none⟩ = some (.int .i64 zs[j]) := (hbw.cell (p := ⟨b, o + j, none⟩) hlt).trans (HC.out j (by omega))
          have hkl' : (j : Int) + 1 < zs.length := by omega
          have e1 : IntKind.i64.wrap ((j : Int) + 1 - 1) = j := by rw [IntWalk.i64_in _ (by omega)]; omega
          by_cases hle : zs[j + 1] ≤ zs[j]
          · have HA := Lib.hid (asc_no (ascB_false hkl hle))
            go_wp2_with fail
            go_quiet (fail)
            go_wp2_with fail
            go_ret2
            rw [HA.out.1, HA.out.2]
            exact ⟨rfl, below_drewN hbw _⟩
          · have hlt' : zs[j] < zs[j + 1] := by omega
            go_wp2_with fail
            go_quiet (fail)
            go_wp2_with fail
            refine ⟨⟨j + 1 + 1, .inl (by omega), by omega, by go_num, below_drewN hbw _, ?_⟩, by simp [intOf]; omega⟩
            intro i hi h
            by_cases hij : i = j
            · subst hij; exact hlt'
            · exact hall i (by omega) h
        · have HA := Lib.hid (asc_yes (ascB_iff.2 (fun j h => hall j (by omega) h)))
          have hkI2 : ¬ (k : Int) < zs.length := by omega
          obtain ⟨Wb, rfl⟩ : ∃ Wb : World, Wb = wr := ⟨_, rfl⟩
          have hlw := Nat.lt_of_lt_of_le hlt hbw.size
          have HCW : Hid (∀ i (h : i < zs.length), Wb.cell? ⟨b, o + i, none⟩ = some (.int .i64 zs[i])) := Lib.hid fun i h => (hbw.cell (p := ⟨b, o + i, none⟩) hlt).trans (HC.out i h)
          have HLL : Hid (listL zs = listC zs) := by
            unfold Hid listL; rw [if_neg (by intro h; rw [h] at h0; simp at h0)]
          go_wp2_with fail
          go_loopw [6, 7] (AtTxt zs Wb) (fun _ i _ => zs.length - (intOf i).toNat)
          case atStart => exact ⟨0, [], by omega, rfl, rfl, by simp, Below.refl _ _, fun _ => rfl, fun h => absurd rfl h, by unfold Hid; simp⟩
          case round =>
            obtain ⟨k, T, hk, rfl, rfl, hT, hbw3, HT0, HT1, HR⟩ := hrel
            obtain ⟨wo, rfl⟩ : ∃ wo : World, wo = wr := ⟨_, rfl⟩
            by_cases hkl : k < zs.length
            · have hkI : (k : Int) < zs.length := by omega
              go_wp2_with fail
              go_loopw [8] (fun v8 wx => ∃ j : Nat, k ≤ j ∧ j < zs.length ∧ v8 = .int .i64 j ∧ Below Wb.heap.size Wb wx ∧ Hid (∀ i (h : i + 1 < zs.length), k ≤ i → i < j → zs[i + 1] = zs[i] + 1)) (fun v8 _ => zs.length - (intOf v8).toNat)
              case atStart => exact ⟨k, Nat.le_refl _, hkl, rfl, hbw3, fun i h h1 h2 => absurd h1 (by omega)⟩
              case round =>
                obtain ⟨j, hkj, hjl, rfl, hbx, HJ⟩ := hrel
                have hcj : wr.cell? ⟨b, o + j, none⟩ = some (.int .i64 zs[j]) := (hbx.cell (p := ⟨b, o + j, none⟩) hlw).trans (HCW.out j hjl)
                have hck : wr.cell? ⟨b, o + k, none⟩ = some (.int .i64 zs[k]) := (hbx.cell (p := ⟨b, o + k, none⟩) hlw).trans (HCW.out k hkl)
                have hbj := HN.out j hjl
                have hbk := HN.out k hkl
                have hjI : (j : Int) < zs.length := by omega
                have e2 : IntKind.i64.wrap (zs[j] + 1) = zs[j] + 1 := IntWalk.i64_in _ (by omega)
                have e3 : IntKind.i64.wrap ((j : Int) + 1) = (j : Int) + 1 := IntWalk.i64_in _ (by omega)
                by_cases hnext : ∃ h : j + 1 < zs.length, zs[j + 1] = zs[j] + 1
                · obtain ⟨hj1, hnx⟩ := hnext
                  have hcn : wr.cell? ⟨b, o + (j + 1), none⟩ = some (.int .i64 zs[j + 1]) := (hbx.cell (p := ⟨b, o + (j + 1), none⟩) hlw).trans (HCW.out (j + 1) hj1)
                  have hj1I : (j : Int) + 1 < zs.length := by omega
                  have hd : decide ((j : Int) + 1 < (zs.length : Int)) = true := decide_eq_true hj1I
                  have heq : ((zs[j + 1] : Int) == zs[j] + 1) = true := by rw [beq_iff_eq]; exact hnx
                  have HNX := Lib.hid hnx
                  clear hnx
                  go_wp2_with fail
                  go_quiet (fail)
                  go_wp2_with fail
                  refine ⟨⟨j + 1, by omega, hj1, by go_num, below_drewN hbx _, fun i h h1 h2 => ?_⟩, by simp [intOf]; omega⟩
                  by_cases hij : i = j
                  · subst hij; exact HNX.out
                  · exact HJ.out i h h1 (by omega)
                · have HST : Hid (∀ h : j + 1 < zs.length, zs[j + 1] ≠ zs[j] + 1) := fun h he => hnext ⟨h, he⟩
                  clear hnext
                  have hlen : (zs.drop k).length = zs.length - k := List.length_drop
                  have hrun : runLen (zs.drop k) = j - k + 1 := by
                    refine runLen_of (by omega) (by omega) (fun i h h' => ?_) (fun h => ?_)
                    · rw [List.getElem_drop, List.getElem_drop]
                      exact HJ.out (k + i) (by omega) (by omega) (by omega)
                    · rw [List.getElem_drop, List.getElem_drop]
                      have := HST.out (by omega)
                      have e1 : zs[k + (j - k + 1)]'(by omega) = zs[j + 1]'(by omega) := by congr 1; omega
                      have e2 : zs[k + (j - k + 1 - 1)]'(by omega) = zs[j] := by congr 1; omega
                      rw [e1, e2]; exact this
                  have HRND := Lib.hid (listC_round hkl hrun (by omega) hjl)
                  have hgap : zs[j] = zs[k] + ((j - k : Nat) : Int) := by
                    have hg := runLen_get (zs.drop k) (j - k) (by omega) (by omega) (by omega)
                    rw [List.getElem_drop, List.getElem_drop] at hg
                    have e1 : zs[k + (j - k)]'(by omega) = zs[j] := by congr 1; omega
                    have e2 : zs[k + 0] = zs[k] := rfl
                    rw [e1, e2] at hg; exact hg
                  have HGAP := Lib.hid hgap
                  clear hlen hrun hgap
                  by_cases hj1 : j + 1 < zs.length
                  · have hd : decide ((j : Int) + 1 < (zs.length : Int)) = true := decide_eq_true (by omega)
                    have hj1I : (j : Int) + 1 < zs.length := by omega
                    have hcn : wr.cell? ⟨b, o + (j + 1), none⟩ = some (.int .i64 zs[j + 1]) := (hbx.cell (p := ⟨b, o + (j + 1), none⟩) hlw).trans (HCW.out (j + 1) hj1)
                    have heq : ((zs[j + 1] : Int) == zs[j] + 1) = false := by rw [beq_eq_false_iff_ne]; exact HST.out hj1
                    go_wp2_with fail
                    go_quiet (fail)
                    go_upto_if 77 with fail
                    go_cut [6] (fun v6 wx => ∃ T', v6 = .string ⟨T'.toArray⟩ ∧ Below Wb.heap.size Wb wx ∧ T'.length ≤ 70 * k + 1 ∧ Hid (listC zs = T' ++ listC (zs.drop k)))
                    case first =>
                      by_cases hk0 : k = 0
                      · have hT0 := HT0.out hk0
                        subst hT0
                        have HK0 := Lib.hid hk0
                        clear hk0
                        go_wp2_with fail
                        go_meet
                        refine ⟨[], rfl, below_drewN hbx _, by simp, ?_⟩
                        unfold Hid; rw [HK0.out]; simp
                      · have hTe : (!T.isEmpty) = true := by simpa using HT1.out hk0
                        have hTl : T.length + 1 ≤ 1000000 := by omega
                        have hne : ¬ zs.drop k = [] := by rw [List.drop_eq_nil_iff]; omega
                        go_wp2_with fail
                        · go_meet
                          refine ⟨T ++ [44], ?_, below_drewN hbx _, by simp; omega, ?_⟩
                          · rw [show (⟨#[44]⟩ : ByteArray) = ⟨[44].toArray⟩ from rfl, mk_append]
                          · have := HR.out
                            rw [if_neg hk0, if_neg hne] at this
                            unfold Hid; rw [this]; simp
                        · exfalso
                          have h1 := ‹(!T.isEmpty) = false›
                          rw [hTe] at h1
                          exact absurd h1 (by simp)
                    case rest =>
                      obtain ⟨T', rfl, hbc, hTl, HT'⟩ := hcut
                      have hckc : wc.cell? ⟨b, o + k, none⟩ = some (.int .i64 zs[k]) := (hbc.cell (p := ⟨b, o + k, none⟩) hlw).trans (HCW.out k hkl)
                      have lk := itoa_len (n := zs[k]) (by omega) (by omega)
                      have lj := itoa_len (n := zs[j]) (by omega) (by omega)
                      have hzc := hbc.size
                      clear hcj hck
                      go_wp2_with fail
                      refine (rDigits zs[k] (by omega) (by omega) _).mono ?_
                      rintro e W5 ⟨rfl, b5⟩
                      have hb5 := hbc.trans (b5.mono hzc)
                      have hz5 := hb5.size
                      have hcj5 : W5.cell? ⟨b, o + j, none⟩ = some (.int .i64 zs[j]) := (hb5.cell (p := ⟨b, o + j, none⟩) hlw).trans (HCW.out j hjl)
                      have hT5 : T'.length + (Lib.itoa zs[k]).length ≤ 1000000 := by omega
                      clear hckc b5
                      by_cases hjk : k = j
                      · subst hjk
                        have hlt2 : ¬ (k : Int) < k := by omega
                        have hrt : runTxt zs[k] zs[k] = Lib.itoa zs[k] := by unfold runTxt; rw [if_neg (by omega)]; simp
                        have HRT := Lib.hid hrt
                        clear hrt
                        go_wp2_with fail
                        refine ⟨⟨k + 1, T' ++ Lib.itoa zs[k], by omega, by go_num, by rw [mk_append], by simp; omega, hb5, ?_, ?_, ?_⟩, by simp [intOf]; omega⟩
                        · intro h; omega
                        · intro _ h
                          have := congrArg List.length h
                          have hp := itoa_pos zs[k]
                          rw [List.length_append, List.length_nil] at this; omega
                        · unfold Hid; rw [HT'.out, HRND.out, HRT.out, if_neg (show ¬ k + 1 = 0 by omega), List.append_assoc]
                      · have hlt2 : (k : Int) < j := by omega
                        have hrt : runTxt zs[k] zs[j] = Lib.itoa zs[k] ++ 45 :: Lib.itoa zs[j] := by unfold runTxt; rw [if_pos (by have := HGAP.out; omega)]
                        have HRT := Lib.hid hrt
                        clear hrt hjk
                        go_wp2_with fail
                        refine (rDigits zs[j] (by omega) (by omega) _).mono ?_
                        rintro e W6 ⟨rfl, b6⟩
                        have hb6 := hb5.trans (b6.mono hz5)
                        go_wp2_with fail
                        refine ⟨⟨j + 1, T' ++ (Lib.itoa zs[k] ++ 45 :: Lib.itoa zs[j]), by omega, by go_num, ?_, by simp; omega, hb6, ?_, ?_, ?_⟩, by simp [intOf]; omega⟩
                        · rw [mk_append, show (⟨#[45]⟩ : ByteArray) = ⟨[45].toArray⟩ from rfl, mk_append, mk_append]; simp
                        · intro h; omega
                        · intro _ h
                          have := congrArg List.length h
                          simp at this
                        · unfold Hid; rw [HT'.out, HRND.out, HRT.out, if_neg (show ¬ j + 1 = 0 by omega)]; simp
                  · have hd : decide ((j : Int) + 1 < (zs.length : Int)) = false := decide_eq_false (by omega)
                    have hj1I : ¬ (j : Int) + 1 < zs.length := by omega
                    go_wp2_with fail
                    go_quiet (fail)
                    go_upto_if 77 with fail
                    go_cut [6] (fun v6 wx => ∃ T', v6 = .string ⟨T'.toArray⟩ ∧ Below Wb.heap.size Wb wx ∧ T'.length ≤ 70 * k + 1 ∧ Hid (listC zs = T' ++ listC (zs.drop k)))
                    case first =>
                      by_cases hk0 : k = 0
                      · have hT0 := HT0.out hk0
                        subst hT0
                        have HK0 := Lib.hid hk0
                        clear hk0
                        go_wp2_with fail
                        go_meet
                        refine ⟨[], rfl, below_drewN hbx _, by simp, ?_⟩
                        unfold Hid; rw [HK0.out]; simp
                      · have hTe : (!T.isEmpty) = true := by simpa using HT1.out hk0
                        have hTl : T.length + 1 ≤ 1000000 := by omega
                        have hne : ¬ zs.drop k = [] := by rw [List.drop_eq_nil_iff]; omega
                        go_wp2_with fail
                        · go_meet
                          refine ⟨T ++ [44], ?_, below_drewN hbx _, by simp; omega, ?_⟩
                          · rw [show (⟨#[44]⟩ : ByteArray) = ⟨[44].toArray⟩ from rfl, mk_append]
                          · have := HR.out
                            rw [if_neg hk0, if_neg hne] at this
                            unfold Hid; rw [this]; simp
                        · exfalso
                          have h1 := ‹(!T.isEmpty) = false›
                          rw [hTe] at h1
                          exact absurd h1 (by simp)
                    case rest =>
                      obtain ⟨T', rfl, hbc, hTl, HT'⟩ := hcut
                      have hckc : wc.cell? ⟨b, o + k, none⟩ = some (.int .i64 zs[k]) := (hbc.cell (p := ⟨b, o + k, none⟩) hlw).trans (HCW.out k hkl)
                      have lk := itoa_len (n := zs[k]) (by omega) (by omega)
                      have lj := itoa_len (n := zs[j]) (by omega) (by omega)
                      have hzc := hbc.size
                      clear hcj hck
                      go_wp2_with fail
                      refine (rDigits zs[k] (by omega) (by omega) _).mono ?_
                      rintro e W5 ⟨rfl, b5⟩
                      have hb5 := hbc.trans (b5.mono hzc)
                      have hz5 := hb5.size
                      have hcj5 : W5.cell? ⟨b, o + j, none⟩ = some (.int .i64 zs[j]) := (hb5.cell (p := ⟨b, o + j, none⟩) hlw).trans (HCW.out j hjl)
                      have hT5 : T'.length + (Lib.itoa zs[k]).length ≤ 1000000 := by omega
                      clear hckc b5
                      by_cases hjk : k = j
                      · subst hjk
                        have hlt2 : ¬ (k : Int) < k := by omega
                        have hrt : runTxt zs[k] zs[k] = Lib.itoa zs[k] := by unfold runTxt; rw [if_neg (by omega)]; simp
                        have HRT := Lib.hid hrt
                        clear hrt
                        go_wp2_with fail
                        refine ⟨⟨k + 1, T' ++ Lib.itoa zs[k], by omega, by go_num, by rw [mk_append], by simp; omega, hb5, ?_, ?_, ?_⟩, by simp [intOf]; omega⟩
                        · intro h; omega
                        · intro _ h
                          have := congrArg List.length h
                          have hp := itoa_pos zs[k]
                          rw [List.length_append, List.length_nil] at this; omega
                        · unfold Hid; rw [HT'.out, HRND.out, HRT.out, if_neg (show ¬ k + 1 = 0 by omega), List.append_assoc]
                      · have hlt2 : (k : Int) < j := by omega
                        have hrt : runTxt zs[k] zs[j] = Lib.itoa zs[k] ++ 45 :: Lib.itoa zs[j] := by unfold runTxt; rw [if_pos (by have := HGAP.out; omega)]
                        have HRT := Lib.hid hrt
                        clear hrt hjk
                        go_wp2_with fail
                        refine (rDigits zs[j] (by omega) (by omega) _).mono ?_
                        rintro e W6 ⟨rfl, b6⟩
                        have hb6 := hb5.trans (b6.mono hz5)
                        go_wp2_with fail
                        refine ⟨⟨j + 1, T' ++ (Lib.itoa zs[k] ++ 45 :: Lib.itoa zs[j]), by omega, by go_num, ?_, by simp; omega, hb6, ?_, ?_, ?_⟩, by simp [intOf]; omega⟩
                        · rw [mk_append, show (⟨#[45]⟩ : ByteArray) = ⟨[45].toArray⟩ from rfl, mk_append, mk_append]; simp
                        · intro h; omega
                        · intro _ h
                          have := congrArg List.length h
                          simp at this
                        · unfold Hid; rw [HT'.out, HRND.out, HRT.out, if_neg (show ¬ j + 1 = 0 by omega)]; simp
            · have hkI : ¬ (k : Int) < zs.length := by omega
              have HE : Hid (listC zs = T) := by
                have := HR.out
                rw [if_neg (by omega), List.drop_eq_nil_of_le (by omega), if_pos rfl, List.append_nil] at this
                exact this
              go_wp2_with fail
              go_ret2
              rw [HA.out.1, HA.out.2, HLL.out, HE.out]
              exact ⟨rfl, hbw.trans (hbw3.mono hbw.size)⟩

theorem IntsAt.shape {w : World} {v : Value} {zs : List Int} (h : IntsAt w v zs) : ∃ p c, v = .slice p zs.length c := by
  rcases h with ⟨rfl, rfl⟩ | ⟨b, o, cap, rfl, _⟩
  · exact ⟨_, _, rfl⟩
  · exact ⟨_, _, rfl⟩
set_option maxRecDepth 100000 in
set_option maxHeartbeats 1000000 in
theorem rList (v : Value) (zs : List Int) (w : World) (hz : IntsAt w v zs) :
    Calls Tryd.prog 31 #[v] w fun e w' => e = .returned (.tuple #[.string ⟨(lisS zs).toArray⟩, .int .i64 (lisE zs)]) ∧ Below w.heap.size w w' := by
  by_cases h5 : 500 < zs.length
  · obtain ⟨p, c, rfl⟩ := hz.shape
    have h5' : (500 : Int) < zs.length := by omega
    have HR := Lib.hid (lis_long h5)
    clear hz h5
    go_enter Tryd.func31, Tryd.ntmps31
    go_wp2_with fail
    go_ret2
    rw [HR.out.1, HR.out.2]
    exact ⟨rfl, Below.refl _ _⟩
  have h5' : (zs.length : Int) ≤ 500 := by omega
  rcases hz with ⟨rfl, rfl⟩ | ⟨b, o, cap, rfl, hlt, hm, hm', hc⟩
  · have HR : Hid (lisE [] = 0 ∧ lisS [] = [45]) := by unfold Hid; decide
    clear h5
    go_enter Tryd.func31, Tryd.ntmps31
    go_wp2_with fail
    go_rounds 1
    go_wp2_with fail
    go_rounds 1
    go_wp2_with fail
    go_ret2
    rw [HR.out.1, HR.out.2]
    exact ⟨rfl, Below.refl _ _⟩
  · cases hn : numsB zs with
    | true =>
      by_cases h0 : 0 < zs.length
      · refine (rList_write b o cap zs w hlt hc (by omega) hn h0).mono ?_
        rintro e w' ⟨rfl, hb⟩
        refine ⟨?_, hb⟩
        cases ha : ascB zs with
        | true =>
          have h1 := lis_ok h5 hn ha
          have h2 := asc_yes ha
          rw [h1.1, h1.2, h2.1, h2.2]
        | false =>
          have h1 := lis_asc h5 hn ha
          have h2 := asc_no ha
          rw [h1.1, h1.2, h2.1, h2.2]
      · have hz0 : zs = [] := List.eq_nil_of_length_eq_zero (by omega)
        subst hz0
        have HR : Hid (lisE [] = 0 ∧ lisS [] = [45]) := by unfold Hid; decide
        clear h5 hc hn h0
        go_enter Tryd.func31, Tryd.ntmps31
        go_wp2_with fail
        go_rounds 1
        go_wp2_with fail
        go_rounds 1
        go_wp2_with fail
        go_ret2
        rw [HR.out.1, HR.out.2]
        exact ⟨rfl, Below.refl _ _⟩
    | false =>
      have HR := Lib.hid (lis_num h5 hn)
      have HC := Lib.hid hc
      have HNB := Lib.hid hn
      clear hc hn h5
      go_enter Tryd.func31, Tryd.ntmps31
      go_wp2_with fail
      go_loop [4] (fun i => ∃ k : Nat, k ≤ zs.length ∧ i = .int .i64 k ∧ Hid (∀ j (h : j < zs.length), j < k → numB zs[j] = true)) (fun i => zs.length - (intOf i).toNat)
      case atStart => exact ⟨0, by omega, rfl, fun j h hj => by omega⟩
      case round =>
        obtain ⟨k, hk, rfl, HA⟩ := hrel
        by_cases hkl : k < zs.length
        · have hz := HC.out k hkl
          have hkI : (k : Int) < zs.length := by omega
          by_cases h1 : zs[k] < 0
          · go_wp2_with fail
            go_ret2
            rw [HR.out.1, HR.out.2]
            exact ⟨rfl, Below.refl _ _⟩
          · by_cases h2 : (1000000000 : Int) < zs[k]
            · go_wp2_with fail
              go_ret2
              rw [HR.out.1, HR.out.2]
              exact ⟨rfl, Below.refl _ _⟩
            · have HNK := Lib.hid (numB_true (x := zs[k]) (by omega))
              go_wp2_with fail
              go_round
              case rel =>
                refine ⟨k + 1, by omega, by go_num, fun j h hj => ?_⟩
                by_cases hjk : j = k
                · subst hjk; exact HNK.out
                · exact HA.out j h (by omega)
              case measure => simp [intOf]; omega
        · exfalso
          have : numsB zs = true := by
            unfold numsB; rw [List.all_eq_true]
            intro x hx
            obtain ⟨j, hj, rfl⟩ := List.mem_iff_getElem.1 hx
            exact HA.out j hj (by omega)
          rw [HNB.out] at this
          exact absurd this (by simp)
end Go.Proofs.YtoknncoolmbklaaDoor
