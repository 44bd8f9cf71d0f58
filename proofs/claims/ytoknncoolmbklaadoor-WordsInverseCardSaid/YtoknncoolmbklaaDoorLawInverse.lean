/- The contract of the law's function of P1.7: on every string, fields and numbers it returns true; under the ambient facts of Amb. -/
import Derived.Test.YtoknncoolmbklaaDoorInvQ
import Derived.Test.YtoknncoolmbklaaDoorFar
import Derived.Test.YtoknncoolmbklaaDoorShown
import Derived.Test.YtoknncoolmbklaaDoorLawSplits
import Derived.Deep.DeepCutAuto
import Derived.RangeFuncRecord
import Derived.StillTailTactics
namespace Go.Proofs.YtoknncoolmbklaaDoor
set_option linter.unusedVariables false
set_option linter.unusedSimpArgs false
open Go.RowKit Go.Sort
/-- What stays, from piece to piece: the box of the numbers. -/
def InvAt (w : World) (vz : Value) (n : Int) (wx : World) : Prop :=
  Below w.heap.size w wx ∧ w.heap.size < wx.heap.size ∧ wx.cell? ⟨w.heap.size, 0, none⟩ = some vz ∧ wx.cell? ⟨w.heap.size, 1, none⟩ = some (.int .i64 n)
theorem InvAt.step {w w1 w2 : World} {vz : Value} {n : Int} (h : InvAt w vz n w1) (b : Below w1.heap.size w1 w2) : InvAt w vz n w2 := by
  obtain ⟨h1, h2, h3, h4⟩ := h
  exact ⟨h1.trans (b.mono h1.size), Nat.lt_of_lt_of_le h2 b.size, (b.cell (p := ⟨w.heap.size, 0, none⟩) h2).trans h3, (b.cell (p := ⟨w.heap.size, 1, none⟩) h2).trans h4⟩
theorem InvAt.box (w : World) (vz : Value) (n : Int) (t : TypeId) : InvAt w vz n (w.alloc (.cells #[vz, .int .i64 n] t)) := by
  have h := World.alloc_heap_new w (.cells #[vz, .int .i64 n] t)
  have hlt := (Array.getElem?_eq_some_iff.1 h).1
  exact ⟨Below.alloc (Below.refl _ _) (Nat.le_refl _) _, hlt, by simp only [World.cell?, h]; rfl, by simp only [World.cell?, h]; rfl⟩
theorem owns_cap {w : World} {base n : Nat} {e : TypeId} {size : Nat} {v : Value} {xs : List Value} (h : w.ownsRow base e size v n xs) : ∀ p m c, v = .slice p m c → c ≤ 9223372036854775807 := by
  intro p m c hv
  obtain ⟨_, h | ⟨g, cap, cur, rfl, _, _, _, hc, _⟩⟩ := h
  · rw [h.1] at hv; injection hv with _ _ h3; omega
  · injection hv with _ _ h3; rw [← h3]; exact hc
set_option maxRecDepth 100000 in
set_option maxHeartbeats 8000000 in
theorem lInverse (s : ByteArray) (vl vz : Value) (fs : List FL) (zs : List Int) (n : Int) (hn : inI64 n) (w : World) (ha : Amb w) (hl : FieldsAt w vl fs) (hz : IntsAt w vz zs) (hs : s.size ≤ 3000) :
    Calls Tryd.prog 9 #[.string s, vl, .agg #[vz, .int .i64 n]] w fun e w' => e = .returned (.bool true) ∧ Below w.heap.size w w' := by
  obtain ⟨pl, cl, rfl⟩ := hl.shape
  obtain ⟨pz, cz, rfl⟩ := hz.shape
  have HS := Lib.hid hs
  have HL := Lib.hid hl
  have HZ := Lib.hid hz
  have HN := Lib.hid hn
  have hsI : decide ((3000 : Int) < s.size) = false := decide_eq_false (by omega)
  have hsI' : ¬ (3000 : Int) < s.size := by omega
  clear hs hl hz hn
  go_enter Tryd.func9, Tryd.ntmps9
  go_wp2_with fail
  refine (lFarB _ fs _ (HL.out.below (by go_grown))).mono ?_
  rintro e W ⟨rfl, hW⟩
  have hI : InvAt w (.slice pz zs.length cz) n W := by
    rw [← hW]
    exact InvAt.box _ _ _ _
  clear hW
  have hc0 := hI.2.2.1
  cases hfar : farB fs with
  | true =>
    go_wp2_with fail
    refine (lShown _ (ha.below hI.1)).mono ?_
    rintro e W6 ⟨rfl, b6⟩
    go_wp2_with fail
    go_ret
    exact ⟨rfl, hI.1.trans (b6.mono hI.1.size)⟩
  | false =>
    by_cases h5 : 510 < zs.length
    · have h5' : (510 : Int) < zs.length := by omega
      have h5'' : decide ((510 : Int) < zs.length) = true := decide_eq_true h5'
      clear h5
      go_wp2_with fail
      refine (lShown _ (ha.below hI.1)).mono ?_
      rintro e W6 ⟨rfl, b6⟩
      go_wp2_with fail
      go_ret
      exact ⟨rfl, hI.1.trans (b6.mono hI.1.size)⟩
    · have h5' : ¬ (510 : Int) < zs.length := by omega
      have h5'' : decide ((510 : Int) < zs.length) = false := decide_eq_false h5'
      have H5 := Lib.hid h5
      clear h5
      go_upto_region 3 with fail
      go_cut [7, 8] (fun v7 v8 wx => ∃ v, v = v7 ∧ v8 = .int .i64 (splE s.data.toList) ∧ InvAt w (.slice pz zs.length cz) n wx ∧ FieldsAt wx v (splF s.data.toList))
      case first => as_aux_lemma =>
        go_wp2_with fail
        refine (wSplit s _ (ha.below hI.1) (by have := HS.out; omega)).mono ?_
        rintro e W1 ⟨v1, rfl, ho1, b1⟩
        have hI1 := hI.step b1
        have hf1 : FieldsAt W1 v1 (splF s.data.toList) := fieldsAt_of_owns ho1 (by have h1 := splF_len s.data.toList; rw [len_data] at h1; have := HS.out; omega)
        clear hI hc0 ho1 b1
        go_wp2_with fail
        go_meet
        exact ⟨_, rfl, rfl, hI1, hf1⟩
      case rest =>
        obtain ⟨v7, rfl, rfl, hI1, hf1⟩ := hcut
        clear hI hc0
        go_upto_if 45 with fail
        go_cut [6] (fun v6 wx => v6 = .bool false ∧ InvAt w (.slice pz zs.length cz) n wx)
        case first => as_aux_lemma =>
          by_cases h0 : splE s.data.toList = 0
          · have HJ := fun W ha hf => wJoinBack s v7 W ha h0 hf
            have e0 : (splE s.data.toList == 0) = true := by rw [h0]; rfl
            clear h0
            go_wp2_with fail
            refine (HJ _ (ha.below hI1.1) hf1).mono ?_
            rintro e W2 ⟨rfl, b2⟩
            have hI2 := hI1.step b2
            clear hI1 b2 hf1
            go_wp2_with fail
            go_meet
            exact ⟨rfl, hI2⟩
          · have e0 : (splE s.data.toList == 0) = false := by simpa using h0
            clear h0
            go_wp2_with fail
            go_meet
            exact ⟨rfl, hI1⟩
        case rest =>
          obtain ⟨rfl, hI2⟩ := hcut
          clear hI1 hf1
          go_upto_region 8 with fail
          go_cut [11, 8] (fun v11 v8 wx => v11 = .string ⟨(joiS fs).toArray⟩ ∧ v8 = .int .i64 (joiE fs) ∧ InvAt w (.slice pz zs.length cz) n wx)
          case first => as_aux_lemma =>
            go_wp2_with fail
            refine (wJoin _ fs _ (ha.below hI2.1) (HL.out.below hI2.1)).mono ?_
            rintro e W3 ⟨rfl, b3⟩
            have hI3 := hI2.step b3
            clear hI2 b3
            go_wp2_with fail
            go_meet
            exact ⟨rfl, rfl, hI3⟩
          case rest => as_aux_lemma =>
            obtain ⟨rfl, rfl, hI3⟩ := hcut
            clear hI2
            go_upto_if 64 with fail
            go_cut [6] (fun v6 wx => v6 = .bool false ∧ InvAt w (.slice pz zs.length cz) n wx)
            case first => as_aux_lemma =>
              by_cases h0 : joiE fs = 0
              · have HJ := fun W ha => wSplitBack fs W ha h0
                have e0 : (joiE fs == 0) = true := by rw [h0]; rfl
                have h64 := (longB_parts (joiE_zero.1 h0).1).1
                clear h0
                go_wp2_with fail
                refine (HJ _ (ha.below hI3.1)).mono ?_
                rintro e W4 ⟨v4, rfl, ho4, b4⟩
                have hI4 := hI3.step b4
                have hf4 : FieldsAt W4 v4 fs := fieldsAt_of_owns ho4 (by omega)
                clear hI3 b4 ho4
                go_wp2_with fail
                refine (rSame v4 _ fs fs _ hf4 (HL.out.below hI4.1)).mono ?_
                rintro e W5 ⟨rfl, b5⟩
                have hI5 := hI4.step b5
                clear hI4 b5 hf4
                have ed : decide (fs = fs) = true := by simp
                go_wp2_with fail
                go_meet
                exact ⟨rfl, hI5⟩
              · have e0 : (joiE fs == 0) = false := by simpa using h0
                clear h0
                go_wp2_with fail
                go_meet
                exact ⟨rfl, hI3⟩
            case rest =>
              obtain ⟨rfl, hI4⟩ := hcut
              clear hI3
              go_upto_region 13 with fail
              go_cut [14, 8] (fun v14 v8 wx => v14 = .string s ∧ v8 = .int .i64 0 ∧ InvAt w (.slice pz zs.length cz) n wx)
              case first => as_aux_lemma =>
                go_wp2_with fail
                refine (wQuote s _ (ha.below hI4.1) (by have := HS.out; omega)).mono ?_
                rintro e W5 ⟨rfl, b5⟩
                have hI5 := hI4.step b5
                clear hI4 b5
                go_wp2_with fail
                refine (wUnqQuote s _ (ha.below hI5.1) HS.out).mono ?_
                rintro e W6 ⟨rfl, b6⟩
                have hI6 := hI5.step b6
                clear hI5 b6
                go_wp2_with fail
                go_meet
                exact ⟨rfl, rfl, hI6⟩
              case rest =>
                obtain ⟨rfl, rfl, hI5⟩ := hcut
                clear hI4
                go_upto_region 14 with fail
                go_cut [15, 16] (fun v15 v16 wx => v15 = .string ⟨(unqV s.data.toList).toArray⟩ ∧ v16 = .int .i64 (unqE s.data.toList) ∧ InvAt w (.slice pz zs.length cz) n wx)
                case first => as_aux_lemma =>
                  go_wp2_with fail
                  refine (wUnquote s _ (ha.below hI5.1) (by have := HS.out; omega)).mono ?_
                  rintro e W6 ⟨rfl, b6⟩
                  have hI6 := hI5.step b6
                  clear hI5 b6
                  go_wp2_with fail
                  go_meet
                  exact ⟨rfl, rfl, hI6⟩
                case rest => as_aux_lemma =>
                  obtain ⟨rfl, rfl, hI6⟩ := hcut
                  clear hI5
                  go_upto_region 15 with fail
                  go_cut [105] (fun v6 wx => v6 = .bool false ∧ InvAt w (.slice pz zs.length cz) n wx)
                  case first => as_aux_lemma =>
                    by_cases h0 : unqE s.data.toList = 0
                    · have HJ := fun W ha => wQuoteBack s W ha HS.out h0
                      have e0 : (unqE s.data.toList == 0) = true := by rw [h0]; rfl
                      clear h0
                      go_wp2_with fail
                      refine (HJ _ (ha.below hI6.1)).mono ?_
                      rintro e W7 ⟨rfl, b7⟩
                      have hI7 := hI6.step b7
                      clear hI6 b7
                      go_wp2_with fail
                      go_meet
                      exact ⟨rfl, hI7⟩
                    · have e0 : (unqE s.data.toList == 0) = false := by simpa using h0
                      clear h0
                      go_wp2_with fail
                      go_meet
                      exact ⟨rfl, hI6⟩
                  case rest =>
                    obtain ⟨rfl, hI7⟩ := hcut
                    clear hI6
                    go_upto_region 17 with fail
                    go_cut [17, 8] (fun v17 v8 wx => v17 = .string ⟨(lisS zs).toArray⟩ ∧ v8 = .int .i64 (lisE zs) ∧ InvAt w (.slice pz zs.length cz) n wx)
                    case first => as_aux_lemma =>
                      have hc0 := hI7.2.2.1
                      go_wp2_with fail
                      refine (wList _ zs _ (ha.below hI7.1) (HZ.out.below hI7.1)).mono ?_
                      rintro e W8 ⟨rfl, b8⟩
                      have hI8 := hI7.step b8
                      clear hI7 b8 hc0
                      go_wp2_with fail
                      go_meet
                      exact ⟨rfl, rfl, hI8⟩
                    case rest =>
                      obtain ⟨rfl, rfl, hI8⟩ := hcut
                      clear hI7
                      go_upto_if 113 with fail
                      go_cut [6] (fun v6 wx => v6 = .bool false ∧ InvAt w (.slice pz zs.length cz) n wx)
                      case first => as_aux_lemma =>
                        by_cases h0 : lisE zs = 0
                        · have HJ := fun W ha => wParseBack zs W ha h0
                          have e0 : (lisE zs == 0) = true := by rw [h0]; rfl
                          clear h0
                          go_wp2_with fail
                          refine (HJ _ (ha.below hI8.1)).mono ?_
                          rintro e W9 ⟨v9, rfl, ho9, b9⟩
                          have hI9 := hI8.step b9
                          have hz9 := intsIn_of_owns ho9 (by have := H5.out; omega)
                          clear hI8 b9 ho9
                          have hc0 := hI9.2.2.1
                          go_wp2_with fail
                          refine (lLists v9 _ zs zs _ hz9 (intsIn_of_at (HZ.out.below hI9.1) (by have := H5.out; omega))).mono ?_
                          rintro e W10 ⟨rfl, b10⟩
                          have hI10 := hI9.step b10
                          clear hI9 b10 hz9 hc0
                          have ed : decide (zs = zs) = true := by simp
                          go_wp2_with fail
                          go_meet
                          exact ⟨rfl, hI10⟩
                        · have e0 : (lisE zs == 0) = false := by simpa using h0
                          clear h0
                          go_wp2_with fail
                          go_meet
                          exact ⟨rfl, hI8⟩
                      case rest => as_aux_lemma =>
                        obtain ⟨rfl, hI9⟩ := hcut
                        clear hI8
                        go_upto_region 22 with fail
                        go_cut [20, 8] (fun v20 v8 wx => ∃ v, v = v20 ∧ v8 = .int .i64 (parE s.data.toList) ∧ InvAt w (.slice pz zs.length cz) n wx ∧ IntsAt wx v (parV s.data.toList))
                        case first => as_aux_lemma =>
                          go_wp2_with fail
                          refine (wParseList s _ (ha.below hI9.1) (by have := HS.out; omega)).mono ?_
                          rintro e W10 ⟨v10, rfl, ho10, b10⟩
                          have hI10 := hI9.step b10
                          have hz10 := intsAt_of_owns ho10 (owns_cap ho10)
                          clear hI9 b10 ho10
                          go_wp2_with fail
                          go_meet
                          exact ⟨_, rfl, rfl, hI10, hz10⟩
                        case rest =>
                          obtain ⟨v20, rfl, rfl, hI10, hz10⟩ := hcut
                          clear hI9
                          go_upto_if 134 with fail
                          go_cut [6] (fun v6 wx => v6 = .bool false ∧ InvAt w (.slice pz zs.length cz) n wx)
                          case first => as_aux_lemma =>
                            by_cases h0 : parE s.data.toList = 0
                            · have HJ := fun W ha hz => wListBack s v20 W ha h0 hz
                              have e0 : (parE s.data.toList == 0) = true := by rw [h0]; rfl
                              clear h0
                              go_wp2_with fail
                              refine (HJ _ (ha.below hI10.1) hz10).mono ?_
                              rintro e W11 ⟨rfl, b11⟩
                              have hI11 := hI10.step b11
                              clear hI10 b11 hz10
                              go_wp2_with fail
                              go_meet
                              exact ⟨rfl, hI11⟩
                            · have e0 : (parE s.data.toList == 0) = false := by simpa using h0
                              clear h0
                              go_wp2_with fail
                              go_meet
                              exact ⟨rfl, hI10⟩
                          case rest =>
                            obtain ⟨rfl, hI11⟩ := hcut
                            clear hI10 hz10
                            go_upto_region 27 with fail
                            go_cut [23, 8] (fun v23 v8 wx => v23 = .int .i64 n ∧ v8 = .int .i64 0 ∧ InvAt w (.slice pz zs.length cz) n wx)
                            case first => as_aux_lemma =>
                              have hc1 := hI11.2.2.2
                              have CD := Lib.hid fun W (hb : Below wc.heap.size wc W) => wDigits n HN.out.1 HN.out.2 W (ha.below (hI11.step hb).1)
                              have CI := Lib.hid fun W (hb : Below wc.heap.size wc W) => wIntBack n HN.out W (ha.below (hI11.step hb).1)
                              have hS : wc.drew.cell? ⟨w.heap.size, 1, none⟩ = some (.int .i64 n) ∧ Below wc.heap.size wc wc.drew := ⟨hc1, (Below.refl _ _).drew⟩
                              go_region_held3 (fun w' => w'.cell? ⟨w.heap.size, 1, none⟩ = some (.int .i64 n) ∧ Below wc.heap.size wc w')
                                (first | exact hS | go_keep | (go_split_ands; exact ⟨keepCell hb (by assumption), keepBelow hb (by assumption)⟩))
                                (first | (go_at_call 17; refine (CD.out _ (by first | assumption | (have := ‹_ ∧ Below _ _ _›; exact this.2))).mono ?_; rintro e w' ⟨rfl, hb⟩) | (go_at_call 13; refine (CI.out _ (by first | assumption | (have := ‹_ ∧ Below _ _ _›; exact this.2))).mono ?_; rintro e w' ⟨rfl, hb⟩))
                              go_wp2_with fail
                              go_meet
                              rename_i hH
                              exact ⟨rfl, rfl, hI11.step hH.2⟩
                            case rest => as_aux_lemma =>
                              obtain ⟨rfl, rfl, hI12⟩ := hcut
                              clear hI11
                              go_upto_region 28 with fail
                              go_cut [24, 16] (fun v24 v16 wx => v24 = .int .i64 (intV s.data.toList (-9223372036854775808) 9223372036854775807) ∧ v16 = .int .i64 (intE s.data.toList (-9223372036854775808) 9223372036854775807) ∧ InvAt w (.slice pz zs.length cz) n wx)
                              case first => as_aux_lemma =>
                                go_wp2_with fail
                                refine (wInt s _ _ (by unfold inI64; omega) (by unfold inI64; omega) _ (ha.below hI12.1) (by have := HS.out; omega)).mono ?_
                                rintro e W13 ⟨rfl, b13⟩
                                have hI13 := hI12.step b13
                                clear hI12 b13
                                go_wp2_with fail
                                go_meet
                                exact ⟨rfl, rfl, hI13⟩
                              case rest =>
                                obtain ⟨rfl, rfl, hI13⟩ := hcut
                                clear hI12
                                have hc1 := hI13.2.2.2
                                by_cases h0 : intE s.data.toList (-9223372036854775808) 9223372036854775807 = 0
                                · have HJ := fun W ha => wDigitsBack s _ _ W ha h0
                                  have e0 : (intE s.data.toList (-9223372036854775808) 9223372036854775807 != 0) = false := by rw [h0]; rfl
                                  clear h0
                                  go_wp2_with fail
                                  refine (HJ _ (ha.below hI13.1)).mono ?_
                                  rintro e W14 ⟨rfl, b14⟩
                                  have hI14 := hI13.step b14
                                  clear hI13 b14 hc1
                                  go_wp2_with fail
                                  refine (lShown _ (ha.below hI14.1)).mono ?_
                                  rintro e W15 ⟨rfl, b15⟩
                                  go_wp2_with fail
                                  go_ret
                                  exact ⟨by simp, hI14.1.trans (b15.mono hI14.1.size)⟩
                                · have e0 : (intE s.data.toList (-9223372036854775808) 9223372036854775807 != 0) = true := by simpa using h0
                                  clear h0
                                  go_wp2_with fail
                                  refine (lShown _ (ha.below hI13.1)).mono ?_
                                  rintro e W15 ⟨rfl, b15⟩
                                  go_wp2_with fail
                                  go_ret
                                  exact ⟨by simp, hI13.1.trans (b15.mono hI13.1.size)⟩
set_option maxRecDepth 100000 in
theorem lawInverse (s : ByteArray) (vl vz : Value) (fs : List FL) (zs : List Int) (n : Int) (hn : inI64 n) (w : World) (ha : Amb w) (hl : FieldsAt w vl fs) (hz : IntsAt w vz zs) (hs : s.size ≤ 9223372036854775807) :
    Calls Tryd.prog 9 #[.string s, vl, .agg #[vz, .int .i64 n]] w fun e w' => e = .returned (.bool true) ∧ Below w.heap.size w w' := by
  by_cases h3 : s.size ≤ 3000
  · exact lInverse s vl vz fs zs n hn w ha hl hz h3
  · obtain ⟨pz, cz, rfl⟩ := hz.shape
    have hsI : decide ((3000 : Int) < s.size) = true := decide_eq_true (by omega)
    have hsI' : (3000 : Int) < s.size := by omega
    clear h3 hs hl hz
    go_enter Tryd.func9, Tryd.ntmps9
    go_wp2_with fail
    refine (lShown _ (ha.below (by go_grown))).mono ?_
    rintro e W6 ⟨rfl, b6⟩
    go_wp2_with fail
    go_ret
    have hb := Below.alloc (Below.refl w.heap.size w) (Nat.le_refl _) (.cells #[.slice pz zs.length cz, .int .i64 n] 47)
    exact ⟨rfl, hb.trans (b6.mono hb.size)⟩
end Go.Proofs.YtoknncoolmbklaaDoor
