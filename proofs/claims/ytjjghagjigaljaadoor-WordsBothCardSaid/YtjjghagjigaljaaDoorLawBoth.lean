/- The contract of the law's function of P1.8: on any two slices of fields it returns true; under the ambient facts of Amb. -/
import Derived.Test.YtjjghagjigaljaaDoorFar
import Derived.Test.YtjjghagjigaljaaDoorBothP
import Derived.RangeFuncBox
namespace Go.Proofs.YtjjghagjigaljaaDoor
open Go.RowKit Go.Sort
theorem fcells_append (a b : List FL) : fcells (a ++ b) = fcells a ++ fcells b := by simp [fcells]
theorem fcells_one (fs : List FL) : ∀ u ∈ fcells fs, u.oneCell' = true := by
  intro u hu
  unfold fcells at hu
  rw [List.mem_flatMap] at hu
  obtain ⟨f, _, hf⟩ := hu
  simp at hf
  rcases hf with rfl | rfl <;> rfl
theorem FieldsAt.cells {w : World} {v : Value} {fs : List FL} (h : FieldsAt w v fs) (hne : fs ≠ []) : ∃ b o cap, v = .slice (some ⟨b, o, none⟩) fs.length cap ∧ b < w.heap.size ∧ ∀ j u, (fcells fs)[j]? = some u → w.cell? ((⟨b, o, none⟩ : Addr).add j) = some u := by
  rcases h with ⟨_, h⟩ | ⟨b, o, cap, rfl, hlt, hm, hc⟩
  · exact absurd h hne
  · refine ⟨b, o, cap, rfl, hlt, fun j u hj => ?_⟩
    rw [Go.WideShapes.add_plain]
    have hjl : j < fs.length * 2 := by rw [← fcells_length]; exact (List.getElem?_eq_some_iff.1 hj).1
    have hi : j / 2 < fs.length := by omega
    have hg := fcells_get fs (j / 2) hi
    rcases (show j % 2 = 0 ∨ j % 2 = 1 by omega) with h0 | h0
    · have hj' : j = j / 2 * 2 := by omega
      rw [hj', hg.1] at hj
      injection hj with hj
      have := (hc (j / 2) hi).1
      rw [← hj', hj] at this
      exact this
    · have hj' : j = j / 2 * 2 + 1 := by omega
      rw [hj', hg.2] at hj
      injection hj with hj
      have := (hc (j / 2) hi).2
      rw [Nat.add_assoc, ← hj', hj] at this
      exact this

set_option maxRecDepth 100000 in
set_option maxHeartbeats 2000000 in
theorem lBoth_main (vl vm : Value) (l m : List FL) (w : World) (ha : Amb w) (hl : FieldsAt w vl l) (hm : FieldsAt w vm m) (hl0 : l ≠ []) (hm0 : m ≠ []) (hl70 : l.length ≤ 70) (hm70 : m.length ≤ 70)
    (hfl : Calls Tryd.prog 26 #[vl] w fun e w' => e = .returned (.bool false) ∧ w = w') (hfm : Calls Tryd.prog 26 #[vm] w fun e w' => e = .returned (.bool false) ∧ w = w') :
    Calls Tryd.prog 10 #[vl, vm] w fun e w' => e = .returned (.bool true) ∧ Below w.heap.size w w' := by
  obtain ⟨i0, hi, hz0, hz1, hz2⟩ := info_parts infoField
  obtain ⟨bl, ol, cl, rfl, hbl, hcl⟩ := hl.cells hl0
  obtain ⟨bm, om, cm, rfl, hbm, hcm⟩ := hm.cells hm0
  have hll : ((l.length : Int) == 0) = false := by
    rw [beq_eq_false_iff_ne]; intro h; exact hl0 (List.eq_nil_of_length_eq_zero (by omega))
  have hmm : ((m.length : Int) == 0) = false := by
    rw [beq_eq_false_iff_ne]; intro h; exact hm0 (List.eq_nil_of_length_eq_zero (by omega))
  have HL := Lib.hid hl
  have HM := Lib.hid hm
  have HCL := Lib.hid hcl
  have HCM := Lib.hid hcm
  have HFL := Lib.hid hfl
  have HFM := Lib.hid hfm
  have HL0 := Lib.hid hl0
  have HM0 := Lib.hid hm0
  clear hl hm hcl hcm hfl hfm hl0 hm0
  go_enter Tryd.func10, Tryd.ntmps10
  go_wp2_with fail
  refine HFL.out.mono ?_
  rintro e W1 ⟨rfl, rfl⟩
  go_wp2_with fail
  refine HFM.out.mono ?_
  rintro e W1 ⟨rfl, rfl⟩
  go_wp2_with fail
  refine (wJoin _ l _ ha HL.out).mono ?_
  rintro e W1 ⟨rfl, b1⟩
  go_wp2_with fail
  refine (wJoin _ m _ (ha.below b1) (HM.out.below b1)).mono ?_
  rintro e W2 ⟨rfl, b2⟩
  have bw2 := b1.trans (b2.mono b1.size)
  have hz2w := bw2.size
  clear b1 b2
  have ho0 : (W2.alloc (.cells #[] 50)).ownsRow w.heap.size 50 2 (.slice (some ⟨W2.heap.size, 0, none⟩) 0 0) 0 [] :=
    ⟨rfl, .inr ⟨W2.heap.size, 0, #[], rfl, hz2w, World.alloc_heap_new _ _, Nat.le_refl _, Nat.zero_le _, rfl, rfl⟩⟩
  have bw3 : Below w.heap.size w (W2.alloc (.cells #[] 50)) := bw2.alloc hz2w _
  have HX1 : Hid (∀ j u, (fcells l)[j]? = some u → (W2.alloc (.cells #[] 50)).cell? ((⟨bl, ol, none⟩ : Addr).add j) = some u) := Lib.hid fun j u hj => by
    have := HCL.out j u hj
    rw [Go.WideShapes.add_plain] at this ⊢
    exact (bw3.cell (p := ⟨bl, ol + j, none⟩) hbl).trans this
  have hx1 : 0 + l.length ≤ maxLen := by unfold maxLen; omega
  have hx2 : (0 + l.length) * 24 ≤ 140737488355328 := by omega
  have hx3 : w.heap.size ≤ (W2.alloc (.cells #[] 50)).heap.size := bw3.size
  have HF1 := Lib.hid (fcells_length l)
  have HF2 := Lib.hid (fcells_length m)
  go_wp2_with (at_builtin; refine wpList_append_own _ rfl _ _ 32 rfl w.heap.size 50 i0 (.agg #[.string ByteArray.empty, .bool false]) 2 24 Tryd.underlying32 hi hz0 hz1 hz2 rfl (by decide) _ _ _ rfl ho0 ⟨bl, ol, none⟩ l.length cl (fcells l) rfl HF1.out HX1.out (fcells_one l) hx1 hx2 hx3 ?c6)
  case c6 =>
    intro v1 w1 hown1 hgrow1 _
    have bw4 : Below w.heap.size w w1 := bw3.grown hgrow1 hx3 (fun k e => by simp [Value.ownBlock] at e; omega)
    have hx4 : w.heap.size ≤ w1.heap.size := bw4.size
    have HX2 : Hid (∀ j u, (fcells m)[j]? = some u → w1.cell? ((⟨bm, om, none⟩ : Addr).add j) = some u) := Lib.hid fun j u hj => by
      have := HCM.out j u hj
      rw [Go.WideShapes.add_plain] at this ⊢
      exact (bw4.cell (p := ⟨bm, om + j, none⟩) hbm).trans this
    have hx5 : l.length + m.length ≤ maxLen := by unfold maxLen; omega
    have hx6 : (l.length + m.length) * 24 ≤ 140737488355328 := by omega
    clear bw3 ho0 hgrow1 hx1 hx2 hx3 HX1
    go_wp2_with (at_builtin; refine wpList_append_own _ rfl _ _ 32 rfl w.heap.size 50 i0 (.agg #[.string ByteArray.empty, .bool false]) 2 24 Tryd.underlying32 hi hz0 hz1 hz2 rfl (by decide) _ _ _ rfl hown1 ⟨bm, om, none⟩ m.length cm (fcells m) rfl HF2.out HX2.out (fcells_one m) hx5 hx6 hx4 ?c7)
    case c7 =>
      intro v2 w2 hown2 hgrow2 _
      have bw5 : Below w.heap.size w w2 := bw4.grown hgrow2 hx4 (fun k e => (hown1.lt k e).1)
      have hf2 : FieldsAt w2 v2 (l ++ m) := by
        refine fieldsAt_of_owns (base := w.heap.size) ?_ (by rw [List.length_append]; omega)
        rw [List.length_append, fcells_append]
        simpa using hown2
      have HF := Lib.hid hf2
      clear hown1 hown2 hgrow2 bw4 hf2 hx5 hx6 HX2 hx4
      go_wp2_with fail
      refine (wJoin v2 (l ++ m) _ (ha.below bw5) HF.out).mono ?_
      rintro e W3 ⟨he, b3⟩
      have bw6 := bw5.trans (b3.mono bw5.size)
      clear b3 bw5 HF
      by_cases hzl : joiE l = 0
      · by_cases hzm : joiE m = 0
        · obtain ⟨sl, lenl⟩ := joiS_zero hzl
          obtain ⟨sm, lenm⟩ := joiS_zero hzm
          by_cases hlong : 64 < l.length + m.length ∨ 8192 < (joinL l).length + 1 + (joinL m).length
          · have hb := both_long HL0.out HM0.out hzl hzm hlong
            rw [hb.1, hb.2] at he
            subst he
            have h1 : (joiE l != 0) = false := by rw [hzl]; rfl
            have h2 : (joiE m != 0) = false := by rw [hzm]; rfl
            rw [← sl, ← sm] at hlong
            rw [← sl] at lenl
            rw [← sm] at lenm
            clear hzl hzm sl sm hb
            by_cases h64 : 64 < l.length + m.length
            · have h64' : (64 : Int) < (l.length : Int) + m.length := by omega
              go_wp2_with fail
              refine (lShown _ (ha.below bw6)).mono ?_
              rintro e W6 ⟨rfl, b6⟩
              go_wp2_with fail
              go_ret
              exact ⟨rfl, bw6.trans (b6.mono bw6.size)⟩
            · have h64' : ¬ (64 : Int) < (l.length : Int) + m.length := by omega
              have hln : (8192 : Int) < ((joiS l).length : Int) + 1 + (joiS m).length := by omega
              go_wp2_with fail
              refine (lShown _ (ha.below bw6)).mono ?_
              rintro e W6 ⟨rfl, b6⟩
              go_wp2_with fail
              go_ret
              exact ⟨rfl, bw6.trans (b6.mono bw6.size)⟩
          · have hb := both_ok HL0.out HM0.out hzl hzm (fun h => hlong (.inl h)) (fun h => hlong (.inr h))
            rw [hb.1, hb.2] at he
            subst he
            have h1 : (joiE l != 0) = false := by rw [hzl]; rfl
            have h2 : (joiE m != 0) = false := by rw [hzm]; rfl
            have h64' : ¬ (64 : Int) < (l.length : Int) + m.length := by omega
            rw [← sl, ← sm] at hlong
            rw [← sl, ← sm] at hb
            rw [← sl] at lenl
            rw [← sm] at lenm
            have hln : ¬ (8192 : Int) < ((joiS l).length : Int) + 1 + (joiS m).length := by omega
            rw [← sl, ← sm]
            obtain ⟨A, hA⟩ : ∃ A, joiS l = A := ⟨_, rfl⟩
            obtain ⟨B, hB⟩ : ∃ B, joiS m = B := ⟨_, rfl⟩
            rw [hA, hB] at hln ⊢
            rw [hA] at lenl
            rw [hB] at lenm
            clear hzl hzm sl sm hb hlong hA hB
            have HEQ : Hid (A ++ 32 :: B = ((⟨A.toArray⟩ : ByteArray) ++ ⟨#[32]⟩ ++ ⟨B.toArray⟩).toList) := by
              have e : (⟨#[32]⟩ : ByteArray) = ⟨[32].toArray⟩ := rfl
              unfold Hid
              rw [e, str_app, str_app, ByteArray.toList_eq]
              simp
            go_wp2_with fail
            · refine (lShown _ (ha.below bw6)).mono ?_
              rintro e W6 ⟨rfl, b6⟩
              go_wp2_with fail
              go_ret
              exact ⟨rfl, bw6.trans (b6.mono bw6.size)⟩
        · have hc := both_bad HL0.out HM0.out (.inr hzm)
          have h1 : (joiE l != 0) = false := by rw [hzl]; rfl
          have h2 : (joiE m != 0) = true := by rw [bne_iff_ne]; exact hzm
          have h3 : (joiE (l ++ m) != 0) = true := by rw [bne_iff_ne]; exact hc
          subst he
          clear hzl hzm hc
          go_wp2_with fail
          refine (lShown _ (ha.below bw6)).mono ?_
          rintro e W6 ⟨rfl, b6⟩
          go_wp2_with fail
          go_ret
          exact ⟨rfl, bw6.trans (b6.mono bw6.size)⟩
      · have hc := both_bad HL0.out HM0.out (.inl hzl)
        have h1 : (joiE l != 0) = true := by rw [bne_iff_ne]; exact hzl
        have h3 : (joiE (l ++ m) != 0) = true := by rw [bne_iff_ne]; exact hc
        subst he
        clear hzl hc
        go_wp2_with fail
        refine (lShown _ (ha.below bw6)).mono ?_
        rintro e W6 ⟨rfl, b6⟩
        go_wp2_with fail
        go_ret
        exact ⟨rfl, bw6.trans (b6.mono bw6.size)⟩

set_option maxRecDepth 100000 in
set_option maxHeartbeats 1000000 in
theorem lBoth (vl vm : Value) (l m : List FL) (w : World) (hl : FieldsAt w vl l) (hm : FieldsAt w vm m) (ha : Amb w) :
    Calls Tryd.prog 10 #[vl, vm] w fun e w' => e = .returned (.bool true) ∧ Below w.heap.size w w' := by
  have hfl := lFarB vl l w hl
  have hfm := lFarB vm m w hm
  by_cases hmain : farB l = false ∧ farB m = false ∧ l ≠ [] ∧ m ≠ []
  · obtain ⟨h1, h2, h3, h4⟩ := hmain
    rw [h1] at hfl
    rw [h2] at hfm
    exact lBoth_main vl vm l m w ha hl hm h3 h4 (farB_false h1).1 (farB_false h2).1 hfl hfm
  obtain ⟨pl, cl, rfl⟩ := hl.shape
  obtain ⟨pm, cm, rfl⟩ := hm.shape
  clear hl hm
  cases h1 : farB l with
  | true =>
    rw [h1] at hfl
    have HFL := Lib.hid hfl
    clear hfl hfm hmain
    go_enter Tryd.func10, Tryd.ntmps10
    go_wp2_with fail
    refine HFL.out.mono ?_
    rintro e W1 ⟨rfl, rfl⟩
    go_wp2_with fail
    refine (lShown _ ha).mono ?_
    rintro e W6 ⟨rfl, b6⟩
    go_wp2_with fail
    go_ret
    exact ⟨rfl, b6⟩
  | false =>
    rw [h1] at hfl
    have HFL := Lib.hid hfl
    cases h2 : farB m with
    | true =>
      rw [h2] at hfm
      have HFM := Lib.hid hfm
      clear hfl hfm hmain
      go_enter Tryd.func10, Tryd.ntmps10
      go_wp2_with fail
      refine HFL.out.mono ?_
      rintro e W1 ⟨rfl, rfl⟩
      go_wp2_with fail
      refine HFM.out.mono ?_
      rintro e W1 ⟨rfl, rfl⟩
      go_wp2_with fail
      refine (lShown _ ha).mono ?_
      rintro e W6 ⟨rfl, b6⟩
      go_wp2_with fail
      go_ret
      exact ⟨rfl, b6⟩
    | false =>
      rw [h2] at hfm
      have HFM := Lib.hid hfm
      clear hfl hfm
      by_cases h3 : l = []
      · subst h3
        clear hmain
        go_enter Tryd.func10, Tryd.ntmps10
        go_wp2_with fail
        refine HFL.out.mono ?_
        rintro e W1 ⟨rfl, rfl⟩
        go_wp2_with fail
        refine HFM.out.mono ?_
        rintro e W1 ⟨rfl, rfl⟩
        go_wp2_with fail
        refine (lShown _ ha).mono ?_
        rintro e W6 ⟨rfl, b6⟩
        go_wp2_with fail
        go_ret
        exact ⟨rfl, b6⟩
      · have h4 : m = [] := Classical.byContradiction fun h => hmain ⟨h1, h2, h3, h⟩
        have hll : ((l.length : Int) == 0) = false := by
          rw [beq_eq_false_iff_ne]; intro h; exact h3 (List.eq_nil_of_length_eq_zero (by omega))
        subst h4
        clear hmain h3
        go_enter Tryd.func10, Tryd.ntmps10
        go_wp2_with fail
        refine HFL.out.mono ?_
        rintro e W1 ⟨rfl, rfl⟩
        go_wp2_with fail
        refine HFM.out.mono ?_
        rintro e W1 ⟨rfl, rfl⟩
        go_wp2_with fail
        refine (lShown _ ha).mono ?_
        rintro e W6 ⟨rfl, b6⟩
        go_wp2_with fail
        go_ret
        exact ⟨rfl, b6⟩
end Go.Proofs.YtjjghagjigaljaaDoor
