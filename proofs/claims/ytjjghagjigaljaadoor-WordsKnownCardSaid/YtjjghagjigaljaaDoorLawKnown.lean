/- The contract of the law's function of the examples: it returns true; under the ambient facts of Amb. -/
import Derived.Test.YtjjghagjigaljaaDoorShown
import Derived.Test.YtjjghagjigaljaaDoorParseList
namespace Go.Proofs.YtjjghagjigaljaaDoor
open Go.RowKit Go.Sort

theorem ea : intV [48, 48, 55] 0 10 = 0 ∧ intE [48, 48, 55] 0 10 = 6 := by decide +kernel
theorem ca (w : World) (ha : Amb w) : Calls Tryd.prog 13 #[.string ⟨#[48, 48, 55]⟩, .int .i64 0, .int .i64 10] w fun e w' => e = .returned (.tuple #[.int .i64 0, .int .i64 6]) ∧ Below w.heap.size w w' := by
  refine (wInt ⟨#[48, 48, 55]⟩ 0 10 (by decide) (by decide) w ha (by decide)).mono ?_
  rintro e w' ⟨rfl, hb⟩
  have d : (⟨#[48, 48, 55]⟩ : ByteArray).data.toList = [48, 48, 55] := rfl
  exact ⟨by rw [d, ea.1, ea.2], hb⟩
theorem eb : intV [45, 48] 0 10 = 0 ∧ intE [45, 48] 0 10 = 6 := by decide +kernel
theorem cb (w : World) (ha : Amb w) : Calls Tryd.prog 13 #[.string ⟨#[45, 48]⟩, .int .i64 0, .int .i64 10] w fun e w' => e = .returned (.tuple #[.int .i64 0, .int .i64 6]) ∧ Below w.heap.size w w' := by
  refine (wInt ⟨#[45, 48]⟩ 0 10 (by decide) (by decide) w ha (by decide)).mono ?_
  rintro e w' ⟨rfl, hb⟩
  have d : (⟨#[45, 48]⟩ : ByteArray).data.toList = [45, 48] := rfl
  exact ⟨by rw [d, eb.1, eb.2], hb⟩
theorem ec : intV [49, 50] 0 10 = 0 ∧ intE [49, 50] 0 10 = 7 := by decide +kernel
theorem cc (w : World) (ha : Amb w) : Calls Tryd.prog 13 #[.string ⟨#[49, 50]⟩, .int .i64 0, .int .i64 10] w fun e w' => e = .returned (.tuple #[.int .i64 0, .int .i64 7]) ∧ Below w.heap.size w w' := by
  refine (wInt ⟨#[49, 50]⟩ 0 10 (by decide) (by decide) w ha (by decide)).mono ?_
  rintro e w' ⟨rfl, hb⟩
  have d : (⟨#[49, 50]⟩ : ByteArray).data.toList = [49, 50] := rfl
  exact ⟨by rw [d, ec.1, ec.2], hb⟩
theorem ed : unqV [34, 92, 120, 52, 49, 34] = [] ∧ unqE [34, 92, 120, 52, 49, 34] = 6 := by decide +kernel
theorem cd (w : World) (ha : Amb w) : Calls Tryd.prog 19 #[.string ⟨#[34, 92, 120, 52, 49, 34]⟩] w fun e w' => e = .returned (.tuple #[.string ⟨#[]⟩, .int .i64 6]) ∧ Below w.heap.size w w' := by
  refine (wUnquote ⟨#[34, 92, 120, 52, 49, 34]⟩ w ha (by decide)).mono ?_
  rintro e w' ⟨rfl, hb⟩
  have d : (⟨#[34, 92, 120, 52, 49, 34]⟩ : ByteArray).data.toList = [34, 92, 120, 52, 49, 34] := rfl
  exact ⟨by rw [d, ed.1, ed.2], hb⟩
theorem ee : unqV [34, 92, 120, 55, 70, 34] = [] ∧ unqE [34, 92, 120, 55, 70, 34] = 6 := by decide +kernel
theorem ce (w : World) (ha : Amb w) : Calls Tryd.prog 19 #[.string ⟨#[34, 92, 120, 55, 70, 34]⟩] w fun e w' => e = .returned (.tuple #[.string ⟨#[]⟩, .int .i64 6]) ∧ Below w.heap.size w w' := by
  refine (wUnquote ⟨#[34, 92, 120, 55, 70, 34]⟩ w ha (by decide)).mono ?_
  rintro e w' ⟨rfl, hb⟩
  have d : (⟨#[34, 92, 120, 55, 70, 34]⟩ : ByteArray).data.toList = [34, 92, 120, 55, 70, 34] := rfl
  exact ⟨by rw [d, ee.1, ee.2], hb⟩
theorem ef : unqV [34, 97] = [] ∧ unqE [34, 97] = 6 := by decide +kernel
theorem cf (w : World) (ha : Amb w) : Calls Tryd.prog 19 #[.string ⟨#[34, 97]⟩] w fun e w' => e = .returned (.tuple #[.string ⟨#[]⟩, .int .i64 6]) ∧ Below w.heap.size w w' := by
  refine (wUnquote ⟨#[34, 97]⟩ w ha (by decide)).mono ?_
  rintro e w' ⟨rfl, hb⟩
  have d : (⟨#[34, 97]⟩ : ByteArray).data.toList = [34, 97] := rfl
  exact ⟨by rw [d, ef.1, ef.2], hb⟩
theorem eg : splE [97, 32, 32, 98] = 6 ∧ splF [97, 32, 32, 98] = [] := by decide +kernel
theorem cg (w : World) (ha : Amb w) : Calls Tryd.prog 23 #[.string ⟨#[97, 32, 32, 98]⟩] w fun e w' => ∃ p c, e = .returned (.tuple #[.slice p 0 c, .int .i64 6]) ∧ Below w.heap.size w w' := by
  refine (wSplit ⟨#[97, 32, 32, 98]⟩ w ha (by decide)).mono ?_
  rintro e w' ⟨v, rfl, hv, hb⟩
  have d : (⟨#[97, 32, 32, 98]⟩ : ByteArray).data.toList = [97, 32, 32, 98] := rfl
  rw [d, eg.2] at hv
  obtain ⟨p, c, rfl⟩ := slice_of_owns' hv
  exact ⟨p, c, by rw [d, eg.1]; rfl, hb⟩
theorem eh : splE [] = 0 ∧ splF [] = [] := by decide +kernel
theorem ch (w : World) (ha : Amb w) : Calls Tryd.prog 23 #[.string ⟨#[]⟩] w fun e w' => ∃ p c, e = .returned (.tuple #[.slice p 0 c, .int .i64 0]) ∧ Below w.heap.size w w' := by
  refine (wSplit ⟨#[]⟩ w ha (by decide)).mono ?_
  rintro e w' ⟨v, rfl, hv, hb⟩
  have d : (⟨#[]⟩ : ByteArray).data.toList = [] := rfl
  rw [d, eh.2] at hv
  obtain ⟨p, c, rfl⟩ := slice_of_owns' hv
  exact ⟨p, c, by rw [d, eh.1]; rfl, hb⟩
theorem ei : lisE [] = 0 ∧ lisS [] = [45] := by decide +kernel
theorem ci (w : World) (ha : Amb w) : Calls Tryd.prog 30 #[.slice none 0 0] w fun e w' => e = .returned (.tuple #[.string ⟨#[45]⟩, .int .i64 0]) ∧ Below w.heap.size w w' := by
  refine (wList (.slice none 0 0) [] w ha (.inl ⟨rfl, rfl⟩)).mono ?_
  rintro e w' ⟨rfl, hb⟩
  exact ⟨by rw [ei.1, ei.2], hb⟩
theorem ek : parE [49, 45, 51, 44, 52] = 6 ∧ parV [49, 45, 51, 44, 52] = [] := by decide +kernel
theorem ck (w : World) (ha : Amb w) : Calls Tryd.prog 32 #[.string ⟨#[49, 45, 51, 44, 52]⟩] w fun e w' => ∃ p c, e = .returned (.tuple #[.slice p 0 c, .int .i64 6]) ∧ Below w.heap.size w w' := by
  refine (wParseList ⟨#[49, 45, 51, 44, 52]⟩ w ha (by decide)).mono ?_
  rintro e w' ⟨v, rfl, hv, hb⟩
  have d : (⟨#[49, 45, 51, 44, 52]⟩ : ByteArray).data.toList = [49, 45, 51, 44, 52] := rfl
  rw [d, ek.2] at hv
  obtain ⟨p, c, rfl⟩ := slice_of_owns' hv
  exact ⟨p, c, by rw [d, ek.1]; rfl, hb⟩
theorem el : parE [51, 45, 51] = 6 ∧ parV [51, 45, 51] = [] := by decide +kernel
theorem cl (w : World) (ha : Amb w) : Calls Tryd.prog 32 #[.string ⟨#[51, 45, 51]⟩] w fun e w' => ∃ p c, e = .returned (.tuple #[.slice p 0 c, .int .i64 6]) ∧ Below w.heap.size w w' := by
  refine (wParseList ⟨#[51, 45, 51]⟩ w ha (by decide)).mono ?_
  rintro e w' ⟨v, rfl, hv, hb⟩
  have d : (⟨#[51, 45, 51]⟩ : ByteArray).data.toList = [51, 45, 51] := rfl
  rw [d, el.2] at hv
  obtain ⟨p, c, rfl⟩ := slice_of_owns' hv
  exact ⟨p, c, by rw [d, el.1]; rfl, hb⟩
theorem em : parE [50, 44, 49] = 6 ∧ parV [50, 44, 49] = [] := by decide +kernel
theorem cm (w : World) (ha : Amb w) : Calls Tryd.prog 32 #[.string ⟨#[50, 44, 49]⟩] w fun e w' => ∃ p c, e = .returned (.tuple #[.slice p 0 c, .int .i64 6]) ∧ Below w.heap.size w w' := by
  refine (wParseList ⟨#[50, 44, 49]⟩ w ha (by decide)).mono ?_
  rintro e w' ⟨v, rfl, hv, hb⟩
  have d : (⟨#[50, 44, 49]⟩ : ByteArray).data.toList = [50, 44, 49] := rfl
  rw [d, em.2] at hv
  obtain ⟨p, c, rfl⟩ := slice_of_owns' hv
  exact ⟨p, c, by rw [d, em.1]; rfl, hb⟩
theorem en : parE [48, 45, 54, 48, 48] = 3 ∧ parV [48, 45, 54, 48, 48] = [] := by decide +kernel
theorem cn (w : World) (ha : Amb w) : Calls Tryd.prog 32 #[.string ⟨#[48, 45, 54, 48, 48]⟩] w fun e w' => ∃ p c, e = .returned (.tuple #[.slice p 0 c, .int .i64 3]) ∧ Below w.heap.size w w' := by
  refine (wParseList ⟨#[48, 45, 54, 48, 48]⟩ w ha (by decide)).mono ?_
  rintro e w' ⟨v, rfl, hv, hb⟩
  have d : (⟨#[48, 45, 54, 48, 48]⟩ : ByteArray).data.toList = [48, 45, 54, 48, 48] := rfl
  rw [d, en.2] at hv
  obtain ⟨p, c, rfl⟩ := slice_of_owns' hv
  exact ⟨p, c, by rw [d, en.1]; rfl, hb⟩
theorem eq : ¬ nameP ⟨#[87, 101, 98]⟩ := by
  rintro ⟨h, h1, h2, h3⟩
  exact absurd (show lowB ((87 : UInt8).toNat : Int) = true from h2) (by decide)
theorem cq (w : World) : Calls Tryd.prog 15 #[.string ⟨#[87, 101, 98]⟩] w fun e w' => e = .returned (.bool false) ∧ w = w' := by
  refine (wName _ w).mono ?_
  rintro e w' ⟨rfl, hb⟩
  exact ⟨by rw [boolOf_false eq], hb⟩
theorem er : ¬ nameP ⟨#[97, 97, 97, 97, 97, 97, 97, 97, 97, 97, 97, 97, 97, 97, 97, 97, 97]⟩ := by
  rintro ⟨h, h1, h2, h3⟩
  exact absurd h1 (by decide)
theorem cr (w : World) : Calls Tryd.prog 15 #[.string ⟨#[97, 97, 97, 97, 97, 97, 97, 97, 97, 97, 97, 97, 97, 97, 97, 97, 97]⟩] w fun e w' => e = .returned (.bool false) ∧ w = w' := by
  refine (wName _ w).mono ?_
  rintro e w' ⟨rfl, hb⟩
  exact ⟨by rw [boolOf_false er], hb⟩
set_option maxRecDepth 100000 in
set_option maxHeartbeats 2000000 in
theorem lKnown (w : World) (ha : Amb w) :
    Calls Tryd.prog 11 #[] w fun e w' => e = .returned (.bool true) ∧ Below w.heap.size w w' := by
  go_enter Tryd.func11, Tryd.ntmps11
  have bw : Below w.heap.size w w := Below.refl _ _
  go_wp2_with fail
  refine (ca _ (ha.below bw)).mono ?_
  rintro e Wa ⟨rfl, b1⟩
  have bwa := bw.trans (b1.mono bw.size)
  clear bw b1
  have bw := bwa
  clear bwa
  go_wp2_with fail
  refine (cb _ (ha.below bw)).mono ?_
  rintro e Wb ⟨rfl, b1⟩
  have bwb := bw.trans (b1.mono bw.size)
  clear bw b1
  have bw := bwb
  clear bwb
  go_wp2_with fail
  refine (cc _ (ha.below bw)).mono ?_
  rintro e Wc ⟨rfl, b1⟩
  have bwc := bw.trans (b1.mono bw.size)
  clear bw b1
  have bw := bwc
  clear bwc
  go_wp2_with fail
  refine (cd _ (ha.below bw)).mono ?_
  rintro e Wd ⟨rfl, b1⟩
  have bwd := bw.trans (b1.mono bw.size)
  clear bw b1
  have bw := bwd
  clear bwd
  go_wp2_with fail
  refine (ce _ (ha.below bw)).mono ?_
  rintro e We ⟨rfl, b1⟩
  have bwe := bw.trans (b1.mono bw.size)
  clear bw b1
  have bw := bwe
  clear bwe
  go_wp2_with fail
  refine (cf _ (ha.below bw)).mono ?_
  rintro e Wf ⟨rfl, b1⟩
  have bwf := bw.trans (b1.mono bw.size)
  clear bw b1
  have bw := bwf
  clear bwf
  go_wp2_with fail
  refine (cg _ (ha.below bw)).mono ?_
  rintro e Wg ⟨pg, qg, rfl, b1⟩
  have bwg := bw.trans (b1.mono bw.size)
  clear bw b1
  have bw := bwg
  clear bwg
  go_wp2_with fail
  refine (ch _ (ha.below bw)).mono ?_
  rintro e Wh ⟨ph, qh, rfl, b1⟩
  have bwh := bw.trans (b1.mono bw.size)
  clear bw b1
  have bw := bwh
  clear bwh
  go_wp2_with fail
  refine (ci _ (ha.below bw)).mono ?_
  rintro e Wi ⟨rfl, b1⟩
  have bwi := bw.trans (b1.mono bw.size)
  clear bw b1
  have bw := bwi
  clear bwi
  go_wp2_with fail
  refine (ck _ (ha.below bw)).mono ?_
  rintro e Wk ⟨pk, qk, rfl, b1⟩
  have bwk := bw.trans (b1.mono bw.size)
  clear bw b1
  have bw := bwk
  clear bwk
  go_wp2_with fail
  refine (cl _ (ha.below bw)).mono ?_
  rintro e Wl ⟨pl, ql, rfl, b1⟩
  have bwl := bw.trans (b1.mono bw.size)
  clear bw b1
  have bw := bwl
  clear bwl
  go_wp2_with fail
  refine (cm _ (ha.below bw)).mono ?_
  rintro e Wm ⟨pm, qm, rfl, b1⟩
  have bwm := bw.trans (b1.mono bw.size)
  clear bw b1
  have bw := bwm
  clear bwm
  go_wp2_with fail
  refine (cn _ (ha.below bw)).mono ?_
  rintro e Wn ⟨pn, qn, rfl, b1⟩
  have bwn := bw.trans (b1.mono bw.size)
  clear bw b1
  have bw := bwn
  clear bwn
  go_wp2_with fail
  refine (cq _).mono ?_
  rintro e W1 ⟨rfl, rfl⟩
  go_wp2_with fail
  refine (cr _).mono ?_
  rintro e W1 ⟨rfl, rfl⟩
  go_wp2_with fail
  refine (lShown _ (ha.below bw)).mono ?_
  rintro e W6 ⟨rfl, b6⟩
  go_wp2_with fail
  go_ret
  exact ⟨rfl, bw.trans (b6.mono bw.size)⟩
end Go.Proofs.YtjjghagjigaljaaDoor
