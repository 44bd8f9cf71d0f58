/- parts of the reference cuts a string at a byte; conditions: a bound on the length. -/
import Derived.Test.YtoknncoolmbklaaDoorPlain
import Derived.Test.YtoknncoolmbklaaDoorLines
import Derived.Test.YtoknncoolmbklaaDoorReadRuns
namespace Go.Proofs.YtoknncoolmbklaaDoor
set_option linter.unusedVariables false
set_option linter.unusedSimpArgs false
open Go.RowKit Go.Sort
def UptoC (c : UInt8) (l : List UInt8) (i fr : Nat) (out : List (List UInt8)) : Prop := partsL c l = out ++ partsC c ((l.drop fr).take (i - fr)) (l.drop i)
theorem uptoC_start (c : UInt8) (l : List UInt8) : UptoC c l 0 0 [] := by unfold UptoC partsL; simp
theorem uptoC_cut {c : UInt8} {l : List UInt8} {i fr : Nat} {out : List (List UInt8)} (h : UptoC c l i fr out) (hi : i < l.length) (hc : l[i] = c) : UptoC c l (i + 1) (i + 1) (out ++ [(l.drop fr).take (i - fr)]) := by
  unfold UptoC at h ⊢
  rw [h, List.drop_eq_getElem_cons hi, partsC, if_pos hc]
  simp
theorem uptoC_other {c : UInt8} {l : List UInt8} {i fr : Nat} {out : List (List UInt8)} (h : UptoC c l i fr out) (hf : fr ≤ i) (hi : i < l.length) (hc : l[i] ≠ c) : UptoC c l (i + 1) fr out := by
  unfold UptoC at h ⊢
  rw [h, List.drop_eq_getElem_cons hi, partsC, if_neg hc]
  congr 1
  rw [show i + 1 - fr = (i - fr) + 1 by omega, List.take_add_one, List.getElem?_drop, show fr + (i - fr) = i by omega, List.getElem?_eq_getElem hi]
  simp
theorem uptoC_end {c : UInt8} {l : List UInt8} {fr : Nat} {out : List (List UInt8)} (h : UptoC c l l.length fr out) : partsL c l = out ++ [l.drop fr] := by
  unfold UptoC at h
  rw [h, List.drop_eq_nil_of_le (Nat.le_refl _), partsC, List.take_of_length_le (by rw [List.length_drop]; omega)]
def AtCut (c : UInt8) (l : List UInt8) (w : World) (v5 v6 v7 : Value) (wr : World) : Prop :=
  ∃ (i fr : Nat) (ss : List (List UInt8)), i ≤ l.length ∧ fr ≤ i ∧ ss.length ≤ i ∧ v7 = .int .i64 i ∧ v6 = .int .i64 fr ∧ wr.ownsRow w.heap.size 9 1 v5 ss.length (scells ss) ∧ Below w.heap.size w wr ∧ Hid (UptoC c l i fr ss)
set_option maxRecDepth 100000 in
set_option maxHeartbeats 1000000 in
theorem rParts (s : ByteArray) (c : UInt8) (w : World) (hs : s.size ≤ 1000000) :
    Calls Tryd.prog 62 #[.string s, .int .u8 c.toNat] w fun e w' => ∃ v, e = .returned v ∧ w'.ownsRow w.heap.size 9 1 v (partsL c s.data.toList).length (scells (partsL c s.data.toList)) ∧ Below w.heap.size w w' := by
  have hn0 := World.ownsRow_nil w w.heap.size 9 1
  have HS0 := Lib.hid (uptoC_start c s.data.toList)
  obtain ⟨i0, hi, hz0, hz1, hz2⟩ := info_parts infoStr
  go_enter Tryd.func62, Tryd.ntmps62
  go_wp2_with fail
  go_loopw [5, 6, 7] (AtCut c s.data.toList w) (fun _ _ i _ => s.size - (intOf i).toNat)
  case atStart => exact ⟨0, 0, [], by omega, by omega, by simp, rfl, rfl, hn0, Below.refl _ _, HS0⟩
  case round =>
    obtain ⟨i, fr, ss, hi1, hfr, hss, rfl, rfl, hown, hbw, HU⟩ := hrel
    rw [len_data] at hi1
    have hw0 := hbw.size
    have hx1 : ss.length + 1 ≤ maxLen := by unfold maxLen; omega
    have hx2 : (ss.length + 1) * 16 ≤ 140737488355328 := by omega
    by_cases hil : i < s.size
    · by_cases hc : s[i] = c
      · have hc' : ((s[i].toNat : Int) == (c.toNat : Int)) = true := by rw [hc]; simp
        have HU2 := Lib.hid (uptoC_cut HU.out (by rw [len_data]; exact hil) hc)
        obtain ⟨a, ha⟩ : ∃ a, (s.data.toList.drop fr).take (i - fr) = a := ⟨_, rfl⟩
        rw [ha] at HU2
        have hex : s.extract fr i = ⟨a.toArray⟩ := by rw [← ha, ← Lib.extract_data]
        have HEX := Lib.hid hex
        have hfrI : (fr : Int) ≤ i := by omega
        have hx3 : w.heap.size ≤ (wr.alloc (.cells #[.string (s.extract fr i)] 9)).heap.size := by simp; omega
        clear hc ha hex
        go_wp2_with (at_builtin; refine wpList_append_own _ rfl _ _ 71 rfl w.heap.size 9 i0 (.string ByteArray.empty) 1 16 Tryd.underlying71 hi hz0 hz1 hz2 rfl (by decide) _ _ _ rfl (hown.alloc _) ⟨wr.heap.size, 0, none⟩ 1 1 [.string (s.extract fr i)] rfl rfl ?c1 ?c2 hx1 hx2 hx3 ?c6)
        case c1 =>
          intro j u hj
          match j, hj with
          | 0, hj => simp at hj; subst hj; simp [World.cell?_alloc_new, Addr.add]
          | j + 1, hj => simp at hj
        case c2 =>
          intro u hu
          simp at hu
          subst hu; rfl
        case c6 =>
          intro v' w1 hown' hgrow _
          have hbw4 : Below w.heap.size w w1 := (hbw.alloc hw0 _).grown hgrow hx3 (fun k e => (hown.lt k e).1)
          rw [HEX.out, ← scells_snoc] at hown'
          go_wp2_with fail
          refine ⟨⟨i + 1, i + 1, ss ++ [a], by rw [len_data]; omega, by omega, by simp; omega, by go_num, by go_num, ?_, hbw4, HU2⟩, by simp [intOf]; omega⟩
          rw [List.length_append]; exact hown'
      · have hc' : ((s[i].toNat : Int) == (c.toNat : Int)) = false := by
          rw [beq_eq_false_iff_ne]; intro h; exact hc (UInt8.toNat_inj.1 (by omega))
        have HU2 := Lib.hid (uptoC_other HU.out hfr (by rw [len_data]; exact hil) hc)
        clear hc
        go_wp2_with fail
        go_roundw
        case rel => exact ⟨i + 1, fr, ss, by rw [len_data]; omega, by omega, by omega, by go_num, rfl, hown, hbw, HU2⟩
        case measure => simp [intOf]; omega
    · obtain rfl : i = s.size := by omega
      have hU := HU.out
      rw [← len_data] at hU
      have HE := Lib.hid (uptoC_end hU)
      have hex : s.extract fr s.size = ⟨(s.data.toList.drop fr).toArray⟩ := by
        rw [show s.data.toList.drop fr = (s.extract fr s.size).data.toList by rw [Lib.extract_data, List.take_of_length_le (by simp)]]
      have HEX := Lib.hid hex
      have hfrI : (fr : Int) ≤ s.size := by omega
      have hx3 : w.heap.size ≤ (wr.alloc (.cells #[.string (s.extract fr s.size)] 9)).heap.size := by simp; omega
      clear hex hU
      go_wp2_with (at_builtin; refine wpList_append_own _ rfl _ _ 71 rfl w.heap.size 9 i0 (.string ByteArray.empty) 1 16 Tryd.underlying71 hi hz0 hz1 hz2 rfl (by decide) _ _ _ rfl (hown.alloc _) ⟨wr.heap.size, 0, none⟩ 1 1 [.string (s.extract fr s.size)] rfl rfl ?c1 ?c2 hx1 hx2 hx3 ?c6)
      case c1 =>
        intro j u hj
        match j, hj with
        | 0, hj => simp at hj; subst hj; simp [World.cell?_alloc_new, Addr.add]
        | j + 1, hj => simp at hj
      case c2 =>
        intro u hu
        simp at hu
        subst hu; rfl
      case c6 =>
        intro v' w1 hown' hgrow _
        have hbw4 : Below w.heap.size w w1 := (hbw.alloc hw0 _).grown hgrow hx3 (fun k e => (hown.lt k e).1)
        rw [HEX.out, ← scells_snoc] at hown'
        go_wp2_with fail
        go_ret
        rw [HE.out]
        exact ⟨_, rfl, by rw [List.length_append]; exact hown', hbw4⟩
end Go.Proofs.YtoknncoolmbklaaDoor
