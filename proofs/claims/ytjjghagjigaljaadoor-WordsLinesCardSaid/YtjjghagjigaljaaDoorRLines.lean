/- Lines of the reference returns the lines and the error that P1.5 names; conditions: a bound on the length. -/
import Derived.Test.YtjjghagjigaljaaDoorLines
namespace Go.Proofs.YtjjghagjigaljaaDoor
open Go.RowKit Go.Sort
theorem getLast_get (l : List UInt8) (h : 0 < l.length) : l.getLast? = some (l[l.length - 1]'(by omega)) := by
  rw [List.getLast?_eq_getElem?, List.getElem?_eq_getElem (by omega)]
theorem slice_of_owns' {w : World} {base : Nat} {e : TypeId} {size : Nat} {v : Value} {n : Nat} {xs : List Value} (h : w.ownsRow base e size v n xs) : ∃ a c, v = .slice a n c := by
  obtain ⟨_, h | ⟨g, cap, cur, hv, _⟩⟩ := h
  · exact ⟨_, _, by rw [h.1, h.2]⟩
  · exact ⟨_, _, hv⟩
def AtByte (l : List UInt8) (w : World) (v4 v5 v6 : Value) (wr : World) : Prop :=
  ∃ (i fr : Nat) (ss : List (List UInt8)), i ≤ l.length ∧ fr ≤ i ∧ ss.length ≤ i ∧ v6 = .int .i64 i ∧ v5 = .int .i64 fr ∧ wr.ownsRow w.heap.size 9 1 v4 ss.length (scells ss) ∧ Below w.heap.size w wr ∧ Hid (Upto l i fr ss)
set_option maxRecDepth 100000 in
set_option maxHeartbeats 1000000 in
theorem rLines (s : ByteArray) (w : World) (hs : s.size ≤ 4000000000) :
    Calls Tryd.prog 55 #[.string s] w fun e w' => ∃ v, e = .returned (.tuple #[v, .int .i64 (linE s.data.toList)]) ∧ w'.ownsRow w.heap.size 9 1 v (linF s.data.toList).length (scells (linF s.data.toList)) ∧ Below w.heap.size w w' := by
  by_cases hbig : 1048576 < s.size
  · have hb' : (1048576 : Int) < s.size := by omega
    have HR := Lib.hid (lin_long (l := s.data.toList) (by rw [len_data]; omega))
    go_enter Tryd.func55, Tryd.ntmps55
    go_wp2_with fail
    go_ret2
    rw [HR.out.1, HR.out.2]
    exact ⟨_, rfl, World.ownsRow_nil _ _ _ _, Below.refl _ _⟩
  have hb' : ¬ (1048576 : Int) < s.size := by omega
  have hbig' : ¬ 1048576 < s.data.toList.length := by rw [len_data]; exact hbig
  by_cases h0 : s.size = 0
  · have hd : s.data.toList = [] := List.eq_nil_of_length_eq_zero (by rw [len_data]; exact h0)
    have he := isEmpty_of_zero s h0
    have hne := toList_nil_of_zero s h0
    have HR : Hid (linE s.data.toList = 0 ∧ linF s.data.toList = []) := by unfold Hid; rw [hd]; exact ⟨by decide, by decide⟩
    clear hd h0
    go_enter Tryd.func55, Tryd.ntmps55
    go_wp2_with fail
    go_ret2
    rw [HR.out.1, HR.out.2]
    exact ⟨_, rfl, World.ownsRow_nil _ _ _ _, Below.refl _ _⟩
  · have he := isEmpty_of_pos s (by omega)
    have hne := toList_ne_of_pos s (by omega)
    have hm1 : s.size - 1 < s.size := by omega
    have hmI : 1 ≤ (s.size : Int) ∧ (s.size : Int) - 1 < s.size := by omega
    have hgl : s.data.toList.getLast? = some s[s.size - 1] := by
      have hq : s.data.toList.length - 1 = s.size - 1 := by rw [len_data]
      rw [List.getLast?_eq_getElem?, hq, List.getElem?_eq_getElem (by rw [len_data]; omega)]; rfl
    have hnl : s.data.toList ≠ [] := by intro h; have := len_data s; rw [h] at this; simp at this; omega
    by_cases h10 : s[s.size - 1].toNat = 10
    · have h10' : ((s[s.size - 1].toNat : Int) != 10) = false := by rw [h10]; rfl
      have hform : ¬ (s.data.toList ≠ [] ∧ s.data.toList.getLast? ≠ some 10) := by
        rintro ⟨_, h⟩; apply h; rw [hgl]; exact congrArg some (UInt8.toNat_inj.1 h10)
      have hlen := linesL_le s.data.toList
      rw [len_data] at hlen
      have HB := Lib.hid hbig'
      have HFM := Lib.hid hform
      have hn0 := World.ownsRow_nil w w.heap.size 9 1
      have hS0 := upto_start s.data.toList
      have HS0 := Lib.hid hS0
      obtain ⟨i0, hi, hz0, hz1, hz2⟩ := info_parts infoStr
      clear h10 hgl hnl hform hlen hbig' hS0 h0
      go_enter Tryd.func55, Tryd.ntmps55
      go_wp2_with fail
      go_loopw [4, 5, 6] (AtByte s.data.toList w) (fun _ _ i _ => s.size - (intOf i).toNat)
      case atStart => exact ⟨0, 0, [], by omega, by omega, by simp, rfl, rfl, hn0, Below.refl _ _, HS0⟩
      case round =>
        obtain ⟨i, fr, ss, hi1, hfr, hss, rfl, rfl, hown, hbw, HU⟩ := hrel
        rw [len_data] at hi1
        by_cases hil : i < s.size
        · by_cases hc : s[i].toNat = 10
          · have hc' : ((s[i].toNat : Int) == 10) = true := by rw [hc]; rfl
            have HU2 := Lib.hid (upto_line HU.out (by rw [len_data]; exact hil) (UInt8.toNat_inj.1 hc))
            obtain ⟨a, ha⟩ : ∃ a, (s.data.toList.drop fr).take (i - fr) = a := ⟨_, rfl⟩
            rw [ha] at HU2
            have hex : s.extract fr i = ⟨a.toArray⟩ := by
              rw [← ha, ← Lib.extract_data]
            have HEX := Lib.hid hex
            have hfrI : (fr : Int) ≤ i := by omega
            have hx1 : ss.length + 1 ≤ maxLen := by unfold maxLen; omega
            have hx2 : (ss.length + 1) * 16 ≤ 140737488355328 := by omega
            have hw0 := hbw.size
            have hx3 : w.heap.size ≤ (wr.alloc (.cells #[.string (s.extract fr i)] 9)).heap.size := by simp; omega
            clear hc ha hex
            go_wp2_with (at_builtin; refine wpList_append_own _ rfl _ _ 71 rfl w.heap.size 9 i0 (.string ByteArray.empty) 1 16 Tryd.underlying71 hi hz0 hz1 hz2 rfl (by decide) _ _ _ rfl (hown.alloc _) ⟨wr.heap.size, 0, none⟩ 1 1 [.string (s.extract fr i)] rfl rfl ?c1 ?c2 hx1 hx2 hx3 ?c6)
            case c1 =>
              intro j u hj
              match j, hj with
              | 0, hj => simp at hj; subst hj; simp [World.cell?_alloc_new, Addr.add]
              | j + 1, hj => simp at hj
            case c2 =>
              intro u hu
              simp at hu
              subst hu; rfl
            case c6 =>
              intro v' w1 hown' hgrow _
              have hbw4 : Below w.heap.size w w1 := (hbw.alloc hw0 _).grown hgrow hx3 (fun k e => (hown.lt k e).1)
              rw [HEX.out, ← scells_snoc] at hown'
              go_wp2_with fail
              refine ⟨⟨i + 1, i + 1, ss ++ [a], by rw [len_data]; omega, by omega, by simp; omega, by go_num, by go_num, ?_, hbw4, HU2⟩, by simp [intOf]; omega⟩
              rw [List.length_append]; exact hown'
          · have hc' : ((s[i].toNat : Int) == 10) = false := by rw [beq_eq_false_iff_ne]; omega
            have HU2 := Lib.hid (upto_other HU.out hfr (by rw [len_data]; exact hil) (fun h => hc (by
              have : s[i] = 10 := h
              rw [this]; rfl)))
            clear hc
            go_wp2_with fail
            go_roundw
            case rel => exact ⟨i + 1, fr, ss, by rw [len_data]; omega, by omega, by omega, by go_num, rfl, hown, hbw, HU2⟩
            case measure => simp [intOf]; omega
        · have HE := Lib.hid (upto_end HU.out (by rw [len_data]; omega))
          obtain ⟨p, c, hv⟩ := slice_of_owns' hown
          subst hv
          by_cases h5 : 5000 < ss.length
          · have h5' : (5000 : Int) < ss.length := by omega
            have HR := Lib.hid (lin_many HB.out HFM.out (by rw [HE.out]; exact h5))
            go_wp2_with fail
            go_ret2
            rw [HR.out.1, HR.out.2]
            exact ⟨_, rfl, World.ownsRow_nil _ _ _ _, hbw⟩
          · have h5' : ¬ (5000 : Int) < ss.length := by omega
            have HR := Lib.hid (lin_ok HB.out HFM.out (by rw [HE.out]; exact h5))
            go_wp2_with fail
            go_ret2
            rw [HR.out.1, HR.out.2, HE.out]
            exact ⟨_, rfl, hown, hbw⟩
    · have h10' : ((s[s.size - 1].toNat : Int) != 10) = true := by rw [bne_iff_ne]; omega
      have HR := Lib.hid (lin_form hbig' ⟨hnl, by rw [hgl]; intro h; injection h with h; rw [h] at h10; exact h10 rfl⟩)
      clear h0 hgl hnl h10
      go_enter Tryd.func55, Tryd.ntmps55
      go_wp2_with fail
      go_ret2
      rw [HR.out.1, HR.out.2]
      exact ⟨_, rfl, World.ownsRow_nil _ _ _ _, Below.refl _ _⟩
end Go.Proofs.YtjjghagjigaljaaDoor
