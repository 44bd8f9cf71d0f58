/- The contract of the law's function of P1.6: on every list and every string it returns true; under the ambient facts of Amb. -/
import Derived.Test.YtoknncoolmbklaaDoorShown
import Derived.Test.YtoknncoolmbklaaDoorRParse1
namespace Go.Proofs.YtoknncoolmbklaaDoor
set_option linter.unusedVariables false
set_option linter.unusedSimpArgs false
open Go.RowKit Go.Sort
theorem fillG_len : ∀ (rs : List RN) (acc zs : List Int), acc.length ≤ 500 → fillG acc rs = some zs → zs.length ≤ 500 := by
  intro rs
  induction rs with
  | nil => intro acc zs h e; simp [fillG] at e; rw [← e]; exact h
  | cons r rs ih =>
    intro acc zs h e
    unfold fillG at e
    split at e
    · cases e
    · rename_i hn
      refine ih _ _ ?_ e
      rw [List.length_append]
      unfold spanL
      simp only [List.length_map, List.length_range]
      omega
theorem parV_len (l : List UInt8) : (parV l).length ≤ 500 := by
  unfold parV
  split
  · simp
  · split
    · simp
    · split
      · simp
      · split
        · simp
        · rename_i zs h; exact fillG_len _ _ _ (by simp) h
theorem rParseList (s : ByteArray) (w : World) (hs : s.size ≤ 10000) :
    Calls Tryd.prog 33 #[.string s] w fun e w' => ∃ v, e = .returned (.tuple #[v, .int .i64 (parE s.data.toList)]) ∧ w'.ownsRow w.heap.size 3 1 v (parV s.data.toList).length (icells (parV s.data.toList)) ∧ Below w.heap.size w w' := by
  by_cases h45 : s.data.toList = [45]
  · have hm : (s.toList == [45]) = true := by rw [ByteArray.toList_eq, h45]; rfl
    have HR : Hid (parE s.data.toList = 0 ∧ parV s.data.toList = []) := by unfold Hid parE parV; rw [if_pos h45, if_pos h45]; exact ⟨rfl, rfl⟩
    clear h45
    go_enter Tryd.func33, Tryd.ntmps33
    go_wp2_with fail
    go_ret2
    rw [HR.out.1, HR.out.2]
    exact ⟨_, rfl, World.ownsRow_nil _ _ _ _, Below.refl _ _⟩
  · exact rParse_main s w hs h45
theorem lawLists (v : Value) (zs : List Int) (s : ByteArray) (w : World) (hz : IntsAt w v zs) (hs : s.size ≤ 9223372036854775807) (ha : Amb w) :
    Calls Tryd.prog 8 #[v, .string s] w fun e w' => e = .returned (.bool true) ∧ Below w.heap.size w w' := by
  obtain ⟨p, c, rfl⟩ := hz.shape
  have HZ := Lib.hid hz
  clear hz
  by_cases hl : zs.length ≤ 510
  · have hlI : decide ((510 : Int) < zs.length) = false := decide_eq_false (by omega)
    have hlI' : ¬ (510 : Int) < zs.length := by omega
    by_cases hx : s.size ≤ 2000
    · have hsI : decide ((2000 : Int) < s.size) = false := decide_eq_false (by omega)
      have hsI' : ¬ (2000 : Int) < s.size := by omega
      have HS : Hid (s.size ≤ 10000) := by unfold Hid; omega
      have HP := Lib.hid (parV_len s.data.toList)
      clear hl hx hs
      go_enter Tryd.func8, Tryd.ntmps8
      go_wp2_with fail
      refine (wList _ zs _ ha HZ.out).mono ?_
      rintro e W1 ⟨rfl, b1⟩
      go_wp2_with fail
      refine (rList _ zs _ (HZ.out.below b1)).mono ?_
      rintro e W2 ⟨rfl, b2⟩
      have bw2 := b1.trans (b2.mono b1.size)
      go_wp2_with fail
      refine (wParseList s _ (ha.below bw2) HS.out).mono ?_
      rintro e W3 ⟨v3, rfl, ho3, b3⟩
      have bw3 := bw2.trans (b3.mono bw2.size)
      go_wp2_with fail
      refine (rParseList s _ HS.out).mono ?_
      rintro e W4 ⟨v4, rfl, ho4, b4⟩
      have bw4 := bw3.trans (b4.mono bw3.size)
      have i3 := (intsIn_of_owns ho3 (by have := HP.out; omega)).below b4
      have i4 := intsIn_of_owns ho4 (by have := HP.out; omega)
      clear b1 b2 b3 b4 ho3 ho4 bw2 bw3
      go_wp2_with fail
      refine (lLists v3 v4 _ _ _ i3 i4).mono ?_
      rintro e W5 ⟨rfl, b5⟩
      have bw5 := bw4.trans (b5.mono bw4.size)
      clear b5 bw4
      go_wp2_with fail
      refine (lShown _ (ha.below bw5)).mono ?_
      rintro e W6 ⟨rfl, b6⟩
      go_wp2_with fail
      go_ret
      exact ⟨by simp, bw5.trans (b6.mono bw5.size)⟩
    · have hsI : decide ((2000 : Int) < s.size) = true := decide_eq_true (by omega)
      have hsI' : (2000 : Int) < s.size := by omega
      clear hl hx hs
      go_enter Tryd.func8, Tryd.ntmps8
      go_wp2_with fail
      refine (lShown _ ha).mono ?_
      rintro e W6 ⟨rfl, b6⟩
      go_wp2_with fail
      go_ret
      exact ⟨rfl, b6⟩
  · have hlI : decide ((510 : Int) < zs.length) = true := decide_eq_true (by omega)
    have hlI' : (510 : Int) < zs.length := by omega
    clear hl hs
    go_enter Tryd.func8, Tryd.ntmps8
    go_wp2_with fail
    refine (lShown _ ha).mono ?_
    rintro e W6 ⟨rfl, b6⟩
    go_wp2_with fail
    go_ret
    exact ⟨rfl, b6⟩
end Go.Proofs.YtoknncoolmbklaaDoor
