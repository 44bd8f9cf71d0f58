/- far of the law answers whether fields are more than is examined; conditions: the slice reads as these fields. -/
import Derived.Test.YtoknncoolmbklaaDoorLawJoins
namespace Go.Proofs.YtoknncoolmbklaaDoor
set_option linter.unusedVariables false
set_option linter.unusedSimpArgs false
open Go.RowKit Go.Sort
def total (fs : List FL) : Nat := (fs.map fun f => f.1.length).sum
def farB (fs : List FL) : Bool := decide (70 < fs.length) || (fs.any fun f => decide (2100 < f.1.length)) || decide (12000 < total fs)
theorem farB_false {fs : List FL} (h : farB fs = false) : fs.length ≤ 70 ∧ total fs ≤ 12000 := by
  unfold farB at h
  rw [Bool.or_eq_false_iff, Bool.or_eq_false_iff, decide_eq_false_iff_not, decide_eq_false_iff_not] at h
  omega
theorem total_snoc (fs : List FL) (k : Nat) (h : k < fs.length) : total (fs.take (k + 1)) = total (fs.take k) + fs[k].1.length := by
  unfold total; rw [take_snocF fs k h, List.map_append, List.sum_append]; simp
theorem lFarB (v : Value) (fs : List FL) (w : World) (hf : FieldsAt w v fs) :
    Calls Tryd.prog 26 #[v] w fun e w' => e = .returned (.bool (farB fs)) ∧ w = w' := by
  obtain ⟨p, c, rfl⟩ := hf.shape
  by_cases h70 : 70 < fs.length
  · have h70' : (70 : Int) < fs.length := by omega
    have HB : Hid (farB fs = true) := by unfold Hid farB; rw [decide_eq_true h70]; rfl
    clear hf h70
    go_enter Tryd.func26, Tryd.ntmps26
    go_wp2_with fail
    go_ret
    exact ⟨ret_bool HB.out.symm, rfl⟩
  · have h70' : (fs.length : Int) ≤ 70 := by omega
    have H70 : Hid (decide (70 < fs.length) = false) := decide_eq_false h70
    have HF := Lib.hid hf
    clear hf h70
    go_enter Tryd.func26, Tryd.ntmps26
    go_wp2_with fail
    go_loop [3, 4] (fun m i => ∃ (k z : Nat), k ≤ fs.length ∧ i = .int .i64 k ∧ m = .int .i64 z ∧ z ≤ 2100 * k ∧ Hid (z = total (fs.take k)) ∧ Hid (∀ j (h : j < fs.length), j < k → ¬ 2100 < fs[j].1.length)) (fun _ i => fs.length - (intOf i).toNat)
    case atStart => exact ⟨0, 0, by omega, rfl, rfl, by omega, rfl, fun j h hj => by omega⟩
    case round =>
      obtain ⟨k, z, hk, rfl, rfl, hz1, HZ, HA⟩ := hrel
      by_cases hkl : k < fs.length
      · obtain ⟨b, o, rfl, hlt, hc0, hc1⟩ := HF.out.get k hkl
        have hkl' : (k : Int) < fs.length := by omega
        by_cases h2 : 2100 < fs[k].1.length
        · have h2' : (2100 : Int) < fs[k].1.length := by omega
          have HB : Hid (farB fs = true) := by
            unfold Hid farB
            rw [H70.out, (List.any_eq_true (l := fs) (p := fun f => decide (2100 < f.1.length))).2 ⟨fs[k], List.getElem_mem hkl, decide_eq_true h2⟩]
            rfl
          clear h2
          go_wp2_with fail
          go_ret
          exact ⟨ret_bool HB.out.symm, rfl⟩
        · have h2' : ¬ (2100 : Int) < fs[k].1.length := by omega
          have h3 : (fs[k].1.length : Int) ≤ 2100 := by omega
          have HT := Lib.hid (total_snoc fs k hkl)
          have H2 := Lib.hid h2
          clear h2
          go_wp2_with fail
          go_round
          case rel =>
            refine ⟨k + 1, z + fs[k].1.length, by omega, by go_num, by go_num, by omega, by unfold Hid; rw [HT.out, HZ.out], fun j hj hjk => ?_⟩
            by_cases hjk' : j = k
            · subst hjk'; exact H2.out
            · exact HA.out j hj (by omega)
          case measure => simp [intOf]; omega
      · obtain rfl : k = fs.length := by omega
        have HB : Hid (farB fs = decide (12000 < z)) := by
          unfold Hid farB
          have := HZ.out
          rw [List.take_length] at this
          have hany : (fs.any fun f => decide (2100 < f.1.length)) = false := by
            rw [List.any_eq_false]
            intro f hf
            obtain ⟨j, hj, rfl⟩ := List.mem_iff_getElem.1 hf
            simpa using HA.out j hj hj
          rw [H70.out, hany, this]; rfl
        go_wp2_with fail
        go_ret
        refine ⟨ret_bool ?_, rfl⟩
        rw [HB.out]
        by_cases h : 12000 < z <;> simp [h] <;> omega
end Go.Proofs.YtoknncoolmbklaaDoor
