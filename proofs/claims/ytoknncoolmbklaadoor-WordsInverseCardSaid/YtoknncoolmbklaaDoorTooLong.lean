/- tooLong of the package answers whether there are too many fields or one is too long; conditions: the slice reads as these fields. -/
import Derived.Test.YtoknncoolmbklaaDoorFieldsIter
import Derived.Test.YtoknncoolmbklaaDoorPlain
namespace Go.Proofs.YtoknncoolmbklaaDoor
set_option linter.unusedVariables false
set_option linter.unusedSimpArgs false
open Go.RowKit Go.Sort

/-- A slice of fields reads as these fields. -/
def FieldsAt (w : World) (v : Value) (fs : List FL) : Prop :=
  (v = .slice none 0 0 ∧ fs = []) ∨ ∃ b o cap, v = .slice (some ⟨b, o, none⟩) fs.length cap ∧ b < w.heap.size ∧ fs.length ≤ 4611686018427387904 ∧
    ∀ i (h : i < fs.length), w.cell? ⟨b, o + i * 2, none⟩ = some (.string ⟨fs[i].1.toArray⟩) ∧ w.cell? ⟨b, o + i * 2 + 1, none⟩ = some (.bool fs[i].2)

theorem FieldsAt.below {w w' : World} {v : Value} {fs : List FL} (h : FieldsAt w v fs) (hb : Below w.heap.size w w') : FieldsAt w' v fs := by
  rcases h with h | ⟨b, o, cap, rfl, hlt, hm, hc⟩
  · exact .inl h
  · exact .inr ⟨b, o, cap, rfl, Nat.lt_of_lt_of_le hlt hb.size, hm, fun i hi => ⟨(hb.cell (p := ⟨b, o + i * 2, none⟩) hlt).trans (hc i hi).1, (hb.cell (p := ⟨b, o + i * 2 + 1, none⟩) hlt).trans (hc i hi).2⟩⟩


theorem longB_any {fs : List FL} {k : Nat} (hk : k < fs.length) (h : 2000 < fs[k].1.length) : longB fs = true := by
  unfold longB
  rw [Bool.or_eq_true]; right
  rw [List.any_eq_true]; exact ⟨fs[k], List.getElem_mem hk, decide_eq_true h⟩
theorem longB_none {fs : List FL} (h64 : fs.length ≤ 64) (h : ∀ j (h : j < fs.length), fs[j].1.length ≤ 2000) : longB fs = false := by
  unfold longB
  rw [Bool.or_eq_false_iff]
  refine ⟨decide_eq_false (by omega), ?_⟩
  rw [List.any_eq_false]
  intro f hf
  obtain ⟨j, hj, rfl⟩ := List.mem_iff_getElem.1 hf
  have := h j hj
  simp; omega

set_option maxRecDepth 100000 in
theorem wTooLong (v : Value) (fs : List FL) (w : World) (hf : FieldsAt w v fs) :
    Calls Tryd.prog 50 #[v] w fun e w' => e = .returned (.bool (longB fs)) ∧ Below w.heap.size w w' := by
  rcases hf with ⟨rfl, rfl⟩ | ⟨b, o, cap, rfl, hlt, hm, hc⟩
  · go_enter Tryd.func50, Tryd.ntmps50
    go_wp2
    go_rounds 1
    go_ret
    exact ⟨ret_bool (by decide), by go_grown⟩
  · by_cases h64 : (64 : Int) < fs.length
    · have HL : Hid (longB fs = true) := by unfold Hid longB; rw [decide_eq_true (by omega)]; rfl
      go_enter Tryd.func50, Tryd.ntmps50
      go_wp2
      go_ret
      exact ⟨ret_bool HL.out.symm, Below.refl _ _⟩
    · have h64' : (fs.length : Int) ≤ 64 := by omega
      have HC := Lib.hid hc
      clear hc h64
      go_enter Tryd.func50, Tryd.ntmps50
      go_wp2
      go_loopw [10] (fun i wr => ∃ k : Nat, k ≤ fs.length ∧ i = .int .i64 k ∧ Below w.heap.size w wr ∧ Hid (∀ j (hj : j < k) (h : j < fs.length), fs[j].1.length ≤ 2000)) (fun i _ => fs.length - (intOf i).toNat)
      case atStart => exact ⟨0, by omega, rfl, Below.refl _ _, fun j hj => by omega⟩
      case round =>
        obtain ⟨k, hk, rfl, hbw, hall⟩ := hrel
        by_cases hkl : k < fs.length
        · have h0 : wr.cell? ⟨b, o + k * 2, none⟩ = some (.string ⟨fs[k].1.toArray⟩) := (hbw.cell (p := ⟨b, o + k * 2, none⟩) hlt).trans (HC.out k hkl).1
          have h1 : wr.cell? ⟨b, o + k * 2 + 1, none⟩ = some (.bool fs[k].2) := (hbw.cell (p := ⟨b, o + k * 2 + 1, none⟩) hlt).trans (HC.out k hkl).2
          go_wp2
          · go_ret
            exact ⟨ret_bool (longB_any hkl (by omega)).symm, hbw.alloc hbw.size _⟩
          · refine ⟨⟨k + 1, by omega, by go_num, hbw.alloc hbw.size _, ?_⟩, by simp [intOf]; omega⟩
            intro j hj h
            by_cases hjk : j = k
            · subst hjk; omega
            · exact hall j (by omega) h
        · go_wp2
          go_ret
          exact ⟨ret_bool (longB_none (by omega) (fun j h => hall j (by omega) h)).symm, hbw⟩
end Go.Proofs.YtoknncoolmbklaaDoor
