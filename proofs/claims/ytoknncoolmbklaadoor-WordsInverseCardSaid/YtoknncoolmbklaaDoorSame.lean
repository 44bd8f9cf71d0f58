/- The contract of Same of the reference: whether two slices of fields are equal, field by field. -/
import Derived.Test.YtoknncoolmbklaaDoorSplit
import Derived.StillTailTactics
import Derived.Laws.StructEq
namespace Go.Proofs.YtoknncoolmbklaaDoor
set_option linter.unusedVariables false
set_option linter.unusedSimpArgs false
open Go.RowKit Go.Sort

theorem FieldsAt.shape {w : World} {v : Value} {fs : List FL} (h : FieldsAt w v fs) : ∃ p c, v = .slice p fs.length c := by
  rcases h with ⟨rfl, rfl⟩ | ⟨b, o, cap, rfl, _⟩
  · exact ⟨_, _, rfl⟩
  · exact ⟨_, _, rfl⟩

set_option maxRecDepth 100000 in
theorem rSame (va vb : Value) (fa fb : List FL) (w : World) (ha : FieldsAt w va fa) (hb : FieldsAt w vb fb) :
    Calls Tryd.prog 25 #[va, vb] w fun e w' => e = .returned (.bool (decide (fa = fb))) ∧ Below w.heap.size w w' := by
  by_cases hl : fa.length = fb.length
  · by_cases h0 : fa.length = 0
    · have hfa : fa = [] := List.eq_nil_of_length_eq_zero h0
      have hfb : fb = [] := List.eq_nil_of_length_eq_zero (by omega)
      subst hfa hfb
      obtain ⟨p, c, rfl⟩ := ha.shape
      obtain ⟨p', c', rfl⟩ := hb.shape
      go_enter Tryd.func25, Tryd.ntmps25
      go_wp2
      go_rounds 1
      go_ret
      exact ⟨ret_bool (by decide), by go_grown⟩
    · rcases ha with ⟨rfl, rfl⟩ | ⟨b, o, cap, rfl, hlt, hm, hc⟩
      · simp at h0
      rcases hb with ⟨rfl, rfl⟩ | ⟨b', o', cap', rfl, hlt', hm', hc'⟩
      · simp at hl; simp [hl] at h0
      have HA := Lib.hid hc
      have HB := Lib.hid hc'
      have hne : ((fa.length : Int) == (fb.length : Int)) = true := by simp [hl]
      clear hc hc'
      go_enter Tryd.func25, Tryd.ntmps25
      go_wp2
      go_loopw [5] (fun i wr => ∃ k : Nat, k ≤ fa.length ∧ i = .int .i64 k ∧ Below w.heap.size w wr ∧ Hid (∀ j (hj : j < k) (h : j < fa.length) (h' : j < fb.length), fa[j] = fb[j])) (fun i _ => fa.length - (intOf i).toNat)
      case atStart => exact ⟨0, by omega, rfl, Below.refl _ _, fun j hj => by omega⟩
      case round =>
        obtain ⟨k, hk, rfl, hbw, hall⟩ := hrel
        by_cases hkl : k < fa.length
        · have hkl2 : k < fb.length := by omega
          have h0a := (hbw.cell (p := ⟨b, o + k * 2, none⟩) hlt).trans (HA.out k hkl).1
          have h1a := (hbw.cell (p := ⟨b, o + k * 2 + 1, none⟩) hlt).trans (HA.out k hkl).2
          have h0b := (hbw.cell (p := ⟨b', o' + k * 2, none⟩) hlt').trans (HB.out k hkl2).1
          have h1b := (hbw.cell (p := ⟨b', o' + k * 2 + 1, none⟩) hlt').trans (HB.out k hkl2).2
          have i1 : (k : Int) < (fa.length : Int) := by omega
          have i2 : (k : Int) < (fb.length : Int) := by omega
          have hg : Tryd.prog.eqGuardType Tryd.prog.depth 50 = false := by kernel_rfl
          have hno : ∀ {c : Prop}, fa[k] ≠ fb[k] → fa ≠ fb := fun h h' => h (by simp [h'])
          by_cases e1 : fa[k].1 = fb[k].1
          · by_cases e2 : fa[k].2 = fb[k].2
            · have hE : fa[k] = fb[k] := Prod.ext e1 e2
              have HE := Lib.hid hE
              clear hE hno
              go_wp2
              go_quiet (fail)
              go_wp2
              refine ⟨⟨k + 1, by omega, by go_num, below_drewN hbw _, ?_⟩, by simp [intOf]; omega⟩
              intro j hj h h'
              by_cases hjk : j = k
              · subst hjk; exact HE.out
              · exact hall j (by omega) h h'
            · have HE := Lib.hid (hno (c := True) fun h => e2 (by rw [h]))
              clear hno
              go_wp2
              go_quiet (fail)
              go_wp2
              go_ret
              exact ⟨ret_bool (by rw [decide_eq_false HE.out]), below_drewN hbw _⟩
          · have HE := Lib.hid (hno (c := True) fun h => e1 (by rw [h]))
            clear hno
            go_wp2
            go_quiet (fail)
            go_wp2
            go_ret
            exact ⟨ret_bool (by rw [decide_eq_false HE.out]), below_drewN hbw _⟩
        · have HE : Hid (fa = fb) := List.ext_getElem hl fun j h h' => hall j (by omega) h h'
          go_wp2
          go_ret
          exact ⟨ret_bool (by rw [decide_eq_true HE.out]), hbw⟩
  · obtain ⟨p, c, rfl⟩ := ha.shape
    obtain ⟨p', c', rfl⟩ := hb.shape
    have hne : ((fa.length : Int) == (fb.length : Int)) = false := by simp; omega
    go_enter Tryd.func25, Tryd.ntmps25
    go_wp2
    all_goals go_ret
    exact ⟨ret_bool (by rw [decide_eq_false]; intro h; rw [h] at hl; exact hl rfl), by go_grown⟩
end Go.Proofs.YtoknncoolmbklaaDoor
