/- The contract of shown of the law: it returns true and changes nothing below the heap's size; under the ambient facts of Amb. -/
import Derived.Test.YtoknncoolmbklaaDoorSame
import Derived.Test.YtoknncoolmbklaaDoorList
import Derived.Test.YtoknncoolmbklaaDoorQuote
import Derived.Test.YtoknncoolmbklaaDoorInt
import Derived.Test.YtoknncoolmbklaaDoorName
namespace Go.Proofs.YtoknncoolmbklaaDoor
set_option linter.unusedVariables false
set_option linter.unusedSimpArgs false
open Go.RowKit Go.Sort

def lineK : List UInt8 := [103, 101, 116, 32, 47, 32, 34, 97, 32, 98, 34]
def fieldsK : List FL := [([103, 101, 116], false), ([47], false), ([97, 32, 98], true)]
theorem k1 : splE lineK = 0 := by decide +kernel
theorem k2 : splF lineK = fieldsK := by decide +kernel
theorem k3 : intV [45, 49, 50] (-20) 20 = -12 := by decide +kernel
theorem k4 : intE [45, 49, 50] (-20) 20 = 0 := by decide +kernel
theorem k5 : lisE [1, 2, 3, 5, 8, 9] = 0 := by decide +kernel
theorem k6 : lisS [1, 2, 3, 5, 8, 9] = [49, 45, 51, 44, 53, 44, 56, 45, 57] := by decide +kernel
theorem k7 : unqV [34, 97, 92, 110, 92, 120, 48, 48, 92, 34, 34] = [97, 10, 0, 34] := by decide +kernel
theorem k8 : unqE [34, 97, 92, 110, 92, 120, 48, 48, 92, 34, 34] = 0 := by decide +kernel
theorem k9 : boolOf (nameP ⟨#[119, 101, 98, 45, 49]⟩) = true := boolOf_true ⟨by decide, by decide, by decide, by decide +kernel⟩

theorem ints_alloc (w : World) (zs : List Int) (t : TypeId) (h : zs.length ≤ 1000) : IntsAt (w.alloc (.cells (zs.map (Value.int .i64)).toArray t)) (.slice (some ⟨w.heap.size, 0, none⟩) zs.length zs.length) zs := by
  refine .inr ⟨w.heap.size, 0, zs.length, rfl, by simp, by omega, by omega, fun i hi => ?_⟩
  rw [World.cell?_alloc_new]
  simp [hi]
theorem fields_alloc (w : World) (fs : List FL) (t : TypeId) (h : fs.length ≤ 1000) : FieldsAt (w.alloc (.cells (fcells fs).toArray t)) (.slice (some ⟨w.heap.size, 0, none⟩) fs.length fs.length) fs := by
  refine .inr ⟨w.heap.size, 0, fs.length, rfl, by simp, by omega, fun i hi => ⟨?_, ?_⟩⟩
  · rw [World.cell?_alloc_new, Nat.zero_add, List.getElem?_toArray]
    exact (fcells_get fs i hi).1
  · rw [World.cell?_alloc_new, Nat.zero_add, List.getElem?_toArray]
    exact (fcells_get fs i hi).2
theorem cSplit (w : World) (ha : Amb w) : Calls Tryd.prog 23 #[.string ⟨#[103, 101, 116, 32, 47, 32, 34, 97, 32, 98, 34]⟩] w fun e w' => ∃ v, e = .returned (.tuple #[v, .int .i64 0]) ∧ FieldsAt w' v fieldsK ∧ Below w.heap.size w w' := by
  refine (wSplit _ w ha (by decide)).mono ?_
  rintro e w' ⟨v, rfl, hv, hb⟩
  have d : (⟨#[103, 101, 116, 32, 47, 32, 34, 97, 32, 98, 34]⟩ : ByteArray).data.toList = lineK := rfl
  rw [d, k2] at hv
  refine ⟨v, by rw [d, k1], fieldsAt_of_owns hv (by decide), hb⟩
theorem cInt (w : World) (ha : Amb w) : Calls Tryd.prog 13 #[.string ⟨#[45, 49, 50]⟩, .int .i64 (-20), .int .i64 20] w fun e w' => e = .returned (.tuple #[.int .i64 (-12), .int .i64 0]) ∧ Below w.heap.size w w' := by
  refine (wInt _ (-20) 20 (by decide) (by decide) w ha (by decide)).mono ?_
  rintro e w' ⟨rfl, hb⟩
  have d : (⟨#[45, 49, 50]⟩ : ByteArray).data.toList = [45, 49, 50] := rfl
  exact ⟨by rw [d, k3, k4], hb⟩
theorem cList (v : Value) (w : World) (ha : Amb w) (hz : IntsAt w v [1, 2, 3, 5, 8, 9]) : Calls Tryd.prog 30 #[v] w fun e w' => e = .returned (.tuple #[.string ⟨#[49, 45, 51, 44, 53, 44, 56, 45, 57]⟩, .int .i64 0]) ∧ Below w.heap.size w w' := by
  refine (wList v _ w ha hz).mono ?_
  rintro e w' ⟨rfl, hb⟩
  exact ⟨by rw [k5, k6], hb⟩
theorem cUnquote (w : World) (ha : Amb w) : Calls Tryd.prog 19 #[.string ⟨#[34, 97, 92, 110, 92, 120, 48, 48, 92, 34, 34]⟩] w fun e w' => e = .returned (.tuple #[.string ⟨#[97, 10, 0, 34]⟩, .int .i64 0]) ∧ Below w.heap.size w w' := by
  refine (wUnquote _ w ha (by decide)).mono ?_
  rintro e w' ⟨rfl, hb⟩
  have d : (⟨#[34, 97, 92, 110, 92, 120, 48, 48, 92, 34, 34]⟩ : ByteArray).data.toList = [34, 97, 92, 110, 92, 120, 48, 48, 92, 34, 34] := rfl
  exact ⟨by rw [d, k7, k8], hb⟩
theorem cName (w : World) : Calls Tryd.prog 15 #[.string ⟨#[119, 101, 98, 45, 49]⟩] w fun e w' => e = .returned (.bool true) ∧ w = w' := by
  refine (wName _ w).mono ?_
  rintro e w' ⟨rfl, hb⟩
  exact ⟨by rw [k9], hb⟩
theorem cSame (va vb : Value) (w : World) (ha : FieldsAt w va fieldsK) (hb : FieldsAt w vb fieldsK) : Calls Tryd.prog 25 #[va, vb] w fun e w' => e = .returned (.bool true) ∧ Below w.heap.size w w' := by
  refine (rSame va vb _ _ w ha hb).mono ?_
  rintro e w' ⟨rfl, hb⟩
  exact ⟨by rw [decide_eq_true rfl], hb⟩

set_option maxRecDepth 100000 in
set_option maxHeartbeats 1000000 in
theorem lShown (w : World) (ha : Amb w) : Calls Tryd.prog 12 #[] w fun e w' => e = .returned (.bool true) ∧ Below w.heap.size w w' := by
  have h9 := ha.size
  go_enter Tryd.func12, Tryd.ntmps12
  go_wp2_with fail
  refine (cSplit _ ha).mono ?_
  rintro e W1 ⟨v, rfl, hv, b1⟩
  go_wp2_with fail
  refine (cInt _ (ha.below b1)).mono ?_
  rintro e W2 ⟨rfl, b2⟩
  have bw2 := b1.trans (b2.mono b1.size)
  have hv2 := hv.below b2
  clear b1 b2 hv
  go_wp2_with fail
  refine (cList _ _ ((ha.below bw2).below ((Below.refl _ _).alloc (Nat.le_refl _) _)) (ints_alloc W2 [1, 2, 3, 5, 8, 9] _ (by decide))).mono ?_
  rintro e W3 ⟨rfl, b3⟩
  have b3' : Below W2.heap.size W2 W3 := ((Below.refl _ _).alloc (Nat.le_refl _) _).trans (b3.mono (by simp))
  have bw3 := bw2.trans (b3'.mono bw2.size)
  have hv3 := hv2.below b3'
  clear b3 b3' hv2 bw2
  go_wp2_with fail
  refine (cUnquote _ (ha.below bw3)).mono ?_
  rintro e W4 ⟨rfl, b4⟩
  have bw4 := bw3.trans (b4.mono bw3.size)
  have hv4 := hv3.below b4
  clear b4 hv3 bw3
  go_wp2_with fail
  have b5' : Below W4.heap.size W4 (W4.alloc (.cells (fcells fieldsK).toArray 50)) := (Below.refl _ _).alloc (Nat.le_refl _) _
  refine (cSame v _ _ (hv4.below b5') (fields_alloc W4 fieldsK _ (by decide))).mono ?_
  rintro e W5 ⟨rfl, b5⟩
  have bw5 := bw4.trans ((b5'.trans (b5.mono (by simp))).mono bw4.size)
  clear b5 b5' hv4 bw4
  go_wp2_with fail
  refine (cName _).mono ?_
  rintro e W6 ⟨rfl, rfl⟩
  go_wp2_with fail
  go_ret
  exact ⟨rfl, bw5⟩
end Go.Proofs.YtoknncoolmbklaaDoor
