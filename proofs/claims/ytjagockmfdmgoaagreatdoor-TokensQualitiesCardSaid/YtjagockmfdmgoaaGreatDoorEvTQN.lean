/- A quality, by its parts before and behind the point. -/
import Derived.Test.YtjagockmfdmgoaaGreatDoorEvTQM
namespace Go.Ev.TQ
set_option linter.unusedVariables false
set_option linter.unusedSimpArgs false
theorem qual_none {s : List UInt8} (h0 : (Lib.cut s [46]).1 ≠ [48]) (h1 : (Lib.cut s [46]).1 ≠ [49]) : qual s = none := by
  unfold qual
  split
  · rename_i c
    rw [if_neg, if_neg]
    · rintro rfl; exact h1 (cut_of_one (by decide))
    · rintro rfl; exact h0 (cut_of_one (by decide))
  · rename_i c p r
    split
    · rename_i hp
      obtain ⟨rfl, _⟩ := hp
      rw [if_neg, if_neg]
      · rintro ⟨rfl, _⟩; exact h1 (cut_of_two r (by decide)).1
      · rintro rfl; exact h0 (cut_of_two r (by decide)).1
    · rfl
  · rfl
def num (c x y z : UInt8) : Int := dv c * 1000 + dv x * 100 + dv y * 10 + dv z
def spell (c x y z : UInt8) : Option Int := if (dig x && dig y && dig z) = true then (if num c x y z > 1000 then none else some (num c x y z)) else none
theorem dv48 : dv 48 = 0 := rfl
theorem dv49 : dv 49 = 1 := rfl
theorem dig48 : dig 48 = true := rfl
theorem eq48 {x : UInt8} : x = 48 ↔ x.toNat = 48 := ⟨fun h => by rw [h]; rfl, fun h => u8_eq h⟩
theorem dv_le {x : UInt8} (h : dig x = true) : 0 ≤ dv x ∧ dv x ≤ 9 := by rw [dig_iff] at h; unfold dv; omega
theorem dv_zero {x : UInt8} (h : dig x = true) : x = 48 ↔ dv x = 0 := by rw [eq48]; rw [dig_iff] at h; unfold dv; omega
theorem spell0 (x y z : UInt8) : spell 48 x y z = if (dig x && dig y && dig z) = true then some (dv x * 100 + dv y * 10 + dv z) else none := by
  unfold spell num
  split
  · rename_i h
    simp only [Bool.and_eq_true] at h
    have hx := dv_le h.1.1; have hy := dv_le h.1.2; have hz := dv_le h.2
    rw [dv48, if_neg (by omega)]
    congr 1; omega
  · rfl
theorem spell1 (x y z : UInt8) : spell 49 x y z = if x = 48 ∧ y = 48 ∧ z = 48 then some 1000 else none := by
  unfold spell num
  split
  · rename_i h
    simp only [Bool.and_eq_true] at h
    have hx := dv_le h.1.1; have hy := dv_le h.1.2; have hz := dv_le h.2
    have ix := dv_zero h.1.1; have iy := dv_zero h.1.2; have iz := dv_zero h.2
    rw [dv49]
    by_cases e : x = 48 ∧ y = 48 ∧ z = 48
    · have e2 := e
      rw [ix, iy, iz] at e2
      have hs : ¬ (1 * 1000 + dv x * 100 + dv y * 10 + dv z > 1000) := by omega
      rw [if_neg hs, if_pos e]; congr 1; omega
    · have e2 := e
      rw [ix, iy, iz] at e2
      rw [if_neg e, if_pos (by omega)]
  · rename_i h
    rw [if_neg]
    rintro ⟨rfl, rfl, rfl⟩
    exact h rfl
theorem opt_map {p : Bool} {a : Int} {f : Int → Int} : (if p = true then some a else none).map f = if p = true then some (f a) else none := by cases p <;> rfl
theorem tail3 (x y z : UInt8) : tail [x, y, z] 100 = if (dig x && dig y && dig z) = true then some (dv x * 100 + dv y * 10 + dv z) else none := by
  simp only [tail]
  cases dig x <;> cases dig y <;> cases dig z <;> simp <;> omega
theorem qual_some {s : List UInt8} {c : UInt8} (hf : (Lib.cut s [46]).1 = [c]) (hc : c = 48 ∨ c = 49) :
    (3 < (Lib.cut s [46]).2.1.length → qual s = none) ∧ ((Lib.cut s [46]).2.1.length ≤ 3 → ∃ x y z, ((Lib.cut s [46]).2.1 ++ [48, 48, 48]).take 3 = [x, y, z] ∧ qual s = spell c x y z) := by
  rcases cut_one hf with ⟨rfl, hd⟩ | hs
  · rw [hd]
    refine ⟨fun h => by simp at h, fun _ => ⟨48, 48, 48, rfl, ?_⟩⟩
    rcases hc with rfl | rfl
    · rw [spell0]; rfl
    · rw [spell1]; rfl
  · generalize (Lib.cut s [46]).2.1 = d at hs
    subst hs
    have hq : qual (c :: 46 :: d) = if d.length ≤ 3 then (if c = 48 then tail d 100 else if c = 49 ∧ d.all (· == 48) then some 1000 else none) else none := by
      cases d <;> simp [qual]
    rw [hq]
    refine ⟨fun h => if_neg (by omega), fun h => ?_⟩
    rw [if_pos h]
    have hall : ∀ x y z : UInt8, (if (49 : UInt8) = 48 then tail d 100 else if (49 : UInt8) = 49 ∧ d.all (· == 48) then some (1000 : Int) else none) = if d.all (· == 48) then some 1000 else none := by
      intro x y z; simp
    match d, h with
    | [], _ =>
      refine ⟨48, 48, 48, rfl, ?_⟩
      rcases hc with rfl | rfl
      · rw [spell0]; rfl
      · rw [spell1]; rfl
    | [x], _ =>
      refine ⟨x, 48, 48, rfl, ?_⟩
      rcases hc with rfl | rfl
      · rw [spell0, if_pos rfl]
        simp only [tail, dig48, dv48]
        cases dig x <;> simp <;> omega
      · rw [spell1, if_neg (by decide)]; simp
    | [x, y], _ =>
      refine ⟨x, y, 48, rfl, ?_⟩
      rcases hc with rfl | rfl
      · rw [spell0, if_pos rfl]
        simp only [tail, dig48, dv48]
        cases dig x <;> cases dig y <;> simp <;> omega
      · rw [spell1, if_neg (by decide)]; simp
    | [x, y, z], _ =>
      refine ⟨x, y, z, rfl, ?_⟩
      rcases hc with rfl | rfl
      · rw [spell0, if_pos rfl, tail3]
      · rw [spell1, if_neg (by decide)]; simp
    | _ :: _ :: _ :: _ :: _, h => exact absurd h (by simp)
end Go.Ev.TQ
