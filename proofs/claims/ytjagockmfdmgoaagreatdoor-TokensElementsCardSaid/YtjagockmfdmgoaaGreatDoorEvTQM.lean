/- The plain mathematics of qualities. -/
import Derived.Test.YtjagockmfdmgoaaGreatDoorEvTQD
namespace Go.Ev.TQ
set_option linter.unusedVariables false
set_option linter.unusedSimpArgs false
theorem dig_iff {c : UInt8} : dig c = true ↔ 48 ≤ c.toNat ∧ c.toNat ≤ 57 := by simp [dig]
theorem u8_eq {a b : UInt8} (h : a.toNat = b.toNat) : a = b := UInt8.toNat_inj.1 h
theorem cut_nil : Lib.cut [] [46] = ([], [], false) := rfl
theorem cut_dot (r : List UInt8) : Lib.cut (46 :: r) [46] = ([], r, true) := by
  unfold Lib.cut Lib.index
  simp [List.isPrefixOf]
theorem cut_else {c : UInt8} (r : List UInt8) (h : c ≠ 46) : Lib.cut (c :: r) [46] = (c :: (Lib.cut r [46]).1, (Lib.cut r [46]).2.1, (Lib.cut r [46]).2.2) := by
  have hp : ([46] : List UInt8).isPrefixOf (c :: r) = false := by simp [List.isPrefixOf]; exact fun e => h e.symm
  have hi : Lib.index (c :: r) [46] = if Lib.index r [46] == -1 then -1 else Lib.index r [46] + 1 := by
    rw [Lib.index, hp]; simp
  have hg := Lib.index_ge r [46]
  unfold Lib.cut
  rw [hi]
  by_cases e : Lib.index r [46] = -1
  · simp [e]
  · have h0 : 0 ≤ Lib.index r [46] := by omega
    have h1 : (Lib.index r [46] == -1) = false := by simpa using e
    have h2 : (Lib.index r [46] + 1).toNat = (Lib.index r [46]).toNat + 1 := by omega
    simp only [h1, Bool.false_eq_true, if_false, if_pos h0, if_pos (show 0 ≤ Lib.index r [46] + 1 by omega), h2, List.take_succ_cons]
    congr 2
/-- A first part of one byte. -/
theorem cut_one {s : List UInt8} {c : UInt8} (h : (Lib.cut s [46]).1 = [c]) : (s = [c] ∧ (Lib.cut s [46]).2.1 = []) ∨ s = c :: 46 :: (Lib.cut s [46]).2.1 := by
  cases s with
  | nil => rw [cut_nil] at h; cases h
  | cons a r =>
    by_cases ha : a = 46
    · subst ha; rw [cut_dot] at h; cases h
    · rw [cut_else r ha] at h ⊢
      simp only [List.cons.injEq] at h
      obtain ⟨rfl, h⟩ := h
      cases r with
      | nil => left; exact ⟨rfl, rfl⟩
      | cons b t =>
        by_cases hb : b = 46
        · subst hb; right; rw [cut_dot]
        · rw [cut_else t hb] at h; cases h
theorem cut_of_one {c : UInt8} (h : c ≠ 46) : (Lib.cut [c] [46]).1 = [c] := by rw [cut_else _ h]; rfl
theorem cut_of_two {c : UInt8} (r : List UInt8) (h : c ≠ 46) : (Lib.cut (c :: 46 :: r) [46]).1 = [c] ∧ (Lib.cut (c :: 46 :: r) [46]).2.1 = r := by rw [cut_else _ h, cut_dot]; exact ⟨rfl, rfl⟩
theorem mag4 {c x y z : UInt8} (hc : dig c = true) : Lib.parseUint10 0 [c, x, y, z] = if dig x = true ∧ dig y = true ∧ dig z = true then .ok ((c.toNat - 48) * 1000 + (x.toNat - 48) * 100 + (y.toNat - 48) * 10 + (z.toNat - 48)) else Lib.parseUint10 0 [47] := by
  have e0 : Lib.parseUint10 0 [47] = Lib.parseMag [] := rfl
  rw [dig_iff] at hc
  simp only [dig_iff, Lib.parseUint10, e0]
  rw [if_pos hc]
  have a1 : ¬ (18446744073709551616 ≤ 0 * 10 + (c.toNat - 48)) := by omega
  rw [if_neg (by omega), if_neg a1]
  by_cases hx : 48 ≤ x.toNat ∧ x.toNat ≤ 57
  · rw [if_pos hx, if_neg (by omega), if_neg (by omega)]
    by_cases hy : 48 ≤ y.toNat ∧ y.toNat ≤ 57
    · rw [if_pos hy, if_neg (by omega), if_neg (by omega)]
      by_cases hz : 48 ≤ z.toNat ∧ z.toNat ≤ 57
      · rw [if_pos hz, if_neg (by omega), if_neg (by omega), if_pos ⟨hx, hy, hz⟩]
        congr 1
        omega
      · rw [if_neg hz, if_neg (fun h => hz h.2.2)]; rfl
    · rw [if_neg hy, if_neg (fun h => hy h.2.1)]; rfl
  · rw [if_neg hx, if_neg (fun h => hx h.1)]; rfl
theorem atoi4 {c x y z : UInt8} (hc : dig c = true) : Lib.atoiAll [c, x, y, z] = if dig x = true ∧ dig y = true ∧ dig z = true then .ok (dv c * 1000 + dv x * 100 + dv y * 10 + dv z) else Lib.atoiAll [] := by
  have hc' := dig_iff.1 hc
  unfold Lib.atoiAll
  simp only []
  rw [if_neg (by omega)]
  unfold Lib.parseMag
  rw [if_neg (by simp), mag4 hc]
  by_cases h : dig x = true ∧ dig y = true ∧ dig z = true
  · rw [if_pos h, if_pos h]
    obtain ⟨hx, hy, hz⟩ := h
    rw [dig_iff] at hx hy hz
    simp only []
    rw [if_neg (by omega), if_neg (by omega), if_neg (by omega)]
    unfold dv
    congr 1
    omega
  · rw [if_neg h, if_neg h]; rfl
theorem atoi4B {c x y z : UInt8} (hc : dig c = true) : atoiB [c, x, y, z] = (dig x && dig y && dig z) ∧ (atoiB [c, x, y, z] = true → atoiV [c, x, y, z] = dv c * 1000 + dv x * 100 + dv y * 10 + dv z) ∧ (atoiB [c, x, y, z] = false → Lib.atoiAll [c, x, y, z] = Lib.atoiAll []) := by
  unfold atoiB atoiV
  rw [atoi4 hc]
  by_cases h : dig x = true ∧ dig y = true ∧ dig z = true
  · rw [if_pos h]; obtain ⟨hx, hy, hz⟩ := h; simp [hx, hy, hz]
  · rw [if_neg h]
    refine ⟨?_, fun k => (by cases k), fun _ => rfl⟩
    show false = _
    cases hx : dig x <;> cases hy : dig y <;> cases hz : dig z <;> simp_all
theorem dec4 {n : Nat} (h : n < 1000) : Lib.itoa (1000 + (n : Int)) = [49, UInt8.ofNat (48 + n / 100 % 10), UInt8.ofNat (48 + n / 10 % 10), UInt8.ofNat (48 + n % 10)] := by
  unfold Lib.itoa
  rw [if_neg (by omega)]
  have e : (1000 + (n : Int)).toNat = 1000 + n := by omega
  rw [e, Lib.decDigits, dif_neg (by omega), Lib.decDigits, dif_neg (by omega), Lib.decDigits, dif_neg (by omega), Lib.decDigits, dif_pos (by omega)]
  have e1 : (1000 + n) / 10 / 10 / 10 = 1 := by omega
  have e2 : (1000 + n) / 10 / 10 % 10 = n / 100 % 10 := by omega
  have e3 : (1000 + n) / 10 % 10 = n / 10 % 10 := by omega
  have e4 : (1000 + n) % 10 = n % 10 := by omega
  rw [e1, e2, e3, e4]
  rfl
theorem frac_nil : ∀ n : Nat, n < 1000 → ((frac n == []) = decide (n = 0)) := by
  have : (List.range 1000).all (fun n => (frac n == []) == decide (n = 0)) = true := by decide +kernel
  intro n h
  exact eq_of_beq (List.all_eq_true.1 this n (List.mem_range.2 h))
def refStr (n : Nat) : List UInt8 := if n = 0 then [48] else if n % 100 = 0 then [48, 46, UInt8.ofNat (48 + n / 100)] else if n % 10 = 0 then [48, 46, UInt8.ofNat (48 + n / 100), UInt8.ofNat (48 + n % 100 / 10)] else [48, 46, UInt8.ofNat (48 + n / 100), UInt8.ofNat (48 + n % 100 / 10), UInt8.ofNat (48 + n % 10)]
theorem refStr_eq : ∀ n : Nat, n < 1000 → pStr n = refStr n := by
  have : (List.range 1000).all (fun n => pStr n == refStr n) = true := by decide +kernel
  intro n h
  exact eq_of_beq (List.all_eq_true.1 this n (List.mem_range.2 h))
theorem qual_pStr : ∀ n : Nat, n ≤ 1000 → qual (pStr n) = some (n : Int) ∧ (pStr n).length ≤ 5 := by
  have : (List.range 1001).all (fun n => qual (pStr n) == some (n : Int) && decide ((pStr n).length ≤ 5)) = true := by decide +kernel
  intro n h
  have h2 := List.all_eq_true.1 this n (List.mem_range.2 (by omega))
  simp only [Bool.and_eq_true, beq_iff_eq, decide_eq_true_eq] at h2
  exact h2
theorem len1 : ∀ a : Nat, a < 10 → (pStr (100 * a)).length ≤ 3 := by
  have : (List.range 10).all (fun n => decide ((pStr (100 * n)).length ≤ 3)) = true := by decide +kernel
  intro n h
  exact of_decide_eq_true (List.all_eq_true.1 this n (List.mem_range.2 h))
theorem len2 : ∀ a : Nat, a < 100 → (pStr (10 * a)).length ≤ 4 := by
  have : (List.range 100).all (fun n => decide ((pStr (10 * n)).length ≤ 4)) = true := by decide +kernel
  intro n h
  exact of_decide_eq_true (List.all_eq_true.1 this n (List.mem_range.2 h))
theorem pS_of {n : Int} (h0 : 0 ≤ n) (h1 : n ≤ 1000) : pS n = pStr n.toNat ∧ pE n = 0 := by unfold pS pE; rw [if_pos ⟨h0, h1⟩, if_pos ⟨h0, h1⟩]; exact ⟨rfl, rfl⟩
theorem pS_not {n : Int} (h : ¬ (0 ≤ n ∧ n ≤ 1000)) : pS n = [] ∧ pE n = 7 := by unfold pS pE; rw [if_neg h, if_neg h]; exact ⟨rfl, rfl⟩
theorem pE_iff {n : Int} : pE n = 0 ↔ 0 ≤ n ∧ n ≤ 1000 := by
  unfold pE; split
  · rename_i h; exact ⟨fun _ => h, fun _ => rfl⟩
  · rename_i h; exact ⟨fun k => (by cases k), fun k => absurd k h⟩
/-- Quality of PrintQuality. -/
theorem back {n : Int} (h : pE n = 0) : qV (pS n) = n ∧ qE (pS n) = 0 := by
  obtain ⟨h0, h1⟩ := pE_iff.1 h
  rw [(pS_of h0 h1).1]
  unfold qV qE
  rw [(qual_pStr n.toNat (by omega)).1]
  exact ⟨by show ((n.toNat : Nat) : Int) = n; omega, rfl⟩
theorem tail_of {r : List UInt8} (hr : r.length ≤ 3) {n : Int} (h : tail r 100 = some n) : 0 ≤ n ∧ n ≤ 999 ∧ (pStr n.toNat).length ≤ r.length + 2 := by
  match r, hr, h with
  | [], _, h => injection h with h; subst h; exact ⟨by omega, by omega, by decide⟩
  | [x], _, h =>
    unfold tail at h
    split at h
    · rename_i hx; rw [dig_iff] at hx
      simp only [tail, Option.map_some, Option.some.injEq, dv] at h
      have e : n.toNat = 100 * (x.toNat - 48) := by omega
      rw [e]
      exact ⟨by omega, by omega, len1 _ (by omega)⟩
    · cases h
  | [x, y], _, h =>
    unfold tail at h
    split at h
    · rename_i hx; rw [dig_iff] at hx
      unfold tail at h
      split at h
      · rename_i hy; rw [dig_iff] at hy
        simp only [tail, Option.map_some, Option.some.injEq, dv] at h
        have e : n.toNat = 10 * (10 * (x.toNat - 48) + (y.toNat - 48)) := by omega
        rw [e]
        exact ⟨by omega, by omega, len2 _ (by omega)⟩
      · cases h
    · cases h
  | [x, y, z], _, h =>
    unfold tail at h
    split at h
    · rename_i hx; rw [dig_iff] at hx
      unfold tail at h
      split at h
      · rename_i hy; rw [dig_iff] at hy
        unfold tail at h
        split at h
        · rename_i hz; rw [dig_iff] at hz
          simp only [tail, Option.map_some, Option.some.injEq, dv] at h
          have : n.toNat ≤ 1000 := by omega
          exact ⟨by omega, by omega, (qual_pStr _ this).2⟩
        · cases h
      · cases h
    · cases h
  | _ :: _ :: _ :: _ :: _, h, _ => simp at h
/-- PrintQuality of Quality is not longer. -/
theorem short {s : List UInt8} (h : qE s = 0) : pE (qV s) = 0 ∧ (pS (qV s)).length ≤ s.length := by
  have key : ∀ n, qual s = some n → 0 ≤ n ∧ n ≤ 1000 ∧ (pStr n.toNat).length ≤ s.length := by
    intro n hq
    unfold qual at hq
    split at hq
    · split at hq
      · injection hq with hq; subst hq; exact ⟨by omega, by omega, show (pStr 0).length ≤ 1 by decide⟩
      · split at hq
        · injection hq with hq; subst hq; exact ⟨by omega, by omega, show (pStr 1000).length ≤ 1 by decide⟩
        · cases hq
    · rename_i c p r
      split at hq
      · rename_i hp
        split at hq
        · obtain ⟨a, b, d⟩ := tail_of hp.2 hq
          exact ⟨a, by omega, by simpa using d⟩
        · split at hq
          · injection hq with hq; subst hq; exact ⟨by omega, by omega, Nat.le_trans (show (pStr (1000 : Int).toNat).length ≤ 1 by decide) (by simp)⟩
          · cases hq
      · cases hq
    · cases hq
  unfold qE at h
  split at h
  · rename_i hs
    obtain ⟨n, hn⟩ := Option.isSome_iff_exists.1 hs
    obtain ⟨a, b, d⟩ := key n hn
    unfold qV
    rw [hn]
    show pE n = 0 ∧ (pS n).length ≤ _
    rw [(pS_of a b).1, (pS_of a b).2]
    exact ⟨rfl, d⟩
  · cases h
end Go.Ev.TQ
