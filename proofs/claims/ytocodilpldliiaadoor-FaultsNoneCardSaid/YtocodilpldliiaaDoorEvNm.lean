import Derived.Test.YtocodilpldliiaaDoorEvFND
import Derived.Test.YtocodilpldliiaaDoorEvNmP
namespace Go.Ev
set_option linter.unusedVariables false
set_option linter.unusedSimpArgs false
open Go Go.Proofs
theorem Name_ok {η : Nat → Value} {B : Nat} (hη : OneCells η) (hmix : Tryd.prog.follows .mixedOrders = true) (hreg : RegOk η Tryd.prog B noNest) (s : List UInt8) :
    CallSpec η Tryd.prog B 49 [.string ⟨⟨s⟩⟩] (Name.H0 s) (fun v h => v = .bool (nameB s) ∧ h = Name.H0 s) := by
  refine Name.enter hη hmix hreg _ ?_
  simp only [W.holds, true_and]
  have hs0 : (s == []) = decide (s = []) := by cases s <;> rfl
  have loop : ∀ k i, i + k = s.length → s.length ≤ 16 → RunD η Tryd.prog B 49 (Name.H0 s) [0, 3] (Name.S0 s (i : Int) fun _ => undef) (QF Tryd.prog 7 fun v h => v = .bool ((s.drop i).all nameC) ∧ h = Name.H0 s) := by
    intro k
    induction k with
    | zero =>
      intro i hk _
      refine Name.cut0 hη hmix hreg _ _ ?_
      simp only [W.holds, decide_eq_true_eq, decide_eq_false_iff_not]
      refine ⟨fun h => by omega, fun _ => ⟨trivial, ?_, trivial⟩⟩
      rw [List.drop_eq_nil_of_le (by omega)]; rfl
    | succ k ih =>
      intro i hk hl
      have hi : i < s.length := by omega
      have hb := byteAt_get hi
      have hd : s.drop i = s[i] :: s.drop (i + 1) := List.drop_eq_getElem_cons hi
      have w2 : IntKind.wrap .i64 ((i : Int) + 1) = ((i + 1 : Nat) : Int) := by
        have := i64n (n := i + 1) (by omega)
        rw [← this]; rfl
      have ih2 := ih (i + 1) (by omega) hl
      have keyT : nameC s[i] = true → RunD η Tryd.prog B 49 (Name.H0 s) [0, 3] (Name.S0 s ((i + 1 : Nat) : Int) fun _ => undef) (QF Tryd.prog 7 fun v h => v = .bool ((s.drop i).all nameC) ∧ h = Name.H0 s) := by
        intro hc
        have : (s.drop i).all nameC = (s.drop (i + 1)).all nameC := by rw [hd, List.all_cons, hc]; rfl
        rw [this]; exact ih2
      have keyF : nameC s[i] = false → Value.bool false = .bool ((s.drop i).all nameC) := by
        intro hc; rw [hd, List.all_cons, hc]; rfl
      refine Name.cut0 hη hmix hreg _ _ ?_
      simp only [W.holds, decide_eq_true_eq, decide_eq_false_iff_not, Bool.not_eq_true', Bool.not_eq_false', hb, w2, bne_iff_ne, ne_eq, bne_eq_false_iff_eq]
      have hI : (0 : Int) ≤ (i : Int) ∧ (i : Int) < (s.length : Int) := ⟨by omega, by omega⟩
      have cT : ∀ (h : nameC s[i] = true ∨ nameC s[i] = false), nameC s[i] = true ∨ nameC s[i] = false := fun h => h
      have un : nameC s[i] = ((decide (97 ≤ s[i].toNat) && decide (s[i].toNat ≤ 122)) || (decide (48 ≤ s[i].toNat) && decide (s[i].toNat ≤ 57)) || decide (s[i].toNat = 45)) := rfl
      have T : (97 ≤ s[i].toNat ∧ s[i].toNat ≤ 122) ∨ (48 ≤ s[i].toNat ∧ s[i].toNat ≤ 57) ∨ s[i].toNat = 45 → nameC s[i] = true := by
        intro h; rw [un]; simp only [Bool.or_eq_true, Bool.and_eq_true, decide_eq_true_eq]; omega
      have F : ¬ ((97 ≤ s[i].toNat ∧ s[i].toNat ≤ 122) ∨ (48 ≤ s[i].toNat ∧ s[i].toNat ≤ 57) ∨ s[i].toNat = 45) → nameC s[i] = false := by
        intro h
        cases hc : nameC s[i] with
        | false => rfl
        | true => rw [un] at hc; simp only [Bool.or_eq_true, Bool.and_eq_true, decide_eq_true_eq] at hc; omega
      refine ⟨fun _ => ⟨hI, fun _ => ⟨fun h1 => ⟨fun h2 => ⟨hI, fun _ => ⟨fun h3 => ⟨fun h4 => ⟨hI, fun _ => ⟨fun h5 => ?_, fun h5 => ?_⟩⟩, fun h4 => ?_⟩, fun h3 => ⟨hI, fun _ => ⟨fun h5 => ?_, fun h5 => ?_⟩⟩⟩⟩, fun h2 => ?_⟩, fun h1 => ⟨hI, fun _ => ⟨fun h3 => ⟨fun h4 => ⟨hI, fun _ => ⟨fun h5 => ?_, fun h5 => ?_⟩⟩, fun h4 => ?_⟩, fun h3 => ⟨hI, fun _ => ⟨fun h5 => ?_, fun h5 => ?_⟩⟩⟩⟩⟩⟩, fun h => by omega⟩
      all_goals first
        | exact keyT (T (by omega))
        | exact ⟨trivial, keyF (F (by omega)), trivial⟩
  cases s with
  | nil => exact ⟨fun _ => ⟨rfl, trivial⟩, fun h => by simp at h⟩
  | cons c r =>
    have hb0 : byteAt (c :: r) 0 = c.toNat := rfl
    simp only [decide_eq_true_eq, decide_eq_false_iff_not, Bool.not_eq_true', Bool.not_eq_false', hb0]
    have un : nameB (c :: r) = (decide (r.length ≤ 15) && (decide (97 ≤ c.toNat) && decide (c.toNat ≤ 122)) && r.all nameC) := rfl
    have F : ¬ (r.length ≤ 15 ∧ 97 ≤ c.toNat ∧ c.toNat ≤ 122) → Value.bool false = .bool (nameB (c :: r)) := by
      intro h
      have : nameB (c :: r) = false := by
        cases hc : nameB (c :: r) with
        | false => rfl
        | true => rw [un] at hc; simp only [Bool.and_eq_true, decide_eq_true_eq] at hc; exact absurd ⟨hc.1.1, hc.1.2.1, hc.1.2.2⟩ h
      rw [this]
    refine ⟨fun h => by simp at h, fun _ => ⟨fun h1 => ⟨F (by simp at h1; omega), trivial⟩, fun h1 => ⟨⟨by omega, by simp <;> omega⟩, fun _ => ⟨fun h2 => ⟨fun h3 => ⟨F (by omega), trivial⟩, fun h3 => ?_⟩, fun h2 => ⟨F (by omega), trivial⟩⟩⟩⟩⟩
    have hl : (c :: r).length ≤ 16 := by simp at h1 ⊢; omega
    have e : ((c :: r).drop 1).all nameC = nameB (c :: r) := by
      rw [un, decide_eq_true (by simp at hl; omega : r.length ≤ 15), decide_eq_true (by omega : 97 ≤ c.toNat), decide_eq_true (by omega : c.toNat ≤ 122)]
      rfl
    have := loop r.length 1 (by simp; omega) hl
    rw [e] at this
    exact this
theorem Clone_ok {η : Nat → Value} {B : Nat} (hη : OneCells η) (hmix : Tryd.prog.follows .mixedOrders = true) (hreg : RegOk η Tryd.prog B noNest) (s : List UInt8) (hs : s.length ≤ 1000000) :
    CallSpec η Tryd.prog B 54 [.string ⟨⟨s⟩⟩] (Clone.H0 s) (fun v h => v = .string ⟨⟨s⟩⟩ ∧ h = Clone.H0 s) := by
  refine Clone.enter hη hmix hreg _ ?_
  have e1 : (s.length : Int).toNat = s.length := Int.toNat_natCast _
  have e2 : s.length.min s.length = s.length := Nat.min_self _
  have e3 : List.take s.length s = s := List.take_of_length_le (Nat.le_refl _)
  have e4 : splice (List.replicate s.length (Value.int IntKind.u8 (0 : Int))) 0 (bytesV s) = bytesV s := splice_all (by rw [List.length_replicate, bytesV_len])
  simp only [W.holds, true_and, e1, e2, e3, e4, Int.toNat_natCast, take_bytesV, bytesOf_bytesV, bytesIn_all, bytesV_len, bytesV_one, Nat.mul_one, Nat.zero_add, rep_one, List.length_replicate, beq_iff_eq, beq_eq_false_iff_ne]
  refine ⟨fun h => ⟨?_, trivial⟩, fun h => ⟨⟨by omega, by omega, by omega⟩, fun _ => ⟨⟨Nat.le_refl _, trivial⟩, fun _ => ⟨fun h0 => by omega, fun h0 => ⟨⟨by omega, by omega⟩, fun _ => ⟨⟨by omega, by omega, Nat.le_refl _, trivial⟩, fun _ => ⟨fun h1 => by omega, fun _ _ => trivial⟩⟩⟩⟩⟩⟩⟩
  have : s = [] := List.length_eq_zero_iff.1 (by omega)
  rw [this]
end Go.Ev
