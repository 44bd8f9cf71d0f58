import Derived.Test.YtjagockmfdmgoaaGreatDoorEvTQL
import Derived.Test.YtjagockmfdmgoaaGreatDoorEvTQP
import Derived.Test.YtjagockmfdmgoaaGreatDoorEvTQN
namespace Go.Ev.TQ
set_option linter.unusedVariables false
set_option linter.unusedSimpArgs false
open Go Go.Proofs
variable {η : Nat → Value} {B : Nat}
noncomputable abbrev H : AH := heapP Tryz.prog tab

theorem hg0 : (TQual.H0 []).objs.get 0 = some (.cells 3 [.chan (some 0)] true 0) := rfl
theorem hg1 : (TQual.H0 []).objs.get 1 = some (.cells 72 [.chan (some 1)] true 0) := rfl
theorem hg5 : (TQual.H0 []).objs.get 5 = some (.cells 160 pows true 0) := rfl
theorem qual_ok (hη : OneCells η) (hmix : Tryz.prog.follows .mixedOrders = true) (hreg : RegOk η Tryz.prog B noNest) (hm : ∃ m, η 0 = .int .i64 m) (hev : η 1 = .nilIface ∨ ∃ te pe, η 1 = .iface te pe) (s : List UInt8) (hs : s.length ≤ 2000) :
    CallSpec η Tryz.prog B 36 [.string ⟨⟨s⟩⟩] (TQual.H0 s) (fun v h => v = .tuple ⟨[.int .i64 (qV s), .int .i64 (qE s)]⟩ ∧ h = TQual.H0 s) := by
  refine TQual.enter hη hmix hreg _ ?_
  have e46 : (#[46] : Array UInt8).toList = [46] := rfl
  have e48 : (#[48] : Array UInt8).toList = [48] := rfl
  have e49 : (#[49] : Array UInt8).toList = [49] := rfl
  have e000 : (#[48, 48, 48] : Array UInt8).toList = [48, 48, 48] := rfl
  simp only [W.holds, true_and, and_true, e46, e48, e49, e000]
  refine ⟨cut_ok hg0 hm s [46] (by omega), ?_⟩
  simp only [Bool.not_eq_true', Bool.not_eq_false', beq_eq_false_iff_ne, beq_iff_eq, decide_eq_true_eq, decide_eq_false_iff_not, List.drop_zero]
  have hn : qual s = none → (Value.tuple ⟨[.int .i64 0, .int .i64 6]⟩ : Value) = .tuple ⟨[.int .i64 (qV s), .int .i64 (qE s)]⟩ := by
    intro h; unfold qV qE; rw [h]; rfl
  have hl : (Lib.cut s [46]).2.1.length ≤ s.length := by
    unfold Lib.cut; split
    · simp only [List.length_drop]; omega
    · simp
  refine ⟨fun h0 => ⟨fun h1 => hn (qual_none h0 h1), fun h1 => ?_⟩, fun h1 => ?_⟩
  all_goals
    obtain ⟨c, hf, hcc, hdc⟩ : ∃ c, (Lib.cut s [46]).1 = [c] ∧ (c = 48 ∨ c = 49) ∧ dig c = true := ⟨_, h1, by decide, by decide⟩
    have hc := qual_some hf hcc
    generalize (Lib.cut s [46]).2.1 = d at hc hl ⊢
    rw [hf]
    refine ⟨fun h => hn (hc.1 (by have : (3 : Int) < (d.length : Int) := h; omega)), fun h => ?_⟩
    have h3 : d.length ≤ 3 := by have : ¬ (3 : Int) < (d.length : Int) := h; omega
    obtain ⟨x, y, z, ht, hq⟩ := hc.2 h3
    rw [ht, List.singleton_append]
    refine ⟨by omega, fun _ => ⟨⟨by omega, by omega, by simp <;> omega⟩, fun _ => ⟨by simp, fun _ => ⟨?_, fun hb => ⟨fun hv => hn ?_, fun hv => ?_⟩, fun hb => hn ?_⟩⟩⟩⟩
    · exact atoi_ok hg1 hev hdc
    · have k := (atoi4B (x := x) (y := y) (z := z) hdc)
      have h4 := k.2.1 hb
      rw [hq]; unfold spell
      rw [← k.1, if_pos hb, if_pos (by unfold num; rw [← h4]; exact hv)]
    · have k := (atoi4B (x := x) (y := y) (z := z) hdc)
      have h4 := k.2.1 hb
      have hq2 : qual s = some (atoiV [c, x, y, z]) := by
        rw [hq]; unfold spell
        rw [← k.1, if_pos hb, if_neg (by unfold num; rw [← h4]; exact hv)]
        unfold num; rw [← h4]
      unfold qV qE
      rw [hq2]; rfl
    · have k := (atoi4B (x := x) (y := y) (z := z) hdc)
      rw [hq]; unfold spell
      rw [← k.1]
      exact if_neg (by rw [hb]; simp)
theorem print_ok (hη : OneCells η) (hmix : Tryz.prog.follows .mixedOrders = true) (hreg : RegOk η Tryz.prog B noNest) (n : Int) :
    CallSpec η Tryz.prog B 34 [.int .i64 n] (TPrint.H0 n) (fun v h => v = .tuple ⟨[.string ⟨⟨pS n⟩⟩, .int .i64 (pE n)]⟩ ∧ h = TPrint.H0 n) := by
  refine TPrint.enter hη hmix hreg _ ?_
  have e48 : (#[48] : Array UInt8).toList = [48] := rfl
  have e4846 : (#[48, 46] : Array UInt8).toList = [48, 46] := rfl
  have e0 : (#[] : Array UInt8).toList = [] := rfl
  simp only [W.holds, true_and, and_true, e48, e4846, e0, decide_eq_true_eq, decide_eq_false_iff_not, beq_iff_eq, beq_eq_false_iff_ne]
  have bad : ¬ (0 ≤ n ∧ n ≤ 1000) → (Value.tuple ⟨[.string ⟨#[]⟩, .int .i64 7]⟩ : Value) = .tuple ⟨[.string ⟨⟨pS n⟩⟩, .int .i64 (pE n)]⟩ := by
    intro h; rw [(pS_not h).1, (pS_not h).2]
  refine ⟨fun h => bad (by omega), fun h0 => ⟨fun h => bad (by omega), fun h1 => ⟨fun h => ?_, fun h2 => ?_⟩⟩⟩
  · subst h; rfl
  · obtain ⟨k, rfl⟩ : ∃ k : Nat, n = (k : Int) := ⟨n.toNat, by omega⟩
    have hk : k < 1000 := by omega
    have hw : IntKind.wrap .i64 (1000 + (k : Int)) = 1000 + (k : Int) := IntWalk.i64_in _ ⟨by omega, by omega⟩
    have hp := pS_of (n := (k : Int)) (by omega) (by omega)
    rw [hw, dec4 hk]
    have hd : List.take ((([49, UInt8.ofNat (48 + k / 100 % 10), UInt8.ofNat (48 + k / 10 % 10), UInt8.ofNat (48 + k % 10)] : List UInt8).length : Int).toNat - 1) (List.drop 1 [49, UInt8.ofNat (48 + k / 100 % 10), UInt8.ofNat (48 + k / 10 % 10), UInt8.ofNat (48 + k % 10)]) = [UInt8.ofNat (48 + k / 100 % 10), UInt8.ofNat (48 + k / 10 % 10), UInt8.ofNat (48 + k % 10)] := rfl
    rw [hd]
    have hfr := frac_nil k hk
    have hps : pS (k : Int) = pStr k := hp.1
    rw [hps, hp.2]
    have hdec := dec4 hk
    refine ⟨?_, ⟨by omega, by simp <;> omega, by simp <;> omega⟩, fun _ => ⟨trim_ok _ (by simp), fun h => ?_, fun h => ⟨?_, fun _ => ?_⟩⟩⟩
    · have := itoa_ok (η := η) (B := B) hg5 (1000 + (k : Int)) (by omega) (by omega)
      have e : itoaK [.int .i64 (1000 + (k : Int))] (TQual.H0 []) = .ret (.string ⟨⟨Lib.itoa (1000 + (k : Int))⟩⟩) (TQual.H0 []) := rfl
      rw [e, hdec] at this
      exact this
    · have h3 : frac k = [] := h
      rw [h3] at hfr
      have h0 : k = 0 := of_decide_eq_true hfr.symm
      subst h0; rfl
    · have : (Lib.trimRightB [UInt8.ofNat (48 + k / 100 % 10), UInt8.ofNat (48 + k / 10 % 10), UInt8.ofNat (48 + k % 10)] 48).length ≤ 3 := by
        unfold Lib.trimRightB
        rw [List.length_reverse]
        exact Nat.le_trans (List.dropWhile_sublist _).length_le (by simp)
      exact Nat.le_trans (Nat.add_le_add_left this 2) (by omega)
    · have h0 : k ≠ 0 := by
        rintro rfl; exact h rfl
      unfold pStr
      rw [if_neg (by omega), if_neg h0]
      rfl
theorem refp_ok (hη : OneCells η) (hmix : Tryz.prog.follows .mixedOrders = true) (hreg : RegOk η Tryz.prog B noNest) (n : Int) :
    CallSpec η Tryz.prog B 35 [.int .i64 n] (TRPrint.H0 n) (fun v h => v = .tuple ⟨[.string ⟨⟨pS n⟩⟩, .int .i64 (pE n)]⟩ ∧ h = TRPrint.H0 n) := by
  refine TRPrint.enter hη hmix hreg _ ?_
  simp only [W.holds, true_and, and_true, decide_eq_true_eq, decide_eq_false_iff_not, beq_iff_eq, beq_eq_false_iff_ne]
  have bad : ¬ (0 ≤ n ∧ n ≤ 1000) → (Value.tuple ⟨[.string ⟨#[]⟩, .int .i64 7]⟩ : Value) = .tuple ⟨[.string ⟨⟨pS n⟩⟩, .int .i64 (pE n)]⟩ := by
    intro h; rw [(pS_not h).1, (pS_not h).2]
  have cut := fun y0 i0 i1 => TRPrint.cut0 (η := η) (B := B) (D := fun v h => v = .tuple ⟨[.string ⟨⟨pS n⟩⟩, .int .i64 (pE n)]⟩ ∧ h = TRPrint.H0 n) hη hmix hreg n y0 i0 i1
  simp only [W.holds, true_and, and_true, decide_eq_true_eq, decide_eq_false_iff_not, beq_iff_eq, beq_eq_false_iff_ne] at cut
  refine ⟨fun h => bad (by omega), fun h0 => ⟨fun h => bad (by omega), fun h1 => ⟨fun h => ?_, fun h2 => ?_⟩⟩⟩
  · subst h
    refine cut _ _ _ ⟨fun h => absurd h (by decide), fun _ => ⟨fun _ => ⟨by decide, fun _ => rfl⟩, fun h => absurd rfl h⟩⟩
  · obtain ⟨k, rfl⟩ : ∃ k : Nat, n = (k : Int) := ⟨n.toNat, by omega⟩
    have hk : k < 1000 := by omega
    have hps := pS_of (n := (k : Int)) (by omega) (by omega)
    have e : (k : Int).toNat = k := by omega
    rw [e, refStr_eq k hk] at hps
    have fin : ∀ (l : List UInt8) (i1 : Int), l.length ≠ 2 → l = refStr k → RunD η Tryz.prog B 35 (TRPrint.H0 k) [4, 5, 6] (TRPrint.S0 k ⟨⟨l⟩⟩ 0 i1 fun _ => undef) (QF Tryz.prog 9 fun v h => v = .tuple ⟨[.string ⟨⟨pS k⟩⟩, .int .i64 (pE k)]⟩ ∧ h = TRPrint.H0 k) := by
      intro l i1 hl he
      refine cut _ _ _ ⟨fun h => absurd h (by decide), fun _ => ⟨fun h => absurd (show l.length = 2 by have h2 : (l.length : Int) = 2 := h; omega) hl, fun _ => ?_⟩⟩
      rw [hps.1, hps.2, he]
    have step : ∀ (l : List UInt8) (a b : Nat), 0 < a → (b = 100 ∨ b = 10 ∨ b = 1) → a < 10 * b → l.length ≤ 10 →
        RunD η Tryz.prog B 35 (TRPrint.H0 k) [4, 5, 6] (TRPrint.S0 k ⟨⟨l ++ [UInt8.ofNat (48 + a / b)]⟩⟩ ((a % b : Nat) : Int) ((b / 10 : Nat) : Int) fun _ => undef) (QF Tryz.prog 9 fun v h => v = .tuple ⟨[.string ⟨⟨pS k⟩⟩, .int .i64 (pE k)]⟩ ∧ h = TRPrint.H0 k) →
        RunD η Tryz.prog B 35 (TRPrint.H0 k) [4, 5, 6] (TRPrint.S0 k ⟨⟨l⟩⟩ (a : Int) (b : Int) fun _ => undef) (QF Tryz.prog 9 fun v h => v = .tuple ⟨[.string ⟨⟨pS k⟩⟩, .int .i64 (pE k)]⟩ ∧ h = TRPrint.H0 k) := by
      intro l a b ha hb hab hl hr
      have hb0 : (b : Int) ≠ 0 := by omega
      have hq : a / b ≤ 9 := by rcases hb with rfl | rfl | rfl <;> omega
      have e0 : (a : Int).tdiv (b : Int) = ((a / b : Nat) : Int) := by rw [Int.tdiv_eq_ediv_of_nonneg (by omega)]; rfl
      have e1 : UInt8.ofNat (IntKind.u8.wrap (IntKind.i64.wrap (48 + IntKind.i64.wrap ((a : Int).tdiv (b : Int))))).toNat = UInt8.ofNat (48 + a / b) := by
        rw [e0]
        generalize a / b = q at hq
        have : q = 0 ∨ q = 1 ∨ q = 2 ∨ q = 3 ∨ q = 4 ∨ q = 5 ∨ q = 6 ∨ q = 7 ∨ q = 8 ∨ q = 9 := by omega
        rcases this with rfl | rfl | rfl | rfl | rfl | rfl | rfl | rfl | rfl | rfl <;> rfl
      have e2 : (a : Int).tmod (b : Int) = ((a % b : Nat) : Int) := by rw [Int.tmod_eq_emod_of_nonneg (by omega)]; rfl
      have e3 : IntKind.i64.wrap ((b : Int).tdiv 10) = ((b / 10 : Nat) : Int) := by rcases hb with rfl | rfl | rfl <;> rfl
      refine cut _ _ _ ⟨fun _ => ⟨hb0, fun _ => ⟨by show l.length + 1 ≤ _; omega, fun _ => ⟨hb0, fun _ _ => ?_⟩⟩⟩, fun h => absurd (show (a : Int) > 0 by omega) h⟩
      rw [e1, e2, e3]
      exact hr
    have e4 : (k : Int).tmod 1000 = ((k : Nat) : Int) := by
      rw [Int.tmod_eq_emod_of_nonneg (by omega)]; omega
    rw [e4]
    by_cases k0 : k = 0
    · subst k0
      refine cut _ _ _ ⟨fun h => absurd h (by decide), fun _ => ⟨fun _ => ⟨by decide, fun _ => ?_⟩, fun h => absurd rfl h⟩⟩
      rw [hps.1, hps.2]; rfl
    · refine step [48, 46] k 100 (by omega) (.inl rfl) (by omega) (by simp) ?_
      by_cases k1 : k % 100 = 0
      · rw [k1]
        refine fin _ _ (by simp) ?_
        unfold refStr; rw [if_neg k0, if_pos k1]; rfl
      · refine step _ (k % 100) 10 (by omega) (.inr (.inl rfl)) (by omega) (by simp) ?_
        have e5 : k % 100 % 10 = k % 10 := by omega
        rw [e5]
        by_cases k2 : k % 10 = 0
        · rw [k2]
          refine fin _ _ (by simp) ?_
          unfold refStr; rw [if_neg k0, if_neg k1, if_pos k2]; rfl
        · refine step _ (k % 10) 1 (by omega) (.inr (.inr rfl)) (by omega) (by simp) ?_
          have e6 : k % 10 % 1 = 0 := by omega
          rw [e6]
          refine fin _ _ (by simp) ?_
          unfold refStr; rw [if_neg k0, if_neg k1, if_neg k2]
          rw [Nat.div_one]; rfl
theorem refq_ok (hη : OneCells η) (hmix : Tryz.prog.follows .mixedOrders = true) (hreg : RegOk η Tryz.prog B noNest) (s : List UInt8) :
    CallSpec η Tryz.prog B 37 [.string ⟨⟨s⟩⟩] (TRQual.H0 s) (fun v h => v = .tuple ⟨[.int .i64 (qV s), .int .i64 (qE s)]⟩ ∧ h = TRQual.H0 s) := by
  refine TRQual.enter hη hmix hreg _ ?_
  simp only [W.holds, true_and, and_true, decide_eq_true_eq, decide_eq_false_iff_not, beq_iff_eq, beq_eq_false_iff_ne, bne_iff_ne, bne_eq_false_iff_eq]
  have hn : qual s = none → (Value.tuple ⟨[.int .i64 0, .int .i64 6]⟩ : Value) = .tuple ⟨[.int .i64 (qV s), .int .i64 (qE s)]⟩ := by
    intro h; unfold qV qE; rw [h]; rfl
  have hsm : ∀ n, qual s = some n → (Value.tuple ⟨[.int .i64 n, .int .i64 0]⟩ : Value) = .tuple ⟨[.int .i64 (qV s), .int .i64 (qE s)]⟩ := by
    intro n h; unfold qV qE; rw [h]; rfl
  have cut := fun i0 i1 i2 => TRQual.cut0 (η := η) (B := B) (D := fun v h => v = .tuple ⟨[.int .i64 (qV s), .int .i64 (qE s)]⟩ ∧ h = TRQual.H0 s) hη hmix hreg s i0 i1 i2
  simp only [W.holds, true_and, and_true, decide_eq_true_eq, decide_eq_false_iff_not, beq_iff_eq, beq_eq_false_iff_ne, bne_iff_ne, bne_eq_false_iff_eq] at cut
  match s with
  | [] => exact ⟨fun _ => hn rfl, fun h => absurd (show (([] : List UInt8).length : Int) < 1 by decide) h⟩
  | c :: s' =>
    have hb0 : byteAt (c :: s') 0 = (c.toNat : Int) := rfl
    have loop : ∀ (r : List UInt8) (i : Nat) (u n : Int), (c :: s').drop i = r → i + r.length = (c :: s').length → (c :: s').length ≤ 5 → r.length ≤ 3 → 0 ≤ u → u ≤ 100 → 0 ≤ n → n ≤ 4000 - 1000 * (r.length : Int) → (c.toNat = 48 ∨ c.toNat = 49) →
        qual (c :: s') = (if c.toNat = 48 then (tail r u).map (n + ·) else if r.all (· == 48) = true then some n else none) →
        RunD η Tryz.prog B 37 (TRQual.H0 (c :: s')) [0, 4, 5, 6] (TRQual.S0 (c :: s') u n (i : Int) fun _ => undef) (QF Tryz.prog 9 fun v h => v = .tuple ⟨[.int .i64 (qV (c :: s')), .int .i64 (qE (c :: s'))]⟩ ∧ h = TRQual.H0 (c :: s')) := by
      intro r
      induction r with
      | nil =>
        intro i u n hd hl hs5 h3 hu0 hu1 hn0 hn1 hc hq
        refine cut _ _ _ ⟨fun h => absurd h (by simp at hl ⊢; omega), fun _ => hsm n ?_⟩
        rw [hq]; simp [tail]
      | cons x r ih =>
        intro i u n hd hl hs5 h3 hu0 hu1 hn0 hn1 hc hq
        have hi : i < (c :: s').length := by simp at hl ⊢; omega
        have hx : byteAt (c :: s') (i : Int) = (x.toNat : Int) := by
          rw [byteAt_get hi]
          have : (c :: s').drop i = (c :: s')[i] :: (c :: s').drop (i + 1) := List.drop_eq_getElem_cons hi
          rw [hd] at this
          injection this with e _
          rw [e]
        have hd2 : (c :: s').drop (i + 1) = r := by
          have : (c :: s').drop i = (c :: s')[i] :: (c :: s').drop (i + 1) := List.drop_eq_getElem_cons hi
          rw [hd] at this
          injection this with _ e
          exact e.symm
        have hI : (0 : Int) ≤ (i : Int) ∧ (i : Int) < ((c :: s').length : Int) := ⟨by omega, by omega⟩
        have h0I : (0 : Int) ≤ 0 ∧ (0 : Int) < ((c :: s').length : Int) := ⟨by omega, by simp <;> omega⟩
        have nodig : ¬ (48 ≤ x.toNat ∧ x.toNat ≤ 57) → qual (c :: s') = none := by
          intro hx
          have hdx : dig x = false := by cases h : dig x with | false => rfl | true => exact absurd (dig_iff.1 h) hx
          rw [hq]
          rcases hc with hc | hc
          · rw [if_pos hc]; simp [tail, hdx]
          · rw [if_neg (by omega)]
            have : x ≠ 48 := by rintro rfl; exact hx ⟨by decide, by decide⟩
            simp [this]
        have go : dig x = true → (c.toNat = 49 → x = 48) → RunD η Tryz.prog B 37 (TRQual.H0 (c :: s')) [0, 4, 5, 6] (TRQual.S0 (c :: s') (IntKind.i64.wrap (u.tdiv 10)) (IntKind.i64.wrap (n + IntKind.i64.wrap (u * IntKind.i64.wrap (IntKind.u8.wrap (byteAt (c :: s') (i : Int) - 48))))) (IntKind.i64.wrap ((i : Int) + 1)) fun _ => undef) (QF Tryz.prog 9 fun v h => v = .tuple ⟨[.int .i64 (qV (c :: s')), .int .i64 (qE (c :: s'))]⟩ ∧ h = TRQual.H0 (c :: s')) := by
          intro hdx h49
          have hdl := dv_le hdx
          have hu : u * dv x ≤ 100 * 9 := Int.mul_le_mul hu1 hdl.2 hdl.1 (by omega)
          have hu' : 0 ≤ u * dv x := Int.mul_nonneg hu0 hdl.1
          have e1 : IntKind.i64.wrap (u.tdiv 10) = u / 10 := by
            rw [Int.tdiv_eq_ediv_of_nonneg hu0]; exact IntWalk.i64_in _ ⟨by omega, by omega⟩
          have e2 : IntKind.i64.wrap (IntKind.u8.wrap (byteAt (c :: s') (i : Int) - 48)) = dv x := by
            rw [hx]
            have : (x.toNat : Int) - 48 = dv x := rfl
            rw [this, IntWalk.u8_in _ ⟨by omega, by omega⟩, IntWalk.i64_in _ ⟨by omega, by omega⟩]
          simp only [List.length_cons] at h3 hn1 hl
          have e3 : IntKind.i64.wrap (n + IntKind.i64.wrap (u * dv x)) = n + u * dv x := by
            rw [IntWalk.i64_in (u * dv x) ⟨by omega, by omega⟩, IntWalk.i64_in _ ⟨by omega, by omega⟩]
          have e4 : IntKind.i64.wrap ((i : Int) + 1) = ((i + 1 : Nat) : Int) := IntWalk.i64_in _ ⟨by omega, by simp at hs5; omega⟩
          rw [e1, e2, e3, e4]
          refine ih (i + 1) (u / 10) (n + u * dv x) hd2 (by simp only [List.length_cons]; omega) hs5 (by omega) (by omega) (by omega) (by omega) (by omega) hc ?_
          rw [hq]
          rcases hc with hc | hc
          · rw [if_pos hc, if_pos hc]
            simp only [tail, hdx, if_true, Option.map_map]
            congr 1
            funext y
            simp only [Function.comp]
            omega
          · have h48 := h49 hc
            subst h48
            have hne : ¬ c.toNat = 48 := by omega
            simp only [hne, if_false, dv48, Int.mul_zero, Int.add_zero, List.all_cons]
            rfl
        refine cut _ _ _ ⟨fun _ => ⟨hI, fun _ => ⟨fun h => hn (nodig ?_), fun h => ⟨hI, fun _ => ⟨fun h2 => hn (nodig ?_), fun h2 => ⟨h0I, fun _ => ⟨fun h4 => ⟨hI, fun _ => ⟨fun h5 => hn ?_, fun h5 => ⟨hI, fun _ => go ?_ ?_⟩⟩⟩, fun h4 => ⟨hI, fun _ => go ?_ ?_⟩⟩⟩⟩⟩⟩⟩, fun h => absurd hI.2 h⟩
        · rw [hx] at h; omega
        · rw [hx] at h2; omega
        · rw [hb0] at h4; rw [hx] at h5
          rw [hq, if_neg (by omega)]
          have : x ≠ 48 := by rintro rfl; exact h5 rfl
          simp [this]
        · rw [hx] at h h2; rw [dig_iff]; omega
        · intro _; rw [hx] at h5; rw [eq48]; omega
        · rw [hx] at h h2; rw [dig_iff]; omega
        · intro h49; rw [hb0] at h4; omega
    have bad : ¬ (c.toNat = 48 ∨ c.toNat = 49) → qual (c :: s') = none := by
      intro h
      have h8 : c ≠ 48 := by rintro rfl; exact h (.inl rfl)
      have h9 : c ≠ 49 := by rintro rfl; exact h (.inr rfl)
      cases s' <;> simp [qual, h8, h9]
    have long : 5 < (c :: s').length → qual (c :: s') = none := by
      intro h
      match s', h with
      | p :: r, h =>
        have : ¬ (p = 46 ∧ r.length ≤ 3) := by rintro ⟨_, h3⟩; simp at h; omega
        simp [qual, this]
    have nopoint : (c :: s').length > 1 → byteAt (c :: s') 1 ≠ 46 → qual (c :: s') = none := by
      intro h h2
      match s', h, h2 with
      | p :: r, h, h2 =>
        have hp : byteAt (c :: p :: r) 1 = (p.toNat : Int) := rfl
        rw [hp] at h2
        have : ¬ (p = 46 ∧ r.length ≤ 3) := by rintro ⟨rfl, h3⟩; exact h2 rfl
        simp [qual, this]
    have start : (c.toNat = 48 ∨ c.toNat = 49) → (c :: s').length ≤ 5 → ((c :: s').length > 1 → byteAt (c :: s') 1 = 46) →
        RunD η Tryz.prog B 37 (TRQual.H0 (c :: s')) [0, 4, 5, 6] (TRQual.S0 (c :: s') 100 (IntKind.i64.wrap (1000 * IntKind.i64.wrap (IntKind.u8.wrap (byteAt (c :: s') 0 - 48)))) 2 fun _ => undef) (QF Tryz.prog 9 fun v h => v = .tuple ⟨[.int .i64 (qV (c :: s')), .int .i64 (qE (c :: s'))]⟩ ∧ h = TRQual.H0 (c :: s')) := by
      intro hc h5 hp
      obtain ⟨n0, hn0, e0, hb⟩ : ∃ n0 : Int, IntKind.i64.wrap (1000 * IntKind.i64.wrap (IntKind.u8.wrap (byteAt (c :: s') 0 - 48))) = n0 ∧ (c.toNat = 48 → n0 = 0) ∧ (c.toNat = 49 → n0 = 1000) := by
        rw [hb0]
        rcases hc with hc | hc
        · rw [hc]; exact ⟨0, rfl, fun _ => rfl, fun h => by omega⟩
        · rw [hc]; exact ⟨1000, rfl, fun h => by omega, fun _ => rfl⟩
      rw [hn0]
      have c48 : c = 48 ↔ c.toNat = 48 := eq48
      have c49 : c = 49 ↔ c.toNat = 49 := ⟨fun h => by rw [h]; rfl, fun h => u8_eq h⟩
      match s', hp, h5, loop with
      | [], hp, h5, loop =>
        refine cut _ _ _ ⟨fun h => absurd h (by show ¬ (2 : Int) < 1; decide), fun _ => hsm n0 ?_⟩
        rcases hc with hc | hc
        · rw [e0 hc]; simp [qual, c48.2 hc]
        · rw [hb hc]; simp [qual, c49.2 hc]
      | p :: r, hp, h5, loop =>
        have hp2 : byteAt (c :: p :: r) 1 = (p.toNat : Int) := rfl
        have h46 := hp (by simp)
        rw [hp2] at h46
        have p46 : p = 46 := u8_eq (by show p.toNat = 46; omega)
        subst p46
        simp only [List.length_cons] at h5
        refine loop r 2 100 n0 rfl (by simp only [List.length_cons]; omega) (by simp only [List.length_cons]; omega) (by omega) (by omega) (by omega) (by rcases hc with h | h <;> omega) (by have := e0; have := hb; rcases hc with h | h <;> omega) hc ?_
        have hq : qual (c :: 46 :: r) = if c = 48 then tail r 100 else if c = 49 ∧ r.all (· == 48) then some 1000 else none := by
          have : r.length ≤ 3 := by omega
          simp [qual, this]
        rw [hq]
        rcases hc with hc | hc
        · rw [if_pos (c48.2 hc), if_pos hc, e0 hc]
          cases tail r 100 <;> simp
        · have h8 : ¬ c = 48 := by rw [c48]; omega
          have h8' : ¬ c.toNat = 48 := by omega
          simp only [h8, h8', if_false, c49.2 hc, true_and, hb hc]
          rfl
    have hpos : (0 : Int) ≤ 0 ∧ (0 : Int) < ((c :: s').length : Int) := ⟨by omega, by simp <;> omega⟩
    have h1I : ((c :: s').length : Int) > 1 → (0 : Int) ≤ 1 ∧ (1 : Int) < ((c :: s').length : Int) := fun h => ⟨by omega, h⟩
    refine ⟨fun h => absurd h (by simp <;> omega), fun _ => ⟨fun h => hn (long (by omega)), fun h5 => ⟨hpos, fun _ => ⟨fun h => ⟨hpos, fun _ => ⟨fun h2 => hn (bad ?_), fun h2 => ⟨fun h3 => ⟨h1I h3, fun _ => ⟨fun h4 => hn (nopoint (by omega) h4), fun h4 => ⟨hpos, fun _ => start (.inr ?_) (by omega) fun _ => h4⟩⟩⟩, fun h3 => ⟨hpos, fun _ => start (.inr ?_) (by omega) fun h => absurd (by omega) h3⟩⟩⟩⟩,
      fun h => ⟨fun h3 => ⟨h1I h3, fun _ => ⟨fun h4 => hn (nopoint (by omega) h4), fun h4 => ⟨hpos, fun _ => start (.inl ?_) (by omega) fun _ => h4⟩⟩⟩, fun h3 => ⟨hpos, fun _ => start (.inl ?_) (by omega) fun h => absurd (by omega) h3⟩⟩⟩⟩⟩⟩
    all_goals simp only [hb0] at *
    all_goals omega
theorem law_ok (hη : OneCells η) (hmix : Tryz.prog.follows .mixedOrders = true) (hreg : RegOk η Tryz.prog B noNest) (hm : ∃ m, η 0 = .int .i64 m) (hev : η 1 = .nilIface ∨ ∃ te pe, η 1 = .iface te pe) (haw : ∀ h, CallSpec η Tryz.prog B 11 [] h fun v h' => v = .bool true ∧ h' = h) (n : Int) (s : List UInt8) :
    CallSpec η Tryz.prog B 7 [.int .i64 n, .string ⟨⟨s⟩⟩] (TLaw.H0 n s) (fun v _ => v = .bool true) := by
  refine TLaw.enter hη hmix hreg _ _ ?_
  simp only [W.holds, true_and, and_true, decide_eq_true_eq, decide_eq_false_iff_not, beq_iff_eq, beq_eq_false_iff_ne, bne_self_eq_false, bne_iff_ne, bne_eq_false_iff_eq, ne_eq, beq_self_eq_true, Bool.not_true, Bool.false_eq_true, false_implies, implies_true, not_true_eq_false, true_implies]
  have P34 := fun n => print_ok hη hmix hreg n
  have P35 := fun n => refp_ok hη hmix hreg n
  have Q36 := fun s hs => qual_ok hη hmix hreg hm hev s hs
  have Q37 := fun s => refq_ok hη hmix hreg s
  have A : CallSpec η Tryz.prog B 11 [] (TLaw.H0 n s) (KT.ret (.bool true) (TLaw.H0 n s)).sat := haw _
  have last : (qE s = 0 → CallSpec η Tryz.prog B 34 [.int .i64 (qV s)] (TLaw.H0 n s) (KT.ret (.tuple ⟨[.string ⟨⟨pS (qV s)⟩⟩, .int .i64 (pE (qV s))]⟩) (TLaw.H0 n s)).sat ∧ (¬ pE (qV s) = 0 → (Value.bool false) = .bool true) ∧ (pE (qV s) = 0 → (((pS (qV s)).length : Int) > (s.length : Int) → (Value.bool false) = .bool true) ∧ (¬ ((pS (qV s)).length : Int) > (s.length : Int) → CallSpec η Tryz.prog B 11 [] (TLaw.H0 n s) (KT.ret (.bool true) (TLaw.H0 n s)).sat))) ∧ (¬ qE s = 0 → CallSpec η Tryz.prog B 11 [] (TLaw.H0 n s) (KT.ret (.bool true) (TLaw.H0 n s)).sat) :=
    ⟨fun h => ⟨P34 _, fun h2 => absurd (short h).1 h2, fun _ => ⟨fun h2 => absurd (short h).2 (by omega), fun _ => A⟩⟩, fun _ => A⟩
  refine ⟨fun _ => A, fun hs => ⟨P34 n, P35 n, Q36 s (by omega), Q37 s, fun h => ⟨Q36 _ ?_, fun h2 => absurd (back h).1 h2, fun _ => ⟨fun h2 => absurd (back h).2 h2, fun _ => last⟩⟩, fun _ => last⟩⟩
  obtain ⟨h0, h1⟩ := pE_iff.1 h
  rw [(pS_of h0 h1).1]
  exact Nat.le_trans (qual_pStr n.toNat (by omega)).2 (by omega)
end Go.Ev.TQ
