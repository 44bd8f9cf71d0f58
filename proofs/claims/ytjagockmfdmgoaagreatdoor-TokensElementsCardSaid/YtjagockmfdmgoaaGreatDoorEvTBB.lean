/- Quoting and reading quoted strings. -/
import Derived.Test.YtjagockmfdmgoaaGreatDoorEvTBA
namespace Go.Ev
set_option linter.unusedVariables false
set_option linter.unusedSimpArgs false
open Go Go.Proofs
variable {η : Nat → Value} {B : Nat}
theorem app_need (d : List UInt8) (h : d.length + 1 ≤ 1000000) : 1 ≤ 1 ∧ (bytesV d).length = d.length * 1 ∧ d.length + 1 ≤ 1000000 ∧ True := ⟨by omega, by rw [bytesV_len, Nat.mul_one], h, trivial⟩
theorem app_nn (d : List UInt8) (x : Int) : NoNames (bytesV d ++ [.int .u8 x]) := by
  intro v hv
  rcases List.mem_append.1 hv with h | h
  · exact bytesV_plain d v h
  · rw [List.mem_singleton.1 h]; rfl
theorem RV.tup2 {σ : Nat → Nat} {N : Nat} {w : Bool} {a b : Value} (ha : RV σ N w a a) (hb : RV σ N w b b) : RV σ N w (.tuple ⟨[a, b]⟩) (.tuple ⟨[a, b]⟩) := .tuple rfl fun i v x hv hx => by
  match i, hv, hx with
  | 0, hv, hx => cases hv; cases hx; exact ha
  | 1, hv, hx => cases hv; cases hx; exact hb
theorem RV.tup3 {σ : Nat → Nat} {N : Nat} {w : Bool} {a b c : Value} (ha : RV σ N w a a) (hb : RV σ N w b b) (hc : RV σ N w c c) : RV σ N w (.tuple ⟨[a, b, c]⟩) (.tuple ⟨[a, b, c]⟩) := .tuple rfl fun i v x hv hx => by
  match i, hv, hx with
  | 0, hv, hx => cases hv; cases hx; exact ha
  | 1, hv, hx => cases hv; cases hx; exact hb
  | 2, hv, hx => cases hv; cases hx; exact hc
namespace TB
theorem esc_len : ∀ s : List UInt8, (esc s).length ≤ 2 * s.length
  | [] => Nat.le_refl _
  | c :: r => by
    have := esc_len r
    unfold esc; split <;> simp only [List.length_cons] <;> omega
end TB
end Go.Ev
namespace Go.Ev
set_option linter.unusedVariables false
set_option linter.unusedSimpArgs false
open Go Go.Proofs
variable {η : Nat → Value} {B : Nat}
namespace TB
/-- What a scan has found when d stands for i bytes. -/
def after (i : Nat) (d : List UInt8) (x : Option (Nat × List UInt8)) : Option (Nat × List UInt8) := x.map fun x => (x.1 + i, d ++ x.2)
theorem after_map (i k : Nat) (d e : List UInt8) (x : Option (Nat × List UInt8)) : after i d (x.map fun x => (x.1 + k, e ++ x.2)) = after (i + k) (d ++ e) x := by
  unfold after
  cases x with
  | none => rfl
  | some x => simp only [Option.map_some, List.append_assoc]; congr 2; omega
theorem scan_end {c : UInt8} (r : List UInt8) (h : c.toNat = 34) : scan (c :: r) = some (1, []) := by
  have : plB c = true := by unfold plB; rw [decide_eq_true (by omega)]
  rw [scan.eq_def]; simp only [this, if_true, h]
theorem scan_bad {c : UInt8} (r : List UInt8) (h : plB c = false) : scan (c :: r) = none := by
  rw [scan.eq_def]; simp only [h, Bool.false_eq_true, if_false]
theorem scan_one {c : UInt8} (r : List UInt8) (h : plB c = true) (h1 : c.toNat ≠ 34) (h2 : c.toNat ≠ 92) : scan (c :: r) = (scan r).map fun x => (x.1 + 1, [c] ++ x.2) := by
  rw [scan.eq_def]; simp only [h, if_true, h1, if_false, h2]; rfl
theorem pl92 {c : UInt8} (h : c.toNat = 92) : plB c = true := by unfold plB; rw [decide_eq_true (by omega)]
theorem scan_pair0 {c : UInt8} (h : c.toNat = 92) : scan [c] = none := by
  rw [scan.eq_def]; simp only [pl92 h, if_true, show ¬ c.toNat = 34 by omega, if_false, h]; rfl
theorem scan_pair1 {c d : UInt8} (r : List UInt8) (h : c.toNat = 92) (hd : plB d = false) : scan (c :: d :: r) = none := by
  rw [scan.eq_def]; simp only [pl92 h, if_true, show ¬ c.toNat = 34 by omega, if_false, h, hd, Bool.false_eq_true]; rfl
theorem scan_pair {c d : UInt8} (r : List UInt8) (h : c.toNat = 92) (hd : plB d = true) : scan (c :: d :: r) = (scan r).map fun x => (x.1 + 2, [d] ++ x.2) := by
  rw [scan.eq_def]; simp only [pl92 h, if_true, show ¬ c.toNat = 34 by omega, if_false, h, hd]; rfl
theorem rq_none {s : List UInt8} (h : scan (s.drop 1) = none) : rqT s = [] ∧ rqN s = 0 := by unfold rqT rqN; rw [h]; exact ⟨rfl, rfl⟩
theorem rq_some {s : List UInt8} {n : Nat} {t : List UInt8} (h : scan (s.drop 1) = some (n, t)) : rqT s = t ∧ rqN s = n + 1 := by unfold rqT rqN; rw [h]; exact ⟨rfl, rfl⟩
theorem rq_ok (hη : OneCells η) (hmix : Tryz.prog.follows .mixedOrders = true) (s : List UInt8) (h1 : 1 ≤ s.length) (hs : s.length ≤ 400000) (h : AH) :
    CallSpec η Tryz.prog B 79 [.string ⟨⟨s⟩⟩] h (rqK [.string ⟨⟨s⟩⟩] h).sat := by
  refine CallSpec.bare (v := .tuple ⟨[.string ⟨⟨rqT s⟩⟩, .int .i64 (rqN s : Int)]⟩) hη gs9 (fun _ _ => str_args) (fun σ M => RV.tup2 (.string _) (.int _ _)) (fun σ M => RV.tup2 (.string _) (.int _ _)) ?_ h
  generalize hD : (fun (v : Value) (_ : AH) => v = .tuple ⟨[.string ⟨⟨rqT s⟩⟩, .int .i64 (rqN s : Int)]⟩) = D
  have dnone : scan (s.drop 1) = none → ∀ h, D (.tuple ⟨[.string ⟨#[]⟩, .int .i64 0]⟩) h := by
    intro hn h; subst hD; show _ = _; rw [(rq_none hn).1, (rq_none hn).2]; rfl
  have dsome : ∀ (n : Nat) (t : List UInt8) (k : Int), scan (s.drop 1) = some (n, t) → k = ((n + 1 : Nat) : Int) → ∀ h, D (.tuple ⟨[.string ⟨⟨t⟩⟩, .int .i64 k]⟩) h := by
    intro n t k hn hk h; subst hD; show _ = _; rw [(rq_some hn).1, (rq_some hn).2, hk]
  have cut1 := fun i0 n0 l0 => BRQ.cut1 (η := η) (B := B) (D := D) hη hmix (reg0 hη hmix) s i0 n0 l0
  have cut3 := fun i0 n0 l0 => BRQ.cut3 (η := η) (B := B) (D := D) hη hmix (reg0 hη hmix) s i0 n0 l0
  have cut4 := fun i0 n0 l0 => BRQ.cut4 (η := η) (B := B) (D := D) hη hmix (reg0 hη hmix) s i0 n0 l0
  simp only [W.holds, true_and, decide_eq_true_eq, decide_eq_false_iff_not, beq_iff_eq, beq_eq_false_iff_ne, true_implies] at cut1 cut3 cut4
  have kk : ∀ {c : UInt8} {i : Int} {k : Int}, byteAt s i = (c.toNat : Int) → (kdN (byteAt s i).toNat = k ↔ kdN c.toNat = k) := by
    intro c i k hb; rw [hb, Int.toNat_natCast]
  have k0 : ∀ {c : UInt8}, kdN c.toNat = 0 ↔ plB c = false := by
    intro c; have := kd0 c
    rw [← beq_iff_eq, this]; cases plB c <;> simp
  have k3 : ∀ {c : UInt8}, kdN c.toNat = 3 ↔ c.toNat = 34 := by intro c; rw [← beq_iff_eq, kd3, beq_iff_eq]
  have k4 : ∀ {c : UInt8}, kdN c.toNat = 4 ↔ c.toNat = 92 := by intro c; rw [← beq_iff_eq, kd4, beq_iff_eq]
  have loop : ∀ (m : Nat) (r : List UInt8) (i : Nat) (d : List UInt8), r.length ≤ m → s.drop (i + 1) = r → i + 1 ≤ s.length → 1 ≤ d.length → d.length ≤ i → scan (s.drop 1) = after i d (scan r) →
      RunD η Tryz.prog B 79 (BRQ.H0 s) [0, 4, 5] (BRQ.S1 s (i : Int) d.length (bytesV d) fun _ => undef) (QF Tryz.prog 9 D) := by
    intro m
    induction m with
    | zero =>
      intro r i d hm hd hi1 hd1 hdi he
      have hr : r = [] := List.length_eq_zero_iff.1 (by omega)
      subst hr
      have := at_nil hd
      refine cut1 _ _ _ ⟨fun _ => dnone ?_ _, fun h => absurd ?_ h⟩
      · rw [he]; rfl
      · rw [wrap1 (by omega)]; omega
    | succ m ih =>
      intro r i d hm hd hi1 hd1 hdi he
      have hw : IntKind.i64.wrap ((i : Int) + 1) = ((i + 1 : Nat) : Int) := wrap1 (by omega)
      have c1 := cut1 (i : Int) d.length (bytesV d)
      rw [hw] at c1
      match r, hm, hd, he with
      | [], hm, hd, he =>
        have := at_nil hd
        refine c1 ⟨fun _ => dnone (by rw [he]; rfl) _, fun h => absurd (by omega) h⟩
      | c :: r, hm, hd, he =>
        obtain ⟨hi, hb, hd2⟩ := at_cons hd
        have hI : (0 : Int) ≤ ((i + 1 : Nat) : Int) ∧ ((i + 1 : Nat) : Int) < (s.length : Int) := ⟨by omega, by omega⟩
        have hw2 : IntKind.i64.wrap (((i + 1 : Nat) : Int) + 1) = ((i + 1 + 1 : Nat) : Int) := wrap1 (by omega)
        refine c1 ⟨fun h => by omega, fun _ => ⟨hI, fun _ => ⟨kind_any hη hmix (byteAt_range _ _).1 (byteAt_range _ _).2 _, fun h => dnone ?_ _, fun h => ⟨fun h3 => ⟨by omega, fun _ => ⟨buf_ok d (by omega), fun _ => ⟨fun h => by omega, fun _ => ?_⟩⟩⟩, fun h3 => ⟨fun h4 => ?_, fun h4 => ⟨hI, fun _ => ⟨app_need d (by omega), fun _ => ⟨⟨app_nn _ _, trivial⟩, fun _ => ?_⟩⟩⟩⟩⟩⟩⟩⟩
        · rw [kk hb, k0] at h
          rw [he, scan_bad r h]; rfl
        · rw [kk hb, k3] at h3
          rw [Int.toNat_natCast, bytesIn_all, hw2]
          refine dsome (i + 1) d _ ?_ rfl _
          rw [he, scan_end r h3]
          unfold after; simp only [Option.map_some, List.append_nil]; congr 2; omega
        · -- a pair
          rw [kk hb, k4] at h4
          refine cut3 _ _ _ ?_
          rw [hw2]
          match r, hm, hd2, he with
          | [], hm, hd2, he =>
            have := at_nil hd2
            exact ⟨fun _ => dnone (by rw [he, scan_pair0 h4]; rfl) _, fun h => absurd (by omega) h⟩
          | e :: r, hm, hd2, he =>
            obtain ⟨hi2, hb2, hd3⟩ := at_cons hd2
            refine ⟨fun h => by omega, fun _ => ⟨⟨by omega, by omega⟩, fun _ => ⟨kind_any hη hmix (byteAt_range _ _).1 (byteAt_range _ _).2 _, fun h => dnone ?_ _, fun h => ?_⟩⟩⟩
            · rw [kk hb2, k0] at h
              rw [he, scan_pair1 r h4 h]; rfl
            · have hp : plB e = true := by
                cases hq : plB e with
                | true => rfl
                | false => exact absurd ((kk hb2).2 (k0.2 hq)) h
              refine cut4 _ _ _ ⟨⟨by omega, by omega⟩, fun _ => ⟨app_need d (by omega), fun _ => ⟨⟨app_nn _ _, trivial⟩, fun _ => ?_⟩⟩⟩
              rw [hb2, bytesV_snoc]
              have := ih r (i + 1 + 1) (d ++ [e]) (by simp at hm; omega) hd3 (by omega) (by simp) (by simp; omega) (by rw [he, scan_pair r h4 hp, after_map])
              rw [List.length_append] at this
              exact this
        · rw [ne_eq, kk hb, k3] at h3
          rw [ne_eq, kk hb, k4] at h4
          rw [ne_eq, kk hb, k0] at h
          have hp : plB c = true := by cases hq : plB c with | true => rfl | false => exact absurd hq h
          rw [hb, bytesV_snoc]
          have := ih r (i + 1) (d ++ [c]) (by simp at hm; omega) hd2 (by omega) (by simp) (by simp; omega) (by rw [he, scan_one r hp h3 h4, after_map])
          rw [List.length_append] at this
          exact this
  have cut0 := BRQ.cut0 (η := η) (B := B) (D := D) hη hmix (reg0 hη hmix) s
  have cut2 := BRQ.cut2 (η := η) (B := B) (D := D) hη hmix (reg0 hη hmix) s
  refine BRQ.enter hη hmix (reg0 hη hmix) _ ?_
  simp only [W.holds, true_and, decide_eq_true_eq, decide_eq_false_iff_not, beq_iff_eq, beq_eq_false_iff_ne, true_implies] at cut0 cut2 ⊢
  have hds : s.drop 1 = [] → scan (s.drop 1) = none := by intro h; rw [h]; rfl
  cases hr : s.drop 1 with
  | nil =>
    have := at_nil hr
    exact ⟨fun _ => dnone (hds hr) _, fun h => absurd (by omega) h⟩
  | cons c r =>
    obtain ⟨hi, hb, hd2⟩ := at_cons hr
    have hb : byteAt s 1 = (c.toNat : Int) := hb
    have hI : (0 : Int) ≤ 1 ∧ (1 : Int) < (s.length : Int) := ⟨by omega, by omega⟩
    refine ⟨fun h => by omega, fun _ => ⟨hI, fun _ => ⟨kind_any hη hmix (byteAt_range _ _).1 (byteAt_range _ _).2 _, fun h => dnone ?_ _, fun h => ⟨fun h3 => dsome 1 [] 2 ?_ rfl _, fun h3 => ⟨fun h4 => ?_, fun h4 => ⟨hI, fun _ => ?_⟩⟩⟩⟩⟩⟩
    · rw [kk hb, k0] at h
      rw [hr, scan_bad r h]
    · rw [kk hb, k3] at h3
      rw [hr, scan_end r h3]
    · rw [kk hb, k4] at h4
      refine cut0 ?_
      match r, hd2, hr with
      | [], hd2, hr =>
        have := at_nil hd2
        exact ⟨fun _ => dnone (by rw [hr, scan_pair0 h4]) _, fun h => absurd (by omega) h⟩
      | e :: r, hd2, hr =>
        obtain ⟨hi2, hb2, hd3⟩ := at_cons hd2
        have hb2 : byteAt s 2 = (e.toNat : Int) := hb2
        refine ⟨fun h => by omega, fun _ => ⟨⟨by omega, by omega⟩, fun _ => ⟨kind_any hη hmix (byteAt_range _ _).1 (byteAt_range _ _).2 _, fun h => dnone ?_ _, fun h => ?_⟩⟩⟩
        · rw [kk hb2, k0] at h
          rw [hr, scan_pair1 r h4 h]
        · have hp : plB e = true := by
            cases hq : plB e with
            | true => rfl
            | false => exact absurd ((kk hb2).2 (k0.2 hq)) h
          refine cut2 ⟨⟨by omega, by omega⟩, fun _ => ?_⟩
          rw [hb2]
          exact loop r.length r 2 [e] (Nat.le_refl _) hd3 (by omega) (by simp) (by simp) (by rw [hr, scan_pair r h4 hp]; rfl)
    · rw [ne_eq, kk hb, k3] at h3
      rw [ne_eq, kk hb, k4] at h4
      rw [ne_eq, kk hb, k0] at h
      have hp : plB c = true := by cases hq : plB c with | true => rfl | false => exact absurd hq h
      rw [hb]
      exact loop r.length r 1 [c] (Nat.le_refl _) hd2 (by omega) (by simp) (by simp) (by rw [hr, scan_one r hp h3 h4]; rfl)
end TB
end Go.Ev
namespace Go.Ev
set_option linter.unusedVariables false
set_option linter.unusedSimpArgs false
open Go Go.Proofs
variable {η : Nat → Value} {B : Nat}
namespace TB
theorem tok_full {s : List UInt8} (h : tokB s = true) : tokN s = s.length ∧ s.length ≤ 64 ∧ s.all letB = true := by
  unfold tokB at h
  simp only [Bool.and_eq_true, decide_eq_true_eq] at h
  exact ⟨(tokN_all s).2 h.2, h.1.2, h.2⟩
theorem scan_le : ∀ (m : Nat) (r : List UInt8), r.length ≤ m → ∀ n t, scan r = some (n, t) → n ≤ r.length ∧ 1 ≤ n ∧ t.all plB = true ∧ (esc t).length + 1 ≤ n ∧ t.length ≤ (esc t).length := by
  intro m
  induction m with
  | zero =>
    intro r hm n t h
    have hr : r = [] := List.length_eq_zero_iff.1 (by omega)
    subst hr; simp [scan] at h
  | succ m ih =>
    intro r hm n t h
    match r, hm, h with
    | [], hm, h => simp [scan] at h
    | c :: r, hm, h =>
      simp only [List.length_cons] at hm
      cases hp : plB c with
      | false => rw [scan_bad r hp] at h; cases h
      | true =>
        by_cases h3 : c.toNat = 34
        · rw [scan_end r h3] at h; injection h with h; injection h with e1 e2; subst e1; subst e2
          exact ⟨by simp, by omega, rfl, by simp [esc], by simp [esc]⟩
        by_cases h4 : c.toNat = 92
        · match r, hm, h with
          | [], hm, h => rw [scan_pair0 h4] at h; cases h
          | e :: r, hm, h =>
            simp only [List.length_cons] at hm
            cases hq : plB e with
            | false => rw [scan_pair1 r h4 hq] at h; cases h
            | true =>
              rw [scan_pair r h4 hq, Option.map_eq_some_iff] at h
              obtain ⟨⟨n', t'⟩, h5, h6⟩ := h
              injection h6 with e1 e2; subst e1; subst e2
              obtain ⟨a1, a2, a3, a4, a5⟩ := ih r (by omega) n' t' h5
              refine ⟨by simp only [List.length_cons]; omega, by omega, by simp [hq, a3], ?_, ?_⟩
              · show (esc (e :: t')).length + 1 ≤ n' + 2
                unfold esc; split <;> simp only [List.length_cons] <;> omega
              · show (e :: t').length ≤ (esc (e :: t')).length
                unfold esc; split <;> simp only [List.length_cons] <;> omega
        · rw [scan_one r hp h3 h4, Option.map_eq_some_iff] at h
          obtain ⟨⟨n', t'⟩, h5, h6⟩ := h
          injection h6 with e1 e2; subst e1; subst e2
          obtain ⟨a1, a2, a3, a4, a5⟩ := ih r (by omega) n' t' h5
          have he : esc (c :: t') = c :: esc t' := by rw [esc, if_neg (by omega)]
          refine ⟨by simp only [List.length_cons]; omega, by omega, by simp [hp, a3], ?_, ?_⟩
          · show (esc (c :: t')).length + 1 ≤ n' + 1
            rw [he]; simp only [List.length_cons]; omega
          · show (c :: t').length ≤ (esc (c :: t')).length
            rw [he]; simp only [List.length_cons]; omega
theorem scan_esc : ∀ s : List UInt8, s.all plB = true → scan (esc s ++ [34]) = some ((esc s).length + 1, s)
  | [], _ => rfl
  | c :: r, h => by
    simp only [List.all_cons, Bool.and_eq_true] at h
    have ih := scan_esc r h.2
    by_cases hc : c.toNat = 34 ∨ c.toNat = 92
    · have he : esc (c :: r) = 92 :: c :: esc r := by rw [esc, if_pos hc]
      rw [he]
      show scan (92 :: c :: (esc r ++ [34])) = _
      rw [scan_pair (esc r ++ [34]) rfl h.1, ih]
      rfl
    · have he : esc (c :: r) = c :: esc r := by rw [esc, if_neg hc]
      rw [he]
      show scan (c :: (esc r ++ [34])) = _
      rw [scan_one (esc r ++ [34]) h.1 (by omega) (by omega), ih]
      rfl
theorem tok_quo (t : List UInt8) : tokB (34 :: t) = false := by
  unfold tokB
  have : letB 34 = false := by decide
  rw [List.all_cons, this, Bool.false_and, Bool.and_false]
theorem qtE_zero {s : List UInt8} (h : qtE s = 0) : s.length ≤ 500 ∧ s.all plB = true := by
  unfold qtE at h
  split at h
  · cases h
  · split at h
    · rename_i h1 h2; exact ⟨by omega, h2⟩
    · cases h
theorem rqN_le {s : List UInt8} (h1 : 1 ≤ s.length) : rqN s ≤ s.length := by
  unfold rqN
  cases hs : scan (s.drop 1) with
  | none => simp
  | some x =>
    obtain ⟨n, t⟩ := x
    have := (scan_le _ _ (Nat.le_refl _) n t hs).1
    rw [List.length_drop] at this
    simp only; omega
end TB
end Go.Ev
