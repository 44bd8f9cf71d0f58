/- Quoting and reading quoted strings. -/
import Derived.Test.YtjagockmfdmgoaaGreatDoorEvTBA
namespace Go.Ev
set_option linter.unusedVariables false
set_option linter.unusedSimpArgs false
open Go Go.Proofs
variable {η : Nat → Value} {B : Nat}
theorem app_need (d : List UInt8) (h : d.length + 1 ≤ 1000000) : 1 ≤ 1 ∧ (bytesV d).length = d.length * 1 ∧ d.length + 1 ≤ 1000000 ∧ True := ⟨by omega, by rw [bytesV_len, Nat.mul_one], h, trivial⟩
theorem app_nn (d : List UInt8) (x : Int) : NoNames (bytesV d ++ [.int .u8 x]) := by
  intro v hv
  rcases List.mem_append.1 hv with h | h
  · exact bytesV_plain d v h
  · rw [List.mem_singleton.1 h]; rfl
theorem RV.tup2 {σ : Nat → Nat} {N : Nat} {w : Bool} {a b : Value} (ha : RV σ N w a a) (hb : RV σ N w b b) : RV σ N w (.tuple ⟨[a, b]⟩) (.tuple ⟨[a, b]⟩) := .tuple rfl fun i v x hv hx => by
  match i, hv, hx with
  | 0, hv, hx => cases hv; cases hx; exact ha
  | 1, hv, hx => cases hv; cases hx; exact hb
theorem RV.tup3 {σ : Nat → Nat} {N : Nat} {w : Bool} {a b c : Value} (ha : RV σ N w a a) (hb : RV σ N w b b) (hc : RV σ N w c c) : RV σ N w (.tuple ⟨[a, b, c]⟩) (.tuple ⟨[a, b, c]⟩) := .tuple rfl fun i v x hv hx => by
  match i, hv, hx with
  | 0, hv, hx => cases hv; cases hx; exact ha
  | 1, hv, hx => cases hv; cases hx; exact hb
  | 2, hv, hx => cases hv; cases hx; exact hc
namespace TB
theorem esc_len : ∀ s : List UInt8, (esc s).length ≤ 2 * s.length
  | [] => Nat.le_refl _
  | c :: r => by
    have := esc_len r
    unfold esc; split <;> simp only [List.length_cons] <;> omega
theorem quo_ok (hη : OneCells η) (hmix : Tryz.prog.follows .mixedOrders = true) (s : List UInt8) (hs : s.length ≤ 400000) (h : AH) :
    CallSpec η Tryz.prog B 42 [.string ⟨⟨s⟩⟩] h (quoK [.string ⟨⟨s⟩⟩] h).sat := by
  refine CallSpec.bare (v := .string ⟨⟨quo s⟩⟩) hη gs9 (fun _ _ => str_args) (fun σ M => .string _) (fun σ M => .string _) ?_ h
  have cut := fun i0 n0 l0 => BQuo.cut0 (η := η) (B := B) (D := fun v _ => v = .string ⟨⟨quo s⟩⟩) hη hmix (reg0 hη hmix) s i0 n0 l0
  simp only [W.holds, true_and, decide_eq_true_eq, decide_eq_false_iff_not] at cut
  have loop : ∀ (r : List UInt8) (i : Nat) (d : List UInt8), s.drop i = r → d.length ≤ 1 + 2 * i → d ++ (esc r ++ [34]) = quo s → RunD η Tryz.prog B 42 (BQuo.H0 s) [0, 3, 8, 9] (BQuo.S0 s (i : Int) d.length (bytesV d) fun _ => undef) (QF Tryz.prog 9 fun v _ => v = .string ⟨⟨quo s⟩⟩) := by
    intro r
    induction r with
    | nil =>
      intro i d hd hl he
      have hq := congrArg List.length he
      have hq2 : (quo s).length ≤ 800002 := by have := esc_len s; simp [quo]; omega
      simp [esc] at hq
      have hb := buf_ok (d ++ [34]) (by simp; omega)
      rw [← bytesV_snoc, List.length_append] at hb
      refine cut _ _ _ ⟨fun h => by have := at_nil hd; omega, fun _ => ⟨app_need d (by omega), fun _ => ⟨hb, fun _ => ⟨fun h => (by cases h), fun _ _ => ?_⟩⟩⟩⟩
      have e : (bytesV d ++ [Value.int .u8 34] : List Value) = bytesV (d ++ [34]) := bytesV_snoc d 34
      have e2 : ((d.length + 1 : Nat) : Int).toNat = (d ++ [34]).length := by simp
      rw [e, e2, bytesIn_all, ← he]; rfl
    | cons c r ih =>
      intro i d hd hl he
      obtain ⟨hi, hb, hd2⟩ := at_cons hd
      have hI : (0 : Int) ≤ (i : Int) ∧ (i : Int) < (s.length : Int) := ⟨by omega, by omega⟩
      have hc : ∀ k : Int, (kdN (byteAt s (i : Int)).toNat == k) = (kdN c.toNat == k) := by intro k; rw [hb, Int.toNat_natCast]
      have two : (c.toNat = 34 ∨ c.toNat = 92) → RunD η Tryz.prog B 42 (BQuo.H0 s) [0, 3, 8, 9] (BQuo.S0 s (IntKind.i64.wrap ((i : Int) + 1)) (d.length + 1 + 1) ((bytesV d ++ [.int .u8 92]) ++ [.int .u8 (byteAt s (i : Int))]) fun _ => undef) (QF Tryz.prog 9 fun v _ => v = .string ⟨⟨quo s⟩⟩) := by
        intro h
        rw [hb, wrap1 (by omega), show (bytesV d ++ [Value.int .u8 92] : List Value) = bytesV (d ++ [92]) from bytesV_snoc d 92, bytesV_snoc]
        have := ih (i + 1) (d ++ [92] ++ [c]) hd2 (by simp; omega) (by rw [← he, esc, if_pos h]; simp)
        rw [List.length_append, List.length_append] at this
        exact this
      have need2 : 1 ≤ 1 ∧ (bytesV d ++ [Value.int IntKind.u8 92]).length = (d.length + 1) * 1 ∧ d.length + 1 + 1 ≤ 1000000 ∧ True := ⟨by omega, by simp [bytesV_len], by omega, trivial⟩
      have nn2 : ∀ x, NoNames ((bytesV d ++ [Value.int IntKind.u8 92]) ++ [.int .u8 x]) := by
        intro x; rw [show (bytesV d ++ [Value.int .u8 92] : List Value) = bytesV (d ++ [92]) from bytesV_snoc d 92]; exact app_nn _ _
      refine cut _ _ _ ⟨fun _ => ⟨hI, fun _ => ⟨kind_any hη hmix (byteAt_range _ _).1 (byteAt_range _ _).2 _, fun h => ⟨app_need d (by omega), fun _ => ⟨hI, fun _ => ⟨need2, fun _ => ⟨⟨nn2 _, trivial⟩, fun _ => ?_⟩⟩⟩⟩, fun h => ⟨fun h2 => ⟨app_need d (by omega), fun _ => ⟨hI, fun _ => ⟨need2, fun _ => ⟨⟨nn2 _, trivial⟩, fun _ => ?_⟩⟩⟩⟩, fun h2 => ⟨hI, fun _ => ⟨app_need d (by omega), fun _ => ⟨⟨app_nn _ _, trivial⟩, fun _ => ?_⟩⟩⟩⟩⟩⟩, fun h => by omega⟩
      · rw [hc, kd3] at h
        exact two (.inl (by simpa using h))
      · rw [hc, kd4] at h2
        exact two (.inr (by simpa using h2))
      · rw [hc, kd3] at h
        rw [hc, kd4] at h2
        have hn : ¬ (c.toNat = 34 ∨ c.toNat = 92) := by
          simp only [beq_eq_false_iff_ne] at h h2
          omega
        rw [hb, wrap1 (by omega), bytesV_snoc]
        have := ih (i + 1) (d ++ [c]) hd2 (by simp; omega) (by rw [← he, esc, if_neg hn]; simp)
        rw [List.length_append] at this
        exact this
  refine BQuo.enter hη hmix (reg0 hη hmix) _ ?_
  simp only [W.holds, true_and, true_implies]
  exact loop s 0 [34] rfl (by simp) rfl
theorem quote_ok (hη : OneCells η) (hmix : Tryz.prog.follows .mixedOrders = true) (s : List UInt8) (hs : s.length ≤ 400000) (h : AH) :
    CallSpec η Tryz.prog B 12 [.string ⟨⟨s⟩⟩] h (qtK [.string ⟨⟨s⟩⟩] h).sat := by
  refine CallSpec.bare (v := .tuple ⟨[.string ⟨⟨qtS s⟩⟩, .int .i64 (qtE s)]⟩) hη gs9 (fun _ _ => str_args) (fun σ M => RV.tup2 (.string _) (.int _ _)) (fun σ M => RV.tup2 (.string _) (.int _ _)) ?_ h
  refine BQuote.enter hη hmix (reg0 hη hmix) _ ?_
  simp only [W.holds, true_and, decide_eq_true_eq, decide_eq_false_iff_not, Bool.not_eq_true', Bool.not_eq_false']
  refine ⟨fun h => ?_, fun h0 => ⟨txt_ok hη hmix s _, fun h => ?_, fun h => ⟨tok_ok hη hmix s (by omega) _, fun h2 => ⟨clone_ok hη hmix s (by omega) _, ?_⟩, fun h2 => ⟨quo_ok hη hmix s hs _, ?_⟩⟩⟩⟩
  · have e : qtE s = 3 := by unfold qtE; rw [if_pos (by omega)]
    unfold qtS; rw [e]; rfl
  all_goals
    have hl : ¬ 500 < s.length := by omega
    have ha : s.all plB = txtB s := by unfold txtB; rw [decide_eq_true (by omega), Bool.true_and]
  · have e : qtE s = 6 := by unfold qtE; rw [if_neg hl, ha, h]; rfl
    unfold qtS; rw [e]; rfl
  · have e : qtE s = 0 := by unfold qtE; rw [if_neg hl, ha, h]; rfl
    unfold qtS; rw [e, h2]; rfl
  · have e : qtE s = 0 := by unfold qtE; rw [if_neg hl, ha, h]; rfl
    unfold qtS; rw [e, h2]; rfl
theorem rquote_ok (hη : OneCells η) (hmix : Tryz.prog.follows .mixedOrders = true) (s : List UInt8) (hs : s.length ≤ 400000) (h : AH) :
    CallSpec η Tryz.prog B 13 [.string ⟨⟨s⟩⟩] h (qtK [.string ⟨⟨s⟩⟩] h).sat := by
  refine CallSpec.bare (v := .tuple ⟨[.string ⟨⟨qtS s⟩⟩, .int .i64 (qtE s)]⟩) hη gs9 (fun _ _ => str_args) (fun σ M => RV.tup2 (.string _) (.int _ _)) (fun σ M => RV.tup2 (.string _) (.int _ _)) ?_ h
  have e92 : (#[92] : Array UInt8).toList = [92] := rfl
  have e34 : (#[34] : Array UInt8).toList = [34] := rfl
  have cut := fun i0 y0 => BRQt.cut0 (η := η) (B := B) (D := fun v _ => v = .tuple ⟨[.string ⟨⟨qtS s⟩⟩, .int .i64 (qtE s)]⟩) hη hmix (reg0 hη hmix) s i0 y0
  simp only [W.holds, true_and, decide_eq_true_eq, decide_eq_false_iff_not, beq_iff_eq, beq_eq_false_iff_ne, e92, e34] at cut
  refine BRQt.enter hη hmix (reg0 hη hmix) _ ?_
  simp only [W.holds, true_and, decide_eq_true_eq, decide_eq_false_iff_not, Bool.not_eq_true', Bool.not_eq_false']
  refine ⟨fun h => ?_, fun h0 => ⟨plains_ok hη hmix s (by omega) _, fun h => ?_, fun h => ⟨rtok_ok hη hmix s _, fun h2 => ?_, fun h2 => ?_⟩⟩⟩
  · have e : qtE s = 3 := by unfold qtE; rw [if_pos (by omega)]
    unfold qtS; rw [e]; rfl
  all_goals have hl : ¬ 500 < s.length := by omega
  · have e : qtE s = 6 := by unfold qtE; rw [if_neg hl, h]; rfl
    unfold qtS; rw [e]; rfl
  · have e : qtE s = 0 := by unfold qtE; rw [if_neg hl, h]; rfl
    unfold qtS; rw [e, h2]; rfl
  · have e : qtE s = 0 := by unfold qtE; rw [if_neg hl, h]; rfl
    have eq : qtS s = quo s := by unfold qtS; rw [e, h2]; rfl
    rw [e, eq] at cut ⊢
    have loop : ∀ (r : List UInt8) (i : Nat) (d : List UInt8), s.drop i = r → d.length ≤ 1 + 2 * i → d ++ (esc r ++ [34]) = quo s → RunD η Tryz.prog B 13 (BRQt.H0 s) [0, 4, 5] (BRQt.S0 s (i : Int) ⟨⟨d⟩⟩ fun _ => undef) (QF Tryz.prog 9 fun v _ => v = .tuple ⟨[.string ⟨⟨quo s⟩⟩, .int .i64 0]⟩) := by
      intro r
      induction r with
      | nil =>
        intro i d hd hl he
        have hq := congrArg List.length he
        have hq2 : (quo s).length ≤ 800002 := by have := esc_len s; simp [quo]; omega
        simp [esc] at hq
        refine cut _ _ ⟨fun h => by have := at_nil hd; omega, fun _ => ⟨by show d.length + 1 ≤ _; omega, fun _ => ?_⟩⟩
        show Value.tuple ⟨[.string ⟨⟨d ++ [34]⟩⟩, .int .i64 0]⟩ = _
        rw [← he]; rfl
      | cons c r ih =>
        intro i d hd hl he
        obtain ⟨hi, hb, hd2⟩ := at_cons hd
        have hI : (0 : Int) ≤ (i : Int) ∧ (i : Int) < (s.length : Int) := ⟨by omega, by omega⟩
        have hw : IntKind.i64.wrap ((i : Int) + 1) = ((i + 1 : Nat) : Int) := wrap1 (by omega)
        have hS : (0 : Int) ≤ (i : Int) ∧ (i : Int) ≤ ((i + 1 : Nat) : Int) ∧ ((i + 1 : Nat) : Int) ≤ (s.length : Int) := ⟨by omega, by omega, by omega⟩
        have ht := take1 hd
        have cut2 := cut (i : Int) ⟨⟨d⟩⟩
        rw [hw, ht, hb] at cut2
        have two : (c.toNat = 34 ∨ c.toNat = 92) → RunD η Tryz.prog B 13 (BRQt.H0 s) [0, 4, 5] (BRQt.S0 s ((i + 1 : Nat) : Int) ⟨⟨d ++ [92] ++ [c]⟩⟩ fun _ => undef) (QF Tryz.prog 9 fun v _ => v = .tuple ⟨[.string ⟨⟨quo s⟩⟩, .int .i64 0]⟩) := by
          intro h
          exact ih (i + 1) (d ++ [92] ++ [c]) hd2 (by simp; omega) (by rw [← he, esc, if_pos h]; simp)
        have l1 : d.length + 1 ≤ 9223372036854775807 := by omega
        have l2 : (d ++ [92]).length + [c].length ≤ 9223372036854775807 := by simp; omega
        have l3 : d.length + [c].length ≤ 9223372036854775807 := by simp; omega
        refine cut2 ⟨fun _ => ⟨hI, fun _ => ⟨fun h => ⟨l1, fun _ => ⟨hS, fun _ => ⟨l2, fun _ => two (.inl (by omega))⟩⟩⟩, fun h => ⟨hI, fun _ => ⟨fun h2 => ⟨l1, fun _ => ⟨hS, fun _ => ⟨l2, fun _ => two (.inr (by omega))⟩⟩⟩, fun h2 => ⟨hS, fun _ => ⟨l3, fun _ => ?_⟩⟩⟩⟩⟩⟩, fun h => by omega⟩
        exact ih (i + 1) (d ++ [c]) hd2 (by simp; omega) (by rw [← he, esc, if_neg (by omega)]; simp)
    exact loop s 0 [34] rfl (by simp) rfl
end TB
end Go.Ev
namespace Go.Ev
open Go Go.Proofs
variable {η : Nat → Value} {B : Nat}
namespace TB
/-- What a scan has found when d stands for i bytes. -/
def after (i : Nat) (d : List UInt8) (x : Option (Nat × List UInt8)) : Option (Nat × List UInt8) := x.map fun x => (x.1 + i, d ++ x.2)
theorem after_map (i k : Nat) (d e : List UInt8) (x : Option (Nat × List UInt8)) : after i d (x.map fun x => (x.1 + k, e ++ x.2)) = after (i + k) (d ++ e) x := by
  unfold after
  cases x with
  | none => rfl
  | some x => simp only [Option.map_some, List.append_assoc]; congr 2; omega
theorem scan_end {c : UInt8} (r : List UInt8) (h : c.toNat = 34) : scan (c :: r) = some (1, []) := by
  have : plB c = true := by unfold plB; rw [decide_eq_true (by omega)]
  rw [scan.eq_def]; simp only [this, if_true, h]
theorem scan_bad {c : UInt8} (r : List UInt8) (h : plB c = false) : scan (c :: r) = none := by
  rw [scan.eq_def]; simp only [h, Bool.false_eq_true, if_false]
theorem scan_one {c : UInt8} (r : List UInt8) (h : plB c = true) (h1 : c.toNat ≠ 34) (h2 : c.toNat ≠ 92) : scan (c :: r) = (scan r).map fun x => (x.1 + 1, [c] ++ x.2) := by
  rw [scan.eq_def]; simp only [h, if_true, h1, if_false, h2]; rfl
theorem pl92 {c : UInt8} (h : c.toNat = 92) : plB c = true := by unfold plB; rw [decide_eq_true (by omega)]
theorem scan_pair0 {c : UInt8} (h : c.toNat = 92) : scan [c] = none := by
  rw [scan.eq_def]; simp only [pl92 h, if_true, show ¬ c.toNat = 34 by omega, if_false, h]; rfl
theorem scan_pair1 {c d : UInt8} (r : List UInt8) (h : c.toNat = 92) (hd : plB d = false) : scan (c :: d :: r) = none := by
  rw [scan.eq_def]; simp only [pl92 h, if_true, show ¬ c.toNat = 34 by omega, if_false, h, hd, Bool.false_eq_true]; rfl
theorem scan_pair {c d : UInt8} (r : List UInt8) (h : c.toNat = 92) (hd : plB d = true) : scan (c :: d :: r) = (scan r).map fun x => (x.1 + 2, [d] ++ x.2) := by
  rw [scan.eq_def]; simp only [pl92 h, if_true, show ¬ c.toNat = 34 by omega, if_false, h, hd]; rfl
theorem rq_none {s : List UInt8} (h : scan (s.drop 1) = none) : rqT s = [] ∧ rqN s = 0 := by unfold rqT rqN; rw [h]; exact ⟨rfl, rfl⟩
theorem rq_some {s : List UInt8} {n : Nat} {t : List UInt8} (h : scan (s.drop 1) = some (n, t)) : rqT s = t ∧ rqN s = n + 1 := by unfold rqT rqN; rw [h]; exact ⟨rfl, rfl⟩
theorem rq_ok (hη : OneCells η) (hmix : Tryz.prog.follows .mixedOrders = true) (s : List UInt8) (h1 : 1 ≤ s.length) (hs : s.length ≤ 400000) (h : AH) :
    CallSpec η Tryz.prog B 79 [.string ⟨⟨s⟩⟩] h (rqK [.string ⟨⟨s⟩⟩] h).sat := by
  refine CallSpec.bare (v := .tuple ⟨[.string ⟨⟨rqT s⟩⟩, .int .i64 (rqN s : Int)]⟩) hη gs9 (fun _ _ => str_args) (fun σ M => RV.tup2 (.string _) (.int _ _)) (fun σ M => RV.tup2 (.string _) (.int _ _)) ?_ h
  generalize hD : (fun (v : Value) (_ : AH) => v = .tuple ⟨[.string ⟨⟨rqT s⟩⟩, .int .i64 (rqN s : Int)]⟩) = D
  have dnone : scan (s.drop 1) = none → ∀ h, D (.tuple ⟨[.string ⟨#[]⟩, .int .i64 0]⟩) h := by
    intro hn h; subst hD; show _ = _; rw [(rq_none hn).1, (rq_none hn).2]; rfl
  have dsome : ∀ (n : Nat) (t : List UInt8) (k : Int), scan (s.drop 1) = some (n, t) → k = ((n + 1 : Nat) : Int) → ∀ h, D (.tuple ⟨[.string ⟨⟨t⟩⟩, .int .i64 k]⟩) h := by
    intro n t k hn hk h; subst hD; show _ = _; rw [(rq_some hn).1, (rq_some hn).2, hk]
  have cut1 := fun i0 n0 l0 => BRQ.cut1 (η := η) (B := B) (D := D) hη hmix (reg0 hη hmix) s i0 n0 l0
  have cut3 := fun i0 n0 l0 => BRQ.cut3 (η := η) (B := B) (D := D) hη hmix (reg0 hη hmix) s i0 n0 l0
  have cut4 := fun i0 n0 l0 => BRQ.cut4 (η := η) (B := B) (D := D) hη hmix (reg0 hη hmix) s i0 n0 l0
  simp only [W.holds, true_and, decide_eq_true_eq, decide_eq_false_iff_not, beq_iff_eq, beq_eq_false_iff_ne, true_implies] at cut1 cut3 cut4
  have kk : ∀ {c : UInt8} {i : Int} {k : Int}, byteAt s i = (c.toNat : Int) → (kdN (byteAt s i).toNat = k ↔ kdN c.toNat = k) := by
    intro c i k hb; rw [hb, Int.toNat_natCast]
  have k0 : ∀ {c : UInt8}, kdN c.toNat = 0 ↔ plB c = false := by
    intro c; have := kd0 c
    rw [← beq_iff_eq, this]; cases plB c <;> simp
  have k3 : ∀ {c : UInt8}, kdN c.toNat = 3 ↔ c.toNat = 34 := by intro c; rw [← beq_iff_eq, kd3, beq_iff_eq]
  have k4 : ∀ {c : UInt8}, kdN c.toNat = 4 ↔ c.toNat = 92 := by intro c; rw [← beq_iff_eq, kd4, beq_iff_eq]
  have loop : ∀ (m : Nat) (r : List UInt8) (i : Nat) (d : List UInt8), r.length ≤ m → s.drop (i + 1) = r → i + 1 ≤ s.length → 1 ≤ d.length → d.length ≤ i → scan (s.drop 1) = after i d (scan r) →
      RunD η Tryz.prog B 79 (BRQ.H0 s) [0, 4, 5] (BRQ.S1 s (i : Int) d.length (bytesV d) fun _ => undef) (QF Tryz.prog 9 D) := by
    intro m
    induction m with
    | zero =>
      intro r i d hm hd hi1 hd1 hdi he
      have hr : r = [] := List.length_eq_zero_iff.1 (by omega)
      subst hr
      have := at_nil hd
      refine cut1 _ _ _ ⟨fun _ => dnone ?_ _, fun h => absurd ?_ h⟩
      · rw [he]; rfl
      · rw [wrap1 (by omega)]; omega
    | succ m ih =>
      intro r i d hm hd hi1 hd1 hdi he
      have hw : IntKind.i64.wrap ((i : Int) + 1) = ((i + 1 : Nat) : Int) := wrap1 (by omega)
      have c1 := cut1 (i : Int) d.length (bytesV d)
      rw [hw] at c1
      match r, hm, hd, he with
      | [], hm, hd, he =>
        have := at_nil hd
        refine c1 ⟨fun _ => dnone (by rw [he]; rfl) _, fun h => absurd (by omega) h⟩
      | c :: r, hm, hd, he =>
        obtain ⟨hi, hb, hd2⟩ := at_cons hd
        have hI : (0 : Int) ≤ ((i + 1 : Nat) : Int) ∧ ((i + 1 : Nat) : Int) < (s.length : Int) := ⟨by omega, by omega⟩
        have hw2 : IntKind.i64.wrap (((i + 1 : Nat) : Int) + 1) = ((i + 1 + 1 : Nat) : Int) := wrap1 (by omega)
        refine c1 ⟨fun h => by omega, fun _ => ⟨hI, fun _ => ⟨kind_any hη hmix (byteAt_range _ _).1 (byteAt_range _ _).2 _, fun h => dnone ?_ _, fun h => ⟨fun h3 => ⟨by omega, fun _ => ⟨buf_ok d (by omega), fun _ => ⟨fun h => by omega, fun _ => ?_⟩⟩⟩, fun h3 => ⟨fun h4 => ?_, fun h4 => ⟨hI, fun _ => ⟨app_need d (by omega), fun _ => ⟨⟨app_nn _ _, trivial⟩, fun _ => ?_⟩⟩⟩⟩⟩⟩⟩⟩
        · rw [kk hb, k0] at h
          rw [he, scan_bad r h]; rfl
        · rw [kk hb, k3] at h3
          rw [Int.toNat_natCast, bytesIn_all, hw2]
          refine dsome (i + 1) d _ ?_ rfl _
          rw [he, scan_end r h3]
          unfold after; simp only [Option.map_some, List.append_nil]; congr 2; omega
        · -- a pair
          rw [kk hb, k4] at h4
          refine cut3 _ _ _ ?_
          rw [hw2]
          match r, hm, hd2, he with
          | [], hm, hd2, he =>
            have := at_nil hd2
            exact ⟨fun _ => dnone (by rw [he, scan_pair0 h4]; rfl) _, fun h => absurd (by omega) h⟩
          | e :: r, hm, hd2, he =>
            obtain ⟨hi2, hb2, hd3⟩ := at_cons hd2
            refine ⟨fun h => by omega, fun _ => ⟨⟨by omega, by omega⟩, fun _ => ⟨kind_any hη hmix (byteAt_range _ _).1 (byteAt_range _ _).2 _, fun h => dnone ?_ _, fun h => ?_⟩⟩⟩
            · rw [kk hb2, k0] at h
              rw [he, scan_pair1 r h4 h]; rfl
            · have hp : plB e = true := by
                cases hq : plB e with
                | true => rfl
                | false => exact absurd ((kk hb2).2 (k0.2 hq)) h
              refine cut4 _ _ _ ⟨⟨by omega, by omega⟩, fun _ => ⟨app_need d (by omega), fun _ => ⟨⟨app_nn _ _, trivial⟩, fun _ => ?_⟩⟩⟩
              rw [hb2, bytesV_snoc]
              have := ih r (i + 1 + 1) (d ++ [e]) (by simp at hm; omega) hd3 (by omega) (by simp) (by simp; omega) (by rw [he, scan_pair r h4 hp, after_map])
              rw [List.length_append] at this
              exact this
        · rw [ne_eq, kk hb, k3] at h3
          rw [ne_eq, kk hb, k4] at h4
          rw [ne_eq, kk hb, k0] at h
          have hp : plB c = true := by cases hq : plB c with | true => rfl | false => exact absurd hq h
          rw [hb, bytesV_snoc]
          have := ih r (i + 1) (d ++ [c]) (by simp at hm; omega) hd2 (by omega) (by simp) (by simp; omega) (by rw [he, scan_one r hp h3 h4, after_map])
          rw [List.length_append] at this
          exact this
  have cut0 := BRQ.cut0 (η := η) (B := B) (D := D) hη hmix (reg0 hη hmix) s
  have cut2 := BRQ.cut2 (η := η) (B := B) (D := D) hη hmix (reg0 hη hmix) s
  refine BRQ.enter hη hmix (reg0 hη hmix) _ ?_
  simp only [W.holds, true_and, decide_eq_true_eq, decide_eq_false_iff_not, beq_iff_eq, beq_eq_false_iff_ne, true_implies] at cut0 cut2 ⊢
  have hds : s.drop 1 = [] → scan (s.drop 1) = none := by intro h; rw [h]; rfl
  cases hr : s.drop 1 with
  | nil =>
    have := at_nil hr
    exact ⟨fun _ => dnone (hds hr) _, fun h => absurd (by omega) h⟩
  | cons c r =>
    obtain ⟨hi, hb, hd2⟩ := at_cons hr
    have hb : byteAt s 1 = (c.toNat : Int) := hb
    have hI : (0 : Int) ≤ 1 ∧ (1 : Int) < (s.length : Int) := ⟨by omega, by omega⟩
    refine ⟨fun h => by omega, fun _ => ⟨hI, fun _ => ⟨kind_any hη hmix (byteAt_range _ _).1 (byteAt_range _ _).2 _, fun h => dnone ?_ _, fun h => ⟨fun h3 => dsome 1 [] 2 ?_ rfl _, fun h3 => ⟨fun h4 => ?_, fun h4 => ⟨hI, fun _ => ?_⟩⟩⟩⟩⟩⟩
    · rw [kk hb, k0] at h
      rw [hr, scan_bad r h]
    · rw [kk hb, k3] at h3
      rw [hr, scan_end r h3]
    · rw [kk hb, k4] at h4
      refine cut0 ?_
      match r, hd2, hr with
      | [], hd2, hr =>
        have := at_nil hd2
        exact ⟨fun _ => dnone (by rw [hr, scan_pair0 h4]) _, fun h => absurd (by omega) h⟩
      | e :: r, hd2, hr =>
        obtain ⟨hi2, hb2, hd3⟩ := at_cons hd2
        have hb2 : byteAt s 2 = (e.toNat : Int) := hb2
        refine ⟨fun h => by omega, fun _ => ⟨⟨by omega, by omega⟩, fun _ => ⟨kind_any hη hmix (byteAt_range _ _).1 (byteAt_range _ _).2 _, fun h => dnone ?_ _, fun h => ?_⟩⟩⟩
        · rw [kk hb2, k0] at h
          rw [hr, scan_pair1 r h4 h]
        · have hp : plB e = true := by
            cases hq : plB e with
            | true => rfl
            | false => exact absurd ((kk hb2).2 (k0.2 hq)) h
          refine cut2 ⟨⟨by omega, by omega⟩, fun _ => ?_⟩
          rw [hb2]
          exact loop r.length r 2 [e] (Nat.le_refl _) hd3 (by omega) (by simp) (by simp) (by rw [hr, scan_pair r h4 hp]; rfl)
    · rw [ne_eq, kk hb, k3] at h3
      rw [ne_eq, kk hb, k4] at h4
      rw [ne_eq, kk hb, k0] at h
      have hp : plB c = true := by cases hq : plB c with | true => rfl | false => exact absurd hq h
      rw [hb]
      exact loop r.length r 1 [c] (Nat.le_refl _) hd2 (by omega) (by simp) (by simp) (by rw [hr, scan_one r hp h3 h4]; rfl)
theorem rqr_ok (hη : OneCells η) (hmix : Tryz.prog.follows .mixedOrders = true) (s : List UInt8) (hs : s.length ≤ 400000) (h : AH) :
    CallSpec η Tryz.prog B 45 [.string ⟨⟨s⟩⟩, .int .i64 0] h (rqRK [.string ⟨⟨s⟩⟩, .int .i64 0] h).sat := by
  refine CallSpec.bare (v := .tuple ⟨[.int .i64 (rqN s : Int), .string ⟨⟨rqT s⟩⟩, .bool (rqN s != 0)]⟩) hη gs9 (fun _ _ => .cons (.string _) (.cons (.int _ _) .nil)) (fun σ M => RV.tup3 (.int _ _) (.string _) (.bool _)) (fun σ M => RV.tup3 (.int _ _) (.string _) (.bool _)) ?_ h
  generalize hD : (fun (v : Value) (_ : AH) => v = .tuple ⟨[.int .i64 (rqN s : Int), .string ⟨⟨rqT s⟩⟩, .bool (rqN s != 0)]⟩) = D
  have dnone : scan (s.drop 1) = none → ∀ h, D (.tuple ⟨[.int .i64 0, .string ⟨#[]⟩, .bool false]⟩) h := by
    intro hn h; subst hD; show _ = _; rw [(rq_none hn).1, (rq_none hn).2]; rfl
  have dsome : ∀ (n : Nat) (t : List UInt8) (k : Int), scan (s.drop 1) = some (n, t) → k = ((n + 1 : Nat) : Int) → ∀ h, D (.tuple ⟨[.int .i64 k, .string ⟨⟨t⟩⟩, .bool true]⟩) h := by
    intro n t k hn hk h; subst hD; show _ = _; rw [(rq_some hn).1, (rq_some hn).2, hk]; rfl
  have cut := fun y0 i0 => BRQr.cut0 (η := η) (B := B) (D := D) hη hmix (reg0 hη hmix) s y0 i0
  simp only [W.holds, true_and, decide_eq_true_eq, decide_eq_false_iff_not, beq_iff_eq, beq_eq_false_iff_ne, true_implies, Bool.not_eq_true', Bool.not_eq_false'] at cut
  have loop : ∀ (m : Nat) (r : List UInt8) (i : Nat) (d : List UInt8), r.length ≤ m → s.drop (i + 1) = r → d.length ≤ i → i ≤ 400000 → scan (s.drop 1) = after i d (scan r) →
      RunD η Tryz.prog B 45 (BRQr.H0 s) [0, 7, 8] (BRQr.S0 s ⟨⟨d⟩⟩ ((i + 1 : Nat) : Int) fun _ => undef) (QF Tryz.prog 9 D) := by
    intro m
    induction m with
    | zero =>
      intro r i d hm hd hdi hi4 he
      have hr : r = [] := List.length_eq_zero_iff.1 (by omega)
      subst hr
      have := at_nil hd
      exact cut _ _ ⟨fun h => by omega, fun _ => dnone (by rw [he]; rfl) _⟩
    | succ m ih =>
      intro r i d hm hd hdi hi4 he
      match r, hm, hd, he with
      | [], hm, hd, he =>
        have := at_nil hd
        exact cut _ _ ⟨fun h => by omega, fun _ => dnone (by rw [he]; rfl) _⟩
      | c :: r, hm, hd, he =>
        obtain ⟨hi, hb, hd2⟩ := at_cons hd
        have hI : (0 : Int) ≤ ((i + 1 : Nat) : Int) ∧ ((i + 1 : Nat) : Int) < (s.length : Int) := ⟨by omega, by omega⟩
        have hw2 : IntKind.i64.wrap (((i + 1 : Nat) : Int) + 1) = ((i + 1 + 1 : Nat) : Int) := wrap1 (by omega)
        have c1 := cut ⟨⟨d⟩⟩ ((i + 1 : Nat) : Int)
        rw [hw2, take1 hd, hb, Int.toNat_natCast, UInt8.ofNat_toNat] at c1
        have l1 : d.length + [c].length ≤ 9223372036854775807 := by simp; omega
        have hS : (0 : Int) ≤ ((i + 1 : Nat) : Int) ∧ ((i + 1 : Nat) : Int) ≤ ((i + 1 + 1 : Nat) : Int) ∧ ((i + 1 + 1 : Nat) : Int) ≤ (s.length : Int) := ⟨by omega, by omega, by omega⟩
        have hpl : CallSpec η Tryz.prog B 77 [.int .u8 (c.toNat : Int)] (heapN 9) (KT.ret (.bool (plB c)) (heapN 9)).sat := by
          have := plain_any (B := B) hη hmix (n := (c.toNat : Int)) (by omega) (by have := c.toNat_lt; omega) (heapN 9)
          rw [Int.toNat_natCast, UInt8.ofNat_toNat] at this
          exact this
        refine c1 ⟨fun _ => ⟨hI, fun _ => ⟨hpl, fun hp => ⟨hI, fun _ => ⟨fun h => dsome (i + 1) d _ ?_ rfl _, fun h => ⟨hI, fun _ => ⟨fun h2 => ?_, fun h2 => ⟨hS, fun _ => ⟨l1, fun _ => ?_⟩⟩⟩⟩⟩⟩, fun hp => dnone (by rw [he, scan_bad r hp]; rfl) _⟩⟩, fun h => by omega⟩
        · rw [he, scan_end r (by omega)]
          unfold after; simp only [Option.map_some, List.append_nil]; congr 2; omega
        · have h4 : c.toNat = 92 := by omega
          match r, hm, hd2, he with
          | [], hm, hd2, he =>
            have := at_nil hd2
            exact ⟨fun _ => dnone (by rw [he, scan_pair0 h4]; rfl) _, fun h => absurd (by omega) h⟩
          | e :: r, hm, hd2, he =>
            obtain ⟨hi2, hb2, hd3⟩ := at_cons hd2
            have hw3 : IntKind.i64.wrap (((i + 1 + 1 : Nat) : Int) + 1) = ((i + 1 + 1 + 1 : Nat) : Int) := wrap1 (by omega)
            rw [hw3, take1 hd2, hb2, Int.toNat_natCast, UInt8.ofNat_toNat]
            have hpl : CallSpec η Tryz.prog B 77 [.int .u8 (e.toNat : Int)] (heapN 9) (KT.ret (.bool (plB e)) (heapN 9)).sat := by
              have := plain_any (B := B) hη hmix (n := (e.toNat : Int)) (by omega) (by have := e.toNat_lt; omega) (heapN 9)
              rw [Int.toNat_natCast, UInt8.ofNat_toNat] at this
              exact this
            refine ⟨fun h => by omega, fun _ => ⟨⟨by omega, by omega⟩, fun _ => ⟨hpl, fun h => dnone (by rw [he, scan_pair1 r h4 h]; rfl) _, fun h => ⟨⟨by omega, by omega, by omega⟩, fun _ => ⟨by simp; omega, fun _ => ?_⟩⟩⟩⟩⟩
            exact ih r (i + 1 + 1) (d ++ [e]) (by simp at hm; omega) hd3 (by simp; omega) (by omega) (by rw [he, scan_pair r h4 h, after_map])
        · exact ih r (i + 1) (d ++ [c]) (by simp at hm; omega) hd2 (by simp; omega) (by omega) (by rw [he, scan_one r hp (by omega) (by omega), after_map])
  refine BRQr.enter hη hmix (reg0 hη hmix) _ ?_
  simp only [W.holds]
  exact loop (s.drop 1).length (s.drop 1) 0 [] (Nat.le_refl _) rfl (by simp) (by omega) (by unfold after; cases scan (s.drop 1) <;> simp)
end TB
end Go.Ev
namespace Go.Ev
open Go Go.Proofs
variable {η : Nat → Value} {B : Nat}
namespace TB
theorem tok_full {s : List UInt8} (h : tokB s = true) : tokN s = s.length ∧ s.length ≤ 64 ∧ s.all letB = true := by
  unfold tokB at h
  simp only [Bool.and_eq_true, decide_eq_true_eq] at h
  exact ⟨(tokN_all s).2 h.2, h.1.2, h.2⟩
theorem unq_tok {s : List UInt8} (h : tokB s = true) : unq s = (0, s) := by unfold unq; rw [h]; rfl
theorem scan_le : ∀ (m : Nat) (r : List UInt8), r.length ≤ m → ∀ n t, scan r = some (n, t) → n ≤ r.length ∧ 1 ≤ n ∧ t.all plB = true ∧ (esc t).length + 1 ≤ n ∧ t.length ≤ (esc t).length := by
  intro m
  induction m with
  | zero =>
    intro r hm n t h
    have hr : r = [] := List.length_eq_zero_iff.1 (by omega)
    subst hr; simp [scan] at h
  | succ m ih =>
    intro r hm n t h
    match r, hm, h with
    | [], hm, h => simp [scan] at h
    | c :: r, hm, h =>
      simp only [List.length_cons] at hm
      cases hp : plB c with
      | false => rw [scan_bad r hp] at h; cases h
      | true =>
        by_cases h3 : c.toNat = 34
        · rw [scan_end r h3] at h; injection h with h; injection h with e1 e2; subst e1; subst e2
          exact ⟨by simp, by omega, rfl, by simp [esc], by simp [esc]⟩
        by_cases h4 : c.toNat = 92
        · match r, hm, h with
          | [], hm, h => rw [scan_pair0 h4] at h; cases h
          | e :: r, hm, h =>
            simp only [List.length_cons] at hm
            cases hq : plB e with
            | false => rw [scan_pair1 r h4 hq] at h; cases h
            | true =>
              rw [scan_pair r h4 hq, Option.map_eq_some_iff] at h
              obtain ⟨⟨n', t'⟩, h5, h6⟩ := h
              injection h6 with e1 e2; subst e1; subst e2
              obtain ⟨a1, a2, a3, a4, a5⟩ := ih r (by omega) n' t' h5
              refine ⟨by simp only [List.length_cons]; omega, by omega, by simp [hq, a3], ?_, ?_⟩
              · show (esc (e :: t')).length + 1 ≤ n' + 2
                unfold esc; split <;> simp only [List.length_cons] <;> omega
              · show (e :: t').length ≤ (esc (e :: t')).length
                unfold esc; split <;> simp only [List.length_cons] <;> omega
        · rw [scan_one r hp h3 h4, Option.map_eq_some_iff] at h
          obtain ⟨⟨n', t'⟩, h5, h6⟩ := h
          injection h6 with e1 e2; subst e1; subst e2
          obtain ⟨a1, a2, a3, a4, a5⟩ := ih r (by omega) n' t' h5
          have he : esc (c :: t') = c :: esc t' := by rw [esc, if_neg (by omega)]
          refine ⟨by simp only [List.length_cons]; omega, by omega, by simp [hp, a3], ?_, ?_⟩
          · show (esc (c :: t')).length + 1 ≤ n' + 1
            rw [he]; simp only [List.length_cons]; omega
          · show (c :: t').length ≤ (esc (c :: t')).length
            rw [he]; simp only [List.length_cons]; omega
theorem scan_esc : ∀ s : List UInt8, s.all plB = true → scan (esc s ++ [34]) = some ((esc s).length + 1, s)
  | [], _ => rfl
  | c :: r, h => by
    simp only [List.all_cons, Bool.and_eq_true] at h
    have ih := scan_esc r h.2
    by_cases hc : c.toNat = 34 ∨ c.toNat = 92
    · have he : esc (c :: r) = 92 :: c :: esc r := by rw [esc, if_pos hc]
      rw [he]
      show scan (92 :: c :: (esc r ++ [34])) = _
      rw [scan_pair (esc r ++ [34]) rfl h.1, ih]
      rfl
    · have he : esc (c :: r) = c :: esc r := by rw [esc, if_neg hc]
      rw [he]
      show scan (c :: (esc r ++ [34])) = _
      rw [scan_one (esc r ++ [34]) h.1 (by omega) (by omega), ih]
      rfl
theorem tok_quo (t : List UInt8) : tokB (34 :: t) = false := by
  unfold tokB
  have : letB 34 = false := by decide
  rw [List.all_cons, this, Bool.false_and, Bool.and_false]
theorem qtE_zero {s : List UInt8} (h : qtE s = 0) : s.length ≤ 500 ∧ s.all plB = true := by
  unfold qtE at h
  split at h
  · cases h
  · split at h
    · rename_i h1 h2; exact ⟨by omega, h2⟩
    · cases h
theorem back {s : List UInt8} (h : qtE s = 0) : unq (qtS s) = (0, s) ∧ (qtS s).length ≤ 1100 := by
  obtain ⟨hl, hp⟩ := qtE_zero h
  have he := esc_len s
  cases ht : tokB s with
  | true =>
    have e : qtS s = s := by unfold qtS; rw [h, ht]; rfl
    rw [e]; exact ⟨unq_tok ht, by omega⟩
  | false =>
    have e : qtS s = quo s := by unfold qtS; rw [h, ht]; rfl
    rw [e]
    refine ⟨?_, by simp [quo]; omega⟩
    unfold quo unq
    rw [tok_quo]
    simp only [Bool.false_eq_true, if_false]
    rw [if_pos (show UInt8.toNat 34 = 34 from rfl), scan_esc s hp]
    simp only [List.length_append, List.length_cons, List.length_nil, Nat.zero_add, if_true]
    rw [if_neg (by omega)]
theorem short {s : List UInt8} (h : (unq s).1 = 0) : qtE (unq s).2 = 0 ∧ (qtS (unq s).2).length ≤ s.length ∧ (unq s).2.length ≤ 500 := by
  cases ht : tokB s with
  | true =>
    rw [unq_tok ht]
    obtain ⟨_, h64, ha⟩ := tok_full ht
    have hp : s.all plB = true := by
      rw [List.all_eq_true] at ha ⊢
      exact fun c hc => (let_pl (ha c hc)).1
    have e0 : qtE s = 0 := by unfold qtE; rw [if_neg (by omega), hp]; rfl
    refine ⟨e0, ?_, by show s.length ≤ 500; omega⟩
    show (qtS s).length ≤ _
    have e : qtS s = s := by unfold qtS; rw [e0, ht]; rfl
    rw [e]; exact Nat.le_refl _
  | false =>
    unfold unq at h ⊢
    rw [ht] at h ⊢
    simp only [Bool.false_eq_true, if_false] at h ⊢
    match s, h with
    | [], h => cases h
    | c :: r, h =>
      simp only at h ⊢
      by_cases hc : c.toNat = 34
      · rw [if_pos hc] at h ⊢
        cases hs : scan r with
        | none => rw [hs] at h; cases h
        | some x =>
          obtain ⟨n, t⟩ := x
          rw [hs] at h
          simp only at h ⊢
          by_cases hn : n = r.length
          · rw [if_pos hn] at h ⊢
            by_cases h5 : 500 < t.length
            · rw [if_pos h5] at h; cases h
            · rw [if_neg h5]
              obtain ⟨a1, a2, a3, a4, a5⟩ := scan_le r.length r (Nat.le_refl _) n t hs
              have e0 : qtE t = 0 := by unfold qtE; rw [if_neg h5, a3]; rfl
              refine ⟨e0, ?_, by show t.length ≤ 500; omega⟩
              show (qtS t).length ≤ _
              unfold qtS
              rw [e0]
              simp only [ne_eq, not_true_eq_false, if_false]
              split
              · simp only [List.length_cons]; omega
              · simp only [quo, List.length_cons, List.length_append, List.length_nil]; omega
          · rw [if_neg hn] at h; cases h
      · rw [if_neg hc] at h; cases h
theorem unq_nt {s : List UInt8} (ht : tokB s = false) (h : s = [] ∨ ∃ c r, s = c :: r ∧ c.toNat ≠ 34) : unq s = (6, []) := by
  unfold unq; rw [ht]
  rcases h with rfl | ⟨c, r, rfl, hc⟩
  · rfl
  · simp only [Bool.false_eq_true, if_false, hc]
theorem rqN_le {s : List UInt8} (h1 : 1 ≤ s.length) : rqN s ≤ s.length := by
  unfold rqN
  cases hs : scan (s.drop 1) with
  | none => simp
  | some x =>
    obtain ⟨n, t⟩ := x
    have := (scan_le _ _ (Nat.le_refl _) n t hs).1
    rw [List.length_drop] at this
    simp only; omega
theorem unq_quo {c : UInt8} {r : List UInt8} (hc : c.toNat = 34) : (rqN (c :: r) = 0 → unq (c :: r) = (6, [])) ∧ (rqN (c :: r) ≠ 0 → rqN (c :: r) ≠ (c :: r).length → unq (c :: r) = (6, [])) ∧ (rqN (c :: r) ≠ 0 → rqN (c :: r) = (c :: r).length → unq (c :: r) = if 500 < (rqT (c :: r)).length then (3, []) else (0, rqT (c :: r))) := by
  have hcc : c = 34 := UInt8.toNat_inj.1 hc
  subst hcc
  unfold unq rqN rqT
  rw [tok_quo]
  simp only [Bool.false_eq_true, if_false, List.drop_succ_cons, List.drop_zero]
  simp only [show UInt8.toNat 34 = 34 from rfl, if_true]
  cases scan r with
  | none => exact ⟨fun _ => rfl, fun h => absurd rfl h, fun h => absurd rfl h⟩
  | some x =>
    obtain ⟨n, t⟩ := x
    simp only [List.length_cons]
    refine ⟨fun h => by omega, fun _ h => if_neg (by omega), fun _ h => if_pos (by omega)⟩
theorem unquote_ok (hη : OneCells η) (hmix : Tryz.prog.follows .mixedOrders = true) (s : List UInt8) (hs : s.length ≤ 400000) (h : AH) :
    CallSpec η Tryz.prog B 14 [.string ⟨⟨s⟩⟩] h (unqK [.string ⟨⟨s⟩⟩] h).sat := by
  refine CallSpec.bare (v := .tuple ⟨[.string ⟨⟨(unq s).2⟩⟩, .int .i64 (unq s).1]⟩) hη gs9 (fun _ _ => str_args) (fun σ M => RV.tup2 (.string _) (.int _ _)) (fun σ M => RV.tup2 (.string _) (.int _ _)) ?_ h
  refine BUn.enter hη hmix (reg0 hη hmix) _ ?_
  simp only [W.holds, true_and, toL0, decide_eq_true_eq, decide_eq_false_iff_not, beq_iff_eq, beq_eq_false_iff_ne, true_implies, Bool.not_eq_true', Bool.not_eq_false', Int.toNat_natCast, List.drop_zero, Nat.sub_zero, bne_iff_ne, bne_eq_false_iff_eq]
  have hsz : ∀ l : List UInt8, (({ data := { toList := l } } : ByteArray).size : Int) > 500 ↔ 500 < l.length := by
    intro l; show (l.length : Int) > 500 ↔ _; omega
  have hn := tokN_le s
  have htk : List.take (s.length - tokN s) (List.drop (tokN s) s) = List.drop (tokN s) s := List.take_of_length_le (by rw [List.length_drop]; exact Nat.le_refl _)
  have htl : (List.take (tokN s) s).length ≤ 1000000 := by rw [List.length_take]; omega
  have full : tokB (List.take (tokN s) s) = true → List.drop (tokN s) s = [] → List.take (tokN s) s = s ∧ tokB s = true := by
    intro h1 h2
    have e : List.take (tokN s) s = s := by
      have := List.take_append_drop (tokN s) s
      rw [h2, List.append_nil] at this
      exact this
    rw [e] at h1
    exact ⟨e, h1⟩
  simp only [hsz, htk]
  have T6 : unq s = (6, []) → (Value.tuple ⟨[.string ⟨#[]⟩, .int .i64 6]⟩ : Value) = .tuple ⟨[.string ⟨⟨(unq s).2⟩⟩, .int .i64 (unq s).1]⟩ := by intro h; rw [h]
  refine ⟨fun h0 => ⟨tokN_ok hη hmix s (by omega) _, ⟨by omega, by omega, by omega⟩, fun _ => ⟨⟨by omega, by omega, by omega⟩, fun _ => ⟨clone_ok hη hmix _ htl _, tok_ok hη hmix _ htl _, fun h => T6 ?_, fun h => ⟨fun h2 => T6 ?_, fun h2 => ⟨fun h5 => absurd h5 ?_, fun h5 => ?_⟩⟩⟩⟩⟩, fun h0 => ⟨⟨by omega, by cases s with | nil => exact absurd rfl h0 | cons => simp <;> omega⟩, fun _ => ⟨kind_any hη hmix (byteAt_range _ _).1 (byteAt_range _ _).2 _, fun hk => ⟨tokN_ok hη hmix s (by omega) _, ⟨by omega, by omega, by omega⟩, fun _ => ⟨⟨by omega, by omega, by omega⟩, fun _ => ⟨clone_ok hη hmix _ htl _, tok_ok hη hmix _ htl _, fun h => T6 ?_, fun h => ⟨fun h2 => T6 ?_, fun h2 => ⟨fun h5 => absurd h5 ?_, fun h5 => ?_⟩⟩⟩⟩⟩, fun hk => ?_⟩⟩⟩
  all_goals try
    have hnt : tokB s = true → List.take (tokN s) s = s ∧ List.drop (tokN s) s = [] := by
      intro ht
      rw [(tok_full ht).1]
      exact ⟨List.take_of_length_le (Nat.le_refl _), List.drop_of_length_le (Nat.le_refl _)⟩
  · refine unq_nt ?_ (.inl h0)
    cases ht : tokB s with
    | false => rfl
    | true => rw [(hnt ht).1, ht] at h; cases h
  · refine unq_nt ?_ (.inl h0)
    cases ht : tokB s with
    | false => rfl
    | true => exact absurd (hnt ht).2 h2
  · obtain ⟨e, ht⟩ := full h h2
    have := (tok_full ht).2.1
    rw [e]; omega
  · obtain ⟨e, ht⟩ := full h h2
    rw [e, unq_tok ht]
  all_goals
    obtain ⟨c, r, hcr⟩ : ∃ c r, s = c :: r := by
      cases s with
      | nil => exact absurd rfl h0
      | cons c r => exact ⟨c, r, rfl⟩
    have hb : byteAt s 0 = (c.toNat : Int) := by rw [hcr]; rfl
    have k3 : kdN (byteAt s 0).toNat = 3 ↔ c.toNat = 34 := by rw [hb, Int.toNat_natCast, ← beq_iff_eq, kd3, beq_iff_eq]
  all_goals try
    have hn34 : s = [] ∨ ∃ c r, s = c :: r ∧ c.toNat ≠ 34 := .inr ⟨c, r, hcr, fun h => hk (k3.2 h)⟩
  · refine unq_nt ?_ hn34
    cases ht : tokB s with
    | false => rfl
    | true => rw [(hnt ht).1, ht] at h; cases h
  · refine unq_nt ?_ hn34
    cases ht : tokB s with
    | false => rfl
    | true => exact absurd (hnt ht).2 h2
  · obtain ⟨e, ht⟩ := full h h2
    have := (tok_full ht).2.1
    rw [e]; omega
  · obtain ⟨e, ht⟩ := full h h2
    rw [e, unq_tok ht]
  · have hl1 : 1 ≤ s.length := by rw [hcr]; simp
    have hrl := rqN_le hl1
    have hq := unq_quo (r := r) (k3.1 hk)
    rw [← hcr] at hq
    refine ⟨rq_ok hη hmix s hl1 (by omega) _, ⟨by omega, by omega, by omega⟩, fun _ => ⟨fun h => T6 (hq.1 (by omega)), fun h => ⟨fun h2 => T6 (hq.2.1 (by omega) ?_), fun h2 => ⟨fun h5 => ?_, fun h5 => ?_⟩⟩⟩⟩
    · intro e
      apply h2
      rw [e, List.drop_of_length_le (Nat.le_refl _)]; simp
    all_goals
      have he : rqN s = s.length := by
        rw [List.take_of_length_le (by rw [List.length_drop]; exact Nat.le_refl _)] at h2
        have := List.drop_eq_nil_iff.1 h2
        omega
      have := hq.2.2 (by omega) he
    · rw [this, if_pos h5]
    · rw [this, if_neg h5]
theorem runq_ok (hη : OneCells η) (hmix : Tryz.prog.follows .mixedOrders = true) (s : List UInt8) (hs : s.length ≤ 400000) (h : AH) :
    CallSpec η Tryz.prog B 15 [.string ⟨⟨s⟩⟩] h (unqK [.string ⟨⟨s⟩⟩] h).sat := by
  refine CallSpec.bare (v := .tuple ⟨[.string ⟨⟨(unq s).2⟩⟩, .int .i64 (unq s).1]⟩) hη gs9 (fun _ _ => str_args) (fun σ M => RV.tup2 (.string _) (.int _ _)) (fun σ M => RV.tup2 (.string _) (.int _ _)) ?_ h
  refine BRUn.enter hη hmix (reg0 hη hmix) _ ?_
  simp only [W.holds, true_and, toL0, decide_eq_true_eq, decide_eq_false_iff_not, beq_iff_eq, beq_eq_false_iff_ne, true_implies, Bool.not_eq_true', Bool.not_eq_false', bne_iff_ne, bne_eq_false_iff_eq]
  have T6 : unq s = (6, []) → (Value.tuple ⟨[.string ⟨#[]⟩, .int .i64 6]⟩ : Value) = .tuple ⟨[.string ⟨⟨(unq s).2⟩⟩, .int .i64 (unq s).1]⟩ := by intro h; rw [h]
  refine ⟨rtok_ok hη hmix s _, fun h => by rw [unq_tok h], fun ht => ⟨fun h0 => T6 (unq_nt ht (.inl (List.length_eq_zero_iff.1 (by omega)))), fun h0 => ?_⟩⟩
  obtain ⟨c, r, hcr⟩ : ∃ c r, s = c :: r := by
    cases s with
    | nil => exact absurd rfl h0
    | cons c r => exact ⟨c, r, rfl⟩
  have hb : byteAt s 0 = (c.toNat : Int) := by rw [hcr]; rfl
  have hl1 : 1 ≤ s.length := by rw [hcr]; simp
  refine ⟨⟨by omega, by omega⟩, fun _ => ⟨fun h => T6 (unq_nt ht (.inr ⟨c, r, hcr, by rw [hb] at h; omega⟩)), fun h => ?_⟩⟩
  have hq := unq_quo (c := c) (r := r) (by rw [hb] at h; omega)
  rw [← hcr] at hq
  refine ⟨rqr_ok hη hmix s (by omega) _, fun h => T6 (hq.1 h), fun h => ⟨fun h2 => T6 (hq.2.1 h (by omega)), fun h2 => ⟨fun h5 => ?_, fun h5 => ?_⟩⟩⟩
  · rw [hq.2.2 h (by omega), if_pos (by omega)]
  · rw [hq.2.2 h (by omega), if_neg (by omega)]
theorem law_ok (hη : OneCells η) (hmix : Tryz.prog.follows .mixedOrders = true) (haw : ∀ h, CallSpec η Tryz.prog B 11 [] h fun v h' => v = .bool true ∧ h' = h) (s : List UInt8) :
    CallSpec η Tryz.prog B 3 [.string ⟨⟨s⟩⟩] (BLaw.H0 s) (fun v _ => v = .bool true) := by
  refine BLaw.enter hη hmix (reg0 hη hmix) _ ?_
  simp only [W.holds, true_and, and_true, decide_eq_true_eq, decide_eq_false_iff_not, beq_iff_eq, beq_eq_false_iff_ne, bne_self_eq_false, bne_iff_ne, bne_eq_false_iff_eq, ne_eq, beq_self_eq_true, Bool.not_true, Bool.false_eq_true, false_implies, implies_true, not_true_eq_false, true_implies, Bool.true_eq_false, Bool.not_eq_true', Bool.not_eq_false', not_false_eq_true]
  have A : CallSpec η Tryz.prog B 11 [] (BLaw.H0 s) (KT.ret (.bool true) (BLaw.H0 s)).sat := haw _
  have Q : ∀ t : List UInt8, t.length ≤ 400000 → CallSpec η Tryz.prog B 12 [.string ⟨⟨t⟩⟩] (BLaw.H0 s) (KT.ret (.tuple ⟨[.string ⟨⟨qtS t⟩⟩, .int .i64 (qtE t)]⟩) (BLaw.H0 s)).sat := fun t ht => quote_ok hη hmix t ht _
  have last : ((unq s).1 = 0 → CallSpec η Tryz.prog B 12 [.string ⟨⟨(unq s).2⟩⟩] (BLaw.H0 s) (KT.ret (.tuple ⟨[.string ⟨⟨qtS (unq s).2⟩⟩, .int .i64 (qtE (unq s).2)]⟩) (BLaw.H0 s)).sat ∧ (¬ qtE (unq s).2 = 0 → (Value.bool false) = .bool true) ∧ (qtE (unq s).2 = 0 → (((qtS (unq s).2).length : Int) > (s.length : Int) → (Value.bool false) = .bool true) ∧ (¬ ((qtS (unq s).2).length : Int) > (s.length : Int) → CallSpec η Tryz.prog B 11 [] (BLaw.H0 s) (KT.ret (.bool true) (BLaw.H0 s)).sat))) ∧ (¬ (unq s).1 = 0 → CallSpec η Tryz.prog B 11 [] (BLaw.H0 s) (KT.ret (.bool true) (BLaw.H0 s)).sat) :=
    ⟨fun h => ⟨Q _ (by have := (short h).2.2; omega), fun h2 => absurd (short h).1 h2, fun _ => ⟨fun h2 => absurd (short h).2.1 (by omega), fun _ => A⟩⟩, fun _ => A⟩
  refine ⟨fun _ => A, fun hs => ⟨Q s (by omega), rquote_ok hη hmix s (by omega) _, unquote_ok hη hmix s (by omega) _, runq_ok hη hmix s (by omega) _, tok_ok hη hmix s (by omega) _, rtok_ok hη hmix s _, fold_ok hη hmix s (by omega) _, rfold_ok hη hmix s (by omega) _,
    fun h => ⟨unquote_ok hη hmix _ (by have := (back h).2; omega) _, fun h2 => absurd (by rw [(back h).1]) h2, fun _ => ⟨fun h2 => absurd (by rw [(back h).1]) h2, fun _ => last⟩⟩, fun _ => last⟩⟩
end TB
end Go.Ev
