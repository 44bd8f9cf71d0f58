/- Trimming, prefixes, the first element, quoted strings at a place. -/
import Derived.Test.YtjagockmfdmgoaaGreatDoorEvTEP
import Derived.Test.YtjagockmfdmgoaaGreatDoorEvTBB
import Derived.Shelf.Strings.SlTrimAscii
namespace Go.Ev
set_option linter.unusedVariables false
set_option linter.unusedSimpArgs false
open Go Go.Proofs Go.RowKit
variable {η : Nat → Value} {B : Nat}
theorem bdl (s : List UInt8) : ({ data := { toList := s } } : ByteArray).data.toList = s := rfl
namespace TE
open TB
theorem h256 : (Tryz.prog.info? (Tryz.lays160_ren.t 116)).map (fun i => (i.zero, i.size)) = some (some (.agg (Array.replicate 256 (.bool false))), 256) := by kernel_rfl
theorem trim_ok {h : AH} (s : List UInt8) (hs : s.length ≤ 9223372036854775807) :
    CallSpec η Tryz.prog B 52 [.string ⟨⟨s⟩⟩, .string ⟨#[9, 32]⟩] h (trimK [.string ⟨⟨s⟩⟩, .string ⟨#[9, 32]⟩] h).sat := by
  refine CallSpec.ofCalls (v := .string ⟨⟨trimB s⟩⟩) fun ρ args' w hl p => ?_
  obtain rfl := args_inv rfl hl
  refine (Any.strings_Trim_laid Tryz.lays160 h256 ⟨⟨s⟩⟩ ⟨#[9, 32]⟩ w hs (by decide) (fun j b hj => ?_)).mono ?_
  · have : b ∈ ([9, 32] : List UInt8) := List.mem_of_getElem? hj
    simp only [List.mem_cons, List.not_mem_nil, or_false] at this
    rcases this with rfl | rfl <;> decide
  · rintro e w' ⟨rfl, hb⟩
    exact ⟨_, rfl, .string _, hb⟩
theorem pre_ok (hη : OneCells η) (hmix : Tryz.prog.follows .mixedOrders = true) (s : List UInt8) (h : AH) :
    CallSpec η Tryz.prog B 53 [.string ⟨⟨s⟩⟩, .string ⟨#[44]⟩] h (preK [.string ⟨⟨s⟩⟩, .string ⟨#[44]⟩] h).sat := by
  refine CallSpec.bare (v := .string ⟨⟨preL s⟩⟩) hη gs9 (fun _ _ => .cons (.string _) (.cons (.string _) .nil)) (fun σ M => .string _) (fun σ M => .string _) ?_ h
  refine CTrimPre.enter hη hmix (reg0 hη hmix) _ ?_
  simp only [W.holds, true_and, decide_eq_true_eq, decide_eq_false_iff_not, beq_iff_eq, beq_eq_false_iff_ne, List.drop_zero]
  match s with
  | [] => exact ⟨fun h => absurd h (by decide), fun _ => rfl⟩
  | c :: r =>
    have ht : List.take 1 (c :: r) = [c] := rfl
    rw [ht]
    refine ⟨fun _ => ⟨⟨by omega, by omega, by simp <;> omega⟩, fun _ => ⟨fun h => ⟨⟨by omega, by simp <;> omega, by omega⟩, fun _ => ?_⟩, fun h => ?_⟩⟩, fun h => absurd (by simp <;> omega) h⟩
    · injection h with h _; subst h
      rw [show preL (44 :: r) = r from if_pos rfl, Int.toNat_natCast, List.take_of_length_le (by simp)]
      rfl
    · unfold preL
      rw [if_neg]
      intro e; apply h; injection e with e; rw [e]
def bl (c : UInt8) : Bool := ([9, 32] : List UInt8).contains c
theorem bl_iff (c : UInt8) : bl c = (c.toNat == 9 || c.toNat == 32) := eq_of_beq (forall_u8 (p := fun c => bl c == (c.toNat == 9 || c.toNat == 32)) (by decide +kernel) c)
def tl (l : List UInt8) : List UInt8 := l.dropWhile bl
def tr (l : List UInt8) : List UInt8 := (l.reverse.dropWhile bl).reverse
theorem trimB_eq (l : List UInt8) : trimB l = tl (tr l) := rfl
theorem tr_nil : tr [] = [] := rfl
theorem tl_cons (a : UInt8) (l : List UInt8) : tl (a :: l) = if bl a = true then tl l else a :: l := by
  unfold tl; rw [List.dropWhile_cons]
theorem tr_cons (a : UInt8) (l : List UInt8) : tr (a :: l) = if tr l = [] then (if bl a = true then [] else [a]) else a :: tr l := by
  unfold tr
  rw [List.reverse_cons, List.dropWhile_append]
  cases hd : l.reverse.dropWhile bl with
  | nil =>
    simp only [List.isEmpty_nil, if_true, List.reverse_nil]
    rw [List.dropWhile_cons]
    split <;> rfl
  | cons x xs =>
    rw [if_neg (by simp), if_neg (by simp), List.reverse_append]; rfl
theorem tl_tr : ∀ l : List UInt8, tl (tr l) = tr (tl l)
  | [] => rfl
  | a :: l => by
    have ih := tl_tr l
    rw [tr_cons, tl_cons]
    cases hb : bl a with
    | true =>
      rw [if_pos rfl, if_pos rfl, ← ih]
      split
      · rename_i h; rw [h]
      · rw [tl_cons, hb, if_pos rfl]
    | false =>
      simp only [Bool.false_eq_true, if_false]
      rw [tr_cons, hb]
      simp only [Bool.false_eq_true, if_false]
      split
      · rw [tl_cons, hb]; simp
      · rw [tl_cons, hb]; simp
theorem tr_snoc (l : List UInt8) (a : UInt8) : tr (l ++ [a]) = if bl a = true then tr l else l ++ [a] := by
  unfold tr
  rw [List.reverse_append, List.reverse_singleton, List.singleton_append, List.dropWhile_cons]
  cases bl a with
  | true => rfl
  | false => simp
theorem rtrim_ok (hη : OneCells η) (hmix : Tryz.prog.follows .mixedOrders = true) (s : List UInt8) (hs : s.length ≤ 1000000) (h : AH) :
    CallSpec η Tryz.prog B 55 [.string ⟨⟨s⟩⟩] h (trimK [.string ⟨⟨s⟩⟩] h).sat := by
  refine CallSpec.bare (v := .string ⟨⟨trimB s⟩⟩) hη gs9 (fun _ _ => str_args) (fun σ M => .string _) (fun σ M => .string _) ?_ h
  have cut0 := fun y0 => CTrim.cut0 (η := η) (B := B) (D := fun v _ => v = .string ⟨⟨trimB s⟩⟩) hη hmix (reg0 hη hmix) s y0
  have cut1 := fun y0 => CTrim.cut1 (η := η) (B := B) (D := fun v _ => v = .string ⟨⟨trimB s⟩⟩) hη hmix (reg0 hη hmix) s y0
  simp only [W.holds, true_and, decide_eq_true_eq, decide_eq_false_iff_not, beq_iff_eq, beq_eq_false_iff_ne, List.drop_zero, Nat.sub_zero] at cut0 cut1
  have right : ∀ (m : Nat) (y : List UInt8), y.length ≤ m → y.length ≤ 1000000 → tr y = trimB s → RunD η Tryz.prog B 55 (CTrim.H0 s) [0] (CTrim.S1 s ⟨⟨y⟩⟩ fun _ => undef) (QF Tryz.prog 9 fun v _ => v = .string ⟨⟨trimB s⟩⟩) := by
    intro m
    induction m with
    | zero =>
      intro y hm _ he
      have : y = [] := List.length_eq_zero_iff.1 (by omega)
      subst this
      refine cut1 _ ⟨fun h => absurd h (by decide), fun _ => ?_⟩
      rw [← he]; rfl
    | succ m ih =>
      intro y hm h6 he
      rcases List.eq_nil_or_concat y with rfl | ⟨y', c, rfl⟩
      · refine cut1 _ ⟨fun h => absurd h (by decide), fun _ => ?_⟩
        rw [← he]; rfl
      · rw [List.concat_eq_append] at hm h6 he ⊢
        have hl : (y' ++ [c]).length = y'.length + 1 := by simp
        have hw : IntKind.i64.wrap (((y' ++ [c]).length : Int) - 1) = (y'.length : Int) := by
          rw [IntWalk.i64_in _ ⟨by omega, by omega⟩]; omega
        have hb : byteAt (y' ++ [c]) (y'.length : Int) = (c.toNat : Int) := by
          rw [byteAt_get (by omega)]; simp
        have ht : List.take ((y'.length : Int).toNat) (y' ++ [c]) = y' := by rw [Int.toNat_natCast]; exact List.take_left
        have c1 := cut1 ⟨⟨y' ++ [c]⟩⟩
        rw [bdl, hw, hb, ht] at c1
        rw [tr_snoc] at he
        have go : bl c = true → RunD η Tryz.prog B 55 (CTrim.H0 s) [0] (CTrim.S1 s ⟨⟨y'⟩⟩ fun _ => undef) (QF Tryz.prog 9 fun v _ => v = .string ⟨⟨trimB s⟩⟩) := by
          intro hc; rw [hc, if_pos rfl] at he
          exact ih y' (by omega) (by omega) he
        have hI : (0 : Int) ≤ (y'.length : Int) ∧ (y'.length : Int) < ((y' ++ [c]).length : Int) := ⟨by omega, by omega⟩
        have hS : (0 : Int) ≤ 0 ∧ (0 : Int) ≤ (y'.length : Int) ∧ (y'.length : Int) ≤ ((y' ++ [c]).length : Int) := ⟨by omega, by omega, by omega⟩
        have stop : bl c = false → (Value.string ⟨⟨y' ++ [c]⟩⟩) = .string ⟨⟨trimB s⟩⟩ := by
          intro hc; rw [hc, if_neg (by simp)] at he; rw [← he]
        refine c1 ⟨fun _ => ⟨hI, fun _ => ⟨fun h => ⟨hS, fun _ => go ?_⟩, fun h => ⟨fun h2 => ⟨hS, fun _ => go ?_⟩, fun h2 => stop ?_⟩⟩⟩, fun h => absurd (by omega) h⟩
        · rw [bl_iff]; simp; omega
        · rw [bl_iff]; simp; omega
        · rw [bl_iff]; simp; omega
  have left : ∀ (y : List UInt8), y.length ≤ 1000000 → tr (tl y) = trimB s → RunD η Tryz.prog B 55 (CTrim.H0 s) [0] (CTrim.S0 s ⟨⟨y⟩⟩ fun _ => undef) (QF Tryz.prog 9 fun v _ => v = .string ⟨⟨trimB s⟩⟩) := by
    intro y
    induction y with
    | nil =>
      intro _ he
      exact cut0 _ ⟨fun h => absurd h (by decide), fun _ => right 0 [] (Nat.le_refl _) (by simp) he⟩
    | cons c r ih =>
      intro h6 he
      simp only [List.length_cons] at h6
      have c0 := cut0 ⟨⟨c :: r⟩⟩
      have hb : byteAt (c :: r) 0 = (c.toNat : Int) := rfl
      have ht : List.take (((c :: r).length : Int).toNat - 1) (List.drop 1 (c :: r)) = r := by
        rw [Int.toNat_natCast]; exact List.take_of_length_le (by simp)
      rw [bdl, hb, ht] at c0
      rw [tl_cons] at he
      have go : bl c = true → RunD η Tryz.prog B 55 (CTrim.H0 s) [0] (CTrim.S0 s ⟨⟨r⟩⟩ fun _ => undef) (QF Tryz.prog 9 fun v _ => v = .string ⟨⟨trimB s⟩⟩) := by
        intro hc; rw [hc, if_pos rfl] at he
        exact ih (by omega) he
      have hS : (0 : Int) ≤ 1 ∧ (1 : Int) ≤ ((c :: r).length : Int) ∧ ((c :: r).length : Int) ≤ ((c :: r).length : Int) := ⟨by omega, by simp <;> omega, by omega⟩
      have hI : (0 : Int) ≤ 0 ∧ (0 : Int) < ((c :: r).length : Int) := ⟨by omega, by simp <;> omega⟩
      refine c0 ⟨fun _ => ⟨hI, fun _ => ⟨fun h => ⟨hS, fun _ => go ?_⟩, fun h => ⟨fun h2 => ⟨hS, fun _ => go ?_⟩, fun h2 => ?_⟩⟩⟩, fun h => absurd (by simp <;> omega) h⟩
      · rw [bl_iff]; simp; omega
      · rw [bl_iff]; simp; omega
      · have hc : bl c = false := by rw [bl_iff]; simp; omega
        rw [hc, if_neg (by simp)] at he
        exact right _ (c :: r) (Nat.le_refl _) (by simp only [List.length_cons]; omega) he
  refine CTrim.enter hη hmix (reg0 hη hmix) _ ?_
  simp only [W.holds]
  exact left s hs (by rw [trimB_eq, tl_tr])
theorem kd5 (c : UInt8) : (kdN c.toNat == 5) = (c.toNat == 44) := eq_of_beq (forall_u8 (p := fun c => (kdN c.toNat == 5) == (c.toNat == 44)) (by decide +kernel) c)
theorem rq_cons {c : UInt8} {r : List UInt8} : (scan r = none → rqN (c :: r) = 0) ∧ ∀ n t, scan r = some (n, t) → rqN (c :: r) = n + 1 := by
  unfold rqN
  simp only [List.drop_succ_cons, List.drop_zero]
  exact ⟨fun h => by rw [h], fun n t h => by rw [h]⟩
theorem elN_ok (hη : OneCells η) (hmix : Tryz.prog.follows .mixedOrders = true) (s : List UInt8) (hs : s.length ≤ 400000) (h : AH) :
    CallSpec η Tryz.prog B 51 [.string ⟨⟨s⟩⟩] h (elNK [.string ⟨⟨s⟩⟩] h).sat := by
  have main : CallSpec η Tryz.prog B 51 [.string ⟨⟨s⟩⟩] (heapN 9) fun v _ => v = (if elNb s then .tuple ⟨[.int .i64 (elNv s : Nat), .bool true]⟩ else .tuple ⟨[.int .i64 0, .bool false]⟩ : Value) := by
    generalize hD : (fun (v : Value) (_ : AH) => v = (if elNb s then .tuple ⟨[.int .i64 (elNv s : Nat), .bool true]⟩ else .tuple ⟨[.int .i64 0, .bool false]⟩ : Value)) = D
    have dnone : elN s.length s = none → ∀ h, D (.tuple ⟨[.int .i64 0, .bool false]⟩) h := by
      intro hn h; subst hD; show _ = _; unfold elNb; rw [hn]; rfl
    have dsome : ∀ n : Nat, elN s.length s = some n → ∀ h, D (.tuple ⟨[.int .i64 (n : Int), .bool true]⟩) h := by
      intro n hn h; subst hD; show _ = _; unfold elNb elNv; rw [hn]; rfl
    have cut := fun i0 => CElLen.cut0 (η := η) (B := B) (D := D) hη hmix (reg0 hη hmix) s i0
    simp only [W.holds, true_and, decide_eq_true_eq, decide_eq_false_iff_not, beq_iff_eq, beq_eq_false_iff_ne, Int.toNat_natCast] at cut
    have loop : ∀ (m : Nat) (r : List UInt8) (i : Nat), r.length ≤ m → s.drop i = r → i ≤ s.length → elN s.length s = (elN m r).map (· + i) → RunD η Tryz.prog B 51 (CElLen.H0 s) [0, 2] (CElLen.S0 s (i : Int) fun _ => undef) (QF Tryz.prog 9 D) := by
      intro m
      induction m with
      | zero =>
        intro r i hm hd hi he
        have hr : r = [] := List.length_eq_zero_iff.1 (by omega)
        subst hr
        have := at_nil hd
        refine cut _ ⟨fun h => by omega, fun _ => dsome i ?_ _⟩
        rw [he]; simp [elN]
      | succ m ih =>
        intro r i hm hd hi he
        match r, hm, hd, he with
        | [], hm, hd, he =>
          have := at_nil hd
          refine cut _ ⟨fun h => by omega, fun _ => dsome i ?_ _⟩
          rw [he]; simp [elN]
        | c :: r, hm, hd, he =>
          obtain ⟨hi2, hb, hd2⟩ := at_cons hd
          simp only [List.length_cons] at hm
          have c1 := cut (i : Int)
          have hcut : List.take (s.length - i) (List.drop i s) = c :: r := by rw [List.take_of_length_le (by rw [List.length_drop]; exact Nat.le_refl _), hd]
          rw [hb, Int.toNat_natCast, Int.toNat_natCast, hcut] at c1
          have k5 : kdN c.toNat = 5 ↔ c.toNat = 44 := by rw [← beq_iff_eq, kd5, beq_iff_eq]
          have k3 : kdN c.toNat = 3 ↔ c.toNat = 34 := by rw [← beq_iff_eq, kd3, beq_iff_eq]
          have k0 : kdN c.toNat = 0 ↔ plB c = false := by rw [← beq_iff_eq, kd0]; cases plB c <;> simp
          have hkind : CallSpec η Tryz.prog B 75 [.int .u8 (c.toNat : Int)] (heapN 9) (KT.ret (.int .i64 (kdN c.toNat)) (heapN 9)).sat := by
            have := kind_any (B := B) hη hmix (n := (c.toNat : Int)) (by omega) (by have := c.toNat_lt; omega) (heapN 9)
            rw [Int.toNat_natCast] at this; exact this
          have hI : (0 : Int) ≤ (i : Int) ∧ (i : Int) < (s.length : Int) := ⟨by omega, by omega⟩
          refine c1 ⟨fun _ => ⟨hI, fun _ => ⟨hkind, fun h5 => dsome i ?_ _, fun h5 => ⟨fun h0 => dnone ?_ _, fun h0 => ⟨fun h3 => ⟨⟨by omega, by omega, by omega⟩, fun _ => ⟨rq_ok hη hmix _ (by simp) (by have := congrArg List.length hd; rw [List.length_drop] at this; omega) _, fun hz => dnone ?_ _, fun hz => ?_⟩⟩, fun h3 => ?_⟩⟩⟩⟩, fun h => by omega⟩
          · rw [k5] at h5
            have hp : plB c = true := by unfold plB; rw [decide_eq_true (by omega)]
            rw [he, elN]; simp [hp, h5]
          · rw [k0] at h0
            rw [he, elN]; simp [h0]
          · rw [k3] at h3
            have hp : plB c = true := by unfold plB; rw [decide_eq_true (by omega)]
            have hsc : scan r = none := by
              cases hq : scan r with
              | none => rfl
              | some x => obtain ⟨n, t⟩ := x; have := rq_cons (c := c).2 n t hq; omega
            rw [he, elN]; simp [hp, h3, hsc]
          · rw [k3] at h3
            have hp : plB c = true := by unfold plB; rw [decide_eq_true (by omega)]
            cases hq : scan r with
            | none => exact absurd (by rw [rq_cons.1 hq]; rfl) hz
            | some x =>
              obtain ⟨n, t⟩ := x
              have hn := rq_cons (c := c).2 n t hq
              have hle := (scan_le _ _ (Nat.le_refl _) n t hq).1
              have hlen := congrArg List.length hd
              rw [List.length_drop, List.length_cons] at hlen
              rw [hn]
              have hw : IntKind.i64.wrap ((i : Int) + ((n + 1 : Nat) : Int)) = ((i + (n + 1) : Nat) : Int) := by
                rw [IntWalk.i64_in _ ⟨by omega, by omega⟩]; omega
              rw [hw]
              refine ih (r.drop n) (i + (n + 1)) (by rw [List.length_drop]; omega) ?_ (by omega) ?_
              · rw [show i + (n + 1) = i + 1 + n by omega, ← List.drop_drop, hd2]
              · rw [he, elN]; simp only [hp, h3, hq]
                cases elN m (r.drop n) <;> simp <;> omega
          · rw [ne_eq, k5] at h5; rw [ne_eq, k3] at h3; rw [ne_eq, k0] at h0
            have hp : plB c = true := by cases hq : plB c with | true => rfl | false => exact absurd hq h0
            rw [wrap1 (by omega)]
            refine ih r (i + 1) (by omega) hd2 (by omega) ?_
            rw [he, elN]; simp only [hp, h5, h3]
            cases elN m r <;> simp <;> omega
    refine CElLen.enter hη hmix (reg0 hη hmix) _ ?_
    simp only [W.holds]
    exact loop s.length s 0 (Nat.le_refl _) rfl (by omega) (by cases elN s.length s <;> simp)
  cases hb : elNb s with
  | true =>
    rw [hb] at main
    refine (CallSpec.bare hη gs9 (fun _ _ => str_args) (fun σ M => RV.tup2 (.int _ _) (.bool _)) (fun σ M => RV.tup2 (.int _ _) (.bool _)) main h).mono ?_
    rintro v h' ⟨rfl, rfl⟩; exact .inl ⟨hb, rfl, rfl⟩
  | false =>
    rw [hb] at main
    refine (CallSpec.bare hη gs9 (fun _ _ => str_args) (fun σ M => RV.tup2 (.int _ _) (.bool _)) (fun σ M => RV.tup2 (.int _ _) (.bool _)) main h).mono ?_
    rintro v h' ⟨rfl, rfl⟩; exact .inr ⟨hb, rfl, rfl⟩
end TE
end Go.Ev
namespace Go.Ev
set_option linter.unusedVariables false
set_option linter.unusedSimpArgs false
open Go Go.Proofs
variable {η : Nat → Value} {B : Nat}
namespace TE
open TB
theorem strs_snoc (L : List (List UInt8)) (x : List UInt8) : strs L ++ [.string ⟨⟨x⟩⟩] = strs (L ++ [x]) := by unfold strs; rw [List.map_append]; rfl
theorem strs_len (L : List (List UInt8)) : (strs L).length = L.length := by unfold strs; rw [List.length_map]
theorem strs_nn (L : List (List UInt8)) : NoNames (strs L) := by
  intro v hv; unfold strs at hv; obtain ⟨x, _, rfl⟩ := List.mem_map.1 hv; rfl
theorem strs_get {L : List (List UInt8)} {i : Nat} (h : i < L.length) : (strs L)[i]? = some (.string ⟨⟨L[i]⟩⟩) ∧ strAt (strs L) i = L[i] := by
  have e : (strs L)[i]? = some (.string ⟨⟨L[i]⟩⟩) := by unfold strs; rw [List.getElem?_map, List.getElem?_eq_getElem h]; rfl
  refine ⟨e, ?_⟩
  unfold strAt; rw [e]
theorem strs_bare (L : List (List UInt8)) : ∀ (σ : Nat → Nat) (M : Nat), ∀ v ∈ strs L, RV σ M false v v := by
  intro σ M v hv; unfold strs at hv; obtain ⟨x, _, rfl⟩ := List.mem_map.1 hv; exact .string _
theorem app_need' (L : List (List UInt8)) (h : L.length + 1 ≤ 1000000) : 1 ≤ 1 ∧ (strs L).length = L.length * 1 ∧ L.length + 1 ≤ 1000000 ∧ True := ⟨by omega, by rw [strs_len, Nat.mul_one], h, trivial⟩
theorem rqi_ok (hη : OneCells η) (hmix : Tryz.prog.follows .mixedOrders = true) (s : List UInt8) (k : Nat) (hs : s.length ≤ 400000) (hk : k ≤ s.length) (h : AH) :
    CallSpec η Tryz.prog B 45 [.string ⟨⟨s⟩⟩, .int .i64 (k : Int)] h (rqiK [.string ⟨⟨s⟩⟩, .int .i64 (k : Int)] h).sat := by
  have hdd : (s.drop k).drop 1 = s.drop (k + 1) := by rw [List.drop_drop]
  have rn : scan (s.drop (k + 1)) = none → rqN (s.drop k) = 0 := by intro h; unfold rqN; rw [hdd, h]
  have rs : ∀ n t, scan (s.drop (k + 1)) = some (n, t) → rqN (s.drop k) = n + 1 ∧ rqT (s.drop k) = t := by intro n t h; unfold rqN rqT; rw [hdd, h]; exact ⟨rfl, rfl⟩
  have main : ∀ D : Value → AH → Prop, (scan (s.drop (k + 1)) = none → ∀ h, D (.tuple ⟨[.int .i64 0, .string ⟨#[]⟩, .bool false]⟩) h) →
      (∀ (n : Nat) (t : List UInt8) (j : Int), scan (s.drop (k + 1)) = some (n, t) → j = ((k + (n + 1) : Nat) : Int) → ∀ h, D (.tuple ⟨[.int .i64 j, .string ⟨⟨t⟩⟩, .bool true]⟩) h) → CallSpec η Tryz.prog B 45 [.string ⟨⟨s⟩⟩, .int .i64 (k : Int)] (heapN 9) D := by
    intro D dnone dsome
    have cut := fun y0 i0 => CRq.cut0 (η := η) (B := B) (D := D) hη hmix (reg0 hη hmix) s k y0 i0
    simp only [W.holds, true_and, decide_eq_true_eq, decide_eq_false_iff_not, beq_iff_eq, beq_eq_false_iff_ne, true_implies, Bool.not_eq_true', Bool.not_eq_false'] at cut
    have loop : ∀ (m : Nat) (r : List UInt8) (i : Nat) (d : List UInt8), r.length ≤ m → s.drop (k + i + 1) = r → d.length ≤ i → k + i ≤ 400000 → scan (s.drop (k + 1)) = after i d (scan r) →
        RunD η Tryz.prog B 45 (CRq.H0 s k) [0, 7, 8] (CRq.S0 s k ⟨⟨d⟩⟩ ((k + i + 1 : Nat) : Int) fun _ => undef) (QF Tryz.prog 9 D) := by
      intro m
      induction m with
      | zero =>
        intro r i d hm hd hdi hi4 he
        have hr : r = [] := List.length_eq_zero_iff.1 (by omega)
        subst hr
        have := at_nil hd
        exact cut _ _ ⟨fun h => by omega, fun _ => dnone (by rw [he]; rfl) _⟩
      | succ m ih =>
        intro r i d hm hd hdi hi4 he
        match r, hm, hd, he with
        | [], hm, hd, he =>
          have := at_nil hd
          exact cut _ _ ⟨fun h => by omega, fun _ => dnone (by rw [he]; rfl) _⟩
        | c :: r, hm, hd, he =>
          obtain ⟨hi, hb, hd2⟩ := at_cons hd
          have hI : (0 : Int) ≤ ((k + i + 1 : Nat) : Int) ∧ ((k + i + 1 : Nat) : Int) < (s.length : Int) := ⟨by omega, by omega⟩
          have hw2 : IntKind.i64.wrap (((k + i + 1 : Nat) : Int) + 1) = ((k + i + 1 + 1 : Nat) : Int) := wrap1 (by omega)
          have c1 := cut ⟨⟨d⟩⟩ ((k + i + 1 : Nat) : Int)
          rw [hw2, take1 hd, hb, Int.toNat_natCast, UInt8.ofNat_toNat] at c1
          have l1 : d.length + [c].length ≤ 9223372036854775807 := by simp; omega
          have hS : (0 : Int) ≤ ((k + i + 1 : Nat) : Int) ∧ ((k + i + 1 : Nat) : Int) ≤ ((k + i + 1 + 1 : Nat) : Int) ∧ ((k + i + 1 + 1 : Nat) : Int) ≤ (s.length : Int) := ⟨by omega, by omega, by omega⟩
          have hpl : ∀ c : UInt8, CallSpec η Tryz.prog B 77 [.int .u8 (c.toNat : Int)] (heapN 9) (KT.ret (.bool (plB c)) (heapN 9)).sat := by
            intro c
            have := plain_any (B := B) hη hmix (n := (c.toNat : Int)) (by omega) (by have := c.toNat_lt; omega) (heapN 9)
            rw [Int.toNat_natCast, UInt8.ofNat_toNat] at this
            exact this
          refine c1 ⟨fun _ => ⟨hI, fun _ => ⟨hpl c, fun hp => ⟨hI, fun _ => ⟨fun h => dsome (i + 1) d _ ?_ ?_ _, fun h => ⟨hI, fun _ => ⟨fun h2 => ?_, fun h2 => ⟨hS, fun _ => ⟨l1, fun _ => ?_⟩⟩⟩⟩⟩⟩, fun hp => dnone (by rw [he, scan_bad r hp]; rfl) _⟩⟩, fun h => by omega⟩
          · rw [he, scan_end r (by omega)]
            unfold after; simp only [Option.map_some, List.append_nil]; congr 2; omega
          · omega
          · have h4 : c.toNat = 92 := by omega
            match r, hm, hd2, he with
            | [], hm, hd2, he =>
              have := at_nil hd2
              exact ⟨fun _ => dnone (by rw [he, scan_pair0 h4]; rfl) _, fun h => absurd (by omega) h⟩
            | e :: r, hm, hd2, he =>
              obtain ⟨hi2, hb2, hd3⟩ := at_cons hd2
              have hw3 : IntKind.i64.wrap (((k + i + 1 + 1 : Nat) : Int) + 1) = ((k + i + 1 + 1 + 1 : Nat) : Int) := wrap1 (by omega)
              rw [hw3, take1 hd2, hb2, Int.toNat_natCast, UInt8.ofNat_toNat]
              refine ⟨fun h => by omega, fun _ => ⟨⟨by omega, by omega⟩, fun _ => ⟨hpl e, fun h => dnone (by rw [he, scan_pair1 r h4 h]; rfl) _, fun h => ⟨⟨by omega, by omega, by omega⟩, fun _ => ⟨by simp; omega, fun _ => ?_⟩⟩⟩⟩⟩
              exact ih r (i + 1 + 1) (d ++ [e]) (by simp at hm; omega) hd3 (by simp; omega) (by omega) (by rw [he, scan_pair r h4 h, after_map])
          · exact ih r (i + 1) (d ++ [c]) (by simp at hm; omega) hd2 (by simp; omega) (by omega) (by rw [he, scan_one r hp (by omega) (by omega), after_map])
    refine CRq.enter hη hmix (reg0 hη hmix) _ _ ?_
    simp only [W.holds]
    rw [wrap1 (by omega)]
    exact loop (s.drop (k + 1)).length (s.drop (k + 1)) 0 [] (Nat.le_refl _) rfl (by simp) (by omega) (by unfold after; cases scan (s.drop (k + 1)) <;> simp)
  have ha : ∀ (σ : Nat → Nat) (M : Nat), L2 (RV σ M true) [Value.string ⟨⟨s⟩⟩, .int .i64 (k : Int)] [Value.string ⟨⟨s⟩⟩, .int .i64 (k : Int)] := fun _ _ => .cons (.string _) (.cons (.int _ _) .nil)
  cases hsc : scan (s.drop (k + 1)) with
  | none =>
    refine (CallSpec.bare (v := .tuple ⟨[.int .i64 0, .string ⟨#[]⟩, .bool false]⟩) hη gs9 ha (fun σ M => RV.tup3 (.int _ _) (.string _) (.bool _)) (fun σ M => RV.tup3 (.int _ _) (.string _) (.bool _)) (main _ (fun _ _ => rfl) (fun n t j h => by rw [hsc] at h; cases h)) h).mono ?_
    rintro v h' ⟨rfl, rfl⟩
    refine .inr ⟨?_, rfl, rfl⟩
    rw [Int.toNat_natCast, rn hsc]; rfl
  | some x =>
    obtain ⟨n, t⟩ := x
    refine (CallSpec.bare (v := .tuple ⟨[.int .i64 ((k + (n + 1) : Nat) : Int), .string ⟨⟨t⟩⟩, .bool true]⟩) hη gs9 ha (fun σ M => RV.tup3 (.int _ _) (.string _) (.bool _)) (fun σ M => RV.tup3 (.int _ _) (.string _) (.bool _)) (main _ (fun h => by rw [hsc] at h; cases h) (fun n' t' j h hj _ => by rw [hsc] at h; injection h with h; injection h with e1 e2; subst e1; subst e2; rw [hj])) h).mono ?_
    rintro v h' ⟨rfl, rfl⟩
    obtain ⟨e1, e2⟩ := rs n t hsc
    refine .inl ⟨?_, ?_, rfl⟩
    · rw [Int.toNat_natCast, e1]; rfl
    · rw [Int.toNat_natCast, e1, e2]
theorem seg_app {s r : List UInt8} {f i : Nat} (hf : f ≤ i) (hd : s.drop i = r) (n : Nat) : (s.drop f).take (i - f) ++ r.take n = (s.drop f).take (i + n - f) := by
  have e : (s.drop f).drop (i - f) = r := by rw [List.drop_drop, show f + (i - f) = i by omega, hd]
  rw [show i + n - f = (i - f) + n by omega, List.take_add, e]
theorem pt_len (b : Nat) : ∀ (m : Nat) (r cur : List UInt8) (L : List (List UInt8)), pt b m r cur = some L → L.length ≤ r.length + 1 ∧ L ≠ [] ∧ ∀ x ∈ L, x.length ≤ cur.length + r.length := by
  intro m
  induction m with
  | zero =>
    intro r cur L h
    match r, h with
    | [], h => simp only [pt] at h; injection h with h; subst h; simp
    | c :: r, h => simp [pt] at h
  | succ m ih =>
    intro r cur L h
    match r, h with
    | [], h => simp only [pt] at h; injection h with h; subst h; simp
    | c :: r, h =>
      simp only [pt] at h
      split at h
      · cases h
      split at h
      · split at h
        · cases h
        · rename_i n t hs
          have hn := (scan_le _ _ (Nat.le_refl _) n t hs).1
          obtain ⟨a1, a2, a3⟩ := ih _ _ _ h
          rw [List.length_drop] at a1
          refine ⟨by simp only [List.length_cons]; omega, a2, fun x hx => ?_⟩
          have := a3 x hx
          simp only [List.length_append, List.length_cons, List.length_take, List.length_drop] at this ⊢
          omega
      · split at h
        · rw [Option.map_eq_some_iff] at h
          obtain ⟨L', h1, rfl⟩ := h
          obtain ⟨a1, a2, a3⟩ := ih _ _ _ h1
          refine ⟨by simp only [List.length_cons]; omega, by simp, fun x hx => ?_⟩
          simp only [List.length_cons]
          rcases List.mem_cons.1 hx with rfl | hx
          · omega
          · have := a3 x hx; simp at this; omega
        · obtain ⟨a1, a2, a3⟩ := ih _ _ _ h
          refine ⟨by simp only [List.length_cons]; omega, a2, fun x hx => ?_⟩
          have := a3 x hx
          simp only [List.length_append, List.length_cons, List.length_nil] at this ⊢
          omega
theorem pt_ok (hη : OneCells η) (hmix : Tryz.prog.follows .mixedOrders = true) (s : List UInt8) (hs : s.length ≤ 400000) (h : AH) :
    CallSpec η Tryz.prog B 54 [.string ⟨⟨s⟩⟩, .int .u8 44] h (ptK [.string ⟨⟨s⟩⟩, .int .u8 44] h).sat := by
  have main : ∀ D : Value → AH → Prop, (pt 44 s.length s [] = none → ∀ h, D (.tuple ⟨[.slice none 0 0, .bool false]⟩) h) →
      (∀ L : List (List UInt8), pt 44 s.length s [] = some L → D (.tuple ⟨[.slice (some ⟨9, 0, none⟩) L.length (capU 1), .bool true]⟩) (withRow (heapN 9) 9 (strs L) false)) → CallSpec η Tryz.prog B 54 [.string ⟨⟨s⟩⟩, .int .u8 44] (heapN 9) D := by
    intro D dnone dsome
    have cut0 := fun i0 => CPt.cut0 (η := η) (B := B) (D := D) hη hmix (reg0 hη hmix) s i0
    have cut1 := fun i0 i1 n0 l0 => CPt.cut1 (η := η) (B := B) (D := D) hη hmix (reg0 hη hmix) s i0 i1 n0 l0
    simp only [W.holds, true_and, decide_eq_true_eq, decide_eq_false_iff_not, beq_iff_eq, beq_eq_false_iff_ne, true_implies, Bool.not_eq_true', Bool.not_eq_false', bne_iff_ne, bne_eq_false_iff_eq] at cut0 cut1
    have hpl : ∀ (c : UInt8) (h : AH), CallSpec η Tryz.prog B 77 [.int .u8 (c.toNat : Int)] h (KT.ret (.bool (plB c)) h).sat := by
      intro c h
      have := plain_any (B := B) hη hmix (n := (c.toNat : Int)) (by omega) (by have := c.toNat_lt; omega) h
      rw [Int.toNat_natCast, UInt8.ofNat_toNat] at this
      exact this
    have rqz : ∀ {c : UInt8} {r : List UInt8}, rqN (c :: r) ≠ 0 → ∃ n t, scan r = some (n, t) ∧ rqN (c :: r) = n + 1 ∧ n ≤ r.length := by
      intro c r hz
      cases hq : scan r with
      | none => exact absurd (rq_cons.1 hq) hz
      | some x => obtain ⟨n, t⟩ := x; exact ⟨n, t, rfl, rq_cons.2 n t hq, (scan_le _ _ (Nat.le_refl _) n t hq).1⟩
    have pl34 : ∀ {c : UInt8}, c.toNat = 34 → plB c = true := fun h => by unfold plB; rw [decide_eq_true (by omega)]
    have loop1 : ∀ (m : Nat) (r : List UInt8) (i f : Nat) (L : List (List UInt8)), r.length ≤ m → s.drop i = r → i ≤ s.length → f ≤ i → L.length ≤ i → pt 44 s.length s [] = (pt 44 m r ((s.drop f).take (i - f))).map (L ++ ·) →
        RunD η Tryz.prog B 54 (CPt.H0 s) [0, 1, 6, 7, 8] (CPt.S1 s (i : Int) (f : Int) L.length (strs L) fun _ => undef) (QF Tryz.prog 9 D) := by
      intro m
      induction m with
      | zero =>
        intro r i f L hm hd hi hf hL he
        have hr : r = [] := List.length_eq_zero_iff.1 (by omega)
        subst hr
        have := at_nil hd
        have hil : i = s.length := by omega
        have c1 := cut1 (i : Int) (f : Int) L.length (strs L)
        simp only [Int.toNat_natCast, strs_snoc, ← hil] at c1
        have ds := dsome (L ++ [(s.drop f).take (i - f)]) (by rw [he]; simp [pt])
        rw [List.length_append] at ds
        exact c1 ⟨fun h => by omega, fun _ => ⟨⟨by omega, by omega, by omega⟩, fun _ => ⟨app_need' L (by omega), fun _ => ⟨⟨strs_nn _, trivial⟩, fun _ => ds⟩⟩⟩⟩
      | succ m ih =>
        intro r i f L hm hd hi hf hL he
        match r, hm, hd, he with
        | [], hm, hd, he =>
          have := at_nil hd
          have hil : i = s.length := by omega
          have c1 := cut1 (i : Int) (f : Int) L.length (strs L)
          simp only [Int.toNat_natCast, strs_snoc, ← hil] at c1
          have ds := dsome (L ++ [(s.drop f).take (i - f)]) (by rw [he]; simp [pt])
          rw [List.length_append] at ds
          exact c1 ⟨fun h => by omega, fun _ => ⟨⟨by omega, by omega, by omega⟩, fun _ => ⟨app_need' L (by omega), fun _ => ⟨⟨strs_nn _, trivial⟩, fun _ => ds⟩⟩⟩⟩
        | c :: r, hm, hd, he =>
          obtain ⟨hi2, hb, hd2⟩ := at_cons hd
          simp only [List.length_cons] at hm
          have c1 := cut1 (i : Int) (f : Int) L.length (strs L)
          have hI : (0 : Int) ≤ (i : Int) ∧ (i : Int) < (s.length : Int) := ⟨by omega, by omega⟩
          have hrq := rqi_ok (B := B) hη hmix s i hs hi
          unfold rqiK at hrq
          simp only [bdl, Int.toNat_natCast] at hrq
          rw [Int.toNat_natCast, Int.toNat_natCast, hb, Int.toNat_natCast, UInt8.ofNat_toNat, wrap1 (by omega), strs_snoc, hd] at c1
          rw [hd] at hrq
          have seg1 := seg_app hf hd 1
          have hlen := congrArg List.length hd
          rw [List.length_drop, List.length_cons] at hlen
          refine c1 ⟨fun _ => ⟨hI, fun _ => ⟨hpl c _, fun hp => dnone ?_ _, fun hp => ⟨hI, fun _ => ⟨fun h34 => ⟨hrq _, fun hz => ?_, fun hz => dnone ?_ _⟩, fun h34 => ⟨fun h44 => ⟨⟨by omega, by omega, by omega⟩, fun _ => ⟨app_need' L (by omega), fun _ => ⟨⟨strs_nn _, trivial⟩, fun _ => ?_⟩⟩⟩, fun h44 => ?_⟩⟩⟩⟩⟩, fun h => by omega⟩
          · rw [he]; simp [pt, hp]
          · obtain ⟨n, t, hsc, hn, hle⟩ := rqz hz
            rw [hn]
            refine ih (r.drop n) (i + (n + 1)) f L (by rw [List.length_drop]; omega) (by rw [show i + (n + 1) = i + 1 + n by omega, ← List.drop_drop, hd2]) (by omega) (by omega) (by omega) ?_
            have sg := seg_app hf hd (n + 1)
            rw [List.take_succ_cons] at sg
            rw [he, ← sg]
            simp only [pt, pl34 (c := c) (by omega), show c.toNat = 34 by omega, hsc]
            rfl
          · have hsc : scan r = none := by
              cases hq : scan r with
              | none => rfl
              | some x => obtain ⟨n, t⟩ := x; have := rq_cons (c := c).2 n t hq; omega
            rw [he]; simp [pt, pl34 (c := c) (by omega), show c.toNat = 34 by omega, hsc]
          · have := ih r (i + 1) (i + 1) (L ++ [(s.drop f).take (i - f)]) (by omega) hd2 (by omega) (by omega) (by simp; omega) (by
              rw [he]
              simp only [pt, hp, show ¬ c.toNat = 34 by omega, show c.toNat = 44 by omega, Nat.sub_self, List.take_zero, Option.map_map]
              cases pt 44 m r [] <;> simp)
            rw [List.length_append] at this
            exact this
          · refine ih r (i + 1) f L (by omega) hd2 (by omega) (by omega) (by omega) ?_
            have sg := seg_app hf hd 1
            rw [List.take_succ_cons, List.take_zero] at sg
            rw [he, ← sg]
            simp only [pt, hp, show ¬ c.toNat = 34 by omega, show ¬ c.toNat = 44 by omega]
            rfl
    have loop0 : ∀ (m : Nat) (r : List UInt8) (i : Nat), r.length ≤ m → s.drop i = r → i ≤ s.length → pt 44 s.length s [] = pt 44 m r (s.take i) →
        RunD η Tryz.prog B 54 (CPt.H0 s) [0, 1, 6, 7, 8] (CPt.S0 s (i : Int) fun _ => undef) (QF Tryz.prog 9 D) := by
      intro m
      induction m with
      | zero =>
        intro r i hm hd hi he
        have hr : r = [] := List.length_eq_zero_iff.1 (by omega)
        subst hr
        have := at_nil hd
        have hil : i = s.length := by omega
        have c0 := cut0 (i : Int)
        refine c0 ⟨fun h => by omega, fun _ => ?_⟩
        have ds := dsome [s.take i] (by rw [he]; simp [pt])
        rw [hil] at ds
        exact ds
      | succ m ih =>
        intro r i hm hd hi he
        match r, hm, hd, he with
        | [], hm, hd, he =>
          have := at_nil hd
          have hil : i = s.length := by omega
          have c0 := cut0 (i : Int)
          refine c0 ⟨fun h => by omega, fun _ => ?_⟩
          have ds := dsome [s.take i] (by rw [he]; simp [pt])
          rw [hil] at ds
          exact ds
        | c :: r, hm, hd, he =>
          obtain ⟨hi2, hb, hd2⟩ := at_cons hd
          simp only [List.length_cons] at hm
          have c0 := cut0 (i : Int)
          have hI : (0 : Int) ≤ (i : Int) ∧ (i : Int) < (s.length : Int) := ⟨by omega, by omega⟩
          have hrq := rqi_ok (B := B) hη hmix s i hs hi
          unfold rqiK at hrq
          simp only [bdl, Int.toNat_natCast] at hrq
          rw [Int.toNat_natCast, hb, Int.toNat_natCast, UInt8.ofNat_toNat, wrap1 (by omega), hd] at c0
          rw [hd] at hrq
          have hlen := congrArg List.length hd
          rw [List.length_drop, List.length_cons] at hlen
          have sg := fun n => seg_app (f := 0) (Nat.zero_le i) hd n
          simp only [List.drop_zero, Nat.sub_zero] at sg
          refine c0 ⟨fun _ => ⟨hI, fun _ => ⟨hpl c _, fun hp => dnone ?_ _, fun hp => ⟨hI, fun _ => ⟨fun h34 => ⟨hrq _, fun hz => ?_, fun hz => dnone ?_ _⟩, fun h34 => ⟨fun h44 => ⟨⟨by omega, by omega, by omega⟩, fun _ => ?_⟩, fun h44 => ?_⟩⟩⟩⟩⟩, fun h => by omega⟩
          · rw [he]; simp [pt, hp]
          · obtain ⟨n, t, hsc, hn, hle⟩ := rqz hz
            rw [hn]
            refine ih (r.drop n) (i + (n + 1)) (by rw [List.length_drop]; omega) (by rw [show i + (n + 1) = i + 1 + n by omega, ← List.drop_drop, hd2]) (by omega) ?_
            have sg := sg (n + 1)
            rw [List.take_succ_cons] at sg
            rw [he, ← sg]
            simp only [pt, pl34 (c := c) (by omega), show c.toNat = 34 by omega, hsc]
            rfl
          · have hsc : scan r = none := by
              cases hq : scan r with
              | none => rfl
              | some x => obtain ⟨n, t⟩ := x; have := rq_cons (c := c).2 n t hq; omega
            rw [he]; simp [pt, pl34 (c := c) (by omega), show c.toNat = 34 by omega, hsc]
          · exact loop1 m r (i + 1) (i + 1) [s.take i] (by omega) hd2 (by omega) (by omega) (by simp) (by
              rw [he]
              simp only [pt, hp, show ¬ c.toNat = 34 by omega, show c.toNat = 44 by omega, Nat.sub_self, List.take_zero]
              cases pt 44 m r [] <;> simp)
          · refine ih r (i + 1) (by omega) hd2 (by omega) ?_
            have sg := sg 1
            rw [List.take_succ_cons, List.take_zero] at sg
            rw [he, ← sg]
            simp only [pt, hp, show ¬ c.toNat = 34 by omega, show ¬ c.toNat = 44 by omega]
            rfl
    refine CPt.enter hη hmix (reg0 hη hmix) _ ?_
    simp only [W.holds]
    exact loop0 s.length s 0 (Nat.le_refl _) rfl (by omega) rfl
  have ha : ∀ (σ : Nat → Nat) (M : Nat), L2 (RV σ M true) [Value.string ⟨⟨s⟩⟩, .int .u8 44] [Value.string ⟨⟨s⟩⟩, .int .u8 44] := fun _ _ => .cons (.string _) (.cons (.int _ _) .nil)
  cases hsc : pt 44 s.length s [] with
  | none =>
    refine (CallSpec.bare (v := .tuple ⟨[.slice none 0 0, .bool false]⟩) hη gs9 ha (fun σ M => RV.tup2 (.slice0 _ _) (.bool _)) (fun σ M => RV.tup2 (.slice0 _ _) (.bool _)) (main _ (fun _ _ => rfl) (fun L h => by rw [hsc] at h; cases h)) h).mono ?_
    rintro v h' ⟨rfl, rfl⟩
    exact .inr ⟨by show ptB 44 s = false; unfold ptB; rw [hsc]; rfl, rfl, rfl⟩
  | some L =>
    refine (CallSpec.fresh (mk := fun r => .tuple ⟨[.slice (some ⟨r, 0, none⟩) L.length (capU 1), .bool true]⟩) (c := strs L) (p := false) (ty := 9) hη gs9 ha (fun σ M r hr => RV.tuple rfl fun i v x hv hx => ?_) (strs_bare L) (main _ (fun h => by rw [hsc] at h; cases h) (fun L' h => by rw [hsc] at h; injection h with h; subst h; exact ⟨rfl, rfl⟩)) h).mono ?_
    · match i, hv, hx with
      | 0, hv, hx => cases hv; cases hx; exact .slice _ _ hr
      | 1, hv, hx => cases hv; cases hx; exact .bool _
    · rintro v h' ⟨rfl, rfl⟩
      have e1 : ptB 44 s = true := by unfold ptB; rw [hsc]; rfl
      have e2 : ptL 44 s = L := by unfold ptL; rw [hsc]; rfl
      refine .inl ⟨e1, ?_, ?_⟩
      · show _ = Value.tuple ⟨[.slice (some ⟨h.next, 0, none⟩) (ptL 44 s).length (capU 1), .bool true]⟩
        rw [e2]
      · show _ = withRow h 9 (strs (ptL 44 s)) false
        rw [e2]
end TE
end Go.Ev
namespace Go.Ev
set_option linter.unusedVariables false
set_option linter.unusedSimpArgs false
open Go Go.Proofs
variable {η : Nat → Value} {B : Nat}
namespace TE
open TB
theorem elN_fuel : ∀ (m m' : Nat) (r : List UInt8), r.length ≤ m → r.length ≤ m' → elN m r = elN m' r := by
  intro m
  induction m with
  | zero =>
    intro m' r h h'
    have : r = [] := List.length_eq_zero_iff.1 (by omega)
    subst this; simp [elN]
  | succ m ih =>
    intro m' r h h'
    match r, m', h, h' with
    | [], m', h, h' => simp [elN]
    | c :: r, m' + 1, h, h' =>
      simp only [List.length_cons] at h h'
      simp only [elN]
      split
      · rfl
      split
      · rfl
      split
      · split
        · rfl
        · rename_i n t hs
          have := (scan_le _ _ (Nat.le_refl _) n t hs).1
          rw [ih m' (r.drop n) (by rw [List.length_drop]; omega) (by rw [List.length_drop]; omega)]
      · rw [ih m' r (by omega) (by omega)]
theorem elN_le : ∀ (m : Nat) (r : List UInt8) (n : Nat), elN m r = some n → n ≤ r.length ∧ (n < r.length → (r.drop n).head? = some 44) := by
  intro m
  induction m with
  | zero =>
    intro r n h
    match r, h with
    | [], h => simp only [elN] at h; injection h with h; subst h; simp
    | c :: r, h => simp [elN] at h
  | succ m ih =>
    intro r n h
    match r, h with
    | [], h => simp only [elN] at h; injection h with h; subst h; simp
    | c :: r, h =>
      simp only [elN] at h
      split at h
      · cases h
      split at h
      · rename_i h44
        injection h with h; subst h
        exact ⟨by simp, fun _ => by rw [List.drop_zero, List.head?_cons]; exact congrArg some (UInt8.toNat_inj.1 h44)⟩
      split at h
      · split at h
        · cases h
        · rename_i n' t hs
          have hn := (scan_le _ _ (Nat.le_refl _) n' t hs).1
          rw [Option.map_eq_some_iff] at h
          obtain ⟨k, h1, rfl⟩ := h
          obtain ⟨a, b⟩ := ih _ _ h1
          rw [List.length_drop] at a b
          refine ⟨by simp only [List.length_cons]; omega, fun hl => ?_⟩
          simp only [List.length_cons] at hl
          have := b (by omega)
          rw [List.drop_drop] at this
          rw [show k + (n' + 1) = (n' + k) + 1 by omega, List.drop_succ_cons]
          exact this
      · rw [Option.map_eq_some_iff] at h
        obtain ⟨k, h1, rfl⟩ := h
        obtain ⟨a, b⟩ := ih _ _ h1
        refine ⟨by simp only [List.length_cons]; omega, fun hl => ?_⟩
        simp only [List.length_cons] at hl
        rw [List.drop_succ_cons]
        exact b (by omega)
theorem pt_fuel (b : Nat) : ∀ (m m' : Nat) (r cur : List UInt8), r.length ≤ m → r.length ≤ m' → pt b m r cur = pt b m' r cur := by
  intro m
  induction m with
  | zero =>
    intro m' r cur h h'
    have : r = [] := List.length_eq_zero_iff.1 (by omega)
    subst this; simp [pt]
  | succ m ih =>
    intro m' r cur h h'
    match r, m', h, h' with
    | [], m', h, h' => simp [pt]
    | c :: r, m' + 1, h, h' =>
      simp only [List.length_cons] at h h'
      simp only [pt]
      split
      · rfl
      split
      · split
        · rfl
        · rename_i n t hs
          have := (scan_le _ _ (Nat.le_refl _) n t hs).1
          exact ih m' (r.drop n) _ (by rw [List.length_drop]; omega) (by rw [List.length_drop]; omega)
      · split
        · rw [ih m' r [] (by omega) (by omega)]
        · exact ih m' r _ (by omega) (by omega)
/-- The parts, by the length of the first one. -/
theorem pt_elN : ∀ (m : Nat) (r cur : List UInt8), r.length ≤ m → pt 44 m r cur = match elN m r with
    | none => none
    | some n => if n = r.length then some [cur ++ r] else (pt 44 r.length (r.drop (n + 1)) []).map ((cur ++ r.take n) :: ·) := by
  intro m
  induction m with
  | zero =>
    intro r cur h
    have : r = [] := List.length_eq_zero_iff.1 (by omega)
    subst this; simp [pt, elN]
  | succ m ih =>
    intro r cur h
    match r, h with
    | [], h => simp [pt, elN]
    | c :: r, h =>
      simp only [List.length_cons] at h
      simp only [pt, elN]
      by_cases hp : plB c = false
      · simp [hp]
      rw [if_neg hp, if_neg hp]
      by_cases h44 : c.toNat = 44
      · rw [if_neg (by omega), if_pos h44, if_pos h44]
        simp only [List.length_cons, List.take_zero, List.append_nil, List.drop_succ_cons, List.drop_zero]
        rw [if_neg (by omega), pt_fuel 44 m (r.length + 1) r [] (by omega) (by omega)]
      · rw [if_neg h44, if_neg h44]
        by_cases h34 : c.toNat = 34
        · rw [if_pos h34, if_pos h34]
          cases hs : scan r with
          | none => rfl
          | some x =>
            obtain ⟨n, t⟩ := x
            have hn := (scan_le _ _ (Nat.le_refl _) n t hs).1
            simp only
            rw [ih (r.drop n) _ (by rw [List.length_drop]; omega)]
            cases he : elN m (r.drop n) with
            | none => rfl
            | some k =>
              have hk := (elN_le _ _ _ he).1
              rw [List.length_drop] at hk
              simp only [Option.map_some, List.length_cons, List.length_drop, List.append_assoc, List.cons_append, List.take_append_drop]
              by_cases hkl : k = r.length - n
              · rw [if_pos hkl, if_pos (by omega)]
              · rw [if_neg hkl, if_neg (by omega), List.drop_drop, show k + (n + 1) + 1 = (n + (k + 1)) + 1 by omega, List.drop_succ_cons]
                rw [pt_fuel 44 (r.length - n) (r.length + 1) _ [] (by rw [List.length_drop]; omega) (by rw [List.length_drop]; omega)]
                rw [show k + (n + 1) = (n + k) + 1 by omega, List.take_succ_cons, List.take_add]
        · rw [if_neg h34, if_neg h34, ih r _ (by omega)]
          cases he : elN m r with
          | none => rfl
          | some k =>
            have hk := (elN_le _ _ _ he).1
            simp only [Option.map_some, List.length_cons, List.append_assoc, List.singleton_append]
            by_cases hkl : k = r.length
            · rw [if_pos hkl, if_pos (by omega)]
            · rw [if_neg hkl, if_neg (by omega), List.drop_succ_cons, List.take_succ_cons]
              rw [pt_fuel 44 r.length (r.length + 1) _ [] (by rw [List.length_drop]; omega) (by rw [List.length_drop]; omega)]
def fil (L : List (List UInt8)) : List (List UInt8) := (L.map trimB).filter fun x => decide (x ≠ [])
theorem trim_nil : trimB [] = [] := rfl
theorem fil_cons (x : List UInt8) (L : List (List UInt8)) : fil (x :: L) = if trimB x = [] then fil L else trimB x :: fil L := by
  unfold fil
  rw [List.map_cons, List.filter_cons]
  by_cases h : trimB x = [] <;> simp [h]
theorem els_cons (m : Nat) (c : UInt8) (r : List UInt8) : els (m + 1) (c :: r) = (match elN (c :: r).length (c :: r) with
    | none => none
    | some n => (els m ((c :: r).drop (n + 1))).map fun l => if trimB ((c :: r).take n) = [] then l else trimB ((c :: r).take n) :: l) := by
  rw [els]
  · rfl
  · intro h; cases h
theorem els_pt : ∀ (m : Nat) (s : List UInt8), s.length ≤ m → els m s = (pt 44 s.length s []).map fil := by
  intro m
  induction m with
  | zero =>
    intro s h
    have : s = [] := List.length_eq_zero_iff.1 (by omega)
    subst this; simp [els, pt, fil, trim_nil]
  | succ m ih =>
    intro s h
    match s, h with
    | [], h => simp [els, pt, fil, trim_nil]
    | c :: r, h =>
      rw [els_cons, pt_elN _ _ _ (Nat.le_refl _)]
      cases he : elN (c :: r).length (c :: r) with
      | none => rfl
      | some n =>
        have hn := (elN_le _ _ _ he).1
        simp only [List.nil_append]
        have hd : ((c :: r).drop (n + 1)).length ≤ m := by rw [List.length_drop]; simp only [List.length_cons] at h ⊢; omega
        rw [ih _ hd]
        by_cases hl : n = (c :: r).length
        · rw [if_pos hl, hl, List.drop_of_length_le (by omega), List.take_of_length_le (Nat.le_refl _)]
          by_cases ht : trimB (c :: r) = [] <;> simp [pt, fil, ht, trim_nil]
        · rw [if_neg hl, Option.map_map, Option.map_map]
          rw [pt_fuel 44 _ (c :: r).length _ [] (Nat.le_refl _) (by rw [List.length_drop]; omega)]
          congr 1
          funext L
          simp only [Function.comp, fil_cons]
theorem elL_pt {s : List UInt8} (hs : s.length ≤ 2000) : (pt 44 s.length s [] = none → elE s = 6 ∧ elL s = []) ∧ (∀ L, pt 44 s.length s [] = some L → elE s = 0 ∧ elL s = fil L) := by
  have e := els_pt _ s (Nat.le_refl _)
  unfold elL elE
  rw [if_neg (by omega)]
  refine ⟨fun h => ?_, fun L h => ?_⟩
  · rw [h] at e; rw [e]; exact ⟨rfl, rfl⟩
  · rw [h] at e; rw [e]; exact ⟨rfl, rfl⟩
theorem elL_els {s : List UInt8} (hs : s.length ≤ 2000) : (els s.length s = none → elE s = 6 ∧ elL s = []) ∧ (∀ L, els s.length s = some L → elE s = 0 ∧ elL s = L) := by
  unfold elL elE
  rw [if_neg (by omega)]
  refine ⟨fun h => ?_, fun L h => ?_⟩
  · rw [h]; exact ⟨rfl, rfl⟩
  · rw [h]; exact ⟨rfl, rfl⟩
/-- A contract of a list of strings, from any heap. -/
theorem listK (hη : OneCells η) {f : FuncId} {s : List UInt8} (c : CallSpec η Tryz.prog B f [.string ⟨⟨s⟩⟩] (heapN 9) fun v h => if elL s = [] then v = .tuple ⟨[.slice none 0 0, .int .i64 (elE s)]⟩ else v = .tuple ⟨[.slice (some ⟨9, 0, none⟩) (elL s).length (capU 1), .int .i64 (elE s)]⟩ ∧ h = withRow (heapN 9) 9 (strs (elL s)) false) (h : AH) :
    CallSpec η Tryz.prog B f [.string ⟨⟨s⟩⟩] h (elK [.string ⟨⟨s⟩⟩] h).sat := by
  by_cases hl : elL s = []
  · simp only [hl, if_true] at c
    refine (CallSpec.bare hη gs9 (fun _ _ => str_args) (fun σ M => RV.tup2 (.slice0 _ _) (.int _ _)) (fun σ M => RV.tup2 (.slice0 _ _) (.int _ _)) c h).mono ?_
    rintro v h' ⟨rfl, rfl⟩
    exact .inl ⟨by show elEmp s = true; unfold elEmp; rw [decide_eq_true hl], rfl, rfl⟩
  · simp only [hl, if_false] at c
    refine (CallSpec.fresh (mk := fun r => .tuple ⟨[.slice (some ⟨r, 0, none⟩) (elL s).length (capU 1), .int .i64 (elE s)]⟩) (c := strs (elL s)) (p := false) (ty := 9) hη gs9 (fun _ _ => str_args) (fun σ M r hr => RV.tuple rfl fun i v x hv hx => ?_) (strs_bare _) c h).mono ?_
    · match i, hv, hx with
      | 0, hv, hx => cases hv; cases hx; exact .slice _ _ hr
      | 1, hv, hx => cases hv; cases hx; exact .int _ _
    · rintro v h' ⟨rfl, rfl⟩
      exact .inr ⟨by show elEmp s = false; unfold elEmp; rw [decide_eq_false hl], rfl, rfl⟩
theorem pre_drop {y : List UInt8} {n : Nat} (h : elN y.length y = some n) : preL (List.take (y.length - n) (y.drop n)) = y.drop (n + 1) := by
  obtain ⟨h1, h2⟩ := elN_le _ _ _ h
  rw [List.take_of_length_le (by rw [List.length_drop]; exact Nat.le_refl _)]
  unfold preL
  rcases Nat.lt_or_ge n y.length with hl | hl
  · rw [if_pos (h2 hl), List.drop_drop]
  · rw [List.drop_of_length_le hl, show y.drop (n + 1) = [] from List.drop_of_length_le (by omega)]; rfl
theorem el_ok (hη : OneCells η) (hmix : Tryz.prog.follows .mixedOrders = true) (s : List UInt8) (h : AH) :
    CallSpec η Tryz.prog B 20 [.string ⟨⟨s⟩⟩] h (elK [.string ⟨⟨s⟩⟩] h).sat := by
  refine listK hη ?_ h
  refine CEl.enter hη hmix (reg0 hη hmix) _ ?_
  simp only [W.holds, true_and, decide_eq_true_eq, decide_eq_false_iff_not]
  refine ⟨fun h => ?_, fun h => ?_⟩
  · have e : elE s = 3 := by unfold elE; rw [if_pos (by omega)]
    have e2 : elL s = [] := by unfold elL; rw [e]; rfl
    rw [if_pos e2, e]
  have hs : s.length ≤ 2000 := by omega
  generalize hD : (fun (v : Value) (h : AH) => if elL s = [] then v = .tuple ⟨[.slice none 0 0, .int .i64 (elE s)]⟩ else v = .tuple ⟨[.slice (some ⟨9, 0, none⟩) (elL s).length (capU 1), .int .i64 (elE s)]⟩ ∧ h = withRow (heapN 9) 9 (strs (elL s)) false) = D
  have derr : els s.length s = none → ∀ h, D (.tuple ⟨[.slice none 0 0, .int .i64 6]⟩) h := by
    intro hn h; subst hD; obtain ⟨e1, e2⟩ := (elL_els hs).1 hn
    show if _ then _ else _
    rw [if_pos e2, e1]
  have dnil : els s.length s = some [] → ∀ h, D (.tuple ⟨[.slice none 0 0, .int .i64 0]⟩) h := by
    intro hn h; subst hD; obtain ⟨e1, e2⟩ := (elL_els hs).2 _ hn
    show if _ then _ else _
    rw [if_pos e2, e1]
  have dsome : ∀ L, L ≠ [] → els s.length s = some L → D (.tuple ⟨[.slice (some ⟨9, 0, none⟩) L.length (capU 1), .int .i64 0]⟩) (withRow (heapN 9) 9 (strs L) false) := by
    intro L hL hn; subst hD; obtain ⟨e1, e2⟩ := (elL_els hs).2 _ hn
    show if _ then _ else _
    rw [if_neg (by rw [e2]; exact hL), e1, e2]
    exact ⟨rfl, rfl⟩
  have cut0 := fun y0 => CEl.cut0 (η := η) (B := B) (D := D) hη hmix (reg0 hη hmix) s y0
  have cut1 := fun y0 n0 l0 => CEl.cut1 (η := η) (B := B) (D := D) hη hmix (reg0 hη hmix) s y0 n0 l0
  simp only [W.holds, true_and, decide_eq_true_eq, decide_eq_false_iff_not, beq_iff_eq, beq_eq_false_iff_ne, true_implies, Bool.not_eq_true', Bool.not_eq_false', Int.toNat_natCast, List.drop_zero, Nat.sub_zero] at cut0 cut1
  have elv : ∀ {y : List UInt8}, elNb y = true → elN y.length y = some (elNv y) := by
    intro y h; unfold elNb at h; unfold elNv
    obtain ⟨n, hn⟩ := Option.isSome_iff_exists.1 h
    rw [hn]; rfl
  have eln : ∀ {y : List UInt8}, elNb y = false → elN y.length y = none := by
    intro y h; unfold elNb at h
    cases hq : elN y.length y with
    | none => rfl
    | some n => rw [hq] at h; cases h
  have ecase : ∀ (m : Nat) (c : UInt8) (r : List UInt8), elNb (c :: r) = true → els (m + 1) (c :: r) = (els m ((c :: r).drop (elNv (c :: r) + 1))).map fun l => if trimB ((c :: r).take (elNv (c :: r))) = [] then l else trimB ((c :: r).take (elNv (c :: r))) :: l := by
    intro m c r h; rw [els_cons, elv h]
  have trl : ∀ (y : List UInt8) (n : Nat), y.length ≤ 2000 → (y.take n).length ≤ 2000 := by intro y n h; rw [List.length_take]; omega
  have tlen : ∀ y : List UInt8, (trimB y).length ≤ y.length := by
    intro y; rw [trimB_eq]; unfold tl tr
    refine Nat.le_trans (List.dropWhile_sublist _).length_le ?_
    rw [List.length_reverse]
    exact Nat.le_trans (List.dropWhile_sublist _).length_le (by rw [List.length_reverse]; exact Nat.le_refl _)
  have loop1 : ∀ (m : Nat) (y : List UInt8) (L : List (List UInt8)), y.length ≤ m → y.length ≤ 2000 → L ≠ [] → L.length + y.length ≤ 2000 → els s.length s = (els m y).map (L ++ ·) →
      RunD η Tryz.prog B 20 (CEl.H0 s) [4, 5] (CEl.S1 s ⟨⟨y⟩⟩ L.length (strs L) fun _ => undef) (QF Tryz.prog 9 D) := by
    intro m
    induction m with
    | zero =>
      intro y L hm h2 hL hl he
      have : y = [] := List.length_eq_zero_iff.1 (by omega)
      subst this
      have ds := dsome L hL (by rw [he]; simp [els])
      exact cut1 ⟨⟨[]⟩⟩ L.length (strs L) ⟨fun h => absurd rfl h, fun _ => ds⟩
    | succ m ih =>
      intro y L hm h2 hL hl he
      have c1 := cut1 ⟨⟨y⟩⟩ L.length (strs L)
      simp only [bdl] at c1
      match y, hm, h2, hl, he, c1 with
      | [], hm, h2, hl, he, c1 =>
        have ds := dsome L hL (by rw [he]; simp [els])
        exact c1 ⟨fun h => absurd rfl h, fun _ => ds⟩
      | c :: r, hm, h2, hl, he, c1 =>
        have hb0 := elN_ok (B := B) hη hmix (c :: r) (by omega)
        refine c1 ⟨fun _ => ⟨hb0 _, fun hb => ?_, fun hb => derr ?_ _⟩, fun h => by cases h⟩
        · have hv := elv hb
          have hle := (elN_le _ _ _ hv).1
          have hpd := pre_drop hv
          have hec := ecase m c r hb
          simp only [List.length_cons] at hm hl
          have hrl : ((c :: r).drop (elNv (c :: r) + 1)).length ≤ m := by rw [List.length_drop]; simp only [List.length_cons]; omega
          have hrl2 : ((c :: r).drop (elNv (c :: r) + 1)).length + 1 ≤ (c :: r).length := by rw [List.length_drop]; simp only [List.length_cons]; omega
          simp only [List.length_cons] at hrl2 h2
          refine ⟨⟨by omega, by omega, by omega⟩, fun _ => ⟨trim_ok _ (by have := trl (c :: r) (elNv (c :: r)) (by simp only [List.length_cons]; omega); omega), fun ht => ⟨clone_ok hη hmix _ (by have := tlen ((c :: r).take (elNv (c :: r))); have := trl (c :: r) (elNv (c :: r)) (by simp only [List.length_cons]; omega); omega) _, app_need' L (by omega), fun _ => ⟨⟨by omega, by omega, by omega⟩, fun _ => ⟨pre_ok hη hmix _ _, ?_⟩⟩⟩, fun ht => ⟨⟨by omega, by omega, by omega⟩, fun _ => ⟨pre_ok hη hmix _ _, ?_⟩⟩⟩⟩
          · rw [strs_snoc, hpd]
            refine ⟨⟨strs_nn _, trivial⟩, fun _ => ?_⟩
            have := ih ((c :: r).drop (elNv (c :: r) + 1)) (L ++ [trimB ((c :: r).take (elNv (c :: r)))]) hrl (by omega) (by simp) (by rw [List.length_append]; simp only [List.length_cons, List.length_nil]; omega) (by
              rw [he, hec, Option.map_map]; congr 1; funext l; simp [ht])
            rw [List.length_append] at this
            exact this
          · rw [hpd]
            first
              | (refine ⟨strs_nn L, fun _ => ?_⟩
                 exact ih ((c :: r).drop (elNv (c :: r) + 1)) L hrl (by omega) hL (by omega) (by rw [he, hec, Option.map_map]; congr 1; funext l; simp [ht]))
              | exact ih ((c :: r).drop (elNv (c :: r) + 1)) L hrl (by omega) hL (by omega) (by rw [he, hec, Option.map_map]; congr 1; funext l; simp [ht])
        · rw [he, els_cons, eln hb]; rfl
  have loop0 : ∀ (m : Nat) (y : List UInt8), y.length ≤ m → y.length ≤ 2000 → els s.length s = els m y →
      RunD η Tryz.prog B 20 (CEl.H0 s) [4, 5] (CEl.S0 s ⟨⟨y⟩⟩ fun _ => undef) (QF Tryz.prog 9 D) := by
    intro m
    induction m with
    | zero =>
      intro y hm h2 he
      have : y = [] := List.length_eq_zero_iff.1 (by omega)
      subst this
      exact cut0 ⟨⟨[]⟩⟩ ⟨fun h => absurd rfl h, fun _ => dnil (by rw [he]; simp [els]) _⟩
    | succ m ih =>
      intro y hm h2 he
      have c0 := cut0 ⟨⟨y⟩⟩
      simp only [bdl] at c0
      match y, hm, h2, he, c0 with
      | [], hm, h2, he, c0 =>
        exact c0 ⟨fun h => absurd rfl h, fun _ => dnil (by rw [he]; simp [els]) _⟩
      | c :: r, hm, h2, he, c0 =>
        have hb0 := elN_ok (B := B) hη hmix (c :: r) (by omega)
        refine c0 ⟨fun _ => ⟨hb0 _, fun hb => ?_, fun hb => derr ?_ _⟩, fun h => by cases h⟩
        · have hv := elv hb
          have hle := (elN_le _ _ _ hv).1
          have hpd := pre_drop hv
          have hec := ecase m c r hb
          simp only [List.length_cons] at hm
          have hrl : ((c :: r).drop (elNv (c :: r) + 1)).length ≤ m := by rw [List.length_drop]; simp only [List.length_cons]; omega
          have hrl2 : ((c :: r).drop (elNv (c :: r) + 1)).length + 1 ≤ (c :: r).length := by rw [List.length_drop]; simp only [List.length_cons]; omega
          simp only [List.length_cons] at hrl2 h2
          refine ⟨⟨by omega, by omega, by omega⟩, fun _ => ⟨trim_ok _ (by have := trl (c :: r) (elNv (c :: r)) (by simp only [List.length_cons]; omega); omega), fun ht => ⟨clone_ok hη hmix _ (by have := tlen ((c :: r).take (elNv (c :: r))); have := trl (c :: r) (elNv (c :: r)) (by simp only [List.length_cons]; omega); omega) _, ⟨by omega, by omega, by omega⟩, fun _ => ⟨pre_ok hη hmix _ _, ?_⟩⟩, fun ht => ⟨⟨by omega, by omega, by omega⟩, fun _ => ⟨pre_ok hη hmix _ _, ?_⟩⟩⟩⟩
          · rw [hpd]
            exact loop1 m ((c :: r).drop (elNv (c :: r) + 1)) [trimB ((c :: r).take (elNv (c :: r)))] hrl (by omega) (by simp) (by simp only [List.length_cons, List.length_nil]; omega) (by
              rw [he, hec]; congr 1; funext l; simp [ht])
          · rw [hpd]
            exact ih ((c :: r).drop (elNv (c :: r) + 1)) hrl (by omega) (by rw [he, hec]; simp only [ht, if_true]; cases els m ((c :: r).drop (elNv (c :: r) + 1)) <;> rfl)
        · rw [he, els_cons, eln hb]
  exact loop0 s.length s (Nat.le_refl _) hs rfl
end TE
end Go.Ev
