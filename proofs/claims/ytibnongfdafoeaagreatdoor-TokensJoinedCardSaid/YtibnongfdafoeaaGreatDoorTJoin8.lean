/- TJoin, part 8: what the proof needs, in the order of its texts. -/
import Derived.Test.YtibnongfdafoeaaGreatDoorTJoin7
import Derived.Shelf.Strings.SlTrimAscii
import Derived.Test.YtibnongfdafoeaaGreatDoorShelf
import Derived.KernelRfl
import Derived.Deep.Slices
import Derived.ChangeArms
import Derived.WideShapes
import Derived.ChangeSame
import Derived.SizedLaws
namespace Go.Ev
set_option linter.unusedVariables false
set_option linter.unusedSimpArgs false
open Go Go.Proofs Go.RowKit
variable {η : Nat → Value} {B : Nat}
theorem bdl (s : List UInt8) : ({ data := { toList := s } } : ByteArray).data.toList = s := rfl
namespace TE
open TB
theorem h256 : (Tryz.prog.info? (Tryz.lays160_ren.t 116)).map (fun i => (i.zero, i.size)) = some (some (.agg (Array.replicate 256 (.bool false))), 256) := by kernel_rfl
theorem trim_ok {h : AH} (s : List UInt8) (hs : s.length ≤ 9223372036854775807) :
    CallSpec η Tryz.prog B 81 [.string ⟨⟨s⟩⟩, .string ⟨#[9, 32]⟩] h (trimK [.string ⟨⟨s⟩⟩, .string ⟨#[9, 32]⟩] h).sat := by
  refine CallSpec.ofCalls (v := .string ⟨⟨trimB s⟩⟩) fun ρ args' w hl p => ?_
  obtain rfl := args_inv rfl hl
  refine (Any.strings_Trim_laid Tryz.lays160 h256 ⟨⟨s⟩⟩ ⟨#[9, 32]⟩ w hs (by decide) (fun j b hj => ?_)).mono ?_
  · have : b ∈ ([9, 32] : List UInt8) := List.mem_of_getElem? hj
    simp only [List.mem_cons, List.not_mem_nil, or_false] at this
    rcases this with rfl | rfl <;> decide
  · rintro e w' ⟨rfl, hb⟩
    exact ⟨_, rfl, .string _, hb⟩
theorem pre_ok (hη : OneCells η) (hmix : Tryz.prog.follows .mixedOrders = true) (s : List UInt8) (h : AH) :
    CallSpec η Tryz.prog B 83 [.string ⟨⟨s⟩⟩, .string ⟨#[44]⟩] h (preK [.string ⟨⟨s⟩⟩, .string ⟨#[44]⟩] h).sat := by
  refine CallSpec.bare (v := .string ⟨⟨preL s⟩⟩) hη gs9 (fun _ _ => .cons (.string _) (.cons (.string _) .nil)) (fun σ M => .string _) (fun σ M => .string _) ?_ h
  refine CTrimPre.enter hη hmix (reg0 hη hmix) _ ?_
  simp only [W.holds, true_and, decide_eq_true_eq, decide_eq_false_iff_not, beq_iff_eq, beq_eq_false_iff_ne, List.drop_zero]
  match s with
  | [] => exact ⟨fun h => absurd h (by decide), fun _ => rfl⟩
  | c :: r =>
    have ht : List.take 1 (c :: r) = [c] := rfl
    rw [ht]
    refine ⟨fun _ => ⟨⟨by omega, by omega, by simp <;> omega⟩, fun _ => ⟨fun h => ⟨⟨by omega, by simp <;> omega, by omega⟩, fun _ => ?_⟩, fun h => ?_⟩⟩, fun h => absurd (by simp <;> omega) h⟩
    · injection h with h _; subst h
      rw [show preL (44 :: r) = r from if_pos rfl, Int.toNat_natCast, List.take_of_length_le (by simp)]
      rfl
    · unfold preL
      rw [if_neg]
      intro e; apply h; injection e with e; rw [e]
def bl (c : UInt8) : Bool := ([9, 32] : List UInt8).contains c
theorem bl_iff (c : UInt8) : bl c = (c.toNat == 9 || c.toNat == 32) := eq_of_beq (forall_u8 (p := fun c => bl c == (c.toNat == 9 || c.toNat == 32)) (by decide +kernel) c)
def tl (l : List UInt8) : List UInt8 := l.dropWhile bl
def tr (l : List UInt8) : List UInt8 := (l.reverse.dropWhile bl).reverse
theorem trimB_eq (l : List UInt8) : trimB l = tl (tr l) := rfl
theorem tl_cons (a : UInt8) (l : List UInt8) : tl (a :: l) = if bl a = true then tl l else a :: l := by
  unfold tl; rw [List.dropWhile_cons]
theorem tr_cons (a : UInt8) (l : List UInt8) : tr (a :: l) = if tr l = [] then (if bl a = true then [] else [a]) else a :: tr l := by
  unfold tr
  rw [List.reverse_cons, List.dropWhile_append]
  cases hd : l.reverse.dropWhile bl with
  | nil =>
    simp only [List.isEmpty_nil, if_true, List.reverse_nil]
    rw [List.dropWhile_cons]
    split <;> rfl
  | cons x xs =>
    rw [if_neg (by simp), if_neg (by simp), List.reverse_append]; rfl
theorem tl_tr : ∀ l : List UInt8, tl (tr l) = tr (tl l)
  | [] => rfl
  | a :: l => by
    have ih := tl_tr l
    rw [tr_cons, tl_cons]
    cases hb : bl a with
    | true =>
      rw [if_pos rfl, if_pos rfl, ← ih]
      split
      · rename_i h; rw [h]
      · rw [tl_cons, hb, if_pos rfl]
    | false =>
      simp only [Bool.false_eq_true, if_false]
      rw [tr_cons, hb]
      simp only [Bool.false_eq_true, if_false]
      split
      · rw [tl_cons, hb]; simp
      · rw [tl_cons, hb]; simp
theorem tr_snoc (l : List UInt8) (a : UInt8) : tr (l ++ [a]) = if bl a = true then tr l else l ++ [a] := by
  unfold tr
  rw [List.reverse_append, List.reverse_singleton, List.singleton_append, List.dropWhile_cons]
  cases bl a with
  | true => rfl
  | false => simp
theorem kd5 (c : UInt8) : (kdN c.toNat == 5) = (c.toNat == 44) := eq_of_beq (forall_u8 (p := fun c => (kdN c.toNat == 5) == (c.toNat == 44)) (by decide +kernel) c)
theorem rq_cons {c : UInt8} {r : List UInt8} : (scan r = none → rqN (c :: r) = 0) ∧ ∀ n t, scan r = some (n, t) → rqN (c :: r) = n + 1 := by
  unfold rqN
  simp only [List.drop_succ_cons, List.drop_zero]
  exact ⟨fun h => by rw [h], fun n t h => by rw [h]⟩
theorem elN_ok (hη : OneCells η) (hmix : Tryz.prog.follows .mixedOrders = true) (s : List UInt8) (hs : s.length ≤ 400000) (h : AH) :
    CallSpec η Tryz.prog B 80 [.string ⟨⟨s⟩⟩] h (elNK [.string ⟨⟨s⟩⟩] h).sat := by
  have main : CallSpec η Tryz.prog B 80 [.string ⟨⟨s⟩⟩] (heapN 126) fun v _ => v = (if elNb s then .tuple ⟨[.int .i64 (elNv s : Nat), .bool true]⟩ else .tuple ⟨[.int .i64 0, .bool false]⟩ : Value) := by
    generalize hD : (fun (v : Value) (_ : AH) => v = (if elNb s then .tuple ⟨[.int .i64 (elNv s : Nat), .bool true]⟩ else .tuple ⟨[.int .i64 0, .bool false]⟩ : Value)) = D
    have dnone : elN s.length s = none → ∀ h, D (.tuple ⟨[.int .i64 0, .bool false]⟩) h := by
      intro hn h; subst hD; show _ = _; unfold elNb; rw [hn]; rfl
    have dsome : ∀ n : Nat, elN s.length s = some n → ∀ h, D (.tuple ⟨[.int .i64 (n : Int), .bool true]⟩) h := by
      intro n hn h; subst hD; show _ = _; unfold elNb elNv; rw [hn]; rfl
    have cut := fun i0 => CElLen.cut0 (η := η) (B := B) (D := D) hη hmix (reg0 hη hmix) s i0
    simp only [W.holds, true_and, decide_eq_true_eq, decide_eq_false_iff_not, beq_iff_eq, beq_eq_false_iff_ne, Int.toNat_natCast] at cut
    have loop : ∀ (m : Nat) (r : List UInt8) (i : Nat), r.length ≤ m → s.drop i = r → i ≤ s.length → elN s.length s = (elN m r).map (· + i) → RunD η Tryz.prog B 80 (CElLen.H0 s) [0, 2] (CElLen.S0 s (i : Int) fun _ => undef) (QF Tryz.prog 126 D) := by
      intro m
      induction m with
      | zero =>
        intro r i hm hd hi he
        have hr : r = [] := List.length_eq_zero_iff.1 (by omega)
        subst hr
        have := at_nil hd
        refine cut _ ⟨fun h => by omega, fun _ => dsome i ?_ _⟩
        rw [he]; simp [elN]
      | succ m ih =>
        intro r i hm hd hi he
        match r, hm, hd, he with
        | [], hm, hd, he =>
          have := at_nil hd
          refine cut _ ⟨fun h => by omega, fun _ => dsome i ?_ _⟩
          rw [he]; simp [elN]
        | c :: r, hm, hd, he =>
          obtain ⟨hi2, hb, hd2⟩ := at_cons hd
          simp only [List.length_cons] at hm
          have c1 := cut (i : Int)
          have hcut : List.take (s.length - i) (List.drop i s) = c :: r := by rw [List.take_of_length_le (by rw [List.length_drop]; exact Nat.le_refl _), hd]
          rw [hb, Int.toNat_natCast, Int.toNat_natCast, hcut] at c1
          have k5 : kdN c.toNat = 5 ↔ c.toNat = 44 := by rw [← beq_iff_eq, kd5, beq_iff_eq]
          have k3 : kdN c.toNat = 3 ↔ c.toNat = 34 := by rw [← beq_iff_eq, kd3, beq_iff_eq]
          have k0 : kdN c.toNat = 0 ↔ plB c = false := by rw [← beq_iff_eq, kd0]; cases plB c <;> simp
          have hkind : CallSpec η Tryz.prog B 131 [.int .u8 (c.toNat : Int)] (heapN 126) (KT.ret (.int .i64 (kdN c.toNat)) (heapN 126)).sat := by
            have := kind_any (B := B) hη hmix (n := (c.toNat : Int)) (by omega) (by have := c.toNat_lt; omega) (heapN 126)
            rw [Int.toNat_natCast] at this; exact this
          have hI : (0 : Int) ≤ (i : Int) ∧ (i : Int) < (s.length : Int) := ⟨by omega, by omega⟩
          refine c1 ⟨fun _ => ⟨hI, fun _ => ⟨hkind, fun h5 => dsome i ?_ _, fun h5 => ⟨fun h0 => dnone ?_ _, fun h0 => ⟨fun h3 => ⟨⟨by omega, by omega, by omega⟩, fun _ => ⟨rq_ok hη hmix _ (by simp) (by have := congrArg List.length hd; rw [List.length_drop] at this; omega) _, fun hz => dnone ?_ _, fun hz => ?_⟩⟩, fun h3 => ?_⟩⟩⟩⟩, fun h => by omega⟩
          · rw [k5] at h5
            have hp : plB c = true := by unfold plB; rw [decide_eq_true (by omega)]
            rw [he, elN]; simp [hp, h5]
          · rw [k0] at h0
            rw [he, elN]; simp [h0]
          · rw [k3] at h3
            have hp : plB c = true := by unfold plB; rw [decide_eq_true (by omega)]
            have hsc : scan r = none := by
              cases hq : scan r with
              | none => rfl
              | some x => obtain ⟨n, t⟩ := x; have := rq_cons (c := c).2 n t hq; omega
            rw [he, elN]; simp [hp, h3, hsc]
          · rw [k3] at h3
            have hp : plB c = true := by unfold plB; rw [decide_eq_true (by omega)]
            cases hq : scan r with
            | none => exact absurd (by rw [rq_cons.1 hq]; rfl) hz
            | some x =>
              obtain ⟨n, t⟩ := x
              have hn := rq_cons (c := c).2 n t hq
              have hle := (scan_le _ _ (Nat.le_refl _) n t hq).1
              have hlen := congrArg List.length hd
              rw [List.length_drop, List.length_cons] at hlen
              rw [hn]
              have hw : IntKind.i64.wrap ((i : Int) + ((n + 1 : Nat) : Int)) = ((i + (n + 1) : Nat) : Int) := by
                rw [IntWalk.i64_in _ ⟨by omega, by omega⟩]; omega
              rw [hw]
              refine ih (r.drop n) (i + (n + 1)) (by rw [List.length_drop]; omega) ?_ (by omega) ?_
              · rw [show i + (n + 1) = i + 1 + n by omega, ← List.drop_drop, hd2]
              · rw [he, elN]; simp only [hp, h3, hq]
                cases elN m (r.drop n) <;> simp <;> omega
          · rw [ne_eq, k5] at h5; rw [ne_eq, k3] at h3; rw [ne_eq, k0] at h0
            have hp : plB c = true := by cases hq : plB c with | true => rfl | false => exact absurd hq h0
            rw [wrap1 (by omega)]
            refine ih r (i + 1) (by omega) hd2 (by omega) ?_
            rw [he, elN]; simp only [hp, h5, h3]
            cases elN m r <;> simp <;> omega
    refine CElLen.enter hη hmix (reg0 hη hmix) _ ?_
    simp only [W.holds]
    exact loop s.length s 0 (Nat.le_refl _) rfl (by omega) (by cases elN s.length s <;> simp)
  cases hb : elNb s with
  | true =>
    rw [hb] at main
    refine (CallSpec.bare hη gs9 (fun _ _ => str_args) (fun σ M => RV.tup2 (.int _ _) (.bool _)) (fun σ M => RV.tup2 (.int _ _) (.bool _)) main h).mono ?_
    rintro v h' ⟨rfl, rfl⟩; exact .inl ⟨hb, rfl, rfl⟩
  | false =>
    rw [hb] at main
    refine (CallSpec.bare hη gs9 (fun _ _ => str_args) (fun σ M => RV.tup2 (.int _ _) (.bool _)) (fun σ M => RV.tup2 (.int _ _) (.bool _)) main h).mono ?_
    rintro v h' ⟨rfl, rfl⟩; exact .inr ⟨hb, rfl, rfl⟩
end TE
end Go.Ev
namespace Go.Ev
set_option linter.unusedVariables false
set_option linter.unusedSimpArgs false
open Go Go.Proofs
variable {η : Nat → Value} {B : Nat}
namespace TE
open TB
theorem strs_snoc (L : List (List UInt8)) (x : List UInt8) : strs L ++ [.string ⟨⟨x⟩⟩] = strs (L ++ [x]) := by unfold strs; rw [List.map_append]; rfl
theorem strs_len (L : List (List UInt8)) : (strs L).length = L.length := by unfold strs; rw [List.length_map]
theorem strs_nn (L : List (List UInt8)) : NoNames (strs L) := by
  intro v hv; unfold strs at hv; obtain ⟨x, _, rfl⟩ := List.mem_map.1 hv; rfl
theorem strs_get {L : List (List UInt8)} {i : Nat} (h : i < L.length) : (strs L)[i]? = some (.string ⟨⟨L[i]⟩⟩) ∧ strAt (strs L) i = L[i] := by
  have e : (strs L)[i]? = some (.string ⟨⟨L[i]⟩⟩) := by unfold strs; rw [List.getElem?_map, List.getElem?_eq_getElem h]; rfl
  refine ⟨e, ?_⟩
  unfold strAt; rw [e]
theorem strs_bare (L : List (List UInt8)) : ∀ (σ : Nat → Nat) (M : Nat), ∀ v ∈ strs L, RV σ M false v v := by
  intro σ M v hv; unfold strs at hv; obtain ⟨x, _, rfl⟩ := List.mem_map.1 hv; exact .string _
theorem app_need' (L : List (List UInt8)) (h : L.length + 1 ≤ 1000000) : 1 ≤ 1 ∧ (strs L).length = L.length * 1 ∧ L.length + 1 ≤ 1000000 ∧ True := ⟨by omega, by rw [strs_len, Nat.mul_one], h, trivial⟩
end TE
end Go.Ev
namespace Go.Ev
set_option linter.unusedVariables false
set_option linter.unusedSimpArgs false
open Go Go.Proofs
variable {η : Nat → Value} {B : Nat}
namespace TE
open TB
theorem elN_fuel : ∀ (m m' : Nat) (r : List UInt8), r.length ≤ m → r.length ≤ m' → elN m r = elN m' r := by
  intro m
  induction m with
  | zero =>
    intro m' r h h'
    have : r = [] := List.length_eq_zero_iff.1 (by omega)
    subst this; simp [elN]
  | succ m ih =>
    intro m' r h h'
    match r, m', h, h' with
    | [], m', h, h' => simp [elN]
    | c :: r, m' + 1, h, h' =>
      simp only [List.length_cons] at h h'
      simp only [elN]
      split
      · rfl
      split
      · rfl
      split
      · split
        · rfl
        · rename_i n t hs
          have := (scan_le _ _ (Nat.le_refl _) n t hs).1
          rw [ih m' (r.drop n) (by rw [List.length_drop]; omega) (by rw [List.length_drop]; omega)]
      · rw [ih m' r (by omega) (by omega)]
theorem elN_le : ∀ (m : Nat) (r : List UInt8) (n : Nat), elN m r = some n → n ≤ r.length ∧ (n < r.length → (r.drop n).head? = some 44) := by
  intro m
  induction m with
  | zero =>
    intro r n h
    match r, h with
    | [], h => simp only [elN] at h; injection h with h; subst h; simp
    | c :: r, h => simp [elN] at h
  | succ m ih =>
    intro r n h
    match r, h with
    | [], h => simp only [elN] at h; injection h with h; subst h; simp
    | c :: r, h =>
      simp only [elN] at h
      split at h
      · cases h
      split at h
      · rename_i h44
        injection h with h; subst h
        exact ⟨by simp, fun _ => by rw [List.drop_zero, List.head?_cons]; exact congrArg some (UInt8.toNat_inj.1 h44)⟩
      split at h
      · split at h
        · cases h
        · rename_i n' t hs
          have hn := (scan_le _ _ (Nat.le_refl _) n' t hs).1
          rw [Option.map_eq_some_iff] at h
          obtain ⟨k, h1, rfl⟩ := h
          obtain ⟨a, b⟩ := ih _ _ h1
          rw [List.length_drop] at a b
          refine ⟨by simp only [List.length_cons]; omega, fun hl => ?_⟩
          simp only [List.length_cons] at hl
          have := b (by omega)
          rw [List.drop_drop] at this
          rw [show k + (n' + 1) = (n' + k) + 1 by omega, List.drop_succ_cons]
          exact this
      · rw [Option.map_eq_some_iff] at h
        obtain ⟨k, h1, rfl⟩ := h
        obtain ⟨a, b⟩ := ih _ _ h1
        refine ⟨by simp only [List.length_cons]; omega, fun hl => ?_⟩
        simp only [List.length_cons] at hl
        rw [List.drop_succ_cons]
        exact b (by omega)
theorem pt_fuel (b : Nat) : ∀ (m m' : Nat) (r cur : List UInt8), r.length ≤ m → r.length ≤ m' → pt b m r cur = pt b m' r cur := by
  intro m
  induction m with
  | zero =>
    intro m' r cur h h'
    have : r = [] := List.length_eq_zero_iff.1 (by omega)
    subst this; simp [pt]
  | succ m ih =>
    intro m' r cur h h'
    match r, m', h, h' with
    | [], m', h, h' => simp [pt]
    | c :: r, m' + 1, h, h' =>
      simp only [List.length_cons] at h h'
      simp only [pt]
      split
      · rfl
      split
      · split
        · rfl
        · rename_i n t hs
          have := (scan_le _ _ (Nat.le_refl _) n t hs).1
          exact ih m' (r.drop n) _ (by rw [List.length_drop]; omega) (by rw [List.length_drop]; omega)
      · split
        · rw [ih m' r [] (by omega) (by omega)]
        · exact ih m' r _ (by omega) (by omega)
/-- The parts, by the length of the first one. -/
theorem pt_elN : ∀ (m : Nat) (r cur : List UInt8), r.length ≤ m → pt 44 m r cur = match elN m r with
    | none => none
    | some n => if n = r.length then some [cur ++ r] else (pt 44 r.length (r.drop (n + 1)) []).map ((cur ++ r.take n) :: ·) := by
  intro m
  induction m with
  | zero =>
    intro r cur h
    have : r = [] := List.length_eq_zero_iff.1 (by omega)
    subst this; simp [pt, elN]
  | succ m ih =>
    intro r cur h
    match r, h with
    | [], h => simp [pt, elN]
    | c :: r, h =>
      simp only [List.length_cons] at h
      simp only [pt, elN]
      by_cases hp : plB c = false
      · simp [hp]
      rw [if_neg hp, if_neg hp]
      by_cases h44 : c.toNat = 44
      · rw [if_neg (by omega), if_pos h44, if_pos h44]
        simp only [List.length_cons, List.take_zero, List.append_nil, List.drop_succ_cons, List.drop_zero]
        rw [if_neg (by omega), pt_fuel 44 m (r.length + 1) r [] (by omega) (by omega)]
      · rw [if_neg h44, if_neg h44]
        by_cases h34 : c.toNat = 34
        · rw [if_pos h34, if_pos h34]
          cases hs : scan r with
          | none => rfl
          | some x =>
            obtain ⟨n, t⟩ := x
            have hn := (scan_le _ _ (Nat.le_refl _) n t hs).1
            simp only
            rw [ih (r.drop n) _ (by rw [List.length_drop]; omega)]
            cases he : elN m (r.drop n) with
            | none => rfl
            | some k =>
              have hk := (elN_le _ _ _ he).1
              rw [List.length_drop] at hk
              simp only [Option.map_some, List.length_cons, List.length_drop, List.append_assoc, List.cons_append, List.take_append_drop]
              by_cases hkl : k = r.length - n
              · rw [if_pos hkl, if_pos (by omega)]
              · rw [if_neg hkl, if_neg (by omega), List.drop_drop, show k + (n + 1) + 1 = (n + (k + 1)) + 1 by omega, List.drop_succ_cons]
                rw [pt_fuel 44 (r.length - n) (r.length + 1) _ [] (by rw [List.length_drop]; omega) (by rw [List.length_drop]; omega)]
                rw [show k + (n + 1) = (n + k) + 1 by omega, List.take_succ_cons, List.take_add]
        · rw [if_neg h34, if_neg h34, ih r _ (by omega)]
          cases he : elN m r with
          | none => rfl
          | some k =>
            have hk := (elN_le _ _ _ he).1
            simp only [Option.map_some, List.length_cons, List.append_assoc, List.singleton_append]
            by_cases hkl : k = r.length
            · rw [if_pos hkl, if_pos (by omega)]
            · rw [if_neg hkl, if_neg (by omega), List.drop_succ_cons, List.take_succ_cons]
              rw [pt_fuel 44 r.length (r.length + 1) _ [] (by rw [List.length_drop]; omega) (by rw [List.length_drop]; omega)]
def fil (L : List (List UInt8)) : List (List UInt8) := (L.map trimB).filter fun x => decide (x ≠ [])
theorem trim_nil : trimB [] = [] := rfl
theorem fil_cons (x : List UInt8) (L : List (List UInt8)) : fil (x :: L) = if trimB x = [] then fil L else trimB x :: fil L := by
  unfold fil
  rw [List.map_cons, List.filter_cons]
  by_cases h : trimB x = [] <;> simp [h]
theorem els_cons (m : Nat) (c : UInt8) (r : List UInt8) : els (m + 1) (c :: r) = (match elN (c :: r).length (c :: r) with
    | none => none
    | some n => (els m ((c :: r).drop (n + 1))).map fun l => if trimB ((c :: r).take n) = [] then l else trimB ((c :: r).take n) :: l) := by
  rw [els]
  · rfl
  · intro h; cases h
theorem els_pt : ∀ (m : Nat) (s : List UInt8), s.length ≤ m → els m s = (pt 44 s.length s []).map fil := by
  intro m
  induction m with
  | zero =>
    intro s h
    have : s = [] := List.length_eq_zero_iff.1 (by omega)
    subst this; simp [els, pt, fil, trim_nil]
  | succ m ih =>
    intro s h
    match s, h with
    | [], h => simp [els, pt, fil, trim_nil]
    | c :: r, h =>
      rw [els_cons, pt_elN _ _ _ (Nat.le_refl _)]
      cases he : elN (c :: r).length (c :: r) with
      | none => rfl
      | some n =>
        have hn := (elN_le _ _ _ he).1
        simp only [List.nil_append]
        have hd : ((c :: r).drop (n + 1)).length ≤ m := by rw [List.length_drop]; simp only [List.length_cons] at h ⊢; omega
        rw [ih _ hd]
        by_cases hl : n = (c :: r).length
        · rw [if_pos hl, hl, List.drop_of_length_le (by omega), List.take_of_length_le (Nat.le_refl _)]
          by_cases ht : trimB (c :: r) = [] <;> simp [pt, fil, ht, trim_nil]
        · rw [if_neg hl, Option.map_map, Option.map_map]
          rw [pt_fuel 44 _ (c :: r).length _ [] (Nat.le_refl _) (by rw [List.length_drop]; omega)]
          congr 1
          funext L
          simp only [Function.comp, fil_cons]
theorem elL_els {s : List UInt8} (hs : s.length ≤ 2000) : (els s.length s = none → elE s = 6 ∧ elL s = []) ∧ (∀ L, els s.length s = some L → elE s = 0 ∧ elL s = L) := by
  unfold elL elE
  rw [if_neg (by omega)]
  refine ⟨fun h => ?_, fun L h => ?_⟩
  · rw [h]; exact ⟨rfl, rfl⟩
  · rw [h]; exact ⟨rfl, rfl⟩
/-- A contract of a list of strings, from any heap. -/
theorem listK (hη : OneCells η) {f : FuncId} {s : List UInt8} (c : CallSpec η Tryz.prog B f [.string ⟨⟨s⟩⟩] (heapN 126) fun v h => if elL s = [] then v = .tuple ⟨[.slice none 0 0, .int .i64 (elE s)]⟩ else v = .tuple ⟨[.slice (some ⟨126, 0, none⟩) (elL s).length (capU 1), .int .i64 (elE s)]⟩ ∧ h = withRow (heapN 126) 9 (strs (elL s)) false) (h : AH) :
    CallSpec η Tryz.prog B f [.string ⟨⟨s⟩⟩] h (elK [.string ⟨⟨s⟩⟩] h).sat := by
  by_cases hl : elL s = []
  · simp only [hl, if_true] at c
    refine (CallSpec.bare hη gs9 (fun _ _ => str_args) (fun σ M => RV.tup2 (.slice0 _ _) (.int _ _)) (fun σ M => RV.tup2 (.slice0 _ _) (.int _ _)) c h).mono ?_
    rintro v h' ⟨rfl, rfl⟩
    exact .inl ⟨by show elEmp s = true; unfold elEmp; rw [decide_eq_true hl], rfl, rfl⟩
  · simp only [hl, if_false] at c
    refine (CallSpec.fresh (mk := fun r => .tuple ⟨[.slice (some ⟨r, 0, none⟩) (elL s).length (capU 1), .int .i64 (elE s)]⟩) (c := strs (elL s)) (p := false) (ty := 9) hη gs9 (fun _ _ => str_args) (fun σ M r hr => RV.tuple rfl fun i v x hv hx => ?_) (strs_bare _) c h).mono ?_
    · match i, hv, hx with
      | 0, hv, hx => cases hv; cases hx; exact .slice _ _ hr
      | 1, hv, hx => cases hv; cases hx; exact .int _ _
    · rintro v h' ⟨rfl, rfl⟩
      exact .inr ⟨by show elEmp s = false; unfold elEmp; rw [decide_eq_false hl], rfl, rfl⟩
theorem pre_drop {y : List UInt8} {n : Nat} (h : elN y.length y = some n) : preL (List.take (y.length - n) (y.drop n)) = y.drop (n + 1) := by
  obtain ⟨h1, h2⟩ := elN_le _ _ _ h
  rw [List.take_of_length_le (by rw [List.length_drop]; exact Nat.le_refl _)]
  unfold preL
  rcases Nat.lt_or_ge n y.length with hl | hl
  · rw [if_pos (h2 hl), List.drop_drop]
  · rw [List.drop_of_length_le hl, show y.drop (n + 1) = [] from List.drop_of_length_le (by omega)]; rfl
theorem el_ok (hη : OneCells η) (hmix : Tryz.prog.follows .mixedOrders = true) (s : List UInt8) (h : AH) :
    CallSpec η Tryz.prog B 25 [.string ⟨⟨s⟩⟩] h (elK [.string ⟨⟨s⟩⟩] h).sat := by
  refine listK hη ?_ h
  refine CEl.enter hη hmix (reg0 hη hmix) _ ?_
  simp only [W.holds, true_and, decide_eq_true_eq, decide_eq_false_iff_not]
  refine ⟨fun h => ?_, fun h => ?_⟩
  · have e : elE s = 3 := by unfold elE; rw [if_pos (by omega)]
    have e2 : elL s = [] := by unfold elL; rw [e]; rfl
    rw [if_pos e2, e]
  have hs : s.length ≤ 2000 := by omega
  generalize hD : (fun (v : Value) (h : AH) => if elL s = [] then v = .tuple ⟨[.slice none 0 0, .int .i64 (elE s)]⟩ else v = .tuple ⟨[.slice (some ⟨126, 0, none⟩) (elL s).length (capU 1), .int .i64 (elE s)]⟩ ∧ h = withRow (heapN 126) 9 (strs (elL s)) false) = D
  have derr : els s.length s = none → ∀ h, D (.tuple ⟨[.slice none 0 0, .int .i64 6]⟩) h := by
    intro hn h; subst hD; obtain ⟨e1, e2⟩ := (elL_els hs).1 hn
    show if _ then _ else _
    rw [if_pos e2, e1]
  have dnil : els s.length s = some [] → ∀ h, D (.tuple ⟨[.slice none 0 0, .int .i64 0]⟩) h := by
    intro hn h; subst hD; obtain ⟨e1, e2⟩ := (elL_els hs).2 _ hn
    show if _ then _ else _
    rw [if_pos e2, e1]
  have dsome : ∀ L, L ≠ [] → els s.length s = some L → D (.tuple ⟨[.slice (some ⟨126, 0, none⟩) L.length (capU 1), .int .i64 0]⟩) (withRow (heapN 126) 9 (strs L) false) := by
    intro L hL hn; subst hD; obtain ⟨e1, e2⟩ := (elL_els hs).2 _ hn
    show if _ then _ else _
    rw [if_neg (by rw [e2]; exact hL), e1, e2]
    exact ⟨rfl, rfl⟩
  have cut0 := fun y0 => CEl.cut0 (η := η) (B := B) (D := D) hη hmix (reg0 hη hmix) s y0
  have cut1 := fun y0 n0 l0 => CEl.cut1 (η := η) (B := B) (D := D) hη hmix (reg0 hη hmix) s y0 n0 l0
  simp only [W.holds, true_and, decide_eq_true_eq, decide_eq_false_iff_not, beq_iff_eq, beq_eq_false_iff_ne, true_implies, Bool.not_eq_true', Bool.not_eq_false', Int.toNat_natCast, List.drop_zero, Nat.sub_zero] at cut0 cut1
  have elv : ∀ {y : List UInt8}, elNb y = true → elN y.length y = some (elNv y) := by
    intro y h; unfold elNb at h; unfold elNv
    obtain ⟨n, hn⟩ := Option.isSome_iff_exists.1 h
    rw [hn]; rfl
  have eln : ∀ {y : List UInt8}, elNb y = false → elN y.length y = none := by
    intro y h; unfold elNb at h
    cases hq : elN y.length y with
    | none => rfl
    | some n => rw [hq] at h; cases h
  have ecase : ∀ (m : Nat) (c : UInt8) (r : List UInt8), elNb (c :: r) = true → els (m + 1) (c :: r) = (els m ((c :: r).drop (elNv (c :: r) + 1))).map fun l => if trimB ((c :: r).take (elNv (c :: r))) = [] then l else trimB ((c :: r).take (elNv (c :: r))) :: l := by
    intro m c r h; rw [els_cons, elv h]
  have trl : ∀ (y : List UInt8) (n : Nat), y.length ≤ 2000 → (y.take n).length ≤ 2000 := by intro y n h; rw [List.length_take]; omega
  have tlen : ∀ y : List UInt8, (trimB y).length ≤ y.length := by
    intro y; rw [trimB_eq]; unfold tl tr
    refine Nat.le_trans (List.dropWhile_sublist _).length_le ?_
    rw [List.length_reverse]
    exact Nat.le_trans (List.dropWhile_sublist _).length_le (by rw [List.length_reverse]; exact Nat.le_refl _)
  have loop1 : ∀ (m : Nat) (y : List UInt8) (L : List (List UInt8)), y.length ≤ m → y.length ≤ 2000 → L ≠ [] → L.length + y.length ≤ 2000 → els s.length s = (els m y).map (L ++ ·) →
      RunD η Tryz.prog B 25 (CEl.H0 s) [4, 5] (CEl.S1 s ⟨⟨y⟩⟩ L.length (strs L) fun _ => undef) (QF Tryz.prog 126 D) := by
    intro m
    induction m with
    | zero =>
      intro y L hm h2 hL hl he
      have : y = [] := List.length_eq_zero_iff.1 (by omega)
      subst this
      have ds := dsome L hL (by rw [he]; simp [els])
      exact cut1 ⟨⟨[]⟩⟩ L.length (strs L) ⟨fun h => absurd rfl h, fun _ => ds⟩
    | succ m ih =>
      intro y L hm h2 hL hl he
      have c1 := cut1 ⟨⟨y⟩⟩ L.length (strs L)
      simp only [bdl] at c1
      match y, hm, h2, hl, he, c1 with
      | [], hm, h2, hl, he, c1 =>
        have ds := dsome L hL (by rw [he]; simp [els])
        exact c1 ⟨fun h => absurd rfl h, fun _ => ds⟩
      | c :: r, hm, h2, hl, he, c1 =>
        have hb0 := elN_ok (B := B) hη hmix (c :: r) (by omega)
        refine c1 ⟨fun _ => ⟨hb0 _, fun hb => ?_, fun hb => derr ?_ _⟩, fun h => by cases h⟩
        · have hv := elv hb
          have hle := (elN_le _ _ _ hv).1
          have hpd := pre_drop hv
          have hec := ecase m c r hb
          simp only [List.length_cons] at hm hl
          have hrl : ((c :: r).drop (elNv (c :: r) + 1)).length ≤ m := by rw [List.length_drop]; simp only [List.length_cons]; omega
          have hrl2 : ((c :: r).drop (elNv (c :: r) + 1)).length + 1 ≤ (c :: r).length := by rw [List.length_drop]; simp only [List.length_cons]; omega
          simp only [List.length_cons] at hrl2 h2
          refine ⟨⟨by omega, by omega, by omega⟩, fun _ => ⟨trim_ok _ (by have := trl (c :: r) (elNv (c :: r)) (by simp only [List.length_cons]; omega); omega), fun ht => ⟨clone_ok hη hmix _ (by have := tlen ((c :: r).take (elNv (c :: r))); have := trl (c :: r) (elNv (c :: r)) (by simp only [List.length_cons]; omega); omega) _, app_need' L (by omega), fun _ => ⟨⟨by omega, by omega, by omega⟩, fun _ => ⟨pre_ok hη hmix _ _, ?_⟩⟩⟩, fun ht => ⟨⟨by omega, by omega, by omega⟩, fun _ => ⟨pre_ok hη hmix _ _, ?_⟩⟩⟩⟩
          · rw [strs_snoc, hpd]
            refine ⟨⟨strs_nn _, trivial⟩, fun _ => ?_⟩
            have := ih ((c :: r).drop (elNv (c :: r) + 1)) (L ++ [trimB ((c :: r).take (elNv (c :: r)))]) hrl (by omega) (by simp) (by rw [List.length_append]; simp only [List.length_cons, List.length_nil]; omega) (by
              rw [he, hec, Option.map_map]; congr 1; funext l; simp [ht])
            rw [List.length_append] at this
            exact this
          · rw [hpd]
            first
              | (refine ⟨strs_nn L, fun _ => ?_⟩
                 exact ih ((c :: r).drop (elNv (c :: r) + 1)) L hrl (by omega) hL (by omega) (by rw [he, hec, Option.map_map]; congr 1; funext l; simp [ht]))
              | exact ih ((c :: r).drop (elNv (c :: r) + 1)) L hrl (by omega) hL (by omega) (by rw [he, hec, Option.map_map]; congr 1; funext l; simp [ht])
        · rw [he, els_cons, eln hb]; rfl
  have loop0 : ∀ (m : Nat) (y : List UInt8), y.length ≤ m → y.length ≤ 2000 → els s.length s = els m y →
      RunD η Tryz.prog B 25 (CEl.H0 s) [4, 5] (CEl.S0 s ⟨⟨y⟩⟩ fun _ => undef) (QF Tryz.prog 126 D) := by
    intro m
    induction m with
    | zero =>
      intro y hm h2 he
      have : y = [] := List.length_eq_zero_iff.1 (by omega)
      subst this
      exact cut0 ⟨⟨[]⟩⟩ ⟨fun h => absurd rfl h, fun _ => dnil (by rw [he]; simp [els]) _⟩
    | succ m ih =>
      intro y hm h2 he
      have c0 := cut0 ⟨⟨y⟩⟩
      simp only [bdl] at c0
      match y, hm, h2, he, c0 with
      | [], hm, h2, he, c0 =>
        exact c0 ⟨fun h => absurd rfl h, fun _ => dnil (by rw [he]; simp [els]) _⟩
      | c :: r, hm, h2, he, c0 =>
        have hb0 := elN_ok (B := B) hη hmix (c :: r) (by omega)
        refine c0 ⟨fun _ => ⟨hb0 _, fun hb => ?_, fun hb => derr ?_ _⟩, fun h => by cases h⟩
        · have hv := elv hb
          have hle := (elN_le _ _ _ hv).1
          have hpd := pre_drop hv
          have hec := ecase m c r hb
          simp only [List.length_cons] at hm
          have hrl : ((c :: r).drop (elNv (c :: r) + 1)).length ≤ m := by rw [List.length_drop]; simp only [List.length_cons]; omega
          have hrl2 : ((c :: r).drop (elNv (c :: r) + 1)).length + 1 ≤ (c :: r).length := by rw [List.length_drop]; simp only [List.length_cons]; omega
          simp only [List.length_cons] at hrl2 h2
          refine ⟨⟨by omega, by omega, by omega⟩, fun _ => ⟨trim_ok _ (by have := trl (c :: r) (elNv (c :: r)) (by simp only [List.length_cons]; omega); omega), fun ht => ⟨clone_ok hη hmix _ (by have := tlen ((c :: r).take (elNv (c :: r))); have := trl (c :: r) (elNv (c :: r)) (by simp only [List.length_cons]; omega); omega) _, ⟨by omega, by omega, by omega⟩, fun _ => ⟨pre_ok hη hmix _ _, ?_⟩⟩, fun ht => ⟨⟨by omega, by omega, by omega⟩, fun _ => ⟨pre_ok hη hmix _ _, ?_⟩⟩⟩⟩
          · rw [hpd]
            exact loop1 m ((c :: r).drop (elNv (c :: r) + 1)) [trimB ((c :: r).take (elNv (c :: r)))] hrl (by omega) (by simp) (by simp only [List.length_cons, List.length_nil]; omega) (by
              rw [he, hec]; congr 1; funext l; simp [ht])
          · rw [hpd]
            exact ih ((c :: r).drop (elNv (c :: r) + 1)) hrl (by omega) (by rw [he, hec]; simp only [ht, if_true]; cases els m ((c :: r).drop (elNv (c :: r) + 1)) <;> rfl)
        · rw [he, els_cons, eln hb]
  exact loop0 s.length s (Nat.le_refl _) hs rfl
end TE
end Go.Ev

namespace Go.Ev
set_option linter.unusedVariables false
set_option linter.unusedSimpArgs false
open Go Go.Proofs
variable {η : Nat → Value} {B : Nat}
namespace TE
open TB
/-- A value that stands for a list of strings. -/
def IsStrs (h : AH) (v : Value) (L : List (List UInt8)) : Prop :=
  (v = .slice none 0 0 ∧ L = []) ∨ ∃ r own, v = .slice (some ⟨r, 0, none⟩) L.length (capU 1) ∧ h.objs.get r = some (.cells 9 (strs L) false own)
theorem strs_all (L : List (List UInt8)) : (strs L).all bareV = true := by
  rw [List.all_eq_true]; intro v hv
  unfold strs at hv
  rw [List.mem_map] at hv
  obtain ⟨x, _, rfl⟩ := hv; rfl
theorem IsStrs.at_ {h : AH} {v : Value} {L : List (List UInt8)} (k : IsStrs h v L) : listAt h v = L := by
  rcases k with ⟨rfl, rfl⟩ | ⟨r, own, rfl, hr⟩
  · rfl
  · unfold listAt
    simp only [hr]
    rw [List.take_of_length_le (by rw [strs_len]; exact Nat.le_refl _)]
    unfold strs
    rw [List.map_map]
    exact List.map_id _
theorem beq_cons (a b : List UInt8) (x y : List (List UInt8)) : ((a :: x) == (b :: y)) = ((a == b) && (x == y)) := rfl
theorem strs_ok (hη : OneCells η) (hmix : Tryz.prog.follows .mixedOrders = true) (X Y : List (List UInt8)) (hX : X.length ≤ 100000) :
    CallSpec η Tryz.prog B 27 [.slice (some ⟨126, 0, none⟩) X.length (capU 1), .slice (some ⟨127, 0, none⟩) Y.length (capU 1)] (heapT [(9, strs X), (9, strs Y)]) (fun v h => v = .bool (X == Y) ∧ h = heapT [(9, strs X), (9, strs Y)]) := by
  have e0 : CStr.H0 X Y = heapT [(9, strs X), (9, strs Y)] := rfl
  rw [← e0]
  have cut := fun i0 => CStr.cut0 (η := η) (B := B) (D := fun v h => v = .bool (X == Y) ∧ h = CStr.H0 X Y) hη hmix (reg0 hη hmix) X Y i0
  refine CStr.enter hη hmix (reg0 hη hmix) _ _ ?_
  simp only [W.holds, true_and, and_true, decide_eq_true_eq, decide_eq_false_iff_not, bne_iff_ne, bne_eq_false_iff_eq, Bool.not_eq_true', Bool.not_eq_false', beq_iff_eq, beq_eq_false_iff_ne, Nat.zero_add, Nat.mul_one, true_implies] at cut ⊢
  have loop : ∀ (x y : List (List UInt8)) (i : Nat), X.drop i = x → Y.drop i = y → X.length = Y.length → (X == Y) = (x == y) → RunD η Tryz.prog B 27 (CStr.H0 X Y) [0, 1, 5] (CStr.S0 X Y (i : Int) fun _ => undef) (QF Tryz.prog 128 fun v h => v = .bool (X == Y) ∧ h = CStr.H0 X Y) := by
    intro x
    induction x with
    | nil =>
      intro y i hx hy hl he
      have h1 : X.length ≤ i := List.drop_eq_nil_iff.1 hx
      have h2 : y = [] := by rw [← hy]; exact List.drop_of_length_le (by omega)
      subst h2
      refine cut _ ⟨fun h => by omega, fun _ => ?_⟩
      rw [he]; rfl
    | cons a x ih =>
      intro y i hx hy hl he
      have hi : i < X.length := by
        rcases Nat.lt_or_ge i X.length with h | h
        · exact h
        · rw [List.drop_of_length_le h] at hx; cases hx
      obtain ⟨b, y', rfl⟩ : ∃ b y', y = b :: y' := by
        cases y with
        | nil => have := List.drop_eq_nil_iff.1 hy; omega
        | cons b y' => exact ⟨b, y', rfl⟩
      rw [List.drop_eq_getElem_cons hi] at hx
      rw [List.drop_eq_getElem_cons (by omega)] at hy
      injection hx with e1 e2
      injection hy with e3 e4
      obtain ⟨g1, g2⟩ := strs_get (L := X) (i := i) hi
      obtain ⟨g3, g4⟩ := strs_get (L := Y) (i := i) (by omega)
      have c1 := cut (i : Int)
      rw [Int.toNat_natCast, g1, g2, g3, g4, wrap1 (by omega), e1, e3] at c1
      have hI : (0 : Int) ≤ (i : Int) ∧ (i : Int) < (X.length : Int) := ⟨by omega, by omega⟩
      have hJ : (0 : Int) ≤ (i : Int) ∧ (i : Int) < (Y.length : Int) := ⟨by omega, by omega⟩
      refine c1 ⟨fun _ => ⟨hI, fun _ => ⟨rfl, fun _ => ⟨hJ, fun _ => ⟨rfl, fun _ => ⟨fun hne => ⟨⟨strs_nn _, strs_nn _⟩, fun _ => ?_⟩, fun heq => ⟨⟨strs_nn _, strs_nn _⟩, fun _ => ?_⟩⟩⟩⟩⟩⟩, fun h => by omega⟩
      · rw [he, beq_cons]
        have : (a == b) = false := by simpa using hne
        rw [this]; rfl
      · exact ih y' (i + 1) e2 e4 hl (by rw [he, beq_cons, heq]; simp)
  refine ⟨fun hne => ?_, fun heq => ?_⟩
  · have : (X == Y) = false := by
      rw [beq_eq_false_iff_ne]; intro e; apply hne; rw [e]
    rw [this]
  · exact loop X Y 0 rfl rfl (by omega) rfl
/-- From any heap in which the lists stand. -/
theorem strs_any (hη : OneCells η) (hmix : Tryz.prog.follows .mixedOrders = true) {h : AH} {a b : Value} {X Y : List (List UInt8)} (hX : X.length ≤ 100000) (ka : IsStrs h a X) (kb : IsStrs h b Y) (hd : ∀ r n c, a = .slice (some ⟨r, 0, none⟩) n c → ∀ n' c', b ≠ .slice (some ⟨r, 0, none⟩) n' c') :
    CallSpec η Tryz.prog B 27 [a, b] h (KT.ret (.bool (X == Y)) h).sat := by
  have gs := TB.gs9
  rcases ka with ⟨rfl, rfl⟩ | ⟨r1, o1, rfl, h1⟩
  · rcases kb with ⟨rfl, rfl⟩ | ⟨r2, o2, rfl, h2⟩
    · refine CallSpec.pure hη gs (fun _ _ => .cons (.slice0 _ _) (.cons (.slice0 _ _) .nil)) (fun _ _ => .bool _) ?_ h
      refine CStr0.enter hη hmix (reg0 hη hmix) 0 ?_
      simp only [W.holds]
      exact CStr0.cut0 hη hmix (reg0 hη hmix) 0 (by simp only [W.holds, true_and]; exact ⟨rfl, rfl⟩)
    · refine CallSpec.pureR (l := [(9, strs Y)]) (rn := fun _ => r2) (args := [.slice none 0 0, .slice (some ⟨126, 0, none⟩) Y.length (capU 1)]) hη gs ⟨fun i x hi => ?_, fun i j hi hj _ => ?_⟩ (.cons (.slice0 _ _) (.cons ?_ .nil)) (fun _ _ => .bool _) ?_
      · match i with
        | 0 => simp at hi; subst hi; exact ⟨strs_all _, o2, h2⟩
        | i + 1 => simp at hi
      · simp only [List.length_singleton] at hi hj; omega
      · exact .slice (σ := sigR fun _ => r2) _ _ (by simp)
      · refine CStrL.enter hη hmix (reg0 hη hmix) Y ?_
        simp only [W.holds, true_and, bne_iff_ne, bne_eq_false_iff_eq]
        refine ⟨fun hne => ⟨?_, rfl⟩, fun heq => ?_⟩
        · cases Y with
          | nil => simp at hne
          | cons y Y => rfl
        · have hY : Y = [] := List.length_eq_zero_iff.1 (by omega)
          subst hY
          exact CStrL.cut0 hη hmix (reg0 hη hmix) [] (by simp only [W.holds, true_and]; exact ⟨rfl, rfl⟩)
  · rcases kb with ⟨rfl, rfl⟩ | ⟨r2, o2, rfl, h2⟩
    · cases X with
      | nil =>
        -- an empty row
        refine CallSpec.pureR (l := [(9, strs [])]) (rn := fun _ => r1) (args := [.slice (some ⟨126, 0, none⟩) 0 (capU 1), .slice none 0 0]) hη gs ⟨fun i x hi => ?_, fun i j hi hj _ => ?_⟩ (.cons ?_ (.cons (.slice0 _ _) .nil)) (fun _ _ => .bool _) ?_
        · match i with
          | 0 => simp at hi; subst hi; exact ⟨strs_all _, o1, h1⟩
          | i + 1 => simp at hi
        · simp only [List.length_singleton] at hi hj; omega
        · exact .slice (σ := sigR fun _ => r1) _ _ (by simp)
        · have := CStrE.enter hη hmix (reg0 hη hmix) (B := B) (strs []) (D := fun v1 h1 => v1 = .bool (([] : List (List UInt8)) == []) ∧ h1 = heapT [(9, strs [])]) (by
            simp only [W.holds]
            exact CStrE.cut0 hη hmix (reg0 hη hmix) _ (by simp only [W.holds, true_and]; exact ⟨rfl, rfl⟩))
          exact this
      | cons x X =>
        refine CallSpec.pureR (l := [(9, strs (x :: X))]) (rn := fun _ => r1) (args := [.slice (some ⟨126, 0, none⟩) (X.length + 1) (capU 1), .slice none 0 0]) hη gs ⟨fun i x hi => ?_, fun i j hi hj _ => ?_⟩ (.cons ?_ (.cons (.slice0 _ _) .nil)) (fun _ _ => .bool _) ?_
        · match i with
          | 0 => simp at hi; subst hi; exact ⟨strs_all _, o1, h1⟩
          | i + 1 => simp at hi
        · simp only [List.length_singleton] at hi hj; omega
        · exact .slice (σ := sigR fun _ => r1) _ _ (by simp)
        · refine CStrR.enter hη hmix (reg0 hη hmix) _ X.length ?_
          simp only [W.holds, true_and]
          exact ⟨rfl, rfl⟩
    · have hne : r1 ≠ r2 := fun e => hd r1 _ _ rfl _ _ (by rw [e])
      refine CallSpec.pureR (l := [(9, strs X), (9, strs Y)]) (rn := fun i => if i = 0 then r1 else r2) (args := [.slice (some ⟨126, 0, none⟩) X.length (capU 1), .slice (some ⟨127, 0, none⟩) Y.length (capU 1)]) hη gs ⟨fun i x hi => ?_, fun i j hi hj hij => ?_⟩ (.cons ?_ (.cons ?_ .nil)) (fun _ _ => .bool _) (strs_ok hη hmix X Y hX)
      · match i with
        | 0 => simp at hi; subst hi; exact ⟨strs_all _, o1, h1⟩
        | 1 => simp at hi; subst hi; exact ⟨strs_all _, o2, h2⟩
        | i + 2 => simp at hi
      · simp only [List.length_cons, List.length_nil] at hi hj
        simp only at hij
        by_cases h0 : i = 0 <;> by_cases h0' : j = 0
        · omega
        · rw [if_pos h0, if_neg h0'] at hij; exact absurd hij hne
        · rw [if_neg h0, if_pos h0'] at hij; exact absurd hij.symm hne
        · omega
      · exact .slice (σ := sigR fun i => if i = 0 then r1 else r2) _ _ (by simp)
      · exact .slice (σ := sigR fun i => if i = 0 then r1 else r2) _ _ (by simp)
end TE
end Go.Ev

namespace Go.Ev.TE
open Go.Ev.TB
/-- Bytes that are read as a whole, up to a comma that may follow. -/
def Chunk (x : List UInt8) : Prop := elN x.length x = some x.length
theorem elN_cons (m : Nat) (c : UInt8) (r : List UInt8) : elN (m + 1) (c :: r) = if plB c = false then none else if c.toNat = 44 then some 0 else if c.toNat = 34 then (match scan r with
      | none => none
      | some (n, _) => (elN m (r.drop n)).map (· + (n + 1))) else (elN m r).map (· + 1) := by
  rw [elN]; rfl
/-- A scan sees no further than its end. -/
theorem scan_app : ∀ (m : Nat) (r z : List UInt8), r.length ≤ m → ∀ n t, scan r = some (n, t) → scan (r ++ z) = some (n, t) := by
  intro m
  induction m with
  | zero =>
    intro r z hm n t h
    have : r = [] := List.length_eq_zero_iff.1 (by omega)
    subst this; simp [scan] at h
  | succ m ih =>
    intro r z hm n t h
    match r, hm, h with
    | [], hm, h => simp [scan] at h
    | c :: r, hm, h =>
      simp only [List.length_cons] at hm
      cases hp : plB c with
      | false => rw [scan_bad r hp] at h; cases h
      | true =>
        by_cases h3 : c.toNat = 34
        · rw [scan_end r h3] at h; rw [List.cons_append, scan_end _ h3]; exact h
        by_cases h4 : c.toNat = 92
        · match r, hm, h with
          | [], hm, h => rw [scan_pair0 h4] at h; cases h
          | e :: r, hm, h =>
            simp only [List.length_cons] at hm
            cases hq : plB e with
            | false => rw [scan_pair1 r h4 hq] at h; cases h
            | true =>
              rw [scan_pair r h4 hq, Option.map_eq_some_iff] at h
              obtain ⟨⟨n', t'⟩, h5, h6⟩ := h
              rw [List.cons_append, List.cons_append, scan_pair _ h4 hq, ih r z (by omega) n' t' h5]
              exact congrArg some h6
        · rw [scan_one r hp h3 h4, Option.map_eq_some_iff] at h
          obtain ⟨⟨n', t'⟩, h5, h6⟩ := h
          rw [List.cons_append, scan_one _ hp h3 h4, ih r z (by omega) n' t' h5]
          exact congrArg some h6
/-- Behind a whole piece the count goes on. -/
theorem elN_app : ∀ (m : Nat) (x z : List UInt8), x.length ≤ m → elN m x = some x.length → elN (m + z.length) (x ++ z) = (elN z.length z).map (· + x.length) := by
  intro m
  induction m with
  | zero =>
    intro x z hm h
    have : x = [] := List.length_eq_zero_iff.1 (by omega)
    subst this
    rw [Nat.zero_add, List.nil_append]
    cases elN z.length z <;> simp
  | succ m ih =>
    intro x z hm h
    match x, hm, h with
    | [], hm, h =>
      rw [List.nil_append, elN_fuel _ z.length z (by omega) (Nat.le_refl _)]
      cases elN z.length z <;> simp
    | c :: r, hm, h =>
      simp only [List.length_cons] at hm h
      rw [elN_cons] at h
      rw [show m + 1 + z.length = (m + z.length) + 1 by omega, List.cons_append, elN_cons]
      by_cases hp : plB c = false
      · rw [if_pos hp] at h; cases h
      rw [if_neg hp] at h ⊢
      by_cases h44 : c.toNat = 44
      · rw [if_pos h44] at h; injection h with h; omega
      rw [if_neg h44] at h ⊢
      by_cases h34 : c.toNat = 34
      · rw [if_pos h34] at h ⊢
        cases hs : scan r with
        | none => rw [hs] at h; cases h
        | some x =>
          obtain ⟨n, t⟩ := x
          have hn := (scan_le _ _ (Nat.le_refl _) n t hs).1
          rw [hs] at h
          rw [scan_app _ r z (Nat.le_refl _) n t hs]
          simp only [Option.map_eq_some_iff] at h ⊢
          obtain ⟨k, h1, h2⟩ := h
          have hk : elN m (r.drop n) = some (r.drop n).length := by rw [h1, List.length_drop]; congr 1; omega
          have := ih (r.drop n) z (by rw [List.length_drop]; omega) hk
          rw [List.drop_append_of_le_length hn, this]
          rw [List.length_drop, List.length_cons]
          cases elN z.length z with
          | none => rfl
          | some q => simp only [Option.map_some]; congr 1; omega
      · rw [if_neg h34] at h ⊢
        rw [Option.map_eq_some_iff] at h
        obtain ⟨k, h1, h2⟩ := h
        have hk : elN m r = some r.length := by rw [h1]; congr 1; omega
        rw [ih r z (by omega) hk, List.length_cons]
        cases elN z.length z with
        | none => rfl
        | some q => simp only [Option.map_some]; exact congrArg some (by omega)
theorem chunk_app {x z : List UInt8} (h : Chunk x) : elN (x ++ z).length (x ++ z) = (elN z.length z).map (· + x.length) := by
  rw [List.length_append]
  exact elN_app x.length x z (Nat.le_refl _) h
theorem chunk_both {x y : List UInt8} (h : Chunk x) (k : Chunk y) : Chunk (x ++ y) := by
  unfold Chunk
  rw [chunk_app h, k, List.length_append]
  simp only [Option.map_some]; congr 1 <;> omega
def els' (s : List UInt8) : Option (List (List UInt8)) := els s.length s
theorem els_any {m : Nat} {s : List UInt8} (h : s.length ≤ m) : els m s = els' s := by
  unfold els'
  rw [els_pt m s h, els_pt _ s (Nat.le_refl _)]
/-- A piece and the comma behind it. -/
theorem els_piece {x : List UInt8} (h : Chunk x) (z : List UInt8) : els' (x ++ 44 :: z) = (els' z).map fun l => if trimB x = [] then l else trimB x :: l := by
  have h44 : elN (44 :: z : List UInt8).length (44 :: z) = some 0 := by
    rw [List.length_cons, elN_cons]; rfl
  have he := chunk_app (z := 44 :: z) h
  rw [h44] at he
  simp only [Option.map_some, Nat.zero_add] at he
  unfold els'
  cases hx : x ++ 44 :: z with
  | nil => cases x <;> cases hx
  | cons c r =>
    rw [hx] at he
    have hl : (c :: r).length = r.length + 1 := rfl
    rw [hl, els_cons, he]
    simp only
    rw [← hx, List.drop_append, List.drop_of_length_le (show x.length ≤ x.length + 1 by omega), show x.length + 1 - x.length = 1 by omega, List.nil_append, List.take_left]
    rw [els_any (show (List.drop 1 (44 :: z)).length ≤ r.length by
      have := congrArg List.length hx
      simp at this ⊢; omega)]
    rfl
/-- A piece at the end. -/
theorem els_last {x : List UInt8} (h : Chunk x) : els' x = some (if trimB x = [] then [] else [trimB x]) := by
  unfold els'
  cases x with
  | nil => rfl
  | cons c r =>
    have hl : (c :: r).length = r.length + 1 := rfl
    unfold Chunk at h
    rw [hl] at h
    rw [hl, els_cons]
    rw [hl, h]
    simp only
    rw [List.drop_of_length_le (by simp), List.take_of_length_le (by simp)]
    have : els r.length [] = some [] := by cases r.length <;> rfl
    rw [this]; rfl
def Blanks (w : List UInt8) : Prop := ∀ c ∈ w, c = 9 ∨ c = 32
theorem blanks_chunk : ∀ {w : List UInt8}, Blanks w → Chunk w
  | [], _ => rfl
  | c :: w, h => by
    have ih := blanks_chunk (w := w) fun x hx => h x (by simp [hx])
    have h1 : Chunk [c] := by rcases h c (by simp) with rfl | rfl <;> (unfold Chunk; decide)
    exact chunk_both h1 ih
theorem blanks_bl {w : List UInt8} (h : Blanks w) : ∀ c ∈ w, bl c = true := by
  intro c hc; rcases h c hc with rfl | rfl <;> decide
theorem tl_app {w : List UInt8} (h : Blanks w) (x : List UInt8) : tl (w ++ x) = tl x := by
  induction w with
  | nil => rfl
  | cons c w ih =>
    rw [List.cons_append, tl_cons, if_pos (blanks_bl h c (by simp))]
    exact ih fun y hy => h y (by simp [hy])
theorem tr_app {w : List UInt8} (h : Blanks w) (x : List UInt8) : tr (x ++ w) = tr x := by
  unfold tr
  rw [List.reverse_append]
  have : ∀ l : List UInt8, (∀ c ∈ l, bl c = true) → (l ++ x.reverse).dropWhile bl = x.reverse.dropWhile bl := by
    intro l
    induction l with
    | nil => intro _; rfl
    | cons c l ih => intro hl; rw [List.cons_append, List.dropWhile_cons, if_pos (hl c (by simp))]; exact ih fun y hy => hl y (by simp [hy])
  rw [this w.reverse fun c hc => blanks_bl h c (List.mem_reverse.1 hc)]
theorem trim_around {w x w' : List UInt8} (h : Blanks w) (h' : Blanks w') : trimB (w ++ x ++ w') = trimB x := by
  rw [trimB_eq, tr_app h', tl_tr, tl_app h, ← tl_tr, ← trimB_eq]
theorem trim_blanks {w : List UInt8} (h : Blanks w) : trimB w = [] := by
  have := trim_around (x := []) h (w' := []) (fun c hc => by cases hc)
  rw [List.append_nil, List.append_nil, trim_nil] at this
  exact this
/-- What is between two elements ends the one before it, and leaves blanks. -/
theorem els_sep (n : Nat) {w x : List UInt8} (hw : Blanks w) (hx : Chunk x) (z : List UInt8) : ∃ w', Blanks w' ∧ els' (w ++ x ++ sep n ++ z) = (els' (w' ++ z)).map fun l => if trimB x = [] then l else trimB x :: l := by
  have b0 : Blanks [] := fun c hc => by cases hc
  have b9 : Blanks [9] := fun c hc => by simp at hc; exact .inl hc
  have b32 : Blanks [32] := fun c hc => by simp at hc; exact .inr hc
  have bb : Blanks [32, 32] := fun c hc => by simp at hc; exact .inr hc
  have one : ∀ (a z : List UInt8), Blanks a → els' (w ++ x ++ a ++ 44 :: z) = (els' z).map fun l => if trimB x = [] then l else trimB x :: l := by
    intro a z ha
    rw [els_piece (chunk_both (chunk_both (blanks_chunk hw) hx) (blanks_chunk ha)), trim_around hw ha]
  have two : ∀ (a z : List UInt8), Blanks a → els' (a ++ 44 :: z) = els' z := by
    intro a z ha
    rw [els_piece (blanks_chunk ha), trim_blanks ha]
    cases els' z <;> rfl
  unfold sep
  split
  · exact ⟨[], b0, by simpa using one [] z b0⟩
  · exact ⟨[32], b32, by simpa using one [] (32 :: z) b0⟩
  · exact ⟨[], b0, by simpa using one [32] z b32⟩
  · exact ⟨[9], b9, by simpa using one [9] (9 :: z) b9⟩
  · exact ⟨[], b0, by have := one [] (44 :: z) b0; rw [show (44 :: z : List UInt8) = [] ++ 44 :: z from rfl, two [] z b0] at this; simpa using this⟩
  · exact ⟨[32], b32, by have := one [32] (32 :: 44 :: (32 :: z)) b32; rw [show (32 :: 44 :: (32 :: z) : List UInt8) = [32] ++ 44 :: (32 :: z) from rfl, two [32] _ b32] at this; simpa using this⟩
  · exact ⟨[], b0, by have := one [] (9 :: 44 :: z) b0; rw [show (9 :: 44 :: z : List UInt8) = [9] ++ 44 :: z from rfl, two [9] z b9] at this; simpa using this⟩
  · exact ⟨[32, 32], bb, by simpa using one [] (32 :: 32 :: z) b0⟩
/-- Elements that are joined. -/
def join : List (List UInt8 × Nat) → List UInt8
  | [] => []
  | p :: l => p.1 ++ sep p.2 ++ join l
theorem els_join : ∀ (l : List (List UInt8 × Nat)) (w : List UInt8), Blanks w → (∀ p ∈ l, Chunk p.1 ∧ trimB p.1 = p.1 ∧ p.1 ≠ []) → els' (w ++ join l) = some (l.map (·.1))
  | [], w, hw, _ => by
    rw [join, List.append_nil, els_last (blanks_chunk hw), trim_blanks hw]; rfl
  | p :: l, w, hw, h => by
    obtain ⟨h1, h2, h3⟩ := h p (by simp)
    obtain ⟨w', hw', he⟩ := els_sep p.2 hw h1 (join l)
    rw [join, ← List.append_assoc, ← List.append_assoc, he, els_join l w' hw' fun q hq => h q (by simp [hq]), h2]
    simp [h3]
theorem els_joined (n : Nat) (l : List (List UInt8 × Nat)) (h : ∀ p ∈ l, Chunk p.1 ∧ trimB p.1 = p.1 ∧ p.1 ≠ []) : els' (sep n ++ join l) = some (l.map (·.1)) := by
  obtain ⟨w', hw', he⟩ := els_sep n (w := []) (x := []) (fun c hc => by cases hc) rfl (join l)
  have he' : els' (sep n ++ join l) = (els' (w' ++ join l)).map fun l => if trimB [] = [] then l else trimB [] :: l := by simpa using he
  rw [he', els_join l w' hw' h]
  rfl
end Go.Ev.TE

namespace Go.Ev.TE
open Go.Ev.TB
theorem scan_take : ∀ (m : Nat) (r : List UInt8), r.length ≤ m → ∀ n t, scan r = some (n, t) → (∀ j, n ≤ j → scan (r.take j) = some (n, t)) ∧ r[n - 1]? = some 34 := by
  intro m
  induction m with
  | zero =>
    intro r hm n t h
    have : r = [] := List.length_eq_zero_iff.1 (by omega)
    subst this; simp [scan] at h
  | succ m ih =>
    intro r hm n t h
    match r, hm, h with
    | [], hm, h => simp [scan] at h
    | c :: r, hm, h =>
      simp only [List.length_cons] at hm
      cases hp : plB c with
      | false => rw [scan_bad r hp] at h; cases h
      | true =>
        by_cases h3 : c.toNat = 34
        · rw [scan_end r h3] at h
          injection h with h; injection h with e1 e2; subst e1; subst e2
          refine ⟨fun j hj => ?_, ?_⟩
          · obtain ⟨j, rfl⟩ : ∃ k, j = k + 1 := ⟨j - 1, by omega⟩
            rw [List.take_succ_cons, scan_end _ h3]
          · simp only [Nat.sub_self, List.getElem?_cons_zero]; exact congrArg some (UInt8.toNat_inj.1 h3)
        by_cases h4 : c.toNat = 92
        · match r, hm, h with
          | [], hm, h => rw [scan_pair0 h4] at h; cases h
          | e :: r, hm, h =>
            simp only [List.length_cons] at hm
            cases hq : plB e with
            | false => rw [scan_pair1 r h4 hq] at h; cases h
            | true =>
              rw [scan_pair r h4 hq, Option.map_eq_some_iff] at h
              obtain ⟨⟨n', t'⟩, h5, h6⟩ := h
              injection h6 with e1 e2; subst e1; subst e2
              obtain ⟨i1, i2⟩ := ih r (by omega) n' t' h5
              have h1 := (scan_le _ _ (Nat.le_refl _) n' t' h5).2.1
              refine ⟨fun j hj => ?_, ?_⟩
              · obtain ⟨j, rfl⟩ : ∃ k, j = k + 2 := ⟨j - 2, by simp only at hj; omega⟩
                simp only at hj
                rw [List.take_succ_cons, List.take_succ_cons, scan_pair _ h4 hq, i1 j (by omega)]; rfl
              · simp only
                rw [show n' + 2 - 1 = (n' - 1) + 1 + 1 by omega, List.getElem?_cons_succ, List.getElem?_cons_succ]; exact i2
        · rw [scan_one r hp h3 h4, Option.map_eq_some_iff] at h
          obtain ⟨⟨n', t'⟩, h5, h6⟩ := h
          injection h6 with e1 e2; subst e1; subst e2
          obtain ⟨i1, i2⟩ := ih r (by omega) n' t' h5
          have h1 := (scan_le _ _ (Nat.le_refl _) n' t' h5).2.1
          refine ⟨fun j hj => ?_, ?_⟩
          · obtain ⟨j, rfl⟩ : ∃ k, j = k + 1 := ⟨j - 1, by simp only at hj; omega⟩
            simp only at hj
            rw [List.take_succ_cons, scan_one _ hp h3 h4, i1 j (by omega)]; rfl
          · simp only
            rw [show n' + 1 - 1 = (n' - 1) + 1 by omega, List.getElem?_cons_succ]; exact i2
theorem elN_take : ∀ (m : Nat) (s : List UInt8) (n : Nat), elN m s = some n → ∀ m', n ≤ m' → elN m' (s.take n) = some n := by
  intro m
  induction m with
  | zero =>
    intro s n h m' hm'
    match s, h with
    | [], h => simp only [elN] at h; injection h with h; subst h; simp [elN]
    | c :: r, h => simp [elN] at h
  | succ m ih =>
    intro s n h m' hm'
    match s, h with
    | [], h => simp only [elN] at h; injection h with h; subst h; simp [elN]
    | c :: r, h =>
      rw [elN_cons] at h
      by_cases hp : plB c = false
      · rw [if_pos hp] at h; cases h
      rw [if_neg hp] at h
      by_cases h44 : c.toNat = 44
      · rw [if_pos h44] at h; injection h with h; subst h; simp [elN]
      rw [if_neg h44] at h
      by_cases h34 : c.toNat = 34
      · rw [if_pos h34] at h
        cases hs : scan r with
        | none => rw [hs] at h; cases h
        | some x =>
          obtain ⟨k, t⟩ := x
          rw [hs] at h
          simp only [Option.map_eq_some_iff] at h
          obtain ⟨q, h1, rfl⟩ := h
          obtain ⟨m', rfl⟩ : ∃ k, m' = k + 1 := ⟨m' - 1, by omega⟩
          rw [show q + (k + 1) = (k + q) + 1 by omega, List.take_succ_cons, elN_cons, if_neg hp, if_neg h44, if_pos h34, (scan_take _ r (Nat.le_refl _) k t hs).1 (k + q) (by omega)]
          simp only
          rw [List.drop_take, show k + q - k = q by omega, ih _ q h1 m' (by omega)]
          simp only [Option.map_some]; exact congrArg some (by omega)
      · rw [if_neg h34] at h
        rw [Option.map_eq_some_iff] at h
        obtain ⟨q, h1, rfl⟩ := h
        obtain ⟨m', rfl⟩ : ∃ k, m' = k + 1 := ⟨m' - 1, by omega⟩
        rw [List.take_succ_cons, elN_cons, if_neg hp, if_neg h44, if_neg h34, ih _ q h1 m' (by omega)]; rfl
theorem piece_chunk {s : List UInt8} {n : Nat} (h : elN s.length s = some n) : Chunk (s.take n) := by
  have hn := (elN_le _ _ _ h).1
  have hl : (s.take n).length = n := by rw [List.length_take]; omega
  unfold Chunk
  rw [hl]
  exact elN_take _ s n h n (Nat.le_refl _)
theorem chunk_tail {b : UInt8} {r : List UInt8} (hb : bl b = true) (h : Chunk (b :: r)) : Chunk r := by
  unfold Chunk at h
  rw [bl_iff] at hb
  simp only [Bool.or_eq_true, beq_iff_eq] at hb
  have hp : ¬ plB b = false := by unfold plB; rw [decide_eq_true (by omega)]; simp
  rw [List.length_cons, elN_cons, if_neg hp, if_neg (by omega), if_neg (by omega), Option.map_eq_some_iff] at h
  obtain ⟨k, h1, h2⟩ := h
  unfold Chunk
  rw [h1]; exact congrArg some (by omega)
theorem chunk_init {b : UInt8} (hb : bl b = true) : ∀ (m : Nat) (x : List UInt8), x.length + 1 ≤ m → elN m (x ++ [b]) = some (x.length + 1) → Chunk x := by
  have hb' : b.toNat = 9 ∨ b.toNat = 32 := by
    rw [bl_iff] at hb; simpa using hb
  intro m
  induction m with
  | zero => intro x h; omega
  | succ m ih =>
    intro x hm h
    match x, hm, h with
    | [], hm, h => rfl
    | c :: r, hm, h =>
      simp only [List.length_cons] at hm h
      rw [List.cons_append, elN_cons] at h
      unfold Chunk
      rw [List.length_cons, elN_cons]
      by_cases hp : plB c = false
      · rw [if_pos hp] at h; cases h
      rw [if_neg hp] at h ⊢
      by_cases h44 : c.toNat = 44
      · rw [if_pos h44] at h; injection h with h; omega
      rw [if_neg h44] at h ⊢
      by_cases h34 : c.toNat = 34
      · rw [if_pos h34] at h ⊢
        cases hs : scan (r ++ [b]) with
        | none => rw [hs] at h; cases h
        | some y =>
          obtain ⟨k, t⟩ := y
          rw [hs] at h
          simp only [Option.map_eq_some_iff] at h
          obtain ⟨q, h1, h2⟩ := h
          have hle := (scan_le _ _ (Nat.le_refl _) k t hs).1
          obtain ⟨i1, i2⟩ := scan_take _ _ (Nat.le_refl _) k t hs
          rw [List.length_append, List.length_cons, List.length_nil] at hle
          have hk : k ≤ r.length := by
            rcases Nat.lt_or_ge r.length k with hlt | hge
            · have e : k - 1 = r.length := by omega
              rw [e, List.getElem?_append_right (Nat.le_refl _), Nat.sub_self] at i2
              simp only [List.getElem?_cons_zero] at i2
              injection i2 with i2
              rw [i2] at hb'
              rcases hb' with h | h <;> exact absurd h (by decide)
            · exact hge
          have hsr : scan r = some (k, t) := by
            have := i1 r.length hk
            rw [List.take_left] at this
            exact this
          rw [hsr]
          rw [List.drop_append_of_le_length hk] at h1
          have hq : q = (r.drop k).length + 1 := by rw [List.length_drop]; omega
          rw [hq] at h1
          have hc := ih (r.drop k) (by rw [List.length_drop]; omega) h1
          unfold Chunk at hc
          simp only
          rw [elN_fuel r.length (r.drop k).length (r.drop k) (by rw [List.length_drop]; omega) (Nat.le_refl _), hc, List.length_drop]
          simp only [Option.map_some]; exact congrArg some (by omega)
      · rw [if_neg h34] at h ⊢
        rw [Option.map_eq_some_iff] at h
        obtain ⟨q, h1, h2⟩ := h
        have hq : q = r.length + 1 := by omega
        rw [hq] at h1
        have hc := ih r (by omega) h1
        unfold Chunk at hc
        rw [hc]; rfl
theorem chunk_tl : ∀ {x : List UInt8}, Chunk x → Chunk (tl x)
  | [], h => h
  | c :: r, h => by
    rw [tl_cons]
    split
    · rename_i hb; exact chunk_tl (chunk_tail hb h)
    · exact h
theorem chunk_tr : ∀ (m : Nat) (x : List UInt8), x.length ≤ m → Chunk x → Chunk (tr x) := by
  intro m
  induction m with
  | zero =>
    intro x hm h
    have : x = [] := List.length_eq_zero_iff.1 (by omega)
    subst this; exact h
  | succ m ih =>
    intro x hm h
    rcases List.eq_nil_or_concat x with rfl | ⟨y, c, rfl⟩
    · exact h
    · rw [List.concat_eq_append] at hm h ⊢
      rw [tr_snoc]
      split
      · rename_i hb
        rw [List.length_append, List.length_cons, List.length_nil] at hm
        refine ih y (by omega) (chunk_init hb (y.length + 1) y (Nat.le_refl _) ?_)
        unfold Chunk at h
        rw [List.length_append, List.length_cons, List.length_nil] at h
        exact h
      · exact h
theorem chunk_trim {x : List UInt8} (h : Chunk x) : Chunk (trimB x) := by
  rw [trimB_eq]; exact chunk_tl (chunk_tr _ x (Nat.le_refl _) h)
theorem dw_idem (l : List UInt8) : (l.dropWhile bl).dropWhile bl = l.dropWhile bl := by
  induction l with
  | nil => rfl
  | cons c l ih =>
    rw [List.dropWhile_cons]
    split
    · exact ih
    · rename_i h; rw [List.dropWhile_cons, if_neg h]
theorem trim_idem (x : List UInt8) : trimB (trimB x) = trimB x := by
  have h1 : ∀ l, tl (tl l) = tl l := dw_idem
  have h2 : ∀ l, tr (tr l) = tr l := by
    intro l; unfold tr; rw [List.reverse_reverse, dw_idem]
  rw [trimB_eq, trimB_eq, ← tl_tr, h1, h2]
/-- Every element of a value. -/
theorem els_good : ∀ (m : Nat) (s : List UInt8) (L : List (List UInt8)), els m s = some L → ∀ x ∈ L, Chunk x ∧ trimB x = x ∧ x ≠ [] := by
  intro m
  induction m with
  | zero =>
    intro s L h x hx
    match s, h with
    | [], h => simp only [els] at h; injection h with h; subst h; cases hx
    | c :: r, h => simp [els] at h
  | succ m ih =>
    intro s L h x hx
    match s, h with
    | [], h => simp only [els] at h; injection h with h; subst h; cases hx
    | c :: r, h =>
      rw [els_cons] at h
      split at h
      · cases h
      · rename_i n hn
        rw [Option.map_eq_some_iff] at h
        obtain ⟨L', h1, rfl⟩ := h
        split at hx
        · exact ih _ _ h1 x hx
        · rename_i ht
          rcases List.mem_cons.1 hx with rfl | hx
          · exact ⟨chunk_trim (piece_chunk hn), trim_idem _, ht⟩
          · exact ih _ _ h1 x hx
/-- How much the elements of a value are together. -/
theorem els_size : ∀ (m : Nat) (s : List UInt8) (L : List (List UInt8)), els m s = some L → (L.map (·.length)).sum + L.length ≤ s.length + 1 := by
  intro m
  induction m with
  | zero =>
    intro s L h
    match s, h with
    | [], h => simp only [els] at h; injection h with h; subst h; simp
    | c :: r, h => simp [els] at h
  | succ m ih =>
    intro s L h
    match s, h with
    | [], h => simp only [els] at h; injection h with h; subst h; simp
    | c :: r, h =>
      rw [els_cons] at h
      split at h
      · cases h
      · rename_i n hn
        rw [Option.map_eq_some_iff] at h
        obtain ⟨L', h1, rfl⟩ := h
        have hle := (elN_le _ _ _ hn).1
        have hi := ih _ _ h1
        rw [List.length_drop] at hi
        have ht : (trimB ((c :: r).take n)).length ≤ n := by
          have h2 : (trimB ((c :: r).take n)).length ≤ ((c :: r).take n).length := by
            rw [trimB_eq]; unfold tl tr
            refine Nat.le_trans (List.dropWhile_sublist _).length_le ?_
            rw [List.length_reverse]
            exact Nat.le_trans (List.dropWhile_sublist _).length_le (by rw [List.length_reverse]; exact Nat.le_refl _)
          rw [List.length_take] at h2
          omega
        rcases Nat.lt_or_ge n (c :: r).length with hlt | hge
        · split
          · omega
          · simp only [List.map_cons, List.sum_cons, List.length_cons] at hi hle hlt ht ⊢
            omega
        · have hd : (c :: r).drop (n + 1) = [] := List.drop_of_length_le (by omega)
          rw [hd] at h1
          have hL : L' = [] := by
            cases m <;> simp only [els] at h1 <;> injection h1 with h1 <;> exact h1.symm
          subst hL
          split
          · simp
          · simp only [List.map_cons, List.map_nil, List.sum_cons, List.sum_nil, List.length_cons, List.length_nil] at hle ht ⊢
            omega
end Go.Ev.TE

namespace Go.Ev
set_option linter.unusedVariables false
set_option linter.unusedSimpArgs false
open Go Go.Proofs
variable {η : Nat → Value} {B : Nat}
namespace TE
open TB
theorem strs_K (hη : OneCells η) (hmix : Tryz.prog.follows .mixedOrders = true) {h : AH} {a b : Value} {X Y : List (List UInt8)} (hX : X.length ≤ 100000) (ka : IsStrs h a X) (kb : IsStrs h b Y) (hd : ∀ r n c, a = .slice (some ⟨r, 0, none⟩) n c → ∀ n' c', b ≠ .slice (some ⟨r, 0, none⟩) n' c') :
    CallSpec η Tryz.prog B 27 [a, b] h (strsK [a, b] h).sat := by
  have := strs_any (B := B) hη hmix hX ka kb hd
  show CallSpec η Tryz.prog B 27 [a, b] h (KT.ret (.bool (listAt h a == listAt h b)) h).sat
  rw [ka.at_, kb.at_]; exact this
theorem intAt_bytes (b : List UInt8) {k : Nat} (hk : k < b.length) : (bytesV b)[k]? = some (.int .u8 (b[k].toNat : Int)) ∧ intAt (bytesV b) k = (b[k].toNat : Int) := by
  have h : (bytesV b)[k]? = some (.int .u8 (b[k].toNat : Int)) := by rw [bytesV_get, List.getElem?_eq_getElem hk]; rfl
  exact ⟨h, by unfold intAt; rw [h]⟩
/-- The elements, each with what is behind it. -/
def prs (b : List UInt8) : Nat → List (List UInt8) → List (List UInt8 × Nat)
  | _, [] => []
  | i, x :: r => (x, ((b[i % b.length]?).getD 0).toNat) :: prs b (i + 1) r
theorem prs_fst (b : List UInt8) : ∀ (i : Nat) (l : List (List UInt8)), (prs b i l).map (·.1) = l
  | _, [] => rfl
  | i, x :: r => by rw [prs, List.map_cons, prs_fst b (i + 1) r]
theorem prs_mem {b : List UInt8} : ∀ {i : Nat} {l : List (List UInt8)} {p : List UInt8 × Nat}, p ∈ prs b i l → p.1 ∈ l
  | _, [], p, h => by simp [prs] at h
  | i, x :: r, p, h => by
    rw [prs] at h
    rcases List.mem_cons.1 h with rfl | h
    · simp
    · exact List.mem_cons_of_mem _ (prs_mem h)
theorem sep_len (n : Nat) : (sep n).length ≤ 5 := by
  unfold sep; split <;> simp
theorem join_len (b : List UInt8) : ∀ (i : Nat) (l : List (List UInt8)), (join (prs b i l)).length ≤ (l.map (·.length)).sum + 5 * l.length
  | _, [] => by simp [prs, join]
  | i, x :: r => by
    rw [prs, join]
    have := join_len b (i + 1) r
    have h5 := sep_len (((b[i % b.length]?).getD 0).toNat)
    simp only [List.length_append, List.map_cons, List.sum_cons, List.length_cons]
    omega
theorem sum_pos : ∀ {l : List (List UInt8)}, (∀ x ∈ l, x ≠ []) → l.length ≤ (l.map (·.length)).sum
  | [], _ => by simp
  | x :: r, h => by
    have := sum_pos (l := r) fun y hy => h y (by simp [hy])
    have hx : 0 < x.length := List.length_pos_iff.2 (h x (by simp))
    simp only [List.length_cons, List.map_cons, List.sum_cons]
    omega
theorem wrapL {z : Int} (h0 : 0 ≤ z) (h : z ≤ 1000000000) : IntKind.i64.wrap z = z := by
  have : ∃ n : Nat, z = n := ⟨z.toNat, by omega⟩
  obtain ⟨n, rfl⟩ := this
  cases n with
  | zero => rfl
  | succ n => exact wrap1 (i := n) (by omega)
theorem joined_ok (hη : OneCells η) (hmix : Tryz.prog.follows .mixedOrders = true) (haw : ∀ h, CallSpec η Tryz.prog B 15 [] h fun v h' => v = .bool true ∧ h' = h) (v b : List UInt8) (ty cap : Nat) :
    CallSpec η Tryz.prog B 5 [.string ⟨⟨v⟩⟩, .slice (some ⟨126, 0, none⟩) b.length cap] (heapT [(ty, bytesV b)]) (fun v _ => v = .bool true) := by
  have e0 : JLaw.H0 v ty (bytesV b) b.length cap = heapT [(ty, bytesV b)] := rfl
  rw [← e0]
  have nb : NoNames (bytesV b) := bytesV_plain b
  have cut0 := JLaw.cut0 (η := η) (B := B) (D := fun v _ => v = .bool true) hη hmix (reg0 hη hmix) v ty (bytesV b) b.length cap
  have cut1 := fun y0 i0 i1 => JLaw.cut1 (η := η) (B := B) (D := fun v _ => v = .bool true) hη hmix (reg0 hη hmix) v ty (bytesV b) b.length cap y0 i0 i1
  refine JLaw.enter hη hmix (reg0 hη hmix) _ _ _ _ _ ?_
  simp only [W.holds, true_and, and_true, toL0, decide_eq_true_eq, decide_eq_false_iff_not, bne_iff_ne, bne_eq_false_iff_eq, Bool.not_eq_true', Bool.not_eq_false', beq_iff_eq, beq_eq_false_iff_ne, Nat.zero_add, Nat.mul_one, true_implies, ne_eq, not_true_eq_false, false_implies, implies_true, Bool.false_eq_true, Bool.true_eq_false] at cut0 cut1 ⊢
  have hz : ∀ s, elE s ≠ 0 → elL s = [] := fun s h => by unfold elL; rw [if_neg h]
  refine ⟨fun _ => haw _, fun h600 => ⟨fun _ => haw _, fun hn => ⟨(el_ok hη hmix v _).conv (by kernel_rfl), fun hE => ⟨fun _ => haw _, fun h0 => ?_⟩, fun hE => ?_⟩⟩⟩
  · -- no elements
    have hb : 0 < b.length := by omega
    obtain ⟨g1, g2⟩ := intAt_bytes b (k := 0) hb
    obtain ⟨j1, j2⟩ := (elL_els (s := sep (b[0].toNat)) (by have := sep_len (b[0].toNat); omega)).2 [] (by
      have := els_joined (b[0].toNat) [] (fun p hp => by cases hp)
      rw [show join [] = [] from rfl, List.append_nil] at this
      exact this)
    rw [g2, g1] at cut0
    simp only [Int.toNat_natCast, List.append_nil, true_and, true_implies] at cut0
    refine cut0 ⟨⟨by omega, by omega⟩, fun _ => ⟨btw_ok hη hmix _ _, ⟨by have := sep_len (b[0].toNat); omega, fun _ => ⟨(el_ok hη hmix _ _).conv (by kernel_rfl), fun h1 => ⟨fun _ => ⟨?_, haw _⟩, fun h => absurd j1 h⟩, fun h1 => ?_⟩⟩⟩⟩
    · exact (strs_K hη hmix (by simp) (.inl ⟨rfl, rfl⟩) (.inl ⟨rfl, rfl⟩) (fun r n c h => by cases h)).conv rfl
    · unfold elEmp at h1; rw [j2] at h1; simp at h1
  · have hE' : elL v ≠ [] := by unfold elEmp at hE; simpa using hE
    refine ⟨fun h => absurd (hz v h) hE', fun he => ?_⟩
    have hels : els v.length v = some (elL v) := by
      cases hq : els v.length v with
      | none => have := ((elL_els (s := v) (by omega)).1 hq).2; exact absurd this hE'
      | some L => rw [((elL_els (s := v) (by omega)).2 L hq).2]
    have hgood := els_good _ _ _ hels
    have hsize := els_size _ _ _ hels
    have hpos := sum_pos fun x hx => (hgood x hx).2.2
    refine ⟨fun h => by omega, fun _ => ?_⟩
    have hb : 0 < b.length := by omega
    have hjl := join_len b 0 (elL v)
    obtain ⟨q1, q2⟩ := intAt_bytes b (k := 0) hb
    have hT : (join (prs b 0 (elL v))).length ≤ 1806 := by omega
    obtain ⟨j1, j2⟩ := (elL_els (s := sep (b[0].toNat) ++ join (prs b 0 (elL v))) (by have := sep_len (b[0].toNat); rw [List.length_append]; omega)).2 (elL v) (by
      have := els_joined (b[0].toNat) (prs b 0 (elL v)) (fun p hp => hgood _ (prs_mem hp))
      rw [prs_fst] at this
      exact this)
    have loop : ∀ (rest : List (List UInt8)) (i : Nat) (t : List UInt8) (m : Nat), (elL v).drop i = rest → t ++ join (prs b i rest) = join (prs b 0 (elL v)) → m + (rest.map (·.length)).sum = ((elL v).map (·.length)).sum →
        RunD η Tryz.prog B 5 (JLaw.H0 v ty (bytesV b) b.length cap) [0, 1, 5, 7, 8, 9] (JLaw.S1 v ty (bytesV b) b.length cap ⟨⟨t⟩⟩ (i : Int) (m : Int) fun _ => undef) (QF Tryz.prog 127 fun v _ => v = .bool true) := by
      intro rest
      induction rest with
      | nil =>
        intro i t m hd ht hm
        have hi : (elL v).length ≤ i := List.drop_eq_nil_iff.1 hd
        rw [show join (prs b i []) = [] from rfl, List.append_nil] at ht
        subst ht
        have c1 := cut1 ⟨⟨join (prs b 0 (elL v))⟩⟩ (i : Int) (m : Int)
        simp only [bdl, q1, q2, Int.toNat_natCast, true_and, true_implies] at c1
        refine c1 ⟨fun h => by omega, fun _ => ⟨fun _ => ⟨haw _, nb⟩, fun _ => ⟨⟨by omega, by omega⟩, fun _ => ⟨btw_ok hη hmix _ _, ⟨by have := sep_len (b[0].toNat); omega, fun _ => ⟨(el_ok hη hmix _ _).conv (by kernel_rfl), fun h1 => ?_, fun h1 => ⟨fun _ => ⟨?_, fun _ => ⟨haw _, nb⟩, fun hne => ?_⟩, fun h => absurd j1 h⟩⟩⟩⟩⟩⟩⟩
        · unfold elEmp at h1; rw [j2] at h1; exact absurd (of_decide_eq_true h1) hE'
        · exact (strs_K hη hmix (X := elL v) (Y := elL (sep (b[0].toNat) ++ join (prs b 0 (elL v)))) (by omega) (.inr ⟨127, 2, rfl, rfl⟩) (.inr ⟨128, 2, rfl, rfl⟩) (fun r n c h n' c' h' => by injection h with h; injection h with h; injection h with h; injection h' with h'; injection h' with h'; injection h' with h'; omega)).conv (by kernel_rfl)
        · exact absurd ((IsStrs.at_ (L := elL v) (.inr ⟨127, 2, rfl, rfl⟩)).trans (j2.symm.trans (IsStrs.at_ (L := elL (sep (b[0].toNat) ++ join (prs b 0 (elL v)))) (.inr ⟨128, 2, rfl, rfl⟩)).symm)) hne
      | cons x rest ih =>
        intro i t m hd ht hm
        have hi : i < (elL v).length := by
          rcases Nat.lt_or_ge i (elL v).length with h | h
          · exact h
          · rw [List.drop_of_length_le h] at hd; cases hd
        rw [List.drop_eq_getElem_cons hi] at hd
        injection hd with e1 e2
        obtain ⟨g1, g2⟩ := strs_get (L := elL v) (i := i) hi
        have hk : i % b.length < b.length := Nat.mod_lt _ hb
        obtain ⟨p1, p2⟩ := intAt_bytes b hk
        have hx := hgood x (by rw [← e1]; exact List.getElem_mem hi)
        have hx0 : 0 < x.length := List.length_pos_iff.2 hx.2.2
        simp only [List.map_cons, List.sum_cons] at hm
        have htm : (((i : Int).tmod (b.length : Int)).toNat) = i % b.length := by
          rw [show (i : Int).tmod (b.length : Int) = ((i % b.length : Nat) : Int) from rfl]; exact Int.toNat_natCast _
        rw [prs, join, List.getElem?_eq_getElem hk] at ht
        simp only [Option.getD_some] at ht
        have htl : t.length + x.length + (sep (b[i % b.length].toNat)).length ≤ 1806 := by
          have := congrArg List.length ht
          simp only [List.length_append] at this
          omega
        have c1 := cut1 ⟨⟨t⟩⟩ (i : Int) (m : Int)
        rw [Int.toNat_natCast, g1, g2, htm, p1, p2, wrap1 (by omega), e1] at c1
        rw [wrapL (z := (m : Int) + (x.length : Int)) (by omega) (by omega)] at c1
        simp only [bdl, Int.toNat_natCast, true_and, true_implies] at c1
        have hI : (0 : Int) ≤ (i : Int) ∧ (i : Int) < ((elL v).length : Int) := ⟨by omega, by omega⟩
        have hM : (0 : Int) ≤ (i : Int).tmod (b.length : Int) ∧ (i : Int).tmod (b.length : Int) < (b.length : Int) := by
          rw [show (i : Int).tmod (b.length : Int) = ((i % b.length : Nat) : Int) from rfl]; omega
        refine c1 ⟨fun _ => ⟨hI, fun _ => ⟨fun h => by omega, fun _ => ⟨hI, fun _ => ⟨fun h => by omega, fun _ => ⟨hI, fun _ => ⟨by omega, fun _ => ⟨by omega, fun _ => ⟨hM, fun _ => ⟨btw_ok hη hmix _ _, ⟨by rw [List.length_append]; omega, fun _ => ⟨⟨nb, strs_nn _⟩, fun _ => ?_⟩⟩⟩⟩⟩⟩⟩⟩⟩⟩⟩, fun h => by omega⟩
        have := ih (i + 1) (t ++ x ++ sep (b[i % b.length].toNat)) (m + x.length) e2 (by rw [← ht]; simp only [List.append_assoc]) (by omega)
        exact this
    exact loop (elL v) 0 [] 0 rfl rfl (by omega)
end TE
end Go.Ev

namespace Go.Ev
set_option linter.unusedVariables false
set_option linter.unusedSimpArgs false
open Go Go.RowKit Go.ChangeShapes Go.WideShapes
variable {P : Program}
/-- A slice of n cells of size s each, at its place; c: what the row holds. -/
def SliceArg (W : World) (v : Value) (n : Nat) (c : List Value) : Prop :=
  (v = .slice none 0 0 ∧ n = 0) ∨ ∃ blk o o' cap ty, v = .slice (some ⟨blk, o, none⟩) n cap ∧ isU cap = false ∧ o' ≤ o ∧ (n ≠ 0 → o' = o) ∧ RowAt W ⟨ty, c, blk, o'⟩
theorem has_lt' {w : World} {r : Reach} {base : Nat} {a : Addr} {e : TypeId} {n : Nat} (h : w.has P r base a e n) : a.spot = none ∧ ∃ (C : Array Value) (ty : TypeId) (lo hi : Nat), w.heap[a.block]? = some (.cells C ty (lo, hi)) := by
  obtain ⟨_, hs, row, cells, hsh, _⟩ := h
  refine ⟨hs, ?_⟩
  unfold World.shape? at hsh
  split at hsh
  · rename_i C ty fr hh
    obtain ⟨lo, hi⟩ := fr
    exact ⟨C, ty, lo, hi, hh⟩
  · cases hsh
theorem has_of_slice' {w : World} {r : Reach} {b0 : Nat} {t e : TypeId} {a : Addr} {n c : Nat} (hu : P.underlying t = some (.slice e)) (h : Value.okWide P w r b0 t (.slice (some a) n c)) : w.has P r b0 a e c := by
  simp only [Value.okWide, hu, Cell.okWide, Cell.ok] at h
  exact h.2.2
theorem cells_slice' (p : Option Addr) (n c : Nat) : (Value.slice p n c).cells.toList = [.slice p n c] := rfl
theorem notU {c : Nat} (h : c ≤ maxLen) : isU c = false := by
  have : maxLen < 9223372036854775808 := by decide
  unfold isU capB
  exact decide_eq_false (by omega)
/-- A row that begins at an element. -/
theorem row_at {W : World} {b o : Nat} {C : Array Value} {ty : TypeId} {lo hi : Nat} {c : List Value} (hb : W.heap[b]? = some (.cells C ty (lo, hi))) (hc : ∀ (i : Nat) (v : Value), c[i]? = some v → W.cell? ⟨b, o + i, none⟩ = some v) (hbare : c.all bareV = true) (hne : c ≠ []) : RowAt W ⟨ty, c, b, o⟩ := by
  have hall : ∀ (i : Nat) (v : Value), c[i]? = some v → C[o + i]? = some v := by
    intro i v hv
    have h := hc i v hv
    unfold World.cell? at h
    simp only [hb, Option.isSome_none, Bool.false_eq_true, if_false] at h
    exact h
  refine ⟨C, lo, hi, hb, ?_, fun i v hv => by simpa using hall i v hv, hbare⟩
  have hl : 0 < c.length := List.length_pos_iff.2 hne
  have := hall (c.length - 1) (c[c.length - 1]'(by omega)) (List.getElem?_eq_getElem (by omega))
  have := (Array.getElem?_eq_some_iff.1 this).1
  show o + c.length ≤ C.size
  omega
theorem open_bytes_arg {t e : TypeId} (hu : P.underlying t = some (.slice e)) (he : P.underlying e = some (.int .u8)) (hC : P.cellsOf e = 1)
    {H : Type} {enc : TypeId × Value → H} {W : World} {r : Reach} {b0 base : Nat} {sp : Nat → Bool} {held : Bool} {v : Value} {d : DataW H} {ps : List MemPlace}
    (hval : Value.okWide P W r b0 t v) (h : DataW.Trod enc P W base sp held t v d ps) : ∃ b : List UInt8, SliceArg W v b.length (bytesV b) := by
  obtain ⟨p, n, c, rfl⟩ := okWide_slice hu hval
  obtain ⟨fuel, hf⟩ := h
  rw [cells_slice'] at hf
  rcases Go.Deep.open_slice1 hu hC hf with ⟨hn, _⟩ | ⟨a, len, cap, m, k, V, D, Pl, hcs, hb, hl, hm, hmm, hx, hi⟩
  · simp at hn
    obtain ⟨rfl, rfl, rfl⟩ := hn
    exact ⟨[], .inl ⟨rfl, rfl⟩⟩
  · simp at hcs
    obtain ⟨rfl, rfl, rfl⟩ := hcs
    obtain ⟨hsp, C, ty, lo, hi', hblk⟩ := has_lt' (has_of_slice' hu hval)
    obtain ⟨b, o, spot⟩ := a
    simp only at hsp hblk
    subst hsp
    have hlm : n ≤ m := by rw [hmm]; split <;> omega
    have hel : ∀ i, i < n → ∃ x : UInt8, W.cell? ⟨b, o + i, none⟩ = some (.int .u8 (x.toNat : Int)) := by
      intro i hin
      obtain ⟨h1, h2⟩ := hi i (by omega)
      obtain ⟨z, hz, _, hw⟩ := DataW.trod_int he h2
      injection hz with hz _
      have hr : 0 ≤ z ∧ z ≤ 255 := by
        simp only [Lit.wf, IntKind.min, IntKind.max] at hw
        revert hw
        simp [IntKind.signed, IntKind.bits]

      refine ⟨UInt8.ofNat z.toNat, ?_⟩
      rw [hz] at h1
      have : ((UInt8.ofNat z.toNat).toNat : Int) = z := by rw [UInt8.toNat_ofNat']; omega
      rw [this]
      simpa [Go.WideShapes.add_plain] using h1
    obtain ⟨F, hF⟩ := Go.Deep.choose_lt hel
    refine ⟨(List.range n).map F, ?_⟩
    have hlen : ((List.range n).map F).length = n := by simp
    rw [hlen]
    cases n with
    | zero => exact .inr ⟨b, o, 0, c, ty, rfl, notU hm, Nat.zero_le _, fun h => absurd rfl h, C, lo, hi', hblk, Nat.zero_le _, (fun i v hv => by simp [bytesV] at hv), rfl⟩
    | succ n =>
      refine .inr ⟨b, o, o, c, ty, rfl, notU hm, Nat.le_refl _, fun _ => rfl, row_at hblk (fun i v hv => ?_) ?_ (by simp [bytesV])⟩
      · unfold bytesV at hv
        rw [List.map_map, List.getElem?_map, Option.map_eq_some_iff] at hv
        obtain ⟨j, hj, rfl⟩ := hv
        rw [List.getElem?_eq_some_iff] at hj
        obtain ⟨hj1, rfl⟩ := hj
        rw [List.length_range] at hj1
        rw [List.getElem_range]
        exact hF i hj1
      · rw [List.all_eq_true]; intro v hv
        unfold bytesV at hv
        rw [List.mem_map] at hv
        obtain ⟨x, _, rfl⟩ := hv; rfl
end Go.Ev

namespace Go.Ev
set_option linter.unusedVariables false
set_option linter.unusedSimpArgs false
open Go Go.Proofs
namespace TE
theorem joined_row (hmix : Tryz.prog.follows .mixedOrders = true) (haw : ∀ {B : Nat} (h : AH), CallSpec (fun _ => .nilIface) Tryz.prog B 15 [] h fun v h' => v = .bool true ∧ h' = h) {w0 : World} (v : List UInt8) (a : Value) (b : List UInt8) (ha : SliceArg w0 a b.length (bytesV b)) :
    Calls Tryz.prog 5 #[.string ⟨⟨v⟩⟩, a] w0 fun e w' => e = .returned (.bool true) ∧ Go.RowKit.Below w0.heap.size w0 w' := by
  have hη : OneCells (fun _ => Value.nilIface) := fun _ => rfl
  rcases ha with ⟨rfl, _⟩ | ⟨blk, o, o', cap, ty, rfl, hcap, hle, ho, hr⟩
  · refine CallSpec.trueP (η := fun _ => .nilIface) (l := []) (args := [.string ⟨⟨v⟩⟩, .slice none 0 0]) TB.gs9 (fun x hx => by cases hx) (.cons (.string _) (.cons (.slice0 _ _ rfl) .nil)) ?_
    refine JLaw0.enter hη hmix (reg0 hη hmix) v ?_
    simp only [W.holds, true_and, and_true]
    exact ⟨fun _ => haw _, fun _ => haw _⟩
  · refine CallSpec.trueR (η := fun _ => .nilIface) (l := [⟨ty, bytesV b, blk, o'⟩]) (args := [.string ⟨⟨v⟩⟩, .slice (some ⟨126, o - o', none⟩) b.length cap]) TB.gs9 (fun x hx => by rw [List.mem_singleton] at hx; subst hx; exact hr) (fun i j x y hi hj _ => ?_) (.cons (.string _) (.cons ?_ .nil)) ?_
    · have h1 := (List.getElem?_eq_some_iff.1 hi).1
      have h2 := (List.getElem?_eq_some_iff.1 hj).1
      simp only [List.length_singleton] at h1 h2; omega
    · have := VR.slice (η := fun _ => .nilIface) (ρ := envR Tryz.prog w0 [⟨ty, bytesV b, blk, o'⟩]) (r := 126) (o := o - o') (b := blk) (d := o') (n := sizeB w0 blk - o') b.length cap rfl hcap
      rw [show o' + (o - o') = o by omega] at this
      exact this
    · cases hb : b with
      | nil =>
        refine JLawE.enter hη hmix (reg0 hη hmix) v ty (o - o') cap ?_
        simp only [W.holds, true_and, and_true]
        exact ⟨fun _ => haw _, fun _ => haw _⟩
      | cons x y =>
        rw [← hb, ho (by rw [hb]; simp), Nat.sub_self]
        exact joined_ok hη hmix haw v b ty cap
end TE
end Go.Ev

