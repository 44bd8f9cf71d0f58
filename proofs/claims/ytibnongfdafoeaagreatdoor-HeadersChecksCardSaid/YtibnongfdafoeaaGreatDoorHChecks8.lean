/- HChecks, part 8: what the proof needs, in the order of its texts. -/
import Derived.Test.YtibnongfdafoeaaGreatDoorHChecks7
import Derived.Shelf.Strings.SlTrimAscii
import Derived.Test.YtibnongfdafoeaaGreatDoorShelf
import Derived.Test.YtibnongfdafoeaaGreatDoorProg
import Derived.KernelRfl
namespace Go.Ev
set_option linter.unusedVariables false
set_option linter.unusedSimpArgs false
open Go Go.Proofs Go.RowKit
variable {η : Nat → Value} {B : Nat}
theorem bdl (s : List UInt8) : ({ data := { toList := s } } : ByteArray).data.toList = s := rfl
namespace TE
open TB
theorem h256 : (Tryz.prog.info? (Tryz.lays160_ren.t 116)).map (fun i => (i.zero, i.size)) = some (some (.agg (Array.replicate 256 (.bool false))), 256) := by kernel_rfl
theorem trim_ok {h : AH} (s : List UInt8) (hs : s.length ≤ 9223372036854775807) :
    CallSpec η Tryz.prog B 81 [.string ⟨⟨s⟩⟩, .string ⟨#[9, 32]⟩] h (trimK [.string ⟨⟨s⟩⟩, .string ⟨#[9, 32]⟩] h).sat := by
  refine CallSpec.ofCalls (v := .string ⟨⟨trimB s⟩⟩) fun ρ args' w hl p => ?_
  obtain rfl := args_inv rfl hl
  refine (Any.strings_Trim_laid Tryz.lays160 h256 ⟨⟨s⟩⟩ ⟨#[9, 32]⟩ w hs (by decide) (fun j b hj => ?_)).mono ?_
  · have : b ∈ ([9, 32] : List UInt8) := List.mem_of_getElem? hj
    simp only [List.mem_cons, List.not_mem_nil, or_false] at this
    rcases this with rfl | rfl <;> decide
  · rintro e w' ⟨rfl, hb⟩
    exact ⟨_, rfl, .string _, hb⟩
def bl (c : UInt8) : Bool := ([9, 32] : List UInt8).contains c
theorem bl_iff (c : UInt8) : bl c = (c.toNat == 9 || c.toNat == 32) := eq_of_beq (forall_u8 (p := fun c => bl c == (c.toNat == 9 || c.toNat == 32)) (by decide +kernel) c)
def tl (l : List UInt8) : List UInt8 := l.dropWhile bl
def tr (l : List UInt8) : List UInt8 := (l.reverse.dropWhile bl).reverse
theorem trimB_eq (l : List UInt8) : trimB l = tl (tr l) := rfl
theorem tl_cons (a : UInt8) (l : List UInt8) : tl (a :: l) = if bl a = true then tl l else a :: l := by
  unfold tl; rw [List.dropWhile_cons]
theorem tr_cons (a : UInt8) (l : List UInt8) : tr (a :: l) = if tr l = [] then (if bl a = true then [] else [a]) else a :: tr l := by
  unfold tr
  rw [List.reverse_cons, List.dropWhile_append]
  cases hd : l.reverse.dropWhile bl with
  | nil =>
    simp only [List.isEmpty_nil, if_true, List.reverse_nil]
    rw [List.dropWhile_cons]
    split <;> rfl
  | cons x xs =>
    rw [if_neg (by simp), if_neg (by simp), List.reverse_append]; rfl
theorem tl_tr : ∀ l : List UInt8, tl (tr l) = tr (tl l)
  | [] => rfl
  | a :: l => by
    have ih := tl_tr l
    rw [tr_cons, tl_cons]
    cases hb : bl a with
    | true =>
      rw [if_pos rfl, if_pos rfl, ← ih]
      split
      · rename_i h; rw [h]
      · rw [tl_cons, hb, if_pos rfl]
    | false =>
      simp only [Bool.false_eq_true, if_false]
      rw [tr_cons, hb]
      simp only [Bool.false_eq_true, if_false]
      split
      · rw [tl_cons, hb]; simp
      · rw [tl_cons, hb]; simp
theorem tr_snoc (l : List UInt8) (a : UInt8) : tr (l ++ [a]) = if bl a = true then tr l else l ++ [a] := by
  unfold tr
  rw [List.reverse_append, List.reverse_singleton, List.singleton_append, List.dropWhile_cons]
  cases bl a with
  | true => rfl
  | false => simp
end TE
end Go.Ev
namespace Go.Ev
set_option linter.unusedVariables false
set_option linter.unusedSimpArgs false
open Go Go.Proofs
variable {η : Nat → Value} {B : Nat}
namespace TE
open TB
theorem strs_snoc (L : List (List UInt8)) (x : List UInt8) : strs L ++ [.string ⟨⟨x⟩⟩] = strs (L ++ [x]) := by unfold strs; rw [List.map_append]; rfl
theorem strs_len (L : List (List UInt8)) : (strs L).length = L.length := by unfold strs; rw [List.length_map]
theorem strs_nn (L : List (List UInt8)) : NoNames (strs L) := by
  intro v hv; unfold strs at hv; obtain ⟨x, _, rfl⟩ := List.mem_map.1 hv; rfl
theorem strs_get {L : List (List UInt8)} {i : Nat} (h : i < L.length) : (strs L)[i]? = some (.string ⟨⟨L[i]⟩⟩) ∧ strAt (strs L) i = L[i] := by
  have e : (strs L)[i]? = some (.string ⟨⟨L[i]⟩⟩) := by unfold strs; rw [List.getElem?_map, List.getElem?_eq_getElem h]; rfl
  refine ⟨e, ?_⟩
  unfold strAt; rw [e]
end TE
end Go.Ev
namespace Go.Ev
set_option linter.unusedVariables false
set_option linter.unusedSimpArgs false
open Go Go.Proofs
variable {η : Nat → Value} {B : Nat}
namespace TE
open TB
end TE
end Go.Ev

namespace Go.Ev
set_option linter.unusedVariables false
set_option linter.unusedSimpArgs false
open Go Go.Proofs
variable {η : Nat → Value} {B : Nat}
namespace TE
open TB
/-- A value that stands for a list of strings. -/
def IsStrs (h : AH) (v : Value) (L : List (List UInt8)) : Prop :=
  (v = .slice none 0 0 ∧ L = []) ∨ ∃ r own, v = .slice (some ⟨r, 0, none⟩) L.length (capU 1) ∧ h.objs.get r = some (.cells 9 (strs L) false own)
theorem strs_all (L : List (List UInt8)) : (strs L).all bareV = true := by
  rw [List.all_eq_true]; intro v hv
  unfold strs at hv
  rw [List.mem_map] at hv
  obtain ⟨x, _, rfl⟩ := hv; rfl
theorem IsStrs.at_ {h : AH} {v : Value} {L : List (List UInt8)} (k : IsStrs h v L) : listAt h v = L := by
  rcases k with ⟨rfl, rfl⟩ | ⟨r, own, rfl, hr⟩
  · rfl
  · unfold listAt
    simp only [hr]
    rw [List.take_of_length_le (by rw [strs_len]; exact Nat.le_refl _)]
    unfold strs
    rw [List.map_map]
    exact List.map_id _
end TE
end Go.Ev

namespace Go.Ev
set_option linter.unusedVariables false
set_option linter.unusedSimpArgs false
open Go Go.Proofs Go.RowKit
variable {η : Nat → Value} {B : Nat}
namespace TH
open TB TE
theorem byte_eq9 {c : UInt8} : ((c.toNat : Int) = 9 ∨ (32 ≤ (c.toNat : Int) ∧ (c.toNat : Int) ≤ 126)) ↔ plB c = true := by
  unfold plB; rw [decide_eq_true_iff]; omega
theorem text_ok (hη : OneCells η) (hmix : Tryz.prog.follows .mixedOrders = true) (s : List UInt8) (hs : s.length ≤ 1000000) (h : AH) :
    CallSpec η Tryz.prog B 146 [.string ⟨⟨s⟩⟩] h (plainsK [.string ⟨⟨s⟩⟩] h).sat := by
  refine CallSpec.bare (v := .bool (s.all plB)) hη gs9 (fun _ _ => str_args) (fun σ M => .bool _) (fun σ M => .bool _) ?_ h
  have cut := fun i0 => HText.cut0 (η := η) (B := B) (D := fun v _ => v = .bool (s.all plB)) hη hmix (reg0 hη hmix) s i0
  simp only [W.holds, true_and, decide_eq_true_eq, decide_eq_false_iff_not, bne_iff_ne, bne_eq_false_iff_eq] at cut
  refine HText.enter hη hmix (reg0 hη hmix) _ ?_
  simp only [W.holds]
  have loop : ∀ (r : List UInt8) (i : Nat), s.drop i = r → s.all plB = r.all plB → RunD η Tryz.prog B 146 (HText.H0 s) [0, 6, 7] (HText.S0 s (i : Int) fun _ => undef) (QF Tryz.prog 126 fun v _ => v = .bool (s.all plB)) := by
    intro r
    induction r with
    | nil =>
      intro i hd he
      have := at_nil hd
      refine cut _ ⟨fun h => by omega, fun _ => ?_⟩
      rw [he]; rfl
    | cons c r ih =>
      intro i hd he
      obtain ⟨hi, hb, hd2⟩ := at_cons hd
      have c1 := cut (i : Int)
      rw [hb, wrap1 (by omega)] at c1
      have bad : plB c = false → Value.bool false = .bool (s.all plB) := by
        intro h; rw [he, List.all_cons, h, Bool.false_and]
      have go : plB c = true → RunD η Tryz.prog B 146 (HText.H0 s) [0, 6, 7] (HText.S0 s ((i + 1 : Nat) : Int) fun _ => undef) (QF Tryz.prog 126 fun v _ => v = .bool (s.all plB)) := by
        intro h; exact ih (i + 1) hd2 (by rw [he, List.all_cons, h, Bool.true_and])
      have hf : ∀ {p : Prop}, ¬ p → (((c.toNat : Int) = 9 ∨ (32 ≤ (c.toNat : Int) ∧ (c.toNat : Int) ≤ 126)) → p) → plB c = false := by
        intro p hp hq
        cases hx : plB c with
        | false => rfl
        | true => exact absurd (hq (byte_eq9.2 hx)) hp
      refine c1 ⟨fun _ => ⟨⟨by omega, by omega⟩, fun _ => ⟨fun h9 => ⟨fun h => bad (hf (p := False) (fun h => h) (by omega)), fun h => ⟨fun h2 => bad (hf (p := False) (fun h => h) (by omega)), fun h2 => go (byte_eq9.1 (by omega))⟩⟩, fun h9 => go (byte_eq9.1 (by omega))⟩⟩, fun h => by omega⟩
  exact loop s 0 rfl rfl
theorem pln_ok (hη : OneCells η) (hmix : Tryz.prog.follows .mixedOrders = true) (s : List UInt8) (hs : s.length ≤ 1000000) (h : AH) :
    CallSpec η Tryz.prog B 96 [.string ⟨⟨s⟩⟩] h (plainsK [.string ⟨⟨s⟩⟩] h).sat := by
  refine CallSpec.bare (v := .bool (s.all plB)) hη gs9 (fun _ _ => str_args) (fun σ M => .bool _) (fun σ M => .bool _) ?_ h
  have cut := fun i0 => HPln.cut0 (η := η) (B := B) (D := fun v _ => v = .bool (s.all plB)) hη hmix (reg0 hη hmix) s i0
  simp only [W.holds, true_and, decide_eq_true_eq, decide_eq_false_iff_not, bne_iff_ne, bne_eq_false_iff_eq] at cut
  refine HPln.enter hη hmix (reg0 hη hmix) _ ?_
  simp only [W.holds]
  have loop : ∀ (r : List UInt8) (i : Nat), s.drop i = r → s.all plB = r.all plB → RunD η Tryz.prog B 96 (HPln.H0 s) [0, 3] (HPln.S0 s (i : Int) fun _ => undef) (QF Tryz.prog 126 fun v _ => v = .bool (s.all plB)) := by
    intro r
    induction r with
    | nil =>
      intro i hd he
      have := at_nil hd
      refine cut _ ⟨fun h => by omega, fun _ => ?_⟩
      rw [he]; rfl
    | cons c r ih =>
      intro i hd he
      obtain ⟨hi, hb, hd2⟩ := at_cons hd
      have c1 := cut (i : Int)
      rw [hb, wrap1 (by omega)] at c1
      have bad : plB c = false → Value.bool false = .bool (s.all plB) := by
        intro h; rw [he, List.all_cons, h, Bool.false_and]
      have go : plB c = true → RunD η Tryz.prog B 96 (HPln.H0 s) [0, 3] (HPln.S0 s ((i + 1 : Nat) : Int) fun _ => undef) (QF Tryz.prog 126 fun v _ => v = .bool (s.all plB)) := by
        intro h; exact ih (i + 1) hd2 (by rw [he, List.all_cons, h, Bool.true_and])
      have hf : ∀ {p : Prop}, ¬ p → (((c.toNat : Int) = 9 ∨ (32 ≤ (c.toNat : Int) ∧ (c.toNat : Int) ≤ 126)) → p) → plB c = false := by
        intro p hp hq
        cases hx : plB c with
        | false => rfl
        | true => exact absurd (hq (byte_eq9.2 hx)) hp
      have hI : (0 : Int) ≤ (i : Int) ∧ (i : Int) < (s.length : Int) := ⟨by omega, by omega⟩
      refine c1 ⟨fun _ => ⟨hI, fun _ => ⟨fun h9 => ⟨hI, fun _ => ⟨fun h => bad (hf (p := False) (fun h => h) (by omega)), fun h => ⟨hI, fun _ => ⟨fun h2 => bad (hf (p := False) (fun h => h) (by omega)), fun h2 => go (byte_eq9.1 (by omega))⟩⟩⟩⟩, fun h9 => go (byte_eq9.1 (by omega))⟩⟩, fun h => by omega⟩
  exact loop s 0 rfl rfl
theorem htrim_ok (hη : OneCells η) (hmix : Tryz.prog.follows .mixedOrders = true) (s : List UInt8) (hs : s.length ≤ 1000000) (h : AH) :
    CallSpec η Tryz.prog B 97 [.string ⟨⟨s⟩⟩] h (trimK [.string ⟨⟨s⟩⟩] h).sat := by
  refine CallSpec.bare (v := .string ⟨⟨trimB s⟩⟩) hη gs9 (fun _ _ => str_args) (fun σ M => .string _) (fun σ M => .string _) ?_ h
  have cut0 := fun y0 => HTrim.cut0 (η := η) (B := B) (D := fun v _ => v = .string ⟨⟨trimB s⟩⟩) hη hmix (reg0 hη hmix) s y0
  have cut1 := fun y0 => HTrim.cut1 (η := η) (B := B) (D := fun v _ => v = .string ⟨⟨trimB s⟩⟩) hη hmix (reg0 hη hmix) s y0
  simp only [W.holds, true_and, decide_eq_true_eq, decide_eq_false_iff_not, beq_iff_eq, beq_eq_false_iff_ne, List.drop_zero, Nat.sub_zero] at cut0 cut1
  have right : ∀ (m : Nat) (y : List UInt8), y.length ≤ m → y.length ≤ 1000000 → tr y = trimB s → RunD η Tryz.prog B 97 (HTrim.H0 s) [0] (HTrim.S1 s ⟨⟨y⟩⟩ fun _ => undef) (QF Tryz.prog 126 fun v _ => v = .string ⟨⟨trimB s⟩⟩) := by
    intro m
    induction m with
    | zero =>
      intro y hm _ he
      have : y = [] := List.length_eq_zero_iff.1 (by omega)
      subst this
      refine cut1 _ ⟨fun h => absurd h (by decide), fun _ => ?_⟩
      rw [← he]; rfl
    | succ m ih =>
      intro y hm h6 he
      rcases List.eq_nil_or_concat y with rfl | ⟨y', c, rfl⟩
      · refine cut1 _ ⟨fun h => absurd h (by decide), fun _ => ?_⟩
        rw [← he]; rfl
      · rw [List.concat_eq_append] at hm h6 he ⊢
        have hl : (y' ++ [c]).length = y'.length + 1 := by simp
        have hw : IntKind.i64.wrap (((y' ++ [c]).length : Int) - 1) = (y'.length : Int) := by
          rw [IntWalk.i64_in _ ⟨by omega, by omega⟩]; omega
        have hb : byteAt (y' ++ [c]) (y'.length : Int) = (c.toNat : Int) := by
          rw [byteAt_get (by omega)]; simp
        have ht : List.take ((y'.length : Int).toNat) (y' ++ [c]) = y' := by rw [Int.toNat_natCast]; exact List.take_left
        have c1 := cut1 ⟨⟨y' ++ [c]⟩⟩
        rw [bdl, hw, hb, ht] at c1
        rw [tr_snoc] at he
        have go : bl c = true → RunD η Tryz.prog B 97 (HTrim.H0 s) [0] (HTrim.S1 s ⟨⟨y'⟩⟩ fun _ => undef) (QF Tryz.prog 126 fun v _ => v = .string ⟨⟨trimB s⟩⟩) := by
          intro hc; rw [hc, if_pos rfl] at he
          exact ih y' (by omega) (by omega) he
        have hI : (0 : Int) ≤ (y'.length : Int) ∧ (y'.length : Int) < ((y' ++ [c]).length : Int) := ⟨by omega, by omega⟩
        have hS : (0 : Int) ≤ 0 ∧ (0 : Int) ≤ (y'.length : Int) ∧ (y'.length : Int) ≤ ((y' ++ [c]).length : Int) := ⟨by omega, by omega, by omega⟩
        have stop : bl c = false → (Value.string ⟨⟨y' ++ [c]⟩⟩) = .string ⟨⟨trimB s⟩⟩ := by
          intro hc; rw [hc, if_neg (by simp)] at he; rw [← he]
        refine c1 ⟨fun _ => ⟨hI, fun _ => ⟨fun h => ⟨hS, fun _ => go ?_⟩, fun h => ⟨fun h2 => ⟨hS, fun _ => go ?_⟩, fun h2 => stop ?_⟩⟩⟩, fun h => absurd (by omega) h⟩
        · rw [bl_iff]; simp; omega
        · rw [bl_iff]; simp; omega
        · rw [bl_iff]; simp; omega
  have left : ∀ (y : List UInt8), y.length ≤ 1000000 → tr (tl y) = trimB s → RunD η Tryz.prog B 97 (HTrim.H0 s) [0] (HTrim.S0 s ⟨⟨y⟩⟩ fun _ => undef) (QF Tryz.prog 126 fun v _ => v = .string ⟨⟨trimB s⟩⟩) := by
    intro y
    induction y with
    | nil =>
      intro _ he
      exact cut0 _ ⟨fun h => absurd h (by decide), fun _ => right 0 [] (Nat.le_refl _) (by simp) he⟩
    | cons c r ih =>
      intro h6 he
      simp only [List.length_cons] at h6
      have c0 := cut0 ⟨⟨c :: r⟩⟩
      have hb : byteAt (c :: r) 0 = (c.toNat : Int) := rfl
      have ht : List.take (((c :: r).length : Int).toNat - 1) (List.drop 1 (c :: r)) = r := by
        rw [Int.toNat_natCast]; exact List.take_of_length_le (by simp)
      rw [bdl, hb, ht] at c0
      rw [tl_cons] at he
      have go : bl c = true → RunD η Tryz.prog B 97 (HTrim.H0 s) [0] (HTrim.S0 s ⟨⟨r⟩⟩ fun _ => undef) (QF Tryz.prog 126 fun v _ => v = .string ⟨⟨trimB s⟩⟩) := by
        intro hc; rw [hc, if_pos rfl] at he
        exact ih (by omega) he
      have hS : (0 : Int) ≤ 1 ∧ (1 : Int) ≤ ((c :: r).length : Int) ∧ ((c :: r).length : Int) ≤ ((c :: r).length : Int) := ⟨by omega, by simp <;> omega, by omega⟩
      have hI : (0 : Int) ≤ 0 ∧ (0 : Int) < ((c :: r).length : Int) := ⟨by omega, by simp <;> omega⟩
      refine c0 ⟨fun _ => ⟨hI, fun _ => ⟨fun h => ⟨hS, fun _ => go ?_⟩, fun h => ⟨fun h2 => ⟨hS, fun _ => go ?_⟩, fun h2 => ?_⟩⟩⟩, fun h => absurd (by simp <;> omega) h⟩
      · rw [bl_iff]; simp; omega
      · rw [bl_iff]; simp; omega
      · have hc : bl c = false := by rw [bl_iff]; simp; omega
        rw [hc, if_neg (by simp)] at he
        exact right _ (c :: r) (Nat.le_refl _) (by simp only [List.length_cons]; omega) he
  refine HTrim.enter hη hmix (reg0 hη hmix) _ ?_
  simp only [W.holds]
  exact left s hs (by rw [trimB_eq, tl_tr])
theorem ckf_ok (hη : OneCells η) (hmix : Tryz.prog.follows .mixedOrders = true) (n v : List UInt8) (hn : n.length ≤ 1000000) (hv : v.length ≤ 1000000) (h : AH) :
    CallSpec η Tryz.prog B 94 [.agg ⟨[.string ⟨⟨n⟩⟩, .string ⟨⟨v⟩⟩]⟩] h (ckfK [.agg ⟨[.string ⟨⟨n⟩⟩, .string ⟨⟨v⟩⟩]⟩] h).sat := by
  have ha : ∀ σ M, RV σ M true (.agg ⟨[.string ⟨⟨n⟩⟩, .string ⟨⟨v⟩⟩]⟩) (.agg ⟨[.string ⟨⟨n⟩⟩, .string ⟨⟨v⟩⟩]⟩) := fun σ M => .agg rfl fun i x y hx hy => by
    rw [hx] at hy; injection hy with hy; subst hy
    match i, hx with
    | 0, hx => simp at hx; subst hx; exact .string _
    | 1, hx => simp at hx; subst hx; exact .string _
  refine CallSpec.bare (v := .int .i64 (ckf n v)) hη gs9 (fun _ _ => .cons (ha _ _) .nil) (fun σ M => .int _ _) (fun σ M => .int _ _) ?_ h
  refine HCkf.enter hη hmix (reg0 hη hmix) _ _ ?_
  simp only [W.holds, consM, Nat.reduceEqDiff, false_implies, true_and, and_true, decide_eq_true_eq, decide_eq_false_iff_not, Bool.not_eq_true', Bool.not_eq_false', beq_iff_eq, beq_eq_false_iff_ne, true_implies]
  have e6 : ckB n v = false → Value.int .i64 6 = .int .i64 (ckf n v) := by intro h; unfold ckf; rw [if_pos h]
  have e3 : ckB n v = true → 2000 < v.length → Value.int .i64 3 = .int .i64 (ckf n v) := by intro h h2; unfold ckf; rw [if_neg (by rw [h]; simp), if_pos h2]
  have e0 : ckB n v = true → ¬ 2000 < v.length → Value.int .i64 0 = .int .i64 (ckf n v) := by intro h h2; unfold ckf; rw [if_neg (by rw [h]; simp), if_neg h2]
  refine ⟨tok_ok hη hmix n hn _, fun h1 => e6 (by unfold ckB; rw [h1]; rfl), fun h1 => ⟨text_ok hη hmix v hv _, fun h2 => e6 (by unfold ckB; rw [h1, h2]; rfl), fun h2 => ⟨trim_ok v (by omega), fun h3 => e6 (by unfold ckB; rw [h1, h2, Bool.true_and, Bool.true_and]; exact decide_eq_false fun e => h3 e.symm), fun h3 => ?_⟩⟩⟩
  have hb : ckB n v = true := by unfold ckB; rw [h1, h2, Bool.true_and, Bool.true_and]; exact decide_eq_true h3.symm
  exact ⟨fun h4 => e3 hb (by omega), fun h4 => e0 hb (by omega)⟩
end TH
end Go.Ev

namespace Go.Ev
set_option linter.unusedVariables false
set_option linter.unusedSimpArgs false
open Go Go.Proofs
set_option maxRecDepth 100000
set_option maxHeartbeats 2000000
namespace HChk0
set_option linter.unusedVariables false
noncomputable def bd : Code := (Go.Proofs.Tryz.f37.body).getD .skip
noncomputable def H0 (n : Int) : AH := { objs := T.nil, next := 126 }
noncomputable def E (n : Int) : AS := ⟨⟨37, 28, T.node (some (Value.slice none 0 0)) T.nil T.nil, [Item.code (codeAt bd [])], [], FrameMode.run, CallKind.normal, none⟩, [], ⟨T.nil, 126⟩⟩
noncomputable def S0 (n : Int)  (d : Nat → Value) : AS := ⟨⟨37, 28, T.node (some (d 0)) (T.node (some (d 1)) (T.node (some (Value.int IntKind.i64 2)) (T.node (some (d 7)) (T.node (some (d 15)) T.nil T.nil) (T.node (some (d 23)) T.nil T.nil)) (T.node (some (Value.int IntKind.i64 0)) (T.node (some (d 19)) T.nil T.nil) (T.node (some (d 27)) T.nil T.nil))) (T.node (some (d 5)) (T.node (some (d 9)) (T.node (some (d 17)) T.nil T.nil) (T.node (some (d 25)) T.nil T.nil)) (T.node (some (d 13)) (T.node (some (d 21)) T.nil T.nil) T.nil))) (T.node (some (d 2)) (T.node (some (d 4)) (T.node (some (d 8)) (T.node (some (d 16)) T.nil T.nil) (T.node (some (d 24)) T.nil T.nil)) (T.node (some (Value.int IntKind.i64 0)) (T.node (some (d 20)) T.nil T.nil) T.nil)) (T.node (some (d 6)) (T.node (some (Value.slice none 0 0)) (T.node (some (d 18)) T.nil T.nil) (T.node (some (d 26)) T.nil T.nil)) (T.node (some (d 14)) (T.node (some (d 22)) T.nil T.nil) T.nil))), [Item.code (codeAt bd [1, 1, 1, 0, 1, 0, 0]), Item.inLoop (codeAt bd [1, 1, 1, 0, 1, 0, 0]), Item.inBlock 0, Item.code (codeAt bd [1, 1, 1, 1])], [], FrameMode.run, CallKind.normal, none⟩, [], ⟨T.nil, 126⟩⟩
theorem enter {η : Nat → Value} {B : Nat} (hη : OneCells η) (hmix : Go.Proofs.Tryz.prog.follows .mixedOrders = true) (hreg : RegOk η Go.Proofs.Tryz.prog B noNest) {D : Value → AH → Prop} (n : Int) (h : W.holds η Go.Proofs.Tryz.prog B 37 (fun kp_ st_ => RunD η Go.Proofs.Tryz.prog B 37 (H0 n) kp_ st_ (QF Go.Proofs.Tryz.prog 126 D)) D (.stop [3, 10, 11, 12] (S0 n  (fun _ => undef)))) : CallSpec η Go.Proofs.Tryz.prog B 37 [Value.slice none 0 0] (H0 n) D := by
  refine CallSpec.ofQF hη (CallSpec.enter (fr := (E n).fr) (by kernel_rfl) ?_)
  exact walk_ok (h0 := H0 n) hη hmix hreg (fun _ _ k => k) 10000 (.steps 26 <| .stop [3, 10, 11, 12] none) (E n) (tmOk_get (by kernel_rfl)) (Eq.mpr (congrArg (W.holds η Go.Proofs.Tryz.prog B 37 (fun kp_ st_ => RunD η Go.Proofs.Tryz.prog B 37 (H0 n) kp_ st_ (QF Go.Proofs.Tryz.prog 126 D)) D) (by kernel_rfl)) h)
theorem cut0 {η : Nat → Value} {B : Nat} (hη : OneCells η) (hmix : Go.Proofs.Tryz.prog.follows .mixedOrders = true) (hreg : RegOk η Go.Proofs.Tryz.prog B noNest) {D : Value → AH → Prop} (n : Int)  (h : W.holds η Go.Proofs.Tryz.prog B 37 (fun kp_ st_ => RunD η Go.Proofs.Tryz.prog B 37 (H0 n) kp_ st_ (QF Go.Proofs.Tryz.prog 126 D)) D (.done 37 (Value.int IntKind.i64 0) (H0 n))) : RunD η Go.Proofs.Tryz.prog B 37 (H0 n) [3, 10, 11, 12] (S0 n  fun _ => undef) (QF Go.Proofs.Tryz.prog 126 D) := by
  refine RunD.intro (S0 n ) (fun d => ⟨rfl, rfl, rfl⟩) (fun d => tmOk_get (by kernel_rfl)) (fun d => by kernel_rfl) (fun d => ?_)
  exact walk_ok (h0 := H0 n) hη hmix hreg (fun _ _ k => k) 10000 (.steps 20 <| .done none) (S0 n  d) (tmOk_get (by kernel_rfl)) (Eq.mpr (congrArg (W.holds η Go.Proofs.Tryz.prog B 37 (fun kp_ st_ => RunD η Go.Proofs.Tryz.prog B 37 (H0 n) kp_ st_ (QF Go.Proofs.Tryz.prog 126 D)) D) (by kernel_rfl)) h)
end HChk0
namespace HRChk0
set_option linter.unusedVariables false
noncomputable def bd : Code := (Go.Proofs.Tryz.f38.body).getD .skip
noncomputable def H0 (n : Int) : AH := { objs := T.nil, next := 126 }
noncomputable def E (n : Int) : AS := ⟨⟨38, 54, T.node (some (Value.slice none 0 0)) T.nil T.nil, [Item.code (codeAt bd [])], [], FrameMode.run, CallKind.normal, none⟩, [], ⟨T.nil, 126⟩⟩
noncomputable def S0 (n : Int)  (d : Nat → Value) : AS := ⟨⟨38, 54, T.node (some (Value.slice none 0 0)) (T.node (some (d 1)) (T.node (some (Value.int IntKind.i64 2)) (T.node (some (d 7)) (T.node (some (d 15)) (T.node (some (d 31)) T.nil T.nil) (T.node (some (d 47)) T.nil T.nil)) (T.node (some (d 23)) (T.node (some (d 39)) T.nil T.nil) T.nil)) (T.node (some (d 11)) (T.node (some (d 19)) (T.node (some (d 35)) T.nil T.nil) (T.node (some (d 51)) T.nil T.nil)) (T.node (some (d 27)) (T.node (some (d 43)) T.nil T.nil) T.nil))) (T.node (some (d 5)) (T.node (some (d 9)) (T.node (some (d 17)) (T.node (some (d 33)) T.nil T.nil) (T.node (some (d 49)) T.nil T.nil)) (T.node (some (d 25)) (T.node (some (d 41)) T.nil T.nil) T.nil)) (T.node (some (d 13)) (T.node (some (d 21)) (T.node (some (d 37)) T.nil T.nil) (T.node (some (d 53)) T.nil T.nil)) (T.node (some (d 29)) (T.node (some (d 45)) T.nil T.nil) T.nil)))) (T.node (some (d 2)) (T.node (some (Value.int IntKind.i64 0)) (T.node (some (d 8)) (T.node (some (d 16)) (T.node (some (d 32)) T.nil T.nil) (T.node (some (d 48)) T.nil T.nil)) (T.node (some (d 24)) (T.node (some (d 40)) T.nil T.nil) T.nil)) (T.node (some (d 12)) (T.node (some (d 20)) (T.node (some (d 36)) T.nil T.nil) (T.node (some (d 52)) T.nil T.nil)) (T.node (some (d 28)) (T.node (some (d 44)) T.nil T.nil) T.nil))) (T.node (some (d 6)) (T.node (some (d 10)) (T.node (some (d 18)) (T.node (some (d 34)) T.nil T.nil) (T.node (some (d 50)) T.nil T.nil)) (T.node (some (d 26)) (T.node (some (d 42)) T.nil T.nil) T.nil)) (T.node (some (d 14)) (T.node (some (d 22)) (T.node (some (d 38)) T.nil T.nil) T.nil) (T.node (some (d 30)) (T.node (some (d 46)) T.nil T.nil) T.nil)))), [Item.code (codeAt bd [1, 1, 1, 0, 1, 0, 0]), Item.inLoop (codeAt bd [1, 1, 1, 0, 1, 0, 0]), Item.inBlock 0, Item.code (codeAt bd [1, 1, 1, 1])], [], FrameMode.run, CallKind.normal, none⟩, [], ⟨T.nil, 126⟩⟩
theorem enter {η : Nat → Value} {B : Nat} (hη : OneCells η) (hmix : Go.Proofs.Tryz.prog.follows .mixedOrders = true) (hreg : RegOk η Go.Proofs.Tryz.prog B noNest) {D : Value → AH → Prop} (n : Int) (h : W.holds η Go.Proofs.Tryz.prog B 38 (fun kp_ st_ => RunD η Go.Proofs.Tryz.prog B 38 (H0 n) kp_ st_ (QF Go.Proofs.Tryz.prog 126 D)) D (.stop [0, 3, 4] (S0 n  (fun _ => undef)))) : CallSpec η Go.Proofs.Tryz.prog B 38 [Value.slice none 0 0] (H0 n) D := by
  refine CallSpec.ofQF hη (CallSpec.enter (fr := (E n).fr) (by kernel_rfl) ?_)
  exact walk_ok (h0 := H0 n) hη hmix hreg (fun _ _ k => k) 10000 (.steps 24 <| .stop [0, 3, 4] none) (E n) (tmOk_get (by kernel_rfl)) (Eq.mpr (congrArg (W.holds η Go.Proofs.Tryz.prog B 38 (fun kp_ st_ => RunD η Go.Proofs.Tryz.prog B 38 (H0 n) kp_ st_ (QF Go.Proofs.Tryz.prog 126 D)) D) (by kernel_rfl)) h)
theorem cut0 {η : Nat → Value} {B : Nat} (hη : OneCells η) (hmix : Go.Proofs.Tryz.prog.follows .mixedOrders = true) (hreg : RegOk η Go.Proofs.Tryz.prog B noNest) {D : Value → AH → Prop} (n : Int)  (h : W.holds η Go.Proofs.Tryz.prog B 38 (fun kp_ st_ => RunD η Go.Proofs.Tryz.prog B 38 (H0 n) kp_ st_ (QF Go.Proofs.Tryz.prog 126 D)) D (.done 38 (Value.int IntKind.i64 0) (H0 n))) : RunD η Go.Proofs.Tryz.prog B 38 (H0 n) [0, 3, 4] (S0 n  fun _ => undef) (QF Go.Proofs.Tryz.prog 126 D) := by
  refine RunD.intro (S0 n ) (fun d => ⟨rfl, rfl, rfl⟩) (fun d => tmOk_get (by kernel_rfl)) (fun d => by kernel_rfl) (fun d => ?_)
  exact walk_ok (h0 := H0 n) hη hmix hreg (fun _ _ k => k) 10000 (.steps 23 <| .done none) (S0 n  d) (tmOk_get (by kernel_rfl)) (Eq.mpr (congrArg (W.holds η Go.Proofs.Tryz.prog B 38 (fun kp_ st_ => RunD η Go.Proofs.Tryz.prog B 38 (H0 n) kp_ st_ (QF Go.Proofs.Tryz.prog 126 D)) D) (by kernel_rfl)) h)
end HRChk0
namespace HLln
set_option linter.unusedVariables false
noncomputable def bd : Code := (Go.Proofs.Tryz.f95.body).getD .skip
noncomputable def H0 (n : List UInt8) (v : List UInt8) : AH := { objs := T.nil, next := 126 }
noncomputable def E (n : List UInt8) (v : List UInt8) : AS := ⟨⟨95, 12, T.node (some (Value.agg { toList := [Value.string { data := { toList := n } }, Value.string { data := { toList := v } }] })) T.nil T.nil, [Item.code (codeAt bd [])], [], FrameMode.run, CallKind.normal, none⟩, [], ⟨T.nil, 126⟩⟩
theorem enter {η : Nat → Value} {B : Nat} (hη : OneCells η) (hmix : Go.Proofs.Tryz.prog.follows .mixedOrders = true) (hreg : RegOk η Go.Proofs.Tryz.prog B noNest) {D : Value → AH → Prop} (n : List UInt8) (v : List UInt8) (h : W.holds η Go.Proofs.Tryz.prog B 95 (fun kp_ st_ => RunD η Go.Proofs.Tryz.prog B 95 (H0 n v) kp_ st_ (QF Go.Proofs.Tryz.prog 126 D)) D (.need (True) (.done 95 (Value.int IntKind.i64 (IntKind.i64.wrap (IntKind.i64.wrap (IntKind.i64.wrap ((↑n.length : Int) + 2) + (↑v.length : Int)) + 2))) (H0 n v)))) : CallSpec η Go.Proofs.Tryz.prog B 95 [Value.agg { toList := [Value.string { data := { toList := n } }, Value.string { data := { toList := v } }] }] (H0 n v) D := by
  refine CallSpec.ofQF hη (CallSpec.enter (fr := (E n v).fr) (by kernel_rfl) ?_)
  exact walk_ok (h0 := H0 n v) hη hmix hreg (fun _ _ k => k) 10000 (.steps 19 <| .done (some ⟨126, [], []⟩)) (E n v) (tmOk_get (by kernel_rfl)) (Eq.mpr (congrArg (W.holds η Go.Proofs.Tryz.prog B 95 (fun kp_ st_ => RunD η Go.Proofs.Tryz.prog B 95 (H0 n v) kp_ st_ (QF Go.Proofs.Tryz.prog 126 D)) D) (by kernel_rfl)) h)
end HLln
namespace HRGet0
set_option linter.unusedVariables false
noncomputable def bd : Code := (Go.Proofs.Tryz.f93.body).getD .skip
noncomputable def H0 (s : List UInt8) : AH := { objs := T.nil, next := 126 }
noncomputable def E (s : List UInt8) : AS := ⟨⟨93, 28, T.node (some (Value.slice none 0 0)) (T.node (some (Value.string { data := { toList := s } })) T.nil T.nil) T.nil, [Item.code (codeAt bd [])], [], FrameMode.run, CallKind.normal, none⟩, [], ⟨T.nil, 126⟩⟩
noncomputable def S0 (s : List UInt8)  (d : Nat → Value) : AS := ⟨⟨93, 28, T.node (some (Value.slice none 0 0)) (T.node (some (Value.string { data := { toList := s } })) (T.node (some (d 3)) (T.node (some (d 7)) (T.node (some (d 15)) T.nil T.nil) (T.node (some (d 23)) T.nil T.nil)) (T.node (some (d 11)) (T.node (some (d 19)) T.nil T.nil) (T.node (some (d 27)) T.nil T.nil))) (T.node (some (Value.slice none 0 0)) (T.node (some (d 9)) (T.node (some (d 17)) T.nil T.nil) (T.node (some (d 25)) T.nil T.nil)) (T.node (some (d 13)) (T.node (some (d 21)) T.nil T.nil) T.nil))) (T.node (some (d 2)) (T.node (some (d 4)) (T.node (some (d 8)) (T.node (some (d 16)) T.nil T.nil) (T.node (some (d 24)) T.nil T.nil)) (T.node (some (d 12)) (T.node (some (d 20)) T.nil T.nil) T.nil)) (T.node (some (Value.int IntKind.i64 0)) (T.node (some (d 10)) (T.node (some (d 18)) T.nil T.nil) (T.node (some (d 26)) T.nil T.nil)) (T.node (some (d 14)) (T.node (some (d 22)) T.nil T.nil) T.nil))), [Item.code (codeAt bd [1, 1, 0, 1, 0, 0]), Item.inLoop (codeAt bd [1, 1, 0, 1, 0, 0]), Item.inBlock 0, Item.code (codeAt bd [1, 1, 1])], [], FrameMode.run, CallKind.normal, none⟩, [], ⟨T.nil, 126⟩⟩
theorem enter {η : Nat → Value} {B : Nat} (hη : OneCells η) (hmix : Go.Proofs.Tryz.prog.follows .mixedOrders = true) (hreg : RegOk η Go.Proofs.Tryz.prog B noNest) {D : Value → AH → Prop} (s : List UInt8) (h : W.holds η Go.Proofs.Tryz.prog B 93 (fun kp_ st_ => RunD η Go.Proofs.Tryz.prog B 93 (H0 s) kp_ st_ (QF Go.Proofs.Tryz.prog 126 D)) D (.stop [0, 1, 5, 6] (S0 s  (fun _ => undef)))) : CallSpec η Go.Proofs.Tryz.prog B 93 [Value.slice none 0 0, Value.string { data := { toList := s } }] (H0 s) D := by
  refine CallSpec.ofQF hη (CallSpec.enter (fr := (E s).fr) (by kernel_rfl) ?_)
  exact walk_ok (h0 := H0 s) hη hmix hreg (fun _ _ k => k) 10000 (.steps 15 <| .stop [0, 1, 5, 6] none) (E s) (tmOk_get (by kernel_rfl)) (Eq.mpr (congrArg (W.holds η Go.Proofs.Tryz.prog B 93 (fun kp_ st_ => RunD η Go.Proofs.Tryz.prog B 93 (H0 s) kp_ st_ (QF Go.Proofs.Tryz.prog 126 D)) D) (by kernel_rfl)) h)
theorem cut0 {η : Nat → Value} {B : Nat} (hη : OneCells η) (hmix : Go.Proofs.Tryz.prog.follows .mixedOrders = true) (hreg : RegOk η Go.Proofs.Tryz.prog B noNest) {D : Value → AH → Prop} (s : List UInt8)  (h : W.holds η Go.Proofs.Tryz.prog B 93 (fun kp_ st_ => RunD η Go.Proofs.Tryz.prog B 93 (H0 s) kp_ st_ (QF Go.Proofs.Tryz.prog 126 D)) D (.done 93 (Value.slice none 0 0) (H0 s))) : RunD η Go.Proofs.Tryz.prog B 93 (H0 s) [0, 1, 5, 6] (S0 s  fun _ => undef) (QF Go.Proofs.Tryz.prog 126 D) := by
  refine RunD.intro (S0 s ) (fun d => ⟨rfl, rfl, rfl⟩) (fun d => tmOk_get (by kernel_rfl)) (fun d => by kernel_rfl) (fun d => ?_)
  exact walk_ok (h0 := H0 s) hη hmix hreg (fun _ _ k => k) 10000 (.steps 16 <| .done none) (S0 s  d) (tmOk_get (by kernel_rfl)) (Eq.mpr (congrArg (W.holds η Go.Proofs.Tryz.prog B 93 (fun kp_ st_ => RunD η Go.Proofs.Tryz.prog B 93 (H0 s) kp_ st_ (QF Go.Proofs.Tryz.prog 126 D)) D) (by kernel_rfl)) h)
end HRGet0
namespace HVal0
set_option linter.unusedVariables false
noncomputable def bd : Code := (Go.Proofs.Tryz.f90.body).getD .skip
noncomputable def bd150 : Code := (Go.Proofs.Tryz.f150.body).getD .skip
noncomputable def H0 (s : List UInt8) : AH := { objs := T.nil, next := 126 }
noncomputable def E (s : List UInt8) : AS := ⟨⟨90, 21, T.node (some (Value.slice none 0 0)) (T.node (some (Value.string { data := { toList := s } })) T.nil T.nil) T.nil, [Item.code (codeAt bd [])], [], FrameMode.run, CallKind.normal, none⟩, [], ⟨T.nil, 126⟩⟩
noncomputable def S0 (s : List UInt8)  (d : Nat → Value) : AS := ⟨⟨150, 28, T.node (some (Value.func (Fn.yield 126) { toList := [] } { toList := [] })) (T.node (some (d 1)) (T.node (some (d 3)) (T.node (some (d 7)) (T.node (some (d 15)) T.nil T.nil) (T.node (some (d 23)) T.nil T.nil)) (T.node (some (Value.int IntKind.i64 0)) (T.node (some (d 19)) T.nil T.nil) (T.node (some (d 27)) T.nil T.nil))) (T.node (some (d 5)) (T.node (some (Value.slice none 0 0)) (T.node (some (d 17)) T.nil T.nil) (T.node (some (d 25)) T.nil T.nil)) (T.node (some (d 13)) (T.node (some (d 21)) T.nil T.nil) T.nil))) (T.node (some (d 2)) (T.node (some (Value.string { data := { toList := List.map TB.lowB s } })) (T.node (some (d 8)) (T.node (some (d 16)) T.nil T.nil) (T.node (some (d 24)) T.nil T.nil)) (T.node (some (d 12)) (T.node (some (d 20)) T.nil T.nil) T.nil)) (T.node (some (d 6)) (T.node (some (Value.int IntKind.i64 0)) (T.node (some (d 18)) T.nil T.nil) (T.node (some (d 26)) T.nil T.nil)) (T.node (some (d 14)) (T.node (some (d 22)) T.nil T.nil) T.nil))), [Item.code (codeAt bd150 [1, 1, 0, 0]), Item.inLoop (codeAt bd150 [1, 1, 0, 0]), Item.inBlock 0], [], FrameMode.run, CallKind.normal, none⟩, [⟨90, 21, T.node (some (Value.slice none 0 0)) (T.node (some (Value.string { data := { toList := s } })) (T.node (some (undef)) (T.node (some (Value.slice none 0 0)) (T.node (some (undef)) T.nil T.nil) T.nil) (T.node (some (undef)) (T.node (some (undef)) T.nil T.nil) T.nil)) (T.node (some (Value.pointer (some { block := 127, off := 0 }))) (T.node (some (Value.func (Fn.func 150) { toList := [] } { toList := [Value.pointer (some { block := 128, off := 0 }), Value.pointer (some { block := 129, off := 0 })] })) (T.node (some (undef)) T.nil T.nil) T.nil) (T.node (some (undef)) T.nil T.nil))) (T.node (some (Value.pointer (some { block := 130, off := 0 }))) (T.node (some (Value.slice none 0 0)) (T.node (some (Value.string { data := { toList := s } })) (T.node (some (undef)) T.nil T.nil) T.nil) (T.node (some (undef)) (T.node (some (undef)) T.nil T.nil) T.nil)) (T.node (some (undef)) (T.node (some (undef)) (T.node (some (undef)) T.nil T.nil) T.nil) (T.node (some (undef)) T.nil T.nil))), [Item.inRangeFunc 126, Item.inBlock 0, Item.code (codeAt bd [1, 1, 1])], [{ target := Target.collected 131, args := { toList := [] } }], FrameMode.run, CallKind.normal, none⟩], ⟨T.node none (T.node none (T.node none (T.node none (T.node none (T.node none (T.node none (T.node (some (AObj.cells 37 [Value.slice none 0 0] true 2)) T.nil T.nil) T.nil) T.nil) T.nil) T.nil) (T.node none (T.node none (T.node none (T.node none (T.node (some (AObj.deferred (some []))) T.nil T.nil) T.nil) T.nil) T.nil) T.nil)) (T.node none (T.node none (T.node none (T.node none (T.node none (T.node (some (AObj.cells 55 [Value.slice none 0 0] true 2)) T.nil T.nil) T.nil) T.nil) T.nil) T.nil) T.nil)) (T.node none (T.node none (T.node none (T.node none (T.node none (T.node none (T.node (some (AObj.cells 9 [Value.string { data := { toList := s } }] true 2)) T.nil T.nil) T.nil) T.nil) T.nil) T.nil) T.nil) (T.node none (T.node none (T.node none (T.node none (T.node none (T.node (some (AObj.cells 55 [Value.slice none 0 0] true 2)) T.nil T.nil) T.nil) T.nil) T.nil) T.nil) (T.node none T.nil (T.node none T.nil (T.node none T.nil (T.node (some (AObj.loop LoopState.ready none 90 (T.node (some (Value.slice none 0 0)) (T.node (some (Value.string { data := { toList := s } })) (T.node (some (undef)) (T.node (some (Value.slice none 0 0)) (T.node (some (undef)) T.nil T.nil) T.nil) (T.node (some (undef)) (T.node (some (undef)) T.nil T.nil) T.nil)) (T.node (some (Value.pointer (some { block := 127, off := 0 }))) (T.node (some (Value.func (Fn.func 150) { toList := [] } { toList := [Value.pointer (some { block := 128, off := 0 }), Value.pointer (some { block := 129, off := 0 })] })) (T.node (some (undef)) T.nil T.nil) T.nil) (T.node (some (undef)) T.nil T.nil))) (T.node (some (Value.pointer (some { block := 130, off := 0 }))) (T.node (some (Value.slice none 0 0)) (T.node (some (Value.string { data := { toList := s } })) (T.node (some (undef)) T.nil T.nil) T.nil) (T.node (some (undef)) (T.node (some (undef)) T.nil T.nil) T.nil)) (T.node (some (undef)) (T.node (some (undef)) (T.node (some (undef)) T.nil T.nil) T.nil) (T.node (some (undef)) T.nil T.nil)))) 21 [10] (codeAt bd [1, 1, 0, 1, 0, 0]) (codeAt bd [1, 1, 0, 1, 0, 1]) 131)) T.nil T.nil)))))), 132⟩⟩
theorem enter {η : Nat → Value} {B : Nat} (hη : OneCells η) (hmix : Go.Proofs.Tryz.prog.follows .mixedOrders = true) (hreg : RegOk η Go.Proofs.Tryz.prog B noNest) {D : Value → AH → Prop} (s : List UInt8) (h : W.holds η Go.Proofs.Tryz.prog B 90 (fun kp_ st_ => RunD η Go.Proofs.Tryz.prog B 90 (H0 s) kp_ st_ (QF Go.Proofs.Tryz.prog 126 D)) D (.call 29 [Value.string { data := { toList := s } }] ({ objs := T.node none (T.node none (T.node none (T.node none (T.node none (T.node none (T.node none (T.node (some (AObj.cells 37 [Value.slice none 0 0] true 2)) T.nil T.nil) T.nil) T.nil) T.nil) T.nil) (T.node none (T.node none (T.node none (T.node none (T.node (some (AObj.loop LoopState.ready none 90 (T.node (some (Value.slice none 0 0)) (T.node (some (Value.string { data := { toList := s } })) (T.node none (T.node (some (Value.slice none 0 0)) T.nil T.nil) T.nil) (T.node (some (Value.pointer (some { block := 127, off := 0 }))) (T.node (some (Value.func (Fn.func 150) { toList := [] } { toList := [Value.pointer (some { block := 129, off := 0 }), Value.pointer (some { block := 128, off := 0 })] })) T.nil T.nil) T.nil)) (T.node (some (Value.pointer (some { block := 126, off := 0 }))) (T.node (some (Value.slice none 0 0)) (T.node (some (Value.string { data := { toList := s } })) T.nil T.nil) T.nil) T.nil)) 21 [10] (codeAt bd [1, 1, 0, 1, 0, 0]) (codeAt bd [1, 1, 0, 1, 0, 1]) 130)) T.nil T.nil) T.nil) T.nil) T.nil) T.nil)) (T.node none (T.node none (T.node none (T.node none (T.node none (T.node (some (AObj.cells 9 [Value.string { data := { toList := s } }] true 2)) T.nil T.nil) T.nil) T.nil) T.nil) T.nil) T.nil)) (T.node none (T.node none (T.node none (T.node none (T.node none (T.node none (T.node (some (AObj.cells 55 [Value.slice none 0 0] true 2)) T.nil T.nil) T.nil) T.nil) T.nil) T.nil) T.nil) (T.node none (T.node none (T.node none (T.node none (T.node none (T.node (some (AObj.deferred (some []))) T.nil T.nil) T.nil) T.nil) T.nil) T.nil) (T.node none T.nil (T.node none T.nil (T.node none T.nil (T.node (some (AObj.cells 55 [Value.slice none 0 0] true 2)) T.nil T.nil)))))), next := 132 }) (.ret (Value.string { data := { toList := List.map TB.lowB s } }) ({ objs := T.node none (T.node none (T.node none (T.node none (T.node none (T.node none (T.node none (T.node (some (AObj.cells 37 [Value.slice none 0 0] true 2)) T.nil T.nil) T.nil) T.nil) T.nil) T.nil) (T.node none (T.node none (T.node none (T.node none (T.node (some (AObj.loop LoopState.ready none 90 (T.node (some (Value.slice none 0 0)) (T.node (some (Value.string { data := { toList := s } })) (T.node none (T.node (some (Value.slice none 0 0)) T.nil T.nil) T.nil) (T.node (some (Value.pointer (some { block := 127, off := 0 }))) (T.node (some (Value.func (Fn.func 150) { toList := [] } { toList := [Value.pointer (some { block := 129, off := 0 }), Value.pointer (some { block := 128, off := 0 })] })) T.nil T.nil) T.nil)) (T.node (some (Value.pointer (some { block := 126, off := 0 }))) (T.node (some (Value.slice none 0 0)) (T.node (some (Value.string { data := { toList := s } })) T.nil T.nil) T.nil) T.nil)) 21 [10] (codeAt bd [1, 1, 0, 1, 0, 0]) (codeAt bd [1, 1, 0, 1, 0, 1]) 130)) T.nil T.nil) T.nil) T.nil) T.nil) T.nil)) (T.node none (T.node none (T.node none (T.node none (T.node none (T.node (some (AObj.cells 9 [Value.string { data := { toList := s } }] true 2)) T.nil T.nil) T.nil) T.nil) T.nil) T.nil) T.nil)) (T.node none (T.node none (T.node none (T.node none (T.node none (T.node none (T.node (some (AObj.cells 55 [Value.slice none 0 0] true 2)) T.nil T.nil) T.nil) T.nil) T.nil) T.nil) T.nil) (T.node none (T.node none (T.node none (T.node none (T.node none (T.node (some (AObj.deferred (some []))) T.nil T.nil) T.nil) T.nil) T.nil) T.nil) (T.node none T.nil (T.node none T.nil (T.node none T.nil (T.node (some (AObj.cells 55 [Value.slice none 0 0] true 2)) T.nil T.nil)))))), next := 132 })) (.need (True ∧ True ∧ True ∧ True ∧ True ∧ True ∧ True) (.stop [0, 4, 9, 10, 11] (S0 s  (fun _ => undef)))))) : CallSpec η Go.Proofs.Tryz.prog B 90 [Value.slice none 0 0, Value.string { data := { toList := s } }] (H0 s) D := by
  refine CallSpec.ofQF hη (CallSpec.enter (fr := (E s).fr) (by kernel_rfl) ?_)
  exact walk_ok (h0 := H0 s) hη hmix hreg (fun _ _ k => k) 10000 (.steps 34 <| .call (.ret (Value.string { data := { toList := List.map TB.lowB s } }) ({ objs := T.node none (T.node none (T.node none (T.node none (T.node none (T.node none (T.node none (T.node (some (AObj.cells 37 [Value.slice none 0 0] true 2)) T.nil T.nil) T.nil) T.nil) T.nil) T.nil) (T.node none (T.node none (T.node none (T.node none (T.node (some (AObj.loop LoopState.ready none 90 (T.node (some (Value.slice none 0 0)) (T.node (some (Value.string { data := { toList := s } })) (T.node none (T.node (some (Value.slice none 0 0)) T.nil T.nil) T.nil) (T.node (some (Value.pointer (some { block := 127, off := 0 }))) (T.node (some (Value.func (Fn.func 150) { toList := [] } { toList := [Value.pointer (some { block := 129, off := 0 }), Value.pointer (some { block := 128, off := 0 })] })) T.nil T.nil) T.nil)) (T.node (some (Value.pointer (some { block := 126, off := 0 }))) (T.node (some (Value.slice none 0 0)) (T.node (some (Value.string { data := { toList := s } })) T.nil T.nil) T.nil) T.nil)) 21 [10] (codeAt bd [1, 1, 0, 1, 0, 0]) (codeAt bd [1, 1, 0, 1, 0, 1]) 130)) T.nil T.nil) T.nil) T.nil) T.nil) T.nil)) (T.node none (T.node none (T.node none (T.node none (T.node none (T.node (some (AObj.cells 9 [Value.string { data := { toList := s } }] true 2)) T.nil T.nil) T.nil) T.nil) T.nil) T.nil) T.nil)) (T.node none (T.node none (T.node none (T.node none (T.node none (T.node none (T.node (some (AObj.cells 55 [Value.slice none 0 0] true 2)) T.nil T.nil) T.nil) T.nil) T.nil) T.nil) T.nil) (T.node none (T.node none (T.node none (T.node none (T.node none (T.node (some (AObj.deferred (some []))) T.nil T.nil) T.nil) T.nil) T.nil) T.nil) (T.node none T.nil (T.node none T.nil (T.node none T.nil (T.node (some (AObj.cells 55 [Value.slice none 0 0] true 2)) T.nil T.nil)))))), next := 132 })) <| .steps 10 <| .stop [0, 4, 9, 10, 11] (some ⟨132, [(131, 126), (127, 127), (129, 128), (128, 129), (126, 130), (130, 131)], [(126, (131, false)), (127, (127, false)), (128, (129, false)), (129, (128, false)), (130, (126, false)), (131, (130, false))]⟩)) (E s) (tmOk_get (by kernel_rfl)) (Eq.mpr (congrArg (W.holds η Go.Proofs.Tryz.prog B 90 (fun kp_ st_ => RunD η Go.Proofs.Tryz.prog B 90 (H0 s) kp_ st_ (QF Go.Proofs.Tryz.prog 126 D)) D) (by kernel_rfl)) h)
theorem cut0 {η : Nat → Value} {B : Nat} (hη : OneCells η) (hmix : Go.Proofs.Tryz.prog.follows .mixedOrders = true) (hreg : RegOk η Go.Proofs.Tryz.prog B noNest) {D : Value → AH → Prop} (s : List UInt8)  (h : W.holds η Go.Proofs.Tryz.prog B 90 (fun kp_ st_ => RunD η Go.Proofs.Tryz.prog B 90 (H0 s) kp_ st_ (QF Go.Proofs.Tryz.prog 126 D)) D (.need (True) (.done 90 (Value.slice none 0 0) (H0 s)))) : RunD η Go.Proofs.Tryz.prog B 90 (H0 s) [0, 4, 9, 10, 11] (S0 s  fun _ => undef) (QF Go.Proofs.Tryz.prog 126 D) := by
  refine RunD.intro (S0 s ) (fun d => ⟨rfl, rfl, rfl⟩) (fun d => tmOk_get (by kernel_rfl)) (fun d => by kernel_rfl) (fun d => ?_)
  exact walk_ok (h0 := H0 s) hη hmix hreg (fun _ _ k => k) 10000 (.steps 18 <| .done (some ⟨126, [], []⟩)) (S0 s  d) (tmOk_get (by kernel_rfl)) (Eq.mpr (congrArg (W.holds η Go.Proofs.Tryz.prog B 90 (fun kp_ st_ => RunD η Go.Proofs.Tryz.prog B 90 (H0 s) kp_ st_ (QF Go.Proofs.Tryz.prog 126 D)) D) (by kernel_rfl)) h)
end HVal0
namespace HFar0
set_option linter.unusedVariables false
noncomputable def bd : Code := (Go.Proofs.Tryz.f31.body).getD .skip
noncomputable def H0 (n : Int) : AH := { objs := T.nil, next := 126 }
noncomputable def E (n : Int) : AS := ⟨⟨31, 33, T.node (some (Value.slice none 0 0)) T.nil T.nil, [Item.code (codeAt bd [])], [], FrameMode.run, CallKind.normal, none⟩, [], ⟨T.nil, 126⟩⟩
noncomputable def S0 (n : Int)  (d : Nat → Value) : AS := ⟨⟨31, 33, T.node (some (Value.slice none 0 0)) (T.node (some (d 1)) (T.node (some (Value.int IntKind.i64 0)) (T.node (some (d 7)) (T.node (some (d 15)) (T.node (some (d 31)) T.nil T.nil) T.nil) (T.node (some (d 23)) T.nil T.nil)) (T.node (some (d 11)) (T.node (some (d 19)) T.nil T.nil) (T.node (some (d 27)) T.nil T.nil))) (T.node (some (d 5)) (T.node (some (d 9)) (T.node (some (d 17)) T.nil T.nil) (T.node (some (d 25)) T.nil T.nil)) (T.node (some (d 13)) (T.node (some (d 21)) T.nil T.nil) (T.node (some (d 29)) T.nil T.nil)))) (T.node (some (d 2)) (T.node (some (Value.int IntKind.i64 0)) (T.node (some (d 8)) (T.node (some (d 16)) (T.node (some (d 32)) T.nil T.nil) T.nil) (T.node (some (d 24)) T.nil T.nil)) (T.node (some (d 12)) (T.node (some (d 20)) T.nil T.nil) (T.node (some (d 28)) T.nil T.nil))) (T.node (some (d 6)) (T.node (some (d 10)) (T.node (some (d 18)) T.nil T.nil) (T.node (some (d 26)) T.nil T.nil)) (T.node (some (d 14)) (T.node (some (d 22)) T.nil T.nil) (T.node (some (d 30)) T.nil T.nil)))), [Item.code (codeAt bd [1, 1, 1, 0, 1, 0, 0]), Item.inLoop (codeAt bd [1, 1, 1, 0, 1, 0, 0]), Item.inBlock 0, Item.code (codeAt bd [1, 1, 1, 1])], [], FrameMode.run, CallKind.normal, none⟩, [], ⟨T.nil, 126⟩⟩
theorem enter {η : Nat → Value} {B : Nat} (hη : OneCells η) (hmix : Go.Proofs.Tryz.prog.follows .mixedOrders = true) (hreg : RegOk η Go.Proofs.Tryz.prog B noNest) {D : Value → AH → Prop} (n : Int) (h : W.holds η Go.Proofs.Tryz.prog B 31 (fun kp_ st_ => RunD η Go.Proofs.Tryz.prog B 31 (H0 n) kp_ st_ (QF Go.Proofs.Tryz.prog 126 D)) D (.stop [0, 3, 4] (S0 n  (fun _ => undef)))) : CallSpec η Go.Proofs.Tryz.prog B 31 [Value.slice none 0 0] (H0 n) D := by
  refine CallSpec.ofQF hη (CallSpec.enter (fr := (E n).fr) (by kernel_rfl) ?_)
  exact walk_ok (h0 := H0 n) hη hmix hreg (fun _ _ k => k) 10000 (.steps 24 <| .stop [0, 3, 4] none) (E n) (tmOk_get (by kernel_rfl)) (Eq.mpr (congrArg (W.holds η Go.Proofs.Tryz.prog B 31 (fun kp_ st_ => RunD η Go.Proofs.Tryz.prog B 31 (H0 n) kp_ st_ (QF Go.Proofs.Tryz.prog 126 D)) D) (by kernel_rfl)) h)
theorem cut0 {η : Nat → Value} {B : Nat} (hη : OneCells η) (hmix : Go.Proofs.Tryz.prog.follows .mixedOrders = true) (hreg : RegOk η Go.Proofs.Tryz.prog B noNest) {D : Value → AH → Prop} (n : Int)  (h : W.holds η Go.Proofs.Tryz.prog B 31 (fun kp_ st_ => RunD η Go.Proofs.Tryz.prog B 31 (H0 n) kp_ st_ (QF Go.Proofs.Tryz.prog 126 D)) D (.done 31 (Value.bool false) (H0 n))) : RunD η Go.Proofs.Tryz.prog B 31 (H0 n) [0, 3, 4] (S0 n  fun _ => undef) (QF Go.Proofs.Tryz.prog 126 D) := by
  refine RunD.intro (S0 n ) (fun d => ⟨rfl, rfl, rfl⟩) (fun d => tmOk_get (by kernel_rfl)) (fun d => by kernel_rfl) (fun d => ?_)
  exact walk_ok (h0 := H0 n) hη hmix hreg (fun _ _ k => k) 10000 (.steps 17 <| .done none) (S0 n  d) (tmOk_get (by kernel_rfl)) (Eq.mpr (congrArg (W.holds η Go.Proofs.Tryz.prog B 31 (fun kp_ st_ => RunD η Go.Proofs.Tryz.prog B 31 (H0 n) kp_ st_ (QF Go.Proofs.Tryz.prog 126 D)) D) (by kernel_rfl)) h)
end HFar0
end Go.Ev

namespace Go.Ev
set_option linter.unusedVariables false
set_option linter.unusedSimpArgs false
open Go Go.Proofs Go.RowKit
variable {η : Nat → Value} {B : Nat}
namespace TH
open TB TE
def FldsAt (c : List Value) (o : Nat) (l : List HF) : Prop := c.all bareV = true ∧ ∀ (i : Nat) (hi : i < l.length), c[o + i * 2]? = some (.string ⟨⟨l[i].1⟩⟩) ∧ c[o + i * 2 + 1]? = some (.string ⟨⟨l[i].2⟩⟩)
/-- A value that stands for a list of fields. -/
def IsFlds (h : AH) (v : Value) (l : List HF) : Prop :=
  (v = .slice none 0 0 ∧ l = []) ∨ ∃ r o ty c own cap, v = .slice (some ⟨r, o, none⟩) l.length cap ∧ h.objs.get r = some (.cells ty c false own) ∧ FldsAt c o l
theorem take2 {c : List Value} {k : Nat} {x y : Value} (h0 : c[k]? = some x) (h1 : c[k + 1]? = some y) : k + 2 ≤ c.length ∧ List.take 2 (List.drop k c) = [x, y] := by
  obtain ⟨l0, e0⟩ := List.getElem?_eq_some_iff.1 h0
  obtain ⟨l1, e1⟩ := List.getElem?_eq_some_iff.1 h1
  refine ⟨by omega, ?_⟩
  rw [List.drop_eq_getElem_cons l0, List.drop_eq_getElem_cons l1, e0, e1]
  rfl
theorem fl_get {c : List Value} {o : Nat} {l : List HF} (F : FldsAt c o l) {i : Nat} (hi : i < l.length) : (o + i * 2 + 2 ≤ c.length ∧ List.take 2 (List.drop (o + i * 2) c) = [.string ⟨⟨l[i].1⟩⟩, .string ⟨⟨l[i].2⟩⟩]) ∧ strAt c (o + i * 2) = l[i].1 ∧ strAt c (o + i * 2 + 1) = l[i].2 := by
  obtain ⟨h0, h1⟩ := F.2 i hi
  exact ⟨take2 h0 h1, by unfold strAt; rw [h0], by unfold strAt; rw [h1]⟩
theorem nn_bare {c : List Value} (h : c.all bareV = true) : NoNames c := by
  intro v hv
  have := List.all_eq_true.1 h v hv
  cases v with
  | pointer a => cases a <;> simp_all [bareV, bareN]
  | map a => cases a <;> simp_all [bareV, bareN]
  | slice a l c => cases a <;> simp_all [bareV, bareN]
  | _ => simp_all [bareV, bareN]
theorem IsFlds.at_ {h : AH} {v : Value} {l : List HF} (k : IsFlds h v l) : fieldsAt h v = l := by
  rcases k with ⟨rfl, rfl⟩ | ⟨r, o, ty, c, own, cap, rfl, hr, F⟩
  · rfl
  · unfold fieldsAt
    simp only [hr]
    refine List.ext_getElem (by simp) fun i h1 h2 => ?_
    obtain ⟨_, g1, g2⟩ := fl_get F h2
    rw [List.getElem_map, List.getElem_range]
    rw [show o + 2 * i = o + i * 2 by omega, g1, g2]
theorem rows1 {h : AH} {r ty own : Nat} {c : List Value} (hr : h.objs.get r = some (.cells ty c false own)) (hb : c.all bareV = true) : RowsIn h [(ty, c)] (fun _ => r) := by
  refine ⟨fun i x hi => ?_, fun i j hi hj _ => ?_⟩
  · match i with
    | 0 => simp at hi; subst hi; exact ⟨hb, own, hr⟩
    | i + 1 => simp at hi
  · simp only [List.length_singleton] at hi hj; omega
theorem rv_agg2 {σ : Nat → Nat} {M : Nat} {w : Bool} (n v : List UInt8) : RV σ M w (.agg ⟨[.string ⟨⟨n⟩⟩, .string ⟨⟨v⟩⟩]⟩) (.agg ⟨[.string ⟨⟨n⟩⟩, .string ⟨⟨v⟩⟩]⟩) := .agg rfl fun i x y hx hy => by
  rw [hx] at hy; injection hy with hy; subst hy
  match i, hx with
  | 0, hx => simp at hx; subst hx; exact .string _
  | 1, hx => simp at hx; subst hx; exact .string _
theorem wrapL' {z : Int} (h0 : 0 ≤ z) (h : z ≤ 1000000000) : IntKind.i64.wrap z = z := by
  have : ∃ n : Nat, z = n := ⟨z.toNat, by omega⟩
  obtain ⟨n, rfl⟩ := this
  cases n with
  | zero => rfl
  | succ n => exact wrap1 (i := n) (by omega)
theorem lln_ok (hη : OneCells η) (hmix : Tryz.prog.follows .mixedOrders = true) (n v : List UInt8) (hn : n.length ≤ 1000000) (hv : v.length ≤ 1000000) (h : AH) :
    CallSpec η Tryz.prog B 95 [.agg ⟨[.string ⟨⟨n⟩⟩, .string ⟨⟨v⟩⟩]⟩] h (llnK [.agg ⟨[.string ⟨⟨n⟩⟩, .string ⟨⟨v⟩⟩]⟩] h).sat := by
  refine CallSpec.bare (v := .int .i64 (len4 n v)) hη gs9 (fun _ _ => .cons (rv_agg2 _ _) .nil) (fun σ M => .int _ _) (fun σ M => .int _ _) ?_ h
  refine HLln.enter hη hmix (reg0 hη hmix) _ _ ?_
  simp only [W.holds, true_and, true_implies]
  rw [wrapL' (z := (n.length : Int) + 2) (by omega) (by omega), wrapL' (z := (n.length : Int) + 2 + (v.length : Int)) (by omega) (by omega), wrapL' (z := (n.length : Int) + 2 + (v.length : Int) + 2) (by omega) (by omega)]
  unfold len4
  congr 1; omega
/-- The bounds that the walks ask. -/
def Small (l : List HF) : Prop := l.length ≤ 200 ∧ ∀ p ∈ l, p.1.length ≤ 20000 ∧ p.2.length ≤ 20000
theorem chk_can (hη : OneCells η) (hmix : Tryz.prog.follows .mixedOrders = true) {l : List HF} {c : List Value} {o : Nat} (ty cap : Nat) (F : FldsAt c o l) (hL : Small l) :
    CallSpec η Tryz.prog B 37 [.slice (some ⟨126, o, none⟩) l.length cap] (heapT [(ty, c)]) (fun v h => v = .int .i64 (chk l) ∧ h = heapT [(ty, c)]) := by
  have e0 : HChk.H0 ty o c l.length cap = heapT [(ty, c)] := rfl
  rw [← e0]
  have nn := nn_bare F.1
  have cut := fun i0 i1 => HChk.cut0 (η := η) (B := B) (D := fun v h => v = .int .i64 (chk l) ∧ h = HChk.H0 ty o c l.length cap) hη hmix (reg0 hη hmix) ty o c l.length cap i0 i1
  refine HChk.enter hη hmix (reg0 hη hmix) _ _ _ _ _ ?_
  simp only [W.holds, true_and, and_true, decide_eq_true_eq, decide_eq_false_iff_not, bne_iff_ne, bne_eq_false_iff_eq, true_implies] at cut ⊢
  have loop : ∀ (rest : List HF) (i n : Nat), l.drop i = rest → n ≤ 2 + 40004 * i → ¬ 100 < l.length → chkF l 2 = chkF rest n → RunD η Tryz.prog B 37 (HChk.H0 ty o c l.length cap) [3, 10, 11, 12] (HChk.S0 ty o c l.length cap (n : Int) (i : Int) fun _ => undef) (QF Tryz.prog 127 fun v h => v = .int .i64 (chk l) ∧ h = HChk.H0 ty o c l.length cap) := by
    intro rest
    induction rest with
    | nil =>
      intro i n hd hn h1 he
      have hi : l.length ≤ i := List.drop_eq_nil_iff.1 hd
      have hc : chk l = if 8192 < n then 3 else 0 := by unfold chk; rw [if_neg h1, he]; rfl
      refine cut _ _ ⟨fun h => by omega, fun _ => ⟨fun h => ?_, fun h => ?_⟩⟩
      · rw [hc, if_pos (by omega)]
      · rw [hc, if_neg (by omega)]
    | cons p rest ih =>
      intro i n hd hn h1 he
      have hi : i < l.length := by
        rcases Nat.lt_or_ge i l.length with h | h
        · exact h
        · rw [List.drop_of_length_le h] at hd; cases hd
      rw [List.drop_eq_getElem_cons hi] at hd
      injection hd with e1 e2
      obtain ⟨b1, b2⟩ := hL.2 p (by rw [← e1]; exact List.getElem_mem hi)
      have hl := hL.1
      obtain ⟨g0, g1, g2⟩ := fl_get F hi
      have c1 := cut (n : Int) (i : Int)
      rw [Int.toNat_natCast, g1, g2, wrap1 (by omega), e1] at c1
      rw [e1] at g0
      have hw : IntKind.i64.wrap ((n : Int) + len4 p.1 p.2) = ((n + p.1.length + p.2.length + 4 : Nat) : Int) := by
        unfold len4
        rw [wrapL' (by omega) (by omega)]; omega
      rw [hw] at c1
      refine c1 ⟨fun _ => ⟨⟨by omega, by omega⟩, fun _ => ⟨g0, fun _ => ⟨ckf_ok hη hmix p.1 p.2 (by omega) (by omega) _, fun hne => ⟨nn, fun _ => ?_⟩, fun heq => ⟨lln_ok hη hmix p.1 p.2 (by omega) (by omega) _, ⟨nn, fun _ => ?_⟩⟩⟩⟩⟩, fun h => by omega⟩
      · unfold chk; rw [if_neg h1, he]
        unfold chkF; rw [if_pos hne]
      · exact ih (i + 1) _ e2 (by omega) h1 (by rw [he]; conv => lhs; unfold chkF; rw [if_neg (by rw [heq]; simp)])
  refine ⟨fun h => ?_, fun h => loop l 0 2 rfl (by omega) (by omega) rfl⟩
  unfold chk; rw [if_pos (by omega)]
/-- Check, from any heap in which the list stands. -/
theorem chk_ok (hη : OneCells η) (hmix : Tryz.prog.follows .mixedOrders = true) {h : AH} {v : Value} {l : List HF} (k : IsFlds h v l) (hL : Small l) :
    CallSpec η Tryz.prog B 37 [v] h (chkK [v] h).sat := by
  show CallSpec η Tryz.prog B 37 [v] h (KT.ret (.int .i64 (chk (fieldsAt h v))) h).sat
  rw [k.at_]
  rcases k with ⟨rfl, rfl⟩ | ⟨r, o, ty, c, own, cap, rfl, hr, F⟩
  · refine CallSpec.pure hη gs9 (fun _ _ => .cons (.slice0 _ _) .nil) (fun _ _ => .int _ _) ?_ h
    refine HChk0.enter hη hmix (reg0 hη hmix) 0 ?_
    simp only [W.holds]
    exact HChk0.cut0 hη hmix (reg0 hη hmix) 0 (by simp only [W.holds, true_and]; exact ⟨rfl, rfl⟩)
  · exact CallSpec.pureR (args := [.slice (some ⟨126, o, none⟩) l.length cap]) hη gs9 (rows1 hr F.1) (.cons (.slice (σ := sigR fun _ => r) _ _ (by simp)) .nil) (fun _ _ => .int _ _) (chk_can hη hmix ty cap F hL)
theorem rchk_can (hη : OneCells η) (hmix : Tryz.prog.follows .mixedOrders = true) {l : List HF} {c : List Value} {o : Nat} (ty cap : Nat) (F : FldsAt c o l) (hL : Small l) :
    CallSpec η Tryz.prog B 38 [.slice (some ⟨126, o, none⟩) l.length cap] (heapT [(ty, c)]) (fun v h => v = .int .i64 (chk l) ∧ h = heapT [(ty, c)]) := by
  have e0 : HRChk.H0 ty o c l.length cap = heapT [(ty, c)] := rfl
  rw [← e0]
  have nn := nn_bare F.1
  have cut := fun i0 i1 => HRChk.cut0 (η := η) (B := B) (D := fun v h => v = .int .i64 (chk l) ∧ h = HRChk.H0 ty o c l.length cap) hη hmix (reg0 hη hmix) ty o c l.length cap i0 i1
  refine HRChk.enter hη hmix (reg0 hη hmix) _ _ _ _ _ ?_
  simp only [W.holds, consM, Nat.reduceEqDiff, false_implies, true_and, and_true, decide_eq_true_eq, decide_eq_false_iff_not, Bool.not_eq_true', Bool.not_eq_false', beq_iff_eq, beq_eq_false_iff_ne, true_implies] at cut ⊢
  have loop : ∀ (rest : List HF) (i n : Nat), l.drop i = rest → n ≤ 2 + 40004 * i → ¬ 100 < l.length → chkF l 2 = chkF rest n → RunD η Tryz.prog B 38 (HRChk.H0 ty o c l.length cap) [0, 3, 4] (HRChk.S0 ty o c l.length cap (n : Int) (i : Int) fun _ => undef) (QF Tryz.prog 127 fun v h => v = .int .i64 (chk l) ∧ h = HRChk.H0 ty o c l.length cap) := by
    intro rest
    induction rest with
    | nil =>
      intro i n hd hn h1 he
      have hi : l.length ≤ i := List.drop_eq_nil_iff.1 hd
      have hc : chk l = if 8192 < n then 3 else 0 := by unfold chk; rw [if_neg h1, he]; rfl
      refine cut _ _ ⟨fun h => by omega, fun _ => ⟨fun h => ?_, fun h => ?_⟩⟩
      · rw [hc, if_pos (by omega)]
      · rw [hc, if_neg (by omega)]
    | cons p rest ih =>
      intro i n hd hn h1 he
      have hi : i < l.length := by
        rcases Nat.lt_or_ge i l.length with h | h
        · exact h
        · rw [List.drop_of_length_le h] at hd; cases hd
      rw [List.drop_eq_getElem_cons hi] at hd
      injection hd with e1 e2
      obtain ⟨b1, b2⟩ := hL.2 p (by rw [← e1]; exact List.getElem_mem hi)
      have hl := hL.1
      obtain ⟨g0, g1, g2⟩ := fl_get F hi
      have c1 := cut (n : Int) (i : Int)
      rw [Int.toNat_natCast, g1, g2, wrap1 (by omega), e1] at c1
      rw [e1] at g0
      have hw : IntKind.i64.wrap (IntKind.i64.wrap (IntKind.i64.wrap (IntKind.i64.wrap ((n : Int) + (p.1.length : Int)) + 2) + (p.2.length : Int)) + 2) = ((n + p.1.length + p.2.length + 4 : Nat) : Int) := by
        rw [wrapL' (z := (n : Int) + (p.1.length : Int)) (by omega) (by omega), wrapL' (z := (n : Int) + (p.1.length : Int) + 2) (by omega) (by omega), wrapL' (z := (n : Int) + (p.1.length : Int) + 2 + (p.2.length : Int)) (by omega) (by omega), wrapL' (z := (n : Int) + (p.1.length : Int) + 2 + (p.2.length : Int) + 2) (by omega) (by omega)]; omega
      rw [hw] at c1
      have hbad : ckf p.1 p.2 ≠ 0 → chk l = ckf p.1 p.2 := by
        intro hne; unfold chk; rw [if_neg h1, he]; unfold chkF; rw [if_pos hne]
      have e6 : ckB p.1 p.2 = false → chk l = 6 := by
        intro h; have : ckf p.1 p.2 = 6 := by unfold ckf; rw [if_pos h]
        rw [hbad (by rw [this]; decide), this]
      refine c1 ⟨fun _ => ⟨⟨by omega, by omega⟩, fun _ => ⟨g0, fun _ => ⟨rtok_ok hη hmix p.1 _, fun q1 => ⟨nn, fun _ => ?_⟩, fun q1 => ⟨pln_ok hη hmix p.2 (by omega) _, fun q2 => ⟨nn, fun _ => ?_⟩, fun q2 => ⟨htrim_ok hη hmix p.2 (by omega) _, fun q3 => ⟨nn, fun _ => ?_⟩, fun q3 => ⟨fun q4 => ⟨nn, fun _ => ?_⟩, fun q4 => ⟨nn, fun _ => ?_⟩⟩⟩⟩⟩⟩⟩, fun h => by omega⟩
      · rw [e6 (by unfold ckB; rw [q1]; rfl)]
      · rw [e6 (by unfold ckB; rw [q1, q2]; rfl)]
      · rw [e6 (by unfold ckB; rw [q1, q2, Bool.true_and, Bool.true_and]; exact decide_eq_false q3)]
      · have hb : ckB p.1 p.2 = true := by unfold ckB; rw [q1, q2, Bool.true_and, Bool.true_and]; exact decide_eq_true q3
        have : ckf p.1 p.2 = 3 := by unfold ckf; rw [if_neg (by rw [hb]; simp), if_pos (by omega)]
        rw [hbad (by rw [this]; decide), this]
      · have hb : ckB p.1 p.2 = true := by unfold ckB; rw [q1, q2, Bool.true_and, Bool.true_and]; exact decide_eq_true q3
        have : ckf p.1 p.2 = 0 := by unfold ckf; rw [if_neg (by rw [hb]; simp), if_neg (by omega)]
        exact ih (i + 1) _ e2 (by omega) h1 (by rw [he]; conv => lhs; unfold chkF; rw [if_neg (by rw [this]; simp)])
  refine ⟨fun h => ?_, fun h => loop l 0 2 rfl (by omega) (by omega) rfl⟩
  unfold chk; rw [if_pos (by omega)]
theorem rchk_ok (hη : OneCells η) (hmix : Tryz.prog.follows .mixedOrders = true) {h : AH} {v : Value} {l : List HF} (k : IsFlds h v l) (hL : Small l) :
    CallSpec η Tryz.prog B 38 [v] h (chkK [v] h).sat := by
  show CallSpec η Tryz.prog B 38 [v] h (KT.ret (.int .i64 (chk (fieldsAt h v))) h).sat
  rw [k.at_]
  rcases k with ⟨rfl, rfl⟩ | ⟨r, o, ty, c, own, cap, rfl, hr, F⟩
  · refine CallSpec.pure hη gs9 (fun _ _ => .cons (.slice0 _ _) .nil) (fun _ _ => .int _ _) ?_ h
    refine HRChk0.enter hη hmix (reg0 hη hmix) 0 ?_
    simp only [W.holds]
    exact HRChk0.cut0 hη hmix (reg0 hη hmix) 0 (by simp only [W.holds, true_and]; exact ⟨rfl, rfl⟩)
  · exact CallSpec.pureR (args := [.slice (some ⟨126, o, none⟩) l.length cap]) hη gs9 (rows1 hr F.1) (.cons (.slice (σ := sigR fun _ => r) _ _ (by simp)) .nil) (fun _ _ => .int _ _) (rchk_can hη hmix ty cap F hL)
end TH
end Go.Ev

namespace Go.Ev
set_option linter.unusedVariables false
set_option linter.unusedSimpArgs false
open Go Go.Proofs Go.RowKit
variable {η : Nat → Value} {B : Nat}
namespace TH
open TB TE
theorem is_ok (hη : OneCells η) (hmix : Tryz.prog.follows .mixedOrders = true) (n v s : List UInt8) (hn : n.length ≤ 900000) (hs : s.length ≤ 900000) (h : AH) :
    CallSpec η Tryz.prog B 99 [.agg ⟨[.string ⟨⟨n⟩⟩, .string ⟨⟨v⟩⟩]⟩, .string ⟨⟨s⟩⟩] h (isK [.agg ⟨[.string ⟨⟨n⟩⟩, .string ⟨⟨v⟩⟩]⟩, .string ⟨⟨s⟩⟩] h).sat := by
  refine CallSpec.bare (v := .bool (isB n s)) hη gs9 (fun _ _ => .cons (rv_agg2 _ _) (.cons (.string _) .nil)) (fun σ M => .bool _) (fun σ M => .bool _) ?_ h
  refine HIs.enter hη hmix (reg0 hη hmix) _ _ _ ?_
  simp only [W.holds, true_and, true_implies]
  exact ⟨rfold_ok hη hmix n hn _, rfold_ok hη hmix s hs _, rfl⟩
theorem get_cons (p : HF) (l : List HF) (s : List UInt8) : get (p :: l) s = if isB p.1 s = true then p.2 :: get l s else get l s := by
  unfold get
  rw [List.filter_cons]
  split <;> rfl
theorem get_len (s : List UInt8) : ∀ l : List HF, (get l s).length ≤ l.length
  | [] => by simp [get]
  | p :: l => by
    rw [get_cons]
    have := get_len s l
    split <;> simp only [List.length_cons] <;> omega
theorem get_small {l : List HF} {s : List UInt8} (hL : Small l) : ∀ x ∈ get l s, x.length ≤ 20000 := by
  intro x hx
  unfold get at hx
  rw [List.mem_map] at hx
  obtain ⟨p, hp, rfl⟩ := hx
  exact (hL.2 p (List.mem_filter.1 hp).1).2
theorem rget_can (hη : OneCells η) (hmix : Tryz.prog.follows .mixedOrders = true) {l : List HF} {c : List Value} {o : Nat} (ty cap : Nat) (F : FldsAt c o l) (hL : Small l) (s : List UInt8) (hs : s.length ≤ 20000) {D : Value → AH → Prop}
    (dnone : get l s = [] → D (.slice none 0 0) (heapT [(ty, c)])) (dsome : get l s ≠ [] → D (.slice (some ⟨127, 0, none⟩) (get l s).length (capU 1)) (withRow (heapT [(ty, c)]) 9 (strs (get l s)) false)) :
    CallSpec η Tryz.prog B 93 [.slice (some ⟨126, o, none⟩) l.length cap, .string ⟨⟨s⟩⟩] (heapT [(ty, c)]) D := by
  have e0 : HRGet.H0 ty o c l.length cap s = heapT [(ty, c)] := rfl
  rw [← e0]
  have nn := nn_bare F.1
  have hl := hL.1
  have cut0 := fun i0 => HRGet.cut0 (η := η) (B := B) (D := D) hη hmix (reg0 hη hmix) ty o c l.length cap s i0
  have cut1 := fun n0 i0 l0 => HRGet.cut1 (η := η) (B := B) (D := D) hη hmix (reg0 hη hmix) ty o c l.length cap s n0 i0 l0
  refine HRGet.enter hη hmix (reg0 hη hmix) _ _ _ _ _ _ ?_
  simp only [W.holds, true_and, and_true, decide_eq_true_eq, decide_eq_false_iff_not, true_implies, Nat.mul_one, Nat.le_refl] at cut0 cut1 ⊢
  have loop1 : ∀ (rest : List HF) (i : Nat) (L : List (List UInt8)), l.drop i = rest → L ≠ [] → L.length ≤ i → get l s = L ++ get rest s → RunD η Tryz.prog B 93 (HRGet.H0 ty o c l.length cap s) [0, 1, 5, 6] (HRGet.S1 ty o c l.length cap s L.length (i : Int) (strs L) fun _ => undef) (QF Tryz.prog 127 D) := by
    intro rest
    induction rest with
    | nil =>
      intro i L hd hne hi0 he
      have hi : l.length ≤ i := List.drop_eq_nil_iff.1 hd
      refine cut1 _ _ _ ⟨fun h => by omega, fun _ => ?_⟩
      rw [show get [] s = [] from rfl, List.append_nil] at he
      have := dsome (by rw [he]; exact hne)
      rw [he] at this
      exact Eq.mp (by kernel_rfl) this
    | cons p rest ih =>
      intro i L hd hne hi0 he
      have hi : i < l.length := by
        rcases Nat.lt_or_ge i l.length with h | h
        · exact h
        · rw [List.drop_of_length_le h] at hd; cases hd
      rw [List.drop_eq_getElem_cons hi] at hd
      injection hd with e1 e2
      obtain ⟨b1, b2⟩ := hL.2 p (by rw [← e1]; exact List.getElem_mem hi)
      obtain ⟨g0, g1, g2⟩ := fl_get F hi
      have g3 := (F.2 i hi).2
      rw [get_cons] at he
      have c1 := cut1 L.length (i : Int) (strs L)
      rw [Int.toNat_natCast, g1, g2, wrap1 (by omega), e1] at c1
      rw [e1] at g0 g3
      have hI : (0 : Int) ≤ (i : Int) ∧ (i : Int) < (l.length : Int) := ⟨by omega, by omega⟩
      refine c1 ⟨fun _ => ⟨hI, fun _ => ⟨g0, fun _ => ⟨is_ok hη hmix p.1 p.2 s (by omega) (by omega) _, fun q => ⟨hI, fun _ => ⟨g3, fun _ => ⟨⟨strs_len L, by omega⟩, fun _ => ⟨⟨nn, by rw [strs_snoc]; exact strs_nn _⟩, fun _ => ?_⟩⟩⟩⟩, fun q => ?_⟩⟩⟩, fun h => by omega⟩
      · rw [if_pos q] at he
        have := ih (i + 1) (L ++ [p.2]) e2 (by simp) (by simp; omega) (by rw [he]; simp)
        rw [strs_snoc]
        rw [List.length_append, List.length_singleton] at this
        exact this
      · rw [if_neg (by rw [q]; simp)] at he
        exact ih (i + 1) L e2 hne (by omega) he
  have loop0 : ∀ (rest : List HF) (i : Nat), l.drop i = rest → get l s = get rest s → RunD η Tryz.prog B 93 (HRGet.H0 ty o c l.length cap s) [0, 1, 5, 6] (HRGet.S0 ty o c l.length cap s (i : Int) fun _ => undef) (QF Tryz.prog 127 D) := by
    intro rest
    induction rest with
    | nil =>
      intro i hd he
      have hi : l.length ≤ i := List.drop_eq_nil_iff.1 hd
      refine cut0 _ ⟨fun h => by omega, fun _ => ?_⟩
      exact dnone he
    | cons p rest ih =>
      intro i hd he
      have hi : i < l.length := by
        rcases Nat.lt_or_ge i l.length with h | h
        · exact h
        · rw [List.drop_of_length_le h] at hd; cases hd
      rw [List.drop_eq_getElem_cons hi] at hd
      injection hd with e1 e2
      obtain ⟨b1, b2⟩ := hL.2 p (by rw [← e1]; exact List.getElem_mem hi)
      obtain ⟨g0, g1, g2⟩ := fl_get F hi
      have g3 := (F.2 i hi).2
      rw [get_cons] at he
      have c1 := cut0 (i : Int)
      rw [Int.toNat_natCast, g1, g2, wrap1 (by omega), e1] at c1
      rw [e1] at g0 g3
      have hI : (0 : Int) ≤ (i : Int) ∧ (i : Int) < (l.length : Int) := ⟨by omega, by omega⟩
      refine c1 ⟨fun _ => ⟨hI, fun _ => ⟨g0, fun _ => ⟨is_ok hη hmix p.1 p.2 s (by omega) (by omega) _, fun q => ⟨hI, fun _ => ⟨g3, fun _ => ⟨nn, fun _ => ?_⟩⟩⟩, fun q => ?_⟩⟩⟩, fun h => by omega⟩
      · rw [if_pos q] at he
        exact loop1 rest (i + 1) [p.2] e2 (by simp) (by simp) (by rw [he]; rfl)
      · rw [if_neg (by rw [q]; simp)] at he
        exact ih (i + 1) e2 he
  exact loop0 l 0 rfl rfl
theorem val_can (hη : OneCells η) (hmix : Tryz.prog.follows .mixedOrders = true) {l : List HF} {c : List Value} {o : Nat} (ty cap : Nat) (F : FldsAt c o l) (hL : Small l) (s : List UInt8) (hs : s.length ≤ 20000) {D : Value → AH → Prop}
    (dnone : get l s = [] → D (.slice none 0 0) (heapT [(ty, c)])) (dsome : get l s ≠ [] → D (.slice (some ⟨127, 0, none⟩) (get l s).length (capU 1)) (withRow (heapT [(ty, c)]) 9 (strs (get l s)) false)) :
    CallSpec η Tryz.prog B 90 [.slice (some ⟨126, o, none⟩) l.length cap, .string ⟨⟨s⟩⟩] (heapT [(ty, c)]) D := by
  have e0 : HVal.H0 ty o c l.length cap s = heapT [(ty, c)] := rfl
  rw [← e0]
  have nn := nn_bare F.1
  have hl := hL.1
  have cut0 := fun i0 => HVal.cut0 (η := η) (B := B) (D := D) hη hmix (reg0 hη hmix) ty o c l.length cap s i0
  have cut1 := fun i0 l0 n0 => HVal.cut1 (η := η) (B := B) (D := D) hη hmix (reg0 hη hmix) ty o c l.length cap s i0 l0 n0
  refine HVal.enter hη hmix (reg0 hη hmix) _ _ _ _ _ _ ?_
  simp only [W.holds, true_and, and_true, decide_eq_true_eq, decide_eq_false_iff_not, true_implies, Nat.mul_one, Nat.le_refl] at cut0 cut1 ⊢
  have loop1 : ∀ (rest : List HF) (i : Nat) (L : List (List UInt8)), l.drop i = rest → L ≠ [] → L.length ≤ i → get l s = L ++ get rest s → RunD η Tryz.prog B 90 (HVal.H0 ty o c l.length cap s) [0, 4, 9, 10, 11] (HVal.S1 ty o c l.length cap s (i : Int) (strs L) L.length fun _ => undef) (QF Tryz.prog 127 D) := by
    intro rest
    induction rest with
    | nil =>
      intro i L hd hne hi0 he
      have hi : l.length ≤ i := List.drop_eq_nil_iff.1 hd
      refine cut1 _ _ _ ⟨fun h => by omega, fun _ => ⟨⟨nn, strs_nn _⟩, fun _ => ?_⟩⟩
      rw [show get [] s = [] from rfl, List.append_nil] at he
      have := dsome (by rw [he]; exact hne)
      rw [he] at this
      exact Eq.mp (by kernel_rfl) this
    | cons p rest ih =>
      intro i L hd hne hi0 he
      have hi : i < l.length := by
        rcases Nat.lt_or_ge i l.length with h | h
        · exact h
        · rw [List.drop_of_length_le h] at hd; cases hd
      rw [List.drop_eq_getElem_cons hi] at hd
      injection hd with e1 e2
      obtain ⟨b1, b2⟩ := hL.2 p (by rw [← e1]; exact List.getElem_mem hi)
      obtain ⟨g0, g1, g2⟩ := fl_get F hi
      have g3 := (F.2 i hi).2
      rw [get_cons] at he
      have c1 := cut1 (i : Int) (strs L) L.length
      rw [Int.toNat_natCast, g1, g2, wrap1 (by omega), e1] at c1
      rw [e1] at g0 g3
      have hI : (0 : Int) ≤ (i : Int) ∧ (i : Int) < (l.length : Int) := ⟨by omega, by omega⟩
      refine c1 ⟨fun _ => ⟨hI, fun _ => ⟨g0, fun _ => ⟨fold_ok hη hmix p.1 (by omega) _, fun q => ⟨hI, fun _ => ⟨g3, fun _ => ⟨clone_ok hη hmix p.2 (by omega) _, ⟨⟨strs_len L, by omega⟩, fun _ => ⟨⟨nn, by rw [strs_snoc]; exact strs_nn _⟩, fun _ => ?_⟩⟩⟩⟩⟩, fun q => ⟨⟨nn, strs_nn _⟩, fun _ => ?_⟩⟩⟩⟩, fun h => by omega⟩
      · rw [if_pos (show isB p.1 s = true from q)] at he
        have := ih (i + 1) (L ++ [p.2]) e2 (by simp) (by simp; omega) (by rw [he]; simp)
        rw [strs_snoc]
        rw [List.length_append, List.length_singleton] at this
        exact this
      · rw [if_neg (by show ¬ ((low p.1 == low s) = true); unfold low; rw [q]; simp)] at he
        exact ih (i + 1) L e2 hne (by omega) he
  have loop0 : ∀ (rest : List HF) (i : Nat), l.drop i = rest → get l s = get rest s → RunD η Tryz.prog B 90 (HVal.H0 ty o c l.length cap s) [0, 4, 9, 10, 11] (HVal.S0 ty o c l.length cap s (i : Int) fun _ => undef) (QF Tryz.prog 127 D) := by
    intro rest
    induction rest with
    | nil =>
      intro i hd he
      have hi : l.length ≤ i := List.drop_eq_nil_iff.1 hd
      refine cut0 _ ⟨fun h => by omega, fun _ => ⟨nn, fun _ => ?_⟩⟩
      exact dnone he
    | cons p rest ih =>
      intro i hd he
      have hi : i < l.length := by
        rcases Nat.lt_or_ge i l.length with h | h
        · exact h
        · rw [List.drop_of_length_le h] at hd; cases hd
      rw [List.drop_eq_getElem_cons hi] at hd
      injection hd with e1 e2
      obtain ⟨b1, b2⟩ := hL.2 p (by rw [← e1]; exact List.getElem_mem hi)
      obtain ⟨g0, g1, g2⟩ := fl_get F hi
      have g3 := (F.2 i hi).2
      rw [get_cons] at he
      have c1 := cut0 (i : Int)
      rw [Int.toNat_natCast, g1, g2, wrap1 (by omega), e1] at c1
      rw [e1] at g0 g3
      have hI : (0 : Int) ≤ (i : Int) ∧ (i : Int) < (l.length : Int) := ⟨by omega, by omega⟩
      refine c1 ⟨fun _ => ⟨hI, fun _ => ⟨g0, fun _ => ⟨fold_ok hη hmix p.1 (by omega) _, fun q => ⟨hI, fun _ => ⟨g3, fun _ => ⟨clone_ok hη hmix p.2 (by omega) _, ⟨nn, fun _ => ?_⟩⟩⟩⟩, fun q => ⟨nn, fun _ => ?_⟩⟩⟩⟩, fun h => by omega⟩
      · rw [if_pos (show isB p.1 s = true from q)] at he
        exact loop1 rest (i + 1) [p.2] e2 (by simp) (by simp) (by rw [he]; rfl)
      · rw [if_neg (by show ¬ ((low p.1 == low s) = true); unfold low; rw [q]; simp)] at he
        exact ih (i + 1) e2 he
  exact ⟨fold_ok hη hmix s (by omega) _, ⟨nn, fun _ => loop0 l 0 rfl rfl⟩⟩
/-- From any heap in which the list stands. -/
theorem listed (hη : OneCells η) {f : FuncId} {h : AH} {v : Value} {l : List HF} {s : List UInt8} (k : IsFlds h v l)
    (c0 : l = [] → CallSpec η Tryz.prog B f [.slice none 0 0, .string ⟨⟨s⟩⟩] (heapN 126) fun v1 h1 => v1 = .slice none 0 0 ∧ h1 = heapN 126)
    (c1 : ∀ {c : List Value} {o ty cap : Nat} {D : Value → AH → Prop}, FldsAt c o l → (get l s = [] → D (.slice none 0 0) (heapT [(ty, c)])) → (get l s ≠ [] → D (.slice (some ⟨127, 0, none⟩) (get l s).length (capU 1)) (withRow (heapT [(ty, c)]) 9 (strs (get l s)) false)) → CallSpec η Tryz.prog B f [.slice (some ⟨126, o, none⟩) l.length cap, .string ⟨⟨s⟩⟩] (heapT [(ty, c)]) D) :
    CallSpec η Tryz.prog B f [v, .string ⟨⟨s⟩⟩] h (valK [v, .string ⟨⟨s⟩⟩] h).sat := by
  show CallSpec η Tryz.prog B f [v, .string ⟨⟨s⟩⟩] h (KT.ite (getB (fieldsAt h v) s) (.ret (.slice none 0 0) h) (.ret (.slice (some ⟨h.next, 0, none⟩) (get (fieldsAt h v) s).length (capU 1)) (withRow h 9 (strs (get (fieldsAt h v) s)) false))).sat
  rw [k.at_]
  have hb : (getB l s = true ∧ get l s = []) ∨ (getB l s = false ∧ get l s ≠ []) := by
    unfold getB
    cases get l s with
    | nil => exact .inl ⟨rfl, rfl⟩
    | cons a b => exact .inr ⟨rfl, by simp⟩
  rcases k with ⟨rfl, rfl⟩ | ⟨r, o, ty, c, own, cap, rfl, hr, F⟩
  · refine (CallSpec.pure hη gs9 (fun _ _ => .cons (.slice0 _ _) (.cons (.string _) .nil)) (fun _ _ => .slice0 _ _) (c0 rfl) h).mono ?_
    rintro v1 h1 ⟨rfl, rfl⟩
    exact .inl ⟨rfl, rfl, rfl⟩
  · rcases hb with ⟨hb, he⟩ | ⟨hb, he⟩
    · refine (CallSpec.pureR (v := .slice none 0 0) (args := [.slice (some ⟨126, o, none⟩) l.length cap, .string ⟨⟨s⟩⟩]) hη gs9 (rows1 hr F.1) (.cons (.slice (σ := sigR fun _ => r) _ _ (by simp)) (.cons (.string _) .nil)) (fun _ _ => .slice0 _ _) (c1 F (fun _ => ⟨rfl, rfl⟩) fun h => absurd he h)).mono ?_
      rintro v1 h1 ⟨rfl, rfl⟩
      exact .inl ⟨hb, rfl, rfl⟩
    · refine (CallSpec.freshR (mk := fun r => .slice (some ⟨r, 0, none⟩) (get l s).length (capU 1)) (ty := 9) (c := strs (get l s)) (p := false) (args := [.slice (some ⟨126, o, none⟩) l.length cap, .string ⟨⟨s⟩⟩]) hη gs9 (rows1 hr F.1) (.cons (.slice (σ := sigR fun _ => r) _ _ (by simp)) (.cons (.string _) .nil)) (fun σ M r hr => .slice _ _ hr) (strs_all _) (c1 F (fun h => absurd h he) fun _ => ⟨rfl, rfl⟩)).mono ?_
      rintro v1 h1 ⟨rfl, rfl⟩
      exact .inr ⟨hb, rfl, rfl⟩
theorem rget_ok (hη : OneCells η) (hmix : Tryz.prog.follows .mixedOrders = true) {h : AH} {v : Value} {l : List HF} (k : IsFlds h v l) (hL : Small l) (s : List UInt8) (hs : s.length ≤ 20000) :
    CallSpec η Tryz.prog B 93 [v, .string ⟨⟨s⟩⟩] h (valK [v, .string ⟨⟨s⟩⟩] h).sat := by
  refine listed hη k (fun _ => ?_) fun F d0 d1 => rget_can hη hmix _ _ F hL s hs d0 d1
  refine HRGet0.enter hη hmix (reg0 hη hmix) s ?_
  simp only [W.holds]
  exact HRGet0.cut0 hη hmix (reg0 hη hmix) s (by simp only [W.holds, true_and]; exact rfl)
theorem val_ok (hη : OneCells η) (hmix : Tryz.prog.follows .mixedOrders = true) {h : AH} {v : Value} {l : List HF} (k : IsFlds h v l) (hL : Small l) (s : List UInt8) (hs : s.length ≤ 20000) :
    CallSpec η Tryz.prog B 90 [v, .string ⟨⟨s⟩⟩] h (valK [v, .string ⟨⟨s⟩⟩] h).sat := by
  refine listed hη k (fun _ => ?_) fun F d0 d1 => val_can hη hmix _ _ F hL s hs d0 d1
  refine HVal0.enter hη hmix (reg0 hη hmix) s ?_
  simp only [W.holds, true_and, and_true, true_implies]
  exact ⟨fold_ok hη hmix s (by omega) _, HVal0.cut0 hη hmix (reg0 hη hmix) s (by simp only [W.holds, true_and, and_true, true_implies]; exact rfl)⟩
end TH
end Go.Ev

namespace Go.Ev
set_option linter.unusedVariables false
set_option linter.unusedSimpArgs false
open Go Go.Proofs Go.RowKit
variable {η : Nat → Value} {B : Nat}
namespace TH
open TB TE
theorem mn_le (n : Nat) : mn n ≤ 12001 := by unfold mn; split <;> omega
theorem mn_int (n : Nat) : (if (if false = true then decide ((12001 : Int) > (n : Int)) else decide ((12001 : Int) < (n : Int))) = true then (12001 : Int) else (n : Int)) = (mn n : Int) := by
  simp only [Bool.false_eq_true, if_false, decide_eq_true_eq]
  unfold mn
  by_cases h : 12001 < n
  · rw [if_pos h, if_pos (show (12001 : Int) < (n : Int) by omega)]; rfl
  · rw [if_neg h, if_neg (show ¬ (12001 : Int) < (n : Int) by omega)]
theorem far_small {l : List HF} (h : farB l = false) : Small l := by
  unfold farB at h
  simp only [Bool.or_eq_false_iff, decide_eq_false_iff_not] at h
  obtain ⟨h1, h2⟩ := h
  refine ⟨by omega, ?_⟩
  have key : ∀ l : List HF, farN l ≤ 12000 → ∀ p ∈ l, p.1.length ≤ 20000 ∧ p.2.length ≤ 20000 := by
    intro l
    induction l with
    | nil => intro _ p hp; cases hp
    | cons q l ih =>
      intro h p hp
      unfold farN at h
      have b : ∀ n, mn n ≤ 12000 → n ≤ 20000 := by intro n; unfold mn; split <;> omega
      rcases List.mem_cons.1 hp with rfl | hp
      · exact ⟨b _ (by omega), b _ (by omega)⟩
      · exact ih (by omega) p hp
  exact key l (by omega)
set_option maxRecDepth 8000 in
theorem far_can (hη : OneCells η) (hmix : Tryz.prog.follows .mixedOrders = true) {l : List HF} {c : List Value} {o : Nat} (ty cap : Nat) (F : FldsAt c o l) :
    CallSpec η Tryz.prog B 31 [.slice (some ⟨126, o, none⟩) l.length cap] (heapT [(ty, c)]) (fun v h => v = .bool (farB l) ∧ h = heapT [(ty, c)]) := by
  have e0 : HFar.H0 ty o c l.length cap = heapT [(ty, c)] := rfl
  rw [← e0]
  have nn := nn_bare F.1
  have cut := fun i0 i1 => HFar.cut0 (η := η) (B := B) (D := fun v h => v = .bool (farB l) ∧ h = HFar.H0 ty o c l.length cap) hη hmix (reg0 hη hmix) ty o c l.length cap i0 i1
  refine HFar.enter hη hmix (reg0 hη hmix) _ _ _ _ _ ?_
  simp only [W.holds, true_and, and_true, decide_eq_true_eq, decide_eq_false_iff_not, true_implies, Nat.add_zero] at cut ⊢
  have loop : ∀ (rest : List HF) (i n : Nat), l.drop i = rest → n ≤ 24002 * i → l.length ≤ 110 → farN l = n + farN rest → RunD η Tryz.prog B 31 (HFar.H0 ty o c l.length cap) [0, 3, 4] (HFar.S0 ty o c l.length cap (n : Int) (i : Int) fun _ => undef) (QF Tryz.prog 127 fun v h => v = .bool (farB l) ∧ h = HFar.H0 ty o c l.length cap) := by
    intro rest
    induction rest with
    | nil =>
      intro i n hd hn h1 he
      have hi : l.length ≤ i := List.drop_eq_nil_iff.1 hd
      refine cut _ _ ⟨fun h => by omega, fun _ => ?_⟩
      unfold farB
      rw [show farN [] = 0 from rfl, Nat.add_zero] at he
      rw [he, show decide (110 < l.length) = false from decide_eq_false (by omega), Bool.false_or]
      congr 1
      exact decide_eq_decide.2 (by omega)
    | cons p rest ih =>
      intro i n hd hn h1 he
      have hi : i < l.length := by
        rcases Nat.lt_or_ge i l.length with h | h
        · exact h
        · rw [List.drop_of_length_le h] at hd; cases hd
      rw [List.drop_eq_getElem_cons hi] at hd
      injection hd with e1 e2
      obtain ⟨_, g1, g2⟩ := fl_get F hi
      obtain ⟨g3, g4⟩ := F.2 i hi
      have m1 := mn_le p.1.length
      have m2 := mn_le p.2.length
      have c1 := cut (n : Int) (i : Int)
      simp only [Int.toNat_natCast, g1, g2, e1] at c1
      have q1 := mn_int p.1.length
      have q2 := mn_int p.2.length
      have q3 := wrap1 (i := i) (by omega)
      simp only [q1, q2, q3] at c1
      rw [wrapL' (z := (n : Int) + (mn p.1.length : Int)) (by omega) (by omega), wrapL' (z := (n : Int) + (mn p.1.length : Int) + (mn p.2.length : Int)) (by omega) (by omega)] at c1
      rw [e1] at g3 g4
      have hI : (0 : Int) ≤ (i : Int) ∧ (i : Int) < (l.length : Int) := ⟨by omega, by omega⟩
      refine c1 ⟨fun _ => ⟨hI, fun _ => ⟨g3, fun _ => ⟨hI, fun _ => ⟨g4, fun _ => ⟨nn, fun _ => ?_⟩⟩⟩⟩⟩, fun h => by omega⟩
      have := ih (i + 1) (n + mn p.1.length + mn p.2.length) e2 (by omega) h1 (by rw [he, show farN (p :: rest) = mn p.1.length + mn p.2.length + farN rest from rfl]; omega)
      exact this
  refine ⟨fun h => ?_, fun h => loop l 0 0 rfl (by omega) (by omega) (by omega)⟩
  unfold farB
  rw [show decide (110 < l.length) = true from decide_eq_true (by omega)]; rfl
theorem far_ok (hη : OneCells η) (hmix : Tryz.prog.follows .mixedOrders = true) {h : AH} {v : Value} {l : List HF} (k : IsFlds h v l) :
    CallSpec η Tryz.prog B 31 [v] h (farK [v] h).sat := by
  show CallSpec η Tryz.prog B 31 [v] h (KT.ret (.bool (farB (fieldsAt h v))) h).sat
  rw [k.at_]
  rcases k with ⟨rfl, rfl⟩ | ⟨r, o, ty, c, own, cap, rfl, hr, F⟩
  · refine CallSpec.pure hη gs9 (fun _ _ => .cons (.slice0 _ _) .nil) (fun _ _ => .bool _) ?_ h
    refine HFar0.enter hη hmix (reg0 hη hmix) 0 ?_
    simp only [W.holds]
    exact HFar0.cut0 hη hmix (reg0 hη hmix) 0 (by simp only [W.holds, true_and]; exact ⟨rfl, rfl⟩)
  · exact CallSpec.pureR (args := [.slice (some ⟨126, o, none⟩) l.length cap]) hη gs9 (rows1 hr F.1) (.cons (.slice (σ := sigR fun _ => r) _ _ (by simp)) .nil) (fun _ _ => .bool _) (far_can hη hmix ty cap F)
theorem up_hi {c : UInt8} (h1 : 97 ≤ c.toNat) (h2 : c.toNat ≤ 122) : IntKind.u8.wrap (IntKind.u8.wrap ((c.toNat : Int) - 97) + 65) = ((c - 32).toNat : Int) := by
  have := forall_u8 (p := fun c => decide (97 ≤ c.toNat → c.toNat ≤ 122 → IntKind.u8.wrap (IntKind.u8.wrap ((c.toNat : Int) - 97) + 65) = ((c - 32).toNat : Int))) (by decide +kernel) c
  exact of_decide_eq_true this h1 h2
theorem up_45 (c : UInt8) : (97 ≤ c.toNat ∧ c.toNat ≤ 122) → ((c - 32 == 45) = false ∧ (c == 45) = false) := by
  have := forall_u8 (p := fun c => decide ((97 ≤ c.toNat ∧ c.toNat ≤ 122) → ((c - 32 == 45) = false ∧ (c == 45) = false))) (by decide +kernel) c
  exact of_decide_eq_true this
theorem eq45 (c : UInt8) : ((c.toNat : Int) = 45) ↔ (c == 45) = true := by
  have := forall_u8 (p := fun c => decide (((c.toNat : Int) = 45) ↔ (c == 45) = true)) (by decide +kernel) c
  exact of_decide_eq_true this
/-- What the flag says of the bytes before. -/
def Flag (f : Bool) (d : List UInt8) : Prop := (d = [] ∧ f = true) ∨ ∃ e x, d = e ++ [x] ∧ f = (x == 45)
theorem flag_next {f : Bool} {d : List UInt8} (c : UInt8) : Flag (c == 45) (d ++ [c]) := .inr ⟨d, c, rfl, rfl⟩
theorem flag_up {d : List UInt8} {c : UInt8} (h : 97 ≤ c.toNat ∧ c.toNat ≤ 122) : Flag (c == 45) (d ++ [c - 32]) := .inr ⟨d, c - 32, rfl, by rw [(up_45 c h).1, (up_45 c h).2]⟩
theorem canL_cons (f : Bool) (c : UInt8) (r : List UInt8) : canL f (c :: r) = (if f = true ∧ 97 ≤ c.toNat ∧ c.toNat ≤ 122 then c - 32 else c) :: canL (c == 45) r := by
  conv => lhs; unfold canL
theorem prev_at {e r : List UInt8} {x c : UInt8} : (bytesV (e ++ [x] ++ c :: r))[(IntKind.i64.wrap (((e ++ [x]).length : Int) - 1)).toNat]? = some (.int .u8 (x.toNat : Int)) ∨ 100000000 < e.length := by
  by_cases hl : 100000000 < e.length
  · exact .inr hl
  · left
    have : (((e ++ [x]).length : Int) - 1) = (e.length : Int) := by simp
    rw [this, wrapL' (by omega) (by omega), Int.toNat_natCast, bytesV_get, List.append_assoc]
    rw [show [x] ++ c :: r = x :: (c :: r) from rfl, app_get]; rfl
theorem can_ok (hη : OneCells η) (hmix : Tryz.prog.follows .mixedOrders = true) (s : List UInt8) (hs : s.length ≤ 900000) (h : AH) :
    CallSpec η Tryz.prog B 33 [.string ⟨⟨s⟩⟩] h (canK [.string ⟨⟨s⟩⟩] h).sat := by
  refine CallSpec.bare (v := .tuple ⟨[.string ⟨⟨canS s⟩⟩, .int .i64 (canE s)]⟩) hη gs9 (fun _ _ => str_args) (fun σ M => RV.tup2 (.string _) (.int _ _)) (fun σ M => RV.tup2 (.string _) (.int _ _)) ?_ h
  have cut := fun i0 l0 => HCan.cut0 (η := η) (B := B) (D := fun v _ => v = .tuple ⟨[.string ⟨⟨canS s⟩⟩, .int .i64 (canE s)]⟩) hη hmix (reg0 hη hmix) s i0 l0
  refine HCan.enter hη hmix (reg0 hη hmix) _ ?_
  simp only [W.holds, true_and, and_true, decide_eq_true_eq, decide_eq_false_iff_not, Bool.not_eq_true', Bool.not_eq_false', beq_iff_eq, beq_eq_false_iff_ne, true_implies, Nat.zero_add, Nat.mul_one] at cut ⊢
  have hll : (List.map lowB s).length = s.length := by simp
  refine ⟨tok_ok hη hmix s (by omega) _, fun ht => ?_, fun ht => ⟨fold_ok hη hmix s hs _, ⟨by omega, fun _ => ?_⟩⟩⟩
  · unfold canS canE; rw [ht]; rfl
  · have hcs : canS s = canL true (low s) ∧ canE s = 0 := by unfold canS canE; rw [ht]; exact ⟨rfl, rfl⟩
    have loop : ∀ (r d : List UInt8) (f : Bool), d.length + r.length = s.length → d ++ canL f r = canL true (low s) → Flag f d → RunD η Tryz.prog B 33 (HCan.H0 s) [4, 14, 15, 16] (HCan.S0 s (d.length : Int) (bytesV (d ++ r)) fun _ => undef) (QF Tryz.prog 126 fun v _ => v = .tuple ⟨[.string ⟨⟨canS s⟩⟩, .int .i64 (canE s)]⟩) := by
      intro r
      induction r with
      | nil =>
        intro d f hl he hf
        simp only [List.length_nil, Nat.add_zero] at hl
        rw [List.append_nil]
        refine cut _ _ ⟨fun h => by omega, fun _ => ⟨?_, fun _ => ?_⟩⟩
        · rw [hll, ← hl, List.take_of_length_le (by rw [bytesV_len]; exact Nat.le_refl _), bytesIn_all, bytesOf_bytesV, bytesV_len]
          exact ⟨Nat.le_refl _, rfl⟩
        · rw [hll, ← hl, bytesIn_all, hcs.1, hcs.2, ← he]; simp [canL]
      | cons c r ih =>
        intro d f hl he hf
        simp only [List.length_cons] at hl
        have hI : (0 : Int) ≤ (d.length : Int) ∧ (d.length : Int) < ((List.map lowB s).length : Int) := ⟨by omega, by omega⟩
        have hg : (bytesV (d ++ c :: r))[(d.length : Int).toNat]? = some (.int .u8 (c.toNat : Int)) := by
          rw [Int.toNat_natCast, bytesV_get, app_get]; rfl
        have ha : intAt (bytesV (d ++ c :: r)) (d.length : Int).toNat = (c.toNat : Int) := by unfold intAt; rw [hg]
        have hb : some (Value.int .u8 (c.toNat : Int)) = some (Value.int .u8 (intAt (bytesV (d ++ c :: r)) (d.length : Int).toNat)) := by rw [ha]
        rw [canL_cons] at he
        have plain : ¬ (f = true ∧ 97 ≤ c.toNat ∧ c.toNat ≤ 122) → RunD η Tryz.prog B 33 (HCan.H0 s) [4, 14, 15, 16] (HCan.S0 s (IntKind.i64.wrap ((d.length : Int) + 1)) (bytesV (d ++ c :: r)) fun _ => undef) (QF Tryz.prog 126 fun v _ => v = .tuple ⟨[.string ⟨⟨canS s⟩⟩, .int .i64 (canE s)]⟩) := by
          intro hn
          rw [if_neg hn] at he
          rw [wrap1 (by omega)]
          have := ih (d ++ [c]) (c == 45) (by simp; omega) (by rw [← he]; simp) (flag_next (f := f) c)
          rw [List.length_append, List.append_assoc] at this
          exact this
        have up : f = true → 97 ≤ c.toNat → c.toNat ≤ 122 → RunD η Tryz.prog B 33 (HCan.H0 s) [4, 14, 15, 16] (HCan.S0 s (IntKind.i64.wrap ((d.length : Int) + 1)) (splice (bytesV (d ++ c :: r)) (d.length : Int).toNat [.int .u8 (IntKind.u8.wrap (IntKind.u8.wrap (intAt (bytesV (d ++ c :: r)) (d.length : Int).toNat - 97) + 65))]) fun _ => undef) (QF Tryz.prog 126 fun v _ => v = .tuple ⟨[.string ⟨⟨canS s⟩⟩, .int .i64 (canE s)]⟩) := by
          intro h1 h2 h3
          rw [if_pos ⟨h1, h2, h3⟩] at he
          rw [wrap1 (by omega), ha, up_hi h2 h3, Int.toNat_natCast, splice_at]
          have := ih (d ++ [c - 32]) (c == 45) (by simp; omega) (by rw [← he]; simp) (flag_up ⟨h2, h3⟩)
          rw [List.length_append, List.append_assoc] at this
          exact this
        have hst : (d.length : Int).toNat + 1 ≤ (bytesV (d ++ c :: r)).length := by rw [bytesV_len]; simp
        have both : f = true → ((97 : Int) ≤ intAt (bytesV (d ++ c :: r)) (d.length : Int).toNat → (intAt (bytesV (d ++ c :: r)) (d.length : Int).toNat ≤ 122 → 97 ≤ c.toNat ∧ c.toNat ≤ 122)) := by
          intro _ h1 h2; rw [ha] at h1 h2; omega
        refine cut _ _ ⟨fun _ => ⟨hI, fun _ => ⟨hg.trans hb, fun _ => ⟨fun h0 => ?_, fun h0 => ?_⟩⟩⟩, fun h => by omega⟩
        · have hd0 : d = [] := List.length_eq_zero_iff.1 (by omega)
          have hft : f = true := by
            rcases hf with ⟨_, h⟩ | ⟨e, x, h, _⟩
            · exact h
            · rw [hd0] at h; cases e <;> cases h
          refine ⟨fun h1 => ⟨fun h2 => ⟨hI, fun _ => ⟨hst, fun _ => up hft (both hft h1 h2).1 (both hft h1 h2).2⟩⟩, fun h2 => plain fun hh => ?_⟩, fun h1 => plain fun hh => ?_⟩
          · rw [ha] at h2; omega
          · rw [ha] at h1; omega
        · obtain ⟨e, x, hde, hfx⟩ : ∃ e x, d = e ++ [x] ∧ f = (x == 45) := by
            rcases hf with ⟨h, _⟩ | h
            · rw [h] at h0; exact absurd rfl h0
            · exact h
          have hp : (bytesV (d ++ c :: r))[(IntKind.i64.wrap ((d.length : Int) - 1)).toNat]? = some (.int .u8 (x.toNat : Int)) := by
            rcases prev_at (e := e) (r := r) (x := x) (c := c) with h | h
            · rw [← hde] at h; exact h
            · rw [hde] at hl; simp at hl; omega
          have hpa : intAt (bytesV (d ++ c :: r)) (IntKind.i64.wrap ((d.length : Int) - 1)).toNat = (x.toNat : Int) := by unfold intAt; rw [hp]
          have hw : IntKind.i64.wrap ((d.length : Int) - 1) = (d.length : Int) - 1 := by
            have : 0 < d.length := by rw [hde]; simp
            exact wrapL' (by omega) (by omega)
          have hd1 : 0 < d.length := by rw [hde]; simp
          refine ⟨⟨by rw [hw]; omega, by rw [hw]; omega⟩, fun _ => ⟨by rw [hp, hpa], fun _ => ⟨fun h5 => ?_, fun h5 => plain fun hh => ?_⟩⟩⟩
          · rw [hpa] at h5
            have hft : f = true := by rw [hfx]; exact (eq45 x).1 h5
            refine ⟨fun h1 => ⟨fun h2 => ⟨hI, fun _ => ⟨hst, fun _ => up hft (both hft h1 h2).1 (both hft h1 h2).2⟩⟩, fun h2 => plain fun hh => ?_⟩, fun h1 => plain fun hh => ?_⟩
            · rw [ha] at h2; omega
            · rw [ha] at h1; omega
          · rw [hpa] at h5
            exact h5 ((eq45 x).2 (by rw [← hfx]; exact hh.1))
    exact loop (low s) [] true (by unfold low; simp) rfl (.inl ⟨rfl, rfl⟩)
end TH
end Go.Ev

namespace Go.Ev
set_option linter.unusedVariables false
set_option linter.unusedSimpArgs false
open Go Go.Proofs Go.RowKit
variable {η : Nat → Value} {B : Nat}
namespace TH
open TB TE
theorem rcan_ok (hη : OneCells η) (hmix : Tryz.prog.follows .mixedOrders = true) (s : List UInt8) (hs : s.length ≤ 900000) (h : AH) :
    CallSpec η Tryz.prog B 34 [.string ⟨⟨s⟩⟩] h (canK [.string ⟨⟨s⟩⟩] h).sat := by
  refine CallSpec.bare (v := .tuple ⟨[.string ⟨⟨canS s⟩⟩, .int .i64 (canE s)]⟩) hη gs9 (fun _ _ => str_args) (fun σ M => RV.tup2 (.string _) (.int _ _)) (fun σ M => RV.tup2 (.string _) (.int _ _)) ?_ h
  have cut := fun i0 l0 => HRCan.cut0 (η := η) (B := B) (D := fun v _ => v = .tuple ⟨[.string ⟨⟨canS s⟩⟩, .int .i64 (canE s)]⟩) hη hmix (reg0 hη hmix) s i0 l0
  refine HRCan.enter hη hmix (reg0 hη hmix) _ ?_
  simp only [W.holds, true_and, and_true, decide_eq_true_eq, decide_eq_false_iff_not, Bool.not_eq_true', Bool.not_eq_false', beq_iff_eq, beq_eq_false_iff_ne, true_implies, Nat.zero_add, Nat.mul_one] at cut ⊢
  have hll : (List.map lowB s).length = s.length := by simp
  refine ⟨rtok_ok hη hmix s _, fun ht => ?_, fun ht => ⟨rfold_ok hη hmix s hs _, ⟨by omega, fun _ => ?_⟩⟩⟩
  · unfold canS canE; rw [ht]; rfl
  · have hcs : canS s = canL true (low s) ∧ canE s = 0 := by unfold canS canE; rw [ht]; exact ⟨rfl, rfl⟩
    have loop : ∀ (r d : List UInt8) (f : Bool), d.length + r.length = s.length → d ++ canL f r = canL true (low s) → Flag f d → RunD η Tryz.prog B 34 (HRCan.H0 s) [4, 5] (HRCan.S0 s (d.length : Int) (bytesV (d ++ r)) fun _ => undef) (QF Tryz.prog 126 fun v _ => v = .tuple ⟨[.string ⟨⟨canS s⟩⟩, .int .i64 (canE s)]⟩) := by
      intro r
      induction r with
      | nil =>
        intro d f hl he hf
        simp only [List.length_nil, Nat.add_zero] at hl
        rw [List.append_nil]
        refine cut _ _ ⟨fun h => by omega, fun _ => ⟨?_, fun _ => ?_⟩⟩
        · rw [hll, ← hl, List.take_of_length_le (by rw [bytesV_len]; exact Nat.le_refl _), bytesIn_all, bytesOf_bytesV, bytesV_len]
          exact ⟨Nat.le_refl _, rfl⟩
        · rw [hll, ← hl, bytesIn_all, hcs.1, hcs.2, ← he]; simp [canL]
      | cons c r ih =>
        intro d f hl he hf
        simp only [List.length_cons] at hl
        have hI : (0 : Int) ≤ (d.length : Int) ∧ (d.length : Int) < ((List.map lowB s).length : Int) := ⟨by omega, by omega⟩
        have hg : (bytesV (d ++ c :: r))[(d.length : Int).toNat]? = some (.int .u8 (c.toNat : Int)) := by
          rw [Int.toNat_natCast, bytesV_get, app_get]; rfl
        have ha : intAt (bytesV (d ++ c :: r)) (d.length : Int).toNat = (c.toNat : Int) := by unfold intAt; rw [hg]
        have hb : some (Value.int .u8 (c.toNat : Int)) = some (Value.int .u8 (intAt (bytesV (d ++ c :: r)) (d.length : Int).toNat)) := by rw [ha]
        rw [canL_cons] at he
        have plain : ¬ (f = true ∧ 97 ≤ c.toNat ∧ c.toNat ≤ 122) → RunD η Tryz.prog B 34 (HRCan.H0 s) [4, 5] (HRCan.S0 s (IntKind.i64.wrap ((d.length : Int) + 1)) (bytesV (d ++ c :: r)) fun _ => undef) (QF Tryz.prog 126 fun v _ => v = .tuple ⟨[.string ⟨⟨canS s⟩⟩, .int .i64 (canE s)]⟩) := by
          intro hn
          rw [if_neg hn] at he
          rw [wrap1 (by omega)]
          have := ih (d ++ [c]) (c == 45) (by simp; omega) (by rw [← he]; simp) (flag_next (f := f) c)
          rw [List.length_append, List.append_assoc] at this
          exact this
        have up : f = true → 97 ≤ c.toNat → c.toNat ≤ 122 → RunD η Tryz.prog B 34 (HRCan.H0 s) [4, 5] (HRCan.S0 s (IntKind.i64.wrap ((d.length : Int) + 1)) (splice (bytesV (d ++ c :: r)) (d.length : Int).toNat [.int .u8 (IntKind.u8.wrap (IntKind.u8.wrap (intAt (bytesV (d ++ c :: r)) (d.length : Int).toNat - 97) + 65))]) fun _ => undef) (QF Tryz.prog 126 fun v _ => v = .tuple ⟨[.string ⟨⟨canS s⟩⟩, .int .i64 (canE s)]⟩) := by
          intro h1 h2 h3
          rw [if_pos ⟨h1, h2, h3⟩] at he
          rw [wrap1 (by omega), ha, up_hi h2 h3, Int.toNat_natCast, splice_at]
          have := ih (d ++ [c - 32]) (c == 45) (by simp; omega) (by rw [← he]; simp) (flag_up ⟨h2, h3⟩)
          rw [List.length_append, List.append_assoc] at this
          exact this
        have hst : (d.length : Int).toNat + 1 ≤ (bytesV (d ++ c :: r)).length := by rw [bytesV_len]; simp
        have both : f = true → ((97 : Int) ≤ intAt (bytesV (d ++ c :: r)) (d.length : Int).toNat → (intAt (bytesV (d ++ c :: r)) (d.length : Int).toNat ≤ 122 → 97 ≤ c.toNat ∧ c.toNat ≤ 122)) := by
          intro _ h1 h2; rw [ha] at h1 h2; omega
        refine cut _ _ ⟨fun _ => ⟨fun h0 => ?_, fun h0 => ?_⟩, fun h => by omega⟩
        · have hd0 : d = [] := List.length_eq_zero_iff.1 (by omega)
          have hft : f = true := by
            rcases hf with ⟨_, h⟩ | ⟨e, x, h, _⟩
            · exact h
            · rw [hd0] at h; cases e <;> cases h
          refine ⟨hI, fun _ => ⟨hg.trans hb, fun _ => ⟨fun h1 => ⟨hI, fun _ => ⟨hg.trans hb, fun _ => ⟨fun h2 => ⟨hI, fun _ => ⟨hg.trans hb, fun _ => ⟨hI, fun _ => ⟨hst, fun _ => up hft (both hft h1 h2).1 (both hft h1 h2).2⟩⟩⟩⟩, fun h2 => plain fun hh => ?_⟩⟩⟩, fun h1 => plain fun hh => ?_⟩⟩⟩
          · rw [ha] at h2; omega
          · rw [ha] at h1; omega
        · obtain ⟨e, x, hde, hfx⟩ : ∃ e x, d = e ++ [x] ∧ f = (x == 45) := by
            rcases hf with ⟨h, _⟩ | h
            · rw [h] at h0; exact absurd rfl h0
            · exact h
          have hp : (bytesV (d ++ c :: r))[(IntKind.i64.wrap ((d.length : Int) - 1)).toNat]? = some (.int .u8 (x.toNat : Int)) := by
            rcases prev_at (e := e) (r := r) (x := x) (c := c) with h | h
            · rw [← hde] at h; exact h
            · rw [hde] at hl; simp at hl; omega
          have hpa : intAt (bytesV (d ++ c :: r)) (IntKind.i64.wrap ((d.length : Int) - 1)).toNat = (x.toNat : Int) := by unfold intAt; rw [hp]
          have hw : IntKind.i64.wrap ((d.length : Int) - 1) = (d.length : Int) - 1 := by
            have : 0 < d.length := by rw [hde]; simp
            exact wrapL' (by omega) (by omega)
          have hd1 : 0 < d.length := by rw [hde]; simp
          refine ⟨⟨by rw [hw]; omega, by rw [hw]; omega⟩, fun _ => ⟨by rw [hp, hpa], fun _ => ⟨fun h5 => ?_, fun h5 => plain fun hh => ?_⟩⟩⟩
          · rw [hpa] at h5
            have hft : f = true := by rw [hfx]; exact (eq45 x).1 h5
            refine ⟨hI, fun _ => ⟨hg.trans hb, fun _ => ⟨fun h1 => ⟨hI, fun _ => ⟨hg.trans hb, fun _ => ⟨fun h2 => ⟨hI, fun _ => ⟨hg.trans hb, fun _ => ⟨hI, fun _ => ⟨hst, fun _ => up hft (both hft h1 h2).1 (both hft h1 h2).2⟩⟩⟩⟩, fun h2 => plain fun hh => ?_⟩⟩⟩, fun h1 => plain fun hh => ?_⟩⟩⟩
            · rw [ha] at h2; omega
            · rw [ha] at h1; omega
          · rw [hpa] at h5
            exact h5 ((eq45 x).2 (by rw [← hfx]; exact hh.1))
    exact loop (low s) [] true (by unfold low; simp) rfl (.inl ⟨rfl, rfl⟩)
end TH
end Go.Ev

namespace Go.Ev
set_option linter.unusedVariables false
set_option linter.unusedSimpArgs false
open Go Go.Proofs Go.RowKit
variable {η : Nat → Value} {B : Nat}
namespace TH
open TB TE
theorem joinS_eq (sep : List UInt8) : ∀ L, Lib.join L sep = joinS sep L
  | [] => Lib.join_nil _
  | [x] => Lib.join_one _ _
  | x :: y :: r => by
    have := joinS_eq sep (y :: r)
    unfold Lib.join List.intercalate at this ⊢
    rw [joinS, ← this]
    simp [List.intersperse]
theorem joinS_len (sep : List UInt8) (m : Nat) : ∀ L : List (List UInt8), (∀ x ∈ L, x.length ≤ m) → (joinS sep L).length ≤ L.length * (m + sep.length)
  | [], _ => by simp [joinS]
  | [x], h => by
    have := h x (by simp)
    simp only [joinS, List.length_singleton]; omega
  | x :: y :: r, h => by
    have h1 := h x (by simp)
    have h2 := joinS_len sep m (y :: r) fun z hz => h z (List.mem_cons_of_mem _ hz)
    simp only [joinS, List.length_append, List.length_cons, Nat.add_mul, Nat.one_mul] at h2 ⊢
    omega
theorem join_ok {h : AH} {r ty own : Nat} {L : List (List UInt8)} (sep : List UInt8) (hr : h.objs.get r = some (.cells ty (strs L) false own)) (hne : L ≠ []) (hL : L.length ≤ 1000) (hm : ∀ x ∈ L, x.length ≤ 1000000) (hsep : sep.length ≤ 1000) :
    CallSpec η Tryz.prog B 91 [.slice (some ⟨r, 0, none⟩) L.length (capU 1), .string ⟨⟨sep⟩⟩] h (KT.ret (.string ⟨⟨joinS sep L⟩⟩) h).sat := by
  refine CallSpec.ofCalls (v := .string ⟨⟨joinS sep L⟩⟩) fun ρ args' w hl p => ?_
  obtain ⟨x0, m0, e0, v0, hl⟩ := hl.inv_cons
  obtain ⟨x1, m1, e1, v1, hl⟩ := hl.inv_cons
  obtain rfl := hl.inv_nil
  obtain ⟨A⟩ := args'
  simp only at e0
  subst e1; subst e0
  cases v1
  obtain ⟨b, d, n, o, h1, h2, ⟨C, ty', lo, hi, rfl, k⟩, _⟩ := p.hr.obj r _ hr
  generalize hcu : capU 1 = cu at v0
  cases v0 with
  | slice _ _ h3 hc => rw [← hcu, isU_capU] at hc; cases hc
  | sliceU _ s1 c h3 hs hc hle =>
    rw [h1] at h3
    injection h3 with h3
    injection h3 with q1 q2
    injection q2 with q2 q3
    subst q1; subst q2; subst q3
    have hb : b < w.heap.size := by
      rcases Nat.lt_or_ge b w.heap.size with h | h
      · exact h
      · rw [Array.getElem?_eq_none h] at h2; cases h2
    have hcell : ∀ (j : Nat) (x : ByteArray), (L.map fun s => (⟨⟨s⟩⟩ : ByteArray))[j]? = some x → w.cell? ⟨b, d + 0 + j, none⟩ = some (.string x) := by
      intro j x hx
      rw [List.getElem?_map, Option.map_eq_some_iff] at hx
      obtain ⟨s, hs, rfl⟩ := hx
      obtain ⟨y, hy, hv⟩ := k.at_ j (.string ⟨⟨s⟩⟩) (by unfold strs; rw [List.getElem?_map, hs]; rfl)
      cases hv
      unfold World.cell?
      simp only [h2]
      obtain ⟨C⟩ := C
      simp only at hy
      simp [hy]
    have hlen := joinS_len sep 1000000 L hm
    have hmap : (L.map fun s => (⟨⟨s⟩⟩ : ByteArray)).map (fun x => x.data.toList) = L := by
      rw [List.map_map]; exact List.map_id _
    have hll : (L.map fun s => (⟨⟨s⟩⟩ : ByteArray)).length = L.length := List.length_map _
    have key := Tryz.strings_Join b (d + 0) c (L.map fun s => (⟨⟨s⟩⟩ : ByteArray)) ⟨⟨sep⟩⟩ w hcell hb (by rw [hll]; omega) (by rw [hll]; exact hle) (by
      rw [hmap, joinS_eq]
      have := Nat.mul_le_mul hL (show 1000000 + sep.length ≤ 1001000 by omega)
      show (joinS sep L).length ≤ _
      omega)
    rw [hmap, joinS_eq, hll] at key
    refine key.mono ?_
    rintro e w' ⟨rfl, hw⟩
    exact ⟨_, rfl, .string _, hw⟩
end TH
end Go.Ev

namespace Go.Ev
set_option linter.unusedVariables false
set_option linter.unusedSimpArgs false
open Go Go.Proofs
set_option maxRecDepth 100000
set_option maxHeartbeats 2000000
namespace HCom
set_option linter.unusedVariables false
noncomputable def bd : Code := (Go.Proofs.Tryz.f35.body).getD .skip
noncomputable def H0 (ty : Nat) (o : Nat) (c : List Value) (n : Nat) (cap : Nat) (s : List UInt8) : AH := { objs := T.node none T.nil (T.node none T.nil (T.node none T.nil (T.node none T.nil (T.node none T.nil (T.node none T.nil (T.node (some (AObj.cells ty c false 0)) T.nil T.nil)))))), next := 127 }
noncomputable def E (ty : Nat) (o : Nat) (c : List Value) (n : Nat) (cap : Nat) (s : List UInt8) : AS := ⟨⟨35, 30, T.node (some (Value.slice (some { block := 126, off := o }) n cap)) (T.node (some (Value.string { data := { toList := s } })) T.nil T.nil) T.nil, [Item.code (codeAt bd [])], [], FrameMode.run, CallKind.normal, none⟩, [], ⟨T.node none T.nil (T.node none T.nil (T.node none T.nil (T.node none T.nil (T.node none T.nil (T.node none T.nil (T.node (some (AObj.cells ty c false 0)) T.nil T.nil)))))), 127⟩⟩
theorem enter {η : Nat → Value} {B : Nat} (hη : OneCells η) (hmix : Go.Proofs.Tryz.prog.follows .mixedOrders = true) (hreg : RegOk η Go.Proofs.Tryz.prog B noNest) {D : Value → AH → Prop} (ty : Nat) (o : Nat) (c : List Value) (n : Nat) (cap : Nat) (s : List UInt8) (h : W.holds η Go.Proofs.Tryz.prog B 35 (fun kp_ st_ => RunD η Go.Proofs.Tryz.prog B 35 (H0 ty o c n cap s) kp_ st_ (QF Go.Proofs.Tryz.prog 127 D)) D (.call 37 [Value.slice (some { block := 126, off := o }) n cap] ({ objs := T.node none T.nil (T.node none T.nil (T.node none T.nil (T.node none T.nil (T.node none T.nil (T.node none T.nil (T.node (some (AObj.cells ty c false 0)) T.nil T.nil)))))), next := 127 }) (.ret (Value.int IntKind.i64 (TH.chk (TH.fieldsAt { objs := T.node none T.nil (T.node none T.nil (T.node none T.nil (T.node none T.nil (T.node none T.nil (T.node none T.nil (T.node (some (AObj.cells ty c false 0)) T.nil T.nil)))))), next := 127 } (Value.slice (some { block := 126, off := o }) n cap)))) ({ objs := T.node none T.nil (T.node none T.nil (T.node none T.nil (T.node none T.nil (T.node none T.nil (T.node none T.nil (T.node (some (AObj.cells ty c false 0)) T.nil T.nil)))))), next := 127 })) (.ite (TH.chk (TH.fieldsAt { objs := T.node none T.nil (T.node none T.nil (T.node none T.nil (T.node none T.nil (T.node none T.nil (T.node none T.nil (T.node (some (AObj.cells ty c false (0 : Nat))) T.nil T.nil)))))), next := (127 : Nat) } (Value.slice (some { block := (126 : Nat), off := o }) n cap)) != (0 : Int)) (.ite (TH.chk (TH.fieldsAt { objs := T.node none T.nil (T.node none T.nil (T.node none T.nil (T.node none T.nil (T.node none T.nil (T.node none T.nil (T.node (some (AObj.cells ty c false (0 : Nat))) T.nil T.nil)))))), next := (127 : Nat) } (Value.slice (some { block := (126 : Nat), off := o }) n cap)) != (0 : Int)) (.done 35 (Value.tuple { toList := [Value.string { data := #[] }, Value.int IntKind.i64 (TH.chk (TH.fieldsAt { objs := T.node none T.nil (T.node none T.nil (T.node none T.nil (T.node none T.nil (T.node none T.nil (T.node none T.nil (T.node (some (AObj.cells ty c false 0)) T.nil T.nil)))))), next := 127 } (Value.slice (some { block := 126, off := o }) n cap)))] }) (H0 ty o c n cap s)) (.call 90 [Value.slice (some { block := 126, off := o }) n cap, Value.string { data := { toList := s } }] ({ objs := T.node none T.nil (T.node none T.nil (T.node none T.nil (T.node none T.nil (T.node none T.nil (T.node none T.nil (T.node (some (AObj.cells ty c false 0)) T.nil T.nil)))))), next := 127 }) (.ite (TH.getB (TH.fieldsAt { objs := T.node none T.nil (T.node none T.nil (T.node none T.nil (T.node none T.nil (T.node none T.nil (T.node none T.nil (T.node (some (AObj.cells ty c false (0 : Nat))) T.nil T.nil)))))), next := (127 : Nat) } (Value.slice (some { block := (126 : Nat), off := o }) n cap)) s) (.ret (Value.slice none 0 0) ({ objs := T.node none T.nil (T.node none T.nil (T.node none T.nil (T.node none T.nil (T.node none T.nil (T.node none T.nil (T.node (some (AObj.cells ty c false 0)) T.nil T.nil)))))), next := 127 })) (.ret (Value.slice (some { block := 127, off := 0 }) (TH.get (TH.fieldsAt { objs := T.node none T.nil (T.node none T.nil (T.node none T.nil (T.node none T.nil (T.node none T.nil (T.node none T.nil (T.node (some (AObj.cells ty c false 0)) T.nil T.nil)))))), next := 127 } (Value.slice (some { block := 126, off := o }) n cap)) s).length 9223372036854775809) ({ objs := T.node none (T.node none (T.node none (T.node none (T.node none (T.node none (T.node none (T.node (some (AObj.cells 9 (TE.strs (TH.get (TH.fieldsAt { objs := T.node none T.nil (T.node none T.nil (T.node none T.nil (T.node none T.nil (T.node none T.nil (T.node none T.nil (T.node (some (AObj.cells ty c false 0)) T.nil T.nil)))))), next := 127 } (Value.slice (some { block := 126, off := o }) n cap)) s)) false 2)) T.nil T.nil) T.nil) T.nil) T.nil) T.nil) T.nil) T.nil) (T.node none T.nil (T.node none T.nil (T.node none T.nil (T.node none T.nil (T.node none T.nil (T.node (some (AObj.cells ty c false 0)) T.nil T.nil)))))), next := 128 }))) (.ite (TH.getB (TH.fieldsAt { objs := T.node none T.nil (T.node none T.nil (T.node none T.nil (T.node none T.nil (T.node none T.nil (T.node none T.nil (T.node (some (AObj.cells ty c false (0 : Nat))) T.nil T.nil)))))), next := (127 : Nat) } (Value.slice (some { block := (126 : Nat), off := o }) n cap)) s) (.done 35 (Value.tuple { toList := [Value.string { data := #[] }, Value.int IntKind.i64 4] }) (H0 ty o c n cap s)) (.ite ((↑(TH.get (TH.fieldsAt { objs := T.node none T.nil (T.node none T.nil (T.node none T.nil (T.node none T.nil (T.node none T.nil (T.node none T.nil (T.node (some (AObj.cells ty c false (0 : Nat))) T.nil T.nil)))))), next := (127 : Nat) } (Value.slice (some { block := (126 : Nat), off := o }) n cap)) s).length : Int) == (0 : Int)) (.need (NoNames c ∧ True) (.done 35 (Value.tuple { toList := [Value.string { data := #[] }, Value.int IntKind.i64 4] }) (H0 ty o c n cap s))) (.call 29 [Value.string { data := { toList := s } }] ({ objs := T.node none (T.node none (T.node none (T.node none (T.node none (T.node none (T.node none (T.node (some (AObj.cells 9 (TE.strs (TH.get (TH.fieldsAt { objs := T.node none T.nil (T.node none T.nil (T.node none T.nil (T.node none T.nil (T.node none T.nil (T.node none T.nil (T.node (some (AObj.cells ty c false 0)) T.nil T.nil)))))), next := 127 } (Value.slice (some { block := 126, off := o }) n cap)) s)) false 2)) T.nil T.nil) T.nil) T.nil) T.nil) T.nil) T.nil) T.nil) (T.node none T.nil (T.node none T.nil (T.node none T.nil (T.node none T.nil (T.node none T.nil (T.node (some (AObj.cells ty c false 0)) T.nil T.nil)))))), next := 128 }) (.ret (Value.string { data := { toList := List.map TB.lowB s } }) ({ objs := T.node none (T.node none (T.node none (T.node none (T.node none (T.node none (T.node none (T.node (some (AObj.cells 9 (TE.strs (TH.get (TH.fieldsAt { objs := T.node none T.nil (T.node none T.nil (T.node none T.nil (T.node none T.nil (T.node none T.nil (T.node none T.nil (T.node (some (AObj.cells ty c false 0)) T.nil T.nil)))))), next := 127 } (Value.slice (some { block := 126, off := o }) n cap)) s)) false 2)) T.nil T.nil) T.nil) T.nil) T.nil) T.nil) T.nil) T.nil) (T.node none T.nil (T.node none T.nil (T.node none T.nil (T.node none T.nil (T.node none T.nil (T.node (some (AObj.cells ty c false 0)) T.nil T.nil)))))), next := 128 })) (.ite (List.map TB.lowB s == #[OfNat.ofNat (115 : Nat), OfNat.ofNat (101 : Nat), OfNat.ofNat (116 : Nat), OfNat.ofNat (45 : Nat), OfNat.ofNat (99 : Nat), OfNat.ofNat (111 : Nat), OfNat.ofNat (111 : Nat), OfNat.ofNat (107 : Nat), OfNat.ofNat (105 : Nat), OfNat.ofNat (101 : Nat)].toList) (.need (NoNames c ∧ True) (.done 35 (Value.tuple { toList := [Value.string { data := #[] }, Value.int IntKind.i64 9] }) (H0 ty o c n cap s))) (.call 91 [Value.slice (some { block := 127, off := 0 }) (TH.get (TH.fieldsAt { objs := T.node none T.nil (T.node none T.nil (T.node none T.nil (T.node none T.nil (T.node none T.nil (T.node none T.nil (T.node (some (AObj.cells ty c false 0)) T.nil T.nil)))))), next := 127 } (Value.slice (some { block := 126, off := o }) n cap)) s).length 9223372036854775809, Value.string { data := #[OfNat.ofNat 44, OfNat.ofNat 32] }] ({ objs := T.node none (T.node none (T.node none (T.node none (T.node none (T.node none (T.node none (T.node (some (AObj.cells 9 (TE.strs (TH.get (TH.fieldsAt { objs := T.node none T.nil (T.node none T.nil (T.node none T.nil (T.node none T.nil (T.node none T.nil (T.node none T.nil (T.node (some (AObj.cells ty c false 0)) T.nil T.nil)))))), next := 127 } (Value.slice (some { block := 126, off := o }) n cap)) s)) false 2)) T.nil T.nil) T.nil) T.nil) T.nil) T.nil) T.nil) T.nil) (T.node none T.nil (T.node none T.nil (T.node none T.nil (T.node none T.nil (T.node none T.nil (T.node (some (AObj.cells ty c false 0)) T.nil T.nil)))))), next := 128 }) (.ret (Value.string { data := { toList := TH.joinS #[OfNat.ofNat 44, OfNat.ofNat 32].toList (TE.listAt { objs := T.node none (T.node none (T.node none (T.node none (T.node none (T.node none (T.node none (T.node (some (AObj.cells 9 (TE.strs (TH.get (TH.fieldsAt { objs := T.node none T.nil (T.node none T.nil (T.node none T.nil (T.node none T.nil (T.node none T.nil (T.node none T.nil (T.node (some (AObj.cells ty c false 0)) T.nil T.nil)))))), next := 127 } (Value.slice (some { block := 126, off := o }) n cap)) s)) false 2)) T.nil T.nil) T.nil) T.nil) T.nil) T.nil) T.nil) T.nil) (T.node none T.nil (T.node none T.nil (T.node none T.nil (T.node none T.nil (T.node none T.nil (T.node (some (AObj.cells ty c false 0)) T.nil T.nil)))))), next := 128 } (Value.slice (some { block := 127, off := 0 }) (TH.get (TH.fieldsAt { objs := T.node none T.nil (T.node none T.nil (T.node none T.nil (T.node none T.nil (T.node none T.nil (T.node none T.nil (T.node (some (AObj.cells ty c false 0)) T.nil T.nil)))))), next := 127 } (Value.slice (some { block := 126, off := o }) n cap)) s).length 9223372036854775809)) } }) ({ objs := T.node none (T.node none (T.node none (T.node none (T.node none (T.node none (T.node none (T.node (some (AObj.cells 9 (TE.strs (TH.get (TH.fieldsAt { objs := T.node none T.nil (T.node none T.nil (T.node none T.nil (T.node none T.nil (T.node none T.nil (T.node none T.nil (T.node (some (AObj.cells ty c false 0)) T.nil T.nil)))))), next := 127 } (Value.slice (some { block := 126, off := o }) n cap)) s)) false 2)) T.nil T.nil) T.nil) T.nil) T.nil) T.nil) T.nil) T.nil) (T.node none T.nil (T.node none T.nil (T.node none T.nil (T.node none T.nil (T.node none T.nil (T.node (some (AObj.cells ty c false 0)) T.nil T.nil)))))), next := 128 })) (.ite (decide ((↑({ data := { toList := TH.joinS #[OfNat.ofNat (44 : Nat), OfNat.ofNat (32 : Nat)].toList (TE.listAt { objs := T.node none (T.node none (T.node none (T.node none (T.node none (T.node none (T.node none (T.node (some (AObj.cells (9 : Nat) (TE.strs (TH.get (TH.fieldsAt { objs := T.node none T.nil (T.node none T.nil (T.node none T.nil (T.node none T.nil (T.node none T.nil (T.node none T.nil (T.node (some (AObj.cells ty c false (0 : Nat))) T.nil T.nil)))))), next := (127 : Nat) } (Value.slice (some { block := (126 : Nat), off := o }) n cap)) s)) false (2 : Nat))) T.nil T.nil) T.nil) T.nil) T.nil) T.nil) T.nil) T.nil) (T.node none T.nil (T.node none T.nil (T.node none T.nil (T.node none T.nil (T.node none T.nil (T.node (some (AObj.cells ty c false (0 : Nat))) T.nil T.nil)))))), next := (128 : Nat) } (Value.slice (some { block := (127 : Nat), off := (0 : Nat) }) (TH.get (TH.fieldsAt { objs := T.node none T.nil (T.node none T.nil (T.node none T.nil (T.node none T.nil (T.node none T.nil (T.node none T.nil (T.node (some (AObj.cells ty c false (0 : Nat))) T.nil T.nil)))))), next := (127 : Nat) } (Value.slice (some { block := (126 : Nat), off := o }) n cap)) s).length (9223372036854775809 : Nat))) } } : ByteArray).size : Int) > (2000 : Int))) (.need (NoNames c ∧ True) (.done 35 (Value.tuple { toList := [Value.string { data := #[] }, Value.int IntKind.i64 3] }) (H0 ty o c n cap s))) (.done 35 (Value.tuple { toList := [Value.string { data := { toList := TH.joinS #[OfNat.ofNat 44, OfNat.ofNat 32].toList (TE.listAt { objs := T.node none (T.node none (T.node none (T.node none (T.node none (T.node none (T.node none (T.node (some (AObj.cells 9 (TE.strs (TH.get (TH.fieldsAt { objs := T.node none T.nil (T.node none T.nil (T.node none T.nil (T.node none T.nil (T.node none T.nil (T.node none T.nil (T.node (some (AObj.cells ty c false 0)) T.nil T.nil)))))), next := 127 } (Value.slice (some { block := 126, off := o }) n cap)) s)) false 2)) T.nil T.nil) T.nil) T.nil) T.nil) T.nil) T.nil) T.nil) (T.node none T.nil (T.node none T.nil (T.node none T.nil (T.node none T.nil (T.node none T.nil (T.node (some (AObj.cells ty c false 0)) T.nil T.nil)))))), next := 128 } (Value.slice (some { block := 127, off := 0 }) (TH.get (TH.fieldsAt { objs := T.node none T.nil (T.node none T.nil (T.node none T.nil (T.node none T.nil (T.node none T.nil (T.node none T.nil (T.node (some (AObj.cells ty c false 0)) T.nil T.nil)))))), next := 127 } (Value.slice (some { block := 126, off := o }) n cap)) s).length 9223372036854775809)) } }, Value.int IntKind.i64 0] }) ({ objs := T.node none (T.node none (T.node none (T.node none (T.node none (T.node none (T.node none (T.node (some (AObj.cells 9 (TE.strs (TH.get (TH.fieldsAt { objs := T.node none T.nil (T.node none T.nil (T.node none T.nil (T.node none T.nil (T.node none T.nil (T.node none T.nil (T.node (some (AObj.cells ty c false 0)) T.nil T.nil)))))), next := 127 } (Value.slice (some { block := 126, off := o }) n cap)) s)) false 2)) T.nil T.nil) T.nil) T.nil) T.nil) T.nil) T.nil) T.nil) (T.node none T.nil (T.node none T.nil (T.node none T.nil (T.node none T.nil (T.node none T.nil (T.node (some (AObj.cells ty c false 0)) T.nil T.nil)))))), next := 128 })))))))))) (.call 87 [Value.string { data := { toList := s } }] ({ objs := T.node none T.nil (T.node none T.nil (T.node none T.nil (T.node none T.nil (T.node none T.nil (T.node none T.nil (T.node (some (AObj.cells ty c false 0)) T.nil T.nil)))))), next := 127 }) (.ret (Value.bool (TB.tokB s)) ({ objs := T.node none T.nil (T.node none T.nil (T.node none T.nil (T.node none T.nil (T.node none T.nil (T.node none T.nil (T.node (some (AObj.cells ty c false 0)) T.nil T.nil)))))), next := 127 })) (.ite (!TB.tokB s) (.done 35 (Value.tuple { toList := [Value.string { data := #[] }, Value.int IntKind.i64 2] }) (H0 ty o c n cap s)) (.call 90 [Value.slice (some { block := 126, off := o }) n cap, Value.string { data := { toList := s } }] ({ objs := T.node none T.nil (T.node none T.nil (T.node none T.nil (T.node none T.nil (T.node none T.nil (T.node none T.nil (T.node (some (AObj.cells ty c false 0)) T.nil T.nil)))))), next := 127 }) (.ite (TH.getB (TH.fieldsAt { objs := T.node none T.nil (T.node none T.nil (T.node none T.nil (T.node none T.nil (T.node none T.nil (T.node none T.nil (T.node (some (AObj.cells ty c false (0 : Nat))) T.nil T.nil)))))), next := (127 : Nat) } (Value.slice (some { block := (126 : Nat), off := o }) n cap)) s) (.ret (Value.slice none 0 0) ({ objs := T.node none T.nil (T.node none T.nil (T.node none T.nil (T.node none T.nil (T.node none T.nil (T.node none T.nil (T.node (some (AObj.cells ty c false 0)) T.nil T.nil)))))), next := 127 })) (.ret (Value.slice (some { block := 127, off := 0 }) (TH.get (TH.fieldsAt { objs := T.node none T.nil (T.node none T.nil (T.node none T.nil (T.node none T.nil (T.node none T.nil (T.node none T.nil (T.node (some (AObj.cells ty c false 0)) T.nil T.nil)))))), next := 127 } (Value.slice (some { block := 126, off := o }) n cap)) s).length 9223372036854775809) ({ objs := T.node none (T.node none (T.node none (T.node none (T.node none (T.node none (T.node none (T.node (some (AObj.cells 9 (TE.strs (TH.get (TH.fieldsAt { objs := T.node none T.nil (T.node none T.nil (T.node none T.nil (T.node none T.nil (T.node none T.nil (T.node none T.nil (T.node (some (AObj.cells ty c false 0)) T.nil T.nil)))))), next := 127 } (Value.slice (some { block := 126, off := o }) n cap)) s)) false 2)) T.nil T.nil) T.nil) T.nil) T.nil) T.nil) T.nil) T.nil) (T.node none T.nil (T.node none T.nil (T.node none T.nil (T.node none T.nil (T.node none T.nil (T.node (some (AObj.cells ty c false 0)) T.nil T.nil)))))), next := 128 }))) (.ite (TH.getB (TH.fieldsAt { objs := T.node none T.nil (T.node none T.nil (T.node none T.nil (T.node none T.nil (T.node none T.nil (T.node none T.nil (T.node (some (AObj.cells ty c false (0 : Nat))) T.nil T.nil)))))), next := (127 : Nat) } (Value.slice (some { block := (126 : Nat), off := o }) n cap)) s) (.done 35 (Value.tuple { toList := [Value.string { data := #[] }, Value.int IntKind.i64 4] }) (H0 ty o c n cap s)) (.ite ((↑(TH.get (TH.fieldsAt { objs := T.node none T.nil (T.node none T.nil (T.node none T.nil (T.node none T.nil (T.node none T.nil (T.node none T.nil (T.node (some (AObj.cells ty c false (0 : Nat))) T.nil T.nil)))))), next := (127 : Nat) } (Value.slice (some { block := (126 : Nat), off := o }) n cap)) s).length : Int) == (0 : Int)) (.need (NoNames c ∧ True) (.done 35 (Value.tuple { toList := [Value.string { data := #[] }, Value.int IntKind.i64 4] }) (H0 ty o c n cap s))) (.call 29 [Value.string { data := { toList := s } }] ({ objs := T.node none (T.node none (T.node none (T.node none (T.node none (T.node none (T.node none (T.node (some (AObj.cells 9 (TE.strs (TH.get (TH.fieldsAt { objs := T.node none T.nil (T.node none T.nil (T.node none T.nil (T.node none T.nil (T.node none T.nil (T.node none T.nil (T.node (some (AObj.cells ty c false 0)) T.nil T.nil)))))), next := 127 } (Value.slice (some { block := 126, off := o }) n cap)) s)) false 2)) T.nil T.nil) T.nil) T.nil) T.nil) T.nil) T.nil) T.nil) (T.node none T.nil (T.node none T.nil (T.node none T.nil (T.node none T.nil (T.node none T.nil (T.node (some (AObj.cells ty c false 0)) T.nil T.nil)))))), next := 128 }) (.ret (Value.string { data := { toList := List.map TB.lowB s } }) ({ objs := T.node none (T.node none (T.node none (T.node none (T.node none (T.node none (T.node none (T.node (some (AObj.cells 9 (TE.strs (TH.get (TH.fieldsAt { objs := T.node none T.nil (T.node none T.nil (T.node none T.nil (T.node none T.nil (T.node none T.nil (T.node none T.nil (T.node (some (AObj.cells ty c false 0)) T.nil T.nil)))))), next := 127 } (Value.slice (some { block := 126, off := o }) n cap)) s)) false 2)) T.nil T.nil) T.nil) T.nil) T.nil) T.nil) T.nil) T.nil) (T.node none T.nil (T.node none T.nil (T.node none T.nil (T.node none T.nil (T.node none T.nil (T.node (some (AObj.cells ty c false 0)) T.nil T.nil)))))), next := 128 })) (.ite (List.map TB.lowB s == #[OfNat.ofNat (115 : Nat), OfNat.ofNat (101 : Nat), OfNat.ofNat (116 : Nat), OfNat.ofNat (45 : Nat), OfNat.ofNat (99 : Nat), OfNat.ofNat (111 : Nat), OfNat.ofNat (111 : Nat), OfNat.ofNat (107 : Nat), OfNat.ofNat (105 : Nat), OfNat.ofNat (101 : Nat)].toList) (.need (NoNames c ∧ True) (.done 35 (Value.tuple { toList := [Value.string { data := #[] }, Value.int IntKind.i64 9] }) (H0 ty o c n cap s))) (.call 91 [Value.slice (some { block := 127, off := 0 }) (TH.get (TH.fieldsAt { objs := T.node none T.nil (T.node none T.nil (T.node none T.nil (T.node none T.nil (T.node none T.nil (T.node none T.nil (T.node (some (AObj.cells ty c false 0)) T.nil T.nil)))))), next := 127 } (Value.slice (some { block := 126, off := o }) n cap)) s).length 9223372036854775809, Value.string { data := #[OfNat.ofNat 44, OfNat.ofNat 32] }] ({ objs := T.node none (T.node none (T.node none (T.node none (T.node none (T.node none (T.node none (T.node (some (AObj.cells 9 (TE.strs (TH.get (TH.fieldsAt { objs := T.node none T.nil (T.node none T.nil (T.node none T.nil (T.node none T.nil (T.node none T.nil (T.node none T.nil (T.node (some (AObj.cells ty c false 0)) T.nil T.nil)))))), next := 127 } (Value.slice (some { block := 126, off := o }) n cap)) s)) false 2)) T.nil T.nil) T.nil) T.nil) T.nil) T.nil) T.nil) T.nil) (T.node none T.nil (T.node none T.nil (T.node none T.nil (T.node none T.nil (T.node none T.nil (T.node (some (AObj.cells ty c false 0)) T.nil T.nil)))))), next := 128 }) (.ret (Value.string { data := { toList := TH.joinS #[OfNat.ofNat 44, OfNat.ofNat 32].toList (TE.listAt { objs := T.node none (T.node none (T.node none (T.node none (T.node none (T.node none (T.node none (T.node (some (AObj.cells 9 (TE.strs (TH.get (TH.fieldsAt { objs := T.node none T.nil (T.node none T.nil (T.node none T.nil (T.node none T.nil (T.node none T.nil (T.node none T.nil (T.node (some (AObj.cells ty c false 0)) T.nil T.nil)))))), next := 127 } (Value.slice (some { block := 126, off := o }) n cap)) s)) false 2)) T.nil T.nil) T.nil) T.nil) T.nil) T.nil) T.nil) T.nil) (T.node none T.nil (T.node none T.nil (T.node none T.nil (T.node none T.nil (T.node none T.nil (T.node (some (AObj.cells ty c false 0)) T.nil T.nil)))))), next := 128 } (Value.slice (some { block := 127, off := 0 }) (TH.get (TH.fieldsAt { objs := T.node none T.nil (T.node none T.nil (T.node none T.nil (T.node none T.nil (T.node none T.nil (T.node none T.nil (T.node (some (AObj.cells ty c false 0)) T.nil T.nil)))))), next := 127 } (Value.slice (some { block := 126, off := o }) n cap)) s).length 9223372036854775809)) } }) ({ objs := T.node none (T.node none (T.node none (T.node none (T.node none (T.node none (T.node none (T.node (some (AObj.cells 9 (TE.strs (TH.get (TH.fieldsAt { objs := T.node none T.nil (T.node none T.nil (T.node none T.nil (T.node none T.nil (T.node none T.nil (T.node none T.nil (T.node (some (AObj.cells ty c false 0)) T.nil T.nil)))))), next := 127 } (Value.slice (some { block := 126, off := o }) n cap)) s)) false 2)) T.nil T.nil) T.nil) T.nil) T.nil) T.nil) T.nil) T.nil) (T.node none T.nil (T.node none T.nil (T.node none T.nil (T.node none T.nil (T.node none T.nil (T.node (some (AObj.cells ty c false 0)) T.nil T.nil)))))), next := 128 })) (.ite (decide ((↑({ data := { toList := TH.joinS #[OfNat.ofNat (44 : Nat), OfNat.ofNat (32 : Nat)].toList (TE.listAt { objs := T.node none (T.node none (T.node none (T.node none (T.node none (T.node none (T.node none (T.node (some (AObj.cells (9 : Nat) (TE.strs (TH.get (TH.fieldsAt { objs := T.node none T.nil (T.node none T.nil (T.node none T.nil (T.node none T.nil (T.node none T.nil (T.node none T.nil (T.node (some (AObj.cells ty c false (0 : Nat))) T.nil T.nil)))))), next := (127 : Nat) } (Value.slice (some { block := (126 : Nat), off := o }) n cap)) s)) false (2 : Nat))) T.nil T.nil) T.nil) T.nil) T.nil) T.nil) T.nil) T.nil) (T.node none T.nil (T.node none T.nil (T.node none T.nil (T.node none T.nil (T.node none T.nil (T.node (some (AObj.cells ty c false (0 : Nat))) T.nil T.nil)))))), next := (128 : Nat) } (Value.slice (some { block := (127 : Nat), off := (0 : Nat) }) (TH.get (TH.fieldsAt { objs := T.node none T.nil (T.node none T.nil (T.node none T.nil (T.node none T.nil (T.node none T.nil (T.node none T.nil (T.node (some (AObj.cells ty c false (0 : Nat))) T.nil T.nil)))))), next := (127 : Nat) } (Value.slice (some { block := (126 : Nat), off := o }) n cap)) s).length (9223372036854775809 : Nat))) } } : ByteArray).size : Int) > (2000 : Int))) (.need (NoNames c ∧ True) (.done 35 (Value.tuple { toList := [Value.string { data := #[] }, Value.int IntKind.i64 3] }) (H0 ty o c n cap s))) (.done 35 (Value.tuple { toList := [Value.string { data := { toList := TH.joinS #[OfNat.ofNat 44, OfNat.ofNat 32].toList (TE.listAt { objs := T.node none (T.node none (T.node none (T.node none (T.node none (T.node none (T.node none (T.node (some (AObj.cells 9 (TE.strs (TH.get (TH.fieldsAt { objs := T.node none T.nil (T.node none T.nil (T.node none T.nil (T.node none T.nil (T.node none T.nil (T.node none T.nil (T.node (some (AObj.cells ty c false 0)) T.nil T.nil)))))), next := 127 } (Value.slice (some { block := 126, off := o }) n cap)) s)) false 2)) T.nil T.nil) T.nil) T.nil) T.nil) T.nil) T.nil) T.nil) (T.node none T.nil (T.node none T.nil (T.node none T.nil (T.node none T.nil (T.node none T.nil (T.node (some (AObj.cells ty c false 0)) T.nil T.nil)))))), next := 128 } (Value.slice (some { block := 127, off := 0 }) (TH.get (TH.fieldsAt { objs := T.node none T.nil (T.node none T.nil (T.node none T.nil (T.node none T.nil (T.node none T.nil (T.node none T.nil (T.node (some (AObj.cells ty c false 0)) T.nil T.nil)))))), next := 127 } (Value.slice (some { block := 126, off := o }) n cap)) s).length 9223372036854775809)) } }, Value.int IntKind.i64 0] }) ({ objs := T.node none (T.node none (T.node none (T.node none (T.node none (T.node none (T.node none (T.node (some (AObj.cells 9 (TE.strs (TH.get (TH.fieldsAt { objs := T.node none T.nil (T.node none T.nil (T.node none T.nil (T.node none T.nil (T.node none T.nil (T.node none T.nil (T.node (some (AObj.cells ty c false 0)) T.nil T.nil)))))), next := 127 } (Value.slice (some { block := 126, off := o }) n cap)) s)) false 2)) T.nil T.nil) T.nil) T.nil) T.nil) T.nil) T.nil) T.nil) (T.node none T.nil (T.node none T.nil (T.node none T.nil (T.node none T.nil (T.node none T.nil (T.node (some (AObj.cells ty c false 0)) T.nil T.nil)))))), next := 128 })))))))))))))) : CallSpec η Go.Proofs.Tryz.prog B 35 [Value.slice (some { block := 126, off := o }) n cap, Value.string { data := { toList := s } }] (H0 ty o c n cap s) D := by
  refine CallSpec.ofQF hη (CallSpec.enter (fr := (E ty o c n cap s).fr) (by kernel_rfl) ?_)
  exact walk_ok (h0 := H0 ty o c n cap s) hη hmix hreg (fun _ _ k => k) 10000 (.steps 19 <| .call (.ret (Value.int IntKind.i64 (TH.chk (TH.fieldsAt { objs := T.node none T.nil (T.node none T.nil (T.node none T.nil (T.node none T.nil (T.node none T.nil (T.node none T.nil (T.node (some (AObj.cells ty c false 0)) T.nil T.nil)))))), next := 127 } (Value.slice (some { block := 126, off := o }) n cap)))) ({ objs := T.node none T.nil (T.node none T.nil (T.node none T.nil (T.node none T.nil (T.node none T.nil (T.node none T.nil (T.node (some (AObj.cells ty c false 0)) T.nil T.nil)))))), next := 127 })) <| .steps 7 <| .bit 9 (.steps 15 <| .bit 13 (.steps 8 <| .done none) (.steps 6 <| .call (.ite (TH.getB (TH.fieldsAt { objs := T.node none T.nil (T.node none T.nil (T.node none T.nil (T.node none T.nil (T.node none T.nil (T.node none T.nil (T.node (some (AObj.cells ty c false (0 : Nat))) T.nil T.nil)))))), next := (127 : Nat) } (Value.slice (some { block := (126 : Nat), off := o }) n cap)) s) (.ret (Value.slice none 0 0) ({ objs := T.node none T.nil (T.node none T.nil (T.node none T.nil (T.node none T.nil (T.node none T.nil (T.node none T.nil (T.node (some (AObj.cells ty c false 0)) T.nil T.nil)))))), next := 127 })) (.ret (Value.slice (some { block := 127, off := 0 }) (TH.get (TH.fieldsAt { objs := T.node none T.nil (T.node none T.nil (T.node none T.nil (T.node none T.nil (T.node none T.nil (T.node none T.nil (T.node (some (AObj.cells ty c false 0)) T.nil T.nil)))))), next := 127 } (Value.slice (some { block := 126, off := o }) n cap)) s).length 9223372036854775809) ({ objs := T.node none (T.node none (T.node none (T.node none (T.node none (T.node none (T.node none (T.node (some (AObj.cells 9 (TE.strs (TH.get (TH.fieldsAt { objs := T.node none T.nil (T.node none T.nil (T.node none T.nil (T.node none T.nil (T.node none T.nil (T.node none T.nil (T.node (some (AObj.cells ty c false 0)) T.nil T.nil)))))), next := 127 } (Value.slice (some { block := 126, off := o }) n cap)) s)) false 2)) T.nil T.nil) T.nil) T.nil) T.nil) T.nil) T.nil) T.nil) (T.node none T.nil (T.node none T.nil (T.node none T.nil (T.node none T.nil (T.node none T.nil (T.node (some (AObj.cells ty c false 0)) T.nil T.nil)))))), next := 128 }))) <| .both (.steps 16 <| .done none) (.steps 9 <| .bit 20 (.steps 7 <| .done (some ⟨127, [], [(126, (126, true))]⟩)) (.steps 6 <| .call (.ret (Value.string { data := { toList := List.map TB.lowB s } }) ({ objs := T.node none (T.node none (T.node none (T.node none (T.node none (T.node none (T.node none (T.node (some (AObj.cells 9 (TE.strs (TH.get (TH.fieldsAt { objs := T.node none T.nil (T.node none T.nil (T.node none T.nil (T.node none T.nil (T.node none T.nil (T.node none T.nil (T.node (some (AObj.cells ty c false 0)) T.nil T.nil)))))), next := 127 } (Value.slice (some { block := 126, off := o }) n cap)) s)) false 2)) T.nil T.nil) T.nil) T.nil) T.nil) T.nil) T.nil) T.nil) (T.node none T.nil (T.node none T.nil (T.node none T.nil (T.node none T.nil (T.node none T.nil (T.node (some (AObj.cells ty c false 0)) T.nil T.nil)))))), next := 128 })) <| .steps 2 <| .bit 23 (.steps 7 <| .done (some ⟨127, [], [(126, (126, true))]⟩)) (.steps 5 <| .call (.ret (Value.string { data := { toList := TH.joinS #[OfNat.ofNat 44, OfNat.ofNat 32].toList (TE.listAt { objs := T.node none (T.node none (T.node none (T.node none (T.node none (T.node none (T.node none (T.node (some (AObj.cells 9 (TE.strs (TH.get (TH.fieldsAt { objs := T.node none T.nil (T.node none T.nil (T.node none T.nil (T.node none T.nil (T.node none T.nil (T.node none T.nil (T.node (some (AObj.cells ty c false 0)) T.nil T.nil)))))), next := 127 } (Value.slice (some { block := 126, off := o }) n cap)) s)) false 2)) T.nil T.nil) T.nil) T.nil) T.nil) T.nil) T.nil) T.nil) (T.node none T.nil (T.node none T.nil (T.node none T.nil (T.node none T.nil (T.node none T.nil (T.node (some (AObj.cells ty c false 0)) T.nil T.nil)))))), next := 128 } (Value.slice (some { block := 127, off := 0 }) (TH.get (TH.fieldsAt { objs := T.node none T.nil (T.node none T.nil (T.node none T.nil (T.node none T.nil (T.node none T.nil (T.node none T.nil (T.node (some (AObj.cells ty c false 0)) T.nil T.nil)))))), next := 127 } (Value.slice (some { block := 126, off := o }) n cap)) s).length 9223372036854775809)) } }) ({ objs := T.node none (T.node none (T.node none (T.node none (T.node none (T.node none (T.node none (T.node (some (AObj.cells 9 (TE.strs (TH.get (TH.fieldsAt { objs := T.node none T.nil (T.node none T.nil (T.node none T.nil (T.node none T.nil (T.node none T.nil (T.node none T.nil (T.node (some (AObj.cells ty c false 0)) T.nil T.nil)))))), next := 127 } (Value.slice (some { block := 126, off := o }) n cap)) s)) false 2)) T.nil T.nil) T.nil) T.nil) T.nil) T.nil) T.nil) T.nil) (T.node none T.nil (T.node none T.nil (T.node none T.nil (T.node none T.nil (T.node none T.nil (T.node (some (AObj.cells ty c false 0)) T.nil T.nil)))))), next := 128 })) <| .steps 9 <| .bit 28 (.steps 7 <| .done (some ⟨127, [], [(126, (126, true))]⟩)) (.steps 9 <| .done none)))))) (.steps 6 <| .call (.ret (Value.bool (TB.tokB s)) ({ objs := T.node none T.nil (T.node none T.nil (T.node none T.nil (T.node none T.nil (T.node none T.nil (T.node none T.nil (T.node (some (AObj.cells ty c false 0)) T.nil T.nil)))))), next := 127 })) <| .steps 2 <| .bit 13 (.steps 22 <| .done none) (.steps 21 <| .call (.ite (TH.getB (TH.fieldsAt { objs := T.node none T.nil (T.node none T.nil (T.node none T.nil (T.node none T.nil (T.node none T.nil (T.node none T.nil (T.node (some (AObj.cells ty c false (0 : Nat))) T.nil T.nil)))))), next := (127 : Nat) } (Value.slice (some { block := (126 : Nat), off := o }) n cap)) s) (.ret (Value.slice none 0 0) ({ objs := T.node none T.nil (T.node none T.nil (T.node none T.nil (T.node none T.nil (T.node none T.nil (T.node none T.nil (T.node (some (AObj.cells ty c false 0)) T.nil T.nil)))))), next := 127 })) (.ret (Value.slice (some { block := 127, off := 0 }) (TH.get (TH.fieldsAt { objs := T.node none T.nil (T.node none T.nil (T.node none T.nil (T.node none T.nil (T.node none T.nil (T.node none T.nil (T.node (some (AObj.cells ty c false 0)) T.nil T.nil)))))), next := 127 } (Value.slice (some { block := 126, off := o }) n cap)) s).length 9223372036854775809) ({ objs := T.node none (T.node none (T.node none (T.node none (T.node none (T.node none (T.node none (T.node (some (AObj.cells 9 (TE.strs (TH.get (TH.fieldsAt { objs := T.node none T.nil (T.node none T.nil (T.node none T.nil (T.node none T.nil (T.node none T.nil (T.node none T.nil (T.node (some (AObj.cells ty c false 0)) T.nil T.nil)))))), next := 127 } (Value.slice (some { block := 126, off := o }) n cap)) s)) false 2)) T.nil T.nil) T.nil) T.nil) T.nil) T.nil) T.nil) T.nil) (T.node none T.nil (T.node none T.nil (T.node none T.nil (T.node none T.nil (T.node none T.nil (T.node (some (AObj.cells ty c false 0)) T.nil T.nil)))))), next := 128 }))) <| .both (.steps 16 <| .done none) (.steps 9 <| .bit 20 (.steps 7 <| .done (some ⟨127, [], [(126, (126, true))]⟩)) (.steps 6 <| .call (.ret (Value.string { data := { toList := List.map TB.lowB s } }) ({ objs := T.node none (T.node none (T.node none (T.node none (T.node none (T.node none (T.node none (T.node (some (AObj.cells 9 (TE.strs (TH.get (TH.fieldsAt { objs := T.node none T.nil (T.node none T.nil (T.node none T.nil (T.node none T.nil (T.node none T.nil (T.node none T.nil (T.node (some (AObj.cells ty c false 0)) T.nil T.nil)))))), next := 127 } (Value.slice (some { block := 126, off := o }) n cap)) s)) false 2)) T.nil T.nil) T.nil) T.nil) T.nil) T.nil) T.nil) T.nil) (T.node none T.nil (T.node none T.nil (T.node none T.nil (T.node none T.nil (T.node none T.nil (T.node (some (AObj.cells ty c false 0)) T.nil T.nil)))))), next := 128 })) <| .steps 2 <| .bit 23 (.steps 7 <| .done (some ⟨127, [], [(126, (126, true))]⟩)) (.steps 5 <| .call (.ret (Value.string { data := { toList := TH.joinS #[OfNat.ofNat 44, OfNat.ofNat 32].toList (TE.listAt { objs := T.node none (T.node none (T.node none (T.node none (T.node none (T.node none (T.node none (T.node (some (AObj.cells 9 (TE.strs (TH.get (TH.fieldsAt { objs := T.node none T.nil (T.node none T.nil (T.node none T.nil (T.node none T.nil (T.node none T.nil (T.node none T.nil (T.node (some (AObj.cells ty c false 0)) T.nil T.nil)))))), next := 127 } (Value.slice (some { block := 126, off := o }) n cap)) s)) false 2)) T.nil T.nil) T.nil) T.nil) T.nil) T.nil) T.nil) T.nil) (T.node none T.nil (T.node none T.nil (T.node none T.nil (T.node none T.nil (T.node none T.nil (T.node (some (AObj.cells ty c false 0)) T.nil T.nil)))))), next := 128 } (Value.slice (some { block := 127, off := 0 }) (TH.get (TH.fieldsAt { objs := T.node none T.nil (T.node none T.nil (T.node none T.nil (T.node none T.nil (T.node none T.nil (T.node none T.nil (T.node (some (AObj.cells ty c false 0)) T.nil T.nil)))))), next := 127 } (Value.slice (some { block := 126, off := o }) n cap)) s).length 9223372036854775809)) } }) ({ objs := T.node none (T.node none (T.node none (T.node none (T.node none (T.node none (T.node none (T.node (some (AObj.cells 9 (TE.strs (TH.get (TH.fieldsAt { objs := T.node none T.nil (T.node none T.nil (T.node none T.nil (T.node none T.nil (T.node none T.nil (T.node none T.nil (T.node (some (AObj.cells ty c false 0)) T.nil T.nil)))))), next := 127 } (Value.slice (some { block := 126, off := o }) n cap)) s)) false 2)) T.nil T.nil) T.nil) T.nil) T.nil) T.nil) T.nil) T.nil) (T.node none T.nil (T.node none T.nil (T.node none T.nil (T.node none T.nil (T.node none T.nil (T.node (some (AObj.cells ty c false 0)) T.nil T.nil)))))), next := 128 })) <| .steps 9 <| .bit 28 (.steps 7 <| .done (some ⟨127, [], [(126, (126, true))]⟩)) (.steps 9 <| .done none))))))) (E ty o c n cap s) (tmOk_get (by kernel_rfl)) (Eq.mpr (congrArg (W.holds η Go.Proofs.Tryz.prog B 35 (fun kp_ st_ => RunD η Go.Proofs.Tryz.prog B 35 (H0 ty o c n cap s) kp_ st_ (QF Go.Proofs.Tryz.prog 127 D)) D) (by kernel_rfl)) h)
end HCom
namespace HCom0
set_option linter.unusedVariables false
noncomputable def bd : Code := (Go.Proofs.Tryz.f35.body).getD .skip
noncomputable def H0 (s : List UInt8) : AH := { objs := T.nil, next := 126 }
noncomputable def E (s : List UInt8) : AS := ⟨⟨35, 30, T.node (some (Value.slice none 0 0)) (T.node (some (Value.string { data := { toList := s } })) T.nil T.nil) T.nil, [Item.code (codeAt bd [])], [], FrameMode.run, CallKind.normal, none⟩, [], ⟨T.nil, 126⟩⟩
theorem enter {η : Nat → Value} {B : Nat} (hη : OneCells η) (hmix : Go.Proofs.Tryz.prog.follows .mixedOrders = true) (hreg : RegOk η Go.Proofs.Tryz.prog B noNest) {D : Value → AH → Prop} (s : List UInt8) (h : W.holds η Go.Proofs.Tryz.prog B 35 (fun kp_ st_ => RunD η Go.Proofs.Tryz.prog B 35 (H0 s) kp_ st_ (QF Go.Proofs.Tryz.prog 126 D)) D (.call 37 [Value.slice none 0 0] ({ objs := T.nil, next := 126 }) (.ret (Value.int IntKind.i64 0) ({ objs := T.nil, next := 126 })) (.call 87 [Value.string { data := { toList := s } }] ({ objs := T.nil, next := 126 }) (.ret (Value.bool (TB.tokB s)) ({ objs := T.nil, next := 126 })) (.ite (!TB.tokB s) (.done 35 (Value.tuple { toList := [Value.string { data := #[] }, Value.int IntKind.i64 2] }) (H0 s)) (.call 90 [Value.slice none 0 0, Value.string { data := { toList := s } }] ({ objs := T.nil, next := 126 }) (.ite (true) (.ret (Value.slice none 0 0) ({ objs := T.nil, next := 126 })) (.ret (Value.slice (some { block := 126, off := 0 }) 0 9223372036854775809) ({ objs := T.node none T.nil (T.node none T.nil (T.node none T.nil (T.node none T.nil (T.node none T.nil (T.node none T.nil (T.node (some (AObj.cells 9 [] false 2)) T.nil T.nil)))))), next := 127 }))) (.ite (true) (.done 35 (Value.tuple { toList := [Value.string { data := #[] }, Value.int IntKind.i64 4] }) (H0 s)) (.need (True) (.done 35 (Value.tuple { toList := [Value.string { data := #[] }, Value.int IntKind.i64 4] }) (H0 s))))))))) : CallSpec η Go.Proofs.Tryz.prog B 35 [Value.slice none 0 0, Value.string { data := { toList := s } }] (H0 s) D := by
  refine CallSpec.ofQF hη (CallSpec.enter (fr := (E s).fr) (by kernel_rfl) ?_)
  exact walk_ok (h0 := H0 s) hη hmix hreg (fun _ _ k => k) 10000 (.steps 19 <| .call (.ret (Value.int IntKind.i64 0) ({ objs := T.nil, next := 126 })) <| .steps 13 <| .call (.ret (Value.bool (TB.tokB s)) ({ objs := T.nil, next := 126 })) <| .steps 2 <| .bit 13 (.steps 22 <| .done none) (.steps 21 <| .call (.ite (true) (.ret (Value.slice none 0 0) ({ objs := T.nil, next := 126 })) (.ret (Value.slice (some { block := 126, off := 0 }) 0 9223372036854775809) ({ objs := T.node none T.nil (T.node none T.nil (T.node none T.nil (T.node none T.nil (T.node none T.nil (T.node none T.nil (T.node (some (AObj.cells 9 [] false 2)) T.nil T.nil)))))), next := 127 }))) <| .both (.steps 16 <| .done none) (.steps 16 <| .done (some ⟨126, [], []⟩)))) (E s) (tmOk_get (by kernel_rfl)) (Eq.mpr (congrArg (W.holds η Go.Proofs.Tryz.prog B 35 (fun kp_ st_ => RunD η Go.Proofs.Tryz.prog B 35 (H0 s) kp_ st_ (QF Go.Proofs.Tryz.prog 126 D)) D) (by kernel_rfl)) h)
end HCom0
namespace HRCom
set_option linter.unusedVariables false
noncomputable def bd : Code := (Go.Proofs.Tryz.f36.body).getD .skip
noncomputable def H0 (ty : Nat) (o : Nat) (c : List Value) (n : Nat) (cap : Nat) (s : List UInt8) : AH := { objs := T.node none T.nil (T.node none T.nil (T.node none T.nil (T.node none T.nil (T.node none T.nil (T.node none T.nil (T.node (some (AObj.cells ty c false 0)) T.nil T.nil)))))), next := 127 }
noncomputable def E (ty : Nat) (o : Nat) (c : List Value) (n : Nat) (cap : Nat) (s : List UInt8) : AS := ⟨⟨36, 45, T.node (some (Value.slice (some { block := 126, off := o }) n cap)) (T.node (some (Value.string { data := { toList := s } })) T.nil T.nil) T.nil, [Item.code (codeAt bd [])], [], FrameMode.run, CallKind.normal, none⟩, [], ⟨T.node none T.nil (T.node none T.nil (T.node none T.nil (T.node none T.nil (T.node none T.nil (T.node none T.nil (T.node (some (AObj.cells ty c false 0)) T.nil T.nil)))))), 127⟩⟩
noncomputable def S0 (ty : Nat) (o : Nat) (c : List Value) (n : Nat) (cap : Nat) (s : List UInt8) (i0 : Int) (s0 : List UInt8) (d : Nat → Value) : AS := ⟨⟨36, 45, T.node (some (d 0)) (T.node (some (d 1)) (T.node (some (d 3)) (T.node (some (Value.slice (some { block := 127, off := 0 }) (TH.get (TH.fieldsAt { objs := T.node none T.nil (T.node none T.nil (T.node none T.nil (T.node none T.nil (T.node none T.nil (T.node none T.nil (T.node (some (AObj.cells ty c false 0)) T.nil T.nil)))))), next := 127 } (Value.slice (some { block := 126, off := o }) n cap)) s).length 9223372036854775809)) (T.node (some (d 15)) (T.node (some (d 31)) T.nil T.nil) T.nil) (T.node (some (d 23)) (T.node (some (d 39)) T.nil T.nil) T.nil)) (T.node (some (d 11)) (T.node (some (d 19)) (T.node (some (d 35)) T.nil T.nil) T.nil) (T.node (some (d 27)) (T.node (some (d 43)) T.nil T.nil) T.nil))) (T.node (some (d 5)) (T.node (some (Value.int IntKind.i64 i0)) (T.node (some (d 17)) (T.node (some (d 33)) T.nil T.nil) T.nil) (T.node (some (d 25)) (T.node (some (d 41)) T.nil T.nil) T.nil)) (T.node (some (d 13)) (T.node (some (d 21)) (T.node (some (d 37)) T.nil T.nil) T.nil) (T.node (some (d 29)) T.nil T.nil)))) (T.node (some (d 2)) (T.node (some (d 4)) (T.node (some (Value.string { data := { toList := s0 } })) (T.node (some (d 16)) (T.node (some (d 32)) T.nil T.nil) T.nil) (T.node (some (d 24)) (T.node (some (d 40)) T.nil T.nil) T.nil)) (T.node (some (d 12)) (T.node (some (d 20)) (T.node (some (d 36)) T.nil T.nil) T.nil) (T.node (some (d 28)) (T.node (some (d 44)) T.nil T.nil) T.nil))) (T.node (some (d 6)) (T.node (some (d 10)) (T.node (some (d 18)) (T.node (some (d 34)) T.nil T.nil) T.nil) (T.node (some (d 26)) (T.node (some (d 42)) T.nil T.nil) T.nil)) (T.node (some (d 14)) (T.node (some (d 22)) (T.node (some (d 38)) T.nil T.nil) T.nil) (T.node (some (d 30)) T.nil T.nil)))), [Item.code (codeAt bd [1, 1, 1, 1, 1, 1, 1, 0, 1, 0, 0]), Item.inLoop (codeAt bd [1, 1, 1, 1, 1, 1, 1, 0, 1, 0, 0]), Item.inBlock 0, Item.code (codeAt bd [1, 1, 1, 1, 1, 1, 1, 1])], [], FrameMode.run, CallKind.normal, none⟩, [], ⟨T.node none (T.node none (T.node none (T.node none (T.node none (T.node none (T.node none (T.node (some (AObj.cells 9 (TE.strs (TH.get (TH.fieldsAt { objs := T.node none T.nil (T.node none T.nil (T.node none T.nil (T.node none T.nil (T.node none T.nil (T.node none T.nil (T.node (some (AObj.cells ty c false 0)) T.nil T.nil)))))), next := 127 } (Value.slice (some { block := 126, off := o }) n cap)) s)) false 2)) T.nil T.nil) T.nil) T.nil) T.nil) T.nil) T.nil) T.nil) (T.node none T.nil (T.node none T.nil (T.node none T.nil (T.node none T.nil (T.node none T.nil (T.node (some (AObj.cells ty c false 0)) T.nil T.nil)))))), 128⟩⟩
theorem enter {η : Nat → Value} {B : Nat} (hη : OneCells η) (hmix : Go.Proofs.Tryz.prog.follows .mixedOrders = true) (hreg : RegOk η Go.Proofs.Tryz.prog B noNest) {D : Value → AH → Prop} (ty : Nat) (o : Nat) (c : List Value) (n : Nat) (cap : Nat) (s : List UInt8) (h : W.holds η Go.Proofs.Tryz.prog B 36 (fun kp_ st_ => RunD η Go.Proofs.Tryz.prog B 36 (H0 ty o c n cap s) kp_ st_ (QF Go.Proofs.Tryz.prog 127 D)) D (.call 38 [Value.slice (some { block := 126, off := o }) n cap] ({ objs := T.node none T.nil (T.node none T.nil (T.node none T.nil (T.node none T.nil (T.node none T.nil (T.node none T.nil (T.node (some (AObj.cells ty c false 0)) T.nil T.nil)))))), next := 127 }) (.ret (Value.int IntKind.i64 (TH.chk (TH.fieldsAt { objs := T.node none T.nil (T.node none T.nil (T.node none T.nil (T.node none T.nil (T.node none T.nil (T.node none T.nil (T.node (some (AObj.cells ty c false 0)) T.nil T.nil)))))), next := 127 } (Value.slice (some { block := 126, off := o }) n cap)))) ({ objs := T.node none T.nil (T.node none T.nil (T.node none T.nil (T.node none T.nil (T.node none T.nil (T.node none T.nil (T.node (some (AObj.cells ty c false 0)) T.nil T.nil)))))), next := 127 })) (.ite (TH.chk (TH.fieldsAt { objs := T.node none T.nil (T.node none T.nil (T.node none T.nil (T.node none T.nil (T.node none T.nil (T.node none T.nil (T.node (some (AObj.cells ty c false (0 : Nat))) T.nil T.nil)))))), next := (127 : Nat) } (Value.slice (some { block := (126 : Nat), off := o }) n cap)) == (0 : Int)) (.call 76 [Value.string { data := { toList := s } }] ({ objs := T.node none T.nil (T.node none T.nil (T.node none T.nil (T.node none T.nil (T.node none T.nil (T.node none T.nil (T.node (some (AObj.cells ty c false 0)) T.nil T.nil)))))), next := 127 }) (.ret (Value.bool (TB.tokB s)) ({ objs := T.node none T.nil (T.node none T.nil (T.node none T.nil (T.node none T.nil (T.node none T.nil (T.node none T.nil (T.node (some (AObj.cells ty c false 0)) T.nil T.nil)))))), next := 127 })) (.ite (!TB.tokB s) (.done 36 (Value.tuple { toList := [Value.string { data := #[] }, Value.int IntKind.i64 2] }) (H0 ty o c n cap s)) (.ite (TH.chk (TH.fieldsAt { objs := T.node none T.nil (T.node none T.nil (T.node none T.nil (T.node none T.nil (T.node none T.nil (T.node none T.nil (T.node (some (AObj.cells ty c false (0 : Nat))) T.nil T.nil)))))), next := (127 : Nat) } (Value.slice (some { block := (126 : Nat), off := o }) n cap)) != (0 : Int)) (.done 36 (Value.tuple { toList := [Value.string { data := #[] }, Value.int IntKind.i64 (TH.chk (TH.fieldsAt { objs := T.node none T.nil (T.node none T.nil (T.node none T.nil (T.node none T.nil (T.node none T.nil (T.node none T.nil (T.node (some (AObj.cells ty c false 0)) T.nil T.nil)))))), next := 127 } (Value.slice (some { block := 126, off := o }) n cap)))] }) (H0 ty o c n cap s)) (.call 93 [Value.slice (some { block := 126, off := o }) n cap, Value.string { data := { toList := s } }] ({ objs := T.node none T.nil (T.node none T.nil (T.node none T.nil (T.node none T.nil (T.node none T.nil (T.node none T.nil (T.node (some (AObj.cells ty c false 0)) T.nil T.nil)))))), next := 127 }) (.ite (TH.getB (TH.fieldsAt { objs := T.node none T.nil (T.node none T.nil (T.node none T.nil (T.node none T.nil (T.node none T.nil (T.node none T.nil (T.node (some (AObj.cells ty c false (0 : Nat))) T.nil T.nil)))))), next := (127 : Nat) } (Value.slice (some { block := (126 : Nat), off := o }) n cap)) s) (.ret (Value.slice none 0 0) ({ objs := T.node none T.nil (T.node none T.nil (T.node none T.nil (T.node none T.nil (T.node none T.nil (T.node none T.nil (T.node (some (AObj.cells ty c false 0)) T.nil T.nil)))))), next := 127 })) (.ret (Value.slice (some { block := 127, off := 0 }) (TH.get (TH.fieldsAt { objs := T.node none T.nil (T.node none T.nil (T.node none T.nil (T.node none T.nil (T.node none T.nil (T.node none T.nil (T.node (some (AObj.cells ty c false 0)) T.nil T.nil)))))), next := 127 } (Value.slice (some { block := 126, off := o }) n cap)) s).length 9223372036854775809) ({ objs := T.node none (T.node none (T.node none (T.node none (T.node none (T.node none (T.node none (T.node (some (AObj.cells 9 (TE.strs (TH.get (TH.fieldsAt { objs := T.node none T.nil (T.node none T.nil (T.node none T.nil (T.node none T.nil (T.node none T.nil (T.node none T.nil (T.node (some (AObj.cells ty c false 0)) T.nil T.nil)))))), next := 127 } (Value.slice (some { block := 126, off := o }) n cap)) s)) false 2)) T.nil T.nil) T.nil) T.nil) T.nil) T.nil) T.nil) T.nil) (T.node none T.nil (T.node none T.nil (T.node none T.nil (T.node none T.nil (T.node none T.nil (T.node (some (AObj.cells ty c false 0)) T.nil T.nil)))))), next := 128 }))) (.ite (TH.getB (TH.fieldsAt { objs := T.node none T.nil (T.node none T.nil (T.node none T.nil (T.node none T.nil (T.node none T.nil (T.node none T.nil (T.node (some (AObj.cells ty c false (0 : Nat))) T.nil T.nil)))))), next := (127 : Nat) } (Value.slice (some { block := (126 : Nat), off := o }) n cap)) s) (.done 36 (Value.tuple { toList := [Value.string { data := #[] }, Value.int IntKind.i64 4] }) (H0 ty o c n cap s)) (.ite ((↑(TH.get (TH.fieldsAt { objs := T.node none T.nil (T.node none T.nil (T.node none T.nil (T.node none T.nil (T.node none T.nil (T.node none T.nil (T.node (some (AObj.cells ty c false (0 : Nat))) T.nil T.nil)))))), next := (127 : Nat) } (Value.slice (some { block := (126 : Nat), off := o }) n cap)) s).length : Int) == (0 : Int)) (.need (NoNames c ∧ True) (.done 36 (Value.tuple { toList := [Value.string { data := #[] }, Value.int IntKind.i64 4] }) (H0 ty o c n cap s))) (.call 58 [Value.string { data := { toList := s } }] ({ objs := T.node none (T.node none (T.node none (T.node none (T.node none (T.node none (T.node none (T.node (some (AObj.cells 9 (TE.strs (TH.get (TH.fieldsAt { objs := T.node none T.nil (T.node none T.nil (T.node none T.nil (T.node none T.nil (T.node none T.nil (T.node none T.nil (T.node (some (AObj.cells ty c false 0)) T.nil T.nil)))))), next := 127 } (Value.slice (some { block := 126, off := o }) n cap)) s)) false 2)) T.nil T.nil) T.nil) T.nil) T.nil) T.nil) T.nil) T.nil) (T.node none T.nil (T.node none T.nil (T.node none T.nil (T.node none T.nil (T.node none T.nil (T.node (some (AObj.cells ty c false 0)) T.nil T.nil)))))), next := 128 }) (.ret (Value.string { data := { toList := List.map TB.lowB s } }) ({ objs := T.node none (T.node none (T.node none (T.node none (T.node none (T.node none (T.node none (T.node (some (AObj.cells 9 (TE.strs (TH.get (TH.fieldsAt { objs := T.node none T.nil (T.node none T.nil (T.node none T.nil (T.node none T.nil (T.node none T.nil (T.node none T.nil (T.node (some (AObj.cells ty c false 0)) T.nil T.nil)))))), next := 127 } (Value.slice (some { block := 126, off := o }) n cap)) s)) false 2)) T.nil T.nil) T.nil) T.nil) T.nil) T.nil) T.nil) T.nil) (T.node none T.nil (T.node none T.nil (T.node none T.nil (T.node none T.nil (T.node none T.nil (T.node (some (AObj.cells ty c false 0)) T.nil T.nil)))))), next := 128 })) (.ite (List.map TB.lowB s == #[OfNat.ofNat (115 : Nat), OfNat.ofNat (101 : Nat), OfNat.ofNat (116 : Nat), OfNat.ofNat (45 : Nat), OfNat.ofNat (99 : Nat), OfNat.ofNat (111 : Nat), OfNat.ofNat (111 : Nat), OfNat.ofNat (107 : Nat), OfNat.ofNat (105 : Nat), OfNat.ofNat (101 : Nat)].toList) (.need (NoNames c ∧ True) (.done 36 (Value.tuple { toList := [Value.string { data := #[] }, Value.int IntKind.i64 9] }) (H0 ty o c n cap s))) (.need ((0 : Int) ≤ (0 : Int) ∧ (0 : Int) < (↑(TH.get (TH.fieldsAt { objs := T.node none T.nil (T.node none T.nil (T.node none T.nil (T.node none T.nil (T.node none T.nil (T.node none T.nil (T.node (some (AObj.cells ty c false (0 : Nat))) T.nil T.nil)))))), next := (127 : Nat) } (Value.slice (some { block := (126 : Nat), off := o }) n cap)) s).length : Int)) (.need ((TE.strs (TH.get (TH.fieldsAt { objs := T.node none T.nil (T.node none T.nil (T.node none T.nil (T.node none T.nil (T.node none T.nil (T.node none T.nil (T.node (some (AObj.cells ty c false (0 : Nat))) T.nil T.nil)))))), next := (127 : Nat) } (Value.slice (some { block := (126 : Nat), off := o }) n cap)) s))[(0 : Nat)]? = some (Value.string { data := { toList := strAt (TE.strs (TH.get (TH.fieldsAt { objs := T.node none T.nil (T.node none T.nil (T.node none T.nil (T.node none T.nil (T.node none T.nil (T.node none T.nil (T.node (some (AObj.cells ty c false (0 : Nat))) T.nil T.nil)))))), next := (127 : Nat) } (Value.slice (some { block := (126 : Nat), off := o }) n cap)) s)) (0 : Nat) } })) (.stop [7, 8, 9] (S0 ty o c n cap s (1) (strAt (TE.strs (TH.get (TH.fieldsAt { objs := T.node none T.nil (T.node none T.nil (T.node none T.nil (T.node none T.nil (T.node none T.nil (T.node none T.nil (T.node (some (AObj.cells ty c false 0)) T.nil T.nil)))))), next := 127 } (Value.slice (some { block := 126, off := o }) n cap)) s)) 0) (fun _ => undef))))))))))))) (.ite (TH.chk (TH.fieldsAt { objs := T.node none T.nil (T.node none T.nil (T.node none T.nil (T.node none T.nil (T.node none T.nil (T.node none T.nil (T.node (some (AObj.cells ty c false (0 : Nat))) T.nil T.nil)))))), next := (127 : Nat) } (Value.slice (some { block := (126 : Nat), off := o }) n cap)) != (0 : Int)) (.done 36 (Value.tuple { toList := [Value.string { data := #[] }, Value.int IntKind.i64 (TH.chk (TH.fieldsAt { objs := T.node none T.nil (T.node none T.nil (T.node none T.nil (T.node none T.nil (T.node none T.nil (T.node none T.nil (T.node (some (AObj.cells ty c false 0)) T.nil T.nil)))))), next := 127 } (Value.slice (some { block := 126, off := o }) n cap)))] }) (H0 ty o c n cap s)) (.call 93 [Value.slice (some { block := 126, off := o }) n cap, Value.string { data := { toList := s } }] ({ objs := T.node none T.nil (T.node none T.nil (T.node none T.nil (T.node none T.nil (T.node none T.nil (T.node none T.nil (T.node (some (AObj.cells ty c false 0)) T.nil T.nil)))))), next := 127 }) (.ite (TH.getB (TH.fieldsAt { objs := T.node none T.nil (T.node none T.nil (T.node none T.nil (T.node none T.nil (T.node none T.nil (T.node none T.nil (T.node (some (AObj.cells ty c false (0 : Nat))) T.nil T.nil)))))), next := (127 : Nat) } (Value.slice (some { block := (126 : Nat), off := o }) n cap)) s) (.ret (Value.slice none 0 0) ({ objs := T.node none T.nil (T.node none T.nil (T.node none T.nil (T.node none T.nil (T.node none T.nil (T.node none T.nil (T.node (some (AObj.cells ty c false 0)) T.nil T.nil)))))), next := 127 })) (.ret (Value.slice (some { block := 127, off := 0 }) (TH.get (TH.fieldsAt { objs := T.node none T.nil (T.node none T.nil (T.node none T.nil (T.node none T.nil (T.node none T.nil (T.node none T.nil (T.node (some (AObj.cells ty c false 0)) T.nil T.nil)))))), next := 127 } (Value.slice (some { block := 126, off := o }) n cap)) s).length 9223372036854775809) ({ objs := T.node none (T.node none (T.node none (T.node none (T.node none (T.node none (T.node none (T.node (some (AObj.cells 9 (TE.strs (TH.get (TH.fieldsAt { objs := T.node none T.nil (T.node none T.nil (T.node none T.nil (T.node none T.nil (T.node none T.nil (T.node none T.nil (T.node (some (AObj.cells ty c false 0)) T.nil T.nil)))))), next := 127 } (Value.slice (some { block := 126, off := o }) n cap)) s)) false 2)) T.nil T.nil) T.nil) T.nil) T.nil) T.nil) T.nil) T.nil) (T.node none T.nil (T.node none T.nil (T.node none T.nil (T.node none T.nil (T.node none T.nil (T.node (some (AObj.cells ty c false 0)) T.nil T.nil)))))), next := 128 }))) (.ite (TH.getB (TH.fieldsAt { objs := T.node none T.nil (T.node none T.nil (T.node none T.nil (T.node none T.nil (T.node none T.nil (T.node none T.nil (T.node (some (AObj.cells ty c false (0 : Nat))) T.nil T.nil)))))), next := (127 : Nat) } (Value.slice (some { block := (126 : Nat), off := o }) n cap)) s) (.done 36 (Value.tuple { toList := [Value.string { data := #[] }, Value.int IntKind.i64 4] }) (H0 ty o c n cap s)) (.ite ((↑(TH.get (TH.fieldsAt { objs := T.node none T.nil (T.node none T.nil (T.node none T.nil (T.node none T.nil (T.node none T.nil (T.node none T.nil (T.node (some (AObj.cells ty c false (0 : Nat))) T.nil T.nil)))))), next := (127 : Nat) } (Value.slice (some { block := (126 : Nat), off := o }) n cap)) s).length : Int) == (0 : Int)) (.need (NoNames c ∧ True) (.done 36 (Value.tuple { toList := [Value.string { data := #[] }, Value.int IntKind.i64 4] }) (H0 ty o c n cap s))) (.call 58 [Value.string { data := { toList := s } }] ({ objs := T.node none (T.node none (T.node none (T.node none (T.node none (T.node none (T.node none (T.node (some (AObj.cells 9 (TE.strs (TH.get (TH.fieldsAt { objs := T.node none T.nil (T.node none T.nil (T.node none T.nil (T.node none T.nil (T.node none T.nil (T.node none T.nil (T.node (some (AObj.cells ty c false 0)) T.nil T.nil)))))), next := 127 } (Value.slice (some { block := 126, off := o }) n cap)) s)) false 2)) T.nil T.nil) T.nil) T.nil) T.nil) T.nil) T.nil) T.nil) (T.node none T.nil (T.node none T.nil (T.node none T.nil (T.node none T.nil (T.node none T.nil (T.node (some (AObj.cells ty c false 0)) T.nil T.nil)))))), next := 128 }) (.ret (Value.string { data := { toList := List.map TB.lowB s } }) ({ objs := T.node none (T.node none (T.node none (T.node none (T.node none (T.node none (T.node none (T.node (some (AObj.cells 9 (TE.strs (TH.get (TH.fieldsAt { objs := T.node none T.nil (T.node none T.nil (T.node none T.nil (T.node none T.nil (T.node none T.nil (T.node none T.nil (T.node (some (AObj.cells ty c false 0)) T.nil T.nil)))))), next := 127 } (Value.slice (some { block := 126, off := o }) n cap)) s)) false 2)) T.nil T.nil) T.nil) T.nil) T.nil) T.nil) T.nil) T.nil) (T.node none T.nil (T.node none T.nil (T.node none T.nil (T.node none T.nil (T.node none T.nil (T.node (some (AObj.cells ty c false 0)) T.nil T.nil)))))), next := 128 })) (.ite (List.map TB.lowB s == #[OfNat.ofNat (115 : Nat), OfNat.ofNat (101 : Nat), OfNat.ofNat (116 : Nat), OfNat.ofNat (45 : Nat), OfNat.ofNat (99 : Nat), OfNat.ofNat (111 : Nat), OfNat.ofNat (111 : Nat), OfNat.ofNat (107 : Nat), OfNat.ofNat (105 : Nat), OfNat.ofNat (101 : Nat)].toList) (.need (NoNames c ∧ True) (.done 36 (Value.tuple { toList := [Value.string { data := #[] }, Value.int IntKind.i64 9] }) (H0 ty o c n cap s))) (.need ((0 : Int) ≤ (0 : Int) ∧ (0 : Int) < (↑(TH.get (TH.fieldsAt { objs := T.node none T.nil (T.node none T.nil (T.node none T.nil (T.node none T.nil (T.node none T.nil (T.node none T.nil (T.node (some (AObj.cells ty c false (0 : Nat))) T.nil T.nil)))))), next := (127 : Nat) } (Value.slice (some { block := (126 : Nat), off := o }) n cap)) s).length : Int)) (.need ((TE.strs (TH.get (TH.fieldsAt { objs := T.node none T.nil (T.node none T.nil (T.node none T.nil (T.node none T.nil (T.node none T.nil (T.node none T.nil (T.node (some (AObj.cells ty c false (0 : Nat))) T.nil T.nil)))))), next := (127 : Nat) } (Value.slice (some { block := (126 : Nat), off := o }) n cap)) s))[(0 : Nat)]? = some (Value.string { data := { toList := strAt (TE.strs (TH.get (TH.fieldsAt { objs := T.node none T.nil (T.node none T.nil (T.node none T.nil (T.node none T.nil (T.node none T.nil (T.node none T.nil (T.node (some (AObj.cells ty c false (0 : Nat))) T.nil T.nil)))))), next := (127 : Nat) } (Value.slice (some { block := (126 : Nat), off := o }) n cap)) s)) (0 : Nat) } })) (.stop [7, 8, 9] (S0 ty o c n cap s (1) (strAt (TE.strs (TH.get (TH.fieldsAt { objs := T.node none T.nil (T.node none T.nil (T.node none T.nil (T.node none T.nil (T.node none T.nil (T.node none T.nil (T.node (some (AObj.cells ty c false 0)) T.nil T.nil)))))), next := 127 } (Value.slice (some { block := 126, off := o }) n cap)) s)) 0) (fun _ => undef)))))))))))))) : CallSpec η Go.Proofs.Tryz.prog B 36 [Value.slice (some { block := 126, off := o }) n cap, Value.string { data := { toList := s } }] (H0 ty o c n cap s) D := by
  refine CallSpec.ofQF hη (CallSpec.enter (fr := (E ty o c n cap s).fr) (by kernel_rfl) ?_)
  exact walk_ok (h0 := H0 ty o c n cap s) hη hmix hreg (fun _ _ k => k) 10000 (.steps 17 <| .call (.ret (Value.int IntKind.i64 (TH.chk (TH.fieldsAt { objs := T.node none T.nil (T.node none T.nil (T.node none T.nil (T.node none T.nil (T.node none T.nil (T.node none T.nil (T.node (some (AObj.cells ty c false 0)) T.nil T.nil)))))), next := 127 } (Value.slice (some { block := 126, off := o }) n cap)))) ({ objs := T.node none T.nil (T.node none T.nil (T.node none T.nil (T.node none T.nil (T.node none T.nil (T.node none T.nil (T.node (some (AObj.cells ty c false 0)) T.nil T.nil)))))), next := 127 })) <| .steps 8 <| .bit 10 (.steps 1 <| .call (.ret (Value.bool (TB.tokB s)) ({ objs := T.node none T.nil (T.node none T.nil (T.node none T.nil (T.node none T.nil (T.node none T.nil (T.node none T.nil (T.node (some (AObj.cells ty c false 0)) T.nil T.nil)))))), next := 127 })) <| .steps 3 <| .bit 14 (.steps 27 <| .done none) (.steps 17 <| .bit 14 (.steps 8 <| .done none) (.steps 6 <| .call (.ite (TH.getB (TH.fieldsAt { objs := T.node none T.nil (T.node none T.nil (T.node none T.nil (T.node none T.nil (T.node none T.nil (T.node none T.nil (T.node (some (AObj.cells ty c false (0 : Nat))) T.nil T.nil)))))), next := (127 : Nat) } (Value.slice (some { block := (126 : Nat), off := o }) n cap)) s) (.ret (Value.slice none 0 0) ({ objs := T.node none T.nil (T.node none T.nil (T.node none T.nil (T.node none T.nil (T.node none T.nil (T.node none T.nil (T.node (some (AObj.cells ty c false 0)) T.nil T.nil)))))), next := 127 })) (.ret (Value.slice (some { block := 127, off := 0 }) (TH.get (TH.fieldsAt { objs := T.node none T.nil (T.node none T.nil (T.node none T.nil (T.node none T.nil (T.node none T.nil (T.node none T.nil (T.node (some (AObj.cells ty c false 0)) T.nil T.nil)))))), next := 127 } (Value.slice (some { block := 126, off := o }) n cap)) s).length 9223372036854775809) ({ objs := T.node none (T.node none (T.node none (T.node none (T.node none (T.node none (T.node none (T.node (some (AObj.cells 9 (TE.strs (TH.get (TH.fieldsAt { objs := T.node none T.nil (T.node none T.nil (T.node none T.nil (T.node none T.nil (T.node none T.nil (T.node none T.nil (T.node (some (AObj.cells ty c false 0)) T.nil T.nil)))))), next := 127 } (Value.slice (some { block := 126, off := o }) n cap)) s)) false 2)) T.nil T.nil) T.nil) T.nil) T.nil) T.nil) T.nil) T.nil) (T.node none T.nil (T.node none T.nil (T.node none T.nil (T.node none T.nil (T.node none T.nil (T.node (some (AObj.cells ty c false 0)) T.nil T.nil)))))), next := 128 }))) <| .both (.steps 16 <| .done none) (.steps 9 <| .bit 21 (.steps 7 <| .done (some ⟨127, [], [(126, (126, true))]⟩)) (.steps 6 <| .call (.ret (Value.string { data := { toList := List.map TB.lowB s } }) ({ objs := T.node none (T.node none (T.node none (T.node none (T.node none (T.node none (T.node none (T.node (some (AObj.cells 9 (TE.strs (TH.get (TH.fieldsAt { objs := T.node none T.nil (T.node none T.nil (T.node none T.nil (T.node none T.nil (T.node none T.nil (T.node none T.nil (T.node (some (AObj.cells ty c false 0)) T.nil T.nil)))))), next := 127 } (Value.slice (some { block := 126, off := o }) n cap)) s)) false 2)) T.nil T.nil) T.nil) T.nil) T.nil) T.nil) T.nil) T.nil) (T.node none T.nil (T.node none T.nil (T.node none T.nil (T.node none T.nil (T.node none T.nil (T.node (some (AObj.cells ty c false 0)) T.nil T.nil)))))), next := 128 })) <| .steps 2 <| .bit 24 (.steps 7 <| .done (some ⟨127, [], [(126, (126, true))]⟩)) (.steps 5 <| .op <| .op <| .steps 9 <| .stop [7, 8, 9] none)))))) (.steps 22 <| .bit 14 (.steps 8 <| .done none) (.steps 6 <| .call (.ite (TH.getB (TH.fieldsAt { objs := T.node none T.nil (T.node none T.nil (T.node none T.nil (T.node none T.nil (T.node none T.nil (T.node none T.nil (T.node (some (AObj.cells ty c false (0 : Nat))) T.nil T.nil)))))), next := (127 : Nat) } (Value.slice (some { block := (126 : Nat), off := o }) n cap)) s) (.ret (Value.slice none 0 0) ({ objs := T.node none T.nil (T.node none T.nil (T.node none T.nil (T.node none T.nil (T.node none T.nil (T.node none T.nil (T.node (some (AObj.cells ty c false 0)) T.nil T.nil)))))), next := 127 })) (.ret (Value.slice (some { block := 127, off := 0 }) (TH.get (TH.fieldsAt { objs := T.node none T.nil (T.node none T.nil (T.node none T.nil (T.node none T.nil (T.node none T.nil (T.node none T.nil (T.node (some (AObj.cells ty c false 0)) T.nil T.nil)))))), next := 127 } (Value.slice (some { block := 126, off := o }) n cap)) s).length 9223372036854775809) ({ objs := T.node none (T.node none (T.node none (T.node none (T.node none (T.node none (T.node none (T.node (some (AObj.cells 9 (TE.strs (TH.get (TH.fieldsAt { objs := T.node none T.nil (T.node none T.nil (T.node none T.nil (T.node none T.nil (T.node none T.nil (T.node none T.nil (T.node (some (AObj.cells ty c false 0)) T.nil T.nil)))))), next := 127 } (Value.slice (some { block := 126, off := o }) n cap)) s)) false 2)) T.nil T.nil) T.nil) T.nil) T.nil) T.nil) T.nil) T.nil) (T.node none T.nil (T.node none T.nil (T.node none T.nil (T.node none T.nil (T.node none T.nil (T.node (some (AObj.cells ty c false 0)) T.nil T.nil)))))), next := 128 }))) <| .both (.steps 16 <| .done none) (.steps 9 <| .bit 21 (.steps 7 <| .done (some ⟨127, [], [(126, (126, true))]⟩)) (.steps 6 <| .call (.ret (Value.string { data := { toList := List.map TB.lowB s } }) ({ objs := T.node none (T.node none (T.node none (T.node none (T.node none (T.node none (T.node none (T.node (some (AObj.cells 9 (TE.strs (TH.get (TH.fieldsAt { objs := T.node none T.nil (T.node none T.nil (T.node none T.nil (T.node none T.nil (T.node none T.nil (T.node none T.nil (T.node (some (AObj.cells ty c false 0)) T.nil T.nil)))))), next := 127 } (Value.slice (some { block := 126, off := o }) n cap)) s)) false 2)) T.nil T.nil) T.nil) T.nil) T.nil) T.nil) T.nil) T.nil) (T.node none T.nil (T.node none T.nil (T.node none T.nil (T.node none T.nil (T.node none T.nil (T.node (some (AObj.cells ty c false 0)) T.nil T.nil)))))), next := 128 })) <| .steps 2 <| .bit 24 (.steps 7 <| .done (some ⟨127, [], [(126, (126, true))]⟩)) (.steps 5 <| .op <| .op <| .steps 9 <| .stop [7, 8, 9] none)))))) (E ty o c n cap s) (tmOk_get (by kernel_rfl)) (Eq.mpr (congrArg (W.holds η Go.Proofs.Tryz.prog B 36 (fun kp_ st_ => RunD η Go.Proofs.Tryz.prog B 36 (H0 ty o c n cap s) kp_ st_ (QF Go.Proofs.Tryz.prog 127 D)) D) (by kernel_rfl)) h)
theorem cut0 {η : Nat → Value} {B : Nat} (hη : OneCells η) (hmix : Go.Proofs.Tryz.prog.follows .mixedOrders = true) (hreg : RegOk η Go.Proofs.Tryz.prog B noNest) {D : Value → AH → Prop} (ty : Nat) (o : Nat) (c : List Value) (n : Nat) (cap : Nat) (s : List UInt8) (i0 : Int) (s0 : List UInt8) (h : W.holds η Go.Proofs.Tryz.prog B 36 (fun kp_ st_ => RunD η Go.Proofs.Tryz.prog B 36 (H0 ty o c n cap s) kp_ st_ (QF Go.Proofs.Tryz.prog 127 D)) D (.ite (decide (i0 < (↑(TH.get (TH.fieldsAt { objs := T.node none T.nil (T.node none T.nil (T.node none T.nil (T.node none T.nil (T.node none T.nil (T.node none T.nil (T.node (some (AObj.cells ty c false (0 : Nat))) T.nil T.nil)))))), next := (127 : Nat) } (Value.slice (some { block := (126 : Nat), off := o }) n cap)) s).length : Int))) (.need (s0.length + (2 : Nat) ≤ (9223372036854775807 : Nat)) (.need ((0 : Int) ≤ i0 ∧ i0 < (↑(TH.get (TH.fieldsAt { objs := T.node none T.nil (T.node none T.nil (T.node none T.nil (T.node none T.nil (T.node none T.nil (T.node none T.nil (T.node (some (AObj.cells ty c false (0 : Nat))) T.nil T.nil)))))), next := (127 : Nat) } (Value.slice (some { block := (126 : Nat), off := o }) n cap)) s).length : Int)) (.need ((TE.strs (TH.get (TH.fieldsAt { objs := T.node none T.nil (T.node none T.nil (T.node none T.nil (T.node none T.nil (T.node none T.nil (T.node none T.nil (T.node (some (AObj.cells ty c false (0 : Nat))) T.nil T.nil)))))), next := (127 : Nat) } (Value.slice (some { block := (126 : Nat), off := o }) n cap)) s))[(0 : Nat) + i0.toNat * (1 : Nat)]? = some (Value.string { data := { toList := strAt (TE.strs (TH.get (TH.fieldsAt { objs := T.node none T.nil (T.node none T.nil (T.node none T.nil (T.node none T.nil (T.node none T.nil (T.node none T.nil (T.node (some (AObj.cells ty c false (0 : Nat))) T.nil T.nil)))))), next := (127 : Nat) } (Value.slice (some { block := (126 : Nat), off := o }) n cap)) s)) ((0 : Nat) + i0.toNat * (1 : Nat)) } })) (.need ((s0 ++ #[OfNat.ofNat (44 : Nat), OfNat.ofNat (32 : Nat)].toList).length + (strAt (TE.strs (TH.get (TH.fieldsAt { objs := T.node none T.nil (T.node none T.nil (T.node none T.nil (T.node none T.nil (T.node none T.nil (T.node none T.nil (T.node (some (AObj.cells ty c false (0 : Nat))) T.nil T.nil)))))), next := (127 : Nat) } (Value.slice (some { block := (126 : Nat), off := o }) n cap)) s)) ((0 : Nat) + i0.toNat * (1 : Nat))).length ≤ (9223372036854775807 : Nat)) (.stop [7, 8, 9] (S0 ty o c n cap s (IntKind.i64.wrap (i0 + 1)) (s0 ++ #[OfNat.ofNat 44, OfNat.ofNat 32].toList ++ strAt (TE.strs (TH.get (TH.fieldsAt { objs := T.node none T.nil (T.node none T.nil (T.node none T.nil (T.node none T.nil (T.node none T.nil (T.node none T.nil (T.node (some (AObj.cells ty c false 0)) T.nil T.nil)))))), next := 127 } (Value.slice (some { block := 126, off := o }) n cap)) s)) (0 + i0.toNat * 1)) (fun _ => undef))))))) (.ite (decide ((↑s0.length : Int) > (2000 : Int))) (.need (NoNames c ∧ True) (.done 36 (Value.tuple { toList := [Value.string { data := #[] }, Value.int IntKind.i64 3] }) (H0 ty o c n cap s))) (.need (NoNames c ∧ True) (.done 36 (Value.tuple { toList := [Value.string { data := { toList := s0 } }, Value.int IntKind.i64 0] }) (H0 ty o c n cap s)))))) : RunD η Go.Proofs.Tryz.prog B 36 (H0 ty o c n cap s) [7, 8, 9] (S0 ty o c n cap s i0 s0 fun _ => undef) (QF Go.Proofs.Tryz.prog 127 D) := by
  refine RunD.intro (S0 ty o c n cap s i0 s0) (fun d => ⟨rfl, rfl, rfl⟩) (fun d => tmOk_get (by kernel_rfl)) (fun d => by kernel_rfl) (fun d => ?_)
  exact walk_ok (h0 := H0 ty o c n cap s) hη hmix hreg (fun _ _ k => k) 10000 (.steps 8 <| .bit 31 (.steps 6 <| .op <| .steps 2 <| .op <| .op <| .op <| .steps 9 <| .stop [7, 8, 9] none) (.steps 9 <| .bit 43 (.steps 7 <| .done (some ⟨127, [], [(126, (126, true))]⟩)) (.steps 9 <| .done (some ⟨127, [], [(126, (126, true))]⟩)))) (S0 ty o c n cap s i0 s0 d) (tmOk_get (by kernel_rfl)) (Eq.mpr (congrArg (W.holds η Go.Proofs.Tryz.prog B 36 (fun kp_ st_ => RunD η Go.Proofs.Tryz.prog B 36 (H0 ty o c n cap s) kp_ st_ (QF Go.Proofs.Tryz.prog 127 D)) D) (by kernel_rfl)) h)
end HRCom
namespace HRCom0
set_option linter.unusedVariables false
noncomputable def bd : Code := (Go.Proofs.Tryz.f36.body).getD .skip
noncomputable def H0 (s : List UInt8) : AH := { objs := T.nil, next := 126 }
noncomputable def E (s : List UInt8) : AS := ⟨⟨36, 45, T.node (some (Value.slice none 0 0)) (T.node (some (Value.string { data := { toList := s } })) T.nil T.nil) T.nil, [Item.code (codeAt bd [])], [], FrameMode.run, CallKind.normal, none⟩, [], ⟨T.nil, 126⟩⟩
theorem enter {η : Nat → Value} {B : Nat} (hη : OneCells η) (hmix : Go.Proofs.Tryz.prog.follows .mixedOrders = true) (hreg : RegOk η Go.Proofs.Tryz.prog B noNest) {D : Value → AH → Prop} (s : List UInt8) (h : W.holds η Go.Proofs.Tryz.prog B 36 (fun kp_ st_ => RunD η Go.Proofs.Tryz.prog B 36 (H0 s) kp_ st_ (QF Go.Proofs.Tryz.prog 126 D)) D (.call 38 [Value.slice none 0 0] ({ objs := T.nil, next := 126 }) (.ret (Value.int IntKind.i64 0) ({ objs := T.nil, next := 126 })) (.call 76 [Value.string { data := { toList := s } }] ({ objs := T.nil, next := 126 }) (.ret (Value.bool (TB.tokB s)) ({ objs := T.nil, next := 126 })) (.ite (!TB.tokB s) (.done 36 (Value.tuple { toList := [Value.string { data := #[] }, Value.int IntKind.i64 2] }) (H0 s)) (.call 93 [Value.slice none 0 0, Value.string { data := { toList := s } }] ({ objs := T.nil, next := 126 }) (.ite (true) (.ret (Value.slice none 0 0) ({ objs := T.nil, next := 126 })) (.ret (Value.slice (some { block := 126, off := 0 }) 0 9223372036854775809) ({ objs := T.node none T.nil (T.node none T.nil (T.node none T.nil (T.node none T.nil (T.node none T.nil (T.node none T.nil (T.node (some (AObj.cells 9 [] false 2)) T.nil T.nil)))))), next := 127 }))) (.ite (true) (.done 36 (Value.tuple { toList := [Value.string { data := #[] }, Value.int IntKind.i64 4] }) (H0 s)) (.need (True) (.done 36 (Value.tuple { toList := [Value.string { data := #[] }, Value.int IntKind.i64 4] }) (H0 s))))))))) : CallSpec η Go.Proofs.Tryz.prog B 36 [Value.slice none 0 0, Value.string { data := { toList := s } }] (H0 s) D := by
  refine CallSpec.ofQF hη (CallSpec.enter (fr := (E s).fr) (by kernel_rfl) ?_)
  exact walk_ok (h0 := H0 s) hη hmix hreg (fun _ _ k => k) 10000 (.steps 17 <| .call (.ret (Value.int IntKind.i64 0) ({ objs := T.nil, next := 126 })) <| .steps 9 <| .call (.ret (Value.bool (TB.tokB s)) ({ objs := T.nil, next := 126 })) <| .steps 3 <| .bit 14 (.steps 27 <| .done none) (.steps 23 <| .call (.ite (true) (.ret (Value.slice none 0 0) ({ objs := T.nil, next := 126 })) (.ret (Value.slice (some { block := 126, off := 0 }) 0 9223372036854775809) ({ objs := T.node none T.nil (T.node none T.nil (T.node none T.nil (T.node none T.nil (T.node none T.nil (T.node none T.nil (T.node (some (AObj.cells 9 [] false 2)) T.nil T.nil)))))), next := 127 }))) <| .both (.steps 16 <| .done none) (.steps 16 <| .done (some ⟨126, [], []⟩)))) (E s) (tmOk_get (by kernel_rfl)) (Eq.mpr (congrArg (W.holds η Go.Proofs.Tryz.prog B 36 (fun kp_ st_ => RunD η Go.Proofs.Tryz.prog B 36 (H0 s) kp_ st_ (QF Go.Proofs.Tryz.prog 126 D)) D) (by kernel_rfl)) h)
end HRCom0
namespace HLaw
set_option linter.unusedVariables false
noncomputable def bd : Code := (Go.Proofs.Tryz.f8.body).getD .skip
noncomputable def H0 (ty : Nat) (o : Nat) (c : List Value) (n : Nat) (cap : Nat) (s : List UInt8) : AH := { objs := T.node none T.nil (T.node none T.nil (T.node none T.nil (T.node none T.nil (T.node none T.nil (T.node none T.nil (T.node (some (AObj.cells ty c false 0)) T.nil T.nil)))))), next := 127 }
noncomputable def E (ty : Nat) (o : Nat) (c : List Value) (n : Nat) (cap : Nat) (s : List UInt8) : AS := ⟨⟨8, 71, T.node (some (Value.slice (some { block := 126, off := o }) n cap)) (T.node (some (Value.string { data := { toList := s } })) T.nil T.nil) T.nil, [Item.code (codeAt bd [])], [], FrameMode.run, CallKind.normal, none⟩, [], ⟨T.node none T.nil (T.node none T.nil (T.node none T.nil (T.node none T.nil (T.node none T.nil (T.node none T.nil (T.node (some (AObj.cells ty c false 0)) T.nil T.nil)))))), 127⟩⟩
theorem enter {η : Nat → Value} {B : Nat} (hη : OneCells η) (hmix : Go.Proofs.Tryz.prog.follows .mixedOrders = true) (hreg : RegOk η Go.Proofs.Tryz.prog B noNest) {D : Value → AH → Prop} (ty : Nat) (o : Nat) (c : List Value) (n : Nat) (cap : Nat) (s : List UInt8) (h : W.holds η Go.Proofs.Tryz.prog B 8 (fun kp_ st_ => RunD η Go.Proofs.Tryz.prog B 8 (H0 ty o c n cap s) kp_ st_ (QF Go.Proofs.Tryz.prog 127 D)) D (.call 31 [Value.slice (some { block := 126, off := o }) n cap] ({ objs := T.node none T.nil (T.node none T.nil (T.node none T.nil (T.node none T.nil (T.node none T.nil (T.node none T.nil (T.node (some (AObj.cells ty c false 0)) T.nil T.nil)))))), next := 127 }) (.ret (Value.bool (TH.farB (TH.fieldsAt { objs := T.node none T.nil (T.node none T.nil (T.node none T.nil (T.node none T.nil (T.node none T.nil (T.node none T.nil (T.node (some (AObj.cells ty c false 0)) T.nil T.nil)))))), next := 127 } (Value.slice (some { block := 126, off := o }) n cap)))) ({ objs := T.node none T.nil (T.node none T.nil (T.node none T.nil (T.node none T.nil (T.node none T.nil (T.node none T.nil (T.node (some (AObj.cells ty c false 0)) T.nil T.nil)))))), next := 127 })) (.ite (TH.farB (TH.fieldsAt { objs := T.node none T.nil (T.node none T.nil (T.node none T.nil (T.node none T.nil (T.node none T.nil (T.node none T.nil (T.node (some (AObj.cells ty c false (0 : Nat))) T.nil T.nil)))))), next := (127 : Nat) } (Value.slice (some { block := (126 : Nat), off := o }) n cap))) (.call 32 [] ({ objs := T.node none T.nil (T.node none T.nil (T.node none T.nil (T.node none T.nil (T.node none T.nil (T.node none T.nil (T.node (some (AObj.cells ty c false 0)) T.nil T.nil)))))), next := 127 }) (.ret (Value.bool true) ({ objs := T.node none T.nil (T.node none T.nil (T.node none T.nil (T.node none T.nil (T.node none T.nil (T.node none T.nil (T.node (some (AObj.cells ty c false 0)) T.nil T.nil)))))), next := 127 })) (.done 8 (Value.bool true) (H0 ty o c n cap s))) (.ite (decide ((↑s.length : Int) > (200 : Int))) (.call 32 [] ({ objs := T.node none T.nil (T.node none T.nil (T.node none T.nil (T.node none T.nil (T.node none T.nil (T.node none T.nil (T.node (some (AObj.cells ty c false 0)) T.nil T.nil)))))), next := 127 }) (.ret (Value.bool true) ({ objs := T.node none T.nil (T.node none T.nil (T.node none T.nil (T.node none T.nil (T.node none T.nil (T.node none T.nil (T.node (some (AObj.cells ty c false 0)) T.nil T.nil)))))), next := 127 })) (.done 8 (Value.bool true) (H0 ty o c n cap s))) (.call 33 [Value.string { data := { toList := s } }] ({ objs := T.node none T.nil (T.node none T.nil (T.node none T.nil (T.node none T.nil (T.node none T.nil (T.node none T.nil (T.node (some (AObj.cells ty c false 0)) T.nil T.nil)))))), next := 127 }) (.ret (Value.tuple { toList := [Value.string { data := { toList := TH.canS s } }, Value.int IntKind.i64 (TH.canE s)] }) ({ objs := T.node none T.nil (T.node none T.nil (T.node none T.nil (T.node none T.nil (T.node none T.nil (T.node none T.nil (T.node (some (AObj.cells ty c false 0)) T.nil T.nil)))))), next := 127 })) (.call 34 [Value.string { data := { toList := s } }] ({ objs := T.node none T.nil (T.node none T.nil (T.node none T.nil (T.node none T.nil (T.node none T.nil (T.node none T.nil (T.node (some (AObj.cells ty c false 0)) T.nil T.nil)))))), next := 127 }) (.ret (Value.tuple { toList := [Value.string { data := { toList := TH.canS s } }, Value.int IntKind.i64 (TH.canE s)] }) ({ objs := T.node none T.nil (T.node none T.nil (T.node none T.nil (T.node none T.nil (T.node none T.nil (T.node none T.nil (T.node (some (AObj.cells ty c false 0)) T.nil T.nil)))))), next := 127 })) (.call 35 [Value.slice (some { block := 126, off := o }) n cap, Value.string { data := { toList := s } }] ({ objs := T.node none T.nil (T.node none T.nil (T.node none T.nil (T.node none T.nil (T.node none T.nil (T.node none T.nil (T.node (some (AObj.cells ty c false 0)) T.nil T.nil)))))), next := 127 }) (.ret (Value.tuple { toList := [Value.string { data := { toList := TH.comS (TH.fieldsAt { objs := T.node none T.nil (T.node none T.nil (T.node none T.nil (T.node none T.nil (T.node none T.nil (T.node none T.nil (T.node (some (AObj.cells ty c false 0)) T.nil T.nil)))))), next := 127 } (Value.slice (some { block := 126, off := o }) n cap)) s } }, Value.int IntKind.i64 (TH.comE (TH.fieldsAt { objs := T.node none T.nil (T.node none T.nil (T.node none T.nil (T.node none T.nil (T.node none T.nil (T.node none T.nil (T.node (some (AObj.cells ty c false 0)) T.nil T.nil)))))), next := 127 } (Value.slice (some { block := 126, off := o }) n cap)) s)] }) ({ objs := T.node none T.nil (T.node none T.nil (T.node none T.nil (T.node none T.nil (T.node none T.nil (T.node none T.nil (T.node (some (AObj.cells ty c false 0)) T.nil T.nil)))))), next := 127 })) (.call 36 [Value.slice (some { block := 126, off := o }) n cap, Value.string { data := { toList := s } }] ({ objs := T.node none T.nil (T.node none T.nil (T.node none T.nil (T.node none T.nil (T.node none T.nil (T.node none T.nil (T.node (some (AObj.cells ty c false 0)) T.nil T.nil)))))), next := 127 }) (.ret (Value.tuple { toList := [Value.string { data := { toList := TH.comS (TH.fieldsAt { objs := T.node none T.nil (T.node none T.nil (T.node none T.nil (T.node none T.nil (T.node none T.nil (T.node none T.nil (T.node (some (AObj.cells ty c false 0)) T.nil T.nil)))))), next := 127 } (Value.slice (some { block := 126, off := o }) n cap)) s } }, Value.int IntKind.i64 (TH.comE (TH.fieldsAt { objs := T.node none T.nil (T.node none T.nil (T.node none T.nil (T.node none T.nil (T.node none T.nil (T.node none T.nil (T.node (some (AObj.cells ty c false 0)) T.nil T.nil)))))), next := 127 } (Value.slice (some { block := 126, off := o }) n cap)) s)] }) ({ objs := T.node none T.nil (T.node none T.nil (T.node none T.nil (T.node none T.nil (T.node none T.nil (T.node none T.nil (T.node (some (AObj.cells ty c false 0)) T.nil T.nil)))))), next := 127 })) (.call 37 [Value.slice (some { block := 126, off := o }) n cap] ({ objs := T.node none T.nil (T.node none T.nil (T.node none T.nil (T.node none T.nil (T.node none T.nil (T.node none T.nil (T.node (some (AObj.cells ty c false 0)) T.nil T.nil)))))), next := 127 }) (.ret (Value.int IntKind.i64 (TH.chk (TH.fieldsAt { objs := T.node none T.nil (T.node none T.nil (T.node none T.nil (T.node none T.nil (T.node none T.nil (T.node none T.nil (T.node (some (AObj.cells ty c false 0)) T.nil T.nil)))))), next := 127 } (Value.slice (some { block := 126, off := o }) n cap)))) ({ objs := T.node none T.nil (T.node none T.nil (T.node none T.nil (T.node none T.nil (T.node none T.nil (T.node none T.nil (T.node (some (AObj.cells ty c false 0)) T.nil T.nil)))))), next := 127 })) (.call 38 [Value.slice (some { block := 126, off := o }) n cap] ({ objs := T.node none T.nil (T.node none T.nil (T.node none T.nil (T.node none T.nil (T.node none T.nil (T.node none T.nil (T.node (some (AObj.cells ty c false 0)) T.nil T.nil)))))), next := 127 }) (.ret (Value.int IntKind.i64 (TH.chk (TH.fieldsAt { objs := T.node none T.nil (T.node none T.nil (T.node none T.nil (T.node none T.nil (T.node none T.nil (T.node none T.nil (T.node (some (AObj.cells ty c false 0)) T.nil T.nil)))))), next := 127 } (Value.slice (some { block := 126, off := o }) n cap)))) ({ objs := T.node none T.nil (T.node none T.nil (T.node none T.nil (T.node none T.nil (T.node none T.nil (T.node none T.nil (T.node (some (AObj.cells ty c false 0)) T.nil T.nil)))))), next := 127 })) (.ite (TH.chk (TH.fieldsAt { objs := T.node none T.nil (T.node none T.nil (T.node none T.nil (T.node none T.nil (T.node none T.nil (T.node none T.nil (T.node (some (AObj.cells ty c false (0 : Nat))) T.nil T.nil)))))), next := (127 : Nat) } (Value.slice (some { block := (126 : Nat), off := o }) n cap)) == TH.chk (TH.fieldsAt { objs := T.node none T.nil (T.node none T.nil (T.node none T.nil (T.node none T.nil (T.node none T.nil (T.node none T.nil (T.node (some (AObj.cells ty c false (0 : Nat))) T.nil T.nil)))))), next := (127 : Nat) } (Value.slice (some { block := (126 : Nat), off := o }) n cap))) (.ite (TH.canS s == TH.canS s) (.ite (TH.canE s == TH.canE s) (.ite (TH.comS (TH.fieldsAt { objs := T.node none T.nil (T.node none T.nil (T.node none T.nil (T.node none T.nil (T.node none T.nil (T.node none T.nil (T.node (some (AObj.cells ty c false (0 : Nat))) T.nil T.nil)))))), next := (127 : Nat) } (Value.slice (some { block := (126 : Nat), off := o }) n cap)) s == TH.comS (TH.fieldsAt { objs := T.node none T.nil (T.node none T.nil (T.node none T.nil (T.node none T.nil (T.node none T.nil (T.node none T.nil (T.node (some (AObj.cells ty c false (0 : Nat))) T.nil T.nil)))))), next := (127 : Nat) } (Value.slice (some { block := (126 : Nat), off := o }) n cap)) s) (.ite (TH.comE (TH.fieldsAt { objs := T.node none T.nil (T.node none T.nil (T.node none T.nil (T.node none T.nil (T.node none T.nil (T.node none T.nil (T.node (some (AObj.cells ty c false (0 : Nat))) T.nil T.nil)))))), next := (127 : Nat) } (Value.slice (some { block := (126 : Nat), off := o }) n cap)) s == TH.comE (TH.fieldsAt { objs := T.node none T.nil (T.node none T.nil (T.node none T.nil (T.node none T.nil (T.node none T.nil (T.node none T.nil (T.node (some (AObj.cells ty c false (0 : Nat))) T.nil T.nil)))))), next := (127 : Nat) } (Value.slice (some { block := (126 : Nat), off := o }) n cap)) s) (.call 32 [] ({ objs := T.node none T.nil (T.node none T.nil (T.node none T.nil (T.node none T.nil (T.node none T.nil (T.node none T.nil (T.node (some (AObj.cells ty c false 0)) T.nil T.nil)))))), next := 127 }) (.ret (Value.bool true) ({ objs := T.node none T.nil (T.node none T.nil (T.node none T.nil (T.node none T.nil (T.node none T.nil (T.node none T.nil (T.node (some (AObj.cells ty c false 0)) T.nil T.nil)))))), next := 127 })) (.done 8 (Value.bool true) (H0 ty o c n cap s))) (.done 8 (Value.bool false) (H0 ty o c n cap s))) (.done 8 (Value.bool false) (H0 ty o c n cap s))) (.done 8 (Value.bool false) (H0 ty o c n cap s))) (.done 8 (Value.bool false) (H0 ty o c n cap s))) (.done 8 (Value.bool false) (H0 ty o c n cap s))))))))))))) : CallSpec η Go.Proofs.Tryz.prog B 8 [Value.slice (some { block := 126, off := o }) n cap, Value.string { data := { toList := s } }] (H0 ty o c n cap s) D := by
  refine CallSpec.ofQF hη (CallSpec.enter (fr := (E ty o c n cap s).fr) (by kernel_rfl) ?_)
  exact walk_ok (h0 := H0 ty o c n cap s) hη hmix hreg (fun _ _ k => k) 10000 (.steps 8 <| .call (.ret (Value.bool (TH.farB (TH.fieldsAt { objs := T.node none T.nil (T.node none T.nil (T.node none T.nil (T.node none T.nil (T.node none T.nil (T.node none T.nil (T.node (some (AObj.cells ty c false 0)) T.nil T.nil)))))), next := 127 } (Value.slice (some { block := 126, off := o }) n cap)))) ({ objs := T.node none T.nil (T.node none T.nil (T.node none T.nil (T.node none T.nil (T.node none T.nil (T.node none T.nil (T.node (some (AObj.cells ty c false 0)) T.nil T.nil)))))), next := 127 })) <| .steps 1 <| .bit 15 (.steps 8 <| .call (.ret (Value.bool true) ({ objs := T.node none T.nil (T.node none T.nil (T.node none T.nil (T.node none T.nil (T.node none T.nil (T.node none T.nil (T.node (some (AObj.cells ty c false 0)) T.nil T.nil)))))), next := 127 })) <| .steps 3 <| .done none) (.steps 5 <| .bit 19 (.steps 3 <| .call (.ret (Value.bool true) ({ objs := T.node none T.nil (T.node none T.nil (T.node none T.nil (T.node none T.nil (T.node none T.nil (T.node none T.nil (T.node (some (AObj.cells ty c false 0)) T.nil T.nil)))))), next := 127 })) <| .steps 3 <| .done none) (.steps 5 <| .call (.ret (Value.tuple { toList := [Value.string { data := { toList := TH.canS s } }, Value.int IntKind.i64 (TH.canE s)] }) ({ objs := T.node none T.nil (T.node none T.nil (T.node none T.nil (T.node none T.nil (T.node none T.nil (T.node none T.nil (T.node (some (AObj.cells ty c false 0)) T.nil T.nil)))))), next := 127 })) <| .steps 9 <| .call (.ret (Value.tuple { toList := [Value.string { data := { toList := TH.canS s } }, Value.int IntKind.i64 (TH.canE s)] }) ({ objs := T.node none T.nil (T.node none T.nil (T.node none T.nil (T.node none T.nil (T.node none T.nil (T.node none T.nil (T.node (some (AObj.cells ty c false 0)) T.nil T.nil)))))), next := 127 })) <| .steps 10 <| .call (.ret (Value.tuple { toList := [Value.string { data := { toList := TH.comS (TH.fieldsAt { objs := T.node none T.nil (T.node none T.nil (T.node none T.nil (T.node none T.nil (T.node none T.nil (T.node none T.nil (T.node (some (AObj.cells ty c false 0)) T.nil T.nil)))))), next := 127 } (Value.slice (some { block := 126, off := o }) n cap)) s } }, Value.int IntKind.i64 (TH.comE (TH.fieldsAt { objs := T.node none T.nil (T.node none T.nil (T.node none T.nil (T.node none T.nil (T.node none T.nil (T.node none T.nil (T.node (some (AObj.cells ty c false 0)) T.nil T.nil)))))), next := 127 } (Value.slice (some { block := 126, off := o }) n cap)) s)] }) ({ objs := T.node none T.nil (T.node none T.nil (T.node none T.nil (T.node none T.nil (T.node none T.nil (T.node none T.nil (T.node (some (AObj.cells ty c false 0)) T.nil T.nil)))))), next := 127 })) <| .steps 10 <| .call (.ret (Value.tuple { toList := [Value.string { data := { toList := TH.comS (TH.fieldsAt { objs := T.node none T.nil (T.node none T.nil (T.node none T.nil (T.node none T.nil (T.node none T.nil (T.node none T.nil (T.node (some (AObj.cells ty c false 0)) T.nil T.nil)))))), next := 127 } (Value.slice (some { block := 126, off := o }) n cap)) s } }, Value.int IntKind.i64 (TH.comE (TH.fieldsAt { objs := T.node none T.nil (T.node none T.nil (T.node none T.nil (T.node none T.nil (T.node none T.nil (T.node none T.nil (T.node (some (AObj.cells ty c false 0)) T.nil T.nil)))))), next := 127 } (Value.slice (some { block := 126, off := o }) n cap)) s)] }) ({ objs := T.node none T.nil (T.node none T.nil (T.node none T.nil (T.node none T.nil (T.node none T.nil (T.node none T.nil (T.node (some (AObj.cells ty c false 0)) T.nil T.nil)))))), next := 127 })) <| .steps 9 <| .call (.ret (Value.int IntKind.i64 (TH.chk (TH.fieldsAt { objs := T.node none T.nil (T.node none T.nil (T.node none T.nil (T.node none T.nil (T.node none T.nil (T.node none T.nil (T.node (some (AObj.cells ty c false 0)) T.nil T.nil)))))), next := 127 } (Value.slice (some { block := 126, off := o }) n cap)))) ({ objs := T.node none T.nil (T.node none T.nil (T.node none T.nil (T.node none T.nil (T.node none T.nil (T.node none T.nil (T.node (some (AObj.cells ty c false 0)) T.nil T.nil)))))), next := 127 })) <| .steps 1 <| .call (.ret (Value.int IntKind.i64 (TH.chk (TH.fieldsAt { objs := T.node none T.nil (T.node none T.nil (T.node none T.nil (T.node none T.nil (T.node none T.nil (T.node none T.nil (T.node (some (AObj.cells ty c false 0)) T.nil T.nil)))))), next := 127 } (Value.slice (some { block := 126, off := o }) n cap)))) ({ objs := T.node none T.nil (T.node none T.nil (T.node none T.nil (T.node none T.nil (T.node none T.nil (T.node none T.nil (T.node (some (AObj.cells ty c false 0)) T.nil T.nil)))))), next := 127 })) <| .steps 2 <| .bit 48 (.steps 5 <| .bit 53 (.steps 5 <| .bit 58 (.steps 5 <| .bit 63 (.steps 5 <| .bit 68 (.call (.ret (Value.bool true) ({ objs := T.node none T.nil (T.node none T.nil (T.node none T.nil (T.node none T.nil (T.node none T.nil (T.node none T.nil (T.node (some (AObj.cells ty c false 0)) T.nil T.nil)))))), next := 127 })) <| .steps 4 <| .done none) (.steps 5 <| .done none)) (.steps 10 <| .done none)) (.steps 15 <| .done none)) (.steps 20 <| .done none)) (.steps 25 <| .done none)))) (E ty o c n cap s) (tmOk_get (by kernel_rfl)) (Eq.mpr (congrArg (W.holds η Go.Proofs.Tryz.prog B 8 (fun kp_ st_ => RunD η Go.Proofs.Tryz.prog B 8 (H0 ty o c n cap s) kp_ st_ (QF Go.Proofs.Tryz.prog 127 D)) D) (by kernel_rfl)) h)
end HLaw
namespace HLaw0
set_option linter.unusedVariables false
noncomputable def bd : Code := (Go.Proofs.Tryz.f8.body).getD .skip
noncomputable def H0 (s : List UInt8) : AH := { objs := T.nil, next := 126 }
noncomputable def E (s : List UInt8) : AS := ⟨⟨8, 71, T.node (some (Value.slice none 0 0)) (T.node (some (Value.string { data := { toList := s } })) T.nil T.nil) T.nil, [Item.code (codeAt bd [])], [], FrameMode.run, CallKind.normal, none⟩, [], ⟨T.nil, 126⟩⟩
theorem enter {η : Nat → Value} {B : Nat} (hη : OneCells η) (hmix : Go.Proofs.Tryz.prog.follows .mixedOrders = true) (hreg : RegOk η Go.Proofs.Tryz.prog B noNest) {D : Value → AH → Prop} (s : List UInt8) (h : W.holds η Go.Proofs.Tryz.prog B 8 (fun kp_ st_ => RunD η Go.Proofs.Tryz.prog B 8 (H0 s) kp_ st_ (QF Go.Proofs.Tryz.prog 126 D)) D (.call 31 [Value.slice none 0 0] ({ objs := T.nil, next := 126 }) (.ret (Value.bool false) ({ objs := T.nil, next := 126 })) (.ite (decide ((↑s.length : Int) > (200 : Int))) (.call 32 [] ({ objs := T.nil, next := 126 }) (.ret (Value.bool true) ({ objs := T.nil, next := 126 })) (.done 8 (Value.bool true) (H0 s))) (.call 33 [Value.string { data := { toList := s } }] ({ objs := T.nil, next := 126 }) (.ret (Value.tuple { toList := [Value.string { data := { toList := TH.canS s } }, Value.int IntKind.i64 (TH.canE s)] }) ({ objs := T.nil, next := 126 })) (.call 34 [Value.string { data := { toList := s } }] ({ objs := T.nil, next := 126 }) (.ret (Value.tuple { toList := [Value.string { data := { toList := TH.canS s } }, Value.int IntKind.i64 (TH.canE s)] }) ({ objs := T.nil, next := 126 })) (.call 35 [Value.slice none 0 0, Value.string { data := { toList := s } }] ({ objs := T.nil, next := 126 }) (.ret (Value.tuple { toList := [Value.string { data := { toList := TH.comS [] s } }, Value.int IntKind.i64 (TH.comE [] s)] }) ({ objs := T.nil, next := 126 })) (.call 36 [Value.slice none 0 0, Value.string { data := { toList := s } }] ({ objs := T.nil, next := 126 }) (.ret (Value.tuple { toList := [Value.string { data := { toList := TH.comS [] s } }, Value.int IntKind.i64 (TH.comE [] s)] }) ({ objs := T.nil, next := 126 })) (.call 37 [Value.slice none 0 0] ({ objs := T.nil, next := 126 }) (.ret (Value.int IntKind.i64 0) ({ objs := T.nil, next := 126 })) (.call 38 [Value.slice none 0 0] ({ objs := T.nil, next := 126 }) (.ret (Value.int IntKind.i64 0) ({ objs := T.nil, next := 126 })) (.ite (TH.canS s == TH.canS s) (.ite (TH.canE s == TH.canE s) (.ite (TH.comS [] s == TH.comS [] s) (.ite (TH.comE [] s == TH.comE [] s) (.call 32 [] ({ objs := T.nil, next := 126 }) (.ret (Value.bool true) ({ objs := T.nil, next := 126 })) (.done 8 (Value.bool true) (H0 s))) (.done 8 (Value.bool false) (H0 s))) (.done 8 (Value.bool false) (H0 s))) (.done 8 (Value.bool false) (H0 s))) (.done 8 (Value.bool false) (H0 s)))))))))))) : CallSpec η Go.Proofs.Tryz.prog B 8 [Value.slice none 0 0, Value.string { data := { toList := s } }] (H0 s) D := by
  refine CallSpec.ofQF hη (CallSpec.enter (fr := (E s).fr) (by kernel_rfl) ?_)
  exact walk_ok (h0 := H0 s) hη hmix hreg (fun _ _ k => k) 10000 (.steps 8 <| .call (.ret (Value.bool false) ({ objs := T.nil, next := 126 })) <| .steps 6 <| .bit 19 (.steps 3 <| .call (.ret (Value.bool true) ({ objs := T.nil, next := 126 })) <| .steps 3 <| .done none) (.steps 5 <| .call (.ret (Value.tuple { toList := [Value.string { data := { toList := TH.canS s } }, Value.int IntKind.i64 (TH.canE s)] }) ({ objs := T.nil, next := 126 })) <| .steps 9 <| .call (.ret (Value.tuple { toList := [Value.string { data := { toList := TH.canS s } }, Value.int IntKind.i64 (TH.canE s)] }) ({ objs := T.nil, next := 126 })) <| .steps 10 <| .call (.ret (Value.tuple { toList := [Value.string { data := { toList := TH.comS [] s } }, Value.int IntKind.i64 (TH.comE [] s)] }) ({ objs := T.nil, next := 126 })) <| .steps 10 <| .call (.ret (Value.tuple { toList := [Value.string { data := { toList := TH.comS [] s } }, Value.int IntKind.i64 (TH.comE [] s)] }) ({ objs := T.nil, next := 126 })) <| .steps 9 <| .call (.ret (Value.int IntKind.i64 0) ({ objs := T.nil, next := 126 })) <| .steps 1 <| .call (.ret (Value.int IntKind.i64 0) ({ objs := T.nil, next := 126 })) <| .steps 7 <| .bit 53 (.steps 5 <| .bit 58 (.steps 5 <| .bit 63 (.steps 5 <| .bit 68 (.call (.ret (Value.bool true) ({ objs := T.nil, next := 126 })) <| .steps 4 <| .done none) (.steps 5 <| .done none)) (.steps 10 <| .done none)) (.steps 15 <| .done none)) (.steps 20 <| .done none))) (E s) (tmOk_get (by kernel_rfl)) (Eq.mpr (congrArg (W.holds η Go.Proofs.Tryz.prog B 8 (fun kp_ st_ => RunD η Go.Proofs.Tryz.prog B 8 (H0 s) kp_ st_ (QF Go.Proofs.Tryz.prog 126 D)) D) (by kernel_rfl)) h)
end HLaw0
end Go.Ev

