/- HReadsC, part 6: what the proof needs, in the order of its texts. -/
import Derived.Test.YtklnjollalaehaaDoorHReadsC5
import Derived.Shelf.Strings.SlTrimAscii
import Derived.Test.YtklnjollalaehaaDoorShelf
import Derived.KernelRfl
import Derived.Test.YtklnjollalaehaaDoorProg
namespace Go.Ev
set_option linter.unusedVariables false
set_option linter.unusedSimpArgs false
open Go Go.Proofs Go.RowKit
variable {η : Nat → Value} {B : Bd}
namespace TE
open TB
theorem h256 : (Tryd.prog.info? (Tryd.lays160_ren.t 116)).map (fun i => (i.zero, i.size)) = some (some (.agg (Array.replicate 256 (.bool false))), 256) := by kernel_rfl
theorem trim_ok {h : AH} (s : List UInt8) (hs : s.length ≤ 9223372036854775807) :
    CallSpec η Tryd.prog B 33 [.string ⟨⟨s⟩⟩, .string ⟨#[9, 32]⟩] h (trimK [.string ⟨⟨s⟩⟩, .string ⟨#[9, 32]⟩] h).sat := by
  refine CallSpec.ofCalls (v := .string ⟨⟨trimB s⟩⟩) fun ρ args' w hl p => ?_
  obtain rfl := args_inv rfl hl
  refine (Any.strings_Trim_laid Tryd.lays160 h256 ⟨⟨s⟩⟩ ⟨#[9, 32]⟩ w hs (by decide) (fun j b hj => ?_)).mono ?_
  · have : b ∈ ([9, 32] : List UInt8) := List.mem_of_getElem? hj
    simp only [List.mem_cons, List.not_mem_nil, or_false] at this
    rcases this with rfl | rfl <;> decide
  · rintro e w' ⟨rfl, hb⟩
    exact ⟨_, rfl, .string _, hb⟩
def bl (c : UInt8) : Bool := ([9, 32] : List UInt8).contains c
def tl (l : List UInt8) : List UInt8 := l.dropWhile bl
def tr (l : List UInt8) : List UInt8 := (l.reverse.dropWhile bl).reverse
theorem trimB_eq (l : List UInt8) : trimB l = tl (tr l) := rfl
theorem tr_nil : tr [] = [] := rfl
theorem tl_cons (a : UInt8) (l : List UInt8) : tl (a :: l) = if bl a = true then tl l else a :: l := by
  unfold tl; rw [List.dropWhile_cons]
theorem tr_cons (a : UInt8) (l : List UInt8) : tr (a :: l) = if tr l = [] then (if bl a = true then [] else [a]) else a :: tr l := by
  unfold tr
  rw [List.reverse_cons, List.dropWhile_append]
  cases hd : l.reverse.dropWhile bl with
  | nil =>
    simp only [List.isEmpty_nil, if_true, List.reverse_nil]
    rw [List.dropWhile_cons]
    split <;> rfl
  | cons x xs =>
    rw [if_neg (by simp), if_neg (by simp), List.reverse_append]; rfl
theorem tl_tr : ∀ l : List UInt8, tl (tr l) = tr (tl l)
  | [] => rfl
  | a :: l => by
    have ih := tl_tr l
    rw [tr_cons, tl_cons]
    cases hb : bl a with
    | true =>
      rw [if_pos rfl, if_pos rfl, ← ih]
      split
      · rename_i h; rw [h]
      · rw [tl_cons, hb, if_pos rfl]
    | false =>
      simp only [Bool.false_eq_true, if_false]
      rw [tr_cons, hb]
      simp only [Bool.false_eq_true, if_false]
      split
      · rw [tl_cons, hb]; simp
      · rw [tl_cons, hb]; simp
end TE
end Go.Ev
namespace Go.Ev
set_option linter.unusedVariables false
set_option linter.unusedSimpArgs false
open Go Go.Proofs
variable {η : Nat → Value} {B : Bd}
namespace TE
open TB
theorem strs_len (L : List (List UInt8)) : (strs L).length = L.length := by unfold strs; rw [List.length_map]
end TE
end Go.Ev
namespace Go.Ev
set_option linter.unusedVariables false
set_option linter.unusedSimpArgs false
open Go Go.Proofs
variable {η : Nat → Value} {B : Bd}
namespace TE
open TB
end TE
end Go.Ev

namespace Go.Ev
set_option linter.unusedVariables false
set_option linter.unusedSimpArgs false
open Go Go.Proofs
variable {η : Nat → Value} {B : Bd}
namespace TE
open TB
theorem trim_len (y : List UInt8) : (trimB y).length ≤ y.length := by
  rw [trimB_eq]; unfold tl tr
  refine Nat.le_trans (List.dropWhile_sublist _).length_le ?_
  rw [List.length_reverse]
  exact Nat.le_trans (List.dropWhile_sublist _).length_le (by rw [List.length_reverse]; exact Nat.le_refl _)
end TE
end Go.Ev
namespace Go.Ev
set_option linter.unusedVariables false
set_option linter.unusedSimpArgs false
open Go Go.Proofs
variable {η : Nat → Value} {B : Bd}
namespace TE
open TB
end TE
end Go.Ev

namespace Go.Ev
set_option linter.unusedVariables false
set_option linter.unusedSimpArgs false
open Go Go.Proofs
variable {η : Nat → Value} {B : Bd}
namespace TE
open TB
/-- A value that stands for a list of strings. -/
def IsStrs (h : AH) (v : Value) (L : List (List UInt8)) : Prop :=
  (v = .slice none 0 0 ∧ L = []) ∨ ∃ r own, v = .slice (some ⟨r, 0, none⟩) L.length (capU 1) ∧ h.objs.get r = some (.cells 9 (strs L) false own)
theorem strs_all (L : List (List UInt8)) : (strs L).all bareV = true := by
  rw [List.all_eq_true]; intro v hv
  unfold strs at hv
  rw [List.mem_map] at hv
  obtain ⟨x, _, rfl⟩ := hv; rfl
theorem IsStrs.at_ {h : AH} {v : Value} {L : List (List UInt8)} (k : IsStrs h v L) : listAt h v = L := by
  rcases k with ⟨rfl, rfl⟩ | ⟨r, own, rfl, hr⟩
  · rfl
  · unfold listAt
    simp only [hr]
    rw [List.take_of_length_le (by rw [strs_len]; exact Nat.le_refl _)]
    unfold strs
    rw [List.map_map]
    exact List.map_id _
end TE
end Go.Ev

namespace Go.Ev
set_option linter.unusedVariables false
set_option linter.unusedSimpArgs false
open Go Go.Proofs Go.RowKit
variable {η : Nat → Value} {B : Bd}
namespace TH
open TB TE
theorem byte_eq9 {c : UInt8} : ((c.toNat : Int) = 9 ∨ (32 ≤ (c.toNat : Int) ∧ (c.toNat : Int) ≤ 126)) ↔ plB c = true := by
  unfold plB; rw [decide_eq_true_iff]; omega
theorem text_ok (hη : OneCells η) (hmix : Tryd.prog.follows .mixedOrders = true) (s : List UInt8) (hs : s.length ≤ 1000000) (h : AH) :
    CallSpec η Tryd.prog B 31 [.string ⟨⟨s⟩⟩] h (plainsK [.string ⟨⟨s⟩⟩] h).sat := by
  refine CallSpec.bare (v := .bool (s.all plB)) hη gs9 (fun _ _ => str_args) (fun σ M => .bool _) (fun σ M => .bool _) ?_ h
  have cut := fun i0 => HText.cut0 (η := η) (B := B) (D := fun v _ => v = .bool (s.all plB)) hη hmix (reg0 hη hmix) s i0
  simp only [W.holds, true_and, decide_eq_true_eq, decide_eq_false_iff_not, bne_iff_ne, bne_eq_false_iff_eq] at cut
  refine HText.enter hη hmix (reg0 hη hmix) _ ?_
  simp only [W.holds]
  have loop : ∀ (r : List UInt8) (i : Nat), s.drop i = r → s.all plB = r.all plB → RunD η Tryd.prog B 31 (HText.H0 s) [0, 6, 7] (HText.S0 s (i : Int) fun _ => undef) (QF Tryd.prog 126 fun v _ => v = .bool (s.all plB)) := by
    intro r
    induction r with
    | nil =>
      intro i hd he
      have := at_nil hd
      refine cut _ ⟨fun h => by omega, fun _ => ?_⟩
      rw [he]; rfl
    | cons c r ih =>
      intro i hd he
      obtain ⟨hi, hb, hd2⟩ := at_cons hd
      have c1 := cut (i : Int)
      rw [hb, wrap1 (by omega)] at c1
      have bad : plB c = false → Value.bool false = .bool (s.all plB) := by
        intro h; rw [he, List.all_cons, h, Bool.false_and]
      have go : plB c = true → RunD η Tryd.prog B 31 (HText.H0 s) [0, 6, 7] (HText.S0 s ((i + 1 : Nat) : Int) fun _ => undef) (QF Tryd.prog 126 fun v _ => v = .bool (s.all plB)) := by
        intro h; exact ih (i + 1) hd2 (by rw [he, List.all_cons, h, Bool.true_and])
      have hf : ∀ {p : Prop}, ¬ p → (((c.toNat : Int) = 9 ∨ (32 ≤ (c.toNat : Int) ∧ (c.toNat : Int) ≤ 126)) → p) → plB c = false := by
        intro p hp hq
        cases hx : plB c with
        | false => rfl
        | true => exact absurd (hq (byte_eq9.2 hx)) hp
      refine c1 ⟨fun _ => ⟨⟨by omega, by omega⟩, fun _ => ⟨fun h9 => ⟨fun h => bad (hf (p := False) (fun h => h) (by omega)), fun h => ⟨fun h2 => bad (hf (p := False) (fun h => h) (by omega)), fun h2 => go (byte_eq9.1 (by omega))⟩⟩, fun h9 => go (byte_eq9.1 (by omega))⟩⟩, fun h => by omega⟩
  exact loop s 0 rfl rfl
theorem ckf_ok (hη : OneCells η) (hmix : Tryd.prog.follows .mixedOrders = true) (n v : List UInt8) (hn : n.length ≤ 1000000) (hv : v.length ≤ 1000000) (h : AH) :
    CallSpec η Tryd.prog B 34 [.agg ⟨[.string ⟨⟨n⟩⟩, .string ⟨⟨v⟩⟩]⟩] h (ckfK [.agg ⟨[.string ⟨⟨n⟩⟩, .string ⟨⟨v⟩⟩]⟩] h).sat := by
  have ha : ∀ σ M, RV σ M true (.agg ⟨[.string ⟨⟨n⟩⟩, .string ⟨⟨v⟩⟩]⟩) (.agg ⟨[.string ⟨⟨n⟩⟩, .string ⟨⟨v⟩⟩]⟩) := fun σ M => .agg rfl fun i x y hx hy => by
    rw [hx] at hy; injection hy with hy; subst hy
    match i, hx with
    | 0, hx => simp at hx; subst hx; exact .string _
    | 1, hx => simp at hx; subst hx; exact .string _
  refine CallSpec.bare (v := .int .i64 (ckf n v)) hη gs9 (fun _ _ => .cons (ha _ _) .nil) (fun σ M => .int _ _) (fun σ M => .int _ _) ?_ h
  refine HCkf.enter hη hmix (reg0 hη hmix) _ _ ?_
  simp only [W.holds, consM, Nat.reduceEqDiff, false_implies, true_and, and_true, decide_eq_true_eq, decide_eq_false_iff_not, Bool.not_eq_true', Bool.not_eq_false', beq_iff_eq, beq_eq_false_iff_ne, true_implies]
  have e6 : ckB n v = false → Value.int .i64 6 = .int .i64 (ckf n v) := by intro h; unfold ckf; rw [if_pos h]
  have e3 : ckB n v = true → 2000 < v.length → Value.int .i64 3 = .int .i64 (ckf n v) := by intro h h2; unfold ckf; rw [if_neg (by rw [h]; simp), if_pos h2]
  have e0 : ckB n v = true → ¬ 2000 < v.length → Value.int .i64 0 = .int .i64 (ckf n v) := by intro h h2; unfold ckf; rw [if_neg (by rw [h]; simp), if_neg h2]
  refine ⟨tok_ok hη hmix n hn _, fun h1 => e6 (by unfold ckB; rw [h1]; rfl), fun h1 => ⟨text_ok hη hmix v hv _, fun h2 => e6 (by unfold ckB; rw [h1, h2]; rfl), fun h2 => ⟨trim_ok v (by omega), fun h3 => e6 (by unfold ckB; rw [h1, h2, Bool.true_and, Bool.true_and]; exact decide_eq_false fun e => h3 e.symm), fun h3 => ?_⟩⟩⟩
  have hb : ckB n v = true := by unfold ckB; rw [h1, h2, Bool.true_and, Bool.true_and]; exact decide_eq_true h3.symm
  exact ⟨fun h4 => e3 hb (by omega), fun h4 => e0 hb (by omega)⟩
end TH
end Go.Ev

namespace Go.Ev
set_option linter.unusedVariables false
set_option linter.unusedSimpArgs false
open Go Go.Proofs
open Go.Ev.T renaming node → nN, nil → nZ
open Go.Proofs.Tryd (prog)
set_option maxRecDepth 100000
set_option maxHeartbeats 2000000
namespace HChk0
set_option linter.unusedVariables false
noncomputable def bd : Code := (Go.Proofs.Tryd.f16.body).getD .skip
noncomputable def H0 (n : Int) : AH := { objs := nZ, next := 126 }
noncomputable def E (n : Int) : AS := ⟨⟨16, 28, nN (some (Value.slice none 0 0)) nZ nZ, [Item.code (codeAt bd [])], [], FrameMode.run, CallKind.normal, none⟩, [], ⟨nZ, 126⟩⟩
noncomputable def S0 (n : Int)  (d : Nat → Value) : AS := ⟨⟨16, 28, nN (some (d 0)) (nN (some (d 1)) (nN (some (Value.int IntKind.i64 2)) (nN (some (d 7)) (nN (some (d 15)) nZ nZ) (nN (some (d 23)) nZ nZ)) (nN (some (Value.int IntKind.i64 0)) (nN (some (d 19)) nZ nZ) (nN (some (d 27)) nZ nZ))) (nN (some (d 5)) (nN (some (d 9)) (nN (some (d 17)) nZ nZ) (nN (some (d 25)) nZ nZ)) (nN (some (d 13)) (nN (some (d 21)) nZ nZ) nZ))) (nN (some (d 2)) (nN (some (d 4)) (nN (some (d 8)) (nN (some (d 16)) nZ nZ) (nN (some (d 24)) nZ nZ)) (nN (some (Value.int IntKind.i64 0)) (nN (some (d 20)) nZ nZ) nZ)) (nN (some (d 6)) (nN (some (Value.slice none 0 0)) (nN (some (d 18)) nZ nZ) (nN (some (d 26)) nZ nZ)) (nN (some (d 14)) (nN (some (d 22)) nZ nZ) nZ))), [Item.code (codeAt bd [1, 1, 1, 0, 1, 0, 0]), Item.inLoop (codeAt bd [1, 1, 1, 0, 1, 0, 0]), Item.inBlock 0, Item.code (codeAt bd [1, 1, 1, 1])], [], FrameMode.run, CallKind.normal, none⟩, [], ⟨nZ, 126⟩⟩
theorem enter {η : Nat → Value} {B : Bd} (hη : OneCells η) (hmix : prog.follows .mixedOrders = true) (hreg : RegOk η prog B noNest) {D : Value → AH → Prop} (n : Int) (h : W.holds η prog B 16 (fun kp_ st_ => RunD η prog B 16 (H0 n) kp_ st_ (QF prog 126 D)) D (.stop [3, 10, 11, 12] (S0 n  (fun _ => undef)))) : CallSpec η prog B 16 [Value.slice none 0 0] (H0 n) D := by
  refine CallSpec.ofQF hη (CallSpec.enter (fr := (E n).fr) (by kernel_rfl) ?_)
  exact walk_okT (h0 := H0 n) hη hmix hreg (.steps 26 <| .stop [3, 10, 11, 12] none) (E n) (by kernel_rfl) h (by kernel_rfl)
theorem cut0 {η : Nat → Value} {B : Bd} (hη : OneCells η) (hmix : prog.follows .mixedOrders = true) (hreg : RegOk η prog B noNest) {D : Value → AH → Prop} (n : Int)  (h : W.holds η prog B 16 (fun kp_ st_ => RunD η prog B 16 (H0 n) kp_ st_ (QF prog 126 D)) D (.done 16 (Value.int IntKind.i64 0) (H0 n))) : RunD η prog B 16 (H0 n) [3, 10, 11, 12] (S0 n  fun _ => undef) (QF prog 126 D) := by
  refine RunD.intro (S0 n ) (fun d => ⟨rfl, rfl, rfl⟩) (fun d => tmOk_get (by kernel_rfl)) (fun d => by kernel_rfl) (fun d => ?_)
  exact walk_okT (h0 := H0 n) hη hmix hreg (.steps 20 <| .done none) (S0 n  d) (by kernel_rfl) h (by kernel_rfl)
end HChk0
namespace HLln
set_option linter.unusedVariables false
noncomputable def bd : Code := (Go.Proofs.Tryd.f35.body).getD .skip
noncomputable def H0 (n : List UInt8) (v : List UInt8) : AH := { objs := nZ, next := 126 }
noncomputable def E (n : List UInt8) (v : List UInt8) : AS := ⟨⟨35, 12, nN (some (Value.agg ⟨[Value.string ⟨⟨n⟩⟩, Value.string ⟨⟨v⟩⟩]⟩)) nZ nZ, [Item.code (codeAt bd [])], [], FrameMode.run, CallKind.normal, none⟩, [], ⟨nZ, 126⟩⟩
theorem enter {η : Nat → Value} {B : Bd} (hη : OneCells η) (hmix : prog.follows .mixedOrders = true) (hreg : RegOk η prog B noNest) {D : Value → AH → Prop} (n : List UInt8) (v : List UInt8) (h : W.holds η prog B 35 (fun kp_ st_ => RunD η prog B 35 (H0 n v) kp_ st_ (QF prog 126 D)) D (.need (True) (.done 35 (Value.int IntKind.i64 (IntKind.i64.wrap (IntKind.i64.wrap (IntKind.i64.wrap ((↑n.length : Int) + 2) + (↑v.length : Int)) + 2))) (H0 n v)))) : CallSpec η prog B 35 [Value.agg ⟨[Value.string ⟨⟨n⟩⟩, Value.string ⟨⟨v⟩⟩]⟩] (H0 n v) D := by
  refine CallSpec.ofQF hη (CallSpec.enter (fr := (E n v).fr) (by kernel_rfl) ?_)
  exact walk_okT (h0 := H0 n v) hη hmix hreg (.steps 19 <| .done (some ⟨126, [], []⟩)) (E n v) (by kernel_rfl) h (by kernel_rfl)
end HLln
end Go.Ev

namespace Go.Ev
set_option linter.unusedVariables false
set_option linter.unusedSimpArgs false
open Go Go.Proofs Go.RowKit
variable {η : Nat → Value} {B : Bd}
namespace TH
open TB TE
def FldsAt (c : List Value) (o : Nat) (l : List HF) : Prop := c.all bareV = true ∧ ∀ (i : Nat) (hi : i < l.length), c[o + i * 2]? = some (.string ⟨⟨l[i].1⟩⟩) ∧ c[o + i * 2 + 1]? = some (.string ⟨⟨l[i].2⟩⟩)
/-- A value that stands for a list of fields. -/
def IsFlds (h : AH) (v : Value) (l : List HF) : Prop :=
  (v = .slice none 0 0 ∧ l = []) ∨ ∃ r o ty c own cap, v = .slice (some ⟨r, o, none⟩) l.length cap ∧ h.objs.get r = some (.cells ty c false own) ∧ FldsAt c o l
theorem take2 {c : List Value} {k : Nat} {x y : Value} (h0 : c[k]? = some x) (h1 : c[k + 1]? = some y) : k + 2 ≤ c.length ∧ List.take 2 (List.drop k c) = [x, y] := by
  obtain ⟨l0, e0⟩ := List.getElem?_eq_some_iff.1 h0
  obtain ⟨l1, e1⟩ := List.getElem?_eq_some_iff.1 h1
  refine ⟨by omega, ?_⟩
  rw [List.drop_eq_getElem_cons l0, List.drop_eq_getElem_cons l1, e0, e1]
  rfl
theorem fl_get {c : List Value} {o : Nat} {l : List HF} (F : FldsAt c o l) {i : Nat} (hi : i < l.length) : (o + i * 2 + 2 ≤ c.length ∧ List.take 2 (List.drop (o + i * 2) c) = [.string ⟨⟨l[i].1⟩⟩, .string ⟨⟨l[i].2⟩⟩]) ∧ strAt c (o + i * 2) = l[i].1 ∧ strAt c (o + i * 2 + 1) = l[i].2 := by
  obtain ⟨h0, h1⟩ := F.2 i hi
  exact ⟨take2 h0 h1, by unfold strAt; rw [h0], by unfold strAt; rw [h1]⟩
theorem nn_bare {c : List Value} (h : c.all bareV = true) : NoNames c := by
  intro v hv
  have := List.all_eq_true.1 h v hv
  cases v with
  | pointer a => cases a <;> simp_all [bareV, bareN]
  | map a => cases a <;> simp_all [bareV, bareN]
  | slice a l c => cases a <;> simp_all [bareV, bareN]
  | _ => simp_all [bareV, bareN]
theorem IsFlds.at_ {h : AH} {v : Value} {l : List HF} (k : IsFlds h v l) : fieldsAt h v = l := by
  rcases k with ⟨rfl, rfl⟩ | ⟨r, o, ty, c, own, cap, rfl, hr, F⟩
  · rfl
  · unfold fieldsAt
    simp only [hr]
    refine List.ext_getElem (by simp) fun i h1 h2 => ?_
    obtain ⟨_, g1, g2⟩ := fl_get F h2
    rw [List.getElem_map, List.getElem_range]
    rw [show o + 2 * i = o + i * 2 by omega, g1, g2]
theorem rows1 {h : AH} {r ty own : Nat} {c : List Value} (hr : h.objs.get r = some (.cells ty c false own)) (hb : c.all bareV = true) : RowsIn h [(ty, c)] (fun _ => r) := by
  refine ⟨fun i x hi => ?_, fun i j hi hj _ => ?_⟩
  · match i with
    | 0 => simp at hi; subst hi; exact ⟨hb, own, hr⟩
    | i + 1 => simp at hi
  · simp only [List.length_singleton] at hi hj; omega
theorem rv_agg2 {σ : Nat → Nat} {M : Nat} {w : Bool} (n v : List UInt8) : RV σ M w (.agg ⟨[.string ⟨⟨n⟩⟩, .string ⟨⟨v⟩⟩]⟩) (.agg ⟨[.string ⟨⟨n⟩⟩, .string ⟨⟨v⟩⟩]⟩) := .agg rfl fun i x y hx hy => by
  rw [hx] at hy; injection hy with hy; subst hy
  match i, hx with
  | 0, hx => simp at hx; subst hx; exact .string _
  | 1, hx => simp at hx; subst hx; exact .string _
theorem wrapL' {z : Int} (h0 : 0 ≤ z) (h : z ≤ 1000000000) : IntKind.i64.wrap z = z := by
  have : ∃ n : Nat, z = n := ⟨z.toNat, by omega⟩
  obtain ⟨n, rfl⟩ := this
  cases n with
  | zero => rfl
  | succ n => exact wrap1 (i := n) (by omega)
theorem lln_ok (hη : OneCells η) (hmix : Tryd.prog.follows .mixedOrders = true) (n v : List UInt8) (hn : n.length ≤ 1000000) (hv : v.length ≤ 1000000) (h : AH) :
    CallSpec η Tryd.prog B 35 [.agg ⟨[.string ⟨⟨n⟩⟩, .string ⟨⟨v⟩⟩]⟩] h (llnK [.agg ⟨[.string ⟨⟨n⟩⟩, .string ⟨⟨v⟩⟩]⟩] h).sat := by
  refine CallSpec.bare (v := .int .i64 (len4 n v)) hη gs9 (fun _ _ => .cons (rv_agg2 _ _) .nil) (fun σ M => .int _ _) (fun σ M => .int _ _) ?_ h
  refine HLln.enter hη hmix (reg0 hη hmix) _ _ ?_
  simp only [W.holds, true_and, true_implies]
  rw [wrapL' (z := (n.length : Int) + 2) (by omega) (by omega), wrapL' (z := (n.length : Int) + 2 + (v.length : Int)) (by omega) (by omega), wrapL' (z := (n.length : Int) + 2 + (v.length : Int) + 2) (by omega) (by omega)]
  unfold len4
  congr 1; omega
/-- The bounds that the walks ask. -/
def Small (l : List HF) : Prop := l.length ≤ 200 ∧ ∀ p ∈ l, p.1.length ≤ 20000 ∧ p.2.length ≤ 20000
theorem chk_can (hη : OneCells η) (hmix : Tryd.prog.follows .mixedOrders = true) {l : List HF} {c : List Value} {o : Nat} (ty cap : Nat) (F : FldsAt c o l) (hL : Small l) :
    CallSpec η Tryd.prog B 16 [.slice (some ⟨126, o, none⟩) l.length cap] (heapT [(ty, c)]) (fun v h => v = .int .i64 (chk l) ∧ h = heapT [(ty, c)]) := by
  have e0 : HChk.H0 ty o c l.length cap = heapT [(ty, c)] := rfl
  rw [← e0]
  have nn := nn_bare F.1
  have cut := fun i0 i1 => HChk.cut0 (η := η) (B := B) (D := fun v h => v = .int .i64 (chk l) ∧ h = HChk.H0 ty o c l.length cap) hη hmix (reg0 hη hmix) ty o c l.length cap i0 i1
  refine HChk.enter hη hmix (reg0 hη hmix) _ _ _ _ _ ?_
  simp only [W.holds, true_and, and_true, decide_eq_true_eq, decide_eq_false_iff_not, bne_iff_ne, bne_eq_false_iff_eq, true_implies] at cut ⊢
  have loop : ∀ (rest : List HF) (i n : Nat), l.drop i = rest → n ≤ 2 + 40004 * i → ¬ 100 < l.length → chkF l 2 = chkF rest n → RunD η Tryd.prog B 16 (HChk.H0 ty o c l.length cap) [3, 10, 11, 12] (HChk.S0 ty o c l.length cap (n : Int) (i : Int) fun _ => undef) (QF Tryd.prog 127 fun v h => v = .int .i64 (chk l) ∧ h = HChk.H0 ty o c l.length cap) := by
    intro rest
    induction rest with
    | nil =>
      intro i n hd hn h1 he
      have hi : l.length ≤ i := List.drop_eq_nil_iff.1 hd
      have hc : chk l = if 8192 < n then 3 else 0 := by unfold chk; rw [if_neg h1, he]; rfl
      refine cut _ _ ⟨fun h => by omega, fun _ => ⟨fun h => ?_, fun h => ?_⟩⟩
      · rw [hc, if_pos (by omega)]
      · rw [hc, if_neg (by omega)]
    | cons p rest ih =>
      intro i n hd hn h1 he
      have hi : i < l.length := by
        rcases Nat.lt_or_ge i l.length with h | h
        · exact h
        · rw [List.drop_of_length_le h] at hd; cases hd
      rw [List.drop_eq_getElem_cons hi] at hd
      injection hd with e1 e2
      obtain ⟨b1, b2⟩ := hL.2 p (by rw [← e1]; exact List.getElem_mem hi)
      have hl := hL.1
      obtain ⟨g0, g1, g2⟩ := fl_get F hi
      have c1 := cut (n : Int) (i : Int)
      rw [Int.toNat_natCast, g1, g2, wrap1 (by omega), e1] at c1
      rw [e1] at g0
      have hw : IntKind.i64.wrap ((n : Int) + len4 p.1 p.2) = ((n + p.1.length + p.2.length + 4 : Nat) : Int) := by
        unfold len4
        rw [wrapL' (by omega) (by omega)]; omega
      rw [hw] at c1
      refine c1 ⟨fun _ => ⟨⟨by omega, by omega⟩, fun _ => ⟨g0, fun _ => ⟨ckf_ok hη hmix p.1 p.2 (by omega) (by omega) _, fun hne => ⟨nn, fun _ => ?_⟩, fun heq => ⟨lln_ok hη hmix p.1 p.2 (by omega) (by omega) _, ⟨nn, fun _ => ?_⟩⟩⟩⟩⟩, fun h => by omega⟩
      · unfold chk; rw [if_neg h1, he]
        unfold chkF; rw [if_pos hne]
      · exact ih (i + 1) _ e2 (by omega) h1 (by rw [he]; conv => lhs; unfold chkF; rw [if_neg (by rw [heq]; simp)])
  refine ⟨fun h => ?_, fun h => loop l 0 2 rfl (by omega) (by omega) rfl⟩
  unfold chk; rw [if_pos (by omega)]
/-- Check, from any heap in which the list stands. -/
theorem chk_ok (hη : OneCells η) (hmix : Tryd.prog.follows .mixedOrders = true) {h : AH} {v : Value} {l : List HF} (k : IsFlds h v l) (hL : Small l) :
    CallSpec η Tryd.prog B 16 [v] h (chkK [v] h).sat := by
  show CallSpec η Tryd.prog B 16 [v] h (KT.ret (.int .i64 (chk (fieldsAt h v))) h).sat
  rw [k.at_]
  rcases k with ⟨rfl, rfl⟩ | ⟨r, o, ty, c, own, cap, rfl, hr, F⟩
  · refine CallSpec.pure hη gs9 (fun _ _ => .cons (.slice0 _ _) .nil) (fun _ _ => .int _ _) ?_ h
    refine HChk0.enter hη hmix (reg0 hη hmix) 0 ?_
    simp only [W.holds]
    exact HChk0.cut0 hη hmix (reg0 hη hmix) 0 (by simp only [W.holds, true_and]; exact ⟨rfl, rfl⟩)
  · exact CallSpec.pureR (args := [.slice (some ⟨126, o, none⟩) l.length cap]) hη gs9 (rows1 hr F.1) (.cons (.slice (σ := sigR fun _ => r) _ _ (by simp)) .nil) (fun _ _ => .int _ _) (chk_can hη hmix ty cap F hL)
end TH
end Go.Ev

namespace Go.Ev
set_option linter.unusedVariables false
set_option linter.unusedSimpArgs false
open Go Go.Proofs Go.RowKit
variable {η : Nat → Value} {B : Bd}
namespace TH
open TB TE
/-- From any heap in which the list stands. -/
theorem listed (hη : OneCells η) {f : FuncId} {h : AH} {v : Value} {l : List HF} {s : List UInt8} (k : IsFlds h v l)
    (c0 : l = [] → CallSpec η Tryd.prog B f [.slice none 0 0, .string ⟨⟨s⟩⟩] (heapN 126) fun v1 h1 => v1 = .slice none 0 0 ∧ h1 = heapN 126)
    (c1 : ∀ {c : List Value} {o ty cap : Nat} {D : Value → AH → Prop}, FldsAt c o l → (get l s = [] → D (.slice none 0 0) (heapT [(ty, c)])) → (get l s ≠ [] → D (.slice (some ⟨127, 0, none⟩) (get l s).length (capU 1)) (withRow (heapT [(ty, c)]) 9 (strs (get l s)) false)) → CallSpec η Tryd.prog B f [.slice (some ⟨126, o, none⟩) l.length cap, .string ⟨⟨s⟩⟩] (heapT [(ty, c)]) D) :
    CallSpec η Tryd.prog B f [v, .string ⟨⟨s⟩⟩] h (valK [v, .string ⟨⟨s⟩⟩] h).sat := by
  show CallSpec η Tryd.prog B f [v, .string ⟨⟨s⟩⟩] h (KT.ite (getB (fieldsAt h v) s) (.ret (.slice none 0 0) h) (.ret (.slice (some ⟨h.next, 0, none⟩) (get (fieldsAt h v) s).length (capU 1)) (withRow h 9 (strs (get (fieldsAt h v) s)) false))).sat
  rw [k.at_]
  have hb : (getB l s = true ∧ get l s = []) ∨ (getB l s = false ∧ get l s ≠ []) := by
    unfold getB
    cases get l s with
    | nil => exact .inl ⟨rfl, rfl⟩
    | cons a b => exact .inr ⟨rfl, by simp⟩
  rcases k with ⟨rfl, rfl⟩ | ⟨r, o, ty, c, own, cap, rfl, hr, F⟩
  · refine (CallSpec.pure hη gs9 (fun _ _ => .cons (.slice0 _ _) (.cons (.string _) .nil)) (fun _ _ => .slice0 _ _) (c0 rfl) h).mono ?_
    rintro v1 h1 ⟨rfl, rfl⟩
    exact .inl ⟨rfl, rfl, rfl⟩
  · rcases hb with ⟨hb, he⟩ | ⟨hb, he⟩
    · refine (CallSpec.pureR (v := .slice none 0 0) (args := [.slice (some ⟨126, o, none⟩) l.length cap, .string ⟨⟨s⟩⟩]) hη gs9 (rows1 hr F.1) (.cons (.slice (σ := sigR fun _ => r) _ _ (by simp)) (.cons (.string _) .nil)) (fun _ _ => .slice0 _ _) (c1 F (fun _ => ⟨rfl, rfl⟩) fun h => absurd he h)).mono ?_
      rintro v1 h1 ⟨rfl, rfl⟩
      exact .inl ⟨hb, rfl, rfl⟩
    · refine (CallSpec.freshR (mk := fun r => .slice (some ⟨r, 0, none⟩) (get l s).length (capU 1)) (ty := 9) (c := strs (get l s)) (p := false) (args := [.slice (some ⟨126, o, none⟩) l.length cap, .string ⟨⟨s⟩⟩]) hη gs9 (rows1 hr F.1) (.cons (.slice (σ := sigR fun _ => r) _ _ (by simp)) (.cons (.string _) .nil)) (fun σ M r hr => .slice _ _ hr) (strs_all _) (c1 F (fun h => absurd h he) fun _ => ⟨rfl, rfl⟩)).mono ?_
      rintro v1 h1 ⟨rfl, rfl⟩
      exact .inr ⟨hb, rfl, rfl⟩
end TH
end Go.Ev

namespace Go.Ev
set_option linter.unusedVariables false
set_option linter.unusedSimpArgs false
open Go Go.Proofs Go.RowKit
variable {η : Nat → Value} {B : Bd}
theorem sig_id (r : Nat) : sigR (fun i => 126 + i) r = r := by
  unfold sigR
  split
  · show 126 + (r - 126) = r; omega
  · rfl
/-- A call that looks at rows, and whose result is bare: what else it made is forgotten. -/
theorem CallSpec.bareR {P : Program} (hη : OneCells η) {f : FuncId} {args args' : List Value} {l : List (TypeId × List Value)} {rn : Nat → Nat} {h : AH} {v : Value} (hN : P.globals.size < 126) (hr : RowsIn h l rn) (ha : L2 (RV (sigR rn) (126 + l.length) true) args args') (hv : ∀ σ M, RV σ M false v v) (hw : ∀ σ M, RV σ M true v v)
    (c : CallSpec η P B f args (heapT l) fun v1 h1 => v1 = v ∧ ∀ i x, l[i]? = some x → h1.objs.get (126 + i) = some (.cells x.1 x.2 false 0)) : CallSpec η P B f args' h fun v1 h1 => v1 = v ∧ h1 = h := by
  refine CallSpec.pureR hη hN hr ha hv (c.forget hη ?_)
  rintro v' h1 ⟨rfl, hk⟩ hn
  exact ⟨sigR fun i => 126 + i, _, heapT l, ⟨rfl, rfl⟩, emb_rows hN ⟨fun i x hx => ⟨(hr.1 i x hx).1, 0, hk _ _ hx⟩, fun i j _ _ e => by have e : 126 + i = 126 + j := e; omega⟩, Nat.le_refl _, fun r _ => sig_id r, hw _ _⟩
namespace TH
open TB TE
theorem isF (c : List Value) (o ty cap : Nat) {l : List HF} (F : FldsAt c o l) : IsFlds (heapT [(ty, c)]) (.slice (some ⟨126, o, none⟩) l.length cap) l :=
  .inr ⟨126, o, ty, c, 0, cap, rfl, rfl, F⟩
theorem chk_K (hη : OneCells η) (hmix : Tryd.prog.follows .mixedOrders = true) {h : AH} {v : Value} {l : List HF} (k : IsFlds h v l) (hL : Small l) :
    CallSpec η Tryd.prog B 16 [v] h (KT.ret (.int .i64 (chk l)) h).sat := by
  have := chk_ok (B := B) hη hmix k hL
  simp only [chkK, k.at_] at this
  exact this
end TH
end Go.Ev

namespace Go.Ev
set_option linter.unusedVariables false
set_option linter.unusedSimpArgs false
open Go Go.Proofs Go.RowKit
variable {η : Nat → Value} {B : Bd}
namespace TH
open TB TE
theorem hf_cons (p q : HF) (x y : List HF) : ((p :: x) == (q :: y)) = (sEq2 ⟨⟨p.1⟩⟩ ⟨⟨p.2⟩⟩ ⟨⟨q.1⟩⟩ ⟨⟨q.2⟩⟩ && (x == y)) := rfl
theorem equ_can (hη : OneCells η) (hmix : Tryd.prog.follows .mixedOrders = true) {X Y : List HF} {c c' : List Value} {o o' : Nat} (ty ty' cap cap' : Nat) (F : FldsAt c o X) (F' : FldsAt c' o' Y) (hX : X.length ≤ 100000) :
    CallSpec η Tryd.prog B 6 [.slice (some ⟨126, o, none⟩) X.length cap, .slice (some ⟨127, o', none⟩) Y.length cap'] (heapT [(ty, c), (ty', c')]) (fun v h => v = .bool (X == Y) ∧ h = heapT [(ty, c), (ty', c')]) := by
  have e0 : HEqu.H0 ty ty' o o' c c' X.length cap Y.length cap' = heapT [(ty, c), (ty', c')] := rfl
  rw [← e0]
  have nn := nn_bare F.1
  have nn' := nn_bare F'.1
  have cut := fun i0 => HEqu.cut0 (η := η) (B := B) (D := fun v h => v = .bool (X == Y) ∧ h = HEqu.H0 ty ty' o o' c c' X.length cap Y.length cap') hη hmix (reg0 hη hmix) ty ty' o o' c c' X.length cap Y.length cap' i0
  refine HEqu.enter hη hmix (reg0 hη hmix) _ _ _ _ _ _ _ _ _ _ ?_
  simp only [W.holds, true_and, and_true, decide_eq_true_eq, decide_eq_false_iff_not, bne_iff_ne, bne_eq_false_iff_eq, Bool.not_eq_true', Bool.not_eq_false', Nat.zero_add, true_implies] at cut ⊢
  have loop : ∀ (x y : List HF) (i : Nat), X.drop i = x → Y.drop i = y → X.length = Y.length → (X == Y) = (x == y) → RunD η Tryd.prog B 6 (HEqu.H0 ty ty' o o' c c' X.length cap Y.length cap') [0, 1, 5] (HEqu.S0 ty ty' o o' c c' X.length cap Y.length cap' (i : Int) fun _ => undef) (QF Tryd.prog 128 fun v h => v = .bool (X == Y) ∧ h = HEqu.H0 ty ty' o o' c c' X.length cap Y.length cap') := by
    intro x
    induction x with
    | nil =>
      intro y i hx hy hl he
      have h1 : X.length ≤ i := List.drop_eq_nil_iff.1 hx
      have h2 : y = [] := by rw [← hy]; exact List.drop_of_length_le (by omega)
      subst h2
      refine cut _ ⟨fun h => by omega, fun _ => ?_⟩
      rw [he]; rfl
    | cons a x ih =>
      intro y i hx hy hl he
      have hi : i < X.length := by
        rcases Nat.lt_or_ge i X.length with h | h
        · exact h
        · rw [List.drop_of_length_le h] at hx; cases hx
      obtain ⟨b, y', rfl⟩ : ∃ b y', y = b :: y' := by
        cases y with
        | nil => have := List.drop_eq_nil_iff.1 hy; omega
        | cons b y' => exact ⟨b, y', rfl⟩
      rw [List.drop_eq_getElem_cons hi] at hx
      rw [List.drop_eq_getElem_cons (by omega)] at hy
      injection hx with e1 e2
      injection hy with e3 e4
      obtain ⟨g0, g1, g2⟩ := fl_get F hi
      obtain ⟨k0, k1, k2⟩ := fl_get F' (i := i) (by omega)
      have c1 := cut (i : Int)
      rw [Int.toNat_natCast, g1, g2, k1, k2, wrap1 (by omega), e1, e3] at c1
      rw [e1] at g0
      rw [e3] at k0
      have hI : (0 : Int) ≤ (i : Int) ∧ (i : Int) < (X.length : Int) := ⟨by omega, by omega⟩
      have hJ : (0 : Int) ≤ (i : Int) ∧ (i : Int) < (Y.length : Int) := ⟨by omega, by omega⟩
      refine c1 ⟨fun _ => ⟨hI, fun _ => ⟨g0, fun _ => ⟨hJ, fun _ => ⟨k0, fun _ => ⟨fun hne => ⟨⟨nn, nn'⟩, fun _ => ?_⟩, fun heq => ⟨⟨nn, nn'⟩, fun _ => ?_⟩⟩⟩⟩⟩⟩, fun h => by omega⟩
      · rw [he, hf_cons, hne]; rfl
      · exact ih y' (i + 1) e2 e4 hl (by rw [he, hf_cons, heq]; simp)
  refine ⟨fun hne => ?_, fun heq => ?_⟩
  · have : (X == Y) = false := by
      rw [beq_eq_false_iff_ne]; intro e; apply hne; rw [e]
    rw [this]
  · exact loop X Y 0 rfl rfl (by omega) rfl
/-- From any heap in which the lists stand, in blocks of their own. -/
theorem equ_ok (hη : OneCells η) (hmix : Tryd.prog.follows .mixedOrders = true) {h : AH} {a b : Value} {X Y : List HF} (hX : X.length ≤ 100000) (ka : IsFlds h a X) (kb : IsFlds h b Y) (hd : ∀ x y n c, a = .slice (some x) n c → ∀ n' c', b = .slice (some y) n' c' → x.block ≠ y.block) :
    CallSpec η Tryd.prog B 6 [a, b] h (KT.ret (.bool (X == Y)) h).sat := by
  have gs := TB.gs9
  rcases ka with ⟨rfl, rfl⟩ | ⟨r1, p1, t1, c1, o1, k1, rfl, h1, F1⟩
  · rcases kb with ⟨rfl, rfl⟩ | ⟨r2, p2, t2, c2, o2, k2, rfl, h2, F2⟩
    · refine CallSpec.pure hη gs (fun _ _ => .cons (.slice0 _ _) (.cons (.slice0 _ _) .nil)) (fun _ _ => .bool _) ?_ h
      refine HEqu0.enter hη hmix (reg0 hη hmix) 0 ?_
      simp only [W.holds]
      exact HEqu0.cut0 hη hmix (reg0 hη hmix) 0 (by simp only [W.holds, true_and]; exact ⟨rfl, rfl⟩)
    · refine CallSpec.pureR (args := [.slice none 0 0, .slice (some ⟨126, p2, none⟩) Y.length k2]) hη gs (rows1 h2 F2.1) (.cons (.slice0 _ _) (.cons (.slice (σ := sigR fun _ => r2) _ _ (by simp)) .nil)) (fun _ _ => .bool _) ?_
      refine HEquL.enter hη hmix (reg0 hη hmix) t2 p2 c2 Y.length k2 ?_
      simp only [W.holds, true_and, bne_iff_ne, bne_eq_false_iff_eq]
      refine ⟨fun hne => ⟨?_, rfl⟩, fun heq => ?_⟩
      · cases Y with
        | nil => simp at hne
        | cons y Y => rfl
      · have hY : Y = [] := List.length_eq_zero_iff.1 (by omega)
        subst hY
        exact HEquL.cut0 hη hmix (reg0 hη hmix) t2 p2 c2 _ k2 (by simp only [W.holds, true_and]; exact ⟨rfl, rfl⟩)
  · rcases kb with ⟨rfl, rfl⟩ | ⟨r2, p2, t2, c2, o2, k2, rfl, h2, F2⟩
    · cases X with
      | nil =>
        refine CallSpec.pureR (args := [.slice (some ⟨126, p1, none⟩) 0 k1, .slice none 0 0]) hη gs (rows1 h1 F1.1) (.cons (.slice (σ := sigR fun _ => r1) _ _ (by simp)) (.cons (.slice0 _ _) .nil)) (fun _ _ => .bool _) ?_
        refine HEquE.enter hη hmix (reg0 hη hmix) t1 p1 c1 k1 ?_
        simp only [W.holds]
        exact HEquE.cut0 hη hmix (reg0 hη hmix) t1 p1 c1 k1 (by simp only [W.holds, true_and]; exact ⟨rfl, rfl⟩)
      | cons x X =>
        refine CallSpec.pureR (args := [.slice (some ⟨126, p1, none⟩) (X.length + 1) k1, .slice none 0 0]) hη gs (rows1 h1 F1.1) (.cons (.slice (σ := sigR fun _ => r1) _ _ (by simp)) (.cons (.slice0 _ _) .nil)) (fun _ _ => .bool _) ?_
        refine HEquR.enter hη hmix (reg0 hη hmix) t1 p1 c1 X.length k1 ?_
        simp only [W.holds, true_and]
        exact ⟨rfl, rfl⟩
    · have hne : r1 ≠ r2 := hd _ _ _ _ rfl _ _ rfl
      refine CallSpec.pureR (l := [(t1, c1), (t2, c2)]) (rn := fun i => if i = 0 then r1 else r2) (args := [.slice (some ⟨126, p1, none⟩) X.length k1, .slice (some ⟨127, p2, none⟩) Y.length k2]) hη gs ⟨fun i x hi => ?_, fun i j hi hj hij => ?_⟩ (.cons ?_ (.cons ?_ .nil)) (fun _ _ => .bool _) (equ_can hη hmix _ _ _ _ F1 F2 hX)
      · match i with
        | 0 => simp at hi; subst hi; exact ⟨F1.1, o1, h1⟩
        | 1 => simp at hi; subst hi; exact ⟨F2.1, o2, h2⟩
        | i + 2 => simp at hi
      · simp only [List.length_cons, List.length_nil] at hi hj
        simp only at hij
        by_cases h0 : i = 0 <;> by_cases h0' : j = 0
        · omega
        · rw [if_pos h0, if_neg h0'] at hij; exact absurd hij hne
        · rw [if_neg h0, if_pos h0'] at hij; exact absurd hij.symm hne
        · omega
      · exact .slice (σ := sigR fun i => if i = 0 then r1 else r2) _ _ (by simp)
      · exact .slice (σ := sigR fun i => if i = 0 then r1 else r2) _ _ (by simp)
end TH
end Go.Ev

namespace Go.Ev
set_option linter.unusedVariables false
set_option linter.unusedSimpArgs false
open Go Go.Proofs
open Go.Ev.T renaming node → nN, nil → nZ
open Go.Proofs.Tryd (prog)
set_option maxRecDepth 100000
set_option maxHeartbeats 2000000
namespace HRdE
set_option linter.unusedVariables false
noncomputable def bd : Code := (Go.Proofs.Tryd.f3.body).getD .skip
noncomputable def H0 (ty : Nat) (o : Nat) (c : List Value) (n : Nat) (cap : Nat) : AH := { objs := nN none nZ (nN none nZ (nN none nZ (nN none nZ (nN none nZ (nN none nZ (nN (some (AObj.cells ty c false 0)) nZ nZ)))))), next := 127 }
noncomputable def E (ty : Nat) (o : Nat) (c : List Value) (n : Nat) (cap : Nat) : AS := ⟨⟨3, 135, nN (some (Value.slice (some ⟨126, o, none⟩) n cap)) nZ nZ, [Item.code (codeAt bd [])], [], FrameMode.run, CallKind.normal, none⟩, [], ⟨nN none nZ (nN none nZ (nN none nZ (nN none nZ (nN none nZ (nN none nZ (nN (some (AObj.cells ty c false 0)) nZ nZ)))))), 127⟩⟩
theorem enter {η : Nat → Value} {B : Bd} (hη : OneCells η) (hmix : prog.follows .mixedOrders = true) (hreg : RegOk η prog B noNest) {D : Value → AH → Prop} (ty : Nat) (o : Nat) (c : List Value) (n : Nat) (cap : Nat) (h : W.holds η prog B 3 (fun kp_ st_ => RunD η prog B 3 (H0 ty o c n cap) kp_ st_ (QF prog 127 D)) D (.ite (decide ((↑n : Int) > (9000 : Int))) (.call 4 [] (⟨nN none nZ (nN none nZ (nN none nZ (nN none nZ (nN none nZ (nN none nZ (nN (some (AObj.cells ty c false 0)) nZ nZ)))))), 127⟩) (.ret (Value.bool true) (⟨nN none nZ (nN none nZ (nN none nZ (nN none nZ (nN none nZ (nN none nZ (nN (some (AObj.cells ty c false 0)) nZ nZ)))))), 127⟩)) (.done 3 (Value.bool true) (H0 ty o c n cap))) (.call 5 [Value.slice (some ⟨126, o, none⟩) n cap] (⟨nN none nZ (nN none nZ (nN none nZ (nN none nZ (nN none nZ (nN none nZ (nN (some (AObj.cells ty c false 0)) nZ nZ)))))), 127⟩) (.ret (Value.tuple ⟨[Value.slice none 0 0, Value.int IntKind.i64 0, Value.int IntKind.i64 (TH.parse (bytesIn c o n)).snd.snd]⟩) (⟨nN none nZ (nN none nZ (nN none nZ (nN none nZ (nN none nZ (nN none nZ (nN (some (AObj.cells ty c false 0)) nZ nZ)))))), 127⟩)) (.ite ((TH.parse (bytesIn c o n)).snd.snd != (0 : Int)) (.call 4 [] (⟨nN none nZ (nN none nZ (nN none nZ (nN none nZ (nN none nZ (nN none nZ (nN (some (AObj.cells ty c false 0)) nZ nZ)))))), 127⟩) (.ret (Value.bool true) (⟨nN none nZ (nN none nZ (nN none nZ (nN none nZ (nN none nZ (nN none nZ (nN (some (AObj.cells ty c false 0)) nZ nZ)))))), 127⟩)) (.done 3 (Value.bool true) (H0 ty o c n cap))) (.done 3 (Value.bool false) (H0 ty o c n cap)))))) : CallSpec η prog B 3 [Value.slice (some ⟨126, o, none⟩) n cap] (H0 ty o c n cap) D := by
  refine CallSpec.ofQF hη (CallSpec.enter (fr := (E ty o c n cap).fr) (by kernel_rfl) ?_)
  exact walk_okT (h0 := H0 ty o c n cap) hη hmix hreg (.steps 11 <| .bit 16 (.steps 3 <| .call kN <| .steps 3 <| .done none) (.steps 5 <| .call kN <| .steps 14 <| .bit 25 (.steps 11 <| .call kN <| .steps 4 <| .done none) (.steps 29 <| .done none))) (E ty o c n cap) (by kernel_rfl) h (by kernel_rfl)
end HRdE
namespace HRdZ
set_option linter.unusedVariables false
noncomputable def bd : Code := (Go.Proofs.Tryd.f3.body).getD .skip
noncomputable def H0 (ty : Nat) (o : Nat) (c : List Value) (n : Nat) (cap : Nat) : AH := { objs := nN none nZ (nN none nZ (nN none nZ (nN none nZ (nN none nZ (nN none nZ (nN (some (AObj.cells ty c false 0)) nZ nZ)))))), next := 127 }
noncomputable def E (ty : Nat) (o : Nat) (c : List Value) (n : Nat) (cap : Nat) : AS := ⟨⟨3, 135, nN (some (Value.slice (some ⟨126, o, none⟩) n cap)) nZ nZ, [Item.code (codeAt bd [])], [], FrameMode.run, CallKind.normal, none⟩, [], ⟨nN none nZ (nN none nZ (nN none nZ (nN none nZ (nN none nZ (nN none nZ (nN (some (AObj.cells ty c false 0)) nZ nZ)))))), 127⟩⟩
theorem enter {η : Nat → Value} {B : Bd} (hη : OneCells η) (hmix : prog.follows .mixedOrders = true) (hreg : RegOk η prog B noNest) {D : Value → AH → Prop} (ty : Nat) (o : Nat) (c : List Value) (n : Nat) (cap : Nat) (h : W.holds η prog B 3 (fun kp_ st_ => RunD η prog B 3 (H0 ty o c n cap) kp_ st_ (QF prog 127 D)) D (.ite (decide ((↑n : Int) > (9000 : Int))) (.call 4 [] (⟨nN none nZ (nN none nZ (nN none nZ (nN none nZ (nN none nZ (nN none nZ (nN (some (AObj.cells ty c false 0)) nZ nZ)))))), 127⟩) (.ret (Value.bool true) (⟨nN none nZ (nN none nZ (nN none nZ (nN none nZ (nN none nZ (nN none nZ (nN (some (AObj.cells ty c false 0)) nZ nZ)))))), 127⟩)) (.done 3 (Value.bool true) (H0 ty o c n cap))) (.call 5 [Value.slice (some ⟨126, o, none⟩) n cap] (⟨nN none nZ (nN none nZ (nN none nZ (nN none nZ (nN none nZ (nN none nZ (nN (some (AObj.cells ty c false 0)) nZ nZ)))))), 127⟩) (.ret (Value.tuple ⟨[Value.slice none 0 0, Value.int IntKind.i64 (↑(TH.parse (bytesIn c o n)).snd.fst : Int), Value.int IntKind.i64 0]⟩) (⟨nN none nZ (nN none nZ (nN none nZ (nN none nZ (nN none nZ (nN none nZ (nN (some (AObj.cells ty c false 0)) nZ nZ)))))), 127⟩)) (.ite (decide ((↑(TH.parse (bytesIn c o n)).snd.fst : Int) < (2 : Int))) (.done 3 (Value.bool false) (H0 ty o c n cap)) (.ite (decide ((↑(TH.parse (bytesIn c o n)).snd.fst : Int) > (↑n : Int))) (.done 3 (Value.bool false) (H0 ty o c n cap)) (.ite (decide ((↑(TH.parse (bytesIn c o n)).snd.fst : Int) > (8192 : Int))) (.done 3 (Value.bool false) (H0 ty o c n cap)) (.need ((0 : Int) ≤ (0 : Int) ∧ (0 : Int) ≤ (↑(TH.parse (bytesIn c o n)).snd.fst : Int) ∧ capP cap (cap = (9223372036854775809 : Nat) ∧ (1 : Nat) ≠ (0 : Nat) ∧ (↑(TH.parse (bytesIn c o n)).snd.fst : Int) ≤ (↑n : Int) ∧ ((0 : Int) < (↑n : Int) ∨ (0 : Int) = (0 : Int))) ((↑(TH.parse (bytesIn c o n)).snd.fst : Int) ≤ (↑cap : Int))) (.call 5 [Value.slice (some ⟨126, o + capN cap 0 (cutN cap 0 1), none⟩) ((↑(TH.parse (bytesIn c o n)).snd.fst : Int).toNat - 0) (capN cap cap (cap - 0))] (⟨nN none nZ (nN none nZ (nN none nZ (nN none nZ (nN none nZ (nN none nZ (nN (some (AObj.cells ty c false 0)) nZ nZ)))))), 127⟩) (.ret (Value.tuple ⟨[Value.slice none 0 0, Value.int IntKind.i64 (↑(TH.parse (bytesIn c (o + capN cap 0 (cutN cap 0 1)) ((↑(TH.parse (bytesIn c o n)).snd.fst : Int).toNat - 0))).snd.fst : Int), Value.int IntKind.i64 0]⟩) (⟨nN none nZ (nN none nZ (nN none nZ (nN none nZ (nN none nZ (nN none nZ (nN (some (AObj.cells ty c false 0)) nZ nZ)))))), 127⟩)) (.ite ((↑(TH.parse (bytesIn c (o + capN cap (0 : Nat) (cutN cap (0 : Nat) (1 : Nat))) ((↑(TH.parse (bytesIn c o n)).snd.fst : Int).toNat - (0 : Nat)))).snd.fst : Int) != (↑(TH.parse (bytesIn c o n)).snd.fst : Int)) (.done 3 (Value.bool false) (H0 ty o c n cap)) (.call 6 [Value.slice none 0 0, Value.slice none 0 0] (⟨nN none nZ (nN none nZ (nN none nZ (nN none nZ (nN none nZ (nN none nZ (nN (some (AObj.cells ty c false 0)) nZ nZ)))))), 127⟩) (.ret (Value.bool true) (⟨nN none nZ (nN none nZ (nN none nZ (nN none nZ (nN none nZ (nN none nZ (nN (some (AObj.cells ty c false 0)) nZ nZ)))))), 127⟩)) (.call 7 [Value.slice none 0 0] (⟨nN none nZ (nN none nZ (nN none nZ (nN none nZ (nN none nZ (nN none nZ (nN (some (AObj.cells ty c false 0)) nZ nZ)))))), 127⟩) (.ret (Value.tuple ⟨[Value.string ⟨⟨TH.prS []⟩⟩, Value.int IntKind.i64 (TH.chk [])]⟩) (⟨nN none nZ (nN none nZ (nN none nZ (nN none nZ (nN none nZ (nN none nZ (nN (some (AObj.cells ty c false 0)) nZ nZ)))))), 127⟩)) (.call 5 [Value.slice (some ⟨127, 0, none⟩) 2 9223372036854775809] (⟨nN none (nN none (nN none (nN none (nN none (nN none (nN none (nN (some (AObj.cells 5 [Value.int IntKind.u8 13, Value.int IntKind.u8 10] false 2)) nZ nZ) nZ) nZ) nZ) nZ) nZ) nZ) (nN none nZ (nN none nZ (nN none nZ (nN none nZ (nN none nZ (nN (some (AObj.cells ty c false 0)) nZ nZ)))))), 128⟩) (.ret (Value.tuple ⟨[Value.slice none 0 0, Value.int IntKind.i64 2, Value.int IntKind.i64 0]⟩) (⟨nN none (nN none (nN none (nN none (nN none (nN none (nN none (nN (some (AObj.cells 5 [Value.int IntKind.u8 13, Value.int IntKind.u8 10] false 2)) nZ nZ) nZ) nZ) nZ) nZ) nZ) nZ) (nN none nZ (nN none nZ (nN none nZ (nN none nZ (nN none nZ (nN (some (AObj.cells ty c false 0)) nZ nZ)))))), 128⟩)) (.call 6 [Value.slice none 0 0, Value.slice none 0 0] (⟨nN none (nN none (nN none (nN none (nN none (nN none (nN none (nN (some (AObj.cells 5 [Value.int IntKind.u8 13, Value.int IntKind.u8 10] false 2)) nZ nZ) nZ) nZ) nZ) nZ) nZ) nZ) (nN none nZ (nN none nZ (nN none nZ (nN none nZ (nN none nZ (nN (some (AObj.cells ty c false 0)) nZ nZ)))))), 128⟩) (.ret (Value.bool true) (⟨nN none (nN none (nN none (nN none (nN none (nN none (nN none (nN (some (AObj.cells 5 [Value.int IntKind.u8 13, Value.int IntKind.u8 10] false 2)) nZ nZ) nZ) nZ) nZ) nZ) nZ) nZ) (nN none nZ (nN none nZ (nN none nZ (nN none nZ (nN none nZ (nN (some (AObj.cells ty c false 0)) nZ nZ)))))), 128⟩)) (.call 4 [] (⟨nN none (nN none (nN none (nN none (nN none (nN none (nN none (nN (some (AObj.cells 5 [Value.int IntKind.u8 13, Value.int IntKind.u8 10] false 2)) nZ nZ) nZ) nZ) nZ) nZ) nZ) nZ) (nN none nZ (nN none nZ (nN none nZ (nN none nZ (nN none nZ (nN (some (AObj.cells ty c false 0)) nZ nZ)))))), 128⟩) (.ret (Value.bool true) (⟨nN none (nN none (nN none (nN none (nN none (nN none (nN none (nN (some (AObj.cells 5 [Value.int IntKind.u8 13, Value.int IntKind.u8 10] false 2)) nZ nZ) nZ) nZ) nZ) nZ) nZ) nZ) (nN none nZ (nN none nZ (nN none nZ (nN none nZ (nN none nZ (nN (some (AObj.cells ty c false 0)) nZ nZ)))))), 128⟩)) (.need (NoNames c ∧ True) (.done 3 (Value.bool true) (H0 ty o c n cap))))))))))))))))) : CallSpec η prog B 3 [Value.slice (some ⟨126, o, none⟩) n cap] (H0 ty o c n cap) D := by
  refine CallSpec.ofQF hη (CallSpec.enter (fr := (E ty o c n cap).fr) (by kernel_rfl) ?_)
  exact walk_okT (h0 := H0 ty o c n cap) hη hmix hreg (.steps 11 <| .bit 16 (.steps 3 <| .call kN <| .steps 3 <| .done none) (.steps 5 <| .call kN <| .steps 22 <| .bit 38 (.steps 21 <| .done none) (.steps 6 <| .bit 44 (.steps 15 <| .done none) (.steps 4 <| .bit 48 (.steps 11 <| .done none) (.steps 11 <| .op <| .call kN <| .steps 19 <| .bit 68 (.steps 12 <| .done none) (.steps 2 <| .call kN <| .steps 8 <| .call kN <| .steps 18 <| .call kN <| .steps 25 <| .call kN <| .steps 2 <| .call kN <| .steps 4 <| .done (some ⟨127, [], [(126, (126, true))]⟩))))))) (E ty o c n cap) (by kernel_rfl) h (by kernel_rfl)
end HRdZ
namespace HRdR
set_option linter.unusedVariables false
noncomputable def bd : Code := (Go.Proofs.Tryd.f3.body).getD .skip
noncomputable def H0 (ty : Nat) (o : Nat) (c : List Value) (n : Nat) (cap : Nat) : AH := { objs := nN none nZ (nN none nZ (nN none nZ (nN none nZ (nN none nZ (nN none nZ (nN (some (AObj.cells ty c false 0)) nZ nZ)))))), next := 127 }
noncomputable def E (ty : Nat) (o : Nat) (c : List Value) (n : Nat) (cap : Nat) : AS := ⟨⟨3, 135, nN (some (Value.slice (some ⟨126, o, none⟩) n cap)) nZ nZ, [Item.code (codeAt bd [])], [], FrameMode.run, CallKind.normal, none⟩, [], ⟨nN none nZ (nN none nZ (nN none nZ (nN none nZ (nN none nZ (nN none nZ (nN (some (AObj.cells ty c false 0)) nZ nZ)))))), 127⟩⟩
noncomputable def S0 (ty : Nat) (o : Nat) (c : List Value) (n : Nat) (cap : Nat) (i0 : Int) (i1 : Int) (d : Nat → Value) : AS := ⟨⟨3, 135, nN (some (d 0)) (nN (some (d 1)) (nN (some (Value.slice (some ⟨127, 0, none⟩) (TH.parse (bytesIn c o n)).fst.length 9223372036854775810)) (nN (some (d 7)) (nN (some (d 15)) (nN (some (d 31)) (nN (some (d 63)) (nN (some (d 127)) nZ nZ) nZ) (nN (some (d 95)) nZ nZ)) (nN (some (d 47)) (nN (some (d 79)) nZ nZ) (nN (some (d 111)) nZ nZ))) (nN (some (d 23)) (nN (some (d 39)) (nN (some (d 71)) nZ nZ) (nN (some (d 103)) nZ nZ)) (nN (some (d 55)) (nN (some (d 87)) nZ nZ) (nN (some (d 119)) nZ nZ)))) (nN (some (Value.int IntKind.i64 i0)) (nN (some (d 19)) (nN (some (d 35)) (nN (some (d 67)) (nN (some (d 131)) nZ nZ) nZ) (nN (some (d 99)) nZ nZ)) (nN (some (d 51)) (nN (some (d 83)) nZ nZ) (nN (some (d 115)) nZ nZ))) (nN (some (d 27)) (nN (some (d 43)) (nN (some (d 75)) nZ nZ) (nN (some (d 107)) nZ nZ)) (nN (some (d 59)) (nN (some (d 91)) nZ nZ) (nN (some (d 123)) nZ nZ))))) (nN (some (d 5)) (nN (some (d 9)) (nN (some (d 17)) (nN (some (d 33)) (nN (some (d 65)) (nN (some (d 129)) nZ nZ) nZ) (nN (some (d 97)) nZ nZ)) (nN (some (d 49)) (nN (some (d 81)) nZ nZ) (nN (some (d 113)) nZ nZ))) (nN (some (d 25)) (nN (some (d 41)) (nN (some (d 73)) nZ nZ) (nN (some (d 105)) nZ nZ)) (nN (some (d 57)) (nN (some (d 89)) nZ nZ) (nN (some (d 121)) nZ nZ)))) (nN (some (d 13)) (nN (some (d 21)) (nN (some (d 37)) (nN (some (d 69)) (nN (some (d 133)) nZ nZ) nZ) (nN (some (d 101)) nZ nZ)) (nN (some (d 53)) (nN (some (d 85)) nZ nZ) (nN (some (d 117)) nZ nZ))) (nN (some (d 29)) (nN (some (d 45)) (nN (some (d 77)) nZ nZ) (nN (some (d 109)) nZ nZ)) (nN (some (d 61)) (nN (some (d 93)) nZ nZ) (nN (some (d 125)) nZ nZ)))))) (nN (some (d 2)) (nN (some (d 4)) (nN (some (d 8)) (nN (some (d 16)) (nN (some (d 32)) (nN (some (d 64)) (nN (some (d 128)) nZ nZ) nZ) (nN (some (d 96)) nZ nZ)) (nN (some (d 48)) (nN (some (d 80)) nZ nZ) (nN (some (d 112)) nZ nZ))) (nN (some (d 24)) (nN (some (d 40)) (nN (some (d 72)) nZ nZ) (nN (some (d 104)) nZ nZ)) (nN (some (d 56)) (nN (some (d 88)) nZ nZ) (nN (some (d 120)) nZ nZ)))) (nN (some (d 12)) (nN (some (d 20)) (nN (some (d 36)) (nN (some (d 68)) (nN (some (d 132)) nZ nZ) nZ) (nN (some (d 100)) nZ nZ)) (nN (some (d 52)) (nN (some (d 84)) nZ nZ) (nN (some (d 116)) nZ nZ))) (nN (some (d 28)) (nN (some (d 44)) (nN (some (d 76)) nZ nZ) (nN (some (d 108)) nZ nZ)) (nN (some (d 60)) (nN (some (d 92)) nZ nZ) (nN (some (d 124)) nZ nZ))))) (nN (some (d 6)) (nN (some (Value.int IntKind.i64 i1)) (nN (some (d 18)) (nN (some (d 34)) (nN (some (d 66)) (nN (some (d 130)) nZ nZ) nZ) (nN (some (d 98)) nZ nZ)) (nN (some (d 50)) (nN (some (d 82)) nZ nZ) (nN (some (d 114)) nZ nZ))) (nN (some (d 26)) (nN (some (d 42)) (nN (some (d 74)) nZ nZ) (nN (some (d 106)) nZ nZ)) (nN (some (d 58)) (nN (some (d 90)) nZ nZ) (nN (some (d 122)) nZ nZ)))) (nN (some (d 14)) (nN (some (d 22)) (nN (some (d 38)) (nN (some (d 70)) (nN (some (d 134)) nZ nZ) nZ) (nN (some (d 102)) nZ nZ)) (nN (some (d 54)) (nN (some (d 86)) nZ nZ) (nN (some (d 118)) nZ nZ))) (nN (some (d 30)) (nN (some (d 46)) (nN (some (d 78)) nZ nZ) (nN (some (d 110)) nZ nZ)) (nN (some (d 62)) (nN (some (d 94)) nZ nZ) (nN (some (d 126)) nZ nZ)))))), [Item.code (codeAt bd [1, 1, 1, 1, 1, 1, 1, 1, 0, 1, 0, 1, 0, 1, 0, 0]), Item.inLoop (codeAt bd [1, 1, 1, 1, 1, 1, 1, 1, 0, 1, 0, 1, 0, 1, 0, 0]), Item.inBlock 0, Item.code (codeAt bd [1, 1, 1, 1, 1, 1, 1, 1, 0, 1, 0, 1, 1]), Item.code (codeAt bd [1, 1, 1, 1, 1, 1, 1, 1, 1])], [], FrameMode.run, CallKind.normal, none⟩, [], ⟨nN none (nN none (nN none (nN none (nN none (nN none (nN none (nN (some (AObj.cells 32 (flds (TH.parse (bytesIn c o n)).fst) false 2)) nZ nZ) nZ) nZ) nZ) nZ) nZ) nZ) (nN none nZ (nN none nZ (nN none nZ (nN none nZ (nN none nZ (nN (some (AObj.cells ty c false 0)) nZ nZ)))))), 128⟩⟩
theorem enter {η : Nat → Value} {B : Bd} (hη : OneCells η) (hmix : prog.follows .mixedOrders = true) (hreg : RegOk η prog B noNest) {D : Value → AH → Prop} (ty : Nat) (o : Nat) (c : List Value) (n : Nat) (cap : Nat) (h : W.holds η prog B 3 (fun kp_ st_ => RunD η prog B 3 (H0 ty o c n cap) kp_ st_ (QF prog 127 D)) D (.ite (decide ((↑n : Int) > (9000 : Int))) (.call 4 [] (⟨nN none nZ (nN none nZ (nN none nZ (nN none nZ (nN none nZ (nN none nZ (nN (some (AObj.cells ty c false 0)) nZ nZ)))))), 127⟩) (.ret (Value.bool true) (⟨nN none nZ (nN none nZ (nN none nZ (nN none nZ (nN none nZ (nN none nZ (nN (some (AObj.cells ty c false 0)) nZ nZ)))))), 127⟩)) (.done 3 (Value.bool true) (H0 ty o c n cap))) (.call 5 [Value.slice (some ⟨126, o, none⟩) n cap] (⟨nN none nZ (nN none nZ (nN none nZ (nN none nZ (nN none nZ (nN none nZ (nN (some (AObj.cells ty c false 0)) nZ nZ)))))), 127⟩) (.ret (Value.tuple ⟨[Value.slice (some ⟨127, 0, none⟩) (TH.parse (bytesIn c o n)).fst.length 9223372036854775810, Value.int IntKind.i64 (↑(TH.parse (bytesIn c o n)).snd.fst : Int), Value.int IntKind.i64 0]⟩) (⟨nN none (nN none (nN none (nN none (nN none (nN none (nN none (nN (some (AObj.cells 32 (flds (TH.parse (bytesIn c o n)).fst) false 2)) nZ nZ) nZ) nZ) nZ) nZ) nZ) nZ) (nN none nZ (nN none nZ (nN none nZ (nN none nZ (nN none nZ (nN (some (AObj.cells ty c false 0)) nZ nZ)))))), 128⟩)) (.ite (decide ((↑(TH.parse (bytesIn c o n)).snd.fst : Int) < (2 : Int))) (.need (NoNames c ∧ True) (.done 3 (Value.bool false) (H0 ty o c n cap))) (.ite (decide ((↑(TH.parse (bytesIn c o n)).snd.fst : Int) > (↑n : Int))) (.need (NoNames c ∧ True) (.done 3 (Value.bool false) (H0 ty o c n cap))) (.ite (decide ((↑(TH.parse (bytesIn c o n)).snd.fst : Int) > (8192 : Int))) (.need (NoNames c ∧ True) (.done 3 (Value.bool false) (H0 ty o c n cap))) (.ite (decide ((↑(TH.parse (bytesIn c o n)).fst.length : Int) > (100 : Int))) (.need (NoNames c ∧ True) (.done 3 (Value.bool false) (H0 ty o c n cap))) (.need ((0 : Int) ≤ (0 : Int) ∧ (0 : Int) ≤ (↑(TH.parse (bytesIn c o n)).snd.fst : Int) ∧ capP cap (cap = (9223372036854775809 : Nat) ∧ (1 : Nat) ≠ (0 : Nat) ∧ (↑(TH.parse (bytesIn c o n)).snd.fst : Int) ≤ (↑n : Int) ∧ ((0 : Int) < (↑n : Int) ∨ (0 : Int) = (0 : Int))) ((↑(TH.parse (bytesIn c o n)).snd.fst : Int) ≤ (↑cap : Int))) (.call 5 [Value.slice (some ⟨126, o + capN cap 0 (cutN cap 0 1), none⟩) ((↑(TH.parse (bytesIn c o n)).snd.fst : Int).toNat - 0) (capN cap cap (cap - 0))] (⟨nN none (nN none (nN none (nN none (nN none (nN none (nN none (nN (some (AObj.cells 32 (flds (TH.parse (bytesIn c o n)).fst) false 2)) nZ nZ) nZ) nZ) nZ) nZ) nZ) nZ) (nN none nZ (nN none nZ (nN none nZ (nN none nZ (nN none nZ (nN (some (AObj.cells ty c false 0)) nZ nZ)))))), 128⟩) (.ret (Value.tuple ⟨[Value.slice (some ⟨128, 0, none⟩) (TH.parse (bytesIn c (o + capN cap 0 (cutN cap 0 1)) ((↑(TH.parse (bytesIn c o n)).snd.fst : Int).toNat - 0))).fst.length 9223372036854775810, Value.int IntKind.i64 (↑(TH.parse (bytesIn c (o + capN cap 0 (cutN cap 0 1)) ((↑(TH.parse (bytesIn c o n)).snd.fst : Int).toNat - 0))).snd.fst : Int), Value.int IntKind.i64 0]⟩) (⟨nN none (nN none (nN none (nN none (nN none (nN none (nN none (nN (some (AObj.cells 32 (flds (TH.parse (bytesIn c o n)).fst) false 2)) nZ nZ) nZ) nZ) nZ) nZ) nZ) nZ) (nN none (nN none (nN none (nN none (nN none (nN none (nN (some (AObj.cells 32 (flds (TH.parse (bytesIn c (o + capN cap 0 (cutN cap 0 1)) ((↑(TH.parse (bytesIn c o n)).snd.fst : Int).toNat - 0))).fst) false 2)) nZ nZ) nZ) nZ) nZ) nZ) nZ) (nN none nZ (nN none nZ (nN none nZ (nN none nZ (nN (some (AObj.cells ty c false 0)) nZ nZ)))))), 129⟩)) (.ite ((↑(TH.parse (bytesIn c (o + capN cap (0 : Nat) (cutN cap (0 : Nat) (1 : Nat))) ((↑(TH.parse (bytesIn c o n)).snd.fst : Int).toNat - (0 : Nat)))).snd.fst : Int) != (↑(TH.parse (bytesIn c o n)).snd.fst : Int)) (.need (NoNames c ∧ True) (.done 3 (Value.bool false) (H0 ty o c n cap))) (.call 6 [Value.slice (some ⟨128, 0, none⟩) (TH.parse (bytesIn c (o + capN cap 0 (cutN cap 0 1)) ((↑(TH.parse (bytesIn c o n)).snd.fst : Int).toNat - 0))).fst.length 9223372036854775810, Value.slice (some ⟨127, 0, none⟩) (TH.parse (bytesIn c o n)).fst.length 9223372036854775810] (⟨nN none (nN none (nN none (nN none (nN none (nN none (nN none (nN (some (AObj.cells 32 (flds (TH.parse (bytesIn c o n)).fst) false 2)) nZ nZ) nZ) nZ) nZ) nZ) nZ) nZ) (nN none (nN none (nN none (nN none (nN none (nN none (nN (some (AObj.cells 32 (flds (TH.parse (bytesIn c (o + capN cap 0 (cutN cap 0 1)) ((↑(TH.parse (bytesIn c o n)).snd.fst : Int).toNat - 0))).fst) false 2)) nZ nZ) nZ) nZ) nZ) nZ) nZ) (nN none nZ (nN none nZ (nN none nZ (nN none nZ (nN (some (AObj.cells ty c false 0)) nZ nZ)))))), 129⟩) (.ret (Value.bool (TH.fieldsAt ⟨nN none (nN none (nN none (nN none (nN none (nN none (nN none (nN (some (AObj.cells 32 (flds (TH.parse (bytesIn c o n)).fst) false 2)) nZ nZ) nZ) nZ) nZ) nZ) nZ) nZ) (nN none (nN none (nN none (nN none (nN none (nN none (nN (some (AObj.cells 32 (flds (TH.parse (bytesIn c (o + capN cap 0 (cutN cap 0 1)) ((↑(TH.parse (bytesIn c o n)).snd.fst : Int).toNat - 0))).fst) false 2)) nZ nZ) nZ) nZ) nZ) nZ) nZ) (nN none nZ (nN none nZ (nN none nZ (nN none nZ (nN (some (AObj.cells ty c false 0)) nZ nZ)))))), 129⟩ (Value.slice (some ⟨128, 0, none⟩) (TH.parse (bytesIn c (o + capN cap 0 (cutN cap 0 1)) ((↑(TH.parse (bytesIn c o n)).snd.fst : Int).toNat - 0))).fst.length 9223372036854775810) == TH.fieldsAt ⟨nN none (nN none (nN none (nN none (nN none (nN none (nN none (nN (some (AObj.cells 32 (flds (TH.parse (bytesIn c o n)).fst) false 2)) nZ nZ) nZ) nZ) nZ) nZ) nZ) nZ) (nN none (nN none (nN none (nN none (nN none (nN none (nN (some (AObj.cells 32 (flds (TH.parse (bytesIn c (o + capN cap 0 (cutN cap 0 1)) ((↑(TH.parse (bytesIn c o n)).snd.fst : Int).toNat - 0))).fst) false 2)) nZ nZ) nZ) nZ) nZ) nZ) nZ) (nN none nZ (nN none nZ (nN none nZ (nN none nZ (nN (some (AObj.cells ty c false 0)) nZ nZ)))))), 129⟩ (Value.slice (some ⟨127, 0, none⟩) (TH.parse (bytesIn c o n)).fst.length 9223372036854775810))) (⟨nN none (nN none (nN none (nN none (nN none (nN none (nN none (nN (some (AObj.cells 32 (flds (TH.parse (bytesIn c o n)).fst) false 2)) nZ nZ) nZ) nZ) nZ) nZ) nZ) nZ) (nN none (nN none (nN none (nN none (nN none (nN none (nN (some (AObj.cells 32 (flds (TH.parse (bytesIn c (o + capN cap 0 (cutN cap 0 1)) ((↑(TH.parse (bytesIn c o n)).snd.fst : Int).toNat - 0))).fst) false 2)) nZ nZ) nZ) nZ) nZ) nZ) nZ) (nN none nZ (nN none nZ (nN none nZ (nN none nZ (nN (some (AObj.cells ty c false 0)) nZ nZ)))))), 129⟩)) (.ite (!TH.fieldsAt ⟨nN none (nN none (nN none (nN none (nN none (nN none (nN none (nN (some (AObj.cells (32 : Nat) (flds (TH.parse (bytesIn c o n)).fst) false (2 : Nat))) nZ nZ) nZ) nZ) nZ) nZ) nZ) nZ) (nN none (nN none (nN none (nN none (nN none (nN none (nN (some (AObj.cells (32 : Nat) (flds (TH.parse (bytesIn c (o + capN cap (0 : Nat) (cutN cap (0 : Nat) (1 : Nat))) ((↑(TH.parse (bytesIn c o n)).snd.fst : Int).toNat - (0 : Nat)))).fst) false (2 : Nat))) nZ nZ) nZ) nZ) nZ) nZ) nZ) (nN none nZ (nN none nZ (nN none nZ (nN none nZ (nN (some (AObj.cells ty c false (0 : Nat))) nZ nZ)))))), (129 : Nat)⟩ (Value.slice (some ⟨(128 : Nat), (0 : Nat), none⟩) (TH.parse (bytesIn c (o + capN cap (0 : Nat) (cutN cap (0 : Nat) (1 : Nat))) ((↑(TH.parse (bytesIn c o n)).snd.fst : Int).toNat - (0 : Nat)))).fst.length (9223372036854775810 : Nat)) == TH.fieldsAt ⟨nN none (nN none (nN none (nN none (nN none (nN none (nN none (nN (some (AObj.cells (32 : Nat) (flds (TH.parse (bytesIn c o n)).fst) false (2 : Nat))) nZ nZ) nZ) nZ) nZ) nZ) nZ) nZ) (nN none (nN none (nN none (nN none (nN none (nN none (nN (some (AObj.cells (32 : Nat) (flds (TH.parse (bytesIn c (o + capN cap (0 : Nat) (cutN cap (0 : Nat) (1 : Nat))) ((↑(TH.parse (bytesIn c o n)).snd.fst : Int).toNat - (0 : Nat)))).fst) false (2 : Nat))) nZ nZ) nZ) nZ) nZ) nZ) nZ) (nN none nZ (nN none nZ (nN none nZ (nN none nZ (nN (some (AObj.cells ty c false (0 : Nat))) nZ nZ)))))), (129 : Nat)⟩ (Value.slice (some ⟨(127 : Nat), (0 : Nat), none⟩) (TH.parse (bytesIn c o n)).fst.length (9223372036854775810 : Nat))) (.need (NoNames c ∧ True) (.done 3 (Value.bool false) (H0 ty o c n cap))) (.call 7 [Value.slice (some ⟨127, 0, none⟩) (TH.parse (bytesIn c o n)).fst.length 9223372036854775810] (⟨nN none (nN none (nN none (nN none (nN none (nN none (nN none (nN (some (AObj.cells 32 (flds (TH.parse (bytesIn c o n)).fst) false 2)) nZ nZ) nZ) nZ) nZ) nZ) nZ) nZ) (nN none (nN none (nN none (nN none (nN none (nN none (nN (some (AObj.cells 32 (flds (TH.parse (bytesIn c (o + capN cap 0 (cutN cap 0 1)) ((↑(TH.parse (bytesIn c o n)).snd.fst : Int).toNat - 0))).fst) false 2)) nZ nZ) nZ) nZ) nZ) nZ) nZ) (nN none nZ (nN none nZ (nN none nZ (nN none nZ (nN (some (AObj.cells ty c false 0)) nZ nZ)))))), 129⟩) (.ret (Value.tuple ⟨[Value.string ⟨⟨TH.prS (TH.fieldsAt ⟨nN none (nN none (nN none (nN none (nN none (nN none (nN none (nN (some (AObj.cells 32 (flds (TH.parse (bytesIn c o n)).fst) false 2)) nZ nZ) nZ) nZ) nZ) nZ) nZ) nZ) (nN none (nN none (nN none (nN none (nN none (nN none (nN (some (AObj.cells 32 (flds (TH.parse (bytesIn c (o + capN cap 0 (cutN cap 0 1)) ((↑(TH.parse (bytesIn c o n)).snd.fst : Int).toNat - 0))).fst) false 2)) nZ nZ) nZ) nZ) nZ) nZ) nZ) (nN none nZ (nN none nZ (nN none nZ (nN none nZ (nN (some (AObj.cells ty c false 0)) nZ nZ)))))), 129⟩ (Value.slice (some ⟨127, 0, none⟩) (TH.parse (bytesIn c o n)).fst.length 9223372036854775810))⟩⟩, Value.int IntKind.i64 (TH.chk (TH.fieldsAt ⟨nN none (nN none (nN none (nN none (nN none (nN none (nN none (nN (some (AObj.cells 32 (flds (TH.parse (bytesIn c o n)).fst) false 2)) nZ nZ) nZ) nZ) nZ) nZ) nZ) nZ) (nN none (nN none (nN none (nN none (nN none (nN none (nN (some (AObj.cells 32 (flds (TH.parse (bytesIn c (o + capN cap 0 (cutN cap 0 1)) ((↑(TH.parse (bytesIn c o n)).snd.fst : Int).toNat - 0))).fst) false 2)) nZ nZ) nZ) nZ) nZ) nZ) nZ) (nN none nZ (nN none nZ (nN none nZ (nN none nZ (nN (some (AObj.cells ty c false 0)) nZ nZ)))))), 129⟩ (Value.slice (some ⟨127, 0, none⟩) (TH.parse (bytesIn c o n)).fst.length 9223372036854775810)))]⟩) (⟨nN none (nN none (nN none (nN none (nN none (nN none (nN none (nN (some (AObj.cells 32 (flds (TH.parse (bytesIn c o n)).fst) false 2)) nZ nZ) nZ) nZ) nZ) nZ) nZ) nZ) (nN none (nN none (nN none (nN none (nN none (nN none (nN (some (AObj.cells 32 (flds (TH.parse (bytesIn c (o + capN cap 0 (cutN cap 0 1)) ((↑(TH.parse (bytesIn c o n)).snd.fst : Int).toNat - 0))).fst) false 2)) nZ nZ) nZ) nZ) nZ) nZ) nZ) (nN none nZ (nN none nZ (nN none nZ (nN none nZ (nN (some (AObj.cells ty c false 0)) nZ nZ)))))), 129⟩)) (.ite (TH.chk (TH.fieldsAt ⟨nN none (nN none (nN none (nN none (nN none (nN none (nN none (nN (some (AObj.cells (32 : Nat) (flds (TH.parse (bytesIn c o n)).fst) false (2 : Nat))) nZ nZ) nZ) nZ) nZ) nZ) nZ) nZ) (nN none (nN none (nN none (nN none (nN none (nN none (nN (some (AObj.cells (32 : Nat) (flds (TH.parse (bytesIn c (o + capN cap (0 : Nat) (cutN cap (0 : Nat) (1 : Nat))) ((↑(TH.parse (bytesIn c o n)).snd.fst : Int).toNat - (0 : Nat)))).fst) false (2 : Nat))) nZ nZ) nZ) nZ) nZ) nZ) nZ) (nN none nZ (nN none nZ (nN none nZ (nN none nZ (nN (some (AObj.cells ty c false (0 : Nat))) nZ nZ)))))), (129 : Nat)⟩ (Value.slice (some ⟨(127 : Nat), (0 : Nat), none⟩) (TH.parse (bytesIn c o n)).fst.length (9223372036854775810 : Nat))) == (3 : Int)) (.need (NoNames c ∧ NoNames (flds (TH.parse (bytesIn c o n)).fst) ∧ True) (.stop [3, 10, 11] (S0 ty o c n cap (0) (2) (fun _ => undef)))) (.need ((TH.prS (TH.fieldsAt ⟨nN none (nN none (nN none (nN none (nN none (nN none (nN none (nN (some (AObj.cells (32 : Nat) (flds (TH.parse (bytesIn c o n)).fst) false (2 : Nat))) nZ nZ) nZ) nZ) nZ) nZ) nZ) nZ) (nN none (nN none (nN none (nN none (nN none (nN none (nN (some (AObj.cells (32 : Nat) (flds (TH.parse (bytesIn c (o + capN cap (0 : Nat) (cutN cap (0 : Nat) (1 : Nat))) ((↑(TH.parse (bytesIn c o n)).snd.fst : Int).toNat - (0 : Nat)))).fst) false (2 : Nat))) nZ nZ) nZ) nZ) nZ) nZ) nZ) (nN none nZ (nN none nZ (nN none nZ (nN none nZ (nN (some (AObj.cells ty c false (0 : Nat))) nZ nZ)))))), (129 : Nat)⟩ (Value.slice (some ⟨(127 : Nat), (0 : Nat), none⟩) (TH.parse (bytesIn c o n)).fst.length (9223372036854775810 : Nat)))).length ≤ (1000000 : Nat)) (.call 5 [Value.slice (some ⟨129, 0, none⟩) (TH.prS (TH.fieldsAt ⟨nN none (nN none (nN none (nN none (nN none (nN none (nN none (nN (some (AObj.cells 32 (flds (TH.parse (bytesIn c o n)).fst) false 2)) nZ nZ) nZ) nZ) nZ) nZ) nZ) nZ) (nN none (nN none (nN none (nN none (nN none (nN none (nN (some (AObj.cells 32 (flds (TH.parse (bytesIn c (o + capN cap 0 (cutN cap 0 1)) ((↑(TH.parse (bytesIn c o n)).snd.fst : Int).toNat - 0))).fst) false 2)) nZ nZ) nZ) nZ) nZ) nZ) nZ) (nN none nZ (nN none nZ (nN none nZ (nN none nZ (nN (some (AObj.cells ty c false 0)) nZ nZ)))))), 129⟩ (Value.slice (some ⟨127, 0, none⟩) (TH.parse (bytesIn c o n)).fst.length 9223372036854775810))).length 9223372036854775809] (⟨nN none (nN none (nN none (nN none (nN none (nN none (nN none (nN (some (AObj.cells 32 (flds (TH.parse (bytesIn c o n)).fst) false 2)) nZ nZ) nZ) nZ) nZ) nZ) nZ) (nN none (nN none (nN none (nN none (nN none (nN (some (AObj.cells 5 (bytesV (TH.prS (TH.fieldsAt ⟨nN none (nN none (nN none (nN none (nN none (nN none (nN none (nN (some (AObj.cells 32 (flds (TH.parse (bytesIn c o n)).fst) false 2)) nZ nZ) nZ) nZ) nZ) nZ) nZ) nZ) (nN none (nN none (nN none (nN none (nN none (nN none (nN (some (AObj.cells 32 (flds (TH.parse (bytesIn c (o + capN cap 0 (cutN cap 0 1)) ((↑(TH.parse (bytesIn c o n)).snd.fst : Int).toNat - 0))).fst) false 2)) nZ nZ) nZ) nZ) nZ) nZ) nZ) (nN none nZ (nN none nZ (nN none nZ (nN none nZ (nN (some (AObj.cells ty c false 0)) nZ nZ)))))), 129⟩ (Value.slice (some ⟨127, 0, none⟩) (TH.parse (bytesIn c o n)).fst.length 9223372036854775810)))) false 2)) nZ nZ) nZ) nZ) nZ) nZ) nZ)) (nN none (nN none (nN none (nN none (nN none (nN none (nN (some (AObj.cells 32 (flds (TH.parse (bytesIn c (o + capN cap 0 (cutN cap 0 1)) ((↑(TH.parse (bytesIn c o n)).snd.fst : Int).toNat - 0))).fst) false 2)) nZ nZ) nZ) nZ) nZ) nZ) nZ) (nN none nZ (nN none nZ (nN none nZ (nN none nZ (nN (some (AObj.cells ty c false 0)) nZ nZ)))))), 130⟩) (.ret (Value.tuple ⟨[Value.slice (some ⟨130, 0, none⟩) (TH.parse (bytesIn (bytesV (TH.prS (TH.fieldsAt ⟨nN none (nN none (nN none (nN none (nN none (nN none (nN none (nN (some (AObj.cells 32 (flds (TH.parse (bytesIn c o n)).fst) false 2)) nZ nZ) nZ) nZ) nZ) nZ) nZ) nZ) (nN none (nN none (nN none (nN none (nN none (nN none (nN (some (AObj.cells 32 (flds (TH.parse (bytesIn c (o + capN cap 0 (cutN cap 0 1)) ((↑(TH.parse (bytesIn c o n)).snd.fst : Int).toNat - 0))).fst) false 2)) nZ nZ) nZ) nZ) nZ) nZ) nZ) (nN none nZ (nN none nZ (nN none nZ (nN none nZ (nN (some (AObj.cells ty c false 0)) nZ nZ)))))), 129⟩ (Value.slice (some ⟨127, 0, none⟩) (TH.parse (bytesIn c o n)).fst.length 9223372036854775810)))) 0 (TH.prS (TH.fieldsAt ⟨nN none (nN none (nN none (nN none (nN none (nN none (nN none (nN (some (AObj.cells 32 (flds (TH.parse (bytesIn c o n)).fst) false 2)) nZ nZ) nZ) nZ) nZ) nZ) nZ) nZ) (nN none (nN none (nN none (nN none (nN none (nN none (nN (some (AObj.cells 32 (flds (TH.parse (bytesIn c (o + capN cap 0 (cutN cap 0 1)) ((↑(TH.parse (bytesIn c o n)).snd.fst : Int).toNat - 0))).fst) false 2)) nZ nZ) nZ) nZ) nZ) nZ) nZ) (nN none nZ (nN none nZ (nN none nZ (nN none nZ (nN (some (AObj.cells ty c false 0)) nZ nZ)))))), 129⟩ (Value.slice (some ⟨127, 0, none⟩) (TH.parse (bytesIn c o n)).fst.length 9223372036854775810))).length)).fst.length 9223372036854775810, Value.int IntKind.i64 (↑(TH.parse (bytesIn (bytesV (TH.prS (TH.fieldsAt ⟨nN none (nN none (nN none (nN none (nN none (nN none (nN none (nN (some (AObj.cells 32 (flds (TH.parse (bytesIn c o n)).fst) false 2)) nZ nZ) nZ) nZ) nZ) nZ) nZ) nZ) (nN none (nN none (nN none (nN none (nN none (nN none (nN (some (AObj.cells 32 (flds (TH.parse (bytesIn c (o + capN cap 0 (cutN cap 0 1)) ((↑(TH.parse (bytesIn c o n)).snd.fst : Int).toNat - 0))).fst) false 2)) nZ nZ) nZ) nZ) nZ) nZ) nZ) (nN none nZ (nN none nZ (nN none nZ (nN none nZ (nN (some (AObj.cells ty c false 0)) nZ nZ)))))), 129⟩ (Value.slice (some ⟨127, 0, none⟩) (TH.parse (bytesIn c o n)).fst.length 9223372036854775810)))) 0 (TH.prS (TH.fieldsAt ⟨nN none (nN none (nN none (nN none (nN none (nN none (nN none (nN (some (AObj.cells 32 (flds (TH.parse (bytesIn c o n)).fst) false 2)) nZ nZ) nZ) nZ) nZ) nZ) nZ) nZ) (nN none (nN none (nN none (nN none (nN none (nN none (nN (some (AObj.cells 32 (flds (TH.parse (bytesIn c (o + capN cap 0 (cutN cap 0 1)) ((↑(TH.parse (bytesIn c o n)).snd.fst : Int).toNat - 0))).fst) false 2)) nZ nZ) nZ) nZ) nZ) nZ) nZ) (nN none nZ (nN none nZ (nN none nZ (nN none nZ (nN (some (AObj.cells ty c false 0)) nZ nZ)))))), 129⟩ (Value.slice (some ⟨127, 0, none⟩) (TH.parse (bytesIn c o n)).fst.length 9223372036854775810))).length)).snd.fst : Int), Value.int IntKind.i64 0]⟩) (⟨nN none (nN none (nN none (nN none (nN none (nN none (nN none (nN (some (AObj.cells 32 (flds (TH.parse (bytesIn c o n)).fst) false 2)) nZ nZ) nZ) nZ) nZ) nZ) nZ) (nN none (nN none (nN none (nN none (nN none (nN (some (AObj.cells 5 (bytesV (TH.prS (TH.fieldsAt ⟨nN none (nN none (nN none (nN none (nN none (nN none (nN none (nN (some (AObj.cells 32 (flds (TH.parse (bytesIn c o n)).fst) false 2)) nZ nZ) nZ) nZ) nZ) nZ) nZ) nZ) (nN none (nN none (nN none (nN none (nN none (nN none (nN (some (AObj.cells 32 (flds (TH.parse (bytesIn c (o + capN cap 0 (cutN cap 0 1)) ((↑(TH.parse (bytesIn c o n)).snd.fst : Int).toNat - 0))).fst) false 2)) nZ nZ) nZ) nZ) nZ) nZ) nZ) (nN none nZ (nN none nZ (nN none nZ (nN none nZ (nN (some (AObj.cells ty c false 0)) nZ nZ)))))), 129⟩ (Value.slice (some ⟨127, 0, none⟩) (TH.parse (bytesIn c o n)).fst.length 9223372036854775810)))) false 2)) nZ nZ) nZ) nZ) nZ) nZ) nZ)) (nN none (nN none (nN none (nN none (nN none (nN none (nN (some (AObj.cells 32 (flds (TH.parse (bytesIn c (o + capN cap 0 (cutN cap 0 1)) ((↑(TH.parse (bytesIn c o n)).snd.fst : Int).toNat - 0))).fst) false 2)) nZ nZ) nZ) nZ) nZ) nZ) nZ) (nN none (nN none (nN none (nN none (nN none (nN (some (AObj.cells 32 (flds (TH.parse (bytesIn (bytesV (TH.prS (TH.fieldsAt ⟨nN none (nN none (nN none (nN none (nN none (nN none (nN none (nN (some (AObj.cells 32 (flds (TH.parse (bytesIn c o n)).fst) false 2)) nZ nZ) nZ) nZ) nZ) nZ) nZ) nZ) (nN none (nN none (nN none (nN none (nN none (nN none (nN (some (AObj.cells 32 (flds (TH.parse (bytesIn c (o + capN cap 0 (cutN cap 0 1)) ((↑(TH.parse (bytesIn c o n)).snd.fst : Int).toNat - 0))).fst) false 2)) nZ nZ) nZ) nZ) nZ) nZ) nZ) (nN none nZ (nN none nZ (nN none nZ (nN none nZ (nN (some (AObj.cells ty c false 0)) nZ nZ)))))), 129⟩ (Value.slice (some ⟨127, 0, none⟩) (TH.parse (bytesIn c o n)).fst.length 9223372036854775810)))) 0 (TH.prS (TH.fieldsAt ⟨nN none (nN none (nN none (nN none (nN none (nN none (nN none (nN (some (AObj.cells 32 (flds (TH.parse (bytesIn c o n)).fst) false 2)) nZ nZ) nZ) nZ) nZ) nZ) nZ) nZ) (nN none (nN none (nN none (nN none (nN none (nN none (nN (some (AObj.cells 32 (flds (TH.parse (bytesIn c (o + capN cap 0 (cutN cap 0 1)) ((↑(TH.parse (bytesIn c o n)).snd.fst : Int).toNat - 0))).fst) false 2)) nZ nZ) nZ) nZ) nZ) nZ) nZ) (nN none nZ (nN none nZ (nN none nZ (nN none nZ (nN (some (AObj.cells ty c false 0)) nZ nZ)))))), 129⟩ (Value.slice (some ⟨127, 0, none⟩) (TH.parse (bytesIn c o n)).fst.length 9223372036854775810))).length)).fst) false 2)) nZ nZ) nZ) nZ) nZ) nZ) (nN none nZ (nN none nZ (nN none nZ (nN (some (AObj.cells ty c false 0)) nZ nZ)))))), 131⟩)) (.ite (TH.chk (TH.fieldsAt ⟨nN none (nN none (nN none (nN none (nN none (nN none (nN none (nN (some (AObj.cells (32 : Nat) (flds (TH.parse (bytesIn c o n)).fst) false (2 : Nat))) nZ nZ) nZ) nZ) nZ) nZ) nZ) nZ) (nN none (nN none (nN none (nN none (nN none (nN none (nN (some (AObj.cells (32 : Nat) (flds (TH.parse (bytesIn c (o + capN cap (0 : Nat) (cutN cap (0 : Nat) (1 : Nat))) ((↑(TH.parse (bytesIn c o n)).snd.fst : Int).toNat - (0 : Nat)))).fst) false (2 : Nat))) nZ nZ) nZ) nZ) nZ) nZ) nZ) (nN none nZ (nN none nZ (nN none nZ (nN none nZ (nN (some (AObj.cells ty c false (0 : Nat))) nZ nZ)))))), (129 : Nat)⟩ (Value.slice (some ⟨(127 : Nat), (0 : Nat), none⟩) (TH.parse (bytesIn c o n)).fst.length (9223372036854775810 : Nat))) == (0 : Int)) (.ite ((↑(TH.parse (bytesIn (bytesV (TH.prS (TH.fieldsAt ⟨nN none (nN none (nN none (nN none (nN none (nN none (nN none (nN (some (AObj.cells (32 : Nat) (flds (TH.parse (bytesIn c o n)).fst) false (2 : Nat))) nZ nZ) nZ) nZ) nZ) nZ) nZ) nZ) (nN none (nN none (nN none (nN none (nN none (nN none (nN (some (AObj.cells (32 : Nat) (flds (TH.parse (bytesIn c (o + capN cap (0 : Nat) (cutN cap (0 : Nat) (1 : Nat))) ((↑(TH.parse (bytesIn c o n)).snd.fst : Int).toNat - (0 : Nat)))).fst) false (2 : Nat))) nZ nZ) nZ) nZ) nZ) nZ) nZ) (nN none nZ (nN none nZ (nN none nZ (nN none nZ (nN (some (AObj.cells ty c false (0 : Nat))) nZ nZ)))))), (129 : Nat)⟩ (Value.slice (some ⟨(127 : Nat), (0 : Nat), none⟩) (TH.parse (bytesIn c o n)).fst.length (9223372036854775810 : Nat))))) (0 : Nat) (TH.prS (TH.fieldsAt ⟨nN none (nN none (nN none (nN none (nN none (nN none (nN none (nN (some (AObj.cells (32 : Nat) (flds (TH.parse (bytesIn c o n)).fst) false (2 : Nat))) nZ nZ) nZ) nZ) nZ) nZ) nZ) nZ) (nN none (nN none (nN none (nN none (nN none (nN none (nN (some (AObj.cells (32 : Nat) (flds (TH.parse (bytesIn c (o + capN cap (0 : Nat) (cutN cap (0 : Nat) (1 : Nat))) ((↑(TH.parse (bytesIn c o n)).snd.fst : Int).toNat - (0 : Nat)))).fst) false (2 : Nat))) nZ nZ) nZ) nZ) nZ) nZ) nZ) (nN none nZ (nN none nZ (nN none nZ (nN none nZ (nN (some (AObj.cells ty c false (0 : Nat))) nZ nZ)))))), (129 : Nat)⟩ (Value.slice (some ⟨(127 : Nat), (0 : Nat), none⟩) (TH.parse (bytesIn c o n)).fst.length (9223372036854775810 : Nat)))).length)).snd.fst : Int) == (↑(TH.prS (TH.fieldsAt ⟨nN none (nN none (nN none (nN none (nN none (nN none (nN none (nN (some (AObj.cells (32 : Nat) (flds (TH.parse (bytesIn c o n)).fst) false (2 : Nat))) nZ nZ) nZ) nZ) nZ) nZ) nZ) nZ) (nN none (nN none (nN none (nN none (nN none (nN none (nN (some (AObj.cells (32 : Nat) (flds (TH.parse (bytesIn c (o + capN cap (0 : Nat) (cutN cap (0 : Nat) (1 : Nat))) ((↑(TH.parse (bytesIn c o n)).snd.fst : Int).toNat - (0 : Nat)))).fst) false (2 : Nat))) nZ nZ) nZ) nZ) nZ) nZ) nZ) (nN none nZ (nN none nZ (nN none nZ (nN none nZ (nN (some (AObj.cells ty c false (0 : Nat))) nZ nZ)))))), (129 : Nat)⟩ (Value.slice (some ⟨(127 : Nat), (0 : Nat), none⟩) (TH.parse (bytesIn c o n)).fst.length (9223372036854775810 : Nat)))).length : Int)) (.call 6 [Value.slice (some ⟨130, 0, none⟩) (TH.parse (bytesIn (bytesV (TH.prS (TH.fieldsAt ⟨nN none (nN none (nN none (nN none (nN none (nN none (nN none (nN (some (AObj.cells 32 (flds (TH.parse (bytesIn c o n)).fst) false 2)) nZ nZ) nZ) nZ) nZ) nZ) nZ) nZ) (nN none (nN none (nN none (nN none (nN none (nN none (nN (some (AObj.cells 32 (flds (TH.parse (bytesIn c (o + capN cap 0 (cutN cap 0 1)) ((↑(TH.parse (bytesIn c o n)).snd.fst : Int).toNat - 0))).fst) false 2)) nZ nZ) nZ) nZ) nZ) nZ) nZ) (nN none nZ (nN none nZ (nN none nZ (nN none nZ (nN (some (AObj.cells ty c false 0)) nZ nZ)))))), 129⟩ (Value.slice (some ⟨127, 0, none⟩) (TH.parse (bytesIn c o n)).fst.length 9223372036854775810)))) 0 (TH.prS (TH.fieldsAt ⟨nN none (nN none (nN none (nN none (nN none (nN none (nN none (nN (some (AObj.cells 32 (flds (TH.parse (bytesIn c o n)).fst) false 2)) nZ nZ) nZ) nZ) nZ) nZ) nZ) nZ) (nN none (nN none (nN none (nN none (nN none (nN none (nN (some (AObj.cells 32 (flds (TH.parse (bytesIn c (o + capN cap 0 (cutN cap 0 1)) ((↑(TH.parse (bytesIn c o n)).snd.fst : Int).toNat - 0))).fst) false 2)) nZ nZ) nZ) nZ) nZ) nZ) nZ) (nN none nZ (nN none nZ (nN none nZ (nN none nZ (nN (some (AObj.cells ty c false 0)) nZ nZ)))))), 129⟩ (Value.slice (some ⟨127, 0, none⟩) (TH.parse (bytesIn c o n)).fst.length 9223372036854775810))).length)).fst.length 9223372036854775810, Value.slice (some ⟨127, 0, none⟩) (TH.parse (bytesIn c o n)).fst.length 9223372036854775810] (⟨nN none (nN none (nN none (nN none (nN none (nN none (nN none (nN (some (AObj.cells 32 (flds (TH.parse (bytesIn c o n)).fst) false 2)) nZ nZ) nZ) nZ) nZ) nZ) nZ) (nN none (nN none (nN none (nN none (nN none (nN (some (AObj.cells 5 (bytesV (TH.prS (TH.fieldsAt ⟨nN none (nN none (nN none (nN none (nN none (nN none (nN none (nN (some (AObj.cells 32 (flds (TH.parse (bytesIn c o n)).fst) false 2)) nZ nZ) nZ) nZ) nZ) nZ) nZ) nZ) (nN none (nN none (nN none (nN none (nN none (nN none (nN (some (AObj.cells 32 (flds (TH.parse (bytesIn c (o + capN cap 0 (cutN cap 0 1)) ((↑(TH.parse (bytesIn c o n)).snd.fst : Int).toNat - 0))).fst) false 2)) nZ nZ) nZ) nZ) nZ) nZ) nZ) (nN none nZ (nN none nZ (nN none nZ (nN none nZ (nN (some (AObj.cells ty c false 0)) nZ nZ)))))), 129⟩ (Value.slice (some ⟨127, 0, none⟩) (TH.parse (bytesIn c o n)).fst.length 9223372036854775810)))) false 2)) nZ nZ) nZ) nZ) nZ) nZ) nZ)) (nN none (nN none (nN none (nN none (nN none (nN none (nN (some (AObj.cells 32 (flds (TH.parse (bytesIn c (o + capN cap 0 (cutN cap 0 1)) ((↑(TH.parse (bytesIn c o n)).snd.fst : Int).toNat - 0))).fst) false 2)) nZ nZ) nZ) nZ) nZ) nZ) nZ) (nN none (nN none (nN none (nN none (nN none (nN (some (AObj.cells 32 (flds (TH.parse (bytesIn (bytesV (TH.prS (TH.fieldsAt ⟨nN none (nN none (nN none (nN none (nN none (nN none (nN none (nN (some (AObj.cells 32 (flds (TH.parse (bytesIn c o n)).fst) false 2)) nZ nZ) nZ) nZ) nZ) nZ) nZ) nZ) (nN none (nN none (nN none (nN none (nN none (nN none (nN (some (AObj.cells 32 (flds (TH.parse (bytesIn c (o + capN cap 0 (cutN cap 0 1)) ((↑(TH.parse (bytesIn c o n)).snd.fst : Int).toNat - 0))).fst) false 2)) nZ nZ) nZ) nZ) nZ) nZ) nZ) (nN none nZ (nN none nZ (nN none nZ (nN none nZ (nN (some (AObj.cells ty c false 0)) nZ nZ)))))), 129⟩ (Value.slice (some ⟨127, 0, none⟩) (TH.parse (bytesIn c o n)).fst.length 9223372036854775810)))) 0 (TH.prS (TH.fieldsAt ⟨nN none (nN none (nN none (nN none (nN none (nN none (nN none (nN (some (AObj.cells 32 (flds (TH.parse (bytesIn c o n)).fst) false 2)) nZ nZ) nZ) nZ) nZ) nZ) nZ) nZ) (nN none (nN none (nN none (nN none (nN none (nN none (nN (some (AObj.cells 32 (flds (TH.parse (bytesIn c (o + capN cap 0 (cutN cap 0 1)) ((↑(TH.parse (bytesIn c o n)).snd.fst : Int).toNat - 0))).fst) false 2)) nZ nZ) nZ) nZ) nZ) nZ) nZ) (nN none nZ (nN none nZ (nN none nZ (nN none nZ (nN (some (AObj.cells ty c false 0)) nZ nZ)))))), 129⟩ (Value.slice (some ⟨127, 0, none⟩) (TH.parse (bytesIn c o n)).fst.length 9223372036854775810))).length)).fst) false 2)) nZ nZ) nZ) nZ) nZ) nZ) (nN none nZ (nN none nZ (nN none nZ (nN (some (AObj.cells ty c false 0)) nZ nZ)))))), 131⟩) (.ret (Value.bool (TH.fieldsAt ⟨nN none (nN none (nN none (nN none (nN none (nN none (nN none (nN (some (AObj.cells 32 (flds (TH.parse (bytesIn c o n)).fst) false 2)) nZ nZ) nZ) nZ) nZ) nZ) nZ) (nN none (nN none (nN none (nN none (nN none (nN (some (AObj.cells 5 (bytesV (TH.prS (TH.fieldsAt ⟨nN none (nN none (nN none (nN none (nN none (nN none (nN none (nN (some (AObj.cells 32 (flds (TH.parse (bytesIn c o n)).fst) false 2)) nZ nZ) nZ) nZ) nZ) nZ) nZ) nZ) (nN none (nN none (nN none (nN none (nN none (nN none (nN (some (AObj.cells 32 (flds (TH.parse (bytesIn c (o + capN cap 0 (cutN cap 0 1)) ((↑(TH.parse (bytesIn c o n)).snd.fst : Int).toNat - 0))).fst) false 2)) nZ nZ) nZ) nZ) nZ) nZ) nZ) (nN none nZ (nN none nZ (nN none nZ (nN none nZ (nN (some (AObj.cells ty c false 0)) nZ nZ)))))), 129⟩ (Value.slice (some ⟨127, 0, none⟩) (TH.parse (bytesIn c o n)).fst.length 9223372036854775810)))) false 2)) nZ nZ) nZ) nZ) nZ) nZ) nZ)) (nN none (nN none (nN none (nN none (nN none (nN none (nN (some (AObj.cells 32 (flds (TH.parse (bytesIn c (o + capN cap 0 (cutN cap 0 1)) ((↑(TH.parse (bytesIn c o n)).snd.fst : Int).toNat - 0))).fst) false 2)) nZ nZ) nZ) nZ) nZ) nZ) nZ) (nN none (nN none (nN none (nN none (nN none (nN (some (AObj.cells 32 (flds (TH.parse (bytesIn (bytesV (TH.prS (TH.fieldsAt ⟨nN none (nN none (nN none (nN none (nN none (nN none (nN none (nN (some (AObj.cells 32 (flds (TH.parse (bytesIn c o n)).fst) false 2)) nZ nZ) nZ) nZ) nZ) nZ) nZ) nZ) (nN none (nN none (nN none (nN none (nN none (nN none (nN (some (AObj.cells 32 (flds (TH.parse (bytesIn c (o + capN cap 0 (cutN cap 0 1)) ((↑(TH.parse (bytesIn c o n)).snd.fst : Int).toNat - 0))).fst) false 2)) nZ nZ) nZ) nZ) nZ) nZ) nZ) (nN none nZ (nN none nZ (nN none nZ (nN none nZ (nN (some (AObj.cells ty c false 0)) nZ nZ)))))), 129⟩ (Value.slice (some ⟨127, 0, none⟩) (TH.parse (bytesIn c o n)).fst.length 9223372036854775810)))) 0 (TH.prS (TH.fieldsAt ⟨nN none (nN none (nN none (nN none (nN none (nN none (nN none (nN (some (AObj.cells 32 (flds (TH.parse (bytesIn c o n)).fst) false 2)) nZ nZ) nZ) nZ) nZ) nZ) nZ) nZ) (nN none (nN none (nN none (nN none (nN none (nN none (nN (some (AObj.cells 32 (flds (TH.parse (bytesIn c (o + capN cap 0 (cutN cap 0 1)) ((↑(TH.parse (bytesIn c o n)).snd.fst : Int).toNat - 0))).fst) false 2)) nZ nZ) nZ) nZ) nZ) nZ) nZ) (nN none nZ (nN none nZ (nN none nZ (nN none nZ (nN (some (AObj.cells ty c false 0)) nZ nZ)))))), 129⟩ (Value.slice (some ⟨127, 0, none⟩) (TH.parse (bytesIn c o n)).fst.length 9223372036854775810))).length)).fst) false 2)) nZ nZ) nZ) nZ) nZ) nZ) (nN none nZ (nN none nZ (nN none nZ (nN (some (AObj.cells ty c false 0)) nZ nZ)))))), 131⟩ (Value.slice (some ⟨130, 0, none⟩) (TH.parse (bytesIn (bytesV (TH.prS (TH.fieldsAt ⟨nN none (nN none (nN none (nN none (nN none (nN none (nN none (nN (some (AObj.cells 32 (flds (TH.parse (bytesIn c o n)).fst) false 2)) nZ nZ) nZ) nZ) nZ) nZ) nZ) nZ) (nN none (nN none (nN none (nN none (nN none (nN none (nN (some (AObj.cells 32 (flds (TH.parse (bytesIn c (o + capN cap 0 (cutN cap 0 1)) ((↑(TH.parse (bytesIn c o n)).snd.fst : Int).toNat - 0))).fst) false 2)) nZ nZ) nZ) nZ) nZ) nZ) nZ) (nN none nZ (nN none nZ (nN none nZ (nN none nZ (nN (some (AObj.cells ty c false 0)) nZ nZ)))))), 129⟩ (Value.slice (some ⟨127, 0, none⟩) (TH.parse (bytesIn c o n)).fst.length 9223372036854775810)))) 0 (TH.prS (TH.fieldsAt ⟨nN none (nN none (nN none (nN none (nN none (nN none (nN none (nN (some (AObj.cells 32 (flds (TH.parse (bytesIn c o n)).fst) false 2)) nZ nZ) nZ) nZ) nZ) nZ) nZ) nZ) (nN none (nN none (nN none (nN none (nN none (nN none (nN (some (AObj.cells 32 (flds (TH.parse (bytesIn c (o + capN cap 0 (cutN cap 0 1)) ((↑(TH.parse (bytesIn c o n)).snd.fst : Int).toNat - 0))).fst) false 2)) nZ nZ) nZ) nZ) nZ) nZ) nZ) (nN none nZ (nN none nZ (nN none nZ (nN none nZ (nN (some (AObj.cells ty c false 0)) nZ nZ)))))), 129⟩ (Value.slice (some ⟨127, 0, none⟩) (TH.parse (bytesIn c o n)).fst.length 9223372036854775810))).length)).fst.length 9223372036854775810) == TH.fieldsAt ⟨nN none (nN none (nN none (nN none (nN none (nN none (nN none (nN (some (AObj.cells 32 (flds (TH.parse (bytesIn c o n)).fst) false 2)) nZ nZ) nZ) nZ) nZ) nZ) nZ) (nN none (nN none (nN none (nN none (nN none (nN (some (AObj.cells 5 (bytesV (TH.prS (TH.fieldsAt ⟨nN none (nN none (nN none (nN none (nN none (nN none (nN none (nN (some (AObj.cells 32 (flds (TH.parse (bytesIn c o n)).fst) false 2)) nZ nZ) nZ) nZ) nZ) nZ) nZ) nZ) (nN none (nN none (nN none (nN none (nN none (nN none (nN (some (AObj.cells 32 (flds (TH.parse (bytesIn c (o + capN cap 0 (cutN cap 0 1)) ((↑(TH.parse (bytesIn c o n)).snd.fst : Int).toNat - 0))).fst) false 2)) nZ nZ) nZ) nZ) nZ) nZ) nZ) (nN none nZ (nN none nZ (nN none nZ (nN none nZ (nN (some (AObj.cells ty c false 0)) nZ nZ)))))), 129⟩ (Value.slice (some ⟨127, 0, none⟩) (TH.parse (bytesIn c o n)).fst.length 9223372036854775810)))) false 2)) nZ nZ) nZ) nZ) nZ) nZ) nZ)) (nN none (nN none (nN none (nN none (nN none (nN none (nN (some (AObj.cells 32 (flds (TH.parse (bytesIn c (o + capN cap 0 (cutN cap 0 1)) ((↑(TH.parse (bytesIn c o n)).snd.fst : Int).toNat - 0))).fst) false 2)) nZ nZ) nZ) nZ) nZ) nZ) nZ) (nN none (nN none (nN none (nN none (nN none (nN (some (AObj.cells 32 (flds (TH.parse (bytesIn (bytesV (TH.prS (TH.fieldsAt ⟨nN none (nN none (nN none (nN none (nN none (nN none (nN none (nN (some (AObj.cells 32 (flds (TH.parse (bytesIn c o n)).fst) false 2)) nZ nZ) nZ) nZ) nZ) nZ) nZ) nZ) (nN none (nN none (nN none (nN none (nN none (nN none (nN (some (AObj.cells 32 (flds (TH.parse (bytesIn c (o + capN cap 0 (cutN cap 0 1)) ((↑(TH.parse (bytesIn c o n)).snd.fst : Int).toNat - 0))).fst) false 2)) nZ nZ) nZ) nZ) nZ) nZ) nZ) (nN none nZ (nN none nZ (nN none nZ (nN none nZ (nN (some (AObj.cells ty c false 0)) nZ nZ)))))), 129⟩ (Value.slice (some ⟨127, 0, none⟩) (TH.parse (bytesIn c o n)).fst.length 9223372036854775810)))) 0 (TH.prS (TH.fieldsAt ⟨nN none (nN none (nN none (nN none (nN none (nN none (nN none (nN (some (AObj.cells 32 (flds (TH.parse (bytesIn c o n)).fst) false 2)) nZ nZ) nZ) nZ) nZ) nZ) nZ) nZ) (nN none (nN none (nN none (nN none (nN none (nN none (nN (some (AObj.cells 32 (flds (TH.parse (bytesIn c (o + capN cap 0 (cutN cap 0 1)) ((↑(TH.parse (bytesIn c o n)).snd.fst : Int).toNat - 0))).fst) false 2)) nZ nZ) nZ) nZ) nZ) nZ) nZ) (nN none nZ (nN none nZ (nN none nZ (nN none nZ (nN (some (AObj.cells ty c false 0)) nZ nZ)))))), 129⟩ (Value.slice (some ⟨127, 0, none⟩) (TH.parse (bytesIn c o n)).fst.length 9223372036854775810))).length)).fst) false 2)) nZ nZ) nZ) nZ) nZ) nZ) (nN none nZ (nN none nZ (nN none nZ (nN (some (AObj.cells ty c false 0)) nZ nZ)))))), 131⟩ (Value.slice (some ⟨127, 0, none⟩) (TH.parse (bytesIn c o n)).fst.length 9223372036854775810))) (⟨nN none (nN none (nN none (nN none (nN none (nN none (nN none (nN (some (AObj.cells 32 (flds (TH.parse (bytesIn c o n)).fst) false 2)) nZ nZ) nZ) nZ) nZ) nZ) nZ) (nN none (nN none (nN none (nN none (nN none (nN (some (AObj.cells 5 (bytesV (TH.prS (TH.fieldsAt ⟨nN none (nN none (nN none (nN none (nN none (nN none (nN none (nN (some (AObj.cells 32 (flds (TH.parse (bytesIn c o n)).fst) false 2)) nZ nZ) nZ) nZ) nZ) nZ) nZ) nZ) (nN none (nN none (nN none (nN none (nN none (nN none (nN (some (AObj.cells 32 (flds (TH.parse (bytesIn c (o + capN cap 0 (cutN cap 0 1)) ((↑(TH.parse (bytesIn c o n)).snd.fst : Int).toNat - 0))).fst) false 2)) nZ nZ) nZ) nZ) nZ) nZ) nZ) (nN none nZ (nN none nZ (nN none nZ (nN none nZ (nN (some (AObj.cells ty c false 0)) nZ nZ)))))), 129⟩ (Value.slice (some ⟨127, 0, none⟩) (TH.parse (bytesIn c o n)).fst.length 9223372036854775810)))) false 2)) nZ nZ) nZ) nZ) nZ) nZ) nZ)) (nN none (nN none (nN none (nN none (nN none (nN none (nN (some (AObj.cells 32 (flds (TH.parse (bytesIn c (o + capN cap 0 (cutN cap 0 1)) ((↑(TH.parse (bytesIn c o n)).snd.fst : Int).toNat - 0))).fst) false 2)) nZ nZ) nZ) nZ) nZ) nZ) nZ) (nN none (nN none (nN none (nN none (nN none (nN (some (AObj.cells 32 (flds (TH.parse (bytesIn (bytesV (TH.prS (TH.fieldsAt ⟨nN none (nN none (nN none (nN none (nN none (nN none (nN none (nN (some (AObj.cells 32 (flds (TH.parse (bytesIn c o n)).fst) false 2)) nZ nZ) nZ) nZ) nZ) nZ) nZ) nZ) (nN none (nN none (nN none (nN none (nN none (nN none (nN (some (AObj.cells 32 (flds (TH.parse (bytesIn c (o + capN cap 0 (cutN cap 0 1)) ((↑(TH.parse (bytesIn c o n)).snd.fst : Int).toNat - 0))).fst) false 2)) nZ nZ) nZ) nZ) nZ) nZ) nZ) (nN none nZ (nN none nZ (nN none nZ (nN none nZ (nN (some (AObj.cells ty c false 0)) nZ nZ)))))), 129⟩ (Value.slice (some ⟨127, 0, none⟩) (TH.parse (bytesIn c o n)).fst.length 9223372036854775810)))) 0 (TH.prS (TH.fieldsAt ⟨nN none (nN none (nN none (nN none (nN none (nN none (nN none (nN (some (AObj.cells 32 (flds (TH.parse (bytesIn c o n)).fst) false 2)) nZ nZ) nZ) nZ) nZ) nZ) nZ) nZ) (nN none (nN none (nN none (nN none (nN none (nN none (nN (some (AObj.cells 32 (flds (TH.parse (bytesIn c (o + capN cap 0 (cutN cap 0 1)) ((↑(TH.parse (bytesIn c o n)).snd.fst : Int).toNat - 0))).fst) false 2)) nZ nZ) nZ) nZ) nZ) nZ) nZ) (nN none nZ (nN none nZ (nN none nZ (nN none nZ (nN (some (AObj.cells ty c false 0)) nZ nZ)))))), 129⟩ (Value.slice (some ⟨127, 0, none⟩) (TH.parse (bytesIn c o n)).fst.length 9223372036854775810))).length)).fst) false 2)) nZ nZ) nZ) nZ) nZ) nZ) (nN none nZ (nN none nZ (nN none nZ (nN (some (AObj.cells ty c false 0)) nZ nZ)))))), 131⟩)) (.ite (TH.fieldsAt ⟨nN none (nN none (nN none (nN none (nN none (nN none (nN none (nN (some (AObj.cells (32 : Nat) (flds (TH.parse (bytesIn c o n)).fst) false (2 : Nat))) nZ nZ) nZ) nZ) nZ) nZ) nZ) (nN none (nN none (nN none (nN none (nN none (nN (some (AObj.cells (5 : Nat) (bytesV (TH.prS (TH.fieldsAt ⟨nN none (nN none (nN none (nN none (nN none (nN none (nN none (nN (some (AObj.cells (32 : Nat) (flds (TH.parse (bytesIn c o n)).fst) false (2 : Nat))) nZ nZ) nZ) nZ) nZ) nZ) nZ) nZ) (nN none (nN none (nN none (nN none (nN none (nN none (nN (some (AObj.cells (32 : Nat) (flds (TH.parse (bytesIn c (o + capN cap (0 : Nat) (cutN cap (0 : Nat) (1 : Nat))) ((↑(TH.parse (bytesIn c o n)).snd.fst : Int).toNat - (0 : Nat)))).fst) false (2 : Nat))) nZ nZ) nZ) nZ) nZ) nZ) nZ) (nN none nZ (nN none nZ (nN none nZ (nN none nZ (nN (some (AObj.cells ty c false (0 : Nat))) nZ nZ)))))), (129 : Nat)⟩ (Value.slice (some ⟨(127 : Nat), (0 : Nat), none⟩) (TH.parse (bytesIn c o n)).fst.length (9223372036854775810 : Nat))))) false (2 : Nat))) nZ nZ) nZ) nZ) nZ) nZ) nZ)) (nN none (nN none (nN none (nN none (nN none (nN none (nN (some (AObj.cells (32 : Nat) (flds (TH.parse (bytesIn c (o + capN cap (0 : Nat) (cutN cap (0 : Nat) (1 : Nat))) ((↑(TH.parse (bytesIn c o n)).snd.fst : Int).toNat - (0 : Nat)))).fst) false (2 : Nat))) nZ nZ) nZ) nZ) nZ) nZ) nZ) (nN none (nN none (nN none (nN none (nN none (nN (some (AObj.cells (32 : Nat) (flds (TH.parse (bytesIn (bytesV (TH.prS (TH.fieldsAt ⟨nN none (nN none (nN none (nN none (nN none (nN none (nN none (nN (some (AObj.cells (32 : Nat) (flds (TH.parse (bytesIn c o n)).fst) false (2 : Nat))) nZ nZ) nZ) nZ) nZ) nZ) nZ) nZ) (nN none (nN none (nN none (nN none (nN none (nN none (nN (some (AObj.cells (32 : Nat) (flds (TH.parse (bytesIn c (o + capN cap (0 : Nat) (cutN cap (0 : Nat) (1 : Nat))) ((↑(TH.parse (bytesIn c o n)).snd.fst : Int).toNat - (0 : Nat)))).fst) false (2 : Nat))) nZ nZ) nZ) nZ) nZ) nZ) nZ) (nN none nZ (nN none nZ (nN none nZ (nN none nZ (nN (some (AObj.cells ty c false (0 : Nat))) nZ nZ)))))), (129 : Nat)⟩ (Value.slice (some ⟨(127 : Nat), (0 : Nat), none⟩) (TH.parse (bytesIn c o n)).fst.length (9223372036854775810 : Nat))))) (0 : Nat) (TH.prS (TH.fieldsAt ⟨nN none (nN none (nN none (nN none (nN none (nN none (nN none (nN (some (AObj.cells (32 : Nat) (flds (TH.parse (bytesIn c o n)).fst) false (2 : Nat))) nZ nZ) nZ) nZ) nZ) nZ) nZ) nZ) (nN none (nN none (nN none (nN none (nN none (nN none (nN (some (AObj.cells (32 : Nat) (flds (TH.parse (bytesIn c (o + capN cap (0 : Nat) (cutN cap (0 : Nat) (1 : Nat))) ((↑(TH.parse (bytesIn c o n)).snd.fst : Int).toNat - (0 : Nat)))).fst) false (2 : Nat))) nZ nZ) nZ) nZ) nZ) nZ) nZ) (nN none nZ (nN none nZ (nN none nZ (nN none nZ (nN (some (AObj.cells ty c false (0 : Nat))) nZ nZ)))))), (129 : Nat)⟩ (Value.slice (some ⟨(127 : Nat), (0 : Nat), none⟩) (TH.parse (bytesIn c o n)).fst.length (9223372036854775810 : Nat)))).length)).fst) false (2 : Nat))) nZ nZ) nZ) nZ) nZ) nZ) (nN none nZ (nN none nZ (nN none nZ (nN (some (AObj.cells ty c false (0 : Nat))) nZ nZ)))))), (131 : Nat)⟩ (Value.slice (some ⟨(130 : Nat), (0 : Nat), none⟩) (TH.parse (bytesIn (bytesV (TH.prS (TH.fieldsAt ⟨nN none (nN none (nN none (nN none (nN none (nN none (nN none (nN (some (AObj.cells (32 : Nat) (flds (TH.parse (bytesIn c o n)).fst) false (2 : Nat))) nZ nZ) nZ) nZ) nZ) nZ) nZ) nZ) (nN none (nN none (nN none (nN none (nN none (nN none (nN (some (AObj.cells (32 : Nat) (flds (TH.parse (bytesIn c (o + capN cap (0 : Nat) (cutN cap (0 : Nat) (1 : Nat))) ((↑(TH.parse (bytesIn c o n)).snd.fst : Int).toNat - (0 : Nat)))).fst) false (2 : Nat))) nZ nZ) nZ) nZ) nZ) nZ) nZ) (nN none nZ (nN none nZ (nN none nZ (nN none nZ (nN (some (AObj.cells ty c false (0 : Nat))) nZ nZ)))))), (129 : Nat)⟩ (Value.slice (some ⟨(127 : Nat), (0 : Nat), none⟩) (TH.parse (bytesIn c o n)).fst.length (9223372036854775810 : Nat))))) (0 : Nat) (TH.prS (TH.fieldsAt ⟨nN none (nN none (nN none (nN none (nN none (nN none (nN none (nN (some (AObj.cells (32 : Nat) (flds (TH.parse (bytesIn c o n)).fst) false (2 : Nat))) nZ nZ) nZ) nZ) nZ) nZ) nZ) nZ) (nN none (nN none (nN none (nN none (nN none (nN none (nN (some (AObj.cells (32 : Nat) (flds (TH.parse (bytesIn c (o + capN cap (0 : Nat) (cutN cap (0 : Nat) (1 : Nat))) ((↑(TH.parse (bytesIn c o n)).snd.fst : Int).toNat - (0 : Nat)))).fst) false (2 : Nat))) nZ nZ) nZ) nZ) nZ) nZ) nZ) (nN none nZ (nN none nZ (nN none nZ (nN none nZ (nN (some (AObj.cells ty c false (0 : Nat))) nZ nZ)))))), (129 : Nat)⟩ (Value.slice (some ⟨(127 : Nat), (0 : Nat), none⟩) (TH.parse (bytesIn c o n)).fst.length (9223372036854775810 : Nat)))).length)).fst.length (9223372036854775810 : Nat)) == TH.fieldsAt ⟨nN none (nN none (nN none (nN none (nN none (nN none (nN none (nN (some (AObj.cells (32 : Nat) (flds (TH.parse (bytesIn c o n)).fst) false (2 : Nat))) nZ nZ) nZ) nZ) nZ) nZ) nZ) (nN none (nN none (nN none (nN none (nN none (nN (some (AObj.cells (5 : Nat) (bytesV (TH.prS (TH.fieldsAt ⟨nN none (nN none (nN none (nN none (nN none (nN none (nN none (nN (some (AObj.cells (32 : Nat) (flds (TH.parse (bytesIn c o n)).fst) false (2 : Nat))) nZ nZ) nZ) nZ) nZ) nZ) nZ) nZ) (nN none (nN none (nN none (nN none (nN none (nN none (nN (some (AObj.cells (32 : Nat) (flds (TH.parse (bytesIn c (o + capN cap (0 : Nat) (cutN cap (0 : Nat) (1 : Nat))) ((↑(TH.parse (bytesIn c o n)).snd.fst : Int).toNat - (0 : Nat)))).fst) false (2 : Nat))) nZ nZ) nZ) nZ) nZ) nZ) nZ) (nN none nZ (nN none nZ (nN none nZ (nN none nZ (nN (some (AObj.cells ty c false (0 : Nat))) nZ nZ)))))), (129 : Nat)⟩ (Value.slice (some ⟨(127 : Nat), (0 : Nat), none⟩) (TH.parse (bytesIn c o n)).fst.length (9223372036854775810 : Nat))))) false (2 : Nat))) nZ nZ) nZ) nZ) nZ) nZ) nZ)) (nN none (nN none (nN none (nN none (nN none (nN none (nN (some (AObj.cells (32 : Nat) (flds (TH.parse (bytesIn c (o + capN cap (0 : Nat) (cutN cap (0 : Nat) (1 : Nat))) ((↑(TH.parse (bytesIn c o n)).snd.fst : Int).toNat - (0 : Nat)))).fst) false (2 : Nat))) nZ nZ) nZ) nZ) nZ) nZ) nZ) (nN none (nN none (nN none (nN none (nN none (nN (some (AObj.cells (32 : Nat) (flds (TH.parse (bytesIn (bytesV (TH.prS (TH.fieldsAt ⟨nN none (nN none (nN none (nN none (nN none (nN none (nN none (nN (some (AObj.cells (32 : Nat) (flds (TH.parse (bytesIn c o n)).fst) false (2 : Nat))) nZ nZ) nZ) nZ) nZ) nZ) nZ) nZ) (nN none (nN none (nN none (nN none (nN none (nN none (nN (some (AObj.cells (32 : Nat) (flds (TH.parse (bytesIn c (o + capN cap (0 : Nat) (cutN cap (0 : Nat) (1 : Nat))) ((↑(TH.parse (bytesIn c o n)).snd.fst : Int).toNat - (0 : Nat)))).fst) false (2 : Nat))) nZ nZ) nZ) nZ) nZ) nZ) nZ) (nN none nZ (nN none nZ (nN none nZ (nN none nZ (nN (some (AObj.cells ty c false (0 : Nat))) nZ nZ)))))), (129 : Nat)⟩ (Value.slice (some ⟨(127 : Nat), (0 : Nat), none⟩) (TH.parse (bytesIn c o n)).fst.length (9223372036854775810 : Nat))))) (0 : Nat) (TH.prS (TH.fieldsAt ⟨nN none (nN none (nN none (nN none (nN none (nN none (nN none (nN (some (AObj.cells (32 : Nat) (flds (TH.parse (bytesIn c o n)).fst) false (2 : Nat))) nZ nZ) nZ) nZ) nZ) nZ) nZ) nZ) (nN none (nN none (nN none (nN none (nN none (nN none (nN (some (AObj.cells (32 : Nat) (flds (TH.parse (bytesIn c (o + capN cap (0 : Nat) (cutN cap (0 : Nat) (1 : Nat))) ((↑(TH.parse (bytesIn c o n)).snd.fst : Int).toNat - (0 : Nat)))).fst) false (2 : Nat))) nZ nZ) nZ) nZ) nZ) nZ) nZ) (nN none nZ (nN none nZ (nN none nZ (nN none nZ (nN (some (AObj.cells ty c false (0 : Nat))) nZ nZ)))))), (129 : Nat)⟩ (Value.slice (some ⟨(127 : Nat), (0 : Nat), none⟩) (TH.parse (bytesIn c o n)).fst.length (9223372036854775810 : Nat)))).length)).fst) false (2 : Nat))) nZ nZ) nZ) nZ) nZ) nZ) (nN none nZ (nN none nZ (nN none nZ (nN (some (AObj.cells ty c false (0 : Nat))) nZ nZ)))))), (131 : Nat)⟩ (Value.slice (some ⟨(127 : Nat), (0 : Nat), none⟩) (TH.parse (bytesIn c o n)).fst.length (9223372036854775810 : Nat))) (.call 4 [] (⟨nN none (nN none (nN none (nN none (nN none (nN none (nN none (nN (some (AObj.cells 32 (flds (TH.parse (bytesIn c o n)).fst) false 2)) nZ nZ) nZ) nZ) nZ) nZ) nZ) (nN none (nN none (nN none (nN none (nN none (nN (some (AObj.cells 5 (bytesV (TH.prS (TH.fieldsAt ⟨nN none (nN none (nN none (nN none (nN none (nN none (nN none (nN (some (AObj.cells 32 (flds (TH.parse (bytesIn c o n)).fst) false 2)) nZ nZ) nZ) nZ) nZ) nZ) nZ) nZ) (nN none (nN none (nN none (nN none (nN none (nN none (nN (some (AObj.cells 32 (flds (TH.parse (bytesIn c (o + capN cap 0 (cutN cap 0 1)) ((↑(TH.parse (bytesIn c o n)).snd.fst : Int).toNat - 0))).fst) false 2)) nZ nZ) nZ) nZ) nZ) nZ) nZ) (nN none nZ (nN none nZ (nN none nZ (nN none nZ (nN (some (AObj.cells ty c false 0)) nZ nZ)))))), 129⟩ (Value.slice (some ⟨127, 0, none⟩) (TH.parse (bytesIn c o n)).fst.length 9223372036854775810)))) false 2)) nZ nZ) nZ) nZ) nZ) nZ) nZ)) (nN none (nN none (nN none (nN none (nN none (nN none (nN (some (AObj.cells 32 (flds (TH.parse (bytesIn c (o + capN cap 0 (cutN cap 0 1)) ((↑(TH.parse (bytesIn c o n)).snd.fst : Int).toNat - 0))).fst) false 2)) nZ nZ) nZ) nZ) nZ) nZ) nZ) (nN none (nN none (nN none (nN none (nN none (nN (some (AObj.cells 32 (flds (TH.parse (bytesIn (bytesV (TH.prS (TH.fieldsAt ⟨nN none (nN none (nN none (nN none (nN none (nN none (nN none (nN (some (AObj.cells 32 (flds (TH.parse (bytesIn c o n)).fst) false 2)) nZ nZ) nZ) nZ) nZ) nZ) nZ) nZ) (nN none (nN none (nN none (nN none (nN none (nN none (nN (some (AObj.cells 32 (flds (TH.parse (bytesIn c (o + capN cap 0 (cutN cap 0 1)) ((↑(TH.parse (bytesIn c o n)).snd.fst : Int).toNat - 0))).fst) false 2)) nZ nZ) nZ) nZ) nZ) nZ) nZ) (nN none nZ (nN none nZ (nN none nZ (nN none nZ (nN (some (AObj.cells ty c false 0)) nZ nZ)))))), 129⟩ (Value.slice (some ⟨127, 0, none⟩) (TH.parse (bytesIn c o n)).fst.length 9223372036854775810)))) 0 (TH.prS (TH.fieldsAt ⟨nN none (nN none (nN none (nN none (nN none (nN none (nN none (nN (some (AObj.cells 32 (flds (TH.parse (bytesIn c o n)).fst) false 2)) nZ nZ) nZ) nZ) nZ) nZ) nZ) nZ) (nN none (nN none (nN none (nN none (nN none (nN none (nN (some (AObj.cells 32 (flds (TH.parse (bytesIn c (o + capN cap 0 (cutN cap 0 1)) ((↑(TH.parse (bytesIn c o n)).snd.fst : Int).toNat - 0))).fst) false 2)) nZ nZ) nZ) nZ) nZ) nZ) nZ) (nN none nZ (nN none nZ (nN none nZ (nN none nZ (nN (some (AObj.cells ty c false 0)) nZ nZ)))))), 129⟩ (Value.slice (some ⟨127, 0, none⟩) (TH.parse (bytesIn c o n)).fst.length 9223372036854775810))).length)).fst) false 2)) nZ nZ) nZ) nZ) nZ) nZ) (nN none nZ (nN none nZ (nN none nZ (nN (some (AObj.cells ty c false 0)) nZ nZ)))))), 131⟩) (.ret (Value.bool true) (⟨nN none (nN none (nN none (nN none (nN none (nN none (nN none (nN (some (AObj.cells 32 (flds (TH.parse (bytesIn c o n)).fst) false 2)) nZ nZ) nZ) nZ) nZ) nZ) nZ) (nN none (nN none (nN none (nN none (nN none (nN (some (AObj.cells 5 (bytesV (TH.prS (TH.fieldsAt ⟨nN none (nN none (nN none (nN none (nN none (nN none (nN none (nN (some (AObj.cells 32 (flds (TH.parse (bytesIn c o n)).fst) false 2)) nZ nZ) nZ) nZ) nZ) nZ) nZ) nZ) (nN none (nN none (nN none (nN none (nN none (nN none (nN (some (AObj.cells 32 (flds (TH.parse (bytesIn c (o + capN cap 0 (cutN cap 0 1)) ((↑(TH.parse (bytesIn c o n)).snd.fst : Int).toNat - 0))).fst) false 2)) nZ nZ) nZ) nZ) nZ) nZ) nZ) (nN none nZ (nN none nZ (nN none nZ (nN none nZ (nN (some (AObj.cells ty c false 0)) nZ nZ)))))), 129⟩ (Value.slice (some ⟨127, 0, none⟩) (TH.parse (bytesIn c o n)).fst.length 9223372036854775810)))) false 2)) nZ nZ) nZ) nZ) nZ) nZ) nZ)) (nN none (nN none (nN none (nN none (nN none (nN none (nN (some (AObj.cells 32 (flds (TH.parse (bytesIn c (o + capN cap 0 (cutN cap 0 1)) ((↑(TH.parse (bytesIn c o n)).snd.fst : Int).toNat - 0))).fst) false 2)) nZ nZ) nZ) nZ) nZ) nZ) nZ) (nN none (nN none (nN none (nN none (nN none (nN (some (AObj.cells 32 (flds (TH.parse (bytesIn (bytesV (TH.prS (TH.fieldsAt ⟨nN none (nN none (nN none (nN none (nN none (nN none (nN none (nN (some (AObj.cells 32 (flds (TH.parse (bytesIn c o n)).fst) false 2)) nZ nZ) nZ) nZ) nZ) nZ) nZ) nZ) (nN none (nN none (nN none (nN none (nN none (nN none (nN (some (AObj.cells 32 (flds (TH.parse (bytesIn c (o + capN cap 0 (cutN cap 0 1)) ((↑(TH.parse (bytesIn c o n)).snd.fst : Int).toNat - 0))).fst) false 2)) nZ nZ) nZ) nZ) nZ) nZ) nZ) (nN none nZ (nN none nZ (nN none nZ (nN none nZ (nN (some (AObj.cells ty c false 0)) nZ nZ)))))), 129⟩ (Value.slice (some ⟨127, 0, none⟩) (TH.parse (bytesIn c o n)).fst.length 9223372036854775810)))) 0 (TH.prS (TH.fieldsAt ⟨nN none (nN none (nN none (nN none (nN none (nN none (nN none (nN (some (AObj.cells 32 (flds (TH.parse (bytesIn c o n)).fst) false 2)) nZ nZ) nZ) nZ) nZ) nZ) nZ) nZ) (nN none (nN none (nN none (nN none (nN none (nN none (nN (some (AObj.cells 32 (flds (TH.parse (bytesIn c (o + capN cap 0 (cutN cap 0 1)) ((↑(TH.parse (bytesIn c o n)).snd.fst : Int).toNat - 0))).fst) false 2)) nZ nZ) nZ) nZ) nZ) nZ) nZ) (nN none nZ (nN none nZ (nN none nZ (nN none nZ (nN (some (AObj.cells ty c false 0)) nZ nZ)))))), 129⟩ (Value.slice (some ⟨127, 0, none⟩) (TH.parse (bytesIn c o n)).fst.length 9223372036854775810))).length)).fst) false 2)) nZ nZ) nZ) nZ) nZ) nZ) (nN none nZ (nN none nZ (nN none nZ (nN (some (AObj.cells ty c false 0)) nZ nZ)))))), 131⟩)) (.need (NoNames c ∧ True) (.done 3 (Value.bool true) (H0 ty o c n cap)))) (.need (NoNames c ∧ True) (.done 3 (Value.bool false) (H0 ty o c n cap))))) (.need (NoNames c ∧ True) (.done 3 (Value.bool false) (H0 ty o c n cap)))) (.need (NoNames c ∧ True) (.done 3 (Value.bool false) (H0 ty o c n cap)))))))))))))))))))) : CallSpec η prog B 3 [Value.slice (some ⟨126, o, none⟩) n cap] (H0 ty o c n cap) D := by
  refine CallSpec.ofQF hη (CallSpec.enter (fr := (E ty o c n cap).fr) (by kernel_rfl) ?_)
  exact walk_okT (h0 := H0 ty o c n cap) hη hmix hreg (.steps 11 <| .bit 16 (.steps 3 <| .call kN <| .steps 3 <| .done none) (.steps 5 <| .call kN <| .steps 22 <| .bit 38 (.steps 21 <| .done (some ⟨127, [], [(126, (126, true))]⟩)) (.steps 6 <| .bit 44 (.steps 15 <| .done (some ⟨127, [], [(126, (126, true))]⟩)) (.steps 4 <| .bit 48 (.steps 11 <| .done (some ⟨127, [], [(126, (126, true))]⟩)) (.steps 5 <| .bit 52 (.steps 6 <| .done (some ⟨127, [], [(126, (126, true))]⟩)) (.steps 6 <| .op <| .call kN <| .steps 19 <| .bit 68 (.steps 12 <| .done (some ⟨127, [], [(126, (126, true))]⟩)) (.steps 2 <| .call kN <| .steps 3 <| .bit 73 (.steps 6 <| .done (some ⟨127, [], [(126, (126, true))]⟩)) (.steps 5 <| .call kN <| .steps 12 <| .bit 80 (.steps 12 <| .stop [3, 10, 11] (some ⟨128, [(127, 127)], [(126, (126, true)), (127, (127, true))]⟩)) (.steps 5 <| .op <| .call kN <| .steps 13 <| .bit 117 (.steps 10 <| .bit 127 (.steps 2 <| .call kN <| .steps 2 <| .bit 132 (.call kN <| .steps 4 <| .done (some ⟨127, [], [(126, (126, true))]⟩)) (.steps 5 <| .done (some ⟨127, [], [(126, (126, true))]⟩))) (.steps 10 <| .done (some ⟨127, [], [(126, (126, true))]⟩))) (.steps 20 <| .done (some ⟨127, [], [(126, (126, true))]⟩))))))))))) (E ty o c n cap) (by kernel_rfl) h (by kernel_rfl)
theorem cut0 {η : Nat → Value} {B : Bd} (hη : OneCells η) (hmix : prog.follows .mixedOrders = true) (hreg : RegOk η prog B noNest) {D : Value → AH → Prop} (ty : Nat) (o : Nat) (c : List Value) (n : Nat) (cap : Nat) (i0 : Int) (i1 : Int) (h : W.holds η prog B 3 (fun kp_ st_ => RunD η prog B 3 (H0 ty o c n cap) kp_ st_ (QF prog 127 D)) D (.ite (decide (i0 < (↑(TH.parse (bytesIn c o n)).fst.length : Int))) (.need ((0 : Int) ≤ i0 ∧ i0 < (↑(TH.parse (bytesIn c o n)).fst.length : Int)) (.need ((flds (TH.parse (bytesIn c o n)).fst)[(0 : Nat) + i0.toNat * (2 : Nat) + (0 : Nat)]? = some (Value.string ⟨⟨strAt (flds (TH.parse (bytesIn c o n)).fst) ((0 : Nat) + i0.toNat * (2 : Nat) + (0 : Nat))⟩⟩)) (.need ((0 : Int) ≤ i0 ∧ i0 < (↑(TH.parse (bytesIn c o n)).fst.length : Int)) (.need ((flds (TH.parse (bytesIn c o n)).fst)[(0 : Nat) + i0.toNat * (2 : Nat) + (1 : Nat)]? = some (Value.string ⟨⟨strAt (flds (TH.parse (bytesIn c o n)).fst) ((0 : Nat) + i0.toNat * (2 : Nat) + (1 : Nat))⟩⟩)) (.need (NoNames c ∧ NoNames (flds (TH.parse (bytesIn c o n)).fst) ∧ True) (.stop [3, 10, 11] (S0 ty o c n cap (IntKind.i64.wrap (i0 + 1)) (IntKind.i64.wrap (IntKind.i64.wrap (IntKind.i64.wrap (i1 + (↑(strAt (flds (TH.parse (bytesIn c o n)).fst) (0 + i0.toNat * 2 + 0)).length : Int)) + (↑(strAt (flds (TH.parse (bytesIn c o n)).fst) (0 + i0.toNat * 2 + 1)).length : Int)) + 4)) (fun _ => undef)))))))) (.ite (decide (i1 > (8192 : Int))) (.call 4 [] (⟨nN none (nN none (nN none (nN none (nN none (nN none (nN none (nN (some (AObj.cells 32 (flds (TH.parse (bytesIn c o n)).fst) false 2)) nZ nZ) nZ) nZ) nZ) nZ) nZ) nZ) (nN none nZ (nN none nZ (nN none nZ (nN none nZ (nN none nZ (nN (some (AObj.cells ty c false 0)) nZ nZ)))))), 128⟩) (.ret (Value.bool true) (⟨nN none (nN none (nN none (nN none (nN none (nN none (nN none (nN (some (AObj.cells 32 (flds (TH.parse (bytesIn c o n)).fst) false 2)) nZ nZ) nZ) nZ) nZ) nZ) nZ) nZ) (nN none nZ (nN none nZ (nN none nZ (nN none nZ (nN none nZ (nN (some (AObj.cells ty c false 0)) nZ nZ)))))), 128⟩)) (.need (NoNames c ∧ True) (.done 3 (Value.bool true) (H0 ty o c n cap)))) (.need (NoNames c ∧ True) (.done 3 (Value.bool false) (H0 ty o c n cap)))))) : RunD η prog B 3 (H0 ty o c n cap) [3, 10, 11] (S0 ty o c n cap i0 i1 fun _ => undef) (QF prog 127 D) := by
  refine RunD.intro (S0 ty o c n cap i0 i1) (fun d => ⟨rfl, rfl, rfl⟩) (fun d => tmOk_get (by kernel_rfl)) (fun d => by kernel_rfl) (fun d => ?_)
  exact walk_okT (h0 := H0 ty o c n cap) hη hmix hreg (.steps 8 <| .bit 84 (.steps 4 <| .reg <| .steps 3 <| .op <| .steps 1 <| .op <| .steps 4 <| .op <| .steps 1 <| .op <| .steps 4 <| .reg <| .steps 7 <| .stop [3, 10, 11] (some ⟨128, [(127, 127)], [(126, (126, true)), (127, (127, true))]⟩)) (.steps 7 <| .bit 105 (.call kN <| .steps 4 <| .done (some ⟨127, [], [(126, (126, true))]⟩)) (.steps 5 <| .done (some ⟨127, [], [(126, (126, true))]⟩)))) (S0 ty o c n cap i0 i1 d) (by kernel_rfl) h (by kernel_rfl)
end HRdR
namespace HRdN
set_option linter.unusedVariables false
noncomputable def bd : Code := (Go.Proofs.Tryd.f3.body).getD .skip
noncomputable def H0 (n : Int) : AH := { objs := nZ, next := 126 }
noncomputable def E (n : Int) : AS := ⟨⟨3, 135, nN (some (Value.slice none 0 0)) nZ nZ, [Item.code (codeAt bd [])], [], FrameMode.run, CallKind.normal, none⟩, [], ⟨nZ, 126⟩⟩
theorem enter {η : Nat → Value} {B : Bd} (hη : OneCells η) (hmix : prog.follows .mixedOrders = true) (hreg : RegOk η prog B noNest) {D : Value → AH → Prop} (n : Int) (h : W.holds η prog B 3 (fun kp_ st_ => RunD η prog B 3 (H0 n) kp_ st_ (QF prog 126 D)) D (.call 5 [Value.slice none 0 0] (⟨nZ, 126⟩) (.ret (Value.tuple ⟨[Value.slice none 0 0, Value.int IntKind.i64 0, Value.int IntKind.i64 10]⟩) (⟨nZ, 126⟩)) (.call 4 [] (⟨nZ, 126⟩) (.ret (Value.bool true) (⟨nZ, 126⟩)) (.done 3 (Value.bool true) (H0 n))))) : CallSpec η prog B 3 [Value.slice none 0 0] (H0 n) D := by
  refine CallSpec.ofQF hη (CallSpec.enter (fr := (E n).fr) (by kernel_rfl) ?_)
  exact walk_okT (h0 := H0 n) hη hmix hreg (.steps 16 <| .call kN <| .steps 25 <| .call kN <| .steps 4 <| .done none) (E n) (by kernel_rfl) h (by kernel_rfl)
end HRdN
end Go.Ev

