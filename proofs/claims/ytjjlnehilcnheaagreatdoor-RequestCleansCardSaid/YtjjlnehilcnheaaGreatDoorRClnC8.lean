/- RClnC, part 8: what the proof needs, in the order of its texts. -/
import Derived.Test.YtjjlnehilcnheaaGreatDoorRClnC7
import Derived.Shelf.Strings.SlTrimAscii
import Derived.Test.YtjjlnehilcnheaaGreatDoorShelf
import Derived.Lib.Join
import Derived.Test.YtjjlnehilcnheaaGreatDoorRows
import Derived.Lib.LaidU8
import Derived.MapViews
import Derived.DeepKeys2
import Derived.LaidLaws
import Derived.Test.YtjjlnehilcnheaaGreatDoorProg
import Derived.KernelRfl
namespace Go.Ev
set_option linter.unusedVariables false
set_option linter.unusedSimpArgs false
open Go Go.Proofs Go.RowKit
variable {η : Nat → Value} {B : Bd}
namespace TE
set_option linter.unusedVariables false
set_option linter.unusedSimpArgs false
open TB
def bl (c : UInt8) : Bool := ([9, 32] : List UInt8).contains c
end TE
end Go.Ev
namespace Go.Ev
set_option linter.unusedVariables false
set_option linter.unusedSimpArgs false
open Go Go.Proofs
variable {η : Nat → Value} {B : Bd}
namespace TE
set_option linter.unusedVariables false
set_option linter.unusedSimpArgs false
open TB
theorem strs_snoc (L : List (List UInt8)) (x : List UInt8) : strs L ++ [.string ⟨⟨x⟩⟩] = strs (L ++ [x]) := by unfold strs; rw [List.map_append]; rfl
theorem strs_len (L : List (List UInt8)) : (strs L).length = L.length := by unfold strs; rw [List.length_map]
theorem strs_nn (L : List (List UInt8)) : NoNames (strs L) := by
  intro v hv; unfold strs at hv; obtain ⟨x, _, rfl⟩ := List.mem_map.1 hv; rfl
theorem strs_get {L : List (List UInt8)} {i : Nat} (h : i < L.length) : (strs L)[i]? = some (.string ⟨⟨L[i]⟩⟩) ∧ strAt (strs L) i = L[i] := by
  have e : (strs L)[i]? = some (.string ⟨⟨L[i]⟩⟩) := by unfold strs; rw [List.getElem?_map, List.getElem?_eq_getElem h]; rfl
  refine ⟨e, ?_⟩
  unfold strAt; rw [e]
end TE
end Go.Ev
namespace Go.Ev
set_option linter.unusedVariables false
set_option linter.unusedSimpArgs false
open Go Go.Proofs
variable {η : Nat → Value} {B : Bd}
namespace TE
set_option linter.unusedVariables false
set_option linter.unusedSimpArgs false
open TB
end TE
end Go.Ev

namespace Go.Ev
set_option linter.unusedVariables false
set_option linter.unusedSimpArgs false
open Go Go.Proofs
variable {η : Nat → Value} {B : Bd}
namespace TR
set_option linter.unusedVariables false
set_option linter.unusedSimpArgs false
open TB TE
theorem segF_ne (cur s : List UInt8) : segF cur s ≠ [] := by
  induction s generalizing cur with
  | nil => simp [segF]
  | cons c r ih =>
    unfold segF
    split
    · simp
    · exact ih _
end TR
end Go.Ev

namespace Go.Ev
set_option linter.unusedVariables false
set_option linter.unusedSimpArgs false
open Go Go.Proofs
variable {η : Nat → Value} {B : Bd}
namespace TR
set_option linter.unusedVariables false
set_option linter.unusedSimpArgs false
open TB TE
theorem keep_mem : ∀ (l k : List (List UInt8)), ∀ x ∈ keep k l, x ∈ k ∨ x ∈ l ∨ x = []
  | [], k, x, h => by rw [keep] at h; exact .inl h
  | y :: r, k, x, h => by
    rw [keep] at h
    have rest : ∀ k', (∀ z ∈ k', z ∈ k ∨ z = y ∨ z = []) → x ∈ keep k' r → x ∈ k ∨ x ∈ y :: r ∨ x = [] := by
      intro k' hk hx
      rcases keep_mem r k' x hx with h1 | h1 | h1
      · rcases hk x h1 with h2 | h2 | h2
        · exact .inl h2
        · exact .inr (.inl (by rw [h2]; simp))
        · exact .inr (.inr h2)
      · exact .inr (.inl (by simp [h1]))
      · exact .inr (.inr h1)
    split at h
    · split at h
      · rcases List.mem_append.1 h with h | h
        · exact .inl ((List.dropLast_sublist k).mem h)
        · rw [List.mem_singleton] at h; exact .inr (.inr h)
      · exact rest _ (fun z hz => .inl ((List.dropLast_sublist k).mem hz)) h
    · split at h
      · split at h
        · rcases List.mem_append.1 h with h | h
          · exact .inl h
          · rw [List.mem_singleton] at h; exact .inr (.inr h)
        · exact rest _ (fun z hz => .inl hz) h
      · refine rest _ (fun z hz => ?_) h
        rcases List.mem_append.1 hz with hz | hz
        · exact .inl hz
        · rw [List.mem_singleton] at hz; exact .inr (.inl hz)
theorem keep_len : ∀ (l k : List (List UInt8)), (keep k l).length ≤ k.length + l.length
  | [], k => by rw [keep]; simp
  | y :: r, k => by
    rw [keep, List.length_cons]
    have hd : k.dropLast.length ≤ k.length := by rw [List.length_dropLast]; omega
    split
    · split
      · rw [List.length_append, List.length_singleton]; omega
      · have := keep_len r k.dropLast; omega
    · split
      · split
        · rw [List.length_append, List.length_singleton]; omega
        · have := keep_len r k; omega
      · have := keep_len r (k ++ [y]); rw [List.length_append, List.length_singleton] at this; omega
theorem segF_mem : ∀ (s cur : List UInt8), ∀ x ∈ segF cur s, x.length ≤ cur.length + s.length
  | [], cur, x, h => by rw [segF, List.mem_singleton] at h; subst h; simp
  | c :: r, cur, x, h => by
    rw [segF] at h
    rw [List.length_cons]
    split at h
    · rcases List.mem_cons.1 h with h | h
      · subst h; omega
      · have := segF_mem r [] x h; simp at this; omega
    · have := segF_mem r (cur ++ [c]) x h; rw [List.length_append, List.length_singleton] at this; omega
theorem segF_len : ∀ (s cur : List UInt8), (segF cur s).length ≤ s.length + 1
  | [], cur => by simp [segF]
  | c :: r, cur => by
    rw [segF, List.length_cons]
    split
    · have := segF_len r []; rw [List.length_cons]; omega
    · have := segF_len r (cur ++ [c]); omega
theorem slash_app (a b : List (List UInt8)) : slash (a ++ b) = slash a ++ slash b := by
  induction a with
  | nil => rfl
  | cons x a ih => simp only [List.cons_append, slash, ih, List.append_assoc]
theorem slash_take {K : List (List UInt8)} {i : Nat} (h : i < K.length) : slash (K.take (i + 1)) = slash (K.take i) ++ [47] ++ K[i] := by
  rw [List.take_add_one, List.getElem?_eq_getElem h, Option.toList_some, slash_app]
  simp [slash]
theorem slash_len {K : List (List UInt8)} {M : Nat} (hM : ∀ x ∈ K, x.length ≤ M) : ∀ i, (slash (K.take i)).length ≤ i * (M + 1)
  | 0 => by simp [slash]
  | i + 1 => by
    have ih := slash_len hM i
    rcases Nat.lt_or_ge i K.length with h | h
    · have := hM _ (List.getElem_mem h)
      rw [slash_take h]
      simp only [List.length_append, List.length_singleton, Nat.succ_mul]
      omega
    · rw [List.take_of_length_le (by omega)]
      rw [List.take_of_length_le h] at ih
      rw [Nat.succ_mul]; omega
/-- A row whose first cells are a list. -/
def Inv (l0 : List Value) (K : List (List UInt8)) : Prop := l0.take K.length = strs K ∧ K.length ≤ l0.length ∧ NoNames l0
theorem Inv.mk' (K : List (List UInt8)) : Inv (strs K) K := ⟨by rw [← strs_len K, List.take_length], by rw [strs_len]; exact Nat.le_refl _, strs_nn _⟩
theorem Inv.drop {l0 : List Value} {K : List (List UInt8)} (h : Inv l0 K) : Inv l0 K.dropLast := by
  obtain ⟨h1, h2, h3⟩ := h
  refine ⟨?_, by rw [List.length_dropLast]; omega, h3⟩
  have : l0.take K.dropLast.length = (l0.take K.length).take K.dropLast.length := by
    rw [List.take_take, List.length_dropLast, Nat.min_eq_left (by omega)]
  rw [this, h1]
  unfold strs
  rw [← List.map_take, List.length_dropLast, List.dropLast_eq_take]
theorem Inv.get {l0 : List Value} {K : List (List UInt8)} (h : Inv l0 K) {i : Nat} (hi : i < K.length) : l0[i]? = some (.string ⟨⟨K[i]⟩⟩) ∧ strAt l0 i = K[i] := by
  have e : l0[i]? = some (.string ⟨⟨K[i]⟩⟩) := by
    have := (strs_get hi).1
    rw [← h.1, List.getElem?_take, if_pos hi] at this
    exact this
  exact ⟨e, by unfold strAt; rw [e]⟩
theorem splP_cons {s : List UInt8} (h : tgtE s = 0) : ∃ r, splP s = 47 :: r := by
  unfold splP
  rw [if_pos h]
  unfold tgtE at h
  split at h
  · cases h
  · split at h
    · cases h
    · rename_i c r _
      split at h
      · rename_i hc
        simp only [Bool.and_eq_true, beq_iff_eq] at hc
        obtain ⟨rfl, _⟩ := hc
        exact ⟨r.takeWhile (· != 63), by unfold markL; rw [List.takeWhile_cons_of_pos (by decide)]⟩
      · cases h
theorem tgt_500 {s : List UInt8} (h : tgtE s = 0) : s.length ≤ 500 := by
  unfold tgtE at h
  split at h
  · cases h
  · omega
theorem keep_nil (k : List (List UInt8)) : keep k [] = k := by rw [keep]
theorem keep_dot (k : List (List UInt8)) : keep k [[46]] = k ++ [[]] := by
  rw [keep, if_neg (by decide), if_pos rfl]; rfl
theorem keep_dd (k : List (List UInt8)) : keep k [[46, 46]] = k.dropLast ++ [[]] := by
  rw [keep, if_pos rfl]; rfl
theorem rv2s {σ : Nat → Nat} {M : Nat} {w : Bool} (a : List UInt8) (e : Int) : RV σ M w (.tuple ⟨[.string ⟨⟨a⟩⟩, .int .i64 e]⟩) (.tuple ⟨[.string ⟨⟨a⟩⟩, .int .i64 e]⟩) := RV.tup2 (.string _) (.int _ _)
end TR
end Go.Ev

namespace Go.Ev
set_option linter.unusedVariables false
set_option linter.unusedSimpArgs false
open Go Go.Proofs
variable {η : Nat → Value} {B : Bd}
namespace TE
set_option linter.unusedVariables false
set_option linter.unusedSimpArgs false
open TB
/-- A value that stands for a list of strings. -/
def IsStrs (h : AH) (v : Value) (L : List (List UInt8)) : Prop :=
  (v = .slice none 0 0 ∧ L = []) ∨ ∃ r own, v = .slice (some ⟨r, 0, none⟩) L.length (capU 1) ∧ h.objs.get r = some (.cells 9 (strs L) false own)
theorem strs_all (L : List (List UInt8)) : (strs L).all bareV = true := by
  rw [List.all_eq_true]; intro v hv
  unfold strs at hv
  rw [List.mem_map] at hv
  obtain ⟨x, _, rfl⟩ := hv; rfl
theorem IsStrs.at_ {h : AH} {v : Value} {L : List (List UInt8)} (k : IsStrs h v L) : listAt h v = L := by
  rcases k with ⟨rfl, rfl⟩ | ⟨r, own, rfl, hr⟩
  · rfl
  · unfold listAt
    simp only [hr]
    rw [List.take_of_length_le (by rw [strs_len]; exact Nat.le_refl _)]
    unfold strs
    rw [List.map_map]
    exact List.map_id _
end TE
end Go.Ev

namespace Go.Ev
set_option linter.unusedVariables false
set_option linter.unusedSimpArgs false
open Go Go.Proofs Go.RowKit
variable {η : Nat → Value} {B : Bd}
namespace TH
set_option linter.unusedVariables false
set_option linter.unusedSimpArgs false
open TB TE
def FldsAt (c : List Value) (o : Nat) (l : List HF) : Prop := c.all bareV = true ∧ ∀ (i : Nat) (hi : i < l.length), c[o + i * 2]? = some (.string ⟨⟨l[i].1⟩⟩) ∧ c[o + i * 2 + 1]? = some (.string ⟨⟨l[i].2⟩⟩)
/-- A value that stands for a list of fields. -/
def IsFlds (h : AH) (v : Value) (l : List HF) : Prop :=
  (v = .slice none 0 0 ∧ l = []) ∨ ∃ r o ty c own cap, v = .slice (some ⟨r, o, none⟩) l.length cap ∧ h.objs.get r = some (.cells ty c false own) ∧ FldsAt c o l
theorem take2 {c : List Value} {k : Nat} {x y : Value} (h0 : c[k]? = some x) (h1 : c[k + 1]? = some y) : k + 2 ≤ c.length ∧ List.take 2 (List.drop k c) = [x, y] := by
  obtain ⟨l0, e0⟩ := List.getElem?_eq_some_iff.1 h0
  obtain ⟨l1, e1⟩ := List.getElem?_eq_some_iff.1 h1
  refine ⟨by omega, ?_⟩
  rw [List.drop_eq_getElem_cons l0, List.drop_eq_getElem_cons l1, e0, e1]
  rfl
theorem fl_get {c : List Value} {o : Nat} {l : List HF} (F : FldsAt c o l) {i : Nat} (hi : i < l.length) : (o + i * 2 + 2 ≤ c.length ∧ List.take 2 (List.drop (o + i * 2) c) = [.string ⟨⟨l[i].1⟩⟩, .string ⟨⟨l[i].2⟩⟩]) ∧ strAt c (o + i * 2) = l[i].1 ∧ strAt c (o + i * 2 + 1) = l[i].2 := by
  obtain ⟨h0, h1⟩ := F.2 i hi
  exact ⟨take2 h0 h1, by unfold strAt; rw [h0], by unfold strAt; rw [h1]⟩
theorem nn_bare {c : List Value} (h : c.all bareV = true) : NoNames c := by
  intro v hv
  have := List.all_eq_true.1 h v hv
  cases v with
  | pointer a => cases a <;> simp_all [bareV, bareN]
  | map a => cases a <;> simp_all [bareV, bareN]
  | slice a l c => cases a <;> simp_all [bareV, bareN]
  | _ => simp_all [bareV, bareN]
theorem IsFlds.at_ {h : AH} {v : Value} {l : List HF} (k : IsFlds h v l) : fieldsAt h v = l := by
  rcases k with ⟨rfl, rfl⟩ | ⟨r, o, ty, c, own, cap, rfl, hr, F⟩
  · rfl
  · unfold fieldsAt
    simp only [hr]
    refine List.ext_getElem (by simp) fun i h1 h2 => ?_
    obtain ⟨_, g1, g2⟩ := fl_get F h2
    rw [List.getElem_map, List.getElem_range]
    rw [show o + 2 * i = o + i * 2 by omega, g1, g2]
theorem rows1 {h : AH} {r ty own : Nat} {c : List Value} (hr : h.objs.get r = some (.cells ty c false own)) (hb : c.all bareV = true) : RowsIn h [(ty, c)] (fun _ => r) := by
  refine ⟨fun i x hi => ?_, fun i j hi hj _ => ?_⟩
  · match i with
    | 0 => simp at hi; subst hi; exact ⟨hb, own, hr⟩
    | i + 1 => simp at hi
  · simp only [List.length_singleton] at hi hj; omega
end TH
end Go.Ev

namespace Go.Ev
set_option linter.unusedVariables false
set_option linter.unusedSimpArgs false
open Go Go.Proofs Go.RowKit
variable {η : Nat → Value} {B : Bd}
namespace TH
set_option linter.unusedVariables false
set_option linter.unusedSimpArgs false
open TB TE
/-- From any heap in which the list stands. -/
theorem listed (hη : OneCells η) {f : FuncId} {h : AH} {v : Value} {l : List HF} {s : List UInt8} (k : IsFlds h v l)
    (c0 : l = [] → CallSpec η Tryz.prog B f [.slice none 0 0, .string ⟨⟨s⟩⟩] (heapN 126) fun v1 h1 => v1 = .slice none 0 0 ∧ h1 = heapN 126)
    (c1 : ∀ {c : List Value} {o ty cap : Nat} {D : Value → AH → Prop}, FldsAt c o l → (get l s = [] → D (.slice none 0 0) (heapT [(ty, c)])) → (get l s ≠ [] → D (.slice (some ⟨127, 0, none⟩) (get l s).length (capU 1)) (withRow (heapT [(ty, c)]) 9 (strs (get l s)) false)) → CallSpec η Tryz.prog B f [.slice (some ⟨126, o, none⟩) l.length cap, .string ⟨⟨s⟩⟩] (heapT [(ty, c)]) D) :
    CallSpec η Tryz.prog B f [v, .string ⟨⟨s⟩⟩] h (valK [v, .string ⟨⟨s⟩⟩] h).sat := by
  show CallSpec η Tryz.prog B f [v, .string ⟨⟨s⟩⟩] h (KT.ite (getB (fieldsAt h v) s) (.ret (.slice none 0 0) h) (.ret (.slice (some ⟨h.next, 0, none⟩) (get (fieldsAt h v) s).length (capU 1)) (withRow h 9 (strs (get (fieldsAt h v) s)) false))).sat
  rw [k.at_]
  have hb : (getB l s = true ∧ get l s = []) ∨ (getB l s = false ∧ get l s ≠ []) := by
    unfold getB
    cases get l s with
    | nil => exact .inl ⟨rfl, rfl⟩
    | cons a b => exact .inr ⟨rfl, by simp⟩
  rcases k with ⟨rfl, rfl⟩ | ⟨r, o, ty, c, own, cap, rfl, hr, F⟩
  · refine (CallSpec.pure hη gs9 (fun _ _ => .cons (.slice0 _ _) (.cons (.string _) .nil)) (fun _ _ => .slice0 _ _) (c0 rfl) h).mono ?_
    rintro v1 h1 ⟨rfl, rfl⟩
    exact .inl ⟨rfl, rfl, rfl⟩
  · rcases hb with ⟨hb, he⟩ | ⟨hb, he⟩
    · refine (CallSpec.pureR (v := .slice none 0 0) (args := [.slice (some ⟨126, o, none⟩) l.length cap, .string ⟨⟨s⟩⟩]) hη gs9 (rows1 hr F.1) (.cons (.slice (σ := sigR fun _ => r) _ _ (by simp)) (.cons (.string _) .nil)) (fun _ _ => .slice0 _ _) (c1 F (fun _ => ⟨rfl, rfl⟩) fun h => absurd he h)).mono ?_
      rintro v1 h1 ⟨rfl, rfl⟩
      exact .inl ⟨hb, rfl, rfl⟩
    · refine (CallSpec.freshR (mk := fun r => .slice (some ⟨r, 0, none⟩) (get l s).length (capU 1)) (ty := 9) (c := strs (get l s)) (p := false) (args := [.slice (some ⟨126, o, none⟩) l.length cap, .string ⟨⟨s⟩⟩]) hη gs9 (rows1 hr F.1) (.cons (.slice (σ := sigR fun _ => r) _ _ (by simp)) (.cons (.string _) .nil)) (fun σ M r hr => .slice _ _ hr) (strs_all _) (c1 F (fun h => absurd h he) fun _ => ⟨rfl, rfl⟩)).mono ?_
      rintro v1 h1 ⟨rfl, rfl⟩
      exact .inr ⟨hb, rfl, rfl⟩
end TH
end Go.Ev

namespace Go.Ev
set_option linter.unusedVariables false
set_option linter.unusedSimpArgs false
open Go Go.Proofs Go.RowKit
variable {η : Nat → Value} {B : Bd}
namespace TH
set_option linter.unusedVariables false
set_option linter.unusedSimpArgs false
open TB TE
theorem joinS_eq (sep : List UInt8) : ∀ L, Lib.join L sep = joinS sep L
  | [] => Lib.join_nil _
  | [x] => Lib.join_one _ _
  | x :: y :: r => by
    have := joinS_eq sep (y :: r)
    unfold Lib.join List.intercalate at this ⊢
    rw [joinS, ← this]
    simp [List.intersperse]
theorem joinS_len (sep : List UInt8) (m : Nat) : ∀ L : List (List UInt8), (∀ x ∈ L, x.length ≤ m) → (joinS sep L).length ≤ L.length * (m + sep.length)
  | [], _ => by simp [joinS]
  | [x], h => by
    have := h x (by simp)
    simp only [joinS, List.length_singleton]; omega
  | x :: y :: r, h => by
    have h1 := h x (by simp)
    have h2 := joinS_len sep m (y :: r) fun z hz => h z (List.mem_cons_of_mem _ hz)
    simp only [joinS, List.length_append, List.length_cons, Nat.add_mul, Nat.one_mul] at h2 ⊢
    omega
theorem join_ok {h : AH} {r ty own : Nat} {L : List (List UInt8)} (sep : List UInt8) (hr : h.objs.get r = some (.cells ty (strs L) false own)) (hne : L ≠ []) (hL : L.length ≤ 1000) (hm : ∀ x ∈ L, x.length ≤ 1000000) (hsep : sep.length ≤ 1000) :
    CallSpec η Tryz.prog B 121 [.slice (some ⟨r, 0, none⟩) L.length (capU 1), .string ⟨⟨sep⟩⟩] h (KT.ret (.string ⟨⟨joinS sep L⟩⟩) h).sat := by
  refine CallSpec.ofCalls (v := .string ⟨⟨joinS sep L⟩⟩) fun ρ args' w hl p => ?_
  obtain ⟨x0, m0, e0, v0, hl⟩ := hl.inv_cons
  obtain ⟨x1, m1, e1, v1, hl⟩ := hl.inv_cons
  obtain rfl := hl.inv_nil
  obtain ⟨A⟩ := args'
  simp only at e0
  subst e1; subst e0
  cases v1
  obtain ⟨b, d, n, o, h1, h2, ⟨C, ty', lo, hi, rfl, k⟩, _⟩ := p.hr.obj r _ hr
  generalize hcu : capU 1 = cu at v0
  cases v0 with
  | slice _ _ h3 hc => rw [← hcu, isU_capU] at hc; cases hc
  | sliceU _ s1 c h3 hs hc hle =>
    rw [h1] at h3
    injection h3 with h3
    injection h3 with q1 q2
    injection q2 with q2 q3
    subst q1; subst q2; subst q3
    have hb : b < w.heap.size := by
      rcases Nat.lt_or_ge b w.heap.size with h | h
      · exact h
      · rw [Array.getElem?_eq_none h] at h2; cases h2
    have hcell : ∀ (j : Nat) (x : ByteArray), (L.map fun s => (⟨⟨s⟩⟩ : ByteArray))[j]? = some x → w.cell? ⟨b, d + 0 + j, none⟩ = some (.string x) := by
      intro j x hx
      rw [List.getElem?_map, Option.map_eq_some_iff] at hx
      obtain ⟨s, hs, rfl⟩ := hx
      obtain ⟨y, hy, hv⟩ := k.at_ j (.string ⟨⟨s⟩⟩) (by unfold strs; rw [List.getElem?_map, hs]; rfl)
      cases hv
      unfold World.cell?
      simp only [h2]
      obtain ⟨C⟩ := C
      simp only at hy
      simp [hy]
    have hlen := joinS_len sep 1000000 L hm
    have hmap : (L.map fun s => (⟨⟨s⟩⟩ : ByteArray)).map (fun x => x.data.toList) = L := by
      rw [List.map_map]; exact List.map_id _
    have hll : (L.map fun s => (⟨⟨s⟩⟩ : ByteArray)).length = L.length := List.length_map _
    have key := Tryz.strings_Join b (d + 0) c (L.map fun s => (⟨⟨s⟩⟩ : ByteArray)) ⟨⟨sep⟩⟩ w hcell hb (by rw [hll]; omega) (by rw [hll]; exact hle) (by
      rw [hmap, joinS_eq]
      have := Nat.mul_le_mul hL (show 1000000 + sep.length ≤ 1001000 by omega)
      show (joinS sep L).length ≤ _
      omega)
    rw [hmap, joinS_eq, hll] at key
    refine key.mono ?_
    rintro e w' ⟨rfl, hw⟩
    exact ⟨_, rfl, .string _, hw⟩
end TH
end Go.Ev

namespace Go.Ev
set_option linter.unusedVariables false
set_option linter.unusedSimpArgs false
open Go Go.Proofs Go.RowKit
variable {η : Nat → Value} {B : Bd}
namespace TH
set_option linter.unusedVariables false
set_option linter.unusedSimpArgs false
open TB TE
theorem list_row {h : AH} {r ty own n cap : Nat} {L : List (List UInt8)} (hr : h.objs.get r = some (.cells ty (strs L) false own)) (hn : n = L.length) : listAt h (.slice (some ⟨r, 0, none⟩) n cap) = L := by
  subst hn
  unfold listAt
  simp only [hr]
  unfold strs
  rw [List.take_of_length_le (by simp), List.map_map]
  exact List.map_id _
end TH
end Go.Ev

namespace Go.Ev
set_option linter.unusedVariables false
set_option linter.unusedSimpArgs false
open Go Go.Proofs Go.RowKit
variable {η : Nat → Value} {B : Bd}
namespace TH
set_option linter.unusedVariables false
set_option linter.unusedSimpArgs false
open TB TE
theorem ix_gen (x : UInt8) : ∀ s : List UInt8, (ix s x = -1 ∧ ∀ c ∈ s, c ≠ x) ∨ (∃ a r, s = a ++ x :: r ∧ (∀ c ∈ a, c ≠ x) ∧ ix s x = (a.length : Int))
  | [] => .inl ⟨rfl, fun c hc => by cases hc⟩
  | b :: s => by
    have hd : ix (b :: s) x = if (b == x) = true then 0 else if (ix s x == -1) = true then -1 else ix s x + 1 := rfl
    by_cases hb : b = x
    · subst hb
      exact .inr ⟨[], s, rfl, fun c hc => (by cases hc), (by rw [hd, if_pos (by simp)]; rfl)⟩
    · have hb' : ¬ (b == x) = true := by simpa using hb
      rcases ix_gen x s with ⟨h1, h2⟩ | ⟨a, r, h1, h2, h3⟩
      · refine .inl ⟨by rw [hd, if_neg hb', h1]; rfl, fun c hc => ?_⟩
        rcases List.mem_cons.1 hc with rfl | hc
        · exact hb
        · exact h2 c hc
      · refine .inr ⟨b :: a, r, by rw [h1]; rfl, fun c hc => ?_, ?_⟩
        · rcases List.mem_cons.1 hc with rfl | hc
          · exact hb
          · exact h2 c hc
        · rw [hd, if_neg hb', if_neg (by rw [h3, beq_iff_eq]; omega), h3, List.length_cons]; omega
theorem rv_cut {σ : Nat → Nat} {M : Nat} {w : Bool} (n v : List UInt8) (b : Bool) : RV σ M w (.tuple ⟨[.string ⟨⟨n⟩⟩, .string ⟨⟨v⟩⟩, .bool b]⟩) (.tuple ⟨[.string ⟨⟨n⟩⟩, .string ⟨⟨v⟩⟩, .bool b]⟩) := .tuple rfl fun i x y hx hy => by
  rw [hx] at hy; injection hy with hy; subst hy
  match i, hx with
  | 0, hx => simp at hx; subst hx; exact .string _
  | 1, hx => simp at hx; subst hx; exact .string _
  | 2, hx => simp at hx; subst hx; exact .bool _
end TH
end Go.Ev

namespace Go.Ev
set_option linter.unusedVariables false
set_option linter.unusedSimpArgs false
open Go Go.Proofs Go.RowKit
variable {η : Nat → Value} {B : Bd}
namespace TR
set_option linter.unusedVariables false
set_option linter.unusedSimpArgs false
open TB TE
def kindCells : List Value := (List.range 128).map fun c => .int .u8 (kindN (UInt8.ofNat c))
abbrev tabK : List (Nat × TypeId × List Value) := [(1, 191, kindCells)]
abbrev tabE : List (Nat × TypeId × List Value) := [(5, 114, [.chan (some 0)])]
abbrev tabQ : List (Nat × TypeId × List Value) := [(1, 191, kindCells), (5, 114, [.chan (some 0)])]
theorem kind_flat : kindCells.all flatV = true := by decide +kernel
theorem tabQ_ok : TabOk Tryz.prog tabQ := by
  intro x hx
  simp only [List.mem_cons, List.not_mem_nil, or_false] at hx
  rcases hx with rfl | rfl
  · exact ⟨of_decide_eq_true (by kernel_rfl), kind_flat⟩
  · exact ⟨of_decide_eq_true (by kernel_rfl), rfl⟩
theorem tabK_ok : TabOk Tryz.prog tabK := fun x hx => tabQ_ok x (by simp only [List.mem_cons, List.not_mem_nil, or_false] at hx ⊢; exact .inl hx)
theorem hasK {h : AH} (ht : HasT h tabQ) : HasT h tabK := fun x hx => ht x (by simp only [List.mem_cons, List.not_mem_nil, or_false] at hx ⊢; exact .inl hx)
theorem kind_at : ∀ c : UInt8, c.toNat < 128 → kindCells[c.toNat]? = some (.int .u8 (kindN c)) := by
  intro c hc
  unfold kindCells
  rw [List.getElem?_map, List.getElem?_range hc]
  simp
theorem kind_hi (c : UInt8) : 128 ≤ c.toNat → kindN c = 0 := by
  have := forall_u8 (p := fun c => decide (c.toNat < 128) || decide (kindN c = 0)) (by decide +kernel) c
  intro h
  rw [decide_eq_false (by omega), Bool.false_or] at this
  exact of_decide_eq_true this
theorem kind_c (hη : OneCells η) (hmix : Tryz.prog.follows .mixedOrders = true) {h : AH} (ht : HasT h tabQ) (c : UInt8) :
    CallSpec η Tryz.prog B 107 [.int .u8 (c.toNat : Int)] h (KT.ret (.int .u8 (kindN c)) h).sat := by
  have hlt := c.toNat_lt
  refine CallSpec.pureT (v := .int .u8 (kindN c)) (hs := heapP Tryz.prog tabK) hη gs9 tabK_ok onlyP (hasK ht) (.cons (.int _ _) .nil) (fun _ _ => .int _ _) ?_
  have e : heapP Tryz.prog tabK = QKind.H0 kindCells c := by kernel_rfl
  rw [e]
  refine QKind.enter hη hmix (reg0 hη hmix) kindCells c ?_
  simp only [W.holds, true_and, and_true, decide_eq_true_eq, decide_eq_false_iff_not, Nat.mul_one, Nat.zero_add, Int.toNat_natCast, Value.int.injEq]
  rw [IntWalk.i64_in _ ⟨by omega, by omega⟩]
  refine ⟨fun h => (kind_hi c (by omega)).symm, fun h => ⟨⟨by omega, by omega⟩, fun _ => ?_⟩⟩
  have hk := kind_at c (by omega)
  have hi : intAt kindCells c.toNat = kindN c := by unfold intAt; rw [hk]
  rw [hi]
  exact ⟨hk, fun _ => rfl⟩
theorem encN_ok (hη : OneCells η) (hmix : Tryz.prog.follows .mixedOrders = true) (s : List UInt8) (hs : s.length ≠ 3) (h : AH) :
    CallSpec η Tryz.prog B 106 [.string ⟨⟨s⟩⟩] h (KT.ret (.tuple ⟨[.int .u8 0, .bool false]⟩) h).sat := by
  refine CallSpec.bare hη gs9 (fun _ _ => str_args) (fun _ _ => RV.tup2 (.int _ _) (.bool _)) (fun _ _ => RV.tup2 (.int _ _) (.bool _)) ?_ h
  refine QEncN.enter hη hmix (reg0 hη hmix) (D := fun v _ => v = .tuple ⟨[.int .u8 0, .bool false]⟩) s ?_
  simp only [W.holds, true_and, bne_iff_ne, ne_eq, bne_eq_false_iff_eq]
  exact ⟨fun _ => trivial, fun h => by omega⟩
theorem ct_none {b : UInt8} {s : List UInt8} (h : ∀ c ∈ s, c ≠ b) : ctL b s = s ∧ ctR b s = [] ∧ ctB b s = false := by
  have e : s.takeWhile (· != b) = s := by
    induction s with
    | nil => rfl
    | cons x r ih => rw [List.takeWhile_cons_of_pos (by simpa using h x (by simp)), ih fun c hc => h c (by simp [hc])]
  refine ⟨e, by unfold ctR ctL; rw [e, List.drop_length]; rfl, ?_⟩
  unfold ctB
  rw [List.any_eq_false]
  intro x hx; simpa using h x hx
theorem ct_some {b : UInt8} {a r : List UInt8} (h : ∀ c ∈ a, c ≠ b) : ctL b (a ++ b :: r) = a ∧ ctR b (a ++ b :: r) = r ∧ ctB b (a ++ b :: r) = true := by
  have e : (a ++ b :: r).takeWhile (· != b) = a := by
    induction a with
    | nil => simp
    | cons x a ih => rw [List.cons_append, List.takeWhile_cons_of_pos (by simpa using h x (by simp)), ih fun c hc => h c (by simp [hc])]
  refine ⟨e, by unfold ctR ctL; rw [e, List.drop_left]; rfl, by unfold ctB; simp⟩
theorem si_b (b : UInt8) (s : List UInt8) (h : AH) : CallSpec η Tryz.prog B 169 [.string ⟨⟨s⟩⟩, .string ⟨⟨[b]⟩⟩] h (KT.ret (.int .i64 (TH.ix s b)) h).sat := by
  refine CallSpec.ofCalls (v := .int .i64 (TH.ix s b)) fun ρ args' w hl p => ?_
  obtain rfl := args_inv rfl hl
  refine (Tryz.stringslite_Index_one ⟨⟨s⟩⟩ b w).mono ?_
  rintro e w' ⟨rfl, rfl⟩
  exact ⟨_, rfl, .int _ _, Below.refl _ _⟩
theorem ct_ok (hη : OneCells η) (hmix : Tryz.prog.follows .mixedOrders = true) (b : UInt8) (s : List UInt8) (hs : s.length ≤ 1000000) (h : AH) :
    CallSpec η Tryz.prog B 79 [.string ⟨⟨s⟩⟩, .string ⟨⟨[b]⟩⟩] h (KT.ret (.tuple ⟨[.string ⟨⟨ctL b s⟩⟩, .string ⟨⟨ctR b s⟩⟩, .bool (ctB b s)]⟩) h).sat := by
  refine CallSpec.bare (v := .tuple ⟨[.string ⟨⟨ctL b s⟩⟩, .string ⟨⟨ctR b s⟩⟩, .bool (ctB b s)]⟩) hη gs9 (fun _ _ => .cons (.string _) (.cons (.string _) .nil)) (fun σ M => TH.rv_cut _ _ _) (fun σ M => TH.rv_cut _ _ _) ?_ h
  refine QCut.enter hη hmix (reg0 hη hmix) _ _ ?_
  simp only [W.holds, true_and, and_true, true_implies, List.headD_cons, decide_eq_true_eq, decide_eq_false_iff_not, List.drop_zero, Nat.sub_zero, Int.toNat_natCast, Nat.le_refl, Int.le_refl]
  refine ⟨si_b b s _, ?_⟩
  rcases TH.ix_gen b s with ⟨h1, h⟩ | ⟨a, r, rfl, h, h1⟩
  · obtain ⟨c1, c2, c3⟩ := ct_none h
    simp only [h1, c1, c2, c3]
    exact ⟨fun h => absurd h (by decide), fun _ => trivial⟩
  · obtain ⟨c1, c2, c3⟩ := ct_some (r := r) h
    have w1 : IntKind.i64.wrap ((a.length : Int) + ((1 : Nat) : Int)) = ((a.length + 1 : Nat) : Int) := wrapA (k := 1) (by simp only [List.length_append] at hs; omega)
    have w1' : IntKind.i64.wrap ((a.length : Int) + 1) = ((a.length + 1 : Nat) : Int) := w1
    simp only [h1, c1, c2, c3, w1, w1', Int.toNat_natCast]
    simp only [List.length_append, List.length_cons, decide_eq_true_eq, decide_eq_false_iff_not] at hs ⊢
    refine ⟨fun _ => ⟨⟨by omega, by omega⟩, fun _ => ⟨⟨by omega, by omega⟩, fun _ => ?_⟩⟩, fun h => absurd (by omega) h⟩
    rw [List.take_left, show List.drop (a.length + 1) (a ++ b :: r) = r from by rw [← List.drop_drop, List.drop_left]; rfl, List.take_of_length_le (by omega)]
/-- Units of a target: bytes one by one, but a percent sign with the two bytes after it. -/
def unitL : List UInt8 → Nat
  | [] => 0
  | c :: r => if c == 37 then min 3 (r.length + 1) else 1
theorem encU_no {u : List UInt8} (h : u.length ≠ 3) : encU u = false := by
  unfold encU
  split
  · simp at h
  · rfl
theorem encU_of (c a b : UInt8) : encU [c, a, b] = (hexB a && hexB b) := rfl
theorem kind_0 (c : UInt8) : (kindN c == 0) = !(c == 63 || plnB c || resB c) :=
  eq_of_beq (forall_u8 (p := fun c => (kindN c == 0) == !(c == 63 || plnB c || resB c)) (by decide +kernel) c)
theorem kind_37 : (kindN 37 == 0) = true := by decide
/-- What the package's loop over units finds, unit by unit. -/
theorem okT_unit (c : UInt8) (r : List UInt8) : okT (c :: r) = ((encU ((c :: r).take (unitL (c :: r))) || !(kindN c == 0)) && okT ((c :: r).drop (unitL (c :: r)))) := by
  rw [okT_cons]
  by_cases hc : c = 37
  · subst hc
    match r with
    | [] => rw [encB_short (by simp)]; decide
    | [a] =>
      rw [encB_short (by simp)]
      have : unitL [37, a] = 2 := by unfold unitL; simp
      rw [this, kind_37]
      rw [show ((37 : UInt8) == 63 || plnB 37 || resB 37) = false from by decide]
      rw [show encU (([37, a] : List UInt8).take 2) = false from rfl]
      simp
    | a :: b :: t =>
      have : unitL (37 :: a :: b :: t) = 3 := by unfold unitL; simp
      rw [this, encB_cons, kind_37, show (37 :: a :: b :: t).take 3 = [37, a, b] from rfl, encU_of, show (37 :: a :: b :: t).drop 3 = t from rfl, show (a :: b :: t).drop 2 = t from rfl]
      rw [show ((37 : UInt8) == 63 || plnB 37 || resB 37) = false from by decide]
      cases hexB a <;> cases hexB b <;> simp
  · have : unitL (c :: r) = 1 := by unfold unitL; exact if_neg (by simpa using hc)
    rw [this, encB_ne hc, show (c :: r).take 1 = [c] from rfl, show encU [c] = false from rfl, show (c :: r).drop 1 = r from rfl, kind_0]
    simp
end TR
end Go.Ev

namespace Go.Ev
set_option linter.unusedVariables false
set_option linter.unusedSimpArgs false
open Go Go.Proofs Go.RowKit
variable {η : Nat → Value} {B : Bd}
namespace TR
set_option linter.unusedVariables false
set_option linter.unusedSimpArgs false
open TB TE
/-- What encoded returns, of units. -/
def EncOk (η : Nat → Value) : Prop := ∀ {B : Bd} (u : List UInt8), (u.length = 3 → ∃ a b, u = [37, a, b]) → ∀ h : AH, HasT h tabQ → CallSpec η Tryz.prog B 106 [.string ⟨⟨u⟩⟩] h (KT.ret (.tuple ⟨[.int .u8 ((encV u).toNat : Int), .bool (encU u)]⟩) h).sat
theorem hasQ2 {h : AH} (h1 : h.objs.get 1 = some (.cells 191 kindCells true 0)) (h2 : h.objs.get 5 = some (.cells 114 [.chan (some 0)] true 0)) : HasT h tabQ := by
  intro x hx
  simp only [List.mem_cons, List.not_mem_nil, or_false] at hx
  rcases hx with rfl | rfl
  · exact h1
  · exact h2
theorem kind_nn : NoNames kindCells := TH.nn_bare (by decide +kernel)
theorem min_int (n : Nat) : (if (if false = true then decide ((n : Int) > 3) else decide ((n : Int) < 3)) = true then (n : Int) else 3) = ((min 3 n : Nat) : Int) := by
  by_cases h : n < 3
  · simp [h]; omega
  · simp [h]; omega
theorem mn3_eq (n : Nat) : mn3 n = ((min 3 n : Nat) : Int) := min_int n
theorem unit_three {s : List UInt8} {c : UInt8} {r : List UInt8} (hs : s = c :: r) : ((s.take (unitL s)).length = 3 → ∃ a b, s.take (unitL s) = [37, a, b]) := by
  subst hs
  by_cases hc : c = 37
  · subst hc
    match r with
    | [] => intro h; simp [unitL] at h
    | [a] => intro h; simp [unitL] at h
    | a :: b :: t => intro _; exact ⟨a, b, by have : unitL (37 :: a :: b :: t) = 3 := by unfold unitL; simp
                                              rw [this]; rfl⟩
  · have : unitL (c :: r) = 1 := by unfold unitL; exact if_neg (by simpa using hc)
    rw [this]; intro h; simp at h
set_option maxRecDepth 20000 in
theorem iof_can (hη : OneCells η) (hmix : Tryz.prog.follows .mixedOrders = true) (henc : EncOk η) (s : List UInt8) (hs : s.length ≤ 900000) :
    CallSpec η Tryz.prog B 64 [.string ⟨⟨s⟩⟩] (heapP Tryz.prog tabQ) fun v1 h1 => v1 = .bool (okU s) ∧ h1 = heapP Tryz.prog tabQ := by
  have e : heapP Tryz.prog tabQ = QIof.H0 kindCells s := by kernel_rfl
  rw [e]
  have nnk := kind_nn
  have cut0 := fun (r : List UInt8) => QIof.cut0 (η := η) (B := B) (D := fun v1 h1 => v1 = .bool (okU s) ∧ h1 = QIof.H0 kindCells s) hη hmix (reg0 hη hmix) kindCells s [.string ⟨⟨r⟩⟩]
  refine QIof.enter hη hmix (reg0 hη hmix) kindCells s ?_
  simp only [W.holds, true_and, and_true, true_implies, show ∀ r : List UInt8, strAt [Value.string ⟨⟨r⟩⟩] 0 = r from fun _ => rfl, List.getElem?_cons_zero, min_int, Int.toNat_natCast, Nat.sub_zero, List.drop_zero, Nat.le_refl, Int.le_refl, decide_eq_true_eq, decide_eq_false_iff_not, Bool.not_eq_true', Bool.not_eq_false', beq_iff_eq, beq_eq_false_iff_ne, ne_eq] at cut0 ⊢
  have fin : ∀ b : Bool, okT s = b → okU s = (b && (List.take 1 s == #[47].toList)) := by
    intro b hb
    unfold okU
    cases s with
    | nil => cases b <;> rfl
    | cons c r =>
      rw [show (List.take 1 (c :: r) == #[47].toList) = (c == 47) from by
        show ((c :: ([] : List UInt8)) == [47]) = _
        simp]
      simp only [hb]
  have loop : ∀ (n : Nat) (r : List UInt8), r.length ≤ n → r.length ≤ s.length → okT s = okT r → RunD η Tryz.prog B 64 (QIof.H0 kindCells s) [0, 1] (QIof.S0 kindCells s [.string ⟨⟨r⟩⟩] fun _ => undef) (QF Tryz.prog 126 fun v1 h1 => v1 = .bool (okU s) ∧ h1 = QIof.H0 kindCells s) := by
    intro n
    have done0 : okT s = okT [] → RunD η Tryz.prog B 64 (QIof.H0 kindCells s) [0, 1] (QIof.S0 kindCells s [.string ⟨⟨[]⟩⟩] fun _ => undef) (QF Tryz.prog 126 fun v1 h1 => v1 = .bool (okU s) ∧ h1 = QIof.H0 kindCells s) := by
      intro he
      rw [okT_nil] at he
      have hf := fin true he
      refine cut0 [] ⟨fun h => absurd rfl h, fun _ => ⟨fun h1 => ⟨by omega, fun _ => ⟨nnk, fun _ => ?_⟩⟩, fun h1 => ⟨nnk, fun _ => ?_⟩⟩⟩
      · rw [hf, Bool.true_and]
      · have : s = [] := List.length_eq_zero_iff.1 (by omega)
        rw [hf, this]; rfl
    induction n with
    | zero =>
      intro r hr hl he
      obtain rfl : r = [] := List.length_eq_zero_iff.1 (by omega)
      exact done0 he
    | succ n ih =>
      intro r hr hl he
      cases r with
      | nil => exact done0 he
      | cons c t =>
        rw [List.length_cons] at hr hl
        have c1 := cut0 (c :: t)
        have hb : byteAt (c :: t) 0 = (c.toNat : Int) := (at_cons (s := c :: t) (i := 0) rfl).2.1
        have hbt : ∀ k, 1 ≤ k → byteAt ((c :: t).take k) 0 = (c.toNat : Int) := fun k hk => by
          obtain ⟨m, rfl⟩ : ∃ m, k = m + 1 := ⟨k - 1, by omega⟩
          exact (at_cons (s := c :: t.take m) (i := 0) rfl).2.1
        have e37 : ((c.toNat : Int) = 37) ↔ c = 37 := eqI (n := 37) (by decide)
        have hu := okT_unit c t
        have hrest : ∀ k, List.take ((c :: t).length - k) ((c :: t).drop k) = (c :: t).drop k := fun k => List.take_of_length_le (by rw [List.length_drop]; exact Nat.le_refl _)
        have hun : 1 ≤ unitL (c :: t) ∧ unitL (c :: t) ≤ (c :: t).length := by
          unfold unitL
          simp only [List.length_cons]
          split <;> omega
        have henc' := henc (B := B) ((c :: t).take (unitL (c :: t))) (unit_three rfl)
        have kd := fun {h : AH} (ht : HasT h tabQ) => kind_c (B := B) hη hmix ht c
        have hlt : ((c :: t).take (unitL (c :: t))).length = unitL (c :: t) := by rw [List.length_take]; omega
        have next : encU ((c :: t).take (unitL (c :: t))) = true ∨ (kindN c == 0) = false → RunD η Tryz.prog B 64 (QIof.H0 kindCells s) [0, 1] (QIof.S0 kindCells s [.string ⟨⟨(c :: t).drop (unitL (c :: t))⟩⟩] fun _ => undef) (QF Tryz.prog 126 fun v1 h1 => v1 = .bool (okU s) ∧ h1 = QIof.H0 kindCells s) := by
          intro h
          refine ih _ (by rw [List.length_drop, List.length_cons]; omega) (by rw [List.length_drop, List.length_cons]; omega) ?_
          rw [he, hu]
          rcases h with h | h
          · rw [h]; simp
          · rw [h]; simp
        have bad : encU ((c :: t).take (unitL (c :: t))) = false → (kindN c == 0) = true → false = okU s := by
          intro h1 h2
          rw [fin false (by rw [he, hu, h1, h2]; rfl)]; rfl
        by_cases hc : c = 37
        · have hm : min 3 (c :: t).length = unitL (c :: t) := by
            have : unitL (c :: t) = min 3 (t.length + 1) := if_pos (by simpa using hc)
            rw [this, List.length_cons]
          rw [hm, hb] at c1
          rw [hbt _ hun.1] at c1
          simp only [hrest, Int.toNat_natCast, byte_rt, hlt] at c1
          refine c1 ⟨fun _ => ⟨by simp only [List.length_cons]; omega, fun _ => ⟨fun _ => ⟨⟨by omega, by omega⟩, fun _ => ⟨henc' _ (hasQ2 rfl rfl), fun h1 => ⟨by omega, fun _ => ⟨kd (hasQ2 rfl rfl), fun h2 => ⟨nnk, fun _ => congrArg Value.bool (bad h1 (by simpa using h2))⟩, fun h2 => ⟨⟨by omega, by omega⟩, fun _ => ⟨by simp, fun _ => next (.inr (by simpa using h2))⟩⟩⟩⟩, fun h1 => ⟨⟨by omega, by omega⟩, fun _ => ⟨by simp, fun _ => next (.inl h1)⟩⟩⟩⟩, fun h => absurd (e37.2 hc) h⟩⟩, fun h => absurd h (by simp)⟩
        · have hm : unitL (c :: t) = 1 := by unfold unitL; exact if_neg (by simpa using hc)
          rw [hm] at henc' next bad hlt
          rw [hb, hbt 1 (Nat.le_refl _)] at c1
          simp only [hrest, Int.toNat_natCast, byte_rt, hlt] at c1
          have hl1 : (1 : Int) ≤ ((c :: t).length : Int) := by rw [List.length_cons]; omega
          refine c1 ⟨fun _ => ⟨by simp only [List.length_cons]; omega, fun _ => ⟨fun h => absurd (e37.1 h) hc, fun _ => ⟨⟨by omega, hl1⟩, fun _ => ⟨henc' _ (hasQ2 rfl rfl), fun h1 => ⟨by omega, fun _ => ⟨kd (hasQ2 rfl rfl), fun h2 => ⟨nnk, fun _ => congrArg Value.bool (bad h1 (by simpa using h2))⟩, fun h2 => ⟨⟨by omega, hl1⟩, fun _ => ⟨by simp, fun _ => next (.inr (by simpa using h2))⟩⟩⟩⟩, fun h1 => ⟨⟨by omega, hl1⟩, fun _ => ⟨by simp, fun _ => next (.inl h1)⟩⟩⟩⟩⟩⟩, fun h => absurd h (by simp)⟩
  exact ⟨nnk, fun _ => loop s.length s (Nat.le_refl _) (Nat.le_refl _) rfl⟩
end TR
end Go.Ev

namespace Go.Ev
set_option linter.unusedVariables false
set_option linter.unusedSimpArgs false
open Go Go.Proofs Go.RowKit
variable {η : Nat → Value} {B : Bd}
namespace TR
set_option linter.unusedVariables false
set_option linter.unusedSimpArgs false
open TB TE
theorem iof_ok (hη : OneCells η) (hmix : Tryz.prog.follows .mixedOrders = true) (henc : EncOk η) (s : List UInt8) (hs : s.length ≤ 900000) {h : AH} (ht : HasT h tabQ) :
    CallSpec η Tryz.prog B 64 [.string ⟨⟨s⟩⟩] h (KT.ret (.bool (okU s)) h).sat :=
  CallSpec.pureT (v := .bool (okU s)) (hs := heapP Tryz.prog tabQ) hη gs9 tabQ_ok onlyP ht (.cons (.string _) .nil) (fun _ _ => .bool _) (iof_can hη hmix henc s hs)
theorem tgtE_okU (s : List UInt8) : tgtE s = if 500 < s.length then 3 else if okU s = true then 0 else 6 := by
  unfold tgtE okU
  split
  · rfl
  · cases s with
    | nil => rfl
    | cons c r => simp only [Bool.and_comm]
theorem chkT_ok (hη : OneCells η) (hmix : Tryz.prog.follows .mixedOrders = true) (henc : EncOk η) (s : List UInt8) (hs : s.length ≤ 900000) {h : AH} (ht : HasT h tabQ) :
    CallSpec η Tryz.prog B 31 [.string ⟨⟨s⟩⟩] h (KT.ret (.int .i64 (tgtE s)) h).sat := by
  refine CallSpec.pureT (v := .int .i64 (tgtE s)) (hs := heapP Tryz.prog tabQ) hη gs9 tabQ_ok onlyP ht (.cons (.string _) .nil) (fun _ _ => .int _ _) ?_
  have e : heapP Tryz.prog tabQ = QChk.H0 kindCells s := by kernel_rfl
  rw [e]
  refine QChk.enter hη hmix (reg0 hη hmix) kindCells s ?_
  simp only [W.holds, true_and, and_true, decide_eq_true_eq, decide_eq_false_iff_not, Bool.not_eq_true', Bool.not_eq_false', Value.int.injEq]
  rw [tgtE_okU]
  refine ⟨fun h => by rw [if_pos (by omega)], fun h => ⟨iof_ok hη hmix henc s hs (hasQ2 rfl rfl), fun h1 => ?_, fun h1 => ?_⟩⟩
  · rw [if_neg (by omega), h1]; rfl
  · rw [if_neg (by omega), h1]; rfl
theorem ct63 (s : List UInt8) : ctL 63 s = markL s ∧ ctR 63 s = qry s ∧ ctB 63 s = hasQ s := ⟨rfl, rfl, rfl⟩
theorem ct_63 (hη : OneCells η) (hmix : Tryz.prog.follows .mixedOrders = true) (s : List UInt8) (hs : s.length ≤ 900000) (h : AH) :
    CallSpec η Tryz.prog B 79 [.string ⟨⟨s⟩⟩, .string ⟨#[63]⟩] h (KT.ret (.tuple ⟨[.string ⟨⟨markL s⟩⟩, .string ⟨⟨qry s⟩⟩, .bool (hasQ s)]⟩) h).sat := ct_ok hη hmix 63 s (by omega) h
theorem spl_ok (hη : OneCells η) (hmix : Tryz.prog.follows .mixedOrders = true) (henc : EncOk η) (s : List UInt8) (hs : s.length ≤ 900000) {h : AH} (ht : HasT h tabQ) :
    CallSpec η Tryz.prog B 14 [.string ⟨⟨s⟩⟩] h (splK [.string ⟨⟨s⟩⟩] h).sat := by
  refine CallSpec.pureT (v := .tuple ⟨[.string ⟨⟨splP s⟩⟩, .string ⟨⟨splQ s⟩⟩, .bool (splB s), .int .i64 (tgtE s)]⟩) (hs := heapP Tryz.prog tabQ) hη gs9 tabQ_ok onlyP ht (.cons (.string _) .nil) (fun σ M => rv4 _ _ _ _) ?_
  have e : heapP Tryz.prog tabQ = QSpl.H0 kindCells s := by kernel_rfl
  rw [e]
  refine QSpl.enter hη hmix (reg0 hη hmix) kindCells s ?_
  have e63 : (#[(63 : UInt8)].toList.headD (0 : UInt8)) = 63 := rfl
  simp only [W.holds, true_and, and_true, true_implies, bne_iff_ne, ne_eq, bne_eq_false_iff_eq, e63, (ct63 s).1, (ct63 s).2.1, (ct63 s).2.2]
  have hm := mark_le s
  have hq : (qry s).length ≤ s.length := by unfold qry; rw [List.length_drop, List.length_drop]; omega
  refine ⟨chkT_ok hη hmix henc s hs (hasQ2 rfl rfl), fun he => ?_, fun he => ⟨ct_63 hη hmix s hs _, clone_ok hη hmix _ (by omega) _, clone_ok hη hmix _ (by omega) _, ?_⟩⟩
  · unfold splP splQ splB
    rw [if_neg he, if_neg he, show (tgtE s == 0) = false from by rw [beq_eq_false_iff_ne]; exact he]; rfl
  · unfold splP splQ splB
    rw [if_pos he, if_pos he, he]; rfl
end TR
end Go.Ev

namespace Go.Ev
set_option linter.unusedVariables false
set_option linter.unusedSimpArgs false
open Go Go.Proofs Go.RowKit
variable {η : Nat → Value} {B : Bd}
namespace TR
set_option linter.unusedVariables false
set_option linter.unusedSimpArgs false
open TB TE
theorem upperB_eq (l : List UInt8) : Lib.toUpperA l = l.map upB := by
  unfold Lib.toUpperA
  congr 1
  funext c
  exact eq_of_beq (forall_u8 (p := fun c => Lib.upperB c == upB c) (by decide +kernel) c)
theorem up_ok (u : List UInt8) (hu : u.length ≤ 1000000) (ha : ∀ c ∈ u, c.toNat < 128) (h : AH) : CallSpec η Tryz.prog B 122 [.string ⟨⟨u⟩⟩] h (KT.ret (.string ⟨⟨u.map upB⟩⟩) h).sat := by
  refine CallSpec.ofCalls (v := .string ⟨⟨u.map upB⟩⟩) fun ρ args' w hl p => ?_
  obtain rfl := args_inv rfl hl
  refine (Tryz.strings_ToUpper_ascii ⟨⟨u⟩⟩ w (by show u.length ≤ _; omega) (fun j b hb => ha b (List.mem_of_getElem? hb))).mono ?_
  rintro e w' ⟨rfl, hb⟩
  refine ⟨_, rfl, ?_, hb⟩
  rw [upperB_eq]
  exact .string _
/-- A unit of a target without faults, in normal form. -/
def decU (u : List UInt8) : List UInt8 := if encU u then (if plnB (encV u) then [encV u] else u.map upB) else u
theorem hexU_up {c : UInt8} (h : hexB c = true) : upB c = hexU (hexI c).toNat := by
  have := forall_u8 (p := fun c => !hexB c || (upB c == hexU (hexI c).toNat)) (by decide +kernel) c
  rw [h] at this
  simpa using this
theorem encX_div {a b : UInt8} (ha : hexB a = true) (hb : hexB b = true) : (encX a b).toNat / 16 = (hexI a).toNat ∧ (encX a b).toNat % 16 = (hexI b).toNat := by
  obtain ⟨a0, a1⟩ := hex_range ha
  obtain ⟨b0, b1⟩ := hex_range hb
  obtain ⟨m, hm⟩ := Int.eq_ofNat_of_zero_le a0
  obtain ⟨n, hn⟩ := Int.eq_ofNat_of_zero_le b0
  have e : (16 * hexI a + hexI b).toNat = 16 * m + n := by omega
  have : (encX a b).toNat = 16 * m + n := by
    unfold encX
    rw [e, UInt8.toNat_ofNat']
    exact Nat.mod_eq_of_lt (by omega)
  rw [this]
  have ea : (hexI a).toNat = m := by omega
  have eb : (hexI b).toNat = n := by omega
  rw [ea, eb]
  omega
theorem hex_ascii {c : UInt8} (h : hexB c = true) : c.toNat < 128 := by
  have := forall_u8 (p := fun c => !hexB c || decide (c.toNat < 128)) (by decide +kernel) c
  rw [h] at this
  simpa using this
/-- Of a target without faults: its first unit. -/
theorem unit_ok {c : UInt8} {t : List UInt8} (h : okT (c :: t) = true) : dec (c :: t) = decU ((c :: t).take (unitL (c :: t))) ++ dec ((c :: t).drop (unitL (c :: t))) ∧ okT ((c :: t).drop (unitL (c :: t))) = true ∧
    (encU ((c :: t).take (unitL (c :: t))) = true → ∀ x ∈ (c :: t).take (unitL (c :: t)), x.toNat < 128) := by
  by_cases hc : c = 37
  · subst hc
    rw [okT_cons] at h
    cases he : encB (37 :: t) with
    | false =>
      rw [he] at h
      rw [show ((37 : UInt8) == 63 || plnB 37 || resB 37) = false from by decide] at h
      simp at h
    | true =>
      rw [he, if_pos rfl] at h
      obtain ⟨_, a, b, r, rfl, ha, hb⟩ := encB_some he
      have hu : unitL (37 :: a :: b :: r) = 3 := by unfold unitL; simp
      rw [hu, show (37 :: a :: b :: r).take 3 = [37, a, b] from rfl, show (37 :: a :: b :: r).drop 3 = r from rfl]
      refine ⟨?_, h, fun _ x hx => ?_⟩
      · rw [dec_yes ha hb]
        congr 1
        obtain ⟨d1, d2⟩ := encX_div ha hb
        have ev : encV [37, a, b] = encX a b := if_pos (by rw [ha, hb]; rfl)
        unfold decU out3
        rw [encU_of, ha, hb, ev, d1, d2, List.map_cons, List.map_cons, List.map_cons, hexU_up ha, hexU_up hb]
        rfl
      · simp only [List.mem_cons, List.not_mem_nil, or_false] at hx
        rcases hx with rfl | rfl | rfl
        · decide
        · exact hex_ascii ha
        · exact hex_ascii hb
  · have hu : unitL (c :: t) = 1 := by unfold unitL; exact if_neg (by simpa using hc)
    rw [okT_cons, encB_ne hc] at h
    simp only [Bool.false_eq_true, if_false, Bool.and_eq_true] at h
    rw [hu, show (c :: t).take 1 = [c] from rfl, show (c :: t).drop 1 = t from rfl]
    exact ⟨by rw [dec_no (encB_ne hc)]; rfl, h.2, fun he => by cases he⟩
theorem kind_1 (c : UInt8) : (kindN c == 1) = plnB c :=
  eq_of_beq (forall_u8 (p := fun c => (kindN c == 1) == plnB c) (by decide +kernel) c)
theorem decU_len (u : List UInt8) : (decU u).length ≤ u.length := by
  unfold decU
  split
  · rename_i h
    have : u.length = 3 := by
      cases hq : decide (u.length = 3) with
      | true => exact of_decide_eq_true hq
      | false => rw [encU_no (of_decide_eq_false hq)] at h; cases h
    split
    · simp; omega
    · simp
  · exact Nat.le_refl _
theorem decU_pos (u : List UInt8) (h : 0 < u.length) : 0 < (decU u).length := by
  unfold decU
  split
  · split
    · exact Nat.one_pos
    · rw [List.length_map]; exact h
  · exact h
theorem nn1 (x : List UInt8) : NoNames [.string ⟨⟨x⟩⟩] := strs_nn [x]
theorem nnB (a b : List UInt8) : NoNames (bytesV a ++ bytesV b) := by rw [← bytesV_app]; exact bytesV_plain _
set_option maxRecDepth 20000 in
theorem pdec_can (hη : OneCells η) (hmix : Tryz.prog.follows .mixedOrders = true) (henc : EncOk η) (s : List UInt8) (hs : s.length ≤ 100000) (hok : okT s = true) :
    CallSpec η Tryz.prog B 78 [.string ⟨⟨s⟩⟩] (heapP Tryz.prog tabQ) fun v1 h1 => v1 = .string ⟨⟨dec s⟩⟩ ∧ h1 = heapP Tryz.prog tabQ := by
  have e : heapP Tryz.prog tabQ = QDec.H0 kindCells s := by kernel_rfl
  rw [e]
  have nnk := kind_nn
  have cut0 := QDec.cut0 (η := η) (B := B) (D := fun v1 h1 => v1 = .string ⟨⟨dec s⟩⟩ ∧ h1 = QDec.H0 kindCells s) hη hmix (reg0 hη hmix) kindCells s
  have cut1 := fun (acc r : List UInt8) => QDec.cut1 (η := η) (B := B) (D := fun v1 h1 => v1 = .string ⟨⟨dec s⟩⟩ ∧ h1 = QDec.H0 kindCells s) hη hmix (reg0 hη hmix) kindCells s acc.length (bytesV acc) [.string ⟨⟨r⟩⟩]
  refine QDec.enter hη hmix (reg0 hη hmix) kindCells s ?_
  simp only [W.holds, true_and, and_true, true_implies, show ∀ r : List UInt8, strAt [Value.string ⟨⟨r⟩⟩] 0 = r from fun _ => rfl, List.getElem?_cons_zero, min_int, mn3_eq, Int.toNat_natCast, Nat.sub_zero, List.drop_zero, Nat.le_refl, Int.le_refl, decide_eq_true_eq, decide_eq_false_iff_not, Bool.not_eq_true', Bool.not_eq_false', beq_iff_eq, beq_eq_false_iff_ne, ne_eq, byte_rt, List.take_length, bytesV_len, bytesV_one, Nat.mul_one] at cut0 cut1 ⊢
  have loop : ∀ (n : Nat) (r acc : List UInt8), r.length ≤ n → 0 < acc.length → acc.length + r.length ≤ s.length → okT r = true → dec s = acc ++ dec r → RunD η Tryz.prog B 78 (QDec.H0 kindCells s) [0, 1] (QDec.S1 kindCells s acc.length (bytesV acc) [.string ⟨⟨r⟩⟩] fun _ => undef) (QF Tryz.prog 126 fun v1 h1 => v1 = .string ⟨⟨dec s⟩⟩ ∧ h1 = QDec.H0 kindCells s) := by
    intro n
    have done0 : ∀ acc : List UInt8, 0 < acc.length → acc.length ≤ s.length → dec s = acc → RunD η Tryz.prog B 78 (QDec.H0 kindCells s) [0, 1] (QDec.S1 kindCells s acc.length (bytesV acc) [.string ⟨⟨[]⟩⟩] fun _ => undef) (QF Tryz.prog 126 fun v1 h1 => v1 = .string ⟨⟨dec s⟩⟩ ∧ h1 = QDec.H0 kindCells s) := by
      intro acc pos hl he
      have c1 := cut1 acc []
      have e1 : ((([] : List UInt8) = #[].toList) = True) := eq_true rfl
      simp only [e1, not_true_eq_false, false_implies, true_and, true_implies] at c1
      refine c1 ⟨pos, fun _ => ⟨⟨by omega, by omega, by omega, (by have := (buf_ok acc (by omega)).2.2.2; rwa [Int.toNat_natCast] at this)⟩, fun _ => ⟨fun h => absurd h (by omega), fun _ => ⟨nnk, fun _ => by rw [bytesIn_all, he]⟩⟩⟩⟩
    induction n with
    | zero =>
      intro r acc hr pos hl ho he
      obtain rfl : r = [] := List.length_eq_zero_iff.1 (by omega)
      exact done0 acc pos (by omega) (by rw [he, dec_nil, List.append_nil])
    | succ n ih =>
      intro r acc hr pos hl ho he
      cases r with
      | nil => exact done0 acc pos (by omega) (by rw [he, dec_nil, List.append_nil])
      | cons c t =>
        rw [List.length_cons] at hr hl
        have c1 := cut1 acc (c :: t)
        have hb : byteAt (c :: t) 0 = (c.toNat : Int) := (at_cons (s := c :: t) (i := 0) rfl).2.1
        have e37 : ((c.toNat : Int) = 37) ↔ c = 37 := eqI (n := 37) (by decide)
        have hrest : ∀ k, List.take ((c :: t).length - k) ((c :: t).drop k) = (c :: t).drop k := fun k => List.take_of_length_le (by rw [List.length_drop]; exact Nat.le_refl _)
        have hun : 1 ≤ unitL (c :: t) ∧ unitL (c :: t) ≤ (c :: t).length := by
          unfold unitL
          simp only [List.length_cons]
          split <;> omega
        have henc' := henc (B := B) ((c :: t).take (unitL (c :: t))) (unit_three rfl)
        have kd := fun {h : AH} (ht : HasT h tabQ) => kind_c (B := B) hη hmix ht (encV ((c :: t).take (unitL (c :: t))))
        have hlt : ((c :: t).take (unitL (c :: t))).length = unitL (c :: t) := by rw [List.length_take]; omega
        obtain ⟨u1, u2, u3⟩ := unit_ok ho
        have next : ∀ w : List UInt8, decU ((c :: t).take (unitL (c :: t))) = w → acc.length + w.length ≤ 1000000 ∧ RunD η Tryz.prog B 78 (QDec.H0 kindCells s) [0, 1] (QDec.S1 kindCells s (acc.length + w.length) (bytesV acc ++ bytesV w) [.string ⟨⟨(c :: t).drop (unitL (c :: t))⟩⟩] fun _ => undef) (QF Tryz.prog 126 fun v1 h1 => v1 = .string ⟨⟨dec s⟩⟩ ∧ h1 = QDec.H0 kindCells s) := by
          rintro w rfl
          have hw := decU_len ((c :: t).take (unitL (c :: t)))
          rw [hlt] at hw
          simp only [List.length_cons] at hun
          refine ⟨by omega, ?_⟩
          have := ih ((c :: t).drop (unitL (c :: t))) (acc ++ decU ((c :: t).take (unitL (c :: t)))) (by rw [List.length_drop, List.length_cons]; omega) (by rw [List.length_append]; omega) (by rw [List.length_append, List.length_drop, List.length_cons]; omega) u2 (by rw [he, u1, List.append_assoc])
          rw [List.length_append, bytesV_app] at this
          exact this
        have k1 : ∀ x, (kindN x = 1) ↔ plnB x = true := fun x => by rw [← kind_1]; simp
        have hul : ((c :: t).take (unitL (c :: t))).length ≤ 1000000 := by rw [hlt]; simp only [List.length_cons] at hun; omega
        by_cases hc : c = 37
        · have hm : min 3 (c :: t).length = unitL (c :: t) := by
            have : unitL (c :: t) = min 3 (t.length + 1) := if_pos (by simpa using hc)
            rw [this, List.length_cons]
          rw [hm, hb] at c1
          simp only [hrest, k1] at c1
          refine c1 ⟨fun _ => ⟨by simp only [List.length_cons]; omega, fun _ => ⟨fun _ => ⟨⟨by omega, by omega⟩, fun _ => ⟨henc' _ (hasQ2 rfl rfl), fun h1 => ⟨kd (hasQ2 rfl rfl), fun hk => ?_, fun hk => ⟨fun _ => ?_, fun h2 => (by rw [h1] at h2; cases h2)⟩⟩, fun h1 => ⟨fun h2 => (by rw [h1] at h2; cases h2), fun _ => ?_⟩⟩⟩, fun h => absurd (e37.2 hc) h⟩⟩, fun h => absurd h (by simp)⟩
          · obtain ⟨n1, n2⟩ := next [encV ((c :: t).take (unitL (c :: t)))] (by unfold decU; rw [if_pos h1, if_pos hk])
            exact ⟨n1, fun _ => ⟨⟨by omega, by omega⟩, fun _ => ⟨by simp, fun _ => ⟨⟨nnk, nn1 _, nnB acc [_]⟩, fun _ => n2⟩⟩⟩⟩
          · obtain ⟨n1, n2⟩ := next (((c :: t).take (unitL (c :: t))).map upB) (by unfold decU; rw [if_pos h1, if_neg hk])
            exact ⟨up_ok _ hul (u3 h1) _, n1, fun _ => ⟨⟨by omega, by omega⟩, fun _ => ⟨by simp, fun _ => ⟨⟨nnk, nn1 _, nnB acc _⟩, fun _ => n2⟩⟩⟩⟩
          · obtain ⟨n1, n2⟩ := next ((c :: t).take (unitL (c :: t))) (by unfold decU; rw [if_neg (by rw [h1]; simp)])
            exact ⟨n1, fun _ => ⟨⟨by omega, by omega⟩, fun _ => ⟨by simp, fun _ => ⟨⟨nnk, nn1 _, nnB acc _⟩, fun _ => n2⟩⟩⟩⟩
        · have hm : unitL (c :: t) = 1 := by unfold unitL; exact if_neg (by simpa using hc)
          have hl1 : (1 : Int) ≤ ((c :: t).length : Int) := by rw [List.length_cons]; omega
          have h1 : encU ((c :: t).take 1) = false := rfl
          rw [hm] at henc' next hul
          rw [hb] at c1
          simp only [hrest, k1] at c1
          refine c1 ⟨fun _ => ⟨by simp only [List.length_cons]; omega, fun _ => ⟨fun h => absurd (e37.1 h) hc, fun _ => ⟨⟨by omega, hl1⟩, fun _ => ⟨henc' _ (hasQ2 rfl rfl), fun h2 => (by rw [h1] at h2; cases h2), fun _ => ⟨fun h2 => (by rw [h1] at h2; cases h2), fun _ => ?_⟩⟩⟩⟩⟩, fun h => absurd h (by simp)⟩
          obtain ⟨n1, n2⟩ := next ((c :: t).take 1) (by unfold decU; rw [if_neg (by rw [h1]; simp)])
          exact ⟨n1, fun _ => ⟨⟨by omega, hl1⟩, fun _ => ⟨by simp, fun _ => ⟨⟨nnk, nn1 _, nnB acc _⟩, fun _ => n2⟩⟩⟩⟩
  have e1 : ((([] : List UInt8) = #[].toList) = True) := eq_true rfl
  cases s with
  | nil =>
    simp only [e1, not_true_eq_false, false_implies, true_and, true_implies] at cut0
    exact ⟨nnk, fun _ => cut0 ⟨nnk, fun _ => by rw [dec_nil]⟩⟩
  | cons c t =>
    refine ⟨nnk, fun _ => ?_⟩
    rw [List.length_cons] at hs
    have hb : byteAt (c :: t) 0 = (c.toNat : Int) := (at_cons (s := c :: t) (i := 0) rfl).2.1
    have e37 : ((c.toNat : Int) = 37) ↔ c = 37 := eqI (n := 37) (by decide)
    have hrest : ∀ k, List.take ((c :: t).length - k) ((c :: t).drop k) = (c :: t).drop k := fun k => List.take_of_length_le (by rw [List.length_drop]; exact Nat.le_refl _)
    have hun : 1 ≤ unitL (c :: t) ∧ unitL (c :: t) ≤ (c :: t).length := by
      unfold unitL
      simp only [List.length_cons]
      split <;> omega
    have henc' := henc (B := B) ((c :: t).take (unitL (c :: t))) (unit_three rfl)
    have kd := fun {h : AH} (ht : HasT h tabQ) => kind_c (B := B) hη hmix ht (encV ((c :: t).take (unitL (c :: t))))
    have hlt : ((c :: t).take (unitL (c :: t))).length = unitL (c :: t) := by rw [List.length_take]; omega
    obtain ⟨u1, u2, u3⟩ := unit_ok hok
    have next : ∀ w : List UInt8, decU ((c :: t).take (unitL (c :: t))) = w → ¬ w.length = 0 ∧ RunD η Tryz.prog B 78 (QDec.H0 kindCells (c :: t)) [0, 1] (QDec.S1 kindCells (c :: t) w.length (bytesV w) [.string ⟨⟨(c :: t).drop (unitL (c :: t))⟩⟩] fun _ => undef) (QF Tryz.prog 126 fun v1 h1 => v1 = .string ⟨⟨dec (c :: t)⟩⟩ ∧ h1 = QDec.H0 kindCells (c :: t)) := by
      rintro w rfl
      have hw := decU_len ((c :: t).take (unitL (c :: t)))
      have hp := decU_pos ((c :: t).take (unitL (c :: t))) (by omega)
      rw [hlt] at hw
      simp only [List.length_cons] at hun
      exact ⟨by omega, loop _ ((c :: t).drop (unitL (c :: t))) (decU ((c :: t).take (unitL (c :: t)))) (Nat.le_refl _) hp (by rw [List.length_drop, List.length_cons]; omega) u2 u1⟩
    have k1 : ∀ x, (kindN x = 1) ↔ plnB x = true := fun x => by rw [← kind_1]; simp
    have hul : ((c :: t).take (unitL (c :: t))).length ≤ 1000000 := by rw [hlt]; simp only [List.length_cons] at hun; omega
    have z : ∀ {n l d}, RunD η Tryz.prog B 78 (QDec.H0 kindCells (c :: t)) [0, 1] (QDec.S1 kindCells (c :: t) n l d fun _ => undef) (QF Tryz.prog 126 fun v1 h1 => v1 = .string ⟨⟨dec (c :: t)⟩⟩ ∧ h1 = QDec.H0 kindCells (c :: t)) → RunD η Tryz.prog B 78 (QDec.H0 kindCells (c :: t)) [0, 1] (QDec.S1 kindCells (c :: t) (0 + n) ([] ++ l) d fun _ => undef) (QF Tryz.prog 126 fun v1 h1 => v1 = .string ⟨⟨dec (c :: t)⟩⟩ ∧ h1 = QDec.H0 kindCells (c :: t)) := fun h => by rw [Nat.zero_add]; exact h
    by_cases hc : c = 37
    · have hm : min 3 (c :: t).length = unitL (c :: t) := by
        have : unitL (c :: t) = min 3 (t.length + 1) := if_pos (by simpa using hc)
        rw [this, List.length_cons]
      rw [hm, hb] at cut0
      simp only [hrest, k1] at cut0
      refine cut0 ⟨fun _ => ⟨by simp only [List.length_cons]; omega, fun _ => ⟨fun _ => ⟨⟨by omega, by omega⟩, fun _ => ⟨henc' _ (hasQ2 rfl rfl), fun h1 => ⟨kd (hasQ2 rfl rfl), fun hk => ?_, fun hk => ⟨fun _ => ?_, fun h2 => (by rw [h1] at h2; cases h2)⟩⟩, fun h1 => ⟨fun h2 => (by rw [h1] at h2; cases h2), fun _ => ?_⟩⟩⟩, fun h => absurd (e37.2 hc) h⟩⟩, fun h => absurd h (by simp)⟩
      · obtain ⟨n1, n2⟩ := next [encV ((c :: t).take (unitL (c :: t)))] (by unfold decU; rw [if_pos h1, if_pos hk])
        exact ⟨⟨by omega, by omega⟩, fun _ => ⟨nnk, fun _ => n2⟩⟩
      · obtain ⟨n1, n2⟩ := next (((c :: t).take (unitL (c :: t))).map upB) (by unfold decU; rw [if_pos h1, if_neg hk])
        exact ⟨up_ok _ hul (u3 h1) _, by rw [List.length_map]; exact hul, fun _ => ⟨fun h => absurd h n1, fun _ => ⟨⟨by omega, by omega⟩, fun _ => z n2⟩⟩⟩
      · obtain ⟨n1, n2⟩ := next ((c :: t).take (unitL (c :: t))) (by unfold decU; rw [if_neg (by rw [h1]; simp)])
        exact ⟨hul, fun _ => ⟨fun h => absurd h n1, fun _ => ⟨⟨by omega, by omega⟩, fun _ => z n2⟩⟩⟩
    · have hm : unitL (c :: t) = 1 := by unfold unitL; exact if_neg (by simpa using hc)
      have hl1 : (1 : Int) ≤ ((c :: t).length : Int) := by rw [List.length_cons]; omega
      have h1 : encU ((c :: t).take 1) = false := rfl
      rw [hm] at henc' next hul
      rw [hb] at cut0
      simp only [hrest, k1] at cut0
      refine cut0 ⟨fun _ => ⟨by simp only [List.length_cons]; omega, fun _ => ⟨fun h => absurd (e37.1 h) hc, fun _ => ⟨⟨by omega, hl1⟩, fun _ => ⟨henc' _ (hasQ2 rfl rfl), fun h2 => (by rw [h1] at h2; cases h2), fun _ => ⟨fun h2 => (by rw [h1] at h2; cases h2), fun _ => ?_⟩⟩⟩⟩⟩, fun h => absurd h (by simp)⟩
      obtain ⟨n1, n2⟩ := next ((c :: t).take 1) (by unfold decU; rw [if_neg (by rw [h1]; simp)])
      exact ⟨hul, fun _ => ⟨fun h => absurd h n1, fun _ => ⟨⟨by omega, hl1⟩, fun _ => z n2⟩⟩⟩
end TR
end Go.Ev

namespace Go.Ev
set_option linter.unusedVariables false
set_option linter.unusedSimpArgs false
open Go Go.Proofs Go.RowKit
variable {η : Nat → Value} {B : Bd}
namespace TR
set_option linter.unusedVariables false
set_option linter.unusedSimpArgs false
open TB TE
theorem orB_eq (c : UInt8) : IntKind.u8.wrap ((BitVec.ofInt IntKind.u8.bits (c.toNat : Int) ||| BitVec.ofInt IntKind.u8.bits 32).toNat : Int) = ((orB c).toNat : Int) := by
  have := forall_u8 (p := fun c => decide (IntKind.u8.wrap ((BitVec.ofInt IntKind.u8.bits (c.toNat : Int) ||| BitVec.ofInt IntKind.u8.bits 32).toNat : Int) = ((orB c).toNat : Int))) (by decide +kernel) c
  exact of_decide_eq_true this
theorem low_ok (hη : OneCells η) (hmix : Tryz.prog.follows .mixedOrders = true) (c : UInt8) (h : AH) :
    CallSpec η Tryz.prog B 250 [.int .u8 (c.toNat : Int)] h (KT.ret (.int .u8 ((orB c).toNat : Int)) h).sat := by
  refine CallSpec.bare hη gs9 (fun _ _ => .cons (.int _ _) .nil) (fun _ _ => .int _ _) (fun _ _ => .int _ _) ?_ h
  refine QLow.enter hη hmix (reg0 hη hmix) (D := fun v _ => v = .int .u8 ((orB c).toNat : Int)) c ?_
  simp only [W.holds, orB_eq]
  exact ⟨trivial, trivial⟩
theorem slc_ok (hη : OneCells η) (hmix : Tryz.prog.follows .mixedOrders = true) (s : List UInt8) (hs : s.length ≤ 1000000) (h : AH) :
    CallSpec η Tryz.prog B 80 [.string ⟨⟨s⟩⟩] h (cloneK [.string ⟨⟨s⟩⟩] h).sat := by
  refine CallSpec.bare (v := .string ⟨⟨s⟩⟩) hη gs9 (fun _ _ => str_args) (fun σ M => .string _) (fun σ M => .string _) ?_ h
  refine QSlc.enter hη hmix (reg0 hη hmix) _ ?_
  have e1 : (s.length : Int).toNat = s.length := Int.toNat_natCast _
  have e2 : s.length.min s.length = s.length := Nat.min_self _
  have e3 : List.take s.length s = s := List.take_of_length_le (Nat.le_refl _)
  have e4 : splice (List.replicate s.length (Value.int IntKind.u8 (0 : Int))) 0 (bytesV s) = bytesV s := splice_all (by rw [List.length_replicate, bytesV_len])
  simp only [W.holds, true_and, e1, e2, e3, e4, Int.toNat_natCast, take_bytesV, bytesOf_bytesV, bytesIn_all, bytesV_len, bytesV_one, Nat.mul_one, Nat.zero_add, rep_one, List.length_replicate, beq_iff_eq, beq_eq_false_iff_ne]
  refine ⟨fun h => ?_, fun h => ⟨⟨by omega, by omega, by omega⟩, fun _ => ⟨⟨Nat.le_refl _, trivial⟩, fun _ => ⟨fun h0 => by omega, fun h0 => ⟨⟨by omega, by omega⟩, fun _ => ⟨⟨by omega, by omega, Nat.le_refl _, trivial⟩, fun _ => ⟨fun h1 => by omega, fun _ _ => trivial⟩⟩⟩⟩⟩⟩⟩
  have : s = [] := List.length_eq_zero_iff.1 (by omega)
  rw [this]
def digA (c : UInt8) : Int := IntKind.u8.wrap ((c.toNat : Int) - 48)
def letA (c : UInt8) : Int := IntKind.u8.wrap (IntKind.u8.wrap (((orB c).toNat : Int) - 97) + 10)
theorem dig_ok {c : UInt8} (h1 : (48 : Int) ≤ (c.toNat : Int)) (h2 : (c.toNat : Int) ≤ 57) : hexB c = true ∧ digA c = hexI c ∧ hexI c < 16 := by
  have := forall_u8 (p := fun c => !(decide ((48 : Int) ≤ (c.toNat : Int)) && decide ((c.toNat : Int) ≤ 57)) || (hexB c && decide (digA c = hexI c) && decide (hexI c < 16))) (by decide +kernel) c
  rw [decide_eq_true h1, decide_eq_true h2] at this
  simpa [and_assoc] using this
theorem let_ok {c : UInt8} (h0 : ¬ ((48 : Int) ≤ (c.toNat : Int) ∧ (c.toNat : Int) ≤ 57)) (h1 : (97 : Int) ≤ ((orB c).toNat : Int)) (h2 : ((orB c).toNat : Int) ≤ 122) : (letA c ≥ 16 → hexB c = false) ∧ (¬ letA c ≥ 16 → hexB c = true ∧ letA c = hexI c ∧ hexI c < 16) := by
  have := forall_u8 (p := fun c => (decide ((48 : Int) ≤ (c.toNat : Int)) && decide ((c.toNat : Int) ≤ 57)) || !(decide ((97 : Int) ≤ ((orB c).toNat : Int)) && decide (((orB c).toNat : Int) ≤ 122)) || (if letA c ≥ 16 then !hexB c else hexB c && decide (letA c = hexI c) && decide (hexI c < 16))) (by decide +kernel) c
  have e : (decide ((48 : Int) ≤ (c.toNat : Int)) && decide ((c.toNat : Int) ≤ 57)) = false := by
    cases hq : (decide ((48 : Int) ≤ (c.toNat : Int)) && decide ((c.toNat : Int) ≤ 57)) with
    | false => rfl
    | true => rw [Bool.and_eq_true, decide_eq_true_eq, decide_eq_true_eq] at hq; exact absurd hq h0
  rw [e, decide_eq_true h1, decide_eq_true h2] at this
  refine ⟨fun h => ?_, fun h => ?_⟩
  · rw [if_pos h] at this; simpa using this
  · rw [if_neg h] at this; simpa [and_assoc] using this
theorem non_ok {c : UInt8} (h0 : ¬ ((48 : Int) ≤ (c.toNat : Int) ∧ (c.toNat : Int) ≤ 57)) (h1 : ¬ ((97 : Int) ≤ ((orB c).toNat : Int) ∧ ((orB c).toNat : Int) ≤ 122)) : hexB c = false := by
  have := forall_u8 (p := fun c => decide ((48 : Int) ≤ (c.toNat : Int) ∧ (c.toNat : Int) ≤ 57) || decide ((97 : Int) ≤ ((orB c).toNat : Int) ∧ ((orB c).toNat : Int) ≤ 122) || !hexB c) (by decide +kernel) c
  rw [decide_eq_false h0, decide_eq_false h1] at this
  simpa using this
/-- What it returns. -/
def puiV (a b : UInt8) : Value := if hexB a && hexB b then .tuple ⟨[.int .u64 (hexI a * 16 + hexI b), .nilIface]⟩ else .tuple ⟨[.int .u64 0, .iface 259 (.int .i64 2)]⟩
theorem pui_a {a b : UInt8} (h : hexB a = false) : Value.tuple ⟨[.int .u64 0, .iface 259 (.int .i64 2)]⟩ = puiV a b := by unfold puiV; rw [h]; rfl
theorem pui_b {a b : UInt8} (h : hexB b = false) : Value.tuple ⟨[.int .u64 0, .iface 259 (.int .i64 2)]⟩ = puiV a b := by unfold puiV; rw [h, Bool.and_false]; rfl
theorem w64 {n : Int} (h0 : 0 ≤ n) (h1 : n ≤ 1000) : IntKind.u64.wrap n = n := IntWalk.u64_in n ⟨h0, by omega⟩
theorem hex_lo {c : UInt8} (h : hexB c = true) : 0 ≤ hexI c := of_decide_eq_true h
set_option maxRecDepth 20000 in
theorem pui_can (hη : OneCells η) (hmix : Tryz.prog.follows .mixedOrders = true) (a b : UInt8) :
    CallSpec η Tryz.prog B 202 [.string ⟨⟨[a, b]⟩⟩, .int .i64 16, .int .i64 8] (heapN 126) fun v1 h1 => v1 = puiV a b ∧ h1 = heapN 126 := by
  have e : heapN 126 = QPui.H0 a b := by kernel_rfl
  rw [e]
  have lo := fun (c : UInt8) (h : AH) => low_ok (B := B) hη hmix c h
  have cut0 := QPui.cut0 (η := η) (B := B) (D := fun v1 h1 => v1 = puiV a b ∧ h1 = QPui.H0 a b) hη hmix (reg0 hη hmix) a b
  have cut1 := QPui.cut1 (η := η) (B := B) (D := fun v1 h1 => v1 = puiV a b ∧ h1 = QPui.H0 a b) hη hmix (reg0 hη hmix) a b
  have cut2 := QPui.cut2 (η := η) (B := B) (D := fun v1 h1 => v1 = puiV a b ∧ h1 = QPui.H0 a b) hη hmix (reg0 hη hmix) a b
  have cut3 := QPui.cut3 (η := η) (B := B) (D := fun v1 h1 => v1 = puiV a b ∧ h1 = QPui.H0 a b) hη hmix (reg0 hη hmix) a b
  have cut4 := QPui.cut4 (η := η) (B := B) (D := fun v1 h1 => v1 = puiV a b ∧ h1 = QPui.H0 a b) hη hmix (reg0 hη hmix) a b
  have cut5 := QPui.cut5 (η := η) (B := B) (D := fun v1 h1 => v1 = puiV a b ∧ h1 = QPui.H0 a b) hη hmix (reg0 hη hmix) a b
  have cut6 := QPui.cut6 (η := η) (B := B) (D := fun v1 h1 => v1 = puiV a b ∧ h1 = QPui.H0 a b) hη hmix (reg0 hη hmix) a b
  have dA : ∀ c : UInt8, IntKind.u8.wrap ((c.toNat : Int) - 48) = digA c := fun _ => rfl
  have lA : ∀ c : UInt8, IntKind.u8.wrap (IntKind.u8.wrap (((orB c).toNat : Int) - 97) + 10) = letA c := fun _ => rfl
  refine QPui.enter hη hmix (reg0 hη hmix) a b ?_
  simp only [W.holds, true_and, and_true, true_implies, decide_eq_true_eq, decide_eq_false_iff_not, beq_iff_eq, beq_eq_false_iff_ne, ne_eq, byte_rt, Int.toNat_natCast, UInt8.ofNat_toNat, Int.zero_add, dA, lA] at cut0 cut1 cut2 cut3 cut4 cut5 cut6 ⊢
  have s1 : ∀ {n : Int}, n = hexI a → hexB a = true → hexI a < 16 → ∀ {m : Int}, m = hexI b → hexB b = true → hexI b < 16 →
      ¬ IntKind.u64.wrap (IntKind.u64.wrap n) ≥ 1152921504606846976 ∧ ¬ IntKind.u64.wrap (IntKind.u64.wrap (IntKind.u64.wrap (IntKind.u64.wrap n) * 16) + IntKind.u64.wrap m) < IntKind.u64.wrap (IntKind.u64.wrap (IntKind.u64.wrap n) * 16) ∧
      ¬ IntKind.u64.wrap (IntKind.u64.wrap (IntKind.u64.wrap (IntKind.u64.wrap n) * 16) + IntKind.u64.wrap m) > 255 ∧
      Value.tuple ⟨[.int .u64 (IntKind.u64.wrap (IntKind.u64.wrap (IntKind.u64.wrap (IntKind.u64.wrap n) * 16) + IntKind.u64.wrap m)), .nilIface]⟩ = puiV a b := by
    rintro n rfl ha ha2 m rfl hb hb2
    have a0 := hex_lo ha
    have b0 := hex_lo hb
    have w1 : IntKind.u64.wrap (hexI a) = hexI a := w64 (by omega) (by omega)
    have w2 : IntKind.u64.wrap (hexI a * 16) = hexI a * 16 := w64 (by omega) (by omega)
    have w3 : IntKind.u64.wrap (hexI b) = hexI b := w64 (by omega) (by omega)
    have w4 : IntKind.u64.wrap (hexI a * 16 + hexI b) = hexI a * 16 + hexI b := w64 (by omega) (by omega)
    rw [w1, w1, w2, w3, w4]
    refine ⟨by omega, by omega, by omega, ?_⟩
    unfold puiV
    rw [ha, hb]
    rfl
  have s0 : ∀ {n : Int}, n = hexI a → hexB a = true → hexI a < 16 → ¬ IntKind.u64.wrap (IntKind.u64.wrap n) < 0 ∧ ¬ IntKind.u64.wrap (IntKind.u64.wrap n) > 255 := by
    rintro n rfl ha ha2
    have a0 := hex_lo ha
    have w1 : IntKind.u64.wrap (hexI a) = hexI a := w64 (by omega) (by omega)
    rw [w1, w1]
    omega
  have st1 : digA a = hexI a → hexB a = true → hexI a < 16 → RunD η Tryz.prog B 202 (QPui.H0 a b) [1, 8, 9, 10, 11, 12, 13, 99, 100, 101] (QPui.S1 a b fun _ => undef) (QF Tryz.prog 126 fun v1 h1 => v1 = puiV a b ∧ h1 = QPui.H0 a b) := by
    intro a2 a1 a3
    refine cut1 ⟨fun _ => ?_, fun _ => ?_⟩
    all_goals
      refine ⟨fun h48 => ⟨fun h57 => ⟨fun h16 => ?_, fun _ => ?_⟩, fun h57 => ?_⟩, fun h48 => ?_⟩
      · exfalso
        obtain ⟨_, b2, b3⟩ := dig_ok h48 h57
        rw [b2] at h16
        omega
      · obtain ⟨b1, b2, b3⟩ := dig_ok h48 h57
        exact (by obtain ⟨c1, c2, c3, c4⟩ := s1 a2 a1 a3 b2 b1 b3; exact ⟨fun h => absurd h c1, fun _ => ⟨fun h => absurd h c2, fun _ => ⟨fun h => absurd h c3, fun _ => cut3 c4⟩⟩⟩)
      · have h0 : ¬ ((48 : Int) ≤ (b.toNat : Int) ∧ (b.toNat : Int) ≤ 57) := fun h => h57 h.2
        exact ⟨lo _ _, ⟨fun h97 => ⟨lo _ _, ⟨fun h122 => ⟨lo _ _, ⟨fun h16 => pui_b ((let_ok h0 h97 h122).1 h16), fun h16 => (by obtain ⟨c1, c2, c3, c4⟩ := s1 a2 a1 a3 ((let_ok h0 h97 h122).2 h16).2.1 ((let_ok h0 h97 h122).2 h16).1 ((let_ok h0 h97 h122).2 h16).2.2; exact ⟨fun h => absurd h c1, fun _ => ⟨fun h => absurd h c2, fun _ => ⟨fun h => absurd h c3, fun _ => cut4 c4⟩⟩⟩)⟩⟩, fun h122 => pui_b (non_ok h0 fun h => h122 h.2)⟩⟩, fun h97 => pui_b (non_ok h0 fun h => h97 h.1)⟩⟩
      · have h0 : ¬ ((48 : Int) ≤ (b.toNat : Int) ∧ (b.toNat : Int) ≤ 57) := fun h => h48 h.1
        exact ⟨lo _ _, ⟨fun h97 => ⟨lo _ _, ⟨fun h122 => ⟨lo _ _, ⟨fun h16 => pui_b ((let_ok h0 h97 h122).1 h16), fun h16 => (by obtain ⟨c1, c2, c3, c4⟩ := s1 a2 a1 a3 ((let_ok h0 h97 h122).2 h16).2.1 ((let_ok h0 h97 h122).2 h16).1 ((let_ok h0 h97 h122).2 h16).2.2; exact ⟨fun h => absurd h c1, fun _ => ⟨fun h => absurd h c2, fun _ => ⟨fun h => absurd h c3, fun _ => cut4 c4⟩⟩⟩)⟩⟩, fun h122 => pui_b (non_ok h0 fun h => h122 h.2)⟩⟩, fun h97 => pui_b (non_ok h0 fun h => h97 h.1)⟩⟩
  have st2 : letA a = hexI a → hexB a = true → hexI a < 16 → RunD η Tryz.prog B 202 (QPui.H0 a b) [1, 8, 9, 10, 11, 12, 13, 99, 100, 101] (QPui.S2 a b fun _ => undef) (QF Tryz.prog 126 fun v1 h1 => v1 = puiV a b ∧ h1 = QPui.H0 a b) := by
    intro a2 a1 a3
    refine cut2 ⟨fun _ => ?_, fun _ => ?_⟩
    all_goals
      refine ⟨fun h48 => ⟨fun h57 => ⟨fun h16 => ?_, fun _ => ?_⟩, fun h57 => ?_⟩, fun h48 => ?_⟩
      · exfalso
        obtain ⟨_, b2, b3⟩ := dig_ok h48 h57
        rw [b2] at h16
        omega
      · obtain ⟨b1, b2, b3⟩ := dig_ok h48 h57
        exact (by obtain ⟨c1, c2, c3, c4⟩ := s1 a2 a1 a3 b2 b1 b3; exact ⟨fun h => absurd h c1, fun _ => ⟨fun h => absurd h c2, fun _ => ⟨fun h => absurd h c3, fun _ => cut5 c4⟩⟩⟩)
      · have h0 : ¬ ((48 : Int) ≤ (b.toNat : Int) ∧ (b.toNat : Int) ≤ 57) := fun h => h57 h.2
        exact ⟨lo _ _, ⟨fun h97 => ⟨lo _ _, ⟨fun h122 => ⟨lo _ _, ⟨fun h16 => pui_b ((let_ok h0 h97 h122).1 h16), fun h16 => (by obtain ⟨c1, c2, c3, c4⟩ := s1 a2 a1 a3 ((let_ok h0 h97 h122).2 h16).2.1 ((let_ok h0 h97 h122).2 h16).1 ((let_ok h0 h97 h122).2 h16).2.2; exact ⟨fun h => absurd h c1, fun _ => ⟨fun h => absurd h c2, fun _ => ⟨fun h => absurd h c3, fun _ => cut6 c4⟩⟩⟩)⟩⟩, fun h122 => pui_b (non_ok h0 fun h => h122 h.2)⟩⟩, fun h97 => pui_b (non_ok h0 fun h => h97 h.1)⟩⟩
      · have h0 : ¬ ((48 : Int) ≤ (b.toNat : Int) ∧ (b.toNat : Int) ≤ 57) := fun h => h48 h.1
        exact ⟨lo _ _, ⟨fun h97 => ⟨lo _ _, ⟨fun h122 => ⟨lo _ _, ⟨fun h16 => pui_b ((let_ok h0 h97 h122).1 h16), fun h16 => (by obtain ⟨c1, c2, c3, c4⟩ := s1 a2 a1 a3 ((let_ok h0 h97 h122).2 h16).2.1 ((let_ok h0 h97 h122).2 h16).1 ((let_ok h0 h97 h122).2 h16).2.2; exact ⟨fun h => absurd h c1, fun _ => ⟨fun h => absurd h c2, fun _ => ⟨fun h => absurd h c3, fun _ => cut6 c4⟩⟩⟩)⟩⟩, fun h122 => pui_b (non_ok h0 fun h => h122 h.2)⟩⟩, fun h97 => pui_b (non_ok h0 fun h => h97 h.1)⟩⟩
  have st0 : RunD η Tryz.prog B 202 (QPui.H0 a b) [1, 8, 9, 10, 11, 12, 13, 99, 100, 101] (QPui.S0 a b fun _ => undef) (QF Tryz.prog 126 fun v1 h1 => v1 = puiV a b ∧ h1 = QPui.H0 a b) := by
    refine cut0 ⟨fun _ => ?_, fun _ => ?_⟩
    all_goals
      refine ⟨fun h48 => ⟨fun h57 => ⟨fun h16 => ?_, fun _ => ?_⟩, fun h57 => ?_⟩, fun h48 => ?_⟩
      · exfalso
        obtain ⟨_, b2, b3⟩ := dig_ok h48 h57
        rw [b2] at h16
        omega
      · obtain ⟨b1, b2, b3⟩ := dig_ok h48 h57
        exact (by obtain ⟨b1, b2, b3⟩ := dig_ok h48 h57; obtain ⟨c1, c2⟩ := s0 b2 b1 b3; exact ⟨fun h => absurd h c1, fun _ => ⟨fun h => absurd h c2, fun _ => st1 b2 b1 b3⟩⟩)
      · have h0 : ¬ ((48 : Int) ≤ (a.toNat : Int) ∧ (a.toNat : Int) ≤ 57) := fun h => h57 h.2
        exact ⟨lo _ _, ⟨fun h97 => ⟨lo _ _, ⟨fun h122 => ⟨lo _ _, ⟨fun h16 => pui_a ((let_ok h0 h97 h122).1 h16), fun h16 => (by obtain ⟨b1, b2, b3⟩ := (let_ok h0 h97 h122).2 h16; obtain ⟨c1, c2⟩ := s0 b2 b1 b3; exact ⟨fun h => absurd h c1, fun _ => ⟨fun h => absurd h c2, fun _ => st2 b2 b1 b3⟩⟩)⟩⟩, fun h122 => pui_a (non_ok h0 fun h => h122 h.2)⟩⟩, fun h97 => pui_a (non_ok h0 fun h => h97 h.1)⟩⟩
      · have h0 : ¬ ((48 : Int) ≤ (a.toNat : Int) ∧ (a.toNat : Int) ≤ 57) := fun h => h48 h.1
        exact ⟨lo _ _, ⟨fun h97 => ⟨lo _ _, ⟨fun h122 => ⟨lo _ _, ⟨fun h16 => pui_a ((let_ok h0 h97 h122).1 h16), fun h16 => (by obtain ⟨b1, b2, b3⟩ := (let_ok h0 h97 h122).2 h16; obtain ⟨c1, c2⟩ := s0 b2 b1 b3; exact ⟨fun h => absurd h c1, fun _ => ⟨fun h => absurd h c2, fun _ => st2 b2 b1 b3⟩⟩)⟩⟩, fun h122 => pui_a (non_ok h0 fun h => h122 h.2)⟩⟩, fun h97 => pui_a (non_ok h0 fun h => h97 h.1)⟩⟩
  exact st0
theorem puiV_rv (a b : UInt8) : ∀ σ M w, RV σ M w (puiV a b) (puiV a b) := by
  intro σ M w
  unfold puiV
  split
  · exact RV.tup2 (.int _ _) .nilIface
  · exact RV.tup2 (.int _ _) (.iface _ (.int _ _))
theorem encV_of {a b : UInt8} (ha : hexB a = true) (hb : hexB b = true) : ((encV [37, a, b]).toNat : Int) = hexI a * 16 + hexI b := by
  obtain ⟨a0, a1⟩ := hex_range ha
  obtain ⟨b0, b1⟩ := hex_range hb
  show (((if hexB a && hexB b then UInt8.ofNat (16 * hexI a + hexI b).toNat else 0 : UInt8).toNat : Nat) : Int) = _
  rw [ha, hb, if_pos (by rfl), UInt8.toNat_ofNat']
  omega
theorem pui_ok (hη : OneCells η) (hmix : Tryz.prog.follows .mixedOrders = true) (a b : UInt8) (h : AH) :
    CallSpec η Tryz.prog B 202 [.string ⟨⟨[a, b]⟩⟩, .int .i64 16, .int .i64 8] h (puiK [.string ⟨⟨[a, b]⟩⟩, .int .i64 16, .int .i64 8] h).sat := by
  have c := CallSpec.bare (v := puiV a b) hη gs9 (fun _ _ => .cons (.string _) (.cons (.int _ _) (.cons (.int _ _) .nil))) (fun σ M => puiV_rv a b σ M false) (fun σ M => puiV_rv a b σ M true) ((pui_can (B := B) hη hmix a b).mono fun v h hv => hv.1) h
  refine c.mono ?_
  rintro v h1 ⟨rfl, rfl⟩
  show (encU [37, a, b] = true ∧ puiV a b = .tuple ⟨[.int .u64 ((encV [37, a, b]).toNat : Int), .nilIface]⟩ ∧ h1 = h1) ∨ (encU [37, a, b] = false ∧ puiV a b = .tuple ⟨[.int .u64 0, .iface 259 (.int .i64 2)]⟩ ∧ h1 = h1)
  have eu : encU [37, a, b] = (hexB a && hexB b) := rfl
  cases hh : (hexB a && hexB b) with
  | true =>
    have h2 := hh
    rw [Bool.and_eq_true] at h2
    refine .inl ⟨by rw [eu, hh], ?_, rfl⟩
    rw [encV_of h2.1 h2.2]
    unfold puiV
    rw [hh, if_pos rfl]
  | false =>
    refine .inr ⟨by rw [eu, hh], ?_, rfl⟩
    unfold puiV
    rw [hh]
    rfl
theorem encV_no {u : List UInt8} (h : u.length ≠ 3) : encV u = 0 := by
  unfold encV
  split
  · simp at h
  · rfl
theorem tabE_ok : TabOk Tryz.prog tabE := fun x hx => tabQ_ok x (by simp only [List.mem_cons, List.not_mem_nil, or_false] at hx ⊢; exact .inr hx)
theorem hasE {h : AH} (ht : HasT h tabQ) : HasT h tabE := fun x hx => ht x (by simp only [List.mem_cons, List.not_mem_nil, or_false] at hx ⊢; exact .inr hx)
theorem enc_can (hη : OneCells η) (hmix : Tryz.prog.follows .mixedOrders = true) (a b : UInt8) {h : AH} (ht : HasT h tabQ) :
    CallSpec η Tryz.prog B 106 [.string ⟨⟨[37, a, b]⟩⟩] h (KT.ret (.tuple ⟨[.int .u8 ((encV [37, a, b]).toNat : Int), .bool (encU [37, a, b])]⟩) h).sat := by
  refine CallSpec.pureT (v := .tuple ⟨[.int .u8 ((encV [37, a, b]).toNat : Int), .bool (encU [37, a, b])]⟩) (hs := heapP Tryz.prog tabE) hη gs9 tabE_ok onlyP (hasE ht) (.cons (.string _) .nil) (fun _ _ => RV.tup2 (.int _ _) (.bool _)) ?_
  have e : heapP Tryz.prog tabE = QEnc.H0 a b := by kernel_rfl
  rw [e]
  refine QEnc.enter hη hmix (reg0 hη hmix) a b ?_
  have lt := (encV [37, a, b]).toNat_lt
  have e2 : (37 :: List.take 2 (List.drop 1 [37, a, b])) = [37, a, b] := rfl
  have e3 : List.take 2 (List.drop 1 [37, a, b]) = [a, b] := rfl
  simp only [W.holds, true_and, and_true, true_implies, e2, e3]
  have e4 : IntKind.u8.wrap ((encV [37, a, b]).toNat : Int) = ((encV [37, a, b]).toNat : Int) := IntWalk.u8_in _ ⟨by omega, by omega⟩
  refine ⟨pui_ok hη hmix a b _, fun h1 => ?_, fun h1 => ⟨slc_ok hη hmix [a, b] (by simp) _, ?_⟩⟩
  · rw [e4, h1]
  · have : encV [37, a, b] = 0 := if_neg (by rw [show (hexB a && hexB b) = encU [37, a, b] from rfl, h1]; simp)
    rw [this, h1]
    rfl
/-- What encoded returns. -/
theorem encQ_ok (hη : OneCells η) (hmix : Tryz.prog.follows .mixedOrders = true) : EncOk η := by
  intro B u hu h ht
  by_cases h3 : u.length = 3
  · obtain ⟨a, b, rfl⟩ := hu h3
    exact enc_can hη hmix a b ht
  · rw [show encU u = false from encU_no h3, show encV u = 0 from encV_no h3]
    exact encN_ok hη hmix u h3 h
end TR
end Go.Ev

namespace Go.Ev
set_option linter.unusedVariables false
set_option linter.unusedSimpArgs false
open Go Go.Proofs Go.RowKit
variable {η : Nat → Value} {B : Bd}
namespace TR
set_option linter.unusedVariables false
set_option linter.unusedSimpArgs false
open TB TE TH
theorem ctR_lt {t : List UInt8} (h : ctB 47 t = true) : (ctR 47 t).length + 1 ≤ t.length := by
  unfold ctR
  rw [List.length_drop, List.length_drop]
  cases t with
  | nil => cases h
  | cons c r => simp only [List.length_cons]; omega
theorem ctL_le (b : UInt8) (t : List UInt8) : (ctL b t).length ≤ t.length := by
  unfold ctL
  exact (List.takeWhile_sublist _).length_le
theorem segF_cut : ∀ (t cur : List UInt8), segF cur t = if ctB 47 t = true then (cur ++ ctL 47 t) :: segF [] (ctR 47 t) else [cur ++ ctL 47 t]
  | [], cur => by
    have : ctL 47 [] = [] := rfl
    rw [this, List.append_nil]
    rfl
  | c :: r, cur => by
    by_cases hc : c = 47
    · subst hc
      have h1 : ctB 47 (47 :: r) = true := rfl
      have h2 : ctL 47 (47 :: r) = [] := rfl
      have h3 : ctR 47 (47 :: r) = r := rfl
      rw [if_pos h1, h2, h3, List.append_nil, segF, if_pos (by decide)]
    · have h2 : ctL 47 (c :: r) = c :: ctL 47 r := by unfold ctL; rw [List.takeWhile_cons_of_pos (by simpa using hc)]
      have h3 : ctR 47 (c :: r) = ctR 47 r := by unfold ctR; rw [h2]; rfl
      have h1 : ctB 47 (c :: r) = ctB 47 r := by unfold ctB; rw [List.any_cons, show (c == 47) = false from by simpa using hc, Bool.false_or]
      rw [h1, h2, h3, segF, if_neg (by simpa using hc), segF_cut r (cur ++ [c])]
      simp
theorem keep_dot' {k r : List (List UInt8)} (h : r ≠ []) : keep k ([46] :: r) = keep k r := by
  rw [keep, if_neg (by decide), if_pos rfl, if_neg (by simpa using h)]
theorem keep_dd' {k r : List (List UInt8)} (h : r ≠ []) : keep k ([46, 46] :: r) = keep k.dropLast r := by
  rw [keep, if_pos rfl, if_neg (by simpa using h)]
theorem keep_else {k r : List (List UInt8)} {x : List UInt8} (h1 : ¬ x = [46, 46]) (h2 : ¬ x = [46]) : keep k (x :: r) = keep (k ++ [x]) r := by
  rw [keep, if_neg h1, if_neg h2]
theorem slash_join : ∀ {L : List (List UInt8)}, L ≠ [] → [47] ++ joinS [47] L = slash L
  | [], h => absurd rfl h
  | [x], _ => by simp [slash, joinS]
  | x :: y :: r, _ => by
    have := slash_join (L := y :: r) (by simp)
    rw [slash, ← this, joinS]
    simp
theorem join_at {h : AH} {r ty own n : Nat} {L : List (List UInt8)} (hr : h.objs.get r = some (.cells ty (strs L) false own)) (hn : n = L.length) (hne : L ≠ []) (hL : L.length ≤ 1000) (hm : ∀ x ∈ L, x.length ≤ 1000000) :
    CallSpec η Tryz.prog B 121 [.slice (some ⟨r, 0, none⟩) n (capU 1), .string ⟨#[47]⟩] h (KT.ret (.string ⟨⟨joinS [47] (listAt h (.slice (some ⟨r, 0, none⟩) n (capU 1)))⟩⟩) h).sat := by
  subst hn
  rw [list_row hr rfl]
  exact join_ok [47] hr hne hL hm (by simp)
theorem wd_end {h : AH} {r ty own n cap : Nat} {L : List (List UInt8)} (hr : h.objs.get r = some (.cells ty (strs L) false own)) (hn : n = L.length) (hne : L ≠ []) : [47] ++ joinS [47] (listAt h (.slice (some ⟨r, 0, none⟩) n cap)) = slash L := by
  rw [list_row hr hn]
  exact slash_join hne
theorem wd_need {h : AH} {r ty own n cap : Nat} {L : List (List UInt8)} (hr : h.objs.get r = some (.cells ty (strs L) false own)) (hn : n = L.length) (hL : L.length ≤ 1000) (hm : ∀ x ∈ L, x.length ≤ 1000) : 1 + (joinS [47] (listAt h (.slice (some ⟨r, 0, none⟩) n cap))).length ≤ 9223372036854775807 := by
  rw [list_row hr hn]
  have := joinS_len [47] 1000 L hm
  have h2 : L.length * (1000 + [(47 : UInt8)].length) ≤ 1000 * 1001 := Nat.mul_le_mul hL (by simp)
  omega
theorem max_int {n : Nat} (h : n ≤ 1000000) : (if (0 : Int) > IntKind.i64.wrap ((n : Int) - 1) then (0 : Int) else IntKind.i64.wrap ((n : Int) - 1)) = ((n - 1 : Nat) : Int) := by
  rw [IntWalk.i64_in _ ⟨by omega, by omega⟩]
  by_cases h0 : n = 0
  · subst h0; rfl
  · rw [if_neg (by omega)]; omega
theorem mx1_eq {n : Nat} (h : n ≤ 1000000) : mx1 n = ((n - 1 : Nat) : Int) := by
  unfold mx1
  simp only [if_true, decide_eq_true_eq]
  exact max_int h
theorem dl_len (K : List (List UInt8)) : K.dropLast.length = K.length - 1 := List.length_dropLast
set_option maxRecDepth 20000 in
theorem wd_can (hη : OneCells η) (hmix : Tryz.prog.follows .mixedOrders = true) (s : List UInt8) (h1 : 1 ≤ s.length) (hs : s.length ≤ 600) :
    CallSpec η Tryz.prog B 77 [.string ⟨⟨s⟩⟩] (heapN 126) fun v _ => v = .string ⟨⟨slash (keep [] (segs s))⟩⟩ := by
  have e : heapN 126 = QWd.H0 s := by kernel_rfl
  rw [e]
  obtain ⟨F, hF⟩ : ∃ F, F = keep [] (segs s) := ⟨_, rfl⟩
  rw [← hF]
  have eD : #[(46 : UInt8)].toList = [46] := rfl
  have eDD : #[(46 : UInt8), 46].toList = [46, 46] := rfl
  have eS : #[(47 : UInt8)].toList = [47] := rfl
  have eN : (#[] : Array UInt8).toList = [] := rfl
  refine QWd.enter hη hmix (reg0 hη hmix) s ?_
  have ap : ∀ {K : List (List UInt8)} {y : List UInt8}, (∀ x ∈ K, x.length ≤ 1000) → y.length ≤ 1000 → ∀ x ∈ K ++ [y], x.length ≤ 1000 := by
    intro K y hK hy x hx
    rcases List.mem_append.1 hx with h | h
    · exact hK x h
    · rw [List.mem_singleton.1 h]; exact hy
  have dl : ∀ {K : List (List UInt8)}, (∀ x ∈ K, x.length ≤ 1000) → ∀ x ∈ K.dropLast, x.length ≤ 1000 := fun h x hx => h x (List.dropLast_subset _ hx)
  have last : ∀ (t : List UInt8) (l0 : List Value) (K : List (List UInt8)), ctB 47 t = false → Inv l0 K → K.length + t.length ≤ 700 → (∀ x ∈ K, x.length ≤ 1000) → keep K (segF [] t) = F →
      RunD η Tryz.prog B 77 (QWd.H0 s) [0, 3, 4, 5] (QWd.S1 s l0 ⟨⟨ctL 47 t⟩⟩ (ctB 47 t) ⟨⟨ctR 47 t⟩⟩ K.length fun _ => undef) (QF Tryz.prog 126 fun v _ => v = .string ⟨⟨slash F⟩⟩) := by
    intro t l0 K hb hI hl hK hk
    have c1 := QWd.cut1 (η := η) (B := B) (D := fun v _ => v = .string ⟨⟨slash F⟩⟩) hη hmix (reg0 hη hmix) s l0 ⟨⟨ctL 47 t⟩⟩ (ctB 47 t) ⟨⟨ctR 47 t⟩⟩ K.length
    have hmx := mx1_eq (n := K.length) (by omega)
    have hlt := ctL_le 47 t
    rw [segF_cut, List.nil_append, hb, if_neg (by simp)] at hk
    obtain ⟨i1, i2, i3⟩ := hI
    obtain ⟨j1, j2, j3⟩ := Inv.drop ⟨i1, i2, i3⟩
    rw [dl_len] at j1 j2
    rw [hb] at c1 ⊢
    simp only [W.holds, true_and, and_true, true_implies, decide_eq_true_eq, decide_eq_false_iff_not, beq_iff_eq, beq_eq_false_iff_ne, ne_eq, Nat.mul_one, Nat.zero_add, Nat.sub_zero, eD, eDD, eS, eN, Nat.le_refl, Int.le_refl, Bool.not_eq_true', Bool.not_eq_false', List.headD_cons, Int.toNat_natCast, if_true, or_true, Bool.false_eq_true, Bool.true_eq_false, false_implies, hmx] at c1
    rw [i1, j1] at c1
    refine c1 ⟨fun h1 => ⟨⟨i2, by omega⟩, fun _ => ?_⟩, fun h1 => ⟨fun h2 => ⟨⟨by omega, by omega, by omega⟩, fun _ => ⟨⟨by omega, by omega⟩, fun _ => ?_⟩⟩, fun h2 => ⟨⟨i2, by omega⟩, fun _ => ?_⟩⟩⟩
    · have mm := ap hK (y := []) (by simp)
      have nnx : NoNames (strs K ++ [.string ⟨⟨[]⟩⟩]) := by rw [strs_snoc]; exact strs_nn _
      rw [show ctL 47 t = [46] from h1, keep_dot] at hk
      exact ⟨join_at (L := K ++ [[]]) (by rw [← strs_snoc]; rfl) (by simp) (by simp) (by simp; omega) (fun x hx => Nat.le_trans (mm x hx) (by omega)), wd_need (L := K ++ [[]]) (by rw [← strs_snoc]; rfl) (by simp) (by simp; omega) mm, fun _ => ⟨nnx, fun _ => congrArg (fun t : List UInt8 => Value.string ⟨⟨t⟩⟩) (Eq.trans (wd_end (L := K ++ [[]]) (by rw [← strs_snoc]; rfl) (by simp) (by simp)) (congrArg slash hk))⟩⟩
    · have mm := ap (dl hK) (y := []) (by simp)
      have nnx : NoNames (strs K.dropLast ++ [.string ⟨⟨[]⟩⟩]) := by rw [strs_snoc]; exact strs_nn _
      rw [show ctL 47 t = [46, 46] from h2, keep_dd] at hk
      exact ⟨join_at (L := K.dropLast ++ [[]]) (by rw [← strs_snoc]; rfl) (by simp) (by simp) (by simp; omega) (fun x hx => Nat.le_trans (mm x hx) (by omega)), wd_need (L := K.dropLast ++ [[]]) (by rw [← strs_snoc]; rfl) (by simp) (by simp; omega) mm, fun _ => ⟨nnx, fun _ => congrArg (fun t : List UInt8 => Value.string ⟨⟨t⟩⟩) (Eq.trans (wd_end (L := K.dropLast ++ [[]]) (by rw [← strs_snoc]; rfl) (by simp) (by simp)) (congrArg slash hk))⟩⟩
    · have mm := ap hK (y := ctL 47 t) (by omega)
      have nnx : NoNames (strs K ++ [.string ⟨⟨ctL 47 t⟩⟩]) := by rw [strs_snoc]; exact strs_nn _
      rw [keep_else h2 h1, keep_nil] at hk
      exact ⟨join_at (L := K ++ [ctL 47 t]) (by rw [← strs_snoc]; rfl) (by simp) (by simp) (by simp; omega) (fun x hx => Nat.le_trans (mm x hx) (by omega)), wd_need (L := K ++ [ctL 47 t]) (by rw [← strs_snoc]; rfl) (by simp) (by simp; omega) mm, fun _ => ⟨nnx, fun _ => congrArg (fun t : List UInt8 => Value.string ⟨⟨t⟩⟩) (Eq.trans (wd_end (L := K ++ [ctL 47 t]) (by rw [← strs_snoc]; rfl) (by simp) (by simp)) (congrArg slash hk))⟩⟩
  have loop : ∀ (n : Nat) (t : List UInt8) (l0 : List Value) (K : List (List UInt8)), t.length ≤ n → Inv l0 K → K.length + t.length ≤ 700 → (∀ x ∈ K, x.length ≤ 1000) → keep K (segF [] t) = F →
      RunD η Tryz.prog B 77 (QWd.H0 s) [0, 3, 4, 5] (QWd.S1 s l0 ⟨⟨ctL 47 t⟩⟩ (ctB 47 t) ⟨⟨ctR 47 t⟩⟩ K.length fun _ => undef) (QF Tryz.prog 126 fun v _ => v = .string ⟨⟨slash F⟩⟩) := by
    intro n
    induction n with
    | zero =>
      intro t l0 K hn hI hl hK hk
      obtain rfl : t = [] := List.length_eq_zero_iff.1 (by omega)
      exact last [] l0 K rfl hI hl hK hk
    | succ n ih =>
      intro t l0 K hn hI hl hK hk
      cases hb : ctB 47 t with
      | false =>
        have := last t l0 K hb hI hl hK hk
        rw [hb] at this
        exact this
      | true =>
        have c1 := QWd.cut1 (η := η) (B := B) (D := fun v _ => v = .string ⟨⟨slash F⟩⟩) hη hmix (reg0 hη hmix) s l0 ⟨⟨ctL 47 t⟩⟩ true ⟨⟨ctR 47 t⟩⟩ K.length
        have hmx := mx1_eq (n := K.length) (by omega)
        have hlt := ctL_le 47 t
        have hrt := ctR_lt hb
        have hne := segF_ne [] (ctR 47 t)
        rw [segF_cut, List.nil_append, hb, if_pos rfl] at hk
        have i1 := hI.1
        have i2 := hI.2.1
        simp only [W.holds, true_and, and_true, true_implies, decide_eq_true_eq, decide_eq_false_iff_not, beq_iff_eq, beq_eq_false_iff_ne, ne_eq, Nat.mul_one, Nat.zero_add, Nat.sub_zero, eD, eDD, eS, eN, Nat.le_refl, Int.le_refl, Bool.not_eq_true', Bool.not_eq_false', List.headD_cons, Int.toNat_natCast, if_true, or_true, Bool.false_eq_true, Bool.true_eq_false, false_implies, hmx] at c1
        rw [i1] at c1
        refine c1 ⟨fun h1 => ⟨ct_ok hη hmix 47 _ (by omega) _, ih (ctR 47 t) l0 K (by omega) hI (by omega) hK ?_⟩, fun h1 => ⟨fun h2 => ⟨⟨by omega, by omega, by omega⟩, fun _ => ⟨ct_ok hη hmix 47 _ (by omega) _, ?_⟩⟩, fun h2 => ⟨⟨i2, by omega⟩, fun _ => ⟨ct_ok hη hmix 47 _ (by omega) _, ?_, fun _ => ?_⟩⟩⟩⟩
        · rw [show ctL 47 t = [46] from h1, keep_dot' hne] at hk
          exact hk
        · rw [show ctL 47 t = [46, 46] from h2, keep_dd' hne] at hk
          have := ih (ctR 47 t) l0 K.dropLast (by omega) hI.drop (by rw [dl_len]; omega) (dl hK) hk
          rw [dl_len] at this
          exact this
        · rw [strs_snoc]; exact strs_nn _
        · rw [keep_else h2 h1] at hk
          have := ih (ctR 47 t) (strs (K ++ [ctL 47 t])) (K ++ [ctL 47 t]) (by omega) (Inv.mk' _) (by rw [List.length_append, List.length_singleton]; omega) (ap hK (by omega)) hk
          rw [List.length_append, ← strs_snoc] at this
          exact this
  have last0 : ∀ t : List UInt8, ctB 47 t = false → t.length ≤ 700 → keep [] (segF [] t) = F →
      RunD η Tryz.prog B 77 (QWd.H0 s) [0, 3, 4, 5] (QWd.S0 s ⟨⟨ctL 47 t⟩⟩ (ctB 47 t) ⟨⟨ctR 47 t⟩⟩ fun _ => undef) (QF Tryz.prog 126 fun v _ => v = .string ⟨⟨slash F⟩⟩) := by
    intro t hb hl hk
    have c0 := QWd.cut0 (η := η) (B := B) (D := fun v _ => v = .string ⟨⟨slash F⟩⟩) hη hmix (reg0 hη hmix) s ⟨⟨ctL 47 t⟩⟩ (ctB 47 t) ⟨⟨ctR 47 t⟩⟩
    have hlt := ctL_le 47 t
    rw [segF_cut, List.nil_append, hb, if_neg (by simp)] at hk
    rw [hb] at c0 ⊢
    simp only [W.holds, true_and, and_true, true_implies, decide_eq_true_eq, decide_eq_false_iff_not, beq_iff_eq, beq_eq_false_iff_ne, ne_eq, Nat.mul_one, Nat.zero_add, Nat.sub_zero, eD, eDD, eS, eN, Nat.le_refl, Int.le_refl, Bool.not_eq_true', Bool.not_eq_false', List.headD_cons, Int.toNat_natCast, if_true, or_true, Bool.false_eq_true, Bool.true_eq_false, false_implies] at c0
    refine c0 ⟨fun h1 => ⟨join_ok [47] (L := [[]]) rfl (by simp) (by simp) (by simp) (by simp), ?_⟩, fun h1 => ⟨fun h2 => ⟨join_ok [47] (L := [[]]) rfl (by simp) (by simp) (by simp) (by simp), ?_⟩, fun h2 => ⟨join_ok [47] (L := [ctL 47 t]) rfl (by simp) (by simp) (by simp; omega) (by simp), ?_, fun _ => ?_⟩⟩⟩
    · rw [show ctL 47 t = [46] from h1, keep_dot] at hk
      rw [← hk]; rfl
    · rw [show ctL 47 t = [46, 46] from h2, keep_dd] at hk
      rw [← hk]; rfl
    · show 1 + (ctL 47 t).length ≤ _
      omega
    · rw [keep_else h2 h1, keep_nil] at hk
      rw [← hk]
      exact congrArg (fun t : List UInt8 => Value.string ⟨⟨t⟩⟩) (slash_join (by simp))
  have loop0 : ∀ (n : Nat) (t : List UInt8), t.length ≤ n → t.length ≤ 700 → keep [] (segF [] t) = F →
      RunD η Tryz.prog B 77 (QWd.H0 s) [0, 3, 4, 5] (QWd.S0 s ⟨⟨ctL 47 t⟩⟩ (ctB 47 t) ⟨⟨ctR 47 t⟩⟩ fun _ => undef) (QF Tryz.prog 126 fun v _ => v = .string ⟨⟨slash F⟩⟩) := by
    intro n
    induction n with
    | zero =>
      intro t hn hl hk
      obtain rfl : t = [] := List.length_eq_zero_iff.1 (by omega)
      exact last0 [] rfl hl hk
    | succ n ih =>
      intro t hn hl hk
      cases hb : ctB 47 t with
      | false =>
        have := last0 t hb hl hk
        rw [hb] at this
        exact this
      | true =>
        have c0 := QWd.cut0 (η := η) (B := B) (D := fun v _ => v = .string ⟨⟨slash F⟩⟩) hη hmix (reg0 hη hmix) s ⟨⟨ctL 47 t⟩⟩ true ⟨⟨ctR 47 t⟩⟩
        have hlt := ctL_le 47 t
        have hrt := ctR_lt hb
        have hne := segF_ne [] (ctR 47 t)
        rw [segF_cut, List.nil_append, hb, if_pos rfl] at hk
        simp only [W.holds, true_and, and_true, true_implies, decide_eq_true_eq, decide_eq_false_iff_not, beq_iff_eq, beq_eq_false_iff_ne, ne_eq, Nat.mul_one, Nat.zero_add, Nat.sub_zero, eD, eDD, eS, eN, Nat.le_refl, Int.le_refl, Bool.not_eq_true', Bool.not_eq_false', List.headD_cons, Int.toNat_natCast, if_true, or_true, Bool.false_eq_true, Bool.true_eq_false, false_implies] at c0
        refine c0 ⟨fun h1 => ⟨ct_ok hη hmix 47 _ (by omega) _, ih (ctR 47 t) (by omega) (by omega) ?_⟩, fun h1 => ⟨fun h2 => ⟨ct_ok hη hmix 47 _ (by omega) _, ih (ctR 47 t) (by omega) (by omega) ?_⟩, fun h2 => ⟨ct_ok hη hmix 47 _ (by omega) _, ?_⟩⟩⟩
        · rw [show ctL 47 t = [46] from h1, keep_dot' hne] at hk
          exact hk
        · rw [show ctL 47 t = [46, 46] from h2, keep_dd' hne] at hk
          exact hk
        · rw [keep_else h2 h1] at hk
          exact loop _ (ctR 47 t) (strs [ctL 47 t]) [ctL 47 t] (Nat.le_refl _) (Inv.mk' _) (by rw [List.length_singleton]; omega) (fun x hx => by rw [List.mem_singleton.1 hx]; omega) hk
  have hd : List.take (s.length - 1) (List.drop 1 s) = s.drop 1 := List.take_of_length_le (by rw [List.length_drop]; exact Nat.le_refl _)
  simp only [W.holds, true_and, and_true, true_implies, decide_eq_true_eq, decide_eq_false_iff_not, beq_iff_eq, beq_eq_false_iff_ne, ne_eq, Nat.mul_one, Nat.zero_add, Nat.sub_zero, eD, eDD, eS, eN, Nat.le_refl, Int.le_refl, Bool.not_eq_true', Bool.not_eq_false', List.headD_cons, Int.toNat_natCast, if_true, or_true, Bool.false_eq_true, Bool.true_eq_false, false_implies, hd] 
  exact ⟨⟨by omega, by omega⟩, fun _ => ⟨ct_ok hη hmix 47 _ (by rw [List.length_drop]; omega) _, loop0 _ (s.drop 1) (Nat.le_refl _) (by rw [List.length_drop]; omega) hF.symm⟩⟩
end TR
end Go.Ev

namespace Go.Ev
set_option linter.unusedVariables false
set_option linter.unusedSimpArgs false
open Go Go.Proofs Go.RowKit
variable {η : Nat → Value} {B : Bd}
namespace TR
set_option linter.unusedVariables false
set_option linter.unusedSimpArgs false
open TB TE TH
theorem mark_cons {c : UInt8} {r : List UInt8} (h : c ≠ 63) : markL (c :: r) = c :: markL r := by unfold markL; rw [List.takeWhile_cons_of_pos (by simpa using h)]
theorem mark_63 (r : List UInt8) : markL (63 :: r) = [] := by unfold markL; rw [List.takeWhile_cons_of_neg (by decide)]
theorem hex_63 {c : UInt8} (h : hexB c = true) : c ≠ 63 := by rintro rfl; cases h
theorem okT_mark : ∀ (n : Nat) (s : List UInt8), s.length ≤ n → okT s = true → okT (markL s) = true ∧ okT (s.drop (markL s).length) = true := by
  intro n
  induction n with
  | zero =>
    intro s hn h
    obtain rfl : s = [] := List.length_eq_zero_iff.1 (by omega)
    exact ⟨h, h⟩
  | succ n ih =>
    intro s hn h
    cases s with
    | nil => exact ⟨h, h⟩
    | cons c t =>
      rw [List.length_cons] at hn
      rw [okT_cons] at h
      cases he : encB (c :: t) with
      | true =>
        rw [he, if_pos rfl] at h
        obtain ⟨hc, a, b, r, rfl, ha, hb⟩ := encB_some he
        subst hc
        simp only [List.length_cons] at hn
        obtain ⟨i1, i2⟩ := ih r (by omega) h
        have e : markL (37 :: a :: b :: r) = 37 :: a :: b :: markL r := by rw [mark_cons (by decide), mark_cons (hex_63 ha), mark_cons (hex_63 hb)]
        rw [e]
        refine ⟨?_, i2⟩
        rw [okT_cons, encB_cons, ha, hb]
        exact i1
      | false =>
        rw [he] at h
        simp only [Bool.false_eq_true, if_false, Bool.and_eq_true] at h
        by_cases h63 : c = 63
        · subst h63
          rw [mark_63]
          refine ⟨okT_nil, ?_⟩
          rw [List.length_nil, List.drop_zero, okT_cons, he]
          simp only [Bool.false_eq_true, if_false, Bool.and_eq_true]
          exact h
        · have h37 : c ≠ 37 := by
            rintro rfl
            rw [show ((37 : UInt8) == 63 || plnB 37 || resB 37) = false from by decide] at h
            cases h.1
          obtain ⟨i1, i2⟩ := ih t (by omega) h.2
          rw [mark_cons h63]
          refine ⟨?_, i2⟩
          rw [okT_cons, encB_ne h37]
          simp only [Bool.false_eq_true, if_false, Bool.and_eq_true]
          exact ⟨h.1, i1⟩
theorem rest_eq : ∀ s : List UInt8, s.drop (markL s).length = if hasQ s = true then 63 :: qry s else []
  | [] => rfl
  | c :: r => by
    by_cases hc : c = 63
    · subst hc
      unfold qry
      rw [mark_63]
      rfl
    · have := rest_eq r
      have e1 : hasQ (c :: r) = hasQ r := by unfold hasQ; rw [List.any_cons, show (c == 63) = false from by simpa using hc, Bool.false_or]
      have e2 : qry (c :: r) = qry r := by unfold qry; rw [mark_cons hc]; rfl
      rw [e1, e2, ← this, mark_cons hc]
      rfl
theorem tgt_okT {s : List UInt8} (h : tgtE s = 0) : okT s = true := by
  unfold tgtE at h
  split at h
  · cases h
  · split at h
    · cases h
    · rename_i c r _
      split at h
      · rename_i hc
        simp only [Bool.and_eq_true] at hc
        exact hc.2
      · cases h
theorem pdec_ok (hη : OneCells η) (hmix : Tryz.prog.follows .mixedOrders = true) (henc : EncOk η) (s : List UInt8) (hs : s.length ≤ 100000) (hok : okT s = true) {h : AH} (ht : HasT h tabQ) :
    CallSpec η Tryz.prog B 78 [.string ⟨⟨s⟩⟩] h (KT.ret (.string ⟨⟨dec s⟩⟩) h).sat :=
  CallSpec.pureT (v := .string ⟨⟨dec s⟩⟩) (hs := heapP Tryz.prog tabQ) hη gs9 tabQ_ok onlyP ht (.cons (.string _) .nil) (fun _ _ => .string _) (pdec_can hη hmix henc s hs hok)
theorem wd_ok (hη : OneCells η) (hmix : Tryz.prog.follows .mixedOrders = true) (s : List UInt8) (h1 : 1 ≤ s.length) (hs : s.length ≤ 600) (h : AH) :
    CallSpec η Tryz.prog B 77 [.string ⟨⟨s⟩⟩] h (KT.ret (.string ⟨⟨slash (keep [] (segs s))⟩⟩) h).sat :=
  CallSpec.bare hη gs9 (fun _ _ => str_args) (fun _ _ => .string _) (fun _ _ => .string _) (wd_can hη hmix s h1 hs) h
set_option maxRecDepth 20000 in
theorem cln_ok (hη : OneCells η) (hmix : Tryz.prog.follows .mixedOrders = true) (henc : EncOk η) (s : List UInt8) (hs : s.length ≤ 900000) {h : AH} (ht : HasT h tabQ) :
    CallSpec η Tryz.prog B 13 [.string ⟨⟨s⟩⟩] h (clnK [.string ⟨⟨s⟩⟩] h).sat := by
  refine CallSpec.pureT (v := .tuple ⟨[.string ⟨⟨clnS s⟩⟩, .int .i64 (tgtE s)]⟩) (hs := heapP Tryz.prog tabQ) hη gs9 tabQ_ok onlyP ht (.cons (.string _) .nil) (fun σ M => rv2s _ _) ?_
  have e : heapP Tryz.prog tabQ = QCln.H0 kindCells s := by kernel_rfl
  rw [e]
  refine QCln.enter hη hmix (reg0 hη hmix) kindCells s ?_
  have e63 : (#[(63 : UInt8)].toList.headD (0 : UInt8)) = 63 := rfl
  simp only [W.holds, true_and, and_true, true_implies, bne_iff_ne, ne_eq, bne_eq_false_iff_eq, e63, (ct63 s).1, (ct63 s).2.1, (ct63 s).2.2, Int.toNat_natCast, Nat.le_refl, Int.le_refl]
  have hm := mark_le s
  refine ⟨chkT_ok hη hmix henc s hs (hasQ2 rfl rfl), fun he => ?_, fun he => ?_⟩
  · unfold clnS
    rw [if_neg he]
  obtain ⟨pr, hpr⟩ := splP_cons he
  have hsp : splP s = markL s := by unfold splP; rw [if_pos he]
  rw [hsp] at hpr
  have h500 := tgt_500 he
  obtain ⟨o1, o2⟩ := okT_mark _ s (Nat.le_refl _) (tgt_okT he)
  have hdl : (dec (markL s)).length ≤ 500 := Nat.le_trans (dec_len _ _ (Nat.le_refl _)) (by omega)
  have hd1 : 1 ≤ (dec (markL s)).length := by rw [hpr, dec_no (encB_ne (by decide)), List.length_cons]; omega
  have hr : List.take (s.length - (markL s).length) (List.drop (markL s).length s) = s.drop (markL s).length := List.take_of_length_le (by rw [List.length_drop]; exact Nat.le_refl _)
  have hrl : (s.drop (markL s).length).length ≤ 500 := by rw [List.length_drop]; omega
  rw [hr]
  have hQ : dec (s.drop (markL s).length) = if hasQ s = true then 63 :: dec (qry s) else [] := by
    rw [rest_eq]
    split
    · rw [dec_no (encB_ne (by decide))]
    · exact dec_nil
  have hrd := dec_len _ (s.drop (markL s).length) (Nat.le_refl _)
  obtain ⟨K, hK⟩ : ∃ K, K = keep [] (segs (dec (markL s))) := ⟨_, rfl⟩
  have hKl : K.length ≤ 501 := by
    rw [hK]
    have h1 := keep_len (segs (dec (markL s))) []
    have h2 := segF_len ((dec (markL s)).drop 1) []
    rw [List.length_drop] at h2
    unfold segs at h1 ⊢
    simp only [List.length_nil] at h1
    omega
  have hKm : ∀ x ∈ K, x.length ≤ 500 := by
    intro x hx
    rw [hK] at hx
    rcases keep_mem _ _ x hx with h | h | h
    · cases h
    · have := segF_mem _ _ x h
      rw [List.length_drop] at this
      simp only [List.length_nil] at this
      omega
    · rw [h]; exact Nat.zero_le _
  have hsl := slash_len hKm 501
  rw [List.take_of_length_le hKl] at hsl
  rw [← hK]
  refine ⟨ct_63 hη hmix s hs _, pdec_ok hη hmix henc _ (by omega) o1 (hasQ2 rfl rfl), hK ▸ wd_ok hη hmix _ hd1 (by omega) _, ⟨fun h => absurd h (by show ¬ ((78 : Nat) = 77); decide), trivial⟩, fun _ => ⟨⟨by omega, by omega⟩, fun _ => ⟨pdec_ok hη hmix henc _ (by omega) o2 (hasQ2 rfl rfl), ⟨fun h => absurd h (by show ¬ ((77 : Nat) = 78); decide), fun _ ha _ => ⟨?_, rfl⟩, trivial⟩, fun _ => ⟨by omega, fun _ => ⟨kind_nn, fun _ => ?_⟩⟩⟩⟩⟩
  · simp only [List.cons.injEq, Value.string.injEq, and_true, ByteArray.mk.injEq, Array.mk.injEq] at ha
    rw [ha]
  · rw [hQ, he]
    unfold clnS
    rw [if_pos he, ← hK]
end TR
end Go.Ev

namespace Go.Ev
set_option linter.unusedVariables false
set_option linter.unusedSimpArgs false
open Go Go.Proofs Go.RowKit
variable {η : Nat → Value} {B : Bd}
namespace TR
set_option linter.unusedVariables false
set_option linter.unusedSimpArgs false
open TB TE TH
abbrev tabA (ms : List Value) : List (Nat × TypeId × List Value) := [(0, 102, ms), (1, 191, kindCells), (5, 114, [.chan (some 0)])]
/-- What is asked of the law's closed call. -/
def ShownOk (η : Nat → Value) (ms : List Value) : Prop := ∀ {B : Bd} {h : AH}, h.objs.get 0 = some (.cells 102 ms true 0) → HasT h tabQ → CallSpec η Tryz.prog B 8 [] h fun v h' => v = .bool true ∧ h' = h
end TR
end Go.Ev

namespace Go.Proofs.YtjjlnehilcnheaaGreatDoor.requestShownRun
set_option linter.unusedVariables false
set_option linter.unusedSimpArgs false
open Go Go.Ev Go.RowKit
def ms : List Value := match tab with | (_, _, l) :: _ => l | _ => []
abbrev tabS : List (Nat × TypeId × List Value) := [(0, 102, ms), (1, 191, TR.kindCells)]
theorem tab_eq : tab = tabS := by kernel_rfl
noncomputable def hEnd : AH := match stepA Tryz.prog nest s5 with | .ok (.done _ _ h) => h | _ => ⟨.nil, 0⟩
theorem end0 : stepA Tryz.prog nest s5 = .ok (.done 8 (.bool true) hEnd) := by kernel_rfl
theorem end1 : hEnd.objs.get 0 = some (.cells 102 ms true 0) := by kernel_rfl
theorem end2 : hEnd.objs.get 1 = some (.cells 191 TR.kindCells true 0) := by kernel_rfl
theorem whole2 {η : Nat → Value} (hη : OneCells η) (hmix : Tryz.prog.follows .mixedOrders = true) {B : Bd} : CallSpec η Tryz.prog B 8 [] (heapP Tryz.prog tabS) fun v h => v = .bool true ∧ h = hEnd := by
  rw [← tab_eq]
  have hreg := regionA_ok (B := B) hη hmix (nestA_ok hη hmix 1000000 20)
  refine CallSpec.enter (fr := s0.fr) (by kernel_rfl) ?_
  exact Run.chunk hη hreg seg0 <| Run.chunk hη hreg seg1 <| Run.chunk hη hreg seg2 <| Run.chunk hη hreg seg3 <| Run.chunk hη hreg seg4 <| Run.done hη hreg end0 ⟨rfl, rfl⟩
theorem tabS_ok : TabOk Tryz.prog tabS := by
  intro x hx
  simp only [List.mem_cons, List.not_mem_nil, or_false] at hx
  rcases hx with rfl | rfl
  · exact ⟨of_decide_eq_true (by kernel_rfl), by kernel_rfl⟩
  · exact ⟨of_decide_eq_true (by kernel_rfl), TR.kind_flat⟩
theorem hasS {h : AH} (h1 : h.objs.get 0 = some (.cells 102 ms true 0)) (h2 : h.objs.get 1 = some (.cells 191 TR.kindCells true 0)) : HasT h tabS := by
  intro x hx
  simp only [List.mem_cons, List.not_mem_nil, or_false] at hx
  rcases hx with rfl | rfl
  · exact h1
  · exact h2
theorem shown_ok {η : Nat → Value} (hη : OneCells η) (hmix : Tryz.prog.follows .mixedOrders = true) : TR.ShownOk η ms := by
  intro B h h1 ht
  refine CallSpec.pureT (v := .bool true) (hs := heapP Tryz.prog tabS) hη TB.gs9 tabS_ok onlyP (hasS h1 (ht (1, 191, TR.kindCells) (by simp))) .nil (fun _ _ => .bool _) ?_
  refine (whole2 hη hmix).forget hη ?_
  intro v h2 hv hn
  obtain ⟨hv, he⟩ := hv
  subst hv
  have hh : HasT h2 tabS := by rw [he]; exact hasS end1 end2
  exact ⟨fun r => r, _, heapP Tryz.prog tabS, ⟨rfl, rfl⟩, emb_tab TB.gs9 tabS_ok onlyP hh, Nat.le_refl _, fun _ _ => rfl, .bool _⟩
theorem var_lits {P : Program} {W : World} {name : String} {d : DataW Unit} {l : List Lit} {g : Nat} {t : TypeId} {m : Nat} (h : Lib.VarReads P W name d) (hg : P.globalNamed name = some g)
    (hty : (P.globals[g]?).map (·.type) = some t) (hk : P.keyTypeAt m t = true) (ht : P.tiled m t = true) (hl : d.flat = l) : W.var? P name = some (l.map Lit.toCell).toArray := by
  obtain ⟨g', t', cs, fuel, p, hg', ht', hv, hd⟩ := h
  obtain rfl := Option.some.inj (hg.symm.trans hg')
  obtain rfl := Option.some.inj (hty.symm.trans ht')
  have h1 := (keyLits_of_trod m t hk fuel cs.toList (d, p) hd).1
  rw [hl] at h1
  have h2 := cells_of_lits m t ht m cs.toList l h1
  rw [hv, ← h2]
theorem var_iface {P : Program} {W : World} {name n : String} {d : DataW Unit} {g : Nat} {t : TypeId} {ms} (h : Lib.VarReads P W name (.iface n d)) (hg : P.globalNamed name = some g)
    (hty : (P.globals[g]?).map (·.type) = some t) (hi : P.underlying t = some (.interface ms)) : ∃ tp p, W.var? P name = some #[.iface tp p] := by
  obtain ⟨g', t', cs, fuel, p, hg', ht', hv, hd⟩ := h
  obtain rfl := Option.some.inj (hg.symm.trans hg')
  obtain rfl := Option.some.inj (hty.symm.trans ht')
  obtain ⟨_, u, v, hc, _⟩ := iface_of_trod hi hd
  refine ⟨u, v, ?_⟩
  rw [hv]
  have : cs = #[.iface u v] := by apply Array.toList_inj.1; exact hc
  rw [this]
theorem row0 : ((begin Tryz.prog (fun _ _ => 0) default).world.heap[0]?).bind Obj.row? = some ((List.replicate 9 [Value.string ⟨#[]⟩, .bool false, .bool false, .bool false, .bool false, .bool false]).flatten.toArray, 102) := by kernel_rfl
theorem row1 : ((begin Tryz.prog (fun _ _ => 0) default).world.heap[1]?).bind Obj.row? = some (Array.replicate 128 (.int .u8 0), 191) := by kernel_rfl
theorem row2 : ((begin Tryz.prog (fun _ _ => 0) default).world.heap[5]?).bind Obj.row? = some (#[.nilIface], 114) := by kernel_rfl
theorem ms_eq : (Rows.laid_spillway_request_methods : DataW Unit).flat.map Lit.toCell = ms := by kernel_rfl
theorem kc_eq : (Rows.laid_spillway_request_kinds : DataW Unit).flat.map Lit.toCell = TR.kindCells := by kernel_rfl
/-- What the listed variables hold. -/
theorem tabs {W : World} (r0 : Lib.VarReads Tryz.prog W "spillway/request.methods" Rows.laid_spillway_request_methods) (r1 : Lib.VarReads Tryz.prog W "spillway/request.kinds" Rows.laid_spillway_request_kinds) (r2 : Lib.VarReads Tryz.prog W "strconv.ErrSyntax" Rows.laid_strconv_ErrSyntax) (hS : W.ShapedOpen Tryz.prog) :
    ∃ tp p, ∀ x ∈ TR.tabA ms, TabAtP (fun _ => .iface tp p) Tryz.prog W x := by
  have v0 := var_lits (m := 8) r0 (g := 0) (t := 102) (by kernel_rfl) (by kernel_rfl) (by kernel_rfl) (by kernel_rfl) (l := _) rfl
  have v1 := var_lits (m := 8) r1 (g := 1) (t := 191) (by kernel_rfl) (by kernel_rfl) (by kernel_rfl) (by kernel_rfl) (l := _) rfl
  obtain ⟨tp, p, v2⟩ := var_iface r2 (g := 5) (t := 114) (by kernel_rfl) (by kernel_rfl) Tryz.underlying114
  rw [ms_eq] at v0
  rw [kc_eq] at v1
  refine ⟨tp, p, fun x hx => ?_⟩
  simp only [List.mem_cons, List.not_mem_nil, or_false] at hx
  rcases hx with rfl | rfl | rfl
  · exact TabAtP.lits hS row0 (of_decide_eq_true (by kernel_rfl)) (name := "spillway/request.methods") (by kernel_rfl) v0 (by kernel_rfl)
  · exact TabAtP.lits hS row1 (of_decide_eq_true (by kernel_rfl)) (name := "spillway/request.kinds") (by kernel_rfl) v1 (by kernel_rfl)
  · exact TabAtP.opq hS row2 (of_decide_eq_true (by kernel_rfl)) (name := "strconv.ErrSyntax") (by kernel_rfl) v2
end Go.Proofs.YtjjlnehilcnheaaGreatDoor.requestShownRun

namespace Go.Ev
set_option linter.unusedVariables false
set_option linter.unusedSimpArgs false
namespace TR
set_option linter.unusedVariables false
set_option linter.unusedSimpArgs false
open TB
def begB (s t : List UInt8) : Bool := decide (t.length ≤ s.length) && s.take t.length == t
end TR
end Go.Ev

namespace Go.Ev
set_option linter.unusedVariables false
set_option linter.unusedSimpArgs false
open Go Go.Proofs
open Go.Ev.T renaming node → nN, nil → nZ
open Go.Proofs.Tryz (prog)
set_option maxRecDepth 100000
set_option maxHeartbeats 2000000
namespace QBeg
set_option linter.unusedVariables false
noncomputable def bd : Code := (Go.Proofs.Tryz.f15.body).getD .skip
noncomputable def H0 (s : List UInt8) (t : List UInt8) : AH := { objs := nZ, next := 126 }
noncomputable def E (s : List UInt8) (t : List UInt8) : AS := ⟨⟨15, 18, nN (some (Value.string ⟨⟨s⟩⟩)) (nN (some (Value.string ⟨⟨t⟩⟩)) nZ nZ) nZ, [Item.code (codeAt bd [])], [], FrameMode.run, CallKind.normal, none⟩, [], ⟨nZ, 126⟩⟩
theorem enter {η : Nat → Value} {B : Bd} (hη : OneCells η) (hmix : prog.follows .mixedOrders = true) (hreg : RegOk η prog B noNest) {D : Value → AH → Prop} (s : List UInt8) (t : List UInt8) (h : W.holds η prog B 15 (fun kp_ st_ => RunD η prog B 15 (H0 s t) kp_ st_ (QF prog 126 D)) D (.ite (decide ((↑s.length : Int) ≥ (↑t.length : Int))) (.need ((0 : Int) ≤ (0 : Int) ∧ (0 : Int) ≤ (↑t.length : Int) ∧ (↑t.length : Int) ≤ (↑s.length : Int)) (.done 15 (Value.bool (List.take ((↑t.length : Int).toNat - 0) (List.drop 0 s) == t)) (H0 s t))) (.done 15 (Value.bool false) (H0 s t)))) : CallSpec η prog B 15 [Value.string ⟨⟨s⟩⟩, Value.string ⟨⟨t⟩⟩] (H0 s t) D := by
  refine CallSpec.ofQF hη (CallSpec.enter (fr := (E s t).fr) (by kernel_rfl) ?_)
  exact walk_okT (h0 := H0 s t) hη hmix hreg (.steps 12 <| .bit 10 (.steps 3 <| .op <| .steps 6 <| .done none) (.steps 10 <| .done none)) (E s t) (by kernel_rfl) h (by kernel_rfl)
end QBeg
namespace QNrm
set_option linter.unusedVariables false
noncomputable def bd : Code := (Go.Proofs.Tryz.f4.body).getD .skip
noncomputable def H0 (ms : List Value) (kc : List Value) (s : List UInt8) : AH := { objs := nN (some (AObj.cells 102 ms true 0)) (nN (some (AObj.cells 191 kc true 0)) nZ (nN (some (AObj.cells 114 [Value.chan (some 0)] true 0)) nZ nZ)) nZ, next := 126 }
noncomputable def E (ms : List Value) (kc : List Value) (s : List UInt8) : AS := ⟨⟨4, 161, nN (some (Value.string ⟨⟨s⟩⟩)) nZ nZ, [Item.code (codeAt bd [])], [], FrameMode.run, CallKind.normal, none⟩, [], ⟨nN (some (AObj.cells 102 ms true 0)) (nN (some (AObj.cells 191 kc true 0)) nZ (nN (some (AObj.cells 114 [Value.chan (some 0)] true 0)) nZ nZ)) nZ, 126⟩⟩
noncomputable def S0 (ms : List Value) (kc : List Value) (s : List UInt8) (i0 : Int) (d : Nat → Value) : AS := ⟨⟨4, 161, nN (some (d 0)) (nN (some (d 1)) (nN (some (d 3)) (nN (some (d 7)) (nN (some (Value.string ⟨⟨TR.splP (TR.clnS s) ++ #[OfNat.ofNat 47].toList⟩⟩)) (nN (some (d 31)) (nN (some (d 63)) (nN (some (d 127)) nZ nZ) nZ) (nN (some (d 95)) (nN (some (d 159)) nZ nZ) nZ)) (nN (some (d 47)) (nN (some (d 79)) (nN (some (d 143)) nZ nZ) nZ) (nN (some (d 111)) nZ nZ))) (nN (some (d 23)) (nN (some (d 39)) (nN (some (d 71)) (nN (some (d 135)) nZ nZ) nZ) (nN (some (d 103)) nZ nZ)) (nN (some (d 55)) (nN (some (d 87)) (nN (some (d 151)) nZ nZ) nZ) (nN (some (d 119)) nZ nZ)))) (nN (some (d 11)) (nN (some (d 19)) (nN (some (d 35)) (nN (some (d 67)) (nN (some (d 131)) nZ nZ) nZ) (nN (some (d 99)) nZ nZ)) (nN (some (d 51)) (nN (some (d 83)) (nN (some (d 147)) nZ nZ) nZ) (nN (some (d 115)) nZ nZ))) (nN (some (d 27)) (nN (some (d 43)) (nN (some (d 75)) (nN (some (d 139)) nZ nZ) nZ) (nN (some (d 107)) nZ nZ)) (nN (some (d 59)) (nN (some (d 91)) (nN (some (d 155)) nZ nZ) nZ) (nN (some (d 123)) nZ nZ))))) (nN (some (d 5)) (nN (some (d 9)) (nN (some (d 17)) (nN (some (d 33)) (nN (some (d 65)) (nN (some (d 129)) nZ nZ) nZ) (nN (some (d 97)) nZ nZ)) (nN (some (d 49)) (nN (some (d 81)) (nN (some (d 145)) nZ nZ) nZ) (nN (some (d 113)) nZ nZ))) (nN (some (d 25)) (nN (some (d 41)) (nN (some (d 73)) (nN (some (d 137)) nZ nZ) nZ) (nN (some (d 105)) nZ nZ)) (nN (some (d 57)) (nN (some (d 89)) (nN (some (d 153)) nZ nZ) nZ) (nN (some (d 121)) nZ nZ)))) (nN (some (d 13)) (nN (some (d 21)) (nN (some (d 37)) (nN (some (d 69)) (nN (some (d 133)) nZ nZ) nZ) (nN (some (d 101)) nZ nZ)) (nN (some (d 53)) (nN (some (d 85)) (nN (some (d 149)) nZ nZ) nZ) (nN (some (d 117)) nZ nZ))) (nN (some (d 29)) (nN (some (d 45)) (nN (some (d 77)) (nN (some (d 141)) nZ nZ) nZ) (nN (some (d 109)) nZ nZ)) (nN (some (d 61)) (nN (some (d 93)) (nN (some (d 157)) nZ nZ) nZ) (nN (some (d 125)) nZ nZ)))))) (nN (some (d 2)) (nN (some (d 4)) (nN (some (d 8)) (nN (some (Value.int IntKind.i64 i0)) (nN (some (d 32)) (nN (some (d 64)) (nN (some (d 128)) nZ nZ) nZ) (nN (some (d 96)) (nN (some (d 160)) nZ nZ) nZ)) (nN (some (d 48)) (nN (some (d 80)) (nN (some (d 144)) nZ nZ) nZ) (nN (some (d 112)) nZ nZ))) (nN (some (d 24)) (nN (some (d 40)) (nN (some (d 72)) (nN (some (d 136)) nZ nZ) nZ) (nN (some (d 104)) nZ nZ)) (nN (some (d 56)) (nN (some (d 88)) (nN (some (d 152)) nZ nZ) nZ) (nN (some (d 120)) nZ nZ)))) (nN (some (d 12)) (nN (some (d 20)) (nN (some (d 36)) (nN (some (d 68)) (nN (some (d 132)) nZ nZ) nZ) (nN (some (d 100)) nZ nZ)) (nN (some (d 52)) (nN (some (d 84)) (nN (some (d 148)) nZ nZ) nZ) (nN (some (d 116)) nZ nZ))) (nN (some (d 28)) (nN (some (d 44)) (nN (some (d 76)) (nN (some (d 140)) nZ nZ) nZ) (nN (some (d 108)) nZ nZ)) (nN (some (d 60)) (nN (some (d 92)) (nN (some (d 156)) nZ nZ) nZ) (nN (some (d 124)) nZ nZ))))) (nN (some (d 6)) (nN (some (d 10)) (nN (some (d 18)) (nN (some (d 34)) (nN (some (d 66)) (nN (some (d 130)) nZ nZ) nZ) (nN (some (d 98)) nZ nZ)) (nN (some (d 50)) (nN (some (d 82)) (nN (some (d 146)) nZ nZ) nZ) (nN (some (d 114)) nZ nZ))) (nN (some (d 26)) (nN (some (d 42)) (nN (some (d 74)) (nN (some (d 138)) nZ nZ) nZ) (nN (some (d 106)) nZ nZ)) (nN (some (d 58)) (nN (some (d 90)) (nN (some (d 154)) nZ nZ) nZ) (nN (some (d 122)) nZ nZ)))) (nN (some (d 14)) (nN (some (d 22)) (nN (some (d 38)) (nN (some (d 70)) (nN (some (d 134)) nZ nZ) nZ) (nN (some (d 102)) nZ nZ)) (nN (some (d 54)) (nN (some (d 86)) (nN (some (d 150)) nZ nZ) nZ) (nN (some (d 118)) nZ nZ))) (nN (some (d 30)) (nN (some (d 46)) (nN (some (d 78)) (nN (some (d 142)) nZ nZ) nZ) (nN (some (d 110)) nZ nZ)) (nN (some (d 62)) (nN (some (d 94)) (nN (some (d 158)) nZ nZ) nZ) (nN (some (d 126)) nZ nZ)))))), [Item.code (codeAt bd [1, 1, 1, 1, 1, 1, 1, 1, 1, 0, 1, 0, 0]), Item.inLoop (codeAt bd [1, 1, 1, 1, 1, 1, 1, 1, 1, 0, 1, 0, 0]), Item.inBlock 0, Item.code (codeAt bd [1, 1, 1, 1, 1, 1, 1, 1, 1, 1])], [], FrameMode.run, CallKind.normal, none⟩, [], ⟨nN (some (AObj.cells 102 ms true 0)) (nN (some (AObj.cells 191 kc true 0)) nZ (nN (some (AObj.cells 114 [Value.chan (some 0)] true 0)) nZ nZ)) nZ, 126⟩⟩
noncomputable abbrev henter_0 (ms : List Value) (kc : List Value) : AH := ⟨nN (some (AObj.cells 102 ms true 0)) (nN (some (AObj.cells 191 kc true 0)) nZ (nN (some (AObj.cells 114 [Value.chan (some 0)] true 0)) nZ nZ)) nZ, 126⟩
theorem enter {η : Nat → Value} {B : Bd} (hη : OneCells η) (hmix : prog.follows .mixedOrders = true) (hreg : RegOk η prog B noNest) {D : Value → AH → Prop} (ms : List Value) (kc : List Value) (s : List UInt8) (h : W.holds η prog B 4 (fun kp_ st_ => RunD η prog B 4 (H0 ms kc s) kp_ st_ (QF prog 126 D)) D (.ite (decide ((↑s.length : Int) > (500 : Int))) (.call 8 [] ((henter_0 ms kc)) (.ret (Value.bool true) ((henter_0 ms kc))) (.done 4 (Value.bool true) (H0 ms kc s))) (.call 13 [Value.string ⟨⟨s⟩⟩] ((henter_0 ms kc)) (.ret (Value.tuple ⟨[Value.string ⟨⟨TR.clnS s⟩⟩, Value.int IntKind.i64 (TR.tgtE s)]⟩) ((henter_0 ms kc))) (.ite (TR.tgtE s != (0 : Int)) (.ite (TR.clnS s == #[].toList) (.call 8 [] ((henter_0 ms kc)) (.ret (Value.bool true) ((henter_0 ms kc))) (.done 4 (Value.bool true) (H0 ms kc s))) (.done 4 (Value.bool false) (H0 ms kc s))) (.call 13 [Value.string ⟨⟨TR.clnS s⟩⟩] ((henter_0 ms kc)) (.ret (Value.tuple ⟨[Value.string ⟨⟨TR.clnS (TR.clnS s)⟩⟩, Value.int IntKind.i64 (TR.tgtE (TR.clnS s))]⟩) ((henter_0 ms kc))) (.call 14 [Value.string ⟨⟨TR.clnS s⟩⟩] ((henter_0 ms kc)) (.ret (Value.tuple ⟨[Value.string ⟨⟨TR.splP (TR.clnS s)⟩⟩, Value.string ⟨⟨TR.splQ (TR.clnS s)⟩⟩, Value.bool (TR.splB (TR.clnS s)), Value.int IntKind.i64 (TR.tgtE (TR.clnS s))]⟩) ((henter_0 ms kc))) (.call 14 [Value.string ⟨⟨s⟩⟩] ((henter_0 ms kc)) (.ret (Value.tuple ⟨[Value.string ⟨⟨TR.splP s⟩⟩, Value.string ⟨⟨TR.splQ s⟩⟩, Value.bool (TR.splB s), Value.int IntKind.i64 (TR.tgtE s)]⟩) ((henter_0 ms kc))) (.ite (!TR.clnS (TR.clnS s) == TR.clnS s) (.done 4 (Value.bool false) (H0 ms kc s)) (.ite (TR.tgtE (TR.clnS s) != (0 : Int)) (.done 4 (Value.bool false) (H0 ms kc s)) (.ite (TR.tgtE (TR.clnS s) != (0 : Int)) (.done 4 (Value.bool false) (H0 ms kc s)) (.ite (TR.tgtE s != (0 : Int)) (.done 4 (Value.bool false) (H0 ms kc s)) (.ite ((TR.splB (TR.clnS s) == TR.splB s) == false) (.done 4 (Value.bool false) (H0 ms kc s)) (.ite (decide ((↑(TR.clnS s).length : Int) > (↑s.length : Int))) (.done 4 (Value.bool false) (H0 ms kc s)) (.ite (TR.splP (TR.clnS s) == #[].toList) (.done 4 (Value.bool false) (H0 ms kc s)) (.need ((0 : Int) ≤ (0 : Int) ∧ (0 : Int) < (↑(TR.splP (TR.clnS s)).length : Int)) (.ite (byteAt (TR.splP (TR.clnS s)) (0 : Int) != (47 : Int)) (.done 4 (Value.bool false) (H0 ms kc s)) (.need ((TR.splP (TR.clnS s)).length + (1 : Nat) ≤ (9223372036854775807 : Nat)) (.stop [15, 16] (S0 ms kc s (0) (fun _ => undef)))))))))))))))))))) : CallSpec η prog B 4 [Value.string ⟨⟨s⟩⟩] (H0 ms kc s) D := by
  refine CallSpec.ofQF hη (CallSpec.enter (fr := (E ms kc s).fr) (by kernel_rfl) ?_)
  exact walk_okT (h0 := H0 ms kc s) hη hmix hreg (.steps 11 <| .bit 19 (.steps 3 <| .call kN <| .steps 3 <| .done none) (.steps 5 <| .call kN <| .steps 12 <| .bit 27 (.steps 6 <| .bit 30 (.call kN <| .steps 4 <| .done none) (.steps 5 <| .done none)) (.steps 5 <| .call kN <| .steps 9 <| .call kN <| .steps 13 <| .call kN <| .steps 17 <| .bit 55 (.steps 39 <| .done none) (.steps 4 <| .bit 59 (.steps 35 <| .done none) (.steps 4 <| .bit 63 (.steps 31 <| .done none) (.steps 4 <| .bit 67 (.steps 27 <| .done none) (.steps 5 <| .bit 72 (.steps 22 <| .done none) (.steps 7 <| .bit 79 (.steps 15 <| .done none) (.steps 4 <| .bit 83 (.steps 11 <| .done none) (.steps 1 <| .op <| .steps 3 <| .bit 87 (.steps 6 <| .done none) (.steps 5 <| .op <| .steps 9 <| .stop [15, 16] none))))))))))) (E ms kc s) (by kernel_rfl) h (by kernel_rfl)
noncomputable abbrev hcut0_0 (ms : List Value) (kc : List Value) : AH := ⟨nN (some (AObj.cells 102 ms true 0)) (nN (some (AObj.cells 191 kc true 0)) nZ (nN (some (AObj.cells 114 [Value.chan (some 0)] true 0)) nZ nZ)) nZ, 126⟩
theorem cut0 {η : Nat → Value} {B : Bd} (hη : OneCells η) (hmix : prog.follows .mixedOrders = true) (hreg : RegOk η prog B noNest) {D : Value → AH → Prop} (ms : List Value) (kc : List Value) (s : List UInt8) (i0 : Int) (h : W.holds η prog B 4 (fun kp_ st_ => RunD η prog B 4 (H0 ms kc s) kp_ st_ (QF prog 126 D)) D (.ite (decide (i0 < (↑(TR.splP (TR.clnS s) ++ #[OfNat.ofNat (47 : Nat)].toList).length : Int))) (.need ((0 : Int) ≤ i0 ∧ i0 ≤ (↑(TR.splP (TR.clnS s) ++ #[OfNat.ofNat (47 : Nat)].toList).length : Int) ∧ (↑(TR.splP (TR.clnS s) ++ #[OfNat.ofNat (47 : Nat)].toList).length : Int) ≤ (↑(TR.splP (TR.clnS s) ++ #[OfNat.ofNat (47 : Nat)].toList).length : Int)) (.call 15 [Value.string ⟨⟨List.take ((↑(TR.splP (TR.clnS s) ++ #[OfNat.ofNat 47].toList).length : Int).toNat - i0.toNat) (List.drop i0.toNat (TR.splP (TR.clnS s) ++ #[OfNat.ofNat 47].toList))⟩⟩, Value.string ⟨#[OfNat.ofNat 47, OfNat.ofNat 46, OfNat.ofNat 47]⟩] ((hcut0_0 ms kc)) (.ret (Value.bool (TR.begB (List.take ((↑(TR.splP (TR.clnS s) ++ #[OfNat.ofNat 47].toList).length : Int).toNat - i0.toNat) (List.drop i0.toNat (TR.splP (TR.clnS s) ++ #[OfNat.ofNat 47].toList))) #[OfNat.ofNat 47, OfNat.ofNat 46, OfNat.ofNat 47].toList)) ((hcut0_0 ms kc))) (.ite (TR.begB (List.take ((↑(TR.splP (TR.clnS s) ++ #[OfNat.ofNat (47 : Nat)].toList).length : Int).toNat - i0.toNat) (List.drop i0.toNat (TR.splP (TR.clnS s) ++ #[OfNat.ofNat (47 : Nat)].toList))) #[OfNat.ofNat (47 : Nat), OfNat.ofNat (46 : Nat), OfNat.ofNat (47 : Nat)].toList) (.done 4 (Value.bool false) (H0 ms kc s)) (.need ((0 : Int) ≤ i0 ∧ i0 ≤ (↑(TR.splP (TR.clnS s) ++ #[OfNat.ofNat (47 : Nat)].toList).length : Int) ∧ (↑(TR.splP (TR.clnS s) ++ #[OfNat.ofNat (47 : Nat)].toList).length : Int) ≤ (↑(TR.splP (TR.clnS s) ++ #[OfNat.ofNat (47 : Nat)].toList).length : Int)) (.call 15 [Value.string ⟨⟨List.take ((↑(TR.splP (TR.clnS s) ++ #[OfNat.ofNat 47].toList).length : Int).toNat - i0.toNat) (List.drop i0.toNat (TR.splP (TR.clnS s) ++ #[OfNat.ofNat 47].toList))⟩⟩, Value.string ⟨#[OfNat.ofNat 47, OfNat.ofNat 46, OfNat.ofNat 46, OfNat.ofNat 47]⟩] ((hcut0_0 ms kc)) (.ret (Value.bool (TR.begB (List.take ((↑(TR.splP (TR.clnS s) ++ #[OfNat.ofNat 47].toList).length : Int).toNat - i0.toNat) (List.drop i0.toNat (TR.splP (TR.clnS s) ++ #[OfNat.ofNat 47].toList))) #[OfNat.ofNat 47, OfNat.ofNat 46, OfNat.ofNat 46, OfNat.ofNat 47].toList)) ((hcut0_0 ms kc))) (.ite (TR.begB (List.take ((↑(TR.splP (TR.clnS s) ++ #[OfNat.ofNat (47 : Nat)].toList).length : Int).toNat - i0.toNat) (List.drop i0.toNat (TR.splP (TR.clnS s) ++ #[OfNat.ofNat (47 : Nat)].toList))) #[OfNat.ofNat (47 : Nat), OfNat.ofNat (46 : Nat), OfNat.ofNat (46 : Nat), OfNat.ofNat (47 : Nat)].toList) (.done 4 (Value.bool false) (H0 ms kc s)) (.need ((0 : Int) ≤ i0 ∧ i0 ≤ (↑(TR.splP (TR.clnS s) ++ #[OfNat.ofNat (47 : Nat)].toList).length : Int) ∧ (↑(TR.splP (TR.clnS s) ++ #[OfNat.ofNat (47 : Nat)].toList).length : Int) ≤ (↑(TR.splP (TR.clnS s) ++ #[OfNat.ofNat (47 : Nat)].toList).length : Int)) (.call 15 [Value.string ⟨⟨List.take ((↑(TR.splP (TR.clnS s) ++ #[OfNat.ofNat 47].toList).length : Int).toNat - i0.toNat) (List.drop i0.toNat (TR.splP (TR.clnS s) ++ #[OfNat.ofNat 47].toList))⟩⟩, Value.string ⟨#[OfNat.ofNat 37, OfNat.ofNat 52]⟩] ((hcut0_0 ms kc)) (.ret (Value.bool (TR.begB (List.take ((↑(TR.splP (TR.clnS s) ++ #[OfNat.ofNat 47].toList).length : Int).toNat - i0.toNat) (List.drop i0.toNat (TR.splP (TR.clnS s) ++ #[OfNat.ofNat 47].toList))) #[OfNat.ofNat 37, OfNat.ofNat 52].toList)) ((hcut0_0 ms kc))) (.ite (TR.begB (List.take ((↑(TR.splP (TR.clnS s) ++ #[OfNat.ofNat (47 : Nat)].toList).length : Int).toNat - i0.toNat) (List.drop i0.toNat (TR.splP (TR.clnS s) ++ #[OfNat.ofNat (47 : Nat)].toList))) #[OfNat.ofNat (37 : Nat), OfNat.ofNat (52 : Nat)].toList) (.ite (decide (IntKind.i64.wrap (i0 + (2 : Int)) < (↑(TR.splP (TR.clnS s) ++ #[OfNat.ofNat (47 : Nat)].toList).length : Int))) (.need ((0 : Int) ≤ IntKind.i64.wrap (i0 + (2 : Int)) ∧ IntKind.i64.wrap (i0 + (2 : Int)) < (↑(TR.splP (TR.clnS s) ++ #[OfNat.ofNat (47 : Nat)].toList).length : Int)) (.ite (decide (byteAt (TR.splP (TR.clnS s) ++ #[OfNat.ofNat (47 : Nat)].toList) (IntKind.i64.wrap (i0 + (2 : Int))) ≥ (49 : Int))) (.need ((0 : Int) ≤ IntKind.i64.wrap (i0 + (2 : Int)) ∧ IntKind.i64.wrap (i0 + (2 : Int)) < (↑(TR.splP (TR.clnS s) ++ #[OfNat.ofNat (47 : Nat)].toList).length : Int)) (.ite (decide (byteAt (TR.splP (TR.clnS s) ++ #[OfNat.ofNat (47 : Nat)].toList) (IntKind.i64.wrap (i0 + (2 : Int))) ≤ (57 : Int))) (.done 4 (Value.bool false) (H0 ms kc s)) (.need ((0 : Int) ≤ i0 ∧ i0 ≤ (↑(TR.splP (TR.clnS s) ++ #[OfNat.ofNat (47 : Nat)].toList).length : Int) ∧ (↑(TR.splP (TR.clnS s) ++ #[OfNat.ofNat (47 : Nat)].toList).length : Int) ≤ (↑(TR.splP (TR.clnS s) ++ #[OfNat.ofNat (47 : Nat)].toList).length : Int)) (.call 15 [Value.string ⟨⟨List.take ((↑(TR.splP (TR.clnS s) ++ #[OfNat.ofNat 47].toList).length : Int).toNat - i0.toNat) (List.drop i0.toNat (TR.splP (TR.clnS s) ++ #[OfNat.ofNat 47].toList))⟩⟩, Value.string ⟨#[OfNat.ofNat 37, OfNat.ofNat 51]⟩] ((hcut0_0 ms kc)) (.ret (Value.bool (TR.begB (List.take ((↑(TR.splP (TR.clnS s) ++ #[OfNat.ofNat 47].toList).length : Int).toNat - i0.toNat) (List.drop i0.toNat (TR.splP (TR.clnS s) ++ #[OfNat.ofNat 47].toList))) #[OfNat.ofNat 37, OfNat.ofNat 51].toList)) ((hcut0_0 ms kc))) (.ite (TR.begB (List.take ((↑(TR.splP (TR.clnS s) ++ #[OfNat.ofNat (47 : Nat)].toList).length : Int).toNat - i0.toNat) (List.drop i0.toNat (TR.splP (TR.clnS s) ++ #[OfNat.ofNat (47 : Nat)].toList))) #[OfNat.ofNat (37 : Nat), OfNat.ofNat (51 : Nat)].toList) (.ite (decide (IntKind.i64.wrap (i0 + (2 : Int)) < (↑(TR.splP (TR.clnS s) ++ #[OfNat.ofNat (47 : Nat)].toList).length : Int))) (.need ((0 : Int) ≤ IntKind.i64.wrap (i0 + (2 : Int)) ∧ IntKind.i64.wrap (i0 + (2 : Int)) < (↑(TR.splP (TR.clnS s) ++ #[OfNat.ofNat (47 : Nat)].toList).length : Int)) (.ite (decide (byteAt (TR.splP (TR.clnS s) ++ #[OfNat.ofNat (47 : Nat)].toList) (IntKind.i64.wrap (i0 + (2 : Int))) ≥ (48 : Int))) (.need ((0 : Int) ≤ IntKind.i64.wrap (i0 + (2 : Int)) ∧ IntKind.i64.wrap (i0 + (2 : Int)) < (↑(TR.splP (TR.clnS s) ++ #[OfNat.ofNat (47 : Nat)].toList).length : Int)) (.ite (decide (byteAt (TR.splP (TR.clnS s) ++ #[OfNat.ofNat (47 : Nat)].toList) (IntKind.i64.wrap (i0 + (2 : Int))) ≤ (57 : Int))) (.done 4 (Value.bool false) (H0 ms kc s)) (.stop [15, 16] (S0 ms kc s (IntKind.i64.wrap (i0 + 1)) (fun _ => undef))))) (.stop [15, 16] (S0 ms kc s (IntKind.i64.wrap (i0 + 1)) (fun _ => undef))))) (.stop [15, 16] (S0 ms kc s (IntKind.i64.wrap (i0 + 1)) (fun _ => undef)))) (.stop [15, 16] (S0 ms kc s (IntKind.i64.wrap (i0 + 1)) (fun _ => undef)))))))) (.need ((0 : Int) ≤ i0 ∧ i0 ≤ (↑(TR.splP (TR.clnS s) ++ #[OfNat.ofNat (47 : Nat)].toList).length : Int) ∧ (↑(TR.splP (TR.clnS s) ++ #[OfNat.ofNat (47 : Nat)].toList).length : Int) ≤ (↑(TR.splP (TR.clnS s) ++ #[OfNat.ofNat (47 : Nat)].toList).length : Int)) (.call 15 [Value.string ⟨⟨List.take ((↑(TR.splP (TR.clnS s) ++ #[OfNat.ofNat 47].toList).length : Int).toNat - i0.toNat) (List.drop i0.toNat (TR.splP (TR.clnS s) ++ #[OfNat.ofNat 47].toList))⟩⟩, Value.string ⟨#[OfNat.ofNat 37, OfNat.ofNat 51]⟩] ((hcut0_0 ms kc)) (.ret (Value.bool (TR.begB (List.take ((↑(TR.splP (TR.clnS s) ++ #[OfNat.ofNat 47].toList).length : Int).toNat - i0.toNat) (List.drop i0.toNat (TR.splP (TR.clnS s) ++ #[OfNat.ofNat 47].toList))) #[OfNat.ofNat 37, OfNat.ofNat 51].toList)) ((hcut0_0 ms kc))) (.ite (TR.begB (List.take ((↑(TR.splP (TR.clnS s) ++ #[OfNat.ofNat (47 : Nat)].toList).length : Int).toNat - i0.toNat) (List.drop i0.toNat (TR.splP (TR.clnS s) ++ #[OfNat.ofNat (47 : Nat)].toList))) #[OfNat.ofNat (37 : Nat), OfNat.ofNat (51 : Nat)].toList) (.ite (decide (IntKind.i64.wrap (i0 + (2 : Int)) < (↑(TR.splP (TR.clnS s) ++ #[OfNat.ofNat (47 : Nat)].toList).length : Int))) (.need ((0 : Int) ≤ IntKind.i64.wrap (i0 + (2 : Int)) ∧ IntKind.i64.wrap (i0 + (2 : Int)) < (↑(TR.splP (TR.clnS s) ++ #[OfNat.ofNat (47 : Nat)].toList).length : Int)) (.ite (decide (byteAt (TR.splP (TR.clnS s) ++ #[OfNat.ofNat (47 : Nat)].toList) (IntKind.i64.wrap (i0 + (2 : Int))) ≥ (48 : Int))) (.need ((0 : Int) ≤ IntKind.i64.wrap (i0 + (2 : Int)) ∧ IntKind.i64.wrap (i0 + (2 : Int)) < (↑(TR.splP (TR.clnS s) ++ #[OfNat.ofNat (47 : Nat)].toList).length : Int)) (.ite (decide (byteAt (TR.splP (TR.clnS s) ++ #[OfNat.ofNat (47 : Nat)].toList) (IntKind.i64.wrap (i0 + (2 : Int))) ≤ (57 : Int))) (.done 4 (Value.bool false) (H0 ms kc s)) (.stop [15, 16] (S0 ms kc s (IntKind.i64.wrap (i0 + 1)) (fun _ => undef))))) (.stop [15, 16] (S0 ms kc s (IntKind.i64.wrap (i0 + 1)) (fun _ => undef))))) (.stop [15, 16] (S0 ms kc s (IntKind.i64.wrap (i0 + 1)) (fun _ => undef)))) (.stop [15, 16] (S0 ms kc s (IntKind.i64.wrap (i0 + 1)) (fun _ => undef)))))))) (.need ((0 : Int) ≤ i0 ∧ i0 ≤ (↑(TR.splP (TR.clnS s) ++ #[OfNat.ofNat (47 : Nat)].toList).length : Int) ∧ (↑(TR.splP (TR.clnS s) ++ #[OfNat.ofNat (47 : Nat)].toList).length : Int) ≤ (↑(TR.splP (TR.clnS s) ++ #[OfNat.ofNat (47 : Nat)].toList).length : Int)) (.call 15 [Value.string ⟨⟨List.take ((↑(TR.splP (TR.clnS s) ++ #[OfNat.ofNat 47].toList).length : Int).toNat - i0.toNat) (List.drop i0.toNat (TR.splP (TR.clnS s) ++ #[OfNat.ofNat 47].toList))⟩⟩, Value.string ⟨#[OfNat.ofNat 37, OfNat.ofNat 51]⟩] ((hcut0_0 ms kc)) (.ret (Value.bool (TR.begB (List.take ((↑(TR.splP (TR.clnS s) ++ #[OfNat.ofNat 47].toList).length : Int).toNat - i0.toNat) (List.drop i0.toNat (TR.splP (TR.clnS s) ++ #[OfNat.ofNat 47].toList))) #[OfNat.ofNat 37, OfNat.ofNat 51].toList)) ((hcut0_0 ms kc))) (.ite (TR.begB (List.take ((↑(TR.splP (TR.clnS s) ++ #[OfNat.ofNat (47 : Nat)].toList).length : Int).toNat - i0.toNat) (List.drop i0.toNat (TR.splP (TR.clnS s) ++ #[OfNat.ofNat (47 : Nat)].toList))) #[OfNat.ofNat (37 : Nat), OfNat.ofNat (51 : Nat)].toList) (.ite (decide (IntKind.i64.wrap (i0 + (2 : Int)) < (↑(TR.splP (TR.clnS s) ++ #[OfNat.ofNat (47 : Nat)].toList).length : Int))) (.need ((0 : Int) ≤ IntKind.i64.wrap (i0 + (2 : Int)) ∧ IntKind.i64.wrap (i0 + (2 : Int)) < (↑(TR.splP (TR.clnS s) ++ #[OfNat.ofNat (47 : Nat)].toList).length : Int)) (.ite (decide (byteAt (TR.splP (TR.clnS s) ++ #[OfNat.ofNat (47 : Nat)].toList) (IntKind.i64.wrap (i0 + (2 : Int))) ≥ (48 : Int))) (.need ((0 : Int) ≤ IntKind.i64.wrap (i0 + (2 : Int)) ∧ IntKind.i64.wrap (i0 + (2 : Int)) < (↑(TR.splP (TR.clnS s) ++ #[OfNat.ofNat (47 : Nat)].toList).length : Int)) (.ite (decide (byteAt (TR.splP (TR.clnS s) ++ #[OfNat.ofNat (47 : Nat)].toList) (IntKind.i64.wrap (i0 + (2 : Int))) ≤ (57 : Int))) (.done 4 (Value.bool false) (H0 ms kc s)) (.stop [15, 16] (S0 ms kc s (IntKind.i64.wrap (i0 + 1)) (fun _ => undef))))) (.stop [15, 16] (S0 ms kc s (IntKind.i64.wrap (i0 + 1)) (fun _ => undef))))) (.stop [15, 16] (S0 ms kc s (IntKind.i64.wrap (i0 + 1)) (fun _ => undef)))) (.stop [15, 16] (S0 ms kc s (IntKind.i64.wrap (i0 + 1)) (fun _ => undef))))))) (.need ((0 : Int) ≤ i0 ∧ i0 ≤ (↑(TR.splP (TR.clnS s) ++ #[OfNat.ofNat (47 : Nat)].toList).length : Int) ∧ (↑(TR.splP (TR.clnS s) ++ #[OfNat.ofNat (47 : Nat)].toList).length : Int) ≤ (↑(TR.splP (TR.clnS s) ++ #[OfNat.ofNat (47 : Nat)].toList).length : Int)) (.call 15 [Value.string ⟨⟨List.take ((↑(TR.splP (TR.clnS s) ++ #[OfNat.ofNat 47].toList).length : Int).toNat - i0.toNat) (List.drop i0.toNat (TR.splP (TR.clnS s) ++ #[OfNat.ofNat 47].toList))⟩⟩, Value.string ⟨#[OfNat.ofNat 37, OfNat.ofNat 51]⟩] ((hcut0_0 ms kc)) (.ret (Value.bool (TR.begB (List.take ((↑(TR.splP (TR.clnS s) ++ #[OfNat.ofNat 47].toList).length : Int).toNat - i0.toNat) (List.drop i0.toNat (TR.splP (TR.clnS s) ++ #[OfNat.ofNat 47].toList))) #[OfNat.ofNat 37, OfNat.ofNat 51].toList)) ((hcut0_0 ms kc))) (.ite (TR.begB (List.take ((↑(TR.splP (TR.clnS s) ++ #[OfNat.ofNat (47 : Nat)].toList).length : Int).toNat - i0.toNat) (List.drop i0.toNat (TR.splP (TR.clnS s) ++ #[OfNat.ofNat (47 : Nat)].toList))) #[OfNat.ofNat (37 : Nat), OfNat.ofNat (51 : Nat)].toList) (.ite (decide (IntKind.i64.wrap (i0 + (2 : Int)) < (↑(TR.splP (TR.clnS s) ++ #[OfNat.ofNat (47 : Nat)].toList).length : Int))) (.need ((0 : Int) ≤ IntKind.i64.wrap (i0 + (2 : Int)) ∧ IntKind.i64.wrap (i0 + (2 : Int)) < (↑(TR.splP (TR.clnS s) ++ #[OfNat.ofNat (47 : Nat)].toList).length : Int)) (.ite (decide (byteAt (TR.splP (TR.clnS s) ++ #[OfNat.ofNat (47 : Nat)].toList) (IntKind.i64.wrap (i0 + (2 : Int))) ≥ (48 : Int))) (.need ((0 : Int) ≤ IntKind.i64.wrap (i0 + (2 : Int)) ∧ IntKind.i64.wrap (i0 + (2 : Int)) < (↑(TR.splP (TR.clnS s) ++ #[OfNat.ofNat (47 : Nat)].toList).length : Int)) (.ite (decide (byteAt (TR.splP (TR.clnS s) ++ #[OfNat.ofNat (47 : Nat)].toList) (IntKind.i64.wrap (i0 + (2 : Int))) ≤ (57 : Int))) (.done 4 (Value.bool false) (H0 ms kc s)) (.stop [15, 16] (S0 ms kc s (IntKind.i64.wrap (i0 + 1)) (fun _ => undef))))) (.stop [15, 16] (S0 ms kc s (IntKind.i64.wrap (i0 + 1)) (fun _ => undef))))) (.stop [15, 16] (S0 ms kc s (IntKind.i64.wrap (i0 + 1)) (fun _ => undef)))) (.stop [15, 16] (S0 ms kc s (IntKind.i64.wrap (i0 + 1)) (fun _ => undef))))))))))))))) (.call 8 [] ((hcut0_0 ms kc)) (.ret (Value.bool true) ((hcut0_0 ms kc))) (.done 4 (Value.bool true) (H0 ms kc s))))) : RunD η prog B 4 (H0 ms kc s) [15, 16] (S0 ms kc s i0 fun _ => undef) (QF prog 126 D) := by
  refine RunD.intro (S0 ms kc s i0) (fun d => ⟨rfl, rfl, rfl⟩) (fun d => tmOk_get (by kernel_rfl)) (fun d => by kernel_rfl) (fun d => ?_)
  exact walk_okT (h0 := H0 ms kc s) hη hmix hreg (.steps 8 <| .bit 93 (.steps 8 <| .op <| .call kN <| .steps 1 <| .bit 100 (.steps 66 <| .done none) (.steps 2 <| .op <| .call kN <| .steps 2 <| .bit 106 (.steps 60 <| .done none) (.steps 2 <| .op <| .call kN <| .steps 1 <| .bit 111 (.steps 7 <| .bit 118 (.steps 3 <| .op <| .steps 3 <| .bit 125 (.steps 3 <| .op <| .steps 4 <| .bit 133 (.steps 33 <| .done none) (.steps 2 <| .op <| .call kN <| .steps 1 <| .bit 138 (.steps 7 <| .bit 145 (.steps 3 <| .op <| .steps 3 <| .bit 152 (.steps 3 <| .op <| .steps 4 <| .bit 159 (.steps 6 <| .done none) (.steps 9 <| .stop [15, 16] none)) (.steps 17 <| .stop [15, 16] none)) (.steps 24 <| .stop [15, 16] none)) (.steps 31 <| .stop [15, 16] none))) (.steps 10 <| .op <| .call kN <| .steps 1 <| .bit 138 (.steps 7 <| .bit 145 (.steps 3 <| .op <| .steps 3 <| .bit 152 (.steps 3 <| .op <| .steps 4 <| .bit 159 (.steps 6 <| .done none) (.steps 9 <| .stop [15, 16] none)) (.steps 17 <| .stop [15, 16] none)) (.steps 24 <| .stop [15, 16] none)) (.steps 31 <| .stop [15, 16] none))) (.steps 17 <| .op <| .call kN <| .steps 1 <| .bit 138 (.steps 7 <| .bit 145 (.steps 3 <| .op <| .steps 3 <| .bit 152 (.steps 3 <| .op <| .steps 4 <| .bit 159 (.steps 6 <| .done none) (.steps 9 <| .stop [15, 16] none)) (.steps 17 <| .stop [15, 16] none)) (.steps 24 <| .stop [15, 16] none)) (.steps 31 <| .stop [15, 16] none))) (.steps 24 <| .op <| .call kN <| .steps 1 <| .bit 138 (.steps 7 <| .bit 145 (.steps 3 <| .op <| .steps 3 <| .bit 152 (.steps 3 <| .op <| .steps 4 <| .bit 159 (.steps 6 <| .done none) (.steps 9 <| .stop [15, 16] none)) (.steps 17 <| .stop [15, 16] none)) (.steps 24 <| .stop [15, 16] none)) (.steps 31 <| .stop [15, 16] none))))) (.steps 4 <| .call kN <| .steps 3 <| .done none)) (S0 ms kc s i0 d) (by kernel_rfl) h (by kernel_rfl)
end QNrm
end Go.Ev

namespace Go.Ev
set_option linter.unusedVariables false
set_option linter.unusedSimpArgs false
open Go Go.Proofs Go.RowKit
namespace TR
set_option linter.unusedVariables false
set_option linter.unusedSimpArgs false
open TB TE TH
theorem okT_ind {P : List UInt8 → Prop} (h0 : P []) (h1 : ∀ c r, c ≠ 37 → (c == 63 || plnB c || resB c) = true → okT r = true → P r → P (c :: r)) (h2 : ∀ a b r, hexB a = true → hexB b = true → okT r = true → P r → P (37 :: a :: b :: r)) :
    ∀ (n : Nat) (s : List UInt8), s.length ≤ n → okT s = true → P s := by
  intro n
  induction n with
  | zero =>
    intro s hn _
    obtain rfl : s = [] := List.length_eq_zero_iff.1 (by omega)
    exact h0
  | succ n ih =>
    intro s hn h
    cases s with
    | nil => exact h0
    | cons c t =>
      rw [List.length_cons] at hn
      rw [okT_cons] at h
      cases he : encB (c :: t) with
      | true =>
        rw [he, if_pos rfl] at h
        obtain ⟨hc, a, b, r, rfl, ha, hb⟩ := encB_some he
        subst hc
        simp only [List.length_cons] at hn
        exact h2 a b r ha hb h (ih r (by omega) h)
      | false =>
        rw [he] at h
        simp only [Bool.false_eq_true, if_false, Bool.and_eq_true] at h
        have h37 : c ≠ 37 := by
          rintro rfl
          rw [show ((37 : UInt8) == 63 || plnB 37 || resB 37) = false from by decide] at h
          cases h.1
        exact h1 c t h37 h.1 h.2 (ih t (by omega) h.2)
theorem okT_ne {c : UInt8} {r : List UInt8} (h : c ≠ 37) : okT (c :: r) = ((c == 63 || plnB c || resB c) && okT r) := by rw [okT_cons, encB_ne h]; rfl
theorem okT_37 {a b : UInt8} {r : List UInt8} (ha : hexB a = true) (hb : hexB b = true) : okT (37 :: a :: b :: r) = okT r := by
  rw [okT_cons, encB_cons, ha, hb]; rfl
theorem okT_app (l2 : List UInt8) {l1 : List UInt8} (h : okT l1 = true) : okT (l1 ++ l2) = okT l2 ∧ dec (l1 ++ l2) = dec l1 ++ dec l2 := by
  refine okT_ind (P := fun l1 => okT (l1 ++ l2) = okT l2 ∧ dec (l1 ++ l2) = dec l1 ++ dec l2) ⟨rfl, by rw [dec_nil]; rfl⟩ ?_ ?_ _ l1 (Nat.le_refl _) h
  · rintro c r hc hk _ ⟨i1, i2⟩
    rw [List.cons_append, okT_ne hc, hk, i1, dec_no (encB_ne hc), dec_no (encB_ne hc), i2]
    exact ⟨rfl, rfl⟩
  · rintro a b r ha hb _ ⟨i1, i2⟩
    rw [List.cons_append, List.cons_append, List.cons_append, okT_37 ha hb, i1, dec_yes ha hb, dec_yes ha hb, i2, List.append_assoc]
    exact ⟨rfl, rfl⟩
/-- Of a normal form. -/
def NF (l : List UInt8) : Prop := okT l = true ∧ dec l = l
theorem NF.nil : NF [] := ⟨okT_nil, dec_nil⟩
theorem NF.app {a b : List UInt8} (ha : NF a) (hb : NF b) : NF (a ++ b) := by
  obtain ⟨h1, h2⟩ := okT_app b ha.1
  exact ⟨by rw [h1]; exact hb.1, by rw [h2, ha.2, hb.2]⟩
theorem NF.one {c : UInt8} (h : c ≠ 37) (hk : (c == 63 || plnB c || resB c) = true) : NF [c] :=
  ⟨by rw [okT_ne h, hk, okT_nil]; rfl, by rw [dec_no (encB_ne h), dec_nil]⟩
theorem hexU_ok (x : UInt8) : hexB (hexU (x.toNat / 16)) = true ∧ hexB (hexU (x.toNat % 16)) = true ∧ encX (hexU (x.toNat / 16)) (hexU (x.toNat % 16)) = x := by
  have := forall_u8 (p := fun x => hexB (hexU (x.toNat / 16)) && hexB (hexU (x.toNat % 16)) && (encX (hexU (x.toNat / 16)) (hexU (x.toNat % 16)) == x)) (by decide +kernel) x
  simp only [Bool.and_eq_true, beq_iff_eq] at this
  exact ⟨this.1.1, this.1.2, this.2⟩
theorem pln_37 {x : UInt8} (h : plnB x = true) : x ≠ 37 := by rintro rfl; exact absurd h (by decide)
theorem NF.out (x : UInt8) : NF (out3 x) := by
  unfold out3
  split
  · rename_i h
    exact NF.one (pln_37 h) (by rw [h, Bool.or_true, Bool.true_or])
  · rename_i h
    obtain ⟨h1, h2, h3⟩ := hexU_ok x
    refine ⟨by rw [okT_37 h1 h2, okT_nil], ?_⟩
    rw [dec_yes h1 h2, h3, dec_nil, List.append_nil]
    unfold out3
    rw [if_neg h]
/-- What is decoded is a normal form. -/
theorem NF.dec {s : List UInt8} (h : okT s = true) : NF (dec s) := by
  refine okT_ind (P := fun s => NF (TR.dec s)) (by rw [dec_nil]; exact NF.nil) ?_ ?_ _ s (Nat.le_refl _) h
  · intro c r hc hk _ i
    rw [dec_no (encB_ne hc)]
    exact NF.app (NF.one hc hk) i
  · intro a b r ha hb _ i
    rw [dec_yes ha hb]
    exact NF.app (NF.out _) i
theorem okT_split {c : UInt8} (hx : hexB c = false) (l2 : List UInt8) : ∀ (n : Nat) (l1 : List UInt8), l1.length ≤ n → okT (l1 ++ c :: l2) = true → okT l1 = true ∧ okT (c :: l2) = true := by
  intro n
  induction n with
  | zero =>
    intro l1 hn h
    obtain rfl : l1 = [] := List.length_eq_zero_iff.1 (by omega)
    exact ⟨okT_nil, h⟩
  | succ n ih =>
    intro l1 hn h
    cases l1 with
    | nil => exact ⟨okT_nil, h⟩
    | cons d t =>
      rw [List.length_cons] at hn
      rw [List.cons_append, okT_cons] at h
      cases he : encB (d :: (t ++ c :: l2)) with
      | true =>
        rw [he, if_pos rfl] at h
        obtain ⟨rfl, a, b, r, e, ha, hb⟩ := encB_some he
        rcases t with _ | ⟨x, _ | ⟨y, t⟩⟩
        · simp only [List.nil_append, List.cons.injEq] at e
          rw [e.1, ha] at hx; cases hx
        · simp only [List.nil_append, List.cons_append, List.cons.injEq] at e
          rw [e.2.1, hb] at hx; cases hx
        · simp only [List.cons_append, List.cons.injEq] at e
          obtain ⟨rfl, rfl, rfl⟩ := e
          simp only [List.length_cons] at hn
          obtain ⟨i1, i2⟩ := ih t (by omega) h
          exact ⟨by rw [okT_37 ha hb]; exact i1, i2⟩
      | false =>
        rw [he] at h
        simp only [Bool.false_eq_true, if_false, Bool.and_eq_true] at h
        have h37 : d ≠ 37 := by
          rintro rfl
          rw [show ((37 : UInt8) == 63 || plnB 37 || resB 37) = false from by decide] at h
          cases h.1
        obtain ⟨i1, i2⟩ := ih t (by omega) h.2
        exact ⟨by rw [okT_ne h37, h.1, i1]; rfl, i2⟩
theorem NF.split {c : UInt8} (hx : hexB c = false) (h37 : c ≠ 37) {l1 l2 : List UInt8} (h : NF (l1 ++ c :: l2)) : NF l1 ∧ NF l2 := by
  obtain ⟨o1, o2⟩ := okT_split hx l2 _ l1 (Nat.le_refl _) h.1
  have o3 : okT l2 = true := by rw [okT_ne h37, Bool.and_eq_true] at o2; exact o2.2
  have e := h.2
  rw [(okT_app (c :: l2) o1).2, dec_no (encB_ne h37)] at e
  have n1 := dec_len _ l1 (Nat.le_refl _)
  have n2 := dec_len _ l2 (Nat.le_refl _)
  have el := congrArg List.length e
  simp only [List.length_append, List.length_cons] at el
  obtain ⟨e1, e2⟩ := List.append_inj e (by omega)
  injection e2 with _ e2
  exact ⟨⟨o1, e1⟩, ⟨o3, e2⟩⟩
theorem ct_split {t : List UInt8} (h : ctB 47 t = true) : t = ctL 47 t ++ 47 :: ctR 47 t := by
  induction t with
  | nil => cases h
  | cons c r ih =>
    by_cases hc : c = 47
    · subst hc
      rfl
    · have h2 : ctL 47 (c :: r) = c :: ctL 47 r := by unfold ctL; rw [List.takeWhile_cons_of_pos (by simpa using hc)]
      have h3 : ctR 47 (c :: r) = ctR 47 r := by unfold ctR; rw [h2]; rfl
      have h1 : ctB 47 (c :: r) = ctB 47 r := by unfold ctB; rw [List.any_cons, show (c == 47) = false from by simpa using hc, Bool.false_or]
      rw [h1] at h
      rw [h2, h3, List.cons_append, ← ih h]
theorem ct_whole {t : List UInt8} (h : ctB 47 t = false) : ctL 47 t = t := by
  unfold ctB at h
  rw [List.any_eq_false] at h
  exact (ct_none fun x hx => by have := h x hx; simpa using this).1
theorem ctL_no (t : List UInt8) : ∀ c ∈ ctL 47 t, c ≠ 47 := by
  intro c hc
  unfold ctL at hc
  have := List.all_eq_true.1 (List.all_takeWhile (l := t) (p := (· != 47))) c hc
  simpa using this
/-- What is said of each segment of a normal form. -/
theorem seg_all : ∀ (n : Nat) (t : List UInt8), t.length ≤ n → NF t → (∀ x ∈ segF [] t, NF x ∧ (∀ c ∈ x, c ≠ 47) ∧ ∀ c ∈ x, c ∈ t) ∧ slash (segF [] t) = 47 :: t := by
  intro n
  induction n with
  | zero =>
    intro t hn h
    obtain rfl : t = [] := List.length_eq_zero_iff.1 (by omega)
    refine ⟨fun x hx => ?_, rfl⟩
    rw [show segF [] [] = [[]] from rfl, List.mem_singleton] at hx
    subst hx
    exact ⟨NF.nil, by simp, by simp⟩
  | succ n ih =>
    intro t hn h
    rw [segF_cut, List.nil_append]
    cases hb : ctB 47 t with
    | true =>
      rw [if_pos rfl]
      have e := ct_split hb
      have hl := ctR_lt hb
      have h' := h
      rw [e] at h'
      obtain ⟨n1, n2⟩ := NF.split (c := 47) (by decide) (by decide) h'
      obtain ⟨i1, i2⟩ := ih (ctR 47 t) (by omega) n2
      refine ⟨fun x hx => ?_, ?_⟩
      · rcases List.mem_cons.1 hx with rfl | hx
        · exact ⟨n1, ctL_no t, fun c hc => by rw [e]; exact List.mem_append_left _ hc⟩
        · obtain ⟨a1, a2, a3⟩ := i1 x hx
          exact ⟨a1, a2, fun c hc => by rw [e]; exact List.mem_append_right _ (List.mem_cons_of_mem _ (a3 c hc))⟩
      · rw [slash, i2, List.cons_append, ← e]
    | false =>
      rw [if_neg (by simp), ct_whole hb]
      refine ⟨fun x hx => ?_, by rw [slash, slash, List.append_nil]⟩
      rw [List.mem_singleton.1 hx]
      exact ⟨h, by have := ctL_no t; rw [ct_whole hb] at this; exact this, fun _ hc => hc⟩
def nd (x : List UInt8) : Prop := x ≠ [46] ∧ x ≠ [46, 46]
theorem nd_nil : nd [] := ⟨by simp, by simp⟩
theorem keep_nd : ∀ (l k : List (List UInt8)), (∀ x ∈ k, nd x) → ∀ x ∈ keep k l, nd x
  | [], k, h => by rw [keep_nil]; exact h
  | y :: r, k, h => by
    have hd : ∀ x ∈ k.dropLast, nd x := fun x hx => h x (List.dropLast_subset _ hx)
    have ap : ∀ {k : List (List UInt8)}, (∀ x ∈ k, nd x) → ∀ {z : List UInt8}, nd z → ∀ x ∈ k ++ [z], nd x := by
      intro k hk z hz x hx
      rcases List.mem_append.1 hx with h | h
      · exact hk x h
      · rw [List.mem_singleton.1 h]; exact hz
    by_cases h2 : y = [46, 46]
    · subst h2
      cases r with
      | nil => rw [keep_dd]; exact ap hd nd_nil
      | cons z r => rw [keep_dd' (by simp)]; exact keep_nd (z :: r) _ hd
    · by_cases h1 : y = [46]
      · subst h1
        cases r with
        | nil => rw [keep_dot]; exact ap h nd_nil
        | cons z r => rw [keep_dot' (by simp)]; exact keep_nd (z :: r) _ h
      · rw [keep_else h2 h1]; exact keep_nd r _ (ap h ⟨h1, h2⟩)
theorem keep_ne : ∀ (l k : List (List UInt8)), k ≠ [] ∨ l ≠ [] → l = [] ∨ keep k l ≠ []
  | [], k, _ => .inl rfl
  | y :: r, k, _ => .inr (by
    by_cases h2 : y = [46, 46]
    · subst h2
      cases r with
      | nil => rw [keep_dd]; simp
      | cons z r => rw [keep_dd' (by simp)]; exact (keep_ne (z :: r) _ (.inr (by simp))).resolve_left (by simp)
    · by_cases h1 : y = [46]
      · subst h1
        cases r with
        | nil => rw [keep_dot]; simp
        | cons z r => rw [keep_dot' (by simp)]; exact (keep_ne (z :: r) _ (.inr (by simp))).resolve_left (by simp)
      · rw [keep_else h2 h1]
        cases r with
        | nil => rw [keep_nil]; simp
        | cons z r => exact (keep_ne (z :: r) _ (.inr (by simp))).resolve_left (by simp))
theorem keep_id : ∀ (l k : List (List UInt8)), (∀ x ∈ l, nd x) → keep k l = k ++ l
  | [], k, _ => by rw [keep_nil, List.append_nil]
  | y :: r, k, h => by
    obtain ⟨h1, h2⟩ := h y (by simp)
    rw [keep_else h2 h1, keep_id r _ fun x hx => h x (List.mem_cons_of_mem _ hx), List.append_assoc]
    rfl
theorem slash_drop (k : List (List UInt8)) : (slash k.dropLast).length ≤ (slash k).length := by
  rcases List.eq_nil_or_concat k with rfl | ⟨a, b, rfl⟩
  · exact Nat.le_refl _
  · rw [List.concat_eq_append, List.dropLast_concat, slash_app, List.length_append]; omega
theorem keep_slen : ∀ (l k : List (List UInt8)), (slash (keep k l)).length ≤ (slash (k ++ l)).length
  | [], k => by rw [keep_nil, List.append_nil]; exact Nat.le_refl _
  | y :: r, k => by
    have e1 : ∀ x : List UInt8, (slash [x]).length = x.length + 1 := fun x => by simp [slash]
    have e : (slash (k ++ y :: r)).length = (slash k).length + (y.length + 1) + (slash r).length := by
      rw [show k ++ y :: r = k ++ ([y] ++ r) from rfl, slash_app, slash_app, List.length_append, List.length_append, e1]; omega
    have hd := slash_drop k
    rw [e]
    by_cases h2 : y = [46, 46]
    · subst h2
      cases r with
      | nil => rw [keep_dd, slash_app, List.length_append, e1]; simp only [List.length_nil, List.length_cons]; omega
      | cons z r =>
        rw [keep_dd' (by simp)]
        have := keep_slen (z :: r) k.dropLast
        rw [slash_app, List.length_append] at this
        omega
    · by_cases h1 : y = [46]
      · subst h1
        cases r with
        | nil => rw [keep_dot, slash_app, List.length_append, e1]; simp only [List.length_nil, List.length_cons]; omega
        | cons z r =>
          rw [keep_dot' (by simp)]
          have := keep_slen (z :: r) k
          rw [slash_app, List.length_append] at this
          omega
      · rw [keep_else h2 h1]
        have := keep_slen r (k ++ [y])
        rw [slash_app, slash_app, List.length_append, List.length_append, e1] at this
        omega
theorem segF_app : ∀ (x cur r : List UInt8), (∀ c ∈ x, c ≠ 47) → segF cur (x ++ r) = segF (cur ++ x) r
  | [], cur, r, _ => by rw [List.append_nil]; rfl
  | c :: x, cur, r, h => by
    rw [List.cons_append, segF, if_neg (by simpa using h c (by simp)), segF_app x _ r fun c hc => h c (List.mem_cons_of_mem _ hc), List.append_assoc]
    rfl
theorem segF_slash : ∀ (L : List (List UInt8)) (cur : List UInt8), (∀ x ∈ L, ∀ c ∈ x, c ≠ 47) → segF cur (slash L) = cur :: L
  | [], cur, _ => rfl
  | x :: L, cur, h => by
    rw [slash, List.cons_append, segF, if_pos (by decide), segF_app x [] _ (h x (by simp)), List.nil_append, segF_slash L x fun y hy => h y (List.mem_cons_of_mem _ hy)]
/-- The segments of what is written of segments. -/
theorem segs_slash {K : List (List UInt8)} (hne : K ≠ []) (h : ∀ x ∈ K, ∀ c ∈ x, c ≠ 47) : segs (slash K) = K := by
  cases K with
  | nil => exact absurd rfl hne
  | cons x L =>
    unfold segs
    rw [slash, List.cons_append, List.drop_one, List.tail_cons, segF_app x [] _ (h x (by simp)), List.nil_append, segF_slash L x fun y hy => h y (List.mem_cons_of_mem _ hy)]
theorem NF.slash {K : List (List UInt8)} (h : ∀ x ∈ K, NF x) : NF (TR.slash K) := by
  induction K with
  | nil => exact NF.nil
  | cons x L ih =>
    rw [TR.slash]
    exact NF.app (a := 47 :: x) (NF.app (a := [47]) (NF.one (by decide) (by decide)) (h x (by simp))) (ih fun y hy => h y (List.mem_cons_of_mem _ hy))
theorem slash_mem {K : List (List UInt8)} {c : UInt8} (h : c ∈ slash K) : c = 47 ∨ ∃ x ∈ K, c ∈ x := by
  induction K with
  | nil => cases h
  | cons x L ih =>
    rw [slash, List.cons_append] at h
    rcases List.mem_cons.1 h with h | h
    · exact .inl h
    · rcases List.mem_append.1 h with h | h
      · exact .inr ⟨x, by simp, h⟩
      · rcases ih h with h | ⟨y, hy, hc⟩
        · exact .inl h
        · exact .inr ⟨y, List.mem_cons_of_mem _ hy, hc⟩
theorem out_63 (x : UInt8) : ∀ c ∈ out3 x, c ≠ 63 := by
  have := forall_u8 (p := fun x => (out3 x).all (· != 63)) (by decide +kernel) x
  intro c hc
  have := List.all_eq_true.1 this c hc
  simpa using this
theorem dec_63 {s : List UInt8} (h : okT s = true) : (∀ c ∈ s, c ≠ 63) → ∀ c ∈ dec s, c ≠ 63 := by
  refine okT_ind (P := fun s => (∀ c ∈ s, c ≠ 63) → ∀ c ∈ dec s, c ≠ 63) (fun _ c hc => by rw [dec_nil] at hc; cases hc) ?_ ?_ _ s (Nat.le_refl _) h
  · intro c r hc _ _ i hs x hx
    rw [dec_no (encB_ne hc)] at hx
    rcases List.mem_cons.1 hx with rfl | hx
    · exact hs _ (by simp)
    · exact i (fun y hy => hs y (List.mem_cons_of_mem _ hy)) x hx
  · intro a b r ha hb _ i hs x hx
    rw [dec_yes ha hb] at hx
    rcases List.mem_append.1 hx with hx | hx
    · exact out_63 _ x hx
    · exact i (fun y hy => hs y (by simp [hy])) x hx
end TR
end Go.Ev

namespace Go.Ev
set_option linter.unusedVariables false
set_option linter.unusedSimpArgs false
open Go Go.Proofs Go.RowKit
namespace TR
set_option linter.unusedVariables false
set_option linter.unusedSimpArgs false
open TB TE TH
theorem hasQ_app {a : List UInt8} (h : ∀ c ∈ a, c ≠ 63) (b : List UInt8) : hasQ (a ++ b) = hasQ b := by
  unfold hasQ
  rw [List.any_append, show a.any (· == 63) = false from by rw [List.any_eq_false]; intro x hx; simpa using h x hx, Bool.false_or]
theorem any_63 {a : List UInt8} (h : ∀ c ∈ a, c ≠ 63) : a.any (· == 63) = false := by
  rw [List.any_eq_false]; intro x hx; simpa using h x hx
theorem mark_none {a : List UInt8} (h : ∀ c ∈ a, c ≠ 63) : markL a = a := (ct_none (b := 63) h).1
theorem norm_facts {K : List (List UInt8)} (hne : K ≠ []) (hK : ∀ x ∈ K, NF x ∧ (∀ c ∈ x, c ≠ 47) ∧ (∀ c ∈ x, c ≠ 63) ∧ nd x) (b : Bool) {q : List UInt8} (hq : NF q) {t : List UInt8} (ht : t = slash K ++ if b = true then 63 :: q else []) (hl : t.length ≤ 500) :
    tgtE t = 0 ∧ clnS t = t ∧ hasQ t = b ∧ markL t = slash K := by
  have hn : NF (slash K) := NF.slash fun x hx => (hK x hx).1
  have h63 : ∀ c ∈ slash K, c ≠ 63 := by
    intro c hc
    rcases slash_mem hc with rfl | ⟨x, hx, hc⟩
    · decide
    · exact (hK x hx).2.2.1 c hc
  have h47 : ∃ r, slash K = 47 :: r := by
    cases K with
    | nil => exact absurd rfl hne
    | cons x L => exact ⟨x ++ slash L, by rw [slash]; rfl⟩
  have hm : markL t = slash K := by
    rw [ht]
    cases b with
    | false => rw [if_neg (by simp), List.append_nil]; exact mark_none h63
    | true => rw [if_pos rfl]; exact take_mark q (any_63 h63)
  have hb : hasQ t = b := by
    rw [ht, hasQ_app h63]
    cases b <;> rfl
  have hN : NF t := by
    rw [ht]
    refine NF.app hn ?_
    cases b with
    | false => exact NF.nil
    | true => exact NF.app (a := [63]) (NF.one (by decide) (by decide)) hq
  have he : tgtE t = 0 := by
    obtain ⟨r, hr⟩ := h47
    have e : t = 47 :: (r ++ if b = true then 63 :: q else []) := by rw [ht, hr]; rfl
    unfold tgtE
    rw [if_neg (by omega)]
    rw [e] at hN ⊢
    simp only [hN.1]
    rfl
  refine ⟨he, ?_, hb, hm⟩
  unfold clnS
  rw [if_pos he, hm, hn.2, segs_slash hne fun x hx => (hK x hx).2.1, keep_id K [] fun x hx => (hK x hx).2.2.2, List.nil_append, hb]
  have e : (if b = true then 63 :: dec (qry t) else []) = if b = true then 63 :: q else [] := by
    cases b with
    | false => rfl
    | true =>
      rw [if_pos rfl, if_pos rfl]
      have : qry t = q := by
        unfold qry
        rw [hm, ht, List.drop_left]
        rfl
      rw [this, hq.2]
  rw [e, ← ht]
theorem cln_facts {s : List UInt8} (he : tgtE s = 0) :
    tgtE (clnS s) = 0 ∧ clnS (clnS s) = clnS s ∧ hasQ (clnS s) = hasQ s ∧ (clnS s).length ≤ s.length ∧ ∃ K, K ≠ [] ∧ markL (clnS s) = slash K ∧ ∀ x ∈ K, NF x ∧ (∀ c ∈ x, c ≠ 47) ∧ (∀ c ∈ x, c ≠ 63) ∧ nd x := by
  obtain ⟨pr, hpr⟩ := splP_cons he
  have hsp : splP s = markL s := by unfold splP; rw [if_pos he]
  rw [hsp] at hpr
  have h500 := tgt_500 he
  obtain ⟨o1, o2⟩ := okT_mark _ s (Nat.le_refl _) (tgt_okT he)
  have opr : okT pr = true := by rw [hpr, okT_ne (by decide), Bool.and_eq_true] at o1; exact o1.2
  have hD : dec (markL s) = 47 :: dec pr := by rw [hpr, dec_no (encB_ne (by decide))]
  have hL : segs (dec (markL s)) = segF [] (dec pr) := by unfold segs; rw [hD]; rfl
  obtain ⟨a1, a2⟩ := seg_all _ (dec pr) (Nat.le_refl _) (NF.dec opr)
  have m63 : ∀ c ∈ markL s, c ≠ 63 := by
    intro c hc
    unfold markL at hc
    have := List.all_eq_true.1 (List.all_takeWhile (l := s) (p := (· != 63))) c hc
    simpa using this
  have p63 := dec_63 opr fun c hc => m63 c (by rw [hpr]; exact List.mem_cons_of_mem _ hc)
  obtain ⟨K, hKe⟩ : ∃ K, K = keep [] (segs (dec (markL s))) := ⟨_, rfl⟩
  have hne : K ≠ [] := by rw [hKe, hL]; exact (keep_ne _ [] (.inr (segF_ne _ _))).resolve_left (segF_ne _ _)
  have hK : ∀ x ∈ K, NF x ∧ (∀ c ∈ x, c ≠ 47) ∧ (∀ c ∈ x, c ≠ 63) ∧ nd x := by
    intro x hx
    rw [hKe, hL] at hx
    have hn := keep_nd _ [] (by simp) x hx
    rcases keep_mem _ _ x hx with h | h | h
    · cases h
    · obtain ⟨b1, b2, b3⟩ := a1 x h
      exact ⟨b1, b2, fun c hc => p63 c (b3 c hc), hn⟩
    · subst h
      exact ⟨NF.nil, by simp, by simp, hn⟩
  have hsl : (slash K).length ≤ (markL s).length := by
    have h1 := keep_slen (segs (dec (markL s))) []
    rw [← hKe, List.nil_append, hL, a2, List.length_cons] at h1
    have h2 := dec_len _ pr (Nat.le_refl _)
    rw [hpr, List.length_cons]
    omega
  have hrest := rest_eq s
  have hml := mark_le s
  have ec : clnS s = slash K ++ if hasQ s = true then 63 :: dec (qry s) else [] := by
    unfold clnS
    rw [if_pos he, ← hKe]
  have hrl : (if hasQ s = true then 63 :: dec (qry s) else []).length ≤ s.length - (markL s).length := by
    rw [← List.length_drop, hrest]
    split
    · have := dec_len _ (qry s) (Nat.le_refl _)
      simp only [List.length_cons]; omega
    · exact Nat.le_refl _
  have hlen : (clnS s).length ≤ s.length := by
    rw [ec, List.length_append]
    omega
  have hq : NF (dec (if hasQ s = true then qry s else [])) := by
    refine NF.dec ?_
    rw [hrest] at o2
    split at o2
    · rw [okT_ne (by decide), Bool.and_eq_true] at o2
      rename_i h
      rw [if_pos h]; exact o2.2
    · rename_i h
      rw [if_neg h]; exact okT_nil
  have ec2 : clnS s = slash K ++ if hasQ s = true then 63 :: dec (if hasQ s = true then qry s else []) else [] := by
    rw [ec]
    congr 1
    split <;> rfl
  obtain ⟨f1, f2, f3, f4⟩ := norm_facts hne hK (hasQ s) hq ec2 (by omega)
  exact ⟨f1, f2, f3, hlen, K, hne, f4, hK⟩
/-- No segment of one period, no segment of two. -/
theorem dots_no : ∀ (K : List (List UInt8)), (∀ x ∈ K, (∀ c ∈ x, c ≠ 47) ∧ nd x) → ∀ (i : Nat) (z : List UInt8), (slash K ++ [47]).drop i ≠ 47 :: 46 :: 47 :: z ∧ (slash K ++ [47]).drop i ≠ 47 :: 46 :: 46 :: 47 :: z
  | [], _, i, z => by
    refine ⟨fun h => ?_, fun h => ?_⟩ <;>
    · have := congrArg List.length h
      simp [slash] at this
      omega
  | x :: L, h, i, z => by
    have ih := dots_no L fun y hy => h y (List.mem_cons_of_mem _ hy)
    obtain ⟨hx, h1, h2⟩ := h x (by simp)
    have e : slash (x :: L) ++ [47] = 47 :: x ++ (slash L ++ [47]) := by rw [slash, List.append_assoc]
    have hh : ∃ r, slash L ++ [47] = 47 :: r := by
      cases L with
      | nil => exact ⟨[], rfl⟩
      | cons y M => exact ⟨y ++ slash M ++ [47], by rw [slash]; rfl⟩
    rw [e]
    rcases Nat.lt_or_ge i (47 :: x).length with hi | hi
    · cases i with
      | zero =>
        rw [List.drop_zero]
        obtain ⟨r, hr⟩ := hh
        rw [hr, List.cons_append]
        refine ⟨fun q => ?_, fun q => ?_⟩
        · injection q with _ q
          rcases x with _ | ⟨a, _ | ⟨b, x⟩⟩
          · injection q with q _; cases q
          · injection q with q _; exact h1 (by rw [q])
          · injection q with _ q; injection q with q _; exact hx b (by simp) q
        · injection q with _ q
          rcases x with _ | ⟨a, _ | ⟨b, _ | ⟨c, x⟩⟩⟩
          · injection q with q _; cases q
          · injection q with _ q; injection q with q _; cases q
          · injection q with q1 q; injection q with q2 _; exact h2 (by rw [q1, q2])
          · injection q with _ q; injection q with _ q; injection q with q _; exact hx c (by simp) q
      | succ i =>
        have : ∃ c r, ((47 :: x) ++ (slash L ++ [47])).drop (i + 1) = c :: r ∧ c ≠ 47 := by
          rw [List.cons_append, List.drop_succ_cons]
          rw [List.length_cons] at hi
          have hi' : i < x.length := by omega
          rw [List.drop_append_of_le_length (by omega), List.drop_eq_getElem_cons hi', List.cons_append]
          exact ⟨_, _, rfl, hx _ (List.getElem_mem hi')⟩
        obtain ⟨c, r, hc, hn⟩ := this
        rw [hc]
        exact ⟨fun q => by injection q with q _; exact hn q, fun q => by injection q with q _; exact hn q⟩
    · have : ((47 :: x) ++ (slash L ++ [47])).drop i = (slash L ++ [47]).drop (i - (47 :: x).length) := by
        rw [List.drop_append, List.drop_of_length_le hi, List.nil_append]
      rw [this]
      exact ih _ z
/-- What stands percent-encoded in a normal form is no plain byte. -/
theorem nf_enc {l : List UInt8} (h : okT l = true) : ∀ (i : Nat) (a b : UInt8) (z : List UInt8), dec l = l → l.drop i = 37 :: a :: b :: z → plnB (encX a b) = false := by
  refine okT_ind (P := fun l => ∀ (i : Nat) (a b : UInt8) (z : List UInt8), dec l = l → l.drop i = 37 :: a :: b :: z → plnB (encX a b) = false) (fun i a b z _ h => by rw [List.drop_nil] at h; cases h) ?_ ?_ _ l (Nat.le_refl _) h
  · intro c r hc _ _ ih i a b z hd hz
    rw [dec_no (encB_ne hc)] at hd
    injection hd with _ hd
    cases i with
    | zero => injection hz with hz _; exact absurd hz hc
    | succ i => exact ih i a b z hd hz
  · intro a' b' r ha hb _ ih i a b z hd hz
    rw [dec_yes ha hb] at hd
    have hl := dec_len _ r (Nat.le_refl _)
    have hp : plnB (encX a' b') = false := by
      cases hp : plnB (encX a' b') with
      | false => rfl
      | true =>
        have := congrArg List.length hd
        unfold out3 at this
        rw [if_pos hp, List.length_append] at this
        simp only [List.length_cons, List.length_nil] at this
        omega
    have hr : dec r = r := by
      unfold out3 at hd
      rw [if_neg (by rw [hp]; simp)] at hd
      injection hd with _ hd
      injection hd with _ hd
      injection hd with _ hd
    have n37 : ∀ {c : UInt8}, hexB c = true → c ≠ 37 := by rintro c hc rfl; cases hc
    rcases i with _ | _ | _ | i
    · injection hz with _ hz
      injection hz with q1 hz
      injection hz with q2 _
      rw [← q1, ← q2]; exact hp
    · injection hz with q _; exact absurd q (n37 ha)
    · injection hz with q _; exact absurd q (n37 hb)
    · exact ih i a b z hr hz
end TR
end Go.Ev

namespace Go.Ev
set_option linter.unusedVariables false
set_option linter.unusedSimpArgs false
open Go Go.Proofs Go.RowKit
variable {η : Nat → Value} {B : Bd}
namespace TR
set_option linter.unusedVariables false
set_option linter.unusedSimpArgs false
open TB TE TH
theorem begB_true {r t : List UInt8} (h : begB r t = true) : ∃ z, r = t ++ z := by
  unfold begB at h
  rw [Bool.and_eq_true, decide_eq_true_eq, beq_iff_eq] at h
  exact ⟨r.drop t.length, by have := List.take_append_drop t.length r; rw [h.2] at this; exact this.symm⟩
theorem beg_ok (hη : OneCells η) (hmix : Tryz.prog.follows .mixedOrders = true) (s t : List UInt8) (h : AH) :
    CallSpec η Tryz.prog B 15 [.string ⟨⟨s⟩⟩, .string ⟨⟨t⟩⟩] h (KT.ret (.bool (begB s t)) h).sat := by
  refine CallSpec.bare hη gs9 (fun _ _ => .cons (.string _) (.cons (.string _) .nil)) (fun _ _ => .bool _) (fun _ _ => .bool _) ?_ h
  refine QBeg.enter hη hmix (reg0 hη hmix) (D := fun v _ => v = .bool (begB s t)) s t ?_
  simp only [W.holds, true_and, decide_eq_true_eq, decide_eq_false_iff_not, Int.toNat_natCast, Nat.sub_zero, List.drop_zero, Nat.le_refl, Int.le_refl]
  refine ⟨fun h => ⟨⟨by omega, by omega⟩, fun _ => ?_⟩, fun h => ?_⟩
  · unfold begB
    rw [decide_eq_true (by omega), Bool.true_and]
  · unfold begB
    rw [decide_eq_false (by omega), Bool.false_and]
theorem enc_no {l : List UInt8} (h : NF l) {i : Nat} {a c : UInt8} {z : List UInt8} (hd : (l ++ [47]).drop i = 37 :: a :: c :: z) (hc : c ≠ 47) : plnB (encX a c) = false := by
  rcases Nat.lt_or_ge l.length i with hi | hi
  · rw [List.drop_of_length_le (by rw [List.length_append, List.length_singleton]; omega)] at hd
    cases hd
  · rw [List.drop_append_of_le_length hi] at hd
    rcases hq : l.drop i with _ | ⟨x, _ | ⟨y, _ | ⟨w, v⟩⟩⟩
    · rw [hq] at hd
      injection hd with _ hd
      cases hd
    · rw [hq] at hd
      injection hd with _ hd
      injection hd with _ hd
      cases hd
    · rw [hq] at hd
      injection hd with _ hd
      injection hd with _ hd
      injection hd with hd _
      exact absurd hd.symm hc
    · rw [hq] at hd
      injection hd with q1 hd
      injection hd with q2 hd
      injection hd with q3 _
      rw [q1, q2, q3] at hq
      exact nf_enc h.1 i a c v h.2 hq
theorem pln_4 {c : UInt8} (h1 : (49 : Int) ≤ (c.toNat : Int)) (h2 : (c.toNat : Int) ≤ 57) : plnB (encX 52 c) = true ∧ c ≠ 47 := by
  have := forall_u8 (p := fun c => !(decide ((49 : Int) ≤ (c.toNat : Int)) && decide ((c.toNat : Int) ≤ 57)) || (plnB (encX 52 c) && c != 47)) (by decide +kernel) c
  rw [decide_eq_true h1, decide_eq_true h2] at this
  simpa using this
theorem pln_3 {c : UInt8} (h1 : (48 : Int) ≤ (c.toNat : Int)) (h2 : (c.toNat : Int) ≤ 57) : plnB (encX 51 c) = true ∧ c ≠ 47 := by
  have := forall_u8 (p := fun c => !(decide ((48 : Int) ≤ (c.toNat : Int)) && decide ((c.toNat : Int) ≤ 57)) || (plnB (encX 51 c) && c != 47)) (by decide +kernel) c
  rw [decide_eq_true h1, decide_eq_true h2] at this
  simpa using this
/-- A byte behind two others. -/
theorem third {d : List UInt8} {i : Nat} {x y : UInt8} {z : List UInt8} (hd : d.drop i = [x, y] ++ z) (h : i + 2 < d.length) : ∃ c w, d.drop i = x :: y :: c :: w ∧ byteAt d ((i + 2 : Nat) : Int) = (c.toNat : Int) := by
  have e : d.drop (i + 2) = z := by rw [← List.drop_drop, hd]; rfl
  cases z with
  | nil =>
    have := congrArg List.length e
    rw [List.length_drop, List.length_nil] at this
    omega
  | cons c w => exact ⟨c, w, hd, (at_cons (s := d) (i := i + 2) e).2.1⟩
set_option maxRecDepth 20000 in
theorem cleans_can (hη : OneCells η) (hmix : Tryz.prog.follows .mixedOrders = true) (ms : List Value) (hsh : ShownOk η ms) (s : List UInt8) :
    CallSpec η Tryz.prog B 4 [.string ⟨⟨s⟩⟩] (heapP Tryz.prog (tabA ms)) fun v _ => v = .bool true := by
  have henc : EncOk η := @encQ_ok η hη hmix
  have e : heapP Tryz.prog (tabA ms) = QNrm.H0 ms kindCells s := by kernel_rfl
  rw [e]
  have cut0 := fun i0 => QNrm.cut0 (η := η) (B := B) (D := fun v _ => v = .bool true) hη hmix (reg0 hη hmix) ms kindCells s i0
  refine QNrm.enter hη hmix (reg0 hη hmix) ms kindCells s ?_
  have e47 : #[(47 : UInt8)].toList = [47] := rfl
  have eA : #[(47 : UInt8), 46, 47].toList = [47, 46, 47] := rfl
  have eB : #[(47 : UInt8), 46, 46, 47].toList = [47, 46, 46, 47] := rfl
  have eC : #[(37 : UInt8), 52].toList = [37, 52] := rfl
  have eD : #[(37 : UInt8), 51].toList = [37, 51] := rfl
  have eN : (#[] : Array UInt8).toList = [] := rfl
  simp only [W.holds, true_and, and_true, true_implies, decide_eq_true_eq, decide_eq_false_iff_not, beq_iff_eq, beq_eq_false_iff_ne, ne_eq, bne_iff_ne, bne_eq_false_iff_eq, Int.toNat_natCast, Nat.sub_zero, Nat.le_refl, Int.le_refl, e47, eA, eB, eC, eD, eN, Bool.not_eq_true', Bool.not_eq_false', Value.bool.injEq, Bool.false_eq_true, Bool.true_eq_false, imp_false] at cut0 ⊢
  refine ⟨fun _ => hsh rfl (hasQ2 rfl rfl), fun h5 => ⟨cln_ok hη hmix henc s (by omega) (hasQ2 rfl rfl), fun he => ?_, fun he => ?_⟩⟩
  · have : clnS s = [] := by unfold clnS; rw [if_neg he]
    exact ⟨fun _ => hsh rfl (hasQ2 rfl rfl), fun h => absurd this h⟩
  obtain ⟨f1, f2, f3, f4, K, hne, hm, hK⟩ := cln_facts he
  have hP : splP (clnS s) = slash K := by unfold splP; rw [if_pos f1, hm]
  have hB : splB (clnS s) = splB s := by unfold splB; rw [f1, f3, he]
  have hN : NF (slash K) := NF.slash fun x hx => (hK x hx).1
  have hml := mark_le (clnS s)
  rw [hm] at hml
  have hcons : ∃ r, slash K = 47 :: r := by
    cases K with
    | nil => exact absurd rfl hne
    | cons x L => exact ⟨x ++ slash L, by rw [slash]; rfl⟩
  rw [hP] at cut0
  obtain ⟨d, hd⟩ : ∃ d, d = slash K ++ [47] := ⟨_, rfl⟩
  have hdl : d.length = (slash K).length + 1 := by rw [hd, List.length_append, List.length_singleton]
  rw [← hd] at cut0
  have hsh' := hsh (B := B) (h := heapP Tryz.prog (tabA ms)) rfl (hasQ2 rfl rfl)
  have loop : ∀ (n i : Nat), i + n = d.length → RunD η Tryz.prog B 4 (QNrm.H0 ms kindCells s) [15, 16] (QNrm.S0 ms kindCells s (i : Int) fun _ => undef) (QF Tryz.prog 126 fun v _ => v = .bool true) := by
    intro n
    induction n with
    | zero =>
      intro i hi
      refine cut0 (i : Int) ⟨fun h => by omega, fun _ => ?_⟩
      exact hsh'
    | succ n ih =>
      intro i hi
      have nx := ih (i + 1) (by omega)
      have w1 : IntKind.i64.wrap ((i : Int) + 1) = ((i + 1 : Nat) : Int) := by rw [IntWalk.i64_in _ ⟨by omega, by omega⟩]; omega
      have w2 : IntKind.i64.wrap ((i : Int) + 2) = ((i + 2 : Nat) : Int) := by rw [IntWalk.i64_in _ ⟨by omega, by omega⟩]; omega
      have ht : List.take (d.length - i) (d.drop i) = d.drop i := List.take_of_length_le (by rw [List.length_drop]; exact Nat.le_refl _)
      have c0 := cut0 (i : Int)
      simp only [w1, w2, Int.toNat_natCast, ht] at c0
      have hkk := fun x hx => And.intro (hK x hx).2.1 (hK x hx).2.2.2
      have b1 : begB (d.drop i) [47, 46, 47] = false := by
        cases hq : begB (d.drop i) [47, 46, 47] with
        | false => rfl
        | true =>
          obtain ⟨z, hz⟩ := begB_true hq
          rw [hd] at hz
          exact absurd hz (dots_no K hkk i z).1
      have b2 : begB (d.drop i) [47, 46, 46, 47] = false := by
        cases hq : begB (d.drop i) [47, 46, 46, 47] with
        | false => rfl
        | true =>
          obtain ⟨z, hz⟩ := begB_true hq
          rw [hd] at hz
          exact absurd hz (dots_no K hkk i z).2
      have no3 : begB (d.drop i) [37, 52] = true → ((i + 2 : Nat) : Int) < (d.length : Int) → byteAt d ((i + 2 : Nat) : Int) ≥ 49 → byteAt d ((i + 2 : Nat) : Int) ≤ 57 → False := by
        intro hb hi2 g1 g2
        obtain ⟨z, hz⟩ := begB_true hb
        obtain ⟨c, w, h1, h2⟩ := third hz (by omega)
        rw [h2] at g1 g2
        obtain ⟨p1, p2⟩ := pln_4 g1 g2
        rw [hd] at h1
        rw [enc_no hN h1 p2] at p1
        cases p1
      have no4 : begB (d.drop i) [37, 51] = true → ((i + 2 : Nat) : Int) < (d.length : Int) → byteAt d ((i + 2 : Nat) : Int) ≥ 48 → byteAt d ((i + 2 : Nat) : Int) ≤ 57 → False := by
        intro hb hi2 g1 g2
        obtain ⟨z, hz⟩ := begB_true hb
        obtain ⟨c, w, h1, h2⟩ := third hz (by omega)
        rw [h2] at g1 g2
        obtain ⟨p1, p2⟩ := pln_3 g1 g2
        rw [hd] at h1
        rw [enc_no hN h1 p2] at p1
        cases p1
      refine c0 ⟨fun _ => ⟨⟨by omega, by omega⟩, fun _ => ⟨beg_ok hη hmix _ _ _, (by show ¬ begB (d.drop i) [47, 46, 47] = true; rw [b1]; simp), fun _ => ⟨⟨by omega, by omega⟩, fun _ => ⟨beg_ok hη hmix _ _ _, (by show ¬ begB (d.drop i) [47, 46, 46, 47] = true; rw [b2]; simp), fun _ => ⟨⟨by omega, by omega⟩, fun _ => ⟨beg_ok hη hmix _ _ _, fun b3 => ⟨fun i2 => ⟨⟨by omega, i2⟩, fun _ => ⟨fun g1 => ⟨⟨by omega, i2⟩, fun _ => ⟨fun g2 => no3 b3 i2 g1 g2, fun _ => ⟨⟨by omega, by omega⟩, fun _ => ⟨beg_ok hη hmix _ _ _, fun b4 => ⟨fun i2 => ⟨⟨by omega, i2⟩, fun _ => ⟨fun g1 => ⟨⟨by omega, i2⟩, fun _ => ⟨fun g2 => no4 b4 i2 g1 g2, fun _ => nx⟩⟩, fun _ => nx⟩⟩, fun _ => nx⟩, fun _ => nx⟩⟩⟩⟩, fun _ => ⟨⟨by omega, by omega⟩, fun _ => ⟨beg_ok hη hmix _ _ _, fun b4 => ⟨fun i2 => ⟨⟨by omega, i2⟩, fun _ => ⟨fun g1 => ⟨⟨by omega, i2⟩, fun _ => ⟨fun g2 => no4 b4 i2 g1 g2, fun _ => nx⟩⟩, fun _ => nx⟩⟩, fun _ => nx⟩, fun _ => nx⟩⟩⟩⟩, fun _ => ⟨⟨by omega, by omega⟩, fun _ => ⟨beg_ok hη hmix _ _ _, fun b4 => ⟨fun i2 => ⟨⟨by omega, i2⟩, fun _ => ⟨fun g1 => ⟨⟨by omega, i2⟩, fun _ => ⟨fun g2 => no4 b4 i2 g1 g2, fun _ => nx⟩⟩, fun _ => nx⟩⟩, fun _ => nx⟩, fun _ => nx⟩⟩⟩, fun _ => ⟨⟨by omega, by omega⟩, fun _ => ⟨beg_ok hη hmix _ _ _, fun b4 => ⟨fun i2 => ⟨⟨by omega, i2⟩, fun _ => ⟨fun g1 => ⟨⟨by omega, i2⟩, fun _ => ⟨fun g2 => no4 b4 i2 g1 g2, fun _ => nx⟩⟩, fun _ => nx⟩⟩, fun _ => nx⟩, fun _ => nx⟩⟩⟩⟩⟩⟩⟩⟩, fun h => absurd (by omega) h⟩
  obtain ⟨r, hr⟩ := hcons
  have hb0 : byteAt (slash K) 0 = 47 := by
    have := (at_cons (s := slash K) (i := 0) (c := 47) (r := r) (by rw [List.drop_zero]; exact hr)).2.1
    exact this
  have hk1 : 0 < (slash K).length := by rw [hr]; simp
  exact ⟨cln_ok hη hmix henc (clnS s) (by omega) (hasQ2 rfl rfl), spl_ok hη hmix henc (clnS s) (by omega) (hasQ2 rfl rfl), spl_ok hη hmix henc s (by omega) (hasQ2 rfl rfl), fun h => h f2, fun _ => ⟨fun h => h f1, fun _ => ⟨fun h => h f1, fun _ => ⟨fun h => h he, fun _ => ⟨fun h => h hB, fun _ => ⟨by omega, fun _ => ⟨by rw [hP, hr]; simp, fun _ => ⟨by rw [hP]; omega, fun _ => ⟨fun h => h (by rw [hP]; exact hb0), fun _ => ⟨by rw [hP]; omega, fun _ => loop d.length 0 (by omega)⟩⟩⟩⟩⟩⟩⟩⟩⟩⟩
end TR
end Go.Ev

