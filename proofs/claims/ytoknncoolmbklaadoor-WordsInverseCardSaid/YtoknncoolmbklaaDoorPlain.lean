/- Plain facts (no program): Base, NumP, EscP, QuoteP, FieldP, SplitP, RSplitP, JoinP, DigP, LessD, ListP, ParseP, LessP, PartsP, DashP, LinesP, BothP, RQuotedP, InvP, InvL, InvM. -/
import Derived.WalkKit
import Derived.Lib.ParseIntB
import Derived.Lib.ItoaNum
import Derived.Lib.Strings
import Derived.Lib.ItoaLen
import Derived.Lib.IndexMore
import Derived.Lib.IndexBytes
import Derived.Lib.Split
import Derived.Lib.CountLaws
import Derived.Lib.SplitLaws
import Derived.Lib.ItoaMem
/- Plain words for the contracts of layer 1: booleans of propositions, bytes, names. -/
namespace Go.Proofs.YtoknncoolmbklaaDoor
set_option linter.unusedVariables false
set_option linter.unusedSimpArgs false
open Go.RowKit

noncomputable def boolOf (p : Prop) : Bool := @decide p (Classical.propDecidable p)
theorem boolOf_true {p : Prop} (h : p) : boolOf p = true := by unfold boolOf; exact @decide_eq_true _ (Classical.propDecidable p) h
theorem boolOf_false {p : Prop} (h : ¬p) : boolOf p = false := by unfold boolOf; exact @decide_eq_false _ (Classical.propDecidable p) h
theorem boolOf_iff {p : Prop} {b : Bool} (h : b = true ↔ p) : boolOf p = b := by
  cases b with
  | true => exact boolOf_true (h.1 rfl)
  | false => exact boolOf_false (fun hp => by have := h.2 hp; simp at this)

theorem ret_bool {a b : Bool} (h : a = b) : Ending.returned (.bool a) = .returned (.bool b) := by rw [h]
theorem ret_int {k : IntKind} {a b : Int} (h : a = b) : Ending.returned (.int k a) = .returned (.int k b) := by rw [h]
theorem ret_str {a b : ByteArray} (h : a = b) : Ending.returned (.string a) = .returned (.string b) := by rw [h]

def lowB (c : Int) : Bool := decide (97 ≤ c) && decide (c ≤ 122)
def digB (c : Int) : Bool := decide (48 ≤ c) && decide (c ≤ 57)
def ncB (c : Int) : Bool := lowB c || digB c || decide (c = 45)
/-- A byte that stands for itself between quotes. -/
def plB (c : Int) : Bool := decide (32 ≤ c) && decide (c ≤ 126) && !decide (c = 34) && !decide (c = 92)

theorem isEmpty_of_pos (s : ByteArray) (h : 0 < s.size) : s.toList.isEmpty = false := by
  rw [ByteArray.toList_eq]
  cases hd : s.data.toList with
  | nil => simp [← ByteArray.size_data, ← Array.length_toList, hd] at h
  | cons a l => rfl
theorem isEmpty_of_zero (s : ByteArray) (h : s.size = 0) : s.toList.isEmpty = true := by
  rw [ByteArray.toList_eq]
  have : s.data.toList.length = 0 := by rw [Array.length_toList, ByteArray.size_data]; exact h
  rw [List.isEmpty_iff]; exact List.length_eq_zero_iff.1 this
theorem toList_nil_of_zero (s : ByteArray) (h : s.size = 0) : s.toList = [] := by
  have := isEmpty_of_zero s h
  simpa using this
theorem toList_ne_of_pos (s : ByteArray) (h : 0 < s.size) : ¬ s.toList = [] := by
  have := isEmpty_of_pos s h
  intro h'; simp [h'] at this

/-- P1.1: a name. -/
def nameP (s : ByteArray) : Prop := ∃ h : 0 < s.size, s.size ≤ 16 ∧ lowB s[0].toNat = true ∧ ∀ j (hj : j < s.size), ncB s[j].toNat = true
end Go.Proofs.YtoknncoolmbklaaDoor
/- Plain arithmetic on decimal forms: no program. -/
namespace Go.Proofs.YtoknncoolmbklaaDoor
set_option linter.unusedVariables false
set_option linter.unusedSimpArgs false
open Go.RowKit

/-- The decimal form of a number that is not negative, of any size. -/
def natL (l : List UInt8) : Bool := decide (l ≠ []) && !(l.head? == some 48 && decide (1 < l.length)) && l.all fun c => digB c.toNat
/-- The decimal form of an integer of any size. -/
def decL (l : List UInt8) : Bool := if l.head? = some 45 then natL l.tail && decide (l.tail ≠ [48]) else natL l
def decVal (acc : Nat) (l : List UInt8) : Nat := l.foldl (fun a c => a * 10 + (c.toNat - 48)) acc
def decInt (l : List UInt8) : Int := if l.head? = some 45 then -(decVal 0 l.tail : Int) else decVal 0 l
def inI64 (v : Int) : Prop := -9223372036854775808 ≤ v ∧ v ≤ 9223372036854775807
instance (v : Int) : Decidable (inI64 v) := by unfold inI64; infer_instance
/-- P1.1: what Int returns. -/
def intV (l : List UInt8) (low high : Int) : Int := if decL l = true ∧ inI64 (decInt l) ∧ low ≤ decInt l ∧ decInt l ≤ high then decInt l else 0
def intE (l : List UInt8) (low high : Int) : Int := if decL l = true then (if inI64 (decInt l) ∧ low ≤ decInt l ∧ decInt l ≤ high then 0 else 7) else 6

theorem decVal_le (l : List UInt8) : ∀ acc, acc ≤ decVal acc l := by
  induction l with
  | nil => intro acc; exact Nat.le_refl _
  | cons c r ih => intro acc; have := ih (acc * 10 + (c.toNat - 48)); show acc ≤ decVal (acc * 10 + (c.toNat - 48)) r; omega

theorem digB_iff {c : UInt8} : digB c.toNat = true ↔ 48 ≤ c.toNat ∧ c.toNat ≤ 57 := by unfold digB; simp; omega

theorem parseM (l : List UInt8) : ∀ acc, (∀ c ∈ l, digB c.toNat = true) → acc ≤ 18446744073709551615 →
    Lib.parseUintM 18446744073709551615 acc l = if decVal acc l ≤ 18446744073709551615 then .ok (decVal acc l) else .range := by
  induction l with
  | nil => intro acc _ h; simp [Lib.parseUintM, decVal, h]
  | cons c r ih =>
    intro acc hd h
    have hc := digB_iff.1 (hd c (by simp))
    have e : decVal acc (c :: r) = decVal (acc * 10 + (c.toNat - 48)) r := rfl
    have hle := decVal_le r (acc * 10 + (c.toNat - 48))
    rw [e, Lib.parseUintM, if_pos hc]
    by_cases h1 : 1844674407370955162 ≤ acc
    · rw [if_pos h1, if_neg (by omega)]
    · rw [if_neg h1]
      by_cases h2 : 18446744073709551615 < acc * 10 + (c.toNat - 48)
      · rw [if_pos h2, if_neg (by omega)]
      · rw [if_neg h2]
        exact ih _ (fun x hx => hd x (by simp [hx])) (by omega)

theorem natL_iff {l : List UInt8} : natL l = true ↔ l ≠ [] ∧ ¬(l.head? = some 48 ∧ 1 < l.length) ∧ ∀ c ∈ l, digB c.toNat = true := by
  unfold natL
  rw [Bool.and_eq_true, Bool.and_eq_true, Bool.not_eq_true', Bool.and_eq_false_iff, decide_eq_true_iff, List.all_eq_true, and_assoc]
  have : (l.head? == some 48) = false ∨ decide (1 < l.length) = false ↔ ¬(l.head? = some 48 ∧ 1 < l.length) := by
    by_cases h1 : l.head? = some 48 <;> by_cases h2 : 1 < l.length <;> simp [h1, h2] <;> omega
  rw [this]

theorem parseB (l : List UInt8) (h : decL l = true) :
    Lib.parseIntB 64 l = if inI64 (decInt l) then .ok (decInt l) else .range := by
  cases l with
  | nil => simp [decL, natL] at h
  | cons c r =>
    unfold decL at h
    by_cases hc : c = 45
    · subst hc
      simp only [List.head?_cons, ↓reduceIte, List.tail_cons, Bool.and_eq_true] at h
      obtain ⟨h, h0⟩ := h
      obtain ⟨hne, _, hd⟩ := natL_iff.1 h
      have e : decInt (45 :: r) = -(decVal 0 r : Int) := by simp [decInt]
      unfold Lib.parseIntB
      rw [e]
      simp only [show (45 : UInt8).toNat = 45 from rfl, or_true, ↓reduceIte, not_true_eq_false, false_and, true_and]
      unfold Lib.parseUintB
      rw [if_neg hne, show (2 ^ 64 - 1 : Nat) = 18446744073709551615 from rfl, parseM r 0 hd (by omega)]
      by_cases hv : decVal 0 r ≤ 18446744073709551615
      · rw [if_pos hv]
        simp only
        by_cases hw : 2 ^ (64 - 1) < decVal 0 r
        · rw [if_pos hw, if_neg (by unfold inI64; omega)]
        · rw [if_neg hw, if_pos (by unfold inI64; omega)]
      · rw [if_neg hv]
        simp only
        rw [if_neg (by unfold inI64; omega)]
    · have hc' : (c :: r).head? ≠ some 45 := by simpa using hc
      rw [if_neg hc'] at h
      obtain ⟨hne, _, hd⟩ := natL_iff.1 h
      have hcd := digB_iff.1 (hd c (by simp))
      have e : decInt (c :: r) = (decVal 0 (c :: r) : Int) := by unfold decInt; rw [if_neg hc']
      unfold Lib.parseIntB
      rw [e]
      have n1 : ¬ c.toNat = 43 := by omega
      have n2 : ¬ c.toNat = 45 := by omega
      simp only [n1, n2, or_self, ↓reduceIte, not_false_eq_true, false_and, true_and]
      unfold Lib.parseUintB
      rw [if_neg hne, show (2 ^ 64 - 1 : Nat) = 18446744073709551615 from rfl, parseM _ 0 hd (by omega)]
      by_cases hv : decVal 0 (c :: r) ≤ 18446744073709551615
      · rw [if_pos hv]
        simp only
        by_cases hw : 2 ^ (64 - 1) ≤ decVal 0 (c :: r)
        · rw [if_pos hw, if_neg (by unfold inI64; omega)]
        · rw [if_neg hw, if_pos (by unfold inI64; omega)]
      · rw [if_neg hv]
        simp only
        rw [if_neg (by unfold inI64; omega)]

theorem data_getElem (s : ByteArray) (j : Nat) (h : j < s.size) : s.data.toList[j]'(by simpa using h) = s[j] := rfl
theorem mem_data {s : ByteArray} {c : UInt8} : c ∈ s.data.toList ↔ ∃ j, ∃ h : j < s.size, s[j] = c := by
  rw [List.mem_iff_getElem]
  constructor
  · rintro ⟨i, h, rfl⟩; exact ⟨i, by simpa using h, rfl⟩
  · rintro ⟨i, h, rfl⟩; exact ⟨i, by simpa using h, rfl⟩
theorem len_data (s : ByteArray) : s.data.toList.length = s.size := by simp
theorem head_data (s : ByteArray) (h : 0 < s.size) : s.data.toList.head? = some s[0] := by
  rw [List.head?_eq_getElem?, List.getElem?_eq_getElem (by simpa using h)]; rfl
theorem head_data_none (s : ByteArray) (h : s.size = 0) : s.data.toList = [] := by
  rw [← List.length_eq_zero_iff, len_data]; exact h
theorem data_ne (s : ByteArray) (h : 0 < s.size) : s.data.toList ≠ [] := by
  intro h'; have := len_data s; rw [h'] at this; simp at this; omega

theorem natL_data {s : ByteArray} : natL s.data.toList = true ↔ ∃ h : 0 < s.size, ¬(s[0].toNat = 48 ∧ 1 < s.size) ∧ ∀ j (hj : j < s.size), digB s[j].toNat = true := by
  rw [natL_iff, len_data]
  constructor
  · rintro ⟨h1, h2, h3⟩
    have h : 0 < s.size := by
      rcases Nat.eq_zero_or_pos s.size with h | h
      · exact absurd (head_data_none s h) h1
      · exact h
    refine ⟨h, ?_, fun j hj => h3 _ (mem_data.2 ⟨j, hj, rfl⟩)⟩
    rw [head_data s h] at h2
    intro ⟨a, b⟩
    exact h2 ⟨by rw [Option.some.injEq]; exact UInt8.toNat_inj.1 a, b⟩
  · rintro ⟨h, h2, h3⟩
    refine ⟨data_ne s h, ?_, ?_⟩
    · rw [head_data s h]
      rintro ⟨a, b⟩
      exact h2 ⟨by rw [Option.some.injEq] at a; rw [a]; rfl, b⟩
    · intro c hc
      obtain ⟨j, hj, rfl⟩ := mem_data.1 hc
      exact h3 j hj
end Go.Proofs.YtoknncoolmbklaaDoor
/- Plain: the bytes of quoted forms, read and written. -/
namespace Go.Proofs.YtoknncoolmbklaaDoor
set_option linter.unusedVariables false
set_option linter.unusedSimpArgs false
open Go.RowKit

def letV (c : Int) : Int := if c = 34 then 34 else if c = 92 then 92 else if c = 10 then 110 else if c = 13 then 114 else if c = 9 then 116 else 0
def letB (c : Int) : Bool := decide (c = 34) || decide (c = 92) || decide (c = 10) || decide (c = 13) || decide (c = 9)
/-- The byte that a letter stands for. -/
def unlet (c : Int) : Option Int := if c = 34 then some 34 else if c = 92 then some 92 else if c = 110 then some 10 else if c = 114 then some 13 else if c = 116 then some 9 else none
/-- The place of a byte among the digits of base 16; -1: it is none. -/
def hexI (c : Int) : Int := if 48 ≤ c ∧ c ≤ 57 then c - 48 else if 97 ≤ c ∧ c ≤ 102 then c - 87 else -1
def hexD (n : Nat) : UInt8 := UInt8.ofNat (if n < 10 then 48 + n else 87 + n)
/-- The bytes that stand for a byte between quotes. -/
def esc (c : UInt8) : List UInt8 :=
  if plB c.toNat = true then [c] else if letB c.toNat = true then [92, UInt8.ofNat (letV c.toNat).toNat] else [92, 120, hexD (c.toNat / 16), hexD (c.toNat % 16)]
def rhexL : List UInt8 → Option (Int × Nat)
  | _ :: _ :: a :: b :: _ => if 0 ≤ hexI a.toNat ∧ 0 ≤ hexI b.toNat ∧ letB (hexI a.toNat * 16 + hexI b.toNat) = false ∧ plB (hexI a.toNat * 16 + hexI b.toNat) = false then some (hexI a.toNat * 16 + hexI b.toNat, 4) else none
  | _ => none
/-- What readByte reads: the byte, and how many bytes stand for it. -/
def rbL : List UInt8 → Option (Int × Nat)
  | [] => none
  | a :: r => if plB a.toNat = true then some (a.toNat, 1) else if a ≠ 92 then none else
    match r with
    | [] => none
    | b :: _ => if b = 120 then rhexL (a :: r) else (unlet b.toNat).map fun c => (c, 2)
def oV (o : Option (Int × Nat)) : Int := match o with | some (v, _) => v | none => 0
def oN (o : Option (Int × Nat)) : Int := match o with | some (_, n) => n | none => 0

theorem hexI_lt (c : Int) : hexI c < 16 := by unfold hexI; split <;> (try split) <;> omega
theorem hexI_ge (c : Int) : -1 ≤ hexI c := by unfold hexI; split <;> (try split) <;> omega

theorem esc_len (c : UInt8) : 1 ≤ (esc c).length ∧ (esc c).length ≤ 4 := by unfold esc; split <;> (try split) <;> simp

theorem rb_esc_fin : ∀ c : Fin 256, (if plB c.val = true then True else if letB c.val = true then unlet (UInt8.ofNat (letV c.val).toNat).toNat = some (c.val : Int) ∧ UInt8.ofNat (letV c.val).toNat ≠ 120
    else hexI (hexD (c.val / 16)).toNat = c.val / 16 ∧ hexI (hexD (c.val % 16)).toNat = c.val % 16) := by decide +kernel

/-- What is written is read. -/
theorem rb_esc (c : UInt8) (r : List UInt8) : rbL (esc c ++ r) = some ((c.toNat : Int), (esc c).length) := by
  have h := rb_esc_fin ⟨c.toNat, c.toNat_lt⟩
  simp only at h
  unfold esc
  by_cases hp : plB c.toNat = true
  · rw [if_pos hp]; simp [rbL, hp]
  · rw [if_neg hp] at h ⊢
    by_cases hl : letB c.toNat = true
    · rw [if_pos hl] at h ⊢
      have h92 : plB ((92 : UInt8).toNat : Int) = false := by decide
      simp only [List.cons_append, List.nil_append, rbL, h92, Bool.false_eq_true, ↓reduceIte, ne_eq, not_true_eq_false]
      rw [if_neg h.2, h.1]
      rfl
    · rw [if_neg hl] at h ⊢
      have h92 : plB ((92 : UInt8).toNat : Int) = false := by decide
      simp only [List.cons_append, List.nil_append, rbL, h92, Bool.false_eq_true, ↓reduceIte, ne_eq, not_true_eq_false, rhexL]
      have e : hexI ((hexD (c.toNat / 16)).toNat : Int) * 16 + hexI ((hexD (c.toNat % 16)).toNat : Int) = c.toNat := by rw [h.1, h.2]; omega
      rw [e, h.1, h.2, if_pos ⟨by omega, by omega, by simpa using hl, by simpa using hp⟩]
      rfl

theorem unesc_let_fin : ∀ b : Fin 256, ∀ v : Fin 256, unlet b.val = some (v.val : Int) → plB v.val = false ∧ letB v.val = true ∧ letV v.val = b.val := by decide +kernel
theorem unesc_hex_fin : ∀ a : Fin 256, 0 ≤ hexI a.val → hexD (hexI a.val).toNat = UInt8.ofNat a.val := by decide +kernel
theorem unlet_range {b v : Int} (h : unlet b = some v) : 0 ≤ v ∧ v < 256 := by
  unfold unlet at h
  repeat' split at h
  all_goals first | (injection h with h; omega) | simp at h

theorem esc_rb {l : List UInt8} {v : Int} {n : Nat} (h : rbL l = some (v, n)) : ∃ c : UInt8, ∃ r, v = c.toNat ∧ l = esc c ++ r ∧ n = (esc c).length := by
  cases l with
  | nil => simp [rbL] at h
  | cons a r =>
    by_cases hp : plB a.toNat = true
    · simp only [rbL, hp, ↓reduceIte, Option.some.injEq, Prod.mk.injEq] at h
      refine ⟨a, r, h.1.symm, ?_, ?_⟩ <;> simp [esc, hp, h.2]
    · simp only [rbL] at h
      rw [if_neg hp] at h
      by_cases ha : a = 92
      · subst ha
        rw [if_neg (by simp)] at h
        cases r with
        | nil => simp at h
        | cons b r =>
          simp only at h
          by_cases hb : b = 120
          · subst hb
            rw [if_pos rfl] at h
            match r, h with
            | x :: y :: r', h =>
              simp only [rhexL] at h
              split at h
              · rename_i hc
                obtain ⟨h1, h2, h3, h4⟩ := hc
                simp only [Option.some.injEq, Prod.mk.injEq] at h
                obtain ⟨rfl, rfl⟩ := h
                have b1 := hexI_lt x.toNat
                have b2 := hexI_lt y.toNat
                have e0 : (UInt8.ofNat (hexI x.toNat * 16 + hexI y.toNat).toNat).toNat = (hexI x.toNat * 16 + hexI y.toNat).toNat := by
                  rw [UInt8.toNat_ofNat']; omega
                have e : ((UInt8.ofNat (hexI x.toNat * 16 + hexI y.toNat).toNat).toNat : Int) = hexI x.toNat * 16 + hexI y.toNat := by rw [e0]; omega
                have ex := unesc_hex_fin ⟨x.toNat, x.toNat_lt⟩ h1
                have ey := unesc_hex_fin ⟨y.toNat, y.toNat_lt⟩ h2
                simp only [UInt8.ofNat_toNat] at ex ey
                have hesc : esc (UInt8.ofNat (hexI x.toNat * 16 + hexI y.toNat).toNat) = [92, 120, x, y] := by
                  unfold esc
                  rw [e, if_neg (by simp [h4]), if_neg (by simp [h3]), e0]
                  rw [show (hexI ↑x.toNat * 16 + hexI ↑y.toNat).toNat / 16 = (hexI ↑x.toNat).toNat by omega, show (hexI ↑x.toNat * 16 + hexI ↑y.toNat).toNat % 16 = (hexI ↑y.toNat).toNat by omega, ex, ey]
                refine ⟨UInt8.ofNat (hexI x.toNat * 16 + hexI y.toNat).toNat, r', e.symm, ?_, ?_⟩
                · rw [hesc]; rfl
                · rw [hesc]; rfl
              · simp at h
            | [_], h => simp [rhexL] at h
            | [], h => simp [rhexL] at h
          · rw [if_neg hb] at h
            cases hu : unlet b.toNat with
            | none => rw [hu] at h; simp at h
            | some u =>
              rw [hu] at h
              simp only [Option.map_some, Option.some.injEq, Prod.mk.injEq] at h
              obtain ⟨rfl, rfl⟩ := h
              have hr := unlet_range hu
              have hf := unesc_let_fin ⟨b.toNat, b.toNat_lt⟩ ⟨u.toNat, by omega⟩ (by simp only; rw [hu]; congr 1; omega)
              simp only at hf
              rw [show ((u.toNat : Nat) : Int) = u by omega] at hf
              have e0 : (UInt8.ofNat u.toNat).toNat = u.toNat := by rw [UInt8.toNat_ofNat']; omega
              have e : ((UInt8.ofNat u.toNat).toNat : Int) = u := by rw [e0]; omega
              have hesc : esc (UInt8.ofNat u.toNat) = [92, b] := by
                unfold esc
                rw [e, if_neg (by simp [hf.1]), if_pos hf.2.1, hf.2.2]
                simp
              refine ⟨UInt8.ofNat u.toNat, r, e.symm, ?_, ?_⟩
              · rw [hesc]; rfl
              · rw [hesc]; rfl
      · rw [if_pos ha] at h; simp at h
end Go.Proofs.YtoknncoolmbklaaDoor
/- Plain: quoted forms, written and read. -/
namespace Go.Proofs.YtoknncoolmbklaaDoor
set_option linter.unusedVariables false
set_option linter.unusedSimpArgs false
open Go.RowKit

/-- The quoted form of a string. -/
def quoteL (x : List UInt8) : List UInt8 := 34 :: (x.flatMap esc ++ [34])

/-- Reads behind the opening quote: the string, and how many bytes were read, the closing quote among them. -/
def rqB : Nat → List UInt8 → Option (List UInt8 × Nat)
  | 0, _ => none
  | f + 1, l => match l with
    | [] => none
    | a :: r => if a = 34 then some ([], 1) else
      match rbL (a :: r) with
      | none => none
      | some (v, n) => (rqB f ((a :: r).drop n)).map fun p => (UInt8.ofNat v.toNat :: p.1, p.2 + n)

theorem rbL_pos {l : List UInt8} {v : Int} {n : Nat} (h : rbL l = some (v, n)) : 1 ≤ n ∧ n ≤ l.length ∧ n ≤ 4 ∧ 0 ≤ v ∧ v < 256 := by
  obtain ⟨c, r, rfl, rfl, rfl⟩ := esc_rb h
  have := esc_len c
  have := c.toNat_lt
  simp; omega

theorem rqB_fuel : ∀ (f g : Nat) (l : List UInt8), l.length < f → l.length < g → rqB f l = rqB g l := by
  intro f
  induction f with
  | zero => intro g l h; omega
  | succ f ih =>
    intro g l hf hg
    cases g with
    | zero => omega
    | succ g =>
      cases l with
      | nil => rfl
      | cons a r =>
        simp only [rqB]
        by_cases ha : a = 34
        · rw [if_pos ha, if_pos ha]
        · rw [if_neg ha, if_neg ha]
          cases hb : rbL (a :: r) with
          | none => rfl
          | some p =>
            obtain ⟨v, n⟩ := p
            have hp := rbL_pos hb
            simp only
            rw [ih g _ (by simp [List.length_drop] at *; omega) (by simp [List.length_drop] at *; omega)]

def rqC (l : List UInt8) : Option (List UInt8 × Nat) := rqB (l.length + 1) l
theorem rqC_nil : rqC [] = none := rfl
theorem rqC_quote (r : List UInt8) : rqC (34 :: r) = some ([], 1) := by simp [rqC, rqB]
theorem rqC_step {l : List UInt8} {v : Int} {n : Nat} (h0 : l.head? ≠ some 34) (h : rbL l = some (v, n)) : rqC l = (rqC (l.drop n)).map fun p => (UInt8.ofNat v.toNat :: p.1, p.2 + n) := by
  cases l with
  | nil => simp [rbL] at h
  | cons a r =>
    have ha : a ≠ 34 := by simpa using h0
    have hp := rbL_pos h
    unfold rqC
    rw [rqB, if_neg ha, h]
    simp only
    rw [rqB_fuel _ (((a :: r).drop n).length + 1) _ (by simp [List.length_drop] at *; omega) (by omega)]
theorem rqC_none {l : List UInt8} (h0 : l.head? ≠ some 34) (h : rbL l = none) : rqC l = none := by
  cases l with
  | nil => rfl
  | cons a r =>
    have ha : a ≠ 34 := by simpa using h0
    unfold rqC
    rw [rqB, if_neg ha, h]

/-- The quoted form at the beginning of a string: its string, and its length. -/
def rqL (l : List UInt8) : Option (List UInt8 × Nat) := if l.head? = some 34 then (rqC l.tail).map fun p => (p.1, p.2 + 1) else none

theorem head_esc (c : UInt8) (r : List UInt8) : (esc c ++ r).head? ≠ some 34 := by
  unfold esc
  split
  · rename_i h; intro h'; simp at h'; rw [h'] at h; simp [plB] at h
  · split <;> simp

theorem rqC_of (x r : List UInt8) : rqC (x.flatMap esc ++ 34 :: r) = some (x, (x.flatMap esc).length + 1) := by
  induction x with
  | nil => exact rqC_quote r
  | cons c x ih =>
    rw [List.flatMap_cons, List.append_assoc, rqC_step (head_esc c _) (rb_esc c _)]
    rw [List.drop_left, ih]
    simp [Nat.add_comm, Nat.add_left_comm, Nat.add_assoc]

theorem rqL_of (x r : List UInt8) : rqL (quoteL x ++ r) = some (x, (quoteL x).length) := by
  unfold rqL quoteL
  simp only [List.cons_append, List.head?_cons, ↓reduceIte, List.tail_cons, List.append_assoc, List.nil_append]
  rw [rqC_of]; simp

theorem of_rqC : ∀ (k : Nat) (l x : List UInt8) (n : Nat), l.length ≤ k → rqC l = some (x, n) → ∃ r, l = x.flatMap esc ++ 34 :: r ∧ n = (x.flatMap esc).length + 1 := by
  intro k
  induction k with
  | zero =>
    intro l x n hk h
    obtain rfl : l = [] := List.length_eq_zero_iff.1 (by omega)
    rw [rqC_nil] at h; simp at h
  | succ k ih =>
    intro l x n hk h
    by_cases h0 : l.head? = some 34
    · cases l with
      | nil => simp at h0
      | cons a r =>
        obtain rfl : a = 34 := by simpa using h0
        rw [rqC_quote] at h
        simp only [Option.some.injEq, Prod.mk.injEq] at h
        obtain ⟨rfl, rfl⟩ := h
        exact ⟨r, rfl, rfl⟩
    · cases hb : rbL l with
      | none => rw [rqC_none h0 hb] at h; simp at h
      | some p =>
        obtain ⟨v, m⟩ := p
        rw [rqC_step h0 hb] at h
        cases hq : rqC (l.drop m) with
        | none => rw [hq] at h; simp at h
        | some q =>
          obtain ⟨y, m'⟩ := q
          rw [hq] at h
          simp only [Option.map_some, Option.some.injEq, Prod.mk.injEq] at h
          obtain ⟨rfl, rfl⟩ := h
          have hp := rbL_pos hb
          obtain ⟨r, hr, rfl⟩ := ih _ _ _ (by rw [List.length_drop]; omega) hq
          obtain ⟨c, r', rfl, hl, rfl⟩ := esc_rb hb
          rw [hl, List.drop_left] at hr
          refine ⟨r, ?_, ?_⟩
          · rw [hl, hr]; simp
          · simp; omega

theorem of_rqL {l x : List UInt8} {n : Nat} (h : rqL l = some (x, n)) : ∃ r, l = quoteL x ++ r ∧ n = (quoteL x).length := by
  unfold rqL at h
  by_cases h0 : l.head? = some 34
  · rw [if_pos h0] at h
    cases hq : rqC l.tail with
    | none => rw [hq] at h; simp at h
    | some q =>
      obtain ⟨y, m⟩ := q
      rw [hq] at h
      simp only [Option.map_some, Option.some.injEq, Prod.mk.injEq] at h
      obtain ⟨rfl, rfl⟩ := h
      obtain ⟨r, hr, rfl⟩ := of_rqC _ _ _ _ (Nat.le_refl _) hq
      refine ⟨r, ?_, ?_⟩
      · cases l with
        | nil => simp at h0
        | cons a l =>
          obtain rfl : a = 34 := by simpa using h0
          simp only [List.tail_cons] at hr
          rw [hr]; simp [quoteL]
      · simp [quoteL]
  · rw [if_neg h0] at h; simp at h

/-- What readQuoted returns. -/
def rqT (l : List UInt8) : List UInt8 := match rqL l with | some (x, _) => x | none => []
def rqN (l : List UInt8) : Int := match rqL l with | some (_, n) => n | none => 0
theorem rqC_len {l x : List UInt8} {n : Nat} (h : rqC l = some (x, n)) : n ≤ l.length ∧ x.length ≤ n := by
  obtain ⟨r, rfl, rfl⟩ := of_rqC _ _ _ _ (Nat.le_refl _) h
  have : ∀ y : List UInt8, y.length ≤ (y.flatMap esc).length := by
    intro y
    induction y with
    | nil => simp
    | cons c y ih => have := esc_len c; simp [List.flatMap_cons] at *; omega
  have := this x
  rw [List.length_append, List.length_cons]; omega
end Go.Proofs.YtoknncoolmbklaaDoor
/- Plain: the fields of a line. -/
namespace Go.Proofs.YtoknncoolmbklaaDoor
set_option linter.unusedVariables false
set_option linter.unusedSimpArgs false
open Go.RowKit

def bareB (c : UInt8) : Bool := plB c.toNat && decide (c ≠ 32)
def bareN (l : List UInt8) : Nat := (l.takeWhile bareB).length
/-- A field: its string, and whether it is quoted. -/
abbrev FL := List UInt8 × Bool
/-- The field at the beginning, and how many bytes it has (0: there is none). -/
def fieldAt (l : List UInt8) : FL × Nat := if l.head? = some 34 then ((rqT l, true), (rqN l).toNat) else ((l.take (bareN l), false), bareN l)
def okAt (l : List UInt8) : Bool := decide ((fieldAt l).2 ≠ 0) && (decide ((fieldAt l).2 = l.length) || decide (l[(fieldAt l).2]? = some 32))
def seqF : Nat → List UInt8 → List (FL × Bool)
  | 0, _ => []
  | f + 1, l => if okAt l = true then (if (fieldAt l).2 = l.length then [((fieldAt l).1, true)] else ((fieldAt l).1, true) :: seqF f (l.drop ((fieldAt l).2 + 1))) else [(([], false), false)]
def seqC (l : List UInt8) : List (FL × Bool) := seqF (l.length + 1) l
/-- What the line's fields are, in the end false if the rest has not the form. -/
def seqL (l : List UInt8) : List (FL × Bool) := if l = [] then [] else seqC l

theorem bareN_le (l : List UInt8) : bareN l ≤ l.length := (List.takeWhile_sublist _).length_le
theorem fieldAt_le (l : List UInt8) : (fieldAt l).2 ≤ l.length := by
  unfold fieldAt
  split
  · simp only
    unfold rqN
    cases h : rqL l with
    | none => simp
    | some p =>
      obtain ⟨x, n⟩ := p
      obtain ⟨r, rfl, rfl⟩ := of_rqL h
      simp
  · exact bareN_le l

theorem seqF_fuel : ∀ (f g : Nat) (l : List UInt8), l.length < f → l.length < g → seqF f l = seqF g l := by
  intro f
  induction f with
  | zero => intro g l h; omega
  | succ f ih =>
    intro g l hf hg
    cases g with
    | zero => omega
    | succ g =>
      unfold seqF
      by_cases ho : okAt l = true
      · rw [if_pos ho, if_pos ho]
        by_cases he : (fieldAt l).2 = l.length
        · rw [if_pos he, if_pos he]
        · rw [if_neg he, if_neg he]
          have := fieldAt_le l
          rw [ih g _ (by rw [List.length_drop]; omega) (by rw [List.length_drop]; omega)]
      · rw [if_neg ho, if_neg ho]

theorem seqC_bad {l : List UInt8} (h : okAt l = false) : seqC l = [(([], false), false)] := by unfold seqC seqF; rw [if_neg (by simp [h])]
theorem seqC_end {l : List UInt8} (h : okAt l = true) (he : (fieldAt l).2 = l.length) : seqC l = [((fieldAt l).1, true)] := by unfold seqC seqF; rw [if_pos h, if_pos he]
theorem seqC_step {l : List UInt8} (h : okAt l = true) (he : (fieldAt l).2 ≠ l.length) : seqC l = ((fieldAt l).1, true) :: seqC (l.drop ((fieldAt l).2 + 1)) := by
  have := fieldAt_le l
  unfold seqC
  rw [seqF, if_pos h, if_neg he, seqF_fuel _ ((l.drop ((fieldAt l).2 + 1)).length + 1) _ (by rw [List.length_drop]; omega) (by omega)]

theorem okAt_iff {l : List UInt8} : okAt l = true ↔ (fieldAt l).2 ≠ 0 ∧ ((fieldAt l).2 = l.length ∨ l[(fieldAt l).2]? = some 32) := by
  unfold okAt; simp
theorem okAt_false {l : List UInt8} (h : ¬ ((fieldAt l).2 ≠ 0 ∧ ((fieldAt l).2 = l.length ∨ l[(fieldAt l).2]? = some 32))) : okAt l = false := by
  cases hb : okAt l with
  | false => rfl
  | true => exact absurd (okAt_iff.1 hb) h

/-- All but the last are fields. -/
theorem seqC_ok : ∀ (k : Nat) (l : List UInt8), l.length ≤ k → ∀ pre x y r, seqC l = pre ++ x :: y :: r → x.2 = true := by
  intro k
  induction k with
  | zero =>
    intro l hk pre x y r h
    by_cases ho : okAt l = true
    · have := okAt_iff.1 ho; have := fieldAt_le l; omega
    · rw [seqC_bad (by simpa using ho)] at h
      have := congrArg List.length h; simp at this; omega
  | succ k ih =>
    intro l hk pre x y r h
    by_cases ho : okAt l = true
    · by_cases he : (fieldAt l).2 = l.length
      · rw [seqC_end ho he] at h
        have := congrArg List.length h; simp at this; omega
      · rw [seqC_step ho he] at h
        cases pre with
        | nil => simp at h; rw [← h.1]
        | cons p pre =>
          simp only [List.cons_append, List.cons.injEq] at h
          have := fieldAt_le l
          exact ih _ (by rw [List.length_drop]; omega) pre x y r h.2
    · rw [seqC_bad (by simpa using ho)] at h
      have := congrArg List.length h; simp at this; omega
theorem seqL_ok {l : List UInt8} {pre : List (FL × Bool)} {x y : FL × Bool} {r : List (FL × Bool)} (h : seqL l = pre ++ x :: y :: r) : x.2 = true := by
  unfold seqL at h
  split at h
  · have := congrArg List.length h; simp at this
  · exact seqC_ok _ _ (Nat.le_refl _) _ _ _ _ h
end Go.Proofs.YtoknncoolmbklaaDoor
/- Plain: what Split returns. -/
namespace Go.Proofs.YtoknncoolmbklaaDoor
set_option linter.unusedVariables false
set_option linter.unusedSimpArgs false
open Go.RowKit
def longB (fs : List FL) : Bool := decide (64 < fs.length) || fs.any fun f => decide (2000 < f.1.length)
/-- Whether the line consists of fields. -/
def formB (l : List UInt8) : Bool := (seqL l).all fun x => x.2
def allF (l : List UInt8) : List FL := (seqL l).map fun x => x.1
/-- P1.3: the error, and the fields. -/
def splE (l : List UInt8) : Int := if 8192 < l.length then 3 else if formB l = false then 6 else if longB (allF l) = true then 3 else 0
def splF (l : List UInt8) : List FL := if splE l = 0 then allF l else []
theorem splE_long {l : List UInt8} (h : 8192 < l.length) : splE l = 3 ∧ splF l = [] := by
  have : splE l = 3 := by unfold splE; rw [if_pos h]
  exact ⟨this, by unfold splF; rw [this]; rfl⟩
theorem splE_form {l : List UInt8} (h0 : ¬ 8192 < l.length) (h : formB l = false) : splE l = 6 ∧ splF l = [] := by
  have : splE l = 6 := by unfold splE; rw [if_neg h0, if_pos h]
  exact ⟨this, by unfold splF; rw [this]; rfl⟩
theorem splE_many {l : List UInt8} (h0 : ¬ 8192 < l.length) (h : formB l = true) (h1 : longB (allF l) = true) : splE l = 3 ∧ splF l = [] := by
  have : splE l = 3 := by unfold splE; rw [if_neg h0, if_neg (by simp [h]), if_pos h1]
  exact ⟨this, by unfold splF; rw [this]; rfl⟩
theorem splE_ok {l : List UInt8} (h0 : ¬ 8192 < l.length) (h : formB l = true) (h1 : longB (allF l) = false) : splE l = 0 ∧ splF l = allF l := by
  have : splE l = 0 := by unfold splE; rw [if_neg h0, if_neg (by simp [h]), if_neg (by simp [h1])]
  exact ⟨this, by unfold splF; rw [this]; rfl⟩
theorem seqC_len : ∀ (k : Nat) (l : List UInt8), l.length ≤ k → (seqC l).length ≤ l.length + 1 := by
  intro k
  induction k with
  | zero =>
    intro l hk
    by_cases ho : okAt l = true
    · have := okAt_iff.1 ho; have := fieldAt_le l; omega
    · rw [seqC_bad (by simpa using ho)]; simp
  | succ k ih =>
    intro l hk
    by_cases ho : okAt l = true
    · by_cases he : (fieldAt l).2 = l.length
      · rw [seqC_end ho he]; simp
      · rw [seqC_step ho he, List.length_cons]
        have := fieldAt_le l
        have hd : (l.drop ((fieldAt l).2 + 1)).length = l.length - ((fieldAt l).2 + 1) := List.length_drop
        have := ih (l.drop ((fieldAt l).2 + 1)) (by omega)
        omega
    · rw [seqC_bad (by simpa using ho)]; simp
theorem seqL_len (l : List UInt8) : (seqL l).length ≤ l.length + 1 := by
  unfold seqL; split
  · simp
  · exact seqC_len _ _ (Nat.le_refl _)
end Go.Proofs.YtoknncoolmbklaaDoor
/- Plain: the field at the beginning of a line, as the reference finds it. -/
namespace Go.Proofs.YtoknncoolmbklaaDoor
set_option linter.unusedVariables false
set_option linter.unusedSimpArgs false
open Go.RowKit

/-- How many bytes stand before the first space. -/
def uN (l : List UInt8) : Nat := (l.takeWhile fun c => decide (c ≠ 32)).length
/-- Whether a string has only bytes of bare fields, and at least one. -/
def bareS (l : List UInt8) : Bool := !l.isEmpty && l.all bareB

theorem bareB_32 : bareB 32 = false := by decide
theorem bareB_34 : bareB 34 = false := by decide
theorem uN_le (l : List UInt8) : uN l ≤ l.length := (List.takeWhile_sublist _).length_le
theorem take_uN (l : List UInt8) : l.take (uN l) = l.takeWhile fun c => decide (c ≠ 32) := by
  unfold uN
  induction l with
  | nil => rfl
  | cons a l ih =>
    rw [List.takeWhile_cons]
    split
    · rw [List.length_cons, List.take_succ_cons, ih]
    · rfl
theorem uN_of {l : List UInt8} {k : Nat} (h : ∀ c ∈ l.take k, c ≠ 32) (hk : k ≤ l.length) (hn : k = l.length ∨ l[k]? = some 32) : uN l = k := by
  unfold uN
  induction l generalizing k with
  | nil => simp at hk; simp [hk]
  | cons a l ih =>
    cases k with
    | zero =>
      rcases hn with hn | hn
      · simp at hn
      · simp at hn; simp [List.takeWhile_cons, hn]
    | succ k =>
      have ha := h a (by simp)
      rw [List.takeWhile_cons, if_pos (by simpa using ha), List.length_cons]
      rw [ih (fun c hc => h c (by rw [List.take_succ_cons]; exact List.mem_cons_of_mem _ hc)) (by simpa using hk) (by simpa using hn)]
theorem uN_next (l : List UInt8) : uN l = l.length ∨ l[uN l]? = some 32 := by
  unfold uN
  induction l with
  | nil => exact .inl rfl
  | cons a l ih =>
    rw [List.takeWhile_cons]
    split
    · rw [List.length_cons]
      rcases ih with h | h
      · left; rw [List.length_cons, h]
      · right; simpa using h
    · rename_i h
      right; simp at h; simp [h]
theorem bareN_of {l : List UInt8} {k : Nat} (h : ∀ c ∈ l.take k, bareB c = true) (hk : k ≤ l.length) (hn : k = l.length ∨ ∀ c, l[k]? = some c → bareB c = false) : bareN l = k := by
  unfold bareN
  induction l generalizing k with
  | nil => simp at hk; simp [hk]
  | cons a l ih =>
    cases k with
    | zero =>
      rcases hn with hn | hn
      · simp at hn
      · have := hn a rfl; simp [List.takeWhile_cons, this]
    | succ k =>
      have ha := h a (by simp)
      rw [List.takeWhile_cons, if_pos ha, List.length_cons]
      rw [ih (fun c hc => h c (by rw [List.take_succ_cons]; exact List.mem_cons_of_mem _ hc)) (by simpa using hk) (by simpa using hn)]
theorem take_bareN (l : List UInt8) : ∀ c ∈ l.take (bareN l), bareB c = true := by
  unfold bareN
  induction l with
  | nil => simp
  | cons a l ih =>
    rw [List.takeWhile_cons]
    split
    · rename_i h
      rw [List.length_cons, List.take_succ_cons]
      intro c hc
      rcases List.mem_cons.1 hc with rfl | hc
      · exact h
      · exact ih c hc
    · simp
theorem bareB_ne32 {c : UInt8} (h : bareB c = true) : c ≠ 32 := fun e => by rw [e] at h; simp [bareB_32] at h

/-- The reference's branch of a bare field. -/
theorem okAt_bare {l : List UInt8} (h0 : rqN l = 0) : okAt l = bareS (l.take (uN l)) ∧ (okAt l = true → fieldAt l = ((l.take (uN l), false), uN l)) := by
  by_cases hq : l.head? = some 34
  · have ho : okAt l = false := okAt_false fun h => by
      unfold fieldAt at h; rw [if_pos hq] at h
      simp only [h0] at h; exact h.1 rfl
    have hb : bareS (l.take (uN l)) = false := by
      cases l with
      | nil => simp at hq
      | cons a r =>
        obtain rfl : a = 34 := by simpa using hq
        rw [take_uN, List.takeWhile_cons, if_pos (by decide)]
        unfold bareS
        rw [List.all_cons, bareB_34]; simp
    rw [ho, hb]; exact ⟨rfl, fun h => by simp at h⟩
  · have hf : fieldAt l = ((l.take (bareN l), false), bareN l) := by unfold fieldAt; rw [if_neg hq]
    by_cases hb : bareS (l.take (uN l)) = true
    · have hb' := hb
      unfold bareS at hb'
      rw [Bool.and_eq_true, List.all_eq_true] at hb'
      have hN : bareN l = uN l := bareN_of (fun c hc => hb'.2 c hc) (uN_le l) (by
        rcases uN_next l with h | h
        · exact .inl h
        · right; intro c hc; rw [h] at hc; injection hc with hc; rw [← hc]; exact bareB_32)
      have hpos : uN l ≠ 0 := by
        intro h; rw [h] at hb'; simp at hb'
      have ho : okAt l = true := okAt_iff.2 (by rw [hf]; simp only; rw [hN]; exact ⟨hpos, uN_next l⟩)
      rw [ho, hb, hf, hN]; exact ⟨rfl, fun _ => rfl⟩
    · have ho : okAt l = false := okAt_false fun h => by
        rw [hf] at h; simp only at h
        have hU : uN l = bareN l := uN_of (fun c hc => bareB_ne32 (take_bareN l c hc)) (bareN_le l) h.2
        apply hb
        rw [hU]
        unfold bareS
        rw [Bool.and_eq_true, List.all_eq_true]
        refine ⟨?_, take_bareN l⟩
        cases l with
        | nil => simp [bareN] at h
        | cons a r =>
          have : bareN (a :: r) = (bareN (a :: r) - 1) + 1 := by omega
          rw [this, List.take_succ_cons]; rfl
      rw [ho]
      exact ⟨by simpa using hb, fun h => by simp at h⟩
/-- The reference's branch of a quoted field. -/
theorem field_quoted {l : List UInt8} (h0 : rqN l ≠ 0) : fieldAt l = ((rqT l, true), (rqN l).toNat) ∧ 0 < rqN l := by
  cases h : rqL l with
  | none => exact absurd (by unfold rqN; rw [h]) h0
  | some p =>
    have hh : l.head? = some 34 := by
      unfold rqL at h
      by_cases hq : l.head? = some 34
      · exact hq
      · rw [if_neg hq] at h; simp at h
    refine ⟨by unfold fieldAt; rw [if_pos hh], ?_⟩
    obtain ⟨x, n⟩ := p
    have : rqN l = n := by unfold rqN; rw [h]
    omega

/-- What is known when the fields before place k have been read. -/
def Sofar (l : List UInt8) (k : Nat) (fs : List FL) : Prop := seqL l = fs.map (fun f => (f, true)) ++ seqC (l.drop k)
theorem sofar_start {l : List UInt8} (h : l ≠ []) : Sofar l 0 [] := by unfold Sofar seqL; rw [if_neg h]; rfl
theorem sofar_bad {l : List UInt8} {k : Nat} {fs : List FL} (h : Sofar l k fs) (h8 : ¬ 8192 < l.length) (ho : okAt (l.drop k) = false) : splE l = 6 ∧ splF l = [] := by
  refine splE_form h8 ?_
  unfold formB; rw [h, seqC_bad ho]; simp
theorem sofar_end {l : List UInt8} {k : Nat} {fs : List FL} (h : Sofar l k fs) (ho : okAt (l.drop k) = true) (he : (fieldAt (l.drop k)).2 = (l.drop k).length) : formB l = true ∧ allF l = fs ++ [(fieldAt (l.drop k)).1] := by
  unfold formB allF; rw [h, seqC_end ho he]
  refine ⟨by simp, ?_⟩
  rw [List.map_append, List.map_map, show ((fun x : FL × Bool => x.1) ∘ fun f : FL => (f, true)) = id from rfl, List.map_id]; rfl
theorem sofar_step {l : List UInt8} {k : Nat} {fs : List FL} (h : Sofar l k fs) (ho : okAt (l.drop k) = true) (he : (fieldAt (l.drop k)).2 ≠ (l.drop k).length) : Sofar l (k + (fieldAt (l.drop k)).2 + 1) (fs ++ [(fieldAt (l.drop k)).1]) := by
  unfold Sofar; rw [h, seqC_step ho he, List.drop_drop]; simp [Nat.add_assoc]
/-- Whether one of the fields is too long. -/
def anyB (fs : List FL) : Bool := fs.any fun f => decide (2000 < f.1.length)
theorem anyB_snoc (fs : List FL) (f : FL) : anyB (fs ++ [f]) = (anyB fs || decide (2000 < f.1.length)) := by simp [anyB]
theorem longB_anyB (fs : List FL) : longB fs = (anyB fs || decide (64 < fs.length)) := by unfold longB anyB; rw [Bool.or_comm]
end Go.Proofs.YtoknncoolmbklaaDoor
/- Plain: what Join returns. -/
namespace Go.Proofs.YtoknncoolmbklaaDoor
set_option linter.unusedVariables false
set_option linter.unusedSimpArgs false
open Go.RowKit
/-- How a field is written. -/
def itemL (f : FL) : List UInt8 := if f.2 = true then quoteL f.1 else f.1
/-- A field that may not be written as it is. -/
def badF (f : FL) : Bool := !f.2 && !bareS f.1
def joinL (fs : List FL) : List UInt8 := (fs.flatMap fun f => 32 :: itemL f).drop 1
/-- P1.4: the error, and the line. -/
def joiE (fs : List FL) : Int := if longB fs = true then 3 else if fs.any badF = true then 6 else if 8192 < (joinL fs).length then 3 else 0
def joiS (fs : List FL) : List UInt8 := if joiE fs = 0 then joinL fs else []
theorem joi_long {fs : List FL} (h : longB fs = true) : joiE fs = 3 ∧ joiS fs = [] := by
  have : joiE fs = 3 := by unfold joiE; rw [if_pos h]
  exact ⟨this, by unfold joiS; rw [this]; rfl⟩
theorem joi_form {fs : List FL} (h : longB fs = false) (h1 : fs.any badF = true) : joiE fs = 6 ∧ joiS fs = [] := by
  have : joiE fs = 6 := by unfold joiE; rw [if_neg (by simp [h]), if_pos h1]
  exact ⟨this, by unfold joiS; rw [this]; rfl⟩
theorem joi_line {fs : List FL} (h : longB fs = false) (h1 : fs.any badF = false) (h2 : 8192 < (joinL fs).length) : joiE fs = 3 ∧ joiS fs = [] := by
  have : joiE fs = 3 := by unfold joiE; rw [if_neg (by simp [h]), if_neg (by rw [h1]; simp), if_pos h2]
  exact ⟨this, by unfold joiS; rw [this]; rfl⟩
theorem joi_ok {fs : List FL} (h : longB fs = false) (h1 : fs.any badF = false) (h2 : ¬ 8192 < (joinL fs).length) : joiE fs = 0 ∧ joiS fs = joinL fs := by
  have : joiE fs = 0 := by unfold joiE; rw [if_neg (by simp [h]), if_neg (by rw [h1]; simp), if_neg h2]
  exact ⟨this, by unfold joiS; rw [this]; rfl⟩
theorem joinL_snoc (fs : List FL) (f : FL) : joinL (fs ++ [f]) = joinL fs ++ ((if fs = [] then [] else [32]) ++ itemL f) := by
  unfold joinL
  cases fs with
  | nil => simp
  | cons g fs => simp [List.flatMap_cons, List.flatMap_append]
theorem flat4 (l : List UInt8) : (l.flatMap esc).length ≤ 4 * l.length := by
  induction l with
  | nil => simp
  | cons c l ih => have := esc_len c; rw [List.flatMap_cons, List.length_append, List.length_cons]; omega
theorem itemL_len (f : FL) : (itemL f).length ≤ 4 * f.1.length + 2 := by
  unfold itemL
  split
  · have := flat4 f.1
    unfold quoteL; rw [List.length_cons, List.length_append, List.length_cons, List.length_nil]; omega
  · omega
theorem joinL_len {M : Nat} (fs : List FL) (h : ∀ f ∈ fs, f.1.length ≤ M) : (joinL fs).length ≤ fs.length * (4 * M + 3) := by
  have : (fs.flatMap fun f => 32 :: itemL f).length ≤ fs.length * (4 * M + 3) := by
    induction fs with
    | nil => simp
    | cons f fs ih =>
      have h1 := h f (by simp)
      have h2 := ih (fun g hg => h g (by simp [hg]))
      have h3 := itemL_len f
      rw [List.flatMap_cons, List.length_append, List.length_cons, List.length_cons, Nat.succ_mul]
      omega
  unfold joinL; rw [List.length_drop]; omega
theorem bareS_iff {l : List UInt8} : bareS l = true ↔ l ≠ [] ∧ bareN l = l.length := by
  constructor
  · intro h
    unfold bareS at h
    rw [Bool.and_eq_true, List.all_eq_true] at h
    exact ⟨fun e => by simp [e] at h, bareN_of (fun c hc => h.2 c (List.mem_of_mem_take hc)) (Nat.le_refl _) (.inl rfl)⟩
  · rintro ⟨h0, h1⟩
    have := take_bareN l
    rw [h1, List.take_length] at this
    unfold bareS
    rw [Bool.and_eq_true, List.all_eq_true]
    exact ⟨by cases l <;> simp_all, this⟩
theorem longB_parts {fs : List FL} (h : longB fs = false) : fs.length ≤ 64 ∧ ∀ f ∈ fs, f.1.length ≤ 2000 := by
  unfold longB at h
  rw [Bool.or_eq_false_iff, List.any_eq_false] at h
  refine ⟨by have := h.1; simp at this; omega, fun f hf => by have := h.2 f hf; simp at this; omega⟩
theorem any_bad {fs : List FL} {k : Nat} (hk : k < fs.length) (h : badF fs[k] = true) : fs.any badF = true := List.any_eq_true.2 ⟨_, List.getElem_mem hk, h⟩
theorem none_bad {fs : List FL} (h : ∀ j (h : j < fs.length), badF fs[j] = false) : fs.any badF = false := by
  rw [List.any_eq_false]
  intro f hf
  obtain ⟨j, hj, rfl⟩ := List.mem_iff_getElem.1 hf
  rw [h j hj]; simp
end Go.Proofs.YtoknncoolmbklaaDoor
/- Plain lemmas on decimal digits and on bytes joined. -/
namespace Go.Proofs.YtoknncoolmbklaaDoor
set_option linter.unusedVariables false
set_option linter.unusedSimpArgs false
open Go.RowKit

theorem mk_append (a b : List UInt8) : ((⟨a.toArray⟩ : ByteArray) ++ (⟨b.toArray⟩ : ByteArray)) = ⟨(a ++ b).toArray⟩ := by
  apply ByteArray.ext
  rw [ByteArray.data_append]
  simp
theorem itoa_neg {n : Int} (h : n < 0) : Lib.itoa n = 45 :: Lib.itoa (-n) := by
  unfold Lib.itoa
  rw [if_pos h, if_neg (by omega)]
  congr 2; omega
theorem itoa_len {n : Int} (h0 : -9223372036854775808 ≤ n) (h1 : n ≤ 9223372036854775808) : (Lib.itoa n).length ≤ 30 := by
  by_cases h : n = 9223372036854775808
  · subst h
    unfold Lib.itoa
    rw [if_neg (by omega), Lib.decDigits_length]
    have := Lib.nDigits_le20 (9223372036854775808 : Int).toNat (by decide)
    omega
  · have := Lib.itoa_length_le n h0 (by omega)
    omega
theorem decDigits_step {u : Nat} (h : 10 ≤ u) : Lib.decDigits u = Lib.decDigits (u / 10) ++ [UInt8.ofNat (48 + u % 10)] := by
  rw [Lib.decDigits, dif_neg (by omega)]
theorem itoa_step_pos {n : Int} (h : 9 < n) : Lib.itoa n = Lib.itoa (n / 10) ++ [UInt8.ofNat (48 + n % 10).toNat] := by
  unfold Lib.itoa
  rw [if_neg (by omega), if_neg (by omega), decDigits_step (by omega)]
  congr 2
  · congr 1; omega
  · congr 1; omega
theorem itoa_step_neg {n : Int} (h : n < -9) : Lib.itoa n = Lib.itoa (n.tdiv 10) ++ [UInt8.ofNat (48 + -n.tmod 10).toNat] := by
  have e1 : n.tdiv 10 = -((-n) / 10) := by
    rw [← Int.tdiv_eq_ediv_of_nonneg (by omega), Int.neg_tdiv, Int.neg_neg]
  have e2 : -n.tmod 10 = (-n) % 10 := by
    rw [← Int.tmod_eq_emod_of_nonneg (by omega), Int.neg_tmod]
  rw [e2, itoa_neg (by omega), itoa_step_pos (by omega), e1, itoa_neg (n := -(-n / 10)) (by omega), Int.neg_neg]
  rfl
end Go.Proofs.YtoknncoolmbklaaDoor
/- Plain: which decimal form is that of a lesser integer. -/
namespace Go.Proofs.YtoknncoolmbklaaDoor
set_option linter.unusedVariables false
set_option linter.unusedSimpArgs false
open Go.RowKit
/-- A decimal form without a sign is that of a lesser integer. -/
def lessL (l m : List UInt8) : Bool := if l.length = m.length then Op.bytesLess l m else decide (l.length < m.length)
end Go.Proofs.YtoknncoolmbklaaDoor
/- Plain: list expressions, written. -/
namespace Go.Proofs.YtoknncoolmbklaaDoor
set_option linter.unusedVariables false
set_option linter.unusedSimpArgs false
open Go.RowKit

def numB (n : Int) : Bool := decide (0 ≤ n) && decide (n ≤ 1000000000)
def numsB (l : List Int) : Bool := l.all numB
def ascB : List Int → Bool
  | a :: b :: r => decide (a < b) && ascB (b :: r)
  | _ => true
/-- How many integers at the beginning are consecutive. -/
def runLen : List Int → Nat
  | [] => 0
  | a :: r => match r with
    | [] => 1
    | b :: _ => if b = a + 1 then runLen r + 1 else 1
def runTxt (a b : Int) : List UInt8 := Lib.itoa a ++ (if a < b then 45 :: Lib.itoa b else [])
def listF : Nat → List Int → List UInt8
  | 0, _ => []
  | f + 1, l => match l with
    | [] => []
    | a :: r => runTxt a (a + (runLen (a :: r) : Int) - 1) ++ (if (a :: r).drop (runLen (a :: r)) = [] then [] else 44 :: listF f ((a :: r).drop (runLen (a :: r))))
def listC (l : List Int) : List UInt8 := listF (l.length + 1) l
/-- The list expression. -/
def listL (l : List Int) : List UInt8 := if l = [] then [45] else listC l
/-- P1.6: what List returns. -/
def lisE (l : List Int) : Int := if 500 < l.length then 3 else if numsB l = false then 7 else if ascB l = false then 6 else 0
def lisS (l : List Int) : List UInt8 := if lisE l = 0 then listL l else []

theorem runLen_pos {l : List Int} (h : l ≠ []) : 1 ≤ runLen l := by
  cases l with
  | nil => exact absurd rfl h
  | cons a r => cases r with
    | nil => simp [runLen]
    | cons b r => rw [runLen]; split <;> omega
theorem runLen_le (l : List Int) : runLen l ≤ l.length := by
  induction l with
  | nil => simp [runLen]
  | cons a r ih =>
    cases r with
    | nil => simp [runLen]
    | cons b r => rw [runLen]; simp at ih ⊢; split <;> omega
theorem runLen_get : ∀ (l : List Int) (j : Nat) (h : j < runLen l) (hl : j < l.length) (h0 : 0 < l.length), l[j] = l[0] + j := by
  intro l
  induction l with
  | nil => intro j h hl; simp at hl
  | cons a r ih =>
    intro j h hl h0
    cases j with
    | zero => simp
    | succ j =>
      cases r with
      | nil => simp at hl
      | cons b r =>
        rw [runLen] at h
        split at h
        · rename_i hb
          have := ih j (by omega) (by simpa using hl) (by simp)
          simp at this ⊢
          rw [this, hb]; omega
        · omega
/-- Where the run stops. -/
theorem runLen_of {l : List Int} {k : Nat} (h1 : 1 ≤ k) (hk : k ≤ l.length) (hc : ∀ j (h : j + 1 < k) (h' : j + 1 < l.length), l[j + 1] = l[j] + 1) (hs : ∀ h : k < l.length, l[k] ≠ l[k - 1] + 1) : runLen l = k := by
  induction l generalizing k with
  | nil => simp at hk; omega
  | cons a r ih =>
    cases r with
    | nil => simp at hk; simp [runLen]; omega
    | cons b r =>
      rw [runLen]
      by_cases hb : b = a + 1
      · rw [if_pos hb]
        obtain ⟨k', rfl⟩ : ∃ k', k = k' + 1 := ⟨k - 1, by omega⟩
        have hk1 : 1 ≤ k' := by
          rcases Nat.eq_zero_or_pos k' with h | h
          · subst h; exact absurd (by simpa using hb) (hs (by simp))
          · exact h
        rw [ih (k := k') hk1 (by simpa using hk) (fun j h h' => by have := hc (j + 1) (by omega) (by simpa using h'); simpa using this) (fun h => by
          have := hs (by simpa using h)
          obtain ⟨m, rfl⟩ : ∃ m, k' = m + 1 := ⟨k' - 1, by omega⟩
          simpa using this)]
      · rw [if_neg hb]
        rcases Nat.lt_or_ge 1 k with h | h
        · exact absurd (by have := hc 0 (by omega) (by simp); simpa using this) hb
        · omega
theorem ascB_iff {l : List Int} : ascB l = true ↔ ∀ j (h : j + 1 < l.length), l[j] < l[j + 1] := by
  induction l with
  | nil => simp [ascB]
  | cons a r ih =>
    cases r with
    | nil => simp [ascB]
    | cons b r =>
      rw [ascB, Bool.and_eq_true, ih, decide_eq_true_iff]
      constructor
      · rintro ⟨h1, h2⟩ j h
        cases j with
        | zero => simpa using h1
        | succ j => have := h2 j (by simpa using h); simpa using this
      · intro h
        exact ⟨by have := h 0 (by simp); simpa using this, fun j hj => by have := h (j + 1) (by simpa using hj); simpa using this⟩

theorem listF_fuel : ∀ (f g : Nat) (l : List Int), l.length < f → l.length < g → listF f l = listF g l := by
  intro f
  induction f with
  | zero => intro g l h; omega
  | succ f ih =>
    intro g l hf hg
    cases g with
    | zero => omega
    | succ g =>
      cases l with
      | nil => rfl
      | cons a r =>
        have hp := runLen_pos (l := a :: r) (by simp)
        rw [listF, listF, ih g _ (by rw [List.length_drop]; simp at *; omega) (by rw [List.length_drop]; simp at *; omega)]
theorem listC_step {a : Int} {r : List Int} : listC (a :: r) = runTxt a (a + (runLen (a :: r) : Int) - 1) ++ (if (a :: r).drop (runLen (a :: r)) = [] then [] else 44 :: listC ((a :: r).drop (runLen (a :: r)))) := by
  have hp := runLen_pos (l := a :: r) (by simp)
  unfold listC
  rw [listF, listF_fuel _ (((a :: r).drop (runLen (a :: r))).length + 1) _ (by rw [List.length_drop]; simp at *; omega) (by omega)]
end Go.Proofs.YtoknncoolmbklaaDoor
/- Plain: list expressions, read. -/
namespace Go.Proofs.YtoknncoolmbklaaDoor
set_option linter.unusedVariables false
set_option linter.unusedSimpArgs false
open Go.RowKit

/-- The parts of a string between the bytes c; cur: what has been read of the first one. -/
def partsC (c : UInt8) : List UInt8 → List UInt8 → List (List UInt8)
  | cur, [] => [cur]
  | cur, x :: r => if x = c then cur :: partsC c [] r else partsC c (cur ++ [x]) r
def partsL (c : UInt8) (l : List UInt8) : List (List UInt8) := partsC c [] l
/-- A run as it is read: its ends, and whether it is one. -/
def runF (l : List UInt8) : List UInt8 × List UInt8 × Bool :=
  if (Lib.cut l [45]).2.2 = true then ((Lib.cut l [45]).1, (Lib.cut l [45]).2.1, natL (Lib.cut l [45]).1 && natL (Lib.cut l [45]).2.1 && lessL (Lib.cut l [45]).1 (Lib.cut l [45]).2.1) else (l, l, natL l)
/-- The next decimal form, from the last digit on. -/
def nextR : List UInt8 → List UInt8
  | [] => [49]
  | c :: r => if c = 57 then 48 :: nextR r else (c + 1) :: r
def nextL (l : List UInt8) : List UInt8 := (nextR l.reverse).reverse
abbrev RN := List UInt8 × List UInt8
def runOf (p : List UInt8) : RN := ((runF p).1, (runF p).2.1)
def okRun (acc : List RN) (p : List UInt8) : Bool := (runF p).2.2 && (match acc.getLast? with | none => true | some r => lessL (nextL r.2) (runF p).1)
def runsG : List RN → List (List UInt8) → Option (List RN)
  | acc, [] => some acc
  | acc, p :: ps => if okRun acc p = true then runsG (acc ++ [runOf p]) ps else none
def runsL (l : List UInt8) : Option (List RN) := runsG [] (partsL 44 l)
def numV (l : List UInt8) : Int := intV l 0 1000000000
def spanL (a b : Int) : List Int := (List.range (b - a + 1).toNat).map fun i : Nat => a + (i : Int)
def fillG : List Int → List RN → Option (List Int)
  | acc, [] => some acc
  | acc, r :: rs => if 500 ≤ numV r.2 - numV r.1 + acc.length then none else fillG (acc ++ spanL (numV r.1) (numV r.2)) rs
def lastR (rs : List RN) : List UInt8 := match rs.getLast? with | some r => r.2 | none => []
/-- P1.6: what ParseList returns. -/
def parE (l : List UInt8) : Int := if l = [45] then 0 else match runsL l with
  | none => 6
  | some rs => if intE (lastR rs) 0 1000000000 ≠ 0 then 7 else match fillG [] rs with
    | none => 3
    | some _ => 0
def parV (l : List UInt8) : List Int := if l = [45] then [] else match runsL l with
  | none => []
  | some rs => if intE (lastR rs) 0 1000000000 ≠ 0 then [] else match fillG [] rs with
    | none => []
    | some zs => zs

theorem natL_digits {l : List UInt8} (h : natL l = true) : ∀ c ∈ l, 48 ≤ c.toNat ∧ c.toNat ≤ 57 := fun c hc => digB_iff.1 ((natL_iff.1 h).2.2 c hc)
theorem numV_range (l : List UInt8) : 0 ≤ numV l ∧ numV l ≤ 1000000000 := by
  unfold numV intV; split
  · rename_i h; exact h.2.2
  · omega
theorem cut_len (l sep : List UInt8) : (Lib.cut l sep).1.length ≤ l.length ∧ (Lib.cut l sep).2.1.length ≤ l.length := by
  unfold Lib.cut; split
  · exact ⟨by simp; omega, by simp⟩
  · simp
theorem runF_len (l : List UInt8) : (runF l).1.length ≤ l.length ∧ (runF l).2.1.length ≤ l.length := by
  unfold runF; split
  · exact cut_len l [45]
  · exact ⟨Nat.le_refl _, Nat.le_refl _⟩
theorem runF_digits {l : List UInt8} (h : (runF l).2.2 = true) : natL (runF l).1 = true ∧ natL (runF l).2.1 = true := by
  unfold runF at *; split
  · rename_i hc; rw [if_pos hc] at h; simp only [Bool.and_eq_true] at h; exact ⟨h.1.1, h.1.2⟩
  · rename_i hc; rw [if_neg hc] at h; exact ⟨h, h⟩

/-- All nines so far, from the end. -/
theorem nextR_step (l : List UInt8) (i : Nat) (hi : i < l.length) : nextR (l.take (i + 1)).reverse = if l[i] = 57 then 48 :: nextR (l.take i).reverse else (l[i] + 1) :: (l.take i).reverse := by
  rw [List.take_succ_eq_append_getElem hi, List.reverse_append]; rfl
def Nines (l : List UInt8) (i : Nat) : Prop := i ≤ l.length ∧ nextL l = (nextR (l.take i).reverse).reverse ++ List.replicate (l.length - i) 48 ∧ ∀ j (h : j < l.length), i ≤ j → l[j] = 57
theorem nines_start (l : List UInt8) : Nines l l.length := by
  refine ⟨Nat.le_refl _, ?_, fun j h hj => absurd h (by omega)⟩
  unfold nextL; simp
theorem nines_step {l : List UInt8} {i : Nat} (h : Nines l (i + 1)) (hc : l[i]'(by have := h.1; omega) = 57) : Nines l i := by
  obtain ⟨h1, h2, h3⟩ := h
  refine ⟨by omega, ?_, fun j hj hij => ?_⟩
  · have := nextR_step l i (by omega)
    rw [if_pos hc] at this
    refine h2.trans ?_
    rw [this, List.reverse_cons, List.append_assoc]
    congr 1
    rw [show l.length - i = (l.length - (i + 1)) + 1 by omega, List.replicate_succ]; rfl
  · by_cases hji : j = i
    · subst hji; exact hc
    · exact h3 j hj (by omega)
theorem nines_end {l : List UInt8} {i : Nat} (h : Nines l (i + 1)) (hc : l[i]'(by have := h.1; omega) ≠ 57) : nextL l = l.take i ++ ([l[i]'(by have := h.1; omega) + 1] ++ List.replicate (l.length - (i + 1)) 48) := by
  obtain ⟨h1, h2, h3⟩ := h
  refine h2.trans ?_
  have := nextR_step l i (by omega)
  rw [if_neg hc] at this
  have e := congrArg (fun z : List UInt8 => z.reverse ++ List.replicate (l.length - (i + 1)) 48) this
  refine e.trans ?_
  simp
theorem nines_all {l : List UInt8} (h : Nines l 0) : nextL l = 49 :: List.replicate l.length 48 := by
  rw [h.2.1]; simp [nextR]
theorem nextL_len (l : List UInt8) : (nextL l).length ≤ l.length + 1 := by
  have : ∀ m : List UInt8, (nextR m).length ≤ m.length + 1 := by
    intro m
    induction m with
    | nil => simp [nextR]
    | cons c r ih => unfold nextR; split <;> simp at * <;> omega
  have := this l.reverse
  unfold nextL; simpa using this
end Go.Proofs.YtoknncoolmbklaaDoor
/- Plain: the order of decimal forms is that of their values. -/
namespace Go.Proofs.YtoknncoolmbklaaDoor
set_option linter.unusedVariables false
set_option linter.unusedSimpArgs false
open Go.RowKit
def Digs (l : List UInt8) : Prop := ∀ c ∈ l, 48 ≤ c.toNat ∧ c.toNat ≤ 57
theorem digs_cons {c : UInt8} {l : List UInt8} (h : Digs (c :: l)) : (48 ≤ c.toNat ∧ c.toNat ≤ 57) ∧ Digs l := by
  unfold Digs at h ⊢
  constructor
  · exact h c List.mem_cons_self
  · intro x hx; exact h x (List.mem_cons_of_mem _ hx)
theorem decVal_cons (acc : Nat) (c : UInt8) (l : List UInt8) : decVal acc (c :: l) = decVal (acc * 10 + (c.toNat - 48)) l := by unfold decVal; rw [List.foldl_cons]
theorem decVal_lt (l : List UInt8) : ∀ acc, Digs l → decVal acc l < (acc + 1) * 10 ^ l.length := by
  induction l with
  | nil => intro acc _; simp [decVal]
  | cons c l ih =>
    intro acc h
    obtain ⟨hc, hl⟩ := digs_cons h
    rw [decVal_cons, List.length_cons, Nat.pow_succ]
    have := ih (acc * 10 + (c.toNat - 48)) hl
    have h2 : (acc * 10 + (c.toNat - 48) + 1) * 10 ^ l.length ≤ ((acc + 1) * 10) * 10 ^ l.length := Nat.mul_le_mul_right _ (by omega)
    rw [show (acc + 1) * (10 ^ l.length * 10) = ((acc + 1) * 10) * 10 ^ l.length by rw [Nat.mul_assoc, Nat.mul_comm 10 (10 ^ l.length)]]
    omega
theorem decVal_ge (l : List UInt8) : ∀ acc, acc * 10 ^ l.length ≤ decVal acc l := by
  induction l with
  | nil => intro acc; simp [decVal]
  | cons c l ih =>
    intro acc
    rw [decVal_cons, List.length_cons, Nat.pow_succ]
    have := ih (acc * 10 + (c.toNat - 48))
    have h2 : (acc * 10) * 10 ^ l.length ≤ (acc * 10 + (c.toNat - 48)) * 10 ^ l.length := Nat.mul_le_mul_right _ (by omega)
    rw [show acc * (10 ^ l.length * 10) = (acc * 10) * 10 ^ l.length by rw [Nat.mul_assoc, Nat.mul_comm 10 (10 ^ l.length)]]
    omega
theorem decVal_step (a b : List UInt8) (hl : a.length = b.length) (x y : Nat) (hxy : x < y) (ha : Digs a) : decVal x a < decVal y b := by
  have h1 := decVal_lt a x ha
  have h2 := decVal_ge b y
  have h3 : (x + 1) * 10 ^ a.length ≤ y * 10 ^ b.length := by rw [hl]; exact Nat.mul_le_mul_right _ hxy
  omega
theorem bytesLess_val : ∀ (a b : List UInt8), a.length = b.length → Digs a → Digs b → ∀ acc, Op.bytesLess a b = decide (decVal acc a < decVal acc b) := by
  intro a
  induction a with
  | nil =>
    intro b hl _ _ acc
    cases b with
    | nil => simp [Op.bytesLess]
    | cons y b => simp at hl
  | cons x a ih =>
    intro b hl ha hb acc
    cases b with
    | nil => simp at hl
    | cons y b =>
      obtain ⟨hx, ha'⟩ := digs_cons ha
      obtain ⟨hy, hb'⟩ := digs_cons hb
      have hl' : a.length = b.length := by simpa using hl
      rw [decVal_cons, decVal_cons]
      show (decide (x < y) || (x == y && Op.bytesLess a b)) = _
      by_cases h1 : x < y
      · have hn : x.toNat < y.toNat := UInt8.lt_iff_toNat_lt.1 h1
        have := decVal_step a b hl' (acc * 10 + (x.toNat - 48)) (acc * 10 + (y.toNat - 48)) (by omega) ha'
        rw [decide_eq_true h1, decide_eq_true this]; rfl
      · by_cases h2 : x = y
        · subst h2
          rw [decide_eq_false h1, ih b hl' ha' hb' (acc * 10 + (x.toNat - 48))]
          simp
        · have hn : y.toNat < x.toNat := by
            have h3 : ¬ x.toNat < y.toNat := fun h => h1 (UInt8.lt_iff_toNat_lt.2 h)
            have h4 : x.toNat ≠ y.toNat := fun h => h2 (UInt8.toNat_inj.1 h)
            omega
          have := decVal_step b a hl'.symm (acc * 10 + (y.toNat - 48)) (acc * 10 + (x.toNat - 48)) (by omega) hb'
          rw [decide_eq_false h1, decide_eq_false (by omega)]
          simp [h2]
theorem natL_pow {l : List UInt8} (h : natL l = true) (h2 : 2 ≤ l.length) : 10 ^ (l.length - 1) ≤ decVal 0 l := by
  obtain ⟨h0, h1, h3⟩ := natL_iff.1 h
  cases l with
  | nil => simp at h2
  | cons c r =>
    have hc : c ≠ 48 := fun e => h1 ⟨by simp [e], by simp at h2 ⊢; omega⟩
    have hd := (natL_digits h) c List.mem_cons_self
    have hn : c.toNat ≠ 48 := fun e => hc (UInt8.toNat_inj.1 e)
    rw [decVal_cons, List.length_cons, Nat.add_sub_cancel]
    have := decVal_ge r (0 * 10 + (c.toNat - 48))
    have h4 : 1 * 10 ^ r.length ≤ (0 * 10 + (c.toNat - 48)) * 10 ^ r.length := Nat.mul_le_mul_right _ (by omega)
    omega
/-- less compares values. -/
theorem lessL_val {a b : List UInt8} (ha : natL a = true) (hb : natL b = true) : lessL a b = decide (decVal 0 a < decVal 0 b) := by
  have da : Digs a := natL_digits ha
  have db : Digs b := natL_digits hb
  have pa : 0 < a.length := List.length_pos_iff.2 (natL_iff.1 ha).1
  have pb : 0 < b.length := List.length_pos_iff.2 (natL_iff.1 hb).1
  unfold lessL
  by_cases hl : a.length = b.length
  · rw [if_pos hl]; exact bytesLess_val a b hl da db 0
  · rw [if_neg hl]
    have va := decVal_lt a 0 da
    have vb := decVal_lt b 0 db
    rw [Nat.zero_add, Nat.one_mul] at va vb
    by_cases hlt : a.length < b.length
    · have hp := natL_pow hb (by omega)
      have hm : 10 ^ a.length ≤ 10 ^ (b.length - 1) := Nat.pow_le_pow_right (by omega) (by omega)
      rw [decide_eq_true hlt, decide_eq_true (by omega)]
    · have hp := natL_pow ha (by omega)
      have hm : 10 ^ b.length ≤ 10 ^ (a.length - 1) := Nat.pow_le_pow_right (by omega) (by omega)
      rw [decide_eq_false hlt, decide_eq_false (by omega)]
def maxTxt : List UInt8 := [49, 48, 48, 48, 48, 48, 48, 48, 48, 48]
theorem maxTxt_nat : natL maxTxt = true ∧ decVal 0 maxTxt = 1000000000 ∧ Lib.itoa 1000000000 = maxTxt := by
  refine ⟨by decide, by decide, ?_⟩
  have e0 : Lib.itoa 1 = [49] := by
    unfold Lib.itoa; rw [if_neg (by decide), show (1 : Int).toNat = 1 from rfl, Lib.decDigits_one (by decide)]; rfl
  have e1 : Lib.itoa 10 = [49, 48] := by
    rw [itoa_step_pos (by decide), show (10 : Int) / 10 = 1 by decide, e0]; rfl
  have e2 : Lib.itoa 100 = [49, 48, 48] := by
    rw [itoa_step_pos (by decide), show (100 : Int) / 10 = 10 by decide, e1]; rfl
  have e3 : Lib.itoa 1000 = [49, 48, 48, 48] := by
    rw [itoa_step_pos (by decide), show (1000 : Int) / 10 = 100 by decide, e2]; rfl
  have e4 : Lib.itoa 10000 = [49, 48, 48, 48, 48] := by
    rw [itoa_step_pos (by decide), show (10000 : Int) / 10 = 1000 by decide, e3]; rfl
  have e5 : Lib.itoa 100000 = [49, 48, 48, 48, 48, 48] := by
    rw [itoa_step_pos (by decide), show (100000 : Int) / 10 = 10000 by decide, e4]; rfl
  have e6 : Lib.itoa 1000000 = [49, 48, 48, 48, 48, 48, 48] := by
    rw [itoa_step_pos (by decide), show (1000000 : Int) / 10 = 100000 by decide, e5]; rfl
  have e7 : Lib.itoa 10000000 = [49, 48, 48, 48, 48, 48, 48, 48] := by
    rw [itoa_step_pos (by decide), show (10000000 : Int) / 10 = 1000000 by decide, e6]; rfl
  have e8 : Lib.itoa 100000000 = [49, 48, 48, 48, 48, 48, 48, 48, 48] := by
    rw [itoa_step_pos (by decide), show (100000000 : Int) / 10 = 10000000 by decide, e7]; rfl
  have e9 : Lib.itoa 1000000000 = [49, 48, 48, 48, 48, 48, 48, 48, 48, 48] := by
    rw [itoa_step_pos (by decide), show (1000000000 : Int) / 10 = 100000000 by decide, e8]; rfl
  exact e9
/-- The greatest number that a list may have, asked of the text. -/
theorem range_text {l : List UInt8} (h : natL l = true) : lessL maxTxt l = true ↔ intE l 0 1000000000 ≠ 0 := by
  rw [lessL_val maxTxt_nat.1 h, maxTxt_nat.2.1, decide_eq_true_iff]
  have hh : l.head? ≠ some 45 := by
    cases l with
    | nil => simp
    | cons a r =>
      have := natL_digits h a List.mem_cons_self
      intro e; simp at e; rw [e] at this; simp at this
  have hd : decL l = true := by unfold decL; rw [if_neg hh]; exact h
  have hi : decInt l = (decVal 0 l : Int) := by unfold decInt; rw [if_neg hh]
  unfold intE inI64
  rw [if_pos hd, hi]
  constructor
  · intro h1; rw [if_neg (by omega)]; simp
  · intro h1
    by_cases hx : 1000000000 < decVal 0 l
    · exact hx
    · rw [if_pos (by omega)] at h1; exact absurd rfl h1
end Go.Proofs.YtoknncoolmbklaaDoor
/- Plain: the parts of a string, as the library's Split cuts them. -/
namespace Go.Proofs.YtoknncoolmbklaaDoor
set_option linter.unusedVariables false
set_option linter.unusedSimpArgs false
open Go.RowKit
theorem partsC_miss (c : UInt8) (l : List UInt8) : ∀ cur, Lib.indexByte l c = -1 → partsC c cur l = [cur ++ l] := by
  induction l with
  | nil => intro cur _; simp [partsC]
  | cons a r ih =>
    intro cur h
    unfold Lib.indexByte at h
    by_cases ha : (a == c) = true
    · rw [if_pos ha] at h; simp at h
    · rw [if_neg ha] at h
      have hn : (Lib.indexByte r c == -1) = true := by
        by_cases hb : (Lib.indexByte r c == -1) = true
        · exact hb
        · rw [if_neg hb] at h
          have := Lib.indexByte_ge r c
          omega
      rw [beq_iff_eq] at ha hn
      unfold partsC
      rw [if_neg ha, ih _ hn]; simp
theorem partsC_cut (c : UInt8) (l : List UInt8) : ∀ cur, 0 ≤ Lib.indexByte l c → partsC c cur l = (cur ++ l.take (Lib.indexByte l c).toNat) :: partsL c (l.drop ((Lib.indexByte l c).toNat + 1)) := by
  induction l with
  | nil => intro cur h; simp [Lib.indexByte] at h
  | cons a r ih =>
    intro cur h
    unfold Lib.indexByte at h ⊢
    by_cases ha : (a == c) = true
    · rw [if_pos ha] at h ⊢
      rw [beq_iff_eq] at ha
      subst ha
      unfold partsC; rw [if_pos rfl]; simp [partsL]
    · rw [if_neg ha] at h ⊢
      have hn : ¬ (Lib.indexByte r c == -1) = true := by
        intro h'; rw [if_pos h'] at h; simp at h
      rw [if_neg hn] at h ⊢
      rw [beq_iff_eq] at ha hn
      have hg := Lib.indexByte_ge r c
      have h0 : 0 ≤ Lib.indexByte r c := by omega
      obtain ⟨n, hnn⟩ : ∃ n : Nat, Lib.indexByte r c = n := ⟨(Lib.indexByte r c).toNat, by omega⟩
      unfold partsC
      rw [if_neg ha, ih _ h0, hnn]
      have e : ((n : Int) + 1).toNat = n + 1 := by omega
      rw [e]
      simp
theorem indexB_one (s : ByteArray) (c : UInt8) : Lib.indexB s ⟨#[c]⟩ = Lib.indexByte s.data.toList c := Lib.index_one s.data.toList c
theorem splitB_parts (c : UInt8) : ∀ (k : Nat) (s : ByteArray), Lib.countB s ⟨#[c]⟩ = k → Lib.splitB ⟨#[c]⟩ 0 k s = (partsL c s.data.toList).map fun l => ⟨l.toArray⟩ := by
  intro k
  induction k with
  | zero =>
    intro s h
    have hi : Lib.indexByte s.data.toList c = -1 := by
      have hg := Lib.indexByte_ge s.data.toList c
      by_cases h0 : Lib.indexByte s.data.toList c = -1
      · exact h0
      · have := Lib.countB_hit s ⟨#[c]⟩ (Lib.indexByte s.data.toList c).toNat (Nat.le_refl _) (by rw [indexB_one]; omega)
        omega
    unfold partsL
    rw [partsC_miss c _ _ hi]; simp [Lib.splitB]
  | succ k ih =>
    intro s h
    have hg := Lib.indexByte_ge s.data.toList c
    have h0 : 0 ≤ Lib.indexByte s.data.toList c := by
      by_cases h1 : Lib.indexByte s.data.toList c = -1
      · have := Lib.countB_miss s ⟨#[c]⟩ (by rw [indexB_one]; exact h1)
        omega
      · omega
    obtain ⟨n, hn⟩ : ∃ n : Nat, Lib.indexByte s.data.toList c = n := ⟨(Lib.indexByte s.data.toList c).toNat, by omega⟩
    have hc := Lib.countB_hit s ⟨#[c]⟩ n (Nat.le_refl _) (by rw [indexB_one]; exact hn)
    unfold Lib.splitB partsL
    rw [partsC_cut c _ _ h0, indexB_one, hn, if_neg (by simp)]
    have e1 : ((n : Int)).toNat = n := by omega
    have e2 : (⟨#[c]⟩ : ByteArray).size = 1 := rfl
    rw [e1, e2, ih _ (by rw [e2] at hc; omega), List.map_cons]
    congr 1
    · simp only [List.nil_append, Nat.add_zero]
      rw [show s.data.toList.take n = (s.extract 0 n).data.toList by rw [Lib.extract_data]; simp]
    · rw [Lib.extract_data, List.take_of_length_le (by simp)]
theorem partsC_pos (c : UInt8) (l : List UInt8) : ∀ cur, partsC c cur l ≠ [] := by
  induction l with
  | nil => intro cur; simp [partsC]
  | cons a r ih => intro cur; unfold partsC; split <;> simp [ih]
theorem parts_len (c : UInt8) (l : List UInt8) : ∀ cur, (partsC c cur l).length ≤ l.length + 1 := by
  induction l with
  | nil => intro cur; simp [partsC]
  | cons a r ih =>
    intro cur; unfold partsC; split
    · have := ih []; simp; omega
    · have := ih (cur ++ [a]); simp; omega
theorem parts_each (c : UInt8) (l : List UInt8) : ∀ cur, ∀ p ∈ partsC c cur l, p.length ≤ cur.length + l.length := by
  induction l with
  | nil => intro cur p hp; simp [partsC] at hp; simp [hp]
  | cons a r ih =>
    intro cur p hp
    unfold partsC at hp
    split at hp
    · rcases List.mem_cons.1 hp with rfl | hp
      · omega
      · have := ih [] p hp; simp at *; omega
    · have := ih _ p hp; simp at *; omega
theorem partsC_count (c : UInt8) (l : List UInt8) : ∀ cur, (partsC c cur l).length = l.count c + 1 := by
  induction l with
  | nil => intro cur; simp [partsC]
  | cons a r ih =>
    intro cur; unfold partsC
    by_cases h : a = c
    · subst h; rw [if_pos rfl, List.length_cons, ih, List.count_cons_self]
    · rw [if_neg h, ih, List.count_cons_of_ne (by simpa using h)]
theorem countB_parts (c : UInt8) (s : ByteArray) : Lib.countB s ⟨#[c]⟩ + 1 = (partsL c s.data.toList).length := by
  unfold partsL
  rw [partsC_count]
  have := Lib.count_one c s.data.toList
  show Lib.count s.data.toList [c] + 1 = _
  rw [this]
end Go.Proofs.YtoknncoolmbklaaDoor
/- Plain: the parts of a run between hyphens, as the reference reads them. -/
namespace Go.Proofs.YtoknncoolmbklaaDoor
set_option linter.unusedVariables false
set_option linter.unusedSimpArgs false
open Go.RowKit
/-- What the reference asks of the ends of a run. -/
def refOk (es : List (List UInt8)) : Bool := match es with
  | [e0] => decL e0
  | [e0, e1] => decL e0 && (decL e1 && lessL e0 e1)
  | _ => false
theorem decL_plain {l : List UInt8} (h : l.head? ≠ some 45) : decL l = natL l := by unfold decL; rw [if_neg h]
theorem idx_take (l : List UInt8) (c : UInt8) : 0 ≤ Lib.indexByte l c → ∀ x ∈ l.take (Lib.indexByte l c).toNat, x ≠ c := by
  induction l with
  | nil => intro h; simp
  | cons a r ih =>
    intro h x hx
    unfold Lib.indexByte at h hx
    by_cases ha : (a == c) = true
    · rw [if_pos ha] at hx; simp at hx
    · rw [if_neg ha] at h hx
      have hn : ¬ (Lib.indexByte r c == -1) = true := by
        intro h'; rw [if_pos h'] at h; simp at h
      rw [if_neg hn] at hx h
      have hg := Lib.indexByte_ge r c
      rw [beq_iff_eq] at hn ha
      have h0 : 0 ≤ Lib.indexByte r c := by omega
      rw [show (Lib.indexByte r c + 1).toNat = (Lib.indexByte r c).toNat + 1 by omega, List.take_succ_cons] at hx
      rcases List.mem_cons.1 hx with rfl | hx
      · exact ha
      · exact ih h0 x hx
theorem idx_none (l : List UInt8) (c : UInt8) : Lib.indexByte l c = -1 → ∀ x ∈ l, x ≠ c := by
  induction l with
  | nil => intro h; simp
  | cons a r ih =>
    intro h x hx
    unfold Lib.indexByte at h
    by_cases ha : (a == c) = true
    · rw [if_pos ha] at h; simp at h
    · rw [if_neg ha] at h
      have hn : Lib.indexByte r c = -1 := by
        have hg := Lib.indexByte_ge r c
        by_cases hb : (Lib.indexByte r c == -1) = true
        · exact beq_iff_eq.1 hb
        · rw [if_neg hb] at h; omega
      rw [beq_iff_eq] at ha
      rcases List.mem_cons.1 hx with rfl | hx
      · exact ha
      · exact ih hn x hx
theorem head_ne {l : List UInt8} (h : ∀ x ∈ l, x ≠ 45) : l.head? ≠ some 45 := by
  cases l with
  | nil => simp
  | cons a r => simp; exact h a (by simp)
theorem idx_get (l : List UInt8) (c : UInt8) : 0 ≤ Lib.indexByte l c → c ∈ l := by
  induction l with
  | nil => intro h; simp [Lib.indexByte] at h
  | cons a r ih =>
    intro h
    unfold Lib.indexByte at h
    by_cases ha : (a == c) = true
    · rw [beq_iff_eq] at ha; simp [ha]
    · rw [if_neg ha] at h
      have hn : ¬ (Lib.indexByte r c == -1) = true := by
        intro h'; rw [if_pos h'] at h; simp at h
      have hg := Lib.indexByte_ge r c
      rw [beq_iff_eq] at hn
      exact List.mem_cons_of_mem _ (ih (by omega))
theorem natL_dash {l : List UInt8} (h : (45 : UInt8) ∈ l) : natL l = false := by
  cases hb : natL l with
  | false => rfl
  | true => have := natL_digits hb 45 h; simp at this
/-- A run is one for the package exactly if it is one for the reference; its ends are the first and the last part. -/
theorem runF_parts (p : List UInt8) : (runF p).2.2 = refOk (partsL 45 p) ∧ ((runF p).2.2 = true → (partsL 45 p).head? = some (runF p).1 ∧ (partsL 45 p).getLast? = some (runF p).2.1) := by
  by_cases h0 : 0 ≤ Lib.indexByte p 45
  · have hc : Lib.cut p [45] = (p.take (Lib.indexByte p 45).toNat, p.drop ((Lib.indexByte p 45).toNat + 1), true) := by
      unfold Lib.cut; rw [Lib.index_one, if_pos h0]; rfl
    have hp := partsC_cut 45 p [] h0
    obtain ⟨a, ha⟩ : ∃ a, p.take (Lib.indexByte p 45).toNat = a := ⟨_, rfl⟩
    obtain ⟨b, hb⟩ : ∃ b, p.drop ((Lib.indexByte p 45).toNat + 1) = b := ⟨_, rfl⟩
    have hda : decL a = natL a := decL_plain (head_ne (by rw [← ha]; exact idx_take p 45 h0))
    rw [ha, hb] at hc hp
    rw [List.nil_append] at hp
    have hr : runF p = (a, b, natL a && natL b && lessL a b) := by unfold runF; rw [hc]; rfl
    have hpp : partsL 45 p = a :: partsL 45 b := hp
    rw [hr, hpp]
    by_cases h1 : Lib.indexByte b 45 = -1
    · have hb1 : partsL 45 b = [b] := by unfold partsL; rw [partsC_miss 45 b [] h1]; rfl
      have hdb : decL b = natL b := decL_plain (head_ne (idx_none b 45 h1))
      rw [hb1]
      refine ⟨?_, fun _ => ⟨rfl, rfl⟩⟩
      show (natL a && natL b && lessL a b) = (decL a && (decL b && lessL a b))
      rw [hda, hdb, Bool.and_assoc]
    · have hg := Lib.indexByte_ge b 45
      have h2 : 0 ≤ Lib.indexByte b 45 := by omega
      have hb2 := partsC_cut 45 b [] h2
      have hnb : natL b = false := natL_dash (idx_get b 45 h2)
      have hb3 : partsL 45 b = _ :: _ := hb2
      rw [hb3]
      have hne := partsC_pos 45 (b.drop ((Lib.indexByte b 45).toNat + 1)) []
      refine ⟨?_, fun h => ?_⟩
      · show (natL a && natL b && lessL a b) = _
        rw [hnb, Bool.and_false, Bool.false_and]
        unfold partsL
        cases hx : partsC 45 [] (b.drop ((Lib.indexByte b 45).toNat + 1)) with
        | nil => exact absurd hx hne
        | cons y ys => rfl
      · have : (natL a && natL b && lessL a b) = true := h
        rw [hnb] at this; simp at this
  · have hg := Lib.indexByte_ge p 45
    have h1 : Lib.indexByte p 45 = -1 := by omega
    have hc : Lib.cut p [45] = (p, [], false) := by unfold Lib.cut; rw [Lib.index_one, if_neg h0]
    have hr : runF p = (p, p, natL p) := by unfold runF; rw [hc]; rfl
    have hpp : partsL 45 p = [p] := by unfold partsL; rw [partsC_miss 45 p [] h1]; rfl
    rw [hr, hpp]
    exact ⟨(decL_plain (head_ne (idx_none p 45 h1))).symm, fun _ => ⟨rfl, rfl⟩⟩
end Go.Proofs.YtoknncoolmbklaaDoor
/- Plain: the lines of a text. -/
namespace Go.Proofs.YtoknncoolmbklaaDoor
set_option linter.unusedVariables false
set_option linter.unusedSimpArgs false
open Go.RowKit

/-- The lines that end in what is left; cur: what has been read of the first one. -/
def linesC : List UInt8 → List UInt8 → List (List UInt8)
  | _, [] => []
  | cur, c :: r => if c = 10 then cur :: linesC [] r else linesC (cur ++ [c]) r
def linesL (l : List UInt8) : List (List UInt8) := linesC [] l
/-- P1.5: the error, and the lines. -/
def linE (l : List UInt8) : Int := if 1048576 < l.length then 3 else if l ≠ [] ∧ l.getLast? ≠ some 10 then 6 else if 5000 < (linesL l).length then 3 else 0
def linF (l : List UInt8) : List (List UInt8) := if linE l = 0 then linesL l else []
theorem lin_long {l : List UInt8} (h : 1048576 < l.length) : linE l = 3 ∧ linF l = [] := by
  have : linE l = 3 := by unfold linE; rw [if_pos h]
  exact ⟨this, by unfold linF; rw [this]; rfl⟩
theorem lin_form {l : List UInt8} (h : ¬ 1048576 < l.length) (h1 : l ≠ [] ∧ l.getLast? ≠ some 10) : linE l = 6 ∧ linF l = [] := by
  have : linE l = 6 := by unfold linE; rw [if_neg h, if_pos h1]
  exact ⟨this, by unfold linF; rw [this]; rfl⟩
theorem lin_many {l : List UInt8} (h : ¬ 1048576 < l.length) (h1 : ¬ (l ≠ [] ∧ l.getLast? ≠ some 10)) (h2 : 5000 < (linesL l).length) : linE l = 3 ∧ linF l = [] := by
  have : linE l = 3 := by unfold linE; rw [if_neg h, if_neg h1, if_pos h2]
  exact ⟨this, by unfold linF; rw [this]; rfl⟩
theorem lin_ok {l : List UInt8} (h : ¬ 1048576 < l.length) (h1 : ¬ (l ≠ [] ∧ l.getLast? ≠ some 10)) (h2 : ¬ 5000 < (linesL l).length) : linE l = 0 ∧ linF l = linesL l := by
  have : linE l = 0 := by unfold linE; rw [if_neg h, if_neg h1, if_neg h2]
  exact ⟨this, by unfold linF; rw [this]; rfl⟩

theorem linesC_len (l : List UInt8) : ∀ cur, (linesC cur l).length = Lib.countByte l 10 := by
  unfold Lib.countByte
  induction l with
  | nil => intro cur; rfl
  | cons c r ih =>
    intro cur
    unfold linesC
    by_cases h : c = 10
    · subst h; rw [if_pos rfl, List.length_cons, ih, List.count_cons_self]
    · rw [if_neg h, ih, List.count_cons_of_ne (by simpa using h)]
theorem linesL_len (l : List UInt8) : (linesL l).length = Lib.countByte l 10 := linesC_len l []
theorem linesL_le (l : List UInt8) : (linesL l).length ≤ l.length := by rw [linesL_len]; exact List.count_le_length
theorem suffix_last (l : List UInt8) : Lib.hasSuffix l [10] = decide (l.getLast? = some 10) := by
  unfold Lib.hasSuffix
  rw [Bool.eq_iff_iff, decide_eq_true_iff, List.isSuffixOf_iff_suffix]
  constructor
  · rintro ⟨t, rfl⟩; simp
  · intro h
    obtain ⟨ys, rfl⟩ := List.getLast?_eq_some_iff.1 h
    exact ⟨ys, rfl⟩

theorem idx_nonneg (l : List UInt8) : l.getLast? = some 10 → 0 ≤ Lib.indexByte l 10 ∧ (Lib.indexByte l 10).toNat < l.length := by
  induction l with
  | nil => simp
  | cons a r ih =>
    intro h
    unfold Lib.indexByte
    by_cases ha : (a == 10) = true
    · rw [if_pos ha]; simp
    · rw [if_neg ha]
      cases r with
      | nil => simp at h ha; exact absurd h ha
      | cons b r =>
        have := ih (by simpa using h)
        rw [if_neg (by simp; omega)]
        rw [List.length_cons]
        omega
/-- The first line is cut off. -/
theorem linesC_cut (l : List UInt8) : ∀ cur, 0 ≤ Lib.indexByte l 10 → linesC cur l = (cur ++ l.take (Lib.indexByte l 10).toNat) :: linesL (l.drop ((Lib.indexByte l 10).toNat + 1)) := by
  induction l with
  | nil => intro cur h; simp [Lib.indexByte] at h
  | cons a r ih =>
    intro cur h
    unfold Lib.indexByte at h ⊢
    by_cases ha : (a == 10) = true
    · rw [if_pos ha] at h ⊢
      rw [beq_iff_eq] at ha
      subst ha
      unfold linesC; rw [if_pos rfl]; simp [linesL]
    · rw [if_neg ha] at h ⊢
      have hn : ¬ (Lib.indexByte r 10 == -1) = true := by
        intro h'; rw [if_pos h'] at h; simp at h
      rw [if_neg hn] at h ⊢
      rw [beq_iff_eq] at ha hn
      have hg := Lib.indexByte_ge r 10
      have h0 : 0 ≤ Lib.indexByte r 10 := by omega
      obtain ⟨n, hnn⟩ : ∃ n : Nat, Lib.indexByte r 10 = n := ⟨(Lib.indexByte r 10).toNat, by omega⟩
      unfold linesC
      rw [if_neg ha, ih _ h0, hnn]
      have e : ((n : Int) + 1).toNat = n + 1 := by omega
      rw [e]
      simp
/-- What Cut returns of a text that ends in a newline. -/
theorem cut_line {l : List UInt8} (h : l.getLast? = some 10) : ∃ a b, Lib.cut l [10] = (a, b, true) ∧ linesL l = a :: linesL b ∧ b.length < l.length ∧ a.length ≤ l.length ∧ (b = [] ∨ b.getLast? = some 10) := by
  obtain ⟨h0, h1⟩ := idx_nonneg l h
  refine ⟨l.take (Lib.indexByte l 10).toNat, l.drop ((Lib.indexByte l 10).toNat + 1), ?_, ?_, ?_, ?_, ?_⟩
  · unfold Lib.cut; rw [Lib.index_one, if_pos h0]; rfl
  · have := linesC_cut l [] h0
    simpa [linesL] using this
  · rw [List.length_drop]; omega
  · rw [List.length_take]; omega
  · by_cases hb : l.drop ((Lib.indexByte l 10).toNat + 1) = []
    · exact .inl hb
    · right
      rw [List.getLast?_drop, if_neg (by intro h2; exact hb (List.drop_eq_nil_of_le h2))]
      exact h

/-- The reference's walk from byte to byte: from: where the line begins, i: where it is. -/
def Upto (l : List UInt8) (i : Nat) (fr : Nat) (out : List (List UInt8)) : Prop := linesL l = out ++ linesC ((l.drop fr).take (i - fr)) (l.drop i)
theorem upto_start (l : List UInt8) : Upto l 0 0 [] := by unfold Upto linesL; simp
theorem upto_line {l : List UInt8} {i fr : Nat} {out : List (List UInt8)} (h : Upto l i fr out) (hi : i < l.length) (hc : l[i] = 10) : Upto l (i + 1) (i + 1) (out ++ [(l.drop fr).take (i - fr)]) := by
  unfold Upto at h ⊢
  rw [h, List.drop_eq_getElem_cons hi, linesC, if_pos hc]
  simp
theorem upto_other {l : List UInt8} {i fr : Nat} {out : List (List UInt8)} (h : Upto l i fr out) (hf : fr ≤ i) (hi : i < l.length) (hc : l[i] ≠ 10) : Upto l (i + 1) fr out := by
  unfold Upto at h ⊢
  rw [h, List.drop_eq_getElem_cons hi, linesC, if_neg hc]
  congr 1
  rw [show i + 1 - fr = (i - fr) + 1 by omega, List.take_add_one, List.getElem?_drop, show fr + (i - fr) = i by omega, List.getElem?_eq_getElem hi]
  simp
theorem upto_end {l : List UInt8} {i fr : Nat} {out : List (List UInt8)} (h : Upto l i fr out) (hi : l.length ≤ i) : linesL l = out := by
  unfold Upto at h
  rw [h, List.drop_eq_nil_of_le hi]; simp [linesC]
end Go.Proofs.YtoknncoolmbklaaDoor
/- Plain: two lines with a space between them. -/
namespace Go.Proofs.YtoknncoolmbklaaDoor
set_option linter.unusedVariables false
set_option linter.unusedSimpArgs false
open Go.RowKit
theorem joiE_zero {fs : List FL} : joiE fs = 0 ↔ longB fs = false ∧ fs.any badF = false ∧ (joinL fs).length ≤ 8192 := by
  unfold joiE
  constructor
  · intro h
    split at h
    · simp at h
    · split at h
      · simp at h
      · split at h
        · simp at h
        · rename_i h1 h2 h3
          exact ⟨by simpa using h1, Bool.eq_false_iff.2 h2, by omega⟩
  · rintro ⟨h1, h2, h3⟩
    rw [if_neg (by simp [h1]), if_neg (by rw [h2]; simp), if_neg (by omega)]
theorem joinL_append {l m : List FL} (hl : l ≠ []) (hm : m ≠ []) : joinL (l ++ m) = joinL l ++ [32] ++ joinL m := by
  unfold joinL
  cases l with
  | nil => exact absurd rfl hl
  | cons f l =>
    cases m with
    | nil => exact absurd rfl hm
    | cons g m => simp [List.flatMap_cons, List.flatMap_append]
theorem longB_append {l m : List FL} (h : longB (l ++ m) = false) : longB l = false ∧ longB m = false := by
  unfold longB at *
  rw [Bool.or_eq_false_iff, List.any_append, Bool.or_eq_false_iff, List.length_append] at h
  have h1 := h.1
  rw [decide_eq_false_iff_not] at h1
  rw [Bool.or_eq_false_iff, Bool.or_eq_false_iff, decide_eq_false_iff_not, decide_eq_false_iff_not]
  exact ⟨⟨by omega, h.2.1⟩, ⟨by omega, h.2.2⟩⟩
theorem both_bad {l m : List FL} (hl : l ≠ []) (hm : m ≠ []) (h : joiE l ≠ 0 ∨ joiE m ≠ 0) : joiE (l ++ m) ≠ 0 := by
  intro h0
  obtain ⟨h1, h2, h3⟩ := joiE_zero.1 h0
  have ha := longB_append h1
  rw [List.any_append, Bool.or_eq_false_iff] at h2
  rw [joinL_append hl hm] at h3
  simp at h3
  rcases h with h | h
  · exact h (joiE_zero.2 ⟨ha.1, h2.1, by omega⟩)
  · exact h (joiE_zero.2 ⟨ha.2, h2.2, by omega⟩)
theorem both_long {l m : List FL} (hl : l ≠ []) (hm : m ≠ []) (zl : joiE l = 0) (zm : joiE m = 0) (h : 64 < l.length + m.length ∨ 8192 < (joinL l).length + 1 + (joinL m).length) : joiE (l ++ m) = 3 ∧ joiS (l ++ m) = [] := by
  obtain ⟨a1, a2, _⟩ := joiE_zero.1 zl
  obtain ⟨b1, b2, _⟩ := joiE_zero.1 zm
  cases hlb : longB (l ++ m) with
  | true => exact joi_long hlb
  | false =>
    have h64 : ¬ 64 < l.length + m.length := by
      unfold longB at hlb
      rw [Bool.or_eq_false_iff, decide_eq_false_iff_not, List.length_append] at hlb
      exact hlb.1
    refine joi_line hlb (by rw [List.any_append, a2, b2]; rfl) ?_
    rw [joinL_append hl hm]; simp; omega
theorem both_ok {l m : List FL} (hl : l ≠ []) (hm : m ≠ []) (zl : joiE l = 0) (zm : joiE m = 0) (h : ¬ 64 < l.length + m.length) (h' : ¬ 8192 < (joinL l).length + 1 + (joinL m).length) : joiE (l ++ m) = 0 ∧ joiS (l ++ m) = joinL l ++ [32] ++ joinL m := by
  obtain ⟨a1, a2, _⟩ := joiE_zero.1 zl
  obtain ⟨b1, b2, _⟩ := joiE_zero.1 zm
  have hlb : longB (l ++ m) = false := by
    unfold longB at *
    rw [Bool.or_eq_false_iff] at *
    rw [List.any_append, a1.2, b1.2, List.length_append]
    exact ⟨decide_eq_false h, rfl⟩
  have := joi_ok hlb (by rw [List.any_append, a2, b2]; rfl) (by rw [joinL_append hl hm]; simp; omega)
  rw [joinL_append hl hm] at this
  exact this
theorem joiS_zero {fs : List FL} (h : joiE fs = 0) : joiS fs = joinL fs ∧ (joinL fs).length ≤ 8192 := ⟨by unfold joiS; rw [if_pos h], (joiE_zero.1 h).2.2⟩
end Go.Proofs.YtoknncoolmbklaaDoor
/- Plain: which byte's form stands at the beginning of a text. -/
namespace Go.Proofs.YtoknncoolmbklaaDoor
set_option linter.unusedVariables false
set_option linter.unusedSimpArgs false
open Go.RowKit

theorem rb_of_take {c : UInt8} {l : List UInt8} (h : l.take (esc c).length = esc c) : rbL l = some ((c.toNat : Int), (esc c).length) := by
  have e : l = esc c ++ l.drop (esc c).length := by
    conv => lhs; rw [← List.take_append_drop (esc c).length l, h]
  rw [e]; exact rb_esc c _
theorem rb_none_of {l : List UInt8} (h : ∀ c : UInt8, l.take (esc c).length ≠ esc c) : rbL l = none := by
  cases hb : rbL l with
  | none => rfl
  | some p =>
    obtain ⟨v, n⟩ := p
    obtain ⟨c, r, rfl, rfl, rfl⟩ := esc_rb hb
    exact absurd (by simp) (h c)
theorem take_len {c : UInt8} {l : List UInt8} (h : l.take (esc c).length = esc c) : (esc c).length ≤ l.length := by
  have := congrArg List.length h
  rw [List.length_take] at this; omega
end Go.Proofs.YtoknncoolmbklaaDoor
/- Plain: Split and Join are inverse to each other, Quote and Unquote too. -/
namespace Go.Proofs.YtoknncoolmbklaaDoor
set_option linter.unusedVariables false
set_option linter.unusedSimpArgs false
open Go.RowKit

theorem bareS_head {l : List UInt8} (h : bareS l = true) (r : List UInt8) : (l ++ r).head? ≠ some 34 := by
  unfold bareS at h
  rw [Bool.and_eq_true, List.all_eq_true] at h
  cases l with
  | nil => simp at h
  | cons a l =>
    intro e
    simp at e
    have := h.2 a (by simp)
    rw [e, bareB_34] at this
    cases this
/-- The field at the beginning, written. -/
theorem field_item {l : List UInt8} (h : okAt l = true) : itemL (fieldAt l).1 = l.take (fieldAt l).2 ∧ badF (fieldAt l).1 = false := by
  have ho := (okAt_iff.1 h).1
  unfold fieldAt at ho ⊢
  split
  · rename_i hq
    rw [if_pos hq] at ho
    simp only at ho ⊢
    unfold rqN at ho
    cases hr : rqL l with
    | none => rw [hr] at ho; simp at ho
    | some p =>
      obtain ⟨x, n⟩ := p
      obtain ⟨r, e, hn⟩ := of_rqL hr
      have h1 : rqT l = x := by unfold rqT; rw [hr]
      have h2 : (rqN l).toNat = n := by unfold rqN; rw [hr]; simp
      refine ⟨?_, rfl⟩
      rw [h1, h2, hn, e]
      unfold itemL
      simp
  · rename_i hq
    rw [if_neg hq] at ho
    simp only at ho ⊢
    refine ⟨rfl, ?_⟩
    unfold badF
    simp only [Bool.not_false, Bool.true_and, Bool.not_eq_false']
    have := take_bareN l
    unfold bareS
    rw [Bool.and_eq_true, List.all_eq_true]
    refine ⟨?_, this⟩
    have hl := bareN_le l
    cases hx : l.take (bareN l) with
    | nil =>
      have := congrArg List.length hx
      rw [List.length_take, List.length_nil] at this
      omega
    | cons a r => rfl
/-- The fields of a line, written, are the line. -/
theorem fields_line : ∀ (k : Nat) (l : List UInt8), l.length ≤ k → (seqC l).all (fun x => x.2) = true → ((seqC l).map (·.1)).flatMap (fun f => 32 :: itemL f) = 32 :: l ∧ ∀ f ∈ (seqC l).map (·.1), badF f = false := by
  intro k
  induction k with
  | zero =>
    intro l hk h
    by_cases ho : okAt l = true
    · have := okAt_iff.1 ho; have := fieldAt_le l; omega
    · rw [seqC_bad (by simpa using ho)] at h; simp at h
  | succ k ih =>
    intro l hk h
    by_cases ho : okAt l = true
    · obtain ⟨f1, f2⟩ := field_item ho
      have hp := okAt_iff.1 ho
      have hle := fieldAt_le l
      by_cases he : (fieldAt l).2 = l.length
      · rw [seqC_end ho he]
        refine ⟨?_, fun f hf => ?_⟩
        · simp [f1, he]
        · simp at hf; rw [hf]; exact f2
      · rw [seqC_step ho he] at h ⊢
        rw [List.all_cons, Bool.and_eq_true] at h
        obtain ⟨i1, i2⟩ := ih (l.drop ((fieldAt l).2 + 1)) (by rw [List.length_drop]; omega) h.2
        have h32 : l[(fieldAt l).2]? = some 32 := by
          rcases hp.2 with h1 | h1
          · exact absurd h1 he
          · exact h1
        refine ⟨?_, fun f hf => ?_⟩
        · rw [List.map_cons, List.flatMap_cons, i1, f1]
          have hlt : (fieldAt l).2 < l.length := by omega
          have hd : l.drop (fieldAt l).2 = 32 :: l.drop ((fieldAt l).2 + 1) := by
            rw [List.drop_eq_getElem_cons hlt]
            congr 1
            have := List.getElem?_eq_getElem hlt
            rw [h32] at this
            injection this with this
            exact this.symm
          rw [← hd]
          simp
        · rw [List.map_cons, List.mem_cons] at hf
          rcases hf with rfl | hf
          · exact f2
          · exact i2 f hf
    · rw [seqC_bad (by simpa using ho)] at h; simp at h
/-- P1.7, from a line on. -/
theorem join_split {l : List UInt8} (h : splE l = 0) : joiE (splF l) = 0 ∧ joiS (splF l) = l := by
  have hlen : ¬ 8192 < l.length := by intro h1; rw [(splE_long h1).1] at h; cases h
  have hform : formB l = true := by
    cases hf : formB l with
    | true => rfl
    | false => rw [(splE_form hlen hf).1] at h; cases h
  have hlong : longB (allF l) = false := by
    cases hf : longB (allF l) with
    | false => rfl
    | true => rw [(splE_many hlen hform hf).1] at h; cases h
  rw [(splE_ok hlen hform hlong).2]
  have key : joinL (allF l) = l ∧ (allF l).any badF = false := by
    unfold formB at hform
    unfold allF
    by_cases h0 : l = []
    · subst h0; exact ⟨rfl, rfl⟩
    · have hs : seqL l = seqC l := by unfold seqL; rw [if_neg h0]
      rw [hs] at hform ⊢
      obtain ⟨k1, k2⟩ := fields_line _ l (Nat.le_refl _) hform
      refine ⟨?_, ?_⟩
      · unfold joinL; rw [k1]; rfl
      · rw [List.any_eq_false]; intro f hf; rw [k2 f hf]; simp
  obtain ⟨e1, e2⟩ := joi_ok hlong key.2 (by rw [key.1]; exact hlen)
  exact ⟨e1, by rw [e2]; exact key.1⟩
theorem item_pos {f : FL} (h : badF f = false) : itemL f ≠ [] := by
  unfold itemL
  split
  · unfold quoteL; simp
  · rename_i h2
    have h2 : f.2 = false := by simpa using h2
    unfold badF at h
    rw [h2] at h
    simp only [Bool.not_false, Bool.true_and, Bool.not_eq_false'] at h
    exact (bareS_iff.1 h).1
/-- What is written is read: the field at the beginning. -/
theorem field_of_item {f : FL} (h : badF f = false) {r : List UInt8} (hr : r = [] ∨ r.head? = some 32) : fieldAt (itemL f ++ r) = (f, (itemL f).length) := by
  obtain ⟨x, q⟩ := f
  cases q with
  | true =>
    have hi : itemL (x, true) = quoteL x := rfl
    rw [hi]
    unfold fieldAt
    rw [if_pos (by unfold quoteL; rfl)]
    have := rqL_of x r
    unfold rqT rqN
    rw [this]
    simp
  | false =>
    have hi : itemL (x, false) = x := rfl
    have hb : bareS x = true := by
      unfold badF at h
      simpa using h
    rw [hi]
    unfold fieldAt
    rw [if_neg (bareS_head hb r)]
    have hn : bareN (x ++ r) = x.length := by
      refine bareN_of (fun c hc => ?_) (by simp) ?_
      · rw [List.take_left] at hc
        unfold bareS at hb
        rw [Bool.and_eq_true, List.all_eq_true] at hb
        exact hb.2 c hc
      · rcases hr with rfl | hr
        · left; simp
        · right
          intro c hc
          rw [List.getElem?_append_right (Nat.le_refl _), Nat.sub_self] at hc
          cases r with
          | nil => simp at hc
          | cons a r =>
            simp at hr hc
            rw [← hc, hr]; exact bareB_32
    rw [hn, List.take_left]
theorem seq_of_items : ∀ (fs : List FL) (f : FL), (∀ g ∈ f :: fs, badF g = false) → seqC (itemL f ++ fs.flatMap (fun f => 32 :: itemL f)) = (f :: fs).map fun g => (g, true)
  | [], f, h => by
    have hb := h f (by simp)
    have hf := field_of_item hb (r := []) (.inl rfl)
    simp only [List.flatMap_nil] 
    have ho : okAt (itemL f ++ []) = true := by
      refine okAt_iff.2 ?_
      rw [hf]
      refine ⟨?_, .inl (by simp)⟩
      have := item_pos hb
      intro h0
      exact this (List.length_eq_zero_iff.1 h0)
    rw [seqC_end ho (by rw [hf]; simp), hf]
    rfl
  | g :: fs, f, h => by
    have hb := h f (by simp)
    have hf := field_of_item hb (r := (g :: fs).flatMap (fun f => 32 :: itemL f)) (.inr rfl)
    have hne : itemL f ≠ [] := item_pos hb
    have ho : okAt (itemL f ++ (g :: fs).flatMap (fun f => 32 :: itemL f)) = true := by
      refine okAt_iff.2 ?_
      rw [hf]
      refine ⟨fun h0 => hne (List.length_eq_zero_iff.1 h0), .inr ?_⟩
      rw [List.getElem?_append_right (Nat.le_refl _), Nat.sub_self]
      rfl
    rw [seqC_step ho (by rw [hf]; simp), hf]
    have hd : (itemL f ++ (g :: fs).flatMap (fun f => 32 :: itemL f)).drop ((itemL f).length + 1) = itemL g ++ fs.flatMap (fun f => 32 :: itemL f) := by
      rw [List.drop_append]
      have : (itemL f).drop ((itemL f).length + 1) = [] := List.drop_eq_nil_of_le (by omega)
      rw [this]
      simp
    rw [hd, seq_of_items fs g fun x hx => h x (by simp at hx ⊢; rcases hx with hx | hx; exact .inr (.inl hx); exact .inr (.inr hx))]
    rfl
/-- P1.7, from fields on. -/
theorem split_join {fs : List FL} (h : joiE fs = 0) : splE (joiS fs) = 0 ∧ splF (joiS fs) = fs := by
  obtain ⟨hl, hb, hn⟩ := joiE_zero.1 h
  rw [(joiS_zero h).1]
  have key : seqL (joinL fs) = fs.map fun g => (g, true) := by
    cases fs with
    | nil => rfl
    | cons f fs =>
      have hb' : ∀ g ∈ f :: fs, badF g = false := by
        intro g hg
        have := List.any_eq_false.1 hb g hg
        simpa using this
      have hj : joinL (f :: fs) = itemL f ++ fs.flatMap (fun f => 32 :: itemL f) := by
        unfold joinL; rw [List.flatMap_cons]; rfl
      have hne : joinL (f :: fs) ≠ [] := by
        rw [hj]
        intro h0
        exact item_pos (hb' f (by simp)) (List.append_eq_nil_iff.1 h0).1
      unfold seqL
      rw [if_neg hne, hj]
      exact seq_of_items fs f hb'
  have hform : formB (joinL fs) = true := by
    unfold formB; rw [key, List.all_eq_true]
    intro x hx
    obtain ⟨g, _, rfl⟩ := List.mem_map.1 hx
    rfl
  have hall : allF (joinL fs) = fs := by
    unfold allF; rw [key, List.map_map]
    show fs.map (fun g => g) = fs
    simp
  have := splE_ok (l := joinL fs) (by omega) hform (by rw [hall]; exact hl)
  rw [hall] at this
  exact this
end Go.Proofs.YtoknncoolmbklaaDoor
/- Plain: decimal forms and numbers, list expressions and lists are inverse to each other. -/
namespace Go.Proofs.YtoknncoolmbklaaDoor
set_option linter.unusedVariables false
set_option linter.unusedSimpArgs false
open Go.RowKit

theorem decVal_snoc (acc : Nat) (l : List UInt8) (c : UInt8) : decVal acc (l ++ [c]) = decVal acc l * 10 + (c.toNat - 48) := by
  unfold decVal; rw [List.foldl_append]; rfl
theorem dd_spec : ∀ (k u : Nat), u ≤ k → Digs (Lib.decDigits u) ∧ Lib.decDigits u ≠ [] ∧ (1 ≤ u → (Lib.decDigits u).head? ≠ some 48) ∧ decVal 0 (Lib.decDigits u) = u := by
  have one : ∀ u, u < 10 → Digs (Lib.decDigits u) ∧ Lib.decDigits u ≠ [] ∧ (1 ≤ u → (Lib.decDigits u).head? ≠ some 48) ∧ decVal 0 (Lib.decDigits u) = u := by
    intro u hu
    rw [Lib.decDigits_one hu]
    have ht : (UInt8.ofNat (48 + u)).toNat = 48 + u := by rw [UInt8.toNat_ofNat']; omega
    refine ⟨fun c hc => ?_, by simp, fun h1 h2 => ?_, ?_⟩
    · rw [List.mem_singleton] at hc; rw [hc, ht]; omega
    · rw [List.head?_cons] at h2
      injection h2 with h2
      have := congrArg UInt8.toNat h2
      rw [ht] at this
      have h48 : (48 : UInt8).toNat = 48 := rfl
      omega
    · show 0 * 10 + ((UInt8.ofNat (48 + u)).toNat - 48) = u
      rw [ht]; omega
  intro k
  induction k with
  | zero => intro u hu; exact one u (by omega)
  | succ k ih =>
    intro u hu
    by_cases h10 : u < 10
    · exact one u h10
    · obtain ⟨i1, i2, i3, i4⟩ := ih (u / 10) (by omega)
      rw [decDigits_step (by omega)]
      have ht : (UInt8.ofNat (48 + u % 10)).toNat = 48 + u % 10 := by rw [UInt8.toNat_ofNat']; omega
      refine ⟨fun c hc => ?_, by simp, fun _ => ?_, ?_⟩
      · rw [List.mem_append] at hc
        rcases hc with hc | hc
        · exact i1 c hc
        · rw [List.mem_singleton] at hc; rw [hc, ht]; omega
      · cases hd : Lib.decDigits (u / 10) with
        | nil => exact absurd hd i2
        | cons a r =>
          have := i3 (by omega)
          rw [hd] at this
          simpa using this
      · rw [decVal_snoc, i4, ht]; omega
theorem digs_dig {l : List UInt8} (h : Digs l) : ∀ c ∈ l, digB c.toNat = true := fun c hc => digB_iff.2 (h c hc)
theorem natL_dd (u : Nat) : natL (Lib.decDigits u) = true := by
  obtain ⟨h1, h2, h3, _⟩ := dd_spec u u (Nat.le_refl _)
  refine natL_iff.2 ⟨h2, ?_, digs_dig h1⟩
  rintro ⟨a, b⟩
  by_cases hu : 1 ≤ u
  · exact h3 hu a
  · have : u = 0 := by omega
    subst this
    rw [Lib.decDigits_one (by omega)] at b
    simp at b
theorem decVal_dd (u : Nat) : decVal 0 (Lib.decDigits u) = u := (dd_spec u u (Nat.le_refl _)).2.2.2
theorem decVal_pos {l : List UInt8} (hd : Digs l) (h0 : l ≠ []) (h : l.head? ≠ some 48) : 1 ≤ decVal 0 l := by
  cases l with
  | nil => exact absurd rfl h0
  | cons c r =>
    have hc := (digs_cons hd).1
    have hn : c.toNat ≠ 48 := fun e => h (by simp; exact UInt8.toNat_inj.1 e)
    rw [decVal_cons]
    have := decVal_le r (0 * 10 + (c.toNat - 48))
    omega
theorem dd_decVal : ∀ (k : Nat) (l : List UInt8), l.length ≤ k → natL l = true → Lib.decDigits (decVal 0 l) = l := by
  intro k
  induction k with
  | zero => intro l hl h; exact absurd (List.length_eq_zero_iff.1 (by omega)) (natL_iff.1 h).1
  | succ k ih =>
    intro l hl h
    obtain ⟨h0, h1, h2⟩ := natL_iff.1 h
    have hd : Digs l := natL_digits h
    obtain ⟨m, c, rfl⟩ : ∃ m c, l = m ++ [c] := ⟨l.dropLast, l.getLast h0, (List.dropLast_concat_getLast h0).symm⟩
    have hc := hd c (by simp)
    have hof : ∀ n, n = c.toNat → UInt8.ofNat n = c := fun n hn => by rw [hn]; exact UInt8.ofNat_toNat
    rw [decVal_snoc]
    by_cases hm : m = []
    · subst hm
      show Lib.decDigits (0 * 10 + (c.toNat - 48)) = [c]
      rw [Lib.decDigits_one (by omega)]
      rw [hof _ (by omega)]
    · have hdm : Digs m := fun x hx => hd x (by simp [hx])
      have hlen : 1 < (m ++ [c]).length := by
        have := List.length_pos_iff.2 hm
        simp; omega
      have hh : (m ++ [c]).head? = m.head? := by cases m with | nil => exact absurd rfl hm | cons a r => rfl
      have hm48 : m.head? ≠ some 48 := fun e => h1 ⟨by rw [hh]; exact e, hlen⟩
      have hp := decVal_pos hdm hm hm48
      rw [decDigits_step (by omega)]
      have e1 : (decVal 0 m * 10 + (c.toNat - 48)) / 10 = decVal 0 m := by omega
      have e2 : 48 + (decVal 0 m * 10 + (c.toNat - 48)) % 10 = c.toNat := by omega
      rw [e1, hof _ e2, ih m (by simp at hl; omega) (natL_iff.2 ⟨hm, fun e => hm48 e.1, digs_dig hdm⟩)]
theorem itoa_decVal {l : List UInt8} (h : natL l = true) : Lib.itoa (decVal 0 l : Int) = l := by
  rw [Lib.itoa_nonneg]; exact dd_decVal _ l (Nat.le_refl _) h

/-- The value of digits, the last one first. -/
theorem nextR_val : ∀ (r : List UInt8), Digs r → Digs (nextR r) ∧ decVal 0 (nextR r).reverse = decVal 0 r.reverse + 1 ∧ nextR r ≠ []
  | [], _ => ⟨fun c hc => by simp [nextR] at hc; rw [hc]; decide, by decide, by simp [nextR]⟩
  | c :: r, h => by
    obtain ⟨hc, hr⟩ := digs_cons h
    obtain ⟨i1, i2, i3⟩ := nextR_val r hr
    unfold nextR
    by_cases h57 : c = 57
    · rw [if_pos h57]
      refine ⟨fun x hx => ?_, ?_, by simp⟩
      · rcases List.mem_cons.1 hx with rfl | hx
        · decide
        · exact i1 x hx
      · rw [List.reverse_cons, decVal_snoc, List.reverse_cons, decVal_snoc, i2, h57]
        have : (57 : UInt8).toNat = 57 := rfl
        have : (48 : UInt8).toNat = 48 := rfl
        omega
    · rw [if_neg h57]
      have hn : c.toNat ≠ 57 := fun e => h57 (UInt8.toNat_inj.1 e)
      have ht : (c + 1).toNat = c.toNat + 1 := by
        rw [UInt8.toNat_add]
        have : (1 : UInt8).toNat = 1 := rfl
        omega
      refine ⟨fun x hx => ?_, ?_, by simp⟩
      · rcases List.mem_cons.1 hx with rfl | hx
        · rw [ht]; omega
        · exact hr x hx
      · rw [List.reverse_cons, decVal_snoc, List.reverse_cons, decVal_snoc, ht]
        omega
theorem nextR_last : ∀ (r : List UInt8), Digs r → (r.getLast? ≠ some 48 ∨ r.length ≤ 1) → (nextR r).getLast? ≠ some 48
  | [], _, _ => by simp [nextR]
  | c :: r, h, hl => by
    obtain ⟨hc, hr⟩ := digs_cons h
    have hne := (nextR_val r hr).2.2
    have hlr : r.getLast? ≠ some 48 ∨ r.length ≤ 1 := by
      cases r with
      | nil => right; simp
      | cons a r =>
        rcases hl with hl | hl
        · left; simpa using hl
        · simp at hl
    unfold nextR
    by_cases h57 : c = 57
    · rw [if_pos h57]
      have := nextR_last r hr hlr
      cases hx : nextR r with
      | nil => exact absurd hx hne
      | cons a m => rw [hx] at this; simpa using this
    · rw [if_neg h57]
      cases r with
      | nil =>
        intro e
        simp at e
        have := congrArg UInt8.toNat e
        have hn : c.toNat ≠ 57 := fun e => h57 (UInt8.toNat_inj.1 e)
        rw [UInt8.toNat_add] at this
        have h1 : (1 : UInt8).toNat = 1 := rfl
        have h2 : (48 : UInt8).toNat = 48 := rfl
        omega
      | cons a r =>
        rcases hl with hl | hl
        · simpa using hl
        · simp at hl
theorem nextL_nat {l : List UInt8} (h : natL l = true) : natL (nextL l) = true ∧ decVal 0 (nextL l) = decVal 0 l + 1 := by
  obtain ⟨h0, h1, _⟩ := natL_iff.1 h
  have hd : Digs l := natL_digits h
  have hr : Digs l.reverse := fun c hc => hd c (List.mem_reverse.1 hc)
  obtain ⟨i1, i2, i3⟩ := nextR_val l.reverse hr
  have hl := nextR_last l.reverse hr (by
    rw [List.getLast?_reverse, List.length_reverse]
    by_cases hx : l.head? = some 48
    · right; exact Nat.not_lt.1 fun hh => h1 ⟨hx, hh⟩
    · left; exact hx)
  refine ⟨natL_iff.2 ⟨?_, ?_, ?_⟩, ?_⟩
  · unfold nextL; simpa using i3
  · rintro ⟨e, _⟩
    unfold nextL at e
    rw [List.head?_reverse] at e
    exact hl e
  · intro c hc
    unfold nextL at hc
    exact digB_iff.2 (i1 c (List.mem_reverse.1 hc))
  · have := i2
    rw [List.reverse_reverse] at this
    exact this

/-- Runs of numbers: each from its first to its last one, with a gap to the next. -/
def Sep : List (Nat × Nat) → Prop
  | [] => True
  | [v] => v.1 ≤ v.2
  | v :: u :: r => v.1 ≤ v.2 ∧ v.2 + 1 < u.1 ∧ Sep (u :: r)
def spans (vs : List (Nat × Nat)) : List Int := vs.flatMap fun v => spanL v.1 v.2
def txt (v : Nat × Nat) : List UInt8 := runTxt v.1 v.2
/-- The runs, written, with commas. -/
def joinR : List (Nat × Nat) → List UInt8
  | [] => []
  | [v] => txt v
  | v :: u :: r => txt v ++ 44 :: joinR (u :: r)
theorem Sep.tail {v : Nat × Nat} {r : List (Nat × Nat)} (h : Sep (v :: r)) : v.1 ≤ v.2 ∧ Sep r := by
  cases r with
  | nil => exact ⟨h, trivial⟩
  | cons u r => exact ⟨h.1, h.2.2⟩
theorem span_len {a b : Nat} (h : a ≤ b) : (spanL (a : Int) b).length = b - a + 1 := by
  unfold spanL; rw [List.length_map, List.length_range]; omega
theorem span_get {a b j : Nat} (hj : j < (spanL (a : Int) b).length) : (spanL (a : Int) b)[j] = (a : Int) + j := by
  have h : (spanL (a : Int) b)[j]? = some ((a : Int) + j) := by
    have hj' : j < ((b : Int) - a + 1).toNat := by
      unfold spanL at hj; rw [List.length_map, List.length_range] at hj; exact hj
    show (((List.range ((b : Int) - a + 1).toNat).map fun i : Nat => (a : Int) + (i : Int)))[j]? = _
    rw [List.getElem?_map, List.getElem?_range hj']; rfl
  rw [List.getElem?_eq_getElem hj] at h
  injection h
theorem span_cons {a b : Nat} (h : a ≤ b) : ∃ r, spanL (a : Int) b = (a : Int) :: r := by
  have hl := span_len h
  cases hs : spanL (a : Int) b with
  | nil => rw [hs] at hl; simp at hl
  | cons x r =>
    have := span_get (a := a) (b := b) (j := 0) (by omega)
    simp only [hs, List.getElem_cons_zero] at this
    exact ⟨r, by rw [this]; simp⟩
theorem spans_cons {v : Nat × Nat} {r : List (Nat × Nat)} : spans (v :: r) = spanL v.1 v.2 ++ spans r := by unfold spans; rw [List.flatMap_cons]
theorem spans_ne {v : Nat × Nat} {r : List (Nat × Nat)} (h : v.1 ≤ v.2) : ∃ m, spans (v :: r) = (v.1 : Int) :: m := by
  obtain ⟨m, hm⟩ := span_cons h
  exact ⟨m ++ spans r, by rw [spans_cons, hm]; rfl⟩
theorem runLen_spans {v : Nat × Nat} {r : List (Nat × Nat)} (h : Sep (v :: r)) : runLen (spans (v :: r)) = v.2 - v.1 + 1 := by
  have hv := h.tail.1
  have hl := span_len hv
  have hlen : (spans (v :: r)).length = v.2 - v.1 + 1 + (spans r).length := by rw [spans_cons, List.length_append, hl]
  have hget : ∀ j (hj : j < v.2 - v.1 + 1) (h' : j < (spans (v :: r)).length), (spans (v :: r))[j] = (v.1 : Int) + j := by
    intro j hj h'
    have e : (spans (v :: r))[j] = (spanL (v.1 : Int) v.2 ++ spans r)[j]'(by rw [← spans_cons]; exact h') := by congr 1
    rw [e, List.getElem_append_left (by omega), span_get]
  refine runLen_of (by omega) (by omega) (fun j hj h' => ?_) (fun hlt => ?_)
  · rw [hget (j + 1) (by omega) h', hget j (by omega) (by omega)]; omega
  · rw [hget (v.2 - v.1 + 1 - 1) (by omega) (by omega)]
    have hr : 0 < (spans r).length := by omega
    cases r with
    | nil => simp [spans] at hr
    | cons u r =>
      obtain ⟨m, hm⟩ := spans_ne (r := r) h.tail.2.tail.1
      have e : (spans (v :: u :: r))[v.2 - v.1 + 1] = (spanL (v.1 : Int) v.2 ++ spans (u :: r))[v.2 - v.1 + 1]'(by rw [← spans_cons]; exact hlt) := by congr 1
      rw [e, List.getElem_append_right (by omega)]
      have e2 : (spans (u :: r))[v.2 - v.1 + 1 - (spanL (v.1 : Int) v.2).length]'(by rw [hl]; omega) = (u.1 : Int) := by
        have : v.2 - v.1 + 1 - (spanL (v.1 : Int) v.2).length = 0 := by omega
        simp only [this]
        simp only [hm, List.getElem_cons_zero]
      rw [e2]
      have := h.2.1
      omega
theorem listC_spans : ∀ (vs : List (Nat × Nat)), Sep vs → vs ≠ [] → listC (spans vs) = joinR vs
  | [], _, h => absurd rfl h
  | v :: r, h, _ => by
    have hv := h.tail.1
    have hrl := runLen_spans h
    obtain ⟨m, hm⟩ := spans_ne (r := r) hv
    have hd : (spans (v :: r)).drop (runLen (spans (v :: r))) = spans r := by
      rw [hrl, spans_cons, List.drop_append_of_le_length (by rw [span_len hv]; exact Nat.le_refl _), List.drop_eq_nil_of_le (by rw [span_len hv]; exact Nat.le_refl _)]
      rfl
    have hs : listC (spans (v :: r)) = runTxt v.1 ((v.1 : Int) + (runLen (spans (v :: r)) : Int) - 1) ++ (if (spans (v :: r)).drop (runLen (spans (v :: r))) = [] then [] else 44 :: listC ((spans (v :: r)).drop (runLen (spans (v :: r))))) := by
      rw [hm]; exact listC_step
    rw [hs, hd, hrl]
    have hb : (v.1 : Int) + ((v.2 - v.1 + 1 : Nat) : Int) - 1 = v.2 := by omega
    rw [hb]
    cases r with
    | nil => rw [if_pos (show spans [] = [] from rfl)]; simp [joinR, txt]
    | cons u r =>
      obtain ⟨m', hm'⟩ := spans_ne (r := r) h.tail.2.tail.1
      rw [if_neg (by rw [hm']; simp), listC_spans (u :: r) h.tail.2 (by simp)]
      rfl
/-- The bytes of a run. -/
theorem txt_bytes (v : Nat × Nat) : ∀ c ∈ txt v, c ≠ 44 := by
  have hd : ∀ u : Nat, ∀ c ∈ Lib.itoa (u : Int), c ≠ 44 := by
    intro u c hc e
    rw [Lib.itoa_nonneg] at hc
    have := (dd_spec u u (Nat.le_refl _)).1 c hc
    rw [e] at this
    have h44 : (44 : UInt8).toNat = 44 := rfl
    omega
  intro c hc
  unfold txt runTxt at hc
  rw [List.mem_append] at hc
  rcases hc with hc | hc
  · exact hd _ c hc
  · split at hc
    · rcases List.mem_cons.1 hc with rfl | hc
      · decide
      · exact hd _ c hc
    · cases hc
theorem partsC_plain (c : UInt8) : ∀ (x cur r : List UInt8), (∀ y ∈ x, y ≠ c) → partsC c cur (x ++ r) = partsC c (cur ++ x) r
  | [], cur, r, _ => by simp
  | y :: x, cur, r, h => by
    rw [List.cons_append, partsC, if_neg (h y (by simp)), partsC_plain c x (cur ++ [y]) r fun z hz => h z (by simp [hz])]
    simp
theorem parts_joinR : ∀ (vs : List (Nat × Nat)), vs ≠ [] → partsL 44 (joinR vs) = vs.map txt
  | [], h => absurd rfl h
  | [v], _ => by
    have := partsC_plain 44 (txt v) [] [] (txt_bytes v)
    rw [List.append_nil] at this
    unfold partsL joinR
    rw [this]
    rfl
  | v :: u :: r, _ => by
    have ih := parts_joinR (u :: r) (by simp)
    have := partsC_plain 44 (txt v) [] (44 :: joinR (u :: r)) (txt_bytes v)
    unfold partsL at ih ⊢
    rw [joinR, this, partsC, if_pos rfl, ih]
    simp
theorem dash_itoa (u : Nat) : ∀ c ∈ Lib.itoa (u : Int), c ≠ 45 := by
  intro c hc e
  rw [Lib.itoa_nonneg] at hc
  have := (dd_spec u u (Nat.le_refl _)).1 c hc
  rw [e] at this
  have h45 : (45 : UInt8).toNat = 45 := rfl
  omega
theorem natL_itoa (u : Nat) : natL (Lib.itoa (u : Int)) = true := by rw [Lib.itoa_nonneg]; exact natL_dd u
theorem decVal_itoa (u : Nat) : decVal 0 (Lib.itoa (u : Int)) = u := by rw [Lib.itoa_nonneg]; exact decVal_dd u
/-- A run, read again. -/
theorem runF_txt {v : Nat × Nat} (h : v.1 ≤ v.2) : runF (txt v) = (Lib.itoa v.1, Lib.itoa v.2, true) := by
  by_cases hlt : v.1 < v.2
  · have e : txt v = Lib.itoa v.1 ++ 45 :: Lib.itoa v.2 := by unfold txt runTxt; rw [if_pos (by omega)]
    have hp : partsL 45 (txt v) = [Lib.itoa v.1, Lib.itoa v.2] := by
      unfold partsL
      rw [e, partsC_plain 45 _ [] _ (dash_itoa v.1), partsC, if_pos rfl]
      have := partsC_plain 45 (Lib.itoa v.2) [] [] (dash_itoa v.2)
      rw [List.append_nil] at this
      rw [this]; rfl
    obtain ⟨r1, r2⟩ := runF_parts (txt v)
    have ho : (runF (txt v)).2.2 = true := by
      rw [r1, hp]
      show (decL (Lib.itoa v.1) && (decL (Lib.itoa v.2) && lessL (Lib.itoa v.1) (Lib.itoa v.2))) = true
      rw [decL_plain (head_ne (dash_itoa _)), decL_plain (head_ne (dash_itoa _)), natL_itoa, natL_itoa, lessL_val (natL_itoa _) (natL_itoa _), decVal_itoa, decVal_itoa]
      simpa using hlt
    obtain ⟨q1, q2⟩ := r2 ho
    rw [hp] at q1 q2
    simp at q1 q2
    rw [Prod.ext_iff, Prod.ext_iff]
    exact ⟨q1.symm, q2.symm, ho⟩
  · have h2 : v.2 = v.1 := by omega
    have e : txt v = Lib.itoa v.1 := by unfold txt runTxt; rw [if_neg (by omega)]; simp
    have hp : partsL 45 (txt v) = [Lib.itoa v.1] := by
      unfold partsL
      have := partsC_plain 45 (Lib.itoa v.1) [] [] (dash_itoa v.1)
      rw [List.append_nil] at this
      rw [e, this]; rfl
    obtain ⟨r1, r2⟩ := runF_parts (txt v)
    have ho : (runF (txt v)).2.2 = true := by
      rw [r1, hp]
      show decL (Lib.itoa v.1) = true
      rw [decL_plain (head_ne (dash_itoa _)), natL_itoa]
    obtain ⟨q1, q2⟩ := r2 ho
    rw [hp] at q1 q2
    simp at q1 q2
    rw [Prod.ext_iff, Prod.ext_iff]
    exact ⟨q1.symm, by rw [h2]; exact q2.symm, ho⟩
def rnOf (v : Nat × Nat) : RN := (Lib.itoa v.1, Lib.itoa v.2)
theorem runsG_txt : ∀ (vs : List (Nat × Nat)) (acc : List (Nat × Nat)), Sep (acc.getLast?.toList ++ vs) → runsG (acc.map rnOf) (vs.map txt) = some ((acc ++ vs).map rnOf)
  | [], acc, _ => by simp [runsG]
  | v :: r, acc, h => by
    have hv : v.1 ≤ v.2 := by
      cases hl : acc.getLast? with
      | none => rw [hl] at h; exact (Sep.tail h).1
      | some u => rw [hl] at h; exact (Sep.tail (Sep.tail h).2).1
    have hf := runF_txt hv
    have hok : okRun (acc.map rnOf) (txt v) = true := by
      unfold okRun
      rw [hf, List.getLast?_map]
      cases hl : acc.getLast? with
      | none => rfl
      | some u =>
        rw [hl] at h
        have hgap : u.2 + 1 < v.1 := by
          cases r with
          | nil => exact h.2.1
          | cons w r => exact h.2.1
        show (true && lessL (nextL (rnOf u).2) (Lib.itoa v.1)) = true
        have hn := nextL_nat (natL_itoa u.2)
        show (true && lessL (nextL (Lib.itoa u.2)) (Lib.itoa v.1)) = true
        rw [lessL_val hn.1 (natL_itoa _), hn.2, decVal_itoa, decVal_itoa]
        simpa using hgap
    rw [List.map_cons, runsG, if_pos hok]
    have hr : runOf (txt v) = rnOf v := by unfold runOf rnOf; rw [hf]
    rw [hr]
    have := runsG_txt r (acc ++ [v]) (by
      rw [List.getLast?_concat]
      show Sep (v :: r)
      cases hl : acc.getLast? with
      | none => rw [hl] at h; exact h
      | some u => rw [hl] at h; exact (Sep.tail h).2)
    rw [List.map_append] at this
    simpa using this
theorem numV_itoa {u : Nat} (h : u ≤ 1000000000) : numV (Lib.itoa u) = u := by
  unfold numV intV
  have hd : decL (Lib.itoa (u : Int)) = true := by rw [decL_plain (head_ne (dash_itoa _))]; exact natL_itoa u
  have hi : decInt (Lib.itoa (u : Int)) = u := by unfold decInt; rw [if_neg (head_ne (dash_itoa u)), decVal_itoa]
  rw [hd, hi, if_pos ⟨rfl, by unfold inI64; omega, by omega, by omega⟩]
theorem fillG_txt : ∀ (vs : List (Nat × Nat)) (acc : List Int), (∀ v ∈ vs, v.1 ≤ v.2 ∧ v.2 ≤ 1000000000) → acc.length + (spans vs).length ≤ 500 → fillG acc (vs.map rnOf) = some (acc ++ spans vs)
  | [], acc, _, _ => by simp [fillG, spans]
  | v :: r, acc, h, hl => by
    obtain ⟨h1, h2⟩ := h v (by simp)
    have e1 : numV (rnOf v).1 = v.1 := numV_itoa (by omega)
    have e2 : numV (rnOf v).2 = v.2 := numV_itoa h2
    have hsl := span_len h1
    rw [spans_cons, List.length_append, hsl] at hl
    rw [List.map_cons, fillG, e1, e2, if_neg (by omega), fillG_txt r _ (fun u hu => h u (by simp [hu])) (by rw [List.length_append, hsl]; omega), spans_cons]
    simp
/-- A list in ascending order is made of runs. -/
theorem runs_of : ∀ (k : Nat) (l : List Int), l.length ≤ k → (∀ x ∈ l, 0 ≤ x) → ascB l = true → ∃ vs, Sep vs ∧ spans vs = l := by
  intro k
  induction k with
  | zero => intro l hl _ _; exact ⟨[], trivial, (List.length_eq_zero_iff.1 (by omega)).symm⟩
  | succ k ih =>
    intro l hl h0 ha
    by_cases hne : l = []
    · exact ⟨[], trivial, hne.symm⟩
    · have hp := runLen_pos hne
      have hle := runLen_le l
      have hlen : 0 < l.length := by omega
      have ha' := ascB_iff.1 ha
      have hdr : ascB (l.drop (runLen l)) = true := by
        rw [ascB_iff]
        intro j hj
        rw [List.length_drop] at hj
        simp only [List.getElem_drop]
        exact ha' (runLen l + j) (by omega)
      obtain ⟨vs, hs, hv⟩ := ih (l.drop (runLen l)) (by rw [List.length_drop]; omega) (fun x hx => h0 x (List.mem_of_mem_drop hx)) hdr
      have hx0 : 0 ≤ l[0] := h0 _ (List.getElem_mem hlen)
      let a := l[0].toNat
      have haI : (a : Int) = l[0] := by show ((l[0].toNat : Nat) : Int) = l[0]; omega
      have htake : l.take (runLen l) = spanL (a : Int) ((a + (runLen l - 1) : Nat) : Int) := by
        refine List.ext_getElem ?_ (fun j h1 h2 => ?_)
        · rw [List.length_take, span_len (by omega)]; omega
        · rw [span_get, haI, List.getElem_take]
          rw [List.length_take] at h1
          exact runLen_get l j (by omega) (by omega) hlen
      have hall : spans ((a, a + (runLen l - 1)) :: vs) = l := by
        rw [spans_cons, hv]
        show spanL (a : Int) ((a + (runLen l - 1) : Nat) : Int) ++ l.drop (runLen l) = l
        rw [← htake, List.take_append_drop]
      refine ⟨(a, a + (runLen l - 1)) :: vs, ?_, hall⟩
      cases vs with
      | nil => show a ≤ a + (runLen l - 1); omega
      | cons u r =>
        refine ⟨by show a ≤ a + (runLen l - 1); omega, ?_, hs⟩
        show a + (runLen l - 1) + 1 < u.1
        obtain ⟨m, hm⟩ := spans_ne (r := r) hs.tail.1
        rw [hm] at hv
        have hrl : runLen l < l.length := by
          have := congrArg List.length hv
          simp [List.length_drop] at this
          omega
        have hu : l[runLen l] = (u.1 : Int) := by
          have h1 : (l.drop (runLen l))[0]'(by rw [List.length_drop]; omega) = (u.1 : Int) := by simp only [← hv, List.getElem_cons_zero]
          rw [← h1]; simp
        have h1 := ha' (runLen l - 1) (by omega)
        have h2 := runLen_get l (runLen l - 1) (by omega) (by omega) hlen
        have h3 : l[runLen l - 1 + 1]'(by omega) = (u.1 : Int) := by rw [← hu]; congr 1; omega
        rw [h3, h2, ← haI] at h1
        -- it is not the next one, for the run would be longer
        have h4 : (u.1 : Int) ≠ a + (runLen l - 1 : Nat) + 1 := by
          intro e
          -- the run stops there
          have hstop : runLen l = runLen l + 1 → False := by omega
          have hge : ∀ (m : List Int), ∀ (hm : 0 < m.length) (hk : runLen m < m.length), m[runLen m] ≠ m[runLen m - 1]'(by omega) + 1 := by
            intro m
            induction m with
            | nil => intro hm; simp at hm
            | cons x m ihm =>
              intro _ hk
              cases m with
              | nil => simp [runLen] at hk
              | cons y m =>
                by_cases hxy : y = x + 1
                · have hr : runLen (x :: y :: m) = runLen (y :: m) + 1 := by rw [runLen, if_pos hxy]
                  have hp2 := runLen_pos (l := y :: m) (by simp)
                  have := ihm (by simp) (by rw [hr] at hk; simpa using hk)
                  obtain ⟨q, hq⟩ : ∃ q, runLen (y :: m) = q + 1 := ⟨runLen (y :: m) - 1, by omega⟩
                  simp only [hr, hq] at this ⊢
                  simpa using this
                · have hr : runLen (x :: y :: m) = 1 := by rw [runLen, if_neg hxy]
                  simp only [hr]
                  simpa using hxy
          have := hge l hlen hrl
          rw [hu, h2, ← haI] at this
          exact this e
        omega
end Go.Proofs.YtoknncoolmbklaaDoor
/- Plain: what P1.7 says of lists and numbers. -/
namespace Go.Proofs.YtoknncoolmbklaaDoor
set_option linter.unusedVariables false
set_option linter.unusedSimpArgs false
open Go.RowKit

theorem Sep.all : ∀ {vs : List (Nat × Nat)}, Sep vs → ∀ v ∈ vs, v.1 ≤ v.2
  | [], _, v, hv => by cases hv
  | u :: r, h, v, hv => by
    rcases List.mem_cons.1 hv with rfl | hv
    · exact h.tail.1
    · exact h.tail.2.all v hv
theorem mem_span {a b : Nat} {x : Int} : x ∈ spanL (a : Int) b ↔ (a : Int) ≤ x ∧ x ≤ b := by
  unfold spanL
  rw [List.mem_map]
  constructor
  · rintro ⟨i, hi, rfl⟩
    rw [List.mem_range] at hi
    omega
  · rintro ⟨h1, h2⟩
    exact ⟨(x - a).toNat, by rw [List.mem_range]; omega, by omega⟩
theorem mem_spans {vs : List (Nat × Nat)} {x : Int} : x ∈ spans vs ↔ ∃ v ∈ vs, (v.1 : Int) ≤ x ∧ x ≤ v.2 := by
  unfold spans
  rw [List.mem_flatMap]
  constructor
  · rintro ⟨v, hv, hx⟩; exact ⟨v, hv, mem_span.1 hx⟩
  · rintro ⟨v, hv, hx⟩; exact ⟨v, hv, mem_span.2 hx⟩
theorem itoa_ne (u : Nat) : Lib.itoa (u : Int) ≠ [] := by rw [Lib.itoa_nonneg]; exact (dd_spec u u (Nat.le_refl _)).2.1
theorem txt_head (v : Nat × Nat) : ∃ c m, txt v = c :: m ∧ c ≠ 45 := by
  cases h : Lib.itoa (v.1 : Int) with
  | nil => exact absurd h (itoa_ne _)
  | cons c m =>
    refine ⟨c, m ++ (if (v.1 : Int) < v.2 then 45 :: Lib.itoa v.2 else []), ?_, dash_itoa v.1 c (by rw [h]; simp)⟩
    unfold txt runTxt; rw [h]; rfl
theorem joinR_ne {vs : List (Nat × Nat)} (h : vs ≠ []) : joinR vs ≠ [45] := by
  cases vs with
  | nil => exact absurd rfl h
  | cons v r =>
    obtain ⟨c, m, hc, h45⟩ := txt_head v
    cases r with
    | nil => rw [joinR, hc]; intro e; injection e with e _; exact h45 e
    | cons u r => rw [joinR, hc]; intro e; rw [List.cons_append] at e; injection e with e _; exact h45 e
theorem lastR_map {vs : List (Nat × Nat)} {v : Nat × Nat} (h : vs.getLast? = some v) : lastR (vs.map rnOf) = Lib.itoa v.2 := by
  unfold lastR; rw [List.getLast?_map, h]; rfl
theorem intE_itoa {u : Nat} : intE (Lib.itoa (u : Int)) 0 1000000000 = 0 ↔ u ≤ 1000000000 := by
  have hd : decL (Lib.itoa (u : Int)) = true := by rw [decL_plain (head_ne (dash_itoa _))]; exact natL_itoa u
  have hi : decInt (Lib.itoa (u : Int)) = u := by unfold decInt; rw [if_neg (head_ne (dash_itoa u)), decVal_itoa]
  unfold intE
  rw [if_pos hd, hi]
  unfold inI64
  constructor
  · intro h
    by_cases hu : u ≤ 1000000000
    · exact hu
    · rw [if_neg (by omega)] at h; cases h
  · intro h; rw [if_pos (by omega)]
theorem numsB_iff {l : List Int} : numsB l = true ↔ ∀ x ∈ l, 0 ≤ x ∧ x ≤ 1000000000 := by
  unfold numsB
  rw [List.all_eq_true]
  constructor
  · intro h x hx
    have := h x hx
    unfold numB at this
    simpa using this
  · intro h x hx
    have := h x hx
    unfold numB
    simpa using this
/-- P1.7, from a list on. -/
theorem parse_list {l : List Int} (h : lisE l = 0) : parE (lisS l) = 0 ∧ parV (lisS l) = l := by
  have h1 : ¬ 500 < l.length := by intro hh; unfold lisE at h; rw [if_pos hh] at h; cases h
  have h2 : numsB l = true := by
    cases hn : numsB l with
    | true => rfl
    | false => unfold lisE at h; rw [if_neg h1, if_pos hn] at h; cases h
  have h3 : ascB l = true := by
    cases hn : ascB l with
    | true => rfl
    | false => unfold lisE at h; rw [if_neg h1, if_neg (by rw [h2]; simp), if_pos hn] at h; cases h
  have hs : lisS l = listL l := by unfold lisS; rw [if_pos h]
  rw [hs]
  by_cases h0 : l = []
  · subst h0; exact ⟨rfl, rfl⟩
  · have hl : listL l = listC l := by unfold listL; rw [if_neg h0]
    have hn := numsB_iff.1 h2
    obtain ⟨vs, hv, rfl⟩ := runs_of _ l (Nat.le_refl _) (fun x hx => (hn x hx).1) h3
    have hvs : vs ≠ [] := by rintro rfl; exact h0 rfl
    rw [hl, listC_spans vs hv hvs]
    have hb : ∀ v ∈ vs, v.1 ≤ v.2 ∧ v.2 ≤ 1000000000 := by
      intro v hvm
      have hle := hv.all v hvm
      have := hn v.2 (mem_spans.2 ⟨v, hvm, by omega, by omega⟩)
      exact ⟨hle, by omega⟩
    have hr : runsL (joinR vs) = some (vs.map rnOf) := by
      unfold runsL
      rw [parts_joinR vs hvs]
      have := runsG_txt vs [] hv
      simpa using this
    obtain ⟨v, hvl⟩ : ∃ v, vs.getLast? = some v := by
      cases hx : vs.getLast? with
      | none => exact absurd (List.getLast?_eq_none_iff.1 hx) hvs
      | some v => exact ⟨v, rfl⟩
    have hlast : intE (lastR (vs.map rnOf)) 0 1000000000 = 0 := by
      rw [lastR_map hvl]
      exact intE_itoa.2 (hb v (List.mem_of_getLast? hvl)).2
    have hf := fillG_txt vs [] hb (by simp; omega)
    rw [List.nil_append] at hf
    unfold parE parV
    rw [if_neg (joinR_ne hvs), if_neg (joinR_ne hvs), hr]
    simp only
    rw [if_neg (by rw [hlast]; simp), if_neg (by rw [hlast]; simp), hf]
    exact ⟨rfl, rfl⟩

/-- Parts, put together again. -/
def joinC (c : UInt8) : List (List UInt8) → List UInt8
  | [] => []
  | [x] => x
  | x :: y :: r => x ++ c :: joinC c (y :: r)
theorem joinC_parts (c : UInt8) : ∀ (l cur : List UInt8), joinC c (partsC c cur l) = cur ++ l
  | [], cur => by simp [partsC, joinC]
  | x :: l, cur => by
    rw [partsC]
    by_cases h : x = c
    · rw [if_pos h]
      have ih := joinC_parts c l []
      cases hp : partsC c [] l with
      | nil => exact absurd hp (partsC_pos c l [])
      | cons y r => rw [hp] at ih; rw [joinC, ih, h]; rfl
    · rw [if_neg h, joinC_parts c l (cur ++ [x])]; simp
theorem parts_plain (c : UInt8) : ∀ (l cur : List UInt8), (∀ y ∈ cur, y ≠ c) → ∀ p ∈ partsC c cur l, ∀ y ∈ p, y ≠ c
  | [], cur, h, p, hp, y, hy => by
    rw [partsC, List.mem_singleton] at hp; rw [hp] at hy; exact h y hy
  | x :: l, cur, h, p, hp, y, hy => by
    rw [partsC] at hp
    by_cases hx : x = c
    · rw [if_pos hx] at hp
      rcases List.mem_cons.1 hp with rfl | hp
      · exact h y hy
      · exact parts_plain c l [] (fun z hz => by cases hz) p hp y hy
    · rw [if_neg hx] at hp
      refine parts_plain c l (cur ++ [x]) (fun z hz => ?_) p hp y hy
      rcases List.mem_append.1 hz with hz | hz
      · exact h z hz
      · rw [List.mem_singleton] at hz; rw [hz]; exact hx
/-- A run, as it is written. -/
theorem txt_of_runF {p : List UInt8} (h : (runF p).2.2 = true) : ∃ v : Nat × Nat, v.1 ≤ v.2 ∧ p = txt v ∧ runOf p = rnOf v := by
  obtain ⟨h1, h2⟩ := runF_parts p
  obtain ⟨q1, q2⟩ := h2 h
  rw [h1] at h
  have hj := joinC_parts 45 p []
  have hpl := parts_plain 45 p [] (fun z hz => by cases hz)
  change joinC 45 (partsL 45 p) = [] ++ p at hj
  change ∀ p' ∈ partsL 45 p, ∀ y ∈ p', y ≠ 45 at hpl
  match hp : partsL 45 p with
  | [] => rw [hp] at h; cases h
  | [e0] =>
    rw [hp] at h hj q1 q2 hpl
    have h : decL e0 = true := h
    have hn : natL e0 = true := by rw [decL_plain (head_ne (hpl e0 (by simp)))] at h; exact h
    have hpe : p = e0 := by simpa [joinC] using hj.symm
    refine ⟨(decVal 0 e0, decVal 0 e0), Nat.le_refl _, ?_, ?_⟩
    · rw [hpe]; unfold txt runTxt; simp only; rw [if_neg (by omega), itoa_decVal hn]; simp
    · unfold runOf rnOf
      simp only
      rw [itoa_decVal hn]
      simp at q1 q2
      rw [← q1, ← q2]
  | [e0, e1] =>
    rw [hp] at h hj q1 q2 hpl
    have h : (decL e0 && (decL e1 && lessL e0 e1)) = true := h
    rw [Bool.and_eq_true, Bool.and_eq_true] at h
    obtain ⟨d0, d1, d2⟩ := h
    have hn0 : natL e0 = true := by rw [decL_plain (head_ne (hpl e0 (by simp)))] at d0; exact d0
    have hn1 : natL e1 = true := by rw [decL_plain (head_ne (hpl e1 (by simp)))] at d1; exact d1
    rw [lessL_val hn0 hn1, decide_eq_true_iff] at d2
    have hpe : p = e0 ++ 45 :: e1 := by simpa [joinC] using hj.symm
    refine ⟨(decVal 0 e0, decVal 0 e1), by simp only; omega, ?_, ?_⟩
    · rw [hpe]; unfold txt runTxt; simp only; rw [if_pos (by omega), itoa_decVal hn0, itoa_decVal hn1]
    · unfold runOf rnOf
      simp only
      rw [itoa_decVal hn0, itoa_decVal hn1]
      simp at q1 q2
      rw [← q1, ← q2]
  | e0 :: e1 :: e2 :: er => rw [hp] at h; cases h
theorem runsG_inv : ∀ (ps : List (List UInt8)) (acc : List (Nat × Nat)) (rs : List RN), runsG (acc.map rnOf) ps = some rs → (∀ u, acc.getLast? = some u → u.1 ≤ u.2) → ∃ vs, rs = (acc ++ vs).map rnOf ∧ ps = vs.map txt ∧ Sep (acc.getLast?.toList ++ vs)
  | [], acc, rs, h, ha => by
    rw [runsG] at h
    injection h with h
    refine ⟨[], by rw [← h]; simp, rfl, ?_⟩
    cases hl : acc.getLast? with
    | none => trivial
    | some u => exact ha u hl
  | p :: ps, acc, rs, h, ha => by
    rw [runsG] at h
    by_cases ho : okRun (acc.map rnOf) p = true
    · rw [if_pos ho] at h
      unfold okRun at ho
      rw [Bool.and_eq_true] at ho
      obtain ⟨v, hv, hp, hr⟩ := txt_of_runF ho.1
      rw [hr] at h
      have h' : runsG ((acc ++ [v]).map rnOf) ps = some rs := by rw [List.map_append]; exact h
      obtain ⟨vs, e1, e2, e3⟩ := runsG_inv ps (acc ++ [v]) rs h' (fun u hu => by rw [List.getLast?_concat] at hu; injection hu with hu; rw [← hu]; exact hv)
      rw [List.getLast?_concat] at e3
      have e3 : Sep (v :: vs) := e3
      refine ⟨v :: vs, by rw [e1]; simp, by rw [List.map_cons, ← hp, ← e2], ?_⟩
      cases hl : acc.getLast? with
      | none => exact e3
      | some u =>
        refine ⟨ha u hl, ?_, e3⟩
        have hless := ho.2
        rw [List.getLast?_map, hl] at hless
        have hless : lessL (nextL (Lib.itoa u.2)) (runF p).1 = true := hless
        have hf1 : (runF p).1 = Lib.itoa v.1 := by
          have := congrArg Prod.fst hr
          exact this
        have hn := nextL_nat (natL_itoa u.2)
        rw [hf1, lessL_val hn.1 (natL_itoa _), hn.2, decVal_itoa, decVal_itoa, decide_eq_true_iff] at hless
        exact hless
    · rw [if_neg ho] at h; cases h
theorem joinC_txt : ∀ (vs : List (Nat × Nat)), joinC 44 (vs.map txt) = joinR vs
  | [] => rfl
  | [v] => rfl
  | v :: u :: r => by
    have := joinC_txt (u :: r)
    rw [List.map_cons] at this
    rw [List.map_cons, List.map_cons, joinC, this, joinR]
theorem Sep.le_last : ∀ {vs : List (Nat × Nat)}, Sep vs → ∀ {w : Nat × Nat}, vs.getLast? = some w → ∀ v ∈ vs, v.2 ≤ w.2
  | [], _, w, hw, v, hv => by cases hv
  | [u], h, w, hw, v, hv => by
    simp at hw hv; rw [hv, hw]; exact Nat.le_refl _
  | u :: x :: r, h, w, hw, v, hv => by
    have hw' : (x :: r).getLast? = some w := by simpa using hw
    have ih := Sep.le_last h.2.2 hw'
    rcases List.mem_cons.1 hv with rfl | hv
    · have h1 := ih x (by simp)
      have h2 := h.2.1
      have h3 := h.2.2.tail.1
      omega
    · exact ih v hv
theorem fillG_inv : ∀ (vs : List (Nat × Nat)) (acc zs : List Int), (∀ v ∈ vs, v.1 ≤ v.2 ∧ v.2 ≤ 1000000000) → acc.length ≤ 500 → fillG acc (vs.map rnOf) = some zs → zs = acc ++ spans vs ∧ zs.length ≤ 500
  | [], acc, zs, _, ha, h => by
    simp only [List.map_nil, fillG] at h
    injection h with h
    rw [← h]
    exact ⟨by simp [spans], ha⟩
  | v :: r, acc, zs, hb, ha, h => by
    obtain ⟨h1, h2⟩ := hb v (by simp)
    have e1 : numV (rnOf v).1 = v.1 := numV_itoa (by omega)
    have e2 : numV (rnOf v).2 = v.2 := numV_itoa h2
    rw [List.map_cons, fillG, e1, e2] at h
    by_cases h5 : 500 ≤ (v.2 : Int) - v.1 + acc.length
    · rw [if_pos h5] at h; cases h
    · rw [if_neg h5] at h
      obtain ⟨k1, k2⟩ := fillG_inv r _ zs (fun u hu => hb u (by simp [hu])) (by rw [List.length_append, span_len h1]; omega) h
      exact ⟨by rw [k1, spans_cons]; simp, k2⟩
theorem asc_pair : ∀ {l : List Int}, l.Pairwise (· < ·) → ascB l = true
  | [], _ => rfl
  | [a], _ => rfl
  | a :: b :: r, h => by
    rw [List.pairwise_cons] at h
    rw [ascB, Bool.and_eq_true, decide_eq_true_iff]
    exact ⟨h.1 b (by simp), asc_pair h.2⟩
theorem spans_low : ∀ {vs : List (Nat × Nat)} {u : Nat × Nat} {r : List (Nat × Nat)}, vs = u :: r → Sep vs → ∀ x ∈ spans vs, (u.1 : Int) ≤ x
  | _, u, [], rfl, h, x, hx => by
    obtain ⟨v, hv, h1, _⟩ := mem_spans.1 hx
    simp at hv; rw [hv] at h1; exact h1
  | _, u, w :: r, rfl, h, x, hx => by
    rw [spans_cons, List.mem_append] at hx
    rcases hx with hx | hx
    · exact (mem_span.1 hx).1
    · have := spans_low rfl h.2.2 x hx
      have h1 := h.1
      have h2 := h.2.1
      omega
theorem spans_pair : ∀ {vs : List (Nat × Nat)}, Sep vs → (spans vs).Pairwise (· < ·)
  | [], _ => List.Pairwise.nil
  | v :: r, h => by
    rw [spans_cons, List.pairwise_append]
    refine ⟨?_, spans_pair h.tail.2, fun a ha b hb => ?_⟩
    · unfold spanL
      rw [List.pairwise_map]
      exact List.pairwise_lt_range.imp (fun hab => by omega)
    · have h1 := (mem_span.1 ha).2
      cases r with
      | nil => simp [spans] at hb
      | cons u r =>
        have := spans_low rfl h.2.2 b hb
        have h2 := h.2.1
        omega
/-- P1.7, from a list expression on. -/
theorem list_parse {s : List UInt8} (h : parE s = 0) : lisE (parV s) = 0 ∧ lisS (parV s) = s := by
  by_cases h45 : s = [45]
  · subst h45; exact ⟨rfl, rfl⟩
  · unfold parE at h
    unfold parV
    rw [if_neg h45] at h ⊢
    cases hr : runsL s with
    | none => rw [hr] at h; simp at h
    | some rs =>
      rw [hr] at h
      simp only at h ⊢
      by_cases hi : intE (lastR rs) 0 1000000000 = 0
      · rw [if_neg (by simpa using hi)] at h ⊢
        cases hf : fillG [] rs with
        | none => rw [hf] at h; simp at h
        | some zs =>
          simp only
          unfold runsL at hr
          obtain ⟨vs, e1, e2, e3⟩ := runsG_inv (partsL 44 s) [] rs hr (fun u hu => by cases hu)
          have e3 : Sep vs := e3
          rw [List.nil_append] at e1
          have hvs : vs ≠ [] := by
            rintro rfl
            exact partsC_pos 44 s [] e2
          have hs : s = joinR vs := by
            have := joinC_parts 44 s []
            change joinC 44 (partsL 44 s) = [] ++ s at this
            rw [e2, joinC_txt] at this
            simpa using this.symm
          obtain ⟨v, hvl⟩ : ∃ v, vs.getLast? = some v := by
            cases hx : vs.getLast? with
            | none => exact absurd (List.getLast?_eq_none_iff.1 hx) hvs
            | some v => exact ⟨v, rfl⟩
          rw [e1, lastR_map hvl] at hi
          have hmax := intE_itoa.1 hi
          have hb : ∀ u ∈ vs, u.1 ≤ u.2 ∧ u.2 ≤ 1000000000 := fun u hu => ⟨e3.all u hu, Nat.le_trans (e3.le_last hvl u hu) hmax⟩
          rw [e1] at hf
          obtain ⟨k1, k2⟩ := fillG_inv vs [] zs hb (by simp) hf
          rw [List.nil_append] at k1
          have hn : numsB zs = true := numsB_iff.2 fun x hx => by
            rw [k1] at hx
            obtain ⟨u, hu, q1, q2⟩ := mem_spans.1 hx
            have := hb u hu
            omega
          have ha : ascB zs = true := by rw [k1]; exact asc_pair (spans_pair e3)
          have hE : lisE zs = 0 := by unfold lisE; rw [if_neg (by omega), if_neg (by rw [hn]; simp), if_neg (by rw [ha]; simp)]
          refine ⟨hE, ?_⟩
          have hz : zs ≠ [] := by
            rw [k1]
            cases vs with
            | nil => exact absurd rfl hvs
            | cons u r =>
              obtain ⟨m, hm⟩ := spans_ne (r := r) e3.tail.1
              rw [hm]; simp
          unfold lisS listL
          rw [if_pos hE, if_neg hz, k1, listC_spans vs e3 hvs, hs]
      · rw [if_pos hi] at h; cases h

/-- P1.7, from a number on. -/
theorem int_digits {n : Int} (h : inI64 n) : intV (Lib.itoa n) n n = n ∧ intE (Lib.itoa n) n n = 0 := by
  have key : decL (Lib.itoa n) = true ∧ decInt (Lib.itoa n) = n := by
    by_cases h0 : 0 ≤ n
    · obtain ⟨u, rfl⟩ : ∃ u : Nat, n = u := ⟨n.toNat, by omega⟩
      exact ⟨by rw [decL_plain (head_ne (dash_itoa _))]; exact natL_itoa u, by unfold decInt; rw [if_neg (head_ne (dash_itoa u)), decVal_itoa]⟩
    · obtain ⟨u, hu, rfl⟩ : ∃ u : Nat, 1 ≤ u ∧ n = -(u : Int) := ⟨n.natAbs, by omega, by omega⟩
      rw [Lib.itoa_neg u hu]
      refine ⟨?_, ?_⟩
      · unfold decL
        rw [if_pos (by simp), List.tail_cons, natL_dd]
        simp only [Bool.true_and, decide_eq_true_eq]
        intro e
        have := (dd_spec u u (Nat.le_refl _)).2.2.1 hu
        rw [e] at this
        simp at this
      · unfold decInt
        rw [if_pos (by simp), List.tail_cons, decVal_dd]
  unfold intV intE
  rw [key.1, key.2, if_pos ⟨rfl, h, by omega, by omega⟩, if_pos rfl, if_pos ⟨h, by omega, by omega⟩]
  exact ⟨rfl, rfl⟩
theorem digits_int {s : List UInt8} {low high : Int} (h : intE s low high = 0) : Lib.itoa (intV s low high) = s ∧ inI64 (intV s low high) := by
  unfold intE at h
  by_cases hd : decL s = true
  · rw [if_pos hd] at h
    by_cases hc : inI64 (decInt s) ∧ low ≤ decInt s ∧ decInt s ≤ high
    · have hv : intV s low high = decInt s := by unfold intV; rw [if_pos ⟨hd, hc⟩]
      rw [hv]
      refine ⟨?_, hc.1⟩
      unfold decL at hd
      by_cases h45 : s.head? = some 45
      · rw [if_pos h45] at hd
        rw [Bool.and_eq_true, decide_eq_true_iff] at hd
        cases s with
        | nil => simp at h45
        | cons a t =>
          obtain rfl : a = 45 := by simpa using h45
          rw [List.tail_cons] at hd
          have hp : 1 ≤ decVal 0 t := by
            obtain ⟨t0, t1, _⟩ := natL_iff.1 hd.1
            refine decVal_pos (natL_digits hd.1) t0 fun e => ?_
            cases t with
            | nil => exact t0 rfl
            | cons b t =>
              simp at e
              subst e
              cases t with
              | nil => exact hd.2 rfl
              | cons x t => exact t1 ⟨rfl, by simp⟩
          have hi : decInt (45 :: t) = -(decVal 0 t : Int) := by unfold decInt; rw [if_pos (by simp), List.tail_cons]
          rw [hi, Lib.itoa_neg _ hp, dd_decVal _ t (Nat.le_refl _) hd.1]
      · rw [if_neg h45] at hd
        have hi : decInt s = (decVal 0 s : Int) := by unfold decInt; rw [if_neg h45]
        rw [hi, itoa_decVal hd]
    · rw [if_neg hc] at h; cases h
  · rw [if_neg hd] at h; cases h
end Go.Proofs.YtoknncoolmbklaaDoor
