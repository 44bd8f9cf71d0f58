/- Plain: the bytes of quoted forms, read and written. -/
import Derived.Test.YtjjghagjigaljaaDoorNumP
namespace Go.Proofs.YtjjghagjigaljaaDoor
open Go.RowKit

def letV (c : Int) : Int := if c = 34 then 34 else if c = 92 then 92 else if c = 10 then 110 else if c = 13 then 114 else if c = 9 then 116 else 0
def letB (c : Int) : Bool := decide (c = 34) || decide (c = 92) || decide (c = 10) || decide (c = 13) || decide (c = 9)
/-- The byte that a letter stands for. -/
def unlet (c : Int) : Option Int := if c = 34 then some 34 else if c = 92 then some 92 else if c = 110 then some 10 else if c = 114 then some 13 else if c = 116 then some 9 else none
/-- The place of a byte among the digits of base 16; -1: it is none. -/
def hexI (c : Int) : Int := if 48 ≤ c ∧ c ≤ 57 then c - 48 else if 97 ≤ c ∧ c ≤ 102 then c - 87 else -1
def hexD (n : Nat) : UInt8 := UInt8.ofNat (if n < 10 then 48 + n else 87 + n)
/-- The bytes that stand for a byte between quotes. -/
def esc (c : UInt8) : List UInt8 :=
  if plB c.toNat = true then [c] else if letB c.toNat = true then [92, UInt8.ofNat (letV c.toNat).toNat] else [92, 120, hexD (c.toNat / 16), hexD (c.toNat % 16)]
def rhexL : List UInt8 → Option (Int × Nat)
  | _ :: _ :: a :: b :: _ => if 0 ≤ hexI a.toNat ∧ 0 ≤ hexI b.toNat ∧ letB (hexI a.toNat * 16 + hexI b.toNat) = false ∧ plB (hexI a.toNat * 16 + hexI b.toNat) = false then some (hexI a.toNat * 16 + hexI b.toNat, 4) else none
  | _ => none
/-- What readByte reads: the byte, and how many bytes stand for it. -/
def rbL : List UInt8 → Option (Int × Nat)
  | [] => none
  | a :: r => if plB a.toNat = true then some (a.toNat, 1) else if a ≠ 92 then none else
    match r with
    | [] => none
    | b :: _ => if b = 120 then rhexL (a :: r) else (unlet b.toNat).map fun c => (c, 2)
def oV (o : Option (Int × Nat)) : Int := match o with | some (v, _) => v | none => 0
def oN (o : Option (Int × Nat)) : Int := match o with | some (_, n) => n | none => 0

theorem hexI_lt (c : Int) : hexI c < 16 := by unfold hexI; split <;> (try split) <;> omega
theorem hexI_ge (c : Int) : -1 ≤ hexI c := by unfold hexI; split <;> (try split) <;> omega

theorem esc_len (c : UInt8) : 1 ≤ (esc c).length ∧ (esc c).length ≤ 4 := by unfold esc; split <;> (try split) <;> simp

theorem rb_esc_fin : ∀ c : Fin 256, (if plB c.val = true then True else if letB c.val = true then unlet (UInt8.ofNat (letV c.val).toNat).toNat = some (c.val : Int) ∧ UInt8.ofNat (letV c.val).toNat ≠ 120
    else hexI (hexD (c.val / 16)).toNat = c.val / 16 ∧ hexI (hexD (c.val % 16)).toNat = c.val % 16) := by decide +kernel

/-- What is written is read. -/
theorem rb_esc (c : UInt8) (r : List UInt8) : rbL (esc c ++ r) = some ((c.toNat : Int), (esc c).length) := by
  have h := rb_esc_fin ⟨c.toNat, c.toNat_lt⟩
  simp only at h
  unfold esc
  by_cases hp : plB c.toNat = true
  · rw [if_pos hp]; simp [rbL, hp]
  · rw [if_neg hp] at h ⊢
    by_cases hl : letB c.toNat = true
    · rw [if_pos hl] at h ⊢
      have h92 : plB ((92 : UInt8).toNat : Int) = false := by decide
      simp only [List.cons_append, List.nil_append, rbL, h92, Bool.false_eq_true, ↓reduceIte, ne_eq, not_true_eq_false]
      rw [if_neg h.2, h.1]
      rfl
    · rw [if_neg hl] at h ⊢
      have h92 : plB ((92 : UInt8).toNat : Int) = false := by decide
      simp only [List.cons_append, List.nil_append, rbL, h92, Bool.false_eq_true, ↓reduceIte, ne_eq, not_true_eq_false, rhexL]
      have e : hexI ((hexD (c.toNat / 16)).toNat : Int) * 16 + hexI ((hexD (c.toNat % 16)).toNat : Int) = c.toNat := by rw [h.1, h.2]; omega
      rw [e, h.1, h.2, if_pos ⟨by omega, by omega, by simpa using hl, by simpa using hp⟩]
      rfl

theorem unesc_let_fin : ∀ b : Fin 256, ∀ v : Fin 256, unlet b.val = some (v.val : Int) → plB v.val = false ∧ letB v.val = true ∧ letV v.val = b.val := by decide +kernel
theorem unesc_hex_fin : ∀ a : Fin 256, 0 ≤ hexI a.val → hexD (hexI a.val).toNat = UInt8.ofNat a.val := by decide +kernel
theorem unlet_range {b v : Int} (h : unlet b = some v) : 0 ≤ v ∧ v < 256 := by
  unfold unlet at h
  repeat' split at h
  all_goals first | (injection h with h; omega) | simp at h

theorem esc_rb {l : List UInt8} {v : Int} {n : Nat} (h : rbL l = some (v, n)) : ∃ c : UInt8, ∃ r, v = c.toNat ∧ l = esc c ++ r ∧ n = (esc c).length := by
  cases l with
  | nil => simp [rbL] at h
  | cons a r =>
    by_cases hp : plB a.toNat = true
    · simp only [rbL, hp, ↓reduceIte, Option.some.injEq, Prod.mk.injEq] at h
      refine ⟨a, r, h.1.symm, ?_, ?_⟩ <;> simp [esc, hp, h.2]
    · simp only [rbL] at h
      rw [if_neg hp] at h
      by_cases ha : a = 92
      · subst ha
        rw [if_neg (by simp)] at h
        cases r with
        | nil => simp at h
        | cons b r =>
          simp only at h
          by_cases hb : b = 120
          · subst hb
            rw [if_pos rfl] at h
            match r, h with
            | x :: y :: r', h =>
              simp only [rhexL] at h
              split at h
              · rename_i hc
                obtain ⟨h1, h2, h3, h4⟩ := hc
                simp only [Option.some.injEq, Prod.mk.injEq] at h
                obtain ⟨rfl, rfl⟩ := h
                have b1 := hexI_lt x.toNat
                have b2 := hexI_lt y.toNat
                have e0 : (UInt8.ofNat (hexI x.toNat * 16 + hexI y.toNat).toNat).toNat = (hexI x.toNat * 16 + hexI y.toNat).toNat := by
                  rw [UInt8.toNat_ofNat']; omega
                have e : ((UInt8.ofNat (hexI x.toNat * 16 + hexI y.toNat).toNat).toNat : Int) = hexI x.toNat * 16 + hexI y.toNat := by rw [e0]; omega
                have ex := unesc_hex_fin ⟨x.toNat, x.toNat_lt⟩ h1
                have ey := unesc_hex_fin ⟨y.toNat, y.toNat_lt⟩ h2
                simp only [UInt8.ofNat_toNat] at ex ey
                have hesc : esc (UInt8.ofNat (hexI x.toNat * 16 + hexI y.toNat).toNat) = [92, 120, x, y] := by
                  unfold esc
                  rw [e, if_neg (by simp [h4]), if_neg (by simp [h3]), e0]
                  rw [show (hexI ↑x.toNat * 16 + hexI ↑y.toNat).toNat / 16 = (hexI ↑x.toNat).toNat by omega, show (hexI ↑x.toNat * 16 + hexI ↑y.toNat).toNat % 16 = (hexI ↑y.toNat).toNat by omega, ex, ey]
                refine ⟨UInt8.ofNat (hexI x.toNat * 16 + hexI y.toNat).toNat, r', e.symm, ?_, ?_⟩
                · rw [hesc]; rfl
                · rw [hesc]; rfl
              · simp at h
            | [_], h => simp [rhexL] at h
            | [], h => simp [rhexL] at h
          · rw [if_neg hb] at h
            cases hu : unlet b.toNat with
            | none => rw [hu] at h; simp at h
            | some u =>
              rw [hu] at h
              simp only [Option.map_some, Option.some.injEq, Prod.mk.injEq] at h
              obtain ⟨rfl, rfl⟩ := h
              have hr := unlet_range hu
              have hf := unesc_let_fin ⟨b.toNat, b.toNat_lt⟩ ⟨u.toNat, by omega⟩ (by simp only; rw [hu]; congr 1; omega)
              simp only at hf
              rw [show ((u.toNat : Nat) : Int) = u by omega] at hf
              have e0 : (UInt8.ofNat u.toNat).toNat = u.toNat := by rw [UInt8.toNat_ofNat']; omega
              have e : ((UInt8.ofNat u.toNat).toNat : Int) = u := by rw [e0]; omega
              have hesc : esc (UInt8.ofNat u.toNat) = [92, b] := by
                unfold esc
                rw [e, if_neg (by simp [hf.1]), if_pos hf.2.1, hf.2.2]
                simp
              refine ⟨UInt8.ofNat u.toNat, r, e.symm, ?_, ?_⟩
              · rw [hesc]; rfl
              · rw [hesc]; rfl
      · rw [if_pos ha] at h; simp at h
end Go.Proofs.YtjjghagjigaljaaDoor
