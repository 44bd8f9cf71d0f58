/- Plain: quoted forms, written and read. -/
import Derived.Test.YtjjghagjigaljaaDoorEscP
namespace Go.Proofs.YtjjghagjigaljaaDoor
open Go.RowKit

/-- The quoted form of a string. -/
def quoteL (x : List UInt8) : List UInt8 := 34 :: (x.flatMap esc ++ [34])

/-- Reads behind the opening quote: the string, and how many bytes were read, the closing quote among them. -/
def rqB : Nat → List UInt8 → Option (List UInt8 × Nat)
  | 0, _ => none
  | f + 1, l => match l with
    | [] => none
    | a :: r => if a = 34 then some ([], 1) else
      match rbL (a :: r) with
      | none => none
      | some (v, n) => (rqB f ((a :: r).drop n)).map fun p => (UInt8.ofNat v.toNat :: p.1, p.2 + n)

theorem rbL_pos {l : List UInt8} {v : Int} {n : Nat} (h : rbL l = some (v, n)) : 1 ≤ n ∧ n ≤ l.length ∧ n ≤ 4 ∧ 0 ≤ v ∧ v < 256 := by
  obtain ⟨c, r, rfl, rfl, rfl⟩ := esc_rb h
  have := esc_len c
  have := c.toNat_lt
  simp; omega

theorem rqB_fuel : ∀ (f g : Nat) (l : List UInt8), l.length < f → l.length < g → rqB f l = rqB g l := by
  intro f
  induction f with
  | zero => intro g l h; omega
  | succ f ih =>
    intro g l hf hg
    cases g with
    | zero => omega
    | succ g =>
      cases l with
      | nil => rfl
      | cons a r =>
        simp only [rqB]
        by_cases ha : a = 34
        · rw [if_pos ha, if_pos ha]
        · rw [if_neg ha, if_neg ha]
          cases hb : rbL (a :: r) with
          | none => rfl
          | some p =>
            obtain ⟨v, n⟩ := p
            have hp := rbL_pos hb
            simp only
            rw [ih g _ (by simp [List.length_drop] at *; omega) (by simp [List.length_drop] at *; omega)]

def rqC (l : List UInt8) : Option (List UInt8 × Nat) := rqB (l.length + 1) l
theorem rqC_nil : rqC [] = none := rfl
theorem rqC_quote (r : List UInt8) : rqC (34 :: r) = some ([], 1) := by simp [rqC, rqB]
theorem rqC_step {l : List UInt8} {v : Int} {n : Nat} (h0 : l.head? ≠ some 34) (h : rbL l = some (v, n)) : rqC l = (rqC (l.drop n)).map fun p => (UInt8.ofNat v.toNat :: p.1, p.2 + n) := by
  cases l with
  | nil => simp [rbL] at h
  | cons a r =>
    have ha : a ≠ 34 := by simpa using h0
    have hp := rbL_pos h
    unfold rqC
    rw [rqB, if_neg ha, h]
    simp only
    rw [rqB_fuel _ (((a :: r).drop n).length + 1) _ (by simp [List.length_drop] at *; omega) (by omega)]
theorem rqC_none {l : List UInt8} (h0 : l.head? ≠ some 34) (h : rbL l = none) : rqC l = none := by
  cases l with
  | nil => rfl
  | cons a r =>
    have ha : a ≠ 34 := by simpa using h0
    unfold rqC
    rw [rqB, if_neg ha, h]

/-- The quoted form at the beginning of a string: its string, and its length. -/
def rqL (l : List UInt8) : Option (List UInt8 × Nat) := if l.head? = some 34 then (rqC l.tail).map fun p => (p.1, p.2 + 1) else none

theorem head_esc (c : UInt8) (r : List UInt8) : (esc c ++ r).head? ≠ some 34 := by
  unfold esc
  split
  · rename_i h; intro h'; simp at h'; rw [h'] at h; simp [plB] at h
  · split <;> simp

theorem rqC_of (x r : List UInt8) : rqC (x.flatMap esc ++ 34 :: r) = some (x, (x.flatMap esc).length + 1) := by
  induction x with
  | nil => exact rqC_quote r
  | cons c x ih =>
    rw [List.flatMap_cons, List.append_assoc, rqC_step (head_esc c _) (rb_esc c _)]
    rw [List.drop_left, ih]
    simp [Nat.add_comm, Nat.add_left_comm]

theorem rqL_of (x r : List UInt8) : rqL (quoteL x ++ r) = some (x, (quoteL x).length) := by
  unfold rqL quoteL
  simp only [List.cons_append, List.head?_cons, ↓reduceIte, List.tail_cons, List.append_assoc, List.nil_append]
  rw [rqC_of]; simp

theorem of_rqC : ∀ (k : Nat) (l x : List UInt8) (n : Nat), l.length ≤ k → rqC l = some (x, n) → ∃ r, l = x.flatMap esc ++ 34 :: r ∧ n = (x.flatMap esc).length + 1 := by
  intro k
  induction k with
  | zero =>
    intro l x n hk h
    obtain rfl : l = [] := List.length_eq_zero_iff.1 (by omega)
    rw [rqC_nil] at h; simp at h
  | succ k ih =>
    intro l x n hk h
    by_cases h0 : l.head? = some 34
    · cases l with
      | nil => simp at h0
      | cons a r =>
        obtain rfl : a = 34 := by simpa using h0
        rw [rqC_quote] at h
        simp only [Option.some.injEq, Prod.mk.injEq] at h
        obtain ⟨rfl, rfl⟩ := h
        exact ⟨r, rfl, rfl⟩
    · cases hb : rbL l with
      | none => rw [rqC_none h0 hb] at h; simp at h
      | some p =>
        obtain ⟨v, m⟩ := p
        rw [rqC_step h0 hb] at h
        cases hq : rqC (l.drop m) with
        | none => rw [hq] at h; simp at h
        | some q =>
          obtain ⟨y, m'⟩ := q
          rw [hq] at h
          simp only [Option.map_some, Option.some.injEq, Prod.mk.injEq] at h
          obtain ⟨rfl, rfl⟩ := h
          have hp := rbL_pos hb
          obtain ⟨r, hr, rfl⟩ := ih _ _ _ (by rw [List.length_drop]; omega) hq
          obtain ⟨c, r', rfl, hl, rfl⟩ := esc_rb hb
          rw [hl, List.drop_left] at hr
          refine ⟨r, ?_, ?_⟩
          · rw [hl, hr]; simp
          · simp; omega

theorem of_rqL {l x : List UInt8} {n : Nat} (h : rqL l = some (x, n)) : ∃ r, l = quoteL x ++ r ∧ n = (quoteL x).length := by
  unfold rqL at h
  by_cases h0 : l.head? = some 34
  · rw [if_pos h0] at h
    cases hq : rqC l.tail with
    | none => rw [hq] at h; simp at h
    | some q =>
      obtain ⟨y, m⟩ := q
      rw [hq] at h
      simp only [Option.map_some, Option.some.injEq, Prod.mk.injEq] at h
      obtain ⟨rfl, rfl⟩ := h
      obtain ⟨r, hr, rfl⟩ := of_rqC _ _ _ _ (Nat.le_refl _) hq
      refine ⟨r, ?_, ?_⟩
      · cases l with
        | nil => simp at h0
        | cons a l =>
          obtain rfl : a = 34 := by simpa using h0
          simp only [List.tail_cons] at hr
          rw [hr]; simp [quoteL]
      · simp [quoteL]
  · rw [if_neg h0] at h; simp at h

/-- What readQuoted returns. -/
def rqT (l : List UInt8) : List UInt8 := match rqL l with | some (x, _) => x | none => []
def rqN (l : List UInt8) : Int := match rqL l with | some (_, n) => n | none => 0
theorem rqC_len {l x : List UInt8} {n : Nat} (h : rqC l = some (x, n)) : n ≤ l.length ∧ x.length ≤ n := by
  obtain ⟨r, rfl, rfl⟩ := of_rqC _ _ _ _ (Nat.le_refl _) h
  have : ∀ y : List UInt8, y.length ≤ (y.flatMap esc).length := by
    intro y
    induction y with
    | nil => simp
    | cons c y ih => have := esc_len c; simp [List.flatMap_cons] at *; omega
  have := this x
  rw [List.length_append, List.length_cons]; omega
end Go.Proofs.YtjjghagjigaljaaDoor
