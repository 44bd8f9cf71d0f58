/- Plain: list expressions, written. -/
import Derived.Test.YtjjghagjigaljaaDoorDigP
namespace Go.Proofs.YtjjghagjigaljaaDoor
open Go.RowKit

def numB (n : Int) : Bool := decide (0 ≤ n) && decide (n ≤ 1000000000)
def numsB (l : List Int) : Bool := l.all numB
def ascB : List Int → Bool
  | a :: b :: r => decide (a < b) && ascB (b :: r)
  | _ => true
/-- How many integers at the beginning are consecutive. -/
def runLen : List Int → Nat
  | [] => 0
  | a :: r => match r with
    | [] => 1
    | b :: _ => if b = a + 1 then runLen r + 1 else 1
def runTxt (a b : Int) : List UInt8 := Lib.itoa a ++ (if a < b then 45 :: Lib.itoa b else [])
def listF : Nat → List Int → List UInt8
  | 0, _ => []
  | f + 1, l => match l with
    | [] => []
    | a :: r => runTxt a (a + (runLen (a :: r) : Int) - 1) ++ (if (a :: r).drop (runLen (a :: r)) = [] then [] else 44 :: listF f ((a :: r).drop (runLen (a :: r))))
def listC (l : List Int) : List UInt8 := listF (l.length + 1) l
/-- The list expression. -/
def listL (l : List Int) : List UInt8 := if l = [] then [45] else listC l
/-- P1.6: what List returns. -/
def lisE (l : List Int) : Int := if 500 < l.length then 3 else if numsB l = false then 7 else if ascB l = false then 6 else 0
def lisS (l : List Int) : List UInt8 := if lisE l = 0 then listL l else []

theorem runLen_pos {l : List Int} (h : l ≠ []) : 1 ≤ runLen l := by
  cases l with
  | nil => exact absurd rfl h
  | cons a r => cases r with
    | nil => simp [runLen]
    | cons b r => rw [runLen]; split <;> omega
theorem runLen_le (l : List Int) : runLen l ≤ l.length := by
  induction l with
  | nil => simp [runLen]
  | cons a r ih =>
    cases r with
    | nil => simp [runLen]
    | cons b r => rw [runLen]; simp at ih ⊢; split <;> omega
theorem runLen_get : ∀ (l : List Int) (j : Nat) (_h : j < runLen l) (hl : j < l.length) (h0 : 0 < l.length), l[j] = l[0] + j := by
  intro l
  induction l with
  | nil => intro j h hl; simp at hl
  | cons a r ih =>
    intro j h hl h0
    cases j with
    | zero => simp
    | succ j =>
      cases r with
      | nil => simp at hl
      | cons b r =>
        rw [runLen] at h
        split at h
        · rename_i hb
          have := ih j (by omega) (by simpa using hl) (by simp)
          simp at this ⊢
          rw [this, hb]; omega
        · omega
/-- Where the run stops. -/
theorem runLen_of {l : List Int} {k : Nat} (h1 : 1 ≤ k) (hk : k ≤ l.length) (hc : ∀ j (_ : j + 1 < k) (h' : j + 1 < l.length), l[j + 1] = l[j] + 1) (hs : ∀ h : k < l.length, l[k] ≠ l[k - 1] + 1) : runLen l = k := by
  induction l generalizing k with
  | nil => simp at hk; omega
  | cons a r ih =>
    cases r with
    | nil => simp at hk; simp [runLen]; omega
    | cons b r =>
      rw [runLen]
      by_cases hb : b = a + 1
      · rw [if_pos hb]
        obtain ⟨k', rfl⟩ : ∃ k', k = k' + 1 := ⟨k - 1, by omega⟩
        have hk1 : 1 ≤ k' := by
          rcases Nat.eq_zero_or_pos k' with h | h
          · subst h; exact absurd (by simpa using hb) (hs (by simp))
          · exact h
        rw [ih (k := k') hk1 (by simpa using hk) (fun j h h' => by have := hc (j + 1) (by omega) (by simpa using h'); simpa using this) (fun h => by
          have := hs (by simpa using h)
          obtain ⟨m, rfl⟩ : ∃ m, k' = m + 1 := ⟨k' - 1, by omega⟩
          simpa using this)]
      · rw [if_neg hb]
        rcases Nat.lt_or_ge 1 k with h | h
        · exact absurd (by have := hc 0 (by omega) (by simp); simpa using this) hb
        · omega
theorem ascB_iff {l : List Int} : ascB l = true ↔ ∀ j (h : j + 1 < l.length), l[j] < l[j + 1] := by
  induction l with
  | nil => simp [ascB]
  | cons a r ih =>
    cases r with
    | nil => simp [ascB]
    | cons b r =>
      rw [ascB, Bool.and_eq_true, ih, decide_eq_true_iff]
      constructor
      · rintro ⟨h1, h2⟩ j h
        cases j with
        | zero => simpa using h1
        | succ j => have := h2 j (by simpa using h); simpa using this
      · intro h
        exact ⟨by have := h 0 (by simp); simpa using this, fun j hj => by have := h (j + 1) (by simpa using hj); simpa using this⟩

theorem listF_fuel : ∀ (f g : Nat) (l : List Int), l.length < f → l.length < g → listF f l = listF g l := by
  intro f
  induction f with
  | zero => intro g l h; omega
  | succ f ih =>
    intro g l hf hg
    cases g with
    | zero => omega
    | succ g =>
      cases l with
      | nil => rfl
      | cons a r =>
        have hp := runLen_pos (l := a :: r) (by simp)
        rw [listF, listF, ih g _ (by rw [List.length_drop]; simp at *; omega) (by rw [List.length_drop]; simp at *; omega)]
theorem listC_step {a : Int} {r : List Int} : listC (a :: r) = runTxt a (a + (runLen (a :: r) : Int) - 1) ++ (if (a :: r).drop (runLen (a :: r)) = [] then [] else 44 :: listC ((a :: r).drop (runLen (a :: r)))) := by
  have hp := runLen_pos (l := a :: r) (by simp)
  unfold listC
  rw [listF, listF_fuel _ (((a :: r).drop (runLen (a :: r))).length + 1) _ (by rw [List.length_drop]; simp at *; omega) (by omega)]
end Go.Proofs.YtjjghagjigaljaaDoor
