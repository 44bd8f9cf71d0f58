/- Plain: list expressions, read. -/
import Derived.Test.YtjjghagjigaljaaDoorLess
import Derived.Lib.IndexMore
import Derived.Lib.IndexBytes
namespace Go.Proofs.YtjjghagjigaljaaDoor
open Go.RowKit

/-- The parts of a string between the bytes c; cur: what has been read of the first one. -/
def partsC (c : UInt8) : List UInt8 → List UInt8 → List (List UInt8)
  | cur, [] => [cur]
  | cur, x :: r => if x = c then cur :: partsC c [] r else partsC c (cur ++ [x]) r
def partsL (c : UInt8) (l : List UInt8) : List (List UInt8) := partsC c [] l
/-- A run as it is read: its ends, and whether it is one. -/
def runF (l : List UInt8) : List UInt8 × List UInt8 × Bool :=
  if (Lib.cut l [45]).2.2 = true then ((Lib.cut l [45]).1, (Lib.cut l [45]).2.1, natL (Lib.cut l [45]).1 && natL (Lib.cut l [45]).2.1 && lessL (Lib.cut l [45]).1 (Lib.cut l [45]).2.1) else (l, l, natL l)
/-- The next decimal form, from the last digit on. -/
def nextR : List UInt8 → List UInt8
  | [] => [49]
  | c :: r => if c = 57 then 48 :: nextR r else (c + 1) :: r
def nextL (l : List UInt8) : List UInt8 := (nextR l.reverse).reverse
abbrev RN := List UInt8 × List UInt8
def runOf (p : List UInt8) : RN := ((runF p).1, (runF p).2.1)
def okRun (acc : List RN) (p : List UInt8) : Bool := (runF p).2.2 && (match acc.getLast? with | none => true | some r => lessL (nextL r.2) (runF p).1)
def runsG : List RN → List (List UInt8) → Option (List RN)
  | acc, [] => some acc
  | acc, p :: ps => if okRun acc p = true then runsG (acc ++ [runOf p]) ps else none
def runsL (l : List UInt8) : Option (List RN) := runsG [] (partsL 44 l)
def numV (l : List UInt8) : Int := intV l 0 1000000000
def spanL (a b : Int) : List Int := (List.range (b - a + 1).toNat).map fun i : Nat => a + (i : Int)
def fillG : List Int → List RN → Option (List Int)
  | acc, [] => some acc
  | acc, r :: rs => if 500 ≤ numV r.2 - numV r.1 + acc.length then none else fillG (acc ++ spanL (numV r.1) (numV r.2)) rs
def lastR (rs : List RN) : List UInt8 := match rs.getLast? with | some r => r.2 | none => []
/-- P1.6: what ParseList returns. -/
def parE (l : List UInt8) : Int := if l = [45] then 0 else match runsL l with
  | none => 6
  | some rs => if intE (lastR rs) 0 1000000000 ≠ 0 then 7 else match fillG [] rs with
    | none => 3
    | some _ => 0
def parV (l : List UInt8) : List Int := if l = [45] then [] else match runsL l with
  | none => []
  | some rs => if intE (lastR rs) 0 1000000000 ≠ 0 then [] else match fillG [] rs with
    | none => []
    | some zs => zs

theorem natL_digits {l : List UInt8} (h : natL l = true) : ∀ c ∈ l, 48 ≤ c.toNat ∧ c.toNat ≤ 57 := fun c hc => digB_iff.1 ((natL_iff.1 h).2.2 c hc)
theorem numV_range (l : List UInt8) : 0 ≤ numV l ∧ numV l ≤ 1000000000 := by
  unfold numV intV; split
  · rename_i h; exact h.2.2
  · omega
theorem cut_len (l sep : List UInt8) : (Lib.cut l sep).1.length ≤ l.length ∧ (Lib.cut l sep).2.1.length ≤ l.length := by
  unfold Lib.cut; split
  · exact ⟨by simp; omega, by simp⟩
  · simp
theorem runF_len (l : List UInt8) : (runF l).1.length ≤ l.length ∧ (runF l).2.1.length ≤ l.length := by
  unfold runF; split
  · exact cut_len l [45]
  · exact ⟨Nat.le_refl _, Nat.le_refl _⟩
theorem runF_digits {l : List UInt8} (h : (runF l).2.2 = true) : natL (runF l).1 = true ∧ natL (runF l).2.1 = true := by
  unfold runF at *; split
  · rename_i hc; rw [if_pos hc] at h; simp only [Bool.and_eq_true] at h; exact ⟨h.1.1, h.1.2⟩
  · rename_i hc; rw [if_neg hc] at h; exact ⟨h, h⟩

/-- All nines so far, from the end. -/
theorem nextR_step (l : List UInt8) (i : Nat) (hi : i < l.length) : nextR (l.take (i + 1)).reverse = if l[i] = 57 then 48 :: nextR (l.take i).reverse else (l[i] + 1) :: (l.take i).reverse := by
  rw [List.take_succ_eq_append_getElem hi, List.reverse_append]; rfl
def Nines (l : List UInt8) (i : Nat) : Prop := i ≤ l.length ∧ nextL l = (nextR (l.take i).reverse).reverse ++ List.replicate (l.length - i) 48 ∧ ∀ j (h : j < l.length), i ≤ j → l[j] = 57
theorem nines_start (l : List UInt8) : Nines l l.length := by
  refine ⟨Nat.le_refl _, ?_, fun j h hj => absurd h (by omega)⟩
  unfold nextL; simp
theorem nines_step {l : List UInt8} {i : Nat} (h : Nines l (i + 1)) (hc : l[i]'(by have := h.1; omega) = 57) : Nines l i := by
  obtain ⟨h1, h2, h3⟩ := h
  refine ⟨by omega, ?_, fun j hj hij => ?_⟩
  · have := nextR_step l i (by omega)
    rw [if_pos hc] at this
    refine h2.trans ?_
    rw [this, List.reverse_cons, List.append_assoc]
    congr 1
    rw [show l.length - i = (l.length - (i + 1)) + 1 by omega, List.replicate_succ]; rfl
  · by_cases hji : j = i
    · subst hji; exact hc
    · exact h3 j hj (by omega)
theorem nines_end {l : List UInt8} {i : Nat} (h : Nines l (i + 1)) (hc : l[i]'(by have := h.1; omega) ≠ 57) : nextL l = l.take i ++ ([l[i]'(by have := h.1; omega) + 1] ++ List.replicate (l.length - (i + 1)) 48) := by
  obtain ⟨h1, h2, h3⟩ := h
  refine h2.trans ?_
  have := nextR_step l i (by omega)
  rw [if_neg hc] at this
  have e := congrArg (fun z : List UInt8 => z.reverse ++ List.replicate (l.length - (i + 1)) 48) this
  refine e.trans ?_
  simp
theorem nines_all {l : List UInt8} (h : Nines l 0) : nextL l = 49 :: List.replicate l.length 48 := by
  rw [h.2.1]; simp [nextR]
theorem nextL_len (l : List UInt8) : (nextL l).length ≤ l.length + 1 := by
  have : ∀ m : List UInt8, (nextR m).length ≤ m.length + 1 := by
    intro m
    induction m with
    | nil => simp [nextR]
    | cons c r ih => unfold nextR; split <;> simp at * <;> omega
  have := this l.reverse
  unfold nextL; simpa using this
end Go.Proofs.YtjjghagjigaljaaDoor
