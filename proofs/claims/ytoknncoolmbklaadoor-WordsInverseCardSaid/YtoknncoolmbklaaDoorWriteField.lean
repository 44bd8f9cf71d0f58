/- writeField of the package writes a field onto a builder, or answers that it may not be written as it is; conditions: Amb, bounds on lengths. -/
import Derived.Test.YtoknncoolmbklaaDoorPlain
import Derived.Test.YtoknncoolmbklaaDoorBare
import Derived.Deep.QuietTactic
import Derived.BigQuiet
namespace Go.Proofs.YtoknncoolmbklaaDoor
set_option linter.unusedVariables false
set_option linter.unusedSimpArgs false
open Go.RowKit Go.Sort
theorem strL (l : List UInt8) : (⟨l.toArray⟩ : ByteArray).data.toList = l := rfl
theorem sizeL (l : List UInt8) : (⟨l.toArray⟩ : ByteArray).size = l.length := by show l.toArray.size = _; simp
theorem wBareQ (l : List UInt8) (hf : l.length ≤ 1000000) (W : World) : Calls Tryd.prog 77 #[.string ⟨l.toArray⟩] W fun e w' => e = .returned (.int .i64 (bareN l)) ∧ w' = W :=
  (wBareLength ⟨l.toArray⟩ W (by rw [sizeL]; omega)).mono fun _ _ ⟨h, h'⟩ => ⟨h, h'.symm⟩
set_option maxRecDepth 100000 in
theorem wWriteField_bad (b : Nat) (f : FL) (w : World) (hf : f.1.length ≤ 1000000) (hb : badF f = true) :
    Calls Tryd.prog 52 #[.pointer (some ⟨b, 0, none⟩), .agg #[.string ⟨f.1.toArray⟩, .bool f.2]] w fun e w' => e = .returned (.bool false) ∧ Below w.heap.size w w' := by
  obtain ⟨l, q⟩ := f
  unfold badF at hb
  rw [Bool.and_eq_true] at hb
  obtain rfl : q = false := by simpa using hb.1
  have hb2 : bareS l = false := by simpa using hb.2
  clear hb
  simp only at hf ⊢
  have HC := Lib.hid (wBareQ l hf)
  by_cases h0 : l = []
  · subst h0
    go_enter Tryd.func52, Tryd.ntmps52
    go_wp2_with fail
    go_quiet ((go_at_call 77; exact Calls.quiet_of_same (HC.out _)))
    go_wp2_with fail
    go_ret
    exact ⟨rfl, below_drewN ((Below.refl _ _).alloc (Nat.le_refl _) _) _⟩
  · have hlt : bareN l < l.length := by
      have := bareN_le l
      rcases Nat.lt_or_ge (bareN l) l.length with h | h
      · exact h
      · exact absurd (bareS_iff.2 ⟨h0, by omega⟩) (by rw [hb2]; simp)
    have hlt' : (bareN l : Int) < (l.length : Int) := by omega
    have hem : l.isEmpty = false := by simpa using h0
    go_enter Tryd.func52, Tryd.ntmps52
    go_wp2_with fail
    go_quiet ((go_at_call 77; exact Calls.quiet_of_same (HC.out _)))
    go_wp2_with fail
    go_ret
    exact ⟨rfl, below_drewN ((Below.refl _ _).alloc (Nat.le_refl _) _) _⟩
set_option maxRecDepth 100000 in
theorem wWriteField (B b : Nat) (acc : List UInt8) (f : FL) (w : World) (ha : Amb w) (hB : 9 ≤ B) (hBw : B ≤ w.heap.size) (hI : Lib.IsBuilderF 61 5 B b (Lib.byteCells acc) w) (hf : f.1.length ≤ 1000000) (hlen : acc.length ≤ 1000000000000) (hb : badF f = false) :
    Calls Tryd.prog 52 #[.pointer (some ⟨b, 0, none⟩), .agg #[.string ⟨f.1.toArray⟩, .bool f.2]] w fun e w' => e = .returned (.bool true) ∧ Lib.IsBuilderF 61 5 B b (Lib.byteCells (acc ++ itemL f)) w' ∧ Below B w w' := by
  obtain ⟨l, q⟩ := f
  simp only at hf ⊢
  have hba : Below w.heap.size w (w.alloc (.cells #[.string ⟨l.toArray⟩, .bool q] 50)) := (Below.refl _ _).alloc (Nat.le_refl _) _
  have hzw : (w.alloc (.cells #[.string ⟨l.toArray⟩, .bool q] 50)).heap.size = w.heap.size + 1 := by simp
  cases q with
  | true =>
    have HQ : Hid (quoteL l = itemL (l, true)) := by unfold Hid itemL; rfl
    have hql := itemL_len (l, true)
    rw [← HQ.out] at hql
    simp only at hql
    have HQL := Lib.hid hql
    have hq : ∀ W, Amb W → Calls Tryd.prog 21 #[.string ⟨l.toArray⟩] W fun e w' => e = .returned (.string ⟨(quoteL l).toArray⟩) ∧ Below W.heap.size W w' := fun W hW => wQuote ⟨l.toArray⟩ W hW (by rw [sizeL]; exact hf)
    have HC := Lib.hid hq
    have ha1 := ha.below hba
    have hI1 := isBuilderF_below hI hba
    clear hql hq
    go_enter Tryd.func52, Tryd.ntmps52
    go_wp2_with fail
    refine (HC.out _ ha1).mono ?_
    rintro e W1 ⟨rfl, b1⟩
    have hI2 := isBuilderF_below hI1 b1
    have hz1 : B ≤ W1.heap.size := by have := b1.size; omega
    have hbB : Below B w W1 := (hba.mono hBw).trans (b1.mono (by omega))
    clear hI1 ha1
    go_wp2_with fail
    refine (Tryd.bWriteString B b _ ⟨(quoteL l).toArray⟩ _ hI2 (by rw [Lib.byteCells_length, sizeL]; have := HQL.out; omega) hz1).mono ?_
    rintro e W2 ⟨rfl, h2, b2, _⟩
    go_wp2_with fail
    go_ret
    refine ⟨rfl, ?_, hbB.trans b2⟩
    rw [← HQ.out, Lib.byteCells_append]; exact .inr h2
  | false =>
    have hb2 : bareS l = true := by unfold badF at hb; simpa using hb
    obtain ⟨h0, hN⟩ := bareS_iff.1 hb2
    have HI : Hid (itemL (l, false) = l) := by unfold Hid itemL; rfl
    have hem : l.isEmpty = false := by simpa using h0
    have HC := Lib.hid (wBareQ l hf)
    rw [hN] at HC
    clear hb2 h0 hN
    go_enter Tryd.func52, Tryd.ntmps52
    go_wp2_with fail
    go_quiet ((go_at_call 77; exact Calls.quiet_of_same (HC.out _)))
    go_wp2_with fail
    refine (Tryd.bWriteString B b _ ⟨l.toArray⟩ _ (isBuilderF_below hI (below_drewN hba _)) (by rw [Lib.byteCells_length, sizeL]; omega) (by simp; omega)).mono ?_
    rintro e W2 ⟨rfl, h2, b2, _⟩
    go_wp2_with fail
    go_ret
    refine ⟨rfl, ?_, (below_drewN (hba.mono hBw) _).trans b2⟩
    rw [HI.out, Lib.byteCells_append]; exact .inr h2
end Go.Proofs.YtoknncoolmbklaaDoor
