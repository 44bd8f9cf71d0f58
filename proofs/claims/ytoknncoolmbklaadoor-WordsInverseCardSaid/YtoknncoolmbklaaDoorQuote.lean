/- Quote of the package returns the quoted form; conditions: Amb, the length at most 1000000. -/
import Derived.Test.YtoknncoolmbklaaDoorWriteQuoted
namespace Go.Proofs.YtoknncoolmbklaaDoor
set_option linter.unusedVariables false
set_option linter.unusedSimpArgs false
open Go.RowKit Go.Sort
theorem flat_len (l : List UInt8) : (l.flatMap esc).length ≤ 4 * l.length := by
  induction l with
  | nil => simp
  | cons c l ih => have := esc_len c; rw [List.flatMap_cons, List.length_append, List.length_cons]; omega
theorem quoteL_len (l : List UInt8) : (quoteL l).length ≤ 4 * l.length + 2 := by
  have := flat_len l
  unfold quoteL
  rw [List.length_cons, List.length_append, List.length_cons, List.length_nil]; omega

set_option maxRecDepth 100000 in
set_option maxHeartbeats 400000 in
theorem wQuote (s : ByteArray) (w : World) (ha : Amb w) (hs : s.size ≤ 1000000) :
    Calls Tryd.prog 21 #[.string s] w fun e w' => e = .returned (.string ⟨(quoteL s.data.toList).toArray⟩) ∧ Below w.heap.size w w' := by
  have h9 : 9 ≤ w.heap.size := ha.size
  go_enter Tryd.func21, Tryd.ntmps21
  go_wp2_with fail
  refine (Tryd.bWriteByte w.heap.size w.heap.size [] 34 _ (Lib.IsBuilderF.of (Lib.fresh_isBuilder _ _ w)) (by simp) (by simp)).mono ?_
  rintro e W1 ⟨rfl, h1, b1, _⟩
  have hb0 : Below w.heap.size w W1 := ((Below.refl _ w).alloc (Nat.le_refl _) _).trans b1
  have hz0 : w.heap.size < W1.heap.size := by have := b1.size; simp at this; omega
  clear b1
  go_wp2_with fail
  go_loopw [4] (fun i wr => ∃ (k : Nat), k ≤ s.size ∧ i = .int .i64 k ∧ Lib.IsBuilderF 61 5 w.heap.size w.heap.size (Lib.byteCells (34 :: (s.data.toList.take k).flatMap esc)) wr ∧ Below w.heap.size w wr ∧ w.heap.size < wr.heap.size) (fun i _ => s.size - (intOf i).toNat)
  case atStart => exact ⟨0, by omega, rfl, .inr h1, hb0, hz0⟩
  case round =>
    obtain ⟨k, hk, rfl, hI, hbw, hsz⟩ := hrel
    have hfl := flat_len (s.data.toList.take k)
    rw [List.length_take, len_data] at hfl
    by_cases hlt : k < s.size
    · go_wp2_with (go_at_call 46; refine (wWriteQuoted w.heap.size w.heap.size _ s[k] _ (ha.below hbw) h9 (by omega) hI (by rw [List.length_cons]; omega)).mono ?_; rintro e W2 ⟨rfl, h2, b2⟩)
      refine ⟨⟨k + 1, by omega, by go_num, ?_, hbw.trans b2, Nat.lt_of_lt_of_le hsz b2.size⟩, by simp [intOf]; omega⟩
      rw [take_snoc_data s k hlt, List.flatMap_append]
      simpa using h2
    · go_wp2_with fail
      refine (Tryd.bWriteByte w.heap.size w.heap.size _ 34 _ hI (by rw [Lib.byteCells_length, List.length_cons]; omega) (by omega)).mono ?_
      rintro e W3 ⟨rfl, h3, b3, _⟩
      have hz3 : w.heap.size ≤ W3.heap.size := by have := b3.size; omega
      have h3' : Lib.IsBuilderF 61 5 w.heap.size w.heap.size (Lib.byteCells (quoteL s.data.toList)) W3 := by
        rw [List.take_of_length_le (by rw [len_data]; omega)] at h3
        have e : Lib.byteCells (quoteL s.data.toList) = Lib.byteCells (34 :: s.data.toList.flatMap esc) ++ [Value.int .u8 34] := by simp [quoteL, Lib.byteCells]
        rw [e]; exact .inr h3
      clear h3 hI
      go_wp2_with (go_at_call 47; refine (Tryd.Builder_String_any_k w.heap.size w.heap.size _ _ h3' hz3).mono ?_; rintro e W4 ⟨rfl, _, b4, _⟩)
      go_ret
      exact ⟨rfl, hbw.trans (b3.trans b4)⟩
end Go.Proofs.YtoknncoolmbklaaDoor
