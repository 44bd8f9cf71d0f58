/- The contract of the law's function of P1.2: on every string it returns true; under the ambient facts of Amb. -/
import Derived.Test.YtjjghagjigaljaaDoorShown
import Derived.Test.YtjjghagjigaljaaDoorRQuoted
import Derived.Test.YtjjghagjigaljaaDoorQuote
namespace Go.Proofs.YtjjghagjigaljaaDoor
open Go.RowKit Go.Sort
theorem rUnquote (s : ByteArray) (w : World) (hs : s.size ≤ 140737488355000) :
    Calls Tryd.prog 20 #[.string s] w fun e w' => e = .returned (.tuple #[.string ⟨(unqV s.data.toList).toArray⟩, .int .i64 (unqE s.data.toList)]) ∧ Below w.heap.size w w' := by
  have hl := len_data s
  have HL := Lib.hid hl
  clear hl
  go_enter Tryd.func20, Tryd.ntmps20
  go_wp2_with (go_at_call 44; refine (rQuoted _ _ hs).mono ?_; rintro e W1 ⟨rfl, b1⟩)
  all_goals go_ret2
  · have hx := unq_bad (l := s.data.toList) (.inl (by assumption))
    exact ⟨ret_stri (by rw [hx.1]) hx.2.symm, b1⟩
  · have hle := rqN_le s.data.toList
    have hx := unq_bad (l := s.data.toList) (by
      have h := ‹(rqN s.data.toList == 0) = true ∨ (rqN s.data.toList != (s.size : Int)) = true›
      rw [beq_iff_eq, bne_iff_ne] at h
      have := HL.out
      omega)
    exact ⟨ret_stri (by rw [hx.1]) hx.2.symm, b1⟩
  · have hx := unq_ok (l := s.data.toList) (by assumption) (by
      have h := (‹(rqN s.data.toList == 0) = false ∧ (rqN s.data.toList != (s.size : Int)) = false›).2
      rw [bne_eq_false_iff_eq] at h
      have := HL.out
      omega)
    exact ⟨ret_stri (by rw [hx.1]) hx.2.symm, b1⟩
set_option maxRecDepth 100000 in
set_option maxHeartbeats 1000000 in
theorem lQuotes (s : ByteArray) (w : World) (ha : Amb w) :
    Calls Tryd.prog 4 #[.string s] w fun e w' => e = .returned (.bool true) ∧ Below w.heap.size w w' := by
  by_cases hs : s.size ≤ 1000
  · have hs' : (s.size : Int) ≤ 1000 := by omega
    go_enter Tryd.func4, Tryd.ntmps4
    go_wp2_with fail
    refine (wUnquote s _ ha (by omega)).mono ?_
    rintro e W1 ⟨rfl, b1⟩
    go_wp2_with fail
    refine (rUnquote s _ (by omega)).mono ?_
    rintro e W2 ⟨rfl, b2⟩
    have bw2 := b1.trans (b2.mono b1.size)
    clear b1 b2
    go_wp2_with fail
    refine (wQuote s _ (ha.below bw2) (by omega)).mono ?_
    rintro e W3 ⟨rfl, b3⟩
    have bw3 := bw2.trans (b3.mono bw2.size)
    clear bw2 b3
    go_wp2_with fail
    refine (rQuote s _ (by omega)).mono ?_
    rintro e W4 ⟨rfl, b4⟩
    have bw4 := bw3.trans (b4.mono bw3.size)
    clear bw3 b4
    go_wp2_with fail
    refine (lShown _ (ha.below bw4)).mono ?_
    rintro e W6 ⟨rfl, b6⟩
    go_wp2_with fail
    go_ret
    exact ⟨rfl, bw4.trans (b6.mono bw4.size)⟩
  · have hs' : (1000 : Int) < s.size := by omega
    clear hs
    go_enter Tryd.func4, Tryd.ntmps4
    go_wp2_with fail
    refine (lShown _ ha).mono ?_
    rintro e W6 ⟨rfl, b6⟩
    go_wp2_with fail
    go_ret
    exact ⟨rfl, b6⟩
end Go.Proofs.YtjjghagjigaljaaDoor
