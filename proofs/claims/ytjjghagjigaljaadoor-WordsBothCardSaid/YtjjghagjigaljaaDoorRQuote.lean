/- Quote of the reference returns the quoted form; conditions: the length at most 1000000. -/
import Derived.Test.YtjjghagjigaljaaDoorBuf
import Derived.Test.YtjjghagjigaljaaDoorQuote
namespace Go.Proofs.YtjjghagjigaljaaDoor
open Go.RowKit Go.Sort
set_option maxRecDepth 100000 in
set_option maxHeartbeats 400000 in
theorem rQuote (s : ByteArray) (w : World) (hs : s.size ≤ 1000000) :
    Calls Tryd.prog 22 #[.string s] w fun e w' => e = .returned (.string ⟨(quoteL s.data.toList).toArray⟩) ∧ Below w.heap.size w w' := by
  obtain ⟨i0, hi, hz0, hz1, hz2⟩ := info_parts infoU8
  have h0 := ownBuf_new w [34] (by decide)
  go_enter Tryd.func22, Tryd.ntmps22
  go_wp2_with fail
  go_loopw [3, 4] (fun o i wr => ∃ (k : Nat), k ≤ s.size ∧ i = .int .i64 k ∧ Lib.OwnBuf w.heap.size 5 o (34 :: (s.data.toList.take k).flatMap esc).length (Lib.byteCells (34 :: (s.data.toList.take k).flatMap esc)) w wr) (fun _ i _ => s.size - (intOf i).toNat)
  case atStart => exact ⟨0, by omega, rfl, h0⟩
  case round =>
    obtain ⟨k, hk, rfl, hI⟩ := hrel
    have hfl := flat_len (s.data.toList.take k)
    rw [List.length_take, len_data] at hfl
    clear h0
    by_cases hlt : k < s.size
    · have hlen : (34 :: (s.data.toList.take k).flatMap esc).length + (⟨(esc s[k]).toArray⟩ : ByteArray).size ≤ 140737488355328 := by
        have := (esc_len s[k]).2
        simp only [List.length_cons]
        show _ + (esc s[k]).toArray.size ≤ _
        rw [List.size_toArray]; omega
      go_wp2_with (first
        | (go_at_call 48; refine (rEscaped s[k] _).mono ?_; rintro e W2 ⟨rfl, b2⟩)
        | (at_builtin; refine Lib.wpList_append_text rfl _ _ 38 9 rfl w.heap.size 5 i0 Tryd.underlying38 Tryd.underlying9 hi hz0 hz1 hz2 _ _ _ rfl w (ownBuf_below hI ‹_›) _ rfl hlen ?_; intro v' w1 ho))
      refine ⟨⟨k + 1, by omega, by go_num, ?_⟩, by simp [intOf]; omega⟩
      rw [take_snoc_data s k hlt, List.flatMap_append, ← List.cons_append]
      simpa using ownBuf_text ho
    · have e : (s.data.toList.take k) = s.data.toList := by rw [List.take_of_length_le (by rw [len_data]; omega)]
      rw [e] at hI
      have hlen : (34 :: s.data.toList.flatMap esc).length + 1 ≤ 140737488355328 := by
        have := flat_len s.data.toList; rw [List.length_cons]; rw [len_data] at this; omega
      clear e hfl
      go_wp2_with (at_builtin; refine Lib.wpList_append_byte rfl _ _ 38 rfl w.heap.size 5 i0 Tryd.underlying38 hi hz0 hz1 hz2 _ _ _ rfl w wr 34 (by exact hI) rfl hlen ?_; intro v' w1 ho; have hc := convBuf (ownBuf_byte (c := 34) ho))
      go_ret
      exact ⟨ret_str (by simp [quoteL]), (ownBuf_byte (c := 34) ho).2.1⟩
end Go.Proofs.YtjjghagjigaljaaDoor
