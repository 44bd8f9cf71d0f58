/- readQuoted of the package reads a quoted text from the start of a string; conditions: Amb, the length at most 140737488355000. -/
import Derived.Test.YtoknncoolmbklaaDoorReadByte
import Derived.Test.YtoknncoolmbklaaDoorPlain
namespace Go.Proofs.YtoknncoolmbklaaDoor
set_option linter.unusedVariables false
set_option linter.unusedSimpArgs false
open Go.RowKit Go.Sort
theorem ret_stri {a b : ByteArray} {c d : Int} (h : a = b) (h' : c = d) : Ending.returned (.tuple #[.string a, .int .i64 c]) = .returned (.tuple #[.string b, .int .i64 d]) := by rw [h, h']
theorem rqTN_none {l : List UInt8} (h : rqL l = none) : rqT l = [] ∧ rqN l = 0 := by unfold rqT rqN; rw [h]; exact ⟨rfl, rfl⟩
theorem rqTN_some {l x : List UInt8} {n : Nat} (h : rqL l = some (x, n)) : rqT l = x ∧ rqN l = n := by unfold rqT rqN; rw [h]; exact ⟨rfl, rfl⟩
theorem drop_data (s : ByteArray) (k : Nat) (h : k < s.size) : ∃ r, s.data.toList.drop k = s[k] :: r := by
  refine ⟨s.data.toList.drop (k + 1), ?_⟩
  rw [List.drop_eq_getElem_cons (by simpa using h)]; rfl
theorem extract_from (s : ByteArray) (k : Nat) : (s.extract k s.size).data.toList = s.data.toList.drop k := by
  rw [Lib.extract_data, List.take_of_length_le (by simp)]

theorem take_drop_data (s : ByteArray) (k : Nat) : List.take (s.size - k) (List.drop k s.data.toList) = s.data.toList.drop k := by
  rw [List.take_of_length_le]; rw [List.length_drop, len_data]; omega
set_option maxRecDepth 100000 in
set_option maxHeartbeats 800000 in
theorem wReadQuoted (s : ByteArray) (w : World) (ha : Amb w) (hs : s.size ≤ 140737488355000) :
    Calls Tryd.prog 43 #[.string s] w fun e w' => e = .returned (.tuple #[.string ⟨(rqT s.data.toList).toArray⟩, .int .i64 (rqN s.data.toList)]) ∧ Below w.heap.size w w' := by
  by_cases h0 : s.size = 0
  · have he := isEmpty_of_zero s h0
    have HN := Lib.hid (rqTN_none (l := s.data.toList) (by rw [head_data_none s h0]; rfl))
    clear h0
    go_enter Tryd.func43, Tryd.ntmps43
    go_wp2_with fail
    go_ret2
    rw [HN.out.1, HN.out.2]
    exact ⟨rfl, Below.refl _ _⟩
  have hp : 0 < s.size := by omega
  have he := isEmpty_of_pos s hp
  clear h0
  by_cases hq : s[0].toNat = 34
  · have hq' : ((s[0].toNat : Int) != 34) = false := by rw [hq]; rfl
    have HQ : Hid (rqL s.data.toList = (rqC (s.data.toList.drop 1)).map fun p => (p.1, p.2 + 1)) := by
      unfold Hid rqL
      rw [head_data s hp, if_pos (by rw [Option.some.injEq]; exact UInt8.toNat_inj.1 hq), List.drop_one]
    clear hq
    go_enter Tryd.func43, Tryd.ntmps43
    go_wp2_with fail
    go_loopw [5] (fun i wr => ∃ (k : Nat) (acc : List UInt8), 1 ≤ k ∧ k ≤ s.size ∧ acc.length ≤ k ∧ i = .int .i64 k ∧ Lib.IsBuilderF 61 5 w.heap.size w.heap.size (Lib.byteCells acc) wr ∧ Below w.heap.size w wr ∧ w.heap.size < wr.heap.size ∧
      Hid (rqL s.data.toList = (rqC (s.data.toList.drop k)).map fun p => (acc ++ p.1, p.2 + k))) (fun i _ => s.size - (intOf i).toNat)
    case atStart =>
      exact ⟨1, [], by omega, by omega, by simp, rfl, Lib.IsBuilderF.of (Lib.fresh_isBuilder _ _ w), (Below.refl _ w).alloc (Nat.le_refl _) _, by simp, HQ⟩
    case round =>
      obtain ⟨k, acc, hk1, hk, hal, rfl, hI, hbw, hsz, HR⟩ := hrel
      clear HQ
      by_cases hlt : k < s.size
      · obtain ⟨r, hr⟩ := drop_data s k hlt
        by_cases hc : s[k].toNat = 34
        · have hc' : ((s[k].toNat : Int) == 34) = true := by rw [hc]; rfl
          have HN := Lib.hid (rqTN_some (l := s.data.toList) (x := acc) (n := k + 1) (by
            rw [HR.out, hr, show s[k] = 34 from UInt8.toNat_inj.1 hc, rqC_quote]
            simp [Nat.add_comm]))
          clear hc hr HR
          go_wp2_with (go_at_call 47; refine (Tryd.Builder_String_any_k w.heap.size w.heap.size acc _ hI (by omega)).mono ?_; rintro e W1 ⟨rfl, _, b1, _⟩)
          go_ret2
          rw [HN.out.1, HN.out.2]
          exact ⟨ret_stri rfl (by omega), hbw.trans (b1.mono (Nat.le_refl _))⟩
        · have hc' : ((s[k].toNat : Int) == 34) = false := by rw [beq_eq_false_iff_ne]; omega
          have hh : (s.data.toList.drop k).head? ≠ some 34 := by rw [hr]; intro h; simp at h; rw [h] at hc; exact hc rfl
          cases hb : rbL (s.data.toList.drop k) with
          | none =>
            have HN := Lib.hid (rqTN_none (l := s.data.toList) (by rw [HR.out, rqC_none hh hb]; rfl))
            have e2 : oN (rbL (List.take (s.size - k) (List.drop k s.data.toList))) = 0 := by rw [take_drop_data, hb]; rfl
            clear hc hr HR hb hh
            go_wp2_with (go_at_call 69; refine (wReadByte _ _ (ha.below hbw) (by simp; omega)).mono ?_; rintro e W1 ⟨rfl, b1⟩)
            go_ret2
            rw [HN.out.1, HN.out.2]
            exact ⟨rfl, hbw.trans (b1.mono (by omega))⟩
          | some p =>
            obtain ⟨v, n⟩ := p
            have hpos := rbL_pos hb
            rw [List.length_drop, len_data] at hpos
            have e1 : oV (rbL (List.take (s.size - k) (List.drop k s.data.toList))) = v := by rw [take_drop_data, hb]; rfl
            have e2 : oN (rbL (List.take (s.size - k) (List.drop k s.data.toList))) = n := by rw [take_drop_data, hb]; rfl
            have HS : Hid (rqL s.data.toList = (rqC (s.data.toList.drop (k + n))).map fun p => ((acc ++ [UInt8.ofNat v.toNat]) ++ p.1, p.2 + (k + n))) := by
              unfold Hid
              rw [HR.out, rqC_step hh hb, List.drop_drop, Option.map_map]
              congr 1
              funext p
              simp [Nat.add_assoc, Nat.add_comm, Nat.add_left_comm]
            have hn0 : ((n : Int) == 0) = false := by rw [beq_eq_false_iff_ne]; omega
            obtain ⟨hn1, hn2, hn4, hv0, hv1⟩ := hpos
            have HB : Hid (Lib.byteCells acc ++ [Value.int .u8 v] = Lib.byteCells (acc ++ [UInt8.ofNat v.toNat])) := by
              unfold Hid; rw [Lib.byteCells_append]; congr 1
              simp only [Lib.byteCells, List.map_cons, List.map_nil]
              rw [UInt8.toNat_ofNat', Nat.mod_eq_of_lt (by omega), Int.toNat_of_nonneg hv0]
            clear hc hr HR hb hh
            go_wp2_with (go_at_call 69; refine (wReadByte _ _ (ha.below hbw) (by simp; omega)).mono ?_; rintro e W1 ⟨rfl, b1⟩)
            have hI1 := isBuilderF_below hI b1
            have hb2 : Below w.heap.size w W1 := hbw.trans (b1.mono (by omega))
            have hs1 : w.heap.size < W1.heap.size := Nat.lt_of_lt_of_le hsz b1.size
            clear hI
            go_wp2_with (go_at_call 45; refine (Tryd.bWriteByte w.heap.size w.heap.size _ v _ hI1 (by rw [Lib.byteCells_length]; omega) (by omega)).mono ?_; rintro e W2 ⟨rfl, h2, b2, _⟩)
            refine ⟨⟨k + n, acc ++ [UInt8.ofNat v.toNat], by omega, by omega, by simp; omega, by go_num, ?_, hb2.trans b2, Nat.lt_of_lt_of_le hs1 b2.size, HS⟩, by simp [intOf]; omega⟩
            rw [← HB.out]; exact .inr h2
      · have HN := Lib.hid (rqTN_none (l := s.data.toList) (by
          rw [HR.out, List.drop_eq_nil_of_le (by rw [len_data]; omega)]; rfl))
        clear HR
        go_wp2_with fail
        go_ret2
        rw [HN.out.1, HN.out.2]
        exact ⟨rfl, hbw⟩
  · have hq' : ((s[0].toNat : Int) != 34) = true := by rw [bne_iff_ne]; omega
    have HN := Lib.hid (rqTN_none (l := s.data.toList) (by
      unfold rqL; rw [head_data s hp, if_neg (by intro h; injection h with h; rw [h] at hq; exact hq rfl)]))
    clear hq
    go_enter Tryd.func43, Tryd.ntmps43
    go_wp2_with fail
    go_ret2
    rw [HN.out.1, HN.out.2]
    exact ⟨rfl, Below.refl _ _⟩
end Go.Proofs.YtoknncoolmbklaaDoor
