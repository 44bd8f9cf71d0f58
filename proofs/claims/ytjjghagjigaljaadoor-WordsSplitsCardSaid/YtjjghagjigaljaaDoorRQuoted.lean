/- quoted of the reference reads a quoted form at the beginning of a string; conditions: the length at most 140737488355000. -/
import Derived.Test.YtjjghagjigaljaaDoorRQuote
import Derived.Test.YtjjghagjigaljaaDoorRQuotedP
import Derived.Test.YtjjghagjigaljaaDoorReadQuoted
namespace Go.Proofs.YtjjghagjigaljaaDoor
open Go.RowKit Go.Sort
theorem rEscapedN (c : Nat) (h : c < 256) (w : World) : Calls Tryd.prog 48 #[.int .u8 c] w fun e w' => e = .returned (.string ⟨(esc (UInt8.ofNat c)).toArray⟩) ∧ Below w.heap.size w w' := by
  have e : (c : Int) = (UInt8.ofNat c).toNat := by rw [UInt8.toNat_ofNat', Nat.mod_eq_of_lt h]
  rw [e]; exact rEscaped _ _

theorem ownBuf_byteN {B : Nat} {e : TypeId} {v : Value} {l : List UInt8} {c : Nat} {W0 w : World} (hc : c < 256) (h : Lib.OwnBuf B e v (l.length + 1) (Lib.byteCells l ++ [.int .u8 c]) W0 w) : Lib.OwnBuf B e v (l ++ [UInt8.ofNat c]).length (Lib.byteCells (l ++ [UInt8.ofNat c])) W0 w := by
  refine ownBuf_byte ?_
  have e : (c : Int) = (UInt8.ofNat c).toNat := by rw [UInt8.toNat_ofNat', Nat.mod_eq_of_lt hc]
  rw [e] at h; exact h

/-- What holds in the loop over the bytes: no form of a byte below c stands here, or one was found. -/
def Inner (s : ByteArray) (k : Nat) (acc : List UInt8) (w : World) (o i f ci : Value) (wr : World) : Prop :=
  ∃ c : Nat, c ≤ 256 ∧ ci = .int .i64 c ∧
    ((f = .bool false ∧ i = .int .i64 k ∧ Lib.OwnBuf w.heap.size 5 o acc.length (Lib.byteCells acc) w wr ∧ Hid (∀ j : Nat, j < c → (s.data.toList.drop k).take (esc (UInt8.ofNat j)).length ≠ esc (UInt8.ofNat j))) ∨
     (f = .bool true ∧ ∃ b : UInt8, i = .int .i64 (k + (esc b).length : Nat) ∧ Lib.OwnBuf w.heap.size 5 o (acc ++ [b]).length (Lib.byteCells (acc ++ [b])) w wr ∧ Hid ((s.data.toList.drop k).take (esc b).length = esc b)))

set_option maxRecDepth 100000 in
set_option maxHeartbeats 800000 in
theorem rQuoted (s : ByteArray) (w : World) (hs : s.size ≤ 140737488355000) :
    Calls Tryd.prog 44 #[.string s] w fun e w' => e = .returned (.tuple #[.string ⟨(rqT s.data.toList).toArray⟩, .int .i64 (rqN s.data.toList)]) ∧ Below w.heap.size w w' := by
  by_cases h0 : s.size = 0
  · have h0' : ((s.size : Int) == 0) = true := by rw [h0]; rfl
    have HN := Lib.hid (rqTN_none (l := s.data.toList) (by rw [head_data_none s h0]; rfl))
    clear h0
    go_enter Tryd.func44, Tryd.ntmps44
    go_wp2_with fail
    go_ret2
    rw [HN.out.1, HN.out.2]
    exact ⟨rfl, Below.refl _ _⟩
  obtain ⟨i0, hi, hz0, hz1, hz2⟩ := info_parts infoU8
  have hp : 0 < s.size := by omega
  have h0' : ((s.size : Int) == 0) = false := by rw [beq_eq_false_iff_ne]; omega
  clear h0
  by_cases hq : s[0].toNat = 34
  · have hq' : ((s[0].toNat : Int) != 34) = false := by rw [hq]; rfl
    have HQ : Hid (rqL s.data.toList = (rqC (s.data.toList.drop 1)).map fun p => (p.1, p.2 + 1)) := by
      unfold Hid rqL
      rw [head_data s hp, if_pos (by rw [Option.some.injEq]; exact UInt8.toNat_inj.1 hq), List.drop_one]
    have hn0 := ownBuf_nil w
    clear hq
    go_enter Tryd.func44, Tryd.ntmps44
    go_wp2_with fail
    go_loopw [4, 5] (fun o i wr => ∃ (k : Nat) (acc : List UInt8), 1 ≤ k ∧ k ≤ s.size ∧ acc.length ≤ k ∧ i = .int .i64 k ∧ Lib.OwnBuf w.heap.size 5 o acc.length (Lib.byteCells acc) w wr ∧
      Hid (rqL s.data.toList = (rqC (s.data.toList.drop k)).map fun p => (acc ++ p.1, p.2 + k))) (fun _ i _ => s.size - (intOf i).toNat)
    case atStart => exact ⟨1, [], by omega, by omega, by simp, rfl, hn0, HQ⟩
    case round =>
      obtain ⟨k, acc, hk1, hk, hal, rfl, hI, HR⟩ := hrel
      clear HQ hn0
      by_cases hlt : k < s.size
      · obtain ⟨r, hr⟩ := drop_data s k hlt
        by_cases hc : s[k].toNat = 34
        · have hc' : ((s[k].toNat : Int) != 34) = false := by rw [hc]; rfl
          have hks : ((k : Int) == s.size) = false := by rw [beq_eq_false_iff_ne]; omega
          have HN := Lib.hid (rqTN_some (l := s.data.toList) (x := acc) (n := k + 1) (by
            rw [HR.out, hr, show s[k] = 34 from UInt8.toNat_inj.1 hc, rqC_quote]
            simp [Nat.add_comm]))
          have hcv := convBuf hI
          clear hc hr HR
          go_wp2_with fail
          go_ret2
          rw [HN.out.1, HN.out.2]
          exact ⟨ret_stri rfl (by omega), hI.2.1⟩
        · have hc' : ((s[k].toNat : Int) != 34) = true := by rw [bne_iff_ne]; omega
          have hh : (s.data.toList.drop k).head? ≠ some 34 := by rw [hr]; intro h; simp at h; rw [h] at hc; exact hc rfl
          clear hc hr
          have HH := Lib.hid hh
          clear hh
          go_wp2_with fail
          obtain ⟨wo, rfl⟩ : ∃ wo : World, wo = wr := ⟨_, rfl⟩
          go_loopw [4, 5, 6, 7] (Inner s k acc w) (fun _ _ f c _ => match f with | .bool true => 0 | _ => 300 - (intOf c).toNat)
          case atStart => exact ⟨0, by omega, rfl, .inl ⟨rfl, rfl, hI, fun j hj => absurd hj (Nat.not_lt_zero _)⟩⟩
          case round =>
            obtain ⟨c, hc, rfl, hor⟩ := hrel
            rcases hor with ⟨rfl, rfl, hI', HN⟩ | ⟨rfl, b, rfl, hI', HT⟩
            · by_cases hc2 : c < 256
              · have hw8 : IntKind.u8.wrap (c : Int) = c := IntWalk.u8_in _ (by omega)
                obtain ⟨m, hm⟩ : ∃ m : List UInt8, esc (UInt8.ofNat c) = m := ⟨_, rfl⟩
                have hml := esc_len (UInt8.ofNat c)
                rw [hm] at hml
                have HM := Lib.hid hm
                clear hm
                have hms : (⟨m.toArray⟩ : ByteArray).size = m.length := by show m.toArray.size = _; simp
                have hcall : ∀ W : World, Calls Tryd.prog 48 #[.int .u8 c] W fun e w' => e = .returned (.string ⟨m.toArray⟩) ∧ Below W.heap.size W w' := fun W => by rw [← HM.out]; exact rEscapedN c hc2 W
                have HC := Lib.hid hcall
                clear hcall
                have hx : k + m.length ≤ s.size → (s.extract k (k + m.length)).toList = (s.data.toList.drop k).take m.length := fun h => by
                  rw [ByteArray.toList_eq, Lib.extract_data]; congr 1; omega
                have HX := Lib.hid hx
                clear hx
                by_cases hfit : m.length ≤ s.size - k
                · have hfit' : (m.length : Int) ≤ s.size - k := by omega
                  cases heq : ((s.extract k (k + m.length)).toList == m) with
                  | true =>
                    have HQ := Lib.hid heq
                    have hl1 : acc.length + 1 ≤ 140737488355328 := by omega
                    go_wp2_with (first
                      | (go_at_call 48; refine (HC.out _).mono ?_; rintro e W2 ⟨rfl, b2⟩)
                      | (at_builtin; refine Lib.wpList_append_byte rfl _ _ 38 rfl w.heap.size 5 i0 Tryd.underlying38 hi hz0 hz1 hz2 _ _ _ rfl w _ c (by exact ownBuf_below hI' ‹_›) rfl hl1 ?_; intro v' w1 ho))
                    have hT : (s.data.toList.drop k).take m.length = m := by
                      rw [← HX.out (by omega)]; exact beq_iff_eq.1 HQ.out
                    refine ⟨⟨c + 1, by omega, by go_num, .inr ⟨rfl, UInt8.ofNat c, ?_, ?_, ?_⟩⟩, by simp [intOf]; omega⟩
                    · rw [HM.out]; go_num
                    · exact ownBuf_byteN hc2 ho
                    · unfold Hid; rw [HM.out]; exact hT
                  | false =>
                    have HQ := Lib.hid heq
                    go_wp2_with (go_at_call 48; refine (HC.out _).mono ?_; rintro e W2 ⟨rfl, b2⟩)
                    refine ⟨⟨c + 1, by omega, by go_num, .inl ⟨rfl, rfl, ownBuf_below hI' b2, ?_⟩⟩, by simp [intOf]; omega⟩
                    intro j hj
                    by_cases hjc : j = c
                    · subst hjc
                      rw [HM.out, ← HX.out (by omega)]
                      intro h
                      have := HQ.out
                      rw [h] at this; simp at this
                    · exact HN.out j (by omega)
                · have hfit' : (s.size : Int) - k < m.length := by omega
                  go_wp2_with (go_at_call 48; refine (HC.out _).mono ?_; rintro e W2 ⟨rfl, b2⟩)
                  refine ⟨⟨c + 1, by omega, by go_num, .inl ⟨rfl, rfl, ownBuf_below hI' b2, ?_⟩⟩, by simp [intOf]; omega⟩
                  intro j hj
                  by_cases hjc : j = c
                  · subst hjc
                    rw [HM.out]
                    intro h
                    have := congrArg List.length h
                    rw [List.length_take, List.length_drop, len_data] at this
                    omega
                  · exact HN.out j (by omega)
              · obtain rfl : c = 256 := by omega
                have hnone : rbL (s.data.toList.drop k) = none := rb_none_of fun b => by
                  have := HN.out b.toNat b.toNat_lt
                  simpa using this
                have HZ := Lib.hid (rqTN_none (l := s.data.toList) (by rw [HR.out, rqC_none HH.out hnone]; rfl))
                clear hnone HR HN
                go_wp2_with fail
                go_ret2
                rw [HZ.out.1, HZ.out.2]
                exact ⟨rfl, hI'.2.1⟩
            · have hl := take_len HT.out
              rw [List.length_drop, len_data] at hl
              have he := esc_len b
              have HS : Hid (rqL s.data.toList = (rqC (s.data.toList.drop (k + (esc b).length))).map fun p => ((acc ++ [b]) ++ p.1, p.2 + (k + (esc b).length))) := by
                unfold Hid
                rw [HR.out, rqC_step HH.out (rb_of_take HT.out), List.drop_drop, Option.map_map]
                congr 1
                funext p
                simp [Nat.add_comm, Nat.add_left_comm]
              obtain ⟨m, hm⟩ : ∃ m, (esc b).length = m := ⟨_, rfl⟩
              rw [hm] at hl he HS
              rw [hm]
              clear hm HR HT
              by_cases hc2 : c < 256
              all_goals
                go_wp2_with fail
                go_roundw
                case rel => exact ⟨k + m, acc ++ [b], by omega, by omega, by simp; omega, rfl, hI', HS⟩
                case measure => simp [intOf]; omega
      · have hks : ((k : Int) == s.size) = true := by rw [beq_iff_eq]; omega
        have HN := Lib.hid (rqTN_none (l := s.data.toList) (by
          rw [HR.out, List.drop_eq_nil_of_le (by rw [len_data]; omega)]; rfl))
        clear HR
        go_wp2_with fail
        go_ret2
        rw [HN.out.1, HN.out.2]
        exact ⟨rfl, hI.2.1⟩
  · have hq' : ((s[0].toNat : Int) != 34) = true := by rw [bne_iff_ne]; omega
    have HN := Lib.hid (rqTN_none (l := s.data.toList) (by
      unfold rqL; rw [head_data s hp, if_neg (by intro h; injection h with h; rw [h] at hq; exact hq rfl)]))
    clear hq
    go_enter Tryd.func44, Tryd.ntmps44
    go_wp2_with fail
    go_ret2
    rw [HN.out.1, HN.out.2]
    exact ⟨rfl, Below.refl _ _⟩
end Go.Proofs.YtjjghagjigaljaaDoor
