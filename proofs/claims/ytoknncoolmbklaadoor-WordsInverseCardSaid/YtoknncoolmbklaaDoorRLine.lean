/- Of the reference, merged: RBare, RQuote, RQuoted, RSplit, RJoin. -/
import Derived.Test.YtoknncoolmbklaaDoorPlain
import Derived.Test.YtoknncoolmbklaaDoorBare
import Derived.Test.YtoknncoolmbklaaDoorBuf
import Derived.Test.YtoknncoolmbklaaDoorQuote
import Derived.Test.YtoknncoolmbklaaDoorReadQuoted
import Derived.Test.YtoknncoolmbklaaDoorSplit
import Derived.Deep.DeepCutAuto
import Derived.Test.YtoknncoolmbklaaDoorJoin
/- bare of the reference answers whether a string has only bytes of bare fields, and one at least; conditions: a bound on the length. -/
namespace Go.Proofs.YtoknncoolmbklaaDoor
set_option linter.unusedVariables false
set_option linter.unusedSimpArgs false
open Go.RowKit Go.Sort
theorem bareS_false {s : ByteArray} {k : Nat} (hk : k < s.size) (h : bareB s[k] = false) : bareS s.data.toList = false := by
  unfold bareS
  rw [Bool.and_eq_false_iff]; right
  cases hb : s.data.toList.all bareB with
  | false => rfl
  | true =>
    rw [List.all_eq_true] at hb
    have hm : s[k] ∈ s.data.toList := Array.mem_toList_iff.2 (Array.getElem_mem hk)
    rw [hb _ hm] at h; simp at h
theorem bareS_true {s : ByteArray} (h : ∀ c ∈ s.data.toList.take s.size, bareB c = true) : bareS s.data.toList = decide (0 < s.size) := by
  rw [List.take_of_length_le (by rw [len_data]; omega)] at h
  unfold bareS
  rw [List.all_eq_true.2 h, Bool.and_true]
  have := len_data s
  cases hd : s.data.toList with
  | nil => rw [hd] at this; simp at this; simp [← this]
  | cons a r => rw [hd] at this; simp at this; simp; omega
theorem rBare (s : ByteArray) (w : World) (hs : s.size ≤ 9223372036854775806) :
    Calls Tryd.prog 51 #[.string s] w fun e w' => e = .returned (.bool (bareS s.data.toList)) ∧ w = w' := by
  go_enter Tryd.func51, Tryd.ntmps51
  go_wp2_with fail
  go_loop [3] (fun i => ∃ k : Nat, k ≤ s.size ∧ i = .int .i64 k ∧ Hid (∀ c ∈ s.data.toList.take k, bareB c = true)) (fun i => s.size - (intOf i).toNat)
  case atStart => exact ⟨0, by omega, rfl, fun c hc => by simp at hc⟩
  case round =>
    obtain ⟨k, hk, rfl, hall⟩ := hrel
    by_cases hlt : k < s.size
    · cases hp : plB (s[k].toNat : Int) with
      | false =>
        have HB := Lib.hid (bareS_false hlt (by unfold bareB; rw [hp]; rfl))
        go_wp2_with (go_at_call 73; refine (rPlain _ _).mono ?_; rintro e w' ⟨rfl, rfl⟩)
        go_ret
        exact ⟨ret_bool HB.out.symm, rfl⟩
      | true =>
        by_cases h32 : s[k].toNat = 32
        · have h32' : ((s[k].toNat : Int) == 32) = true := by rw [h32]; rfl
          have HB := Lib.hid (bareS_false hlt (by rw [show s[k] = 32 from UInt8.toNat_inj.1 h32]; exact bareB_32))
          clear h32
          go_wp2_with (go_at_call 73; refine (rPlain _ _).mono ?_; rintro e w' ⟨rfl, rfl⟩)
          go_ret
          exact ⟨ret_bool HB.out.symm, rfl⟩
        · have h32' : ((s[k].toNat : Int) == 32) = false := by rw [beq_eq_false_iff_ne]; omega
          have HB : Hid (bareB s[k] = true) := by
            unfold Hid bareB; rw [hp, Bool.true_and, decide_eq_true_iff]; intro h; rw [h] at h32; exact h32 rfl
          clear h32
          go_wp2_with (go_at_call 73; refine (rPlain _ _).mono ?_; rintro e w' ⟨rfl, rfl⟩)
          refine ⟨⟨k + 1, by omega, by go_num, ?_⟩, by simp [intOf]; omega⟩
          intro c hc
          rw [take_snoc_data s k hlt, List.mem_append] at hc
          rcases hc with hc | hc
          · exact hall c hc
          · simp at hc; rw [hc]; exact HB.out
    · obtain rfl : k = s.size := by omega
      go_wp2_with fail
      go_ret
      exact ⟨ret_bool (by rw [bareS_true hall.out]), rfl⟩
end Go.Proofs.YtoknncoolmbklaaDoor
/- Quote of the reference returns the quoted form; conditions: the length at most 1000000. -/
namespace Go.Proofs.YtoknncoolmbklaaDoor
set_option linter.unusedVariables false
set_option linter.unusedSimpArgs false
open Go.RowKit Go.Sort
set_option maxRecDepth 100000 in
set_option maxHeartbeats 400000 in
theorem rQuote (s : ByteArray) (w : World) (hs : s.size ≤ 1000000) :
    Calls Tryd.prog 22 #[.string s] w fun e w' => e = .returned (.string ⟨(quoteL s.data.toList).toArray⟩) ∧ Below w.heap.size w w' := by
  obtain ⟨i0, hi, hz0, hz1, hz2⟩ := info_parts infoU8
  have h0 := ownBuf_new w [34] (by decide)
  go_enter Tryd.func22, Tryd.ntmps22
  go_wp2_with fail
  go_loopw [3, 4] (fun o i wr => ∃ (k : Nat), k ≤ s.size ∧ i = .int .i64 k ∧ Lib.OwnBuf w.heap.size 5 o (34 :: (s.data.toList.take k).flatMap esc).length (Lib.byteCells (34 :: (s.data.toList.take k).flatMap esc)) w wr) (fun _ i _ => s.size - (intOf i).toNat)
  case atStart => exact ⟨0, by omega, rfl, h0⟩
  case round =>
    obtain ⟨k, hk, rfl, hI⟩ := hrel
    have hfl := flat_len (s.data.toList.take k)
    rw [List.length_take, len_data] at hfl
    clear h0
    by_cases hlt : k < s.size
    · have hlen : (34 :: (s.data.toList.take k).flatMap esc).length + (⟨(esc s[k]).toArray⟩ : ByteArray).size ≤ 140737488355328 := by
        have := (esc_len s[k]).2
        simp only [List.length_cons]
        show _ + (esc s[k]).toArray.size ≤ _
        rw [List.size_toArray]; omega
      go_wp2_with (first
        | (go_at_call 48; refine (rEscaped s[k] _).mono ?_; rintro e W2 ⟨rfl, b2⟩)
        | (at_builtin; refine Lib.wpList_append_text rfl _ _ 38 9 rfl w.heap.size 5 i0 Tryd.underlying38 Tryd.underlying9 hi hz0 hz1 hz2 _ _ _ rfl w (ownBuf_below hI ‹_›) _ rfl hlen ?_; intro v' w1 ho))
      refine ⟨⟨k + 1, by omega, by go_num, ?_⟩, by simp [intOf]; omega⟩
      rw [take_snoc_data s k hlt, List.flatMap_append, ← List.cons_append]
      simpa using ownBuf_text ho
    · have e : (s.data.toList.take k) = s.data.toList := by rw [List.take_of_length_le (by rw [len_data]; omega)]
      rw [e] at hI
      have hlen : (34 :: s.data.toList.flatMap esc).length + 1 ≤ 140737488355328 := by
        have := flat_len s.data.toList; rw [List.length_cons]; rw [len_data] at this; omega
      clear e hfl
      go_wp2_with (at_builtin; refine Lib.wpList_append_byte rfl _ _ 38 rfl w.heap.size 5 i0 Tryd.underlying38 hi hz0 hz1 hz2 _ _ _ rfl w wr 34 (by exact hI) rfl hlen ?_; intro v' w1 ho; have hc := convBuf (ownBuf_byte (c := 34) ho))
      go_ret
      exact ⟨ret_str (by simp [quoteL]), (ownBuf_byte (c := 34) ho).2.1⟩
end Go.Proofs.YtoknncoolmbklaaDoor
/- quoted of the reference reads a quoted form at the beginning of a string; conditions: the length at most 140737488355000. -/
namespace Go.Proofs.YtoknncoolmbklaaDoor
set_option linter.unusedVariables false
set_option linter.unusedSimpArgs false
open Go.RowKit Go.Sort
theorem rEscapedN (c : Nat) (h : c < 256) (w : World) : Calls Tryd.prog 48 #[.int .u8 c] w fun e w' => e = .returned (.string ⟨(esc (UInt8.ofNat c)).toArray⟩) ∧ Below w.heap.size w w' := by
  have e : (c : Int) = (UInt8.ofNat c).toNat := by rw [UInt8.toNat_ofNat', Nat.mod_eq_of_lt h]
  rw [e]; exact rEscaped _ _

theorem ownBuf_byteN {B : Nat} {e : TypeId} {v : Value} {l : List UInt8} {c : Nat} {W0 w : World} (hc : c < 256) (h : Lib.OwnBuf B e v (l.length + 1) (Lib.byteCells l ++ [.int .u8 c]) W0 w) : Lib.OwnBuf B e v (l ++ [UInt8.ofNat c]).length (Lib.byteCells (l ++ [UInt8.ofNat c])) W0 w := by
  refine ownBuf_byte ?_
  have e : (c : Int) = (UInt8.ofNat c).toNat := by rw [UInt8.toNat_ofNat', Nat.mod_eq_of_lt hc]
  rw [e] at h; exact h

/-- What holds in the loop over the bytes: no form of a byte below c stands here, or one was found. -/
def Inner (s : ByteArray) (k : Nat) (acc : List UInt8) (w : World) (o i f ci : Value) (wr : World) : Prop :=
  ∃ c : Nat, c ≤ 256 ∧ ci = .int .i64 c ∧
    ((f = .bool false ∧ i = .int .i64 k ∧ Lib.OwnBuf w.heap.size 5 o acc.length (Lib.byteCells acc) w wr ∧ Hid (∀ j : Nat, j < c → (s.data.toList.drop k).take (esc (UInt8.ofNat j)).length ≠ esc (UInt8.ofNat j))) ∨
     (f = .bool true ∧ ∃ b : UInt8, i = .int .i64 (k + (esc b).length : Nat) ∧ Lib.OwnBuf w.heap.size 5 o (acc ++ [b]).length (Lib.byteCells (acc ++ [b])) w wr ∧ Hid ((s.data.toList.drop k).take (esc b).length = esc b)))

set_option maxRecDepth 100000 in
set_option maxHeartbeats 800000 in
theorem rQuoted (s : ByteArray) (w : World) (hs : s.size ≤ 140737488355000) :
    Calls Tryd.prog 44 #[.string s] w fun e w' => e = .returned (.tuple #[.string ⟨(rqT s.data.toList).toArray⟩, .int .i64 (rqN s.data.toList)]) ∧ Below w.heap.size w w' := by
  by_cases h0 : s.size = 0
  · have h0' : ((s.size : Int) == 0) = true := by rw [h0]; rfl
    have HN := Lib.hid (rqTN_none (l := s.data.toList) (by rw [head_data_none s h0]; rfl))
    clear h0
    go_enter Tryd.func44, Tryd.ntmps44
    go_wp2_with fail
    go_ret2
    rw [HN.out.1, HN.out.2]
    exact ⟨rfl, Below.refl _ _⟩
  obtain ⟨i0, hi, hz0, hz1, hz2⟩ := info_parts infoU8
  have hp : 0 < s.size := by omega
  have h0' : ((s.size : Int) == 0) = false := by rw [beq_eq_false_iff_ne]; omega
  clear h0
  by_cases hq : s[0].toNat = 34
  · have hq' : ((s[0].toNat : Int) != 34) = false := by rw [hq]; rfl
    have HQ : Hid (rqL s.data.toList = (rqC (s.data.toList.drop 1)).map fun p => (p.1, p.2 + 1)) := by
      unfold Hid rqL
      rw [head_data s hp, if_pos (by rw [Option.some.injEq]; exact UInt8.toNat_inj.1 hq), List.drop_one]
    have hn0 := ownBuf_nil w
    clear hq
    go_enter Tryd.func44, Tryd.ntmps44
    go_wp2_with fail
    go_loopw [4, 5] (fun o i wr => ∃ (k : Nat) (acc : List UInt8), 1 ≤ k ∧ k ≤ s.size ∧ acc.length ≤ k ∧ i = .int .i64 k ∧ Lib.OwnBuf w.heap.size 5 o acc.length (Lib.byteCells acc) w wr ∧
      Hid (rqL s.data.toList = (rqC (s.data.toList.drop k)).map fun p => (acc ++ p.1, p.2 + k))) (fun _ i _ => s.size - (intOf i).toNat)
    case atStart => exact ⟨1, [], by omega, by omega, by simp, rfl, hn0, HQ⟩
    case round =>
      obtain ⟨k, acc, hk1, hk, hal, rfl, hI, HR⟩ := hrel
      clear HQ hn0
      by_cases hlt : k < s.size
      · obtain ⟨r, hr⟩ := drop_data s k hlt
        by_cases hc : s[k].toNat = 34
        · have hc' : ((s[k].toNat : Int) != 34) = false := by rw [hc]; rfl
          have hks : ((k : Int) == s.size) = false := by rw [beq_eq_false_iff_ne]; omega
          have HN := Lib.hid (rqTN_some (l := s.data.toList) (x := acc) (n := k + 1) (by
            rw [HR.out, hr, show s[k] = 34 from UInt8.toNat_inj.1 hc, rqC_quote]
            simp [Nat.add_comm]))
          have hcv := convBuf hI
          clear hc hr HR
          go_wp2_with fail
          go_ret2
          rw [HN.out.1, HN.out.2]
          exact ⟨ret_stri rfl (by omega), hI.2.1⟩
        · have hc' : ((s[k].toNat : Int) != 34) = true := by rw [bne_iff_ne]; omega
          have hh : (s.data.toList.drop k).head? ≠ some 34 := by rw [hr]; intro h; simp at h; rw [h] at hc; exact hc rfl
          clear hc hr
          have HH := Lib.hid hh
          clear hh
          go_wp2_with fail
          obtain ⟨wo, rfl⟩ : ∃ wo : World, wo = wr := ⟨_, rfl⟩
          go_loopw [4, 5, 6, 7] (Inner s k acc w) (fun _ _ f c _ => match f with | .bool true => 0 | _ => 300 - (intOf c).toNat)
          case atStart => exact ⟨0, by omega, rfl, .inl ⟨rfl, rfl, hI, fun j hj => absurd hj (Nat.not_lt_zero _)⟩⟩
          case round =>
            obtain ⟨c, hc, rfl, hor⟩ := hrel
            rcases hor with ⟨rfl, rfl, hI', HN⟩ | ⟨rfl, b, rfl, hI', HT⟩
            · by_cases hc2 : c < 256
              · have hw8 : IntKind.u8.wrap (c : Int) = c := IntWalk.u8_in _ (by omega)
                obtain ⟨m, hm⟩ : ∃ m : List UInt8, esc (UInt8.ofNat c) = m := ⟨_, rfl⟩
                have hml := esc_len (UInt8.ofNat c)
                rw [hm] at hml
                have HM := Lib.hid hm
                clear hm
                have hms : (⟨m.toArray⟩ : ByteArray).size = m.length := by show m.toArray.size = _; simp
                have hcall : ∀ W : World, Calls Tryd.prog 48 #[.int .u8 c] W fun e w' => e = .returned (.string ⟨m.toArray⟩) ∧ Below W.heap.size W w' := fun W => by rw [← HM.out]; exact rEscapedN c hc2 W
                have HC := Lib.hid hcall
                clear hcall
                have hx : k + m.length ≤ s.size → (s.extract k (k + m.length)).toList = (s.data.toList.drop k).take m.length := fun h => by
                  rw [ByteArray.toList_eq, Lib.extract_data]; congr 1; omega
                have HX := Lib.hid hx
                clear hx
                by_cases hfit : m.length ≤ s.size - k
                · have hfit' : (m.length : Int) ≤ s.size - k := by omega
                  cases heq : ((s.extract k (k + m.length)).toList == m) with
                  | true =>
                    have HQ := Lib.hid heq
                    have hl1 : acc.length + 1 ≤ 140737488355328 := by omega
                    go_wp2_with (first
                      | (go_at_call 48; refine (HC.out _).mono ?_; rintro e W2 ⟨rfl, b2⟩)
                      | (at_builtin; refine Lib.wpList_append_byte rfl _ _ 38 rfl w.heap.size 5 i0 Tryd.underlying38 hi hz0 hz1 hz2 _ _ _ rfl w _ c (by exact ownBuf_below hI' ‹_›) rfl hl1 ?_; intro v' w1 ho))
                    have hT : (s.data.toList.drop k).take m.length = m := by
                      rw [← HX.out (by omega)]; exact beq_iff_eq.1 HQ.out
                    refine ⟨⟨c + 1, by omega, by go_num, .inr ⟨rfl, UInt8.ofNat c, ?_, ?_, ?_⟩⟩, by simp [intOf]; omega⟩
                    · rw [HM.out]; go_num
                    · exact ownBuf_byteN hc2 ho
                    · unfold Hid; rw [HM.out]; exact hT
                  | false =>
                    have HQ := Lib.hid heq
                    go_wp2_with (go_at_call 48; refine (HC.out _).mono ?_; rintro e W2 ⟨rfl, b2⟩)
                    refine ⟨⟨c + 1, by omega, by go_num, .inl ⟨rfl, rfl, ownBuf_below hI' b2, ?_⟩⟩, by simp [intOf]; omega⟩
                    intro j hj
                    by_cases hjc : j = c
                    · subst hjc
                      rw [HM.out, ← HX.out (by omega)]
                      intro h
                      have := HQ.out
                      rw [h] at this; simp at this
                    · exact HN.out j (by omega)
                · have hfit' : (s.size : Int) - k < m.length := by omega
                  go_wp2_with (go_at_call 48; refine (HC.out _).mono ?_; rintro e W2 ⟨rfl, b2⟩)
                  refine ⟨⟨c + 1, by omega, by go_num, .inl ⟨rfl, rfl, ownBuf_below hI' b2, ?_⟩⟩, by simp [intOf]; omega⟩
                  intro j hj
                  by_cases hjc : j = c
                  · subst hjc
                    rw [HM.out]
                    intro h
                    have := congrArg List.length h
                    rw [List.length_take, List.length_drop, len_data] at this
                    omega
                  · exact HN.out j (by omega)
              · obtain rfl : c = 256 := by omega
                have hnone : rbL (s.data.toList.drop k) = none := rb_none_of fun b => by
                  have := HN.out b.toNat b.toNat_lt
                  simpa using this
                have HZ := Lib.hid (rqTN_none (l := s.data.toList) (by rw [HR.out, rqC_none HH.out hnone]; rfl))
                clear hnone HR HN
                go_wp2_with fail
                go_ret2
                rw [HZ.out.1, HZ.out.2]
                exact ⟨rfl, hI'.2.1⟩
            · have hl := take_len HT.out
              rw [List.length_drop, len_data] at hl
              have he := esc_len b
              have HS : Hid (rqL s.data.toList = (rqC (s.data.toList.drop (k + (esc b).length))).map fun p => ((acc ++ [b]) ++ p.1, p.2 + (k + (esc b).length))) := by
                unfold Hid
                rw [HR.out, rqC_step HH.out (rb_of_take HT.out), List.drop_drop, Option.map_map]
                congr 1
                funext p
                simp [Nat.add_assoc, Nat.add_comm, Nat.add_left_comm]
              obtain ⟨m, hm⟩ : ∃ m, (esc b).length = m := ⟨_, rfl⟩
              rw [hm] at hl he HS
              rw [hm]
              clear hm HR HT
              by_cases hc2 : c < 256
              all_goals
                go_wp2_with fail
                go_roundw
                case rel => exact ⟨k + m, acc ++ [b], by omega, by omega, by simp; omega, rfl, hI', HS⟩
                case measure => simp [intOf]; omega
      · have hks : ((k : Int) == s.size) = true := by rw [beq_iff_eq]; omega
        have HN := Lib.hid (rqTN_none (l := s.data.toList) (by
          rw [HR.out, List.drop_eq_nil_of_le (by rw [len_data]; omega)]; rfl))
        clear HR
        go_wp2_with fail
        go_ret2
        rw [HN.out.1, HN.out.2]
        exact ⟨rfl, hI.2.1⟩
  · have hq' : ((s[0].toNat : Int) != 34) = true := by rw [bne_iff_ne]; omega
    have HN := Lib.hid (rqTN_none (l := s.data.toList) (by
      unfold rqL; rw [head_data s hp, if_neg (by intro h; injection h with h; rw [h] at hq; exact hq rfl)]))
    clear hq
    go_enter Tryd.func44, Tryd.ntmps44
    go_wp2_with fail
    go_ret2
    rw [HN.out.1, HN.out.2]
    exact ⟨rfl, Below.refl _ _⟩
end Go.Proofs.YtoknncoolmbklaaDoor
/- Split of the reference returns the fields and the error that P1.3 names; conditions: a bound on the length. -/
namespace Go.Proofs.YtoknncoolmbklaaDoor
set_option linter.unusedVariables false
set_option linter.unusedSimpArgs false
open Go.RowKit Go.Sort

/-- What is known of the field that begins at the beginning of l. -/
structure Fld (l : List UInt8) (f : FL) (n : Nat) : Prop where
  pos : 0 < n
  le : n ≤ l.length
  is : fieldAt l = (f, n)
  ok : okAt l = true ↔ (n = l.length ∨ l[n]? = some 32)
theorem fld_quoted {l : List UInt8} {n : Nat} (h : rqN l = n) (h0 : n ≠ 0) : Fld l (rqT l, true) n := by
  have hq := field_quoted (l := l) (by omega)
  rw [h] at hq
  simp only [Int.toNat_natCast] at hq
  refine ⟨by omega, ?_, hq.1, ?_⟩
  · have := fieldAt_le l; rw [hq.1] at this; exact this
  · rw [okAt_iff, hq.1]; simp only; exact ⟨fun h => h.2, fun h => ⟨h0, h⟩⟩
theorem fld_bare {l : List UInt8} (h : rqN l = 0) (hb : bareS (l.take (uN l)) = true) : Fld l (l.take (uN l), false) (uN l) := by
  have ho := okAt_bare h
  have hf := ho.2 (by rw [ho.1, hb])
  refine ⟨?_, uN_le l, hf, ?_⟩
  · rcases Nat.eq_zero_or_pos (uN l) with h0 | h0
    · rw [h0] at hb; simp [bareS] at hb
    · exact h0
  · rw [ho.1, hb]; exact ⟨fun _ => uN_next l, fun _ => rfl⟩

/-- What holds when a field begins at place k. -/
def AtField (s : ByteArray) (w : World) (o lg i : Value) (wr : World) : Prop :=
  ∃ (k : Nat) (fs : List FL), k ≤ s.size ∧ fs.length ≤ k ∧ i = .int .i64 k ∧ lg = .bool (anyB fs) ∧ wr.ownsRow w.heap.size 50 2 o fs.length (fcells fs) ∧ Below w.heap.size w wr ∧ Hid (Sofar s.data.toList k fs)

set_option maxRecDepth 100000 in
set_option maxHeartbeats 1000000 in
theorem rSplit_some (s : ByteArray) (w : World) (h0 : 0 < s.size) (hs : s.size ≤ 8192) :
    Calls Tryd.prog 24 #[.string s] w fun e w' => ∃ v, e = .returned (.tuple #[v, .int .i64 (splE s.data.toList)]) ∧ w'.ownsRow w.heap.size 50 2 v (splF s.data.toList).length (fcells (splF s.data.toList)) ∧ Below w.heap.size w w' := by
  have hs' : (s.size : Int) ≤ 8192 := by omega
  have he := isEmpty_of_pos s h0
  have hne := toList_ne_of_pos s h0
  have HS0 := Lib.hid (sofar_start (l := s.data.toList) (by intro h; have := len_data s; rw [h] at this; simp at this; omega))
  have hn0 := World.ownsRow_nil w w.heap.size 50 2
  go_enter Tryd.func24, Tryd.ntmps24
  go_wp2_with fail
  go_loopw [4, 5, 6] (AtField s w) (fun _ _ i _ => s.size - (intOf i).toNat)
  case atStart => exact ⟨0, [], by omega, by simp, rfl, rfl, hn0, Below.refl _ _, HS0⟩
  case round =>
    obtain ⟨k, fs, hk, hfk, rfl, rfl, hown, hbw, HS⟩ := hrel
    clear hn0 HS0
    obtain ⟨l, hl⟩ : ∃ l, s.data.toList.drop k = l := ⟨_, rfl⟩
    have htd : List.take (s.size - k) (List.drop k s.data.toList) = l := by rw [take_drop_data, hl]
    have hll : l.length = s.size - k := by rw [← hl, List.length_drop, len_data]
    have HL := Lib.hid hl
    have HLL := Lib.hid hll
    have hnn : 0 ≤ rqN l := by unfold rqN; split <;> omega
    obtain ⟨z, hn⟩ : ∃ z : Int, rqN l = z := ⟨_, rfl⟩
    rw [hn] at hnn
    have hnle := rqN_le l
    have hcall : ∀ W : World, Calls Tryd.prog 44 #[.string (s.extract k s.size)] W fun e w' => e = .returned (.tuple #[.string ⟨(rqT l).toArray⟩, .int .i64 z]) ∧ Below W.heap.size W w' := fun W => by
      have := rQuoted (s.extract k s.size) W (by simp; omega)
      rw [extract_from, hl, hn] at this
      exact this
    have HC := Lib.hid hcall
    have HN := Lib.hid hn
    have hn2 : z ≤ 8192 := by omega
    clear hl hll htd hcall hn hnle
    go_wp2_with fail
    refine (HC.out _).mono ?_
    rintro e W2 ⟨rfl, b2⟩
    have hown2 := ownsRow_below hown b2
    have hbw2 := hbw.trans (b2.mono hbw.size)
    have hz2 := hbw2.size
    have hrl : ∀ g, u4.ownBlock = some g → w.heap.size ≤ g ∧ g < W2.heap.size := fun g e => hown2.lt g e
    clear hown hbw b2
    go_upto_if 25 with fail
    go_cut [8] (fun v8 wx => ∃ (m : Nat) (f : FL), v8 = .int .i64 m ∧ W2.heap.size < wx.heap.size ∧ wx.cell? ⟨W2.heap.size, 0, none⟩ = some (.string ⟨f.1.toArray⟩) ∧ wx.cell? ⟨W2.heap.size, 1, none⟩ = some (.bool f.2) ∧ wx.ownsRow w.heap.size 50 2 u4 fs.length (fcells fs) ∧ Below w.heap.size w wx ∧ Hid (Fld l f m))
    case first =>
      by_cases hn0 : z = 0
      · subst hn0
        have hk' : (k : Int) ≤ s.size := by omega
        go_wp2_with fail
        go_loop [8] (fun v8 => ∃ j : Nat, k + j ≤ s.size ∧ v8 = .int .i64 j ∧ Hid (∀ c ∈ l.take j, c ≠ 32)) (fun v8 => s.size - k - (intOf v8).toNat)
        case atStart => exact ⟨0, by omega, rfl, fun c hc => by simp at hc⟩
        case round =>
          obtain ⟨j, hj, rfl, HJ⟩ := hrel
          have hj' : (k : Int) + j ≤ s.size := by omega
          have HXT : Hid ((s.extract k (k + j)).data.toList = l.take j) := by
            unfold Hid; rw [Lib.extract_data, HL.out, show k + j - k = j by omega]
          have HXS : Hid (s.extract k (k + j) = ⟨(l.take j).toArray⟩) := by
            unfold Hid; rw [← HXT.out]
          by_cases hlt : k + j < s.size
          · have hlt' : (k : Int) + j < s.size := by omega
            by_cases h32 : s[k + j].toNat = 32
            · have h32' : ((s[k + j].toNat : Int) != 32) = false := by rw [h32]; rfl
              have HU : Hid (uN l = j) := Lib.hid (uN_of HJ.out (by have := HLL.out; omega) (.inr (by
                rw [← HL.out, List.getElem?_drop, List.getElem?_eq_getElem (by rw [len_data]; omega)]
                exact congrArg some (UInt8.toNat_inj.1 h32))))
              clear h32
              go_wp2_with fail
              have hcb : Calls Tryd.prog 51 #[.string (s.extract k (k + j))] (W2.alloc (.cells #[.string (s.extract k (k + j)), .bool false] 50)) fun e w' => e = .returned (.bool (bareS (l.take j))) ∧ (W2.alloc (.cells #[.string (s.extract k (k + j)), .bool false] 50)) = w' := by
                have := rBare (s.extract k (k + j)) (W2.alloc (.cells #[.string (s.extract k (k + j)), .bool false] 50)) (by simp; omega)
                rw [HXT.out] at this; exact this
              have hob := okAt_bare HN.out
              rw [HU.out] at hob
              have HOB := Lib.hid hob
              clear hob
              cases hbs : bareS (l.take j) with
              | false =>
                rw [hbs] at hcb
                have hbad := sofar_bad HS.out (by rw [len_data]; omega) (by rw [HL.out, HOB.out.1, hbs])
                have HBD := Lib.hid hbad
                clear hbad
                refine hcb.mono ?_
                rintro e W3 ⟨rfl, rfl⟩
                clear hcb
                go_wp2_with fail
                go_ret2
                rw [HBD.out.1, HBD.out.2]
                exact ⟨_, rfl, World.ownsRow_nil _ _ _ _, hbw2.alloc hz2 _⟩
              | true =>
                rw [hbs] at hcb
                refine hcb.mono ?_
                rintro e W3 ⟨rfl, rfl⟩
                clear hcb
                go_wp2_with fail
                go_meet
                refine ⟨j, (l.take j, false), rfl, by simp, ?_, by simp [World.cell?_alloc_new], hown2.alloc _, hbw2.alloc hz2 _, ?_⟩
                · rw [World.cell?_alloc_new, HXS.out]; rfl
                · have := fld_bare HN.out (by rw [HU.out]; exact hbs)
                  rw [HU.out] at this; exact this
            · have h32' : ((s[k + j].toNat : Int) != 32) = true := by rw [bne_iff_ne]; omega
              have HJ' : Hid (∀ c ∈ l.take (j + 1), c ≠ 32) := by
                intro c hc
                have hgj : l[j]? = some s[k + j] := by
                  rw [← HL.out, List.getElem?_drop, List.getElem?_eq_getElem (by rw [len_data]; omega)]; rfl
                rw [List.take_add_one, hgj, List.mem_append] at hc
                rcases hc with hc | hc
                · exact HJ.out c hc
                · simp at hc; rw [hc]; intro h; rw [h] at h32; exact h32 rfl
              clear h32
              go_wp2_with fail
              refine ⟨⟨trivial, ?_⟩, by simp [intOf]; omega⟩
              repeat apply Exists.intro
              exact ⟨⟨j + 1, by omega, by go_num, HJ'⟩, rfl⟩
          · have hlt' : ¬ (k : Int) + j < s.size := by omega
            have HU : Hid (uN l = j) := Lib.hid (uN_of HJ.out (by have := HLL.out; omega) (.inl (by have := HLL.out; omega)))
            go_wp2_with fail
            have hcb : Calls Tryd.prog 51 #[.string (s.extract k (k + j))] (W2.alloc (.cells #[.string (s.extract k (k + j)), .bool false] 50)) fun e w' => e = .returned (.bool (bareS (l.take j))) ∧ (W2.alloc (.cells #[.string (s.extract k (k + j)), .bool false] 50)) = w' := by
              have := rBare (s.extract k (k + j)) (W2.alloc (.cells #[.string (s.extract k (k + j)), .bool false] 50)) (by simp; omega)
              rw [HXT.out] at this; exact this
            have hob := okAt_bare HN.out
            rw [HU.out] at hob
            have HOB := Lib.hid hob
            clear hob
            cases hbs : bareS (l.take j) with
            | false =>
              rw [hbs] at hcb
              have hbad := sofar_bad HS.out (by rw [len_data]; omega) (by rw [HL.out, HOB.out.1, hbs])
              have HBD := Lib.hid hbad
              clear hbad
              refine hcb.mono ?_
              rintro e W3 ⟨rfl, rfl⟩
              clear hcb
              go_wp2_with fail
              go_ret2
              rw [HBD.out.1, HBD.out.2]
              exact ⟨_, rfl, World.ownsRow_nil _ _ _ _, hbw2.alloc hz2 _⟩
            | true =>
              rw [hbs] at hcb
              refine hcb.mono ?_
              rintro e W3 ⟨rfl, rfl⟩
              clear hcb
              go_wp2_with fail
              go_meet
              refine ⟨j, (l.take j, false), rfl, by simp, ?_, by simp [World.cell?_alloc_new], hown2.alloc _, hbw2.alloc hz2 _, ?_⟩
              · rw [World.cell?_alloc_new, HXS.out]; rfl
              · have := fld_bare HN.out (by rw [HU.out]; exact hbs)
                rw [HU.out] at this; exact this
      · obtain ⟨n, rfl⟩ : ∃ n : Nat, z = n := ⟨z.toNat, by omega⟩
        have hn0' : ((n : Int) == 0) = false := by rw [beq_eq_false_iff_ne]; omega
        go_wp2_with fail
        go_meet
        exact ⟨n, (rqT l, true), rfl, by simp, by simp [World.cell?_alloc_new], by simp [World.cell?_alloc_new], hown2.alloc _, hbw2.alloc hz2 _, Lib.hid (fld_quoted HN.out (by omega))⟩
    case rest =>
      obtain ⟨m, f, rfl, hsz, hc0, hc1, hown3, hbw3, HF⟩ := hcut
      obtain ⟨i0, hi, hz0, hz1, hz2'⟩ := info_parts infoField
      have hm1 := HF.out.pos
      have hm2 := HF.out.le
      have hll := HLL.out
      have hx1 : fs.length + 1 ≤ maxLen := by unfold maxLen; omega
      have hx2 : (fs.length + 1) * 24 ≤ 140737488355328 := by omega
      have hx3 : w.heap.size ≤ (wc.alloc (.cells #[.string ⟨f.1.toArray⟩, .bool f.2] 50)).heap.size := by simp; omega
      clear hll
      go_upto_region 17 with (at_builtin; refine wpList_append_own _ rfl _ _ 32 rfl w.heap.size 50 i0 (.agg #[.string ByteArray.empty, .bool false]) 2 24 Tryd.underlying32 hi hz0 hz1 hz2' rfl (by decide) _ _ _ rfl (hown3.alloc _) ⟨wc.heap.size, 0, none⟩ 1 1 [.string ⟨f.1.toArray⟩, .bool f.2] rfl rfl ?c1 ?c2 hx1 hx2 hx3 ?c6)
      case c1 =>
        intro j u hj
        match j, hj with
        | 0, hj => simp at hj; subst hj; simp [World.cell?_alloc_new, Addr.add]
        | 1, hj => simp at hj; subst hj; simp [World.cell?_alloc_new, Addr.add]
        | j + 2, hj => simp at hj
      case c2 =>
        intro u hu
        simp at hu
        rcases hu with rfl | rfl <;> rfl
      case c6 =>
        intro v' w1 hown' hgrow _
        obtain ⟨g', cap', rfl⟩ := ownsRow_succ hown'
        have hbl : w1.heap[W2.heap.size]? = wc.heap[W2.heap.size]? := (hgrow.block _ (by simp; omega) (fun e => by have := (hrl _ e.symm).2; omega)).trans (Below.heap_alloc _ _ _ (by omega))
        have hd0 : w1.cell? ⟨W2.heap.size, 0, none⟩ = some (.string ⟨f.1.toArray⟩) := by rw [← hc0]; simp only [World.cell?, hbl]
        have hbw4 : Below w.heap.size w w1 := (hbw3.alloc (by omega) _).grown hgrow hx3 (fun k e => by have := (hrl k e).1; omega)
        clear hc0 hc1
        go_upto_region 17 with fail
        go_cut [5] (fun v5 wx => wx = w1 ∧ v5 = .bool (anyB (fs ++ [f])))
        case first =>
          cases hab : anyB fs with
          | true =>
            have HA := Lib.hid (by rw [anyB_snoc, hab]; rfl : anyB (fs ++ [f]) = true)
            go_wp2_with fail
            go_meet
            exact ⟨rfl, by rw [HA.out]⟩
          | false =>
            by_cases hfl : 2000 < f.1.length
            · have HA := Lib.hid (by rw [anyB_snoc, hab]; simpa using hfl : anyB (fs ++ [f]) = true)
              have hfl' : (2000 : Int) < f.1.length := by omega
              go_wp2_with fail
              go_meet
              exact ⟨rfl, by rw [HA.out]⟩
            · have HA := Lib.hid (by rw [anyB_snoc, hab]; simpa using hfl : anyB (fs ++ [f]) = false)
              have hfl' : ¬ (2000 : Int) < f.1.length := by omega
              go_wp2_with fail
              go_meet
              exact ⟨rfl, by rw [HA.out]⟩
        case rest =>
          obtain ⟨rfl, rfl⟩ := hcut
          have hfs : (fcells fs ++ [.string ⟨f.1.toArray⟩, .bool f.2]) = fcells (fs ++ [f]) := (fcells_snoc fs f).symm
          rw [hfs] at hown'
          have hlf : (fs ++ [f]).length = fs.length + 1 := by simp
          have HLF := Lib.hid hlf
          have hkm : (k : Int) + m ≤ s.size := by have := HLL.out; omega
          by_cases hend : k + m = s.size
          · have hend' : ((k : Int) + m == s.size) = true := by rw [beq_iff_eq]; omega
            have hok : okAt l = true := HF.out.ok.2 (.inl (by have := HLL.out; omega))
            have hse := sofar_end HS.out (by rw [HL.out]; exact hok) (by rw [HL.out, HF.out.is]; simp only; have := HLL.out; omega)
            rw [HL.out, HF.out.is] at hse
            simp only at hse
            have HE := Lib.hid hse
            clear hse hok hlf
            cases hab : anyB (fs ++ [f]) with
            | true =>
              have HR := Lib.hid (splE_many (l := s.data.toList) (by rw [len_data]; omega) HE.out.1 (by rw [HE.out.2, longB_anyB, hab]; rfl))
              go_wp2_with fail
              go_ret2
              rw [HR.out.1, HR.out.2]
              exact ⟨_, rfl, World.ownsRow_nil _ _ _ _, hbw4⟩
            | false =>
              by_cases h64 : 64 < fs.length + 1
              · have h64' : (64 : Int) < (fs.length : Int) + 1 := by omega
                have HR := Lib.hid (splE_many (l := s.data.toList) (by rw [len_data]; omega) HE.out.1 (by rw [HE.out.2, longB_anyB, hab, HLF.out]; simpa using h64))
                go_wp2_with fail
                go_ret2
                rw [HR.out.1, HR.out.2]
                exact ⟨_, rfl, World.ownsRow_nil _ _ _ _, hbw4⟩
              · have h64' : ¬ (64 : Int) < (fs.length : Int) + 1 := by omega
                have HR := Lib.hid (splE_ok (l := s.data.toList) (by rw [len_data]; omega) HE.out.1 (by rw [HE.out.2, longB_anyB, hab, HLF.out]; simpa using h64))
                go_wp2_with fail
                go_ret2
                rw [HR.out.1, HR.out.2, HE.out.2, HLF.out]
                exact ⟨_, rfl, hown', hbw4⟩
          · have hend' : ((k : Int) + m == s.size) = false := by rw [beq_eq_false_iff_ne]; omega
            have hltk : k + m < s.size := by have := HLL.out; omega
            have hget : l[m]? = some s[k + m] := by
              rw [← HL.out, List.getElem?_drop, List.getElem?_eq_getElem (by rw [len_data]; omega)]; rfl
            have HG := Lib.hid hget
            have hltk' : (k : Int) + m < s.size := by omega
            clear hget hlf
            by_cases h32 : s[k + m].toNat = 32
            · have h32' : ((s[k + m].toNat : Int) != 32) = false := by rw [h32]; rfl
              have hok : okAt l = true := HF.out.ok.2 (.inr (by rw [HG.out, show s[k + m] = 32 from UInt8.toNat_inj.1 h32]))
              have hst := sofar_step HS.out (by rw [HL.out]; exact hok) (by rw [HL.out, HF.out.is]; simp only; have := HLL.out; omega)
              rw [HL.out, HF.out.is] at hst
              simp only at hst
              have HST := Lib.hid hst
              clear hst hok h32
              go_wp2_with fail
              refine ⟨⟨k + m + 1, fs ++ [f], by omega, by rw [HLF.out]; omega, by go_num, rfl, by rw [HLF.out]; exact hown', hbw4, HST⟩, by simp [intOf]; omega⟩
            · have h32' : ((s[k + m].toNat : Int) != 32) = true := by rw [bne_iff_ne]; omega
              have hok : okAt l = false := by
                cases hb : okAt l with
                | false => rfl
                | true =>
                  have := HF.out.ok.1 hb
                  rw [HG.out] at this
                  rcases this with h | h
                  · have := HLL.out; omega
                  · injection h with h; rw [h] at h32; exact absurd rfl h32
              have hbad := sofar_bad HS.out (by rw [len_data]; omega) (by rw [HL.out, hok])
              have HBD := Lib.hid hbad
              clear hbad hok h32
              go_wp2_with fail
              go_ret2
              rw [HBD.out.1, HBD.out.2]
              exact ⟨_, rfl, World.ownsRow_nil _ _ _ _, hbw4⟩

set_option maxRecDepth 100000 in
theorem rSplit (s : ByteArray) (w : World) (hs : s.size ≤ 9223372036854775807) :
    Calls Tryd.prog 24 #[.string s] w fun e w' => ∃ v, e = .returned (.tuple #[v, .int .i64 (splE s.data.toList)]) ∧ w'.ownsRow w.heap.size 50 2 v (splF s.data.toList).length (fcells (splF s.data.toList)) ∧ Below w.heap.size w w' := by
  by_cases h8 : s.size ≤ 8192
  · by_cases h0 : 0 < s.size
    · exact rSplit_some s w h0 h8
    · have hz : s.size = 0 := by omega
      have hz' : (s.size : Int) ≤ 8192 := by omega
      have he := isEmpty_of_zero s hz
      have hne := toList_nil_of_zero s hz
      have hd : s.data.toList = [] := List.eq_nil_of_length_eq_zero (by rw [len_data]; exact hz)
      have HR : Hid (splE s.data.toList = 0 ∧ splF s.data.toList = []) := by rw [hd]; exact ⟨by decide, by decide⟩
      clear hz hd
      go_enter Tryd.func24, Tryd.ntmps24
      go_wp2_with fail
      go_ret2
      rw [HR.out.1, HR.out.2]
      exact ⟨_, rfl, World.ownsRow_nil _ _ _ _, Below.refl _ _⟩
  · have h8' : (8192 : Int) < s.size := by omega
    have HR := Lib.hid (splE_long (l := s.data.toList) (by rw [len_data]; omega))
    clear h8
    go_enter Tryd.func24, Tryd.ntmps24
    go_wp2_with fail
    go_ret2
    rw [HR.out.1, HR.out.2]
    exact ⟨_, rfl, World.ownsRow_nil _ _ _ _, Below.refl _ _⟩
end Go.Proofs.YtoknncoolmbklaaDoor
/- Join of the reference returns the line and the error that P1.4 names; conditions: the slice reads as these fields. -/
namespace Go.Proofs.YtoknncoolmbklaaDoor
set_option linter.unusedVariables false
set_option linter.unusedSimpArgs false
open Go.RowKit Go.Sort
theorem rBareL (l : List UInt8) (hf : l.length ≤ 1000000) (W : World) : Calls Tryd.prog 51 #[.string ⟨l.toArray⟩] W fun e w' => e = .returned (.bool (bareS l)) ∧ W = w' :=
  rBare ⟨l.toArray⟩ W (by rw [sizeL]; omega)
theorem rQuoteL (l : List UInt8) (hf : l.length ≤ 1000000) (W : World) : Calls Tryd.prog 22 #[.string ⟨l.toArray⟩] W fun e w' => e = .returned (.string ⟨(quoteL l).toArray⟩) ∧ Below W.heap.size W w' :=
  rQuote ⟨l.toArray⟩ W (by rw [sizeL]; omega)
theorem str_app (a b : List UInt8) : (⟨a.toArray⟩ : ByteArray) ++ ⟨b.toArray⟩ = ⟨(a ++ b).toArray⟩ := by
  exact mk_append a b
set_option maxRecDepth 100000 in
set_option maxHeartbeats 800000 in
theorem rJoin (v : Value) (fs : List FL) (w : World) (hf : FieldsAt w v fs) :
    Calls Tryd.prog 28 #[v] w fun e w' => e = .returned (.tuple #[.string ⟨(joiS fs).toArray⟩, .int .i64 (joiE fs)]) ∧ Below w.heap.size w w' := by
  obtain ⟨p, c, rfl⟩ := hf.shape
  by_cases h64 : 64 < fs.length
  · have h64' : (64 : Int) < fs.length := by omega
    have HR := Lib.hid (joi_long (fs := fs) (by unfold longB; rw [decide_eq_true h64]; rfl))
    clear h64
    go_enter Tryd.func28, Tryd.ntmps28
    go_wp2_with fail
    go_ret2
    rw [HR.out.1, HR.out.2]
    exact ⟨rfl, Below.refl _ _⟩
  · have h64' : (fs.length : Int) ≤ 64 := by omega
    have HF := Lib.hid hf
    clear hf
    go_enter Tryd.func28, Tryd.ntmps28
    go_wp2_with fail
    go_loop [4] (fun i => ∃ k : Nat, k ≤ fs.length ∧ i = .int .i64 k ∧ Hid (∀ j (h : j < fs.length), j < k → fs[j].1.length ≤ 2000)) (fun i => fs.length - (intOf i).toNat)
    case atStart => exact ⟨0, by omega, rfl, fun j h hj => by omega⟩
    case round =>
      obtain ⟨k, hk, rfl, HL⟩ := hrel
      by_cases hkl : k < fs.length
      · obtain ⟨b, o, rfl, hlt, hc0, hc1⟩ := HF.out.get k hkl
        have hkl' : (k : Int) < fs.length := by omega
        by_cases h2 : 2000 < fs[k].1.length
        · have h2' : (2000 : Int) < fs[k].1.length := by omega
          have HR := Lib.hid (joi_long (longB_any hkl h2))
          go_wp2_with fail
          go_ret2
          rw [HR.out.1, HR.out.2]
          exact ⟨rfl, Below.refl _ _⟩
        · have h2' : ¬ (2000 : Int) < fs[k].1.length := by omega
          go_wp2_with fail
          go_round
          case rel =>
            refine ⟨k + 1, by omega, by go_num, fun j hj hjk => ?_⟩
            by_cases hjk' : j = k
            · subst hjk'; omega
            · exact HL.out j hj (by omega)
          case measure => simp [intOf]; omega
      · obtain rfl : k = fs.length := by omega
        have hlb : longB fs = false := longB_none (by omega) (fun j hj => HL.out j hj hj)
        have H2 := Lib.hid (fun j hj => HL.out j hj hj : ∀ j (h : j < fs.length), fs[j].1.length ≤ 2000)
        clear HL
        go_wp2_with fail
        go_loopw [5, 6] (fun t i wr => ∃ (k : Nat), k ≤ fs.length ∧ i = .int .i64 k ∧ t = .string ⟨(joinL (fs.take k)).toArray⟩ ∧ Below w.heap.size w wr ∧
          Hid (∀ j (h : j < fs.length), j < k → badF fs[j] = false)) (fun _ i _ => fs.length - (intOf i).toNat)
        case atStart => exact ⟨0, by omega, rfl, rfl, Below.refl _ _, fun j h hj => by omega⟩
        case round =>
          obtain ⟨k, hk, rfl, rfl, hbw, HB⟩ := hrel
          have hJL : (joinL (fs.take k)).length ≤ 600000 := by
            have := joinL_len (M := 2000) (fs.take k) (fun f hf => by
              obtain ⟨j, hj, rfl⟩ := List.mem_iff_getElem.1 (List.mem_of_mem_take hf)
              exact H2.out j hj)
            have h3 : (fs.take k).length ≤ 64 := by rw [List.length_take]; omega
            have h4 : (fs.take k).length * (4 * 2000 + 3) ≤ 64 * (4 * 2000 + 3) := Nat.mul_le_mul_right _ h3
            omega
          by_cases hkl : k < fs.length
          · obtain ⟨b, o, rfl, hlt, hc0, hc1⟩ := (HF.out.below hbw).get k hkl
            obtain ⟨f, hfd⟩ : ∃ f, fs[k] = f := ⟨_, rfl⟩
            rw [hfd] at hc0 hc1
            have HFD := Lib.hid hfd
            have hf2 : f.1.length ≤ 2000 := by rw [← hfd]; exact H2.out _ hkl
            clear hfd
            have hkl' : (k : Int) < fs.length := by omega
            have hzw := hbw.size
            cases hbf : badF f with
            | true =>
              have HR := Lib.hid (joi_form hlb (any_bad hkl (by rw [HFD.out]; exact hbf)))
              have hq : f.2 = false := by unfold badF at hbf; cases h : f.2 <;> simp [h] at hbf ⊢
              have hbs : bareS f.1 = false := by unfold badF at hbf; cases h : bareS f.1 <;> simp [h] at hbf ⊢
              rw [hq] at hc1
              have HC := Lib.hid (rBareL f.1 (by omega))
              rw [hbs] at HC
              clear hbf hq hbs
              go_wp2_with (go_at_call 51; refine (HC.out _).mono ?_; rintro e W5 ⟨rfl, rfl⟩)
              go_ret2
              rw [HR.out.1, HR.out.2]
              exact ⟨rfl, hbw⟩
            | false =>
              obtain ⟨T, hT⟩ : ∃ T, joinL (fs.take k) = T := ⟨_, rfl⟩
              rw [hT] at hJL
              rw [hT]
              have HT := Lib.hid hT
              clear hT
              have cont : ∀ q, f.2 = q → (q = true ∨ bareS f.1 = true) := fun q h => by
                unfold badF at hbf; rw [h] at hbf; cases q <;> simp at hbf ⊢; exact hbf
              cases hq : f.2 with
              | true =>
                rw [hq] at hc1
                have HIT : Hid (itemL f = quoteL f.1) := by unfold Hid itemL; rw [if_pos hq]
                have hql := itemL_len f
                rw [HIT.out] at hql
                have HC := Lib.hid (rQuoteL f.1 (by omega))
                clear hq cont
                go_upto_if 45 with fail
                go_cut [5] (fun v5 wx => wx = wr ∧ v5 = .string ⟨(T ++ (if fs.take k = [] then [] else [32])).toArray⟩)
                case first =>
                  by_cases hk0 : k = 0
                  · subst hk0
                    go_wp2_with fail
                    go_meet
                    exact ⟨rfl, by simp⟩
                  · have hk0' : (0 : Int) < (k : Int) := by omega
                    have hne : ¬ fs.take k = [] := fun h => hk0 ((take_nil_iff fs k hk).1 h)
                    have hl1 : T.length + 1 ≤ 9223372036854775807 := by omega
                    go_wp2_with fail
                    go_meet
                    refine ⟨rfl, ?_⟩
                    rw [if_neg hne, ← str_app]
                case rest =>
                  obtain ⟨rfl, rfl⟩ := hcut
                  obtain ⟨T2, hT2⟩ : ∃ T2, T ++ (if fs.take k = [] then [] else [32]) = T2 := ⟨_, rfl⟩
                  have hT2l : T2.length ≤ 600001 := by rw [← hT2, List.length_append]; split <;> simp <;> omega
                  rw [hT2]
                  have HT2 := Lib.hid hT2
                  clear hT2
                  go_wp2_with fail
                  refine (HC.out _).mono ?_
                  rintro e W5 ⟨rfl, b5⟩
                  go_wp2_with fail
                  refine ⟨⟨k + 1, by omega, by go_num, ?_, hbw.trans (b5.mono hzw), ?_⟩, by simp [intOf]; omega⟩
                  · rw [str_app, take_snocF fs k hkl, joinL_snoc, HFD.out, HIT.out, HT.out, ← List.append_assoc, HT2.out]
                  · intro j hj hjk
                    by_cases hjk' : j = k
                    · subst hjk'; rw [HFD.out]; exact hbf
                    · exact HB.out j hj (by omega)
              | false =>
                have hbs : bareS f.1 = true := (cont false hq).resolve_left (by simp)
                rw [hq] at hc1
                have HIT : Hid (itemL f = f.1) := by unfold Hid itemL; rw [if_neg (by simp [hq])]
                have HC := Lib.hid (rBareL f.1 (by omega))
                rw [hbs] at HC
                clear hq cont hbs
                go_upto_if 45 with (go_at_call 51; refine (HC.out _).mono ?_; rintro e W5 ⟨rfl, rfl⟩)
                go_cut [5] (fun v5 wx => wx = wr ∧ v5 = .string ⟨(T ++ (if fs.take k = [] then [] else [32])).toArray⟩)
                case first =>
                  by_cases hk0 : k = 0
                  · subst hk0
                    go_wp2_with fail
                    go_meet
                    exact ⟨rfl, by simp⟩
                  · have hk0' : (0 : Int) < (k : Int) := by omega
                    have hne : ¬ fs.take k = [] := fun h => hk0 ((take_nil_iff fs k hk).1 h)
                    have hl1 : T.length + 1 ≤ 9223372036854775807 := by omega
                    go_wp2_with fail
                    go_meet
                    refine ⟨rfl, ?_⟩
                    rw [if_neg hne, ← str_app]
                case rest =>
                  obtain ⟨rfl, rfl⟩ := hcut
                  obtain ⟨T2, hT2⟩ : ∃ T2, T ++ (if fs.take k = [] then [] else [32]) = T2 := ⟨_, rfl⟩
                  have hT2l : T2.length ≤ 600001 := by rw [← hT2, List.length_append]; split <;> simp <;> omega
                  rw [hT2]
                  have HT2 := Lib.hid hT2
                  clear hT2
                  go_wp2_with fail
                  refine ⟨⟨k + 1, by omega, by go_num, ?_, hbw, ?_⟩, by simp [intOf]; omega⟩
                  · rw [str_app, take_snocF fs k hkl, joinL_snoc, HFD.out, HIT.out, HT.out, ← List.append_assoc, HT2.out]
                  · intro j hj hjk
                    by_cases hjk' : j = k
                    · subst hjk'; rw [HFD.out]; exact hbf
                    · exact HB.out j hj (by omega)
          · obtain rfl : k = fs.length := by omega
            have hnb := none_bad (fun j hj => HB.out j hj hj)
            rw [List.take_length] at hJL
            rw [List.take_length]
            by_cases h8 : 8192 < (joinL fs).length
            · have HR := Lib.hid (joi_line hlb hnb h8)
              have h8' : (8192 : Int) < ((joinL fs).length : Int) := by omega
              go_wp2_with fail
              go_ret2
              rw [HR.out.1, HR.out.2]
              exact ⟨rfl, hbw⟩
            · have HR := Lib.hid (joi_ok hlb hnb h8)
              have h8' : ¬ (8192 : Int) < ((joinL fs).length : Int) := by omega
              go_wp2_with fail
              go_ret2
              rw [HR.out.1, HR.out.2]
              exact ⟨rfl, hbw⟩
end Go.Proofs.YtoknncoolmbklaaDoor
