/- The contract of the law's functions of P1.5: on any strings and either choice they return true; under the ambient facts of Amb. -/
import Derived.Test.YtjjghagjigaljaaDoorShown
import Derived.Test.YtjjghagjigaljaaDoorRLines
import Derived.Deep.QuietTactic
import Derived.BigQuiet
namespace Go.Proofs.YtjjghagjigaljaaDoor
open Go.RowKit Go.Sort
theorem linF_le (l : List UInt8) : (linF l).length ≤ l.length := by
  unfold linF; split
  · exact linesL_le l
  · simp
set_option maxRecDepth 100000 in
set_option maxHeartbeats 800000 in
theorem lLinesOne (s : ByteArray) (w : World) (ha : Amb w) (hs : s.size ≤ 4000000000) :
    Calls Tryd.prog 29 #[.string s] w fun e w' => e = .returned (.bool true) ∧ Below w.heap.size w w' := by
  have hl := linF_le s.data.toList
  rw [len_data] at hl
  have HL := Lib.hid hl
  clear hl
  go_enter Tryd.func29, Tryd.ntmps29
  go_wp2_with fail
  refine (wLines s _ ha hs).mono ?_
  rintro e W1 ⟨v, rfl, hv, b1⟩
  go_wp2_with fail
  refine (rLines s _ hs).mono ?_
  rintro e W2 ⟨u, rfl, hu, b2⟩
  have fv := (strsAt_of_owns hv (by have := HL.out; omega)).below b2
  have fu := strsAt_of_owns hu (by have := HL.out; omega)
  have bw2 := b1.trans (b2.mono b1.size)
  obtain ⟨p, c, rfl⟩ := fv.shape
  obtain ⟨p', c', rfl⟩ := fu.shape
  have FV := Lib.hid fv
  have FU := Lib.hid fu
  obtain ⟨ss, hss⟩ : ∃ ss, linF s.data.toList = ss := ⟨_, rfl⟩
  obtain ⟨z, hz⟩ : ∃ z, linE s.data.toList = z := ⟨_, rfl⟩
  rw [hss] at FV FU HL
  rw [hss, hz]
  have hln : ss.length ≤ 4000000000 := by have := HL.out; omega
  clear b1 b2 hv hu fv fu hss hz
  go_wp2_with fail
  go_loopw [7] (fun i wr => ∃ k : Nat, k ≤ ss.length ∧ i = .int .i64 k ∧ Below W2.heap.size W2 wr) (fun i _ => ss.length - (intOf i).toNat)
  case atStart => exact ⟨0, by omega, rfl, Below.refl _ _⟩
  case round =>
    obtain ⟨k, hk, rfl, hbw⟩ := hrel
    by_cases hkl : k < ss.length
    · obtain ⟨b, o, rfl, hlt, h0⟩ := (FV.out.below hbw).get k hkl
      obtain ⟨b', o', rfl, hlt', h0'⟩ := (FU.out.below hbw).get k hkl
      have hkl' : (k : Int) < ss.length := by omega
      go_wp2
      go_quiet (fail)
      go_wp2
      refine ⟨⟨k + 1, by omega, by go_num, below_drewN hbw _⟩, by simp [intOf]; omega⟩
    · have hkl' : ¬ (k : Int) < ss.length := by omega
      go_wp2_with fail
      go_ret
      exact ⟨rfl, bw2.trans (hbw.mono bw2.size)⟩

/-- A block of bytes that the call has made. -/
def Bytes (w : World) (g n : Nat) (wr : World) : Prop :=
  ∃ l : List UInt8, l.length = n ∧ wr.ownsRow w.heap.size 5 1 (.slice (some ⟨g, 0, none⟩) n n) n (Lib.byteCells l) ∧ Below w.heap.size w wr
theorem bytes_stored {w : World} {g n : Nat} {wr : World} (h : Bytes w g n wr) (hg : w.heap.size ≤ g) (j : Nat) (c : UInt8) : Bytes w g n (wr.setCell ⟨g, j, none⟩ (.int .u8 c.toNat)) := by
  obtain ⟨l, hl, ho, hb⟩ := h
  refine ⟨l.set j c, by simpa using hl, ?_, hb.setCell hg _⟩
  have := (ho.stored j (.int .u8 c.toNat)).1
  rwa [show (Lib.byteCells l).set j (.int .u8 c.toNat) = Lib.byteCells (l.set j c) by simp [Lib.byteCells, List.map_set]] at this
theorem bytes_cell {w : World} {g n : Nat} {wr : World} (h : Bytes w g n wr) (j : Nat) (hj : j < n) : ∃ c : UInt8, wr.cell? ⟨g, j, none⟩ = some (.int .u8 c.toNat) ∧ wr.frozen? ⟨g, j, none⟩ = false := by
  obtain ⟨l, hl, ho, hb⟩ := h
  refine ⟨l[j]'(by omega), ?_, ho.frozenAt j⟩
  rw [ho.cellAt j (by omega)]
  simp [Lib.byteCells, hl, hj]
theorem bytes_made (w W : World) (n : Nat) (hn : n ≤ 2000000) (hb : Below w.heap.size w W) : ∃ W', (∀ k : Int, k = n → (Instr.makeSlice 38 (.int .i64 k) (.int .i64 k)).run Tryd.prog W = .ok (.slice (some ⟨W.heap.size, 0, none⟩) n n) W') ∧ Bytes w W.heap.size n W' := by
  obtain ⟨i0, hi, hz0, hz1, hz2⟩ := info_parts infoU8
  obtain ⟨W', hr, ho, hg⟩ := run_makeSlice_full (P := Tryd.prog) W w.heap.size 38 5 i0 (.int .u8 0) 1 Tryd.underlying38 hi hz0 hz1 .i64 .i64 n (by omega) (by rw [hz2]; omega) (by unfold maxLen; omega) hb.size
  refine ⟨W', fun k hk => by rw [hk]; exact hr, List.replicate n 0, by simp, ?_, hb.grown hg hb.size (fun k e => by cases e)⟩
  have e : (madeCells (Value.int .u8 0).cells (n * 1)).toList = Lib.byteCells (List.replicate n 0) := by
    rw [Nat.mul_one, show (Value.int .u8 0).cells = #[.int .u8 0] from rfl, toList_madeCells_one]
    simp [Lib.byteCells]
  rw [e] at ho
  exact ho

set_option maxRecDepth 100000 in
set_option maxHeartbeats 1000000 in
theorem lLines (s tail : ByteArray) (long : Bool) (w : World) (ha : Amb w) :
    Calls Tryd.prog 7 #[.string s, .string tail, .bool long] w fun e w' => e = .returned (.bool true) ∧ Below w.heap.size w w' := by
  by_cases hx : s.size ≤ 12000 ∧ tail.size ≤ 100
  · obtain ⟨h1, h2⟩ := hx
    have hg : decide ((12000 : Int) < s.size) = false := by simp; omega
    have hg2 : decide ((100 : Int) < tail.size) = false := by simp; omega
    have H1 := Lib.hid h1
    have H2 := Lib.hid h2
    obtain ⟨w1, hm1, hB1⟩ := bytes_made w w 5000 (by omega) (Below.refl _ _)
    have hbw1 : Below w.heap.size w w1 := by obtain ⟨_, _, _, h⟩ := hB1; exact h
    obtain ⟨w2, hm2, hB2⟩ := bytes_made w w1 1048556 (by omega) hbw1
    have hk1 := hm1 5000 rfl
    have hk2 := hm2 1048556 rfl
    have hz1 := hbw1.size
    have hbw2 : Below w.heap.size w w2 := by obtain ⟨_, _, _, h⟩ := hB2; exact h
    have HB1 := Lib.hid hB1
    have HB2 := Lib.hid hB2
    clear hm1 hm2 h1 h2 hB1 hB2
    go_enter Tryd.func7, Tryd.ntmps7
    go_upto_if 19 with fail
    go_cut [7] (fun v7 wx => ∃ g n : Nat, w.heap.size ≤ g ∧ n ≤ 1048556 ∧ v7 = .slice (some ⟨g, 0, none⟩) n n ∧ Bytes w g n wx)
    case first =>
      cases long with
      | true =>
        go_wp2_with fail
        go_meet
        exact ⟨w1.heap.size, 1048556, hz1, by omega, rfl, HB2.out⟩
      | false =>
        go_wp2_with fail
        go_meet
        exact ⟨w.heap.size, 5000, by omega, by omega, rfl, HB1.out⟩
    case rest =>
      obtain ⟨g, n, hgz, hn, rfl, HB⟩ := hcut
      clear hk1 hk2 HB1 HB2 hbw1 hbw2 hz1
      have HB' := Lib.hid HB
      clear HB
      go_wp2_with fail
      go_loopw [8] (fun i wr => ∃ k : Nat, k ≤ n ∧ i = .int .i64 k ∧ Hid (Bytes w g n wr)) (fun i _ => n - (intOf i).toNat)
      case atStart => exact ⟨0, by omega, rfl, HB'⟩
      case round =>
        obtain ⟨k, hk, rfl, HK⟩ := hrel
        by_cases hkn : k < n
        · obtain ⟨c, hc, hf⟩ := bytes_cell HK.out k hkn
          have hkn' : (k : Int) < n := by omega
          have HS := Lib.hid (bytes_stored HK.out hgz k 10)
          have HS2 := Lib.hid (bytes_stored HS.out hgz k 120)
          obtain ⟨c2, hc2, hf2⟩ := bytes_cell HS.out k hkn
          cases long with
          | false =>
            go_wp2_with fail
            exact ⟨⟨k + 1, by omega, by go_num, HS⟩, by simp [intOf]; omega⟩
          | true =>
            cases hb : ((k : Int) % 1000 != 0) with
            | true =>
              go_wp2_with fail
              exact ⟨⟨k + 1, by omega, by go_num, HS2⟩, by simp [intOf]; omega⟩
            | false =>
              go_wp2_with fail
              exact ⟨⟨k + 1, by omega, by go_num, HS⟩, by simp [intOf]; omega⟩
        · have hkn' : ¬ (k : Int) < n := by omega
          obtain ⟨l, hl, ho, hbw⟩ := HK.out
          have hob : Lib.OwnBuf w.heap.size 5 (.slice (some ⟨g, 0, none⟩) n n) l.length (Lib.byteCells l) w wr := ⟨by rw [hl]; exact World.ownsRowF_of ho, hbw, hbw.size⟩
          have HO := Lib.hid hob
          have HL := Lib.hid hl
          have hz := hbw.size
          clear hob hl ho HK
          go_wp2_with fail
          refine (lLinesOne s _ (ha.below hbw) (by have := H1.out; omega)).mono ?_
          rintro e W3 ⟨rfl, b3⟩
          have hcv := convBuf (ownBuf_below HO.out b3)
          have hll : l.length ≤ 1048556 := by rw [HL.out]; exact hn
          have hbw3 := hbw.trans (b3.mono hz)
          have hz3 := hbw3.size
          have ht2 : tail.size ≤ 100 := H2.out
          go_wp2_with fail
          refine (lLinesOne _ _ (ha.below hbw3) (by rw [ByteArray.size_append, sizeL]; omega)).mono ?_
          rintro e W4 ⟨rfl, b4⟩
          have hbw4 := hbw3.trans (b4.mono hz3)
          go_wp2_with fail
          refine (lShown _ (ha.below hbw4)).mono ?_
          rintro e W6 ⟨rfl, b6⟩
          go_wp2_with fail
          go_ret
          exact ⟨rfl, hbw4.trans (b6.mono hbw4.size)⟩
  · cases hg : decide ((12000 : Int) < s.size) with
    | true =>
      clear hx
      go_enter Tryd.func7, Tryd.ntmps7
      go_wp2_with fail
      refine (lShown _ ha).mono ?_
      rintro e W6 ⟨rfl, b6⟩
      go_wp2_with fail
      go_ret
      exact ⟨rfl, b6⟩
    | false =>
      have hg2 : decide ((100 : Int) < tail.size) = true := by
        have := of_decide_eq_false hg
        rw [decide_eq_true_iff]; omega
      clear hx
      go_enter Tryd.func7, Tryd.ntmps7
      go_wp2_with fail
      refine (lShown _ ha).mono ?_
      rintro e W6 ⟨rfl, b6⟩
      go_wp2_with fail
      go_ret
      exact ⟨rfl, b6⟩
end Go.Proofs.YtjjghagjigaljaaDoor
