/- next of the package returns the next decimal form; conditions: the string consists of digits, one at least, and a bound on its length. -/
import Derived.Test.YtoknncoolmbklaaDoorRNext
import Derived.Laws.IdiomStrings
import Derived.Laws.OwnMore
import Derived.Lib.BufferMore
import Derived.RangeFuncBox
namespace Go.Proofs.YtoknncoolmbklaaDoor
set_option linter.unusedVariables false
set_option linter.unusedSimpArgs false
open Go.RowKit Go.Sort

/-- The bytes that the call has made, in the block that came next. -/
def BytesIn (w : World) (x : List UInt8) (cap : Nat) (wr : World) : Prop :=
  ∃ C : Array Value, wr.heap[w.heap.size]? = some (.cells C 5 (cap, cap + 1)) ∧ C.size = cap ∧ x.length ≤ cap ∧ C.toList.take x.length = Lib.byteCells x ∧ Below w.heap.size w wr
theorem bytesIn_get {w : World} {x : List UInt8} {cap : Nat} {wr : World} (h : BytesIn w x cap wr) (j : Nat) (hj : j < x.length) : wr.cell? ⟨w.heap.size, j, none⟩ = some (.int .u8 x[j].toNat) ∧ wr.frozen? ⟨w.heap.size, j, none⟩ = false := by
  obtain ⟨C, hh, hC, hx, ht, hb⟩ := h
  have hg : (Lib.byteCells x)[j]? = some (.int .u8 x[j].toNat) := by simp [Lib.byteCells, hj]
  rw [← ht, List.getElem?_take, if_pos hj] at hg
  constructor
  · simp only [World.cell?, hh]; rw [← Array.getElem?_toList]; exact hg
  · simp only [World.frozen?, hh]; simp; omega
theorem bytesIn_set {w : World} {x : List UInt8} {cap : Nat} {wr : World} (h : BytesIn w x cap wr) (j : Nat) (c : UInt8) : BytesIn w (x.set j c) cap (wr.setCell ⟨w.heap.size, j, none⟩ (.int .u8 c.toNat)) := by
  obtain ⟨C, hh, hC, hx, ht, hb⟩ := h
  refine ⟨C.setIfInBounds j (.int .u8 c.toNat), Lib.heap_setCell_same hh _, by simpa using hC, by simpa using hx, ?_, hb.setCell (Nat.le_refl _) _⟩
  rw [Array.toList_setIfInBounds, List.length_set, List.take_set, ht]
  simp [Lib.byteCells, List.map_set]
theorem bytesIn_str {w : World} {x : List UInt8} {cap : Nat} {wr : World} (h : BytesIn w x cap wr) : (convert 38 9 (.slice (some ⟨w.heap.size, 0, none⟩) x.length cap)).run Tryd.prog wr = .ok (.string ⟨x.toArray⟩) wr :=
  run_convert_bytes_back wr 38 9 5 ⟨w.heap.size, 0, none⟩ cap x Tryd.underlying38 Tryd.underlying5 Tryd.underlying9 (fun j hj => by
    rw [Go.WideShapes.add_plain, Nat.zero_add]; exact (bytesIn_get h j hj).1)
/-- The bytes up to place m, nothing but noughts behind it. -/
def mixL (l : List UInt8) (m : Nat) : List UInt8 := l.take m ++ List.replicate (l.length - m) 48
theorem mixL_len (l : List UInt8) (m : Nat) (h : m ≤ l.length) : (mixL l m).length = l.length := by unfold mixL; simp; omega
theorem mixL_all (l : List UInt8) : mixL l l.length = l := by unfold mixL; simp
theorem mixL_get (l : List UInt8) (j : Nat) (hj : j < l.length) : (mixL l (j + 1))[j]'(by rw [mixL_len l _ (by omega)]; exact hj) = l[j] := by
  unfold mixL
  rw [List.getElem_append_left (by simp; omega)]; simp
theorem mixL_set (l : List UInt8) (j : Nat) (hj : j < l.length) (c : UInt8) : (mixL l (j + 1)).set j c = l.take j ++ ([c] ++ List.replicate (l.length - (j + 1)) 48) := by
  unfold mixL
  rw [List.take_succ_eq_append_getElem hj, List.append_assoc, List.set_append_right _ _ (by simp; omega)]
  have : (l.take j).length = j := by simp; omega
  rw [this, Nat.sub_self]; rfl
theorem mixL_step (l : List UInt8) (j : Nat) (hj : j < l.length) : (mixL l (j + 1)).set j 48 = mixL l j := by
  rw [mixL_set l j hj]
  unfold mixL
  rw [show l.length - j = l.length - (j + 1) + 1 by omega, List.replicate_succ]; rfl
theorem bytesIn_new (w : World) (l : List UInt8) (cap : Nat) (h : l.length ≤ cap) : BytesIn w l cap (w.drew.alloc (.cells (bytesRow ⟨l.toArray⟩ cap) 5 ((bytesRow ⟨l.toArray⟩ cap).size, (bytesRow ⟨l.toArray⟩ cap).size + 1))) := by
  have hsz : (bytesRow ⟨l.toArray⟩ cap).size = cap := by unfold bytesRow; simp [sizeL]; omega
  rw [hsz]
  refine ⟨bytesRow ⟨l.toArray⟩ cap, World.alloc_heap_new _ _, hsz, h, ?_, ((Below.refl _ _).drew).alloc (Nat.le_refl _) _⟩
  unfold bytesRow
  simp [Lib.byteCells]

set_option maxRecDepth 100000 in
set_option maxHeartbeats 1000000 in
theorem wNext (l : List UInt8) (w : World) (hd : natL l = true) (hs : l.length ≤ 1000000) :
    Calls Tryd.prog 86 #[.string ⟨l.toArray⟩] w fun e w' => e = .returned (.string ⟨(nextL l).toArray⟩) ∧ Below w.heap.size w w' := by
  have hcv := run_bytes_of_string (P := Tryd.prog) w 9 38 5 ⟨l.toArray⟩ Tryd.underlying9 Tryd.underlying38 Tryd.underlying5
  rw [sizeL] at hcv
  obtain ⟨cap, hcap⟩ : ∃ cap, grownCap w l.length 0 5 = cap := ⟨_, rfl⟩
  have hge := grownCap_ge w l.length 0 5
  rw [hcap] at hcv hge
  have hB := bytesIn_new w l cap hge
  obtain ⟨w1, hw1⟩ : ∃ w1, w.drew.alloc (.cells (bytesRow ⟨l.toArray⟩ cap) 5 ((bytesRow ⟨l.toArray⟩ cap).size, (bytesRow ⟨l.toArray⟩ cap).size + 1)) = w1 := ⟨_, rfl⟩
  rw [hw1] at hB hcv
  have HB := Lib.hid hB
  have HD := Lib.hid (natL_digits hd)
  have hS := nines_start l
  have HN := Lib.hid hS
  have h0 : 0 < l.length := List.length_pos_iff.2 (natL_iff.1 hd).1
  obtain ⟨n, hn⟩ : ∃ n, l.length = n + 1 := ⟨l.length - 1, by omega⟩
  have HLN := Lib.hid hn
  clear hn hS hd hB hw1 hcap
  have hcl : (l.length : Int) ≤ 1000000 := by omega
  go_enter Tryd.func86, Tryd.ntmps86
  go_wp2_with fail
  clear hcv
  go_loopw [4] (fun i wr => (i = .int .i64 (-1) ∧ Hid (Nines l 0) ∧ Hid (BytesIn w (mixL l 0) cap wr)) ∨ ∃ j : Nat, j < l.length ∧ i = .int .i64 j ∧ Hid (Nines l (j + 1)) ∧ Hid (BytesIn w (mixL l (j + 1)) cap wr)) (fun i _ => (intOf i + 1).toNat)
  case atStart =>
    right
    have hn := HLN.out
    have h := HN.out
    rw [hn] at h
    refine ⟨n, by omega, ?_, h, ?_⟩
    · rw [hn]; go_num
    · rw [← hn, mixL_all]; exact HB
  case round =>
    rcases hrel with ⟨rfl, HZ, HK⟩ | ⟨j, hj, rfl, HZ, HK⟩
    · have hst := bytesIn_str HK.out
      have HE := Lib.hid (nines_all HZ.out)
      have hlen := mixL_len l 0 (by omega)
      rw [hlen] at hst
      have hb : Below w.heap.size w wr := by obtain ⟨_, _, _, _, _, h⟩ := HK.out; exact h
      clear hlen
      obtain ⟨x, hx⟩ : ∃ x, mixL l 0 = x := ⟨_, rfl⟩
      have hxl : x.length ≤ 1000000 := by rw [← hx, mixL_len l 0 (by omega)]; exact hs
      rw [hx] at hst
      have HX := Lib.hid hx
      clear hx
      go_wp2_with fail
      go_ret
      refine ⟨ret_str ?_, hb⟩
      rw [HE.out, show (⟨#[49]⟩ : ByteArray) = ⟨[49].toArray⟩ from rfl, mk_app3, ← HX.out]
      unfold mixL; simp
    · have hlen := mixL_len l (j + 1) (by omega)
      obtain ⟨hc, hf⟩ := bytesIn_get HK.out j (by omega)
      rw [mixL_get l j hj] at hc
      have hbd := HD.out l[j] (List.getElem_mem hj)
      have hjI : (j : Int) < l.length := by omega
      clear hlen
      by_cases h9 : l[j].toNat = 57
      · have h9' : ¬ (l[j].toNat : Int) < 57 := by omega
        have HZ2 := Lib.hid (nines_step HZ.out (UInt8.toNat_inj.1 h9))
        have hK2 := bytesIn_set HK.out j 48
        rw [mixL_step l j hj] at hK2
        have HK2 := Lib.hid hK2
        clear hK2 h9
        go_wp2_with fail
        refine ⟨?_, by simp [intOf]⟩
        cases j with
        | zero => exact .inl ⟨rfl, HZ2, HK2⟩
        | succ j => exact .inr ⟨j, by omega, by go_num, HZ2, HK2⟩
      · have h9' : (l[j].toNat : Int) < 57 := by omega
        have HE := Lib.hid (nines_end HZ.out (fun h => h9 (by rw [h]; rfl)))
        have hu8 := u8_mod l[j] (by omega)
        have hu9 := u8_succ l[j] (by omega)
        have hK2 := bytesIn_set HK.out j (l[j] + 1)
        rw [mixL_set l j hj, ← HE.out] at hK2
        obtain ⟨c2, hc2⟩ : ∃ c2, l[j] + 1 = c2 := ⟨_, rfl⟩
        rw [hc2] at hu8 hu9 hK2
        have hst := bytesIn_str hK2
        have hb : Below w.heap.size w (wr.setCell ⟨w.heap.size, j, none⟩ (.int .u8 c2.toNat)) := by obtain ⟨_, _, _, _, _, h⟩ := hK2; exact h
        have hnl : (nextL l).length = l.length := by rw [HE.out]; simp; omega
        rw [hnl] at hst
        clear hnl hK2 h9 hc2
        go_wp2_with fail
        go_ret
        exact ⟨rfl, hb⟩
end Go.Proofs.YtoknncoolmbklaaDoor
