/- A buffer of bytes that a call owns, as a string. -/
import Derived.Test.YtoknncoolmbklaaDoorREsc
import Derived.Test.YtoknncoolmbklaaDoorPlain
import Derived.Lib.BufSteps
import Derived.RangeFuncBox
namespace Go.Proofs.YtoknncoolmbklaaDoor
set_option linter.unusedVariables false
set_option linter.unusedSimpArgs false
open Go.RowKit Go.Sort

theorem infoU8 : (Tryd.prog.info? 5).map (fun i => (i.zero, i.size, i.bytes)) = some (some (.int .u8 0), 1, 1) := by kernel_rfl
theorem ownsRow_below {w w' : World} {base : Nat} {e : TypeId} {size : Nat} {v : Value} {n : Nat} {xs : List Value} (h : w.ownsRow base e size v n xs) (hb : Below w.heap.size w w') : w'.ownsRow base e size v n xs :=
  h.kept (row := none) ⟨hb.os, hb.tape, hb.output, hb.size, fun k hk _ => hb.block k hk⟩ (by cases v.ownBlock <;> simp)
theorem ownBuf_below {B : Nat} {e : TypeId} {v : Value} {n : Nat} {xs : List Value} {W0 w w' : World} (h : Lib.OwnBuf B e v n xs W0 w) (hb : Below w.heap.size w w') : Lib.OwnBuf B e v n xs W0 w' :=
  ⟨ownsRowF_below h.1 hb, h.2.1.trans ⟨hb.os, hb.tape, hb.output, hb.size, fun k hk => hb.block k (Nat.lt_of_lt_of_le hk h.2.2)⟩, Nat.le_trans h.2.2 hb.size⟩
theorem ownBuf_new (w : World) (l : List UInt8) (h : l.length ≤ 1000) : Lib.OwnBuf w.heap.size 5 (.slice (some ⟨w.heap.size, 0, none⟩) l.length l.length) l.length (Lib.byteCells l) w (w.alloc (.cells (Lib.byteCells l).toArray 5)) := by
  refine ⟨?_, (Below.refl _ _).alloc (Nat.le_refl _) _, by simp⟩
  refine ⟨by simp [Lib.byteCells], .inr ⟨w.heap.size, l.length, (Lib.byteCells l).toArray, (0, 0), rfl, Nat.le_refl _, ?_, ?_⟩⟩
  · exact World.alloc_heap_new _ _
  · refine ⟨Nat.zero_le _, Nat.le_refl _, by unfold maxLen; omega, by simp [Lib.byteCells], ?_⟩
    rw [List.take_of_length_le (by simp [Lib.byteCells])]
theorem ownBuf_nil (w : World) : Lib.OwnBuf w.heap.size 5 (.slice none 0 0) 0 (Lib.byteCells []) w w :=
  ⟨⟨rfl, .inl ⟨rfl, rfl⟩⟩, Below.refl _ _, Nat.le_refl _⟩
theorem ownBuf_text {B : Nat} {e : TypeId} {v : Value} {l m : List UInt8} {W0 w : World} (h : Lib.OwnBuf B e v (l.length + (⟨m.toArray⟩ : ByteArray).size) (Lib.byteCells l ++ Lib.strCells ⟨m.toArray⟩) W0 w) : Lib.OwnBuf B e v (l ++ m).length (Lib.byteCells (l ++ m)) W0 w := by
  rw [Lib.byteCells_append, List.length_append]
  exact h
theorem ownBuf_byte {B : Nat} {e : TypeId} {v : Value} {l : List UInt8} {c : UInt8} {W0 w : World} (h : Lib.OwnBuf B e v (l.length + 1) (Lib.byteCells l ++ [.int .u8 c.toNat]) W0 w) : Lib.OwnBuf B e v (l ++ [c]).length (Lib.byteCells (l ++ [c])) W0 w := by
  rw [Lib.byteCells_append, List.length_append]
  exact h
theorem strOfNums_bytes (l : List UInt8) : strOfNums (l.map fun b => (b.toNat : Int)) = ⟨l.toArray⟩ := by
  unfold strOfNums
  rw [List.map_map]
  congr 2
  conv => rhs; rw [← List.map_id l]
  refine List.map_congr_left fun b _ => ?_
  simp
theorem convBuf {B : Nat} {v : Value} {l : List UInt8} {W0 w : World} (h : Lib.OwnBuf B 5 v l.length (Lib.byteCells l) W0 w) : (convert 38 9 v).run Tryd.prog w = .ok (.string ⟨l.toArray⟩) w := by
  rcases h.1.2 with ⟨rfl, h0⟩ | ⟨g, cap, cur, fz, rfl, _⟩
  · obtain rfl := List.length_eq_zero_iff.1 h0
    exact run_convert_bytes_nil w 38 5 Tryd.underlying38 Tryd.underlying5 0 0 9 Tryd.underlying9
  · have := run_convert_bytes_arg (P := Tryd.prog) w 38 5 Tryd.underlying38 Tryd.underlying5 g 0 l.length cap (l.map fun b => (b.toNat : Int)) (by simp)
      (fun i hi => by
        have := h.1.cells (g := g) (by simp [Value.ownBlock]) i (.int .u8 l[i].toNat) (by simp [Lib.byteCells, hi])
        have e : (l.map fun b => (b.toNat : Int)).getD i 0 = l[i].toNat := by simp [hi]
        rw [e]
        by_cases hi0 : i = 0 <;> simpa [Addr.add, hi0] using this) 9 Tryd.underlying9
    rw [this, strOfNums_bytes]
end Go.Proofs.YtoknncoolmbklaaDoor
