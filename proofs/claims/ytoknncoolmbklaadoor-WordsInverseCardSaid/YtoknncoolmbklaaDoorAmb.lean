/- What every contract asks of the world: the package-level variables hold what the program's text lays, and stay so behind whatever leaves old memory alone. -/
import Derived.Test.YtoknncoolmbklaaDoorProg
import Derived.Test.YtoknncoolmbklaaDoorShelf
import Derived.Test.YtoknncoolmbklaaDoorShelf2
import Derived.WalkKit
import Derived.WalkSmall
import Derived.Lib.LaidTab
import Derived.Lib.Hide
import Derived.Sort.Grow
namespace Go.Proofs.YtoknncoolmbklaaDoor
set_option linter.unusedVariables false
set_option linter.unusedSimpArgs false
open Go.RowKit Go.Sort

/-- The table of escapes, as cells. -/
def escCells : Array Value := #[.int .u8 34, .int .u8 34, .int .u8 92, .int .u8 92, .int .u8 10, .int .u8 110, .int .u8 13, .int .u8 114, .int .u8 9, .int .u8 116]

structure Amb (w : World) : Prop where
  size : 9 ≤ w.heap.size
  esc : w.var? Tryd.prog "spillway/words.escapes" = some escCells
  pow : Lib.TabIs Tryd.prog w "internal/strconv.uint64pow10" .u64 Lib.pow10Tab
  synt : ∃ tp p, w.var? Tryd.prog "strconv.ErrSyntax" = some #[.iface tp p]
  rng : ∃ tp p, w.var? Tryd.prog "strconv.ErrRange" = some #[.iface tp p]
  maxLen : ∃ m, w.cell? ⟨4, 0, none⟩ = some (.int .i64 m)

theorem Amb.below {w w' : World} (h : Amb w) (hb : Below w.heap.size w w') : Amb w' where
  size := Nat.le_trans h.size hb.size
  esc := var?_below hb (g := 0) (by kernel_rfl) (by have := h.size; omega) h.esc
  pow := var?_below hb (g := 3) (by kernel_rfl) (by have := h.size; omega) h.pow
  synt := by obtain ⟨tp, p, hv⟩ := h.synt; exact ⟨tp, p, var?_below hb (g := 1) (by kernel_rfl) (by have := h.size; omega) hv⟩
  rng := by obtain ⟨tp, p, hv⟩ := h.rng; exact ⟨tp, p, var?_below hb (g := 2) (by kernel_rfl) (by have := h.size; omega) hv⟩
  maxLen := by obtain ⟨m, hm⟩ := h.maxLen; exact ⟨m, (hb.cell (p := ⟨4, 0, none⟩) (show 4 < w.heap.size by have := h.size; omega)).trans hm⟩

theorem Amb.belowB {w w' : World} {B : Nat} (h : Amb w) (hb : Below B w w') (hB : 9 ≤ B) : Amb w' where
  size := Nat.le_trans h.size hb.size
  esc := var?_below hb (g := 0) (by kernel_rfl) (by omega) h.esc
  pow := var?_below hb (g := 3) (by kernel_rfl) (by omega) h.pow
  synt := by obtain ⟨tp, p, hv⟩ := h.synt; exact ⟨tp, p, var?_below hb (g := 1) (by kernel_rfl) (by omega) hv⟩
  rng := by obtain ⟨tp, p, hv⟩ := h.rng; exact ⟨tp, p, var?_below hb (g := 2) (by kernel_rfl) (by omega) hv⟩
  maxLen := by obtain ⟨m, hm⟩ := h.maxLen; exact ⟨m, (hb.cell (p := ⟨4, 0, none⟩) (show 4 < B by omega)).trans hm⟩
theorem below_drewN {B : Nat} {a w : World} (h : Below B a w) (n : Nat) : Below B a (w.drewN n) := ⟨h.os, h.tape, h.output, h.size, h.block⟩
theorem below_grow {B : Nat} {a w : World} (h : Below B a w) (hB : B ≤ w.heap.size) (os : Array Obj) : Below B a (grow w os) := by
  refine h.trans ⟨rfl, rfl, rfl, by simp [grow], fun k hk => ?_⟩
  simp only [grow]
  rw [Array.getElem?_append_left (by omega)]

theorem ownsRowF_below {w w' : World} {base : Nat} {e : TypeId} {size : Nat} {v : Value} {n : Nat} {xs : List Value} (h : w.ownsRowF base e size v n xs) (hb : Below w.heap.size w w') : w'.ownsRowF base e size v n xs :=
  h.kept (row := none) ⟨hb.os, hb.tape, hb.output, hb.size, fun k hk _ => hb.block k hk⟩ (by cases v.ownBlock <;> simp)
theorem builderAtF_below {T e : TypeId} {B b : Nat} {p : Value} {bs : List Value} {w w' : World} (h : Lib.BuilderAtF T e B b p bs w) (hb : Below w.heap.size w w') : Lib.BuilderAtF T e B b p bs w' := by
  obtain ⟨hB, v, hh, ho, hn⟩ := h
  have hlt : b < w.heap.size := by
    rcases Nat.lt_or_ge b w.heap.size with h' | h'
    · exact h'
    · rw [Array.getElem?_eq_none h'] at hh; simp at hh
  exact ⟨hB, v, (hb.block b hlt).trans hh, ownsRowF_below ho hb, hn⟩
/-- A builder stays one while old memory is left alone. -/
theorem isBuilderF_below {T e : TypeId} {B b : Nat} {bs : List Value} {w w' : World} (h : Lib.IsBuilderF T e B b bs w) (hb : Below w.heap.size w w') : Lib.IsBuilderF T e B b bs w' :=
  h.elim (fun x => .inl (builderAtF_below x hb)) (fun x => .inr (builderAtF_below x hb))
end Go.Proofs.YtoknncoolmbklaaDoor
