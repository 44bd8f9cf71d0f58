/- letterOf of the package finds the escape letter of a byte in the table; conditions: Amb. -/
import Derived.Test.YtoknncoolmbklaaDoorRInt
import Derived.Test.YtoknncoolmbklaaDoorPlain
import Derived.Laws.Rows
namespace Go.Proofs.YtoknncoolmbklaaDoor
set_option linter.unusedVariables false
set_option linter.unusedSimpArgs false
open Go.RowKit Go.Sort


theorem Amb.escRow {w : World} (h : Amb w) : ∃ t fr, w.heap[0]? = some (.cells escCells t fr) := by
  have := h.esc
  unfold World.var? at this
  rw [show Tryd.prog.globalNamed "spillway/words.escapes" = some 0 by kernel_rfl] at this
  simp only [Option.bind_some] at this
  split at this
  · rename_i cs t fr hh; injection this with this; subst this; exact ⟨t, fr, hh⟩
  · simp at this

theorem ret_u8b {a b : Int} {c d : Bool} (h : a = b) (h' : c = d) : Ending.returned (.tuple #[.int .u8 a, .bool c]) = .returned (.tuple #[.int .u8 b, .bool d]) := by rw [h, h']
theorem wLetterOf (c : Int) (w : World) (ha : Amb w) :
    Calls Tryd.prog 72 #[.int .u8 c] w fun e w' => e = .returned (.tuple #[.int .u8 (letV c), .bool (letB c)]) ∧ Below w.heap.size w w' := by
  obtain ⟨t, fr, hg⟩ := ha.escRow
  have HG := Lib.hid hg
  clear hg
  have i0 : ∀ w, (Instr.index 119 (.agg escCells) (.int .i64 0)).run Tryd.prog w = .ok (.agg #[.int .u8 34, .int .u8 34]) w := fun _ => by kernel_rfl
  have i1 : ∀ w, (Instr.index 119 (.agg escCells) (.int .i64 1)).run Tryd.prog w = .ok (.agg #[.int .u8 92, .int .u8 92]) w := fun _ => by kernel_rfl
  have i2 : ∀ w, (Instr.index 119 (.agg escCells) (.int .i64 2)).run Tryd.prog w = .ok (.agg #[.int .u8 10, .int .u8 110]) w := fun _ => by kernel_rfl
  have i3 : ∀ w, (Instr.index 119 (.agg escCells) (.int .i64 3)).run Tryd.prog w = .ok (.agg #[.int .u8 13, .int .u8 114]) w := fun _ => by kernel_rfl
  have i4 : ∀ w, (Instr.index 119 (.agg escCells) (.int .i64 4)).run Tryd.prog w = .ok (.agg #[.int .u8 9, .int .u8 116]) w := fun _ => by kernel_rfl
  go_enter Tryd.func72, Tryd.ntmps72
  go_wp2_with (refine wpList_load_row rfl 119 _ rfl 0 rfl t _ fr _ HG.out Tryd.underlying119 rfl (by kernel_rfl) ?_)
  go_rounds 6
  all_goals go_ret2
  all_goals refine ⟨ret_u8b ?_ ?_, by go_grown⟩
  all_goals simp only [beq_iff_eq, beq_eq_false_iff_ne, ne_eq] at *
  · simp [letV, ← ‹34 = c›]
  · simp [letB, ← ‹34 = c›]
  · simp [letV, ← ‹92 = c›]
  · simp [letB, ← ‹92 = c›]
  · simp [letV, ← ‹10 = c›]
  · simp [letB, ← ‹10 = c›]
  · simp [letV, ← ‹13 = c›]
  · simp [letB, ← ‹13 = c›]
  · simp [letV, ← ‹9 = c›]
  · simp [letB, ← ‹9 = c›]
  · unfold letV; rw [if_neg (by omega), if_neg (by omega), if_neg (by omega), if_neg (by omega), if_neg (by omega)]
  · simp [letB]; omega
end Go.Proofs.YtoknncoolmbklaaDoor
