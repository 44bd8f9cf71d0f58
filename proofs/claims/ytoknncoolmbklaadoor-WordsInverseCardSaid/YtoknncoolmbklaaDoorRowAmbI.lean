/- The ambient facts of Amb, from the longer list of laid variables. -/
import Derived.Test.YtoknncoolmbklaaDoorRowAmb
namespace Go.Proofs.YtoknncoolmbklaaDoor
set_option linter.unusedVariables false
set_option linter.unusedSimpArgs false
open Go.RowKit
theorem amb_ofI {W : World} (h : laidMetH Tryd.prog Rows.wordsInverseRow.laid W) (hS : W.ShapedOpen Tryd.prog) : Amb W := by
  have hL : laidMet Tryd.prog Rows.wordsInverseRow.laid W := h
  have r1 : Lib.VarReads Tryd.prog W "spillway/words.escapes" Rows.laid_spillway_words_escapes := Lib.laidMet.reads hL (by simp [Rows.wordsInverseRow])
  have r2 : Lib.VarReads Tryd.prog W "internal/strconv.uint64pow10" Rows.laid_internal_strconv_uint64pow10 := Lib.laidMet.reads hL (by simp [Rows.wordsInverseRow])
  have r3 : Lib.VarReads Tryd.prog W "strconv.ErrSyntax" Rows.laid_strconv_ErrSyntax := Lib.laidMet.reads hL (by simp [Rows.wordsInverseRow])
  have r4 : Lib.VarReads Tryd.prog W "strconv.ErrRange" Rows.laid_strconv_ErrRange := Lib.laidMet.reads hL (by simp [Rows.wordsInverseRow])
  refine ⟨?_, ?_, ?_, ?_, ?_, ?_⟩
  · have h0 : (((begin Tryd.prog (fun _ _ => 0) default).world.heap[8]?).bind Obj.row?).isSome = true := by kernel_rfl
    obtain ⟨⟨z, t⟩, hz⟩ := Option.isSome_iff_exists.1 h0
    obtain ⟨cs, hh, _⟩ := hS.1 8 z t (of_decide_eq_true (by kernel_rfl)) hz
    rcases Nat.lt_or_ge 8 W.heap.size with h' | h'
    · omega
    · rw [Array.getElem?_eq_none (by omega)] at hh; simp at hh
  · have := var_lits (m := 8) r1 (g := 0) (t := 119) (by kernel_rfl) (by kernel_rfl) (by kernel_rfl) (by kernel_rfl) (l := _) rfl
    exact this
  · have := var_lits (m := 8) r2 (g := 3) (t := 129) (by kernel_rfl) (by kernel_rfl) (by kernel_rfl) (by kernel_rfl) (l := _) rfl
    unfold Lib.TabIs
    exact this
  · exact var_iface r3 (g := 1) (t := 52) (by kernel_rfl) (by kernel_rfl) Tryd.underlying52
  · exact var_iface r4 (g := 2) (t := 52) (by kernel_rfl) (by kernel_rfl) Tryd.underlying52
  · exact Tryd.laysM146.s1_3 W hS
end Go.Proofs.YtoknncoolmbklaaDoor
