/- The ambient facts of Amb, from what the row lists: the laid variables, and the shape of the world. -/
import Derived.Test.YtoknncoolmbklaaDoorAmb
import Derived.Test.YtoknncoolmbklaaDoorRows
import Derived.Lib.LaidU8
import Derived.MapViews
import Derived.DeepKeys2
import Derived.LaidLaws
namespace Go.Proofs.YtoknncoolmbklaaDoor
set_option linter.unusedVariables false
set_option linter.unusedSimpArgs false
open Go.RowKit

theorem var_lits {P : Program} {W : World} {name : String} {d : DataW Unit} {l : List Lit} {g : Nat} {t : TypeId} {m : Nat} (h : Lib.VarReads P W name d) (hg : P.globalNamed name = some g)
    (hty : (P.globals[g]?).map (·.type) = some t) (hk : P.keyTypeAt m t = true) (ht : P.tiled m t = true) (hl : d.flat = l) : W.var? P name = some (l.map Lit.toCell).toArray := by
  obtain ⟨g', t', cs, fuel, p, hg', ht', hv, hd⟩ := h
  obtain rfl := Option.some.inj (hg.symm.trans hg')
  obtain rfl := Option.some.inj (hty.symm.trans ht')
  have h1 := (keyLits_of_trod m t hk fuel cs.toList (d, p) hd).1
  rw [hl] at h1
  have h2 := cells_of_lits m t ht m cs.toList l h1
  rw [hv, ← h2]
theorem var_iface {P : Program} {W : World} {name n : String} {d : DataW Unit} {g : Nat} {t : TypeId} {ms} (h : Lib.VarReads P W name (.iface n d)) (hg : P.globalNamed name = some g)
    (hty : (P.globals[g]?).map (·.type) = some t) (hi : P.underlying t = some (.interface ms)) : ∃ tp p, W.var? P name = some #[.iface tp p] := by
  obtain ⟨g', t', cs, fuel, p, hg', ht', hv, hd⟩ := h
  obtain rfl := Option.some.inj (hg.symm.trans hg')
  obtain rfl := Option.some.inj (hty.symm.trans ht')
  obtain ⟨_, u, v, hc, _⟩ := iface_of_trod hi hd
  refine ⟨u, v, ?_⟩
  rw [hv]
  have : cs = #[.iface u v] := by apply Array.toList_inj.1; exact hc
  rw [this]

theorem amb_of {W : World} (h : laidMetH Tryd.prog Rows.wordsNamesRow.laid W) (hS : W.ShapedOpen Tryd.prog) : Amb W := by
  have hL : laidMet Tryd.prog Rows.wordsNamesRow.laid W := h
  have r1 : Lib.VarReads Tryd.prog W "spillway/words.escapes" Rows.laid_spillway_words_escapes := Lib.laidMet.reads hL (by simp [Rows.wordsNamesRow])
  have r2 : Lib.VarReads Tryd.prog W "internal/strconv.uint64pow10" Rows.laid_internal_strconv_uint64pow10 := Lib.laidMet.reads hL (by simp [Rows.wordsNamesRow])
  have r3 : Lib.VarReads Tryd.prog W "strconv.ErrSyntax" Rows.laid_strconv_ErrSyntax := Lib.laidMet.reads hL (by simp [Rows.wordsNamesRow])
  have r4 : Lib.VarReads Tryd.prog W "strconv.ErrRange" Rows.laid_strconv_ErrRange := Lib.laidMet.reads hL (by simp [Rows.wordsNamesRow])
  refine ⟨?_, ?_, ?_, ?_, ?_, ?_⟩
  · have h0 : (((begin Tryd.prog (fun _ _ => 0) default).world.heap[8]?).bind Obj.row?).isSome = true := by kernel_rfl
    obtain ⟨⟨z, t⟩, hz⟩ := Option.isSome_iff_exists.1 h0
    obtain ⟨cs, hh, _⟩ := hS.1 8 z t (of_decide_eq_true (by kernel_rfl)) hz
    rcases Nat.lt_or_ge 8 W.heap.size with h' | h'
    · omega
    · rw [Array.getElem?_eq_none (by omega)] at hh; simp at hh
  · have := var_lits (m := 8) r1 (g := 0) (t := 119) (by kernel_rfl) (by kernel_rfl) (by kernel_rfl) (by kernel_rfl) (l := _) rfl
    exact this
  · have := var_lits (m := 8) r2 (g := 3) (t := 129) (by kernel_rfl) (by kernel_rfl) (by kernel_rfl) (by kernel_rfl) (l := _) rfl
    unfold Lib.TabIs
    exact this
  · exact var_iface r3 (g := 1) (t := 52) (by kernel_rfl) (by kernel_rfl) Tryd.underlying52
  · exact var_iface r4 (g := 2) (t := 52) (by kernel_rfl) (by kernel_rfl) Tryd.underlying52
  · exact Tryd.laysM146.s1_3 W hS
end Go.Proofs.YtoknncoolmbklaaDoor
