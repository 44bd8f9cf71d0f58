/- An argument that is a slice of fields reads as fields. -/
import Derived.Test.YtoknncoolmbklaaDoorTooLong
import Derived.Test.YtoknncoolmbklaaDoorLists
import Derived.Deep.Slices
import Derived.ChangeArms
import Derived.WideShapes
import Derived.ChangeSame
import Derived.SizedLaws
namespace Go.Proofs.YtoknncoolmbklaaDoor
set_option linter.unusedVariables false
set_option linter.unusedSimpArgs false
open Go.RowKit Go.ChangeShapes Go.WideShapes

theorem has_lt {P : Program} {w : World} {r : Reach} {base : Nat} {a : Addr} {e : TypeId} {n : Nat} (h : w.has P r base a e n) : a.block < w.heap.size ∧ a.spot = none := by
  obtain ⟨_, hs, row, cells, hsh, _⟩ := h
  refine ⟨?_, hs⟩
  unfold World.shape? at hsh
  cases ho : w.heap[a.block]? with
  | none => rw [ho] at hsh; simp at hsh
  | some o => exact (Array.getElem?_eq_some_iff.1 ho).1
theorem has_of_slice {P : Program} {w : World} {r : Reach} {b0 : Nat} {t e : TypeId} {a : Addr} {n c : Nat} (hu : P.underlying t = some (.slice e)) (h : Value.okWide P w r b0 t (.slice (some a) n c)) : w.has P r b0 a e c := by
  simp only [Value.okWide, hu, Cell.okWide, Cell.ok] at h
  exact h.2.2
theorem cells_slice (p : Option Addr) (n c : Nat) : (Value.slice p n c).cells.toList = [.slice p n c] := rfl
theorem fieldCells : Tryd.prog.cellsOf 50 = 2 := by kernel_rfl
theorem fieldBytes : Tryd.prog.bytesOf 50 = 24 := by kernel_rfl

/-- A slice of structs of a string and a bool, over any program. -/
theorem open_pairs {P : Program} {t e : TypeId} {f0 f1 : Field} (hu : P.underlying t = some (.slice e)) (he : P.underlying e = some (.struct #[f0, f1])) (h0 : P.underlying f0.type = some .string) (h1 : P.underlying f1.type = some .bool)
    (o0 : f0.offset = 0) (o1 : f1.offset = 1) (c0 : P.cellsOf f0.type = 1) (c1 : P.cellsOf f1.type = 1) (hC : P.cellsOf e = 2)
    {H : Type} {enc : TypeId × Value → H} {W : World} {r : Reach} {b0 base : Nat} {sp : Nat → Bool} {held : Bool} {v : Value} {d : DataW H} {ps : List MemPlace}
    (hval : Value.okWide P W r b0 t v) (h : DataW.Trod enc P W base sp held t v d ps) (hw : ∀ es rs, d = .slice es rs → es.length + rs.length ≤ 4611686018427387904) : ∃ fs, FieldsAt W v fs := by
  obtain ⟨p, n, c, rfl⟩ := okWide_slice hu hval
  obtain ⟨fuel, hf⟩ := h
  rw [cells_slice] at hf
  rcases Go.Deep.open_slice hu hf with ⟨hn, _⟩ | ⟨a, len, cap, m, k, D, Pl, hcs, hb, hl, hm, hmm, hx, hi⟩
  · simp at hn
    obtain ⟨rfl, rfl, rfl⟩ := hn
    exact ⟨[], .inl ⟨rfl, rfl⟩⟩
  · simp at hcs
    obtain ⟨rfl, rfl, rfl⟩ := hcs
    obtain ⟨hlt, hsp⟩ := has_lt (has_of_slice hu hval)
    obtain ⟨b, o, spot⟩ := a
    simp only at hsp hlt
    subst hsp
    have hlm : n ≤ m := by rw [hmm]; split <;> omega
    have hel : ∀ i, i < m → ∃ f : FL, W.cell? ⟨b, o + i * 2, none⟩ = some (.string ⟨f.1.toArray⟩) ∧ W.cell? ⟨b, o + i * 2 + 1, none⟩ = some (.bool f.2) := by
      intro i him
      obtain ⟨cs, hc, ht⟩ := hi i him
      rw [hC] at hc
      obtain ⟨_, hcl, hat⟩ := World.cells?_some hc
      obtain ⟨xs, k', _, _, _, hxl, hg⟩ := DataW.trod_struct he ht
      have g0 := hg 0 f0 rfl
      have g1 := hg 1 f1 rfl
      rw [o0, c0] at g0
      rw [o1, c1] at g1
      match cs, hcl with
      | [u0, u1], _ =>
        have hx0 : xs[0]? = some (xs[0]'(by simp at hxl; omega)) := List.getElem?_eq_getElem _
        have hx1 : xs[1]? = some (xs[1]'(by simp at hxl; omega)) := List.getElem?_eq_getElem _
        rw [hx0] at g0
        rw [hx1] at g1
        obtain ⟨s, hs, _⟩ := DataW.trod_string h0 g0
        obtain ⟨q, hq, _⟩ := DataW.trod_bool h1 g1
        simp at hs hq
        subst hs hq
        have e0 := hat 0 (by omega)
        have e1 := hat 1 (by omega)
        refine ⟨(s.data.toList, q), ?_, ?_⟩
        · simpa [Go.WideShapes.add_plain] using e0
        · simpa [Go.WideShapes.add_plain, Nat.add_assoc] using e1
    obtain ⟨F, hF⟩ := Go.Deep.choose_lt hel
    have hlen : ((List.range n).map F).length = n := by simp
    refine ⟨(List.range n).map F, .inr ⟨b, o, c, by rw [hlen], hlt, ?_, fun i hi => ?_⟩⟩
    · rw [hlen]
      have := hw _ _ (congrArg Prod.fst hx)
      simp at this; omega
    · rw [hlen] at hi
      have := hF i (by omega)
      simpa using this
theorem small24 {k B : Nat} (h : k * 24 ≤ B) (hB : B < 4611686018427387904) : k ≤ 4611686018427387904 := by omega
theorem reach_small : reachBytes < 4611686018427387904 := by decide
set_option maxRecDepth 100000 in
theorem open_fields {H : Type} {enc : TypeId × Value → H} {W : World} {r : Reach} {b0 base : Nat} {sp : Nat → Bool} {held : Bool} {v : Value} {d : DataW H} {ps : List MemPlace}
    (hval : Value.okWide Tryd.prog W r b0 32 v) (h : DataW.Trod enc Tryd.prog W base sp held 32 v d ps) (hw : ∀ es rs, d = .slice es rs → (es.length + rs.length) * Tryd.prog.bytesOf 50 ≤ reachBytes) : ∃ fs, FieldsAt W v fs :=
  open_pairs Tryd.underlying32 Tryd.underlying50 Tryd.underlying9 Tryd.underlying4 rfl rfl (by kernel_rfl) (by kernel_rfl) fieldCells hval h (fun es rs hd => by
    have h1 := hw es rs hd
    rw [fieldBytes] at h1
    exact small24 h1 reach_small)
end Go.Proofs.YtoknncoolmbklaaDoor
