/- lists of the law compares two slices of integers; an argument that is a slice of integers reads as integers. -/
import Derived.Test.YtoknncoolmbklaaDoorRList
import Derived.Test.YtoknncoolmbklaaDoorOpenFields
import Derived.Test.YtoknncoolmbklaaDoorParseList
namespace Go.Proofs.YtoknncoolmbklaaDoor
set_option linter.unusedVariables false
set_option linter.unusedSimpArgs false
open Go.RowKit Go.ChangeShapes Go.WideShapes Go.Sort
theorem IntsAt.get {w : World} {p : Option Addr} {c : Nat} {zs : List Int} (h : IntsAt w (.slice p zs.length c) zs) (i : Nat) (hi : i < zs.length) :
    ∃ b o, p = some ⟨b, o, none⟩ ∧ b < w.heap.size ∧ w.cell? ⟨b, o + i, none⟩ = some (.int .i64 zs[i]) := by
  rcases h with ⟨h, rfl⟩ | ⟨b, o, cap, hv, hlt, hm, hm', hc⟩
  · simp at hi
  · injection hv with h1 h2 h3
    exact ⟨b, o, h1, hlt, hc i hi⟩
theorem intsAt_of_owns {w : World} {base : Nat} {v : Value} {zs : List Int} (h : w.ownsRow base 3 1 v zs.length (icells zs)) (hcapB : ∀ p n c, v = .slice p n c → c ≤ 9223372036854775807) : IntsAt w v zs := by
  obtain ⟨hl, h | ⟨g, cap, cur, rfl, hg, hh, hn, hcap, hcs, htk⟩⟩ := h
  · exact .inl ⟨h.1, List.length_eq_zero_iff.1 h.2⟩
  · refine .inr ⟨g, 0, cap, rfl, (Array.getElem?_eq_some_iff.1 hh).1, hn, hcapB _ _ _ rfl, fun i hi => ?_⟩
    have hget : (icells zs)[i]? = some (.int .i64 zs[i]) := by simp [icells, hi]
    rw [← htk, List.getElem?_take, if_pos (by omega)] at hget
    simp only [World.cell?, hh, Nat.zero_add]; rw [← Array.getElem?_toList]; exact hget
/-- Cells that read as integers, whatever the capacity. -/
def IntsIn (w : World) (v : Value) (zs : List Int) : Prop := ∃ p c, v = .slice p zs.length c ∧ zs.length ≤ 4611686018427387904 ∧ ∀ i (h : i < zs.length), ∃ b o, p = some ⟨b, o, none⟩ ∧ b < w.heap.size ∧ w.cell? ⟨b, o + i, none⟩ = some (.int .i64 zs[i])
theorem IntsIn.below {w w' : World} {v : Value} {zs : List Int} (h : IntsIn w v zs) (hb : Below w.heap.size w w') : IntsIn w' v zs := by
  obtain ⟨p, c, hv, hl, hi⟩ := h
  refine ⟨p, c, hv, hl, fun i h => ?_⟩
  obtain ⟨b, o, hp, hlt, hc⟩ := hi i h
  exact ⟨b, o, hp, Nat.lt_of_lt_of_le hlt hb.size, (hb.cell (p := ⟨b, o + i, none⟩) hlt).trans hc⟩
theorem intsIn_of_at {w : World} {v : Value} {zs : List Int} (h : IntsAt w v zs) (hl : zs.length ≤ 4611686018427387904) : IntsIn w v zs := by
  obtain ⟨p, c, rfl⟩ := h.shape
  exact ⟨p, c, rfl, hl, fun i hi => h.get i hi⟩
theorem intsIn_of_owns {w : World} {base : Nat} {v : Value} {zs : List Int} (h : w.ownsRow base 3 1 v zs.length (icells zs)) (hl : zs.length ≤ 4611686018427387904) : IntsIn w v zs := by
  have hcs := h
  obtain ⟨_, h | ⟨g, cap, cur, rfl, hg, hh, hn, hcap, hz, htk⟩⟩ := h
  · have : zs = [] := List.length_eq_zero_iff.1 h.2
    subst this
    exact ⟨_, _, h.1, hl, fun i hi => absurd hi (by simp)⟩
  · refine ⟨_, _, rfl, hl, fun i hi => ⟨g, 0, rfl, (Array.getElem?_eq_some_iff.1 hh).1, ?_⟩⟩
    have := hcs.cells (g := g) rfl i (.int .i64 zs[i]) (by simp [icells, hi])
    rw [Go.WideShapes.add_plain] at this
    exact this
set_option maxRecDepth 100000 in
theorem lLists (va vb : Value) (za zb : List Int) (w : World) (ha : IntsIn w va za) (hb : IntsIn w vb zb) :
    Calls Tryd.prog 34 #[va, vb] w fun e w' => e = .returned (.bool (decide (za = zb))) ∧ Below w.heap.size w w' := by
  obtain ⟨p, c, rfl, hla, hia⟩ := ha
  obtain ⟨p', c', rfl, hlb, hib⟩ := hb
  have HA := Lib.hid hia
  have HB := Lib.hid hib
  clear hia hib
  by_cases hl : za.length = zb.length
  · have hne : ((za.length : Int) != (zb.length : Int)) = false := by rw [hl]; simp
    have hlI : (za.length : Int) ≤ 4611686018427387904 := by omega
    have HL := Lib.hid hl
    clear hl
    go_enter Tryd.func34, Tryd.ntmps34
    go_wp2_with fail
    go_loopw [5] (fun i wr => ∃ k : Nat, k ≤ za.length ∧ i = .int .i64 k ∧ Below w.heap.size w wr ∧ Hid (∀ j (hj : j < k) (h : j < za.length) (h' : j < zb.length), za[j] = zb[j])) (fun i _ => za.length - (intOf i).toNat)
    case atStart => exact ⟨0, by omega, rfl, Below.refl _ _, fun j hj => by omega⟩
    case round =>
      obtain ⟨k, hk, rfl, hbw, hall⟩ := hrel
      by_cases hkl : k < za.length
      · have hkl2 : k < zb.length := by have := HL.out; omega
        obtain ⟨b, o, rfl, hlt, hc⟩ := HA.out k hkl
        obtain ⟨b', o', rfl, hlt', hc'⟩ := HB.out k hkl2
        have h0 := (hbw.cell (p := ⟨b, o + k, none⟩) hlt).trans hc
        have h1 := (hbw.cell (p := ⟨b', o' + k, none⟩) hlt').trans hc'
        have hkI : (k : Int) < za.length := by omega
        have hkI2 : (k : Int) < zb.length := by omega
        by_cases hx : za[k] = zb[k]
        · have hxb : ((za[k] : Int) != zb[k]) = false := by rw [hx]; simp
          have HX := Lib.hid hx
          clear hx
          go_wp2_with fail
          go_quiet (fail)
          go_wp2_with fail
          refine ⟨⟨k + 1, by omega, by go_num, below_drewN hbw _, ?_⟩, by simp [intOf]; omega⟩
          intro j hj h h'
          by_cases hjk : j = k
          · subst hjk; exact HX.out
          · exact hall j (by omega) h h'
        · have hxb : ((za[k] : Int) != zb[k]) = true := by rw [bne_iff_ne]; exact hx
          have HX : Hid (decide (za = zb) = false) := decide_eq_false (fun h => hx (by subst h; rfl))
          clear hx
          go_wp2_with fail
          go_quiet (fail)
          go_wp2_with fail
          go_ret
          exact ⟨ret_bool HX.out.symm, below_drewN hbw _⟩
      · have hkI : ¬ (k : Int) < za.length := by omega
        have HX : Hid (decide (za = zb) = true) := decide_eq_true (List.ext_getElem HL.out (fun j h h' => hall j (by omega) h h'))
        go_wp2_with fail
        go_ret
        exact ⟨ret_bool HX.out.symm, hbw⟩
  · have hne : ((za.length : Int) != (zb.length : Int)) = true := by rw [bne_iff_ne]; omega
    have HX : Hid (decide (za = zb) = false) := decide_eq_false (fun h => hl (by rw [h]))
    clear hl
    go_enter Tryd.func34, Tryd.ntmps34
    go_wp2_with fail
    go_ret
    exact ⟨ret_bool HX.out.symm, Below.refl _ _⟩
theorem intCells : Tryd.prog.cellsOf 3 = 1 := by kernel_rfl
theorem intBytes : Tryd.prog.bytesOf 3 = 8 := by kernel_rfl
theorem small8 {k B : Nat} (h : k * 8 ≤ B) (hB : B < 4611686018427387904) : k ≤ 4611686018427387904 := by omega
set_option maxRecDepth 100000 in
theorem open_intsAt {H : Type} {enc : TypeId × Value → H} {W : World} {r : Reach} {b0 base : Nat} {held : Bool} {v : Value} {d : DataW H} {ps : List MemPlace}
    (hval : Value.okWide Tryd.prog W r b0 40 v) (h : DataW.Trod enc Tryd.prog W base (fun _ => true) held 40 v d ps) (hw : ∀ es rs, d = .slice es rs → (es.length + rs.length) * Tryd.prog.bytesOf 3 ≤ reachBytes) : ∃ zs, IntsAt W v zs ∧ ∀ x ∈ zs, (Lit.int .i64 x).wf = true := by
  have hu := Tryd.underlying40
  obtain ⟨p, n, c, rfl⟩ := okWide_slice hu hval
  obtain ⟨fuel, hf⟩ := h
  rw [cells_slice] at hf
  rcases open_ints hu Tryd.underlying3 intCells hf with ⟨hn, _⟩ | ⟨a, len, cap, zs, hcs, hb, hl, hm, hzl, hx, hi, hwf⟩
  · simp at hn
    obtain ⟨rfl, rfl, rfl⟩ := hn
    exact ⟨[], .inl ⟨rfl, rfl⟩, fun x hx => by simp at hx⟩
  · simp at hcs
    obtain ⟨rfl, rfl, rfl⟩ := hcs
    obtain ⟨hlt, hsp⟩ := has_lt (has_of_slice hu hval)
    obtain ⟨b, o, spot⟩ := a
    simp only at hsp hlt
    subst hsp
    rw [if_pos rfl] at hzl
    have hcap := hw _ _ (congrArg Prod.fst hx)
    rw [intBytes] at hcap
    have hc2 := small8 hcap reach_small
    have hlz : (zs.take n).length = n := by rw [List.length_take]; omega
    refine ⟨zs.take n, .inr ⟨b, o, c, by rw [hlz], hlt, by omega, ?_, fun i hin => ?_⟩, fun x hx => hwf x (List.mem_of_mem_take hx)⟩
    · simp only [lits, List.length_map, List.length_take, List.length_drop] at hc2
      omega
    · rw [hlz] at hin
      have := hi i (by omega)
      rw [Go.WideShapes.add_plain] at this
      rw [this]; simp [List.getD, List.getElem?_eq_getElem (show i < zs.length by omega)]
end Go.Proofs.YtoknncoolmbklaaDoor
