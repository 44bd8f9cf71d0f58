/- The library's contracts of the shelf, as contracts on the evaluator's states. -/
import Derived.Test.YtjagockmfdmgoaaGreatDoorShelf
import Derived.Test.YtjagockmfdmgoaaGreatDoorEvTQM
import Derived.Test.YtjagockmfdmgoaaGreatDoorEvW
import Derived.Lib.SmallJoins
namespace Go.Ev
set_option linter.unusedVariables false
set_option linter.unusedSimpArgs false
open Go Go.Proofs Go.RowKit Go.Sort
variable {η : Nat → Value} {B : Nat}
theorem gszz : Tryz.prog.globals.size = 8 := by kernel_rfl
theorem lr_bare_inv {ρ : Env} : ∀ {l m : List Value}, (l.all fun v => match v with | .string _ | .int _ _ | .bool _ => true | _ => false) = true → LR η ρ l m → m = l
  | [], m, _, h => LR.inv_nil h
  | v :: l, m, hb, h => by
    obtain ⟨x, m', rfl, hv, hr⟩ := LR.inv_cons h
    simp only [List.all_cons, Bool.and_eq_true] at hb
    rw [lr_bare_inv hb.2 hr]
    congr 1
    cases v <;> first | exact hv.string_inv | exact hv.int_inv | exact hv.bool_inv | exact absurd hb.1 (by simp)
theorem args_inv {ρ : Env} {l : List Value} {a : Array Value} (hb : (l.all fun v => match v with | .string _ | .int _ _ | .bool _ => true | _ => false) = true) (h : LR η ρ l a.toList) : a = l.toArray := by
  have := lr_bare_inv hb h
  cases a; simp only at this; rw [this]
theorem below_drewN {B : Nat} {a w : World} (h : Below B a w) (n : Nat) : Below B a (w.drewN n) := ⟨h.os, h.tape, h.output, h.size, h.block⟩
theorem below_grow {B : Nat} {a w : World} (h : Below B a w) (hB : B ≤ w.heap.size) (os : Array Obj) : Below B a (grow w os) := by
  refine h.trans ⟨rfl, rfl, rfl, by simp [grow], fun k hk => ?_⟩
  simp only [grow]
  rw [Array.getElem?_append_left (by omega)]
namespace TQ
theorem cut_ok {h : AH} (h0 : h.objs.get 0 = some (.cells 3 [.chan (some 0)] true 0)) (hm : ∃ m, η 0 = .int .i64 m) (s c : List UInt8) (hs : s.length < 4294967281) :
    CallSpec η Tryz.prog B 73 [.string ⟨⟨s⟩⟩, .string ⟨⟨c⟩⟩] h (cutK [.string ⟨⟨s⟩⟩, .string ⟨⟨c⟩⟩] h).sat := by
  refine CallSpec.ofCalls (v := .tuple ⟨[.string ⟨⟨(Lib.cut s c).1⟩⟩, .string ⟨⟨(Lib.cut s c).2.1⟩⟩, .bool (Lib.cut s c).2.2]⟩) fun ρ args' w hl p => ?_
  obtain rfl := args_inv rfl hl
  obtain ⟨m, hm⟩ := hm
  have hc := p.cell (by rw [gszz]; omega) h0
  rw [hm] at hc
  refine (Tryz.strings_Cut ⟨⟨s⟩⟩ ⟨⟨c⟩⟩ m w hs hc).mono ?_
  rintro e w' ⟨rfl, n, rfl⟩
  exact ⟨_, rfl, .tup' (.cons (.string _) (.cons (.string _) (.cons (.bool _) .nil))), below_drewN (Below.refl _ _) n⟩
theorem trim_ok {h : AH} (s : List UInt8) (hs : s.length ≤ 9223372036854775807) :
    CallSpec η Tryz.prog B 71 [.string ⟨⟨s⟩⟩, .string ⟨#[48]⟩] h (trimK [.string ⟨⟨s⟩⟩, .string ⟨#[48]⟩] h).sat := by
  refine CallSpec.ofCalls (v := .string ⟨⟨Lib.trimRightB s 48⟩⟩) fun ρ args' w hl p => ?_
  obtain rfl := args_inv rfl hl
  refine (Tryz.strings_TrimRight_one ⟨⟨s⟩⟩ 48 (by decide) w hs).mono ?_
  rintro e w' ⟨rfl, rfl⟩
  exact ⟨_, rfl, .string _, Below.refl _ _⟩
theorem pows_eq : pows = Lib.pow10Tab.map fun z => Value.int .u64 z := by
  have h : pows.length = 20 := rfl
  refine List.ext_getElem (by simp [h, Lib.pow10Tab]) fun i h1 h2 => ?_
  rw [h] at h1
  simp only [Lib.pow10Tab, List.getElem_map, List.getElem_range]
  have hl : ∀ i, i < 20 → pows[i]? = some (.int .u64 ((10 ^ i : Nat) : Int)) := by
    intro i hi
    have e : i = 0 ∨ i = 1 ∨ i = 2 ∨ i = 3 ∨ i = 4 ∨ i = 5 ∨ i = 6 ∨ i = 7 ∨ i = 8 ∨ i = 9 ∨ i = 10 ∨ i = 11 ∨ i = 12 ∨ i = 13 ∨ i = 14 ∨ i = 15 ∨ i = 16 ∨ i = 17 ∨ i = 18 ∨ i = 19 := by omega
    rcases e with rfl | rfl | rfl | rfl | rfl | rfl | rfl | rfl | rfl | rfl | rfl | rfl | rfl | rfl | rfl | rfl | rfl | rfl | rfl | rfl <;> rfl
  have h3 := hl i h1
  rw [List.getElem?_eq_getElem (by rw [h]; exact h1)] at h3
  exact Option.some.inj h3
theorem itoa_ok {h : AH} (h5 : h.objs.get 5 = some (.cells 160 pows true 0)) (n : Int) (h0 : -9223372036854775808 ≤ n) (h1 : n ≤ 9223372036854775807) :
    CallSpec η Tryz.prog B 72 [.int .i64 n] h (itoaK [.int .i64 n] h).sat := by
  refine CallSpec.ofCalls (v := .string ⟨⟨Lib.itoa n⟩⟩) fun ρ args' w hl p => ?_
  obtain rfl := args_inv rfl hl
  rw [pows_eq] at h5
  refine (Tryz.strconv_Itoa n h0 h1 w (p.lits (name := "internal/strconv.uint64pow10") (by kernel_rfl) (by rw [gszz]; omega) h5)).mono ?_
  rintro e w' ⟨rfl, k, os, rfl⟩
  refine ⟨_, rfl, .string _, ?_⟩
  exact below_grow (below_drewN (Below.refl _ _) k) (Nat.le_refl _) os
theorem atoi_ok {h : AH} (he : h.objs.get 1 = some (.cells 72 [.chan (some 1)] true 0)) (hev : η 1 = .nilIface ∨ ∃ te pe, η 1 = .iface te pe) {c x y z : UInt8} (hc : dig c = true) :
    CallSpec η Tryz.prog B 74 [.string ⟨⟨[c, x, y, z]⟩⟩] h (atoiK [.string ⟨⟨[c, x, y, z]⟩⟩] h).sat := by
  obtain ⟨_, hT, hF⟩ := atoi4B (x := x) (y := y) (z := z) hc
  cases hb : atoiB [c, x, y, z] with
  | true =>
    have hv : Lib.atoiAll [c, x, y, z] = .ok (atoiV [c, x, y, z]) := by
      unfold atoiB at hb; unfold atoiV
      split at hb
      · rename_i v e; rw [e]
      · cases hb
    refine (CallSpec.ofCalls (v := .tuple ⟨[.int .i64 (atoiV [c, x, y, z]), .nilIface]⟩) fun ρ args' w hl p => ?_).mono ?_
    · obtain rfl := args_inv rfl hl
      refine (Tryz.strconv_Atoi_ok ⟨⟨[c, x, y, z]⟩⟩ (by show 4 ≤ _; omega) _ hv w).mono ?_
      rintro e w' ⟨rfl, hw⟩
      refine ⟨_, rfl, .tup' (.cons (.int _ _) (.cons .nilIface .nil)), ?_⟩
      rcases hw with rfl | ⟨t, rfl⟩
      · exact Below.refl _ _
      · exact Joins.below_bytesWorld _ _ _ _ (Nat.le_refl _)
    · rintro v h' ⟨rfl, rfl⟩
      exact .inl ⟨hb, rfl, rfl⟩
  | false =>
    refine (CallSpec.ofCalls (v := .tuple ⟨[.int .i64 0, .iface 136 (.chan none)]⟩) fun ρ args' w hl p => ?_).mono ?_
    · obtain rfl := args_inv rfl hl
      have hcell := p.cell (by rw [gszz]; omega) he
      refine (Tryz.strconv_Atoi_syntax ⟨⟨[c, x, y, z]⟩⟩ (by show 4 ≤ _; omega) (hF hb) _ w hcell hev).mono ?_
      rintro e w' ⟨N, rfl, _, _, hb⟩
      exact ⟨_, rfl, .tup' (.cons (.int _ _) (.cons (.iface _ (.any rfl)) .nil)), hb⟩
    · rintro v h' ⟨rfl, rfl⟩
      exact .inr ⟨hb, rfl, rfl⟩
end TQ
end Go.Ev
