/- HStrC, part 9: what the proof needs, in the order of its texts. -/
import Derived.Test.YtklnjollalaehaaGreatDoorHStrC8
namespace Go.Ev
set_option linter.unusedVariables false
set_option linter.unusedSimpArgs false
open Go Go.Proofs
variable {η : Nat → Value} {B : Bd}
namespace TH
theorem take_at {c : List Value} {o : Nat} {s : List UInt8} (F : BytesAt c o s) : List.take (s.length * 1) (List.drop o c) = bytesV s := by
  apply List.ext_getElem?
  intro i
  rw [List.getElem?_take, List.getElem?_drop, Nat.mul_one]
  by_cases h : i < s.length
  · rw [if_pos h, F.2 i h]
    unfold bytesV
    rw [List.getElem?_map, List.getElem?_eq_getElem h]; rfl
  · rw [if_neg h, List.getElem?_eq_none (by rw [bytesV_len]; omega)]
theorem mod_eq {k : Int} {n : Nat} (h0 : 0 ≤ k) : k.tmod (n : Int) = ((k.toNat % n : Nat) : Int) := by
  obtain ⟨a, rfl⟩ := Int.eq_ofNat_of_zero_le h0
  rfl
theorem wrap16 {k : Int} (h0 : 0 ≤ k) (h1 : k ≤ 65535) : IntKind.i64.wrap k = k := by
  rw [IntWalk.i64_in _ ⟨by omega, by omega⟩]
theorem isBV {h : AH} {r ty : Nat} {s : List UInt8} {cs : List Value} {n own : Nat} (hh : h.objs.get r = some (.cells ty cs false own)) (hn : n = s.length) (F : BytesAt cs 0 s) : IsBytes h (.slice (some ⟨r, 0, none⟩) n (capU 1)) s := by
  subst hn
  exact .inr ⟨r, 0, ty, cs, own, capU 1, rfl, hh, F, .inr rfl⟩
theorem bytesAt_take (s : List UInt8) (m : Nat) : BytesAt (bytesV s) 0 (s.take m) := ⟨(bytesAt_of s).1, fun i hi => by
  have hi' : i < s.length := by rw [List.length_take] at hi; omega
  rw [(bytesAt_of s).2 i hi', List.getElem_take]⟩
theorem ppR (hη : OneCells η) (hmix : Tryz.prog.follows .mixedOrders = true) {h : AH} {v : Value} {b : List UInt8} {L : List HF} {N : Nat} (k : IsBytes h v b) (hs : b.length ≤ 20000) (hp : parse b = (L, N, 0)) (hn : L ≠ []) :
    CallSpec η Tryz.prog B 14 [v] h (KT.ret (.tuple ⟨[.slice (some ⟨h.next, 0, none⟩) L.length (capU 2), .int .i64 N, .int .i64 0]⟩) (withRow h 37 (Go.Ev.flds L) false)).sat := by
  have := ppar_R (B := B) hη hmix k hs (by rw [hp]) (by rw [hp]; exact hn)
  rw [hp] at this
  exact this
theorem ppZ (hη : OneCells η) (hmix : Tryz.prog.follows .mixedOrders = true) {h : AH} {v : Value} {b : List UInt8} {N : Nat} (k : IsBytes h v b) (hs : b.length ≤ 20000) (hp : parse b = ([], N, 0)) :
    CallSpec η Tryz.prog B 14 [v] h (KT.ret (.tuple ⟨[.slice none 0 0, .int .i64 N, .int .i64 0]⟩) h).sat := by
  have : CallSpec η Tryz.prog B 14 [v] h (KT.ret (.tuple ⟨[.slice none 0 0, .int .i64 (parse b).2.1, .int .i64 0]⟩) h).sat := (ppar_ok hη hmix k hs).mono fun _ _ q => paT_Z q (by rw [hp]) (by rw [hp])
  rw [hp] at this
  exact this
theorem ppE (hη : OneCells η) (hmix : Tryz.prog.follows .mixedOrders = true) {h : AH} {v : Value} {b : List UInt8} (k : IsBytes h v b) (hs : b.length ≤ 20000) (hp : parse b = ([], 0, 10)) :
    CallSpec η Tryz.prog B 14 [v] h (KT.ret (.tuple ⟨[.slice none 0 0, .int .i64 0, .int .i64 10]⟩) h).sat := by
  have : CallSpec η Tryz.prog B 14 [v] h (KT.ret (.tuple ⟨[.slice none 0 0, .int .i64 0, .int .i64 (parse b).2.2]⟩) h).sat := (ppar_ok hη hmix k hs).mono fun _ _ q => paT_E q (by rw [hp]; show (10 : Int) ≠ 0; decide)
  rw [hp] at this
  exact this
theorem eqLv (hη : OneCells η) (hmix : Tryz.prog.follows .mixedOrders = true) {l : List HF} (hL : Small l) {lv : Value} {ty : Nat} {c : List Value} (k : ∀ h' : AH, h'.objs.get 126 = some (.cells ty c false 0) → IsFlds h' lv l) (hlb : ∀ y n c, lv = .slice (some y) n c → y.block = 126) (h : AH) {r t own cap : Nat} (h1 : h.objs.get 126 = some (.cells ty c false 0)) (h2 : h.objs.get r = some (.cells t (Go.Ev.flds l) false own)) (hr : r ≠ 126) :
    CallSpec η Tryz.prog B 16 [.slice (some ⟨r, 0, none⟩) l.length cap, lv] h (KT.ret (.bool true) h).sat := by
  have := equ_ok (B := B) hη hmix (Nat.le_trans hL.1 (by decide)) (isRowL (cap := cap) h2 rfl) (k h h1) (fun x y n c e n' c' e' => by cases e; rw [hlb _ _ _ e']; exact hr)
  rw [beq_self_eq_true] at this
  exact this
theorem eqLv0 (hη : OneCells η) (hmix : Tryz.prog.follows .mixedOrders = true) {lv : Value} {ty : Nat} {c : List Value} (k : ∀ h' : AH, h'.objs.get 126 = some (.cells ty c false 0) → IsFlds h' lv []) (h : AH) (h1 : h.objs.get 126 = some (.cells ty c false 0)) :
    CallSpec η Tryz.prog B 16 [.slice none 0 0, lv] h (KT.ret (.bool true) h).sat := by
  have := equ_ok (B := B) (X := []) hη hmix (Nat.zero_le _) (.inl ⟨rfl, rfl⟩) (k h h1) (fun x y n c e => by cases e)
  rw [beq_self_eq_true] at this
  exact this
set_option maxRecDepth 20000 in
theorem str_can (hη : OneCells η) (hmix : Tryz.prog.follows .mixedOrders = true) (haw : ∀ {B : Bd} (h : AH), CallSpec η Tryz.prog B 11 [] h fun v h' => v = .bool true ∧ h' = h) {l : List HF} {s : List UInt8} {lv : Value} {c c' : List Value} {o' : Nat} (ty ty' cap' : Nat) {k0 : Int} (hk0 : 0 ≤ k0) (hk1 : k0 ≤ 65535)
    (k : ∀ h' : AH, h'.objs.get 126 = some (.cells ty c false 0) → IsFlds h' lv l) (hlb : ∀ y n c, lv = .slice (some y) n c → y.block = 126) (nn : NoNames c) (F : BytesAt c' o' s) (ho : o' + s.length ≤ c'.length) :
    CallSpec η Tryz.prog B 4 [lv, .slice (some ⟨127, o', none⟩) s.length cap', .int .u16 k0] (heapT [(ty, c), (ty', c')]) fun v _ => v = .bool true := by
  have nn' := nn_bare F.1
  have e2 := take_at F
  have el : ∀ h' : AH, h'.objs.get 126 = some (.cells ty c false 0) → fieldsAt h' lv = l := fun h' hh => (k h' hh).at_
  have hw := wrap16 hk0 hk1
  have e4 : bytesIn (bytesV (prS l) ++ bytesV s) 0 ((prS l).length + s.length) = prS l ++ s := by rw [← bytesV_app, ← List.length_append, bytesIn_all]
  by_cases hC : chk l = 0
  · have hp := parse_prS hC s
    obtain ⟨hpl, hle⟩ := prS_len hC
    obtain ⟨m, hm⟩ : ∃ m, m = k0.toNat % (prS l).length := ⟨_, rfl⟩
    have hml : m < (prS l).length := by rw [hm]; exact Nat.mod_lt _ (by omega)
    have e6 : k0.tmod ((prS l).length : Int) = (m : Int) := by rw [mod_eq hk0, ← hm]
    have e5 : bytesIn (bytesV (prS l)) 0 m = (prS l).take m := by unfold bytesIn; rw [List.drop_zero, List.map_take, map_byteOf]
    have hp2 := parse_begin hC hml
    by_cases hN : l = []
    · subst hN
      have e := el (HStZ.H0 lv ty ty' o' c c' s.length cap' k0) rfl
      unfold HStZ.H0 at e
      refine HStZ.enter hη hmix (reg0 hη hmix) _ _ _ _ _ _ _ _ _ ?_
      simp only [W.holds, e, e2, cut0, hw, e4, e5, e6, hp, hp2, hC, Int.toNat_natCast, Nat.sub_zero, true_and, and_true, decide_eq_true_eq, decide_eq_false_iff_not, true_implies, beq_self_eq_true, reduceCtorEq, Bool.true_eq_false, false_implies, bne_self_eq_false, bytesV_len, bytesV_one, Int.le_refl]
      rw [el _ ?h2]
      case h2 => rfl
      simp only [show fieldsAt _ (Value.slice none 0 0) = [] from rfl, beq_self_eq_true, true_implies, Bool.true_eq_false, false_implies, and_true]
      refine ⟨far_K hη hmix (k _ rfl), fun _ => haw _, fun hf => ⟨fun _ => haw _, fun h9 => ?_⟩⟩
      have hL := far_small hf
      have h200 : s.length ≤ 200 := by omega
      have pr := print_ok (B := B) hη hmix (k (HStZ.H0 lv ty ty' o' c c' s.length cap' k0) rfl) hL
      rw [hC] at pr
      refine ⟨pr, fun h => absurd h (by show ¬ ((prS []).length : Int) < 2; omega), fun _ => ⟨fun h => absurd h (by omega), fun _ => ⟨by omega, fun _ => ⟨⟨by omega, by omega, by omega, by omega⟩, fun _ => ⟨?_, by omega, fun _ => ⟨by omega, fun _ => ⟨⟨by omega, by decide, by omega, .inr trivial⟩, fun _ => ⟨?_, ?_, haw _, ⟨nn, nn'⟩, fun _ => trivial⟩⟩⟩⟩⟩⟩⟩⟩
      · exact ppZ hη hmix (isBV (r := 129) rfl (by rw [List.length_append]) (by rw [← bytesV_app]; exact bytesAt_of _)) (by rw [List.length_append]; omega) hp
      · exact ppE hη hmix (isBV (r := 130) rfl (by rw [List.length_take]; omega) (bytesAt_take _ m)) (by rw [List.length_take]; omega) hp2
      · exact eqLv0 hη hmix k _ rfl
    · have e := el (HStR.H0 lv ty ty' o' c c' s.length cap' k0) rfl
      unfold HStR.H0 at e
      refine HStR.enter hη hmix (reg0 hη hmix) _ _ _ _ _ _ _ _ _ ?_
      simp only [W.holds, e, e2, cut0, hw, e4, e5, e6, hp, hp2, hC, Int.toNat_natCast, Nat.sub_zero, true_and, and_true, decide_eq_true_eq, decide_eq_false_iff_not, true_implies, beq_self_eq_true, reduceCtorEq, Bool.true_eq_false, false_implies, bne_self_eq_false, bytesV_len, bytesV_one, Int.le_refl]
      rw [fieldsAt_litL (r := 130) (M := l) (hr := ?h1) (hn := rfl), el _ ?h2]
      case h1 => rfl
      case h2 => rfl
      simp only [beq_self_eq_true, true_implies, Bool.true_eq_false, false_implies, and_true]
      refine ⟨far_K hη hmix (k _ rfl), fun _ => haw _, fun hf => ⟨fun _ => haw _, fun h9 => ?_⟩⟩
      have hL := far_small hf
      have h200 : s.length ≤ 200 := by omega
      have pr := print_ok (B := B) hη hmix (k (HStR.H0 lv ty ty' o' c c' s.length cap' k0) rfl) hL
      rw [hC] at pr
      refine ⟨pr, fun h => absurd h (by show ¬ ((prS l).length : Int) < 2; omega), fun _ => ⟨fun h => absurd h (by omega), fun _ => ⟨by omega, fun _ => ⟨⟨by omega, by omega, by omega, by omega⟩, fun _ => ⟨?_, by omega, fun _ => ⟨by omega, fun _ => ⟨⟨by omega, by decide, by omega, .inr trivial⟩, fun _ => ⟨?_, ?_, haw _, ⟨nn, nn'⟩, fun _ => trivial⟩⟩⟩⟩⟩⟩⟩⟩
      · exact (ppR hη hmix (isBV (r := 129) rfl (by rw [List.length_append]) (by rw [← bytesV_app]; exact bytesAt_of _)) (by rw [List.length_append]; omega) hp hN).conv (by kernel_rfl)
      · exact ppE hη hmix (isBV (r := 131) rfl (by rw [List.length_take]; omega) (bytesAt_take _ m)) (by rw [List.length_take]; omega) hp2
      · exact eqLv hη hmix hL k hlb _ rfl rfl (by decide)
  · have e := el (HStR.H0 lv ty ty' o' c c' s.length cap' k0) rfl
    unfold HStR.H0 at e
    have hP : prS l = [] := by unfold prS; rw [if_neg hC]
    have hb : (chk l != 0) = true := by simpa using hC
    refine HStR.enter hη hmix (reg0 hη hmix) _ _ _ _ _ _ _ _ _ ?_
    simp only [W.holds, e, hb, hP, true_and, and_true, decide_eq_true_eq, decide_eq_false_iff_not, true_implies, beq_self_eq_true, reduceCtorEq, Bool.true_eq_false, false_implies]
    refine ⟨far_K hη hmix (k _ rfl), fun _ => haw _, fun hf => ⟨fun _ => haw _, fun h9 => ?_⟩⟩
    have hL := far_small hf
    have pr := print_ok (B := B) hη hmix (k (HStR.H0 lv ty ty' o' c c' s.length cap' k0) rfl) hL
    rw [hP] at pr
    exact ⟨pr, chk_K hη hmix (k _ rfl) hL, haw _⟩
set_option maxRecDepth 20000 in
theorem str_nil (hη : OneCells η) (hmix : Tryz.prog.follows .mixedOrders = true) (haw : ∀ {B : Bd} (h : AH), CallSpec η Tryz.prog B 11 [] h fun v h' => v = .bool true ∧ h' = h) {l : List HF} {lv : Value} {c : List Value} (ty : Nat) {k0 : Int} (hk0 : 0 ≤ k0) (hk1 : k0 ≤ 65535)
    (k : ∀ h' : AH, h'.objs.get 126 = some (.cells ty c false 0) → IsFlds h' lv l) (hlb : ∀ y n c, lv = .slice (some y) n c → y.block = 126) (nn : NoNames c) :
    CallSpec η Tryz.prog B 4 [lv, .slice none 0 0, .int .u16 k0] (heapT [(ty, c)]) fun v _ => v = .bool true := by
  have el : ∀ h' : AH, h'.objs.get 126 = some (.cells ty c false 0) → fieldsAt h' lv = l := fun h' hh => (k h' hh).at_
  have hw := wrap16 hk0 hk1
  have e4 : bytesIn (bytesV (prS l)) 0 (prS l).length = prS l := bytesIn_all _
  by_cases hC : chk l = 0
  · have hp := parse_prS hC []
    rw [List.append_nil] at hp
    obtain ⟨hpl, hle⟩ := prS_len hC
    obtain ⟨m, hm⟩ : ∃ m, m = k0.toNat % (prS l).length := ⟨_, rfl⟩
    have hml : m < (prS l).length := by rw [hm]; exact Nat.mod_lt _ (by omega)
    have e6 : k0.tmod ((prS l).length : Int) = (m : Int) := by rw [mod_eq hk0, ← hm]
    have e5 : bytesIn (bytesV (prS l)) 0 m = (prS l).take m := by unfold bytesIn; rw [List.drop_zero, List.map_take, map_byteOf]
    have hp2 := parse_begin hC hml
    by_cases hN : l = []
    · subst hN
      have e := el (HStZN.H0 lv ty c k0) rfl
      unfold HStZN.H0 at e
      refine HStZN.enter hη hmix (reg0 hη hmix) _ _ _ _ ?_
      simp only [W.holds, e, cut0, List.append_nil, Nat.add_zero, hw, e4, e5, e6, hp, hp2, hC, Int.toNat_natCast, Nat.sub_zero, true_and, and_true, decide_eq_true_eq, decide_eq_false_iff_not, true_implies, beq_self_eq_true, reduceCtorEq, Bool.true_eq_false, false_implies, bne_self_eq_false, bytesV_len, bytesV_one, Int.le_refl]
      rw [el _ ?h2]
      case h2 => rfl
      simp only [show fieldsAt _ (Value.slice none 0 0) = [] from rfl, beq_self_eq_true, true_implies, Bool.true_eq_false, false_implies, and_true]
      refine ⟨far_K hη hmix (k _ rfl), fun _ => haw _, fun hf => ?_⟩
      have hL := far_small hf
      have pr := print_ok (B := B) hη hmix (k (HStZN.H0 lv ty c k0) rfl) hL
      rw [hC] at pr
      refine ⟨pr, fun h => absurd h (by show ¬ ((prS []).length : Int) < 2; omega), fun _ => ⟨fun h => absurd h (by omega), fun _ => ⟨by omega, fun _ => ⟨⟨by omega, by omega⟩, fun _ => ⟨?_, by omega, fun _ => ⟨by omega, fun _ => ⟨⟨by omega, by decide, by omega, .inr trivial⟩, fun _ => ⟨?_, ?_, haw _, nn, fun _ => trivial⟩⟩⟩⟩⟩⟩⟩⟩
      · exact ppZ hη hmix (isBV (r := 128) rfl rfl (bytesAt_of _)) (by omega) hp
      · exact ppE hη hmix (isBV (r := 129) rfl (by rw [List.length_take]; omega) (bytesAt_take _ m)) (by rw [List.length_take]; omega) hp2
      · exact eqLv0 hη hmix k _ rfl
    · have e := el (HStRN.H0 lv ty c k0) rfl
      unfold HStRN.H0 at e
      refine HStRN.enter hη hmix (reg0 hη hmix) _ _ _ _ ?_
      simp only [W.holds, e, cut0, List.append_nil, Nat.add_zero, hw, e4, e5, e6, hp, hp2, hC, Int.toNat_natCast, Nat.sub_zero, true_and, and_true, decide_eq_true_eq, decide_eq_false_iff_not, true_implies, beq_self_eq_true, reduceCtorEq, Bool.true_eq_false, false_implies, bne_self_eq_false, bytesV_len, bytesV_one, Int.le_refl]
      rw [fieldsAt_litL (r := 129) (M := l) (hr := ?h1) (hn := rfl), el _ ?h2]
      case h1 => rfl
      case h2 => rfl
      simp only [beq_self_eq_true, true_implies, Bool.true_eq_false, false_implies, and_true]
      refine ⟨far_K hη hmix (k _ rfl), fun _ => haw _, fun hf => ?_⟩
      have hL := far_small hf
      have pr := print_ok (B := B) hη hmix (k (HStRN.H0 lv ty c k0) rfl) hL
      rw [hC] at pr
      refine ⟨pr, fun h => absurd h (by show ¬ ((prS l).length : Int) < 2; omega), fun _ => ⟨fun h => absurd h (by omega), fun _ => ⟨by omega, fun _ => ⟨⟨by omega, by omega⟩, fun _ => ⟨?_, by omega, fun _ => ⟨by omega, fun _ => ⟨⟨by omega, by decide, by omega, .inr trivial⟩, fun _ => ⟨?_, ?_, haw _, nn, fun _ => trivial⟩⟩⟩⟩⟩⟩⟩⟩
      · exact (ppR hη hmix (isBV (r := 128) rfl rfl (bytesAt_of _)) (by omega) hp hN).conv (by kernel_rfl)
      · exact ppE hη hmix (isBV (r := 130) rfl (by rw [List.length_take]; omega) (bytesAt_take _ m)) (by rw [List.length_take]; omega) hp2
      · exact eqLv hη hmix hL k hlb _ rfl rfl (by decide)
  · have e := el (HStRN.H0 lv ty c k0) rfl
    unfold HStRN.H0 at e
    have hP : prS l = [] := by unfold prS; rw [if_neg hC]
    have hb : (chk l != 0) = true := by simpa using hC
    refine HStRN.enter hη hmix (reg0 hη hmix) _ _ _ _ ?_
    simp only [W.holds, e, hb, hP, true_and, and_true, decide_eq_true_eq, decide_eq_false_iff_not, true_implies, beq_self_eq_true, reduceCtorEq, Bool.true_eq_false, false_implies]
    refine ⟨far_K hη hmix (k _ rfl), fun _ => haw _, fun hf => ?_⟩
    have hL := far_small hf
    have pr := print_ok (B := B) hη hmix (k (HStRN.H0 lv ty c k0) rfl) hL
    rw [hP] at pr
    exact ⟨pr, chk_K hη hmix (k _ rfl) hL, haw _⟩
end TH
end Go.Ev

namespace Go.Ev
set_option linter.unusedVariables false
set_option linter.unusedSimpArgs false
open Go Go.Proofs Go.RowKit
namespace TH
theorem u16_wf {n : Int} (h : (Lit.int .u16 n).wf = true) : 0 ≤ n ∧ n ≤ 65535 := by
  simp only [Lit.wf, IntKind.min, IntKind.max] at h
  revert h
  simp [IntKind.signed, IntKind.bits]
theorem streams_row (hmix : Tryz.prog.follows .mixedOrders = true) (haw : ∀ {B : Bd} (h : AH), CallSpec (fun _ => .nilIface) Tryz.prog B 11 [] h fun v h' => v = .bool true ∧ h' = h) {w0 : World} (l : List HF) (a : Value) (s : List UInt8) (b : Value) {k0 : Int} (hk0 : 0 ≤ k0) (hk1 : k0 ≤ 65535) (ha : SliceArg w0 a l.length (Go.Ev.flds l)) (hb : SliceArg w0 b s.length (bytesV s))
    (hcap : ∀ p n c, b = .slice p n c → n ≤ c) (hsp : Spare w0) :
    Calls Tryz.prog 4 #[a, b, .int .u16 k0] w0 fun e w' => e = .returned (.bool true) ∧ Go.RowKit.Below w0.heap.size w0 w' := by
  have hη : OneCells (fun _ => Value.nilIface) := fun _ => rfl
  rcases hb with ⟨rfl, hn⟩ | ⟨blk, o, o', cap, ty', rfl, hU, hle, ho, hr⟩
  · obtain ⟨x, fa, hx, hv, hf, nn, hlb⟩ := flds_in (η := fun _ => .nilIface) (P := Tryz.prog) ha hsp
    obtain ⟨ty, c, xb, xo⟩ := x
    exact CallSpec.trueR (η := fun _ => .nilIface) (l := [⟨ty, c, xb, xo⟩]) (args := [fa, .slice none 0 0, .int .u16 k0]) TB.gs9 (fun y hy => by rw [List.mem_singleton] at hy; subst hy; exact hx) (.cons (hv _ rfl) (.cons (.slice0 _ _ rfl) (.cons (.int _ _) .nil))) (str_nil hη hmix haw ty hk0 hk1 hf hlb nn)
  · obtain ⟨x, fa, hx, hv, hf, nn, hlb⟩ := flds_in (η := fun _ => .nilIface) (P := Tryz.prog) ha hsp
    obtain ⟨ty, c, xb, xo⟩ := x
    refine CallSpec.trueR (η := fun _ => .nilIface) (l := [⟨ty, c, xb, xo⟩, ⟨ty', bytesV s, blk, o'⟩]) (args := [fa, .slice (some ⟨127, o - o', none⟩) s.length cap, .int .u16 k0]) TB.gs9 (fun y hy => ?_) (.cons (hv _ rfl) (.cons ?_ (.cons (.int _ _) .nil))) ?_
    · simp only [List.mem_cons, List.not_mem_nil, or_false] at hy
      rcases hy with rfl | rfl
      · exact hx
      · exact hr
    · have := VR.slice (η := fun _ => .nilIface) (ρ := envR Tryz.prog w0 [⟨ty, c, xb, xo⟩, ⟨ty', bytesV s, blk, o'⟩]) (r := 127) (o := o - o') (b := blk) (d := o') (n := sizeB w0 blk - o') s.length cap (envR_1 (x := ⟨ty', bytesV s, blk, o'⟩) rfl) hU
      rw [show o' + (o - o') = o by omega] at this
      exact this
    · cases s with
      | nil => exact str_can hη hmix haw ty ty' cap hk0 hk1 hf hlb nn ⟨rfl, fun i hi => by simp at hi⟩ (by rw [bytesV_len] at hle ⊢; simp only [List.length_nil] at hle ⊢; omega)
      | cons x y =>
        rw [ho (by simp), Nat.sub_self]
        exact str_can hη hmix haw ty ty' cap hk0 hk1 hf hlb nn (bytesAt_of _) (by rw [bytesV_len, Nat.zero_add]; exact Nat.le_refl _)
end TH
end Go.Ev

