/- HChecks, part 9: what the proof needs, in the order of its texts. -/
import Derived.Test.YtibnongfdafoeaaGreatDoorHChecks8
import Derived.Deep.Slices
import Derived.ChangeArms
import Derived.WideShapes
import Derived.ChangeSame
import Derived.SizedLaws
namespace Go.Ev
set_option linter.unusedVariables false
set_option linter.unusedSimpArgs false
open Go Go.Proofs Go.RowKit
variable {η : Nat → Value} {B : Nat}
theorem sig_id (r : Nat) : sigR (fun i => 126 + i) r = r := by
  unfold sigR
  split
  · show 126 + (r - 126) = r; omega
  · rfl
/-- A call that looks at rows, and whose result is bare: what else it made is forgotten. -/
theorem CallSpec.bareR {P : Program} (hη : OneCells η) {f : FuncId} {args args' : List Value} {l : List (TypeId × List Value)} {rn : Nat → Nat} {h : AH} {v : Value} (hN : P.globals.size < 126) (hr : RowsIn h l rn) (ha : L2 (RV (sigR rn) (126 + l.length) true) args args') (hv : ∀ σ M, RV σ M false v v) (hw : ∀ σ M, RV σ M true v v)
    (c : CallSpec η P B f args (heapT l) fun v1 h1 => v1 = v ∧ ∀ i x, l[i]? = some x → h1.objs.get (126 + i) = some (.cells x.1 x.2 false 0)) : CallSpec η P B f args' h fun v1 h1 => v1 = v ∧ h1 = h := by
  refine CallSpec.pureR hη hN hr ha hv (c.forget hη ?_)
  rintro v' h1 ⟨rfl, hk⟩ hn
  exact ⟨sigR fun i => 126 + i, _, heapT l, ⟨rfl, rfl⟩, emb_rows hN ⟨fun i x hx => ⟨(hr.1 i x hx).1, 0, hk _ _ hx⟩, fun i j _ _ e => by have e : 126 + i = 126 + j := e; omega⟩, Nat.le_refl _, fun r _ => sig_id r, hw _ _⟩
namespace TH
open TB TE
theorem isF (c : List Value) (o ty cap : Nat) {l : List HF} (F : FldsAt c o l) : IsFlds (heapT [(ty, c)]) (.slice (some ⟨126, o, none⟩) l.length cap) l :=
  .inr ⟨126, o, ty, c, 0, cap, rfl, rfl, F⟩
theorem chk_K (hη : OneCells η) (hmix : Tryz.prog.follows .mixedOrders = true) {h : AH} {v : Value} {l : List HF} (k : IsFlds h v l) (hL : Small l) :
    CallSpec η Tryz.prog B 37 [v] h (KT.ret (.int .i64 (chk l)) h).sat := by
  have := chk_ok (B := B) hη hmix k hL
  simp only [chkK, k.at_] at this
  exact this
theorem val_K (hη : OneCells η) (hmix : Tryz.prog.follows .mixedOrders = true) {h : AH} {v : Value} {l : List HF} (k : IsFlds h v l) (hL : Small l) (s : List UInt8) (hs : s.length ≤ 20000) :
    CallSpec η Tryz.prog B 90 [v, .string ⟨⟨s⟩⟩] h (KT.ite (getB l s) (.ret (.slice none 0 0) h) (.ret (.slice (some ⟨h.next, 0, none⟩) (get l s).length (capU 1)) (withRow h 9 (strs (get l s)) false))).sat := by
  have := val_ok (B := B) hη hmix k hL s hs
  simp only [valK, k.at_, bdl] at this
  exact this
theorem list_row {h : AH} {r ty own n cap : Nat} {L : List (List UInt8)} (hr : h.objs.get r = some (.cells ty (strs L) false own)) (hn : n = L.length) : listAt h (.slice (some ⟨r, 0, none⟩) n cap) = L := by
  subst hn
  unfold listAt
  simp only [hr]
  unfold strs
  rw [List.take_of_length_le (by simp), List.map_map]
  exact List.map_id _
def hRow (ty : Nat) (c : List Value) (L : List (List UInt8)) : AH := ⟨T.node none (T.node none (T.node none (T.node none (T.node none (T.node none (T.node none (T.node (some (AObj.cells 9 (strs L) false 2)) T.nil T.nil) T.nil) T.nil) T.nil) T.nil) T.nil) T.nil) (T.node none T.nil (T.node none T.nil (T.node none T.nil (T.node none T.nil (T.node none T.nil (T.node (some (AObj.cells ty c false 0)) T.nil T.nil)))))), 128⟩
theorem hRow_get (ty : Nat) (c : List Value) (L : List (List UInt8)) : (hRow ty c L).objs.get 127 = some (.cells 9 (strs L) false 2) ∧ (hRow ty c L).objs.get 126 = some (.cells ty c false 0) := ⟨rfl, rfl⟩
set_option maxRecDepth 20000 in
theorem com_can (hη : OneCells η) (hmix : Tryz.prog.follows .mixedOrders = true) {l : List HF} {c : List Value} {o : Nat} (ty cap : Nat) (F : FldsAt c o l) (hL : Small l) (s : List UInt8) (hs : s.length ≤ 20000) {D : Value → AH → Prop}
    (d : ∀ h' : AH, h'.objs.get 126 = some (.cells ty c false 0) → D (.tuple ⟨[.string ⟨⟨comS l s⟩⟩, .int .i64 (comE l s)]⟩) h') :
    CallSpec η Tryz.prog B 35 [.slice (some ⟨126, o, none⟩) l.length cap, .string ⟨⟨s⟩⟩] (heapT [(ty, c)]) D := by
  have k := isF c o ty cap F
  have e : fieldsAt (HCom.H0 ty o c l.length cap s) (.slice (some ⟨126, o, none⟩) l.length cap) = l := k.at_
  have e2 : listAt (hRow ty c (get l s)) (.slice (some ⟨127, 0, none⟩) (get l s).length 9223372036854775809) = get l s := list_row (hRow_get ty c _).1 rfl
  have nn := nn_bare F.1
  have err : ∀ (h' : AH) (E : Int), h'.objs.get 126 = some (.cells ty c false 0) → E ≠ 0 → comE l s = E → D (.tuple ⟨[.string ⟨#[]⟩, .int .i64 E]⟩) h' := by
    intro h' E hh h0 he
    have := d h' hh
    rw [he, show comS l s = [] from if_neg (by rw [he]; exact h0)] at this
    exact this
  have jl := join_ok (η := η) (B := B) (L := get l s) (sep := [44, 32]) (hRow_get ty c (get l s)).1
  unfold HCom.H0 at e
  unfold hRow at e2 jl
  refine HCom.enter hη hmix (reg0 hη hmix) _ _ _ _ _ _ ?_
  simp only [W.holds, e, e2, true_and, and_true, decide_eq_true_eq, decide_eq_false_iff_not, true_implies, bne_iff_ne, ne_eq, beq_iff_eq, Bool.not_eq_true', Bool.not_eq_false', bne_eq_false_iff_eq, beq_eq_false_iff_ne]
  refine ⟨chk_K hη hmix k hL, fun hc => ⟨fun _ => err _ _ rfl hc (by unfold comE askE; simp [hc]), fun h => absurd h hc⟩, fun hc => ⟨tok_ok hη hmix s (by omega) _, fun ht => err _ 2 rfl (by decide) (by unfold comE askE; simp [hc, ht]), fun ht => ⟨(val_K hη hmix k hL s hs).conv (by kernel_rfl), fun hg => err _ 4 rfl (by decide) (by unfold comE askE; simp [hc, ht, hg]), fun hg => ⟨fun h => ?_, fun hne => ⟨fold_ok hη hmix s (by omega) _, fun hsc => ⟨nn, fun _ => err _ 9 rfl (by decide) (by unfold comE askE; rw [show low s = setCookie from hsc]; simp [hc, ht, hg])⟩, fun hsc => ⟨jl (by intro h; rw [h] at hne; exact hne rfl) (by have := get_len s l; have := hL.1; omega) (fun x hx => by have := get_small hL x hx; omega) (by decide), fun h3 => ⟨nn, fun _ => err _ 3 rfl (by decide) ?_⟩, fun h3 => ?_⟩⟩⟩⟩⟩⟩
  · have : get l s = [] := List.length_eq_zero_iff.1 (by omega)
    unfold getB at hg
    rw [this] at hg
    cases hg
  · have hsc' : ¬ low s = setCookie := hsc
    have h3' : 2000 < (joinS [44, 32] (get l s)).length := by have : ((joinS [44, 32] (get l s)).length : Int) > 2000 := h3; omega
    unfold comE askE; simp [hc, ht, hg, hsc', h3']
  · have hsc' : ¬ low s = setCookie := hsc
    have h3' : ¬ 2000 < (joinS [44, 32] (get l s)).length := by have : ¬ ((joinS [44, 32] (get l s)).length : Int) > 2000 := h3; omega
    have he : comE l s = 0 := by unfold comE askE; simp [hc, ht, hg, hsc', h3']
    have := d (hRow ty c (get l s)) (hRow_get ty c _).2
    rw [he, show comS l s = joinS [44, 32] (get l s) from if_pos he] at this
    exact this
theorem com_ok (hη : OneCells η) (hmix : Tryz.prog.follows .mixedOrders = true) {h : AH} {v : Value} {l : List HF} (k : IsFlds h v l) (hL : Small l) (s : List UInt8) (hs : s.length ≤ 20000) :
    CallSpec η Tryz.prog B 35 [v, .string ⟨⟨s⟩⟩] h (KT.ret (.tuple ⟨[.string ⟨⟨comS l s⟩⟩, .int .i64 (comE l s)]⟩) h).sat := by
  rcases k with ⟨rfl, rfl⟩ | ⟨r, o, ty, c, own, cap, rfl, hr, F⟩
  · refine CallSpec.bare hη gs9 (fun _ _ => .cons (.slice0 _ _) (.cons (.string _) .nil)) (fun σ M => RV.tup2 (.string _) (.int _ _)) (fun σ M => RV.tup2 (.string _) (.int _ _)) ?_ h
    refine HCom0.enter hη hmix (reg0 hη hmix) s ?_
    have k0 : IsFlds (heapN 126) (.slice none 0 0) [] := .inl ⟨rfl, rfl⟩
    have c0 : chk [] = 0 := by decide
    have g0 : getB [] s = true := rfl
    simp only [W.holds, true_and, and_true, true_implies, Bool.not_eq_true', Bool.not_eq_false']
    exact ⟨chk_K hη hmix k0 hL, tok_ok hη hmix s (by omega) _, fun ht => by unfold comS comE askE; simp [ht, c0, g0], fun ht => ⟨(val_K hη hmix k0 hL s hs).conv (by kernel_rfl), by unfold comS comE askE; simp [ht, c0, g0]⟩⟩
  · exact CallSpec.bareR (args := [.slice (some ⟨126, o, none⟩) l.length cap, .string ⟨⟨s⟩⟩]) hη gs9 (rows1 hr F.1) (.cons (.slice (σ := sigR fun _ => r) _ _ (by simp)) (.cons (.string _) .nil)) (fun σ M => RV.tup2 (.string _) (.int _ _)) (fun σ M => RV.tup2 (.string _) (.int _ _)) (com_can hη hmix ty cap F hL s hs fun h' hh => ⟨rfl, fun i x hx => by
      match i with
      | 0 => simp at hx; subst hx; exact hh
      | i + 1 => simp at hx⟩)
end TH
end Go.Ev

namespace Go.Ev
set_option linter.unusedVariables false
set_option linter.unusedSimpArgs false
open Go Go.Proofs Go.RowKit
variable {η : Nat → Value} {B : Nat}
namespace TH
open TB TE
theorem joinS_head (sep a x : List UInt8) (r : List (List UInt8)) : joinS sep ((a ++ x) :: r) = a ++ joinS sep (x :: r) := by
  cases r with
  | nil => simp [joinS]
  | cons y r => simp [joinS]
theorem joinS_next (sep t x : List UInt8) (r : List (List UInt8)) : joinS sep ((t ++ sep ++ x) :: r) = joinS sep (t :: x :: r) := by
  rw [joinS_head, joinS]
theorem rchk_K (hη : OneCells η) (hmix : Tryz.prog.follows .mixedOrders = true) {h : AH} {v : Value} {l : List HF} (k : IsFlds h v l) (hL : Small l) :
    CallSpec η Tryz.prog B 38 [v] h (KT.ret (.int .i64 (chk l)) h).sat := by
  have := rchk_ok (B := B) hη hmix k hL
  simp only [chkK, k.at_] at this
  exact this
theorem rget_K (hη : OneCells η) (hmix : Tryz.prog.follows .mixedOrders = true) {h : AH} {v : Value} {l : List HF} (k : IsFlds h v l) (hL : Small l) (s : List UInt8) (hs : s.length ≤ 20000) :
    CallSpec η Tryz.prog B 93 [v, .string ⟨⟨s⟩⟩] h (KT.ite (getB l s) (.ret (.slice none 0 0) h) (.ret (.slice (some ⟨h.next, 0, none⟩) (get l s).length (capU 1)) (withRow h 9 (strs (get l s)) false))).sat := by
  have := rget_ok (B := B) hη hmix k hL s hs
  simp only [valK, k.at_, bdl] at this
  exact this
set_option maxRecDepth 20000 in
theorem rcom_can (hη : OneCells η) (hmix : Tryz.prog.follows .mixedOrders = true) {l : List HF} {c : List Value} {o : Nat} (ty cap : Nat) (F : FldsAt c o l) (hL : Small l) (s : List UInt8) (hs : s.length ≤ 20000) {D : Value → AH → Prop}
    (d : ∀ h' : AH, h'.objs.get 126 = some (.cells ty c false 0) → D (.tuple ⟨[.string ⟨⟨comS l s⟩⟩, .int .i64 (comE l s)]⟩) h') :
    CallSpec η Tryz.prog B 36 [.slice (some ⟨126, o, none⟩) l.length cap, .string ⟨⟨s⟩⟩] (heapT [(ty, c)]) D := by
  have k := isF c o ty cap F
  have e : fieldsAt (HRCom.H0 ty o c l.length cap s) (.slice (some ⟨126, o, none⟩) l.length cap) = l := k.at_
  have nn := nn_bare F.1
  have err : ∀ (h' : AH) (E : Int), h'.objs.get 126 = some (.cells ty c false 0) → E ≠ 0 → comE l s = E → D (.tuple ⟨[.string ⟨#[]⟩, .int .i64 E]⟩) h' := by
    intro h' E hh h0 he
    have := d h' hh
    rw [he, show comS l s = [] from if_neg (by rw [he]; exact h0)] at this
    exact this
  have cut := fun i0 s0 => HRCom.cut0 (η := η) (B := B) (D := D) hη hmix (reg0 hη hmix) ty o c l.length cap s i0 s0
  unfold HRCom.H0 at e
  refine HRCom.enter hη hmix (reg0 hη hmix) _ _ _ _ _ _ ?_
  simp only [W.holds, e, true_and, and_true, decide_eq_true_eq, decide_eq_false_iff_not, true_implies, bne_iff_ne, ne_eq, beq_iff_eq, Bool.not_eq_true', Bool.not_eq_false', bne_eq_false_iff_eq, beq_eq_false_iff_ne, Nat.zero_add, Nat.mul_one] at cut ⊢
  have hlen := get_len s l
  have hl0 := hL.1
  have loop : askE l s = 0 → getB l s = false → ¬ low s = setCookie → ∀ (rest : List (List UInt8)) (i : Nat) (t : List UInt8), (get l s).drop i = rest → t.length ≤ i * 20002 → i ≤ (get l s).length → joinS [44, 32] (t :: rest) = joinS [44, 32] (get l s) → RunD η Tryz.prog B 36 (HRCom.H0 ty o c l.length cap s) [7, 8, 9] (HRCom.S0 ty o c l.length cap s (i : Int) t fun _ => undef) (QF Tryz.prog 127 D) := by
    intro ha hg hsc rest
    induction rest with
    | nil =>
      intro i t hd ht hi0 hj
      have hi : (get l s).length ≤ i := List.drop_eq_nil_iff.1 hd
      have hj' : t = joinS [44, 32] (get l s) := hj
      refine cut _ _ ⟨fun h => by omega, fun _ => ⟨fun h3 => ⟨nn, fun _ => err _ 3 rfl (by decide) ?_⟩, fun h3 => ⟨nn, fun _ => ?_⟩⟩⟩
      · have h3' : 2000 < (joinS [44, 32] (get l s)).length := by rw [← hj']; omega
        unfold comE; simp [ha, hg, hsc, h3']
      · have h3' : ¬ 2000 < (joinS [44, 32] (get l s)).length := by rw [← hj']; omega
        have he : comE l s = 0 := by unfold comE; simp [ha, hg, hsc, h3']
        have := d (HRCom.H0 ty o c l.length cap s) rfl
        rw [he, show comS l s = joinS [44, 32] (get l s) from if_pos he, ← hj'] at this
        exact this
    | cons x rest ih =>
      intro i t hd ht hi0 hj
      have hi : i < (get l s).length := by
        rcases Nat.lt_or_ge i (get l s).length with h | h
        · exact h
        · rw [List.drop_of_length_le h] at hd; cases hd
      rw [List.drop_eq_getElem_cons hi] at hd
      injection hd with e1 e2
      obtain ⟨g1, g2⟩ := strs_get hi
      have hx := get_small hL x (by rw [← e1]; exact List.getElem_mem hi)
      have c1 := cut (i : Int) t
      rw [Int.toNat_natCast, g2, wrap1 (by omega), e1] at c1
      rw [e1] at g1
      refine c1 ⟨fun _ => ⟨by omega, fun _ => ⟨⟨by omega, by omega⟩, fun _ => ⟨g1, fun _ => ⟨by simp; omega, fun _ => ?_⟩⟩⟩⟩, fun h => by omega⟩
      exact ih (i + 1) (t ++ [44, 32] ++ x) e2 (by simp only [List.length_append, List.length_cons, List.length_nil]; omega) (by omega) (by rw [joinS_next]; exact hj)
  have start : askE l s = 0 → getB l s = false → ¬ low s = setCookie → RunD η Tryz.prog B 36 (HRCom.H0 ty o c l.length cap s) [7, 8, 9] (HRCom.S0 ty o c l.length cap s 1 (strAt (strs (get l s)) 0) fun _ => undef) (QF Tryz.prog 127 D) := by
    intro ha hg hsc
    have hne : 0 < (get l s).length := by
      rcases Nat.eq_zero_or_pos (get l s).length with h | h
      · unfold getB at hg; rw [List.length_eq_zero_iff.1 h] at hg; cases hg
      · exact h
    obtain ⟨_, g2⟩ := strs_get hne
    rw [g2]
    have hx := get_small hL _ (List.getElem_mem hne)
    exact loop ha hg hsc _ 1 _ rfl (by omega) hne (by rw [← List.drop_eq_getElem_cons hne, List.drop_zero])
  have lst : getB l s = false → ¬ (((get l s).length : Int) = 0) → (strs (get l s))[0]? = some (.string ⟨⟨strAt (strs (get l s)) 0⟩⟩) := by
    intro _ h
    have hne : 0 < (get l s).length := by omega
    obtain ⟨g1, g2⟩ := strs_get hne
    rw [g2]; exact g1
  have nil : getB l s = false → ((get l s).length : Int) = 0 → False := by
    intro hg h
    unfold getB at hg
    rw [List.length_eq_zero_iff.1 (by omega : (get l s).length = 0)] at hg
    cases hg
  refine ⟨rchk_K hη hmix k hL, fun hc => ⟨rtok_ok hη hmix s _, fun ht => err _ 2 rfl (by decide) (by unfold comE askE; simp [hc, ht]), fun ht => ⟨fun h => absurd hc h, fun _ => ⟨(rget_K hη hmix k hL s hs).conv (by kernel_rfl), fun hg => err _ 4 rfl (by decide) (by unfold comE askE; simp [hc, ht, hg]), fun hg => ⟨fun h => (nil hg h).elim, fun hne => ⟨rfold_ok hη hmix s (by omega) _, fun hsc => ⟨nn, fun _ => err _ 9 rfl (by decide) (by unfold comE askE; rw [show low s = setCookie from hsc]; simp [hc, ht, hg])⟩, fun hsc => ⟨⟨by omega, by omega⟩, fun _ => ⟨lst hg hne, fun _ => start (by unfold askE; simp [hc, ht]) hg hsc⟩⟩⟩⟩⟩⟩⟩, fun hc => ⟨fun _ => err _ _ rfl hc (by unfold comE askE; simp [hc]), fun h => absurd h hc⟩⟩
theorem rcom_ok (hη : OneCells η) (hmix : Tryz.prog.follows .mixedOrders = true) {h : AH} {v : Value} {l : List HF} (k : IsFlds h v l) (hL : Small l) (s : List UInt8) (hs : s.length ≤ 20000) :
    CallSpec η Tryz.prog B 36 [v, .string ⟨⟨s⟩⟩] h (KT.ret (.tuple ⟨[.string ⟨⟨comS l s⟩⟩, .int .i64 (comE l s)]⟩) h).sat := by
  rcases k with ⟨rfl, rfl⟩ | ⟨r, o, ty, c, own, cap, rfl, hr, F⟩
  · refine CallSpec.bare hη gs9 (fun _ _ => .cons (.slice0 _ _) (.cons (.string _) .nil)) (fun σ M => RV.tup2 (.string _) (.int _ _)) (fun σ M => RV.tup2 (.string _) (.int _ _)) ?_ h
    refine HRCom0.enter hη hmix (reg0 hη hmix) s ?_
    have k0 : IsFlds (heapN 126) (.slice none 0 0) [] := .inl ⟨rfl, rfl⟩
    have c0 : chk [] = 0 := by decide
    have g0 : getB [] s = true := rfl
    simp only [W.holds, true_and, and_true, true_implies, Bool.not_eq_true', Bool.not_eq_false']
    exact ⟨rchk_K hη hmix k0 hL, rtok_ok hη hmix s _, fun ht => by unfold comS comE askE; simp [ht, c0, g0], fun ht => ⟨(rget_K hη hmix k0 hL s hs).conv (by kernel_rfl), by unfold comS comE askE; simp [ht, c0, g0]⟩⟩
  · exact CallSpec.bareR (args := [.slice (some ⟨126, o, none⟩) l.length cap, .string ⟨⟨s⟩⟩]) hη gs9 (rows1 hr F.1) (.cons (.slice (σ := sigR fun _ => r) _ _ (by simp)) (.cons (.string _) .nil)) (fun σ M => RV.tup2 (.string _) (.int _ _)) (fun σ M => RV.tup2 (.string _) (.int _ _)) (rcom_can hη hmix ty cap F hL s hs fun h' hh => ⟨rfl, fun i x hx => by
      match i with
      | 0 => simp at hx; subst hx; exact hh
      | i + 1 => simp at hx⟩)
end TH
end Go.Ev

namespace Go.Ev
set_option linter.unusedVariables false
set_option linter.unusedSimpArgs false
open Go Go.RowKit Go.ChangeShapes Go.WideShapes
variable {P : Program}
/-- A slice of n cells of size s each, at its place; c: what the row holds. -/
def SliceArg (W : World) (v : Value) (n : Nat) (c : List Value) : Prop :=
  (v = .slice none 0 0 ∧ n = 0) ∨ ∃ blk o o' cap ty, v = .slice (some ⟨blk, o, none⟩) n cap ∧ isU cap = false ∧ o' ≤ o ∧ (n ≠ 0 → o' = o) ∧ RowAt W ⟨ty, c, blk, o'⟩
theorem has_lt' {w : World} {r : Reach} {base : Nat} {a : Addr} {e : TypeId} {n : Nat} (h : w.has P r base a e n) : a.spot = none ∧ ∃ (C : Array Value) (ty : TypeId) (lo hi : Nat), w.heap[a.block]? = some (.cells C ty (lo, hi)) := by
  obtain ⟨_, hs, row, cells, hsh, _⟩ := h
  refine ⟨hs, ?_⟩
  unfold World.shape? at hsh
  split at hsh
  · rename_i C ty fr hh
    obtain ⟨lo, hi⟩ := fr
    exact ⟨C, ty, lo, hi, hh⟩
  · cases hsh
theorem has_of_slice' {w : World} {r : Reach} {b0 : Nat} {t e : TypeId} {a : Addr} {n c : Nat} (hu : P.underlying t = some (.slice e)) (h : Value.okWide P w r b0 t (.slice (some a) n c)) : w.has P r b0 a e c := by
  simp only [Value.okWide, hu, Cell.okWide, Cell.ok] at h
  exact h.2.2
theorem cells_slice' (p : Option Addr) (n c : Nat) : (Value.slice p n c).cells.toList = [.slice p n c] := rfl
theorem notU {c : Nat} (h : c ≤ maxLen) : isU c = false := by
  have : maxLen < 9223372036854775808 := by decide
  unfold isU capB
  exact decide_eq_false (by omega)
/-- A row that begins at an element. -/
theorem row_at {W : World} {b o : Nat} {C : Array Value} {ty : TypeId} {lo hi : Nat} {c : List Value} (hb : W.heap[b]? = some (.cells C ty (lo, hi))) (hc : ∀ (i : Nat) (v : Value), c[i]? = some v → W.cell? ⟨b, o + i, none⟩ = some v) (hbare : c.all bareV = true) (hne : c ≠ []) : RowAt W ⟨ty, c, b, o⟩ := by
  have hall : ∀ (i : Nat) (v : Value), c[i]? = some v → C[o + i]? = some v := by
    intro i v hv
    have h := hc i v hv
    unfold World.cell? at h
    simp only [hb, Option.isSome_none, Bool.false_eq_true, if_false] at h
    exact h
  refine ⟨C, lo, hi, hb, ?_, fun i v hv => by simpa using hall i v hv, hbare⟩
  have hl : 0 < c.length := List.length_pos_iff.2 hne
  have := hall (c.length - 1) (c[c.length - 1]'(by omega)) (List.getElem?_eq_getElem (by omega))
  have := (Array.getElem?_eq_some_iff.1 this).1
  show o + c.length ≤ C.size
  omega
/-- Structs of two strings, as they lie. -/
def flds : List (List UInt8 × List UInt8) → List Value
  | [] => []
  | p :: l => .string ⟨⟨p.1⟩⟩ :: .string ⟨⟨p.2⟩⟩ :: flds l
theorem flds_bare : ∀ l, (flds l).all bareV = true
  | [] => rfl
  | p :: l => by unfold flds; simp only [List.all_cons, bareV, Bool.true_and]; exact flds_bare l
theorem flds_len : ∀ l, (flds l).length = 2 * l.length
  | [] => rfl
  | p :: l => by unfold flds; simp only [List.length_cons, flds_len l]; omega
theorem flds_at : ∀ {l : List (List UInt8 × List UInt8)} {i : Nat} (h : i < l.length), (flds l)[2 * i]? = some (.string ⟨⟨l[i].1⟩⟩) ∧ (flds l)[2 * i + 1]? = some (.string ⟨⟨l[i].2⟩⟩)
  | [], i, h => by simp at h
  | p :: l, 0, h => ⟨rfl, rfl⟩
  | p :: l, i + 1, h => by
    have := flds_at (l := l) (i := i) (by simpa using h)
    unfold flds
    rw [show 2 * (i + 1) = 2 * i + 1 + 1 by omega, List.getElem?_cons_succ, List.getElem?_cons_succ, List.getElem?_cons_succ, List.getElem?_cons_succ]
    exact this
theorem open_flds_arg {t e : TypeId} {f0 f1 : Field} (hu : P.underlying t = some (.slice e)) (he : P.underlying e = some (.struct #[f0, f1])) (h0 : P.underlying f0.type = some .string) (h1 : P.underlying f1.type = some .string)
    (o0 : f0.offset = 0) (o1 : f1.offset = 1) (c0 : P.cellsOf f0.type = 1) (c1 : P.cellsOf f1.type = 1) (hC : P.cellsOf e = 2)
    {H : Type} {enc : TypeId × Value → H} {W : World} {r : Reach} {b0 base : Nat} {sp : Nat → Bool} {held : Bool} {v : Value} {d : DataW H} {ps : List MemPlace}
    (hval : Value.okWide P W r b0 t v) (h : DataW.Trod enc P W base sp held t v d ps) : ∃ l, SliceArg W v l.length (flds l) := by
  obtain ⟨p, n, c, rfl⟩ := okWide_slice hu hval
  obtain ⟨fuel, hf⟩ := h
  rw [cells_slice'] at hf
  rcases Go.Deep.open_slice hu hf with ⟨hn, _⟩ | ⟨a, len, cap, m, k, D, Pl, hcs, hb, hl, hm, hmm, hx, hi⟩
  · simp at hn
    obtain ⟨rfl, rfl, rfl⟩ := hn
    exact ⟨[], .inl ⟨rfl, rfl⟩⟩
  · simp at hcs
    obtain ⟨rfl, rfl, rfl⟩ := hcs
    obtain ⟨hsp, C, ty, lo, hi', hblk⟩ := has_lt' (has_of_slice' hu hval)
    obtain ⟨b, o, spot⟩ := a
    simp only at hsp hblk
    subst hsp
    have hlm : n ≤ m := by rw [hmm]; split <;> omega
    have hel : ∀ i, i < n → ∃ f : List UInt8 × List UInt8, W.cell? ⟨b, o + i * 2, none⟩ = some (.string ⟨⟨f.1⟩⟩) ∧ W.cell? ⟨b, o + i * 2 + 1, none⟩ = some (.string ⟨⟨f.2⟩⟩) := by
      intro i him
      obtain ⟨cs, hc, ht⟩ := hi i (by omega)
      rw [hC] at hc
      obtain ⟨_, hcl, hat⟩ := World.cells?_some hc
      obtain ⟨xs, k', _, _, _, hxl, hg⟩ := DataW.trod_struct he ht
      have g0 := hg 0 f0 rfl
      have g1 := hg 1 f1 rfl
      rw [o0, c0] at g0
      rw [o1, c1] at g1
      match cs, hcl with
      | [u0, u1], _ =>
        have hx0 : xs[0]? = some (xs[0]'(by simp at hxl; omega)) := List.getElem?_eq_getElem _
        have hx1 : xs[1]? = some (xs[1]'(by simp at hxl; omega)) := List.getElem?_eq_getElem _
        rw [hx0] at g0
        rw [hx1] at g1
        obtain ⟨s, hs, _⟩ := DataW.trod_string h0 g0
        obtain ⟨q, hq, _⟩ := DataW.trod_string h1 g1
        simp at hs hq
        subst hs hq
        have e0 := hat 0 (by omega)
        have e1 := hat 1 (by omega)
        obtain ⟨⟨s⟩⟩ := s
        obtain ⟨⟨q⟩⟩ := q
        refine ⟨(s, q), ?_, ?_⟩
        · simpa [Go.WideShapes.add_plain] using e0
        · simpa [Go.WideShapes.add_plain, Nat.add_assoc] using e1
    obtain ⟨F, hF⟩ := Go.Deep.choose_lt hel
    refine ⟨(List.range n).map F, ?_⟩
    have hlen : ((List.range n).map F).length = n := by simp
    cases n with
    | zero => exact .inr ⟨b, o, 0, c, ty, rfl, notU hm, Nat.zero_le _, fun h => absurd rfl h, C, lo, hi', hblk, Nat.zero_le _, (fun i v hv => by simp [flds] at hv), rfl⟩
    | succ n =>
      rw [hlen]
      refine .inr ⟨b, o, o, c, ty, rfl, notU hm, Nat.le_refl _, fun _ => rfl, row_at hblk (fun i v hv => ?_) (flds_bare _) (by rw [List.range_succ_eq_map]; simp [flds])⟩
      have hil : i < 2 * (n + 1) := by
        have := (List.getElem?_eq_some_iff.1 hv).1
        rw [flds_len, hlen] at this; exact this
      obtain ⟨q1, q2⟩ := flds_at (l := (List.range (n + 1)).map F) (i := i / 2) (by rw [hlen]; omega)
      rw [List.getElem_map, List.getElem_range] at q1 q2
      obtain ⟨w1, w2⟩ := hF (i / 2) (by omega)
      rcases Nat.mod_two_eq_zero_or_one i with hm0 | hm1
      · rw [show 2 * (i / 2) = i by omega] at q1
        rw [q1] at hv; injection hv with hv; subst hv
        rw [show o + i = o + i / 2 * 2 by omega]; exact w1
      · rw [show 2 * (i / 2) + 1 = i by omega] at q2
        rw [q2] at hv; injection hv with hv; subst hv
        rw [show o + i = o + i / 2 * 2 + 1 by omega]; exact w2
end Go.Ev

namespace Go.Ev
set_option linter.unusedVariables false
set_option linter.unusedSimpArgs false
open Go Go.Proofs Go.RowKit
variable {η : Nat → Value} {B : Nat}
namespace TH
open TB TE
theorem far_K (hη : OneCells η) (hmix : Tryz.prog.follows .mixedOrders = true) {h : AH} {v : Value} {l : List HF} (k : IsFlds h v l) :
    CallSpec η Tryz.prog B 31 [v] h (KT.ret (.bool (farB l)) h).sat := by
  have := far_ok (B := B) hη hmix k
  simp only [farK, k.at_] at this
  exact this
set_option maxRecDepth 20000 in
theorem law_can (hη : OneCells η) (hmix : Tryz.prog.follows .mixedOrders = true) (haw : ∀ {B : Nat} (h : AH), CallSpec η Tryz.prog B 32 [] h fun v h' => v = .bool true ∧ h' = h) {l : List HF} {c : List Value} {o : Nat} (ty cap : Nat) (F : FldsAt c o l) (s : List UInt8) :
    CallSpec η Tryz.prog B 8 [.slice (some ⟨126, o, none⟩) l.length cap, .string ⟨⟨s⟩⟩] (heapT [(ty, c)]) fun v _ => v = .bool true := by
  have k := isF c o ty cap F
  have e : fieldsAt (HLaw.H0 ty o c l.length cap s) (.slice (some ⟨126, o, none⟩) l.length cap) = l := k.at_
  unfold HLaw.H0 at e
  refine HLaw.enter hη hmix (reg0 hη hmix) _ _ _ _ _ _ ?_
  simp only [W.holds, e, true_and, and_true, decide_eq_true_eq, decide_eq_false_iff_not, true_implies, beq_self_eq_true, reduceCtorEq, Bool.true_eq_false, false_implies]
  refine ⟨far_K hη hmix k, fun _ => haw _, fun hf => ⟨fun _ => haw _, fun h2 => ?_⟩⟩
  have hL := far_small hf
  have hs : s.length ≤ 200 := by omega
  exact ⟨can_ok hη hmix s (by omega) _, rcan_ok hη hmix s (by omega) _, com_ok hη hmix k hL s (by omega), rcom_ok hη hmix k hL s (by omega), chk_K hη hmix k hL, rchk_K hη hmix k hL, haw _⟩
theorem law_nil (hη : OneCells η) (hmix : Tryz.prog.follows .mixedOrders = true) (haw : ∀ {B : Nat} (h : AH), CallSpec η Tryz.prog B 32 [] h fun v h' => v = .bool true ∧ h' = h) (s : List UInt8) :
    CallSpec η Tryz.prog B 8 [.slice none 0 0, .string ⟨⟨s⟩⟩] (heapN 126) fun v _ => v = .bool true := by
  have k : IsFlds (heapN 126) (.slice none 0 0) [] := .inl ⟨rfl, rfl⟩
  have hL : Small [] := ⟨by simp, fun p hp => by cases hp⟩
  refine HLaw0.enter hη hmix (reg0 hη hmix) s ?_
  simp only [W.holds, true_and, and_true, decide_eq_true_eq, decide_eq_false_iff_not, true_implies, beq_self_eq_true, reduceCtorEq, Bool.true_eq_false, false_implies]
  refine ⟨far_K hη hmix k, fun _ => haw _, fun h2 => ?_⟩
  have hs : s.length ≤ 200 := by omega
  exact ⟨can_ok hη hmix s (by omega) _, rcan_ok hη hmix s (by omega) _, com_ok hη hmix k hL s (by omega), rcom_ok hη hmix k hL s (by omega), chk_K hη hmix k hL, rchk_K hη hmix k hL, haw _⟩
end TH
end Go.Ev

namespace Go.Ev
set_option linter.unusedVariables false
set_option linter.unusedSimpArgs false
open Go Go.Proofs
namespace TH
theorem fldsAt_of (l : List HF) : FldsAt (Go.Ev.flds l) 0 l := ⟨flds_bare l, fun i hi => by
  obtain ⟨h0, h1⟩ := flds_at hi
  rw [show 0 + i * 2 = 2 * i by omega]
  exact ⟨h0, h1⟩⟩
theorem checks_row (hmix : Tryz.prog.follows .mixedOrders = true) (haw : ∀ {B : Nat} (h : AH), CallSpec (fun _ => .nilIface) Tryz.prog B 32 [] h fun v h' => v = .bool true ∧ h' = h) {w0 : World} (l : List HF) (a : Value) (s : List UInt8) (ha : SliceArg w0 a l.length (Go.Ev.flds l)) :
    Calls Tryz.prog 8 #[a, .string ⟨⟨s⟩⟩] w0 fun e w' => e = .returned (.bool true) ∧ Go.RowKit.Below w0.heap.size w0 w' := by
  have hη : OneCells (fun _ => Value.nilIface) := fun _ => rfl
  rcases ha with ⟨rfl, _⟩ | ⟨blk, o, o', cap, ty, rfl, hcap, hle, ho, hr⟩
  · exact CallSpec.trueP (η := fun _ => .nilIface) (l := []) (args := [.slice none 0 0, .string ⟨⟨s⟩⟩]) TB.gs9 (fun x hx => by cases hx) (.cons (.slice0 _ _ rfl) (.cons (.string _) .nil)) (law_nil hη hmix haw s)
  · refine CallSpec.trueR (η := fun _ => .nilIface) (l := [⟨ty, Go.Ev.flds l, blk, o'⟩]) (args := [.slice (some ⟨126, o - o', none⟩) l.length cap, .string ⟨⟨s⟩⟩]) TB.gs9 (fun x hx => by rw [List.mem_singleton] at hx; subst hx; exact hr) (fun i j x y hi hj _ => ?_) (.cons ?_ (.cons (.string _) .nil)) ?_
    · have h1 := (List.getElem?_eq_some_iff.1 hi).1
      have h2 := (List.getElem?_eq_some_iff.1 hj).1
      simp only [List.length_singleton] at h1 h2; omega
    · have := VR.slice (η := fun _ => .nilIface) (ρ := envR Tryz.prog w0 [⟨ty, Go.Ev.flds l, blk, o'⟩]) (r := 126) (o := o - o') (b := blk) (d := o') (n := sizeB w0 blk - o') l.length cap rfl hcap
      rw [show o' + (o - o') = o by omega] at this
      exact this
    · cases hb : l with
      | nil => exact law_can hη hmix haw ty cap (l := []) (o := o - o') (c := []) ⟨rfl, fun i hi => by simp at hi⟩ s
      | cons x y =>
        rw [← hb, ho (by rw [hb]; simp), Nat.sub_self]
        exact law_can hη hmix haw ty cap (fldsAt_of l) s
end TH
end Go.Ev

