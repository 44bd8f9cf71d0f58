/- HReadsC, part 8: what the proof needs, in the order of its texts. -/
import Derived.Test.YtklnjollalaehaaDoorHReadsC7
namespace Go.Ev
set_option linter.unusedVariables false
set_option linter.unusedSimpArgs false
open Go Go.Proofs Go.RowKit
variable {η : Nat → Value} {B : Bd}
namespace TH
open TB TE
theorem rdO_at (a : List UInt8) : rdO (a ++ [10]) = lineOf a := by
  unfold rdO
  rw [if_pos List.getLast?_concat, List.dropLast_concat]
theorem rd_none {a : List UInt8} (h : rdB (a ++ [10]) = false) : lineOf a = none := by
  unfold rdB at h
  rw [rdO_at] at h
  cases hq : lineOf a with
  | none => rfl
  | some f => rw [hq] at h; cases h
theorem rd_some {a : List UInt8} (h : rdB (a ++ [10]) = true) : lineOf a = some (rdF (a ++ [10])) := by
  unfold rdB at h
  rw [rdO_at] at h
  unfold rdF
  rw [rdO_at]
  cases hq : lineOf a with
  | none => rw [hq] at h; cases h
  | some f => rfl
theorem line13 {a : List UInt8} : a ++ [10] = [13, 10] ↔ a = [13] := by
  constructor
  · intro h
    exact List.append_cancel_right (show a ++ [10] = [13] ++ [10] from h)
  · rintro rfl; rfl
theorem isU_sub {c k : Nat} (h : isU c = false) : isU (c - k) = false := by
  unfold isU at h ⊢
  simp only [decide_eq_false_iff_not] at h ⊢
  omega
theorem cut_at {c : List Value} {n0 cap k : Nat} {s r : List UInt8} (F : BytesAt c n0 s) (hs : s.drop k = r) (hcap : s.length ≤ cap) (hk : k ≤ s.length) : BytesAt c (n0 + cutN cap k 1) r := by
  unfold cutN
  by_cases h : cap = k
  · have : r = [] := by rw [← hs]; exact List.drop_of_length_le (by omega)
    subst this
    exact ⟨F.1, fun i hi => by simp at hi⟩
  · rw [if_neg h, Nat.mul_one, ← hs]
    exact F.drop k
set_option maxRecDepth 20000 in
theorem par_can (hη : OneCells η) (hmix : Tryd.prog.follows .mixedOrders = true) {s : List UInt8} {c : List Value} {o : Nat} (ty cap : Nat) (F : BytesAt c o s) (hU : isU cap = false) (hcap : s.length ≤ cap) (hs : s.length ≤ 20000) {D : Value → AH → Prop}
    (derr : (parse s).2.2 ≠ 0 → D (.tuple ⟨[.slice none 0 0, .int .i64 0, .int .i64 (parse s).2.2]⟩) (heapT [(ty, c)]))
    (dnone : (parse s).2.2 = 0 → (parse s).1 = [] → D (.tuple ⟨[.slice none 0 0, .int .i64 (parse s).2.1, .int .i64 0]⟩) (heapT [(ty, c)]))
    (dsome : (parse s).2.2 = 0 → (parse s).1 ≠ [] → D (.tuple ⟨[.slice (some ⟨127, 0, none⟩) (parse s).1.length (capU 2), .int .i64 (parse s).2.1, .int .i64 0]⟩) (withRow (heapT [(ty, c)]) 32 (Go.Ev.flds (parse s).1) false)) :
    CallSpec η Tryd.prog B 5 [.slice (some ⟨126, o, none⟩) s.length cap] (heapT [(ty, c)]) D := by
  have e0 : HPar.H0 ty o c s.length cap = heapT [(ty, c)] := rfl
  rw [← e0] at derr dnone dsome ⊢
  have nn := nn_bare F.1
  have dE : ∀ E : Int, parse s = ([], 0, E) → E ≠ 0 → D (.tuple ⟨[.slice none 0 0, .int .i64 0, .int .i64 E]⟩) (HPar.H0 ty o c s.length cap) := by
    intro E hp hE
    rw [hp] at derr
    exact derr hE
  have cut0 := HPar.cut0 (η := η) (B := B) (D := D) hη hmix (reg0 hη hmix) ty o c s.length cap
  have cut1 := fun l0 l1 n0 n1 n2 n3 => HPar.cut1 (η := η) (B := B) (D := D) hη hmix (reg0 hη hmix) ty o c s.length cap l0 l1 n0 n1 n2 n3
  refine HPar.enter hη hmix (reg0 hη hmix) _ _ _ _ _ ?_
  have h13 : (#[(13 : UInt8), 10].toList) = [13, 10] := rfl
  have u10 : UInt8.ofNat (10 : Int).toNat = 10 := rfl
  have u10' : UInt8.ofNat 10 = 10 := rfl
  simp only [W.holds, true_and, and_true, decide_eq_true_eq, decide_eq_false_iff_not, true_implies, bne_iff_ne, ne_eq, bne_eq_false_iff_eq, beq_iff_eq, beq_eq_false_iff_ne, Bool.not_eq_true', Bool.not_eq_false', Nat.le_refl, Int.le_refl, Nat.mul_one, Nat.sub_zero, Nat.add_zero, Int.toNat_natCast, h13, u10', capP_no hU, capN_no hU, cutN0] at cut0 cut1 ⊢
  have fin3 : 8192 < s.length → finE s = 3 := fun h => if_pos h
  have fin10 : ¬ 8192 < s.length → finE s = 10 := fun h => if_neg h
  refine ⟨nn, fun _ => ?_⟩
  have loop1 : ∀ (m : Nat) (rem : List UInt8) (frm n0 n2 : Nat) (L : List HF), rem.length ≤ m → BytesAt c n0 rem → isU n2 = false → rem.length ≤ n2 → frm + rem.length = s.length → L ≠ [] → L.length ≤ 100 → parse s = par (finE s) [] rem frm L →
      RunD η Tryd.prog B 5 (HPar.H0 ty o c s.length cap) [0, 1] (HPar.S1 ty o c s.length cap [.int .i64 (frm : Int)] (Go.Ev.flds L) n0 rem.length n2 L.length fun _ => undef) (QF Tryd.prog 127 D) := by
    intro m
    induction m with
    | zero =>
      intro rem frm n0 n2 L hm G hU2 hcap2 hfr hne hL hp
      have h0 : rem = [] := List.length_eq_zero_iff.1 (by omega)
      subst h0
      rw [par] at hp
      have c1 := cut1 [.int .i64 (frm : Int)] (Go.Ev.flds L) n0 ([] : List UInt8).length n2 L.length
      exact c1 ⟨fun h => by simp at h, fun _ => ⟨fun h8 => ⟨Nat.le_refl 1, fun _ => ⟨nn, fun _ => dE 3 (by rw [hp, fin3 (by omega)]) (by decide)⟩⟩, fun h8 => ⟨Nat.le_refl 1, fun _ => ⟨nn, fun _ => dE 10 (by rw [hp, fin10 (by omega)]) (by decide)⟩⟩⟩⟩
    | succ m ih =>
      intro rem frm n0 n2 L hm G hU2 hcap2 hfr hne hL hp
      have c1 := cut1 [.int .i64 (frm : Int)] (Go.Ev.flds L) n0 rem.length n2 L.length
      have hi0 : intAt [Value.int .i64 (frm : Int)] 0 = (frm : Int) := rfl
      simp only [capP_no hU2, capN_no hU2, hi0] at c1
      by_cases h0 : rem = []
      · subst h0
        rw [par] at hp
        exact c1 ⟨fun h => by simp at h, fun _ => ⟨fun h8 => ⟨Nat.le_refl 1, fun _ => ⟨nn, fun _ => dE 3 (by rw [hp, fin3 (by omega)]) (by decide)⟩⟩, fun h8 => ⟨Nat.le_refl 1, fun _ => ⟨nn, fun _ => dE 10 (by rw [hp, fin10 (by omega)]) (by decide)⟩⟩⟩⟩
      · have hpos : 0 < rem.length := List.length_pos_iff.2 h0
        have hbi : bytesIn c n0 rem.length = rem := by
          have := (by_in G (a := 0) (ct := rem) (r := []) hpos (by simp)).1
          rw [Nat.add_zero] at this; exact this
        rw [hbi] at c1
        refine c1 ⟨fun _ => ⟨ixb_ok rfl G hU2, ?_⟩, fun h => by omega⟩
        rcases ix_gen 10 rem with ⟨h1, h2⟩ | ⟨a, r, rfl, h2, h1⟩
        · rw [h1]
          refine ⟨fun h => by omega, fun _ => ?_⟩
          have hp' : parse s = ([], 0, finE s) := by
            rw [hp, ← List.append_nil rem, par_app _ _ _ _ _ _ h2, par]
          obtain ⟨q, x, hq⟩ := snoc_ex h0
          have hx : x ≠ 10 := h2 x (by rw [hq]; simp)
          have hw : IntKind.i64.wrap ((rem.length : Int) - 1) = ((rem.length - 1 : Nat) : Int) := by rw [wrapL' (by omega) (by omega)]; omega
          have hdx : rem.drop (rem.length - 1) = x :: [] := by
            have : rem.length - 1 = q.length := by rw [hq]; simp
            rw [this, hq, List.drop_left]
          obtain ⟨_, g0, g1, _⟩ := by_get G hdx
          rw [hw]
          simp only [Int.toNat_natCast, g1]
          refine ⟨⟨by omega, by omega, by omega⟩, fun _ => ⟨⟨by omega, by omega⟩, fun _ => ⟨g0, fun _ => ⟨fun _ => ⟨fun h8 => ⟨Nat.le_refl 1, fun _ => ⟨nn, fun _ => dE 3 (by rw [hp', fin3 (by omega)]) (by decide)⟩⟩, fun h8 => ⟨Nat.le_refl 1, fun _ => ⟨nn, fun _ => dE 10 (by rw [hp', fin10 (by omega)]) (by decide)⟩⟩⟩, fun he => absurd (u8_of (n := 10) (by decide) he) hx⟩⟩⟩⟩
        · have hln : (a ++ 10 :: r).length = a.length + 1 + r.length := by simp only [List.length_append, List.length_cons]; omega
          rw [hln] at hm hcap2 hfr hpos
          have hw1 : IntKind.i64.wrap ((a.length : Int) + 1) = ((a.length + 1 : Nat) : Int) := wrap1 (by omega)
          have hmm : IntKind.i64.wrap (((a.length + 1 : Nat) : Int) - 1) = (a.length : Int) := by rw [wrapL' (by omega) (by omega)]; omega
          have hu : IntKind.i64.wrap ((frm : Int) + ((a.length + 1 : Nat) : Int)) = ((frm + (a.length + 1) : Nat) : Int) := by rw [wrapL' (by omega) (by omega)]; omega
          obtain ⟨q1, q2, q3⟩ := by_in G (a := 0) (ct := a ++ [10]) (r := r) (by rw [hln]; omega) (by simp)
          have hl1 : (a ++ [(10 : UInt8)]).length = a.length + 1 := by simp
          rw [Nat.add_zero, hl1] at q1 q2
          rw [Nat.add_zero, hl1] at q3
          have hda : (a ++ 10 :: r).drop a.length = 10 :: r := List.drop_left
          obtain ⟨_, g0, g1, hdr⟩ := by_get G hda
          have g1' : intAt c (n0 + a.length) = 10 := g1
          simp only [h1, hw1, Int.toNat_natCast, Nat.add_zero, hmm, hu, g1', q1, q3, hln, and_true, true_and, not_true_eq_false, false_implies, true_implies]
          rw [par_app _ _ _ _ _ _ h2, List.nil_append, par, if_pos rfl] at hp
          have hlr : a.length + 1 + r.length - (a.length + 1) = r.length := by omega
          have nI : ∀ z : Int, NoNames [Value.int .i64 z] := fun z => nn_bare rfl
          rw [hlr]
          refine ⟨fun _ => ⟨⟨by omega, by omega⟩, fun _ => ⟨⟨by omega, by omega, by omega⟩, fun _ => ⟨⟨by omega, by omega, by omega⟩, fun _ => ⟨⟨by omega, by omega⟩, fun _ => ⟨g0, fun _ => ⟨rfl, fun _ => ⟨Nat.le_refl 1, fun _ => ⟨fun h8 => ⟨nn, fun _ => dE 3 (by rw [hp, if_pos (by omega)]) (by decide)⟩, fun h8 => ⟨q2, fun _ => ⟨fun he => ?_, fun he => ?_⟩⟩⟩⟩⟩⟩⟩⟩⟩⟩, fun h => by omega⟩
          · have ha : a = [13] := line13.1 he
            rw [if_neg (by omega), if_pos ha] at hp
            have e1 : (parse s).1 = L := by rw [hp]
            have e2 : (parse s).2.1 = frm + a.length + 1 := congrArg (fun z => z.2.1) hp
            have e3 : (parse s).2.2 = 0 := by rw [hp]
            have := dsome e3 (by rw [e1]; exact hne)
            rw [e1, e2] at this
            exact ⟨⟨nn, flds_nnL _⟩, fun _ => Eq.mp (by kernel_rfl) this⟩
          · have ha : ¬ a = [13] := fun e => he (line13.2 e)
            rw [if_neg (by omega), if_neg ha] at hp
            refine ⟨q2, fun _ => ⟨rdl_ok hη hmix _ (by rw [List.length_append, List.length_singleton]; omega) _, fun hb => ⟨nn, fun _ => dE 6 (by rw [hp, rd_none hb]) (by decide)⟩, fun hb => ?_⟩⟩
            rw [rd_some hb] at hp
            simp only at hp
            refine ⟨fun h3 => ⟨nn, fun _ => dE 3 (by rw [hp, if_pos (.inl (by omega))]) (by decide)⟩, fun h3 => ⟨fun h100 => ⟨nn, fun _ => dE 3 (by rw [hp, if_pos (.inr (by omega))]) (by decide)⟩, fun h100 => ⟨⟨by rw [flds_len]; omega, by omega⟩, fun _ => ⟨⟨nn, nI _, by rw [flds_snocL]; exact flds_nnL _⟩, fun _ => ?_⟩⟩⟩⟩
            rw [if_neg (by rintro (h | h) <;> omega)] at hp
            have := ih r (frm + (a.length + 1)) (n0 + cutN n2 (a.length + 1) 1) (n2 - (a.length + 1)) (L ++ [rdF (a ++ [10])]) (by omega) (cut_at G (by rw [hdr]) (by rw [hln]; omega) (by rw [hln]; omega)) (isU_sub hU2) (by omega) (by omega) (by simp) (by rw [List.length_append, List.length_singleton]; omega) hp
            rw [flds_snocL]
            rw [show (L ++ [rdF (a ++ [10])]).length = L.length + 1 from by simp] at this
            exact this
  have hp : parse s = par (finE s) [] s 0 [] := rfl
  by_cases h0 : s = []
  · have hl0 : s.length = 0 := by rw [h0]; rfl
    have hp' : parse s = ([], 0, finE s) := by rw [hp]; rw [h0]; rfl
    exact cut0 ⟨fun h => by omega, fun _ => ⟨fun h8 => ⟨nn, fun _ => dE 3 (by rw [hp', fin3 (by omega)]) (by decide)⟩, fun h8 => ⟨nn, fun _ => dE 10 (by rw [hp', fin10 (by omega)]) (by decide)⟩⟩⟩
  · have hpos : 0 < s.length := List.length_pos_iff.2 h0
    have hbi : bytesIn c o s.length = s := by
      have := (by_in F (a := 0) (ct := s) (r := []) hpos (by simp)).1
      rw [Nat.add_zero] at this; exact this
    rw [hbi] at cut0
    refine cut0 ⟨fun _ => ⟨ixb_ok rfl F hU, ?_⟩, fun h => by omega⟩
    rcases ix_gen 10 s with ⟨h1, h2⟩ | ⟨a, r, hsr, h2, h1⟩
    · rw [h1]
      refine ⟨fun h => by omega, fun _ => ?_⟩
      have hp' : parse s = ([], 0, finE s) := by
        have := par_app (finE s) s [] [] 0 [] h2
        rw [List.append_nil] at this
        rw [hp, this, par]
      obtain ⟨q, x, hq⟩ := snoc_ex h0
      have hx : x ≠ 10 := h2 x (by rw [hq]; simp)
      have hw : IntKind.i64.wrap ((s.length : Int) - 1) = ((s.length - 1 : Nat) : Int) := by rw [wrapL' (by omega) (by omega)]; omega
      have hdx : s.drop (s.length - 1) = x :: [] := by
        have : s.length - 1 = q.length := by rw [hq]; simp
        rw [this, hq, List.drop_left]
      obtain ⟨_, g0, g1, _⟩ := by_get F hdx
      rw [hw]
      simp only [Int.toNat_natCast, g1]
      refine ⟨⟨by omega, by omega, by omega⟩, fun _ => ⟨⟨by omega, by omega⟩, fun _ => ⟨g0, fun _ => ⟨fun _ => ⟨fun h8 => ⟨nn, fun _ => dE 3 (by rw [hp', fin3 (by omega)]) (by decide)⟩, fun h8 => ⟨nn, fun _ => dE 10 (by rw [hp', fin10 (by omega)]) (by decide)⟩⟩, fun he => absurd (u8_of (n := 10) (by decide) he) hx⟩⟩⟩⟩
    · have hln : s.length = a.length + 1 + r.length := by rw [hsr]; simp only [List.length_append, List.length_cons]; omega
      have hw1 : IntKind.i64.wrap ((a.length : Int) + 1) = ((a.length + 1 : Nat) : Int) := wrap1 (by omega)
      have hmm : IntKind.i64.wrap (((a.length + 1 : Nat) : Int) - 1) = (a.length : Int) := by rw [wrapL' (by omega) (by omega)]; omega
      have hu : IntKind.i64.wrap (0 + ((a.length + 1 : Nat) : Int)) = ((a.length + 1 : Nat) : Int) := by rw [wrapL' (by omega) (by omega)]; omega
      obtain ⟨q1, q2, q3⟩ := by_in F (a := 0) (ct := a ++ [10]) (r := r) hpos (by rw [List.drop_zero, hsr]; simp)
      have hl1 : (a ++ [(10 : UInt8)]).length = a.length + 1 := by simp
      rw [Nat.add_zero, hl1] at q1 q2
      rw [Nat.add_zero, hl1] at q3
      have hda : s.drop a.length = 10 :: r := by rw [hsr, List.drop_left]
      obtain ⟨_, g0, g1, hdr⟩ := by_get F hda
      have g1' : intAt c (o + a.length) = 10 := g1
      simp only [h1, hw1, Int.toNat_natCast, Nat.add_zero, hmm, hu, g1', q1, q3, and_true, true_and, not_true_eq_false, false_implies, true_implies]
      have hp2 : parse s = par (finE s) [] (a ++ 10 :: r) 0 [] := by rw [hp]; congr 1
      rw [par_app _ _ _ _ _ _ h2, List.nil_append, par, if_pos rfl, Nat.zero_add] at hp2
      refine ⟨fun _ => ⟨⟨by omega, by omega⟩, fun _ => ⟨⟨by omega, by omega, by omega⟩, fun _ => ⟨⟨by omega, by omega, by omega⟩, fun _ => ⟨⟨by omega, by omega⟩, fun _ => ⟨g0, fun _ => ⟨fun h8 => ⟨nn, fun _ => dE 3 (by rw [hp2, if_pos (by omega)]) (by decide)⟩, fun h8 => ⟨q2, fun _ => ⟨fun he => ?_, fun he => ?_⟩⟩⟩⟩⟩⟩⟩⟩, fun h => by omega⟩
      · have ha : a = [13] := line13.1 he
        rw [if_neg (by omega), if_pos ha] at hp2
        have e1 : (parse s).1 = [] := by rw [hp2]
        have e2 : (parse s).2.1 = a.length + 1 := congrArg (fun z => z.2.1) hp2
        have e3 : (parse s).2.2 = 0 := by rw [hp2]
        have := dnone e3 e1
        rw [e2] at this
        exact ⟨nn, fun _ => this⟩
      · have ha : ¬ a = [13] := fun e => he (line13.2 e)
        rw [if_neg (by omega), if_neg ha] at hp2
        refine ⟨q2, fun _ => ⟨rdl_ok hη hmix _ (by rw [List.length_append, List.length_singleton]; omega) _, fun hb => ⟨nn, fun _ => dE 6 (by rw [hp2, rd_none hb]) (by decide)⟩, fun hb => ?_⟩⟩
        rw [rd_some hb] at hp2
        simp only at hp2
        refine ⟨fun h3 => ⟨nn, fun _ => dE 3 (by rw [hp2, if_pos (.inl (by omega))]) (by decide)⟩, fun h3 => ⟨nn, fun _ => ?_⟩⟩
        rw [if_neg (by rintro (h | h); omega; cases h)] at hp2
        have hlr : s.length - (a.length + 1) = r.length := by omega
        rw [hlr]
        exact loop1 r.length r (a.length + 1) (o + cutN cap (a.length + 1) 1) (cap - (a.length + 1)) [rdF (a ++ [10])] (Nat.le_refl _) (cut_at F hdr hcap (by omega)) (isU_sub hU) (by omega) (by omega) (by simp) (by simp) hp2
theorem ppar_ok (hη : OneCells η) (hmix : Tryd.prog.follows .mixedOrders = true) {h : AH} {v : Value} {s : List UInt8} (k : IsBytes h v s) (hs : s.length ≤ 20000) :
    CallSpec η Tryd.prog B 5 [v] h (paT s h).sat := by
  refine listedP hη k ?_ fun F hU hle d0 d1 d2 => par_can hη hmix _ _ F hU hle hs d0 d1 d2
  refine HPar0.enter hη hmix (reg0 hη hmix) 0 ?_
  simp only [W.holds, true_and, and_true, true_implies]
  refine HPar0.cut0 hη hmix (reg0 hη hmix) 0 ?_
  simp only [W.holds, true_and, and_true, true_implies]
  exact rfl
end TH
end Go.Ev

namespace Go.Ev
set_option linter.unusedVariables false
set_option linter.unusedSimpArgs false
open Go Go.Proofs Go.RowKit
variable {η : Nat → Value} {B : Bd}
namespace TH
open TB TE
theorem by_all {c : List Value} {o : Nat} {s : List UInt8} (F : BytesAt c o s) : bytesIn c o s.length = s := by
  cases s with
  | nil => unfold bytesIn; simp
  | cons x s =>
    have := (by_in F (a := 0) (ct := x :: s) (r := []) (by simp) (by simp)).1
    rw [Nat.add_zero] at this
    exact this
theorem paT_E {s : List UInt8} {h h' : AH} {v : Value} (k : (paT s h).sat v h') (he : (parse s).2.2 ≠ 0) : (KT.ret (.tuple ⟨[.slice none 0 0, .int .i64 0, .int .i64 (parse s).2.2]⟩) h).sat v h' := by
  rcases k with ⟨_, k⟩ | ⟨e, _⟩
  · exact k
  · unfold paB at e; simp at e; exact absurd e he
theorem paT_Z {s : List UInt8} {h h' : AH} {v : Value} (k : (paT s h).sat v h') (he : (parse s).2.2 = 0) (hn : (parse s).1 = []) : (KT.ret (.tuple ⟨[.slice none 0 0, .int .i64 (parse s).2.1, .int .i64 0]⟩) h).sat v h' := by
  rcases k with ⟨e, _⟩ | ⟨_, ⟨_, k⟩ | ⟨e, _⟩⟩
  · unfold paB at e; simp at e; exact absurd he e
  · exact k
  · unfold paN at e; rw [hn] at e; cases e
theorem paT_R {s : List UInt8} {h h' : AH} {v : Value} (k : (paT s h).sat v h') (he : (parse s).2.2 = 0) (hn : (parse s).1 ≠ []) : (KT.ret (.tuple ⟨[.slice (some ⟨h.next, 0, none⟩) (parse s).1.length (capU 2), .int .i64 (parse s).2.1, .int .i64 0]⟩) (withRow h 32 (Go.Ev.flds (parse s).1) false)).sat v h' := by
  rcases k with ⟨e, _⟩ | ⟨_, ⟨e, _⟩ | ⟨_, k⟩⟩
  · unfold paB at e; simp at e; exact absurd he e
  · unfold paN at e; rw [List.isEmpty_iff] at e; exact absurd e hn
  · exact k
theorem fieldsAt_litL {h : AH} {r n cap ty own : Nat} {p : Bool} {M : List HF} (hr : h.objs.get r = some (.cells ty (Go.Ev.flds M) p own)) (hn : n = M.length) : fieldsAt h (.slice (some ⟨r, 0, none⟩) n cap) = M := by
  subst hn
  have F : FldsAt (Go.Ev.flds M) 0 M := ⟨flds_bare M, fun i hi => by
    obtain ⟨h0, h1⟩ := flds_at hi
    rw [show 0 + i * 2 = 2 * i by omega]
    exact ⟨h0, h1⟩⟩
  unfold fieldsAt
  simp only [hr]
  refine List.ext_getElem (by simp) fun i h1 h2 => ?_
  obtain ⟨_, g1, g2⟩ := fl_get F h2
  rw [List.getElem_map, List.getElem_range]
  rw [show 0 + 2 * i = 0 + i * 2 by omega, g1, g2]
theorem isRowL {h : AH} {r n cap ty own : Nat} {M : List HF} (hr : h.objs.get r = some (.cells ty (Go.Ev.flds M) false own)) (hn : n = M.length) : IsFlds h (.slice (some ⟨r, 0, none⟩) n cap) M := by
  subst hn
  refine .inr ⟨r, 0, ty, _, own, cap, rfl, hr, flds_bare M, fun i hi => ?_⟩
  obtain ⟨h0, h1⟩ := flds_at hi
  rw [show 0 + i * 2 = 2 * i by omega]
  exact ⟨h0, h1⟩
theorem equ_nil (hη : OneCells η) (hmix : Tryd.prog.follows .mixedOrders = true) {h : AH} : CallSpec η Tryd.prog B 6 [.slice none 0 0, .slice none 0 0] h (KT.ret (.bool true) h).sat :=
  equ_ok hη hmix (X := []) (Y := []) (by simp) (.inl ⟨rfl, rfl⟩) (.inl ⟨rfl, rfl⟩) (fun _ _ _ _ e => by cases e)
theorem equ_rows (hη : OneCells η) (hmix : Tryd.prog.follows .mixedOrders = true) {h : AH} {r1 r2 t1 t2 o1 o2 cap cap' : Nat} {M : List HF} (h1 : h.objs.get r1 = some (.cells t1 (Go.Ev.flds M) false o1)) (h2 : h.objs.get r2 = some (.cells t2 (Go.Ev.flds M) false o2)) (hne : r1 ≠ r2) (hM : M.length ≤ 100000) :
    CallSpec η Tryd.prog B 6 [.slice (some ⟨r1, 0, none⟩) M.length cap, .slice (some ⟨r2, 0, none⟩) M.length cap'] h (KT.ret (.bool true) h).sat := by
  have := equ_ok (B := B) hη hmix hM (isRowL (cap := cap) h1 rfl) (isRowL (cap := cap') h2 rfl) (fun x y n c e n' c' e' => by cases e; cases e'; exact hne)
  rw [beq_self_eq_true] at this
  exact this
theorem ppar_R (hη : OneCells η) (hmix : Tryd.prog.follows .mixedOrders = true) {h : AH} {v : Value} {s : List UInt8} (k : IsBytes h v s) (hs : s.length ≤ 20000) (he : (parse s).2.2 = 0) (hn : (parse s).1 ≠ []) :
    CallSpec η Tryd.prog B 5 [v] h (KT.ret (.tuple ⟨[.slice (some ⟨h.next, 0, none⟩) (parse s).1.length (capU 2), .int .i64 (parse s).2.1, .int .i64 0]⟩) (withRow h 32 (Go.Ev.flds (parse s).1) false)).sat :=
  (ppar_ok hη hmix k hs).mono fun _ _ q => paT_R q he hn
end TH
end Go.Ev

namespace Go.Ev
set_option linter.unusedVariables false
set_option linter.unusedSimpArgs false
open Go Go.Proofs
namespace TH
theorem fldsAt_of (l : List HF) : FldsAt (Go.Ev.flds l) 0 l := ⟨flds_bare l, fun i hi => by
  obtain ⟨h0, h1⟩ := flds_at hi
  rw [show 0 + i * 2 = 2 * i by omega]
  exact ⟨h0, h1⟩⟩
end TH
end Go.Ev

namespace Go.Ev
set_option linter.unusedVariables false
set_option linter.unusedSimpArgs false
open Go Go.Proofs Go.RowKit
section
variable {P : Program}
theorem cap_of_slice {w : World} {r : Reach} {b0 : Nat} {t e : TypeId} {p : Option Addr} {n c : Nat} (hu : P.underlying t = some (.slice e)) (h : Value.okWide P w r b0 t (.slice p n c)) : n ≤ c := by
  cases p with
  | none =>
    simp only [Value.okWide, hu, Cell.okWide, Cell.ok] at h
    cases n with
    | zero => exact Nat.zero_le _
    | succ n => simp at h
  | some a =>
    simp only [Value.okWide, hu, Cell.okWide, Cell.ok] at h
    exact h.1
end
namespace TH
theorem bytesAt_of (s : List UInt8) : BytesAt (bytesV s) 0 s := ⟨by
  rw [List.all_eq_true]; intro v hv
  unfold bytesV at hv
  rw [List.mem_map] at hv
  obtain ⟨x, _, rfl⟩ := hv; rfl, fun i hi => by
  rw [Nat.zero_add]
  unfold bytesV
  rw [List.getElem?_map, List.getElem?_eq_getElem hi]; rfl⟩
theorem envR_0 {P : Program} {W : World} {l : List Row} {x : Row} (h : l[0]? = some x) : envR P W l 126 = some (x.b, x.o, sizeB W x.b - x.o) := by
  unfold envR
  rw [if_pos (by omega), Nat.sub_self, h]; rfl
end TH
end Go.Ev

namespace Go.Ev
set_option linter.unusedVariables false
set_option linter.unusedSimpArgs false
open Go Go.Proofs
variable {η : Nat → Value} {B : Bd}
namespace TH
theorem isBV {h : AH} {r ty : Nat} {s : List UInt8} {cs : List Value} {n own : Nat} (hh : h.objs.get r = some (.cells ty cs false own)) (hn : n = s.length) (F : BytesAt cs 0 s) : IsBytes h (.slice (some ⟨r, 0, none⟩) n (capU 1)) s := by
  subst hn
  exact .inr ⟨r, 0, ty, cs, own, capU 1, rfl, hh, F, .inr rfl⟩
theorem ppR (hη : OneCells η) (hmix : Tryd.prog.follows .mixedOrders = true) {h : AH} {v : Value} {b : List UInt8} {L : List HF} {N : Nat} (k : IsBytes h v b) (hs : b.length ≤ 20000) (hp : parse b = (L, N, 0)) (hn : L ≠ []) :
    CallSpec η Tryd.prog B 5 [v] h (KT.ret (.tuple ⟨[.slice (some ⟨h.next, 0, none⟩) L.length (capU 2), .int .i64 N, .int .i64 0]⟩) (withRow h 32 (Go.Ev.flds L) false)).sat := by
  have := ppar_R (B := B) hη hmix k hs (by rw [hp]) (by rw [hp]; exact hn)
  rw [hp] at this
  exact this
theorem ppZ (hη : OneCells η) (hmix : Tryd.prog.follows .mixedOrders = true) {h : AH} {v : Value} {b : List UInt8} {N : Nat} (k : IsBytes h v b) (hs : b.length ≤ 20000) (hp : parse b = ([], N, 0)) :
    CallSpec η Tryd.prog B 5 [v] h (KT.ret (.tuple ⟨[.slice none 0 0, .int .i64 N, .int .i64 0]⟩) h).sat := by
  have : CallSpec η Tryd.prog B 5 [v] h (KT.ret (.tuple ⟨[.slice none 0 0, .int .i64 (parse b).2.1, .int .i64 0]⟩) h).sat := (ppar_ok hη hmix k hs).mono fun _ _ q => paT_Z q (by rw [hp]) (by rw [hp])
  rw [hp] at this
  exact this
end TH
end Go.Ev

namespace Go.Ev
set_option linter.unusedVariables false
set_option linter.unusedSimpArgs false
open Go Go.Proofs Go.RowKit
variable {η : Nat → Value} {B : Bd}
namespace TH
open TB TE
theorem lineOf_len {s : List UInt8} {f : HF} (h : lineOf s = some f) : f.1.length ≤ s.length := by
  have key : ∀ t : List UInt8, fieldOf t = some f → f.1.length ≤ t.length := by
    intro t ht
    unfold fieldOf at ht
    split at ht
    · cases ht
    · split at ht
      · injection ht with ht; subst ht
        exact (List.takeWhile_sublist _).length_le
      · cases ht
  unfold lineOf at h
  split at h
  · have := key _ h; rw [List.length_dropLast] at this; omega
  · cases h
theorem par_len {fin : Int} {M : Nat} : ∀ (r : List UInt8) {cur : List UInt8} {u : Nat} {l : List HF}, (∀ p ∈ l, p.1.length ≤ M) → cur.length + r.length ≤ M → ∀ p ∈ (par fin cur r u l).1, p.1.length ≤ M
  | [], cur, u, l, _, _ => by intro p hp; cases hp
  | c :: r, cur, u, l, h, hM => by
    rw [List.length_cons] at hM
    rw [par]
    by_cases hc : c = 10
    · rw [if_pos hc]
      by_cases h1 : 8192 < u + cur.length + 1
      · rw [if_pos h1]; intro p hp; cases hp
      · rw [if_neg h1]
        by_cases h2 : cur = [13]
        · rw [if_pos h2]; exact h
        · rw [if_neg h2]
          cases hq : lineOf cur with
          | none => intro p hp; cases hp
          | some f =>
            simp only
            by_cases h3 : 2000 < f.2.length ∨ l.length = 100
            · rw [if_pos h3]; intro p hp; cases hp
            · rw [if_neg h3]
              refine par_len r (fun p hp => ?_) (by rw [List.length_nil]; omega)
              rcases List.mem_append.1 hp with hp | hp
              · exact h p hp
              · rw [List.mem_singleton] at hp; subst hp; have := lineOf_len hq; omega
    · rw [if_neg hc]
      exact par_len r h (by rw [List.length_append, List.length_singleton]; omega)
theorem ckf_len {n v : List UInt8} (h : ckf n v = 0) : v.length ≤ 2000 := (ckf0 h).2
theorem parse_small {s : List UInt8} (hs : s.length ≤ 20000) : Small (parse s).1 :=
  ⟨Nat.le_trans parse_le (by decide), fun p hp => ⟨par_len s (M := 20000) (fun p hp => by cases hp) (by rw [List.length_nil]; omega) p hp, Nat.le_trans (ckf_len (parse_ok s p hp)) (by decide)⟩⟩
theorem lns_succ {L : List HF} {i : Nat} (h : i < L.length) : (lns (L.take (i + 1))).length = (lns (L.take i)).length + L[i].1.length + L[i].2.length + 4 := by
  rw [List.take_add_one, List.getElem?_eq_getElem h, Option.toList_some, lns_app, List.length_append]
  show _ + (lnOf L[i] ++ []).length = _
  rw [List.append_nil, lnOf_len]
  omega
theorem print_E (hη : OneCells η) (hmix : Tryd.prog.follows .mixedOrders = true) {h : AH} {v : Value} {l : List HF} {e : Int} {t : List UInt8} (k : IsFlds h v l) (hL : Small l) (he : chk l = e) (ht : prS l = t) :
    CallSpec η Tryd.prog B 7 [v] h (KT.ret (.tuple ⟨[.string ⟨⟨t⟩⟩, .int .i64 e]⟩) h).sat := by
  subst he; subst ht; exact print_ok hη hmix k hL
set_option maxRecDepth 20000 in
theorem rd_can (hη : OneCells η) (hmix : Tryd.prog.follows .mixedOrders = true) (haw : ∀ {B : Bd} (h : AH), CallSpec η Tryd.prog B 4 [] h fun v h' => v = .bool true ∧ h' = h) {s : List UInt8} {c : List Value} {o : Nat} (ty cap : Nat)
    (F : BytesAt c o s) (hU : isU cap = false) (hcap : s.length ≤ cap) :
    CallSpec η Tryd.prog B 3 [.slice (some ⟨126, o, none⟩) s.length cap] (heapT [(ty, c)]) fun v _ => v = .bool true := by
  have e2 := by_all F
  have nn := nn_bare F.1
  have isb : ∀ h' : AH, h'.objs.get 126 = some (.cells ty c false 0) → IsBytes h' (.slice (some ⟨126, o, none⟩) s.length cap) s := fun h' hh => .inr ⟨126, o, ty, c, 0, cap, rfl, hh, F, .inl ⟨hU, hcap⟩⟩
  by_cases hE : (parse s).2.2 = 0
  · obtain ⟨L, N, hp⟩ : ∃ L N, parse s = (L, N, 0) := ⟨(parse s).1, (parse s).2.1, Prod.ext rfl (Prod.ext rfl hE)⟩
    obtain ⟨u1, u2, u3, u4, hp2⟩ := parse_used hp
    have e3 : bytesIn c o N = s.take N := by
      have := by_all (F.take N)
      rwa [List.length_take, Nat.min_eq_left u2] at this
    have isbT : ∀ h' : AH, h'.objs.get 126 = some (.cells ty c false 0) → IsBytes h' (.slice (some ⟨126, o, none⟩) N cap) (s.take N) := fun h' hh =>
      .inr ⟨126, o, ty, c, 0, cap, by rw [List.length_take, Nat.min_eq_left u2], hh, F.take N, .inl ⟨hU, by rw [List.length_take]; omega⟩⟩
    have hsT : s.length ≤ 9000 → (s.take N).length ≤ 20000 := by intro h; rw [List.length_take]; omega
    have ec : chk L = if 8192 < 2 + (lns L).length then 3 else 0 := by
      have := chk_parse s
      rw [hp] at this
      exact this
    by_cases hN : L = []
    · subst hN
      refine HRdZ.enter hη hmix (reg0 hη hmix) _ _ _ _ _ ?_
      simp only [W.holds, e2, hp, capN_no hU, capP_no hU, cutN0, Nat.add_zero, Nat.sub_zero, Int.toNat_natCast, e3, hp2, true_and, and_true, decide_eq_true_eq, decide_eq_false_iff_not, true_implies, beq_self_eq_true, bne_self_eq_false, reduceCtorEq, Bool.true_eq_false, false_implies, Value.bool.injEq, Bool.false_eq_true]
      exact ⟨fun _ => haw _, fun h9 => ⟨ppZ hη hmix (isb _ rfl) (by omega) hp, fun h => by omega, fun _ => ⟨fun h => by omega, fun _ => ⟨fun h => by omega, fun _ => ⟨⟨by omega, by omega, by omega⟩, fun _ => ⟨ppZ hη hmix (isbT _ rfl) (hsT (by omega)) hp2, equ_nil hη hmix, print_ok hη hmix (.inl ⟨rfl, rfl⟩) ⟨by simp, fun p hp => by cases hp⟩, ppZ (b := [13, 10]) hη hmix (isBV (r := 127) rfl rfl (bytesAt_of [13, 10])) (by decide) (by decide), equ_nil hη hmix, haw _, nn, fun _ => trivial⟩⟩⟩⟩⟩⟩
    · by_cases h3 : 8192 < 2 + (lns L).length
      · rw [if_pos h3] at ec
        have hP : prS L = [] := by unfold prS; rw [ec]; rfl
        have cut0 := fun i0 i1 => HRdR.cut0 (η := η) (B := B) (D := fun v _ => v = .bool true) hη hmix (reg0 hη hmix) ty o c s.length cap i0 i1
        refine HRdR.enter hη hmix (reg0 hη hmix) _ _ _ _ _ ?_
        simp only [W.holds, e2, hp, capN_no hU, capP_no hU, cutN0, Nat.add_zero, Nat.sub_zero, Int.toNat_natCast, e3, hp2, true_and, and_true, decide_eq_true_eq, decide_eq_false_iff_not, true_implies, beq_self_eq_true, bne_self_eq_false, reduceCtorEq, Bool.true_eq_false, false_implies, Value.bool.injEq, Bool.false_eq_true] at cut0 ⊢
        rw [fieldsAt_litL (r := 127) (M := L) (hr := ?h1) (hn := rfl), fieldsAt_litL (r := 128) (M := L) (hr := ?h2) (hn := rfl)]
        case h1 => rfl
        case h2 => rfl
        simp only [ec, hP, beq_self_eq_true, Bool.not_true, true_implies, Bool.true_eq_false, Bool.false_eq_true, false_implies, and_true, true_and]
        refine ⟨fun _ => haw _, fun h9 => ⟨(ppR hη hmix (isb _ rfl) (by omega) hp hN).conv (by kernel_rfl), fun h => by omega, fun _ => ⟨fun h => by omega, fun _ => ⟨fun h => by omega, fun _ => ⟨fun h => by omega, fun _ => ⟨⟨by omega, by omega, by omega⟩, fun _ => ⟨(ppR hη hmix (isbT _ rfl) (hsT (by omega)) hp2 hN).conv (by kernel_rfl), equ_rows hη hmix rfl rfl (by decide) (by omega), ?_, ⟨nn, flds_nnL L⟩, fun _ => ?_⟩⟩⟩⟩⟩⟩⟩
        · have hL : Small L := by have := parse_small (s := s) (by omega); rw [hp] at this; exact this
          exact print_E hη hmix (isRowL (r := 127) rfl rfl) hL ec hP
        · have loop : ∀ (k i : Nat), i + k = L.length → RunD η Tryd.prog B 3 (HRdR.H0 ty o c s.length cap) [3, 10, 11] (HRdR.S0 ty o c s.length cap (i : Int) ((2 + (lns (L.take i)).length : Nat) : Int) fun _ => undef) (QF Tryd.prog 127 fun v _ => v = .bool true) := by
            intro k
            induction k with
            | zero =>
              intro i hi
              have hL : L.take i = L := List.take_of_length_le (by omega)
              rw [hL]
              refine cut0 _ _ ⟨fun h => by omega, fun _ => ⟨fun _ => ⟨haw _, nn, fun _ => trivial⟩, fun h => by omega⟩⟩
            | succ k ih =>
              intro i hi
              have hi' : i < L.length := by omega
              obtain ⟨g0, g1, g2⟩ := fl_get (fldsAt_of L) hi'
              obtain ⟨q1, q2⟩ := (fldsAt_of L).2 i hi'
              have c0 := cut0 (i : Int) ((2 + (lns (L.take i)).length : Nat) : Int)
              have hs := lns_succ hi'
              have hL : Small L := by have := parse_small (s := s) (by omega); rw [hp] at this; exact this
              have hb := lns_le hL (i + 1)
              have hw : IntKind.i64.wrap (IntKind.i64.wrap (IntKind.i64.wrap (((2 + (lns (L.take i)).length : Nat) : Int) + (L[i].1.length : Int)) + (L[i].2.length : Int)) + 4) = ((2 + (lns (L.take (i + 1))).length : Nat) : Int) := by
                rw [wrapL' (z := ((2 + (lns (L.take i)).length : Nat) : Int) + (L[i].1.length : Int)) (by omega) (by omega), wrapL' (z := ((2 + (lns (L.take i)).length : Nat) : Int) + (L[i].1.length : Int) + (L[i].2.length : Int)) (by omega) (by omega), wrapL' (by omega) (by omega)]
                omega
              rw [Int.toNat_natCast, g1, g2, wrap1 (by omega), hw] at c0
              have hI : (0 : Int) ≤ (i : Int) ∧ (i : Int) < (L.length : Int) := ⟨by omega, by omega⟩
              exact c0 ⟨fun _ => ⟨hI, fun _ => ⟨q1, fun _ => ⟨hI, fun _ => ⟨q2, fun _ => ⟨⟨nn, flds_nnL L⟩, fun _ => ih (i + 1) (by omega)⟩⟩⟩⟩⟩, fun h => absurd hI.2 h⟩
          exact loop L.length 0 (by omega)
      · rw [if_neg h3] at ec
        obtain ⟨hpl, hle⟩ := prS_len ec
        have hp3 := parse_prS ec []
        rw [List.append_nil] at hp3
        have e4 : bytesIn (bytesV (prS L)) 0 (prS L).length = prS L := bytesIn_all _
        refine HRdR.enter hη hmix (reg0 hη hmix) _ _ _ _ _ ?_
        simp only [W.holds, e2, hp, capN_no hU, capP_no hU, cutN0, Nat.add_zero, Nat.sub_zero, Int.toNat_natCast, e3, hp2, true_and, and_true, decide_eq_true_eq, decide_eq_false_iff_not, true_implies, beq_self_eq_true, bne_self_eq_false, reduceCtorEq, Bool.true_eq_false, false_implies, Value.bool.injEq, Bool.false_eq_true]
        rw [fieldsAt_litL (r := 127) (M := L) (hr := ?h1) (hn := rfl), fieldsAt_litL (r := 128) (M := L) (hr := ?h2) (hn := rfl)]
        case h1 => rfl
        case h2 => rfl
        simp only [ec, e4, hp3, beq_self_eq_true, Bool.not_true, true_implies, Bool.true_eq_false, Bool.false_eq_true, false_implies, and_true, true_and]
        rw [fieldsAt_litL (r := 130) (M := L) (hr := ?h1) (hn := rfl), fieldsAt_litL (r := 127) (M := L) (hr := ?h2) (hn := rfl)]
        case h1 => rfl
        case h2 => rfl
        simp only [beq_self_eq_true, Bool.not_true, true_implies, Bool.true_eq_false, Bool.false_eq_true, false_implies, and_true, true_and]
        have sm : s.length ≤ 9000 → Small L := fun h => by have := parse_small (s := s) (by omega); rw [hp] at this; exact this
        exact ⟨fun _ => haw _, fun h9 => ⟨(ppR hη hmix (isb _ rfl) (by omega) hp hN).conv (by kernel_rfl), fun h => by omega, fun _ => ⟨fun h => by omega, fun _ => ⟨fun h => by omega, fun _ => ⟨fun h => by omega, fun _ => ⟨⟨by omega, by omega, by omega⟩, fun _ => ⟨(ppR hη hmix (isbT _ rfl) (hsT (by omega)) hp2 hN).conv (by kernel_rfl), equ_rows hη hmix rfl rfl (by decide) (by omega),
          print_E hη hmix (isRowL (r := 127) rfl rfl) (sm (by omega)) ec rfl, fun h => absurd h (by decide), fun _ => ⟨by omega, fun _ => ⟨(ppR hη hmix (isBV (r := 129) rfl rfl (bytesAt_of _)) (by omega) hp3 hN).conv (by kernel_rfl), equ_rows hη hmix rfl rfl (by decide) (by omega), haw _, nn, fun _ => trivial⟩⟩⟩⟩⟩⟩⟩⟩⟩
  · refine HRdE.enter hη hmix (reg0 hη hmix) _ _ _ _ _ ?_
    simp only [W.holds, e2, true_and, and_true, decide_eq_true_eq, decide_eq_false_iff_not, true_implies, bne_iff_ne, ne_eq, hE, not_false_eq_true, reduceCtorEq, Bool.true_eq_false, false_implies, bne_eq_false_iff_eq, Value.bool.injEq, Bool.false_eq_true]
    exact ⟨fun _ => haw _, fun h9 => ⟨(ppar_ok hη hmix (isb _ rfl) (by omega)).mono fun v h' q => paT_E q hE, haw _⟩⟩
theorem rd_nil (hη : OneCells η) (hmix : Tryd.prog.follows .mixedOrders = true) (haw : ∀ {B : Bd} (h : AH), CallSpec η Tryd.prog B 4 [] h fun v h' => v = .bool true ∧ h' = h) :
    CallSpec η Tryd.prog B 3 [.slice none 0 0] (heapN 126) fun v _ => v = .bool true := by
  refine HRdN.enter hη hmix (reg0 hη hmix) 0 ?_
  simp only [W.holds, true_and, and_true, true_implies]
  exact ⟨(ppar_ok hη hmix (.inl ⟨rfl, rfl⟩) (by simp)).mono fun v h' q => paT_E q (by decide), haw _⟩
theorem reads_row (hmix : Tryd.prog.follows .mixedOrders = true) (haw : ∀ {B : Bd} (h : AH), CallSpec (fun _ => .nilIface) Tryd.prog B 4 [] h fun v h' => v = .bool true ∧ h' = h) {w0 : World} (s : List UInt8) (b : Value) (hb : SliceArg w0 b s.length (bytesV s))
    (hcap : ∀ p n c, b = .slice p n c → n ≤ c) :
    Calls Tryd.prog 3 #[b] w0 fun e w' => e = .returned (.bool true) ∧ Go.RowKit.Below w0.heap.size w0 w' := by
  have hη : OneCells (fun _ => Value.nilIface) := fun _ => rfl
  rcases hb with ⟨rfl, hn⟩ | ⟨blk, o, o', cap, ty', rfl, hU, hle, ho, hr⟩
  · exact CallSpec.trueR (η := fun _ => .nilIface) (l := []) (args := [.slice none 0 0]) TB.gs9 (fun y hy => by cases hy) (.cons (.slice0 _ _ rfl) .nil) (rd_nil hη hmix haw)
  · refine CallSpec.trueR (η := fun _ => .nilIface) (l := [⟨ty', bytesV s, blk, o'⟩]) (args := [.slice (some ⟨126, o - o', none⟩) s.length cap]) TB.gs9 (fun y hy => by rw [List.mem_singleton] at hy; subst hy; exact hr) (.cons ?_ .nil) ?_
    · have := VR.slice (η := fun _ => .nilIface) (ρ := envR Tryd.prog w0 [⟨ty', bytesV s, blk, o'⟩]) (r := 126) (o := o - o') (b := blk) (d := o') (n := sizeB w0 blk - o') s.length cap (envR_0 (x := ⟨ty', bytesV s, blk, o'⟩) rfl) hU
      rw [show o' + (o - o') = o by omega] at this
      exact this
    · refine rd_can hη hmix haw ty' cap ?_ hU (hcap _ _ _ rfl)
      cases s with
      | nil => exact ⟨rfl, fun i hi => by simp at hi⟩
      | cons x y =>
        rw [ho (by simp), Nat.sub_self]
        exact bytesAt_of _
end TH
end Go.Ev

