/- The reference's elements; Has; equal lists; the law. -/
import Derived.Test.YtjagockmfdmgoaaGreatDoorEvTEA
import Derived.KernelRfl
namespace Go.Ev
set_option linter.unusedVariables false
set_option linter.unusedSimpArgs false
open Go Go.Proofs
variable {η : Nat → Value} {B : Nat}
namespace TE
open TB
theorem trim_len (y : List UInt8) : (trimB y).length ≤ y.length := by
  rw [trimB_eq]; unfold tl tr
  refine Nat.le_trans (List.dropWhile_sublist _).length_le ?_
  rw [List.length_reverse]
  exact Nat.le_trans (List.dropWhile_sublist _).length_le (by rw [List.length_reverse]; exact Nat.le_refl _)
theorem elL_len {s x : List UInt8} (h : x ∈ elL s) : x.length ≤ s.length ∧ s.length ≤ 2000 := by
  have hs : s.length ≤ 2000 := by
    rcases Nat.lt_or_ge 2000 s.length with h' | h'
    · have e : elL s = [] := by unfold elL elE; rw [if_pos h']; rfl
      rw [e] at h; cases h
    · exact h'
  refine ⟨?_, hs⟩
  cases hp : pt 44 s.length s [] with
  | none => rw [((elL_pt hs).1 hp).2] at h; cases h
  | some L =>
    rw [((elL_pt hs).2 L hp).2] at h
    unfold fil at h
    obtain ⟨h1, _⟩ := List.mem_filter.1 h
    obtain ⟨p, hpm, rfl⟩ := List.mem_map.1 h1
    have := (pt_len 44 _ _ _ _ hp).2.2 p hpm
    have := trim_len p
    simp only [List.length_nil, Nat.zero_add] at *
    omega
theorem elL_many {s : List UInt8} : (elL s).length ≤ 2001 := by
  rcases Nat.lt_or_ge 2000 s.length with h' | h'
  · have e : elL s = [] := by unfold elL elE; rw [if_pos h']; rfl
    rw [e]; simp
  · cases hp : pt 44 s.length s [] with
    | none => rw [((elL_pt h').1 hp).2]; simp
    | some L =>
      rw [((elL_pt h').2 L hp).2]
      have := (pt_len 44 _ _ _ _ hp).1
      unfold fil
      refine Nat.le_trans (List.length_filter_le _ _) ?_
      rw [List.length_map]; omega
theorem rel_ok (hη : OneCells η) (hmix : Tryz.prog.follows .mixedOrders = true) (s : List UInt8) (h : AH) :
    CallSpec η Tryz.prog B 21 [.string ⟨⟨s⟩⟩] h (elK [.string ⟨⟨s⟩⟩] h).sat := by
  refine listK hη ?_ h
  refine CRel.enter hη hmix (reg0 hη hmix) _ ?_
  simp only [W.holds, true_and, decide_eq_true_eq, decide_eq_false_iff_not]
  refine ⟨fun h => ?_, fun h => ?_⟩
  · have e : elE s = 3 := by unfold elE; rw [if_pos (by omega)]
    have e2 : elL s = [] := by unfold elL; rw [e]; rfl
    rw [if_pos e2, e]
  have hs : s.length ≤ 2000 := by omega
  generalize hD : (fun (v : Value) (h : AH) => if elL s = [] then v = .tuple ⟨[.slice none 0 0, .int .i64 (elE s)]⟩ else v = .tuple ⟨[.slice (some ⟨9, 0, none⟩) (elL s).length (capU 1), .int .i64 (elE s)]⟩ ∧ h = withRow (heapN 9) 9 (strs (elL s)) false) = D
  refine ⟨pt_ok hη hmix s (by omega) _, fun hb => ?_, fun hb => ?_⟩
  · obtain ⟨P, hP, hPL⟩ : ∃ P, pt 44 s.length s [] = some P ∧ ptL 44 s = P := by
      unfold ptB at hb
      obtain ⟨P, h⟩ := Option.isSome_iff_exists.1 hb
      exact ⟨P, h, by unfold ptL; rw [h]; rfl⟩
    obtain ⟨e0, eL⟩ := (elL_pt hs).2 P hP
    obtain ⟨pl1, _, pl3⟩ := pt_len 44 _ _ _ _ hP
    have dnil : fil P = [] → ∀ h, D (.tuple ⟨[.slice none 0 0, .int .i64 0]⟩) h := by
      intro hn h; subst hD
      show if _ then _ else _
      rw [if_pos (by rw [eL]; exact hn), e0]
    have dsome : ∀ L, L ≠ [] → fil P = L → D (.tuple ⟨[.slice (some ⟨9, 0, none⟩) L.length (capU 1), .int .i64 0]⟩) (withRow (heapN 9) 9 (strs L) false) := by
      intro L hL hn; subst hD
      show if _ then _ else _
      rw [if_neg (by rw [eL, hn]; exact hL), eL, hn, e0]
      exact ⟨rfl, rfl⟩
    have cut0 := fun i0 => CRel.cut0 (η := η) (B := B) (D := D) hη hmix (reg0 hη hmix) s i0
    have cut1 := fun i0 n0 l0 => CRel.cut1 (η := η) (B := B) (D := D) hη hmix (reg0 hη hmix) s i0 n0 l0
    simp only [W.holds, true_and, decide_eq_true_eq, decide_eq_false_iff_not, beq_iff_eq, beq_eq_false_iff_ne, true_implies, Bool.not_eq_true', Bool.not_eq_false', Nat.zero_add, Nat.mul_one, hPL] at cut0 cut1
    have pc : ∀ {i : Nat} {x : List UInt8} {R : List (List UInt8)}, P.drop i = x :: R → i < P.length ∧ (strs P)[(i : Int).toNat]? = some (.string ⟨⟨x⟩⟩) ∧ strAt (strs P) (i : Int).toNat = x ∧ P.drop (i + 1) = R ∧ x.length ≤ 2000 := by
      intro i x R hd
      have hi : i < P.length := by
        rcases Nat.lt_or_ge i P.length with h | h
        · exact h
        · rw [List.drop_eq_nil_of_le h] at hd; cases hd
      have e : P.drop i = P[i] :: P.drop (i + 1) := List.drop_eq_getElem_cons hi
      rw [hd] at e
      injection e with e1 e2
      obtain ⟨g1, g2⟩ := strs_get hi
      have := pl3 x (by rw [e1]; exact List.getElem_mem hi)
      simp only [List.length_nil, Nat.zero_add] at this
      rw [Int.toNat_natCast, g1, g2, ← e1]
      exact ⟨hi, rfl, rfl, e2.symm, by omega⟩
    have loop1 : ∀ (R : List (List UInt8)) (i : Nat) (L : List (List UInt8)), P.drop i = R → L ≠ [] → L.length ≤ i → i ≤ P.length → fil P = L ++ fil R →
        RunD η Tryz.prog B 21 (CRel.H0 s) [4, 6, 7] (CRel.S1 s (i : Int) L.length (strs L) fun _ => undef) (QF Tryz.prog 9 D) := by
      intro R
      induction R with
      | nil =>
        intro i L hd hL hLi hi he
        have := List.drop_eq_nil_iff.1 hd
        have ds := dsome L hL (by rw [he]; simp [fil])
        refine cut1 _ _ _ ⟨fun h => by omega, fun _ => ?_⟩
        first | exact ds | exact ⟨⟨strs_nn _, trivial⟩, fun _ => ds⟩
      | cons x R ih =>
        intro i L hd hL hLi hi he
        obtain ⟨hi2, hg, hst, hd2, hx⟩ := pc hd
        have c1 := cut1 (i : Int) L.length (strs L)
        rw [hst, wrap1 (by omega), strs_snoc] at c1
        have hI : (0 : Int) ≤ (i : Int) ∧ (i : Int) < (P.length : Int) := ⟨by omega, by omega⟩
        rw [fil_cons] at he
        refine c1 ⟨fun _ => ⟨hI, fun _ => ⟨hg, fun _ => ⟨rtrim_ok hη hmix x (by omega) _, fun ht => ⟨hI, fun _ => ⟨hg, fun _ => ⟨rtrim_ok hη hmix x (by omega) _, ?_⟩⟩⟩, fun ht => ?_⟩⟩⟩, fun h => by omega⟩
        · refine ⟨⟨by omega, strs_len L, by omega, trivial⟩, fun _ => ⟨⟨strs_nn _, strs_nn _, trivial⟩, fun _ => ?_⟩⟩
          have := ih (i + 1) (L ++ [trimB x]) hd2 (by simp) (by simp; omega) (by omega) (by rw [he, if_neg ht]; simp)
          rw [List.length_append] at this
          exact this
        · first
            | exact ih (i + 1) L hd2 hL (by omega) (by omega) (by rw [he, if_pos ht])
            | exact ⟨⟨strs_nn _, strs_nn _, trivial⟩, fun _ => ih (i + 1) L hd2 hL (by omega) (by omega) (by rw [he, if_pos ht])⟩
    have loop0 : ∀ (R : List (List UInt8)) (i : Nat), P.drop i = R → i ≤ P.length → fil P = fil R →
        RunD η Tryz.prog B 21 (CRel.H0 s) [4, 6, 7] (CRel.S0 s (i : Int) fun _ => undef) (QF Tryz.prog 9 D) := by
      intro R
      induction R with
      | nil =>
        intro i hd hi he
        have := List.drop_eq_nil_iff.1 hd
        exact cut0 _ ⟨fun h => by omega, fun _ => dnil (by rw [he]; simp [fil]) _⟩
      | cons x R ih =>
        intro i hd hi he
        obtain ⟨hi2, hg, hst, hd2, hx⟩ := pc hd
        have c0 := cut0 (i : Int)
        rw [hst, wrap1 (by omega)] at c0
        have hI : (0 : Int) ≤ (i : Int) ∧ (i : Int) < (P.length : Int) := ⟨by omega, by omega⟩
        rw [fil_cons] at he
        refine c0 ⟨fun _ => ⟨hI, fun _ => ⟨hg, fun _ => ⟨rtrim_ok hη hmix x (by omega) _, fun ht => ⟨hI, fun _ => ⟨hg, fun _ => ⟨rtrim_ok hη hmix x (by omega) _, ⟨strs_nn _, trivial⟩, fun _ => ?_⟩⟩⟩, fun ht => ?_⟩⟩⟩, fun h => by omega⟩
        · exact loop1 R (i + 1) [trimB x] hd2 (by simp) (by simp) (by omega) (by rw [he, if_neg ht]; rfl)
        · first
            | exact ih (i + 1) hd2 (by omega) (by rw [he, if_pos ht])
            | exact ⟨⟨strs_nn _, trivial⟩, fun _ => ih (i + 1) hd2 (by omega) (by rw [he, if_pos ht])⟩
    exact loop0 P 0 rfl (by omega) rfl
  · have hn : pt 44 s.length s [] = none := by
      unfold ptB at hb
      cases hq : pt 44 s.length s [] with
      | none => rfl
      | some L => rw [hq] at hb; cases hb
    obtain ⟨e1, e2⟩ := (elL_pt hs).1 hn
    subst hD
    show if _ then _ else _
    rw [if_pos e2, e1]
theorem has_ok (hη : OneCells η) (hmix : Tryz.prog.follows .mixedOrders = true) (s t : List UInt8) (ht : t.length ≤ 400000) (h : AH) :
    CallSpec η Tryz.prog B 22 [.string ⟨⟨s⟩⟩, .string ⟨⟨t⟩⟩] h (hasK [.string ⟨⟨s⟩⟩, .string ⟨⟨t⟩⟩] h).sat := by
  refine CallSpec.bare (v := .tuple ⟨[.bool (hasR s t), .int .i64 (hasE s t)]⟩) hη gs9 (fun _ _ => .cons (.string _) (.cons (.string _) .nil)) (fun σ M => RV.tup2 (.bool _) (.int _ _)) (fun σ M => RV.tup2 (.bool _) (.int _ _)) ?_ h
  have cut0 := CHas.cut0 (η := η) (B := B) (D := fun v _ => v = .tuple ⟨[.bool (hasR s t), .int .i64 (hasE s t)]⟩) hη hmix (reg0 hη hmix) s t
  have cut1 := fun i0 => CHas.cut1 (η := η) (B := B) (D := fun v _ => v = .tuple ⟨[.bool (hasR s t), .int .i64 (hasE s t)]⟩) hη hmix (reg0 hη hmix) s t i0
  refine CHas.enter hη hmix (reg0 hη hmix) _ _ ?_
  simp only [W.holds, true_and, decide_eq_true_eq, decide_eq_false_iff_not, beq_iff_eq, beq_eq_false_iff_ne, true_implies, Bool.not_eq_true', Bool.not_eq_false', bne_iff_ne, bne_eq_false_iff_eq, Nat.zero_add, Nat.mul_one] at cut0 cut1 ⊢
  have eE : tokB t = true → hasE s t = elE s := by intro h; unfold hasE; rw [h]; rfl
  have bad : tokB t = true → elE s ≠ 0 → (Value.tuple ⟨[.bool false, .int .i64 (elE s)]⟩ : Value) = .tuple ⟨[.bool (hasR s t), .int .i64 (hasE s t)]⟩ := by
    intro h1 h2
    unfold hasR; rw [eE h1, decide_eq_false h2]; rfl
  refine ⟨tok_ok hη hmix t (by omega) _, fun h1 => ?_, fun h1 => ⟨el_ok hη hmix s _, fun hb => ⟨fun h2 => bad h1 h2, fun h2 => ?_⟩, fun hb => ⟨fun h2 => bad h1 h2, fun h2 => ?_⟩⟩⟩
  · have e : hasE s t = 2 := by unfold hasE; rw [h1]; rfl
    unfold hasR; rw [e]; rfl
  · have e : elL s = [] := by unfold elEmp at hb; exact of_decide_eq_true hb
    refine cut0 ?_
    unfold hasR hasB; rw [eE h1, h2, e]; rfl
  · have loop : ∀ (R : List (List UInt8)) (i : Nat), (elL s).drop i = R → i ≤ 2001 → hasB s t = R.any (fun x => x.map lowB == t.map lowB) →
        RunD η Tryz.prog B 22 (CHas.H0 s t) [1, 21, 22, 23] (CHas.S1 s t (i : Int) fun _ => undef) (QF Tryz.prog 9 fun v _ => v = .tuple ⟨[.bool (hasR s t), .int .i64 (hasE s t)]⟩) := by
      intro R
      induction R with
      | nil =>
        intro i hd hi he
        have := List.drop_eq_nil_iff.1 hd
        refine cut1 _ ⟨fun h => by omega, fun _ => ?_⟩
        unfold hasR; rw [eE h1, h2, he]; rfl
      | cons x R ih =>
        intro i hd hi he
        have hi2 : i < (elL s).length := by
          rcases Nat.lt_or_ge i (elL s).length with h | h
          · exact h
          · rw [List.drop_eq_nil_of_le h] at hd; cases hd
        have e : (elL s).drop i = (elL s)[i] :: (elL s).drop (i + 1) := List.drop_eq_getElem_cons hi2
        rw [hd] at e
        injection e with e1 e2
        obtain ⟨g1, g2⟩ := strs_get hi2
        have hx := elL_len (s := s) (x := x) (by rw [e1]; exact List.getElem_mem hi2)
        have hm := elL_many (s := s)
        have c1 := cut1 (i : Int)
        rw [Int.toNat_natCast, g1, g2, ← e1, wrap1 (by omega)] at c1
        refine c1 ⟨fun _ => ⟨⟨by omega, by omega⟩, fun _ => ⟨rfl, fun _ => ⟨fold_ok hη hmix x (by omega) _, fold_ok hη hmix t (by omega) _, fun hq => ?_, fun hq => ?_⟩⟩⟩, fun h => by omega⟩
        · have : hasB s t = true := by rw [he, List.any_cons]; simp [hq]
          unfold hasR; rw [eE h1, h2, this]; rfl
        · exact ih (i + 1) e2.symm (by omega) (by rw [he, List.any_cons]; simp [hq])
    exact loop (elL s) 0 rfl (by omega) rfl
theorem rhas_ok (hη : OneCells η) (hmix : Tryz.prog.follows .mixedOrders = true) (s t : List UInt8) (ht : t.length ≤ 400000) (h : AH) :
    CallSpec η Tryz.prog B 23 [.string ⟨⟨s⟩⟩, .string ⟨⟨t⟩⟩] h (hasK [.string ⟨⟨s⟩⟩, .string ⟨⟨t⟩⟩] h).sat := by
  refine CallSpec.bare (v := .tuple ⟨[.bool (hasR s t), .int .i64 (hasE s t)]⟩) hη gs9 (fun _ _ => .cons (.string _) (.cons (.string _) .nil)) (fun σ M => RV.tup2 (.bool _) (.int _ _)) (fun σ M => RV.tup2 (.bool _) (.int _ _)) ?_ h
  have cut0 := CRHas.cut0 (η := η) (B := B) (D := fun v _ => v = .tuple ⟨[.bool (hasR s t), .int .i64 (hasE s t)]⟩) hη hmix (reg0 hη hmix) s t
  have cut1 := fun i0 => CRHas.cut1 (η := η) (B := B) (D := fun v _ => v = .tuple ⟨[.bool (hasR s t), .int .i64 (hasE s t)]⟩) hη hmix (reg0 hη hmix) s t i0
  refine CRHas.enter hη hmix (reg0 hη hmix) _ _ ?_
  simp only [W.holds, true_and, decide_eq_true_eq, decide_eq_false_iff_not, beq_iff_eq, beq_eq_false_iff_ne, true_implies, Bool.not_eq_true', Bool.not_eq_false', bne_iff_ne, bne_eq_false_iff_eq, Nat.zero_add, Nat.mul_one] at cut0 cut1 ⊢
  have eE : tokB t = true → hasE s t = elE s := by intro h; unfold hasE; rw [h]; rfl
  have bad : tokB t = true → elE s ≠ 0 → (Value.tuple ⟨[.bool false, .int .i64 (elE s)]⟩ : Value) = .tuple ⟨[.bool (hasR s t), .int .i64 (hasE s t)]⟩ := by
    intro h1 h2
    unfold hasR; rw [eE h1, decide_eq_false h2]; rfl
  refine ⟨rtok_ok hη hmix t _, fun h1 => ?_, fun h1 => ⟨rel_ok hη hmix s _, fun hb => ?_, fun hb => ?_⟩⟩
  · have e : hasE s t = 2 := by unfold hasE; rw [h1]; rfl
    unfold hasR; rw [e]; rfl
  · have e : elL s = [] := by unfold elEmp at hb; exact of_decide_eq_true hb
    refine cut0 ?_
    by_cases h2 : elE s = 0
    · unfold hasR hasB; rw [eE h1, h2, e]; rfl
    · exact bad h1 h2
  · have h2 : elE s = 0 := by
      unfold elEmp at hb
      have hb := of_decide_eq_false hb
      rcases Decidable.em (elE s = 0) with h | h
      · exact h
      · exact absurd (by unfold elL; rw [if_neg h]) hb
    have loop : ∀ (R : List (List UInt8)) (i : Nat), (elL s).drop i = R → i ≤ 2001 → hasB s t = R.any (fun x => x.map lowB == t.map lowB) →
        RunD η Tryz.prog B 23 (CRHas.H0 s t) [1, 6, 7, 8] (CRHas.S1 s t (i : Int) fun _ => undef) (QF Tryz.prog 9 fun v _ => v = .tuple ⟨[.bool (hasR s t), .int .i64 (hasE s t)]⟩) := by
      intro R
      induction R with
      | nil =>
        intro i hd hi he
        have := List.drop_eq_nil_iff.1 hd
        refine cut1 _ ⟨fun h => by omega, fun _ => ?_⟩
        unfold hasR; rw [eE h1, h2, he]; rfl
      | cons x R ih =>
        intro i hd hi he
        have hi2 : i < (elL s).length := by
          rcases Nat.lt_or_ge i (elL s).length with h | h
          · exact h
          · rw [List.drop_eq_nil_of_le h] at hd; cases hd
        have e : (elL s).drop i = (elL s)[i] :: (elL s).drop (i + 1) := List.drop_eq_getElem_cons hi2
        rw [hd] at e
        injection e with e1 e2
        obtain ⟨g1, g2⟩ := strs_get hi2
        have hx := elL_len (s := s) (x := x) (by rw [e1]; exact List.getElem_mem hi2)
        have hm := elL_many (s := s)
        have c1 := cut1 (i : Int)
        rw [Int.toNat_natCast, g1, g2, ← e1, wrap1 (by omega)] at c1
        refine c1 ⟨fun _ => ⟨⟨by omega, by omega⟩, fun _ => ⟨rfl, fun _ => ⟨rfold_ok hη hmix x (by omega) _, rfold_ok hη hmix t (by omega) _, fun hq => ?_, fun hq => ?_⟩⟩⟩, fun h => by omega⟩
        · have : hasB s t = true := by rw [he, List.any_cons]; simp [hq]
          unfold hasR; rw [eE h1, h2, this]; rfl
        · exact ih (i + 1) e2.symm (by omega) (by rw [he, List.any_cons]; simp [hq])
    exact loop (elL s) 0 rfl (by omega) rfl
theorem strs_ok (hη : OneCells η) (hmix : Tryz.prog.follows .mixedOrders = true) (L : List (List UInt8)) (hL : L.length ≤ 100000) :
    CallSpec η Tryz.prog B 24 [.slice (some ⟨9, 0, none⟩) L.length (capU 1), .slice (some ⟨10, 0, none⟩) L.length (capU 1)] (CStr.H0 L) (fun v h => v = .bool true ∧ h = CStr.H0 L) := by
  have cut := fun i0 => CStr.cut0 (η := η) (B := B) (D := fun v h => v = .bool true ∧ h = CStr.H0 L) hη hmix (reg0 hη hmix) L i0
  refine CStr.enter hη hmix (reg0 hη hmix) _ ?_
  simp only [W.holds, true_and, and_true, decide_eq_true_eq, decide_eq_false_iff_not, bne_self_eq_false, beq_self_eq_true, Bool.not_true, Bool.false_eq_true, false_implies, true_implies, Nat.zero_add, Nat.mul_one] at cut ⊢
  have loop : ∀ (k i : Nat), i + k = L.length → RunD η Tryz.prog B 24 (CStr.H0 L) [0, 1, 5] (CStr.S0 L (i : Int) fun _ => undef) (QF Tryz.prog 11 fun v h => v = .bool true ∧ h = CStr.H0 L) := by
    intro k
    induction k with
    | zero => intro i hk; exact cut _ ⟨fun h => by omega, fun _ => trivial⟩
    | succ k ih =>
      intro i hk
      obtain ⟨g1, g2⟩ := strs_get (L := L) (i := i) (by omega)
      have c1 := cut (i : Int)
      rw [Int.toNat_natCast, g1, g2, wrap1 (by omega)] at c1
      have hI : (0 : Int) ≤ (i : Int) ∧ (i : Int) < (L.length : Int) := ⟨by omega, by omega⟩
      exact c1 ⟨fun _ => ⟨hI, fun _ => ⟨rfl, fun _ => ⟨hI, fun _ => ⟨rfl, fun _ => ⟨⟨strs_nn _, strs_nn _⟩, fun _ => ih (i + 1) (by omega)⟩⟩⟩⟩⟩, fun _ => trivial⟩
  exact loop L.length 0 (by omega)
end TE
end Go.Ev
namespace Go.Ev
set_option linter.unusedVariables false
set_option linter.unusedSimpArgs false
open Go Go.Proofs
variable {η : Nat → Value} {B : Nat}
namespace TE
open TB
theorem law_ok (hη : OneCells η) (hmix : Tryz.prog.follows .mixedOrders = true) (haw : ∀ h, CallSpec η Tryz.prog B 11 [] h fun v h' => v = .bool true ∧ h' = h) (s t : List UInt8) :
    CallSpec η Tryz.prog B 4 [.string ⟨⟨s⟩⟩, .string ⟨⟨t⟩⟩] (CLaw.H0 s t) (fun v _ => v = .bool true) := by
  refine CLaw.enter hη hmix (reg0 hη hmix) _ _ ?_
  simp only [W.holds, true_and, and_true, decide_eq_true_eq, decide_eq_false_iff_not, beq_iff_eq, beq_eq_false_iff_ne, bne_self_eq_false, bne_iff_ne, bne_eq_false_iff_eq, ne_eq, beq_self_eq_true, Bool.not_true, Bool.false_eq_true, false_implies, implies_true, not_true_eq_false, true_implies, Bool.true_eq_false, Bool.not_eq_true', Bool.not_eq_false', not_false_eq_true]
  have hAB : listAt (CStr.H0 (elL s)) (.slice (some ⟨9, 0, none⟩) (elL s).length (capU 1)) = listAt (CStr.H0 (elL s)) (.slice (some ⟨10, 0, none⟩) (elL s).length (capU 1)) := rfl
  have S0 : CallSpec η Tryz.prog B 24 [.slice none 0 0, .slice none 0 0] (heapN 9) (KT.ret (.bool true) (heapN 9)).sat := by
    refine CStr0.enter hη hmix (reg0 hη hmix) 0 ?_
    simp only [W.holds, true_and]
    exact ⟨rfl, rfl⟩
  have S1 : CallSpec η Tryz.prog B 24 [.slice (some ⟨9, 0, none⟩) (elL s).length (capU 1), .slice (some ⟨10, 0, none⟩) (elL s).length (capU 1)] (CStr.H0 (elL s)) (KT.ret (.bool (listAt (CStr.H0 (elL s)) (.slice (some ⟨9, 0, none⟩) (elL s).length (capU 1)) == listAt (CStr.H0 (elL s)) (.slice (some ⟨10, 0, none⟩) (elL s).length (capU 1)))) (CStr.H0 (elL s))).sat := by
    refine (strs_ok hη hmix (elL s) (by have := elL_many (s := s); omega)).mono ?_
    rintro v h ⟨rfl, rfl⟩
    rw [hAB]
    exact ⟨by rw [beq_self_eq_true], rfl⟩
  have R := rel_ok (B := B) hη hmix s (withRow (heapN 9) 9 (strs (elL s)) false)
  have e1 : withRow (heapN 9) 9 (strs (elL s)) false = ⟨T.node none (T.node none T.nil (T.node none (T.node (some (AObj.cells 9 (strs (elL s)) false 2)) T.nil T.nil) T.nil)) T.nil, 10⟩ := rfl
  unfold elK at R
  simp only [bdl] at R
  have e2 : withRow (withRow (heapN 9) 9 (strs (elL s)) false) 9 (strs (elL s)) false = CStr.H0 (elL s) := by kernel_rfl
  rw [e2] at R
  exact ⟨fun _ => haw _, fun hs => ⟨fun _ => haw _, fun ht => ⟨el_ok hη hmix s _, fun hb => ⟨rel_ok hη hmix s _, fun _ => ⟨has_ok hη hmix s t (by omega) _, rhas_ok hη hmix s t (by omega) _, S0, haw _⟩, fun hb2 => absurd (hb.symm.trans hb2) (by decide)⟩,
    fun hb => ⟨R, fun hb2 => absurd (hb2.symm.trans hb) (by decide), fun _ => ⟨has_ok hη hmix s t (by omega) _, rhas_ok hη hmix s t (by omega) _, S1, fun _ => haw _, fun hne => absurd hAB hne⟩⟩⟩⟩⟩
end TE
end Go.Ev
