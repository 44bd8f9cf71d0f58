/- HSortsC, part 6: what the proof needs, in the order of its texts. -/
import Derived.Test.YtjjlnehilcnheaaHSortsC5
import Derived.Deep.Slices
import Derived.ChangeArms
import Derived.WideShapes
import Derived.ChangeSame
import Derived.SizedLaws
/- The law of sorts, of one order: less. -/
namespace Go.Ev
set_option linter.unusedVariables false
set_option linter.unusedSimpArgs false
open Go Go.Proofs Go.RowKit
variable {η : Nat → Value} {B : Bd}
namespace HQ
set_option maxRecDepth 20000 in
theorem sortL_can (hη : OneCells η) (hmix : Try.prog.follows .mixedOrders = true) {b : Int} (hb : b.tmod 2 ≠ 1) {ty o n cap : Nat} {c : List Value} {src : Nat → Int} (hc : ∀ j, j < n → c[o + j]? = some (.int .i64 (src j))) (nn : NoNames c) :
    CallSpec η Try.prog B 3 [.int .u8 b, .slice (some ⟨126, o, none⟩) n cap] (heapT [(ty, c)]) fun v _ => v = .bool true := by
  have hord : isOrd 21 := .inr rfl
  have hsrc : ∀ j, j < n → intAt c (o + j) = src j := fun j hj => by unfold intAt; rw [hc j hj]
  have order := fun (H : AH) => order_L (B := B) hη hmix hb H
  have awake := fun (H : AH) => awake_ok (B := B) hη hmix H
  have tm : ∀ a : Int, (max a 0).tmod 10 = max a 0 % 10 := fun a => Int.tmod_eq_emod_of_nonneg (Int.le_max_right a 0)
  have eta : ∀ S : QS, QS.mk S.c S.E S.ck = S := fun S => rfl
  have wr1 : ∀ i : Nat, i ≤ 1000000 → IntKind.i64.wrap ((i : Int) + 1) = ((i + 1 : Nat) : Int) := fun i hi => by rw [wrap_small (by omega) (by omega)]; omega
  refine KSortL.enter hη hmix (reg0 hη hmix) _ _ _ _ _ _ ?_
  have cut0 := KSortL.cut0 (η := η) (B := B) (D := fun v _ => v = .bool true) hη hmix (reg0 hη hmix) b ty o c n cap
  have cut1 := fun i0 l0 i1 n0 m0 n1 => KSortL.cut1 (η := η) (B := B) (D := fun v _ => v = .bool true) hη hmix (reg0 hη hmix) b ty o c n cap i0 l0 i1 n0 m0 n1
  have cut2 := KSortL.cut2 (η := η) (B := B) (D := fun v _ => v = .bool true) hη hmix (reg0 hη hmix) b ty o c n cap
  have cut3 := fun i0 i1 i2 l0 m0 n0 l1 n1 i3 => KSortL.cut3 (η := η) (B := B) (D := fun v _ => v = .bool true) hη hmix (reg0 hη hmix) b ty o c n cap i0 i1 i2 l0 m0 n0 l1 n1 i3
  simp only [W.holds, true_and, and_true, true_implies, decide_eq_true_eq, decide_eq_false_iff_not, Nat.mul_one, Nat.zero_add, Nat.add_zero, Int.toNat_natCast, Int.le_refl, Nat.le_refl, max0, bne_iff_ne, ne_eq] at cut0 cut1 cut2 cut3 ⊢
  by_cases h300 : (n : Int) > 300
  · exact ⟨fun _ => awake _, fun q => absurd h300 q⟩
  have hn : n ≤ 300 := by omega
  have pops : ∀ (d a : Nat) (g : G) (k : Nat) (s : QS) (sb : Nat → Bool) (at_ last x : Int), n - a = d → PopInv 21 src n a g sb at_ last → s.c = its g k → n - a ≤ k → intE s.E →
      RunD η Try.prog B 3 (KSortL.H0 b ty o c n cap) [1, 5, 6, 7, 8, 9, 10] (KSortL.S3 b ty o c n cap at_ last (a : Int) (bls sb n) s.E (n - a) s.c s.ck x fun _ => undef) (QF Try.prog 127 fun v _ => v = .bool true) := by
    intro d
    induction d with
    | zero =>
      intro a g k s sb at_ last x hd hI hs hk hE
      have c3 := cut3 at_ last (a : Int) (bls sb n) s.E (n - a) s.c s.ck x
      have ha : a = n := by have := hI.le; omega
      have h0 : n - a = 0 := by omega
      refine c3 ⟨fun q => by omega, fun _ => ⟨?_, fun _ => ⟨awake _, nn, fun _ => trivial⟩, fun q => absurd (show n - a = 0 from h0) (by simpa using q)⟩⟩
      refine CallSpec.iteT (by rw [h0]; rfl) ?_
      rw [h0]
      exact pop_none hη hmix (q := 128) (v := 129) (r := 130) (m := 131) (f := 21) (x := x) (s := s) ⟨by kernel_rfl, by kernel_rfl, by kernel_rfl, by kernel_rfl, by decide⟩ hs
    | succ d ih =>
      intro a g k s sb at_ last x hd hI hs hk hE
      have c3 := cut3 at_ last (a : Int) (bls sb n) s.E (n - a) s.c s.ck x
      have ha : a < n := by omega
      have hm : 0 < n - a := by omega
      have i0 : intAt s.c 0 = (g 0).1 := by rw [hs]; exact (its_int (k := 0) (by omega)).1
      have i1 : intAt s.c 1 = (g 0).2 := by rw [hs]; exact (its_int (k := 0) (by omega)).2
      obtain ⟨j, hj, hg⟩ := hI.src 0 hm
      have g1 : (g 0).1 = ((j + 1 : Nat) : Int) := by rw [hg]
      have g2 : (g 0).2 = src j := by rw [hg]
      have wj : IntKind.i64.wrap (((j + 1 : Nat) : Int) - 1) = (j : Int) := wr_n (by omega)
      have hfr := hI.fresh 0 hm
      rw [g1, show (((j + 1 : Nat) : Int) - 1).toNat = j by omega] at hfr
      rw [i0, i1, g1, g2, wj, Int.toNat_natCast, bls_bool hj, bls_get hj, hsrc j hj, hc j hj, hfr, bls_set hj, bls_len, eta] at c3
      refine c3 ⟨fun _ => ⟨?_, fun q => absurd (show n - a = 0 by simpa using q) (by omega), fun _ => ⟨fun q => by omega, fun _ => ⟨fun q => by omega, fun _ => ?_⟩⟩⟩, fun q => by omega⟩
      · exact CallSpec.iteF (by simp; omega) ((pop_at hη hmix (q := 128) (v := 129) (r := 130) (m := 131) (x := x) (s := s) g1 g2 ⟨by kernel_rfl, by kernel_rfl, by kernel_rfl, by kernel_rfl, by decide⟩ hord hs hE hm hk (by omega)).conv (by kernel_rfl))
      · have st := hI.step ha
        rw [g1, g2, show (((j + 1 : Nat) : Int) - 1).toNat = j by omega] at st
        obtain ⟨p1, p2⟩ := pop_G (f := 21) hs hE hm hk
        have next := ih (a + 1) _ k (s.pop 21 (n - a)) _ _ _ x (by omega) st p1 (by omega) p2
        rw [show n - (a + 1) = n - a - 1 by omega, ← wr1 a (by omega)] at next
        have bj : (0 : Int) ≤ (j : Int) ∧ (j : Int) < (n : Int) := ⟨by omega, by omega⟩
        have wl : ((n - a - 1 : Nat) : Int) = IntKind.i64.wrap (IntKind.i64.wrap ((n : Int) - 1) - (a : Int)) := by
          have h1 : IntKind.i64.wrap ((n : Int) - 1) = (n : Int) - 1 := wrap_small (by omega) (by omega)
          rw [h1, wrap_small (by omega) (by omega)]; omega
        have kk : 0 < a → keyO 21 last ≤ keyO 21 (src j) ∧ (keyO 21 last = keyO 21 (src j) → at_ < ((j + 1 : Nat) : Int)) := fun h0 => by
          obtain ⟨q1, q2⟩ := hI.last h0 0 hm
          unfold lt at q1
          rw [g1, g2] at q1
          rw [g1] at q2
          simp only at q1
          exact ⟨by omega, fun e => by omega⟩
        refine ⟨bj, fun _ => ⟨rfl, fun _ => ⟨fun q => by simp at q, fun _ => ⟨bj, fun _ => ⟨rfl, fun _ => ⟨fun q => absurd rfl q, fun _ => ⟨fun q => absurd wl q, fun _ => ⟨bj, fun _ => ⟨hj, fun _ => ⟨fun h0 => ⟨fun q => ?_, fun q => ⟨fun q2 => ⟨fun q3 => ?_, fun _ => next⟩, fun _ => next⟩⟩, fun _ => next⟩⟩⟩⟩⟩⟩⟩⟩⟩⟩
        all_goals exfalso
        all_goals obtain ⟨k1, k2⟩ := kk (by omega)
        · unfold keyO at k1
          rw [if_neg (by decide), if_neg (by decide)] at k1; omega
        · unfold keyO at k1 k2
          rw [if_neg (by decide), if_neg (by decide)] at k1 k2; simp at q2; omega
  have pushes : ∀ (d i : Nat) (g : G) (s : QS), n - i = d → 1 ≤ i → i ≤ n → PushInv 21 src i g → s.c = its g i → intE s.E →
      RunD η Try.prog B 3 (KSortL.H0 b ty o c n cap) [1, 5, 6] (KSortL.S1 b ty o c n cap (i : Int) s.c ((i + 1 : Nat) : Int) i s.E s.ck fun _ => undef) (QF Try.prog 127 fun v _ => v = .bool true) := by
    intro d
    induction d with
    | zero =>
      intro i g s hd h1 hin hI hs hE
      have hi : i = n := by omega
      subst hi
      have c1 := cut1 (i : Int) s.c ((i + 1 : Nat) : Int) i s.E s.ck
      have p := pops (i - 0) 0 g i s (fun _ => false) 0 0 ((i + 1 : Nat) : Int) rfl hI.pop hs (Nat.le_refl _) hE
      rw [← rep_bls, Nat.sub_zero] at p
      refine c1 ⟨fun q => by omega, fun _ => ⟨order _, ⟨by omega, by omega⟩, fun _ => ⟨⟨nn, by rw [rep_bls]; exact bls_nn _ _, by rw [hs]; exact its_nn _ _, nn_int hE⟩, fun _ => ?_⟩⟩⟩
      exact p
    | succ d ih =>
      intro i g s hd h1 hin hI hs hE
      have hi : i < n := by omega
      have c1 := cut1 (i : Int) s.c ((i + 1 : Nat) : Int) i s.E s.ck
      obtain ⟨p1, p2⟩ := push_form (f := 21) (x := ((i + 1 : Nat) : Int)) hs hE (src i)
      have next := ih (i + 1) _ (s.push 21 i ((i + 1 : Nat) : Int) (src i)) (by omega) (by omega) hi hI.step p1 p2
      rw [Int.toNat_natCast, hsrc i hi, hc i hi, eta, wr1 i (by omega), wr1 (i + 1) (by omega)] at c1
      refine c1 ⟨fun _ => ⟨⟨by omega, by omega⟩, fun _ => ⟨rfl, fun _ => ⟨?_, ⟨nn, by rw [p1]; exact its_nn _ _, nn_int p2⟩, fun _ => next⟩⟩⟩, fun q => by omega⟩
      exact (push_at hη hmix (wr1 (i + 1) (by omega)) (q := 127) (v := 128) (r := 129) (m := 130) (f := 21) (x := ((i + 1 : Nat) : Int)) (n := i) (s := s) ⟨by kernel_rfl, by kernel_rfl, by kernel_rfl, by kernel_rfl, by decide⟩ hord hs hE (by omega) (by omega) (src i)).conv (by kernel_rfl)
  refine ⟨fun q => absurd q h300, fun _ => ⟨order _, (new_any hη hmix hord _).conv (by kernel_rfl), fun q => absurd q h300, fun _ => cut0 ⟨fun h0 => ⟨h0, fun _ => ⟨?_, fun _ => ⟨?_, nn, fun _ => ?_⟩⟩⟩, fun h0 => ⟨order _, ⟨by omega, by omega⟩, fun _ => ⟨⟨nn, by rw [rep_bls]; exact bls_nn _ _⟩, fun _ => cut2 ⟨fun q => absurd q h0, fun _ => ⟨?_, awake _, nn, fun _ => trivial⟩⟩⟩⟩⟩⟩⟩
  · have := hc 0 (by omega)
    rw [Nat.add_zero] at this
    rw [this, show intAt c o = src 0 from hsrc 0 (by omega)]
  · exact (push_any0 hη hmix (q := 127) (v := 128) (m := 129) (f := 21) (x := 1) ⟨by kernel_rfl, by kernel_rfl, by kernel_rfl, by decide⟩ hord (by decide) _).conv (by kernel_rfl)
  · rw [show intAt c o = src 0 from hsrc 0 (by omega)]
    exact pushes (n - 1) 1 (fun _ => (1, src 0)) ⟨[.int .i64 1, .int .i64 (src 0)], [{ key := .int .i64 1, val := .int .i64 0, born := 0 }], 1⟩ rfl (Nat.le_refl _) (by omega) ⟨fun k h1 h2 => by omega, fun a b ha hb _ => by omega, fun k hk => ⟨0, Nat.zero_lt_one, rfl⟩⟩ rfl (fun e he => by
      have he : e ∈ [({ key := .int .i64 1, val := .int .i64 0, born := 0 } : MapEntry)] := he
      rw [List.mem_singleton] at he; subst he; exact ⟨1, 0, rfl, rfl⟩)
  · exact pop_none0 hη hmix (q := 128) (v := 129) (m := 130) (f := 21) (x := 1) ⟨by kernel_rfl, by kernel_rfl, by kernel_rfl, by decide⟩
end HQ
end Go.Ev

namespace Go.Ev
set_option linter.unusedVariables false
set_option linter.unusedSimpArgs false
open Go Go.RowKit Go.ChangeShapes Go.WideShapes
variable {P : Program}
/-- A slice of n cells of size s each, at its place; c: what the row holds. -/
def SliceArg (W : World) (v : Value) (n : Nat) (c : List Value) : Prop :=
  (v = .slice none 0 0 ∧ n = 0) ∨ ∃ blk o o' cap ty, v = .slice (some ⟨blk, o, none⟩) n cap ∧ isU cap = false ∧ (o' ≤ o ∧ o ≤ o' + c.length) ∧ (n ≠ 0 → o' = o) ∧ RowAt W ⟨ty, c, blk, o'⟩
theorem rowAt_le {fits : TypeId → Bool} : ∀ (d : Nat) {e : TypeId} {count off n : Nat}, rowAt P fits d e count off n = true → off ≤ count * P.cellsOf e
  | 0, e, count, off, n, h => by simp [rowAt] at h
  | d + 1, e, count, off, n, h => by
    unfold rowAt at h
    simp only at h
    split at h
    · cases h
    · rename_i hs
      have hs : 0 < P.cellsOf e := Nat.pos_of_ne_zero hs
      have hd := Nat.div_add_mod off (P.cellsOf e)
      simp only [Bool.or_eq_true, Bool.and_eq_true, beq_iff_eq, decide_eq_true_eq] at h
      rcases h with ⟨⟨hr, hn⟩, _⟩ | ⟨hi, _⟩
      · rw [hr, Nat.add_zero, Nat.mul_comm] at hd
        rw [← hd]; exact Nat.mul_le_mul_right _ (by omega)
      · exact Nat.le_of_lt ((Nat.div_lt_iff_lt_mul hs).1 hi)
theorem liesAt_le : ∀ (d : Nat) {u : TypeId} {e : TypeId} {count off n : Nat}, liesAt P d e count off u n = true → off ≤ count * P.cellsOf e
  | 0, u, e, count, off, n, h => by simp [liesAt] at h
  | d + 1, u, e, count, off, n, h => by
    unfold liesAt at h
    rw [Bool.or_eq_true] at h
    rcases h with h | h
    · exact rowAt_le _ h
    · cases hu : P.underlying u with
      | none => rw [hu] at h; cases h
      | some t =>
        rw [hu] at h
        cases t with
        | array m u' => exact liesAt_le d h
        | _ => simp at h
theorem has_lt' {w : World} {r : Reach} {base : Nat} {a : Addr} {e : TypeId} {n : Nat} (h : w.has P r base a e n) : a.spot = none ∧ ∃ (C : Array Value) (ty : TypeId) (lo hi : Nat), w.heap[a.block]? = some (.cells C ty (lo, hi)) ∧ a.off ≤ C.size := by
  obtain ⟨_, hs, row, cells, hsh, hl⟩ := h
  refine ⟨hs, ?_⟩
  have hle := Nat.le_trans (liesAt_le _ hl) (Nat.div_mul_le_self _ _)
  unfold World.shape? at hsh
  split at hsh
  · rename_i C ty fr hh
    obtain ⟨lo, hi⟩ := fr
    injection hsh with hsh
    injection hsh with h1 h2
    exact ⟨C, ty, lo, hi, hh, by omega⟩
  · cases hsh
theorem has_of_slice' {w : World} {r : Reach} {b0 : Nat} {t e : TypeId} {a : Addr} {n c : Nat} (hu : P.underlying t = some (.slice e)) (h : Value.okWide P w r b0 t (.slice (some a) n c)) : w.has P r b0 a e c := by
  simp only [Value.okWide, hu, Cell.okWide, Cell.ok] at h
  exact h.2.2
theorem cells_slice' (p : Option Addr) (n c : Nat) : (Value.slice p n c).cells.toList = [.slice p n c] := rfl
theorem notU {c : Nat} (h : c ≤ maxLen) : isU c = false := by
  have : maxLen < 9223372036854775808 := by decide
  unfold isU capB
  exact decide_eq_false (by omega)
/-- A row that begins at an element. -/
theorem row_at {W : World} {b o : Nat} {C : Array Value} {ty : TypeId} {lo hi : Nat} {c : List Value} (hb : W.heap[b]? = some (.cells C ty (lo, hi))) (hc : ∀ (i : Nat) (v : Value), c[i]? = some v → W.cell? ⟨b, o + i, none⟩ = some v) (hbare : c.all bareV = true) (hne : c ≠ []) : RowAt W ⟨ty, c, b, o⟩ := by
  have hall : ∀ (i : Nat) (v : Value), c[i]? = some v → C[o + i]? = some v := by
    intro i v hv
    have h := hc i v hv
    unfold World.cell? at h
    simp only [hb, Option.isSome_none, Bool.false_eq_true, if_false] at h
    exact h
  refine ⟨C, lo, hi, hb, ?_, fun i v hv => by simpa using hall i v hv, hbare⟩
  have hl : 0 < c.length := List.length_pos_iff.2 hne
  have := hall (c.length - 1) (c[c.length - 1]'(by omega)) (List.getElem?_eq_getElem (by omega))
  have := (Array.getElem?_eq_some_iff.1 this).1
  show o + c.length ≤ C.size
  omega
end Go.Ev

namespace Go.Ev
set_option linter.unusedVariables false
set_option linter.unusedSimpArgs false
open Go Go.RowKit Go.ChangeShapes Go.WideShapes
variable {P : Program}
def intsV (k : IntKind) (l : List Int) : List Value := l.map fun n => .int k n
theorem intsV_bare (k : IntKind) (l : List Int) : (intsV k l).all bareV = true := by
  rw [List.all_eq_true]; intro v hv
  unfold intsV at hv
  rw [List.mem_map] at hv
  obtain ⟨x, _, rfl⟩ := hv; rfl
theorem intsV_get {k : IntKind} {l : List Int} {j : Nat} (h : j < l.length) : (intsV k l)[j]? = some (.int k l[j]) := by
  unfold intsV; rw [List.getElem?_map, List.getElem?_eq_getElem h]; rfl
theorem open_ints_arg {t e : TypeId} {k : IntKind} (hu : P.underlying t = some (.slice e)) (he : P.underlying e = some (.int k)) (hC : P.cellsOf e = 1)
    {H : Type} {enc : TypeId × Value → H} {W : World} {r : Reach} {b0 base : Nat} {sp : Nat → Bool} {held : Bool} {v : Value} {d : DataW H} {ps : List MemPlace}
    (hval : Value.okWide P W r b0 t v) (h : DataW.Trod enc P W base sp held t v d ps) : ∃ b : List Int, SliceArg W v b.length (intsV k b) := by
  obtain ⟨p, n, c, rfl⟩ := okWide_slice hu hval
  obtain ⟨fuel, hf⟩ := h
  rw [cells_slice'] at hf
  rcases Go.Deep.open_slice1 hu hC hf with ⟨hn, _⟩ | ⟨a, len, cap, m, q, V, D, Pl, hcs, hb, hl, hm, hmm, hx, hi⟩
  · simp at hn
    obtain ⟨rfl, rfl, rfl⟩ := hn
    exact ⟨[], .inl ⟨rfl, rfl⟩⟩
  · simp at hcs
    obtain ⟨rfl, rfl, rfl⟩ := hcs
    obtain ⟨hsp, C, ty, lo, hi', hblk, hoff⟩ := has_lt' (has_of_slice' hu hval)
    obtain ⟨b, o, spot⟩ := a
    simp only at hsp hblk hoff
    subst hsp
    have hlm : n ≤ m := by rw [hmm]; split <;> omega
    have hel : ∀ i, i < n → ∃ x : Int, W.cell? ⟨b, o + i, none⟩ = some (.int k x) := by
      intro i hin
      obtain ⟨h1, h2⟩ := hi i (by omega)
      obtain ⟨z, hz, _, hw⟩ := DataW.trod_int he h2
      injection hz with hz _
      refine ⟨z, ?_⟩
      rw [hz] at h1
      simpa [Go.WideShapes.add_plain] using h1
    obtain ⟨F, hF⟩ := Go.Deep.choose_lt hel
    refine ⟨(List.range n).map F, ?_⟩
    have hlen : ((List.range n).map F).length = n := by simp
    rw [hlen]
    cases n with
    | zero => exact .inr ⟨b, o, o, c, ty, rfl, notU hm, ⟨Nat.le_refl _, Nat.le_add_right _ _⟩, fun h => absurd rfl h, C, lo, hi', hblk, hoff, (fun i v hv => by simp [intsV] at hv), rfl⟩
    | succ n =>
      refine .inr ⟨b, o, o, c, ty, rfl, notU hm, ⟨Nat.le_refl _, Nat.le_add_right _ _⟩, fun _ => rfl, row_at hblk (fun i v hv => ?_) (intsV_bare _ _) (by simp [intsV])⟩
      unfold intsV at hv
      rw [List.map_map, List.getElem?_map, Option.map_eq_some_iff] at hv
      obtain ⟨j, hj, rfl⟩ := hv
      rw [List.getElem?_eq_some_iff] at hj
      obtain ⟨hj1, rfl⟩ := hj
      rw [List.length_range] at hj1
      rw [List.getElem_range]
      exact hF i hj1
end Go.Ev

/- The law of sorts, over the world. -/
namespace Go.Ev
set_option linter.unusedVariables false
set_option linter.unusedSimpArgs false
open Go Go.Proofs Go.RowKit
variable {η : Nat → Value} {B : Bd}
namespace HQ
theorem sort_can (hη : OneCells η) (hmix : Try.prog.follows .mixedOrders = true) (b : Int) {ty o n cap : Nat} {c : List Value} {src : Nat → Int} (hc : ∀ j, j < n → c[o + j]? = some (.int .i64 (src j))) (nn : NoNames c) :
    CallSpec η Try.prog B 3 [.int .u8 b, .slice (some ⟨126, o, none⟩) n cap] (heapT [(ty, c)]) fun v _ => v = .bool true := by
  by_cases hb : b.tmod 2 = 1
  · exact sortT_can hη hmix hb hc nn
  · exact sortL_can hη hmix hb hc nn
theorem sort_nil (hη : OneCells η) (hmix : Try.prog.follows .mixedOrders = true) (b : Int) : CallSpec η Try.prog B 3 [.int .u8 b, .slice none 0 0] (heapO []) fun v _ => v = .bool true := by
  by_cases hb : b.tmod 2 = 1
  · refine KSortT0.enter hη hmix (reg0 hη hmix) b ?_
    have cut0 := KSortT0.cut0 (η := η) (B := B) (D := fun v _ => v = .bool true) hη hmix (reg0 hη hmix) b
    have cut1 := KSortT0.cut1 (η := η) (B := B) (D := fun v _ => v = .bool true) hη hmix (reg0 hη hmix) b
    simp only [W.holds, true_and, and_true, true_implies] at cut0 cut1 ⊢
    exact ⟨order_T hη hmix hb _, (new_any hη hmix (.inl rfl) _).conv (by kernel_rfl), cut0 ⟨order_T hη hmix hb _, cut1 ⟨pop_none0 hη hmix (q := 127) (v := 128) (m := 129) (f := 20) (x := 1) ⟨by kernel_rfl, by kernel_rfl, by kernel_rfl, by decide⟩, awake_ok hη hmix _⟩⟩⟩
  · refine KSortL0.enter hη hmix (reg0 hη hmix) b ?_
    have cut0 := KSortL0.cut0 (η := η) (B := B) (D := fun v _ => v = .bool true) hη hmix (reg0 hη hmix) b
    have cut1 := KSortL0.cut1 (η := η) (B := B) (D := fun v _ => v = .bool true) hη hmix (reg0 hη hmix) b
    simp only [W.holds, true_and, and_true, true_implies] at cut0 cut1 ⊢
    exact ⟨order_L hη hmix hb _, (new_any hη hmix (.inr rfl) _).conv (by kernel_rfl), cut0 ⟨order_L hη hmix hb _, cut1 ⟨pop_none0 hη hmix (q := 127) (v := 128) (m := 129) (f := 21) (x := 1) ⟨by kernel_rfl, by kernel_rfl, by kernel_rfl, by decide⟩, awake_ok hη hmix _⟩⟩⟩
theorem nn_ints (L : List Int) : NoNames (intsV .i64 L) := by
  intro v hv
  unfold intsV at hv
  obtain ⟨x, _, rfl⟩ := List.mem_map.1 hv
  rfl
theorem sorts_row (hmix : Try.prog.follows .mixedOrders = true) {w0 : World} (b : Int) (L : List Int) (a : Value) (ha : SliceArg w0 a L.length (intsV .i64 L)) :
    Calls Try.prog 3 #[.int .u8 b, a] w0 fun e w' => e = .returned (.bool true) ∧ Go.RowKit.Below w0.heap.size w0 w' := by
  have hη : OneCells (fun _ => Value.nilIface) := fun _ => rfl
  rcases ha with ⟨rfl, _⟩ | ⟨blk, o, o', cap, ty, rfl, hcap, hle, ho, hr⟩
  · exact CallSpec.trueP (η := fun _ => .nilIface) (l := []) (args := [.int .u8 b, .slice none 0 0]) gs9 (fun x hx => by cases hx) (.cons (.int _ _) (.cons (.slice0 _ _ rfl) .nil)) (sort_nil hη hmix b)
  · refine CallSpec.trueR (η := fun _ => .nilIface) (l := [⟨ty, intsV .i64 L, blk, o'⟩]) (args := [.int .u8 b, .slice (some ⟨126, o - o', none⟩) L.length cap]) gs9 (fun x hx => by rw [List.mem_singleton] at hx; subst hx; exact hr) (.cons (.int _ _) (.cons ?_ .nil)) ?_
    · have := VR.slice (η := fun _ => .nilIface) (ρ := envR Try.prog w0 [⟨ty, intsV .i64 L, blk, o'⟩]) (r := 126) (o := o - o') (b := blk) (d := o') (n := sizeB w0 blk - o') L.length cap rfl hcap
      rw [show o' + (o - o') = o by omega] at this
      exact this
    · cases hb : L with
      | nil => exact sort_can hη hmix b (ty := ty) (o := o - o') (n := 0) (c := intsV .i64 []) (src := fun _ => 0) (fun j hj => absurd hj (Nat.not_lt_zero j)) (nn_ints [])
      | cons x y =>
        rw [← hb, ho (by rw [hb]; simp), Nat.sub_self]
        exact sort_can hη hmix b (ty := ty) (o := 0) (n := L.length) (c := intsV .i64 L) (src := fun j => (L[j]?).getD 0) (fun j hj => by rw [Nat.zero_add, intsV_get hj, List.getElem?_eq_getElem hj]; rfl) (nn_ints L)
end HQ
end Go.Ev

