/- The package's iterator fields yields the fields of a line one after the other; conditions: Amb, a bound on the line's length. -/
import Derived.Test.YtoknncoolmbklaaDoorBare
import Derived.Test.YtoknncoolmbklaaDoorScope
import Derived.Test.YtoknncoolmbklaaDoorRange
import Derived.RangeFuncNested
import Derived.RangeFuncBound
import Derived.RangeFuncCalls
import Derived.RangeFuncLeaves
import Derived.Shelf.Abstract
import Derived.Shelf.RegionOpen
import Derived.OwnWalkIn
import Derived.TacticsInMore
import Derived.LoopNIn
import Derived.LoopIn
namespace Go.Proofs.YtoknncoolmbklaaDoor
set_option linter.unusedVariables false
set_option linter.unusedSimpArgs false
open Go.RowKit Go.Sort Go.Shelf
attribute [local go_sem] Oper.semAt_some

/-- What a round that goes on keeps: what lay below B, and the iterator's variable. -/
def KpD (B D : Nat) (W W' : World) : Prop := Below B W W' ∧ W'.heap[D]? = W.heap[D]?
theorem KpD.trans {B D : Nat} {A W C : World} (h : KpD B D A W) (k : KpD B D W C) : KpD B D A C := ⟨h.1.trans k.1, k.2.trans h.2⟩

theorem gD_below {w w' : World} (D : Nat) (h : Below w.heap.size w w') : w.grownBy w' (some D) := ⟨h.os, h.tape, h.output, h.size, fun k hk _ => h.block k hk⟩
theorem gD_refl (w : World) (D : Nat) : w.grownBy w (some D) := gD_below D (Below.refl _ _)
theorem gD_trans {a b c : World} {D : Nat} (h : a.grownBy b (some D)) (k : b.grownBy c (some D)) : a.grownBy c (some D) :=
  ⟨k.os.trans h.os, k.tape.trans h.tape, k.output.trans h.output, Nat.le_trans h.size k.size, fun i hi hn => (k.block i (Nat.lt_of_lt_of_le hi h.size) hn).trans (h.block i hi hn)⟩
theorem gD_set (w : World) (D o : Nat) (v : Value) : w.grownBy (w.setCell ⟨D, o, none⟩ v) (some D) :=
  ⟨rfl, rfl, rfl, by simp [World.setCell], fun i _ hn => Below.heap_setCell w ⟨D, o, none⟩ v i (fun e => hn (by cases e; rfl))⟩
theorem gD_Below {a b : World} {D B : Nat} (h : a.grownBy b (some D)) (hB : B ≤ D) (hBa : B ≤ a.heap.size) : Below B a b := ⟨h.os, h.tape, h.output, h.size, fun i hi => h.block i (by omega) (by simp; omega)⟩
theorem set0 {w : World} {D : Nat} {c0 c1 : Value} {t : TypeId} (h : w.heap[D]? = some (.cells #[c0, c1] t (0, 0))) (v : Value) : (w.setCell ⟨D, 0, none⟩ v).heap[D]? = some (.cells #[v, c1] t (0, 0)) := by
  have hlt := (Array.getElem?_eq_some_iff.1 h).1
  simp [World.setCell, Array.getElem?_modify, h]
theorem set1 {w : World} {D : Nat} {c0 c1 : Value} {t : TypeId} (h : w.heap[D]? = some (.cells #[c0, c1] t (0, 0))) (v : Value) : (w.setCell ⟨D, 1, none⟩ v).heap[D]? = some (.cells #[c0, v] t (0, 0)) := by
  have hlt := (Array.getElem?_eq_some_iff.1 h).1
  simp [World.setCell, Array.getElem?_modify, h]
theorem lt_of_heap {W : World} {k : Nat} {o : Obj} (h : W.heap[k]? = some o) : k < W.heap.size := (Array.getElem?_eq_some_iff.1 h).1
theorem kept_heap {w w' : World} {D : Nat} {o : Obj} (h : w.heap[D]? = some o) (hb : Below w.heap.size w w') : w'.heap[D]? = some o := (hb.block D (lt_of_heap h)).trans h

def qB (s : ByteArray) : Bool := decide (s.data.toList.head? = some 34)
theorem wIsQuote (s : ByteArray) (w : World) :
    Calls Tryd.prog 76 #[.string s, .string ⟨#[34]⟩] w fun e w' => e = .returned (.bool (qB s)) ∧ w = w' :=
  (Tryd.strings_HasPrefix s ⟨#[34]⟩ w).mono fun e w' ⟨he, hw⟩ => ⟨by
    rw [he]; refine ret_bool ?_
    unfold qB Lib.hasPrefix
    cases s.data.toList with
    | nil => rfl
    | cons a l =>
      simp only [List.head?_cons, Option.some.injEq, List.isPrefixOf, Bool.and_true]
      rw [Bool.eq_iff_iff]; simp only [beq_iff_eq, decide_eq_true_iff]; exact eq_comm, hw.symm⟩

abbrev encF (x : FL × Bool) : Array Value := #[.agg #[.string ⟨x.1.1.toArray⟩, .bool x.1.2], .bool x.2]

theorem wFields (s : ByteArray) (w : World) :
    Calls Tryd.prog 49 #[.string s] w fun e w' => e = .returned (.func (.func 75) #[] #[.pointer (some ⟨w.heap.size, 0, none⟩)]) ∧ w' = w.alloc (.cells #[.string s] 9) := by
  go_enter Tryd.func49, Tryd.ntmps49
  go_wp2
  go_ret
  exact ⟨rfl, rfl⟩

def restLen (a : Act) : Nat := match a.tmps.getD 4 undef with | .string s => s.size | _ => 0

/-- What the iterator's run holds at each label. -/
structure AtF (J : List (FL × Bool) → World → Prop) (line : ByteArray) (B D : Nat) (pre : List (FL × Bool)) (rest : ByteArray) (wr : World) : Prop where
  seq : seqL line.data.toList = pre ++ seqC rest.data.toList
  here : J pre wr
  le : rest.size ≤ line.size
  amb : Amb wr

def JF (J : List (FL × Bool) → World → Prop) (line : ByteArray) (B Bn D l : Nat) (lab : Nat) (a : Act) (wr : World) : Prop :=
  ∃ (pre : List (FL × Bool)) (rest : ByteArray) (v5 c0 c1 u6 u7 u8 u9 u10 u11 u12 u13 u14 u15 u16 u17 u18 u19 u20 u21 u22 u23 u24 u25 u26 u27 u28 u29 u30 u31 u32 u33 u34 u35 u36 u37 u38 u39 u40 u41 u42 u43 u44 u45 u46 u47 u48 u49 u50 u51 u52 u53 u54 u55 u56 u57 : Value), a = { tmps := #[.func (.yield l) #[] #[], .pointer (some ⟨Bn, 0, none⟩), undef, .pointer (some ⟨D, 0, none⟩), .string rest, v5, u6, u7, u8, u9, u10, u11, u12, u13, u14, u15, u16, u17, u18, u19, u20, u21, u22, u23, u24, u25, u26, u27, u28, u29, u30, u31, u32, u33, u34, u35, u36, u37, u38, u39, u40, u41, u42, u43, u44, u45, u46, u47, u48, u49, u50, u51, u52, u53, u54, u55, u56, u57], defers := [] } ∧
    AtF J line B D pre rest wr ∧ wr.heap[D]? = some (.cells #[c0, c1] 50 (0, 0)) ∧
    ((lab = 0) ∨ (lab = 1 ∧ rest.data.toList.head? = some 34 ∧ c0 = .string ⟨#[]⟩ ∧ c1 = .bool true) ∨
      (lab = 2 ∧ c0 = .string ⟨(fieldAt rest.data.toList).1.1.toArray⟩ ∧ c1 = .bool (fieldAt rest.data.toList).1.2 ∧ v5 = .int .i64 (fieldAt rest.data.toList).2))

theorem AtF.step {J : List (FL × Bool) → World → Prop} {line : ByteArray} {B D : Nat} {pre : List (FL × Bool)} {rest : ByteArray} {w w' : World} (h : AtF J line B D pre rest w) (hJ : AbidesD D J) (hB : 9 ≤ B) (hBD : B ≤ D) (hBw : B ≤ w.heap.size) (hg : w.grownBy w' (some D)) : AtF J line B D pre rest w' :=
  { seq := h.seq, here := hJ _ _ _ _ h.here hg (fun r e => by cases e; rfl), le := h.le, amb := h.amb.belowB (gD_Below hg hBD hBw) hB }

set_option maxRecDepth 100000 in
set_option maxHeartbeats 1000000 in
theorem fields_stops (n : Nat) (hn : 1 ≤ n) (line : ByteArray) (B Bn D : Nat) (w : World) (h9 : 9 ≤ B) (hB : B ≤ w.heap.size) (ha : Amb w) (hs : line.size ≤ 8192)
    (hbn : w.cell? ⟨Bn, 0, none⟩ = some (.string line)) (hBn : Bn < w.heap.size) :
    SeqStopsD Fence.wide n Tryd.prog 75 #[.pointer (some ⟨Bn, 0, none⟩)] encF D (KpD B D) (fun xs => xs = seqL line.data.toList) (fun pre => pre <+: seqL line.data.toList) (seqL line.data.toList).length w := fun l J Jx W hW hWD hJ hJx hY h0' => by
  refine callsIn_of_wp Tryd.func75 rfl trivial ?_ rfl
  simp only [Tryd.ntmps75, List.size_toArray, List.length_cons, List.length_nil, Nat.reduceAdd, Nat.reduceSub, Array.replicate_succ, Array.replicate_zero, List.push_toArray, List.append_toArray, List.nil_append, List.cons_append]
  subst hWD
  have hbnW : W.cell? ⟨Bn, 0, none⟩ = some (.string line) := (hW.cell (p := ⟨Bn, 0, none⟩) hBn).trans hbn
  have hbnA : ∀ o, (W.alloc o).cell? ⟨Bn, 0, none⟩ = some (.string line) := fun o => (((Below.refl _ W).alloc (Nat.le_refl _) o).cell (p := ⟨Bn, 0, none⟩) (Nat.lt_of_lt_of_le hBn hW.size)).trans hbnW
  have hBD : B ≤ W.heap.size := Nat.le_trans hB hW.size
  refine wpIn_scope3 rfl rfl rfl rfl (JF J line B Bn W.heap.size l) (fun lab a _ => 3 * restLen a + (2 - lab)) ?hJ ?first ?p0 ?p1 ?p2
  case hJ =>
    rintro lab a wr ⟨pre, rest, v5, c0, c1, u6, u7, u8, u9, u10, u11, u12, u13, u14, u15, u16, u17, u18, u19, u20, u21, u22, u23, u24, u25, u26, u27, u28, u29, u30, u31, u32, u33, u34, u35, u36, u37, u38, u39, u40, u41, u42, u43, u44, u45, u46, u47, u48, u49, u50, u51, u52, u53, u54, u55, u56, u57, rfl, hA, hD, h | h | h⟩
    · exact .inl h
    · exact .inr (.inl h.1)
    · exact .inr (.inr h.1)
  case first =>
    intro h0
    gi_wp2_with fail
    · refine jumps_ret ?_
      refine bodyPost_ret (results_none rfl _ _ _) rfl ?_
      have hl : line.data.toList = [] := by have := ‹line.toList.isEmpty = true›; rw [Lib.toList_data, List.isEmpty_iff] at this; exact this
      exact ⟨⟨_, rfl⟩, .inl ⟨[], by rw [hl]; rfl, hJ _ _ _ none h0' (World.grownBy_alloc W _ none) (fun r h => by cases h)⟩⟩
    · refine wpIn_label ?_
      have hl : line.data.toList ≠ [] := by have := ‹line.toList.isEmpty = false›; rw [Lib.toList_data] at this; intro h; rw [h] at this; simp at this
      rename_i hk
      refine hk _ _ (h0 _ _ ?_)
      refine ⟨[], line, _, _, _, _, _, _, _, _, _, _, _, _, _, _, _, _, _, _, _, _, _, _, _, _, _, _, _, _, _, _, _, _, _, _, _, _, _, _, _, _, _, _, _, _, _, _, _, _, _, _, _, _, _, _, _, rfl, ?_, World.alloc_heap_new W _, .inl rfl⟩
      exact { seq := by unfold seqL; rw [if_neg hl]; rfl, here := hJ _ _ _ none h0' (World.grownBy_alloc W _ none) (fun r h => by cases h), le := Nat.le_refl _,
              amb := ha.below (hW.trans ((Below.refl _ W).alloc hW.size _)) }
  case p0 =>
    rintro a wr ⟨pre, rest, v5, c0, c1, u6, u7, u8, u9, u10, u11, u12, u13, u14, u15, u16, u17, u18, u19, u20, u21, u22, u23, u24, u25, u26, u27, u28, u29, u30, u31, u32, u33, u34, u35, u36, u37, u38, u39, u40, u41, u42, u43, u44, u45, u46, u47, u48, u49, u50, u51, u52, u53, u54, u55, u56, u57, rfl, hA, hD, _⟩
    have hDl := lt_of_heap hD
    have hd0 : wr.cell? ⟨W.heap.size, 0, none⟩ = some c0 := by simp [World.cell?, hD]
    have hd1 : wr.cell? ⟨W.heap.size, 1, none⟩ = some c1 := by simp [World.cell?, hD]
    have hf0 : wr.frozen? ⟨W.heap.size, 0, none⟩ = false := by simp [World.frozen?, hD]
    have hf1 : wr.frozen? ⟨W.heap.size, 1, none⟩ = false := by simp [World.frozen?, hD]
    have hle := hA.le
    clear hY h0' hbnA hbn hbnW
    cases hq : qB rest with
    | true =>
      gi_wp2_with (refine ⟨trivial, ?_⟩; gi_at_call 76; refine (callsIn_wide.2 (wIsQuote _ _)).mono ?_; rintro e w' ⟨rfl, rfl⟩)
      refine wpIn_goto ?_
      refine ⟨⟨pre, rest, _, _, _, _, _, _, _, _, _, _, _, _, _, _, _, _, _, _, _, _, _, _, _, _, _, _, _, _, _, _, _, _, _, _, _, _, _, _, _, _, _, _, _, _, _, _, _, _, _, _, _, _, _, _, _, rfl, hA.step hJ h9 hBD (by omega) (gD_trans (gD_set _ _ _ _) (gD_set _ _ _ _)), set1 (set0 hD _) _, .inr (.inl ⟨rfl, of_decide_eq_true hq, rfl, rfl⟩)⟩, ?_⟩
      show 3 * rest.size + 1 < 3 * rest.size + 2
      omega
    | false =>
      have hbl : bareN rest.data.toList ≤ rest.size := by have := bareN_le rest.data.toList; rwa [len_data] at this
      have HQ : Hid (fieldAt rest.data.toList = ((rest.data.toList.take (bareN rest.data.toList), false), bareN rest.data.toList)) := by
        unfold Hid fieldAt; rw [if_neg (of_decide_eq_false hq)]
      gi_wp2_with (refine ⟨trivial, ?_⟩; first | (gi_at_call 76; refine (callsIn_wide.2 (wIsQuote _ _)).mono ?_; rintro e w' ⟨rfl, rfl⟩) | (gi_at_call 77; refine (callsIn_wide.2 (wBareLength _ _ (by omega))).mono ?_; rintro e w' ⟨rfl, rfl⟩) )
      refine ⟨trivial, ?_⟩
      refine (callsIn_wide.2 (wClone _ _ (by simp; omega))).mono ?_
      rintro e w1 ⟨rfl, hb⟩
      have hD1 := kept_heap (set1 (set0 hD _) _) hb
      have hA1 := hA.step hJ h9 hBD (by omega) (gD_trans (gD_trans (gD_set wr W.heap.size 0 (.string ⟨#[]⟩)) (gD_set _ _ 1 (.bool false))) (gD_below _ hb))
      clear hd0 hd1 hf0 hf1
      have hd0 : w1.cell? ⟨W.heap.size, 0, none⟩ = some (.string ⟨#[]⟩) := by simp [World.cell?, hD1]
      have hf0 : w1.frozen? ⟨W.heap.size, 0, none⟩ = false := by simp [World.frozen?, hD1]
      have hsz1 : B ≤ w1.heap.size := by have := lt_of_heap hD1; omega
      clear hb
      gi_wp2
      refine wpIn_goto ?_
      refine ⟨⟨pre, rest, _, _, _, _, _, _, _, _, _, _, _, _, _, _, _, _, _, _, _, _, _, _, _, _, _, _, _, _, _, _, _, _, _, _, _, _, _, _, _, _, _, _, _, _, _, _, _, _, _, _, _, _, _, _, _, rfl, hA1.step hJ h9 hBD hsz1 (gD_set _ _ _ _), set0 hD1 _, .inr (.inr ⟨rfl, ?_, ?_, ?_⟩)⟩, ?_⟩
      · rw [HQ.out, Lib.extract_eq]; simp
      · rw [HQ.out]
      · rw [HQ.out]
      · show 3 * rest.size + 0 < 3 * rest.size + 2
        omega
  case p1 =>
    rintro a wr ⟨pre, rest, v5, c0, c1, u6, u7, u8, u9, u10, u11, u12, u13, u14, u15, u16, u17, u18, u19, u20, u21, u22, u23, u24, u25, u26, u27, u28, u29, u30, u31, u32, u33, u34, u35, u36, u37, u38, u39, u40, u41, u42, u43, u44, u45, u46, u47, u48, u49, u50, u51, u52, u53, u54, u55, u56, u57, rfl, hA, hD, h | h | h⟩ h2
    · simp at h
    · obtain ⟨_, hq, rfl, rfl⟩ := h
      have hd0 : wr.cell? ⟨W.heap.size, 0, none⟩ = some (.string ⟨#[]⟩) := by simp [World.cell?, hD]
      have hf0 : wr.frozen? ⟨W.heap.size, 0, none⟩ = false := by simp [World.frozen?, hD]
      have HQ : Hid (fieldAt rest.data.toList = ((rqT rest.data.toList, true), (rqN rest.data.toList).toNat)) := by
        unfold Hid fieldAt; rw [if_pos hq]
      have hn0 : 0 ≤ rqN rest.data.toList := by unfold rqN; split <;> omega
      have hle := hA.le
      have hsz := lt_of_heap hD
      clear hq hY h0' hbnA hbn hbnW
      gi_wp2_with fail
      refine ⟨trivial, ?_⟩
      refine (callsIn_wide.2 (wReadQuoted _ _ hA.amb (by omega))).mono ?_
      rintro e w1 ⟨rfl, hb⟩
      have hD1 := kept_heap hD hb
      have hA1 := hA.step hJ h9 hBD (by omega) (gD_below _ hb)
      clear hd0 hf0
      have hd0 : w1.cell? ⟨W.heap.size, 0, none⟩ = some (.string ⟨#[]⟩) := by simp [World.cell?, hD1]
      have hf0 : w1.frozen? ⟨W.heap.size, 0, none⟩ = false := by simp [World.frozen?, hD1]
      have hsz1 : B ≤ w1.heap.size := by have := lt_of_heap hD1; omega
      clear hb
      gi_wp2_with fail
      refine wpIn_label ?_
      rename_i hk
      refine hk _ _ (h2 _ _ ⟨pre, rest, _, _, _, _, _, _, _, _, _, _, _, _, _, _, _, _, _, _, _, _, _, _, _, _, _, _, _, _, _, _, _, _, _, _, _, _, _, _, _, _, _, _, _, _, _, _, _, _, _, _, _, _, _, _, _, rfl, hA1.step hJ h9 hBD hsz1 (gD_set _ _ _ _), set0 hD1 _, .inr (.inr ⟨rfl, ?_, ?_, ?_⟩)⟩ ?_)
      · rw [HQ.out]
      · rw [HQ.out]
      · rw [HQ.out]; exact ret_i (by simp only; omega)
      · show 3 * rest.size + 0 ≤ 3 * rest.size + 1
        omega
    · simp at h
  case p2 =>
    rintro a wr ⟨pre, rest, v5, c0, c1, u6, u7, u8, u9, u10, u11, u12, u13, u14, u15, u16, u17, u18, u19, u20, u21, u22, u23, u24, u25, u26, u27, u28, u29, u30, u31, u32, u33, u34, u35, u36, u37, u38, u39, u40, u41, u42, u43, u44, u45, u46, u47, u48, u49, u50, u51, u52, u53, u54, u55, u56, u57, rfl, hA, hD, h | h | h⟩
    · simp at h
    · simp at h
    · obtain ⟨_, rfl, rfl, rfl⟩ := h
      have hd0 : wr.cell? ⟨W.heap.size, 0, none⟩ = some (.string ⟨(fieldAt rest.data.toList).1.1.toArray⟩) := by simp [World.cell?, hD]
      have hd1 : wr.cell? ⟨W.heap.size, 1, none⟩ = some (.bool (fieldAt rest.data.toList).1.2) := by simp [World.cell?, hD]
      have hle := hA.le
      have hfl := fieldAt_le rest.data.toList
      rw [len_data] at hfl
      have hsz := lt_of_heap hD
      cases ho : okAt rest.data.toList with
      | false =>
        have hx : seqL line.data.toList = pre ++ [(([], false), false)] := by rw [hA.seq, seqC_bad ho]
        obtain ⟨fn, tmps, assign, body, hy, hR⟩ := hY pre (([], false), false) wr hA.here hsz (by rw [hx]; simp)
        simp only [encF] at hy
        have HO : (fieldAt rest.data.toList).2 = 0 ∨ ((fieldAt rest.data.toList).2 ≠ 0 ∧ ∃ h : (fieldAt rest.data.toList).2 < rest.size, rest[(fieldAt rest.data.toList).2].toNat ≠ 32) := by
          rcases Nat.eq_zero_or_pos (fieldAt rest.data.toList).2 with h | h
          · exact .inl h
          · refine .inr ⟨by omega, ?_⟩
            have hno : ¬ ((fieldAt rest.data.toList).2 ≠ 0 ∧ ((fieldAt rest.data.toList).2 = rest.data.toList.length ∨ rest.data.toList[(fieldAt rest.data.toList).2]? = some 32)) := by
              intro h'; have := okAt_iff.2 h'; rw [ho] at this; simp at this
            have hlt : (fieldAt rest.data.toList).2 < rest.size := by
              rcases Nat.lt_or_ge (fieldAt rest.data.toList).2 rest.size with h' | h'
              · exact h'
              · exact absurd ⟨by omega, .inl (by rw [len_data]; omega)⟩ hno
            refine ⟨hlt, fun h32 => hno ⟨by omega, .inr ?_⟩⟩
            rw [List.getElem?_eq_getElem (by rw [len_data]; exact hlt), Option.some.injEq]
            exact UInt8.toNat_inj.1 h32
        generalize hnn : (fieldAt rest.data.toList).2 = nn at *
        clear hnn ho hbnA hbn hbnW hY
        have HX := Lib.hid hx
        clear hx
        rcases HO with rfl | ⟨hn0, hlt, h32⟩
        · gi_wp2_with fail
          refine hR.mono ?_
          rintro e W3 (⟨rfl, hJ3, hk3⟩ | ⟨rfl, hJx3⟩)
          · gi_wp2_with fail
            refine jumps_ret ?_
            refine bodyPost_ret (results_none rfl _ _ _) rfl ?_
            exact ⟨⟨_, rfl⟩, .inl (by rw [HX.out]; exact hJ3)⟩
          · gi_wp2_with fail
            refine jumps_ret ?_
            refine bodyPost_ret (results_none rfl _ _ _) rfl ?_
            exact ⟨⟨_, rfl⟩, .inr ⟨_, by rw [HX.out]; exact List.prefix_refl _, hJx3⟩⟩
        · have hn0' : ((nn : Int) == 0) = false := by rw [beq_eq_false_iff_ne]; omega
          have h32' : ((rest[nn].toNat : Int) != 32) = true := by rw [bne_iff_ne]; omega
          clear h32
          gi_wp2_with fail
          refine hR.mono ?_
          rintro e W3 (⟨rfl, hJ3, hk3⟩ | ⟨rfl, hJx3⟩)
          · gi_wp2_with fail
            refine jumps_ret ?_
            refine bodyPost_ret (results_none rfl _ _ _) rfl ?_
            exact ⟨⟨_, rfl⟩, .inl (by rw [HX.out]; exact hJ3)⟩
          · gi_wp2_with fail
            refine jumps_ret ?_
            refine bodyPost_ret (results_none rfl _ _ _) rfl ?_
            exact ⟨⟨_, rfl⟩, .inr ⟨_, by rw [HX.out]; exact List.prefix_refl _, hJx3⟩⟩
      | true =>
        have HS := okAt_iff.1 ho
        by_cases he : (fieldAt rest.data.toList).2 = rest.data.toList.length
        · have hx : seqL line.data.toList = pre ++ [((fieldAt rest.data.toList).1, true)] := by rw [hA.seq, seqC_end ho he]
          obtain ⟨fn, tmps, assign, body, hy, hR⟩ := hY pre ((fieldAt rest.data.toList).1, true) wr hA.here hsz (by rw [hx]; simp)
          simp only [encF] at hy
          rw [len_data] at he
          have hn0 := HS.1
          have HX := Lib.hid hx
          clear hx HS ho hbnA hbn hbnW hY
          generalize hnn : (fieldAt rest.data.toList).2 = nn at *
          generalize hff : (fieldAt rest.data.toList).1 = ff at *
          clear hnn hff
          have hn0' : ((nn : Int) == 0) = false := by rw [beq_eq_false_iff_ne]; omega
          have hge : (rest.size : Int) ≤ nn := by omega
          have heq : ((nn : Int) == (rest.size : Int)) = true := by rw [beq_iff_eq]; omega
          clear he
          gi_wp2_with fail
          refine hR.mono ?_
          rintro e W3 (⟨rfl, hJ3, hk3⟩ | ⟨rfl, hJx3⟩)
          · gi_wp2_with fail
            refine jumps_ret ?_
            refine bodyPost_ret (results_none rfl _ _ _) rfl ?_
            exact ⟨⟨_, rfl⟩, .inl (by rw [HX.out]; exact hJ3)⟩
          · gi_wp2_with fail
            refine jumps_ret ?_
            refine bodyPost_ret (results_none rfl _ _ _) rfl ?_
            exact ⟨⟨_, rfl⟩, .inr ⟨_, by rw [HX.out]; exact List.prefix_refl _, hJx3⟩⟩
        · have hx : seqL line.data.toList = pre ++ ((fieldAt rest.data.toList).1, true) :: seqC (rest.data.toList.drop ((fieldAt rest.data.toList).2 + 1)) := by rw [hA.seq, seqC_step ho he]
          obtain ⟨fn, tmps, assign, body, hy, hR⟩ := hY pre ((fieldAt rest.data.toList).1, true) wr hA.here hsz (by rw [hx]; simp)
          simp only [encF] at hy
          have h32 := HS.2.resolve_left he
          rw [len_data] at he
          have hn0 := HS.1
          have HX := Lib.hid hx
          have hAm := hA.amb
          clear hx HS ho hbnA hbn hbnW hY hA
          generalize hnn : (fieldAt rest.data.toList).2 = nn at *
          generalize hff : (fieldAt rest.data.toList).1 = ff at *
          clear hnn hff
          have hlt : nn < rest.size := by omega
          have h32n : rest[nn].toNat = 32 := by
            rw [List.getElem?_eq_getElem (by rw [len_data]; exact hlt), Option.some.injEq] at h32
            have : rest[nn] = 32 := h32
            rw [this]; rfl
          have hn0' : ((nn : Int) == 0) = false := by rw [beq_eq_false_iff_ne]; omega
          have h32' : ((rest[nn].toNat : Int) != 32) = false := by rw [h32n]; rfl
          have hne : ((nn : Int) == (rest.size : Int)) = false := by rw [beq_eq_false_iff_ne]; omega
          clear he h32 h32n
          gi_wp2_with fail
          refine hR.mono ?_
          rintro e W3 (⟨rfl, hJ3, hk3⟩ | ⟨rfl, hJx3⟩)
          · gi_wp2_with fail
            refine wpIn_goto ?_
            refine ⟨⟨pre ++ [(ff, true)], _, _, _, _, _, _, _, _, _, _, _, _, _, _, _, _, _, _, _, _, _, _, _, _, _, _, _, _, _, _, _, _, _, _, _, _, _, _, _, _, _, _, _, _, _, _, _, _, _, _, _, _, _, _, _, _, rfl, ⟨?_, hJ3, ?_, hAm.belowB hk3.1 h9⟩, hk3.2.trans hD, .inl rfl⟩, ?_⟩
            · rw [HX.out, extract_from]; simp
            · simp; omega
            · simp only [restLen]
              simp
              omega
          · gi_wp2_with fail
            refine jumps_ret ?_
            refine bodyPost_ret (results_none rfl _ _ _) rfl ?_
            exact ⟨⟨_, rfl⟩, .inr ⟨_, by rw [HX.out]; exact ⟨_, by rw [List.append_assoc]; rfl⟩, hJx3⟩⟩
end Go.Proofs.YtoknncoolmbklaaDoor
