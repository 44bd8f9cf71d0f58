/- Split of the package returns the fields and the error that P1.3 names; conditions: Amb, the length fits an int. -/
import Derived.Test.YtoknncoolmbklaaDoorTooLong
import Derived.Maps.AppendAt
namespace Go.Proofs.YtoknncoolmbklaaDoor
set_option linter.unusedVariables false
set_option linter.unusedSimpArgs false
open Go.RowKit Go.Sort Go.Shelf
attribute [local go_sem] Oper.semAt_some

/-- The cells of fields. -/
def fcells (fs : List FL) : List Value := fs.flatMap fun f => [.string ⟨f.1.toArray⟩, .bool f.2]
theorem fcells_snoc (fs : List FL) (f : FL) : fcells (fs ++ [f]) = fcells fs ++ [.string ⟨f.1.toArray⟩, .bool f.2] := by simp [fcells]
theorem fcells_length (fs : List FL) : (fcells fs).length = fs.length * 2 := by
  induction fs with
  | nil => rfl
  | cons f fs ih => simp only [fcells, List.flatMap_cons, List.length_append, List.length_cons, List.length_nil] at *; omega
theorem fcells_get : ∀ (fs : List FL) (i : Nat) (h : i < fs.length), (fcells fs)[i * 2]? = some (.string ⟨fs[i].1.toArray⟩) ∧ (fcells fs)[i * 2 + 1]? = some (.bool fs[i].2) := by
  intro fs
  induction fs with
  | nil => intro i h; simp at h
  | cons f fs ih =>
    intro i h
    cases i with
    | zero => exact ⟨rfl, rfl⟩
    | succ i =>
      have := ih i (by simpa using h)
      have e : fcells (f :: fs) = .string ⟨f.1.toArray⟩ :: .bool f.2 :: fcells fs := rfl
      rw [e, show (i + 1) * 2 = i * 2 + 1 + 1 from by omega]
      simpa using this

theorem fieldsAt_of_owns {w : World} {base : Nat} {v : Value} {fs : List FL} (h : w.ownsRow base 50 2 v fs.length (fcells fs)) (hm : fs.length ≤ 4611686018427387904) : FieldsAt w v fs := by
  obtain ⟨hl, h | ⟨g, cap, cur, rfl, hg, hh, hn, hcap, hcs, htk⟩⟩ := h
  · exact .inl ⟨h.1, List.length_eq_zero_iff.1 h.2⟩
  · refine .inr ⟨g, 0, cap, rfl, (Array.getElem?_eq_some_iff.1 hh).1, hm, fun i hi => ?_⟩
    have hget := fcells_get fs i hi
    rw [← htk] at hget
    have hlt : i * 2 + 1 < fs.length * 2 := by omega
    rw [List.getElem?_take, if_pos (by omega), List.getElem?_take, if_pos hlt] at hget
    constructor
    · simp only [World.cell?, hh, Nat.zero_add]; rw [← Array.getElem?_toList]; exact hget.1
    · simp only [World.cell?, hh, Nat.zero_add]; rw [← Array.getElem?_toList]; exact hget.2
theorem ownsRow_mono {w : World} {base base' : Nat} {e : TypeId} {size : Nat} {v : Value} {n : Nat} {xs : List Value} (h : w.ownsRow base e size v n xs) (hb : base' ≤ base) : w.ownsRow base' e size v n xs := by
  obtain ⟨hl, h | ⟨g, cap, cur, hv, hg, r⟩⟩ := h
  · exact ⟨hl, .inl h⟩
  · exact ⟨hl, .inr ⟨g, cap, cur, hv, Nat.le_trans hb hg, r⟩⟩

theorem slice_of_owns {w : World} {base : Nat} {e : TypeId} {size : Nat} {v : Value} {n : Nat} {xs : List Value} (h : w.ownsRow base e size v n xs) : ∃ a l c, v = .slice a l c := by
  obtain ⟨_, h | ⟨g, cap, cur, hv, _⟩⟩ := h
  · exact ⟨_, _, _, h.1⟩
  · exact ⟨_, _, _, hv⟩
/-- What the caller of the iterator keeps between two rounds: b: the first of its variables; N: where the loop's own blocks begin. -/
structure ISp (w0 : World) (b N : Nat) (pre : List (FL × Bool)) (W : World) : Prop where
  row : ∃ v, Boxed W (b + 2) 32 v ∧ W.ownsRow (N + 3) 50 2 v pre.length (fcells (pre.map (·.1)))
  res : Boxed W b 32 (.slice none 0 0)
  err : Boxed W (b + 1) 23 (.int .i64 0)
  below : Below b w0 W
  all : ∀ x ∈ pre, x.2 = true
structure IxSp (w0 : World) (b : Nat) (c : Code) (pre : List (FL × Bool)) (W : World) : Prop where
  ret : c = .ret
  res : Boxed W b 32 (.slice none 0 0)
  err : Boxed W (b + 1) 23 (.int .i64 6)
  below : Below b w0 W
  last : ∃ p x, pre = p ++ [x] ∧ x.2 = false

theorem ISp_own (w0 : World) (b N : Nat) (hN : b + 3 ≤ N) : OwnD N (ISp w0 b N) := by
  intro s W W' row h hg hr
  have hne : ∀ k, k ≤ b + 2 → some k ≠ row := fun k hk e => by rcases hr k e.symm with h | h | h <;> omega
  obtain ⟨v, hv, hrow⟩ := h.row
  refine ⟨⟨v, hv.kept hg (hne _ (by omega)), hrow.kept hg ?_⟩, h.res.kept hg (hne _ (by omega)), h.err.kept hg (hne _ (by omega)), h.below.grown hg (by have := h.res.lt; omega) (fun k e => by rcases hr k e with h | h | h <;> omega), h.all⟩
  cases ho : v.ownBlock with
  | none => exact .inl rfl
  | some g =>
    right; intro e
    obtain ⟨_, h' | ⟨g', cap, cur, rfl, hg', _⟩⟩ := hrow
    · rw [h'.1] at ho; simp [Value.ownBlock] at ho
    · simp [Value.ownBlock] at ho; subst ho; rcases hr _ e.symm with h | h | h <;> omega
theorem IxSp_own (w0 : World) (b N : Nat) (hN : b + 3 ≤ N) (c : Code) : OwnD N (IxSp w0 b c) := by
  intro s W W' row h hg hr
  have hne : ∀ k, k ≤ b + 2 → some k ≠ row := fun k hk e => by rcases hr k e.symm with h | h | h <;> omega
  exact ⟨h.ret, h.res.kept hg (hne _ (by omega)), h.err.kept hg (hne _ (by omega)), h.below.grown hg (by have := h.res.lt; omega) (fun k e => by rcases hr k e with h | h | h <;> omega), h.last⟩

theorem infoField : (Tryd.prog.info? 50).map (fun i => (i.zero, i.size, i.bytes)) = some (some (.agg #[.string ByteArray.empty, .bool false]), 2, 24) := by kernel_rfl

set_option maxRecDepth 100000 in
set_option maxHeartbeats 1000000 in
theorem wSplit_in (s : ByteArray) (w : World) (ha : Amb w) (hs : s.size ≤ 8192) :
    CallsIn Fence.wide 5 Tryd.prog 23 #[.string s] w fun e w' => ∃ v, e = .returned (.tuple #[v, .int .i64 (splE s.data.toList)]) ∧ w'.ownsRow w.heap.size 50 2 v (splF s.data.toList).length (fcells (splF s.data.toList)) ∧ Below w.heap.size w w' := by
  refine callsIn_of_wp_marks Tryd.func23 rfl trivial ?_ rfl
  simp only [Tryd.ntmps23, List.size_toArray, List.length_cons, List.length_nil, Nat.reduceAdd, Nat.reduceSub, Array.replicate_succ, Array.replicate_zero, List.push_toArray, List.append_toArray, List.nil_append, List.cons_append]
  have hs' : (s.size : Int) ≤ 8192 := by omega
  gi_wp2_with (refine ⟨trivial, ?_⟩; gi_at_call 49; refine (callsIn_wide.2 (wFields _ _)).mono ?_; rintro e w' ⟨rfl, rfl⟩)
  obtain ⟨W0, hW0⟩ : ∃ W0, (((w.alloc (.cells #[.slice none 0 0] 32)).alloc (.cells #[.int .i64 0] 23)).alloc (.cells #[.slice none 0 0] 32)).alloc (.cells #[.string s] 9) = W0 := ⟨_, rfl⟩
  rw [hW0]
  have hsz : W0.heap.size = w.heap.size + 4 := by rw [← hW0]; simp
  have hB0 : Below w.heap.size w W0 := by
    rw [← hW0]; exact ((((Below.refl _ w).alloc (Nat.le_refl _) _).alloc (by simp) _).alloc (by simp; omega) _).alloc (by simp; omega) _
  have b0 : Boxed W0 w.heap.size 32 (.slice none 0 0) := by rw [← hW0]; exact (((Boxed.new w _ _).alloc _).alloc _).alloc _
  have b1 : Boxed W0 (w.heap.size + 1) 23 (.int .i64 0) := by
    rw [← hW0]; have := ((Boxed.new (w.alloc (.cells #[.slice none 0 0] 32)) 23 (.int .i64 0)).alloc (.cells #[.slice none 0 0] 32)).alloc (.cells #[.string s] 9); simpa using this
  have b2 : Boxed W0 (w.heap.size + 2) 32 (.slice none 0 0) := by
    rw [← hW0]; have := (Boxed.new ((w.alloc (.cells #[.slice none 0 0] 32)).alloc (.cells #[.int .i64 0] 23)) 32 (.slice none 0 0)).alloc (.cells #[.string s] 9); simpa using this
  have b3 : W0.cell? ⟨w.heap.size + 3, 0, none⟩ = some (.string s) := by
    rw [← hW0]; have := (Boxed.new (((w.alloc (.cells #[.slice none 0 0] 32)).alloc (.cells #[.int .i64 0] 23)).alloc (.cells #[.slice none 0 0] 32)) 9 (.string s)).cell; simpa using this
  have hN : w.heap.size + 3 ≤ W0.heap.size := by omega
  have hlen := seqL_len s.data.toList
  rw [len_data] at hlen
  obtain ⟨i0, hi, hz0, hz1, hz2⟩ := info_parts infoField
  clear hW0
  have hN4 : w.heap.size + 4 ≤ W0.heap.size := by omega
  have HSZ := Lib.hid hsz
  clear hsz
  refine wpIn_rangeFunc_D rfl (by omega) (gf := 75) (lb := #[.pointer (some ⟨w.heap.size + 3, 0, none⟩)]) rfl trivial (enters_of Tryd.func75 (by kernel_rfl) rfl)
    (fields_stops 4 (by omega) s w.heap.size (w.heap.size + 3) (W0.heap.size + 2) W0 ha.size (by omega) (ha.below hB0) hs b3 (by omega)) (fun h k => h.trans k)
    (fun W o' hl => ⟨⟨rfl, rfl, rfl, by simp, fun k hk => World.putObj_heap_other (by omega)⟩, World.putObj_heap_other (by omega)⟩)
    (Below.refl _ _) (fun _ => rfl) (ISp w w.heap.size W0.heap.size) (IxSp w w.heap.size) (ISp_own _ _ _ hN) (IxSp_own _ _ _ hN)
    ⟨⟨_, b2, World.ownsRow_nil _ _ _ _⟩, b0, b1, hB0, fun x hx => by simp at hx⟩
    (fun x a' W => ∃ Bx, W0.heap.size + 3 ≤ Bx ∧ W.heap[Bx]? = some (.cells #[.string ⟨x.1.1.toArray⟩, .bool x.1.2] 50 (0, 0)) ∧
      a' = { tmps := #[.string s, undef, .pointer (some ⟨w.heap.size, 0, none⟩), .pointer (some ⟨w.heap.size + 1, 0, none⟩), .pointer (some ⟨w.heap.size + 2, 0, none⟩), .pointer (some ⟨Bx, 0, none⟩), .bool x.2, .string s, .int .i64 s.size, .bool (decide ((8192 : Int) < s.size)), .string s, .func (.func 75) #[] #[.pointer (some ⟨w.heap.size + 3, 0, none⟩)], .agg #[.string ⟨x.1.1.toArray⟩, .bool x.1.2], .bool x.2, undef, undef, undef, undef, undef, undef, undef, undef, undef], defers := [] })
    ?ax ?assign ?body ?done ?stop
  case ax =>
    rintro x a' u W W' row ⟨Bx, hBx, hb, rfl⟩ hg hr
    exact ⟨Bx, hBx, (hg.block Bx (lt_of_heap hb) (fun e => by rcases hr _ e.symm with h | h | h <;> omega)).trans hb, rfl⟩
  case assign =>
    intro l pre x W K hI hN3 hK
    gi_wp2
    refine hK _ _ ((KeepsOthers.alloc _ _).from _) ⟨(Below.refl _ W).alloc (by omega) _, Below.heap_alloc _ _ _ (by omega)⟩ (OwnD.alloc (ISp_own _ _ _ hN) _ hI) ⟨W.heap.size, hN3, World.alloc_heap_new W _, rfl⟩
  case body =>
    rintro l pre x a' W hI hN3 ⟨Bx, hBx, hbx, rfl⟩ hpl
    obtain ⟨⟨v, hv, hrow⟩, hres, herr, hbw, hall⟩ := hI
    have hc0 := hres.cell
    have hf0 := hres.frozen
    have hc1 := herr.cell
    have hf1 := herr.frozen
    have hc2 := hv.cell
    have hf2 := hv.frozen
    have hx0 : W.cell? ⟨Bx, 0, none⟩ = some (.string ⟨x.1.1.toArray⟩) := by simp [World.cell?, hbx]
    have hx1 : W.cell? ⟨Bx, 1, none⟩ = some (.bool x.1.2) := by simp [World.cell?, hbx]
    cases hb : x.2 with
    | false =>
      gi_wp2
      exact ⟨((KeepsOthers.setCell _ _ _).trans (KeepsOthers.setCell _ _ _)).from _, rfl, (hres.set _).other (by omega) _, (herr.other (by omega) _).set _, (hbw.setCell (Nat.le_refl _) _).setCell (by simp) _, pre, x, rfl, hb⟩
    | true =>
      gi_wp2_with (gi_at_builtin; refine wpListIn_append_own _ rfl _ _ 32 rfl (W0.heap.size + 3) 50 i0 (.agg #[.string ByteArray.empty, .bool false]) 2 24 Tryd.underlying32 hi hz0 hz1 hz2 rfl (by decide) _ _ _ rfl (hrow.alloc _) ⟨W.heap.size, 0, none⟩ 1 1 [.string ⟨x.1.1.toArray⟩, .bool x.1.2] rfl rfl ?c1 ?c2 ?c3 ?c4 ?c5 ?c6)
      case c1 =>
        intro j u hj
        match j, hj with
        | 0, hj => simp at hj; subst hj; simp [World.cell?_alloc_new, Addr.add]
        | 1, hj => simp at hj; subst hj; simp [World.cell?_alloc_new, Addr.add]
        | j + 2, hj => simp at hj
      case c2 =>
        intro u hu
        simp at hu
        rcases hu with rfl | rfl <;> rfl
      case c3 => unfold maxLen; omega
      case c4 => omega
      case c5 => simp; omega
      case c6 =>
        intro v' w1 hown' hgrow _
        obtain ⟨g', cap', rfl⟩ := ownsRow_succ hown'
        have hv1 : Boxed w1 (w.heap.size + 2) 32 v := (hv.alloc _).kept hgrow (hv.not_row (by decide) hrow)
        have hres1 : Boxed w1 w.heap.size 32 (.slice none 0 0) := (hres.alloc _).kept hgrow (hres.not_row (by decide) hrow)
        have herr1 : Boxed w1 (w.heap.size + 1) 23 (.int .i64 0) := (herr.alloc _).kept hgrow (herr.not_row (by decide) hrow)
        have hc3 := hv1.cell
        have hf3 := hv1.frozen
        have hrl : ∀ k, v.ownBlock = some k → W0.heap.size + 3 ≤ k := fun k e => ((World.ownsRowF_of hrow).lt k e).1
        have hbw1 : Below w.heap.size w w1 := (hbw.alloc (by omega) _).grown hgrow (by simp; omega) (fun k e => by have := hrl k e; omega)
        have hbW : Below w.heap.size W w1 := ((Below.refl _ W).alloc (by omega) _).grown hgrow (by simp; omega) (fun k e => by have := hrl k e; omega)
        have hDk : w1.heap[W0.heap.size + 2]? = W.heap[W0.heap.size + 2]? := (hgrow.block _ (by simp; omega) (fun e => by have := hrl _ e.symm; omega)).trans (Below.heap_alloc _ _ _ (by omega))
        have hko : KeepsOthers W w1 := (KeepsOthers.alloc W _).trans (KeepsOthers.of_grownBy hgrow (fun r o e ho => by
          obtain ⟨_, h' | ⟨g, cap, cur, hv', _, hh, _⟩⟩ := hrow.alloc (.cells #[.string ⟨x.1.1.toArray⟩, .bool x.1.2] 50)
          · rw [h'.1] at e; simp [Value.ownBlock] at e
          · rw [hv'] at e; simp [Value.ownBlock] at e; subst e; rw [hh] at ho; injection ho with ho; rw [← ho]; rfl))
        clear hc0 hf0 hc1 hf1 hc2 hf2 hx0 hx1
        gi_wp2
        refine ⟨(hko.trans (KeepsOthers.setCell _ _ _)).from _, ⟨hbW.setCell (by simp) _, (Below.heap_setCell _ _ _ _ (by simp; omega)).trans hDk⟩, ⟨_, hv1.set _, ?_⟩, hres1.other (by omega) _, herr1.other (by omega) _, hbw1.setCell (by simp) _, ?_⟩
        · have := ownsRow_setCell_below hown' (a := ⟨w.heap.size + 2, 0, none⟩) (by simp; omega) (.slice (some ⟨g', 0, none⟩) (pre.length + 1) cap')
          rw [List.length_append, List.map_append, List.map_cons, List.map_nil, fcells_snoc]
          exact this
        · intro y hy
          rcases List.mem_append.1 hy with hy | hy
          · exact hall y hy
          · simp at hy; rw [hy]; exact hb
  case done =>
    rintro D ys W hD rfl hI hDf
    obtain ⟨⟨v, hv, hrow⟩, hres, herr, hbw, hall⟩ := hI
    have hform : formB s.data.toList = true := by unfold formB; rw [List.all_eq_true]; exact hall
    rw [show (seqL s.data.toList).map (·.1) = allF s.data.toList from rfl] at hrow
    have hlF : (seqL s.data.toList).length = (allF s.data.toList).length := by simp [allF]
    rw [hlF] at hrow hlen
    have hfa := fieldsAt_of_owns hrow (by omega)
    have hc2 := hv.cell
    have hwz := hv.lt
    cases hlb : longB (allF s.data.toList) with
    | true =>
      have HS := Lib.hid (splE_many (l := s.data.toList) (by rw [len_data]; omega) hform hlb)
      clear hform hall
      gi_wp2_with fail
      refine ⟨trivial, ?_⟩
      refine (callsIn_wide.2 (wTooLong v _ W hfa)).mono ?_
      rintro e w1 ⟨rfl, hb⟩
      have hres1 : Boxed w1 w.heap.size 32 (.slice none 0 0) := kept_heap hres hb
      have herr1 : Boxed w1 (w.heap.size + 1) 23 (.int .i64 0) := kept_heap herr hb
      have hv1 : Boxed w1 (w.heap.size + 2) 32 v := kept_heap hv hb
      have hD1 := kept_heap hDf hb
      have hbw1 : Below w.heap.size w w1 := hbw.trans (hb.mono (by omega))
      have hc0 := hres1.cell
      have hf0 := hres1.frozen
      have hc1 := herr1.cell
      have hf1 := herr1.frozen
      clear hc2
      have hc2 := hv1.cell
      have hDlt := lt_of_heap hD1
      gi_wp2_with fail
      have r0 : Boxed ((w1.setCell ⟨w.heap.size, 0, none⟩ (.slice none 0 0)).setCell ⟨w.heap.size + 1, 0, none⟩ (.int .i64 3)) w.heap.size 32 (.slice none 0 0) := (hres1.set _).other (by omega) _
      have r1 : Boxed ((w1.setCell ⟨w.heap.size, 0, none⟩ (.slice none 0 0)).setCell ⟨w.heap.size + 1, 0, none⟩ (.int .i64 3)) (w.heap.size + 1) 23 (.int .i64 3) := (herr1.other (by omega) _).set _
      have rD : ((w1.setCell ⟨w.heap.size, 0, none⟩ (.slice none 0 0)).setCell ⟨w.heap.size + 1, 0, none⟩ (.int .i64 3)).heap[D]? = some (.deferred (some [])) := ((KeepsOthers.setCell _ _ _).trans (KeepsOthers.setCell _ _ _)).same _ _ hD1 rfl
      have rB : Below w.heap.size w ((w1.setCell ⟨w.heap.size, 0, none⟩ (.slice none 0 0)).setCell ⟨w.heap.size + 1, 0, none⟩ (.int .i64 3)) := (hbw1.setCell (Nat.le_refl _) _).setCell (by simp) _
      refine ⟨by simp, .inl ⟨_, _, rfl, run_takeDeferred rD, ?_⟩⟩
      have q0 := (r0.kept (grownBy_putObj' _ D (.deferred none)) (by simp; omega)).cell
      have q1 := (r1.kept (grownBy_putObj' _ D (.deferred none)) (by simp; omega)).cell
      refine ⟨.tuple #[.slice none 0 0, .int .i64 3], by simp [results, Tryd.results23, go_sem, q0, q1], .slice none 0 0, by rw [HS.out.1], ?_, rB.grown (grownBy_putObj' _ D (.deferred none)) (by have := rB.size; omega) (fun k e => by cases e; omega)⟩
      rw [HS.out.2]; exact World.ownsRow_nil _ _ _ _
    | false =>
      obtain ⟨va, vn, vc, rfl⟩ := slice_of_owns hrow
      have HS := Lib.hid (splE_ok (l := s.data.toList) (by rw [len_data]; omega) hform hlb)
      clear hform hall
      gi_wp2_with fail
      refine ⟨trivial, ?_⟩
      refine (callsIn_wide.2 (wTooLong _ _ W hfa)).mono ?_
      rintro e w1 ⟨rfl, hb⟩
      have hres1 : Boxed w1 w.heap.size 32 (.slice none 0 0) := kept_heap hres hb
      have herr1 : Boxed w1 (w.heap.size + 1) 23 (.int .i64 0) := kept_heap herr hb
      have hv1 : Boxed w1 (w.heap.size + 2) 32 (.slice va vn vc) := kept_heap hv hb
      have hD1 := kept_heap hDf hb
      have hbw1 : Below w.heap.size w w1 := hbw.trans (hb.mono (by omega))
      have hc0 := hres1.cell
      have hf0 := hres1.frozen
      have hc1 := herr1.cell
      have hf1 := herr1.frozen
      clear hc2
      have hc2 := hv1.cell
      have hDlt := lt_of_heap hD1
      gi_wp2_with fail
      have hrow1 : w1.ownsRow (W0.heap.size + 3) 50 2 (.slice va vn vc) (allF s.data.toList).length (fcells (allF s.data.toList)) := hrow.kept (row := none) ⟨hb.os, hb.tape, hb.output, hb.size, fun k hk _ => hb.block k hk⟩ (by cases (Value.slice va vn vc).ownBlock <;> simp)
      have r0 : Boxed ((w1.setCell ⟨w.heap.size, 0, none⟩ (.slice va vn vc)).setCell ⟨w.heap.size + 1, 0, none⟩ (.int .i64 0)) w.heap.size 32 (.slice va vn vc) := (hres1.set _).other (by omega) _
      have r1 : Boxed ((w1.setCell ⟨w.heap.size, 0, none⟩ (.slice va vn vc)).setCell ⟨w.heap.size + 1, 0, none⟩ (.int .i64 0)) (w.heap.size + 1) 23 (.int .i64 0) := (herr1.other (by omega) _).set _
      have rD : ((w1.setCell ⟨w.heap.size, 0, none⟩ (.slice va vn vc)).setCell ⟨w.heap.size + 1, 0, none⟩ (.int .i64 0)).heap[D]? = some (.deferred (some [])) := ((KeepsOthers.setCell _ _ _).trans (KeepsOthers.setCell _ _ _)).same _ _ hD1 rfl
      have rB : Below w.heap.size w ((w1.setCell ⟨w.heap.size, 0, none⟩ (.slice va vn vc)).setCell ⟨w.heap.size + 1, 0, none⟩ (.int .i64 0)) := (hbw1.setCell (Nat.le_refl _) _).setCell (by simp) _
      have rR := ownsRow_setCell_below (ownsRow_setCell_below hrow1 (a := ⟨w.heap.size, 0, none⟩) (by simp; omega) (.slice va vn vc)) (a := ⟨w.heap.size + 1, 0, none⟩) (by simp; omega) (.int .i64 0)
      refine ⟨by simp, .inl ⟨_, _, rfl, run_takeDeferred rD, ?_⟩⟩
      have q0 := (r0.kept (grownBy_putObj' _ D (.deferred none)) (by simp; omega)).cell
      have q1 := (r1.kept (grownBy_putObj' _ D (.deferred none)) (by simp; omega)).cell
      refine ⟨.tuple #[.slice va vn vc, .int .i64 0], by simp [results, Tryd.results23, go_sem, q0, q1], .slice va vn vc, by rw [HS.out.1], ?_, rB.grown (grownBy_putObj' _ D (.deferred none)) (by have := rB.size; omega) (fun k e => by cases e; omega)⟩
      rw [HS.out.2]; exact ownsRow_mono (ownsRow_putObj rR _ rD rfl) (by omega)
  case stop =>
    rintro D c pre W hD hpre hIx hDf
    obtain ⟨rfl, hres, herr, hbw, p, x, rfl, hx⟩ := hIx
    have HS := Lib.hid (splE_form (l := s.data.toList) (by rw [len_data]; omega) (by
      obtain ⟨r, hr⟩ := hpre
      unfold formB
      rw [← hr, List.all_append, List.all_append]
      simp [hx]))
    gi_wp2
    refine ⟨by simp, .inl ⟨_, _, rfl, run_takeDeferred hDf, ?_⟩⟩
    have q0 := (hres.kept (grownBy_putObj' _ D (.deferred none)) (by simp; omega)).cell
    have q1 := (herr.kept (grownBy_putObj' _ D (.deferred none)) (by simp; omega)).cell
    refine ⟨.tuple #[.slice none 0 0, .int .i64 6], by simp [results, Tryd.results23, go_sem, q0, q1], .slice none 0 0, by rw [HS.out.1], ?_, hbw.grown (grownBy_putObj' _ D (.deferred none)) (by have := hbw.size; omega) (fun k e => by cases e; omega)⟩
    rw [HS.out.2]; exact World.ownsRow_nil _ _ _ _

set_option maxRecDepth 100000 in
theorem wSplit (s : ByteArray) (w : World) (ha : Amb w) (hs : s.size ≤ 9223372036854775807) :
    Calls Tryd.prog 23 #[.string s] w fun e w' => ∃ v, e = .returned (.tuple #[v, .int .i64 (splE s.data.toList)]) ∧ w'.ownsRow w.heap.size 50 2 v (splF s.data.toList).length (fcells (splF s.data.toList)) ∧ Below w.heap.size w w' := by
  by_cases h : s.size ≤ 8192
  · exact callsIn_wide.1 (wSplit_in s w ha h)
  · have HS := Lib.hid (splE_long (l := s.data.toList) (by rw [len_data]; omega))
    have h' : (8192 : Int) < s.size := by omega
    clear h
    go_enter Tryd.func23, Tryd.ntmps23
    go_wp2_with fail
    refine bodyPost_ret (v := .tuple #[.slice none 0 0, .int .i64 3]) (by simp [results, Tryd.results23, go_sem]) rfl ⟨.slice none 0 0, by rw [HS.out.1], ?_, ?_⟩
    · rw [HS.out.2]; exact World.ownsRow_nil _ _ _ _
    · exact ((Below.refl _ w).alloc (Nat.le_refl _) _).alloc (by simp) _
end Go.Proofs.YtoknncoolmbklaaDoor
