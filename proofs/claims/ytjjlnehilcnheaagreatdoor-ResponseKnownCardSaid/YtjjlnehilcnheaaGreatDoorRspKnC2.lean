/- RspKnC, part 2: what the proof needs, in the order of its texts. -/
import Derived.Test.YtjjlnehilcnheaaGreatDoorRspKnC1
import Derived.Laws.StructEq
import Derived.Laws.Slices
namespace Go.Ev
set_option linter.unusedVariables false
set_option linter.unusedSimpArgs false
variable {η : Nat → Value}

theorem bind_ok {α β : Type} {x : M α} {f : α → M β} {b : β} : (x >>= f) = Except.ok b ↔ ∃ a, x = .ok a ∧ f a = .ok b := by
  cases x with
  | error e => simp [bind, Except.bind]
  | ok a => simp [bind, Except.bind]
theorem no_ok {α : Type} {s : String} {a : α} : ((no s : M α) = Except.ok a) ↔ False := by simp [no]
theorem orNo_ok {α : Type} {s : String} {o : Option α} {a : α} : orNo s o = Except.ok a ↔ o = some a := by
  cases o <;> simp [orNo, no]
theorem okk {α : Type} {a b : α} : ((Except.ok a : M α) = .ok b) ↔ a = b := by constructor <;> intro h <;> first | (injection h) | rw [h]
theorem ite_no {α : Type} {c : Prop} [Decidable c] {s : String} {x : M α} {a : α} : ((if c then no s else x) = Except.ok a) ↔ ¬ c ∧ x = .ok a := by
  by_cases h : c <;> simp [h, no]
theorem ite_no' {α : Type} {c : Prop} [Decidable c] {s : String} {x : M α} {a : α} : ((if c then x else no s) = Except.ok a) ↔ c ∧ x = .ok a := by
  by_cases h : c <;> simp [h, no]

section types
variable {P : Program} {w : World} {t : TypeId}
theorem infoA_ok {i : TypeInfo} : infoA P t = .ok i ↔ P.info? t = some i := orNo_ok
theorem undA_ok {d : TypeDesc} : undA P t = .ok d ↔ P.underlying t = some d := orNo_ok
theorem run_und {d : TypeDesc} (h : P.underlying t = some d) : (underlying t).run P w = .ok d w := by simp [underlying, h]
theorem run_info {i : TypeInfo} (h : P.info? t = some i) : (typeInfo t).run P w = .ok i w := by simp [typeInfo, h]
theorem sizeA_ok {n : Nat} : sizeA P t = .ok n ↔ ∃ i, P.info? t = some i ∧ i.size = n := by
  simp only [sizeA, bind_ok, infoA_ok, okk]
theorem run_size {n : Nat} (h : sizeA P t = .ok n) : (sizeOf t).run P w = .ok n w := by
  obtain ⟨i, hi, rfl⟩ := sizeA_ok.1 h
  simp [sizeOf, run_info hi]
theorem run_agg {b : Bool} (h : isAggA P t = .ok b) : (isAgg t).run P w = .ok b w := by
  simp only [isAggA, bind_ok, undA_ok] at h
  obtain ⟨d, hd, h⟩ := h
  simp only [isAgg, Sem.run_bind, run_und hd, Result.andThen]
  cases d <;> simp only [okk] at h <;> subst h <;> rfl
theorem zeroA_ok {v : Value} : zeroA P t = .ok v ↔ (∃ i, P.info? t = some i ∧ i.zero = some v) ∧ bareA v = true := by
  simp only [zeroA, bind_ok, infoA_ok, orNo_ok]
  constructor
  · rintro ⟨i, hi, x, hz, h⟩
    rw [ite_no', okk] at h
    obtain ⟨hb, rfl⟩ := h
    exact ⟨⟨i, hi, hz⟩, hb⟩
  · rintro ⟨⟨i, hi, hz⟩, hb⟩
    exact ⟨i, hi, v, hz, by rw [if_pos hb]⟩
theorem run_zero {v : Value} (h : zeroA P t = .ok v) : (zeroValue t).run P w = .ok v w := by
  obtain ⟨⟨i, hi, hz⟩, _⟩ := zeroA_ok.1 h
  simp [zeroValue, run_info hi, hz]
theorem VR.zero {ρ : Env} {v : Value} (h : zeroA P t = .ok v) : VR η ρ v v := .bareA (zeroA_ok.1 h).2
end types

/-- What an address says. -/
def AdR (ρ : Env) (a b : Addr) : Prop := a.spot = none ∧ ∃ n blk d, ρ a.block = some (blk, d, n) ∧ b = ⟨blk, d + a.off, none⟩
theorem VR.ptr_inv {ρ : Env} {a : Addr} {x : Value} (h : VR η ρ (.pointer (some a)) x) : ∃ b, x = .pointer (some b) ∧ AdR ρ a b := by
  cases h with
  | ptr h => exact ⟨_, rfl, rfl, _, _, _, h, rfl⟩
theorem AdR.ptr {ρ : Env} {a b : Addr} (h : AdR ρ a b) : VR η ρ (.pointer (some a)) (.pointer (some b)) := by
  obtain ⟨h1, n, blk, d, h2, rfl⟩ := h
  obtain ⟨r, o, s⟩ := a
  simp only at h1; subst h1
  exact .ptr h2
theorem AdR.spot {ρ : Env} {a b : Addr} (h : AdR ρ a b) : b.spot = none := by obtain ⟨_, n, blk, d, _, rfl⟩ := h; rfl
theorem add_eq {a : Addr} (h : a.spot = none) (n : Nat) : a.add n = ⟨a.block, a.off + n, none⟩ := by
  obtain ⟨b, o, s⟩ := a
  simp only at h; subst h
  unfold Addr.add
  by_cases hn : n = 0
  · simp [hn]
  · simp [hn]
theorem AdR.add {ρ : Env} {a b : Addr} (h : AdR ρ a b) (n : Nat) : AdR ρ (addO a n) (b.add n) := by
  rw [add_eq h.spot]
  obtain ⟨h1, m, blk, d, h2, rfl⟩ := h
  exact ⟨rfl, m, blk, d, h2, by simp [addO, Nat.add_assoc]⟩
theorem AdR.mono {ρ ρ' : Env} (hl : Env.le ρ ρ') {a b : Addr} (h : AdR ρ a b) : AdR ρ' a b := by
  obtain ⟨h1, m, blk, d, h2, rfl⟩ := h
  exact ⟨h1, m, blk, d, hl _ _ h2, rfl⟩
theorem addrA_ok {v : Value} {a : Addr} : addrA v = .ok a ↔ v = .pointer (some a) ∧ a.spot = none := by
  unfold addrA
  cases v <;> try simp [no]
  rename_i p
  cases p with
  | none => simp [no]
  | some b =>
    simp only []
    constructor
    · intro h; by_cases hb : b.spot = none
      · simp only [hb, if_true, okk] at h; subst h; exact ⟨rfl, hb⟩
      · simp [hb, no] at h
    · rintro ⟨h, h'⟩; cases h; simp [h']

theorem cellsAt_ok {h : AH} {r : Nat} {t : TypeId × List Value × Bool × Nat} : cellsAt h r = .ok t ↔ h.objs.get r = some (.cells t.1 t.2.1 t.2.2.1 t.2.2.2) := by
  unfold cellsAt
  split
  · rename_i ty c p own he
    rw [okk, he]
    constructor
    · rintro rfl; rfl
    · intro h; simp at h; obtain ⟨h1, h2, h3, h4⟩ := h; obtain ⟨a, b, c, d⟩ := t; simp_all
  · rename_i hn
    rw [no_ok]
    constructor
    · exact False.elim
    · intro h; exact hn _ _ _ _ h
theorem mapOf_ok {h : AH} {r : Nat} {t : List MapEntry × Nat × Bool} : mapOf h r = .ok t ↔ h.objs.get r = some (.map t.1 t.2.1 t.2.2) := by
  unfold mapOf
  split
  · rename_i es c own he
    rw [okk, he]
    constructor
    · rintro rfl; rfl
    · intro h; simp at h; obtain ⟨h1, h2, h3⟩ := h; obtain ⟨a, b, c⟩ := t; simp_all
  · rename_i hn
    rw [no_ok]
    constructor
    · exact False.elim
    · intro h; exact hn _ _ _ h

section heap
variable {P : Program} {ρ : Env} {B : Bd} {h : AH} {w : World}
/-- The cells of a block. -/
theorem HR.cells (H : HR η ρ B h w) {r : Nat} {ty : TypeId} {c : List Value} {p : Bool} {own : Nat} (hg : h.objs.get r = some (.cells ty c p own)) :
    ∃ b d n C lo hi, ρ r = some (b, d, n) ∧ w.heap[b]? = some (.cells C ty (lo, hi)) ∧ CR η ρ ty c p own d n C ty lo hi ∧ (own ≠ 0 → B.n ≤ b) := by
  obtain ⟨b, d, n, o, h1, h2, ⟨C, ty', lo, hi, rfl, h3⟩, h4⟩ := H.obj _ _ hg
  have := h3.ty; subst this
  exact ⟨b, d, n, C, lo, hi, h1, h2, h3, fun e => h4 (by simpa [ownO] using e)⟩
theorem HR.map (H : HR η ρ B h w) {r : Nat} {es : List MapEntry} {c : Nat} {own : Bool} (hg : h.objs.get r = some (.map es c own)) :
    ∃ b d n E, ρ r = some (b, d, n) ∧ w.heap[b]? = some (.map E c) ∧ L2 (ER η ρ) es E.toList ∧ (own = true → B.n ≤ b) := by
  obtain ⟨b, d, n, o, h1, h2, ⟨E, rfl, h3⟩, h4⟩ := H.obj _ _ hg
  exact ⟨b, d, n, E, h1, h2, h3, h4⟩
theorem cell_of {b : Nat} {C : Array Value} {ty : TypeId} {fr : Nat × Nat} (hb : w.heap[b]? = some (.cells C ty fr)) (o : Nat) : w.cell? ⟨b, o, none⟩ = C.toList[o]? := by
  simp [World.cell?, hb]
theorem getC_ok (H : HR η ρ B h w) {a b : Addr} {n : Nat} {l : List Value} (hg : getC h a n = .ok l) (hab : AdR ρ a b) :
    ∃ vs, LR η ρ l vs ∧ vs.length = n ∧ ∀ j v, vs[j]? = some v → w.cell? (b.add j) = some v := by
  unfold getC at hg
  split at hg
  · rename_i ty c p own hc
    rw [ite_no', okk] at hg
    obtain ⟨⟨hlen, hsp⟩, rfl⟩ := hg
    obtain ⟨bb, d, m, C, lo, hi, h1, h2, h3, h4⟩ := H.cells (cellsAt_ok.1 hc)
    obtain ⟨_, m', blk, d', h5, rfl⟩ := hab
    rw [h1] at h5; cases h5
    have hsz : C.toList.length = d + m := h3.size
    have hcl : c.length ≤ m := h3.len
    refine ⟨(C.toList.drop (d + a.off)).take n, ⟨?_, ?_⟩, ?_, ?_⟩
    · simp only [List.length_take, List.length_drop]; omega
    · intro i v x hv hx
      rw [List.getElem?_take] at hv hx
      split at hv
      · rename_i hi'
        rw [if_pos hi', List.getElem?_drop] at hx
        rw [List.getElem?_drop] at hv
        obtain ⟨y, hy, hvy⟩ := h3.at_ _ _ hv
        rw [show d + a.off + i = d + (a.off + i) by omega, hy] at hx
        cases hx; exact hvy
      · cases hv
    · simp only [List.length_take, List.length_drop]; omega
    · intro j v hv
      rw [add_eq rfl, cell_of h2]
      rw [List.getElem?_take] at hv
      split at hv
      · rw [List.getElem?_drop] at hv; simpa [Nat.add_assoc] using hv
      · cases hv
  · cases hg
theorem loadA_ok (H : HR η ρ B h w) {t : TypeId} {a b : Addr} {v : Value} (hl : loadA P h t a = .ok v) (hab : AdR ρ a b) :
    ∃ x, (loadVar t b).run P w = .ok x w ∧ VR η ρ v x := by
  simp only [loadA, bind_ok] at hl
  obtain ⟨g, hg, hl⟩ := hl
  cases g with
  | true =>
    simp only [if_true, bind_ok] at hl
    obtain ⟨n, hn, l, hc, hl⟩ := hl
    rw [okk] at hl; subst hl
    obtain ⟨vs, h1, h2, h3⟩ := getC_ok H hc hab
    refine ⟨.agg vs.toArray, ?_, .agg' h1⟩
    simp only [loadVar, Sem.run_bind, run_agg hg, Result.andThen_ok, if_true, run_size hn]
    rw [← h2, run_loadCells_list w b vs h3]; rfl
  | false =>
    simp only [if_false, Bool.false_eq_true, bind_ok] at hl
    obtain ⟨l, hc, hl⟩ := hl
    obtain ⟨vs, h1, h2, h3⟩ := getC_ok H hc hab
    split at hl
    · rw [okk] at hl; subst hl
      obtain ⟨x, m', rfl, hx, _⟩ := h1.inv_cons
      refine ⟨x, ?_, hx⟩
      have := h3 0 x rfl
      have hz : b.add 0 = b := by simp [Addr.add]
      rw [hz] at this
      simp [loadVar, run_agg hg, this]
    · simp [no] at hl
end heap

/-- A world with another heap. -/
def wput (w : World) (b : Nat) (o : Obj) : World := { w with heap := w.heap.setIfInBounds b o }
theorem wput_get (w : World) (b : Nat) (o : Obj) (k : Nat) : (wput w b o).heap[k]? = if k = b ∧ b < w.heap.size then some o else w.heap[k]? := by
  simp only [wput, Array.getElem?_setIfInBounds]
  by_cases h : b = k
  · subst h
    by_cases hb : b < w.heap.size
    · simp [hb]
    · simp [hb]
  · have : ¬ (k = b) := fun e => h e.symm
    simp [h, this]
theorem heap_lt {w : World} {b : Nat} {o : Obj} (h : w.heap[b]? = some o) : b < w.heap.size := by
  rcases Nat.lt_or_ge b w.heap.size with h' | h'
  · exact h'
  · rw [Array.getElem?_eq_none h'] at h; cases h
theorem setCell_eq {w : World} {b o : Nat} {C : Array Value} {ty : TypeId} {fr : Nat × Nat} (hb : w.heap[b]? = some (.cells C ty fr)) (v : Value) :
    w.setCell ⟨b, o, none⟩ v = wput w b (.cells (C.setIfInBounds o v) ty fr) := by
  unfold World.setCell wput
  congr 1
  apply Array.ext_getElem?
  intro k
  rw [Array.getElem?_modify, Array.getElem?_setIfInBounds]
  by_cases h : b = k
  · subst h
    rw [if_pos rfl, if_pos rfl, hb, if_pos (heap_lt hb)]
    simp
  · rw [if_neg h, if_neg h]
theorem wput_wput (w : World) (b : Nat) (o o' : Obj) : wput (wput w b o) b o' = wput w b o' := by
  unfold wput
  congr 1
  apply Array.ext_getElem?
  intro k
  rw [Array.getElem?_setIfInBounds, Array.getElem?_setIfInBounds, Array.getElem?_setIfInBounds, Array.size_setIfInBounds]
  by_cases h : b = k
  · simp [h]
  · simp [h]
theorem splice_len (c : List Value) (off : Nat) (vs : List Value) (h : off + vs.length ≤ c.length) : (splice c off vs).length = c.length := by
  simp only [splice, List.length_append, List.length_take, List.length_drop]; omega
theorem splice_get (c : List Value) (off : Nat) (vs : List Value) (h : off + vs.length ≤ c.length) (k : Nat) :
    (splice c off vs)[k]? = if off ≤ k ∧ k < off + vs.length then vs[k - off]? else c[k]? := by
  have h1 : (c.take off).length = off := by rw [List.length_take]; omega
  unfold splice
  by_cases hk : k < off
  · rw [if_neg (by omega), List.append_assoc, List.getElem?_append_left (by omega), List.getElem?_take, if_pos hk]
  · by_cases hk2 : k < off + vs.length
    · rw [if_pos (by omega), List.append_assoc, List.getElem?_append_right (by omega), h1, List.getElem?_append_left (by omega)]
    · rw [if_neg (by omega), List.getElem?_append_right (by rw [List.length_append]; omega), List.getElem?_drop]
      congr 1; rw [List.length_append]; omega
theorem run_storeCells {P : Program} {ty : TypeId} {lo hi : Nat} {b o : Nat} : ∀ (vs : List Value) (i : Nat) (C : Array Value) (w : World),
    w.heap[b]? = some (.cells C ty (lo, hi)) → (∀ v ∈ vs, v.oneCell' = true) → o + i + vs.length ≤ C.toList.length → (∀ j, j < vs.length → ¬ (lo ≤ o + i + j ∧ o + i + j < hi)) →
    ∃ C' : Array Value, C'.toList = splice C.toList (o + i) vs ∧ (storeCells ⟨b, o, none⟩ vs i).run P w = .ok () (wput w b (.cells C' ty (lo, hi)))
  | [], i, C, w, hb, _, _, _ => by
    refine ⟨C, by simp [splice], ?_⟩
    simp only [storeCells, Sem.run_pure, Result.ok.injEq, true_and]
    unfold wput
    have : w.heap.setIfInBounds b (.cells C ty (lo, hi)) = w.heap := by
      apply Array.ext_getElem?
      intro k
      rw [Array.getElem?_setIfInBounds]
      by_cases h : b = k
      · subst h; rw [if_pos rfl, if_pos (heap_lt hb), hb]
      · rw [if_neg h]
    rw [this]
  | v :: vs, i, C, w, hb, h1, h2, h3 => by
    have hl : o + i < C.toList.length := by simp only [List.length_cons] at h2; omega
    have e1 : (⟨b, o, none⟩ : Addr).add i = ⟨b, o + i, none⟩ := add_eq rfl i
    have hc : w.cell? ⟨b, o + i, none⟩ = some C.toList[o + i] := by rw [cell_of hb]; exact List.getElem?_eq_getElem hl
    have hf : w.frozen? ⟨b, o + i, none⟩ = false := by
      have := h3 0 (by simp)
      simp only [Nat.add_zero] at this
      simp only [World.frozen?, hb]
      simpa using this
    have hb' : (wput w b (.cells (C.setIfInBounds (o + i) v) ty (lo, hi))).heap[b]? = some (.cells (C.setIfInBounds (o + i) v) ty (lo, hi)) := by
      rw [wput_get, if_pos ⟨rfl, heap_lt hb⟩]
    obtain ⟨C', hC, hr⟩ := run_storeCells (P := P) (o := o) vs (i + 1) (C.setIfInBounds (o + i) v) _ hb' (fun x hx => h1 x (by simp [hx]))
      (by simp only [List.length_cons] at h2; simp only [Array.toList_setIfInBounds, List.length_set]; omega)
      (fun j hj => by have := h3 (j + 1) (by simp; omega); rwa [show o + i + (j + 1) = o + (i + 1) + j by omega] at this)
    refine ⟨C', ?_, ?_⟩
    · rw [hC]
      simp only [Array.toList_setIfInBounds]
      apply List.ext_getElem?
      intro k
      simp only [List.length_cons] at h2
      rw [splice_get _ _ _ (by rw [List.length_set]; omega), splice_get _ _ _ (by simp only [List.length_cons]; omega)]
      simp only [List.length_cons]
      by_cases hk : k = o + i
      · subst hk
        rw [if_neg (by omega), if_pos (by omega), List.getElem?_set_self (by omega)]; simp
      · by_cases hk2 : o + (i + 1) ≤ k ∧ k < o + (i + 1) + vs.length
        · rw [if_pos hk2, if_pos (by omega), show k - (o + i) = (k - (o + (i + 1))) + 1 by omega]; rfl
        · rw [if_neg hk2, if_neg (by omega), List.getElem?_set_ne (fun e => hk e.symm)]
    · simp only [storeCells, Sem.run_bind, e1]
      rw [run_store P w _ _ _ (h1 v (by simp)), hc]
      simp only [hf, Bool.false_eq_true, if_false, Result.andThen_ok]
      rw [setCell_eq hb, hr, wput_wput]
end Go.Ev

namespace Go.Ev
set_option linter.unusedVariables false
set_option linter.unusedSimpArgs false
variable {η : Nat → Value}
def GR (P : Program) (ρ : Env) : Prop := ∀ g, g ≤ P.globals.size → ∃ n, ρ g = some (g, 0, n)
theorem GR.mono {P : Program} {ρ ρ' : Env} (h : GR P ρ) (hl : Env.le ρ ρ') : GR P ρ' := fun g hg => let ⟨n, e⟩ := h g hg; ⟨n, hl _ _ e⟩

section inv
variable {ρ : Env} {x : Value}
theorem VR.bool_inv {b : Bool} (h : VR η ρ (.bool b) x) : x = .bool b := by cases h; rfl
theorem VR.int_inv {k : IntKind} {n : Int} (h : VR η ρ (.int k n) x) : x = .int k n := by cases h; rfl
theorem VR.string_inv {s : ByteArray} (h : VR η ρ (.string s) x) : x = .string s := by cases h; rfl
theorem VR.nilIface_inv (h : VR η ρ .nilIface x) : x = .nilIface := by cases h; rfl
theorem VR.nilFunc_inv (h : VR η ρ .nilFunc x) : x = .nilFunc := by cases h; rfl
theorem VR.ptr0_inv (h : VR η ρ (.pointer none) x) : x = .pointer none := by cases h; rfl
theorem VR.iface_inv {t : TypeId} {v : Value} (h : VR η ρ (.iface t v) x) : ∃ y, x = .iface t y ∧ VR η ρ v y := by cases h with | iface _ h => exact ⟨_, rfl, h⟩
theorem VR.agg_inv {a : Array Value} (h : VR η ρ (.agg a) x) : ∃ c, x = .agg c ∧ LR η ρ a.toList c.toList := by cases h with | agg h1 h2 => exact ⟨_, rfl, h1, h2⟩
theorem VR.tuple_inv {a : Array Value} (h : VR η ρ (.tuple a) x) : ∃ c, x = .tuple c ∧ LR η ρ a.toList c.toList := by cases h with | tuple h1 h2 => exact ⟨_, rfl, h1, h2⟩
theorem VR.map0_inv (h : VR η ρ (.map none) x) : x = .map none := by cases h; rfl
theorem VR.map_inv {r : Nat} (h : VR η ρ (.map (some r)) x) : ∃ b d n, x = .map (some b) ∧ ρ r = some (b, d, n) := by cases h with | map h => exact ⟨_, _, _, rfl, h⟩
theorem VR.func_inv {f : Fn} {a b : Array Value} (h : VR η ρ (.func f a b) x) : ∃ g c d, x = .func g c d ∧ FnR ρ f g ∧ LR η ρ a.toList c.toList ∧ LR η ρ b.toList d.toList := by
  cases h with | func hf h1 h2 h3 h4 => exact ⟨_, _, _, rfl, hf, ⟨h1, h3⟩, ⟨h2, h4⟩⟩
theorem VR.func_mk {f g : Fn} {a b c d : Array Value} (hf : FnR ρ f g) (h1 : LR η ρ a.toList c.toList) (h2 : LR η ρ b.toList d.toList) : VR η ρ (.func f a b) (.func g c d) := .func hf h1.len h2.len h1.at_ h2.at_
/-- A slice: known, or of unknown capacity. -/
theorem VR.slice_inv {a : Option Addr} {l c : Nat} (h : VR η ρ (.slice a l c) x) : ∃ a' c', x = .slice a' l c' ∧
    ((a = none ∧ a' = none ∧ isU c = false ∧ c' = c) ∨ (∃ p q, a = some p ∧ a' = some q ∧ AdR ρ p q ∧ isU c = false ∧ c' = c) ∨
     (∃ p q s b d n, a = some p ∧ a' = some q ∧ AdR ρ p q ∧ c = capU s ∧ ρ p.block = some (b, d, n) ∧ 0 < s ∧ p.off + c' * s = n ∧ l ≤ c' ∧ c' < capB) ∨ (a = none ∧ l = 0 ∧ c = capE)) := by
  cases h with
  | slice0 l c hc => exact ⟨_, _, rfl, .inl ⟨rfl, rfl, hc, rfl⟩⟩
  | slice l c h hc => exact ⟨_, _, rfl, .inr (.inl ⟨_, _, rfl, rfl, ⟨rfl, _, _, _, h, rfl⟩, hc, rfl⟩)⟩
  | sliceU l s c h hs hc hl hb => exact ⟨_, _, rfl, .inr (.inr (.inl ⟨_, _, _, _, _, _, rfl, rfl, ⟨rfl, _, _, _, h, rfl⟩, rfl, h, hs, hc, hl, hb⟩))⟩
  | sliceE a c => exact ⟨_, _, rfl, .inr (.inr (.inr ⟨rfl, rfl, rfl⟩))⟩
theorem VR.slice_inv3 {a : Option Addr} {l c : Nat} (h : VR η ρ (.slice a l c) x) (hn : a.isSome = true ∨ c ≠ capE) : ∃ a' c', x = .slice a' l c' ∧
    ((a = none ∧ a' = none ∧ isU c = false ∧ c' = c) ∨ (∃ p q, a = some p ∧ a' = some q ∧ AdR ρ p q ∧ isU c = false ∧ c' = c) ∨
     (∃ p q s b d n, a = some p ∧ a' = some q ∧ AdR ρ p q ∧ c = capU s ∧ ρ p.block = some (b, d, n) ∧ 0 < s ∧ p.off + c' * s = n ∧ l ≤ c' ∧ c' < capB)) := by
  obtain ⟨a', c', e, k⟩ := h.slice_inv
  refine ⟨a', c', e, ?_⟩
  rcases k with k | k | k | ⟨k1, _, k2⟩
  · exact .inl k
  · exact .inr (.inl k)
  · exact .inr (.inr k)
  · subst k1; rcases hn with hn | hn
    · cases hn
    · exact absurd k2 hn
theorem VR.slice_mk {a b : Addr} {l c : Nat} (h : AdR ρ a b) (hc : isU c = false) : VR η ρ (.slice (some a) l c) (.slice (some b) l c) := by
  obtain ⟨h1, n, blk, d, h2, rfl⟩ := h
  obtain ⟨r, o, s⟩ := a
  simp only at h1; subst h1
  exact .slice l c h2 hc
theorem isU_capE : isU capE = true := by simp [isU, capE]
theorem isU_capU (s : Nat) : isU (capU s) = true := by simp [isU, capU]
end inv
theorem intOfA_ok {v : Value} {i : Int} : intOfA v = .ok i ↔ ∃ k, v = .int k i := by
  cases v <;> simp [intOfA, no]
theorem byteArray_ext {a b : ByteArray} (h : a.data.toList = b.data.toList) : a = b := by
  obtain ⟨⟨l⟩⟩ := a; obtain ⟨⟨m⟩⟩ := b; simp only at h; subst h; rfl

section
variable {P : Program} {ρ : Env} {B : Bd} {h : AH} {w : World}
theorem partA_ok {t : TypeId} {cs : List Value} {cs' : Array Value} {off : Nat} {v : Value} (hp : partA P t cs off = .ok v) (hc : LR η ρ cs cs'.toList) :
    ∃ x, (part t cs' off).run P w = .ok x w ∧ VR η ρ v x := by
  simp only [partA, bind_ok] at hp
  obtain ⟨b, hb, hp⟩ := hp
  cases b with
  | true =>
    simp only [if_true, bind_ok] at hp
    obtain ⟨n, hn, hp⟩ := hp
    rw [okk] at hp; subst hp
    refine ⟨.agg (cs'.extract off (off + n)), by simp [part, run_agg hb, run_size hn], ?_⟩
    have := VR.agg' ((hc.drop off).take n)
    have e : ((cs'.toList.drop off).take n).toArray = cs'.extract off (off + n) := by
      apply Array.ext'
      simp [List.extract]
    rw [e] at this; exact this
  | false =>
    simp only [if_false, Bool.false_eq_true, orNo_ok] at hp
    obtain ⟨x, hx, hv⟩ := hc.get hp
    refine ⟨x, ?_, hv⟩
    have : cs'[off]? = some x := by simpa using hx
    simp [part, run_agg hb, this]

theorem boundA_ok {x x' : Value} {y i : Nat} {code : BoundsCode} (hb : boundA x y = .ok i) (hx : VR η ρ x x') {Y : Nat} (hY : y ≤ Y) : (Instr.sliceBound x' Y code).run P w = .ok i w ∧ i ≤ y := by
  simp only [boundA, bind_ok, intOfA_ok] at hb
  obtain ⟨n, ⟨k, rfl⟩, hb⟩ := hb
  rw [ite_no', okk] at hb
  obtain ⟨hn, rfl⟩ := hb
  have := hx.int_inv; subst this
  refine ⟨?_, by omega⟩
  simp only [Instr.sliceBound, asIntOf, pure_bind]
  rw [if_pos (by omega)]; rfl
def OpR (η : Nat → Value) (ρ : Env) : Option Value → Option Value → Prop
  | none, none => True
  | some v, some x => VR η ρ v x
  | _, _ => False
theorem boundsA_ok {isS : Bool} {len cap l hh m : Nat} {lo hi mx lo' hi' mx' : Option Value} (hb : boundsA len cap lo hi mx = .ok (l, hh, m)) (h1 : OpR η ρ lo lo') (h2 : OpR η ρ hi hi') (h3 : OpR η ρ mx mx') :
    (∀ Cap, cap ≤ Cap → (Instr.sliceBounds isS len Cap lo' hi' mx').run P w = .ok (l, hh, if mx = none then Cap else m) w) ∧ (len ≤ cap → l ≤ hh ∧ hh ≤ m ∧ m ≤ cap) := by
  simp only [boundsA, bind_ok] at hb
  obtain ⟨m0, hm, h0, hh0, l0, hl0, hb⟩ := hb
  rw [okk] at hb
  injection hb with e1 e2; injection e2 with e2 e3; subst e1; subst e2; subst e3
  cases mx with
  | none =>
    cases mx' with
    | some v => exact absurd h3 (by simp [OpR])
    | none =>
      simp only [okk] at hm; subst hm
      cases hi with
      | none =>
        cases hi' with
        | some v => exact absurd h2 (by simp [OpR])
        | none =>
          simp only [okk] at hh0; subst hh0
          cases lo with
          | none =>
            cases lo' with
            | some v => exact absurd h1 (by simp [OpR])
            | none => simp only [okk] at hl0; subst hl0; exact ⟨fun Cap hC => by simp [Instr.sliceBounds], fun hlc => by omega⟩
          | some v =>
            cases lo' with
            | none => exact absurd h1 (by simp [OpR])
            | some v' =>
              have k := fun code => boundA_ok (P := P) (w := w) (code := code) hl0 h1 (Nat.le_refl _)
              exact ⟨fun Cap hC => by simp [Instr.sliceBounds, (k _).1], fun hlc => by have := (k .sliceB).2; omega⟩
      | some u =>
        cases hi' with
        | none => exact absurd h2 (by simp [OpR])
        | some u' =>
          have q := fun Cap hC code => boundA_ok (P := P) (w := w) (code := code) (Y := Cap) hh0 h2 hC
          cases lo with
          | none =>
            cases lo' with
            | some v => exact absurd h1 (by simp [OpR])
            | none => simp only [okk] at hl0; subst hl0; exact ⟨fun Cap hC => by simp [Instr.sliceBounds, (q Cap hC _).1], fun hlc => by have := (q _ (Nat.le_refl _) .sliceB).2; omega⟩
          | some v =>
            cases lo' with
            | none => exact absurd h1 (by simp [OpR])
            | some v' =>
              have k := fun code => boundA_ok (P := P) (w := w) (code := code) hl0 h1 (Nat.le_refl _)
              exact ⟨fun Cap hC => by simp [Instr.sliceBounds, (q Cap hC _).1, (k _).1], fun hlc => by have := (k .sliceB).2; have := (q _ (Nat.le_refl _) .sliceB).2; omega⟩
  | some y =>
    cases mx' with
    | none => exact absurd h3 (by simp [OpR])
    | some y' =>
      have p := fun Cap hC code => boundA_ok (P := P) (w := w) (code := code) (Y := Cap) hm h3 hC
      cases hi with
      | none => simp [no] at hh0
      | some u =>
        cases hi' with
        | none => exact absurd h2 (by simp [OpR])
        | some u' =>
          have q := fun code => boundA_ok (P := P) (w := w) (code := code) hh0 h2 (Nat.le_refl _)
          cases lo with
          | none =>
            cases lo' with
            | some v => exact absurd h1 (by simp [OpR])
            | none => simp only [okk] at hl0; subst hl0; exact ⟨fun Cap hC => by simp [Instr.sliceBounds, (p Cap hC _).1, (q _).1], fun hlc => by have := (q .sliceB).2; have := (p cap (Nat.le_refl _) .sliceB).2; omega⟩
          | some v =>
            cases lo' with
            | none => exact absurd h1 (by simp [OpR])
            | some v' =>
              have k := fun code => boundA_ok (P := P) (w := w) (code := code) hl0 h1 (Nat.le_refl _)
              exact ⟨fun Cap hC => by simp [Instr.sliceBounds, (p Cap hC _).1, (q _).1, (k _).1], fun hlc => by have := (k .sliceB).2; have := (q .sliceB).2; have := (p cap (Nat.le_refl _) .sliceB).2; omega⟩
theorem strL_eq (s : ByteArray) (l hh : Nat) : (ByteArray.mk ⟨(s.data.toList.drop l).take (hh - l)⟩) = s.extract l hh := by
  apply byteArray_ext
  rw [ByteArray.data_extract]
  simp [List.extract]
theorem mkS_ok {a : Option Addr} {l c : Nat} {r : Value} : mkS a l c = .ok r ↔ isU c = false ∧ .slice a l c = r := by
  unfold mkS
  rw [ite_no, okk]
  simp
theorem sliceA_ok {t : TypeId} {v x r : Value} {lo hi mx lo' hi' mx' : Option Value} (hs : sliceA P t v lo hi mx = .ok r) (hx : VR η ρ v x) (h1 : OpR η ρ lo lo') (h2 : OpR η ρ hi hi') (h3 : OpR η ρ mx mx') :
    ∃ y, (Instr.sliceAt t x lo' hi' mx').run P w = .ok y w ∧ VR η ρ r y := by
  simp only [sliceA, bind_ok, undA_ok] at hs
  obtain ⟨d, hd, hs⟩ := hs
  split at hs
  · -- a string
    rename_i s
    have := hx.string_inv; subst this
    rw [ite_no] at hs
    obtain ⟨hm, hs⟩ := hs
    cases mx with
    | some v => simp at hm
    | none =>
      cases mx' with
      | some v => exact absurd h3 (by simp [OpR])
      | none =>
        simp only [bind_ok] at hs
        obtain ⟨⟨l, hh, m⟩, hb, hs⟩ := hs
        simp only [okk] at hs; subst hs
        have := (boundsA_ok (P := P) (w := w) (isS := false) hb h1 h2 h3).1 _ (Nat.le_refl _)
        refine ⟨.string (s.extract l hh), ?_, ?_⟩
        · simp only [Instr.sliceAt, Sem.run_bind, run_und hd, Result.andThen_ok, Instr.slice]
          simp [this]
        · rw [strL, strL_eq]; exact .string _
  · -- a slice
    rename_i elem a len cap
    simp only [bind_ok] at hs
    obtain ⟨size, hsz, hs⟩ := hs
    obtain ⟨a', c', rfl, hc⟩ := hx.slice_inv
    by_cases hE : a.isNone = true ∧ cap = capE
    · rw [if_pos hE] at hs
      obtain ⟨_, rfl⟩ := hE
      rcases hc with ⟨_, _, e, _⟩ | ⟨_, _, _, _, _, e, _⟩ | ⟨_, _, s, _, _, _, _, _, _, e, _, hs0, _⟩ | ⟨rfl, rfl, _⟩
      · rw [isU_capE] at e; cases e
      · rw [isU_capE] at e; cases e
      · simp only [capE, capU] at e; omega
      rw [ite_no] at hs
      obtain ⟨hmx, hs⟩ := hs
      simp only [bind_ok, okk] at hs
      obtain ⟨⟨l, hh, m⟩, hb, rfl⟩ := hs
      obtain ⟨k1, k2⟩ := boundsA_ok (P := P) (w := w) (isS := true) hb h1 h2 h3
      have k1 := k1 c' (Nat.zero_le _)
      obtain ⟨k3, k4, k5⟩ := k2 (Nat.le_refl _)
      have hz : hh - l = 0 := by omega
      refine ⟨_, by simp only [Instr.sliceAt, Sem.run_bind, run_und hd, Result.andThen_ok, Instr.slice, k1, run_size hsz]; rfl, ?_⟩
      rw [hz]
      exact .sliceE _ _
    rw [if_neg hE] at hs
    by_cases hU : isU cap = true
    · rw [if_pos hU] at hs
      rcases hc with ⟨_, _, e, _⟩ | ⟨_, _, _, _, _, e, _⟩ | ⟨p, q, s, b, dd, n, rfl, rfl, hpq, rfl, hρ, hs0, hn, hl, hcb⟩ | ⟨e', _, e⟩
      · rw [hU] at e; cases e
      · rw [hU] at e; cases e
      rotate_left
      · exact absurd ⟨by rw [e']; rfl, e⟩ hE
      simp only [bind_ok] at hs
      obtain ⟨⟨l, hh, m⟩, hb, hs⟩ := hs
      simp only [] at hs
      rw [ite_no] at hs
      obtain ⟨hcap, hs⟩ := hs
      have hss : s = size := by
        simp only [not_or, Decidable.not_not, capU] at hcap
        omega
      subst hss
      obtain ⟨k1, k2⟩ := boundsA_ok (P := P) (w := w) (isS := true) hb h1 h2 h3
      have k1 := k1 c' hl
      obtain ⟨k3, k4, k5⟩ := k2 (Nat.le_refl _)
      cases mx with
      | some y =>
        simp only [Option.isSome_some, if_true, mkS_ok] at hs; obtain ⟨hno, rfl⟩ := hs
        simp only [reduceCtorEq, if_false] at k1
        refine ⟨_, by simp only [Instr.sliceAt, Sem.run_bind, run_und hd, Result.andThen_ok, Instr.slice, k1, run_size hsz]; rfl, ?_⟩
        by_cases hml : m = l
        · rw [if_pos hml, if_pos hml]; exact .slice_mk hpq hno
        · rw [if_neg hml, if_neg hml]; exact .slice_mk (hpq.add _) hno
      | none =>
        simp only [Option.isSome_none, Bool.false_eq_true, if_false] at hs
        simp only [if_true] at k1
        by_cases hlt : l < len ∨ l = 0
        case neg =>
          rw [if_neg hlt, okk] at hs
          subst hs
          have hz : hh - l = 0 := by simp only [not_or] at hlt; omega
          refine ⟨_, by simp only [Instr.sliceAt, Sem.run_bind, run_und hd, Result.andThen_ok, Instr.slice, k1, run_size hsz]; rfl, ?_⟩
          rw [hz]
          exact .sliceE _ _
        rw [if_pos hlt, okk] at hs
        subst hs
        refine ⟨_, by simp only [Instr.sliceAt, Sem.run_bind, run_und hd, Result.andThen_ok, Instr.slice, k1, run_size hsz]; rfl, ?_⟩
        obtain ⟨hsp, n', blk, d', hρ', rfl⟩ := hpq
        rw [hρ] at hρ'; cases hρ'
        rw [show (if c' = l then some (⟨b, dd + p.off, none⟩ : Addr) else (some (⟨b, dd + p.off, none⟩ : Addr)).map fun x => x.add (l * s)) = some ⟨b, dd + p.off + l * s, none⟩ from by
          by_cases hml : c' = l
          · have : l = 0 := by omega
            rw [if_pos hml, this, Nat.zero_mul, Nat.add_zero]
          · rw [if_neg hml, Option.map_some, add_eq rfl]]
        have := VR.sliceU (η := η) (ρ := ρ) (r := p.block) (o := p.off + l * s) (b := b) (d := dd) (n := n) (hh - l) s (c' - l) hρ hs0 (by rw [Nat.sub_mul]; have : l * s ≤ c' * s := Nat.mul_le_mul_right _ (by omega); omega) (by omega) (by omega)
        rw [show dd + (p.off + l * s) = dd + p.off + l * s by omega] at this
        exact this
    · rw [if_neg hU] at hs
      have hU' : isU cap = false := by simpa using hU
      simp only [bind_ok] at hs
      obtain ⟨⟨l, hh, m⟩, hb, hs⟩ := hs
      simp only [mkS_ok] at hs; obtain ⟨hno, rfl⟩ := hs
      obtain ⟨k1, k2⟩ := boundsA_ok (P := P) (w := w) (isS := true) hb h1 h2 h3
      have hcap : c' = cap := by
        rcases hc with ⟨_, _, _, e⟩ | ⟨_, _, _, _, _, _, e⟩ | ⟨_, _, _, _, _, _, _, _, _, rfl, _⟩ | ⟨e', _, e⟩
        · exact e
        · exact e
        · rw [isU_capU] at hU'; cases hU'
        · exact absurd ⟨by rw [e']; rfl, e⟩ hE
      subst hcap
      have k1 := k1 c' (Nat.le_refl _)
      have hm : (if mx = none then c' else m) = m := by
        split
        · rename_i e; subst e; simp only [boundsA, bind_ok, okk] at hb; obtain ⟨m0, hm0, _, _, _, _, hb⟩ := hb; injection hb with _ hb; injection hb with _ hb; rw [← hb]; exact hm0
        · rfl
      rw [hm] at k1
      refine ⟨_, by simp only [Instr.sliceAt, Sem.run_bind, run_und hd, Result.andThen_ok, Instr.slice, k1, run_size hsz]; rfl, ?_⟩
      rcases hc with ⟨rfl, rfl, _, _⟩ | ⟨p, q, rfl, rfl, hpq, _, _⟩ | ⟨_, _, _, _, _, _, _, _, _, rfl, _⟩ | ⟨e', _, e⟩
      · simp only [Option.map_none, ite_self]; exact .slice0 _ _ hno
      · by_cases hml : m = l
        · rw [if_pos hml, if_pos hml]; exact .slice_mk hpq hno
        · rw [if_neg hml, if_neg hml]; exact .slice_mk (hpq.add _) hno
      · rw [isU_capU] at hU'; cases hU'
      · exact absurd ⟨by rw [e']; rfl, e⟩ hE
  · -- a pointer to an array
    rename_i arr a
    simp only [bind_ok, undA_ok] at hs
    obtain ⟨d2, hd2, hs⟩ := hs
    split at hs
    · rename_i n elem
      simp only [bind_ok] at hs
      obtain ⟨⟨l, hh, m⟩, hb, size, hsz, hs⟩ := hs
      simp only [mkS_ok] at hs; obtain ⟨hno, rfl⟩ := hs
      obtain ⟨q, rfl, hpq⟩ := hx.ptr_inv
      obtain ⟨k1, k2⟩ := boundsA_ok (P := P) (w := w) (isS := false) hb h1 h2 h3
      have k1 := k1 n (Nat.le_refl _)
      have hm : (if mx = none then n else m) = m := by
        split
        · rename_i e; subst e; simp only [boundsA, bind_ok, okk] at hb; obtain ⟨m0, hm0, _, _, _, _, hb⟩ := hb; injection hb with _ hb; injection hb with _ hb; rw [← hb]; exact hm0
        · rfl
      rw [hm] at k1
      refine ⟨_, by simp only [Instr.sliceAt, Sem.run_bind, run_und hd, run_und hd2, Result.andThen_ok, Instr.slice, asAddr, Sem.run_pure, k1, run_size hsz]; rfl, ?_⟩
      by_cases hml : m = l
      · rw [if_pos hml, if_pos hml]; exact .slice_mk hpq hno
      · rw [if_neg hml, if_neg hml]; exact .slice_mk (hpq.add _) hno
    · simp [no] at hs
  · -- an array
    rename_i n elem a
    simp only [bind_ok] at hs
    obtain ⟨⟨l, hh, m⟩, hb, size, hsz, hs⟩ := hs
    simp only [mkS_ok] at hs; obtain ⟨hno, rfl⟩ := hs
    obtain ⟨q, rfl, hpq⟩ := hx.ptr_inv
    obtain ⟨k1, k2⟩ := boundsA_ok (P := P) (w := w) (isS := false) hb h1 h2 h3
    have k1 := k1 n (Nat.le_refl _)
    have hm : (if mx = none then n else m) = m := by
      split
      · rename_i e; subst e; simp only [boundsA, bind_ok, okk] at hb; obtain ⟨m0, hm0, _, _, _, _, hb⟩ := hb; injection hb with _ hb; injection hb with _ hb; rw [← hb]; exact hm0
      · rfl
    rw [hm] at k1
    refine ⟨_, by simp only [Instr.sliceAt, Sem.run_bind, run_und hd, Result.andThen_ok, Instr.sureAddr, Sem.run_pure, k1, run_size hsz]; rfl, ?_⟩
    by_cases hml : m = l
    · rw [if_pos hml, if_pos hml]; exact .slice_mk hpq hno
    · rw [if_neg hml, if_neg hml]; exact .slice_mk (hpq.add _) hno
  · simp [no] at hs
end
end Go.Ev

namespace Go.Ev
set_option linter.unusedVariables false
set_option linter.unusedSimpArgs false
variable {η : Nat → Value}
section
variable {P : Program} {ρ : Env} {B : Bd} {h : AH} {w : World}
theorem toList_bytes (a b : ByteArray) : (a == b) = (a.data.toList == b.data.toList) := by
  rw [beq_toListBytes, ByteArray.toList_eq, ByteArray.toList_eq]
theorem eqAddr_ok (H : HR η ρ B h w) {a b a' b' : Addr} {r : Bool} (he : eqAddr h a b = .ok r) (ha : AdR ρ a a') (hb : AdR ρ b b') : (sameAddr a' b').run P w = .ok r w := by
  unfold eqAddr at he
  rw [ite_no'] at he
  obtain ⟨⟨sa, sb⟩, he⟩ := he
  obtain ⟨_, n, blk, d, h2, rfl⟩ := ha
  obtain ⟨_, n', blk', d', h2', rfl⟩ := hb
  by_cases hbl : a.block = b.block
  · rw [if_pos hbl, okk] at he; subst he
    rw [hbl, h2'] at h2; cases h2
    simp only [sameAddr, beq_self_eq_true, if_true]
    simp only [Sem.run_pure, Result.ok.injEq, and_true]
    by_cases ho : a.off = b.off
    · simp [ho]
    · have : ¬ (d + a.off = d + b.off) := by omega
      rw [show (a.off == b.off) = false from by simpa using ho]
      rw [beq_eq_false_iff_ne]
      intro hc; injection hc; omega
  · rw [if_neg hbl] at he
    split at he
    · rename_i c p q1 c' p' q2 hc1 hc2
      rw [ite_no', okk] at he
      obtain ⟨hp, rfl⟩ := he
      simp only [Bool.and_eq_true] at hp
      obtain ⟨b1, d1, n1, C1, lo1, hi1, e1, f1, g1, _⟩ := H.cells (cellsAt_ok.1 hc1)
      obtain ⟨b2, d2, n2, C2, lo2, hi2, e2, f2, g2, _⟩ := H.cells (cellsAt_ok.1 hc2)
      rw [h2] at e1; cases e1
      rw [h2'] at e2; cases e2
      have hne : blk ≠ blk' := fun e => hbl (by subst e; exact H.uni (cellsAt_ok.1 hc1) (cellsAt_ok.1 hc2) h2 h2' (by simp [shO, hp.1.1.2]))
      obtain ⟨rfl, rfl, _, _⟩ := g1.plain hp.1.1.1
      obtain ⟨rfl, rfl, _, _⟩ := g2.plain hp.1.1.2
      have fz1 : ∀ o, w.frozen? ⟨blk, o, none⟩ = false := fun o => by simp [World.frozen?, f1]
      have fz2 : ∀ o, w.frozen? ⟨blk', o, none⟩ = false := fun o => by simp [World.frozen?, f2]
      obtain ⟨T1, s1⟩ : ∃ T, w.shape? blk = some (T, C1.size) := ⟨_, by simp only [World.shape?, f1]; rfl⟩
      obtain ⟨T2, s2⟩ : ∃ T, w.shape? blk' = some (T, C2.size) := ⟨_, by simp only [World.shape?, f2]; rfl⟩
      simp only [sameAddr]
      rw [if_neg (by simpa using hne)]
      simp [fz1, fz2, s1, s2, noView, viewAt, mayBeOne, stringish]
    · simp [no] at he
  
theorem eqFields_ok {d : Nat} (ih : ∀ (t : TypeId) (x y x' y' : Value) (r : Bool), eqA P h d t x y = .ok r → VR η ρ x x' → VR η ρ y y' → (Op.equalIn d t x' y').run P w = .ok r w)
    {xs ys : List Value} {xs' ys' : Array Value} (hx : LR η ρ xs xs'.toList) (hy : LR η ρ ys ys'.toList) : ∀ (fs : List Field) (r : Bool), eqFields P (eqA P h d) xs ys fs = .ok r → (Op.eqFields d xs' ys' fs).run P w = .ok r w
  | [], r, he => by
    simp only [eqFields, okk] at he; subst he; rfl
  | f :: fs, r, he => by
    simp only [eqFields] at he
    by_cases hn : f.name = "_"
    · rw [if_pos hn] at he
      simp only [Op.eqFields]
      rw [if_neg (by simpa using hn)]
      exact eqFields_ok ih hx hy fs r he
    · rw [if_neg hn] at he
      simp only [bind_ok] at he
      obtain ⟨a, ha, b, hb, r1, hr1, he⟩ := he
      obtain ⟨a', ha', va⟩ := partA_ok (P := P) (w := w) ha hx
      obtain ⟨b', hb', vb⟩ := partA_ok (P := P) (w := w) hb hy
      have := ih _ _ _ _ _ _ hr1 va vb
      simp only [Op.eqFields]
      rw [if_pos (by simpa using hn)]
      simp only [Sem.run_bind, ha', hb', this, Result.andThen_ok]
      cases r1 with
      | true => simp only [if_true] at he; simpa using eqFields_ok ih hx hy fs r he
      | false => simp only [Bool.false_eq_true, if_false, okk] at he; subst he; simp
set_option maxHeartbeats 2000000 in
theorem eqA_ok (H : HR η ρ B h w) : ∀ (d : Nat) (t : TypeId) (x y x' y' : Value) (r : Bool), eqA P h d t x y = .ok r → VR η ρ x x' → VR η ρ y y' → (Op.equalIn d t x' y').run P w = .ok r w
  | 0, t, x, y, x', y', r, he, _, _ => by simp [eqA, no] at he
  | d + 1, t, x, y, x', y', r, he, hx, hy => by
    simp only [eqA, bind_ok, undA_ok] at he
    obtain ⟨td, ht, he⟩ := he
    split at he
    · have := hx.bool_inv; have := hy.bool_inv; subst_vars
      rw [okk] at he; subst he
      (simp only [Op.equalIn, Sem.run_bind, run_und ht, Result.andThen_ok]; rfl)
    · have := hx.int_inv; have := hy.int_inv; subst_vars
      rw [ite_no', okk] at he
      obtain ⟨hk, rfl⟩ := he
      simp only [Op.equalIn, Sem.run_bind, run_und ht, Result.andThen_ok]; rw [if_pos hk]; rfl
    · have := hx.string_inv; have := hy.string_inv; subst_vars
      rw [okk] at he; subst he
      simp only [Op.equalIn, Sem.run_bind, run_und ht, Result.andThen_ok, toList_bytes]; rfl
    · have := hx.ptr0_inv; subst this
      rw [okk] at he; subst he
      rename_i b
      cases b with
      | none => have := hy.ptr0_inv; subst this; (simp only [Op.equalIn, Sem.run_bind, run_und ht, Result.andThen_ok]; rfl)
      | some b => obtain ⟨q, rfl, _⟩ := hy.ptr_inv; (simp only [Op.equalIn, Sem.run_bind, run_und ht, Result.andThen_ok]; rfl)
    · have := hy.ptr0_inv; subst this
      rw [okk] at he; subst he
      rename_i b hb
      cases b with
      | none => exact (hb rfl).elim
      | some b => obtain ⟨q, rfl, _⟩ := hx.ptr_inv; (simp only [Op.equalIn, Sem.run_bind, run_und ht, Result.andThen_ok]; rfl)
    · obtain ⟨p, rfl, hp⟩ := hx.ptr_inv
      obtain ⟨q, rfl, hq⟩ := hy.ptr_inv
      simp only [bind_ok] at he
      obtain ⟨n, hn, he⟩ := he
      rw [ite_no'] at he
      obtain ⟨hn0, he⟩ := he
      have := eqAddr_ok (P := P) H he hp hq
      simp only [Op.equalIn, Sem.run_bind, run_und ht, Result.andThen_ok, run_size hn]
      rw [if_pos hn0]
      exact this
    · have := hx.nilIface_inv; have := hy.nilIface_inv; subst_vars
      rw [okk] at he; subst he
      (simp only [Op.equalIn, Sem.run_bind, run_und ht, Result.andThen_ok]; rfl)
    · have := hx.nilIface_inv; subst this
      obtain ⟨y1, rfl, _⟩ := hy.iface_inv
      rw [okk] at he; subst he
      (simp only [Op.equalIn, Sem.run_bind, run_und ht, Result.andThen_ok]; rfl)
    · have := hy.nilIface_inv; subst this
      obtain ⟨y1, rfl, _⟩ := hx.iface_inv
      rw [okk] at he; subst he
      (simp only [Op.equalIn, Sem.run_bind, run_und ht, Result.andThen_ok]; rfl)
    · obtain ⟨x1, rfl, hx1⟩ := hx.iface_inv
      obtain ⟨y1, rfl, hy1⟩ := hy.iface_inv
      rename_i tx vx ty vy
      by_cases htt : tx = ty
      · rw [if_neg (by simpa using htt)] at he
        simp only [bind_ok, infoA_ok] at he
        obtain ⟨i, hi, he⟩ := he
        rw [ite_no] at he
        obtain ⟨hcmp, he⟩ := he
        have := eqA_ok H d tx vx vy x1 y1 r he hx1 hy1
        simp only [Op.equalIn, Sem.run_bind, run_und ht, Result.andThen_ok]
        rw [if_neg (by simpa using htt)]
        simp only [Sem.run_bind, run_info hi, Result.andThen_ok]
        rw [if_neg (by simpa using hcmp)]
        exact this
      · rw [if_pos (by simpa using htt), okk] at he; subst he
        simp only [Op.equalIn, Sem.run_bind, run_und ht, Result.andThen_ok]
        rw [if_pos (by simpa using htt)]; rfl
    · rename_i fields xs0 ys0
      obtain ⟨xs', rfl, hxs⟩ := hx.agg_inv
      obtain ⟨ys', rfl, hys⟩ := hy.agg_inv
      rw [ite_no] at he
      obtain ⟨hst, he⟩ := he
      have ht' : P.underlying t = some (.struct (P.fieldsOf t)) := by simp only [Program.fieldsOf, ht]
      rw [run_equalIn_struct w d t xs' ys' ht' (by simpa using hst)]
      have e : P.fieldsOf t = fields := by simp only [Program.fieldsOf, ht]
      rw [e]
      exact eqFields_ok (fun t x y x' y' r a b c => eqA_ok H d t x y x' y' r a b c) hxs hys _ r he
    · rename_i l c b l2 c2
      rw [ite_no, okk] at he; obtain ⟨hcc, he⟩ := he; subst he
      obtain ⟨a', c', rfl, hc⟩ := hx.slice_inv3 (.inr fun e => hcc (.inl e))
      obtain ⟨b', c2', rfl, hc2⟩ := hy.slice_inv3 (.inr fun e => hcc (.inr e))
      have e1 : a' = none := by rcases hc with ⟨_, e, _⟩ | ⟨_, _, e, _⟩ | ⟨_, _, _, _, _, _, e, _⟩ <;> first | exact e | cases e
      have e2 : b'.isNone = b.isNone := by rcases hc2 with ⟨e, e', _⟩ | ⟨_, _, e, e', _⟩ | ⟨_, _, _, _, _, _, e, e', _⟩ <;> subst e <;> subst e' <;> rfl
      subst e1
      simp only [Op.equalIn, Sem.run_bind, run_und ht, Result.andThen_ok, e2]; rfl
    · rename_i a l c l2 c2 hne
      rw [ite_no, okk] at he; obtain ⟨hcc, he⟩ := he; subst he
      obtain ⟨a', c', rfl, hc⟩ := hx.slice_inv3 (.inr fun e => hcc (.inl e))
      obtain ⟨b', c2', rfl, hc2⟩ := hy.slice_inv3 (.inr fun e => hcc (.inr e))
      have e1 : b' = none := by rcases hc2 with ⟨_, e, _⟩ | ⟨_, _, e, _⟩ | ⟨_, _, _, _, _, _, e, _⟩ <;> first | exact e | cases e
      subst e1
      rcases hc with ⟨e, e', _⟩ | ⟨_, _, e, e', _⟩ | ⟨_, _, _, _, _, _, e, e', _⟩
      · subst e; exact (hne rfl).elim
      · subst e; subst e'; (simp only [Op.equalIn, Sem.run_bind, run_und ht, Result.andThen_ok]; rfl)
      · subst e; subst e'; (simp only [Op.equalIn, Sem.run_bind, run_und ht, Result.andThen_ok]; rfl)
    · have := hx.map0_inv; subst this
      rw [okk] at he; subst he
      rename_i b
      cases b with
      | none => have := hy.map0_inv; subst this; (simp only [Op.equalIn, Sem.run_bind, run_und ht, Result.andThen_ok]; rfl)
      | some b => obtain ⟨q, _, _, rfl, _⟩ := hy.map_inv; (simp only [Op.equalIn, Sem.run_bind, run_und ht, Result.andThen_ok]; rfl)
    · have := hy.map0_inv; subst this
      rw [okk] at he; subst he
      rename_i b hb
      cases b with
      | none => exact (hb rfl).elim
      | some b => obtain ⟨q, _, _, rfl, _⟩ := hx.map_inv; (simp only [Op.equalIn, Sem.run_bind, run_und ht, Result.andThen_ok]; rfl)
    · have := hx.nilFunc_inv; have := hy.nilFunc_inv; subst_vars
      rw [okk] at he; subst he
      (simp only [Op.equalIn, Sem.run_bind, run_und ht, Result.andThen_ok]; rfl)
    · have := hx.nilFunc_inv; subst this
      obtain ⟨_, _, _, rfl, _⟩ := hy.func_inv
      rw [okk] at he; subst he
      (simp only [Op.equalIn, Sem.run_bind, run_und ht, Result.andThen_ok]; rfl)
    · have := hy.nilFunc_inv; subst this
      obtain ⟨_, _, _, rfl, _⟩ := hx.func_inv
      rw [okk] at he; subst he
      (simp only [Op.equalIn, Sem.run_bind, run_und ht, Result.andThen_ok]; rfl)
    · simp [no] at he
end
end Go.Ev

namespace Go.Ev
set_option linter.unusedVariables false
set_option linter.unusedSimpArgs false
variable {η : Nat → Value}
theorem L2.inv_cons {α β : Type} {R : α → β → Prop} {a : α} {l : List α} {m : List β} (h : L2 R (a :: l) m) : ∃ b m', m = b :: m' ∧ R a b ∧ L2 R l m' := by
  cases h with | cons h k => exact ⟨_, _, rfl, h, k⟩
theorem L2.inv_nil {α β : Type} {R : α → β → Prop} {m : List β} (h : L2 R [] m) : m = [] := by cases h; rfl
theorem L2.get {α β : Type} {R : α → β → Prop} {l : List α} {m : List β} (h : L2 R l m) {i : Nat} {a : α} (ha : l[i]? = some a) : ∃ b, m[i]? = some b ∧ R a b := by
  induction h generalizing i with
  | nil => simp at ha
  | cons hr _ ih =>
    cases i with
    | zero => simp at ha; subst ha; exact ⟨_, rfl, hr⟩
    | succ i => simpa using ih (by simpa using ha)
section
variable {P : Program} {ρ : Env} {B : Bd} {h : AH} {w : World}
theorem keyKind_ok {kt : TypeId} {d : TypeDesc} (hk : keyKind P kt = .ok d) : P.underlying kt = some d ∧ ((∃ k, d = .int k) ∨ d = .string ∨ d = .bool) := by
  simp only [keyKind, bind_ok, undA_ok] at hk
  obtain ⟨u, hu, hk⟩ := hk
  split at hk <;> first | (simp [no] at hk; done) | (rw [okk] at hk; subst hk; exact ⟨hu, by simp⟩)
theorem sameNow_rel {d : TypeDesc} (hd : (∃ k, d = .int k) ∨ d = .string ∨ d = .bool) {k e k' e' : Value} {b : Bool} (hs : Instr.sameNow d k e = some b) (hk : VR η ρ k k') (he : VR η ρ e e') : k' = k ∧ e' = e ∧ (b = true → ∀ n, Instr.sameBits n e k = true) := by
  unfold Instr.sameNow at hs
  split at hs
  · have := hk.int_inv; have := he.int_inv; subst_vars
    refine ⟨rfl, rfl, fun hb n => ?_⟩
    split at hs
    · rename_i hkk; subst hkk; cases hs; simp only [beq_iff_eq] at hb; subst hb; simp [Instr.sameBits]
    · cases hs
  · have := hk.string_inv; have := he.string_inv; subst_vars
    refine ⟨rfl, rfl, fun hb n => ?_⟩
    cases hs
    rw [toList_bytes] at hb
    simp only [beq_iff_eq] at hb
    have := byteArray_ext hb; subst this
    simp only [Instr.sameBits, toList_bytes]; simp
  · have := hk.bool_inv; have := he.bool_inv; subst_vars
    refine ⟨rfl, rfl, fun hb n => ?_⟩
    cases hs; simp only [beq_iff_eq] at hb; subst hb; simp [Instr.sameBits]
  · cases hs
theorem findNow_rel {d : TypeDesc} (hd : (∃ k, d = .int k) ∨ d = .string ∨ d = .bool) {k k' : Value} (hk : VR η ρ k k') {es es' : List MapEntry} (hes : L2 (ER η ρ) es es') : ∀ {i : Nat} {r : Option (Nat × Value)}, Instr.findNow d k es i = some r →
    (r = none ∧ Instr.findNow d k' es' i = some none) ∨
    (∃ j e e', r = some (i + j, e.val) ∧ es[j]? = some e ∧ es'[j]? = some e' ∧ ER η ρ e e' ∧ k' = k ∧ e'.key = e.key ∧ (∀ n, Instr.sameBits n e.key k = true) ∧ Instr.findNow d k' es' i = some (some (i + j, e'.val))) := by
  induction hes with
  | nil => intro i r hr; simp only [Instr.findNow] at hr; cases hr; exact .inl ⟨rfl, rfl⟩
  | @cons e e' es es' hee _ ih =>
    intro i r hr
    simp only [Instr.findNow] at hr ⊢
    cases hs : Instr.sameNow d k e.key with
    | none => rw [hs] at hr; cases hr
    | some b =>
      rw [hs] at hr
      obtain ⟨e1, e2, e3⟩ := sameNow_rel hd hs hk hee.1
      rw [e1, e2, hs]
      cases b with
      | true =>
        cases hr
        exact .inr ⟨0, e, e', by simp, by simp, by simp, hee, rfl, e2, e3 rfl, by simp⟩
      | false =>
        rcases ih hr with ⟨h1, h2⟩ | ⟨j, a, a', h1, h2, h3, h4, h5, h6, h7, h8⟩
        · rw [e1] at h2; exact .inl ⟨h1, h2⟩
        · rw [e1] at h8
          exact .inr ⟨j + 1, a, a', by rw [h1]; congr 2; omega, by simpa using h2, by simpa using h3, h4, rfl, h6, h7, by rw [show i + (j + 1) = i + 1 + j by omega]; exact h8⟩
theorem run_checkKey {kt : TypeId} {d : TypeDesc} (hu : P.underlying kt = some d) (hd : (∃ k, d = .int k) ∨ d = .string ∨ d = .bool) (e : Bool) (n : Nat) (v : Value) : (Instr.checkKey e (n + 1) kt v).run P w = .ok () w := by
  simp only [Instr.checkKey, Sem.run_bind, run_und hu, Result.andThen_ok]
  rcases hd with ⟨k, rfl⟩ | rfl | rfl <;> rfl
/-- Looking a key up. -/
theorem findM_ok {kt : TypeId} {k k' : Value} {es es' : List MapEntry} {r : Option (Nat × Value)} (hf : findM P kt k es = .ok r) (hk : VR η ρ k k') (hes : L2 (ER η ρ) es es') :
    (∀ e v, (Instr.checkKey e 10000 kt v).run P w = .ok () w) ∧
    ((r = none ∧ (Instr.findKey kt k' es').run P w = .ok none w) ∨
     (∃ j e e', r = some (j, e.val) ∧ es[j]? = some e ∧ es'[j]? = some e' ∧ ER η ρ e e' ∧ k' = k ∧ e'.key = e.key ∧ (∀ n, Instr.sameBits n e.key k = true) ∧ (Instr.findKey kt k' es').run P w = .ok (some (j, e'.val)) w)) := by
  simp only [findM, bind_ok, orNo_ok] at hf
  obtain ⟨d, hd, hf⟩ := hf
  obtain ⟨hu, hd⟩ := keyKind_ok hd
  refine ⟨fun e v => run_checkKey hu hd e 9999 v, ?_⟩
  have hrun : ∀ {o}, Instr.findNow d k' es' 0 = some o → (Instr.findKey kt k' es').run P w = .ok o w := by
    intro o ho
    simp only [Instr.findKey, Sem.run_bind, run_und hu, Result.andThen_ok, ho]; rfl
  rcases findNow_rel hd hk hes hf with ⟨h1, h2⟩ | ⟨j, e, e', h1, h2, h3, h4, h5, h6, h7, h8⟩
  · exact .inl ⟨h1, hrun h2⟩
  · rw [Nat.zero_add] at h1 h8
    exact .inr ⟨j, e, e', h1, h2, h3, h4, h5, h6, h7, hrun h8⟩
theorem run_getObj {r : Nat} {o : Obj} (hr : w.heap[r]? = some o) (ho : ∀ c t f, o ≠ .cells c t f) : (getObj r).run P w = .ok o w := by
  simp only [getObj, Sem.run, hr]
theorem VR.pair {v x : Value} {b : Bool} (hv : VR η ρ v x) : VR η ρ (tupL [v, .bool b]) (.tuple #[x, .bool b]) := .tup' (.cons hv (.cons (.bool b) .nil))
theorem lookA_ok (H : HR η ρ B h w) {t : TypeId} {x k x' k' r : Value} {ok : Bool} (hl : lookA P h t x k ok = .ok r) (hx : VR η ρ x x') (hk : VR η ρ k k') :
    ∃ y, (Instr.lookup t x' k' ok).run P w = .ok y w ∧ VR η ρ r y := by
  simp only [lookA, bind_ok, undA_ok] at hl
  obtain ⟨td, ht, hl⟩ := hl
  split at hl
  · rename_i key elem
    simp only [bind_ok] at hl
    obtain ⟨es, hes, f, hf, hl⟩ := hl
    obtain ⟨E, hE, hrel⟩ : ∃ E : Array MapEntry, L2 (ER η ρ) es E.toList ∧ ((x' = .map none ∧ E = #[]) ∨ ∃ b c, x' = .map (some b) ∧ w.heap[b]? = some (.map E c)) := by
      split at hes
      · have := hx.map0_inv; subst this
        rw [okk] at hes; subst hes
        exact ⟨#[], .nil, .inl ⟨rfl, rfl⟩⟩
      · rename_i r0
        obtain ⟨b, d, n, rfl, hρ⟩ := hx.map_inv
        simp only [bind_ok] at hes
        obtain ⟨m, hm, hes⟩ := hes
        rw [okk] at hes; subst hes
        obtain ⟨b', d', n', E, h1, h2, h3, _⟩ := H.map (mapOf_ok.1 hm)
        rw [hρ] at h1; cases h1
        exact ⟨E, h3, .inr ⟨_, _, rfl, h2⟩⟩
      · simp [no] at hes
    obtain ⟨hck, hf⟩ := findM_ok (P := P) (w := w) hf hk hE
    rcases hf with ⟨rfl, hrun⟩ | ⟨j, e, e', rfl, _, _, he, _, _, _, hrun⟩
    · simp only [bind_ok] at hl
      obtain ⟨z, hz, hl⟩ := hl
      rw [okk] at hl; subst hl
      refine ⟨if ok then .tuple #[z, .bool false] else z, ?_, ?_⟩
      · simp only [Instr.lookup, Sem.run_bind, run_und ht, Result.andThen_ok]
        rcases hrel with ⟨rfl, rfl⟩ | ⟨b, c, rfl, hb⟩
        · simp only [Sem.run_bind, Sem.run_pure, hck, Result.andThen_ok, hrun, run_zero hz]
        · simp only [Sem.run_bind, run_getObj hb (by simp), Sem.run_pure, hck, Result.andThen_ok, hrun, run_zero hz]
      · cases ok
        · exact .zero hz
        · exact .pair (.zero hz)
    · simp only [okk] at hl; subst hl
      refine ⟨if ok then .tuple #[e'.val, .bool true] else e'.val, ?_, ?_⟩
      · simp only [Instr.lookup, Sem.run_bind, run_und ht, Result.andThen_ok]
        rcases hrel with ⟨rfl, rfl⟩ | ⟨b, c, rfl, hb⟩
        · simp only [Sem.run_bind, Sem.run_pure, hck, Result.andThen_ok, hrun]
        · simp only [Sem.run_bind, run_getObj hb (by simp), Sem.run_pure, hck, Result.andThen_ok, hrun]
      · cases ok
        · exact he.2.1
        · exact .pair he.2.1
  · simp [no] at hl

theorem guard_none {op : BinOp} (ho : isEq op = none) (t : TypeId) (x y : Operand) (a b : Value) : (eqGuard op t x y a b).run P w = .ok () w := by
  cases op <;> first | rfl | cases ho
theorem guard_eql {op : BinOp} {v : Bool} (ho : isEq op = some v) (t : TypeId) (x y : Operand) (a b : Value) : eqGuard op t x y a b = eqGuard .eql t x y a b := by
  cases op <;> first | rfl | cases ho
theorem nilOk_ok {t : TypeId} (hg : nilOk P t = .ok true) : (Op.eqGuardIn Op.maxDepth t .nilIface .nilIface).run P w = .ok false w := by
  obtain ⟨d, hd⟩ : ∃ d, Op.maxDepth = d + 1 := ⟨9999, rfl⟩
  rw [hd]
  unfold nilOk at hg
  split at hg
  · rename_i ms hms
    rw [okk] at hg
    simp only [Op.eqGuardIn, Sem.run_bind, run_und hms, Result.andThen_ok, hg]; rfl
  · rename_i u hu1 hu
    simp only [Op.eqGuardIn, Sem.run_bind, run_und hu, Result.andThen_ok]
    cases u <;> first | rfl | exact (hu1 _ rfl).elim
  · simp [no] at hg
theorem guard_ok {op : BinOp} {t : TypeId} {x y : Operand} {a b a' b' : Value} (hg : guardOk P op t x y a b = .ok true) (ha : VR η ρ a a') (hb : VR η ρ b b') (hna : ∀ i, a ≠ .chan i) (hnb : ∀ i, b ≠ .chan i) :
    (eqGuard op t x y a' b').run P w = .ok () w := by
  unfold guardOk at hg
  cases ho : isEq op with
  | none => exact guard_none ho ..
  | some v =>
    rw [ho] at hg
    rw [guard_eql ho]
    simp only [] at hg
    cases ha with
    | nilIface =>
      cases hb with
      | nilIface =>
        simp only [] at hg
        have key := fun hg => nilOk_ok (P := P) (w := w) (t := t) hg
        cases x <;> cases y <;> first
          | rfl
          | (have k := key hg
             simp only [eqGuard, Sem.run_bind]
             simp [k])
      | opq i => exact absurd rfl (hnb _)
      | any h => exact absurd rfl (hnb _)
      | _ => rfl
    | agg h1 h2 =>
      cases hb with
      | agg h3 h4 =>
        simp only [okk] at hg
        exact run_eqGuard_agg w .eql t x y _ _ (by simpa using hg)
      | opq i => exact absurd rfl (hnb _)
      | any h => exact absurd rfl (hnb _)
      | _ => rfl
    | opq i => exact absurd rfl (hna _)
    | any h => exact absurd rfl (hna _)
    | _ => rfl
theorem strL_append (a b : ByteArray) : (ByteArray.mk ⟨a.data.toList ++ b.data.toList⟩) = a ++ b := by
  apply byteArray_ext
  rw [ByteArray.data_append]; simp
theorem bsize (a : ByteArray) : a.data.toList.length = a.size := rfl
theorem strA_ok {op : BinOp} {a b : ByteArray} {v : Value} (hs : strA op a.data.toList b.data.toList = .ok v) : ∃ x, (Op.stringOp op a b).run P w = .ok x w ∧ VR η ρ v x := by
  unfold strA at hs
  unfold Op.stringOp
  simp only [ByteArray.toList_eq] at *
  have hmax : IntKind.i64.max = 9223372036854775807 := by decide
  cases op <;> simp only [] at hs ⊢ <;> first
    | (rw [okk] at hs; subst hs; exact ⟨_, rfl, .bool _⟩)
    | (rw [ite_no', okk] at hs
       obtain ⟨hl, rfl⟩ := hs
       rw [bsize, bsize] at hl
       rw [hmax, if_neg (by omega)]
       exact ⟨_, rfl, by rw [strL, strL_append]; exact .string _⟩)
    | (simp [no] at hs; done)
theorem shiftA_ok {op : BinOp} {k yk : IntKind} {a b : Int} {v : Value} (hs : shiftA op k a b = .ok v) : ∃ x, (Op.shift op k a yk b).run P w = .ok x w ∧ VR η ρ v x := by
  unfold shiftA at hs
  rw [ite_no] at hs
  obtain ⟨hb, hs⟩ := hs
  unfold Op.shift
  rw [if_neg hb]
  cases op <;> simp only [] at hs ⊢ <;> first
    | (simp [no] at hs; done)
    | (rw [okk] at hs; subst hs; exact ⟨_, rfl, .int _ _⟩)
theorem binA_ok (H : HR η ρ B h w) {op : BinOp} {t : TypeId} {x y x' y' v : Value} (hb : binA P h op t x y = .ok v) (hx : VR η ρ x x') (hy : VR η ρ y y') :
    ∃ r, (binOp op t x' y').run P w = .ok r w ∧ VR η ρ v r := by
  have eqc : ∀ {x y : Value}, VR η ρ x x' → VR η ρ y y' →
      (match isEq op with
      | some want => do Except.ok (.bool ((← eqA P h 10000 t x y) == want))
      | none => no "binop" : M Value) = .ok v → (op = .eql ∨ op = .neq) ∧ ∃ r, (if op = .eql then (do pure (.bool (← Op.equal t x' y')) : Sem Value) else do pure (.bool (!(← Op.equal t x' y')))).run P w = .ok r w ∧ VR η ρ v r := by
    intro x y hx hy hb
    cases op <;> simp only [isEq] at hb <;> first
      | (simp [no] at hb; done)
      | (simp only [bind_ok] at hb
         obtain ⟨r, hr, hb⟩ := hb
         rw [okk] at hb; subst hb
         have := eqA_ok (P := P) H _ _ _ _ _ _ _ hr hx hy
         refine ⟨by simp, ?_⟩
         simp only [reduceCtorEq, if_true, if_false, Sem.run_bind, Op.equal, Op.maxDepth, this, Result.andThen_ok]
         cases r <;> exact ⟨_, rfl, .bool _⟩)
  unfold binA at hb
  split at hb
  · rename_i k a k' b
    have := hx.int_inv; have := hy.int_inv; subst_vars
    split at hb
    · rename_i hsh
      obtain ⟨r, hr, hv⟩ := shiftA_ok (η := η) (ρ := ρ) (P := P) (w := w) (yk := k') hb
      cases op <;> first | (simp [isShift] at hsh; done) | exact ⟨r, hr, hv⟩
    · rename_i hsh
      rw [ite_no'] at hb
      obtain ⟨rfl, hb⟩ := hb
      cases op <;> simp only [intA, cmpA] at hb <;> first
        | (simp [isShift] at hsh; done)
        | (rw [okk] at hb; subst hb; simp only [binOp, ne_eq, not_true_eq_false, if_false]; exact ⟨_, rfl, by first | exact .int _ _ | exact .bool _⟩)
        | (rw [ite_no, okk] at hb
           obtain ⟨hb0, rfl⟩ := hb
           simp only [binOp, ne_eq, not_true_eq_false, if_false, Op.intDiv, hb0]
           exact ⟨_, rfl, .int _ _⟩)
        | (simp [no] at hb; done)
  · rename_i a b
    have := hx.string_inv; have := hy.string_inv; subst_vars
    obtain ⟨r, hr, hv⟩ := strA_ok (η := η) (ρ := ρ) (P := P) (w := w) hb
    refine ⟨r, ?_, hv⟩
    cases op <;> exact hr
  rename_i x y n1 n2
  rw [ite_no'] at hb
  obtain ⟨hp, hb⟩ := hb
  simp only [Bool.and_eq_true] at hp
  obtain ⟨ho, r, hr, hv⟩ := eqc hx hy hb
  refine ⟨r, ?_, hv⟩
  rcases ho with rfl | rfl
  · simp only [if_true] at hr
    rw [← hr]
    cases hx <;> first
      | (simp [plainV] at hp; done)
      | (cases hy <;> first | (simp [plainV] at hp; done) | rfl)
  · simp only [reduceCtorEq, if_false] at hr
    rw [← hr]
    cases hx <;> first
      | (simp [plainV] at hp; done)
      | (cases hy <;> first | (simp [plainV] at hp; done) | rfl)
end
end Go.Ev

namespace Go.Ev
set_option linter.unusedVariables false
set_option linter.unusedSimpArgs false
variable {η : Nat → Value}
section
variable {P : Program} {ρ : Env} {B : Bd} {h : AH} {w : World}
theorem unA_ok {op : UnOp} {x x' v : Value} (hu : unA op x = .ok v) (hx : VR η ρ x x') : ∃ r, (Op.unary op x').run P w = .ok r w ∧ VR η ρ v r := by
  unfold unA at hu
  split at hu
  · have := hx.int_inv; subst this; rw [okk] at hu; subst hu; exact ⟨_, rfl, .int _ _⟩
  · have := hx.int_inv; subst this; rw [okk] at hu; subst hu; exact ⟨_, rfl, .int _ _⟩
  · have := hx.bool_inv; subst this; rw [okk] at hu; subst hu; exact ⟨_, rfl, .bool _⟩
  · simp [no] at hu
theorem bytesOf_ok {ρ : Env} {f : Value → ByteArray → Sem (ForInStep ByteArray)} (hf : ∀ n r, f (.int .u8 n) r = pure (ForInStep.yield (r.push (UInt8.ofNat n.toNat)))) : ∀ {l vs : List Value} {bs : List UInt8}, bytesOf l = .ok bs → LR η ρ l vs → ∀ (acc : ByteArray) (w : World),
    (forIn vs acc f : Sem ByteArray).run P w = .ok ⟨⟨acc.data.toList ++ bs⟩⟩ w
  | [], vs, bs, hb, hl, acc, w => by
    have := hl.inv_nil; subst this
    simp only [bytesOf, okk] at hb; subst hb
    simp only [List.forIn_nil, List.append_nil]; rfl
  | v :: l, vs, bs, hb, hl, acc, w => by
    obtain ⟨x, m, rfl, hx, hm⟩ := hl.inv_cons
    unfold bytesOf at hb
    split at hb
    · rename_i e; cases e
    · rename_i n r e
      injection e with e1 e2; subst e1; subst e2
      have := hx.int_inv; subst this
      split at hb
      · rename_i l' hl'
        rw [okk] at hb; subst hb
        have ih := bytesOf_ok hf hl' hm (acc.push (UInt8.ofNat n.toNat)) w
        simp only [List.forIn_cons, Sem.run_bind, hf, Sem.run_pure, Result.andThen_ok]
        rw [ih]
        congr 1
        apply byteArray_ext
        simp [ByteArray.push]
      · cases hb
    · simp [no] at hb
theorem cells_of_list {b : Addr} {vs : List Value} {n : Nat} (hn : vs.length = n) (hv : ∀ j v, vs[j]? = some v → w.cell? (b.add j) = some v) : (loadCells b n).run P w = .ok vs.toArray w := by
  subst hn; exact run_loadCells_list w b vs hv
theorem convA_ok (H : HR η ρ B h w) {s d : TypeId} {x x' v : Value} (hc : convA P h s d x = .ok v) (hx : VR η ρ x x') : ∃ r, (convert s d x').run P w = .ok r w ∧ VR η ρ v r := by
  simp only [convA, bind_ok, undA_ok] at hc
  obtain ⟨sd, hs, dd, hd, hc⟩ := hc
  split at hc
  · have := hx.int_inv; subst this; rw [okk] at hc; subst hc
    refine ⟨_, by simp only [convert, Sem.run_bind, run_und hs, run_und hd, Result.andThen_ok]; rfl, .int _ _⟩
  · have := hx.int_inv; subst this; rw [okk] at hc; subst hc
    refine ⟨_, by simp only [convert, Sem.run_bind, run_und hs, run_und hd, Result.andThen_ok]; rfl, .string _⟩
  · have := hx.string_inv; subst this; rw [okk] at hc; subst hc
    refine ⟨_, by simp only [convert, Sem.run_bind, run_und hs, run_und hd, Result.andThen_ok]; rfl, .string _⟩
  · rename_i e a len c
    rw [ite_no] at hc
    obtain ⟨hcE, hc⟩ := hc
    simp only [bind_ok, undA_ok] at hc
    obtain ⟨ed, he, hc⟩ := hc
    obtain ⟨a', c', rfl, hcc⟩ := hx.slice_inv3 (by cases a with | none => exact .inr fun e => hcE ⟨rfl, e⟩ | some a => exact .inl rfl)
    split at hc
    · rw [okk] at hc; subst hc
      have e1 : a' = none := by rcases hcc with ⟨_, e, _⟩ | ⟨_, _, e, _⟩ | ⟨_, _, _, _, _, _, e, _⟩ <;> first | exact e | cases e
      subst e1
      refine ⟨_, by simp only [convert, Sem.run_bind, run_und hs, run_und hd, run_und he, Result.andThen_ok]; rfl, ?_⟩
      exact .string _
    · rename_i p
      simp only [bind_ok] at hc
      obtain ⟨l, hl, bs, hb, hc⟩ := hc
      rw [okk] at hc; subst hc
      obtain ⟨q, rfl, hq⟩ : ∃ q, a' = some q ∧ AdR ρ p q := by
        rcases hcc with ⟨e, _⟩ | ⟨_, q, e, e', hq, _⟩ | ⟨_, q, _, _, _, _, e, e', hq, _⟩
        · cases e
        · cases e; exact ⟨q, e', hq⟩
        · cases e; exact ⟨q, e', hq⟩
      obtain ⟨vs, h1, h2, h3⟩ := getC_ok H hl hq
      refine ⟨strL bs, ?_, .string _⟩
      simp only [convert, Sem.run_bind, run_und hs, run_und hd, run_und he, Result.andThen_ok, Conv.bytesToString, cells_of_list h2 h3]
      rw [← Array.forIn_toList]
      simp only []
      rw [bytesOf_ok (fun n r => by simp) hb h1 .empty w]
      simp [strL]
    · simp [no] at hc
  · rename_i t a
    simp only [bind_ok] at hc
    obtain ⟨n, hn, ⟨ty, c, p, own⟩, hcell, hc⟩ := hc
    simp only [ite_no', okk] at hc
    obtain ⟨⟨h0, hp, hlt, hsp⟩, rfl⟩ := hc
    obtain ⟨q, rfl, hq⟩ := hx.ptr_inv
    obtain ⟨b, d0, m, C, lo, hi, h1, h2, h3, _⟩ := H.cells (cellsAt_ok.1 hcell)
    obtain ⟨_, m', b', d', h5, rfl⟩ := hq
    rw [h1] at h5; cases h5
    obtain ⟨_, _, hd0, hcl⟩ := h3.plain hp
    have hsz : C.toList.length = d0 + m := h3.size
    have hsh : w.shape? b = some (ty, C.size) := by simp only [World.shape?, h2]
    have hCs : C.size = C.toList.length := rfl
    refine ⟨.pointer (some ⟨b, d0 + a.off, none⟩), ?_, (show AdR ρ a _ from ⟨hsp, m, b, d0, h1, rfl⟩).ptr⟩
    have hseen : (Conv.seenAt ⟨b, d0 + a.off, none⟩).run P w = .ok ⟨b, d0 + a.off, none⟩ w := by
      simp only [Conv.seenAt, viewAt, Sem.run_bind, run_shape, Result.andThen_ok, hsh, Option.isSome_some, if_true, Sem.run_pure]
    have hcin : (cellsIn b).run P w = .ok (some C.size) w := by
      simp only [cellsIn, Sem.run_bind, run_shape, Result.andThen_ok, hsh, Sem.run_pure]
    simp only [convert, Sem.run_bind, run_und hs, run_und hd, Result.andThen_ok, Conv.unsafePointer, hseen, hcin, run_size hn]
    have hcl' : c.length = m := hcl
    have hlt' : a.off < c.length := hlt
    rw [if_neg (by simp [h0]; omega)]
    rfl
  · rename_i u a
    simp only [bind_ok] at hc
    obtain ⟨iu, hiu, ⟨ty, c, p, own⟩, hcell, hc⟩ := hc
    rw [infoA_ok] at hiu
    simp only [ite_no', okk] at hc
    obtain ⟨⟨hp, hlies, hsp⟩, rfl⟩ := hc
    obtain ⟨q, rfl, hq⟩ := hx.ptr_inv
    obtain ⟨b, d0, m, C, lo, hi, h1, h2, h3, _⟩ := H.cells (cellsAt_ok.1 hcell)
    obtain ⟨_, m', b', d', h5, rfl⟩ := hq
    rw [h1] at h5; cases h5
    obtain ⟨_, _, hd0, hcl⟩ := h3.plain hp
    have hsz : C.toList.length = d0 + m := h3.size
    have hCs : C.size = c.length := by have : C.size = C.toList.length := rfl; have hcl' : c.length = m := hcl; omega
    have hsh : w.shape? b = some (ty, C.size) := by simp only [World.shape?, h2]
    refine ⟨.pointer (some ⟨b, d0 + a.off, none⟩), ?_, (show AdR ρ a _ from ⟨hsp, m, b, d0, h1, rfl⟩).ptr⟩
    have hseen : (Conv.seenAt ⟨b, d0 + a.off, none⟩).run P w = .ok ⟨b, d0 + a.off, none⟩ w := by
      simp only [Conv.seenAt, viewAt, Sem.run_bind, run_shape, Result.andThen_ok, hsh, Option.isSome_some, if_true, Sem.run_pure]
    have hva : (variablesAt ⟨b, d0 + a.off, none⟩ u 1).run P w = .ok true w := by
      have : d0 + a.off = a.off := by have : d0 = 0 := hd0; omega
      simp only [variablesAt, Sem.run_bind, run_program, Result.andThen_ok, run_shape, hsh, Sem.run_pure, this, hCs]
      rw [show liesAt P P.depth ty (c.length / P.cellsOf ty) a.off u 1 = true from hlies]
    simp only [convert, Sem.run_bind, run_und hs, run_und hd, Result.andThen_ok, Conv.unsafePointer, hseen, sizeOf, run_info hiu, Sem.run_pure, hva]
    simp
  · simp [no] at hc
theorem foldl_splice : ∀ (vs : List Value) (off k : Nat) (C : Array Value), off + k + vs.length ≤ C.toList.length →
    ((vs.zipIdx k).foldl (fun cs p => cs.setIfInBounds (off + p.2) p.1) C).toList = splice C.toList (off + k) vs
  | [], off, k, C, _ => by simp [splice]
  | v :: vs, off, k, C, hl => by
    simp only [List.length_cons] at hl
    rw [List.zipIdx_cons, List.foldl_cons, foldl_splice vs off (k + 1) _ (by simp only [Array.toList_setIfInBounds, List.length_set]; omega)]
    simp only [Array.toList_setIfInBounds]
    apply List.ext_getElem?
    intro i
    rw [splice_get _ _ _ (by rw [List.length_set]; omega), splice_get _ _ _ (by simp only [List.length_cons]; omega)]
    simp only [List.length_cons]
    by_cases hk : i = off + k
    · subst hk
      rw [if_neg (by omega), if_pos (by omega), List.getElem?_set_self (by omega)]; simp
    · by_cases hk2 : off + (k + 1) ≤ i ∧ i < off + (k + 1) + vs.length
      · rw [if_pos hk2, if_pos (by omega), show i - (off + k) = (i - (off + (k + 1))) + 1 by omega]; rfl
      · rw [if_neg hk2, if_neg (by omega), List.getElem?_set_ne (fun e => hk e.symm)]
theorem LR.splice {c c' vs vs' : List Value} (h : LR η ρ c c') (k : LR η ρ vs vs') (off : Nat) : LR η ρ (Ev.splice c off vs) (Ev.splice c' off vs') := by
  unfold Ev.splice
  rw [k.len]
  exact ((h.take off).append k).append (h.drop _)
theorem fillA_ok (hη : OneCells η) {place : Nat → Option (Nat × Nat)} : ∀ {ps ps' : List (Nat × Value)}, L2 (fun p q : Nat × Value => p.1 = q.1 ∧ VR η ρ p.2 q.2) ps ps' → ∀ {c c2 : List Value} {C : Array Value}, fillA place c ps = .ok c2 → LR η ρ c C.toList →
    ∃ C2 : Array Value, Instr.fill place C ps' = some C2 ∧ LR η ρ c2 C2.toList := by
  intro ps ps' hp
  induction hp with
  | nil => intro c c2 C hf hc; simp only [fillA, okk] at hf; subst hf; exact ⟨C, rfl, hc⟩
  | @cons p q ps ps' hpq _ ih =>
    intro c c2 C hf hc
    obtain ⟨i, v⟩ := p
    obtain ⟨i', v'⟩ := q
    obtain ⟨rfl, hv⟩ := hpq
    simp only [fillA] at hf
    simp only [Instr.fill]
    cases hpl : place i with
    | none => rw [hpl] at hf; simp [no] at hf
    | some os =>
      obtain ⟨off, size⟩ := os
      rw [hpl] at hf
      simp only [] at hf ⊢
      rw [ite_no] at hf
      obtain ⟨hsz, hf⟩ := hf
      have hvc := hv.cells hη
      have hlen : (cellsL v).length = v'.cells.toList.length := hvc.len
      have hclen := hc.len
      have hnot : ¬ ((cellsL v).length ≠ size) ∧ ¬ (off + size > c.length) := ⟨fun e => hsz (.inl e), fun e => hsz (.inr e)⟩
      have hs1 : v'.cells.toList.length = size := by omega
      have hs2 : v'.cells.size = size := hs1
      rw [if_neg (by
        simp only [hs2, ne_eq, not_true_eq_false, decide_false, Bool.false_or, decide_eq_true_eq, gt_iff_lt, Nat.not_lt]
        have : C.size = C.toList.length := rfl
        omega)]
      refine ih hf ?_
      have hfold : (v'.cells.zipIdx.foldl (fun cs (x : Value × Nat) => cs.setIfInBounds (off + x.2) x.1) C).toList = Ev.splice C.toList off v'.cells.toList := by
        rw [← Array.foldl_toList, Array.toList_zipIdx]
        have := foldl_splice v'.cells.toList off 0 C (by have h1 := hnot.2; omega)
        simpa using this
      have h0 := hc.splice hvc off
      rw [← hfold] at h0
      exact h0
theorem placesA_ok : ∀ {fs : List Field} {pl : List (Nat × Nat)}, placesA P fs = .ok pl → ∀ (w : World), (fs.mapM fun f => (do pure (f.offset, ← sizeOf f.type) : Sem (Nat × Nat))).run P w = .ok pl w
  | [], pl, hp, w => by simp only [placesA, okk] at hp; subst hp; rfl
  | f :: fs, pl, hp, w => by
    simp only [placesA, bind_ok] at hp
    obtain ⟨n, hn, r, hr, hp⟩ := hp
    rw [okk] at hp; subst hp
    have ih := placesA_ok hr w
    simp only [List.mapM_cons, Sem.run_bind, run_size hn, Result.andThen_ok, Sem.run_pure] at ih ⊢
    rw [ih]; rfl
theorem fieldOff_ok {s : TypeId} {i : Nat} {f : Field} (hf : fieldOff P s i = .ok f) : ∃ fs : Array Field, P.underlying s = some (.struct fs) ∧ fs[i]? = some f := by
  simp only [fieldOff, bind_ok, undA_ok] at hf
  obtain ⟨d, hd, hf⟩ := hf
  split at hf
  · rw [orNo_ok] at hf; exact ⟨_, hd, by simpa using hf⟩
  · simp [no] at hf
theorem run_place {a : Addr} {f : Field} {n : Nat} (hn : sizeA P f.type = .ok n) (h0 : ¬ n = 0) : (fieldPlace a f).run P w = .ok (a.add f.offset) w := by
  simp only [fieldPlace, Sem.run_bind, run_size hn, Result.andThen_ok]
  rw [if_neg h0]; rfl
theorem parts_rel {σ τ : Operand → Value} {ps : Array (Nat × Operand)} (hs : ∀ p ∈ ps.toList, VR η ρ (σ p.2) (τ p.2)) :
    L2 (fun p q : Nat × Value => p.1 = q.1 ∧ VR η ρ p.2 q.2) (ps.toList.map fun p => (p.1, σ p.2)) (ps.map fun (i, x) => (i, τ x)).toList := by
  rw [Array.toList_map]
  generalize ps.toList = l at hs
  induction l with
  | nil => exact .nil
  | cons p l ih => exact .cons ⟨rfl, hs p (by simp)⟩ (ih fun q hq => hs q (by simp [hq]))
theorem buildA_ok (hη : OneCells η) {t : TypeId} {ps ps' : List (Nat × Value)} (hp : L2 (fun p q : Nat × Value => p.1 = q.1 ∧ VR η ρ p.2 q.2) ps ps') {arr : Array (Nat × Value)} (harr : arr.toList = ps') {v : Value}
    (hb : (do
      let z := cellsL (← zeroA P t)
      match ← undA P t with
      | .struct fields => do
        let pl ← placesA P fields.toList
        .ok (aggL (← fillA (fun i => pl[i]?) z ps))
      | .array _ elem => do
        let size ← sizeA P elem
        .ok (aggL (← fillA (fun i => some (i * size, size)) z ps))
      | _ => no "build" : M Value) = .ok v) : ∃ x, (Instr.build t arr).run P w = .ok x w ∧ VR η ρ v x := by
  simp only [bind_ok, undA_ok] at hb
  obtain ⟨z, hz, d, hd, hb⟩ := hb
  have hzz : LR η ρ (cellsL z) z.cells.toList := (VR.zero hz).cells hη
  split at hb
  · rename_i fields
    simp only [bind_ok] at hb
    obtain ⟨pl, hpl, l, hl, hb⟩ := hb
    rw [okk] at hb; subst hb
    obtain ⟨C, hC, hr⟩ := fillA_ok hη hp hl hzz
    refine ⟨.agg C, ?_, .agg hr.len hr.at_⟩
    have hpl' := placesA_ok hpl w
    simp only [Instr.build, Sem.run_bind, run_zero hz, run_und hd, Result.andThen_ok]
    obtain ⟨fl⟩ := fields
    rw [show (Array.mk fl) = fl.toArray from rfl, List.mapM_toArray]
    simp only [Sem.run_map] at hpl' ⊢
    rw [hpl']
    simp only [Result.andThen_ok]
    rw [harr]
    have : (fun i : Nat => (pl.toArray)[i]?) = fun i : Nat => pl[i]? := by funext i; simp
    rw [this, hC]; rfl
  · rename_i n elem
    simp only [bind_ok] at hb
    obtain ⟨size, hsz, l, hl, hb⟩ := hb
    rw [okk] at hb; subst hb
    obtain ⟨C, hC, hr⟩ := fillA_ok hη hp hl hzz
    refine ⟨.agg C, ?_, .agg hr.len hr.at_⟩
    simp only [Instr.build, Sem.run_bind, run_zero hz, run_und hd, run_size hsz, Result.andThen_ok]
    rw [harr, hC]; rfl
  · simp [no] at hb
theorem maxL_ok {mx : Bool} : ∀ {l m : List Value} {v x r : Value}, maxL mx v l = .ok r → VR η ρ v x → LR η ρ l m → ∀ (w : World), ∃ y, (m.foldlM (if mx then Builtin.max2 else Builtin.min2) x).run P w = .ok y w ∧ VR η ρ r y
  | [], m, v, x, r, hm, hv, hl, w => by
    have := hl.inv_nil; subst this
    simp only [maxL, okk] at hm; subst hm
    exact ⟨x, rfl, hv⟩
  | u :: l, m, v, x, r, hm, hv, hl, w => by
    obtain ⟨u', m', rfl, hu, hm'⟩ := hl.inv_cons
    unfold maxL at hm
    split at hm
    · rename_i e; cases e
    · rename_i k a k' b l' e
      injection e with e1 e2; subst e1; subst e2
      have := hv.int_inv; have := hu.int_inv; subst_vars
      obtain ⟨y, hy, hr⟩ := maxL_ok hm (.int _ _) hm' w
      refine ⟨y, ?_, hr⟩
      rw [List.foldlM_cons, Sem.run_bind]
      cases mx
      · simp only [Bool.false_eq_true, if_false, Builtin.min2, Sem.run_pure, Result.andThen_ok, decide_eq_true_eq] at hy ⊢; exact hy
      · simp only [if_true, Builtin.max2, Sem.run_pure, Result.andThen_ok, decide_eq_true_eq] at hy ⊢; exact hy
    · simp [no] at hm
theorem readB_ok (H : HR η ρ B h w) {b : Builtin} {ts : Array TypeId} {type : TypeId} {cs : Array Bool} {args : List Value} {args' : Array Value} {v : Value} (hts : ts.toList ≠ []) (hr : readB P h b ts.toList args = .ok v) (ha : LR η ρ args args'.toList) :
    ∃ x, (builtin b ts type cs args').run P w = .ok (.value x) w ∧ VR η ρ v x := by
  obtain ⟨t0, ts', htt⟩ : ∃ t0 ts', ts.toList = t0 :: ts' := by cases hh : ts.toList with
    | nil => exact absurd hh hts
    | cons a b => exact ⟨_, _, rfl⟩
  have ht0 : ts[0]? = some t0 := by rw [← Array.getElem?_toList, htt]; rfl
  unfold readB at hr
  rw [htt] at hr
  split at hr
  · rename_i x
    obtain ⟨x', m, hm, hx, hm'⟩ := ha.inv_cons
    have := hm'.inv_nil; subst this
    have hx0 : args'[0]? = some x' := by rw [← Array.getElem?_toList, hm]; rfl
    simp only [List.headD_cons, bind_ok, undA_ok] at hr
    obtain ⟨d, hd, hr⟩ := hr
    have base : ∀ {y}, (Builtin.len_ ts type args').run P w = .ok y w → (builtin .len ts type cs args').run P w = .ok (.value y) w := by
      intro y hy; simp only [builtin, Sem.run_bind, hy, Result.andThen_ok]; rfl
    split at hr
    · have := hx.string_inv; subst this
      rw [okk] at hr; subst hr
      exact ⟨_, base (by simp only [Builtin.len_, ht0, hx0, Sem.run_bind, run_und hd, Result.andThen_ok]; rfl), .int _ _⟩
    · rw [okk] at hr; subst hr
      refine ⟨_, base (by simp only [Builtin.len_, ht0, hx0, Sem.run_bind, run_und hd, Result.andThen_ok]; rfl), .int _ _⟩
    · simp only [bind_ok, undA_ok] at hr
      obtain ⟨d2, hd2, hr⟩ := hr
      split at hr
      · rw [okk] at hr; subst hr
        refine ⟨_, base (by simp only [Builtin.len_, ht0, hx0, Sem.run_bind, run_und hd, run_und hd2, Result.andThen_ok]; rfl), .int _ _⟩
      · simp [no] at hr
    · obtain ⟨a', c', rfl, _⟩ := hx.slice_inv
      rw [okk] at hr; subst hr
      exact ⟨_, base (by simp only [Builtin.len_, ht0, hx0, Sem.run_bind, run_und hd, Result.andThen_ok]; rfl), .int _ _⟩
    · have := hx.map0_inv; subst this
      rw [okk] at hr; subst hr
      exact ⟨_, base (by simp only [Builtin.len_, ht0, hx0, Sem.run_bind, run_und hd, Result.andThen_ok]; rfl), .int _ _⟩
    · obtain ⟨b', d', n', rfl, hρ⟩ := hx.map_inv
      simp only [bind_ok] at hr
      obtain ⟨m, hm, hr⟩ := hr
      rw [okk] at hr; subst hr
      obtain ⟨_, _, _, E, h1, h2, h3, _⟩ := H.map (mapOf_ok.1 hm)
      rw [hρ] at h1; cases h1
      refine ⟨goInt E.size, base (by simp only [Builtin.len_, ht0, hx0, Sem.run_bind, run_und hd, Result.andThen_ok, run_getObj h2 (by simp)]; rfl), ?_⟩
      rw [h3.len]; exact .int _ _
    · simp [no] at hr
  · rename_i x
    obtain ⟨x', m, hm, hx, hm'⟩ := ha.inv_cons
    have := hm'.inv_nil; subst this
    have hx0 : args'[0]? = some x' := by rw [← Array.getElem?_toList, hm]; rfl
    simp only [List.headD_cons, bind_ok, undA_ok] at hr
    obtain ⟨d, hd, hr⟩ := hr
    have base : ∀ {y}, (Builtin.cap_ ts type args').run P w = .ok y w → (builtin .cap ts type cs args').run P w = .ok (.value y) w := by
      intro y hy; simp only [builtin, Sem.run_bind, hy, Result.andThen_ok]; rfl
    split at hr
    · rw [okk] at hr; subst hr
      refine ⟨_, base (by simp only [Builtin.cap_, ht0, hx0, Sem.run_bind, run_und hd, Result.andThen_ok]; rfl), .int _ _⟩
    · obtain ⟨a', c', rfl, hc⟩ := hx.slice_inv
      rw [ite_no, okk] at hr
      obtain ⟨hU, rfl⟩ := hr
      rcases hc with ⟨_, _, _, e⟩ | ⟨_, _, _, _, _, _, e⟩ | ⟨_, _, _, _, _, _, _, _, _, rfl, _⟩
      · subst e
        exact ⟨_, base (by simp only [Builtin.cap_, ht0, hx0, Sem.run_bind, run_und hd, Result.andThen_ok]; rfl), .int _ _⟩
      · subst e
        exact ⟨_, base (by simp only [Builtin.cap_, ht0, hx0, Sem.run_bind, run_und hd, Result.andThen_ok]; rfl), .int _ _⟩
      · exact absurd (isU_capU _) (by simpa using hU)
      · rename_i e; rw [e.2.2] at hU; exact absurd isU_capE hU
    · simp [no] at hr
  · rename_i x r
    obtain ⟨x', m, hm, hx, hm'⟩ := ha.inv_cons
    obtain ⟨y, hy, hv⟩ := maxL_ok (P := P) hr hx hm' w
    refine ⟨y, ?_, hv⟩
    simp only [builtin, Builtin.max_, hm, Sem.run_bind]
    simp only [if_true] at hy
    rw [hy]; rfl
  · rename_i x r
    obtain ⟨x', m, hm, hx, hm'⟩ := ha.inv_cons
    obtain ⟨y, hy, hv⟩ := maxL_ok (P := P) hr hx hm' w
    refine ⟨y, ?_, hv⟩
    simp only [builtin, Builtin.min_, hm, Sem.run_bind]
    simp only [Bool.false_eq_true, if_false] at hy
    rw [hy]; rfl
  · rename_i len cap
    obtain ⟨x', m, hm, hx, hm'⟩ := ha.inv_cons
    have := hm'.inv_nil; subst this
    rw [ite_no, okk] at hr
    obtain ⟨hcE, hr⟩ := hr
    obtain ⟨a', c', rfl, hc⟩ := hx.slice_inv3 (.inr hcE)
    have e1 : a' = none := by rcases hc with ⟨_, e, _⟩ | ⟨_, _, e, _⟩ | ⟨_, _, _, _, _, _, e, _⟩ <;> first | exact e | cases e
    subst e1
    subst hr
    have hargs : args' = #[.slice none len c'] := by rw [← Array.toArray_toList (xs := args'), hm]
    subst hargs
    exact ⟨_, rfl, .ptr0⟩
  · rename_i p l c
    obtain ⟨x', m, hm, hx, hm'⟩ := ha.inv_cons
    have := hm'.inv_nil; subst this
    obtain ⟨a', c', rfl, hc⟩ := hx.slice_inv3 (.inl rfl)
    rw [ite_no', okk] at hr
    obtain ⟨hc0, rfl⟩ := hr
    obtain ⟨q, hqe, hq, hc1⟩ : ∃ q, a' = some q ∧ AdR ρ p q ∧ c' ≠ 0 := by
      rcases hc with ⟨e, _⟩ | ⟨_, q, e, e', hq, _, ec⟩ | ⟨_, q, s, _, _, n, e, e', hq, ec, _, hs, hn, hl⟩
      · cases e
      · cases e; exact ⟨q, e', hq, by rw [ec]; exact hc0.1⟩
      · cases e; refine ⟨q, e', hq, ?_⟩; rcases hc0.2 with hU | hl0
        · rw [ec, isU_capU] at hU; cases hU
        · omega
    subst hqe
    have hargs : args' = #[.slice (some q) l c'] := by rw [← Array.toArray_toList (xs := args'), hm]
    subst hargs
    refine ⟨_, ?_, hq.ptr⟩
    have e : Builtin.unsafeSliceData_ ts type #[.slice (some q) l c'] = pure (.pointer (some q)) := by
      show (if c' ≠ 0 then _ else _) = _
      rw [if_pos hc1]
    simp only [builtin, e, Sem.run_bind, Sem.run_pure, Result.andThen_ok]
  · simp [no] at hr
end
end Go.Ev

namespace Go.Ev
set_option linter.unusedVariables false
set_option linter.unusedSimpArgs false
variable {η : Nat → Value}
section
variable {P : Program} {ρ : Env} {B : Bd} {h : AH} {w : World}
theorem map_rel {σ τ : Operand → Value} {xs : Array Operand} (hs : ∀ x ∈ xs.toList, VR η ρ (σ x) (τ x)) : LR η ρ (xs.toList.map σ) (xs.map τ).toList := by
  rw [Array.toList_map]
  generalize xs.toList = l at hs
  induction l with
  | nil => exact .nil
  | cons p l ih => exact .cons (hs p (by simp)) (ih fun q hq => hs q (by simp [hq]))
theorem op_rel {σ τ : Operand → Value} {o : Option Operand} (hs : ∀ x, o = some x → VR η ρ (σ x) (τ x)) : OpR η ρ (o.map σ) (o.map τ) := by
  cases o with
  | none => trivial
  | some x => exact hs x rfl
theorem run_asIntOf {k : IntKind} {n : Int} : (asIntOf (.int k n)).run P w = .ok (k, n) w := rfl
theorem least_none {l : List String} (h : Instr.least l = none) : l = [] := by
  cases l with
  | nil => rfl
  | cons a l => simp [Instr.least] at h
theorem hasAll_true {want : Array (String × TypeId)} {got : Array Method} (h : hasAll want got = true) : Instr.missingMethod want got = none := by
  unfold hasAll at h
  rw [List.isEmpty_iff] at h
  unfold Instr.missingMethod
  rw [h]
  rfl
theorem hasAll_false {want : Array (String × TypeId)} {got : Array Method} (h : hasAll want got = false) : ∃ m, Instr.missingMethod want got = some m := by
  unfold hasAll at h
  cases hm : Instr.missingMethod want got with
  | some m => exact ⟨m, rfl⟩
  | none =>
    unfold Instr.missingMethod at hm
    generalize (want.toList.filter fun (x : String × TypeId) => !got.any fun m => m.name == x.1 && m.sig == x.2) = l at h hm
    cases l with
    | nil => simp at h
    | cons a l =>
      exfalso
      simp only [List.partition_eq_filter_filter] at hm
      have hor : ∀ {x y : Option String}, (x <|> y) = none → x = none ∧ y = none := by
        intro x y hxy
        cases x with
        | none => exact ⟨rfl, hxy⟩
        | some u => cases hxy
      obtain ⟨h1, h2⟩ := hor hm
      have h1 := least_none h1
      have h2 := least_none h2
      simp at h1 h2
      exact h2.1 h1.1
theorem assert_ok {x x' v : Value} {asserted xType : TypeId} {ok : Bool} (hx : VR η ρ x x') (hr : (do
    match ← undA P asserted, x with
    | .interface _, .nilIface => do if ok then .ok (tupL [← zeroA P asserted, .bool false]) else no "assert"
    | .interface want, .iface t v => do
      match hasAll want (← infoA P t).methods with
      | true => .ok (if ok then tupL [.iface t v, .bool true] else .iface t v)
      | false => do if ok then .ok (tupL [← zeroA P asserted, .bool false]) else no "assert"
    | _, .nilIface => do if ok then .ok (tupL [← zeroA P asserted, .bool false]) else no "assert"
    | _, .iface t v => do
      if t = asserted then .ok (if ok then tupL [v, .bool true] else v) else if ok then .ok (tupL [← zeroA P asserted, .bool false]) else no "assert"
    | _, _ => no "assert" : M Value) = .ok v) : ∃ r, (Instr.typeAssert x' xType asserted ok).run P w = .ok r w ∧ VR η ρ v r := by
  simp only [bind_ok, undA_ok] at hr
  obtain ⟨d, hd, hr⟩ := hr
  have fails : ∀ {s dy : Option TypeId} {mm : String}, (if ok then (do .ok (tupL [← zeroA P asserted, .bool false])) else no "assert" : M Value) = .ok v →
      ∃ r, (if ok then (do pure (.tuple #[← zeroValue asserted, .bool false])) else runtimePanic (.typeAssertion s dy asserted mm) : Sem Value).run P w = .ok r w ∧ VR η ρ v r := by
    intro s dy mm hf
    rw [ite_no'] at hf
    obtain ⟨rfl, hf⟩ := hf
    simp only [bind_ok] at hf
    obtain ⟨z, hz, hf⟩ := hf
    rw [okk] at hf; subst hf
    refine ⟨.tuple #[z, .bool false], ?_, .pair (.zero hz)⟩
    simp only [if_true, Sem.run_bind, run_zero hz, Result.andThen_ok]; rfl
  have holds : ∀ {u u' : Value}, VR η ρ u u' → (if ok then tupL [u, .bool true] else u) = v → VR η ρ v (if ok then .tuple #[u', .bool true] else u') := by
    intro u u' hu he
    subst he
    cases ok
    · exact hu
    · exact .pair hu
  simp only [Instr.typeAssert, Sem.run_bind, run_und hd, Result.andThen_ok]
  split at hr
  · have := hx.nilIface_inv; subst this
    exact fails hr
  · obtain ⟨y, rfl, hy⟩ := hx.iface_inv
    simp only [bind_ok, infoA_ok] at hr
    obtain ⟨i, hi, hr⟩ := hr
    simp only [Sem.run_bind, run_info hi, Result.andThen_ok]
    split at hr
    · rename_i hm
      rw [okk] at hr
      rw [hasAll_true hm]
      exact ⟨_, rfl, holds (.iface _ hy) hr⟩
    · rename_i hm
      obtain ⟨m, hm⟩ := hasAll_false hm
      rw [hm]
      exact fails hr
  · rename_i hn
    have := hx.nilIface_inv; subst this
    cases d <;> first | exact fails hr | exact absurd rfl (hn _)
  · rename_i t u hn
    obtain ⟨y, rfl, hy⟩ := hx.iface_inv
    have : ∃ r, (if t = asserted then (pure (if ok then .tuple #[y, .bool true] else y) : Sem Value) else if ok then (do pure (.tuple #[← zeroValue asserted, .bool false])) else runtimePanic (.typeAssertion (some xType) (some t) asserted "")).run P w = .ok r w ∧ VR η ρ v r := by
      by_cases ht : t = asserted
      · rw [if_pos ht, okk] at hr
        rw [if_pos ht]
        exact ⟨_, rfl, holds hy hr⟩
      · rw [if_neg ht] at hr
        rw [if_neg ht]
        exact fails hr
    cases d <;> first | exact this | exact absurd rfl (hn _)
  · simp [no] at hr
theorem readA_ok (hη : OneCells η) (hG : GR P ρ) (H : HR η ρ B h w) {o : Oper} {σ τ : Operand → Value} (hs : ∀ x ∈ o.op.operands.toList, VR η ρ (σ x) (τ x)) {v : Value} (hr : readA P σ o h = .ok v) :
    ∃ x, (execOp τ o).run P w = .ok (.value x) w ∧ VR η ρ v x := by
  obtain ⟨dst, op, type, pos, after, guard⟩ := o
  have val : ∀ {s : Sem Value}, (∃ x, s.run P w = .ok x w ∧ VR η ρ v x) → ∃ x, ((do pure (.value (← s)) : Sem Next)).run P w = .ok (.value x) w ∧ VR η ρ v x := by
    rintro s ⟨x, h1, h2⟩
    exact ⟨x, by simp only [Sem.run_bind, h1, Result.andThen_ok]; rfl, h2⟩
  cases op <;> simp only [readA] at hr <;> simp only [Op.operands] at hs <;> try (simp [no] at hr; done)
  case move x => rw [okk] at hr; subst hr; exact ⟨_, rfl, hs x (by simp)⟩
  case assign x => rw [okk] at hr; subst hr; exact ⟨_, rfl, hs x (by simp)⟩
  case pick c a b =>
    have hc := hs c (by simp); have ha := hs a (by simp); have hb := hs b (by simp)
    split at hr
    · rename_i t ht
      rw [ht] at hc
      have hc := hc.bool_inv
      rw [okk] at hr; subst hr
      refine ⟨if t then τ a else τ b, by simp only [execOp, hc, asBool, pure_bind]; rfl, ?_⟩
      cases t
      · exact hb
      · exact ha
    · simp [no] at hr
  case build t parts =>
    have hp := parts_rel (η := η) (ρ := ρ) (σ := σ) (τ := τ) (ps := parts) (fun p hp => hs p.2 (by simp; exact ⟨p.1, by simpa using hp⟩))
    exact val (buildA_ok hη hp rfl hr)
  case load t a =>
    have ha := hs a (by simp)
    simp only [bind_ok, addrA_ok] at hr
    obtain ⟨b, ⟨hb, _⟩, hr⟩ := hr
    rw [hb] at ha
    obtain ⟨q, hq, hq2⟩ := ha.ptr_inv
    obtain ⟨x, h1, h2⟩ := loadA_ok H hr hq2
    exact val ⟨x, by simp only [Instr.loadAt, hq, Instr.sureAddr, pure_bind]; exact h1, h2⟩
  case waits g =>
    simp only [bind_ok] at hr
    obtain ⟨c, hc, hr⟩ := hr
    rw [ite_no', okk] at hr
    obtain ⟨hg, rfl⟩ := hr
    obtain ⟨b, d, n, C, lo, hi, h1, h2, _⟩ := H.cells (cellsAt_ok.1 hc)
    obtain ⟨m, h3⟩ := hG g (Nat.le_of_lt hg)
    rw [h3] at h1; cases h1
    refine val ⟨.bool false, ?_, .bool _⟩
    simp only [Instr.waits, Sem.run_bind, run_shape, Result.andThen_ok, World.shape?, h2]; rfl
  case nilCheck x =>
    have hx := hs x (by simp)
    split at hr
    · rename_i a ha
      rw [okk] at hr; subst hr
      rw [ha] at hx
      obtain ⟨q, hq, hq2⟩ := hx.ptr_inv
      exact ⟨_, by simp only [execOp, hq]; rfl, hq2.ptr⟩
    · rename_i f a b ha
      rw [okk] at hr; subst hr
      rw [ha] at hx
      obtain ⟨g, c, d, hq, hf, h1, h2⟩ := hx.func_inv
      cases hf with
      | same hf => exact ⟨_, by simp only [execOp, hq]; rfl, .func_mk (.same hf) h1 h2⟩
    · rename_i t u ha
      rw [okk] at hr; subst hr
      rw [ha] at hx
      obtain ⟨y, hq, hy⟩ := hx.iface_inv
      exact ⟨_, by simp only [execOp, hq]; rfl, .iface _ hy⟩
    · simp [no] at hr
  case binOp op t x y yt =>
    have hx := hs x (by simp); have hy := hs y (by simp)
    simp only [bind_ok] at hr
    obtain ⟨g, hg, hr⟩ := hr
    rw [ite_no'] at hr
    obtain ⟨rfl, hr⟩ := hr
    obtain ⟨r, h1, h2⟩ := binA_ok H hr hx hy
    have hnx : ∀ i, σ x ≠ .chan i := by
      intro i e; rw [e] at hr; unfold binA at hr
      revert hr; generalize σ y = b; intro hr
      split at hr
      · rename_i e1; cases e1
      · rename_i e1; cases e1
      · simp [plainV, no] at hr
    have hny : ∀ i, σ y ≠ .chan i := by
      intro i e; rw [e] at hr; unfold binA at hr
      revert hr; generalize σ x = b; intro hr
      split at hr
      · rename_i e1; cases e1
      · rename_i e1; cases e1
      · simp [plainV, no] at hr
    have h3 := guard_ok (P := P) (w := w) hg hx hy hnx hny
    exact val ⟨r, by simp only [Sem.run_bind, h3, Result.andThen_ok]; exact h1, h2⟩
  case unOp op t x => exact val (unA_ok hr (hs x (by simp)))
  case convert s d x => exact val (convA_ok H hr (hs x (by simp)))
  case makeInterface t x =>
    simp only [bind_ok, undA_ok] at hr
    obtain ⟨d, hd, hr⟩ := hr
    have hx := hs x (by simp)
    split at hr
    · simp [no] at hr
    · rename_i hn
      rw [okk] at hr; subst hr
      refine val ⟨.iface t (τ x), ?_, .iface _ hx⟩
      simp only [Instr.makeInterface, Sem.run_bind, run_und hd, Result.andThen_ok]
      cases d <;> first | rfl | exact absurd rfl (hn _)
  case makeFunc fn first captured =>
    rw [ite_no, okk] at hr
    obtain ⟨hy, rfl⟩ := hr
    have h1 := map_rel (η := η) (ρ := ρ) (σ := σ) (τ := τ) (xs := first) (fun x hx => hs x (by simp at hx ⊢; exact .inl hx))
    have h2 := map_rel (η := η) (ρ := ρ) (σ := σ) (τ := τ) (xs := captured) (fun x hx => hs x (by simp at hx ⊢; exact .inr hx))
    exact ⟨_, rfl, .func_mk (.same (fun l e => by subst e; exact hy rfl)) h1 h2⟩
  case slice t x lo hi mx =>
    have hx := hs x (by simp)
    exact val (sliceA_ok hr hx (op_rel fun y e => hs y (by simp [e])) (op_rel fun y e => hs y (by simp [e])) (op_rel fun y e => hs y (by simp [e])))
  case fieldAddr s x i =>
    have hx := hs x (by simp)
    simp only [bind_ok, addrA_ok] at hr
    obtain ⟨f, hf, a, ⟨ha, _⟩, n, hn, hr⟩ := hr
    rw [ite_no, okk] at hr
    obtain ⟨h0, rfl⟩ := hr
    rw [ha] at hx
    obtain ⟨q, hq, hq2⟩ := hx.ptr_inv
    obtain ⟨fs, hfs, hfi⟩ := fieldOff_ok hf
    refine val ⟨.pointer (some (q.add f.offset)), ?_, (hq2.add _).ptr⟩
    simp only [Instr.fieldAt, Sem.run_bind, run_und hfs, Result.andThen_ok, hfi, hq, Instr.sureAddr, Sem.run_pure, run_place hn h0]
  case field t x i =>
    have hx := hs x (by simp)
    simp only [bind_ok] at hr
    obtain ⟨f, hf, hr⟩ := hr
    obtain ⟨fs, hfs, hfi⟩ := fieldOff_ok hf
    split at hr
    · rename_i cs hcs
      rw [hcs] at hx
      obtain ⟨c, hc, hl⟩ := hx.agg_inv
      obtain ⟨r, h1, h2⟩ := partA_ok (P := P) (w := w) hr hl
      refine val ⟨r, ?_, h2⟩
      simp only [Instr.field, Sem.run_bind, run_und hfs, Result.andThen_ok, hfi, hc, asAgg, Sem.run_pure, h1]
    · simp [no] at hr
  case indexAddr t x ix =>
    have hx := hs x (by simp); have hix := hs ix (by simp)
    simp only [bind_ok, intOfA_ok, undA_ok] at hr
    obtain ⟨i, ⟨k, hi⟩, d, hd, hr⟩ := hr
    rw [hi] at hix
    have hix := hix.int_inv
    split at hr
    · rename_i len elem a ha
      rw [ha] at hx
      obtain ⟨q, hq, hq2⟩ := hx.ptr_inv
      simp only [bind_ok] at hr
      obtain ⟨n, hn, hr⟩ := hr
      rw [ite_no', okk] at hr
      obtain ⟨⟨h0, h1, _⟩, rfl⟩ := hr
      refine val ⟨.pointer (some (q.add (i.toNat * n))), ?_, (hq2.add _).ptr⟩
      simp only [Instr.indexAt, Sem.run_bind, hix, run_asIntOf, run_und hd, Result.andThen_ok, hq, Instr.sureAddr, Sem.run_pure]
      rw [if_pos ⟨h0, h1⟩]
      simp only [Sem.run_bind, run_size hn, Result.andThen_ok]; rfl
    · rename_i elem a len c ha
      rw [ha] at hx
      obtain ⟨a', c', hq, hc⟩ := hx.slice_inv3 (.inl rfl)
      obtain ⟨q, rfl, hq2⟩ : ∃ q, a' = some q ∧ AdR ρ a q := by
        rcases hc with ⟨e, _⟩ | ⟨_, q, e, e', hq, _⟩ | ⟨_, q, _, _, _, _, e, e', hq, _⟩
        · cases e
        · cases e; exact ⟨q, e', hq⟩
        · cases e; exact ⟨q, e', hq⟩
      simp only [bind_ok] at hr
      obtain ⟨n, hn, hr⟩ := hr
      rw [ite_no', okk] at hr
      obtain ⟨⟨h0, h1⟩, rfl⟩ := hr
      refine val ⟨.pointer (some (q.add (i.toNat * n))), ?_, (hq2.add _).ptr⟩
      simp only [Instr.indexAt, Sem.run_bind, hix, run_asIntOf, run_und hd, Result.andThen_ok, hq, Sem.run_pure]
      rw [if_pos ⟨h0, h1⟩]
      simp only [Sem.run_bind, run_size hn, Result.andThen_ok]; rfl
    · simp [no] at hr
  case index t x ix =>
    have hx := hs x (by simp); have hix := hs ix (by simp)
    simp only [bind_ok, intOfA_ok, undA_ok] at hr
    obtain ⟨i, ⟨k, hi⟩, d, hd, hr⟩ := hr
    rw [hi] at hix
    have hix := hix.int_inv
    split at hr
    · rename_i len elem cs ha
      rw [ha] at hx
      obtain ⟨c, hc, hl⟩ := hx.agg_inv
      simp only [bind_ok] at hr
      obtain ⟨n, hn, hr⟩ := hr
      rw [ite_no'] at hr
      obtain ⟨h0, hr⟩ := hr
      obtain ⟨r, h1, h2⟩ := partA_ok (P := P) (w := w) hr hl
      refine val ⟨r, ?_, h2⟩
      simp only [Instr.index, Sem.run_bind, hix, run_asIntOf, run_und hd, Result.andThen_ok, hc]
      rw [if_pos h0]
      simp only [Sem.run_bind, run_size hn, Result.andThen_ok, h1]
    · rename_i s ha
      rw [ha] at hx
      have hx := hx.string_inv
      rw [ite_no'] at hr
      obtain ⟨h0, hr⟩ := hr
      split at hr
      · rename_i b hb
        rw [okk] at hr; subst hr
        refine val ⟨.int .u8 b.toNat, ?_, .int _ _⟩
        have hb' : s[i.toNat]? = some b := by
          have hl : i.toNat < s.data.toList.length := (List.getElem?_eq_some_iff.1 hb).1
          rw [ByteArray.getElem?_lt' s _ hl]
          rw [List.getElem?_eq_getElem hl] at hb
          injection hb with hb; rw [← hb]; rfl
        simp only [Instr.index, Sem.run_bind, hix, run_asIntOf, run_und hd, Result.andThen_ok, hx, h0, if_true, hb', Sem.run_pure]
      · simp [no] at hr
    · simp [no] at hr
  case lookup t x k ok => exact val (lookA_ok H hr (hs x (by simp)) (hs k (by simp)))
  case typeAssert x xt at_ ok => exact val (assert_ok (hs x (by simp)) hr)
  case extract x i =>
    have hx := hs x (by simp)
    split at hr
    · rename_i vs hv
      rw [hv] at hx
      obtain ⟨c, hc, hl⟩ := hx.tuple_inv
      rw [orNo_ok] at hr
      obtain ⟨y, hy, hvy⟩ := hl.get hr
      refine val ⟨y, ?_, hvy⟩
      have : c[i]? = some y := by simpa using hy
      simp only [hc, Instr.extract, this]; rfl
    · simp [no] at hr
  case call c =>
    obtain ⟨callee, args, argTypes⟩ := c
    cases callee with
    | builtin b =>
      simp only [ite_no] at hr
      obtain ⟨hne, hr⟩ := hr
      have ha := map_rel (η := η) (ρ := ρ) (σ := σ) (τ := τ) (xs := args) (fun x hx => hs x (by simp [Call.operands]; simpa using hx))
      exact readB_ok H (fun e => hne (by rw [e]; rfl)) hr ha
    | value f => simp [no] at hr
    | invoke r n => simp [no] at hr
end
end Go.Ev

