/- Reading and writing of blocks: what the evaluator does to its heap, the program does to the world. -/
import Derived.Test.YtangiefkpllnmaaGreatDoorEvRel
namespace Go.Ev
set_option linter.unusedVariables false
set_option linter.unusedSimpArgs false
variable {η : Nat → Value}

theorem bind_ok {α β : Type} {x : M α} {f : α → M β} {b : β} : (x >>= f) = Except.ok b ↔ ∃ a, x = .ok a ∧ f a = .ok b := by
  cases x with
  | error e => simp [bind, Except.bind]
  | ok a => simp [bind, Except.bind]
theorem no_ok {α : Type} {s : String} {a : α} : ((no s : M α) = Except.ok a) ↔ False := by simp [no]
theorem orNo_ok {α : Type} {s : String} {o : Option α} {a : α} : orNo s o = Except.ok a ↔ o = some a := by
  cases o <;> simp [orNo, no]
theorem okk {α : Type} {a b : α} : ((Except.ok a : M α) = .ok b) ↔ a = b := by constructor <;> intro h <;> first | (injection h) | rw [h]
theorem ite_no {α : Type} {c : Prop} [Decidable c] {s : String} {x : M α} {a : α} : ((if c then no s else x) = Except.ok a) ↔ ¬ c ∧ x = .ok a := by
  by_cases h : c <;> simp [h, no]
theorem ite_no' {α : Type} {c : Prop} [Decidable c] {s : String} {x : M α} {a : α} : ((if c then x else no s) = Except.ok a) ↔ c ∧ x = .ok a := by
  by_cases h : c <;> simp [h, no]

section types
variable {P : Program} {w : World} {t : TypeId}
theorem infoA_ok {i : TypeInfo} : infoA P t = .ok i ↔ P.info? t = some i := orNo_ok
theorem undA_ok {d : TypeDesc} : undA P t = .ok d ↔ P.underlying t = some d := orNo_ok
theorem run_und {d : TypeDesc} (h : P.underlying t = some d) : (underlying t).run P w = .ok d w := by simp [underlying, h]
theorem run_info {i : TypeInfo} (h : P.info? t = some i) : (typeInfo t).run P w = .ok i w := by simp [typeInfo, h]
theorem sizeA_ok {n : Nat} : sizeA P t = .ok n ↔ ∃ i, P.info? t = some i ∧ i.size = n := by
  simp only [sizeA, bind_ok, infoA_ok, okk]
theorem run_size {n : Nat} (h : sizeA P t = .ok n) : (sizeOf t).run P w = .ok n w := by
  obtain ⟨i, hi, rfl⟩ := sizeA_ok.1 h
  simp [sizeOf, run_info hi]
theorem cellsOf_size {n : Nat} (h : sizeA P t = .ok n) : P.cellsOf t = n := by
  obtain ⟨i, hi, rfl⟩ := sizeA_ok.1 h
  simp [Program.cellsOf, hi]
theorem run_agg {b : Bool} (h : isAggA P t = .ok b) : (isAgg t).run P w = .ok b w := by
  simp only [isAggA, bind_ok, undA_ok] at h
  obtain ⟨d, hd, h⟩ := h
  simp only [isAgg, Sem.run_bind, run_und hd, Result.andThen]
  cases d <;> simp only [okk] at h <;> subst h <;> rfl
theorem zeroA_ok {v : Value} : zeroA P t = .ok v ↔ (∃ i, P.info? t = some i ∧ i.zero = some v) ∧ bareA v = true := by
  simp only [zeroA, bind_ok, infoA_ok, orNo_ok]
  constructor
  · rintro ⟨i, hi, x, hz, h⟩
    rw [ite_no', okk] at h
    obtain ⟨hb, rfl⟩ := h
    exact ⟨⟨i, hi, hz⟩, hb⟩
  · rintro ⟨⟨i, hi, hz⟩, hb⟩
    exact ⟨i, hi, v, hz, by rw [if_pos hb]⟩
theorem run_zero {v : Value} (h : zeroA P t = .ok v) : (zeroValue t).run P w = .ok v w := by
  obtain ⟨⟨i, hi, hz⟩, _⟩ := zeroA_ok.1 h
  simp [zeroValue, run_info hi, hz]
theorem VR.zero {ρ : Env} {v : Value} (h : zeroA P t = .ok v) : VR η ρ v v := .bareA (zeroA_ok.1 h).2
end types

/-- What an address says. -/
def AdR (ρ : Env) (a b : Addr) : Prop := a.spot = none ∧ ∃ n blk d, ρ a.block = some (blk, d, n) ∧ b = ⟨blk, d + a.off, none⟩
theorem VR.ptr_inv {ρ : Env} {a : Addr} {x : Value} (h : VR η ρ (.pointer (some a)) x) : ∃ b, x = .pointer (some b) ∧ AdR ρ a b := by
  cases h with
  | ptr h => exact ⟨_, rfl, rfl, _, _, _, h, rfl⟩
theorem AdR.ptr {ρ : Env} {a b : Addr} (h : AdR ρ a b) : VR η ρ (.pointer (some a)) (.pointer (some b)) := by
  obtain ⟨h1, n, blk, d, h2, rfl⟩ := h
  obtain ⟨r, o, s⟩ := a
  simp only at h1; subst h1
  exact .ptr h2
theorem AdR.spot {ρ : Env} {a b : Addr} (h : AdR ρ a b) : b.spot = none := by obtain ⟨_, n, blk, d, _, rfl⟩ := h; rfl
theorem add_eq {a : Addr} (h : a.spot = none) (n : Nat) : a.add n = ⟨a.block, a.off + n, none⟩ := by
  obtain ⟨b, o, s⟩ := a
  simp only at h; subst h
  unfold Addr.add
  by_cases hn : n = 0
  · simp [hn]
  · simp [hn]
theorem AdR.add {ρ : Env} {a b : Addr} (h : AdR ρ a b) (n : Nat) : AdR ρ (addO a n) (b.add n) := by
  rw [add_eq h.spot]
  obtain ⟨h1, m, blk, d, h2, rfl⟩ := h
  exact ⟨rfl, m, blk, d, h2, by simp [addO, Nat.add_assoc]⟩
theorem AdR.mono {ρ ρ' : Env} (hl : Env.le ρ ρ') {a b : Addr} (h : AdR ρ a b) : AdR ρ' a b := by
  obtain ⟨h1, m, blk, d, h2, rfl⟩ := h
  exact ⟨h1, m, blk, d, hl _ _ h2, rfl⟩
theorem addrA_ok {v : Value} {a : Addr} : addrA v = .ok a ↔ v = .pointer (some a) ∧ a.spot = none := by
  unfold addrA
  cases v <;> try simp [no]
  rename_i p
  cases p with
  | none => simp [no]
  | some b =>
    simp only []
    constructor
    · intro h; by_cases hb : b.spot = none
      · simp only [hb, if_true, okk] at h; subst h; exact ⟨rfl, hb⟩
      · simp [hb, no] at h
    · rintro ⟨h, h'⟩; cases h; simp [h']

theorem cellsAt_ok {h : AH} {r : Nat} {t : TypeId × List Value × Bool × Nat} : cellsAt h r = .ok t ↔ h.objs.get r = some (.cells t.1 t.2.1 t.2.2.1 t.2.2.2) := by
  unfold cellsAt
  split
  · rename_i ty c p own he
    rw [okk, he]
    constructor
    · rintro rfl; rfl
    · intro h; simp at h; obtain ⟨h1, h2, h3, h4⟩ := h; obtain ⟨a, b, c, d⟩ := t; simp_all
  · rename_i hn
    rw [no_ok]
    constructor
    · exact False.elim
    · intro h; exact hn _ _ _ _ h
theorem mapOf_ok {h : AH} {r : Nat} {t : List MapEntry × Nat × Bool} : mapOf h r = .ok t ↔ h.objs.get r = some (.map t.1 t.2.1 t.2.2) := by
  unfold mapOf
  split
  · rename_i es c own he
    rw [okk, he]
    constructor
    · rintro rfl; rfl
    · intro h; simp at h; obtain ⟨h1, h2, h3⟩ := h; obtain ⟨a, b, c⟩ := t; simp_all
  · rename_i hn
    rw [no_ok]
    constructor
    · exact False.elim
    · intro h; exact hn _ _ _ h

section heap
variable {P : Program} {ρ : Env} {B : Nat} {h : AH} {w : World}
/-- The cells of a block. -/
theorem HR.cells (H : HR η ρ B h w) {r : Nat} {ty : TypeId} {c : List Value} {p : Bool} {own : Nat} (hg : h.objs.get r = some (.cells ty c p own)) :
    ∃ b d n C lo hi, ρ r = some (b, d, n) ∧ w.heap[b]? = some (.cells C ty (lo, hi)) ∧ CR η ρ ty c p own d n C ty lo hi ∧ (own ≠ 0 → B ≤ b) := by
  obtain ⟨b, d, n, o, h1, h2, ⟨C, ty', lo, hi, rfl, h3⟩, h4⟩ := H.obj _ _ hg
  have := h3.ty; subst this
  exact ⟨b, d, n, C, lo, hi, h1, h2, h3, fun e => h4 (by simpa [ownO] using e)⟩
theorem HR.map (H : HR η ρ B h w) {r : Nat} {es : List MapEntry} {c : Nat} {own : Bool} (hg : h.objs.get r = some (.map es c own)) :
    ∃ b d n E, ρ r = some (b, d, n) ∧ w.heap[b]? = some (.map E c) ∧ L2 (ER η ρ) es E.toList ∧ (own = true → B ≤ b) := by
  obtain ⟨b, d, n, o, h1, h2, ⟨E, rfl, h3⟩, h4⟩ := H.obj _ _ hg
  exact ⟨b, d, n, E, h1, h2, h3, h4⟩
theorem cell_of {b : Nat} {C : Array Value} {ty : TypeId} {fr : Nat × Nat} (hb : w.heap[b]? = some (.cells C ty fr)) (o : Nat) : w.cell? ⟨b, o, none⟩ = C.toList[o]? := by
  simp [World.cell?, hb]
theorem getC_ok (H : HR η ρ B h w) {a b : Addr} {n : Nat} {l : List Value} (hg : getC h a n = .ok l) (hab : AdR ρ a b) :
    ∃ vs, LR η ρ l vs ∧ vs.length = n ∧ ∀ j v, vs[j]? = some v → w.cell? (b.add j) = some v := by
  unfold getC at hg
  split at hg
  · rename_i ty c p own hc
    rw [ite_no', okk] at hg
    obtain ⟨⟨hlen, hsp⟩, rfl⟩ := hg
    obtain ⟨bb, d, m, C, lo, hi, h1, h2, h3, h4⟩ := H.cells (cellsAt_ok.1 hc)
    obtain ⟨_, m', blk, d', h5, rfl⟩ := hab
    rw [h1] at h5; cases h5
    have hsz : C.toList.length = d + m := h3.size
    have hcl : c.length ≤ m := h3.len
    refine ⟨(C.toList.drop (d + a.off)).take n, ⟨?_, ?_⟩, ?_, ?_⟩
    · simp only [List.length_take, List.length_drop]; omega
    · intro i v x hv hx
      rw [List.getElem?_take] at hv hx
      split at hv
      · rename_i hi'
        rw [if_pos hi', List.getElem?_drop] at hx
        rw [List.getElem?_drop] at hv
        obtain ⟨y, hy, hvy⟩ := h3.at_ _ _ hv
        rw [show d + a.off + i = d + (a.off + i) by omega, hy] at hx
        cases hx; exact hvy
      · cases hv
    · simp only [List.length_take, List.length_drop]; omega
    · intro j v hv
      rw [add_eq rfl, cell_of h2]
      rw [List.getElem?_take] at hv
      split at hv
      · rw [List.getElem?_drop] at hv; simpa [Nat.add_assoc] using hv
      · cases hv
  · cases hg
theorem loadA_ok (H : HR η ρ B h w) {t : TypeId} {a b : Addr} {v : Value} (hl : loadA P h t a = .ok v) (hab : AdR ρ a b) :
    ∃ x, (loadVar t b).run P w = .ok x w ∧ VR η ρ v x := by
  simp only [loadA, bind_ok] at hl
  obtain ⟨g, hg, hl⟩ := hl
  cases g with
  | true =>
    simp only [if_true, bind_ok] at hl
    obtain ⟨n, hn, l, hc, hl⟩ := hl
    rw [okk] at hl; subst hl
    obtain ⟨vs, h1, h2, h3⟩ := getC_ok H hc hab
    refine ⟨.agg vs.toArray, ?_, .agg' h1⟩
    simp only [loadVar, Sem.run_bind, run_agg hg, Result.andThen_ok, if_true, run_size hn]
    rw [← h2, run_loadCells_list w b vs h3]; rfl
  | false =>
    simp only [if_false, Bool.false_eq_true, bind_ok] at hl
    obtain ⟨l, hc, hl⟩ := hl
    obtain ⟨vs, h1, h2, h3⟩ := getC_ok H hc hab
    split at hl
    · rw [okk] at hl; subst hl
      obtain ⟨x, m', rfl, hx, _⟩ := h1.inv_cons
      refine ⟨x, ?_, hx⟩
      have := h3 0 x rfl
      have hz : b.add 0 = b := by simp [Addr.add]
      rw [hz] at this
      simp [loadVar, run_agg hg, this]
    · simp [no] at hl
end heap

/-- A world with another heap. -/
def wput (w : World) (b : Nat) (o : Obj) : World := { w with heap := w.heap.setIfInBounds b o }
theorem wput_get (w : World) (b : Nat) (o : Obj) (k : Nat) : (wput w b o).heap[k]? = if k = b ∧ b < w.heap.size then some o else w.heap[k]? := by
  simp only [wput, Array.getElem?_setIfInBounds]
  by_cases h : b = k
  · subst h
    by_cases hb : b < w.heap.size
    · simp [hb]
    · simp [hb]
  · have : ¬ (k = b) := fun e => h e.symm
    simp [h, this]
theorem heap_lt {w : World} {b : Nat} {o : Obj} (h : w.heap[b]? = some o) : b < w.heap.size := by
  rcases Nat.lt_or_ge b w.heap.size with h' | h'
  · exact h'
  · rw [Array.getElem?_eq_none h'] at h; cases h
theorem setCell_eq {w : World} {b o : Nat} {C : Array Value} {ty : TypeId} {fr : Nat × Nat} (hb : w.heap[b]? = some (.cells C ty fr)) (v : Value) :
    w.setCell ⟨b, o, none⟩ v = wput w b (.cells (C.setIfInBounds o v) ty fr) := by
  unfold World.setCell wput
  congr 1
  apply Array.ext_getElem?
  intro k
  rw [Array.getElem?_modify, Array.getElem?_setIfInBounds]
  by_cases h : b = k
  · subst h
    rw [if_pos rfl, if_pos rfl, hb, if_pos (heap_lt hb)]
    simp
  · rw [if_neg h, if_neg h]
theorem wput_wput (w : World) (b : Nat) (o o' : Obj) : wput (wput w b o) b o' = wput w b o' := by
  unfold wput
  congr 1
  apply Array.ext_getElem?
  intro k
  rw [Array.getElem?_setIfInBounds, Array.getElem?_setIfInBounds, Array.getElem?_setIfInBounds, Array.size_setIfInBounds]
  by_cases h : b = k
  · simp [h]
  · simp [h]
theorem splice_len (c : List Value) (off : Nat) (vs : List Value) (h : off + vs.length ≤ c.length) : (splice c off vs).length = c.length := by
  simp only [splice, List.length_append, List.length_take, List.length_drop]; omega
theorem splice_get (c : List Value) (off : Nat) (vs : List Value) (h : off + vs.length ≤ c.length) (k : Nat) :
    (splice c off vs)[k]? = if off ≤ k ∧ k < off + vs.length then vs[k - off]? else c[k]? := by
  have h1 : (c.take off).length = off := by rw [List.length_take]; omega
  unfold splice
  by_cases hk : k < off
  · rw [if_neg (by omega), List.append_assoc, List.getElem?_append_left (by omega), List.getElem?_take, if_pos hk]
  · by_cases hk2 : k < off + vs.length
    · rw [if_pos (by omega), List.append_assoc, List.getElem?_append_right (by omega), h1, List.getElem?_append_left (by omega)]
    · rw [if_neg (by omega), List.getElem?_append_right (by rw [List.length_append]; omega), List.getElem?_drop]
      congr 1; rw [List.length_append]; omega
theorem run_storeCells {P : Program} {ty : TypeId} {lo hi : Nat} {b o : Nat} : ∀ (vs : List Value) (i : Nat) (C : Array Value) (w : World),
    w.heap[b]? = some (.cells C ty (lo, hi)) → (∀ v ∈ vs, v.oneCell' = true) → o + i + vs.length ≤ C.toList.length → (∀ j, j < vs.length → ¬ (lo ≤ o + i + j ∧ o + i + j < hi)) →
    ∃ C' : Array Value, C'.toList = splice C.toList (o + i) vs ∧ (storeCells ⟨b, o, none⟩ vs i).run P w = .ok () (wput w b (.cells C' ty (lo, hi)))
  | [], i, C, w, hb, _, _, _ => by
    refine ⟨C, by simp [splice], ?_⟩
    simp only [storeCells, Sem.run_pure, Result.ok.injEq, true_and]
    unfold wput
    have : w.heap.setIfInBounds b (.cells C ty (lo, hi)) = w.heap := by
      apply Array.ext_getElem?
      intro k
      rw [Array.getElem?_setIfInBounds]
      by_cases h : b = k
      · subst h; rw [if_pos rfl, if_pos (heap_lt hb), hb]
      · rw [if_neg h]
    rw [this]
  | v :: vs, i, C, w, hb, h1, h2, h3 => by
    have hl : o + i < C.toList.length := by simp only [List.length_cons] at h2; omega
    have e1 : (⟨b, o, none⟩ : Addr).add i = ⟨b, o + i, none⟩ := add_eq rfl i
    have hc : w.cell? ⟨b, o + i, none⟩ = some C.toList[o + i] := by rw [cell_of hb]; exact List.getElem?_eq_getElem hl
    have hf : w.frozen? ⟨b, o + i, none⟩ = false := by
      have := h3 0 (by simp)
      simp only [Nat.add_zero] at this
      simp only [World.frozen?, hb]
      simpa using this
    have hb' : (wput w b (.cells (C.setIfInBounds (o + i) v) ty (lo, hi))).heap[b]? = some (.cells (C.setIfInBounds (o + i) v) ty (lo, hi)) := by
      rw [wput_get, if_pos ⟨rfl, heap_lt hb⟩]
    obtain ⟨C', hC, hr⟩ := run_storeCells (P := P) (o := o) vs (i + 1) (C.setIfInBounds (o + i) v) _ hb' (fun x hx => h1 x (by simp [hx]))
      (by simp only [List.length_cons] at h2; simp only [Array.toList_setIfInBounds, List.length_set]; omega)
      (fun j hj => by have := h3 (j + 1) (by simp; omega); rwa [show o + i + (j + 1) = o + (i + 1) + j by omega] at this)
    refine ⟨C', ?_, ?_⟩
    · rw [hC]
      simp only [Array.toList_setIfInBounds]
      apply List.ext_getElem?
      intro k
      simp only [List.length_cons] at h2
      rw [splice_get _ _ _ (by rw [List.length_set]; omega), splice_get _ _ _ (by simp only [List.length_cons]; omega)]
      simp only [List.length_cons]
      by_cases hk : k = o + i
      · subst hk
        rw [if_neg (by omega), if_pos (by omega), List.getElem?_set_self (by omega)]; simp
      · by_cases hk2 : o + (i + 1) ≤ k ∧ k < o + (i + 1) + vs.length
        · rw [if_pos hk2, if_pos (by omega), show k - (o + i) = (k - (o + (i + 1))) + 1 by omega]; rfl
        · rw [if_neg hk2, if_neg (by omega), List.getElem?_set_ne (fun e => hk e.symm)]
    · simp only [storeCells, Sem.run_bind, e1]
      rw [run_store P w _ _ _ (h1 v (by simp)), hc]
      simp only [hf, Bool.false_eq_true, if_false, Result.andThen_ok]
      rw [setCell_eq hb, hr, wput_wput]
end Go.Ev
