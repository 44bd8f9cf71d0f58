/- The operations that only read, all. -/
import Derived.Test.YtangiefkpllnmaaGreatDoorEvRead3
namespace Go.Ev
set_option linter.unusedVariables false
set_option linter.unusedSimpArgs false
variable {η : Nat → Value}
section
variable {P : Program} {ρ : Env} {B : Nat} {h : AH} {w : World}
theorem unA_ok {op : UnOp} {x x' v : Value} (hu : unA op x = .ok v) (hx : VR η ρ x x') : ∃ r, (Op.unary op x').run P w = .ok r w ∧ VR η ρ v r := by
  unfold unA at hu
  split at hu
  · have := hx.int_inv; subst this; rw [okk] at hu; subst hu; exact ⟨_, rfl, .int _ _⟩
  · have := hx.int_inv; subst this; rw [okk] at hu; subst hu; exact ⟨_, rfl, .int _ _⟩
  · have := hx.bool_inv; subst this; rw [okk] at hu; subst hu; exact ⟨_, rfl, .bool _⟩
  · simp [no] at hu
theorem bytesOf_ok {ρ : Env} {f : Value → ByteArray → Sem (ForInStep ByteArray)} (hf : ∀ n r, f (.int .u8 n) r = pure (ForInStep.yield (r.push (UInt8.ofNat n.toNat)))) : ∀ {l vs : List Value} {bs : List UInt8}, bytesOf l = .ok bs → LR η ρ l vs → ∀ (acc : ByteArray) (w : World),
    (forIn vs acc f : Sem ByteArray).run P w = .ok ⟨⟨acc.data.toList ++ bs⟩⟩ w
  | [], vs, bs, hb, hl, acc, w => by
    have := hl.inv_nil; subst this
    simp only [bytesOf, okk] at hb; subst hb
    simp only [List.forIn_nil, List.append_nil]; rfl
  | v :: l, vs, bs, hb, hl, acc, w => by
    obtain ⟨x, m, rfl, hx, hm⟩ := hl.inv_cons
    unfold bytesOf at hb
    split at hb
    · rename_i e; cases e
    · rename_i n r e
      injection e with e1 e2; subst e1; subst e2
      have := hx.int_inv; subst this
      split at hb
      · rename_i l' hl'
        rw [okk] at hb; subst hb
        have ih := bytesOf_ok hf hl' hm (acc.push (UInt8.ofNat n.toNat)) w
        simp only [List.forIn_cons, Sem.run_bind, hf, Sem.run_pure, Result.andThen_ok]
        rw [ih]
        congr 1
        apply byteArray_ext
        simp [ByteArray.push]
      · cases hb
    · simp [no] at hb
theorem cells_of_list {b : Addr} {vs : List Value} {n : Nat} (hn : vs.length = n) (hv : ∀ j v, vs[j]? = some v → w.cell? (b.add j) = some v) : (loadCells b n).run P w = .ok vs.toArray w := by
  subst hn; exact run_loadCells_list w b vs hv
theorem convA_ok (H : HR η ρ B h w) {s d : TypeId} {x x' v : Value} (hc : convA P h s d x = .ok v) (hx : VR η ρ x x') : ∃ r, (convert s d x').run P w = .ok r w ∧ VR η ρ v r := by
  simp only [convA, bind_ok, undA_ok] at hc
  obtain ⟨sd, hs, dd, hd, hc⟩ := hc
  split at hc
  · have := hx.int_inv; subst this; rw [okk] at hc; subst hc
    refine ⟨_, by simp only [convert, Sem.run_bind, run_und hs, run_und hd, Result.andThen_ok]; rfl, .int _ _⟩
  · have := hx.int_inv; subst this; rw [okk] at hc; subst hc
    refine ⟨_, by simp only [convert, Sem.run_bind, run_und hs, run_und hd, Result.andThen_ok]; rfl, .string _⟩
  · have := hx.string_inv; subst this; rw [okk] at hc; subst hc
    refine ⟨_, by simp only [convert, Sem.run_bind, run_und hs, run_und hd, Result.andThen_ok]; rfl, .string _⟩
  · rename_i e a len c
    simp only [bind_ok, undA_ok] at hc
    obtain ⟨ed, he, hc⟩ := hc
    obtain ⟨a', c', rfl, hcc⟩ := hx.slice_inv
    split at hc
    · rw [okk] at hc; subst hc
      have e1 : a' = none := by rcases hcc with ⟨_, e, _⟩ | ⟨_, _, e, _⟩ | ⟨_, _, _, _, _, _, e, _⟩ <;> first | exact e | cases e
      subst e1
      refine ⟨_, by simp only [convert, Sem.run_bind, run_und hs, run_und hd, run_und he, Result.andThen_ok]; rfl, ?_⟩
      exact .string _
    · rename_i p
      simp only [bind_ok] at hc
      obtain ⟨l, hl, bs, hb, hc⟩ := hc
      rw [okk] at hc; subst hc
      obtain ⟨q, rfl, hq⟩ : ∃ q, a' = some q ∧ AdR ρ p q := by
        rcases hcc with ⟨e, _⟩ | ⟨_, q, e, e', hq, _⟩ | ⟨_, q, _, _, _, _, e, e', hq, _⟩
        · cases e
        · cases e; exact ⟨q, e', hq⟩
        · cases e; exact ⟨q, e', hq⟩
      obtain ⟨vs, h1, h2, h3⟩ := getC_ok H hl hq
      refine ⟨strL bs, ?_, .string _⟩
      simp only [convert, Sem.run_bind, run_und hs, run_und hd, run_und he, Result.andThen_ok, Conv.bytesToString, cells_of_list h2 h3]
      rw [← Array.forIn_toList]
      simp only []
      rw [bytesOf_ok (fun n r => by simp) hb h1 .empty w]
      simp [strL]
    · simp [no] at hc
  · rename_i t a
    simp only [bind_ok] at hc
    obtain ⟨n, hn, ⟨ty, c, p, own⟩, hcell, hc⟩ := hc
    simp only [ite_no', okk] at hc
    obtain ⟨⟨h0, hp, hlt, hsp⟩, rfl⟩ := hc
    obtain ⟨q, rfl, hq⟩ := hx.ptr_inv
    obtain ⟨b, d0, m, C, lo, hi, h1, h2, h3, _⟩ := H.cells (cellsAt_ok.1 hcell)
    obtain ⟨_, m', b', d', h5, rfl⟩ := hq
    rw [h1] at h5; cases h5
    obtain ⟨_, _, hd0, hcl⟩ := h3.plain hp
    have hsz : C.toList.length = d0 + m := h3.size
    have hsh : w.shape? b = some (ty, C.size) := by simp only [World.shape?, h2]
    have hCs : C.size = C.toList.length := rfl
    refine ⟨.pointer (some ⟨b, d0 + a.off, none⟩), ?_, (show AdR ρ a _ from ⟨hsp, m, b, d0, h1, rfl⟩).ptr⟩
    have hseen : (Conv.seenAt ⟨b, d0 + a.off, none⟩).run P w = .ok ⟨b, d0 + a.off, none⟩ w := by
      simp only [Conv.seenAt, viewAt, Sem.run_bind, run_shape, Result.andThen_ok, hsh, Option.isSome_some, if_true, Sem.run_pure]
    have hcin : (cellsIn b).run P w = .ok (some C.size) w := by
      simp only [cellsIn, Sem.run_bind, run_shape, Result.andThen_ok, hsh, Sem.run_pure]
    simp only [convert, Sem.run_bind, run_und hs, run_und hd, Result.andThen_ok, Conv.unsafePointer, hseen, hcin, run_size hn]
    have hcl' : c.length = m := hcl
    have hlt' : a.off < c.length := hlt
    rw [if_neg (by simp [h0]; omega)]
    rfl
  · rename_i u a
    simp only [bind_ok] at hc
    obtain ⟨iu, hiu, ⟨ty, c, p, own⟩, hcell, hc⟩ := hc
    rw [infoA_ok] at hiu
    simp only [ite_no', okk] at hc
    obtain ⟨⟨hp, hlies, hsp⟩, rfl⟩ := hc
    obtain ⟨q, rfl, hq⟩ := hx.ptr_inv
    obtain ⟨b, d0, m, C, lo, hi, h1, h2, h3, _⟩ := H.cells (cellsAt_ok.1 hcell)
    obtain ⟨_, m', b', d', h5, rfl⟩ := hq
    rw [h1] at h5; cases h5
    obtain ⟨_, _, hd0, hcl⟩ := h3.plain hp
    have hsz : C.toList.length = d0 + m := h3.size
    have hCs : C.size = c.length := by have : C.size = C.toList.length := rfl; have hcl' : c.length = m := hcl; omega
    have hsh : w.shape? b = some (ty, C.size) := by simp only [World.shape?, h2]
    refine ⟨.pointer (some ⟨b, d0 + a.off, none⟩), ?_, (show AdR ρ a _ from ⟨hsp, m, b, d0, h1, rfl⟩).ptr⟩
    have hseen : (Conv.seenAt ⟨b, d0 + a.off, none⟩).run P w = .ok ⟨b, d0 + a.off, none⟩ w := by
      simp only [Conv.seenAt, viewAt, Sem.run_bind, run_shape, Result.andThen_ok, hsh, Option.isSome_some, if_true, Sem.run_pure]
    have hva : (variablesAt ⟨b, d0 + a.off, none⟩ u 1).run P w = .ok true w := by
      have : d0 + a.off = a.off := by have : d0 = 0 := hd0; omega
      simp only [variablesAt, Sem.run_bind, run_program, Result.andThen_ok, run_shape, hsh, Sem.run_pure, this, hCs]
      rw [show liesAt P P.depth ty (c.length / P.cellsOf ty) a.off u 1 = true from hlies]
    simp only [convert, Sem.run_bind, run_und hs, run_und hd, Result.andThen_ok, Conv.unsafePointer, hseen, sizeOf, run_info hiu, Sem.run_pure, hva]
    simp
  · simp [no] at hc
theorem foldl_splice : ∀ (vs : List Value) (off k : Nat) (C : Array Value), off + k + vs.length ≤ C.toList.length →
    ((vs.zipIdx k).foldl (fun cs p => cs.setIfInBounds (off + p.2) p.1) C).toList = splice C.toList (off + k) vs
  | [], off, k, C, _ => by simp [splice]
  | v :: vs, off, k, C, hl => by
    simp only [List.length_cons] at hl
    rw [List.zipIdx_cons, List.foldl_cons, foldl_splice vs off (k + 1) _ (by simp only [Array.toList_setIfInBounds, List.length_set]; omega)]
    simp only [Array.toList_setIfInBounds]
    apply List.ext_getElem?
    intro i
    rw [splice_get _ _ _ (by rw [List.length_set]; omega), splice_get _ _ _ (by simp only [List.length_cons]; omega)]
    simp only [List.length_cons]
    by_cases hk : i = off + k
    · subst hk
      rw [if_neg (by omega), if_pos (by omega), List.getElem?_set_self (by omega)]; simp
    · by_cases hk2 : off + (k + 1) ≤ i ∧ i < off + (k + 1) + vs.length
      · rw [if_pos hk2, if_pos (by omega), show i - (off + k) = (i - (off + (k + 1))) + 1 by omega]; rfl
      · rw [if_neg hk2, if_neg (by omega), List.getElem?_set_ne (fun e => hk e.symm)]
theorem LR.splice {c c' vs vs' : List Value} (h : LR η ρ c c') (k : LR η ρ vs vs') (off : Nat) : LR η ρ (Ev.splice c off vs) (Ev.splice c' off vs') := by
  unfold Ev.splice
  rw [k.len]
  exact ((h.take off).append k).append (h.drop _)
theorem fillA_ok (hη : OneCells η) {place : Nat → Option (Nat × Nat)} : ∀ {ps ps' : List (Nat × Value)}, L2 (fun p q : Nat × Value => p.1 = q.1 ∧ VR η ρ p.2 q.2) ps ps' → ∀ {c c2 : List Value} {C : Array Value}, fillA place c ps = .ok c2 → LR η ρ c C.toList →
    ∃ C2 : Array Value, Instr.fill place C ps' = some C2 ∧ LR η ρ c2 C2.toList := by
  intro ps ps' hp
  induction hp with
  | nil => intro c c2 C hf hc; simp only [fillA, okk] at hf; subst hf; exact ⟨C, rfl, hc⟩
  | @cons p q ps ps' hpq _ ih =>
    intro c c2 C hf hc
    obtain ⟨i, v⟩ := p
    obtain ⟨i', v'⟩ := q
    obtain ⟨rfl, hv⟩ := hpq
    simp only [fillA] at hf
    simp only [Instr.fill]
    cases hpl : place i with
    | none => rw [hpl] at hf; simp [no] at hf
    | some os =>
      obtain ⟨off, size⟩ := os
      rw [hpl] at hf
      simp only [] at hf ⊢
      rw [ite_no] at hf
      obtain ⟨hsz, hf⟩ := hf
      have hvc := hv.cells hη
      have hlen : (cellsL v).length = v'.cells.toList.length := hvc.len
      have hclen := hc.len
      have hnot : ¬ ((cellsL v).length ≠ size) ∧ ¬ (off + size > c.length) := ⟨fun e => hsz (.inl e), fun e => hsz (.inr e)⟩
      have hs1 : v'.cells.toList.length = size := by omega
      have hs2 : v'.cells.size = size := hs1
      rw [if_neg (by
        simp only [hs2, ne_eq, not_true_eq_false, decide_false, Bool.false_or, decide_eq_true_eq, gt_iff_lt, Nat.not_lt]
        have : C.size = C.toList.length := rfl
        omega)]
      refine ih hf ?_
      have hfold : (v'.cells.zipIdx.foldl (fun cs (x : Value × Nat) => cs.setIfInBounds (off + x.2) x.1) C).toList = Ev.splice C.toList off v'.cells.toList := by
        rw [← Array.foldl_toList, Array.toList_zipIdx]
        have := foldl_splice v'.cells.toList off 0 C (by have h1 := hnot.2; omega)
        simpa using this
      have h0 := hc.splice hvc off
      rw [← hfold] at h0
      exact h0
theorem placesA_ok : ∀ {fs : List Field} {pl : List (Nat × Nat)}, placesA P fs = .ok pl → ∀ (w : World), (fs.mapM fun f => (do pure (f.offset, ← sizeOf f.type) : Sem (Nat × Nat))).run P w = .ok pl w
  | [], pl, hp, w => by simp only [placesA, okk] at hp; subst hp; rfl
  | f :: fs, pl, hp, w => by
    simp only [placesA, bind_ok] at hp
    obtain ⟨n, hn, r, hr, hp⟩ := hp
    rw [okk] at hp; subst hp
    have ih := placesA_ok hr w
    simp only [List.mapM_cons, Sem.run_bind, run_size hn, Result.andThen_ok, Sem.run_pure] at ih ⊢
    rw [ih]; rfl
theorem fieldOff_ok {s : TypeId} {i : Nat} {f : Field} (hf : fieldOff P s i = .ok f) : ∃ fs : Array Field, P.underlying s = some (.struct fs) ∧ fs[i]? = some f := by
  simp only [fieldOff, bind_ok, undA_ok] at hf
  obtain ⟨d, hd, hf⟩ := hf
  split at hf
  · rw [orNo_ok] at hf; exact ⟨_, hd, by simpa using hf⟩
  · simp [no] at hf
theorem run_place {a : Addr} {f : Field} {n : Nat} (hn : sizeA P f.type = .ok n) (h0 : ¬ n = 0) : (fieldPlace a f).run P w = .ok (a.add f.offset) w := by
  simp only [fieldPlace, Sem.run_bind, run_size hn, Result.andThen_ok]
  rw [if_neg h0]; rfl
theorem parts_rel {σ τ : Operand → Value} {ps : Array (Nat × Operand)} (hs : ∀ p ∈ ps.toList, VR η ρ (σ p.2) (τ p.2)) :
    L2 (fun p q : Nat × Value => p.1 = q.1 ∧ VR η ρ p.2 q.2) (ps.toList.map fun p => (p.1, σ p.2)) (ps.map fun (i, x) => (i, τ x)).toList := by
  rw [Array.toList_map]
  generalize ps.toList = l at hs
  induction l with
  | nil => exact .nil
  | cons p l ih => exact .cons ⟨rfl, hs p (by simp)⟩ (ih fun q hq => hs q (by simp [hq]))
theorem buildA_ok (hη : OneCells η) {t : TypeId} {ps ps' : List (Nat × Value)} (hp : L2 (fun p q : Nat × Value => p.1 = q.1 ∧ VR η ρ p.2 q.2) ps ps') {arr : Array (Nat × Value)} (harr : arr.toList = ps') {v : Value}
    (hb : (do
      let z := cellsL (← zeroA P t)
      match ← undA P t with
      | .struct fields => do
        let pl ← placesA P fields.toList
        .ok (aggL (← fillA (fun i => pl[i]?) z ps))
      | .array _ elem => do
        let size ← sizeA P elem
        .ok (aggL (← fillA (fun i => some (i * size, size)) z ps))
      | _ => no "build" : M Value) = .ok v) : ∃ x, (Instr.build t arr).run P w = .ok x w ∧ VR η ρ v x := by
  simp only [bind_ok, undA_ok] at hb
  obtain ⟨z, hz, d, hd, hb⟩ := hb
  have hzz : LR η ρ (cellsL z) z.cells.toList := (VR.zero hz).cells hη
  split at hb
  · rename_i fields
    simp only [bind_ok] at hb
    obtain ⟨pl, hpl, l, hl, hb⟩ := hb
    rw [okk] at hb; subst hb
    obtain ⟨C, hC, hr⟩ := fillA_ok hη hp hl hzz
    refine ⟨.agg C, ?_, .agg hr.len hr.at_⟩
    have hpl' := placesA_ok hpl w
    simp only [Instr.build, Sem.run_bind, run_zero hz, run_und hd, Result.andThen_ok]
    obtain ⟨fl⟩ := fields
    rw [show (Array.mk fl) = fl.toArray from rfl, List.mapM_toArray]
    simp only [Sem.run_map] at hpl' ⊢
    rw [hpl']
    simp only [Result.andThen_ok]
    rw [harr]
    have : (fun i : Nat => (pl.toArray)[i]?) = fun i : Nat => pl[i]? := by funext i; simp
    rw [this, hC]; rfl
  · rename_i n elem
    simp only [bind_ok] at hb
    obtain ⟨size, hsz, l, hl, hb⟩ := hb
    rw [okk] at hb; subst hb
    obtain ⟨C, hC, hr⟩ := fillA_ok hη hp hl hzz
    refine ⟨.agg C, ?_, .agg hr.len hr.at_⟩
    simp only [Instr.build, Sem.run_bind, run_zero hz, run_und hd, run_size hsz, Result.andThen_ok]
    rw [harr, hC]; rfl
  · simp [no] at hb
theorem maxL_ok {mx : Bool} : ∀ {l m : List Value} {v x r : Value}, maxL mx v l = .ok r → VR η ρ v x → LR η ρ l m → ∀ (w : World), ∃ y, (m.foldlM (if mx then Builtin.max2 else Builtin.min2) x).run P w = .ok y w ∧ VR η ρ r y
  | [], m, v, x, r, hm, hv, hl, w => by
    have := hl.inv_nil; subst this
    simp only [maxL, okk] at hm; subst hm
    exact ⟨x, rfl, hv⟩
  | u :: l, m, v, x, r, hm, hv, hl, w => by
    obtain ⟨u', m', rfl, hu, hm'⟩ := hl.inv_cons
    unfold maxL at hm
    split at hm
    · rename_i e; cases e
    · rename_i k a k' b l' e
      injection e with e1 e2; subst e1; subst e2
      have := hv.int_inv; have := hu.int_inv; subst_vars
      obtain ⟨y, hy, hr⟩ := maxL_ok hm (.int _ _) hm' w
      refine ⟨y, ?_, hr⟩
      rw [List.foldlM_cons, Sem.run_bind]
      cases mx
      · simp only [Bool.false_eq_true, if_false, Builtin.min2, Sem.run_pure, Result.andThen_ok, decide_eq_true_eq] at hy ⊢; exact hy
      · simp only [if_true, Builtin.max2, Sem.run_pure, Result.andThen_ok, decide_eq_true_eq] at hy ⊢; exact hy
    · simp [no] at hm
theorem head_rel {argTypes : Array TypeId} (d : TypeDesc) (hd : P.underlying (argTypes.toList.headD 0) = some d) : True := trivial
theorem readB_ok (H : HR η ρ B h w) {b : Builtin} {ts : Array TypeId} {type : TypeId} {cs : Array Bool} {args : List Value} {args' : Array Value} {v : Value} (hts : ts.toList ≠ []) (hr : readB P h b ts.toList args = .ok v) (ha : LR η ρ args args'.toList) :
    ∃ x, (builtin b ts type cs args').run P w = .ok (.value x) w ∧ VR η ρ v x := by
  obtain ⟨t0, ts', htt⟩ : ∃ t0 ts', ts.toList = t0 :: ts' := by cases hh : ts.toList with
    | nil => exact absurd hh hts
    | cons a b => exact ⟨_, _, rfl⟩
  have ht0 : ts[0]? = some t0 := by rw [← Array.getElem?_toList, htt]; rfl
  unfold readB at hr
  rw [htt] at hr
  split at hr
  · rename_i x
    obtain ⟨x', m, hm, hx, hm'⟩ := ha.inv_cons
    have := hm'.inv_nil; subst this
    have hx0 : args'[0]? = some x' := by rw [← Array.getElem?_toList, hm]; rfl
    simp only [List.headD_cons, bind_ok, undA_ok] at hr
    obtain ⟨d, hd, hr⟩ := hr
    have base : ∀ {y}, (Builtin.len_ ts type args').run P w = .ok y w → (builtin .len ts type cs args').run P w = .ok (.value y) w := by
      intro y hy; simp only [builtin, Sem.run_bind, hy, Result.andThen_ok]; rfl
    split at hr
    · have := hx.string_inv; subst this
      rw [okk] at hr; subst hr
      exact ⟨_, base (by simp only [Builtin.len_, ht0, hx0, Sem.run_bind, run_und hd, Result.andThen_ok]; rfl), .int _ _⟩
    · rw [okk] at hr; subst hr
      refine ⟨_, base (by simp only [Builtin.len_, ht0, hx0, Sem.run_bind, run_und hd, Result.andThen_ok]; rfl), .int _ _⟩
    · simp only [bind_ok, undA_ok] at hr
      obtain ⟨d2, hd2, hr⟩ := hr
      split at hr
      · rw [okk] at hr; subst hr
        refine ⟨_, base (by simp only [Builtin.len_, ht0, hx0, Sem.run_bind, run_und hd, run_und hd2, Result.andThen_ok]; rfl), .int _ _⟩
      · simp [no] at hr
    · obtain ⟨a', c', rfl, _⟩ := hx.slice_inv
      rw [okk] at hr; subst hr
      exact ⟨_, base (by simp only [Builtin.len_, ht0, hx0, Sem.run_bind, run_und hd, Result.andThen_ok]; rfl), .int _ _⟩
    · have := hx.map0_inv; subst this
      rw [okk] at hr; subst hr
      exact ⟨_, base (by simp only [Builtin.len_, ht0, hx0, Sem.run_bind, run_und hd, Result.andThen_ok]; rfl), .int _ _⟩
    · obtain ⟨b', d', n', rfl, hρ⟩ := hx.map_inv
      simp only [bind_ok] at hr
      obtain ⟨m, hm, hr⟩ := hr
      rw [okk] at hr; subst hr
      obtain ⟨_, _, _, E, h1, h2, h3, _⟩ := H.map (mapOf_ok.1 hm)
      rw [hρ] at h1; cases h1
      refine ⟨goInt E.size, base (by simp only [Builtin.len_, ht0, hx0, Sem.run_bind, run_und hd, Result.andThen_ok, run_getObj h2 (by simp)]; rfl), ?_⟩
      rw [h3.len]; exact .int _ _
    · simp [no] at hr
  · rename_i x
    obtain ⟨x', m, hm, hx, hm'⟩ := ha.inv_cons
    have := hm'.inv_nil; subst this
    have hx0 : args'[0]? = some x' := by rw [← Array.getElem?_toList, hm]; rfl
    simp only [List.headD_cons, bind_ok, undA_ok] at hr
    obtain ⟨d, hd, hr⟩ := hr
    have base : ∀ {y}, (Builtin.cap_ ts type args').run P w = .ok y w → (builtin .cap ts type cs args').run P w = .ok (.value y) w := by
      intro y hy; simp only [builtin, Sem.run_bind, hy, Result.andThen_ok]; rfl
    split at hr
    · rw [okk] at hr; subst hr
      refine ⟨_, base (by simp only [Builtin.cap_, ht0, hx0, Sem.run_bind, run_und hd, Result.andThen_ok]; rfl), .int _ _⟩
    · obtain ⟨a', c', rfl, hc⟩ := hx.slice_inv
      rw [ite_no, okk] at hr
      obtain ⟨hU, rfl⟩ := hr
      rcases hc with ⟨_, _, _, e⟩ | ⟨_, _, _, _, _, _, e⟩ | ⟨_, _, _, _, _, _, _, _, _, rfl, _⟩
      · subst e
        exact ⟨_, base (by simp only [Builtin.cap_, ht0, hx0, Sem.run_bind, run_und hd, Result.andThen_ok]; rfl), .int _ _⟩
      · subst e
        exact ⟨_, base (by simp only [Builtin.cap_, ht0, hx0, Sem.run_bind, run_und hd, Result.andThen_ok]; rfl), .int _ _⟩
      · exact absurd (isU_capU _) (by simpa using hU)
    · simp [no] at hr
  · rename_i x r
    obtain ⟨x', m, hm, hx, hm'⟩ := ha.inv_cons
    obtain ⟨y, hy, hv⟩ := maxL_ok (P := P) hr hx hm' w
    refine ⟨y, ?_, hv⟩
    simp only [builtin, Builtin.max_, hm, Sem.run_bind]
    simp only [if_true] at hy
    rw [hy]; rfl
  · rename_i x r
    obtain ⟨x', m, hm, hx, hm'⟩ := ha.inv_cons
    obtain ⟨y, hy, hv⟩ := maxL_ok (P := P) hr hx hm' w
    refine ⟨y, ?_, hv⟩
    simp only [builtin, Builtin.min_, hm, Sem.run_bind]
    simp only [Bool.false_eq_true, if_false] at hy
    rw [hy]; rfl
  · rename_i len cap
    obtain ⟨x', m, hm, hx, hm'⟩ := ha.inv_cons
    have := hm'.inv_nil; subst this
    obtain ⟨a', c', rfl, hc⟩ := hx.slice_inv
    have e1 : a' = none := by rcases hc with ⟨_, e, _⟩ | ⟨_, _, e, _⟩ | ⟨_, _, _, _, _, _, e, _⟩ <;> first | exact e | cases e
    subst e1
    rw [okk] at hr; subst hr
    have hargs : args' = #[.slice none len c'] := by rw [← Array.toArray_toList (xs := args'), hm]
    subst hargs
    exact ⟨_, rfl, .ptr0⟩
  · rename_i p l c
    obtain ⟨x', m, hm, hx, hm'⟩ := ha.inv_cons
    have := hm'.inv_nil; subst this
    obtain ⟨a', c', rfl, hc⟩ := hx.slice_inv
    rw [ite_no', okk] at hr
    obtain ⟨hc0, rfl⟩ := hr
    obtain ⟨q, hqe, hq, hc1⟩ : ∃ q, a' = some q ∧ AdR ρ p q ∧ c' ≠ 0 := by
      rcases hc with ⟨e, _⟩ | ⟨_, q, e, e', hq, _, ec⟩ | ⟨_, q, s, _, _, n, e, e', hq, ec, _, hs, hn, hl⟩
      · cases e
      · cases e; exact ⟨q, e', hq, by rw [ec]; exact hc0.1⟩
      · cases e; refine ⟨q, e', hq, ?_⟩; rcases hc0.2 with hU | hl0
        · rw [ec, isU_capU] at hU; cases hU
        · omega
    subst hqe
    have hargs : args' = #[.slice (some q) l c'] := by rw [← Array.toArray_toList (xs := args'), hm]
    subst hargs
    refine ⟨_, ?_, hq.ptr⟩
    have e : Builtin.unsafeSliceData_ ts type #[.slice (some q) l c'] = pure (.pointer (some q)) := by
      show (if c' ≠ 0 then _ else _) = _
      rw [if_pos hc1]
    simp only [builtin, e, Sem.run_bind, Sem.run_pure, Result.andThen_ok]
  · simp [no] at hr
end
end Go.Ev
