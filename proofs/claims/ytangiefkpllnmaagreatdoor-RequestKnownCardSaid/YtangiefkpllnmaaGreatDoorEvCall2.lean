/- All effects. -/
import Derived.Test.YtangiefkpllnmaaGreatDoorEvCall
namespace Go.Ev
set_option linter.unusedVariables false
set_option linter.unusedSimpArgs false
variable {η : Nat → Value}
section
variable {P : Program} {ρ : Env} {B : Nat} {h : AH} {w : World}
theorem add_add {a : Addr} (h : a.spot = none) (i j : Nat) : (a.add i).add j = a.add (i + j) := by
  rw [add_eq h, add_eq rfl, add_eq h, Nat.add_assoc]
theorem run_loadBytes' : ∀ (bs : List UInt8) (vs : List Value) (a : Addr) (acc : ByteArray), a.spot = none → (∀ (j : Nat) (u : UInt8), bs[j]? = some u → ∃ n : Int, vs[j]? = some (Value.int .u8 n) ∧ u = UInt8.ofNat n.toNat) → (∀ (j : Nat) (v : Value), vs[j]? = some v → w.cell? (a.add j) = some v) →
    (loadBytes a acc bs.length).run P w = .ok ⟨⟨acc.data.toList ++ bs⟩⟩ w
  | [], vs, a, acc, _, _, _ => by
    simp only [List.length_nil, loadBytes, Sem.run_pure, List.append_nil]
  | u :: bs, vs, a, acc, ha, hb, hc => by
    obtain ⟨n, hn, hu⟩ := hb 0 u rfl
    have h0 := hc 0 _ hn
    have hz : a.add 0 = a := by simp [Addr.add]
    rw [hz] at h0
    have ih := run_loadBytes' bs (vs.drop 1) (a.add 1) (acc.push n.toNat.toUInt8) (by rw [add_eq ha]) (fun j x hj => by
      obtain ⟨m, hm, hx⟩ := hb (j + 1) x (by simpa using hj)
      exact ⟨m, by rw [List.getElem?_drop, Nat.add_comm]; exact hm, hx⟩) (fun j v hj => by
      rw [List.getElem?_drop] at hj
      have := hc _ v hj
      rw [add_add ha]; exact this)
    simp only [List.length_cons, loadBytes, Sem.run_bind, run_load, h0, Result.andThen_ok]
    rw [ih]
    congr 1
    apply byteArray_ext
    simp [ByteArray.push, hu]
theorem unsafeS_ok (p : Pre η P ρ B h w) {pt : TypeId} {ts : List TypeId} {type : TypeId} {a : Addr} {q : Addr} {lk : IntKind} {n : Int} {v : AN} {h' : AH} (hq : AdR ρ a q) (h0 : ¬ (n < 0 ∨ n > 1000000)) (hn0 : ¬ n = 0)
    (hs : (do
      let (ty, c, _, own) ← cellsAt h a.block
      if own = 0 then no "unsafe.String: not own" else
      match ← undA P pt, P.underlying ty with
      | .pointer e, some (.int .u8) =>
        if e ≠ ty ∨ P.cellsOf ty ≠ 1 then no "unsafe.String: type" else do
        let l ← bytesOf (← getC h a n.toNat)
        .ok (.value (strL l), putA h a.block (.cells ty c false 1))
      | _, _ => no "unsafe.String: type" : M (AN × AH)) = .ok (v, h')) :
    ∃ l w', v = .value (strL l) ∧ (Builtin.unsafeString_ ⟨pt :: ts⟩ type #[.pointer (some q), .int lk n]).run P w = .ok (strL l) w' ∧ Post η ρ B h w ρ h' w' := by
  simp only [bind_ok] at hs
  obtain ⟨⟨ty, c, pl, own⟩, hcell, hs⟩ := hs
  simp only [ite_no] at hs
  obtain ⟨hown, hs⟩ := hs
  simp only [bind_ok, undA_ok] at hs
  obtain ⟨d, hd, hs⟩ := hs
  split at hs
  · rename_i e hty
    simp only [ite_no] at hs
    obtain ⟨hes, hs⟩ := hs
    simp only [not_or, Decidable.not_not] at hes
    obtain ⟨rfl, hc1⟩ := hes
    simp only [bind_ok] at hs
    obtain ⟨l, hl, bs, hb, hs⟩ := hs
    rw [okk] at hs; injection hs with e1 e2; subst e1; subst e2
    have hg := cellsAt_ok.1 hcell
    simp only [] at hg
    obtain ⟨b, dd, nn, C, lo, hi, h1, h2, h3, h4⟩ := p.hr.cells hg
    obtain ⟨vs, k1, k2, k3⟩ := getC_ok p.hr hl hq
    obtain ⟨hsp, n', b', d', h5, rfl⟩ := hq
    rw [h1] at h5; cases h5
    obtain ⟨m1, m2⟩ := bytesOf_cells hb k1
    have hbl : bs.length = n.toNat := by rw [m1, k1.len, k2]
    have hload := run_loadBytes' (P := P) (w := w) bs vs ⟨b, dd + a.off, none⟩ .empty rfl m2 k3
    rw [hbl] at hload
    have hsz : C.toList.length = dd + nn := h3.size
    have hcl : c.length ≤ nn := h3.len
    -- the cells are there
    have hin : a.off + n.toNat ≤ c.length := by
      unfold getC at hl
      rw [hcell] at hl
      simp only [ite_no'] at hl
      exact hl.1.1
    have hCs : C.size = dd + nn := hsz
    have hlies := liesAt_off (P := P) hc1 (C.size / P.cellsOf e) (dd + a.off) n.toNat (by rw [hc1, Nat.div_one]; omega)
    refine ⟨bs, wput w b (.cells C e (if lo == hi then (dd + a.off, dd + a.off + n.toNat) else (min lo (dd + a.off), max hi (dd + a.off + n.toNat)))), rfl, ?_, ?_⟩
    · have hdef : Builtin.unsafeString_ ⟨pt :: ts⟩ type #[.pointer (some ⟨b, dd + a.off, none⟩), .int lk n] =
        (do
          let n ← asInt (.int lk n)
          if n < 0 then runtimePanic (.error "unsafe.String: len out of range")
          if n > IntKind.i64.max then unsupported (.unsafePointer "String: a length above the largest int")
          if n = 0 then pure (.string .empty)
          else if ← variablesAt ⟨b, dd + a.off, none⟩ (← elemOf pt) n.toNat then do
            let s ← loadBytes ⟨b, dd + a.off, none⟩ .empty n.toNat
            freeze ⟨b, dd + a.off, none⟩ n.toNat
            pure (.string s)
          else unsupported (.unsafePointer "String: not so many bytes at ptr")) := rfl
      rw [hdef]
      have hmax : IntKind.i64.max = 9223372036854775807 := by decide
      have hsh : w.shape? b = some (e, C.size) := by simp only [World.shape?, h2]
      simp only [asInt, Sem.run_bind, run_asIntOf, Sem.run_pure, Result.andThen_ok, hmax]
      rw [if_neg (by omega)]
      rw [if_neg (by omega)]
      rw [if_neg hn0]
      have hel : (elemOf pt).run P w = .ok e w := by simp only [elemOf, Sem.run_bind, run_und hd, Result.andThen_ok, Sem.run_pure]
      have hva : (variablesAt ⟨b, dd + a.off, none⟩ e n.toNat).run P w = .ok true w := by
        simp only [variablesAt, Sem.run_bind, run_program, Result.andThen_ok, run_shape, hsh, Sem.run_pure, hlies]
      simp only [Sem.run_bind, hel, Result.andThen_ok, hva, if_true, hload, run_freeze, Sem.run_pure]
      rw [freeze_eq h2 (by omega)]
      rfl
    · refine Post.put p hg ?_ h1 rfl ⟨C, e, _, _, rfl, ⟨rfl, hsz, hcl, h3.at_, (fun h => by cases h), (fun h => by cases h)⟩⟩
      simp [ownO, hown]
  · simp [no] at hs
theorem two_args {a b : Value} {args' : Array Value} (h : LR η ρ [a, b] args'.toList) : ∃ a' b', args' = #[a', b'] ∧ VR η ρ a a' ∧ VR η ρ b b' := by
  obtain ⟨a', m1, hm1, ha, hr1⟩ := h.inv_cons
  obtain ⟨b', m2, hm2, hb, hr2⟩ := hr1.inv_cons
  have := hr2.inv_nil; subst this; subst hm2
  exact ⟨a', b', by rw [← Array.toArray_toList (xs := args'), hm1], ha, hb⟩
theorem one_arg {a : Value} {args' : Array Value} (h : LR η ρ [a] args'.toList) : ∃ a', args' = #[a'] ∧ VR η ρ a a' := by
  obtain ⟨a', m1, hm1, ha, hr1⟩ := h.inv_cons
  have := hr1.inv_nil; subst this
  exact ⟨a', by rw [← Array.toArray_toList (xs := args'), hm1], ha⟩
theorem Eff.val {s : Sem Value} {v : Value} {h' : AH} (hh : ∃ ρ' x w', s.run P w = .ok x w' ∧ VR η ρ' v x ∧ Post η ρ B h w ρ' h' w') : Eff η P ρ B h w (do pure (.value (← s))) (.value v) h' := by
  obtain ⟨ρ', x, w', h1, h2, h3⟩ := hh
  exact ⟨ρ', w', ⟨x, by simp only [Sem.run_bind, h1, Result.andThen_ok, Sem.run_pure], h2⟩, h3⟩
theorem builtinA_ok (hη : OneCells η) (p : Pre η P ρ B h w) {b : Builtin} {ts : Array TypeId} {type : TypeId} {cs : Array Bool} {args : List Value} {args' : Array Value} {a : AN} {h' : AH} (hb : builtinA P h b ts.toList args = .ok (a, h')) (hl : LR η ρ args args'.toList) :
    Eff η P ρ B h w (builtin b ts type cs args') a h' := by
  obtain ⟨ts⟩ := ts
  simp only [] at hb
  have head : ¬ (ts.isEmpty = true) → ∃ t ts', ts = t :: ts' := by
    intro hne
    cases ts with
    | nil => simp at hne
    | cons t ts' => exact ⟨_, _, rfl⟩
  unfold builtinA at hb
  split at hb
  · simp only [bind_ok] at hb
    obtain ⟨⟨v, h1⟩, ha, hb⟩ := hb
    rw [okk] at hb; injection hb with e1 e2; subst e1; subst e2
    exact Eff.val (appendA_ok hη p ha hl)
  · rename_i dst src
    obtain ⟨d', s', rfl, hd, hs⟩ := two_args hl
    rw [ite_no] at hb
    obtain ⟨hne, hb⟩ := hb
    have hts : ts ≠ [] := fun e => hne (by rw [e]; rfl)
    have hc : ∃ v, a = .value v ∧ (do
      match ← undA P (ts.headD 0), dst with
      | .slice elem, .slice base dLen _ => do
        let n := Nat.min (← lenA src) dLen
        let size ← sizeA P elem
        let cs ← firstA h size n src
        match base with
        | some a => do let h ← storeC h a cs; .ok (goInt n, h)
        | none => .ok (goInt n, h)
      | _, _ => no "copy" : M (Value × AH)) = .ok (v, h') := by
      simp only [bind_ok] at hb ⊢
      obtain ⟨d0, hd0, hb⟩ := hb
      split at hb
      · simp only [bind_ok] at hb
        obtain ⟨n, hn, sz, hsz, c, hc, hb⟩ := hb
        split at hb
        · simp only [bind_ok] at hb
          obtain ⟨h1, hst, hb⟩ := hb
          rw [okk] at hb; injection hb with e1 e2; subst e1; subst e2
          exact ⟨_, rfl, _, hd0, by simp only [bind_ok]; exact ⟨n, hn, sz, hsz, c, hc, h1, hst, rfl⟩⟩
        · rw [okk] at hb; injection hb with e1 e2; subst e1; subst e2
          exact ⟨_, rfl, _, hd0, by simp only [bind_ok]; exact ⟨n, hn, sz, hsz, c, hc, rfl⟩⟩
      · simp [no] at hb
    obtain ⟨v, rfl, hc⟩ := hc
    obtain ⟨x, w', h1, h2, h3⟩ := copyA_ok (type := type) hη p hc hts hd hs
    exact Eff.val ⟨ρ, x, w', h1, h2, h3⟩
  · rename_i m k
    obtain ⟨m', k', rfl, hm, hk⟩ := two_args hl
    rw [ite_no] at hb
    obtain ⟨hne, hb⟩ := hb
    obtain ⟨t, ts', rfl⟩ := head hne
    simp only [bind_ok, List.headD_cons] at hb
    obtain ⟨h1, hd, hb⟩ := hb
    rw [okk] at hb; injection hb with e1 e2; subst e1; subst e2
    obtain ⟨w', hw, hp⟩ := deleteA_ok (ts := ts') (type := type) p hd hm hk
    exact Eff.val ⟨ρ, _, w', hw, .tup' .nil, hp⟩
  · rename_i x
    obtain ⟨x', rfl, hx⟩ := one_arg hl
    rw [ite_no] at hb
    obtain ⟨hne, hb⟩ := hb
    obtain ⟨t, ts', rfl⟩ := head hne
    simp only [bind_ok, List.headD_cons] at hb
    obtain ⟨h1, hd, hb⟩ := hb
    rw [okk] at hb; injection hb with e1 e2; subst e1; subst e2
    obtain ⟨w', hw, hp⟩ := clearA_ok (ts := ts') (type := type) hη p hd hx
    exact Eff.val ⟨ρ, _, w', hw, .tup' .nil, hp⟩
  · rename_i t v
    obtain ⟨x', rfl, hx⟩ := one_arg hl
    obtain ⟨y, rfl, hy⟩ := hx.iface_inv
    rw [okk] at hb; injection hb with e1 e2; subst e1; subst e2
    exact ⟨ρ, w, ⟨.iface t y, rfl, .iface t hy⟩, .refl p⟩
  · rw [okk] at hb; injection hb with e1 e2; subst e1; subst e2
    exact ⟨ρ, w, rfl, .refl p⟩
  · rename_i pt l
    obtain ⟨p', l', rfl, hp', hl'⟩ := two_args hl
    rw [ite_no] at hb
    obtain ⟨hne, hb⟩ := hb
    obtain ⟨t, ts', rfl⟩ := head hne
    simp only [bind_ok, intOfA_ok, List.headD_cons] at hb
    obtain ⟨n, ⟨lk, rfl⟩, hb⟩ := hb
    have := hl'.int_inv; subst this
    rw [ite_no] at hb
    obtain ⟨hn, hb⟩ := hb
    have hmax : IntKind.i64.max = 9223372036854775807 := by decide
    have empty : n = 0 → ∀ q : Option Addr, (Builtin.unsafeString_ ⟨t :: ts'⟩ type #[.pointer q, .int lk n]).run P w = .ok (.string ⟨#[]⟩) w := by
      intro h0 q
      subst h0
      have hdef : Builtin.unsafeString_ ⟨t :: ts'⟩ type #[.pointer q, .int lk 0] =
        (do
          let n ← asInt (.int lk 0)
          if n < 0 then runtimePanic (.error "unsafe.String: len out of range")
          if n > IntKind.i64.max then unsupported (.unsafePointer "String: a length above the largest int")
          match q with
          | none =>
            if n = 0 then pure (.string .empty)
            else runtimePanic (.error "unsafe.String: ptr is nil and len is not zero")
          | some a =>
            if n = 0 then pure (.string .empty)
            else if ← variablesAt a (← elemOf t) n.toNat then do
              let s ← loadBytes a .empty n.toNat
              freeze a n.toNat
              pure (.string s)
            else unsupported (.unsafePointer "String: not so many bytes at ptr")) := rfl
      rw [hdef]
      simp only [asInt, Sem.run_bind, run_asIntOf, Sem.run_pure, Result.andThen_ok, hmax]
      rw [if_neg (by omega)]
      rw [if_neg (by omega)]
      cases q <;> rfl
    split at hb
    · have := hp'.ptr0_inv; subst this
      rw [ite_no', okk] at hb
      obtain ⟨h0, hb⟩ := hb
      injection hb with e1 e2; subst e1; subst e2
      exact Eff.val ⟨ρ, _, w, empty h0 _, .string _, .refl p⟩
    · obtain ⟨q, rfl, hq⟩ := hp'.ptr_inv
      by_cases h0 : n = 0
      · rw [if_pos h0, okk] at hb
        injection hb with e1 e2; subst e1; subst e2
        exact Eff.val ⟨ρ, _, w, empty h0 _, .string _, .refl p⟩
      · rw [if_neg h0] at hb
        obtain ⟨bs, w', rfl, hr, hpost⟩ := unsafeS_ok (ts := ts') (type := type) (lk := lk) p hq hn h0 hb
        exact Eff.val ⟨ρ, _, w', hr, .string _, hpost⟩
  · simp [no] at hb
theorem invokeA_ok (hη : OneCells η) (p : Pre η P ρ B h w) {t t' : Target} {args : List Value} {args' : Array Value} {a : AN} {h' : AH} (hi : invokeA P h t args = .ok (a, h')) (ht : TgR ρ η t t') (hl : LR η ρ args args'.toList) :
    Eff η P ρ B h w (invoke t' args') a h' := by
  have rest : ∀ {r : Value} {l : List Value}, args = r :: l → ∃ r', args'[0]? = some r' ∧ VR η ρ r r' ∧ LR η ρ l (args'.extract 1 args'.size).toList := by
    intro r l e
    subst e
    obtain ⟨r', m, hm, hr, hm'⟩ := hl.inv_cons
    refine ⟨r', by rw [← Array.getElem?_toList, hm]; rfl, hr, ?_⟩
    have : (args'.extract 1 args'.size).toList = m := by
      have h1 : args'.size = m.length + 1 := by have : args'.size = args'.toList.length := rfl; rw [this, hm]; rfl
      rw [Array.toList_extract, hm, h1]
      simp [List.extract]
    rw [this]; exact hm'
  unfold invokeA at hi
  split at hi
  · rename_i b ts ty cs
    cases t' with
    | builtin b' ts' ty' cs' =>
      obtain ⟨rfl, rfl, rfl, rfl⟩ := ht
      exact builtinA_ok hη p hi hl
    | _ => exact ht.elim
  · rename_i f captured
    cases t' with
    | fn g captured' =>
      obtain ⟨hf, hc⟩ := ht
      cases hf
      exact callF_ok hη p hi (args' := args' ++ captured') (by simpa using hl.append hc)
    | _ => exact ht.elim
  · rename_i name captured
    cases t' with
    | fn g captured' =>
      obtain ⟨hf, hc⟩ := ht
      cases hf
      split at hi
      · rename_i r l
        obtain ⟨r', hr0, hr, hlr⟩ := rest rfl
        obtain ⟨ρ', w', k1, k2⟩ := callMeth_ok hη p hi hr hlr
        exact ⟨ρ', w', by simp only [invoke, hr0]; exact k1, k2⟩
      · simp [no] at hi
    | _ => exact ht.elim
  · rename_i t0 name captured
    cases t' with
    | fn g captured' =>
      obtain ⟨hf, hc⟩ := ht
      cases hf
      split at hi
      · rename_i r l
        obtain ⟨r', hr0, hr, hlr⟩ := rest rfl
        simp only [bind_ok, undA_ok] at hi
        obtain ⟨d, hd, hi⟩ := hi
        split at hi
        · obtain ⟨ρ', w', k1, k2⟩ := callMeth_ok hη p hi hr hlr
          exact ⟨ρ', w', by simp only [invoke, hr0, Sem.run_bind, run_und hd, Result.andThen_ok]; exact k1, k2⟩
        · rename_i hni
          obtain ⟨ρ', w', k1, k2⟩ := callMeth_ok hη p hi (VR.iface t0 hr) hlr
          refine ⟨ρ', w', ?_, k2⟩
          simp only [invoke, hr0, Sem.run_bind, run_und hd, Result.andThen_ok]
          cases d <;> first | exact k1 | exact absurd rfl (hni _)
      · simp [no] at hi
    | _ => exact ht.elim
  · rename_i t0 path f pointer captured
    cases t' with
    | fn g captured' =>
      obtain ⟨hf, hc⟩ := ht
      cases hf
      split at hi
      · rename_i x l
        obtain ⟨r', hr0, hr, hlr⟩ := rest rfl
        simp only [bind_ok] at hi
        obtain ⟨⟨xt, pl⟩, hfo, rv, hrv, ha⟩ := hi
        obtain ⟨y', hy, hyr⟩ := followA_ok p.hr hfo (x' := .val r') hr
        obtain ⟨u, hu, hur⟩ := recvAt_ok (P := P) (wr := none) p.hr hrv hyr
        obtain ⟨ρ', w', k1, k2⟩ := callF_ok hη p (args' := #[u] ++ args'.extract 1 args'.size) ha (by rw [Array.toList_append]; exact LR.cons hur hlr)
        exact ⟨ρ', w', by simp only [invoke, hr0, receiverVia, Sem.run_bind, hy, hu, Result.andThen_ok]; exact k1, k2⟩
      · simp [no] at hi
    | _ => exact ht.elim
  · rename_i l captured
    cases t' with
    | fn g captured' =>
      obtain ⟨hf, hc⟩ := ht
      split at hi
      · rename_i st pend fn tm n params asg body ds hg
        rw [ite_no] at hi
        obtain ⟨hlen, hi⟩ := hi
        simp only [bind_ok] at hi
        obtain ⟨tm2, htm, hi⟩ := hi
        rw [okk] at hi; injection hi with e1 e2; subst e1; subst e2
        cases hf with
        | same hs => exact absurd rfl (hs l)
        | yield hρ =>
          rename_i b d0 n0
          obtain ⟨b2, d2, n2, o, h1, h2, ⟨lp, rfl, k1, k2, k3, k4, k5, k6, k7, dd, nn, k8⟩, _⟩ := p.hr.obj _ _ hg
          rw [hρ] at h1; cases h1
          refine Eff.reader p ⟨b, _, _, (lp.params.zip args').foldl (fun tmps (x : Tmp × Value) => tmps.setIfInBounds x.1 x.2) lp.tmps, ?_, hρ, ?_⟩
          · have hsz : args'.size = lp.params.size := by
              have e1 := hl.len
              have e2 : lp.params.toList.length = params.length := by rw [k5]
              have e3 : args'.size = args'.toList.length := rfl
              have e4 : lp.params.size = lp.params.toList.length := rfl
              omega
            simp only [invoke, Instr.yield, Instr.getLoop, Sem.run_bind, run_getObj h2 (by simp), Result.andThen_ok, Sem.run_pure]
            rw [if_neg (by omega)]
            simp only [Sem.run_bind, Sem.run_pure, Result.andThen_ok, k3, k6, k7]
          · have := putParams_ok htm hl k4
            rw [← k5] at this
            have hz : (lp.params.zip args').foldl (fun tmps (x : Tmp × Value) => tmps.setIfInBounds x.1 x.2) lp.tmps = (lp.params.toList.zip args'.toList).foldl (fun tmps (x : Tmp × Value) => tmps.setIfInBounds x.1 x.2) lp.tmps := by
              rw [← Array.foldl_toList, Array.toList_zip]
            rw [hz]; exact this
      · simp [no] at hi
    | _ => exact ht.elim
  · simp [no] at hi
theorem FnR.refl_func (f : FuncId) : FnR ρ (.func f) (.func f) := .same fun l e => by cases e
theorem resolveA_ok {c : Call} {σ τ : Operand → Value} {type : TypeId} (hs : ∀ x ∈ c.operands.toList, VR η ρ (σ x) (τ x)) {t : Target} {args : List Value} (hr : resolveA σ c type = .ok (t, args)) :
    ∃ d : Deferred, (resolve τ c type).run P w = .ok d w ∧ TgR ρ η t d.target ∧ LR η ρ args d.args.toList := by
  obtain ⟨callee, cargs, argTypes⟩ := c
  have ha := map_rel (η := η) (ρ := ρ) (σ := σ) (τ := τ) (xs := cargs) (fun x hx => hs x (by simp [Call.operands]; exact .inr (by simpa using hx)))
  unfold resolveA at hr
  simp only [] at hr
  cases callee with
  | builtin b =>
    simp only [okk] at hr; injection hr with e1 e2; subst e1; subst e2
    refine ⟨_, rfl, ⟨rfl, rfl, rfl, ?_⟩, ha⟩
    apply Array.ext'
    simp only [Array.toList_map]
    apply List.map_congr_left
    intro x _
    cases x <;> rfl
  | invoke recv name =>
    simp only [okk] at hr; injection hr with e1 e2; subst e1; subst e2
    have hv := hs recv (by simp [Call.operands])
    exact ⟨_, rfl, ⟨.same (fun l e => by cases e), .nil⟩, by rw [Array.toList_append]; exact LR.cons hv ha⟩
  | value f =>
    have hv := hs f (by simp [Call.operands])
    simp only [] at hr
    split at hr
    · rename_i fn first captured hf
      rw [okk] at hr; injection hr with e1 e2; subst e1; subst e2
      rw [hf] at hv
      obtain ⟨g, c, d, hg, hfr, h1, h2⟩ := hv.func_inv
      refine ⟨{ target := .fn g d, args := c ++ cargs.map τ }, ?_, ⟨hfr, h2⟩, by rw [Array.toList_append]; exact h1.append ha⟩
      simp only [resolve, hg, Deferred.ofValue]; rfl
    · simp [no] at hr
theorem convEffA_ok (p : Pre η P ρ B h w) {s d : TypeId} {x y : Value} {a : AN} {h' : AH} (he : convEffA P h s d x = .ok (a, h')) (hx : VR η ρ x y) :
    Eff η P ρ B h w (do pure (.value (← convert s d y))) a h' := by
  unfold convEffA at he
  simp only [bind_ok, undA_ok] at he
  obtain ⟨sd, hsd, dd, hdd, he⟩ := he
  split at he
  · rename_i e0 e ad l c
    simp only [bind_ok, undA_ok] at he
    obtain ⟨ed, hed, he⟩ := he
    split at he
    · split at he
      · rename_i hsd'
        subst hsd'
        have hee : e0 = e := by rw [hsd] at hdd; injection hdd with hdd; injection hdd
        subst hee
        simp only [bind_ok] at he
        obtain ⟨⟨ty, cs, pl, own⟩, hc, he⟩ := he
        split at he
        · rename_i ty' cs' heq
          injection heq with q1 q2; injection q2 with q2 q3; injection q3 with q3 q4
          subst q1; subst q2; subst q3; subst q4
          split at he
          · rename_i hsp
            rw [okk] at he; injection he with e1 e2; subst e1; subst e2
            have hg := cellsAt_ok.1 hc
            simp only [] at hg
            obtain ⟨bb, d0, n, C, lo, hi, h1, h2, h3, h4⟩ := p.hr.cells hg
            obtain ⟨hlo, hhi, hd0, hcl⟩ := h3.plain rfl
            subst hlo; subst hhi; subst hd0
            have hsz : C.toList.length = 0 + n := h3.size
            have hCs : C.size = C.toList.length := rfl
            obtain ⟨a', c', rfl, hcc⟩ := hx.slice_inv
            obtain ⟨q, rfl, hq⟩ : ∃ q, a' = some q ∧ AdR ρ ad q := by
              rcases hcc with ⟨e, _⟩ | ⟨_, q, e, e', hq, _⟩ | ⟨_, q, _, _, _, _, e, e', hq, _⟩
              · cases e
              · cases e; exact ⟨q, e', hq⟩
              · cases e; exact ⟨q, e', hq⟩
            obtain ⟨_, n', blk, d', h5, rfl⟩ := hq
            rw [h1] at h5; cases h5
            have hlt := heap_lt h2
            refine Eff.val ⟨ρ, _, wput w bb (.cells C ty (C.size, C.size + 1)), ?_, hx, Post.put p hg rfl h1 rfl ⟨C, ty, C.size, C.size + 1, rfl, ⟨rfl, hsz, h3.len, h3.at_, (fun h => by cases h), fun _ i hi hh => by omega⟩⟩⟩
            have hshape : w.shape? bb = some (ty, C.size) := by simp only [World.shape?, h2]
            simp only [convert, Sem.run_bind, run_und hsd, run_und hed, Result.andThen_ok, beq_self_eq_true, markStringish, run_shape, hshape, freeze, Sem.run_pure]
            have hfr : w.freeze ⟨bb, C.size, none⟩ 1 = wput w bb (.cells C ty (C.size, C.size + 1)) := by
              unfold World.freeze wput
              rw [if_neg (by decide)]
              congr 1
              apply Array.ext_getElem?
              intro k
              rw [Array.getElem?_modify, Array.getElem?_setIfInBounds]
              by_cases hk : bb = k
              · subst hk; rw [if_pos rfl, if_pos rfl, if_pos hlt, h2]; rfl
              · rw [if_neg hk, if_neg hk]
            rw [← hfr]
            rfl
          · simp [no] at he
        · simp [no] at he
      · simp [no] at he
    · simp [no] at he
  · simp [no] at he
theorem effA_ok (hη : OneCells η) (p : Pre η P ρ B h w) {o : Oper} {σ τ : Operand → Value} (hs : ∀ x ∈ o.op.operands.toList, VR η ρ (σ x) (τ x)) {a : AN} {h' : AH} (he : effA P σ o h = .ok (a, h')) :
    Eff η P ρ B h w (execOp τ o) a h' := by
  obtain ⟨dst, op, type, pos, after, guard⟩ := o
  have unit : ∀ {s : Sem Unit} {h' : AH}, (∃ w', s.run P w = .ok () w' ∧ Post η ρ B h w ρ h' w') → Eff η P ρ B h w (do s; pure .skip) .skip h' := by
    rintro s h' ⟨w', h1, h2⟩
    refine ⟨ρ, w', ?_, h2⟩
    show ((do s; pure Next.skip : Sem Next)).run P w = .ok .skip w'
    simp only [Sem.run_bind, h1, Result.andThen_ok, Sem.run_pure]
  cases op <;> simp only [effA] at he <;> simp only [Op.operands] at hs <;> try (simp [no] at he; done)
  case store t ad x =>
    simp only [bind_ok, addrA_ok] at he
    obtain ⟨q, ⟨hq, _⟩, h1, hst, he⟩ := he
    rw [okk] at he; injection he with e1 e2; subst e1; subst e2
    have ha := hs ad (by simp); have hx := hs x (by simp)
    rw [hq] at ha
    obtain ⟨q', hq', hqr⟩ := ha.ptr_inv
    simp only [storeA, bind_ok] at hst
    obtain ⟨n, hn, hst⟩ := hst
    rw [ite_no] at hst
    obtain ⟨hlen, hst⟩ := hst
    have hc := hx.cells hη
    obtain ⟨w', hw', hp⟩ := storeC_ok (P := P) hη p hst hqr hc
    refine unit ⟨w', ?_, hp⟩
    have hsz : (τ x).cells.size = n := by
      have e1 := hc.len
      have e2 : (τ x).cells.size = (τ x).cells.toList.length := rfl
      omega
    simp only [Instr.storeAt, Sem.run_bind, hq', Instr.sureAddr, Sem.run_pure, Result.andThen_ok, storeVar, run_size hn]
    rw [if_neg (by omega)]
    exact hw'
  case convert s d x =>
    have hx := hs x (by simp)
    generalize σ x = u at he hx
    exact convEffA_ok p he hx
  case insert t m k x =>
    simp only [bind_ok] at he
    obtain ⟨h1, hm, he⟩ := he
    rw [okk] at he; injection he with e1 e2; subst e1; subst e2
    exact unit (mapSet_ok p hm (hs m (by simp)) (hs k (by simp)) (hs x (by simp)))
  case mapUpdate t m k x =>
    simp only [bind_ok] at he
    obtain ⟨h1, hm, he⟩ := he
    rw [okk] at he; injection he with e1 e2; subst e1; subst e2
    exact unit (mapSet_ok p hm (hs m (by simp)) (hs k (by simp)) (hs x (by simp)))
  case mapEntry t m k =>
    simp only [bind_ok] at he
    obtain ⟨⟨v, h1⟩, hm, he⟩ := he
    rw [okk] at he; injection he with e1 e2; subst e1; subst e2
    obtain ⟨x, w', k1, k2, k3⟩ := mapEntryA_ok p hm (hs m (by simp)) (hs k (by simp))
    exact Eff.val ⟨ρ, x, w', k1, k2, k3⟩
  case entryStore t m s x =>
    simp only [bind_ok] at he
    obtain ⟨h1, hm, he⟩ := he
    rw [okk] at he; injection he with e1 e2; subst e1; subst e2
    exact unit (entryStoreA_ok p hm (hs m (by simp)) (hs s (by simp)) (hs x (by simp)))
  case range t x =>
    have hx := hs x (by simp)
    generalize σ x = u at he hx
    have : ∃ v, a = .value v ∧ (do
      match ← undA P t, u with
      | .string, .string s => let (r, h) := newA h (.stringIter s 0); .ok (.pointer (some ⟨r, 0, none⟩), h)
      | .map _ _, .map none => let (r, h) := newA h (.mapIter none 0 [] 0); .ok (.pointer (some ⟨r, 0, none⟩), h)
      | .map _ _, .map (some m) => do
        let (_, clock, _) ← mapOf h m
        let (r, h) := newA h (.mapIter (some m) clock [] clock)
        .ok (.pointer (some ⟨r, 0, none⟩), h)
      | _, _ => no "range" : M (Value × AH)) = .ok (v, h') := by
      simp only [bind_ok, newA] at he ⊢
      obtain ⟨d, hd, he⟩ := he
      split at he
      · rw [okk] at he; injection he with e1 e2; subst e1; subst e2
        exact ⟨_, rfl, _, hd, rfl⟩
      · rw [okk] at he; injection he with e1 e2; subst e1; subst e2
        exact ⟨_, rfl, _, hd, rfl⟩
      · simp only [bind_ok] at he
        obtain ⟨m, hm, he⟩ := he
        rw [okk] at he; injection he with e1 e2; subst e1; subst e2
        exact ⟨_, rfl, _, hd, by simp only [bind_ok]; exact ⟨m, hm, rfl⟩⟩
      · simp [no] at he
    obtain ⟨v, rfl, hr⟩ := this
    exact Eff.val (rangeA_ok p hr hx)
  case next it s =>
    simp only [bind_ok] at he
    obtain ⟨⟨v, h1⟩, hm, he⟩ := he
    rw [okk] at he; injection he with e1 e2; subst e1; subst e2
    obtain ⟨x, w', k1, k2, k3⟩ := nextA_ok (P := P) (type := type) p hm (hs it (by simp))
    exact Eff.val ⟨ρ, x, w', k1, k2, k3⟩
  case call c =>
    simp only [bind_ok] at he
    obtain ⟨⟨t, args⟩, hr, hi⟩ := he
    obtain ⟨d, hd, ht, hl⟩ := resolveA_ok (P := P) (w := w) hs hr
    obtain ⟨ρ', w', k1, k2⟩ := invokeA_ok hη p hi ht hl
    exact ⟨ρ', w', by simp only [execOp, Sem.run_bind, hd, Result.andThen_ok]; exact k1, k2⟩
  case defer c =>
    simp only [bind_ok] at he
    obtain ⟨⟨t, args⟩, hr, he⟩ := he
    rw [okk] at he; injection he with e1 e2; subst e1; subst e2
    obtain ⟨d, hd, ht, hl⟩ := resolveA_ok (P := P) (w := w) hs hr
    exact ⟨ρ, w, ⟨d, by simp only [execOp, Sem.run_bind, hd, Result.andThen_ok, Sem.run_pure], ht, by simpa using hl⟩, .refl p⟩
  case panic x =>
    have hx := hs x (by simp)
    split at he
    · rename_i t v hv
      rw [okk] at he; injection he with e1 e2; subst e1; subst e2
      rw [hv] at hx
      obtain ⟨y, hy, hyr⟩ := hx.iface_inv
      exact ⟨ρ, w, ⟨.iface t y, by simp only [execOp, hy]; rfl, .iface t hyr⟩, .refl p⟩
    · simp [no] at he
end
end Go.Ev
