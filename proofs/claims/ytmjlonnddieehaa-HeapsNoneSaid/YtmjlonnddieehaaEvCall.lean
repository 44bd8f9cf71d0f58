/- Methods and calls. -/
import Derived.Test.YtmjlonnddieehaaEvEff3
import Derived.Lib.UnsafeStr
namespace Go.Ev
set_option linter.unusedVariables false
set_option linter.unusedSimpArgs false
variable {η : Nat → Value}
section
variable {P : Program} {ρ : Env} {B : Nat} {h : AH} {w : World}
theorem liesAt_off {e : TypeId} (hc : P.cellsOf e = 1) (count off n : Nat) (hn : off + n ≤ count) : liesAt P P.depth e count off e n = true := by
  have hd : P.depth = (2 * (P.types.size + Made.depth) + 1) + 1 := rfl
  rw [hd]
  simp only [liesAt, Bool.or_eq_true]
  left
  rw [hd]
  simp [rowAt, hc, hn, sameLayout, Nat.mod_one]
def PlR (η : Nat → Value) (ρ : Env) : APlace → Go.Place → Prop
  | .val v, .val x => VR η ρ v x
  | .var a, .var b => AdR ρ a b
  | _, _ => False
theorem PlR.get (H : HR η ρ B h w) {t : TypeId} {x : APlace} {x' : Go.Place} {v : Value} (hg : x.get P h t = .ok v) (hx : PlR η ρ x x') : ∃ y, (x'.get t).run P w = .ok y w ∧ VR η ρ v y := by
  cases x with
  | val u =>
    cases x' with
    | val u' => simp only [APlace.get, okk] at hg; subst hg; exact ⟨u', rfl, hx⟩
    | var b => exact hx.elim
  | var a =>
    cases x' with
    | val u' => exact hx.elim
    | var b => exact loadA_ok H hg hx
theorem followA_ok (H : HR η ρ B h w) : ∀ {path : List FieldStep} {t t2 : TypeId} {x y : APlace} {x' : Go.Place}, followA P h path t x = .ok (t2, y) → PlR η ρ x x' → ∃ y', (Go.follow path t x').run P w = .ok (t2, y') w ∧ PlR η ρ y y'
  | [], t, t2, x, y, x', hf, hx => by
    simp only [followA, okk] at hf; injection hf with e1 e2; subst e1; subst e2
    exact ⟨x', rfl, hx⟩
  | s :: rest, t, t2, x, y, x', hf, hx => by
    simp only [followA, bind_ok] at hf
    obtain ⟨f, hfo, hf⟩ := hf
    obtain ⟨fs, hfs, hfi⟩ := fieldOff_ok hfo
    by_cases hd : s.deref = true
    · rw [if_pos hd] at hf
      simp only [bind_ok, addrA_ok] at hf
      obtain ⟨v, hv, a, ⟨rfl, _⟩, n, hn, hf⟩ := hf
      rw [ite_no] at hf
      obtain ⟨h0, hf⟩ := hf
      obtain ⟨u, hu, hur⟩ := PlR.get (P := P) H hv hx
      obtain ⟨q, rfl, hq⟩ := hur.ptr_inv
      obtain ⟨y', hy, hyr⟩ := followA_ok H hf (x' := .var (q.add f.offset)) (hq.add _)
      refine ⟨y', ?_, hyr⟩
      simp only [Go.follow, Sem.run_bind, run_und hfs, Result.andThen_ok, hfi]
      rw [if_pos hd]
      simp only [Sem.run_bind, hu, Result.andThen_ok, asAddr, Sem.run_pure, run_place hn h0, hy]
    · rw [if_neg hd] at hf
      split at hf
      · rename_i a
        cases x' with
        | val u => exact hx.elim
        | var b =>
          simp only [bind_ok] at hf
          obtain ⟨n, hn, hf⟩ := hf
          rw [ite_no] at hf
          obtain ⟨h0, hf⟩ := hf
          obtain ⟨y', hy, hyr⟩ := followA_ok H hf (x' := .var (b.add f.offset)) (AdR.add hx _)
          refine ⟨y', ?_, hyr⟩
          simp only [Go.follow, Sem.run_bind, run_und hfs, Result.andThen_ok, hfi]
          rw [if_neg hd]
          simp only [Sem.run_bind, run_place hn h0, Result.andThen_ok, hy]
      · rename_i cs
        cases x' with
        | var b => exact hx.elim
        | val u =>
          obtain ⟨c, rfl, hl⟩ := VR.agg_inv hx
          simp only [bind_ok] at hf
          obtain ⟨pv, hp, hf⟩ := hf
          obtain ⟨r, hr, hrv⟩ := partA_ok (P := P) (w := w) hp hl
          obtain ⟨y', hy, hyr⟩ := followA_ok H hf (x' := .val r) hrv
          refine ⟨y', ?_, hyr⟩
          simp only [Go.follow, Sem.run_bind, run_und hfs, Result.andThen_ok, hfi]
          rw [if_neg hd]
          simp only [Sem.run_bind, hr, Result.andThen_ok, hy]
      · simp [no] at hf
theorem recvAt_ok (H : HR η ρ B h w) {xt : TypeId} {x : APlace} {x' : Go.Place} {ptr : Bool} {v : Value} {wr : Option String} (hr : recvAt P h xt x ptr = .ok v) (hx : PlR η ρ x x') : ∃ r, (Go.receiverAt xt x' ptr wr).run P w = .ok r w ∧ VR η ρ v r := by
  simp only [recvAt, bind_ok, undA_ok] at hr
  obtain ⟨d, hd, hr⟩ := hr
  split at hr
  · obtain ⟨y, hy, hv⟩ := PlR.get (P := P) H hr hx
    refine ⟨y, ?_, hv⟩
    simp only [Go.receiverAt, Sem.run_bind, run_und hd, Result.andThen_ok, hy]
  · rename_i elem
    simp only [bind_ok, addrA_ok] at hr
    obtain ⟨u, hu, a, ⟨rfl, _⟩, hr⟩ := hr
    obtain ⟨y, hy, hyr⟩ := PlR.get (P := P) H hu hx
    obtain ⟨q, rfl, hq⟩ := hyr.ptr_inv
    obtain ⟨r, h1, h2⟩ := loadA_ok H hr hq
    refine ⟨r, ?_, h2⟩
    cases wr with
    | none => simp only [Go.receiverAt, Sem.run_bind, run_und hd, Result.andThen_ok, hy, asAddr, Sem.run_pure, h1]
    | some nm =>
      have hck : (Builtin.ssaWrapNilChk_ #[xt] xt #[.pointer (some q), strVal "", strVal nm]).run P w = .ok (.pointer (some q)) w := rfl
      simp only [Go.receiverAt, Sem.run_bind, run_und hd, Result.andThen_ok, hy, hck, asAddr, Sem.run_pure, h1]
  · rename_i n1
    cases x' with
    | val u => exact hx.elim
    | var b =>
      rw [okk] at hr; subst hr
      refine ⟨.pointer (some b), ?_, AdR.ptr hx⟩
      simp only [Go.receiverAt, Sem.run_bind, run_und hd, Result.andThen_ok]
      cases d <;> first | rfl | exact absurd rfl (n1 _)
  · simp [no] at hr
  · rename_i n1
    obtain ⟨y, hy, hv⟩ := PlR.get (P := P) H hr hx
    refine ⟨y, ?_, hv⟩
    simp only [Go.receiverAt, Sem.run_bind, run_und hd, Result.andThen_ok]
    cases d <;> first | exact hy | exact absurd rfl (n1 _)
theorem methodA_ok (H : HR η ρ B h w) : ∀ {n : Nat} {t : TypeId} {v v' : Value} {name : String} {f : FuncId} {r : Value}, methodA P h n t v name = .ok (f, r) → VR η ρ v v' → ∃ r', (Go.method n t v' name).run P w = .ok (f, r') w ∧ VR η ρ r r'
  | 0, t, v, v', name, f, r, hm, hv => by simp [methodA, no] at hm
  | n + 1, t, v, v', name, f, r, hm, hv => by
    simp only [methodA, bind_ok, infoA_ok, orNo_ok] at hm
    obtain ⟨i, hi, m, hmm, ⟨xt, x⟩, hfo, hm⟩ := hm
    obtain ⟨x', hx, hxr⟩ := followA_ok H hfo (x' := .val v') hv
    have hfind : i.methods.find? (·.name == name) = some m := by rw [← Array.find?_toList]; exact hmm
    simp only [Go.method, Sem.run_bind, run_info hi, Result.andThen_ok, hfind, hx]
    simp only [] at hm
    split at hm
    · rename_i hfn
      simp only [bind_ok] at hm
      obtain ⟨u, hu, hm⟩ := hm
      obtain ⟨y, hy, hyr⟩ := PlR.get (P := P) H hu hxr
      rw [hfn]
      simp only [Sem.run_bind, hy, Result.andThen_ok]
      split at hm
      · obtain ⟨z, rfl, hz⟩ := hyr.iface_inv
        exact methodA_ok H hm hz
      · simp [no] at hm
    · rename_i f0 ptr hfn
      simp only [bind_ok] at hm
      obtain ⟨rv, hrv, hm⟩ := hm
      rw [okk] at hm; injection hm with e1 e2; subst e1; subst e2
      rw [hfn]
      obtain ⟨y, hy, hyr⟩ := recvAt_ok (P := P) (wr := if m.path.isEmpty then some ((name.splitOn ".").getLastD name) else none) H hrv hxr
      exact ⟨y, by simp only [Sem.run_bind, hy, Result.andThen_ok, Sem.run_pure], hyr⟩
def NR (η : Nat → Value) (ρ : Env) : AN → Result Next → World → Prop
  | .value v, r, w => ∃ x, r = .ok (.value x) w ∧ VR η ρ v x
  | .skip, r, w => r = .ok .skip w
  | .enter f args, r, w => ∃ xs, r = .ok (.enter f xs) w ∧ LR η ρ args xs.toList
  | .defer d, r, w => ∃ e, r = .ok (.defer e) w ∧ DR η ρ d e
  | .recover, r, w => r = .ok .recover w
  | .round l fn tm n asg body, r, w => ∃ b d k tmps, r = .ok (.round b fn tmps asg body) w ∧ ρ l = some (b, d, k) ∧ TR η ρ tm n tmps
  | .panic v, r, w => ∃ x, r = .halt (.panic x) w ∧ VR η ρ v x
theorem callF_ok {f : FuncId} {args : List Value} {args' : Array Value} {a : AN} (hc : callF P f args = .ok a) (hl : LR η ρ args args'.toList) : NR η ρ a ((callFunc f args').run P w) w := by
  unfold callF at hc
  split at hc
  · simp [no] at hc
  · rename_i fn hfn
    rw [ite_no, okk] at hc
    obtain ⟨hb, rfl⟩ := hc
    have hb1 : fn.body.isNone = false := by cases h : fn.body.isNone <;> simp_all
    have hb2 : (fn.name == "runtime.NumGoroutine") = false := by cases h : fn.name == "runtime.NumGoroutine" <;> simp_all
    refine ⟨args', ?_, hl⟩
    simp only [callFunc, Sem.run_bind, run_program, Result.andThen_ok, hfn, hb1, hb2, Bool.false_eq_true, if_false, Sem.run_pure]
theorem callMeth_ok (H : HR η ρ B h w) {recv recv' : Value} {name : String} {args : List Value} {args' : Array Value} {a : AN} (hc : callMeth P h recv name args = .ok a) (hr : VR η ρ recv recv') (hl : LR η ρ args args'.toList) :
    NR η ρ a ((callMethod recv' name args').run P w) w := by
  unfold callMeth at hc
  split at hc
  · obtain ⟨u, rfl, hu⟩ := hr.iface_inv
    simp only [bind_ok] at hc
    obtain ⟨⟨f, r⟩, hm, hc⟩ := hc
    obtain ⟨r', hr', hrr⟩ := methodA_ok H hm hu
    simp only [callMethod, Sem.run_bind, run_program, Result.andThen_ok, hr']
    exact callF_ok hc (by simpa using LR.cons hrr hl)
  · simp [no] at hc
theorem putParams_ok : ∀ {ps : List Tmp} {args args' : List Value} {tm tm2 : T Value} {n : Nat} {tmps : Array Value}, putParams n ps args tm = .ok tm2 → LR η ρ args args' → TR η ρ tm n tmps →
    TR η ρ tm2 n ((ps.zip args').foldl (fun tmps (x : Tmp × Value) => tmps.setIfInBounds x.1 x.2) tmps)
  | [], args, args', tm, tm2, n, tmps, hp, hl, ht => by
    cases args <;> (simp only [putParams, okk] at hp; subst hp; simpa using ht)
  | t :: ps, [], args', tm, tm2, n, tmps, hp, hl, ht => by
    have := hl.inv_nil; subst this
    simp only [putParams, okk] at hp; subst hp
    simpa using ht
  | t :: ps, v :: vs, args', tm, tm2, n, tmps, hp, hl, ht => by
    obtain ⟨x, m, rfl, hx, hm⟩ := hl.inv_cons
    simp only [putParams] at hp
    rw [ite_no'] at hp
    obtain ⟨hlt, hp⟩ := hp
    rw [List.zip_cons_cons, List.foldl_cons]
    refine putParams_ok hp hm ⟨by simp [ht.1], ?_, ?_⟩
    · intro s hs
      rw [T.get_set, if_neg (fun e => by subst e; exact absurd hlt (Nat.not_lt.2 hs))]
      exact ht.2.1 s hs
    · intro s hs
      rw [T.get_set]
      by_cases e : s = t
      · subst e
        rw [if_pos rfl]
        have hsz : s < tmps.size := by rw [ht.1]; exact hs
        simp only [Option.getD_some]
        rw [Array.getD_eq_getD_getElem?, Array.getElem?_setIfInBounds_self_of_lt hsz]
        exact hx
      · rw [if_neg e]
        rw [Array.getD_eq_getD_getElem?, Array.getElem?_setIfInBounds_ne (fun h => e h.symm), ← Array.getD_eq_getD_getElem?]
        exact ht.2.2 s hs
theorem freeze_eq {b off n lo hi : Nat} {C : Array Value} {ty : TypeId} (hb : w.heap[b]? = some (.cells C ty (lo, hi))) (hn : n ≠ 0) :
    w.freeze ⟨b, off, none⟩ n = wput w b (.cells C ty (if lo == hi then (off, off + n) else (min lo off, max hi (off + n)))) := by
  unfold World.freeze wput
  rw [if_neg hn]
  congr 1
  apply Array.ext_getElem?
  intro k
  rw [Array.getElem?_modify, Array.getElem?_setIfInBounds]
  by_cases h : b = k
  · subst h
    rw [if_pos rfl, if_pos rfl, hb, if_pos (heap_lt hb)]
    rfl
  · rw [if_neg h, if_neg h]
theorem bytesOf_cells : ∀ {l : List Value} {bs : List UInt8} {vs : List Value}, bytesOf l = .ok bs → LR η ρ l vs → bs.length = l.length ∧ ∀ (j : Nat) (u : UInt8), bs[j]? = some u → ∃ n, vs[j]? = some (.int .u8 n) ∧ u = UInt8.ofNat n.toNat
  | [], bs, vs, hb, hl => by simp only [bytesOf, okk] at hb; subst hb; exact ⟨rfl, fun j u h => by simp at h⟩
  | v :: l, bs, vs, hb, hl => by
    obtain ⟨x, m, rfl, hx, hm⟩ := hl.inv_cons
    unfold bytesOf at hb
    split at hb
    · rename_i e; cases e
    · rename_i n r e
      injection e with e1 e2; subst e1; subst e2
      have := hx.int_inv; subst this
      split at hb
      · rename_i l' hl'
        rw [okk] at hb; subst hb
        obtain ⟨i1, i2⟩ := bytesOf_cells hl' hm
        refine ⟨by simp [i1], fun j u hj => ?_⟩
        cases j with
        | zero => simp at hj; subst hj; exact ⟨n, rfl, rfl⟩
        | succ j => simp at hj; simpa using i2 j u hj
      · cases hb
    · simp [no] at hb
end
end Go.Ev
