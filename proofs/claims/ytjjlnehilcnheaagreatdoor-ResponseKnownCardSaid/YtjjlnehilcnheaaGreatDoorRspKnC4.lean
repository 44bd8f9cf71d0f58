/- RspKnC, part 4: what the proof needs, in the order of its texts. -/
import Derived.Test.YtjjlnehilcnheaaGreatDoorRspKnC3
import Derived.Lib.UnsafeStr
import Derived.Calls
namespace Go.Ev
set_option linter.unusedVariables false
set_option linter.unusedSimpArgs false
variable {η : Nat → Value}
section
variable {P : Program} {ρ : Env} {B : Bd} {h : AH} {w : World}
theorem liesAt_off {e : TypeId} (hc : P.cellsOf e = 1) (count off n : Nat) (hn : off + n ≤ count) : liesAt P P.depth e count off e n = true := by
  have hd : P.depth = (2 * (P.types.size + Made.depth) + 1) + 1 := rfl
  rw [hd]
  simp only [liesAt, Bool.or_eq_true]
  left
  rw [hd]
  simp [rowAt, hc, hn, sameLayout, Nat.mod_one]
def PlR (η : Nat → Value) (ρ : Env) : APlace → Go.Place → Prop
  | .val v, .val x => VR η ρ v x
  | .var a, .var b => AdR ρ a b
  | _, _ => False
theorem PlR.get (H : HR η ρ B h w) {t : TypeId} {x : APlace} {x' : Go.Place} {v : Value} (hg : x.get P h t = .ok v) (hx : PlR η ρ x x') : ∃ y, (x'.get t).run P w = .ok y w ∧ VR η ρ v y := by
  cases x with
  | val u =>
    cases x' with
    | val u' => simp only [APlace.get, okk] at hg; subst hg; exact ⟨u', rfl, hx⟩
    | var b => exact hx.elim
  | var a =>
    cases x' with
    | val u' => exact hx.elim
    | var b => exact loadA_ok H hg hx
theorem followA_ok (H : HR η ρ B h w) : ∀ {path : List FieldStep} {t t2 : TypeId} {x y : APlace} {x' : Go.Place}, followA P h path t x = .ok (t2, y) → PlR η ρ x x' → ∃ y', (Go.follow path t x').run P w = .ok (t2, y') w ∧ PlR η ρ y y'
  | [], t, t2, x, y, x', hf, hx => by
    simp only [followA, okk] at hf; injection hf with e1 e2; subst e1; subst e2
    exact ⟨x', rfl, hx⟩
  | s :: rest, t, t2, x, y, x', hf, hx => by
    simp only [followA, bind_ok] at hf
    obtain ⟨f, hfo, hf⟩ := hf
    obtain ⟨fs, hfs, hfi⟩ := fieldOff_ok hfo
    by_cases hd : s.deref = true
    · rw [if_pos hd] at hf
      simp only [bind_ok, addrA_ok] at hf
      obtain ⟨v, hv, a, ⟨rfl, _⟩, n, hn, hf⟩ := hf
      rw [ite_no] at hf
      obtain ⟨h0, hf⟩ := hf
      obtain ⟨u, hu, hur⟩ := PlR.get (P := P) H hv hx
      obtain ⟨q, rfl, hq⟩ := hur.ptr_inv
      obtain ⟨y', hy, hyr⟩ := followA_ok H hf (x' := .var (q.add f.offset)) (hq.add _)
      refine ⟨y', ?_, hyr⟩
      simp only [Go.follow, Sem.run_bind, run_und hfs, Result.andThen_ok, hfi]
      rw [if_pos hd]
      simp only [Sem.run_bind, hu, Result.andThen_ok, asAddr, Sem.run_pure, run_place hn h0, hy]
    · rw [if_neg hd] at hf
      split at hf
      · rename_i a
        cases x' with
        | val u => exact hx.elim
        | var b =>
          simp only [bind_ok] at hf
          obtain ⟨n, hn, hf⟩ := hf
          rw [ite_no] at hf
          obtain ⟨h0, hf⟩ := hf
          obtain ⟨y', hy, hyr⟩ := followA_ok H hf (x' := .var (b.add f.offset)) (AdR.add hx _)
          refine ⟨y', ?_, hyr⟩
          simp only [Go.follow, Sem.run_bind, run_und hfs, Result.andThen_ok, hfi]
          rw [if_neg hd]
          simp only [Sem.run_bind, run_place hn h0, Result.andThen_ok, hy]
      · rename_i cs
        cases x' with
        | var b => exact hx.elim
        | val u =>
          obtain ⟨c, rfl, hl⟩ := VR.agg_inv hx
          simp only [bind_ok] at hf
          obtain ⟨pv, hp, hf⟩ := hf
          obtain ⟨r, hr, hrv⟩ := partA_ok (P := P) (w := w) hp hl
          obtain ⟨y', hy, hyr⟩ := followA_ok H hf (x' := .val r) hrv
          refine ⟨y', ?_, hyr⟩
          simp only [Go.follow, Sem.run_bind, run_und hfs, Result.andThen_ok, hfi]
          rw [if_neg hd]
          simp only [Sem.run_bind, hr, Result.andThen_ok, hy]
      · simp [no] at hf
theorem recvAt_ok (H : HR η ρ B h w) {xt : TypeId} {x : APlace} {x' : Go.Place} {ptr : Bool} {v : Value} {wr : Option String} (hr : recvAt P h xt x ptr = .ok v) (hx : PlR η ρ x x') : ∃ r, (Go.receiverAt xt x' ptr wr).run P w = .ok r w ∧ VR η ρ v r := by
  simp only [recvAt, bind_ok, undA_ok] at hr
  obtain ⟨d, hd, hr⟩ := hr
  split at hr
  · obtain ⟨y, hy, hv⟩ := PlR.get (P := P) H hr hx
    refine ⟨y, ?_, hv⟩
    simp only [Go.receiverAt, Sem.run_bind, run_und hd, Result.andThen_ok, hy]
  · rename_i elem
    simp only [bind_ok, addrA_ok] at hr
    obtain ⟨u, hu, a, ⟨rfl, _⟩, hr⟩ := hr
    obtain ⟨y, hy, hyr⟩ := PlR.get (P := P) H hu hx
    obtain ⟨q, rfl, hq⟩ := hyr.ptr_inv
    obtain ⟨r, h1, h2⟩ := loadA_ok H hr hq
    refine ⟨r, ?_, h2⟩
    cases wr with
    | none => simp only [Go.receiverAt, Sem.run_bind, run_und hd, Result.andThen_ok, hy, asAddr, Sem.run_pure, h1]
    | some nm =>
      have hck : (Builtin.ssaWrapNilChk_ #[xt] xt #[.pointer (some q), strVal "", strVal nm]).run P w = .ok (.pointer (some q)) w := rfl
      simp only [Go.receiverAt, Sem.run_bind, run_und hd, Result.andThen_ok, hy, hck, asAddr, Sem.run_pure, h1]
  · rename_i n1
    cases x' with
    | val u => exact hx.elim
    | var b =>
      rw [okk] at hr; subst hr
      refine ⟨.pointer (some b), ?_, AdR.ptr hx⟩
      simp only [Go.receiverAt, Sem.run_bind, run_und hd, Result.andThen_ok]
      cases d <;> first | rfl | exact absurd rfl (n1 _)
  · simp [no] at hr
  · rename_i n1
    obtain ⟨y, hy, hv⟩ := PlR.get (P := P) H hr hx
    refine ⟨y, ?_, hv⟩
    simp only [Go.receiverAt, Sem.run_bind, run_und hd, Result.andThen_ok]
    cases d <;> first | exact hy | exact absurd rfl (n1 _)
theorem methodA_ok (H : HR η ρ B h w) : ∀ {n : Nat} {t : TypeId} {v v' : Value} {name : String} {f : FuncId} {r : Value}, methodA P h n t v name = .ok (f, r) → VR η ρ v v' → ∃ r', (Go.method n t v' name).run P w = .ok (f, r') w ∧ VR η ρ r r'
  | 0, t, v, v', name, f, r, hm, hv => by simp [methodA, no] at hm
  | n + 1, t, v, v', name, f, r, hm, hv => by
    simp only [methodA, bind_ok, infoA_ok, orNo_ok] at hm
    obtain ⟨i, hi, m, hmm, ⟨xt, x⟩, hfo, hm⟩ := hm
    obtain ⟨x', hx, hxr⟩ := followA_ok H hfo (x' := .val v') hv
    have hfind : i.methods.find? (·.name == name) = some m := by rw [← Array.find?_toList]; exact hmm
    simp only [Go.method, Sem.run_bind, run_info hi, Result.andThen_ok, hfind, hx]
    simp only [] at hm
    split at hm
    · rename_i hfn
      simp only [bind_ok] at hm
      obtain ⟨u, hu, hm⟩ := hm
      obtain ⟨y, hy, hyr⟩ := PlR.get (P := P) H hu hxr
      rw [hfn]
      simp only [Sem.run_bind, hy, Result.andThen_ok]
      split at hm
      · obtain ⟨z, rfl, hz⟩ := hyr.iface_inv
        exact methodA_ok H hm hz
      · simp [no] at hm
    · rename_i f0 ptr hfn
      simp only [bind_ok] at hm
      obtain ⟨rv, hrv, hm⟩ := hm
      rw [okk] at hm; injection hm with e1 e2; subst e1; subst e2
      rw [hfn]
      obtain ⟨y, hy, hyr⟩ := recvAt_ok (P := P) (wr := if m.path.isEmpty then some ((name.splitOn ".").getLastD name) else none) H hrv hxr
      exact ⟨y, by simp only [Sem.run_bind, hy, Result.andThen_ok, Sem.run_pure], hyr⟩
def NR (η : Nat → Value) (ρ : Env) : AN → Result Next → World → Prop
  | .value v, r, w => ∃ x, r = .ok (.value x) w ∧ VR η ρ v x
  | .skip, r, w => r = .ok .skip w
  | .enter f args, r, w => ∃ xs, r = .ok (.enter f xs) w ∧ LR η ρ args xs.toList
  | .defer d, r, w => ∃ e, r = .ok (.defer e) w ∧ DR η ρ d e
  | .recover, r, w => r = .ok .recover w
  | .round l fn tm n asg body, r, w => ∃ b d k tmps, r = .ok (.round b fn tmps asg body) w ∧ ρ l = some (b, d, k) ∧ TR η ρ tm n tmps
  | .panic v, r, w => ∃ x, r = .halt (.panic x) w ∧ VR η ρ v x
def Eff (η : Nat → Value) (P : Program) (ρ : Env) (B : Bd) (h : AH) (w : World) (s : Sem Next) (a : AN) (h' : AH) : Prop := ∃ ρ' w', NR η ρ' a (s.run P w) w' ∧ Post η ρ B h w ρ' h' w'
theorem Eff.reader (p : Pre η P ρ B h w) {s : Sem Next} {a : AN} (hn : NR η ρ a (s.run P w) w) : Eff η P ρ B h w s a h := ⟨ρ, w, hn, .refl p⟩
theorem look_none {fn : Func} {n : String} (hn : fn.name = n) (ho : (fn.origin == fn.name || fn.origin == "") = true) (h1 : (Extern.allNextRows.lookup n).isNone = true) (h2 : (Extern.allNextRows.lookup "").isNone = true) : Extern.findNext fn = none := by
  have k1 : Extern.allNextRows.lookup n = none := by simpa using h1
  have k2 : Extern.allNextRows.lookup "" = none := by simpa using h2
  unfold Extern.findNext
  have hor : fn.origin = n ∨ fn.origin = "" := by
    rw [Bool.or_eq_true] at ho
    rcases ho with ho | ho
    · exact .inl ((beq_iff_eq.1 ho).trans hn)
    · exact .inr (beq_iff_eq.1 ho)
  rcases hor with e | e <;> simp only [hn, e, k1, k2] <;> rfl
theorem look_find {fn : Func} {n : String} {e : Array Value → Sem Value} (hn : fn.name = n) (h1 : (Extern.allGenericRows.lookup n).isNone = true) (h2 : (Extern.allTypedRows.lookup n).isNone = true) (h3 : Extern.allRows.lookup n = some e) : Extern.find fn = some e := by
  have k1 : Extern.allGenericRows.lookup n = none := by simpa using h1
  have k2 : Extern.allTypedRows.lookup n = none := by simpa using h2
  unfold Extern.find
  simp only [hn, k1, k2, h3]; rfl
theorem look_typed {fn : Func} {n : String} {e : Extern.Typed} (hn : fn.name = n) (h1 : (Extern.allGenericRows.lookup n).isNone = true) (h2 : Extern.allTypedRows.lookup n = some e) : Extern.find fn = some (e fn.params fn.resultTypes) := by
  have k1 : Extern.allGenericRows.lookup n = none := by simpa using h1
  unfold Extern.find
  simp only [hn, k1, h2]; rfl
theorem digits_len : ∀ (n t : Nat) (acc : Array Value), (Extern.BytealgMakeNoZero.digits n t acc).size = acc.size + n
  | 0, t, acc => rfl
  | n + 1, t, acc => by
    simp only [Extern.BytealgMakeNoZero.digits]
    rw [digits_len n, Array.size_push]; omega
theorem reflectA_ok (hη : OneCells η) (p : Pre η P ρ B h w) {f : FuncId} {fn : Func} {args : List Value} {args' : Array Value} {a : AN} {h' : AH} (hf : P.funcs[f]? = some fn) (hnm : (fn.name == "runtime.NumGoroutine") = false) (hb : fn.body.isNone = true) (ho : (fn.origin == fn.name || fn.origin == "") = true) (hc : reflectA P h fn args = .ok (a, h')) (hl : LR η ρ args args'.toList) :
    Eff η P ρ B h w (callFunc f args') a h' := by
  have hG := p.glob
  have one : ∀ {x : Value}, args = [x] → ∃ x', args' = #[x'] ∧ VR η ρ x x' := by
    intro x e; subst e
    obtain ⟨x', m, hm, hx, hm'⟩ := hl.inv_cons
    have := hm'.inv_nil; subst this
    exact ⟨x', by rw [← Array.toArray_toList (xs := args'), hm], hx⟩
  have two : ∀ {x y : Value}, args = [x, y] → ∃ x' y', args' = #[x', y'] ∧ VR η ρ x x' ∧ VR η ρ y y' := by
    intro x y e; subst e
    obtain ⟨x', m, hm, hx, hm'⟩ := hl.inv_cons
    obtain ⟨y', m2, hm2, hy, hm2'⟩ := hm'.inv_cons
    have := hm2'.inv_nil; subst this; subst hm2
    exact ⟨x', y', by rw [← Array.toArray_toList (xs := args'), hm], hx, hy⟩
  have nx : (Extern.allNextRows.lookup "").isNone = true := by kernel_rfl
  have put : ∀ {n : String} {e : Array Value → Sem Value} {v x : Value}, fn.name = n → (Extern.allNextRows.lookup n).isNone = true → (Extern.allGenericRows.lookup n).isNone = true → (Extern.allTypedRows.lookup n).isNone = true → Extern.allRows.lookup n = some e → (e args').run P w = .ok x w → VR η ρ v x → Eff η P ρ B h w (callFunc f args') (.value v) h := by
    intro n e v x hn k1 k2 k3 k4 hr hv
    refine Eff.reader p ⟨x, ?_, hv⟩
    rw [run_callFunc_extern hf hnm hb (look_none hn ho k1 nx) (look_find hn k2 k3 k4), hr]
    rfl
  unfold reflectA at hc
  by_cases hn : fn.name = "internal/reflectlite.TypeOf"
  · rw [if_pos hn] at hc
    split at hc
    · obtain ⟨x', rfl, hx⟩ := one rfl
      have := hx.nilIface_inv; subst this
      rw [okk] at hc; injection hc with e1 e2; subst e1; subst e2
      exact put hn (by kernel_rfl) (by kernel_rfl) (by kernel_rfl) (e := Extern.ReflectliteType.typeOf) (by kernel_rfl) rfl .nilIface
    · rename_i t v
      obtain ⟨x', rfl, hx⟩ := one rfl
      obtain ⟨y, rfl, hy⟩ := hx.iface_inv
      simp only [bind_ok] at hc
      obtain ⟨u, hu, hc⟩ := hc
      rw [okk] at hc; injection hc with e1 e2; subst e1; subst e2
      obtain ⟨z, hz, hzv⟩ := rtypeA_ok (w := w) (η := η) hG hu
      exact put hn (by kernel_rfl) (by kernel_rfl) (by kernel_rfl) (e := Extern.ReflectliteType.typeOf) (by kernel_rfl) hz hzv
    · simp [no] at hc
  · rw [if_neg hn] at hc
    by_cases hn : fn.name = "(internal/reflectlite.rtype).Elem"
    · rw [if_pos hn] at hc
      split at hc
      · obtain ⟨x', rfl, hx⟩ := one rfl
        simp only [bind_ok] at hc
        obtain ⟨t, ht, o, hel, hc⟩ := hc
        have k1 := ofRtA_ok (w := w) hG ht hx
        have k2 := runR_ok (.elem _) hel w
        split at hc
        · rename_i e
          simp only [bind_ok] at hc
          obtain ⟨u, hu, hc⟩ := hc
          rw [okk] at hc; injection hc with e1 e2; subst e1; subst e2
          obtain ⟨z, hz, hzv⟩ := rtypeA_ok (w := w) (η := η) hG hu
          refine put hn (by kernel_rfl) (by kernel_rfl) (by kernel_rfl) (e := Extern.ReflectliteType.method Extern.ReflectliteType.elem) (by kernel_rfl) (x := z) ?_ hzv
          have e : ∀ g : TypeId → Sem Value, Extern.ReflectliteType.method g #[x'] = (do g (← Extern.ReflectliteType.ofRtype x')) := fun _ => rfl
          rw [e]
          simp only [Extern.ReflectliteType.elem, Sem.run_bind, k1, k2, Result.andThen_ok, hz]
        · simp [no] at hc
      · simp [no] at hc
    · rw [if_neg hn] at hc
      by_cases hn : fn.name = "(internal/reflectlite.rtype).Implements"
      · rw [if_pos hn] at hc
        split at hc
        · obtain ⟨x', y', rfl, hx, hy⟩ := two rfl
          obtain ⟨z, rfl, hz⟩ := hy.iface_inv
          simp only [bind_ok] at hc
          obtain ⟨c, hc1, d, hc2, b, hc3, hc⟩ := hc
          rw [okk] at hc; injection hc with e1 e2; subst e1; subst e2
          have k1 := ofRtA_ok (w := w) hG hc1 hz
          have k2 := ofRtA_ok (w := w) hG hc2 hx
          have k3 := runR_ok (.implements_ _ _) hc3 w
          refine put hn (by kernel_rfl) (by kernel_rfl) (by kernel_rfl) (e := Extern.ReflectliteType.relation "Implements" Extern.ReflectliteType.implements_) (by kernel_rfl) (x := .bool b) ?_ (.bool _)
          have e : ∀ (g : String) (r : TypeId → TypeId → Sem Bool) (T : TypeId), Extern.ReflectliteType.relation g r #[x', .iface T z] = (do pure (.bool (← r (← Extern.ReflectliteType.ofRtype z) (← Extern.ReflectliteType.ofRtype x')))) := fun _ _ _ => rfl
          rw [e]
          simp only [Sem.run_bind, k1, k2, k3, Result.andThen_ok, Sem.run_pure]
        · simp [no] at hc
      · rw [if_neg hn] at hc
        by_cases hn : fn.name = "(internal/reflectlite.rtype).AssignableTo"
        · rw [if_pos hn] at hc
          split at hc
          · obtain ⟨x', y', rfl, hx, hy⟩ := two rfl
            obtain ⟨z, rfl, hz⟩ := hy.iface_inv
            simp only [bind_ok] at hc
            obtain ⟨c, hc1, d, hc2, b, hc3, hc⟩ := hc
            rw [okk] at hc; injection hc with e1 e2; subst e1; subst e2
            have k1 := ofRtA_ok (w := w) hG hc1 hz
            have k2 := ofRtA_ok (w := w) hG hc2 hx
            have k3 := runR_ok (.assignable _ _) hc3 w
            refine put hn (by kernel_rfl) (by kernel_rfl) (by kernel_rfl) (e := Extern.ReflectliteType.relation "AssignableTo" Extern.ReflectliteType.assignableTo) (by kernel_rfl) (x := .bool b) ?_ (.bool _)
            have e : ∀ (g : String) (r : TypeId → TypeId → Sem Bool) (T : TypeId), Extern.ReflectliteType.relation g r #[x', .iface T z] = (do pure (.bool (← r (← Extern.ReflectliteType.ofRtype z) (← Extern.ReflectliteType.ofRtype x')))) := fun _ _ _ => rfl
            rw [e]
            simp only [Sem.run_bind, k1, k2, k3, Result.andThen_ok, Sem.run_pure]
          · simp [no] at hc
        · rw [if_neg hn] at hc
          by_cases hn : fn.name = "(*internal/abi.Type).Kind"
          · rw [if_pos hn] at hc
            split at hc
            · obtain ⟨x', rfl, hx⟩ := one rfl
              simp only [bind_ok] at hc
              obtain ⟨t, ht, u, hu, k, hk, hc⟩ := hc
              rw [okk] at hc; injection hc with e1 e2; subst e1; subst e2
              have k1 := (handA_ok (w := w) hG ht hx).2
              have k2 := runR_ok (.noPack _ _) hu w
              have k3 := runR_ok (.kind _) hk w
              refine put hn (by kernel_rfl) (by kernel_rfl) (by kernel_rfl) (e := Extern.ReflectliteType.abiMethod fun t => do pure (.int .u8 (← Extern.Rtype.kind t))) (by kernel_rfl) (x := .int .u8 k) ?_ (.int _ _)
              have e : ∀ g : TypeId → Sem Value, Extern.ReflectliteType.abiMethod g #[x'] = (do let t ← Extern.Rtype.ofHandle x'; Extern.Rtype.noPack "a method of abi.Type" t; g t) := fun _ => rfl
              rw [e]
              simp only [Sem.run_bind, k1, k2, k3, Result.andThen_ok, Sem.run_pure]
            · simp [no] at hc
          · rw [if_neg hn] at hc
            by_cases hn : fn.name = "(internal/reflectlite.rtype).Comparable"
            · rw [if_pos hn] at hc
              split at hc
              · obtain ⟨x', rfl, hx⟩ := one rfl
                simp only [bind_ok, infoA_ok] at hc
                obtain ⟨t, ht, u, hu, i, hi, hc⟩ := hc
                rw [okk] at hc; injection hc with e1 e2; subst e1; subst e2
                have k1 := ofRtA_ok (w := w) hG ht hx
                have k2 := runR_ok (.noPackHeld _ _) hu w
                refine put hn (by kernel_rfl) (by kernel_rfl) (by kernel_rfl) (e := Extern.ReflectliteType.method fun t => do Extern.Rtype.noPackHeld "Comparable" t; pure (.bool (← typeInfo t).comparable)) (by kernel_rfl) (x := .bool i.comparable) ?_ (.bool _)
                have e : ∀ g : TypeId → Sem Value, Extern.ReflectliteType.method g #[x'] = (do g (← Extern.ReflectliteType.ofRtype x')) := fun _ => rfl
                rw [e]
                simp only [Sem.run_bind, k1, k2, run_info hi, Result.andThen_ok, Sem.run_pure]
              · simp [no] at hc
            · rw [if_neg hn] at hc
              by_cases hn : fn.name = "internal/reflectlite.ValueOf"
              · rw [if_pos hn] at hc
                split at hc
                · rename_i t v
                  obtain ⟨x', rfl, hx⟩ := one rfl
                  obtain ⟨y, rfl, hy⟩ := hx.iface_inv
                  simp only [bind_ok] at hc
                  obtain ⟨u, hu, hc⟩ := hc
                  rw [okk] at hc; injection hc with e1 e2; subst e1; subst e2
                  have hle := Env.le_put (t := (w.heap.size, 0, y.cells.size)) (p.fresh h.next (Nat.le_refl _))
                  have hG' := hG.mono hle
                  obtain ⟨z, hz, hzv⟩ := mkVA_ok (w := wpush w (.cells y.cells t)) (η := η) (b := ⟨w.heap.size, 0, none⟩) hG' hu ⟨rfl, _, _, _, Env.put_at _ _ _, rfl⟩
                  refine ⟨ρ.put h.next (w.heap.size, 0, y.cells.size), wpush w (.cells y.cells t), ⟨z, ?_, hzv⟩, Post.new p (w' := wpush w (.cells y.cells t)) (ob := .cells y.cells t) ⟨rfl, rfl, rfl, rfl⟩ h.objs (fun _ _ hx => hx) ?_⟩
                  · rw [run_callFunc_extern hf hnm hb (look_none hn ho (by kernel_rfl) nx) (look_find hn (by kernel_rfl) (by kernel_rfl) (e := fun args => Extern.ReflectliteValue.unpack (args.getD 0 (.tuple #[]))) (by kernel_rfl))]
                    have e : Extern.ReflectliteValue.unpack (#[Value.iface t y].getD 0 (.tuple #[])) = (do Extern.ReflectliteValue.mk t (← newVar t y) 0) := rfl
                    rw [e]
                    simp only [Sem.run_bind, run_newVar, Result.andThen_ok, hz]
                  · exact CR.new ((hy.mono hle).cells hη)
                · simp [no] at hc
              · rw [if_neg hn] at hc
                by_cases hn : fn.name = "(internal/reflectlite.Value).Type"
                · rw [if_pos hn] at hc
                  split at hc
                  · obtain ⟨x', rfl, hx⟩ := one rfl
                    simp only [bind_ok] at hc
                    obtain ⟨⟨t, a', f'⟩, ht, u, hu, hc⟩ := hc
                    rw [okk] at hc; injection hc with e1 e2; subst e1; subst e2
                    obtain ⟨b, hb', k1, _⟩ := valA_ok (w := w) hG ht hx
                    obtain ⟨z, hz, hzv⟩ := rtypeA_ok (w := w) (η := η) hG hu
                    refine put hn (by kernel_rfl) (by kernel_rfl) (by kernel_rfl) (e := Extern.ReflectliteValue.methodAny (Extern.ReflectliteValue.valueError "reflectlite.Value.Type" 0) fun t _ _ _ => Extern.ReflectliteType.toType t) (by kernel_rfl) (x := z) ?_ hzv
                    have e : ∀ (g : Sem Value) (r : TypeId → Addr → Nat → Nat → Sem Value), Extern.ReflectliteValue.methodAny g r #[x'] = (do match ← Extern.ReflectliteValue.partsAny x' with | none => g | some (t, a, fl) => r t a fl (fl % 32)) := fun _ _ => rfl
                    rw [e]
                    simp only [Sem.run_bind, k1, Result.andThen_ok, hz]
                  · simp [no] at hc
                · rw [if_neg hn] at hc
                  by_cases hn : fn.name = "(internal/reflectlite.Value).IsNil"
                  · rw [if_pos hn] at hc
                    split at hc
                    · obtain ⟨x', rfl, hx⟩ := one rfl
                      simp only [bind_ok] at hc
                      obtain ⟨⟨t, a', f'⟩, ht, hc⟩ := hc
                      rw [ite_no] at hc
                      obtain ⟨hk, hc⟩ := hc
                      rw [Bool.not_eq_false] at hk
                      simp only [bind_ok] at hc
                      obtain ⟨u, hu, hc⟩ := hc
                      obtain ⟨b, hb', _, k1⟩ := valA_ok (w := w) hG ht hx
                      have k1 := k1 rfl
                      obtain ⟨z, hz, hzv⟩ := loadA_ok p.hr hu hb'
                      split at hc
                      · rw [okk] at hc; injection hc with e1 e2; subst e1; subst e2
                        have := hzv.ptr0_inv; subst this
                        refine put hn (by kernel_rfl) (by kernel_rfl) (by kernel_rfl) (e := Extern.ReflectliteValue.method (Extern.ReflectliteValue.valueError "reflectlite.Value.IsNil" 0) Extern.ReflectliteValue.isNil) (by kernel_rfl) (x := .bool true) ?_ (.bool _)
                        have e : ∀ (g : Sem Value) (r : TypeId → Addr → Nat → Nat → Sem Value), Extern.ReflectliteValue.method g r #[x'] = (do match ← Extern.ReflectliteValue.parts x' with | none => g | some (t, a, fl) => r t a fl (fl % 32)) := fun _ _ => rfl
                        rw [e]
                        simp only [Extern.ReflectliteValue.isNil, Sem.run_bind, k1, Result.andThen_ok, hk, Bool.not_true, Bool.false_eq_true, if_false, hz, Sem.run_pure]
                      · rw [okk] at hc; injection hc with e1 e2; subst e1; subst e2
                        obtain ⟨q, rfl, hq⟩ := hzv.ptr_inv
                        refine put hn (by kernel_rfl) (by kernel_rfl) (by kernel_rfl) (e := Extern.ReflectliteValue.method (Extern.ReflectliteValue.valueError "reflectlite.Value.IsNil" 0) Extern.ReflectliteValue.isNil) (by kernel_rfl) (x := .bool false) ?_ (.bool _)
                        have e : ∀ (g : Sem Value) (r : TypeId → Addr → Nat → Nat → Sem Value), Extern.ReflectliteValue.method g r #[x'] = (do match ← Extern.ReflectliteValue.parts x' with | none => g | some (t, a, fl) => r t a fl (fl % 32)) := fun _ _ => rfl
                        rw [e]
                        simp only [Extern.ReflectliteValue.isNil, Sem.run_bind, k1, Result.andThen_ok, hk, Bool.not_true, Bool.false_eq_true, if_false, hz, Sem.run_pure]
                      · simp [no] at hc
                    · simp [no] at hc
                  · rw [if_neg hn] at hc
                    by_cases hn : fn.name = "(internal/reflectlite.Value).Elem"
                    · rw [if_pos hn] at hc
                      split at hc
                      · obtain ⟨x', rfl, hx⟩ := one rfl
                        simp only [bind_ok] at hc
                        obtain ⟨⟨t, a', f'⟩, ht, hc⟩ := hc
                        rw [ite_no] at hc
                        obtain ⟨hk, hc⟩ := hc
                        have hk : f' % 32 = 22 := by simpa using hk
                        simp only [bind_ok] at hc
                        obtain ⟨u, hu, o, hel, hc⟩ := hc
                        obtain ⟨b, hb', _, k1⟩ := valA_ok (w := w) hG ht hx
                        have k1 := k1 rfl
                        obtain ⟨z, hz, hzv⟩ := loadA_ok p.hr hu hb'
                        have k2 := runR_ok (.elem _) hel w
                        split at hc
                        · simp only [bind_ok] at hc
                          obtain ⟨v2, hv2, hc⟩ := hc
                          rw [okk] at hc; injection hc with e1 e2; subst e1; subst e2
                          obtain ⟨q, rfl, hq⟩ := hzv.ptr_inv
                          obtain ⟨z2, hz2, hzv2⟩ := mkVA_ok (w := w) (η := η) hG hv2 hq
                          refine put hn (by kernel_rfl) (by kernel_rfl) (by kernel_rfl) (e := Extern.ReflectliteValue.method (Extern.ReflectliteValue.valueError "reflectlite.Value.Elem" 0) Extern.ReflectliteValue.elem) (by kernel_rfl) (x := z2) ?_ hzv2
                          have e : ∀ (g : Sem Value) (r : TypeId → Addr → Nat → Nat → Sem Value), Extern.ReflectliteValue.method g r #[x'] = (do match ← Extern.ReflectliteValue.parts x' with | none => g | some (t, a, fl) => r t a fl (fl % 32)) := fun _ _ => rfl
                          rw [e]
                          simp only [Extern.ReflectliteValue.elem, Sem.run_bind, k1, Result.andThen_ok, hk]
                          rw [if_neg (by decide)]
                          simp only [Sem.run_bind, hz, k2, Result.andThen_ok]
                          exact hz2
                        · simp [no] at hc
                      · simp [no] at hc
                    · rw [if_neg hn] at hc
                      by_cases hn : fn.name = "(internal/reflectlite.Value).Set"
                      · rw [if_pos hn] at hc
                        split at hc
                        · obtain ⟨x', y', rfl, hx, hy⟩ := two rfl
                          simp only [bind_ok] at hc
                          obtain ⟨⟨t, a', f'⟩, ht, ⟨t2, a2, f2⟩, ht2, hc⟩ := hc
                          rw [ite_no] at hc
                          obtain ⟨hk, hc⟩ := hc
                          simp only [bind_ok] at hc
                          obtain ⟨u, hu, bb, hbb, hc⟩ := hc
                          rw [ite_no] at hc
                          obtain ⟨hbt, hc⟩ := hc
                          rw [Bool.not_eq_false] at hbt
                          subst hbt
                          simp only [bind_ok] at hc
                          obtain ⟨h2, hst, hc⟩ := hc
                          rw [okk] at hc; injection hc with e1 e2; subst e1; subst e2
                          obtain ⟨b, hb', _, k1⟩ := valA_ok (w := w) hG ht hx
                          obtain ⟨b2, hb2', _, k2⟩ := valA_ok (w := w) hG ht2 hy
                          have k1 := k1 rfl
                          have k2 := k2 rfl
                          obtain ⟨z, hz, hzv⟩ := loadA_ok p.hr hu hb2'
                          have k3 := runR_ok (.direct _ _) hbb w
                          simp only [storeA, bind_ok] at hst
                          obtain ⟨n, hn2, hst⟩ := hst
                          rw [ite_no] at hst
                          obtain ⟨hlen, hst⟩ := hst
                          have hcl := hzv.cells hη
                          obtain ⟨w', hw', hp⟩ := storeC_ok (P := P) hη p hst hb' hcl
                          have hsz : z.cells.size = n := by
                            have e1 := hcl.len
                            have e2 : z.cells.size = z.cells.toList.length := rfl
                            omega
                          refine ⟨ρ, w', ⟨.tuple #[], ?_, .tup' .nil⟩, hp⟩
                          rw [run_callFunc_extern hf hnm hb (look_none hn ho (by kernel_rfl) nx) (look_find hn (by kernel_rfl) (by kernel_rfl) (e := Extern.ReflectliteValue.set) (by kernel_rfl))]
                          have e : Extern.ReflectliteValue.set #[x', y'] = (do
                            let (some (dst, a, fl), some (src, b, _)) := (← Extern.ReflectliteValue.parts x', ← Extern.ReflectliteValue.parts y')
                              | unsupported (.noEntry "extern/(internal/reflectlite.Value).Set.zeroValue")
                            if fl / Extern.ReflectliteValue.flagAddr % 2 == 0 then unsupported (.noEntry "extern/(internal/reflectlite.Value).Set.unaddressable")
                            let val ← loadVar src b
                            if ← Extern.Rtype.directlyAssignable dst src then storeVar dst a val
                            else if ← Extern.Rtype.implements dst src then
                              if (← Extern.Rtype.kind src) == 20 then
                                match val with
                                | .nilIface => unsupported (.noEntry "extern/reflectlite: a nil value of one interface type handed on as a value of another")
                                | _ => storeVar dst a val
                              else storeVar dst a (.iface src val)
                            else panicString ("reflectlite.Set: value of type " ++ (← Extern.Rtype.spelt src) ++ " is not assignable to type " ++ (← Extern.Rtype.spelt dst))
                            pure (.tuple #[])) := rfl
                          have hfl : (f' / Extern.ReflectliteValue.flagAddr % 2 == 0) = false := by
                            unfold Extern.ReflectliteValue.flagAddr
                            cases hq : f' / 256 % 2 == 0 with
                            | false => rfl
                            | true => exact absurd (beq_iff_eq.1 hq) hk
                          rw [e]
                          simp only [Sem.run_bind, k1, k2, Result.andThen_ok, hfl, Bool.false_eq_true, if_false, hz, k3, if_true, storeVar, run_size hn2, Sem.run_pure]
                          rw [if_neg (by omega)]
                          simp only [Sem.run_bind, hw', Result.andThen_ok, Sem.run_pure]
                        · simp [no] at hc
                      · rw [if_neg hn] at hc; simp [no] at hc
theorem run_lb {l vs : List Value} (hl : LR η ρ l vs) : ∀ {bs : List UInt8}, bytesOf l = .ok bs → ∀ (a : Addr) (acc : ByteArray), a.spot = none → (∀ (j : Nat) (v : Value), vs[j]? = some v → w.cell? (a.add j) = some v) → (Extern.Bytes.loadBytes a l.length acc).run P w = .ok ⟨⟨acc.data.toList ++ bs⟩⟩ w := by
  induction l generalizing vs with
  | nil =>
    intro bs hb a acc _ _
    simp only [bytesOf, okk] at hb; subst hb
    simp only [List.length_nil, Extern.Bytes.loadBytes, Sem.run_pure, List.append_nil]
  | cons v l ih =>
    intro bs hb a acc ha hc
    obtain ⟨x, m, rfl, hx, hm⟩ := hl.inv_cons
    unfold bytesOf at hb
    split at hb
    · rename_i e; cases e
    · rename_i n r e
      injection e with e1 e2; subst e1; subst e2
      have := hx.int_inv; subst this
      split at hb
      · rename_i l' hl'
        rw [okk] at hb; subst hb
        have h0 := hc 0 _ rfl
        have hz : a.add 0 = a := by simp [Addr.add]
        rw [hz] at h0
        have k := ih hm hl' (a.add 1) (acc.push n.toNat.toUInt8) (by rw [add_eq ha]) (fun j v hj => by
          have := hc (j + 1) v (by simpa using hj)
          rw [add_eq ha, add_eq rfl]
          rw [add_eq ha] at this
          rw [show a.off + 1 + j = a.off + (j + 1) by omega]; exact this)
        simp only [List.length_cons, Extern.Bytes.loadBytes, Sem.run_bind, run_load, h0, Result.andThen_ok]
        rw [k]
        congr 1
        apply byteArray_ext
        simp [ByteArray.push]
      · cases hb
    · simp [no] at hb
theorem run_indexByte_any {x : Value} {s : ByteArray} {c : Int} (hb : (Extern.Bytes.bytesOf x).run P w = .ok s w) : (Extern.BytealgIndexByte.indexByte #[x, .int .u8 c]).run P w = .ok (.int .i64 (firstIdx s c.toNat.toUInt8)) w := by
  change Sem.run P (do
    let b ← Extern.Bytes.bytesOf x
    let c' ← Extern.Bytes.asByte (.int .u8 c)
    match (List.range b.size).find? fun i => b[i]! == c' with
    | some i => pure (goInt i)
    | none => pure (goInt (-1))) w = _
  simp only [Sem.run_bind, hb, Extern.Bytes.asByte, firstIdx, Sem.run_pure, Result.andThen]
  generalize (List.range s.size).find? (fun i => s[i]! == c.toNat.toUInt8) = r
  cases r <;> rfl
theorem externA_ok (hη : OneCells η) (p : Pre η P ρ B h w) {f : FuncId} {fn : Func} {args : List Value} {args' : Array Value} {a : AN} {h' : AH} (hf : P.funcs[f]? = some fn) (hnm : (fn.name == "runtime.NumGoroutine") = false) (hb : fn.body.isNone = true) (hc : externA P h fn args = .ok (a, h')) (hl : LR η ρ args args'.toList) :
    Eff η P ρ B h w (callFunc f args') a h' := by
  have one : ∀ {x : Value}, args = [x] → ∃ x', args' = #[x'] ∧ VR η ρ x x' := by
    intro x e; subst e
    obtain ⟨x', m, hm, hx, hm'⟩ := hl.inv_cons
    have := hm'.inv_nil; subst this
    exact ⟨x', by rw [← Array.toArray_toList (xs := args'), hm], hx⟩
  have two : ∀ {x y : Value}, args = [x, y] → ∃ x' y', args' = #[x', y'] ∧ VR η ρ x x' ∧ VR η ρ y y' := by
    intro x y e; subst e
    obtain ⟨x', m, hm, hx, hm'⟩ := hl.inv_cons
    obtain ⟨y', m2, hm2, hy, hm2'⟩ := hm'.inv_cons
    have := hm2'.inv_nil; subst this; subst hm2
    exact ⟨x', y', by rw [← Array.toArray_toList (xs := args'), hm], hx, hy⟩
  unfold externA at hc
  rw [ite_no] at hc
  obtain ⟨ho, hc⟩ := hc
  rw [Bool.not_eq_false] at ho
  have nx : (Extern.allNextRows.lookup "").isNone = true := by kernel_rfl
  split at hc
  · rename_i hn
    split at hc
    · rename_i x
      obtain ⟨x', rfl, hx⟩ := one rfl
      rw [okk] at hc; injection hc with e1 e2; subst e1; subst e2
      refine Eff.reader p ⟨x', ?_, hx⟩
      rw [run_callFunc_extern hf hnm hb (look_none hn ho (by kernel_rfl) nx) (look_find hn (by kernel_rfl) (by kernel_rfl) (e := Extern.AbiNoEscape.same) (by rfl))]
      rfl
    · simp [no] at hc
  · split at hc
    · rename_i hn
      split at hc
      · rename_i s c
        obtain ⟨x', y', rfl, hx, hy⟩ := two rfl
        have := hx.string_inv; have := hy.int_inv; subst_vars
        rw [okk] at hc; injection hc with e1 e2; subst e1; subst e2
        refine Eff.reader p ⟨_, ?_, .int _ _⟩
        rw [run_callFunc_extern hf hnm hb (look_none hn ho (by kernel_rfl) nx) (look_find hn (by kernel_rfl) (by kernel_rfl) (e := Extern.BytealgIndexByte.indexByte) (by rfl))]
        rw [run_indexByte_string]; rfl
      · simp [no] at hc
    · split at hc
      · rename_i hn
        split at hc
        · rename_i ad n c0 c
          simp only [bind_ok] at hc
          obtain ⟨cs, hcs, bs, hbs, hc⟩ := hc
          rw [okk] at hc; injection hc with e1 e2; subst e1; subst e2
          obtain ⟨x', y', rfl, hx, hy⟩ := two rfl
          have := hy.int_inv; subst this
          obtain ⟨a', c', rfl, hcc⟩ := hx.slice_inv3 (.inl rfl)
          obtain ⟨q, rfl, hq⟩ : ∃ q, a' = some q ∧ AdR ρ ad q := by
            rcases hcc with ⟨e, _⟩ | ⟨_, q, e, e', hq, _⟩ | ⟨_, q, _, _, _, _, e, e', hq, _⟩
            · cases e
            · cases e; exact ⟨q, e', hq⟩
            · cases e; exact ⟨q, e', hq⟩
          obtain ⟨vs, h1, h2, h3⟩ := getC_ok p.hr hcs hq
          obtain ⟨_, n', blk, d', h5, rfl⟩ := hq
          have hlen : cs.length = n := by rw [← h2, h1.len]
          have hlb := run_lb (P := P) (w := w) h1 hbs ⟨blk, d' + ad.off, none⟩ .empty rfl h3
          rw [hlen] at hlb
          refine Eff.reader p ⟨_, ?_, .int _ _⟩
          rw [run_callFunc_extern hf hnm hb (look_none hn ho (by kernel_rfl) nx) (look_find hn (by kernel_rfl) (by kernel_rfl) (e := Extern.BytealgIndexByte.indexByte) (by rfl))]
          have hbo : (Extern.Bytes.bytesOf (.slice (some ⟨blk, d' + ad.off, none⟩) n c')).run P w = .ok ⟨⟨bs⟩⟩ w := by
            show (Extern.Bytes.loadBytes ⟨blk, d' + ad.off, none⟩ n .empty).run P w = _
            rw [hlb]; rfl
          rw [run_indexByte_any hbo]; rfl
        · simp [no] at hc
      · split at hc
        · rename_i hn
          split at hc
          · rename_i s c
            obtain ⟨x', y', rfl, hx, hy⟩ := two rfl
            have := hx.string_inv; have := hy.int_inv; subst_vars
            rw [okk] at hc; injection hc with e1 e2; subst e1; subst e2
            refine Eff.reader p ⟨_, ?_, .int _ _⟩
            rw [run_callFunc_extern hf hnm hb (look_none hn ho (by kernel_rfl) nx) (look_find hn (by kernel_rfl) (by kernel_rfl) (e := Extern.BytealgCount.count) (by rfl))]
            rfl
          · simp [no] at hc
        · split at hc
          · rename_i hn
            split at hc
            · rename_i n t hres
              simp only [bind_ok, undA_ok] at hc
              obtain ⟨d, hd, hc⟩ := hc
              split at hc
              · rename_i e
                rw [ite_no, okk] at hc
                obtain ⟨hr, hc⟩ := hc
                injection hc with e1 e2; subst e1; subst e2
                have hargs : args' = #[.int .i64 n] := by
                  obtain ⟨x', h1, h2⟩ := one rfl
                  rw [h1, h2.int_inv]
                subst hargs
                have hr0 : fn.resultTypes[0]? = some t := by rw [← Array.getElem?_toList, hres]; rfl
                generalize hq : (Question.appendCap n.toNat 0 e).cut (w.tape w.drawn (Question.appendCap n.toNat 0 e)) = cap
                have hcap : n.toNat ≤ cap := by rw [← hq]; simp only [Question.cut]; omega
                have hcb : cap < capB := by
                  rw [← hq]; simp only [Question.cut]; unfold capB
                  have := Nat.mod_lt (w.tape w.drawn (Question.appendCap n.toNat 0 e)) (show 0 < 2 ^ 63 - n.toNat by omega)
                  omega
                have hch : (choose (.appendCap n.toNat 0 e)).run P w = .ok cap { w with drawn := w.drawn + 1 } := by
                  rw [run_choose, hq]; simp [Question.forced]
                obtain ⟨by_, w2, hch2, hw2h, hw2o, hw2t, hw2p⟩ : ∃ by_ w2, (choose (.extern "internal/bytealg.MakeNoZero.bytes" 0)).run P { w with drawn := w.drawn + 1 } = .ok by_ w2 ∧ w2.heap = w.heap ∧ w2.os = w.os ∧ w2.tape = w.tape ∧ w2.output = w.output := by
                  rw [run_choose]
                  simp only [Question.forced]
                  exact ⟨_, _, rfl, rfl, rfl, rfl, rfl⟩
                obtain ⟨C, hC⟩ : ∃ C : Array Value, Extern.BytealgMakeNoZero.digits cap by_ #[] = C := ⟨_, rfl⟩
                have hCs : C.size = cap := by rw [← hC, digits_len]; simp
                have hrun : (Extern.BytealgMakeNoZero.makeNoZero fn.params fn.resultTypes #[.int .i64 n]).run P w = .ok (.slice (some ⟨w.heap.size, 0, none⟩) n.toNat cap) (wpush w2 (.cells C e)) := by
                  have hdef : Extern.BytealgMakeNoZero.makeNoZero fn.params fn.resultTypes #[.int .i64 n] = (do
                    let some t := fn.resultTypes[0]? | stuck "bytealg.MakeNoZero: no result type"
                    let .slice elem ← underlying t | stuck "bytealg.MakeNoZero: slice type expected"
                    if n < 0 || n > 2 ^ 48 then runtimePanic (.error "makeslice: len out of range")
                    let cap ← choose (.appendCap n.toNat 0 elem)
                    askRoom cap
                    let bytes ← choose (.extern "internal/bytealg.MakeNoZero.bytes" 0)
                    let a ← newRow elem (Extern.BytealgMakeNoZero.digits cap bytes #[])
                    pure (.slice (some a) n.toNat cap)) := rfl
                  rw [hdef, hr0]
                  simp only [Sem.run_bind, run_und hd, Result.andThen_ok]
                  rw [if_neg (by simp only [Bool.or_eq_true, decide_eq_true_eq]; omega)]
                  simp only [Sem.run_bind, Sem.run_pure, hch, run_askRoom, hch2, Result.andThen_ok, hC, run_newRow, hw2h]
                have hle := Env.le_put (t := (w.heap.size, 0, cap)) (p.fresh h.next (Nat.le_refl _))
                refine ⟨ρ.put h.next (w.heap.size, 0, cap), wpush w2 (.cells C e), ⟨.slice (some ⟨w.heap.size, 0, none⟩) n.toNat cap, ?_, ?_⟩, Post.new p (w' := wpush w2 (.cells C e)) (ob := .cells C e) ⟨(show (w2.heap.push (.cells C e)) = w.heap.push (.cells C e) by rw [hw2h]), hw2o, hw2t, hw2p⟩ h.objs (fun _ _ hx => hx) ?_⟩
                · rw [run_callFunc_extern hf hnm hb (look_none hn ho (by kernel_rfl) nx) (look_typed hn (by kernel_rfl) (e := Extern.BytealgMakeNoZero.makeNoZero) (by rfl)), hrun]
                  rfl
                · have := VR.sliceU (η := η) (ρ := ρ.put h.next (w.heap.size, 0, cap)) (o := 0) n.toNat 1 cap (Env.put_at _ _ _) (by omega) (by omega) hcap hcb
                  exact this
                · refine ⟨C, e, 0, 0, rfl, ⟨rfl, ?_, by simp, fun i v hv => by simp at hv, (fun h => absurd h (by decide)), (fun _ i _ hh => by omega)⟩⟩
                  have : C.toList.length = C.size := rfl
                  omega
              · simp [no] at hc
            · simp [no] at hc
          · exact reflectA_ok hη p hf hnm hb ho hc hl
theorem callF_ok (hη : OneCells η) (p : Pre η P ρ B h w) {f : FuncId} {args : List Value} {args' : Array Value} {a : AN} {h' : AH} (hc : callF P h f args = .ok (a, h')) (hl : LR η ρ args args'.toList) : Eff η P ρ B h w (callFunc f args') a h' := by
  unfold callF at hc
  split at hc
  · simp [no] at hc
  · rename_i fn hfn
    rw [ite_no] at hc
    obtain ⟨hnm, hc⟩ := hc
    have hb2 : (fn.name == "runtime.NumGoroutine") = false := by cases h : fn.name == "runtime.NumGoroutine" <;> simp_all
    split at hc
    · rename_i hb
      exact externA_ok hη p hfn hb2 hb hc hl
    · rename_i hb
      rw [okk] at hc; injection hc with e1 e2; subst e1; subst e2
      have hb1 : fn.body.isNone = false := by rw [Bool.not_eq_true] at hb; exact hb
      refine Eff.reader p ⟨args', ?_, hl⟩
      simp only [callFunc, Sem.run_bind, run_program, Result.andThen_ok, hfn, hb1, hb2, Bool.false_eq_true, if_false, Sem.run_pure]
theorem callMeth_ok (hη : OneCells η) (p : Pre η P ρ B h w) {recv recv' : Value} {name : String} {args : List Value} {args' : Array Value} {a : AN} {h' : AH} (hc : callMeth P h recv name args = .ok (a, h')) (hr : VR η ρ recv recv') (hl : LR η ρ args args'.toList) :
    Eff η P ρ B h w (callMethod recv' name args') a h' := by
  unfold callMeth at hc
  split at hc
  · obtain ⟨u, rfl, hu⟩ := hr.iface_inv
    simp only [bind_ok] at hc
    obtain ⟨⟨f, r⟩, hm, hc⟩ := hc
    obtain ⟨r', hr', hrr⟩ := methodA_ok p.hr hm hu
    obtain ⟨ρ', w', k1, k2⟩ := callF_ok hη p (args' := #[r'] ++ args') hc (by simpa using LR.cons hrr hl)
    exact ⟨ρ', w', by simp only [callMethod, Sem.run_bind, run_program, Result.andThen_ok, hr']; exact k1, k2⟩
  · simp [no] at hc
theorem putParams_ok : ∀ {ps : List Tmp} {args args' : List Value} {tm tm2 : T Value} {n : Nat} {tmps : Array Value}, putParams n ps args tm = .ok tm2 → LR η ρ args args' → TR η ρ tm n tmps →
    TR η ρ tm2 n ((ps.zip args').foldl (fun tmps (x : Tmp × Value) => tmps.setIfInBounds x.1 x.2) tmps)
  | [], args, args', tm, tm2, n, tmps, hp, hl, ht => by
    cases args <;> (simp only [putParams, okk] at hp; subst hp; simpa using ht)
  | t :: ps, [], args', tm, tm2, n, tmps, hp, hl, ht => by
    have := hl.inv_nil; subst this
    simp only [putParams, okk] at hp; subst hp
    simpa using ht
  | t :: ps, v :: vs, args', tm, tm2, n, tmps, hp, hl, ht => by
    obtain ⟨x, m, rfl, hx, hm⟩ := hl.inv_cons
    simp only [putParams] at hp
    rw [ite_no'] at hp
    obtain ⟨hlt, hp⟩ := hp
    rw [List.zip_cons_cons, List.foldl_cons]
    refine putParams_ok hp hm ⟨by simp [ht.1], ?_, ?_⟩
    · intro s hs
      rw [T.get_set, if_neg (fun e => by subst e; exact absurd hlt (Nat.not_lt.2 hs))]
      exact ht.2.1 s hs
    · intro s hs
      rw [T.get_set]
      by_cases e : s = t
      · subst e
        rw [if_pos rfl]
        have hsz : s < tmps.size := by rw [ht.1]; exact hs
        simp only [Option.getD_some]
        rw [Array.getD_eq_getD_getElem?, Array.getElem?_setIfInBounds_self_of_lt hsz]
        exact hx
      · rw [if_neg e]
        rw [Array.getD_eq_getD_getElem?, Array.getElem?_setIfInBounds_ne (fun h => e h.symm), ← Array.getD_eq_getD_getElem?]
        exact ht.2.2 s hs
theorem freeze_eq {b off n lo hi : Nat} {C : Array Value} {ty : TypeId} (hb : w.heap[b]? = some (.cells C ty (lo, hi))) (hn : n ≠ 0) :
    w.freeze ⟨b, off, none⟩ n = wput w b (.cells C ty (if lo == hi then (off, off + n) else (min lo off, max hi (off + n)))) := by
  unfold World.freeze wput
  rw [if_neg hn]
  congr 1
  apply Array.ext_getElem?
  intro k
  rw [Array.getElem?_modify, Array.getElem?_setIfInBounds]
  by_cases h : b = k
  · subst h
    rw [if_pos rfl, if_pos rfl, hb, if_pos (heap_lt hb)]
    rfl
  · rw [if_neg h, if_neg h]
theorem bytesOf_cells : ∀ {l : List Value} {bs : List UInt8} {vs : List Value}, bytesOf l = .ok bs → LR η ρ l vs → bs.length = l.length ∧ ∀ (j : Nat) (u : UInt8), bs[j]? = some u → ∃ n, vs[j]? = some (.int .u8 n) ∧ u = UInt8.ofNat n.toNat
  | [], bs, vs, hb, hl => by simp only [bytesOf, okk] at hb; subst hb; exact ⟨rfl, fun j u h => by simp at h⟩
  | v :: l, bs, vs, hb, hl => by
    obtain ⟨x, m, rfl, hx, hm⟩ := hl.inv_cons
    unfold bytesOf at hb
    split at hb
    · rename_i e; cases e
    · rename_i n r e
      injection e with e1 e2; subst e1; subst e2
      have := hx.int_inv; subst this
      split at hb
      · rename_i l' hl'
        rw [okk] at hb; subst hb
        obtain ⟨i1, i2⟩ := bytesOf_cells hl' hm
        refine ⟨by simp [i1], fun j u hj => ?_⟩
        cases j with
        | zero => simp at hj; subst hj; exact ⟨n, rfl, rfl⟩
        | succ j => simp at hj; simpa using i2 j u hj
      · cases hb
    · simp [no] at hb
end
end Go.Ev

namespace Go.Ev
set_option linter.unusedVariables false
set_option linter.unusedSimpArgs false
variable {η : Nat → Value}
section
variable {P : Program} {ρ : Env} {B : Bd} {h : AH} {w : World}
theorem add_add {a : Addr} (h : a.spot = none) (i j : Nat) : (a.add i).add j = a.add (i + j) := by
  rw [add_eq h, add_eq rfl, add_eq h, Nat.add_assoc]
theorem run_loadBytes' : ∀ (bs : List UInt8) (vs : List Value) (a : Addr) (acc : ByteArray), a.spot = none → (∀ (j : Nat) (u : UInt8), bs[j]? = some u → ∃ n : Int, vs[j]? = some (Value.int .u8 n) ∧ u = UInt8.ofNat n.toNat) → (∀ (j : Nat) (v : Value), vs[j]? = some v → w.cell? (a.add j) = some v) →
    (loadBytes a acc bs.length).run P w = .ok ⟨⟨acc.data.toList ++ bs⟩⟩ w
  | [], vs, a, acc, _, _, _ => by
    simp only [List.length_nil, loadBytes, Sem.run_pure, List.append_nil]
  | u :: bs, vs, a, acc, ha, hb, hc => by
    obtain ⟨n, hn, hu⟩ := hb 0 u rfl
    have h0 := hc 0 _ hn
    have hz : a.add 0 = a := by simp [Addr.add]
    rw [hz] at h0
    have ih := run_loadBytes' bs (vs.drop 1) (a.add 1) (acc.push n.toNat.toUInt8) (by rw [add_eq ha]) (fun j x hj => by
      obtain ⟨m, hm, hx⟩ := hb (j + 1) x (by simpa using hj)
      exact ⟨m, by rw [List.getElem?_drop, Nat.add_comm]; exact hm, hx⟩) (fun j v hj => by
      rw [List.getElem?_drop] at hj
      have := hc _ v hj
      rw [add_add ha]; exact this)
    simp only [List.length_cons, loadBytes, Sem.run_bind, run_load, h0, Result.andThen_ok]
    rw [ih]
    congr 1
    apply byteArray_ext
    simp [ByteArray.push, hu]
theorem unsafeS_ok (p : Pre η P ρ B h w) {pt : TypeId} {ts : List TypeId} {type : TypeId} {a : Addr} {q : Addr} {lk : IntKind} {n : Int} {v : AN} {h' : AH} (hq : AdR ρ a q) (h0 : ¬ (n < 0 ∨ n > 1000000)) (hn0 : ¬ n = 0)
    (hs : (do
      let (ty, c, _, own) ← cellsAt h a.block
      if own = 0 then no "unsafe.String: not own" else
      match ← undA P pt, P.underlying ty with
      | .pointer e, some (.int .u8) =>
        if e ≠ ty ∨ P.cellsOf ty ≠ 1 then no "unsafe.String: type" else do
        let l ← bytesOf (← getC h a n.toNat)
        .ok (.value (strL l), putA h a.block (.cells ty c false 1))
      | _, _ => no "unsafe.String: type" : M (AN × AH)) = .ok (v, h')) :
    ∃ l w', v = .value (strL l) ∧ (Builtin.unsafeString_ ⟨pt :: ts⟩ type #[.pointer (some q), .int lk n]).run P w = .ok (strL l) w' ∧ Post η ρ B h w ρ h' w' := by
  simp only [bind_ok] at hs
  obtain ⟨⟨ty, c, pl, own⟩, hcell, hs⟩ := hs
  simp only [ite_no] at hs
  obtain ⟨hown, hs⟩ := hs
  simp only [bind_ok, undA_ok] at hs
  obtain ⟨d, hd, hs⟩ := hs
  split at hs
  · rename_i e hty
    simp only [ite_no] at hs
    obtain ⟨hes, hs⟩ := hs
    simp only [not_or, Decidable.not_not] at hes
    obtain ⟨rfl, hc1⟩ := hes
    simp only [bind_ok] at hs
    obtain ⟨l, hl, bs, hb, hs⟩ := hs
    rw [okk] at hs; injection hs with e1 e2; subst e1; subst e2
    have hg := cellsAt_ok.1 hcell
    simp only [] at hg
    obtain ⟨b, dd, nn, C, lo, hi, h1, h2, h3, h4⟩ := p.hr.cells hg
    obtain ⟨vs, k1, k2, k3⟩ := getC_ok p.hr hl hq
    obtain ⟨hsp, n', b', d', h5, rfl⟩ := hq
    rw [h1] at h5; cases h5
    obtain ⟨m1, m2⟩ := bytesOf_cells hb k1
    have hbl : bs.length = n.toNat := by rw [m1, k1.len, k2]
    have hload := run_loadBytes' (P := P) (w := w) bs vs ⟨b, dd + a.off, none⟩ .empty rfl m2 k3
    rw [hbl] at hload
    have hsz : C.toList.length = dd + nn := h3.size
    have hcl : c.length ≤ nn := h3.len
    -- the cells are there
    have hin : a.off + n.toNat ≤ c.length := by
      unfold getC at hl
      rw [hcell] at hl
      simp only [ite_no'] at hl
      exact hl.1.1
    have hCs : C.size = dd + nn := hsz
    have hlies := liesAt_off (P := P) hc1 (C.size / P.cellsOf e) (dd + a.off) n.toNat (by rw [hc1, Nat.div_one]; omega)
    refine ⟨bs, wput w b (.cells C e (if lo == hi then (dd + a.off, dd + a.off + n.toNat) else (min lo (dd + a.off), max hi (dd + a.off + n.toNat)))), rfl, ?_, ?_⟩
    · have hdef : Builtin.unsafeString_ ⟨pt :: ts⟩ type #[.pointer (some ⟨b, dd + a.off, none⟩), .int lk n] =
        (do
          let n ← asInt (.int lk n)
          if n < 0 then runtimePanic (.error "unsafe.String: len out of range")
          if n > IntKind.i64.max then unsupported (.unsafePointer "String: a length above the largest int")
          if n = 0 then pure (.string .empty)
          else if ← variablesAt ⟨b, dd + a.off, none⟩ (← elemOf pt) n.toNat then do
            let s ← loadBytes ⟨b, dd + a.off, none⟩ .empty n.toNat
            freeze ⟨b, dd + a.off, none⟩ n.toNat
            pure (.string s)
          else unsupported (.unsafePointer "String: not so many bytes at ptr")) := rfl
      rw [hdef]
      have hmax : IntKind.i64.max = 9223372036854775807 := by decide
      have hsh : w.shape? b = some (e, C.size) := by simp only [World.shape?, h2]
      simp only [asInt, Sem.run_bind, run_asIntOf, Sem.run_pure, Result.andThen_ok, hmax]
      rw [if_neg (by omega)]
      rw [if_neg (by omega)]
      rw [if_neg hn0]
      have hel : (elemOf pt).run P w = .ok e w := by simp only [elemOf, Sem.run_bind, run_und hd, Result.andThen_ok, Sem.run_pure]
      have hva : (variablesAt ⟨b, dd + a.off, none⟩ e n.toNat).run P w = .ok true w := by
        simp only [variablesAt, Sem.run_bind, run_program, Result.andThen_ok, run_shape, hsh, Sem.run_pure, hlies]
      simp only [Sem.run_bind, hel, Result.andThen_ok, hva, if_true, hload, run_freeze, Sem.run_pure]
      rw [freeze_eq h2 (by omega)]
      rfl
    · refine Post.put p hg ?_ h1 rfl ⟨C, e, _, _, rfl, ⟨rfl, hsz, hcl, h3.at_, (fun h => by cases h), (fun h => by cases h)⟩⟩
      simp [ownO, hown]
  · simp [no] at hs
theorem two_args {a b : Value} {args' : Array Value} (h : LR η ρ [a, b] args'.toList) : ∃ a' b', args' = #[a', b'] ∧ VR η ρ a a' ∧ VR η ρ b b' := by
  obtain ⟨a', m1, hm1, ha, hr1⟩ := h.inv_cons
  obtain ⟨b', m2, hm2, hb, hr2⟩ := hr1.inv_cons
  have := hr2.inv_nil; subst this; subst hm2
  exact ⟨a', b', by rw [← Array.toArray_toList (xs := args'), hm1], ha, hb⟩
theorem one_arg {a : Value} {args' : Array Value} (h : LR η ρ [a] args'.toList) : ∃ a', args' = #[a'] ∧ VR η ρ a a' := by
  obtain ⟨a', m1, hm1, ha, hr1⟩ := h.inv_cons
  have := hr1.inv_nil; subst this
  exact ⟨a', by rw [← Array.toArray_toList (xs := args'), hm1], ha⟩
theorem Eff.val {s : Sem Value} {v : Value} {h' : AH} (hh : ∃ ρ' x w', s.run P w = .ok x w' ∧ VR η ρ' v x ∧ Post η ρ B h w ρ' h' w') : Eff η P ρ B h w (do pure (.value (← s))) (.value v) h' := by
  obtain ⟨ρ', x, w', h1, h2, h3⟩ := hh
  exact ⟨ρ', w', ⟨x, by simp only [Sem.run_bind, h1, Result.andThen_ok, Sem.run_pure], h2⟩, h3⟩
theorem builtinA_ok (hη : OneCells η) (p : Pre η P ρ B h w) {b : Builtin} {ts : Array TypeId} {type : TypeId} {cs : Array Bool} {args : List Value} {args' : Array Value} {a : AN} {h' : AH} (hb : builtinA P h b ts.toList args = .ok (a, h')) (hl : LR η ρ args args'.toList) :
    Eff η P ρ B h w (builtin b ts type cs args') a h' := by
  obtain ⟨ts⟩ := ts
  simp only [] at hb
  have head : ¬ (ts.isEmpty = true) → ∃ t ts', ts = t :: ts' := by
    intro hne
    cases ts with
    | nil => simp at hne
    | cons t ts' => exact ⟨_, _, rfl⟩
  unfold builtinA at hb
  split at hb
  · simp only [bind_ok] at hb
    obtain ⟨⟨v, h1⟩, ha, hb⟩ := hb
    rw [okk] at hb; injection hb with e1 e2; subst e1; subst e2
    exact Eff.val (appendA_ok hη p ha hl)
  · rename_i dst src
    obtain ⟨d', s', rfl, hd, hs⟩ := two_args hl
    rw [ite_no] at hb
    obtain ⟨hne, hb⟩ := hb
    have hts : ts ≠ [] := fun e => hne (by rw [e]; rfl)
    have hc : ∃ v, a = .value v ∧ (do
      match ← undA P (ts.headD 0), dst with
      | .slice elem, .slice base dLen cap => do
        if base.isNone = true ∧ cap = capE then no "copy: no row" else
        let n := Nat.min (← lenA src) dLen
        let size ← sizeA P elem
        let cs ← firstA h size n src
        match base with
        | some a => do let h ← storeC h a cs; .ok (goInt n, h)
        | none => .ok (goInt n, h)
      | _, _ => no "copy" : M (Value × AH)) = .ok (v, h') := by
      simp only [bind_ok] at hb ⊢
      obtain ⟨d0, hd0, hb⟩ := hb
      split at hb
      · rw [ite_no] at hb
        obtain ⟨hcE, hb⟩ := hb
        simp only [bind_ok] at hb
        obtain ⟨n, hn, sz, hsz, c, hc, hb⟩ := hb
        split at hb
        · simp only [bind_ok] at hb
          obtain ⟨h1, hst, hb⟩ := hb
          rw [okk] at hb; injection hb with e1 e2; subst e1; subst e2
          exact ⟨_, rfl, _, hd0, by simp only [if_neg hcE, bind_ok]; exact ⟨n, hn, sz, hsz, c, hc, h1, hst, rfl⟩⟩
        · rw [okk] at hb; injection hb with e1 e2; subst e1; subst e2
          exact ⟨_, rfl, _, hd0, by simp only [if_neg hcE, bind_ok]; exact ⟨n, hn, sz, hsz, c, hc, rfl⟩⟩
      · simp [no] at hb
    obtain ⟨v, rfl, hc⟩ := hc
    obtain ⟨x, w', h1, h2, h3⟩ := copyA_ok (type := type) hη p hc hts hd hs
    exact Eff.val ⟨ρ, x, w', h1, h2, h3⟩
  · rename_i m k
    obtain ⟨m', k', rfl, hm, hk⟩ := two_args hl
    rw [ite_no] at hb
    obtain ⟨hne, hb⟩ := hb
    obtain ⟨t, ts', rfl⟩ := head hne
    simp only [bind_ok, List.headD_cons] at hb
    obtain ⟨h1, hd, hb⟩ := hb
    rw [okk] at hb; injection hb with e1 e2; subst e1; subst e2
    obtain ⟨w', hw, hp⟩ := deleteA_ok (ts := ts') (type := type) p hd hm hk
    exact Eff.val ⟨ρ, _, w', hw, .tup' .nil, hp⟩
  · rename_i x
    obtain ⟨x', rfl, hx⟩ := one_arg hl
    rw [ite_no] at hb
    obtain ⟨hne, hb⟩ := hb
    obtain ⟨t, ts', rfl⟩ := head hne
    simp only [bind_ok, List.headD_cons] at hb
    obtain ⟨h1, hd, hb⟩ := hb
    rw [okk] at hb; injection hb with e1 e2; subst e1; subst e2
    obtain ⟨w', hw, hp⟩ := clearA_ok (ts := ts') (type := type) hη p hd hx
    exact Eff.val ⟨ρ, _, w', hw, .tup' .nil, hp⟩
  · rename_i t v
    obtain ⟨x', rfl, hx⟩ := one_arg hl
    obtain ⟨y, rfl, hy⟩ := hx.iface_inv
    rw [okk] at hb; injection hb with e1 e2; subst e1; subst e2
    exact ⟨ρ, w, ⟨.iface t y, rfl, .iface t hy⟩, .refl p⟩
  · rw [okk] at hb; injection hb with e1 e2; subst e1; subst e2
    exact ⟨ρ, w, rfl, .refl p⟩
  · rename_i pt l
    obtain ⟨p', l', rfl, hp', hl'⟩ := two_args hl
    rw [ite_no] at hb
    obtain ⟨hne, hb⟩ := hb
    obtain ⟨t, ts', rfl⟩ := head hne
    simp only [bind_ok, intOfA_ok, List.headD_cons] at hb
    obtain ⟨n, ⟨lk, rfl⟩, hb⟩ := hb
    have := hl'.int_inv; subst this
    rw [ite_no] at hb
    obtain ⟨hn, hb⟩ := hb
    have hmax : IntKind.i64.max = 9223372036854775807 := by decide
    have empty : n = 0 → ∀ q : Option Addr, (Builtin.unsafeString_ ⟨t :: ts'⟩ type #[.pointer q, .int lk n]).run P w = .ok (.string ⟨#[]⟩) w := by
      intro h0 q
      subst h0
      have hdef : Builtin.unsafeString_ ⟨t :: ts'⟩ type #[.pointer q, .int lk 0] =
        (do
          let n ← asInt (.int lk 0)
          if n < 0 then runtimePanic (.error "unsafe.String: len out of range")
          if n > IntKind.i64.max then unsupported (.unsafePointer "String: a length above the largest int")
          match q with
          | none =>
            if n = 0 then pure (.string .empty)
            else runtimePanic (.error "unsafe.String: ptr is nil and len is not zero")
          | some a =>
            if n = 0 then pure (.string .empty)
            else if ← variablesAt a (← elemOf t) n.toNat then do
              let s ← loadBytes a .empty n.toNat
              freeze a n.toNat
              pure (.string s)
            else unsupported (.unsafePointer "String: not so many bytes at ptr")) := rfl
      rw [hdef]
      simp only [asInt, Sem.run_bind, run_asIntOf, Sem.run_pure, Result.andThen_ok, hmax]
      rw [if_neg (by omega)]
      rw [if_neg (by omega)]
      cases q <;> rfl
    split at hb
    · have := hp'.ptr0_inv; subst this
      rw [ite_no', okk] at hb
      obtain ⟨h0, hb⟩ := hb
      injection hb with e1 e2; subst e1; subst e2
      exact Eff.val ⟨ρ, _, w, empty h0 _, .string _, .refl p⟩
    · obtain ⟨q, rfl, hq⟩ := hp'.ptr_inv
      by_cases h0 : n = 0
      · rw [if_pos h0, okk] at hb
        injection hb with e1 e2; subst e1; subst e2
        exact Eff.val ⟨ρ, _, w, empty h0 _, .string _, .refl p⟩
      · rw [if_neg h0] at hb
        obtain ⟨bs, w', rfl, hr, hpost⟩ := unsafeS_ok (ts := ts') (type := type) (lk := lk) p hq hn h0 hb
        exact Eff.val ⟨ρ, _, w', hr, .string _, hpost⟩
  · simp [no] at hb
theorem invokeA_ok (hη : OneCells η) (p : Pre η P ρ B h w) {t t' : Target} {args : List Value} {args' : Array Value} {a : AN} {h' : AH} (hi : invokeA P h t args = .ok (a, h')) (ht : TgR ρ η t t') (hl : LR η ρ args args'.toList) :
    Eff η P ρ B h w (invoke t' args') a h' := by
  have rest : ∀ {r : Value} {l : List Value}, args = r :: l → ∃ r', args'[0]? = some r' ∧ VR η ρ r r' ∧ LR η ρ l (args'.extract 1 args'.size).toList := by
    intro r l e
    subst e
    obtain ⟨r', m, hm, hr, hm'⟩ := hl.inv_cons
    refine ⟨r', by rw [← Array.getElem?_toList, hm]; rfl, hr, ?_⟩
    have : (args'.extract 1 args'.size).toList = m := by
      have h1 : args'.size = m.length + 1 := by have : args'.size = args'.toList.length := rfl; rw [this, hm]; rfl
      rw [Array.toList_extract, hm, h1]
      simp [List.extract]
    rw [this]; exact hm'
  unfold invokeA at hi
  split at hi
  · rename_i b ts ty cs
    cases t' with
    | builtin b' ts' ty' cs' =>
      obtain ⟨rfl, rfl, rfl, rfl⟩ := ht
      exact builtinA_ok hη p hi hl
    | _ => exact ht.elim
  · rename_i f captured
    cases t' with
    | fn g captured' =>
      obtain ⟨hf, hc⟩ := ht
      cases hf
      exact callF_ok hη p hi (args' := args' ++ captured') (by simpa using hl.append hc)
    | _ => exact ht.elim
  · rename_i name captured
    cases t' with
    | fn g captured' =>
      obtain ⟨hf, hc⟩ := ht
      cases hf
      split at hi
      · rename_i r l
        obtain ⟨r', hr0, hr, hlr⟩ := rest rfl
        obtain ⟨ρ', w', k1, k2⟩ := callMeth_ok hη p hi hr hlr
        exact ⟨ρ', w', by simp only [invoke, hr0]; exact k1, k2⟩
      · simp [no] at hi
    | _ => exact ht.elim
  · rename_i t0 name captured
    cases t' with
    | fn g captured' =>
      obtain ⟨hf, hc⟩ := ht
      cases hf
      split at hi
      · rename_i r l
        obtain ⟨r', hr0, hr, hlr⟩ := rest rfl
        simp only [bind_ok, undA_ok] at hi
        obtain ⟨d, hd, hi⟩ := hi
        split at hi
        · obtain ⟨ρ', w', k1, k2⟩ := callMeth_ok hη p hi hr hlr
          exact ⟨ρ', w', by simp only [invoke, hr0, Sem.run_bind, run_und hd, Result.andThen_ok]; exact k1, k2⟩
        · rename_i hni
          obtain ⟨ρ', w', k1, k2⟩ := callMeth_ok hη p hi (VR.iface t0 hr) hlr
          refine ⟨ρ', w', ?_, k2⟩
          simp only [invoke, hr0, Sem.run_bind, run_und hd, Result.andThen_ok]
          cases d <;> first | exact k1 | exact absurd rfl (hni _)
      · simp [no] at hi
    | _ => exact ht.elim
  · rename_i t0 path f pointer captured
    cases t' with
    | fn g captured' =>
      obtain ⟨hf, hc⟩ := ht
      cases hf
      split at hi
      · rename_i x l
        obtain ⟨r', hr0, hr, hlr⟩ := rest rfl
        simp only [bind_ok] at hi
        obtain ⟨⟨xt, pl⟩, hfo, rv, hrv, ha⟩ := hi
        obtain ⟨y', hy, hyr⟩ := followA_ok p.hr hfo (x' := .val r') hr
        obtain ⟨u, hu, hur⟩ := recvAt_ok (P := P) (wr := none) p.hr hrv hyr
        obtain ⟨ρ', w', k1, k2⟩ := callF_ok hη p (args' := #[u] ++ args'.extract 1 args'.size) ha (by rw [Array.toList_append]; exact LR.cons hur hlr)
        exact ⟨ρ', w', by simp only [invoke, hr0, receiverVia, Sem.run_bind, hy, hu, Result.andThen_ok]; exact k1, k2⟩
      · simp [no] at hi
    | _ => exact ht.elim
  · rename_i l captured
    cases t' with
    | fn g captured' =>
      obtain ⟨hf, hc⟩ := ht
      split at hi
      · rename_i st pend fn tm n params asg body ds hg
        rw [ite_no] at hi
        obtain ⟨hlen, hi⟩ := hi
        simp only [bind_ok] at hi
        obtain ⟨tm2, htm, hi⟩ := hi
        rw [okk] at hi; injection hi with e1 e2; subst e1; subst e2
        cases hf with
        | same hs => exact absurd rfl (hs l)
        | yield hρ =>
          rename_i b d0 n0
          obtain ⟨b2, d2, n2, o, h1, h2, ⟨lp, rfl, k1, k2, k3, k4, k5, k6, k7, dd, nn, k8⟩, _⟩ := p.hr.obj _ _ hg
          rw [hρ] at h1; cases h1
          refine Eff.reader p ⟨b, _, _, (lp.params.zip args').foldl (fun tmps (x : Tmp × Value) => tmps.setIfInBounds x.1 x.2) lp.tmps, ?_, hρ, ?_⟩
          · have hsz : args'.size = lp.params.size := by
              have e1 := hl.len
              have e2 : lp.params.toList.length = params.length := by rw [k5]
              have e3 : args'.size = args'.toList.length := rfl
              have e4 : lp.params.size = lp.params.toList.length := rfl
              omega
            simp only [invoke, Instr.yield, Instr.getLoop, Sem.run_bind, run_getObj h2 (by simp), Result.andThen_ok, Sem.run_pure]
            rw [if_neg (by omega)]
            simp only [Sem.run_bind, Sem.run_pure, Result.andThen_ok, k3, k6, k7]
          · have := putParams_ok htm hl k4
            rw [← k5] at this
            have hz : (lp.params.zip args').foldl (fun tmps (x : Tmp × Value) => tmps.setIfInBounds x.1 x.2) lp.tmps = (lp.params.toList.zip args'.toList).foldl (fun tmps (x : Tmp × Value) => tmps.setIfInBounds x.1 x.2) lp.tmps := by
              rw [← Array.foldl_toList, Array.toList_zip]
            rw [hz]; exact this
      · simp [no] at hi
    | _ => exact ht.elim
  · simp [no] at hi
theorem resolveA_ok {c : Call} {σ τ : Operand → Value} {type : TypeId} (hs : ∀ x ∈ c.operands.toList, VR η ρ (σ x) (τ x)) {t : Target} {args : List Value} (hr : resolveA σ c type = .ok (t, args)) :
    ∃ d : Deferred, (resolve τ c type).run P w = .ok d w ∧ TgR ρ η t d.target ∧ LR η ρ args d.args.toList := by
  obtain ⟨callee, cargs, argTypes⟩ := c
  have ha := map_rel (η := η) (ρ := ρ) (σ := σ) (τ := τ) (xs := cargs) (fun x hx => hs x (by simp [Call.operands]; exact .inr (by simpa using hx)))
  unfold resolveA at hr
  simp only [] at hr
  cases callee with
  | builtin b =>
    simp only [okk] at hr; injection hr with e1 e2; subst e1; subst e2
    refine ⟨_, rfl, ⟨rfl, rfl, rfl, ?_⟩, ha⟩
    apply Array.ext'
    simp only [Array.toList_map]
    apply List.map_congr_left
    intro x _
    cases x <;> rfl
  | invoke recv name =>
    simp only [okk] at hr; injection hr with e1 e2; subst e1; subst e2
    have hv := hs recv (by simp [Call.operands])
    exact ⟨_, rfl, ⟨.same (fun l e => by cases e), .nil⟩, by rw [Array.toList_append]; exact LR.cons hv ha⟩
  | value f =>
    have hv := hs f (by simp [Call.operands])
    simp only [] at hr
    split at hr
    · rename_i fn first captured hf
      rw [okk] at hr; injection hr with e1 e2; subst e1; subst e2
      rw [hf] at hv
      obtain ⟨g, c, d, hg, hfr, h1, h2⟩ := hv.func_inv
      refine ⟨{ target := .fn g d, args := c ++ cargs.map τ }, ?_, ⟨hfr, h2⟩, by rw [Array.toList_append]; exact h1.append ha⟩
      simp only [resolve, hg, Deferred.ofValue]; rfl
    · simp [no] at hr
theorem convEffA_ok (p : Pre η P ρ B h w) {s d : TypeId} {x y : Value} {a : AN} {h' : AH} (he : convEffA P h s d x = .ok (a, h')) (hx : VR η ρ x y) :
    Eff η P ρ B h w (do pure (.value (← convert s d y))) a h' := by
  unfold convEffA at he
  simp only [bind_ok, undA_ok] at he
  obtain ⟨sd, hsd, dd, hdd, he⟩ := he
  split at he
  · rename_i e0 e ad l c
    simp only [bind_ok, undA_ok] at he
    obtain ⟨ed, hed, he⟩ := he
    split at he
    · split at he
      · rename_i hsd'
        subst hsd'
        have hee : e0 = e := by rw [hsd] at hdd; injection hdd with hdd; injection hdd
        subst hee
        simp only [bind_ok] at he
        obtain ⟨⟨ty, cs, pl, own⟩, hc, he⟩ := he
        split at he
        · rename_i ty' cs' heq
          injection heq with q1 q2; injection q2 with q2 q3; injection q3 with q3 q4
          subst q1; subst q2; subst q3; subst q4
          split at he
          · rename_i hsp
            rw [okk] at he; injection he with e1 e2; subst e1; subst e2
            have hg := cellsAt_ok.1 hc
            simp only [] at hg
            obtain ⟨bb, d0, n, C, lo, hi, h1, h2, h3, h4⟩ := p.hr.cells hg
            obtain ⟨hlo, hhi, hd0, hcl⟩ := h3.plain rfl
            subst hlo; subst hhi; subst hd0
            have hsz : C.toList.length = 0 + n := h3.size
            have hCs : C.size = C.toList.length := rfl
            obtain ⟨a', c', rfl, hcc⟩ := hx.slice_inv3 (.inl rfl)
            obtain ⟨q, rfl, hq⟩ : ∃ q, a' = some q ∧ AdR ρ ad q := by
              rcases hcc with ⟨e, _⟩ | ⟨_, q, e, e', hq, _⟩ | ⟨_, q, _, _, _, _, e, e', hq, _⟩
              · cases e
              · cases e; exact ⟨q, e', hq⟩
              · cases e; exact ⟨q, e', hq⟩
            obtain ⟨_, n', blk, d', h5, rfl⟩ := hq
            rw [h1] at h5; cases h5
            have hlt := heap_lt h2
            refine Eff.val ⟨ρ, _, wput w bb (.cells C ty (C.size, C.size + 1)), ?_, hx, Post.put p hg rfl h1 rfl ⟨C, ty, C.size, C.size + 1, rfl, ⟨rfl, hsz, h3.len, h3.at_, (fun h => by cases h), fun _ i hi hh => by omega⟩⟩⟩
            have hshape : w.shape? bb = some (ty, C.size) := by simp only [World.shape?, h2]
            simp only [convert, Sem.run_bind, run_und hsd, run_und hed, Result.andThen_ok, beq_self_eq_true, markStringish, run_shape, hshape, freeze, Sem.run_pure]
            have hfr : w.freeze ⟨bb, C.size, none⟩ 1 = wput w bb (.cells C ty (C.size, C.size + 1)) := by
              unfold World.freeze wput
              rw [if_neg (by decide)]
              congr 1
              apply Array.ext_getElem?
              intro k
              rw [Array.getElem?_modify, Array.getElem?_setIfInBounds]
              by_cases hk : bb = k
              · subst hk; rw [if_pos rfl, if_pos rfl, if_pos hlt, h2]; rfl
              · rw [if_neg hk, if_neg hk]
            rw [← hfr]
            rfl
          · simp [no] at he
        · simp [no] at he
      · simp [no] at he
    · simp [no] at he
  · simp [no] at he
theorem effA_ok (hη : OneCells η) (p : Pre η P ρ B h w) {o : Oper} {σ τ : Operand → Value} (hs : ∀ x ∈ o.op.operands.toList, VR η ρ (σ x) (τ x)) {a : AN} {h' : AH} (he : effA P σ o h = .ok (a, h')) :
    Eff η P ρ B h w (execOp τ o) a h' := by
  obtain ⟨dst, op, type, pos, after, guard⟩ := o
  have unit : ∀ {s : Sem Unit} {h' : AH}, (∃ w', s.run P w = .ok () w' ∧ Post η ρ B h w ρ h' w') → Eff η P ρ B h w (do s; pure .skip) .skip h' := by
    rintro s h' ⟨w', h1, h2⟩
    refine ⟨ρ, w', ?_, h2⟩
    show ((do s; pure Next.skip : Sem Next)).run P w = .ok .skip w'
    simp only [Sem.run_bind, h1, Result.andThen_ok, Sem.run_pure]
  cases op <;> simp only [effA] at he <;> simp only [Op.operands] at hs <;> try (simp [no] at he; done)
  case store t ad x =>
    simp only [bind_ok, addrA_ok] at he
    obtain ⟨q, ⟨hq, _⟩, h1, hst, he⟩ := he
    rw [okk] at he; injection he with e1 e2; subst e1; subst e2
    have ha := hs ad (by simp); have hx := hs x (by simp)
    rw [hq] at ha
    obtain ⟨q', hq', hqr⟩ := ha.ptr_inv
    simp only [storeA, bind_ok] at hst
    obtain ⟨n, hn, hst⟩ := hst
    rw [ite_no] at hst
    obtain ⟨hlen, hst⟩ := hst
    have hc := hx.cells hη
    obtain ⟨w', hw', hp⟩ := storeC_ok (P := P) hη p hst hqr hc
    refine unit ⟨w', ?_, hp⟩
    have hsz : (τ x).cells.size = n := by
      have e1 := hc.len
      have e2 : (τ x).cells.size = (τ x).cells.toList.length := rfl
      omega
    simp only [Instr.storeAt, Sem.run_bind, hq', Instr.sureAddr, Sem.run_pure, Result.andThen_ok, storeVar, run_size hn]
    rw [if_neg (by omega)]
    exact hw'
  case convert s d x =>
    have hx := hs x (by simp)
    generalize σ x = u at he hx
    exact convEffA_ok p he hx
  case insert t m k x =>
    simp only [bind_ok] at he
    obtain ⟨h1, hm, he⟩ := he
    rw [okk] at he; injection he with e1 e2; subst e1; subst e2
    exact unit (mapSet_ok p hm (hs m (by simp)) (hs k (by simp)) (hs x (by simp)))
  case mapUpdate t m k x =>
    simp only [bind_ok] at he
    obtain ⟨h1, hm, he⟩ := he
    rw [okk] at he; injection he with e1 e2; subst e1; subst e2
    exact unit (mapSet_ok p hm (hs m (by simp)) (hs k (by simp)) (hs x (by simp)))
  case mapEntry t m k =>
    simp only [bind_ok] at he
    obtain ⟨⟨v, h1⟩, hm, he⟩ := he
    rw [okk] at he; injection he with e1 e2; subst e1; subst e2
    obtain ⟨x, w', k1, k2, k3⟩ := mapEntryA_ok p hm (hs m (by simp)) (hs k (by simp))
    exact Eff.val ⟨ρ, x, w', k1, k2, k3⟩
  case entryStore t m s x =>
    simp only [bind_ok] at he
    obtain ⟨h1, hm, he⟩ := he
    rw [okk] at he; injection he with e1 e2; subst e1; subst e2
    exact unit (entryStoreA_ok p hm (hs m (by simp)) (hs s (by simp)) (hs x (by simp)))
  case range t x =>
    have hx := hs x (by simp)
    generalize σ x = u at he hx
    have : ∃ v, a = .value v ∧ (do
      match ← undA P t, u with
      | .string, .string s => let (r, h) := newA h (.stringIter s 0); .ok (.pointer (some ⟨r, 0, none⟩), h)
      | .map _ _, .map none => let (r, h) := newA h (.mapIter none 0 [] 0); .ok (.pointer (some ⟨r, 0, none⟩), h)
      | .map _ _, .map (some m) => do
        let (_, clock, _) ← mapOf h m
        let (r, h) := newA h (.mapIter (some m) clock [] clock)
        .ok (.pointer (some ⟨r, 0, none⟩), h)
      | _, _ => no "range" : M (Value × AH)) = .ok (v, h') := by
      simp only [bind_ok, newA] at he ⊢
      obtain ⟨d, hd, he⟩ := he
      split at he
      · rw [okk] at he; injection he with e1 e2; subst e1; subst e2
        exact ⟨_, rfl, _, hd, rfl⟩
      · rw [okk] at he; injection he with e1 e2; subst e1; subst e2
        exact ⟨_, rfl, _, hd, rfl⟩
      · simp only [bind_ok] at he
        obtain ⟨m, hm, he⟩ := he
        rw [okk] at he; injection he with e1 e2; subst e1; subst e2
        exact ⟨_, rfl, _, hd, by simp only [bind_ok]; exact ⟨m, hm, rfl⟩⟩
      · simp [no] at he
    obtain ⟨v, rfl, hr⟩ := this
    exact Eff.val (rangeA_ok p hr hx)
  case next it s =>
    simp only [bind_ok] at he
    obtain ⟨⟨v, h1⟩, hm, he⟩ := he
    rw [okk] at he; injection he with e1 e2; subst e1; subst e2
    obtain ⟨x, w', k1, k2, k3⟩ := nextA_ok (P := P) (type := type) p hm (hs it (by simp))
    exact Eff.val ⟨ρ, x, w', k1, k2, k3⟩
  case call c =>
    simp only [bind_ok] at he
    obtain ⟨⟨t, args⟩, hr, hi⟩ := he
    obtain ⟨d, hd, ht, hl⟩ := resolveA_ok (P := P) (w := w) hs hr
    obtain ⟨ρ', w', k1, k2⟩ := invokeA_ok hη p hi ht hl
    exact ⟨ρ', w', by simp only [execOp, Sem.run_bind, hd, Result.andThen_ok]; exact k1, k2⟩
  case defer c =>
    simp only [bind_ok] at he
    obtain ⟨⟨t, args⟩, hr, he⟩ := he
    rw [okk] at he; injection he with e1 e2; subst e1; subst e2
    obtain ⟨d, hd, ht, hl⟩ := resolveA_ok (P := P) (w := w) hs hr
    exact ⟨ρ, w, ⟨d, by simp only [execOp, Sem.run_bind, hd, Result.andThen_ok, Sem.run_pure], ht, by simpa using hl⟩, .refl p⟩
  case panic x =>
    have hx := hs x (by simp)
    split at he
    · rename_i t v hv
      rw [okk] at he; injection he with e1 e2; subst e1; subst e2
      rw [hv] at hx
      obtain ⟨y, hy, hyr⟩ := hx.iface_inv
      exact ⟨ρ, w, ⟨.iface t y, by simp only [execOp, hy]; rfl, .iface t hyr⟩, .refl p⟩
    · simp [no] at he
end
end Go.Ev

namespace Go.Ev
set_option linter.unusedVariables false
set_option linter.unusedSimpArgs false
variable {η : Nat → Value}
inductive ItR (ρ : Env) : Item → Item → Prop
  | code (c : Code) : ItR ρ (.code c) (.code c)
  | inBlock (i : Nat) : ItR ρ (.inBlock i) (.inBlock i)
  | inLoop (c : Code) : ItR ρ (.inLoop c) (.inLoop c)
  | inScope (c : Code) : ItR ρ (.inScope c) (.inScope c)
  | inRegion (ops : Array Oper) (l : List Nat) : ItR ρ (.inRegion ops l) (.inRegion ops l)
  | inRangeFunc {l b d n : Nat} (h : ρ l = some (b, d, n)) : ItR ρ (.inRangeFunc l) (.inRangeFunc b)
  | endRangeFunc {l b d n : Nat} (h : ρ l = some (b, d, n)) : ItR ρ (.endRangeFunc l) (.endRangeFunc b)
  | beginRound : ItR ρ .beginRound .beginRound
theorem ItR.mono {ρ ρ' : Env} (h : Env.le ρ ρ') {a b : Item} (k : ItR ρ a b) : ItR ρ' a b := by
  cases k with
  | code c => exact .code c
  | inBlock i => exact .inBlock i
  | inLoop c => exact .inLoop c
  | inScope c => exact .inScope c
  | inRegion o l => exact .inRegion o l
  | inRangeFunc e => exact .inRangeFunc (h _ _ e)
  | endRangeFunc e => exact .endRangeFunc (h _ _ e)
  | beginRound => exact .beginRound
def PeR (η : Nat → Value) (ρ : Env) (a b : PanicEntry) : Prop := VR η ρ a.v b.v ∧ a.recovered = b.recovered ∧ a.goexit = b.goexit
inductive MoR (η : Nat → Value) (ρ : Env) : FrameMode → FrameMode → Prop
  | run : MoR η ρ .run .run
  | returning : MoR η ρ .returning .returning
  | panicking {l m : List PanicEntry} (h : L2 (PeR η ρ) l m) : MoR η ρ (.panicking l) (.panicking m)
theorem MoR.mono {ρ ρ' : Env} (h : Env.le ρ ρ') {a b : FrameMode} (k : MoR η ρ a b) : MoR η ρ' a b := by
  cases k with
  | run => exact .run
  | returning => exact .returning
  | panicking e => exact .panicking (e.mono fun _ _ q => ⟨q.1.mono h, q.2⟩)
def RoR (ρ : Env) : Option Nat → Option Nat → Prop
  | none, none => True
  | some l, some b => ∃ d n, ρ l = some (b, d, n)
  | _, _ => False
theorem RoR.mono {ρ ρ' : Env} (h : Env.le ρ ρ') {a b : Option Nat} (k : RoR ρ a b) : RoR ρ' a b := by
  cases a <;> cases b <;> simp only [RoR] at k ⊢
  obtain ⟨d, n, e⟩ := k; exact ⟨d, n, h _ _ e⟩
structure FrR (η : Nat → Value) (ρ : Env) (f : AF) (fr : Frame) : Prop where
  fn : fr.fn = f.fn
  tm : TR η ρ f.tm f.n fr.tmps
  todo : L2 (ItR ρ) f.todo fr.todo
  defers : L2 (DR η ρ) f.defers fr.defers
  mode : MoR η ρ f.mode fr.mode
  kind : fr.kind = f.kind
  round : RoR ρ f.round fr.roundOf
theorem FrR.mono {ρ ρ' : Env} (h : Env.le ρ ρ') {f : AF} {fr : Frame} (k : FrR η ρ f fr) : FrR η ρ' f fr :=
  ⟨k.fn, k.tm.mono h, k.todo.mono fun _ _ => ItR.mono h, k.defers.mono fun _ _ => DR.mono h, k.mode.mono h, k.kind, k.round.mono h⟩
section
variable {P : Program} {ρ : Env} {B : Bd} {h : AH} {w : World}
theorem evA_ok (hG : GR P ρ) {tm : T Value} {n : Nat} {fr : Frame} (ht : TR η ρ tm n fr.tmps) {x : Operand} (hx : okO P x = true) : VR η ρ (evA tm x) (fr.eval x) := by
  cases x with
  | tmp t =>
    simp only [evA, Frame.eval]
    rcases Nat.lt_or_ge t n with h | h
    · exact ht.2.2 t h
    · rw [ht.2.1 t h, Array.getD_eq_getD_getElem?, Array.getElem?_eq_none (by rw [ht.1]; exact h)]
      exact .tup' .nil
  | const v => exact .bareA hx
  | global g =>
    simp only [okO, decide_eq_true_eq] at hx
    obtain ⟨n, hg⟩ := hG g (Nat.le_of_lt hx)
    exact VR.ptr_new hg
  | func f => exact .func_mk (.same fun l e => by cases e) .nil .nil
theorem okOps_all {o : Oper} (h : okOps P o = true) : ∀ x ∈ o.op.operands.toList, okO P x = true := fun x hx => List.all_eq_true.1 h x hx
def setD (tmps : Array Value) (dst : Option Tmp) (x : Value) : Array Value :=
  match dst with
  | some d => tmps.setIfInBounds d x
  | none => tmps
theorem putT_ok {n : Nat} {tm tm2 : T Value} {dst : Option Tmp} {v x : Value} {tmps : Array Value} (hp : putT n tm dst v = .ok tm2) (ht : TR η ρ tm n tmps) (hv : VR η ρ v x) :
    TR η ρ tm2 n (setD tmps dst x) := by
  cases dst with
  | none => simp only [putT, okk] at hp; subst hp; exact ht
  | some d =>
    simp only [putT] at hp
    rw [ite_no', okk] at hp
    obtain ⟨hd, rfl⟩ := hp
    refine ⟨by simp [setD, ht.1], fun t h => ?_, fun t h => ?_⟩
    · rw [T.get_set, if_neg (fun e => by subst e; exact absurd hd (Nat.not_lt.2 h))]
      exact ht.2.1 t h
    · rw [T.get_set]
      show VR η ρ _ ((tmps.setIfInBounds d x).getD t undef)
      by_cases e : t = d
      · subst e
        have hl : t < tmps.size := by rw [ht.1]; exact h
        rw [if_pos rfl]
        simp only [Option.getD_some]
        rw [Array.getD_eq_getD_getElem?, Array.getElem?_setIfInBounds_self_of_lt hl]
        exact hv
      · rw [if_neg e]
        rw [Array.getD_eq_getD_getElem?, Array.getElem?_setIfInBounds_ne (fun h => e h.symm), ← Array.getD_eq_getD_getElem?]
        exact ht.2.2 t h
theorem VR.undef' : VR η ρ undef undef := .tup' .nil
theorem finish_ok {f f2 : AF} {fr : Frame} {v x : Value} (hf : f.finish v = .ok f2) (hr : FrR η ρ f fr) (hv : VR η ρ v x) : FrR η ρ f2 (fr.finish x) := by
  obtain ⟨fn, tmps, todo, defers, mode, kind, roundOf⟩ := fr
  unfold AF.finish at hf
  have htodo := hr.todo
  split at hf
  · rename_i ops i rest k he
    rw [he] at htodo
    obtain ⟨y, k', hk, hy, hkk⟩ := htodo.inv_cons
    simp only at hk; subst hk
    cases hy
    simp only [bind_ok] at hf
    obtain ⟨tm, htm, hf⟩ := hf
    rw [okk] at hf; subst hf
    have hto : (ops.toList[i]?).bind (·.dst) = (ops[i]?).bind (·.dst) := by rw [Array.getElem?_toList]
    rw [hto] at htm
    have := putT_ok htm hr.tm hv
    refine ⟨hr.fn, ?_, .cons (.inRegion _ _) hkk, hr.defers, hr.mode, hr.kind, hr.round⟩
    exact this
  · rename_i l k he
    rw [he] at htodo
    obtain ⟨y, k', hk, hy, hkk⟩ := htodo.inv_cons
    simp only at hk; subst hk
    cases hy with
    | inRangeFunc e =>
      rw [okk] at hf; subst hf
      exact ⟨hr.fn, hr.tm, .cons (.endRangeFunc e) hkk, hr.defers, hr.mode, hr.kind, hr.round⟩
  · rename_i k he
    rw [he] at htodo
    obtain ⟨y, k', hk, hy, hkk⟩ := htodo.inv_cons
    simp only at hk; subst hk
    cases hy
    rw [okk] at hf; subst hf
    exact ⟨hr.fn, hr.tm, hkk, hr.defers, hr.mode, hr.kind, hr.round⟩
  · simp [no] at hf
theorem enter_ok {f : FuncId} {args : List Value} {args' : Array Value} {kind : CallKind} {fr : AF} (he : enterA P f args kind = .ok fr) (hl : LR η ρ args args'.toList) : FrR η ρ fr (Frame.enter P f args' kind) := by
  unfold enterA at he
  split at he
  · simp [no] at he
  · rename_i fn hfn
    split at he
    · simp [no] at he
    · rename_i b hb
      rw [okk] at he; subst he
      have hlen : args.length = args'.toList.length := hl.len
      have hsz : args'.size = args'.toList.length := rfl
      have htm : (Frame.enter P f args' kind).tmps = args' ++ Array.replicate (fn.ntmps - args'.size) undef := by simp [Frame.enter, hfn]
      refine ⟨rfl, ?_, ?_, .nil, .run, rfl, trivial⟩
      · rw [htm]
        refine ⟨by simp; omega, fun t h => ?_, fun t h => ?_⟩
        · have hge : max fn.ntmps args.length ≤ t := h
          rw [T.get_ofL, if_neg (by omega), T.get_nil]
        · rw [T.get_ofL]
          simp only [Array.getD_eq_getD_getElem?]
          by_cases ht : t < args.length
          · rw [if_pos (by omega), Nat.sub_zero]
            obtain ⟨x, hx, hv⟩ := hl.get (List.getElem?_eq_getElem ht)
            rw [Array.getElem?_append_left (by omega)]
            rw [← Array.getElem?_toList, hx, List.getElem?_eq_getElem ht]
            exact hv
          · rw [if_neg (by omega), T.get_nil, Array.getElem?_append_right (by omega)]
            have : ((Array.replicate (fn.ntmps - args'.size) undef)[t - args'.size]?).getD undef = undef := by
              rw [Array.getElem?_replicate]; split <;> rfl
            rw [this]; exact .undef'
      · simp only [Frame.enter, hfn, Option.bind_some, hb, Option.getD_some]
        exact .cons (.code b) .nil
theorem raise_ok {f : AF} {fr : Frame} {vs xs : List PanicEntry} (hr : FrR η ρ f fr) (hv : L2 (PeR η ρ) vs xs) : FrR η ρ (f.raiseA vs) (fr.raise xs) := by
  obtain ⟨fn, tmps, todo, defers, mode, kind, roundOf⟩ := fr
  obtain ⟨fn', n, tm, todo', defers', mode', kind', round'⟩ := f
  have hm := hr.mode
  simp only at hm
  cases hm with
  | run => exact ⟨hr.fn, hr.tm, hr.todo, hr.defers, .panicking hv, hr.kind, hr.round⟩
  | returning => exact ⟨hr.fn, hr.tm, hr.todo, hr.defers, .panicking hv, hr.kind, hr.round⟩
  | panicking h => exact ⟨hr.fn, hr.tm, hr.todo, hr.defers, .panicking (hv.append h), hr.kind, hr.round⟩
def resV (tmps : Array Value) : ResultVar → Sem Value
  | .tmp t => pure (tmps.getD t undef)
  | .cell a t => do loadVar t (← asAddr (tmps.getD a undef))
theorem resL_ok (H : HR η ρ B h w) {tm : T Value} {n : Nat} {tmps : Array Value} (ht : TR η ρ tm n tmps) : ∀ {rs : List ResultVar} {vs : List Value}, resL P tm h rs = .ok vs →
    ∃ xs, (rs.mapM (resV tmps)).run P w = .ok xs w ∧ LR η ρ vs xs
  | [], vs, hr => by simp only [resL, okk] at hr; subst hr; exact ⟨[], rfl, .nil⟩
  | r :: rs, vs, hr => by
    have get : ∀ t, VR η ρ ((tm.get t).getD undef) (tmps.getD t undef) := by
      intro t
      rcases Nat.lt_or_ge t n with h | h
      · exact ht.2.2 t h
      · rw [ht.2.1 t h, Array.getD_eq_getD_getElem?, Array.getElem?_eq_none (by rw [ht.1]; exact h)]
        exact .undef'
    cases r with
    | tmp t =>
      simp only [resL, bind_ok] at hr
      obtain ⟨l, hl, hr⟩ := hr
      rw [okk] at hr; subst hr
      obtain ⟨xs, h1, h2⟩ := resL_ok H ht hl
      refine ⟨_, ?_, .cons (get t) h2⟩
      simp only [List.mapM_cons, Sem.run_bind, resV, Sem.run_pure, Result.andThen_ok] at h1 ⊢
      rw [h1]; rfl
    | cell a t =>
      simp only [resL, bind_ok, addrA_ok] at hr
      obtain ⟨q, ⟨hq, _⟩, v, hv, l, hl, hr⟩ := hr
      rw [okk] at hr; subst hr
      obtain ⟨xs, h1, h2⟩ := resL_ok H ht hl
      have ha := get a
      rw [hq] at ha
      obtain ⟨q', hq', hqr⟩ := ha.ptr_inv
      obtain ⟨x, k1, k2⟩ := loadA_ok H hv hqr
      refine ⟨_, ?_, .cons k2 h2⟩
      simp only [List.mapM_cons, Sem.run_bind, resV, Sem.run_pure, hq', asAddr, k1, Result.andThen_ok] at h1 ⊢
      rw [h1]; rfl
theorem results_ok (H : HR η ρ B h w) {fn : Func} {tm : T Value} {n : Nat} {tmps : Array Value} (ht : TR η ρ tm n tmps) {v : Value} (hr : resultsA P fn tm h = .ok v) : ∃ x, (results fn tmps).run P w = .ok x w ∧ VR η ρ v x := by
  simp only [resultsA, bind_ok] at hr
  obtain ⟨vs, hvs, hr⟩ := hr
  obtain ⟨xs, h1, h2⟩ := resL_ok H ht hvs
  have hm : (fn.results.mapM (resV tmps)).run P w = .ok xs.toArray w := by
    generalize hr' : fn.results = rs at *
    obtain ⟨rl⟩ := rs
    rw [show (Array.mk rl) = rl.toArray from rfl, List.mapM_toArray]
    simp only [Sem.run_map] at h1 ⊢
    rw [h1]; rfl
  have hf : (fun (r : ResultVar) => (match r with
      | .tmp t => pure (tmps.getD t undef)
      | .cell a t => do loadVar t (← asAddr (tmps.getD a undef)) : Sem Value)) = resV tmps := by
    funext r; cases r <;> rfl
  have hres : (results fn tmps).run P w = (do
      let vs ← fn.results.mapM (resV tmps)
      pure (if h : vs.size = 1 then vs[0] else .tuple vs) : Sem Value).run P w := by
    rw [← hf]; rfl
  split at hr
  · rename_i v1
    rw [okk] at hr; subst hr
    obtain ⟨x, m, rfl, hx, hm'⟩ := h2.inv_cons
    have := hm'.inv_nil; subst this
    refine ⟨x, ?_, hx⟩
    rw [hres]
    simp only [Sem.run_bind]
    rw [hm]; rfl
  · rename_i hne
    rw [okk] at hr; subst hr
    refine ⟨.tuple xs.toArray, ?_, .tup' h2⟩
    rw [hres]
    simp only [Sem.run_bind]
    rw [hm]
    have : ¬ xs.toArray.size = 1 := by
      intro e
      have e2 : vs.length = 1 := by rw [h2.len]; simpa using e
      obtain ⟨a, rfl⟩ := List.length_eq_one_iff.1 e2
      exact hne a rfl
    simp only [Result.andThen_ok]
    rw [dif_neg this]; rfl
theorem exitTo_ok {id : Nat} {k k' : List Item} (hk : L2 (ItR ρ) k k') : (∀ r, exitTo id k = some r → ∃ r', exitTo id k' = some r' ∧ L2 (ItR ρ) r r') ∧ (exitTo id k = none → exitTo id k' = none) := by
  induction hk with
  | nil => exact ⟨fun r h => by simp [exitTo] at h, fun _ => rfl⟩
  | cons h _ ih =>
    rename_i a b l m hl
    cases h <;> simp only [exitTo] <;> first
      | exact ih
      | (split
         · exact ⟨fun r h => by cases h; exact ⟨_, rfl, hl⟩, fun h => by cases h⟩
         · exact ih)
theorem gotoIn_ok {id : Nat} {k k' : List Item} (hk : L2 (ItR ρ) k k') : (∀ r, gotoIn id k = some r → ∃ r', gotoIn id k' = some r' ∧ L2 (ItR ρ) r r') ∧ (gotoIn id k = none → gotoIn id k' = none) := by
  induction hk with
  | nil => exact ⟨fun r h => by simp [gotoIn] at h, fun _ => rfl⟩
  | cons h _ ih =>
    rename_i a b l m hl
    cases h <;> simp only [gotoIn] <;> first
      | exact ih
      | (split
         · exact ⟨fun r h => by cases h; exact ⟨_, rfl, .cons (.code _) (.cons (.inScope _) hl)⟩, fun h => by cases h⟩
         · exact ih)
theorem wanted_ok {ops : Array Oper} {tm : T Value} {n : Nat} {tmps : Array Value} {o : Oper} {b : Bool} (ht : TR η ρ tm n tmps) (hw : wantedA ops.toList tm o = .ok b) : Region.wanted o (yielded ops tmps) = b := by
  unfold wantedA at hw
  unfold Region.wanted
  split at hw
  · rename_i hg; rw [hg]; rw [okk] at hw; exact hw
  · rename_i j want hg
    rw [hg]
    simp only [yielded]
    rw [Array.getElem?_toList] at hw
    split at hw
    · rename_i hd
      rw [hd]; rw [okk] at hw; subst hw; simp
    · rename_i d hd
      rw [hd]
      simp only [Option.bind_some]
      have hv : VR η ρ ((tm.get d).getD undef) (tmps.getD d undef) := by
        rcases Nat.lt_or_ge d n with h | h
        · exact ht.2.2 d h
        · rw [ht.2.1 d h, Array.getD_eq_getD_getElem?, Array.getElem?_eq_none (by rw [ht.1]; exact h)]
          exact .undef'
      rw [Array.getD_eq_getD_getElem?] at hv
      split at hw
      · rename_i b0 hb0
        rw [hb0] at hv
        have hv := hv.bool_inv
        rw [okk] at hw; subst hw
        cases ht' : tmps[d]? with
        | none => rw [ht'] at hv; cases hv
        | some x => rw [ht'] at hv; simp only [Option.getD_some] at hv; subst hv; cases b0 <;> cases want <;> rfl
      · rename_i ts hb0
        rw [hb0] at hv
        obtain ⟨c, hc, _⟩ := hv.tuple_inv
        rw [okk] at hw; subst hw
        cases ht' : tmps[d]? with
        | none => simp
        | some x => rw [ht'] at hc; simp only [Option.getD_some] at hc; subst hc; simp
      · simp [no] at hw
theorem execA_ok (hη : OneCells η) (p : Pre η P ρ B h w) {o : Oper} {σ τ : Operand → Value} (hs : ∀ x, okO P x = true → VR η ρ (σ x) (τ x)) {a : AN} {h' : AH} (he : execA P σ o h = .ok (a, h')) : Eff η P ρ B h w (execOp τ o) a h' := by
  unfold execA at he
  rw [ite_no] at he
  obtain ⟨hok, he⟩ := he
  have hs' : ∀ x ∈ o.op.operands.toList, VR η ρ (σ x) (τ x) := fun x hx => hs x (okOps_all (by simpa using hok) x hx)
  split at he
  · simp only [bind_ok] at he
    obtain ⟨v, hv, he⟩ := he
    rw [okk] at he; injection he with e1 e2; subst e1; subst e2
    exact Eff.reader p (readA_ok hη p.glob p.hr hs' hv)
  · simp only [bind_ok] at he
    obtain ⟨⟨v, b⟩, hv, he⟩ := he
    rw [okk] at he; injection he with e1 e2; subst e1; subst e2
    obtain ⟨hown, x, w', ob, n, h1, h2, h3⟩ := allocA_ok (w := w) hη hs' hv
    have hle := Env.le_put (t := (w.heap.size, 0, n)) (p.fresh h.next (Nat.le_refl _))
    obtain ⟨k1, k2⟩ := h3 _ hle (Env.put_at _ _ _)
    exact ⟨_, w', ⟨x, h1, k1⟩, Post.new p h2 h.objs (fun _ _ hx => hx) k2⟩
  · exact effA_ok hη p hs' he
end
end Go.Ev

