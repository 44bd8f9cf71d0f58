/- Methods and calls. -/
import Derived.Test.YtangiefkpllnmaaGreatDoorEvEff3
import Derived.Test.YtangiefkpllnmaaGreatDoorEvRefl
import Derived.Lib.UnsafeStr
namespace Go.Ev
set_option linter.unusedVariables false
set_option linter.unusedSimpArgs false
variable {η : Nat → Value}
section
variable {P : Program} {ρ : Env} {B : Nat} {h : AH} {w : World}
theorem liesAt_off {e : TypeId} (hc : P.cellsOf e = 1) (count off n : Nat) (hn : off + n ≤ count) : liesAt P P.depth e count off e n = true := by
  have hd : P.depth = (2 * (P.types.size + Made.depth) + 1) + 1 := rfl
  rw [hd]
  simp only [liesAt, Bool.or_eq_true]
  left
  rw [hd]
  simp [rowAt, hc, hn, sameLayout, Nat.mod_one]
def PlR (η : Nat → Value) (ρ : Env) : APlace → Go.Place → Prop
  | .val v, .val x => VR η ρ v x
  | .var a, .var b => AdR ρ a b
  | _, _ => False
theorem PlR.get (H : HR η ρ B h w) {t : TypeId} {x : APlace} {x' : Go.Place} {v : Value} (hg : x.get P h t = .ok v) (hx : PlR η ρ x x') : ∃ y, (x'.get t).run P w = .ok y w ∧ VR η ρ v y := by
  cases x with
  | val u =>
    cases x' with
    | val u' => simp only [APlace.get, okk] at hg; subst hg; exact ⟨u', rfl, hx⟩
    | var b => exact hx.elim
  | var a =>
    cases x' with
    | val u' => exact hx.elim
    | var b => exact loadA_ok H hg hx
theorem followA_ok (H : HR η ρ B h w) : ∀ {path : List FieldStep} {t t2 : TypeId} {x y : APlace} {x' : Go.Place}, followA P h path t x = .ok (t2, y) → PlR η ρ x x' → ∃ y', (Go.follow path t x').run P w = .ok (t2, y') w ∧ PlR η ρ y y'
  | [], t, t2, x, y, x', hf, hx => by
    simp only [followA, okk] at hf; injection hf with e1 e2; subst e1; subst e2
    exact ⟨x', rfl, hx⟩
  | s :: rest, t, t2, x, y, x', hf, hx => by
    simp only [followA, bind_ok] at hf
    obtain ⟨f, hfo, hf⟩ := hf
    obtain ⟨fs, hfs, hfi⟩ := fieldOff_ok hfo
    by_cases hd : s.deref = true
    · rw [if_pos hd] at hf
      simp only [bind_ok, addrA_ok] at hf
      obtain ⟨v, hv, a, ⟨rfl, _⟩, n, hn, hf⟩ := hf
      rw [ite_no] at hf
      obtain ⟨h0, hf⟩ := hf
      obtain ⟨u, hu, hur⟩ := PlR.get (P := P) H hv hx
      obtain ⟨q, rfl, hq⟩ := hur.ptr_inv
      obtain ⟨y', hy, hyr⟩ := followA_ok H hf (x' := .var (q.add f.offset)) (hq.add _)
      refine ⟨y', ?_, hyr⟩
      simp only [Go.follow, Sem.run_bind, run_und hfs, Result.andThen_ok, hfi]
      rw [if_pos hd]
      simp only [Sem.run_bind, hu, Result.andThen_ok, asAddr, Sem.run_pure, run_place hn h0, hy]
    · rw [if_neg hd] at hf
      split at hf
      · rename_i a
        cases x' with
        | val u => exact hx.elim
        | var b =>
          simp only [bind_ok] at hf
          obtain ⟨n, hn, hf⟩ := hf
          rw [ite_no] at hf
          obtain ⟨h0, hf⟩ := hf
          obtain ⟨y', hy, hyr⟩ := followA_ok H hf (x' := .var (b.add f.offset)) (AdR.add hx _)
          refine ⟨y', ?_, hyr⟩
          simp only [Go.follow, Sem.run_bind, run_und hfs, Result.andThen_ok, hfi]
          rw [if_neg hd]
          simp only [Sem.run_bind, run_place hn h0, Result.andThen_ok, hy]
      · rename_i cs
        cases x' with
        | var b => exact hx.elim
        | val u =>
          obtain ⟨c, rfl, hl⟩ := VR.agg_inv hx
          simp only [bind_ok] at hf
          obtain ⟨pv, hp, hf⟩ := hf
          obtain ⟨r, hr, hrv⟩ := partA_ok (P := P) (w := w) hp hl
          obtain ⟨y', hy, hyr⟩ := followA_ok H hf (x' := .val r) hrv
          refine ⟨y', ?_, hyr⟩
          simp only [Go.follow, Sem.run_bind, run_und hfs, Result.andThen_ok, hfi]
          rw [if_neg hd]
          simp only [Sem.run_bind, hr, Result.andThen_ok, hy]
      · simp [no] at hf
theorem recvAt_ok (H : HR η ρ B h w) {xt : TypeId} {x : APlace} {x' : Go.Place} {ptr : Bool} {v : Value} {wr : Option String} (hr : recvAt P h xt x ptr = .ok v) (hx : PlR η ρ x x') : ∃ r, (Go.receiverAt xt x' ptr wr).run P w = .ok r w ∧ VR η ρ v r := by
  simp only [recvAt, bind_ok, undA_ok] at hr
  obtain ⟨d, hd, hr⟩ := hr
  split at hr
  · obtain ⟨y, hy, hv⟩ := PlR.get (P := P) H hr hx
    refine ⟨y, ?_, hv⟩
    simp only [Go.receiverAt, Sem.run_bind, run_und hd, Result.andThen_ok, hy]
  · rename_i elem
    simp only [bind_ok, addrA_ok] at hr
    obtain ⟨u, hu, a, ⟨rfl, _⟩, hr⟩ := hr
    obtain ⟨y, hy, hyr⟩ := PlR.get (P := P) H hu hx
    obtain ⟨q, rfl, hq⟩ := hyr.ptr_inv
    obtain ⟨r, h1, h2⟩ := loadA_ok H hr hq
    refine ⟨r, ?_, h2⟩
    cases wr with
    | none => simp only [Go.receiverAt, Sem.run_bind, run_und hd, Result.andThen_ok, hy, asAddr, Sem.run_pure, h1]
    | some nm =>
      have hck : (Builtin.ssaWrapNilChk_ #[xt] xt #[.pointer (some q), strVal "", strVal nm]).run P w = .ok (.pointer (some q)) w := rfl
      simp only [Go.receiverAt, Sem.run_bind, run_und hd, Result.andThen_ok, hy, hck, asAddr, Sem.run_pure, h1]
  · rename_i n1
    cases x' with
    | val u => exact hx.elim
    | var b =>
      rw [okk] at hr; subst hr
      refine ⟨.pointer (some b), ?_, AdR.ptr hx⟩
      simp only [Go.receiverAt, Sem.run_bind, run_und hd, Result.andThen_ok]
      cases d <;> first | rfl | exact absurd rfl (n1 _)
  · simp [no] at hr
  · rename_i n1
    obtain ⟨y, hy, hv⟩ := PlR.get (P := P) H hr hx
    refine ⟨y, ?_, hv⟩
    simp only [Go.receiverAt, Sem.run_bind, run_und hd, Result.andThen_ok]
    cases d <;> first | exact hy | exact absurd rfl (n1 _)
theorem methodA_ok (H : HR η ρ B h w) : ∀ {n : Nat} {t : TypeId} {v v' : Value} {name : String} {f : FuncId} {r : Value}, methodA P h n t v name = .ok (f, r) → VR η ρ v v' → ∃ r', (Go.method n t v' name).run P w = .ok (f, r') w ∧ VR η ρ r r'
  | 0, t, v, v', name, f, r, hm, hv => by simp [methodA, no] at hm
  | n + 1, t, v, v', name, f, r, hm, hv => by
    simp only [methodA, bind_ok, infoA_ok, orNo_ok] at hm
    obtain ⟨i, hi, m, hmm, ⟨xt, x⟩, hfo, hm⟩ := hm
    obtain ⟨x', hx, hxr⟩ := followA_ok H hfo (x' := .val v') hv
    have hfind : i.methods.find? (·.name == name) = some m := by rw [← Array.find?_toList]; exact hmm
    simp only [Go.method, Sem.run_bind, run_info hi, Result.andThen_ok, hfind, hx]
    simp only [] at hm
    split at hm
    · rename_i hfn
      simp only [bind_ok] at hm
      obtain ⟨u, hu, hm⟩ := hm
      obtain ⟨y, hy, hyr⟩ := PlR.get (P := P) H hu hxr
      rw [hfn]
      simp only [Sem.run_bind, hy, Result.andThen_ok]
      split at hm
      · obtain ⟨z, rfl, hz⟩ := hyr.iface_inv
        exact methodA_ok H hm hz
      · simp [no] at hm
    · rename_i f0 ptr hfn
      simp only [bind_ok] at hm
      obtain ⟨rv, hrv, hm⟩ := hm
      rw [okk] at hm; injection hm with e1 e2; subst e1; subst e2
      rw [hfn]
      obtain ⟨y, hy, hyr⟩ := recvAt_ok (P := P) (wr := if m.path.isEmpty then some ((name.splitOn ".").getLastD name) else none) H hrv hxr
      exact ⟨y, by simp only [Sem.run_bind, hy, Result.andThen_ok, Sem.run_pure], hyr⟩
def NR (η : Nat → Value) (ρ : Env) : AN → Result Next → World → Prop
  | .value v, r, w => ∃ x, r = .ok (.value x) w ∧ VR η ρ v x
  | .skip, r, w => r = .ok .skip w
  | .enter f args, r, w => ∃ xs, r = .ok (.enter f xs) w ∧ LR η ρ args xs.toList
  | .defer d, r, w => ∃ e, r = .ok (.defer e) w ∧ DR η ρ d e
  | .recover, r, w => r = .ok .recover w
  | .round l fn tm n asg body, r, w => ∃ b d k tmps, r = .ok (.round b fn tmps asg body) w ∧ ρ l = some (b, d, k) ∧ TR η ρ tm n tmps
  | .panic v, r, w => ∃ x, r = .halt (.panic x) w ∧ VR η ρ v x
def Eff (η : Nat → Value) (P : Program) (ρ : Env) (B : Nat) (h : AH) (w : World) (s : Sem Next) (a : AN) (h' : AH) : Prop := ∃ ρ' w', NR η ρ' a (s.run P w) w' ∧ Post η ρ B h w ρ' h' w'
theorem Eff.reader (p : Pre η P ρ B h w) {s : Sem Next} {a : AN} (hn : NR η ρ a (s.run P w) w) : Eff η P ρ B h w s a h := ⟨ρ, w, hn, .refl p⟩
theorem look_none {fn : Func} {n : String} (hn : fn.name = n) (ho : (fn.origin == fn.name || fn.origin == "") = true) (h1 : (Extern.allNextRows.lookup n).isNone = true) (h2 : (Extern.allNextRows.lookup "").isNone = true) : Extern.findNext fn = none := by
  have k1 : Extern.allNextRows.lookup n = none := by simpa using h1
  have k2 : Extern.allNextRows.lookup "" = none := by simpa using h2
  unfold Extern.findNext
  have hor : fn.origin = n ∨ fn.origin = "" := by
    rw [Bool.or_eq_true] at ho
    rcases ho with ho | ho
    · exact .inl ((beq_iff_eq.1 ho).trans hn)
    · exact .inr (beq_iff_eq.1 ho)
  rcases hor with e | e <;> simp only [hn, e, k1, k2] <;> rfl
theorem look_find {fn : Func} {n : String} {e : Array Value → Sem Value} (hn : fn.name = n) (h1 : (Extern.allGenericRows.lookup n).isNone = true) (h2 : (Extern.allTypedRows.lookup n).isNone = true) (h3 : Extern.allRows.lookup n = some e) : Extern.find fn = some e := by
  have k1 : Extern.allGenericRows.lookup n = none := by simpa using h1
  have k2 : Extern.allTypedRows.lookup n = none := by simpa using h2
  unfold Extern.find
  simp only [hn, k1, k2, h3]; rfl
theorem look_typed {fn : Func} {n : String} {e : Extern.Typed} (hn : fn.name = n) (h1 : (Extern.allGenericRows.lookup n).isNone = true) (h2 : Extern.allTypedRows.lookup n = some e) : Extern.find fn = some (e fn.params fn.resultTypes) := by
  have k1 : Extern.allGenericRows.lookup n = none := by simpa using h1
  unfold Extern.find
  simp only [hn, k1, h2]; rfl
theorem digits_len : ∀ (n t : Nat) (acc : Array Value), (Extern.BytealgMakeNoZero.digits n t acc).size = acc.size + n
  | 0, t, acc => rfl
  | n + 1, t, acc => by
    simp only [Extern.BytealgMakeNoZero.digits]
    rw [digits_len n, Array.size_push]; omega
theorem reflectA_ok (hη : OneCells η) (p : Pre η P ρ B h w) {f : FuncId} {fn : Func} {args : List Value} {args' : Array Value} {a : AN} {h' : AH} (hf : P.funcs[f]? = some fn) (hnm : (fn.name == "runtime.NumGoroutine") = false) (hb : fn.body.isNone = true) (ho : (fn.origin == fn.name || fn.origin == "") = true) (hc : reflectA P h fn args = .ok (a, h')) (hl : LR η ρ args args'.toList) :
    Eff η P ρ B h w (callFunc f args') a h' := by
  have hG := p.glob
  have one : ∀ {x : Value}, args = [x] → ∃ x', args' = #[x'] ∧ VR η ρ x x' := by
    intro x e; subst e
    obtain ⟨x', m, hm, hx, hm'⟩ := hl.inv_cons
    have := hm'.inv_nil; subst this
    exact ⟨x', by rw [← Array.toArray_toList (xs := args'), hm], hx⟩
  have two : ∀ {x y : Value}, args = [x, y] → ∃ x' y', args' = #[x', y'] ∧ VR η ρ x x' ∧ VR η ρ y y' := by
    intro x y e; subst e
    obtain ⟨x', m, hm, hx, hm'⟩ := hl.inv_cons
    obtain ⟨y', m2, hm2, hy, hm2'⟩ := hm'.inv_cons
    have := hm2'.inv_nil; subst this; subst hm2
    exact ⟨x', y', by rw [← Array.toArray_toList (xs := args'), hm], hx, hy⟩
  have nx : (Extern.allNextRows.lookup "").isNone = true := by kernel_rfl
  have put : ∀ {n : String} {e : Array Value → Sem Value} {v x : Value}, fn.name = n → (Extern.allNextRows.lookup n).isNone = true → (Extern.allGenericRows.lookup n).isNone = true → (Extern.allTypedRows.lookup n).isNone = true → Extern.allRows.lookup n = some e → (e args').run P w = .ok x w → VR η ρ v x → Eff η P ρ B h w (callFunc f args') (.value v) h := by
    intro n e v x hn k1 k2 k3 k4 hr hv
    refine Eff.reader p ⟨x, ?_, hv⟩
    rw [run_callFunc_extern hf hnm hb (look_none hn ho k1 nx) (look_find hn k2 k3 k4), hr]
    rfl
  unfold reflectA at hc
  by_cases hn : fn.name = "internal/reflectlite.TypeOf"
  · rw [if_pos hn] at hc
    split at hc
    · obtain ⟨x', rfl, hx⟩ := one rfl
      have := hx.nilIface_inv; subst this
      rw [okk] at hc; injection hc with e1 e2; subst e1; subst e2
      exact put hn (by kernel_rfl) (by kernel_rfl) (by kernel_rfl) (e := Extern.ReflectliteType.typeOf) (by kernel_rfl) rfl .nilIface
    · rename_i t v
      obtain ⟨x', rfl, hx⟩ := one rfl
      obtain ⟨y, rfl, hy⟩ := hx.iface_inv
      simp only [bind_ok] at hc
      obtain ⟨u, hu, hc⟩ := hc
      rw [okk] at hc; injection hc with e1 e2; subst e1; subst e2
      obtain ⟨z, hz, hzv⟩ := rtypeA_ok (w := w) (η := η) hG hu
      exact put hn (by kernel_rfl) (by kernel_rfl) (by kernel_rfl) (e := Extern.ReflectliteType.typeOf) (by kernel_rfl) hz hzv
    · simp [no] at hc
  · rw [if_neg hn] at hc
    by_cases hn : fn.name = "(internal/reflectlite.rtype).Elem"
    · rw [if_pos hn] at hc
      split at hc
      · obtain ⟨x', rfl, hx⟩ := one rfl
        simp only [bind_ok] at hc
        obtain ⟨t, ht, o, hel, hc⟩ := hc
        have k1 := ofRtA_ok (w := w) hG ht hx
        have k2 := runR_ok (.elem _) hel w
        split at hc
        · rename_i e
          simp only [bind_ok] at hc
          obtain ⟨u, hu, hc⟩ := hc
          rw [okk] at hc; injection hc with e1 e2; subst e1; subst e2
          obtain ⟨z, hz, hzv⟩ := rtypeA_ok (w := w) (η := η) hG hu
          refine put hn (by kernel_rfl) (by kernel_rfl) (by kernel_rfl) (e := Extern.ReflectliteType.method Extern.ReflectliteType.elem) (by kernel_rfl) (x := z) ?_ hzv
          have e : ∀ g : TypeId → Sem Value, Extern.ReflectliteType.method g #[x'] = (do g (← Extern.ReflectliteType.ofRtype x')) := fun _ => rfl
          rw [e]
          simp only [Extern.ReflectliteType.elem, Sem.run_bind, k1, k2, Result.andThen_ok, hz]
        · simp [no] at hc
      · simp [no] at hc
    · rw [if_neg hn] at hc
      by_cases hn : fn.name = "(internal/reflectlite.rtype).Implements"
      · rw [if_pos hn] at hc
        split at hc
        · obtain ⟨x', y', rfl, hx, hy⟩ := two rfl
          obtain ⟨z, rfl, hz⟩ := hy.iface_inv
          simp only [bind_ok] at hc
          obtain ⟨c, hc1, d, hc2, b, hc3, hc⟩ := hc
          rw [okk] at hc; injection hc with e1 e2; subst e1; subst e2
          have k1 := ofRtA_ok (w := w) hG hc1 hz
          have k2 := ofRtA_ok (w := w) hG hc2 hx
          have k3 := runR_ok (.implements_ _ _) hc3 w
          refine put hn (by kernel_rfl) (by kernel_rfl) (by kernel_rfl) (e := Extern.ReflectliteType.relation "Implements" Extern.ReflectliteType.implements_) (by kernel_rfl) (x := .bool b) ?_ (.bool _)
          have e : ∀ (g : String) (r : TypeId → TypeId → Sem Bool) (T : TypeId), Extern.ReflectliteType.relation g r #[x', .iface T z] = (do pure (.bool (← r (← Extern.ReflectliteType.ofRtype z) (← Extern.ReflectliteType.ofRtype x')))) := fun _ _ _ => rfl
          rw [e]
          simp only [Sem.run_bind, k1, k2, k3, Result.andThen_ok, Sem.run_pure]
        · simp [no] at hc
      · rw [if_neg hn] at hc
        by_cases hn : fn.name = "(internal/reflectlite.rtype).AssignableTo"
        · rw [if_pos hn] at hc
          split at hc
          · obtain ⟨x', y', rfl, hx, hy⟩ := two rfl
            obtain ⟨z, rfl, hz⟩ := hy.iface_inv
            simp only [bind_ok] at hc
            obtain ⟨c, hc1, d, hc2, b, hc3, hc⟩ := hc
            rw [okk] at hc; injection hc with e1 e2; subst e1; subst e2
            have k1 := ofRtA_ok (w := w) hG hc1 hz
            have k2 := ofRtA_ok (w := w) hG hc2 hx
            have k3 := runR_ok (.assignable _ _) hc3 w
            refine put hn (by kernel_rfl) (by kernel_rfl) (by kernel_rfl) (e := Extern.ReflectliteType.relation "AssignableTo" Extern.ReflectliteType.assignableTo) (by kernel_rfl) (x := .bool b) ?_ (.bool _)
            have e : ∀ (g : String) (r : TypeId → TypeId → Sem Bool) (T : TypeId), Extern.ReflectliteType.relation g r #[x', .iface T z] = (do pure (.bool (← r (← Extern.ReflectliteType.ofRtype z) (← Extern.ReflectliteType.ofRtype x')))) := fun _ _ _ => rfl
            rw [e]
            simp only [Sem.run_bind, k1, k2, k3, Result.andThen_ok, Sem.run_pure]
          · simp [no] at hc
        · rw [if_neg hn] at hc
          by_cases hn : fn.name = "(*internal/abi.Type).Kind"
          · rw [if_pos hn] at hc
            split at hc
            · obtain ⟨x', rfl, hx⟩ := one rfl
              simp only [bind_ok] at hc
              obtain ⟨t, ht, u, hu, k, hk, hc⟩ := hc
              rw [okk] at hc; injection hc with e1 e2; subst e1; subst e2
              have k1 := (handA_ok (w := w) hG ht hx).2
              have k2 := runR_ok (.noPack _ _) hu w
              have k3 := runR_ok (.kind _) hk w
              refine put hn (by kernel_rfl) (by kernel_rfl) (by kernel_rfl) (e := Extern.ReflectliteType.abiMethod fun t => do pure (.int .u8 (← Extern.Rtype.kind t))) (by kernel_rfl) (x := .int .u8 k) ?_ (.int _ _)
              have e : ∀ g : TypeId → Sem Value, Extern.ReflectliteType.abiMethod g #[x'] = (do let t ← Extern.Rtype.ofHandle x'; Extern.Rtype.noPack "a method of abi.Type" t; g t) := fun _ => rfl
              rw [e]
              simp only [Sem.run_bind, k1, k2, k3, Result.andThen_ok, Sem.run_pure]
            · simp [no] at hc
          · rw [if_neg hn] at hc
            by_cases hn : fn.name = "(internal/reflectlite.rtype).Comparable"
            · rw [if_pos hn] at hc
              split at hc
              · obtain ⟨x', rfl, hx⟩ := one rfl
                simp only [bind_ok, infoA_ok] at hc
                obtain ⟨t, ht, u, hu, i, hi, hc⟩ := hc
                rw [okk] at hc; injection hc with e1 e2; subst e1; subst e2
                have k1 := ofRtA_ok (w := w) hG ht hx
                have k2 := runR_ok (.noPackHeld _ _) hu w
                refine put hn (by kernel_rfl) (by kernel_rfl) (by kernel_rfl) (e := Extern.ReflectliteType.method fun t => do Extern.Rtype.noPackHeld "Comparable" t; pure (.bool (← typeInfo t).comparable)) (by kernel_rfl) (x := .bool i.comparable) ?_ (.bool _)
                have e : ∀ g : TypeId → Sem Value, Extern.ReflectliteType.method g #[x'] = (do g (← Extern.ReflectliteType.ofRtype x')) := fun _ => rfl
                rw [e]
                simp only [Sem.run_bind, k1, k2, run_info hi, Result.andThen_ok, Sem.run_pure]
              · simp [no] at hc
            · rw [if_neg hn] at hc
              by_cases hn : fn.name = "internal/reflectlite.ValueOf"
              · rw [if_pos hn] at hc
                split at hc
                · rename_i t v
                  obtain ⟨x', rfl, hx⟩ := one rfl
                  obtain ⟨y, rfl, hy⟩ := hx.iface_inv
                  simp only [bind_ok] at hc
                  obtain ⟨u, hu, hc⟩ := hc
                  rw [okk] at hc; injection hc with e1 e2; subst e1; subst e2
                  have hle := Env.le_put (t := (w.heap.size, 0, y.cells.size)) (p.fresh h.next (Nat.le_refl _))
                  have hG' := hG.mono hle
                  obtain ⟨z, hz, hzv⟩ := mkVA_ok (w := wpush w (.cells y.cells t)) (η := η) (b := ⟨w.heap.size, 0, none⟩) hG' hu ⟨rfl, _, _, _, Env.put_at _ _ _, rfl⟩
                  refine ⟨ρ.put h.next (w.heap.size, 0, y.cells.size), wpush w (.cells y.cells t), ⟨z, ?_, hzv⟩, Post.new p (w' := wpush w (.cells y.cells t)) (ob := .cells y.cells t) ⟨rfl, rfl, rfl, rfl⟩ h.objs (fun _ _ hx => hx) ?_⟩
                  · rw [run_callFunc_extern hf hnm hb (look_none hn ho (by kernel_rfl) nx) (look_find hn (by kernel_rfl) (by kernel_rfl) (e := fun args => Extern.ReflectliteValue.unpack (args.getD 0 (.tuple #[]))) (by kernel_rfl))]
                    have e : Extern.ReflectliteValue.unpack (#[Value.iface t y].getD 0 (.tuple #[])) = (do Extern.ReflectliteValue.mk t (← newVar t y) 0) := rfl
                    rw [e]
                    simp only [Sem.run_bind, run_newVar, Result.andThen_ok, hz]
                  · exact CR.new ((hy.mono hle).cells hη)
                · simp [no] at hc
              · rw [if_neg hn] at hc
                by_cases hn : fn.name = "(internal/reflectlite.Value).Type"
                · rw [if_pos hn] at hc
                  split at hc
                  · obtain ⟨x', rfl, hx⟩ := one rfl
                    simp only [bind_ok] at hc
                    obtain ⟨⟨t, a', f'⟩, ht, u, hu, hc⟩ := hc
                    rw [okk] at hc; injection hc with e1 e2; subst e1; subst e2
                    obtain ⟨b, hb', k1, _⟩ := valA_ok (w := w) hG ht hx
                    obtain ⟨z, hz, hzv⟩ := rtypeA_ok (w := w) (η := η) hG hu
                    refine put hn (by kernel_rfl) (by kernel_rfl) (by kernel_rfl) (e := Extern.ReflectliteValue.methodAny (Extern.ReflectliteValue.valueError "reflectlite.Value.Type" 0) fun t _ _ _ => Extern.ReflectliteType.toType t) (by kernel_rfl) (x := z) ?_ hzv
                    have e : ∀ (g : Sem Value) (r : TypeId → Addr → Nat → Nat → Sem Value), Extern.ReflectliteValue.methodAny g r #[x'] = (do match ← Extern.ReflectliteValue.partsAny x' with | none => g | some (t, a, fl) => r t a fl (fl % 32)) := fun _ _ => rfl
                    rw [e]
                    simp only [Sem.run_bind, k1, Result.andThen_ok, hz]
                  · simp [no] at hc
                · rw [if_neg hn] at hc
                  by_cases hn : fn.name = "(internal/reflectlite.Value).IsNil"
                  · rw [if_pos hn] at hc
                    split at hc
                    · obtain ⟨x', rfl, hx⟩ := one rfl
                      simp only [bind_ok] at hc
                      obtain ⟨⟨t, a', f'⟩, ht, hc⟩ := hc
                      rw [ite_no] at hc
                      obtain ⟨hk, hc⟩ := hc
                      rw [Bool.not_eq_false] at hk
                      simp only [bind_ok] at hc
                      obtain ⟨u, hu, hc⟩ := hc
                      obtain ⟨b, hb', _, k1⟩ := valA_ok (w := w) hG ht hx
                      have k1 := k1 rfl
                      obtain ⟨z, hz, hzv⟩ := loadA_ok p.hr hu hb'
                      split at hc
                      · rw [okk] at hc; injection hc with e1 e2; subst e1; subst e2
                        have := hzv.ptr0_inv; subst this
                        refine put hn (by kernel_rfl) (by kernel_rfl) (by kernel_rfl) (e := Extern.ReflectliteValue.method (Extern.ReflectliteValue.valueError "reflectlite.Value.IsNil" 0) Extern.ReflectliteValue.isNil) (by kernel_rfl) (x := .bool true) ?_ (.bool _)
                        have e : ∀ (g : Sem Value) (r : TypeId → Addr → Nat → Nat → Sem Value), Extern.ReflectliteValue.method g r #[x'] = (do match ← Extern.ReflectliteValue.parts x' with | none => g | some (t, a, fl) => r t a fl (fl % 32)) := fun _ _ => rfl
                        rw [e]
                        simp only [Extern.ReflectliteValue.isNil, Sem.run_bind, k1, Result.andThen_ok, hk, Bool.not_true, Bool.false_eq_true, if_false, hz, Sem.run_pure]
                      · rw [okk] at hc; injection hc with e1 e2; subst e1; subst e2
                        obtain ⟨q, rfl, hq⟩ := hzv.ptr_inv
                        refine put hn (by kernel_rfl) (by kernel_rfl) (by kernel_rfl) (e := Extern.ReflectliteValue.method (Extern.ReflectliteValue.valueError "reflectlite.Value.IsNil" 0) Extern.ReflectliteValue.isNil) (by kernel_rfl) (x := .bool false) ?_ (.bool _)
                        have e : ∀ (g : Sem Value) (r : TypeId → Addr → Nat → Nat → Sem Value), Extern.ReflectliteValue.method g r #[x'] = (do match ← Extern.ReflectliteValue.parts x' with | none => g | some (t, a, fl) => r t a fl (fl % 32)) := fun _ _ => rfl
                        rw [e]
                        simp only [Extern.ReflectliteValue.isNil, Sem.run_bind, k1, Result.andThen_ok, hk, Bool.not_true, Bool.false_eq_true, if_false, hz, Sem.run_pure]
                      · simp [no] at hc
                    · simp [no] at hc
                  · rw [if_neg hn] at hc
                    by_cases hn : fn.name = "(internal/reflectlite.Value).Elem"
                    · rw [if_pos hn] at hc
                      split at hc
                      · obtain ⟨x', rfl, hx⟩ := one rfl
                        simp only [bind_ok] at hc
                        obtain ⟨⟨t, a', f'⟩, ht, hc⟩ := hc
                        rw [ite_no] at hc
                        obtain ⟨hk, hc⟩ := hc
                        have hk : f' % 32 = 22 := by simpa using hk
                        simp only [bind_ok] at hc
                        obtain ⟨u, hu, o, hel, hc⟩ := hc
                        obtain ⟨b, hb', _, k1⟩ := valA_ok (w := w) hG ht hx
                        have k1 := k1 rfl
                        obtain ⟨z, hz, hzv⟩ := loadA_ok p.hr hu hb'
                        have k2 := runR_ok (.elem _) hel w
                        split at hc
                        · simp only [bind_ok] at hc
                          obtain ⟨v2, hv2, hc⟩ := hc
                          rw [okk] at hc; injection hc with e1 e2; subst e1; subst e2
                          obtain ⟨q, rfl, hq⟩ := hzv.ptr_inv
                          obtain ⟨z2, hz2, hzv2⟩ := mkVA_ok (w := w) (η := η) hG hv2 hq
                          refine put hn (by kernel_rfl) (by kernel_rfl) (by kernel_rfl) (e := Extern.ReflectliteValue.method (Extern.ReflectliteValue.valueError "reflectlite.Value.Elem" 0) Extern.ReflectliteValue.elem) (by kernel_rfl) (x := z2) ?_ hzv2
                          have e : ∀ (g : Sem Value) (r : TypeId → Addr → Nat → Nat → Sem Value), Extern.ReflectliteValue.method g r #[x'] = (do match ← Extern.ReflectliteValue.parts x' with | none => g | some (t, a, fl) => r t a fl (fl % 32)) := fun _ _ => rfl
                          rw [e]
                          simp only [Extern.ReflectliteValue.elem, Sem.run_bind, k1, Result.andThen_ok, hk]
                          rw [if_neg (by decide)]
                          simp only [Sem.run_bind, hz, k2, Result.andThen_ok]
                          exact hz2
                        · simp [no] at hc
                      · simp [no] at hc
                    · rw [if_neg hn] at hc
                      by_cases hn : fn.name = "(internal/reflectlite.Value).Set"
                      · rw [if_pos hn] at hc
                        split at hc
                        · obtain ⟨x', y', rfl, hx, hy⟩ := two rfl
                          simp only [bind_ok] at hc
                          obtain ⟨⟨t, a', f'⟩, ht, ⟨t2, a2, f2⟩, ht2, hc⟩ := hc
                          rw [ite_no] at hc
                          obtain ⟨hk, hc⟩ := hc
                          simp only [bind_ok] at hc
                          obtain ⟨u, hu, bb, hbb, hc⟩ := hc
                          rw [ite_no] at hc
                          obtain ⟨hbt, hc⟩ := hc
                          rw [Bool.not_eq_false] at hbt
                          subst hbt
                          simp only [bind_ok] at hc
                          obtain ⟨h2, hst, hc⟩ := hc
                          rw [okk] at hc; injection hc with e1 e2; subst e1; subst e2
                          obtain ⟨b, hb', _, k1⟩ := valA_ok (w := w) hG ht hx
                          obtain ⟨b2, hb2', _, k2⟩ := valA_ok (w := w) hG ht2 hy
                          have k1 := k1 rfl
                          have k2 := k2 rfl
                          obtain ⟨z, hz, hzv⟩ := loadA_ok p.hr hu hb2'
                          have k3 := runR_ok (.direct _ _) hbb w
                          simp only [storeA, bind_ok] at hst
                          obtain ⟨n, hn2, hst⟩ := hst
                          rw [ite_no] at hst
                          obtain ⟨hlen, hst⟩ := hst
                          have hcl := hzv.cells hη
                          obtain ⟨w', hw', hp⟩ := storeC_ok (P := P) hη p hst hb' hcl
                          have hsz : z.cells.size = n := by
                            have e1 := hcl.len
                            have e2 : z.cells.size = z.cells.toList.length := rfl
                            omega
                          refine ⟨ρ, w', ⟨.tuple #[], ?_, .tup' .nil⟩, hp⟩
                          rw [run_callFunc_extern hf hnm hb (look_none hn ho (by kernel_rfl) nx) (look_find hn (by kernel_rfl) (by kernel_rfl) (e := Extern.ReflectliteValue.set) (by kernel_rfl))]
                          have e : Extern.ReflectliteValue.set #[x', y'] = (do
                            let (some (dst, a, fl), some (src, b, _)) := (← Extern.ReflectliteValue.parts x', ← Extern.ReflectliteValue.parts y')
                              | unsupported (.noEntry "extern/(internal/reflectlite.Value).Set.zeroValue")
                            if fl / Extern.ReflectliteValue.flagAddr % 2 == 0 then unsupported (.noEntry "extern/(internal/reflectlite.Value).Set.unaddressable")
                            let val ← loadVar src b
                            if ← Extern.Rtype.directlyAssignable dst src then storeVar dst a val
                            else if ← Extern.Rtype.implements dst src then
                              if (← Extern.Rtype.kind src) == 20 then
                                match val with
                                | .nilIface => unsupported (.noEntry "extern/reflectlite: a nil value of one interface type handed on as a value of another")
                                | _ => storeVar dst a val
                              else storeVar dst a (.iface src val)
                            else panicString ("reflectlite.Set: value of type " ++ (← Extern.Rtype.spelt src) ++ " is not assignable to type " ++ (← Extern.Rtype.spelt dst))
                            pure (.tuple #[])) := rfl
                          have hfl : (f' / Extern.ReflectliteValue.flagAddr % 2 == 0) = false := by
                            unfold Extern.ReflectliteValue.flagAddr
                            cases hq : f' / 256 % 2 == 0 with
                            | false => rfl
                            | true => exact absurd (beq_iff_eq.1 hq) hk
                          rw [e]
                          simp only [Sem.run_bind, k1, k2, Result.andThen_ok, hfl, Bool.false_eq_true, if_false, hz, k3, if_true, storeVar, run_size hn2, Sem.run_pure]
                          rw [if_neg (by omega)]
                          simp only [Sem.run_bind, hw', Result.andThen_ok, Sem.run_pure]
                        · simp [no] at hc
                      · rw [if_neg hn] at hc; simp [no] at hc
theorem run_lb {l vs : List Value} (hl : LR η ρ l vs) : ∀ {bs : List UInt8}, bytesOf l = .ok bs → ∀ (a : Addr) (acc : ByteArray), a.spot = none → (∀ (j : Nat) (v : Value), vs[j]? = some v → w.cell? (a.add j) = some v) → (Extern.Bytes.loadBytes a l.length acc).run P w = .ok ⟨⟨acc.data.toList ++ bs⟩⟩ w := by
  induction l generalizing vs with
  | nil =>
    intro bs hb a acc _ _
    simp only [bytesOf, okk] at hb; subst hb
    simp only [List.length_nil, Extern.Bytes.loadBytes, Sem.run_pure, List.append_nil]
  | cons v l ih =>
    intro bs hb a acc ha hc
    obtain ⟨x, m, rfl, hx, hm⟩ := hl.inv_cons
    unfold bytesOf at hb
    split at hb
    · rename_i e; cases e
    · rename_i n r e
      injection e with e1 e2; subst e1; subst e2
      have := hx.int_inv; subst this
      split at hb
      · rename_i l' hl'
        rw [okk] at hb; subst hb
        have h0 := hc 0 _ rfl
        have hz : a.add 0 = a := by simp [Addr.add]
        rw [hz] at h0
        have k := ih hm hl' (a.add 1) (acc.push n.toNat.toUInt8) (by rw [add_eq ha]) (fun j v hj => by
          have := hc (j + 1) v (by simpa using hj)
          rw [add_eq ha, add_eq rfl]
          rw [add_eq ha] at this
          rw [show a.off + 1 + j = a.off + (j + 1) by omega]; exact this)
        simp only [List.length_cons, Extern.Bytes.loadBytes, Sem.run_bind, run_load, h0, Result.andThen_ok]
        rw [k]
        congr 1
        apply byteArray_ext
        simp [ByteArray.push]
      · cases hb
    · simp [no] at hb
theorem run_indexByte_any {x : Value} {s : ByteArray} {c : Int} (hb : (Extern.Bytes.bytesOf x).run P w = .ok s w) : (Extern.BytealgIndexByte.indexByte #[x, .int .u8 c]).run P w = .ok (.int .i64 (firstIdx s c.toNat.toUInt8)) w := by
  change Sem.run P (do
    let b ← Extern.Bytes.bytesOf x
    let c' ← Extern.Bytes.asByte (.int .u8 c)
    match (List.range b.size).find? fun i => b[i]! == c' with
    | some i => pure (goInt i)
    | none => pure (goInt (-1))) w = _
  simp only [Sem.run_bind, hb, Extern.Bytes.asByte, firstIdx, Sem.run_pure, Result.andThen]
  generalize (List.range s.size).find? (fun i => s[i]! == c.toNat.toUInt8) = r
  cases r <;> rfl
theorem externA_ok (hη : OneCells η) (p : Pre η P ρ B h w) {f : FuncId} {fn : Func} {args : List Value} {args' : Array Value} {a : AN} {h' : AH} (hf : P.funcs[f]? = some fn) (hnm : (fn.name == "runtime.NumGoroutine") = false) (hb : fn.body.isNone = true) (hc : externA P h fn args = .ok (a, h')) (hl : LR η ρ args args'.toList) :
    Eff η P ρ B h w (callFunc f args') a h' := by
  have one : ∀ {x : Value}, args = [x] → ∃ x', args' = #[x'] ∧ VR η ρ x x' := by
    intro x e; subst e
    obtain ⟨x', m, hm, hx, hm'⟩ := hl.inv_cons
    have := hm'.inv_nil; subst this
    exact ⟨x', by rw [← Array.toArray_toList (xs := args'), hm], hx⟩
  have two : ∀ {x y : Value}, args = [x, y] → ∃ x' y', args' = #[x', y'] ∧ VR η ρ x x' ∧ VR η ρ y y' := by
    intro x y e; subst e
    obtain ⟨x', m, hm, hx, hm'⟩ := hl.inv_cons
    obtain ⟨y', m2, hm2, hy, hm2'⟩ := hm'.inv_cons
    have := hm2'.inv_nil; subst this; subst hm2
    exact ⟨x', y', by rw [← Array.toArray_toList (xs := args'), hm], hx, hy⟩
  unfold externA at hc
  rw [ite_no] at hc
  obtain ⟨ho, hc⟩ := hc
  rw [Bool.not_eq_false] at ho
  have nx : (Extern.allNextRows.lookup "").isNone = true := by kernel_rfl
  split at hc
  · rename_i hn
    split at hc
    · rename_i x
      obtain ⟨x', rfl, hx⟩ := one rfl
      rw [okk] at hc; injection hc with e1 e2; subst e1; subst e2
      refine Eff.reader p ⟨x', ?_, hx⟩
      rw [run_callFunc_extern hf hnm hb (look_none hn ho (by kernel_rfl) nx) (look_find hn (by kernel_rfl) (by kernel_rfl) (e := Extern.AbiNoEscape.same) (by rfl))]
      rfl
    · simp [no] at hc
  · split at hc
    · rename_i hn
      split at hc
      · rename_i s c
        obtain ⟨x', y', rfl, hx, hy⟩ := two rfl
        have := hx.string_inv; have := hy.int_inv; subst_vars
        rw [okk] at hc; injection hc with e1 e2; subst e1; subst e2
        refine Eff.reader p ⟨_, ?_, .int _ _⟩
        rw [run_callFunc_extern hf hnm hb (look_none hn ho (by kernel_rfl) nx) (look_find hn (by kernel_rfl) (by kernel_rfl) (e := Extern.BytealgIndexByte.indexByte) (by rfl))]
        rw [run_indexByte_string]; rfl
      · simp [no] at hc
    · split at hc
      · rename_i hn
        split at hc
        · rename_i ad n c0 c
          simp only [bind_ok] at hc
          obtain ⟨cs, hcs, bs, hbs, hc⟩ := hc
          rw [okk] at hc; injection hc with e1 e2; subst e1; subst e2
          obtain ⟨x', y', rfl, hx, hy⟩ := two rfl
          have := hy.int_inv; subst this
          obtain ⟨a', c', rfl, hcc⟩ := hx.slice_inv
          obtain ⟨q, rfl, hq⟩ : ∃ q, a' = some q ∧ AdR ρ ad q := by
            rcases hcc with ⟨e, _⟩ | ⟨_, q, e, e', hq, _⟩ | ⟨_, q, _, _, _, _, e, e', hq, _⟩
            · cases e
            · cases e; exact ⟨q, e', hq⟩
            · cases e; exact ⟨q, e', hq⟩
          obtain ⟨vs, h1, h2, h3⟩ := getC_ok p.hr hcs hq
          obtain ⟨_, n', blk, d', h5, rfl⟩ := hq
          have hlen : cs.length = n := by rw [← h2, h1.len]
          have hlb := run_lb (P := P) (w := w) h1 hbs ⟨blk, d' + ad.off, none⟩ .empty rfl h3
          rw [hlen] at hlb
          refine Eff.reader p ⟨_, ?_, .int _ _⟩
          rw [run_callFunc_extern hf hnm hb (look_none hn ho (by kernel_rfl) nx) (look_find hn (by kernel_rfl) (by kernel_rfl) (e := Extern.BytealgIndexByte.indexByte) (by rfl))]
          have hbo : (Extern.Bytes.bytesOf (.slice (some ⟨blk, d' + ad.off, none⟩) n c')).run P w = .ok ⟨⟨bs⟩⟩ w := by
            show (Extern.Bytes.loadBytes ⟨blk, d' + ad.off, none⟩ n .empty).run P w = _
            rw [hlb]; rfl
          rw [run_indexByte_any hbo]; rfl
        · simp [no] at hc
      · split at hc
        · rename_i hn
          split at hc
          · rename_i s c
            obtain ⟨x', y', rfl, hx, hy⟩ := two rfl
            have := hx.string_inv; have := hy.int_inv; subst_vars
            rw [okk] at hc; injection hc with e1 e2; subst e1; subst e2
            refine Eff.reader p ⟨_, ?_, .int _ _⟩
            rw [run_callFunc_extern hf hnm hb (look_none hn ho (by kernel_rfl) nx) (look_find hn (by kernel_rfl) (by kernel_rfl) (e := Extern.BytealgCount.count) (by rfl))]
            rfl
          · simp [no] at hc
        · split at hc
          · rename_i hn
            split at hc
            · rename_i n t hres
              simp only [bind_ok, undA_ok] at hc
              obtain ⟨d, hd, hc⟩ := hc
              split at hc
              · rename_i e
                rw [ite_no, okk] at hc
                obtain ⟨hr, hc⟩ := hc
                injection hc with e1 e2; subst e1; subst e2
                have hargs : args' = #[.int .i64 n] := by
                  obtain ⟨x', h1, h2⟩ := one rfl
                  rw [h1, h2.int_inv]
                subst hargs
                have hr0 : fn.resultTypes[0]? = some t := by rw [← Array.getElem?_toList, hres]; rfl
                generalize hq : (Question.appendCap n.toNat 0 e).cut (w.tape w.drawn (Question.appendCap n.toNat 0 e)) = cap
                have hcap : n.toNat ≤ cap := by rw [← hq]; simp only [Question.cut]; omega
                have hcb : cap < capB := by
                  rw [← hq]; simp only [Question.cut]; unfold capB
                  have := Nat.mod_lt (w.tape w.drawn (Question.appendCap n.toNat 0 e)) (show 0 < 2 ^ 63 - n.toNat by omega)
                  omega
                have hch : (choose (.appendCap n.toNat 0 e)).run P w = .ok cap { w with drawn := w.drawn + 1 } := by
                  rw [run_choose, hq]; simp [Question.forced]
                obtain ⟨by_, w2, hch2, hw2h, hw2o, hw2t, hw2p⟩ : ∃ by_ w2, (choose (.extern "internal/bytealg.MakeNoZero.bytes" 0)).run P { w with drawn := w.drawn + 1 } = .ok by_ w2 ∧ w2.heap = w.heap ∧ w2.os = w.os ∧ w2.tape = w.tape ∧ w2.output = w.output := by
                  rw [run_choose]
                  simp only [Question.forced]
                  exact ⟨_, _, rfl, rfl, rfl, rfl, rfl⟩
                obtain ⟨C, hC⟩ : ∃ C : Array Value, Extern.BytealgMakeNoZero.digits cap by_ #[] = C := ⟨_, rfl⟩
                have hCs : C.size = cap := by rw [← hC, digits_len]; simp
                have hrun : (Extern.BytealgMakeNoZero.makeNoZero fn.params fn.resultTypes #[.int .i64 n]).run P w = .ok (.slice (some ⟨w.heap.size, 0, none⟩) n.toNat cap) (wpush w2 (.cells C e)) := by
                  have hdef : Extern.BytealgMakeNoZero.makeNoZero fn.params fn.resultTypes #[.int .i64 n] = (do
                    let some t := fn.resultTypes[0]? | stuck "bytealg.MakeNoZero: no result type"
                    let .slice elem ← underlying t | stuck "bytealg.MakeNoZero: slice type expected"
                    if n < 0 || n > 2 ^ 48 then runtimePanic (.error "makeslice: len out of range")
                    let cap ← choose (.appendCap n.toNat 0 elem)
                    askRoom cap
                    let bytes ← choose (.extern "internal/bytealg.MakeNoZero.bytes" 0)
                    let a ← newRow elem (Extern.BytealgMakeNoZero.digits cap bytes #[])
                    pure (.slice (some a) n.toNat cap)) := rfl
                  rw [hdef, hr0]
                  simp only [Sem.run_bind, run_und hd, Result.andThen_ok]
                  rw [if_neg (by simp only [Bool.or_eq_true, decide_eq_true_eq]; omega)]
                  simp only [Sem.run_bind, Sem.run_pure, hch, run_askRoom, hch2, Result.andThen_ok, hC, run_newRow, hw2h]
                have hle := Env.le_put (t := (w.heap.size, 0, cap)) (p.fresh h.next (Nat.le_refl _))
                refine ⟨ρ.put h.next (w.heap.size, 0, cap), wpush w2 (.cells C e), ⟨.slice (some ⟨w.heap.size, 0, none⟩) n.toNat cap, ?_, ?_⟩, Post.new p (w' := wpush w2 (.cells C e)) (ob := .cells C e) ⟨(show (w2.heap.push (.cells C e)) = w.heap.push (.cells C e) by rw [hw2h]), hw2o, hw2t, hw2p⟩ h.objs (fun _ _ hx => hx) ?_⟩
                · rw [run_callFunc_extern hf hnm hb (look_none hn ho (by kernel_rfl) nx) (look_typed hn (by kernel_rfl) (e := Extern.BytealgMakeNoZero.makeNoZero) (by rfl)), hrun]
                  rfl
                · have := VR.sliceU (η := η) (ρ := ρ.put h.next (w.heap.size, 0, cap)) (o := 0) n.toNat 1 cap (Env.put_at _ _ _) (by omega) (by omega) hcap hcb
                  exact this
                · refine ⟨C, e, 0, 0, rfl, ⟨rfl, ?_, by simp, fun i v hv => by simp at hv, (fun h => absurd h (by decide)), (fun _ i _ hh => by omega)⟩⟩
                  have : C.toList.length = C.size := rfl
                  omega
              · simp [no] at hc
            · simp [no] at hc
          · exact reflectA_ok hη p hf hnm hb ho hc hl
theorem callF_ok (hη : OneCells η) (p : Pre η P ρ B h w) {f : FuncId} {args : List Value} {args' : Array Value} {a : AN} {h' : AH} (hc : callF P h f args = .ok (a, h')) (hl : LR η ρ args args'.toList) : Eff η P ρ B h w (callFunc f args') a h' := by
  unfold callF at hc
  split at hc
  · simp [no] at hc
  · rename_i fn hfn
    rw [ite_no] at hc
    obtain ⟨hnm, hc⟩ := hc
    have hb2 : (fn.name == "runtime.NumGoroutine") = false := by cases h : fn.name == "runtime.NumGoroutine" <;> simp_all
    split at hc
    · rename_i hb
      exact externA_ok hη p hfn hb2 hb hc hl
    · rename_i hb
      rw [okk] at hc; injection hc with e1 e2; subst e1; subst e2
      have hb1 : fn.body.isNone = false := by rw [Bool.not_eq_true] at hb; exact hb
      refine Eff.reader p ⟨args', ?_, hl⟩
      simp only [callFunc, Sem.run_bind, run_program, Result.andThen_ok, hfn, hb1, hb2, Bool.false_eq_true, if_false, Sem.run_pure]
theorem callMeth_ok (hη : OneCells η) (p : Pre η P ρ B h w) {recv recv' : Value} {name : String} {args : List Value} {args' : Array Value} {a : AN} {h' : AH} (hc : callMeth P h recv name args = .ok (a, h')) (hr : VR η ρ recv recv') (hl : LR η ρ args args'.toList) :
    Eff η P ρ B h w (callMethod recv' name args') a h' := by
  unfold callMeth at hc
  split at hc
  · obtain ⟨u, rfl, hu⟩ := hr.iface_inv
    simp only [bind_ok] at hc
    obtain ⟨⟨f, r⟩, hm, hc⟩ := hc
    obtain ⟨r', hr', hrr⟩ := methodA_ok p.hr hm hu
    obtain ⟨ρ', w', k1, k2⟩ := callF_ok hη p (args' := #[r'] ++ args') hc (by simpa using LR.cons hrr hl)
    exact ⟨ρ', w', by simp only [callMethod, Sem.run_bind, run_program, Result.andThen_ok, hr']; exact k1, k2⟩
  · simp [no] at hc
theorem putParams_ok : ∀ {ps : List Tmp} {args args' : List Value} {tm tm2 : T Value} {n : Nat} {tmps : Array Value}, putParams n ps args tm = .ok tm2 → LR η ρ args args' → TR η ρ tm n tmps →
    TR η ρ tm2 n ((ps.zip args').foldl (fun tmps (x : Tmp × Value) => tmps.setIfInBounds x.1 x.2) tmps)
  | [], args, args', tm, tm2, n, tmps, hp, hl, ht => by
    cases args <;> (simp only [putParams, okk] at hp; subst hp; simpa using ht)
  | t :: ps, [], args', tm, tm2, n, tmps, hp, hl, ht => by
    have := hl.inv_nil; subst this
    simp only [putParams, okk] at hp; subst hp
    simpa using ht
  | t :: ps, v :: vs, args', tm, tm2, n, tmps, hp, hl, ht => by
    obtain ⟨x, m, rfl, hx, hm⟩ := hl.inv_cons
    simp only [putParams] at hp
    rw [ite_no'] at hp
    obtain ⟨hlt, hp⟩ := hp
    rw [List.zip_cons_cons, List.foldl_cons]
    refine putParams_ok hp hm ⟨by simp [ht.1], ?_, ?_⟩
    · intro s hs
      rw [T.get_set, if_neg (fun e => by subst e; exact absurd hlt (Nat.not_lt.2 hs))]
      exact ht.2.1 s hs
    · intro s hs
      rw [T.get_set]
      by_cases e : s = t
      · subst e
        rw [if_pos rfl]
        have hsz : s < tmps.size := by rw [ht.1]; exact hs
        simp only [Option.getD_some]
        rw [Array.getD_eq_getD_getElem?, Array.getElem?_setIfInBounds_self_of_lt hsz]
        exact hx
      · rw [if_neg e]
        rw [Array.getD_eq_getD_getElem?, Array.getElem?_setIfInBounds_ne (fun h => e h.symm), ← Array.getD_eq_getD_getElem?]
        exact ht.2.2 s hs
theorem freeze_eq {b off n lo hi : Nat} {C : Array Value} {ty : TypeId} (hb : w.heap[b]? = some (.cells C ty (lo, hi))) (hn : n ≠ 0) :
    w.freeze ⟨b, off, none⟩ n = wput w b (.cells C ty (if lo == hi then (off, off + n) else (min lo off, max hi (off + n)))) := by
  unfold World.freeze wput
  rw [if_neg hn]
  congr 1
  apply Array.ext_getElem?
  intro k
  rw [Array.getElem?_modify, Array.getElem?_setIfInBounds]
  by_cases h : b = k
  · subst h
    rw [if_pos rfl, if_pos rfl, hb, if_pos (heap_lt hb)]
    rfl
  · rw [if_neg h, if_neg h]
theorem bytesOf_cells : ∀ {l : List Value} {bs : List UInt8} {vs : List Value}, bytesOf l = .ok bs → LR η ρ l vs → bs.length = l.length ∧ ∀ (j : Nat) (u : UInt8), bs[j]? = some u → ∃ n, vs[j]? = some (.int .u8 n) ∧ u = UInt8.ofNat n.toNat
  | [], bs, vs, hb, hl => by simp only [bytesOf, okk] at hb; subst hb; exact ⟨rfl, fun j u h => by simp at h⟩
  | v :: l, bs, vs, hb, hl => by
    obtain ⟨x, m, rfl, hx, hm⟩ := hl.inv_cons
    unfold bytesOf at hb
    split at hb
    · rename_i e; cases e
    · rename_i n r e
      injection e with e1 e2; subst e1; subst e2
      have := hx.int_inv; subst this
      split at hb
      · rename_i l' hl'
        rw [okk] at hb; subst hb
        obtain ⟨i1, i2⟩ := bytesOf_cells hl' hm
        refine ⟨by simp [i1], fun j u hj => ?_⟩
        cases j with
        | zero => simp at hj; subst hj; exact ⟨n, rfl, rfl⟩
        | succ j => simp at hj; simpa using i2 j u hj
      · cases hb
    · simp [no] at hb
end
end Go.Ev
