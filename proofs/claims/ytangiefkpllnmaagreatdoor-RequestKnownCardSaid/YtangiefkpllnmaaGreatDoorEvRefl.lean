/- Package reflectlite, as far as errors.As asks it: what the evaluator does of it is what the program does. -/
import Derived.Test.YtangiefkpllnmaaGreatDoorEvEff3
namespace Go.Ev
set_option linter.unusedVariables false
set_option linter.unusedSimpArgs false
open Go.Extern
variable {P : Program}
/-- A computation that reads the program alone. -/
def Rd (P : Program) {α : Type} (s : Sem α) : Prop := ∀ (w : World) (a : α) (w' : World), s.run P w = .ok a w' → ∀ u, s.run P u = .ok a u
theorem Rd.pure {α : Type} (a : α) : Rd P (Pure.pure a : Sem α) := by
  intro w b w' h u
  simp only [Sem.run_pure] at h ⊢
  injection h with h1 _; rw [h1]
theorem Rd.bind {α β : Type} {s : Sem α} {f : α → Sem β} (h : Rd P s) (k : ∀ a, Rd P (f a)) : Rd P (s >>= f) := by
  intro w b w' hr u
  rw [Sem.run_bind] at hr ⊢
  cases hs : s.run P w with
  | ok a w1 =>
    rw [hs, Result.andThen_ok] at hr
    rw [h w a w1 hs u, Result.andThen_ok]
    exact k a w1 b w' hr u
  | _ => rw [hs] at hr; cases hr
theorem Rd.program : Rd P program := by
  intro w a w' h u
  rw [run_program] at h ⊢
  injection h with h1 _; rw [h1]
theorem Rd.stuck {α : Type} (s : String) : Rd P (Go.stuck s : Sem α) := by
  intro w a w' h u; simp at h
theorem Rd.unsup {α : Type} (s : Unsupported) : Rd P (Go.unsupported s : Sem α) := by
  intro w a w' h u; simp at h
theorem Rd.panic {α : Type} (s : String) : Rd P (Go.panicString s : Sem α) := by
  intro w a w' h u; simp [panicString, Result.andThen] at h
theorem Rd.ite {α : Type} {c : Prop} [Decidable c] {s t : Sem α} (h : Rd P s) (k : Rd P t) : Rd P (if c then s else t) := by
  split <;> assumption
theorem Rd.info (t : TypeId) : Rd P (typeInfo t) := by
  unfold typeInfo
  refine Rd.bind Rd.program fun p => ?_
  split
  · exact .pure _
  · exact .stuck _
theorem Rd.under (t : TypeId) : Rd P (Rtype.under t) := by
  unfold Rtype.under
  refine Rd.bind (.info _) fun i => ?_
  split
  · exact .bind (.info _) fun _ => .pure _
  · exact .pure _
theorem Rd.noPack (s : String) (t : TypeId) : Rd P (Rtype.noPack s t) := by
  unfold Rtype.noPack
  exact .bind .program fun _ => .ite (.unsup _) (.pure _)
theorem Rd.noPackMethods (s : String) (t : TypeId) : Rd P (Rtype.noPackMethods s t) := by
  unfold Rtype.noPackMethods
  exact .bind .program fun _ => .ite (.unsup _) (.pure _)
theorem Rd.noPackHeld (s : String) (t : TypeId) : Rd P (Rtype.noPackHeld s t) := by
  unfold Rtype.noPackHeld
  exact .bind .program fun _ => .ite (.unsup _) (.pure _)
theorem Rd.noPackNamed (s : String) (t : TypeId) : Rd P (Rtype.noPackNamed s t) := by
  unfold Rtype.noPackNamed
  exact .bind .program fun _ => .ite (.unsup _) (.pure _)
theorem Rd.kind (t : TypeId) : Rd P (Rtype.kind t) := by
  unfold Rtype.kind
  refine Rd.bind (.under _) fun i => ?_
  split
  split <;> first | exact .pure _ | exact .stuck _
theorem Rd.elem (t : TypeId) : Rd P (Rtype.elem? t) := by
  unfold Rtype.elem?
  refine Rd.bind (.under _) fun i => ?_
  split <;> exact .pure _
theorem Rd.hasName (t : TypeId) : Rd P (Rtype.hasName t) := by
  unfold Rtype.hasName
  refine Rd.bind (.info _) fun i => ?_
  split <;> exact .pure _
theorem Rd.implements (a b : TypeId) : Rd P (Rtype.implements a b) := by
  unfold Rtype.implements
  refine Rd.bind (.noPackMethods _ _) fun _ => Rd.bind (.noPackMethods _ _) fun _ => Rd.bind (.under _) fun _ => Rd.bind (.under _) fun _ => ?_
  split
  · exact .pure _
  · exact .bind (.info _) fun _ => .pure _
  · exact .pure _
theorem Rd.direct (a b : TypeId) : Rd P (Rtype.directlyAssignable a b) := by
  unfold Rtype.directlyAssignable
  refine Rd.ite (.pure _) ?_
  refine Rd.bind (.hasName _) fun _ => Rd.bind (.hasName _) fun _ => Rd.ite (.pure _) (Rd.bind (.under _) fun x => ?_)
  obtain ⟨t, ti⟩ := x
  refine Rd.bind (.under _) fun y => ?_
  obtain ⟨u, ui⟩ := y
  simp only []
  split <;> exact .pure _
theorem Rd.implements_ (a b : TypeId) : Rd P (ReflectliteType.implements_ a b) := by
  unfold ReflectliteType.implements_
  have J : Rd P (do Rtype.noPackMethods "Implements" b; Rtype.noPack "Implements" a; Rtype.implements a b) := .bind (.noPackMethods _ _) fun _ => .bind (.noPack _ _) fun _ => .implements _ _
  exact Rd.bind (.kind _) fun _ => .ite (.bind (.panic _) fun _ => J) J
theorem Rd.assignable (a b : TypeId) : Rd P (ReflectliteType.assignableTo a b) := by
  unfold ReflectliteType.assignableTo
  have J : Rd P (do return (← Rtype.directlyAssignable a b) || (← Rtype.implements a b)) := .bind (.direct _ _) fun _ => .bind (.implements _ _) fun _ => .pure _
  exact .ite (.bind (.noPackMethods _ _) fun _ => .bind (.noPackMethods _ _) fun _ => J) J
theorem Rd.cutType (s : String) : Rd P (Go.cutType s) := by
  unfold Go.cutType
  refine Rd.bind .program fun _ => ?_
  split
  · exact .pure _
  · exact .stuck _
theorem runR_ok {α : Type} {s : Sem α} {a : α} (h : Rd P s) (hr : runR P s = .ok a) (w : World) : s.run P w = .ok a w := by
  unfold runR at hr
  split at hr
  · rename_i x w' hx
    rw [okk] at hr; subst hr
    exact h _ _ _ hx w
  · simp [no] at hr
variable {η : Nat → Value} {ρ : Env} {B : Nat} {h : AH} {w : World}
theorem handA_ok (hG : GR P ρ) {v x : Value} {t : TypeId} (h : handA P v = .ok t) (hv : VR η ρ v x) : x = typeHandle P t ∧ (Rtype.ofHandle x).run P w = .ok t w := by
  unfold handA at h
  split at h
  · rename_i a
    rw [ite_no', okk] at h
    obtain ⟨⟨h1, h2⟩, h3⟩ := h
    obtain ⟨b, rfl, _, n, blk, d, h4, rfl⟩ := hv.ptr_inv
    obtain ⟨m, h5⟩ := hG _ (Nat.le_refl _)
    rw [h1, h5] at h4
    cases h4
    subst h3
    have e : (Value.pointer (some ⟨P.globals.size, 0 + a.off, none⟩)) = typeHandle P a.off := by rw [Nat.zero_add]; rfl
    refine ⟨e, ?_⟩
    rw [e]
    simp [Rtype.ofHandle, handleType, typeHandle, Result.andThen]
  · simp [no] at h
theorem handV_ok (hG : GR P ρ) (t : TypeId) : VR η ρ (handV P t) (typeHandle P t) := by
  obtain ⟨m, h5⟩ := hG _ (Nat.le_refl _)
  have := VR.ptr (η := η) (o := t) h5
  rw [Nat.zero_add] at this
  exact this
theorem rtypeA_ok (hG : GR P ρ) {t : TypeId} {v : Value} (h : rtypeA P t = .ok v) : ∃ x, (ReflectliteType.toType t).run P w = .ok x w ∧ VR η ρ v x := by
  simp only [rtypeA, bind_ok] at h
  obtain ⟨c, hc, h⟩ := h
  rw [okk] at h; subst h
  refine ⟨.iface c (.agg #[typeHandle P t]), ?_, .iface _ (.agg' (.cons (handV_ok hG t) .nil))⟩
  have := runR_ok (.cutType _) hc w
  simp [ReflectliteType.toType, this, Rtype.handle, Result.andThen]
theorem ofRtA_ok (hG : GR P ρ) {v x : Value} {t : TypeId} (h : ofRtA P v = .ok t) (hv : VR η ρ v x) : (ReflectliteType.ofRtype x).run P w = .ok t w := by
  unfold ofRtA at h
  split at h
  · rename_i hd
    simp only [bind_ok] at h
    obtain ⟨t', h1, u, h2, h⟩ := h
    rw [okk] at h; subst h
    obtain ⟨c, rfl, hl⟩ := hv.agg_inv
    obtain ⟨y, m, hm, hy, hm'⟩ := hl.inv_cons
    have := hm'.inv_nil; subst this
    have hc : c = #[y] := by rw [← Array.toArray_toList (xs := c), hm]
    subst hc
    have k1 := (handA_ok (w := w) hG h1 hy).2
    have k2 := runR_ok (.noPack _ _) h2 w
    have e : ReflectliteType.ofRtype (.agg #[y]) = (do let t ← Rtype.ofHandle y; Rtype.noPack "a Type asked or handed on" t; pure t) := rfl
    rw [e]
    simp [k1, k2, Result.andThen]
  · simp [no] at h
theorem valA_ok (hG : GR P ρ) {clean : Bool} {v x : Value} {t : TypeId} {a : Addr} {f : Nat} (h : valA P clean v = .ok (t, a, f)) (hv : VR η ρ v x) :
    ∃ b, AdR ρ a b ∧ (ReflectliteValue.partsAny x).run P w = .ok (some (t, b, f)) w ∧ (clean = true → (ReflectliteValue.parts x).run P w = .ok (some (t, b, f)) w) := by
  unfold valA at h
  split at h
  · rename_i hd a' f'
    rw [ite_no] at h
    obtain ⟨hn, h⟩ := h
    simp only [bind_ok] at h
    obtain ⟨t', h1, u, h2, h⟩ := h
    obtain ⟨n, hfn⟩ : ∃ n : Nat, f' = ((n + 1 : Nat) : Int) := ⟨f'.toNat - 1, by omega⟩
    subst hfn
    rw [okk] at h; injection h with e1 e2; injection e2 with e2 e3; subst e1; subst e2; subst e3
    obtain ⟨c, rfl, hl⟩ := hv.agg_inv
    obtain ⟨y, m, hm, hy, hm'⟩ := hl.inv_cons
    obtain ⟨y2, m2, hm2, hy2, hm2'⟩ := hm'.inv_cons
    obtain ⟨y3, m3, hm3, hy3, hm3'⟩ := hm2'.inv_cons
    have := hm3'.inv_nil; subst this; subst hm3; subst hm2
    obtain ⟨b, rfl, hb⟩ := hy2.ptr_inv
    have := hy3.int_inv; subst this
    have hc : c = #[y, .pointer (some b), .int .u64 ((n + 1 : Nat) : Int)] := by rw [← Array.toArray_toList (xs := c), hm]
    subst hc
    have k1 := (handA_ok (w := w) hG h1 hy).2
    have k3 : (ReflectliteValue.partsAny (.agg #[y, .pointer (some b), .int .u64 ((n + 1 : Nat) : Int)])).run P w = .ok (some (t', b, ((n + 1 : Nat) : Int).toNat)) w := by
      have e : ReflectliteValue.partsAny (.agg #[y, .pointer (some b), .int .u64 ((n + 1 : Nat) : Int)]) = (do pure (some (← Rtype.ofHandle y, b, ((n + 1 : Nat) : Int).toNat))) := rfl
      rw [e]
      simp [k1, Result.andThen]
    refine ⟨b, hb, k3, fun hcl => ?_⟩
    subst hcl
    rw [if_pos rfl] at h2
    have k2 := runR_ok (.noPack _ _) h2 w
    simp only [ReflectliteValue.parts, Sem.run_bind, k3, Result.andThen_ok, k2, Sem.run_pure]
  · simp [no] at h
theorem mkVA_ok (hG : GR P ρ) {t : TypeId} {a b : Addr} {fl : Nat} {v : Value} (h : mkVA P t a fl = .ok v) (hb : AdR ρ a b) : ∃ x, (ReflectliteValue.mk t b fl).run P w = .ok x w ∧ VR η ρ v x := by
  simp only [mkVA, bind_ok] at h
  obtain ⟨k, hk, h⟩ := h
  rw [okk] at h; subst h
  refine ⟨.agg #[typeHandle P t, .pointer (some b), .int .u64 (Int.ofNat (k + 128 + fl))], ?_, .agg' (.cons (handV_ok hG t) (.cons hb.ptr (.cons (.int _ _) .nil)))⟩
  have := runR_ok (.kind _) hk w
  simp [ReflectliteValue.mk, this, Rtype.handle, ReflectliteValue.flagIndir, Result.andThen]
end Go.Ev
