/- RspKnC, part 5: what the proof needs, in the order of its texts. -/
import Derived.Test.YtjjlnehilcnheaaGreatDoorRspKnC4
namespace Go.Ev
set_option linter.unusedVariables false
set_option linter.unusedSimpArgs false
variable {η : Nat → Value}
structure SR (η : Nat → Value) (P : Program) (ρ : Env) (B : Bd) (s : AS) (fr : Frame) (cs : List Frame) (w : World) : Prop where
  fr : FrR η ρ s.fr fr
  cs : L2 (FrR η ρ) s.cs cs
  pre : Pre η P ρ B s.hp w
def run0 (fr : Frame) (cs : List Frame) : Goroutine := { frame := fr, callers := cs, status := .running, dying := none }
section
variable {P : Program} {ρ : Env} {B : Bd} {h : AH} {w : World}
section apply
variable {fr : Frame} {cs : List Frame} {s : Sem Next} {w' : World}
theorem apply_value {v : Value} (hr : s.run P w = .ok (.value v) w') : (stepG.apply P true fr cs none s w).bare = .go (run0 (fr.finish v) cs) w' := by
  simp [stepG.apply, hr, run0]
theorem apply_skip (hr : s.run P w = .ok .skip w') : (stepG.apply P true fr cs none s w).bare = .go (run0 (fr.finish undef) cs) w' := by
  simp [stepG.apply, hr, run0]
theorem apply_defer {d : Deferred} (hr : s.run P w = .ok (.defer d) w') : (stepG.apply P true fr cs none s w).bare = .go (run0 (({ fr with defers := d :: fr.defers } : Frame).finish undef) cs) w' := by
  simp [stepG.apply, hr, run0]
theorem apply_panic {v : Value} (hr : s.run P w = .halt (.panic v) w') : (stepG.apply P true fr cs none s w).bare = .go (run0 (fr.raise [{ v, recovered := false }]) cs) w' := by
  simp [stepG.apply, hr, run0]
def notCall (fr : Frame) : Prop := ∀ d b r s k, fr.todo ≠ .call d b r s :: k
theorem apply_enter {f : FuncId} {args : Array Value} (hk : notCall fr) (hr : s.run P w = .ok (.enter f args) w') : (stepG.apply P true fr cs none s w).bare = .go (run0 (Frame.enter P f args .normal) (fr :: cs)) w' := by
  simp only [stepG.apply, Sem.runT_eq, hr, if_true]
  simp [run0]
  congr 1
  split
  · rename_i hh; exact absurd hh (hk _ _ _ _ _)
  · rfl
theorem apply_round {l : Nat} {f : FuncId} {tmps : Array Value} {asg body : Code} (hr : s.run P w = .ok (.round l f tmps asg body) w') : (stepG.apply P true fr cs none s w).bare = .go (run0 (Frame.round l f tmps asg body .normal) (fr :: cs)) w' := by
  simp [stepG.apply, hr, run0]
theorem apply_recover_none (ho : fr.roundOf = none) (ht : tryRecover fr cs = none) (hr : s.run P w = .ok .recover w') : (stepG.apply P true fr cs none s w).bare = .go (run0 (fr.finish .nilIface) cs) w' := by
  simp [stepG.apply, hr, ho, ht, run0]
theorem apply_recover_some {v : Value} {cs2 : List Frame} (ho : fr.roundOf = none) (ht : tryRecover fr cs = some (v, cs2)) (hr : s.run P w = .ok .recover w') : (stepG.apply P true fr cs none s w).bare = .go (run0 (fr.finish v) cs2) w' := by
  simp [stepG.apply, hr, ho, ht, run0]
end apply
theorem PeR.one {v x : Value} (h : VR η ρ v x) : L2 (PeR η ρ) [{ v, recovered := false }] [{ v := x, recovered := false }] := .cons ⟨h, rfl, rfl⟩ .nil
/-- recover. -/
theorem tryRec_ok {f : AF} {fr : Frame} {acs : List AF} {cs : List Frame} {r : Option (Value × List AF)} (hf : FrR η ρ f fr) (hc : L2 (FrR η ρ) acs cs) (hr : tryRecA f acs = .ok r) :
    (r = none ∧ ∀ cs0, tryRecover fr (cs ++ cs0) = none) ∨ (∃ v acs2 x cs2, r = some (v, acs2) ∧ (∀ cs0, tryRecover fr (cs ++ cs0) = some (x, cs2 ++ cs0)) ∧ VR η ρ v x ∧ L2 (FrR η ρ) acs2 cs2) := by
  unfold tryRecA at hr
  split at hr
  · rename_i c rest hk
    obtain ⟨c', rest', rfl, hcr, hrest⟩ := hc.inv_cons
    have hk' : fr.kind = .deferred := by rw [hf.kind, hk]
    have hm := hcr.mode
    split at hr
    · rename_i v older hmo
      rw [hmo] at hm
      rw [okk] at hr; subst hr
      generalize hm' : c'.mode = m' at hm
      cases hm with
      | panicking hl =>
        obtain ⟨e', older', rfl, he, ho⟩ := hl.inv_cons
        obtain ⟨v', rec', gx'⟩ := e'
        obtain ⟨hv, hrc, hgx⟩ := he
        simp only at hv hrc hgx
        subst hrc; subst hgx
        refine .inr ⟨v, _, v', { c' with mode := .panicking ({ v := v', recovered := true } :: older') } :: rest', rfl, ?_, hv, .cons ⟨hcr.fn, hcr.tm, hcr.todo, hcr.defers, .panicking (.cons ⟨hv, rfl, rfl⟩ ho), hcr.kind, hcr.round⟩ hrest⟩
        intro cs0; simp [tryRecover, hk', hm']
    · rename_i hno
      rw [okk] at hr; subst hr
      refine .inl ⟨rfl, fun cs0 => ?_⟩
      simp only [List.cons_append, tryRecover, hk']
      generalize hm' : c'.mode = m' at hm
      generalize hm2 : c.mode = m2 at hm
      cases hm with
      | run => rfl
      | returning => rfl
      | panicking hl =>
        cases hl with
        | nil => rfl
        | cons he ho =>
          rename_i e e' l l'
          obtain ⟨v, rec, gx⟩ := e
          obtain ⟨v', rec', gx'⟩ := e'
          obtain ⟨hv, hrc, hgx⟩ := he
          simp only at hv hrc hgx
          subst hrc; subst hgx
          cases rec with
          | true => rfl
          | false =>
            cases gx with
            | true => rfl
            | false => exact absurd hm2 (hno _ _)
  · rename_i hk
    have hk' : fr.kind = .normal := by rw [hf.kind, hk]
    rw [okk] at hr; subst hr
    exact .inl ⟨rfl, fun cs0 => by simp [tryRecover, hk']⟩
  · simp [no] at hr
theorem L2.map_mono {ρ' : Env} (hl : Env.le ρ ρ') {a : List AF} {b : List Frame} (h : L2 (FrR η ρ) a b) : L2 (FrR η ρ') a b := h.mono fun _ _ => FrR.mono hl
/-- What follows an operation. -/
theorem after_ok {f : AF} {fr : Frame} {acs : List AF} {cs : List Frame} {s : Sem Next} {a : AN} {h' : AH} {r : AR} (F : FrR η ρ f fr) (C : L2 (FrR η ρ) acs cs) (p : Pre η P ρ B h w) (hE : Eff η P ρ B h w s a h') (ha : afterA P f acs a h' = .ok r) (hk : notCall fr) :
    ∃ s', r = .next s' ∧ ∃ ρ' fr' cs' w', SR η P ρ' B s' fr' cs' w' ∧ Post η ρ B h w ρ' s'.hp w' ∧ ∀ cs0, (stepG.apply P true fr (cs ++ cs0) none s w).bare = .go (run0 fr' (cs' ++ cs0)) w' := by
  obtain ⟨ρ', w', hn, hp⟩ := hE
  have p' := p.post hp
  have F' := F.mono hp.le
  have C' := L2.map_mono hp.le C
  cases a with
  | value v =>
    obtain ⟨x, hr, hv⟩ := hn
    simp only [afterA, bind_ok] at ha
    obtain ⟨f2, hf2, ha⟩ := ha
    rw [okk] at ha; subst ha
    exact ⟨_, rfl, ρ', _, cs, w', ⟨finish_ok hf2 F' hv, C', p'⟩, hp, fun cs0 => apply_value hr⟩
  | skip =>
    have hr : s.run P w = .ok .skip w' := hn
    simp only [afterA, bind_ok] at ha
    obtain ⟨f2, hf2, ha⟩ := ha
    rw [okk] at ha; subst ha
    exact ⟨_, rfl, ρ', _, cs, w', ⟨finish_ok hf2 F' .undef', C', p'⟩, hp, fun cs0 => apply_skip hr⟩
  | enter g args =>
    obtain ⟨xs, hr, hl⟩ := hn
    simp only [afterA, bind_ok] at ha
    obtain ⟨f2, hf2, ha⟩ := ha
    rw [okk] at ha; subst ha
    exact ⟨_, rfl, ρ', _, fr :: cs, w', ⟨enter_ok hf2 hl, .cons F' C', p'⟩, hp, fun cs0 => apply_enter hk hr⟩
  | defer d =>
    obtain ⟨e, hr, hd⟩ := hn
    simp only [afterA] at ha
    rw [ite_no] at ha
    obtain ⟨hrd, ha⟩ := ha
    simp only [bind_ok] at ha
    obtain ⟨f2, hf2, ha⟩ := ha
    rw [okk] at ha; subst ha
    refine ⟨_, rfl, ρ', _, cs, w', ⟨finish_ok hf2 (fr := { fr with defers := e :: fr.defers }) ⟨F'.fn, F'.tm, F'.todo, .cons hd F'.defers, F'.mode, F'.kind, F'.round⟩ .undef', C', p'⟩, hp, fun cs0 => apply_defer hr⟩
  | recover =>
    have hr : s.run P w = .ok .recover w' := hn
    simp only [afterA] at ha
    rw [ite_no] at ha
    obtain ⟨hrd, ha⟩ := ha
    have hro : fr.roundOf = none := by
      have := F.round
      cases h1 : f.round with
      | some l => rw [h1] at hrd; simp at hrd
      | none => rw [h1] at this; cases h2 : fr.roundOf with
        | none => rfl
        | some b => rw [h2] at this; exact this.elim
    simp only [bind_ok] at ha
    obtain ⟨t, ht, ha⟩ := ha
    rcases tryRec_ok F' C' ht with ⟨rfl, hnone⟩ | ⟨v, acs2, x, cs2, rfl, hsome, hv, hc2⟩
    · simp only [bind_ok] at ha
      obtain ⟨f2, hf2, ha⟩ := ha
      rw [okk] at ha; subst ha
      exact ⟨_, rfl, ρ', _, cs, w', ⟨finish_ok hf2 F' .nilIface, C', p'⟩, hp, fun cs0 => apply_recover_none hro (hnone cs0) hr⟩
    · simp only [bind_ok] at ha
      obtain ⟨f2, hf2, ha⟩ := ha
      rw [okk] at ha; subst ha
      exact ⟨_, rfl, ρ', _, cs2, w', ⟨finish_ok hf2 F' hv, hc2, p'⟩, hp, fun cs0 => apply_recover_some hro (hsome cs0) hr⟩
  | round l fn tm n asg body =>
    obtain ⟨b, d, k, tmps, hr, hρ, ht⟩ := hn
    simp only [afterA, okk] at ha; subst ha
    exact ⟨_, rfl, ρ', _, fr :: cs, w', ⟨⟨rfl, ht, .cons (.code _) (.cons .beginRound (.cons (.code _) .nil)), .nil, .run, rfl, (show RoR ρ' (some l) (some b) from ⟨d, k, hρ⟩)⟩, .cons F' C', p'⟩, hp, fun cs0 => apply_round hr⟩
  | panic v =>
    obtain ⟨x, hr, hv⟩ := hn
    simp only [afterA, okk] at ha; subst ha
    exact ⟨_, rfl, ρ', _, cs, w', ⟨raise_ok F' (PeR.one hv), C', p'⟩, hp, fun cs0 => apply_panic hr⟩
theorem RoR.inv_none {f : AF} {fr : Frame} (F : FrR η ρ f fr) (h : f.round = none) : fr.roundOf = none := by
  have := F.round
  rw [h] at this
  cases h2 : fr.roundOf with
  | none => rfl
  | some b => rw [h2] at this; exact this.elim
theorem RoR.inv_some {f : AF} {fr : Frame} (F : FrR η ρ f fr) {l : Nat} (h : f.round = some l) : ∃ b d n, fr.roundOf = some b ∧ ρ l = some (b, d, n) := by
  have := F.round
  rw [h] at this
  cases h2 : fr.roundOf with
  | none => rw [h2] at this; exact this.elim
  | some b => rw [h2] at this; obtain ⟨d, n, e⟩ := this; exact ⟨b, d, n, rfl, e⟩
/-- What a return leads to. -/
theorem return_ok {f : AF} {fr : Frame} {acs : List AF} {cs : List Frame} {v x : Value} {r : AR} (F : FrR η ρ f fr) (C : L2 (FrR η ρ) acs cs) (p : Pre η P ρ B h w) (hv : VR η ρ v x) (hr : returnA f acs v h = .ok r) :
    (∃ s', r = .next s' ∧ s'.hp = h ∧ ∃ fr' cs', SR η P ρ B s' fr' cs' w ∧ ∀ cs0, (doReturn P true fr (cs ++ cs0) none x w) = .go (run0 fr' (cs' ++ cs0)) w) ∨
    (r = .done f.fn v h ∧ acs = [] ∧ f.kind = .normal ∧ f.round = none) := by
  unfold returnA at hr
  split at hr
  · rw [ite_no', okk] at hr
    obtain ⟨hk, rfl⟩ := hr
    have hk1 : f.kind = .normal := by
      cases h1 : f.kind <;> rw [h1] at hk <;> first | rfl | simp at hk
    have hk2 : f.round = none := by
      cases h1 : f.round <;> rw [h1] at hk <;> first | rfl | simp at hk
    exact .inr ⟨rfl, rfl, hk1, hk2⟩
  · rename_i c rest
    obtain ⟨c', rest', rfl, hc, hrest⟩ := C.inv_cons
    refine .inl ?_
    split at hr
    · rename_i hk
      have hk' : fr.kind = .normal := by rw [F.kind, hk]
      simp only [bind_ok] at hr
      obtain ⟨c2, hc2, hr⟩ := hr
      rw [okk] at hr; subst hr
      exact ⟨_, rfl, rfl, _, rest', ⟨finish_ok hc2 hc hv, hrest, p⟩, fun cs0 => by simp [doReturn, hk', run0]⟩
    · rename_i hk
      have hk' : fr.kind = .deferred := by rw [F.kind, hk]
      have hm := hc.mode
      split at hr
      · rename_i v0 gx older hmo
        rw [hmo] at hm
        rw [ite_no', okk] at hr
        obtain ⟨hold, rfl⟩ := hr
        generalize hm' : c'.mode = m' at hm
        cases hm with
        | panicking hl =>
          obtain ⟨e', older', rfl, he, ho⟩ := hl.inv_cons
          obtain ⟨v', rec', gx'⟩ := e'
          obtain ⟨hv', hrc, hgx⟩ := he
          simp only at hrc hgx
          subst hrc
          have : older' = [] := by
            have : older = [] := by simpa using hold
            subst this
            exact ho.inv_nil
          subst this
          refine ⟨_, rfl, rfl, { c' with mode := .returning }, rest', ⟨⟨hc.fn, hc.tm, hc.todo, hc.defers, .returning, hc.kind, hc.round⟩, hrest, p⟩, fun cs0 => ?_⟩
          simp [doReturn, hk', hm', run0]
      · rename_i hno
        rw [okk] at hr; subst hr
        refine ⟨_, rfl, rfl, c', rest', ⟨hc, hrest, p⟩, fun cs0 => ?_⟩
        generalize hm' : c'.mode = m' at hm
        generalize hm2 : c.mode = m2 at hm
        simp only [doReturn, List.cons_append, hk', hm', run0]
        cases hm with
        | run => rfl
        | returning => rfl
        | panicking hl =>
          cases hl with
          | nil => rfl
          | cons he ho =>
            rename_i e e' l l'
            obtain ⟨v, rec, gx⟩ := e
            obtain ⟨v', rec', gx'⟩ := e'
            obtain ⟨hv, hrc, hgx⟩ := he
            simp only at hv hrc hgx
            subst hrc; subst hgx
            cases rec with
            | false => rfl
            | true => exact absurd hm2 (hno _ _ _)
    · simp [no] at hr
theorem HR.loop (H : HR η ρ B h w) {r : Nat} {st : LoopState} {pend : Option Code} {fn : FuncId} {tm : T Value} {n : Nat} {ps : List Tmp} {asg body : Code} {ds : Nat} (hg : h.objs.get r = some (.loop st pend fn tm n ps asg body ds)) :
    ∃ b d k l, ρ r = some (b, d, k) ∧ w.heap[b]? = some (.loop l) ∧ l.state = st ∧ l.pending = pend ∧ l.fn = fn ∧ TR η ρ tm n l.tmps ∧ l.params.toList = ps ∧ l.assign = asg ∧ l.body = body ∧ ∃ d n, ρ ds = some (l.defers, d, n) := by
  obtain ⟨b, d, k, o, h1, h2, ⟨l, rfl, h3⟩, _⟩ := H.obj _ _ hg
  exact ⟨b, d, k, l, h1, h2, h3⟩
theorem Post.loop (p : Pre η P ρ B h w) {r b d k : Nat} {st st' : LoopState} {pend pend' : Option Code} {fn : FuncId} {tm : T Value} {n : Nat} {ps : List Tmp} {asg body : Code} {ds : Nat} {l : Loop} (hg : h.objs.get r = some (.loop st pend fn tm n ps asg body ds))
    (he : ρ r = some (b, d, k)) (hb : w.heap[b]? = some (.loop l)) : Post η ρ B h w ρ (putA h r (.loop st' pend' fn tm n ps asg body ds)) (wput w b (.loop { l with state := st', pending := pend' })) := by
  obtain ⟨b2, d2, k2, l2, h1, h2, h3, h4, h5, h6, h7, h8, h9, h10⟩ := p.hr.loop hg
  rw [he] at h1; cases h1
  rw [hb] at h2; cases h2
  exact Post.put p hg rfl he rfl ⟨_, rfl, rfl, rfl, h5, h6, h7, h8, h9, h10⟩
end
end Go.Ev

namespace Go.Ev
set_option linter.unusedVariables false
set_option linter.unusedSimpArgs false
variable {η : Nat → Value}
abbrev Nest := FuncId → List Value → AH → M (Value × AH)
def RegOk (η : Nat → Value) (P : Program) (B : Bd) (nest : Nest) : Prop :=
  ∀ (ops : Array Oper) (n : Nat) (tm tm' : T Value) (h h' : AH), regionA P n nest ops.toList tm h = .ok (tm', h') →
    ∀ (ρ : Env) (fr : Frame) (w : World) (k : List Item) (id : Nat) (cs : List Frame), TR η ρ tm n fr.tmps → Pre η P ρ B h w → fr.mode = .run → fr.todo = .code (.region id ops true) :: k →
      ∃ ρ' tmps' w', TR η ρ' tm' n tmps' ∧ Post η ρ B h w ρ' h' w' ∧ Steps P (lone fr cs w) (lone { fr with tmps := tmps', todo := k } cs w')
def NestOk (η : Nat → Value) (P : Program) (B : Bd) (nest : Nest) : Prop :=
  ∀ (f : FuncId) (args : List Value) (h h' : AH) (v : Value), nest f args h = .ok (v, h') → ∀ (ρ : Env) (args' : Array Value) (w : World) (cs : List Frame), LR η ρ args args'.toList → Pre η P ρ B h w →
    ∃ ρ' fr' w' x, Post η ρ B h w ρ' h' w' ∧ VR η ρ' v x ∧ fr'.fn = f ∧ fr'.leaving P w' (.returned x) ∧ Steps P (lone (Frame.enter P f args' .normal) cs w) (lone fr' cs w')
section
variable {P : Program} {ρ : Env} {B : Bd} {w : World}
theorem one_go {fr fr' : Frame} {cs cs' : List Frame} {w w' : World} (h : (stepG P true (run0 fr cs) w).bare = .go (run0 fr' cs') w') : Steps P (lone fr cs w) (lone fr' cs' w') := .one (step_lone_go h)
theorem bare_after (es : Array Event) (s : GStep) : (GStep.after es s).bare = s.bare := GStep.bare_after es s
def Stepped' (η : Nat → Value) (P : Program) (B : Bd) (ρ : Env) (s : AS) (fr : Frame) (cs : List Frame) (w : World) (cs0 : List Frame) (r : AR) : Prop :=
  (∃ s', r = .next s' ∧ ∃ ρ' fr' cs' w', SR η P ρ' B s' fr' cs' w' ∧ Post η ρ B s.hp w ρ' s'.hp w' ∧ Steps P (lone fr (cs ++ cs0) w) (lone fr' (cs' ++ cs0) w')) ∨
  (∃ v, r = .done s.fr.fn v s.hp ∧ s.cs = [] ∧ ∃ x, VR η ρ v x ∧ fr.leaving P w (.returned x))
theorem Stepped'.move {cs0 : List Frame} {s : AS} {fr fr' : Frame} {cs : List Frame} {f' : AF} {r : AR} (R : SR η P ρ B s fr cs w) (hr : r = .next { s with fr := f' }) (F : FrR η ρ f' fr') (hst : ∀ cs0, (stepG P true (run0 fr (cs ++ cs0)) w).bare = .go (run0 fr' (cs ++ cs0)) w) :
    Stepped' η P B ρ s fr cs w cs0 r := .inl ⟨_, hr, ρ, fr', cs, w, ⟨F, R.cs, R.pre⟩, .refl R.pre, one_go (hst cs0)⟩
theorem FrR.todo_of {f : AF} {fr : Frame} (F : FrR η ρ f fr) {k k' : List Item} (h : L2 (ItR ρ) k k') : FrR η ρ { f with todo := k } { fr with todo := k' } := ⟨F.fn, F.tm, h, F.defers, F.mode, F.kind, F.round⟩
theorem leave_ok {cs0 : List Frame} {s : AS} {fr : Frame} {cs : List Frame} {jump : Option Code} {r : AR} (R : SR η P ρ B s fr cs w)
    (hl : (match s.fr.round with
      | none => (match jump with
        | none | some .ret => .ok (.next { s with fr := { s.fr with mode := .returning } })
        | _ => no "leave")
      | some l => match s.hp.objs.get l with
        | some (.loop _ _ fn tm n ps asg body ds) => returnA s.fr s.cs (.bool jump.isNone) (putA s.hp l (.loop (if jump.isNone then .ready else .done) jump fn tm n ps asg body ds))
        | _ => no "no loop" : M AR) = .ok r)
    (hst : ∀ cs0, fr.roundOf = none → (jump = none ∨ jump = some .ret) → (stepG P true (run0 fr (cs ++ cs0)) w).bare = .go (run0 { fr with mode := .returning } (cs ++ cs0)) w)
    (hst2 : ∀ cs0 l v w', fr.roundOf = some l → (Instr.endRound l jump).run P w = .ok v w' → (stepG P true (run0 fr (cs ++ cs0)) w).bare = (doReturn P true fr (cs ++ cs0) none v w').bare) : Stepped' η P B ρ s fr cs w cs0 r := by
  split at hl
  · rename_i hro
    have h1 : jump = none ∨ jump = some .ret := by
      split at hl
      · exact .inl rfl
      · exact .inr rfl
      · simp [no] at hl
    have h2 : r = .next { s with fr := { s.fr with mode := .returning } } := by
      rcases h1 with rfl | rfl <;> (rw [okk] at hl; exact hl.symm)
    exact Stepped'.move (fr' := { fr with mode := .returning }) R h2 ⟨R.fr.fn, R.fr.tm, R.fr.todo, R.fr.defers, .returning, R.fr.kind, R.fr.round⟩ (fun cs0 => hst cs0 (RoR.inv_none R.fr hro) h1)
  · rename_i l hro
    obtain ⟨b, d, n0, hb, hρ⟩ := RoR.inv_some R.fr hro
    split at hl
    · rename_i st pend fn tm n ps asg body ds hg
      obtain ⟨b2, d2, k2, lp, h1, h2, h3⟩ := R.pre.hr.loop hg
      rw [hρ] at h1; cases h1
      have hpost := Post.loop (st' := if jump.isNone then .ready else .done) (pend' := jump) R.pre hg hρ h2
      have hrun : (Instr.endRound b jump).run P w = .ok (.bool jump.isNone) (wput w b (.loop { lp with state := if jump.isNone then .ready else .done, pending := jump })) := by
        simp only [Instr.endRound, Instr.getLoop, Sem.run_bind, run_getObj h2 (by simp), Result.andThen_ok, Sem.run_pure, run_setObj h2 (by simp)]
      rcases return_ok (R.fr) R.cs (R.pre.post hpost) (.bool jump.isNone) hl with ⟨s', rfl, hhp, fr', cs', hSR, hdo⟩ | ⟨_, _, _, hrn⟩
      · refine .inl ⟨s', rfl, ρ, fr', cs', _, hSR, by rw [hhp]; exact hpost, one_go ?_⟩
        rw [hst2 cs0 b _ _ hb hrun, hdo]; rfl
      · rw [hro] at hrn; cases hrn
    · simp [no] at hl
theorem stepG_region {fr : Frame} {cs : List Frame} {ops : Array Oper} {i : Nat} {rest : List Nat} {k : List Item} {o : Oper} (hm : fr.mode = .run) (ht : fr.todo = .inRegion ops (i :: rest) :: k) (ho : ops[i]? = some o) (hw : Region.wanted o (yielded ops fr.tmps) = true)
    (hd : fr.roundOf = none ∨ ∀ c, o.op ≠ .defer c) : stepG P true (run0 fr cs) w = stepG.apply P true fr cs none (execOp fr.eval o) w := by
  obtain ⟨fn, tmps, todo, defers, mode, kind, roundOf⟩ := fr
  simp only at hm ht hw hd
  subst hm; subst ht
  simp only [stepG, run0, stepG.exec, ho, Option.map_some, Option.getD_some, hw, if_true, stepG.oper, Frame.oper?]
  rcases hd with rfl | hd
  · rfl
  · cases roundOf with
    | none => rfl
    | some l =>
      cases hop : o.op <;> first | rfl | exact absurd hop (hd _)
theorem notDefer {f : AF} {fr : Frame} {acs : List AF} {o : Oper} {h : AH} {a : AN} {h' : AH} {r : AR} {tm : T Value} (F : FrR η ρ f fr) (he : execA P (evA tm) o h = .ok (a, h')) (ha : afterA P f acs a h' = .ok r) : fr.roundOf = none ∨ ∀ c, o.op ≠ .defer c := by
  cases hr : f.round with
  | none => exact .inl (RoR.inv_none F hr)
  | some l =>
    refine .inr fun c hc => ?_
    obtain ⟨dst, op, type, pos, after, guard⟩ := o
    simp only at hc; subst hc
    unfold execA at he
    rw [ite_no] at he
    obtain ⟨_, he⟩ := he
    simp only [kindOf, effA, bind_ok] at he
    obtain ⟨⟨t, args⟩, _, he⟩ := he
    rw [okk] at he; injection he with e1 e2; subst e1
    simp only [afterA] at ha
    rw [ite_no] at ha
    rw [hr] at ha
    exact ha.1 rfl
theorem unwindA_ok (hη : OneCells η) {cs0 : List Frame} {s : AS} {fr : Frame} {cs : List Frame} {r : AR} (R : SR η P ρ B s fr cs w) (hs : unwindA P s = .ok r) (hm : s.fr.mode ≠ .run) : Stepped' η P B ρ s fr cs w cs0 r := by
  obtain ⟨f, acs, hp⟩ := s
  have F := R.fr
  simp only at F hm
  obtain ⟨fn, tmps, todo, defers, mode, kind, roundOf⟩ := fr
  have hmode := F.mode
  have hdef := F.defers
  simp only at hmode hdef
  have hnr : mode ≠ .run := by
    intro e; subst e
    generalize f.mode = m at *
    cases hmode; exact hm rfl
  have hstep : ∀ cs0, stepG P true (run0 { fn, tmps, todo, defers, mode, kind, roundOf } cs0) w = unwind P true { fn, tmps, todo, defers, mode, kind, roundOf } cs0 none w := by
    intro cs0
    cases mode with
    | run => exact absurd rfl hnr
    | returning => rfl
    | panicking c => rfl
  have hcatch : (Frame.catches P { fn, tmps, todo, defers, mode, kind, roundOf }) = false := by
    unfold Frame.catches
    have ht := F.todo
    simp only at ht
    split
    · rename_i h1 h2
      simp only at h2
      subst h2
      generalize f.todo = ft at ht
      cases ht with
      | cons hh _ => cases hh
    · rfl
  unfold unwindA at hs
  dsimp only at hs
  split at hs
  · -- the deferred calls of a loop
    rename_i b args ds he
    rw [he] at hdef
    obtain ⟨d', ds', rfl, hd, hds⟩ := hdef.inv_cons
    obtain ⟨t', a'⟩ := d'
    obtain ⟨ht, ha⟩ := hd
    simp only at ht
    cases t' with
    | collected b' =>
      obtain ⟨d0, n0, hρ⟩ := ht
      split at hs
      · rename_i calls hg
        obtain ⟨b2, d2, n2, o, h1, h2, ⟨ds2, rfl, h3⟩, _⟩ := R.pre.hr.obj _ _ hg
        rw [hρ] at h1; cases h1
        cases ds2 with
        | none => exact h3.elim
        | some calls' =>
          rw [okk] at hs; subst hs
          have hpost : Post η ρ B hp w ρ (putA hp b (.deferred none)) (wput w b' (.deferred none)) := Post.put R.pre hg rfl hρ rfl ⟨none, rfl, trivial⟩
          have hrun : (Instr.takeDeferred b').run P w = .ok calls' (wput w b' (.deferred none)) := by
            simp only [Instr.takeDeferred, Sem.run_bind, run_getObj h2 (by simp), Result.andThen_ok, Sem.run_pure, run_setObj h2 (by simp)]
          refine .inl ⟨_, rfl, ρ, { fn, tmps, todo, defers := calls' ++ ds', mode, kind, roundOf }, cs, _, ⟨⟨F.fn, F.tm, F.todo, h3.append hds, F.mode, F.kind, F.round⟩, R.cs, R.pre.post hpost⟩, hpost, one_go ?_⟩
          rw [hstep]
          simp [unwind, hrun, bare_after, run0]
      · simp [no] at hs
    | _ => exact ht.elim
  · rename_i d ds hnc he
    rw [he] at hdef
    obtain ⟨d', ds', rfl, hd, hds⟩ := hdef.inv_cons
    simp only [bind_ok] at hs
    obtain ⟨⟨a, h'⟩, hi, hs⟩ := hs
    obtain ⟨ρ', w', hn, hpost⟩ := invokeA_ok hη R.pre hi hd.1 hd.2
    have hunw : ∀ cs0, unwind P true { fn, tmps, todo, defers := d' :: ds', mode, kind, roundOf } cs0 none w = callDeferred P { fn, tmps, todo, defers := ds', mode, kind, roundOf } cs0 none d' w := by
      intro cs0
      obtain ⟨t', a'⟩ := d'
      cases t' with
      | collected b' =>
        exfalso
        obtain ⟨t, a0⟩ := d
        have ht := hd.1
        simp only at ht
        cases t <;> first | exact ht.elim | exact hnc _ _ rfl
      | _ => rfl
    have hnn : d'.target ≠ .nil := by
      intro hd1
      have ht := hd.1
      rw [hd1] at ht
      obtain ⟨t, a0⟩ := d
      simp only at ht hi
      cases t <;> first | exact ht.elim | (simp [invokeA, no] at hi; done)
    have F' : FrR η ρ' { f with defers := ds } { fn, tmps, todo, defers := ds', mode, kind, roundOf } := by
      have := F.mono hpost.le
      exact ⟨this.fn, this.tm, this.todo, hds.mono fun _ _ => DR.mono hpost.le, this.mode, this.kind, this.round⟩
    split at hs
    · rename_i g args h2 heq
      injection heq with e1 e2
      subst e1; subst e2
      obtain ⟨xs, hr, hl⟩ := hn
      simp only [bind_ok] at hs
      obtain ⟨f2, hf2, hs⟩ := hs
      rw [okk] at hs; subst hs
      refine .inl ⟨_, rfl, ρ', Frame.enter P g xs .deferred, { fn, tmps, todo, defers := ds', mode, kind, roundOf } :: cs, w', ⟨enter_ok hf2 hl, .cons F' (L2.map_mono hpost.le R.cs), R.pre.post hpost⟩, hpost, one_go ?_⟩
      rw [hstep, hunw]
      unfold callDeferred
      split
      · rename_i hh
        exfalso; apply hnn
        cases hd1 : d'.target <;> simp_all
      · simp [hr, bare_after, run0]
    · rename_i v h2 heq
      injection heq with e1 e2
      subst e1; subst e2
      obtain ⟨x, hr, hl⟩ := hn
      rw [okk] at hs; subst hs
      refine .inl ⟨_, rfl, ρ', { fn, tmps, todo, defers := ds', mode, kind, roundOf }, cs, w', ⟨F', L2.map_mono hpost.le R.cs, R.pre.post hpost⟩, hpost, one_go ?_⟩
      rw [hstep, hunw]
      unfold callDeferred
      split
      · rename_i hh
        exfalso; apply hnn
        cases hd1 : d'.target <;> simp_all
      · simp [hr, bare_after, run0]
    · simp [no] at hs
  · rename_i he
    rw [he] at hdef
    have := hdef.inv_nil; subst this
    split at hs
    · rename_i chain hfm
      rw [hfm] at hmode
      cases hmode with
      | panicking hch =>
        rename_i chain'
        split at hs
        · rename_i c rest
          have hC := R.cs
          simp only at hC
          obtain ⟨c', rest', rfl, hc, hrest⟩ := hC.inv_cons
          rw [okk] at hs; subst hs
          refine .inl ⟨_, rfl, ρ, c'.raise chain', rest', w, ⟨raise_ok hc hch, hrest, R.pre⟩, .refl R.pre, one_go ?_⟩
          rw [hstep]
          simp [unwind, hcatch, run0]
        · simp [no] at hs
    · rename_i hnp
      rw [ite_no] at hs
      obtain ⟨hro, hs⟩ := hs
      have hret : f.mode = .returning := by
        generalize f.mode = m at *
        cases m with
        | run => exact absurd rfl hm
        | returning => rfl
        | panicking c => exact absurd rfl (hnp c)
      rw [hret] at hmode
      cases hmode
      split at hs
      · simp [no] at hs
      · rename_i fn' hfn
        simp only [bind_ok] at hs
        obtain ⟨v, hv, hs⟩ := hs
        obtain ⟨x, hx, hxv⟩ := results_ok R.pre.hr F.tm hv
        have hffn : fn = f.fn := F.fn
        have hfn' : P.funcs[fn]? = some fn' := by rw [hffn]; exact hfn
        rcases return_ok F R.cs R.pre hxv hs with ⟨s', rfl, hhp, fr', cs', hSR, hdo⟩ | ⟨rfl, h1, h2, h3⟩
        · refine .inl ⟨s', rfl, ρ, fr', cs', w, hSR, by rw [hhp]; exact .refl R.pre, one_go ?_⟩
          rw [hstep]
          simp only [unwind, hfn', Sem.runT_eq, hx, bare_after]
          rw [hdo]; rfl
        · refine .inr ⟨v, rfl, h1, x, hxv, rfl, rfl, ?_, fn', hfn', hx⟩
          have hk : kind = f.kind := F.kind
          simp only
          rw [hk, h2]
theorem enterLoopA_ok {f : AF} {fr : Frame} {h h' : AH} {d : Nat} {mark : List Deferred} {params : Array Tmp} {asg body : Code} (F : FrR η ρ f fr) (p : Pre η P ρ B h w) (he : enterLoopA f h = .ok (d, mark, h')) :
    ∃ ρ' b dd n mark' w', Post η ρ B h w ρ' h' w' ∧ ρ' d = some (b, dd, n) ∧ L2 (DR η ρ') mark mark' ∧
      (Instr.enterLoop fr.fn fr.tmps params asg body fr.roundOf).run P w = .ok (w'.heap.size, mark') (wpush w' (.loop { state := .ready, pending := none, fn := fr.fn, tmps := fr.tmps, params, assign := asg, body, defers := b })) := by
  unfold enterLoopA at he
  split at he
  · rename_i l hro
    obtain ⟨b, d0, n0, hb, hρ⟩ := RoR.inv_some F hro
    split at he
    · rename_i st pend fn2 tm n ps asg2 body2 ds hg
      obtain ⟨b2, d2, k2, lp, h1, h2, h3, h4, h5, h6, h7, h8, h9, dd, nn, h10⟩ := p.hr.loop hg
      rw [hρ] at h1; cases h1
      rw [okk] at he; injection he with e1 e2; injection e2 with e2 e3; subst e1; subst e2; subst e3
      refine ⟨ρ, lp.defers, dd, nn, [], w, .refl p, h10, .nil, ?_⟩
      rw [hb]
      simp only [Instr.enterLoop, Instr.getLoop, Sem.run_bind, run_getObj h2 (by simp), Result.andThen_ok, Sem.run_pure, run_newObj]
      rfl
    · simp [no] at he
  · rename_i hro
    rw [okk] at he; injection he with e1 e2; injection e2 with e2 e3; subst e1; subst e2; subst e3
    have hpost : Post η ρ B h w (ρ.put h.next (w.heap.size, 0, 0)) (newA h (.deferred (some []))).2 (wpush w (.deferred (some []))) :=
      Post.new (w' := wpush w (.deferred (some []))) (ob := .deferred (some [])) p ⟨rfl, rfl, rfl, rfl⟩ h.objs (fun _ _ hx => hx) ⟨some [], rfl, .nil⟩
    refine ⟨_, w.heap.size, 0, 0, [{ target := .collected w.heap.size, args := #[] }], _, hpost, Env.put_at _ _ _, .cons ⟨⟨0, 0, Env.put_at _ _ _⟩, .nil⟩ .nil, ?_⟩
    rw [RoR.inv_none F hro]
    simp only [Instr.enterLoop, Sem.run_bind, run_newObj, Result.andThen_ok, Sem.run_pure]
    rfl
theorem stepA_ok (hη : OneCells η) {nest : Nest} (hreg : RegOk η P B nest) {cs0 : List Frame} {s : AS} {fr : Frame} {cs : List Frame} {r : AR} (R : SR η P ρ B s fr cs w) (hs : stepA P nest s = .ok r) : Stepped' η P B ρ s fr cs w cs0 r := by
  obtain ⟨f, acs, hp⟩ := s
  have F := R.fr
  simp only at F
  obtain ⟨fn, tmps, todo, defers, mode, kind, roundOf⟩ := fr
  have hmode := F.mode
  have htodo := F.todo
  have hdef := F.defers
  simp only at hmode htodo hdef
  unfold stepA at hs
  dsimp only at hs
  split at hs
  · -- running
    rename_i hfm
    rw [hfm] at hmode
    cases hmode
    split at hs
    · -- nothing left
      rename_i he
      rw [he] at htodo
      have := htodo.inv_nil; subst this
      refine leave_ok (jump := none) R hs (fun cs0 hro _ => ?_) (fun cs0 l v w' hro hrun => ?_)
      · simp only at hro; subst hro
        simp [stepG, run0, stepG.exec]
      · simp only at hro; subst hro
        simp [stepG, run0, stepG.exec, hrun, bare_after]
    · rename_i k he
      rw [he] at htodo
      obtain ⟨y, k', rfl, hy, hk⟩ := htodo.inv_cons
      cases hy
      refine leave_ok (jump := some .ret) R hs (fun cs0 hro _ => ?_) (fun cs0 l v w' hro hrun => ?_)
      · simp only at hro; subst hro
        simp [stepG, run0, stepG.exec]
      · simp only at hro; subst hro
        simp [stepG, run0, stepG.exec, hrun, bare_after]
    · rename_i k he
      rw [he] at htodo
      obtain ⟨y, k', rfl, hy, hk⟩ := htodo.inv_cons
      cases hy
      rw [okk] at hs
      exact Stepped'.move R hs.symm (F.todo_of hk) (fun cs0 => by simp [stepG, run0, stepG.exec])
    · rename_i l k he
      rw [he] at htodo
      obtain ⟨y, k', rfl, hy, hk⟩ := htodo.inv_cons
      cases hy
      rw [okk] at hs
      exact Stepped'.move R hs.symm (F.todo_of hk) (fun cs0 => by simp [stepG, run0, stepG.exec])
    · rename_i l k he
      rw [he] at htodo
      obtain ⟨y, k', rfl, hy, hk⟩ := htodo.inv_cons
      cases hy
      rw [okk] at hs
      exact Stepped'.move R hs.symm (F.todo_of hk) (fun cs0 => by simp [stepG, run0, stepG.exec])
    · rename_i l k he
      rw [he] at htodo
      obtain ⟨y, k', rfl, hy, hk⟩ := htodo.inv_cons
      cases hy
      rw [okk] at hs
      exact Stepped'.move R hs.symm (F.todo_of hk) (fun cs0 => by simp [stepG, run0, stepG.exec])
    · rename_i a b k he
      rw [he] at htodo
      obtain ⟨y, k', rfl, hy, hk⟩ := htodo.inv_cons
      cases hy
      rw [okk] at hs
      exact Stepped'.move R hs.symm (F.todo_of (.cons (.code a) (.cons (.code b) hk))) (fun cs0 => by simp [stepG, run0, stepG.exec])
    · rename_i c thn els k he
      rw [he] at htodo
      obtain ⟨y, k', rfl, hy, hk⟩ := htodo.inv_cons
      cases hy
      split at hs
      · rename_i b hb
        rw [okk] at hs
        have hev : (Frame.eval { fn, tmps, todo := .code (.cond c thn els) :: k', defers, mode := .run, kind, roundOf } c) = .bool b := by
          have hok : okO P c = true := by
            cases c with
            | tmp t => rfl
            | const v => simp only [evA] at hb; subst hb; rfl
            | global g => cases hb
            | func g => cases hb
          have := evA_ok (P := P) R.pre.glob (fr := { fn, tmps, todo := .code (.cond c thn els) :: k', defers, mode := .run, kind, roundOf }) F.tm hok
          rw [hb] at this
          exact this.bool_inv
        refine Stepped'.move R hs.symm (F.todo_of (.cons (.code _) hk)) (fun cs0 => ?_)
        simp [stepG, run0, stepG.exec, hev]
      · simp [no] at hs
    · rename_i id body k he
      rw [he] at htodo
      obtain ⟨y, k', rfl, hy, hk⟩ := htodo.inv_cons
      cases hy
      rw [okk] at hs
      exact Stepped'.move R hs.symm (F.todo_of (.cons (.code body) (.cons (.inBlock id) hk))) (fun cs0 => by simp [stepG, run0, stepG.exec])
    · rename_i body k he
      rw [he] at htodo
      obtain ⟨y, k', rfl, hy, hk⟩ := htodo.inv_cons
      cases hy
      rw [okk] at hs
      exact Stepped'.move R hs.symm (F.todo_of (.cons (.code body) (.cons (.inLoop body) hk))) (fun cs0 => by simp [stepG, run0, stepG.exec])
    · rename_i body k he
      rw [he] at htodo
      obtain ⟨y, k', rfl, hy, hk⟩ := htodo.inv_cons
      cases hy
      rw [okk] at hs
      exact Stepped'.move R hs.symm (F.todo_of (.cons (.code body) (.cons (.inLoop body) hk))) (fun cs0 => by simp [stepG, run0, stepG.exec])
    · rename_i body k he
      rw [he] at htodo
      obtain ⟨y, k', rfl, hy, hk⟩ := htodo.inv_cons
      cases hy
      rw [okk] at hs
      exact Stepped'.move R hs.symm (F.todo_of (.cons (.code body) (.cons (.inScope body) hk))) (fun cs0 => by simp [stepG, run0, stepG.exec])
    · -- exit
      rename_i id k he
      rw [he] at htodo
      obtain ⟨y, k', rfl, hy, hk⟩ := htodo.inv_cons
      cases hy
      obtain ⟨e1, e2⟩ := exitTo_ok (id := id) hk
      split at hs
      · rename_i r' hr'
        obtain ⟨r2, h2, hk2⟩ := e1 r' hr'
        rw [okk] at hs
        exact Stepped'.move R hs.symm (F.todo_of hk2) (fun cs0 => by simp [stepG, run0, stepG.exec, h2])
      · rename_i hr'
        have h2 := e2 hr'
        refine leave_ok (jump := some (.exit id)) R hs (fun cs0 hro hj => ?_) (fun cs0 l v w' hro hrun => ?_)
        · rcases hj with hj | hj <;> cases hj
        · simp only at hro; subst hro
          simp [stepG, run0, stepG.exec, h2, hrun, bare_after]
    · rename_i id k he
      rw [he] at htodo
      obtain ⟨y, k', rfl, hy, hk⟩ := htodo.inv_cons
      cases hy
      obtain ⟨e1, e2⟩ := gotoIn_ok (id := id) hk
      split at hs
      · rename_i r' hr'
        obtain ⟨r2, h2, hk2⟩ := e1 r' hr'
        rw [okk] at hs
        exact Stepped'.move R hs.symm (F.todo_of hk2) (fun cs0 => by simp [stepG, run0, stepG.exec, h2])
      · rename_i hr'
        have h2 := e2 hr'
        refine leave_ok (jump := some (.goto id)) R hs (fun cs0 hro hj => ?_) (fun cs0 l v w' hro hrun => ?_)
        · rcases hj with hj | hj <;> cases hj
        · simp only at hro; subst hro
          simp [stepG, run0, stepG.exec, h2, hrun, bare_after]
    · -- range over a function
      rename_i fo params assign body k he
      rw [he] at htodo
      obtain ⟨y, k', rfl, hy, hk⟩ := htodo.inv_cons
      cases hy
      simp only [bind_ok] at hs
      obtain ⟨⟨d, mark, h1⟩, hel, hs⟩ := hs
      simp only [newA] at hs
      rw [ite_no] at hs
      obtain ⟨hok, hs⟩ := hs
      have hok : okO P fo = true := by simpa using hok
      obtain ⟨ρ1, b, dd, n0, mark', w1, hp1, hd1, hmk, hrun⟩ := enterLoopA_ok (P := P) (params := params) (asg := assign) (body := body) F R.pre hel
      simp only at hrun
      have p1 := R.pre.post hp1
      have F1 := F.mono hp1.le
      have hle := Env.le_put (t := (w1.heap.size, 0, 0)) (p1.fresh h1.next (Nat.le_refl _))
      have hp2 : Post η ρ1 B h1 w1 (ρ1.put h1.next (w1.heap.size, 0, 0)) (newA h1 (.loop .ready none f.fn f.tm f.n params.toList assign body d)).2
          (wpush w1 (.loop { state := .ready, pending := none, fn, tmps, params, assign, body, defers := b })) :=
        Post.new (w' := wpush w1 _) (ob := .loop { state := .ready, pending := none, fn, tmps, params, assign, body, defers := b }) p1 ⟨rfl, rfl, rfl, rfl⟩ h1.objs (fun _ _ hx => hx)
          ⟨_, rfl, rfl, rfl, F1.fn, F1.tm.mono hle, rfl, rfl, rfl, dd, n0, hle _ _ hd1⟩
      have p2 := p1.post hp2
      have F2 := F1.mono hle
      have hpp := hp1.trans hp2
      split at hs
      · rename_i gfn first captured hev
        simp only [bind_ok] at hs
        obtain ⟨⟨a, h3⟩, hi, ha⟩ := hs
        have hv := evA_ok (P := P) (fr := { fn, tmps, todo := .inRangeFunc w1.heap.size :: k', defers := mark' ++ defers, mode := .run, kind, roundOf }) p2.glob F2.tm hok
        rw [hev] at hv
        obtain ⟨g, c, dcap, hg, hfr, hfi, hca⟩ := hv.func_inv
        have hyv : VR η (ρ1.put h1.next (w1.heap.size, 0, 0)) (.func (.yield h1.next) #[] #[]) (.func (.yield w1.heap.size) #[] #[]) := .func_mk (.yield (Env.put_at _ _ _)) .nil .nil
        obtain ⟨ρ', w', hn, hp3⟩ := invokeA_ok (t' := .fn g dcap) (args' := c ++ #[.func (.yield w1.heap.size) #[] #[]]) hη p2 hi ⟨hfr, hca⟩ (by rw [Array.toList_append]; exact hfi.append (.cons hyv .nil))
        have hE : Eff η P (ρ1.put h1.next (w1.heap.size, 0, 0)) B (newA h1 (.loop .ready none f.fn f.tm f.n params.toList assign body d)).2 (wpush w1 (.loop { state := .ready, pending := none, fn, tmps, params, assign, body, defers := b }))
            (do let d ← resolve (Frame.eval { fn, tmps, todo := .inRangeFunc w1.heap.size :: k', defers := mark' ++ defers, mode := .run, kind, roundOf }) { callee := .value fo, args := #[.const (.func (.yield w1.heap.size) #[] #[])], argTypes := #[] } 0; invoke d.target d.args) a h3 := by
          refine ⟨ρ', w', ?_, hp3⟩
          have hres : ∀ w, (resolve (Frame.eval { fn, tmps, todo := .inRangeFunc w1.heap.size :: k', defers := mark' ++ defers, mode := .run, kind, roundOf }) { callee := .value fo, args := #[.const (.func (.yield w1.heap.size) #[] #[])], argTypes := #[] } 0).run P w = .ok { target := .fn g dcap, args := c ++ #[.func (.yield w1.heap.size) #[] #[]] } w := by
            intro w
            simp only [resolve, hg, Deferred.ofValue, Sem.run_pure, List.map_toArray, List.map_cons, List.map_nil]
            rfl
          simp only [Sem.run_bind, hres, Result.andThen_ok]
          exact hn
        have Fn : FrR η (ρ1.put h1.next (w1.heap.size, 0, 0)) { f with todo := .inRangeFunc h1.next :: k, defers := mark ++ f.defers } { fn, tmps, todo := .inRangeFunc w1.heap.size :: k', defers := mark' ++ defers, mode := .run, kind, roundOf } :=
          ⟨F2.fn, F2.tm, .cons (.inRangeFunc (Env.put_at _ _ _)) (hk.mono fun _ _ => ItR.mono (Env.le_trans hp1.le hle)), (hmk.mono fun _ _ => DR.mono hle).append F2.defers, F2.mode, F2.kind, F2.round⟩
        obtain ⟨s', rfl, ρ4, fr4, cs4, w4, k1, k2, k3⟩ := after_ok Fn (L2.map_mono (Env.le_trans hp1.le hle) R.cs) p2 hE ha (fun d b r s k hh => by cases hh)
        refine .inl ⟨s', rfl, ρ4, fr4, cs4, w4, k1, hpp.trans k2, one_go ?_⟩
        have := k3 cs0
        rw [← this]
        simp only [stepG, run0, stepG.exec, Sem.runT_eq, hrun, bare_after]
      · simp [no] at hs
    · -- the round begins
      rename_i k he
      rw [he] at htodo
      obtain ⟨y, k', rfl, hy, hk⟩ := htodo.inv_cons
      cases hy
      split at hs
      · simp [no] at hs
      · rename_i l hro
        obtain ⟨b, d, n0, hb, hρ⟩ := RoR.inv_some F hro
        simp only at hb; subst hb
        split at hs
        · rename_i pend fn2 tm n ps asg body ds hg
          obtain ⟨b2, d2, k2, lp, h1, h2, h3, h4, h5⟩ := R.pre.hr.loop hg
          rw [hρ] at h1; cases h1
          have hpost := Post.loop (st' := .busy) (pend' := pend) R.pre hg hρ h2
          have hrun : ((do (some b).elim (stuck "beginRound: no round") Instr.beginRound; pure .skip : Sem Next)).run P w = .ok .skip (wput w b (.loop { lp with state := .busy, pending := pend })) := by
            simp only [Option.elim_some, Instr.beginRound, Instr.getLoop, Sem.run_bind, run_getObj h2 (by simp), Result.andThen_ok, Sem.run_pure, run_setObj h2 (by simp), h3, h4]
          rw [okk] at hs; subst hs
          refine .inl ⟨_, rfl, ρ, { fn, tmps, todo := k', defers, mode := .run, kind, roundOf := some b }, cs, _, ⟨F.todo_of hk, R.cs, R.pre.post hpost⟩, hpost, one_go ?_⟩
          have := apply_skip (P := P) (fr := { fn, tmps, todo := .beginRound :: k', defers, mode := .run, kind, roundOf := some b }) (cs := cs ++ cs0) hrun
          simp only [stepG, run0, stepG.exec]
          exact this
        · simp [no] at hs
    · -- the loop ends
      rename_i l k he
      rw [he] at htodo
      obtain ⟨y, k', rfl, hy, hk⟩ := htodo.inv_cons
      cases hy with
      | endRangeFunc hρ =>
        rename_i b d n0
        split at hs
        · rename_i st pend fn2 tm n ps asg body ds hg
          obtain ⟨b2, d2, k2, lp, h1, h2, h3, h4, h5⟩ := R.pre.hr.loop hg
          rw [hρ] at h1; cases h1
          rw [ite_no, okk] at hs
          obtain ⟨hst, hs⟩ := hs
          subst hs
          have hpost := Post.loop (st' := .exhausted) (pend' := pend) R.pre hg hρ h2
          have hrun : (Instr.endLoop b).run P w = .ok pend (wput w b (.loop { lp with state := .exhausted, pending := pend })) := by
            have hb : (lp.state == .busy) = false := by rw [h3]; cases st <;> first | rfl | exact absurd rfl hst
            simp only [Instr.endLoop, Instr.getLoop, Sem.run_bind, run_getObj h2 (by simp), Result.andThen_ok, Sem.run_pure, hb, Bool.false_eq_true, if_false, run_setObj h2 (by simp), h4]
          have hitems : L2 (ItR ρ) ((pend.map Item.code).toList ++ k) ((pend.map Item.code).toList ++ k') := by
            refine L2.append ?_ hk
            cases pend with
            | none => exact .nil
            | some c => exact .cons (.code c) .nil
          refine .inl ⟨_, rfl, ρ, { fn, tmps, todo := (pend.map Item.code).toList ++ k', defers, mode := .run, kind, roundOf }, cs, _, ⟨F.todo_of hitems, R.cs, R.pre.post hpost⟩, hpost, one_go ?_⟩
          simp [stepG, run0, stepG.exec, hrun, bare_after]
        · simp [no] at hs
    · -- a region
      rename_i id ops draw k he
      rw [he] at htodo
      obtain ⟨y, k', rfl, hy, hk⟩ := htodo.inv_cons
      cases hy
      cases draw with
      | false =>
        simp only [Bool.not_false, if_true, okk] at hs
        exact Stepped'.move R hs.symm (F.todo_of (.cons (.inRegion ops (List.range ops.size)) hk)) (fun cs0 => by simp [stepG, run0, stepG.exec])
      | true =>
        simp only [Bool.not_true, Bool.false_eq_true, if_false, bind_ok] at hs
        obtain ⟨⟨tm, h'⟩, hr, hs⟩ := hs
        rw [okk] at hs; subst hs
        obtain ⟨ρ', tmps', w', k1, k2, k3⟩ := hreg ops f.n f.tm tm hp h' hr ρ { fn, tmps, todo := .code (.region id ops true) :: k', defers, mode := .run, kind, roundOf } w k' id (cs ++ cs0) F.tm R.pre rfl rfl
        refine .inl ⟨_, rfl, ρ', { fn, tmps := tmps', todo := k', defers, mode := .run, kind, roundOf }, cs, w', ⟨?_, L2.map_mono k2.le R.cs, R.pre.post k2⟩, k2, k3⟩
        have F' := F.mono k2.le
        exact ⟨F'.fn, k1, hk.mono fun _ _ => ItR.mono k2.le, F'.defers, F'.mode, F'.kind, F'.round⟩
    · rename_i ops k he
      rw [he] at htodo
      obtain ⟨y, k', rfl, hy, hk⟩ := htodo.inv_cons
      cases hy
      rw [okk] at hs
      exact Stepped'.move R hs.symm (F.todo_of hk) (fun cs0 => by simp [stepG, run0, stepG.exec])
    · -- an operation
      rename_i ops i rest k he
      rw [he] at htodo
      obtain ⟨y, k', rfl, hy, hk⟩ := htodo.inv_cons
      cases hy
      split at hs
      · simp [no] at hs
      · rename_i o ho
        have ho' : ops[i]? = some o := by rw [← Array.getElem?_toList]; exact ho
        simp only [bind_ok] at hs
        obtain ⟨b, hb, hs⟩ := hs
        have hw := wanted_ok (ops := ops) F.tm hb
        simp only at hw
        cases b with
        | true =>
          simp only [if_true, bind_ok] at hs
          obtain ⟨⟨a, h'⟩, hex, ha⟩ := hs
          have hE := execA_ok (w := w) hη R.pre (o := o) (σ := evA f.tm) (τ := Frame.eval { fn, tmps, todo := .inRegion ops (i :: rest) :: k', defers, mode := .run, kind, roundOf }) (fun x hx => evA_ok R.pre.glob F.tm hx) hex
          obtain ⟨s', rfl, ρ', fr', cs', w', k1, k2, k3⟩ := after_ok F R.cs R.pre hE ha (fun d b r s k hh => by cases hh)
          refine .inl ⟨s', rfl, ρ', fr', cs', w', k1, k2, one_go ?_⟩
          rw [stepG_region rfl rfl ho' hw (notDefer F hex ha)]
          exact k3 cs0
        | false =>
          simp only [Bool.false_eq_true, if_false, bind_ok] at hs
          obtain ⟨f2, hf2, hs⟩ := hs
          rw [okk] at hs; subst hs
          have F2 := finish_ok hf2 F .undef'
          refine .inl ⟨_, rfl, ρ, _, cs, w, ⟨F2, R.cs, R.pre⟩, .refl R.pre, one_go ?_⟩
          simp only [stepG, run0, stepG.exec, ho', Option.map_some, Option.getD_some, hw, Bool.false_eq_true, if_false]
          rfl
    · simp [no] at hs
  · exact unwindA_ok hη R hs (by rw [‹f.mode = _›]; simp)
  · exact unwindA_ok hη R hs (by rw [‹f.mode = _›]; simp)
end
end Go.Ev

namespace Go.Ev
set_option linter.unusedVariables false
set_option linter.unusedSimpArgs false
variable {η : Nat → Value}
theorem veqL_eq {n : Nat} (ih : ∀ a b, veq n a b = true → a = b) : ∀ (l m : List Value), veq.veqL n l m = true → l = m
  | [], [], _ => rfl
  | [], _ :: _, h => by simp [veq.veqL] at h
  | _ :: _, [], h => by simp [veq.veqL] at h
  | x :: l, y :: m, h => by
    simp only [veq.veqL, Bool.and_eq_true] at h
    rw [ih _ _ h.1, veqL_eq ih l m h.2]
theorem arr_ext {a b : Array Value} (h : a.toList = b.toList) : a = b := by
  rw [← Array.toArray_toList (xs := a), h]
theorem veq_eq : ∀ (n : Nat) (a b : Value), veq n a b = true → a = b
  | 0, a, b, h => by simp [veq] at h
  | n + 1, a, b, h => by
    have ih := veq_eq n
    have ihl := veqL_eq ih
    unfold veq at h
    split at h <;> try simp only [Bool.and_eq_true, beq_iff_eq] at h
    · rw [h]
    · rw [h.1, h.2]
    · rw [byteArray_ext h]
    · rw [h]
    · rw [h.1.1, h.1.2, h.2]
    · rw [h]
    · rw [h]
    · rfl
    · rfl
    · rw [h.1, ih _ _ h.2]
    · rw [h.1.1, arr_ext (ihl _ _ h.1.2), arr_ext (ihl _ _ h.2)]
    · rw [arr_ext (ihl _ _ h)]
    · rw [arr_ext (ihl _ _ h)]
    · cases h
theorem maskOf_ok {masks : List Nat} {i : Nat} : ∀ {es : List Edge} {m : Nat}, maskOf masks i es = .ok m →
    (∀ e ∈ es, Region.binds .any e = true → e.on < i ∧ m.testBit e.on = true) ∧
    (∀ j, m.testBit j = true → ∃ e ∈ es, Region.binds .any e = true ∧ e.on < i ∧ (j = e.on ∨ ((masks[e.on]?).getD 0).testBit j = true))
  | [], m, h => by
    simp only [maskOf, okk] at h; subst h
    exact ⟨fun e he => by simp at he, fun j hj => by simp at hj⟩
  | e :: es, m, h => by
    simp only [maskOf, bind_ok] at h
    obtain ⟨r, hr, h⟩ := h
    obtain ⟨i1, i2⟩ := maskOf_ok hr
    by_cases hb : Region.binds .any e = true
    · rw [if_pos hb, ite_no', okk] at h
      obtain ⟨hlt, rfl⟩ := h
      constructor
      · intro e' he' hb'
        rcases List.mem_cons.1 he' with rfl | he'
        · exact ⟨hlt, by simp [Nat.testBit_or]⟩
        · obtain ⟨a, b⟩ := i1 e' he' hb'
          exact ⟨a, by simp [Nat.testBit_or, b]⟩
      · intro j hj
        simp only [Nat.testBit_or, Bool.or_eq_true] at hj
        rcases hj with (hj | hj) | hj
        · rw [Nat.testBit_two_pow] at hj
          exact ⟨e, by simp, hb, hlt, .inl (by simpa using (of_decide_eq_true hj).symm)⟩
        · exact ⟨e, by simp, hb, hlt, .inr hj⟩
        · obtain ⟨e', he', a, b, c⟩ := i2 j hj
          exact ⟨e', by simp [he'], a, b, c⟩
    · rw [if_neg hb, okk] at h; subst h
      constructor
      · intro e' he' hb'
        rcases List.mem_cons.1 he' with rfl | he'
        · exact absurd hb' hb
        · exact i1 e' he' hb'
      · intro j hj
        obtain ⟨e', he', a, b, c⟩ := i2 j hj
        exact ⟨e', by simp [he'], a, b, c⟩
/-- Who wrote last, of those in a set. -/
def wr : List Ent → Nat → (Nat → Bool) → Tmp → Option Value → Option Value
  | [], _, _, _, acc => acc
  | x :: l, i, p, t, acc => wr l (i + 1) p t (if p i && x.o.dst == some t then some x.v else acc)
theorem wr_congr {p q : Nat → Bool} {t : Tmp} : ∀ {l : List Ent} {i : Nat} {acc : Option Value}, (∀ j x, l[j]? = some x → x.o.dst = some t → p (i + j) = q (i + j)) → wr l i p t acc = wr l i q t acc
  | [], i, acc, _ => rfl
  | x :: l, i, acc, h => by
    simp only [wr]
    have h0 := h 0 x rfl
    have e : (if p i && x.o.dst == some t then some x.v else acc) = (if q i && x.o.dst == some t then some x.v else acc) := by
      by_cases hd : x.o.dst = some t
      · rw [show p i = q i from h0 hd]
      · simp [hd]
    rw [e]
    exact wr_congr fun j y hj hy => by have := h (j + 1) y (by simpa using hj) hy; rwa [show i + (j + 1) = i + 1 + j by omega] at this
theorem wr_none {p : Nat → Bool} {t : Tmp} : ∀ {l : List Ent} {i : Nat} {acc : Option Value}, (∀ j x, l[j]? = some x → x.o.dst = some t → p (i + j) = false) → wr l i p t acc = acc
  | [], i, acc, _ => rfl
  | x :: l, i, acc, h => by
    simp only [wr]
    have h0 := h 0 x rfl
    have e : (if p i && x.o.dst == some t then some x.v else acc) = acc := by
      by_cases hd : x.o.dst = some t
      · rw [show p i = false from h0 hd]; simp
      · simp [hd]
    rw [e]
    exact wr_none fun j y hj hy => by have := h (j + 1) y (by simpa using hj) hy; rwa [show i + (j + 1) = i + 1 + j by omega] at this
theorem wr_last {p : Nat → Bool} {t : Tmp} {x : Ent} : ∀ {l : List Ent} {i j : Nat} {acc : Option Value}, l[j]? = some x → x.o.dst = some t → p (i + j) = true →
    (∀ j' y, j < j' → l[j']? = some y → y.o.dst = some t → p (i + j') = false) → wr l i p t acc = some x.v
  | [], i, j, acc, h, _, _, _ => by simp at h
  | y :: l, i, 0, acc, h, hd, hp, hn => by
    simp at h; subst h
    simp only [wr]
    rw [wr_none (fun j' z hj hz => by have := hn (j' + 1) z (by omega) (by simpa using hj) hz; rwa [show i + (j' + 1) = i + 1 + j' by omega] at this)]
    simp [show p i = true from hp, hd]
  | y :: l, i, j + 1, acc, h, hd, hp, hn => by
    simp only [wr]
    exact wr_last (j := j) (by simpa using h) hd (by rwa [show i + 1 + j = i + (j + 1) by omega]) fun j' z hj hz hdz => by
      have := hn (j' + 1) z (by omega) (by simpa using hz) hdz; rwa [show i + (j' + 1) = i + 1 + j' by omega] at this
theorem wr_append {p : Nat → Bool} {t : Tmp} {x : Ent} : ∀ {l : List Ent} {i : Nat} {acc : Option Value}, wr (l ++ [x]) i p t acc = if p (i + l.length) && x.o.dst == some t then some x.v else wr l i p t acc
  | [], i, acc => rfl
  | y :: l, i, acc => by
    simp only [List.cons_append, wr]
    rw [wr_append, List.length_cons, show i + 1 + l.length = i + (l.length + 1) by omega]
def alOf (E : List Ent) (j : Nat) : Option AObj := (E[j]?).bind (·.obj)
def mkE (E : List Ent) (j : Nat) : Nat := ((E[j]?).map (·.mask)).getD 0
def Merged (E : List Ent) (ee : List Nat) (k j : Nat) : Prop := ∃ m e, m < k ∧ ee[m]? = some e ∧ (mkE E e).testBit j = true
def AlIn (E : List Ent) (ee : List Nat) (base k : Nat) (al : List (Nat × Nat × AObj)) : Prop := ∀ j r b, (j, r, b) ∈ al → r = base + j ∧ alOf E j = some b ∧ ¬ Merged E ee k j
structure EntOk (P : Program) (nest : Nest) (ops : List Oper) (base n : Nat) (tm0 : T Value) (E : List Ent) (hh : List AH) (ee : List Nat) (j : Nat) (x : Ent) : Prop where
  o : ops[j]? = some x.o
  pre : ∀ e ∈ x.o.after.toList, Region.binds .any e = true → e.on < j ∧ x.mask.testBit e.on = true
  clo : ∀ m, x.mask.testBit m = true → ∃ e ∈ x.o.after.toList, Region.binds .any e = true ∧ e.on < j ∧ (m = e.on ∨ (mkE E e.on).testBit m = true)
  ord : ∀ j' y, j' < j → E[j']? = some y → clash ops y.o x.o = true → x.mask.testBit j' = true
  tm : ∀ t, x.tm.get t = wr E 0 (fun i => decide (i < j)) t (tm0.get t)
  dst : ∀ d, x.o.dst = some d → d < n
  want : wantedA ops x.tm x.o = .ok x.want
  un : x.want = false → x.v = undef ∧ x.obj = none
  ok : x.want = true → okOps P x.o = true
  rd : x.want = true → x.kind = .read → x.obj = none ∧ ∀ k hk, hh[k]? = some hk → (∀ m e, ee[m]? = some e → x.mask.testBit e = true → m < k) → (∀ m e, m < k → ee[m]? = some e → (mkE E e).testBit j = false) →
    ∃ al, AlIn E ee base k al ∧ readA P (evA x.tm) x.o (withAl x.mask hk al) = .ok x.v
  alc : x.want = true → x.kind = .alloc → ∃ b, x.obj = some b ∧ allocA P (evA x.tm) x.o (base + j) = .ok (x.v, b)
  eff : x.want = true → x.kind = .effect → x.obj = none ∧ ∃ k hk hk', ee[k]? = some j ∧ hh[k]? = some hk ∧ hh[k + 1]? = some hk' ∧ (∀ m e, m < k → ee[m]? = some e → x.mask.testBit e = true) ∧
    ∃ al, AlIn E ee base k al ∧ effRun P nest (evA x.tm) x.o (withAl x.mask hk al) = .ok (x.v, hk')
  once : x.want = true → x.kind = .read → ∃ hx, readA P (evA x.tm) x.o hx = .ok x.v
structure Good (P : Program) (nest : Nest) (ops : List Oper) (base n : Nat) (tm0 : T Value) (h0 : AH) (s : RS) : Prop where
  msk : ∀ j : Nat, (s.masks[j]?).getD 0 = mkE s.ents j
  mlen : s.masks.length = s.ents.length
  hlen : s.hh.length = s.ee.length + 1
  hd : s.hh[0]? = some h0
  hl : s.hh[s.ee.length]? = some s.h
  ent : ∀ j x, s.ents[j]? = some x → EntOk P nest ops base n tm0 s.ents s.hh s.ee j x
  effs : ∀ (m e : Nat), s.ee[m]? = some e → ∃ x, s.ents[e]? = some x ∧ x.want = true ∧ x.kind = .effect
  inc : ∀ (m m' e e' : Nat), m < m' → s.ee[m]? = some e → s.ee[m']? = some e' → e < e'
  al : AlIn s.ents s.ee base s.ee.length s.al
  alc : ∀ j b, alOf s.ents j = some b → ¬ Merged s.ents s.ee s.ee.length j → (j, base + j, b) ∈ s.al
  tm : ∀ t, s.tm.get t = wr s.ents 0 (fun i => decide (i < s.ents.length)) t (tm0.get t)
section
variable {P : Program} {nest : Nest} {ops : List Oper} {base n : Nat} {tm0 : T Value} {h0 : AH} {s : RS}
theorem mkE_append {E : List Ent} {x : Ent} {j : Nat} (h : j < E.length) : mkE (E ++ [x]) j = mkE E j := by
  unfold mkE; rw [List.getElem?_append_left h]
theorem mkE_new {E : List Ent} {x : Ent} : mkE (E ++ [x]) E.length = x.mask := by
  unfold mkE; simp
theorem alOf_append {E : List Ent} {x : Ent} {j : Nat} (h : j < E.length) : alOf (E ++ [x]) j = alOf E j := by
  unfold alOf; rw [List.getElem?_append_left h]
theorem alOf_lt {E : List Ent} {j : Nat} {b : AObj} (h : alOf E j = some b) : j < E.length := by
  unfold alOf at h
  rcases Nat.lt_or_ge j E.length with h' | h'
  · exact h'
  · rw [List.getElem?_eq_none h'] at h; cases h
theorem Good.ee_lt (G : Good P nest ops base n tm0 h0 s) {m e : Nat} (h : s.ee[m]? = some e) : e < s.ents.length := by
  obtain ⟨x, hx, _⟩ := G.effs m e h
  exact (List.getElem?_eq_some_iff.1 hx).1
/-- Entries and effects that are put behind. -/
structure Ext (s : RS) (x : Ent) (ee' : List Nat) (hh' : List AH) : Prop where
  ee : ∀ m, m < s.ee.length → ee'[m]? = s.ee[m]?
  hh : ∀ k, k ≤ s.ee.length → hh'[k]? = s.hh[k]?
theorem Good.merged_iff (G : Good P nest ops base n tm0 h0 s) {x : Ent} {ee' : List Nat} {hh' : List AH} (X : Ext s x ee' hh') {k j : Nat} (hk : k ≤ s.ee.length) : Merged (s.ents ++ [x]) ee' k j ↔ Merged s.ents s.ee k j := by
  constructor
  · rintro ⟨m, e, hm, he, hb⟩
    rw [X.ee m (by omega)] at he
    exact ⟨m, e, hm, he, by rwa [mkE_append (G.ee_lt he)] at hb⟩
  · rintro ⟨m, e, hm, he, hb⟩
    exact ⟨m, e, hm, by rw [X.ee m (by omega)]; exact he, by rwa [mkE_append (G.ee_lt he)]⟩
theorem Good.alin (G : Good P nest ops base n tm0 h0 s) {x : Ent} {ee' : List Nat} {hh' : List AH} (X : Ext s x ee' hh') {k : Nat} (hk : k ≤ s.ee.length) {al : List (Nat × Nat × AObj)} (h : AlIn s.ents s.ee base k al) : AlIn (s.ents ++ [x]) ee' base k al := by
  intro j r b hm
  obtain ⟨h1, h2, h3⟩ := h j r b hm
  exact ⟨h1, by rw [alOf_append (alOf_lt h2)]; exact h2, fun hh => h3 ((G.merged_iff X hk).1 hh)⟩
/-- An entry goes on to hold. -/
theorem Good.keep (G : Good P nest ops base n tm0 h0 s) {x : Ent} {ee' : List Nat} {hh' : List AH} (X : Ext s x ee' hh') {j : Nat} {y : Ent} (hy : s.ents[j]? = some y)
    (hnew : y.want = true → y.kind = .read → ∀ k hk, s.ee.length < k → hh'[k]? = some hk → (∀ m e, m < k → ee'[m]? = some e → (mkE (s.ents ++ [x]) e).testBit j = false) → ∃ al, AlIn (s.ents ++ [x]) ee' base k al ∧ readA P (evA y.tm) y.o (withAl y.mask hk al) = .ok y.v) :
    EntOk P nest ops base n tm0 (s.ents ++ [x]) hh' ee' j y := by
  have K := G.ent j y hy
  have hj : j < s.ents.length := (List.getElem?_eq_some_iff.1 hy).1
  refine ⟨K.o, K.pre, ?_, ?_, ?_, K.dst, K.want, K.un, K.ok, ?_, K.alc, ?_, K.once⟩
  · intro m hm
    obtain ⟨e, he, hb, hlt, hor⟩ := K.clo m hm
    exact ⟨e, he, hb, hlt, by rw [mkE_append (by omega)]; exact hor⟩
  · intro j' z hj' hz
    rw [List.getElem?_append_left (by omega)] at hz
    exact K.ord j' z hj' hz
  · intro t
    rw [K.tm t, wr_append]
    simp only [Nat.zero_add]
    rw [show decide (s.ents.length < j) = false from by simp; omega]
    simp
  · intro hw hk
    obtain ⟨h1, h2⟩ := K.rd hw hk
    refine ⟨h1, fun k hk' hkk c1 c2 => ?_⟩
    rcases Nat.lt_or_ge s.ee.length k with hlt | hle
    · exact hnew hw hk k hk' hlt hkk c2
    · rw [X.hh k hle] at hkk
      obtain ⟨al, a1, a2⟩ := h2 k hk' hkk (fun m e hm hb => by
        have hml : m < s.ee.length := (List.getElem?_eq_some_iff.1 hm).1
        exact c1 m e (by rw [X.ee m hml]; exact hm) hb) (fun m e hm he => by
        have := c2 m e hm (by rw [X.ee m (by omega)]; exact he)
        rwa [mkE_append (G.ee_lt he)] at this)
      exact ⟨al, G.alin X hle a1, a2⟩
  · intro hw hk
    obtain ⟨h1, k, hk1, hk2, e1, e2, e3, e4, al, a1, a2⟩ := K.eff hw hk
    have hkl : k < s.ee.length := (List.getElem?_eq_some_iff.1 e1).1
    refine ⟨h1, k, hk1, hk2, by rw [X.ee k hkl]; exact e1, by rw [X.hh k (by omega)]; exact e2, by rw [X.hh (k + 1) (by omega)]; exact e3, ?_, al, G.alin X (by omega) a1, a2⟩
    intro m e hm he
    exact e4 m e hm (by rw [← X.ee m (by omega)]; exact he)
theorem orderOk_ok {o : Oper} {mask : Nat} : ∀ {E : List Ent} {i : Nat}, orderOk ops o mask E i = true → ∀ j y, E[j]? = some y → clash ops y.o o = true → mask.testBit (i + j) = true
  | [], i, _, j, y, hy, _ => by simp at hy
  | x :: E, i, h, j, y, hy, hc => by
    simp only [orderOk, Bool.and_eq_true, Bool.or_eq_true, Bool.not_eq_true'] at h
    cases j with
    | zero =>
      simp at hy; subst hy
      rcases h.1 with h1 | h1
      · rw [hc] at h1; cases h1
      · exact h1
    | succ j =>
      have := orderOk_ok h.2 j y (by simpa using hy) hc
      rwa [show i + 1 + j = i + (j + 1) by omega] at this
theorem readsOk_ok {mask : Nat} {al : List (Nat × Nat × AObj)} {h : AH} : ∀ {E : List Ent} {i : Nat}, readsOk P mask al h E i = true → ∀ j y, E[j]? = some y → isReadE y = true → mask.testBit (i + j) = false → sameRead P y al h = true
  | [], i, _, j, y, hy, _, _ => by simp at hy
  | x :: E, i, hr, j, y, hy, hc, hm => by
    simp only [readsOk, Bool.and_eq_true, Bool.or_eq_true, Bool.not_eq_true'] at hr
    cases j with
    | zero =>
      simp at hy; subst hy
      rcases hr.1 with (h1 | h1) | h1
      · rw [hc] at h1; cases h1
      · rw [show mask.testBit i = false from hm] at h1; cases h1
      · exact h1
    | succ j => exact readsOk_ok hr.2 j y (by simpa using hy) hc (by rwa [show i + 1 + j = i + (j + 1) by omega])
theorem eqA_free {h h' : AH} {t : TypeId} {x y : Value} {d : TypeDesc} (hu : P.underlying t = some d) (hd : litD d = true) (n : Nat) : eqA P h n t x y = eqA P h' n t x y := by
  cases n with
  | zero => rfl
  | succ n =>
    unfold eqA
    simp only [undA, hu, orNo, bind, Except.bind]
    unfold litD at hd
    split at hd
    · cases x <;> cases y <;> rfl
    · cases x <;> cases y <;> rfl
    · cases x <;> cases y <;> rfl
    · cases hd
theorem readA_free {ρ : Operand → Value} {o : Oper} {h h' : AH} (hf : freeOp P o.op = true) : readA P ρ o h = readA P ρ o h' := by
  unfold readA
  unfold freeOp at hf
  split at hf
  · rename_i x he; simp only [he]
  · rename_i x he; simp only [he]
  · rename_i he; simp only [he]
  · rename_i he; simp only [he]
  · rename_i he; simp only [he]
  · rename_i he; simp only [he]
  · rename_i he; simp only [he]
  · rename_i he; simp only [he]
  · rename_i he; simp only [he]
  · rename_i op t x y yt he
    simp only [he]
    have hb : binA P h op t (ρ x) (ρ y) = binA P h' op t (ρ x) (ρ y) := by
      unfold binA
      have e : ∀ a b, eqA P h 10000 t a b = eqA P h' 10000 t a b := by
        intro a b
        split at hf
        · rename_i d hu; exact eqA_free hu hf _
        · cases hf
      split <;> first | rfl | simp only [e]
    rw [hb]
  · cases hf
theorem sameRead_ok {e : Ent} {al : List (Nat × Nat × AObj)} {h : AH} (hs : sameRead P e al h = true) (h1 : ∃ hx, readA P (evA e.tm) e.o hx = .ok e.v) : readA P (evA e.tm) e.o (withAl e.mask h al) = .ok e.v := by
  unfold sameRead at hs
  rw [Bool.or_eq_true] at hs
  rcases hs with hs | hs
  · obtain ⟨hx, h1⟩ := h1
    rw [readA_free hs]; exact h1
  · split at hs
    · rename_i v hv; rw [hv, veq_eq _ _ _ hs]
    · cases hs
end
end Go.Ev

namespace Go.Ev
set_option linter.unusedVariables false
set_option linter.unusedSimpArgs false
variable {η : Nat → Value}
section
variable {P : Program} {nest : Nest} {ops : List Oper} {base n : Nat} {tm0 : T Value} {h0 : AH} {s : RS}
theorem putT_get {n : Nat} {tm tm2 : T Value} {dst : Option Tmp} {v : Value} (h : putT n tm dst v = .ok tm2) : (∀ d, dst = some d → d < n) ∧ ∀ t, tm2.get t = if dst = some t then some v else tm.get t := by
  cases dst with
  | none => simp only [putT, okk] at h; subst h; exact ⟨(fun d hd => by cases hd), (fun t => by simp)⟩
  | some d =>
    simp only [putT] at h
    rw [ite_no', okk] at h
    obtain ⟨hd, rfl⟩ := h
    refine ⟨fun e he => by cases he; exact hd, fun t => ?_⟩
    rw [T.get_set]
    by_cases e : t = d
    · subst e; simp
    · rw [if_neg e, if_neg (fun hc => e (by cases hc; rfl))]
theorem tm_next (G : Good P nest ops base n tm0 h0 s) {x : Ent} {tm2 : T Value} (h : putT n s.tm x.o.dst x.v = .ok tm2) (t : Tmp) : tm2.get t = wr (s.ents ++ [x]) 0 (fun i => decide (i < (s.ents ++ [x]).length)) t (tm0.get t) := by
  rw [(putT_get h).2 t, wr_append, G.tm t]
  simp only [Nat.zero_add, List.length_append, List.length_singleton]
  have e : wr s.ents 0 (fun i => decide (i < s.ents.length)) t (tm0.get t) = wr s.ents 0 (fun i => decide (i < s.ents.length + 1)) t (tm0.get t) := by
    refine wr_congr fun j y hy _ => ?_
    have := (List.getElem?_eq_some_iff.1 hy).1
    simp; omega
  rw [e]
  by_cases hd : x.o.dst = some t
  · simp [hd]
  · simp [hd]
theorem tm_same (x : Ent) (G : Good P nest ops base n tm0 h0 s) (t : Tmp) : s.tm.get t = wr (s.ents ++ [x]) 0 (fun i => decide (i < s.ents.length)) t (tm0.get t) := by
  rw [wr_append, G.tm t]
  simp
theorem msk_next {x : Ent} {mask : Nat} (hmask : x.mask = mask) (hm : ∀ j : Nat, (s.masks[j]?).getD 0 = mkE s.ents j) (hl : s.masks.length = s.ents.length) (j : Nat) : ((s.masks ++ [mask])[j]?).getD 0 = mkE (s.ents ++ [x]) j := by
  rcases Nat.lt_trichotomy j s.ents.length with h | h | h
  · rw [mkE_append h, List.getElem?_append_left (by omega)]; exact hm j
  · subst h
    rw [mkE_new, List.getElem?_append_right (by omega), hl]; simp [hmask]
  · unfold mkE
    rw [List.getElem?_eq_none (by rw [List.length_append]; simp; omega), List.getElem?_eq_none (by rw [List.length_append]; simp; omega)]
    rfl
theorem withAl_next {mask : Nat} {h : AH} : ∀ (al : List (Nat × Nat × AObj)), (withAl mask h al).next = h.next
  | [] => rfl
  | (i, r, b) :: l => by
    simp only [withAl]
    split
    · exact withAl_next l
    · exact withAl_next l
theorem withAl_get {mask : Nat} {h : AH} {r : Nat} {a : AObj} : ∀ (al : List (Nat × Nat × AObj)), (withAl mask h al).objs.get r = some a → h.objs.get r = some a ∨ ∃ j, (j, r, a) ∈ al ∧ mask.testBit j = true
  | [], hg => .inl hg
  | (i, r', b) :: l, hg => by
    simp only [withAl] at hg
    split at hg
    · rename_i hm
      simp only [putA, T.get_set] at hg
      by_cases e : r = r'
      · rw [if_pos e] at hg; cases hg; subst e
        exact .inr ⟨i, by simp, hm⟩
      · rw [if_neg e] at hg
        rcases withAl_get l hg with h1 | ⟨j, h1, h2⟩
        · exact .inl h1
        · exact .inr ⟨j, by simp [h1], h2⟩
    · rcases withAl_get l hg with h1 | ⟨j, h1, h2⟩
      · exact .inl h1
      · exact .inr ⟨j, by simp [h1], h2⟩
theorem Good.ext_same (G : Good P nest ops base n tm0 h0 s) (x : Ent) : Ext s x s.ee s.hh := ⟨fun _ _ => rfl, fun _ _ => rfl⟩
/-- The entry of a step that is no effect. -/
theorem Good.quiet (G : Good P nest ops base n tm0 h0 s) {x : Ent} {tm2 : T Value} {al2 : List (Nat × Nat × AObj)} (hx : EntOk P nest ops base n tm0 (s.ents ++ [x]) s.hh s.ee s.ents.length x) (hp : putT n s.tm x.o.dst x.v = .ok tm2)
    (hal : ∀ p, p ∈ al2 ↔ p ∈ s.al ∨ ∃ b, x.obj = some b ∧ p = (s.ents.length, base + s.ents.length, b)) : Good P nest ops base n tm0 h0 { s with tm := tm2, al := al2, masks := s.masks ++ [x.mask], ents := s.ents ++ [x] } := by
  have X := G.ext_same x
  have hnm : ∀ k, k ≤ s.ee.length → ¬ Merged (s.ents ++ [x]) s.ee k s.ents.length := by
    rintro k hk ⟨m, e, hm, he, hb⟩
    have hel := G.ee_lt he
    rw [mkE_append hel] at hb
    obtain ⟨y, hy, _⟩ := G.effs m e he
    have K := G.ent e y hy
    have hmk : mkE s.ents e = y.mask := by unfold mkE; rw [hy]; rfl
    rw [hmk] at hb
    -- the bits of a mask lie before its entry
    have below : ∀ (e : Nat) (y : Ent), s.ents[e]? = some y → ∀ m, y.mask.testBit m = true → m < e := by
      intro e
      induction e using Nat.strongRecOn with
      | _ e ih =>
        intro y hy m hm
        obtain ⟨ed, _, _, hlt, hor⟩ := (G.ent e y hy).clo m hm
        rcases hor with rfl | hor
        · exact hlt
        · have hl : ed.on < s.ents.length := by have := (List.getElem?_eq_some_iff.1 hy).1; omega
          have hz : s.ents[ed.on]? = some s.ents[ed.on] := List.getElem?_eq_getElem hl
          have : mkE s.ents ed.on = s.ents[ed.on].mask := by unfold mkE; rw [hz]; rfl
          rw [this] at hor
          have := ih ed.on hlt _ hz m hor
          omega
    have := below e y hy _ hb
    omega
  refine ⟨msk_next rfl G.msk G.mlen, by simp [G.mlen], G.hlen, G.hd, G.hl, ?_, ?_, G.inc, ?_, ?_, tm_next G hp⟩
  · intro j y hy
    rcases Nat.lt_trichotomy j s.ents.length with h | h | h
    · rw [List.getElem?_append_left h] at hy
      refine G.keep X hy (fun _ _ k hk hlt hkk _ => ?_)
      have := (List.getElem?_eq_some_iff.1 hkk).1
      rw [G.hlen] at this; omega
    · subst h
      rw [List.getElem?_append_right (Nat.le_refl _)] at hy
      simp at hy; subst hy; exact hx
    · rw [List.getElem?_eq_none (by rw [List.length_append]; simp; omega)] at hy; cases hy
  · intro m e he
    obtain ⟨y, h1, h2⟩ := G.effs m e he
    exact ⟨y, by rw [List.getElem?_append_left (List.getElem?_eq_some_iff.1 h1).1]; exact h1, h2⟩
  · intro j r b hm
    rcases (hal _).1 hm with hm | ⟨b', hb', he⟩
    · exact G.alin X (Nat.le_refl _) G.al j r b hm
    · cases he
      refine ⟨rfl, ?_, hnm _ (Nat.le_refl _)⟩
      unfold alOf
      simp [hb']
  · intro j b hb hnm'
    rcases Nat.lt_trichotomy j s.ents.length with h | h | h
    · rw [alOf_append h] at hb
      exact (hal _).2 (.inl (G.alc j b hb (fun hm => hnm' ((G.merged_iff X (Nat.le_refl _)).2 hm))))
    · subst h
      unfold alOf at hb
      simp at hb
      exact (hal _).2 (.inr ⟨b, hb, rfl⟩)
    · have := alOf_lt hb; rw [List.length_append] at this; simp at this; omega
/-- The entry of an effect. -/
theorem Good.loud (G : Good P nest ops base n tm0 h0 s) {x : Ent} {tm2 : T Value} {h' : AH} (hx : EntOk P nest ops base n tm0 (s.ents ++ [x]) (s.hh ++ [h']) (s.ee ++ [s.ents.length]) s.ents.length x) (hp : putT n s.tm x.o.dst x.v = .ok tm2)
    (hw : x.want = true) (hk : x.kind = .effect) (hobj : x.obj = none) (hrd : readsOk P x.mask (s.al.filter fun p => !x.mask.testBit p.1) h' s.ents 0 = true) :
    Good P nest ops base n tm0 h0 { tm := tm2, h := h', hh := s.hh ++ [h'], ee := s.ee ++ [s.ents.length], al := s.al.filter fun p => !x.mask.testBit p.1, masks := s.masks ++ [x.mask], ents := s.ents ++ [x] } := by
  have X : Ext s x (s.ee ++ [s.ents.length]) (s.hh ++ [h']) := ⟨fun m hm => List.getElem?_append_left hm, fun k hk => List.getElem?_append_left (by rw [G.hlen]; omega)⟩
  have mlast : ∀ j, Merged (s.ents ++ [x]) (s.ee ++ [s.ents.length]) (s.ee.length + 1) j ↔ Merged s.ents s.ee s.ee.length j ∨ x.mask.testBit j = true := by
    intro j
    constructor
    · rintro ⟨m, e, hm, he, hb⟩
      rcases Nat.lt_or_ge m s.ee.length with hlt | hge
      · exact .inl ((G.merged_iff X (Nat.le_refl _)).1 ⟨m, e, hlt, he, hb⟩)
      · have : m = s.ee.length := by omega
        subst this
        rw [List.getElem?_append_right (Nat.le_refl _)] at he
        simp at he; subst he
        rw [mkE_new] at hb
        exact .inr hb
    · rintro (hm | hb)
      · obtain ⟨m, e, h1, h2, h3⟩ := (G.merged_iff X (Nat.le_refl _)).2 hm
        exact ⟨m, e, by omega, h2, h3⟩
      · exact ⟨s.ee.length, s.ents.length, by omega, by rw [List.getElem?_append_right (Nat.le_refl _)]; simp, by rw [mkE_new]; exact hb⟩
  have alin : AlIn (s.ents ++ [x]) (s.ee ++ [s.ents.length]) base (s.ee.length + 1) (s.al.filter fun p => !x.mask.testBit p.1) := by
    intro j r b hm
    simp only [List.mem_filter, Bool.not_eq_true'] at hm
    obtain ⟨h1, h2, h3⟩ := G.al j r b hm.1
    refine ⟨h1, by rw [alOf_append (alOf_lt h2)]; exact h2, fun hmm => ?_⟩
    rcases (mlast j).1 hmm with hmm | hmm
    · exact h3 hmm
    · rw [hmm] at hm; exact absurd hm.2 (by simp)
  refine ⟨msk_next rfl G.msk G.mlen, by simp [G.mlen], by simp [G.hlen], by rw [List.getElem?_append_left (by rw [G.hlen]; omega)]; exact G.hd, ?_, ?_, ?_, ?_, by simpa using alin, ?_, tm_next G hp⟩
  · simp only [List.length_append, List.length_singleton]
    rw [List.getElem?_append_right (by rw [G.hlen]; omega), G.hlen]; simp
  · intro j y hy
    rcases Nat.lt_trichotomy j s.ents.length with h | h | h
    · rw [List.getElem?_append_left h] at hy
      refine G.keep X hy (fun hyw hyk k hk hlt hkk c2 => ?_)
      have hkl := (List.getElem?_eq_some_iff.1 hkk).1
      simp only [List.length_append, List.length_singleton, G.hlen] at hkl
      have hke : k = s.ee.length + 1 := by omega
      subst hke
      rw [List.getElem?_append_right (by rw [G.hlen]; omega), G.hlen] at hkk
      simp at hkk; subst hkk
      have hnb := c2 s.ee.length s.ents.length (by omega) (by rw [List.getElem?_append_right (Nat.le_refl _)]; simp)
      rw [mkE_new] at hnb
      have hsr := readsOk_ok hrd j y hy (by simp [isReadE, hyw, hyk]) (by simpa using hnb)
      exact ⟨_, alin, sameRead_ok hsr ((G.ent j y hy).once hyw hyk)⟩
    · subst h
      rw [List.getElem?_append_right (Nat.le_refl _)] at hy
      simp at hy; subst hy; exact hx
    · rw [List.getElem?_eq_none (by rw [List.length_append]; simp; omega)] at hy; cases hy
  · intro m e he
    rcases Nat.lt_or_ge m s.ee.length with hlt | hge
    · rw [X.ee m hlt] at he
      obtain ⟨y, h1, h2⟩ := G.effs m e he
      exact ⟨y, by rw [List.getElem?_append_left (List.getElem?_eq_some_iff.1 h1).1]; exact h1, h2⟩
    · have hl := (List.getElem?_eq_some_iff.1 he).1
      simp only [List.length_append, List.length_singleton] at hl
      have : m = s.ee.length := by omega
      subst this
      rw [List.getElem?_append_right (Nat.le_refl _)] at he
      simp at he; subst he
      exact ⟨x, by simp, hw, hk⟩
  · intro m m' e e' hmm he he'
    have hl := (List.getElem?_eq_some_iff.1 he').1
    simp only [List.length_append, List.length_singleton] at hl
    rw [X.ee m (by omega)] at he
    rcases Nat.lt_or_ge m' s.ee.length with hlt | hge
    · rw [X.ee m' hlt] at he'
      exact G.inc m m' e e' hmm he he'
    · have : m' = s.ee.length := by omega
      subst this
      rw [List.getElem?_append_right (Nat.le_refl _)] at he'
      simp at he'; subst he'
      exact G.ee_lt he
  · intro j b hb hnm'
    simp only [List.length_append, List.length_singleton] at hnm'
    rcases Nat.lt_trichotomy j s.ents.length with h | h | h
    · rw [alOf_append h] at hb
      have hno : ¬ (Merged s.ents s.ee s.ee.length j ∨ x.mask.testBit j = true) := fun hh => hnm' ((mlast j).2 hh)
      have hm := G.alc j b hb (fun hh => hno (.inl hh))
      simp only [List.mem_filter, Bool.not_eq_true']
      exact ⟨hm, by cases hx : x.mask.testBit j <;> first | rfl | exact absurd (.inr hx) hno⟩
    · subst h
      unfold alOf at hb
      simp [hobj] at hb
    · have := alOf_lt hb; rw [List.length_append] at this; simp at this; omega
theorem regStep_good (G : Good P nest ops base n tm0 h0 s) {o : Oper} {s' : RS} (ho : ops[s.ents.length]? = some o) (hs : regStep P n base nest ops s.ents.length o s = .ok s') : Good P nest ops base n tm0 h0 s' ∧ s'.ents.length = s.ents.length + 1 := by
  unfold regStep at hs
  simp only [bind_ok] at hs
  obtain ⟨mask, hmask, hs⟩ := hs
  rw [ite_no] at hs
  obtain ⟨hord, hs⟩ := hs
  have hord : orderOk ops o mask s.ents 0 = true := by simpa using hord
  simp only [bind_ok] at hs
  obtain ⟨want, hwant, hs⟩ := hs
  obtain ⟨m1, m2⟩ := maskOf_ok hmask
  have clo : ∀ (x : Ent) m, mask.testBit m = true → ∃ e ∈ o.after.toList, Region.binds .any e = true ∧ e.on < s.ents.length ∧ (m = e.on ∨ (mkE (s.ents ++ [x]) e.on).testBit m = true) := by
    intro x m hm
    obtain ⟨e, he, hb, hlt, hor⟩ := m2 m hm
    exact ⟨e, he, hb, hlt, by rw [mkE_append hlt, ← G.msk]; exact hor⟩
  have ord : ∀ (x : Ent) j' y, j' < s.ents.length → (s.ents ++ [x])[j']? = some y → clash ops y.o o = true → mask.testBit j' = true := by
    intro x j' y hj hy hc
    rw [List.getElem?_append_left hj] at hy
    simpa using orderOk_ok hord j' y hy hc
  cases want with
  | false =>
    simp only [Bool.not_false, if_true, bind_ok] at hs
    obtain ⟨tm, htm, hs⟩ := hs
    rw [okk] at hs; subst hs
    refine ⟨Good.quiet G (x := { o, mask, tm := s.tm, want := false, v := undef, kind := .read, obj := none }) ⟨ho, m1, clo _, ord _, tm_same _ G, (putT_get htm).1, hwant, fun _ => ⟨rfl, rfl⟩, fun h => (by cases h), fun h => (by cases h), fun h => (by cases h), fun h => (by cases h), fun h => (by cases h)⟩ htm (fun p => by simp), by simp⟩
  | true =>
    simp only [Bool.not_true, Bool.false_eq_true, if_false] at hs
    rw [ite_no] at hs
    obtain ⟨hok, hs⟩ := hs
    have hok : okOps P o = true := by simpa using hok
    split at hs
    · simp only [bind_ok] at hs
      obtain ⟨v, hv, hs⟩ := hs
      rw [ite_no] at hs
      obtain ⟨hun, hs⟩ := hs
      rw [Bool.not_eq_true, Bool.not_eq_false'] at hun
      have hun : ∀ (a : Nat) (b : AH), (a, b) ∈ s.ee.zip s.hh → mask.testBit a = true ∨ sameRead P { o, mask, tm := s.tm, want := true, v, kind := .read, obj := none } s.al b = true := fun a b hm => by
        have := List.all_eq_true.1 hun (a, b) hm
        simpa [Bool.or_eq_true] using this
      simp only [bind_ok] at hs
      obtain ⟨tm, htm, hs⟩ := hs
      rw [okk] at hs; subst hs
      have X := G.ext_same { o, mask, tm := s.tm, want := true, v, kind := .read, obj := none }
      refine ⟨Good.quiet G (x := { o, mask, tm := s.tm, want := true, v, kind := .read, obj := none }) ⟨ho, m1, clo _, ord _, tm_same _ G, (putT_get htm).1, hwant, fun h => (by cases h), fun _ => hok, fun _ _ => ⟨rfl, fun k hk hkk c1 c2 => ?_⟩, fun _ h => (by cases h), fun _ h => (by cases h), fun _ _ => ⟨_, hv⟩⟩ htm (fun p => by simp), by simp⟩
      have hkl := (List.getElem?_eq_some_iff.1 hkk).1
      rw [G.hlen] at hkl
      have halk : AlIn (s.ents ++ [{ o, mask, tm := s.tm, want := true, v, kind := .read, obj := none }]) s.ee base k s.al := by
        have := G.alin X (Nat.le_refl _) G.al
        intro j r b hm
        obtain ⟨h1, h2, h3⟩ := this j r b hm
        exact ⟨h1, h2, fun ⟨m, e, hm, q⟩ => h3 ⟨m, e, by omega, q⟩⟩
      rcases Nat.lt_or_ge k s.ee.length with hlt | hge
      · have hz : (s.ee[k], hk) ∈ s.ee.zip s.hh := by
          have hk2 : k < s.hh.length := by rw [G.hlen]; omega
          have : s.hh[k] = hk := by rw [List.getElem?_eq_getElem hk2] at hkk; exact Option.some.inj hkk
          rw [← this]
          have hz := List.getElem_mem (l := s.ee.zip s.hh) (n := k) (by rw [List.length_zip, G.hlen]; omega)
          rwa [List.getElem_zip] at hz
        rcases hun _ _ hz with h1 | h1
        · exact absurd (c1 k s.ee[k] (List.getElem?_eq_getElem hlt) h1) (Nat.lt_irrefl _)
        · exact ⟨s.al, halk, sameRead_ok h1 ⟨_, hv⟩⟩
      · have : k = s.ee.length := by omega
        subst this
        rw [G.hl] at hkk; cases hkk
        exact ⟨s.al, halk, hv⟩
    · simp only [bind_ok] at hs
      obtain ⟨⟨v, b⟩, hv, tm, htm, hs⟩ := hs
      rw [okk] at hs; subst hs
      refine ⟨Good.quiet G (x := { o, mask, tm := s.tm, want := true, v, kind := .alloc, obj := some b }) ⟨ho, m1, clo _, ord _, tm_same _ G, (putT_get htm).1, hwant, fun h => (by cases h), fun _ => hok, fun _ h => (by cases h), fun _ _ => ⟨b, rfl, hv⟩, fun _ h => (by cases h), fun _ h => (by cases h)⟩ htm (fun p => ?_), by simp⟩
      simp only [List.mem_cons]
      constructor
      · rintro (rfl | h)
        · exact .inr ⟨b, rfl, rfl⟩
        · exact .inl h
      · rintro (h | ⟨b', hb', rfl⟩)
        · exact .inr h
        · cases hb'; exact .inl rfl
    · rw [ite_no] at hs
      obtain ⟨hch, hs⟩ := hs
      rw [Bool.not_eq_true, Bool.not_eq_false'] at hch
      have hch : ∀ x ∈ s.ee, mask.testBit x = true := fun x hm => List.all_eq_true.1 hch x hm
      simp only [bind_ok] at hs
      obtain ⟨⟨v, h'⟩, hv, hs⟩ := hs
      rw [ite_no] at hs
      obtain ⟨hrd, hs⟩ := hs
      have hrd : readsOk P mask (s.al.filter fun p => !mask.testBit p.1) h' s.ents 0 = true := by simpa using hrd
      simp only [bind_ok] at hs
      obtain ⟨tm, htm, hs⟩ := hs
      rw [okk] at hs; subst hs
      have X : Ext s { o, mask, tm := s.tm, want := true, v, kind := .effect, obj := none } (s.ee ++ [s.ents.length]) (s.hh ++ [h']) := ⟨fun m hm => List.getElem?_append_left hm, fun k hk => List.getElem?_append_left (by rw [G.hlen]; omega)⟩
      refine ⟨Good.loud G (x := { o, mask, tm := s.tm, want := true, v, kind := .effect, obj := none }) ⟨ho, m1, clo _, ord _, tm_same _ G, (putT_get htm).1, hwant, fun h => (by cases h), fun _ => hok, fun _ h => (by cases h), fun _ h => (by cases h), fun _ _ => ⟨rfl, s.ee.length, s.h, h', ?_, ?_, ?_, ?_, s.al, G.alin X (Nat.le_refl _) G.al, hv⟩, fun _ h => (by cases h)⟩ htm rfl rfl rfl hrd, by simp⟩
      · rw [List.getElem?_append_right (Nat.le_refl _)]; simp
      · rw [List.getElem?_append_left (by rw [G.hlen]; omega)]; exact G.hl
      · rw [List.getElem?_append_right (by rw [G.hlen]; omega), G.hlen]; simp
      · intro m e hm he
        rw [List.getElem?_append_left hm] at he
        exact hch e (List.mem_of_getElem? he)
theorem regLoop_good : ∀ {l : List Oper} {s s' : RS}, Good P nest ops base n tm0 h0 s → (∀ j o, l[j]? = some o → ops[s.ents.length + j]? = some o) → regLoop P n base nest ops l s.ents.length s = .ok s' → Good P nest ops base n tm0 h0 s' ∧ s'.ents.length = s.ents.length + l.length
  | [], s, s', G, _, hr => by simp only [regLoop, okk] at hr; subst hr; exact ⟨G, by simp⟩
  | o :: l, s, s', G, ho, hr => by
    simp only [regLoop, bind_ok] at hr
    obtain ⟨s1, h1, hr⟩ := hr
    obtain ⟨G1, hl1⟩ := regStep_good G (ho 0 o rfl) h1
    rw [← hl1] at hr
    obtain ⟨G2, hl2⟩ := regLoop_good G1 (fun j o' hj => by have := ho (j + 1) o' (by simpa using hj); rw [hl1]; rwa [show s.ents.length + (j + 1) = s.ents.length + 1 + j by omega] at this) hr
    exact ⟨G2, by rw [hl2, hl1, List.length_cons]; omega⟩
theorem Good.start (h0 : AH) : Good P nest ops base n tm0 h0 { tm := tm0, h := h0, hh := [h0], ee := [], al := [], masks := [], ents := [] } :=
  ⟨fun j => by simp [mkE], rfl, rfl, rfl, rfl, fun j x h => by simp at h, fun m e h => by simp at h, fun m m' e e' _ h => by simp at h, fun j r b h => by simp at h, fun j b h => by simp [alOf] at h, fun t => rfl⟩
end
end Go.Ev

