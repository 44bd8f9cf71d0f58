/- The machine's steps. -/
import Derived.Test.YtangiefkpllnmaaGreatDoorEvStep
namespace Go.Ev
set_option linter.unusedVariables false
set_option linter.unusedSimpArgs false
variable {η : Nat → Value}
structure SR (η : Nat → Value) (P : Program) (ρ : Env) (B : Nat) (s : AS) (fr : Frame) (cs : List Frame) (w : World) : Prop where
  fr : FrR η ρ s.fr fr
  cs : L2 (FrR η ρ) s.cs cs
  pre : Pre η P ρ B s.hp w
def run0 (fr : Frame) (cs : List Frame) : Goroutine := { frame := fr, callers := cs, status := .running, dying := none }
section
variable {P : Program} {ρ : Env} {B : Nat} {h : AH} {w : World}
section apply
variable {fr : Frame} {cs : List Frame} {s : Sem Next} {w' : World}
theorem apply_value {v : Value} (hr : s.run P w = .ok (.value v) w') : (stepG.apply P true fr cs none s w).bare = .go (run0 (fr.finish v) cs) w' := by
  simp [stepG.apply, hr, run0]
theorem apply_skip (hr : s.run P w = .ok .skip w') : (stepG.apply P true fr cs none s w).bare = .go (run0 (fr.finish undef) cs) w' := by
  simp [stepG.apply, hr, run0]
theorem apply_defer {d : Deferred} (hr : s.run P w = .ok (.defer d) w') : (stepG.apply P true fr cs none s w).bare = .go (run0 (({ fr with defers := d :: fr.defers } : Frame).finish undef) cs) w' := by
  simp [stepG.apply, hr, run0]
theorem apply_panic {v : Value} (hr : s.run P w = .halt (.panic v) w') : (stepG.apply P true fr cs none s w).bare = .go (run0 (fr.raise [{ v, recovered := false }]) cs) w' := by
  simp [stepG.apply, hr, run0]
def notCall (fr : Frame) : Prop := ∀ d b r s k, fr.todo ≠ .call d b r s :: k
theorem kind_normal {fr : Frame} (hk : notCall fr) : (match fr.todo with | .call _ true _ _ :: _ => CallKind.wrapped | _ => .normal) = .normal := by
  split
  · rename_i h; exact absurd h (hk _ _ _ _ _)
  · rfl
theorem apply_enter {f : FuncId} {args : Array Value} (hk : notCall fr) (hr : s.run P w = .ok (.enter f args) w') : (stepG.apply P true fr cs none s w).bare = .go (run0 (Frame.enter P f args .normal) (fr :: cs)) w' := by
  simp only [stepG.apply, Sem.runT_eq, hr, if_true]
  simp [run0]
  congr 1
  split
  · rename_i hh; exact absurd hh (hk _ _ _ _ _)
  · rfl
theorem apply_round {l : Nat} {f : FuncId} {tmps : Array Value} {asg body : Code} (hr : s.run P w = .ok (.round l f tmps asg body) w') : (stepG.apply P true fr cs none s w).bare = .go (run0 (Frame.round l f tmps asg body .normal) (fr :: cs)) w' := by
  simp [stepG.apply, hr, run0]
theorem apply_recover_none (ho : fr.roundOf = none) (ht : tryRecover fr cs = none) (hr : s.run P w = .ok .recover w') : (stepG.apply P true fr cs none s w).bare = .go (run0 (fr.finish .nilIface) cs) w' := by
  simp [stepG.apply, hr, ho, ht, run0]
theorem apply_recover_some {v : Value} {cs2 : List Frame} (ho : fr.roundOf = none) (ht : tryRecover fr cs = some (v, cs2)) (hr : s.run P w = .ok .recover w') : (stepG.apply P true fr cs none s w).bare = .go (run0 (fr.finish v) cs2) w' := by
  simp [stepG.apply, hr, ho, ht, run0]
end apply
theorem PeR.one {v x : Value} (h : VR η ρ v x) : L2 (PeR η ρ) [{ v, recovered := false }] [{ v := x, recovered := false }] := .cons ⟨h, rfl, rfl⟩ .nil
/-- recover. -/
theorem tryRec_ok {f : AF} {fr : Frame} {acs : List AF} {cs : List Frame} {r : Option (Value × List AF)} (hf : FrR η ρ f fr) (hc : L2 (FrR η ρ) acs cs) (hr : tryRecA f acs = .ok r) :
    (r = none ∧ ∀ cs0, tryRecover fr (cs ++ cs0) = none) ∨ (∃ v acs2 x cs2, r = some (v, acs2) ∧ (∀ cs0, tryRecover fr (cs ++ cs0) = some (x, cs2 ++ cs0)) ∧ VR η ρ v x ∧ L2 (FrR η ρ) acs2 cs2) := by
  unfold tryRecA at hr
  split at hr
  · rename_i c rest hk
    obtain ⟨c', rest', rfl, hcr, hrest⟩ := hc.inv_cons
    have hk' : fr.kind = .deferred := by rw [hf.kind, hk]
    have hm := hcr.mode
    split at hr
    · rename_i v older hmo
      rw [hmo] at hm
      rw [okk] at hr; subst hr
      generalize hm' : c'.mode = m' at hm
      cases hm with
      | panicking hl =>
        obtain ⟨e', older', rfl, he, ho⟩ := hl.inv_cons
        obtain ⟨v', rec', gx'⟩ := e'
        obtain ⟨hv, hrc, hgx⟩ := he
        simp only at hv hrc hgx
        subst hrc; subst hgx
        refine .inr ⟨v, _, v', { c' with mode := .panicking ({ v := v', recovered := true } :: older') } :: rest', rfl, ?_, hv, .cons ⟨hcr.fn, hcr.tm, hcr.todo, hcr.defers, .panicking (.cons ⟨hv, rfl, rfl⟩ ho), hcr.kind, hcr.round⟩ hrest⟩
        intro cs0; simp [tryRecover, hk', hm']
    · rename_i hno
      rw [okk] at hr; subst hr
      refine .inl ⟨rfl, fun cs0 => ?_⟩
      simp only [List.cons_append, tryRecover, hk']
      generalize hm' : c'.mode = m' at hm
      generalize hm2 : c.mode = m2 at hm
      cases hm with
      | run => rfl
      | returning => rfl
      | panicking hl =>
        cases hl with
        | nil => rfl
        | cons he ho =>
          rename_i e e' l l'
          obtain ⟨v, rec, gx⟩ := e
          obtain ⟨v', rec', gx'⟩ := e'
          obtain ⟨hv, hrc, hgx⟩ := he
          simp only at hv hrc hgx
          subst hrc; subst hgx
          cases rec with
          | true => rfl
          | false =>
            cases gx with
            | true => rfl
            | false => exact absurd hm2 (hno _ _)
  · rename_i hk
    have hk' : fr.kind = .normal := by rw [hf.kind, hk]
    rw [okk] at hr; subst hr
    exact .inl ⟨rfl, fun cs0 => by simp [tryRecover, hk']⟩
  · simp [no] at hr
theorem L2.map_mono {ρ' : Env} (hl : Env.le ρ ρ') {a : List AF} {b : List Frame} (h : L2 (FrR η ρ) a b) : L2 (FrR η ρ') a b := h.mono fun _ _ => FrR.mono hl
/-- What follows an operation. -/
theorem after_ok {f : AF} {fr : Frame} {acs : List AF} {cs : List Frame} {s : Sem Next} {a : AN} {h' : AH} {r : AR} (F : FrR η ρ f fr) (C : L2 (FrR η ρ) acs cs) (p : Pre η P ρ B h w) (hE : Eff η P ρ B h w s a h') (ha : afterA P f acs a h' = .ok r) (hk : notCall fr) :
    ∃ s', r = .next s' ∧ ∃ ρ' fr' cs' w', SR η P ρ' B s' fr' cs' w' ∧ Post η ρ B h w ρ' s'.hp w' ∧ ∀ cs0, (stepG.apply P true fr (cs ++ cs0) none s w).bare = .go (run0 fr' (cs' ++ cs0)) w' := by
  obtain ⟨ρ', w', hn, hp⟩ := hE
  have p' := p.post hp
  have F' := F.mono hp.le
  have C' := L2.map_mono hp.le C
  cases a with
  | value v =>
    obtain ⟨x, hr, hv⟩ := hn
    simp only [afterA, bind_ok] at ha
    obtain ⟨f2, hf2, ha⟩ := ha
    rw [okk] at ha; subst ha
    exact ⟨_, rfl, ρ', _, cs, w', ⟨finish_ok hf2 F' hv, C', p'⟩, hp, fun cs0 => apply_value hr⟩
  | skip =>
    have hr : s.run P w = .ok .skip w' := hn
    simp only [afterA, bind_ok] at ha
    obtain ⟨f2, hf2, ha⟩ := ha
    rw [okk] at ha; subst ha
    exact ⟨_, rfl, ρ', _, cs, w', ⟨finish_ok hf2 F' .undef', C', p'⟩, hp, fun cs0 => apply_skip hr⟩
  | enter g args =>
    obtain ⟨xs, hr, hl⟩ := hn
    simp only [afterA, bind_ok] at ha
    obtain ⟨f2, hf2, ha⟩ := ha
    rw [okk] at ha; subst ha
    exact ⟨_, rfl, ρ', _, fr :: cs, w', ⟨enter_ok hf2 hl, .cons F' C', p'⟩, hp, fun cs0 => apply_enter hk hr⟩
  | defer d =>
    obtain ⟨e, hr, hd⟩ := hn
    simp only [afterA] at ha
    rw [ite_no] at ha
    obtain ⟨hrd, ha⟩ := ha
    simp only [bind_ok] at ha
    obtain ⟨f2, hf2, ha⟩ := ha
    rw [okk] at ha; subst ha
    refine ⟨_, rfl, ρ', _, cs, w', ⟨finish_ok hf2 (fr := { fr with defers := e :: fr.defers }) ⟨F'.fn, F'.tm, F'.todo, .cons hd F'.defers, F'.mode, F'.kind, F'.round⟩ .undef', C', p'⟩, hp, fun cs0 => apply_defer hr⟩
  | recover =>
    have hr : s.run P w = .ok .recover w' := hn
    simp only [afterA] at ha
    rw [ite_no] at ha
    obtain ⟨hrd, ha⟩ := ha
    have hro : fr.roundOf = none := by
      have := F.round
      cases h1 : f.round with
      | some l => rw [h1] at hrd; simp at hrd
      | none => rw [h1] at this; cases h2 : fr.roundOf with
        | none => rfl
        | some b => rw [h2] at this; exact this.elim
    simp only [bind_ok] at ha
    obtain ⟨t, ht, ha⟩ := ha
    rcases tryRec_ok F' C' ht with ⟨rfl, hnone⟩ | ⟨v, acs2, x, cs2, rfl, hsome, hv, hc2⟩
    · simp only [bind_ok] at ha
      obtain ⟨f2, hf2, ha⟩ := ha
      rw [okk] at ha; subst ha
      exact ⟨_, rfl, ρ', _, cs, w', ⟨finish_ok hf2 F' .nilIface, C', p'⟩, hp, fun cs0 => apply_recover_none hro (hnone cs0) hr⟩
    · simp only [bind_ok] at ha
      obtain ⟨f2, hf2, ha⟩ := ha
      rw [okk] at ha; subst ha
      exact ⟨_, rfl, ρ', _, cs2, w', ⟨finish_ok hf2 F' hv, hc2, p'⟩, hp, fun cs0 => apply_recover_some hro (hsome cs0) hr⟩
  | round l fn tm n asg body =>
    obtain ⟨b, d, k, tmps, hr, hρ, ht⟩ := hn
    simp only [afterA, okk] at ha; subst ha
    exact ⟨_, rfl, ρ', _, fr :: cs, w', ⟨⟨rfl, ht, .cons (.code _) (.cons .beginRound (.cons (.code _) .nil)), .nil, .run, rfl, (show RoR ρ' (some l) (some b) from ⟨d, k, hρ⟩)⟩, .cons F' C', p'⟩, hp, fun cs0 => apply_round hr⟩
  | panic v =>
    obtain ⟨x, hr, hv⟩ := hn
    simp only [afterA, okk] at ha; subst ha
    exact ⟨_, rfl, ρ', _, cs, w', ⟨raise_ok F' (PeR.one hv), C', p'⟩, hp, fun cs0 => apply_panic hr⟩
theorem RoR.inv_none {f : AF} {fr : Frame} (F : FrR η ρ f fr) (h : f.round = none) : fr.roundOf = none := by
  have := F.round
  rw [h] at this
  cases h2 : fr.roundOf with
  | none => rfl
  | some b => rw [h2] at this; exact this.elim
theorem RoR.inv_some {f : AF} {fr : Frame} (F : FrR η ρ f fr) {l : Nat} (h : f.round = some l) : ∃ b d n, fr.roundOf = some b ∧ ρ l = some (b, d, n) := by
  have := F.round
  rw [h] at this
  cases h2 : fr.roundOf with
  | none => rw [h2] at this; exact this.elim
  | some b => rw [h2] at this; obtain ⟨d, n, e⟩ := this; exact ⟨b, d, n, rfl, e⟩
/-- What a return leads to. -/
theorem return_ok {f : AF} {fr : Frame} {acs : List AF} {cs : List Frame} {v x : Value} {r : AR} (F : FrR η ρ f fr) (C : L2 (FrR η ρ) acs cs) (p : Pre η P ρ B h w) (hv : VR η ρ v x) (hr : returnA f acs v h = .ok r) :
    (∃ s', r = .next s' ∧ s'.hp = h ∧ ∃ fr' cs', SR η P ρ B s' fr' cs' w ∧ ∀ cs0, (doReturn P true fr (cs ++ cs0) none x w) = .go (run0 fr' (cs' ++ cs0)) w) ∨
    (r = .done f.fn v h ∧ acs = [] ∧ f.kind = .normal ∧ f.round = none) := by
  unfold returnA at hr
  split at hr
  · rw [ite_no', okk] at hr
    obtain ⟨hk, rfl⟩ := hr
    have hk1 : f.kind = .normal := by
      cases h1 : f.kind <;> rw [h1] at hk <;> first | rfl | simp at hk
    have hk2 : f.round = none := by
      cases h1 : f.round <;> rw [h1] at hk <;> first | rfl | simp at hk
    exact .inr ⟨rfl, rfl, hk1, hk2⟩
  · rename_i c rest
    obtain ⟨c', rest', rfl, hc, hrest⟩ := C.inv_cons
    refine .inl ?_
    split at hr
    · rename_i hk
      have hk' : fr.kind = .normal := by rw [F.kind, hk]
      simp only [bind_ok] at hr
      obtain ⟨c2, hc2, hr⟩ := hr
      rw [okk] at hr; subst hr
      exact ⟨_, rfl, rfl, _, rest', ⟨finish_ok hc2 hc hv, hrest, p⟩, fun cs0 => by simp [doReturn, hk', run0]⟩
    · rename_i hk
      have hk' : fr.kind = .deferred := by rw [F.kind, hk]
      have hm := hc.mode
      split at hr
      · rename_i v0 gx older hmo
        rw [hmo] at hm
        rw [ite_no', okk] at hr
        obtain ⟨hold, rfl⟩ := hr
        generalize hm' : c'.mode = m' at hm
        cases hm with
        | panicking hl =>
          obtain ⟨e', older', rfl, he, ho⟩ := hl.inv_cons
          obtain ⟨v', rec', gx'⟩ := e'
          obtain ⟨hv', hrc, hgx⟩ := he
          simp only at hrc hgx
          subst hrc
          have : older' = [] := by
            have : older = [] := by simpa using hold
            subst this
            exact ho.inv_nil
          subst this
          refine ⟨_, rfl, rfl, { c' with mode := .returning }, rest', ⟨⟨hc.fn, hc.tm, hc.todo, hc.defers, .returning, hc.kind, hc.round⟩, hrest, p⟩, fun cs0 => ?_⟩
          simp [doReturn, hk', hm', run0]
      · rename_i hno
        rw [okk] at hr; subst hr
        refine ⟨_, rfl, rfl, c', rest', ⟨hc, hrest, p⟩, fun cs0 => ?_⟩
        generalize hm' : c'.mode = m' at hm
        generalize hm2 : c.mode = m2 at hm
        simp only [doReturn, List.cons_append, hk', hm', run0]
        cases hm with
        | run => rfl
        | returning => rfl
        | panicking hl =>
          cases hl with
          | nil => rfl
          | cons he ho =>
            rename_i e e' l l'
            obtain ⟨v, rec, gx⟩ := e
            obtain ⟨v', rec', gx'⟩ := e'
            obtain ⟨hv, hrc, hgx⟩ := he
            simp only at hv hrc hgx
            subst hrc; subst hgx
            cases rec with
            | false => rfl
            | true => exact absurd hm2 (hno _ _ _)
    · simp [no] at hr
theorem HR.loop (H : HR η ρ B h w) {r : Nat} {st : LoopState} {pend : Option Code} {fn : FuncId} {tm : T Value} {n : Nat} {ps : List Tmp} {asg body : Code} {ds : Nat} (hg : h.objs.get r = some (.loop st pend fn tm n ps asg body ds)) :
    ∃ b d k l, ρ r = some (b, d, k) ∧ w.heap[b]? = some (.loop l) ∧ l.state = st ∧ l.pending = pend ∧ l.fn = fn ∧ TR η ρ tm n l.tmps ∧ l.params.toList = ps ∧ l.assign = asg ∧ l.body = body ∧ ∃ d n, ρ ds = some (l.defers, d, n) := by
  obtain ⟨b, d, k, o, h1, h2, ⟨l, rfl, h3⟩, _⟩ := H.obj _ _ hg
  exact ⟨b, d, k, l, h1, h2, h3⟩
theorem Post.loop (p : Pre η P ρ B h w) {r b d k : Nat} {st st' : LoopState} {pend pend' : Option Code} {fn : FuncId} {tm : T Value} {n : Nat} {ps : List Tmp} {asg body : Code} {ds : Nat} {l : Loop} (hg : h.objs.get r = some (.loop st pend fn tm n ps asg body ds))
    (he : ρ r = some (b, d, k)) (hb : w.heap[b]? = some (.loop l)) : Post η ρ B h w ρ (putA h r (.loop st' pend' fn tm n ps asg body ds)) (wput w b (.loop { l with state := st', pending := pend' })) := by
  obtain ⟨b2, d2, k2, l2, h1, h2, h3, h4, h5, h6, h7, h8, h9, h10⟩ := p.hr.loop hg
  rw [he] at h1; cases h1
  rw [hb] at h2; cases h2
  exact Post.put p hg rfl he rfl ⟨_, rfl, rfl, rfl, h5, h6, h7, h8, h9, h10⟩
end
end Go.Ev
