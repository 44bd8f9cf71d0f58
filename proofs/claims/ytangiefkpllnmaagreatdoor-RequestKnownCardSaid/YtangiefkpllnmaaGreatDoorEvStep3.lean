/- One step of the evaluator is some of the machine's. -/
import Derived.Test.YtangiefkpllnmaaGreatDoorEvStep2
namespace Go.Ev
set_option linter.unusedVariables false
set_option linter.unusedSimpArgs false
variable {η : Nat → Value}
abbrev Nest := FuncId → List Value → AH → M (Value × AH)
def RegOk (η : Nat → Value) (P : Program) (B : Nat) (nest : Nest) : Prop :=
  ∀ (ops : Array Oper) (n : Nat) (tm tm' : T Value) (h h' : AH), regionA P n nest ops.toList tm h = .ok (tm', h') →
    ∀ (ρ : Env) (fr : Frame) (w : World) (k : List Item) (id : Nat) (cs : List Frame), TR η ρ tm n fr.tmps → Pre η P ρ B h w → fr.mode = .run → fr.todo = .code (.region id ops true) :: k →
      ∃ ρ' tmps' w', TR η ρ' tm' n tmps' ∧ Post η ρ B h w ρ' h' w' ∧ Steps P (lone fr cs w) (lone { fr with tmps := tmps', todo := k } cs w')
def NestOk (η : Nat → Value) (P : Program) (B : Nat) (nest : Nest) : Prop :=
  ∀ (f : FuncId) (args : List Value) (h h' : AH) (v : Value), nest f args h = .ok (v, h') → ∀ (ρ : Env) (args' : Array Value) (w : World) (cs : List Frame), LR η ρ args args'.toList → Pre η P ρ B h w →
    ∃ ρ' fr' w' x, Post η ρ B h w ρ' h' w' ∧ VR η ρ' v x ∧ fr'.fn = f ∧ fr'.leaving P w' (.returned x) ∧ Steps P (lone (Frame.enter P f args' .normal) cs w) (lone fr' cs w')
section
variable {P : Program} {ρ : Env} {B : Nat} {w : World}
theorem one_go {fr fr' : Frame} {cs cs' : List Frame} {w w' : World} (h : (stepG P true (run0 fr cs) w).bare = .go (run0 fr' cs') w') : Steps P (lone fr cs w) (lone fr' cs' w') := .one (step_lone_go h)
theorem bare_after (es : Array Event) (s : GStep) : (GStep.after es s).bare = s.bare := GStep.bare_after es s
def Stepped' (η : Nat → Value) (P : Program) (B : Nat) (ρ : Env) (s : AS) (fr : Frame) (cs : List Frame) (w : World) (cs0 : List Frame) (r : AR) : Prop :=
  (∃ s', r = .next s' ∧ ∃ ρ' fr' cs' w', SR η P ρ' B s' fr' cs' w' ∧ Post η ρ B s.hp w ρ' s'.hp w' ∧ Steps P (lone fr (cs ++ cs0) w) (lone fr' (cs' ++ cs0) w')) ∨
  (∃ v, r = .done s.fr.fn v s.hp ∧ s.cs = [] ∧ ∃ x, VR η ρ v x ∧ fr.leaving P w (.returned x))
theorem Stepped'.move {cs0 : List Frame} {s : AS} {fr fr' : Frame} {cs : List Frame} {f' : AF} {r : AR} (R : SR η P ρ B s fr cs w) (hr : r = .next { s with fr := f' }) (F : FrR η ρ f' fr') (hst : ∀ cs0, (stepG P true (run0 fr (cs ++ cs0)) w).bare = .go (run0 fr' (cs ++ cs0)) w) :
    Stepped' η P B ρ s fr cs w cs0 r := .inl ⟨_, hr, ρ, fr', cs, w, ⟨F, R.cs, R.pre⟩, .refl R.pre, one_go (hst cs0)⟩
theorem FrR.todo_of {f : AF} {fr : Frame} (F : FrR η ρ f fr) {k k' : List Item} (h : L2 (ItR ρ) k k') : FrR η ρ { f with todo := k } { fr with todo := k' } := ⟨F.fn, F.tm, h, F.defers, F.mode, F.kind, F.round⟩
theorem leave_ok {cs0 : List Frame} {s : AS} {fr : Frame} {cs : List Frame} {jump : Option Code} {r : AR} (R : SR η P ρ B s fr cs w)
    (hl : (match s.fr.round with
      | none => (match jump with
        | none | some .ret => .ok (.next { s with fr := { s.fr with mode := .returning } })
        | _ => no "leave")
      | some l => match s.hp.objs.get l with
        | some (.loop _ _ fn tm n ps asg body ds) => returnA s.fr s.cs (.bool jump.isNone) (putA s.hp l (.loop (if jump.isNone then .ready else .done) jump fn tm n ps asg body ds))
        | _ => no "no loop" : M AR) = .ok r)
    (hst : ∀ cs0, fr.roundOf = none → (jump = none ∨ jump = some .ret) → (stepG P true (run0 fr (cs ++ cs0)) w).bare = .go (run0 { fr with mode := .returning } (cs ++ cs0)) w)
    (hst2 : ∀ cs0 l v w', fr.roundOf = some l → (Instr.endRound l jump).run P w = .ok v w' → (stepG P true (run0 fr (cs ++ cs0)) w).bare = (doReturn P true fr (cs ++ cs0) none v w').bare) : Stepped' η P B ρ s fr cs w cs0 r := by
  split at hl
  · rename_i hro
    have h1 : jump = none ∨ jump = some .ret := by
      split at hl
      · exact .inl rfl
      · exact .inr rfl
      · simp [no] at hl
    have h2 : r = .next { s with fr := { s.fr with mode := .returning } } := by
      rcases h1 with rfl | rfl <;> (rw [okk] at hl; exact hl.symm)
    exact Stepped'.move (fr' := { fr with mode := .returning }) R h2 ⟨R.fr.fn, R.fr.tm, R.fr.todo, R.fr.defers, .returning, R.fr.kind, R.fr.round⟩ (fun cs0 => hst cs0 (RoR.inv_none R.fr hro) h1)
  · rename_i l hro
    obtain ⟨b, d, n0, hb, hρ⟩ := RoR.inv_some R.fr hro
    split at hl
    · rename_i st pend fn tm n ps asg body ds hg
      obtain ⟨b2, d2, k2, lp, h1, h2, h3⟩ := R.pre.hr.loop hg
      rw [hρ] at h1; cases h1
      have hpost := Post.loop (st' := if jump.isNone then .ready else .done) (pend' := jump) R.pre hg hρ h2
      have hrun : (Instr.endRound b jump).run P w = .ok (.bool jump.isNone) (wput w b (.loop { lp with state := if jump.isNone then .ready else .done, pending := jump })) := by
        simp only [Instr.endRound, Instr.getLoop, Sem.run_bind, run_getObj h2 (by simp), Result.andThen_ok, Sem.run_pure, run_setObj h2 (by simp)]
      rcases return_ok (R.fr) R.cs (R.pre.post hpost) (.bool jump.isNone) hl with ⟨s', rfl, hhp, fr', cs', hSR, hdo⟩ | ⟨_, _, _, hrn⟩
      · refine .inl ⟨s', rfl, ρ, fr', cs', _, hSR, by rw [hhp]; exact hpost, one_go ?_⟩
        rw [hst2 cs0 b _ _ hb hrun, hdo]; rfl
      · rw [hro] at hrn; cases hrn
    · simp [no] at hl
theorem stepG_region {fr : Frame} {cs : List Frame} {ops : Array Oper} {i : Nat} {rest : List Nat} {k : List Item} {o : Oper} (hm : fr.mode = .run) (ht : fr.todo = .inRegion ops (i :: rest) :: k) (ho : ops[i]? = some o) (hw : Region.wanted o (yielded ops fr.tmps) = true)
    (hd : fr.roundOf = none ∨ ∀ c, o.op ≠ .defer c) : stepG P true (run0 fr cs) w = stepG.apply P true fr cs none (execOp fr.eval o) w := by
  obtain ⟨fn, tmps, todo, defers, mode, kind, roundOf⟩ := fr
  simp only at hm ht hw hd
  subst hm; subst ht
  simp only [stepG, run0, stepG.exec, ho, Option.map_some, Option.getD_some, hw, if_true, stepG.oper, Frame.oper?]
  rcases hd with rfl | hd
  · rfl
  · cases roundOf with
    | none => rfl
    | some l =>
      cases hop : o.op <;> first | rfl | exact absurd hop (hd _)
theorem notDefer {f : AF} {fr : Frame} {acs : List AF} {o : Oper} {h : AH} {a : AN} {h' : AH} {r : AR} {tm : T Value} (F : FrR η ρ f fr) (he : execA P (evA tm) o h = .ok (a, h')) (ha : afterA P f acs a h' = .ok r) : fr.roundOf = none ∨ ∀ c, o.op ≠ .defer c := by
  cases hr : f.round with
  | none => exact .inl (RoR.inv_none F hr)
  | some l =>
    refine .inr fun c hc => ?_
    obtain ⟨dst, op, type, pos, after, guard⟩ := o
    simp only at hc; subst hc
    unfold execA at he
    rw [ite_no] at he
    obtain ⟨_, he⟩ := he
    simp only [kindOf, effA, bind_ok] at he
    obtain ⟨⟨t, args⟩, _, he⟩ := he
    rw [okk] at he; injection he with e1 e2; subst e1
    simp only [afterA] at ha
    rw [ite_no] at ha
    rw [hr] at ha
    exact ha.1 rfl
theorem unwindA_ok (hη : OneCells η) {cs0 : List Frame} {s : AS} {fr : Frame} {cs : List Frame} {r : AR} (R : SR η P ρ B s fr cs w) (hs : unwindA P s = .ok r) (hm : s.fr.mode ≠ .run) : Stepped' η P B ρ s fr cs w cs0 r := by
  obtain ⟨f, acs, hp⟩ := s
  have F := R.fr
  simp only at F hm
  obtain ⟨fn, tmps, todo, defers, mode, kind, roundOf⟩ := fr
  have hmode := F.mode
  have hdef := F.defers
  simp only at hmode hdef
  have hnr : mode ≠ .run := by
    intro e; subst e
    generalize f.mode = m at *
    cases hmode; exact hm rfl
  have hstep : ∀ cs0, stepG P true (run0 { fn, tmps, todo, defers, mode, kind, roundOf } cs0) w = unwind P true { fn, tmps, todo, defers, mode, kind, roundOf } cs0 none w := by
    intro cs0
    cases mode with
    | run => exact absurd rfl hnr
    | returning => rfl
    | panicking c => rfl
  have hcatch : (Frame.catches P { fn, tmps, todo, defers, mode, kind, roundOf }) = false := by
    unfold Frame.catches
    have ht := F.todo
    simp only at ht
    split
    · rename_i h1 h2
      simp only at h2
      subst h2
      generalize f.todo = ft at ht
      cases ht with
      | cons hh _ => cases hh
    · rfl
  unfold unwindA at hs
  dsimp only at hs
  split at hs
  · -- the deferred calls of a loop
    rename_i b args ds he
    rw [he] at hdef
    obtain ⟨d', ds', rfl, hd, hds⟩ := hdef.inv_cons
    obtain ⟨t', a'⟩ := d'
    obtain ⟨ht, ha⟩ := hd
    simp only at ht
    cases t' with
    | collected b' =>
      obtain ⟨d0, n0, hρ⟩ := ht
      split at hs
      · rename_i calls hg
        obtain ⟨b2, d2, n2, o, h1, h2, ⟨ds2, rfl, h3⟩, _⟩ := R.pre.hr.obj _ _ hg
        rw [hρ] at h1; cases h1
        cases ds2 with
        | none => exact h3.elim
        | some calls' =>
          rw [okk] at hs; subst hs
          have hpost : Post η ρ B hp w ρ (putA hp b (.deferred none)) (wput w b' (.deferred none)) := Post.put R.pre hg rfl hρ rfl ⟨none, rfl, trivial⟩
          have hrun : (Instr.takeDeferred b').run P w = .ok calls' (wput w b' (.deferred none)) := by
            simp only [Instr.takeDeferred, Sem.run_bind, run_getObj h2 (by simp), Result.andThen_ok, Sem.run_pure, run_setObj h2 (by simp)]
          refine .inl ⟨_, rfl, ρ, { fn, tmps, todo, defers := calls' ++ ds', mode, kind, roundOf }, cs, _, ⟨⟨F.fn, F.tm, F.todo, h3.append hds, F.mode, F.kind, F.round⟩, R.cs, R.pre.post hpost⟩, hpost, one_go ?_⟩
          rw [hstep]
          simp [unwind, hrun, bare_after, run0]
      · simp [no] at hs
    | _ => exact ht.elim
  · rename_i d ds hnc he
    rw [he] at hdef
    obtain ⟨d', ds', rfl, hd, hds⟩ := hdef.inv_cons
    simp only [bind_ok] at hs
    obtain ⟨⟨a, h'⟩, hi, hs⟩ := hs
    obtain ⟨ρ', w', hn, hpost⟩ := invokeA_ok hη R.pre hi hd.1 hd.2
    have hunw : ∀ cs0, unwind P true { fn, tmps, todo, defers := d' :: ds', mode, kind, roundOf } cs0 none w = callDeferred P { fn, tmps, todo, defers := ds', mode, kind, roundOf } cs0 none d' w := by
      intro cs0
      obtain ⟨t', a'⟩ := d'
      cases t' with
      | collected b' =>
        exfalso
        obtain ⟨t, a0⟩ := d
        have ht := hd.1
        simp only at ht
        cases t <;> first | exact ht.elim | exact hnc _ _ rfl
      | _ => rfl
    have hnn : d'.target ≠ .nil := by
      intro hd1
      have ht := hd.1
      rw [hd1] at ht
      obtain ⟨t, a0⟩ := d
      simp only at ht hi
      cases t <;> first | exact ht.elim | (simp [invokeA, no] at hi; done)
    have F' : FrR η ρ' { f with defers := ds } { fn, tmps, todo, defers := ds', mode, kind, roundOf } := by
      have := F.mono hpost.le
      exact ⟨this.fn, this.tm, this.todo, hds.mono fun _ _ => DR.mono hpost.le, this.mode, this.kind, this.round⟩
    split at hs
    · rename_i g args h2 heq
      injection heq with e1 e2
      subst e1; subst e2
      obtain ⟨xs, hr, hl⟩ := hn
      simp only [bind_ok] at hs
      obtain ⟨f2, hf2, hs⟩ := hs
      rw [okk] at hs; subst hs
      refine .inl ⟨_, rfl, ρ', Frame.enter P g xs .deferred, { fn, tmps, todo, defers := ds', mode, kind, roundOf } :: cs, w', ⟨enter_ok hf2 hl, .cons F' (L2.map_mono hpost.le R.cs), R.pre.post hpost⟩, hpost, one_go ?_⟩
      rw [hstep, hunw]
      unfold callDeferred
      split
      · rename_i hh
        exfalso; apply hnn
        cases hd1 : d'.target <;> simp_all
      · simp [hr, bare_after, run0]
    · rename_i v h2 heq
      injection heq with e1 e2
      subst e1; subst e2
      obtain ⟨x, hr, hl⟩ := hn
      rw [okk] at hs; subst hs
      refine .inl ⟨_, rfl, ρ', { fn, tmps, todo, defers := ds', mode, kind, roundOf }, cs, w', ⟨F', L2.map_mono hpost.le R.cs, R.pre.post hpost⟩, hpost, one_go ?_⟩
      rw [hstep, hunw]
      unfold callDeferred
      split
      · rename_i hh
        exfalso; apply hnn
        cases hd1 : d'.target <;> simp_all
      · simp [hr, bare_after, run0]
    · simp [no] at hs
  · rename_i he
    rw [he] at hdef
    have := hdef.inv_nil; subst this
    split at hs
    · rename_i chain hfm
      rw [hfm] at hmode
      cases hmode with
      | panicking hch =>
        rename_i chain'
        split at hs
        · rename_i c rest
          have hC := R.cs
          simp only at hC
          obtain ⟨c', rest', rfl, hc, hrest⟩ := hC.inv_cons
          rw [okk] at hs; subst hs
          refine .inl ⟨_, rfl, ρ, c'.raise chain', rest', w, ⟨raise_ok hc hch, hrest, R.pre⟩, .refl R.pre, one_go ?_⟩
          rw [hstep]
          simp [unwind, hcatch, run0]
        · simp [no] at hs
    · rename_i hnp
      rw [ite_no] at hs
      obtain ⟨hro, hs⟩ := hs
      have hret : f.mode = .returning := by
        generalize f.mode = m at *
        cases m with
        | run => exact absurd rfl hm
        | returning => rfl
        | panicking c => exact absurd rfl (hnp c)
      rw [hret] at hmode
      cases hmode
      split at hs
      · simp [no] at hs
      · rename_i fn' hfn
        simp only [bind_ok] at hs
        obtain ⟨v, hv, hs⟩ := hs
        obtain ⟨x, hx, hxv⟩ := results_ok R.pre.hr F.tm hv
        have hffn : fn = f.fn := F.fn
        have hfn' : P.funcs[fn]? = some fn' := by rw [hffn]; exact hfn
        rcases return_ok F R.cs R.pre hxv hs with ⟨s', rfl, hhp, fr', cs', hSR, hdo⟩ | ⟨rfl, h1, h2, h3⟩
        · refine .inl ⟨s', rfl, ρ, fr', cs', w, hSR, by rw [hhp]; exact .refl R.pre, one_go ?_⟩
          rw [hstep]
          simp only [unwind, hfn', Sem.runT_eq, hx, bare_after]
          rw [hdo]; rfl
        · refine .inr ⟨v, rfl, h1, x, hxv, rfl, rfl, ?_, fn', hfn', hx⟩
          have hk : kind = f.kind := F.kind
          simp only
          rw [hk, h2]
theorem enterLoopA_ok {f : AF} {fr : Frame} {h h' : AH} {d : Nat} {mark : List Deferred} {params : Array Tmp} {asg body : Code} (F : FrR η ρ f fr) (p : Pre η P ρ B h w) (he : enterLoopA f h = .ok (d, mark, h')) :
    ∃ ρ' b dd n mark' w', Post η ρ B h w ρ' h' w' ∧ ρ' d = some (b, dd, n) ∧ L2 (DR η ρ') mark mark' ∧
      (Instr.enterLoop fr.fn fr.tmps params asg body fr.roundOf).run P w = .ok (w'.heap.size, mark') (wpush w' (.loop { state := .ready, pending := none, fn := fr.fn, tmps := fr.tmps, params, assign := asg, body, defers := b })) := by
  unfold enterLoopA at he
  split at he
  · rename_i l hro
    obtain ⟨b, d0, n0, hb, hρ⟩ := RoR.inv_some F hro
    split at he
    · rename_i st pend fn2 tm n ps asg2 body2 ds hg
      obtain ⟨b2, d2, k2, lp, h1, h2, h3, h4, h5, h6, h7, h8, h9, dd, nn, h10⟩ := p.hr.loop hg
      rw [hρ] at h1; cases h1
      rw [okk] at he; injection he with e1 e2; injection e2 with e2 e3; subst e1; subst e2; subst e3
      refine ⟨ρ, lp.defers, dd, nn, [], w, .refl p, h10, .nil, ?_⟩
      rw [hb]
      simp only [Instr.enterLoop, Instr.getLoop, Sem.run_bind, run_getObj h2 (by simp), Result.andThen_ok, Sem.run_pure, run_newObj]
      rfl
    · simp [no] at he
  · rename_i hro
    rw [okk] at he; injection he with e1 e2; injection e2 with e2 e3; subst e1; subst e2; subst e3
    have hpost : Post η ρ B h w (ρ.put h.next (w.heap.size, 0, 0)) (newA h (.deferred (some []))).2 (wpush w (.deferred (some []))) :=
      Post.new (w' := wpush w (.deferred (some []))) (ob := .deferred (some [])) p ⟨rfl, rfl, rfl, rfl⟩ h.objs (fun _ _ hx => hx) ⟨some [], rfl, .nil⟩
    refine ⟨_, w.heap.size, 0, 0, [{ target := .collected w.heap.size, args := #[] }], _, hpost, Env.put_at _ _ _, .cons ⟨⟨0, 0, Env.put_at _ _ _⟩, .nil⟩ .nil, ?_⟩
    rw [RoR.inv_none F hro]
    simp only [Instr.enterLoop, Sem.run_bind, run_newObj, Result.andThen_ok, Sem.run_pure]
    rfl
theorem stepA_ok (hη : OneCells η) {nest : Nest} (hreg : RegOk η P B nest) {cs0 : List Frame} {s : AS} {fr : Frame} {cs : List Frame} {r : AR} (R : SR η P ρ B s fr cs w) (hs : stepA P nest s = .ok r) : Stepped' η P B ρ s fr cs w cs0 r := by
  obtain ⟨f, acs, hp⟩ := s
  have F := R.fr
  simp only at F
  obtain ⟨fn, tmps, todo, defers, mode, kind, roundOf⟩ := fr
  have hmode := F.mode
  have htodo := F.todo
  have hdef := F.defers
  simp only at hmode htodo hdef
  unfold stepA at hs
  dsimp only at hs
  split at hs
  · -- running
    rename_i hfm
    rw [hfm] at hmode
    cases hmode
    split at hs
    · -- nothing left
      rename_i he
      rw [he] at htodo
      have := htodo.inv_nil; subst this
      refine leave_ok (jump := none) R hs (fun cs0 hro _ => ?_) (fun cs0 l v w' hro hrun => ?_)
      · simp only at hro; subst hro
        simp [stepG, run0, stepG.exec]
      · simp only at hro; subst hro
        simp [stepG, run0, stepG.exec, hrun, bare_after]
    · rename_i k he
      rw [he] at htodo
      obtain ⟨y, k', rfl, hy, hk⟩ := htodo.inv_cons
      cases hy
      refine leave_ok (jump := some .ret) R hs (fun cs0 hro _ => ?_) (fun cs0 l v w' hro hrun => ?_)
      · simp only at hro; subst hro
        simp [stepG, run0, stepG.exec]
      · simp only at hro; subst hro
        simp [stepG, run0, stepG.exec, hrun, bare_after]
    · rename_i k he
      rw [he] at htodo
      obtain ⟨y, k', rfl, hy, hk⟩ := htodo.inv_cons
      cases hy
      rw [okk] at hs
      exact Stepped'.move R hs.symm (F.todo_of hk) (fun cs0 => by simp [stepG, run0, stepG.exec])
    · rename_i l k he
      rw [he] at htodo
      obtain ⟨y, k', rfl, hy, hk⟩ := htodo.inv_cons
      cases hy
      rw [okk] at hs
      exact Stepped'.move R hs.symm (F.todo_of hk) (fun cs0 => by simp [stepG, run0, stepG.exec])
    · rename_i l k he
      rw [he] at htodo
      obtain ⟨y, k', rfl, hy, hk⟩ := htodo.inv_cons
      cases hy
      rw [okk] at hs
      exact Stepped'.move R hs.symm (F.todo_of hk) (fun cs0 => by simp [stepG, run0, stepG.exec])
    · rename_i l k he
      rw [he] at htodo
      obtain ⟨y, k', rfl, hy, hk⟩ := htodo.inv_cons
      cases hy
      rw [okk] at hs
      exact Stepped'.move R hs.symm (F.todo_of hk) (fun cs0 => by simp [stepG, run0, stepG.exec])
    · rename_i a b k he
      rw [he] at htodo
      obtain ⟨y, k', rfl, hy, hk⟩ := htodo.inv_cons
      cases hy
      rw [okk] at hs
      exact Stepped'.move R hs.symm (F.todo_of (.cons (.code a) (.cons (.code b) hk))) (fun cs0 => by simp [stepG, run0, stepG.exec])
    · rename_i c thn els k he
      rw [he] at htodo
      obtain ⟨y, k', rfl, hy, hk⟩ := htodo.inv_cons
      cases hy
      split at hs
      · rename_i b hb
        rw [okk] at hs
        have hev : (Frame.eval { fn, tmps, todo := .code (.cond c thn els) :: k', defers, mode := .run, kind, roundOf } c) = .bool b := by
          have hok : okO P c = true := by
            cases c with
            | tmp t => rfl
            | const v => simp only [evA] at hb; subst hb; rfl
            | global g => cases hb
            | func g => cases hb
          have := evA_ok (P := P) R.pre.glob (fr := { fn, tmps, todo := .code (.cond c thn els) :: k', defers, mode := .run, kind, roundOf }) F.tm hok
          rw [hb] at this
          exact this.bool_inv
        refine Stepped'.move R hs.symm (F.todo_of (.cons (.code _) hk)) (fun cs0 => ?_)
        simp [stepG, run0, stepG.exec, hev]
      · simp [no] at hs
    · rename_i id body k he
      rw [he] at htodo
      obtain ⟨y, k', rfl, hy, hk⟩ := htodo.inv_cons
      cases hy
      rw [okk] at hs
      exact Stepped'.move R hs.symm (F.todo_of (.cons (.code body) (.cons (.inBlock id) hk))) (fun cs0 => by simp [stepG, run0, stepG.exec])
    · rename_i body k he
      rw [he] at htodo
      obtain ⟨y, k', rfl, hy, hk⟩ := htodo.inv_cons
      cases hy
      rw [okk] at hs
      exact Stepped'.move R hs.symm (F.todo_of (.cons (.code body) (.cons (.inLoop body) hk))) (fun cs0 => by simp [stepG, run0, stepG.exec])
    · rename_i body k he
      rw [he] at htodo
      obtain ⟨y, k', rfl, hy, hk⟩ := htodo.inv_cons
      cases hy
      rw [okk] at hs
      exact Stepped'.move R hs.symm (F.todo_of (.cons (.code body) (.cons (.inLoop body) hk))) (fun cs0 => by simp [stepG, run0, stepG.exec])
    · rename_i body k he
      rw [he] at htodo
      obtain ⟨y, k', rfl, hy, hk⟩ := htodo.inv_cons
      cases hy
      rw [okk] at hs
      exact Stepped'.move R hs.symm (F.todo_of (.cons (.code body) (.cons (.inScope body) hk))) (fun cs0 => by simp [stepG, run0, stepG.exec])
    · -- exit
      rename_i id k he
      rw [he] at htodo
      obtain ⟨y, k', rfl, hy, hk⟩ := htodo.inv_cons
      cases hy
      obtain ⟨e1, e2⟩ := exitTo_ok (id := id) hk
      split at hs
      · rename_i r' hr'
        obtain ⟨r2, h2, hk2⟩ := e1 r' hr'
        rw [okk] at hs
        exact Stepped'.move R hs.symm (F.todo_of hk2) (fun cs0 => by simp [stepG, run0, stepG.exec, h2])
      · rename_i hr'
        have h2 := e2 hr'
        refine leave_ok (jump := some (.exit id)) R hs (fun cs0 hro hj => ?_) (fun cs0 l v w' hro hrun => ?_)
        · rcases hj with hj | hj <;> cases hj
        · simp only at hro; subst hro
          simp [stepG, run0, stepG.exec, h2, hrun, bare_after]
    · rename_i id k he
      rw [he] at htodo
      obtain ⟨y, k', rfl, hy, hk⟩ := htodo.inv_cons
      cases hy
      obtain ⟨e1, e2⟩ := gotoIn_ok (id := id) hk
      split at hs
      · rename_i r' hr'
        obtain ⟨r2, h2, hk2⟩ := e1 r' hr'
        rw [okk] at hs
        exact Stepped'.move R hs.symm (F.todo_of hk2) (fun cs0 => by simp [stepG, run0, stepG.exec, h2])
      · rename_i hr'
        have h2 := e2 hr'
        refine leave_ok (jump := some (.goto id)) R hs (fun cs0 hro hj => ?_) (fun cs0 l v w' hro hrun => ?_)
        · rcases hj with hj | hj <;> cases hj
        · simp only at hro; subst hro
          simp [stepG, run0, stepG.exec, h2, hrun, bare_after]
    · -- range over a function
      rename_i fo params assign body k he
      rw [he] at htodo
      obtain ⟨y, k', rfl, hy, hk⟩ := htodo.inv_cons
      cases hy
      simp only [bind_ok] at hs
      obtain ⟨⟨d, mark, h1⟩, hel, hs⟩ := hs
      simp only [newA] at hs
      rw [ite_no] at hs
      obtain ⟨hok, hs⟩ := hs
      have hok : okO P fo = true := by simpa using hok
      obtain ⟨ρ1, b, dd, n0, mark', w1, hp1, hd1, hmk, hrun⟩ := enterLoopA_ok (P := P) (params := params) (asg := assign) (body := body) F R.pre hel
      simp only at hrun
      have p1 := R.pre.post hp1
      have F1 := F.mono hp1.le
      have hle := Env.le_put (t := (w1.heap.size, 0, 0)) (p1.fresh h1.next (Nat.le_refl _))
      have hp2 : Post η ρ1 B h1 w1 (ρ1.put h1.next (w1.heap.size, 0, 0)) (newA h1 (.loop .ready none f.fn f.tm f.n params.toList assign body d)).2
          (wpush w1 (.loop { state := .ready, pending := none, fn, tmps, params, assign, body, defers := b })) :=
        Post.new (w' := wpush w1 _) (ob := .loop { state := .ready, pending := none, fn, tmps, params, assign, body, defers := b }) p1 ⟨rfl, rfl, rfl, rfl⟩ h1.objs (fun _ _ hx => hx)
          ⟨_, rfl, rfl, rfl, F1.fn, F1.tm.mono hle, rfl, rfl, rfl, dd, n0, hle _ _ hd1⟩
      have p2 := p1.post hp2
      have F2 := F1.mono hle
      have hpp := hp1.trans hp2
      split at hs
      · rename_i gfn first captured hev
        simp only [bind_ok] at hs
        obtain ⟨⟨a, h3⟩, hi, ha⟩ := hs
        have hv := evA_ok (P := P) (fr := { fn, tmps, todo := .inRangeFunc w1.heap.size :: k', defers := mark' ++ defers, mode := .run, kind, roundOf }) p2.glob F2.tm hok
        rw [hev] at hv
        obtain ⟨g, c, dcap, hg, hfr, hfi, hca⟩ := hv.func_inv
        have hyv : VR η (ρ1.put h1.next (w1.heap.size, 0, 0)) (.func (.yield h1.next) #[] #[]) (.func (.yield w1.heap.size) #[] #[]) := .func_mk (.yield (Env.put_at _ _ _)) .nil .nil
        obtain ⟨ρ', w', hn, hp3⟩ := invokeA_ok (t' := .fn g dcap) (args' := c ++ #[.func (.yield w1.heap.size) #[] #[]]) hη p2 hi ⟨hfr, hca⟩ (by rw [Array.toList_append]; exact hfi.append (.cons hyv .nil))
        have hE : Eff η P (ρ1.put h1.next (w1.heap.size, 0, 0)) B (newA h1 (.loop .ready none f.fn f.tm f.n params.toList assign body d)).2 (wpush w1 (.loop { state := .ready, pending := none, fn, tmps, params, assign, body, defers := b }))
            (do let d ← resolve (Frame.eval { fn, tmps, todo := .inRangeFunc w1.heap.size :: k', defers := mark' ++ defers, mode := .run, kind, roundOf }) { callee := .value fo, args := #[.const (.func (.yield w1.heap.size) #[] #[])], argTypes := #[] } 0; invoke d.target d.args) a h3 := by
          refine ⟨ρ', w', ?_, hp3⟩
          have hres : ∀ w, (resolve (Frame.eval { fn, tmps, todo := .inRangeFunc w1.heap.size :: k', defers := mark' ++ defers, mode := .run, kind, roundOf }) { callee := .value fo, args := #[.const (.func (.yield w1.heap.size) #[] #[])], argTypes := #[] } 0).run P w = .ok { target := .fn g dcap, args := c ++ #[.func (.yield w1.heap.size) #[] #[]] } w := by
            intro w
            simp only [resolve, hg, Deferred.ofValue, Sem.run_pure, List.map_toArray, List.map_cons, List.map_nil]
            rfl
          simp only [Sem.run_bind, hres, Result.andThen_ok]
          exact hn
        have Fn : FrR η (ρ1.put h1.next (w1.heap.size, 0, 0)) { f with todo := .inRangeFunc h1.next :: k, defers := mark ++ f.defers } { fn, tmps, todo := .inRangeFunc w1.heap.size :: k', defers := mark' ++ defers, mode := .run, kind, roundOf } :=
          ⟨F2.fn, F2.tm, .cons (.inRangeFunc (Env.put_at _ _ _)) (hk.mono fun _ _ => ItR.mono (Env.le_trans hp1.le hle)), (hmk.mono fun _ _ => DR.mono hle).append F2.defers, F2.mode, F2.kind, F2.round⟩
        obtain ⟨s', rfl, ρ4, fr4, cs4, w4, k1, k2, k3⟩ := after_ok Fn (L2.map_mono (Env.le_trans hp1.le hle) R.cs) p2 hE ha (fun d b r s k hh => by cases hh)
        refine .inl ⟨s', rfl, ρ4, fr4, cs4, w4, k1, hpp.trans k2, one_go ?_⟩
        have := k3 cs0
        rw [← this]
        simp only [stepG, run0, stepG.exec, Sem.runT_eq, hrun, bare_after]
      · simp [no] at hs
    · -- the round begins
      rename_i k he
      rw [he] at htodo
      obtain ⟨y, k', rfl, hy, hk⟩ := htodo.inv_cons
      cases hy
      split at hs
      · simp [no] at hs
      · rename_i l hro
        obtain ⟨b, d, n0, hb, hρ⟩ := RoR.inv_some F hro
        simp only at hb; subst hb
        split at hs
        · rename_i pend fn2 tm n ps asg body ds hg
          obtain ⟨b2, d2, k2, lp, h1, h2, h3, h4, h5⟩ := R.pre.hr.loop hg
          rw [hρ] at h1; cases h1
          have hpost := Post.loop (st' := .busy) (pend' := pend) R.pre hg hρ h2
          have hrun : ((do (some b).elim (stuck "beginRound: no round") Instr.beginRound; pure .skip : Sem Next)).run P w = .ok .skip (wput w b (.loop { lp with state := .busy, pending := pend })) := by
            simp only [Option.elim_some, Instr.beginRound, Instr.getLoop, Sem.run_bind, run_getObj h2 (by simp), Result.andThen_ok, Sem.run_pure, run_setObj h2 (by simp), h3, h4]
          rw [okk] at hs; subst hs
          refine .inl ⟨_, rfl, ρ, { fn, tmps, todo := k', defers, mode := .run, kind, roundOf := some b }, cs, _, ⟨F.todo_of hk, R.cs, R.pre.post hpost⟩, hpost, one_go ?_⟩
          have := apply_skip (P := P) (fr := { fn, tmps, todo := .beginRound :: k', defers, mode := .run, kind, roundOf := some b }) (cs := cs ++ cs0) hrun
          simp only [stepG, run0, stepG.exec]
          exact this
        · simp [no] at hs
    · -- the loop ends
      rename_i l k he
      rw [he] at htodo
      obtain ⟨y, k', rfl, hy, hk⟩ := htodo.inv_cons
      cases hy with
      | endRangeFunc hρ =>
        rename_i b d n0
        split at hs
        · rename_i st pend fn2 tm n ps asg body ds hg
          obtain ⟨b2, d2, k2, lp, h1, h2, h3, h4, h5⟩ := R.pre.hr.loop hg
          rw [hρ] at h1; cases h1
          rw [ite_no, okk] at hs
          obtain ⟨hst, hs⟩ := hs
          subst hs
          have hpost := Post.loop (st' := .exhausted) (pend' := pend) R.pre hg hρ h2
          have hrun : (Instr.endLoop b).run P w = .ok pend (wput w b (.loop { lp with state := .exhausted, pending := pend })) := by
            have hb : (lp.state == .busy) = false := by rw [h3]; cases st <;> first | rfl | exact absurd rfl hst
            simp only [Instr.endLoop, Instr.getLoop, Sem.run_bind, run_getObj h2 (by simp), Result.andThen_ok, Sem.run_pure, hb, Bool.false_eq_true, if_false, run_setObj h2 (by simp), h4]
          have hitems : L2 (ItR ρ) ((pend.map Item.code).toList ++ k) ((pend.map Item.code).toList ++ k') := by
            refine L2.append ?_ hk
            cases pend with
            | none => exact .nil
            | some c => exact .cons (.code c) .nil
          refine .inl ⟨_, rfl, ρ, { fn, tmps, todo := (pend.map Item.code).toList ++ k', defers, mode := .run, kind, roundOf }, cs, _, ⟨F.todo_of hitems, R.cs, R.pre.post hpost⟩, hpost, one_go ?_⟩
          simp [stepG, run0, stepG.exec, hrun, bare_after]
        · simp [no] at hs
    · -- a region
      rename_i id ops draw k he
      rw [he] at htodo
      obtain ⟨y, k', rfl, hy, hk⟩ := htodo.inv_cons
      cases hy
      cases draw with
      | false =>
        simp only [Bool.not_false, if_true, okk] at hs
        exact Stepped'.move R hs.symm (F.todo_of (.cons (.inRegion ops (List.range ops.size)) hk)) (fun cs0 => by simp [stepG, run0, stepG.exec])
      | true =>
        simp only [Bool.not_true, Bool.false_eq_true, if_false, bind_ok] at hs
        obtain ⟨⟨tm, h'⟩, hr, hs⟩ := hs
        rw [okk] at hs; subst hs
        obtain ⟨ρ', tmps', w', k1, k2, k3⟩ := hreg ops f.n f.tm tm hp h' hr ρ { fn, tmps, todo := .code (.region id ops true) :: k', defers, mode := .run, kind, roundOf } w k' id (cs ++ cs0) F.tm R.pre rfl rfl
        refine .inl ⟨_, rfl, ρ', { fn, tmps := tmps', todo := k', defers, mode := .run, kind, roundOf }, cs, w', ⟨?_, L2.map_mono k2.le R.cs, R.pre.post k2⟩, k2, k3⟩
        have F' := F.mono k2.le
        exact ⟨F'.fn, k1, hk.mono fun _ _ => ItR.mono k2.le, F'.defers, F'.mode, F'.kind, F'.round⟩
    · rename_i ops k he
      rw [he] at htodo
      obtain ⟨y, k', rfl, hy, hk⟩ := htodo.inv_cons
      cases hy
      rw [okk] at hs
      exact Stepped'.move R hs.symm (F.todo_of hk) (fun cs0 => by simp [stepG, run0, stepG.exec])
    · -- an operation
      rename_i ops i rest k he
      rw [he] at htodo
      obtain ⟨y, k', rfl, hy, hk⟩ := htodo.inv_cons
      cases hy
      split at hs
      · simp [no] at hs
      · rename_i o ho
        have ho' : ops[i]? = some o := by rw [← Array.getElem?_toList]; exact ho
        simp only [bind_ok] at hs
        obtain ⟨b, hb, hs⟩ := hs
        have hw := wanted_ok (ops := ops) F.tm hb
        simp only at hw
        cases b with
        | true =>
          simp only [if_true, bind_ok] at hs
          obtain ⟨⟨a, h'⟩, hex, ha⟩ := hs
          have hE := execA_ok (w := w) hη R.pre (o := o) (σ := evA f.tm) (τ := Frame.eval { fn, tmps, todo := .inRegion ops (i :: rest) :: k', defers, mode := .run, kind, roundOf }) (fun x hx => evA_ok R.pre.glob F.tm hx) hex
          obtain ⟨s', rfl, ρ', fr', cs', w', k1, k2, k3⟩ := after_ok F R.cs R.pre hE ha (fun d b r s k hh => by cases hh)
          refine .inl ⟨s', rfl, ρ', fr', cs', w', k1, k2, one_go ?_⟩
          rw [stepG_region rfl rfl ho' hw (notDefer F hex ha)]
          exact k3 cs0
        | false =>
          simp only [Bool.false_eq_true, if_false, bind_ok] at hs
          obtain ⟨f2, hf2, hs⟩ := hs
          rw [okk] at hs; subst hs
          have F2 := finish_ok hf2 F .undef'
          refine .inl ⟨_, rfl, ρ, _, cs, w, ⟨F2, R.cs, R.pre⟩, .refl R.pre, one_go ?_⟩
          simp only [stepG, run0, stepG.exec, ho', Option.map_some, Option.getD_some, hw, Bool.false_eq_true, if_false]
          rfl
    · simp [no] at hs
  · exact unwindA_ok hη R hs (by rw [‹f.mode = _›]; simp)
  · exact unwindA_ok hη R hs (by rw [‹f.mode = _›]; simp)
end
end Go.Ev
