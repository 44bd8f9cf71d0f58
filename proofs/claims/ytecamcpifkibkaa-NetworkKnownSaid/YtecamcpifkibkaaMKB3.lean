/- MKB, part 3: what the proof needs, in the order of its texts. -/
import Derived.Test.YtecamcpifkibkaaMKB2
import Derived.Orders
namespace Go.Ev
set_option linter.unusedVariables false
set_option linter.unusedSimpArgs false
variable {η : Nat → Value}
abbrev Nest := FuncId → List Value → AH → M (Value × AH)
def RegOk (η : Nat → Value) (P : Program) (B : Bd) (nest : Nest) : Prop :=
  ∀ (ops : Array Oper) (n : Nat) (tm tm' : T Value) (h h' : AH), regionA P n nest ops.toList tm h = .ok (tm', h') →
    ∀ (ρ : Env) (fr : Frame) (w : World) (k : List Item) (id : Nat) (cs : List Frame), TR η ρ tm n fr.tmps → Pre η P ρ B h w → fr.mode = .run → fr.todo = .code (.region id ops true) :: k →
      ∃ ρ' tmps' w', TR η ρ' tm' n tmps' ∧ Post η ρ B h w ρ' h' w' ∧ Steps P (lone fr cs w) (lone { fr with tmps := tmps', todo := k } cs w')
def NestOk (η : Nat → Value) (P : Program) (B : Bd) (nest : Nest) : Prop :=
  ∀ (f : FuncId) (args : List Value) (h h' : AH) (v : Value), nest f args h = .ok (v, h') → ∀ (ρ : Env) (args' : Array Value) (w : World) (cs : List Frame), LR η ρ args args'.toList → Pre η P ρ B h w →
    ∃ ρ' fr' w' x, Post η ρ B h w ρ' h' w' ∧ VR η ρ' v x ∧ fr'.fn = f ∧ fr'.leaving P w' (.returned x) ∧ Steps P (lone (Frame.enter P f args' .normal) cs w) (lone fr' cs w')
section
variable {P : Program} {ρ : Env} {B : Bd} {w : World}
theorem one_go {fr fr' : Frame} {cs cs' : List Frame} {w w' : World} (h : (stepG P true (run0 fr cs) w).bare = .go (run0 fr' cs') w') : Steps P (lone fr cs w) (lone fr' cs' w') := .one (step_lone_go h)
theorem bare_after (es : Array Event) (s : GStep) : (GStep.after es s).bare = s.bare := GStep.bare_after es s
def Stepped' (η : Nat → Value) (P : Program) (B : Bd) (ρ : Env) (s : AS) (fr : Frame) (cs : List Frame) (w : World) (cs0 : List Frame) (r : AR) : Prop :=
  (∃ s', r = .next s' ∧ ∃ ρ' fr' cs' w', SR η P ρ' B s' fr' cs' w' ∧ Post η ρ B s.hp w ρ' s'.hp w' ∧ Steps P (lone fr (cs ++ cs0) w) (lone fr' (cs' ++ cs0) w')) ∨
  (∃ v, r = .done s.fr.fn v s.hp ∧ s.cs = [] ∧ ∃ x, VR η ρ v x ∧ fr.leaving P w (.returned x))
theorem Stepped'.move {cs0 : List Frame} {s : AS} {fr fr' : Frame} {cs : List Frame} {f' : AF} {r : AR} (R : SR η P ρ B s fr cs w) (hr : r = .next { s with fr := f' }) (F : FrR η ρ f' fr') (hst : ∀ cs0, (stepG P true (run0 fr (cs ++ cs0)) w).bare = .go (run0 fr' (cs ++ cs0)) w) :
    Stepped' η P B ρ s fr cs w cs0 r := .inl ⟨_, hr, ρ, fr', cs, w, ⟨F, R.cs, R.pre⟩, .refl R.pre, one_go (hst cs0)⟩
theorem FrR.todo_of {f : AF} {fr : Frame} (F : FrR η ρ f fr) {k k' : List Item} (h : L2 (ItR ρ) k k') : FrR η ρ { f with todo := k } { fr with todo := k' } := ⟨F.fn, F.tm, h, F.defers, F.mode, F.kind, F.round⟩
theorem leave_ok {cs0 : List Frame} {s : AS} {fr : Frame} {cs : List Frame} {jump : Option Code} {r : AR} (R : SR η P ρ B s fr cs w)
    (hl : (match s.fr.round with
      | none => (match jump with
        | none | some .ret => .ok (.next { s with fr := { s.fr with mode := .returning } })
        | _ => no "leave")
      | some l => match s.hp.objs.get l with
        | some (.loop _ _ fn tm n ps asg body ds) => returnA s.fr s.cs (.bool jump.isNone) (putA s.hp l (.loop (if jump.isNone then .ready else .done) jump fn tm n ps asg body ds))
        | _ => no "no loop" : M AR) = .ok r)
    (hst : ∀ cs0, fr.roundOf = none → (jump = none ∨ jump = some .ret) → (stepG P true (run0 fr (cs ++ cs0)) w).bare = .go (run0 { fr with mode := .returning } (cs ++ cs0)) w)
    (hst2 : ∀ cs0 l v w', fr.roundOf = some l → (Instr.endRound l jump).run P w = .ok v w' → (stepG P true (run0 fr (cs ++ cs0)) w).bare = (doReturn P true fr (cs ++ cs0) none v w').bare) : Stepped' η P B ρ s fr cs w cs0 r := by
  split at hl
  · rename_i hro
    have h1 : jump = none ∨ jump = some .ret := by
      split at hl
      · exact .inl rfl
      · exact .inr rfl
      · simp [no] at hl
    have h2 : r = .next { s with fr := { s.fr with mode := .returning } } := by
      rcases h1 with rfl | rfl <;> (rw [okk] at hl; exact hl.symm)
    exact Stepped'.move (fr' := { fr with mode := .returning }) R h2 ⟨R.fr.fn, R.fr.tm, R.fr.todo, R.fr.defers, .returning, R.fr.kind, R.fr.round⟩ (fun cs0 => hst cs0 (RoR.inv_none R.fr hro) h1)
  · rename_i l hro
    obtain ⟨b, d, n0, hb, hρ⟩ := RoR.inv_some R.fr hro
    split at hl
    · rename_i st pend fn tm n ps asg body ds hg
      obtain ⟨b2, d2, k2, lp, h1, h2, h3⟩ := R.pre.hr.loop hg
      rw [hρ] at h1; cases h1
      have hpost := Post.loop (st' := if jump.isNone then .ready else .done) (pend' := jump) R.pre hg hρ h2
      have hrun : (Instr.endRound b jump).run P w = .ok (.bool jump.isNone) (wput w b (.loop { lp with state := if jump.isNone then .ready else .done, pending := jump })) := by
        simp only [Instr.endRound, Instr.getLoop, Sem.run_bind, run_getObj h2 (by simp), Result.andThen_ok, Sem.run_pure, run_setObj h2 (by simp)]
      rcases return_ok (R.fr) R.cs (R.pre.post hpost) (.bool jump.isNone) hl with ⟨s', rfl, hhp, fr', cs', hSR, hdo⟩ | ⟨_, _, _, hrn⟩
      · refine .inl ⟨s', rfl, ρ, fr', cs', _, hSR, by rw [hhp]; exact hpost, one_go ?_⟩
        rw [hst2 cs0 b _ _ hb hrun, hdo]; rfl
      · rw [hro] at hrn; cases hrn
    · simp [no] at hl
theorem stepG_region {fr : Frame} {cs : List Frame} {ops : Array Oper} {i : Nat} {rest : List Nat} {k : List Item} {o : Oper} (hm : fr.mode = .run) (ht : fr.todo = .inRegion ops (i :: rest) :: k) (ho : ops[i]? = some o) (hw : Region.wanted o (yielded ops fr.tmps) = true)
    (hd : fr.roundOf = none ∨ ∀ c, o.op ≠ .defer c) : stepG P true (run0 fr cs) w = stepG.apply P true fr cs none (execOp fr.eval o) w := by
  obtain ⟨fn, tmps, todo, defers, mode, kind, roundOf⟩ := fr
  simp only at hm ht hw hd
  subst hm; subst ht
  simp only [stepG, run0, stepG.exec, ho, Option.map_some, Option.getD_some, hw, if_true, stepG.oper, Frame.oper?]
  rcases hd with rfl | hd
  · rfl
  · cases roundOf with
    | none => rfl
    | some l =>
      cases hop : o.op <;> first | rfl | exact absurd hop (hd _)
theorem notDefer {f : AF} {fr : Frame} {acs : List AF} {o : Oper} {h : AH} {a : AN} {h' : AH} {r : AR} {tm : T Value} (F : FrR η ρ f fr) (he : execA P (evA tm) o h = .ok (a, h')) (ha : afterA P f acs a h' = .ok r) : fr.roundOf = none ∨ ∀ c, o.op ≠ .defer c := by
  cases hr : f.round with
  | none => exact .inl (RoR.inv_none F hr)
  | some l =>
    refine .inr fun c hc => ?_
    obtain ⟨dst, op, type, pos, after, guard⟩ := o
    simp only at hc; subst hc
    unfold execA at he
    rw [ite_no] at he
    obtain ⟨_, he⟩ := he
    simp only [kindOf, effA, bind_ok] at he
    obtain ⟨⟨t, args⟩, _, he⟩ := he
    rw [okk] at he; injection he with e1 e2; subst e1
    simp only [afterA] at ha
    rw [ite_no] at ha
    rw [hr] at ha
    exact ha.1 rfl
theorem unwindA_ok (hη : OneCells η) {cs0 : List Frame} {s : AS} {fr : Frame} {cs : List Frame} {r : AR} (R : SR η P ρ B s fr cs w) (hs : unwindA P s = .ok r) (hm : s.fr.mode ≠ .run) : Stepped' η P B ρ s fr cs w cs0 r := by
  obtain ⟨f, acs, hp⟩ := s
  have F := R.fr
  simp only at F hm
  obtain ⟨fn, tmps, todo, defers, mode, kind, roundOf⟩ := fr
  have hmode := F.mode
  have hdef := F.defers
  simp only at hmode hdef
  have hnr : mode ≠ .run := by
    intro e; subst e
    generalize f.mode = m at *
    cases hmode; exact hm rfl
  have hstep : ∀ cs0, stepG P true (run0 { fn, tmps, todo, defers, mode, kind, roundOf } cs0) w = unwind P true { fn, tmps, todo, defers, mode, kind, roundOf } cs0 none w := by
    intro cs0
    cases mode with
    | run => exact absurd rfl hnr
    | returning => rfl
    | panicking c => rfl
  have hcatch : (Frame.catches P { fn, tmps, todo, defers, mode, kind, roundOf }) = false := by
    unfold Frame.catches
    have ht := F.todo
    simp only at ht
    split
    · rename_i h1 h2
      simp only at h2
      subst h2
      generalize f.todo = ft at ht
      cases ht with
      | cons hh _ => cases hh
    · rfl
  unfold unwindA at hs
  dsimp only at hs
  split at hs
  · -- the deferred calls of a loop
    rename_i b args ds he
    rw [he] at hdef
    obtain ⟨d', ds', rfl, hd, hds⟩ := hdef.inv_cons
    obtain ⟨t', a'⟩ := d'
    obtain ⟨ht, ha⟩ := hd
    simp only at ht
    cases t' with
    | collected b' =>
      obtain ⟨d0, n0, hρ⟩ := ht
      split at hs
      · rename_i calls hg
        obtain ⟨b2, d2, n2, o, h1, h2, ⟨ds2, rfl, h3⟩, _⟩ := R.pre.hr.obj _ _ hg
        rw [hρ] at h1; cases h1
        cases ds2 with
        | none => exact h3.elim
        | some calls' =>
          rw [okk] at hs; subst hs
          have hpost : Post η ρ B hp w ρ (putA hp b (.deferred none)) (wput w b' (.deferred none)) := Post.put R.pre hg rfl hρ rfl ⟨none, rfl, trivial⟩
          have hrun : (Instr.takeDeferred b').run P w = .ok calls' (wput w b' (.deferred none)) := by
            simp only [Instr.takeDeferred, Sem.run_bind, run_getObj h2 (by simp), Result.andThen_ok, Sem.run_pure, run_setObj h2 (by simp)]
          refine .inl ⟨_, rfl, ρ, { fn, tmps, todo, defers := calls' ++ ds', mode, kind, roundOf }, cs, _, ⟨⟨F.fn, F.tm, F.todo, h3.append hds, F.mode, F.kind, F.round⟩, R.cs, R.pre.post hpost⟩, hpost, one_go ?_⟩
          rw [hstep]
          simp [unwind, hrun, bare_after, run0]
      · simp [no] at hs
    | _ => exact ht.elim
  · rename_i d ds hnc he
    rw [he] at hdef
    obtain ⟨d', ds', rfl, hd, hds⟩ := hdef.inv_cons
    simp only [bind_ok] at hs
    obtain ⟨⟨a, h'⟩, hi, hs⟩ := hs
    obtain ⟨ρ', w', hn, hpost⟩ := invokeA_ok hη R.pre hi hd.1 hd.2
    have hunw : ∀ cs0, unwind P true { fn, tmps, todo, defers := d' :: ds', mode, kind, roundOf } cs0 none w = callDeferred P { fn, tmps, todo, defers := ds', mode, kind, roundOf } cs0 none d' w := by
      intro cs0
      obtain ⟨t', a'⟩ := d'
      cases t' with
      | collected b' =>
        exfalso
        obtain ⟨t, a0⟩ := d
        have ht := hd.1
        simp only at ht
        cases t <;> first | exact ht.elim | exact hnc _ _ rfl
      | _ => rfl
    have hnn : d'.target ≠ .nil := by
      intro hd1
      have ht := hd.1
      rw [hd1] at ht
      obtain ⟨t, a0⟩ := d
      simp only at ht hi
      cases t <;> first | exact ht.elim | (simp [invokeA, no] at hi; done)
    have F' : FrR η ρ' { f with defers := ds } { fn, tmps, todo, defers := ds', mode, kind, roundOf } := by
      have := F.mono hpost.le
      exact ⟨this.fn, this.tm, this.todo, hds.mono fun _ _ => DR.mono hpost.le, this.mode, this.kind, this.round⟩
    split at hs
    · rename_i g args h2 heq
      injection heq with e1 e2
      subst e1; subst e2
      obtain ⟨xs, hr, hl⟩ := hn
      simp only [bind_ok] at hs
      obtain ⟨f2, hf2, hs⟩ := hs
      rw [okk] at hs; subst hs
      refine .inl ⟨_, rfl, ρ', Frame.enter P g xs .deferred, { fn, tmps, todo, defers := ds', mode, kind, roundOf } :: cs, w', ⟨enter_ok hf2 hl, .cons F' (L2.map_mono hpost.le R.cs), R.pre.post hpost⟩, hpost, one_go ?_⟩
      rw [hstep, hunw]
      unfold callDeferred
      split
      · rename_i hh
        exfalso; apply hnn
        cases hd1 : d'.target <;> simp_all
      · simp [hr, bare_after, run0]
    · rename_i v h2 heq
      injection heq with e1 e2
      subst e1; subst e2
      obtain ⟨x, hr, hl⟩ := hn
      rw [okk] at hs; subst hs
      refine .inl ⟨_, rfl, ρ', { fn, tmps, todo, defers := ds', mode, kind, roundOf }, cs, w', ⟨F', L2.map_mono hpost.le R.cs, R.pre.post hpost⟩, hpost, one_go ?_⟩
      rw [hstep, hunw]
      unfold callDeferred
      split
      · rename_i hh
        exfalso; apply hnn
        cases hd1 : d'.target <;> simp_all
      · simp [hr, bare_after, run0]
    · simp [no] at hs
  · rename_i he
    rw [he] at hdef
    have := hdef.inv_nil; subst this
    split at hs
    · rename_i chain hfm
      rw [hfm] at hmode
      cases hmode with
      | panicking hch =>
        rename_i chain'
        split at hs
        · rename_i c rest
          have hC := R.cs
          simp only at hC
          obtain ⟨c', rest', rfl, hc, hrest⟩ := hC.inv_cons
          rw [okk] at hs; subst hs
          refine .inl ⟨_, rfl, ρ, c'.raise chain', rest', w, ⟨raise_ok hc hch, hrest, R.pre⟩, .refl R.pre, one_go ?_⟩
          rw [hstep]
          simp [unwind, hcatch, run0]
        · simp [no] at hs
    · rename_i hnp
      rw [ite_no] at hs
      obtain ⟨hro, hs⟩ := hs
      have hret : f.mode = .returning := by
        generalize f.mode = m at *
        cases m with
        | run => exact absurd rfl hm
        | returning => rfl
        | panicking c => exact absurd rfl (hnp c)
      rw [hret] at hmode
      cases hmode
      split at hs
      · simp [no] at hs
      · rename_i fn' hfn
        simp only [bind_ok] at hs
        obtain ⟨v, hv, hs⟩ := hs
        obtain ⟨x, hx, hxv⟩ := results_ok R.pre.hr F.tm hv
        have hffn : fn = f.fn := F.fn
        have hfn' : P.funcs[fn]? = some fn' := by rw [hffn]; exact hfn
        rcases return_ok F R.cs R.pre hxv hs with ⟨s', rfl, hhp, fr', cs', hSR, hdo⟩ | ⟨rfl, h1, h2, h3⟩
        · refine .inl ⟨s', rfl, ρ, fr', cs', w, hSR, by rw [hhp]; exact .refl R.pre, one_go ?_⟩
          rw [hstep]
          simp only [unwind, hfn', Sem.runT_eq, hx, bare_after]
          rw [hdo]; rfl
        · refine .inr ⟨v, rfl, h1, x, hxv, rfl, rfl, ?_, fn', hfn', hx⟩
          have hk : kind = f.kind := F.kind
          simp only
          rw [hk, h2]
theorem enterLoopA_ok {f : AF} {fr : Frame} {h h' : AH} {d : Nat} {mark : List Deferred} {params : Array Tmp} {asg body : Code} (F : FrR η ρ f fr) (p : Pre η P ρ B h w) (he : enterLoopA f h = .ok (d, mark, h')) :
    ∃ ρ' b dd n mark' w', Post η ρ B h w ρ' h' w' ∧ ρ' d = some (b, dd, n) ∧ L2 (DR η ρ') mark mark' ∧
      (Instr.enterLoop fr.fn fr.tmps params asg body fr.roundOf).run P w = .ok (w'.heap.size, mark') (wpush w' (.loop { state := .ready, pending := none, fn := fr.fn, tmps := fr.tmps, params, assign := asg, body, defers := b })) := by
  unfold enterLoopA at he
  split at he
  · rename_i l hro
    obtain ⟨b, d0, n0, hb, hρ⟩ := RoR.inv_some F hro
    split at he
    · rename_i st pend fn2 tm n ps asg2 body2 ds hg
      obtain ⟨b2, d2, k2, lp, h1, h2, h3, h4, h5, h6, h7, h8, h9, dd, nn, h10⟩ := p.hr.loop hg
      rw [hρ] at h1; cases h1
      rw [okk] at he; injection he with e1 e2; injection e2 with e2 e3; subst e1; subst e2; subst e3
      refine ⟨ρ, lp.defers, dd, nn, [], w, .refl p, h10, .nil, ?_⟩
      rw [hb]
      simp only [Instr.enterLoop, Instr.getLoop, Sem.run_bind, run_getObj h2 (by simp), Result.andThen_ok, Sem.run_pure, run_newObj]
      rfl
    · simp [no] at he
  · rename_i hro
    rw [okk] at he; injection he with e1 e2; injection e2 with e2 e3; subst e1; subst e2; subst e3
    have hpost : Post η ρ B h w (ρ.put h.next (w.heap.size, 0, 0)) (newA h (.deferred (some []))).2 (wpush w (.deferred (some []))) :=
      Post.new (w' := wpush w (.deferred (some []))) (ob := .deferred (some [])) p ⟨rfl, rfl, rfl, rfl⟩ h.objs (fun _ _ hx => hx) ⟨some [], rfl, .nil⟩
    refine ⟨_, w.heap.size, 0, 0, [{ target := .collected w.heap.size, args := #[] }], _, hpost, Env.put_at _ _ _, .cons ⟨⟨0, 0, Env.put_at _ _ _⟩, .nil⟩ .nil, ?_⟩
    rw [RoR.inv_none F hro]
    simp only [Instr.enterLoop, Sem.run_bind, run_newObj, Result.andThen_ok, Sem.run_pure]
    rfl
theorem stepA_ok (hη : OneCells η) {nest : Nest} (hreg : RegOk η P B nest) {cs0 : List Frame} {s : AS} {fr : Frame} {cs : List Frame} {r : AR} (R : SR η P ρ B s fr cs w) (hs : stepA P nest s = .ok r) : Stepped' η P B ρ s fr cs w cs0 r := by
  obtain ⟨f, acs, hp⟩ := s
  have F := R.fr
  simp only at F
  obtain ⟨fn, tmps, todo, defers, mode, kind, roundOf⟩ := fr
  have hmode := F.mode
  have htodo := F.todo
  have hdef := F.defers
  simp only at hmode htodo hdef
  unfold stepA at hs
  dsimp only at hs
  split at hs
  · -- running
    rename_i hfm
    rw [hfm] at hmode
    cases hmode
    split at hs
    · -- nothing left
      rename_i he
      rw [he] at htodo
      have := htodo.inv_nil; subst this
      refine leave_ok (jump := none) R hs (fun cs0 hro _ => ?_) (fun cs0 l v w' hro hrun => ?_)
      · simp only at hro; subst hro
        simp [stepG, run0, stepG.exec]
      · simp only at hro; subst hro
        simp [stepG, run0, stepG.exec, hrun, bare_after]
    · rename_i k he
      rw [he] at htodo
      obtain ⟨y, k', rfl, hy, hk⟩ := htodo.inv_cons
      cases hy
      refine leave_ok (jump := some .ret) R hs (fun cs0 hro _ => ?_) (fun cs0 l v w' hro hrun => ?_)
      · simp only at hro; subst hro
        simp [stepG, run0, stepG.exec]
      · simp only at hro; subst hro
        simp [stepG, run0, stepG.exec, hrun, bare_after]
    · rename_i k he
      rw [he] at htodo
      obtain ⟨y, k', rfl, hy, hk⟩ := htodo.inv_cons
      cases hy
      rw [okk] at hs
      exact Stepped'.move R hs.symm (F.todo_of hk) (fun cs0 => by simp [stepG, run0, stepG.exec])
    · rename_i l k he
      rw [he] at htodo
      obtain ⟨y, k', rfl, hy, hk⟩ := htodo.inv_cons
      cases hy
      rw [okk] at hs
      exact Stepped'.move R hs.symm (F.todo_of hk) (fun cs0 => by simp [stepG, run0, stepG.exec])
    · rename_i l k he
      rw [he] at htodo
      obtain ⟨y, k', rfl, hy, hk⟩ := htodo.inv_cons
      cases hy
      rw [okk] at hs
      exact Stepped'.move R hs.symm (F.todo_of hk) (fun cs0 => by simp [stepG, run0, stepG.exec])
    · rename_i l k he
      rw [he] at htodo
      obtain ⟨y, k', rfl, hy, hk⟩ := htodo.inv_cons
      cases hy
      rw [okk] at hs
      exact Stepped'.move R hs.symm (F.todo_of hk) (fun cs0 => by simp [stepG, run0, stepG.exec])
    · rename_i a b k he
      rw [he] at htodo
      obtain ⟨y, k', rfl, hy, hk⟩ := htodo.inv_cons
      cases hy
      rw [okk] at hs
      exact Stepped'.move R hs.symm (F.todo_of (.cons (.code a) (.cons (.code b) hk))) (fun cs0 => by simp [stepG, run0, stepG.exec])
    · rename_i c thn els k he
      rw [he] at htodo
      obtain ⟨y, k', rfl, hy, hk⟩ := htodo.inv_cons
      cases hy
      split at hs
      · rename_i b hb
        rw [okk] at hs
        have hev : (Frame.eval { fn, tmps, todo := .code (.cond c thn els) :: k', defers, mode := .run, kind, roundOf } c) = .bool b := by
          have hok : okO P c = true := by
            cases c with
            | tmp t => rfl
            | const v => simp only [evA] at hb; subst hb; rfl
            | global g => cases hb
            | func g => cases hb
          have := evA_ok (P := P) R.pre.glob (fr := { fn, tmps, todo := .code (.cond c thn els) :: k', defers, mode := .run, kind, roundOf }) F.tm hok
          rw [hb] at this
          exact this.bool_inv
        refine Stepped'.move R hs.symm (F.todo_of (.cons (.code _) hk)) (fun cs0 => ?_)
        simp [stepG, run0, stepG.exec, hev]
      · simp [no] at hs
    · rename_i id body k he
      rw [he] at htodo
      obtain ⟨y, k', rfl, hy, hk⟩ := htodo.inv_cons
      cases hy
      rw [okk] at hs
      exact Stepped'.move R hs.symm (F.todo_of (.cons (.code body) (.cons (.inBlock id) hk))) (fun cs0 => by simp [stepG, run0, stepG.exec])
    · rename_i body k he
      rw [he] at htodo
      obtain ⟨y, k', rfl, hy, hk⟩ := htodo.inv_cons
      cases hy
      rw [okk] at hs
      exact Stepped'.move R hs.symm (F.todo_of (.cons (.code body) (.cons (.inLoop body) hk))) (fun cs0 => by simp [stepG, run0, stepG.exec])
    · rename_i body k he
      rw [he] at htodo
      obtain ⟨y, k', rfl, hy, hk⟩ := htodo.inv_cons
      cases hy
      rw [okk] at hs
      exact Stepped'.move R hs.symm (F.todo_of (.cons (.code body) (.cons (.inLoop body) hk))) (fun cs0 => by simp [stepG, run0, stepG.exec])
    · rename_i body k he
      rw [he] at htodo
      obtain ⟨y, k', rfl, hy, hk⟩ := htodo.inv_cons
      cases hy
      rw [okk] at hs
      exact Stepped'.move R hs.symm (F.todo_of (.cons (.code body) (.cons (.inScope body) hk))) (fun cs0 => by simp [stepG, run0, stepG.exec])
    · -- exit
      rename_i id k he
      rw [he] at htodo
      obtain ⟨y, k', rfl, hy, hk⟩ := htodo.inv_cons
      cases hy
      obtain ⟨e1, e2⟩ := exitTo_ok (id := id) hk
      split at hs
      · rename_i r' hr'
        obtain ⟨r2, h2, hk2⟩ := e1 r' hr'
        rw [okk] at hs
        exact Stepped'.move R hs.symm (F.todo_of hk2) (fun cs0 => by simp [stepG, run0, stepG.exec, h2])
      · rename_i hr'
        have h2 := e2 hr'
        refine leave_ok (jump := some (.exit id)) R hs (fun cs0 hro hj => ?_) (fun cs0 l v w' hro hrun => ?_)
        · rcases hj with hj | hj <;> cases hj
        · simp only at hro; subst hro
          simp [stepG, run0, stepG.exec, h2, hrun, bare_after]
    · rename_i id k he
      rw [he] at htodo
      obtain ⟨y, k', rfl, hy, hk⟩ := htodo.inv_cons
      cases hy
      obtain ⟨e1, e2⟩ := gotoIn_ok (id := id) hk
      split at hs
      · rename_i r' hr'
        obtain ⟨r2, h2, hk2⟩ := e1 r' hr'
        rw [okk] at hs
        exact Stepped'.move R hs.symm (F.todo_of hk2) (fun cs0 => by simp [stepG, run0, stepG.exec, h2])
      · rename_i hr'
        have h2 := e2 hr'
        refine leave_ok (jump := some (.goto id)) R hs (fun cs0 hro hj => ?_) (fun cs0 l v w' hro hrun => ?_)
        · rcases hj with hj | hj <;> cases hj
        · simp only at hro; subst hro
          simp [stepG, run0, stepG.exec, h2, hrun, bare_after]
    · -- range over a function
      rename_i fo params assign body k he
      rw [he] at htodo
      obtain ⟨y, k', rfl, hy, hk⟩ := htodo.inv_cons
      cases hy
      simp only [bind_ok] at hs
      obtain ⟨⟨d, mark, h1⟩, hel, hs⟩ := hs
      simp only [newA] at hs
      rw [ite_no] at hs
      obtain ⟨hok, hs⟩ := hs
      have hok : okO P fo = true := by simpa using hok
      obtain ⟨ρ1, b, dd, n0, mark', w1, hp1, hd1, hmk, hrun⟩ := enterLoopA_ok (P := P) (params := params) (asg := assign) (body := body) F R.pre hel
      simp only at hrun
      have p1 := R.pre.post hp1
      have F1 := F.mono hp1.le
      have hle := Env.le_put (t := (w1.heap.size, 0, 0)) (p1.fresh h1.next (Nat.le_refl _))
      have hp2 : Post η ρ1 B h1 w1 (ρ1.put h1.next (w1.heap.size, 0, 0)) (newA h1 (.loop .ready none f.fn f.tm f.n params.toList assign body d)).2
          (wpush w1 (.loop { state := .ready, pending := none, fn, tmps, params, assign, body, defers := b })) :=
        Post.new (w' := wpush w1 _) (ob := .loop { state := .ready, pending := none, fn, tmps, params, assign, body, defers := b }) p1 ⟨rfl, rfl, rfl, rfl⟩ h1.objs (fun _ _ hx => hx)
          ⟨_, rfl, rfl, rfl, F1.fn, F1.tm.mono hle, rfl, rfl, rfl, dd, n0, hle _ _ hd1⟩
      have p2 := p1.post hp2
      have F2 := F1.mono hle
      have hpp := hp1.trans hp2
      split at hs
      · rename_i gfn first captured hev
        simp only [bind_ok] at hs
        obtain ⟨⟨a, h3⟩, hi, ha⟩ := hs
        have hv := evA_ok (P := P) (fr := { fn, tmps, todo := .inRangeFunc w1.heap.size :: k', defers := mark' ++ defers, mode := .run, kind, roundOf }) p2.glob F2.tm hok
        rw [hev] at hv
        obtain ⟨g, c, dcap, hg, hfr, hfi, hca⟩ := hv.func_inv
        have hyv : VR η (ρ1.put h1.next (w1.heap.size, 0, 0)) (.func (.yield h1.next) #[] #[]) (.func (.yield w1.heap.size) #[] #[]) := .func_mk (.yield (Env.put_at _ _ _)) .nil .nil
        obtain ⟨ρ', w', hn, hp3⟩ := invokeA_ok (t' := .fn g dcap) (args' := c ++ #[.func (.yield w1.heap.size) #[] #[]]) hη p2 hi ⟨hfr, hca⟩ (by rw [Array.toList_append]; exact hfi.append (.cons hyv .nil))
        have hE : Eff η P (ρ1.put h1.next (w1.heap.size, 0, 0)) B (newA h1 (.loop .ready none f.fn f.tm f.n params.toList assign body d)).2 (wpush w1 (.loop { state := .ready, pending := none, fn, tmps, params, assign, body, defers := b }))
            (do let d ← resolve (Frame.eval { fn, tmps, todo := .inRangeFunc w1.heap.size :: k', defers := mark' ++ defers, mode := .run, kind, roundOf }) { callee := .value fo, args := #[.const (.func (.yield w1.heap.size) #[] #[])], argTypes := #[] } 0; invoke d.target d.args) a h3 := by
          refine ⟨ρ', w', ?_, hp3⟩
          have hres : ∀ w, (resolve (Frame.eval { fn, tmps, todo := .inRangeFunc w1.heap.size :: k', defers := mark' ++ defers, mode := .run, kind, roundOf }) { callee := .value fo, args := #[.const (.func (.yield w1.heap.size) #[] #[])], argTypes := #[] } 0).run P w = .ok { target := .fn g dcap, args := c ++ #[.func (.yield w1.heap.size) #[] #[]] } w := by
            intro w
            simp only [resolve, hg, Deferred.ofValue, Sem.run_pure, List.map_toArray, List.map_cons, List.map_nil]
            rfl
          simp only [Sem.run_bind, hres, Result.andThen_ok]
          exact hn
        have Fn : FrR η (ρ1.put h1.next (w1.heap.size, 0, 0)) { f with todo := .inRangeFunc h1.next :: k, defers := mark ++ f.defers } { fn, tmps, todo := .inRangeFunc w1.heap.size :: k', defers := mark' ++ defers, mode := .run, kind, roundOf } :=
          ⟨F2.fn, F2.tm, .cons (.inRangeFunc (Env.put_at _ _ _)) (hk.mono fun _ _ => ItR.mono (Env.le_trans hp1.le hle)), (hmk.mono fun _ _ => DR.mono hle).append F2.defers, F2.mode, F2.kind, F2.round⟩
        obtain ⟨s', rfl, ρ4, fr4, cs4, w4, k1, k2, k3⟩ := after_ok Fn (L2.map_mono (Env.le_trans hp1.le hle) R.cs) p2 hE ha (fun d b r s k hh => by cases hh)
        refine .inl ⟨s', rfl, ρ4, fr4, cs4, w4, k1, hpp.trans k2, one_go ?_⟩
        have := k3 cs0
        rw [← this]
        simp only [stepG, run0, stepG.exec, Sem.runT_eq, hrun, bare_after]
      · simp [no] at hs
    · -- the round begins
      rename_i k he
      rw [he] at htodo
      obtain ⟨y, k', rfl, hy, hk⟩ := htodo.inv_cons
      cases hy
      split at hs
      · simp [no] at hs
      · rename_i l hro
        obtain ⟨b, d, n0, hb, hρ⟩ := RoR.inv_some F hro
        simp only at hb; subst hb
        split at hs
        · rename_i pend fn2 tm n ps asg body ds hg
          obtain ⟨b2, d2, k2, lp, h1, h2, h3, h4, h5⟩ := R.pre.hr.loop hg
          rw [hρ] at h1; cases h1
          have hpost := Post.loop (st' := .busy) (pend' := pend) R.pre hg hρ h2
          have hrun : ((do (some b).elim (stuck "beginRound: no round") Instr.beginRound; pure .skip : Sem Next)).run P w = .ok .skip (wput w b (.loop { lp with state := .busy, pending := pend })) := by
            simp only [Option.elim_some, Instr.beginRound, Instr.getLoop, Sem.run_bind, run_getObj h2 (by simp), Result.andThen_ok, Sem.run_pure, run_setObj h2 (by simp), h3, h4]
          rw [okk] at hs; subst hs
          refine .inl ⟨_, rfl, ρ, { fn, tmps, todo := k', defers, mode := .run, kind, roundOf := some b }, cs, _, ⟨F.todo_of hk, R.cs, R.pre.post hpost⟩, hpost, one_go ?_⟩
          have := apply_skip (P := P) (fr := { fn, tmps, todo := .beginRound :: k', defers, mode := .run, kind, roundOf := some b }) (cs := cs ++ cs0) hrun
          simp only [stepG, run0, stepG.exec]
          exact this
        · simp [no] at hs
    · -- the loop ends
      rename_i l k he
      rw [he] at htodo
      obtain ⟨y, k', rfl, hy, hk⟩ := htodo.inv_cons
      cases hy with
      | endRangeFunc hρ =>
        rename_i b d n0
        split at hs
        · rename_i st pend fn2 tm n ps asg body ds hg
          obtain ⟨b2, d2, k2, lp, h1, h2, h3, h4, h5⟩ := R.pre.hr.loop hg
          rw [hρ] at h1; cases h1
          rw [ite_no, okk] at hs
          obtain ⟨hst, hs⟩ := hs
          subst hs
          have hpost := Post.loop (st' := .exhausted) (pend' := pend) R.pre hg hρ h2
          have hrun : (Instr.endLoop b).run P w = .ok pend (wput w b (.loop { lp with state := .exhausted, pending := pend })) := by
            have hb : (lp.state == .busy) = false := by rw [h3]; cases st <;> first | rfl | exact absurd rfl hst
            simp only [Instr.endLoop, Instr.getLoop, Sem.run_bind, run_getObj h2 (by simp), Result.andThen_ok, Sem.run_pure, hb, Bool.false_eq_true, if_false, run_setObj h2 (by simp), h4]
          have hitems : L2 (ItR ρ) ((pend.map Item.code).toList ++ k) ((pend.map Item.code).toList ++ k') := by
            refine L2.append ?_ hk
            cases pend with
            | none => exact .nil
            | some c => exact .cons (.code c) .nil
          refine .inl ⟨_, rfl, ρ, { fn, tmps, todo := (pend.map Item.code).toList ++ k', defers, mode := .run, kind, roundOf }, cs, _, ⟨F.todo_of hitems, R.cs, R.pre.post hpost⟩, hpost, one_go ?_⟩
          simp [stepG, run0, stepG.exec, hrun, bare_after]
        · simp [no] at hs
    · -- a region
      rename_i id ops draw k he
      rw [he] at htodo
      obtain ⟨y, k', rfl, hy, hk⟩ := htodo.inv_cons
      cases hy
      cases draw with
      | false =>
        simp only [Bool.not_false, if_true, okk] at hs
        exact Stepped'.move R hs.symm (F.todo_of (.cons (.inRegion ops (List.range ops.size)) hk)) (fun cs0 => by simp [stepG, run0, stepG.exec])
      | true =>
        simp only [Bool.not_true, Bool.false_eq_true, if_false, bind_ok] at hs
        obtain ⟨⟨tm, h'⟩, hr, hs⟩ := hs
        rw [okk] at hs; subst hs
        obtain ⟨ρ', tmps', w', k1, k2, k3⟩ := hreg ops f.n f.tm tm hp h' hr ρ { fn, tmps, todo := .code (.region id ops true) :: k', defers, mode := .run, kind, roundOf } w k' id (cs ++ cs0) F.tm R.pre rfl rfl
        refine .inl ⟨_, rfl, ρ', { fn, tmps := tmps', todo := k', defers, mode := .run, kind, roundOf }, cs, w', ⟨?_, L2.map_mono k2.le R.cs, R.pre.post k2⟩, k2, k3⟩
        have F' := F.mono k2.le
        exact ⟨F'.fn, k1, hk.mono fun _ _ => ItR.mono k2.le, F'.defers, F'.mode, F'.kind, F'.round⟩
    · rename_i ops k he
      rw [he] at htodo
      obtain ⟨y, k', rfl, hy, hk⟩ := htodo.inv_cons
      cases hy
      rw [okk] at hs
      exact Stepped'.move R hs.symm (F.todo_of hk) (fun cs0 => by simp [stepG, run0, stepG.exec])
    · -- an operation
      rename_i ops i rest k he
      rw [he] at htodo
      obtain ⟨y, k', rfl, hy, hk⟩ := htodo.inv_cons
      cases hy
      split at hs
      · simp [no] at hs
      · rename_i o ho
        have ho' : ops[i]? = some o := by rw [← Array.getElem?_toList]; exact ho
        simp only [bind_ok] at hs
        obtain ⟨b, hb, hs⟩ := hs
        have hw := wanted_ok (ops := ops) F.tm hb
        simp only at hw
        cases b with
        | true =>
          simp only [if_true, bind_ok] at hs
          obtain ⟨⟨a, h'⟩, hex, ha⟩ := hs
          have hE := execA_ok (w := w) hη R.pre (o := o) (σ := evA f.tm) (τ := Frame.eval { fn, tmps, todo := .inRegion ops (i :: rest) :: k', defers, mode := .run, kind, roundOf }) (fun x hx => evA_ok R.pre.glob F.tm hx) hex
          obtain ⟨s', rfl, ρ', fr', cs', w', k1, k2, k3⟩ := after_ok F R.cs R.pre hE ha (fun d b r s k hh => by cases hh)
          refine .inl ⟨s', rfl, ρ', fr', cs', w', k1, k2, one_go ?_⟩
          rw [stepG_region rfl rfl ho' hw (notDefer F hex ha)]
          exact k3 cs0
        | false =>
          simp only [Bool.false_eq_true, if_false, bind_ok] at hs
          obtain ⟨f2, hf2, hs⟩ := hs
          rw [okk] at hs; subst hs
          have F2 := finish_ok hf2 F .undef'
          refine .inl ⟨_, rfl, ρ, _, cs, w, ⟨F2, R.cs, R.pre⟩, .refl R.pre, one_go ?_⟩
          simp only [stepG, run0, stepG.exec, ho', Option.map_some, Option.getD_some, hw, Bool.false_eq_true, if_false]
          rfl
    · simp [no] at hs
  · exact unwindA_ok hη R hs (by rw [‹f.mode = _›]; simp)
  · exact unwindA_ok hη R hs (by rw [‹f.mode = _›]; simp)
end
end Go.Ev

namespace Go.Ev
set_option linter.unusedVariables false
set_option linter.unusedSimpArgs false
variable {η : Nat → Value}
theorem veqL_eq {n : Nat} (ih : ∀ a b, veq n a b = true → a = b) : ∀ (l m : List Value), veq.veqL n l m = true → l = m
  | [], [], _ => rfl
  | [], _ :: _, h => by simp [veq.veqL] at h
  | _ :: _, [], h => by simp [veq.veqL] at h
  | x :: l, y :: m, h => by
    simp only [veq.veqL, Bool.and_eq_true] at h
    rw [ih _ _ h.1, veqL_eq ih l m h.2]
theorem arr_ext {a b : Array Value} (h : a.toList = b.toList) : a = b := by
  rw [← Array.toArray_toList (xs := a), h]
theorem veq_eq : ∀ (n : Nat) (a b : Value), veq n a b = true → a = b
  | 0, a, b, h => by simp [veq] at h
  | n + 1, a, b, h => by
    have ih := veq_eq n
    have ihl := veqL_eq ih
    unfold veq at h
    split at h <;> try simp only [Bool.and_eq_true, beq_iff_eq] at h
    · rw [h]
    · rw [h.1, h.2]
    · rw [byteArray_ext h]
    · rw [h]
    · rw [h.1.1, h.1.2, h.2]
    · rw [h]
    · rw [h]
    · rfl
    · rfl
    · rw [h.1, ih _ _ h.2]
    · rw [h.1.1, arr_ext (ihl _ _ h.1.2), arr_ext (ihl _ _ h.2)]
    · rw [arr_ext (ihl _ _ h)]
    · rw [arr_ext (ihl _ _ h)]
    · cases h
theorem maskOf_ok {masks : List Nat} {i : Nat} : ∀ {es : List Edge} {m : Nat}, maskOf masks i es = .ok m →
    (∀ e ∈ es, Region.binds .any e = true → e.on < i ∧ m.testBit e.on = true) ∧
    (∀ j, m.testBit j = true → ∃ e ∈ es, Region.binds .any e = true ∧ e.on < i ∧ (j = e.on ∨ ((masks[e.on]?).getD 0).testBit j = true))
  | [], m, h => by
    simp only [maskOf, okk] at h; subst h
    exact ⟨fun e he => by simp at he, fun j hj => by simp at hj⟩
  | e :: es, m, h => by
    simp only [maskOf, bind_ok] at h
    obtain ⟨r, hr, h⟩ := h
    obtain ⟨i1, i2⟩ := maskOf_ok hr
    by_cases hb : Region.binds .any e = true
    · rw [if_pos hb, ite_no', okk] at h
      obtain ⟨hlt, rfl⟩ := h
      constructor
      · intro e' he' hb'
        rcases List.mem_cons.1 he' with rfl | he'
        · exact ⟨hlt, by simp [Nat.testBit_or]⟩
        · obtain ⟨a, b⟩ := i1 e' he' hb'
          exact ⟨a, by simp [Nat.testBit_or, b]⟩
      · intro j hj
        simp only [Nat.testBit_or, Bool.or_eq_true] at hj
        rcases hj with (hj | hj) | hj
        · rw [Nat.testBit_two_pow] at hj
          exact ⟨e, by simp, hb, hlt, .inl (by simpa using (of_decide_eq_true hj).symm)⟩
        · exact ⟨e, by simp, hb, hlt, .inr hj⟩
        · obtain ⟨e', he', a, b, c⟩ := i2 j hj
          exact ⟨e', by simp [he'], a, b, c⟩
    · rw [if_neg hb, okk] at h; subst h
      constructor
      · intro e' he' hb'
        rcases List.mem_cons.1 he' with rfl | he'
        · exact absurd hb' hb
        · exact i1 e' he' hb'
      · intro j hj
        obtain ⟨e', he', a, b, c⟩ := i2 j hj
        exact ⟨e', by simp [he'], a, b, c⟩
def wr : List Ent → Nat → (Nat → Bool) → Tmp → Option Value → Option Value
  | [], _, _, _, acc => acc
  | x :: l, i, p, t, acc => wr l (i + 1) p t (if p i && x.o.dst == some t then some x.v else acc)
theorem wr_congr {p q : Nat → Bool} {t : Tmp} : ∀ {l : List Ent} {i : Nat} {acc : Option Value}, (∀ j x, l[j]? = some x → x.o.dst = some t → p (i + j) = q (i + j)) → wr l i p t acc = wr l i q t acc
  | [], i, acc, _ => rfl
  | x :: l, i, acc, h => by
    simp only [wr]
    have h0 := h 0 x rfl
    have e : (if p i && x.o.dst == some t then some x.v else acc) = (if q i && x.o.dst == some t then some x.v else acc) := by
      by_cases hd : x.o.dst = some t
      · rw [show p i = q i from h0 hd]
      · simp [hd]
    rw [e]
    exact wr_congr fun j y hj hy => by have := h (j + 1) y (by simpa using hj) hy; rwa [show i + (j + 1) = i + 1 + j by omega] at this
theorem wr_none {p : Nat → Bool} {t : Tmp} : ∀ {l : List Ent} {i : Nat} {acc : Option Value}, (∀ j x, l[j]? = some x → x.o.dst = some t → p (i + j) = false) → wr l i p t acc = acc
  | [], i, acc, _ => rfl
  | x :: l, i, acc, h => by
    simp only [wr]
    have h0 := h 0 x rfl
    have e : (if p i && x.o.dst == some t then some x.v else acc) = acc := by
      by_cases hd : x.o.dst = some t
      · rw [show p i = false from h0 hd]; simp
      · simp [hd]
    rw [e]
    exact wr_none fun j y hj hy => by have := h (j + 1) y (by simpa using hj) hy; rwa [show i + (j + 1) = i + 1 + j by omega] at this
theorem wr_last {p : Nat → Bool} {t : Tmp} {x : Ent} : ∀ {l : List Ent} {i j : Nat} {acc : Option Value}, l[j]? = some x → x.o.dst = some t → p (i + j) = true →
    (∀ j' y, j < j' → l[j']? = some y → y.o.dst = some t → p (i + j') = false) → wr l i p t acc = some x.v
  | [], i, j, acc, h, _, _, _ => by simp at h
  | y :: l, i, 0, acc, h, hd, hp, hn => by
    simp at h; subst h
    simp only [wr]
    rw [wr_none (fun j' z hj hz => by have := hn (j' + 1) z (by omega) (by simpa using hj) hz; rwa [show i + (j' + 1) = i + 1 + j' by omega] at this)]
    simp [show p i = true from hp, hd]
  | y :: l, i, j + 1, acc, h, hd, hp, hn => by
    simp only [wr]
    exact wr_last (j := j) (by simpa using h) hd (by rwa [show i + 1 + j = i + (j + 1) by omega]) fun j' z hj hz hdz => by
      have := hn (j' + 1) z (by omega) (by simpa using hz) hdz; rwa [show i + (j' + 1) = i + 1 + j' by omega] at this
theorem wr_append {p : Nat → Bool} {t : Tmp} {x : Ent} : ∀ {l : List Ent} {i : Nat} {acc : Option Value}, wr (l ++ [x]) i p t acc = if p (i + l.length) && x.o.dst == some t then some x.v else wr l i p t acc
  | [], i, acc => rfl
  | y :: l, i, acc => by
    simp only [List.cons_append, wr]
    rw [wr_append, List.length_cons, show i + 1 + l.length = i + (l.length + 1) by omega]
def alOf (E : List Ent) (j : Nat) : Option AObj := (E[j]?).bind (·.obj)
def mkE (E : List Ent) (j : Nat) : Nat := ((E[j]?).map (·.mask)).getD 0
def Merged (E : List Ent) (ee : List Nat) (k j : Nat) : Prop := ∃ m e, m < k ∧ ee[m]? = some e ∧ (mkE E e).testBit j = true
def AlIn (E : List Ent) (ee : List Nat) (base k : Nat) (al : List (Nat × Nat × AObj)) : Prop := ∀ j r b, (j, r, b) ∈ al → r = base + j ∧ alOf E j = some b ∧ ¬ Merged E ee k j
structure EntOk (P : Program) (nest : Nest) (ops : List Oper) (base n : Nat) (tm0 : T Value) (E : List Ent) (hh : List AH) (ee : List Nat) (j : Nat) (x : Ent) : Prop where
  o : ops[j]? = some x.o
  pre : ∀ e ∈ x.o.after.toList, Region.binds .any e = true → e.on < j ∧ x.mask.testBit e.on = true
  clo : ∀ m, x.mask.testBit m = true → ∃ e ∈ x.o.after.toList, Region.binds .any e = true ∧ e.on < j ∧ (m = e.on ∨ (mkE E e.on).testBit m = true)
  ord : ∀ j' y, j' < j → E[j']? = some y → clash ops y.o x.o = true → x.mask.testBit j' = true
  tm : ∀ t, x.tm.get t = wr E 0 (fun i => decide (i < j)) t (tm0.get t)
  dst : ∀ d, x.o.dst = some d → d < n
  want : wantedA ops x.tm x.o = .ok x.want
  un : x.want = false → x.v = undef ∧ x.obj = none
  ok : x.want = true → okOps P x.o = true
  rd : x.want = true → x.kind = .read → x.obj = none ∧ ∀ k hk, hh[k]? = some hk → (∀ m e, ee[m]? = some e → x.mask.testBit e = true → m < k) → (∀ m e, m < k → ee[m]? = some e → (mkE E e).testBit j = false) →
    ∃ al, AlIn E ee base k al ∧ readA P (evA x.tm) x.o (withAl x.mask hk al) = .ok x.v
  alc : x.want = true → x.kind = .alloc → ∃ b, x.obj = some b ∧ allocA P (evA x.tm) x.o (base + j) = .ok (x.v, b)
  eff : x.want = true → x.kind = .effect → x.obj = none ∧ ∃ k hk hk', ee[k]? = some j ∧ hh[k]? = some hk ∧ hh[k + 1]? = some hk' ∧ (∀ m e, m < k → ee[m]? = some e → x.mask.testBit e = true) ∧
    ∃ al, AlIn E ee base k al ∧ effRun P nest (evA x.tm) x.o (withAl x.mask hk al) = .ok (x.v, hk')
  once : x.want = true → x.kind = .read → ∃ hx, readA P (evA x.tm) x.o hx = .ok x.v
structure Good (P : Program) (nest : Nest) (ops : List Oper) (base n : Nat) (tm0 : T Value) (h0 : AH) (s : RS) : Prop where
  msk : ∀ j : Nat, (s.masks[j]?).getD 0 = mkE s.ents j
  mlen : s.masks.length = s.ents.length
  hlen : s.hh.length = s.ee.length + 1
  hd : s.hh[0]? = some h0
  hl : s.hh[s.ee.length]? = some s.h
  ent : ∀ j x, s.ents[j]? = some x → EntOk P nest ops base n tm0 s.ents s.hh s.ee j x
  effs : ∀ (m e : Nat), s.ee[m]? = some e → ∃ x, s.ents[e]? = some x ∧ x.want = true ∧ x.kind = .effect
  inc : ∀ (m m' e e' : Nat), m < m' → s.ee[m]? = some e → s.ee[m']? = some e' → e < e'
  al : AlIn s.ents s.ee base s.ee.length s.al
  alc : ∀ j b, alOf s.ents j = some b → ¬ Merged s.ents s.ee s.ee.length j → (j, base + j, b) ∈ s.al
  tm : ∀ t, s.tm.get t = wr s.ents 0 (fun i => decide (i < s.ents.length)) t (tm0.get t)
section
variable {P : Program} {nest : Nest} {ops : List Oper} {base n : Nat} {tm0 : T Value} {h0 : AH} {s : RS}
theorem mkE_append {E : List Ent} {x : Ent} {j : Nat} (h : j < E.length) : mkE (E ++ [x]) j = mkE E j := by
  unfold mkE; rw [List.getElem?_append_left h]
theorem mkE_new {E : List Ent} {x : Ent} : mkE (E ++ [x]) E.length = x.mask := by
  unfold mkE; simp
theorem alOf_append {E : List Ent} {x : Ent} {j : Nat} (h : j < E.length) : alOf (E ++ [x]) j = alOf E j := by
  unfold alOf; rw [List.getElem?_append_left h]
theorem alOf_lt {E : List Ent} {j : Nat} {b : AObj} (h : alOf E j = some b) : j < E.length := by
  unfold alOf at h
  rcases Nat.lt_or_ge j E.length with h' | h'
  · exact h'
  · rw [List.getElem?_eq_none h'] at h; cases h
theorem Good.ee_lt (G : Good P nest ops base n tm0 h0 s) {m e : Nat} (h : s.ee[m]? = some e) : e < s.ents.length := by
  obtain ⟨x, hx, _⟩ := G.effs m e h
  exact (List.getElem?_eq_some_iff.1 hx).1
structure Ext (s : RS) (x : Ent) (ee' : List Nat) (hh' : List AH) : Prop where
  ee : ∀ m, m < s.ee.length → ee'[m]? = s.ee[m]?
  hh : ∀ k, k ≤ s.ee.length → hh'[k]? = s.hh[k]?
theorem Good.merged_iff (G : Good P nest ops base n tm0 h0 s) {x : Ent} {ee' : List Nat} {hh' : List AH} (X : Ext s x ee' hh') {k j : Nat} (hk : k ≤ s.ee.length) : Merged (s.ents ++ [x]) ee' k j ↔ Merged s.ents s.ee k j := by
  constructor
  · rintro ⟨m, e, hm, he, hb⟩
    rw [X.ee m (by omega)] at he
    exact ⟨m, e, hm, he, by rwa [mkE_append (G.ee_lt he)] at hb⟩
  · rintro ⟨m, e, hm, he, hb⟩
    exact ⟨m, e, hm, by rw [X.ee m (by omega)]; exact he, by rwa [mkE_append (G.ee_lt he)]⟩
theorem Good.alin (G : Good P nest ops base n tm0 h0 s) {x : Ent} {ee' : List Nat} {hh' : List AH} (X : Ext s x ee' hh') {k : Nat} (hk : k ≤ s.ee.length) {al : List (Nat × Nat × AObj)} (h : AlIn s.ents s.ee base k al) : AlIn (s.ents ++ [x]) ee' base k al := by
  intro j r b hm
  obtain ⟨h1, h2, h3⟩ := h j r b hm
  exact ⟨h1, by rw [alOf_append (alOf_lt h2)]; exact h2, fun hh => h3 ((G.merged_iff X hk).1 hh)⟩
theorem Good.keep (G : Good P nest ops base n tm0 h0 s) {x : Ent} {ee' : List Nat} {hh' : List AH} (X : Ext s x ee' hh') {j : Nat} {y : Ent} (hy : s.ents[j]? = some y)
    (hnew : y.want = true → y.kind = .read → ∀ k hk, s.ee.length < k → hh'[k]? = some hk → (∀ m e, m < k → ee'[m]? = some e → (mkE (s.ents ++ [x]) e).testBit j = false) → ∃ al, AlIn (s.ents ++ [x]) ee' base k al ∧ readA P (evA y.tm) y.o (withAl y.mask hk al) = .ok y.v) :
    EntOk P nest ops base n tm0 (s.ents ++ [x]) hh' ee' j y := by
  have K := G.ent j y hy
  have hj : j < s.ents.length := (List.getElem?_eq_some_iff.1 hy).1
  refine ⟨K.o, K.pre, ?_, ?_, ?_, K.dst, K.want, K.un, K.ok, ?_, K.alc, ?_, K.once⟩
  · intro m hm
    obtain ⟨e, he, hb, hlt, hor⟩ := K.clo m hm
    exact ⟨e, he, hb, hlt, by rw [mkE_append (by omega)]; exact hor⟩
  · intro j' z hj' hz
    rw [List.getElem?_append_left (by omega)] at hz
    exact K.ord j' z hj' hz
  · intro t
    rw [K.tm t, wr_append]
    simp only [Nat.zero_add]
    rw [show decide (s.ents.length < j) = false from by simp; omega]
    simp
  · intro hw hk
    obtain ⟨h1, h2⟩ := K.rd hw hk
    refine ⟨h1, fun k hk' hkk c1 c2 => ?_⟩
    rcases Nat.lt_or_ge s.ee.length k with hlt | hle
    · exact hnew hw hk k hk' hlt hkk c2
    · rw [X.hh k hle] at hkk
      obtain ⟨al, a1, a2⟩ := h2 k hk' hkk (fun m e hm hb => by
        have hml : m < s.ee.length := (List.getElem?_eq_some_iff.1 hm).1
        exact c1 m e (by rw [X.ee m hml]; exact hm) hb) (fun m e hm he => by
        have := c2 m e hm (by rw [X.ee m (by omega)]; exact he)
        rwa [mkE_append (G.ee_lt he)] at this)
      exact ⟨al, G.alin X hle a1, a2⟩
  · intro hw hk
    obtain ⟨h1, k, hk1, hk2, e1, e2, e3, e4, al, a1, a2⟩ := K.eff hw hk
    have hkl : k < s.ee.length := (List.getElem?_eq_some_iff.1 e1).1
    refine ⟨h1, k, hk1, hk2, by rw [X.ee k hkl]; exact e1, by rw [X.hh k (by omega)]; exact e2, by rw [X.hh (k + 1) (by omega)]; exact e3, ?_, al, G.alin X (by omega) a1, a2⟩
    intro m e hm he
    exact e4 m e hm (by rw [← X.ee m (by omega)]; exact he)
theorem orderOk_ok {o : Oper} {mask : Nat} : ∀ {E : List Ent} {i : Nat}, orderOk ops o mask E i = true → ∀ j y, E[j]? = some y → clash ops y.o o = true → mask.testBit (i + j) = true
  | [], i, _, j, y, hy, _ => by simp at hy
  | x :: E, i, h, j, y, hy, hc => by
    simp only [orderOk, Bool.and_eq_true, Bool.or_eq_true, Bool.not_eq_true'] at h
    cases j with
    | zero =>
      simp at hy; subst hy
      rcases h.1 with h1 | h1
      · rw [hc] at h1; cases h1
      · exact h1
    | succ j =>
      have := orderOk_ok h.2 j y (by simpa using hy) hc
      rwa [show i + 1 + j = i + (j + 1) by omega] at this
theorem readsOk_ok {mask : Nat} {al : List (Nat × Nat × AObj)} {h : AH} : ∀ {E : List Ent} {i : Nat}, readsOk P mask al h E i = true → ∀ j y, E[j]? = some y → isReadE y = true → mask.testBit (i + j) = false → sameRead P y al h = true
  | [], i, _, j, y, hy, _, _ => by simp at hy
  | x :: E, i, hr, j, y, hy, hc, hm => by
    simp only [readsOk, Bool.and_eq_true, Bool.or_eq_true, Bool.not_eq_true'] at hr
    cases j with
    | zero =>
      simp at hy; subst hy
      rcases hr.1 with (h1 | h1) | h1
      · rw [hc] at h1; cases h1
      · rw [show mask.testBit i = false from hm] at h1; cases h1
      · exact h1
    | succ j => exact readsOk_ok hr.2 j y (by simpa using hy) hc (by rwa [show i + 1 + j = i + (j + 1) by omega])
theorem eqA_free {h h' : AH} {t : TypeId} {x y : Value} {d : TypeDesc} (hu : P.underlying t = some d) (hd : litD d = true) (n : Nat) : eqA P h n t x y = eqA P h' n t x y := by
  cases n with
  | zero => rfl
  | succ n =>
    unfold eqA
    simp only [undA, hu, orNo, bind, Except.bind]
    unfold litD at hd
    split at hd
    · cases x <;> cases y <;> rfl
    · cases x <;> cases y <;> rfl
    · cases x <;> cases y <;> rfl
    · cases hd
theorem readA_free {ρ : Operand → Value} {o : Oper} {h h' : AH} (hf : freeOp P o.op = true) : readA P ρ o h = readA P ρ o h' := by
  unfold readA
  unfold freeOp at hf
  split at hf
  · rename_i x he; simp only [he]
  · rename_i x he; simp only [he]
  · rename_i he; simp only [he]
  · rename_i he; simp only [he]
  · rename_i he; simp only [he]
  · rename_i he; simp only [he]
  · rename_i he; simp only [he]
  · rename_i he; simp only [he]
  · rename_i he; simp only [he]
  · rename_i op t x y yt he
    simp only [he]
    have hb : binA P h op t (ρ x) (ρ y) = binA P h' op t (ρ x) (ρ y) := by
      unfold binA
      have e : ∀ a b, eqA P h 10000 t a b = eqA P h' 10000 t a b := by
        intro a b
        split at hf
        · rename_i d hu; exact eqA_free hu hf _
        · cases hf
      split <;> first | rfl | simp only [e]
    rw [hb]
  · cases hf
theorem sameRead_ok {e : Ent} {al : List (Nat × Nat × AObj)} {h : AH} (hs : sameRead P e al h = true) (h1 : ∃ hx, readA P (evA e.tm) e.o hx = .ok e.v) : readA P (evA e.tm) e.o (withAl e.mask h al) = .ok e.v := by
  unfold sameRead at hs
  rw [Bool.or_eq_true] at hs
  rcases hs with hs | hs
  · obtain ⟨hx, h1⟩ := h1
    rw [readA_free hs]; exact h1
  · split at hs
    · rename_i v hv; rw [hv, veq_eq _ _ _ hs]
    · cases hs
end
end Go.Ev

namespace Go.Ev
set_option linter.unusedVariables false
set_option linter.unusedSimpArgs false
variable {η : Nat → Value}
section
variable {P : Program} {nest : Nest} {ops : List Oper} {base n : Nat} {tm0 : T Value} {h0 : AH} {s : RS}
theorem putT_get {n : Nat} {tm tm2 : T Value} {dst : Option Tmp} {v : Value} (h : putT n tm dst v = .ok tm2) : (∀ d, dst = some d → d < n) ∧ ∀ t, tm2.get t = if dst = some t then some v else tm.get t := by
  cases dst with
  | none => simp only [putT, okk] at h; subst h; exact ⟨(fun d hd => by cases hd), (fun t => by simp)⟩
  | some d =>
    simp only [putT] at h
    rw [ite_no', okk] at h
    obtain ⟨hd, rfl⟩ := h
    refine ⟨fun e he => by cases he; exact hd, fun t => ?_⟩
    rw [T.get_set]
    by_cases e : t = d
    · subst e; simp
    · rw [if_neg e, if_neg (fun hc => e (by cases hc; rfl))]
theorem tm_next (G : Good P nest ops base n tm0 h0 s) {x : Ent} {tm2 : T Value} (h : putT n s.tm x.o.dst x.v = .ok tm2) (t : Tmp) : tm2.get t = wr (s.ents ++ [x]) 0 (fun i => decide (i < (s.ents ++ [x]).length)) t (tm0.get t) := by
  rw [(putT_get h).2 t, wr_append, G.tm t]
  simp only [Nat.zero_add, List.length_append, List.length_singleton]
  have e : wr s.ents 0 (fun i => decide (i < s.ents.length)) t (tm0.get t) = wr s.ents 0 (fun i => decide (i < s.ents.length + 1)) t (tm0.get t) := by
    refine wr_congr fun j y hy _ => ?_
    have := (List.getElem?_eq_some_iff.1 hy).1
    simp; omega
  rw [e]
  by_cases hd : x.o.dst = some t
  · simp [hd]
  · simp [hd]
theorem tm_same (x : Ent) (G : Good P nest ops base n tm0 h0 s) (t : Tmp) : s.tm.get t = wr (s.ents ++ [x]) 0 (fun i => decide (i < s.ents.length)) t (tm0.get t) := by
  rw [wr_append, G.tm t]
  simp
theorem msk_next {x : Ent} {mask : Nat} (hmask : x.mask = mask) (hm : ∀ j : Nat, (s.masks[j]?).getD 0 = mkE s.ents j) (hl : s.masks.length = s.ents.length) (j : Nat) : ((s.masks ++ [mask])[j]?).getD 0 = mkE (s.ents ++ [x]) j := by
  rcases Nat.lt_trichotomy j s.ents.length with h | h | h
  · rw [mkE_append h, List.getElem?_append_left (by omega)]; exact hm j
  · subst h
    rw [mkE_new, List.getElem?_append_right (by omega), hl]; simp [hmask]
  · unfold mkE
    rw [List.getElem?_eq_none (by rw [List.length_append]; simp; omega), List.getElem?_eq_none (by rw [List.length_append]; simp; omega)]
    rfl
theorem withAl_next {mask : Nat} {h : AH} : ∀ (al : List (Nat × Nat × AObj)), (withAl mask h al).next = h.next
  | [] => rfl
  | (i, r, b) :: l => by
    simp only [withAl]
    split
    · exact withAl_next l
    · exact withAl_next l
theorem withAl_get {mask : Nat} {h : AH} {r : Nat} {a : AObj} : ∀ (al : List (Nat × Nat × AObj)), (withAl mask h al).objs.get r = some a → h.objs.get r = some a ∨ ∃ j, (j, r, a) ∈ al ∧ mask.testBit j = true
  | [], hg => .inl hg
  | (i, r', b) :: l, hg => by
    simp only [withAl] at hg
    split at hg
    · rename_i hm
      simp only [putA, T.get_set] at hg
      by_cases e : r = r'
      · rw [if_pos e] at hg; cases hg; subst e
        exact .inr ⟨i, by simp, hm⟩
      · rw [if_neg e] at hg
        rcases withAl_get l hg with h1 | ⟨j, h1, h2⟩
        · exact .inl h1
        · exact .inr ⟨j, by simp [h1], h2⟩
    · rcases withAl_get l hg with h1 | ⟨j, h1, h2⟩
      · exact .inl h1
      · exact .inr ⟨j, by simp [h1], h2⟩
theorem Good.ext_same (G : Good P nest ops base n tm0 h0 s) (x : Ent) : Ext s x s.ee s.hh := ⟨fun _ _ => rfl, fun _ _ => rfl⟩
theorem Good.quiet (G : Good P nest ops base n tm0 h0 s) {x : Ent} {tm2 : T Value} {al2 : List (Nat × Nat × AObj)} (hx : EntOk P nest ops base n tm0 (s.ents ++ [x]) s.hh s.ee s.ents.length x) (hp : putT n s.tm x.o.dst x.v = .ok tm2)
    (hal : ∀ p, p ∈ al2 ↔ p ∈ s.al ∨ ∃ b, x.obj = some b ∧ p = (s.ents.length, base + s.ents.length, b)) : Good P nest ops base n tm0 h0 { s with tm := tm2, al := al2, masks := s.masks ++ [x.mask], ents := s.ents ++ [x] } := by
  have X := G.ext_same x
  have hnm : ∀ k, k ≤ s.ee.length → ¬ Merged (s.ents ++ [x]) s.ee k s.ents.length := by
    rintro k hk ⟨m, e, hm, he, hb⟩
    have hel := G.ee_lt he
    rw [mkE_append hel] at hb
    obtain ⟨y, hy, _⟩ := G.effs m e he
    have K := G.ent e y hy
    have hmk : mkE s.ents e = y.mask := by unfold mkE; rw [hy]; rfl
    rw [hmk] at hb
    -- the bits of a mask lie before its entry
    have below : ∀ (e : Nat) (y : Ent), s.ents[e]? = some y → ∀ m, y.mask.testBit m = true → m < e := by
      intro e
      induction e using Nat.strongRecOn with
      | _ e ih =>
        intro y hy m hm
        obtain ⟨ed, _, _, hlt, hor⟩ := (G.ent e y hy).clo m hm
        rcases hor with rfl | hor
        · exact hlt
        · have hl : ed.on < s.ents.length := by have := (List.getElem?_eq_some_iff.1 hy).1; omega
          have hz : s.ents[ed.on]? = some s.ents[ed.on] := List.getElem?_eq_getElem hl
          have : mkE s.ents ed.on = s.ents[ed.on].mask := by unfold mkE; rw [hz]; rfl
          rw [this] at hor
          have := ih ed.on hlt _ hz m hor
          omega
    have := below e y hy _ hb
    omega
  refine ⟨msk_next rfl G.msk G.mlen, by simp [G.mlen], G.hlen, G.hd, G.hl, ?_, ?_, G.inc, ?_, ?_, tm_next G hp⟩
  · intro j y hy
    rcases Nat.lt_trichotomy j s.ents.length with h | h | h
    · rw [List.getElem?_append_left h] at hy
      refine G.keep X hy (fun _ _ k hk hlt hkk _ => ?_)
      have := (List.getElem?_eq_some_iff.1 hkk).1
      rw [G.hlen] at this; omega
    · subst h
      rw [List.getElem?_append_right (Nat.le_refl _)] at hy
      simp at hy; subst hy; exact hx
    · rw [List.getElem?_eq_none (by rw [List.length_append]; simp; omega)] at hy; cases hy
  · intro m e he
    obtain ⟨y, h1, h2⟩ := G.effs m e he
    exact ⟨y, by rw [List.getElem?_append_left (List.getElem?_eq_some_iff.1 h1).1]; exact h1, h2⟩
  · intro j r b hm
    rcases (hal _).1 hm with hm | ⟨b', hb', he⟩
    · exact G.alin X (Nat.le_refl _) G.al j r b hm
    · cases he
      refine ⟨rfl, ?_, hnm _ (Nat.le_refl _)⟩
      unfold alOf
      simp [hb']
  · intro j b hb hnm'
    rcases Nat.lt_trichotomy j s.ents.length with h | h | h
    · rw [alOf_append h] at hb
      exact (hal _).2 (.inl (G.alc j b hb (fun hm => hnm' ((G.merged_iff X (Nat.le_refl _)).2 hm))))
    · subst h
      unfold alOf at hb
      simp at hb
      exact (hal _).2 (.inr ⟨b, hb, rfl⟩)
    · have := alOf_lt hb; rw [List.length_append] at this; simp at this; omega
theorem Good.loud (G : Good P nest ops base n tm0 h0 s) {x : Ent} {tm2 : T Value} {h' : AH} (hx : EntOk P nest ops base n tm0 (s.ents ++ [x]) (s.hh ++ [h']) (s.ee ++ [s.ents.length]) s.ents.length x) (hp : putT n s.tm x.o.dst x.v = .ok tm2)
    (hw : x.want = true) (hk : x.kind = .effect) (hobj : x.obj = none) (hrd : readsOk P x.mask (s.al.filter fun p => !x.mask.testBit p.1) h' s.ents 0 = true) :
    Good P nest ops base n tm0 h0 { tm := tm2, h := h', hh := s.hh ++ [h'], ee := s.ee ++ [s.ents.length], al := s.al.filter fun p => !x.mask.testBit p.1, masks := s.masks ++ [x.mask], ents := s.ents ++ [x] } := by
  have X : Ext s x (s.ee ++ [s.ents.length]) (s.hh ++ [h']) := ⟨fun m hm => List.getElem?_append_left hm, fun k hk => List.getElem?_append_left (by rw [G.hlen]; omega)⟩
  have mlast : ∀ j, Merged (s.ents ++ [x]) (s.ee ++ [s.ents.length]) (s.ee.length + 1) j ↔ Merged s.ents s.ee s.ee.length j ∨ x.mask.testBit j = true := by
    intro j
    constructor
    · rintro ⟨m, e, hm, he, hb⟩
      rcases Nat.lt_or_ge m s.ee.length with hlt | hge
      · exact .inl ((G.merged_iff X (Nat.le_refl _)).1 ⟨m, e, hlt, he, hb⟩)
      · have : m = s.ee.length := by omega
        subst this
        rw [List.getElem?_append_right (Nat.le_refl _)] at he
        simp at he; subst he
        rw [mkE_new] at hb
        exact .inr hb
    · rintro (hm | hb)
      · obtain ⟨m, e, h1, h2, h3⟩ := (G.merged_iff X (Nat.le_refl _)).2 hm
        exact ⟨m, e, by omega, h2, h3⟩
      · exact ⟨s.ee.length, s.ents.length, by omega, by rw [List.getElem?_append_right (Nat.le_refl _)]; simp, by rw [mkE_new]; exact hb⟩
  have alin : AlIn (s.ents ++ [x]) (s.ee ++ [s.ents.length]) base (s.ee.length + 1) (s.al.filter fun p => !x.mask.testBit p.1) := by
    intro j r b hm
    simp only [List.mem_filter, Bool.not_eq_true'] at hm
    obtain ⟨h1, h2, h3⟩ := G.al j r b hm.1
    refine ⟨h1, by rw [alOf_append (alOf_lt h2)]; exact h2, fun hmm => ?_⟩
    rcases (mlast j).1 hmm with hmm | hmm
    · exact h3 hmm
    · rw [hmm] at hm; exact absurd hm.2 (by simp)
  refine ⟨msk_next rfl G.msk G.mlen, by simp [G.mlen], by simp [G.hlen], by rw [List.getElem?_append_left (by rw [G.hlen]; omega)]; exact G.hd, ?_, ?_, ?_, ?_, by simpa using alin, ?_, tm_next G hp⟩
  · simp only [List.length_append, List.length_singleton]
    rw [List.getElem?_append_right (by rw [G.hlen]; omega), G.hlen]; simp
  · intro j y hy
    rcases Nat.lt_trichotomy j s.ents.length with h | h | h
    · rw [List.getElem?_append_left h] at hy
      refine G.keep X hy (fun hyw hyk k hk hlt hkk c2 => ?_)
      have hkl := (List.getElem?_eq_some_iff.1 hkk).1
      simp only [List.length_append, List.length_singleton, G.hlen] at hkl
      have hke : k = s.ee.length + 1 := by omega
      subst hke
      rw [List.getElem?_append_right (by rw [G.hlen]; omega), G.hlen] at hkk
      simp at hkk; subst hkk
      have hnb := c2 s.ee.length s.ents.length (by omega) (by rw [List.getElem?_append_right (Nat.le_refl _)]; simp)
      rw [mkE_new] at hnb
      have hsr := readsOk_ok hrd j y hy (by simp [isReadE, hyw, hyk]) (by simpa using hnb)
      exact ⟨_, alin, sameRead_ok hsr ((G.ent j y hy).once hyw hyk)⟩
    · subst h
      rw [List.getElem?_append_right (Nat.le_refl _)] at hy
      simp at hy; subst hy; exact hx
    · rw [List.getElem?_eq_none (by rw [List.length_append]; simp; omega)] at hy; cases hy
  · intro m e he
    rcases Nat.lt_or_ge m s.ee.length with hlt | hge
    · rw [X.ee m hlt] at he
      obtain ⟨y, h1, h2⟩ := G.effs m e he
      exact ⟨y, by rw [List.getElem?_append_left (List.getElem?_eq_some_iff.1 h1).1]; exact h1, h2⟩
    · have hl := (List.getElem?_eq_some_iff.1 he).1
      simp only [List.length_append, List.length_singleton] at hl
      have : m = s.ee.length := by omega
      subst this
      rw [List.getElem?_append_right (Nat.le_refl _)] at he
      simp at he; subst he
      exact ⟨x, by simp, hw, hk⟩
  · intro m m' e e' hmm he he'
    have hl := (List.getElem?_eq_some_iff.1 he').1
    simp only [List.length_append, List.length_singleton] at hl
    rw [X.ee m (by omega)] at he
    rcases Nat.lt_or_ge m' s.ee.length with hlt | hge
    · rw [X.ee m' hlt] at he'
      exact G.inc m m' e e' hmm he he'
    · have : m' = s.ee.length := by omega
      subst this
      rw [List.getElem?_append_right (Nat.le_refl _)] at he'
      simp at he'; subst he'
      exact G.ee_lt he
  · intro j b hb hnm'
    simp only [List.length_append, List.length_singleton] at hnm'
    rcases Nat.lt_trichotomy j s.ents.length with h | h | h
    · rw [alOf_append h] at hb
      have hno : ¬ (Merged s.ents s.ee s.ee.length j ∨ x.mask.testBit j = true) := fun hh => hnm' ((mlast j).2 hh)
      have hm := G.alc j b hb (fun hh => hno (.inl hh))
      simp only [List.mem_filter, Bool.not_eq_true']
      exact ⟨hm, by cases hx : x.mask.testBit j <;> first | rfl | exact absurd (.inr hx) hno⟩
    · subst h
      unfold alOf at hb
      simp [hobj] at hb
    · have := alOf_lt hb; rw [List.length_append] at this; simp at this; omega
theorem regStep_good (G : Good P nest ops base n tm0 h0 s) {o : Oper} {s' : RS} (ho : ops[s.ents.length]? = some o) (hs : regStep P n base nest ops s.ents.length o s = .ok s') : Good P nest ops base n tm0 h0 s' ∧ s'.ents.length = s.ents.length + 1 := by
  unfold regStep at hs
  simp only [bind_ok] at hs
  obtain ⟨mask, hmask, hs⟩ := hs
  rw [ite_no] at hs
  obtain ⟨hord, hs⟩ := hs
  have hord : orderOk ops o mask s.ents 0 = true := by simpa using hord
  simp only [bind_ok] at hs
  obtain ⟨want, hwant, hs⟩ := hs
  obtain ⟨m1, m2⟩ := maskOf_ok hmask
  have clo : ∀ (x : Ent) m, mask.testBit m = true → ∃ e ∈ o.after.toList, Region.binds .any e = true ∧ e.on < s.ents.length ∧ (m = e.on ∨ (mkE (s.ents ++ [x]) e.on).testBit m = true) := by
    intro x m hm
    obtain ⟨e, he, hb, hlt, hor⟩ := m2 m hm
    exact ⟨e, he, hb, hlt, by rw [mkE_append hlt, ← G.msk]; exact hor⟩
  have ord : ∀ (x : Ent) j' y, j' < s.ents.length → (s.ents ++ [x])[j']? = some y → clash ops y.o o = true → mask.testBit j' = true := by
    intro x j' y hj hy hc
    rw [List.getElem?_append_left hj] at hy
    simpa using orderOk_ok hord j' y hy hc
  cases want with
  | false =>
    simp only [Bool.not_false, if_true, bind_ok] at hs
    obtain ⟨tm, htm, hs⟩ := hs
    rw [okk] at hs; subst hs
    refine ⟨Good.quiet G (x := { o, mask, tm := s.tm, want := false, v := undef, kind := .read, obj := none }) ⟨ho, m1, clo _, ord _, tm_same _ G, (putT_get htm).1, hwant, fun _ => ⟨rfl, rfl⟩, fun h => (by cases h), fun h => (by cases h), fun h => (by cases h), fun h => (by cases h), fun h => (by cases h)⟩ htm (fun p => by simp), by simp⟩
  | true =>
    simp only [Bool.not_true, Bool.false_eq_true, if_false] at hs
    rw [ite_no] at hs
    obtain ⟨hok, hs⟩ := hs
    have hok : okOps P o = true := by simpa using hok
    split at hs
    · simp only [bind_ok] at hs
      obtain ⟨v, hv, hs⟩ := hs
      rw [ite_no] at hs
      obtain ⟨hun, hs⟩ := hs
      rw [Bool.not_eq_true, Bool.not_eq_false'] at hun
      have hun : ∀ (a : Nat) (b : AH), (a, b) ∈ s.ee.zip s.hh → mask.testBit a = true ∨ sameRead P { o, mask, tm := s.tm, want := true, v, kind := .read, obj := none } s.al b = true := fun a b hm => by
        have := List.all_eq_true.1 hun (a, b) hm
        simpa [Bool.or_eq_true] using this
      simp only [bind_ok] at hs
      obtain ⟨tm, htm, hs⟩ := hs
      rw [okk] at hs; subst hs
      have X := G.ext_same { o, mask, tm := s.tm, want := true, v, kind := .read, obj := none }
      refine ⟨Good.quiet G (x := { o, mask, tm := s.tm, want := true, v, kind := .read, obj := none }) ⟨ho, m1, clo _, ord _, tm_same _ G, (putT_get htm).1, hwant, fun h => (by cases h), fun _ => hok, fun _ _ => ⟨rfl, fun k hk hkk c1 c2 => ?_⟩, fun _ h => (by cases h), fun _ h => (by cases h), fun _ _ => ⟨_, hv⟩⟩ htm (fun p => by simp), by simp⟩
      have hkl := (List.getElem?_eq_some_iff.1 hkk).1
      rw [G.hlen] at hkl
      have halk : AlIn (s.ents ++ [{ o, mask, tm := s.tm, want := true, v, kind := .read, obj := none }]) s.ee base k s.al := by
        have := G.alin X (Nat.le_refl _) G.al
        intro j r b hm
        obtain ⟨h1, h2, h3⟩ := this j r b hm
        exact ⟨h1, h2, fun ⟨m, e, hm, q⟩ => h3 ⟨m, e, by omega, q⟩⟩
      rcases Nat.lt_or_ge k s.ee.length with hlt | hge
      · have hz : (s.ee[k], hk) ∈ s.ee.zip s.hh := by
          have hk2 : k < s.hh.length := by rw [G.hlen]; omega
          have : s.hh[k] = hk := by rw [List.getElem?_eq_getElem hk2] at hkk; exact Option.some.inj hkk
          rw [← this]
          have hz := List.getElem_mem (l := s.ee.zip s.hh) (n := k) (by rw [List.length_zip, G.hlen]; omega)
          rwa [List.getElem_zip] at hz
        rcases hun _ _ hz with h1 | h1
        · exact absurd (c1 k s.ee[k] (List.getElem?_eq_getElem hlt) h1) (Nat.lt_irrefl _)
        · exact ⟨s.al, halk, sameRead_ok h1 ⟨_, hv⟩⟩
      · have : k = s.ee.length := by omega
        subst this
        rw [G.hl] at hkk; cases hkk
        exact ⟨s.al, halk, hv⟩
    · simp only [bind_ok] at hs
      obtain ⟨⟨v, b⟩, hv, tm, htm, hs⟩ := hs
      rw [okk] at hs; subst hs
      refine ⟨Good.quiet G (x := { o, mask, tm := s.tm, want := true, v, kind := .alloc, obj := some b }) ⟨ho, m1, clo _, ord _, tm_same _ G, (putT_get htm).1, hwant, fun h => (by cases h), fun _ => hok, fun _ h => (by cases h), fun _ _ => ⟨b, rfl, hv⟩, fun _ h => (by cases h), fun _ h => (by cases h)⟩ htm (fun p => ?_), by simp⟩
      simp only [List.mem_cons]
      constructor
      · rintro (rfl | h)
        · exact .inr ⟨b, rfl, rfl⟩
        · exact .inl h
      · rintro (h | ⟨b', hb', rfl⟩)
        · exact .inr h
        · cases hb'; exact .inl rfl
    · rw [ite_no] at hs
      obtain ⟨hch, hs⟩ := hs
      rw [Bool.not_eq_true, Bool.not_eq_false'] at hch
      have hch : ∀ x ∈ s.ee, mask.testBit x = true := fun x hm => List.all_eq_true.1 hch x hm
      simp only [bind_ok] at hs
      obtain ⟨⟨v, h'⟩, hv, hs⟩ := hs
      rw [ite_no] at hs
      obtain ⟨hrd, hs⟩ := hs
      have hrd : readsOk P mask (s.al.filter fun p => !mask.testBit p.1) h' s.ents 0 = true := by simpa using hrd
      simp only [bind_ok] at hs
      obtain ⟨tm, htm, hs⟩ := hs
      rw [okk] at hs; subst hs
      have X : Ext s { o, mask, tm := s.tm, want := true, v, kind := .effect, obj := none } (s.ee ++ [s.ents.length]) (s.hh ++ [h']) := ⟨fun m hm => List.getElem?_append_left hm, fun k hk => List.getElem?_append_left (by rw [G.hlen]; omega)⟩
      refine ⟨Good.loud G (x := { o, mask, tm := s.tm, want := true, v, kind := .effect, obj := none }) ⟨ho, m1, clo _, ord _, tm_same _ G, (putT_get htm).1, hwant, fun h => (by cases h), fun _ => hok, fun _ h => (by cases h), fun _ h => (by cases h), fun _ _ => ⟨rfl, s.ee.length, s.h, h', ?_, ?_, ?_, ?_, s.al, G.alin X (Nat.le_refl _) G.al, hv⟩, fun _ h => (by cases h)⟩ htm rfl rfl rfl hrd, by simp⟩
      · rw [List.getElem?_append_right (Nat.le_refl _)]; simp
      · rw [List.getElem?_append_left (by rw [G.hlen]; omega)]; exact G.hl
      · rw [List.getElem?_append_right (by rw [G.hlen]; omega), G.hlen]; simp
      · intro m e hm he
        rw [List.getElem?_append_left hm] at he
        exact hch e (List.mem_of_getElem? he)
theorem regLoop_good : ∀ {l : List Oper} {s s' : RS}, Good P nest ops base n tm0 h0 s → (∀ j o, l[j]? = some o → ops[s.ents.length + j]? = some o) → regLoop P n base nest ops l s.ents.length s = .ok s' → Good P nest ops base n tm0 h0 s' ∧ s'.ents.length = s.ents.length + l.length
  | [], s, s', G, _, hr => by simp only [regLoop, okk] at hr; subst hr; exact ⟨G, by simp⟩
  | o :: l, s, s', G, ho, hr => by
    simp only [regLoop, bind_ok] at hr
    obtain ⟨s1, h1, hr⟩ := hr
    obtain ⟨G1, hl1⟩ := regStep_good G (ho 0 o rfl) h1
    rw [← hl1] at hr
    obtain ⟨G2, hl2⟩ := regLoop_good G1 (fun j o' hj => by have := ho (j + 1) o' (by simpa using hj); rw [hl1]; rwa [show s.ents.length + (j + 1) = s.ents.length + 1 + j by omega] at this) hr
    exact ⟨G2, by rw [hl2, hl1, List.length_cons]; omega⟩
theorem Good.start (h0 : AH) : Good P nest ops base n tm0 h0 { tm := tm0, h := h0, hh := [h0], ee := [], al := [], masks := [], ents := [] } :=
  ⟨fun j => by simp [mkE], rfl, rfl, rfl, rfl, fun j x h => by simp at h, fun m e h => by simp at h, fun m m' e e' _ h => by simp at h, fun j r b h => by simp at h, fun j b h => by simp [alOf] at h, fun t => rfl⟩
end
end Go.Ev

namespace Go.Ev
set_option linter.unusedVariables false
set_option linter.unusedSimpArgs false
variable {η : Nat → Value}
def tmS : List Ent → Nat → (Nat → Bool) → T Value → T Value
  | [], _, _, tm => tm
  | x :: l, i, p, tm => tmS l (i + 1) p (match p i, x.o.dst with | true, some d => tm.set d x.v | _, _ => tm)
theorem tmS_get {p : Nat → Bool} {t : Tmp} : ∀ {l : List Ent} {i : Nat} {tm : T Value}, (tmS l i p tm).get t = wr l i p t (tm.get t)
  | [], i, tm => rfl
  | x :: l, i, tm => by
    simp only [tmS, wr]
    rw [tmS_get]
    congr 1
    cases hp : p i with
    | false => simp
    | true =>
      cases hd : x.o.dst with
      | none => simp
      | some d =>
        simp only [Bool.true_and]
        rw [T.get_set]
        by_cases e : t = d
        · subst e; simp
        · have : ¬ (d = t) := fun h => e h.symm
          simp [e, this]
theorem TR.congr {ρ : Env} {tm tm2 : T Value} {n : Nat} {tmps : Array Value} (h : ∀ t, tm2.get t = tm.get t) (k : TR η ρ tm n tmps) : TR η ρ tm2 n tmps :=
  ⟨k.1, fun t ht => by rw [h]; exact k.2.1 t ht, fun t ht => by rw [h]; exact k.2.2 t ht⟩
def InS (E : List Ent) (ee : List Nat) (base : Nat) (S : Nat → Bool) (k : Nat) (hk : AH) (r : Nat) (a : AObj) : Prop :=
  hk.objs.get r = some a ∨ ∃ j, r = base + j ∧ alOf E j = some a ∧ S j = true ∧ ¬ Merged E ee k j
structure HOk (η : Nat → Value) (B : Bd) (E : List Ent) (ee : List Nat) (base N : Nat) (ρ0 : Env) (h : AH) (w0 : World) (S : Nat → Bool) (ρ : Env) (w : World) (k : Nat) (hk : AH) : Prop where
  obj : ∀ r a, InS E ee base S k hk r a → ∃ b d m o, ρ r = some (b, d, m) ∧ w.heap[b]? = some o ∧ OR η ρ a d m o ∧ (ownO a = true → B.n ≤ b)
  inj : ∀ r r' a a' b d m d' m', InS E ee base S k hk r a → InS E ee base S k hk r' a' → ρ r = some (b, d, m) → ρ r' = some (b, d', m') → r = r' ∨ B.S b
  sh : ∀ r a b d m, InS E ee base S k hk r a → ρ r = some (b, d, m) → B.S b → shO a = true
  new : ∀ j a b d m, alOf E j = some a → S j = true → ¬ Merged E ee k j → ρ (base + j) = some (b, d, m) → ¬ B.S b
  nx : base + N ≤ hk.next
  fresh : FreshR ρ hk.next
  abs : ∀ j, j < N → ¬ Merged E ee k j → hk.objs.get (base + j) = none
  own : ∀ b, (∃ r a d m, InS E ee base S k hk r a ∧ ownO a = true ∧ ρ r = some (b, d, m)) → Own ρ0 h b ∨ w0.heap.size ≤ b
  inn : ∀ b, (∃ r a d m, InS E ee base S k hk r a ∧ ρ r = some (b, d, m)) → (∃ r a d m, h.objs.get r = some a ∧ ρ0 r = some (b, d, m)) ∨ w0.heap.size ≤ b
structure RInv (η : Nat → Value) (P : Program) (B : Bd) (s : RS) (base N n : Nat) (tm0 : T Value) (ρ0 : Env) (h : AH) (w0 : World) (S : Nat → Bool) (ρ : Env) (tmps : Array Value) (w : World) (k : Nat) (hk : AH) : Prop where
  clo : ∀ j x, s.ents[j]? = some x → S j = true → ∀ e ∈ x.o.after.toList, Region.binds .any e = true → S e.on = true
  lt : ∀ j, S j = true → j < N
  tmr : TR η ρ (tmS s.ents 0 S tm0) n tmps
  hhk : s.hh[k]? = some hk
  kle : k ≤ s.ee.length
  ks : ∀ m e, s.ee[m]? = some e → (S e = true ↔ m < k)
  H : HOk η B s.ents s.ee base N ρ0 h w0 S ρ w k hk
  unb : ∀ j, j < N → (S j = false ∨ alOf s.ents j = none) → ρ (base + j) = none
  le : Env.le ρ0 ρ
  old : ∀ r, r < base → ρ r = ρ0 r
  glob : GR P ρ
  fr : Fr ρ0 h w0 w
  low : B.n ≤ w.heap.size
section
variable {P : Program} {B : Bd} {nest : Nest} {ops : Array Oper} {base N n : Nat} {tm0 : T Value} {h0 : AH} {s : RS} {ρ0 : Env} {h : AH} {w0 : World} {S : Nat → Bool} {ρ : Env} {tmps : Array Value} {w : World} {k : Nat} {hk : AH}
theorem mkE_of {E : List Ent} {j : Nat} {x : Ent} (h : E[j]? = some x) : mkE E j = x.mask := by unfold mkE; rw [h]; rfl
theorem alOf_of {E : List Ent} {j : Nat} {x : Ent} (h : E[j]? = some x) : alOf E j = x.obj := by unfold alOf; rw [h]; rfl
theorem RInv.mask (G : Good P nest ops.toList base n tm0 h0 s) (I : RInv η P B s base N n tm0 ρ0 h w0 S ρ tmps w k hk) : ∀ (j : Nat) (x : Ent), s.ents[j]? = some x → (∀ e ∈ x.o.after.toList, Region.binds .any e = true → S e.on = true) → ∀ m, x.mask.testBit m = true → S m = true := by
  intro j
  induction j using Nat.strongRecOn with
  | _ j ih =>
    intro x hx hp m hm
    obtain ⟨e, he, hb, hlt, hor⟩ := (G.ent j x hx).clo m hm
    have hse := hp e he hb
    rcases hor with rfl | hor
    · exact hse
    · have hl : e.on < s.ents.length := by have := (List.getElem?_eq_some_iff.1 hx).1; omega
      have hz : s.ents[e.on]? = some s.ents[e.on] := List.getElem?_eq_getElem hl
      rw [mkE_of hz] at hor
      exact ih e.on hlt _ hz (I.clo _ _ hz hse) m hor
theorem RInv.mask' (G : Good P nest ops.toList base n tm0 h0 s) (I : RInv η P B s base N n tm0 ρ0 h w0 S ρ tmps w k hk) {j : Nat} {x : Ent} (hx : s.ents[j]? = some x) (hS : S j = true) : ∀ m, x.mask.testBit m = true → S m = true :=
  I.mask G j x hx (I.clo j x hx hS)
theorem RInv.not_merged (G : Good P nest ops.toList base n tm0 h0 s) (I : RInv η P B s base N n tm0 ρ0 h w0 S ρ tmps w k hk) {i : Nat} (hi : S i = false) : ¬ Merged s.ents s.ee k i := by
  rintro ⟨m, e, hm, he, hb⟩
  have hse := (I.ks m e he).2 hm
  obtain ⟨y, hy, _⟩ := G.effs m e he
  rw [mkE_of hy] at hb
  have := I.mask' G hy hse i hb
  rw [hi] at this; cases this
theorem RInv.sub (I : RInv η P B s base N n tm0 ρ0 h w0 S ρ tmps w k hk) {mask : Nat} {al : List (Nat × Nat × AObj)} (hal : AlIn s.ents s.ee base k al) (hm : ∀ m, mask.testBit m = true → S m = true) :
    (∀ r a, (withAl mask hk al).objs.get r = some a → InS s.ents s.ee base S k hk r a) ∧ Pre η P ρ B (withAl mask hk al) w := by
  have hin : ∀ r a, (withAl mask hk al).objs.get r = some a → InS s.ents s.ee base S k hk r a := by
    intro r a hg
    rcases withAl_get al hg with h1 | ⟨j, h1, h2⟩
    · exact .inl h1
    · obtain ⟨e1, e2, e3⟩ := hal j r a h1
      exact .inr ⟨j, e1, e2, hm j h2, e3⟩
  refine ⟨hin, ⟨⟨fun r a hg => I.H.obj r a (hin r a hg), fun r r' a a' b d m d' m' h1 h2 => I.H.inj r r' a a' b d m d' m' (hin _ _ h1) (hin _ _ h2), fun r a b d m hg => I.H.sh r a b d m (hin r a hg)⟩, ?_, I.glob, I.low⟩⟩
  intro r hr
  rw [withAl_next] at hr
  exact I.H.fresh r hr
theorem wr_agree (G : Good P nest ops.toList base n tm0 h0 s) (I : RInv η P B s base N n tm0 ρ0 h w0 S ρ tmps w k hk) {i : Nat} {x : Ent} (hx : s.ents[i]? = some x) (hp : ∀ e ∈ x.o.after.toList, Region.binds .any e = true → S e.on = true) (hi : S i = false) {t : Tmp} (ht : t ∈ looks ops.toList x.o) :
    (tmS s.ents 0 S tm0).get t = x.tm.get t := by
  rw [tmS_get, (G.ent i x hx).tm t]
  refine wr_congr fun j z hz hd => ?_
  rw [Nat.zero_add]
  have hil : i < s.ents.length := (List.getElem?_eq_some_iff.1 hx).1
  rcases Nat.lt_trichotomy j i with hlt | rfl | hgt
  · have hc : clash ops.toList z.o x.o = true := by
      unfold clash; rw [hd]; simp [ht]
    have := I.mask G i x hx hp j ((G.ent i x hx).ord j z hlt hz hc)
    simp [this, hlt]
  · simp [hi]
  · have hc : clash ops.toList x.o z.o = true := by
      unfold clash; rw [hd]; simp [ht]
    have hb := (G.ent j z hz).ord i x hgt hx hc
    have : S j = false := by
      cases hS : S j with
      | false => rfl
      | true => have := I.mask' G hz hS i hb; rw [hi] at this; cases this
    simp [this]; omega
theorem eval_agree (G : Good P nest ops.toList base n tm0 h0 s) (I : RInv η P B s base N n tm0 ρ0 h w0 S ρ tmps w k hk) {i : Nat} {x : Ent} (hx : s.ents[i]? = some x) (hp : ∀ e ∈ x.o.after.toList, Region.binds .any e = true → S e.on = true) (hi : S i = false) (hok : okOps P x.o = true) {fr : Frame} (hfr : fr.tmps = tmps) :
    ∀ y ∈ x.o.op.operands.toList, VR η ρ (evA x.tm y) (fr.eval y) := by
  intro y hy
  have hyo := okOps_all hok y hy
  have := evA_ok (P := P) I.glob (fr := fr) (by rw [hfr]; exact I.tmr) hyo
  have e : evA (tmS s.ents 0 S tm0) y = evA x.tm y := by
    cases y with
    | tmp t =>
      simp only [evA]
      rw [wr_agree G I hx hp hi (List.mem_append_left _ (List.mem_filterMap.2 ⟨.tmp t, hy, rfl⟩))]
    | _ => rfl
  rw [← e]; exact this
theorem want_agree (G : Good P nest ops.toList base n tm0 h0 s) (I : RInv η P B s base N n tm0 ρ0 h w0 S ρ tmps w k hk) {i : Nat} {x : Ent} (hx : s.ents[i]? = some x) (hp : ∀ e ∈ x.o.after.toList, Region.binds .any e = true → S e.on = true) (hi : S i = false) :
    Region.wanted x.o (yielded ops tmps) = x.want := by
  refine wanted_ok I.tmr ?_
  rw [← (G.ent i x hx).want]
  unfold wantedA
  cases hg : x.o.guard with
  | none => rfl
  | some g =>
    obtain ⟨j, want⟩ := g
    simp only []
    cases hd : (ops.toList[j]?).bind (·.dst) with
    | none => rfl
    | some d =>
      simp only []
      rw [wr_agree G I hx hp hi (by
        unfold looks
        refine List.mem_append_right _ ?_
        rw [hg]
        simp only []
        rw [hd]
        simp)]
theorem tm_step (G : Good P nest ops.toList base n tm0 h0 s) (I : RInv η P B s base N n tm0 ρ0 h w0 S ρ tmps w k hk) {i : Nat} {x : Ent} (hx : s.ents[i]? = some x) (hi : S i = false) {ρ' : Env} (hle : Env.le ρ ρ') {u : Value} (hv : VR η ρ' x.v u) :
    TR η ρ' (tmS s.ents 0 (fun j => S j || j == i) tm0) n (setD tmps x.o.dst u) := by
  have key : ∀ t, (tmS s.ents 0 (fun j => S j || j == i) tm0).get t = if x.o.dst = some t then some x.v else (tmS s.ents 0 S tm0).get t := by
    intro t
    rw [tmS_get, tmS_get]
    by_cases hd : x.o.dst = some t
    · rw [if_pos hd]
      refine wr_last (j := i) hx hd (by simp) fun j' z hj hz hdz => ?_
      rw [Nat.zero_add]
      have hc : clash ops.toList x.o z.o = true := by
        unfold clash; rw [hd, hdz]; simp
      have hb := (G.ent j' z hz).ord i x hj hx hc
      have : S j' = false := by
        cases hS : S j' with
        | false => rfl
        | true => have := I.mask' G hz hS i hb; rw [hi] at this; cases this
      simp [this]; omega
    · rw [if_neg hd]
      refine wr_congr fun j z hz hdz => ?_
      rw [Nat.zero_add]
      have : j ≠ i := fun e => hd (by subst e; rw [hx] at hz; cases hz; exact hdz)
      simp [this]
  have ht := I.tmr.mono hle
  cases hd : x.o.dst with
  | none =>
    exact TR.congr (fun t => by rw [key t, hd]; simp) ht
  | some d =>
    have hput : putT n (tmS s.ents 0 S tm0) (some d) x.v = .ok ((tmS s.ents 0 S tm0).set d x.v) := by
      simp only [putT]; rw [if_pos ((G.ent i x hx).dst d hd)]
    refine TR.congr (fun t => ?_) (putT_ok hput ht hv)
    rw [key t, T.get_set, hd]
    by_cases e : t = d
    · subst e; simp
    · rw [if_neg e, if_neg (fun h => e (by cases h; rfl))]
theorem ks_step (G : Good P nest ops.toList base n tm0 h0 s) (I : RInv η P B s base N n tm0 ρ0 h w0 S ρ tmps w k hk) {i : Nat} {x : Ent} (hx : s.ents[i]? = some x) (hne : ¬ (x.want = true ∧ x.kind = .effect)) : ∀ m e, s.ee[m]? = some e → ((S e || e == i) = true ↔ m < k) := by
  intro m e he
  obtain ⟨y, hy, hw, hkk⟩ := G.effs m e he
  have : e ≠ i := fun h => hne (by subst h; rw [hx] at hy; cases hy; exact ⟨hw, hkk⟩)
  rw [← I.ks m e he]
  simp [this]
theorem clo_step (I : RInv η P B s base N n tm0 ρ0 h w0 S ρ tmps w k hk) {i : Nat} {x : Ent} (hx : s.ents[i]? = some x) (hp : ∀ e ∈ x.o.after.toList, Region.binds .any e = true → S e.on = true) :
    ∀ j y, s.ents[j]? = some y → (S j || j == i) = true → ∀ e ∈ y.o.after.toList, Region.binds .any e = true → (S e.on || e.on == i) = true := by
  intro j y hy hj e he hb
  by_cases hji : j = i
  · subst hji; rw [hx] at hy; cases hy
    simp [hp e he hb]
  · have : S j = true := by simpa [hji] using hj
    simp [I.clo j y hy this e he hb]
theorem quiet_step (G : Good P nest ops.toList base n tm0 h0 s) (I : RInv η P B s base N n tm0 ρ0 h w0 S ρ tmps w k hk) {i : Nat} {x : Ent} (hx : s.ents[i]? = some x) (hp : ∀ e ∈ x.o.after.toList, Region.binds .any e = true → S e.on = true) (hi : S i = false) (hiN : i < N)
    (hobj : x.obj = none) (hne : ¬ (x.want = true ∧ x.kind = .effect)) {u : Value} (hv : VR η ρ x.v u) : RInv η P B s base N n tm0 ρ0 h w0 (fun j => S j || j == i) ρ (setD tmps x.o.dst u) w k hk := by
  have hin : ∀ r a, InS s.ents s.ee base (fun j => S j || j == i) k hk r a ↔ InS s.ents s.ee base S k hk r a := by
    intro r a
    constructor
    · rintro (h1 | ⟨j, h1, h2, h3, h4⟩)
      · exact .inl h1
      · refine .inr ⟨j, h1, h2, ?_, h4⟩
        have : j ≠ i := fun e => by subst e; rw [alOf_of hx, hobj] at h2; cases h2
        simpa [this] using h3
    · rintro (h1 | ⟨j, h1, h2, h3, h4⟩)
      · exact .inl h1
      · exact .inr ⟨j, h1, h2, by simp [h3], h4⟩
  have newq : ∀ j a b d m, alOf s.ents j = some a → (S j || j == i) = true → ¬ Merged s.ents s.ee k j → ρ (base + j) = some (b, d, m) → ¬ B.S b := by
    intro j a b d m h2 h3 h4
    have hji : j ≠ i := fun e => by subst e; rw [alOf_of hx, hobj] at h2; cases h2
    exact I.H.new j a b d m h2 (by simpa [hji] using h3) h4
  refine ⟨clo_step I hx hp, fun j hj => ?_, tm_step G I hx hi (Env.le_refl _) hv, I.hhk, I.kle, ks_step G I hx hne, ⟨fun r a h => I.H.obj r a ((hin r a).1 h), fun r r' a a' b d m d' m' h1 h2 => I.H.inj r r' a a' b d m d' m' ((hin _ _).1 h1) ((hin _ _).1 h2), fun r a b d m h1 => I.H.sh r a b d m ((hin _ _).1 h1), newq, I.H.nx, I.H.fresh, I.H.abs,
    fun b ⟨r, a, d, m, h1, h2⟩ => I.H.own b ⟨r, a, d, m, (hin _ _).1 h1, h2⟩, fun b ⟨r, a, d, m, h1, h2⟩ => I.H.inn b ⟨r, a, d, m, (hin _ _).1 h1, h2⟩⟩, fun j hj hS => I.unb j hj (hS.imp (fun h => by simp at h; exact h.1) id), I.le, I.old, I.glob, I.fr, I.low⟩
  simp at hj
  rcases hj with hj | rfl
  · exact I.lt j hj
  · exact hiN
theorem alloc_step (G : Good P nest ops.toList base n tm0 h0 s) (I : RInv η P B s base N n tm0 ρ0 h w0 S ρ tmps w k hk) {i : Nat} {x : Ent} (hx : s.ents[i]? = some x) (hp : ∀ e ∈ x.o.after.toList, Region.binds .any e = true → S e.on = true) (hi : S i = false) (hiN : i < N)
    {b : AObj} (hobj : x.obj = some b) (hown : ownO b = true) (hne : ¬ (x.want = true ∧ x.kind = .effect)) {u : Value} {w' : World} {ob : Obj} {nn : Nat} (hpush : Pushed w w' ob)
    (hv : VR η (ρ.put (base + i) (w.heap.size, 0, nn)) x.v u) (hO : OR η (ρ.put (base + i) (w.heap.size, 0, nn)) b 0 nn ob) :
    RInv η P B s base N n tm0 ρ0 h w0 (fun j => S j || j == i) (ρ.put (base + i) (w.heap.size, 0, nn)) (setD tmps x.o.dst u) w' k hk := by
  have hnone := I.unb i hiN (.inl hi)
  have hle := Env.le_put (t := (w.heap.size, 0, nn)) hnone
  have hin : ∀ r a, InS s.ents s.ee base (fun j => S j || j == i) k hk r a → (r = base + i ∧ a = b) ∨ (r ≠ base + i ∧ InS s.ents s.ee base S k hk r a) := by
    intro r a
    rintro (h1 | ⟨j, h1, h2, h3, h4⟩)
    · refine .inr ⟨fun e => ?_, .inl h1⟩
      subst e
      rw [I.H.abs i hiN (I.not_merged G hi)] at h1; cases h1
    · by_cases e : j = i
      · subst e
        rw [alOf_of hx, hobj] at h2; cases h2
        exact .inl ⟨h1, rfl⟩
      · exact .inr ⟨by omega, .inr ⟨j, h1, h2, by simpa [e] using h3, h4⟩⟩
  have blt : ∀ r a b' d m, InS s.ents s.ee base S k hk r a → ρ r = some (b', d, m) → b' < w.heap.size := by
    intro r a b' d m h1 h2
    obtain ⟨b2, d2, m2, o, e1, e2, _⟩ := I.H.obj r a h1
    rw [h2] at e1; cases e1
    exact heap_lt e2
  have hfr : Fr ρ0 h w0 w' := by
    refine ⟨hpush.os.trans I.fr.os, hpush.tape.trans I.fr.tape, hpush.output.trans I.fr.output, by rw [hpush.heap]; have := I.fr.size; simp; omega, fun k2 hk2 hno => ?_⟩
    rw [pushed_old hpush (Nat.lt_of_lt_of_le hk2 I.fr.size)]
    exact I.fr.kept k2 hk2 hno
  refine ⟨clo_step I hx hp, fun j hj => ?_, tm_step G I hx hi hle hv, I.hhk, I.kle, ks_step G I hx hne, ⟨?_, ?_, ?_, ?_, I.H.nx, ?_, I.H.abs, ?_, ?_⟩, ?_, Env.le_trans I.le hle, ?_, I.glob.mono hle, hfr, ?_⟩
  · simp at hj
    rcases hj with hj | rfl
    · exact I.lt j hj
    · exact hiN
  · intro r a h
    rcases hin r a h with ⟨rfl, rfl⟩ | ⟨hr, h⟩
    · exact ⟨_, _, _, ob, Env.put_at _ _ _, pushed_new hpush, hO, fun _ => I.low⟩
    · obtain ⟨b2, d2, m2, o, e1, e2, e3, e4⟩ := I.H.obj r a h
      exact ⟨b2, d2, m2, o, hle _ _ e1, by rw [pushed_old hpush (heap_lt e2)]; exact e2, e3.mono hle, e4⟩
  · intro r r' a a' b2 d m d' m' h1 h2 e1 e2
    rcases hin r a h1 with ⟨rfl, rfl⟩ | ⟨hr, h1⟩
    · rcases hin r' a' h2 with ⟨rfl, rfl⟩ | ⟨hr', h2⟩
      · exact .inl rfl
      · rw [Env.put_at] at e1; cases e1
        rw [Env.put_ne _ _ hr'] at e2
        exact absurd (blt _ _ _ _ _ h2 e2) (Nat.lt_irrefl _)
    · rw [Env.put_ne _ _ hr] at e1
      rcases hin r' a' h2 with ⟨rfl, rfl⟩ | ⟨hr', h2⟩
      · rw [Env.put_at] at e2; cases e2
        exact absurd (blt _ _ _ _ _ h1 e1) (Nat.lt_irrefl _)
      · rw [Env.put_ne _ _ hr'] at e2
        exact I.H.inj r r' a a' b2 d m d' m' h1 h2 e1 e2
  · intro r a b2 d m h1 e1 hS
    rcases hin r a h1 with ⟨rfl, rfl⟩ | ⟨hr, h1⟩
    · rw [Env.put_at] at e1; cases e1
      have := B.lt _ hS
      have := I.low
      omega
    · rw [Env.put_ne _ _ hr] at e1
      exact I.H.sh r a b2 d m h1 e1 hS
  · intro j a b2 d m h2 h3 h4 e1 hS
    by_cases e : j = i
    · subst e
      rw [Env.put_at] at e1; cases e1
      have := B.lt _ hS
      have := I.low
      omega
    · rw [Env.put_ne _ _ (by omega)] at e1
      exact I.H.new j a b2 d m h2 (by simpa [e] using h3) h4 e1 hS
  · intro r hr
    have := I.H.nx
    rw [Env.put_ne _ _ (by omega)]
    exact I.H.fresh r hr
  · rintro b2 ⟨r, a, d, m, h1, h2, h3⟩
    rcases hin r a h1 with ⟨rfl, rfl⟩ | ⟨hr, h1⟩
    · rw [Env.put_at] at h3; cases h3
      exact .inr I.fr.size
    · rw [Env.put_ne _ _ hr] at h3
      exact I.H.own b2 ⟨r, a, d, m, h1, h2, h3⟩
  · rintro b2 ⟨r, a, d, m, h1, h3⟩
    rcases hin r a h1 with ⟨rfl, rfl⟩ | ⟨hr, h1⟩
    · rw [Env.put_at] at h3; cases h3
      exact .inr I.fr.size
    · rw [Env.put_ne _ _ hr] at h3
      exact I.H.inn b2 ⟨r, a, d, m, h1, h3⟩
  · intro j hj hS
    have hji : j ≠ i := fun e => by
      subst e
      rcases hS with hS | hS
      · simp at hS
      · rw [alOf_of hx, hobj] at hS; cases hS
    rw [Env.put_ne _ _ (by omega)]
    exact I.unb j hj (hS.imp (fun h => by simp at h; exact h.1) id)
  · intro r hr
    rw [Env.put_ne _ _ (by omega)]
    exact I.old r hr
  · have := I.low
    rw [hpush.heap]; simp; omega
theorem effect_step (G : Good P nest ops.toList base n tm0 h0 s) (I : RInv η P B s base N n tm0 ρ0 h w0 S ρ tmps w k hk) {i : Nat} {x : Ent} (hx : s.ents[i]? = some x) (hp : ∀ e ∈ x.o.after.toList, Region.binds .any e = true → S e.on = true) (hi : S i = false) (hiN : i < N) (hobj : x.obj = none)
    (hek : s.ee[k]? = some i) {hk' : AH} (hhk' : s.hh[k + 1]? = some hk') {al : List (Nat × Nat × AObj)} (hal : AlIn s.ents s.ee base k al) {ρ' : Env} {w' : World} (hpost : Post η ρ B (withAl x.mask hk al) w ρ' hk' w') {u : Value} (hv : VR η ρ' x.v u) :
    RInv η P B s base N n tm0 ρ0 h w0 (fun j => S j || j == i) ρ' (setD tmps x.o.dst u) w' (k + 1) hk' := by
  obtain ⟨hsub, hpre⟩ := I.sub hal (I.mask G i x hx hp)
  have mstep : ∀ j, Merged s.ents s.ee (k + 1) j ↔ Merged s.ents s.ee k j ∨ x.mask.testBit j = true := by
    intro j
    constructor
    · rintro ⟨m, e, hm, he, hb⟩
      rcases Nat.lt_or_ge m k with hlt | hge
      · exact .inl ⟨m, e, hlt, he, hb⟩
      · have : m = k := by omega
        subst this
        rw [hek] at he; cases he
        rw [mkE_of hx] at hb
        exact .inr hb
    · rintro (⟨m, e, hm, he, hb⟩ | hb)
      · exact ⟨m, e, by omega, he, hb⟩
      · exact ⟨k, i, by omega, hek, by rw [mkE_of hx]; exact hb⟩
  have blt : ∀ r a b' d m, InS s.ents s.ee base S k hk r a → ρ r = some (b', d, m) → b' < w.heap.size := by
    intro r a b' d m h1 h2
    obtain ⟨b2, d2, m2, o, e1, e2, _⟩ := I.H.obj r a h1
    rw [h2] at e1; cases e1
    exact heap_lt e2
  have hnx : (withAl x.mask hk al).next = hk.next := withAl_next al
  -- what is left of the blocks made
  have rest : ∀ r a, InS s.ents s.ee base (fun j => S j || j == i) (k + 1) hk' r a → hk'.objs.get r = some a ∨ (∃ j, r = base + j ∧ S j = true ∧ InS s.ents s.ee base S k hk r a ∧ ¬ Merged s.ents s.ee (k + 1) j) := by
    rintro r a (h1 | ⟨j, h1, h2, h3, h4⟩)
    · exact .inl h1
    · have hji : j ≠ i := fun e => by subst e; rw [alOf_of hx, hobj] at h2; cases h2
      have hS : S j = true := by simpa [hji] using h3
      exact .inr ⟨j, h1, hS, .inr ⟨j, h1, h2, hS, fun hm => h4 ((mstep j).2 (.inl hm))⟩, h4⟩
  -- they are not in the part that the effect saw
  have nosub : ∀ j a, j < N → ¬ Merged s.ents s.ee (k + 1) j → (withAl x.mask hk al).objs.get (base + j) ≠ some a := by
    intro j a hj hnm hg
    rcases withAl_get al hg with h1 | ⟨j', h1, h2⟩
    · rw [I.H.abs j hj (fun hm => hnm ((mstep j).2 (.inl hm)))] at h1; cases h1
    · obtain ⟨e1, _, _⟩ := hal j' _ _ h1
      have : j' = j := by omega
      subst this
      exact hnm ((mstep j').2 (.inr h2))
  have hroom := I.H.nx
  -- a block of the rest is none of those behind the effect
  have nsh : ∀ j a b d m, S j = true → InS s.ents s.ee base S k hk (base + j) a → ¬ Merged s.ents s.ee (k + 1) j → ρ (base + j) = some (b, d, m) → ¬ B.S b := by
    intro j a b d m hS hI hnm e1
    rcases hI with h1 | ⟨j', e, h2, h3, h4⟩
    · rw [I.H.abs j (I.lt j hS) (fun hm => hnm ((mstep j).2 (.inl hm)))] at h1; cases h1
    · have : j' = j := by omega
      subst this
      exact I.H.new j' a b d m h2 h3 h4 e1
  have apart : ∀ j a r2 a2 b d m d2 m2, S j = true → InS s.ents s.ee base S k hk (base + j) a → ¬ Merged s.ents s.ee (k + 1) j → hk'.objs.get r2 = some a2 → ρ (base + j) = some (b, d, m) → ρ' r2 = some (b, d2, m2) → False := by
    intro j a r2 a2 b d m d2 m2 hS hI hnm hg e1 e2
    rcases hpost.inn b ⟨r2, a2, d2, m2, hg, e2⟩ with ⟨r3, a3, d3, m3, hg3, e3⟩ | hge
    · have := (I.H.inj _ _ _ _ _ _ _ _ _ (hsub r3 a3 hg3) hI e3 e1).resolve_right (nsh j a b d m hS hI hnm e1)
      subst this
      exact nosub j a3 (I.lt j hS) hnm hg3
    · have := blt _ _ _ _ _ hI e1
      omega
  have hold : ∀ j, j < N → ρ' (base + j) = ρ (base + j) := fun j hj => hpost.old _ (by rw [hnx]; omega)
  have hOwn : OwnIn ρ0 ρ h (withAl x.mask hk al) w0 := by
    rintro b ⟨r, a, d, m, h1, h2, h3⟩
    exact I.H.own b ⟨r, a, d, m, hsub r a h1, h2, h3⟩
  refine ⟨clo_step I hx hp, fun j hj => ?_, tm_step G I hx hi hpost.le hv, hhk', by have := (List.getElem?_eq_some_iff.1 hek).1; omega, ?_, ⟨?_, ?_, ?_, ?_, ?_, hpost.fresh, ?_, ?_, ?_⟩, ?_, Env.le_trans I.le hpost.le, ?_, I.glob.mono hpost.le, I.fr.trans hOwn hpost.fr, Nat.le_trans I.low hpost.fr.size⟩
  · simp at hj
    rcases hj with hj | rfl
    · exact I.lt j hj
    · exact hiN
  · intro m e he
    by_cases hm : m = k
    · subst hm
      rw [hek] at he; cases he
      simp
    · have hne : e ≠ i := by
        intro hei; subst hei
        rcases Nat.lt_trichotomy m k with hlt | h2 | hgt
        · exact absurd (G.inc m k e e hlt he hek) (Nat.lt_irrefl _)
        · exact hm h2
        · exact absurd (G.inc k m e e hgt hek he) (Nat.lt_irrefl _)
      have := I.ks m e he
      simp only [hne, beq_iff_eq, Bool.or_eq_true, or_false]
      rw [this]; omega
  · intro r a hI
    rcases rest r a hI with h1 | ⟨j, rfl, hS, h1, hnm⟩
    · obtain ⟨b, d, m, o, e1, e2, e3, e4⟩ := hpost.hr.obj r a h1
      exact ⟨b, d, m, o, e1, e2, e3, e4⟩
    · obtain ⟨b, d, m, o, e1, e2, e3, e4⟩ := I.H.obj _ a h1
      refine ⟨b, d, m, o, hpost.le _ _ e1, ?_, e3.mono hpost.le, e4⟩
      rw [hpost.fr.kept b (heap_lt e2) ?_]
      · exact e2
      · rintro ⟨r3, a3, d3, m3, h3, _, e5⟩
        have := (I.H.inj _ _ _ _ _ _ _ _ _ (hsub r3 a3 h3) h1 e5 e1).resolve_right (nsh j a b d m hS h1 hnm e1)
        subst this
        exact nosub j a3 (I.lt j hS) hnm h3
  · intro r r' a a' b d m d' m' h1 h2 e1 e2
    rcases rest r a h1 with h1 | ⟨j, rfl, hS, h1, hnm⟩
    · rcases rest r' a' h2 with h2 | ⟨j', rfl, hS', h2, hnm'⟩
      · exact hpost.hr.inj r r' a a' b d m d' m' h1 h2 e1 e2
      · rw [hold j' (I.lt j' hS')] at e2
        exact (apart j' a' r a b d' m' d m hS' h2 hnm' h1 e2 e1).elim
    · rw [hold j (I.lt j hS)] at e1
      rcases rest r' a' h2 with h2 | ⟨j', rfl, hS', h2, hnm'⟩
      · exact (apart j a r' a' b d m d' m' hS h1 hnm h2 e1 e2).elim
      · rw [hold j' (I.lt j' hS')] at e2
        exact I.H.inj _ _ _ _ _ _ _ _ _ h1 h2 e1 e2
  · intro r a b d m hI e1 hS
    rcases rest r a hI with h1 | ⟨j, rfl, hSj, h1, hnm⟩
    · exact hpost.hr.sh r a b d m h1 e1 hS
    · rw [hold j (I.lt j hSj)] at e1
      exact I.H.sh _ a b d m h1 e1 hS
  · intro j a b d m h2 h3 h4 e1
    have hji : j ≠ i := fun e => by subst e; rw [alOf_of hx, hobj] at h2; cases h2
    have hSj : S j = true := by simpa [hji] using h3
    rw [hold j (I.lt j hSj)] at e1
    exact I.H.new j a b d m h2 hSj (fun hm => h4 ((mstep j).2 (.inl hm))) e1
  · have := hpost.next
    rw [hnx] at this; omega
  · intro j hj hnm
    cases hg : hk'.objs.get (base + j) with
    | none => rfl
    | some a =>
      exfalso
      obtain ⟨b, d, m, o, e1, e2, _⟩ := hpost.hr.obj _ a hg
      have e1' := e1
      rw [hold j hj] at e1'
      -- its number was bound before: it is that of a block made
      have hS : S j = true := by
        cases hS : S j with
        | true => rfl
        | false => rw [I.unb j hj (.inl hS)] at e1'; cases e1'
      cases hal3 : alOf s.ents j with
      | none => rw [I.unb j hj (.inr hal3)] at e1'; cases e1'
      | some c =>
        have hI : InS s.ents s.ee base S k hk (base + j) c := .inr ⟨j, rfl, hal3, hS, fun hm => hnm ((mstep j).2 (.inl hm))⟩
        rcases hpost.inn b ⟨base + j, a, d, m, hg, e1⟩ with ⟨r3, a3, d3, m3, hg3, e3⟩ | hge
        · have := (I.H.inj _ _ _ _ _ _ _ _ _ (hsub r3 a3 hg3) hI e3 e1').resolve_right (nsh j c b d m hS hI hnm e1')
          subst this
          exact nosub j a3 hj hnm hg3
        · have := blt _ _ _ _ _ hI e1'
          omega
  · rintro b ⟨r, a, d, m, h1, h2, h3⟩
    rcases rest r a h1 with h1 | ⟨j, rfl, hS, h1, hnm⟩
    · rcases hpost.own b ⟨r, a, d, m, h1, h2, h3⟩ with ⟨r3, a3, d3, m3, h4, h5, h6⟩ | hge
      · exact I.H.own b ⟨r3, a3, d3, m3, hsub _ _ h4, h5, h6⟩
      · have := I.fr.size; exact .inr (by omega)
    · rw [hold j (I.lt j hS)] at h3
      exact I.H.own b ⟨_, a, d, m, h1, h2, h3⟩
  · rintro b ⟨r, a, d, m, h1, h3⟩
    rcases rest r a h1 with h1 | ⟨j, rfl, hS, h1, hnm⟩
    · rcases hpost.inn b ⟨r, a, d, m, h1, h3⟩ with ⟨r3, a3, d3, m3, h4, h6⟩ | hge
      · exact I.H.inn b ⟨r3, a3, d3, m3, hsub _ _ h4, h6⟩
      · have := I.fr.size; exact .inr (by omega)
    · rw [hold j (I.lt j hS)] at h3
      exact I.H.inn b ⟨_, a, d, m, h1, h3⟩
  · intro j hj hS
    rw [hold j hj]
    exact I.unb j hj (hS.imp (fun h => by simp at h; exact h.1) id)
  · intro r hr
    have h1 := I.old r hr
    rw [hpost.old r (by rw [hnx]; omega)]
    exact h1
end
end Go.Ev

namespace Go.Ev
set_option linter.unusedVariables false
set_option linter.unusedSimpArgs false
variable {η : Nat → Value}
section
variable {P : Program} {B : Bd} {nest : Nest} {ops : Array Oper} {base N n : Nat} {tm0 : T Value} {h0 : AH} {s : RS} {ρ0 : Env} {h : AH} {w0 : World} {S : Nat → Bool} {ρ : Env} {tmps : Array Value} {w : World} {k : Nat} {hk : AH}
theorem finish_eq {fr : Frame} {i : Nat} {rest : List Nat} {kk : List Item} {o : Oper} (ht : fr.todo = .inRegion ops (i :: rest) :: kk) (ho : ops[i]? = some o) (u : Value) : fr.finish u = { fr with tmps := setD fr.tmps o.dst u, todo := .inRegion ops rest :: kk } := by
  obtain ⟨fn, tmps, todo, defers, mode, kind, roundOf⟩ := fr
  simp only at ht; subst ht
  simp only [Frame.finish, ho, Option.bind_some, setD]
  rfl
theorem op_run (hη : OneCells η) (hnest : NestOk η P B nest) (cs : List Frame) (G : Good P nest ops.toList base n tm0 h0 s) (I : RInv η P B s base N n tm0 ρ0 h w0 S ρ tmps w k hk) {i : Nat} {x : Ent} (hx : s.ents[i]? = some x) (hp : ∀ e ∈ x.o.after.toList, Region.binds .any e = true → S e.on = true) (hi : S i = false) (hiN : i < N)
    {fr : Frame} {rest : List Nat} {kk : List Item} (hm : fr.mode = .run) (ht : fr.todo = .inRegion ops (i :: rest) :: kk) (hfr : fr.tmps = tmps) :
    ∃ ρ' tmps' w' k' hk', RInv η P B s base N n tm0 ρ0 h w0 (fun j => S j || j == i) ρ' tmps' w' k' hk' ∧ Steps P (lone fr cs w) (lone { fr with tmps := tmps', todo := .inRegion ops rest :: kk } cs w') := by
  have K := G.ent i x hx
  have ho : ops[i]? = some x.o := by rw [← Array.getElem?_toList]; exact K.o
  have hw := want_agree G I hx hp hi
  have hfin := fun u => finish_eq (fr := fr) ht ho u
  have hnc : notCall fr := fun d b r s k hh => by rw [ht] at hh; cases hh
  cases hwant : x.want with
  | false =>
    obtain ⟨h1, h2⟩ := K.un hwant
    refine ⟨ρ, _, w, k, hk, quiet_step G I hx hp hi hiN h2 (fun hh => by rw [hwant] at hh; cases hh.1) (u := undef) (by rw [h1]; exact .undef'), one_go ?_⟩
    rw [hwant] at hw
    have hf := hfin undef
    rw [hfr] at hf
    rw [← hf]
    obtain ⟨fn, tmps2, todo, defers, mode, kind, roundOf⟩ := fr
    simp only at hm ht hfr
    subst hm; subst ht; subst hfr
    simp only [stepG, run0, stepG.exec, ho, Option.map_some, Option.getD_some, hw, Bool.false_eq_true, if_false]
    rfl
  | true =>
    have hok := K.ok hwant
    have hev := eval_agree G I hx hp hi hok hfr
    have hw' : Region.wanted x.o (yielded ops fr.tmps) = true := by rw [hfr, hw, hwant]
    cases hkind : x.kind with
    | read =>
      obtain ⟨hobj, hrd⟩ := K.rd hwant hkind
      obtain ⟨al, hal, hr⟩ := hrd k hk I.hhk (fun m e he hb => (I.ks m e he).1 (I.mask G i x hx hp e hb)) (fun m e hmk he => by
        obtain ⟨y, hy, _⟩ := G.effs m e he
        rw [mkE_of hy]
        cases hb : y.mask.testBit i with
        | false => rfl
        | true => have := I.mask' G hy ((I.ks m e he).2 hmk) i hb; rw [hi] at this; cases this)
      obtain ⟨_, hpre⟩ := I.sub hal (I.mask G i x hx hp)
      obtain ⟨u, hu, huv⟩ := readA_ok hη hpre.glob hpre.hr hev hr
      have hd : ∀ c, x.o.op ≠ .defer c := by
        intro c hc
        unfold readA at hr
        rw [hc] at hr
        simp [no] at hr
      refine ⟨ρ, _, w, k, hk, quiet_step G I hx hp hi hiN hobj (fun hh => by rw [hkind] at hh; cases hh.2) huv, one_go ?_⟩
      rw [stepG_region hm ht ho hw' (.inr hd), apply_value hu, hfin, hfr]
    | alloc =>
      obtain ⟨b, hobj, ha⟩ := K.alc hwant hkind
      obtain ⟨hown, u, w', ob, nn, hu, hpush, hrel⟩ := allocA_ok (w := w) hη hev ha
      have hle := Env.le_put (t := (w.heap.size, 0, nn)) (I.unb i hiN (.inl hi))
      obtain ⟨h1, h2⟩ := hrel _ hle (Env.put_at _ _ _)
      have hd : ∀ c, x.o.op ≠ .defer c := by
        intro c hc
        unfold allocA at ha
        rw [hc] at ha
        simp [no] at ha
      refine ⟨_, _, w', k, hk, alloc_step G I hx hp hi hiN hobj hown (fun hh => by rw [hkind] at hh; cases hh.2) hpush h1 h2, one_go ?_⟩
      rw [stepG_region hm ht ho hw' (.inr hd), apply_value hu, hfin, hfr]
    | effect =>
      obtain ⟨hobj, k2, hk2, hk', e1, e2, e3, e4, al, hal, hef⟩ := K.eff hwant hkind
      -- just those before it are done
      have hkk : k2 = k := by
        rcases Nat.lt_trichotomy k2 k with hlt | h2 | hgt
        · have := (I.ks k2 i e1).2 hlt
          rw [hi] at this; cases this
        · exact h2
        · have hkl : k < s.ee.length := by have := (List.getElem?_eq_some_iff.1 e1).1; omega
          have hb := e4 k s.ee[k] hgt (List.getElem?_eq_getElem hkl)
          have := (I.ks k s.ee[k] (List.getElem?_eq_getElem hkl)).1 (I.mask G i x hx hp _ hb)
          exact absurd this (Nat.lt_irrefl _)
      subst hkk
      have : hk2 = hk := by have := I.hhk; rw [e2] at this; exact Option.some.inj this
      subst this
      obtain ⟨_, hpre⟩ := I.sub hal (I.mask G i x hx hp)
      simp only [effRun, bind_ok] at hef
      obtain ⟨⟨a, h1⟩, hea, hef⟩ := hef
      obtain ⟨ρ1, w1, hn, hpost⟩ := effA_ok hη hpre hev hea
      have hd : ∀ c, x.o.op ≠ .defer c := by
        intro c hc
        unfold effA at hea
        rw [hc] at hea
        simp only [bind_ok] at hea
        obtain ⟨⟨t, args⟩, _, hea⟩ := hea
        rw [okk] at hea; injection hea with q1 q2; subst q1
        simp [no] at hef
      split at hef
      · rename_i v h2 heq
        injection heq with q1 q2; subst q1; subst q2
        rw [okk] at hef; injection hef with q1 q2; subst q1; subst q2
        obtain ⟨u, hu, huv⟩ := hn
        refine ⟨ρ1, _, w1, _, _, effect_step G I hx hp hi hiN hobj e1 e3 hal hpost huv, one_go ?_⟩
        rw [stepG_region hm ht ho hw' (.inr hd), apply_value hu, hfin, hfr]
      · rename_i h2 heq
        injection heq with q1 q2; subst q1; subst q2
        rw [okk] at hef; injection hef with q1 q2
        have hu : (execOp fr.eval x.o).run P w = .ok .skip w1 := hn
        subst q2
        refine ⟨ρ1, _, w1, _, _, effect_step G I hx hp hi hiN hobj e1 e3 hal hpost (u := undef) (by rw [← q1]; exact .undef'), one_go ?_⟩
        rw [stepG_region hm ht ho hw' (.inr hd), apply_skip hu, hfin, hfr]
      · rename_i g args h2 heq
        injection heq with q1 q2; subst q1; subst q2
        obtain ⟨xs, hu, hl⟩ := hn
        obtain ⟨ρ2, fr2, w2, u, hp2, hv2, _, hleave, hst⟩ := hnest g args h1 hk' x.v hef ρ1 xs w1 (fr :: cs) hl (hpre.post hpost)
        refine ⟨ρ2, _, w2, _, _, effect_step G I hx hp hi hiN hobj e1 e3 hal (hpost.trans hp2) hv2, ?_⟩
        refine (one_go (fr' := Frame.enter P g xs .normal) (cs' := fr :: cs) (w' := w1) ?_).trans (hst.trans (.one ?_))
        · rw [stepG_region hm ht ho hw' (.inr hd), apply_enter hnc hu]
        · rw [step_leave_returned hleave, hfin, hfr]
      · simp [no] at hef
theorem lin_run (hη : OneCells η) (hnest : NestOk η P B nest) (cs : List Frame) (G : Good P nest ops.toList base n tm0 h0 s) (hN : s.ents.length = ops.size) : ∀ (fuel t : Nat) (listed : Array Bool) (ρ : Env) (tmps : Array Value) (w : World) (k : Nat) (hk : AH) (fr : Frame) (kk : List Item),
    listed.size = ops.size → listed.toList.countP (· == false) ≤ fuel → RInv η P B s base ops.size n tm0 ρ0 h w0 (fun j => listed.getD j false) ρ tmps w k hk → fr.mode = .run → fr.todo = .inRegion ops (Region.linearise.go .any ops fuel t listed []) :: kk → fr.tmps = tmps →
    ∃ S' ρ' tmps' w' k' hk', (∀ j, j < ops.size → S' j = true) ∧ RInv η P B s base ops.size n tm0 ρ0 h w0 S' ρ' tmps' w' k' hk' ∧ Steps P (lone fr cs w) (lone { fr with tmps := tmps', todo := kk } cs w') := by
  have done : ∀ (listed : Array Bool) (ρ : Env) (tmps : Array Value) (w : World) (k : Nat) (hk : AH) (fr : Frame) (kk : List Item), (∀ j, j < ops.size → listed.getD j false = true) →
      RInv η P B s base ops.size n tm0 ρ0 h w0 (fun j => listed.getD j false) ρ tmps w k hk → fr.mode = .run → fr.todo = .inRegion ops [] :: kk → fr.tmps = tmps →
      ∃ S' ρ' tmps' w' k' hk', (∀ j, j < ops.size → S' j = true) ∧ RInv η P B s base ops.size n tm0 ρ0 h w0 S' ρ' tmps' w' k' hk' ∧ Steps P (lone fr cs w) (lone { fr with tmps := tmps', todo := kk } cs w') := by
    intro listed ρ tmps w k hk fr kk hall I hm ht hfr
    refine ⟨_, ρ, tmps, w, k, hk, hall, I, one_go ?_⟩
    obtain ⟨fn, tmps2, todo, defers, mode, kind, roundOf⟩ := fr
    simp only at hm ht hfr
    subst hm; subst ht; subst hfr
    simp [stepG, run0, stepG.exec]
  intro fuel
  induction fuel with
  | zero =>
    intro t listed ρ tmps w k hk fr kk hsz hc I hm ht hfr
    refine done listed ρ tmps w k hk fr kk (fun j hj => ?_) I hm (by simpa [Region.linearise.go] using ht) hfr
    have h0 : listed.toList.countP (· == false) = 0 := by omega
    rw [List.countP_eq_zero] at h0
    have hjl : j < listed.size := by omega
    have := h0 listed[j] (by simp)
    rw [Array.getD_eq_getD_getElem?, Array.getElem?_eq_getElem hjl]
    simpa using this
  | succ fuel ih =>
    intro t listed ρ tmps w k hk fr kk hsz hc I hm ht hfr
    simp only [Region.linearise.go] at ht
    change fr.todo = .inRegion ops (match (Region.ready .any ops listed)[t % (Region.ready .any ops listed).length]? with
      | some i => Region.linearise.go .any ops fuel (t / (Region.ready .any ops listed).length) (listed.setIfInBounds i true) [i]
      | none => [].reverse) :: kk at ht
    cases hi : (Region.ready .any ops listed)[t % (Region.ready .any ops listed).length]? with
    | none =>
      rw [hi] at ht
      have hnil : Region.ready .any ops listed = [] := by
        cases hr : Region.ready .any ops listed with
        | nil => rfl
        | cons x xs =>
          rw [hr] at hi
          have hlt : t % (x :: xs).length < (x :: xs).length := Nat.mod_lt _ (by simp)
          rw [List.getElem?_eq_none_iff] at hi
          omega
      refine done listed ρ tmps w k hk fr kk ?_ I hm (by simpa using ht) hfr
      -- the least one that is left would be ready
      intro j
      induction j using Nat.strongRecOn with
      | _ j ihj =>
        intro hj
        cases hl : listed.getD j false with
        | true => rfl
        | false =>
          exfalso
          have hjl : j < listed.size := by omega
          have hje : j < s.ents.length := by omega
          have K := G.ent j _ (List.getElem?_eq_getElem hje)
          have hmem : j ∈ Region.ready .any ops listed := by
            rw [mem_ready]
            refine ⟨?_, _, by rw [← Array.getElem?_toList]; exact K.o, fun e he hb => ?_⟩
            · rw [Array.getD_eq_getD_getElem?, Array.getElem?_eq_getElem hjl] at hl ⊢
              simpa using hl
            · have := (K.pre e (by simpa using he) hb).1
              exact ihj e.on this (by omega)
          rw [hnil] at hmem; cases hmem
    | some i =>
      rw [hi] at ht
      simp only at ht
      rw [linearise_go_acc, List.reverse_singleton, List.singleton_append] at ht
      have hmem := List.mem_of_getElem? hi
      rw [mem_ready] at hmem
      obtain ⟨hun, o, ho, hall⟩ := hmem
      have hil : i < ops.size := (Array.getElem?_eq_some_iff.1 ho).1
      have hie : i < s.ents.length := by omega
      have hisz : i < listed.size := by omega
      have hx := List.getElem?_eq_getElem hie
      have K := G.ent i _ hx
      have hoo : o = s.ents[i].o := by
        have := K.o
        rw [Array.getElem?_toList, ho] at this
        exact Option.some.inj this
      have hli : listed.getD i false = false := by
        rw [Array.getD_eq_getD_getElem?, Array.getElem?_eq_getElem hisz] at hun ⊢
        simpa using hun
      obtain ⟨ρ1, tmps1, w1, k1, hk1, I1, hst⟩ := op_run hη hnest cs G I hx (fun e he hb => hall e (by rw [hoo]; simpa using he) hb) hli hil hm ht hfr
      have hS : (fun j => listed.getD j false || j == i) = fun j => (listed.setIfInBounds i true).getD j false := by
        funext j
        simp only [Array.getD_eq_getD_getElem?]
        by_cases hji : j = i
        · subst hji; simp [hisz]
        · rw [Array.getElem?_setIfInBounds_ne (fun e => hji e.symm)]; simp [hji]
      rw [hS] at I1
      have hcnt : (listed.setIfInBounds i true).toList.countP (· == false) ≤ fuel := by
        rw [Array.toList_setIfInBounds, List.countP_set (h := by simpa using hisz)]
        have hli' : listed.toList[i] = false := by
          rw [Array.getD_eq_getD_getElem?, Array.getElem?_eq_getElem hisz] at hli
          simpa using hli
        rw [hli']
        have e1 : (false == false) = true := rfl
        have e2 : (true == false) = false := rfl
        simp only [e1, e2, if_true, Bool.false_eq_true, if_false]
        omega
      obtain ⟨S', ρ2, tmps2, w2, k2, hk2, g1, g2, g3⟩ := ih _ _ ρ1 tmps1 w1 k1 hk1 { fr with tmps := tmps1, todo := .inRegion ops (Region.linearise.go .any ops fuel (t / (Region.ready .any ops listed).length) (listed.setIfInBounds i true) []) :: kk } kk (by simp [hsz]) hcnt I1 hm rfl rfl
      exact ⟨S', ρ2, tmps2, w2, k2, hk2, g1, g2, hst.trans g3⟩
end
end Go.Ev

namespace Go.Ev
set_option linter.unusedVariables false
set_option linter.unusedSimpArgs false
variable {η : Nat → Value}
section
variable {P : Program} {B : Bd}
theorem finalH_get {h : AH} {r : Nat} {a : AObj} : ∀ (al : List (Nat × Nat × AObj)), (finalH h al).objs.get r = some a → h.objs.get r = some a ∨ ∃ j, (j, r, a) ∈ al
  | [], hg => .inl hg
  | (i, r', b) :: l, hg => by
    simp only [finalH, putA, T.get_set] at hg
    by_cases e : r = r'
    · rw [if_pos e] at hg; cases hg; subst e
      exact .inr ⟨i, by simp⟩
    · rw [if_neg e] at hg
      rcases finalH_get l hg with h1 | ⟨j, h1⟩
      · exact .inl h1
      · exact .inr ⟨j, by simp [h1]⟩
theorem finalH_next {h : AH} : ∀ (al : List (Nat × Nat × AObj)), (finalH h al).next = h.next
  | [] => rfl
  | _ :: l => finalH_next l
theorem regionA_ok (hη : OneCells η) (hmix : P.follows .mixedOrders = true) {nest : Nest} (hnest : NestOk η P B nest) : RegOk η P B nest := by
  intro ops n tm tm' h h' hr ρ fr w kk id cs ht p hm hto
  simp only [regionA, bind_ok] at hr
  obtain ⟨s, hs, hr⟩ := hr
  rw [okk] at hr; injection hr with e1 e2; subst e1; subst e2
  obtain ⟨G, hlen⟩ := regLoop_good (base := h.next) (n := n) (tm0 := tm) (ops := ops.toList) (P := P) (nest := nest) (h0 := { h with next := h.next + ops.toList.length }) (Good.start _) (fun j o hj => by simpa using hj) hs
  have hN : s.ents.length = ops.size := by rw [hlen]; simp
  have hsz : ops.toList.length = ops.size := rfl
  -- nothing is done
  have hin : ∀ (S : Nat → Bool) r a, (∀ j, S j = false) → InS s.ents s.ee h.next S 0 { h with next := h.next + ops.toList.length } r a → h.objs.get r = some a := by
    rintro S r a hS (h1 | ⟨j, _, _, h3, _⟩)
    · exact h1
    · rw [hS] at h3; cases h3
  have hall : ∀ j, (Array.replicate ops.size false).getD j false = false := by
    intro j
    rw [Array.getD_eq_getD_getElem?, Array.getElem?_replicate]
    split <;> rfl
  have I0 : RInv η P B s h.next ops.size n tm ρ h w (fun j => (Array.replicate ops.size false).getD j false) ρ fr.tmps { w with drawn := w.drawn + 1 } 0 { h with next := h.next + ops.toList.length } := by
    refine ⟨fun j x hx hj => ?_, fun j hj => ?_, ?_, G.hd, Nat.zero_le _, fun m e he => ?_, ⟨fun r a hI => p.hr.obj r a (hin _ r a hall hI), fun r r' a a' b d m d' m' h1 h2 => p.hr.inj r r' a a' b d m d' m' (hin _ _ _ hall h1) (hin _ _ _ hall h2), fun r a b d m h1 => p.hr.sh r a b d m (hin _ _ _ hall h1), (fun j a b d m _ h3 => by rw [hall] at h3; cases h3), by rw [hsz]; exact Nat.le_refl _, fun r hr => p.fresh r ?_, ?_, ?_, ?_⟩, fun j hj _ => p.fresh _ (by omega), Env.le_refl _, fun _ _ => rfl, p.glob, ⟨rfl, rfl, rfl, Nat.le_refl _, fun _ _ _ => rfl⟩, p.low⟩
    · rw [hall] at hj; cases hj
    · rw [hall] at hj; cases hj
    · refine TR.congr (fun t => ?_) ht
      rw [tmS_get]
      exact wr_none fun j x _ _ => by rw [Nat.zero_add]; exact hall j
    · rw [hall]; constructor
      · intro h; cases h
      · intro h; omega
    · simp only at hr; omega
    · intro j hj _
      show h.objs.get (h.next + j) = none
      cases hg : h.objs.get (h.next + j) with
      | none => rfl
      | some a => have := p.get_lt hg; omega
    · rintro b ⟨r, a, d, m, h1, h2, h3⟩
      exact .inl ⟨r, a, d, m, hin _ _ _ hall h1, h2, h3⟩
    · rintro b ⟨r, a, d, m, h1, h3⟩
      exact .inl ⟨r, a, d, m, hin _ _ _ hall h1, h3⟩
  obtain ⟨S', ρ', tmps', w', k', hk', g1, I, g3⟩ := lin_run hη hnest cs G hN ops.size (w.tape w.drawn (.order fr.fn id)) (Array.replicate ops.size false) ρ fr.tmps { w with drawn := w.drawn + 1 } 0 _
    { fr with todo := .inRegion ops (Region.linearise.go .any ops ops.size (w.tape w.drawn (.order fr.fn id)) (Array.replicate ops.size false) []) :: kk } kk (by simp) (Nat.le_trans List.countP_le_length (by simp)) I0 hm rfl rfl
  -- all effects are done
  have hk : k' = s.ee.length := by
    rcases Nat.lt_or_ge k' s.ee.length with hlt | hge
    · have he := G.ee_lt (List.getElem?_eq_getElem hlt)
      have := (I.ks k' s.ee[k'] (List.getElem?_eq_getElem hlt)).1 (g1 _ (by omega))
      exact absurd this (Nat.lt_irrefl _)
    · exact Nat.le_antisymm I.kle hge
  subst hk
  have hhk : hk' = s.h := by have := I.hhk; rw [G.hl] at this; exact (Option.some.inj this).symm
  subst hhk
  have hfin : ∀ r a, (finalH s.h s.al).objs.get r = some a → InS s.ents s.ee h.next S' s.ee.length s.h r a := by
    intro r a hg
    rcases finalH_get _ hg with h1 | ⟨j, h1⟩
    · exact .inl h1
    · obtain ⟨e1, e2, e3⟩ := G.al j r a h1
      exact .inr ⟨j, e1, e2, g1 j (by have := alOf_lt e2; omega), e3⟩
  refine ⟨ρ', tmps', w', ?_, ⟨I.le, I.old, ?_, ?_, ⟨fun r a hg => I.H.obj r a (hfin r a hg), fun r r' a a' b d m d' m' h1 h2 => I.H.inj r r' a a' b d m d' m' (hfin _ _ h1) (hfin _ _ h2), fun r a b d m h1 => I.H.sh r a b d m (hfin _ _ h1)⟩, I.fr, ?_, ?_⟩, ?_⟩
  · refine TR.congr (fun t => ?_) I.tmr
    rw [G.tm t, tmS_get]
    refine wr_congr fun j x hx _ => ?_
    have hj := (List.getElem?_eq_some_iff.1 hx).1
    rw [Nat.zero_add, g1 j (by omega)]
    simpa using hj
  · intro r hr
    rw [finalH_next] at hr
    exact I.H.fresh r hr
  · rw [finalH_next]
    have := I.H.nx; omega
  · rintro b ⟨r, a, d, m, h1, h2, h3⟩
    exact I.H.own b ⟨r, a, d, m, hfin _ _ h1, h2, h3⟩
  · rintro b ⟨r, a, d, m, h1, h3⟩
    exact I.H.inn b ⟨r, a, d, m, hfin _ _ h1, h3⟩
  · refine Steps.trans (one_go (fr' := { fr with todo := .inRegion ops (Region.linearise.go .any ops ops.size (w.tape w.drawn (.order fr.fn id)) (Array.replicate ops.size false) []) :: kk }) (cs' := cs) (w' := { w with drawn := w.drawn + 1 }) ?_) g3
    obtain ⟨fn, tmps2, todo, defers, mode, kind, roundOf⟩ := fr
    simp only at hm hto
    subst hm; subst hto
    simp [stepG, run0, stepG.exec, choose, Sem.run, Question.forced, Question.cut, Region.schedule, hmix, Region.linearise]
theorem runF_ok (hη : OneCells η) {nest : Nest} (hreg : RegOk η P B nest) : ∀ (fuel : Nat) (s : AS) (f : FuncId) (v : Value) (h' : AH), runF P nest fuel s = .ok (f, v, h') → ∀ (ρ : Env) (fr : Frame) (cs : List Frame) (w : World) (cs0 : List Frame), SR η P ρ B s fr cs w →
    ∃ ρ' fr' w' x, Post η ρ B s.hp w ρ' h' w' ∧ VR η ρ' v x ∧ fr'.fn = f ∧ fr'.leaving P w' (.returned x) ∧ Steps P (lone fr (cs ++ cs0) w) (lone fr' cs0 w')
  | 0, s, f, v, h', hr, ρ, fr, cs, w, cs0, R => by simp [runF, no] at hr
  | fuel + 1, s, f, v, h', hr, ρ, fr, cs, w, cs0, R => by
    simp only [runF] at hr
    split at hr
    · rename_i s' hs
      rcases stepA_ok (cs0 := cs0) hη hreg R hs with ⟨s2, he, ρ1, fr1, cs1, w1, k1, k2, k3⟩ | ⟨v2, he, _⟩
      · injection he with he; subst he
        obtain ⟨ρ2, fr2, w2, x, l1, l2, l3, l4, l5⟩ := runF_ok hη hreg fuel s' f v h' hr ρ1 fr1 cs1 w1 cs0 k1
        exact ⟨ρ2, fr2, w2, x, k2.trans l1, l2, l3, l4, k3.trans l5⟩
      · cases he
    · rename_i f2 v2 h2 hs
      rw [okk] at hr; injection hr with e1 e2; injection e2 with e2 e3; subst e1; subst e2; subst e3
      rcases stepA_ok (cs0 := cs0) hη hreg R hs with ⟨s2, he, _⟩ | ⟨v3, he, hcs, x, hx, hl⟩
      · cases he
      · injection he with e1 e2 e3; subst e1; subst e2; subst e3
        have hc := R.cs
        rw [hcs] at hc
        have := hc.inv_nil; subst this
        exact ⟨ρ, fr, w, x, .refl R.pre, hx, R.fr.fn, hl, .refl _ _⟩
    · cases hr
theorem nestA_ok (hη : OneCells η) (hmix : P.follows .mixedOrders = true) (fuel : Nat) : ∀ d, NestOk η P B (nestA P fuel d)
  | 0 => by intro f args h h' v hr; simp [nestA, no] at hr
  | d + 1 => by
    intro f args h h' v hr ρ args' w cs hl p
    simp only [nestA, bind_ok] at hr
    obtain ⟨fr, he, ⟨f2, v2, h2⟩, hrun, hr⟩ := hr
    simp only [ite_no', okk] at hr
    obtain ⟨hf, hr⟩ := hr
    injection hr with e1 e2; subst e1; subst e2
    obtain ⟨ρ', fr', w', x, k1, k2, k3, k4, k5⟩ := runF_ok hη (regionA_ok hη hmix (nestA_ok hη hmix fuel d)) fuel ⟨fr, [], h⟩ f2 v2 h2 hrun ρ (Frame.enter P f args' .normal) [] w cs ⟨enter_ok he hl, .nil, p⟩
    exact ⟨ρ', fr', w', x, k1, k2, by rw [k3, hf], k4, by simpa using k5⟩
end
end Go.Ev

namespace Go.Ev
set_option linter.unusedVariables false
set_option linter.unusedSimpArgs false
variable {η : Nat → Value} {P : Program} {B : Bd}
def CallSpec (η : Nat → Value) (P : Program) (B : Bd) (f : FuncId) (args : List Value) (h : AH) (Q : Value → AH → Prop) : Prop :=
  ∀ (ρ : Env) (args' : Array Value) (w : World) (cs : List Frame), LR η ρ args args'.toList → Pre η P ρ B h w →
    ∃ v h' ρ' fr' w' x, Q v h' ∧ Post η ρ B h w ρ' h' w' ∧ VR η ρ' v x ∧ fr'.fn = f ∧ fr'.leaving P w' (.returned x) ∧ Steps P (lone (Frame.enter P f args' .normal) cs w) (lone fr' cs w')
def Run (η : Nat → Value) (P : Program) (B : Bd) (fn : FuncId) (h0 : AH) (s : AS) (Q : Value → AH → Prop) : Prop :=
  ∀ (ρ0 : Env) (w0 : World) (ρ : Env) (fr : Frame) (cs : List Frame) (w : World) (cs0 : List Frame), Pre η P ρ0 B h0 w0 → Post η ρ0 B h0 w0 ρ s.hp w → SR η P ρ B s fr cs w →
    ∃ v h' ρ' fr' w' x, Q v h' ∧ Post η ρ0 B h0 w0 ρ' h' w' ∧ VR η ρ' v x ∧ fr'.fn = fn ∧ fr'.leaving P w' (.returned x) ∧ Steps P (lone fr (cs ++ cs0) w) (lone fr' cs0 w')
theorem CallSpec.mono {f : FuncId} {args : List Value} {h : AH} {Q Q' : Value → AH → Prop} (c : CallSpec η P B f args h Q) (k : ∀ v h', Q v h' → Q' v h') : CallSpec η P B f args h Q' := by
  intro ρ args' w cs l p
  obtain ⟨v, h', ρ', fr', w', x, q, r⟩ := c ρ args' w cs l p
  exact ⟨v, h', ρ', fr', w', x, k _ _ q, r⟩
theorem Run.mono {fn : FuncId} {h0 : AH} {s : AS} {Q Q' : Value → AH → Prop} (c : Run η P B fn h0 s Q) (k : ∀ v h', Q v h' → Q' v h') : Run η P B fn h0 s Q' := by
  intro ρ0 w0 ρ fr cs w cs0 p0 p r
  obtain ⟨v, h', ρ', fr', w', x, q, r⟩ := c ρ0 w0 ρ fr cs w cs0 p0 p r
  exact ⟨v, h', ρ', fr', w', x, k _ _ q, r⟩
theorem CallSpec.enter {f : FuncId} {args : List Value} {h : AH} {fr : AF} {Q : Value → AH → Prop} (he : enterA P f args .normal = .ok fr) (r : Run η P B f h ⟨fr, [], h⟩ Q) : CallSpec η P B f args h Q := by
  intro ρ args' w cs l p
  exact r ρ w ρ (Frame.enter P f args' .normal) [] w cs p (.refl p) ⟨enter_ok he l, .nil, p⟩
theorem Run.step (hη : OneCells η) {nest : Nest} (hreg : RegOk η P B nest) {fn : FuncId} {h0 : AH} {s s' : AS} {Q : Value → AH → Prop} (hs : stepA P nest s = .ok (.next s')) (r : Run η P B fn h0 s' Q) : Run η P B fn h0 s Q := by
  intro ρ0 w0 ρ fr cs w cs0 p0 p R
  rcases stepA_ok (cs0 := cs0) hη hreg R hs with ⟨s2, he, ρ1, fr1, cs1, w1, k1, k2, k3⟩ | ⟨v2, he, _⟩
  · injection he with he; subst he
    obtain ⟨v, h', ρ', fr', w', x, q, l1, l2, l3, l4, l5⟩ := r ρ0 w0 ρ1 fr1 cs1 w1 cs0 p0 (p.trans k2) k1
    exact ⟨v, h', ρ', fr', w', x, q, l1, l2, l3, l4, k3.trans l5⟩
  · cases he
theorem Run.done (hη : OneCells η) {nest : Nest} (hreg : RegOk η P B nest) {fn : FuncId} {h0 h' : AH} {s : AS} {v : Value} {Q : Value → AH → Prop} (hs : stepA P nest s = .ok (.done fn v h')) (q : Q v h') : Run η P B fn h0 s Q := by
  intro ρ0 w0 ρ fr cs w cs0 p0 p R
  rcases stepA_ok (cs0 := cs0) hη hreg R hs with ⟨s2, he, _⟩ | ⟨v2, he, hcs, x, hx, hl⟩
  · cases he
  · injection he with e1 e2 e3; subst e1; subst e2; subst e3
    have hc := R.cs
    rw [hcs] at hc
    have := hc.inv_nil; subst this
    exact ⟨v, s.hp, ρ, fr, w, x, q, p, hx, R.fr.fn, hl, .refl _ _⟩
def runN' (P : Program) (nest : Nest) : Nat → AS → M AS
  | 0, s => .ok s
  | n + 1, s => match stepA P nest s with
    | .ok (.next s) => runN' P nest n s
    | .ok (.done ..) => no "done"
    | .error e => .error e
theorem Run.steps (hη : OneCells η) {nest : Nest} (hreg : RegOk η P B nest) {fn : FuncId} {h0 : AH} {Q : Value → AH → Prop} {s' : AS} : ∀ (n : Nat) {s : AS}, runN' P nest n s = .ok s' → Run η P B fn h0 s' Q → Run η P B fn h0 s Q
  | 0, s, hs, r => by rw [runN', okk] at hs; subst hs; exact r
  | n + 1, s, hs, r => by
    rw [runN'] at hs
    split at hs
    · rename_i s1 h1; exact .step hη hreg h1 (Run.steps hη hreg n hs r)
    · simp [no] at hs
    · cases hs
theorem Run.call (hη : OneCells η) {fn g : FuncId} {args : List Value} {h0 h1 : AH} {s : AS} {ops : Array Oper} {i : Nat} {rest : List Nat} {k : List Item} {o : Oper} {Q1 Q : Value → AH → Prop} (hm : s.fr.mode = .run) (ht : s.fr.todo = .inRegion ops (i :: rest) :: k) (ho : ops.toList[i]? = some o)
    (hw : wantedA ops.toList s.fr.tm o = .ok true) (hx : execA P (evA s.fr.tm) o s.hp = .ok (.enter g args, h1)) (hc : CallSpec η P B g args h1 Q1) (r : ∀ v h', Q1 v h' → ∃ f2, s.fr.finish v = .ok f2 ∧ Run η P B fn h0 ⟨f2, s.cs, h'⟩ Q) : Run η P B fn h0 s Q := by
  intro ρ0 w0 ρ fr cs w cs0 p0 p R
  obtain ⟨f, acs, hp⟩ := s
  simp only at hm ht hw hx r p
  have F := R.fr
  have hC := R.cs
  have hP := R.pre
  simp only at F hC hP
  have hmode : fr.mode = .run := by
    have h := F.mode
    rw [hm] at h
    generalize fr.mode = m at h
    cases h; rfl
  obtain ⟨k', htodo, hk⟩ : ∃ k', fr.todo = .inRegion ops (i :: rest) :: k' ∧ L2 (ItR ρ) k k' := by
    have h := F.todo
    rw [ht] at h
    obtain ⟨y, k', e, hy, hk⟩ := h.inv_cons
    cases hy
    exact ⟨k', e, hk⟩
  have ho' : ops[i]? = some o := by rw [← Array.getElem?_toList]; exact ho
  have hwant := wanted_ok (ops := ops) F.tm hw
  have hE := execA_ok (w := w) hη hP (o := o) (σ := evA f.tm) (τ := fr.eval) (fun x hx => evA_ok hP.glob F.tm hx) hx
  obtain ⟨ρ1, w1, ⟨xs, hu, hl⟩, hpost⟩ := hE
  have hP1 := hP.post hpost
  obtain ⟨v, h', ρ2, fr2, w2, u, q1, hp2, hv2, _, hleave, hst⟩ := hc ρ1 xs w1 (fr :: (cs ++ cs0)) hl hP1
  obtain ⟨f2, hf2, r2⟩ := r v h' q1
  have hle := Env.le_trans hpost.le hp2.le
  have F2 := finish_ok hf2 (F.mono hle) hv2
  have hd : ∀ c, o.op ≠ .defer c := by
    intro c hcc
    unfold execA at hx
    rw [ite_no] at hx
    have hx := hx.2
    simp only [hcc, kindOf, effA, bind_ok] at hx
    obtain ⟨⟨t, av⟩, _, hx⟩ := hx
    rw [okk] at hx; injection hx with e1 e2; cases e1
  obtain ⟨v', h2, ρ', fr', w', x, q, l1, l2, l3, l4, l5⟩ := r2 ρ0 w0 ρ2 (fr.finish u) cs w2 cs0 p0 (p.trans (hpost.trans hp2)) ⟨F2, L2.map_mono hle hC, hP1.post hp2⟩
  refine ⟨v', h2, ρ', fr', w', x, q, l1, l2, l3, l4, ?_⟩
  have hnc : notCall fr := fun d b r s k hh => by rw [htodo] at hh; cases hh
  refine ((one_go (fr' := Frame.enter P g xs .normal) (cs' := fr :: (cs ++ cs0)) (w' := w1) ?_).trans (hst.trans (.one ?_))).trans l5
  · rw [stepG_region hmode htodo ho' hwant (.inr hd), apply_enter hnc hu]
  · rw [step_leave_returned hleave]
theorem CallSpec.calls {f : FuncId} {args : List Value} {args' : Array Value} {h : AH} {ρ : Env} {w : World} {Q : Value → AH → Prop} (c : CallSpec η P B f args h Q) (hl : LR η ρ args args'.toList) (p : Pre η P ρ B h w) :
    Calls P f args' w fun e w' => ∃ v h' ρ' x, e = .returned x ∧ Q v h' ∧ VR η ρ' v x ∧ Post η ρ B h w ρ' h' w' := by
  intro cs
  obtain ⟨v, h', ρ', fr', w', x, q, k1, k2, k3, k4, k5⟩ := c ρ args' w cs hl p
  exact ⟨.returned x, w', fr', ⟨v, h', ρ', x, rfl, q, k2, k1⟩, k5, k3, k4⟩
theorem NestOk.of {nest : Nest} (k : ∀ f args h v h', nest f args h = .ok (v, h') → CallSpec η P B f args h fun v1 h1 => v1 = v ∧ h1 = h') : NestOk η P B nest := by
  intro f args h h' v hn ρ args' w cs l p
  obtain ⟨v1, h1, ρ', fr', w', x, ⟨e1, e2⟩, r⟩ := k f args h v h' hn ρ args' w cs l p
  subst e1; subst e2
  exact ⟨ρ', fr', w', x, r⟩
theorem CallSpec.eval (hη : OneCells η) (hmix : P.follows .mixedOrders = true) {fuel depth : Nat} {f : FuncId} {args : List Value} {h h' : AH} {v : Value} (hc : callA P fuel depth f args h = .ok (v, h')) : CallSpec η P B f args h fun v1 h1 => v1 = v ∧ h1 = h' := by
  intro ρ args' w cs l p
  obtain ⟨ρ', fr', w', x, r⟩ := nestA_ok hη hmix fuel (depth + 1) f args h h' v hc ρ args' w cs l p
  exact ⟨v, h', ρ', fr', w', x, ⟨rfl, rfl⟩, r⟩
end Go.Ev
namespace Go.Ev
variable {η : Nat → Value} {P : Program} {B : Bd}
def stopAt (s : AS) : Bool :=
  match s.fr.mode, s.fr.todo with
  | .run, .code (.cond _ _ _) :: _ => true
  | .run, .code (.loop _) :: _ => true
  | .run, .inLoop _ :: _ => true
  | .run, .inRegion ops (i :: _) :: _ => match ops.toList[i]? with
    | some { op := .call { callee := .builtin _, .. }, .. } => false
    | some { op := .call _, .. } => true
    | _ => false
  | .run, _ => false
  | _, _ => true
def runTo (P : Program) (nest : Nest) : Nat → AS → M AS
  | 0, _ => no "fuel"
  | n + 1, s => match stepA P nest s with
    | .ok (.next s) => if stopAt s then .ok s else runTo P nest n s
    | .ok (.done ..) => no "done"
    | .error e => .error e
theorem Run.to (hη : OneCells η) {nest : Nest} (hreg : RegOk η P B nest) {fn : FuncId} {h0 : AH} {Q : Value → AH → Prop} {s' : AS} : ∀ (n : Nat) {s : AS}, runTo P nest n s = .ok s' → Run η P B fn h0 s' Q → Run η P B fn h0 s Q
  | 0, s, hs, r => by simp [runTo, no] at hs
  | n + 1, s, hs, r => by
    rw [runTo] at hs
    split at hs
    · rename_i s1 h1
      split at hs
      · rw [okk] at hs; subst hs; exact .step hη hreg h1 r
      · exact .step hη hreg h1 (Run.to hη hreg n hs r)
    · simp [no] at hs
    · cases hs
theorem Run.go (hη : OneCells η) {nest : Nest} (hreg : RegOk η P B nest) {fn : FuncId} {h0 : AH} {Q : Value → AH → Prop} {s : AS} (n : Nat) (k : ∀ X, runTo P nest n s = X → ∃ s', X = .ok s' ∧ Run η P B fn h0 s' Q) : Run η P B fn h0 s Q := by
  obtain ⟨s', h1, h2⟩ := k _ rfl
  exact .to hη hreg n h1 h2
theorem Run.fin (hη : OneCells η) {nest : Nest} (hreg : RegOk η P B nest) {fn : FuncId} {h0 : AH} {Q : Value → AH → Prop} {s : AS} (k : ∀ X, stepA P nest s = X → ∃ v h', X = .ok (.done fn v h') ∧ Q v h') : Run η P B fn h0 s Q := by
  obtain ⟨v, h', h1, h2⟩ := k _ rfl
  exact .done hη hreg h1 h2
theorem CallSpec.go {f : FuncId} {args : List Value} {h : AH} {Q : Value → AH → Prop} (k : ∀ X, enterA P f args .normal = X → ∃ fr, X = .ok fr ∧ Run η P B f h ⟨fr, [], h⟩ Q) : CallSpec η P B f args h Q := by
  obtain ⟨fr, h1, h2⟩ := k _ rfl
  exact .enter h1 h2
theorem Run.cond (hη : OneCells η) {nest : Nest} (hreg : RegOk η P B nest) {fn : FuncId} {h0 : AH} {Q : Value → AH → Prop} {fr : AF} {cs : List AF} {h : AH} {c : Operand} {thn els : Code} {k : List Item} {b : Bool} (hm : fr.mode = .run) (ht : fr.todo = .code (.cond c thn els) :: k) (hb : evA fr.tm c = .bool b)
    (h1 : b = true → Run η P B fn h0 ⟨{ fr with todo := .code thn :: k }, cs, h⟩ Q) (h2 : b = false → Run η P B fn h0 ⟨{ fr with todo := .code els :: k }, cs, h⟩ Q) : Run η P B fn h0 ⟨fr, cs, h⟩ Q := by
  have hs : stepA P nest ⟨fr, cs, h⟩ = .ok (.next ⟨{ fr with todo := .code (if b then thn else els) :: k }, cs, h⟩) := by
    unfold stepA
    simp only [hm, ht, hb]
  refine .step hη hreg hs ?_
  cases b with
  | true => exact h1 rfl
  | false => exact h2 rfl
end Go.Ev
namespace Go.Ev
def codeAt : Code → List Nat → Code
  | .seq a b, n :: p => codeAt (if n = 0 then a else b) p
  | .cond _ a b, n :: p => codeAt (if n = 0 then a else b) p
  | .block _ a, _ :: p => codeAt a p
  | .loop a, _ :: p => codeAt a p
  | .scope a, _ :: p => codeAt a p
  | .rangeFunc _ _ a b, n :: p => codeAt (if n = 0 then a else b) p
  | c, _ => c
def opsAt (c : Code) (p : List Nat) : Array Oper :=
  match codeAt c p with
  | .region _ ops _ => ops
  | _ => #[]
end Go.Ev

namespace Go.Ev
set_option linter.unusedVariables false
set_option linter.unusedSimpArgs false
variable {η : Nat → Value}
section
variable {P : Program} {B : Bd} {nest : Nest} {ops : Array Oper} {base N n : Nat} {tm0 : T Value} {h0 : AH} {s : RS} {ρ0 : Env} {h : AH} {w0 : World} {S : Nat → Bool} {ρ : Env} {tmps : Array Value} {w : World} {k : Nat} {hk : AH}
theorem go_none {fuel t : Nat} {listed : Array Bool} (hsz : listed.size = ops.size) (hall : ∀ j, j < ops.size → listed.getD j false = true) : Region.linearise.go .any ops fuel t listed [] = [] := by
  cases fuel with
  | zero => simp [Region.linearise.go]
  | succ fuel =>
    simp only [Region.linearise.go]
    change (match (Region.ready .any ops listed)[t % (Region.ready .any ops listed).length]? with
      | some i => Region.linearise.go .any ops fuel (t / (Region.ready .any ops listed).length) (listed.setIfInBounds i true) [i]
      | none => [].reverse) = []
    have hr : Region.ready .any ops listed = [] := by
      cases hr : Region.ready .any ops listed with
      | nil => rfl
      | cons i l =>
        exfalso
        have hm : i ∈ Region.ready .any ops listed := by rw [hr]; simp
        rw [mem_ready] at hm
        obtain ⟨hun, o, ho, _⟩ := hm
        have hi := (Array.getElem?_eq_some_iff.1 ho).1
        have h2 := hall i hi
        have hil : i < listed.size := by omega
        rw [Array.getD_eq_getD_getElem?, Array.getElem?_eq_getElem hil] at hun h2
        simp at hun h2
        rw [h2] at hun; cases hun
    rw [hr]; rfl
theorem lin_runP (hη : OneCells η) (hnest : NestOk η P B nest) (cs : List Frame) (G : Good P nest ops.toList base n tm0 h0 s) (hN : s.ents.length + 1 = ops.size) {last : Oper} (hlo : ops[s.ents.length]? = some last) (hpre : ∀ e ∈ last.after.toList, Region.binds .any e = true → e.on < s.ents.length)
    (hcov : ∀ j, j < s.ents.length → ∃ e ∈ last.after.toList, Region.binds .any e = true ∧ (j = e.on ∨ (mkE s.ents e.on).testBit j = true)) : ∀ (fuel t : Nat) (listed : Array Bool) (ρ : Env) (tmps : Array Value) (w : World) (k : Nat) (hk : AH) (fr : Frame) (kk : List Item),
    listed.size = ops.size → listed.getD s.ents.length false = false → listed.toList.countP (· == false) ≤ fuel → RInv η P B s base ops.size n tm0 ρ0 h w0 (fun j => listed.getD j false) ρ tmps w k hk → fr.mode = .run → fr.todo = .inRegion ops (Region.linearise.go .any ops fuel t listed []) :: kk → fr.tmps = tmps →
    ∃ S' ρ' tmps' w' k' hk', (∀ j, j < s.ents.length → S' j = true) ∧ RInv η P B s base ops.size n tm0 ρ0 h w0 S' ρ' tmps' w' k' hk' ∧ Steps P (lone fr cs w) (lone { fr with tmps := tmps', todo := .inRegion ops [s.ents.length] :: kk } cs w') := by
  intro fuel
  induction fuel with
  | zero =>
    intro t listed ρ tmps w k hk fr kk hsz hlast hc I hm ht hfr
    exfalso
    have hjl : s.ents.length < listed.size := by omega
    have h0 : listed.toList.countP (· == false) = 0 := by omega
    rw [List.countP_eq_zero] at h0
    have := h0 listed[s.ents.length] (by simp)
    rw [Array.getD_eq_getD_getElem?, Array.getElem?_eq_getElem hjl] at hlast
    simp at hlast this
    rw [hlast] at this; cases this
  | succ fuel ih =>
    intro t listed ρ tmps w k hk fr kk hsz hlast hc I hm ht hfr
    simp only [Region.linearise.go] at ht
    change fr.todo = .inRegion ops (match (Region.ready .any ops listed)[t % (Region.ready .any ops listed).length]? with
      | some i => Region.linearise.go .any ops fuel (t / (Region.ready .any ops listed).length) (listed.setIfInBounds i true) [i]
      | none => [].reverse) :: kk at ht
    cases hi : (Region.ready .any ops listed)[t % (Region.ready .any ops listed).length]? with
    | none =>
      rw [hi] at ht
      have hnil : Region.ready .any ops listed = [] := by
        cases hr : Region.ready .any ops listed with
        | nil => rfl
        | cons x xs =>
          rw [hr] at hi
          have hlt : t % (x :: xs).length < (x :: xs).length := Nat.mod_lt _ (by simp)
          rw [List.getElem?_eq_none_iff] at hi
          omega
      exfalso
      -- all of the others are done
      have hall : ∀ j, j < s.ents.length → listed.getD j false = true := by
        intro j
        induction j using Nat.strongRecOn with
        | _ j ihj =>
          intro hj
          cases hl : listed.getD j false with
          | true => rfl
          | false =>
            exfalso
            have hjl : j < listed.size := by omega
            have K := G.ent j _ (List.getElem?_eq_getElem hj)
            have hmem : j ∈ Region.ready .any ops listed := by
              rw [mem_ready]
              refine ⟨?_, _, by rw [← Array.getElem?_toList]; exact K.o, fun e he hb => ?_⟩
              · rw [Array.getD_eq_getD_getElem?, Array.getElem?_eq_getElem hjl] at hl ⊢
                simpa using hl
              · have := (K.pre e (by simpa using he) hb).1
                exact ihj e.on this (by omega)
            rw [hnil] at hmem; cases hmem
      have hjl : s.ents.length < listed.size := by omega
      have hmem : s.ents.length ∈ Region.ready .any ops listed := by
        rw [mem_ready]
        refine ⟨?_, _, hlo, fun e he hb => hall e.on (hpre e (by simpa using he) hb)⟩
        rw [Array.getD_eq_getD_getElem?, Array.getElem?_eq_getElem hjl] at hlast ⊢
        simpa using hlast
      rw [hnil] at hmem; cases hmem
    | some i =>
      rw [hi] at ht
      simp only at ht
      rw [linearise_go_acc, List.reverse_singleton, List.singleton_append] at ht
      have hmem := List.mem_of_getElem? hi
      rw [mem_ready] at hmem
      obtain ⟨hun, o, ho, hall⟩ := hmem
      have hil : i < ops.size := (Array.getElem?_eq_some_iff.1 ho).1
      by_cases hie : i < s.ents.length
      rotate_left
      · have hie : i = s.ents.length := by omega
        subst hie
        rw [hlo] at ho
        injection ho with ho
        subst ho
        have hdone : ∀ j, j < s.ents.length → listed.getD j false = true := by
          intro j hj
          obtain ⟨e, he, hb, hcase⟩ := hcov j hj
          have hS := hall e (by simpa using he) hb
          rcases hcase with rfl | hcase
          · exact hS
          · have hel := hpre e he hb
            have hx := List.getElem?_eq_getElem hel
            rw [mkE_of hx] at hcase
            exact I.mask' G hx hS j hcase
        have hrest : Region.linearise.go .any ops fuel (t / (Region.ready .any ops listed).length) (listed.setIfInBounds s.ents.length true) [] = [] := by
          refine go_none (by simp [hsz]) fun j hj => ?_
          rw [Array.getD_eq_getD_getElem?]
          by_cases hje : j = s.ents.length
          · subst hje; simp [hsz, hj]
          · rw [Array.getElem?_setIfInBounds_ne (fun e => hje e.symm), ← Array.getD_eq_getD_getElem?]
            exact hdone j (by omega)
        rw [hrest] at ht
        refine ⟨_, ρ, tmps, w, k, hk, hdone, I, ?_⟩
        obtain ⟨fn, tmps2, todo, defers, mode, kind, roundOf⟩ := fr
        simp only at hm ht hfr
        subst hm; subst ht; subst hfr
        exact .refl _ _
      have hisz : i < listed.size := by omega
      have hx := List.getElem?_eq_getElem hie
      have K := G.ent i _ hx
      have hoo : o = s.ents[i].o := by
        have := K.o
        rw [Array.getElem?_toList, ho] at this
        exact Option.some.inj this
      have hli : listed.getD i false = false := by
        rw [Array.getD_eq_getD_getElem?, Array.getElem?_eq_getElem hisz] at hun ⊢
        simpa using hun
      obtain ⟨ρ1, tmps1, w1, k1, hk1, I1, hst⟩ := op_run hη hnest cs G I hx (fun e he hb => hall e (by rw [hoo]; simpa using he) hb) hli hil hm ht hfr
      have hS : (fun j => listed.getD j false || j == i) = fun j => (listed.setIfInBounds i true).getD j false := by
        funext j
        simp only [Array.getD_eq_getD_getElem?]
        by_cases hji : j = i
        · subst hji; simp [hisz]
        · rw [Array.getElem?_setIfInBounds_ne (fun e => hji e.symm)]; simp [hji]
      rw [hS] at I1
      have hcnt : (listed.setIfInBounds i true).toList.countP (· == false) ≤ fuel := by
        rw [Array.toList_setIfInBounds, List.countP_set (h := by simpa using hisz)]
        have hli' : listed.toList[i] = false := by
          rw [Array.getD_eq_getD_getElem?, Array.getElem?_eq_getElem hisz] at hli
          simpa using hli
        rw [hli']
        have e1 : (false == false) = true := rfl
        have e2 : (true == false) = false := rfl
        simp only [e1, e2, if_true, Bool.false_eq_true, if_false]
        omega
      obtain ⟨S', ρ2, tmps2, w2, k2, hk2, g1, g2, g3⟩ := ih _ _ ρ1 tmps1 w1 k1 hk1 { fr with tmps := tmps1, todo := .inRegion ops (Region.linearise.go .any ops fuel (t / (Region.ready .any ops listed).length) (listed.setIfInBounds i true) []) :: kk } kk (by simp [hsz]) (by rw [Array.getD_eq_getD_getElem?, Array.getElem?_setIfInBounds_ne (by omega), ← Array.getD_eq_getD_getElem?]; exact hlast) hcnt I1 hm rfl rfl
      exact ⟨S', ρ2, tmps2, w2, k2, hk2, g1, g2, hst.trans g3⟩
end
section
variable {P : Program} {B : Bd}
theorem regionP_ok (hη : OneCells η) (hmix : P.follows .mixedOrders = true) {nest : Nest} (hnest : NestOk η P B nest) {ops : Array Oper} {n : Nat} {tm : T Value} {h : AH} {s : RS} {last : Oper} {m : Nat} (h1n : 0 < ops.size)
    (hs : regLoop P n h.next nest ops.toList (ops.toList.take (ops.size - 1)) 0 { tm, h := { h with next := h.next + ops.toList.length }, hh := [{ h with next := h.next + ops.toList.length }], ee := [], al := [], masks := [], ents := [] } = .ok s) (hlo' : ops.toList[ops.size - 1]? = some last)
    (hma : maskOf s.masks (ops.size - 1) last.after.toList = .ok m) (hfull : ∀ j, j < ops.size - 1 → m.testBit j = true) {ρ : Env} {fr : Frame} {w : World} {kk : List Item} {id : Nat} {cs : List Frame} (ht : TR η ρ tm n fr.tmps) (p : Pre η P ρ B h w) (hm : fr.mode = .run) (hto : fr.todo = .code (.region id ops true) :: kk) :
    ∃ ρ' tmps' w', TR η ρ' s.tm n tmps' ∧ Post η ρ B h w ρ' (finalH s.h s.al) w' ∧ Steps P (lone fr cs w) (lone { fr with tmps := tmps', todo := .inRegion ops [ops.size - 1] :: kk } cs w') := by
  obtain ⟨G, hlen⟩ := regLoop_good (base := h.next) (n := n) (tm0 := tm) (ops := ops.toList) (P := P) (nest := nest) (h0 := { h with next := h.next + ops.toList.length }) (Good.start _) (fun j o hj => by
    rw [List.getElem?_take] at hj
    split at hj
    · simpa using hj
    · cases hj) hs
  have hlen : s.ents.length = ops.size - 1 := by rw [hlen]; simp
  have hN : s.ents.length + 1 = ops.size := by omega
  obtain ⟨mk1, mk2⟩ := maskOf_ok hma
  have hlo : ops[s.ents.length]? = some last := by rw [← Array.getElem?_toList, hlen]; exact hlo'
  have hpre : ∀ e ∈ last.after.toList, Region.binds .any e = true → e.on < s.ents.length := fun e he hb => by rw [hlen]; exact (mk1 e he hb).1
  have hcov : ∀ j, j < s.ents.length → ∃ e ∈ last.after.toList, Region.binds .any e = true ∧ (j = e.on ∨ (mkE s.ents e.on).testBit j = true) := fun j hj => by
    obtain ⟨e, he, hb, _, hc⟩ := mk2 j (hfull j (by omega))
    rw [G.msk e.on] at hc
    exact ⟨e, he, hb, hc⟩
  have hsz : ops.toList.length = ops.size := rfl
  -- nothing is done
  have hin : ∀ (S : Nat → Bool) r a, (∀ j, S j = false) → InS s.ents s.ee h.next S 0 { h with next := h.next + ops.toList.length } r a → h.objs.get r = some a := by
    rintro S r a hS (h1 | ⟨j, _, _, h3, _⟩)
    · exact h1
    · rw [hS] at h3; cases h3
  have hall : ∀ j, (Array.replicate ops.size false).getD j false = false := by
    intro j
    rw [Array.getD_eq_getD_getElem?, Array.getElem?_replicate]
    split <;> rfl
  have I0 : RInv η P B s h.next ops.size n tm ρ h w (fun j => (Array.replicate ops.size false).getD j false) ρ fr.tmps { w with drawn := w.drawn + 1 } 0 { h with next := h.next + ops.toList.length } := by
    refine ⟨fun j x hx hj => ?_, fun j hj => ?_, ?_, G.hd, Nat.zero_le _, fun m e he => ?_, ⟨fun r a hI => p.hr.obj r a (hin _ r a hall hI), fun r r' a a' b d m d' m' h1 h2 => p.hr.inj r r' a a' b d m d' m' (hin _ _ _ hall h1) (hin _ _ _ hall h2), fun r a b d m h1 => p.hr.sh r a b d m (hin _ _ _ hall h1), (fun j a b d m _ h3 => by rw [hall] at h3; cases h3), by rw [hsz]; exact Nat.le_refl _, fun r hr => p.fresh r ?_, ?_, ?_, ?_⟩, fun j hj _ => p.fresh _ (by omega), Env.le_refl _, fun _ _ => rfl, p.glob, ⟨rfl, rfl, rfl, Nat.le_refl _, fun _ _ _ => rfl⟩, p.low⟩
    · rw [hall] at hj; cases hj
    · rw [hall] at hj; cases hj
    · refine TR.congr (fun t => ?_) ht
      rw [tmS_get]
      exact wr_none fun j x _ _ => by rw [Nat.zero_add]; exact hall j
    · rw [hall]; constructor
      · intro h; cases h
      · intro h; omega
    · simp only at hr; omega
    · intro j hj _
      show h.objs.get (h.next + j) = none
      cases hg : h.objs.get (h.next + j) with
      | none => rfl
      | some a => have := p.get_lt hg; omega
    · rintro b ⟨r, a, d, m, h1, h2, h3⟩
      exact .inl ⟨r, a, d, m, hin _ _ _ hall h1, h2, h3⟩
    · rintro b ⟨r, a, d, m, h1, h3⟩
      exact .inl ⟨r, a, d, m, hin _ _ _ hall h1, h3⟩
  obtain ⟨S', ρ', tmps', w', k', hk', g1, I, g3⟩ := lin_runP hη hnest cs G hN hlo hpre hcov ops.size (w.tape w.drawn (.order fr.fn id)) (Array.replicate ops.size false) ρ fr.tmps { w with drawn := w.drawn + 1 } 0 _
    { fr with todo := .inRegion ops (Region.linearise.go .any ops ops.size (w.tape w.drawn (.order fr.fn id)) (Array.replicate ops.size false) []) :: kk } kk (by simp) (hall _) (Nat.le_trans List.countP_le_length (by simp)) I0 hm rfl rfl
  rw [hlen] at g3
  -- all effects are done
  have hk : k' = s.ee.length := by
    rcases Nat.lt_or_ge k' s.ee.length with hlt | hge
    · have he := G.ee_lt (List.getElem?_eq_getElem hlt)
      have := (I.ks k' s.ee[k'] (List.getElem?_eq_getElem hlt)).1 (g1 _ (by omega))
      exact absurd this (Nat.lt_irrefl _)
    · exact Nat.le_antisymm I.kle hge
  subst hk
  have hhk : hk' = s.h := by have := I.hhk; rw [G.hl] at this; exact (Option.some.inj this).symm
  subst hhk
  have hfin : ∀ r a, (finalH s.h s.al).objs.get r = some a → InS s.ents s.ee h.next S' s.ee.length s.h r a := by
    intro r a hg
    rcases finalH_get _ hg with h1 | ⟨j, h1⟩
    · exact .inl h1
    · obtain ⟨e1, e2, e3⟩ := G.al j r a h1
      exact .inr ⟨j, e1, e2, g1 j (by have := alOf_lt e2; omega), e3⟩
  refine ⟨ρ', tmps', w', ?_, ⟨I.le, I.old, ?_, ?_, ⟨fun r a hg => I.H.obj r a (hfin r a hg), fun r r' a a' b d m d' m' h1 h2 => I.H.inj r r' a a' b d m d' m' (hfin _ _ h1) (hfin _ _ h2), fun r a b d m h1 => I.H.sh r a b d m (hfin _ _ h1)⟩, I.fr, ?_, ?_⟩, ?_⟩
  · refine TR.congr (fun t => ?_) I.tmr
    rw [G.tm t, tmS_get]
    refine wr_congr fun j x hx _ => ?_
    have hj := (List.getElem?_eq_some_iff.1 hx).1
    rw [Nat.zero_add, g1 j (by omega)]
    simpa using hj
  · intro r hr
    rw [finalH_next] at hr
    exact I.H.fresh r hr
  · rw [finalH_next]
    have := I.H.nx; omega
  · rintro b ⟨r, a, d, m, h1, h2, h3⟩
    exact I.H.own b ⟨r, a, d, m, hfin _ _ h1, h2, h3⟩
  · rintro b ⟨r, a, d, m, h1, h3⟩
    exact I.H.inn b ⟨r, a, d, m, hfin _ _ h1, h3⟩
  · refine Steps.trans (one_go (fr' := { fr with todo := .inRegion ops (Region.linearise.go .any ops ops.size (w.tape w.drawn (.order fr.fn id)) (Array.replicate ops.size false) []) :: kk }) (cs' := cs) (w' := { w with drawn := w.drawn + 1 }) ?_) g3
    obtain ⟨fn, tmps2, todo, defers, mode, kind, roundOf⟩ := fr
    simp only at hm hto
    subst hm; subst hto
    simp [stepG, run0, stepG.exec, choose, Sem.run, Question.forced, Question.cut, Region.schedule, hmix, Region.linearise]

def splitA (P : Program) (nest : Nest) (s : AS) : M AS :=
  match s.fr.mode, s.fr.todo with
  | .run, .code (.region _ ops true) :: k =>
    match ops.toList[ops.size - 1]? with
    | some last => do
      let r ← regLoop P s.fr.n s.hp.next nest ops.toList (ops.toList.take (ops.size - 1)) 0 { tm := s.fr.tm, h := { s.hp with next := s.hp.next + ops.toList.length }, hh := [{ s.hp with next := s.hp.next + ops.toList.length }], ee := [], al := [], masks := [], ents := [] }
      let m ← maskOf r.masks (ops.size - 1) last.after.toList
      if (List.range (ops.size - 1)).all (fun j => m.testBit j) = true then .ok ⟨{ s.fr with tm := r.tm, todo := .inRegion ops [ops.size - 1] :: k }, s.cs, finalH r.h r.al⟩ else no "split: not behind all"
    | none => no "split"
  | _, _ => no "split: no region"
theorem Run.split (hη : OneCells η) (hmix : P.follows .mixedOrders = true) {nest : Nest} (hnest : NestOk η P B nest) {fn : FuncId} {h0 : AH} {s s' : AS} {Q : Value → AH → Prop} (hs : splitA P nest s = .ok s') (r : Run η P B fn h0 s' Q) : Run η P B fn h0 s Q := by
  intro ρ0 w0 ρ fr cs w cs0 p0 p R
  obtain ⟨f, acs, hp⟩ := s
  have F := R.fr
  simp only at F
  obtain ⟨fn', tmps, todo, defers, mode, kind, roundOf⟩ := fr
  have hmode := F.mode
  have htodo := F.todo
  simp only at hmode htodo
  unfold splitA at hs
  dsimp only at hs
  split at hs
  · rename_i id ops k hfm he
    rw [hfm] at hmode
    cases hmode
    rw [he] at htodo
    obtain ⟨y, k', rfl, hy, hk⟩ := htodo.inv_cons
    cases hy
    split at hs
    · rename_i last hlast
      simp only [bind_ok] at hs
      obtain ⟨rs, hrs, m, hma, hs⟩ := hs
      rw [ite_no', okk] at hs
      obtain ⟨hfull, rfl⟩ := hs
      have h1n : 0 < ops.size := by
        have := (List.getElem?_eq_some_iff.1 hlast).1
        simp at this
        omega
      obtain ⟨ρ', tmps', w', k1, k2, k3⟩ := regionP_ok hη hmix hnest h1n hrs hlast hma (fun j hj => by
        rw [List.all_eq_true] at hfull
        exact hfull j (List.mem_range.2 hj)) (fr := { fn := fn', tmps, todo := .code (.region id ops true) :: k', defers, mode := .run, kind, roundOf }) (cs := cs ++ cs0) F.tm R.pre rfl rfl
      have F' := F.mono k2.le
      obtain ⟨v, h', ρ2, fr', w2, x, q, l1, l2, l3, l4, l5⟩ := r ρ0 w0 ρ' { fn := fn', tmps := tmps', todo := .inRegion ops [ops.size - 1] :: k', defers, mode := .run, kind, roundOf } cs w' cs0 p0 (p.trans k2)
        ⟨⟨F'.fn, k1, .cons (.inRegion ops _) (hk.mono fun _ _ => ItR.mono k2.le), F'.defers, F'.mode, F'.kind, F'.round⟩, L2.map_mono k2.le R.cs, R.pre.post k2⟩
      exact ⟨v, h', ρ2, fr', w2, x, q, l1, l2, l3, l4, k3.trans l5⟩
    · cases hs
  · cases hs
end
end Go.Ev

namespace Go.Ev
set_option linter.unusedVariables false
set_option linter.unusedSimpArgs false
variable {η : Nat → Value} {P : Program} {B : Bd}
inductive RF (σ : Nat → Nat) (N : Nat) : Fn → Fn → Prop
  | same {f : Fn} (h : ∀ l, f ≠ .yield l) : RF σ N f f
  | yield {l : Nat} (h : l < N) : RF σ N (.yield l) (.yield (σ l))
inductive RV (σ : Nat → Nat) (N : Nat) (wk : Bool) : Value → Value → Prop
  | bool (b : Bool) : RV σ N wk (.bool b) (.bool b)
  | int (k : IntKind) (n : Int) : RV σ N wk (.int k n) (.int k n)
  | float (k : FloatKind) (b : Nat) : RV σ N wk (.float k b) (.float k b)
  | complex (k : FloatKind) (a b : Nat) : RV σ N wk (.complex k a b) (.complex k a b)
  | string (s : ByteArray) : RV σ N wk (.string s) (.string s)
  | ptr0 : RV σ N wk (.pointer none) (.pointer none)
  | ptr {r o : Nat} {s} (h : r < N) : RV σ N wk (.pointer (some ⟨r, o, s⟩)) (.pointer (some ⟨σ r, o, s⟩))
  | slice0 (l c : Nat) : RV σ N wk (.slice none l c) (.slice none l c)
  | slice {r o : Nat} {s} (l c : Nat) (h : r < N) : RV σ N wk (.slice (some ⟨r, o, s⟩) l c) (.slice (some ⟨σ r, o, s⟩) l c)
  | map0 : RV σ N wk (.map none) (.map none)
  | map {r : Nat} (h : r < N) : RV σ N wk (.map (some r)) (.map (some (σ r)))
  | func {f g : Fn} {a b c d : Array Value} (hf : RF σ N f g) (h1 : a.toList.length = c.toList.length) (h2 : b.toList.length = d.toList.length)
      (h3 : ∀ (i : Nat) (v x : Value), a.toList[i]? = some v → c.toList[i]? = some x → RV σ N wk v x) (h4 : ∀ (i : Nat) (v x : Value), b.toList[i]? = some v → d.toList[i]? = some x → RV σ N wk v x) : RV σ N wk (.func f a b) (.func g c d)
  | nilFunc : RV σ N wk .nilFunc .nilFunc
  | nilIface : RV σ N wk .nilIface .nilIface
  | iface (t : TypeId) {v x : Value} (h : RV σ N wk v x) : RV σ N wk (.iface t v) (.iface t x)
  | agg {a c : Array Value} (h1 : a.toList.length = c.toList.length) (h3 : ∀ (i : Nat) (v x : Value), a.toList[i]? = some v → c.toList[i]? = some x → RV σ N wk v x) : RV σ N wk (.agg a) (.agg c)
  | tuple {a c : Array Value} (h1 : a.toList.length = c.toList.length) (h3 : ∀ (i : Nat) (v x : Value), a.toList[i]? = some v → c.toList[i]? = some x → RV σ N wk v x) : RV σ N wk (.tuple a) (.tuple c)
  | chan (c : Option Nat) : RV σ N wk (.chan c) (.chan c)
  | any {v : Value} (hw : wk = true) (h : oneC v = true) : RV σ N wk (.chan none) v
theorem RV.up {σ : Nat → Nat} {N : Nat} {ρs ρ : Env} (hn : ∀ r t, r < N → ρs r = some t → ρ (σ r) = some t) {v v' x : Value} (k : RV σ N false v v') (h : VR η ρs v x) : VR η ρ v' x := by
  induction k generalizing x with
  | ptr h1 => cases h with | ptr h => exact .ptr (hn _ _ h1 h)
  | slice l c h1 => cases h with
    | slice _ _ h hc => exact .slice _ _ (hn _ _ h1 h) hc
    | sliceU _ s c h a b d e => exact .sliceU _ _ _ (hn _ _ h1 h) a b d e
  | map h1 => cases h with | map h => exact .map (hn _ _ h1 h)
  | func hf h1 h2 h3 h4 i3 i4 => cases h with
    | func kf k1 k2 k3 k4 =>
      refine .func ?_ (h1.symm.trans k1) (h2.symm.trans k2) (fun i v x hv hx => ?_) (fun i v x hv hx => ?_)
      · cases hf with
        | same hh => cases kf with
          | same h' => exact .same h'
          | yield h' => exact absurd rfl (hh _)
        | yield hh => cases kf with
          | same h' => exact absurd rfl (h' _)
          | yield h' => exact .yield (hn _ _ hh h')
      · have hi := (List.getElem?_eq_some_iff.1 hv).1
        rw [← h1] at hi
        exact i3 i _ v (List.getElem?_eq_getElem hi) hv (k3 i _ x (List.getElem?_eq_getElem hi) hx)
      · have hi := (List.getElem?_eq_some_iff.1 hv).1
        rw [← h2] at hi
        exact i4 i _ v (List.getElem?_eq_getElem hi) hv (k4 i _ x (List.getElem?_eq_getElem hi) hx)
  | iface t h1 ih => cases h with | iface _ h => exact .iface _ (ih h)
  | agg h1 h3 i3 => cases h with
    | agg k1 k3 =>
      refine .agg (h1.symm.trans k1) (fun i v x hv hx => ?_)
      have hi := (List.getElem?_eq_some_iff.1 hv).1
      rw [← h1] at hi
      exact i3 i _ v (List.getElem?_eq_getElem hi) hv (k3 i _ x (List.getElem?_eq_getElem hi) hx)
  | tuple h1 h3 i3 => cases h with
    | tuple k1 k3 =>
      refine .tuple (h1.symm.trans k1) (fun i v x hv hx => ?_)
      have hi := (List.getElem?_eq_some_iff.1 hv).1
      rw [← h1] at hi
      exact i3 i _ v (List.getElem?_eq_getElem hi) hv (k3 i _ x (List.getElem?_eq_getElem hi) hx)
  | slice0 l c => cases h with | slice0 _ _ hc => exact .slice0 _ _ hc | sliceE _ _ => exact .sliceE _ _ | sliceF _ _ => exact .sliceF _ _
  | bool b => cases h; exact .bool b
  | int k n => cases h; exact .int k n
  | float k n => cases h; exact .float k n
  | complex k a b => cases h; exact .complex k a b
  | string s => cases h; exact .string s
  | ptr0 => cases h; exact .ptr0
  | map0 => cases h; exact .map0
  | nilFunc => cases h; exact .nilFunc
  | nilIface => cases h; exact .nilIface
  | chan c => cases h with
    | opq i => exact .opq i
    | any h => exact .any h
  | any hw h1 => cases hw
theorem RV.dn (hη : OneCells η) {σ : Nat → Nat} {N : Nat} {wk : Bool} {ρs ρ : Env} (hn : ∀ r t, r < N → ρ (σ r) = some t → ρs r = some t) {v v' x : Value} (k : RV σ N wk v v') (h : VR η ρ v' x) : VR η ρs v x := by
  induction k generalizing x with
  | ptr h1 => cases h with | ptr h => exact .ptr (hn _ _ h1 h)
  | slice l c h1 => cases h with
    | slice _ _ h hc => exact .slice _ _ (hn _ _ h1 h) hc
    | sliceU _ s c h a b d e => exact .sliceU _ _ _ (hn _ _ h1 h) a b d e
  | map h1 => cases h with | map h => exact .map (hn _ _ h1 h)
  | func hf h1 h2 h3 h4 i3 i4 => cases h with
    | func kf k1 k2 k3 k4 =>
      refine .func ?_ (h1.trans k1) (h2.trans k2) (fun i v x hv hx => ?_) (fun i v x hv hx => ?_)
      · cases hf with
        | same hh => cases kf with
          | same h' => exact .same h'
          | yield h' => exact absurd rfl (hh _)
        | yield hh => cases kf with
          | same h' => exact absurd rfl (h' _)
          | yield h' => exact .yield (hn _ _ hh h')
      · have hi := (List.getElem?_eq_some_iff.1 hv).1
        rw [h1] at hi
        exact i3 i v _ hv (List.getElem?_eq_getElem hi) (k3 i _ x (List.getElem?_eq_getElem hi) hx)
      · have hi := (List.getElem?_eq_some_iff.1 hv).1
        rw [h2] at hi
        exact i4 i v _ hv (List.getElem?_eq_getElem hi) (k4 i _ x (List.getElem?_eq_getElem hi) hx)
  | iface t h1 ih => cases h with | iface _ h => exact .iface _ (ih h)
  | agg h1 h3 i3 => cases h with
    | agg k1 k3 =>
      refine .agg (h1.trans k1) (fun i v x hv hx => ?_)
      have hi := (List.getElem?_eq_some_iff.1 hv).1
      rw [h1] at hi
      exact i3 i v _ hv (List.getElem?_eq_getElem hi) (k3 i _ x (List.getElem?_eq_getElem hi) hx)
  | tuple h1 h3 i3 => cases h with
    | tuple k1 k3 =>
      refine .tuple (h1.trans k1) (fun i v x hv hx => ?_)
      have hi := (List.getElem?_eq_some_iff.1 hv).1
      rw [h1] at hi
      exact i3 i v _ hv (List.getElem?_eq_getElem hi) (k3 i _ x (List.getElem?_eq_getElem hi) hx)
  | slice0 l c => cases h with | slice0 _ _ hc => exact .slice0 _ _ hc | sliceE _ _ => exact .sliceE _ _ | sliceF _ _ => exact .sliceF _ _
  | bool b => cases h; exact .bool b
  | int k n => cases h; exact .int k n
  | float k n => cases h; exact .float k n
  | complex k a b => cases h; exact .complex k a b
  | string s => cases h; exact .string s
  | ptr0 => cases h; exact .ptr0
  | map0 => cases h; exact .map0
  | nilFunc => cases h; exact .nilFunc
  | nilIface => cases h; exact .nilIface
  | chan c => cases h with
    | opq i => exact .opq i
    | any h => exact .any h
  | any hw h1 => exact .any (h.oneC hη h1)
theorem lr_dn (hη : OneCells η) {σ : Nat → Nat} {N : Nat} {wk : Bool} {ρs ρ : Env} (hn : ∀ r t, r < N → ρ (σ r) = some t → ρs r = some t) {l l' : List Value} (k : L2 (RV σ N wk) l l') {m : List Value} (h : LR η ρ l' m) : LR η ρs l m := by
  induction k generalizing m with
  | nil => have := h.inv_nil; subst this; exact .nil
  | cons a _ ih =>
    obtain ⟨x, m', rfl, h1, h2⟩ := h.inv_cons
    exact .cons (a.dn hη hn h1) (ih h2)
theorem L2.get' {α β : Type} {R : α → β → Prop} {l : List α} {m : List β} (k : L2 R l m) : ∀ {i : Nat} {b : β}, m[i]? = some b → ∃ a, l[i]? = some a ∧ R a b := by
  induction k with
  | nil => intro i a h; simp at h
  | cons h _ ih =>
    intro i a e
    cases i with
    | zero => simp at e; subst e; exact ⟨_, rfl, h⟩
    | succ i => exact ih (by simpa using e)
def RE (σ : Nat → Nat) (N : Nat) (wk : Bool) (e e' : MapEntry) : Prop := RV σ N wk e.key e'.key ∧ RV σ N wk e.val e'.val ∧ e.born = e'.born
inductive RO (σ : Nat → Nat) (N : Nat) (wk : Bool) : AObj → AObj → Prop
  | cells (ty : TypeId) {c c' : List Value} (p : Bool) {own own' : Nat} (h : L2 (RV σ N wk) c c') (ho : own = own' ∨ (wk = true ∧ own = 0)) : RO σ N wk (.cells ty c p own) (.cells ty c' p own')
  | map {es es' : List MapEntry} (clock : Nat) {own own' : Bool} (h : L2 (RE σ N wk) es es') (ho : own = own' ∨ (wk = true ∧ own = false)) : RO σ N wk (.map es clock own) (.map es' clock own')
  | stringIter (s : ByteArray) (pos : Nat) : RO σ N wk (.stringIter s pos) (.stringIter s pos)
  | mapIter0 (since : Nat) (seen : List Nat) (last : Nat) : RO σ N wk (.mapIter none since seen last) (.mapIter none since seen last)
  | mapIter {m : Nat} (since : Nat) (seen : List Nat) (last : Nat) (h : m < N) : RO σ N wk (.mapIter (some m) since seen last) (.mapIter (some (σ m)) since seen last)
  | loop {st : LoopState} {pend : Option Code} {fn : FuncId} {tm tm' : T Value} {n : Nat} {ps : List Tmp} {asg body : Code} {ds : Nat} (hi : ∀ t, n ≤ t → tm.get t = none) (hi' : ∀ t, n ≤ t → tm'.get t = none) (ht : ∀ t, t < n → RV σ N wk ((tm.get t).getD undef) ((tm'.get t).getD undef)) (hd : ds < N) : RO σ N wk (.loop st pend fn tm n ps asg body ds) (.loop st pend fn tm' n ps asg body (σ ds))
  | deferred0 : RO σ N wk (.deferred none) (.deferred none)
  | deferred1 : RO σ N wk (.deferred (some [])) (.deferred (some []))
theorem RO.own {σ : Nat → Nat} {N : Nat} {wk : Bool} {a a' : AObj} (k : RO σ N wk a a') (h : ownO a = true) : ownO a' = true := by
  cases k with
  | cells ty p h1 ho => rcases ho with rfl | ⟨_, rfl⟩
                        · exact h
                        · simp [ownO] at h
  | map c h1 ho => rcases ho with rfl | ⟨_, rfl⟩
                   · exact h
                   · simp [ownO] at h
  | _ => rfl
theorem RO.sh {σ : Nat → Nat} {N : Nat} {wk : Bool} {a a' : AObj} (k : RO σ N wk a a') (h : shO a' = true) : shO a = true := by
  cases k with
  | cells ty p h1 ho => rcases ho with rfl | ⟨_, rfl⟩
                        · exact h
                        · simp only [shO, Bool.and_eq_true] at h ⊢; exact ⟨h.1, rfl⟩
  | _ => simp [shO] at h
theorem RO.sh' {σ : Nat → Nat} {N : Nat} {a a' : AObj} (k : RO σ N false a a') (h : shO a = true) : shO a' = true := by
  cases k with
  | cells ty p h1 ho => rcases ho with rfl | ⟨h2, _⟩
                        · exact h
                        · cases h2
  | _ => simp [shO] at h
theorem RO.own' {σ : Nat → Nat} {N : Nat} {a a' : AObj} (k : RO σ N false a a') (h : ownO a' = true) : ownO a = true := by
  cases k with
  | cells ty p h1 ho => rcases ho with rfl | ⟨h2, _⟩
                        · exact h
                        · cases h2
  | map c h1 ho => rcases ho with rfl | ⟨h2, _⟩
                   · exact h
                   · cases h2
  | _ => rfl
theorem RO.dn (hη : OneCells η) {σ : Nat → Nat} {N : Nat} {wk : Bool} {ρs ρ : Env} (hn : ∀ r t, r < N → ρ (σ r) = some t → ρs r = some t) {a a' : AObj} (k : RO σ N wk a a') {d n : Nat} {o : Obj} (h : OR η ρ a' d n o) : OR η ρs a d n o := by
  cases k with
  | cells ty p hc ho =>
    obtain ⟨C, t, lo, hi, e, q⟩ := h
    refine ⟨C, t, lo, hi, e, q.ty, q.size, hc.len ▸ q.len, fun i v hv => ?_, fun hp => ?_, fun h2 => ?_⟩
    · obtain ⟨v', h1, h2⟩ := hc.get hv
      obtain ⟨x, h3, h4⟩ := q.at_ i v' h1
      exact ⟨x, h3, h2.dn hη hn h4⟩
    · rw [hc.len]; exact q.plain hp
    · rcases ho with rfl | ⟨_, rfl⟩
      · exact q.free h2
      · cases h2
  | map c hc ho =>
    obtain ⟨E, e, q⟩ := h
    refine ⟨E, e, ?_⟩
    clear e
    generalize E.toList = l at q ⊢
    induction hc generalizing l with
    | nil => cases q; exact .nil
    | cons h1 _ ih => cases q with
      | cons h2 h3 => exact .cons ⟨h1.1.dn hη hn h2.1, h1.2.1.dn hη hn h2.2.1, h1.2.2.trans h2.2.2⟩ (ih _ h3)
  | stringIter s pos => exact h
  | mapIter0 since seen last =>
    obtain ⟨hd, m', e, q⟩ := h
    refine ⟨hd, m', e, ?_⟩
    cases m' with
    | none => exact q
    | some b => exact q
  | mapIter since seen last hm =>
    obtain ⟨hd, m', e, q⟩ := h
    refine ⟨hd, m', e, ?_⟩
    cases m' with
    | none => exact q
    | some b => obtain ⟨d, n, q⟩ := q; exact ⟨d, n, hn _ _ hm q⟩
  | loop hi hi' ht hd =>
    obtain ⟨l, e, a, b, c, t, f, g, i, dd, nn, k⟩ := h
    exact ⟨l, e, a, b, c, ⟨t.1, hi, fun i hi => (ht i hi).dn hη hn (t.2.2 i hi)⟩, f, g, i, dd, nn, hn _ _ hd k⟩
  | deferred0 =>
    obtain ⟨ds', e, q⟩ := h
    refine ⟨ds', e, ?_⟩
    cases ds' with
    | none => trivial
    | some m => exact q
  | deferred1 =>
    obtain ⟨ds', e, q⟩ := h
    refine ⟨ds', e, ?_⟩
    cases ds' with
    | none => exact q
    | some m => simp only at q ⊢; cases q; exact .nil
theorem RO.up {σ : Nat → Nat} {N : Nat} {ρs ρ : Env} (hn : ∀ r t, r < N → ρs r = some t → ρ (σ r) = some t) {a a' : AObj} (k : RO σ N false a a') {d n : Nat} {o : Obj} (h : OR η ρs a d n o) : OR η ρ a' d n o := by
  cases k with
  | cells ty p hc ho =>
    obtain ⟨C, t, lo, hi, e, q⟩ := h
    refine ⟨C, t, lo, hi, e, q.ty, q.size, hc.len ▸ q.len, fun i v hv => ?_, fun hp => ?_, fun h2 => ?_⟩
    · obtain ⟨v', h1, h2⟩ := hc.get' hv
      obtain ⟨x, h3, h4⟩ := q.at_ i v' h1
      exact ⟨x, h3, h2.up hn h4⟩
    · rw [← hc.len]; exact q.plain hp
    · rcases ho with rfl | ⟨h3, _⟩
      · exact q.free h2
      · cases h3
  | map c hc ho =>
    obtain ⟨E, e, q⟩ := h
    refine ⟨E, e, ?_⟩
    clear e
    generalize E.toList = l at q ⊢
    induction hc generalizing l with
    | nil => cases q; exact .nil
    | cons h1 _ ih => cases q with
      | cons h2 h3 => exact .cons ⟨h1.1.up hn h2.1, h1.2.1.up hn h2.2.1, h1.2.2.symm.trans h2.2.2⟩ (ih _ h3)
  | stringIter s pos => exact h
  | mapIter0 since seen last =>
    obtain ⟨hd, m', e, q⟩ := h
    refine ⟨hd, m', e, ?_⟩
    cases m' with
    | none => exact q
    | some b => exact q
  | mapIter since seen last hm =>
    obtain ⟨hd, m', e, q⟩ := h
    refine ⟨hd, m', e, ?_⟩
    cases m' with
    | none => exact q
    | some b => obtain ⟨d, n, q⟩ := q; exact ⟨d, n, hn _ _ hm q⟩
  | loop hi hi' ht hd =>
    obtain ⟨l, e, a, b, c, t, f, g, i, dd, nn, k⟩ := h
    exact ⟨l, e, a, b, c, ⟨t.1, hi', fun i hi => (ht i hi).up hn (t.2.2 i hi)⟩, f, g, i, dd, nn, hn _ _ hd k⟩
  | deferred0 =>
    obtain ⟨ds', e, q⟩ := h
    refine ⟨ds', e, ?_⟩
    cases ds' with
    | none => trivial
    | some m => exact q
  | deferred1 =>
    obtain ⟨ds', e, q⟩ := h
    refine ⟨ds', e, ?_⟩
    cases ds' with
    | none => exact q
    | some m => simp only at q ⊢; cases q; exact .nil
structure Emb (P : Program) (σ : Nat → Nat) (hs h : AH) : Prop where
  glob : ∀ g, g ≤ P.globals.size → g < hs.next ∧ σ g = g
  obj : ∀ r a, hs.objs.get r = some a → r < hs.next ∧ ∃ a', h.objs.get (σ r) = some a' ∧ RO σ hs.next true a a'
  inj : ∀ r r' a a', hs.objs.get r = some a → hs.objs.get r' = some a' → σ r = σ r' → r = r'
def cut (σ : Nat → Nat) (N : Nat) (ρ : Env) : Env := fun r => if r < N then ρ (σ r) else none
theorem cut_dn {σ : Nat → Nat} {N : Nat} {ρ : Env} : ∀ r t, r < N → ρ (σ r) = some t → cut σ N ρ r = some t := by
  intro r t hr h; unfold cut; rw [if_pos hr]; exact h
theorem Emb.pre (hη : OneCells η) {σ : Nat → Nat} {hs h : AH} {ρ : Env} {w : World} (E : Emb P σ hs h) (p : Pre η P ρ B h w) : Pre η P (cut σ hs.next ρ) B hs w := by
  refine ⟨⟨fun r a hr => ?_, fun r r' a a' b d n d' n' h1 h2 e1 e2 => ?_, fun r a b d n h1 e1 hS => ?_⟩, fun r hr => ?_, fun g hg => ?_, p.low⟩
  · obtain ⟨hlt, a', h1, h2⟩ := E.obj r a hr
    obtain ⟨b, d, n, o, k1, k2, k3, k4⟩ := p.hr.obj _ a' h1
    exact ⟨b, d, n, o, cut_dn _ _ hlt k1, k2, h2.dn hη cut_dn k3, fun ho => k4 (h2.own ho)⟩
  · obtain ⟨l1, b1, g1, _⟩ := E.obj r a h1
    obtain ⟨l2, b2, g2, _⟩ := E.obj r' a' h2
    unfold cut at e1 e2
    rw [if_pos l1] at e1
    rw [if_pos l2] at e2
    exact (p.hr.inj _ _ _ _ b d n d' n' g1 g2 e1 e2).imp (E.inj r r' a a' h1 h2) id
  · obtain ⟨l1, b1, g1, k1⟩ := E.obj r a h1
    unfold cut at e1
    rw [if_pos l1] at e1
    exact k1.sh (p.hr.sh _ _ b d n g1 e1 hS)
  · unfold cut; rw [if_neg (by omega)]
  · obtain ⟨h1, h2⟩ := E.glob g hg
    obtain ⟨n, h3⟩ := p.glob g hg
    exact ⟨n, cut_dn _ _ h1 (by rw [h2]; exact h3)⟩
theorem Emb.own {σ : Nat → Nat} {hs h : AH} {ρ : Env} {b : Nat} (E : Emb P σ hs h) (k : Own (cut σ hs.next ρ) hs b) : ∃ r1 a1 a1' d n, hs.objs.get r1 = some a1 ∧ ownO a1 = true ∧ h.objs.get (σ r1) = some a1' ∧ ownO a1' = true ∧ ρ (σ r1) = some (b, d, n) := by
  obtain ⟨r1, a1, d, n, h1, h2, h3⟩ := k
  obtain ⟨l1, a1', g1, g2⟩ := E.obj r1 a1 h1
  unfold cut at h3
  rw [if_pos l1] at h3
  exact ⟨r1, a1, a1', d, n, h1, h2, g1, g2.own h2, h3⟩
theorem Emb.own' {σ : Nat → Nat} {hs h : AH} {ρ : Env} {b : Nat} (E : Emb P σ hs h) (k : Own (cut σ hs.next ρ) hs b) : Own ρ h b := by
  obtain ⟨r1, a1, a1', d, n, h1, h2, h3, h4, h5⟩ := E.own k
  exact ⟨_, _, _, _, h3, h4, h5⟩
theorem Emb.nam {σ : Nat → Nat} {hs h : AH} {ρ : Env} {b : Nat} (E : Emb P σ hs h) (k : ∃ r a d n, hs.objs.get r = some a ∧ cut σ hs.next ρ r = some (b, d, n)) : ∃ r1 a1 a1' d n, hs.objs.get r1 = some a1 ∧ r1 < hs.next ∧ h.objs.get (σ r1) = some a1' ∧ ρ (σ r1) = some (b, d, n) := by
  obtain ⟨r1, a1, d, n, h1, h3⟩ := k
  obtain ⟨l1, a1', g1, g2⟩ := E.obj r1 a1 h1
  unfold cut at h3
  rw [if_pos l1] at h3
  exact ⟨r1, a1, a1', d, n, h1, l1, g1, h3⟩
def sg (σ : Nat → Nat) (ns n : Nat) : Nat → Nat := fun r => if r < ns then σ r else n + (r - ns)
structure Framed (σ : Nat → Nat) (hs h hs' h' : AH) : Prop where
  next : h'.next = h.next + (hs'.next - hs.next)
  obj : ∀ r a, h'.objs.get r = some a →
    (∃ r0 a0, r0 < hs'.next ∧ sg σ hs.next h.next r0 = r ∧ hs'.objs.get r0 = some a0 ∧ RO (sg σ hs.next h.next) hs'.next false a0 a) ∨
    (h.objs.get r = some a ∧ ∀ r0 a0, hs.objs.get r0 = some a0 → σ r0 ≠ r) ∨
    (h.objs.get r = some a ∧ ∃ r0 a0 a1, r0 < hs.next ∧ σ r0 = r ∧ hs.objs.get r0 = some a0 ∧ ownO a0 = false ∧ hs'.objs.get r0 = some a1)
theorem Emb.post (hη : OneCells η) {σ : Nat → Nat} {hs h hs' h' : AH} {ρ ρs' : Env} {w w' : World} (E : Emb P σ hs h) (p : Pre η P ρ B h w) (q : Post η (cut σ hs.next ρ) B hs w ρs' hs' w') (F : Framed σ hs h hs' h') :
    ∃ ρ', Post η ρ B h w ρ' h' w' ∧ ∀ r t, r < hs'.next → ρs' r = some t → ρ' (sg σ hs.next h.next r) = some t := by
  have hnx := q.next
  let ρ' : Env := fun r => if r < h.next then ρ r else ρs' (hs.next + (r - h.next))
  have hold : ∀ r, r < h.next → ρ' r = ρ r := fun r hr => if_pos hr
  have hle : Env.le ρ ρ' := by
    intro r t hr
    have hlt : r < h.next := by
      rcases Nat.lt_or_ge r h.next with hl | hl
      · exact hl
      · rw [p.fresh r hl] at hr; cases hr
    rw [hold r hlt]; exact hr
  have hup : ∀ r t, r < hs'.next → ρs' r = some t → ρ' (sg σ hs.next h.next r) = some t := by
    intro r t hr ht
    unfold sg
    by_cases hlt : r < hs.next
    · rw [if_pos hlt]
      rw [q.old r hlt] at ht
      unfold cut at ht
      rw [if_pos hlt] at ht
      exact hle _ _ ht
    · rw [if_neg hlt]
      show (if h.next + (r - hs.next) < h.next then _ else _) = _
      rw [if_neg (by omega)]
      rw [show hs.next + (h.next + (r - hs.next) - h.next) = r by omega]
      exact ht
  -- a block of the bigger heap that the smaller one does not own is left as it was
  have hkeep : ∀ r a b d n o, h.objs.get r = some a → ρ r = some (b, d, n) → w.heap[b]? = some o → ((∀ r0 a0, hs.objs.get r0 = some a0 → σ r0 ≠ r) ∨ ∃ r0 a0 a1, r0 < hs.next ∧ σ r0 = r ∧ hs.objs.get r0 = some a0 ∧ ownO a0 = false ∧ hs'.objs.get r0 = some a1) → w'.heap[b]? = some o := by
    intro r a b d n o hr hρ hb hc
    rw [q.fr.kept b (heap_lt hb) ?_]; exact hb
    intro hown
    obtain ⟨r1, a1, a1', d1, n1, h1, h2, h3, h4, h5⟩ := E.own hown
    have e := (p.hr.uni hr h3 hρ h5 (sh_of_own h4)).symm
    rcases hc with hc | ⟨r0, a0, _, _, e0, g0, g1, _⟩
    · exact hc r1 a1 h1 e
    · have := E.inj r1 r0 a1 a0 h1 g0 (e.trans e0.symm)
      subst this
      rw [h1] at g0; cases g0
      rw [g1] at h2; cases h2
  -- what each name of the new heap stands for
  have himg : ∀ r0 a0, hs'.objs.get r0 = some a0 → r0 < hs'.next → ∀ r b d n, sg σ hs.next h.next r0 = r → ρ' r = some (b, d, n) → ρs' r0 = some (b, d, n) := by
    intro r0 a0 h0 hl r b d n e hb
    obtain ⟨b1, d1, n1, o1, k1, _⟩ := q.hr.obj r0 a0 h0
    have := hup r0 _ hl k1
    rw [e, hb] at this
    rw [k1]; exact this.symm
  refine ⟨ρ', ⟨hle, hold, fun r hr => ?_, by rw [F.next]; omega, ⟨fun r a hr => ?_, fun r r' a a' b d n d' n' hr hr' e e' => ?_, fun r a b d n hr e hS => ?_⟩, ⟨q.fr.os, q.fr.tape, q.fr.output, q.fr.size, fun k hk hn => q.fr.kept k hk fun hq => hn (E.own' hq)⟩, ?_, ?_⟩, hup⟩
  · rw [F.next] at hr
    show (if r < h.next then _ else _) = _
    rw [if_neg (by omega)]
    exact q.fresh _ (by omega)
  · rcases F.obj r a hr with ⟨r0, a0, hl, e, h0, hro⟩ | ⟨h1, hc⟩ | ⟨h1, hc⟩
    · obtain ⟨b, d, n, o, k1, k2, k3, k4⟩ := q.hr.obj r0 a0 h0
      exact ⟨b, d, n, o, by rw [← e]; exact hup r0 _ hl k1, k2, hro.up hup k3, fun ho => k4 (hro.own' ho)⟩
    · obtain ⟨b, d, n, o, k1, k2, k3, k4⟩ := p.hr.obj r a h1
      exact ⟨b, d, n, o, hle _ _ k1, hkeep r a b d n o h1 k1 k2 (.inl hc), k3.mono hle, k4⟩
    · obtain ⟨b, d, n, o, k1, k2, k3, k4⟩ := p.hr.obj r a h1
      exact ⟨b, d, n, o, hle _ _ k1, hkeep r a b d n o h1 k1 k2 (.inr hc), k3.mono hle, k4⟩
  · have old1 : ∀ r a, h.objs.get r = some a → ρ' r = ρ r := fun r a hg => hold r (p.get_lt hg)
    by_cases hS : B.S b
    · exact .inr hS
    refine .inl ?_
    -- an image and one that stayed
    have mixed : ∀ r0 a0 r r' a' d n d' n', r0 < hs'.next → sg σ hs.next h.next r0 = r → hs'.objs.get r0 = some a0 → ρ' r = some (b, d, n) → h.objs.get r' = some a' → ρ' r' = some (b, d', n') → ((∀ r0 a0, hs.objs.get r0 = some a0 → σ r0 ≠ r') ∨ ∃ r0 a0 a1, r0 < hs.next ∧ σ r0 = r' ∧ hs.objs.get r0 = some a0 ∧ ownO a0 = false ∧ hs'.objs.get r0 = some a1) → r = r' := by
      intro r0 a0 r r' a' d n d' n' hl e0 h0 e hr' e' hc
      have es := himg r0 a0 h0 hl r b d n e0 e
      rw [old1 r' a' hr'] at e'
      rcases hc with hc | ⟨r2, a2, a3, l2, e2, g2, _, g3⟩
      · rcases q.inn b ⟨r0, a0, d, n, h0, es⟩ with h1 | h1
        · obtain ⟨r1, a1, a1', d1, n1, k1, _, k2, k3⟩ := E.nam h1
          exact absurd ((p.hr.inj _ _ _ _ _ _ _ _ _ k2 hr' k3 e').resolve_right hS) (hc r1 a1 k1)
        · obtain ⟨b2, _, _, o2, k1, k2, _⟩ := p.hr.obj r' a' hr'
          rw [e'] at k1; cases k1
          exact absurd (heap_lt k2) (by omega)
      · have e3 : ρs' r2 = some (b, d', n') := by
          rw [q.old r2 l2]; exact cut_dn _ _ l2 (by rw [e2]; exact e')
        have := (q.hr.inj r0 r2 a0 a3 b d n d' n' h0 g3 es e3).resolve_right hS
        subst this
        rw [← e0, ← e2]
        unfold sg; rw [if_pos l2]
    rcases F.obj r a hr with ⟨r0, a0, hl, e0, h0, _⟩ | h1
    · rcases F.obj r' a' hr' with ⟨r0', a0', hl', e0', h0', _⟩ | h1'
      · have es := himg r0 a0 h0 hl r b d n e0 e
        have es' := himg r0' a0' h0' hl' r' b d' n' e0' e'
        have := (q.hr.inj r0 r0' a0 a0' b d n d' n' h0 h0' es es').resolve_right hS
        subst this
        rw [← e0, ← e0']
      · have ⟨g, hc⟩ : h.objs.get r' = some a' ∧ _ := h1'.elim (fun k => ⟨k.1, Or.inl k.2⟩) (fun k => ⟨k.1, Or.inr k.2⟩)
        exact mixed r0 a0 r r' a' d n d' n' hl e0 h0 e g e' hc
    · have ⟨g, hc⟩ : h.objs.get r = some a ∧ ((∀ r0 a0, hs.objs.get r0 = some a0 → σ r0 ≠ r) ∨ ∃ r0 a0 a1, r0 < hs.next ∧ σ r0 = r ∧ hs.objs.get r0 = some a0 ∧ ownO a0 = false ∧ hs'.objs.get r0 = some a1) := h1.elim (fun k => ⟨k.1, Or.inl k.2⟩) (fun k => ⟨k.1, Or.inr k.2⟩)
      rcases F.obj r' a' hr' with ⟨r0', a0', hl', e0', h0', _⟩ | h1'
      · exact (mixed r0' a0' r' r a d' n' d n hl' e0' h0' e' g e hc).symm
      · have g' : h.objs.get r' = some a' := h1'.elim (fun k => k.1) (fun k => k.1)
        rw [old1 r a g] at e
        rw [old1 r' a' g'] at e'
        exact (p.hr.inj r r' a a' b d n d' n' g g' e e').resolve_right hS
  · have old1 : ∀ r a, h.objs.get r = some a → ρ' r = ρ r := fun r a hg => hold r (p.get_lt hg)
    rcases F.obj r a hr with ⟨r0, a0, hl, e0, h0, hro⟩ | ⟨h1, _⟩ | ⟨h1, _⟩
    · exact hro.sh' (q.hr.sh r0 a0 b d n h0 (himg r0 a0 h0 hl r b d n e0 e) hS)
    · exact p.hr.sh r a b d n h1 (by rw [← old1 r a h1]; exact e) hS
    · exact p.hr.sh r a b d n h1 (by rw [← old1 r a h1]; exact e) hS
  · rintro b ⟨r, a, d, n, hr, ho, e⟩
    have old1 : ∀ r a, h.objs.get r = some a → ρ' r = ρ r := fun r a hg => hold r (p.get_lt hg)
    rcases F.obj r a hr with ⟨r0, a0, hl, e0, h0, hro⟩ | ⟨h1, _⟩ | ⟨h1, _⟩
    · have es := himg r0 a0 h0 hl r b d n e0 e
      rcases q.own b ⟨r0, a0, d, n, h0, hro.own' ho, es⟩ with k | k
      · exact .inl (E.own' k)
      · exact .inr k
    · exact .inl ⟨r, a, d, n, h1, ho, by rw [← old1 r a h1]; exact e⟩
    · exact .inl ⟨r, a, d, n, h1, ho, by rw [← old1 r a h1]; exact e⟩
  · rintro b ⟨r, a, d, n, hr, e⟩
    have old1 : ∀ r a, h.objs.get r = some a → ρ' r = ρ r := fun r a hg => hold r (p.get_lt hg)
    rcases F.obj r a hr with ⟨r0, a0, hl, e0, h0, hro⟩ | ⟨h1, _⟩ | ⟨h1, _⟩
    · have es := himg r0 a0 h0 hl r b d n e0 e
      rcases q.inn b ⟨r0, a0, d, n, h0, es⟩ with k | k
      · obtain ⟨r1, a1, a1', d1, n1, k1, _, k2, k3⟩ := E.nam k
        exact .inl ⟨_, _, _, _, k2, k3⟩
      · exact .inr k
    · exact .inl ⟨r, a, d, n, h1, by rw [← old1 r a h1]; exact e⟩
    · exact .inl ⟨r, a, d, n, h1, by rw [← old1 r a h1]; exact e⟩
theorem CallSpec.frame (hη : OneCells η) {f : FuncId} {args args' : List Value} {hs h : AH} {σ : Nat → Nat} {Q1 Q : Value → AH → Prop} (c : CallSpec η P B f args hs Q1) (E : Emb P σ hs h) (ha : L2 (RV σ hs.next true) args args')
    (k : ∀ v hs', Q1 v hs' → hs.next ≤ hs'.next → ∃ v' h', Q v' h' ∧ RV (sg σ hs.next h.next) hs'.next false v v' ∧ Framed σ hs h hs' h') : CallSpec η P B f args' h Q := by
  intro ρ xs w cs l p
  obtain ⟨v, hs', ρs', fr', w', x, q1, q, hv, r⟩ := c (cut σ hs.next ρ) xs w cs (lr_dn hη cut_dn ha l) (E.pre hη p)
  obtain ⟨v', h', hq, hrv, F⟩ := k v hs' q1 q.next
  obtain ⟨ρ', hp, hup⟩ := E.post hη p q F
  exact ⟨v', h', ρ', fr', w', x, hq, hp, hrv.up hup hv, r⟩
end Go.Ev

namespace Go.Ev
set_option linter.unusedVariables false
set_option linter.unusedSimpArgs false
variable {η : Nat → Value} {P : Program} {B : Bd}
inductive RI (σ : Nat → Nat) (N : Nat) : Item → Item → Prop
  | code (c : Code) : RI σ N (.code c) (.code c)
  | inBlock (i : Nat) : RI σ N (.inBlock i) (.inBlock i)
  | inLoop (c : Code) : RI σ N (.inLoop c) (.inLoop c)
  | inScope (c : Code) : RI σ N (.inScope c) (.inScope c)
  | inRegion (ops : Array Oper) (l : List Nat) : RI σ N (.inRegion ops l) (.inRegion ops l)
  | inRangeFunc {l : Nat} (h : l < N) : RI σ N (.inRangeFunc l) (.inRangeFunc (σ l))
  | endRangeFunc {l : Nat} (h : l < N) : RI σ N (.endRangeFunc l) (.endRangeFunc (σ l))
  | beginRound : RI σ N .beginRound .beginRound
inductive RDf (σ : Nat → Nat) (N : Nat) : Deferred → Deferred → Prop
  | coll {r : Nat} (h : r < N) : RDf σ N { target := .collected r, args := #[] } { target := .collected (σ r), args := #[] }
def RRo (σ : Nat → Nat) (N : Nat) : Option Nat → Option Nat → Prop
  | none, none => True
  | some r, some r' => r < N ∧ r' = σ r
  | _, _ => False
structure RFr (σ : Nat → Nat) (N : Nat) (f f' : AF) : Prop where
  fn : f.fn = f'.fn
  n : f.n = f'.n
  hi : ∀ t, f.n ≤ t → f.tm.get t = none
  tm : ∀ t, t < f.n → RV σ N true ((f.tm.get t).getD undef) ((f'.tm.get t).getD undef)
  todo : L2 (RI σ N) f.todo f'.todo
  defers : L2 (RDf σ N) f.defers f'.defers
  mode : f.mode = f'.mode ∧ (f'.mode = .run ∨ f'.mode = .returning)
  kind : f.kind = f'.kind
  round : RRo σ N f.round f'.round
theorem RFr.dn (hη : OneCells η) {σ : Nat → Nat} {N : Nat} {ρs ρ : Env} (hn : ∀ r t, r < N → ρ (σ r) = some t → ρs r = some t) {f f' : AF} (k : RFr σ N f f') {fr : Frame} (F : FrR η ρ f' fr) : FrR η ρs f fr := by
  refine ⟨F.fn.trans k.fn.symm, ⟨F.tm.1.trans k.n.symm, k.hi, fun t ht => (k.tm t ht).dn hη hn (F.tm.2.2 t (by rw [← k.n]; exact ht))⟩, ?_, ?_, ?_, F.kind.trans k.kind.symm, ?_⟩
  · have key : ∀ {a b : List Item}, L2 (RI σ N) a b → ∀ {l : List Item}, L2 (ItR ρ) b l → L2 (ItR ρs) a l := by
      intro a b h2
      induction h2 with
      | nil => intro l h; cases h; exact .nil
      | cons a _ ih =>
        intro l h
        obtain ⟨y, m, rfl, h1, h2⟩ := h.inv_cons
        refine .cons ?_ (ih h2)
        cases a with
        | inRangeFunc hl => cases h1 with | inRangeFunc e => exact .inRangeFunc (hn _ _ hl e)
        | endRangeFunc hl => cases h1 with | endRangeFunc e => exact .endRangeFunc (hn _ _ hl e)
        | code c => cases h1; exact .code c
        | inBlock c => cases h1; exact .inBlock c
        | inLoop c => cases h1; exact .inLoop c
        | inScope c => cases h1; exact .inScope c
        | inRegion a b => cases h1; exact .inRegion a b
        | beginRound => cases h1; exact .beginRound
    exact key k.todo F.todo
  · have key : ∀ {a b : List Deferred}, L2 (RDf σ N) a b → ∀ {l : List Deferred}, L2 (DR η ρ) b l → L2 (DR η ρs) a l := by
      intro a b h2
      induction h2 with
      | nil => intro l h; cases h; exact .nil
      | cons a _ ih =>
        intro l h
        obtain ⟨y, m, rfl, h1, h2⟩ := h.inv_cons
        refine .cons ?_ (ih h2)
        cases a with
        | coll hr =>
          obtain ⟨ht, ha⟩ := h1
          obtain ⟨yt, ya⟩ := y
          refine ⟨?_, ?_⟩
          · cases yt <;> simp only [TgR] at ht ⊢
            obtain ⟨d, n, e⟩ := ht
            exact ⟨d, n, hn _ _ hr e⟩
          · simp only at ha ⊢
            have he : ya.toList = [] := LR.inv_nil ha
            rw [he]; exact .nil
    exact key k.defers F.defers
  · have h := F.mode
    rw [k.mode.1]
    rcases k.mode.2 with e | e
    · rw [e] at h ⊢
      generalize fr.mode = m at h
      cases h; exact .run
    · rw [e] at h ⊢
      generalize fr.mode = m at h
      cases h; exact .returning
  · have h := F.round
    have h2 := k.round
    generalize fr.roundOf = r at h
    generalize f'.round = r1 at h h2
    generalize f.round = r2 at h2
    cases r2 with
    | none => cases r1 with
      | none => cases r with
        | none => trivial
        | some b => exact h
      | some b => exact absurd h2 fun h => h
    | some x => cases r1 with
      | none => exact absurd h2 fun h => h
      | some y =>
        obtain ⟨hx, rfl⟩ := h2
        cases r with
        | none => exact h
        | some b => obtain ⟨d, n, e⟩ := h; exact ⟨d, n, hn _ _ hx e⟩
def heapN (n : Nat) : AH := { objs := .nil, next := n }
theorem emb_nil {P : Program} {σ : Nat → Nat} {N : Nat} {h : AH} (hN : P.globals.size < N) (hσ : ∀ g, g ≤ P.globals.size → σ g = g) : Emb P σ (heapN N) h :=
  ⟨fun g hg => ⟨(by show g < N; omega), hσ g hg⟩, (fun r a hr => by cases hr), (fun r r' a a' hr => by cases hr)⟩
theorem CallSpec.pure (hη : OneCells η) {f : FuncId} {args : List Value} {N : Nat} {v : Value} (hN : P.globals.size < N) (ha : ∀ σ M, L2 (RV σ M true) args args) (hv : ∀ σ M, RV σ M false v v) (c : CallSpec η P B f args (heapN N) fun v1 h1 => v1 = v ∧ h1 = heapN N) (h : AH) :
    CallSpec η P B f args h fun v1 h1 => v1 = v ∧ h1 = h := by
  refine c.frame (σ := fun r => r) hη (emb_nil hN fun _ _ => rfl) (ha _ _) ?_
  rintro v1 hs' ⟨rfl, rfl⟩ _
  refine ⟨v1, h, ⟨rfl, rfl⟩, hv _ _, ⟨by simp [heapN], fun r a hr => .inr (.inl ⟨hr, fun r0 a0 h0 => by cases h0⟩)⟩⟩
end Go.Ev

namespace Go.Ev
set_option linter.unusedVariables false
set_option linter.unusedSimpArgs false
variable {η : Nat → Value} {P : Program} {B : Bd}
theorem Run.op (hη : OneCells η) {nest : Nest} (hreg : RegOk η P B nest) {fn : FuncId} {h0 h h' : AH} {f f2 : AF} {cs : List AF} {ops : Array Oper} {i : Nat} {rest : List Nat} {k : List Item} {o : Oper} {v : Value} {Q : Value → AH → Prop} (hm : f.mode = .run) (ht : f.todo = .inRegion ops (i :: rest) :: k)
    (ho : ops.toList[i]? = some o) (hw : wantedA ops.toList f.tm o = .ok true) (hx : execA P (evA f.tm) o h = .ok (.value v, h')) (hf : f.finish v = .ok f2) (r : Run η P B fn h0 ⟨f2, cs, h'⟩ Q) : Run η P B fn h0 ⟨f, cs, h⟩ Q := by
  have hs : stepA P nest ⟨f, cs, h⟩ = .ok (.next ⟨f2, cs, h'⟩) := by
    unfold stepA
    simp only [hm, ht, ho, hw, hx, afterA, hf, bind, Except.bind, if_true]
  exact .step hη hreg hs r
end Go.Ev
namespace Go.Ev
variable {η : Nat → Value} {P : Program} {B : Bd}
def fillT (tm : T Value) : Nat → T Value
  | 0 => tm
  | n + 1 => (fillT tm n).set n ((tm.get n).getD undef)
theorem fillT_get (tm : T Value) : ∀ (n t : Nat), (fillT tm n).get t = if t < n then some ((tm.get t).getD undef) else tm.get t
  | 0, t => by simp [fillT]
  | n + 1, t => by
    rw [fillT, T.get_set, fillT_get tm n]
    by_cases h : t = n
    · subst h; simp
    · rw [if_neg h]
      by_cases h2 : t < n
      · rw [if_pos h2, if_pos (by omega)]
      · rw [if_neg h2, if_neg (by omega)]
theorem Run.fill {fn : FuncId} {h0 h : AH} {f : AF} {cs : List AF} {Q : Value → AH → Prop} (r : Run η P B fn h0 ⟨{ f with tm := fillT f.tm f.n }, cs, h⟩ Q) : Run η P B fn h0 ⟨f, cs, h⟩ Q := by
  intro ρ0 w0 ρ fr cs' w cs0 p0 p R
  refine r ρ0 w0 ρ fr cs' w cs0 p0 p ⟨⟨R.fr.fn, ⟨R.fr.tm.1, fun t ht => ?_, fun t ht => ?_⟩, R.fr.todo, R.fr.defers, R.fr.mode, R.fr.kind, R.fr.round⟩, R.cs, R.pre⟩
  · have := R.fr.tm.2.1 t ht
    simp only [fillT_get]
    rw [if_neg (by have : f.n ≤ t := ht; omega)]; exact this
  · have := R.fr.tm.2.2 t ht
    simp only [fillT_get]
    rw [if_pos (show t < f.n from ht)]; exact this
def begin' (P : Program) (f : FuncId) (args : List Value) (h : AH) : M AS := do
  let fr ← enterA P f args .normal
  .ok ⟨{ fr with tm := fillT fr.tm fr.n }, [], h⟩
theorem CallSpec.start {f : FuncId} {args : List Value} {h : AH} {s : AS} {Q : Value → AH → Prop} (he : begin' P f args h = .ok s) (r : Run η P B f h s Q) : CallSpec η P B f args h Q := by
  simp only [begin', bind_ok] at he
  obtain ⟨fr, he, h1⟩ := he
  rw [okk] at h1; subst h1
  exact .enter he (.fill r)
end Go.Ev
namespace Go.Ev
variable {η : Nat → Value} {P : Program} {B : Bd}
theorem Run.loop (hη : OneCells η) {nest : Nest} (hreg : RegOk η P B nest) {fn : FuncId} {h0 h : AH} {f : AF} {cs : List AF} {body : Code} {k : List Item} {Q : Value → AH → Prop} (hm : f.mode = .run) (ht : f.todo = .code (.loop body) :: k ∨ f.todo = .inLoop body :: k)
    (r : Run η P B fn h0 ⟨{ f with todo := .code body :: .inLoop body :: k }, cs, h⟩ Q) : Run η P B fn h0 ⟨f, cs, h⟩ Q := by
  have hs : stepA P nest ⟨f, cs, h⟩ = .ok (.next ⟨{ f with todo := .code body :: .inLoop body :: k }, cs, h⟩) := by
    unfold stepA
    rcases ht with ht | ht <;> simp only [hm, ht]
  exact .step hη hreg hs r
end Go.Ev

namespace Go.Ev
set_option linter.unusedVariables false
set_option linter.unusedSimpArgs false
def opq (n : Nat) : List Value := (List.range n).map fun i => .chan (some i)
end Go.Ev

namespace Go.Ev
set_option linter.unusedVariables false
set_option linter.unusedSimpArgs false
variable {η : Nat → Value} {P : Program} {B : Bd}
def keepT (t : T AObj) : List Nat → T AObj
  | [] => .nil
  | r :: l => match t.get r with
    | some a => (keepT t l).set r a
    | none => keepT t l
theorem keepT_get {t : T AObj} : ∀ {l : List Nat} {r : Nat} {a : AObj}, (keepT t l).get r = some a → t.get r = some a
  | [], r, a, h => by simp [keepT, T.get] at h
  | k :: l, r, a, h => by
    unfold keepT at h
    split at h
    · rename_i b hb
      rw [T.get_set] at h
      by_cases e : r = k
      · rw [if_pos e] at h; cases h; rw [e]; exact hb
      · rw [if_neg e] at h; exact keepT_get h
    · exact keepT_get h
theorem Pre.drop {ρ : Env} {h : AH} {w : World} (p : Pre η P ρ B h w) {o : T AObj} (hs : ∀ r a, o.get r = some a → h.objs.get r = some a) : Pre η P ρ B ⟨o, h.next⟩ w :=
  ⟨⟨fun r a g => p.hr.obj r a (hs r a g), fun r r' a a' b d n d' n' h1 h2 => p.hr.inj r r' a a' b d n d' n' (hs _ _ h1) (hs _ _ h2), fun r a b d n h1 => p.hr.sh r a b d n (hs _ _ h1)⟩, p.fresh, p.glob, p.low⟩
theorem Post.drop {ρ ρ' : Env} {h h' : AH} {w w' : World} (p : Post η ρ B h w ρ' h' w') {o : T AObj} (hs : ∀ r a, o.get r = some a → h'.objs.get r = some a) : Post η ρ B h w ρ' ⟨o, h'.next⟩ w' :=
  ⟨p.le, p.old, p.fresh, p.next, ⟨fun r a g => p.hr.obj r a (hs r a g), fun r r' a a' b d n d' n' h1 h2 => p.hr.inj r r' a a' b d n d' n' (hs _ _ h1) (hs _ _ h2), fun r a b d n h1 => p.hr.sh r a b d n (hs _ _ h1)⟩, p.fr, fun b ⟨r, a, d, n, h1, h2⟩ => p.own b ⟨r, a, d, n, hs _ _ h1, h2⟩, fun b ⟨r, a, d, n, h1, h2⟩ => p.inn b ⟨r, a, d, n, hs _ _ h1, h2⟩⟩
theorem Run.drop {fn : FuncId} {h0 h : AH} {f : AF} {cs : List AF} {Q : Value → AH → Prop} {o : T AObj} (hs : ∀ r a, o.get r = some a → h.objs.get r = some a) (r : Run η P B fn h0 ⟨f, cs, ⟨o, h.next⟩⟩ Q) : Run η P B fn h0 ⟨f, cs, h⟩ Q := by
  intro ρ0 w0 ρ fr cs' w cs0 p0 p R
  exact r ρ0 w0 ρ fr cs' w cs0 p0 (p.drop hs) ⟨R.fr, R.cs, R.pre.drop hs⟩
def doneTrue (P : Program) (nest : Nest) (fn : FuncId) (s : AS) : Bool :=
  match stepA P nest s with
  | .ok (.done f (.bool true) _) => f == fn
  | _ => false
theorem Run.doneTrue (hη : OneCells η) {nest : Nest} (hreg : RegOk η P B nest) {fn : FuncId} {h0 : AH} {s : AS} (h : doneTrue P nest fn s = true) : Run η P B fn h0 s fun v _ => v = .bool true := by
  unfold Ev.doneTrue at h
  split at h
  · rename_i f h' hs
    rw [beq_iff_eq] at h; subst h
    exact .done hη hreg hs rfl
  · cases h
end Go.Ev

namespace Go.Ev
set_option linter.unusedVariables false
set_option linter.unusedSimpArgs false
variable {η : Nat → Value} {P : Program} {B : Bd}
def callLast (ops : Array Oper) : Bool := match ops.toList[ops.size - 1]? with
  | some o => match o.op with
    | .call c => match c.callee with
      | .builtin _ => false
      | _ => true
    | _ => false
  | none => false
def stepS (P : Program) (nest : Nest) (s : AS) : M AR :=
  match s.fr.todo with
  | .code (.region _ ops true) :: _ => if callLast ops then (match splitA P nest s with
    | .ok s' => .ok (.next s')
    | .error _ => stepA P nest s) else stepA P nest s
  | _ => stepA P nest s
theorem Run.stepS (hη : OneCells η) (hmix : P.follows .mixedOrders = true) {nest : Nest} (hnest : NestOk η P B nest) {fn : FuncId} {h0 : AH} {s s' : AS} {Q : Value → AH → Prop} (hs : stepS P nest s = .ok (.next s')) (r : Run η P B fn h0 s' Q) : Run η P B fn h0 s Q := by
  have hreg := regionA_ok (B := B) hη hmix hnest
  unfold Ev.stepS at hs
  split at hs
  · split at hs
    · split at hs
      · rename_i s2 h2
        rw [okk] at hs; injection hs with hs; subst hs
        exact .split hη hmix hnest h2 r
      · exact .step hη hreg hs r
    · exact .step hη hreg hs r
  · exact .step hη hreg hs r
def runS (P : Program) (nest : Nest) : Nat → AS → M AS
  | 0, s => .ok s
  | n + 1, s => match stepS P nest s with
    | .ok (.next s') => runS P nest n s'
    | .ok _ => no "done"
    | .error e => .error e
theorem Run.stepsS (hη : OneCells η) (hmix : P.follows .mixedOrders = true) {nest : Nest} (hnest : NestOk η P B nest) {fn : FuncId} {h0 : AH} {Q : Value → AH → Prop} {s' : AS} : ∀ (n : Nat) {s : AS}, runS P nest n s = .ok s' → Run η P B fn h0 s' Q → Run η P B fn h0 s Q
  | 0, s, h, r => by simp only [runS, okk] at h; subst h; exact r
  | n + 1, s, h, r => by
    unfold runS at h
    split at h
    · rename_i s2 h2
      exact .stepS hη hmix hnest h2 (Run.stepsS hη hmix hnest n h r)
    · simp [no] at h
    · cases h
def chunkS (P : Program) (nest : Nest) (n : Nat) (live : List Nat) (s : AS) : M AS :=
  match runS P nest n s with
  | .ok s => .ok ⟨s.fr, s.cs, ⟨keepT s.hp.objs live, s.hp.next⟩⟩
  | .error e => .error e
theorem Run.chunkS (hη : OneCells η) (hmix : P.follows .mixedOrders = true) {nest : Nest} (hnest : NestOk η P B nest) {fn : FuncId} {h0 : AH} {Q : Value → AH → Prop} {s s' : AS} {n : Nat} {live : List Nat} (hs : chunkS P nest n live s = .ok s') (r : Run η P B fn h0 s' Q) : Run η P B fn h0 s Q := by
  unfold Ev.chunkS at hs
  split at hs
  · rename_i s1 h1
    rw [okk] at hs; subst hs
    exact .stepsS hη hmix hnest n h1 (.drop (fun _ _ => keepT_get) r)
  · cases hs
end Go.Ev

namespace Go.Ev
set_option linter.unusedVariables false
set_option linter.unusedSimpArgs false
variable {η : Nat → Value} {P : Program} {B : Bd}
structure NX where
  f : FuncId
  args : List Value
  h : AH
  v : Value
  h' : AH
end Go.Ev

namespace Go.Ev
set_option linter.unusedVariables false
set_option linter.unusedSimpArgs false
open Go
abbrev iI (n : Int) : Value := .int .i64 n
abbrev uI (n : Int) : Value := .int .u8 n
abbrev vT : Value := .bool true
abbrev vF : Value := .bool false
abbrev pP (b o : Nat) : Value := .pointer (some ⟨b, o, none⟩)
abbrev sS (b o n c : Nat) : Value := .slice (some ⟨b, o, none⟩) n c
abbrev sU (b o n : Nat) : Value := .slice (some ⟨b, o, none⟩) n 9223372036854775809
abbrev sN : Value := .slice none 0 0
abbrev tS (l : List UInt8) : Value := .string ⟨⟨l⟩⟩
abbrev uT (l : List Value) : Value := .tuple ⟨l⟩
abbrev gA (l : List Value) : Value := .agg ⟨l⟩
abbrev zZ {α : Type} : T α := .nil
abbrev eE {α : Type} (a b : T α) : T α := .node none a b
abbrev lL {α : Type} (x : α) : T α := .node (some x) .nil .nil
abbrev nS {α : Type} (x : α) (a b : T α) : T α := .node (some x) a b
end Go.Ev

namespace Go.Ev
set_option linter.unusedVariables false
set_option linter.unusedSimpArgs false
variable {η : Nat → Value} {P : Program} {B : Bd}
def objsL : List (Nat × TypeId × List Value) → T AObj
  | [] => .nil
  | x :: l => (objsL l).set x.1 (.cells x.2.1 x.2.2 false 0)
theorem objsL_get : ∀ {l : List (Nat × TypeId × List Value)} {r : Nat} {a : AObj}, (objsL l).get r = some a → ∃ x ∈ l, x.1 = r ∧ a = .cells x.2.1 x.2.2 false 0
  | [], r, a, h => by simp [objsL, T.get] at h
  | x :: l, r, a, h => by
    unfold objsL at h
    rw [T.get_set] at h
    by_cases e : r = x.1
    · rw [if_pos e] at h; cases h; exact ⟨x, by simp, e.symm, rfl⟩
    · rw [if_neg e] at h
      obtain ⟨y, h1, h2⟩ := objsL_get h
      exact ⟨y, by simp [h1], h2⟩
def heapL (P : Program) (l : List (Nat × TypeId × List Value)) : AH := ⟨objsL l, P.globals.size + 1⟩
def sizeAt (W : World) (g : Nat) : Nat := match W.heap[g]? with
  | some (.cells C _ _) => C.size
  | _ => 0
def envL (P : Program) (W : World) : Env := fun r => if r ≤ P.globals.size then some (r, 0, sizeAt W r) else none
def TabAt (η : Nat → Value) (P : Program) (W : World) (x : Nat × TypeId × List Value) : Prop :=
  x.1 < P.globals.size ∧ ∃ (C : Array Value) (fr : Nat × Nat), W.heap[x.1]? = some (.cells C x.2.1 fr) ∧ LR η (envL P W) x.2.2 C.toList
theorem preL {l : List (Nat × TypeId × List Value)} {W : World} (hl : ∀ x ∈ l, TabAt η P W x) : Pre η P (envL P W) W.heap.size (heapL P l) W := by
  refine ⟨⟨fun r a h => ?_, fun r r' a a' b d n d' n' h h' e e' => .inl ?_, fun _ _ _ _ _ _ _ hS => False.elim hS⟩, fun r hr => ?_, fun g hg => ⟨sizeAt W g, ?_⟩, Nat.le_refl _⟩
  · obtain ⟨x, hx, rfl, rfl⟩ := objsL_get h
    obtain ⟨h1, C, fr, h2, h3⟩ := hl x hx
    have hs : sizeAt W x.1 = C.size := by unfold sizeAt; rw [h2]
    refine ⟨x.1, 0, C.size, _, by unfold envL; rw [if_pos (Nat.le_of_lt h1), hs], h2, ⟨C, x.2.1, fr.1, fr.2, rfl, ⟨rfl, by simp, ?_, fun i v hv => ?_, (fun h => by cases h), (fun h => by cases h)⟩⟩, (fun h => by cases h)⟩
    · have := h3.len
      have e : C.toList.length = C.size := rfl
      omega
    · obtain ⟨y, hy, hv⟩ := h3.get hv
      exact ⟨y, by rw [Nat.zero_add]; exact hy, hv⟩
  · unfold envL at e e'
    split at e
    · split at e'
      · cases e; cases e'; rfl
      · cases e'
    · cases e
  · have h : P.globals.size + 1 ≤ r := hr
    unfold envL; rw [if_neg (by omega)]
  · unfold envL; rw [if_pos hg]
theorem CallSpec.trueL {f : FuncId} {args : List Value} {args' : Array Value} {l : List (Nat × TypeId × List Value)} {W : World} (hl : ∀ x ∈ l, TabAt η P W x) (ha : LR η (envL P W) args args'.toList) (c : CallSpec η P W.heap.size f args (heapL P l) fun v _ => v = .bool true) :
    Calls P f args' W fun e w' => e = .returned (.bool true) ∧ Go.RowKit.Below W.heap.size W w' := by
  have p := preL hl
  refine (c.calls ha p).mono ?_
  rintro e w' ⟨v, h', ρ', x, rfl, rfl, hv, hp⟩
  exact ⟨by rw [hv.bool_inv], p.hr.below hp.fr p.low⟩
theorem TabAt.handle {W : World} {g : Nat} {t u ty : TypeId} {z : Array Value} {name : String} (hS : W.ShapedOpen P) (h0 : ((begin P (fun _ _ => 0) default).world.heap[g]?).bind Obj.row? = some (z, t)) (hg : g < P.globals.size) (hn : P.globalNamed name = some g)
    (hv : W.var? P name = some #[.iface u (.agg #[typeHandle P ty])]) : TabAt η P W (g, t, [.iface u (.agg ⟨[.pointer (some ⟨P.globals.size, ty, none⟩)]⟩)]) := by
  obtain ⟨cs, hh, _⟩ := hS.1 g z t hg h0
  unfold World.var? at hv
  rw [hn] at hv
  simp only [Option.bind_some, hh] at hv
  injection hv with hv
  refine ⟨hg, cs, _, hh, ?_⟩
  rw [hv]
  have hp : VR η (envL P W) (.pointer (some ⟨P.globals.size, ty, none⟩)) (typeHandle P ty) := by
    have := VR.ptr (η := η) (ρ := envL P W) (r := P.globals.size) (o := ty) (b := P.globals.size) (d := 0) (n := sizeAt W P.globals.size) (by unfold envL; rw [if_pos (Nat.le_refl _)])
    rw [Nat.zero_add] at this
    exact this
  exact .cons (.iface _ (.agg' (.cons hp .nil))) .nil
end Go.Ev

