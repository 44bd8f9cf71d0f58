/- Frames: what the evaluator's say of the machine's. -/
import Derived.Test.YtangiefkpllnmaaGreatDoorEvCall2
import Derived.Calls
namespace Go.Ev
set_option linter.unusedVariables false
set_option linter.unusedSimpArgs false
variable {η : Nat → Value}
inductive ItR (ρ : Env) : Item → Item → Prop
  | code (c : Code) : ItR ρ (.code c) (.code c)
  | inBlock (i : Nat) : ItR ρ (.inBlock i) (.inBlock i)
  | inLoop (c : Code) : ItR ρ (.inLoop c) (.inLoop c)
  | inScope (c : Code) : ItR ρ (.inScope c) (.inScope c)
  | inRegion (ops : Array Oper) (l : List Nat) : ItR ρ (.inRegion ops l) (.inRegion ops l)
  | inRangeFunc {l b d n : Nat} (h : ρ l = some (b, d, n)) : ItR ρ (.inRangeFunc l) (.inRangeFunc b)
  | endRangeFunc {l b d n : Nat} (h : ρ l = some (b, d, n)) : ItR ρ (.endRangeFunc l) (.endRangeFunc b)
  | beginRound : ItR ρ .beginRound .beginRound
theorem ItR.mono {ρ ρ' : Env} (h : Env.le ρ ρ') {a b : Item} (k : ItR ρ a b) : ItR ρ' a b := by
  cases k with
  | code c => exact .code c
  | inBlock i => exact .inBlock i
  | inLoop c => exact .inLoop c
  | inScope c => exact .inScope c
  | inRegion o l => exact .inRegion o l
  | inRangeFunc e => exact .inRangeFunc (h _ _ e)
  | endRangeFunc e => exact .endRangeFunc (h _ _ e)
  | beginRound => exact .beginRound
def PeR (η : Nat → Value) (ρ : Env) (a b : PanicEntry) : Prop := VR η ρ a.v b.v ∧ a.recovered = b.recovered ∧ a.goexit = b.goexit
inductive MoR (η : Nat → Value) (ρ : Env) : FrameMode → FrameMode → Prop
  | run : MoR η ρ .run .run
  | returning : MoR η ρ .returning .returning
  | panicking {l m : List PanicEntry} (h : L2 (PeR η ρ) l m) : MoR η ρ (.panicking l) (.panicking m)
theorem MoR.mono {ρ ρ' : Env} (h : Env.le ρ ρ') {a b : FrameMode} (k : MoR η ρ a b) : MoR η ρ' a b := by
  cases k with
  | run => exact .run
  | returning => exact .returning
  | panicking e => exact .panicking (e.mono fun _ _ q => ⟨q.1.mono h, q.2⟩)
def RoR (ρ : Env) : Option Nat → Option Nat → Prop
  | none, none => True
  | some l, some b => ∃ d n, ρ l = some (b, d, n)
  | _, _ => False
theorem RoR.mono {ρ ρ' : Env} (h : Env.le ρ ρ') {a b : Option Nat} (k : RoR ρ a b) : RoR ρ' a b := by
  cases a <;> cases b <;> simp only [RoR] at k ⊢
  obtain ⟨d, n, e⟩ := k; exact ⟨d, n, h _ _ e⟩
structure FrR (η : Nat → Value) (ρ : Env) (f : AF) (fr : Frame) : Prop where
  fn : fr.fn = f.fn
  tm : TR η ρ f.tm f.n fr.tmps
  todo : L2 (ItR ρ) f.todo fr.todo
  defers : L2 (DR η ρ) f.defers fr.defers
  mode : MoR η ρ f.mode fr.mode
  kind : fr.kind = f.kind
  round : RoR ρ f.round fr.roundOf
theorem FrR.mono {ρ ρ' : Env} (h : Env.le ρ ρ') {f : AF} {fr : Frame} (k : FrR η ρ f fr) : FrR η ρ' f fr :=
  ⟨k.fn, k.tm.mono h, k.todo.mono fun _ _ => ItR.mono h, k.defers.mono fun _ _ => DR.mono h, k.mode.mono h, k.kind, k.round.mono h⟩
section
variable {P : Program} {ρ : Env} {B : Nat} {h : AH} {w : World}
theorem evA_ok (hG : GR P ρ) {tm : T Value} {n : Nat} {fr : Frame} (ht : TR η ρ tm n fr.tmps) {x : Operand} (hx : okO P x = true) : VR η ρ (evA tm x) (fr.eval x) := by
  cases x with
  | tmp t =>
    simp only [evA, Frame.eval]
    rcases Nat.lt_or_ge t n with h | h
    · exact ht.2.2 t h
    · rw [ht.2.1 t h, Array.getD_eq_getD_getElem?, Array.getElem?_eq_none (by rw [ht.1]; exact h)]
      exact .tup' .nil
  | const v => exact .bareA hx
  | global g =>
    simp only [okO, decide_eq_true_eq] at hx
    obtain ⟨n, hg⟩ := hG g (Nat.le_of_lt hx)
    exact VR.ptr_new hg
  | func f => exact .func_mk (.same fun l e => by cases e) .nil .nil
theorem okOps_all {o : Oper} (h : okOps P o = true) : ∀ x ∈ o.op.operands.toList, okO P x = true := fun x hx => List.all_eq_true.1 h x hx
def setD (tmps : Array Value) (dst : Option Tmp) (x : Value) : Array Value :=
  match dst with
  | some d => tmps.setIfInBounds d x
  | none => tmps
theorem putT_ok {n : Nat} {tm tm2 : T Value} {dst : Option Tmp} {v x : Value} {tmps : Array Value} (hp : putT n tm dst v = .ok tm2) (ht : TR η ρ tm n tmps) (hv : VR η ρ v x) :
    TR η ρ tm2 n (setD tmps dst x) := by
  cases dst with
  | none => simp only [putT, okk] at hp; subst hp; exact ht
  | some d =>
    simp only [putT] at hp
    rw [ite_no', okk] at hp
    obtain ⟨hd, rfl⟩ := hp
    refine ⟨by simp [setD, ht.1], fun t h => ?_, fun t h => ?_⟩
    · rw [T.get_set, if_neg (fun e => by subst e; exact absurd hd (Nat.not_lt.2 h))]
      exact ht.2.1 t h
    · rw [T.get_set]
      show VR η ρ _ ((tmps.setIfInBounds d x).getD t undef)
      by_cases e : t = d
      · subst e
        have hl : t < tmps.size := by rw [ht.1]; exact h
        rw [if_pos rfl]
        simp only [Option.getD_some]
        rw [Array.getD_eq_getD_getElem?, Array.getElem?_setIfInBounds_self_of_lt hl]
        exact hv
      · rw [if_neg e]
        rw [Array.getD_eq_getD_getElem?, Array.getElem?_setIfInBounds_ne (fun h => e h.symm), ← Array.getD_eq_getD_getElem?]
        exact ht.2.2 t h
theorem VR.undef' : VR η ρ undef undef := .tup' .nil
theorem finish_ok {f f2 : AF} {fr : Frame} {v x : Value} (hf : f.finish v = .ok f2) (hr : FrR η ρ f fr) (hv : VR η ρ v x) : FrR η ρ f2 (fr.finish x) := by
  obtain ⟨fn, tmps, todo, defers, mode, kind, roundOf⟩ := fr
  unfold AF.finish at hf
  have htodo := hr.todo
  split at hf
  · rename_i ops i rest k he
    rw [he] at htodo
    obtain ⟨y, k', hk, hy, hkk⟩ := htodo.inv_cons
    simp only at hk; subst hk
    cases hy
    simp only [bind_ok] at hf
    obtain ⟨tm, htm, hf⟩ := hf
    rw [okk] at hf; subst hf
    have hto : (ops.toList[i]?).bind (·.dst) = (ops[i]?).bind (·.dst) := by rw [Array.getElem?_toList]
    rw [hto] at htm
    have := putT_ok htm hr.tm hv
    refine ⟨hr.fn, ?_, .cons (.inRegion _ _) hkk, hr.defers, hr.mode, hr.kind, hr.round⟩
    exact this
  · rename_i l k he
    rw [he] at htodo
    obtain ⟨y, k', hk, hy, hkk⟩ := htodo.inv_cons
    simp only at hk; subst hk
    cases hy with
    | inRangeFunc e =>
      rw [okk] at hf; subst hf
      exact ⟨hr.fn, hr.tm, .cons (.endRangeFunc e) hkk, hr.defers, hr.mode, hr.kind, hr.round⟩
  · rename_i k he
    rw [he] at htodo
    obtain ⟨y, k', hk, hy, hkk⟩ := htodo.inv_cons
    simp only at hk; subst hk
    cases hy
    rw [okk] at hf; subst hf
    exact ⟨hr.fn, hr.tm, hkk, hr.defers, hr.mode, hr.kind, hr.round⟩
  · simp [no] at hf
theorem enter_ok {f : FuncId} {args : List Value} {args' : Array Value} {kind : CallKind} {fr : AF} (he : enterA P f args kind = .ok fr) (hl : LR η ρ args args'.toList) : FrR η ρ fr (Frame.enter P f args' kind) := by
  unfold enterA at he
  split at he
  · simp [no] at he
  · rename_i fn hfn
    split at he
    · simp [no] at he
    · rename_i b hb
      rw [okk] at he; subst he
      have hlen : args.length = args'.toList.length := hl.len
      have hsz : args'.size = args'.toList.length := rfl
      have htm : (Frame.enter P f args' kind).tmps = args' ++ Array.replicate (fn.ntmps - args'.size) undef := by simp [Frame.enter, hfn]
      refine ⟨rfl, ?_, ?_, .nil, .run, rfl, trivial⟩
      · rw [htm]
        refine ⟨by simp; omega, fun t h => ?_, fun t h => ?_⟩
        · have hge : max fn.ntmps args.length ≤ t := h
          rw [T.get_ofL, if_neg (by omega), T.get_nil]
        · rw [T.get_ofL]
          simp only [Array.getD_eq_getD_getElem?]
          by_cases ht : t < args.length
          · rw [if_pos (by omega), Nat.sub_zero]
            obtain ⟨x, hx, hv⟩ := hl.get (List.getElem?_eq_getElem ht)
            rw [Array.getElem?_append_left (by omega)]
            rw [← Array.getElem?_toList, hx, List.getElem?_eq_getElem ht]
            exact hv
          · rw [if_neg (by omega), T.get_nil, Array.getElem?_append_right (by omega)]
            have : ((Array.replicate (fn.ntmps - args'.size) undef)[t - args'.size]?).getD undef = undef := by
              rw [Array.getElem?_replicate]; split <;> rfl
            rw [this]; exact .undef'
      · simp only [Frame.enter, hfn, Option.bind_some, hb, Option.getD_some]
        exact .cons (.code b) .nil
theorem raise_ok {f : AF} {fr : Frame} {vs xs : List PanicEntry} (hr : FrR η ρ f fr) (hv : L2 (PeR η ρ) vs xs) : FrR η ρ (f.raiseA vs) (fr.raise xs) := by
  obtain ⟨fn, tmps, todo, defers, mode, kind, roundOf⟩ := fr
  obtain ⟨fn', n, tm, todo', defers', mode', kind', round'⟩ := f
  have hm := hr.mode
  simp only at hm
  cases hm with
  | run => exact ⟨hr.fn, hr.tm, hr.todo, hr.defers, .panicking hv, hr.kind, hr.round⟩
  | returning => exact ⟨hr.fn, hr.tm, hr.todo, hr.defers, .panicking hv, hr.kind, hr.round⟩
  | panicking h => exact ⟨hr.fn, hr.tm, hr.todo, hr.defers, .panicking (hv.append h), hr.kind, hr.round⟩
def resV (tmps : Array Value) : ResultVar → Sem Value
  | .tmp t => pure (tmps.getD t undef)
  | .cell a t => do loadVar t (← asAddr (tmps.getD a undef))
theorem resL_ok (H : HR η ρ B h w) {tm : T Value} {n : Nat} {tmps : Array Value} (ht : TR η ρ tm n tmps) : ∀ {rs : List ResultVar} {vs : List Value}, resL P tm h rs = .ok vs →
    ∃ xs, (rs.mapM (resV tmps)).run P w = .ok xs w ∧ LR η ρ vs xs
  | [], vs, hr => by simp only [resL, okk] at hr; subst hr; exact ⟨[], rfl, .nil⟩
  | r :: rs, vs, hr => by
    have get : ∀ t, VR η ρ ((tm.get t).getD undef) (tmps.getD t undef) := by
      intro t
      rcases Nat.lt_or_ge t n with h | h
      · exact ht.2.2 t h
      · rw [ht.2.1 t h, Array.getD_eq_getD_getElem?, Array.getElem?_eq_none (by rw [ht.1]; exact h)]
        exact .undef'
    cases r with
    | tmp t =>
      simp only [resL, bind_ok] at hr
      obtain ⟨l, hl, hr⟩ := hr
      rw [okk] at hr; subst hr
      obtain ⟨xs, h1, h2⟩ := resL_ok H ht hl
      refine ⟨_, ?_, .cons (get t) h2⟩
      simp only [List.mapM_cons, Sem.run_bind, resV, Sem.run_pure, Result.andThen_ok] at h1 ⊢
      rw [h1]; rfl
    | cell a t =>
      simp only [resL, bind_ok, addrA_ok] at hr
      obtain ⟨q, ⟨hq, _⟩, v, hv, l, hl, hr⟩ := hr
      rw [okk] at hr; subst hr
      obtain ⟨xs, h1, h2⟩ := resL_ok H ht hl
      have ha := get a
      rw [hq] at ha
      obtain ⟨q', hq', hqr⟩ := ha.ptr_inv
      obtain ⟨x, k1, k2⟩ := loadA_ok H hv hqr
      refine ⟨_, ?_, .cons k2 h2⟩
      simp only [List.mapM_cons, Sem.run_bind, resV, Sem.run_pure, hq', asAddr, k1, Result.andThen_ok] at h1 ⊢
      rw [h1]; rfl
theorem results_ok (H : HR η ρ B h w) {fn : Func} {tm : T Value} {n : Nat} {tmps : Array Value} (ht : TR η ρ tm n tmps) {v : Value} (hr : resultsA P fn tm h = .ok v) : ∃ x, (results fn tmps).run P w = .ok x w ∧ VR η ρ v x := by
  simp only [resultsA, bind_ok] at hr
  obtain ⟨vs, hvs, hr⟩ := hr
  obtain ⟨xs, h1, h2⟩ := resL_ok H ht hvs
  have hm : (fn.results.mapM (resV tmps)).run P w = .ok xs.toArray w := by
    generalize hr' : fn.results = rs at *
    obtain ⟨rl⟩ := rs
    rw [show (Array.mk rl) = rl.toArray from rfl, List.mapM_toArray]
    simp only [Sem.run_map] at h1 ⊢
    rw [h1]; rfl
  have hf : (fun (r : ResultVar) => (match r with
      | .tmp t => pure (tmps.getD t undef)
      | .cell a t => do loadVar t (← asAddr (tmps.getD a undef)) : Sem Value)) = resV tmps := by
    funext r; cases r <;> rfl
  have hres : (results fn tmps).run P w = (do
      let vs ← fn.results.mapM (resV tmps)
      pure (if h : vs.size = 1 then vs[0] else .tuple vs) : Sem Value).run P w := by
    rw [← hf]; rfl
  split at hr
  · rename_i v1
    rw [okk] at hr; subst hr
    obtain ⟨x, m, rfl, hx, hm'⟩ := h2.inv_cons
    have := hm'.inv_nil; subst this
    refine ⟨x, ?_, hx⟩
    rw [hres]
    simp only [Sem.run_bind]
    rw [hm]; rfl
  · rename_i hne
    rw [okk] at hr; subst hr
    refine ⟨.tuple xs.toArray, ?_, .tup' h2⟩
    rw [hres]
    simp only [Sem.run_bind]
    rw [hm]
    have : ¬ xs.toArray.size = 1 := by
      intro e
      have e2 : vs.length = 1 := by rw [h2.len]; simpa using e
      obtain ⟨a, rfl⟩ := List.length_eq_one_iff.1 e2
      exact hne a rfl
    simp only [Result.andThen_ok]
    rw [dif_neg this]; rfl
theorem exitTo_ok {id : Nat} {k k' : List Item} (hk : L2 (ItR ρ) k k') : (∀ r, exitTo id k = some r → ∃ r', exitTo id k' = some r' ∧ L2 (ItR ρ) r r') ∧ (exitTo id k = none → exitTo id k' = none) := by
  induction hk with
  | nil => exact ⟨fun r h => by simp [exitTo] at h, fun _ => rfl⟩
  | cons h _ ih =>
    rename_i a b l m hl
    cases h <;> simp only [exitTo] <;> first
      | exact ih
      | (split
         · exact ⟨fun r h => by cases h; exact ⟨_, rfl, hl⟩, fun h => by cases h⟩
         · exact ih)
theorem gotoIn_ok {id : Nat} {k k' : List Item} (hk : L2 (ItR ρ) k k') : (∀ r, gotoIn id k = some r → ∃ r', gotoIn id k' = some r' ∧ L2 (ItR ρ) r r') ∧ (gotoIn id k = none → gotoIn id k' = none) := by
  induction hk with
  | nil => exact ⟨fun r h => by simp [gotoIn] at h, fun _ => rfl⟩
  | cons h _ ih =>
    rename_i a b l m hl
    cases h <;> simp only [gotoIn] <;> first
      | exact ih
      | (split
         · exact ⟨fun r h => by cases h; exact ⟨_, rfl, .cons (.code _) (.cons (.inScope _) hl)⟩, fun h => by cases h⟩
         · exact ih)
theorem wanted_ok {ops : Array Oper} {tm : T Value} {n : Nat} {tmps : Array Value} {o : Oper} {b : Bool} (ht : TR η ρ tm n tmps) (hw : wantedA ops.toList tm o = .ok b) : Region.wanted o (yielded ops tmps) = b := by
  unfold wantedA at hw
  unfold Region.wanted
  split at hw
  · rename_i hg; rw [hg]; rw [okk] at hw; exact hw
  · rename_i j want hg
    rw [hg]
    simp only [yielded]
    rw [Array.getElem?_toList] at hw
    split at hw
    · rename_i hd
      rw [hd]; rw [okk] at hw; subst hw; simp
    · rename_i d hd
      rw [hd]
      simp only [Option.bind_some]
      have hv : VR η ρ ((tm.get d).getD undef) (tmps.getD d undef) := by
        rcases Nat.lt_or_ge d n with h | h
        · exact ht.2.2 d h
        · rw [ht.2.1 d h, Array.getD_eq_getD_getElem?, Array.getElem?_eq_none (by rw [ht.1]; exact h)]
          exact .undef'
      rw [Array.getD_eq_getD_getElem?] at hv
      split at hw
      · rename_i b0 hb0
        rw [hb0] at hv
        have hv := hv.bool_inv
        rw [okk] at hw; subst hw
        cases ht' : tmps[d]? with
        | none => rw [ht'] at hv; cases hv
        | some x => rw [ht'] at hv; simp only [Option.getD_some] at hv; subst hv; cases b0 <;> cases want <;> rfl
      · rename_i ts hb0
        rw [hb0] at hv
        obtain ⟨c, hc, _⟩ := hv.tuple_inv
        rw [okk] at hw; subst hw
        cases ht' : tmps[d]? with
        | none => simp
        | some x => rw [ht'] at hc; simp only [Option.getD_some] at hc; subst hc; simp
      · simp [no] at hw
theorem execA_ok (hη : OneCells η) (p : Pre η P ρ B h w) {o : Oper} {σ τ : Operand → Value} (hs : ∀ x, okO P x = true → VR η ρ (σ x) (τ x)) {a : AN} {h' : AH} (he : execA P σ o h = .ok (a, h')) : Eff η P ρ B h w (execOp τ o) a h' := by
  unfold execA at he
  rw [ite_no] at he
  obtain ⟨hok, he⟩ := he
  have hs' : ∀ x ∈ o.op.operands.toList, VR η ρ (σ x) (τ x) := fun x hx => hs x (okOps_all (by simpa using hok) x hx)
  split at he
  · simp only [bind_ok] at he
    obtain ⟨v, hv, he⟩ := he
    rw [okk] at he; injection he with e1 e2; subst e1; subst e2
    exact Eff.reader p (readA_ok hη p.glob p.hr hs' hv)
  · simp only [bind_ok] at he
    obtain ⟨⟨v, b⟩, hv, he⟩ := he
    rw [okk] at he; injection he with e1 e2; subst e1; subst e2
    obtain ⟨hown, x, w', ob, n, h1, h2, h3⟩ := allocA_ok (w := w) hη hs' hv
    have hle := Env.le_put (t := (w.heap.size, 0, n)) (p.fresh h.next (Nat.le_refl _))
    obtain ⟨k1, k2⟩ := h3 _ hle (Env.put_at _ _ _)
    exact ⟨_, w', ⟨x, h1, k1⟩, Post.new p h2 h.objs (fun _ _ hx => hx) k2⟩
  · exact effA_ok hη p hs' he
end
end Go.Ev
