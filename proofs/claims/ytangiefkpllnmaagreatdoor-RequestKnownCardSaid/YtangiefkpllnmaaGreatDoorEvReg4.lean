/- A drawn region: run in whatever order. Calls. -/
import Derived.Test.YtangiefkpllnmaaGreatDoorEvReg3
namespace Go.Ev
set_option linter.unusedVariables false
set_option linter.unusedSimpArgs false
variable {η : Nat → Value}
section
variable {P : Program} {B : Nat} {nest : Nest} {ops : Array Oper} {base N n : Nat} {tm0 : T Value} {h0 : AH} {s : RS} {ρ0 : Env} {h : AH} {w0 : World} {S : Nat → Bool} {ρ : Env} {tmps : Array Value} {w : World} {k : Nat} {hk : AH}
theorem finish_eq {fr : Frame} {i : Nat} {rest : List Nat} {kk : List Item} {o : Oper} (ht : fr.todo = .inRegion ops (i :: rest) :: kk) (ho : ops[i]? = some o) (u : Value) : fr.finish u = { fr with tmps := setD fr.tmps o.dst u, todo := .inRegion ops rest :: kk } := by
  obtain ⟨fn, tmps, todo, defers, mode, kind, roundOf⟩ := fr
  simp only at ht; subst ht
  simp only [Frame.finish, ho, Option.bind_some, setD]
  rfl
theorem op_run (hη : OneCells η) (hnest : NestOk η P B nest) (cs : List Frame) (G : Good P nest ops.toList base n tm0 h0 s) (I : RInv η P B s base N n tm0 ρ0 h w0 S ρ tmps w k hk) {i : Nat} {x : Ent} (hx : s.ents[i]? = some x) (hp : ∀ e ∈ x.o.after.toList, Region.binds .any e = true → S e.on = true) (hi : S i = false) (hiN : i < N)
    {fr : Frame} {rest : List Nat} {kk : List Item} (hm : fr.mode = .run) (ht : fr.todo = .inRegion ops (i :: rest) :: kk) (hfr : fr.tmps = tmps) :
    ∃ ρ' tmps' w' k' hk', RInv η P B s base N n tm0 ρ0 h w0 (fun j => S j || j == i) ρ' tmps' w' k' hk' ∧ Steps P (lone fr cs w) (lone { fr with tmps := tmps', todo := .inRegion ops rest :: kk } cs w') := by
  have K := G.ent i x hx
  have ho : ops[i]? = some x.o := by rw [← Array.getElem?_toList]; exact K.o
  have hw := want_agree G I hx hp hi
  have hfin := fun u => finish_eq (fr := fr) ht ho u
  have hnc : notCall fr := fun d b r s k hh => by rw [ht] at hh; cases hh
  cases hwant : x.want with
  | false =>
    obtain ⟨h1, h2⟩ := K.un hwant
    refine ⟨ρ, _, w, k, hk, quiet_step G I hx hp hi hiN h2 (fun hh => by rw [hwant] at hh; cases hh.1) (u := undef) (by rw [h1]; exact .undef'), one_go ?_⟩
    rw [hwant] at hw
    have hf := hfin undef
    rw [hfr] at hf
    rw [← hf]
    obtain ⟨fn, tmps2, todo, defers, mode, kind, roundOf⟩ := fr
    simp only at hm ht hfr
    subst hm; subst ht; subst hfr
    simp only [stepG, run0, stepG.exec, ho, Option.map_some, Option.getD_some, hw, Bool.false_eq_true, if_false]
    rfl
  | true =>
    have hok := K.ok hwant
    have hev := eval_agree G I hx hp hi hok hfr
    have hw' : Region.wanted x.o (yielded ops fr.tmps) = true := by rw [hfr, hw, hwant]
    cases hkind : x.kind with
    | read =>
      obtain ⟨hobj, hrd⟩ := K.rd hwant hkind
      obtain ⟨al, hal, hr⟩ := hrd k hk I.hhk (fun m e he hb => (I.ks m e he).1 (I.mask G i x hx hp e hb)) (fun m e hmk he => by
        obtain ⟨y, hy, _⟩ := G.effs m e he
        rw [mkE_of hy]
        cases hb : y.mask.testBit i with
        | false => rfl
        | true => have := I.mask' G hy ((I.ks m e he).2 hmk) i hb; rw [hi] at this; cases this)
      obtain ⟨_, hpre⟩ := I.sub hal (I.mask G i x hx hp)
      obtain ⟨u, hu, huv⟩ := readA_ok hη hpre.glob hpre.hr hev hr
      have hd : ∀ c, x.o.op ≠ .defer c := by
        intro c hc
        unfold readA at hr
        rw [hc] at hr
        simp [no] at hr
      refine ⟨ρ, _, w, k, hk, quiet_step G I hx hp hi hiN hobj (fun hh => by rw [hkind] at hh; cases hh.2) huv, one_go ?_⟩
      rw [stepG_region hm ht ho hw' (.inr hd), apply_value hu, hfin, hfr]
    | alloc =>
      obtain ⟨b, hobj, ha⟩ := K.alc hwant hkind
      obtain ⟨hown, u, w', ob, nn, hu, hpush, hrel⟩ := allocA_ok (w := w) hη hev ha
      have hle := Env.le_put (t := (w.heap.size, 0, nn)) (I.unb i hiN (.inl hi))
      obtain ⟨h1, h2⟩ := hrel _ hle (Env.put_at _ _ _)
      have hd : ∀ c, x.o.op ≠ .defer c := by
        intro c hc
        unfold allocA at ha
        rw [hc] at ha
        simp [no] at ha
      refine ⟨_, _, w', k, hk, alloc_step G I hx hp hi hiN hobj hown (fun hh => by rw [hkind] at hh; cases hh.2) hpush h1 h2, one_go ?_⟩
      rw [stepG_region hm ht ho hw' (.inr hd), apply_value hu, hfin, hfr]
    | effect =>
      obtain ⟨hobj, k2, hk2, hk', e1, e2, e3, e4, al, hal, hef⟩ := K.eff hwant hkind
      -- just those before it are done
      have hkk : k2 = k := by
        rcases Nat.lt_trichotomy k2 k with hlt | h2 | hgt
        · have := (I.ks k2 i e1).2 hlt
          rw [hi] at this; cases this
        · exact h2
        · have hkl : k < s.ee.length := by have := (List.getElem?_eq_some_iff.1 e1).1; omega
          have hb := e4 k s.ee[k] hgt (List.getElem?_eq_getElem hkl)
          have := (I.ks k s.ee[k] (List.getElem?_eq_getElem hkl)).1 (I.mask G i x hx hp _ hb)
          exact absurd this (Nat.lt_irrefl _)
      subst hkk
      have : hk2 = hk := by have := I.hhk; rw [e2] at this; exact Option.some.inj this
      subst this
      obtain ⟨_, hpre⟩ := I.sub hal (I.mask G i x hx hp)
      simp only [effRun, bind_ok] at hef
      obtain ⟨⟨a, h1⟩, hea, hef⟩ := hef
      obtain ⟨ρ1, w1, hn, hpost⟩ := effA_ok hη hpre hev hea
      have hd : ∀ c, x.o.op ≠ .defer c := by
        intro c hc
        unfold effA at hea
        rw [hc] at hea
        simp only [bind_ok] at hea
        obtain ⟨⟨t, args⟩, _, hea⟩ := hea
        rw [okk] at hea; injection hea with q1 q2; subst q1
        simp [no] at hef
      split at hef
      · rename_i v h2 heq
        injection heq with q1 q2; subst q1; subst q2
        rw [okk] at hef; injection hef with q1 q2; subst q1; subst q2
        obtain ⟨u, hu, huv⟩ := hn
        refine ⟨ρ1, _, w1, _, _, effect_step G I hx hp hi hiN hobj e1 e3 hal hpost huv, one_go ?_⟩
        rw [stepG_region hm ht ho hw' (.inr hd), apply_value hu, hfin, hfr]
      · rename_i h2 heq
        injection heq with q1 q2; subst q1; subst q2
        rw [okk] at hef; injection hef with q1 q2
        have hu : (execOp fr.eval x.o).run P w = .ok .skip w1 := hn
        subst q2
        refine ⟨ρ1, _, w1, _, _, effect_step G I hx hp hi hiN hobj e1 e3 hal hpost (u := undef) (by rw [← q1]; exact .undef'), one_go ?_⟩
        rw [stepG_region hm ht ho hw' (.inr hd), apply_skip hu, hfin, hfr]
      · rename_i g args h2 heq
        injection heq with q1 q2; subst q1; subst q2
        obtain ⟨xs, hu, hl⟩ := hn
        obtain ⟨ρ2, fr2, w2, u, hp2, hv2, _, hleave, hst⟩ := hnest g args h1 hk' x.v hef ρ1 xs w1 (fr :: cs) hl (hpre.post hpost)
        refine ⟨ρ2, _, w2, _, _, effect_step G I hx hp hi hiN hobj e1 e3 hal (hpost.trans hp2) hv2, ?_⟩
        refine (one_go (fr' := Frame.enter P g xs .normal) (cs' := fr :: cs) (w' := w1) ?_).trans (hst.trans (.one ?_))
        · rw [stepG_region hm ht ho hw' (.inr hd), apply_enter hnc hu]
        · rw [step_leave_returned hleave, hfin, hfr]
      · simp [no] at hef
/-- All that is left is done. -/
theorem lin_run (hη : OneCells η) (hnest : NestOk η P B nest) (cs : List Frame) (G : Good P nest ops.toList base n tm0 h0 s) (hN : s.ents.length = ops.size) : ∀ (fuel t : Nat) (listed : Array Bool) (ρ : Env) (tmps : Array Value) (w : World) (k : Nat) (hk : AH) (fr : Frame) (kk : List Item),
    listed.size = ops.size → listed.toList.countP (· == false) ≤ fuel → RInv η P B s base ops.size n tm0 ρ0 h w0 (fun j => listed.getD j false) ρ tmps w k hk → fr.mode = .run → fr.todo = .inRegion ops (Region.linearise.go .any ops fuel t listed []) :: kk → fr.tmps = tmps →
    ∃ S' ρ' tmps' w' k' hk', (∀ j, j < ops.size → S' j = true) ∧ RInv η P B s base ops.size n tm0 ρ0 h w0 S' ρ' tmps' w' k' hk' ∧ Steps P (lone fr cs w) (lone { fr with tmps := tmps', todo := kk } cs w') := by
  have done : ∀ (listed : Array Bool) (ρ : Env) (tmps : Array Value) (w : World) (k : Nat) (hk : AH) (fr : Frame) (kk : List Item), (∀ j, j < ops.size → listed.getD j false = true) →
      RInv η P B s base ops.size n tm0 ρ0 h w0 (fun j => listed.getD j false) ρ tmps w k hk → fr.mode = .run → fr.todo = .inRegion ops [] :: kk → fr.tmps = tmps →
      ∃ S' ρ' tmps' w' k' hk', (∀ j, j < ops.size → S' j = true) ∧ RInv η P B s base ops.size n tm0 ρ0 h w0 S' ρ' tmps' w' k' hk' ∧ Steps P (lone fr cs w) (lone { fr with tmps := tmps', todo := kk } cs w') := by
    intro listed ρ tmps w k hk fr kk hall I hm ht hfr
    refine ⟨_, ρ, tmps, w, k, hk, hall, I, one_go ?_⟩
    obtain ⟨fn, tmps2, todo, defers, mode, kind, roundOf⟩ := fr
    simp only at hm ht hfr
    subst hm; subst ht; subst hfr
    simp [stepG, run0, stepG.exec]
  intro fuel
  induction fuel with
  | zero =>
    intro t listed ρ tmps w k hk fr kk hsz hc I hm ht hfr
    refine done listed ρ tmps w k hk fr kk (fun j hj => ?_) I hm (by simpa [Region.linearise.go] using ht) hfr
    have h0 : listed.toList.countP (· == false) = 0 := by omega
    rw [List.countP_eq_zero] at h0
    have hjl : j < listed.size := by omega
    have := h0 listed[j] (by simp)
    rw [Array.getD_eq_getD_getElem?, Array.getElem?_eq_getElem hjl]
    simpa using this
  | succ fuel ih =>
    intro t listed ρ tmps w k hk fr kk hsz hc I hm ht hfr
    simp only [Region.linearise.go] at ht
    change fr.todo = .inRegion ops (match (Region.ready .any ops listed)[t % (Region.ready .any ops listed).length]? with
      | some i => Region.linearise.go .any ops fuel (t / (Region.ready .any ops listed).length) (listed.setIfInBounds i true) [i]
      | none => [].reverse) :: kk at ht
    cases hi : (Region.ready .any ops listed)[t % (Region.ready .any ops listed).length]? with
    | none =>
      rw [hi] at ht
      have hnil : Region.ready .any ops listed = [] := by
        cases hr : Region.ready .any ops listed with
        | nil => rfl
        | cons x xs =>
          rw [hr] at hi
          have hlt : t % (x :: xs).length < (x :: xs).length := Nat.mod_lt _ (by simp)
          rw [List.getElem?_eq_none_iff] at hi
          omega
      refine done listed ρ tmps w k hk fr kk ?_ I hm (by simpa using ht) hfr
      -- the least one that is left would be ready
      intro j
      induction j using Nat.strongRecOn with
      | _ j ihj =>
        intro hj
        cases hl : listed.getD j false with
        | true => rfl
        | false =>
          exfalso
          have hjl : j < listed.size := by omega
          have hje : j < s.ents.length := by omega
          have K := G.ent j _ (List.getElem?_eq_getElem hje)
          have hmem : j ∈ Region.ready .any ops listed := by
            rw [mem_ready]
            refine ⟨?_, _, by rw [← Array.getElem?_toList]; exact K.o, fun e he hb => ?_⟩
            · rw [Array.getD_eq_getD_getElem?, Array.getElem?_eq_getElem hjl] at hl ⊢
              simpa using hl
            · have := (K.pre e (by simpa using he) hb).1
              exact ihj e.on this (by omega)
          rw [hnil] at hmem; cases hmem
    | some i =>
      rw [hi] at ht
      simp only at ht
      rw [linearise_go_acc, List.reverse_singleton, List.singleton_append] at ht
      have hmem := List.mem_of_getElem? hi
      rw [mem_ready] at hmem
      obtain ⟨hun, o, ho, hall⟩ := hmem
      have hil : i < ops.size := (Array.getElem?_eq_some_iff.1 ho).1
      have hie : i < s.ents.length := by omega
      have hisz : i < listed.size := by omega
      have hx := List.getElem?_eq_getElem hie
      have K := G.ent i _ hx
      have hoo : o = s.ents[i].o := by
        have := K.o
        rw [Array.getElem?_toList, ho] at this
        exact Option.some.inj this
      have hli : listed.getD i false = false := by
        rw [Array.getD_eq_getD_getElem?, Array.getElem?_eq_getElem hisz] at hun ⊢
        simpa using hun
      obtain ⟨ρ1, tmps1, w1, k1, hk1, I1, hst⟩ := op_run hη hnest cs G I hx (fun e he hb => hall e (by rw [hoo]; simpa using he) hb) hli hil hm ht hfr
      have hS : (fun j => listed.getD j false || j == i) = fun j => (listed.setIfInBounds i true).getD j false := by
        funext j
        simp only [Array.getD_eq_getD_getElem?]
        by_cases hji : j = i
        · subst hji; simp [hisz]
        · rw [Array.getElem?_setIfInBounds_ne (fun e => hji e.symm)]; simp [hji]
      rw [hS] at I1
      have hcnt : (listed.setIfInBounds i true).toList.countP (· == false) ≤ fuel := by
        rw [Array.toList_setIfInBounds, List.countP_set (h := by simpa using hisz)]
        have hli' : listed.toList[i] = false := by
          rw [Array.getD_eq_getD_getElem?, Array.getElem?_eq_getElem hisz] at hli
          simpa using hli
        rw [hli']
        have e1 : (false == false) = true := rfl
        have e2 : (true == false) = false := rfl
        simp only [e1, e2, if_true, Bool.false_eq_true, if_false]
        omega
      obtain ⟨S', ρ2, tmps2, w2, k2, hk2, g1, g2, g3⟩ := ih _ _ ρ1 tmps1 w1 k1 hk1 { fr with tmps := tmps1, todo := .inRegion ops (Region.linearise.go .any ops fuel (t / (Region.ready .any ops listed).length) (listed.setIfInBounds i true) []) :: kk } kk (by simp [hsz]) hcnt I1 hm rfl rfl
      exact ⟨S', ρ2, tmps2, w2, k2, hk2, g1, g2, hst.trans g3⟩
end
end Go.Ev
