/- HSortsC, part 3: what the proof needs, in the order of its texts. -/
import Derived.Test.YtjjlnehilcnheaaHSortsC2
import Derived.Lib.LaidTab
import Derived.Lib.SmallJoins
import Derived.Test.YtjjlnehilcnheaaProg
import Derived.KernelRfl
namespace Go.Ev
set_option linter.unusedVariables false
set_option linter.unusedSimpArgs false
variable {η : Nat → Value}
section
variable {P : Program} {B : Bd} {nest : Nest} {ops : Array Oper} {base N n : Nat} {tm0 : T Value} {h0 : AH} {s : RS} {ρ0 : Env} {h : AH} {w0 : World} {S : Nat → Bool} {ρ : Env} {tmps : Array Value} {w : World} {k : Nat} {hk : AH}
theorem finish_eq {fr : Frame} {i : Nat} {rest : List Nat} {kk : List Item} {o : Oper} (ht : fr.todo = .inRegion ops (i :: rest) :: kk) (ho : ops[i]? = some o) (u : Value) : fr.finish u = { fr with tmps := setD fr.tmps o.dst u, todo := .inRegion ops rest :: kk } := by
  obtain ⟨fn, tmps, todo, defers, mode, kind, roundOf⟩ := fr
  simp only at ht; subst ht
  simp only [Frame.finish, ho, Option.bind_some, setD]
  rfl
theorem op_run (hη : OneCells η) (hnest : NestOk η P B nest) (cs : List Frame) (G : Good P nest ops.toList base n tm0 h0 s) (I : RInv η P B s base N n tm0 ρ0 h w0 S ρ tmps w k hk) {i : Nat} {x : Ent} (hx : s.ents[i]? = some x) (hp : ∀ e ∈ x.o.after.toList, Region.binds .any e = true → S e.on = true) (hi : S i = false) (hiN : i < N)
    {fr : Frame} {rest : List Nat} {kk : List Item} (hm : fr.mode = .run) (ht : fr.todo = .inRegion ops (i :: rest) :: kk) (hfr : fr.tmps = tmps) :
    ∃ ρ' tmps' w' k' hk', RInv η P B s base N n tm0 ρ0 h w0 (fun j => S j || j == i) ρ' tmps' w' k' hk' ∧ Steps P (lone fr cs w) (lone { fr with tmps := tmps', todo := .inRegion ops rest :: kk } cs w') := by
  have K := G.ent i x hx
  have ho : ops[i]? = some x.o := by rw [← Array.getElem?_toList]; exact K.o
  have hw := want_agree G I hx hp hi
  have hfin := fun u => finish_eq (fr := fr) ht ho u
  have hnc : notCall fr := fun d b r s k hh => by rw [ht] at hh; cases hh
  cases hwant : x.want with
  | false =>
    obtain ⟨h1, h2⟩ := K.un hwant
    refine ⟨ρ, _, w, k, hk, quiet_step G I hx hp hi hiN h2 (fun hh => by rw [hwant] at hh; cases hh.1) (u := undef) (by rw [h1]; exact .undef'), one_go ?_⟩
    rw [hwant] at hw
    have hf := hfin undef
    rw [hfr] at hf
    rw [← hf]
    obtain ⟨fn, tmps2, todo, defers, mode, kind, roundOf⟩ := fr
    simp only at hm ht hfr
    subst hm; subst ht; subst hfr
    simp only [stepG, run0, stepG.exec, ho, Option.map_some, Option.getD_some, hw, Bool.false_eq_true, if_false]
    rfl
  | true =>
    have hok := K.ok hwant
    have hev := eval_agree G I hx hp hi hok hfr
    have hw' : Region.wanted x.o (yielded ops fr.tmps) = true := by rw [hfr, hw, hwant]
    cases hkind : x.kind with
    | read =>
      obtain ⟨hobj, hrd⟩ := K.rd hwant hkind
      obtain ⟨al, hal, hr⟩ := hrd k hk I.hhk (fun m e he hb => (I.ks m e he).1 (I.mask G i x hx hp e hb)) (fun m e hmk he => by
        obtain ⟨y, hy, _⟩ := G.effs m e he
        rw [mkE_of hy]
        cases hb : y.mask.testBit i with
        | false => rfl
        | true => have := I.mask' G hy ((I.ks m e he).2 hmk) i hb; rw [hi] at this; cases this)
      obtain ⟨_, hpre⟩ := I.sub hal (I.mask G i x hx hp)
      obtain ⟨u, hu, huv⟩ := readA_ok hη hpre.glob hpre.hr hev hr
      have hd : ∀ c, x.o.op ≠ .defer c := by
        intro c hc
        unfold readA at hr
        rw [hc] at hr
        simp [no] at hr
      refine ⟨ρ, _, w, k, hk, quiet_step G I hx hp hi hiN hobj (fun hh => by rw [hkind] at hh; cases hh.2) huv, one_go ?_⟩
      rw [stepG_region hm ht ho hw' (.inr hd), apply_value hu, hfin, hfr]
    | alloc =>
      obtain ⟨b, hobj, ha⟩ := K.alc hwant hkind
      obtain ⟨hown, u, w', ob, nn, hu, hpush, hrel⟩ := allocA_ok (w := w) hη hev ha
      have hle := Env.le_put (t := (w.heap.size, 0, nn)) (I.unb i hiN (.inl hi))
      obtain ⟨h1, h2⟩ := hrel _ hle (Env.put_at _ _ _)
      have hd : ∀ c, x.o.op ≠ .defer c := by
        intro c hc
        unfold allocA at ha
        rw [hc] at ha
        simp [no] at ha
      refine ⟨_, _, w', k, hk, alloc_step G I hx hp hi hiN hobj hown (fun hh => by rw [hkind] at hh; cases hh.2) hpush h1 h2, one_go ?_⟩
      rw [stepG_region hm ht ho hw' (.inr hd), apply_value hu, hfin, hfr]
    | effect =>
      obtain ⟨hobj, k2, hk2, hk', e1, e2, e3, e4, al, hal, hef⟩ := K.eff hwant hkind
      -- just those before it are done
      have hkk : k2 = k := by
        rcases Nat.lt_trichotomy k2 k with hlt | h2 | hgt
        · have := (I.ks k2 i e1).2 hlt
          rw [hi] at this; cases this
        · exact h2
        · have hkl : k < s.ee.length := by have := (List.getElem?_eq_some_iff.1 e1).1; omega
          have hb := e4 k s.ee[k] hgt (List.getElem?_eq_getElem hkl)
          have := (I.ks k s.ee[k] (List.getElem?_eq_getElem hkl)).1 (I.mask G i x hx hp _ hb)
          exact absurd this (Nat.lt_irrefl _)
      subst hkk
      have : hk2 = hk := by have := I.hhk; rw [e2] at this; exact Option.some.inj this
      subst this
      obtain ⟨_, hpre⟩ := I.sub hal (I.mask G i x hx hp)
      simp only [effRun, bind_ok] at hef
      obtain ⟨⟨a, h1⟩, hea, hef⟩ := hef
      obtain ⟨ρ1, w1, hn, hpost⟩ := effA_ok hη hpre hev hea
      have hd : ∀ c, x.o.op ≠ .defer c := by
        intro c hc
        unfold effA at hea
        rw [hc] at hea
        simp only [bind_ok] at hea
        obtain ⟨⟨t, args⟩, _, hea⟩ := hea
        rw [okk] at hea; injection hea with q1 q2; subst q1
        simp [no] at hef
      split at hef
      · rename_i v h2 heq
        injection heq with q1 q2; subst q1; subst q2
        rw [okk] at hef; injection hef with q1 q2; subst q1; subst q2
        obtain ⟨u, hu, huv⟩ := hn
        refine ⟨ρ1, _, w1, _, _, effect_step G I hx hp hi hiN hobj e1 e3 hal hpost huv, one_go ?_⟩
        rw [stepG_region hm ht ho hw' (.inr hd), apply_value hu, hfin, hfr]
      · rename_i h2 heq
        injection heq with q1 q2; subst q1; subst q2
        rw [okk] at hef; injection hef with q1 q2
        have hu : (execOp fr.eval x.o).run P w = .ok .skip w1 := hn
        subst q2
        refine ⟨ρ1, _, w1, _, _, effect_step G I hx hp hi hiN hobj e1 e3 hal hpost (u := undef) (by rw [← q1]; exact .undef'), one_go ?_⟩
        rw [stepG_region hm ht ho hw' (.inr hd), apply_skip hu, hfin, hfr]
      · rename_i g args h2 heq
        injection heq with q1 q2; subst q1; subst q2
        obtain ⟨xs, hu, hl⟩ := hn
        obtain ⟨ρ2, fr2, w2, u, hp2, hv2, _, hleave, hst⟩ := hnest g args h1 hk' x.v hef ρ1 xs w1 (fr :: cs) hl (hpre.post hpost)
        refine ⟨ρ2, _, w2, _, _, effect_step G I hx hp hi hiN hobj e1 e3 hal (hpost.trans hp2) hv2, ?_⟩
        refine (one_go (fr' := Frame.enter P g xs .normal) (cs' := fr :: cs) (w' := w1) ?_).trans (hst.trans (.one ?_))
        · rw [stepG_region hm ht ho hw' (.inr hd), apply_enter hnc hu]
        · rw [step_leave_returned hleave, hfin, hfr]
      · simp [no] at hef
/-- All that is left is done. -/
theorem lin_run (hη : OneCells η) (hnest : NestOk η P B nest) (cs : List Frame) (G : Good P nest ops.toList base n tm0 h0 s) (hN : s.ents.length = ops.size) : ∀ (fuel t : Nat) (listed : Array Bool) (ρ : Env) (tmps : Array Value) (w : World) (k : Nat) (hk : AH) (fr : Frame) (kk : List Item),
    listed.size = ops.size → listed.toList.countP (· == false) ≤ fuel → RInv η P B s base ops.size n tm0 ρ0 h w0 (fun j => listed.getD j false) ρ tmps w k hk → fr.mode = .run → fr.todo = .inRegion ops (Region.linearise.go .any ops fuel t listed []) :: kk → fr.tmps = tmps →
    ∃ S' ρ' tmps' w' k' hk', (∀ j, j < ops.size → S' j = true) ∧ RInv η P B s base ops.size n tm0 ρ0 h w0 S' ρ' tmps' w' k' hk' ∧ Steps P (lone fr cs w) (lone { fr with tmps := tmps', todo := kk } cs w') := by
  have done : ∀ (listed : Array Bool) (ρ : Env) (tmps : Array Value) (w : World) (k : Nat) (hk : AH) (fr : Frame) (kk : List Item), (∀ j, j < ops.size → listed.getD j false = true) →
      RInv η P B s base ops.size n tm0 ρ0 h w0 (fun j => listed.getD j false) ρ tmps w k hk → fr.mode = .run → fr.todo = .inRegion ops [] :: kk → fr.tmps = tmps →
      ∃ S' ρ' tmps' w' k' hk', (∀ j, j < ops.size → S' j = true) ∧ RInv η P B s base ops.size n tm0 ρ0 h w0 S' ρ' tmps' w' k' hk' ∧ Steps P (lone fr cs w) (lone { fr with tmps := tmps', todo := kk } cs w') := by
    intro listed ρ tmps w k hk fr kk hall I hm ht hfr
    refine ⟨_, ρ, tmps, w, k, hk, hall, I, one_go ?_⟩
    obtain ⟨fn, tmps2, todo, defers, mode, kind, roundOf⟩ := fr
    simp only at hm ht hfr
    subst hm; subst ht; subst hfr
    simp [stepG, run0, stepG.exec]
  intro fuel
  induction fuel with
  | zero =>
    intro t listed ρ tmps w k hk fr kk hsz hc I hm ht hfr
    refine done listed ρ tmps w k hk fr kk (fun j hj => ?_) I hm (by simpa [Region.linearise.go] using ht) hfr
    have h0 : listed.toList.countP (· == false) = 0 := by omega
    rw [List.countP_eq_zero] at h0
    have hjl : j < listed.size := by omega
    have := h0 listed[j] (by simp)
    rw [Array.getD_eq_getD_getElem?, Array.getElem?_eq_getElem hjl]
    simpa using this
  | succ fuel ih =>
    intro t listed ρ tmps w k hk fr kk hsz hc I hm ht hfr
    simp only [Region.linearise.go] at ht
    change fr.todo = .inRegion ops (match (Region.ready .any ops listed)[t % (Region.ready .any ops listed).length]? with
      | some i => Region.linearise.go .any ops fuel (t / (Region.ready .any ops listed).length) (listed.setIfInBounds i true) [i]
      | none => [].reverse) :: kk at ht
    cases hi : (Region.ready .any ops listed)[t % (Region.ready .any ops listed).length]? with
    | none =>
      rw [hi] at ht
      have hnil : Region.ready .any ops listed = [] := by
        cases hr : Region.ready .any ops listed with
        | nil => rfl
        | cons x xs =>
          rw [hr] at hi
          have hlt : t % (x :: xs).length < (x :: xs).length := Nat.mod_lt _ (by simp)
          rw [List.getElem?_eq_none_iff] at hi
          omega
      refine done listed ρ tmps w k hk fr kk ?_ I hm (by simpa using ht) hfr
      -- the least one that is left would be ready
      intro j
      induction j using Nat.strongRecOn with
      | _ j ihj =>
        intro hj
        cases hl : listed.getD j false with
        | true => rfl
        | false =>
          exfalso
          have hjl : j < listed.size := by omega
          have hje : j < s.ents.length := by omega
          have K := G.ent j _ (List.getElem?_eq_getElem hje)
          have hmem : j ∈ Region.ready .any ops listed := by
            rw [mem_ready]
            refine ⟨?_, _, by rw [← Array.getElem?_toList]; exact K.o, fun e he hb => ?_⟩
            · rw [Array.getD_eq_getD_getElem?, Array.getElem?_eq_getElem hjl] at hl ⊢
              simpa using hl
            · have := (K.pre e (by simpa using he) hb).1
              exact ihj e.on this (by omega)
          rw [hnil] at hmem; cases hmem
    | some i =>
      rw [hi] at ht
      simp only at ht
      rw [linearise_go_acc, List.reverse_singleton, List.singleton_append] at ht
      have hmem := List.mem_of_getElem? hi
      rw [mem_ready] at hmem
      obtain ⟨hun, o, ho, hall⟩ := hmem
      have hil : i < ops.size := (Array.getElem?_eq_some_iff.1 ho).1
      have hie : i < s.ents.length := by omega
      have hisz : i < listed.size := by omega
      have hx := List.getElem?_eq_getElem hie
      have K := G.ent i _ hx
      have hoo : o = s.ents[i].o := by
        have := K.o
        rw [Array.getElem?_toList, ho] at this
        exact Option.some.inj this
      have hli : listed.getD i false = false := by
        rw [Array.getD_eq_getD_getElem?, Array.getElem?_eq_getElem hisz] at hun ⊢
        simpa using hun
      obtain ⟨ρ1, tmps1, w1, k1, hk1, I1, hst⟩ := op_run hη hnest cs G I hx (fun e he hb => hall e (by rw [hoo]; simpa using he) hb) hli hil hm ht hfr
      have hS : (fun j => listed.getD j false || j == i) = fun j => (listed.setIfInBounds i true).getD j false := by
        funext j
        simp only [Array.getD_eq_getD_getElem?]
        by_cases hji : j = i
        · subst hji; simp [hisz]
        · rw [Array.getElem?_setIfInBounds_ne (fun e => hji e.symm)]; simp [hji]
      rw [hS] at I1
      have hcnt : (listed.setIfInBounds i true).toList.countP (· == false) ≤ fuel := by
        rw [Array.toList_setIfInBounds, List.countP_set (h := by simpa using hisz)]
        have hli' : listed.toList[i] = false := by
          rw [Array.getD_eq_getD_getElem?, Array.getElem?_eq_getElem hisz] at hli
          simpa using hli
        rw [hli']
        have e1 : (false == false) = true := rfl
        have e2 : (true == false) = false := rfl
        simp only [e1, e2, if_true, Bool.false_eq_true, if_false]
        omega
      obtain ⟨S', ρ2, tmps2, w2, k2, hk2, g1, g2, g3⟩ := ih _ _ ρ1 tmps1 w1 k1 hk1 { fr with tmps := tmps1, todo := .inRegion ops (Region.linearise.go .any ops fuel (t / (Region.ready .any ops listed).length) (listed.setIfInBounds i true) []) :: kk } kk (by simp [hsz]) hcnt I1 hm rfl rfl
      exact ⟨S', ρ2, tmps2, w2, k2, hk2, g1, g2, hst.trans g3⟩
end
end Go.Ev

namespace Go.Ev
set_option linter.unusedVariables false
set_option linter.unusedSimpArgs false
variable {η : Nat → Value}
section
variable {P : Program} {B : Bd}
theorem finalH_get {h : AH} {r : Nat} {a : AObj} : ∀ (al : List (Nat × Nat × AObj)), (finalH h al).objs.get r = some a → h.objs.get r = some a ∨ ∃ j, (j, r, a) ∈ al
  | [], hg => .inl hg
  | (i, r', b) :: l, hg => by
    simp only [finalH, putA, T.get_set] at hg
    by_cases e : r = r'
    · rw [if_pos e] at hg; cases hg; subst e
      exact .inr ⟨i, by simp⟩
    · rw [if_neg e] at hg
      rcases finalH_get l hg with h1 | ⟨j, h1⟩
      · exact .inl h1
      · exact .inr ⟨j, by simp [h1]⟩
theorem finalH_next {h : AH} : ∀ (al : List (Nat × Nat × AObj)), (finalH h al).next = h.next
  | [] => rfl
  | _ :: l => finalH_next l
theorem regionA_ok (hη : OneCells η) (hmix : P.follows .mixedOrders = true) {nest : Nest} (hnest : NestOk η P B nest) : RegOk η P B nest := by
  intro ops n tm tm' h h' hr ρ fr w kk id cs ht p hm hto
  simp only [regionA, bind_ok] at hr
  obtain ⟨s, hs, hr⟩ := hr
  rw [okk] at hr; injection hr with e1 e2; subst e1; subst e2
  obtain ⟨G, hlen⟩ := regLoop_good (base := h.next) (n := n) (tm0 := tm) (ops := ops.toList) (P := P) (nest := nest) (h0 := { h with next := h.next + ops.toList.length }) (Good.start _) (fun j o hj => by simpa using hj) hs
  have hN : s.ents.length = ops.size := by rw [hlen]; simp
  have hsz : ops.toList.length = ops.size := rfl
  -- nothing is done
  have hin : ∀ (S : Nat → Bool) r a, (∀ j, S j = false) → InS s.ents s.ee h.next S 0 { h with next := h.next + ops.toList.length } r a → h.objs.get r = some a := by
    rintro S r a hS (h1 | ⟨j, _, _, h3, _⟩)
    · exact h1
    · rw [hS] at h3; cases h3
  have hall : ∀ j, (Array.replicate ops.size false).getD j false = false := by
    intro j
    rw [Array.getD_eq_getD_getElem?, Array.getElem?_replicate]
    split <;> rfl
  have I0 : RInv η P B s h.next ops.size n tm ρ h w (fun j => (Array.replicate ops.size false).getD j false) ρ fr.tmps { w with drawn := w.drawn + 1 } 0 { h with next := h.next + ops.toList.length } := by
    refine ⟨fun j x hx hj => ?_, fun j hj => ?_, ?_, G.hd, Nat.zero_le _, fun m e he => ?_, ⟨fun r a hI => p.hr.obj r a (hin _ r a hall hI), fun r r' a a' b d m d' m' h1 h2 => p.hr.inj r r' a a' b d m d' m' (hin _ _ _ hall h1) (hin _ _ _ hall h2), fun r a b d m h1 => p.hr.sh r a b d m (hin _ _ _ hall h1), (fun j a b d m _ h3 => by rw [hall] at h3; cases h3), by rw [hsz]; exact Nat.le_refl _, fun r hr => p.fresh r ?_, ?_, ?_, ?_⟩, fun j hj _ => p.fresh _ (by omega), Env.le_refl _, fun _ _ => rfl, p.glob, ⟨rfl, rfl, rfl, Nat.le_refl _, fun _ _ _ => rfl⟩, p.low⟩
    · rw [hall] at hj; cases hj
    · rw [hall] at hj; cases hj
    · refine TR.congr (fun t => ?_) ht
      rw [tmS_get]
      exact wr_none fun j x _ _ => by rw [Nat.zero_add]; exact hall j
    · rw [hall]; constructor
      · intro h; cases h
      · intro h; omega
    · simp only at hr; omega
    · intro j hj _
      show h.objs.get (h.next + j) = none
      cases hg : h.objs.get (h.next + j) with
      | none => rfl
      | some a => have := p.get_lt hg; omega
    · rintro b ⟨r, a, d, m, h1, h2, h3⟩
      exact .inl ⟨r, a, d, m, hin _ _ _ hall h1, h2, h3⟩
    · rintro b ⟨r, a, d, m, h1, h3⟩
      exact .inl ⟨r, a, d, m, hin _ _ _ hall h1, h3⟩
  obtain ⟨S', ρ', tmps', w', k', hk', g1, I, g3⟩ := lin_run hη hnest cs G hN ops.size (w.tape w.drawn (.order fr.fn id)) (Array.replicate ops.size false) ρ fr.tmps { w with drawn := w.drawn + 1 } 0 _
    { fr with todo := .inRegion ops (Region.linearise.go .any ops ops.size (w.tape w.drawn (.order fr.fn id)) (Array.replicate ops.size false) []) :: kk } kk (by simp) (Nat.le_trans List.countP_le_length (by simp)) I0 hm rfl rfl
  -- all effects are done
  have hk : k' = s.ee.length := by
    rcases Nat.lt_or_ge k' s.ee.length with hlt | hge
    · have he := G.ee_lt (List.getElem?_eq_getElem hlt)
      have := (I.ks k' s.ee[k'] (List.getElem?_eq_getElem hlt)).1 (g1 _ (by omega))
      exact absurd this (Nat.lt_irrefl _)
    · exact Nat.le_antisymm I.kle hge
  subst hk
  have hhk : hk' = s.h := by have := I.hhk; rw [G.hl] at this; exact (Option.some.inj this).symm
  subst hhk
  have hfin : ∀ r a, (finalH s.h s.al).objs.get r = some a → InS s.ents s.ee h.next S' s.ee.length s.h r a := by
    intro r a hg
    rcases finalH_get _ hg with h1 | ⟨j, h1⟩
    · exact .inl h1
    · obtain ⟨e1, e2, e3⟩ := G.al j r a h1
      exact .inr ⟨j, e1, e2, g1 j (by have := alOf_lt e2; omega), e3⟩
  refine ⟨ρ', tmps', w', ?_, ⟨I.le, I.old, ?_, ?_, ⟨fun r a hg => I.H.obj r a (hfin r a hg), fun r r' a a' b d m d' m' h1 h2 => I.H.inj r r' a a' b d m d' m' (hfin _ _ h1) (hfin _ _ h2), fun r a b d m h1 => I.H.sh r a b d m (hfin _ _ h1)⟩, I.fr, ?_, ?_⟩, ?_⟩
  · refine TR.congr (fun t => ?_) I.tmr
    rw [G.tm t, tmS_get]
    refine wr_congr fun j x hx _ => ?_
    have hj := (List.getElem?_eq_some_iff.1 hx).1
    rw [Nat.zero_add, g1 j (by omega)]
    simpa using hj
  · intro r hr
    rw [finalH_next] at hr
    exact I.H.fresh r hr
  · rw [finalH_next]
    have := I.H.nx; omega
  · rintro b ⟨r, a, d, m, h1, h2, h3⟩
    exact I.H.own b ⟨r, a, d, m, hfin _ _ h1, h2, h3⟩
  · rintro b ⟨r, a, d, m, h1, h3⟩
    exact I.H.inn b ⟨r, a, d, m, hfin _ _ h1, h3⟩
  · refine Steps.trans (one_go (fr' := { fr with todo := .inRegion ops (Region.linearise.go .any ops ops.size (w.tape w.drawn (.order fr.fn id)) (Array.replicate ops.size false) []) :: kk }) (cs' := cs) (w' := { w with drawn := w.drawn + 1 }) ?_) g3
    obtain ⟨fn, tmps2, todo, defers, mode, kind, roundOf⟩ := fr
    simp only at hm hto
    subst hm; subst hto
    simp [stepG, run0, stepG.exec, choose, Sem.run, Question.forced, Question.cut, Region.schedule, hmix, Region.linearise]
/-- Some steps. -/
theorem runF_ok (hη : OneCells η) {nest : Nest} (hreg : RegOk η P B nest) : ∀ (fuel : Nat) (s : AS) (f : FuncId) (v : Value) (h' : AH), runF P nest fuel s = .ok (f, v, h') → ∀ (ρ : Env) (fr : Frame) (cs : List Frame) (w : World) (cs0 : List Frame), SR η P ρ B s fr cs w →
    ∃ ρ' fr' w' x, Post η ρ B s.hp w ρ' h' w' ∧ VR η ρ' v x ∧ fr'.fn = f ∧ fr'.leaving P w' (.returned x) ∧ Steps P (lone fr (cs ++ cs0) w) (lone fr' cs0 w')
  | 0, s, f, v, h', hr, ρ, fr, cs, w, cs0, R => by simp [runF, no] at hr
  | fuel + 1, s, f, v, h', hr, ρ, fr, cs, w, cs0, R => by
    simp only [runF] at hr
    split at hr
    · rename_i s' hs
      rcases stepA_ok (cs0 := cs0) hη hreg R hs with ⟨s2, he, ρ1, fr1, cs1, w1, k1, k2, k3⟩ | ⟨v2, he, _⟩
      · injection he with he; subst he
        obtain ⟨ρ2, fr2, w2, x, l1, l2, l3, l4, l5⟩ := runF_ok hη hreg fuel s' f v h' hr ρ1 fr1 cs1 w1 cs0 k1
        exact ⟨ρ2, fr2, w2, x, k2.trans l1, l2, l3, l4, k3.trans l5⟩
      · cases he
    · rename_i f2 v2 h2 hs
      rw [okk] at hr; injection hr with e1 e2; injection e2 with e2 e3; subst e1; subst e2; subst e3
      rcases stepA_ok (cs0 := cs0) hη hreg R hs with ⟨s2, he, _⟩ | ⟨v3, he, hcs, x, hx, hl⟩
      · cases he
      · injection he with e1 e2 e3; subst e1; subst e2; subst e3
        have hc := R.cs
        rw [hcs] at hc
        have := hc.inv_nil; subst this
        exact ⟨ρ, fr, w, x, .refl R.pre, hx, R.fr.fn, hl, .refl _ _⟩
    · cases hr
theorem nestA_ok (hη : OneCells η) (hmix : P.follows .mixedOrders = true) (fuel : Nat) : ∀ d, NestOk η P B (nestA P fuel d)
  | 0 => by intro f args h h' v hr; simp [nestA, no] at hr
  | d + 1 => by
    intro f args h h' v hr ρ args' w cs hl p
    simp only [nestA, bind_ok] at hr
    obtain ⟨fr, he, ⟨f2, v2, h2⟩, hrun, hr⟩ := hr
    simp only [ite_no', okk] at hr
    obtain ⟨hf, hr⟩ := hr
    injection hr with e1 e2; subst e1; subst e2
    obtain ⟨ρ', fr', w', x, k1, k2, k3, k4, k5⟩ := runF_ok hη (regionA_ok hη hmix (nestA_ok hη hmix fuel d)) fuel ⟨fr, [], h⟩ f2 v2 h2 hrun ρ (Frame.enter P f args' .normal) [] w cs ⟨enter_ok he hl, .nil, p⟩
    exact ⟨ρ', fr', w', x, k1, k2, by rw [k3, hf], k4, by simpa using k5⟩
end
end Go.Ev

namespace Go.Ev
set_option linter.unusedVariables false
set_option linter.unusedSimpArgs false
variable {η : Nat → Value} {P : Program} {B : Bd}
/-- A call that ends with a value and a heap of which Q holds. -/
def CallSpec (η : Nat → Value) (P : Program) (B : Bd) (f : FuncId) (args : List Value) (h : AH) (Q : Value → AH → Prop) : Prop :=
  ∀ (ρ : Env) (args' : Array Value) (w : World) (cs : List Frame), LR η ρ args args'.toList → Pre η P ρ B h w →
    ∃ v h' ρ' fr' w' x, Q v h' ∧ Post η ρ B h w ρ' h' w' ∧ VR η ρ' v x ∧ fr'.fn = f ∧ fr'.leaving P w' (.returned x) ∧ Steps P (lone (Frame.enter P f args' .normal) cs w) (lone fr' cs w')
/-- From a state on, the call of fn that began with the heap h0 ends so. -/
def Run (η : Nat → Value) (P : Program) (B : Bd) (fn : FuncId) (h0 : AH) (s : AS) (Q : Value → AH → Prop) : Prop :=
  ∀ (ρ0 : Env) (w0 : World) (ρ : Env) (fr : Frame) (cs : List Frame) (w : World) (cs0 : List Frame), Pre η P ρ0 B h0 w0 → Post η ρ0 B h0 w0 ρ s.hp w → SR η P ρ B s fr cs w →
    ∃ v h' ρ' fr' w' x, Q v h' ∧ Post η ρ0 B h0 w0 ρ' h' w' ∧ VR η ρ' v x ∧ fr'.fn = fn ∧ fr'.leaving P w' (.returned x) ∧ Steps P (lone fr (cs ++ cs0) w) (lone fr' cs0 w')
theorem CallSpec.mono {f : FuncId} {args : List Value} {h : AH} {Q Q' : Value → AH → Prop} (c : CallSpec η P B f args h Q) (k : ∀ v h', Q v h' → Q' v h') : CallSpec η P B f args h Q' := by
  intro ρ args' w cs l p
  obtain ⟨v, h', ρ', fr', w', x, q, r⟩ := c ρ args' w cs l p
  exact ⟨v, h', ρ', fr', w', x, k _ _ q, r⟩
theorem Run.mono {fn : FuncId} {h0 : AH} {s : AS} {Q Q' : Value → AH → Prop} (c : Run η P B fn h0 s Q) (k : ∀ v h', Q v h' → Q' v h') : Run η P B fn h0 s Q' := by
  intro ρ0 w0 ρ fr cs w cs0 p0 p r
  obtain ⟨v, h', ρ', fr', w', x, q, r⟩ := c ρ0 w0 ρ fr cs w cs0 p0 p r
  exact ⟨v, h', ρ', fr', w', x, k _ _ q, r⟩
theorem CallSpec.enter {f : FuncId} {args : List Value} {h : AH} {fr : AF} {Q : Value → AH → Prop} (he : enterA P f args .normal = .ok fr) (r : Run η P B f h ⟨fr, [], h⟩ Q) : CallSpec η P B f args h Q := by
  intro ρ args' w cs l p
  exact r ρ w ρ (Frame.enter P f args' .normal) [] w cs p (.refl p) ⟨enter_ok he l, .nil, p⟩
theorem Run.step (hη : OneCells η) {nest : Nest} (hreg : RegOk η P B nest) {fn : FuncId} {h0 : AH} {s s' : AS} {Q : Value → AH → Prop} (hs : stepA P nest s = .ok (.next s')) (r : Run η P B fn h0 s' Q) : Run η P B fn h0 s Q := by
  intro ρ0 w0 ρ fr cs w cs0 p0 p R
  rcases stepA_ok (cs0 := cs0) hη hreg R hs with ⟨s2, he, ρ1, fr1, cs1, w1, k1, k2, k3⟩ | ⟨v2, he, _⟩
  · injection he with he; subst he
    obtain ⟨v, h', ρ', fr', w', x, q, l1, l2, l3, l4, l5⟩ := r ρ0 w0 ρ1 fr1 cs1 w1 cs0 p0 (p.trans k2) k1
    exact ⟨v, h', ρ', fr', w', x, q, l1, l2, l3, l4, k3.trans l5⟩
  · cases he
theorem Run.done (hη : OneCells η) {nest : Nest} (hreg : RegOk η P B nest) {fn : FuncId} {h0 h' : AH} {s : AS} {v : Value} {Q : Value → AH → Prop} (hs : stepA P nest s = .ok (.done fn v h')) (q : Q v h') : Run η P B fn h0 s Q := by
  intro ρ0 w0 ρ fr cs w cs0 p0 p R
  rcases stepA_ok (cs0 := cs0) hη hreg R hs with ⟨s2, he, _⟩ | ⟨v2, he, hcs, x, hx, hl⟩
  · cases he
  · injection he with e1 e2 e3; subst e1; subst e2; subst e3
    have hc := R.cs
    rw [hcs] at hc
    have := hc.inv_nil; subst this
    exact ⟨v, s.hp, ρ, fr, w, x, q, p, hx, R.fr.fn, hl, .refl _ _⟩
/-- Some steps at once. -/
def runN' (P : Program) (nest : Nest) : Nat → AS → M AS
  | 0, s => .ok s
  | n + 1, s => match stepA P nest s with
    | .ok (.next s) => runN' P nest n s
    | .ok (.done ..) => no "done"
    | .error e => .error e
theorem Run.steps (hη : OneCells η) {nest : Nest} (hreg : RegOk η P B nest) {fn : FuncId} {h0 : AH} {Q : Value → AH → Prop} {s' : AS} : ∀ (n : Nat) {s : AS}, runN' P nest n s = .ok s' → Run η P B fn h0 s' Q → Run η P B fn h0 s Q
  | 0, s, hs, r => by rw [runN', okk] at hs; subst hs; exact r
  | n + 1, s, hs, r => by
    rw [runN'] at hs
    split at hs
    · rename_i s1 h1; exact .step hη hreg h1 (Run.steps hη hreg n hs r)
    · simp [no] at hs
    · cases hs
/-- A call by its contract. -/
theorem Run.call (hη : OneCells η) {fn g : FuncId} {args : List Value} {h0 h1 : AH} {s : AS} {ops : Array Oper} {i : Nat} {rest : List Nat} {k : List Item} {o : Oper} {Q1 Q : Value → AH → Prop} (hm : s.fr.mode = .run) (ht : s.fr.todo = .inRegion ops (i :: rest) :: k) (ho : ops.toList[i]? = some o)
    (hw : wantedA ops.toList s.fr.tm o = .ok true) (hx : execA P (evA s.fr.tm) o s.hp = .ok (.enter g args, h1)) (hc : CallSpec η P B g args h1 Q1) (r : ∀ v h', Q1 v h' → ∃ f2, s.fr.finish v = .ok f2 ∧ Run η P B fn h0 ⟨f2, s.cs, h'⟩ Q) : Run η P B fn h0 s Q := by
  intro ρ0 w0 ρ fr cs w cs0 p0 p R
  obtain ⟨f, acs, hp⟩ := s
  simp only at hm ht hw hx r p
  have F := R.fr
  have hC := R.cs
  have hP := R.pre
  simp only at F hC hP
  have hmode : fr.mode = .run := by
    have h := F.mode
    rw [hm] at h
    generalize fr.mode = m at h
    cases h; rfl
  obtain ⟨k', htodo, hk⟩ : ∃ k', fr.todo = .inRegion ops (i :: rest) :: k' ∧ L2 (ItR ρ) k k' := by
    have h := F.todo
    rw [ht] at h
    obtain ⟨y, k', e, hy, hk⟩ := h.inv_cons
    cases hy
    exact ⟨k', e, hk⟩
  have ho' : ops[i]? = some o := by rw [← Array.getElem?_toList]; exact ho
  have hwant := wanted_ok (ops := ops) F.tm hw
  have hE := execA_ok (w := w) hη hP (o := o) (σ := evA f.tm) (τ := fr.eval) (fun x hx => evA_ok hP.glob F.tm hx) hx
  obtain ⟨ρ1, w1, ⟨xs, hu, hl⟩, hpost⟩ := hE
  have hP1 := hP.post hpost
  obtain ⟨v, h', ρ2, fr2, w2, u, q1, hp2, hv2, _, hleave, hst⟩ := hc ρ1 xs w1 (fr :: (cs ++ cs0)) hl hP1
  obtain ⟨f2, hf2, r2⟩ := r v h' q1
  have hle := Env.le_trans hpost.le hp2.le
  have F2 := finish_ok hf2 (F.mono hle) hv2
  have hd : ∀ c, o.op ≠ .defer c := by
    intro c hcc
    unfold execA at hx
    rw [ite_no] at hx
    have hx := hx.2
    simp only [hcc, kindOf, effA, bind_ok] at hx
    obtain ⟨⟨t, as⟩, _, hx⟩ := hx
    rw [okk] at hx; injection hx with e1 e2; cases e1
  obtain ⟨v', h2, ρ', fr', w', x, q, l1, l2, l3, l4, l5⟩ := r2 ρ0 w0 ρ2 (fr.finish u) cs w2 cs0 p0 (p.trans (hpost.trans hp2)) ⟨F2, L2.map_mono hle hC, hP1.post hp2⟩
  refine ⟨v', h2, ρ', fr', w', x, q, l1, l2, l3, l4, ?_⟩
  have hnc : notCall fr := fun d b r s k hh => by rw [htodo] at hh; cases hh
  refine ((one_go (fr' := Frame.enter P g xs .normal) (cs' := fr :: (cs ++ cs0)) (w' := w1) ?_).trans (hst.trans (.one ?_))).trans l5
  · rw [stepG_region hmode htodo ho' hwant (.inr hd), apply_enter hnc hu]
  · rw [step_leave_returned hleave]
/-- The contract as the kit knows it. -/
theorem CallSpec.calls {f : FuncId} {args : List Value} {args' : Array Value} {h : AH} {ρ : Env} {w : World} {Q : Value → AH → Prop} (c : CallSpec η P B f args h Q) (hl : LR η ρ args args'.toList) (p : Pre η P ρ B h w) :
    Calls P f args' w fun e w' => ∃ v h' ρ' x, e = .returned x ∧ Q v h' ∧ VR η ρ' v x ∧ Post η ρ B h w ρ' h' w' := by
  intro cs
  obtain ⟨v, h', ρ', fr', w', x, q, k1, k2, k3, k4, k5⟩ := c ρ args' w cs hl p
  exact ⟨.returned x, w', fr', ⟨v, h', ρ', x, rfl, q, k2, k1⟩, k5, k3, k4⟩
/-- A contract that says exactly what comes out, for the regions in any order. -/
theorem NestOk.of {nest : Nest} (k : ∀ f args h v h', nest f args h = .ok (v, h') → CallSpec η P B f args h fun v1 h1 => v1 = v ∧ h1 = h') : NestOk η P B nest := by
  intro f args h h' v hn ρ args' w cs l p
  obtain ⟨v1, h1, ρ', fr', w', x, ⟨e1, e2⟩, r⟩ := k f args h v h' hn ρ args' w cs l p
  subst e1; subst e2
  exact ⟨ρ', fr', w', x, r⟩
def noNest : Nest := fun _ _ _ => no "a call in a region of any order"
theorem noNest_ok : NestOk η P B noNest := by
  intro f args h h' v hn; simp [noNest, no] at hn
theorem reg0 (hη : OneCells η) (hmix : P.follows .mixedOrders = true) : RegOk η P B noNest := regionA_ok hη hmix noNest_ok
/-- A closed call that the evaluator ends is a contract. -/
theorem CallSpec.eval (hη : OneCells η) (hmix : P.follows .mixedOrders = true) {fuel depth : Nat} {f : FuncId} {args : List Value} {h h' : AH} {v : Value} (hc : callA P fuel depth f args h = .ok (v, h')) : CallSpec η P B f args h fun v1 h1 => v1 = v ∧ h1 = h' := by
  intro ρ args' w cs l p
  obtain ⟨ρ', fr', w', x, r⟩ := nestA_ok hη hmix fuel (depth + 1) f args h h' v hc ρ args' w cs l p
  exact ⟨v, h', ρ', fr', w', x, ⟨rfl, rfl⟩, r⟩
end Go.Ev
namespace Go.Ev
variable {η : Nat → Value} {P : Program} {B : Bd}
/-- Where the walk stops: a condition, a loop, a call, the end. -/
def stopAt (s : AS) : Bool :=
  match s.fr.mode, s.fr.todo with
  | .run, .code (.cond _ _ _) :: _ => true
  | .run, .code (.loop _) :: _ => true
  | .run, .inLoop _ :: _ => true
  | .run, .inRegion ops (i :: _) :: _ => match ops.toList[i]? with
    | some { op := .call { callee := .builtin _, .. }, .. } => false
    | some { op := .call _, .. } => true
    | _ => false
  | .run, _ => false
  | _, _ => true
/-- One step, and on to where the walk stops. -/
def runTo (P : Program) (nest : Nest) : Nat → AS → M AS
  | 0, _ => no "fuel"
  | n + 1, s => match stepA P nest s with
    | .ok (.next s) => if stopAt s then .ok s else runTo P nest n s
    | .ok (.done ..) => no "done"
    | .error e => .error e
theorem Run.to (hη : OneCells η) {nest : Nest} (hreg : RegOk η P B nest) {fn : FuncId} {h0 : AH} {Q : Value → AH → Prop} {s' : AS} : ∀ (n : Nat) {s : AS}, runTo P nest n s = .ok s' → Run η P B fn h0 s' Q → Run η P B fn h0 s Q
  | 0, s, hs, r => by simp [runTo, no] at hs
  | n + 1, s, hs, r => by
    rw [runTo] at hs
    split at hs
    · rename_i s1 h1
      split at hs
      · rw [okk] at hs; subst hs; exact .step hη hreg h1 r
      · exact .step hη hreg h1 (Run.to hη hreg n hs r)
    · simp [no] at hs
    · cases hs
/-- The same, so that `cbv at` can compute it. -/
theorem Run.go (hη : OneCells η) {nest : Nest} (hreg : RegOk η P B nest) {fn : FuncId} {h0 : AH} {Q : Value → AH → Prop} {s : AS} (n : Nat) (k : ∀ X, runTo P nest n s = X → ∃ s', X = .ok s' ∧ Run η P B fn h0 s' Q) : Run η P B fn h0 s Q := by
  obtain ⟨s', h1, h2⟩ := k _ rfl
  exact .to hη hreg n h1 h2
theorem Run.fin (hη : OneCells η) {nest : Nest} (hreg : RegOk η P B nest) {fn : FuncId} {h0 : AH} {Q : Value → AH → Prop} {s : AS} (k : ∀ X, stepA P nest s = X → ∃ v h', X = .ok (.done fn v h') ∧ Q v h') : Run η P B fn h0 s Q := by
  obtain ⟨v, h', h1, h2⟩ := k _ rfl
  exact .done hη hreg h1 h2
theorem CallSpec.go {f : FuncId} {args : List Value} {h : AH} {Q : Value → AH → Prop} (k : ∀ X, enterA P f args .normal = X → ∃ fr, X = .ok fr ∧ Run η P B f h ⟨fr, [], h⟩ Q) : CallSpec η P B f args h Q := by
  obtain ⟨fr, h1, h2⟩ := k _ rfl
  exact .enter h1 h2
/-- A condition. -/
theorem Run.cond (hη : OneCells η) {nest : Nest} (hreg : RegOk η P B nest) {fn : FuncId} {h0 : AH} {Q : Value → AH → Prop} {fr : AF} {cs : List AF} {h : AH} {c : Operand} {thn els : Code} {k : List Item} {b : Bool} (hm : fr.mode = .run) (ht : fr.todo = .code (.cond c thn els) :: k) (hb : evA fr.tm c = .bool b)
    (h1 : b = true → Run η P B fn h0 ⟨{ fr with todo := .code thn :: k }, cs, h⟩ Q) (h2 : b = false → Run η P B fn h0 ⟨{ fr with todo := .code els :: k }, cs, h⟩ Q) : Run η P B fn h0 ⟨fr, cs, h⟩ Q := by
  have hs : stepA P nest ⟨fr, cs, h⟩ = .ok (.next ⟨{ fr with todo := .code (if b then thn else els) :: k }, cs, h⟩) := by
    unfold stepA
    simp only [hm, ht, hb]
  refine .step hη hreg hs ?_
  cases b with
  | true => exact h1 rfl
  | false => exact h2 rfl
end Go.Ev
namespace Go.Ev
/-- A part of a code by its way from the top. -/
def codeAt : Code → List Nat → Code
  | .seq a b, n :: p => codeAt (if n = 0 then a else b) p
  | .cond _ a b, n :: p => codeAt (if n = 0 then a else b) p
  | .block _ a, _ :: p => codeAt a p
  | .loop a, _ :: p => codeAt a p
  | .scope a, _ :: p => codeAt a p
  | .rangeFunc _ _ a b, n :: p => codeAt (if n = 0 then a else b) p
  | c, _ => c
def opsAt (c : Code) (p : List Nat) : Array Oper :=
  match codeAt c p with
  | .region _ ops _ => ops
  | _ => #[]
end Go.Ev

namespace Go.Ev
set_option linter.unusedVariables false
set_option linter.unusedSimpArgs false
variable {η : Nat → Value} {P : Program} {B : Bd}
inductive RF (σ : Nat → Nat) (N : Nat) : Fn → Fn → Prop
  | same {f : Fn} (h : ∀ l, f ≠ .yield l) : RF σ N f f
  | yield {l : Nat} (h : l < N) : RF σ N (.yield l) (.yield (σ l))
/-- The same value where the blocks below N are called by σ; wk: the first one may know less. -/
inductive RV (σ : Nat → Nat) (N : Nat) (wk : Bool) : Value → Value → Prop
  | bool (b : Bool) : RV σ N wk (.bool b) (.bool b)
  | int (k : IntKind) (n : Int) : RV σ N wk (.int k n) (.int k n)
  | float (k : FloatKind) (b : Nat) : RV σ N wk (.float k b) (.float k b)
  | complex (k : FloatKind) (a b : Nat) : RV σ N wk (.complex k a b) (.complex k a b)
  | string (s : ByteArray) : RV σ N wk (.string s) (.string s)
  | ptr0 : RV σ N wk (.pointer none) (.pointer none)
  | ptr {r o : Nat} {s} (h : r < N) : RV σ N wk (.pointer (some ⟨r, o, s⟩)) (.pointer (some ⟨σ r, o, s⟩))
  | slice0 (l c : Nat) : RV σ N wk (.slice none l c) (.slice none l c)
  | slice {r o : Nat} {s} (l c : Nat) (h : r < N) : RV σ N wk (.slice (some ⟨r, o, s⟩) l c) (.slice (some ⟨σ r, o, s⟩) l c)
  | map0 : RV σ N wk (.map none) (.map none)
  | map {r : Nat} (h : r < N) : RV σ N wk (.map (some r)) (.map (some (σ r)))
  | func {f g : Fn} {a b c d : Array Value} (hf : RF σ N f g) (h1 : a.toList.length = c.toList.length) (h2 : b.toList.length = d.toList.length)
      (h3 : ∀ (i : Nat) (v x : Value), a.toList[i]? = some v → c.toList[i]? = some x → RV σ N wk v x) (h4 : ∀ (i : Nat) (v x : Value), b.toList[i]? = some v → d.toList[i]? = some x → RV σ N wk v x) : RV σ N wk (.func f a b) (.func g c d)
  | nilFunc : RV σ N wk .nilFunc .nilFunc
  | nilIface : RV σ N wk .nilIface .nilIface
  | iface (t : TypeId) {v x : Value} (h : RV σ N wk v x) : RV σ N wk (.iface t v) (.iface t x)
  | agg {a c : Array Value} (h1 : a.toList.length = c.toList.length) (h3 : ∀ (i : Nat) (v x : Value), a.toList[i]? = some v → c.toList[i]? = some x → RV σ N wk v x) : RV σ N wk (.agg a) (.agg c)
  | tuple {a c : Array Value} (h1 : a.toList.length = c.toList.length) (h3 : ∀ (i : Nat) (v x : Value), a.toList[i]? = some v → c.toList[i]? = some x → RV σ N wk v x) : RV σ N wk (.tuple a) (.tuple c)
  | chan (c : Option Nat) : RV σ N wk (.chan c) (.chan c)
  | any {v : Value} (hw : wk = true) (h : oneC v = true) : RV σ N wk (.chan none) v
theorem RV.up {σ : Nat → Nat} {N : Nat} {ρs ρ : Env} (hn : ∀ r t, r < N → ρs r = some t → ρ (σ r) = some t) {v v' x : Value} (k : RV σ N false v v') (h : VR η ρs v x) : VR η ρ v' x := by
  induction k generalizing x with
  | ptr h1 => cases h with | ptr h => exact .ptr (hn _ _ h1 h)
  | slice l c h1 => cases h with
    | slice _ _ h hc => exact .slice _ _ (hn _ _ h1 h) hc
    | sliceU _ s c h a b d e => exact .sliceU _ _ _ (hn _ _ h1 h) a b d e
  | map h1 => cases h with | map h => exact .map (hn _ _ h1 h)
  | func hf h1 h2 h3 h4 i3 i4 => cases h with
    | func kf k1 k2 k3 k4 =>
      refine .func ?_ (h1.symm.trans k1) (h2.symm.trans k2) (fun i v x hv hx => ?_) (fun i v x hv hx => ?_)
      · cases hf with
        | same hh => cases kf with
          | same h' => exact .same h'
          | yield h' => exact absurd rfl (hh _)
        | yield hh => cases kf with
          | same h' => exact absurd rfl (h' _)
          | yield h' => exact .yield (hn _ _ hh h')
      · have hi := (List.getElem?_eq_some_iff.1 hv).1
        rw [← h1] at hi
        exact i3 i _ v (List.getElem?_eq_getElem hi) hv (k3 i _ x (List.getElem?_eq_getElem hi) hx)
      · have hi := (List.getElem?_eq_some_iff.1 hv).1
        rw [← h2] at hi
        exact i4 i _ v (List.getElem?_eq_getElem hi) hv (k4 i _ x (List.getElem?_eq_getElem hi) hx)
  | iface t h1 ih => cases h with | iface _ h => exact .iface _ (ih h)
  | agg h1 h3 i3 => cases h with
    | agg k1 k3 =>
      refine .agg (h1.symm.trans k1) (fun i v x hv hx => ?_)
      have hi := (List.getElem?_eq_some_iff.1 hv).1
      rw [← h1] at hi
      exact i3 i _ v (List.getElem?_eq_getElem hi) hv (k3 i _ x (List.getElem?_eq_getElem hi) hx)
  | tuple h1 h3 i3 => cases h with
    | tuple k1 k3 =>
      refine .tuple (h1.symm.trans k1) (fun i v x hv hx => ?_)
      have hi := (List.getElem?_eq_some_iff.1 hv).1
      rw [← h1] at hi
      exact i3 i _ v (List.getElem?_eq_getElem hi) hv (k3 i _ x (List.getElem?_eq_getElem hi) hx)
  | slice0 l c => cases h with | slice0 _ _ hc => exact .slice0 _ _ hc | sliceE _ _ => exact .sliceE _ _
  | bool b => cases h; exact .bool b
  | int k n => cases h; exact .int k n
  | float k n => cases h; exact .float k n
  | complex k a b => cases h; exact .complex k a b
  | string s => cases h; exact .string s
  | ptr0 => cases h; exact .ptr0
  | map0 => cases h; exact .map0
  | nilFunc => cases h; exact .nilFunc
  | nilIface => cases h; exact .nilIface
  | chan c => cases h with
    | opq i => exact .opq i
    | any h => exact .any h
  | any hw h1 => cases hw
theorem RV.dn (hη : OneCells η) {σ : Nat → Nat} {N : Nat} {wk : Bool} {ρs ρ : Env} (hn : ∀ r t, r < N → ρ (σ r) = some t → ρs r = some t) {v v' x : Value} (k : RV σ N wk v v') (h : VR η ρ v' x) : VR η ρs v x := by
  induction k generalizing x with
  | ptr h1 => cases h with | ptr h => exact .ptr (hn _ _ h1 h)
  | slice l c h1 => cases h with
    | slice _ _ h hc => exact .slice _ _ (hn _ _ h1 h) hc
    | sliceU _ s c h a b d e => exact .sliceU _ _ _ (hn _ _ h1 h) a b d e
  | map h1 => cases h with | map h => exact .map (hn _ _ h1 h)
  | func hf h1 h2 h3 h4 i3 i4 => cases h with
    | func kf k1 k2 k3 k4 =>
      refine .func ?_ (h1.trans k1) (h2.trans k2) (fun i v x hv hx => ?_) (fun i v x hv hx => ?_)
      · cases hf with
        | same hh => cases kf with
          | same h' => exact .same h'
          | yield h' => exact absurd rfl (hh _)
        | yield hh => cases kf with
          | same h' => exact absurd rfl (h' _)
          | yield h' => exact .yield (hn _ _ hh h')
      · have hi := (List.getElem?_eq_some_iff.1 hv).1
        rw [h1] at hi
        exact i3 i v _ hv (List.getElem?_eq_getElem hi) (k3 i _ x (List.getElem?_eq_getElem hi) hx)
      · have hi := (List.getElem?_eq_some_iff.1 hv).1
        rw [h2] at hi
        exact i4 i v _ hv (List.getElem?_eq_getElem hi) (k4 i _ x (List.getElem?_eq_getElem hi) hx)
  | iface t h1 ih => cases h with | iface _ h => exact .iface _ (ih h)
  | agg h1 h3 i3 => cases h with
    | agg k1 k3 =>
      refine .agg (h1.trans k1) (fun i v x hv hx => ?_)
      have hi := (List.getElem?_eq_some_iff.1 hv).1
      rw [h1] at hi
      exact i3 i v _ hv (List.getElem?_eq_getElem hi) (k3 i _ x (List.getElem?_eq_getElem hi) hx)
  | tuple h1 h3 i3 => cases h with
    | tuple k1 k3 =>
      refine .tuple (h1.trans k1) (fun i v x hv hx => ?_)
      have hi := (List.getElem?_eq_some_iff.1 hv).1
      rw [h1] at hi
      exact i3 i v _ hv (List.getElem?_eq_getElem hi) (k3 i _ x (List.getElem?_eq_getElem hi) hx)
  | slice0 l c => cases h with | slice0 _ _ hc => exact .slice0 _ _ hc | sliceE _ _ => exact .sliceE _ _
  | bool b => cases h; exact .bool b
  | int k n => cases h; exact .int k n
  | float k n => cases h; exact .float k n
  | complex k a b => cases h; exact .complex k a b
  | string s => cases h; exact .string s
  | ptr0 => cases h; exact .ptr0
  | map0 => cases h; exact .map0
  | nilFunc => cases h; exact .nilFunc
  | nilIface => cases h; exact .nilIface
  | chan c => cases h with
    | opq i => exact .opq i
    | any h => exact .any h
  | any hw h1 => exact .any (h.oneC hη h1)
/-- Values one by one. -/
theorem lr_dn (hη : OneCells η) {σ : Nat → Nat} {N : Nat} {wk : Bool} {ρs ρ : Env} (hn : ∀ r t, r < N → ρ (σ r) = some t → ρs r = some t) {l l' : List Value} (k : L2 (RV σ N wk) l l') {m : List Value} (h : LR η ρ l' m) : LR η ρs l m := by
  induction k generalizing m with
  | nil => have := h.inv_nil; subst this; exact .nil
  | cons a _ ih =>
    obtain ⟨x, m', rfl, h1, h2⟩ := h.inv_cons
    exact .cons (a.dn hη hn h1) (ih h2)
theorem L2.get' {α β : Type} {R : α → β → Prop} {l : List α} {m : List β} (k : L2 R l m) : ∀ {i : Nat} {b : β}, m[i]? = some b → ∃ a, l[i]? = some a ∧ R a b := by
  induction k with
  | nil => intro i a h; simp at h
  | cons h _ ih =>
    intro i a e
    cases i with
    | zero => simp at e; subst e; exact ⟨_, rfl, h⟩
    | succ i => exact ih (by simpa using e)
def RE (σ : Nat → Nat) (N : Nat) (wk : Bool) (e e' : MapEntry) : Prop := RV σ N wk e.key e'.key ∧ RV σ N wk e.val e'.val ∧ e.born = e'.born
/-- Blocks. -/
inductive RO (σ : Nat → Nat) (N : Nat) (wk : Bool) : AObj → AObj → Prop
  | cells (ty : TypeId) {c c' : List Value} (p : Bool) {own own' : Nat} (h : L2 (RV σ N wk) c c') (ho : own = own' ∨ (wk = true ∧ own = 0)) : RO σ N wk (.cells ty c p own) (.cells ty c' p own')
  | map {es es' : List MapEntry} (clock : Nat) {own own' : Bool} (h : L2 (RE σ N wk) es es') (ho : own = own' ∨ (wk = true ∧ own = false)) : RO σ N wk (.map es clock own) (.map es' clock own')
  | stringIter (s : ByteArray) (pos : Nat) : RO σ N wk (.stringIter s pos) (.stringIter s pos)
  | mapIter0 (since : Nat) (seen : List Nat) (last : Nat) : RO σ N wk (.mapIter none since seen last) (.mapIter none since seen last)
  | mapIter {m : Nat} (since : Nat) (seen : List Nat) (last : Nat) (h : m < N) : RO σ N wk (.mapIter (some m) since seen last) (.mapIter (some (σ m)) since seen last)
  | loop {st : LoopState} {pend : Option Code} {fn : FuncId} {tm tm' : T Value} {n : Nat} {ps : List Tmp} {asg body : Code} {ds : Nat} (hi : ∀ t, n ≤ t → tm.get t = none) (hi' : ∀ t, n ≤ t → tm'.get t = none) (ht : ∀ t, t < n → RV σ N wk ((tm.get t).getD undef) ((tm'.get t).getD undef)) (hd : ds < N) : RO σ N wk (.loop st pend fn tm n ps asg body ds) (.loop st pend fn tm' n ps asg body (σ ds))
  | deferred0 : RO σ N wk (.deferred none) (.deferred none)
  | deferred1 : RO σ N wk (.deferred (some [])) (.deferred (some []))
theorem RO.own {σ : Nat → Nat} {N : Nat} {wk : Bool} {a a' : AObj} (k : RO σ N wk a a') (h : ownO a = true) : ownO a' = true := by
  cases k with
  | cells ty p h1 ho => rcases ho with rfl | ⟨_, rfl⟩
                        · exact h
                        · simp [ownO] at h
  | map c h1 ho => rcases ho with rfl | ⟨_, rfl⟩
                   · exact h
                   · simp [ownO] at h
  | _ => rfl
theorem RO.sh {σ : Nat → Nat} {N : Nat} {wk : Bool} {a a' : AObj} (k : RO σ N wk a a') (h : shO a' = true) : shO a = true := by
  cases k with
  | cells ty p h1 ho => rcases ho with rfl | ⟨_, rfl⟩
                        · exact h
                        · simp only [shO, Bool.and_eq_true] at h ⊢; exact ⟨h.1, rfl⟩
  | _ => simp [shO] at h
theorem RO.sh' {σ : Nat → Nat} {N : Nat} {a a' : AObj} (k : RO σ N false a a') (h : shO a = true) : shO a' = true := by
  cases k with
  | cells ty p h1 ho => rcases ho with rfl | ⟨h2, _⟩
                        · exact h
                        · cases h2
  | _ => simp [shO] at h
theorem RO.own' {σ : Nat → Nat} {N : Nat} {a a' : AObj} (k : RO σ N false a a') (h : ownO a' = true) : ownO a = true := by
  cases k with
  | cells ty p h1 ho => rcases ho with rfl | ⟨h2, _⟩
                        · exact h
                        · cases h2
  | map c h1 ho => rcases ho with rfl | ⟨h2, _⟩
                   · exact h
                   · cases h2
  | _ => rfl
theorem RO.dn (hη : OneCells η) {σ : Nat → Nat} {N : Nat} {wk : Bool} {ρs ρ : Env} (hn : ∀ r t, r < N → ρ (σ r) = some t → ρs r = some t) {a a' : AObj} (k : RO σ N wk a a') {d n : Nat} {o : Obj} (h : OR η ρ a' d n o) : OR η ρs a d n o := by
  cases k with
  | cells ty p hc ho =>
    obtain ⟨C, t, lo, hi, e, q⟩ := h
    refine ⟨C, t, lo, hi, e, q.ty, q.size, hc.len ▸ q.len, fun i v hv => ?_, fun hp => ?_, fun h2 => ?_⟩
    · obtain ⟨v', h1, h2⟩ := hc.get hv
      obtain ⟨x, h3, h4⟩ := q.at_ i v' h1
      exact ⟨x, h3, h2.dn hη hn h4⟩
    · rw [hc.len]; exact q.plain hp
    · rcases ho with rfl | ⟨_, rfl⟩
      · exact q.free h2
      · cases h2
  | map c hc ho =>
    obtain ⟨E, e, q⟩ := h
    refine ⟨E, e, ?_⟩
    clear e
    generalize E.toList = l at q ⊢
    induction hc generalizing l with
    | nil => cases q; exact .nil
    | cons h1 _ ih => cases q with
      | cons h2 h3 => exact .cons ⟨h1.1.dn hη hn h2.1, h1.2.1.dn hη hn h2.2.1, h1.2.2.trans h2.2.2⟩ (ih _ h3)
  | stringIter s pos => exact h
  | mapIter0 since seen last =>
    obtain ⟨hd, m', e, q⟩ := h
    refine ⟨hd, m', e, ?_⟩
    cases m' with
    | none => exact q
    | some b => exact q
  | mapIter since seen last hm =>
    obtain ⟨hd, m', e, q⟩ := h
    refine ⟨hd, m', e, ?_⟩
    cases m' with
    | none => exact q
    | some b => obtain ⟨d, n, q⟩ := q; exact ⟨d, n, hn _ _ hm q⟩
  | loop hi hi' ht hd =>
    obtain ⟨l, e, a, b, c, t, f, g, i, dd, nn, k⟩ := h
    exact ⟨l, e, a, b, c, ⟨t.1, hi, fun i hi => (ht i hi).dn hη hn (t.2.2 i hi)⟩, f, g, i, dd, nn, hn _ _ hd k⟩
  | deferred0 =>
    obtain ⟨ds', e, q⟩ := h
    refine ⟨ds', e, ?_⟩
    cases ds' with
    | none => trivial
    | some m => exact q
  | deferred1 =>
    obtain ⟨ds', e, q⟩ := h
    refine ⟨ds', e, ?_⟩
    cases ds' with
    | none => exact q
    | some m => simp only at q ⊢; cases q; exact .nil
theorem RO.up {σ : Nat → Nat} {N : Nat} {ρs ρ : Env} (hn : ∀ r t, r < N → ρs r = some t → ρ (σ r) = some t) {a a' : AObj} (k : RO σ N false a a') {d n : Nat} {o : Obj} (h : OR η ρs a d n o) : OR η ρ a' d n o := by
  cases k with
  | cells ty p hc ho =>
    obtain ⟨C, t, lo, hi, e, q⟩ := h
    refine ⟨C, t, lo, hi, e, q.ty, q.size, hc.len ▸ q.len, fun i v hv => ?_, fun hp => ?_, fun h2 => ?_⟩
    · obtain ⟨v', h1, h2⟩ := hc.get' hv
      obtain ⟨x, h3, h4⟩ := q.at_ i v' h1
      exact ⟨x, h3, h2.up hn h4⟩
    · rw [← hc.len]; exact q.plain hp
    · rcases ho with rfl | ⟨h3, _⟩
      · exact q.free h2
      · cases h3
  | map c hc ho =>
    obtain ⟨E, e, q⟩ := h
    refine ⟨E, e, ?_⟩
    clear e
    generalize E.toList = l at q ⊢
    induction hc generalizing l with
    | nil => cases q; exact .nil
    | cons h1 _ ih => cases q with
      | cons h2 h3 => exact .cons ⟨h1.1.up hn h2.1, h1.2.1.up hn h2.2.1, h1.2.2.symm.trans h2.2.2⟩ (ih _ h3)
  | stringIter s pos => exact h
  | mapIter0 since seen last =>
    obtain ⟨hd, m', e, q⟩ := h
    refine ⟨hd, m', e, ?_⟩
    cases m' with
    | none => exact q
    | some b => exact q
  | mapIter since seen last hm =>
    obtain ⟨hd, m', e, q⟩ := h
    refine ⟨hd, m', e, ?_⟩
    cases m' with
    | none => exact q
    | some b => obtain ⟨d, n, q⟩ := q; exact ⟨d, n, hn _ _ hm q⟩
  | loop hi hi' ht hd =>
    obtain ⟨l, e, a, b, c, t, f, g, i, dd, nn, k⟩ := h
    exact ⟨l, e, a, b, c, ⟨t.1, hi', fun i hi => (ht i hi).up hn (t.2.2 i hi)⟩, f, g, i, dd, nn, hn _ _ hd k⟩
  | deferred0 =>
    obtain ⟨ds', e, q⟩ := h
    refine ⟨ds', e, ?_⟩
    cases ds' with
    | none => trivial
    | some m => exact q
  | deferred1 =>
    obtain ⟨ds', e, q⟩ := h
    refine ⟨ds', e, ?_⟩
    cases ds' with
    | none => exact q
    | some m => simp only at q ⊢; cases q; exact .nil
/-- A heap of fewer blocks, under names of its own, in another one. -/
structure Emb (P : Program) (σ : Nat → Nat) (hs h : AH) : Prop where
  glob : ∀ g, g ≤ P.globals.size → g < hs.next ∧ σ g = g
  obj : ∀ r a, hs.objs.get r = some a → r < hs.next ∧ ∃ a', h.objs.get (σ r) = some a' ∧ RO σ hs.next true a a'
  inj : ∀ r r' a a', hs.objs.get r = some a → hs.objs.get r' = some a' → σ r = σ r' → r = r'
def cut (σ : Nat → Nat) (N : Nat) (ρ : Env) : Env := fun r => if r < N then ρ (σ r) else none
theorem cut_dn {σ : Nat → Nat} {N : Nat} {ρ : Env} : ∀ r t, r < N → ρ (σ r) = some t → cut σ N ρ r = some t := by
  intro r t hr h; unfold cut; rw [if_pos hr]; exact h
theorem Emb.pre (hη : OneCells η) {σ : Nat → Nat} {hs h : AH} {ρ : Env} {w : World} (E : Emb P σ hs h) (p : Pre η P ρ B h w) : Pre η P (cut σ hs.next ρ) B hs w := by
  refine ⟨⟨fun r a hr => ?_, fun r r' a a' b d n d' n' h1 h2 e1 e2 => ?_, fun r a b d n h1 e1 hS => ?_⟩, fun r hr => ?_, fun g hg => ?_, p.low⟩
  · obtain ⟨hlt, a', h1, h2⟩ := E.obj r a hr
    obtain ⟨b, d, n, o, k1, k2, k3, k4⟩ := p.hr.obj _ a' h1
    exact ⟨b, d, n, o, cut_dn _ _ hlt k1, k2, h2.dn hη cut_dn k3, fun ho => k4 (h2.own ho)⟩
  · obtain ⟨l1, b1, g1, _⟩ := E.obj r a h1
    obtain ⟨l2, b2, g2, _⟩ := E.obj r' a' h2
    unfold cut at e1 e2
    rw [if_pos l1] at e1
    rw [if_pos l2] at e2
    exact (p.hr.inj _ _ _ _ b d n d' n' g1 g2 e1 e2).imp (E.inj r r' a a' h1 h2) id
  · obtain ⟨l1, b1, g1, k1⟩ := E.obj r a h1
    unfold cut at e1
    rw [if_pos l1] at e1
    exact k1.sh (p.hr.sh _ _ b d n g1 e1 hS)
  · unfold cut; rw [if_neg (by omega)]
  · obtain ⟨h1, h2⟩ := E.glob g hg
    obtain ⟨n, h3⟩ := p.glob g hg
    exact ⟨n, cut_dn _ _ h1 (by rw [h2]; exact h3)⟩
/-- What is owned in the smaller heap is owned in the bigger one. -/
theorem Emb.own {σ : Nat → Nat} {hs h : AH} {ρ : Env} {b : Nat} (E : Emb P σ hs h) (k : Own (cut σ hs.next ρ) hs b) : ∃ r1 a1 a1' d n, hs.objs.get r1 = some a1 ∧ ownO a1 = true ∧ h.objs.get (σ r1) = some a1' ∧ ownO a1' = true ∧ ρ (σ r1) = some (b, d, n) := by
  obtain ⟨r1, a1, d, n, h1, h2, h3⟩ := k
  obtain ⟨l1, a1', g1, g2⟩ := E.obj r1 a1 h1
  unfold cut at h3
  rw [if_pos l1] at h3
  exact ⟨r1, a1, a1', d, n, h1, h2, g1, g2.own h2, h3⟩
theorem Emb.own' {σ : Nat → Nat} {hs h : AH} {ρ : Env} {b : Nat} (E : Emb P σ hs h) (k : Own (cut σ hs.next ρ) hs b) : Own ρ h b := by
  obtain ⟨r1, a1, a1', d, n, h1, h2, h3, h4, h5⟩ := E.own k
  exact ⟨_, _, _, _, h3, h4, h5⟩
theorem Emb.nam {σ : Nat → Nat} {hs h : AH} {ρ : Env} {b : Nat} (E : Emb P σ hs h) (k : ∃ r a d n, hs.objs.get r = some a ∧ cut σ hs.next ρ r = some (b, d, n)) : ∃ r1 a1 a1' d n, hs.objs.get r1 = some a1 ∧ r1 < hs.next ∧ h.objs.get (σ r1) = some a1' ∧ ρ (σ r1) = some (b, d, n) := by
  obtain ⟨r1, a1, d, n, h1, h3⟩ := k
  obtain ⟨l1, a1', g1, g2⟩ := E.obj r1 a1 h1
  unfold cut at h3
  rw [if_pos l1] at h3
  exact ⟨r1, a1, a1', d, n, h1, l1, g1, h3⟩
/-- The names behind a call: those of before, and new ones. -/
def sg (σ : Nat → Nat) (ns n : Nat) : Nat → Nat := fun r => if r < ns then σ r else n + (r - ns)
/-- The bigger heap behind a call that was proved on the smaller one. -/
structure Framed (σ : Nat → Nat) (hs h hs' h' : AH) : Prop where
  next : h'.next = h.next + (hs'.next - hs.next)
  obj : ∀ r a, h'.objs.get r = some a →
    (∃ r0 a0, r0 < hs'.next ∧ sg σ hs.next h.next r0 = r ∧ hs'.objs.get r0 = some a0 ∧ RO (sg σ hs.next h.next) hs'.next false a0 a) ∨
    (h.objs.get r = some a ∧ ∀ r0 a0, hs.objs.get r0 = some a0 → σ r0 ≠ r) ∨
    (h.objs.get r = some a ∧ ∃ r0 a0 a1, r0 < hs.next ∧ σ r0 = r ∧ hs.objs.get r0 = some a0 ∧ ownO a0 = false ∧ hs'.objs.get r0 = some a1)
theorem Emb.post (hη : OneCells η) {σ : Nat → Nat} {hs h hs' h' : AH} {ρ ρs' : Env} {w w' : World} (E : Emb P σ hs h) (p : Pre η P ρ B h w) (q : Post η (cut σ hs.next ρ) B hs w ρs' hs' w') (F : Framed σ hs h hs' h') :
    ∃ ρ', Post η ρ B h w ρ' h' w' ∧ ∀ r t, r < hs'.next → ρs' r = some t → ρ' (sg σ hs.next h.next r) = some t := by
  have hnx := q.next
  let ρ' : Env := fun r => if r < h.next then ρ r else ρs' (hs.next + (r - h.next))
  have hold : ∀ r, r < h.next → ρ' r = ρ r := fun r hr => if_pos hr
  have hle : Env.le ρ ρ' := by
    intro r t hr
    have hlt : r < h.next := by
      rcases Nat.lt_or_ge r h.next with hl | hl
      · exact hl
      · rw [p.fresh r hl] at hr; cases hr
    rw [hold r hlt]; exact hr
  have hup : ∀ r t, r < hs'.next → ρs' r = some t → ρ' (sg σ hs.next h.next r) = some t := by
    intro r t hr ht
    unfold sg
    by_cases hlt : r < hs.next
    · rw [if_pos hlt]
      rw [q.old r hlt] at ht
      unfold cut at ht
      rw [if_pos hlt] at ht
      exact hle _ _ ht
    · rw [if_neg hlt]
      show (if h.next + (r - hs.next) < h.next then _ else _) = _
      rw [if_neg (by omega)]
      rw [show hs.next + (h.next + (r - hs.next) - h.next) = r by omega]
      exact ht
  -- a block of the bigger heap that the smaller one does not own is left as it was
  have hkeep : ∀ r a b d n o, h.objs.get r = some a → ρ r = some (b, d, n) → w.heap[b]? = some o → ((∀ r0 a0, hs.objs.get r0 = some a0 → σ r0 ≠ r) ∨ ∃ r0 a0 a1, r0 < hs.next ∧ σ r0 = r ∧ hs.objs.get r0 = some a0 ∧ ownO a0 = false ∧ hs'.objs.get r0 = some a1) → w'.heap[b]? = some o := by
    intro r a b d n o hr hρ hb hc
    rw [q.fr.kept b (heap_lt hb) ?_]; exact hb
    intro hown
    obtain ⟨r1, a1, a1', d1, n1, h1, h2, h3, h4, h5⟩ := E.own hown
    have e := (p.hr.uni hr h3 hρ h5 (sh_of_own h4)).symm
    rcases hc with hc | ⟨r0, a0, _, _, e0, g0, g1, _⟩
    · exact hc r1 a1 h1 e
    · have := E.inj r1 r0 a1 a0 h1 g0 (e.trans e0.symm)
      subst this
      rw [h1] at g0; cases g0
      rw [g1] at h2; cases h2
  -- what each name of the new heap stands for
  have himg : ∀ r0 a0, hs'.objs.get r0 = some a0 → r0 < hs'.next → ∀ r b d n, sg σ hs.next h.next r0 = r → ρ' r = some (b, d, n) → ρs' r0 = some (b, d, n) := by
    intro r0 a0 h0 hl r b d n e hb
    obtain ⟨b1, d1, n1, o1, k1, _⟩ := q.hr.obj r0 a0 h0
    have := hup r0 _ hl k1
    rw [e, hb] at this
    rw [k1]; exact this.symm
  refine ⟨ρ', ⟨hle, hold, fun r hr => ?_, by rw [F.next]; omega, ⟨fun r a hr => ?_, fun r r' a a' b d n d' n' hr hr' e e' => ?_, fun r a b d n hr e hS => ?_⟩, ⟨q.fr.os, q.fr.tape, q.fr.output, q.fr.size, fun k hk hn => q.fr.kept k hk fun hq => hn (E.own' hq)⟩, ?_, ?_⟩, hup⟩
  · rw [F.next] at hr
    show (if r < h.next then _ else _) = _
    rw [if_neg (by omega)]
    exact q.fresh _ (by omega)
  · rcases F.obj r a hr with ⟨r0, a0, hl, e, h0, hro⟩ | ⟨h1, hc⟩ | ⟨h1, hc⟩
    · obtain ⟨b, d, n, o, k1, k2, k3, k4⟩ := q.hr.obj r0 a0 h0
      exact ⟨b, d, n, o, by rw [← e]; exact hup r0 _ hl k1, k2, hro.up hup k3, fun ho => k4 (hro.own' ho)⟩
    · obtain ⟨b, d, n, o, k1, k2, k3, k4⟩ := p.hr.obj r a h1
      exact ⟨b, d, n, o, hle _ _ k1, hkeep r a b d n o h1 k1 k2 (.inl hc), k3.mono hle, k4⟩
    · obtain ⟨b, d, n, o, k1, k2, k3, k4⟩ := p.hr.obj r a h1
      exact ⟨b, d, n, o, hle _ _ k1, hkeep r a b d n o h1 k1 k2 (.inr hc), k3.mono hle, k4⟩
  · have old1 : ∀ r a, h.objs.get r = some a → ρ' r = ρ r := fun r a hg => hold r (p.get_lt hg)
    by_cases hS : B.S b
    · exact .inr hS
    refine .inl ?_
    -- an image and one that stayed
    have mixed : ∀ r0 a0 r r' a' d n d' n', r0 < hs'.next → sg σ hs.next h.next r0 = r → hs'.objs.get r0 = some a0 → ρ' r = some (b, d, n) → h.objs.get r' = some a' → ρ' r' = some (b, d', n') → ((∀ r0 a0, hs.objs.get r0 = some a0 → σ r0 ≠ r') ∨ ∃ r0 a0 a1, r0 < hs.next ∧ σ r0 = r' ∧ hs.objs.get r0 = some a0 ∧ ownO a0 = false ∧ hs'.objs.get r0 = some a1) → r = r' := by
      intro r0 a0 r r' a' d n d' n' hl e0 h0 e hr' e' hc
      have es := himg r0 a0 h0 hl r b d n e0 e
      rw [old1 r' a' hr'] at e'
      rcases hc with hc | ⟨r2, a2, a3, l2, e2, g2, _, g3⟩
      · rcases q.inn b ⟨r0, a0, d, n, h0, es⟩ with h1 | h1
        · obtain ⟨r1, a1, a1', d1, n1, k1, _, k2, k3⟩ := E.nam h1
          exact absurd ((p.hr.inj _ _ _ _ _ _ _ _ _ k2 hr' k3 e').resolve_right hS) (hc r1 a1 k1)
        · obtain ⟨b2, _, _, o2, k1, k2, _⟩ := p.hr.obj r' a' hr'
          rw [e'] at k1; cases k1
          exact absurd (heap_lt k2) (by omega)
      · have e3 : ρs' r2 = some (b, d', n') := by
          rw [q.old r2 l2]; exact cut_dn _ _ l2 (by rw [e2]; exact e')
        have := (q.hr.inj r0 r2 a0 a3 b d n d' n' h0 g3 es e3).resolve_right hS
        subst this
        rw [← e0, ← e2]
        unfold sg; rw [if_pos l2]
    rcases F.obj r a hr with ⟨r0, a0, hl, e0, h0, _⟩ | h1
    · rcases F.obj r' a' hr' with ⟨r0', a0', hl', e0', h0', _⟩ | h1'
      · have es := himg r0 a0 h0 hl r b d n e0 e
        have es' := himg r0' a0' h0' hl' r' b d' n' e0' e'
        have := (q.hr.inj r0 r0' a0 a0' b d n d' n' h0 h0' es es').resolve_right hS
        subst this
        rw [← e0, ← e0']
      · have ⟨g, hc⟩ : h.objs.get r' = some a' ∧ _ := h1'.elim (fun k => ⟨k.1, Or.inl k.2⟩) (fun k => ⟨k.1, Or.inr k.2⟩)
        exact mixed r0 a0 r r' a' d n d' n' hl e0 h0 e g e' hc
    · have ⟨g, hc⟩ : h.objs.get r = some a ∧ ((∀ r0 a0, hs.objs.get r0 = some a0 → σ r0 ≠ r) ∨ ∃ r0 a0 a1, r0 < hs.next ∧ σ r0 = r ∧ hs.objs.get r0 = some a0 ∧ ownO a0 = false ∧ hs'.objs.get r0 = some a1) := h1.elim (fun k => ⟨k.1, Or.inl k.2⟩) (fun k => ⟨k.1, Or.inr k.2⟩)
      rcases F.obj r' a' hr' with ⟨r0', a0', hl', e0', h0', _⟩ | h1'
      · exact (mixed r0' a0' r' r a d' n' d n hl' e0' h0' e' g e hc).symm
      · have g' : h.objs.get r' = some a' := h1'.elim (fun k => k.1) (fun k => k.1)
        rw [old1 r a g] at e
        rw [old1 r' a' g'] at e'
        exact (p.hr.inj r r' a a' b d n d' n' g g' e e').resolve_right hS
  · have old1 : ∀ r a, h.objs.get r = some a → ρ' r = ρ r := fun r a hg => hold r (p.get_lt hg)
    rcases F.obj r a hr with ⟨r0, a0, hl, e0, h0, hro⟩ | ⟨h1, _⟩ | ⟨h1, _⟩
    · exact hro.sh' (q.hr.sh r0 a0 b d n h0 (himg r0 a0 h0 hl r b d n e0 e) hS)
    · exact p.hr.sh r a b d n h1 (by rw [← old1 r a h1]; exact e) hS
    · exact p.hr.sh r a b d n h1 (by rw [← old1 r a h1]; exact e) hS
  · rintro b ⟨r, a, d, n, hr, ho, e⟩
    have old1 : ∀ r a, h.objs.get r = some a → ρ' r = ρ r := fun r a hg => hold r (p.get_lt hg)
    rcases F.obj r a hr with ⟨r0, a0, hl, e0, h0, hro⟩ | ⟨h1, _⟩ | ⟨h1, _⟩
    · have es := himg r0 a0 h0 hl r b d n e0 e
      rcases q.own b ⟨r0, a0, d, n, h0, hro.own' ho, es⟩ with k | k
      · exact .inl (E.own' k)
      · exact .inr k
    · exact .inl ⟨r, a, d, n, h1, ho, by rw [← old1 r a h1]; exact e⟩
    · exact .inl ⟨r, a, d, n, h1, ho, by rw [← old1 r a h1]; exact e⟩
  · rintro b ⟨r, a, d, n, hr, e⟩
    have old1 : ∀ r a, h.objs.get r = some a → ρ' r = ρ r := fun r a hg => hold r (p.get_lt hg)
    rcases F.obj r a hr with ⟨r0, a0, hl, e0, h0, hro⟩ | ⟨h1, _⟩ | ⟨h1, _⟩
    · have es := himg r0 a0 h0 hl r b d n e0 e
      rcases q.inn b ⟨r0, a0, d, n, h0, es⟩ with k | k
      · obtain ⟨r1, a1, a1', d1, n1, k1, _, k2, k3⟩ := E.nam k
        exact .inl ⟨_, _, _, _, k2, k3⟩
      · exact .inr k
    · exact .inl ⟨r, a, d, n, h1, by rw [← old1 r a h1]; exact e⟩
    · exact .inl ⟨r, a, d, n, h1, by rw [← old1 r a h1]; exact e⟩
/-- A contract proved on a smaller heap. -/
theorem CallSpec.frame (hη : OneCells η) {f : FuncId} {args args' : List Value} {hs h : AH} {σ : Nat → Nat} {Q1 Q : Value → AH → Prop} (c : CallSpec η P B f args hs Q1) (E : Emb P σ hs h) (ha : L2 (RV σ hs.next true) args args')
    (k : ∀ v hs', Q1 v hs' → hs.next ≤ hs'.next → ∃ v' h', Q v' h' ∧ RV (sg σ hs.next h.next) hs'.next false v v' ∧ Framed σ hs h hs' h') : CallSpec η P B f args' h Q := by
  intro ρ xs w cs l p
  obtain ⟨v, hs', ρs', fr', w', x, q1, q, hv, r⟩ := c (cut σ hs.next ρ) xs w cs (lr_dn hη cut_dn ha l) (E.pre hη p)
  obtain ⟨v', h', hq, hrv, F⟩ := k v hs' q1 q.next
  obtain ⟨ρ', hp, hup⟩ := E.post hη p q F
  exact ⟨v', h', ρ', fr', w', x, hq, hp, hrv.up hup hv, r⟩
end Go.Ev

namespace Go.Ev
set_option linter.unusedVariables false
set_option linter.unusedSimpArgs false
variable {η : Nat → Value} {P : Program} {B : Bd}
inductive RI (σ : Nat → Nat) (N : Nat) : Item → Item → Prop
  | code (c : Code) : RI σ N (.code c) (.code c)
  | inBlock (i : Nat) : RI σ N (.inBlock i) (.inBlock i)
  | inLoop (c : Code) : RI σ N (.inLoop c) (.inLoop c)
  | inScope (c : Code) : RI σ N (.inScope c) (.inScope c)
  | inRegion (ops : Array Oper) (l : List Nat) : RI σ N (.inRegion ops l) (.inRegion ops l)
  | inRangeFunc {l : Nat} (h : l < N) : RI σ N (.inRangeFunc l) (.inRangeFunc (σ l))
  | endRangeFunc {l : Nat} (h : l < N) : RI σ N (.endRangeFunc l) (.endRangeFunc (σ l))
  | beginRound : RI σ N .beginRound .beginRound
/-- Deferred calls: only what range loops collect. -/
inductive RDf (σ : Nat → Nat) (N : Nat) : Deferred → Deferred → Prop
  | coll {r : Nat} (h : r < N) : RDf σ N { target := .collected r, args := #[] } { target := .collected (σ r), args := #[] }
def RRo (σ : Nat → Nat) (N : Nat) : Option Nat → Option Nat → Prop
  | none, none => True
  | some r, some r' => r < N ∧ r' = σ r
  | _, _ => False
/-- Frames without deferred calls of their own. -/
structure RFr (σ : Nat → Nat) (N : Nat) (f f' : AF) : Prop where
  fn : f.fn = f'.fn
  n : f.n = f'.n
  hi : ∀ t, f.n ≤ t → f.tm.get t = none
  tm : ∀ t, t < f.n → RV σ N true ((f.tm.get t).getD undef) ((f'.tm.get t).getD undef)
  todo : L2 (RI σ N) f.todo f'.todo
  defers : L2 (RDf σ N) f.defers f'.defers
  mode : f.mode = f'.mode ∧ (f'.mode = .run ∨ f'.mode = .returning)
  kind : f.kind = f'.kind
  round : RRo σ N f.round f'.round
theorem RFr.dn (hη : OneCells η) {σ : Nat → Nat} {N : Nat} {ρs ρ : Env} (hn : ∀ r t, r < N → ρ (σ r) = some t → ρs r = some t) {f f' : AF} (k : RFr σ N f f') {fr : Frame} (F : FrR η ρ f' fr) : FrR η ρs f fr := by
  refine ⟨F.fn.trans k.fn.symm, ⟨F.tm.1.trans k.n.symm, k.hi, fun t ht => (k.tm t ht).dn hη hn (F.tm.2.2 t (by rw [← k.n]; exact ht))⟩, ?_, ?_, ?_, F.kind.trans k.kind.symm, ?_⟩
  · have key : ∀ {a b : List Item}, L2 (RI σ N) a b → ∀ {l : List Item}, L2 (ItR ρ) b l → L2 (ItR ρs) a l := by
      intro a b h2
      induction h2 with
      | nil => intro l h; cases h; exact .nil
      | cons a _ ih =>
        intro l h
        obtain ⟨y, m, rfl, h1, h2⟩ := h.inv_cons
        refine .cons ?_ (ih h2)
        cases a with
        | inRangeFunc hl => cases h1 with | inRangeFunc e => exact .inRangeFunc (hn _ _ hl e)
        | endRangeFunc hl => cases h1 with | endRangeFunc e => exact .endRangeFunc (hn _ _ hl e)
        | code c => cases h1; exact .code c
        | inBlock c => cases h1; exact .inBlock c
        | inLoop c => cases h1; exact .inLoop c
        | inScope c => cases h1; exact .inScope c
        | inRegion a b => cases h1; exact .inRegion a b
        | beginRound => cases h1; exact .beginRound
    exact key k.todo F.todo
  · have key : ∀ {a b : List Deferred}, L2 (RDf σ N) a b → ∀ {l : List Deferred}, L2 (DR η ρ) b l → L2 (DR η ρs) a l := by
      intro a b h2
      induction h2 with
      | nil => intro l h; cases h; exact .nil
      | cons a _ ih =>
        intro l h
        obtain ⟨y, m, rfl, h1, h2⟩ := h.inv_cons
        refine .cons ?_ (ih h2)
        cases a with
        | coll hr =>
          obtain ⟨ht, ha⟩ := h1
          obtain ⟨yt, ya⟩ := y
          refine ⟨?_, ?_⟩
          · cases yt <;> simp only [TgR] at ht ⊢
            obtain ⟨d, n, e⟩ := ht
            exact ⟨d, n, hn _ _ hr e⟩
          · simp only at ha ⊢
            have he : ya.toList = [] := LR.inv_nil ha
            rw [he]; exact .nil
    exact key k.defers F.defers
  · have h := F.mode
    rw [k.mode.1]
    rcases k.mode.2 with e | e
    · rw [e] at h ⊢
      generalize fr.mode = m at h
      cases h; exact .run
    · rw [e] at h ⊢
      generalize fr.mode = m at h
      cases h; exact .returning
  · have h := F.round
    have h2 := k.round
    generalize fr.roundOf = r at h
    generalize f'.round = r1 at h h2
    generalize f.round = r2 at h2
    cases r2 with
    | none => cases r1 with
      | none => cases r with
        | none => trivial
        | some b => exact h
      | some b => exact absurd h2 fun h => h
    | some x => cases r1 with
      | none => exact absurd h2 fun h => h
      | some y =>
        obtain ⟨hx, rfl⟩ := h2
        cases r with
        | none => exact h
        | some b => obtain ⟨d, n, e⟩ := h; exact ⟨d, n, hn _ _ hx e⟩
/-- The heap at the end: its garbage need not be told. -/
theorem CallSpec.forget (hη : OneCells η) {f : FuncId} {args : List Value} {h : AH} {Q1 Q : Value → AH → Prop} (c : CallSpec η P B f args h Q1)
    (k : ∀ v h1, Q1 v h1 → h.next ≤ h1.next → ∃ σ v' h', Q v' h' ∧ Emb P σ h' h1 ∧ h.next ≤ h'.next ∧ (∀ r, r < h.next → σ r = r) ∧ RV σ h'.next true v' v) : CallSpec η P B f args h Q := by
  intro ρ xs w cs l p
  obtain ⟨v, h1, ρ1, fr', w', x, q1, q, hv, r⟩ := c ρ xs w cs l p
  obtain ⟨σ, v', h', hq, E, hn, hσ, hrv⟩ := k v h1 q1 q.next
  have hP' := E.pre hη (p.post q)
  have hold : ∀ r, r < h.next → cut σ h'.next ρ1 r = ρ r := by
    intro r hr
    unfold cut
    rw [if_pos (by omega), hσ r hr]
    exact q.old r hr
  refine ⟨v', h', cut σ h'.next ρ1, fr', w', x, hq, ⟨?_, hold, hP'.fresh, hn, hP'.hr, q.fr, ?_, ?_⟩, hrv.dn hη cut_dn hv, r⟩
  · intro r t hr
    rcases Nat.lt_or_ge r h.next with hl | hl
    · rw [hold r hl]; exact hr
    · rw [p.fresh r hl] at hr; cases hr
  · intro b hb
    exact q.own b (E.own' hb)
  · rintro b hb
    obtain ⟨r1, a1, a1', d1, n1, k1, _, k2, k3⟩ := E.nam hb
    exact q.inn b ⟨_, _, _, _, k2, k3⟩
/-- A heap of which nothing is known but its names. -/
def heapN (n : Nat) : AH := { objs := .nil, next := n }
theorem emb_nil {P : Program} {σ : Nat → Nat} {N : Nat} {h : AH} (hN : P.globals.size < N) (hσ : ∀ g, g ≤ P.globals.size → σ g = g) : Emb P σ (heapN N) h :=
  ⟨fun g hg => ⟨(by show g < N; omega), hσ g hg⟩, (fun r a hr => by cases hr), (fun r r' a a' hr => by cases hr)⟩
/-- A call whose arguments and result hold no blocks: it is the same in each heap. -/
theorem CallSpec.pure (hη : OneCells η) {f : FuncId} {args : List Value} {N : Nat} {v : Value} (hN : P.globals.size < N) (ha : ∀ σ M, L2 (RV σ M true) args args) (hv : ∀ σ M, RV σ M false v v) (c : CallSpec η P B f args (heapN N) fun v1 h1 => v1 = v ∧ h1 = heapN N) (h : AH) :
    CallSpec η P B f args h fun v1 h1 => v1 = v ∧ h1 = h := by
  refine c.frame (σ := fun r => r) hη (emb_nil hN fun _ _ => rfl) (ha _ _) ?_
  rintro v1 hs' ⟨rfl, rfl⟩ _
  refine ⟨v1, h, ⟨rfl, rfl⟩, hv _ _, ⟨by simp [heapN], fun r a hr => .inr (.inl ⟨hr, fun r0 a0 h0 => by cases h0⟩)⟩⟩
end Go.Ev

namespace Go.Ev
set_option linter.unusedVariables false
set_option linter.unusedSimpArgs false
variable {η : Nat → Value} {P : Program} {B : Bd}
/-- An operation whose value is told. -/
theorem Run.op (hη : OneCells η) {nest : Nest} (hreg : RegOk η P B nest) {fn : FuncId} {h0 h h' : AH} {f f2 : AF} {cs : List AF} {ops : Array Oper} {i : Nat} {rest : List Nat} {k : List Item} {o : Oper} {v : Value} {Q : Value → AH → Prop} (hm : f.mode = .run) (ht : f.todo = .inRegion ops (i :: rest) :: k)
    (ho : ops.toList[i]? = some o) (hw : wantedA ops.toList f.tm o = .ok true) (hx : execA P (evA f.tm) o h = .ok (.value v, h')) (hf : f.finish v = .ok f2) (r : Run η P B fn h0 ⟨f2, cs, h'⟩ Q) : Run η P B fn h0 ⟨f, cs, h⟩ Q := by
  have hs : stepA P nest ⟨f, cs, h⟩ = .ok (.next ⟨f2, cs, h'⟩) := by
    unfold stepA
    simp only [hm, ht, ho, hw, hx, afterA, hf, bind, Except.bind, if_true]
  exact .step hη hreg hs r
end Go.Ev
namespace Go.Ev
variable {η : Nat → Value} {P : Program} {B : Bd}
/-- All temporaries told, those that hold nothing too. -/
def fillT (tm : T Value) : Nat → T Value
  | 0 => tm
  | n + 1 => (fillT tm n).set n ((tm.get n).getD undef)
theorem fillT_get (tm : T Value) : ∀ (n t : Nat), (fillT tm n).get t = if t < n then some ((tm.get t).getD undef) else tm.get t
  | 0, t => by simp [fillT]
  | n + 1, t => by
    rw [fillT, T.get_set, fillT_get tm n]
    by_cases h : t = n
    · subst h; simp
    · rw [if_neg h]
      by_cases h2 : t < n
      · rw [if_pos h2, if_pos (by omega)]
      · rw [if_neg h2, if_neg (by omega)]
theorem Run.fill {fn : FuncId} {h0 h : AH} {f : AF} {cs : List AF} {Q : Value → AH → Prop} (r : Run η P B fn h0 ⟨{ f with tm := fillT f.tm f.n }, cs, h⟩ Q) : Run η P B fn h0 ⟨f, cs, h⟩ Q := by
  intro ρ0 w0 ρ fr cs' w cs0 p0 p R
  refine r ρ0 w0 ρ fr cs' w cs0 p0 p ⟨⟨R.fr.fn, ⟨R.fr.tm.1, fun t ht => ?_, fun t ht => ?_⟩, R.fr.todo, R.fr.defers, R.fr.mode, R.fr.kind, R.fr.round⟩, R.cs, R.pre⟩
  · have := R.fr.tm.2.1 t ht
    simp only [fillT_get]
    rw [if_neg (by have : f.n ≤ t := ht; omega)]; exact this
  · have := R.fr.tm.2.2 t ht
    simp only [fillT_get]
    rw [if_pos (show t < f.n from ht)]; exact this
/-- The first state of a call. -/
def begin' (P : Program) (f : FuncId) (args : List Value) (h : AH) : M AS := do
  let fr ← enterA P f args .normal
  .ok ⟨{ fr with tm := fillT fr.tm fr.n }, [], h⟩
theorem CallSpec.start {f : FuncId} {args : List Value} {h : AH} {s : AS} {Q : Value → AH → Prop} (he : begin' P f args h = .ok s) (r : Run η P B f h s Q) : CallSpec η P B f args h Q := by
  simp only [begin', bind_ok] at he
  obtain ⟨fr, he, h1⟩ := he
  rw [okk] at h1; subst h1
  exact .enter he (.fill r)
end Go.Ev
namespace Go.Ev
variable {η : Nat → Value} {P : Program} {B : Bd}
/-- What a tree holds. -/
def inT (tm : T Value) (t : Nat) : Value := (tm.get t).getD undef
theorem Run.loop (hη : OneCells η) {nest : Nest} (hreg : RegOk η P B nest) {fn : FuncId} {h0 h : AH} {f : AF} {cs : List AF} {body : Code} {k : List Item} {Q : Value → AH → Prop} (hm : f.mode = .run) (ht : f.todo = .code (.loop body) :: k ∨ f.todo = .inLoop body :: k)
    (r : Run η P B fn h0 ⟨{ f with todo := .code body :: .inLoop body :: k }, cs, h⟩ Q) : Run η P B fn h0 ⟨f, cs, h⟩ Q := by
  have hs : stepA P nest ⟨f, cs, h⟩ = .ok (.next ⟨{ f with todo := .code body :: .inLoop body :: k }, cs, h⟩) := by
    unfold stepA
    rcases ht with ht | ht <;> simp only [hm, ht]
  exact .step hη hreg hs r
end Go.Ev

namespace Go.Ev
set_option linter.unusedVariables false
set_option linter.unusedSimpArgs false
def isTrue : Except String (Value × AH) → Bool
  | .ok (.bool true, _) => true
  | _ => false
theorem isTrue_ok {r : Except String (Value × AH)} (h : isTrue r = true) : ∃ h', r = .ok (.bool true, h') := by
  unfold isTrue at h
  split at h
  · exact ⟨_, rfl⟩
  · cases h
/-- Arguments that are not looked into. -/
def opq (n : Nat) : List Value := (List.range n).map fun i => .chan (some i)
end Go.Ev

namespace Go.Ev
set_option linter.unusedVariables false
set_option linter.unusedSimpArgs false
variable {η : Nat → Value} {P : Program} {B : Bd}
theorem Pre.drop {ρ : Env} {h : AH} {w : World} (p : Pre η P ρ B h w) {o : T AObj} (hs : ∀ r a, o.get r = some a → h.objs.get r = some a) : Pre η P ρ B ⟨o, h.next⟩ w :=
  ⟨⟨fun r a g => p.hr.obj r a (hs r a g), fun r r' a a' b d n d' n' h1 h2 => p.hr.inj r r' a a' b d n d' n' (hs _ _ h1) (hs _ _ h2), fun r a b d n h1 => p.hr.sh r a b d n (hs _ _ h1)⟩, p.fresh, p.glob, p.low⟩
theorem Post.drop {ρ ρ' : Env} {h h' : AH} {w w' : World} (p : Post η ρ B h w ρ' h' w') {o : T AObj} (hs : ∀ r a, o.get r = some a → h'.objs.get r = some a) : Post η ρ B h w ρ' ⟨o, h'.next⟩ w' :=
  ⟨p.le, p.old, p.fresh, p.next, ⟨fun r a g => p.hr.obj r a (hs r a g), fun r r' a a' b d n d' n' h1 h2 => p.hr.inj r r' a a' b d n d' n' (hs _ _ h1) (hs _ _ h2), fun r a b d n h1 => p.hr.sh r a b d n (hs _ _ h1)⟩, p.fr, fun b ⟨r, a, d, n, h1, h2⟩ => p.own b ⟨r, a, d, n, hs _ _ h1, h2⟩, fun b ⟨r, a, d, n, h1, h2⟩ => p.inn b ⟨r, a, d, n, hs _ _ h1, h2⟩⟩
theorem Run.drop {fn : FuncId} {h0 h : AH} {f : AF} {cs : List AF} {Q : Value → AH → Prop} {o : T AObj} (hs : ∀ r a, o.get r = some a → h.objs.get r = some a) (r : Run η P B fn h0 ⟨f, cs, ⟨o, h.next⟩⟩ Q) : Run η P B fn h0 ⟨f, cs, h⟩ Q := by
  intro ρ0 w0 ρ fr cs' w cs0 p0 p R
  exact r ρ0 w0 ρ fr cs' w cs0 p0 (p.drop hs) ⟨R.fr, R.cs, R.pre.drop hs⟩
end Go.Ev

namespace Go.Ev
set_option linter.unusedVariables false
set_option linter.unusedSimpArgs false
variable {η : Nat → Value} {P : Program} {B : Bd}
def sizeAt (W : World) (g : Nat) : Nat := match W.heap[g]? with
  | some (.cells C _ _) => C.size
  | _ => 0
def envL (P : Program) (W : World) : Env := fun r => if r ≤ P.globals.size then some (r, 0, sizeAt W r) else none
/-- What a listed variable's block holds. -/
def TabAt (η : Nat → Value) (P : Program) (W : World) (x : Nat × TypeId × List Value) : Prop :=
  x.1 < P.globals.size ∧ ∃ (C : Array Value) (fr : Nat × Nat), W.heap[x.1]? = some (.cells C x.2.1 fr) ∧ LR η (envL P W) x.2.2 C.toList
/-- The type 'error' as package errors holds it. -/
theorem TabAt.handle {W : World} {g : Nat} {t u ty : TypeId} {z : Array Value} {name : String} (hS : W.ShapedOpen P) (h0 : ((begin P (fun _ _ => 0) default).world.heap[g]?).bind Obj.row? = some (z, t)) (hg : g < P.globals.size) (hn : P.globalNamed name = some g)
    (hv : W.var? P name = some #[.iface u (.agg #[typeHandle P ty])]) : TabAt η P W (g, t, [.iface u (.agg ⟨[.pointer (some ⟨P.globals.size, ty, none⟩)]⟩)]) := by
  obtain ⟨cs, hh, _⟩ := hS.1 g z t hg h0
  unfold World.var? at hv
  rw [hn] at hv
  simp only [Option.bind_some, hh] at hv
  injection hv with hv
  refine ⟨hg, cs, _, hh, ?_⟩
  rw [hv]
  have hp : VR η (envL P W) (.pointer (some ⟨P.globals.size, ty, none⟩)) (typeHandle P ty) := by
    have := VR.ptr (η := η) (ρ := envL P W) (r := P.globals.size) (o := ty) (b := P.globals.size) (d := 0) (n := sizeAt W P.globals.size) (by unfold envL; rw [if_pos (Nat.le_refl _)])
    rw [Nat.zero_add] at this
    exact this
  exact .cons (.iface _ (.agg' (.cons hp .nil))) .nil
end Go.Ev

namespace Go.Ev
set_option linter.unusedVariables false
set_option linter.unusedSimpArgs false
variable {η : Nat → Value} {P : Program} {B : Bd}
def objsP : List (Nat × TypeId × List Value) → T AObj
  | [] => .nil
  | x :: l => (objsP l).set x.1 (.cells x.2.1 x.2.2 true 0)
theorem objsP_get : ∀ {l : List (Nat × TypeId × List Value)} {r : Nat} {a : AObj}, (objsP l).get r = some a → ∃ x ∈ l, x.1 = r ∧ a = .cells x.2.1 x.2.2 true 0
  | [], r, a, h => by simp [objsP, T.get] at h
  | x :: l, r, a, h => by
    unfold objsP at h
    rw [T.get_set] at h
    by_cases e : r = x.1
    · rw [if_pos e] at h; cases h; exact ⟨x, by simp, e.symm, rfl⟩
    · rw [if_neg e] at h
      obtain ⟨y, h1, h2⟩ := objsP_get h
      exact ⟨y, by simp [h1], h2⟩
def heapP (P : Program) (l : List (Nat × TypeId × List Value)) : AH := ⟨objsP l, 126⟩
/-- What a listed variable's block holds, all of it. -/
def TabAtP (η : Nat → Value) (P : Program) (W : World) (x : Nat × TypeId × List Value) : Prop :=
  x.1 < P.globals.size ∧ ∃ (C : Array Value), W.heap[x.1]? = some (.cells C x.2.1 (0, 0)) ∧ LR η (envL P W) x.2.2 C.toList
theorem preP {l : List (Nat × TypeId × List Value)} {W : World} (hN : P.globals.size < 126) (hl : ∀ x ∈ l, TabAtP η P W x) : Pre η P (envL P W) W.heap.size (heapP P l) W := by
  refine ⟨⟨fun r a h => ?_, fun r r' a a' b d n d' n' h h' e e' => .inl ?_, fun _ _ _ _ _ _ _ hS => False.elim hS⟩, fun r hr => ?_, fun g hg => ⟨sizeAt W g, ?_⟩, Nat.le_refl _⟩
  · obtain ⟨x, hx, rfl, rfl⟩ := objsP_get h
    obtain ⟨h1, C, h2, h3⟩ := hl x hx
    have hs : sizeAt W x.1 = C.size := by unfold sizeAt; rw [h2]
    have hc : x.2.2.length = C.size := h3.len
    refine ⟨x.1, 0, C.size, _, by unfold envL; rw [if_pos (Nat.le_of_lt h1), hs], h2, ⟨C, x.2.1, 0, 0, rfl, ⟨rfl, by simp, ?_, fun i v hv => ?_, (fun _ => ⟨rfl, rfl, rfl, hc⟩), (fun h => by cases h)⟩⟩, (fun h => by cases h)⟩
    · omega
    · obtain ⟨y, hy, hv⟩ := h3.get hv
      exact ⟨y, by rw [Nat.zero_add]; exact hy, hv⟩
  · unfold envL at e e'
    split at e
    · split at e'
      · cases e; cases e'; rfl
      · cases e'
    · cases e
  · have h : 126 ≤ r := hr
    unfold envL; rw [if_neg (by omega)]
  · unfold envL; rw [if_pos hg]
theorem CallSpec.trueP {f : FuncId} {args : List Value} {args' : Array Value} {l : List (Nat × TypeId × List Value)} {W : World} (hN : P.globals.size < 126) (hl : ∀ x ∈ l, TabAtP η P W x) (ha : LR η (envL P W) args args'.toList) (c : CallSpec η P W.heap.size f args (heapP P l) fun v _ => v = .bool true) :
    Calls P f args' W fun e w' => e = .returned (.bool true) ∧ Go.RowKit.Below W.heap.size W w' := by
  have p := preP hN hl
  refine (c.calls ha p).mono ?_
  rintro e w' ⟨v, h', ρ', x, rfl, rfl, hv, hp⟩
  exact ⟨by rw [hv.bool_inv], p.hr.below hp.fr p.low⟩
/-- A variable of one cell, of which no more is said than what it is. -/
theorem TabAtP.opq {W : World} {g i : Nat} {t : TypeId} {z : Array Value} {name : String} (hS : W.ShapedOpen P) (h0 : ((begin P (fun _ _ => 0) default).world.heap[g]?).bind Obj.row? = some (z, t)) (hg : g < P.globals.size) (hn : P.globalNamed name = some g)
    (hv : W.var? P name = some #[η i]) : TabAtP η P W (g, t, [.chan (some i)]) := by
  obtain ⟨cs, hh, _⟩ := hS.1 g z t hg h0
  unfold World.var? at hv
  rw [hn] at hv
  simp only [Option.bind_some, hh] at hv
  injection hv with hv
  refine ⟨hg, cs, hh, ?_⟩
  rw [hv]
  exact .cons (.opq i) .nil
/-- What a block that is known whole says of the world's. -/
theorem Pre.row {ρ : Env} {h : AH} {w : World} (p : Pre η P ρ B h w) {g : Nat} {ty : TypeId} {c : List Value} {own : Nat} (hg : g ≤ P.globals.size) (ho : h.objs.get g = some (.cells ty c true own)) :
    ∃ C : Array Value, w.heap[g]? = some (.cells C ty (0, 0)) ∧ C.toList.length = c.length ∧ ∀ (i : Nat) (v : Value), c[i]? = some v → ∃ x, C.toList[i]? = some x ∧ VR η ρ v x := by
  obtain ⟨b, d, n, o, h1, h2, ⟨C, ty', lo, hi, rfl, k⟩, _⟩ := p.hr.obj g _ ho
  obtain ⟨n', h3⟩ := p.glob g hg
  rw [h3] at h1
  injection h1 with h1
  injection h1 with e1 e2
  injection e2 with e2 e3
  subst e1; subst e2; subst e3
  obtain ⟨rfl, rfl, _, hl⟩ := k.plain rfl
  obtain rfl := k.ty
  refine ⟨C, h2, ?_, fun i v hv => ?_⟩
  · have := k.size; omega
  · obtain ⟨x, hx, hv⟩ := k.at_ i v hv
    exact ⟨x, by rw [Nat.zero_add] at hx; exact hx, hv⟩
/-- An opaque variable, in the world. -/
theorem Pre.cell {ρ : Env} {h : AH} {w : World} (p : Pre η P ρ B h w) {g i : Nat} {ty : TypeId} {own : Nat} (hg : g ≤ P.globals.size) (ho : h.objs.get g = some (.cells ty [.chan (some i)] true own)) :
    w.cell? ⟨g, 0, none⟩ = some (η i) := by
  obtain ⟨C, h1, h2, h3⟩ := p.row hg ho
  obtain ⟨x, hx, hv⟩ := h3 0 _ rfl
  unfold World.cell?
  simp only [h1]
  cases hv
  obtain ⟨C⟩ := C
  simp only at hx
  simp [hx]
end Go.Ev

namespace Go.Ev
set_option linter.unusedVariables false
set_option linter.unusedSimpArgs false
variable {η : Nat → Value} {P : Program} {B : Bd}

/-- What a contract says: values and heaps, by cases. -/
inductive KT where
  | ret (v : Value) (h : AH)
  | ite (b : Bool) (x y : KT)
  | know (p : Prop) (x : KT)
def KT.sat : KT → Value → AH → Prop
  | .ret v0 h0, v, h => v = v0 ∧ h = h0
  | .ite b x y, v, h => (b = true ∧ x.sat v h) ∨ (b = false ∧ y.sat v h)
  | .know p x, v, h => p ∧ x.sat v h
/-- What a walk asks. -/
inductive W where
  | ite (b : Bool) (x y : W)
  | need (p : Prop) (x : W)
  | know (p : Prop) (x : W)
  | call (f : FuncId) (args : List Value) (h : AH) (k : KT) (x : W)
  | stop (keep : List Nat) (s : AS)
  | done (f : FuncId) (v : Value) (h : AH)
  | fail (m : String)
def W.holds (η : Nat → Value) (P : Program) (B : Bd) (fn : FuncId) (K : List Nat → AS → Prop) (D : Value → AH → Prop) : W → Prop
  | .ite b x y => (b = true → x.holds η P B fn K D) ∧ (b = false → y.holds η P B fn K D)
  | .need p x => p ∧ (p → x.holds η P B fn K D)
  | .know p x => p → x.holds η P B fn K D
  | .call f args h k x => CallSpec η P B f args h k.sat ∧ x.holds η P B fn K D
  | .stop l s => K l s
  | .done f v h => f = fn ∧ D v h
  | .fail _ => False

/-- Cells as they are typed. -/
def intAt (c : List Value) (i : Nat) : Int := match c[i]? with | some (.int _ n) => n | _ => 0
def boolAt (c : List Value) (i : Nat) : Bool := match c[i]? with | some (.bool b) => b | _ => false
section
variable (P : Program)
end

end Go.Ev

namespace Go.Ev
set_option linter.unusedVariables false
set_option linter.unusedSimpArgs false
variable {η : Nat → Value} {P : Program} {B : Bd}
section
variable (P : Program)
/-- The first cells of a row: those that are asked for. -/
def cut0 (c : List Value) : Nat → Nat → List Value
  | 0, _ => c
  | off, n => (c.drop off).take n
def wFirst (h : AH) (size n : Nat) : Value → M (Prop × List Value)
  | .slice (some a) _ _ => do
    let (_, c, _, _) ← cellsAt h a.block
    if a.spot = none then .ok (a.off + n * size ≤ c.length, (c.drop a.off).take (n * size)) else no "spot"
  | .slice none _ c => if c = capE then no "nil cells" else .ok (n * size = 0, [])
  | .string s => if size = 1 then .ok (True, bytesV (s.data.toList.take n)) else no "bytes"
  | _ => no "slice or string"
/-- append, where the row may have cells behind the slice: they are cut off. -/
def wAppendT (ρ : Operand → Value) (argTypes : List TypeId) (args : List Value) (h : AH) : M (Prop × KT) := do
  match argTypes, args with
  | [sT, xT], [.slice (some a) len cap, x] => do
    match ← undA P sT with
    | .slice elem => do
      let ei ← infoA P elem
      let z ← zeroA P elem
      let isInt ← isIntT P xT
      if isInt then no "append of make" else
      if ei.size = 0 ∨ ei.bytes > 65536 ∨ (cellsL z).length ≠ ei.size then no "append: size" else
      let n ← lenA x
      let (pn, new) ← wFirst h ei.size n x
      let (ty, c, _, own) ← cellsAt h a.block
      if isU cap = false ∨ own ≠ 2 ∨ cap ≠ capU ei.size ∨ ty ≠ elem ∨ a.spot ≠ none then no "append: mark" else
      let r := freshA { h with objs := h.objs.del a.block } elem ei.size (len + n) ((c.drop a.off).take (len * ei.size) ++ new)
      .ok (pn ∧ a.off + len * ei.size ≤ c.length ∧ len + n ≤ 1000000 ∧ new.length = n * ei.size ∧ new.all oneC = true, .ret r.1 r.2)
    | _ => no "append"
  | _, _ => no "append args"
def mFind (d : TypeDesc) (k : Value) (es : List MapEntry) : Option (Nat × Value) := (Instr.findNow d k es 0).getD none
def mPut (k x : Value) (c : Nat) (es : List MapEntry) : Option (Nat × Value) → List MapEntry
  | some (i, _) => modEntry (fun e => { e with key := k, val := x }) es i
  | none => es ++ [{ key := k, val := x, born := c }]
def mClock (c : Nat) : Option (Nat × Value) → Nat
  | some _ => c
  | none => c + 1
def mDel (es : List MapEntry) : Option (Nat × Value) → List MapEntry
  | some (i, _) => es.eraseIdx i
  | none => es
/-- An append that cuts off. -/
def opT (ρ : Operand → Value) (o : Oper) (h : AH) : M (Prop × KT) :=
  if !okOps P o then no "a constant" else
  match o.op with
  | .call { callee := .builtin .append, args, argTypes } => wAppendT P ρ argTypes.toList (args.toList.map ρ) h
  | _ => no "operation"
end
/-- What an operation leads to, if it goes on. -/
def Goes (P : Program) (ρ : Operand → Value) (o : Oper) (h : AH) (v : Value) (h' : AH) : Prop := execA P ρ o h = .ok (.value v, h') ∨ (execA P ρ o h = .ok (.skip, h') ∧ v = undef)
end Go.Ev

namespace Go.Ev
set_option linter.unusedVariables false
set_option linter.unusedSimpArgs false
variable {η : Nat → Value} {P : Program} {B : Bd}

theorem Run.tm {fn : FuncId} {h0 h : AH} {f : AF} {cs : List AF} {Q : Value → AH → Prop} {tm : T Value} (hi : ∀ t, f.n ≤ t → tm.get t = none) (hg : ∀ t, inT tm t = inT f.tm t) (r : Run η P B fn h0 ⟨{ f with tm := tm }, cs, h⟩ Q) : Run η P B fn h0 ⟨f, cs, h⟩ Q := by
  intro ρ0 w0 ρ fr cs' w cs0 p0 p R
  have F := R.fr
  refine r ρ0 w0 ρ fr cs' w cs0 p0 p ⟨⟨F.fn, ⟨F.tm.1, hi, fun t ht => ?_⟩, F.todo, F.defers, F.mode, F.kind, F.round⟩, R.cs, R.pre⟩
  have := hg t
  unfold inT at this
  show VR η ρ ((tm.get t).getD undef) _
  rw [this]
  exact F.tm.2.2 t ht
/-- Whatever the other temporaries hold. -/
def RunD (η : Nat → Value) (P : Program) (B : Bd) (fn : FuncId) (h0 : AH) (keep : List Nat) (s : AS) (Q : Value → AH → Prop) : Prop :=
  ∀ tm', (∀ t, s.fr.n ≤ t → tm'.get t = none) → (∀ t, keep.contains t = true → inT tm' t = inT s.fr.tm t) → Run η P B fn h0 ⟨{ s.fr with tm := tm' }, s.cs, s.hp⟩ Q
def canonT (keep : List Nat) (tm : T Value) : Nat → T Value
  | 0 => .nil
  | n + 1 => (canonT keep tm n).set n (if keep.contains n then inT tm n else undef)
theorem canonT_get (keep : List Nat) (tm : T Value) : ∀ n t, (canonT keep tm n).get t = if t < n then some (if keep.contains t then inT tm t else undef) else none
  | 0, t => by rw [if_neg (by omega)]; rfl
  | n + 1, t => by
    rw [canonT, T.get_set, canonT_get keep tm n t]
    by_cases h : t = n
    · subst h; rw [if_pos rfl, if_pos (show t < t + 1 by omega)]
    · rw [if_neg h]
      by_cases h2 : t < n
      · rw [if_pos h2, if_pos (show t < n + 1 by omega)]
      · rw [if_neg h2, if_neg (show ¬ t < n + 1 by omega)]
/-- All of a row of temporaries. -/
def allT (n : Nat) (f : Nat → Value) : List Value := (List.range n).map f
theorem allT_eq {n : Nat} {f g : Nat → Value} (h : allT n f = allT n g) : ∀ t, t < n → f t = g t := by
  intro t ht
  have := congrArg (fun l => l[t]?) h
  simp only [allT, List.getElem?_map, List.getElem?_range ht, Option.map_some] at this
  injection this
theorem RunD.intro {fn : FuncId} {h0 : AH} {keep : List Nat} {s : AS} {Q : Value → AH → Prop} (S : (Nat → Value) → AS)
    (e1 : ∀ d, (S d).cs = s.cs ∧ (S d).hp = s.hp ∧ { (S d).fr with tm := s.fr.tm } = s.fr) (hi : ∀ d t, s.fr.n ≤ t → (S d).fr.tm.get t = none) (e2 : ∀ d, allT s.fr.n (inT (S d).fr.tm) = allT s.fr.n fun t => if keep.contains t then inT s.fr.tm t else d t) (r : ∀ d, Run η P B fn h0 (S d) Q) : RunD η P B fn h0 keep s Q := by
  intro tm' h1 h2
  have hr := r (inT tm')
  obtain ⟨c1, c2, c3⟩ := e1 (inT tm')
  have hn : (S (inT tm')).fr.n = s.fr.n := by rw [← c3]
  refine Run.tm (f := { s.fr with tm := tm' }) (tm := (S (inT tm')).fr.tm) (fun t ht => hi _ t ht) (fun t => ?_) ?_
  · show inT _ t = inT tm' t
    by_cases ht : t < s.fr.n
    · rw [allT_eq (e2 (inT tm')) t ht]
      cases hk : keep.contains t with
      | true => simp only [if_true]; exact (h2 t hk).symm
      | false => simp only [Bool.false_eq_true, if_false]
    · unfold inT
      rw [hi _ t (by omega), h1 t (by omega)]
  · have : (⟨{ ({ s.fr with tm := tm' } : AF) with tm := (S (inT tm')).fr.tm }, s.cs, s.hp⟩ : AS) = S (inT tm') := by
      rw [← c1, ← c2]
      have : ({ ({ s.fr with tm := tm' } : AF) with tm := (S (inT tm')).fr.tm } : AF) = (S (inT tm')).fr := by
        have h3 := congrArg (fun f : AF => ({ f with tm := (S (inT tm')).fr.tm } : AF)) c3
        simp only at h3
        exact h3.symm
      rw [this]
    rw [this]
    exact hr
theorem RunD.at {fn : FuncId} {h0 : AH} {keep : List Nat} {f : AF} {cs : List AF} {h : AH} {Q : Value → AH → Prop} (r : RunD η P B fn h0 keep ⟨{ f with tm := canonT keep f.tm f.n }, cs, h⟩ Q) (hi : ∀ t, f.n ≤ t → f.tm.get t = none) (hk : keep.all (fun t => decide (t < f.n)) = true) : Run η P B fn h0 ⟨f, cs, h⟩ Q := by
  refine r f.tm hi (fun t ht => ?_)
  have hlt : t < f.n := by
    have := List.all_eq_true.1 hk t (by simpa using ht)
    simpa using this
  unfold inT
  simp only [canonT_get, if_pos hlt, ht, if_true, Option.getD_some]
  rfl

/-- Values that name no block. -/
def bareN : Value → Bool
  | .bool _ | .int _ _ | .float _ _ | .complex _ _ _ | .string _ | .pointer none | .slice none _ _ | .map none | .nilFunc | .nilIface => true
  | _ => false
def NoNames (c : List Value) : Prop := ∀ v, v ∈ c → bareN v = true
def NoNamesE (es : List MapEntry) : Prop := ∀ e, e ∈ es → bareN e.key = true ∧ bareN e.val = true
/-- Nothing is told beyond the last temporary. -/
def tmOk (n : Nat) : T Value → Nat → Nat → Bool
  | .nil, _, _ => true
  | .node o l r, a, c => (o.isNone || decide (c < n)) && tmOk n l (2 * a) (a + c) && tmOk n r (2 * a) (2 * a + c)
theorem tmOk_at {n : Nat} : ∀ {t : T Value} {a c : Nat}, tmOk n t a c = true → ∀ i, n ≤ a * i + c → t.get i = none
  | .nil, _, _, _, _, _ => rfl
  | .node o l r, a, c, h, i, hi => by
    simp only [tmOk, Bool.and_eq_true, Bool.or_eq_true, decide_eq_true_eq, Option.isNone_iff_eq_none] at h
    unfold T.get
    by_cases h0 : i = 0
    · rw [if_pos h0]; subst h0
      rcases h.1.1 with h1 | h1
      · exact h1
      · omega
    · rw [if_neg h0]
      by_cases h1 : i % 2 = 1
      · rw [if_pos h1]
        refine tmOk_at h.1.2 _ ?_
        have hh : i = 2 * (i / 2) + 1 := by omega
        have : a * i = 2 * a * (i / 2) + a := by
          conv => lhs; rw [hh]
          rw [Nat.mul_add, Nat.mul_one, ← Nat.mul_assoc, Nat.mul_comm a 2]
        omega
      · rw [if_neg h1]
        refine tmOk_at h.2 _ ?_
        have hh : i = 2 * (i / 2 - 1) + 2 := by omega
        have : a * i = 2 * a * (i / 2 - 1) + 2 * a := by
          conv => lhs; rw [hh]
          rw [Nat.mul_add, ← Nat.mul_assoc, Nat.mul_comm a 2]
        omega
theorem tmOk_get {n : Nat} {t : T Value} (h : tmOk n t 1 0 = true) : ∀ i, n ≤ i → t.get i = none := fun i hi => tmOk_at h i (by omega)
/-- Other names: N names; (actual, new) ones; the blocks that are kept, (new, actual, are their data unknown?). -/
structure Rn where
  N : Nat
  τ : List (Nat × Nat)
  bl : List (Nat × Nat × Bool)
def Rn.sg (rn : Rn) (nb r : Nat) : Nat := if r < nb then r else ((rn.τ.find? fun p => p.2 == r).map (·.1)).getD r
end Go.Ev

namespace Go.Ev
set_option linter.unusedVariables false
set_option linter.unusedSimpArgs false
variable {η : Nat → Value} {P : Program} {B : Bd}
inductive Sc where
  | steps (n : Nat) (k : Sc)
  | bit (d : Nat) (a b : Sc)
  | op (k : Sc)
  | opT (k : Sc)
  | call (kt : KT) (k : Sc)
  | both (a b : Sc)
  | stop (keep : List Nat) (rn : Option Rn)
  | done (rn : Option Rn)
  | reg (k : Sc)
  | regM (q : List Nat) (k : Sc)
  | regS (k : Sc)
/-- Without conditions: something is so. -/
def KT.clean : KT → Bool
  | .ret _ _ => true
  | .ite _ x y => x.clean && y.clean
  | .know _ _ => false
/-- One operation of a region, one after another. -/
def seqOp (P : Program) (nest : Nest) (base i : Nat) (ρ : Operand → Value) (o : Oper) (h : AH) : M (Value × AH) :=
  match kindOf P o.op with
  | .read => do
    let v ← readA P ρ o h
    .ok (v, h)
  | .alloc => do
    let (v, b) ← allocA P ρ o (base + i)
    .ok (v, putA h (base + i) b)
  | .effect => effRun P nest ρ o h
/-- A region, one operation after another. -/
def regSeq (P : Program) (nest : Nest) (n base : Nat) (ops : List Oper) : List Nat → T Value → AH → M (T Value × AH)
  | [], tm, h => .ok (tm, h)
  | i :: is, tm, h => match ops[i]? with
    | none => no "regSeq"
    | some o => do
      let want ← wantedA ops tm o
      let (v, h) ← (if want then seqOp P nest base i (evA tm) o h else .ok (undef, h) : M (Value × AH))
      let tm ← putT n tm o.dst v
      regSeq P nest n base ops is tm h
def isRead : Kind → Bool
  | .read => true
  | _ => false
/-- What is there of the region when so many operations are done. -/
structure RegInv (P : Program) (base : Nat) (prev : List Oper) (rs : RS) (hq : AH) : Prop where
  ents : rs.ents.map (·.o) = prev
  ee : ∀ j, j ∈ rs.ee → ∃ o, prev[j]? = some o ∧ isRead (kindOf P o.op) = false
  al : ∀ p, p ∈ rs.al → ∃ o, prev[p.1]? = some o ∧ isRead (kindOf P o.op) = false
  hp : ∀ m : Nat, (∀ p, p ∈ rs.al → m.testBit p.1 = true) → withAl m rs.h rs.al = hq
  fin : finalH rs.h rs.al = hq
/-- A value that the comparison finds to be itself. -/
def vfit : Nat → Value → Bool
  | 0, _ => false
  | n + 1, v => match v with
    | .bool _ => true
    | .int _ _ => true
    | .string _ => true
    | .pointer _ => true
    | .slice _ _ _ => true
    | .map _ => true
    | .chan _ => true
    | .nilFunc => true
    | .nilIface => true
    | .iface _ x => vfit n x
    | .func _ a b => vfits n a.toList && vfits n b.toList
    | .agg x => vfits n x.toList
    | .tuple x => vfits n x.toList
    | _ => false
where
  vfits (n : Nat) : List Value → Bool
    | [] => true
    | x :: xs => vfit n x && vfits n xs
/-- A region without new memory: what was read before an effect that it need not stand before is read behind it as it was. -/
def readIs : M Value → Value → Prop
  | .ok v, w => v = w
  | .error _, _ => False
def stillP (P : Program) (h : AH) : List (T Value × Oper × Value) → Prop
  | [] => True
  | x :: l => (readIs (readA P (evA x.1) x.2.1 h) x.2.2 ∧ vfit 20 x.2.2 = true) ∧ stillP P h l
def regS (P : Program) (n : Nat) (ops : List Oper) : List Nat → List (T Value × Oper × Value) → T Value → AH → M (Prop × T Value × AH)
  | [], _, tm, h => .ok (True, tm, h)
  | i :: is, rs, tm, h => match ops[i]? with
    | none => no "regS"
    | some o => do
      let w ← wantedA ops tm o
      if w = false then no "regS: wanted" else
      match kindOf P o.op with
      | .read => do
        let v ← readA P (evA tm) o h
        let tm1 ← putT n tm o.dst v
        regS P n ops is (rs ++ [(tm, o, v)]) tm1 h
      | .effect => do
        let (a, h1) ← effA P (evA tm) o h
        let v ← (match a with
          | .value v => .ok v
          | .skip => .ok undef
          | _ => no "regS: a call" : M Value)
        let tm1 ← putT n tm o.dst v
        let r ← regS P n ops is rs tm1 h1
        .ok (stillP P h1 rs ∧ r.1, r.2)
      | .alloc => no "regS: new memory"
structure RegInvS (P : Program) (prev : List Oper) (rds : List (T Value × Oper × Value)) (rs : RS) : Prop where
  ents : rs.ents.map (·.o) = prev
  ee : ∀ j, j ∈ rs.ee → ∃ o, prev[j]? = some o ∧ isRead (kindOf P o.op) = false
  al : rs.al = []
  rd : ∀ e, e ∈ rs.ents → isReadE e = true → (e.tm, e.o, e.v) ∈ rds
/-- A region, one operation after another; the calls in q leave the heap as it is. -/
def RegM (P : Program) (nest : Nest) (q : List Nat) (n base : Nat) (ops : List Oper) : List Nat → T Value → AH → T Value → AH → Prop
  | [], tm, h, tm', h' => tm = tm' ∧ h = h'
  | i :: is, tm, h, tm', h' => ∃ o want v h1 tm1, ops[i]? = some o ∧ wantedA ops tm o = .ok want ∧ (want = true → seqOp P nest base i (evA tm) o h = .ok (v, h1) ∧ (kindOf P o.op = .read → vfit 20 v = true) ∧ (q.contains i = true → h1 = h)) ∧ (want = false → v = undef ∧ h1 = h) ∧ putT n tm o.dst v = .ok tm1 ∧ RegM P nest q n base ops is tm1 h1 tm' h'
structure RegInvM (P : Program) (base : Nat) (prev : List Oper) (last : Nat) (pend : Bool) (rs : RS) (hq : AH) : Prop where
  ents : rs.ents.map (·.o) = prev
  le : last ≤ prev.length
  ee : ∀ j, j ∈ rs.ee → ∃ o, prev[j]? = some o ∧ isRead (kindOf P o.op) = false
  al : ∀ p, p ∈ rs.al → p.1 < last ∧ ∃ o, prev[p.1]? = some o ∧ isRead (kindOf P o.op) = false
  nil : pend = false → rs.al = []
  hp : ∀ m : Nat, (∀ p, p ∈ rs.al → m.testBit p.1 = true) → withAl m rs.h rs.al = hq
  fin : finalH rs.h rs.al = hq
  hh : rs.hh.length = rs.ee.length + 1 ∧ rs.hh[rs.ee.length]? = some rs.h
  hz : ∀ (k j : Nat) (x : AH), rs.ee[k]? = some j → rs.hh[k]? = some x → last ≤ j → x = rs.h ∧ rs.al = []
  rd : ∀ (t : Nat) (e : Ent), rs.ents[t]? = some e → last ≤ t → isReadE e = true → readA P (evA e.tm) e.o hq = .ok e.v ∧ veq 20 e.v e.v = true
/-- A call that is known. -/
structure KC where
  f : FuncId
  args : List Value
  h : AH
  v : Value
  h' : AH
/-- The same call gives the same. -/
def consM (g : FuncId) (args : List Value) (h : AH) (v : Value) (h' : AH) : List KC → Prop
  | [] => True
  | e :: l => (e.f = g → args = e.args → h = e.h → v = e.v ∧ h' = e.h') ∧ consM g args h v h' l
/-- The same, or its garbage forgotten. -/
def QF (P : Program) (nb : Nat) (D : Value → AH → Prop) (v : Value) (h : AH) : Prop :=
  D v h ∨ ∃ v' h' σ, Emb P σ h' h ∧ nb ≤ h'.next ∧ (∀ r, r < nb → σ r = r) ∧ RV σ h'.next true v' v ∧ D v' h'
theorem CallSpec.ofQF (hη : OneCells η) {f : FuncId} {args : List Value} {h : AH} {D : Value → AH → Prop} (c : CallSpec η P B f args h (QF P h.next D)) : CallSpec η P B f args h D := by
  intro ρ xs w cs l p
  obtain ⟨v, h1, ρ1, fr', w', x, q1, q, hv, r⟩ := c ρ xs w cs l p
  rcases q1 with q1 | ⟨v', h', σ, E, hn, hσ, hrv, hq⟩
  · exact ⟨v, h1, ρ1, fr', w', x, q1, q, hv, r⟩
  · have hP' := E.pre hη (p.post q)
    have hold : ∀ r, r < h.next → cut σ h'.next ρ1 r = ρ r := by
      intro r hr
      unfold cut
      rw [if_pos (by omega), hσ r hr]
      exact q.old r hr
    refine ⟨v', h', cut σ h'.next ρ1, fr', w', x, hq, ⟨?_, hold, hP'.fresh, hn, hP'.hr, q.fr, ?_, ?_⟩, hrv.dn hη cut_dn hv, r⟩
    · intro r t hr
      rcases Nat.lt_or_ge r h.next with hl | hl
      · rw [hold r hl]; exact hr
      · rw [p.fresh r hl] at hr; cases hr
    · intro b hb
      exact q.own b (E.own' hb)
    · rintro b hb
      obtain ⟨r1, a1, a1', d1, n1, k1, _, k2, k3⟩ := E.nam hb
      exact q.inn b ⟨_, _, _, _, k2, k3⟩
theorem Run.anyTm {fn : FuncId} {h0 h : AH} {f : AF} {cs : List AF} {Q : Value → AH → Prop} {tm : T Value} (hg : ∀ t, tm.get t = f.tm.get t) (r : Run η P B fn h0 ⟨{ f with tm := tm }, cs, h⟩ Q) : Run η P B fn h0 ⟨f, cs, h⟩ Q := by
  intro ρ0 w0 ρ fr cs' w cs0 p0 p R
  have F := R.fr
  refine r ρ0 w0 ρ fr cs' w cs0 p0 p ⟨⟨F.fn, ⟨F.tm.1, fun t ht => (hg t).trans (F.tm.2.1 t ht), fun t ht => ?_⟩, F.todo, F.defers, F.mode, F.kind, F.round⟩, R.cs, R.pre⟩
  show VR η ρ ((tm.get t).getD undef) _
  rw [hg t]
  exact F.tm.2.2 t ht
theorem Goes.read {ρ : Operand → Value} {o : Oper} {h h' : AH} {v : Value} (hg : Goes P ρ o h v h') (hk : kindOf P o.op = .read) : readA P ρ o h = .ok v ∧ h' = h := by
  have key : ∀ {r : AN × AH}, execA P ρ o h = .ok r → ∃ v1, readA P ρ o h = .ok v1 ∧ r = (.value v1, h) := by
    intro r hr
    unfold execA at hr
    rw [ite_no] at hr
    rw [hk] at hr
    simp only [bind_ok] at hr
    obtain ⟨_, v1, h1, h2⟩ := hr
    rw [okk] at h2
    exact ⟨v1, h1, h2.symm⟩
  rcases hg with hx | ⟨hx, _⟩
  · obtain ⟨v1, h1, h2⟩ := key hx
    injection h2 with e1 e2
    injection e1 with e1
    subst e1; subst e2
    exact ⟨h1, rfl⟩
  · obtain ⟨v1, h1, h2⟩ := key hx
    injection h2 with e1 e2
    cases e1
/-- Inside a drawn region: it goes on to its end, and from there. -/
def RegX (η : Nat → Value) (P : Program) (B : Bd) (fn : FuncId) (h0 : AH) (base : Nat) (nest : Nest) (s : AS) (Q : Value → AH → Prop) : Prop :=
  ∃ ops is k, s.fr.todo = .inRegion ops is :: k ∧ ∃ tm' h', regSeq P nest s.fr.n base ops.toList is s.fr.tm s.hp = .ok (tm', h') ∧ Run η P B fn h0 ⟨{ s.fr with tm := tm', todo := k }, s.cs, h'⟩ Q
def RegGo (η : Nat → Value) (P : Program) (B : Bd) (fn : FuncId) (h0 : AH) (base : Nat) (c : Bool) (s : AS) (Q : Value → AH → Prop) : Prop :=
  match c with
  | true => ∃ nest, NestOk η P B nest ∧ RegX η P B fn h0 base nest s Q
  | false => ∀ nest, RegX η P B fn h0 base nest s Q
theorem RegGo.map {fn : FuncId} {h0 : AH} {base : Nat} {c : Bool} {s s' : AS} {Q : Value → AH → Prop} (k : ∀ nest, RegX η P B fn h0 base nest s' Q → RegX η P B fn h0 base nest s Q) (g : RegGo η P B fn h0 base c s' Q) : RegGo η P B fn h0 base c s Q := by
  cases c with
  | true => obtain ⟨nest, hn, g⟩ := g; exact ⟨nest, hn, k nest g⟩
  | false => exact fun nest => k nest (g nest)
theorem regSeq_get {nest : Nest} {n base : Nat} {ops : List Oper} {t1 t2 : T Value} (he : ∀ i, t1.get i = t2.get i) : ∀ {is : List Nat} {h : AH} {u1 : T Value} {h' : AH}, regSeq P nest n base ops is t1 h = .ok (u1, h') → ∃ u2, regSeq P nest n base ops is t2 h = .ok (u2, h') ∧ ∀ i, u1.get i = u2.get i := by
  intro is
  induction is generalizing t1 t2 with
  | nil => intro h u1 h' hh; rw [regSeq, okk] at hh; injection hh with e1 e2; subst e1; subst e2; exact ⟨t2, rfl, he⟩
  | cons i is ih =>
    intro h u1 h' hh
    rw [regSeq] at hh
    split at hh
    · simp [no] at hh
    · rename_i o ho
      simp only [bind_ok] at hh
      obtain ⟨want, hw, ⟨v, h1⟩, hv, tm, htm, hh⟩ := hh
      simp only at htm hh
      have hev : evA t1 = evA t2 := by
        funext x
        cases x <;> simp only [evA, he]
      have hwn : wantedA ops t2 o = .ok want := by
        rw [← hw]; unfold wantedA
        split
        · rfl
        · split
          · rfl
          · rw [he]
      unfold putT at htm
      split at htm
      · rename_i d hd
        split at htm
        · rename_i hlt
          rw [okk] at htm; subst htm
          obtain ⟨u2, g1, g2⟩ := ih (t2 := t2.set d v) (fun j => by rw [T.get_set, T.get_set, he]) hh
          refine ⟨u2, ?_, g2⟩
          rw [regSeq, ho]
          simp only [bind_ok]
          refine ⟨want, hwn, (v, h1), ?_, t2.set d v, ?_, g1⟩
          · rw [← hev]; exact hv
          · unfold putT; rw [hd]; simp only; rw [if_pos hlt]
        · simp [no] at htm
      · rename_i hd
        rw [okk] at htm; subst htm
        obtain ⟨u2, g1, g2⟩ := ih (t2 := t2) he hh
        refine ⟨u2, ?_, g2⟩
        rw [regSeq, ho]
        simp only [bind_ok]
        refine ⟨want, hwn, (v, h1), ?_, t2, ?_, g1⟩
        · rw [← hev]; exact hv
        · unfold putT; rw [hd]
theorem RegX.tm {fn : FuncId} {h0 : AH} {base : Nat} {nest : Nest} {s : AS} {Q : Value → AH → Prop} {tm : T Value} (hg : ∀ t, tm.get t = s.fr.tm.get t) (g : RegX η P B fn h0 base nest ⟨{ s.fr with tm := tm }, s.cs, s.hp⟩ Q) : RegX η P B fn h0 base nest s Q := by
  obtain ⟨ops, is, k, ht, tm', h', hq, hr⟩ := g
  simp only at ht hq
  obtain ⟨u2, g1, g2⟩ := regSeq_get (t2 := s.fr.tm) hg hq
  exact ⟨ops, is, k, ht, u2, h', g1, Run.anyTm (f := { s.fr with tm := u2, todo := k }) (tm := tm') g2 hr⟩
/-- What a contract's words come to. -/
noncomputable def KT.get : KT → Value × AH
  | .ret v h => (v, h)
  | .ite b x y => if b = true then x.get else y.get
  | .know _ x => x.get
open Classical in
/-- Calls that are known. -/
noncomputable def nestL : List KC → Nest
  | [] => noNest
  | e :: l => fun f a x => if f = e.f ∧ a = e.args ∧ x = e.h then .ok (e.v, e.h') else nestL l f a x
def KC.okay (η : Nat → Value) (P : Program) (B : Bd) (e : KC) : Prop := CallSpec η P B e.f e.args e.h fun v h' => v = e.v ∧ h' = e.h'
/-- The same calls give the same. -/
def Cons (l : List KC) : Prop := ∀ e e', e ∈ l → e' ∈ l → e.f = e'.f → e.args = e'.args → e.h = e'.h → e.v = e'.v ∧ e.h' = e'.h'
/-- Inside such a region. -/
def RegXM (η : Nat → Value) (P : Program) (B : Bd) (fn : FuncId) (h0 : AH) (q : List Nat) (base : Nat) (nest : Nest) (s : AS) (Q : Value → AH → Prop) : Prop :=
  ∃ ops is k, s.fr.todo = .inRegion ops is :: k ∧ ∃ tm' h', RegM P nest q s.fr.n base ops.toList is s.fr.tm s.hp tm' h' ∧ Run η P B fn h0 ⟨{ s.fr with tm := tm', todo := k }, s.cs, h'⟩ Q
def RegGoM (η : Nat → Value) (P : Program) (B : Bd) (fn : FuncId) (h0 : AH) (q : List Nat) (base : Nat) (c : List KC) (s : AS) (Q : Value → AH → Prop) : Prop :=
  Cons c → (∀ e, e ∈ c → e.okay η P B) → ∃ L, (∀ e, e ∈ c → e ∈ L) ∧ Cons L ∧ (∀ e, e ∈ L → e.okay η P B) ∧ RegXM η P B fn h0 q base (nestL L) s Q
theorem RegM.get {nest : Nest} {q : List Nat} {n base : Nat} {ops : List Oper} : ∀ {is : List Nat} {t1 t2 u1 : T Value} {h h' : AH}, (∀ i, t1.get i = t2.get i) → RegM P nest q n base ops is t1 h u1 h' → ∃ u2, RegM P nest q n base ops is t2 h u2 h' ∧ ∀ i, u1.get i = u2.get i := by
  intro is
  induction is with
  | nil => intro t1 t2 u1 h h' he hh; rw [RegM] at hh; obtain ⟨rfl, rfl⟩ := hh; exact ⟨t2, ⟨rfl, rfl⟩, he⟩
  | cons i is ih =>
    intro t1 t2 u1 h h' he hh
    rw [RegM] at hh
    obtain ⟨o, want, v, h1, tm1, ho, hw, hv, hu, htm, hh⟩ := hh
    have hev : evA t1 = evA t2 := by
      funext x
      cases x <;> simp only [evA, he]
    have hwn : wantedA ops t2 o = .ok want := by
      rw [← hw]; unfold wantedA
      split
      · rfl
      · split
        · rfl
        · rw [he]
    unfold putT at htm
    split at htm
    · rename_i d hd
      split at htm
      · rename_i hlt
        rw [okk] at htm; subst htm
        obtain ⟨u2, g1, g2⟩ := ih (t2 := t2.set d v) (fun j => by rw [T.get_set, T.get_set, he]) hh
        refine ⟨u2, ?_, g2⟩
        rw [RegM]
        refine ⟨o, want, v, h1, t2.set d v, ho, hwn, by rw [← hev]; exact hv, hu, ?_, g1⟩
        unfold putT; rw [hd]; simp only; rw [if_pos hlt]
      · simp [no] at htm
    · rename_i hd
      rw [okk] at htm; subst htm
      obtain ⟨u2, g1, g2⟩ := ih (t2 := t2) he hh
      refine ⟨u2, ?_, g2⟩
      rw [RegM]
      refine ⟨o, want, v, h1, t2, ho, hwn, by rw [← hev]; exact hv, hu, ?_, g1⟩
      unfold putT; rw [hd]
theorem RegXM.tm {fn : FuncId} {h0 : AH} {q : List Nat} {base : Nat} {nest : Nest} {s : AS} {Q : Value → AH → Prop} {tm : T Value} (hg : ∀ t, tm.get t = s.fr.tm.get t) (g : RegXM η P B fn h0 q base nest ⟨{ s.fr with tm := tm }, s.cs, s.hp⟩ Q) : RegXM η P B fn h0 q base nest s Q := by
  obtain ⟨ops, is, k, ht, tm', h', hq, hr⟩ := g
  simp only at ht hq
  obtain ⟨u2, g1, g2⟩ := RegM.get (t2 := s.fr.tm) hg hq
  exact ⟨ops, is, k, ht, u2, h', g1, Run.anyTm (f := { s.fr with tm := u2, todo := k }) (tm := tm') g2 hr⟩
theorem RegGoM.map {fn : FuncId} {h0 : AH} {q : List Nat} {base : Nat} {c : List KC} {s s' : AS} {Q : Value → AH → Prop} (g : RegGoM η P B fn h0 q base c s' Q) (k : ∀ nest, RegXM η P B fn h0 q base nest s' Q → RegXM η P B fn h0 q base nest s Q) : RegGoM η P B fn h0 q base c s Q := by
  intro hc ho
  obtain ⟨L, h1, h2, h3, h4⟩ := g hc ho
  exact ⟨L, h1, h2, h3, k _ h4⟩
end Go.Ev

namespace Go.Ev
set_option linter.unusedVariables false
set_option linter.unusedSimpArgs false
open Go Go.Proofs Go.RowKit Go.Sort
variable {η : Nat → Value} {P : Program} {B : Bd}
theorem CallSpec.conv {f : FuncId} {args : List Value} {h : AH} {k k' : KT} (c : CallSpec η P B f args h k.sat) (e : k = k') : CallSpec η P B f args h k'.sat := e ▸ c
/-- A call whose value is known and bare leaves any heap as it was. -/
theorem CallSpec.bare (hη : OneCells η) {f : FuncId} {args : List Value} {v : Value} {N : Nat} (hN : P.globals.size < N) (ha : ∀ σ M, L2 (RV σ M true) args args) (hv : ∀ σ M, RV σ M false v v) (hw : ∀ σ M, RV σ M true v v) (c : CallSpec η P B f args (heapN N) fun v' _ => v' = v) (h : AH) : CallSpec η P B f args h (KT.ret v h).sat := by
  refine CallSpec.pure hη hN ha hv ?_ h
  refine c.forget hη ?_
  rintro v' h1 rfl hn
  exact ⟨fun r => r, _, heapN N, ⟨rfl, rfl⟩, emb_nil hN fun _ _ => rfl, Nat.le_refl _, fun _ _ => rfl, hw _ _⟩
theorem l2_bare {σ : Nat → Nat} {N : Nat} {w : Bool} : ∀ {l : List Value}, (∀ v ∈ l, RV σ N w v v) → L2 (RV σ N w) l l
  | [], _ => .nil
  | v :: l, h => .cons (h v (by simp)) (l2_bare fun x hx => h x (by simp [hx]))
/-- The heap with a row of cells in a new block. -/
def withRow (h : AH) (ty : TypeId) (c : List Value) (p : Bool) : AH := ⟨h.objs.set h.next (.cells ty c p 2), h.next + 1⟩
theorem CallSpec.fresh (hη : OneCells η) {f : FuncId} {args : List Value} {N : Nat} {mk : Nat → Value} {ty : TypeId} {c : List Value} {p : Bool} (hN : P.globals.size < N) (ha : ∀ σ M, L2 (RV σ M true) args args)
    (hv : ∀ (σ : Nat → Nat) (M r : Nat), r < M → RV σ M false (mk r) (mk (σ r))) (hc : ∀ σ M, ∀ v ∈ c, RV σ M false v v) (k : CallSpec η P B f args (heapN N) fun v h => v = mk N ∧ h = withRow (heapN N) ty c p) (h : AH) :
    CallSpec η P B f args h fun v h1 => v = mk h.next ∧ h1 = withRow h ty c p := by
  refine k.frame (σ := fun r => r) hη (emb_nil hN fun _ _ => rfl) (ha _ _) ?_
  rintro v hs' ⟨rfl, rfl⟩ _
  have hsg : sg (fun r => r) N h.next N = h.next := by unfold sg; rw [if_neg (Nat.lt_irrefl _), Nat.sub_self]; rfl
  refine ⟨mk h.next, withRow h ty c p, ⟨rfl, rfl⟩, ?_, ⟨?_, fun r a hr => ?_⟩⟩
  · have := hv (sg (fun r => r) (heapN N).next h.next) (N + 1) N (Nat.lt_succ_self _)
    rw [show (heapN N).next = N from rfl, hsg] at this
    exact this
  · show h.next + 1 = h.next + (N + 1 - N); omega
  · unfold withRow at hr
    simp only [T.get_set] at hr
    by_cases e : r = h.next
    · rw [if_pos e] at hr
      injection hr with hr
      subst hr
      refine .inl ⟨N, .cells ty c p 2, Nat.lt_succ_self _, by rw [show (heapN N).next = N from rfl, hsg, e], ?_, ?_⟩
      · show ((heapN N).objs.set N _).get N = _
        rw [T.get_set, if_pos rfl]
      · exact .cells _ _ (l2_bare (hc _ _)) (.inl rfl)
    · rw [if_neg e] at hr
      exact .inr (.inl ⟨hr, fun r0 a0 h0 => by cases h0⟩)
end Go.Ev

namespace Go.Ev
set_option linter.unusedVariables false
set_option linter.unusedSimpArgs false
variable {η : Nat → Value} {P : Program} {B : Bd}
/-- An argument's row: its type, its cells; the block and the place in the world. -/
structure Row where
  ty : TypeId
  c : List Value
  b : Nat
  o : Nat
def objsR : List Row → Nat → T AObj
  | [], _ => .nil
  | x :: l, i => (objsR l (i + 1)).set i (.cells x.ty x.c false 0)
theorem objsR_get : ∀ {l : List Row} {i r : Nat} {a : AObj}, (objsR l i).get r = some a → i ≤ r ∧ ∃ x, l[r - i]? = some x ∧ a = .cells x.ty x.c false 0
  | [], i, r, a, h => by simp [objsR, T.get] at h
  | x :: l, i, r, a, h => by
    unfold objsR at h
    rw [T.get_set] at h
    by_cases e : r = i
    · rw [if_pos e] at h; cases h; subst e; exact ⟨Nat.le_refl _, x, by simp, rfl⟩
    · rw [if_neg e] at h
      obtain ⟨h1, y, h2, h3⟩ := objsR_get h
      refine ⟨by omega, y, ?_, h3⟩
      rw [show r - i = (r - (i + 1)) + 1 by omega, List.getElem?_cons_succ]; exact h2
/-- The heap with the rows of arguments, from 126 on. -/
def heapR (l : List Row) : AH := ⟨objsR l 126, 126 + l.length⟩
def sizeB (W : World) (b : Nat) : Nat := match W.heap[b]? with | some (.cells C _ _) => C.size | _ => 0
def envR (P : Program) (W : World) (l : List Row) : Env := fun r => if 126 ≤ r then (l[r - 126]?).map fun x => (x.b, x.o, sizeB W x.b - x.o) else envL P W r
/-- A row, as it stands in the world. -/
def RowAt (W : World) (x : Row) : Prop := ∃ (C : Array Value) (lo hi : Nat), W.heap[x.b]? = some (.cells C x.ty (lo, hi)) ∧ x.o + x.c.length ≤ C.size ∧ (∀ (i : Nat) (v : Value), x.c[i]? = some v → C.toList[x.o + i]? = some v) ∧ x.c.all bareV = true
/-- The blocks of before may have several names. -/
def bdR (W : World) : Bd := ⟨W.heap.size, fun b => b < W.heap.size, fun _ h => h⟩
set_option maxRecDepth 4000 in
theorem preR {W : World} {l : List Row} (hN : P.globals.size < 126) (hl : ∀ x ∈ l, RowAt W x) : Pre η P (envR P W l) (bdR W) (heapR l) W := by
  refine ⟨⟨fun r a h => ?_, fun r r' a a' b d n d' n' h h' e e' => ?_, fun r a b d n h e hS => ?_⟩, fun r hr => ?_, fun g hg => ⟨sizeAt W g, ?_⟩, Nat.le_refl _⟩
  · obtain ⟨h1, x, hx, rfl⟩ := objsR_get h
    obtain ⟨C, lo, hi, hb, ho, hc, hbare⟩ := hl x (List.mem_of_getElem? hx)
    have hs : sizeB W x.b = C.size := by unfold sizeB; rw [hb]
    refine ⟨x.b, x.o, C.size - x.o, _, by unfold envR; rw [if_pos h1, hx, Option.map_some, hs], hb, ⟨C, x.ty, lo, hi, rfl, ⟨rfl, by show C.size = _; omega, by omega, fun i v hv => ⟨v, hc i v hv, ?_⟩, (fun h => by cases h), (fun h => by cases h)⟩⟩, (fun h => by cases h)⟩
    exact VR.bare (List.all_eq_true.1 hbare v (List.mem_of_getElem? hv))
  · obtain ⟨h1, x, hx, rfl⟩ := objsR_get h
    obtain ⟨C, lo, hi, hb, _⟩ := hl x (List.mem_of_getElem? hx)
    unfold envR at e
    rw [if_pos h1, hx] at e
    simp only [Option.map_some, Option.some.injEq, Prod.mk.injEq] at e
    rw [e.1] at hb
    exact .inr (heap_lt hb)
  · obtain ⟨h1, x, hx, rfl⟩ := objsR_get h
    rfl
  · have h : 126 + l.length ≤ r := hr
    unfold envR; rw [if_pos (by omega), List.getElem?_eq_none (by omega)]; rfl
  · unfold envR envL; rw [if_neg (by omega), if_pos hg]
theorem CallSpec.trueR {f : FuncId} {args : List Value} {args' : Array Value} {W : World} {l : List Row} (hN : P.globals.size < 126) (hl : ∀ x ∈ l, RowAt W x)
    (ha : LR η (envR P W l) args args'.toList) (k : CallSpec η P (bdR W) f args (heapR l) fun v _ => v = .bool true) :
    Calls P f args' W fun e w' => e = .returned (.bool true) ∧ Go.RowKit.Below W.heap.size W w' := by
  have p := preR (η := η) (P := P) hN hl
  refine (k.calls ha p).mono ?_
  rintro e w' ⟨v, h', ρ', x, rfl, rfl, hv, hp⟩
  exact ⟨by rw [hv.bool_inv], p.hr.below hp.fr p.low⟩
/-- A bare value is itself under any names. -/
theorem rv_bare {σ : Nat → Nat} {N : Nat} {w : Bool} : ∀ {v : Value}, bareV v = true → RV σ N w v v := by
  intro v h
  cases v with
  | bool _ => exact .bool _
  | int _ _ => exact .int _ _
  | float _ _ => exact .float _ _
  | complex _ _ _ => exact .complex _ _ _
  | string _ => exact .string _
  | pointer a => cases a with
    | none => exact .ptr0
    | some a => simp [bareV] at h
  | map a => cases a with
    | none => exact .map0
    | some a => simp [bareV] at h
  | nilFunc => exact .nilFunc
  | nilIface => exact .nilIface
  | slice a l c => cases a with
    | none => exact .slice0 _ _
    | some a => simp [bareV] at h
  | _ => simp [bareV] at h
theorem l2_bareV {σ : Nat → Nat} {N : Nat} {w : Bool} {l : List Value} (h : l.all bareV = true) : L2 (RV σ N w) l l := l2_bare fun v hv => rv_bare (List.all_eq_true.1 h v hv)
/-- Rows under the names from 126 on, as a contract's own heap has them. -/
def objsT : List (TypeId × List Value) → Nat → T AObj
  | [], _ => .nil
  | x :: l, i => (objsT l (i + 1)).set i (.cells x.1 x.2 false 0)
def heapT (l : List (TypeId × List Value)) : AH := ⟨objsT l 126, 126 + l.length⟩
def sigR (rn : Nat → Nat) : Nat → Nat := fun r => if 126 ≤ r then rn (r - 126) else r
end Go.Ev

namespace Go.Ev
set_option linter.unusedVariables false
set_option linter.unusedSimpArgs false
open Go Go.Proofs
variable {η : Nat → Value} {P : Program} {B : Bd}
/-- A block that is only looked at, as it stands in some heap. -/
inductive SameO : AObj → AObj → Prop
  | cells {ty : TypeId} {c : List Value} {own : Nat} (hb : c.all bareV = true) : SameO (.cells ty c false 0) (.cells ty c false own)
  | map {es : List MapEntry} {cl : Nat} {own : Bool} (hb : (es.all fun e => bareV e.key && bareV e.val) = true) : SameO (.map es cl false) (.map es cl own)
theorem SameO.own {a a' : AObj} (k : SameO a a') : ownO a = false := by cases k <;> rfl
def objsO : List AObj → Nat → T AObj
  | [], _ => .nil
  | x :: l, i => (objsO l (i + 1)).set i x
theorem objsO_get : ∀ {l : List AObj} {i r : Nat} {a : AObj}, (objsO l i).get r = some a → i ≤ r ∧ l[r - i]? = some a
  | [], i, r, a, h => by simp [objsO, T.get] at h
  | x :: l, i, r, a, h => by
    unfold objsO at h
    rw [T.get_set] at h
    by_cases e : r = i
    · rw [if_pos e] at h; subst e; exact ⟨Nat.le_refl _, by rw [Nat.sub_self]; exact h⟩
    · rw [if_neg e] at h
      obtain ⟨h1, h2⟩ := objsO_get h
      exact ⟨by omega, by rw [show r - i = (r - (i + 1)) + 1 by omega, List.getElem?_cons_succ]; exact h2⟩
theorem objsO_at : ∀ {l : List AObj} {i j : Nat} {x : AObj}, l[j]? = some x → (objsO l i).get (i + j) = some x
  | [], _, _, _, h => by simp at h
  | y :: l, i, 0, x, h => by
    unfold objsO; rw [T.get_set, if_pos (by omega)]; exact h
  | y :: l, i, j + 1, x, h => by
    unfold objsO; rw [T.get_set, if_neg (by omega), show i + (j + 1) = i + 1 + j by omega]
    exact objsO_at (by simpa using h)
def heapO (l : List AObj) : AH := ⟨objsO l 126, 126 + l.length⟩
end Go.Ev

namespace Go.Ev
set_option linter.unusedVariables false
set_option linter.unusedSimpArgs false
open Go Go.Proofs
variable {η : Nat → Value} {P : Program} {B : Bd}
/-- A block that is there, or is gone. -/
def T.put {α : Type} (t : T α) (r : Nat) : Option α → T α
  | some a => t.set r a
  | none => t.del r
theorem T.get_put {α : Type} (t : T α) (r : Nat) (x : Option α) (m : Nat) : (t.put r x).get m = if m = r then x else t.get m := by
  cases x with
  | some a => exact T.get_set t r a m
  | none => exact T.get_del t r m
def putL (rk : Nat → Nat) : List (Option AObj) → Nat → T AObj → T AObj
  | [], _, t => t
  | x :: l, i, t => (putL rk l (i + 1) t).put (rk i) x
theorem putL_get {rk : Nat → Nat} : ∀ {l : List (Option AObj)} {i : Nat} {t : T AObj} {r : Nat} {a : AObj}, (putL rk l i t).get r = some a → (∃ j, l[j]? = some (some a) ∧ rk (i + j) = r) ∨ (t.get r = some a ∧ ∀ j, j < l.length → rk (i + j) ≠ r)
  | [], i, t, r, a, h => .inr ⟨h, fun j hj => by simp at hj⟩
  | x :: l, i, t, r, a, h => by
    unfold putL at h
    rw [T.get_put] at h
    by_cases e : r = rk i
    · rw [if_pos e] at h
      exact .inl ⟨0, by rw [h]; rfl, e.symm⟩
    · rw [if_neg e] at h
      rcases putL_get h with ⟨j, h1, h2⟩ | ⟨h1, h2⟩
      · exact .inl ⟨j + 1, by simpa using h1, by rw [show i + (j + 1) = i + 1 + j by omega]; exact h2⟩
      · refine .inr ⟨h1, fun j hj => ?_⟩
        cases j with
        | zero => exact fun h => e h.symm
        | succ j => rw [show i + (j + 1) = i + 1 + j by omega]; exact h2 j (by simpa using hj)
/-- Those that are there stand so from a number on. -/
def hasQ (t : T AObj) : List (Option AObj) → Nat → Prop
  | [], _ => True
  | none :: l, i => hasQ t l (i + 1)
  | some a :: l, i => t.get i = some a ∧ hasQ t l (i + 1)
theorem hasQ_get {t : T AObj} : ∀ {l : List (Option AObj)} {i j : Nat} {a : AObj}, hasQ t l i → l[j]? = some (some a) → t.get (i + j) = some a
  | [], _, _, _, _, h => by simp at h
  | none :: l, i, 0, a, k, h => by simp at h
  | some x :: l, i, 0, a, k, h => by simp at h; subst h; exact k.1
  | none :: l, i, j + 1, a, k, h => by rw [show i + (j + 1) = i + 1 + j by omega]; exact hasQ_get (l := l) k (by simpa using h)
  | some x :: l, i, j + 1, a, k, h => by rw [show i + (j + 1) = i + 1 + j by omega]; exact hasQ_get (l := l) k.2 (by simpa using h)
/-- The names behind a call: those of before, and new ones. -/
def keyQ (rn : Nat → Nat) (k n i : Nat) : Nat := if i < k then rn i else n + (i - k)
/-- The blocks stand in the heap under these names. -/
structure Stands (h : AH) (l l' : List AObj) (rn : Nat → Nat) : Prop where
  at_ : ∀ i a', l'[i]? = some a' → h.objs.get (rn i) = some a'
  rel : L2 (RO (sigR rn) (126 + l.length) true) l l'
  inj : ∀ i j, i < l.length → j < l.length → rn i = rn j → i = j
theorem l2_at {α β : Type} {R : α → β → Prop} : ∀ {l : List α} {m : List β}, L2 R l m → ∀ {i : Nat} {a : α}, l[i]? = some a → ∃ b, m[i]? = some b ∧ R a b
  | _, _, .nil, i, a, h => by simp at h
  | _, _, .cons h1 h2, 0, a, h => by simp at h; subst h; exact ⟨_, rfl, h1⟩
  | _, _, .cons h1 h2, i + 1, a, h => by
    obtain ⟨b, k1, k2⟩ := l2_at h2 (i := i) (by simpa using h)
    exact ⟨b, by simpa using k1, k2⟩
theorem l2_at' {α β : Type} {R : α → β → Prop} : ∀ {l : List α} {m : List β}, L2 R l m → ∀ {i : Nat} {b : β}, m[i]? = some b → ∃ a, l[i]? = some a ∧ R a b
  | _, _, .nil, i, a, h => by simp at h
  | _, _, .cons h1 h2, 0, a, h => by simp at h; subst h; exact ⟨_, rfl, h1⟩
  | _, _, .cons h1 h2, i + 1, a, h => by
    obtain ⟨b, k1, k2⟩ := l2_at' h2 (i := i) (by simpa using h)
    exact ⟨b, by simpa using k1, k2⟩
theorem l2_len {α β : Type} {R : α → β → Prop} : ∀ {l : List α} {m : List β}, L2 R l m → l.length = m.length
  | _, _, .nil => rfl
  | _, _, .cons _ h => by simp [l2_len h]
theorem Stands.emb {h : AH} {l l' : List AObj} {rn : Nat → Nat} (hN : P.globals.size < 126) (k : Stands h l l' rn) : Emb P (sigR rn) (heapO l) h := by
  refine ⟨fun g hg => ⟨by show g < 126 + l.length; omega, by unfold sigR; rw [if_neg (by omega)]⟩, fun r a ha => ?_, fun r r' a a' ha ha' he => ?_⟩
  · obtain ⟨h1, hx⟩ := objsO_get ha
    obtain ⟨a', e1, e2⟩ := l2_at k.rel hx
    have hlt := (List.getElem?_eq_some_iff.1 hx).1
    exact ⟨by show r < 126 + l.length; omega, a', by unfold sigR; rw [if_pos h1]; exact k.at_ _ _ e1, e2⟩
  · obtain ⟨h1, hx⟩ := objsO_get ha
    obtain ⟨h1', hy⟩ := objsO_get ha'
    unfold sigR at he
    rw [if_pos h1, if_pos h1'] at he
    have := k.inj _ _ (List.getElem?_eq_some_iff.1 hx).1 (List.getElem?_eq_some_iff.1 hy).1 he
    omega
/-- What becomes of a block. -/
inductive ROp (σ : Nat → Nat) (N : Nat) : Option AObj → Option AObj → Prop
  | none : ROp σ N none none
  | some {a a' : AObj} (h : RO σ N false a a') : ROp σ N (some a) (some a')
/-- A CONTRACT THAT CHANGES BLOCKS, IN ANY HEAP. -/
theorem CallSpec.move (hη : OneCells η) {f : FuncId} {args args' : List Value} {l l' : List AObj} {l2 l2' : List (Option AObj)} {rn : Nat → Nat} {h : AH} {v v' : Value} (hN : P.globals.size < 126) (hs : Stands h l l' rn) (hle : l.length ≤ l2.length)
    (ha : L2 (RV (sigR rn) (126 + l.length) true) args args') (hv : RV (sg (sigR rn) (126 + l.length) h.next) (126 + l2.length) false v v') (ho : L2 (ROp (sg (sigR rn) (126 + l.length) h.next) (126 + l2.length)) l2 l2')
    (c : CallSpec η P B f args (heapO l) fun v1 h1 => v1 = v ∧ h1.next = 126 + l2.length ∧ hasQ h1.objs l2 126) :
    CallSpec η P B f args' h fun v1 h1 => v1 = v' ∧ h1 = ⟨putL (keyQ rn l.length h.next) l2' 0 h.objs, h.next + (l2.length - l.length)⟩ := by
  refine c.frame (σ := sigR rn) hη (hs.emb hN) ha ?_
  rintro v1 hs' ⟨rfl, hnx, hq⟩ _
  refine ⟨v', _, ⟨rfl, rfl⟩, by rw [hnx]; exact hv, ⟨?_, fun r a hr => ?_⟩⟩
  · show h.next + (l2.length - l.length) = h.next + (hs'.next - (126 + l.length)); omega
  · rcases putL_get hr with ⟨j, h1, h2⟩ | ⟨h1, h2⟩
    · rw [Nat.zero_add] at h2
      obtain ⟨x, e1, e2⟩ := l2_at' ho h1
      cases e2 with
      | some hro =>
        have hlt := (List.getElem?_eq_some_iff.1 e1).1
        have hk : sg (sigR rn) (126 + l.length) h.next (126 + j) = keyQ rn l.length h.next j := by
          unfold sg keyQ sigR
          by_cases hj : j < l.length
          · rw [if_pos (by omega), if_pos (by omega), if_pos hj, Nat.add_sub_cancel_left]
          · rw [if_neg (by omega), if_neg hj, show 126 + j - (126 + l.length) = j - l.length by omega]
        exact .inl ⟨126 + j, _, (by rw [hnx]; omega), hk.trans h2, hasQ_get hq e1, by rw [hnx]; exact hro⟩
    · refine .inr (.inl ⟨h1, fun r0 a0 h0 e => ?_⟩)
      obtain ⟨g1, g2⟩ := objsO_get h0
      have hlt := (List.getElem?_eq_some_iff.1 g2).1
      refine h2 (r0 - 126) (l2_len ho ▸ Nat.lt_of_lt_of_le hlt hle) ?_
      unfold sigR at e
      rw [if_pos g1] at e
      rw [Nat.zero_add]
      unfold keyQ
      rw [if_pos hlt]; exact e
/-- A contract that only looks at its blocks. -/
theorem CallSpec.look (hη : OneCells η) {f : FuncId} {args args' : List Value} {l l' : List AObj} {rn : Nat → Nat} {h : AH} {v v' : Value} (hN : P.globals.size < 126) (hs : Stands h l l' rn) (how : ∀ a, a ∈ l → ownO a = false)
    (ha : L2 (RV (sigR rn) (126 + l.length) true) args args') (hv : ∀ σ N, RV σ N false v v') (c : CallSpec η P B f args (heapO l) fun v1 h1 => v1 = v ∧ h1 = heapO l) :
    CallSpec η P B f args' h fun v1 h1 => v1 = v' ∧ h1 = h := by
  refine c.frame (σ := sigR rn) hη (hs.emb hN) ha ?_
  rintro v1 hs' ⟨rfl, rfl⟩ _
  refine ⟨v', h, ⟨rfl, rfl⟩, hv _ _, ⟨by simp, fun r a hr => ?_⟩⟩
  by_cases hq : ∃ i, i < l.length ∧ rn i = r
  · obtain ⟨i, hi, e⟩ := hq
    have hx := List.getElem?_eq_getElem hi
    exact .inr (.inr ⟨hr, 126 + i, _, _, (by show 126 + i < 126 + l.length; omega), (by unfold sigR; rw [if_pos (by omega), Nat.add_sub_cancel_left, e]), objsO_at hx, how _ (List.getElem_mem hi), objsO_at hx⟩)
  · refine .inr (.inl ⟨hr, fun r0 a0 h0 e => hq ?_⟩)
    obtain ⟨g1, g2⟩ := objsO_get h0
    unfold sigR at e
    rw [if_pos g1] at e
    exact ⟨r0 - 126, (List.getElem?_eq_some_iff.1 g2).1, e⟩
theorem rv_fn {σ : Nat → Nat} {N : Nat} {wk : Bool} (n : Nat) : RV σ N wk (.func (.func n) #[] #[]) (.func (.func n) #[] #[]) := .func (.same (fun _ h => by cases h)) rfl rfl (by simp) (by simp)
end Go.Ev

/- Queues: what the functions of package heaps, and container/heap on them, return. -/
noncomputable def Go.Ev.nestE : Go.Ev.Nest := Go.Ev.nestA Go.Proofs.Try.prog 100000 20
namespace Go.Ev.HQ
set_option linter.unusedVariables false
set_option linter.unusedSimpArgs false
open Go Go.Ev
/-- The two orders of the law: by the function's number. -/
def ordA (n : Nat) (a b : Int) : Bool := if n = 20 then decide (max a 0 % 10 > max b 0 % 10) else decide (a < b)
/-- Below 0: A comes before B: by the order, else by the handle. -/
def cmpA (n : Nat) (h a k b : Int) : Int := if ordA n a b != ordA n b a then (if ordA n a b then -1 else 1) else if h < k then -1 else if h > k then 1 else 0
/-- The cells of two places compared. -/
def lessC (n : Nat) (c : List Value) (i j : Nat) : Bool := decide (cmpA n (intAt c (i * 2)) (intAt c (i * 2 + 1)) (intAt c (j * 2)) (intAt c (j * 2 + 1)) < 0)
/-- Cells and places of a queue's values. -/
structure QS where
  c : List Value
  E : List MapEntry
  ck : Nat
def fE (E : List MapEntry) (k : Int) : Option (Nat × Value) := mFind (.int .i64) (.int .i64 k) E
def QS.place (s : QS) (k x : Int) : QS := ⟨s.c, mPut (.int .i64 k) (.int .i64 x) s.ck s.E (fE s.E k), mClock s.ck (fE s.E k)⟩
def swC (c : List Value) (i j : Nat) : List Value := splice (splice c (i * 2) [.int .i64 (intAt c (j * 2)), .int .i64 (intAt c (j * 2 + 1))]) (j * 2) [.int .i64 (intAt c (i * 2)), .int .i64 (intAt c (i * 2 + 1))]
def QS.swap (s : QS) (i j : Nat) : QS :=
  let t : QS := ⟨swC s.c i j, s.E, s.ck⟩
  (t.place (intAt t.c (i * 2)) i).place (intAt t.c (j * 2)) j
/-- The names of a queue's values. -/
def rnQ (v r m : Nat) : Nat → Nat
  | 0 => v
  | 1 => r
  | _ => m
/-- With other cells and places. -/
def withQ (H : AH) (o : AObj) (v r m : Nat) (s : QS) : AH := ⟨putL (keyQ (rnQ v r m) 3 H.next) [some o, some (.cells 47 s.c false 2), some (.map s.E s.ck true)] 0 H.objs, H.next + (3 - 3)⟩
/-- Up, from a place. -/
def QS.up (f : Nat) : Nat → QS → Nat → QS
  | 0, s, _ => s
  | k + 1, s, j => if (j - 1) / 2 = j ∨ lessC f s.c j ((j - 1) / 2) = false then s else QS.up f k (s.swap ((j - 1) / 2) j) ((j - 1) / 2)
/-- The place below one that it is to be exchanged with, of n. -/
def downJ (f : Nat) (c : List Value) (i n : Nat) : Nat := if i * 2 + 2 < n ∧ lessC f c (i * 2 + 2) (i * 2 + 1) = true then i * 2 + 2 else i * 2 + 1
def QS.down (f n : Nat) : Nat → QS → Nat → QS × Nat
  | 0, s, i => (s, i)
  | k + 1, s, i => if n ≤ i * 2 + 1 ∨ lessC f s.c (downJ f s.c i n) i = false then (s, i) else QS.down f n k (s.swap i (downJ f s.c i n)) (downJ f s.c i n)
/-- Items and cells. -/
def its (g : Nat → Int × Int) : Nat → List Value
  | 0 => []
  | m + 1 => its g m ++ [.int .i64 (g m).1, .int .i64 (g m).2]
def upd (g : Nat → Int × Int) (k : Nat) (p : Int × Int) : Nat → Int × Int := fun j => if j = k then p else g j
def sw (g : Nat → Int × Int) (i j : Nat) : Nat → Int × Int := upd (upd g i (g j)) j (g i)
/-- All keys and values are numbers. -/
def intE (E : List MapEntry) : Prop := ∀ e ∈ E, ∃ k x : Int, e.key = .int .i64 k ∧ e.val = .int .i64 x
/-- The heap of a queue's values. -/
def heapV (f : Nat) (x : Value) (n cap : Nat) (s : QS) : AH := heapO [.cells 58 [.func (.func f) #[] #[], x, .slice (some ⟨127, 0, none⟩) n cap, .map (some 128)] true 2, .cells 47 s.c false 2, .map s.E s.ck true]
/-- One value more, of handle x. -/
def QS.push (f n : Nat) (s : QS) (x y : Int) : QS := (QS.place ⟨s.c ++ [.int .i64 x, .int .i64 y], s.E, s.ck⟩ x n).up f (n + 1) n
/-- Without the first one of n. -/
def QS.pop (f n : Nat) (s : QS) : QS :=
  let t := (QS.down f (n - 1) (n - 1 + 1) (s.swap 0 (n - 1)) 0).1
  ⟨splice t.c ((n - 1) * 2) [.int .i64 0, .int .i64 0], mDel t.E (fE t.E (intAt t.c ((n - 1) * 2))), t.ck⟩
def rnK (q v r m : Nat) : Nat → Nat
  | 0 => q
  | 1 => v
  | 2 => r
  | _ => m
/-- The heap of a queue. -/
def heapK (f : Nat) (x : Int) (n : Nat) (s : QS) : AH := heapO [.cells 54 [.pointer (some ⟨126, 0, none⟩), .pointer (some ⟨127, 0, none⟩)] true 2, .cells 58 [.func (.func f) #[] #[], .int .i64 x, .slice (some ⟨128, 0, none⟩) n (capU 2), .map (some 129)] true 2, .cells 47 s.c false 2, .map s.E s.ck true]
def heapK0 (f : Nat) (x : Int) : AH := heapO [.cells 54 [.pointer (some ⟨126, 0, none⟩), .pointer (some ⟨127, 0, none⟩)] true 2, .cells 58 [.func (.func f) #[] #[], .int .i64 x, .slice none 0 0, .map (some 128)] true 2, .map [] 0 true]
end Go.Ev.HQ

namespace Go.Ev
set_option linter.unusedVariables false
set_option linter.unusedSimpArgs false
open Go Go.Proofs
open Go.Ev.T renaming node → nN, nil → nZ
open Go.Proofs.Try (prog)
set_option maxRecDepth 100000
set_option maxHeartbeats 2000000
namespace KSayT
set_option linter.unusedVariables false
noncomputable def bd : Code := (Go.Proofs.Try.f37.body).getD .skip
noncomputable def H0 (a : Int) (b : Int) : AH := { objs := nN none nZ (nN none nZ (nN none nZ (nN none nZ (nN none nZ (nN none nZ (nN (some (AObj.cells 58 [Value.func (Fn.func 20) ⟨[]⟩ ⟨[]⟩, Value.chan none, Value.chan none, Value.chan none] true 0)) nZ nZ)))))), next := 127 }
noncomputable def E (a : Int) (b : Int) : AS := ⟨⟨37, 14, nN (some (Value.pointer (some ⟨126, 0, none⟩))) (nN (some (Value.int IntKind.i64 a)) nZ nZ) (nN (some (Value.int IntKind.i64 b)) nZ nZ), [Item.code (codeAt bd [])], [], FrameMode.run, CallKind.normal, none⟩, [], ⟨nN none nZ (nN none nZ (nN none nZ (nN none nZ (nN none nZ (nN none nZ (nN (some (AObj.cells 58 [Value.func (Fn.func 20) ⟨[]⟩ ⟨[]⟩, Value.chan none, Value.chan none, Value.chan none] true 0)) nZ nZ)))))), 127⟩⟩
theorem enter {η : Nat → Value} {B : Bd} (hη : OneCells η) (hmix : prog.follows .mixedOrders = true) (hreg : RegOk η prog B noNest) {D : Value → AH → Prop} (a : Int) (b : Int) (h : W.holds η prog B 37 (fun kp_ st_ => RunD η prog B 37 (H0 a b) kp_ st_ (QF prog 127 D)) D (.done 37 (Value.bool (decide ((if (if true = true then decide (0 > a) else decide (0 < a)) = true then 0 else a).tmod 10 > (if (if true = true then decide (0 > b) else decide (0 < b)) = true then 0 else b).tmod 10))) (H0 a b))) : CallSpec η prog B 37 [Value.pointer (some ⟨126, 0, none⟩), Value.int IntKind.i64 a, Value.int IntKind.i64 b] (H0 a b) D := by
  refine CallSpec.ofQF hη (CallSpec.enter (fr := (E a b).fr) (by kernel_rfl) ?_)
  exact walk_okT (h0 := H0 a b) hη hmix hreg (.steps 43 <| .done none) (E a b) (by kernel_rfl) h (by kernel_rfl)
end KSayT
namespace KSayL
set_option linter.unusedVariables false
noncomputable def bd : Code := (Go.Proofs.Try.f37.body).getD .skip
noncomputable def H0 (a : Int) (b : Int) : AH := { objs := nN none nZ (nN none nZ (nN none nZ (nN none nZ (nN none nZ (nN none nZ (nN (some (AObj.cells 58 [Value.func (Fn.func 21) ⟨[]⟩ ⟨[]⟩, Value.chan none, Value.chan none, Value.chan none] true 0)) nZ nZ)))))), next := 127 }
noncomputable def E (a : Int) (b : Int) : AS := ⟨⟨37, 14, nN (some (Value.pointer (some ⟨126, 0, none⟩))) (nN (some (Value.int IntKind.i64 a)) nZ nZ) (nN (some (Value.int IntKind.i64 b)) nZ nZ), [Item.code (codeAt bd [])], [], FrameMode.run, CallKind.normal, none⟩, [], ⟨nN none nZ (nN none nZ (nN none nZ (nN none nZ (nN none nZ (nN none nZ (nN (some (AObj.cells 58 [Value.func (Fn.func 21) ⟨[]⟩ ⟨[]⟩, Value.chan none, Value.chan none, Value.chan none] true 0)) nZ nZ)))))), 127⟩⟩
theorem enter {η : Nat → Value} {B : Bd} (hη : OneCells η) (hmix : prog.follows .mixedOrders = true) (hreg : RegOk η prog B noNest) {D : Value → AH → Prop} (a : Int) (b : Int) (h : W.holds η prog B 37 (fun kp_ st_ => RunD η prog B 37 (H0 a b) kp_ st_ (QF prog 127 D)) D (.done 37 (Value.bool (decide (a < b))) (H0 a b))) : CallSpec η prog B 37 [Value.pointer (some ⟨126, 0, none⟩), Value.int IntKind.i64 a, Value.int IntKind.i64 b] (H0 a b) D := by
  refine CallSpec.ofQF hη (CallSpec.enter (fr := (E a b).fr) (by kernel_rfl) ?_)
  exact walk_okT (h0 := H0 a b) hη hmix hreg (.steps 39 <| .done none) (E a b) (by kernel_rfl) h (by kernel_rfl)
end KSayL
namespace KCmp
set_option linter.unusedVariables false
noncomputable def bd : Code := (Go.Proofs.Try.f27.body).getD .skip
noncomputable def H0 (f : Nat) (u : Int) (a : Int) (k : Int) (b : Int) : AH := { objs := nN none nZ (nN none nZ (nN none nZ (nN none nZ (nN none nZ (nN none nZ (nN (some (AObj.cells 58 [Value.func (Fn.func f) ⟨[]⟩ ⟨[]⟩, Value.chan none, Value.chan none, Value.chan none] true 0)) nZ nZ)))))), next := 127 }
noncomputable def E (f : Nat) (u : Int) (a : Int) (k : Int) (b : Int) : AS := ⟨⟨27, 30, nN (some (Value.pointer (some ⟨126, 0, none⟩))) (nN (some (Value.agg ⟨[Value.int IntKind.i64 u, Value.int IntKind.i64 a]⟩)) nZ nZ) (nN (some (Value.agg ⟨[Value.int IntKind.i64 k, Value.int IntKind.i64 b]⟩)) nZ nZ), [Item.code (codeAt bd [])], [], FrameMode.run, CallKind.normal, none⟩, [], ⟨nN none nZ (nN none nZ (nN none nZ (nN none nZ (nN none nZ (nN none nZ (nN (some (AObj.cells 58 [Value.func (Fn.func f) ⟨[]⟩ ⟨[]⟩, Value.chan none, Value.chan none, Value.chan none] true 0)) nZ nZ)))))), 127⟩⟩
noncomputable abbrev henter_0 (f : Nat) (u : Int) (a : Int) (k : Int) (b : Int) : AH := ⟨nN none (nN none (nN none (nN none (nN none (nN none (nN none (nN (some (AObj.cells 47 [Value.int IntKind.i64 u, Value.int IntKind.i64 a] true 2)) nZ nZ) nZ) nZ) nZ) nZ) nZ) nZ) (nN none (nN none (nN none (nN none (nN none (nN none (nN (some (AObj.cells 47 [Value.int IntKind.i64 k, Value.int IntKind.i64 b] true 2)) nZ nZ) nZ) nZ) nZ) nZ) nZ) (nN none nZ (nN none nZ (nN none nZ (nN none nZ (nN (some (AObj.cells 58 [Value.func (Fn.func f) ⟨[]⟩ ⟨[]⟩, Value.chan none, Value.chan none, Value.chan none] true 0)) nZ nZ)))))), 143⟩
theorem enter {η : Nat → Value} {B : Bd} (hη : OneCells η) (hmix : prog.follows .mixedOrders = true) (hreg : RegOk η prog B noNest) {D : Value → AH → Prop} (f : Nat) (u : Int) (a : Int) (k : Int) (b : Int) (h : W.holds η prog B 27 (fun kp_ st_ => RunD η prog B 27 (H0 f u a k b) kp_ st_ (QF prog 127 D)) D (.call 37 [Value.pointer (some ⟨126, 0, none⟩), Value.int IntKind.i64 a, Value.int IntKind.i64 b] ((henter_0 f u a k b)) (.ret (Value.bool (HQ.ordA f a b)) ((henter_0 f u a k b))) (.need (True ∧ ((henter_0 f u a k b) : AH) = ((henter_0 f u a k b))) (.call 37 [Value.pointer (some ⟨126, 0, none⟩), Value.int IntKind.i64 b, Value.int IntKind.i64 a] ((henter_0 f u a k b)) (.ret (Value.bool (HQ.ordA f b a)) ((henter_0 f u a k b))) (.need (consM 37 ([Value.pointer (some ⟨126, 0, none⟩), Value.int IntKind.i64 b, Value.int IntKind.i64 a]) ((henter_0 f u a k b)) (Value.bool (HQ.ordA f b a)) ((henter_0 f u a k b)) [⟨37, [Value.pointer (some ⟨126, 0, none⟩), Value.int IntKind.i64 a, Value.int IntKind.i64 b], (henter_0 f u a k b), Value.bool (HQ.ordA f a b), (henter_0 f u a k b)⟩] ∧ ((henter_0 f u a k b) : AH) = ((henter_0 f u a k b))) (.ite ((HQ.ordA f a b == HQ.ordA f b a) == false) (.ite (HQ.ordA f a b) (.need (True ∧ True) (.done 27 (Value.int IntKind.i64 (-1)) (H0 f u a k b))) (.need (True ∧ True) (.done 27 (Value.int IntKind.i64 1) (H0 f u a k b)))) (.ite (u != u) (.ite (k != k) (.need (True ∧ True) (.done 27 (Value.int IntKind.i64 0) (H0 f u a k b))) (.need (True ∧ True) (.done 27 (Value.int IntKind.i64 (-1)) (H0 f u a k b)))) (.ite (k != k) (.need (True ∧ True) (.done 27 (Value.int IntKind.i64 1) (H0 f u a k b))) (.ite (decide (u < k)) (.need (True ∧ True) (.done 27 (Value.int IntKind.i64 (-1)) (H0 f u a k b))) (.ite (decide (u > k)) (.need (True ∧ True) (.done 27 (Value.int IntKind.i64 1) (H0 f u a k b))) (.need (True ∧ True) (.done 27 (Value.int IntKind.i64 0) (H0 f u a k b))))))))))))) : CallSpec η prog B 27 [Value.pointer (some ⟨126, 0, none⟩), Value.agg ⟨[Value.int IntKind.i64 u, Value.int IntKind.i64 a]⟩, Value.agg ⟨[Value.int IntKind.i64 k, Value.int IntKind.i64 b]⟩] (H0 f u a k b) D := by
  refine CallSpec.ofQF hη (CallSpec.enter (fr := (E f u a k b).fr) (by kernel_rfl) ?_)
  exact walk_okT (h0 := H0 f u a k b) hη hmix hreg (.steps 7 <| .regM [5, 11] <| .steps 5 <| .call kN <| .steps 5 <| .call kN <| .steps 2 <| .regM [5, 11] <| .steps 7 <| .bit 23 (.steps 6 <| .bit 24 (.steps 6 <| .done (some ⟨127, [], [(126, (126, false))]⟩)) (.steps 7 <| .done (some ⟨127, [], [(126, (126, false))]⟩))) (.steps 56 <| .bit 11 (.steps 6 <| .bit 12 (.steps 10 <| .done (some ⟨127, [], [(126, (126, false))]⟩)) (.steps 11 <| .done (some ⟨127, [], [(126, (126, false))]⟩))) (.steps 7 <| .bit 13 (.steps 10 <| .done (some ⟨127, [], [(126, (126, false))]⟩)) (.steps 9 <| .bit 16 (.steps 10 <| .done (some ⟨127, [], [(126, (126, false))]⟩)) (.steps 9 <| .bit 19 (.steps 10 <| .done (some ⟨127, [], [(126, (126, false))]⟩)) (.steps 11 <| .done (some ⟨127, [], [(126, (126, false))]⟩))))))) (E f u a k b) (by kernel_rfl) h (by kernel_rfl)
end KCmp
namespace KLess
set_option linter.unusedVariables false
noncomputable def bd : Code := (Go.Proofs.Try.f78.body).getD .skip
noncomputable def H0 (f : Nat) (x : Int) (n : Nat) (cap : Nat) (s : HQ.QS) (i : Nat) (j : Nat) : AH := { objs := nN none (nN none (nN none (nN none (nN none (nN none (nN none (nN (some (AObj.cells 47 s.c false 2)) nZ nZ) nZ) nZ) nZ) nZ) nZ) nZ) (nN none (nN none (nN none (nN none (nN none (nN none (nN (some (AObj.map s.E s.ck true)) nZ nZ) nZ) nZ) nZ) nZ) nZ) (nN none nZ (nN none nZ (nN none nZ (nN none nZ (nN (some (AObj.cells 58 [Value.func (Fn.func f) ⟨[]⟩ ⟨[]⟩, Value.int IntKind.i64 x, Value.slice (some ⟨127, 0, none⟩) n cap, Value.map (some 128)] true 2)) nZ nZ)))))), next := 129 }
noncomputable def E (f : Nat) (x : Int) (n : Nat) (cap : Nat) (s : HQ.QS) (i : Nat) (j : Nat) : AS := ⟨⟨78, 24, nN (some (Value.pointer (some ⟨126, 0, none⟩))) (nN (some (Value.int IntKind.i64 (↑i : Int))) nZ nZ) (nN (some (Value.int IntKind.i64 (↑j : Int))) nZ nZ), [Item.code (codeAt bd [])], [], FrameMode.run, CallKind.normal, none⟩, [], ⟨nN none (nN none (nN none (nN none (nN none (nN none (nN none (nN (some (AObj.cells 47 s.c false 2)) nZ nZ) nZ) nZ) nZ) nZ) nZ) nZ) (nN none (nN none (nN none (nN none (nN none (nN none (nN (some (AObj.map s.E s.ck true)) nZ nZ) nZ) nZ) nZ) nZ) nZ) (nN none nZ (nN none nZ (nN none nZ (nN none nZ (nN (some (AObj.cells 58 [Value.func (Fn.func f) ⟨[]⟩ ⟨[]⟩, Value.int IntKind.i64 x, Value.slice (some ⟨127, 0, none⟩) n cap, Value.map (some 128)] true 2)) nZ nZ)))))), 129⟩⟩
noncomputable abbrev henter_0 (f : Nat) (x : Int) (n : Nat) (cap : Nat) (s : HQ.QS) : AH := ⟨nN none (nN none (nN none (nN none (nN none (nN none (nN none (nN (some (AObj.cells 47 s.c false 2)) nZ nZ) nZ) nZ) nZ) nZ) nZ) nZ) (nN none (nN none (nN none (nN none (nN none (nN none (nN (some (AObj.map s.E s.ck true)) nZ nZ) nZ) nZ) nZ) nZ) nZ) (nN none nZ (nN none nZ (nN none nZ (nN none nZ (nN (some (AObj.cells 58 [Value.func (Fn.func f) ⟨[]⟩ ⟨[]⟩, Value.int IntKind.i64 x, Value.slice (some ⟨127, 0, none⟩) n cap, Value.map (some 128)] true 2)) nZ nZ)))))), 147⟩
theorem enter {η : Nat → Value} {B : Bd} (hη : OneCells η) (hmix : prog.follows .mixedOrders = true) (hreg : RegOk η prog B noNest) {D : Value → AH → Prop} (f : Nat) (x : Int) (n : Nat) (cap : Nat) (s : HQ.QS) (i : Nat) (j : Nat) (h : W.holds η prog B 78 (fun kp_ st_ => RunD η prog B 78 (H0 f x n cap s i j) kp_ st_ (QF prog 129 D)) D (.need ((0 : Int) ≤ (↑i : Int) ∧ (↑i : Int) < (↑n : Int)) (.need ((0 : Nat) + (↑i : Int).toNat * (2 : Nat) + (2 : Nat) ≤ s.c.length ∧ List.take (2 : Nat) (List.drop ((0 : Nat) + (↑i : Int).toNat * (2 : Nat)) s.c) = [Value.int IntKind.i64 (intAt s.c ((0 : Nat) + (↑i : Int).toNat * (2 : Nat))), Value.int IntKind.i64 (intAt s.c ((0 : Nat) + (↑i : Int).toNat * (2 : Nat) + (1 : Nat)))]) (.need ((0 : Int) ≤ (↑j : Int) ∧ (↑j : Int) < (↑n : Int)) (.need ((0 : Nat) + (↑j : Int).toNat * (2 : Nat) + (2 : Nat) ≤ s.c.length ∧ List.take (2 : Nat) (List.drop ((0 : Nat) + (↑j : Int).toNat * (2 : Nat)) s.c) = [Value.int IntKind.i64 (intAt s.c ((0 : Nat) + (↑j : Int).toNat * (2 : Nat))), Value.int IntKind.i64 (intAt s.c ((0 : Nat) + (↑j : Int).toNat * (2 : Nat) + (1 : Nat)))]) (.call 27 [Value.pointer (some ⟨126, 0, none⟩), Value.agg ⟨[Value.int IntKind.i64 (intAt s.c (0 + (↑i : Int).toNat * 2)), Value.int IntKind.i64 (intAt s.c (0 + (↑i : Int).toNat * 2 + 1))]⟩, Value.agg ⟨[Value.int IntKind.i64 (intAt s.c (0 + (↑j : Int).toNat * 2)), Value.int IntKind.i64 (intAt s.c (0 + (↑j : Int).toNat * 2 + 1))]⟩] ((henter_0 f x n cap s)) (.ret (Value.int IntKind.i64 (HQ.cmpA f (intAt s.c (0 + (↑i : Int).toNat * 2)) (intAt s.c (0 + (↑i : Int).toNat * 2 + 1)) (intAt s.c (0 + (↑j : Int).toNat * 2)) (intAt s.c (0 + (↑j : Int).toNat * 2 + 1)))) ((henter_0 f x n cap s))) (.need (True ∧ NoNames s.c ∧ NoNamesE s.E ∧ True) (.done 78 (Value.bool (decide (HQ.cmpA f (intAt s.c (0 + (↑i : Int).toNat * 2)) (intAt s.c (0 + (↑i : Int).toNat * 2 + 1)) (intAt s.c (0 + (↑j : Int).toNat * 2)) (intAt s.c (0 + (↑j : Int).toNat * 2 + 1)) < 0))) (H0 f x n cap s i j))))))))) : CallSpec η prog B 78 [Value.pointer (some ⟨126, 0, none⟩), Value.int IntKind.i64 (↑i : Int), Value.int IntKind.i64 (↑j : Int)] (H0 f x n cap s i j) D := by
  refine CallSpec.ofQF hη (CallSpec.enter (fr := (E f x n cap s i j).fr) (by kernel_rfl) ?_)
  exact walk_okT (h0 := H0 f x n cap s i j) hη hmix hreg (.steps 5 <| .reg <| .steps 6 <| .op <| .op <| .steps 5 <| .op <| .op <| .call kN <| .steps 2 <| .reg <| .steps 1 <| .done (some ⟨129, [], [(126, (126, false)), (127, (127, true)), (128, (128, true))]⟩)) (E f x n cap s i j) (by kernel_rfl) h (by kernel_rfl)
end KLess
namespace KSwap
set_option linter.unusedVariables false
noncomputable def bd : Code := (Go.Proofs.Try.f81.body).getD .skip
noncomputable def H0 (f : Nat) (x : Int) (n : Nat) (cap : Nat) (s : HQ.QS) (i : Nat) (j : Nat) : AH := { objs := nN none (nN none (nN none (nN none (nN none (nN none (nN none (nN (some (AObj.cells 47 s.c false 2)) nZ nZ) nZ) nZ) nZ) nZ) nZ) nZ) (nN none (nN none (nN none (nN none (nN none (nN none (nN (some (AObj.map s.E s.ck true)) nZ nZ) nZ) nZ) nZ) nZ) nZ) (nN none nZ (nN none nZ (nN none nZ (nN none nZ (nN (some (AObj.cells 58 [Value.func (Fn.func f) ⟨[]⟩ ⟨[]⟩, Value.int IntKind.i64 x, Value.slice (some ⟨127, 0, none⟩) n cap, Value.map (some 128)] true 2)) nZ nZ)))))), next := 129 }
noncomputable def E (f : Nat) (x : Int) (n : Nat) (cap : Nat) (s : HQ.QS) (i : Nat) (j : Nat) : AS := ⟨⟨81, 58, nN (some (Value.pointer (some ⟨126, 0, none⟩))) (nN (some (Value.int IntKind.i64 (↑i : Int))) nZ nZ) (nN (some (Value.int IntKind.i64 (↑j : Int))) nZ nZ), [Item.code (codeAt bd [])], [], FrameMode.run, CallKind.normal, none⟩, [], ⟨nN none (nN none (nN none (nN none (nN none (nN none (nN none (nN (some (AObj.cells 47 s.c false 2)) nZ nZ) nZ) nZ) nZ) nZ) nZ) nZ) (nN none (nN none (nN none (nN none (nN none (nN none (nN (some (AObj.map s.E s.ck true)) nZ nZ) nZ) nZ) nZ) nZ) nZ) (nN none nZ (nN none nZ (nN none nZ (nN none nZ (nN (some (AObj.cells 58 [Value.func (Fn.func f) ⟨[]⟩ ⟨[]⟩, Value.int IntKind.i64 x, Value.slice (some ⟨127, 0, none⟩) n cap, Value.map (some 128)] true 2)) nZ nZ)))))), 129⟩⟩
theorem enter {η : Nat → Value} {B : Bd} (hη : OneCells η) (hmix : prog.follows .mixedOrders = true) (hreg : RegOk η prog B noNest) {D : Value → AH → Prop} (f : Nat) (x : Int) (n : Nat) (cap : Nat) (s : HQ.QS) (i : Nat) (j : Nat) (h : W.holds η prog B 81 (fun kp_ st_ => RunD η prog B 81 (H0 f x n cap s i j) kp_ st_ (QF prog 129 D)) D (.need ((0 : Int) ≤ (↑j : Int) ∧ (↑j : Int) < (↑n : Int)) (.need ((0 : Nat) + (↑j : Int).toNat * (2 : Nat) + (2 : Nat) ≤ s.c.length ∧ List.take (2 : Nat) (List.drop ((0 : Nat) + (↑j : Int).toNat * (2 : Nat)) s.c) = [Value.int IntKind.i64 (intAt s.c ((0 : Nat) + (↑j : Int).toNat * (2 : Nat))), Value.int IntKind.i64 (intAt s.c ((0 : Nat) + (↑j : Int).toNat * (2 : Nat) + (1 : Nat)))]) (.need ((0 : Int) ≤ (↑i : Int) ∧ (↑i : Int) < (↑n : Int)) (.need ((0 : Nat) + (↑i : Int).toNat * (2 : Nat) + (2 : Nat) ≤ s.c.length ∧ List.take (2 : Nat) (List.drop ((0 : Nat) + (↑i : Int).toNat * (2 : Nat)) s.c) = [Value.int IntKind.i64 (intAt s.c ((0 : Nat) + (↑i : Int).toNat * (2 : Nat))), Value.int IntKind.i64 (intAt s.c ((0 : Nat) + (↑i : Int).toNat * (2 : Nat) + (1 : Nat)))]) (.need ((0 : Int) ≤ (↑i : Int) ∧ (↑i : Int) < (↑n : Int)) (.need ((0 : Nat) + (↑i : Int).toNat * (2 : Nat) + (2 : Nat) ≤ s.c.length) (.need ((0 : Int) ≤ (↑j : Int) ∧ (↑j : Int) < (↑n : Int)) (.need ((0 : Nat) + (↑j : Int).toNat * (2 : Nat) + (2 : Nat) ≤ (splice s.c ((0 : Nat) + (↑i : Int).toNat * (2 : Nat)) [Value.int IntKind.i64 (intAt s.c ((0 : Nat) + (↑j : Int).toNat * (2 : Nat))), Value.int IntKind.i64 (intAt s.c ((0 : Nat) + (↑j : Int).toNat * (2 : Nat) + (1 : Nat)))]).length) (.need ((0 : Int) ≤ (↑i : Int) ∧ (↑i : Int) < (↑n : Int)) (.need ((splice (splice s.c ((0 : Nat) + (↑i : Int).toNat * (2 : Nat)) [Value.int IntKind.i64 (intAt s.c ((0 : Nat) + (↑j : Int).toNat * (2 : Nat))), Value.int IntKind.i64 (intAt s.c ((0 : Nat) + (↑j : Int).toNat * (2 : Nat) + (1 : Nat)))]) ((0 : Nat) + (↑j : Int).toNat * (2 : Nat)) [Value.int IntKind.i64 (intAt s.c ((0 : Nat) + (↑i : Int).toNat * (2 : Nat))), Value.int IntKind.i64 (intAt s.c ((0 : Nat) + (↑i : Int).toNat * (2 : Nat) + (1 : Nat)))])[(0 : Nat) + (↑i : Int).toNat * (2 : Nat) + (0 : Nat)]? = some (Value.int IntKind.i64 (intAt (splice (splice s.c ((0 : Nat) + (↑i : Int).toNat * (2 : Nat)) [Value.int IntKind.i64 (intAt s.c ((0 : Nat) + (↑j : Int).toNat * (2 : Nat))), Value.int IntKind.i64 (intAt s.c ((0 : Nat) + (↑j : Int).toNat * (2 : Nat) + (1 : Nat)))]) ((0 : Nat) + (↑j : Int).toNat * (2 : Nat)) [Value.int IntKind.i64 (intAt s.c ((0 : Nat) + (↑i : Int).toNat * (2 : Nat))), Value.int IntKind.i64 (intAt s.c ((0 : Nat) + (↑i : Int).toNat * (2 : Nat) + (1 : Nat)))]) ((0 : Nat) + (↑i : Int).toNat * (2 : Nat) + (0 : Nat))))) (.need (Instr.findNow (TypeDesc.int IntKind.i64) (Value.int IntKind.i64 (intAt (splice (splice s.c ((0 : Nat) + (↑i : Int).toNat * (2 : Nat)) [Value.int IntKind.i64 (intAt s.c ((0 : Nat) + (↑j : Int).toNat * (2 : Nat))), Value.int IntKind.i64 (intAt s.c ((0 : Nat) + (↑j : Int).toNat * (2 : Nat) + (1 : Nat)))]) ((0 : Nat) + (↑j : Int).toNat * (2 : Nat)) [Value.int IntKind.i64 (intAt s.c ((0 : Nat) + (↑i : Int).toNat * (2 : Nat))), Value.int IntKind.i64 (intAt s.c ((0 : Nat) + (↑i : Int).toNat * (2 : Nat) + (1 : Nat)))]) ((0 : Nat) + (↑i : Int).toNat * (2 : Nat) + (0 : Nat)))) s.E (0 : Nat) = some (mFind (TypeDesc.int IntKind.i64) (Value.int IntKind.i64 (intAt (splice (splice s.c ((0 : Nat) + (↑i : Int).toNat * (2 : Nat)) [Value.int IntKind.i64 (intAt s.c ((0 : Nat) + (↑j : Int).toNat * (2 : Nat))), Value.int IntKind.i64 (intAt s.c ((0 : Nat) + (↑j : Int).toNat * (2 : Nat) + (1 : Nat)))]) ((0 : Nat) + (↑j : Int).toNat * (2 : Nat)) [Value.int IntKind.i64 (intAt s.c ((0 : Nat) + (↑i : Int).toNat * (2 : Nat))), Value.int IntKind.i64 (intAt s.c ((0 : Nat) + (↑i : Int).toNat * (2 : Nat) + (1 : Nat)))]) ((0 : Nat) + (↑i : Int).toNat * (2 : Nat) + (0 : Nat)))) s.E)) (.need ((0 : Int) ≤ (↑j : Int) ∧ (↑j : Int) < (↑n : Int)) (.need ((splice (splice s.c ((0 : Nat) + (↑i : Int).toNat * (2 : Nat)) [Value.int IntKind.i64 (intAt s.c ((0 : Nat) + (↑j : Int).toNat * (2 : Nat))), Value.int IntKind.i64 (intAt s.c ((0 : Nat) + (↑j : Int).toNat * (2 : Nat) + (1 : Nat)))]) ((0 : Nat) + (↑j : Int).toNat * (2 : Nat)) [Value.int IntKind.i64 (intAt s.c ((0 : Nat) + (↑i : Int).toNat * (2 : Nat))), Value.int IntKind.i64 (intAt s.c ((0 : Nat) + (↑i : Int).toNat * (2 : Nat) + (1 : Nat)))])[(0 : Nat) + (↑j : Int).toNat * (2 : Nat) + (0 : Nat)]? = some (Value.int IntKind.i64 (intAt (splice (splice s.c ((0 : Nat) + (↑i : Int).toNat * (2 : Nat)) [Value.int IntKind.i64 (intAt s.c ((0 : Nat) + (↑j : Int).toNat * (2 : Nat))), Value.int IntKind.i64 (intAt s.c ((0 : Nat) + (↑j : Int).toNat * (2 : Nat) + (1 : Nat)))]) ((0 : Nat) + (↑j : Int).toNat * (2 : Nat)) [Value.int IntKind.i64 (intAt s.c ((0 : Nat) + (↑i : Int).toNat * (2 : Nat))), Value.int IntKind.i64 (intAt s.c ((0 : Nat) + (↑i : Int).toNat * (2 : Nat) + (1 : Nat)))]) ((0 : Nat) + (↑j : Int).toNat * (2 : Nat) + (0 : Nat))))) (.need (Instr.findNow (TypeDesc.int IntKind.i64) (Value.int IntKind.i64 (intAt (splice (splice s.c ((0 : Nat) + (↑i : Int).toNat * (2 : Nat)) [Value.int IntKind.i64 (intAt s.c ((0 : Nat) + (↑j : Int).toNat * (2 : Nat))), Value.int IntKind.i64 (intAt s.c ((0 : Nat) + (↑j : Int).toNat * (2 : Nat) + (1 : Nat)))]) ((0 : Nat) + (↑j : Int).toNat * (2 : Nat)) [Value.int IntKind.i64 (intAt s.c ((0 : Nat) + (↑i : Int).toNat * (2 : Nat))), Value.int IntKind.i64 (intAt s.c ((0 : Nat) + (↑i : Int).toNat * (2 : Nat) + (1 : Nat)))]) ((0 : Nat) + (↑j : Int).toNat * (2 : Nat) + (0 : Nat)))) (mPut (Value.int IntKind.i64 (intAt (splice (splice s.c ((0 : Nat) + (↑i : Int).toNat * (2 : Nat)) [Value.int IntKind.i64 (intAt s.c ((0 : Nat) + (↑j : Int).toNat * (2 : Nat))), Value.int IntKind.i64 (intAt s.c ((0 : Nat) + (↑j : Int).toNat * (2 : Nat) + (1 : Nat)))]) ((0 : Nat) + (↑j : Int).toNat * (2 : Nat)) [Value.int IntKind.i64 (intAt s.c ((0 : Nat) + (↑i : Int).toNat * (2 : Nat))), Value.int IntKind.i64 (intAt s.c ((0 : Nat) + (↑i : Int).toNat * (2 : Nat) + (1 : Nat)))]) ((0 : Nat) + (↑i : Int).toNat * (2 : Nat) + (0 : Nat)))) (Value.int IntKind.i64 (↑i : Int)) s.ck s.E (mFind (TypeDesc.int IntKind.i64) (Value.int IntKind.i64 (intAt (splice (splice s.c ((0 : Nat) + (↑i : Int).toNat * (2 : Nat)) [Value.int IntKind.i64 (intAt s.c ((0 : Nat) + (↑j : Int).toNat * (2 : Nat))), Value.int IntKind.i64 (intAt s.c ((0 : Nat) + (↑j : Int).toNat * (2 : Nat) + (1 : Nat)))]) ((0 : Nat) + (↑j : Int).toNat * (2 : Nat)) [Value.int IntKind.i64 (intAt s.c ((0 : Nat) + (↑i : Int).toNat * (2 : Nat))), Value.int IntKind.i64 (intAt s.c ((0 : Nat) + (↑i : Int).toNat * (2 : Nat) + (1 : Nat)))]) ((0 : Nat) + (↑i : Int).toNat * (2 : Nat) + (0 : Nat)))) s.E)) (0 : Nat) = some (mFind (TypeDesc.int IntKind.i64) (Value.int IntKind.i64 (intAt (splice (splice s.c ((0 : Nat) + (↑i : Int).toNat * (2 : Nat)) [Value.int IntKind.i64 (intAt s.c ((0 : Nat) + (↑j : Int).toNat * (2 : Nat))), Value.int IntKind.i64 (intAt s.c ((0 : Nat) + (↑j : Int).toNat * (2 : Nat) + (1 : Nat)))]) ((0 : Nat) + (↑j : Int).toNat * (2 : Nat)) [Value.int IntKind.i64 (intAt s.c ((0 : Nat) + (↑i : Int).toNat * (2 : Nat))), Value.int IntKind.i64 (intAt s.c ((0 : Nat) + (↑i : Int).toNat * (2 : Nat) + (1 : Nat)))]) ((0 : Nat) + (↑j : Int).toNat * (2 : Nat) + (0 : Nat)))) (mPut (Value.int IntKind.i64 (intAt (splice (splice s.c ((0 : Nat) + (↑i : Int).toNat * (2 : Nat)) [Value.int IntKind.i64 (intAt s.c ((0 : Nat) + (↑j : Int).toNat * (2 : Nat))), Value.int IntKind.i64 (intAt s.c ((0 : Nat) + (↑j : Int).toNat * (2 : Nat) + (1 : Nat)))]) ((0 : Nat) + (↑j : Int).toNat * (2 : Nat)) [Value.int IntKind.i64 (intAt s.c ((0 : Nat) + (↑i : Int).toNat * (2 : Nat))), Value.int IntKind.i64 (intAt s.c ((0 : Nat) + (↑i : Int).toNat * (2 : Nat) + (1 : Nat)))]) ((0 : Nat) + (↑i : Int).toNat * (2 : Nat) + (0 : Nat)))) (Value.int IntKind.i64 (↑i : Int)) s.ck s.E (mFind (TypeDesc.int IntKind.i64) (Value.int IntKind.i64 (intAt (splice (splice s.c ((0 : Nat) + (↑i : Int).toNat * (2 : Nat)) [Value.int IntKind.i64 (intAt s.c ((0 : Nat) + (↑j : Int).toNat * (2 : Nat))), Value.int IntKind.i64 (intAt s.c ((0 : Nat) + (↑j : Int).toNat * (2 : Nat) + (1 : Nat)))]) ((0 : Nat) + (↑j : Int).toNat * (2 : Nat)) [Value.int IntKind.i64 (intAt s.c ((0 : Nat) + (↑i : Int).toNat * (2 : Nat))), Value.int IntKind.i64 (intAt s.c ((0 : Nat) + (↑i : Int).toNat * (2 : Nat) + (1 : Nat)))]) ((0 : Nat) + (↑i : Int).toNat * (2 : Nat) + (0 : Nat)))) s.E)))) (.need (True ∧ NoNames (splice (splice s.c ((0 : Nat) + (↑i : Int).toNat * (2 : Nat)) [Value.int IntKind.i64 (intAt s.c ((0 : Nat) + (↑j : Int).toNat * (2 : Nat))), Value.int IntKind.i64 (intAt s.c ((0 : Nat) + (↑j : Int).toNat * (2 : Nat) + (1 : Nat)))]) ((0 : Nat) + (↑j : Int).toNat * (2 : Nat)) [Value.int IntKind.i64 (intAt s.c ((0 : Nat) + (↑i : Int).toNat * (2 : Nat))), Value.int IntKind.i64 (intAt s.c ((0 : Nat) + (↑i : Int).toNat * (2 : Nat) + (1 : Nat)))]) ∧ NoNamesE (mPut (Value.int IntKind.i64 (intAt (splice (splice s.c ((0 : Nat) + (↑i : Int).toNat * (2 : Nat)) [Value.int IntKind.i64 (intAt s.c ((0 : Nat) + (↑j : Int).toNat * (2 : Nat))), Value.int IntKind.i64 (intAt s.c ((0 : Nat) + (↑j : Int).toNat * (2 : Nat) + (1 : Nat)))]) ((0 : Nat) + (↑j : Int).toNat * (2 : Nat)) [Value.int IntKind.i64 (intAt s.c ((0 : Nat) + (↑i : Int).toNat * (2 : Nat))), Value.int IntKind.i64 (intAt s.c ((0 : Nat) + (↑i : Int).toNat * (2 : Nat) + (1 : Nat)))]) ((0 : Nat) + (↑j : Int).toNat * (2 : Nat) + (0 : Nat)))) (Value.int IntKind.i64 (↑j : Int)) (mClock s.ck (mFind (TypeDesc.int IntKind.i64) (Value.int IntKind.i64 (intAt (splice (splice s.c ((0 : Nat) + (↑i : Int).toNat * (2 : Nat)) [Value.int IntKind.i64 (intAt s.c ((0 : Nat) + (↑j : Int).toNat * (2 : Nat))), Value.int IntKind.i64 (intAt s.c ((0 : Nat) + (↑j : Int).toNat * (2 : Nat) + (1 : Nat)))]) ((0 : Nat) + (↑j : Int).toNat * (2 : Nat)) [Value.int IntKind.i64 (intAt s.c ((0 : Nat) + (↑i : Int).toNat * (2 : Nat))), Value.int IntKind.i64 (intAt s.c ((0 : Nat) + (↑i : Int).toNat * (2 : Nat) + (1 : Nat)))]) ((0 : Nat) + (↑i : Int).toNat * (2 : Nat) + (0 : Nat)))) s.E)) (mPut (Value.int IntKind.i64 (intAt (splice (splice s.c ((0 : Nat) + (↑i : Int).toNat * (2 : Nat)) [Value.int IntKind.i64 (intAt s.c ((0 : Nat) + (↑j : Int).toNat * (2 : Nat))), Value.int IntKind.i64 (intAt s.c ((0 : Nat) + (↑j : Int).toNat * (2 : Nat) + (1 : Nat)))]) ((0 : Nat) + (↑j : Int).toNat * (2 : Nat)) [Value.int IntKind.i64 (intAt s.c ((0 : Nat) + (↑i : Int).toNat * (2 : Nat))), Value.int IntKind.i64 (intAt s.c ((0 : Nat) + (↑i : Int).toNat * (2 : Nat) + (1 : Nat)))]) ((0 : Nat) + (↑i : Int).toNat * (2 : Nat) + (0 : Nat)))) (Value.int IntKind.i64 (↑i : Int)) s.ck s.E (mFind (TypeDesc.int IntKind.i64) (Value.int IntKind.i64 (intAt (splice (splice s.c ((0 : Nat) + (↑i : Int).toNat * (2 : Nat)) [Value.int IntKind.i64 (intAt s.c ((0 : Nat) + (↑j : Int).toNat * (2 : Nat))), Value.int IntKind.i64 (intAt s.c ((0 : Nat) + (↑j : Int).toNat * (2 : Nat) + (1 : Nat)))]) ((0 : Nat) + (↑j : Int).toNat * (2 : Nat)) [Value.int IntKind.i64 (intAt s.c ((0 : Nat) + (↑i : Int).toNat * (2 : Nat))), Value.int IntKind.i64 (intAt s.c ((0 : Nat) + (↑i : Int).toNat * (2 : Nat) + (1 : Nat)))]) ((0 : Nat) + (↑i : Int).toNat * (2 : Nat) + (0 : Nat)))) s.E)) (mFind (TypeDesc.int IntKind.i64) (Value.int IntKind.i64 (intAt (splice (splice s.c ((0 : Nat) + (↑i : Int).toNat * (2 : Nat)) [Value.int IntKind.i64 (intAt s.c ((0 : Nat) + (↑j : Int).toNat * (2 : Nat))), Value.int IntKind.i64 (intAt s.c ((0 : Nat) + (↑j : Int).toNat * (2 : Nat) + (1 : Nat)))]) ((0 : Nat) + (↑j : Int).toNat * (2 : Nat)) [Value.int IntKind.i64 (intAt s.c ((0 : Nat) + (↑i : Int).toNat * (2 : Nat))), Value.int IntKind.i64 (intAt s.c ((0 : Nat) + (↑i : Int).toNat * (2 : Nat) + (1 : Nat)))]) ((0 : Nat) + (↑j : Int).toNat * (2 : Nat) + (0 : Nat)))) (mPut (Value.int IntKind.i64 (intAt (splice (splice s.c ((0 : Nat) + (↑i : Int).toNat * (2 : Nat)) [Value.int IntKind.i64 (intAt s.c ((0 : Nat) + (↑j : Int).toNat * (2 : Nat))), Value.int IntKind.i64 (intAt s.c ((0 : Nat) + (↑j : Int).toNat * (2 : Nat) + (1 : Nat)))]) ((0 : Nat) + (↑j : Int).toNat * (2 : Nat)) [Value.int IntKind.i64 (intAt s.c ((0 : Nat) + (↑i : Int).toNat * (2 : Nat))), Value.int IntKind.i64 (intAt s.c ((0 : Nat) + (↑i : Int).toNat * (2 : Nat) + (1 : Nat)))]) ((0 : Nat) + (↑i : Int).toNat * (2 : Nat) + (0 : Nat)))) (Value.int IntKind.i64 (↑i : Int)) s.ck s.E (mFind (TypeDesc.int IntKind.i64) (Value.int IntKind.i64 (intAt (splice (splice s.c ((0 : Nat) + (↑i : Int).toNat * (2 : Nat)) [Value.int IntKind.i64 (intAt s.c ((0 : Nat) + (↑j : Int).toNat * (2 : Nat))), Value.int IntKind.i64 (intAt s.c ((0 : Nat) + (↑j : Int).toNat * (2 : Nat) + (1 : Nat)))]) ((0 : Nat) + (↑j : Int).toNat * (2 : Nat)) [Value.int IntKind.i64 (intAt s.c ((0 : Nat) + (↑i : Int).toNat * (2 : Nat))), Value.int IntKind.i64 (intAt s.c ((0 : Nat) + (↑i : Int).toNat * (2 : Nat) + (1 : Nat)))]) ((0 : Nat) + (↑i : Int).toNat * (2 : Nat) + (0 : Nat)))) s.E)))) ∧ True) (.done 81 (undef) (⟨nN none (nN none (nN none (nN none (nN none (nN none (nN none (nN (some (AObj.cells 47 (splice (splice s.c (0 + (↑i : Int).toNat * 2) [Value.int IntKind.i64 (intAt s.c (0 + (↑j : Int).toNat * 2)), Value.int IntKind.i64 (intAt s.c (0 + (↑j : Int).toNat * 2 + 1))]) (0 + (↑j : Int).toNat * 2) [Value.int IntKind.i64 (intAt s.c (0 + (↑i : Int).toNat * 2)), Value.int IntKind.i64 (intAt s.c (0 + (↑i : Int).toNat * 2 + 1))]) false 2)) nZ nZ) nZ) nZ) nZ) nZ) nZ) nZ) (nN none (nN none (nN none (nN none (nN none (nN none (nN (some (AObj.map (mPut (Value.int IntKind.i64 (intAt (splice (splice s.c (0 + (↑i : Int).toNat * 2) [Value.int IntKind.i64 (intAt s.c (0 + (↑j : Int).toNat * 2)), Value.int IntKind.i64 (intAt s.c (0 + (↑j : Int).toNat * 2 + 1))]) (0 + (↑j : Int).toNat * 2) [Value.int IntKind.i64 (intAt s.c (0 + (↑i : Int).toNat * 2)), Value.int IntKind.i64 (intAt s.c (0 + (↑i : Int).toNat * 2 + 1))]) (0 + (↑j : Int).toNat * 2 + 0))) (Value.int IntKind.i64 (↑j : Int)) (mClock s.ck (mFind (TypeDesc.int IntKind.i64) (Value.int IntKind.i64 (intAt (splice (splice s.c (0 + (↑i : Int).toNat * 2) [Value.int IntKind.i64 (intAt s.c (0 + (↑j : Int).toNat * 2)), Value.int IntKind.i64 (intAt s.c (0 + (↑j : Int).toNat * 2 + 1))]) (0 + (↑j : Int).toNat * 2) [Value.int IntKind.i64 (intAt s.c (0 + (↑i : Int).toNat * 2)), Value.int IntKind.i64 (intAt s.c (0 + (↑i : Int).toNat * 2 + 1))]) (0 + (↑i : Int).toNat * 2 + 0))) s.E)) (mPut (Value.int IntKind.i64 (intAt (splice (splice s.c (0 + (↑i : Int).toNat * 2) [Value.int IntKind.i64 (intAt s.c (0 + (↑j : Int).toNat * 2)), Value.int IntKind.i64 (intAt s.c (0 + (↑j : Int).toNat * 2 + 1))]) (0 + (↑j : Int).toNat * 2) [Value.int IntKind.i64 (intAt s.c (0 + (↑i : Int).toNat * 2)), Value.int IntKind.i64 (intAt s.c (0 + (↑i : Int).toNat * 2 + 1))]) (0 + (↑i : Int).toNat * 2 + 0))) (Value.int IntKind.i64 (↑i : Int)) s.ck s.E (mFind (TypeDesc.int IntKind.i64) (Value.int IntKind.i64 (intAt (splice (splice s.c (0 + (↑i : Int).toNat * 2) [Value.int IntKind.i64 (intAt s.c (0 + (↑j : Int).toNat * 2)), Value.int IntKind.i64 (intAt s.c (0 + (↑j : Int).toNat * 2 + 1))]) (0 + (↑j : Int).toNat * 2) [Value.int IntKind.i64 (intAt s.c (0 + (↑i : Int).toNat * 2)), Value.int IntKind.i64 (intAt s.c (0 + (↑i : Int).toNat * 2 + 1))]) (0 + (↑i : Int).toNat * 2 + 0))) s.E)) (mFind (TypeDesc.int IntKind.i64) (Value.int IntKind.i64 (intAt (splice (splice s.c (0 + (↑i : Int).toNat * 2) [Value.int IntKind.i64 (intAt s.c (0 + (↑j : Int).toNat * 2)), Value.int IntKind.i64 (intAt s.c (0 + (↑j : Int).toNat * 2 + 1))]) (0 + (↑j : Int).toNat * 2) [Value.int IntKind.i64 (intAt s.c (0 + (↑i : Int).toNat * 2)), Value.int IntKind.i64 (intAt s.c (0 + (↑i : Int).toNat * 2 + 1))]) (0 + (↑j : Int).toNat * 2 + 0))) (mPut (Value.int IntKind.i64 (intAt (splice (splice s.c (0 + (↑i : Int).toNat * 2) [Value.int IntKind.i64 (intAt s.c (0 + (↑j : Int).toNat * 2)), Value.int IntKind.i64 (intAt s.c (0 + (↑j : Int).toNat * 2 + 1))]) (0 + (↑j : Int).toNat * 2) [Value.int IntKind.i64 (intAt s.c (0 + (↑i : Int).toNat * 2)), Value.int IntKind.i64 (intAt s.c (0 + (↑i : Int).toNat * 2 + 1))]) (0 + (↑i : Int).toNat * 2 + 0))) (Value.int IntKind.i64 (↑i : Int)) s.ck s.E (mFind (TypeDesc.int IntKind.i64) (Value.int IntKind.i64 (intAt (splice (splice s.c (0 + (↑i : Int).toNat * 2) [Value.int IntKind.i64 (intAt s.c (0 + (↑j : Int).toNat * 2)), Value.int IntKind.i64 (intAt s.c (0 + (↑j : Int).toNat * 2 + 1))]) (0 + (↑j : Int).toNat * 2) [Value.int IntKind.i64 (intAt s.c (0 + (↑i : Int).toNat * 2)), Value.int IntKind.i64 (intAt s.c (0 + (↑i : Int).toNat * 2 + 1))]) (0 + (↑i : Int).toNat * 2 + 0))) s.E)))) (mClock (mClock s.ck (mFind (TypeDesc.int IntKind.i64) (Value.int IntKind.i64 (intAt (splice (splice s.c (0 + (↑i : Int).toNat * 2) [Value.int IntKind.i64 (intAt s.c (0 + (↑j : Int).toNat * 2)), Value.int IntKind.i64 (intAt s.c (0 + (↑j : Int).toNat * 2 + 1))]) (0 + (↑j : Int).toNat * 2) [Value.int IntKind.i64 (intAt s.c (0 + (↑i : Int).toNat * 2)), Value.int IntKind.i64 (intAt s.c (0 + (↑i : Int).toNat * 2 + 1))]) (0 + (↑i : Int).toNat * 2 + 0))) s.E)) (mFind (TypeDesc.int IntKind.i64) (Value.int IntKind.i64 (intAt (splice (splice s.c (0 + (↑i : Int).toNat * 2) [Value.int IntKind.i64 (intAt s.c (0 + (↑j : Int).toNat * 2)), Value.int IntKind.i64 (intAt s.c (0 + (↑j : Int).toNat * 2 + 1))]) (0 + (↑j : Int).toNat * 2) [Value.int IntKind.i64 (intAt s.c (0 + (↑i : Int).toNat * 2)), Value.int IntKind.i64 (intAt s.c (0 + (↑i : Int).toNat * 2 + 1))]) (0 + (↑j : Int).toNat * 2 + 0))) (mPut (Value.int IntKind.i64 (intAt (splice (splice s.c (0 + (↑i : Int).toNat * 2) [Value.int IntKind.i64 (intAt s.c (0 + (↑j : Int).toNat * 2)), Value.int IntKind.i64 (intAt s.c (0 + (↑j : Int).toNat * 2 + 1))]) (0 + (↑j : Int).toNat * 2) [Value.int IntKind.i64 (intAt s.c (0 + (↑i : Int).toNat * 2)), Value.int IntKind.i64 (intAt s.c (0 + (↑i : Int).toNat * 2 + 1))]) (0 + (↑i : Int).toNat * 2 + 0))) (Value.int IntKind.i64 (↑i : Int)) s.ck s.E (mFind (TypeDesc.int IntKind.i64) (Value.int IntKind.i64 (intAt (splice (splice s.c (0 + (↑i : Int).toNat * 2) [Value.int IntKind.i64 (intAt s.c (0 + (↑j : Int).toNat * 2)), Value.int IntKind.i64 (intAt s.c (0 + (↑j : Int).toNat * 2 + 1))]) (0 + (↑j : Int).toNat * 2) [Value.int IntKind.i64 (intAt s.c (0 + (↑i : Int).toNat * 2)), Value.int IntKind.i64 (intAt s.c (0 + (↑i : Int).toNat * 2 + 1))]) (0 + (↑i : Int).toNat * 2 + 0))) s.E)))) true)) nZ nZ) nZ) nZ) nZ) nZ) nZ) (nN none nZ (nN none nZ (nN none nZ (nN none nZ (nN (some (AObj.cells 58 [Value.func (Fn.func f) ⟨[]⟩ ⟨[]⟩, Value.int IntKind.i64 x, Value.slice (some ⟨127, 0, none⟩) n cap, Value.map (some 128)] true 2)) nZ nZ)))))), 129⟩)))))))))))))))))) : CallSpec η prog B 81 [Value.pointer (some ⟨126, 0, none⟩), Value.int IntKind.i64 (↑i : Int), Value.int IntKind.i64 (↑j : Int)] (H0 f x n cap s i j) D := by
  refine CallSpec.ofQF hη (CallSpec.enter (fr := (E f x n cap s i j).fr) (by kernel_rfl) ?_)
  exact walk_okT (h0 := H0 f x n cap s i j) hη hmix hreg (.steps 1 <| .reg <| .steps 15 <| .op <| .op <| .steps 5 <| .op <| .op <| .op <| .op <| .op <| .op <| .reg <| .steps 1 <| .reg <| .steps 9 <| .op <| .steps 1 <| .op <| .steps 1 <| .op <| .reg <| .reg <| .steps 9 <| .op <| .steps 1 <| .op <| .steps 1 <| .op <| .reg <| .steps 1 <| .done (some ⟨129, [], [(126, (126, false)), (127, (127, true)), (128, (128, true))]⟩)) (E f x n cap s i j) (by kernel_rfl) h (by kernel_rfl)
end KSwap
end Go.Ev

/- Queues: items and cells, places: plain mathematics. -/
namespace Go.Ev.HQ
set_option linter.unusedVariables false
set_option linter.unusedSimpArgs false
open Go Go.Ev
theorem its_len (g : Nat → Int × Int) : ∀ m, (its g m).length = m * 2
  | 0 => rfl
  | m + 1 => by unfold its; rw [List.length_append, its_len g m]; simp; omega
theorem its_get (g : Nat → Int × Int) : ∀ {m k : Nat}, k < m → (its g m)[k * 2]? = some (.int .i64 (g k).1) ∧ (its g m)[k * 2 + 1]? = some (.int .i64 (g k).2)
  | 0, k, h => by omega
  | m + 1, k, h => by
    unfold its
    rcases Nat.lt_or_ge k m with hk | hk
    · obtain ⟨h1, h2⟩ := its_get g hk
      have := its_len g m
      rw [List.getElem?_append_left (by omega), List.getElem?_append_left (by omega)]
      exact ⟨h1, h2⟩
    · have hk : k = m := by omega
      subst hk
      have := its_len g k
      rw [List.getElem?_append_right (by omega), List.getElem?_append_right (by omega), this, Nat.sub_self, Nat.add_sub_cancel_left]
      exact ⟨rfl, rfl⟩
theorem its_congr {g g' : Nat → Int × Int} : ∀ {m : Nat}, (∀ k, k < m → g k = g' k) → its g m = its g' m
  | 0, _ => rfl
  | m + 1, h => by unfold its; rw [its_congr (m := m) fun k hk => h k (by omega), h m (by omega)]
theorem its_bare (g : Nat → Int × Int) : ∀ m, (its g m).all bareV = true
  | 0 => rfl
  | m + 1 => by unfold its; rw [List.all_append, its_bare g m]; rfl
theorem its_nn (g : Nat → Int × Int) (m : Nat) : NoNames (its g m) := by
  intro v hv
  induction m with
  | zero => cases hv
  | succ m ih =>
    unfold its at hv
    rcases List.mem_append.1 hv with h | h
    · exact ih h
    · rcases List.mem_cons.1 h with rfl | h
      · rfl
      · rw [List.mem_singleton] at h; subst h; rfl
theorem its_int {g : Nat → Int × Int} {m k : Nat} (h : k < m) : intAt (its g m) (k * 2) = (g k).1 ∧ intAt (its g m) (k * 2 + 1) = (g k).2 := by
  obtain ⟨h1, h2⟩ := its_get g h
  unfold intAt
  rw [h1, h2]; exact ⟨rfl, rfl⟩
theorem its_cut {g : Nat → Int × Int} {m k : Nat} (h : k < m) : List.take 2 (List.drop (k * 2) (its g m)) = [.int .i64 (g k).1, .int .i64 (g k).2] := by
  obtain ⟨h1, h2⟩ := its_get g h
  have hl := its_len g m
  rw [List.drop_eq_getElem_cons (by omega), List.drop_eq_getElem_cons (by omega)]
  simp only [List.take_succ_cons, List.take_zero]
  rw [List.getElem?_eq_some_iff] at h1 h2
  obtain ⟨_, h1⟩ := h1
  obtain ⟨_, h2⟩ := h2
  rw [h1, h2]
theorem splice_get {c vs : List Value} {o : Nat} (h : o + vs.length ≤ c.length) (i : Nat) : (splice c o vs)[i]? = if i < o then c[i]? else if i < o + vs.length then vs[i - o]? else c[i]? := by
  unfold splice
  have h1 : (c.take o).length = o := by rw [List.length_take]; omega
  by_cases a : i < o
  · rw [if_pos a, List.append_assoc, List.getElem?_append_left (by omega), List.getElem?_take, if_pos a]
  · rw [if_neg a]
    by_cases b : i < o + vs.length
    · rw [if_pos b, List.getElem?_append_left (by rw [List.length_append]; omega), List.getElem?_append_right (by omega), h1]
    · rw [if_neg b, List.getElem?_append_right (by rw [List.length_append]; omega), List.length_append, h1, List.getElem?_drop]
      congr 1; omega
theorem splice_len {c vs : List Value} {o : Nat} (h : o + vs.length ≤ c.length) : (splice c o vs).length = c.length := by
  unfold splice
  simp only [List.length_append, List.length_take, List.length_drop]; omega
theorem its_ext {c : List Value} {g : Nat → Int × Int} {m : Nat} (hl : c.length = m * 2) (h : ∀ k, k < m → c[k * 2]? = some (.int .i64 (g k).1) ∧ c[k * 2 + 1]? = some (.int .i64 (g k).2)) : c = its g m := by
  apply List.ext_getElem?
  intro i
  rcases Nat.lt_or_ge i (m * 2) with hi | hi
  · obtain ⟨a1, a2⟩ := h (i / 2) (by omega)
    obtain ⟨b1, b2⟩ := its_get g (m := m) (k := i / 2) (by omega)
    rcases Nat.mod_two_eq_zero_or_one i with e | e
    · have e : i = i / 2 * 2 := by omega
      rw [e, a1, b1]
    · have e : i = i / 2 * 2 + 1 := by omega
      rw [e, a2, b2]
  · rw [List.getElem?_eq_none (by omega), List.getElem?_eq_none (by rw [its_len]; omega)]
theorem splice_its {g : Nat → Int × Int} {m k : Nat} (h : k < m) (a b : Int) : splice (its g m) (k * 2) [.int .i64 a, .int .i64 b] = its (upd g k (a, b)) m := by
  have hl := its_len g m
  have hb : k * 2 + [Value.int .i64 a, Value.int .i64 b].length ≤ (its g m).length := by simp only [List.length_cons, List.length_nil]; omega
  refine its_ext (by rw [splice_len hb, hl]) fun j hj => ?_
  rw [splice_get hb, splice_get hb]
  simp only [List.length_cons, List.length_nil]
  obtain ⟨h1, h2⟩ := its_get g hj
  unfold upd
  by_cases e : j = k
  · subst e
    have e1 : ¬ j * 2 < j * 2 := by omega
    have e2 : j * 2 < j * 2 + (0 + 1 + 1) := by omega
    have e3 : ¬ j * 2 + 1 < j * 2 := by omega
    have e4 : j * 2 + 1 < j * 2 + (0 + 1 + 1) := by omega
    rw [if_neg e1, if_pos e2, if_neg e3, if_pos e4, Nat.sub_self, Nat.add_sub_cancel_left]
    simp
  · rw [if_neg e]
    refine ⟨?_, ?_⟩
    · by_cases q : j * 2 < k * 2
      · rw [if_pos q]; exact h1
      · rw [if_neg q, if_neg (by omega)]; exact h1
    · by_cases q : j * 2 + 1 < k * 2
      · rw [if_pos q]; exact h2
      · rw [if_neg q, if_neg (by omega)]; exact h2
theorem swC_its {g : Nat → Int × Int} {m i j : Nat} (hi : i < m) (hj : j < m) : swC (its g m) i j = its (sw g i j) m := by
  unfold swC
  obtain ⟨a1, a2⟩ := its_int (g := g) hi
  obtain ⟨b1, b2⟩ := its_int (g := g) hj
  rw [a1, a2, b1, b2, splice_its hi, splice_its hj]
  rfl
theorem sw_at (g : Nat → Int × Int) (i j k : Nat) : sw g i j k = if k = j then g i else if k = i then g j else g k := rfl
/- places -/
theorem same_int (a b : Int) : Instr.sameNow (.int .i64) (.int .i64 a) (.int .i64 b) = some (a == b) := rfl
theorem find_int {k : Int} : ∀ {E : List MapEntry} {i : Nat}, intE E → ∃ r, Instr.findNow (.int .i64) (.int .i64 k) E i = some r
  | [], i, _ => ⟨none, rfl⟩
  | e :: E, i, h => by
    obtain ⟨a, x, h1, h2⟩ := h e (by simp)
    obtain ⟨r, hr⟩ := find_int (k := k) (E := E) (i := i + 1) fun e' he => h e' (by simp [he])
    unfold Instr.findNow
    rw [h1, same_int]
    cases (k == a) with
    | true => exact ⟨_, rfl⟩
    | false => exact ⟨r, hr⟩
theorem find_fE {k : Int} {E : List MapEntry} (h : intE E) : Instr.findNow (.int .i64) (.int .i64 k) E 0 = some (fE E k) := by
  obtain ⟨r, hr⟩ := find_int (k := k) (i := 0) h
  unfold fE mFind
  rw [hr]; rfl
theorem mod_int {f : MapEntry → MapEntry} (hf : ∀ e, (∃ k x : Int, e.key = .int .i64 k ∧ e.val = .int .i64 x) → ∃ k x : Int, (f e).key = .int .i64 k ∧ (f e).val = .int .i64 x) : ∀ {E : List MapEntry} {i : Nat}, intE E → intE (modEntry f E i)
  | [], _, h => h
  | e :: E, 0, h => by
    intro e' he
    unfold modEntry at he
    rcases List.mem_cons.1 he with rfl | he
    · exact hf e (h e (by simp))
    · exact h e' (by simp [he])
  | e :: E, i + 1, h => by
    intro e' he
    unfold modEntry at he
    rcases List.mem_cons.1 he with rfl | he
    · exact h _ (by simp)
    · exact mod_int hf (E := E) (i := i) (fun e'' h2 => h e'' (by simp [h2])) e' he
theorem put_int {E : List MapEntry} {k x : Int} {c : Nat} {q : Option (Nat × Value)} (h : intE E) : intE (mPut (.int .i64 k) (.int .i64 x) c E q) := by
  cases q with
  | some p => exact mod_int (fun e _ => ⟨k, x, rfl, rfl⟩) h
  | none =>
    intro e he
    rcases List.mem_append.1 he with he | he
    · exact h e he
    · rw [List.mem_singleton] at he; subst he; exact ⟨k, x, rfl, rfl⟩
theorem QS.place_int {s : QS} {k x : Int} (h : intE s.E) : intE (s.place k x).E := put_int h
theorem QS.swap_c {s : QS} {g : Nat → Int × Int} {m i j : Nat} (hs : s.c = its g m) (hi : i < m) (hj : j < m) : (s.swap i j).c = its (sw g i j) m := by
  show swC s.c i j = _
  rw [hs, swC_its hi hj]
theorem QS.swap_int {s : QS} {i j : Nat} (h : intE s.E) : intE (s.swap i j).E := put_int (put_int h)
theorem nn_int {E : List MapEntry} (h : intE E) : NoNamesE E := by
  intro e he
  obtain ⟨k, x, h1, h2⟩ := h e he
  rw [h1, h2]; exact ⟨rfl, rfl⟩
end Go.Ev.HQ

/- Contracts: says, compare, Less, Swap. -/
namespace Go.Ev
set_option linter.unusedVariables false
set_option linter.unusedSimpArgs false
open Go Go.Proofs Go.RowKit
variable {η : Nat → Value} {B : Bd}
namespace HQ
theorem gs9 : Try.prog.globals.size < 126 := of_decide_eq_true (by kernel_rfl)
theorem reg0 (hη : OneCells η) (hmix : Try.prog.follows .mixedOrders = true) : RegOk η Try.prog B noNest := regionA_ok hη hmix noNest_ok
def isOrd (f : Nat) : Prop := f = 20 ∨ f = 21
/-- A queue's values, as they stand somewhere. -/
def ValAt (h : AH) (v f : Nat) : Prop := ∃ a1 a2 a3 own, h.objs.get v = some (.cells 58 [.func (.func f) #[] #[], a1, a2, a3] true own) ∧ oneC a1 = true ∧ oneC a2 = true ∧ oneC a3 = true
theorem stands1 {h : AH} {v f : Nat} (k : ValAt h v f) : ∃ l', Stands h [.cells 58 [.func (.func f) #[] #[], .chan none, .chan none, .chan none] true 0] l' (fun _ => v) := by
  obtain ⟨a1, a2, a3, own, h1, o1, o2, o3⟩ := k
  refine ⟨[.cells _ [.func (.func f) #[] #[], a1, a2, a3] true own], ⟨fun i a' hi => ?_, .cons (.cells _ _ (.cons (rv_fn f) (.cons (.any rfl o1) (.cons (.any rfl o2) (.cons (.any rfl o3) .nil)))) (.inr ⟨rfl, rfl⟩)) .nil, fun i j hi hj _ => by simp at hi hj; omega⟩⟩
  cases i with
  | zero => simp at hi; subst hi; exact h1
  | succ i => simp at hi
theorem ptr126 (v : Nat) {N : Nat} {wk : Bool} (h : 126 < N) : RV (sigR fun _ => v) N wk (.pointer (some ⟨126, 0, none⟩)) (.pointer (some ⟨v, 0, none⟩)) := .ptr h
theorem max0 (a : Int) : (if (if True then decide (0 > a) else decide (0 < a)) = true then (0 : Int) else a) = max a 0 := by
  simp only [if_true, decide_eq_true_eq]
  split <;> omega
theorem says_ok (hη : OneCells η) (hmix : Try.prog.follows .mixedOrders = true) {f v : Nat} {h : AH} (hf : isOrd f) (hv : ValAt h v f) (a b : Int) :
    CallSpec η Try.prog B 37 [.pointer (some ⟨v, 0, none⟩), .int .i64 a, .int .i64 b] h (KT.ret (.bool (ordA f a b)) h).sat := by
  obtain ⟨l', hs⟩ := stands1 hv
  refine CallSpec.look hη gs9 (args := [.pointer (some ⟨126, 0, none⟩), .int .i64 a, .int .i64 b]) hs (fun a ha => by simp at ha; subst ha; rfl) (.cons (ptr126 v (Nat.lt_succ_self _)) (.cons (.int _ _) (.cons (.int _ _) .nil))) (fun _ _ => .bool _) ?_
  rcases hf with rfl | rfl
  · refine KSayT.enter hη hmix (reg0 hη hmix) _ _ ?_
    simp only [W.holds, true_and, max0]
    refine ⟨?_, rfl⟩
    unfold ordA
    rw [if_pos rfl, Int.tmod_eq_emod_of_nonneg (Int.le_max_right a 0), Int.tmod_eq_emod_of_nonneg (Int.le_max_right b 0)]
  · refine KSayL.enter hη hmix (reg0 hη hmix) _ _ ?_
    simp only [W.holds, true_and]
    refine ⟨?_, rfl⟩
    unfold ordA
    rw [if_neg (by decide)]
theorem cmp_ok (hη : OneCells η) (hmix : Try.prog.follows .mixedOrders = true) {f v : Nat} {H : AH} (hf : isOrd f) (hv : ValAt H v f) (u a k b : Int) :
    CallSpec η Try.prog B 27 [.pointer (some ⟨v, 0, none⟩), .agg ⟨[.int .i64 u, .int .i64 a]⟩, .agg ⟨[.int .i64 k, .int .i64 b]⟩] H (KT.ret (.int .i64 (cmpA f u a k b)) H).sat := by
  obtain ⟨l', hs⟩ := stands1 hv
  have agg2 : ∀ {σ N wk} (x y : Int), RV σ N wk (.agg ⟨[.int .i64 x, .int .i64 y]⟩) (.agg ⟨[.int .i64 x, .int .i64 y]⟩) := fun x y => .agg rfl fun i v w h1 h2 => by
    match i, h1, h2 with
    | 0, h1, h2 => simp at h1 h2; subst h1; subst h2; exact .int _ _
    | 1, h1, h2 => simp at h1 h2; subst h1; subst h2; exact .int _ _
    | i + 2, h1, h2 => simp at h1
  refine CallSpec.look hη gs9 (args := [.pointer (some ⟨126, 0, none⟩), .agg ⟨[.int .i64 u, .int .i64 a]⟩, .agg ⟨[.int .i64 k, .int .i64 b]⟩]) hs (fun a ha => by simp at ha; subst ha; rfl) (.cons (ptr126 v (Nat.lt_succ_self _)) (.cons (agg2 _ _) (.cons (agg2 _ _) .nil))) (fun _ _ => .int _ _) ?_
  refine KCmp.enter hη hmix (reg0 hη hmix) _ _ _ _ _ ?_
  have ok : ∀ {H : AH} (_ : H.objs.get 126 = some (.cells 58 [.func (.func f) #[] #[], .chan none, .chan none, .chan none] true 0)) (x y : Int), CallSpec η Try.prog B 37 [.pointer (some ⟨126, 0, none⟩), .int .i64 x, .int .i64 y] H (KT.ret (.bool (ordA f x y)) H).sat :=
    fun h x y => says_ok hη hmix hf ⟨_, _, _, _, h, rfl, rfl, rfl⟩ x y
  simp only [W.holds, true_and, and_true, true_implies, consM]
  have fin : ∀ z, z = cmpA f u a k b → Value.int IntKind.i64 z = .int .i64 (cmpA f u a k b) ∧ KCmp.H0 f u a k b = heapO [.cells 58 [.func (.func f) #[] #[], .chan none, .chan none, .chan none] true 0] := fun z e => ⟨by rw [e], rfl⟩
  refine ⟨ok (by kernel_rfl) a b, ok (by kernel_rfl) b a, fun e => ?_, fun _ => ⟨fun q => ⟨fun p => fin _ ?_, fun p => fin _ ?_⟩, fun q => ⟨fun p => absurd p (by simp), fun _ => ⟨fun p => absurd p (by simp), fun _ => ⟨fun p => fin _ ?_, fun p => ⟨fun r => fin _ ?_, fun r => fin _ ?_⟩⟩⟩⟩⟩⟩
  · simp only [List.cons.injEq, Value.int.injEq, true_and, and_true] at e
    rw [e.1]
  all_goals
    unfold cmpA
    simp only [beq_iff_eq, beq_eq_false_iff_ne, decide_eq_true_eq, decide_eq_false_iff_not, ne_eq, Bool.not_eq_false] at *
  · rw [if_pos (by rw [p]; simp [p] at q ⊢; exact q), if_pos p]
  · rw [if_pos (by rw [p]; simp [p] at q ⊢; exact q), if_neg (by rw [p]; simp)]
  · rw [if_neg (by simp [q]), if_pos p]
  · rw [if_neg (by simp [q]), if_neg p, if_pos r]
  · rw [if_neg (by simp [q]), if_neg p, if_neg r]
theorem less_ok (hη : OneCells η) (hmix : Try.prog.follows .mixedOrders = true) {f : Nat} {x : Int} {n cap : Nat} {s : QS} {g : Nat → Int × Int} {m i j : Nat} (hf : isOrd f) (hs : s.c = its g m) (hE : intE s.E) (hn : n ≤ m) (hi : i < n) (hj : j < n) :
    CallSpec η Try.prog B 78 [.pointer (some ⟨126, 0, none⟩), .int .i64 (i : Int), .int .i64 (j : Int)] (heapV f (.int .i64 x) n cap s) (KT.ret (.bool (lessC f s.c i j)) (heapV f (.int .i64 x) n cap s)).sat := by
  obtain ⟨c, E, ck⟩ := s
  simp only at hs hE
  subst hs
  have hl := its_len g m
  obtain ⟨a1, a2⟩ := its_int (g := g) (m := m) (k := i) (by omega)
  obtain ⟨b1, b2⟩ := its_int (g := g) (m := m) (k := j) (by omega)
  have ci := its_cut (g := g) (m := m) (k := i) (by omega)
  have cj := its_cut (g := g) (m := m) (k := j) (by omega)
  have fin : lessC f (its g m) i j = decide (cmpA f (g i).1 (g i).2 (g j).1 (g j).2 < 0) := by unfold lessC; rw [a1, a2, b1, b2]
  rw [fin]
  refine KLess.enter hη hmix (reg0 hη hmix) _ _ _ _ _ _ _ ?_
  simp only [W.holds, Nat.zero_add, Int.toNat_natCast, a1, a2, b1, b2, ci, cj, true_and, and_true, true_implies]
  exact ⟨⟨by omega, by omega⟩, fun _ => ⟨by omega, fun _ => ⟨⟨by omega, by omega⟩, fun _ => ⟨by omega, fun _ => ⟨cmp_ok hη hmix hf ⟨.int .i64 x, .slice (some ⟨127, 0, none⟩) n cap, .map (some 128), 2, by kernel_rfl, rfl, rfl, rfl⟩ _ _ _ _, ⟨its_nn g m, nn_int hE⟩, fun _ => ⟨rfl, by kernel_rfl⟩⟩⟩⟩⟩⟩
theorem swap_ok (hη : OneCells η) (hmix : Try.prog.follows .mixedOrders = true) {f : Nat} {x : Int} {n cap : Nat} {s : QS} {g : Nat → Int × Int} {m i j : Nat} (hs : s.c = its g m) (hE : intE s.E) (hn : n ≤ m) (hi : i < n) (hj : j < n) :
    CallSpec η Try.prog B 81 [.pointer (some ⟨126, 0, none⟩), .int .i64 (i : Int), .int .i64 (j : Int)] (heapV f (.int .i64 x) n cap s) (KT.ret undef (heapV f (.int .i64 x) n cap (s.swap i j))).sat := by
  obtain ⟨c, E, ck⟩ := s
  simp only at hs hE
  subst hs
  have hl := its_len g m
  obtain ⟨a1, a2⟩ := its_int (g := g) (m := m) (k := i) (by omega)
  obtain ⟨b1, b2⟩ := its_int (g := g) (m := m) (k := j) (by omega)
  have ci := its_cut (g := g) (m := m) (k := i) (by omega)
  have cj := its_cut (g := g) (m := m) (k := j) (by omega)
  have e1 := fun a b => splice_its (g := g) (m := m) (k := i) (by omega) a b
  have e2 := fun p a b => splice_its (g := upd g i p) (m := m) (k := j) (by omega) a b
  have fin : (QS.mk (its g m) E ck).swap i j = ((QS.mk (its (sw g i j) m) E ck).place (sw g i j i).1 i).place (sw g i j j).1 j := by
    unfold QS.swap
    simp only [swC_its (g := g) (m := m) (i := i) (j := j) (by omega) (by omega), (its_int (g := sw g i j) (m := m) (k := i) (by omega)).1, (its_int (g := sw g i j) (m := m) (k := j) (by omega)).1]
  have hsw : upd (upd g i ((g j).1, (g j).2)) j ((g i).1, (g i).2) = sw g i j := rfl
  have g1 := its_get (sw g i j) (m := m) (k := i) (by omega)
  have g2 := its_get (sw g i j) (m := m) (k := j) (by omega)
  have j1 := its_int (g := sw g i j) (m := m) (k := i) (by omega)
  have j2 := its_int (g := sw g i j) (m := m) (k := j) (by omega)
  have hl2 := its_len (upd g i ((g j).1, (g j).2)) m
  rw [fin]
  refine KSwap.enter hη hmix (reg0 hη hmix) _ _ _ _ _ _ _ ?_
  simp only [W.holds, Nat.zero_add, Nat.add_zero, Int.toNat_natCast, a1, a2, b1, b2, ci, cj, e1, e2, hsw, g1.1, g2.1, j1.1, j2.1, true_and, and_true, true_implies]
  have bi : (0 : Int) ≤ (i : Int) ∧ (i : Int) < (n : Int) := ⟨by omega, by omega⟩
  have bj : (0 : Int) ≤ (j : Int) ∧ (j : Int) < (n : Int) := ⟨by omega, by omega⟩
  exact ⟨bj, fun _ => ⟨by omega, fun _ => ⟨bi, fun _ => ⟨by omega, fun _ => ⟨bi, fun _ => ⟨by omega, fun _ => ⟨bj, fun _ => ⟨by omega, fun _ => ⟨bi, fun _ => ⟨find_fE hE, fun _ => ⟨bj, fun _ => ⟨find_fE (put_int hE), fun _ => ⟨⟨its_nn _ m, nn_int (put_int (put_int hE))⟩, fun _ => ⟨rfl, by kernel_rfl⟩⟩⟩⟩⟩⟩⟩⟩⟩⟩⟩⟩⟩⟩
end HQ
end Go.Ev

namespace Go.Ev
set_option linter.unusedVariables false
set_option linter.unusedSimpArgs false
open Go Go.Proofs
open Go.Ev.T renaming node → nN, nil → nZ
open Go.Proofs.Try (prog)
set_option maxRecDepth 100000
set_option maxHeartbeats 2000000
namespace KUp
set_option linter.unusedVariables false
noncomputable def bd : Code := (Go.Proofs.Try.f39.body).getD .skip
noncomputable def H0 (f : Nat) (x : Int) (n : Nat) (cap : Nat) (s : HQ.QS) (j : Nat) : AH := { objs := nN none (nN none (nN none (nN none (nN none (nN none (nN none (nN (some (AObj.cells 47 s.c false 2)) nZ nZ) nZ) nZ) nZ) nZ) nZ) nZ) (nN none (nN none (nN none (nN none (nN none (nN none (nN (some (AObj.map s.E s.ck true)) nZ nZ) nZ) nZ) nZ) nZ) nZ) (nN none nZ (nN none nZ (nN none nZ (nN none nZ (nN (some (AObj.cells 58 [Value.func (Fn.func f) ⟨[]⟩ ⟨[]⟩, Value.int IntKind.i64 x, Value.slice (some ⟨127, 0, none⟩) n cap, Value.map (some 128)] true 2)) nZ nZ)))))), next := 129 }
noncomputable def E (f : Nat) (x : Int) (n : Nat) (cap : Nat) (s : HQ.QS) (j : Nat) : AS := ⟨⟨39, 23, nN (some (Value.iface 52 (Value.pointer (some ⟨126, 0, none⟩)))) (nN (some (Value.int IntKind.i64 (↑j : Int))) nZ nZ) nZ, [Item.code (codeAt bd [])], [], FrameMode.run, CallKind.normal, none⟩, [], ⟨nN none (nN none (nN none (nN none (nN none (nN none (nN none (nN (some (AObj.cells 47 s.c false 2)) nZ nZ) nZ) nZ) nZ) nZ) nZ) nZ) (nN none (nN none (nN none (nN none (nN none (nN none (nN (some (AObj.map s.E s.ck true)) nZ nZ) nZ) nZ) nZ) nZ) nZ) (nN none nZ (nN none nZ (nN none nZ (nN none nZ (nN (some (AObj.cells 58 [Value.func (Fn.func f) ⟨[]⟩ ⟨[]⟩, Value.int IntKind.i64 x, Value.slice (some ⟨127, 0, none⟩) n cap, Value.map (some 128)] true 2)) nZ nZ)))))), 129⟩⟩
noncomputable def S0 (f : Nat) (x : Int) (n : Nat) (cap : Nat) (s : HQ.QS) (j : Nat) (i0 : Int) (l0 : List Value) (m0 : List MapEntry) (n0 : Nat) (d : Nat → Value) : AS := ⟨⟨39, 23, nN (some (Value.iface 52 (Value.pointer (some ⟨126, 0, none⟩)))) (nN (some (Value.int IntKind.i64 i0)) (nN (some (d 3)) (nN (some (d 7)) (nN (some (d 15)) nZ nZ) nZ) (nN (some (d 11)) (nN (some (d 19)) nZ nZ) nZ)) (nN (some (d 5)) (nN (some (d 9)) (nN (some (d 17)) nZ nZ) nZ) (nN (some (d 13)) (nN (some (d 21)) nZ nZ) nZ))) (nN (some (d 2)) (nN (some (d 4)) (nN (some (d 8)) (nN (some (d 16)) nZ nZ) nZ) (nN (some (d 12)) (nN (some (d 20)) nZ nZ) nZ)) (nN (some (d 6)) (nN (some (d 10)) (nN (some (d 18)) nZ nZ) nZ) (nN (some (d 14)) (nN (some (d 22)) nZ nZ) nZ))), [Item.code (codeAt bd [0, 0]), Item.inLoop (codeAt bd [0, 0]), Item.inBlock 0], [], FrameMode.run, CallKind.normal, none⟩, [], ⟨nN none (nN none (nN none (nN none (nN none (nN none (nN none (nN (some (AObj.cells 47 l0 false 2)) nZ nZ) nZ) nZ) nZ) nZ) nZ) nZ) (nN none (nN none (nN none (nN none (nN none (nN none (nN (some (AObj.map m0 n0 true)) nZ nZ) nZ) nZ) nZ) nZ) nZ) (nN none nZ (nN none nZ (nN none nZ (nN none nZ (nN (some (AObj.cells 58 [Value.func (Fn.func f) ⟨[]⟩ ⟨[]⟩, Value.int IntKind.i64 x, Value.slice (some ⟨127, 0, none⟩) n cap, Value.map (some 128)] true 2)) nZ nZ)))))), 129⟩⟩
theorem enter {η : Nat → Value} {B : Bd} (hη : OneCells η) (hmix : prog.follows .mixedOrders = true) (hreg : RegOk η prog B noNest) {D : Value → AH → Prop} (f : Nat) (x : Int) (n : Nat) (cap : Nat) (s : HQ.QS) (j : Nat) (h : W.holds η prog B 39 (fun kp_ st_ => RunD η prog B 39 (H0 f x n cap s j) kp_ st_ (QF prog 129 D)) D (.stop [0, 1] (S0 f x n cap s j ((↑j : Int)) (s.c) (s.E) (s.ck) (fun _ => undef)))) : CallSpec η prog B 39 [Value.iface 52 (Value.pointer (some ⟨126, 0, none⟩)), Value.int IntKind.i64 (↑j : Int)] (H0 f x n cap s j) D := by
  refine CallSpec.ofQF hη (CallSpec.enter (fr := (E f x n cap s j).fr) (by kernel_rfl) ?_)
  exact walk_okT (h0 := H0 f x n cap s j) hη hmix hreg (.steps 2 <| .stop [0, 1] none) (E f x n cap s j) (by kernel_rfl) h (by kernel_rfl)
noncomputable abbrev hcut0_1 (f : Nat) (x : Int) (n : Nat) (cap : Nat) (l0 : List Value) (m0 : List MapEntry) (n0 : Nat) : AH := ⟨nN none (nN none (nN none (nN none (nN none (nN none (nN none (nN (some (AObj.cells 47 l0 false 2)) nZ nZ) nZ) nZ) nZ) nZ) nZ) nZ) (nN none (nN none (nN none (nN none (nN none (nN none (nN (some (AObj.map m0 n0 true)) nZ nZ) nZ) nZ) nZ) nZ) nZ) (nN none nZ (nN none nZ (nN none nZ (nN none nZ (nN (some (AObj.cells 58 [Value.func (Fn.func f) ⟨[]⟩ ⟨[]⟩, Value.int IntKind.i64 x, Value.slice (some ⟨127, 0, none⟩) n cap, Value.map (some 128)] true 2)) nZ nZ)))))), 129⟩
theorem cut0 {η : Nat → Value} {B : Bd} (hη : OneCells η) (hmix : prog.follows .mixedOrders = true) (hreg : RegOk η prog B noNest) {D : Value → AH → Prop} (f : Nat) (x : Int) (n : Nat) (cap : Nat) (s : HQ.QS) (j : Nat) (i0 : Int) (l0 : List Value) (m0 : List MapEntry) (n0 : Nat) (h : W.holds η prog B 39 (fun kp_ st_ => RunD η prog B 39 (H0 f x n cap s j) kp_ st_ (QF prog 129 D)) D (.ite (IntKind.i64.wrap ((IntKind.i64.wrap (i0 - (1 : Int))).tdiv (2 : Int)) == i0) (.done 39 (undef) ((hcut0_1 f x n cap l0 m0 n0))) (.call 78 [Value.pointer (some ⟨126, 0, none⟩), Value.int IntKind.i64 i0, Value.int IntKind.i64 (IntKind.i64.wrap ((IntKind.i64.wrap (i0 - 1)).tdiv 2))] ((hcut0_1 f x n cap l0 m0 n0)) (.ret (Value.bool (HQ.lessC f l0 i0.toNat (IntKind.i64.wrap ((IntKind.i64.wrap (i0 - 1)).tdiv 2)).toNat)) ((hcut0_1 f x n cap l0 m0 n0))) (.ite (!HQ.lessC f l0 i0.toNat (IntKind.i64.wrap ((IntKind.i64.wrap (i0 - (1 : Int))).tdiv (2 : Int))).toNat) (.done 39 (undef) ((hcut0_1 f x n cap l0 m0 n0))) (.call 81 [Value.pointer (some ⟨126, 0, none⟩), Value.int IntKind.i64 (IntKind.i64.wrap ((IntKind.i64.wrap (i0 - 1)).tdiv 2)), Value.int IntKind.i64 i0] ((hcut0_1 f x n cap l0 m0 n0)) (.ret (undef) (⟨nN none (nN none (nN none (nN none (nN none (nN none (nN none (nN (some (AObj.cells 47 ((HQ.QS.mk (l0) (m0) (n0)).swap (IntKind.i64.wrap ((IntKind.i64.wrap (i0 - 1)).tdiv 2)).toNat i0.toNat).c false 2)) nZ nZ) nZ) nZ) nZ) nZ) nZ) nZ) (nN none (nN none (nN none (nN none (nN none (nN none (nN (some (AObj.map ((HQ.QS.mk (l0) (m0) (n0)).swap (IntKind.i64.wrap ((IntKind.i64.wrap (i0 - 1)).tdiv 2)).toNat i0.toNat).E ((HQ.QS.mk (l0) (m0) (n0)).swap (IntKind.i64.wrap ((IntKind.i64.wrap (i0 - 1)).tdiv 2)).toNat i0.toNat).ck true)) nZ nZ) nZ) nZ) nZ) nZ) nZ) (nN none nZ (nN none nZ (nN none nZ (nN none nZ (nN (some (AObj.cells 58 [Value.func (Fn.func f) ⟨[]⟩ ⟨[]⟩, Value.int IntKind.i64 x, Value.slice (some ⟨127, 0, none⟩) n cap, Value.map (some 128)] true 2)) nZ nZ)))))), 129⟩)) (.stop [0, 1] (S0 f x n cap s j (IntKind.i64.wrap ((IntKind.i64.wrap (i0 - 1)).tdiv 2)) (((HQ.QS.mk (l0) (m0) (n0)).swap (IntKind.i64.wrap ((IntKind.i64.wrap (i0 - 1)).tdiv 2)).toNat i0.toNat).c) (((HQ.QS.mk (l0) (m0) (n0)).swap (IntKind.i64.wrap ((IntKind.i64.wrap (i0 - 1)).tdiv 2)).toNat i0.toNat).E) (((HQ.QS.mk (l0) (m0) (n0)).swap (IntKind.i64.wrap ((IntKind.i64.wrap (i0 - 1)).tdiv 2)).toNat i0.toNat).ck) (fun _ => undef)))))))) : RunD η prog B 39 (H0 f x n cap s j) [0, 1] (S0 f x n cap s j i0 l0 m0 n0 fun _ => undef) (QF prog 129 D) := by
  refine RunD.intro (S0 f x n cap s j i0 l0 m0 n0) (fun d => ⟨rfl, rfl, rfl⟩) (fun d => tmOk_get (by kernel_rfl)) (fun d => by kernel_rfl) (fun d => ?_)
  exact walk_okT (h0 := H0 f x n cap s j) hη hmix hreg (.steps 15 <| .bit 11 (.steps 10 <| .done none) (.steps 3 <| .call kN <| .steps 3 <| .bit 17 (.steps 3 <| .done none) (.steps 7 <| .call kN <| .steps 7 <| .stop [0, 1] none))) (S0 f x n cap s j i0 l0 m0 n0 d) (by kernel_rfl) h (by kernel_rfl)
end KUp
namespace KDown
set_option linter.unusedVariables false
noncomputable def bd : Code := (Go.Proofs.Try.f34.body).getD .skip
noncomputable def H0 (f : Nat) (x : Int) (n : Nat) (cap : Nat) (s : HQ.QS) (i : Nat) (k : Nat) : AH := { objs := nN none (nN none (nN none (nN none (nN none (nN none (nN none (nN (some (AObj.cells 47 s.c false 2)) nZ nZ) nZ) nZ) nZ) nZ) nZ) nZ) (nN none (nN none (nN none (nN none (nN none (nN none (nN (some (AObj.map s.E s.ck true)) nZ nZ) nZ) nZ) nZ) nZ) nZ) (nN none nZ (nN none nZ (nN none nZ (nN none nZ (nN (some (AObj.cells 58 [Value.func (Fn.func f) ⟨[]⟩ ⟨[]⟩, Value.int IntKind.i64 x, Value.slice (some ⟨127, 0, none⟩) n cap, Value.map (some 128)] true 2)) nZ nZ)))))), next := 129 }
noncomputable def E (f : Nat) (x : Int) (n : Nat) (cap : Nat) (s : HQ.QS) (i : Nat) (k : Nat) : AS := ⟨⟨34, 48, nN (some (Value.iface 52 (Value.pointer (some ⟨126, 0, none⟩)))) (nN (some (Value.int IntKind.i64 (↑i : Int))) nZ nZ) (nN (some (Value.int IntKind.i64 (↑k : Int))) nZ nZ), [Item.code (codeAt bd [])], [], FrameMode.run, CallKind.normal, none⟩, [], ⟨nN none (nN none (nN none (nN none (nN none (nN none (nN none (nN (some (AObj.cells 47 s.c false 2)) nZ nZ) nZ) nZ) nZ) nZ) nZ) nZ) (nN none (nN none (nN none (nN none (nN none (nN none (nN (some (AObj.map s.E s.ck true)) nZ nZ) nZ) nZ) nZ) nZ) nZ) (nN none nZ (nN none nZ (nN none nZ (nN none nZ (nN (some (AObj.cells 58 [Value.func (Fn.func f) ⟨[]⟩ ⟨[]⟩, Value.int IntKind.i64 x, Value.slice (some ⟨127, 0, none⟩) n cap, Value.map (some 128)] true 2)) nZ nZ)))))), 129⟩⟩
noncomputable def S0 (f : Nat) (x : Int) (n : Nat) (cap : Nat) (s : HQ.QS) (i : Nat) (k : Nat) (i0 : Int) (l0 : List Value) (m0 : List MapEntry) (n0 : Nat) (d : Nat → Value) : AS := ⟨⟨34, 48, nN (some (Value.iface 52 (Value.pointer (some ⟨126, 0, none⟩)))) (nN (some (Value.int IntKind.i64 (↑i : Int))) (nN (some (d 3)) (nN (some (Value.int IntKind.i64 i0)) (nN (some (d 15)) (nN (some (d 31)) nZ nZ) (nN (some (d 47)) nZ nZ)) (nN (some (d 23)) (nN (some (d 39)) nZ nZ) nZ)) (nN (some (d 11)) (nN (some (d 19)) (nN (some (d 35)) nZ nZ) nZ) (nN (some (d 27)) (nN (some (d 43)) nZ nZ) nZ))) (nN (some (d 5)) (nN (some (d 9)) (nN (some (d 17)) (nN (some (d 33)) nZ nZ) nZ) (nN (some (d 25)) (nN (some (d 41)) nZ nZ) nZ)) (nN (some (d 13)) (nN (some (d 21)) (nN (some (d 37)) nZ nZ) nZ) (nN (some (d 29)) (nN (some (d 45)) nZ nZ) nZ)))) (nN (some (Value.int IntKind.i64 (↑k : Int))) (nN (some (d 4)) (nN (some (d 8)) (nN (some (d 16)) (nN (some (d 32)) nZ nZ) nZ) (nN (some (d 24)) (nN (some (d 40)) nZ nZ) nZ)) (nN (some (d 12)) (nN (some (d 20)) (nN (some (d 36)) nZ nZ) nZ) (nN (some (d 28)) (nN (some (d 44)) nZ nZ) nZ))) (nN (some (d 6)) (nN (some (d 10)) (nN (some (d 18)) (nN (some (d 34)) nZ nZ) nZ) (nN (some (d 26)) (nN (some (d 42)) nZ nZ) nZ)) (nN (some (d 14)) (nN (some (d 22)) (nN (some (d 38)) nZ nZ) nZ) (nN (some (d 30)) (nN (some (d 46)) nZ nZ) nZ)))), [Item.code (codeAt bd [1, 1, 0, 0, 0]), Item.inLoop (codeAt bd [1, 1, 0, 0, 0]), Item.inBlock 0, Item.code (codeAt bd [1, 1, 1])], [], FrameMode.run, CallKind.normal, none⟩, [], ⟨nN none (nN none (nN none (nN none (nN none (nN none (nN none (nN (some (AObj.cells 47 l0 false 2)) nZ nZ) nZ) nZ) nZ) nZ) nZ) nZ) (nN none (nN none (nN none (nN none (nN none (nN none (nN (some (AObj.map m0 n0 true)) nZ nZ) nZ) nZ) nZ) nZ) nZ) (nN none nZ (nN none nZ (nN none nZ (nN none nZ (nN (some (AObj.cells 58 [Value.func (Fn.func f) ⟨[]⟩ ⟨[]⟩, Value.int IntKind.i64 x, Value.slice (some ⟨127, 0, none⟩) n cap, Value.map (some 128)] true 2)) nZ nZ)))))), 129⟩⟩
theorem enter {η : Nat → Value} {B : Bd} (hη : OneCells η) (hmix : prog.follows .mixedOrders = true) (hreg : RegOk η prog B noNest) {D : Value → AH → Prop} (f : Nat) (x : Int) (n : Nat) (cap : Nat) (s : HQ.QS) (i : Nat) (k : Nat) (h : W.holds η prog B 34 (fun kp_ st_ => RunD η prog B 34 (H0 f x n cap s i k) kp_ st_ (QF prog 129 D)) D (.stop [0, 1, 2, 7] (S0 f x n cap s i k ((↑i : Int)) (s.c) (s.E) (s.ck) (fun _ => undef)))) : CallSpec η prog B 34 [Value.iface 52 (Value.pointer (some ⟨126, 0, none⟩)), Value.int IntKind.i64 (↑i : Int), Value.int IntKind.i64 (↑k : Int)] (H0 f x n cap s i k) D := by
  refine CallSpec.ofQF hη (CallSpec.enter (fr := (E f x n cap s i k).fr) (by kernel_rfl) ?_)
  exact walk_okT (h0 := H0 f x n cap s i k) hη hmix hreg (.steps 12 <| .stop [0, 1, 2, 7] none) (E f x n cap s i k) (by kernel_rfl) h (by kernel_rfl)
noncomputable abbrev hcut0_1 (f : Nat) (x : Int) (n : Nat) (cap : Nat) (i0 : Int) (l0 : List Value) (m0 : List MapEntry) (n0 : Nat) : AH := ⟨nN none (nN none (nN none (nN none (nN none (nN none (nN none (nN (some (AObj.cells 47 ((HQ.QS.mk (l0) (m0) (n0)).swap i0.toNat (IntKind.i64.wrap (IntKind.i64.wrap (2 * i0) + 1)).toNat).c false 2)) nZ nZ) nZ) nZ) nZ) nZ) nZ) nZ) (nN none (nN none (nN none (nN none (nN none (nN none (nN (some (AObj.map ((HQ.QS.mk (l0) (m0) (n0)).swap i0.toNat (IntKind.i64.wrap (IntKind.i64.wrap (2 * i0) + 1)).toNat).E ((HQ.QS.mk (l0) (m0) (n0)).swap i0.toNat (IntKind.i64.wrap (IntKind.i64.wrap (2 * i0) + 1)).toNat).ck true)) nZ nZ) nZ) nZ) nZ) nZ) nZ) (nN none nZ (nN none nZ (nN none nZ (nN none nZ (nN (some (AObj.cells 58 [Value.func (Fn.func f) ⟨[]⟩ ⟨[]⟩, Value.int IntKind.i64 x, Value.slice (some ⟨127, 0, none⟩) n cap, Value.map (some 128)] true 2)) nZ nZ)))))), 129⟩
noncomputable abbrev hcut0_2 (f : Nat) (x : Int) (n : Nat) (cap : Nat) (l0 : List Value) (m0 : List MapEntry) (n0 : Nat) : AH := ⟨nN none (nN none (nN none (nN none (nN none (nN none (nN none (nN (some (AObj.cells 47 l0 false 2)) nZ nZ) nZ) nZ) nZ) nZ) nZ) nZ) (nN none (nN none (nN none (nN none (nN none (nN none (nN (some (AObj.map m0 n0 true)) nZ nZ) nZ) nZ) nZ) nZ) nZ) (nN none nZ (nN none nZ (nN none nZ (nN none nZ (nN (some (AObj.cells 58 [Value.func (Fn.func f) ⟨[]⟩ ⟨[]⟩, Value.int IntKind.i64 x, Value.slice (some ⟨127, 0, none⟩) n cap, Value.map (some 128)] true 2)) nZ nZ)))))), 129⟩
theorem cut0 {η : Nat → Value} {B : Bd} (hη : OneCells η) (hmix : prog.follows .mixedOrders = true) (hreg : RegOk η prog B noNest) {D : Value → AH → Prop} (f : Nat) (x : Int) (n : Nat) (cap : Nat) (s : HQ.QS) (i : Nat) (k : Nat) (i0 : Int) (l0 : List Value) (m0 : List MapEntry) (n0 : Nat) (h : W.holds η prog B 34 (fun kp_ st_ => RunD η prog B 34 (H0 f x n cap s i k) kp_ st_ (QF prog 129 D)) D (.ite (decide (IntKind.i64.wrap (IntKind.i64.wrap ((2 : Int) * i0) + (1 : Int)) ≥ (↑k : Int))) (.done 34 (Value.bool (decide (i0 > (↑i : Int)))) ((hcut0_2 f x n cap l0 m0 n0))) (.ite (decide (IntKind.i64.wrap (IntKind.i64.wrap ((2 : Int) * i0) + (1 : Int)) < (0 : Int))) (.done 34 (Value.bool (decide (i0 > (↑i : Int)))) ((hcut0_2 f x n cap l0 m0 n0))) (.ite (decide (IntKind.i64.wrap (IntKind.i64.wrap (IntKind.i64.wrap ((2 : Int) * i0) + (1 : Int)) + (1 : Int)) < (↑k : Int))) (.call 78 [Value.pointer (some ⟨126, 0, none⟩), Value.int IntKind.i64 (IntKind.i64.wrap (IntKind.i64.wrap (IntKind.i64.wrap (2 * i0) + 1) + 1)), Value.int IntKind.i64 (IntKind.i64.wrap (IntKind.i64.wrap (2 * i0) + 1))] ((hcut0_2 f x n cap l0 m0 n0)) (.ret (Value.bool (HQ.lessC f l0 (IntKind.i64.wrap (IntKind.i64.wrap (IntKind.i64.wrap (2 * i0) + 1) + 1)).toNat (IntKind.i64.wrap (IntKind.i64.wrap (2 * i0) + 1)).toNat)) ((hcut0_2 f x n cap l0 m0 n0))) (.ite (HQ.lessC f l0 (IntKind.i64.wrap (IntKind.i64.wrap (IntKind.i64.wrap ((2 : Int) * i0) + (1 : Int)) + (1 : Int))).toNat (IntKind.i64.wrap (IntKind.i64.wrap ((2 : Int) * i0) + (1 : Int))).toNat) (.call 78 [Value.pointer (some ⟨126, 0, none⟩), Value.int IntKind.i64 (IntKind.i64.wrap (IntKind.i64.wrap (IntKind.i64.wrap (2 * i0) + 1) + 1)), Value.int IntKind.i64 i0] ((hcut0_2 f x n cap l0 m0 n0)) (.ret (Value.bool (HQ.lessC f l0 (IntKind.i64.wrap (IntKind.i64.wrap (IntKind.i64.wrap (2 * i0) + 1) + 1)).toNat i0.toNat)) ((hcut0_2 f x n cap l0 m0 n0))) (.ite (!HQ.lessC f l0 (IntKind.i64.wrap (IntKind.i64.wrap (IntKind.i64.wrap ((2 : Int) * i0) + (1 : Int)) + (1 : Int))).toNat i0.toNat) (.done 34 (Value.bool (decide (i0 > (↑i : Int)))) ((hcut0_2 f x n cap l0 m0 n0))) (.call 81 [Value.pointer (some ⟨126, 0, none⟩), Value.int IntKind.i64 i0, Value.int IntKind.i64 (IntKind.i64.wrap (IntKind.i64.wrap (IntKind.i64.wrap (2 * i0) + 1) + 1))] ((hcut0_2 f x n cap l0 m0 n0)) (.ret (undef) (⟨nN none (nN none (nN none (nN none (nN none (nN none (nN none (nN (some (AObj.cells 47 ((HQ.QS.mk (l0) (m0) (n0)).swap i0.toNat (IntKind.i64.wrap (IntKind.i64.wrap (IntKind.i64.wrap (2 * i0) + 1) + 1)).toNat).c false 2)) nZ nZ) nZ) nZ) nZ) nZ) nZ) nZ) (nN none (nN none (nN none (nN none (nN none (nN none (nN (some (AObj.map ((HQ.QS.mk (l0) (m0) (n0)).swap i0.toNat (IntKind.i64.wrap (IntKind.i64.wrap (IntKind.i64.wrap (2 * i0) + 1) + 1)).toNat).E ((HQ.QS.mk (l0) (m0) (n0)).swap i0.toNat (IntKind.i64.wrap (IntKind.i64.wrap (IntKind.i64.wrap (2 * i0) + 1) + 1)).toNat).ck true)) nZ nZ) nZ) nZ) nZ) nZ) nZ) (nN none nZ (nN none nZ (nN none nZ (nN none nZ (nN (some (AObj.cells 58 [Value.func (Fn.func f) ⟨[]⟩ ⟨[]⟩, Value.int IntKind.i64 x, Value.slice (some ⟨127, 0, none⟩) n cap, Value.map (some 128)] true 2)) nZ nZ)))))), 129⟩)) (.stop [0, 1, 2, 7] (S0 f x n cap s i k (IntKind.i64.wrap (IntKind.i64.wrap (IntKind.i64.wrap (2 * i0) + 1) + 1)) (((HQ.QS.mk (l0) (m0) (n0)).swap i0.toNat (IntKind.i64.wrap (IntKind.i64.wrap (IntKind.i64.wrap (2 * i0) + 1) + 1)).toNat).c) (((HQ.QS.mk (l0) (m0) (n0)).swap i0.toNat (IntKind.i64.wrap (IntKind.i64.wrap (IntKind.i64.wrap (2 * i0) + 1) + 1)).toNat).E) (((HQ.QS.mk (l0) (m0) (n0)).swap i0.toNat (IntKind.i64.wrap (IntKind.i64.wrap (IntKind.i64.wrap (2 * i0) + 1) + 1)).toNat).ck) (fun _ => undef)))))) (.call 78 [Value.pointer (some ⟨126, 0, none⟩), Value.int IntKind.i64 (IntKind.i64.wrap (IntKind.i64.wrap (2 * i0) + 1)), Value.int IntKind.i64 i0] ((hcut0_2 f x n cap l0 m0 n0)) (.ret (Value.bool (HQ.lessC f l0 (IntKind.i64.wrap (IntKind.i64.wrap (2 * i0) + 1)).toNat i0.toNat)) ((hcut0_2 f x n cap l0 m0 n0))) (.ite (!HQ.lessC f l0 (IntKind.i64.wrap (IntKind.i64.wrap ((2 : Int) * i0) + (1 : Int))).toNat i0.toNat) (.done 34 (Value.bool (decide (i0 > (↑i : Int)))) ((hcut0_2 f x n cap l0 m0 n0))) (.call 81 [Value.pointer (some ⟨126, 0, none⟩), Value.int IntKind.i64 i0, Value.int IntKind.i64 (IntKind.i64.wrap (IntKind.i64.wrap (2 * i0) + 1))] ((hcut0_2 f x n cap l0 m0 n0)) (.ret (undef) ((hcut0_1 f x n cap i0 l0 m0 n0))) (.stop [0, 1, 2, 7] (S0 f x n cap s i k (IntKind.i64.wrap (IntKind.i64.wrap (2 * i0) + 1)) (((HQ.QS.mk (l0) (m0) (n0)).swap i0.toNat (IntKind.i64.wrap (IntKind.i64.wrap (2 * i0) + 1)).toNat).c) (((HQ.QS.mk (l0) (m0) (n0)).swap i0.toNat (IntKind.i64.wrap (IntKind.i64.wrap (2 * i0) + 1)).toNat).E) (((HQ.QS.mk (l0) (m0) (n0)).swap i0.toNat (IntKind.i64.wrap (IntKind.i64.wrap (2 * i0) + 1)).toNat).ck) (fun _ => undef)))))))) (.call 78 [Value.pointer (some ⟨126, 0, none⟩), Value.int IntKind.i64 (IntKind.i64.wrap (IntKind.i64.wrap (2 * i0) + 1)), Value.int IntKind.i64 i0] ((hcut0_2 f x n cap l0 m0 n0)) (.ret (Value.bool (HQ.lessC f l0 (IntKind.i64.wrap (IntKind.i64.wrap (2 * i0) + 1)).toNat i0.toNat)) ((hcut0_2 f x n cap l0 m0 n0))) (.ite (!HQ.lessC f l0 (IntKind.i64.wrap (IntKind.i64.wrap ((2 : Int) * i0) + (1 : Int))).toNat i0.toNat) (.done 34 (Value.bool (decide (i0 > (↑i : Int)))) ((hcut0_2 f x n cap l0 m0 n0))) (.call 81 [Value.pointer (some ⟨126, 0, none⟩), Value.int IntKind.i64 i0, Value.int IntKind.i64 (IntKind.i64.wrap (IntKind.i64.wrap (2 * i0) + 1))] ((hcut0_2 f x n cap l0 m0 n0)) (.ret (undef) ((hcut0_1 f x n cap i0 l0 m0 n0))) (.stop [0, 1, 2, 7] (S0 f x n cap s i k (IntKind.i64.wrap (IntKind.i64.wrap (2 * i0) + 1)) (((HQ.QS.mk (l0) (m0) (n0)).swap i0.toNat (IntKind.i64.wrap (IntKind.i64.wrap (2 * i0) + 1)).toNat).c) (((HQ.QS.mk (l0) (m0) (n0)).swap i0.toNat (IntKind.i64.wrap (IntKind.i64.wrap (2 * i0) + 1)).toNat).E) (((HQ.QS.mk (l0) (m0) (n0)).swap i0.toNat (IntKind.i64.wrap (IntKind.i64.wrap (2 * i0) + 1)).toNat).ck) (fun _ => undef)))))))))) : RunD η prog B 34 (H0 f x n cap s i k) [0, 1, 2, 7] (S0 f x n cap s i k i0 l0 m0 n0 fun _ => undef) (QF prog 129 D) := by
  refine RunD.intro (S0 f x n cap s i k i0 l0 m0 n0) (fun d => ⟨rfl, rfl, rfl⟩) (fun d => tmOk_get (by kernel_rfl)) (fun d => by kernel_rfl) (fun d => ?_)
  exact walk_okT (h0 := H0 f x n cap s i k) hη hmix hreg (.steps 15 <| .bit 18 (.steps 14 <| .done none) (.steps 4 <| .bit 21 (.steps 10 <| .done none) (.steps 20 <| .bit 28 (.steps 3 <| .call kN <| .steps 2 <| .bit 33 (.steps 11 <| .call kN <| .steps 2 <| .bit 39 (.steps 10 <| .done none) (.steps 7 <| .call kN <| .steps 7 <| .stop [0, 1, 2, 7] none)) (.steps 8 <| .call kN <| .steps 2 <| .bit 39 (.steps 10 <| .done none) (.steps 7 <| .call kN <| .steps 7 <| .stop [0, 1, 2, 7] none))) (.steps 14 <| .call kN <| .steps 2 <| .bit 39 (.steps 10 <| .done none) (.steps 7 <| .call kN <| .steps 7 <| .stop [0, 1, 2, 7] none))))) (S0 f x n cap s i k i0 l0 m0 n0 d) (by kernel_rfl) h (by kernel_rfl)
end KDown
end Go.Ev

/- Contracts: up, down. -/
namespace Go.Ev
set_option linter.unusedVariables false
set_option linter.unusedSimpArgs false
open Go Go.Proofs Go.RowKit
variable {η : Nat → Value} {B : Bd}
namespace HQ
theorem less_at (hη : OneCells η) (hmix : Try.prog.follows .mixedOrders = true) {f : Nat} {x : Int} {n cap : Nat} {s : QS} {g : Nat → Int × Int} {m i j : Nat} {H : AH} (e : H = heapV f (.int .i64 x) n cap s) (hf : isOrd f) (hs : s.c = its g m) (hE : intE s.E) (hn : n ≤ m) (hi : i < n) (hj : j < n) :
    CallSpec η Try.prog B 78 [.pointer (some ⟨126, 0, none⟩), .int .i64 (i : Int), .int .i64 (j : Int)] H (KT.ret (.bool (lessC f s.c i j)) H).sat := by
  subst e; exact less_ok hη hmix hf hs hE hn hi hj
theorem swap_at (hη : OneCells η) (hmix : Try.prog.follows .mixedOrders = true) {f : Nat} {x : Int} {n cap : Nat} {s : QS} {g : Nat → Int × Int} {m i j : Nat} {H H' : AH} (e : H = heapV f (.int .i64 x) n cap s) (e' : H' = heapV f (.int .i64 x) n cap (s.swap i j)) (hs : s.c = its g m) (hE : intE s.E) (hn : n ≤ m) (hi : i < n) (hj : j < n) :
    CallSpec η Try.prog B 81 [.pointer (some ⟨126, 0, none⟩), .int .i64 (i : Int), .int .i64 (j : Int)] H (KT.ret undef H').sat := by
  subst e; subst e'; exact swap_ok hη hmix hs hE hn hi hj
theorem par {j : Nat} (h : j ≤ 1000000000) : IntKind.i64.wrap ((IntKind.i64.wrap ((j : Int) - 1)).tdiv 2) = (((j - 1) / 2 : Nat) : Int) := by
  cases j with
  | zero => decide
  | succ j =>
    have h1 : IntKind.i64.wrap (j : Int) = (j : Int) := wrap_small (by omega) (by omega)
    have h2 : IntKind.i64.wrap ((j : Int) / 2) = (j : Int) / 2 := wrap_small (by omega) (by omega)
    rw [show (((j + 1 : Nat) : Int) - 1) = (j : Int) by omega, h1, Int.tdiv_eq_ediv_of_nonneg (by omega), h2]
    omega
set_option maxRecDepth 20000 in
theorem up_ok (hη : OneCells η) (hmix : Try.prog.follows .mixedOrders = true) {f : Nat} {x : Int} {n cap : Nat} {s : QS} {g : Nat → Int × Int} {m j : Nat} (hf : isOrd f) (hs : s.c = its g m) (hE : intE s.E) (hn : n ≤ m) (hj : j < n) (hm : n ≤ 1000000) :
    CallSpec η Try.prog B 39 [.iface 52 (.pointer (some ⟨126, 0, none⟩)), .int .i64 (j : Int)] (heapV f (.int .i64 x) n cap s) (KT.ret undef (heapV f (.int .i64 x) n cap (s.up f (j + 1) j))).sat := by
  generalize hR : s.up f (j + 1) j = R
  have cut := fun i0 l0 m0 n0 => KUp.cut0 (η := η) (B := B) (D := (KT.ret undef (heapV f (.int .i64 x) n cap R)).sat) hη hmix (reg0 hη hmix) f x n cap s j i0 l0 m0 n0
  have loop : ∀ (k i : Nat) (t : QS) (g : Nat → Int × Int), i < k → i < n → t.c = its g m → intE t.E → t.up f k i = R → RunD η Try.prog B 39 (KUp.H0 f x n cap s j) [0, 1] (KUp.S0 f x n cap s j (i : Int) t.c t.E t.ck fun _ => undef) (QF Try.prog 129 (KT.ret undef (heapV f (.int .i64 x) n cap R)).sat) := by
    intro k
    induction k with
    | zero => intro i t g h; omega
    | succ k ih =>
      intro i t g hik hin ht hE he
      have hp : (i - 1) / 2 < n := by omega
      refine cut _ _ _ _ ?_
      simp only [W.holds, par (j := i) (by omega), Int.toNat_natCast, true_and, and_true, true_implies, beq_iff_eq, beq_eq_false_iff_ne, Bool.not_eq_true', Bool.not_eq_false']
      unfold QS.up at he
      refine ⟨fun q => ?_, fun q => ⟨less_at (f := f) (x := x) (cap := cap) (s := t) hη hmix (by kernel_rfl) hf ht hE hn hin hp, fun r => ?_, fun r => ⟨swap_at (f := f) (x := x) (cap := cap) (s := t) hη hmix (by kernel_rfl) (by kernel_rfl) ht hE hn hp hin, ?_⟩⟩⟩
      · rw [if_pos (.inl (by omega))] at he
        exact ⟨rfl, by rw [← he]; kernel_rfl⟩
      · rw [if_pos (.inr r)] at he
        exact ⟨rfl, by rw [← he]; kernel_rfl⟩
      · rw [if_neg (by rintro (h | h); exact q (by omega); rw [r] at h; cases h)] at he
        exact ih _ (t.swap ((i - 1) / 2) i) (sw g ((i - 1) / 2) i) (by omega) hp (QS.swap_c ht (by omega) (by omega)) (QS.swap_int hE) he
  refine KUp.enter hη hmix (reg0 hη hmix) _ _ _ _ _ _ ?_
  simp only [W.holds]
  exact loop (j + 1) j s g (by omega) hj hs hE hR
theorem dn1 {a : Nat} (h : a ≤ 1000000) : IntKind.i64.wrap (IntKind.i64.wrap (2 * (a : Int)) + 1) = ((a * 2 + 1 : Nat) : Int) := by
  have h1 : IntKind.i64.wrap (2 * (a : Int)) = 2 * (a : Int) := wrap_small (by omega) (by omega)
  rw [h1, wrap_small (by omega) (by omega)]; omega
theorem dn2 {a : Nat} (h : a ≤ 1000000) : IntKind.i64.wrap (((a * 2 + 1 : Nat) : Int) + 1) = ((a * 2 + 2 : Nat) : Int) := by
  rw [wrap_small (by omega) (by omega)]; omega
set_option maxRecDepth 20000 in
theorem down_ok (hη : OneCells η) (hmix : Try.prog.follows .mixedOrders = true) {f : Nat} {x : Int} {n cap : Nat} {s : QS} {g : Nat → Int × Int} {m i k : Nat} (hf : isOrd f) (hs : s.c = its g m) (hE : intE s.E) (hn : n ≤ m) (hi : i ≤ n) (hk : k ≤ n) (hm : n ≤ 1000000) :
    CallSpec η Try.prog B 34 [.iface 52 (.pointer (some ⟨126, 0, none⟩)), .int .i64 (i : Int), .int .i64 (k : Int)] (heapV f (.int .i64 x) n cap s)
      (KT.ret (.bool (decide (i < (QS.down f k (k + 1) s i).2))) (heapV f (.int .i64 x) n cap (QS.down f k (k + 1) s i).1)).sat := by
  generalize hR : QS.down f k (k + 1) s i = R
  have cut := fun i0 l0 m0 n0 => KDown.cut0 (η := η) (B := B) (D := (KT.ret (.bool (decide (i < R.2))) (heapV f (.int .i64 x) n cap R.1)).sat) hη hmix (reg0 hη hmix) f x n cap s i k i0 l0 m0 n0
  have loop : ∀ (u a : Nat) (t : QS) (g : Nat → Int × Int), k - a < u → a ≤ n → t.c = its g m → intE t.E → QS.down f k u t a = R → RunD η Try.prog B 34 (KDown.H0 f x n cap s i k) [0, 1, 2, 7] (KDown.S0 f x n cap s i k (a : Int) t.c t.E t.ck fun _ => undef) (QF Try.prog 129 (KT.ret (.bool (decide (i < R.2))) (heapV f (.int .i64 x) n cap R.1)).sat) := by
    intro u
    induction u with
    | zero => intro a t g h; omega
    | succ u ih =>
      intro a t g hu han ht hE he
      refine cut _ _ _ _ ?_
      simp only [W.holds, dn1 (a := a) (by omega), dn2 (a := a) (by omega), Int.toNat_natCast, true_and, and_true, true_implies, decide_eq_true_eq, decide_eq_false_iff_not, Bool.not_eq_true', Bool.not_eq_false']
      unfold QS.down at he
      have fin : R = (t, a) → (Value.bool (decide ((a : Int) > (i : Int))) = .bool (decide (i < R.2)) ∧ heapV f (.int .i64 x) n cap t = heapV f (.int .i64 x) n cap R.1) := by
        rintro rfl
        refine ⟨?_, rfl⟩
        congr 1
        exact decide_eq_decide.2 (by show (a : Int) > i ↔ i < a; omega)
      have stop : k ≤ a * 2 + 1 ∨ lessC f t.c (downJ f t.c a k) a = false → R = (t, a) := fun h => by rw [if_pos h] at he; exact he.symm
      have go : ∀ b, b < k → a < b → downJ f t.c a k = b → lessC f t.c b a = true → k > a * 2 + 1 → QS.down f k u (t.swap a b) b = R := fun b h1 h2 h3 h4 h5 => by
        rw [if_neg (by rw [h3, h4]; simp; omega), h3] at he; exact he
      have next : ∀ b, b < k → a < b → QS.down f k u (t.swap a b) b = R → RunD η Try.prog B 34 (KDown.H0 f x n cap s i k) [0, 1, 2, 7] (KDown.S0 f x n cap s i k (b : Int) (t.swap a b).c (t.swap a b).E (t.swap a b).ck fun _ => undef) (QF Try.prog 129 (KT.ret (.bool (decide (i < R.2))) (heapV f (.int .i64 x) n cap R.1)).sat) :=
        fun b h1 h2 h3 => ih b (t.swap a b) (sw g a b) (by omega) (by omega) (QS.swap_c ht (by omega) (by omega)) (QS.swap_int hE) h3
      have less := fun {H : AH} (b c : Nat) (hb : b < n) (hc : c < n) (e : H = heapV f (.int .i64 x) n cap t) => less_at (B := B) (f := f) (x := x) (cap := cap) (s := t) hη hmix e hf ht hE hn hb hc
      have swap := fun {H H' : AH} (b c : Nat) (hb : b < n) (hc : c < n) (e : H = heapV f (.int .i64 x) n cap t) (e' : H' = heapV f (.int .i64 x) n cap (t.swap b c)) => swap_at (B := B) (f := f) (x := x) (cap := cap) (s := t) hη hmix e e' ht hE hn hb hc
      refine ⟨fun q => ?_, fun q => ⟨fun q2 => by omega, fun _ => ⟨fun q2 => ⟨less _ _ (by omega) (by omega) (by kernel_rfl), fun r => ⟨less _ _ (by omega) (by omega) (by kernel_rfl), fun r2 => ?_, fun r2 => ⟨swap _ _ (by omega) (by omega) (by kernel_rfl) (by kernel_rfl), ?_⟩⟩, fun r => ⟨less _ _ (by omega) (by omega) (by kernel_rfl), fun r2 => ?_, fun r2 => ⟨swap _ _ (by omega) (by omega) (by kernel_rfl) (by kernel_rfl), ?_⟩⟩⟩,
        fun q2 => ⟨less _ _ (by omega) (by omega) (by kernel_rfl), fun r2 => ?_, fun r2 => ⟨swap _ _ (by omega) (by omega) (by kernel_rfl) (by kernel_rfl), ?_⟩⟩⟩⟩⟩
      · obtain ⟨e1, e2⟩ := fin (stop (.inl (by omega)))
        exact ⟨e1, e2 ▸ (by kernel_rfl)⟩
      · have hj : downJ f t.c a k = a * 2 + 2 := if_pos ⟨by omega, r⟩
        obtain ⟨e1, e2⟩ := fin (stop (.inr (by rw [hj]; exact r2)))
        exact ⟨e1, e2 ▸ (by kernel_rfl)⟩
      · have hj : downJ f t.c a k = a * 2 + 2 := if_pos ⟨by omega, r⟩
        exact next _ (by omega) (by omega) (go _ (by omega) (by omega) hj r2 (by omega))
      · have hj : downJ f t.c a k = a * 2 + 1 := if_neg (by rw [r]; simp)
        obtain ⟨e1, e2⟩ := fin (stop (.inr (by rw [hj]; exact r2)))
        exact ⟨e1, e2 ▸ (by kernel_rfl)⟩
      · have hj : downJ f t.c a k = a * 2 + 1 := if_neg (by rw [r]; simp)
        exact next _ (by omega) (by omega) (go _ (by omega) (by omega) hj r2 (by omega))
      · have hj : downJ f t.c a k = a * 2 + 1 := if_neg (by rintro ⟨h, _⟩; omega)
        obtain ⟨e1, e2⟩ := fin (stop (.inr (by rw [hj]; exact r2)))
        exact ⟨e1, e2 ▸ (by kernel_rfl)⟩
      · have hj : downJ f t.c a k = a * 2 + 1 := if_neg (by rintro ⟨h, _⟩; omega)
        exact next _ (by omega) (by omega) (go _ (by omega) (by omega) hj r2 (by omega))
  refine KDown.enter hη hmix (reg0 hη hmix) _ _ _ _ _ _ _ ?_
  simp only [W.holds]
  exact loop (k + 1) i s g (by omega) hi hs hE hR
end HQ
end Go.Ev

/- Queues: heaps of items: plain mathematics. -/
namespace Go.Ev.HQ
set_option linter.unusedVariables false
set_option linter.unusedSimpArgs false
open Go Go.Ev
abbrev G := Nat → Int × Int
/-- What the order looks at. -/
def keyO (f : Nat) (a : Int) : Int := if f = 20 then -(max a 0 % 10) else a
theorem ord_key (f : Nat) (a b : Int) : ordA f a b = decide (keyO f a < keyO f b) := by
  unfold ordA keyO
  by_cases h : f = 20
  · rw [if_pos h, if_pos h, if_pos h]
    exact decide_eq_decide.2 (by omega)
  · rw [if_neg h, if_neg h, if_neg h]
def lt (f : Nat) (p q : Int × Int) : Prop := keyO f p.2 < keyO f q.2 ∨ (keyO f p.2 = keyO f q.2 ∧ p.1 < q.1)
def ltG (f : Nat) (p q : Int × Int) : Bool := decide (cmpA f p.1 p.2 q.1 q.2 < 0)
theorem ltG_iff (f : Nat) (p q : Int × Int) : ltG f p q = true ↔ lt f p q := by
  unfold ltG cmpA lt
  rw [decide_eq_true_eq, ord_key, ord_key]
  rcases Int.lt_trichotomy (keyO f p.2) (keyO f q.2) with h | h | h
  · rw [decide_eq_true (p := keyO f p.2 < keyO f q.2) h, decide_eq_false (p := keyO f q.2 < keyO f p.2) (by omega)]
    simp; omega
  · rw [decide_eq_false (p := keyO f p.2 < keyO f q.2) (by omega), decide_eq_false (p := keyO f q.2 < keyO f p.2) (by omega)]
    simp only [bne_self_eq_false, Bool.false_eq_true, if_false]
    split
    · simp; omega
    · split <;> simp <;> omega
  · rw [decide_eq_false (p := keyO f p.2 < keyO f q.2) (by omega), decide_eq_true (p := keyO f q.2 < keyO f p.2) h]
    simp; omega
theorem ltG_no (f : Nat) (p q : Int × Int) : ltG f p q = false ↔ ¬ lt f p q := by
  rw [← ltG_iff]; simp
theorem lessC_its {f : Nat} {g : G} {m i j : Nat} (hi : i < m) (hj : j < m) : lessC f (its g m) i j = ltG f (g i) (g j) := by
  unfold lessC ltG
  rw [(its_int hi).1, (its_int hi).2, (its_int hj).1, (its_int hj).2]
/-- Up, and down, on items. -/
def upG (f : Nat) : Nat → G → Nat → G
  | 0, g, _ => g
  | k + 1, g, j => if (j - 1) / 2 = j ∨ ltG f (g j) (g ((j - 1) / 2)) = false then g else upG f k (sw g ((j - 1) / 2) j) ((j - 1) / 2)
def dnJ (f : Nat) (g : G) (i n : Nat) : Nat := if i * 2 + 2 < n ∧ ltG f (g (i * 2 + 2)) (g (i * 2 + 1)) = true then i * 2 + 2 else i * 2 + 1
def downG (f n : Nat) : Nat → G → Nat → G × Nat
  | 0, g, i => (g, i)
  | k + 1, g, i => if n ≤ i * 2 + 1 ∨ ltG f (g (dnJ f g i n)) (g i) = false then (g, i) else downG f n k (sw g i (dnJ f g i n)) (dnJ f g i n)
theorem up_G {f m : Nat} : ∀ {k : Nat} {s : QS} {g : G} {j : Nat}, s.c = its g m → j < m → (s.up f k j).c = its (upG f k g j) m ∧ (intE s.E → intE (s.up f k j).E)
  | 0, s, g, j, h, hj => ⟨h, fun h => h⟩
  | k + 1, s, g, j, h, hj => by
    have hp : (j - 1) / 2 < m := by omega
    unfold QS.up upG
    rw [h, lessC_its hj hp]
    split
    · exact ⟨h, fun h => h⟩
    · obtain ⟨h1, h2⟩ := up_G (f := f) (k := k) (s := s.swap ((j - 1) / 2) j) (g := sw g ((j - 1) / 2) j) (j := (j - 1) / 2) (QS.swap_c h hp hj) hp
      exact ⟨h1, fun hE => h2 (QS.swap_int hE)⟩
theorem dnJ_lt {f : Nat} {g : G} {i n : Nat} (h : i * 2 + 1 < n) : dnJ f g i n < n ∧ i < dnJ f g i n := by
  unfold dnJ
  split <;> omega
theorem downJ_its {f : Nat} {g : G} {m i n : Nat} (hn : n ≤ m) (h : i * 2 + 1 < n) : downJ f (its g m) i n = dnJ f g i n := by
  unfold downJ dnJ
  by_cases q : i * 2 + 2 < n
  · rw [lessC_its (by omega) (by omega)]
  · rw [if_neg (fun h => q h.1), if_neg (fun h => q h.1)]
theorem down_G {f m n : Nat} (hn : n ≤ m) : ∀ {k : Nat} {s : QS} {g : G} {i : Nat}, s.c = its g m → (QS.down f n k s i).1.c = its (downG f n k g i).1 m ∧ (QS.down f n k s i).2 = (downG f n k g i).2 ∧ (intE s.E → intE (QS.down f n k s i).1.E)
  | 0, s, g, i, h => ⟨h, rfl, fun h => h⟩
  | k + 1, s, g, i, h => by
    unfold QS.down downG
    by_cases q : n ≤ i * 2 + 1
    · rw [if_pos (.inl q), if_pos (.inl q)]; exact ⟨h, rfl, fun h => h⟩
    · have q' : i * 2 + 1 < n := by omega
      obtain ⟨b1, b2⟩ := dnJ_lt (f := f) (g := g) q'
      rw [h, downJ_its hn q', lessC_its (by omega) (by omega)]
      split
      · exact ⟨h, rfl, fun h => h⟩
      · obtain ⟨h1, h2, h3⟩ := down_G hn (f := f) (k := k) (s := s.swap i (dnJ f g i n)) (g := sw g i (dnJ f g i n)) (i := dnJ f g i n) (QS.swap_c h (by omega) (by omega))
        exact ⟨h1, h2, fun hE => h3 (QS.swap_int hE)⟩
/- what exchanges keep -/
theorem up_inv {f n : Nat} {I : G → Prop} (hI : ∀ g i j, i < n → j < n → I g → I (sw g i j)) : ∀ {k : Nat} {g : G} {j : Nat}, j < n → I g → I (upG f k g j)
  | 0, g, j, hj, h => h
  | k + 1, g, j, hj, h => by
    unfold upG
    split
    · exact h
    · exact up_inv hI (by omega) (hI _ _ _ (by omega) hj h)
theorem down_inv {f n : Nat} {I : G → Prop} (hI : ∀ g i j, i < n → j < n → I g → I (sw g i j)) : ∀ {k : Nat} {g : G} {i : Nat}, I g → I (downG f n k g i).1
  | 0, g, i, h => h
  | k + 1, g, i, h => by
    unfold downG
    by_cases q : n ≤ i * 2 + 1
    · rw [if_pos (.inl q)]; exact h
    · obtain ⟨b1, b2⟩ := dnJ_lt (f := f) (g := g) (i := i) (n := n) (by omega)
      split
      · exact h
      · exact down_inv hI (hI _ _ _ (by omega) b1 h)
theorem all_sw {n : Nat} {p : Int × Int → Prop} {g : G} {i j : Nat} (hi : i < n) (hj : j < n) (h : ∀ k, k < n → p (g k)) : ∀ k, k < n → p (sw g i j k) := by
  intro k hk
  rw [sw_at]
  split
  · exact h _ hi
  · split
    · exact h _ hj
    · exact h _ hk
def distinct (n : Nat) (g : G) : Prop := ∀ a b, a < n → b < n → (g a).1 = (g b).1 → a = b
theorem distinct_sw {n : Nat} {g : G} {i j : Nat} (hi : i < n) (hj : j < n) (h : distinct n g) : distinct n (sw g i j) := by
  intro a b ha hb e
  have e1 : ∀ k, sw g i j k = g (if k = j then i else if k = i then j else k) := by
    intro k
    rw [sw_at]
    split
    · rfl
    · split <;> rfl
  have hl : ∀ k, k < n → (if k = j then i else if k = i then j else k) < n := by
    intro k hk
    split
    · exact hi
    · split
      · exact hj
      · exact hk
  rw [e1, e1] at e
  have h2 := h _ _ (hl a ha) (hl b hb) e
  split at h2 <;> split at h2 <;> (try split at h2) <;> (try split at h2) <;> omega
theorem far_sw {n : Nat} {g : G} {i j : Nat} (hi : i < n) (hj : j < n) {k : Nat} (hk : n ≤ k) : sw g i j k = g k := by
  rw [sw_at, if_neg (by omega), if_neg (by omega)]
/- heaps -/
def heapG (f n : Nat) (g : G) : Prop := ∀ k, 0 < k → k < n → ¬ lt f (g k) (g ((k - 1) / 2))
theorem lt_no_trans {f : Nat} {a b c : Int × Int} (h1 : ¬ lt f b a) (h2 : ¬ lt f c b) : ¬ lt f c a := by
  unfold lt at *; omega
theorem lt_asymm {f : Nat} {a b : Int × Int} (h : lt f a b) : ¬ lt f b a := by
  unfold lt at *; omega
theorem heap_min {f n : Nat} {g : G} (h : heapG f n g) : ∀ k, k < n → ¬ lt f (g k) (g 0) := by
  intro k
  induction k using Nat.strongRecOn with
  | _ k ih =>
    intro hk
    rcases Nat.eq_zero_or_pos k with rfl | h0
    · unfold lt; omega
    · exact lt_no_trans (ih ((k - 1) / 2) (by omega) (by omega)) (h k h0 hk)
theorem up_heap {f n : Nat} : ∀ {k : Nat} {g : G} {j : Nat}, j < k → j < n → (∀ i, 0 < i → i < n → i ≠ j → ¬ lt f (g i) (g ((i - 1) / 2))) → (∀ i, 0 < i → i < n → (i - 1) / 2 = j → 0 < j → ¬ lt f (g i) (g ((j - 1) / 2))) → heapG f n (upG f k g j)
  | 0, g, j, h, _, _, _ => by omega
  | k + 1, g, j, hk, hj, h1, h2 => by
    unfold upG
    split
    · rename_i hc
      intro i hi hin
      by_cases e : i = j
      · subst e
        rcases hc with hc | hc
        · omega
        · exact (ltG_no _ _ _).1 hc
      · exact h1 i hi hin e
    · rename_i hc
      have hp : (j - 1) / 2 ≠ j := fun e => hc (.inl e)
      have hl : lt f (g j) (g ((j - 1) / 2)) := (ltG_iff _ _ _).1 (by cases q : ltG f (g j) (g ((j - 1) / 2)) with | true => rfl | false => exact absurd (.inr q) hc)
      have hj0 : 0 < j := by omega
      refine up_heap (by omega) (by omega) (fun i hi hin hne => ?_) (fun i hi hin he h0 => ?_)
      · rw [sw_at, sw_at]
        by_cases c1 : i = j
        · subst c1
          rw [if_pos rfl, if_neg hp, if_pos rfl]
          exact lt_asymm hl
        · rw [if_neg c1, if_neg hne]
          by_cases c2 : (i - 1) / 2 = j
          · rw [if_pos c2]; exact h2 i hi hin c2 hj0
          · rw [if_neg c2]
            by_cases c3 : (i - 1) / 2 = (j - 1) / 2
            · rw [if_pos c3]
              exact lt_no_trans (lt_asymm hl) (c3 ▸ h1 i hi hin c1)
            · rw [if_neg c3]; exact h1 i hi hin c1
      · rw [sw_at, sw_at, if_neg (show ¬ ((j - 1) / 2 - 1) / 2 = j by omega), if_neg (show ¬ ((j - 1) / 2 - 1) / 2 = (j - 1) / 2 by omega)]
        have hpp := h1 ((j - 1) / 2) h0 (by omega) hp
        by_cases c1 : i = j
        · subst c1; rw [if_pos rfl]; exact hpp
        · rw [if_neg c1, if_neg (show ¬ i = (j - 1) / 2 by omega)]
          exact lt_no_trans hpp (he ▸ h1 i hi hin c1)
theorem down_heap {f n : Nat} : ∀ {k : Nat} {g : G} {i : Nat}, n - i < k → (∀ a, 0 < a → a < n → (a - 1) / 2 ≠ i → ¬ lt f (g a) (g ((a - 1) / 2))) → (∀ a, 0 < a → a < n → (a - 1) / 2 = i → 0 < i → ¬ lt f (g a) (g ((i - 1) / 2))) → heapG f n (downG f n k g i).1
  | 0, g, i, h, _, _ => by omega
  | k + 1, g, i, hk, h1, h2 => by
    unfold downG
    split
    · rename_i hc
      intro a ha han
      by_cases e : (a - 1) / 2 = i
      · rcases hc with hc | hc
        · omega
        · have hc := (ltG_no _ _ _).1 hc
          have hm : ∀ b, (b - 1) / 2 = i → 0 < b → b < n → ¬ lt f (g b) (g (dnJ f g i n)) := by
            intro b hb hb0 hbn
            unfold dnJ
            split
            · rename_i q
              have q2 := (ltG_iff _ _ _).1 q.2
              have : b = i * 2 + 1 ∨ b = i * 2 + 2 := by omega
              rcases this with rfl | rfl
              · exact lt_asymm q2
              · unfold lt; omega
            · rename_i q
              have : b = i * 2 + 1 ∨ b = i * 2 + 2 := by omega
              rcases this with rfl | rfl
              · unfold lt; omega
              · exact (ltG_no _ _ _).1 (by cases z : ltG f (g (i * 2 + 2)) (g (i * 2 + 1)) with | false => rfl | true => exact absurd ⟨hbn, z⟩ q)
          rw [e]
          exact lt_no_trans hc (hm a e ha han)
      · exact h1 a ha han e
    · rename_i hc
      have hin : i * 2 + 1 < n := by
        rcases Nat.lt_or_ge (i * 2 + 1) n with h | h
        · exact h
        · exact absurd (.inl h) hc
      obtain ⟨b1, b2⟩ := dnJ_lt (f := f) (g := g) hin
      have hl : lt f (g (dnJ f g i n)) (g i) := (ltG_iff _ _ _).1 (by cases q : ltG f (g (dnJ f g i n)) (g i) with | true => rfl | false => exact absurd (.inr q) hc)
      have hpar : (dnJ f g i n - 1) / 2 = i := by unfold dnJ; split <;> omega
      have hm : ∀ b, (b - 1) / 2 = i → 0 < b → b < n → ¬ lt f (g b) (g (dnJ f g i n)) := by
        intro b hb hb0 hbn
        unfold dnJ
        split
        · rename_i q
          have q2 := (ltG_iff _ _ _).1 q.2
          have : b = i * 2 + 1 ∨ b = i * 2 + 2 := by omega
          rcases this with rfl | rfl
          · exact lt_asymm q2
          · unfold lt; omega
        · rename_i q
          have : b = i * 2 + 1 ∨ b = i * 2 + 2 := by omega
          rcases this with rfl | rfl
          · unfold lt; omega
          · exact (ltG_no _ _ _).1 (by cases z : ltG f (g (i * 2 + 2)) (g (i * 2 + 1)) with | false => rfl | true => exact absurd ⟨hbn, z⟩ q)
      generalize dnJ f g i n = j at *
      refine down_heap (by omega) (fun a ha han hne => ?_) (fun a ha han he h0 => ?_)
      · rw [sw_at, sw_at]
        by_cases c1 : a = j
        · subst c1
          rw [if_pos rfl, if_neg (by omega), if_pos hpar]
          exact lt_asymm hl
        · rw [if_neg c1, if_neg hne]
          by_cases c2 : a = i
          · subst c2
            rw [if_pos rfl, if_neg (by omega)]
            exact h2 j (by omega) b1 hpar ha
          · rw [if_neg c2]
            by_cases c3 : (a - 1) / 2 = i
            · rw [if_pos c3]; exact hm a c3 ha han
            · rw [if_neg c3]; exact h1 a ha han c3
      · rw [sw_at, sw_at, hpar, if_neg (by omega), if_neg (by omega), if_neg (by omega), if_pos rfl]
        exact he ▸ h1 a ha han (by omega)
end Go.Ev.HQ

