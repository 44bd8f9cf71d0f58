/- A call that the evaluator ends is a call of the program. -/
import Derived.Test.YtangiefkpllnmaaGreatDoorEvReg4
namespace Go.Ev
set_option linter.unusedVariables false
set_option linter.unusedSimpArgs false
variable {η : Nat → Value}
section
variable {P : Program} {B : Nat}
theorem finalH_get {h : AH} {r : Nat} {a : AObj} : ∀ (al : List (Nat × Nat × AObj)), (finalH h al).objs.get r = some a → h.objs.get r = some a ∨ ∃ j, (j, r, a) ∈ al
  | [], hg => .inl hg
  | (i, r', b) :: l, hg => by
    simp only [finalH, putA, T.get_set] at hg
    by_cases e : r = r'
    · rw [if_pos e] at hg; cases hg; subst e
      exact .inr ⟨i, by simp⟩
    · rw [if_neg e] at hg
      rcases finalH_get l hg with h1 | ⟨j, h1⟩
      · exact .inl h1
      · exact .inr ⟨j, by simp [h1]⟩
theorem finalH_next {h : AH} : ∀ (al : List (Nat × Nat × AObj)), (finalH h al).next = h.next
  | [] => rfl
  | _ :: l => finalH_next l
theorem regionA_ok (hη : OneCells η) (hmix : P.follows .mixedOrders = true) {nest : Nest} (hnest : NestOk η P B nest) : RegOk η P B nest := by
  intro ops n tm tm' h h' hr ρ fr w kk id cs ht p hm hto
  simp only [regionA, bind_ok] at hr
  obtain ⟨s, hs, hr⟩ := hr
  rw [okk] at hr; injection hr with e1 e2; subst e1; subst e2
  obtain ⟨G, hlen⟩ := regLoop_good (base := h.next) (n := n) (tm0 := tm) (ops := ops.toList) (P := P) (nest := nest) (h0 := { h with next := h.next + ops.toList.length }) (Good.start _) (fun j o hj => by simpa using hj) hs
  have hN : s.ents.length = ops.size := by rw [hlen]; simp
  have hsz : ops.toList.length = ops.size := rfl
  -- nothing is done
  have hin : ∀ (S : Nat → Bool) r a, (∀ j, S j = false) → InS s.ents s.ee h.next S 0 { h with next := h.next + ops.toList.length } r a → h.objs.get r = some a := by
    rintro S r a hS (h1 | ⟨j, _, _, h3, _⟩)
    · exact h1
    · rw [hS] at h3; cases h3
  have hall : ∀ j, (Array.replicate ops.size false).getD j false = false := by
    intro j
    rw [Array.getD_eq_getD_getElem?, Array.getElem?_replicate]
    split <;> rfl
  have I0 : RInv η P B s h.next ops.size n tm ρ h w (fun j => (Array.replicate ops.size false).getD j false) ρ fr.tmps { w with drawn := w.drawn + 1 } 0 { h with next := h.next + ops.toList.length } := by
    refine ⟨fun j x hx hj => ?_, fun j hj => ?_, ?_, G.hd, Nat.zero_le _, fun m e he => ?_, ⟨fun r a hI => p.hr.obj r a (hin _ r a hall hI), fun r r' a a' b d m d' m' h1 h2 => p.hr.inj r r' a a' b d m d' m' (hin _ _ _ hall h1) (hin _ _ _ hall h2), by rw [hsz]; exact Nat.le_refl _, fun r hr => p.fresh r ?_, ?_, ?_, ?_⟩, fun j hj _ => p.fresh _ (by omega), Env.le_refl _, fun _ _ => rfl, p.glob, ⟨rfl, rfl, rfl, Nat.le_refl _, fun _ _ _ => rfl⟩, p.low⟩
    · rw [hall] at hj; cases hj
    · rw [hall] at hj; cases hj
    · refine TR.congr (fun t => ?_) ht
      rw [tmS_get]
      exact wr_none fun j x _ _ => by rw [Nat.zero_add]; exact hall j
    · rw [hall]; constructor
      · intro h; cases h
      · intro h; omega
    · simp only at hr; omega
    · intro j hj _
      show h.objs.get (h.next + j) = none
      cases hg : h.objs.get (h.next + j) with
      | none => rfl
      | some a => have := p.get_lt hg; omega
    · rintro b ⟨r, a, d, m, h1, h2, h3⟩
      exact .inl ⟨r, a, d, m, hin _ _ _ hall h1, h2, h3⟩
    · rintro b ⟨r, a, d, m, h1, h3⟩
      exact .inl ⟨r, a, d, m, hin _ _ _ hall h1, h3⟩
  obtain ⟨S', ρ', tmps', w', k', hk', g1, I, g3⟩ := lin_run hη hnest cs G hN ops.size (w.tape w.drawn (.order fr.fn id)) (Array.replicate ops.size false) ρ fr.tmps { w with drawn := w.drawn + 1 } 0 _
    { fr with todo := .inRegion ops (Region.linearise.go .any ops ops.size (w.tape w.drawn (.order fr.fn id)) (Array.replicate ops.size false) []) :: kk } kk (by simp) (Nat.le_trans List.countP_le_length (by simp)) I0 hm rfl rfl
  -- all effects are done
  have hk : k' = s.ee.length := by
    rcases Nat.lt_or_ge k' s.ee.length with hlt | hge
    · have he := G.ee_lt (List.getElem?_eq_getElem hlt)
      have := (I.ks k' s.ee[k'] (List.getElem?_eq_getElem hlt)).1 (g1 _ (by omega))
      exact absurd this (Nat.lt_irrefl _)
    · exact Nat.le_antisymm I.kle hge
  subst hk
  have hhk : hk' = s.h := by have := I.hhk; rw [G.hl] at this; exact (Option.some.inj this).symm
  subst hhk
  have hfin : ∀ r a, (finalH s.h s.al).objs.get r = some a → InS s.ents s.ee h.next S' s.ee.length s.h r a := by
    intro r a hg
    rcases finalH_get _ hg with h1 | ⟨j, h1⟩
    · exact .inl h1
    · obtain ⟨e1, e2, e3⟩ := G.al j r a h1
      exact .inr ⟨j, e1, e2, g1 j (by have := alOf_lt e2; omega), e3⟩
  refine ⟨ρ', tmps', w', ?_, ⟨I.le, I.old, ?_, ?_, ⟨fun r a hg => I.H.obj r a (hfin r a hg), fun r r' a a' b d m d' m' h1 h2 => I.H.inj r r' a a' b d m d' m' (hfin _ _ h1) (hfin _ _ h2)⟩, I.fr, ?_, ?_⟩, ?_⟩
  · refine TR.congr (fun t => ?_) I.tmr
    rw [G.tm t, tmS_get]
    refine wr_congr fun j x hx _ => ?_
    have hj := (List.getElem?_eq_some_iff.1 hx).1
    rw [Nat.zero_add, g1 j (by omega)]
    simpa using hj
  · intro r hr
    rw [finalH_next] at hr
    exact I.H.fresh r hr
  · rw [finalH_next]
    have := I.H.nx; omega
  · rintro b ⟨r, a, d, m, h1, h2, h3⟩
    exact I.H.own b ⟨r, a, d, m, hfin _ _ h1, h2, h3⟩
  · rintro b ⟨r, a, d, m, h1, h3⟩
    exact I.H.inn b ⟨r, a, d, m, hfin _ _ h1, h3⟩
  · refine Steps.trans (one_go (fr' := { fr with todo := .inRegion ops (Region.linearise.go .any ops ops.size (w.tape w.drawn (.order fr.fn id)) (Array.replicate ops.size false) []) :: kk }) (cs' := cs) (w' := { w with drawn := w.drawn + 1 }) ?_) g3
    obtain ⟨fn, tmps2, todo, defers, mode, kind, roundOf⟩ := fr
    simp only at hm hto
    subst hm; subst hto
    simp [stepG, run0, stepG.exec, choose, Sem.run, Question.forced, Question.cut, Region.schedule, hmix, Region.linearise]
/-- Some steps. -/
theorem runF_ok (hη : OneCells η) {nest : Nest} (hreg : RegOk η P B nest) : ∀ (fuel : Nat) (s : AS) (f : FuncId) (v : Value) (h' : AH), runF P nest fuel s = .ok (f, v, h') → ∀ (ρ : Env) (fr : Frame) (cs : List Frame) (w : World) (cs0 : List Frame), SR η P ρ B s fr cs w →
    ∃ ρ' fr' w' x, Post η ρ B s.hp w ρ' h' w' ∧ VR η ρ' v x ∧ fr'.fn = f ∧ fr'.leaving P w' (.returned x) ∧ Steps P (lone fr (cs ++ cs0) w) (lone fr' cs0 w')
  | 0, s, f, v, h', hr, ρ, fr, cs, w, cs0, R => by simp [runF, no] at hr
  | fuel + 1, s, f, v, h', hr, ρ, fr, cs, w, cs0, R => by
    simp only [runF] at hr
    split at hr
    · rename_i s' hs
      rcases stepA_ok (cs0 := cs0) hη hreg R hs with ⟨s2, he, ρ1, fr1, cs1, w1, k1, k2, k3⟩ | ⟨v2, he, _⟩
      · injection he with he; subst he
        obtain ⟨ρ2, fr2, w2, x, l1, l2, l3, l4, l5⟩ := runF_ok hη hreg fuel s' f v h' hr ρ1 fr1 cs1 w1 cs0 k1
        exact ⟨ρ2, fr2, w2, x, k2.trans l1, l2, l3, l4, k3.trans l5⟩
      · cases he
    · rename_i f2 v2 h2 hs
      rw [okk] at hr; injection hr with e1 e2; injection e2 with e2 e3; subst e1; subst e2; subst e3
      rcases stepA_ok (cs0 := cs0) hη hreg R hs with ⟨s2, he, _⟩ | ⟨v3, he, hcs, x, hx, hl⟩
      · cases he
      · injection he with e1 e2 e3; subst e1; subst e2; subst e3
        have hc := R.cs
        rw [hcs] at hc
        have := hc.inv_nil; subst this
        exact ⟨ρ, fr, w, x, .refl R.pre, hx, R.fr.fn, hl, .refl _ _⟩
    · cases hr
theorem nestA_ok (hη : OneCells η) (hmix : P.follows .mixedOrders = true) (fuel : Nat) : ∀ d, NestOk η P B (nestA P fuel d)
  | 0 => by intro f args h h' v hr; simp [nestA, no] at hr
  | d + 1 => by
    intro f args h h' v hr ρ args' w cs hl p
    simp only [nestA, bind_ok] at hr
    obtain ⟨fr, he, ⟨f2, v2, h2⟩, hrun, hr⟩ := hr
    simp only [ite_no', okk] at hr
    obtain ⟨hf, hr⟩ := hr
    injection hr with e1 e2; subst e1; subst e2
    obtain ⟨ρ', fr', w', x, k1, k2, k3, k4, k5⟩ := runF_ok hη (regionA_ok hη hmix (nestA_ok hη hmix fuel d)) fuel ⟨fr, [], h⟩ f2 v2 h2 hrun ρ (Frame.enter P f args' .normal) [] w cs ⟨enter_ok he hl, .nil, p⟩
    exact ⟨ρ', fr', w', x, k1, k2, by rw [k3, hf], k4, by simpa using k5⟩
/-- A CALL THAT THE EVALUATOR ENDS. -/
theorem callA_ok (hη : OneCells η) (hmix : P.follows .mixedOrders = true) {fuel depth : Nat} {f : FuncId} {args : List Value} {args' : Array Value} {h h' : AH} {v : Value} {ρ : Env} {w : World} (hc : callA P fuel depth f args h = .ok (v, h')) (hl : LR η ρ args args'.toList) (p : Pre η P ρ B h w) :
    Calls P f args' w fun e w' => ∃ ρ' x, e = .returned x ∧ VR η ρ' v x ∧ Post η ρ B h w ρ' h' w' := by
  intro cs
  obtain ⟨ρ', fr', w', x, k1, k2, k3, k4, k5⟩ := nestA_ok hη hmix fuel (depth + 1) f args h h' v hc ρ args' w cs hl p
  exact ⟨.returned x, w', fr', ⟨ρ', x, rfl, k2, k1⟩, k5, k3, k4⟩
/-- A closed call that returns a truth value, and what it leaves as it was. -/
theorem callA_bool (hmix : P.follows .mixedOrders = true) {fuel depth : Nat} {f : FuncId} {h h' : AH} {b : Bool} {ρ : Env} {w : World} (hc : callA P fuel depth f [] h = .ok (.bool b, h')) (p : Pre (fun _ => .nilIface) P ρ B h w) :
    Calls P f #[] w fun e w' => e = .returned (.bool b) ∧ Go.RowKit.Below B w w' := by
  refine (callA_ok (η := fun _ => .nilIface) (fun _ => rfl) hmix hc .nil p).mono ?_
  rintro e w' ⟨ρ', x, rfl, hv, hp⟩
  exact ⟨by rw [hv.bool_inv], p.hr.below hp.fr p.low⟩
end
end Go.Ev
