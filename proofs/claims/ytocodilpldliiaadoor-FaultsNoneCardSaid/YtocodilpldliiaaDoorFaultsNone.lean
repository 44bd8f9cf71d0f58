/- FaultsNone: for every link and every kind the law returns true, and each argument reads as it did; without conditions but those of its row; the row (the listed variables hold what the program's text lays) and the tied card. -/
import Derived.Test.YtocodilpldliiaaDoorCards
import Derived.Test.YtocodilpldliiaaDoorTie
import Derived.Test.YtocodilpldliiaaDoorEvFn
import Derived.Carry
import Derived.Lib.LaidU8
import Derived.MapViews
import Derived.DeepKeys2
import Derived.LaidLaws
import Derived.LaidHandle
import Derived.WalkKit
import Derived.ProofKit
import Derived.OpenShut
import Derived.Below
import Derived.ChangeMaps5
import Derived.ChangeShapes
import Derived.Deep.DeepHandedRow
namespace Go.Proofs.YtocodilpldliiaaDoor.faultsNone
set_option linter.unusedVariables false
set_option linter.unusedSimpArgs false
open Go.ChangeShapes Go.WideShapes Go.ChangeAt Go.RowKit Go.ChangeMaps

theorem own : ownKnob Tryd.prog.godebug = none := by kernel_rfl

theorem var_lits {P : Program} {W : World} {name : String} {d : DataW Unit} {l : List Lit} {g : Nat} {t : TypeId} {m : Nat} (h : Lib.VarReads P W name d) (hg : P.globalNamed name = some g)
    (hty : (P.globals[g]?).map (·.type) = some t) (hk : P.keyTypeAt m t = true) (ht : P.tiled m t = true) (hl : d.flat = l) : W.var? P name = some (l.map Lit.toCell).toArray := by
  obtain ⟨g', t', cs, fuel, p, hg', ht', hv, hd⟩ := h
  obtain rfl := Option.some.inj (hg.symm.trans hg')
  obtain rfl := Option.some.inj (hty.symm.trans ht')
  have h1 := (keyLits_of_trod m t hk fuel cs.toList (d, p) hd).1
  rw [hl] at h1
  have h2 := cells_of_lits m t ht m cs.toList l h1
  rw [hv, ← h2]
theorem rt : (Tryd.prog.cutTypes.find? (·.1 == "internal/reflectlite.rtype")).map (·.2) = some 113 := by kernel_rfl
theorem oneRow : ((List.range Tryd.prog.types.size).filter fun t => Tryd.prog.rowNamed t [101, 114, 114, 111, 114]) = [28] := by kernel_rfl
theorem tabRow : ((begin Tryd.prog (fun _ _ => 0) default).world.heap[1]?).bind Obj.row? = some (Array.replicate 17 (.string ⟨#[]⟩), 103) := by kernel_rfl
/-- What the listed variables hold, for the evaluator. -/
theorem tabs {W : World} (h : laidMetH Tryd.prog Rows.faultsNoneRow.laid W) (hS : W.ShapedOpen Tryd.prog) : ∀ x ∈ Go.Ev.FN.tab, Go.Ev.TabAt (fun _ => .nilIface) Tryd.prog W x := by
  have h' : laidMet Tryd.prog (Rows.faultsNoneRow.laid.filter fun x => x.2.handleName?.isNone) W ∧ handlesMet Tryd.prog [("errors.errorType", Rows.laid_errors_errorType)] W := h
  obtain ⟨name, u, ty, e1, e2, e3, e4, e5⟩ := h'.2 _ (List.mem_singleton.2 rfl)
  have en : name = [101, 114, 114, 111, 114] := (Option.some.inj e1).symm
  subst en
  obtain rfl := Option.some.inj (rt.symm.trans e2)
  have hm : ty ∈ (List.range Tryd.prog.types.size).filter fun t => Tryd.prog.rowNamed t [101, 114, 114, 111, 114] := List.mem_filter.2 ⟨List.mem_range.2 e3, e4⟩
  rw [oneRow] at hm
  obtain rfl := List.mem_singleton.1 hm
  have r1 : Lib.VarReads Tryd.prog W "spillway/faults.kindNames" Rows.laid_spillway_faults_kindNames := Lib.laidMet.reads h'.1 (by simp [Rows.faultsNoneRow, DataW.handleName?, Rows.laid_spillway_faults_kindNames])
  have r2 := var_lits (m := 8) r1 (g := 1) (t := 103) (by kernel_rfl) (by kernel_rfl) (by kernel_rfl) (by kernel_rfl) (l := _) rfl
  intro x hx
  have hx2 : x = ((Go.Ev.FN.tab)[0]'(by decide)) ∨ x = ((Go.Ev.FN.tab)[1]'(by decide)) := by
    unfold Go.Ev.FN.tab at hx ⊢
    simpa using hx
  rcases hx2 with rfl | rfl
  · exact Go.Ev.TabAt.handle hS (z := #[.nilIface]) (by kernel_rfl) (of_decide_eq_true (by kernel_rfl)) (name := "errors.errorType") (by kernel_rfl) e5
  · exact Go.Ev.TabAt.lits hS (z := _) tabRow (of_decide_eq_true (by kernel_rfl)) (name := "spillway/faults.kindNames") (by kernel_rfl) r2 (by kernel_rfl)

set_option maxRecDepth 100000 in
/-- A link, opened. -/
theorem open_link {W : World} {r : Reach} {b0 : Nat} {v : Value} (hval : Value.okWide Tryd.prog W r b0 24 v) :
    ∃ kd s bk cn, v = .agg ⟨[.int .i64 kd, .string s, .int .i64 bk, .int .i64 cn]⟩ := by
  have hu := Tryd.underlying24
  obtain ⟨cs, rfl, hsz⟩ := okWide_struct hu hval
  have h2 : Tryd.prog.cellsOf 24 = 4 := by kernel_rfl
  rw [h2] at hsz
  obtain ⟨c0, c1, c2, c3, rfl⟩ : ∃ c0 c1 c2 c3, cs = #[c0, c1, c2, c3] := by
    obtain ⟨l⟩ := cs
    match l, hsz with
    | [c0, c1, c2, c3], _ => exact ⟨c0, c1, c2, c3, rfl⟩
  have hrow : Row.okWide Tryd.prog W r b0 24 #[c0, c1, c2, c3] := by
    unfold Value.okWide at hval
    rw [hu] at hval
    obtain ⟨cs', e, _, hr⟩ := hval
    injection e with e
    rw [e]; exact hr
  obtain ⟨ts, hts, _, hcell⟩ := hrow
  have hts2 : Tryd.prog.cellTypes Tryd.prog.depth 24 = some [22, 9, 3, 2] := by kernel_rfl
  rw [hts2] at hts
  injection hts with hts
  subst hts
  obtain ⟨u0, e0, k0⟩ := hcell 0 c0 rfl
  obtain ⟨u1, e1, k1⟩ := hcell 1 c1 rfl
  obtain ⟨u2, e2, k2⟩ := hcell 2 c2 rfl
  obtain ⟨u3, e3, k3⟩ := hcell 3 c3 rfl
  obtain rfl : 22 = u0 := Option.some.inj e0
  obtain rfl : 9 = u1 := Option.some.inj e1
  obtain rfl : 3 = u2 := Option.some.inj e2
  obtain rfl : 2 = u3 := Option.some.inj e3
  have v0 : Value.okWide Tryd.prog W r b0 22 c0 := by
    unfold Value.okWide; rw [Tryd.underlying22]; exact k0
  have v1 : Value.okWide Tryd.prog W r b0 9 c1 := by
    unfold Value.okWide; rw [Tryd.underlying9]; exact k1
  have v2 : Value.okWide Tryd.prog W r b0 3 c2 := by
    unfold Value.okWide; rw [Tryd.underlying3]; exact k2
  have v3 : Value.okWide Tryd.prog W r b0 2 c3 := by
    unfold Value.okWide; rw [Tryd.underlying2]; exact k3
  obtain ⟨kd, rfl⟩ := okWide_int Tryd.underlying22 v0
  obtain ⟨s, rfl⟩ := okWide_string Tryd.underlying9 v1
  obtain ⟨bk, rfl⟩ := okWide_int Tryd.underlying3 v2
  obtain ⟨cn, rfl⟩ := okWide_int Tryd.underlying2 v3
  exact ⟨kd, s, bk, cn, rfl⟩
theorem laidOut : laidOutB Tryd.prog = true := by kernel_rfl
set_option maxRecDepth 100000 in
/-- WHAT THE WALK GIVES, FOR EVERY ARGUMENT AND EVERY WORLD THAT MEETS THE ROW. -/
theorem contract (H : Type) (enc : TypeId × Value → H) (W : World) (base : Nat) (args : Array Value) (ds gs : List (DataW H)) (before : List MemPlace)
    (hval : ∀ (j : Nat) t v, Tryd.f3.params[j]? = some t → args[j]? = some v → Value.okWide Tryd.prog W .any base t v)
    (hW : DataW.Whole enc Tryd.prog Tryd.f3.params.toList Rows.faultsNoneSpec.vars false W args.toList ds gs before) (hL : laidMetH Tryd.prog Rows.faultsNoneRow.laid W) (hS : W.ShapedOpen Tryd.prog) :
    Calls Tryd.prog 3 args W fun e W' => ∃ v, e = .returned v ∧ Rows.faultsNoneSpec.post enc Tryd.prog Tryd.f3 false true false false W args v W' := by
  have hW' := hW
  obtain ⟨p, q, hA0, hV, rfl, hfz, hnd⟩ := hW
  have hA : DataW.TrodAll enc Tryd.prog W 0 (fun _ => true) true Tryd.f3.params.toList args.toList ds p := hA0
  rw [Tryd.params3] at hA hval
  obtain ⟨v0, vs0, d0, ds0, p0, q0, hargs, rfl, rfl, h0, r0⟩ := trodAll_cons hA
  obtain ⟨v1, vs1, d1, ds1, p1, q1, rfl, rfl, rfl, h1, r1⟩ := trodAll_cons r0
  obtain ⟨rfl, rfl, rfl⟩ := trodAll_nil r1
  obtain rfl : args = #[v0, v1] := by cases args; simp_all
  obtain ⟨rfl, rfl⟩ := trodVars_none hV
  obtain ⟨kd, s, bk, cn, rfl⟩ := open_link (hval 0 24 v0 rfl rfl)
  obtain ⟨kind, rfl⟩ := okWide_int Tryd.underlying22 (hval 1 22 v1 rfl rfl)
  obtain ⟨⟨op⟩⟩ := s
  have hl : Go.Ev.LR (fun _ => .nilIface) (Go.Ev.envL Tryd.prog W) [.agg ⟨[.int .i64 kd, .string ⟨⟨op⟩⟩, .int .i64 bk, .int .i64 cn]⟩, .int .i64 kind] (#[.agg #[.int .i64 kd, .string ⟨⟨op⟩⟩, .int .i64 bk, .int .i64 cn], .int .i64 kind] : Array Value).toList :=
    .cons (.agg' (.cons (.int _ _) (.cons (.string _) (.cons (.int _ _) (.cons (.int _ _) .nil))))) (.cons (.int _ _) .nil)
  refine (Go.Ev.CallSpec.trueL (tabs hL hS) hl (Go.Ev.fn_ok (fun _ => rfl) Tryd.checked.mixed op kd bk cn kind)).mono fun e W' ⟨he, hb⟩ => ?_
  subst he
  have hlt := hW'.lt
  refine ⟨_, rfl, _, _, _, [], p0 ++ (p1 ++ []), [], hW', ?_, ?_, rfl, hb.frame _, fun h => by cases h⟩
  · exact trodAll_cons_mk (shut_bool Tryd.underlying4 _) trodAll_mk0
  · exact trodAll_cons_mk (Below.trod (t := 24) laidOut (by kernel_rfl) (of_decide_eq_true (by kernel_rfl)) h0 hb (fun x hx => hlt x (by simp [hx]))) (trodAll_cons_mk (Below.trod (t := 22) laidOut (by kernel_rfl) (of_decide_eq_true (by kernel_rfl)) h1 hb (fun x hx => hlt x (by simp [hx]))) trodAll_mk0)

/-- The cells of a datum of literals. -/
def cellsOf (d : DataW Unit) : Array Value := (d.flat.map Lit.toCell).toArray
/-- Where the world's own blocks end. -/
noncomputable def low : Nat := (World.holding Tryd.prog default ⟨#[], #[], []⟩).heap.size
/-- A block of the world, its cells put in the place of others. -/
def lay (h : Array Obj) (g : Nat) (cs : Array Value) : Array Obj := h.modify g fun
  | .cells _ t frozen => .cells cs t frozen
  | o => o
/-- A WORLD FOR THE WITNESS: the settled one, the listed variables holding what the program's text lays. -/
noncomputable def laidWorld (os : Os) : World :=
  let w0 := World.holding Tryd.prog os ⟨#[], #[], []⟩
  { w0 with heap := lay (lay (lay (lay (lay w0.heap 1 (cellsOf Rows.laid_spillway_faults_kindNames)) 3 (cellsOf Rows.laid_internal_strconv_uint64pow10))
      4 (cellsOf Rows.laid_math_bits_deBruijn32tab)) 5 (cellsOf Rows.laid_math_bits_deBruijn64tab)) 0 #[.iface 113 (.agg #[typeHandle Tryd.prog 28])] }
def args0 : Array Value := #[.agg #[.int .i64 0, .string ByteArray.empty, .int .i64 0, .int .i64 0], .int .i64 0]
theorem laid_met (os : Os) : laidMetH Tryd.prog Rows.faultsNoneRow.laid ((laidWorld os).forCall (fun _ _ => 0) ⟨#[], args0, []⟩).memory :=
  laidMetH_of_parts (laidMet_of_run' 8 (by kernel_rfl) (by kernel_rfl)) (by kernel_rfl)
theorem reads (os : Os) {H : Type} (enc : TypeId × Value → H) : ∃ places, DataW.whole enc Tryd.prog ((laidWorld os).forCall (fun _ _ => 0) ⟨#[], args0, []⟩).memory Tryd.f3.params.toList Rows.faultsNoneSpec.vars false args0.toList 8 = some ([.agg [.lit (.int .i64 0), .lit (.string []), .lit (.int .i64 0), .lit (.int .i64 0)], .lit (.int .i64 0)], [], places) :=
  ⟨[], by kernel_rfl⟩

set_option maxRecDepth 100000 in
theorem lifted (os : Os) (started : os.Started) (H : Type) (enc : TypeId × Value → H) (F : Stop.Interp) :
    ReturnsInHanded {} Tryd.checked os 3 .any ((OpenSpec.ofChange Rows.faultsNoneSpec).preRow enc Tryd.prog Tryd.f3 Rows.faultsNoneRow.domain false Rows.faultsNoneRow.laid) (((OpenSpec.ofChange Rows.faultsNoneSpec).at F).post enc Tryd.prog Tryd.f3 false true false false) := by
  obtain ⟨places, hx⟩ := reads os enc
  refine returnsInHanded_of_row (C := Tryd.checked) (s := OpenSpec.ofChange Rows.faultsNoneSpec) own started (by kernel_rfl) Tryd.func3
    (witness_row_at (enc := enc) (C := Tryd.checked) false (laidWorld os) args0 rfl (by kernel_rfl) (by kernel_rfl) (by kernel_rfl)
      (OpenSpec.preRow_of_cond 8 hx (by kernel_rfl) (fun k hk => by cases hk) (by kernel_rfl) (laid_met os))) ?_
  intro W base args ds gs before hval hW _ _ _ hL hS _
  exact contract H enc W base args ds gs before hval hW hL hS

theorem said : Rows.FaultsNoneSaid :=
  OpenClaim.holds_of_cond 3 Tryd.f3 rfl rfl rfl rfl rfl rfl rfl ⟨rfl, rfl, rfl, rfl, rfl⟩ rfl rfl rfl rfl rfl (by kernel_rfl) Tryd.func3 (by kernel_rfl)
    (of_decide_eq_true (by kernel_rfl)) (by unfold Func.isWrapper; first | (rw [if_pos (by decide +kernel)]; kernel_rfl) | (rw [if_neg (by decide +kernel)]; exact ⟨rfl, rfl⟩))
    (fun os started H enc _ F => by rw [OpenClaim.pre_eq_preRow]; exact lifted os started H enc F)

/-- No parameter wants a stand-in: what the card asks. -/
theorem plain (f : FuncId) (fn : Func) (hf : Tryd.pinned.checked.prog.funcNamed "spillway/spillwaylaw03.FaultsNone" = some f) (hfn : Tryd.pinned.checked.prog.funcs[f]? = some fn) :
    true = Tryd.pinned.checked.prog.looks [] ∧ ∀ (j : Nat) t, fn.params[j]? = some t → Tryd.pinned.checked.prog.wantsStandIn t = false := by
  obtain rfl : f = 3 := Option.some.inj ((show Tryd.prog.funcNamed "spillway/spillwaylaw03.FaultsNone" = some 3 by kernel_rfl).symm.trans hf) |>.symm
  obtain rfl : fn = Tryd.f3 := (Option.some.inj (Tryd.func3.symm.trans hfn)).symm
  refine ⟨by kernel_rfl, fun j t ht => ?_⟩
  rw [Tryd.params3] at ht
  have : t = 24 ∨ t = 22 := by
    have hm := Array.mem_of_getElem? ht
    simp at hm
    first | omega | (rcases hm with h | h <;> simp [h])
  rcases this with rfl | rfl
  · exact (show Tryd.prog.wantsStandIn 24 = false by kernel_rfl)
  · exact (show Tryd.prog.wantsStandIn 22 = false by kernel_rfl)

/-- THE CARD. -/
theorem card : Rows.FaultsNoneCardSaid :=
  Claim7.holds_tied_plain_at .later [] _ _ _ _ said (fun _ h => by cases h) (by kernel_rfl) (fun _ h => by cases h) faultsNone_row_tie rfl ⟨rfl, rfl⟩ (by kernel_rfl) rfl plain (by kernel_rfl)
end Go.Proofs.YtocodilpldliiaaDoor.faultsNone
