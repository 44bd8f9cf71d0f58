/- MessageKnown: the law of the examples of the document returns true, without conditions but those of its row; the row (the listed variables hold what the program's text lays) and the tied card. -/
import Derived.Test.YtgicpaknlgammaaGreatDoorCards
import Derived.Test.YtgicpaknlgammaaGreatDoorTie
import Derived.Test.YtgicpaknlgammaaGreatDoorMessageKnownRun
import Derived.Test.YtgicpaknlgammaaGreatDoorMessageKnownFacts
import Derived.Lib.LaidU8
import Derived.MapViews
import Derived.DeepKeys2
import Derived.LaidLaws
import Derived.Lay
import Derived.WalkKit
import Derived.ProofKit
import Derived.OpenShut
import Derived.Below
import Derived.ChangeMaps5
import Derived.ChangeShapes
import Derived.Deep.DeepHandedRow
import Derived.Deep.DeepWitnessRowRef
namespace Go.Proofs.YtgicpaknlgammaaGreatDoor.messageKnown
set_option linter.unusedVariables false
set_option linter.unusedSimpArgs false
open Go.ChangeShapes Go.WideShapes Go.ChangeAt Go.RowKit Go.ChangeMaps

theorem own : ownKnob Tryz.prog.godebug = none := by kernel_rfl

theorem var_lits {P : Program} {W : World} {name : String} {d : DataW Unit} {l : List Lit} {g : Nat} {t : TypeId} {m : Nat} (h : Lib.VarReads P W name d) (hg : P.globalNamed name = some g)
    (hty : (P.globals[g]?).map (·.type) = some t) (hk : P.keyTypeAt m t = true) (ht : P.tiled m t = true) (hl : d.flat = l) : W.var? P name = some (l.map Lit.toCell).toArray := by
  obtain ⟨g', t', cs, fuel, p, hg', ht', hv, hd⟩ := h
  obtain rfl := Option.some.inj (hg.symm.trans hg')
  obtain rfl := Option.some.inj (hty.symm.trans ht')
  have h1 := (keyLits_of_trod m t hk fuel cs.toList (d, p) hd).1
  rw [hl] at h1
  have h2 := cells_of_lits m t ht m cs.toList l h1
  rw [hv, ← h2]
theorem tabRow0 : ((begin Tryz.prog (fun _ _ => 0) default).world.heap[3]?).bind Obj.row? = some (Array.replicate 20 (.int .u64 0), 236) := by kernel_rfl
theorem in0 : ("internal/strconv.uint64pow10", Rows.laid_internal_strconv_uint64pow10) ∈ Rows.messageKnownRow.laid := List.mem_of_getElem? (i := 2) rfl
theorem tabRow1 : ((begin Tryz.prog (fun _ _ => 0) default).world.heap[0]?).bind Obj.row? = some ((List.replicate 9 [Value.string ⟨#[]⟩, .bool false, .bool false, .bool false, .bool false, .bool false]).flatten.toArray, 149) := by kernel_rfl
theorem in1 : ("spillway/request.methods", Rows.laid_spillway_request_methods) ∈ Rows.messageKnownRow.laid := List.mem_of_getElem? (i := 6) rfl
theorem tabRow2 : ((begin Tryz.prog (fun _ _ => 0) default).world.heap[1]?).bind Obj.row? = some (Array.replicate 128 (.int .u8 0), 219) := by kernel_rfl
theorem in2 : ("spillway/request.kinds", Rows.laid_spillway_request_kinds) ∈ Rows.messageKnownRow.laid := List.mem_of_getElem? (i := 7) rfl
/-- What the listed variables hold, for the evaluator. -/
theorem tabs {W : World} (h : laidMetH Tryz.prog Rows.messageKnownRow.laid W) (hS : W.ShapedOpen Tryz.prog) : ∀ x ∈ messageKnownRun.tab, Go.Ev.TabAt (fun _ => .nilIface) Tryz.prog W x := by
  have h' : laidMet Tryz.prog Rows.messageKnownRow.laid W := h
  have r0 : Lib.VarReads Tryz.prog W "internal/strconv.uint64pow10" Rows.laid_internal_strconv_uint64pow10 := Lib.laidMet.reads h' in0
  have r1 : Lib.VarReads Tryz.prog W "spillway/request.methods" Rows.laid_spillway_request_methods := Lib.laidMet.reads h' in1
  have r2 : Lib.VarReads Tryz.prog W "spillway/request.kinds" Rows.laid_spillway_request_kinds := Lib.laidMet.reads h' in2
  have v0 := var_lits (m := 8) r0 (g := 3) (t := 236) (by kernel_rfl) (by kernel_rfl) (by kernel_rfl) (by kernel_rfl) (l := _) rfl
  have v1 := var_lits (m := 8) r1 (g := 0) (t := 149) (by kernel_rfl) (by kernel_rfl) (by kernel_rfl) (by kernel_rfl) (l := _) rfl
  have v2 := var_lits (m := 8) r2 (g := 1) (t := 219) (by kernel_rfl) (by kernel_rfl) (by kernel_rfl) (by kernel_rfl) (l := _) rfl
  intro x hx
  have hx2 : x = ((messageKnownRun.tab)[0]'(by decide)) ∨ x = ((messageKnownRun.tab)[1]'(by decide)) ∨ x = ((messageKnownRun.tab)[2]'(by decide)) := by
    unfold messageKnownRun.tab at hx ⊢
    simpa using hx
  rcases hx2 with rfl | rfl | rfl
  · exact Go.Ev.TabAt.lits hS (z := _) tabRow0 (of_decide_eq_true (by kernel_rfl)) (name := "internal/strconv.uint64pow10") (by kernel_rfl) v0 (by kernel_rfl)
  · exact Go.Ev.TabAt.lits hS (z := _) tabRow1 (of_decide_eq_true (by kernel_rfl)) (name := "spillway/request.methods") (by kernel_rfl) v1 (by kernel_rfl)
  · exact Go.Ev.TabAt.lits hS (z := _) tabRow2 (of_decide_eq_true (by kernel_rfl)) (name := "spillway/request.kinds") (by kernel_rfl) v2 (by kernel_rfl)

set_option maxRecDepth 100000 in
/-- WHAT THE WALK GIVES, FOR EVERY ARGUMENT AND EVERY WORLD THAT MEETS THE ROW. -/
theorem contract (H : Type) (enc : TypeId × Value → H) (W : World) (base : Nat) (args : Array Value) (ds gs : List (DataW H)) (before : List MemPlace)
    (hval : ∀ (j : Nat) t v, Tryz.f3.params[j]? = some t → args[j]? = some v → Value.okWide Tryz.prog W .any base t v)
    (hW : DataW.Whole enc Tryz.prog Tryz.f3.params.toList Rows.messageKnownSpec.vars false W args.toList ds gs before) (hL : laidMetH Tryz.prog Rows.messageKnownRow.laid W) (hS : W.ShapedOpen Tryz.prog) :
    Calls Tryz.prog 3 args W fun e W' => ∃ v, e = .returned v ∧ Rows.messageKnownSpec.post enc Tryz.prog Tryz.f3 false true false false W args v W' := by
  have hW' := hW
  obtain ⟨p, q, hA0, hV, rfl, hfz, hnd⟩ := hW
  have hA : DataW.TrodAll enc Tryz.prog W 0 (fun _ => true) true Tryz.f3.params.toList args.toList ds p := hA0
  rw [Tryz.params3] at hA hval
  obtain ⟨hargs, rfl, rfl⟩ := trodAll_nil hA
  obtain rfl : args = #[] := by cases args; simp_all
  obtain ⟨rfl, rfl⟩ := trodVars_none hV
  clear hA0
  simp only [List.append_nil] at hW'
  refine (Go.Ev.CallSpec.trueL (tabs hL hS) .nil (messageKnownRun.whole (fun _ => rfl) Tryz.checked.mixed)).mono fun e W' ⟨he, hb⟩ => ?_
  subst he
  refine ⟨_, rfl, _, _, _, [], [], [], hW', ?_, ?_, ?_, hb.frame _, fun h => by cases h⟩
  · exact trodAll_cons_mk (shut_bool Tryz.underlying4 _) trodAll_mk0
  · exact trodAll_mk0
  · rfl

/-- A WORLD FOR THE WITNESS: the settled one, the listed variables holding what the program's text lays. -/
noncomputable def laidWorld (os : Os) : World := World.laidAll Tryz.prog os Rows.messageKnownRow.laid
def args0 : Array Value := #[]
theorem laid_met (os : Os) : laidMetH Tryz.prog Rows.messageKnownRow.laid ((laidWorld os).forCall (fun _ _ => 0) ⟨#[], args0, []⟩).memory := by
  rw [MakeChecks.laidMetH_plain _ _ _ (by kernel_rfl)]
  exact laidMet_laidAll _ (by kernel_rfl) (by kernel_rfl)
theorem reads (os : Os) {H : Type} (enc : TypeId × Value → H) : ∃ places, DataW.whole enc Tryz.prog ((laidWorld os).forCall (fun _ _ => 0) ⟨#[], args0, []⟩).memory Tryz.f3.params.toList Rows.messageKnownSpec.vars false args0.toList 8 = some ([], [], places) :=
  ⟨[], by kernel_rfl⟩

set_option maxRecDepth 100000 in
theorem lifted (os : Os) (started : os.Started) (H : Type) (enc : TypeId × Value → H) (F : Stop.Interp) :
    ReturnsInHanded {} Tryz.checked os 3 .any ((OpenSpec.ofChange Rows.messageKnownSpec).preRow enc Tryz.prog Tryz.f3 Rows.messageKnownRow.domain false Rows.messageKnownRow.laid) (((OpenSpec.ofChange Rows.messageKnownSpec).at F).post enc Tryz.prog Tryz.f3 false true false false) := by
  obtain ⟨places, hx⟩ := reads os enc
  refine returnsInHanded_of_row (C := Tryz.checked) (s := OpenSpec.ofChange Rows.messageKnownSpec) own started (by kernel_rfl) Tryz.func3
    (witness_row_atRef (enc := enc) (C := Tryz.checked) false (laidWorld os) args0 (World.laidAll_os _ _ _) (by kernel_rfl) (by kernel_rfl) (by kernel_rfl)
      (OpenSpec.preRow_of_cond 8 hx (by kernel_rfl) (fun k hk => by cases hk) (by kernel_rfl) (laid_met os))) ?_
  intro W base args ds gs before hval hW _ _ _ hL hS _
  exact contract H enc W base args ds gs before hval hW hL hS

theorem said : Rows.MessageKnownSaid :=
  OpenClaim.holds_of_cond 3 Tryz.f3 rfl rfl rfl rfl rfl rfl rfl ⟨rfl, rfl, rfl, rfl, rfl⟩ rfl rfl rfl rfl rfl (by kernel_rfl) Tryz.func3 facts
    (of_decide_eq_true (by kernel_rfl)) (by unfold Func.isWrapper; first | (rw [if_pos (by decide +kernel)]; kernel_rfl) | (rw [if_neg (by decide +kernel)]; exact ⟨rfl, rfl⟩))
    (fun os started H enc _ F => by rw [OpenClaim.pre_eq_preRow]; exact lifted os started H enc F)

/-- No parameter wants a stand-in: what the card asks. -/
theorem plain (f : FuncId) (fn : Func) (hf : Tryz.pinned.checked.prog.funcNamed "spillway/spillwaylaw10.MessageKnown" = some f) (hfn : Tryz.pinned.checked.prog.funcs[f]? = some fn) :
    true = Tryz.pinned.checked.prog.looks [] ∧ ∀ (j : Nat) t, fn.params[j]? = some t → Tryz.pinned.checked.prog.wantsStandIn t = false := by
  obtain rfl : f = 3 := Option.some.inj ((show Tryz.prog.funcNamed "spillway/spillwaylaw10.MessageKnown" = some 3 by kernel_rfl).symm.trans hf) |>.symm
  obtain rfl : fn = Tryz.f3 := (Option.some.inj (Tryz.func3.symm.trans hfn)).symm
  refine ⟨by kernel_rfl, fun j t ht => ?_⟩
  rw [Tryz.params3] at ht
  simp at ht

/-- THE CARD. -/
theorem card : Rows.MessageKnownCardSaid :=
  Claim7.holds_tied_plain_at .later [] _ _ _ _ said (fun _ h => by cases h) (by kernel_rfl) (fun _ h => by cases h) messageKnown_row_tie rfl ⟨rfl, rfl⟩ (by kernel_rfl) rfl plain (by kernel_rfl)
end Go.Proofs.YtgicpaknlgammaaGreatDoor.messageKnown
