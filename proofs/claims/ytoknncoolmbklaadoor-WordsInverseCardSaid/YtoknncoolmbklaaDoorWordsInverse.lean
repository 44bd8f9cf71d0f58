/- P1.7, WordsInverse: for every argument the law returns true, and each argument reads as it did; the row (the listed variables hold what the program's text lays) and the tied card. -/
import Derived.Test.YtoknncoolmbklaaDoorCards
import Derived.Test.YtoknncoolmbklaaDoorTie
import Derived.Test.YtoknncoolmbklaaDoorLawInverse
import Derived.Carry
import Derived.Test.YtoknncoolmbklaaDoorOpenFields
import Derived.Test.YtoknncoolmbklaaDoorIntsEq
import Derived.Test.YtoknncoolmbklaaDoorRowAmbI
import Derived.WalkKit
import Derived.ProofKit
import Derived.OpenShut
import Derived.Below
import Derived.ChangeMaps5
import Derived.ChangeShapes
import Derived.Deep.DeepHandedRow
namespace Go.Proofs.YtoknncoolmbklaaDoor.wordsInverse
set_option linter.unusedVariables false
set_option linter.unusedSimpArgs false
open Go.ChangeShapes Go.WideShapes Go.ChangeAt Go.RowKit Go.ChangeMaps

theorem own : ownKnob Tryd.prog.godebug = none := by kernel_rfl

set_option maxRecDepth 100000 in
/-- The numbers, opened: a list and a number. -/
theorem open_numbers {H : Type} {enc : TypeId × Value → H} {W : World} {r : Reach} {b0 base : Nat} {held : Bool} {v : Value} {d : DataW H} {ps : List MemPlace}
    (hval : Value.okWide Tryd.prog W r b0 47 v) (h : DataW.Trod enc Tryd.prog W base (fun _ => true) held 47 v d ps) (hw : ∀ x ∈ d.weights Tryd.prog 47, x ≤ reachBytes) :
    ∃ vz zs n, v = .agg #[vz, .int .i64 n] ∧ inI64 n ∧ IntsAt W vz zs := by
  have hu := Tryd.underlying47
  obtain ⟨cs, rfl, hsz⟩ := okWide_struct hu hval
  have h2 : Tryd.prog.cellsOf 47 = 2 := by kernel_rfl
  rw [h2] at hsz
  obtain ⟨fuel, hf⟩ := h
  obtain ⟨xs, k, _, hx, _, hxl, hg⟩ := DataW.trod_struct hu hf
  obtain ⟨c0, c1, rfl⟩ : ∃ c0 c1, cs = #[c0, c1] := by
    obtain ⟨l⟩ := cs
    match l, hsz with
    | [c0, c1], _ => exact ⟨c0, c1, rfl⟩
  have hrow : Row.okWide Tryd.prog W r b0 47 #[c0, c1] := by
    unfold Value.okWide at hval
    rw [hu] at hval
    obtain ⟨cs', e, _, hr⟩ := hval
    injection e with e
    rw [e]; exact hr
  obtain ⟨ts, hts, _, hcell⟩ := hrow
  have hts2 : Tryd.prog.cellTypes Tryd.prog.depth 47 = some [40, 2] := by kernel_rfl
  rw [hts2] at hts
  injection hts with hts
  subst hts
  obtain ⟨u0, e0, k0⟩ := hcell 0 c0 rfl
  obtain ⟨u1, e1, k1⟩ := hcell 1 c1 rfl
  obtain rfl : 40 = u0 := Option.some.inj e0
  obtain rfl : 2 = u1 := Option.some.inj e1
  have v0 : Value.okWide Tryd.prog W r b0 40 c0 := by
    unfold Value.okWide; rw [Tryd.underlying40]; exact k0
  have v1 : Value.okWide Tryd.prog W r b0 2 c1 := by
    unfold Value.okWide; rw [Tryd.underlying2]; exact k1
  have g0 := hg 0 _ rfl
  have g1 := hg 1 _ rfl
  have q0 : Tryd.prog.cellsOf 40 = 1 := by kernel_rfl
  have q1 : Tryd.prog.cellsOf 2 = 1 := by kernel_rfl
  match xs, hxl with
  | [x0, x1], _ =>
    obtain ⟨d0, p0⟩ := x0
    obtain ⟨d1, p1⟩ := x1
    injection hx with hd hp
    subst hd
    have t0 : DataW.Trod enc Tryd.prog W base (fun _ => true) held 40 c0 d0 p0 := by
      obtain ⟨p, m, c, rfl⟩ := okWide_slice Tryd.underlying40 v0
      exact ⟨k, by simpa [q0, Value.cells] using g0⟩
    have t1 : DataW.Trod enc Tryd.prog W base (fun _ => true) held 2 c1 d1 p1 := by
      obtain ⟨m, rfl⟩ := okWide_int Tryd.underlying2 v1
      exact ⟨k, by simpa [q1, Value.cells] using g1⟩
    obtain ⟨n, rfl, _, _, hwf⟩ := open_int Tryd.underlying2 v1 t1
    have hn : inI64 n := bounds_i64 hwf
    obtain ⟨zs, hz, _⟩ := open_intsAt v0 t0 (fun es rs he => by
      refine hw _ ?_
      subst he
      simp only [DataW.weights, hu]
      simp [DataW.weightsEach, DataW.weights, Tryd.underlying40])
    exact ⟨c0, zs, n, rfl, hn, hz⟩
theorem laidOut : laidOutB Tryd.prog = true := by kernel_rfl
set_option maxRecDepth 100000 in
/-- WHAT THE WALK GIVES, FOR EVERY ARGUMENT AND EVERY WORLD THAT MEETS THE ROW. -/
theorem contract (H : Type) (enc : TypeId × Value → H) (W : World) (base : Nat) (args : Array Value) (ds gs : List (DataW H)) (before : List MemPlace)
    (hval : ∀ (j : Nat) t v, Tryd.f9.params[j]? = some t → args[j]? = some v → Value.okWide Tryd.prog W .any base t v)
    (hW : DataW.Whole enc Tryd.prog Tryd.f9.params.toList Rows.wordsInverseSpec.vars false W args.toList ds gs before)
    (hsz : (DataW.weightsEach Tryd.prog (Tryd.f9.params.toList ++ (OpenSpec.ofChange Rows.wordsInverseSpec).bare.plain.varTypes Tryd.prog) (ds ++ gs)).all (· ≤ reachBytes) = true)
    (hL : laidMetH Tryd.prog Rows.wordsInverseRow.laid W) (hS : W.ShapedOpen Tryd.prog) :
    Calls Tryd.prog 9 args W fun e W' => ∃ v, e = .returned v ∧ Rows.wordsInverseSpec.post enc Tryd.prog Tryd.f9 false true false false W args v W' := by
  have hW' := hW
  obtain ⟨p, q, hA0, hV, rfl, hfz, hnd⟩ := hW
  have hA : DataW.TrodAll enc Tryd.prog W 0 (fun _ => true) true Tryd.f9.params.toList args.toList ds p := hA0
  rw [Tryd.params9] at hA hval hsz
  obtain ⟨v0, vs0, d0, ds0, p0, q0, hargs, rfl, rfl, h0, r0⟩ := trodAll_cons hA
  obtain ⟨v1, vs1, d1, ds1, p1, q1, rfl, rfl, rfl, h1, r1⟩ := trodAll_cons r0
  obtain ⟨v2, vs2, d2, ds2, p2, q2, rfl, rfl, rfl, h2, r2⟩ := trodAll_cons r1
  obtain ⟨rfl, rfl, rfl⟩ := trodAll_nil r2
  obtain rfl : args = #[v0, v1, v2] := by cases args; simp_all
  obtain ⟨rfl, rfl⟩ := trodVars_none hV
  obtain ⟨s, rfl, rfl, rfl, hs⟩ := open_string Tryd.underlying9 (hval 0 9 v0 rfl rfl) h0
  obtain ⟨l, fl⟩ := open_fields (hval 1 32 v1 rfl rfl) h1 (fun es rs hd => sized_slice hsz (j := 1) rfl (congrArg some hd) Tryd.underlying32)
  have h2' := h2
  obtain ⟨vz, zs, n, rfl, hn, hz⟩ := open_numbers (hval 2 47 v2 rfl rfl) h2 (fun x hx => by
    have := List.all_eq_true.1 hsz _ (DataW.weights_mem_each (j := 2) rfl rfl x hx)
    simpa using this)
  refine (lawInverse s v1 vz l zs n hn W (amb_ofI hL hS) fl hz (by unfold maxLen at hs; omega)).mono fun e W' ⟨he, hb⟩ => ?_
  subst he
  have hlt := hW'.lt
  refine ⟨_, rfl, _, _, _, [], [] ++ (p1 ++ (p2 ++ [])), [], hW', ?_, ?_, rfl, hb.frame _, fun h => by cases h⟩
  · exact trodAll_cons_mk (shut_bool Tryd.underlying4 _) trodAll_mk0
  · exact trodAll_cons_mk (Below.trod (t := 9) laidOut (by kernel_rfl) (of_decide_eq_true (by kernel_rfl)) h0 hb (fun x hx => by cases hx)) (trodAll_cons_mk (Below.trod (t := 32) laidOut (by kernel_rfl) (of_decide_eq_true (by kernel_rfl)) h1 hb (fun x hx => hlt x (by simp [hx]))) (trodAll_cons_mk (Below.trod (t := 47) laidOut (by kernel_rfl) (of_decide_eq_true (by kernel_rfl)) h2' hb (fun x hx => hlt x (by simp [hx]))) trodAll_mk0))

/-- The cells of a datum of literals. -/
def cellsOf (d : DataW Unit) : Array Value := (d.flat.map Lit.toCell).toArray
/-- Where the world's own blocks end. -/
noncomputable def low : Nat := (World.holding Tryd.prog default ⟨#[], #[], []⟩).heap.size
/-- A block of the world, its cells put in the place of others. -/
def lay (h : Array Obj) (g : Nat) (cs : Array Value) : Array Obj := h.modify g fun
  | .cells _ t frozen => .cells cs t frozen
  | o => o
/-- A WORLD FOR THE WITNESS: the settled one, the listed variables holding what the program's text lays. -/
noncomputable def laidWorld (os : Os) : World :=
  let w0 := World.holding Tryd.prog os ⟨#[.cells #[.string ⟨#[105, 110, 118, 97, 108, 105, 100, 32, 115, 121, 110, 116, 97, 120]⟩] 137, .cells #[.string ⟨#[118, 97, 108, 117, 101, 32, 111, 117, 116, 32, 111, 102, 32, 114, 97, 110, 103, 101]⟩] 137], #[], []⟩
  { w0 with heap := lay (lay (lay (lay (lay (lay (lay (lay w0.heap 0 (cellsOf Rows.laid_spillway_words_escapes)) 1 #[.iface 135 (.pointer (some ⟨low, 0, none⟩))])
      2 #[.iface 135 (.pointer (some ⟨low + 1, 0, none⟩))]) 3 (cellsOf Rows.laid_internal_strconv_uint64pow10))
      5 (cellsOf Rows.laid_math_bits_deBruijn32tab)) 6 (cellsOf Rows.laid_math_bits_deBruijn64tab)) 8 (cellsOf Rows.laid_unicode_utf8_acceptRanges)) 7 (cellsOf Rows.laid_unicode_utf8_first) }
def args0 : Array Value := #[.string ByteArray.empty, .slice none 0 0, .agg #[.slice none 0 0, .int .i64 0]]
theorem laid_met (os : Os) : laidMet Tryd.prog Rows.wordsInverseRow.laid ((laidWorld os).forCall (fun _ _ => 0) ⟨#[], args0, []⟩).memory :=
  laidMet_of_run' 8 (by kernel_rfl) (by kernel_rfl)
theorem reads (os : Os) {H : Type} (enc : TypeId × Value → H) : ∃ places, DataW.whole enc Tryd.prog ((laidWorld os).forCall (fun _ _ => 0) ⟨#[], args0, []⟩).memory Tryd.f9.params.toList Rows.wordsInverseSpec.vars false args0.toList 8 = some ([.lit (.string []), .nil, .agg [.nil, .lit (.int .i64 0)]], [], places) :=
  ⟨[], by kernel_rfl⟩

set_option maxRecDepth 100000 in
theorem lifted (os : Os) (started : os.Started) (H : Type) (enc : TypeId × Value → H) (F : Stop.Interp) :
    ReturnsInHanded {} Tryd.checked os 9 .any ((OpenSpec.ofChange Rows.wordsInverseSpec).preRow enc Tryd.prog Tryd.f9 Rows.wordsInverseRow.domain false Rows.wordsInverseRow.laid) (((OpenSpec.ofChange Rows.wordsInverseSpec).at F).post enc Tryd.prog Tryd.f9 false true false false) := by
  obtain ⟨places, hx⟩ := reads os enc
  refine returnsInHanded_of_row (C := Tryd.checked) (s := OpenSpec.ofChange Rows.wordsInverseSpec) own started (by kernel_rfl) Tryd.func9
    (witness_row_at (enc := enc) (C := Tryd.checked) false (laidWorld os) args0 rfl (by kernel_rfl) (by kernel_rfl) (by kernel_rfl)
      (OpenSpec.preRow_of_cond 8 hx (by kernel_rfl) (fun k hk => by cases hk) (by kernel_rfl) (laid_met os))) ?_
  intro W base args ds gs before hval hW _ _ hsz hL hS _
  exact contract H enc W base args ds gs before hval hW hsz hL hS

theorem said : Rows.WordsInverseSaid :=
  OpenClaim.holds_of_cond 9 Tryd.f9 rfl rfl rfl rfl rfl rfl rfl ⟨rfl, rfl, rfl, rfl, rfl⟩ rfl rfl rfl rfl rfl (by kernel_rfl) Tryd.func9 (by kernel_rfl)
    (of_decide_eq_true (by kernel_rfl)) (by unfold Func.isWrapper; first | (rw [if_pos (by decide +kernel)]; kernel_rfl) | (rw [if_neg (by decide +kernel)]; exact ⟨rfl, rfl⟩))
    (fun os started H enc _ F => by rw [OpenClaim.pre_eq_preRow]; exact lifted os started H enc F)

/-- No parameter wants a stand-in: what the card asks. -/
theorem plain (f : FuncId) (fn : Func) (hf : Tryd.pinned.checked.prog.funcNamed "spillway/spillwaylaw01.WordsInverse" = some f) (hfn : Tryd.pinned.checked.prog.funcs[f]? = some fn) :
    true = Tryd.pinned.checked.prog.looks [] ∧ ∀ (j : Nat) t, fn.params[j]? = some t → Tryd.pinned.checked.prog.wantsStandIn t = false := by
  obtain rfl : f = 9 := Option.some.inj ((show Tryd.prog.funcNamed "spillway/spillwaylaw01.WordsInverse" = some 9 by kernel_rfl).symm.trans hf) |>.symm
  obtain rfl : fn = Tryd.f9 := (Option.some.inj (Tryd.func9.symm.trans hfn)).symm
  refine ⟨by kernel_rfl, fun j t ht => ?_⟩
  rw [Tryd.params9] at ht
  have : t = 9 ∨ t = 32 ∨ t = 47 := by
    have hm := Array.mem_of_getElem? ht
    simp at hm
    first | omega | (rcases hm with h | h | h <;> simp [h]) | (rcases hm with h | h <;> simp [h]) | simp [hm]
  rcases this with rfl | rfl | rfl
  · exact (show Tryd.prog.wantsStandIn 9 = false by kernel_rfl)
  · exact (show Tryd.prog.wantsStandIn 32 = false by kernel_rfl)
  · exact (show Tryd.prog.wantsStandIn 47 = false by kernel_rfl)

/-- THE CARD. -/
theorem card : Rows.WordsInverseCardSaid :=
  Claim7.holds_tied_plain_at .later [] _ _ _ _ said (fun _ h => by cases h) (by kernel_rfl) (fun _ h => by cases h) wordsInverse_row_tie rfl ⟨rfl, rfl⟩ (by kernel_rfl) rfl plain (by kernel_rfl)
end Go.Proofs.YtoknncoolmbklaaDoor.wordsInverse
