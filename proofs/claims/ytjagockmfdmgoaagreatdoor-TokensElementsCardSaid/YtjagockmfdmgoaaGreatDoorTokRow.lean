/- What the rows of layer 5 share: what the listed variables hold, for the evaluator, and the closed call of awake. -/
import Derived.Test.YtjagockmfdmgoaaGreatDoorRows
import Derived.Test.YtjagockmfdmgoaaGreatDoorEvTQL
import Derived.Test.YtjagockmfdmgoaaGreatDoorTokensAwakeRun1
import Derived.Test.YtjagockmfdmgoaaGreatDoorEvFrame2
import Derived.Lib.LaidU8
import Derived.MapViews
import Derived.DeepKeys2
import Derived.LaidLaws
namespace Go.Proofs.YtjagockmfdmgoaaGreatDoor
set_option linter.unusedVariables false
set_option linter.unusedSimpArgs false
open Go.RowKit Go.Ev

theorem var_lits {P : Program} {W : World} {name : String} {d : DataW Unit} {l : List Lit} {g : Nat} {t : TypeId} {m : Nat} (h : Lib.VarReads P W name d) (hg : P.globalNamed name = some g)
    (hty : (P.globals[g]?).map (·.type) = some t) (hk : P.keyTypeAt m t = true) (ht : P.tiled m t = true) (hl : d.flat = l) : W.var? P name = some (l.map Lit.toCell).toArray := by
  obtain ⟨g', t', cs, fuel, p, hg', ht', hv, hd⟩ := h
  obtain rfl := Option.some.inj (hg.symm.trans hg')
  obtain rfl := Option.some.inj (hty.symm.trans ht')
  have h1 := (keyLits_of_trod m t hk fuel cs.toList (d, p) hd).1
  rw [hl] at h1
  have h2 := cells_of_lits m t ht m cs.toList l h1
  rw [hv, ← h2]
theorem var_iface {P : Program} {W : World} {name n : String} {d : DataW Unit} {g : Nat} {t : TypeId} {ms} (h : Lib.VarReads P W name (.iface n d)) (hg : P.globalNamed name = some g)
    (hty : (P.globals[g]?).map (·.type) = some t) (hi : P.underlying t = some (.interface ms)) : ∃ tp p, W.var? P name = some #[.iface tp p] := by
  obtain ⟨g', t', cs, fuel, p, hg', ht', hv, hd⟩ := h
  obtain rfl := Option.some.inj (hg.symm.trans hg')
  obtain rfl := Option.some.inj (hty.symm.trans ht')
  obtain ⟨_, u, v, hc, _⟩ := iface_of_trod hi hd
  refine ⟨u, v, ?_⟩
  rw [hv]
  have : cs = #[.iface u v] := by apply Array.toList_inj.1; exact hc
  rw [this]
/-- The opaque values: bytealg.MaxLen, strconv.ErrSyntax. -/
def eta (m : Int) (tp : TypeId) (p : Value) : Nat → Value := fun i => if i = 0 then .int .i64 m else if i = 1 then .iface tp p else .nilIface
theorem eta_one (m : Int) (tp : TypeId) (p : Value) : OneCells (eta m tp p) := by
  intro i; unfold eta; split
  · rfl
  · split <;> rfl
theorem rowOf (g : Nat) (z : Array Value × TypeId) (h : ((begin Tryz.prog (fun _ _ => 0) default).world.heap[g]?).bind Obj.row? = some z) : ((begin Tryz.prog (fun _ _ => 0) default).world.heap[g]?).bind Obj.row? = some (z.1, z.2) := h
theorem row0 : ((begin Tryz.prog (fun _ _ => 0) default).world.heap[0]?).bind Obj.row? = some (#[.int .i64 0], 3) := by kernel_rfl
theorem row1 : ((begin Tryz.prog (fun _ _ => 0) default).world.heap[1]?).bind Obj.row? = some (#[.nilIface], 72) := by kernel_rfl
theorem row5 : ((begin Tryz.prog (fun _ _ => 0) default).world.heap[5]?).bind Obj.row? = some (Array.replicate 20 (.int .u64 0), 160) := by kernel_rfl
/-- What the listed variables hold. -/
theorem tabs {W : World} (r5 : Lib.VarReads Tryz.prog W "internal/strconv.uint64pow10" Rows.laid_internal_strconv_uint64pow10) (r1 : Lib.VarReads Tryz.prog W "strconv.ErrSyntax" Rows.laid_strconv_ErrSyntax) (hS : W.ShapedOpen Tryz.prog) :
    ∃ m tp p, ∀ x ∈ TQ.tab, TabAtP (eta m tp p) Tryz.prog W x := by
  have v5 := var_lits (m := 8) r5 (g := 5) (t := 160) (by kernel_rfl) (by kernel_rfl) (by kernel_rfl) (by kernel_rfl) (l := _) rfl
  obtain ⟨tp, p, v1⟩ := var_iface r1 (g := 1) (t := 72) (by kernel_rfl) (by kernel_rfl) Tryz.underlying72
  obtain ⟨m, c0⟩ := Tryz.laysM145.s1_3 W hS
  have v0 : W.var? Tryz.prog "internal/bytealg.MaxLen" = some #[.int .i64 m] := by
    obtain ⟨cs, hh, hsz, _⟩ := hS.1 0 _ _ (of_decide_eq_true (by kernel_rfl)) row0
    unfold World.var?
    rw [show Tryz.prog.globalNamed "internal/bytealg.MaxLen" = some 0 by kernel_rfl]
    simp only [Option.bind_some, hh]
    have c0' : W.cell? ⟨0, 0, none⟩ = some (.int .i64 m) := c0
    unfold World.cell? at c0'
    simp only [hh, Option.isSome_none, Bool.false_eq_true, if_false] at c0'
    obtain ⟨cs⟩ := cs
    match cs, hsz, c0' with
    | [x], _, c0' => simp at c0'; rw [c0']
  refine ⟨m, tp, p, fun x hx => ?_⟩
  have hx2 : x = (0, 3, [.chan (some 0)]) ∨ x = (1, 72, [.chan (some 1)]) ∨ x = (5, 160, TQ.pows) := by
    unfold TQ.tab at hx
    simpa using hx
  rcases hx2 with rfl | rfl | rfl
  · exact TabAtP.opq hS row0 (of_decide_eq_true (by kernel_rfl)) (name := "internal/bytealg.MaxLen") (by kernel_rfl) v0
  · exact TabAtP.opq hS row1 (of_decide_eq_true (by kernel_rfl)) (name := "strconv.ErrSyntax") (by kernel_rfl) v1
  · exact TabAtP.lits hS row5 (of_decide_eq_true (by kernel_rfl)) (name := "internal/strconv.uint64pow10") (by kernel_rfl) v5 (by kernel_rfl)
theorem gsz8 : Tryz.prog.globals.size < 9 := of_decide_eq_true (by kernel_rfl)
/-- The closed call of awake, from any heap. -/
theorem awake_ok {η : Nat → Value} {B : Nat} (hη : OneCells η) (hmix : Tryz.prog.follows .mixedOrders = true) (h : AH) :
    CallSpec η Tryz.prog B 11 [] h fun v h' => v = .bool true ∧ h' = h := by
  refine CallSpec.pure hη (N := 9) gsz8 (fun σ M => .nil) (fun σ M => .bool _) ?_ h
  refine (tokensAwakeRun.whole hη hmix).forget hη ?_
  rintro v h1 rfl hn
  exact ⟨fun r => r, _, heapN 9, ⟨rfl, rfl⟩, emb_nil gsz8 fun _ _ => rfl, Nat.le_refl _, fun _ _ => rfl, .bool _⟩
end Go.Proofs.YtjagockmfdmgoaaGreatDoor
