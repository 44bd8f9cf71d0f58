/- MKB, part 4: what the proof needs, in the order of its texts. -/
import Derived.Test.YtgicpaknlgammaaGreatDoorMKB3
namespace Go.Ev
set_option linter.unusedVariables false
set_option linter.unusedSimpArgs false
variable {η : Nat → Value} {P : Program} {B : Bd}
def objsL : List (Nat × TypeId × List Value) → T AObj
  | [] => .nil
  | x :: l => (objsL l).set x.1 (.cells x.2.1 x.2.2 false 0)
theorem objsL_get : ∀ {l : List (Nat × TypeId × List Value)} {r : Nat} {a : AObj}, (objsL l).get r = some a → ∃ x ∈ l, x.1 = r ∧ a = .cells x.2.1 x.2.2 false 0
  | [], r, a, h => by simp [objsL, T.get] at h
  | x :: l, r, a, h => by
    unfold objsL at h
    rw [T.get_set] at h
    by_cases e : r = x.1
    · rw [if_pos e] at h; cases h; exact ⟨x, by simp, e.symm, rfl⟩
    · rw [if_neg e] at h
      obtain ⟨y, h1, h2⟩ := objsL_get h
      exact ⟨y, by simp [h1], h2⟩
def heapL (P : Program) (l : List (Nat × TypeId × List Value)) : AH := ⟨objsL l, P.globals.size + 1⟩
def sizeAt (W : World) (g : Nat) : Nat := match W.heap[g]? with
  | some (.cells C _ _) => C.size
  | _ => 0
def envL (P : Program) (W : World) : Env := fun r => if r ≤ P.globals.size then some (r, 0, sizeAt W r) else none
def TabAt (η : Nat → Value) (P : Program) (W : World) (x : Nat × TypeId × List Value) : Prop :=
  x.1 < P.globals.size ∧ ∃ (C : Array Value) (fr : Nat × Nat), W.heap[x.1]? = some (.cells C x.2.1 fr) ∧ LR η (envL P W) x.2.2 C.toList
theorem preL {l : List (Nat × TypeId × List Value)} {W : World} (hl : ∀ x ∈ l, TabAt η P W x) : Pre η P (envL P W) W.heap.size (heapL P l) W := by
  refine ⟨⟨fun r a h => ?_, fun r r' a a' b d n d' n' h h' e e' => .inl ?_, fun _ _ _ _ _ _ _ hS => False.elim hS⟩, fun r hr => ?_, fun g hg => ⟨sizeAt W g, ?_⟩, Nat.le_refl _⟩
  · obtain ⟨x, hx, rfl, rfl⟩ := objsL_get h
    obtain ⟨h1, C, fr, h2, h3⟩ := hl x hx
    have hs : sizeAt W x.1 = C.size := by unfold sizeAt; rw [h2]
    refine ⟨x.1, 0, C.size, _, by unfold envL; rw [if_pos (Nat.le_of_lt h1), hs], h2, ⟨C, x.2.1, fr.1, fr.2, rfl, ⟨rfl, by simp, ?_, fun i v hv => ?_, (fun h => by cases h), (fun h => by cases h)⟩⟩, (fun h => by cases h)⟩
    · have := h3.len
      have e : C.toList.length = C.size := rfl
      omega
    · obtain ⟨y, hy, hv⟩ := h3.get hv
      exact ⟨y, by rw [Nat.zero_add]; exact hy, hv⟩
  · unfold envL at e e'
    split at e
    · split at e'
      · cases e; cases e'; rfl
      · cases e'
    · cases e
  · have h : P.globals.size + 1 ≤ r := hr
    unfold envL; rw [if_neg (by omega)]
  · unfold envL; rw [if_pos hg]
theorem CallSpec.trueL {f : FuncId} {args : List Value} {args' : Array Value} {l : List (Nat × TypeId × List Value)} {W : World} (hl : ∀ x ∈ l, TabAt η P W x) (ha : LR η (envL P W) args args'.toList) (c : CallSpec η P W.heap.size f args (heapL P l) fun v _ => v = .bool true) :
    Calls P f args' W fun e w' => e = .returned (.bool true) ∧ Go.RowKit.Below W.heap.size W w' := by
  have p := preL hl
  refine (c.calls ha p).mono ?_
  rintro e w' ⟨v, h', ρ', x, rfl, rfl, hv, hp⟩
  exact ⟨by rw [hv.bool_inv], p.hr.below hp.fr p.low⟩
theorem TabAt.lits {W : World} {g : Nat} {t : TypeId} {z : Array Value} {name : String} {c : List Value} (hS : W.ShapedOpen P) (h0 : ((begin P (fun _ _ => 0) default).world.heap[g]?).bind Obj.row? = some (z, t)) (hg : g < P.globals.size) (hn : P.globalNamed name = some g)
    (hv : W.var? P name = some c.toArray) (hc : c.all bareV = true) : TabAt η P W (g, t, c) := by
  obtain ⟨cs, hh, _⟩ := hS.1 g z t hg h0
  unfold World.var? at hv
  rw [hn] at hv
  simp only [Option.bind_some, hh] at hv
  injection hv with hv
  refine ⟨hg, cs, _, hh, ?_⟩
  rw [hv]
  exact LR.bare hc
theorem TabAt.handle {W : World} {g : Nat} {t u ty : TypeId} {z : Array Value} {name : String} (hS : W.ShapedOpen P) (h0 : ((begin P (fun _ _ => 0) default).world.heap[g]?).bind Obj.row? = some (z, t)) (hg : g < P.globals.size) (hn : P.globalNamed name = some g)
    (hv : W.var? P name = some #[.iface u (.agg #[typeHandle P ty])]) : TabAt η P W (g, t, [.iface u (.agg ⟨[.pointer (some ⟨P.globals.size, ty, none⟩)]⟩)]) := by
  obtain ⟨cs, hh, _⟩ := hS.1 g z t hg h0
  unfold World.var? at hv
  rw [hn] at hv
  simp only [Option.bind_some, hh] at hv
  injection hv with hv
  refine ⟨hg, cs, _, hh, ?_⟩
  rw [hv]
  have hp : VR η (envL P W) (.pointer (some ⟨P.globals.size, ty, none⟩)) (typeHandle P ty) := by
    have := VR.ptr (η := η) (ρ := envL P W) (r := P.globals.size) (o := ty) (b := P.globals.size) (d := 0) (n := sizeAt W P.globals.size) (by unfold envL; rw [if_pos (Nat.le_refl _)])
    rw [Nat.zero_add] at this
    exact this
  exact .cons (.iface _ (.agg' (.cons hp .nil))) .nil
end Go.Ev

