/- RspKnC, part 7: what the proof needs, in the order of its texts. -/
import Derived.Test.YtjjlnehilcnheaaGreatDoorRspKnC6
namespace Go.Ev
set_option linter.unusedVariables false
set_option linter.unusedSimpArgs false
variable {η : Nat → Value} {P : Program} {B : Bd}
def keepT (t : T AObj) : List Nat → T AObj
  | [] => .nil
  | r :: l => match t.get r with
    | some a => (keepT t l).set r a
    | none => keepT t l
theorem keepT_get {t : T AObj} : ∀ {l : List Nat} {r : Nat} {a : AObj}, (keepT t l).get r = some a → t.get r = some a
  | [], r, a, h => by simp [keepT, T.get] at h
  | k :: l, r, a, h => by
    unfold keepT at h
    split at h
    · rename_i b hb
      rw [T.get_set] at h
      by_cases e : r = k
      · rw [if_pos e] at h; cases h; rw [e]; exact hb
      · rw [if_neg e] at h; exact keepT_get h
    · exact keepT_get h
def chunk (P : Program) (nest : Nest) (n : Nat) (live : List Nat) (s : AS) : M AS :=
  match runN' P nest n s with
  | .ok s => .ok ⟨s.fr, s.cs, ⟨keepT s.hp.objs live, s.hp.next⟩⟩
  | .error e => .error e
theorem Pre.drop {ρ : Env} {h : AH} {w : World} (p : Pre η P ρ B h w) {o : T AObj} (hs : ∀ r a, o.get r = some a → h.objs.get r = some a) : Pre η P ρ B ⟨o, h.next⟩ w :=
  ⟨⟨fun r a g => p.hr.obj r a (hs r a g), fun r r' a a' b d n d' n' h1 h2 => p.hr.inj r r' a a' b d n d' n' (hs _ _ h1) (hs _ _ h2), fun r a b d n h1 => p.hr.sh r a b d n (hs _ _ h1)⟩, p.fresh, p.glob, p.low⟩
theorem Post.drop {ρ ρ' : Env} {h h' : AH} {w w' : World} (p : Post η ρ B h w ρ' h' w') {o : T AObj} (hs : ∀ r a, o.get r = some a → h'.objs.get r = some a) : Post η ρ B h w ρ' ⟨o, h'.next⟩ w' :=
  ⟨p.le, p.old, p.fresh, p.next, ⟨fun r a g => p.hr.obj r a (hs r a g), fun r r' a a' b d n d' n' h1 h2 => p.hr.inj r r' a a' b d n d' n' (hs _ _ h1) (hs _ _ h2), fun r a b d n h1 => p.hr.sh r a b d n (hs _ _ h1)⟩, p.fr, fun b ⟨r, a, d, n, h1, h2⟩ => p.own b ⟨r, a, d, n, hs _ _ h1, h2⟩, fun b ⟨r, a, d, n, h1, h2⟩ => p.inn b ⟨r, a, d, n, hs _ _ h1, h2⟩⟩
theorem Run.drop {fn : FuncId} {h0 h : AH} {f : AF} {cs : List AF} {Q : Value → AH → Prop} {o : T AObj} (hs : ∀ r a, o.get r = some a → h.objs.get r = some a) (r : Run η P B fn h0 ⟨f, cs, ⟨o, h.next⟩⟩ Q) : Run η P B fn h0 ⟨f, cs, h⟩ Q := by
  intro ρ0 w0 ρ fr cs' w cs0 p0 p R
  exact r ρ0 w0 ρ fr cs' w cs0 p0 (p.drop hs) ⟨R.fr, R.cs, R.pre.drop hs⟩
theorem Run.chunk (hη : OneCells η) {nest : Nest} (hreg : RegOk η P B nest) {fn : FuncId} {h0 : AH} {Q : Value → AH → Prop} {s s' : AS} {n : Nat} {live : List Nat} (hs : chunk P nest n live s = .ok s') (r : Run η P B fn h0 s' Q) : Run η P B fn h0 s Q := by
  unfold Ev.chunk at hs
  split at hs
  · rename_i s1 h1
    rw [okk] at hs; subst hs
    exact .steps hη hreg n h1 (.drop (fun _ _ => keepT_get) r)
  · cases hs
def doneTrue (P : Program) (nest : Nest) (fn : FuncId) (s : AS) : Bool :=
  match stepA P nest s with
  | .ok (.done f (.bool true) _) => f == fn
  | _ => false
theorem Run.doneTrue (hη : OneCells η) {nest : Nest} (hreg : RegOk η P B nest) {fn : FuncId} {h0 : AH} {s : AS} (h : doneTrue P nest fn s = true) : Run η P B fn h0 s fun v _ => v = .bool true := by
  unfold Ev.doneTrue at h
  split at h
  · rename_i f h' hs
    rw [beq_iff_eq] at h; subst h
    exact .done hη hreg hs rfl
  · cases h
end Go.Ev

namespace Go.Ev
set_option linter.unusedVariables false
set_option linter.unusedSimpArgs false
variable {η : Nat → Value} {P : Program} {B : Bd}
def objsL : List (Nat × TypeId × List Value) → T AObj
  | [] => .nil
  | x :: l => (objsL l).set x.1 (.cells x.2.1 x.2.2 false 0)
theorem objsL_get : ∀ {l : List (Nat × TypeId × List Value)} {r : Nat} {a : AObj}, (objsL l).get r = some a → ∃ x ∈ l, x.1 = r ∧ a = .cells x.2.1 x.2.2 false 0
  | [], r, a, h => by simp [objsL, T.get] at h
  | x :: l, r, a, h => by
    unfold objsL at h
    rw [T.get_set] at h
    by_cases e : r = x.1
    · rw [if_pos e] at h; cases h; exact ⟨x, by simp, e.symm, rfl⟩
    · rw [if_neg e] at h
      obtain ⟨y, h1, h2⟩ := objsL_get h
      exact ⟨y, by simp [h1], h2⟩
def heapL (P : Program) (l : List (Nat × TypeId × List Value)) : AH := ⟨objsL l, P.globals.size + 1⟩
def sizeAt (W : World) (g : Nat) : Nat := match W.heap[g]? with
  | some (.cells C _ _) => C.size
  | _ => 0
def envL (P : Program) (W : World) : Env := fun r => if r ≤ P.globals.size then some (r, 0, sizeAt W r) else none
/-- What a listed variable's block holds. -/
def TabAt (η : Nat → Value) (P : Program) (W : World) (x : Nat × TypeId × List Value) : Prop :=
  x.1 < P.globals.size ∧ ∃ (C : Array Value) (fr : Nat × Nat), W.heap[x.1]? = some (.cells C x.2.1 fr) ∧ LR η (envL P W) x.2.2 C.toList
theorem preL {l : List (Nat × TypeId × List Value)} {W : World} (hl : ∀ x ∈ l, TabAt η P W x) : Pre η P (envL P W) W.heap.size (heapL P l) W := by
  refine ⟨⟨fun r a h => ?_, fun r r' a a' b d n d' n' h h' e e' => .inl ?_, fun _ _ _ _ _ _ _ hS => False.elim hS⟩, fun r hr => ?_, fun g hg => ⟨sizeAt W g, ?_⟩, Nat.le_refl _⟩
  · obtain ⟨x, hx, rfl, rfl⟩ := objsL_get h
    obtain ⟨h1, C, fr, h2, h3⟩ := hl x hx
    have hs : sizeAt W x.1 = C.size := by unfold sizeAt; rw [h2]
    refine ⟨x.1, 0, C.size, _, by unfold envL; rw [if_pos (Nat.le_of_lt h1), hs], h2, ⟨C, x.2.1, fr.1, fr.2, rfl, ⟨rfl, by simp, ?_, fun i v hv => ?_, (fun h => by cases h), (fun h => by cases h)⟩⟩, (fun h => by cases h)⟩
    · have := h3.len
      have e : C.toList.length = C.size := rfl
      omega
    · obtain ⟨y, hy, hv⟩ := h3.get hv
      exact ⟨y, by rw [Nat.zero_add]; exact hy, hv⟩
  · unfold envL at e e'
    split at e
    · split at e'
      · cases e; cases e'; rfl
      · cases e'
    · cases e
  · have h : P.globals.size + 1 ≤ r := hr
    unfold envL; rw [if_neg (by omega)]
  · unfold envL; rw [if_pos hg]
theorem CallSpec.trueL {f : FuncId} {args : List Value} {args' : Array Value} {l : List (Nat × TypeId × List Value)} {W : World} (hl : ∀ x ∈ l, TabAt η P W x) (ha : LR η (envL P W) args args'.toList) (c : CallSpec η P W.heap.size f args (heapL P l) fun v _ => v = .bool true) :
    Calls P f args' W fun e w' => e = .returned (.bool true) ∧ Go.RowKit.Below W.heap.size W w' := by
  have p := preL hl
  refine (c.calls ha p).mono ?_
  rintro e w' ⟨v, h', ρ', x, rfl, rfl, hv, hp⟩
  exact ⟨by rw [hv.bool_inv], p.hr.below hp.fr p.low⟩
/-- A table of literals. -/
theorem TabAt.lits {W : World} {g : Nat} {t : TypeId} {z : Array Value} {name : String} {c : List Value} (hS : W.ShapedOpen P) (h0 : ((begin P (fun _ _ => 0) default).world.heap[g]?).bind Obj.row? = some (z, t)) (hg : g < P.globals.size) (hn : P.globalNamed name = some g)
    (hv : W.var? P name = some c.toArray) (hc : c.all bareV = true) : TabAt η P W (g, t, c) := by
  obtain ⟨cs, hh, _⟩ := hS.1 g z t hg h0
  unfold World.var? at hv
  rw [hn] at hv
  simp only [Option.bind_some, hh] at hv
  injection hv with hv
  refine ⟨hg, cs, _, hh, ?_⟩
  rw [hv]
  exact LR.bare hc
/-- The type 'error' as package errors holds it. -/
theorem TabAt.handle {W : World} {g : Nat} {t u ty : TypeId} {z : Array Value} {name : String} (hS : W.ShapedOpen P) (h0 : ((begin P (fun _ _ => 0) default).world.heap[g]?).bind Obj.row? = some (z, t)) (hg : g < P.globals.size) (hn : P.globalNamed name = some g)
    (hv : W.var? P name = some #[.iface u (.agg #[typeHandle P ty])]) : TabAt η P W (g, t, [.iface u (.agg ⟨[.pointer (some ⟨P.globals.size, ty, none⟩)]⟩)]) := by
  obtain ⟨cs, hh, _⟩ := hS.1 g z t hg h0
  unfold World.var? at hv
  rw [hn] at hv
  simp only [Option.bind_some, hh] at hv
  injection hv with hv
  refine ⟨hg, cs, _, hh, ?_⟩
  rw [hv]
  have hp : VR η (envL P W) (.pointer (some ⟨P.globals.size, ty, none⟩)) (typeHandle P ty) := by
    have := VR.ptr (η := η) (ρ := envL P W) (r := P.globals.size) (o := ty) (b := P.globals.size) (d := 0) (n := sizeAt W P.globals.size) (by unfold envL; rw [if_pos (Nat.le_refl _)])
    rw [Nat.zero_add] at this
    exact this
  exact .cons (.iface _ (.agg' (.cons hp .nil))) .nil
end Go.Ev

