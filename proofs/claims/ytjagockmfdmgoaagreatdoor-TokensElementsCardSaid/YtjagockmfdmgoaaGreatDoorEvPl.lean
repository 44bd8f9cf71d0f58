/- Listed variables whose blocks are known whole; and a contract of the library's shelf as a contract on the evaluator's states. -/
import Derived.Test.YtjagockmfdmgoaaGreatDoorEvTab
import Derived.Lib.LaidTab
namespace Go.Ev
set_option linter.unusedVariables false
set_option linter.unusedSimpArgs false
variable {η : Nat → Value} {P : Program} {B : Nat}
def objsP : List (Nat × TypeId × List Value) → T AObj
  | [] => .nil
  | x :: l => (objsP l).set x.1 (.cells x.2.1 x.2.2 true 0)
theorem objsP_get : ∀ {l : List (Nat × TypeId × List Value)} {r : Nat} {a : AObj}, (objsP l).get r = some a → ∃ x ∈ l, x.1 = r ∧ a = .cells x.2.1 x.2.2 true 0
  | [], r, a, h => by simp [objsP, T.get] at h
  | x :: l, r, a, h => by
    unfold objsP at h
    rw [T.get_set] at h
    by_cases e : r = x.1
    · rw [if_pos e] at h; cases h; exact ⟨x, by simp, e.symm, rfl⟩
    · rw [if_neg e] at h
      obtain ⟨y, h1, h2⟩ := objsP_get h
      exact ⟨y, by simp [h1], h2⟩
def heapP (P : Program) (l : List (Nat × TypeId × List Value)) : AH := ⟨objsP l, P.globals.size + 1⟩
/-- What a listed variable's block holds, all of it. -/
def TabAtP (η : Nat → Value) (P : Program) (W : World) (x : Nat × TypeId × List Value) : Prop :=
  x.1 < P.globals.size ∧ ∃ (C : Array Value), W.heap[x.1]? = some (.cells C x.2.1 (0, 0)) ∧ LR η (envL P W) x.2.2 C.toList
theorem preP {l : List (Nat × TypeId × List Value)} {W : World} (hl : ∀ x ∈ l, TabAtP η P W x) : Pre η P (envL P W) W.heap.size (heapP P l) W := by
  refine ⟨⟨fun r a h => ?_, fun r r' a a' b d n d' n' h h' e e' => ?_⟩, fun r hr => ?_, fun g hg => ⟨sizeAt W g, ?_⟩, Nat.le_refl _⟩
  · obtain ⟨x, hx, rfl, rfl⟩ := objsP_get h
    obtain ⟨h1, C, h2, h3⟩ := hl x hx
    have hs : sizeAt W x.1 = C.size := by unfold sizeAt; rw [h2]
    have hc : x.2.2.length = C.size := h3.len
    refine ⟨x.1, 0, C.size, _, by unfold envL; rw [if_pos (Nat.le_of_lt h1), hs], h2, ⟨C, x.2.1, 0, 0, rfl, ⟨rfl, by simp, ?_, fun i v hv => ?_, (fun _ => ⟨rfl, rfl, rfl, hc⟩), (fun h => by cases h)⟩⟩, (fun h => by cases h)⟩
    · omega
    · obtain ⟨y, hy, hv⟩ := h3.get hv
      exact ⟨y, by rw [Nat.zero_add]; exact hy, hv⟩
  · unfold envL at e e'
    split at e
    · split at e'
      · cases e; cases e'; rfl
      · cases e'
    · cases e
  · have h : P.globals.size + 1 ≤ r := hr
    unfold envL; rw [if_neg (by omega)]
  · unfold envL; rw [if_pos hg]
theorem CallSpec.trueP {f : FuncId} {args : List Value} {args' : Array Value} {l : List (Nat × TypeId × List Value)} {W : World} (hl : ∀ x ∈ l, TabAtP η P W x) (ha : LR η (envL P W) args args'.toList) (c : CallSpec η P W.heap.size f args (heapP P l) fun v _ => v = .bool true) :
    Calls P f args' W fun e w' => e = .returned (.bool true) ∧ Go.RowKit.Below W.heap.size W w' := by
  have p := preP hl
  refine (c.calls ha p).mono ?_
  rintro e w' ⟨v, h', ρ', x, rfl, rfl, hv, hp⟩
  exact ⟨by rw [hv.bool_inv], p.hr.below hp.fr p.low⟩
/-- A table of literals. -/
theorem TabAtP.lits {W : World} {g : Nat} {t : TypeId} {z : Array Value} {name : String} {c : List Value} (hS : W.ShapedOpen P) (h0 : ((begin P (fun _ _ => 0) default).world.heap[g]?).bind Obj.row? = some (z, t)) (hg : g < P.globals.size) (hn : P.globalNamed name = some g)
    (hv : W.var? P name = some c.toArray) (hc : c.all bareV = true) : TabAtP η P W (g, t, c) := by
  obtain ⟨cs, hh, _⟩ := hS.1 g z t hg h0
  unfold World.var? at hv
  rw [hn] at hv
  simp only [Option.bind_some, hh] at hv
  injection hv with hv
  refine ⟨hg, cs, hh, ?_⟩
  rw [hv]
  exact LR.bare hc
/-- A variable of one cell, of which no more is said than what it is. -/
theorem TabAtP.opq {W : World} {g i : Nat} {t : TypeId} {z : Array Value} {name : String} (hS : W.ShapedOpen P) (h0 : ((begin P (fun _ _ => 0) default).world.heap[g]?).bind Obj.row? = some (z, t)) (hg : g < P.globals.size) (hn : P.globalNamed name = some g)
    (hv : W.var? P name = some #[η i]) : TabAtP η P W (g, t, [.chan (some i)]) := by
  obtain ⟨cs, hh, _⟩ := hS.1 g z t hg h0
  unfold World.var? at hv
  rw [hn] at hv
  simp only [Option.bind_some, hh] at hv
  injection hv with hv
  refine ⟨hg, cs, hh, ?_⟩
  rw [hv]
  exact .cons (.opq i) .nil
/-- What a block that is known whole says of the world's. -/
theorem Pre.row {ρ : Env} {h : AH} {w : World} (p : Pre η P ρ B h w) {g : Nat} {ty : TypeId} {c : List Value} {own : Nat} (hg : g ≤ P.globals.size) (ho : h.objs.get g = some (.cells ty c true own)) :
    ∃ C : Array Value, w.heap[g]? = some (.cells C ty (0, 0)) ∧ C.toList.length = c.length ∧ ∀ (i : Nat) (v : Value), c[i]? = some v → ∃ x, C.toList[i]? = some x ∧ VR η ρ v x := by
  obtain ⟨b, d, n, o, h1, h2, ⟨C, ty', lo, hi, rfl, k⟩, _⟩ := p.hr.obj g _ ho
  obtain ⟨n', h3⟩ := p.glob g hg
  rw [h3] at h1
  injection h1 with h1
  injection h1 with e1 e2
  injection e2 with e2 e3
  subst e1; subst e2; subst e3
  obtain ⟨rfl, rfl, _, hl⟩ := k.plain rfl
  obtain rfl := k.ty
  refine ⟨C, h2, ?_, fun i v hv => ?_⟩
  · have := k.size; omega
  · obtain ⟨x, hx, hv⟩ := k.at_ i v hv
    exact ⟨x, by rw [Nat.zero_add] at hx; exact hx, hv⟩
/-- A variable of literals, in the world. -/
theorem Pre.lits {ρ : Env} {h : AH} {w : World} (p : Pre η P ρ B h w) {g : Nat} {ty : TypeId} {name : String} {k : IntKind} {zs : List Int} {own : Nat} (hn : P.globalNamed name = some g) (hg : g ≤ P.globals.size) (ho : h.objs.get g = some (.cells ty (zs.map fun z => Value.int k z) true own)) :
    Lib.TabIs P w name k zs := by
  obtain ⟨C, h1, h2, h3⟩ := p.row hg ho
  unfold Lib.TabIs World.var?
  rw [hn]
  simp only [Option.bind_some, h1]
  refine congrArg some ?_
  obtain ⟨C⟩ := C
  congr 1
  refine List.ext_getElem? fun i => ?_
  cases hz : (zs.map fun z => Value.int k z)[i]? with
  | none =>
    rw [List.getElem?_eq_none_iff] at hz ⊢
    simp only at h2
    omega
  | some v =>
    obtain ⟨x, hx, hv⟩ := h3 i v hz
    simp only [List.getElem?_map, Option.map_eq_some_iff] at hz
    obtain ⟨z, _, rfl⟩ := hz
    simp only at hx
    rw [hx, hv.int_inv]
/-- An opaque variable, in the world. -/
theorem Pre.cell {ρ : Env} {h : AH} {w : World} (p : Pre η P ρ B h w) {g i : Nat} {ty : TypeId} {own : Nat} (hg : g ≤ P.globals.size) (ho : h.objs.get g = some (.cells ty [.chan (some i)] true own)) :
    w.cell? ⟨g, 0, none⟩ = some (η i) := by
  obtain ⟨C, h1, h2, h3⟩ := p.row hg ho
  obtain ⟨x, hx, hv⟩ := h3 0 _ rfl
  unfold World.cell?
  simp only [h1]
  cases hv
  obtain ⟨C⟩ := C
  simp only at hx
  simp [hx]
/-- A contract of the world's, which returns v and leaves what was there alone, as a contract on the evaluator's states. -/
theorem CallSpec.ofCalls {f : FuncId} {args : List Value} {h : AH} {v : Value} (hx : ∀ (ρ : Env) (args' : Array Value) (w : World), LR η ρ args args'.toList → Pre η P ρ B h w → Calls P f args' w fun e w' => ∃ x, e = .returned x ∧ VR η ρ v x ∧ Go.RowKit.Below w.heap.size w w') :
    CallSpec η P B f args h (fun v' h' => v' = v ∧ h' = h) := by
  intro ρ args' w cs hl p
  obtain ⟨e, w', fr, ⟨x, rfl, hv, hb⟩, hc, hf, hlv⟩ := hx ρ args' w hl p cs
  refine ⟨v, h, ρ, fr, w', x, ⟨rfl, rfl⟩, ⟨fun _ _ h => h, fun _ _ => rfl, p.fresh, Nat.le_refl _, ⟨fun r a ha => ?_, p.hr.inj⟩, ⟨hb.os, hb.tape, hb.output, hb.size, fun k hk _ => hb.block k hk⟩, fun _ h => .inl h, fun _ h => .inl h⟩, hv, hf, hlv, hc⟩
  obtain ⟨b, d, n, o, h1, h2, h3, h4⟩ := p.hr.obj r a ha
  have hlt : b < w.heap.size := by
    rcases Nat.lt_or_ge b w.heap.size with h | h
    · exact h
    · rw [Array.getElem?_eq_none h] at h2; cases h2
  exact ⟨b, d, n, o, h1, by rw [hb.block b hlt]; exact h2, h3, h4⟩
end Go.Ev
