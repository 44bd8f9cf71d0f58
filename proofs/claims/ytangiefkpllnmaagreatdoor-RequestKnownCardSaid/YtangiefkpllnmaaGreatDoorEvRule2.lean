/- Operations over data that are not known: one rule each. -/
import Derived.Test.YtangiefkpllnmaaGreatDoorEvFrame2
namespace Go.Ev
set_option linter.unusedVariables false
set_option linter.unusedSimpArgs false
variable {η : Nat → Value} {P : Program} {B : Nat}
/-- An operation whose value is told. -/
theorem Run.op (hη : OneCells η) {nest : Nest} (hreg : RegOk η P B nest) {fn : FuncId} {h0 h h' : AH} {f f2 : AF} {cs : List AF} {ops : Array Oper} {i : Nat} {rest : List Nat} {k : List Item} {o : Oper} {v : Value} {Q : Value → AH → Prop} (hm : f.mode = .run) (ht : f.todo = .inRegion ops (i :: rest) :: k)
    (ho : ops.toList[i]? = some o) (hw : wantedA ops.toList f.tm o = .ok true) (hx : execA P (evA f.tm) o h = .ok (.value v, h')) (hf : f.finish v = .ok f2) (r : Run η P B fn h0 ⟨f2, cs, h'⟩ Q) : Run η P B fn h0 ⟨f, cs, h⟩ Q := by
  have hs : stepA P nest ⟨f, cs, h⟩ = .ok (.next ⟨f2, cs, h'⟩) := by
    unfold stepA
    simp only [hm, ht, ho, hw, hx, afterA, hf, bind, Except.bind, if_true]
  exact .step hη hreg hs r
theorem exec_read {ρ : Operand → Value} {o : Oper} {h : AH} {v : Value} (hok : okOps P o = true) (hk : kindOf P o.op = .read) (hr : readA P ρ o h = .ok v) : execA P ρ o h = .ok (.value v, h) := by
  unfold execA
  rw [hok, hk]
  simp only [Bool.not_true, Bool.false_eq_true, if_false, hr]
  rfl
/-- The address of an element of a slice. -/
theorem read_indexAddr {ρ : Operand → Value} {o : Oper} {h : AH} {t elem : TypeId} {x ix : Operand} {a : Addr} {len cap n : Nat} {kd : IntKind} {i : Int} (ho : o.op = .indexAddr t x ix) (hu : undA P t = .ok (.slice elem)) (hn : sizeA P elem = .ok n) (hx : ρ x = .slice (some a) len cap) (hi : ρ ix = .int kd i) (hb : 0 ≤ i ∧ i < len) :
    readA P ρ o h = .ok (.pointer (some (addO a (i.toNat * n)))) := by
  unfold readA
  simp only [ho, hx, hi, intOfA, hu, hn, bind, Except.bind, if_pos hb]
/-- A cell at an offset that is not known. -/
theorem read_load {ρ : Operand → Value} {o : Oper} {h : AH} {t ty : TypeId} {x : Operand} {r off own : Nat} {c : List Value} {p : Bool} {v : Value} (ho : o.op = .load t x) (hx : ρ x = .pointer (some ⟨r, off, none⟩)) (ha : isAggA P t = .ok false) (hc : h.objs.get r = some (.cells ty c p own)) (hv : c[off]? = some v) :
    readA P ρ o h = .ok v := by
  have hl := (List.getElem?_eq_some_iff.1 hv).1
  have hd : (c.drop off).take 1 = [v] := by
    rw [List.drop_eq_getElem_cons hl]
    simp [(List.getElem?_eq_some_iff.1 hv).2]
  unfold readA
  simp only [ho, hx, addrA, loadA, ha, bind, Except.bind, if_true, Bool.false_eq_true, if_false, getC, cellsAt, hc]
  rw [if_pos ⟨by omega, trivial⟩]
  simp only [hd]
/-- A struct or an array at an offset that is not known. -/
theorem read_loadAgg {ρ : Operand → Value} {o : Oper} {h : AH} {t ty : TypeId} {x : Operand} {r off own n : Nat} {c l : List Value} {p : Bool} (ho : o.op = .load t x) (hx : ρ x = .pointer (some ⟨r, off, none⟩)) (ha : isAggA P t = .ok true) (hn : sizeA P t = .ok n) (hc : h.objs.get r = some (.cells ty c p own)) (hb : off + n ≤ c.length) (hv : (c.drop off).take n = l) :
    readA P ρ o h = .ok (aggL l) := by
  unfold readA
  simp only [ho, hx, addrA, loadA, ha, hn, bind, Except.bind, if_true, getC, cellsAt, hc]
  rw [if_pos ⟨hb, trivial⟩]
  simp only [hv]
/-- A remainder or a quotient by what is not 0. -/
theorem read_div {ρ : Operand → Value} {o : Oper} {h : AH} {t yt : TypeId} {x y : Operand} {op : BinOp} {kd : IntKind} {a b : Int} {v : Value} (ho : o.op = .binOp op t x y yt) (hx : ρ x = .int kd a) (hy : ρ y = .int kd b) (hb : b ≠ 0) (hop : (op = .quo ∧ v = .int kd (kd.wrap (a.tdiv b))) ∨ (op = .rem ∧ v = .int kd (a.tmod b))) : readA P ρ o h = .ok v := by
  unfold readA
  rcases hop with ⟨rfl, rfl⟩ | ⟨rfl, rfl⟩ <;> simp only [ho, hx, hy, guardOk, isEq, binA, isShift, intA, bind, Except.bind, if_true, if_neg hb, Bool.false_eq_true, if_false]
end Go.Ev
namespace Go.Ev
variable {η : Nat → Value} {P : Program} {B : Nat}
/-- All temporaries told, those that hold nothing too. -/
def fillT (tm : T Value) : Nat → T Value
  | 0 => tm
  | n + 1 => (fillT tm n).set n ((tm.get n).getD undef)
theorem fillT_get (tm : T Value) : ∀ (n t : Nat), (fillT tm n).get t = if t < n then some ((tm.get t).getD undef) else tm.get t
  | 0, t => by simp [fillT]
  | n + 1, t => by
    rw [fillT, T.get_set, fillT_get tm n]
    by_cases h : t = n
    · subst h; simp
    · rw [if_neg h]
      by_cases h2 : t < n
      · rw [if_pos h2, if_pos (by omega)]
      · rw [if_neg h2, if_neg (by omega)]
theorem Run.fill {fn : FuncId} {h0 h : AH} {f : AF} {cs : List AF} {Q : Value → AH → Prop} (r : Run η P B fn h0 ⟨{ f with tm := fillT f.tm f.n }, cs, h⟩ Q) : Run η P B fn h0 ⟨f, cs, h⟩ Q := by
  intro ρ0 w0 ρ fr cs' w cs0 p0 p R
  refine r ρ0 w0 ρ fr cs' w cs0 p0 p ⟨⟨R.fr.fn, ⟨R.fr.tm.1, fun t ht => ?_, fun t ht => ?_⟩, R.fr.todo, R.fr.defers, R.fr.mode, R.fr.kind, R.fr.round⟩, R.cs, R.pre⟩
  · have := R.fr.tm.2.1 t ht
    simp only [fillT_get]
    rw [if_neg (by have : f.n ≤ t := ht; omega)]; exact this
  · have := R.fr.tm.2.2 t ht
    simp only [fillT_get]
    rw [if_pos (show t < f.n from ht)]; exact this
/-- A tree by its entries. -/
def tL {α : Type} : List (Nat × α) → T α
  | [] => .nil
  | (t, v) :: l => (tL l).set t v
/-- The heap of a walk: entries, and the next name. -/
def hL (l : List (Nat × AObj)) (n : Nat) : AH := ⟨tL l, n⟩
/-- The first state of a call. -/
def begin' (P : Program) (f : FuncId) (args : List Value) (h : AH) : M AS := do
  let fr ← enterA P f args .normal
  .ok ⟨{ fr with tm := fillT fr.tm fr.n }, [], h⟩
theorem CallSpec.start {f : FuncId} {args : List Value} {h : AH} {s : AS} {Q : Value → AH → Prop} (he : begin' P f args h = .ok s) (r : Run η P B f h s Q) : CallSpec η P B f args h Q := by
  simp only [begin', bind_ok] at he
  obtain ⟨fr, he, h1⟩ := he
  rw [okk] at h1; subst h1
  exact .enter he (.fill r)
end Go.Ev
namespace Go.Ev
variable {η : Nat → Value} {P : Program} {B : Nat}
theorem Run.cast {fn : FuncId} {h0 : AH} {s s' : AS} {Q : Value → AH → Prop} (e : s' = s) (r : Run η P B fn h0 s' Q) : Run η P B fn h0 s Q := e ▸ r
/-- Temporaries: those that are told, and what the others hold. -/
def tmD (n : Nat) (d : Nat → Value) (l : List (Nat × Value)) : T Value := tmL ((List.range n).map fun t => (t, ((l.find? (·.1 == t)).map (·.2)).getD (d t)))
/-- What a tree holds. -/
def inT (tm : T Value) (t : Nat) : Value := (tm.get t).getD undef
theorem Run.loop (hη : OneCells η) {nest : Nest} (hreg : RegOk η P B nest) {fn : FuncId} {h0 h : AH} {f : AF} {cs : List AF} {body : Code} {k : List Item} {Q : Value → AH → Prop} (hm : f.mode = .run) (ht : f.todo = .code (.loop body) :: k ∨ f.todo = .inLoop body :: k)
    (r : Run η P B fn h0 ⟨{ f with todo := .code body :: .inLoop body :: k }, cs, h⟩ Q) : Run η P B fn h0 ⟨f, cs, h⟩ Q := by
  have hs : stepA P nest ⟨f, cs, h⟩ = .ok (.next ⟨{ f with todo := .code body :: .inLoop body :: k }, cs, h⟩) := by
    unfold stepA
    rcases ht with ht | ht <;> simp only [hm, ht]
  exact .step hη hreg hs r
/-- A heap of which less is told, under the same names. -/
theorem l2_same {σ : Nat → Nat} {N : Nat} {wk : Bool} : ∀ {c : List Value}, (∀ v, v ∈ c → RV σ N wk v v) → L2 (RV σ N wk) c c
  | [], _ => .nil
  | v :: c, h => .cons (h v (by simp)) (l2_same fun x hx => h x (by simp [hx]))
end Go.Ev
