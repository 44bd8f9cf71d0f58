/- Calls that return one fresh row of bare cells, from any heap. -/
import Derived.Test.YtjagockmfdmgoaaGreatDoorEvTBA
import Derived.Lib.SlTrimSet
namespace Go.Ev
set_option linter.unusedVariables false
set_option linter.unusedSimpArgs false
variable {η : Nat → Value} {P : Program} {B : Nat}
theorem l2_bare {σ : Nat → Nat} {N : Nat} {w : Bool} : ∀ {l : List Value}, (∀ v ∈ l, RV σ N w v v) → L2 (RV σ N w) l l
  | [], _ => .nil
  | v :: l, h => .cons (h v (by simp)) (l2_bare fun x hx => h x (by simp [hx]))
/-- The heap with a row of cells in a new block. -/
def withRow (h : AH) (ty : TypeId) (c : List Value) (p : Bool) : AH := ⟨h.objs.set h.next (.cells ty c p 2), h.next + 1⟩
theorem CallSpec.fresh (hη : OneCells η) {f : FuncId} {args : List Value} {N : Nat} {mk : Nat → Value} {ty : TypeId} {c : List Value} {p : Bool} (hN : P.globals.size < N) (ha : ∀ σ M, L2 (RV σ M true) args args)
    (hv : ∀ (σ : Nat → Nat) (M r : Nat), r < M → RV σ M false (mk r) (mk (σ r))) (hc : ∀ σ M, ∀ v ∈ c, RV σ M false v v) (k : CallSpec η P B f args (heapN N) fun v h => v = mk N ∧ h = withRow (heapN N) ty c p) (h : AH) :
    CallSpec η P B f args h fun v h1 => v = mk h.next ∧ h1 = withRow h ty c p := by
  refine k.frame (σ := fun r => r) hη (emb_nil hN fun _ _ => rfl) (ha _ _) ?_
  rintro v hs' ⟨rfl, rfl⟩ _
  have hsg : sg (fun r => r) N h.next N = h.next := by unfold sg; rw [if_neg (Nat.lt_irrefl _), Nat.sub_self]; rfl
  refine ⟨mk h.next, withRow h ty c p, ⟨rfl, rfl⟩, ?_, ⟨?_, fun r a hr => ?_⟩⟩
  · have := hv (sg (fun r => r) (heapN N).next h.next) (N + 1) N (Nat.lt_succ_self _)
    rw [show (heapN N).next = N from rfl, hsg] at this
    exact this
  · show h.next + 1 = h.next + (N + 1 - N); omega
  · unfold withRow at hr
    simp only [T.get_set] at hr
    by_cases e : r = h.next
    · rw [if_pos e] at hr
      injection hr with hr
      subst hr
      refine .inl ⟨N, .cells ty c p 2, Nat.lt_succ_self _, by rw [show (heapN N).next = N from rfl, hsg, e], ?_, ?_⟩
      · show ((heapN N).objs.set N _).get N = _
        rw [T.get_set, if_pos rfl]
      · exact .cells _ _ (l2_bare (hc _ _)) (.inl rfl)
    · rw [if_neg e] at hr
      exact .inr (.inl ⟨hr, fun r0 a0 h0 => by cases h0⟩)
end Go.Ev
namespace Go.Ev
set_option linter.unusedVariables false
set_option linter.unusedSimpArgs false
namespace TE
open TB
/-- How many bytes there are before the first comma that is in no quoted string (with fuel); none: that is no value. -/
def elN : Nat → List UInt8 → Option Nat
  | _, [] => some 0
  | 0, _ => none
  | m + 1, c :: r => if plB c = false then none else if c.toNat = 44 then some 0 else if c.toNat = 34 then (match scan r with
      | none => none
      | some (n, _) => (elN m (r.drop n)).map (· + (n + 1))) else (elN m r).map (· + 1)
def elNb (s : List UInt8) : Bool := (elN s.length s).isSome
def elNv (s : List UInt8) : Nat := (elN s.length s).getD 0
def trimB (s : List UInt8) : List UInt8 := Lib.trimS s [9, 32]
def preL (s : List UInt8) : List UInt8 := if s.head? = some 44 then s.drop 1 else s
/-- The elements (with fuel); none: that is no value. -/
def els : Nat → List UInt8 → Option (List (List UInt8))
  | _, [] => some []
  | 0, _ => none
  | m + 1, s => match elN s.length s with
    | none => none
    | some n => (els m (s.drop (n + 1))).map fun l => if trimB (s.take n) = [] then l else trimB (s.take n) :: l
def elE (s : List UInt8) : Int := if 2000 < s.length then 3 else if (els s.length s).isSome then 0 else 6
def elL (s : List UInt8) : List (List UInt8) := if elE s = 0 then (els s.length s).getD [] else []
def strs (l : List (List UInt8)) : List Value := l.map fun s => .string ⟨⟨s⟩⟩
/-- What is between the bytes `by` that are in no quoted strings (with fuel); cur: what there is since the last one. -/
def pt (b : Nat) : Nat → List UInt8 → List UInt8 → Option (List (List UInt8))
  | _, [], cur => some [cur]
  | 0, _, _ => none
  | m + 1, c :: r, cur => if plB c = false then none else if c.toNat = 34 then (match scan r with
      | none => none
      | some (n, _) => pt b m (r.drop n) (cur ++ c :: r.take n)) else if c.toNat = b then (pt b m r []).map (cur :: ·) else pt b m r (cur ++ [c])
def ptB (b : Nat) (s : List UInt8) : Bool := (pt b s.length s []).isSome
def ptL (b : Nat) (s : List UInt8) : List (List UInt8) := (pt b s.length s []).getD []
def hasB (s t : List UInt8) : Bool := (elL s).any fun x => x.map lowB == t.map lowB
def hasE (s t : List UInt8) : Int := if tokB t = false then 2 else elE s
def elNK (args : List Value) (h : AH) : KT := match args with
  | [.string s] => .ite (elNb s.data.toList) (.ret (.tuple ⟨[.int .i64 (elNv s.data.toList : Nat), .bool true]⟩) h) (.ret (.tuple ⟨[.int .i64 0, .bool false]⟩) h)
  | _ => .ret undef h
def trimK (args : List Value) (h : AH) : KT := match args with
  | .string s :: _ => .ret (.string ⟨⟨trimB s.data.toList⟩⟩) h
  | _ => .ret undef h
def preK (args : List Value) (h : AH) : KT := match args with
  | [.string s, _] => .ret (.string ⟨⟨preL s.data.toList⟩⟩) h
  | _ => .ret undef h
def elEmp (s : List UInt8) : Bool := decide (elL s = [])
def hasR (s t : List UInt8) : Bool := decide (hasE s t = 0) && hasB s t
/-- A list of strings in a new row. -/
def elK (args : List Value) (h : AH) : KT := match args with
  | [.string s] => .ite (elEmp s.data.toList) (.ret (.tuple ⟨[.slice none 0 0, .int .i64 (elE s.data.toList)]⟩) h) (.ret (.tuple ⟨[.slice (some ⟨h.next, 0, none⟩) (elL s.data.toList).length (capU 1), .int .i64 (elE s.data.toList)]⟩) (withRow h 9 (strs (elL s.data.toList)) false))
  | _ => .ret undef h
def ptK (args : List Value) (h : AH) : KT := match args with
  | [.string s, .int _ b] => .ite (ptB b.toNat s.data.toList) (.ret (.tuple ⟨[.slice (some ⟨h.next, 0, none⟩) (ptL b.toNat s.data.toList).length (capU 1), .bool true]⟩) (withRow h 9 (strs (ptL b.toNat s.data.toList)) false)) (.ret (.tuple ⟨[.slice none 0 0, .bool false]⟩) h)
  | _ => .ret undef h
/-- Where a quoted string ends that begins at a place. -/
def rqiK (args : List Value) (h : AH) : KT := match args with
  | [.string s, .int _ i] => .ite (rqN (s.data.toList.drop i.toNat) != 0) (.ret (.tuple ⟨[.int .i64 ((i.toNat + rqN (s.data.toList.drop i.toNat) : Nat) : Int), .string ⟨⟨rqT (s.data.toList.drop i.toNat)⟩⟩, .bool true]⟩) h) (.ret (.tuple ⟨[.int .i64 0, .string ⟨⟨[]⟩⟩, .bool false]⟩) h)
  | _ => .ret undef h
def hasK (args : List Value) (h : AH) : KT := match args with
  | [.string s, .string t] => .ret (.tuple ⟨[.bool (hasR s.data.toList t.data.toList), .int .i64 (hasE s.data.toList t.data.toList)]⟩) h
  | _ => .ret undef h
/-- A list of strings, as it stands in the heap. -/
def listAt (h : AH) : Value → List (List UInt8)
  | .slice (some a) n _ => match h.objs.get a.block with
    | some (.cells _ c _ _) => (c.take n).map fun v => match v with | .string s => s.data.toList | _ => []
    | _ => []
  | _ => []
def strsK (args : List Value) (h : AH) : KT := match args with
  | [a, b] => .ret (.bool (listAt h a == listAt h b)) h
  | _ => .ret undef h
end TE
end Go.Ev
