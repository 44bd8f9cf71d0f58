/- RspKnC, part 1: what the proof needs, in the order of its texts. -/
import GoSem.Step
import GoSem.Claims
import Derived.Laws.Externs
import Derived.Laws.Sem
import Derived.Laws.Cells
import Derived.Below
namespace Go.Ev
set_option linter.unusedVariables false
set_option linter.unusedSimpArgs false

/-- A tree of values by number. -/
inductive T (α : Type) where
  | nil
  | node (o : Option α) (l r : T α)
def T.get {α : Type} : T α → Nat → Option α
  | .nil, _ => none
  | .node o l r, n => if n = 0 then o else if n % 2 = 1 then l.get (n / 2) else r.get (n / 2 - 1)
def T.setF {α : Type} : Nat → T α → Nat → Option α → T α
  | 0, t, _, _ => t
  | k + 1, .nil, n, v => if n = 0 then .node v .nil .nil else if n % 2 = 1 then .node none (T.setF k .nil (n / 2) v) .nil else .node none .nil (T.setF k .nil (n / 2 - 1) v)
  | k + 1, .node o l r, n, v => if n = 0 then .node v l r else if n % 2 = 1 then .node o (T.setF k l (n / 2) v) r else .node o l (T.setF k r (n / 2 - 1) v)
def T.set {α : Type} (t : T α) (n : Nat) (v : α) : T α := T.setF (n + 1) t n (some v)
def T.del {α : Type} (t : T α) (n : Nat) : T α := T.setF (n + 1) t n none
def T.ofL {α : Type} : List α → Nat → T α → T α
  | [], _, t => t
  | x :: xs, n, t => T.ofL xs (n + 1) (t.set n x)

inductive AObj where
  /-- own: 0 not the evaluator's own, 1 own but not to be written, 2 own -/
  | cells (ty : TypeId) (c : List Value) (plain : Bool) (own : Nat)
  | map (es : List MapEntry) (clock : Nat) (own : Bool)
  | stringIter (s : ByteArray) (pos : Nat)
  | mapIter (m : Option Nat) (since : Nat) (seen : List Nat) (stepped : Nat)
  | loop (state : LoopState) (pending : Option Code) (fn : FuncId) (tm : T Value) (n : Nat) (params : List Tmp) (assign body : Code) (defers : Nat)
  | deferred (ds : Option (List Deferred))

structure AH where
  objs : T AObj
  next : Nat

abbrev M := Except String
def no {α : Type} (s : String) : M α := .error s
def orNo {α : Type} (s : String) : Option α → M α
  | some x => .ok x
  | none => .error s

/-- Unknown capacities: of elements of n cells. -/
def capB : Nat := 9223372036854775808
def capU (n : Nat) : Nat := capB + n
/-- The mark of a slice of no elements, of which no more is known. -/
def capE : Nat := capB
def isU (c : Nat) : Bool := decide (capB ≤ c)

def cellsL : Value → List Value
  | .agg cs => cs.toList
  | v => [v]
def aggL (l : List Value) : Value := .agg ⟨l⟩
def tupL (l : List Value) : Value := .tuple ⟨l⟩
def addO (a : Addr) (n : Nat) : Addr := ⟨a.block, a.off + n, none⟩
def strL (l : List UInt8) : Value := .string ⟨⟨l⟩⟩
/-- A value without an address. -/
def bareV : Value → Bool
  | .bool _ | .int _ _ | .float _ _ | .complex _ _ _ | .string _ | .pointer none | .map none | .nilFunc | .nilIface => true
  | .slice none _ c => !isU c
  | _ => false
def bareA : Value → Bool
  | .agg cs => cs.toList.all bareV
  | .tuple cs => cs.toList.isEmpty
  | v => bareV v
def intOfA : Value → M Int
  | .int _ n => .ok n
  | _ => no "int expected"
def addrA : Value → M Addr
  | .pointer (some a) => if a.spot = none then .ok a else no "spot"
  | _ => no "address expected"

def newA (h : AH) (o : AObj) : Nat × AH := (h.next, { objs := h.objs.set h.next o, next := h.next + 1 })
def putA (h : AH) (r : Nat) (o : AObj) : AH := { h with objs := h.objs.set r o }
def cellsAt (h : AH) (r : Nat) : M (TypeId × List Value × Bool × Nat) :=
  match h.objs.get r with
  | some (.cells ty c p own) => .ok (ty, c, p, own)
  | _ => no "no cells"
def getC (h : AH) (a : Addr) (n : Nat) : M (List Value) :=
  match cellsAt h a.block with
  | .ok (_, c, _, _) => if a.off + n ≤ c.length ∧ a.spot = none then .ok ((c.drop a.off).take n) else no "cells out of range"
  | .error e => .error e
def splice (c : List Value) (off : Nat) (vs : List Value) : List Value := c.take off ++ vs ++ c.drop (off + vs.length)
/-- Is it the value of one cell? -/
def oneC : Value → Bool
  | .agg _ | .tuple _ => false
  | _ => true
def storeC (h : AH) (a : Addr) (vs : List Value) : M AH :=
  match vs with
  | [] => .ok h
  | _ => match cellsAt h a.block with
    | .ok (ty, c, p, own) => if own = 2 ∧ a.off + vs.length ≤ c.length ∧ a.spot = none ∧ vs.all oneC = true then .ok (putA h a.block (.cells ty (splice c a.off vs) p 2)) else no "store"
    | .error e => .error e
def mapOf (h : AH) (r : Nat) : M (List MapEntry × Nat × Bool) :=
  match h.objs.get r with
  | some (.map es c own) => .ok (es, c, own)
  | _ => no "no map"
def rep (z : List Value) : Nat → List Value
  | 0 => []
  | n + 1 => z ++ rep z n
def bytesV (l : List UInt8) : List Value := l.map fun b => .int .u8 b.toNat
def bytesOf : List Value → M (List UInt8)
  | [] => .ok []
  | .int .u8 n :: r => match bytesOf r with
    | .ok l => .ok (UInt8.ofNat n.toNat :: l)
    | .error e => .error e
  | _ => no "byte"

section
variable (P : Program)
def infoA (t : TypeId) : M TypeInfo := orNo "type" (P.info? t)
def undA (t : TypeId) : M TypeDesc := orNo "type" (P.underlying t)
def isAggA (t : TypeId) : M Bool := do
  match ← undA P t with
  | .struct _ | .array _ _ => .ok true
  | _ => .ok false
def sizeA (t : TypeId) : M Nat := do .ok (← infoA P t).size
def zeroA (t : TypeId) : M Value := do
  let v ← orNo "zero" (← infoA P t).zero
  if bareA v then .ok v else no "zero"
def loadA (h : AH) (t : TypeId) (a : Addr) : M Value := do
  if ← isAggA P t then .ok (aggL (← getC h a (← sizeA P t)))
  else match ← getC h a 1 with
    | [v] => .ok v
    | _ => no "cell"
def storeA (h : AH) (t : TypeId) (a : Addr) (v : Value) : M AH := do
  if (cellsL v).length ≠ (← sizeA P t) then no "store: size" else storeC h a (cellsL v)
def partA (t : TypeId) (cs : List Value) (off : Nat) : M Value := do
  if ← isAggA P t then .ok (aggL ((cs.drop off).take (← sizeA P t))) else orNo "part" cs[off]?
def fillA (place : Nat → Option (Nat × Nat)) : List Value → List (Nat × Value) → M (List Value)
  | c, [] => .ok c
  | c, (i, v) :: r => match place i with
    | none => no "fill"
    | some (off, size) => if (cellsL v).length ≠ size ∨ off + size > c.length then no "fill size" else fillA place (splice c off (cellsL v)) r
def placesA : List Field → M (List (Nat × Nat))
  | [] => .ok []
  | f :: fs => do
    let s ← sizeA P f.type
    let r ← placesA fs
    .ok ((f.offset, s) :: r)
def boundA (x : Value) (y : Nat) : M Nat := do
  let i ← intOfA x
  if 0 ≤ i ∧ i ≤ y then .ok i.toNat else no "slice bound"
/-- low, high, max of a slice expression -/
def boundsA (len cap : Nat) (lo hi mx : Option Value) : M (Nat × Nat × Nat) := do
  let m ← (match mx with | some v => boundA v cap | none => .ok cap : M Nat)
  let h ← (match hi, mx with
    | some v, some _ => boundA v m
    | some v, none => boundA v m
    | none, none => .ok len
    | none, some _ => no "max without high" : M Nat)
  let l ← (match lo with | some v => boundA v h | none => .ok 0 : M Nat)
  .ok (l, h, m)
/-- A slice of a known capacity. -/
def mkS (a : Option Addr) (l c : Nat) : M Value := if isU c then no "a long slice" else .ok (.slice a l c)
def sliceA (t : TypeId) (x : Value) (lo hi mx : Option Value) : M Value := do
  match ← undA P t, x with
  | .string, .string s =>
    if mx.isSome then no "max" else do
    let (l, h, _) ← boundsA s.size s.size lo hi none
    .ok (strL ((s.data.toList.drop l).take (h - l)))
  | .slice elem, .slice a len cap => do
    let size ← sizeA P elem
    if a.isNone = true ∧ cap = capE then
      if mx.isSome then no "slice: mark" else do
      let _ ← boundsA len len lo hi mx
      .ok (.slice none 0 capE)
    else if isU cap then
      let (l, h, m) ← boundsA len len lo hi mx
      if cap ≠ capU size ∨ size = 0 then no "slice: mark" else
      if mx.isSome then mkS (if m = l then a else a.map (addO · (l * size))) (h - l) (m - l)
      else if l < len ∨ l = 0 then .ok (.slice (a.map (addO · (l * size))) (h - l) cap) else .ok (.slice none 0 capE)
    else
      let (l, h, m) ← boundsA len cap lo hi mx
      mkS (if m = l then a else a.map (addO · (l * size))) (h - l) (m - l)
  | .pointer arr, .pointer (some a) => do
    match ← undA P arr with
    | .array n elem => do
      let (l, h, m) ← boundsA n n lo hi mx
      let size ← sizeA P elem
      mkS (some (if m = l then a else addO a (l * size))) (h - l) (m - l)
    | _ => no "slice: array"
  | .array n elem, .pointer (some a) => do
    let (l, h, m) ← boundsA n n lo hi mx
    let size ← sizeA P elem
    mkS (some (if m = l then a else addO a (l * size))) (h - l) (m - l)
  | _, _ => no "slice of what"

/-- == -/
def eqFields (eq : TypeId → Value → Value → M Bool) (xs ys : List Value) : List Field → M Bool
  | [] => .ok true
  | f :: fs => if f.name = "_" then eqFields eq xs ys fs else do
    if ← eq f.type (← partA P f.type xs f.offset) (← partA P f.type ys f.offset) then eqFields eq xs ys fs else .ok false
def eqAddr (h : AH) (a b : Addr) : M Bool :=
  if a.spot = none ∧ b.spot = none then
    if a.block = b.block then .ok (a.off == b.off)
    else match cellsAt h a.block, cellsAt h b.block with
      | .ok (_, c, p, _), .ok (_, c', p', _) => if p && p' && !c.isEmpty && !c'.isEmpty then .ok false else no "eq pointers"
      | _, _ => no "eq pointers: no blocks"
  else no "eq spot"
def eqA (h : AH) : Nat → TypeId → Value → Value → M Bool
  | 0, _, _, _ => no "eq depth"
  | d + 1, t, x, y => do
    match ← undA P t, x, y with
    | .bool, .bool a, .bool b => .ok (a == b)
    | .int _, .int k a, .int k' b => if k = k' then .ok (a == b) else no "eq kinds"
    | .string, .string a, .string b => .ok (a.data.toList == b.data.toList)
    | .pointer _, .pointer none, .pointer b => .ok b.isNone
    | .pointer _, .pointer _, .pointer none => .ok false
    | .pointer elem, .pointer (some a), .pointer (some b) => do if (← sizeA P elem) ≠ 0 then eqAddr h a b else no "eq size 0"
    | .interface _, .nilIface, .nilIface => .ok true
    | .interface _, .nilIface, .iface _ _ | .interface _, .iface _ _, .nilIface => .ok false
    | .interface _, .iface tx vx, .iface ty vy =>
      if tx ≠ ty then .ok false else do
      let i ← infoA P tx
      if !i.comparable then no "eq uncomparable" else eqA h d tx vx vy
    | .struct fields, .agg xs, .agg ys => if P.stoodInHeld t then no "eq stood in" else eqFields P (eqA h d) xs.toList ys.toList fields.toList
    | .slice _, .slice none _ c, .slice b _ c2 => if c = capE ∨ c2 = capE then no "eq slice" else .ok b.isNone
    | .slice _, .slice _ _ c, .slice none _ c2 => if c = capE ∨ c2 = capE then no "eq slice" else .ok false
    | .map _ _, .map none, .map b => .ok b.isNone
    | .map _ _, .map _, .map none => .ok false
    | .func _ _ _, .nilFunc, .nilFunc => .ok true
    | .func _ _ _, .nilFunc, .func _ _ _ | .func _ _ _, .func _ _ _, .nilFunc => .ok false
    | _, _, _ => no "eq of what"

def cmpA (op : BinOp) (a b : Int) : M Value :=
  match op with
  | .eql => .ok (.bool (a == b)) | .neq => .ok (.bool (a != b)) | .lss => .ok (.bool (decide (a < b))) | .leq => .ok (.bool (decide (a ≤ b))) | .gtr => .ok (.bool (decide (a > b))) | .geq => .ok (.bool (decide (a ≥ b)))
  | _ => no "cmp"
def intA (op : BinOp) (k : IntKind) (a b : Int) : M Value :=
  match op with
  | .add => .ok (.int k (k.wrap (a + b))) | .sub => .ok (.int k (k.wrap (a - b))) | .mul => .ok (.int k (k.wrap (a * b)))
  | .quo => if b = 0 then no "div" else .ok (.int k (k.wrap (a.tdiv b)))
  | .rem => if b = 0 then no "div" else .ok (.int k (a.tmod b))
  | .and => .ok (.int k (k.wrap (BitVec.ofInt k.bits a &&& BitVec.ofInt k.bits b).toNat))
  | .or => .ok (.int k (k.wrap (BitVec.ofInt k.bits a ||| BitVec.ofInt k.bits b).toNat))
  | .xor => .ok (.int k (k.wrap (BitVec.ofInt k.bits a ^^^ BitVec.ofInt k.bits b).toNat))
  | .andNot => .ok (.int k (k.wrap (BitVec.ofInt k.bits a &&& ~~~ BitVec.ofInt k.bits b).toNat))
  | op => cmpA op a b
def shiftA (op : BinOp) (k : IntKind) (a b : Int) : M Value :=
  if b < 0 then no "shift" else match op with
    | .shl => .ok (.int k (k.wrap (a * 2 ^ (min b.toNat k.bits))))
    | .shr => .ok (.int k (a.fdiv (2 ^ (min b.toNat k.bits))))
    | _ => no "shift"
def strA (op : BinOp) (a b : List UInt8) : M Value :=
  let eq := a == b
  let lt := Op.bytesLess a b
  match op with
  | .add => if a.length + b.length ≤ 9223372036854775807 then .ok (strL (a ++ b)) else no "long"
  | .eql => .ok (.bool eq) | .neq => .ok (.bool !eq)
  | .lss => .ok (.bool lt) | .leq => .ok (.bool (lt || eq))
  | .gtr => .ok (.bool !(lt || eq)) | .geq => .ok (.bool !lt)
  | _ => no "string op"
def isShift : BinOp → Bool
  | .shl | .shr => true
  | _ => false
def isEq : BinOp → Option Bool
  | .eql => some true
  | .neq => some false
  | _ => none
def isConstO : Operand → Bool
  | .const _ => true
  | _ => false
/-- Could '==' meet two nil interfaces with methods? -/
def nilOk (t : TypeId) : M Bool :=
  match P.underlying t with
  | some (.interface ms) => .ok ms.isEmpty
  | some _ => .ok true
  | none => no "type"
def guardOk (op : BinOp) (t : TypeId) (x y : Operand) (a b : Value) : M Bool :=
  match isEq op with
  | none => .ok true
  | some _ => match a, b with
    | .nilIface, .nilIface => if isConstO x || isConstO y then .ok true else nilOk P t
    | .agg _, .agg _ => .ok (!P.eqGuardType P.depth t)
    | _, _ => .ok true
def plainV : Value → Bool
  | .int .. | .string _ | .float .. | .complex .. | .chan _ | .tuple _ => false
  | _ => true
def binA (h : AH) (op : BinOp) (t : TypeId) (x y : Value) : M Value :=
  match x, y with
  | .int k a, .int k' b => if isShift op then shiftA op k a b else if k = k' then intA op k a b else no "kinds"
  | .string a, .string b => strA op a.data.toList b.data.toList
  | x, y => if plainV x && plainV y then
      match isEq op with
      | some want => do .ok (.bool ((← eqA P h 10000 t x y) == want))
      | none => no "binop"
    else no "binop"
def unA (op : UnOp) (x : Value) : M Value :=
  match op, x with
  | .neg, .int k n => .ok (.int k (k.wrap (0 - n)))
  | .xor, .int k n => .ok (.int k (k.wrap (BitVec.ofInt k.bits (if k.signed then -1 else k.max) ^^^ BitVec.ofInt k.bits n).toNat))
  | .not, .bool b => .ok (.bool !b)
  | _, _ => no "unop"
def isSliceT (t : TypeId) : Bool := match P.underlying t with | some (.slice _) => true | _ => false
/-- Conversions that make no memory. -/
def convA (h : AH) (src dst : TypeId) (x : Value) : M Value := do
  match ← undA P src, ← undA P dst, x with
  | _, .int k, .int _ n => .ok (.int k (k.wrap n))
  | _, .string, .int _ n => .ok (.string (Utf8.encode n))
  | _, .string, .string s => .ok (.string s)
  | .slice e, .string, .slice a len c => do
    if a.isNone = true ∧ c = capE then no "conv slice" else
    match ← undA P e, a with
    | .int .u8, none => .ok (.string ⟨#[]⟩)
    | .int .u8, some a => do .ok (strL (← bytesOf (← getC h a len)))
    | _, _ => no "conv"
  | .pointer t, .unsafePointer, .pointer (some a) => do
    let n ← sizeA P t
    let (_, c, p, _) ← cellsAt h a.block
    if n ≠ 0 ∧ p = true ∧ a.off < c.length ∧ a.spot = none then .ok (.pointer (some a)) else no "conv: pointer"
  | .unsafePointer, .pointer u, .pointer (some a) => do
    let _ ← infoA P u
    let (ty, c, p, _) ← cellsAt h a.block
    if p = true ∧ liesAt P P.depth ty (c.length / P.cellsOf ty) a.off u 1 = true ∧ a.spot = none then .ok (.pointer (some a)) else no "conv: pointer"
  | _, _, _ => no "conv"

/-- append -/
def firstA (h : AH) (size n : Nat) : Value → M (List Value)
  | .slice (some a) _ _ => getC h a (n * size)
  | .slice none _ c => if n * size = 0 ∧ c ≠ capE then .ok [] else no "nil cells"
  | .string s => if size = 1 then .ok (bytesV (s.data.toList.take n)) else no "bytes"
  | _ => no "slice or string"
def lenA : Value → M Nat
  | .slice _ n _ => .ok n
  | .string s => .ok s.size
  | _ => no "slice or string"
def isIntT (t : TypeId) : M Bool := do
  match ← undA P t with
  | .int _ => .ok true
  | _ => .ok false
/-- The row behind an append that need not, or cannot, be in place. -/
def freshA (h : AH) (elem : TypeId) (size need : Nat) (cells : List Value) : Value × AH :=
  (.slice (some ⟨h.next, 0, none⟩) need (capU size), (newA h (.cells elem cells false 2)).2)
def appendA (h : AH) (argTypes : List TypeId) (args : List Value) : M (Value × AH) := do
  match argTypes, args with
  | [sT, xT], [.slice base len cap, x] => do
    if base.isNone = true ∧ cap = capE then no "append: no row" else
    match ← undA P sT with
    | .slice elem => do
      let ei ← infoA P elem
      let z ← zeroA P elem
      let isInt ← isIntT P xT
      if isInt then no "append of make" else
      if ei.size = 0 ∨ ei.bytes > 65536 ∨ (cellsL z).length ≠ ei.size then no "append: size" else
      let n ← lenA x
      let new ← firstA h ei.size n x
      let old ← firstA h ei.size len (.slice base len cap)
      if len + n > 1000000 ∨ new.length ≠ n * ei.size ∨ old.length ≠ len * ei.size ∨ new.all oneC = false then no "append long" else
      if isU cap then
        match base with
        | some a => do
          let (ty, _, _, own) ← cellsAt h a.block
          if own ≠ 2 ∨ cap ≠ capU ei.size ∨ ty ≠ elem then no "append: mark" else
          -- the new row is the old one, or a fresh one: the old one is not looked at any more
          .ok (freshA { h with objs := h.objs.del a.block } elem ei.size (len + n) (old ++ new))
        | none => no "append"
      else if len + n ≤ cap then
        match base with
        | some a => do
          let h ← storeC h (addO a (len * ei.size)) new
          .ok (.slice base (len + n) cap, h)
        | none => if new.isEmpty then .ok (.slice base (len + n) cap, h) else no "append"
      else if cap < 9223372036854775808 then .ok (freshA h elem ei.size (len + n) (old ++ new)) else no "append"
    | _ => no "append"
  | _, _ => no "append args"

/-- Keys are numbers, strings and bools. -/
def keyKind (kt : TypeId) : M TypeDesc := do
  match ← undA P kt with
  | .int k => .ok (.int k)
  | .string => .ok .string
  | .bool => .ok .bool
  | _ => no "key type"
def findM (kt : TypeId) (k : Value) (es : List MapEntry) : M (Option (Nat × Value)) := do
  let d ← keyKind P kt
  orNo "key" (Instr.findNow d k es 0)
def lookA (h : AH) (t : TypeId) (x k : Value) (commaOk : Bool) : M Value := do
  match ← undA P t with
  | .map key elem => do
    let es ← (match x with
      | .map none => .ok []
      | .map (some r) => do .ok (← mapOf h r).1
      | _ => no "map" : M (List MapEntry))
    match ← findM P key k es with
    | some (_, v) => .ok (if commaOk then tupL [v, .bool true] else v)
    | none => do
      let z ← zeroA P elem
      .ok (if commaOk then tupL [z, .bool false] else z)
  | _ => no "map type"
def modEntry (f : MapEntry → MapEntry) : List MapEntry → Nat → List MapEntry
  | [], _ => []
  | e :: es, 0 => f e :: es
  | e :: es, i + 1 => e :: modEntry f es i
def mapSet (h : AH) (t : TypeId) (m k x : Value) : M AH := do
  match ← undA P t, m with
  | .map key _, .map (some r) => do
    let (es, c, own) ← mapOf h r
    if !own then no "map not own" else
    match ← findM P key k es with
    | some (i, _) => .ok (putA h r (.map (modEntry (fun e => { e with key := k, val := x }) es i) c own))
    | none => .ok (putA h r (.map (es ++ [{ key := k, val := x, born := c }]) (c + 1) own))
  | _, _ => no "map type"
def mapEntryA (h : AH) (t : TypeId) (m k : Value) : M (Value × AH) := do
  match ← undA P t, m with
  | .map key elem, .map (some r) => do
    let (es, c, own) ← mapOf h r
    if !own then no "map not own" else
    match ← findM P key k es with
    | some (i, v) => .ok (tupL [v, goInt ((((es[i]?).map (·.born)).getD 0 : Nat))], putA h r (.map (modEntry (fun e => { e with key := k }) es i) c own))
    | none => do
      let z ← zeroA P elem
      .ok (tupL [z, goInt (c : Nat)], putA h r (.map (es ++ [{ key := k, val := z, born := c }]) (c + 1) own))
  | _, _ => no "map type"
def bornAt (b : Int) (es : List MapEntry) : Option Nat := es.findIdx? fun e => (e.born : Int) == b
def entryStoreA (h : AH) (m stamp x : Value) : M AH := do
  match m with
  | .map (some r) => do
    let (es, c, own) ← mapOf h r
    let b ← intOfA stamp
    if !own then no "map not own" else
    match bornAt b es with
    | some i => .ok (putA h r (.map (modEntry (fun e => { e with val := x }) es i) c own))
    | none => no "entry gone"
  | _ => no "nil map"
def deleteA (h : AH) (t : TypeId) (m k : Value) : M AH := do
  match ← undA P t with
  | .map key _ => do
    match m with
    | .map none => do
      let _ ← keyKind P key
      .ok h
    | .map (some r) => do
      let (es, c, own) ← mapOf h r
      if !own then no "map not own" else
      match ← findM P key k es with
      | some (i, _) => .ok (putA h r (.map (es.eraseIdx i) c own))
      | none => .ok (putA h r (.map es c own))
    | _ => no "delete"
  | _ => no "map type"
def clearA (h : AH) (t : TypeId) (x : Value) : M AH := do
  match ← undA P t, x with
  | .map _ _, .map none => .ok h
  | .slice _, .slice none _ c => if c = capE then no "clear" else .ok h
  | .map _ _, .map (some r) => do
    let (_, c, own) ← mapOf h r
    if own then .ok (putA h r (.map [] c own)) else no "clear"
  | .slice elem, .slice (some a) n _ => do if n = 0 then .ok h else storeC h a (rep (cellsL (← zeroA P elem)) n)
  | _, _ => no "clear"
def maxL (mx : Bool) : Value → List Value → M Value
  | v, [] => .ok v
  | .int k a, .int _ b :: r => maxL mx (.int k (if (if mx then decide (b > a) else decide (b < a)) then b else a)) r
  | _, _ => no "max"

def fieldOff (s : TypeId) (i : Nat) : M Field := do
  match ← undA P s with
  | .struct fs => orNo "field" fs.toList[i]?
  | _ => no "field: struct"
inductive APlace where
  | val (v : Value)
  | var (a : Addr)
def APlace.get (h : AH) (t : TypeId) : APlace → M Value
  | .val v => .ok v
  | .var a => loadA P h t a
def followA (h : AH) : List FieldStep → TypeId → APlace → M (TypeId × APlace)
  | [], t, x => .ok (t, x)
  | s :: rest, t, x => do
    let f ← fieldOff P s.struct s.index
    if s.deref then
      let a ← addrA (← x.get P h t)
      if (← sizeA P f.type) = 0 then no "field of size 0" else followA h rest f.type (.var (addO a f.offset))
    else match x with
      | .var a => do if (← sizeA P f.type) = 0 then no "field of size 0" else followA h rest f.type (.var (addO a f.offset))
      | .val (.agg cs) => do followA h rest f.type (.val (← partA P f.type cs.toList f.offset))
      | _ => no "follow"
def recvAt (h : AH) (xt : TypeId) (x : APlace) (ptr : Bool) : M Value := do
  match ← undA P xt, ptr, x with
  | .pointer _, true, x => x.get P h xt
  | .pointer elem, false, x => do loadA P h elem (← addrA (← x.get P h xt))
  | _, true, .var a => .ok (.pointer (some a))
  | _, true, .val _ => no "recv"
  | _, false, x => x.get P h xt
def methodA (h : AH) : Nat → TypeId → Value → String → M (FuncId × Value)
  | 0, _, _, _ => no "method fuel"
  | n + 1, t, v, name => do
    let m ← orNo "no method" ((← infoA P t).methods.toList.find? (·.name == name))
    let (xt, x) ← followA P h m.path.toList t (.val v)
    match m.func with
    | none => do
      match ← x.get P h xt with
      | .iface t' v' => methodA h n t' v' name
      | _ => no "method of nil"
    | some (f, ptr) => do .ok (f, ← recvAt P h xt x ptr)

/-- What an operation leads to. -/
inductive AN where
  | value (v : Value)
  | skip
  | enter (f : FuncId) (args : List Value)
  | defer (d : Deferred)
  | recover
  | round (l : Nat) (fn : FuncId) (tm : T Value) (n : Nat) (assign body : Code)
  | panic (v : Value)

/-- Computations that read the program alone. -/
def runR {α : Type} (s : Sem α) : M α :=
  match s.run P default with
  | .ok a _ => .ok a
  | _ => no "reader"
/-- The mark of a type: a number in a block that holds nothing. -/
def handA : Value → M TypeId
  | .pointer (some a) => if a.block = P.globals.size ∧ a.spot = none then .ok a.off else no "handle"
  | _ => no "handle"
def handV (t : TypeId) : Value := .pointer (some ⟨P.globals.size, t, none⟩)
def rtypeA (t : TypeId) : M Value := do
  let c ← runR P (cutType "internal/reflectlite.rtype")
  .ok (.iface c (aggL [handV P t]))
def ofRtA (v : Value) : M TypeId :=
  match v with
  | .agg ⟨[h]⟩ => do
    let t ← handA P h
    let _ ← runR P (Extern.Rtype.noPack "a Type asked or handed on" t)
    .ok t
  | _ => no "rtype"
def valA (clean : Bool) (v : Value) : M (TypeId × Addr × Nat) :=
  match v with
  | .agg ⟨[h, .pointer (some a), .int .u64 f]⟩ =>
    if f ≤ 0 ∨ a.spot ≠ none then no "Value" else do
    let t ← handA P h
    let _ ← (if clean then runR P (Extern.Rtype.noPack "a Value asked or handed on" t) else .ok () : M Unit)
    .ok (t, a, f.toNat)
  | _ => no "Value"
def mkVA (t : TypeId) (a : Addr) (flags : Nat) : M Value := do
  let k ← runR P (Extern.Rtype.kind t)
  .ok (aggL [handV P t, .pointer (some a), .int .u64 (Int.ofNat (k + 128 + flags))])
/-- Package reflectlite, as far as errors.As asks it. -/
def reflectA (h : AH) (fn : Func) (args : List Value) : M (AN × AH) :=
  if fn.name = "internal/reflectlite.TypeOf" then
    match args with
    | [.nilIface] => .ok (.value .nilIface, h)
    | [.iface t _] => do
      let v ← rtypeA P t
      .ok (.value v, h)
    | _ => no "extern"
  else if fn.name = "(internal/reflectlite.rtype).Elem" then
    match args with
    | [r] => do
      let t ← ofRtA P r
      match ← runR P (Extern.Rtype.elem? t) with
      | some e => do
        let v ← rtypeA P e
        .ok (.value v, h)
      | none => no "extern"
    | _ => no "extern"
  else if fn.name = "(internal/reflectlite.rtype).Implements" then
    match args with
    | [r, .iface _ u] => do
      let a ← ofRtA P u
      let b ← ofRtA P r
      let y ← runR P (Extern.ReflectliteType.implements_ a b)
      .ok (.value (.bool y), h)
    | _ => no "extern"
  else if fn.name = "(internal/reflectlite.rtype).AssignableTo" then
    match args with
    | [r, .iface _ u] => do
      let a ← ofRtA P u
      let b ← ofRtA P r
      let y ← runR P (Extern.ReflectliteType.assignableTo a b)
      .ok (.value (.bool y), h)
    | _ => no "extern"
  else if fn.name = "(*internal/abi.Type).Kind" then
    match args with
    | [x] => do
      let t ← handA P x
      let _ ← runR P (Extern.Rtype.noPack "a method of abi.Type" t)
      let k ← runR P (Extern.Rtype.kind t)
      .ok (.value (.int .u8 k), h)
    | _ => no "extern"
  else if fn.name = "(internal/reflectlite.rtype).Comparable" then
    match args with
    | [r] => do
      let t ← ofRtA P r
      let _ ← runR P (Extern.Rtype.noPackHeld "Comparable" t)
      let i ← infoA P t
      .ok (.value (.bool i.comparable), h)
    | _ => no "extern"
  else if fn.name = "internal/reflectlite.ValueOf" then
    match args with
    | [.iface t v] => do
      let x ← mkVA P t ⟨h.next, 0, none⟩ 0
      .ok (.value x, (newA h (.cells t (cellsL v) true 2)).2)
    | _ => no "extern"
  else if fn.name = "(internal/reflectlite.Value).Type" then
    match args with
    | [v] => do
      let (t, _, _) ← valA P false v
      let x ← rtypeA P t
      .ok (.value x, h)
    | _ => no "extern"
  else if fn.name = "(internal/reflectlite.Value).IsNil" then
    match args with
    | [v] => do
      let (t, a, f) ← valA P true v
      if ([18, 19, 20, 21, 22, 23, 26].contains (f % 32)) = false then no "IsNil" else
      match ← loadA P h t a with
      | .pointer none => .ok (.value (.bool true), h)
      | .pointer (some _) => .ok (.value (.bool false), h)
      | _ => no "IsNil"
    | _ => no "extern"
  else if fn.name = "(internal/reflectlite.Value).Elem" then
    match args with
    | [v] => do
      let (t, a, f) ← valA P true v
      if f % 32 ≠ 22 then no "Elem" else
      match ← loadA P h t a, ← runR P (Extern.Rtype.elem? t) with
      | .pointer (some p), some e => do
        let x ← mkVA P e p 256
        .ok (.value x, h)
      | _, _ => no "Elem"
    | _ => no "extern"
  else if fn.name = "(internal/reflectlite.Value).Set" then
    match args with
    | [v, x] => do
      let (dst, a, f) ← valA P true v
      let (src, b, _) ← valA P true x
      if f / 256 % 2 = 0 then no "Set" else
      let u ← loadA P h src b
      if (← runR P (Extern.Rtype.directlyAssignable dst src)) = false then no "Set" else
      let h ← storeA P h dst a u
      .ok (.value (tupL []), h)
    | _ => no "extern"
  else no ("extern " ++ fn.name)

/-- Functions without a body. -/
def externA (h : AH) (fn : Func) (args : List Value) : M (AN × AH) :=
  if (fn.origin == fn.name || fn.origin == "") = false then no ("extern: origin " ++ fn.origin ++ " " ++ fn.name) else
  if fn.name = "internal/abi.NoEscape" then
    match args with
    | [x] => .ok (.value x, h)
    | _ => no "extern"
  else if fn.name = "internal/bytealg.IndexByteString" then
    match args with
    | [.string s, .int .u8 c] => .ok (.value (.int .i64 (firstIdx s c.toNat.toUInt8)), h)
    | _ => no "extern"
  else if fn.name = "internal/bytealg.IndexByte" then
    match args with
    | [.slice (some a) n _, .int .u8 c] => do
      let bs ← bytesOf (← getC h a n)
      .ok (.value (.int .i64 (firstIdx ⟨⟨bs⟩⟩ c.toNat.toUInt8)), h)
    | _ => no "extern"
  else if fn.name = "internal/bytealg.CountString" then
    match args with
    | [.string s, .int .u8 c] => .ok (.value (goInt (s.foldl (fun n x => if x == c.toNat.toUInt8 then n + 1 else n) (0 : Nat))), h)
    | _ => no "extern"
  else if fn.name = "internal/bytealg.MakeNoZero" then
    match args, fn.resultTypes.toList with
    | [.int .i64 n], [t] => do
      match ← undA P t with
      | .slice e => if n < 0 ∨ n > 1000000 then no "extern" else .ok (.value (.slice (some ⟨h.next, 0, none⟩) n.toNat (capU 1)), (newA h (.cells e [] false 2)).2)
      | _ => no "extern"
    | _, _ => no "extern"
  else reflectA P h fn args
def callF (h : AH) (f : FuncId) (args : List Value) : M (AN × AH) :=
  match P.funcs[f]? with
  | none => no "no such function"
  | some fn => if fn.name == "runtime.NumGoroutine" then no "extern" else if fn.body.isNone then externA P h fn args else .ok (.enter f args, h)
def callMeth (h : AH) (recv : Value) (name : String) (args : List Value) : M (AN × AH) := do
  match recv with
  | .iface t v => do
    let (f, r) ← methodA P h (P.types.size + Made.depth) t v name
    callF P h f (r :: args)
  | _ => no "method of a nil interface"
def putParams (n : Nat) : List Tmp → List Value → T Value → M (T Value)
  | t :: ts, v :: vs, tm => if t < n then putParams n ts vs (tm.set t v) else no "params"
  | _, _, tm => .ok tm
def builtinA (h : AH) (b : Builtin) (argTypes : List TypeId) (args : List Value) : M (AN × AH) := do
  match b, args with
  | .append, _ => do let (v, h) ← appendA P h argTypes args; .ok (.value v, h)
  | .copy, [dst, src] => do
    if argTypes.isEmpty then no "types" else
    match ← undA P (argTypes.headD 0), dst with
    | .slice elem, .slice base dLen cap => do
      if base.isNone = true ∧ cap = capE then no "copy: no row" else
      let n := Nat.min (← lenA src) dLen
      let size ← sizeA P elem
      let cs ← firstA h size n src
      match base with
      | some a => do let h ← storeC h a cs; .ok (.value (goInt n), h)
      | none => .ok (.value (goInt n), h)
    | _, _ => no "copy"
  | .delete, [m, k] => do
    if argTypes.isEmpty then no "types" else
    let h ← deleteA P h (argTypes.headD 0) m k
    .ok (.value (tupL []), h)
  | .clear, [x] => do
    if argTypes.isEmpty then no "types" else
    let h ← clearA P h (argTypes.headD 0) x
    .ok (.value (tupL []), h)
  | .panic, [.iface t v] => .ok (.panic (.iface t v), h)
  | .recover, _ => .ok (.recover, h)
  | .unsafeString, [.pointer p, l] => do
    if argTypes.isEmpty then no "types" else
    let n ← intOfA l
    if n < 0 ∨ n > 1000000 then no "unsafe.String" else
    match p with
    | none => if n = 0 then .ok (.value (.string ⟨#[]⟩), h) else no "unsafe.String"
    | some a =>
      if n = 0 then .ok (.value (.string ⟨#[]⟩), h) else do
      let (ty, c, _, own) ← cellsAt h a.block
      if own = 0 then no "unsafe.String: not own" else
      match ← undA P (argTypes.headD 0), P.underlying ty with
      | .pointer e, some (.int .u8) =>
        if e ≠ ty ∨ P.cellsOf ty ≠ 1 then no "unsafe.String: type" else do
        let l ← bytesOf (← getC h a n.toNat)
        .ok (.value (strL l), putA h a.block (.cells ty c false 1))
      | _, _ => no "unsafe.String: type"
  | _, _ => no "builtin"
def invokeA (h : AH) (t : Target) (args : List Value) : M (AN × AH) := do
  match t with
  | .builtin b ts _ _ => builtinA P h b ts.toList args
  | .fn (.func f) captured => callF P h f (args ++ captured.toList)
  | .fn (.method name) _ => match args with
    | r :: rest => callMeth P h r name rest
    | [] => no "method"
  | .fn (.methodOf t name) _ => match args with
    | r :: rest => do
      match ← undA P t with
      | .interface _ => callMeth P h r name rest
      | _ => callMeth P h (.iface t r) name rest
    | [] => no "method"
  | .fn (.via t path f pointer) _ => match args with
    | x :: rest => do
      let (xt, p) ← followA P h path.toList t (.val x)
      let v ← recvAt P h xt p pointer
      callF P h f (v :: rest)
    | [] => no "method"
  | .fn (.yield l) _ => match h.objs.get l with
    | some (.loop _ _ fn tm n params assign body _) => if params.length ≠ args.length then no "yield" else do
      let tm ← putParams n params args tm
      .ok (.round l fn tm n assign body, h)
    | _ => no "yield"
  | _ => no "invoke"
def resolveA (ρ : Operand → Value) (c : Call) (type : TypeId) : M (Target × List Value) :=
  let args := c.args.toList.map ρ
  match c.callee with
  | .builtin b => .ok (.builtin b c.argTypes type ⟨c.args.toList.map isConstO⟩, args)
  | .invoke recv name => .ok (.fn (.method name) #[], ρ recv :: args)
  | .value f => match ρ f with
    | .func fn first captured => .ok (.fn fn captured, first.toList ++ args)
    | _ => no "call of what"
def nextA (h : AH) (it : Value) (isString : Bool) : M (Value × AH) := do
  match it with
  | .pointer (some ⟨r, 0, _⟩) => do
    match h.objs.get r, isString with
    | some (.stringIter s pos), true =>
      if pos < s.size then
        let (c, width) := Utf8.decode s pos
        .ok (tupL [.bool true, goInt pos, .int .i32 c], putA h r (.stringIter s (pos + width)))
      else .ok (tupL [.bool false], h)
    | some (.mapIter none _ _ _), false => .ok (tupL [.bool false], h)
    | some (.mapIter (some m) since seen last), false => do
      let (es, clock, _) ← mapOf h m
      if !seen.isEmpty && !es.isEmpty && es.all (fun e => decide (e.born ≥ last)) then no "range: all new" else
      match es.filter fun e => !seen.contains e.born with
      | [] => .ok (tupL [.bool false], h)
      | [e] => if e.born < since then .ok (tupL [.bool true, e.key, e.val], putA h r (.mapIter (some m) since (seen ++ [e.born]) clock)) else no "range: a new entry"
      | _ => no "range over a map of several"
    | _, _ => no "next"
  | _ => no "iter"

/-- Three kinds of operations: those that only read, those that make one block of what they are given, and the others. -/
inductive Kind where
  | read
  | alloc
  | effect
  deriving DecidableEq
def kindOf (o : Op) : Kind :=
  match o with
  | .move _ | .assign _ | .pick .. | .build .. | .load .. | .waits _ | .nilCheck _ | .binOp .. | .unOp .. | .makeInterface .. | .makeFunc .. | .slice .. | .fieldAddr .. | .field .. | .indexAddr .. | .index .. | .lookup .. | .typeAssert .. | .extract .. => .read
  | .convert s d _ => if isSliceT P d then (if isSliceT P s then .effect else .alloc) else .read
  | .call { callee := .builtin b, .. } => match b with | .len | .cap | .max | .min | .unsafeSliceData => .read | _ => .effect
  | .alloc _ | .box .. | .buildSlice .. | .makeMap .. | .makeSlice .. => .alloc
  | _ => .effect

def readB (h : AH) (b : Builtin) (argTypes : List TypeId) (args : List Value) : M Value := do
  match b, args with
  | .len, [x] => do
    match ← undA P (argTypes.headD 0), x with
    | .string, .string s => .ok (goInt s.size)
    | .array n _, _ => .ok (goInt n)
    | .pointer a, _ => do
      match ← undA P a with
      | .array n _ => .ok (goInt n)
      | _ => no "len"
    | .slice _, .slice _ n _ => .ok (goInt n)
    | .map _ _, .map none => .ok (goInt 0)
    | .map _ _, .map (some r) => do .ok (goInt (← mapOf h r).1.length)
    | _, _ => no "len"
  | .cap, [x] => do
    match ← undA P (argTypes.headD 0), x with
    | .array n _, _ => .ok (goInt n)
    | .slice _, .slice _ _ c => if isU c then no "cap unknown" else .ok (goInt c)
    | _, _ => no "cap"
  | .max, x :: r => maxL true x r
  | .min, x :: r => maxL false x r
  | .unsafeSliceData, [.slice none _ c] => if c = capE then no "SliceData" else .ok (.pointer none)
  | .unsafeSliceData, [.slice (some a) l c] => if c ≠ 0 ∧ (isU c = false ∨ 0 < l) then .ok (.pointer (some a)) else no "SliceData"
  | _, _ => no "builtin"
def isYield : Fn → Bool
  | .yield _ => true
  | _ => false
/-- Are there all methods that are wanted? -/
def hasAll (want : Array (String × TypeId)) (got : Array Method) : Bool := (want.toList.filter fun (name, sig) => !got.any fun m => m.name == name && m.sig == sig).isEmpty
def readA (ρ : Operand → Value) (o : Oper) (h : AH) : M Value := do
  match o.op with
  | .move x => .ok (ρ x)
  | .assign x => .ok (ρ x)
  | .pick c a b => match ρ c with
    | .bool t => .ok (if t then ρ a else ρ b)
    | _ => no "pick"
  | .build t parts => do
    let z := cellsL (← zeroA P t)
    let ps := parts.toList.map fun p => (p.1, ρ p.2)
    match ← undA P t with
    | .struct fields => do
      let pl ← placesA P fields.toList
      .ok (aggL (← fillA (fun i => pl[i]?) z ps))
    | .array _ elem => do
      let size ← sizeA P elem
      .ok (aggL (← fillA (fun i => some (i * size, size)) z ps))
    | _ => no "build"
  | .load t a => do loadA P h t (← addrA (ρ a))
  | .waits g => do
    let _ ← cellsAt h g
    if g < P.globals.size then .ok (.bool false) else no "waits"
  | .nilCheck x => match ρ x with
    | .pointer (some a) => .ok (.pointer (some a))
    | .func (.func f) first captured => .ok (.func (.func f) first captured)
    | .iface t v => .ok (.iface t v)
    | _ => no "nilCheck"
  | .binOp op t x y _ => do
    if ← guardOk P op t x y (ρ x) (ρ y) then binA P h op t (ρ x) (ρ y) else no "two nil interfaces"
  | .unOp op _ x => unA op (ρ x)
  | .convert s d x => convA P h s d (ρ x)
  | .makeInterface t x => do
    match ← undA P t with
    | .interface _ => no "makeInterface"
    | _ => .ok (.iface t (ρ x))
  | .makeFunc fn first captured => if isYield fn then no "makeFunc" else .ok (.func fn ⟨first.toList.map ρ⟩ ⟨captured.toList.map ρ⟩)
  | .slice t x lo hi mx => sliceA P t (ρ x) (lo.map ρ) (hi.map ρ) (mx.map ρ)
  | .fieldAddr s x i => do
    let f ← fieldOff P s i
    let a ← addrA (ρ x)
    if (← sizeA P f.type) = 0 then no "field of size 0" else .ok (.pointer (some (addO a f.offset)))
  | .field t x i => do
    let f ← fieldOff P t i
    match ρ x with
    | .agg cs => partA P f.type cs.toList f.offset
    | _ => no "field"
  | .indexAddr t x ix => do
    let i ← intOfA (ρ ix)
    match ← undA P t, ρ x with
    | .array len elem, .pointer (some a) => do
      let n ← sizeA P elem
      if 0 ≤ i ∧ i < len ∧ a.spot = none then .ok (.pointer (some (addO a (i.toNat * n)))) else no "index"
    | .slice elem, .slice (some a) len _ => do
      let n ← sizeA P elem
      if 0 ≤ i ∧ i < len then .ok (.pointer (some (addO a (i.toNat * n)))) else no "index"
    | _, _ => no "index"
  | .index t x ix => do
    let i ← intOfA (ρ ix)
    match ← undA P t, ρ x with
    | .array len elem, .agg cs => do
      let n ← sizeA P elem
      if 0 ≤ i ∧ i < len then partA P elem cs.toList (i.toNat * n) else no "index"
    | .string, .string s => if 0 ≤ i then (match s.data.toList[i.toNat]? with | some b => .ok (.int .u8 b.toNat) | none => no "index") else no "index"
    | _, _ => no "index"
  | .lookup t x k ok => lookA P h t (ρ x) (ρ k) ok
  | .typeAssert x _ asserted ok => do
    match ← undA P asserted, ρ x with
    | .interface _, .nilIface => do if ok then .ok (tupL [← zeroA P asserted, .bool false]) else no "assert"
    | .interface want, .iface t v => do
      match hasAll want (← infoA P t).methods with
      | true => .ok (if ok then tupL [.iface t v, .bool true] else .iface t v)
      | false => do if ok then .ok (tupL [← zeroA P asserted, .bool false]) else no "assert"
    | _, .nilIface => do if ok then .ok (tupL [← zeroA P asserted, .bool false]) else no "assert"
    | _, .iface t v => do
      if t = asserted then .ok (if ok then tupL [v, .bool true] else v) else if ok then .ok (tupL [← zeroA P asserted, .bool false]) else no "assert"
    | _, _ => no "assert"
  | .extract x i => match ρ x with
    | .tuple vs => orNo "extract" vs.toList[i]?
    | _ => no "extract"
  | .call { callee := .builtin b, args, argTypes } => if argTypes.toList.isEmpty then no "types" else readB P h b argTypes.toList (args.toList.map ρ)
  | _ => no "read: operation"
/-- The value and the block that is made, if its number is r. -/
def allocA (ρ : Operand → Value) (o : Oper) (r : Nat) : M (Value × AObj) := do
  match o.op with
  | .alloc elem => do
    let z ← zeroA P elem
    .ok (.pointer (some ⟨r, 0, none⟩), .cells elem (cellsL z) true 2)
  | .box elem x => .ok (.pointer (some ⟨r, 0, none⟩), .cells elem (cellsL (ρ x)) true 2)
  | .buildSlice t len parts => do
    match ← undA P t with
    | .slice elem => do
      let size ← sizeA P elem
      if len * size > 65536 ∨ len > 65536 then no "buildSlice" else
      let z ← (if len * size = 0 then .ok [] else do .ok (cellsL (← zeroA P elem)) : M (List Value))
      if len * size ≠ 0 ∧ z.length ≠ size then no "buildSlice: zero" else
      let cs ← fillA (fun i => some (i * size, size)) (rep z len) (parts.toList.map fun p => (p.1, ρ p.2))
      .ok (.slice (some ⟨r, 0, none⟩) len len, .cells elem cs true 2)
    | _ => no "buildSlice"
  | .makeMap t hint => do
    match ← undA P t, hint with
    | .map _ _, none => .ok (.map (some r), .map [] 0 true)
    | .map _ _, some x => do
      let _ ← intOfA (ρ x)
      .ok (.map (some r), .map [] 0 true)
    | _, _ => no "makeMap"
  | .makeSlice t l c => do
    match ← undA P t with
    | .slice elem => do
      let l ← intOfA (ρ l)
      let c ← intOfA (ρ c)
      let ei ← infoA P elem
      if l < 0 ∨ c < l ∨ c > 1000000 ∨ ei.bytes > 65536 then no "makeSlice" else
      let size := ei.size
      let z ← (if c.toNat * size = 0 then .ok [] else do .ok (cellsL (← zeroA P elem)) : M (List Value))
      if c.toNat * size ≠ 0 ∧ z.length ≠ size then no "makeSlice: zero" else
      .ok (.slice (some ⟨r, 0, none⟩) l.toNat c.toNat, .cells elem (rep z c.toNat) true 2)
    | _ => no "makeSlice"
  | .convert src dst x => do
    match ← undA P src, ← undA P dst, ρ x with
    | _, .slice e, .string s => do
      match ← undA P e with
      | .int .u8 => if s.size > 1000000 then no "bytes" else .ok (.slice (some ⟨r, 0, none⟩) s.size (capU 1), .cells e (bytesV s.data.toList) false 2)
      | _ => no "conv"
    | _, _, _ => no "conv"
  | _ => no "alloc: operation"
/-- Bytes that a program's text writes out: a slice of an array that is no string's. -/
def convEffA (h : AH) (s d : TypeId) (x : Value) : M (AN × AH) := do
  match ← undA P s, ← undA P d, x with
  | .slice _, .slice e, .slice (some a) l c => do
    match ← undA P e with
    | .int .u8 =>
      if s = d then do
        match ← cellsAt h a.block with
        | (ty, cs, true, 2) => if a.spot = none then .ok (.value (.slice (some a) l c), putA h a.block (.cells ty cs false 2)) else no "conv: spot"
        | _ => no "conv: cells"
      else no "conv: types"
    | _ => no "conv: elements"
  | _, _, _ => no "conv: slices"
def effA (ρ : Operand → Value) (o : Oper) (h : AH) : M (AN × AH) := do
  match o.op with
  | .store t a x => do .ok (.skip, ← storeA P h t (← addrA (ρ a)) (ρ x))
  | .convert s d x => convEffA P h s d (ρ x)
  | .mapUpdate t m k x => do .ok (.skip, ← mapSet P h t (ρ m) (ρ k) (ρ x))
  | .insert t m k x => do .ok (.skip, ← mapSet P h t (ρ m) (ρ k) (ρ x))
  | .mapEntry t m k => do
    let (v, h) ← mapEntryA P h t (ρ m) (ρ k)
    .ok (.value v, h)
  | .entryStore _ m s x => do .ok (.skip, ← entryStoreA h (ρ m) (ρ s) (ρ x))
  | .range t x => do
    match ← undA P t, ρ x with
    | .string, .string s => let (r, h) := newA h (.stringIter s 0); .ok (.value (.pointer (some ⟨r, 0, none⟩)), h)
    | .map _ _, .map none => let (r, h) := newA h (.mapIter none 0 [] 0); .ok (.value (.pointer (some ⟨r, 0, none⟩)), h)
    | .map _ _, .map (some m) => do
      let (_, clock, _) ← mapOf h m
      let (r, h) := newA h (.mapIter (some m) clock [] clock)
      .ok (.value (.pointer (some ⟨r, 0, none⟩)), h)
    | _, _ => no "range"
  | .next it s => do
    let (v, h) ← nextA h (ρ it) s
    .ok (.value v, h)
  | .call c => do
    let (t, args) ← resolveA ρ c o.type
    invokeA P h t args
  | .defer c => do
    let (t, args) ← resolveA ρ c o.type
    .ok (.defer { target := t, args := ⟨args⟩ }, h)
  | .panic x => match ρ x with
    | .iface t v => .ok (.panic (.iface t v), h)
    | _ => no "panic"
  | _ => no "operation"
def okO : Operand → Bool
  | .const v => bareA v
  | .global g => decide (g < P.globals.size)
  | _ => true
def okOps (o : Oper) : Bool := o.op.operands.toList.all (okO P)
def execA (ρ : Operand → Value) (o : Oper) (h : AH) : M (AN × AH) :=
  if !okOps P o then no "a constant" else
  match kindOf P o.op with
  | .read => do .ok (.value (← readA P ρ o h), h)
  | .alloc => do
    let (v, b) ← allocA P ρ o h.next
    .ok (.value v, (newA h b).2)
  | .effect => effA P ρ o h
end

def evA (tm : T Value) : Operand → Value
  | .tmp t => (tm.get t).getD undef
  | .const v => v
  | .global g => .pointer (some ⟨g, 0, none⟩)
  | .func f => .func (.func f) #[] #[]

structure AF where
  fn : FuncId
  n : Nat
  tm : T Value
  todo : List Item
  defers : List Deferred
  mode : FrameMode
  kind : CallKind
  round : Option Nat
structure AS where
  fr : AF
  cs : List AF
  hp : AH
inductive AR where
  | next (s : AS)
  | done (fn : FuncId) (v : Value) (h : AH)

def putT (n : Nat) (tm : T Value) (dst : Option Tmp) (v : Value) : M (T Value) :=
  match dst with
  | some d => if d < n then .ok (tm.set d v) else no "dst"
  | none => .ok tm
def AF.finish (fr : AF) (v : Value) : M AF :=
  match fr.todo with
  | .inRegion ops (i :: rest) :: k => do
    let tm ← putT fr.n fr.tm ((ops.toList[i]?).bind (·.dst)) v
    .ok { fr with tm, todo := .inRegion ops rest :: k }
  | .inRangeFunc l :: k => .ok { fr with todo := .endRangeFunc l :: k }
  | .beginRound :: k => .ok { fr with todo := k }
  | _ => no "finish"
/-- Is an operation wanted? Its guard must be known. -/
def wantedA (ops : List Oper) (tm : T Value) (o : Oper) : M Bool :=
  match o.guard with
  | none => .ok true
  | some (j, want) => match (ops[j]?).bind (·.dst) with
    | none => .ok false
    | some d => match (tm.get d).getD undef with
      | .bool b => .ok (b == want)
      | .tuple _ => .ok false
      | _ => no "guard"
def enterA (P : Program) (f : FuncId) (args : List Value) (kind : CallKind) : M AF :=
  match P.funcs[f]? with
  | none => no "enter"
  | some fn => match fn.body with
    | none => no "enter"
    | some b => .ok { fn := f, n := max fn.ntmps args.length, tm := T.ofL args 0 .nil, todo := [.code b], defers := [], mode := .run, kind, round := none }
def AF.raiseA (fr : AF) (vs : List PanicEntry) : AF :=
  match fr.mode with
  | .panicking chain => { fr with mode := .panicking (vs ++ chain) }
  | _ => { fr with mode := .panicking vs }
def resL (P : Program) (tm : T Value) (h : AH) : List ResultVar → M (List Value)
  | [] => .ok []
  | .tmp t :: r => do .ok ((tm.get t).getD undef :: (← resL P tm h r))
  | .cell a t :: r => do
    let v ← loadA P h t (← addrA ((tm.get a).getD undef))
    .ok (v :: (← resL P tm h r))
def resultsA (P : Program) (fn : Func) (tm : T Value) (h : AH) : M Value := do
  match ← resL P tm h fn.results.toList with
  | [v] => .ok v
  | vs => .ok (tupL vs)
def tryRecA (fr : AF) (cs : List AF) : M (Option (Value × List AF)) :=
  match fr.kind, cs with
  | .deferred, c :: rest => match c.mode with
    | .panicking ({ v, recovered := false, goexit := false } :: older) => .ok (some (v, { c with mode := .panicking ({ v, recovered := true } :: older) } :: rest))
    | _ => .ok none
  | .normal, _ => .ok none
  | _, _ => no "recover"
def afterA (P : Program) (fr : AF) (cs : List AF) : AN → AH → M AR
  | .value v, h => do .ok (.next ⟨← fr.finish v, cs, h⟩)
  | .skip, h => do .ok (.next ⟨← fr.finish undef, cs, h⟩)
  | .enter f args, h => do .ok (.next ⟨← enterA P f args .normal, fr :: cs, h⟩)
  | .round l fn tm n assign body, h => .ok (.next ⟨{ fn, n, tm, todo := [.code assign, .beginRound, .code body], defers := [], mode := .run, kind := .normal, round := some l }, fr :: cs, h⟩)
  | .defer d, h => do if fr.round.isSome then no "defer in a round" else .ok (.next ⟨← ({ fr with defers := d :: fr.defers } : AF).finish undef, cs, h⟩)
  | .recover, h => do
    if fr.round.isSome then no "recover in a round" else
    match ← tryRecA fr cs with
    | some (v, cs) => do .ok (.next ⟨← fr.finish v, cs, h⟩)
    | none => do .ok (.next ⟨← fr.finish .nilIface, cs, h⟩)
  | .panic v, h => .ok (.next ⟨fr.raiseA [{ v, recovered := false }], cs, h⟩)
def returnA (fr : AF) (cs : List AF) (v : Value) (h : AH) : M AR :=
  match cs with
  | [] => if (fr.kind matches .normal) && fr.round.isNone then .ok (.done fr.fn v h) else no "done: kind"
  | c :: rest => match fr.kind with
    | .normal => do .ok (.next ⟨← c.finish v, rest, h⟩)
    | .deferred => match c.mode with
      | .panicking ({ recovered := true, .. } :: older) => if older.isEmpty then .ok (.next ⟨{ c with mode := .returning }, rest, h⟩) else no "nested panics"
      | _ => .ok (.next ⟨c, rest, h⟩)
    | _ => no "return: kind"

/-- A region in whatever order: read ops may stand anywhere that their edges allow; blocks that are made get numbers of their own; the others are in a chain. -/
structure Ent where
  o : Oper
  mask : Nat
  tm : T Value
  /-- whether it is done -/
  want : Bool
  v : Value
  kind : Kind
  obj : Option AObj
def maskOf (masks : List Nat) (i : Nat) : List Edge → M Nat
  | [] => .ok 0
  | e :: es => do
    let r ← maskOf masks i es
    if Region.binds .any e then
      if e.on < i then .ok ((2 ^ e.on ||| (masks[e.on]?).getD 0) ||| r) else no "edge"
    else .ok r
def looks (ops : List Oper) (o : Oper) : List Tmp :=
  (o.op.operands.toList.filterMap fun | .tmp t => some t | _ => none) ++ (match o.guard with | some (g, _) => ((ops[g]?).bind (·.dst)).toList | none => [])
/-- Two operations of which one writes what the other one looks at, or writes. -/
def clash (ops : List Oper) (x y : Oper) : Bool :=
  (match x.dst with | some d => (looks ops y).contains d || y.dst == some d | none => false) || (match y.dst with | some d => (looks ops x).contains d | none => false)
def veq : Nat → Value → Value → Bool
  | 0, _, _ => false
  | n + 1, a, b => match a, b with
    | .bool x, .bool y => x == y
    | .int k x, .int k' y => k == k' && x == y
    | .string x, .string y => x.data.toList == y.data.toList
    | .pointer x, .pointer y => x == y
    | .slice x l c, .slice y l' c' => x == y && l == l' && c == c'
    | .map x, .map y => x == y
    | .chan x, .chan y => x == y
    | .nilFunc, .nilFunc => true
    | .nilIface, .nilIface => true
    | .iface t x, .iface u y => t == u && veq n x y
    | .func f a b, .func g c d => f == g && veqL n a.toList c.toList && veqL n b.toList d.toList
    | .agg x, .agg y => veqL n x.toList y.toList
    | .tuple x, .tuple y => veqL n x.toList y.toList
    | _, _ => false
where
  veqL (n : Nat) : List Value → List Value → Bool
    | [], [] => true
    | x :: xs, y :: ys => veq n x y && veqL n xs ys
    | _, _ => false
/-- With those of the blocks made in the region that are in a mask. -/
def withAl (mask : Nat) (h : AH) : List (Nat × Nat × AObj) → AH
  | [] => h
  | (i, r, b) :: l => if mask.testBit i then putA (withAl mask h l) r b else withAl mask h l
def litD : TypeDesc → Bool
  | .int _ | .string | .bool => true
  | _ => false
/-- Reads that look at no block: they are the same in every heap. -/
def freeOp (P : Program) (o : Op) : Bool :=
  match o with
  | .move _ | .assign _ | .pick .. | .fieldAddr .. | .field .. | .indexAddr .. | .index .. | .extract .. | .unOp .. => true
  | .binOp _ t _ _ _ => match P.underlying t with
    | some d => litD d
    | none => false
  | _ => false
def sameRead (P : Program) (e : Ent) (al : List (Nat × Nat × AObj)) (h : AH) : Bool :=
  freeOp P e.o.op || match readA P (evA e.tm) e.o (withAl e.mask h al) with
  | .ok v => veq 20 v e.v
  | .error _ => false
structure RS where
  tm : T Value
  h : AH
  /-- the heaps before and behind each effect -/
  hh : List AH
  /-- the effects so far -/
  ee : List Nat
  /-- blocks made and not yet in the heap -/
  al : List (Nat × Nat × AObj)
  masks : List Nat
  ents : List Ent
def isReadE (e : Ent) : Bool := e.want && (e.kind matches .read)
def orderOk (ops : List Oper) (o : Oper) (mask : Nat) : List Ent → Nat → Bool
  | [], _ => true
  | x :: l, j => (!clash ops x.o o || mask.testBit j) && orderOk ops o mask l (j + 1)
/-- Those that only read read the same behind this effect, unless they stand before it. -/
def readsOk (P : Program) (mask : Nat) (al : List (Nat × Nat × AObj)) (h : AH) : List Ent → Nat → Bool
  | [], _ => true
  | x :: l, j => (!isReadE x || mask.testBit j || sameRead P x al h) && readsOk P mask al h l (j + 1)
def effRun (P : Program) (nest : FuncId → List Value → AH → M (Value × AH)) (ρ : Operand → Value) (o : Oper) (h0 : AH) : M (Value × AH) := do
  match ← effA P ρ o h0 with
  | (.value v, h) => .ok (v, h)
  | (.skip, h) => .ok (undef, h)
  | (.enter f args, h) => nest f args h
  | _ => no "drawn: effect"
def regStep (P : Program) (n base : Nat) (nest : FuncId → List Value → AH → M (Value × AH)) (ops : List Oper) (i : Nat) (o : Oper) (s : RS) : M RS := do
  let mask ← maskOf s.masks i o.after.toList
  -- whatever looks at what another one writes is in an order with it
  if !orderOk ops o mask s.ents 0 then no "order of temporaries" else
  let want ← wantedA ops s.tm o
  if !want then
    let tm ← putT n s.tm o.dst undef
    .ok { s with tm, masks := s.masks ++ [mask], ents := s.ents ++ [{ o, mask, tm := s.tm, want := false, v := undef, kind := .read, obj := none }] }
  else
  if !okOps P o then no "a constant" else
  match kindOf P o.op with
  | .read => do
    let v ← readA P (evA s.tm) o (withAl mask s.h s.al)
    let e : Ent := { o, mask, tm := s.tm, want := true, v, kind := .read, obj := none }
    -- the same before those effects that need not stand before it
    if !((s.ee.zip s.hh).all fun p => mask.testBit p.1 || sameRead P e s.al p.2) then no "a read beside an effect" else
    let tm ← putT n s.tm o.dst v
    .ok { s with tm, masks := s.masks ++ [mask], ents := s.ents ++ [e] }
  | .alloc => do
    let (v, b) ← allocA P (evA s.tm) o (base + i)
    let tm ← putT n s.tm o.dst v
    .ok { s with tm, al := (i, base + i, b) :: s.al, masks := s.masks ++ [mask], ents := s.ents ++ [{ o, mask, tm := s.tm, want := true, v, kind := .alloc, obj := some b }] }
  | .effect => do
    if !(s.ee.all fun j => mask.testBit j) then no "effects in no order" else
    let (v, h) ← effRun P nest (evA s.tm) o (withAl mask s.h s.al)
    let al := s.al.filter fun p => !mask.testBit p.1
    if !readsOk P mask al h s.ents 0 then no "an effect beside a read" else
    let tm ← putT n s.tm o.dst v
    .ok { tm, h, hh := s.hh ++ [h], ee := s.ee ++ [i], al, masks := s.masks ++ [mask], ents := s.ents ++ [{ o, mask, tm := s.tm, want := true, v, kind := .effect, obj := none }] }
def regLoop (P : Program) (n base : Nat) (nest : FuncId → List Value → AH → M (Value × AH)) (ops : List Oper) : List Oper → Nat → RS → M RS
  | [], _, s => .ok s
  | o :: l, i, s => do regLoop P n base nest ops l (i + 1) (← regStep P n base nest ops i o s)
def finalH (h : AH) : List (Nat × Nat × AObj) → AH
  | [] => h
  | p :: l => putA (finalH h l) p.2.1 p.2.2
def regionA (P : Program) (n : Nat) (nest : FuncId → List Value → AH → M (Value × AH)) (ops : List Oper) (tm : T Value) (h : AH) : M (T Value × AH) := do
  let base := h.next
  let h0 : AH := { h with next := base + ops.length }
  let s ← regLoop P n base nest ops ops 0 { tm, h := h0, hh := [h0], ee := [], al := [], masks := [], ents := [] }
  .ok (s.tm, finalH s.h s.al)

def enterLoopA (fr : AF) (h : AH) : M (Nat × List Deferred × AH) :=
  match fr.round with
  | some l => match h.objs.get l with
    | some (.loop _ _ _ _ _ _ _ _ ds) => .ok (ds, [], h)
    | _ => no "no loop"
  | none => .ok (h.next, [{ target := .collected h.next, args := #[] }], (newA h (.deferred (some []))).2)
def unwindA (P : Program) (s : AS) : M AR :=
  let fr := s.fr
  match fr.defers with
  | { target := .collected b, .. } :: ds => match s.hp.objs.get b with
    | some (.deferred (some calls)) => .ok (.next ⟨{ fr with defers := calls ++ ds }, s.cs, putA s.hp b (.deferred none)⟩)
    | _ => no "collected"
  | d :: ds => do
    let fr := { fr with defers := ds }
    match ← invokeA P s.hp d.target d.args.toList with
    | (.enter f args, h) => do .ok (.next ⟨← enterA P f args .deferred, fr :: s.cs, h⟩)
    | (.value _, h) => .ok (.next ⟨fr, s.cs, h⟩)
    | _ => no "deferred"
  | [] => match fr.mode with
    | .panicking chain => match s.cs with
      | c :: rest => .ok (.next ⟨c.raiseA chain, rest, s.hp⟩)
      | [] => no "panic at the bottom"
    | _ => if fr.round.isSome then no "returning in a round" else match P.funcs[fr.fn]? with
      | none => no "fn"
      | some fn => do returnA fr s.cs (← resultsA P fn fr.tm s.hp) s.hp
def stepA (P : Program) (nest : FuncId → List Value → AH → M (Value × AH)) (s : AS) : M AR :=
  let fr := s.fr
  match fr.mode with
  | .run =>
    let to (k : List Item) : M AR := .ok (.next { s with fr := { fr with todo := k } })
    let leave (jump : Option Code) : M AR :=
      match fr.round with
      | none => (match jump with
        | none | some .ret => .ok (.next { s with fr := { fr with mode := .returning } })
        | _ => no "leave")
      | some l => match s.hp.objs.get l with
        | some (.loop _ _ fn tm n ps asg body ds) => returnA fr s.cs (.bool jump.isNone) (putA s.hp l (.loop (if jump.isNone then .ready else .done) jump fn tm n ps asg body ds))
        | _ => no "no loop"
    match fr.todo with
    | [] => leave none
    | .code .ret :: _ => leave (some .ret)
    | .code .skip :: k | .code (.label _) :: k | .inBlock _ :: k | .inScope _ :: k => to k
    | .code (.seq a b) :: k => to (.code a :: .code b :: k)
    | .code (.cond c thn els) :: k => match evA fr.tm c with
      | .bool b => to (.code (if b then thn else els) :: k)
      | _ => no "cond"
    | .code (.block id body) :: k => to (.code body :: .inBlock id :: k)
    | .code (.loop body) :: k | .inLoop body :: k => to (.code body :: .inLoop body :: k)
    | .code (.scope body) :: k => to (.code body :: .inScope body :: k)
    | .code (.exit id) :: k => match exitTo id k with
      | some k' => to k'
      | none => leave (some (.exit id))
    | .code (.goto l) :: k => match gotoIn l k with
      | some k' => to k'
      | none => leave (some (.goto l))
    | .code (.rangeFunc f params assign body) :: k => do
      let (d, mark, h) ← enterLoopA fr s.hp
      let (l, h) := newA h (.loop .ready none fr.fn fr.tm fr.n params.toList assign body d)
      let fr : AF := { fr with todo := .inRangeFunc l :: k, defers := mark ++ fr.defers }
      if !okO P f then no "a constant" else
      match evA fr.tm f with
      | .func fn first captured => do
        let (a, h) ← invokeA P h (.fn fn captured) (first.toList ++ [.func (.yield l) #[] #[]])
        afterA P fr s.cs a h
      | _ => no "rangeFunc"
    | .beginRound :: k => match fr.round with
      | none => no "no round"
      | some l => match s.hp.objs.get l with
        | some (.loop .ready pend fn tm n ps asg body ds) => .ok (.next ⟨{ fr with todo := k }, s.cs, putA s.hp l (.loop .busy pend fn tm n ps asg body ds)⟩)
        | _ => no "round: state"
    | .endRangeFunc l :: k => match s.hp.objs.get l with
      | some (.loop st pend fn tm n ps asg body ds) => if st = .busy then no "busy" else
        .ok (.next ⟨{ fr with todo := (pend.map Item.code).toList ++ k }, s.cs, putA s.hp l (.loop .exhausted pend fn tm n ps asg body ds)⟩)
      | _ => no "endRangeFunc"
    | .code (.region _ ops draw) :: k =>
      if !draw then to (.inRegion ops (List.range ops.size) :: k)
      else do
        let (tm, h) ← regionA P fr.n nest ops.toList fr.tm s.hp
        .ok (.next ⟨{ fr with tm, todo := k }, s.cs, h⟩)
    | .inRegion _ [] :: k => to k
    | .inRegion ops (i :: _) :: _ => match ops.toList[i]? with
      | none => no "no oper"
      | some o => do
        if ← wantedA ops.toList fr.tm o then
          let (a, h) ← execA P (evA fr.tm) o s.hp
          afterA P fr s.cs a h
        else do .ok (.next { s with fr := ← fr.finish undef })
    | _ => no "todo"
  | .returning | .panicking _ => unwindA P s

def runF (P : Program) (nest : FuncId → List Value → AH → M (Value × AH)) : Nat → AS → M (FuncId × Value × AH)
  | 0, _ => no "fuel"
  | n + 1, s => match stepA P nest s with
    | .ok (.next s) => runF P nest n s
    | .ok (.done f v h) => .ok (f, v, h)
    | .error e => .error e
/-- Calls inside drawn regions, to a depth. -/
def nestA (P : Program) (fuel : Nat) : Nat → FuncId → List Value → AH → M (Value × AH)
  | 0, _, _, _ => no "depth"
  | d + 1, f, args, h => do
    let fr ← enterA P f args .normal
    let (g, v, h') ← runF P (nestA P fuel d) fuel ⟨fr, [], h⟩
    if g = f then .ok (v, h') else no "another function"
def callA (P : Program) (fuel depth : Nat) (f : FuncId) (args : List Value) (h : AH) : M (Value × AH) := nestA P fuel (depth + 1) f args h
end Go.Ev

namespace Go.Ev
set_option linter.unusedVariables false
set_option linter.unusedSimpArgs false

theorem T.get_nil {α : Type} (m : Nat) : (T.nil : T α).get m = none := rfl
theorem T.get_setF {α : Type} : ∀ (k : Nat) (t : T α) (n : Nat) (v : Option α) (m : Nat), n < k → (T.setF k t n v).get m = if m = n then v else t.get m := by
  intro k
  induction k with
  | zero => intro t n v m h; omega
  | succ k ih =>
    intro t n v m h
    cases t with
    | nil =>
      unfold T.setF
      by_cases h0 : n = 0
      · simp only [h0, if_true]
        by_cases hm : m = 0
        · simp [hm, T.get]
        · simp only [hm, if_false, T.get]; split <;> rfl
      · by_cases h1 : n % 2 = 1
        · simp only [h0, h1, if_true, if_false]
          by_cases hm : m = 0
          · simp only [hm, T.get, if_true]; rw [if_neg (by omega)]
          · by_cases hm1 : m % 2 = 1
            · simp only [hm, hm1, T.get, if_true, if_false]
              rw [ih _ _ _ _ (by omega)]
              by_cases e : m = n
              · simp [e]
              · rw [if_neg (by omega), if_neg e]; simp [T.get]
            · simp only [hm, hm1, T.get, if_false]; rw [if_neg (by omega)]
        · simp only [h0, h1, if_false]
          by_cases hm : m = 0
          · simp only [hm, T.get, if_true]; rw [if_neg (by omega)]
          · by_cases hm1 : m % 2 = 1
            · simp only [hm, hm1, T.get, if_true, if_false]; rw [if_neg (by omega)]
            · simp only [hm, hm1, T.get, if_false]
              rw [ih _ _ _ _ (by omega)]
              by_cases e : m = n
              · simp [e]
              · rw [if_neg (by omega), if_neg e]; simp [T.get]
    | node o l r =>
      unfold T.setF
      by_cases h0 : n = 0
      · simp only [h0, if_true]
        by_cases hm : m = 0
        · simp [hm, T.get]
        · simp only [hm, if_false, T.get]
      · by_cases h1 : n % 2 = 1
        · simp only [h0, h1, if_true, if_false]
          by_cases hm : m = 0
          · simp only [hm, T.get, if_true]; rw [if_neg (by omega)]
          · by_cases hm1 : m % 2 = 1
            · simp only [hm, hm1, T.get, if_true, if_false]
              rw [ih _ _ _ _ (by omega)]
              by_cases e : m = n
              · simp [e]
              · rw [if_neg (by omega), if_neg e]
            · simp only [hm, hm1, T.get, if_false]; rw [if_neg (by omega)]
        · simp only [h0, h1, if_false]
          by_cases hm : m = 0
          · simp only [hm, T.get, if_true]; rw [if_neg (by omega)]
          · by_cases hm1 : m % 2 = 1
            · simp only [hm, hm1, T.get, if_true, if_false]; rw [if_neg (by omega)]
            · simp only [hm, hm1, T.get, if_false]
              rw [ih _ _ _ _ (by omega)]
              by_cases e : m = n
              · simp [e]
              · rw [if_neg (by omega), if_neg e]
theorem T.get_set {α : Type} (t : T α) (n : Nat) (v : α) (m : Nat) : (t.set n v).get m = if m = n then some v else t.get m := T.get_setF _ _ _ _ _ (by omega)
theorem T.get_del {α : Type} (t : T α) (n m : Nat) : (t.del n).get m = if m = n then none else t.get m := T.get_setF _ _ _ _ _ (by omega)
theorem T.get_ofL {α : Type} : ∀ (l : List α) (n : Nat) (t : T α) (m : Nat), (T.ofL l n t).get m = if n ≤ m ∧ m < n + l.length then l[m - n]? else t.get m := by
  intro l
  induction l with
  | nil => intro n t m; rw [if_neg (by simp only [List.length_nil]; omega)]; rfl
  | cons x l ih =>
    intro n t m
    rw [T.ofL, ih, T.get_set]
    by_cases h : m = n
    · subst h; rw [if_neg (by omega), if_pos rfl, if_pos (by simp)]; simp only [Nat.sub_self]; rfl
    · by_cases h2 : n ≤ m ∧ m < n + (l.length + 1)
      · rw [if_pos (by omega), if_pos (by simpa using h2), show m - n = (m - (n + 1)) + 1 by omega]; rfl
      · rw [if_neg (by omega), if_neg h, if_neg (by simpa using h2)]

/-- Where a block lies: its number, how far from its beginning, and how many cells from there. -/
abbrev Env := Nat → Option (Nat × Nat × Nat)
def Env.le (ρ ρ' : Env) : Prop := ∀ r t, ρ r = some t → ρ' r = some t
theorem Env.le_refl (ρ : Env) : Env.le ρ ρ := fun _ _ h => h
theorem Env.le_trans {a b c : Env} (h : Env.le a b) (k : Env.le b c) : Env.le a c := fun r t e => k r t (h r t e)
def Env.put (ρ : Env) (r : Nat) (t : Nat × Nat × Nat) : Env := fun x => if x = r then some t else ρ x
theorem Env.le_put {ρ : Env} {r : Nat} {t : Nat × Nat × Nat} (h : ρ r = none) : Env.le ρ (ρ.put r t) := by
  intro x u hx
  unfold Env.put
  by_cases e : x = r
  · subst e; rw [h] at hx; cases hx
  · rw [if_neg e]; exact hx
theorem Env.put_at (ρ : Env) (r : Nat) (t : Nat × Nat × Nat) : ρ.put r t r = some t := by unfold Env.put; rw [if_pos rfl]
theorem Env.put_ne (ρ : Env) {r x : Nat} (t : Nat × Nat × Nat) (h : x ≠ r) : ρ.put r t x = ρ x := by unfold Env.put; rw [if_neg h]

inductive FnR (ρ : Env) : Fn → Fn → Prop
  | same {f : Fn} (h : ∀ l, f ≠ .yield l) : FnR ρ f f
  | yield {l b d n : Nat} (h : ρ l = some (b, d, n)) : FnR ρ (.yield l) (.yield b)

/-- What a value of the evaluator says; η: the values that are not looked into. -/
inductive VR (η : Nat → Value) (ρ : Env) : Value → Value → Prop
  | bool (b : Bool) : VR η ρ (.bool b) (.bool b)
  | int (k : IntKind) (n : Int) : VR η ρ (.int k n) (.int k n)
  | float (k : FloatKind) (b : Nat) : VR η ρ (.float k b) (.float k b)
  | complex (k : FloatKind) (a b : Nat) : VR η ρ (.complex k a b) (.complex k a b)
  | string (s : ByteArray) : VR η ρ (.string s) (.string s)
  | ptr0 : VR η ρ (.pointer none) (.pointer none)
  | ptr {r o b d n : Nat} (h : ρ r = some (b, d, n)) : VR η ρ (.pointer (some ⟨r, o, none⟩)) (.pointer (some ⟨b, d + o, none⟩))
  | slice0 (l c : Nat) (hc : isU c = false) : VR η ρ (.slice none l c) (.slice none l c)
  | slice {r o b d n : Nat} (l c : Nat) (h : ρ r = some (b, d, n)) (hc : isU c = false) : VR η ρ (.slice (some ⟨r, o, none⟩) l c) (.slice (some ⟨b, d + o, none⟩) l c)
  | sliceU {r o b d n : Nat} (l s c : Nat) (h : ρ r = some (b, d, n)) (hs : 0 < s) (hc : o + c * s = n) (hl : l ≤ c) (hb : c < capB) : VR η ρ (.slice (some ⟨r, o, none⟩) l (capU s)) (.slice (some ⟨b, d + o, none⟩) l c)
  | sliceE (a : Option Addr) (c : Nat) : VR η ρ (.slice none 0 capE) (.slice a 0 c)
  | map0 : VR η ρ (.map none) (.map none)
  | map {r b d n : Nat} (h : ρ r = some (b, d, n)) : VR η ρ (.map (some r)) (.map (some b))
  | func {f g : Fn} {a b c d : Array Value} (hf : FnR ρ f g) (h1 : a.toList.length = c.toList.length) (h2 : b.toList.length = d.toList.length)
      (h3 : ∀ (i : Nat) (v x : Value), a.toList[i]? = some v → c.toList[i]? = some x → VR η ρ v x) (h4 : ∀ (i : Nat) (v x : Value), b.toList[i]? = some v → d.toList[i]? = some x → VR η ρ v x) : VR η ρ (.func f a b) (.func g c d)
  | nilFunc : VR η ρ .nilFunc .nilFunc
  | nilIface : VR η ρ .nilIface .nilIface
  | iface (t : TypeId) {v x : Value} (h : VR η ρ v x) : VR η ρ (.iface t v) (.iface t x)
  | agg {a c : Array Value} (h1 : a.toList.length = c.toList.length) (h3 : ∀ (i : Nat) (v x : Value), a.toList[i]? = some v → c.toList[i]? = some x → VR η ρ v x) : VR η ρ (.agg a) (.agg c)
  | tuple {a c : Array Value} (h1 : a.toList.length = c.toList.length) (h3 : ∀ (i : Nat) (v x : Value), a.toList[i]? = some v → c.toList[i]? = some x → VR η ρ v x) : VR η ρ (.tuple a) (.tuple c)
  | opq (i : Nat) : VR η ρ (.chan (some i)) (η i)
  /-- of which nothing is known -/
  | any {x : Value} (h : x.oneCell' = true) : VR η ρ (.chan none) x
theorem FnR.mono {ρ ρ' : Env} (h : Env.le ρ ρ') {f g : Fn} (k : FnR ρ f g) : FnR ρ' f g := by
  cases k with
  | same h => exact .same h
  | yield e => exact .yield (h _ _ e)
variable {η : Nat → Value}
theorem VR.mono {ρ ρ' : Env} (h : Env.le ρ ρ') {v x : Value} (k : VR η ρ v x) : VR η ρ' v x := by
  induction k with
  | bool b => exact .bool b
  | int k n => exact .int k n
  | float k b => exact .float k b
  | complex k a b => exact .complex k a b
  | string s => exact .string s
  | ptr0 => exact .ptr0
  | ptr e => exact .ptr (h _ _ e)
  | slice0 l c hc => exact .slice0 l c hc
  | slice l c e hc => exact .slice l c (h _ _ e) hc
  | sliceU l s c e hs hc hl hb => exact .sliceU l s c (h _ _ e) hs hc hl hb
  | sliceE a c => exact .sliceE a c
  | map0 => exact .map0
  | map e => exact .map (h _ _ e)
  | func hf h1 h2 _ _ i3 i4 => exact .func (hf.mono h) h1 h2 i3 i4
  | nilFunc => exact .nilFunc
  | nilIface => exact .nilIface
  | iface t _ ih => exact .iface t ih
  | agg h1 _ i3 => exact .agg h1 i3
  | tuple h1 _ i3 => exact .tuple h1 i3
  | opq i => exact .opq i
  | any h => exact .any h

/-- Lists, element by element. -/
structure LR (η : Nat → Value) (ρ : Env) (l m : List Value) : Prop where
  len : l.length = m.length
  at_ : ∀ (i : Nat) (v x : Value), l[i]? = some v → m[i]? = some x → VR η ρ v x
theorem LR.nil {ρ : Env} : LR η ρ [] [] := ⟨rfl, fun _ _ _ h => by simp at h⟩
theorem LR.cons {ρ : Env} {v x : Value} {l m : List Value} (h : VR η ρ v x) (k : LR η ρ l m) : LR η ρ (v :: l) (x :: m) := by
  refine ⟨by simp [k.len], fun i a b ha hb => ?_⟩
  cases i with
  | zero => simp at ha hb; subst ha; subst hb; exact h
  | succ i => simp at ha hb; exact k.at_ i a b ha hb
theorem LR.inv_cons {ρ : Env} {v : Value} {l m : List Value} (h : LR η ρ (v :: l) m) : ∃ x m', m = x :: m' ∧ VR η ρ v x ∧ LR η ρ l m' := by
  cases m with
  | nil => have := h.len; simp at this
  | cons x m =>
    refine ⟨x, m, rfl, h.at_ 0 v x rfl rfl, by have := h.len; simpa using this, fun i a b ha hb => h.at_ (i + 1) a b (by simpa using ha) (by simpa using hb)⟩
theorem LR.inv_nil {ρ : Env} {m : List Value} (h : LR η ρ [] m) : m = [] := by
  have := h.len; cases m with
  | nil => rfl
  | cons _ _ => simp at this
theorem LR.mono {ρ ρ' : Env} (h : Env.le ρ ρ') {l m : List Value} (k : LR η ρ l m) : LR η ρ' l m := ⟨k.len, fun i v x a b => (k.at_ i v x a b).mono h⟩
theorem LR.append {ρ : Env} {a b c d : List Value} (h : LR η ρ a c) (k : LR η ρ b d) : LR η ρ (a ++ b) (c ++ d) := by
  refine ⟨by simp [h.len, k.len], fun i v x hv hx => ?_⟩
  by_cases hi : i < a.length
  · rw [List.getElem?_append_left hi] at hv
    rw [List.getElem?_append_left (by rw [← h.len]; exact hi)] at hx
    exact h.at_ i v x hv hx
  · rw [List.getElem?_append_right (by omega)] at hv
    rw [List.getElem?_append_right (by rw [← h.len]; omega), ← h.len] at hx
    exact k.at_ _ v x hv hx
theorem LR.take {ρ : Env} {a c : List Value} (h : LR η ρ a c) (n : Nat) : LR η ρ (a.take n) (c.take n) := by
  refine ⟨by simp [h.len], fun i v x hv hx => ?_⟩
  rw [List.getElem?_take] at hv hx
  split at hv
  · rename_i hi; rw [if_pos hi] at hx; exact h.at_ i v x hv hx
  · cases hv
theorem LR.drop {ρ : Env} {a c : List Value} (h : LR η ρ a c) (n : Nat) : LR η ρ (a.drop n) (c.drop n) := by
  refine ⟨by simp [h.len], fun i v x hv hx => ?_⟩
  rw [List.getElem?_drop] at hv hx
  exact h.at_ _ v x hv hx
theorem LR.get {ρ : Env} {a c : List Value} (h : LR η ρ a c) {i : Nat} {v : Value} (hv : a[i]? = some v) : ∃ x, c[i]? = some x ∧ VR η ρ v x := by
  have hi : i < a.length := (List.getElem?_eq_some_iff.1 hv).1
  have hc : i < c.length := by rw [← h.len]; exact hi
  exact ⟨c[i], List.getElem?_eq_getElem hc, h.at_ i v _ hv (List.getElem?_eq_getElem hc)⟩
theorem VR.agg' {ρ : Env} {a c : List Value} (h : LR η ρ a c) : VR η ρ (aggL a) (.agg c.toArray) := .agg (by simpa using h.len) (fun i v x hv hx => h.at_ i v x (by simpa using hv) (by simpa using hx))
theorem VR.tup' {ρ : Env} {a c : List Value} (h : LR η ρ a c) : VR η ρ (tupL a) (.tuple c.toArray) := .tuple (by simpa using h.len) (fun i v x hv hx => h.at_ i v x (by simpa using hv) (by simpa using hx))
/-- A value without addresses says itself. -/
theorem VR.bare {ρ : Env} {v : Value} (h : bareV v = true) : VR η ρ v v := by
  cases v with
  | bool b => exact .bool b
  | int k n => exact .int k n
  | float k n => exact .float k n
  | complex k a b => exact .complex k a b
  | string s => exact .string s
  | pointer a => cases a with
    | none => exact .ptr0
    | some a => simp [bareV] at h
  | slice a l c => cases a with
    | none => exact .slice0 l c (by simpa [bareV] using h)
    | some a => simp [bareV] at h
  | map r => cases r with
    | none => exact .map0
    | some a => simp [bareV] at h
  | nilFunc => exact .nilFunc
  | nilIface => exact .nilIface
  | _ => simp [bareV] at h
theorem LR.bare {ρ : Env} : ∀ {l : List Value}, l.all bareV = true → LR η ρ l l
  | [], _ => .nil
  | v :: l, h => by
    simp only [List.all_cons, Bool.and_eq_true] at h
    exact .cons (.bare h.1) (LR.bare h.2)
theorem VR.bareA {ρ : Env} {v : Value} (h : bareA v = true) : VR η ρ v v := by
  cases v with
  | agg cs =>
    have := LR.bare (η := η) (ρ := ρ) (l := cs.toList) h
    exact .agg rfl this.at_
  | tuple cs =>
    have he : cs.toList = [] := by simpa [Ev.bareA] using h
    exact .tuple rfl (fun i v x hv => by rw [he] at hv; simp at hv)
  | _ => exact .bare h

/-- The values that are not looked into are of one cell each. -/
def OneCells (η : Nat → Value) : Prop := ∀ i, (η i).oneCell' = true
theorem VR.oneC (hη : OneCells η) {ρ : Env} {v x : Value} (h : VR η ρ v x) (hv : Ev.oneC v = true) : x.oneCell' = true := by
  cases h <;> first | rfl | (simp [Ev.oneC] at hv; done) | exact hη _ | assumption
theorem VR.cells (hη : OneCells η) {ρ : Env} {v x : Value} (h : VR η ρ v x) : LR η ρ (cellsL v) x.cells.toList := by
  have one : ∀ {v x : Value}, VR η ρ v x → cellsL v = [v] → x.cells = #[x] → LR η ρ (cellsL v) x.cells.toList := by
    intro v x h h1 h2
    rw [h1, h2]; exact .cons h .nil
  cases h with
  | agg h1 h3 => exact ⟨h1, h3⟩
  | opq i =>
    refine one (.opq i) rfl ?_
    have := hη i
    cases hx : η i <;> first | rfl | (rw [hx] at this; simp [Value.oneCell'] at this)
  | any h =>
    refine one (.any h) rfl ?_
    cases x <;> first | rfl | simp [Value.oneCell'] at h
  | tuple h1 h3 => exact one (.tuple h1 h3) rfl rfl
  | func a b c d e => exact one (.func a b c d e) rfl rfl
  | iface t h => exact one (.iface t h) rfl rfl
  | bool b => exact one (.bool b) rfl rfl
  | int k n => exact one (.int k n) rfl rfl
  | float k n => exact one (.float k n) rfl rfl
  | complex k a b => exact one (.complex k a b) rfl rfl
  | string s => exact one (.string s) rfl rfl
  | ptr0 => exact one .ptr0 rfl rfl
  | ptr h => exact one (.ptr h) rfl rfl
  | slice0 l c h => exact one (.slice0 l c h) rfl rfl
  | slice l c h h' => exact one (.slice l c h h') rfl rfl
  | sliceU l s c h a b d e => exact one (.sliceU l s c h a b d e) rfl rfl
  | sliceE a c => exact one (.sliceE a c) rfl rfl
  | map0 => exact one .map0 rfl rfl
  | map h => exact one (.map h) rfl rfl
  | nilFunc => exact one .nilFunc rfl rfl
  | nilIface => exact one .nilIface rfl rfl

/-- Temporaries. -/
def TR (η : Nat → Value) (ρ : Env) (tm : T Value) (n : Nat) (tmps : Array Value) : Prop := tmps.size = n ∧ (∀ t, n ≤ t → tm.get t = none) ∧ ∀ t, t < n → VR η ρ ((tm.get t).getD undef) (tmps.getD t undef)
def TgR (ρ : Env) (η : Nat → Value) : Target → Target → Prop
  | .fn f a, .fn g b => FnR ρ f g ∧ LR η ρ a.toList b.toList
  | .nil, .nil => True
  | .builtin b ts t cs, .builtin b' ts' t' cs' => b = b' ∧ ts = ts' ∧ t = t' ∧ cs = cs'
  | .collected r, .collected r' => ∃ d n, ρ r = some (r', d, n)
  | _, _ => False
def DR (η : Nat → Value) (ρ : Env) (d e : Deferred) : Prop := TgR ρ η d.target e.target ∧ LR η ρ d.args.toList e.args.toList
/-- Lists of what is related. -/
inductive L2 {α β : Type} (R : α → β → Prop) : List α → List β → Prop
  | nil : L2 R [] []
  | cons {a b l m} (h : R a b) (k : L2 R l m) : L2 R (a :: l) (b :: m)
theorem L2.mono {α β : Type} {R S : α → β → Prop} (h : ∀ a b, R a b → S a b) {l : List α} {m : List β} (k : L2 R l m) : L2 S l m := by
  induction k with
  | nil => exact .nil
  | cons a _ ih => exact .cons (h _ _ a) ih
theorem L2.append {α β : Type} {R : α → β → Prop} {l l' : List α} {m m' : List β} (h : L2 R l m) (k : L2 R l' m') : L2 R (l ++ l') (m ++ m') := by
  induction h with
  | nil => exact k
  | cons a _ ih => exact .cons a ih
theorem L2.len {α β : Type} {R : α → β → Prop} {l : List α} {m : List β} (h : L2 R l m) : l.length = m.length := by
  induction h with
  | nil => rfl
  | cons _ _ ih => simp [ih]
def ER (η : Nat → Value) (ρ : Env) (e f : MapEntry) : Prop := VR η ρ e.key f.key ∧ VR η ρ e.val f.val ∧ e.born = f.born
theorem TR.mono {ρ ρ' : Env} (h : Env.le ρ ρ') {tm : T Value} {n : Nat} {ts : Array Value} (k : TR η ρ tm n ts) : TR η ρ' tm n ts := ⟨k.1, k.2.1, fun t ht => (k.2.2 t ht).mono h⟩
theorem TgR.mono {ρ ρ' : Env} (h : Env.le ρ ρ') {s t : Target} (k : TgR ρ η s t) : TgR ρ' η s t := by
  cases s <;> cases t <;> simp only [TgR] at k ⊢ <;> first | exact k | exact ⟨k.1.mono h, k.2.mono h⟩ | (obtain ⟨d, n, e⟩ := k; exact ⟨d, n, h _ _ e⟩)
theorem DR.mono {ρ ρ' : Env} (h : Env.le ρ ρ') {d e : Deferred} (k : DR η ρ d e) : DR η ρ' d e := ⟨k.1.mono h, k.2.mono h⟩
theorem ER.mono {ρ ρ' : Env} (h : Env.le ρ ρ') {d e : MapEntry} (k : ER η ρ d e) : ER η ρ' d e := ⟨k.1.mono h, k.2.1.mono h, k.2.2⟩

structure CR (η : Nat → Value) (ρ : Env) (ty : TypeId) (c : List Value) (p : Bool) (own : Nat) (d n : Nat) (C : Array Value) (ty' : TypeId) (lo hi : Nat) : Prop where
  ty : ty' = ty
  size : C.toList.length = d + n
  len : c.length ≤ n
  at_ : ∀ (i : Nat) (v : Value), c[i]? = some v → ∃ x, C.toList[d + i]? = some x ∧ VR η ρ v x
  plain : p = true → lo = 0 ∧ hi = 0 ∧ d = 0 ∧ c.length = n
  free : own = 2 → ∀ i, i < n → ¬ (lo ≤ d + i ∧ d + i < hi)
/-- What a block of the evaluator says of one of the world's. -/
def OR (η : Nat → Value) (ρ : Env) : AObj → Nat → Nat → Obj → Prop
  | .cells ty c p own, d, n, o => ∃ C ty' lo hi, o = .cells C ty' (lo, hi) ∧ CR η ρ ty c p own d n C ty' lo hi
  | .map es clock _, _, _, o => ∃ E, o = .map E clock ∧ L2 (ER η ρ) es E.toList
  | .stringIter s pos, d, _, o => d = 0 ∧ o = .stringIter s pos
  | .mapIter m since seen last, d, _, o => d = 0 ∧ ∃ m', o = .mapIter m' since seen.toArray last ∧ (match m, m' with | none, none => True | some r, some b => ∃ d n, ρ r = some (b, d, n) | _, _ => False)
  | .loop st pend fn tm n ps asg body ds, _, _, o => ∃ l : Loop, o = .loop l ∧ l.state = st ∧ l.pending = pend ∧ l.fn = fn ∧ TR η ρ tm n l.tmps ∧ l.params.toList = ps ∧ l.assign = asg ∧ l.body = body ∧ ∃ d n, ρ ds = some (l.defers, d, n)
  | .deferred ds, _, _, o => ∃ ds', o = .deferred ds' ∧ (match ds, ds' with | none, none => True | some l, some m => L2 (DR η ρ) l m | _, _ => False)
def ownO : AObj → Bool
  | .cells _ _ _ own => own != 0
  | .map _ _ own => own
  | _ => true
theorem CR.mono {ρ ρ' : Env} (h : Env.le ρ ρ') {ty : TypeId} {c : List Value} {p : Bool} {own : Nat} {d n : Nat} {C : Array Value} {ty' : TypeId} {lo hi : Nat} (k : CR η ρ ty c p own d n C ty' lo hi) : CR η ρ' ty c p own d n C ty' lo hi :=
  ⟨k.ty, k.size, k.len, fun i v e => let ⟨x, a, b⟩ := k.at_ i v e; ⟨x, a, b.mono h⟩, k.plain, k.free⟩
theorem OR.mono {ρ ρ' : Env} (h : Env.le ρ ρ') {a : AObj} {d n : Nat} {o : Obj} (k : OR η ρ a d n o) : OR η ρ' a d n o := by
  cases a with
  | cells ty c p own => obtain ⟨C, t, lo, hi, e, k⟩ := k; exact ⟨C, t, lo, hi, e, k.mono h⟩
  | map es clock own => obtain ⟨E, e, k⟩ := k; exact ⟨E, e, k.mono fun _ _ => ER.mono h⟩
  | stringIter s pos => exact k
  | mapIter m since seen last =>
    obtain ⟨hd, m', e, k⟩ := k
    refine ⟨hd, m', e, ?_⟩
    cases m <;> cases m' <;> simp only at k ⊢
    obtain ⟨d, n, e⟩ := k; exact ⟨d, n, h _ _ e⟩
  | loop st pend fn tm n ps asg body ds =>
    obtain ⟨l, e, a, b, c, t, f, g, i, d, n, k⟩ := k
    exact ⟨l, e, a, b, c, t.mono h, f, g, i, d, n, h _ _ k⟩
  | deferred ds =>
    obtain ⟨m', e, k⟩ := k
    refine ⟨m', e, ?_⟩
    cases ds <;> cases m' <;> simp only at k ⊢
    exact k.mono fun _ _ => DR.mono h

/-- Where what may be written begins (n), and the blocks before it that may have several names (S): they are only read. -/
structure Bd where
  n : Nat
  S : Nat → Prop
  lt : ∀ b, S b → b < n
/-- No block has two names. -/
def Bd.of (n : Nat) : Bd := ⟨n, fun _ => False, fun _ h => h.elim⟩
instance : Coe Nat Bd := ⟨Bd.of⟩
/-- A block that may have several names: it is only read, and not compared. -/
def shO : AObj → Bool
  | .cells _ _ p own => !p && own == 0
  | _ => false
theorem shO_own {a : AObj} (h : shO a = true) : ownO a = false := by
  cases a <;> simp_all [shO, ownO]
/-- What the evaluator's heap says of a world; B: what it may write lies from this block on. -/
structure HR (η : Nat → Value) (ρ : Env) (B : Bd) (h : AH) (w : World) : Prop where
  obj : ∀ r a, h.objs.get r = some a → ∃ b d n o, ρ r = some (b, d, n) ∧ w.heap[b]? = some o ∧ OR η ρ a d n o ∧ (ownO a = true → B.n ≤ b)
  inj : ∀ r r' a a' b d n d' n', h.objs.get r = some a → h.objs.get r' = some a' → ρ r = some (b, d, n) → ρ r' = some (b, d', n') → r = r' ∨ B.S b
  sh : ∀ r a b d n, h.objs.get r = some a → ρ r = some (b, d, n) → B.S b → shO a = true
theorem HR.uni {η : Nat → Value} {ρ : Env} {B : Bd} {h : AH} {w : World} (H : HR η ρ B h w) {r r' : Nat} {a a' : AObj} {b d n d' n' : Nat} (h1 : h.objs.get r = some a) (h2 : h.objs.get r' = some a') (e1 : ρ r = some (b, d, n)) (e2 : ρ r' = some (b, d', n')) (hs : shO a' = false) : r = r' := by
  rcases H.inj r r' a a' b d n d' n' h1 h2 e1 e2 with h | h
  · exact h
  · rw [H.sh r' a' b d' n' h2 e2 h] at hs; cases hs
theorem sh_of_own {a : AObj} (h : ownO a = true) : shO a = false := by
  cases hs : shO a with
  | false => rfl
  | true => rw [shO_own hs] at h; cases h
def Own (ρ : Env) (h : AH) (b : Nat) : Prop := ∃ r a d n, h.objs.get r = some a ∧ ownO a = true ∧ ρ r = some (b, d, n)
/-- What is left as it was: all that the heap does not own. -/
structure Fr (ρ : Env) (h : AH) (w w' : World) : Prop where
  os : w'.os = w.os
  tape : w'.tape = w.tape
  output : w'.output = w.output
  size : w.heap.size ≤ w'.heap.size
  kept : ∀ k, k < w.heap.size → ¬ Own ρ h k → w'.heap[k]? = w.heap[k]?
/-- What is owned behind was owned before, or is new. -/
def OwnIn (ρ ρ' : Env) (h h' : AH) (w : World) : Prop := ∀ b, Own ρ' h' b → Own ρ h b ∨ w.heap.size ≤ b
def FreshR (ρ : Env) (n : Nat) : Prop := ∀ r, n ≤ r → ρ r = none
theorem Fr.refl (ρ : Env) (h : AH) (w : World) : Fr ρ h w w := ⟨rfl, rfl, rfl, Nat.le_refl _, fun _ _ _ => rfl⟩
theorem Fr.trans {ρ ρ' : Env} {h h' : AH} {w w' w'' : World} (a : Fr ρ h w w') (o : OwnIn ρ ρ' h h' w) (b : Fr ρ' h' w' w'') : Fr ρ h w w'' := by
  refine ⟨b.os.trans a.os, b.tape.trans a.tape, b.output.trans a.output, Nat.le_trans a.size b.size, fun k hk hn => ?_⟩
  rw [b.kept k (Nat.lt_of_lt_of_le hk a.size) (fun hq => ?_), a.kept k hk hn]
  rcases o k hq with h | h
  · exact hn h
  · omega
theorem OwnIn.trans {ρ ρ' ρ'' : Env} {h h' h'' : AH} {w w' : World} (a : OwnIn ρ ρ' h h' w) (hs : w.heap.size ≤ w'.heap.size) (b : OwnIn ρ' ρ'' h' h'' w') : OwnIn ρ ρ'' h h'' w := by
  intro k hk
  rcases b k hk with h | h
  · exact a k h
  · exact .inr (by omega)
theorem OwnIn.refl (ρ : Env) (h : AH) (w : World) : OwnIn ρ ρ h h w := fun _ h => .inl h
theorem HR.below {ρ : Env} {B : Bd} {h : AH} {w w' : World} (k : HR η ρ B h w) (f : Fr ρ h w w') (hB : B.n ≤ w.heap.size) : Go.RowKit.Below B.n w w' := by
  refine ⟨f.os, f.tape, f.output, f.size, fun i hi => f.kept i (by omega) fun ⟨r, a, d, n, e1, e2, e3⟩ => ?_⟩
  obtain ⟨b, d', n', o, e4, _, _, e5⟩ := k.obj r a e1
  rw [e3] at e4
  injection e4 with e4
  injection e4 with e4
  have := e5 e2
  omega
end Go.Ev

