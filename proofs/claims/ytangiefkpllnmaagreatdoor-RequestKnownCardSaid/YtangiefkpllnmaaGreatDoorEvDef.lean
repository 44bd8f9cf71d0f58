/- An evaluator of calls whose data are known: values over blocks by numbers of its own; an unknown capacity is told by a mark. Its soundness is proved in the texts that import this one. -/
import GoSem.Step
import GoSem.Claims
import Derived.Laws.Externs
namespace Go.Ev
set_option linter.unusedVariables false
set_option linter.unusedSimpArgs false

/-- A tree of values by number. -/
inductive T (α : Type) where
  | nil
  | node (o : Option α) (l r : T α)
def T.get {α : Type} : T α → Nat → Option α
  | .nil, _ => none
  | .node o l r, n => if n = 0 then o else if n % 2 = 1 then l.get (n / 2) else r.get (n / 2 - 1)
def T.setF {α : Type} : Nat → T α → Nat → Option α → T α
  | 0, t, _, _ => t
  | k + 1, .nil, n, v => if n = 0 then .node v .nil .nil else if n % 2 = 1 then .node none (T.setF k .nil (n / 2) v) .nil else .node none .nil (T.setF k .nil (n / 2 - 1) v)
  | k + 1, .node o l r, n, v => if n = 0 then .node v l r else if n % 2 = 1 then .node o (T.setF k l (n / 2) v) r else .node o l (T.setF k r (n / 2 - 1) v)
def T.set {α : Type} (t : T α) (n : Nat) (v : α) : T α := T.setF (n + 1) t n (some v)
def T.del {α : Type} (t : T α) (n : Nat) : T α := T.setF (n + 1) t n none
def T.ofL {α : Type} : List α → Nat → T α → T α
  | [], _, t => t
  | x :: xs, n, t => T.ofL xs (n + 1) (t.set n x)

inductive AObj where
  /-- own: 0 not the evaluator's own, 1 own but not to be written, 2 own -/
  | cells (ty : TypeId) (c : List Value) (plain : Bool) (own : Nat)
  | map (es : List MapEntry) (clock : Nat) (own : Bool)
  | stringIter (s : ByteArray) (pos : Nat)
  | mapIter (m : Option Nat) (since : Nat) (seen : List Nat) (stepped : Nat)
  | loop (state : LoopState) (pending : Option Code) (fn : FuncId) (tm : T Value) (n : Nat) (params : List Tmp) (assign body : Code) (defers : Nat)
  | deferred (ds : Option (List Deferred))

structure AH where
  objs : T AObj
  next : Nat

abbrev M := Except String
def no {α : Type} (s : String) : M α := .error s
def orNo {α : Type} (s : String) : Option α → M α
  | some x => .ok x
  | none => .error s

/-- Unknown capacities: of elements of n cells. -/
def capB : Nat := 9223372036854775808
def capU (n : Nat) : Nat := capB + n
def isU (c : Nat) : Bool := decide (capB ≤ c)

def cellsL : Value → List Value
  | .agg cs => cs.toList
  | v => [v]
def aggL (l : List Value) : Value := .agg ⟨l⟩
def tupL (l : List Value) : Value := .tuple ⟨l⟩
def addO (a : Addr) (n : Nat) : Addr := ⟨a.block, a.off + n, none⟩
def strL (l : List UInt8) : Value := .string ⟨⟨l⟩⟩
/-- A value without an address. -/
def bareV : Value → Bool
  | .bool _ | .int _ _ | .float _ _ | .complex _ _ _ | .string _ | .pointer none | .map none | .nilFunc | .nilIface => true
  | .slice none _ c => !isU c
  | _ => false
def bareA : Value → Bool
  | .agg cs => cs.toList.all bareV
  | .tuple cs => cs.toList.isEmpty
  | v => bareV v
def intOfA : Value → M Int
  | .int _ n => .ok n
  | _ => no "int expected"
def addrA : Value → M Addr
  | .pointer (some a) => if a.spot = none then .ok a else no "spot"
  | _ => no "address expected"

def newA (h : AH) (o : AObj) : Nat × AH := (h.next, { objs := h.objs.set h.next o, next := h.next + 1 })
def putA (h : AH) (r : Nat) (o : AObj) : AH := { h with objs := h.objs.set r o }
def cellsAt (h : AH) (r : Nat) : M (TypeId × List Value × Bool × Nat) :=
  match h.objs.get r with
  | some (.cells ty c p own) => .ok (ty, c, p, own)
  | _ => no "no cells"
def getC (h : AH) (a : Addr) (n : Nat) : M (List Value) :=
  match cellsAt h a.block with
  | .ok (_, c, _, _) => if a.off + n ≤ c.length ∧ a.spot = none then .ok ((c.drop a.off).take n) else no "cells out of range"
  | .error e => .error e
def splice (c : List Value) (off : Nat) (vs : List Value) : List Value := c.take off ++ vs ++ c.drop (off + vs.length)
/-- Is it the value of one cell? -/
def oneC : Value → Bool
  | .agg _ | .tuple _ => false
  | _ => true
def storeC (h : AH) (a : Addr) (vs : List Value) : M AH :=
  match vs with
  | [] => .ok h
  | _ => match cellsAt h a.block with
    | .ok (ty, c, p, own) => if own = 2 ∧ a.off + vs.length ≤ c.length ∧ a.spot = none ∧ vs.all oneC = true then .ok (putA h a.block (.cells ty (splice c a.off vs) p 2)) else no "store"
    | .error e => .error e
def mapOf (h : AH) (r : Nat) : M (List MapEntry × Nat × Bool) :=
  match h.objs.get r with
  | some (.map es c own) => .ok (es, c, own)
  | _ => no "no map"
def rep (z : List Value) : Nat → List Value
  | 0 => []
  | n + 1 => z ++ rep z n
def bytesV (l : List UInt8) : List Value := l.map fun b => .int .u8 b.toNat
def bytesOf : List Value → M (List UInt8)
  | [] => .ok []
  | .int .u8 n :: r => match bytesOf r with
    | .ok l => .ok (UInt8.ofNat n.toNat :: l)
    | .error e => .error e
  | _ => no "byte"

section
variable (P : Program)
def infoA (t : TypeId) : M TypeInfo := orNo "type" (P.info? t)
def undA (t : TypeId) : M TypeDesc := orNo "type" (P.underlying t)
def isAggA (t : TypeId) : M Bool := do
  match ← undA P t with
  | .struct _ | .array _ _ => .ok true
  | _ => .ok false
def sizeA (t : TypeId) : M Nat := do .ok (← infoA P t).size
def zeroA (t : TypeId) : M Value := do
  let v ← orNo "zero" (← infoA P t).zero
  if bareA v then .ok v else no "zero"
def loadA (h : AH) (t : TypeId) (a : Addr) : M Value := do
  if ← isAggA P t then .ok (aggL (← getC h a (← sizeA P t)))
  else match ← getC h a 1 with
    | [v] => .ok v
    | _ => no "cell"
def storeA (h : AH) (t : TypeId) (a : Addr) (v : Value) : M AH := do
  if (cellsL v).length ≠ (← sizeA P t) then no "store: size" else storeC h a (cellsL v)
def partA (t : TypeId) (cs : List Value) (off : Nat) : M Value := do
  if ← isAggA P t then .ok (aggL ((cs.drop off).take (← sizeA P t))) else orNo "part" cs[off]?
def fillA (place : Nat → Option (Nat × Nat)) : List Value → List (Nat × Value) → M (List Value)
  | c, [] => .ok c
  | c, (i, v) :: r => match place i with
    | none => no "fill"
    | some (off, size) => if (cellsL v).length ≠ size ∨ off + size > c.length then no "fill size" else fillA place (splice c off (cellsL v)) r
def placesA : List Field → M (List (Nat × Nat))
  | [] => .ok []
  | f :: fs => do
    let s ← sizeA P f.type
    let r ← placesA fs
    .ok ((f.offset, s) :: r)
def boundA (x : Value) (y : Nat) : M Nat := do
  let i ← intOfA x
  if 0 ≤ i ∧ i ≤ y then .ok i.toNat else no "slice bound"
/-- low, high, max of a slice expression -/
def boundsA (len cap : Nat) (lo hi mx : Option Value) : M (Nat × Nat × Nat) := do
  let m ← (match mx with | some v => boundA v cap | none => .ok cap : M Nat)
  let h ← (match hi, mx with
    | some v, some _ => boundA v m
    | some v, none => boundA v m
    | none, none => .ok len
    | none, some _ => no "max without high" : M Nat)
  let l ← (match lo with | some v => boundA v h | none => .ok 0 : M Nat)
  .ok (l, h, m)
/-- A slice of a known capacity. -/
def mkS (a : Option Addr) (l c : Nat) : M Value := if isU c then no "a long slice" else .ok (.slice a l c)
def sliceA (t : TypeId) (x : Value) (lo hi mx : Option Value) : M Value := do
  match ← undA P t, x with
  | .string, .string s =>
    if mx.isSome then no "max" else do
    let (l, h, _) ← boundsA s.size s.size lo hi none
    .ok (strL ((s.data.toList.drop l).take (h - l)))
  | .slice elem, .slice a len cap => do
    let size ← sizeA P elem
    if isU cap then
      let (l, h, m) ← boundsA len len lo hi mx
      if cap ≠ capU size ∨ size = 0 then no "slice: mark" else
      if mx.isSome then mkS (if m = l then a else a.map (addO · (l * size))) (h - l) (m - l)
      else if l < len ∨ l = 0 then .ok (.slice (a.map (addO · (l * size))) (h - l) cap) else no "slice at the end of a row of unknown capacity"
    else
      let (l, h, m) ← boundsA len cap lo hi mx
      mkS (if m = l then a else a.map (addO · (l * size))) (h - l) (m - l)
  | .pointer arr, .pointer (some a) => do
    match ← undA P arr with
    | .array n elem => do
      let (l, h, m) ← boundsA n n lo hi mx
      let size ← sizeA P elem
      mkS (some (if m = l then a else addO a (l * size))) (h - l) (m - l)
    | _ => no "slice: array"
  | .array n elem, .pointer (some a) => do
    let (l, h, m) ← boundsA n n lo hi mx
    let size ← sizeA P elem
    mkS (some (if m = l then a else addO a (l * size))) (h - l) (m - l)
  | _, _ => no "slice of what"

/-- == -/
def eqFields (eq : TypeId → Value → Value → M Bool) (xs ys : List Value) : List Field → M Bool
  | [] => .ok true
  | f :: fs => if f.name = "_" then eqFields eq xs ys fs else do
    if ← eq f.type (← partA P f.type xs f.offset) (← partA P f.type ys f.offset) then eqFields eq xs ys fs else .ok false
def eqAddr (h : AH) (a b : Addr) : M Bool :=
  if a.spot = none ∧ b.spot = none then
    if a.block = b.block then .ok (a.off == b.off)
    else match cellsAt h a.block, cellsAt h b.block with
      | .ok (_, c, p, _), .ok (_, c', p', _) => if p && p' && !c.isEmpty && !c'.isEmpty then .ok false else no "eq pointers"
      | _, _ => no "eq pointers: no blocks"
  else no "eq spot"
def eqA (h : AH) : Nat → TypeId → Value → Value → M Bool
  | 0, _, _, _ => no "eq depth"
  | d + 1, t, x, y => do
    match ← undA P t, x, y with
    | .bool, .bool a, .bool b => .ok (a == b)
    | .int _, .int k a, .int k' b => if k = k' then .ok (a == b) else no "eq kinds"
    | .string, .string a, .string b => .ok (a.data.toList == b.data.toList)
    | .pointer _, .pointer none, .pointer b => .ok b.isNone
    | .pointer _, .pointer _, .pointer none => .ok false
    | .pointer elem, .pointer (some a), .pointer (some b) => do if (← sizeA P elem) ≠ 0 then eqAddr h a b else no "eq size 0"
    | .interface _, .nilIface, .nilIface => .ok true
    | .interface _, .nilIface, .iface _ _ | .interface _, .iface _ _, .nilIface => .ok false
    | .interface _, .iface tx vx, .iface ty vy =>
      if tx ≠ ty then .ok false else do
      let i ← infoA P tx
      if !i.comparable then no "eq uncomparable" else eqA h d tx vx vy
    | .struct fields, .agg xs, .agg ys => if P.stoodInHeld t then no "eq stood in" else eqFields P (eqA h d) xs.toList ys.toList fields.toList
    | .slice _, .slice none _ _, .slice b _ _ => .ok b.isNone
    | .slice _, .slice _ _ _, .slice none _ _ => .ok false
    | .map _ _, .map none, .map b => .ok b.isNone
    | .map _ _, .map _, .map none => .ok false
    | .func _ _ _, .nilFunc, .nilFunc => .ok true
    | .func _ _ _, .nilFunc, .func _ _ _ | .func _ _ _, .func _ _ _, .nilFunc => .ok false
    | _, _, _ => no "eq of what"

def cmpA (op : BinOp) (a b : Int) : M Value :=
  match op with
  | .eql => .ok (.bool (a == b)) | .neq => .ok (.bool (a != b)) | .lss => .ok (.bool (decide (a < b))) | .leq => .ok (.bool (decide (a ≤ b))) | .gtr => .ok (.bool (decide (a > b))) | .geq => .ok (.bool (decide (a ≥ b)))
  | _ => no "cmp"
def intA (op : BinOp) (k : IntKind) (a b : Int) : M Value :=
  match op with
  | .add => .ok (.int k (k.wrap (a + b))) | .sub => .ok (.int k (k.wrap (a - b))) | .mul => .ok (.int k (k.wrap (a * b)))
  | .quo => if b = 0 then no "div" else .ok (.int k (k.wrap (a.tdiv b)))
  | .rem => if b = 0 then no "div" else .ok (.int k (a.tmod b))
  | .and => .ok (.int k (k.wrap (BitVec.ofInt k.bits a &&& BitVec.ofInt k.bits b).toNat))
  | .or => .ok (.int k (k.wrap (BitVec.ofInt k.bits a ||| BitVec.ofInt k.bits b).toNat))
  | .xor => .ok (.int k (k.wrap (BitVec.ofInt k.bits a ^^^ BitVec.ofInt k.bits b).toNat))
  | .andNot => .ok (.int k (k.wrap (BitVec.ofInt k.bits a &&& ~~~ BitVec.ofInt k.bits b).toNat))
  | op => cmpA op a b
def shiftA (op : BinOp) (k : IntKind) (a b : Int) : M Value :=
  if b < 0 then no "shift" else match op with
    | .shl => .ok (.int k (k.wrap (a * 2 ^ (min b.toNat k.bits))))
    | .shr => .ok (.int k (a.fdiv (2 ^ (min b.toNat k.bits))))
    | _ => no "shift"
def strA (op : BinOp) (a b : List UInt8) : M Value :=
  let eq := a == b
  let lt := Op.bytesLess a b
  match op with
  | .add => if a.length + b.length ≤ 9223372036854775807 then .ok (strL (a ++ b)) else no "long"
  | .eql => .ok (.bool eq) | .neq => .ok (.bool !eq)
  | .lss => .ok (.bool lt) | .leq => .ok (.bool (lt || eq))
  | .gtr => .ok (.bool !(lt || eq)) | .geq => .ok (.bool !lt)
  | _ => no "string op"
def isShift : BinOp → Bool
  | .shl | .shr => true
  | _ => false
def isEq : BinOp → Option Bool
  | .eql => some true
  | .neq => some false
  | _ => none
def isConstO : Operand → Bool
  | .const _ => true
  | _ => false
/-- Could '==' meet two nil interfaces with methods? -/
def nilOk (t : TypeId) : M Bool :=
  match P.underlying t with
  | some (.interface ms) => .ok ms.isEmpty
  | some _ => .ok true
  | none => no "type"
def guardOk (op : BinOp) (t : TypeId) (x y : Operand) (a b : Value) : M Bool :=
  match isEq op with
  | none => .ok true
  | some _ => match a, b with
    | .nilIface, .nilIface => if isConstO x || isConstO y then .ok true else nilOk P t
    | .agg _, .agg _ => .ok (!P.eqGuardType P.depth t)
    | _, _ => .ok true
def plainV : Value → Bool
  | .int .. | .string _ | .float .. | .complex .. | .chan _ | .tuple _ => false
  | _ => true
def binA (h : AH) (op : BinOp) (t : TypeId) (x y : Value) : M Value :=
  match x, y with
  | .int k a, .int k' b => if isShift op then shiftA op k a b else if k = k' then intA op k a b else no "kinds"
  | .string a, .string b => strA op a.data.toList b.data.toList
  | x, y => if plainV x && plainV y then
      match isEq op with
      | some want => do .ok (.bool ((← eqA P h 10000 t x y) == want))
      | none => no "binop"
    else no "binop"
def unA (op : UnOp) (x : Value) : M Value :=
  match op, x with
  | .neg, .int k n => .ok (.int k (k.wrap (0 - n)))
  | .xor, .int k n => .ok (.int k (k.wrap (BitVec.ofInt k.bits (if k.signed then -1 else k.max) ^^^ BitVec.ofInt k.bits n).toNat))
  | .not, .bool b => .ok (.bool !b)
  | _, _ => no "unop"
def isSliceT (t : TypeId) : Bool := match P.underlying t with | some (.slice _) => true | _ => false
/-- Conversions that make no memory. -/
def convA (h : AH) (src dst : TypeId) (x : Value) : M Value := do
  match ← undA P src, ← undA P dst, x with
  | _, .int k, .int _ n => .ok (.int k (k.wrap n))
  | _, .string, .int _ n => .ok (.string (Utf8.encode n))
  | _, .string, .string s => .ok (.string s)
  | .slice e, .string, .slice a len _ => do
    match ← undA P e, a with
    | .int .u8, none => .ok (.string ⟨#[]⟩)
    | .int .u8, some a => do .ok (strL (← bytesOf (← getC h a len)))
    | _, _ => no "conv"
  | .pointer t, .unsafePointer, .pointer (some a) => do
    let n ← sizeA P t
    let (_, c, p, _) ← cellsAt h a.block
    if n ≠ 0 ∧ p = true ∧ a.off < c.length ∧ a.spot = none then .ok (.pointer (some a)) else no "conv: pointer"
  | .unsafePointer, .pointer u, .pointer (some a) => do
    let _ ← infoA P u
    let (ty, c, p, _) ← cellsAt h a.block
    if p = true ∧ liesAt P P.depth ty (c.length / P.cellsOf ty) a.off u 1 = true ∧ a.spot = none then .ok (.pointer (some a)) else no "conv: pointer"
  | _, _, _ => no "conv"

/-- append -/
def firstA (h : AH) (size n : Nat) : Value → M (List Value)
  | .slice (some a) _ _ => getC h a (n * size)
  | .slice none _ _ => if n * size = 0 then .ok [] else no "nil cells"
  | .string s => if size = 1 then .ok (bytesV (s.data.toList.take n)) else no "bytes"
  | _ => no "slice or string"
def lenA : Value → M Nat
  | .slice _ n _ => .ok n
  | .string s => .ok s.size
  | _ => no "slice or string"
def isIntT (t : TypeId) : M Bool := do
  match ← undA P t with
  | .int _ => .ok true
  | _ => .ok false
/-- The row behind an append that need not, or cannot, be in place. -/
def freshA (h : AH) (elem : TypeId) (size need : Nat) (cells : List Value) : Value × AH :=
  (.slice (some ⟨h.next, 0, none⟩) need (capU size), (newA h (.cells elem cells false 2)).2)
def appendA (h : AH) (argTypes : List TypeId) (args : List Value) : M (Value × AH) := do
  match argTypes, args with
  | [sT, xT], [.slice base len cap, x] => do
    match ← undA P sT with
    | .slice elem => do
      let ei ← infoA P elem
      let z ← zeroA P elem
      let isInt ← isIntT P xT
      if isInt then no "append of make" else
      if ei.size = 0 ∨ ei.bytes > 65536 ∨ (cellsL z).length ≠ ei.size then no "append: size" else
      let n ← lenA x
      let new ← firstA h ei.size n x
      let old ← firstA h ei.size len (.slice base len cap)
      if len + n > 1000000 ∨ new.length ≠ n * ei.size ∨ old.length ≠ len * ei.size ∨ new.all oneC = false then no "append long" else
      if isU cap then
        match base with
        | some a => do
          let (ty, _, _, own) ← cellsAt h a.block
          if own ≠ 2 ∨ cap ≠ capU ei.size ∨ ty ≠ elem then no "append: mark" else
          -- the new row is the old one, or a fresh one: the old one is not looked at any more
          .ok (freshA { h with objs := h.objs.del a.block } elem ei.size (len + n) (old ++ new))
        | none => no "append"
      else if len + n ≤ cap then
        match base with
        | some a => do
          let h ← storeC h (addO a (len * ei.size)) new
          .ok (.slice base (len + n) cap, h)
        | none => if new.isEmpty then .ok (.slice base (len + n) cap, h) else no "append"
      else if cap < 9223372036854775808 then .ok (freshA h elem ei.size (len + n) (old ++ new)) else no "append"
    | _ => no "append"
  | _, _ => no "append args"

/-- Keys are numbers, strings and bools. -/
def keyKind (kt : TypeId) : M TypeDesc := do
  match ← undA P kt with
  | .int k => .ok (.int k)
  | .string => .ok .string
  | .bool => .ok .bool
  | _ => no "key type"
def findM (kt : TypeId) (k : Value) (es : List MapEntry) : M (Option (Nat × Value)) := do
  let d ← keyKind P kt
  orNo "key" (Instr.findNow d k es 0)
def lookA (h : AH) (t : TypeId) (x k : Value) (commaOk : Bool) : M Value := do
  match ← undA P t with
  | .map key elem => do
    let es ← (match x with
      | .map none => .ok []
      | .map (some r) => do .ok (← mapOf h r).1
      | _ => no "map" : M (List MapEntry))
    match ← findM P key k es with
    | some (_, v) => .ok (if commaOk then tupL [v, .bool true] else v)
    | none => do
      let z ← zeroA P elem
      .ok (if commaOk then tupL [z, .bool false] else z)
  | _ => no "map type"
def modEntry (f : MapEntry → MapEntry) : List MapEntry → Nat → List MapEntry
  | [], _ => []
  | e :: es, 0 => f e :: es
  | e :: es, i + 1 => e :: modEntry f es i
def mapSet (h : AH) (t : TypeId) (m k x : Value) : M AH := do
  match ← undA P t, m with
  | .map key _, .map (some r) => do
    let (es, c, own) ← mapOf h r
    if !own then no "map not own" else
    match ← findM P key k es with
    | some (i, _) => .ok (putA h r (.map (modEntry (fun e => { e with key := k, val := x }) es i) c own))
    | none => .ok (putA h r (.map (es ++ [{ key := k, val := x, born := c }]) (c + 1) own))
  | _, _ => no "map type"
def mapEntryA (h : AH) (t : TypeId) (m k : Value) : M (Value × AH) := do
  match ← undA P t, m with
  | .map key elem, .map (some r) => do
    let (es, c, own) ← mapOf h r
    if !own then no "map not own" else
    match ← findM P key k es with
    | some (i, v) => .ok (tupL [v, goInt ((((es[i]?).map (·.born)).getD 0 : Nat))], putA h r (.map (modEntry (fun e => { e with key := k }) es i) c own))
    | none => do
      let z ← zeroA P elem
      .ok (tupL [z, goInt (c : Nat)], putA h r (.map (es ++ [{ key := k, val := z, born := c }]) (c + 1) own))
  | _, _ => no "map type"
def bornAt (b : Int) (es : List MapEntry) : Option Nat := es.findIdx? fun e => (e.born : Int) == b
def entryStoreA (h : AH) (m stamp x : Value) : M AH := do
  match m with
  | .map (some r) => do
    let (es, c, own) ← mapOf h r
    let b ← intOfA stamp
    if !own then no "map not own" else
    match bornAt b es with
    | some i => .ok (putA h r (.map (modEntry (fun e => { e with val := x }) es i) c own))
    | none => no "entry gone"
  | _ => no "nil map"
def deleteA (h : AH) (t : TypeId) (m k : Value) : M AH := do
  match ← undA P t with
  | .map key _ => do
    match m with
    | .map none => do
      let _ ← keyKind P key
      .ok h
    | .map (some r) => do
      let (es, c, own) ← mapOf h r
      if !own then no "map not own" else
      match ← findM P key k es with
      | some (i, _) => .ok (putA h r (.map (es.eraseIdx i) c own))
      | none => .ok (putA h r (.map es c own))
    | _ => no "delete"
  | _ => no "map type"
def clearA (h : AH) (t : TypeId) (x : Value) : M AH := do
  match ← undA P t, x with
  | .map _ _, .map none => .ok h
  | .slice _, .slice none _ _ => .ok h
  | .map _ _, .map (some r) => do
    let (_, c, own) ← mapOf h r
    if own then .ok (putA h r (.map [] c own)) else no "clear"
  | .slice elem, .slice (some a) n _ => do if n = 0 then .ok h else storeC h a (rep (cellsL (← zeroA P elem)) n)
  | _, _ => no "clear"
def maxL (mx : Bool) : Value → List Value → M Value
  | v, [] => .ok v
  | .int k a, .int _ b :: r => maxL mx (.int k (if (if mx then decide (b > a) else decide (b < a)) then b else a)) r
  | _, _ => no "max"

def fieldOff (s : TypeId) (i : Nat) : M Field := do
  match ← undA P s with
  | .struct fs => orNo "field" fs.toList[i]?
  | _ => no "field: struct"
inductive APlace where
  | val (v : Value)
  | var (a : Addr)
def APlace.get (h : AH) (t : TypeId) : APlace → M Value
  | .val v => .ok v
  | .var a => loadA P h t a
def followA (h : AH) : List FieldStep → TypeId → APlace → M (TypeId × APlace)
  | [], t, x => .ok (t, x)
  | s :: rest, t, x => do
    let f ← fieldOff P s.struct s.index
    if s.deref then
      let a ← addrA (← x.get P h t)
      if (← sizeA P f.type) = 0 then no "field of size 0" else followA h rest f.type (.var (addO a f.offset))
    else match x with
      | .var a => do if (← sizeA P f.type) = 0 then no "field of size 0" else followA h rest f.type (.var (addO a f.offset))
      | .val (.agg cs) => do followA h rest f.type (.val (← partA P f.type cs.toList f.offset))
      | _ => no "follow"
def recvAt (h : AH) (xt : TypeId) (x : APlace) (ptr : Bool) : M Value := do
  match ← undA P xt, ptr, x with
  | .pointer _, true, x => x.get P h xt
  | .pointer elem, false, x => do loadA P h elem (← addrA (← x.get P h xt))
  | _, true, .var a => .ok (.pointer (some a))
  | _, true, .val _ => no "recv"
  | _, false, x => x.get P h xt
def methodA (h : AH) : Nat → TypeId → Value → String → M (FuncId × Value)
  | 0, _, _, _ => no "method fuel"
  | n + 1, t, v, name => do
    let m ← orNo "no method" ((← infoA P t).methods.toList.find? (·.name == name))
    let (xt, x) ← followA P h m.path.toList t (.val v)
    match m.func with
    | none => do
      match ← x.get P h xt with
      | .iface t' v' => methodA h n t' v' name
      | _ => no "method of nil"
    | some (f, ptr) => do .ok (f, ← recvAt P h xt x ptr)

/-- What an operation leads to. -/
inductive AN where
  | value (v : Value)
  | skip
  | enter (f : FuncId) (args : List Value)
  | defer (d : Deferred)
  | recover
  | round (l : Nat) (fn : FuncId) (tm : T Value) (n : Nat) (assign body : Code)
  | panic (v : Value)

/-- Computations that read the program alone. -/
def runR {α : Type} (s : Sem α) : M α :=
  match s.run P default with
  | .ok a _ => .ok a
  | _ => no "reader"
/-- The mark of a type: a number in a block that holds nothing. -/
def handA : Value → M TypeId
  | .pointer (some a) => if a.block = P.globals.size ∧ a.spot = none then .ok a.off else no "handle"
  | _ => no "handle"
def handV (t : TypeId) : Value := .pointer (some ⟨P.globals.size, t, none⟩)
def rtypeA (t : TypeId) : M Value := do
  let c ← runR P (cutType "internal/reflectlite.rtype")
  .ok (.iface c (aggL [handV P t]))
def ofRtA (v : Value) : M TypeId :=
  match v with
  | .agg ⟨[h]⟩ => do
    let t ← handA P h
    let _ ← runR P (Extern.Rtype.noPack "a Type asked or handed on" t)
    .ok t
  | _ => no "rtype"
def valA (clean : Bool) (v : Value) : M (TypeId × Addr × Nat) :=
  match v with
  | .agg ⟨[h, .pointer (some a), .int .u64 f]⟩ =>
    if f ≤ 0 ∨ a.spot ≠ none then no "Value" else do
    let t ← handA P h
    let _ ← (if clean then runR P (Extern.Rtype.noPack "a Value asked or handed on" t) else .ok () : M Unit)
    .ok (t, a, f.toNat)
  | _ => no "Value"
def mkVA (t : TypeId) (a : Addr) (flags : Nat) : M Value := do
  let k ← runR P (Extern.Rtype.kind t)
  .ok (aggL [handV P t, .pointer (some a), .int .u64 (Int.ofNat (k + 128 + flags))])
/-- Package reflectlite, as far as errors.As asks it. -/
def reflectA (h : AH) (fn : Func) (args : List Value) : M (AN × AH) :=
  if fn.name = "internal/reflectlite.TypeOf" then
    match args with
    | [.nilIface] => .ok (.value .nilIface, h)
    | [.iface t _] => do
      let v ← rtypeA P t
      .ok (.value v, h)
    | _ => no "extern"
  else if fn.name = "(internal/reflectlite.rtype).Elem" then
    match args with
    | [r] => do
      let t ← ofRtA P r
      match ← runR P (Extern.Rtype.elem? t) with
      | some e => do
        let v ← rtypeA P e
        .ok (.value v, h)
      | none => no "extern"
    | _ => no "extern"
  else if fn.name = "(internal/reflectlite.rtype).Implements" then
    match args with
    | [r, .iface _ u] => do
      let a ← ofRtA P u
      let b ← ofRtA P r
      let y ← runR P (Extern.ReflectliteType.implements_ a b)
      .ok (.value (.bool y), h)
    | _ => no "extern"
  else if fn.name = "(internal/reflectlite.rtype).AssignableTo" then
    match args with
    | [r, .iface _ u] => do
      let a ← ofRtA P u
      let b ← ofRtA P r
      let y ← runR P (Extern.ReflectliteType.assignableTo a b)
      .ok (.value (.bool y), h)
    | _ => no "extern"
  else if fn.name = "(*internal/abi.Type).Kind" then
    match args with
    | [x] => do
      let t ← handA P x
      let _ ← runR P (Extern.Rtype.noPack "a method of abi.Type" t)
      let k ← runR P (Extern.Rtype.kind t)
      .ok (.value (.int .u8 k), h)
    | _ => no "extern"
  else if fn.name = "(internal/reflectlite.rtype).Comparable" then
    match args with
    | [r] => do
      let t ← ofRtA P r
      let _ ← runR P (Extern.Rtype.noPackHeld "Comparable" t)
      let i ← infoA P t
      .ok (.value (.bool i.comparable), h)
    | _ => no "extern"
  else if fn.name = "internal/reflectlite.ValueOf" then
    match args with
    | [.iface t v] => do
      let x ← mkVA P t ⟨h.next, 0, none⟩ 0
      .ok (.value x, (newA h (.cells t (cellsL v) true 2)).2)
    | _ => no "extern"
  else if fn.name = "(internal/reflectlite.Value).Type" then
    match args with
    | [v] => do
      let (t, _, _) ← valA P false v
      let x ← rtypeA P t
      .ok (.value x, h)
    | _ => no "extern"
  else if fn.name = "(internal/reflectlite.Value).IsNil" then
    match args with
    | [v] => do
      let (t, a, f) ← valA P true v
      if ([18, 19, 20, 21, 22, 23, 26].contains (f % 32)) = false then no "IsNil" else
      match ← loadA P h t a with
      | .pointer none => .ok (.value (.bool true), h)
      | .pointer (some _) => .ok (.value (.bool false), h)
      | _ => no "IsNil"
    | _ => no "extern"
  else if fn.name = "(internal/reflectlite.Value).Elem" then
    match args with
    | [v] => do
      let (t, a, f) ← valA P true v
      if f % 32 ≠ 22 then no "Elem" else
      match ← loadA P h t a, ← runR P (Extern.Rtype.elem? t) with
      | .pointer (some p), some e => do
        let x ← mkVA P e p 256
        .ok (.value x, h)
      | _, _ => no "Elem"
    | _ => no "extern"
  else if fn.name = "(internal/reflectlite.Value).Set" then
    match args with
    | [v, x] => do
      let (dst, a, f) ← valA P true v
      let (src, b, _) ← valA P true x
      if f / 256 % 2 = 0 then no "Set" else
      let u ← loadA P h src b
      if (← runR P (Extern.Rtype.directlyAssignable dst src)) = false then no "Set" else
      let h ← storeA P h dst a u
      .ok (.value (tupL []), h)
    | _ => no "extern"
  else no ("extern " ++ fn.name)

/-- Functions without a body. -/
def externA (h : AH) (fn : Func) (args : List Value) : M (AN × AH) :=
  if (fn.origin == fn.name || fn.origin == "") = false then no ("extern: origin " ++ fn.origin ++ " " ++ fn.name) else
  if fn.name = "internal/abi.NoEscape" then
    match args with
    | [x] => .ok (.value x, h)
    | _ => no "extern"
  else if fn.name = "internal/bytealg.IndexByteString" then
    match args with
    | [.string s, .int .u8 c] => .ok (.value (.int .i64 (firstIdx s c.toNat.toUInt8)), h)
    | _ => no "extern"
  else if fn.name = "internal/bytealg.IndexByte" then
    match args with
    | [.slice (some a) n _, .int .u8 c] => do
      let bs ← bytesOf (← getC h a n)
      .ok (.value (.int .i64 (firstIdx ⟨⟨bs⟩⟩ c.toNat.toUInt8)), h)
    | _ => no "extern"
  else if fn.name = "internal/bytealg.CountString" then
    match args with
    | [.string s, .int .u8 c] => .ok (.value (goInt (s.foldl (fun n x => if x == c.toNat.toUInt8 then n + 1 else n) (0 : Nat))), h)
    | _ => no "extern"
  else if fn.name = "internal/bytealg.MakeNoZero" then
    match args, fn.resultTypes.toList with
    | [.int .i64 n], [t] => do
      match ← undA P t with
      | .slice e => if n < 0 ∨ n > 1000000 then no "extern" else .ok (.value (.slice (some ⟨h.next, 0, none⟩) n.toNat (capU 1)), (newA h (.cells e [] false 2)).2)
      | _ => no "extern"
    | _, _ => no "extern"
  else reflectA P h fn args
def callF (h : AH) (f : FuncId) (args : List Value) : M (AN × AH) :=
  match P.funcs[f]? with
  | none => no "no such function"
  | some fn => if fn.name == "runtime.NumGoroutine" then no "extern" else if fn.body.isNone then externA P h fn args else .ok (.enter f args, h)
def callMeth (h : AH) (recv : Value) (name : String) (args : List Value) : M (AN × AH) := do
  match recv with
  | .iface t v => do
    let (f, r) ← methodA P h (P.types.size + Made.depth) t v name
    callF P h f (r :: args)
  | _ => no "method of a nil interface"
def putParams (n : Nat) : List Tmp → List Value → T Value → M (T Value)
  | t :: ts, v :: vs, tm => if t < n then putParams n ts vs (tm.set t v) else no "params"
  | _, _, tm => .ok tm
def builtinA (h : AH) (b : Builtin) (argTypes : List TypeId) (args : List Value) : M (AN × AH) := do
  match b, args with
  | .append, _ => do let (v, h) ← appendA P h argTypes args; .ok (.value v, h)
  | .copy, [dst, src] => do
    if argTypes.isEmpty then no "types" else
    match ← undA P (argTypes.headD 0), dst with
    | .slice elem, .slice base dLen _ => do
      let n := Nat.min (← lenA src) dLen
      let size ← sizeA P elem
      let cs ← firstA h size n src
      match base with
      | some a => do let h ← storeC h a cs; .ok (.value (goInt n), h)
      | none => .ok (.value (goInt n), h)
    | _, _ => no "copy"
  | .delete, [m, k] => do
    if argTypes.isEmpty then no "types" else
    let h ← deleteA P h (argTypes.headD 0) m k
    .ok (.value (tupL []), h)
  | .clear, [x] => do
    if argTypes.isEmpty then no "types" else
    let h ← clearA P h (argTypes.headD 0) x
    .ok (.value (tupL []), h)
  | .panic, [.iface t v] => .ok (.panic (.iface t v), h)
  | .recover, _ => .ok (.recover, h)
  | .unsafeString, [.pointer p, l] => do
    if argTypes.isEmpty then no "types" else
    let n ← intOfA l
    if n < 0 ∨ n > 1000000 then no "unsafe.String" else
    match p with
    | none => if n = 0 then .ok (.value (.string ⟨#[]⟩), h) else no "unsafe.String"
    | some a =>
      if n = 0 then .ok (.value (.string ⟨#[]⟩), h) else do
      let (ty, c, _, own) ← cellsAt h a.block
      if own = 0 then no "unsafe.String: not own" else
      match ← undA P (argTypes.headD 0), P.underlying ty with
      | .pointer e, some (.int .u8) =>
        if e ≠ ty ∨ P.cellsOf ty ≠ 1 then no "unsafe.String: type" else do
        let l ← bytesOf (← getC h a n.toNat)
        .ok (.value (strL l), putA h a.block (.cells ty c false 1))
      | _, _ => no "unsafe.String: type"
  | _, _ => no "builtin"
def invokeA (h : AH) (t : Target) (args : List Value) : M (AN × AH) := do
  match t with
  | .builtin b ts _ _ => builtinA P h b ts.toList args
  | .fn (.func f) captured => callF P h f (args ++ captured.toList)
  | .fn (.method name) _ => match args with
    | r :: rest => callMeth P h r name rest
    | [] => no "method"
  | .fn (.methodOf t name) _ => match args with
    | r :: rest => do
      match ← undA P t with
      | .interface _ => callMeth P h r name rest
      | _ => callMeth P h (.iface t r) name rest
    | [] => no "method"
  | .fn (.via t path f pointer) _ => match args with
    | x :: rest => do
      let (xt, p) ← followA P h path.toList t (.val x)
      let v ← recvAt P h xt p pointer
      callF P h f (v :: rest)
    | [] => no "method"
  | .fn (.yield l) _ => match h.objs.get l with
    | some (.loop _ _ fn tm n params assign body _) => if params.length ≠ args.length then no "yield" else do
      let tm ← putParams n params args tm
      .ok (.round l fn tm n assign body, h)
    | _ => no "yield"
  | _ => no "invoke"
def resolveA (ρ : Operand → Value) (c : Call) (type : TypeId) : M (Target × List Value) :=
  let args := c.args.toList.map ρ
  match c.callee with
  | .builtin b => .ok (.builtin b c.argTypes type ⟨c.args.toList.map isConstO⟩, args)
  | .invoke recv name => .ok (.fn (.method name) #[], ρ recv :: args)
  | .value f => match ρ f with
    | .func fn first captured => .ok (.fn fn captured, first.toList ++ args)
    | _ => no "call of what"
def nextA (h : AH) (it : Value) (isString : Bool) : M (Value × AH) := do
  match it with
  | .pointer (some ⟨r, 0, _⟩) => do
    match h.objs.get r, isString with
    | some (.stringIter s pos), true =>
      if pos < s.size then
        let (c, width) := Utf8.decode s pos
        .ok (tupL [.bool true, goInt pos, .int .i32 c], putA h r (.stringIter s (pos + width)))
      else .ok (tupL [.bool false], h)
    | some (.mapIter none _ _ _), false => .ok (tupL [.bool false], h)
    | some (.mapIter (some m) since seen last), false => do
      let (es, clock, _) ← mapOf h m
      if !seen.isEmpty && !es.isEmpty && es.all (fun e => decide (e.born ≥ last)) then no "range: all new" else
      match es.filter fun e => !seen.contains e.born with
      | [] => .ok (tupL [.bool false], h)
      | [e] => if e.born < since then .ok (tupL [.bool true, e.key, e.val], putA h r (.mapIter (some m) since (seen ++ [e.born]) clock)) else no "range: a new entry"
      | _ => no "range over a map of several"
    | _, _ => no "next"
  | _ => no "iter"

/-- Three kinds of operations: those that only read, those that make one block of what they are given, and the others. -/
inductive Kind where
  | read
  | alloc
  | effect
  deriving DecidableEq
def kindOf (o : Op) : Kind :=
  match o with
  | .move _ | .assign _ | .pick .. | .build .. | .load .. | .waits _ | .nilCheck _ | .binOp .. | .unOp .. | .makeInterface .. | .makeFunc .. | .slice .. | .fieldAddr .. | .field .. | .indexAddr .. | .index .. | .lookup .. | .typeAssert .. | .extract .. => .read
  | .convert s d _ => if isSliceT P d then (if isSliceT P s then .effect else .alloc) else .read
  | .call { callee := .builtin b, .. } => match b with | .len | .cap | .max | .min | .unsafeSliceData => .read | _ => .effect
  | .alloc _ | .box .. | .buildSlice .. | .makeMap .. | .makeSlice .. => .alloc
  | _ => .effect

def readB (h : AH) (b : Builtin) (argTypes : List TypeId) (args : List Value) : M Value := do
  match b, args with
  | .len, [x] => do
    match ← undA P (argTypes.headD 0), x with
    | .string, .string s => .ok (goInt s.size)
    | .array n _, _ => .ok (goInt n)
    | .pointer a, _ => do
      match ← undA P a with
      | .array n _ => .ok (goInt n)
      | _ => no "len"
    | .slice _, .slice _ n _ => .ok (goInt n)
    | .map _ _, .map none => .ok (goInt 0)
    | .map _ _, .map (some r) => do .ok (goInt (← mapOf h r).1.length)
    | _, _ => no "len"
  | .cap, [x] => do
    match ← undA P (argTypes.headD 0), x with
    | .array n _, _ => .ok (goInt n)
    | .slice _, .slice _ _ c => if isU c then no "cap unknown" else .ok (goInt c)
    | _, _ => no "cap"
  | .max, x :: r => maxL true x r
  | .min, x :: r => maxL false x r
  | .unsafeSliceData, [.slice none _ _] => .ok (.pointer none)
  | .unsafeSliceData, [.slice (some a) l c] => if c ≠ 0 ∧ (isU c = false ∨ 0 < l) then .ok (.pointer (some a)) else no "SliceData"
  | _, _ => no "builtin"
def isYield : Fn → Bool
  | .yield _ => true
  | _ => false
/-- Are there all methods that are wanted? -/
def hasAll (want : Array (String × TypeId)) (got : Array Method) : Bool := (want.toList.filter fun (name, sig) => !got.any fun m => m.name == name && m.sig == sig).isEmpty
def readA (ρ : Operand → Value) (o : Oper) (h : AH) : M Value := do
  match o.op with
  | .move x => .ok (ρ x)
  | .assign x => .ok (ρ x)
  | .pick c a b => match ρ c with
    | .bool t => .ok (if t then ρ a else ρ b)
    | _ => no "pick"
  | .build t parts => do
    let z := cellsL (← zeroA P t)
    let ps := parts.toList.map fun p => (p.1, ρ p.2)
    match ← undA P t with
    | .struct fields => do
      let pl ← placesA P fields.toList
      .ok (aggL (← fillA (fun i => pl[i]?) z ps))
    | .array _ elem => do
      let size ← sizeA P elem
      .ok (aggL (← fillA (fun i => some (i * size, size)) z ps))
    | _ => no "build"
  | .load t a => do loadA P h t (← addrA (ρ a))
  | .waits g => do
    let _ ← cellsAt h g
    if g < P.globals.size then .ok (.bool false) else no "waits"
  | .nilCheck x => match ρ x with
    | .pointer (some a) => .ok (.pointer (some a))
    | .func (.func f) first captured => .ok (.func (.func f) first captured)
    | .iface t v => .ok (.iface t v)
    | _ => no "nilCheck"
  | .binOp op t x y _ => do
    if ← guardOk P op t x y (ρ x) (ρ y) then binA P h op t (ρ x) (ρ y) else no "two nil interfaces"
  | .unOp op _ x => unA op (ρ x)
  | .convert s d x => convA P h s d (ρ x)
  | .makeInterface t x => do
    match ← undA P t with
    | .interface _ => no "makeInterface"
    | _ => .ok (.iface t (ρ x))
  | .makeFunc fn first captured => if isYield fn then no "makeFunc" else .ok (.func fn ⟨first.toList.map ρ⟩ ⟨captured.toList.map ρ⟩)
  | .slice t x lo hi mx => sliceA P t (ρ x) (lo.map ρ) (hi.map ρ) (mx.map ρ)
  | .fieldAddr s x i => do
    let f ← fieldOff P s i
    let a ← addrA (ρ x)
    if (← sizeA P f.type) = 0 then no "field of size 0" else .ok (.pointer (some (addO a f.offset)))
  | .field t x i => do
    let f ← fieldOff P t i
    match ρ x with
    | .agg cs => partA P f.type cs.toList f.offset
    | _ => no "field"
  | .indexAddr t x ix => do
    let i ← intOfA (ρ ix)
    match ← undA P t, ρ x with
    | .array len elem, .pointer (some a) => do
      let n ← sizeA P elem
      if 0 ≤ i ∧ i < len ∧ a.spot = none then .ok (.pointer (some (addO a (i.toNat * n)))) else no "index"
    | .slice elem, .slice (some a) len _ => do
      let n ← sizeA P elem
      if 0 ≤ i ∧ i < len then .ok (.pointer (some (addO a (i.toNat * n)))) else no "index"
    | _, _ => no "index"
  | .index t x ix => do
    let i ← intOfA (ρ ix)
    match ← undA P t, ρ x with
    | .array len elem, .agg cs => do
      let n ← sizeA P elem
      if 0 ≤ i ∧ i < len then partA P elem cs.toList (i.toNat * n) else no "index"
    | .string, .string s => if 0 ≤ i then (match s.data.toList[i.toNat]? with | some b => .ok (.int .u8 b.toNat) | none => no "index") else no "index"
    | _, _ => no "index"
  | .lookup t x k ok => lookA P h t (ρ x) (ρ k) ok
  | .typeAssert x _ asserted ok => do
    match ← undA P asserted, ρ x with
    | .interface _, .nilIface => do if ok then .ok (tupL [← zeroA P asserted, .bool false]) else no "assert"
    | .interface want, .iface t v => do
      match hasAll want (← infoA P t).methods with
      | true => .ok (if ok then tupL [.iface t v, .bool true] else .iface t v)
      | false => do if ok then .ok (tupL [← zeroA P asserted, .bool false]) else no "assert"
    | _, .nilIface => do if ok then .ok (tupL [← zeroA P asserted, .bool false]) else no "assert"
    | _, .iface t v => do
      if t = asserted then .ok (if ok then tupL [v, .bool true] else v) else if ok then .ok (tupL [← zeroA P asserted, .bool false]) else no "assert"
    | _, _ => no "assert"
  | .extract x i => match ρ x with
    | .tuple vs => orNo "extract" vs.toList[i]?
    | _ => no "extract"
  | .call { callee := .builtin b, args, argTypes } => if argTypes.toList.isEmpty then no "types" else readB P h b argTypes.toList (args.toList.map ρ)
  | _ => no "read: operation"
/-- The value and the block that is made, if its number is r. -/
def allocA (ρ : Operand → Value) (o : Oper) (r : Nat) : M (Value × AObj) := do
  match o.op with
  | .alloc elem => do
    let z ← zeroA P elem
    .ok (.pointer (some ⟨r, 0, none⟩), .cells elem (cellsL z) true 2)
  | .box elem x => .ok (.pointer (some ⟨r, 0, none⟩), .cells elem (cellsL (ρ x)) true 2)
  | .buildSlice t len parts => do
    match ← undA P t with
    | .slice elem => do
      let size ← sizeA P elem
      if len * size > 65536 ∨ len > 65536 then no "buildSlice" else
      let z ← (if len * size = 0 then .ok [] else do .ok (cellsL (← zeroA P elem)) : M (List Value))
      if len * size ≠ 0 ∧ z.length ≠ size then no "buildSlice: zero" else
      let cs ← fillA (fun i => some (i * size, size)) (rep z len) (parts.toList.map fun p => (p.1, ρ p.2))
      .ok (.slice (some ⟨r, 0, none⟩) len len, .cells elem cs true 2)
    | _ => no "buildSlice"
  | .makeMap t hint => do
    match ← undA P t, hint with
    | .map _ _, none => .ok (.map (some r), .map [] 0 true)
    | .map _ _, some x => do
      let _ ← intOfA (ρ x)
      .ok (.map (some r), .map [] 0 true)
    | _, _ => no "makeMap"
  | .makeSlice t l c => do
    match ← undA P t with
    | .slice elem => do
      let l ← intOfA (ρ l)
      let c ← intOfA (ρ c)
      let ei ← infoA P elem
      if l < 0 ∨ c < l ∨ c > 1000000 ∨ ei.bytes > 65536 then no "makeSlice" else
      let size := ei.size
      let z ← (if c.toNat * size = 0 then .ok [] else do .ok (cellsL (← zeroA P elem)) : M (List Value))
      if c.toNat * size ≠ 0 ∧ z.length ≠ size then no "makeSlice: zero" else
      .ok (.slice (some ⟨r, 0, none⟩) l.toNat c.toNat, .cells elem (rep z c.toNat) true 2)
    | _ => no "makeSlice"
  | .convert src dst x => do
    match ← undA P src, ← undA P dst, ρ x with
    | _, .slice e, .string s => do
      match ← undA P e with
      | .int .u8 => if s.size > 1000000 then no "bytes" else .ok (.slice (some ⟨r, 0, none⟩) s.size (capU 1), .cells e (bytesV s.data.toList) false 2)
      | _ => no "conv"
    | _, _, _ => no "conv"
  | _ => no "alloc: operation"
/-- Bytes that a program's text writes out: a slice of an array that is no string's. -/
def convEffA (h : AH) (s d : TypeId) (x : Value) : M (AN × AH) := do
  match ← undA P s, ← undA P d, x with
  | .slice _, .slice e, .slice (some a) l c => do
    match ← undA P e with
    | .int .u8 =>
      if s = d then do
        match ← cellsAt h a.block with
        | (ty, cs, true, 2) => if a.spot = none then .ok (.value (.slice (some a) l c), putA h a.block (.cells ty cs false 2)) else no "conv: spot"
        | _ => no "conv: cells"
      else no "conv: types"
    | _ => no "conv: elements"
  | _, _, _ => no "conv: slices"
def effA (ρ : Operand → Value) (o : Oper) (h : AH) : M (AN × AH) := do
  match o.op with
  | .store t a x => do .ok (.skip, ← storeA P h t (← addrA (ρ a)) (ρ x))
  | .convert s d x => convEffA P h s d (ρ x)
  | .mapUpdate t m k x => do .ok (.skip, ← mapSet P h t (ρ m) (ρ k) (ρ x))
  | .insert t m k x => do .ok (.skip, ← mapSet P h t (ρ m) (ρ k) (ρ x))
  | .mapEntry t m k => do
    let (v, h) ← mapEntryA P h t (ρ m) (ρ k)
    .ok (.value v, h)
  | .entryStore _ m s x => do .ok (.skip, ← entryStoreA h (ρ m) (ρ s) (ρ x))
  | .range t x => do
    match ← undA P t, ρ x with
    | .string, .string s => let (r, h) := newA h (.stringIter s 0); .ok (.value (.pointer (some ⟨r, 0, none⟩)), h)
    | .map _ _, .map none => let (r, h) := newA h (.mapIter none 0 [] 0); .ok (.value (.pointer (some ⟨r, 0, none⟩)), h)
    | .map _ _, .map (some m) => do
      let (_, clock, _) ← mapOf h m
      let (r, h) := newA h (.mapIter (some m) clock [] clock)
      .ok (.value (.pointer (some ⟨r, 0, none⟩)), h)
    | _, _ => no "range"
  | .next it s => do
    let (v, h) ← nextA h (ρ it) s
    .ok (.value v, h)
  | .call c => do
    let (t, args) ← resolveA ρ c o.type
    invokeA P h t args
  | .defer c => do
    let (t, args) ← resolveA ρ c o.type
    .ok (.defer { target := t, args := ⟨args⟩ }, h)
  | .panic x => match ρ x with
    | .iface t v => .ok (.panic (.iface t v), h)
    | _ => no "panic"
  | _ => no "operation"
def okO : Operand → Bool
  | .const v => bareA v
  | .global g => decide (g < P.globals.size)
  | _ => true
def okOps (o : Oper) : Bool := o.op.operands.toList.all (okO P)
def execA (ρ : Operand → Value) (o : Oper) (h : AH) : M (AN × AH) :=
  if !okOps P o then no "a constant" else
  match kindOf P o.op with
  | .read => do .ok (.value (← readA P ρ o h), h)
  | .alloc => do
    let (v, b) ← allocA P ρ o h.next
    .ok (.value v, (newA h b).2)
  | .effect => effA P ρ o h
end

def evA (tm : T Value) : Operand → Value
  | .tmp t => (tm.get t).getD undef
  | .const v => v
  | .global g => .pointer (some ⟨g, 0, none⟩)
  | .func f => .func (.func f) #[] #[]

structure AF where
  fn : FuncId
  n : Nat
  tm : T Value
  todo : List Item
  defers : List Deferred
  mode : FrameMode
  kind : CallKind
  round : Option Nat
structure AS where
  fr : AF
  cs : List AF
  hp : AH
inductive AR where
  | next (s : AS)
  | done (fn : FuncId) (v : Value) (h : AH)

def putT (n : Nat) (tm : T Value) (dst : Option Tmp) (v : Value) : M (T Value) :=
  match dst with
  | some d => if d < n then .ok (tm.set d v) else no "dst"
  | none => .ok tm
def AF.finish (fr : AF) (v : Value) : M AF :=
  match fr.todo with
  | .inRegion ops (i :: rest) :: k => do
    let tm ← putT fr.n fr.tm ((ops.toList[i]?).bind (·.dst)) v
    .ok { fr with tm, todo := .inRegion ops rest :: k }
  | .inRangeFunc l :: k => .ok { fr with todo := .endRangeFunc l :: k }
  | .beginRound :: k => .ok { fr with todo := k }
  | _ => no "finish"
/-- Is an operation wanted? Its guard must be known. -/
def wantedA (ops : List Oper) (tm : T Value) (o : Oper) : M Bool :=
  match o.guard with
  | none => .ok true
  | some (j, want) => match (ops[j]?).bind (·.dst) with
    | none => .ok false
    | some d => match (tm.get d).getD undef with
      | .bool b => .ok (b == want)
      | .tuple _ => .ok false
      | _ => no "guard"
def enterA (P : Program) (f : FuncId) (args : List Value) (kind : CallKind) : M AF :=
  match P.funcs[f]? with
  | none => no "enter"
  | some fn => match fn.body with
    | none => no "enter"
    | some b => .ok { fn := f, n := max fn.ntmps args.length, tm := T.ofL args 0 .nil, todo := [.code b], defers := [], mode := .run, kind, round := none }
def AF.raiseA (fr : AF) (vs : List PanicEntry) : AF :=
  match fr.mode with
  | .panicking chain => { fr with mode := .panicking (vs ++ chain) }
  | _ => { fr with mode := .panicking vs }
def resL (P : Program) (tm : T Value) (h : AH) : List ResultVar → M (List Value)
  | [] => .ok []
  | .tmp t :: r => do .ok ((tm.get t).getD undef :: (← resL P tm h r))
  | .cell a t :: r => do
    let v ← loadA P h t (← addrA ((tm.get a).getD undef))
    .ok (v :: (← resL P tm h r))
def resultsA (P : Program) (fn : Func) (tm : T Value) (h : AH) : M Value := do
  match ← resL P tm h fn.results.toList with
  | [v] => .ok v
  | vs => .ok (tupL vs)
def tryRecA (fr : AF) (cs : List AF) : M (Option (Value × List AF)) :=
  match fr.kind, cs with
  | .deferred, c :: rest => match c.mode with
    | .panicking ({ v, recovered := false, goexit := false } :: older) => .ok (some (v, { c with mode := .panicking ({ v, recovered := true } :: older) } :: rest))
    | _ => .ok none
  | .normal, _ => .ok none
  | _, _ => no "recover"
def afterA (P : Program) (fr : AF) (cs : List AF) : AN → AH → M AR
  | .value v, h => do .ok (.next ⟨← fr.finish v, cs, h⟩)
  | .skip, h => do .ok (.next ⟨← fr.finish undef, cs, h⟩)
  | .enter f args, h => do .ok (.next ⟨← enterA P f args .normal, fr :: cs, h⟩)
  | .round l fn tm n assign body, h => .ok (.next ⟨{ fn, n, tm, todo := [.code assign, .beginRound, .code body], defers := [], mode := .run, kind := .normal, round := some l }, fr :: cs, h⟩)
  | .defer d, h => do if fr.round.isSome then no "defer in a round" else .ok (.next ⟨← ({ fr with defers := d :: fr.defers } : AF).finish undef, cs, h⟩)
  | .recover, h => do
    if fr.round.isSome then no "recover in a round" else
    match ← tryRecA fr cs with
    | some (v, cs) => do .ok (.next ⟨← fr.finish v, cs, h⟩)
    | none => do .ok (.next ⟨← fr.finish .nilIface, cs, h⟩)
  | .panic v, h => .ok (.next ⟨fr.raiseA [{ v, recovered := false }], cs, h⟩)
def returnA (fr : AF) (cs : List AF) (v : Value) (h : AH) : M AR :=
  match cs with
  | [] => if (fr.kind matches .normal) && fr.round.isNone then .ok (.done fr.fn v h) else no "done: kind"
  | c :: rest => match fr.kind with
    | .normal => do .ok (.next ⟨← c.finish v, rest, h⟩)
    | .deferred => match c.mode with
      | .panicking ({ recovered := true, .. } :: older) => if older.isEmpty then .ok (.next ⟨{ c with mode := .returning }, rest, h⟩) else no "nested panics"
      | _ => .ok (.next ⟨c, rest, h⟩)
    | _ => no "return: kind"

/-- A region in whatever order: read ops may stand anywhere that their edges allow; blocks that are made get numbers of their own; the others are in a chain. -/
structure Ent where
  o : Oper
  mask : Nat
  tm : T Value
  /-- whether it is done -/
  want : Bool
  v : Value
  kind : Kind
  obj : Option AObj
def maskOf (masks : List Nat) (i : Nat) : List Edge → M Nat
  | [] => .ok 0
  | e :: es => do
    let r ← maskOf masks i es
    if Region.binds .any e then
      if e.on < i then .ok ((2 ^ e.on ||| (masks[e.on]?).getD 0) ||| r) else no "edge"
    else .ok r
def looks (ops : List Oper) (o : Oper) : List Tmp :=
  (o.op.operands.toList.filterMap fun | .tmp t => some t | _ => none) ++ (match o.guard with | some (g, _) => ((ops[g]?).bind (·.dst)).toList | none => [])
/-- Two operations of which one writes what the other one looks at, or writes. -/
def clash (ops : List Oper) (x y : Oper) : Bool :=
  (match x.dst with | some d => (looks ops y).contains d || y.dst == some d | none => false) || (match y.dst with | some d => (looks ops x).contains d | none => false)
def veq : Nat → Value → Value → Bool
  | 0, _, _ => false
  | n + 1, a, b => match a, b with
    | .bool x, .bool y => x == y
    | .int k x, .int k' y => k == k' && x == y
    | .string x, .string y => x.data.toList == y.data.toList
    | .pointer x, .pointer y => x == y
    | .slice x l c, .slice y l' c' => x == y && l == l' && c == c'
    | .map x, .map y => x == y
    | .chan x, .chan y => x == y
    | .nilFunc, .nilFunc => true
    | .nilIface, .nilIface => true
    | .iface t x, .iface u y => t == u && veq n x y
    | .func f a b, .func g c d => f == g && veqL n a.toList c.toList && veqL n b.toList d.toList
    | .agg x, .agg y => veqL n x.toList y.toList
    | .tuple x, .tuple y => veqL n x.toList y.toList
    | _, _ => false
where
  veqL (n : Nat) : List Value → List Value → Bool
    | [], [] => true
    | x :: xs, y :: ys => veq n x y && veqL n xs ys
    | _, _ => false
/-- With those of the blocks made in the region that are in a mask. -/
def withAl (mask : Nat) (h : AH) : List (Nat × Nat × AObj) → AH
  | [] => h
  | (i, r, b) :: l => if mask.testBit i then putA (withAl mask h l) r b else withAl mask h l
def sameRead (P : Program) (e : Ent) (al : List (Nat × Nat × AObj)) (h : AH) : Bool :=
  match readA P (evA e.tm) e.o (withAl e.mask h al) with
  | .ok v => veq 20 v e.v
  | .error _ => false
structure RS where
  tm : T Value
  h : AH
  /-- the heaps before and behind each effect -/
  hh : List AH
  /-- the effects so far -/
  ee : List Nat
  /-- blocks made and not yet in the heap -/
  al : List (Nat × Nat × AObj)
  masks : List Nat
  ents : List Ent
def isReadE (e : Ent) : Bool := e.want && (e.kind matches .read)
def orderOk (ops : List Oper) (o : Oper) (mask : Nat) : List Ent → Nat → Bool
  | [], _ => true
  | x :: l, j => (!clash ops x.o o || mask.testBit j) && orderOk ops o mask l (j + 1)
/-- Those that only read read the same behind this effect, unless they stand before it. -/
def readsOk (P : Program) (mask : Nat) (al : List (Nat × Nat × AObj)) (h : AH) : List Ent → Nat → Bool
  | [], _ => true
  | x :: l, j => (!isReadE x || mask.testBit j || sameRead P x al h) && readsOk P mask al h l (j + 1)
def effRun (P : Program) (nest : FuncId → List Value → AH → M (Value × AH)) (ρ : Operand → Value) (o : Oper) (h0 : AH) : M (Value × AH) := do
  match ← effA P ρ o h0 with
  | (.value v, h) => .ok (v, h)
  | (.skip, h) => .ok (undef, h)
  | (.enter f args, h) => nest f args h
  | _ => no "drawn: effect"
def regStep (P : Program) (n base : Nat) (nest : FuncId → List Value → AH → M (Value × AH)) (ops : List Oper) (i : Nat) (o : Oper) (s : RS) : M RS := do
  let mask ← maskOf s.masks i o.after.toList
  -- whatever looks at what another one writes is in an order with it
  if !orderOk ops o mask s.ents 0 then no "order of temporaries" else
  let want ← wantedA ops s.tm o
  if !want then
    let tm ← putT n s.tm o.dst undef
    .ok { s with tm, masks := s.masks ++ [mask], ents := s.ents ++ [{ o, mask, tm := s.tm, want := false, v := undef, kind := .read, obj := none }] }
  else
  if !okOps P o then no "a constant" else
  match kindOf P o.op with
  | .read => do
    let v ← readA P (evA s.tm) o (withAl mask s.h s.al)
    let e : Ent := { o, mask, tm := s.tm, want := true, v, kind := .read, obj := none }
    -- the same before those effects that need not stand before it
    if !((s.ee.zip s.hh).all fun p => mask.testBit p.1 || sameRead P e s.al p.2) then no "a read beside an effect" else
    let tm ← putT n s.tm o.dst v
    .ok { s with tm, masks := s.masks ++ [mask], ents := s.ents ++ [e] }
  | .alloc => do
    let (v, b) ← allocA P (evA s.tm) o (base + i)
    let tm ← putT n s.tm o.dst v
    .ok { s with tm, al := (i, base + i, b) :: s.al, masks := s.masks ++ [mask], ents := s.ents ++ [{ o, mask, tm := s.tm, want := true, v, kind := .alloc, obj := some b }] }
  | .effect => do
    if !(s.ee.all fun j => mask.testBit j) then no "effects in no order" else
    let (v, h) ← effRun P nest (evA s.tm) o (withAl mask s.h s.al)
    let al := s.al.filter fun p => !mask.testBit p.1
    if !readsOk P mask al h s.ents 0 then no "an effect beside a read" else
    let tm ← putT n s.tm o.dst v
    .ok { tm, h, hh := s.hh ++ [h], ee := s.ee ++ [i], al, masks := s.masks ++ [mask], ents := s.ents ++ [{ o, mask, tm := s.tm, want := true, v, kind := .effect, obj := none }] }
def regLoop (P : Program) (n base : Nat) (nest : FuncId → List Value → AH → M (Value × AH)) (ops : List Oper) : List Oper → Nat → RS → M RS
  | [], _, s => .ok s
  | o :: l, i, s => do regLoop P n base nest ops l (i + 1) (← regStep P n base nest ops i o s)
def finalH (h : AH) : List (Nat × Nat × AObj) → AH
  | [] => h
  | p :: l => putA (finalH h l) p.2.1 p.2.2
def regionA (P : Program) (n : Nat) (nest : FuncId → List Value → AH → M (Value × AH)) (ops : List Oper) (tm : T Value) (h : AH) : M (T Value × AH) := do
  let base := h.next
  let h0 : AH := { h with next := base + ops.length }
  let s ← regLoop P n base nest ops ops 0 { tm, h := h0, hh := [h0], ee := [], al := [], masks := [], ents := [] }
  .ok (s.tm, finalH s.h s.al)

def enterLoopA (fr : AF) (h : AH) : M (Nat × List Deferred × AH) :=
  match fr.round with
  | some l => match h.objs.get l with
    | some (.loop _ _ _ _ _ _ _ _ ds) => .ok (ds, [], h)
    | _ => no "no loop"
  | none => .ok (h.next, [{ target := .collected h.next, args := #[] }], (newA h (.deferred (some []))).2)
def unwindA (P : Program) (s : AS) : M AR :=
  let fr := s.fr
  match fr.defers with
  | { target := .collected b, .. } :: ds => match s.hp.objs.get b with
    | some (.deferred (some calls)) => .ok (.next ⟨{ fr with defers := calls ++ ds }, s.cs, putA s.hp b (.deferred none)⟩)
    | _ => no "collected"
  | d :: ds => do
    let fr := { fr with defers := ds }
    match ← invokeA P s.hp d.target d.args.toList with
    | (.enter f args, h) => do .ok (.next ⟨← enterA P f args .deferred, fr :: s.cs, h⟩)
    | (.value _, h) => .ok (.next ⟨fr, s.cs, h⟩)
    | _ => no "deferred"
  | [] => match fr.mode with
    | .panicking chain => match s.cs with
      | c :: rest => .ok (.next ⟨c.raiseA chain, rest, s.hp⟩)
      | [] => no "panic at the bottom"
    | _ => if fr.round.isSome then no "returning in a round" else match P.funcs[fr.fn]? with
      | none => no "fn"
      | some fn => do returnA fr s.cs (← resultsA P fn fr.tm s.hp) s.hp
def stepA (P : Program) (nest : FuncId → List Value → AH → M (Value × AH)) (s : AS) : M AR :=
  let fr := s.fr
  match fr.mode with
  | .run =>
    let to (k : List Item) : M AR := .ok (.next { s with fr := { fr with todo := k } })
    let leave (jump : Option Code) : M AR :=
      match fr.round with
      | none => (match jump with
        | none | some .ret => .ok (.next { s with fr := { fr with mode := .returning } })
        | _ => no "leave")
      | some l => match s.hp.objs.get l with
        | some (.loop _ _ fn tm n ps asg body ds) => returnA fr s.cs (.bool jump.isNone) (putA s.hp l (.loop (if jump.isNone then .ready else .done) jump fn tm n ps asg body ds))
        | _ => no "no loop"
    match fr.todo with
    | [] => leave none
    | .code .ret :: _ => leave (some .ret)
    | .code .skip :: k | .code (.label _) :: k | .inBlock _ :: k | .inScope _ :: k => to k
    | .code (.seq a b) :: k => to (.code a :: .code b :: k)
    | .code (.cond c thn els) :: k => match evA fr.tm c with
      | .bool b => to (.code (if b then thn else els) :: k)
      | _ => no "cond"
    | .code (.block id body) :: k => to (.code body :: .inBlock id :: k)
    | .code (.loop body) :: k | .inLoop body :: k => to (.code body :: .inLoop body :: k)
    | .code (.scope body) :: k => to (.code body :: .inScope body :: k)
    | .code (.exit id) :: k => match exitTo id k with
      | some k' => to k'
      | none => leave (some (.exit id))
    | .code (.goto l) :: k => match gotoIn l k with
      | some k' => to k'
      | none => leave (some (.goto l))
    | .code (.rangeFunc f params assign body) :: k => do
      let (d, mark, h) ← enterLoopA fr s.hp
      let (l, h) := newA h (.loop .ready none fr.fn fr.tm fr.n params.toList assign body d)
      let fr : AF := { fr with todo := .inRangeFunc l :: k, defers := mark ++ fr.defers }
      if !okO P f then no "a constant" else
      match evA fr.tm f with
      | .func fn first captured => do
        let (a, h) ← invokeA P h (.fn fn captured) (first.toList ++ [.func (.yield l) #[] #[]])
        afterA P fr s.cs a h
      | _ => no "rangeFunc"
    | .beginRound :: k => match fr.round with
      | none => no "no round"
      | some l => match s.hp.objs.get l with
        | some (.loop .ready pend fn tm n ps asg body ds) => .ok (.next ⟨{ fr with todo := k }, s.cs, putA s.hp l (.loop .busy pend fn tm n ps asg body ds)⟩)
        | _ => no "round: state"
    | .endRangeFunc l :: k => match s.hp.objs.get l with
      | some (.loop st pend fn tm n ps asg body ds) => if st = .busy then no "busy" else
        .ok (.next ⟨{ fr with todo := (pend.map Item.code).toList ++ k }, s.cs, putA s.hp l (.loop .exhausted pend fn tm n ps asg body ds)⟩)
      | _ => no "endRangeFunc"
    | .code (.region _ ops draw) :: k =>
      if !draw then to (.inRegion ops (List.range ops.size) :: k)
      else do
        let (tm, h) ← regionA P fr.n nest ops.toList fr.tm s.hp
        .ok (.next ⟨{ fr with tm, todo := k }, s.cs, h⟩)
    | .inRegion _ [] :: k => to k
    | .inRegion ops (i :: _) :: _ => match ops.toList[i]? with
      | none => no "no oper"
      | some o => do
        if ← wantedA ops.toList fr.tm o then
          let (a, h) ← execA P (evA fr.tm) o s.hp
          afterA P fr s.cs a h
        else do .ok (.next { s with fr := ← fr.finish undef })
    | _ => no "todo"
  | .returning | .panicking _ => unwindA P s

def runF (P : Program) (nest : FuncId → List Value → AH → M (Value × AH)) : Nat → AS → M (FuncId × Value × AH)
  | 0, _ => no "fuel"
  | n + 1, s => match stepA P nest s with
    | .ok (.next s) => runF P nest n s
    | .ok (.done f v h) => .ok (f, v, h)
    | .error e => .error e
/-- Calls inside drawn regions, to a depth. -/
def nestA (P : Program) (fuel : Nat) : Nat → FuncId → List Value → AH → M (Value × AH)
  | 0, _, _, _ => no "depth"
  | d + 1, f, args, h => do
    let fr ← enterA P f args .normal
    let (g, v, h') ← runF P (nestA P fuel d) fuel ⟨fr, [], h⟩
    if g = f then .ok (v, h') else no "another function"
def callA (P : Program) (fuel depth : Nat) (f : FuncId) (args : List Value) (h : AH) : M (Value × AH) := nestA P fuel (depth + 1) f args h
end Go.Ev
