/- HLvsC, part 1: what the proof needs, in the order of its texts. -/
import GoSem.Step
import GoSem.Claims
import Derived.Laws.Externs
import Derived.Laws.Sem
import Derived.Laws.Cells
import Derived.Below
import Derived.Laws.StructEq
import Derived.Laws.Slices
set_option linter.unusedVariables false
set_option linter.unusedSimpArgs false
namespace Go.Ev

inductive T (α:Type) where
 | nil
 | node (o:Option α) (l r:T α)
def T.get{α:Type}:T α→Nat→Option α
 | .nil,_=>none
 | .node o l r,n=>if n=0 then o else if n % 2=1 then l.get (n / 2) else r.get (n / 2 - 1)
def T.setF{α:Type}:Nat→T α→Nat→Option α→T α
 | 0,t,_,_=>t
 | k+1,.nil,n,v=>if n=0 then .node v .nil .nil else if n % 2=1 then .node none (T.setF k .nil (n / 2) v) .nil else .node none .nil (T.setF k .nil (n / 2 - 1) v)
 | k+1,.node o l r,n,v=>if n=0 then .node v l r else if n % 2=1 then .node o (T.setF k l (n / 2) v) r else .node o l (T.setF k r (n / 2 - 1) v)
def T.set{α:Type}(t:T α)(n:Nat)(v:α):T α:=T.setF (n+1) t n (some v)
def T.del{α:Type}(t:T α)(n:Nat):T α:=T.setF (n+1) t n none
def T.ofL{α:Type}:List α→Nat→T α→T α
 | [],_,t=>t
 | x :: xs,n,t=>T.ofL xs (n+1) (t.set n x)

inductive AObj where
  /-- own: 0 not the evaluator's own, 1 own but not to be written, 2 own -/
 | cells (ty:TypeId) (c:List Value) (plain:Bool) (own:Nat)
 | map (es:List MapEntry) (clock:Nat) (own:Bool)
 | stringIter (s:ByteArray) (pos:Nat)
 | mapIter (m:Option Nat) (since:Nat) (seen:List Nat) (stepped:Nat)
 | loop (state:LoopState) (pending:Option Code) (fn:FuncId) (tm:T Value) (n:Nat) (params:List Tmp) (assign body:Code) (defers:Nat)
 | deferred (ds:Option (List Deferred))

structure AH where
 objs:T AObj
 next:Nat

abbrev M:=Except String
def no{α:Type}(s:String):M α:=.error s
def orNo{α:Type}(s:String):Option α→M α
 | some x=>.ok x
 | none=>.error s

def capB:Nat:=9223372036854775808
def capU(n:Nat):Nat:=capB+n
def capE:Nat:=capB
def capF:Nat:=capB+capB
def isE(c:Nat):Bool:=Nat.beq c capE || Nat.beq c capF
def isU(c:Nat):Bool:=decide (capB≤c)

def cellsL:Value→List Value
 | .agg cs=>cs.toList
 | v=>[v]
def aggL(l:List Value):Value:=.agg ⟨l⟩
def tupL(l:List Value):Value:=.tuple ⟨l⟩
def addO(a:Addr)(n:Nat):Addr:=⟨a.block,a.off+n,none⟩
def strL(l:List UInt8):Value:=.string ⟨⟨l⟩⟩
def bareV:Value→Bool
 | .bool _ | .int _ _ | .float _ _ | .complex _ _ _ | .string _ | .pointer none | .map none | .nilFunc | .nilIface=>true
 | .slice none _ c=>!isU c
 | _=>false
def bareA:Value→Bool
 | .agg cs=>cs.toList.all bareV
 | .tuple cs=>cs.toList.isEmpty
 | v=>bareV v
def intOfA:Value→M Int
 | .int _ n=>.ok n
 | _=>no "int expected"
def addrA:Value→M Addr
 | .pointer (some a)=>if a.spot=none then .ok a else no "spot"
 | _=>no "address expected"

def newA(h:AH)(o:AObj):Nat × AH:=(h.next,{ objs:=h.objs.set h.next o,next:=h.next+1 })
def putA(h:AH)(r:Nat)(o:AObj):AH:={ h with objs:=h.objs.set r o }
def cellsAt(h:AH)(r:Nat):M (TypeId × List Value × Bool × Nat):=
 match h.objs.get r with
 | some (.cells ty c p own)=>.ok (ty,c,p,own)
 | _=>no "no cells"
def getC(h:AH)(a:Addr)(n:Nat):M (List Value):=
 match cellsAt h a.block with
 | .ok (_,c,_,_)=>if a.off+n≤c.length∧a.spot=none then .ok ((c.drop a.off).take n) else no "cells out of range"
 | .error e=>.error e
def splice(c:List Value)(off:Nat)(vs:List Value):List Value:=c.take off ++ vs ++ c.drop (off+vs.length)
def oneC:Value→Bool
 | .agg _ | .tuple _=>false
 | _=>true
def storeC(h:AH)(a:Addr)(vs:List Value):M AH:=
 match vs with
 | []=>.ok h
 | _=>match cellsAt h a.block with
  | .ok (ty,c,p,own)=>if own=2∧a.off+vs.length≤c.length∧a.spot=none∧vs.all oneC=true then .ok (putA h a.block (.cells ty (splice c a.off vs) p 2)) else no "store"
  | .error e=>.error e
def mapOf(h:AH)(r:Nat):M (List MapEntry × Nat × Bool):=
 match h.objs.get r with
 | some (.map es c own)=>.ok (es,c,own)
 | _=>no "no map"
def rep(z:List Value):Nat→List Value
 | 0=>[]
 | n+1=>z ++ rep z n
def bytesV(l:List UInt8):List Value:=l.map fun b=>.int .u8 b.toNat
def bytesOf:List Value→M (List UInt8)
 | []=>.ok []
 | .int .u8 n :: r=>match bytesOf r with
  | .ok l=>.ok (UInt8.ofNat n.toNat :: l)
  | .error e=>.error e
 | _=>no "byte"

section
variable (P:Program)
def infoA(t:TypeId):M TypeInfo:=orNo "type" (P.info? t)
def undA(t:TypeId):M TypeDesc:=orNo "type" (P.underlying t)
def isAggA(t:TypeId):M Bool:=do
 match ← undA P t with
 | .struct _ | .array _ _=>.ok true
 | _=>.ok false
def sizeA(t:TypeId):M Nat:=do .ok (← infoA P t).size
def zeroA(t:TypeId):M Value:=do
 let v ← orNo "zero" (← infoA P t).zero
 if bareA v then .ok v else no "zero"
def loadA(h:AH)(t:TypeId)(a:Addr):M Value:=do
 if ← isAggA P t then .ok (aggL (← getC h a (← sizeA P t)))
 else match ← getC h a 1 with
  | [v]=>.ok v
  | _=>no "cell"
def storeA(h:AH)(t:TypeId)(a:Addr)(v:Value):M AH:=do
 if(cellsL v).length ≠ (← sizeA P t) then no "store: size" else storeC h a (cellsL v)
def partA(t:TypeId)(cs:List Value)(off:Nat):M Value:=do
 if ← isAggA P t then .ok (aggL ((cs.drop off).take (← sizeA P t))) else orNo "part" cs[off]?
def fillA(place:Nat→Option (Nat × Nat)):List Value→List (Nat × Value)→M (List Value)
 | c,[]=>.ok c
 | c,(i,v) :: r=>match place i with
  | none=>no "fill"
  | some (off,size)=>if(cellsL v).length ≠ size∨off+size > c.length then no "fill size" else fillA place (splice c off (cellsL v)) r
def placesA:List Field→M (List (Nat × Nat))
 | []=>.ok []
 | f :: fs=>do
  let s ← sizeA P f.type
  let r ← placesA fs
  .ok ((f.offset,s) :: r)
def boundA(x:Value)(y:Nat):M Nat:=do
 let i ← intOfA x
 if 0≤i∧i≤y then .ok i.toNat else no "slice bound"
def boundsA(len cap:Nat)(lo hi mx:Option Value):M (Nat × Nat × Nat):=do
 let m ← (match mx with | some v=>boundA v cap | none=>.ok cap:M Nat)
 let h ← (match hi,mx with
  | some v,some _=>boundA v m
  | some v,none=>boundA v m
  | none,none=>.ok len
  | none,some _=>no "max without high" :M Nat)
 let l ← (match lo with | some v=>boundA v h | none=>.ok 0:M Nat)
 .ok (l,h,m)
def mkS(a:Option Addr)(l c:Nat):M Value:=if isU c then no "a long slice" else .ok (.slice a l c)
def sliceA(t:TypeId)(x:Value)(lo hi mx:Option Value):M Value:=do
 match ← undA P t,x with
 | .string,.string s=>
  if mx.isSome then no "max" else do
  let (l,h,_) ← boundsA s.size s.size lo hi none
  .ok (strL ((s.data.toList.drop l).take (h - l)))
 | .slice elem,.slice a len cap=>do
  let size ← sizeA P elem
  if a.isNone=true∧isE cap=true then
   if mx.isSome then no "slice: mark" else do
   let _ ← boundsA len len lo hi mx
   .ok (.slice none 0 cap)
  else if isU cap then
   let (l,h,m) ← boundsA len len lo hi mx
   if cap ≠ capU size∨size=0 then no "slice: mark" else
   if mx.isSome then mkS (if m=l then a else a.map (addO · (l * size))) (h - l) (m - l)
   else if l<len∨l=0 then .ok (.slice (a.map (addO · (l * size))) (h - l) cap) else .ok (.slice none 0 capF)
  else
   let (l,h,m) ← boundsA len cap lo hi mx
   mkS (if m=l then a else a.map (addO · (l * size))) (h - l) (m - l)
 | .pointer arr,.pointer (some a)=>do
  match ← undA P arr with
  | .array n elem=>do
   let (l,h,m) ← boundsA n n lo hi mx
   let size ← sizeA P elem
   mkS (some (if m=l then a else addO a (l * size))) (h - l) (m - l)
  | _=>no "slice: array"
 | .array n elem,.pointer (some a)=>do
  let (l,h,m) ← boundsA n n lo hi mx
  let size ← sizeA P elem
  mkS (some (if m=l then a else addO a (l * size))) (h - l) (m - l)
 | _,_=>no "slice of what"

def eqFields(eq:TypeId→Value→Value→M Bool)(xs ys:List Value):List Field→M Bool
 | []=>.ok true
 | f :: fs=>if f.name = "_" then eqFields eq xs ys fs else do
  if ← eq f.type (← partA P f.type xs f.offset) (← partA P f.type ys f.offset) then eqFields eq xs ys fs else .ok false
def eqAddr(h:AH)(a b:Addr):M Bool:=
 if a.spot=none∧b.spot=none then
  if a.block=b.block then .ok (a.off == b.off)
  else match cellsAt h a.block,cellsAt h b.block with
   | .ok (_,c,p,_),.ok (_,c',p',_)=>if p && p' && !c.isEmpty && !c'.isEmpty then .ok false else no "eq pointers"
   | _,_=>no "eq pointers: no blocks"
 else no "eq spot"
def eqA(h:AH):Nat→TypeId→Value→Value→M Bool
 | 0,_,_,_=>no "eq depth"
 | d+1,t,x,y=>do
  match ← undA P t,x,y with
  | .bool,.bool a,.bool b=>.ok (a == b)
  | .int _,.int k a,.int k' b=>if k=k' then .ok (a == b) else no "eq kinds"
  | .string,.string a,.string b=>.ok (a.data.toList == b.data.toList)
  | .pointer _,.pointer none,.pointer b=>.ok b.isNone
  | .pointer _,.pointer _,.pointer none=>.ok false
  | .pointer elem,.pointer (some a),.pointer (some b)=>do if(← sizeA P elem) ≠ 0 then eqAddr h a b else no "eq size 0"
  | .interface _,.nilIface,.nilIface=>.ok true
  | .interface _,.nilIface,.iface _ _ | .interface _,.iface _ _,.nilIface=>.ok false
  | .interface _,.iface tx vx,.iface ty vy=>
   if tx ≠ ty then .ok false else do
   let i ← infoA P tx
   if !i.comparable then no "eq uncomparable" else eqA h d tx vx vy
  | .struct fields,.agg xs,.agg ys=>if P.stoodInHeld t then no "eq stood in" else eqFields P (eqA h d) xs.toList ys.toList fields.toList
  | .slice _,.slice none _ c,.slice b _ c2=>if isE c=true∨isE c2=true then(if(Nat.beq c capF && b.isNone && !isU c2) || (Nat.beq c2 capF && b.isNone && !isU c) then .ok false else no "eq slice") else .ok b.isNone
  | .slice _,.slice _ _ _,.slice none _ c2=>if isE c2=true then no "eq slice" else .ok false
  | .map _ _,.map none,.map b=>.ok b.isNone
  | .map _ _,.map _,.map none=>.ok false
  | .func _ _ _,.nilFunc,.nilFunc=>.ok true
  | .func _ _ _,.nilFunc,.func _ _ _ | .func _ _ _,.func _ _ _,.nilFunc=>.ok false
  | _,_,_=>no "eq of what"

def cmpA(op:BinOp)(a b:Int):M Value:=
 match op with
 | .eql=>.ok (.bool (a == b)) | .neq=>.ok (.bool (a != b)) | .lss=>.ok (.bool (decide (a<b))) | .leq=>.ok (.bool (decide (a≤b))) | .gtr=>.ok (.bool (decide (a > b))) | .geq=>.ok (.bool (decide (a ≥ b)))
 | _=>no "cmp"
def intA(op:BinOp)(k:IntKind)(a b:Int):M Value:=
 match op with
 | .add=>.ok (.int k (k.wrap (a+b))) | .sub=>.ok (.int k (k.wrap (a - b))) | .mul=>.ok (.int k (k.wrap (a * b)))
 | .quo=>if b=0 then no "div" else .ok (.int k (k.wrap (a.tdiv b)))
 | .rem=>if b=0 then no "div" else .ok (.int k (a.tmod b))
 | .and=>.ok (.int k (k.wrap (BitVec.ofInt k.bits a &&& BitVec.ofInt k.bits b).toNat))
 | .or=>.ok (.int k (k.wrap (BitVec.ofInt k.bits a ||| BitVec.ofInt k.bits b).toNat))
 | .xor=>.ok (.int k (k.wrap (BitVec.ofInt k.bits a ^^^ BitVec.ofInt k.bits b).toNat))
 | .andNot=>.ok (.int k (k.wrap (BitVec.ofInt k.bits a &&& ~~~ BitVec.ofInt k.bits b).toNat))
 | op=>cmpA op a b
def shiftA(op:BinOp)(k:IntKind)(a b:Int):M Value:=
 if b<0 then no "shift" else match op with
  | .shl=>.ok (.int k (k.wrap (a * 2 ^ (min b.toNat k.bits))))
  | .shr=>.ok (.int k (a.fdiv (2 ^ (min b.toNat k.bits))))
  | _=>no "shift"
def strA(op:BinOp)(a b:List UInt8):M Value:=
 let eq:=a == b
 let lt:=Op.bytesLess a b
 match op with
 | .add=>if a.length+b.length≤9223372036854775807 then .ok (strL (a ++ b)) else no "long"
 | .eql=>.ok (.bool eq) | .neq=>.ok (.bool !eq)
 | .lss=>.ok (.bool lt) | .leq=>.ok (.bool (lt || eq))
 | .gtr=>.ok (.bool !(lt || eq)) | .geq=>.ok (.bool !lt)
 | _=>no "string op"
def isShift:BinOp→Bool
 | .shl | .shr=>true
 | _=>false
def isEq:BinOp→Option Bool
 | .eql=>some true
 | .neq=>some false
 | _=>none
def isConstO:Operand→Bool
 | .const _=>true
 | _=>false
def nilOk(t:TypeId):M Bool:=
 match P.underlying t with
 | some (.interface ms)=>.ok ms.isEmpty
 | some _=>.ok true
 | none=>no "type"
def guardOk(op:BinOp)(t:TypeId)(x y:Operand)(a b:Value):M Bool:=
 match isEq op with
 | none=>.ok true
 | some _=>match a,b with
  | .nilIface,.nilIface=>if isConstO x || isConstO y then .ok true else nilOk P t
  | .agg _,.agg _=>.ok (!P.eqGuardType P.depth t)
  | _,_=>.ok true
def plainV:Value→Bool
 | .int .. | .string _ | .float .. | .complex .. | .chan _ | .tuple _=>false
 | _=>true
def binA(h:AH)(op:BinOp)(t:TypeId)(x y:Value):M Value:=
 match x,y with
 | .int k a,.int k' b=>if isShift op then shiftA op k a b else if k=k' then intA op k a b else no "kinds"
 | .string a,.string b=>strA op a.data.toList b.data.toList
 | x,y=>if plainV x && plainV y then
   match isEq op with
   | some want=>do .ok (.bool ((← eqA P h 10000 t x y) == want))
   | none=>no "binop"
  else no "binop"
def unA(op:UnOp)(x:Value):M Value:=
 match op,x with
 | .neg,.int k n=>.ok (.int k (k.wrap (0 - n)))
 | .xor,.int k n=>.ok (.int k (k.wrap (BitVec.ofInt k.bits (if k.signed then -1 else k.max) ^^^ BitVec.ofInt k.bits n).toNat))
 | .not,.bool b=>.ok (.bool !b)
 | _,_=>no "unop"
def isSliceT(t:TypeId):Bool:=match P.underlying t with | some (.slice _)=>true | _=>false
def convA(h:AH)(src dst:TypeId)(x:Value):M Value:=do
 match ← undA P src,← undA P dst,x with
 | _,.int k,.int _ n=>.ok (.int k (k.wrap n))
 | _,.string,.int _ n=>.ok (.string (Utf8.encode n))
 | _,.string,.string s=>.ok (.string s)
 | .slice e,.string,.slice a len c=>do
  if a.isNone=true∧isE c=true then no "conv slice" else
  match ← undA P e,a with
  | .int .u8,none=>.ok (.string ⟨#[]⟩)
  | .int .u8,some a=>do .ok (strL (← bytesOf (← getC h a len)))
  | _,_=>no "conv"
 | .pointer t,.unsafePointer,.pointer (some a)=>do
  let n ← sizeA P t
  let (_,c,p,_) ← cellsAt h a.block
  if n ≠ 0∧p=true∧a.off<c.length∧a.spot=none then .ok (.pointer (some a)) else no "conv: pointer"
 | .unsafePointer,.pointer u,.pointer (some a)=>do
  let _ ← infoA P u
  let (ty,c,p,_) ← cellsAt h a.block
  if p=true∧liesAt P P.depth ty (c.length / P.cellsOf ty) a.off u 1=true∧a.spot=none then .ok (.pointer (some a)) else no "conv: pointer"
 | _,_,_=>no "conv"

def firstA(h:AH)(size n:Nat):Value→M (List Value)
 | .slice (some a) _ _=>getC h a (n * size)
 | .slice none _ _=>if n * size=0 then .ok [] else no "nil cells"
 | .string s=>if size=1 then .ok (bytesV (s.data.toList.take n)) else no "bytes"
 | _=>no "slice or string"
def lenA:Value→M Nat
 | .slice _ n _=>.ok n
 | .string s=>.ok s.size
 | _=>no "slice or string"
def isIntT(t:TypeId):M Bool:=do
 match ← undA P t with
 | .int _=>.ok true
 | _=>.ok false
def freshA(h:AH)(elem:TypeId)(size need:Nat)(cells:List Value):Value × AH:=
 (.slice (some ⟨h.next,0,none⟩) need (capU size),(newA h (.cells elem cells false 2)).2)
def appendA(h:AH)(argTypes:List TypeId)(args:List Value):M (Value × AH):=do
 match argTypes,args with
 | [sT,xT],[.slice base len cap,x]=>do
  if base.isNone=true∧isE cap=true then no "append: no row" else
  match ← undA P sT with
  | .slice elem=>do
   let ei ← infoA P elem
   let z ← zeroA P elem
   let isInt ← isIntT P xT
   if isInt then no "append of make" else
   if ei.size=0∨ei.bytes > 65536∨(cellsL z).length ≠ ei.size then no "append: size" else
   let n ← lenA x
   let new ← firstA h ei.size n x
   let old ← firstA h ei.size len (.slice base len cap)
   if len+n > 1000000∨new.length ≠ n * ei.size∨old.length ≠ len * ei.size∨new.all oneC=false then no "append long" else
   if isU cap then
    match base with
    | some a=>do
     let (ty,_,_,own) ← cellsAt h a.block
     if own ≠ 2∨cap ≠ capU ei.size∨ty ≠ elem then no "append: mark" else
          -- the new row is the old one, or a fresh one: the old one is not looked at any more
     .ok (freshA { h with objs:=h.objs.del a.block } elem ei.size (len+n) (old ++ new))
    | none=>no "append"
   else if len+n≤cap then
    match base with
    | some a=>do
     let h ← storeC h (addO a (len * ei.size)) new
     .ok (.slice base (len+n) cap,h)
    | none=>if new.isEmpty then .ok (.slice base (len+n) cap,h) else no "append"
   else if cap<9223372036854775808 then .ok (freshA h elem ei.size (len+n) (old ++ new)) else no "append"
  | _=>no "append"
 | _,_=>no "append args"

def keyKind(kt:TypeId):M TypeDesc:=do
 match ← undA P kt with
 | .int k=>.ok (.int k)
 | .string=>.ok .string
 | .bool=>.ok .bool
 | _=>no "key type"
def findM(kt:TypeId)(k:Value)(es:List MapEntry):M (Option (Nat × Value)):=do
 let d ← keyKind P kt
 orNo "key" (Instr.findNow d k es 0)
def lookA(h:AH)(t:TypeId)(x k:Value)(commaOk:Bool):M Value:=do
 match ← undA P t with
 | .map key elem=>do
  let es ← (match x with
   | .map none=>.ok []
   | .map (some r)=>do .ok (← mapOf h r).1
   | _=>no "map" :M (List MapEntry))
  match ← findM P key k es with
  | some (_,v)=>.ok (if commaOk then tupL [v,.bool true] else v)
  | none=>do
   let z ← zeroA P elem
   .ok (if commaOk then tupL [z,.bool false] else z)
 | _=>no "map type"
def modEntry(f:MapEntry→MapEntry):List MapEntry→Nat→List MapEntry
 | [],_=>[]
 | e :: es,0=>f e :: es
 | e :: es,i+1=>e :: modEntry f es i
def mapSet(h:AH)(t:TypeId)(m k x:Value):M AH:=do
 match ← undA P t,m with
 | .map key _,.map (some r)=>do
  let (es,c,own) ← mapOf h r
  if !own then no "map not own" else
  match ← findM P key k es with
  | some (i,_)=>.ok (putA h r (.map (modEntry (fun e=>{ e with key:=k,val:=x }) es i) c own))
  | none=>.ok (putA h r (.map (es ++ [{ key:=k,val:=x,born:=c }]) (c+1) own))
 | _,_=>no "map type"
def mapEntryA(h:AH)(t:TypeId)(m k:Value):M (Value × AH):=do
 match ← undA P t,m with
 | .map key elem,.map (some r)=>do
  let (es,c,own) ← mapOf h r
  if !own then no "map not own" else
  match ← findM P key k es with
  | some (i,v)=>.ok (tupL [v,goInt ((((es[i]?).map (·.born)).getD 0:Nat))],putA h r (.map (modEntry (fun e=>{ e with key:=k }) es i) c own))
  | none=>do
   let z ← zeroA P elem
   .ok (tupL [z,goInt (c:Nat)],putA h r (.map (es ++ [{ key:=k,val:=z,born:=c }]) (c+1) own))
 | _,_=>no "map type"
def bornAt(b:Int)(es:List MapEntry):Option Nat:=es.findIdx? fun e=>(e.born:Int) == b
def entryStoreA(h:AH)(m stamp x:Value):M AH:=do
 match m with
 | .map (some r)=>do
  let (es,c,own) ← mapOf h r
  let b ← intOfA stamp
  if !own then no "map not own" else
  match bornAt b es with
  | some i=>.ok (putA h r (.map (modEntry (fun e=>{ e with val:=x }) es i) c own))
  | none=>no "entry gone"
 | _=>no "nil map"
def deleteA(h:AH)(t:TypeId)(m k:Value):M AH:=do
 match ← undA P t with
 | .map key _=>do
  match m with
  | .map none=>do
   let _ ← keyKind P key
   .ok h
  | .map (some r)=>do
   let (es,c,own) ← mapOf h r
   if !own then no "map not own" else
   match ← findM P key k es with
   | some (i,_)=>.ok (putA h r (.map (es.eraseIdx i) c own))
   | none=>.ok (putA h r (.map es c own))
  | _=>no "delete"
 | _=>no "map type"
def clearA(h:AH)(t:TypeId)(x:Value):M AH:=do
 match ← undA P t,x with
 | .map _ _,.map none=>.ok h
 | .slice _,.slice none _ c=>if isE c=true then no "clear" else .ok h
 | .map _ _,.map (some r)=>do
  let (_,c,own) ← mapOf h r
  if own then .ok (putA h r (.map [] c own)) else no "clear"
 | .slice elem,.slice (some a) n _=>do if n=0 then .ok h else storeC h a (rep (cellsL (← zeroA P elem)) n)
 | _,_=>no "clear"
def maxL(mx:Bool):Value→List Value→M Value
 | v,[]=>.ok v
 | .int k a,.int _ b :: r=>maxL mx (.int k (if(if mx then decide (b > a) else decide (b<a)) then b else a)) r
 | _,_=>no "max"

def fieldOff(s:TypeId)(i:Nat):M Field:=do
 match ← undA P s with
 | .struct fs=>orNo "field" fs.toList[i]?
 | _=>no "field: struct"
inductive APlace where
 | val (v:Value)
 | var (a:Addr)
def APlace.get(h:AH)(t:TypeId):APlace→M Value
 | .val v=>.ok v
 | .var a=>loadA P h t a
def followA(h:AH):List FieldStep→TypeId→APlace→M (TypeId × APlace)
 | [],t,x=>.ok (t,x)
 | s :: rest,t,x=>do
  let f ← fieldOff P s.struct s.index
  if s.deref then
   let a ← addrA (← x.get P h t)
   if(← sizeA P f.type)=0 then no "field of size 0" else followA h rest f.type (.var (addO a f.offset))
  else match x with
   | .var a=>do if(← sizeA P f.type)=0 then no "field of size 0" else followA h rest f.type (.var (addO a f.offset))
   | .val (.agg cs)=>do followA h rest f.type (.val (← partA P f.type cs.toList f.offset))
   | _=>no "follow"
def recvAt(h:AH)(xt:TypeId)(x:APlace)(ptr:Bool):M Value:=do
 match ← undA P xt,ptr,x with
 | .pointer _,true,x=>x.get P h xt
 | .pointer elem,false,x=>do loadA P h elem (← addrA (← x.get P h xt))
 | _,true,.var a=>.ok (.pointer (some a))
 | _,true,.val _=>no "recv"
 | _,false,x=>x.get P h xt
def methodA(h:AH):Nat→TypeId→Value→String→M (FuncId × Value)
 | 0,_,_,_=>no "method fuel"
 | n+1,t,v,name=>do
  let m ← orNo "no method" ((← infoA P t).methods.toList.find? (·.name == name))
  let (xt,x) ← followA P h m.path.toList t (.val v)
  match m.func with
  | none=>do
   match ← x.get P h xt with
   | .iface t' v'=>methodA h n t' v' name
   | _=>no "method of nil"
  | some (f,ptr)=>do .ok (f,← recvAt P h xt x ptr)

inductive AN where
 | value (v:Value)
 | skip
 | enter (f:FuncId) (args:List Value)
 | defer (d:Deferred)
 | recover
 | round (l:Nat) (fn:FuncId) (tm:T Value) (n:Nat) (assign body:Code)
 | panic (v:Value)

def runR{α:Type}(s:Sem α):M α:=
 match s.run P default with
 | .ok a _=>.ok a
 | _=>no "reader"
def handA:Value→M TypeId
 | .pointer (some a)=>if a.block=P.globals.size∧a.spot=none then .ok a.off else no "handle"
 | _=>no "handle"
def handV(t:TypeId):Value:=.pointer (some ⟨P.globals.size,t,none⟩)
def rtypeA(t:TypeId):M Value:=do
 let c ← runR P (cutType "internal/reflectlite.rtype")
 .ok (.iface c (aggL [handV P t]))
def ofRtA(v:Value):M TypeId:=
 match v with
 | .agg ⟨[h]⟩=>do
  let t ← handA P h
  let _ ← runR P (Extern.Rtype.noPack "a Type asked or handed on" t)
  .ok t
 | _=>no "rtype"
def valA(clean:Bool)(v:Value):M (TypeId × Addr × Nat):=
 match v with
 | .agg ⟨[h,.pointer (some a),.int .u64 f]⟩=>
  if f≤0∨a.spot ≠ none then no "Value" else do
  let t ← handA P h
  let _ ← (if clean then runR P (Extern.Rtype.noPack "a Value asked or handed on" t) else .ok ():M Unit)
  .ok (t,a,f.toNat)
 | _=>no "Value"
def mkVA(t:TypeId)(a:Addr)(flags:Nat):M Value:=do
 let k ← runR P (Extern.Rtype.kind t)
 .ok (aggL [handV P t,.pointer (some a),.int .u64 (Int.ofNat (k+128+flags))])
def reflectA(h:AH)(fn:Func)(args:List Value):M (AN × AH):=
 if fn.name = "internal/reflectlite.TypeOf" then
  match args with
  | [.nilIface]=>.ok (.value .nilIface,h)
  | [.iface t _]=>do
   let v ← rtypeA P t
   .ok (.value v,h)
  | _=>no "extern"
 else if fn.name = "(internal/reflectlite.rtype).Elem" then
  match args with
  | [r]=>do
   let t ← ofRtA P r
   match ← runR P (Extern.Rtype.elem? t) with
   | some e=>do
    let v ← rtypeA P e
    .ok (.value v,h)
   | none=>no "extern"
  | _=>no "extern"
 else if fn.name = "(internal/reflectlite.rtype).Implements" then
  match args with
  | [r,.iface _ u]=>do
   let a ← ofRtA P u
   let b ← ofRtA P r
   let y ← runR P (Extern.ReflectliteType.implements_ a b)
   .ok (.value (.bool y),h)
  | _=>no "extern"
 else if fn.name = "(internal/reflectlite.rtype).AssignableTo" then
  match args with
  | [r,.iface _ u]=>do
   let a ← ofRtA P u
   let b ← ofRtA P r
   let y ← runR P (Extern.ReflectliteType.assignableTo a b)
   .ok (.value (.bool y),h)
  | _=>no "extern"
 else if fn.name = "(*internal/abi.Type).Kind" then
  match args with
  | [x]=>do
   let t ← handA P x
   let _ ← runR P (Extern.Rtype.noPack "a method of abi.Type" t)
   let k ← runR P (Extern.Rtype.kind t)
   .ok (.value (.int .u8 k),h)
  | _=>no "extern"
 else if fn.name = "(internal/reflectlite.rtype).Comparable" then
  match args with
  | [r]=>do
   let t ← ofRtA P r
   let _ ← runR P (Extern.Rtype.noPackHeld "Comparable" t)
   let i ← infoA P t
   .ok (.value (.bool i.comparable),h)
  | _=>no "extern"
 else if fn.name = "internal/reflectlite.ValueOf" then
  match args with
  | [.iface t v]=>do
   let x ← mkVA P t ⟨h.next,0,none⟩ 0
   .ok (.value x,(newA h (.cells t (cellsL v) true 2)).2)
  | _=>no "extern"
 else if fn.name = "(internal/reflectlite.Value).Type" then
  match args with
  | [v]=>do
   let (t,_,_) ← valA P false v
   let x ← rtypeA P t
   .ok (.value x,h)
  | _=>no "extern"
 else if fn.name = "(internal/reflectlite.Value).IsNil" then
  match args with
  | [v]=>do
   let (t,a,f) ← valA P true v
   if([18,19,20,21,22,23,26].contains (f % 32))=false then no "IsNil" else
   match ← loadA P h t a with
   | .pointer none=>.ok (.value (.bool true),h)
   | .pointer (some _)=>.ok (.value (.bool false),h)
   | _=>no "IsNil"
  | _=>no "extern"
 else if fn.name = "(internal/reflectlite.Value).Elem" then
  match args with
  | [v]=>do
   let (t,a,f) ← valA P true v
   if f % 32 ≠ 22 then no "Elem" else
   match ← loadA P h t a,← runR P (Extern.Rtype.elem? t) with
   | .pointer (some p),some e=>do
    let x ← mkVA P e p 256
    .ok (.value x,h)
   | _,_=>no "Elem"
  | _=>no "extern"
 else if fn.name = "(internal/reflectlite.Value).Set" then
  match args with
  | [v,x]=>do
   let (dst,a,f) ← valA P true v
   let (src,b,_) ← valA P true x
   if f / 256 % 2=0 then no "Set" else
   let u ← loadA P h src b
   if(← runR P (Extern.Rtype.directlyAssignable dst src))=false then no "Set" else
   let h ← storeA P h dst a u
   .ok (.value (tupL []),h)
  | _=>no "extern"
 else no ("extern " ++ fn.name)

def externA(h:AH)(fn:Func)(args:List Value):M (AN × AH):=
 if(fn.origin == fn.name || fn.origin == "")=false then no ("extern: origin " ++ fn.origin ++ " " ++ fn.name) else
 if fn.name = "internal/abi.NoEscape" then
  match args with
  | [x]=>.ok (.value x,h)
  | _=>no "extern"
 else if fn.name = "internal/bytealg.IndexByteString" then
  match args with
  | [.string s,.int .u8 c]=>.ok (.value (.int .i64 (firstIdx s c.toNat.toUInt8)),h)
  | _=>no "extern"
 else if fn.name = "internal/bytealg.IndexByte" then
  match args with
  | [.slice (some a) n _,.int .u8 c]=>do
   let bs ← bytesOf (← getC h a n)
   .ok (.value (.int .i64 (firstIdx ⟨⟨bs⟩⟩ c.toNat.toUInt8)),h)
  | _=>no "extern"
 else if fn.name = "internal/bytealg.CountString" then
  match args with
  | [.string s,.int .u8 c]=>.ok (.value (goInt (s.foldl (fun n x=>if x == c.toNat.toUInt8 then n+1 else n) (0:Nat))),h)
  | _=>no "extern"
 else if fn.name = "internal/bytealg.MakeNoZero" then
  match args,fn.resultTypes.toList with
  | [.int .i64 n],[t]=>do
   match ← undA P t with
   | .slice e=>if n<0∨n > 1000000 then no "extern" else .ok (.value (.slice (some ⟨h.next,0,none⟩) n.toNat (capU 1)),(newA h (.cells e [] false 2)).2)
   | _=>no "extern"
  | _,_=>no "extern"
 else reflectA P h fn args
def callF(h:AH)(f:FuncId)(args:List Value):M (AN × AH):=
 match P.funcs[f]? with
 | none=>no "no such function"
 | some fn=>if fn.name == "runtime.NumGoroutine" then no "extern" else if fn.body.isNone then externA P h fn args else .ok (.enter f args,h)
def callMeth(h:AH)(recv:Value)(name:String)(args:List Value):M (AN × AH):=do
 match recv with
 | .iface t v=>do
  let (f,r) ← methodA P h (P.types.size+Made.depth) t v name
  callF P h f (r :: args)
 | _=>no "method of a nil interface"
def putParams(n:Nat):List Tmp→List Value→T Value→M (T Value)
 | t :: ts,v :: vs,tm=>if t<n then putParams n ts vs (tm.set t v) else no "params"
 | _,_,tm=>.ok tm
def builtinA(h:AH)(b:Builtin)(argTypes:List TypeId)(args:List Value):M (AN × AH):=do
 match b,args with
 | .append,_=>do let (v,h) ← appendA P h argTypes args;.ok (.value v,h)
 | .copy,[dst,src]=>do
  if argTypes.isEmpty then no "types" else
  match ← undA P (argTypes.headD 0),dst with
  | .slice elem,.slice base dLen cap=>do
   if base.isNone=true∧isE cap=true then no "copy: no row" else
   let n:=Nat.min (← lenA src) dLen
   let size ← sizeA P elem
   let cs ← firstA h size n src
   match base with
   | some a=>do let h ← storeC h a cs;.ok (.value (goInt n),h)
   | none=>.ok (.value (goInt n),h)
  | _,_=>no "copy"
 | .delete,[m,k]=>do
  if argTypes.isEmpty then no "types" else
  let h ← deleteA P h (argTypes.headD 0) m k
  .ok (.value (tupL []),h)
 | .clear,[x]=>do
  if argTypes.isEmpty then no "types" else
  let h ← clearA P h (argTypes.headD 0) x
  .ok (.value (tupL []),h)
 | .panic,[.iface t v]=>.ok (.panic (.iface t v),h)
 | .recover,_=>.ok (.recover,h)
 | .unsafeString,[.pointer p,l]=>do
  if argTypes.isEmpty then no "types" else
  let n ← intOfA l
  if n<0∨n > 1000000 then no "unsafe.String" else
  match p with
  | none=>if n=0 then .ok (.value (.string ⟨#[]⟩),h) else no "unsafe.String"
  | some a=>
   if n=0 then .ok (.value (.string ⟨#[]⟩),h) else do
   let (ty,c,_,own) ← cellsAt h a.block
   if own=0 then no "unsafe.String: not own" else
   match ← undA P (argTypes.headD 0),P.underlying ty with
   | .pointer e,some (.int .u8)=>
    if e ≠ ty∨P.cellsOf ty ≠ 1 then no "unsafe.String: type" else do
    let l ← bytesOf (← getC h a n.toNat)
    .ok (.value (strL l),putA h a.block (.cells ty c false 1))
   | _,_=>no "unsafe.String: type"
 | _,_=>no "builtin"
def invokeA(h:AH)(t:Target)(args:List Value):M (AN × AH):=do
 match t with
 | .builtin b ts _ _=>builtinA P h b ts.toList args
 | .fn (.func f) captured=>callF P h f (args ++ captured.toList)
 | .fn (.method name) _=>match args with
  | r :: rest=>callMeth P h r name rest
  | []=>no "method"
 | .fn (.methodOf t name) _=>match args with
  | r :: rest=>do
   match ← undA P t with
   | .interface _=>callMeth P h r name rest
   | _=>callMeth P h (.iface t r) name rest
  | []=>no "method"
 | .fn (.via t path f pointer) _=>match args with
  | x :: rest=>do
   let (xt,p) ← followA P h path.toList t (.val x)
   let v ← recvAt P h xt p pointer
   callF P h f (v :: rest)
  | []=>no "method"
 | .fn (.yield l) _=>match h.objs.get l with
  | some (.loop _ _ fn tm n params assign body _)=>if params.length ≠ args.length then no "yield" else do
   let tm ← putParams n params args tm
   .ok (.round l fn tm n assign body,h)
  | _=>no "yield"
 | _=>no "invoke"
def resolveA(ρ:Operand→Value)(c:Call)(type:TypeId):M (Target × List Value):=
 let args:=c.args.toList.map ρ
 match c.callee with
 | .builtin b=>.ok (.builtin b c.argTypes type ⟨c.args.toList.map isConstO⟩,args)
 | .invoke recv name=>.ok (.fn (.method name) #[],ρ recv :: args)
 | .value f=>match ρ f with
  | .func fn first captured=>.ok (.fn fn captured,first.toList ++ args)
  | _=>no "call of what"
def nextA(h:AH)(it:Value)(isString:Bool):M (Value × AH):=do
 match it with
 | .pointer (some ⟨r,0,_⟩)=>do
  match h.objs.get r,isString with
  | some (.stringIter s pos),true=>
   if pos<s.size then
    let (c,width):=Utf8.decode s pos
    .ok (tupL [.bool true,goInt pos,.int .i32 c],putA h r (.stringIter s (pos+width)))
   else .ok (tupL [.bool false],h)
  | some (.mapIter none _ _ _),false=>.ok (tupL [.bool false],h)
  | some (.mapIter (some m) since seen last),false=>do
   let (es,clock,_) ← mapOf h m
   if !seen.isEmpty && !es.isEmpty && es.all (fun e=>decide (e.born ≥ last)) then no "range: all new" else
   match es.filter fun e=>!seen.contains e.born with
   | []=>.ok (tupL [.bool false],h)
   | [e]=>if e.born<since then .ok (tupL [.bool true,e.key,e.val],putA h r (.mapIter (some m) since (seen ++ [e.born]) clock)) else no "range: a new entry"
   | _=>no "range over a map of several"
  | _,_=>no "next"
 | _=>no "iter"

inductive Kind where
 | read
 | alloc
 | effect
 deriving DecidableEq
def kindOf(o:Op):Kind:=
 match o with
 | .move _ | .assign _ | .pick .. | .build .. | .load .. | .waits _ | .nilCheck _ | .binOp .. | .unOp .. | .makeInterface .. | .makeFunc .. | .slice .. | .fieldAddr .. | .field .. | .indexAddr .. | .index .. | .lookup .. | .typeAssert .. | .extract ..=>.read
 | .convert s d _=>if isSliceT P d then(if isSliceT P s then .effect else .alloc) else .read
 | .call { callee:=.builtin b,.. }=>match b with | .len | .cap | .max | .min | .unsafeSliceData=>.read | _=>.effect
 | .alloc _ | .box .. | .buildSlice .. | .makeMap .. | .makeSlice ..=>.alloc
 | _=>.effect

def readB(h:AH)(b:Builtin)(argTypes:List TypeId)(args:List Value):M Value:=do
 match b,args with
 | .len,[x]=>do
  match ← undA P (argTypes.headD 0),x with
  | .string,.string s=>.ok (goInt s.size)
  | .array n _,_=>.ok (goInt n)
  | .pointer a,_=>do
   match ← undA P a with
   | .array n _=>.ok (goInt n)
   | _=>no "len"
  | .slice _,.slice _ n _=>.ok (goInt n)
  | .map _ _,.map none=>.ok (goInt 0)
  | .map _ _,.map (some r)=>do .ok (goInt (← mapOf h r).1.length)
  | _,_=>no "len"
 | .cap,[x]=>do
  match ← undA P (argTypes.headD 0),x with
  | .array n _,_=>.ok (goInt n)
  | .slice _,.slice _ _ c=>if isU c then no "cap unknown" else .ok (goInt c)
  | _,_=>no "cap"
 | .max,x :: r=>maxL true x r
 | .min,x :: r=>maxL false x r
 | .unsafeSliceData,[.slice none _ c]=>if isE c=true then no "SliceData" else .ok (.pointer none)
 | .unsafeSliceData,[.slice (some a) l c]=>if c ≠ 0∧(isU c=false∨0<l) then .ok (.pointer (some a)) else no "SliceData"
 | _,_=>no "builtin"
def isYield:Fn→Bool
 | .yield _=>true
 | _=>false
def hasAll(want:Array (String × TypeId))(got:Array Method):Bool:=(want.toList.filter fun (name,sig)=>!got.any fun m=>m.name == name && m.sig == sig).isEmpty
def readA(ρ:Operand→Value)(o:Oper)(h:AH):M Value:=do
 match o.op with
 | .move x=>.ok (ρ x)
 | .assign x=>.ok (ρ x)
 | .pick c a b=>match ρ c with
  | .bool t=>.ok (if t then ρ a else ρ b)
  | _=>no "pick"
 | .build t parts=>do
  let z:=cellsL (← zeroA P t)
  let ps:=parts.toList.map fun p=>(p.1,ρ p.2)
  match ← undA P t with
  | .struct fields=>do
   let pl ← placesA P fields.toList
   .ok (aggL (← fillA (fun i=>pl[i]?) z ps))
  | .array _ elem=>do
   let size ← sizeA P elem
   .ok (aggL (← fillA (fun i=>some (i * size,size)) z ps))
  | _=>no "build"
 | .load t a=>do loadA P h t (← addrA (ρ a))
 | .waits g=>do
  let _ ← cellsAt h g
  if g<P.globals.size then .ok (.bool false) else no "waits"
 | .nilCheck x=>match ρ x with
  | .pointer (some a)=>.ok (.pointer (some a))
  | .func (.func f) first captured=>.ok (.func (.func f) first captured)
  | .iface t v=>.ok (.iface t v)
  | _=>no "nilCheck"
 | .binOp op t x y _=>do
  if ← guardOk P op t x y (ρ x) (ρ y) then binA P h op t (ρ x) (ρ y) else no "two nil interfaces"
 | .unOp op _ x=>unA op (ρ x)
 | .convert s d x=>convA P h s d (ρ x)
 | .makeInterface t x=>do
  match ← undA P t with
  | .interface _=>no "makeInterface"
  | _=>.ok (.iface t (ρ x))
 | .makeFunc fn first captured=>if isYield fn then no "makeFunc" else .ok (.func fn ⟨first.toList.map ρ⟩ ⟨captured.toList.map ρ⟩)
 | .slice t x lo hi mx=>sliceA P t (ρ x) (lo.map ρ) (hi.map ρ) (mx.map ρ)
 | .fieldAddr s x i=>do
  let f ← fieldOff P s i
  let a ← addrA (ρ x)
  if(← sizeA P f.type)=0 then no "field of size 0" else .ok (.pointer (some (addO a f.offset)))
 | .field t x i=>do
  let f ← fieldOff P t i
  match ρ x with
  | .agg cs=>partA P f.type cs.toList f.offset
  | _=>no "field"
 | .indexAddr t x ix=>do
  let i ← intOfA (ρ ix)
  match ← undA P t,ρ x with
  | .array len elem,.pointer (some a)=>do
   let n ← sizeA P elem
   if 0≤i∧i<len∧a.spot=none then .ok (.pointer (some (addO a (i.toNat * n)))) else no "index"
  | .slice elem,.slice (some a) len _=>do
   let n ← sizeA P elem
   if 0≤i∧i<len then .ok (.pointer (some (addO a (i.toNat * n)))) else no "index"
  | _,_=>no "index"
 | .index t x ix=>do
  let i ← intOfA (ρ ix)
  match ← undA P t,ρ x with
  | .array len elem,.agg cs=>do
   let n ← sizeA P elem
   if 0≤i∧i<len then partA P elem cs.toList (i.toNat * n) else no "index"
  | .string,.string s=>if 0≤i then(match s.data.toList[i.toNat]? with | some b=>.ok (.int .u8 b.toNat) | none=>no "index") else no "index"
  | _,_=>no "index"
 | .lookup t x k ok=>lookA P h t (ρ x) (ρ k) ok
 | .typeAssert x _ asserted ok=>do
  match ← undA P asserted,ρ x with
  | .interface _,.nilIface=>do if ok then .ok (tupL [← zeroA P asserted,.bool false]) else no "assert"
  | .interface want,.iface t v=>do
   match hasAll want (← infoA P t).methods with
   | true=>.ok (if ok then tupL [.iface t v,.bool true] else .iface t v)
   | false=>do if ok then .ok (tupL [← zeroA P asserted,.bool false]) else no "assert"
  | _,.nilIface=>do if ok then .ok (tupL [← zeroA P asserted,.bool false]) else no "assert"
  | _,.iface t v=>do
   if t=asserted then .ok (if ok then tupL [v,.bool true] else v) else if ok then .ok (tupL [← zeroA P asserted,.bool false]) else no "assert"
  | _,_=>no "assert"
 | .extract x i=>match ρ x with
  | .tuple vs=>orNo "extract" vs.toList[i]?
  | _=>no "extract"
 | .call { callee:=.builtin b,args,argTypes }=>if argTypes.toList.isEmpty then no "types" else readB P h b argTypes.toList (args.toList.map ρ)
 | _=>no "read: operation"
def allocA(ρ:Operand→Value)(o:Oper)(r:Nat):M (Value × AObj):=do
 match o.op with
 | .alloc elem=>do
  let z ← zeroA P elem
  .ok (.pointer (some ⟨r,0,none⟩),.cells elem (cellsL z) true 2)
 | .box elem x=>.ok (.pointer (some ⟨r,0,none⟩),.cells elem (cellsL (ρ x)) true 2)
 | .buildSlice t len parts=>do
  match ← undA P t with
  | .slice elem=>do
   let size ← sizeA P elem
   if len * size > 65536∨len > 65536 then no "buildSlice" else
   let z ← (if len * size=0 then .ok [] else do .ok (cellsL (← zeroA P elem)):M (List Value))
   if len * size ≠ 0∧z.length ≠ size then no "buildSlice: zero" else
   let cs ← fillA (fun i=>some (i * size,size)) (rep z len) (parts.toList.map fun p=>(p.1,ρ p.2))
   .ok (.slice (some ⟨r,0,none⟩) len len,.cells elem cs true 2)
  | _=>no "buildSlice"
 | .makeMap t hint=>do
  match ← undA P t,hint with
  | .map _ _,none=>.ok (.map (some r),.map [] 0 true)
  | .map _ _,some x=>do
   let _ ← intOfA (ρ x)
   .ok (.map (some r),.map [] 0 true)
  | _,_=>no "makeMap"
 | .makeSlice t l c=>do
  match ← undA P t with
  | .slice elem=>do
   let l ← intOfA (ρ l)
   let c ← intOfA (ρ c)
   let ei ← infoA P elem
   if l<0∨c<l∨c > 1000000∨ei.bytes > 65536 then no "makeSlice" else
   let size:=ei.size
   let z ← (if c.toNat * size=0 then .ok [] else do .ok (cellsL (← zeroA P elem)):M (List Value))
   if c.toNat * size ≠ 0∧z.length ≠ size then no "makeSlice: zero" else
   .ok (.slice (some ⟨r,0,none⟩) l.toNat c.toNat,.cells elem (rep z c.toNat) true 2)
  | _=>no "makeSlice"
 | .convert src dst x=>do
  match ← undA P src,← undA P dst,ρ x with
  | _,.slice e,.string s=>do
   match ← undA P e with
   | .int .u8=>if s.size > 1000000 then no "bytes" else .ok (.slice (some ⟨r,0,none⟩) s.size (capU 1),.cells e (bytesV s.data.toList) false 2)
   | _=>no "conv"
  | _,_,_=>no "conv"
 | _=>no "alloc: operation"
def convEffA(h:AH)(s d:TypeId)(x:Value):M (AN × AH):=do
 match ← undA P s,← undA P d,x with
 | .slice _,.slice e,.slice (some a) l c=>do
  match ← undA P e with
  | .int .u8=>
   if s=d then do
    match ← cellsAt h a.block with
    | (ty,cs,true,2)=>if a.spot=none then .ok (.value (.slice (some a) l c),putA h a.block (.cells ty cs false 2)) else no "conv: spot"
    | _=>no "conv: cells"
   else no "conv: types"
  | _=>no "conv: elements"
 | _,_,_=>no "conv: slices"
def effA(ρ:Operand→Value)(o:Oper)(h:AH):M (AN × AH):=do
 match o.op with
 | .store t a x=>do .ok (.skip,← storeA P h t (← addrA (ρ a)) (ρ x))
 | .convert s d x=>convEffA P h s d (ρ x)
 | .mapUpdate t m k x=>do .ok (.skip,← mapSet P h t (ρ m) (ρ k) (ρ x))
 | .insert t m k x=>do .ok (.skip,← mapSet P h t (ρ m) (ρ k) (ρ x))
 | .mapEntry t m k=>do
  let (v,h) ← mapEntryA P h t (ρ m) (ρ k)
  .ok (.value v,h)
 | .entryStore _ m s x=>do .ok (.skip,← entryStoreA h (ρ m) (ρ s) (ρ x))
 | .range t x=>do
  match ← undA P t,ρ x with
  | .string,.string s=>let (r,h):=newA h (.stringIter s 0);.ok (.value (.pointer (some ⟨r,0,none⟩)),h)
  | .map _ _,.map none=>let (r,h):=newA h (.mapIter none 0 [] 0);.ok (.value (.pointer (some ⟨r,0,none⟩)),h)
  | .map _ _,.map (some m)=>do
   let (_,clock,_) ← mapOf h m
   let (r,h):=newA h (.mapIter (some m) clock [] clock)
   .ok (.value (.pointer (some ⟨r,0,none⟩)),h)
  | _,_=>no "range"
 | .next it s=>do
  let (v,h) ← nextA h (ρ it) s
  .ok (.value v,h)
 | .call c=>do
  let (t,args) ← resolveA ρ c o.type
  invokeA P h t args
 | .defer c=>do
  let (t,args) ← resolveA ρ c o.type
  .ok (.defer { target:=t,args:=⟨args⟩ },h)
 | .panic x=>match ρ x with
  | .iface t v=>.ok (.panic (.iface t v),h)
  | _=>no "panic"
 | _=>no "operation"
def okO:Operand→Bool
 | .const v=>bareA v
 | .global g=>decide (g<P.globals.size)
 | _=>true
def okOps(o:Oper):Bool:=o.op.operands.toList.all (okO P)
def execA(ρ:Operand→Value)(o:Oper)(h:AH):M (AN × AH):=
 if !okOps P o then no "a constant" else
 match kindOf P o.op with
 | .read=>do .ok (.value (← readA P ρ o h),h)
 | .alloc=>do
  let (v,b) ← allocA P ρ o h.next
  .ok (.value v,(newA h b).2)
 | .effect=>effA P ρ o h
end

def evA(tm:T Value):Operand→Value
 | .tmp t=>(tm.get t).getD undef
 | .const v=>v
 | .global g=>.pointer (some ⟨g,0,none⟩)
 | .func f=>.func (.func f) #[] #[]

structure AF where
 fn:FuncId
 n:Nat
 tm:T Value
 todo:List Item
 defers:List Deferred
 mode:FrameMode
 kind:CallKind
 round:Option Nat
structure AS where
 fr:AF
 cs:List AF
 hp:AH
inductive AR where
 | next (s:AS)
 | done (fn:FuncId) (v:Value) (h:AH)

def putT(n:Nat)(tm:T Value)(dst:Option Tmp)(v:Value):M (T Value):=
 match dst with
 | some d=>if d<n then .ok (tm.set d v) else no "dst"
 | none=>.ok tm
def AF.finish(fr:AF)(v:Value):M AF:=
 match fr.todo with
 | .inRegion ops (i :: rest) :: k=>do
  let tm ← putT fr.n fr.tm ((ops.toList[i]?).bind (·.dst)) v
  .ok { fr with tm,todo:=.inRegion ops rest :: k }
 | .inRangeFunc l :: k=>.ok { fr with todo:=.endRangeFunc l :: k }
 | .beginRound :: k=>.ok { fr with todo:=k }
 | _=>no "finish"
def wantedA(ops:List Oper)(tm:T Value)(o:Oper):M Bool:=
 match o.guard with
 | none=>.ok true
 | some (j,want)=>match (ops[j]?).bind (·.dst) with
  | none=>.ok false
  | some d=>match (tm.get d).getD undef with
   | .bool b=>.ok (b == want)
   | .tuple _=>.ok false
   | _=>no "guard"
def enterA(P:Program)(f:FuncId)(args:List Value)(kind:CallKind):M AF:=
 match P.funcs[f]? with
 | none=>no "enter"
 | some fn=>match fn.body with
  | none=>no "enter"
  | some b=>.ok { fn:=f,n:=max fn.ntmps args.length,tm:=T.ofL args 0 .nil,todo:=[.code b],defers:=[],mode:=.run,kind,round:=none }
def AF.raiseA(fr:AF)(vs:List PanicEntry):AF:=
 match fr.mode with
 | .panicking chain=>{ fr with mode:=.panicking (vs ++ chain) }
 | _=>{ fr with mode:=.panicking vs }
def resL(P:Program)(tm:T Value)(h:AH):List ResultVar→M (List Value)
 | []=>.ok []
 | .tmp t :: r=>do .ok ((tm.get t).getD undef :: (← resL P tm h r))
 | .cell a t :: r=>do
  let v ← loadA P h t (← addrA ((tm.get a).getD undef))
  .ok (v :: (← resL P tm h r))
def resultsA(P:Program)(fn:Func)(tm:T Value)(h:AH):M Value:=do
 match ← resL P tm h fn.results.toList with
 | [v]=>.ok v
 | vs=>.ok (tupL vs)
def tryRecA(fr:AF)(cs:List AF):M (Option (Value × List AF)):=
 match fr.kind,cs with
 | .deferred,c :: rest=>match c.mode with
  | .panicking ({ v,recovered:=false,goexit:=false } :: older)=>.ok (some (v,{ c with mode:=.panicking ({ v,recovered:=true } :: older) } :: rest))
  | _=>.ok none
 | .normal,_=>.ok none
 | _,_=>no "recover"
def afterA(P:Program)(fr:AF)(cs:List AF):AN→AH→M AR
 | .value v,h=>do .ok (.next ⟨← fr.finish v,cs,h⟩)
 | .skip,h=>do .ok (.next ⟨← fr.finish undef,cs,h⟩)
 | .enter f args,h=>do .ok (.next ⟨← enterA P f args .normal,fr :: cs,h⟩)
 | .round l fn tm n assign body,h=>.ok (.next ⟨{ fn,n,tm,todo:=[.code assign,.beginRound,.code body],defers:=[],mode:=.run,kind:=.normal,round:=some l },fr :: cs,h⟩)
 | .defer d,h=>do if fr.round.isSome then no "defer in a round" else .ok (.next ⟨← ({ fr with defers:=d :: fr.defers }:AF).finish undef,cs,h⟩)
 | .recover,h=>do
  if fr.round.isSome then no "recover in a round" else
  match ← tryRecA fr cs with
  | some (v,cs)=>do .ok (.next ⟨← fr.finish v,cs,h⟩)
  | none=>do .ok (.next ⟨← fr.finish .nilIface,cs,h⟩)
 | .panic v,h=>.ok (.next ⟨fr.raiseA [{ v,recovered:=false }],cs,h⟩)
def returnA(fr:AF)(cs:List AF)(v:Value)(h:AH):M AR:=
 match cs with
 | []=>if(fr.kind matches .normal) && fr.round.isNone then .ok (.done fr.fn v h) else no "done: kind"
 | c :: rest=>match fr.kind with
  | .normal=>do .ok (.next ⟨← c.finish v,rest,h⟩)
  | .deferred=>match c.mode with
   | .panicking ({ recovered:=true,.. } :: older)=>if older.isEmpty then .ok (.next ⟨{ c with mode:=.returning },rest,h⟩) else no "nested panics"
   | _=>.ok (.next ⟨c,rest,h⟩)
  | _=>no "return: kind"

structure Ent where
 o:Oper
 mask:Nat
 tm:T Value
  /-- whether it is done -/
 want:Bool
 v:Value
 kind:Kind
 obj:Option AObj
def maskOf(masks:List Nat)(i:Nat):List Edge→M Nat
 | []=>.ok 0
 | e :: es=>do
  let r ← maskOf masks i es
  if Region.binds .any e then
   if e.on<i then .ok ((2 ^ e.on ||| (masks[e.on]?).getD 0) ||| r) else no "edge"
  else .ok r
def looks(ops:List Oper)(o:Oper):List Tmp:=
 (o.op.operands.toList.filterMap fun | .tmp t=>some t | _=>none) ++ (match o.guard with | some (g,_)=>((ops[g]?).bind (·.dst)).toList | none=>[])
def clash(ops:List Oper)(x y:Oper):Bool:=
 (match x.dst with | some d=>(looks ops y).contains d || y.dst == some d | none=>false) || (match y.dst with | some d=>(looks ops x).contains d | none=>false)
def veq:Nat→Value→Value→Bool
 | 0,_,_=>false
 | n+1,a,b=>match a,b with
  | .bool x,.bool y=>x == y
  | .int k x,.int k' y=>k == k' && x == y
  | .string x,.string y=>x.data.toList == y.data.toList
  | .pointer x,.pointer y=>x == y
  | .slice x l c,.slice y l' c'=>x == y && l == l' && c == c'
  | .map x,.map y=>x == y
  | .chan x,.chan y=>x == y
  | .nilFunc,.nilFunc=>true
  | .nilIface,.nilIface=>true
  | .iface t x,.iface u y=>t == u && veq n x y
  | .func f a b,.func g c d=>f == g && veqL n a.toList c.toList && veqL n b.toList d.toList
  | .agg x,.agg y=>veqL n x.toList y.toList
  | .tuple x,.tuple y=>veqL n x.toList y.toList
  | _,_=>false
where
 veqL (n:Nat):List Value→List Value→Bool
  | [],[]=>true
  | x :: xs,y :: ys=>veq n x y && veqL n xs ys
  | _,_=>false
def withAl(mask:Nat)(h:AH):List (Nat × Nat × AObj)→AH
 | []=>h
 | (i,r,b) :: l=>if mask.testBit i then putA (withAl mask h l) r b else withAl mask h l
def litD:TypeDesc→Bool
 | .int _ | .string | .bool=>true
 | _=>false
def freeOp(P:Program)(o:Op):Bool:=
 match o with
 | .move _ | .assign _ | .pick .. | .fieldAddr .. | .field .. | .indexAddr .. | .index .. | .extract .. | .unOp .. | .slice ..=>true
 | .binOp _ t _ _ _=>match P.underlying t with
  | some d=>litD d
  | none=>false
 | _=>false
def sameRead(P:Program)(e:Ent)(al:List (Nat × Nat × AObj))(h:AH):Bool:=
 freeOp P e.o.op || match readA P (evA e.tm) e.o (withAl e.mask h al) with
 | .ok v=>veq 20 v e.v
 | .error _=>false
structure RS where
 tm:T Value
 h:AH
  /-- the heaps before and behind each effect -/
 hh:List AH
  /-- the effects so far -/
 ee:List Nat
  /-- blocks made and not yet in the heap -/
 al:List (Nat × Nat × AObj)
 masks:List Nat
 ents:List Ent
def isReadE(e:Ent):Bool:=e.want && (e.kind matches .read)
def orderOk(ops:List Oper)(o:Oper)(mask:Nat):List Ent→Nat→Bool
 | [],_=>true
 | x :: l,j=>(!clash ops x.o o || mask.testBit j) && orderOk ops o mask l (j+1)
def readsOk(P:Program)(mask:Nat)(al:List (Nat × Nat × AObj))(h:AH):List Ent→Nat→Bool
 | [],_=>true
 | x :: l,j=>(!isReadE x || mask.testBit j || sameRead P x al h) && readsOk P mask al h l (j+1)
def effRun(P:Program)(nest:FuncId→List Value→AH→M (Value × AH))(ρ:Operand→Value)(o:Oper)(h0:AH):M (Value × AH):=do
 match ← effA P ρ o h0 with
 | (.value v,h)=>.ok (v,h)
 | (.skip,h)=>.ok (undef,h)
 | (.enter f args,h)=>nest f args h
 | _=>no "drawn: effect"
def regStep(P:Program)(n base:Nat)(nest:FuncId→List Value→AH→M (Value × AH))(ops:List Oper)(i:Nat)(o:Oper)(s:RS):M RS:=do
 let mask ← maskOf s.masks i o.after.toList
  -- whatever looks at what another one writes is in an order with it
 if !orderOk ops o mask s.ents 0 then no "order of temporaries" else
 let want ← wantedA ops s.tm o
 if !want then
  let tm ← putT n s.tm o.dst undef
  .ok { s with tm,masks:=s.masks ++ [mask],ents:=s.ents ++ [{ o,mask,tm:=s.tm,want:=false,v:=undef,kind:=.read,obj:=none }] }
 else
 if !okOps P o then no "a constant" else
 match kindOf P o.op with
 | .read=>do
  let v ← readA P (evA s.tm) o (withAl mask s.h s.al)
  let e:Ent:={ o,mask,tm:=s.tm,want:=true,v,kind:=.read,obj:=none }
    -- the same before those effects that need not stand before it
  if !((s.ee.zip s.hh).all fun p=>mask.testBit p.1 || sameRead P e s.al p.2) then no "a read beside an effect" else
  let tm ← putT n s.tm o.dst v
  .ok { s with tm,masks:=s.masks ++ [mask],ents:=s.ents ++ [e] }
 | .alloc=>do
  let (v,b) ← allocA P (evA s.tm) o (base+i)
  let tm ← putT n s.tm o.dst v
  .ok { s with tm,al:=(i,base+i,b) :: s.al,masks:=s.masks ++ [mask],ents:=s.ents ++ [{ o,mask,tm:=s.tm,want:=true,v,kind:=.alloc,obj:=some b }] }
 | .effect=>do
  if !(s.ee.all fun j=>mask.testBit j) then no "effects in no order" else
  let (v,h) ← effRun P nest (evA s.tm) o (withAl mask s.h s.al)
  let al:=s.al.filter fun p=>!mask.testBit p.1
  if !readsOk P mask al h s.ents 0 then no "an effect beside a read" else
  let tm ← putT n s.tm o.dst v
  .ok { tm,h,hh:=s.hh ++ [h],ee:=s.ee ++ [i],al,masks:=s.masks ++ [mask],ents:=s.ents ++ [{ o,mask,tm:=s.tm,want:=true,v,kind:=.effect,obj:=none }] }
def regLoop(P:Program)(n base:Nat)(nest:FuncId→List Value→AH→M (Value × AH))(ops:List Oper):List Oper→Nat→RS→M RS
 | [],_,s=>.ok s
 | o :: l,i,s=>do regLoop P n base nest ops l (i+1) (← regStep P n base nest ops i o s)
def finalH(h:AH):List (Nat × Nat × AObj)→AH
 | []=>h
 | p :: l=>putA (finalH h l) p.2.1 p.2.2
def regionA(P:Program)(n:Nat)(nest:FuncId→List Value→AH→M (Value × AH))(ops:List Oper)(tm:T Value)(h:AH):M (T Value × AH):=do
 let base:=h.next
 let h0:AH:={ h with next:=base+ops.length }
 let s ← regLoop P n base nest ops ops 0 { tm,h:=h0,hh:=[h0],ee:=[],al:=[],masks:=[],ents:=[] }
 .ok (s.tm,finalH s.h s.al)

def enterLoopA(fr:AF)(h:AH):M (Nat × List Deferred × AH):=
 match fr.round with
 | some l=>match h.objs.get l with
  | some (.loop _ _ _ _ _ _ _ _ ds)=>.ok (ds,[],h)
  | _=>no "no loop"
 | none=>.ok (h.next,[{ target:=.collected h.next,args:=#[] }],(newA h (.deferred (some []))).2)
def unwindA(P:Program)(s:AS):M AR:=
 let fr:=s.fr
 match fr.defers with
 | { target:=.collected b,.. } :: ds=>match s.hp.objs.get b with
  | some (.deferred (some calls))=>.ok (.next ⟨{ fr with defers:=calls ++ ds },s.cs,putA s.hp b (.deferred none)⟩)
  | _=>no "collected"
 | d :: ds=>do
  let fr:={ fr with defers:=ds }
  match ← invokeA P s.hp d.target d.args.toList with
  | (.enter f args,h)=>do .ok (.next ⟨← enterA P f args .deferred,fr :: s.cs,h⟩)
  | (.value _,h)=>.ok (.next ⟨fr,s.cs,h⟩)
  | _=>no "deferred"
 | []=>match fr.mode with
  | .panicking chain=>match s.cs with
   | c :: rest=>.ok (.next ⟨c.raiseA chain,rest,s.hp⟩)
   | []=>no "panic at the bottom"
  | _=>if fr.round.isSome then no "returning in a round" else match P.funcs[fr.fn]? with
   | none=>no "fn"
   | some fn=>do returnA fr s.cs (← resultsA P fn fr.tm s.hp) s.hp
def stepA(P:Program)(nest:FuncId→List Value→AH→M (Value × AH))(s:AS):M AR:=
 let fr:=s.fr
 match fr.mode with
 | .run=>
  let to (k:List Item):M AR:=.ok (.next { s with fr:={ fr with todo:=k } })
  let leave (jump:Option Code):M AR:=
   match fr.round with
   | none=>(match jump with
    | none | some .ret=>.ok (.next { s with fr:={ fr with mode:=.returning } })
    | _=>no "leave")
   | some l=>match s.hp.objs.get l with
    | some (.loop _ _ fn tm n ps asg body ds)=>returnA fr s.cs (.bool jump.isNone) (putA s.hp l (.loop (if jump.isNone then .ready else .done) jump fn tm n ps asg body ds))
    | _=>no "no loop"
  match fr.todo with
  | []=>leave none
  | .code .ret :: _=>leave (some .ret)
  | .code .skip :: k | .code (.label _) :: k | .inBlock _ :: k | .inScope _ :: k=>to k
  | .code (.seq a b) :: k=>to (.code a :: .code b :: k)
  | .code (.cond c thn els) :: k=>match evA fr.tm c with
   | .bool b=>to (.code (if b then thn else els) :: k)
   | _=>no "cond"
  | .code (.block id body) :: k=>to (.code body :: .inBlock id :: k)
  | .code (.loop body) :: k | .inLoop body :: k=>to (.code body :: .inLoop body :: k)
  | .code (.scope body) :: k=>to (.code body :: .inScope body :: k)
  | .code (.exit id) :: k=>match exitTo id k with
   | some k'=>to k'
   | none=>leave (some (.exit id))
  | .code (.goto l) :: k=>match gotoIn l k with
   | some k'=>to k'
   | none=>leave (some (.goto l))
  | .code (.rangeFunc f params assign body) :: k=>do
   let (d,mark,h) ← enterLoopA fr s.hp
   let (l,h):=newA h (.loop .ready none fr.fn fr.tm fr.n params.toList assign body d)
   let fr:AF:={ fr with todo:=.inRangeFunc l :: k,defers:=mark ++ fr.defers }
   if !okO P f then no "a constant" else
   match evA fr.tm f with
   | .func fn first captured=>do
    let (a,h) ← invokeA P h (.fn fn captured) (first.toList ++ [.func (.yield l) #[] #[]])
    afterA P fr s.cs a h
   | _=>no "rangeFunc"
  | .beginRound :: k=>match fr.round with
   | none=>no "no round"
   | some l=>match s.hp.objs.get l with
    | some (.loop .ready pend fn tm n ps asg body ds)=>.ok (.next ⟨{ fr with todo:=k },s.cs,putA s.hp l (.loop .busy pend fn tm n ps asg body ds)⟩)
    | _=>no "round: state"
  | .endRangeFunc l :: k=>match s.hp.objs.get l with
   | some (.loop st pend fn tm n ps asg body ds)=>if st = .busy then no "busy" else
    .ok (.next ⟨{ fr with todo:=(pend.map Item.code).toList ++ k },s.cs,putA s.hp l (.loop .exhausted pend fn tm n ps asg body ds)⟩)
   | _=>no "endRangeFunc"
  | .code (.region _ ops draw) :: k=>
   if !draw then to (.inRegion ops (List.range ops.size) :: k)
   else do
    let (tm,h) ← regionA P fr.n nest ops.toList fr.tm s.hp
    .ok (.next ⟨{ fr with tm,todo:=k },s.cs,h⟩)
  | .inRegion _ [] :: k=>to k
  | .inRegion ops (i :: _) :: _=>match ops.toList[i]? with
   | none=>no "no oper"
   | some o=>do
    if ← wantedA ops.toList fr.tm o then
     let (a,h) ← execA P (evA fr.tm) o s.hp
     afterA P fr s.cs a h
    else do .ok (.next { s with fr:=← fr.finish undef })
  | _=>no "todo"
 | .returning | .panicking _=>unwindA P s

def runF(P:Program)(nest:FuncId→List Value→AH→M (Value × AH)):Nat→AS→M (FuncId × Value × AH)
 | 0,_=>no "fuel"
 | n+1,s=>match stepA P nest s with
  | .ok (.next s)=>runF P nest n s
  | .ok (.done f v h)=>.ok (f,v,h)
  | .error e=>.error e
def nestA(P:Program)(fuel:Nat):Nat→FuncId→List Value→AH→M (Value × AH)
 | 0,_,_,_=>no "depth"
 | d+1,f,args,h=>do
  let fr ← enterA P f args .normal
  let (g,v,h') ← runF P (nestA P fuel d) fuel ⟨fr,[],h⟩
  if g=f then .ok (v,h') else no "another function"
def callA(P:Program)(fuel depth:Nat)(f:FuncId)(args:List Value)(h:AH):M (Value × AH):=nestA P fuel (depth+1) f args h
end Go.Ev

namespace Go.Ev
open Go
abbrev iI(n:Int):Value:=.int .i64 n
abbrev uI(n:Int):Value:=.int .u8 n
abbrev pP(b o:Nat):Value:=.pointer (some ⟨b,o,none⟩)
abbrev sS(b o n c:Nat):Value:=.slice (some ⟨b,o,none⟩) n c
abbrev eE{α:Type}(a b:T α):T α:=.node none a b
abbrev lL{α:Type}(x:α):T α:=.node (some x) .nil .nil
abbrev nS{α:Type}(x:α)(a b:T α):T α:=.node (some x) a b
abbrev u1:T Value:=lL undef
abbrev u2:Nat:=9223372036854775810
end Go.Ev

namespace Go.Ev

theorem T.get_nil{α:Type}(m:Nat):(T.nil:T α).get m=none:=rfl
theorem T.get_setF{α:Type}:∀ (k:Nat) (t:T α) (n:Nat) (v:Option α) (m:Nat),n<k→(T.setF k t n v).get m=if m=n then v else t.get m:=by
 intro k
 induction k with
 | zero=>intro t n v m h;omega
 | succ k ih=>
  intro t n v m h
  cases t with
  | nil=>
   unfold T.setF
   by_cases h0:n=0
   ·simp only [h0,if_true]
    by_cases hm:m=0
    ·simp [hm,T.get]
    ·simp only [hm,if_false,T.get];split <;> rfl
   ·by_cases h1:n % 2=1
    ·simp only [h0,h1,if_true,if_false]
     by_cases hm:m=0
     ·simp only [hm,T.get,if_true];rw [if_neg (by omega)]
     ·by_cases hm1:m % 2=1
      ·simp only [hm,hm1,T.get,if_true,if_false]
       rw [ih _ _ _ _ (by omega)]
       by_cases e:m=n
       ·simp [e]
       ·rw [if_neg (by omega),if_neg e];simp [T.get]
      ·simp only [hm,hm1,T.get,if_false];rw [if_neg (by omega)]
    ·simp only [h0,h1,if_false]
     by_cases hm:m=0
     ·simp only [hm,T.get,if_true];rw [if_neg (by omega)]
     ·by_cases hm1:m % 2=1
      ·simp only [hm,hm1,T.get,if_true,if_false];rw [if_neg (by omega)]
      ·simp only [hm,hm1,T.get,if_false]
       rw [ih _ _ _ _ (by omega)]
       by_cases e:m=n
       ·simp [e]
       ·rw [if_neg (by omega),if_neg e];simp [T.get]
  | node o l r=>
   unfold T.setF
   by_cases h0:n=0
   ·simp only [h0,if_true]
    by_cases hm:m=0
    ·simp [hm,T.get]
    ·simp only [hm,if_false,T.get]
   ·by_cases h1:n % 2=1
    ·simp only [h0,h1,if_true,if_false]
     by_cases hm:m=0
     ·simp only [hm,T.get,if_true];rw [if_neg (by omega)]
     ·by_cases hm1:m % 2=1
      ·simp only [hm,hm1,T.get,if_true,if_false]
       rw [ih _ _ _ _ (by omega)]
       by_cases e:m=n
       ·simp [e]
       ·rw [if_neg (by omega),if_neg e]
      ·simp only [hm,hm1,T.get,if_false];rw [if_neg (by omega)]
    ·simp only [h0,h1,if_false]
     by_cases hm:m=0
     ·simp only [hm,T.get,if_true];rw [if_neg (by omega)]
     ·by_cases hm1:m % 2=1
      ·simp only [hm,hm1,T.get,if_true,if_false];rw [if_neg (by omega)]
      ·simp only [hm,hm1,T.get,if_false]
       rw [ih _ _ _ _ (by omega)]
       by_cases e:m=n
       ·simp [e]
       ·rw [if_neg (by omega),if_neg e]
theorem T.get_set{α:Type}(t:T α)(n:Nat)(v:α)(m:Nat):(t.set n v).get m=if m=n then some v else t.get m:=T.get_setF _ _ _ _ _ (by omega)
theorem T.get_del{α:Type}(t:T α)(n m:Nat):(t.del n).get m=if m=n then none else t.get m:=T.get_setF _ _ _ _ _ (by omega)
theorem T.get_ofL{α:Type}:∀ (l:List α) (n:Nat) (t:T α) (m:Nat),(T.ofL l n t).get m=if n≤m∧m<n+l.length then l[m - n]? else t.get m:=by
 intro l
 induction l with
 | nil=>intro n t m;rw [if_neg (by simp only [List.length_nil];omega)];rfl
 | cons x l ih=>
  intro n t m
  rw [T.ofL,ih,T.get_set]
  by_cases h:m=n
  ·subst h;rw [if_neg (by omega),if_pos rfl,if_pos (by simp)];simp only [Nat.sub_self];rfl
  ·by_cases h2:n≤m∧m<n+(l.length+1)
   ·rw [if_pos (by omega),if_pos (by simpa using h2),show m - n=(m - (n+1))+1 by omega];rfl
   ·rw [if_neg (by omega),if_neg h,if_neg (by simpa using h2)]

abbrev Env:=Nat→Option (Nat × Nat × Nat)
def Env.le(ρ ρ':Env):Prop:=∀ r t,ρ r=some t→ρ' r=some t
theorem Env.le_refl(ρ:Env):Env.le ρ ρ:=fun _ _ h=>h
theorem Env.le_trans{a b c:Env}(h:Env.le a b)(k:Env.le b c):Env.le a c:=fun r t e=>k r t (h r t e)
def Env.put(ρ:Env)(r:Nat)(t:Nat × Nat × Nat):Env:=fun x=>if x=r then some t else ρ x
theorem Env.le_put{ρ:Env}{r:Nat}{t:Nat × Nat × Nat}(h:ρ r=none):Env.le ρ (ρ.put r t):=by
 intro x u hx
 unfold Env.put
 by_cases e:x=r
 ·subst e;rw [h] at hx;cases hx
 ·rw [if_neg e];exact hx
theorem Env.put_at(ρ:Env)(r:Nat)(t:Nat × Nat × Nat):ρ.put r t r=some t:=by unfold Env.put;rw [if_pos rfl]
theorem Env.put_ne(ρ:Env){r x:Nat}(t:Nat × Nat × Nat)(h:x ≠ r):ρ.put r t x=ρ x:=by unfold Env.put;rw [if_neg h]

inductive FnR (ρ:Env):Fn→Fn→Prop
 | same {f:Fn} (h:∀ l,f ≠ .yield l):FnR ρ f f
 | yield {l b d n:Nat} (h:ρ l=some (b,d,n)):FnR ρ (.yield l) (.yield b)

inductive VR (η:Nat→Value) (ρ:Env):Value→Value→Prop
 | bool (b:Bool):VR η ρ (.bool b) (.bool b)
 | int (k:IntKind) (n:Int):VR η ρ (.int k n) (.int k n)
 | float (k:FloatKind) (b:Nat):VR η ρ (.float k b) (.float k b)
 | complex (k:FloatKind) (a b:Nat):VR η ρ (.complex k a b) (.complex k a b)
 | string (s:ByteArray):VR η ρ (.string s) (.string s)
 | ptr0:VR η ρ (.pointer none) (.pointer none)
 | ptr {r o b d n:Nat} (h:ρ r=some (b,d,n)):VR η ρ (.pointer (some ⟨r,o,none⟩)) (.pointer (some ⟨b,d+o,none⟩))
 | slice0 (l c:Nat) (hc:isU c=false):VR η ρ (.slice none l c) (.slice none l c)
 | slice {r o b d n:Nat} (l c:Nat) (h:ρ r=some (b,d,n)) (hc:isU c=false):VR η ρ (.slice (some ⟨r,o,none⟩) l c) (.slice (some ⟨b,d+o,none⟩) l c)
 | sliceU {r o b d n:Nat} (l s c:Nat) (h:ρ r=some (b,d,n)) (hs:0<s) (hc:o+c * s=n) (hl:l≤c) (hb:c<capB):VR η ρ (.slice (some ⟨r,o,none⟩) l (capU s)) (.slice (some ⟨b,d+o,none⟩) l c)
 | sliceE (a:Option Addr) (c:Nat):VR η ρ (.slice none 0 capE) (.slice a 0 c)
 | sliceF (a:Addr) (c:Nat):VR η ρ (.slice none 0 capF) (.slice (some a) 0 c)
 | map0:VR η ρ (.map none) (.map none)
 | map {r b d n:Nat} (h:ρ r=some (b,d,n)):VR η ρ (.map (some r)) (.map (some b))
 | func {f g:Fn} {a b c d:Array Value} (hf:FnR ρ f g) (h1:a.toList.length=c.toList.length) (h2:b.toList.length=d.toList.length)
   (h3:∀ (i:Nat) (v x:Value),a.toList[i]? = some v→c.toList[i]? = some x→VR η ρ v x) (h4:∀ (i:Nat) (v x:Value),b.toList[i]? = some v→d.toList[i]? = some x→VR η ρ v x):VR η ρ (.func f a b) (.func g c d)
 | nilFunc:VR η ρ .nilFunc .nilFunc
 | nilIface:VR η ρ .nilIface .nilIface
 | iface (t:TypeId) {v x:Value} (h:VR η ρ v x):VR η ρ (.iface t v) (.iface t x)
 | agg {a c:Array Value} (h1:a.toList.length=c.toList.length) (h3:∀ (i:Nat) (v x:Value),a.toList[i]? = some v→c.toList[i]? = some x→VR η ρ v x):VR η ρ (.agg a) (.agg c)
 | tuple {a c:Array Value} (h1:a.toList.length=c.toList.length) (h3:∀ (i:Nat) (v x:Value),a.toList[i]? = some v→c.toList[i]? = some x→VR η ρ v x):VR η ρ (.tuple a) (.tuple c)
 | opq (i:Nat):VR η ρ (.chan (some i)) (η i)
  /-- of which nothing is known -/
 | any {x:Value} (h:x.oneCell'=true):VR η ρ (.chan none) x
theorem FnR.mono{ρ ρ':Env}(h:Env.le ρ ρ'){f g:Fn}(k:FnR ρ f g):FnR ρ' f g:=by
 cases k with
 | same h=>exact .same h
 | yield e=>exact .yield (h _ _ e)
variable {η:Nat→Value}
theorem VR.mono{ρ ρ':Env}(h:Env.le ρ ρ'){v x:Value}(k:VR η ρ v x):VR η ρ' v x:=by
 induction k with
 | bool b=>exact .bool b
 | int k n=>exact .int k n
 | float k b=>exact .float k b
 | complex k a b=>exact .complex k a b
 | string s=>exact .string s
 | ptr0=>exact .ptr0
 | ptr e=>exact .ptr (h _ _ e)
 | slice0 l c hc=>exact .slice0 l c hc
 | slice l c e hc=>exact .slice l c (h _ _ e) hc
 | sliceU l s c e hs hc hl hb=>exact .sliceU l s c (h _ _ e) hs hc hl hb
 | sliceE a c=>exact .sliceE a c
 | sliceF a c=>exact .sliceF a c
 | map0=>exact .map0
 | map e=>exact .map (h _ _ e)
 | func hf h1 h2 _ _ i3 i4=>exact .func (hf.mono h) h1 h2 i3 i4
 | nilFunc=>exact .nilFunc
 | nilIface=>exact .nilIface
 | iface t _ ih=>exact .iface t ih
 | agg h1 _ i3=>exact .agg h1 i3
 | tuple h1 _ i3=>exact .tuple h1 i3
 | opq i=>exact .opq i
 | any h=>exact .any h

structure LR (η:Nat→Value) (ρ:Env) (l m:List Value):Prop where
 len:l.length=m.length
 at_:∀ (i:Nat) (v x:Value),l[i]? = some v→m[i]? = some x→VR η ρ v x
theorem LR.nil{ρ:Env}:LR η ρ [] []:=⟨rfl,fun _ _ _ h=>by simp at h⟩
theorem LR.cons{ρ:Env}{v x:Value}{l m:List Value}(h:VR η ρ v x)(k:LR η ρ l m):LR η ρ (v :: l) (x :: m):=by
 refine⟨by simp [k.len],fun i a b ha hb=>?_⟩
 cases i with
 | zero=>simp at ha hb;subst ha;subst hb;exact h
 | succ i=>simp at ha hb;exact k.at_ i a b ha hb
theorem LR.inv_cons{ρ:Env}{v:Value}{l m:List Value}(h:LR η ρ (v :: l) m):∃ x m',m=x :: m'∧VR η ρ v x∧LR η ρ l m':=by
 cases m with
 | nil=>have:=h.len;simp at this
 | cons x m=>
  refine⟨x,m,rfl,h.at_ 0 v x rfl rfl,by have:=h.len;simpa using this,fun i a b ha hb=>h.at_ (i+1) a b (by simpa using ha) (by simpa using hb)⟩
theorem LR.inv_nil{ρ:Env}{m:List Value}(h:LR η ρ [] m):m=[]:=by
 have:=h.len;cases m with
 | nil=>rfl
 | cons _ _=>simp at this
theorem LR.mono{ρ ρ':Env}(h:Env.le ρ ρ'){l m:List Value}(k:LR η ρ l m):LR η ρ' l m:=⟨k.len,fun i v x a b=>(k.at_ i v x a b).mono h⟩
theorem LR.append{ρ:Env}{a b c d:List Value}(h:LR η ρ a c)(k:LR η ρ b d):LR η ρ (a ++ b) (c ++ d):=by
 refine⟨by simp [h.len,k.len],fun i v x hv hx=>?_⟩
 by_cases hi:i<a.length
 ·rw [List.getElem?_append_left hi] at hv
  rw [List.getElem?_append_left (by rw [← h.len];exact hi)] at hx
  exact h.at_ i v x hv hx
 ·rw [List.getElem?_append_right (by omega)] at hv
  rw [List.getElem?_append_right (by rw [← h.len];omega),← h.len] at hx
  exact k.at_ _ v x hv hx
theorem LR.take{ρ:Env}{a c:List Value}(h:LR η ρ a c)(n:Nat):LR η ρ (a.take n) (c.take n):=by
 refine⟨by simp [h.len],fun i v x hv hx=>?_⟩
 rw [List.getElem?_take] at hv hx
 split at hv
 ·rename_i hi;rw [if_pos hi] at hx;exact h.at_ i v x hv hx
 ·cases hv
theorem LR.drop{ρ:Env}{a c:List Value}(h:LR η ρ a c)(n:Nat):LR η ρ (a.drop n) (c.drop n):=by
 refine⟨by simp [h.len],fun i v x hv hx=>?_⟩
 rw [List.getElem?_drop] at hv hx
 exact h.at_ _ v x hv hx
theorem LR.get{ρ:Env}{a c:List Value}(h:LR η ρ a c){i:Nat}{v:Value}(hv:a[i]? = some v):∃ x,c[i]? = some x∧VR η ρ v x:=by
 have hi:i<a.length:=(List.getElem?_eq_some_iff.1 hv).1
 have hc:i<c.length:=by rw [← h.len];exact hi
 exact⟨c[i],List.getElem?_eq_getElem hc,h.at_ i v _ hv (List.getElem?_eq_getElem hc)⟩
theorem VR.agg'{ρ:Env}{a c:List Value}(h:LR η ρ a c):VR η ρ (aggL a) (.agg c.toArray):=.agg (by simpa using h.len) (fun i v x hv hx=>h.at_ i v x (by simpa using hv) (by simpa using hx))
theorem VR.tup'{ρ:Env}{a c:List Value}(h:LR η ρ a c):VR η ρ (tupL a) (.tuple c.toArray):=.tuple (by simpa using h.len) (fun i v x hv hx=>h.at_ i v x (by simpa using hv) (by simpa using hx))
theorem VR.bare{ρ:Env}{v:Value}(h:bareV v=true):VR η ρ v v:=by
 cases v with
 | bool b=>exact .bool b
 | int k n=>exact .int k n
 | float k n=>exact .float k n
 | complex k a b=>exact .complex k a b
 | string s=>exact .string s
 | pointer a=>cases a with
  | none=>exact .ptr0
  | some a=>simp [bareV] at h
 | slice a l c=>cases a with
  | none=>exact .slice0 l c (by simpa [bareV] using h)
  | some a=>simp [bareV] at h
 | map r=>cases r with
  | none=>exact .map0
  | some a=>simp [bareV] at h
 | nilFunc=>exact .nilFunc
 | nilIface=>exact .nilIface
 | _=>simp [bareV] at h
theorem LR.bare{ρ:Env}:∀ {l:List Value},l.all bareV=true→LR η ρ l l
 | [],_=>.nil
 | v :: l,h=>by
  simp only [List.all_cons,Bool.and_eq_true] at h
  exact .cons (.bare h.1) (LR.bare h.2)
theorem VR.bareA{ρ:Env}{v:Value}(h:bareA v=true):VR η ρ v v:=by
 cases v with
 | agg cs=>
  have:=LR.bare (η:=η) (ρ:=ρ) (l:=cs.toList) h
  exact .agg rfl this.at_
 | tuple cs=>
  have he:cs.toList=[]:=by simpa [Ev.bareA] using h
  exact .tuple rfl (fun i v x hv=>by rw [he] at hv;simp at hv)
 | _=>exact .bare h

def OneCells(η:Nat→Value):Prop:=∀ i,(η i).oneCell'=true
theorem VR.oneC(hη:OneCells η){ρ:Env}{v x:Value}(h:VR η ρ v x)(hv:Ev.oneC v=true):x.oneCell'=true:=by
 cases h <;> first | rfl | (simp [Ev.oneC] at hv;done) | exact hη _ | assumption
theorem VR.cells(hη:OneCells η){ρ:Env}{v x:Value}(h:VR η ρ v x):LR η ρ (cellsL v) x.cells.toList:=by
 have one:∀ {v x:Value},VR η ρ v x→cellsL v=[v]→x.cells=#[x]→LR η ρ (cellsL v) x.cells.toList:=by
  intro v x h h1 h2
  rw [h1,h2];exact .cons h .nil
 cases h with
 | agg h1 h3=>exact⟨h1,h3⟩
 | opq i=>
  refine one (.opq i) rfl ?_
  have:=hη i
  cases hx:η i <;> first | rfl | (rw [hx] at this;simp [Value.oneCell'] at this)
 | any h=>
  refine one (.any h) rfl ?_
  cases x <;> first | rfl | simp [Value.oneCell'] at h
 | tuple h1 h3=>exact one (.tuple h1 h3) rfl rfl
 | func a b c d e=>exact one (.func a b c d e) rfl rfl
 | iface t h=>exact one (.iface t h) rfl rfl
 | bool b=>exact one (.bool b) rfl rfl
 | int k n=>exact one (.int k n) rfl rfl
 | float k n=>exact one (.float k n) rfl rfl
 | complex k a b=>exact one (.complex k a b) rfl rfl
 | string s=>exact one (.string s) rfl rfl
 | ptr0=>exact one .ptr0 rfl rfl
 | ptr h=>exact one (.ptr h) rfl rfl
 | slice0 l c h=>exact one (.slice0 l c h) rfl rfl
 | slice l c h h'=>exact one (.slice l c h h') rfl rfl
 | sliceU l s c h a b d e=>exact one (.sliceU l s c h a b d e) rfl rfl
 | sliceE a c=>exact one (.sliceE a c) rfl rfl
 | sliceF a c=>exact one (.sliceF a c) rfl rfl
 | map0=>exact one .map0 rfl rfl
 | map h=>exact one (.map h) rfl rfl
 | nilFunc=>exact one .nilFunc rfl rfl
 | nilIface=>exact one .nilIface rfl rfl

def TR(η:Nat→Value)(ρ:Env)(tm:T Value)(n:Nat)(tmps:Array Value):Prop:=tmps.size=n∧(∀ t,n≤t→tm.get t=none)∧∀ t,t<n→VR η ρ ((tm.get t).getD undef) (tmps.getD t undef)
def TgR(ρ:Env)(η:Nat→Value):Target→Target→Prop
 | .fn f a,.fn g b=>FnR ρ f g∧LR η ρ a.toList b.toList
 | .nil,.nil=>True
 | .builtin b ts t cs,.builtin b' ts' t' cs'=>b=b'∧ts=ts'∧t=t'∧cs=cs'
 | .collected r,.collected r'=>∃ d n,ρ r=some (r',d,n)
 | _,_=>False
def DR(η:Nat→Value)(ρ:Env)(d e:Deferred):Prop:=TgR ρ η d.target e.target∧LR η ρ d.args.toList e.args.toList
inductive L2 {α β:Type} (R:α→β→Prop):List α→List β→Prop
 | nil:L2 R [] []
 | cons {a b l m} (h:R a b) (k:L2 R l m):L2 R (a :: l) (b :: m)
theorem L2.mono{α β:Type}{R S:α→β→Prop}(h:∀ a b,R a b→S a b){l:List α}{m:List β}(k:L2 R l m):L2 S l m:=by
 induction k with
 | nil=>exact .nil
 | cons a _ ih=>exact .cons (h _ _ a) ih
theorem L2.append{α β:Type}{R:α→β→Prop}{l l':List α}{m m':List β}(h:L2 R l m)(k:L2 R l' m'):L2 R (l ++ l') (m ++ m'):=by
 induction h with
 | nil=>exact k
 | cons a _ ih=>exact .cons a ih
theorem L2.len{α β:Type}{R:α→β→Prop}{l:List α}{m:List β}(h:L2 R l m):l.length=m.length:=by
 induction h with
 | nil=>rfl
 | cons _ _ ih=>simp [ih]
def ER(η:Nat→Value)(ρ:Env)(e f:MapEntry):Prop:=VR η ρ e.key f.key∧VR η ρ e.val f.val∧e.born=f.born
theorem TR.mono{ρ ρ':Env}(h:Env.le ρ ρ'){tm:T Value}{n:Nat}{ts:Array Value}(k:TR η ρ tm n ts):TR η ρ' tm n ts:=⟨k.1,k.2.1,fun t ht=>(k.2.2 t ht).mono h⟩
theorem TgR.mono{ρ ρ':Env}(h:Env.le ρ ρ'){s t:Target}(k:TgR ρ η s t):TgR ρ' η s t:=by
 cases s <;> cases t <;> simp only [TgR] at k ⊢ <;> first | exact k | exact⟨k.1.mono h,k.2.mono h⟩ | (obtain⟨d,n,e⟩:=k;exact⟨d,n,h _ _ e⟩)
theorem DR.mono{ρ ρ':Env}(h:Env.le ρ ρ'){d e:Deferred}(k:DR η ρ d e):DR η ρ' d e:=⟨k.1.mono h,k.2.mono h⟩
theorem ER.mono{ρ ρ':Env}(h:Env.le ρ ρ'){d e:MapEntry}(k:ER η ρ d e):ER η ρ' d e:=⟨k.1.mono h,k.2.1.mono h,k.2.2⟩

structure CR (η:Nat→Value) (ρ:Env) (ty:TypeId) (c:List Value) (p:Bool) (own d n:Nat) (C:Array Value) (ty':TypeId) (lo hi:Nat):Prop where
 ty:ty'=ty
 size:C.toList.length=d+n
 len:c.length≤n
 at_:∀ (i:Nat) (v:Value),c[i]? = some v→∃ x,C.toList[d+i]? = some x∧VR η ρ v x
 plain:p=true→lo=0∧hi=0∧d=0∧c.length=n
 free:own=2→∀ i,i<n→¬ (lo≤d+i∧d+i<hi)
def OR(η:Nat→Value)(ρ:Env):AObj→Nat→Nat→Obj→Prop
 | .cells ty c p own,d,n,o=>∃ C ty' lo hi,o = .cells C ty' (lo,hi)∧CR η ρ ty c p own d n C ty' lo hi
 | .map es clock _,_,_,o=>∃ E,o = .map E clock∧L2 (ER η ρ) es E.toList
 | .stringIter s pos,d,_,o=>d=0∧o = .stringIter s pos
 | .mapIter m since seen last,d,_,o=>d=0∧∃ m',o = .mapIter m' since seen.toArray last∧(match m,m' with | none,none=>True | some r,some b=>∃ d n,ρ r=some (b,d,n) | _,_=>False)
 | .loop st pend fn tm n ps asg body ds,_,_,o=>∃ l:Loop,o = .loop l∧l.state=st∧l.pending=pend∧l.fn=fn∧TR η ρ tm n l.tmps∧l.params.toList=ps∧l.assign=asg∧l.body=body∧∃ d n,ρ ds=some (l.defers,d,n)
 | .deferred ds,_,_,o=>∃ ds',o = .deferred ds'∧(match ds,ds' with | none,none=>True | some l,some m=>L2 (DR η ρ) l m | _,_=>False)
def ownO:AObj→Bool
 | .cells _ _ _ own=>own != 0
 | .map _ _ own=>own
 | _=>true
theorem CR.mono{ρ ρ':Env}(h:Env.le ρ ρ'){ty:TypeId}{c:List Value}{p:Bool}{own:Nat}{d n:Nat}{C:Array Value}{ty':TypeId}{lo hi:Nat}(k:CR η ρ ty c p own d n C ty' lo hi):CR η ρ' ty c p own d n C ty' lo hi:=
 ⟨k.ty,k.size,k.len,fun i v e=>let ⟨x,a,b⟩:=k.at_ i v e;⟨x,a,b.mono h⟩,k.plain,k.free⟩
theorem OR.mono{ρ ρ':Env}(h:Env.le ρ ρ'){a:AObj}{d n:Nat}{o:Obj}(k:OR η ρ a d n o):OR η ρ' a d n o:=by
 cases a with
 | cells ty c p own=>obtain⟨C,t,lo,hi,e,k⟩:=k;exact⟨C,t,lo,hi,e,k.mono h⟩
 | map es clock own=>obtain⟨E,e,k⟩:=k;exact⟨E,e,k.mono fun _ _=>ER.mono h⟩
 | stringIter s pos=>exact k
 | mapIter m since seen last=>
  obtain⟨hd,m',e,k⟩:=k
  refine⟨hd,m',e,?_⟩
  cases m <;> cases m' <;> simp only at k ⊢
  obtain⟨d,n,e⟩:=k;exact⟨d,n,h _ _ e⟩
 | loop st pend fn tm n ps asg body ds=>
  obtain⟨l,e,a,b,c,t,f,g,i,d,n,k⟩:=k
  exact⟨l,e,a,b,c,t.mono h,f,g,i,d,n,h _ _ k⟩
 | deferred ds=>
  obtain⟨m',e,k⟩:=k
  refine⟨m',e,?_⟩
  cases ds <;> cases m' <;> simp only at k ⊢
  exact k.mono fun _ _=>DR.mono h

structure Bd where
 n:Nat
 S:Nat→Prop
 lt:∀ b,S b→b<n
def Bd.of(n:Nat):Bd:=⟨n,fun _=>False,fun _ h=>h.elim⟩
instance:Coe Nat Bd:=⟨Bd.of⟩
def shO:AObj→Bool
 | .cells _ _ p own=>!p && own == 0
 | _=>false
theorem shO_own{a:AObj}(h:shO a=true):ownO a=false:=by
 cases a <;> simp_all [shO,ownO]
structure HR (η:Nat→Value) (ρ:Env) (B:Bd) (h:AH) (w:World):Prop where
 obj:∀ r a,h.objs.get r=some a→∃ b d n o,ρ r=some (b,d,n)∧w.heap[b]? = some o∧OR η ρ a d n o∧(ownO a=true→B.n≤b)
 inj:∀ r r' a a' b d n d' n',h.objs.get r=some a→h.objs.get r'=some a'→ρ r=some (b,d,n)→ρ r'=some (b,d',n')→r=r'∨B.S b
 sh:∀ r a b d n,h.objs.get r=some a→ρ r=some (b,d,n)→B.S b→shO a=true
theorem HR.uni{η:Nat→Value}{ρ:Env}{B:Bd}{h:AH}{w:World}(H:HR η ρ B h w){r r':Nat}{a a':AObj}{b d n d' n':Nat}(h1:h.objs.get r=some a)(h2:h.objs.get r'=some a')(e1:ρ r=some (b,d,n))(e2:ρ r'=some (b,d',n'))(hs:shO a'=false):r=r':=by
 rcases H.inj r r' a a' b d n d' n' h1 h2 e1 e2 with h | h
 ·exact h
 ·rw [H.sh r' a' b d' n' h2 e2 h] at hs;cases hs
theorem sh_of_own{a:AObj}(h:ownO a=true):shO a=false:=by
 cases hs:shO a with
 | false=>rfl
 | true=>rw [shO_own hs] at h;cases h
def Own(ρ:Env)(h:AH)(b:Nat):Prop:=∃ r a d n,h.objs.get r=some a∧ownO a=true∧ρ r=some (b,d,n)
structure Fr (ρ:Env) (h:AH) (w w':World):Prop where
 os:w'.os=w.os
 tape:w'.tape=w.tape
 output:w'.output=w.output
 size:w.heap.size≤w'.heap.size
 kept:∀ k,k<w.heap.size→¬ Own ρ h k→w'.heap[k]? = w.heap[k]?
def OwnIn(ρ ρ':Env)(h h':AH)(w:World):Prop:=∀ b,Own ρ' h' b→Own ρ h b∨w.heap.size≤b
def FreshR(ρ:Env)(n:Nat):Prop:=∀ r,n≤r→ρ r=none
theorem Fr.refl(ρ:Env)(h:AH)(w:World):Fr ρ h w w:=⟨rfl,rfl,rfl,Nat.le_refl _,fun _ _ _=>rfl⟩
theorem Fr.trans{ρ ρ':Env}{h h':AH}{w w' w'':World}(a:Fr ρ h w w')(o:OwnIn ρ ρ' h h' w)(b:Fr ρ' h' w' w''):Fr ρ h w w'':=by
 refine⟨b.os.trans a.os,b.tape.trans a.tape,b.output.trans a.output,Nat.le_trans a.size b.size,fun k hk hn=>?_⟩
 rw [b.kept k (Nat.lt_of_lt_of_le hk a.size) (fun hq=>?_),a.kept k hk hn]
 rcases o k hq with h | h
 ·exact hn h
 ·omega
theorem OwnIn.trans{ρ ρ' ρ'':Env}{h h' h'':AH}{w w':World}(a:OwnIn ρ ρ' h h' w)(hs:w.heap.size≤w'.heap.size)(b:OwnIn ρ' ρ'' h' h'' w'):OwnIn ρ ρ'' h h'' w:=by
 intro k hk
 rcases b k hk with h | h
 ·exact a k h
 ·exact .inr (by omega)
theorem OwnIn.refl(ρ:Env)(h:AH)(w:World):OwnIn ρ ρ h h w:=fun _ h=>.inl h
theorem HR.below{ρ:Env}{B:Bd}{h:AH}{w w':World}(k:HR η ρ B h w)(f:Fr ρ h w w')(hB:B.n≤w.heap.size):Go.RowKit.Below B.n w w':=by
 refine⟨f.os,f.tape,f.output,f.size,fun i hi=>f.kept i (by omega) fun ⟨r,a,d,n,e1,e2,e3⟩=>?_⟩
 obtain⟨b,d',n',o,e4,_,_,e5⟩:=k.obj r a e1
 rw [e3] at e4
 injection e4 with e4
 injection e4 with e4
 have:=e5 e2
 omega
end Go.Ev

namespace Go.Ev
variable {η:Nat→Value}

theorem bind_ok{α β:Type}{x:M α}{f:α→M β}{b:β}:(x >>= f)=Except.ok b ↔ ∃ a,x = .ok a∧f a = .ok b:=by
 cases x with
 | error e=>simp [bind,Except.bind]
 | ok a=>simp [bind,Except.bind]
theorem no_ok{α:Type}{s:String}{a:α}:((no s:M α)=Except.ok a) ↔ False:=by simp [no]
theorem orNo_ok{α:Type}{s:String}{o:Option α}{a:α}:orNo s o=Except.ok a ↔ o=some a:=by
 cases o <;> simp [orNo,no]
theorem okk{α:Type}{a b:α}:((Except.ok a:M α) = .ok b) ↔ a=b:=by constructor <;> intro h <;> first | (injection h) | rw [h]
theorem ite_no{α:Type}{c:Prop}[Decidable c]{s:String}{x:M α}{a:α}:((if c then no s else x)=Except.ok a) ↔ ¬ c∧x = .ok a:=by
 by_cases h:c <;> simp [h,no]
theorem ite_no'{α:Type}{c:Prop}[Decidable c]{s:String}{x:M α}{a:α}:((if c then x else no s)=Except.ok a) ↔ c∧x = .ok a:=by
 by_cases h:c <;> simp [h,no]

section types
variable {P:Program} {w:World} {t:TypeId}
theorem infoA_ok{i:TypeInfo}:infoA P t = .ok i ↔ P.info? t=some i:=orNo_ok
theorem undA_ok{d:TypeDesc}:undA P t = .ok d ↔ P.underlying t=some d:=orNo_ok
theorem run_und{d:TypeDesc}(h:P.underlying t=some d):(underlying t).run P w = .ok d w:=by simp [underlying,h]
theorem run_info{i:TypeInfo}(h:P.info? t=some i):(typeInfo t).run P w = .ok i w:=by simp [typeInfo,h]
theorem sizeA_ok{n:Nat}:sizeA P t = .ok n ↔ ∃ i,P.info? t=some i∧i.size=n:=by
 simp only [sizeA,bind_ok,infoA_ok,okk]
theorem run_size{n:Nat}(h:sizeA P t = .ok n):(sizeOf t).run P w = .ok n w:=by
 obtain⟨i,hi,rfl⟩:=sizeA_ok.1 h
 simp [sizeOf,run_info hi]
theorem run_agg{b:Bool}(h:isAggA P t = .ok b):(isAgg t).run P w = .ok b w:=by
 simp only [isAggA,bind_ok,undA_ok] at h
 obtain⟨d,hd,h⟩:=h
 simp only [isAgg,Sem.run_bind,run_und hd,Result.andThen]
 cases d <;> simp only [okk] at h <;> subst h <;> rfl
theorem zeroA_ok{v:Value}:zeroA P t = .ok v ↔ (∃ i,P.info? t=some i∧i.zero=some v)∧bareA v=true:=by
 simp only [zeroA,bind_ok,infoA_ok,orNo_ok]
 constructor
 ·rintro ⟨i,hi,x,hz,h⟩
  rw [ite_no',okk] at h
  obtain⟨hb,rfl⟩:=h
  exact⟨⟨i,hi,hz⟩,hb⟩
 ·rintro ⟨⟨i,hi,hz⟩,hb⟩
  exact⟨i,hi,v,hz,by rw [if_pos hb]⟩
theorem run_zero{v:Value}(h:zeroA P t = .ok v):(zeroValue t).run P w = .ok v w:=by
 obtain⟨⟨i,hi,hz⟩,_⟩:=zeroA_ok.1 h
 simp [zeroValue,run_info hi,hz]
theorem VR.zero{ρ:Env}{v:Value}(h:zeroA P t = .ok v):VR η ρ v v:=.bareA (zeroA_ok.1 h).2
end types

def AdR(ρ:Env)(a b:Addr):Prop:=a.spot=none∧∃ n blk d,ρ a.block=some (blk,d,n)∧b=⟨blk,d+a.off,none⟩
theorem VR.ptr_inv{ρ:Env}{a:Addr}{x:Value}(h:VR η ρ (.pointer (some a)) x):∃ b,x = .pointer (some b)∧AdR ρ a b:=by
 cases h with
 | ptr h=>exact⟨_,rfl,rfl,_,_,_,h,rfl⟩
theorem AdR.ptr{ρ:Env}{a b:Addr}(h:AdR ρ a b):VR η ρ (.pointer (some a)) (.pointer (some b)):=by
 obtain⟨h1,n,blk,d,h2,rfl⟩:=h
 obtain⟨r,o,s⟩:=a
 simp only at h1;subst h1
 exact .ptr h2
theorem AdR.spot{ρ:Env}{a b:Addr}(h:AdR ρ a b):b.spot=none:=by obtain⟨_,n,blk,d,_,rfl⟩:=h;rfl
theorem add_eq{a:Addr}(h:a.spot=none)(n:Nat):a.add n=⟨a.block,a.off+n,none⟩:=by
 obtain⟨b,o,s⟩:=a
 simp only at h;subst h
 unfold Addr.add
 by_cases hn:n=0
 ·simp [hn]
 ·simp [hn]
theorem AdR.add{ρ:Env}{a b:Addr}(h:AdR ρ a b)(n:Nat):AdR ρ (addO a n) (b.add n):=by
 rw [add_eq h.spot]
 obtain⟨h1,m,blk,d,h2,rfl⟩:=h
 exact⟨rfl,m,blk,d,h2,by simp [addO,Nat.add_assoc]⟩
theorem AdR.mono{ρ ρ':Env}(hl:Env.le ρ ρ'){a b:Addr}(h:AdR ρ a b):AdR ρ' a b:=by
 obtain⟨h1,m,blk,d,h2,rfl⟩:=h
 exact⟨h1,m,blk,d,hl _ _ h2,rfl⟩
theorem addrA_ok{v:Value}{a:Addr}:addrA v = .ok a ↔ v = .pointer (some a)∧a.spot=none:=by
 unfold addrA
 cases v <;> try simp [no]
 rename_i p
 cases p with
 | none=>simp [no]
 | some b=>
  simp only []
  constructor
  ·intro h;by_cases hb:b.spot=none
   ·simp only [hb,if_true,okk] at h;subst h;exact⟨rfl,hb⟩
   ·simp [hb,no] at h
  ·rintro ⟨h,h'⟩;cases h;simp [h']

theorem cellsAt_ok{h:AH}{r:Nat}{t:TypeId × List Value × Bool × Nat}:cellsAt h r = .ok t ↔ h.objs.get r=some (.cells t.1 t.2.1 t.2.2.1 t.2.2.2):=by
 unfold cellsAt
 split
 ·rename_i ty c p own he
  rw [okk,he]
  constructor
  ·rintro rfl;rfl
  ·intro h;simp at h;obtain⟨h1,h2,h3,h4⟩:=h;obtain⟨a,b,c,d⟩:=t;simp_all
 ·rename_i hn
  rw [no_ok]
  constructor
  ·exact False.elim
  ·intro h;exact hn _ _ _ _ h
theorem mapOf_ok{h:AH}{r:Nat}{t:List MapEntry × Nat × Bool}:mapOf h r = .ok t ↔ h.objs.get r=some (.map t.1 t.2.1 t.2.2):=by
 unfold mapOf
 split
 ·rename_i es c own he
  rw [okk,he]
  constructor
  ·rintro rfl;rfl
  ·intro h;simp at h;obtain⟨h1,h2,h3⟩:=h;obtain⟨a,b,c⟩:=t;simp_all
 ·rename_i hn
  rw [no_ok]
  constructor
  ·exact False.elim
  ·intro h;exact hn _ _ _ h

section heap
variable {P:Program} {ρ:Env} {B:Bd} {h:AH} {w:World}
theorem HR.cells(H:HR η ρ B h w){r:Nat}{ty:TypeId}{c:List Value}{p:Bool}{own:Nat}(hg:h.objs.get r=some (.cells ty c p own)) :
  ∃ b d n C lo hi,ρ r=some (b,d,n)∧w.heap[b]? = some (.cells C ty (lo,hi))∧CR η ρ ty c p own d n C ty lo hi∧(own ≠ 0→B.n≤b):=by
 obtain⟨b,d,n,o,h1,h2,⟨C,ty',lo,hi,rfl,h3⟩,h4⟩:=H.obj _ _ hg
 have:=h3.ty;subst this
 exact⟨b,d,n,C,lo,hi,h1,h2,h3,fun e=>h4 (by simpa [ownO] using e)⟩
theorem HR.map(H:HR η ρ B h w){r:Nat}{es:List MapEntry}{c:Nat}{own:Bool}(hg:h.objs.get r=some (.map es c own)) :
  ∃ b d n E,ρ r=some (b,d,n)∧w.heap[b]? = some (.map E c)∧L2 (ER η ρ) es E.toList∧(own=true→B.n≤b):=by
 obtain⟨b,d,n,o,h1,h2,⟨E,rfl,h3⟩,h4⟩:=H.obj _ _ hg
 exact⟨b,d,n,E,h1,h2,h3,h4⟩
theorem cell_of{b:Nat}{C:Array Value}{ty:TypeId}{fr:Nat × Nat}(hb:w.heap[b]? = some (.cells C ty fr))(o:Nat):w.cell? ⟨b,o,none⟩=C.toList[o]?:=by
 simp [World.cell?,hb]
theorem getC_ok(H:HR η ρ B h w){a b:Addr}{n:Nat}{l:List Value}(hg:getC h a n = .ok l)(hab:AdR ρ a b) :
  ∃ vs,LR η ρ l vs∧vs.length=n∧∀ j v,vs[j]? = some v→w.cell? (b.add j)=some v:=by
 unfold getC at hg
 split at hg
 ·rename_i ty c p own hc
  rw [ite_no',okk] at hg
  obtain⟨⟨hlen,hsp⟩,rfl⟩:=hg
  obtain⟨bb,d,m,C,lo,hi,h1,h2,h3,h4⟩:=H.cells (cellsAt_ok.1 hc)
  obtain⟨_,m',blk,d',h5,rfl⟩:=hab
  rw [h1] at h5;cases h5
  have hsz:C.toList.length=d+m:=h3.size
  have hcl:c.length≤m:=h3.len
  refine⟨(C.toList.drop (d+a.off)).take n,⟨?_,?_⟩,?_,?_⟩
  ·simp only [List.length_take,List.length_drop];omega
  ·intro i v x hv hx
   rw [List.getElem?_take] at hv hx
   split at hv
   ·rename_i hi'
    rw [if_pos hi',List.getElem?_drop] at hx
    rw [List.getElem?_drop] at hv
    obtain⟨y,hy,hvy⟩:=h3.at_ _ _ hv
    rw [show d+a.off+i=d+(a.off+i) by omega,hy] at hx
    cases hx;exact hvy
   ·cases hv
  ·simp only [List.length_take,List.length_drop];omega
  ·intro j v hv
   rw [add_eq rfl,cell_of h2]
   rw [List.getElem?_take] at hv
   split at hv
   ·rw [List.getElem?_drop] at hv;simpa [Nat.add_assoc] using hv
   ·cases hv
 ·cases hg
theorem loadA_ok(H:HR η ρ B h w){t:TypeId}{a b:Addr}{v:Value}(hl:loadA P h t a = .ok v)(hab:AdR ρ a b) :
  ∃ x,(loadVar t b).run P w = .ok x w∧VR η ρ v x:=by
 simp only [loadA,bind_ok] at hl
 obtain⟨g,hg,hl⟩:=hl
 cases g with
 | true=>
  simp only [if_true,bind_ok] at hl
  obtain⟨n,hn,l,hc,hl⟩:=hl
  rw [okk] at hl;subst hl
  obtain⟨vs,h1,h2,h3⟩:=getC_ok H hc hab
  refine⟨.agg vs.toArray,?_,.agg' h1⟩
  simp only [loadVar,Sem.run_bind,run_agg hg,Result.andThen_ok,if_true,run_size hn]
  rw [← h2,run_loadCells_list w b vs h3];rfl
 | false=>
  simp only [if_false,Bool.false_eq_true,bind_ok] at hl
  obtain⟨l,hc,hl⟩:=hl
  obtain⟨vs,h1,h2,h3⟩:=getC_ok H hc hab
  split at hl
  ·rw [okk] at hl;subst hl
   obtain⟨x,m',rfl,hx,_⟩:=h1.inv_cons
   refine⟨x,?_,hx⟩
   have:=h3 0 x rfl
   have hz:b.add 0=b:=by simp [Addr.add]
   rw [hz] at this
   simp [loadVar,run_agg hg,this]
  ·simp [no] at hl
end heap

def wput(w:World)(b:Nat)(o:Obj):World:={ w with heap:=w.heap.setIfInBounds b o }
theorem wput_get(w:World)(b:Nat)(o:Obj)(k:Nat):(wput w b o).heap[k]? = if k=b∧b<w.heap.size then some o else w.heap[k]?:=by
 simp only [wput,Array.getElem?_setIfInBounds]
 by_cases h:b=k
 ·subst h
  by_cases hb:b<w.heap.size
  ·simp [hb]
  ·simp [hb]
 ·have:¬ (k=b):=fun e=>h e.symm
  simp [h,this]
theorem heap_lt{w:World}{b:Nat}{o:Obj}(h:w.heap[b]? = some o):b<w.heap.size:=by
 rcases Nat.lt_or_ge b w.heap.size with h' | h'
 ·exact h'
 ·rw [Array.getElem?_eq_none h'] at h;cases h
theorem setCell_eq{w:World}{b o:Nat}{C:Array Value}{ty:TypeId}{fr:Nat × Nat}(hb:w.heap[b]? = some (.cells C ty fr))(v:Value) :
  w.setCell ⟨b,o,none⟩ v=wput w b (.cells (C.setIfInBounds o v) ty fr):=by
 unfold World.setCell wput
 congr 1
 apply Array.ext_getElem?
 intro k
 rw [Array.getElem?_modify,Array.getElem?_setIfInBounds]
 by_cases h:b=k
 ·subst h
  rw [if_pos rfl,if_pos rfl,hb,if_pos (heap_lt hb)]
  simp
 ·rw [if_neg h,if_neg h]
theorem wput_wput(w:World)(b:Nat)(o o':Obj):wput (wput w b o) b o'=wput w b o':=by
 unfold wput
 congr 1
 apply Array.ext_getElem?
 intro k
 rw [Array.getElem?_setIfInBounds,Array.getElem?_setIfInBounds,Array.getElem?_setIfInBounds,Array.size_setIfInBounds]
 by_cases h:b=k
 ·simp [h]
 ·simp [h]
theorem splice_len(c:List Value)(off:Nat)(vs:List Value)(h:off+vs.length≤c.length):(splice c off vs).length=c.length:=by
 simp only [splice,List.length_append,List.length_take,List.length_drop];omega
theorem splice_get(c:List Value)(off:Nat)(vs:List Value)(h:off+vs.length≤c.length)(k:Nat) :
  (splice c off vs)[k]? = if off≤k∧k<off+vs.length then vs[k - off]? else c[k]?:=by
 have h1:(c.take off).length=off:=by rw [List.length_take];omega
 unfold splice
 by_cases hk:k<off
 ·rw [if_neg (by omega),List.append_assoc,List.getElem?_append_left (by omega),List.getElem?_take,if_pos hk]
 ·by_cases hk2:k<off+vs.length
  ·rw [if_pos (by omega),List.append_assoc,List.getElem?_append_right (by omega),h1,List.getElem?_append_left (by omega)]
  ·rw [if_neg (by omega),List.getElem?_append_right (by rw [List.length_append];omega),List.getElem?_drop]
   congr 1;rw [List.length_append];omega
theorem run_storeCells{P:Program}{ty:TypeId}{lo hi:Nat}{b o:Nat}:∀ (vs:List Value) (i:Nat) (C:Array Value) (w:World),
  w.heap[b]? = some (.cells C ty (lo,hi))→(∀ v ∈ vs,v.oneCell'=true)→o+i+vs.length≤C.toList.length→(∀ j,j<vs.length→¬ (lo≤o+i+j∧o+i+j<hi))→
  ∃ C':Array Value,C'.toList=splice C.toList (o+i) vs∧(storeCells ⟨b,o,none⟩ vs i).run P w = .ok () (wput w b (.cells C' ty (lo,hi)))
 | [],i,C,w,hb,_,_,_=>by
  refine⟨C,by simp [splice],?_⟩
  simp only [storeCells,Sem.run_pure,Result.ok.injEq,true_and]
  unfold wput
  have:w.heap.setIfInBounds b (.cells C ty (lo,hi))=w.heap:=by
   apply Array.ext_getElem?
   intro k
   rw [Array.getElem?_setIfInBounds]
   by_cases h:b=k
   ·subst h;rw [if_pos rfl,if_pos (heap_lt hb),hb]
   ·rw [if_neg h]
  rw [this]
 | v :: vs,i,C,w,hb,h1,h2,h3=>by
  have hl:o+i<C.toList.length:=by simp only [List.length_cons] at h2;omega
  have e1:(⟨b,o,none⟩:Addr).add i=⟨b,o+i,none⟩:=add_eq rfl i
  have hc:w.cell? ⟨b,o+i,none⟩=some C.toList[o+i]:=by rw [cell_of hb];exact List.getElem?_eq_getElem hl
  have hf:w.frozen? ⟨b,o+i,none⟩=false:=by
   have:=h3 0 (by simp)
   simp only [Nat.add_zero] at this
   simp only [World.frozen?,hb]
   simpa using this
  have hb':(wput w b (.cells (C.setIfInBounds (o+i) v) ty (lo,hi))).heap[b]? = some (.cells (C.setIfInBounds (o+i) v) ty (lo,hi)):=by
   rw [wput_get,if_pos ⟨rfl,heap_lt hb⟩]
  obtain⟨C',hC,hr⟩:=run_storeCells (P:=P) (o:=o) vs (i+1) (C.setIfInBounds (o+i) v) _ hb' (fun x hx=>h1 x (by simp [hx]))
   (by simp only [List.length_cons] at h2;simp only [Array.toList_setIfInBounds,List.length_set];omega)
   (fun j hj=>by have:=h3 (j+1) (by simp;omega);rwa [show o+i+(j+1)=o+(i+1)+j by omega] at this)
  refine⟨C',?_,?_⟩
  ·rw [hC]
   simp only [Array.toList_setIfInBounds]
   apply List.ext_getElem?
   intro k
   simp only [List.length_cons] at h2
   rw [splice_get _ _ _ (by rw [List.length_set];omega),splice_get _ _ _ (by simp only [List.length_cons];omega)]
   simp only [List.length_cons]
   by_cases hk:k=o+i
   ·subst hk
    rw [if_neg (by omega),if_pos (by omega),List.getElem?_set_self (by omega)];simp
   ·by_cases hk2:o+(i+1)≤k∧k<o+(i+1)+vs.length
    ·rw [if_pos hk2,if_pos (by omega),show k - (o+i)=(k - (o+(i+1)))+1 by omega];rfl
    ·rw [if_neg hk2,if_neg (by omega),List.getElem?_set_ne (fun e=>hk e.symm)]
  ·simp only [storeCells,Sem.run_bind,e1]
   rw [run_store P w _ _ _ (h1 v (by simp)),hc]
   simp only [hf,Bool.false_eq_true,if_false,Result.andThen_ok]
   rw [setCell_eq hb,hr,wput_wput]
end Go.Ev

namespace Go.Ev
variable {η:Nat→Value}
def GR(P:Program)(ρ:Env):Prop:=∀ g,g≤P.globals.size→∃ n,ρ g=some (g,0,n)
theorem GR.mono{P:Program}{ρ ρ':Env}(h:GR P ρ)(hl:Env.le ρ ρ'):GR P ρ':=fun g hg=>let ⟨n,e⟩:=h g hg;⟨n,hl _ _ e⟩

section inv
variable {ρ:Env} {x:Value}
theorem VR.bool_inv{b:Bool}(h:VR η ρ (.bool b) x):x = .bool b:=by cases h;rfl
theorem VR.int_inv{k:IntKind}{n:Int}(h:VR η ρ (.int k n) x):x = .int k n:=by cases h;rfl
theorem VR.string_inv{s:ByteArray}(h:VR η ρ (.string s) x):x = .string s:=by cases h;rfl
theorem VR.nilIface_inv(h:VR η ρ .nilIface x):x = .nilIface:=by cases h;rfl
theorem VR.nilFunc_inv(h:VR η ρ .nilFunc x):x = .nilFunc:=by cases h;rfl
theorem VR.ptr0_inv(h:VR η ρ (.pointer none) x):x = .pointer none:=by cases h;rfl
theorem VR.iface_inv{t:TypeId}{v:Value}(h:VR η ρ (.iface t v) x):∃ y,x = .iface t y∧VR η ρ v y:=by cases h with | iface _ h=>exact⟨_,rfl,h⟩
theorem VR.agg_inv{a:Array Value}(h:VR η ρ (.agg a) x):∃ c,x = .agg c∧LR η ρ a.toList c.toList:=by cases h with | agg h1 h2=>exact⟨_,rfl,h1,h2⟩
theorem VR.tuple_inv{a:Array Value}(h:VR η ρ (.tuple a) x):∃ c,x = .tuple c∧LR η ρ a.toList c.toList:=by cases h with | tuple h1 h2=>exact⟨_,rfl,h1,h2⟩
theorem VR.map0_inv(h:VR η ρ (.map none) x):x = .map none:=by cases h;rfl
theorem VR.map_inv{r:Nat}(h:VR η ρ (.map (some r)) x):∃ b d n,x = .map (some b)∧ρ r=some (b,d,n):=by cases h with | map h=>exact⟨_,_,_,rfl,h⟩
theorem VR.func_inv{f:Fn}{a b:Array Value}(h:VR η ρ (.func f a b) x):∃ g c d,x = .func g c d∧FnR ρ f g∧LR η ρ a.toList c.toList∧LR η ρ b.toList d.toList:=by
 cases h with | func hf h1 h2 h3 h4=>exact⟨_,_,_,rfl,hf,⟨h1,h3⟩,⟨h2,h4⟩⟩
theorem VR.func_mk{f g:Fn}{a b c d:Array Value}(hf:FnR ρ f g)(h1:LR η ρ a.toList c.toList)(h2:LR η ρ b.toList d.toList):VR η ρ (.func f a b) (.func g c d):=.func hf h1.len h2.len h1.at_ h2.at_
theorem VR.slice_inv{a:Option Addr}{l c:Nat}(h:VR η ρ (.slice a l c) x):∃ a' c',x = .slice a' l c'∧
  ((a=none∧a'=none∧isU c=false∧c'=c)∨(∃ p q,a=some p∧a'=some q∧AdR ρ p q∧isU c=false∧c'=c)∨
   (∃ p q s b d n,a=some p∧a'=some q∧AdR ρ p q∧c=capU s∧ρ p.block=some (b,d,n)∧0<s∧p.off+c' * s=n∧l≤c'∧c'<capB)∨(a=none∧l=0∧isE c=true∧(c=capF→a'.isSome=true))):=by
 cases h with
 | slice0 l c hc=>exact⟨_,_,rfl,.inl ⟨rfl,rfl,hc,rfl⟩⟩
 | slice l c h hc=>exact⟨_,_,rfl,.inr (.inl ⟨_,_,rfl,rfl,⟨rfl,_,_,_,h,rfl⟩,hc,rfl⟩)⟩
 | sliceU l s c h hs hc hl hb=>exact⟨_,_,rfl,.inr (.inr (.inl ⟨_,_,_,_,_,_,rfl,rfl,⟨rfl,_,_,_,h,rfl⟩,rfl,h,hs,hc,hl,hb⟩))⟩
 | sliceE a c=>exact⟨_,_,rfl,.inr (.inr (.inr ⟨rfl,rfl,rfl,fun e=>absurd e (by decide)⟩))⟩
 | sliceF a c=>exact⟨_,_,rfl,.inr (.inr (.inr ⟨rfl,rfl,rfl,fun _=>rfl⟩))⟩
theorem VR.slice_inv3{a:Option Addr}{l c:Nat}(h:VR η ρ (.slice a l c) x)(hn:a.isSome=true∨¬ isE c=true):∃ a' c',x = .slice a' l c'∧
  ((a=none∧a'=none∧isU c=false∧c'=c)∨(∃ p q,a=some p∧a'=some q∧AdR ρ p q∧isU c=false∧c'=c)∨
   (∃ p q s b d n,a=some p∧a'=some q∧AdR ρ p q∧c=capU s∧ρ p.block=some (b,d,n)∧0<s∧p.off+c' * s=n∧l≤c'∧c'<capB)):=by
 obtain⟨a',c',e,k⟩:=h.slice_inv
 refine⟨a',c',e,?_⟩
 rcases k with k | k | k | ⟨k1,_,k2,_⟩
 ·exact .inl k
 ·exact .inr (.inl k)
 ·exact .inr (.inr k)
 ·subst k1;rcases hn with hn | hn
  ·cases hn
  ·exact absurd k2 hn
theorem VR.slice_mk{a b:Addr}{l c:Nat}(h:AdR ρ a b)(hc:isU c=false):VR η ρ (.slice (some a) l c) (.slice (some b) l c):=by
 obtain⟨h1,n,blk,d,h2,rfl⟩:=h
 obtain⟨r,o,s⟩:=a
 simp only at h1;subst h1
 exact .slice l c h2 hc
theorem isU_capE:isU capE=true:=by simp [isU,capE]
theorem isE_or{c:Nat}(h:isE c=true):c=capE∨c=capF:=by
 unfold isE at h;rw [Bool.or_eq_true] at h
 exact h.imp Nat.eq_of_beq_eq_true Nat.eq_of_beq_eq_true
theorem isU_isE{c:Nat}(h:isE c=true):isU c=true:=by
 rcases isE_or h with rfl | rfl
 ·exact isU_capE
 ·simp [isU,capF,capB]
theorem VR.sliceM{η:Nat→Value}{ρ:Env}{a:Option Addr}{c c':Nat}(h:isE c=true)(hs:c=capF→a.isSome=true):VR η ρ (.slice none 0 c) (.slice a 0 c'):=by
 rcases isE_or h with rfl | rfl
 ·exact .sliceE _ _
 ·cases a with
  | none=>have:=hs rfl;cases this
  | some a=>exact .sliceF _ _
theorem isU_capU(s:Nat):isU (capU s)=true:=by simp [isU,capU]
end inv
theorem intOfA_ok{v:Value}{i:Int}:intOfA v = .ok i ↔ ∃ k,v = .int k i:=by
 cases v <;> simp [intOfA,no]
theorem byteArray_ext{a b:ByteArray}(h:a.data.toList=b.data.toList):a=b:=by
 obtain⟨⟨l⟩⟩:=a;obtain⟨⟨m⟩⟩:=b;simp only at h;subst h;rfl

section
variable {P:Program} {ρ:Env} {B:Bd} {h:AH} {w:World}
theorem partA_ok{t:TypeId}{cs:List Value}{cs':Array Value}{off:Nat}{v:Value}(hp:partA P t cs off = .ok v)(hc:LR η ρ cs cs'.toList) :
  ∃ x,(part t cs' off).run P w = .ok x w∧VR η ρ v x:=by
 simp only [partA,bind_ok] at hp
 obtain⟨b,hb,hp⟩:=hp
 cases b with
 | true=>
  simp only [if_true,bind_ok] at hp
  obtain⟨n,hn,hp⟩:=hp
  rw [okk] at hp;subst hp
  refine⟨.agg (cs'.extract off (off+n)),by simp [part,run_agg hb,run_size hn],?_⟩
  have:=VR.agg' ((hc.drop off).take n)
  have e:((cs'.toList.drop off).take n).toArray=cs'.extract off (off+n):=by
   apply Array.ext'
   simp [List.extract]
  rw [e] at this;exact this
 | false=>
  simp only [if_false,Bool.false_eq_true,orNo_ok] at hp
  obtain⟨x,hx,hv⟩:=hc.get hp
  refine⟨x,?_,hv⟩
  have:cs'[off]? = some x:=by simpa using hx
  simp [part,run_agg hb,this]

theorem boundA_ok{x x':Value}{y i:Nat}{code:BoundsCode}(hb:boundA x y = .ok i)(hx:VR η ρ x x'){Y:Nat}(hY:y≤Y):(Instr.sliceBound x' Y code).run P w = .ok i w∧i≤y:=by
 simp only [boundA,bind_ok,intOfA_ok] at hb
 obtain⟨n,⟨k,rfl⟩,hb⟩:=hb
 rw [ite_no',okk] at hb
 obtain⟨hn,rfl⟩:=hb
 have:=hx.int_inv;subst this
 refine⟨?_,by omega⟩
 simp only [Instr.sliceBound,asIntOf,pure_bind]
 rw [if_pos (by omega)];rfl
def OpR(η:Nat→Value)(ρ:Env):Option Value→Option Value→Prop
 | none,none=>True
 | some v,some x=>VR η ρ v x
 | _,_=>False
theorem boundsA_ok{isS:Bool}{len cap l hh m:Nat}{lo hi mx lo' hi' mx':Option Value}(hb:boundsA len cap lo hi mx = .ok (l,hh,m))(h1:OpR η ρ lo lo')(h2:OpR η ρ hi hi')(h3:OpR η ρ mx mx') :
  (∀ Cap,cap≤Cap→(Instr.sliceBounds isS len Cap lo' hi' mx').run P w = .ok (l,hh,if mx=none then Cap else m) w)∧(len≤cap→l≤hh∧hh≤m∧m≤cap):=by
 simp only [boundsA,bind_ok] at hb
 obtain⟨m0,hm,h0,hh0,l0,hl0,hb⟩:=hb
 rw [okk] at hb
 injection hb with e1 e2;injection e2 with e2 e3;subst e1;subst e2;subst e3
 cases mx with
 | none=>
  cases mx' with
  | some v=>exact absurd h3 (by simp [OpR])
  | none=>
   simp only [okk] at hm;subst hm
   cases hi with
   | none=>
    cases hi' with
    | some v=>exact absurd h2 (by simp [OpR])
    | none=>
     simp only [okk] at hh0;subst hh0
     cases lo with
     | none=>
      cases lo' with
      | some v=>exact absurd h1 (by simp [OpR])
      | none=>simp only [okk] at hl0;subst hl0;exact⟨fun Cap hC=>by simp [Instr.sliceBounds],fun hlc=>by omega⟩
     | some v=>
      cases lo' with
      | none=>exact absurd h1 (by simp [OpR])
      | some v'=>
       have k:=fun code=>boundA_ok (P:=P) (w:=w) (code:=code) hl0 h1 (Nat.le_refl _)
       exact⟨fun Cap hC=>by simp [Instr.sliceBounds,(k _).1],fun hlc=>by have:=(k .sliceB).2;omega⟩
   | some u=>
    cases hi' with
    | none=>exact absurd h2 (by simp [OpR])
    | some u'=>
     have q:=fun Cap hC code=>boundA_ok (P:=P) (w:=w) (code:=code) (Y:=Cap) hh0 h2 hC
     cases lo with
     | none=>
      cases lo' with
      | some v=>exact absurd h1 (by simp [OpR])
      | none=>simp only [okk] at hl0;subst hl0;exact⟨fun Cap hC=>by simp [Instr.sliceBounds,(q Cap hC _).1],fun hlc=>by have:=(q _ (Nat.le_refl _) .sliceB).2;omega⟩
     | some v=>
      cases lo' with
      | none=>exact absurd h1 (by simp [OpR])
      | some v'=>
       have k:=fun code=>boundA_ok (P:=P) (w:=w) (code:=code) hl0 h1 (Nat.le_refl _)
       exact⟨fun Cap hC=>by simp [Instr.sliceBounds,(q Cap hC _).1,(k _).1],fun hlc=>by have:=(k .sliceB).2;have:=(q _ (Nat.le_refl _) .sliceB).2;omega⟩
 | some y=>
  cases mx' with
  | none=>exact absurd h3 (by simp [OpR])
  | some y'=>
   have p:=fun Cap hC code=>boundA_ok (P:=P) (w:=w) (code:=code) (Y:=Cap) hm h3 hC
   cases hi with
   | none=>simp [no] at hh0
   | some u=>
    cases hi' with
    | none=>exact absurd h2 (by simp [OpR])
    | some u'=>
     have q:=fun code=>boundA_ok (P:=P) (w:=w) (code:=code) hh0 h2 (Nat.le_refl _)
     cases lo with
     | none=>
      cases lo' with
      | some v=>exact absurd h1 (by simp [OpR])
      | none=>simp only [okk] at hl0;subst hl0;exact⟨fun Cap hC=>by simp [Instr.sliceBounds,(p Cap hC _).1,(q _).1],fun hlc=>by have:=(q .sliceB).2;have:=(p cap (Nat.le_refl _) .sliceB).2;omega⟩
     | some v=>
      cases lo' with
      | none=>exact absurd h1 (by simp [OpR])
      | some v'=>
       have k:=fun code=>boundA_ok (P:=P) (w:=w) (code:=code) hl0 h1 (Nat.le_refl _)
       exact⟨fun Cap hC=>by simp [Instr.sliceBounds,(p Cap hC _).1,(q _).1,(k _).1],fun hlc=>by have:=(k .sliceB).2;have:=(q .sliceB).2;have:=(p cap (Nat.le_refl _) .sliceB).2;omega⟩
theorem strL_eq(s:ByteArray)(l hh:Nat):(ByteArray.mk ⟨(s.data.toList.drop l).take (hh - l)⟩)=s.extract l hh:=by
 apply byteArray_ext
 rw [ByteArray.data_extract]
 simp [List.extract]
theorem mkS_ok{a:Option Addr}{l c:Nat}{r:Value}:mkS a l c = .ok r ↔ isU c=false∧ .slice a l c=r:=by
 unfold mkS
 rw [ite_no,okk]
 simp
theorem sliceA_ok{t:TypeId}{v x r:Value}{lo hi mx lo' hi' mx':Option Value}(hs:sliceA P t v lo hi mx = .ok r)(hx:VR η ρ v x)(h1:OpR η ρ lo lo')(h2:OpR η ρ hi hi')(h3:OpR η ρ mx mx') :
  ∃ y,(Instr.sliceAt t x lo' hi' mx').run P w = .ok y w∧VR η ρ r y:=by
 simp only [sliceA,bind_ok,undA_ok] at hs
 obtain⟨d,hd,hs⟩:=hs
 split at hs
 ·
  rename_i s
  have:=hx.string_inv;subst this
  rw [ite_no] at hs
  obtain⟨hm,hs⟩:=hs
  cases mx with
  | some v=>simp at hm
  | none=>
   cases mx' with
   | some v=>exact absurd h3 (by simp [OpR])
   | none=>
    simp only [bind_ok] at hs
    obtain⟨⟨l,hh,m⟩,hb,hs⟩:=hs
    simp only [okk] at hs;subst hs
    have:=(boundsA_ok (P:=P) (w:=w) (isS:=false) hb h1 h2 h3).1 _ (Nat.le_refl _)
    refine⟨.string (s.extract l hh),?_,?_⟩
    ·simp only [Instr.sliceAt,Sem.run_bind,run_und hd,Result.andThen_ok,Instr.slice]
     simp [this]
    ·rw [strL,strL_eq];exact .string _
 ·
  rename_i elem a len cap
  simp only [bind_ok] at hs
  obtain⟨size,hsz,hs⟩:=hs
  obtain⟨a',c',rfl,hc⟩:=hx.slice_inv
  by_cases hE:a.isNone=true∧isE cap=true
  ·rw [if_pos hE] at hs
   obtain⟨hN,hcE⟩:=hE
   rcases hc with⟨_,_,e,_⟩ | ⟨_,_,e,_⟩ | ⟨_,_,s,_,_,_,e,_⟩ | ⟨rfl,rfl,_,hF⟩
   ·rw [isU_isE hcE] at e;cases e
   ·rw [e] at hN;cases hN
   ·rw [e] at hN;cases hN
   rw [ite_no] at hs
   obtain⟨hmx,hs⟩:=hs
   simp only [bind_ok,okk] at hs
   obtain⟨⟨l,hh,m⟩,hb,rfl⟩:=hs
   obtain⟨k1,k2⟩:=boundsA_ok (P:=P) (w:=w) (isS:=true) hb h1 h2 h3
   have k1:=k1 c' (Nat.zero_le _)
   obtain⟨k3,k4,k5⟩:=k2 (Nat.le_refl _)
   have hz:hh - l=0:=by omega
   refine⟨_,by simp only [Instr.sliceAt,Sem.run_bind,run_und hd,Result.andThen_ok,Instr.slice,k1,run_size hsz];rfl,?_⟩
   rw [hz]
   refine VR.sliceM hcE fun e=>?_
   have:=hF e
   split <;> (split <;> first | exact this | (rw [Option.isSome_map];exact this))
  rw [if_neg hE] at hs
  by_cases hU:isU cap=true
  ·rw [if_pos hU] at hs
   rcases hc with⟨_,_,e,_⟩ | ⟨_,_,_,_,_,e,_⟩ | ⟨p,q,s,b,dd,n,rfl,rfl,hpq,rfl,hρ,hs0,hn,hl,hcb⟩ | ⟨e',_,e⟩
   ·rw [hU] at e;cases e
   ·rw [hU] at e;cases e
   rotate_left
   ·exact absurd ⟨by rw [e'];rfl,e.1⟩ hE
   simp only [bind_ok] at hs
   obtain⟨⟨l,hh,m⟩,hb,hs⟩:=hs
   simp only [] at hs
   rw [ite_no] at hs
   obtain⟨hcap,hs⟩:=hs
   have hss:s=size:=by
    simp only [not_or,Decidable.not_not,capU] at hcap
    omega
   subst hss
   obtain⟨k1,k2⟩:=boundsA_ok (P:=P) (w:=w) (isS:=true) hb h1 h2 h3
   have k1:=k1 c' hl
   obtain⟨k3,k4,k5⟩:=k2 (Nat.le_refl _)
   cases mx with
   | some y=>
    simp only [Option.isSome_some,if_true,mkS_ok] at hs;obtain⟨hno,rfl⟩:=hs
    simp only [reduceCtorEq,if_false] at k1
    refine⟨_,by simp only [Instr.sliceAt,Sem.run_bind,run_und hd,Result.andThen_ok,Instr.slice,k1,run_size hsz];rfl,?_⟩
    by_cases hml:m=l
    ·rw [if_pos hml,if_pos hml];exact .slice_mk hpq hno
    ·rw [if_neg hml,if_neg hml];exact .slice_mk (hpq.add _) hno
   | none=>
    simp only [Option.isSome_none,Bool.false_eq_true,if_false] at hs
    simp only [if_true] at k1
    by_cases hlt:l<len∨l=0
    case neg=>
     rw [if_neg hlt,okk] at hs
     subst hs
     have hz:hh - l=0:=by simp only [not_or] at hlt;omega
     refine⟨_,by simp only [Instr.sliceAt,Sem.run_bind,run_und hd,Result.andThen_ok,Instr.slice,k1,run_size hsz];rfl,?_⟩
     rw [hz]
     refine VR.sliceM rfl fun _=>?_
     split <;> rfl
    rw [if_pos hlt,okk] at hs
    subst hs
    refine⟨_,by simp only [Instr.sliceAt,Sem.run_bind,run_und hd,Result.andThen_ok,Instr.slice,k1,run_size hsz];rfl,?_⟩
    obtain⟨hsp,n',blk,d',hρ',rfl⟩:=hpq
    rw [hρ] at hρ';cases hρ'
    rw [show(if c'=l then some (⟨b,dd+p.off,none⟩:Addr) else(some (⟨b,dd+p.off,none⟩:Addr)).map fun x=>x.add (l * s))=some ⟨b,dd+p.off+l * s,none⟩ from by
     by_cases hml:c'=l
     ·have:l=0:=by omega
      rw [if_pos hml,this,Nat.zero_mul,Nat.add_zero]
     ·rw [if_neg hml,Option.map_some,add_eq rfl]]
    have:=VR.sliceU (η:=η) (ρ:=ρ) (r:=p.block) (o:=p.off+l * s) (b:=b) (d:=dd) (n:=n) (hh - l) s (c' - l) hρ hs0 (by rw [Nat.sub_mul];have:l * s≤c' * s:=Nat.mul_le_mul_right _ (by omega);omega) (by omega) (by omega)
    rw [show dd+(p.off+l * s)=dd+p.off+l * s by omega] at this
    exact this
  ·rw [if_neg hU] at hs
   have hU':isU cap=false:=by simpa using hU
   simp only [bind_ok] at hs
   obtain⟨⟨l,hh,m⟩,hb,hs⟩:=hs
   simp only [mkS_ok] at hs;obtain⟨hno,rfl⟩:=hs
   obtain⟨k1,k2⟩:=boundsA_ok (P:=P) (w:=w) (isS:=true) hb h1 h2 h3
   have hcap:c'=cap:=by
    rcases hc with⟨_,_,_,e⟩ | ⟨_,_,_,_,_,_,e⟩ | ⟨_,_,_,_,_,_,_,_,_,rfl,_⟩ | ⟨e',_,e⟩
    ·exact e
    ·exact e
    ·rw [isU_capU] at hU';cases hU'
    ·exact absurd ⟨by rw [e'];rfl,e.1⟩ hE
   subst hcap
   have k1:=k1 c' (Nat.le_refl _)
   have hm:(if mx=none then c' else m)=m:=by
    split
    ·rename_i e;subst e;simp only [boundsA,bind_ok,okk] at hb;obtain⟨m0,hm0,_,_,_,_,hb⟩:=hb;injection hb with _ hb;injection hb with _ hb;rw [← hb];exact hm0
    ·rfl
   rw [hm] at k1
   refine⟨_,by simp only [Instr.sliceAt,Sem.run_bind,run_und hd,Result.andThen_ok,Instr.slice,k1,run_size hsz];rfl,?_⟩
   rcases hc with⟨rfl,rfl,_,_⟩ | ⟨p,q,rfl,rfl,hpq,_,_⟩ | ⟨_,_,_,_,_,_,_,_,_,rfl,_⟩ | ⟨e',_,e⟩
   ·simp only [Option.map_none,ite_self];exact .slice0 _ _ hno
   ·by_cases hml:m=l
    ·rw [if_pos hml,if_pos hml];exact .slice_mk hpq hno
    ·rw [if_neg hml,if_neg hml];exact .slice_mk (hpq.add _) hno
   ·rw [isU_capU] at hU';cases hU'
   ·exact absurd ⟨by rw [e'];rfl,e.1⟩ hE
 ·
  rename_i arr a
  simp only [bind_ok,undA_ok] at hs
  obtain⟨d2,hd2,hs⟩:=hs
  split at hs
  ·rename_i n elem
   simp only [bind_ok] at hs
   obtain⟨⟨l,hh,m⟩,hb,size,hsz,hs⟩:=hs
   simp only [mkS_ok] at hs;obtain⟨hno,rfl⟩:=hs
   obtain⟨q,rfl,hpq⟩:=hx.ptr_inv
   obtain⟨k1,k2⟩:=boundsA_ok (P:=P) (w:=w) (isS:=false) hb h1 h2 h3
   have k1:=k1 n (Nat.le_refl _)
   have hm:(if mx=none then n else m)=m:=by
    split
    ·rename_i e;subst e;simp only [boundsA,bind_ok,okk] at hb;obtain⟨m0,hm0,_,_,_,_,hb⟩:=hb;injection hb with _ hb;injection hb with _ hb;rw [← hb];exact hm0
    ·rfl
   rw [hm] at k1
   refine⟨_,by simp only [Instr.sliceAt,Sem.run_bind,run_und hd,run_und hd2,Result.andThen_ok,Instr.slice,asAddr,Sem.run_pure,k1,run_size hsz];rfl,?_⟩
   by_cases hml:m=l
   ·rw [if_pos hml,if_pos hml];exact .slice_mk hpq hno
   ·rw [if_neg hml,if_neg hml];exact .slice_mk (hpq.add _) hno
  ·simp [no] at hs
 ·
  rename_i n elem a
  simp only [bind_ok] at hs
  obtain⟨⟨l,hh,m⟩,hb,size,hsz,hs⟩:=hs
  simp only [mkS_ok] at hs;obtain⟨hno,rfl⟩:=hs
  obtain⟨q,rfl,hpq⟩:=hx.ptr_inv
  obtain⟨k1,k2⟩:=boundsA_ok (P:=P) (w:=w) (isS:=false) hb h1 h2 h3
  have k1:=k1 n (Nat.le_refl _)
  have hm:(if mx=none then n else m)=m:=by
   split
   ·rename_i e;subst e;simp only [boundsA,bind_ok,okk] at hb;obtain⟨m0,hm0,_,_,_,_,hb⟩:=hb;injection hb with _ hb;injection hb with _ hb;rw [← hb];exact hm0
   ·rfl
  rw [hm] at k1
  refine⟨_,by simp only [Instr.sliceAt,Sem.run_bind,run_und hd,Result.andThen_ok,Instr.sureAddr,Sem.run_pure,k1,run_size hsz];rfl,?_⟩
  by_cases hml:m=l
  ·rw [if_pos hml,if_pos hml];exact .slice_mk hpq hno
  ·rw [if_neg hml,if_neg hml];exact .slice_mk (hpq.add _) hno
 ·simp [no] at hs
end
end Go.Ev

namespace Go.Ev
variable {η:Nat→Value}
section
variable {P:Program} {ρ:Env} {B:Bd} {h:AH} {w:World}
theorem toList_bytes(a b:ByteArray):(a == b)=(a.data.toList == b.data.toList):=by
 rw [beq_toListBytes,ByteArray.toList_eq,ByteArray.toList_eq]
theorem eqAddr_ok(H:HR η ρ B h w){a b a' b':Addr}{r:Bool}(he:eqAddr h a b = .ok r)(ha:AdR ρ a a')(hb:AdR ρ b b'):(sameAddr a' b').run P w = .ok r w:=by
 unfold eqAddr at he
 rw [ite_no'] at he
 obtain⟨⟨sa,sb⟩,he⟩:=he
 obtain⟨_,n,blk,d,h2,rfl⟩:=ha
 obtain⟨_,n',blk',d',h2',rfl⟩:=hb
 by_cases hbl:a.block=b.block
 ·rw [if_pos hbl,okk] at he;subst he
  rw [hbl,h2'] at h2;cases h2
  simp only [sameAddr,beq_self_eq_true,if_true]
  simp only [Sem.run_pure,Result.ok.injEq,and_true]
  by_cases ho:a.off=b.off
  ·simp [ho]
  ·have:¬ (d+a.off=d+b.off):=by omega
   rw [show(a.off == b.off)=false from by simpa using ho]
   rw [beq_eq_false_iff_ne]
   intro hc;injection hc;omega
 ·rw [if_neg hbl] at he
  split at he
  ·rename_i c p q1 c' p' q2 hc1 hc2
   rw [ite_no',okk] at he
   obtain⟨hp,rfl⟩:=he
   simp only [Bool.and_eq_true] at hp
   obtain⟨b1,d1,n1,C1,lo1,hi1,e1,f1,g1,_⟩:=H.cells (cellsAt_ok.1 hc1)
   obtain⟨b2,d2,n2,C2,lo2,hi2,e2,f2,g2,_⟩:=H.cells (cellsAt_ok.1 hc2)
   rw [h2] at e1;cases e1
   rw [h2'] at e2;cases e2
   have hne:blk ≠ blk':=fun e=>hbl (by subst e;exact H.uni (cellsAt_ok.1 hc1) (cellsAt_ok.1 hc2) h2 h2' (by simp [shO,hp.1.1.2]))
   obtain⟨rfl,rfl,_,_⟩:=g1.plain hp.1.1.1
   obtain⟨rfl,rfl,_,_⟩:=g2.plain hp.1.1.2
   have fz1:∀ o,w.frozen? ⟨blk,o,none⟩=false:=fun o=>by simp [World.frozen?,f1]
   have fz2:∀ o,w.frozen? ⟨blk',o,none⟩=false:=fun o=>by simp [World.frozen?,f2]
   obtain⟨T1,s1⟩:∃ T,w.shape? blk=some (T,C1.size):=⟨_,by simp only [World.shape?,f1];rfl⟩
   obtain⟨T2,s2⟩:∃ T,w.shape? blk'=some (T,C2.size):=⟨_,by simp only [World.shape?,f2];rfl⟩
   simp only [sameAddr]
   rw [if_neg (by simpa using hne)]
   simp [fz1,fz2,s1,s2,noView,viewAt,mayBeOne,stringish]
  ·simp [no] at he
 
theorem eqFields_ok{d:Nat}(ih:∀ (t:TypeId) (x y x' y':Value) (r:Bool),eqA P h d t x y = .ok r→VR η ρ x x'→VR η ρ y y'→(Op.equalIn d t x' y').run P w = .ok r w)
  {xs ys:List Value} {xs' ys':Array Value} (hx:LR η ρ xs xs'.toList) (hy:LR η ρ ys ys'.toList):∀ (fs:List Field) (r:Bool),eqFields P (eqA P h d) xs ys fs = .ok r→(Op.eqFields d xs' ys' fs).run P w = .ok r w
 | [],r,he=>by
  simp only [eqFields,okk] at he;subst he;rfl
 | f :: fs,r,he=>by
  simp only [eqFields] at he
  by_cases hn:f.name = "_"
  ·rw [if_pos hn] at he
   simp only [Op.eqFields]
   rw [if_neg (by simpa using hn)]
   exact eqFields_ok ih hx hy fs r he
  ·rw [if_neg hn] at he
   simp only [bind_ok] at he
   obtain⟨a,ha,b,hb,r1,hr1,he⟩:=he
   obtain⟨a',ha',va⟩:=partA_ok (P:=P) (w:=w) ha hx
   obtain⟨b',hb',vb⟩:=partA_ok (P:=P) (w:=w) hb hy
   have:=ih _ _ _ _ _ _ hr1 va vb
   simp only [Op.eqFields]
   rw [if_pos (by simpa using hn)]
   simp only [Sem.run_bind,ha',hb',this,Result.andThen_ok]
   cases r1 with
   | true=>simp only [if_true] at he;simpa using eqFields_ok ih hx hy fs r he
   | false=>simp only [Bool.false_eq_true,if_false,okk] at he;subst he;simp
set_option maxHeartbeats 2000000 in
theorem eqA_ok(H:HR η ρ B h w):∀ (d:Nat) (t:TypeId) (x y x' y':Value) (r:Bool),eqA P h d t x y = .ok r→VR η ρ x x'→VR η ρ y y'→(Op.equalIn d t x' y').run P w = .ok r w
 | 0,t,x,y,x',y',r,he,_,_=>by simp [eqA,no] at he
 | d+1,t,x,y,x',y',r,he,hx,hy=>by
  simp only [eqA,bind_ok,undA_ok] at he
  obtain⟨td,ht,he⟩:=he
  split at he
  ·have:=hx.bool_inv;have:=hy.bool_inv;subst_vars
   rw [okk] at he;subst he
   (simp only [Op.equalIn,Sem.run_bind,run_und ht,Result.andThen_ok];rfl)
  ·have:=hx.int_inv;have:=hy.int_inv;subst_vars
   rw [ite_no',okk] at he
   obtain⟨hk,rfl⟩:=he
   simp only [Op.equalIn,Sem.run_bind,run_und ht,Result.andThen_ok];rw [if_pos hk];rfl
  ·have:=hx.string_inv;have:=hy.string_inv;subst_vars
   rw [okk] at he;subst he
   simp only [Op.equalIn,Sem.run_bind,run_und ht,Result.andThen_ok,toList_bytes];rfl
  ·have:=hx.ptr0_inv;subst this
   rw [okk] at he;subst he
   rename_i b
   cases b with
   | none=>have:=hy.ptr0_inv;subst this;(simp only [Op.equalIn,Sem.run_bind,run_und ht,Result.andThen_ok];rfl)
   | some b=>obtain⟨q,rfl,_⟩:=hy.ptr_inv;(simp only [Op.equalIn,Sem.run_bind,run_und ht,Result.andThen_ok];rfl)
  ·have:=hy.ptr0_inv;subst this
   rw [okk] at he;subst he
   rename_i b hb
   cases b with
   | none=>exact(hb rfl).elim
   | some b=>obtain⟨q,rfl,_⟩:=hx.ptr_inv;(simp only [Op.equalIn,Sem.run_bind,run_und ht,Result.andThen_ok];rfl)
  ·obtain⟨p,rfl,hp⟩:=hx.ptr_inv
   obtain⟨q,rfl,hq⟩:=hy.ptr_inv
   simp only [bind_ok] at he
   obtain⟨n,hn,he⟩:=he
   rw [ite_no'] at he
   obtain⟨hn0,he⟩:=he
   have:=eqAddr_ok (P:=P) H he hp hq
   simp only [Op.equalIn,Sem.run_bind,run_und ht,Result.andThen_ok,run_size hn]
   rw [if_pos hn0]
   exact this
  ·have:=hx.nilIface_inv;have:=hy.nilIface_inv;subst_vars
   rw [okk] at he;subst he
   (simp only [Op.equalIn,Sem.run_bind,run_und ht,Result.andThen_ok];rfl)
  ·have:=hx.nilIface_inv;subst this
   obtain⟨y1,rfl,_⟩:=hy.iface_inv
   rw [okk] at he;subst he
   (simp only [Op.equalIn,Sem.run_bind,run_und ht,Result.andThen_ok];rfl)
  ·have:=hy.nilIface_inv;subst this
   obtain⟨y1,rfl,_⟩:=hx.iface_inv
   rw [okk] at he;subst he
   (simp only [Op.equalIn,Sem.run_bind,run_und ht,Result.andThen_ok];rfl)
  ·obtain⟨x1,rfl,hx1⟩:=hx.iface_inv
   obtain⟨y1,rfl,hy1⟩:=hy.iface_inv
   rename_i tx vx ty vy
   by_cases htt:tx=ty
   ·rw [if_neg (by simpa using htt)] at he
    simp only [bind_ok,infoA_ok] at he
    obtain⟨i,hi,he⟩:=he
    rw [ite_no] at he
    obtain⟨hcmp,he⟩:=he
    have:=eqA_ok H d tx vx vy x1 y1 r he hx1 hy1
    simp only [Op.equalIn,Sem.run_bind,run_und ht,Result.andThen_ok]
    rw [if_neg (by simpa using htt)]
    simp only [Sem.run_bind,run_info hi,Result.andThen_ok]
    rw [if_neg (by simpa using hcmp)]
    exact this
   ·rw [if_pos (by simpa using htt),okk] at he;subst he
    simp only [Op.equalIn,Sem.run_bind,run_und ht,Result.andThen_ok]
    rw [if_pos (by simpa using htt)];rfl
  ·rename_i fields xs0 ys0
   obtain⟨xs',rfl,hxs⟩:=hx.agg_inv
   obtain⟨ys',rfl,hys⟩:=hy.agg_inv
   rw [ite_no] at he
   obtain⟨hst,he⟩:=he
   have ht':P.underlying t=some (.struct (P.fieldsOf t)):=by simp only [Program.fieldsOf,ht]
   rw [run_equalIn_struct w d t xs' ys' ht' (by simpa using hst)]
   have e:P.fieldsOf t=fields:=by simp only [Program.fieldsOf,ht]
   rw [e]
   exact eqFields_ok (fun t x y x' y' r a b c=>eqA_ok H d t x y x' y' r a b c) hxs hys _ r he
  ·rename_i l c b l2 c2
   by_cases hE:isE c=true∨isE c2=true
   ·rw [if_pos hE] at he
    split at he
    ·rename_i hb
     rw [okk] at he;subst he
     obtain⟨a',c',rfl,hc⟩:=hx.slice_inv
     obtain⟨b',c2',rfl,hc2⟩:=hy.slice_inv
     rw [Bool.or_eq_true] at hb
     rcases hb with hb | hb
     ·simp only [Bool.and_eq_true,Bool.not_eq_true'] at hb
      obtain⟨⟨q1,q2⟩,q3⟩:=hb
      have q1:=Nat.eq_of_beq_eq_true q1
      have e1:a'.isSome=true:=by
       rcases hc with⟨_,_,e,_⟩ | ⟨_,_,e,_⟩ | ⟨_,_,_,_,_,_,e,_⟩ | ⟨_,_,_,e⟩
       ·rw [q1] at e;simp [isU,capF,capB] at e
       ·cases e
       ·cases e
       ·exact e q1
      have e2:b'=none:=by
       rcases hc2 with⟨_,e,_⟩ | ⟨_,_,e,_⟩ | ⟨_,_,_,_,_,_,e,_⟩ | ⟨_,_,e,_⟩
       ·exact e
       ·rw [e] at q2;cases q2
       ·rw [e] at q2;cases q2
       ·rw [isU_isE e] at q3;cases q3
      obtain⟨a1,rfl⟩:=Option.isSome_iff_exists.1 e1
      subst e2
      simp only [Op.equalIn,Sem.run_bind,run_und ht,Result.andThen_ok];rfl
     ·simp only [Bool.and_eq_true,Bool.not_eq_true'] at hb
      obtain⟨⟨q1,q2⟩,q3⟩:=hb
      have q1:=Nat.eq_of_beq_eq_true q1
      have e1:a'=none:=by
       rcases hc with⟨_,e,_⟩ | ⟨_,_,e,_⟩ | ⟨_,_,_,_,_,_,e,_⟩ | ⟨_,_,e,_⟩
       ·exact e
       ·cases e
       ·cases e
       ·rw [isU_isE e] at q3;cases q3
      have e2:b'.isSome=true:=by
       rcases hc2 with⟨_,_,e,_⟩ | ⟨_,_,e,_⟩ | ⟨_,_,_,_,_,_,e,_⟩ | ⟨_,_,_,e⟩
       ·rw [q1] at e;simp [isU,capF,capB] at e
       ·rw [e] at q2;cases q2
       ·rw [e] at q2;cases q2
       ·exact e q1
      obtain⟨b1,rfl⟩:=Option.isSome_iff_exists.1 e2
      subst e1
      simp only [Op.equalIn,Sem.run_bind,run_und ht,Result.andThen_ok];rfl
    ·simp [no] at he
   rw [if_neg hE] at he
   rw [okk] at he;have hcc:=hE;subst he
   obtain⟨a',c',rfl,hc⟩:=hx.slice_inv3 (.inr fun e=>hcc (.inl e))
   obtain⟨b',c2',rfl,hc2⟩:=hy.slice_inv3 (.inr fun e=>hcc (.inr e))
   have e1:a'=none:=by rcases hc with⟨_,e,_⟩ | ⟨_,_,e,_⟩ | ⟨_,_,_,_,_,_,e,_⟩ <;> first | exact e | cases e
   have e2:b'.isNone=b.isNone:=by rcases hc2 with⟨e,e',_⟩ | ⟨_,_,e,e',_⟩ | ⟨_,_,_,_,_,_,e,e',_⟩ <;> subst e <;> subst e' <;> rfl
   subst e1
   simp only [Op.equalIn,Sem.run_bind,run_und ht,Result.andThen_ok,e2];rfl
  ·rename_i a l c l2 c2 hne
   rw [ite_no,okk] at he;obtain⟨hcc,he⟩:=he;subst he
   obtain⟨a',c',rfl,hc⟩:=hx.slice_inv3 (.inl (by cases a with
    | none=>exact(hne rfl).elim
    | some _=>rfl))
   obtain⟨b',c2',rfl,hc2⟩:=hy.slice_inv3 (.inr hcc)
   have e1:b'=none:=by rcases hc2 with⟨_,e,_⟩ | ⟨_,_,e,_⟩ | ⟨_,_,_,_,_,_,e,_⟩ <;> first | exact e | cases e
   subst e1
   rcases hc with⟨e,e',_⟩ | ⟨_,_,e,e',_⟩ | ⟨_,_,_,_,_,_,e,e',_⟩
   ·subst e;exact(hne rfl).elim
   ·subst e;subst e';(simp only [Op.equalIn,Sem.run_bind,run_und ht,Result.andThen_ok];rfl)
   ·subst e;subst e';(simp only [Op.equalIn,Sem.run_bind,run_und ht,Result.andThen_ok];rfl)
  ·have:=hx.map0_inv;subst this
   rw [okk] at he;subst he
   rename_i b
   cases b with
   | none=>have:=hy.map0_inv;subst this;(simp only [Op.equalIn,Sem.run_bind,run_und ht,Result.andThen_ok];rfl)
   | some b=>obtain⟨q,_,_,rfl,_⟩:=hy.map_inv;(simp only [Op.equalIn,Sem.run_bind,run_und ht,Result.andThen_ok];rfl)
  ·have:=hy.map0_inv;subst this
   rw [okk] at he;subst he
   rename_i b hb
   cases b with
   | none=>exact(hb rfl).elim
   | some b=>obtain⟨q,_,_,rfl,_⟩:=hx.map_inv;(simp only [Op.equalIn,Sem.run_bind,run_und ht,Result.andThen_ok];rfl)
  ·have:=hx.nilFunc_inv;have:=hy.nilFunc_inv;subst_vars
   rw [okk] at he;subst he
   (simp only [Op.equalIn,Sem.run_bind,run_und ht,Result.andThen_ok];rfl)
  ·have:=hx.nilFunc_inv;subst this
   obtain⟨_,_,_,rfl,_⟩:=hy.func_inv
   rw [okk] at he;subst he
   (simp only [Op.equalIn,Sem.run_bind,run_und ht,Result.andThen_ok];rfl)
  ·have:=hy.nilFunc_inv;subst this
   obtain⟨_,_,_,rfl,_⟩:=hx.func_inv
   rw [okk] at he;subst he
   (simp only [Op.equalIn,Sem.run_bind,run_und ht,Result.andThen_ok];rfl)
  ·simp [no] at he
end
end Go.Ev

namespace Go.Ev
variable {η:Nat→Value}
theorem L2.inv_cons{α β:Type}{R:α→β→Prop}{a:α}{l:List α}{m:List β}(h:L2 R (a :: l) m):∃ b m',m=b :: m'∧R a b∧L2 R l m':=by
 cases h with | cons h k=>exact⟨_,_,rfl,h,k⟩
theorem L2.inv_nil{α β:Type}{R:α→β→Prop}{m:List β}(h:L2 R [] m):m=[]:=by cases h;rfl
theorem L2.get{α β:Type}{R:α→β→Prop}{l:List α}{m:List β}(h:L2 R l m){i:Nat}{a:α}(ha:l[i]? = some a):∃ b,m[i]? = some b∧R a b:=by
 induction h generalizing i with
 | nil=>simp at ha
 | cons hr _ ih=>
  cases i with
  | zero=>simp at ha;subst ha;exact⟨_,rfl,hr⟩
  | succ i=>simpa using ih (by simpa using ha)
section
variable {P:Program} {ρ:Env} {B:Bd} {h:AH} {w:World}
theorem keyKind_ok{kt:TypeId}{d:TypeDesc}(hk:keyKind P kt = .ok d):P.underlying kt=some d∧((∃ k,d = .int k)∨d = .string∨d = .bool):=by
 simp only [keyKind,bind_ok,undA_ok] at hk
 obtain⟨u,hu,hk⟩:=hk
 split at hk <;> first | (simp [no] at hk;done) | (rw [okk] at hk;subst hk;exact⟨hu,by simp⟩)
theorem sameNow_rel{d:TypeDesc}(hd:(∃ k,d = .int k)∨d = .string∨d = .bool){k e k' e':Value}{b:Bool}(hs:Instr.sameNow d k e=some b)(hk:VR η ρ k k')(he:VR η ρ e e'):k'=k∧e'=e∧(b=true→∀ n,Instr.sameBits n e k=true):=by
 unfold Instr.sameNow at hs
 split at hs
 ·have:=hk.int_inv;have:=he.int_inv;subst_vars
  refine⟨rfl,rfl,fun hb n=>?_⟩
  split at hs
  ·rename_i hkk;subst hkk;cases hs;simp only [beq_iff_eq] at hb;subst hb;simp [Instr.sameBits]
  ·cases hs
 ·have:=hk.string_inv;have:=he.string_inv;subst_vars
  refine⟨rfl,rfl,fun hb n=>?_⟩
  cases hs
  rw [toList_bytes] at hb
  simp only [beq_iff_eq] at hb
  have:=byteArray_ext hb;subst this
  simp only [Instr.sameBits,toList_bytes];simp
 ·have:=hk.bool_inv;have:=he.bool_inv;subst_vars
  refine⟨rfl,rfl,fun hb n=>?_⟩
  cases hs;simp only [beq_iff_eq] at hb;subst hb;simp [Instr.sameBits]
 ·cases hs
theorem findNow_rel{d:TypeDesc}(hd:(∃ k,d = .int k)∨d = .string∨d = .bool){k k':Value}(hk:VR η ρ k k'){es es':List MapEntry}(hes:L2 (ER η ρ) es es'):∀ {i:Nat} {r:Option (Nat × Value)},Instr.findNow d k es i=some r→
  (r=none∧Instr.findNow d k' es' i=some none)∨
  (∃ j e e',r=some (i+j,e.val)∧es[j]? = some e∧es'[j]? = some e'∧ER η ρ e e'∧k'=k∧e'.key=e.key∧(∀ n,Instr.sameBits n e.key k=true)∧Instr.findNow d k' es' i=some (some (i+j,e'.val))):=by
 induction hes with
 | nil=>intro i r hr;simp only [Instr.findNow] at hr;cases hr;exact .inl ⟨rfl,rfl⟩
 | @cons e e' es es' hee _ ih=>
  intro i r hr
  simp only [Instr.findNow] at hr ⊢
  cases hs:Instr.sameNow d k e.key with
  | none=>rw [hs] at hr;cases hr
  | some b=>
   rw [hs] at hr
   obtain⟨e1,e2,e3⟩:=sameNow_rel hd hs hk hee.1
   rw [e1,e2,hs]
   cases b with
   | true=>
    cases hr
    exact .inr ⟨0,e,e',by simp,by simp,by simp,hee,rfl,e2,e3 rfl,by simp⟩
   | false=>
    rcases ih hr with⟨h1,h2⟩ | ⟨j,a,a',h1,h2,h3,h4,h5,h6,h7,h8⟩
    ·rw [e1] at h2;exact .inl ⟨h1,h2⟩
    ·rw [e1] at h8
     exact .inr ⟨j+1,a,a',by rw [h1];congr 2;omega,by simpa using h2,by simpa using h3,h4,rfl,h6,h7,by rw [show i+(j+1)=i+1+j by omega];exact h8⟩
theorem run_checkKey{kt:TypeId}{d:TypeDesc}(hu:P.underlying kt=some d)(hd:(∃ k,d = .int k)∨d = .string∨d = .bool)(e:Bool)(n:Nat)(v:Value):(Instr.checkKey e (n+1) kt v).run P w = .ok () w:=by
 simp only [Instr.checkKey,Sem.run_bind,run_und hu,Result.andThen_ok]
 rcases hd with⟨k,rfl⟩ | rfl | rfl <;> rfl
theorem findM_ok{kt:TypeId}{k k':Value}{es es':List MapEntry}{r:Option (Nat × Value)}(hf:findM P kt k es = .ok r)(hk:VR η ρ k k')(hes:L2 (ER η ρ) es es') :
  (∀ e v,(Instr.checkKey e 10000 kt v).run P w = .ok () w)∧
  ((r=none∧(Instr.findKey kt k' es').run P w = .ok none w)∨
   (∃ j e e',r=some (j,e.val)∧es[j]? = some e∧es'[j]? = some e'∧ER η ρ e e'∧k'=k∧e'.key=e.key∧(∀ n,Instr.sameBits n e.key k=true)∧(Instr.findKey kt k' es').run P w = .ok (some (j,e'.val)) w)):=by
 simp only [findM,bind_ok,orNo_ok] at hf
 obtain⟨d,hd,hf⟩:=hf
 obtain⟨hu,hd⟩:=keyKind_ok hd
 refine⟨fun e v=>run_checkKey hu hd e 9999 v,?_⟩
 have hrun:∀ {o},Instr.findNow d k' es' 0=some o→(Instr.findKey kt k' es').run P w = .ok o w:=by
  intro o ho
  simp only [Instr.findKey,Sem.run_bind,run_und hu,Result.andThen_ok,ho];rfl
 rcases findNow_rel hd hk hes hf with⟨h1,h2⟩ | ⟨j,e,e',h1,h2,h3,h4,h5,h6,h7,h8⟩
 ·exact .inl ⟨h1,hrun h2⟩
 ·rw [Nat.zero_add] at h1 h8
  exact .inr ⟨j,e,e',h1,h2,h3,h4,h5,h6,h7,hrun h8⟩
theorem run_getObj{r:Nat}{o:Obj}(hr:w.heap[r]? = some o)(ho:∀ c t f,o ≠ .cells c t f):(getObj r).run P w = .ok o w:=by
 simp only [getObj,Sem.run,hr]
theorem VR.pair{v x:Value}{b:Bool}(hv:VR η ρ v x):VR η ρ (tupL [v,.bool b]) (.tuple #[x,.bool b]):=.tup' (.cons hv (.cons (.bool b) .nil))
theorem lookA_ok(H:HR η ρ B h w){t:TypeId}{x k x' k' r:Value}{ok:Bool}(hl:lookA P h t x k ok = .ok r)(hx:VR η ρ x x')(hk:VR η ρ k k') :
  ∃ y,(Instr.lookup t x' k' ok).run P w = .ok y w∧VR η ρ r y:=by
 simp only [lookA,bind_ok,undA_ok] at hl
 obtain⟨td,ht,hl⟩:=hl
 split at hl
 ·rename_i key elem
  simp only [bind_ok] at hl
  obtain⟨es,hes,f,hf,hl⟩:=hl
  obtain⟨E,hE,hrel⟩:∃ E:Array MapEntry,L2 (ER η ρ) es E.toList∧((x' = .map none∧E=#[])∨∃ b c,x' = .map (some b)∧w.heap[b]? = some (.map E c)):=by
   split at hes
   ·have:=hx.map0_inv;subst this
    rw [okk] at hes;subst hes
    exact⟨#[],.nil,.inl ⟨rfl,rfl⟩⟩
   ·rename_i r0
    obtain⟨b,d,n,rfl,hρ⟩:=hx.map_inv
    simp only [bind_ok] at hes
    obtain⟨m,hm,hes⟩:=hes
    rw [okk] at hes;subst hes
    obtain⟨b',d',n',E,h1,h2,h3,_⟩:=H.map (mapOf_ok.1 hm)
    rw [hρ] at h1;cases h1
    exact⟨E,h3,.inr ⟨_,_,rfl,h2⟩⟩
   ·simp [no] at hes
  obtain⟨hck,hf⟩:=findM_ok (P:=P) (w:=w) hf hk hE
  rcases hf with⟨rfl,hrun⟩ | ⟨j,e,e',rfl,_,_,he,_,_,_,hrun⟩
  ·simp only [bind_ok] at hl
   obtain⟨z,hz,hl⟩:=hl
   rw [okk] at hl;subst hl
   refine⟨if ok then .tuple #[z,.bool false] else z,?_,?_⟩
   ·simp only [Instr.lookup,Sem.run_bind,run_und ht,Result.andThen_ok]
    rcases hrel with⟨rfl,rfl⟩ | ⟨b,c,rfl,hb⟩
    ·simp only [Sem.run_bind,Sem.run_pure,hck,Result.andThen_ok,hrun,run_zero hz]
    ·simp only [Sem.run_bind,run_getObj hb (by simp),Sem.run_pure,hck,Result.andThen_ok,hrun,run_zero hz]
   ·cases ok
    ·exact .zero hz
    ·exact .pair (.zero hz)
  ·simp only [okk] at hl;subst hl
   refine⟨if ok then .tuple #[e'.val,.bool true] else e'.val,?_,?_⟩
   ·simp only [Instr.lookup,Sem.run_bind,run_und ht,Result.andThen_ok]
    rcases hrel with⟨rfl,rfl⟩ | ⟨b,c,rfl,hb⟩
    ·simp only [Sem.run_bind,Sem.run_pure,hck,Result.andThen_ok,hrun]
    ·simp only [Sem.run_bind,run_getObj hb (by simp),Sem.run_pure,hck,Result.andThen_ok,hrun]
   ·cases ok
    ·exact he.2.1
    ·exact .pair he.2.1
 ·simp [no] at hl

theorem guard_none{op:BinOp}(ho:isEq op=none)(t:TypeId)(x y:Operand)(a b:Value):(eqGuard op t x y a b).run P w = .ok () w:=by
 cases op <;> first | rfl | cases ho
theorem guard_eql{op:BinOp}{v:Bool}(ho:isEq op=some v)(t:TypeId)(x y:Operand)(a b:Value):eqGuard op t x y a b=eqGuard .eql t x y a b:=by
 cases op <;> first | rfl | cases ho
theorem nilOk_ok{t:TypeId}(hg:nilOk P t = .ok true):(Op.eqGuardIn Op.maxDepth t .nilIface .nilIface).run P w = .ok false w:=by
 obtain⟨d,hd⟩:∃ d,Op.maxDepth=d+1:=⟨9999,rfl⟩
 rw [hd]
 unfold nilOk at hg
 split at hg
 ·rename_i ms hms
  rw [okk] at hg
  simp only [Op.eqGuardIn,Sem.run_bind,run_und hms,Result.andThen_ok,hg];rfl
 ·rename_i u hu1 hu
  simp only [Op.eqGuardIn,Sem.run_bind,run_und hu,Result.andThen_ok]
  cases u <;> first | rfl | exact(hu1 _ rfl).elim
 ·simp [no] at hg
theorem guard_ok{op:BinOp}{t:TypeId}{x y:Operand}{a b a' b':Value}(hg:guardOk P op t x y a b = .ok true)(ha:VR η ρ a a')(hb:VR η ρ b b')(hna:∀ i,a ≠ .chan i)(hnb:∀ i,b ≠ .chan i) :
    (eqGuard op t x y a' b').run P w = .ok () w:=by
  unfold guardOk at hg
  cases ho:isEq op with
  | none=>exact guard_none ho ..
  | some v=>
    rw [ho] at hg
    rw [guard_eql ho]
    simp only [] at hg
    cases ha with
    | nilIface=>
      cases hb with
      | nilIface=>
        simp only [] at hg
        have key:=fun hg=>nilOk_ok (P:=P) (w:=w) (t:=t) hg
        cases x <;> cases y <;> first
          | rfl
          | (have k:=key hg
             simp only [eqGuard,Sem.run_bind]
             simp [k])
      | opq i=>exact absurd rfl (hnb _)
      | any h=>exact absurd rfl (hnb _)
      | _=>rfl
    | agg h1 h2=>
      cases hb with
      | agg h3 h4=>
        simp only [okk] at hg
        exact run_eqGuard_agg w .eql t x y _ _ (by simpa using hg)
      | opq i=>exact absurd rfl (hnb _)
      | any h=>exact absurd rfl (hnb _)
      | _=>rfl
    | opq i=>exact absurd rfl (hna _)
    | any h=>exact absurd rfl (hna _)
    | _=>rfl
theorem strL_append(a b:ByteArray):(ByteArray.mk ⟨a.data.toList ++ b.data.toList⟩)=a ++ b:=by
 apply byteArray_ext
 rw [ByteArray.data_append];simp
theorem bsize(a:ByteArray):a.data.toList.length=a.size:=rfl
theorem strA_ok{op:BinOp}{a b:ByteArray}{v:Value}(hs:strA op a.data.toList b.data.toList = .ok v):∃ x,(Op.stringOp op a b).run P w = .ok x w∧VR η ρ v x:=by
  unfold strA at hs
  unfold Op.stringOp
  simp only [ByteArray.toList_eq] at *
  have hmax:IntKind.i64.max=9223372036854775807:=by decide
  cases op <;> simp only [] at hs ⊢ <;> first
    | (rw [okk] at hs;subst hs;exact⟨_,rfl,.bool _⟩)
    | (rw [ite_no',okk] at hs
       obtain⟨hl,rfl⟩:=hs
       rw [bsize,bsize] at hl
       rw [hmax,if_neg (by omega)]
       exact⟨_,rfl,by rw [strL,strL_append];exact .string _⟩)
    | (simp [no] at hs;done)
theorem shiftA_ok{op:BinOp}{k yk:IntKind}{a b:Int}{v:Value}(hs:shiftA op k a b = .ok v):∃ x,(Op.shift op k a yk b).run P w = .ok x w∧VR η ρ v x:=by
 unfold shiftA at hs
 rw [ite_no] at hs
 obtain⟨hb,hs⟩:=hs
 unfold Op.shift
 rw [if_neg hb]
 cases op <;> simp only [] at hs ⊢ <;> first
  | (simp [no] at hs;done)
  | (rw [okk] at hs;subst hs;exact⟨_,rfl,.int _ _⟩)
theorem binA_ok(H:HR η ρ B h w){op:BinOp}{t:TypeId}{x y x' y' v:Value}(hb:binA P h op t x y = .ok v)(hx:VR η ρ x x')(hy:VR η ρ y y') :
    ∃ r,(binOp op t x' y').run P w = .ok r w∧VR η ρ v r:=by
  have eqc:∀ {x y:Value},VR η ρ x x'→VR η ρ y y'→
      (match isEq op with
      | some want=>do Except.ok (.bool ((← eqA P h 10000 t x y) == want))
      | none=>no "binop" :M Value) = .ok v→(op = .eql∨op = .neq)∧∃ r,(if op = .eql then(do pure (.bool (← Op.equal t x' y')):Sem Value) else do pure (.bool (!(← Op.equal t x' y')))).run P w = .ok r w∧VR η ρ v r:=by
    intro x y hx hy hb
    cases op <;> simp only [isEq] at hb <;> first
      | (simp [no] at hb;done)
      | (simp only [bind_ok] at hb
         obtain⟨r,hr,hb⟩:=hb
         rw [okk] at hb;subst hb
         have:=eqA_ok (P:=P) H _ _ _ _ _ _ _ hr hx hy
         refine⟨by simp,?_⟩
         simp only [reduceCtorEq,if_true,if_false,Sem.run_bind,Op.equal,Op.maxDepth,this,Result.andThen_ok]
         cases r <;> exact⟨_,rfl,.bool _⟩)
  unfold binA at hb
  split at hb
  · rename_i k a k' b
    have:=hx.int_inv;have:=hy.int_inv;subst_vars
    split at hb
    · rename_i hsh
      obtain⟨r,hr,hv⟩:=shiftA_ok (η:=η) (ρ:=ρ) (P:=P) (w:=w) (yk:=k') hb
      cases op <;> first | (simp [isShift] at hsh;done) | exact⟨r,hr,hv⟩
    · rename_i hsh
      rw [ite_no'] at hb
      obtain⟨rfl,hb⟩:=hb
      cases op <;> simp only [intA,cmpA] at hb <;> first
        | (simp [isShift] at hsh;done)
        | (rw [okk] at hb;subst hb;simp only [binOp,ne_eq,not_true_eq_false,if_false];exact⟨_,rfl,by first | exact .int _ _ | exact .bool _⟩)
        | (rw [ite_no,okk] at hb
           obtain⟨hb0,rfl⟩:=hb
           simp only [binOp,ne_eq,not_true_eq_false,if_false,Op.intDiv,hb0]
           exact⟨_,rfl,.int _ _⟩)
        | (simp [no] at hb;done)
  · rename_i a b
    have:=hx.string_inv;have:=hy.string_inv;subst_vars
    obtain⟨r,hr,hv⟩:=strA_ok (η:=η) (ρ:=ρ) (P:=P) (w:=w) hb
    refine⟨r,?_,hv⟩
    cases op <;> exact hr
  rename_i x y n1 n2
  rw [ite_no'] at hb
  obtain⟨hp,hb⟩:=hb
  simp only [Bool.and_eq_true] at hp
  obtain⟨ho,r,hr,hv⟩:=eqc hx hy hb
  refine⟨r,?_,hv⟩
  rcases ho with rfl | rfl
  · simp only [if_true] at hr
    rw [← hr]
    cases hx <;> first
      | (simp [plainV] at hp;done)
      | (cases hy <;> first | (simp [plainV] at hp;done) | rfl)
  · simp only [reduceCtorEq,if_false] at hr
    rw [← hr]
    cases hx <;> first
      | (simp [plainV] at hp;done)
      | (cases hy <;> first | (simp [plainV] at hp;done) | rfl)
end
end Go.Ev

namespace Go.Ev
variable {η:Nat→Value}
section
variable {P:Program} {ρ:Env} {B:Bd} {h:AH} {w:World}
theorem unA_ok{op:UnOp}{x x' v:Value}(hu:unA op x = .ok v)(hx:VR η ρ x x'):∃ r,(Op.unary op x').run P w = .ok r w∧VR η ρ v r:=by
 unfold unA at hu
 split at hu
 ·have:=hx.int_inv;subst this;rw [okk] at hu;subst hu;exact⟨_,rfl,.int _ _⟩
 ·have:=hx.int_inv;subst this;rw [okk] at hu;subst hu;exact⟨_,rfl,.int _ _⟩
 ·have:=hx.bool_inv;subst this;rw [okk] at hu;subst hu;exact⟨_,rfl,.bool _⟩
 ·simp [no] at hu
theorem bytesOf_ok{ρ:Env}{f:Value→ByteArray→Sem (ForInStep ByteArray)}(hf:∀ n r,f (.int .u8 n) r=pure (ForInStep.yield (r.push (UInt8.ofNat n.toNat)))):∀ {l vs:List Value} {bs:List UInt8},bytesOf l = .ok bs→LR η ρ l vs→∀ (acc:ByteArray) (w:World),
  (forIn vs acc f:Sem ByteArray).run P w = .ok ⟨⟨acc.data.toList ++ bs⟩⟩ w
 | [],vs,bs,hb,hl,acc,w=>by
  have:=hl.inv_nil;subst this
  simp only [bytesOf,okk] at hb;subst hb
  simp only [List.forIn_nil,List.append_nil];rfl
 | v :: l,vs,bs,hb,hl,acc,w=>by
  obtain⟨x,m,rfl,hx,hm⟩:=hl.inv_cons
  unfold bytesOf at hb
  split at hb
  ·rename_i e;cases e
  ·rename_i n r e
   injection e with e1 e2;subst e1;subst e2
   have:=hx.int_inv;subst this
   split at hb
   ·rename_i l' hl'
    rw [okk] at hb;subst hb
    have ih:=bytesOf_ok hf hl' hm (acc.push (UInt8.ofNat n.toNat)) w
    simp only [List.forIn_cons,Sem.run_bind,hf,Sem.run_pure,Result.andThen_ok]
    rw [ih]
    congr 1
    apply byteArray_ext
    simp [ByteArray.push]
   ·cases hb
  ·simp [no] at hb
theorem cells_of_list{b:Addr}{vs:List Value}{n:Nat}(hn:vs.length=n)(hv:∀ j v,vs[j]? = some v→w.cell? (b.add j)=some v):(loadCells b n).run P w = .ok vs.toArray w:=by
 subst hn;exact run_loadCells_list w b vs hv
theorem convA_ok(H:HR η ρ B h w){s d:TypeId}{x x' v:Value}(hc:convA P h s d x = .ok v)(hx:VR η ρ x x'):∃ r,(convert s d x').run P w = .ok r w∧VR η ρ v r:=by
 simp only [convA,bind_ok,undA_ok] at hc
 obtain⟨sd,hs,dd,hd,hc⟩:=hc
 split at hc
 ·have:=hx.int_inv;subst this;rw [okk] at hc;subst hc
  refine⟨_,by simp only [convert,Sem.run_bind,run_und hs,run_und hd,Result.andThen_ok];rfl,.int _ _⟩
 ·have:=hx.int_inv;subst this;rw [okk] at hc;subst hc
  refine⟨_,by simp only [convert,Sem.run_bind,run_und hs,run_und hd,Result.andThen_ok];rfl,.string _⟩
 ·have:=hx.string_inv;subst this;rw [okk] at hc;subst hc
  refine⟨_,by simp only [convert,Sem.run_bind,run_und hs,run_und hd,Result.andThen_ok];rfl,.string _⟩
 ·rename_i e a len c
  rw [ite_no] at hc
  obtain⟨hcE,hc⟩:=hc
  simp only [bind_ok,undA_ok] at hc
  obtain⟨ed,he,hc⟩:=hc
  obtain⟨a',c',rfl,hcc⟩:=hx.slice_inv3 (by cases a with | none=>exact .inr fun e=>hcE ⟨rfl,e⟩ | some a=>exact .inl rfl)
  split at hc
  ·rw [okk] at hc;subst hc
   have e1:a'=none:=by rcases hcc with⟨_,e,_⟩ | ⟨_,_,e,_⟩ | ⟨_,_,_,_,_,_,e,_⟩ <;> first | exact e | cases e
   subst e1
   refine⟨_,by simp only [convert,Sem.run_bind,run_und hs,run_und hd,run_und he,Result.andThen_ok];rfl,?_⟩
   exact .string _
  ·rename_i p
   simp only [bind_ok] at hc
   obtain⟨l,hl,bs,hb,hc⟩:=hc
   rw [okk] at hc;subst hc
   obtain⟨q,rfl,hq⟩:∃ q,a'=some q∧AdR ρ p q:=by
    rcases hcc with⟨e,_⟩ | ⟨_,q,e,e',hq,_⟩ | ⟨_,q,_,_,_,_,e,e',hq,_⟩
    ·cases e
    ·cases e;exact⟨q,e',hq⟩
    ·cases e;exact⟨q,e',hq⟩
   obtain⟨vs,h1,h2,h3⟩:=getC_ok H hl hq
   refine⟨strL bs,?_,.string _⟩
   simp only [convert,Sem.run_bind,run_und hs,run_und hd,run_und he,Result.andThen_ok,Conv.bytesToString,cells_of_list h2 h3]
   rw [← Array.forIn_toList]
   simp only []
   rw [bytesOf_ok (fun n r=>by simp) hb h1 .empty w]
   simp [strL]
  ·simp [no] at hc
 ·rename_i t a
  simp only [bind_ok] at hc
  obtain⟨n,hn,⟨ty,c,p,own⟩,hcell,hc⟩:=hc
  simp only [ite_no',okk] at hc
  obtain⟨⟨h0,hp,hlt,hsp⟩,rfl⟩:=hc
  obtain⟨q,rfl,hq⟩:=hx.ptr_inv
  obtain⟨b,d0,m,C,lo,hi,h1,h2,h3,_⟩:=H.cells (cellsAt_ok.1 hcell)
  obtain⟨_,m',b',d',h5,rfl⟩:=hq
  rw [h1] at h5;cases h5
  obtain⟨_,_,hd0,hcl⟩:=h3.plain hp
  have hsz:C.toList.length=d0+m:=h3.size
  have hsh:w.shape? b=some (ty,C.size):=by simp only [World.shape?,h2]
  have hCs:C.size=C.toList.length:=rfl
  refine⟨.pointer (some ⟨b,d0+a.off,none⟩),?_,(show AdR ρ a _ from⟨hsp,m,b,d0,h1,rfl⟩).ptr⟩
  have hseen:(Conv.seenAt ⟨b,d0+a.off,none⟩).run P w = .ok ⟨b,d0+a.off,none⟩ w:=by
   simp only [Conv.seenAt,viewAt,Sem.run_bind,run_shape,Result.andThen_ok,hsh,Option.isSome_some,if_true,Sem.run_pure]
  have hcin:(cellsIn b).run P w = .ok (some C.size) w:=by
   simp only [cellsIn,Sem.run_bind,run_shape,Result.andThen_ok,hsh,Sem.run_pure]
  simp only [convert,Sem.run_bind,run_und hs,run_und hd,Result.andThen_ok,Conv.unsafePointer,hseen,hcin,run_size hn]
  have hcl':c.length=m:=hcl
  have hlt':a.off<c.length:=hlt
  rw [if_neg (by simp [h0];omega)]
  rfl
 ·rename_i u a
  simp only [bind_ok] at hc
  obtain⟨iu,hiu,⟨ty,c,p,own⟩,hcell,hc⟩:=hc
  rw [infoA_ok] at hiu
  simp only [ite_no',okk] at hc
  obtain⟨⟨hp,hlies,hsp⟩,rfl⟩:=hc
  obtain⟨q,rfl,hq⟩:=hx.ptr_inv
  obtain⟨b,d0,m,C,lo,hi,h1,h2,h3,_⟩:=H.cells (cellsAt_ok.1 hcell)
  obtain⟨_,m',b',d',h5,rfl⟩:=hq
  rw [h1] at h5;cases h5
  obtain⟨_,_,hd0,hcl⟩:=h3.plain hp
  have hsz:C.toList.length=d0+m:=h3.size
  have hCs:C.size=c.length:=by have:C.size=C.toList.length:=rfl;have hcl':c.length=m:=hcl;omega
  have hsh:w.shape? b=some (ty,C.size):=by simp only [World.shape?,h2]
  refine⟨.pointer (some ⟨b,d0+a.off,none⟩),?_,(show AdR ρ a _ from⟨hsp,m,b,d0,h1,rfl⟩).ptr⟩
  have hseen:(Conv.seenAt ⟨b,d0+a.off,none⟩).run P w = .ok ⟨b,d0+a.off,none⟩ w:=by
   simp only [Conv.seenAt,viewAt,Sem.run_bind,run_shape,Result.andThen_ok,hsh,Option.isSome_some,if_true,Sem.run_pure]
  have hva:(variablesAt ⟨b,d0+a.off,none⟩ u 1).run P w = .ok true w:=by
   have:d0+a.off=a.off:=by have:d0=0:=hd0;omega
   simp only [variablesAt,Sem.run_bind,run_program,Result.andThen_ok,run_shape,hsh,Sem.run_pure,this,hCs]
   rw [show liesAt P P.depth ty (c.length / P.cellsOf ty) a.off u 1=true from hlies]
  simp only [convert,Sem.run_bind,run_und hs,run_und hd,Result.andThen_ok,Conv.unsafePointer,hseen,sizeOf,run_info hiu,Sem.run_pure,hva]
  simp
 ·simp [no] at hc
theorem foldl_splice:∀ (vs:List Value) (off k:Nat) (C:Array Value),off+k+vs.length≤C.toList.length→
  ((vs.zipIdx k).foldl (fun cs p=>cs.setIfInBounds (off+p.2) p.1) C).toList=splice C.toList (off+k) vs
 | [],off,k,C,_=>by simp [splice]
 | v :: vs,off,k,C,hl=>by
  simp only [List.length_cons] at hl
  rw [List.zipIdx_cons,List.foldl_cons,foldl_splice vs off (k+1) _ (by simp only [Array.toList_setIfInBounds,List.length_set];omega)]
  simp only [Array.toList_setIfInBounds]
  apply List.ext_getElem?
  intro i
  rw [splice_get _ _ _ (by rw [List.length_set];omega),splice_get _ _ _ (by simp only [List.length_cons];omega)]
  simp only [List.length_cons]
  by_cases hk:i=off+k
  ·subst hk
   rw [if_neg (by omega),if_pos (by omega),List.getElem?_set_self (by omega)];simp
  ·by_cases hk2:off+(k+1)≤i∧i<off+(k+1)+vs.length
   ·rw [if_pos hk2,if_pos (by omega),show i - (off+k)=(i - (off+(k+1)))+1 by omega];rfl
   ·rw [if_neg hk2,if_neg (by omega),List.getElem?_set_ne (fun e=>hk e.symm)]
theorem LR.splice{c c' vs vs':List Value}(h:LR η ρ c c')(k:LR η ρ vs vs')(off:Nat):LR η ρ (Ev.splice c off vs) (Ev.splice c' off vs'):=by
 unfold Ev.splice
 rw [k.len]
 exact((h.take off).append k).append (h.drop _)
theorem fillA_ok(hη:OneCells η){place:Nat→Option (Nat × Nat)}:∀ {ps ps':List (Nat × Value)},L2 (fun p q:Nat × Value=>p.1=q.1∧VR η ρ p.2 q.2) ps ps'→∀ {c c2:List Value} {C:Array Value},fillA place c ps = .ok c2→LR η ρ c C.toList→
  ∃ C2:Array Value,Instr.fill place C ps'=some C2∧LR η ρ c2 C2.toList:=by
 intro ps ps' hp
 induction hp with
 | nil=>intro c c2 C hf hc;simp only [fillA,okk] at hf;subst hf;exact⟨C,rfl,hc⟩
 | @cons p q ps ps' hpq _ ih=>
  intro c c2 C hf hc
  obtain⟨i,v⟩:=p
  obtain⟨i',v'⟩:=q
  obtain⟨rfl,hv⟩:=hpq
  simp only [fillA] at hf
  simp only [Instr.fill]
  cases hpl:place i with
  | none=>rw [hpl] at hf;simp [no] at hf
  | some os=>
   obtain⟨off,size⟩:=os
   rw [hpl] at hf
   simp only [] at hf ⊢
   rw [ite_no] at hf
   obtain⟨hsz,hf⟩:=hf
   have hvc:=hv.cells hη
   have hlen:(cellsL v).length=v'.cells.toList.length:=hvc.len
   have hclen:=hc.len
   have hnot:¬ ((cellsL v).length ≠ size)∧¬ (off+size > c.length):=⟨fun e=>hsz (.inl e),fun e=>hsz (.inr e)⟩
   have hs1:v'.cells.toList.length=size:=by omega
   have hs2:v'.cells.size=size:=hs1
   rw [if_neg (by
    simp only [hs2,ne_eq,not_true_eq_false,decide_false,Bool.false_or,decide_eq_true_eq,gt_iff_lt,Nat.not_lt]
    have:C.size=C.toList.length:=rfl
    omega)]
   refine ih hf ?_
   have hfold:(v'.cells.zipIdx.foldl (fun cs (x:Value × Nat)=>cs.setIfInBounds (off+x.2) x.1) C).toList=Ev.splice C.toList off v'.cells.toList:=by
    rw [← Array.foldl_toList,Array.toList_zipIdx]
    have:=foldl_splice v'.cells.toList off 0 C (by have h1:=hnot.2;omega)
    simpa using this
   have h0:=hc.splice hvc off
   rw [← hfold] at h0
   exact h0
theorem placesA_ok:∀ {fs:List Field} {pl:List (Nat × Nat)},placesA P fs = .ok pl→∀ (w:World),(fs.mapM fun f=>(do pure (f.offset,← sizeOf f.type):Sem (Nat × Nat))).run P w = .ok pl w
 | [],pl,hp,w=>by simp only [placesA,okk] at hp;subst hp;rfl
 | f :: fs,pl,hp,w=>by
  simp only [placesA,bind_ok] at hp
  obtain⟨n,hn,r,hr,hp⟩:=hp
  rw [okk] at hp;subst hp
  have ih:=placesA_ok hr w
  simp only [List.mapM_cons,Sem.run_bind,run_size hn,Result.andThen_ok,Sem.run_pure] at ih ⊢
  rw [ih];rfl
theorem fieldOff_ok{s:TypeId}{i:Nat}{f:Field}(hf:fieldOff P s i = .ok f):∃ fs:Array Field,P.underlying s=some (.struct fs)∧fs[i]? = some f:=by
 simp only [fieldOff,bind_ok,undA_ok] at hf
 obtain⟨d,hd,hf⟩:=hf
 split at hf
 ·rw [orNo_ok] at hf;exact⟨_,hd,by simpa using hf⟩
 ·simp [no] at hf
theorem run_place{a:Addr}{f:Field}{n:Nat}(hn:sizeA P f.type = .ok n)(h0:¬ n=0):(fieldPlace a f).run P w = .ok (a.add f.offset) w:=by
 simp only [fieldPlace,Sem.run_bind,run_size hn,Result.andThen_ok]
 rw [if_neg h0];rfl
theorem parts_rel{σ τ:Operand→Value}{ps:Array (Nat × Operand)}(hs:∀ p ∈ ps.toList,VR η ρ (σ p.2) (τ p.2)) :
  L2 (fun p q:Nat × Value=>p.1=q.1∧VR η ρ p.2 q.2) (ps.toList.map fun p=>(p.1,σ p.2)) (ps.map fun (i,x)=>(i,τ x)).toList:=by
 rw [Array.toList_map]
 generalize ps.toList=l at hs
 induction l with
 | nil=>exact .nil
 | cons p l ih=>exact .cons ⟨rfl,hs p (by simp)⟩ (ih fun q hq=>hs q (by simp [hq]))
theorem buildA_ok(hη:OneCells η){t:TypeId}{ps ps':List (Nat × Value)}(hp:L2 (fun p q:Nat × Value=>p.1=q.1∧VR η ρ p.2 q.2) ps ps'){arr:Array (Nat × Value)}(harr:arr.toList=ps'){v:Value}
  (hb:(do
   let z:=cellsL (← zeroA P t)
   match ← undA P t with
   | .struct fields=>do
    let pl ← placesA P fields.toList
    .ok (aggL (← fillA (fun i=>pl[i]?) z ps))
   | .array _ elem=>do
    let size ← sizeA P elem
    .ok (aggL (← fillA (fun i=>some (i * size,size)) z ps))
   | _=>no "build" :M Value) = .ok v):∃ x,(Instr.build t arr).run P w = .ok x w∧VR η ρ v x:=by
 simp only [bind_ok,undA_ok] at hb
 obtain⟨z,hz,d,hd,hb⟩:=hb
 have hzz:LR η ρ (cellsL z) z.cells.toList:=(VR.zero hz).cells hη
 split at hb
 ·rename_i fields
  simp only [bind_ok] at hb
  obtain⟨pl,hpl,l,hl,hb⟩:=hb
  rw [okk] at hb;subst hb
  obtain⟨C,hC,hr⟩:=fillA_ok hη hp hl hzz
  refine⟨.agg C,?_,.agg hr.len hr.at_⟩
  have hpl':=placesA_ok hpl w
  simp only [Instr.build,Sem.run_bind,run_zero hz,run_und hd,Result.andThen_ok]
  obtain⟨fl⟩:=fields
  rw [show(Array.mk fl)=fl.toArray from rfl,List.mapM_toArray]
  simp only [Sem.run_map] at hpl' ⊢
  rw [hpl']
  simp only [Result.andThen_ok]
  rw [harr]
  have:(fun i:Nat=>(pl.toArray)[i]?)=fun i:Nat=>pl[i]?:=by funext i;simp
  rw [this,hC];rfl
 ·rename_i n elem
  simp only [bind_ok] at hb
  obtain⟨size,hsz,l,hl,hb⟩:=hb
  rw [okk] at hb;subst hb
  obtain⟨C,hC,hr⟩:=fillA_ok hη hp hl hzz
  refine⟨.agg C,?_,.agg hr.len hr.at_⟩
  simp only [Instr.build,Sem.run_bind,run_zero hz,run_und hd,run_size hsz,Result.andThen_ok]
  rw [harr,hC];rfl
 ·simp [no] at hb
theorem maxL_ok{mx:Bool}:∀ {l m:List Value} {v x r:Value},maxL mx v l = .ok r→VR η ρ v x→LR η ρ l m→∀ (w:World),∃ y,(m.foldlM (if mx then Builtin.max2 else Builtin.min2) x).run P w = .ok y w∧VR η ρ r y
 | [],m,v,x,r,hm,hv,hl,w=>by
  have:=hl.inv_nil;subst this
  simp only [maxL,okk] at hm;subst hm
  exact⟨x,rfl,hv⟩
 | u :: l,m,v,x,r,hm,hv,hl,w=>by
  obtain⟨u',m',rfl,hu,hm'⟩:=hl.inv_cons
  unfold maxL at hm
  split at hm
  ·rename_i e;cases e
  ·rename_i k a k' b l' e
   injection e with e1 e2;subst e1;subst e2
   have:=hv.int_inv;have:=hu.int_inv;subst_vars
   obtain⟨y,hy,hr⟩:=maxL_ok hm (.int _ _) hm' w
   refine⟨y,?_,hr⟩
   rw [List.foldlM_cons,Sem.run_bind]
   cases mx
   ·simp only [Bool.false_eq_true,if_false,Builtin.min2,Sem.run_pure,Result.andThen_ok,decide_eq_true_eq] at hy ⊢;exact hy
   ·simp only [if_true,Builtin.max2,Sem.run_pure,Result.andThen_ok,decide_eq_true_eq] at hy ⊢;exact hy
  ·simp [no] at hm
theorem readB_ok(H:HR η ρ B h w){b:Builtin}{ts:Array TypeId}{type:TypeId}{cs:Array Bool}{args:List Value}{args':Array Value}{v:Value}(hts:ts.toList ≠ [])(hr:readB P h b ts.toList args = .ok v)(ha:LR η ρ args args'.toList) :
  ∃ x,(builtin b ts type cs args').run P w = .ok (.value x) w∧VR η ρ v x:=by
 obtain⟨t0,ts',htt⟩:∃ t0 ts',ts.toList=t0 :: ts':=by cases hh:ts.toList with
  | nil=>exact absurd hh hts
  | cons a b=>exact⟨_,_,rfl⟩
 have ht0:ts[0]? = some t0:=by rw [← Array.getElem?_toList,htt];rfl
 unfold readB at hr
 rw [htt] at hr
 split at hr
 ·rename_i x
  obtain⟨x',m,hm,hx,hm'⟩:=ha.inv_cons
  have:=hm'.inv_nil;subst this
  have hx0:args'[0]? = some x':=by rw [← Array.getElem?_toList,hm];rfl
  simp only [List.headD_cons,bind_ok,undA_ok] at hr
  obtain⟨d,hd,hr⟩:=hr
  have base:∀ {y},(Builtin.len_ ts type args').run P w = .ok y w→(builtin .len ts type cs args').run P w = .ok (.value y) w:=by
   intro y hy;simp only [builtin,Sem.run_bind,hy,Result.andThen_ok];rfl
  split at hr
  ·have:=hx.string_inv;subst this
   rw [okk] at hr;subst hr
   exact⟨_,base (by simp only [Builtin.len_,ht0,hx0,Sem.run_bind,run_und hd,Result.andThen_ok];rfl),.int _ _⟩
  ·rw [okk] at hr;subst hr
   refine⟨_,base (by simp only [Builtin.len_,ht0,hx0,Sem.run_bind,run_und hd,Result.andThen_ok];rfl),.int _ _⟩
  ·simp only [bind_ok,undA_ok] at hr
   obtain⟨d2,hd2,hr⟩:=hr
   split at hr
   ·rw [okk] at hr;subst hr
    refine⟨_,base (by simp only [Builtin.len_,ht0,hx0,Sem.run_bind,run_und hd,run_und hd2,Result.andThen_ok];rfl),.int _ _⟩
   ·simp [no] at hr
  ·obtain⟨a',c',rfl,_⟩:=hx.slice_inv
   rw [okk] at hr;subst hr
   exact⟨_,base (by simp only [Builtin.len_,ht0,hx0,Sem.run_bind,run_und hd,Result.andThen_ok];rfl),.int _ _⟩
  ·have:=hx.map0_inv;subst this
   rw [okk] at hr;subst hr
   exact⟨_,base (by simp only [Builtin.len_,ht0,hx0,Sem.run_bind,run_und hd,Result.andThen_ok];rfl),.int _ _⟩
  ·obtain⟨b',d',n',rfl,hρ⟩:=hx.map_inv
   simp only [bind_ok] at hr
   obtain⟨m,hm,hr⟩:=hr
   rw [okk] at hr;subst hr
   obtain⟨_,_,_,E,h1,h2,h3,_⟩:=H.map (mapOf_ok.1 hm)
   rw [hρ] at h1;cases h1
   refine⟨goInt E.size,base (by simp only [Builtin.len_,ht0,hx0,Sem.run_bind,run_und hd,Result.andThen_ok,run_getObj h2 (by simp)];rfl),?_⟩
   rw [h3.len];exact .int _ _
  ·simp [no] at hr
 ·rename_i x
  obtain⟨x',m,hm,hx,hm'⟩:=ha.inv_cons
  have:=hm'.inv_nil;subst this
  have hx0:args'[0]? = some x':=by rw [← Array.getElem?_toList,hm];rfl
  simp only [List.headD_cons,bind_ok,undA_ok] at hr
  obtain⟨d,hd,hr⟩:=hr
  have base:∀ {y},(Builtin.cap_ ts type args').run P w = .ok y w→(builtin .cap ts type cs args').run P w = .ok (.value y) w:=by
   intro y hy;simp only [builtin,Sem.run_bind,hy,Result.andThen_ok];rfl
  split at hr
  ·rw [okk] at hr;subst hr
   refine⟨_,base (by simp only [Builtin.cap_,ht0,hx0,Sem.run_bind,run_und hd,Result.andThen_ok];rfl),.int _ _⟩
  ·obtain⟨a',c',rfl,hc⟩:=hx.slice_inv
   rw [ite_no,okk] at hr
   obtain⟨hU,rfl⟩:=hr
   rcases hc with⟨_,_,_,e⟩ | ⟨_,_,_,_,_,_,e⟩ | ⟨_,_,_,_,_,_,_,_,_,rfl,_⟩
   ·subst e
    exact⟨_,base (by simp only [Builtin.cap_,ht0,hx0,Sem.run_bind,run_und hd,Result.andThen_ok];rfl),.int _ _⟩
   ·subst e
    exact⟨_,base (by simp only [Builtin.cap_,ht0,hx0,Sem.run_bind,run_und hd,Result.andThen_ok];rfl),.int _ _⟩
   ·exact absurd (isU_capU _) (by simpa using hU)
   ·rename_i e;exact absurd (isU_isE e.2.2.1) hU
  ·simp [no] at hr
 ·rename_i x r
  obtain⟨x',m,hm,hx,hm'⟩:=ha.inv_cons
  obtain⟨y,hy,hv⟩:=maxL_ok (P:=P) hr hx hm' w
  refine⟨y,?_,hv⟩
  simp only [builtin,Builtin.max_,hm,Sem.run_bind]
  simp only [if_true] at hy
  rw [hy];rfl
 ·rename_i x r
  obtain⟨x',m,hm,hx,hm'⟩:=ha.inv_cons
  obtain⟨y,hy,hv⟩:=maxL_ok (P:=P) hr hx hm' w
  refine⟨y,?_,hv⟩
  simp only [builtin,Builtin.min_,hm,Sem.run_bind]
  simp only [Bool.false_eq_true,if_false] at hy
  rw [hy];rfl
 ·rename_i len cap
  obtain⟨x',m,hm,hx,hm'⟩:=ha.inv_cons
  have:=hm'.inv_nil;subst this
  rw [ite_no,okk] at hr
  obtain⟨hcE,hr⟩:=hr
  obtain⟨a',c',rfl,hc⟩:=hx.slice_inv3 (.inr hcE)
  have e1:a'=none:=by rcases hc with⟨_,e,_⟩ | ⟨_,_,e,_⟩ | ⟨_,_,_,_,_,_,e,_⟩ <;> first | exact e | cases e
  subst e1
  subst hr
  have hargs:args'=#[.slice none len c']:=by rw [← Array.toArray_toList (xs:=args'),hm]
  subst hargs
  exact⟨_,rfl,.ptr0⟩
 ·rename_i p l c
  obtain⟨x',m,hm,hx,hm'⟩:=ha.inv_cons
  have:=hm'.inv_nil;subst this
  obtain⟨a',c',rfl,hc⟩:=hx.slice_inv3 (.inl rfl)
  rw [ite_no',okk] at hr
  obtain⟨hc0,rfl⟩:=hr
  obtain⟨q,hqe,hq,hc1⟩:∃ q,a'=some q∧AdR ρ p q∧c' ≠ 0:=by
   rcases hc with⟨e,_⟩ | ⟨_,q,e,e',hq,_,ec⟩ | ⟨_,q,s,_,_,n,e,e',hq,ec,_,hs,hn,hl⟩
   ·cases e
   ·cases e;exact⟨q,e',hq,by rw [ec];exact hc0.1⟩
   ·cases e;refine⟨q,e',hq,?_⟩;rcases hc0.2 with hU | hl0
    ·rw [ec,isU_capU] at hU;cases hU
    ·omega
  subst hqe
  have hargs:args'=#[.slice (some q) l c']:=by rw [← Array.toArray_toList (xs:=args'),hm]
  subst hargs
  refine⟨_,?_,hq.ptr⟩
  have e:Builtin.unsafeSliceData_ ts type #[.slice (some q) l c']=pure (.pointer (some q)):=by
   show(if c' ≠ 0 then _ else _)=_
   rw [if_pos hc1]
  simp only [builtin,e,Sem.run_bind,Sem.run_pure,Result.andThen_ok]
 ·simp [no] at hr
end
end Go.Ev

namespace Go.Ev
variable {η:Nat→Value}
section
variable {P:Program} {ρ:Env} {B:Bd} {h:AH} {w:World}
theorem map_rel{σ τ:Operand→Value}{xs:Array Operand}(hs:∀ x ∈ xs.toList,VR η ρ (σ x) (τ x)):LR η ρ (xs.toList.map σ) (xs.map τ).toList:=by
 rw [Array.toList_map]
 generalize xs.toList=l at hs
 induction l with
 | nil=>exact .nil
 | cons p l ih=>exact .cons (hs p (by simp)) (ih fun q hq=>hs q (by simp [hq]))
theorem op_rel{σ τ:Operand→Value}{o:Option Operand}(hs:∀ x,o=some x→VR η ρ (σ x) (τ x)):OpR η ρ (o.map σ) (o.map τ):=by
 cases o with
 | none=>trivial
 | some x=>exact hs x rfl
theorem run_asIntOf{k:IntKind}{n:Int}:(asIntOf (.int k n)).run P w = .ok (k,n) w:=rfl
theorem least_none{l:List String}(h:Instr.least l=none):l=[]:=by
 cases l with
 | nil=>rfl
 | cons a l=>simp [Instr.least] at h
theorem hasAll_true{want:Array (String × TypeId)}{got:Array Method}(h:hasAll want got=true):Instr.missingMethod want got=none:=by
 unfold hasAll at h
 rw [List.isEmpty_iff] at h
 unfold Instr.missingMethod
 rw [h]
 rfl
theorem hasAll_false{want:Array (String × TypeId)}{got:Array Method}(h:hasAll want got=false):∃ m,Instr.missingMethod want got=some m:=by
 unfold hasAll at h
 cases hm:Instr.missingMethod want got with
 | some m=>exact⟨m,rfl⟩
 | none=>
  unfold Instr.missingMethod at hm
  generalize (want.toList.filter fun (x:String × TypeId)=>!got.any fun m=>m.name == x.1 && m.sig == x.2)=l at h hm
  cases l with
  | nil=>simp at h
  | cons a l=>
   exfalso
   simp only [List.partition_eq_filter_filter] at hm
   have hor:∀ {x y:Option String},(x <|> y)=none→x=none∧y=none:=by
    intro x y hxy
    cases x with
    | none=>exact⟨rfl,hxy⟩
    | some u=>cases hxy
   obtain⟨h1,h2⟩:=hor hm
   have h1:=least_none h1
   have h2:=least_none h2
   simp at h1 h2
   exact h2.1 h1.1
theorem assert_ok{x x' v:Value}{asserted xType:TypeId}{ok:Bool}(hx:VR η ρ x x')(hr:(do
  match ← undA P asserted,x with
  | .interface _,.nilIface=>do if ok then .ok (tupL [← zeroA P asserted,.bool false]) else no "assert"
  | .interface want,.iface t v=>do
   match hasAll want (← infoA P t).methods with
   | true=>.ok (if ok then tupL [.iface t v,.bool true] else .iface t v)
   | false=>do if ok then .ok (tupL [← zeroA P asserted,.bool false]) else no "assert"
  | _,.nilIface=>do if ok then .ok (tupL [← zeroA P asserted,.bool false]) else no "assert"
  | _,.iface t v=>do
   if t=asserted then .ok (if ok then tupL [v,.bool true] else v) else if ok then .ok (tupL [← zeroA P asserted,.bool false]) else no "assert"
  | _,_=>no "assert" :M Value) = .ok v):∃ r,(Instr.typeAssert x' xType asserted ok).run P w = .ok r w∧VR η ρ v r:=by
 simp only [bind_ok,undA_ok] at hr
 obtain⟨d,hd,hr⟩:=hr
 have fails:∀ {s dy:Option TypeId} {mm:String},(if ok then(do .ok (tupL [← zeroA P asserted,.bool false])) else no "assert" :M Value) = .ok v→
   ∃ r,(if ok then(do pure (.tuple #[← zeroValue asserted,.bool false])) else runtimePanic (.typeAssertion s dy asserted mm):Sem Value).run P w = .ok r w∧VR η ρ v r:=by
  intro s dy mm hf
  rw [ite_no'] at hf
  obtain⟨rfl,hf⟩:=hf
  simp only [bind_ok] at hf
  obtain⟨z,hz,hf⟩:=hf
  rw [okk] at hf;subst hf
  refine⟨.tuple #[z,.bool false],?_,.pair (.zero hz)⟩
  simp only [if_true,Sem.run_bind,run_zero hz,Result.andThen_ok];rfl
 have holds:∀ {u u':Value},VR η ρ u u'→(if ok then tupL [u,.bool true] else u)=v→VR η ρ v (if ok then .tuple #[u',.bool true] else u'):=by
  intro u u' hu he
  subst he
  cases ok
  ·exact hu
  ·exact .pair hu
 simp only [Instr.typeAssert,Sem.run_bind,run_und hd,Result.andThen_ok]
 split at hr
 ·have:=hx.nilIface_inv;subst this
  exact fails hr
 ·obtain⟨y,rfl,hy⟩:=hx.iface_inv
  simp only [bind_ok,infoA_ok] at hr
  obtain⟨i,hi,hr⟩:=hr
  simp only [Sem.run_bind,run_info hi,Result.andThen_ok]
  split at hr
  ·rename_i hm
   rw [okk] at hr
   rw [hasAll_true hm]
   exact⟨_,rfl,holds (.iface _ hy) hr⟩
  ·rename_i hm
   obtain⟨m,hm⟩:=hasAll_false hm
   rw [hm]
   exact fails hr
 ·rename_i hn
  have:=hx.nilIface_inv;subst this
  cases d <;> first | exact fails hr | exact absurd rfl (hn _)
 ·rename_i t u hn
  obtain⟨y,rfl,hy⟩:=hx.iface_inv
  have:∃ r,(if t=asserted then(pure (if ok then .tuple #[y,.bool true] else y):Sem Value) else if ok then(do pure (.tuple #[← zeroValue asserted,.bool false])) else runtimePanic (.typeAssertion (some xType) (some t) asserted "")).run P w = .ok r w∧VR η ρ v r:=by
   by_cases ht:t=asserted
   ·rw [if_pos ht,okk] at hr
    rw [if_pos ht]
    exact⟨_,rfl,holds hy hr⟩
   ·rw [if_neg ht] at hr
    rw [if_neg ht]
    exact fails hr
  cases d <;> first | exact this | exact absurd rfl (hn _)
 ·simp [no] at hr
theorem readA_ok(hη:OneCells η)(hG:GR P ρ)(H:HR η ρ B h w){o:Oper}{σ τ:Operand→Value}(hs:∀ x ∈ o.op.operands.toList,VR η ρ (σ x) (τ x)){v:Value}(hr:readA P σ o h = .ok v) :
  ∃ x,(execOp τ o).run P w = .ok (.value x) w∧VR η ρ v x:=by
 obtain⟨dst,op,type,pos,after,guard⟩:=o
 have val:∀ {s:Sem Value},(∃ x,s.run P w = .ok x w∧VR η ρ v x)→∃ x,((do pure (.value (← s)):Sem Next)).run P w = .ok (.value x) w∧VR η ρ v x:=by
  rintro s ⟨x,h1,h2⟩
  exact⟨x,by simp only [Sem.run_bind,h1,Result.andThen_ok];rfl,h2⟩
 cases op <;> simp only [readA] at hr <;> simp only [Op.operands] at hs <;> try (simp [no] at hr;done)
 case move x=>rw [okk] at hr;subst hr;exact⟨_,rfl,hs x (by simp)⟩
 case assign x=>rw [okk] at hr;subst hr;exact⟨_,rfl,hs x (by simp)⟩
 case pick c a b=>
  have hc:=hs c (by simp);have ha:=hs a (by simp);have hb:=hs b (by simp)
  split at hr
  ·rename_i t ht
   rw [ht] at hc
   have hc:=hc.bool_inv
   rw [okk] at hr;subst hr
   refine⟨if t then τ a else τ b,by simp only [execOp,hc,asBool,pure_bind];rfl,?_⟩
   cases t
   ·exact hb
   ·exact ha
  ·simp [no] at hr
 case build t parts=>
  have hp:=parts_rel (η:=η) (ρ:=ρ) (σ:=σ) (τ:=τ) (ps:=parts) (fun p hp=>hs p.2 (by simp;exact⟨p.1,by simpa using hp⟩))
  exact val (buildA_ok hη hp rfl hr)
 case load t a=>
  have ha:=hs a (by simp)
  simp only [bind_ok,addrA_ok] at hr
  obtain⟨b,⟨hb,_⟩,hr⟩:=hr
  rw [hb] at ha
  obtain⟨q,hq,hq2⟩:=ha.ptr_inv
  obtain⟨x,h1,h2⟩:=loadA_ok H hr hq2
  exact val ⟨x,by simp only [Instr.loadAt,hq,Instr.sureAddr,pure_bind];exact h1,h2⟩
 case waits g=>
  simp only [bind_ok] at hr
  obtain⟨c,hc,hr⟩:=hr
  rw [ite_no',okk] at hr
  obtain⟨hg,rfl⟩:=hr
  obtain⟨b,d,n,C,lo,hi,h1,h2,_⟩:=H.cells (cellsAt_ok.1 hc)
  obtain⟨m,h3⟩:=hG g (Nat.le_of_lt hg)
  rw [h3] at h1;cases h1
  refine val ⟨.bool false,?_,.bool _⟩
  simp only [Instr.waits,Sem.run_bind,run_shape,Result.andThen_ok,World.shape?,h2];rfl
 case nilCheck x=>
  have hx:=hs x (by simp)
  split at hr
  ·rename_i a ha
   rw [okk] at hr;subst hr
   rw [ha] at hx
   obtain⟨q,hq,hq2⟩:=hx.ptr_inv
   exact⟨_,by simp only [execOp,hq];rfl,hq2.ptr⟩
  ·rename_i f a b ha
   rw [okk] at hr;subst hr
   rw [ha] at hx
   obtain⟨g,c,d,hq,hf,h1,h2⟩:=hx.func_inv
   cases hf with
   | same hf=>exact⟨_,by simp only [execOp,hq];rfl,.func_mk (.same hf) h1 h2⟩
  ·rename_i t u ha
   rw [okk] at hr;subst hr
   rw [ha] at hx
   obtain⟨y,hq,hy⟩:=hx.iface_inv
   exact⟨_,by simp only [execOp,hq];rfl,.iface _ hy⟩
  ·simp [no] at hr
 case binOp op t x y yt=>
  have hx:=hs x (by simp);have hy:=hs y (by simp)
  simp only [bind_ok] at hr
  obtain⟨g,hg,hr⟩:=hr
  rw [ite_no'] at hr
  obtain⟨rfl,hr⟩:=hr
  obtain⟨r,h1,h2⟩:=binA_ok H hr hx hy
  have hnx:∀ i,σ x ≠ .chan i:=by
   intro i e;rw [e] at hr;unfold binA at hr
   revert hr;generalize σ y=b;intro hr
   split at hr
   ·rename_i e1;cases e1
   ·rename_i e1;cases e1
   ·simp [plainV,no] at hr
  have hny:∀ i,σ y ≠ .chan i:=by
   intro i e;rw [e] at hr;unfold binA at hr
   revert hr;generalize σ x=b;intro hr
   split at hr
   ·rename_i e1;cases e1
   ·rename_i e1;cases e1
   ·simp [plainV,no] at hr
  have h3:=guard_ok (P:=P) (w:=w) hg hx hy hnx hny
  exact val ⟨r,by simp only [Sem.run_bind,h3,Result.andThen_ok];exact h1,h2⟩
 case unOp op t x=>exact val (unA_ok hr (hs x (by simp)))
 case convert s d x=>exact val (convA_ok H hr (hs x (by simp)))
 case makeInterface t x=>
  simp only [bind_ok,undA_ok] at hr
  obtain⟨d,hd,hr⟩:=hr
  have hx:=hs x (by simp)
  split at hr
  ·simp [no] at hr
  ·rename_i hn
   rw [okk] at hr;subst hr
   refine val ⟨.iface t (τ x),?_,.iface _ hx⟩
   simp only [Instr.makeInterface,Sem.run_bind,run_und hd,Result.andThen_ok]
   cases d <;> first | rfl | exact absurd rfl (hn _)
 case makeFunc fn first captured=>
  rw [ite_no,okk] at hr
  obtain⟨hy,rfl⟩:=hr
  have h1:=map_rel (η:=η) (ρ:=ρ) (σ:=σ) (τ:=τ) (xs:=first) (fun x hx=>hs x (by simp at hx ⊢;exact .inl hx))
  have h2:=map_rel (η:=η) (ρ:=ρ) (σ:=σ) (τ:=τ) (xs:=captured) (fun x hx=>hs x (by simp at hx ⊢;exact .inr hx))
  exact⟨_,rfl,.func_mk (.same (fun l e=>by subst e;exact hy rfl)) h1 h2⟩
 case slice t x lo hi mx=>
  have hx:=hs x (by simp)
  exact val (sliceA_ok hr hx (op_rel fun y e=>hs y (by simp [e])) (op_rel fun y e=>hs y (by simp [e])) (op_rel fun y e=>hs y (by simp [e])))
 case fieldAddr s x i=>
  have hx:=hs x (by simp)
  simp only [bind_ok,addrA_ok] at hr
  obtain⟨f,hf,a,⟨ha,_⟩,n,hn,hr⟩:=hr
  rw [ite_no,okk] at hr
  obtain⟨h0,rfl⟩:=hr
  rw [ha] at hx
  obtain⟨q,hq,hq2⟩:=hx.ptr_inv
  obtain⟨fs,hfs,hfi⟩:=fieldOff_ok hf
  refine val ⟨.pointer (some (q.add f.offset)),?_,(hq2.add _).ptr⟩
  simp only [Instr.fieldAt,Sem.run_bind,run_und hfs,Result.andThen_ok,hfi,hq,Instr.sureAddr,Sem.run_pure,run_place hn h0]
 case field t x i=>
  have hx:=hs x (by simp)
  simp only [bind_ok] at hr
  obtain⟨f,hf,hr⟩:=hr
  obtain⟨fs,hfs,hfi⟩:=fieldOff_ok hf
  split at hr
  ·rename_i cs hcs
   rw [hcs] at hx
   obtain⟨c,hc,hl⟩:=hx.agg_inv
   obtain⟨r,h1,h2⟩:=partA_ok (P:=P) (w:=w) hr hl
   refine val ⟨r,?_,h2⟩
   simp only [Instr.field,Sem.run_bind,run_und hfs,Result.andThen_ok,hfi,hc,asAgg,Sem.run_pure,h1]
  ·simp [no] at hr
 case indexAddr t x ix=>
  have hx:=hs x (by simp);have hix:=hs ix (by simp)
  simp only [bind_ok,intOfA_ok,undA_ok] at hr
  obtain⟨i,⟨k,hi⟩,d,hd,hr⟩:=hr
  rw [hi] at hix
  have hix:=hix.int_inv
  split at hr
  ·rename_i len elem a ha
   rw [ha] at hx
   obtain⟨q,hq,hq2⟩:=hx.ptr_inv
   simp only [bind_ok] at hr
   obtain⟨n,hn,hr⟩:=hr
   rw [ite_no',okk] at hr
   obtain⟨⟨h0,h1,_⟩,rfl⟩:=hr
   refine val ⟨.pointer (some (q.add (i.toNat * n))),?_,(hq2.add _).ptr⟩
   simp only [Instr.indexAt,Sem.run_bind,hix,run_asIntOf,run_und hd,Result.andThen_ok,hq,Instr.sureAddr,Sem.run_pure]
   rw [if_pos ⟨h0,h1⟩]
   simp only [Sem.run_bind,run_size hn,Result.andThen_ok];rfl
  ·rename_i elem a len c ha
   rw [ha] at hx
   obtain⟨a',c',hq,hc⟩:=hx.slice_inv3 (.inl rfl)
   obtain⟨q,rfl,hq2⟩:∃ q,a'=some q∧AdR ρ a q:=by
    rcases hc with⟨e,_⟩ | ⟨_,q,e,e',hq,_⟩ | ⟨_,q,_,_,_,_,e,e',hq,_⟩
    ·cases e
    ·cases e;exact⟨q,e',hq⟩
    ·cases e;exact⟨q,e',hq⟩
   simp only [bind_ok] at hr
   obtain⟨n,hn,hr⟩:=hr
   rw [ite_no',okk] at hr
   obtain⟨⟨h0,h1⟩,rfl⟩:=hr
   refine val ⟨.pointer (some (q.add (i.toNat * n))),?_,(hq2.add _).ptr⟩
   simp only [Instr.indexAt,Sem.run_bind,hix,run_asIntOf,run_und hd,Result.andThen_ok,hq,Sem.run_pure]
   rw [if_pos ⟨h0,h1⟩]
   simp only [Sem.run_bind,run_size hn,Result.andThen_ok];rfl
  ·simp [no] at hr
 case index t x ix=>
  have hx:=hs x (by simp);have hix:=hs ix (by simp)
  simp only [bind_ok,intOfA_ok,undA_ok] at hr
  obtain⟨i,⟨k,hi⟩,d,hd,hr⟩:=hr
  rw [hi] at hix
  have hix:=hix.int_inv
  split at hr
  ·rename_i len elem cs ha
   rw [ha] at hx
   obtain⟨c,hc,hl⟩:=hx.agg_inv
   simp only [bind_ok] at hr
   obtain⟨n,hn,hr⟩:=hr
   rw [ite_no'] at hr
   obtain⟨h0,hr⟩:=hr
   obtain⟨r,h1,h2⟩:=partA_ok (P:=P) (w:=w) hr hl
   refine val ⟨r,?_,h2⟩
   simp only [Instr.index,Sem.run_bind,hix,run_asIntOf,run_und hd,Result.andThen_ok,hc]
   rw [if_pos h0]
   simp only [Sem.run_bind,run_size hn,Result.andThen_ok,h1]
  ·rename_i s ha
   rw [ha] at hx
   have hx:=hx.string_inv
   rw [ite_no'] at hr
   obtain⟨h0,hr⟩:=hr
   split at hr
   ·rename_i b hb
    rw [okk] at hr;subst hr
    refine val ⟨.int .u8 b.toNat,?_,.int _ _⟩
    have hb':s[i.toNat]? = some b:=by
     have hl:i.toNat<s.data.toList.length:=(List.getElem?_eq_some_iff.1 hb).1
     rw [ByteArray.getElem?_lt' s _ hl]
     rw [List.getElem?_eq_getElem hl] at hb
     injection hb with hb;rw [← hb];rfl
    simp only [Instr.index,Sem.run_bind,hix,run_asIntOf,run_und hd,Result.andThen_ok,hx,h0,if_true,hb',Sem.run_pure]
   ·simp [no] at hr
  ·simp [no] at hr
 case lookup t x k ok=>exact val (lookA_ok H hr (hs x (by simp)) (hs k (by simp)))
 case typeAssert x xt at_ ok=>exact val (assert_ok (hs x (by simp)) hr)
 case extract x i=>
  have hx:=hs x (by simp)
  split at hr
  ·rename_i vs hv
   rw [hv] at hx
   obtain⟨c,hc,hl⟩:=hx.tuple_inv
   rw [orNo_ok] at hr
   obtain⟨y,hy,hvy⟩:=hl.get hr
   refine val ⟨y,?_,hvy⟩
   have:c[i]? = some y:=by simpa using hy
   simp only [hc,Instr.extract,this];rfl
  ·simp [no] at hr
 case call c=>
  obtain⟨callee,args,argTypes⟩:=c
  cases callee with
  | builtin b=>
   simp only [ite_no] at hr
   obtain⟨hne,hr⟩:=hr
   have ha:=map_rel (η:=η) (ρ:=ρ) (σ:=σ) (τ:=τ) (xs:=args) (fun x hx=>hs x (by simp [Call.operands];simpa using hx))
   exact readB_ok H (fun e=>hne (by rw [e];rfl)) hr ha
  | value f=>simp [no] at hr
  | invoke r n=>simp [no] at hr
end
end Go.Ev

namespace Go.Ev
variable {η:Nat→Value}
theorem rep_len(z:List Value):∀ c,(rep z c).length=c * z.length
 | 0=>by simp [rep]
 | c+1=>by rw [rep,List.length_append,rep_len z c,Nat.add_mul];omega
theorem rep_get(z:List Value):∀ (c i:Nat),i<c * z.length→(rep z c)[i]? = z[i % z.length]?
 | 0,i,h=>by omega
 | c+1,i,h=>by
  rw [rep]
  by_cases hi:i<z.length
  ·rw [List.getElem?_append_left hi,Nat.mod_eq_of_lt hi]
  ·rw [List.getElem?_append_right (by omega),rep_get z c (i - z.length) (by rw [Nat.add_mul] at h;omega)]
   congr 1
   conv=>rhs;rw [show i=(i - z.length)+z.length by omega]
   rw [Nat.add_mod_right]
theorem range_rep {z : Array Value} {c n : Nat} (hn : n = c * z.toList.length) : ((Array.range n).map (z[· % z.size]!)).toList = rep z.toList c := by
  apply List.ext_getElem?
  intro i
  have hz : z.size = z.toList.length := rfl
  by_cases hi : i < n
  · rw [rep_get _ _ _ (by omega)]
    have hpos : 0 < z.toList.length := by rcases Nat.eq_zero_or_pos z.toList.length with h | h
                                          · rw [h] at hn; simp at hn; omega
                                          · exact h
    have hm : i % z.size < z.size := Nat.mod_lt _ hpos
    simp [Array.getElem?_range, hi, hm]
  · rw [List.getElem?_eq_none (by simp; omega), List.getElem?_eq_none (by rw [rep_len]; omega)]
theorem wrap_small{n:Int}(h0:0≤n)(h1:n<9223372036854775808):IntKind.i64.wrap n=n:=by
 have e1:(2:Int) ^ IntKind.i64.bits=18446744073709551616:=by decide
 have e2:(2:Int) ^ (IntKind.i64.bits - 1)=9223372036854775808:=by decide
 have e3:IntKind.i64.signed=true:=rfl
 unfold IntKind.wrap
 simp only [e1,e2,e3]
 have:n % 18446744073709551616=n:=Int.emod_eq_of_lt h0 (by omega)
 rw [this,if_neg (by simp;omega)]
theorem LR.rep{ρ:Env}{z:List Value}(hz:LR η ρ z z):∀ c,LR η ρ (Ev.rep z c) (Ev.rep z c)
 | 0=>.nil
 | c+1=>hz.append (LR.rep hz c)
theorem CR.new{ρ:Env}{ty:TypeId}{c:List Value}{C:Array Value}{p:Bool}(hl:LR η ρ c C.toList):OR η ρ (.cells ty c p 2) 0 C.size (.cells C ty):=
 ⟨C,ty,0,0,rfl,rfl,by simp,by rw [hl.len];exact Nat.le_refl _,fun i v h=>by
  obtain⟨x,h1,h2⟩:=hl.get h
  exact⟨x,by rw [Nat.zero_add];exact h1,h2⟩,fun _=>⟨rfl,rfl,rfl,by rw [hl.len];rfl⟩,fun _ i _ h=>by omega⟩
def wpush(w:World)(o:Obj):World:={ w with heap:=w.heap.push o }
theorem run_newRow{P:Program}{w:World}{elem:TypeId}{cells:Array Value}:(newRow elem cells).run P w = .ok ⟨w.heap.size,0,none⟩ (wpush w (.cells cells elem)):=rfl
theorem run_newVar{P:Program}{w:World}{elem:TypeId}{v:Value}:(newVar elem v).run P w = .ok ⟨w.heap.size,0,none⟩ (wpush w (.cells v.cells elem)):=rfl
structure Pushed (w w':World) (o:Obj):Prop where
 heap:w'.heap=w.heap.push o
 os:w'.os=w.os
 tape:w'.tape=w.tape
 output:w'.output=w.output
section
variable {P:Program} {ρ:Env} {w:World}
theorem VR.ptr_new{ρ':Env}{r g n:Nat}(h:ρ' r=some (g,0,n)):VR η ρ' (.pointer (some ⟨r,0,none⟩)) (.pointer (some ⟨g,0,none⟩)):=by
 have:=VR.ptr (η:=η) (o:=0) h
 exact this
theorem VR.slice_new{ρ':Env}{r g n l c:Nat}(h:ρ' r=some (g,0,n))(hc:isU c=false):VR η ρ' (.slice (some ⟨r,0,none⟩) l c) (.slice (some ⟨g,0,none⟩) l c):=by
 have:=VR.slice (η:=η) (o:=0) l c h hc
 exact this
theorem isU_small{c:Nat}(h:c<9223372036854775808):isU c=false:=by
 simp only [isU,decide_eq_false_iff_not]
 have:capB=9223372036854775808:=rfl
 omega
def AOut(η:Nat→Value)(ρ:Env)(P:Program)(w:World)(s:Sem Value)(r:Nat)(v:Value)(b:AObj):Prop:=
 ∃ x w' ob n,s.run P w = .ok x w'∧Pushed w w' ob∧∀ ρ',Env.le ρ ρ'→ρ' r=some (w.heap.size,0,n)→VR η ρ' v x∧OR η ρ' b 0 n ob
theorem zeros_ok(hη:OneCells η){elem:TypeId}{c size:Nat}{z:List Value}(hz:(if c * size=0 then .ok [] else do .ok (cellsL (← zeroA P elem)):M (List Value)) = .ok z)(hzl:¬ (c * size ≠ 0∧z.length ≠ size)) :
  (c * size=0∧z=[]∧LR η ρ (rep z c) ((Array.range (c * size)).map ((#[]:Array Value)[· % (#[]:Array Value).size]!)).toList)∨
  (c * size ≠ 0∧∃ zv,zeroA P elem = .ok zv∧LR η ρ (rep z c) ((Array.range (c * size)).map (zv.cells[· % zv.cells.size]!)).toList):=by
 have hnil:∀ c,rep [] c=[]:=fun c=>by induction c with
  | zero=>rfl
  | succ c ih=>simp [rep,ih]
 by_cases h0:c * size=0
 ·rw [if_pos h0,okk] at hz;subst hz
  refine .inl ⟨h0,rfl,?_⟩
  rw [hnil,h0]
  exact⟨by simp,fun i v x hv=>by simp at hv⟩
 ·rw [if_neg h0] at hz
  simp only [bind_ok] at hz
  obtain⟨zv,hzv,hz⟩:=hz
  rw [okk] at hz;subst hz
  have hl:=(VR.zero (η:=η) (ρ:=ρ) hzv).cells hη
  have he:cellsL zv=zv.cells.toList:=by cases zv <;> rfl
  have hlen:(cellsL zv).length=size:=by
   rcases Decidable.em ((cellsL zv).length=size) with h | h
   ·exact h
   ·exact absurd ⟨h0,h⟩ hzl
  refine .inr ⟨h0,zv,hzv,?_⟩
  rw [range_rep (c:=c) (by rw [← he,hlen]),he]
  rw [he] at hl
  exact LR.rep hl _
theorem buildSlice_ok(hη:OneCells η){t elem:TypeId}{len size:Nat}{ps:List (Nat × Value)}{ps':Array (Nat × Value)}{z cs:List Value}{r:Nat}(hd:P.underlying t=some (.slice elem))(hsz:sizeA P elem = .ok size)
  (hbig:¬ (len * size > 65536∨len > 65536)) (hz:(if len * size=0 then .ok [] else do .ok (cellsL (← zeroA P elem)):M (List Value)) = .ok z) (hzl:¬ (len * size ≠ 0∧z.length ≠ size))
  (hcs:fillA (fun i=>some (i * size,size)) (rep z len) ps = .ok cs) (hp:L2 (fun p q:Nat × Value=>p.1=q.1∧VR η ρ p.2 q.2) ps ps'.toList) :
  AOut η ρ P w (Instr.buildSlice t len ps') r (.slice (some ⟨r,0,none⟩) len len) (.cells elem cs true 2):=by
 have hlen:isU len=false:=isU_small (by omega)
 rcases zeros_ok (η:=η) (ρ:=ρ) hη hz hzl with⟨h0,_,hLR⟩ | ⟨h0,zv,hzv,hLR⟩
 ·obtain⟨C,hC,hCr⟩:=fillA_ok hη hp hcs hLR
  refine⟨.slice (some ⟨w.heap.size,0,none⟩) len len,wpush w (.cells C elem),.cells C elem,C.size,?_,⟨rfl,rfl,rfl,rfl⟩,fun ρ' hl hρ=>⟨VR.slice_new hρ hlen,CR.new (hCr.mono hl)⟩⟩
  simp only [Instr.buildSlice,Sem.run_bind,run_und hd,Result.andThen_ok,run_size hsz]
  rw [if_neg (by omega)]
  simp only [h0] at hC ⊢
  simp only [if_true,Sem.run_bind,Sem.run_pure,Result.andThen_ok]
  rw [hC]
  simp only [Sem.run_bind,run_newRow,Result.andThen_ok];rfl
 ·obtain⟨C,hC,hCr⟩:=fillA_ok hη hp hcs hLR
  refine⟨.slice (some ⟨w.heap.size,0,none⟩) len len,wpush w (.cells C elem),.cells C elem,C.size,?_,⟨rfl,rfl,rfl,rfl⟩,fun ρ' hl hρ=>⟨VR.slice_new hρ hlen,CR.new (hCr.mono hl)⟩⟩
  simp only [Instr.buildSlice,Sem.run_bind,run_und hd,Result.andThen_ok,run_size hsz]
  rw [if_neg (by omega),if_neg h0]
  simp only [Sem.run_bind,run_zero hzv,Sem.run_pure,Result.andThen_ok]
  rw [hC]
  simp only [Sem.run_bind,run_newRow,Result.andThen_ok];rfl
theorem makeSlice_ok(hη:OneCells η){t elem:TypeId}{li ci:Int}{lk ck:IntKind}{ei:TypeInfo}{z:List Value}{r:Nat}(hd:P.underlying t=some (.slice elem))(hei:P.info? elem=some ei)
  (hb:¬ (li<0∨ci<li∨ci > 1000000∨ei.bytes > 65536)) (hz:(if ci.toNat * ei.size=0 then .ok [] else do .ok (cellsL (← zeroA P elem)):M (List Value)) = .ok z) (hzl:¬ (ci.toNat * ei.size ≠ 0∧z.length ≠ ei.size)) :
  AOut η ρ P w (Instr.makeSlice t (.int lk li) (.int ck ci)) r (.slice (some ⟨r,0,none⟩) li.toNat ci.toNat) (.cells elem (rep z ci.toNat) true 2):=by
 simp only [not_or,Int.not_lt,gt_iff_lt,Nat.not_lt] at hb
 obtain⟨hl0,hcl,hc1,hby⟩:=hb
 have hsz:sizeA P elem = .ok ei.size:=sizeA_ok.2 ⟨ei,hei,rfl⟩
 have wl:IntKind.i64.wrap li=li:=wrap_small hl0 (by omega)
 have wc:IntKind.i64.wrap ci=ci:=wrap_small (by omega) (by omega)
 have hbig:¬ ((ei.bytes:Int) * ci > 2 ^ 48):=by
  have:(ei.bytes:Int) * ci≤65536 * 1000000:=Int.mul_le_mul (by omega) hc1 (by omega) (by omega)
  omega
 have hlen:isU ci.toNat=false:=isU_small (by omega)
 rcases zeros_ok (η:=η) (ρ:=ρ) hη hz hzl with⟨h0,_,hLR⟩ | ⟨h0,zv,hzv,hLR⟩
 ·refine⟨.slice (some ⟨w.heap.size,0,none⟩) li.toNat ci.toNat,wpush w (.cells _ elem),.cells _ elem,_,?_,⟨rfl,rfl,rfl,rfl⟩,fun ρ' hl hρ=>⟨VR.slice_new hρ hlen,CR.new (hLR.mono hl)⟩⟩
  simp only [Instr.makeSlice,Sem.run_bind,run_und hd,Result.andThen_ok,asInt,run_asIntOf,Sem.run_pure,run_info hei,wl,wc]
  rw [if_neg (by simp only [Bool.or_eq_true,decide_eq_true_eq];omega)]
  simp only [Sem.run_bind,Sem.run_pure,run_askRoom,Result.andThen_ok,run_size hsz]
  simp only [h0,if_true,Sem.run_bind,Sem.run_pure,Result.andThen_ok,run_newRow]
 ·refine⟨.slice (some ⟨w.heap.size,0,none⟩) li.toNat ci.toNat,wpush w (.cells _ elem),.cells _ elem,_,?_,⟨rfl,rfl,rfl,rfl⟩,fun ρ' hl hρ=>⟨VR.slice_new hρ hlen,CR.new (hLR.mono hl)⟩⟩
  simp only [Instr.makeSlice,Sem.run_bind,run_und hd,Result.andThen_ok,asInt,run_asIntOf,Sem.run_pure,run_info hei,wl,wc]
  rw [if_neg (by simp only [Bool.or_eq_true,decide_eq_true_eq];omega)]
  simp only [Sem.run_bind,Sem.run_pure,run_askRoom,Result.andThen_ok,run_size hsz]
  rw [if_neg h0]
  simp only [Sem.run_bind,run_zero hzv,Sem.run_pure,Result.andThen_ok,run_newRow]
theorem toBytes_ok{e:TypeId}{s:ByteArray}{r:Nat}(hbig:s.size≤1000000):AOut η ρ P w (Conv.stringToBytes e s) r (.slice (some ⟨r,0,none⟩) s.size (capU 1)) (.cells e (bytesV s.data.toList) false 2):=by
 generalize hq:(Question.appendCap s.size 0 e).cut (w.tape w.drawn (Question.appendCap s.size 0 e))=cap
 have hcap:s.size≤cap:=by rw [← hq];simp only [Question.cut];omega
 have hcb:cap<capB:=by
  rw [← hq];simp only [Question.cut];unfold capB
  have:=Nat.mod_lt (w.tape w.drawn (Question.appendCap s.size 0 e)) (show 0<2 ^ 63 - s.size by omega)
  omega
 have hch:(choose (.appendCap s.size 0 e)).run P w = .ok cap { w with drawn:=w.drawn+1 }:=by
  rw [run_choose,hq];simp [Question.forced]
 obtain⟨C,hC⟩:∃ C:Array Value,s.data.map (fun b=>Value.int .u8 b.toNat) ++ Array.replicate (cap - s.size) (.int .u8 0)=C:=⟨_,rfl⟩
 have hCl:C.toList=bytesV s.data.toList ++ List.replicate (cap - s.size) (.int .u8 0):=by rw [← hC];simp [bytesV]
 have hbl:(bytesV s.data.toList).length=s.size:=by rw [bytesV,List.length_map];rfl
 have hCs:C.size=cap:=by
  have:C.size=C.toList.length:=rfl
  rw [this,hCl,List.length_append,hbl,List.length_replicate];omega
 refine⟨.slice (some ⟨w.heap.size,0,none⟩) s.size cap,{ wpush w (.cells C e (cap,cap+1)) with drawn:=w.drawn+1 },.cells C e (cap,cap+1),cap,?_,⟨rfl,rfl,rfl,rfl⟩,fun ρ' hle hρ=>⟨?_,?_⟩⟩
 ·simp only [Conv.stringToBytes,Sem.run_bind,hch,Result.andThen_ok,hC,run_newRow]
  have hfz:({ w with drawn:=w.drawn+1 }:World).heap.size=w.heap.size:=rfl
  simp only [markStringish,Sem.run_bind,run_shape,Result.andThen_ok]
  have hsh:(wpush { w with drawn:=w.drawn+1 } (.cells C e)).shape? w.heap.size=some (e,cap):=by
   simp only [World.shape?,wpush,Array.getElem?_push,if_true,hCs]
  rw [hfz,hsh]
  simp only [run_freeze,Result.andThen_ok,Sem.run_pure]
  congr 1
  simp only [World.freeze,wpush]
  rw [if_neg (by omega)]
  congr 1
  apply Array.ext_getElem?
  intro k
  rw [Array.getElem?_modify,Array.getElem?_push,Array.getElem?_push]
  by_cases hk:k=w.heap.size
  ·subst hk;simp
  ·rw [if_neg (fun e=>hk e.symm),if_neg hk,if_neg hk]
 ·have:=VR.sliceU (η:=η) (ρ:=ρ') (o:=0) s.size 1 cap hρ (by omega) (by omega) hcap hcb
  exact this
 ·refine⟨C,e,cap,cap+1,rfl,⟨rfl,?_,?_,?_,(fun h=>absurd h (by decide)),(fun _ i hi h=>by omega)⟩⟩
  ·have:C.toList.length=C.size:=rfl
   omega
  ·rw [hbl];exact hcap
  ·intro i u hu
   refine⟨u,?_,?_⟩
   ·rw [hCl,Nat.zero_add,List.getElem?_append_left (List.getElem?_eq_some_iff.1 hu).1];exact hu
   ·simp only [bytesV,List.getElem?_map,Option.map_eq_some_iff] at hu
    obtain⟨b,_,rfl⟩:=hu
    exact .int _ _
theorem allocA_ok(hη:OneCells η){o:Oper}{σ τ:Operand→Value}(hs:∀ x ∈ o.op.operands.toList,VR η ρ (σ x) (τ x)){r:Nat}{v:Value}{b:AObj}(hr:allocA P σ o r = .ok (v,b)) :
  ownO b=true∧∃ x w' ob n,(execOp τ o).run P w = .ok (.value x) w'∧Pushed w w' ob∧∀ ρ',Env.le ρ ρ'→ρ' r=some (w.heap.size,0,n)→VR η ρ' v x∧OR η ρ' b 0 n ob:=by
 obtain⟨dst,op,type,pos,after,guard⟩:=o
 have val:∀ {s:Sem Value},AOut η ρ P w s r v b→∃ x w' ob n,((do pure (.value (← s)):Sem Next)).run P w = .ok (.value x) w'∧Pushed w w' ob∧∀ ρ',Env.le ρ ρ'→ρ' r=some (w.heap.size,0,n)→VR η ρ' v x∧OR η ρ' b 0 n ob:=by
  rintro s ⟨x,w',ob,n,h1,h2,h3⟩
  exact⟨x,w',ob,n,by simp only [Sem.run_bind,h1,Result.andThen_ok];rfl,h2,h3⟩
 unfold allocA at hr
 dsimp only at hr
 simp only [] at hs
 split at hr
 ·rename_i elem
  simp only [Op.operands] at hs
  simp only [bind_ok] at hr
  obtain⟨z,hz,hr⟩:=hr
  rw [okk] at hr;injection hr with e1 e2;subst e1;subst e2
  exact⟨rfl,val (s:=Instr.alloc elem true (.tuple #[])) ⟨.pointer (some ⟨w.heap.size,0,none⟩),wpush w (.cells z.cells elem),.cells z.cells elem,z.cells.size,by simp only [Instr.alloc,Sem.run_bind,run_zero hz,Result.andThen_ok,run_newVar];rfl,⟨rfl,rfl,rfl,rfl⟩,fun ρ' hl hρ=>⟨VR.ptr_new hρ,CR.new (((VR.zero hz).cells hη))⟩⟩⟩
 ·rename_i elem x
  simp only [Op.operands] at hs
  rw [okk] at hr;injection hr with e1 e2;subst e1;subst e2
  have hx:=hs x (by simp)
  exact⟨rfl,val (s:=Instr.box elem (τ x)) ⟨.pointer (some ⟨w.heap.size,0,none⟩),wpush w (.cells (τ x).cells elem),.cells (τ x).cells elem,(τ x).cells.size,by simp only [Instr.box,Sem.run_bind,run_newVar,Result.andThen_ok];rfl,⟨rfl,rfl,rfl,rfl⟩,fun ρ' hl hρ=>⟨VR.ptr_new hρ,CR.new ((hx.mono hl).cells hη)⟩⟩⟩
 ·rename_i t len parts
  simp only [Op.operands] at hs
  simp only [bind_ok,undA_ok] at hr
  obtain⟨d,hd,hr⟩:=hr
  split at hr
  ·rename_i elem
   simp only [bind_ok] at hr
   obtain⟨size,hsz,hr⟩:=hr
   rw [ite_no] at hr
   obtain⟨hbig,hr⟩:=hr
   simp only [bind_ok] at hr
   obtain⟨z,hz,hr⟩:=hr
   rw [ite_no] at hr
   obtain⟨hzl,hr⟩:=hr
   simp only [bind_ok] at hr
   obtain⟨cs,hcs,hr⟩:=hr
   rw [okk] at hr;injection hr with e1 e2;subst e1;subst e2
   have hp:=parts_rel (η:=η) (ρ:=ρ) (σ:=σ) (τ:=τ) (ps:=parts) (fun p hp=>hs p.2 (by simp;exact⟨p.1,by simpa using hp⟩))
   exact⟨rfl,val (buildSlice_ok hη hd hsz hbig hz hzl hcs hp)⟩
  ·simp [no] at hr
 ·rename_i t hint
  simp only [Op.operands] at hs
  simp only [bind_ok,undA_ok] at hr
  obtain⟨d,hd,hr⟩:=hr
  split at hr
  ·rw [okk] at hr;injection hr with e1 e2;subst e1;subst e2
   exact⟨rfl,val (s:=Instr.makeMap t none) ⟨.map (some w.heap.size),wpush w (.map #[] 0),.map #[] 0,0,rfl,⟨rfl,rfl,rfl,rfl⟩,fun ρ' hl hρ=>⟨.map hρ,⟨#[],rfl,.nil⟩⟩⟩⟩
  ·rename_i k e x
   simp only [bind_ok,intOfA_ok] at hr
   obtain⟨i,⟨kk,hi⟩,hr⟩:=hr
   rw [okk] at hr;injection hr with e1 e2;subst e1;subst e2
   have hx:=hs x (by simp)
   rw [hi] at hx
   have hx:=hx.int_inv
   exact⟨rfl,val (s:=Instr.makeMap t (some (τ x))) ⟨.map (some w.heap.size),wpush w (.map #[] 0),.map #[] 0,0,by simp only [Instr.makeMap,Sem.run_bind,run_und hd,Result.andThen_ok,hx,asInt,run_asIntOf,Sem.run_pure];rfl,⟨rfl,rfl,rfl,rfl⟩,fun ρ' hl hρ=>⟨.map hρ,⟨#[],rfl,.nil⟩⟩⟩⟩
  ·simp [no] at hr
 ·rename_i t l c
  simp only [Op.operands] at hs
  simp only [bind_ok,undA_ok] at hr
  obtain⟨d,hd,hr⟩:=hr
  split at hr
  ·rename_i elem
   simp only [bind_ok,intOfA_ok,infoA_ok] at hr
   obtain⟨li,⟨lk,hli⟩,ci,⟨ck,hci⟩,ei,hei,hr⟩:=hr
   rw [ite_no] at hr
   obtain⟨hb,hr⟩:=hr
   simp only [bind_ok] at hr
   obtain⟨z,hz,hr⟩:=hr
   rw [ite_no] at hr
   obtain⟨hzl,hr⟩:=hr
   rw [okk] at hr;injection hr with e1 e2;subst e1;subst e2
   have hl:=hs l (by simp);have hc:=hs c (by simp)
   rw [hli] at hl;rw [hci] at hc
   have hl:=hl.int_inv;have hc:=hc.int_inv
   have:=makeSlice_ok (η:=η) (ρ:=ρ) (P:=P) (w:=w) (r:=r) (lk:=lk) (ck:=ck) hη hd hei hb hz hzl
   rw [← hl,← hc] at this
   exact⟨rfl,val this⟩
  ·simp [no] at hr
 ·rename_i src dst x
  simp only [Op.operands] at hs
  simp only [bind_ok,undA_ok] at hr
  obtain⟨sd,hsd,dd,hdd,hr⟩:=hr
  have hx:=hs x (by simp)
  split at hr
  ·rename_i e s hse
   simp only [bind_ok,undA_ok] at hr
   obtain⟨ed,hed,hr⟩:=hr
   rw [hse] at hx
   have hx:=hx.string_inv
   split at hr
   ·rw [ite_no,okk] at hr
    obtain⟨hbig,hr⟩:=hr
    injection hr with e1 e2;subst e1;subst e2
    obtain⟨y,w',ob,n,h1,h2⟩:=toBytes_ok (η:=η) (ρ:=ρ) (P:=P) (w:=w) (e:=e) (s:=s) (r:=r) (by omega)
    refine⟨rfl,val (s:=convert src dst (τ x)) ⟨y,w',ob,n,?_,h2⟩⟩
    have hcv:convert src dst (τ x)=convert src dst (.string s):=by rw [hx]
    rw [hcv]
    simp only [convert,Sem.run_bind,run_und hsd,run_und hdd,Result.andThen_ok]
    have:∀ (u:TypeDesc) (K:TypeDesc→Sem Value),True:=fun _ _=>trivial
    simp only [Sem.run_bind,run_und hed,Result.andThen_ok,h1]
   ·simp [no] at hr
  ·simp [no] at hr
 ·simp [no] at hr
end
end Go.Ev

namespace Go.Ev
variable {η:Nat→Value}
structure Pre (η:Nat→Value) (P:Program) (ρ:Env) (B:Bd) (h:AH) (w:World):Prop where
 hr:HR η ρ B h w
 fresh:FreshR ρ h.next
 glob:GR P ρ
 low:B.n≤w.heap.size
structure Post (η:Nat→Value) (ρ:Env) (B:Bd) (h:AH) (w:World) (ρ':Env) (h':AH) (w':World):Prop where
 le:Env.le ρ ρ'
 old:∀ r,r<h.next→ρ' r=ρ r
 fresh:FreshR ρ' h'.next
 next:h.next≤h'.next
 hr:HR η ρ' B h' w'
 fr:Fr ρ h w w'
 own:OwnIn ρ ρ' h h' w
 inn:∀ b,(∃ r a d n,h'.objs.get r=some a∧ρ' r=some (b,d,n))→(∃ r a d n,h.objs.get r=some a∧ρ r=some (b,d,n))∨w.heap.size≤b
section
variable {P:Program} {ρ:Env} {B:Bd} {h:AH} {w:World}
theorem Pre.get_lt(p:Pre η P ρ B h w){r:Nat}{a:AObj}(hg:h.objs.get r=some a):r<h.next:=by
 rcases Nat.lt_or_ge r h.next with hl | hl
 ·exact hl
 ·obtain⟨b,d,n,o,h1,_⟩:=p.hr.obj r a hg
  rw [p.fresh r hl] at h1;cases h1
theorem Pre.post{ρ':Env}{h':AH}{w':World}(p:Pre η P ρ B h w)(q:Post η ρ B h w ρ' h' w'):Pre η P ρ' B h' w':=
 ⟨q.hr,q.fresh,p.glob.mono q.le,Nat.le_trans p.low q.fr.size⟩
theorem Post.refl(p:Pre η P ρ B h w):Post η ρ B h w ρ h w:=
 ⟨Env.le_refl _,fun _ _=>rfl,p.fresh,Nat.le_refl _,p.hr,Fr.refl _ _ _,OwnIn.refl _ _ _,fun _ h=>.inl h⟩
theorem Post.trans{ρ' ρ'':Env}{h' h'':AH}{w' w'':World}(q:Post η ρ B h w ρ' h' w')(r:Post η ρ' B h' w' ρ'' h'' w''):Post η ρ B h w ρ'' h'' w'':=
 ⟨Env.le_trans q.le r.le,fun k hk=>(r.old k (Nat.lt_of_lt_of_le hk q.next)).trans (q.old k hk),r.fresh,Nat.le_trans q.next r.next,r.hr,q.fr.trans q.own r.fr,q.own.trans q.fr.size r.own,fun b hb=>by
  rcases r.inn b hb with h1 | h1
  ·exact q.inn b h1
  ·have:=q.fr.size;exact .inr (by omega)⟩
theorem pushed_old{w w':World}{o:Obj}(hp:Pushed w w' o){k:Nat}(hk:k<w.heap.size):w'.heap[k]? = w.heap[k]?:=by
 rw [hp.heap,Array.getElem?_push,if_neg (by omega)]
theorem pushed_new{w w':World}{o:Obj}(hp:Pushed w w' o):w'.heap[w.heap.size]? = some o:=by
 rw [hp.heap,Array.getElem?_push,if_pos rfl]
theorem Post.new(p:Pre η P ρ B h w){w':World}{ob:Obj}(hp:Pushed w w' ob){n:Nat}{a:AObj}(objs:T AObj)(hsub:∀ r x,objs.get r=some x→h.objs.get r=some x)
  (hO:OR η (ρ.put h.next (w.heap.size,0,n)) a 0 n ob):Post η ρ B h w (ρ.put h.next (w.heap.size,0,n)) (newA { h with objs } a).2 w':=by
 have hn:=p.fresh h.next (Nat.le_refl _)
 have hle:=Env.le_put (t:=(w.heap.size,0,n)) hn
 refine⟨hle,fun r hr=>Env.put_ne _ _ (by omega),fun r hr=>?_,by simp [newA],⟨?_,?_,?_⟩,⟨hp.os,hp.tape,hp.output,by rw [hp.heap];simp,fun k hk _=>pushed_old hp hk⟩,?_,?_⟩
 ·simp only [newA] at hr
  rw [Env.put_ne _ _ (by omega)];exact p.fresh r (by omega)
 ·intro r x hx
  simp only [newA,T.get_set] at hx
  by_cases hr:r=h.next
  ·rw [if_pos hr] at hx;cases hx;subst hr
   exact⟨_,_,_,_,Env.put_at _ _ _,pushed_new hp,hO,fun _=>p.low⟩
  ·rw [if_neg hr] at hx
   obtain⟨b,d,m,o,h1,h2,h3,h4⟩:=p.hr.obj r x (hsub _ _ hx)
   exact⟨b,d,m,o,hle _ _ h1,by rw [pushed_old hp (heap_lt h2)];exact h2,h3.mono hle,h4⟩
 ·intro r r' x x' b d m d' m' hx hx' e e'
  simp only [newA,T.get_set] at hx hx'
  by_cases hr:r=h.next
  ·by_cases hr':r'=h.next
   ·exact .inl (by rw [hr,hr'])
   ·rw [if_neg hr'] at hx'
    subst hr
    rw [Env.put_at] at e;cases e
    rw [Env.put_ne _ _ hr'] at e'
    obtain⟨b2,d2,m2,o2,h1,h2,_⟩:=p.hr.obj r' x' (hsub _ _ hx')
    rw [e'] at h1;cases h1
    exact absurd (heap_lt h2) (by omega)
  ·rw [if_neg hr] at hx
   by_cases hr':r'=h.next
   ·subst hr'
    rw [Env.put_at] at e';cases e'
    rw [Env.put_ne _ _ hr] at e
    obtain⟨b2,d2,m2,o2,h1,h2,_⟩:=p.hr.obj r x (hsub _ _ hx)
    rw [e] at h1;cases h1
    exact absurd (heap_lt h2) (by omega)
   ·rw [if_neg hr'] at hx'
    rw [Env.put_ne _ _ hr] at e
    rw [Env.put_ne _ _ hr'] at e'
    exact p.hr.inj r r' x x' b d m d' m' (hsub _ _ hx) (hsub _ _ hx') e e'
 ·intro r x b d m hx e hS
  simp only [newA,T.get_set] at hx
  by_cases hr:r=h.next
  ·subst hr
   rw [Env.put_at] at e;cases e
   have:=B.lt _ hS
   have:=p.low
   omega
  ·rw [if_neg hr] at hx
   rw [Env.put_ne _ _ hr] at e
   exact p.hr.sh r x b d m (hsub _ _ hx) e hS
 ·rintro b ⟨r,x,d,m,hx,ho,e⟩
  simp only [newA,T.get_set] at hx
  by_cases hr:r=h.next
  ·subst hr
   rw [Env.put_at] at e;cases e
   exact .inr (Nat.le_refl _)
  ·rw [if_neg hr] at hx
   rw [Env.put_ne _ _ hr] at e
   exact .inl ⟨r,x,d,m,hsub _ _ hx,ho,e⟩
 ·rintro b ⟨r,x,d,m,hx,e⟩
  simp only [newA,T.get_set] at hx
  by_cases hr:r=h.next
  ·subst hr
   rw [Env.put_at] at e;cases e
   exact .inr (Nat.le_refl _)
  ·rw [if_neg hr] at hx
   rw [Env.put_ne _ _ hr] at e
   exact .inl ⟨r,x,d,m,hsub _ _ hx,e⟩
theorem Post.put(p:Pre η P ρ B h w){r b d n:Nat}{a a':AObj}{o':Obj}{w':World}(hg:h.objs.get r=some a)(ho:ownO a=true)(he:ρ r=some (b,d,n))(hw:w'=wput w b o')
  (hO:OR η ρ a' d n o'):Post η ρ B h w ρ (putA h r a') w':=by
 subst hw
 have hlt:=p.get_lt hg
 obtain⟨b0,d0,n0,o0,e0,hb,_,hB⟩:=p.hr.obj r a hg
 rw [he] at e0;cases e0
 refine⟨Env.le_refl _,fun _ _=>rfl,p.fresh,Nat.le_refl _,⟨?_,?_,?_⟩,⟨rfl,rfl,rfl,by simp [wput],?_⟩,?_,?_⟩
 ·intro r' x hx
  simp only [putA,T.get_set] at hx
  by_cases hr:r'=r
  ·rw [if_pos hr] at hx;cases hx;subst hr
   exact⟨b,d,n,o',he,by rw [wput_get,if_pos ⟨rfl,heap_lt hb⟩],hO,fun _=>hB ho⟩
  ·rw [if_neg hr] at hx
   obtain⟨b1,d1,n1,o1,h1,h2,h3,h4⟩:=p.hr.obj r' x hx
   refine⟨b1,d1,n1,o1,h1,?_,h3,h4⟩
   rw [wput_get,if_neg]
   ·exact h2
   ·rintro ⟨e,_⟩
    subst e
    exact hr (p.hr.uni hx hg h1 he (sh_of_own ho))
 ·intro r1 r2 x1 x2 bb d1 m1 d2 m2 hx1 hx2 e1 e2
  simp only [putA,T.get_set] at hx1 hx2
  have g1:∃ y,h.objs.get r1=some y:=by
   by_cases hr:r1=r
   ·subst hr;exact⟨_,hg⟩
   ·rw [if_neg hr] at hx1;exact⟨_,hx1⟩
  have g2:∃ y,h.objs.get r2=some y:=by
   by_cases hr:r2=r
   ·subst hr;exact⟨_,hg⟩
   ·rw [if_neg hr] at hx2;exact⟨_,hx2⟩
  obtain⟨y1,hy1⟩:=g1
  obtain⟨y2,hy2⟩:=g2
  exact p.hr.inj r1 r2 y1 y2 _ _ _ _ _ hy1 hy2 e1 e2
 ·intro r1 x1 bb d1 m1 hx1 e1 hS
  simp only [putA,T.get_set] at hx1
  by_cases hr:r1=r
  ·subst hr
   have:=p.hr.sh _ a bb d1 m1 hg e1 hS
   rw [sh_of_own ho] at this;cases this
  ·rw [if_neg hr] at hx1
   exact p.hr.sh r1 x1 bb d1 m1 hx1 e1 hS
 ·intro k hk hno
  rw [wput_get,if_neg]
  rintro ⟨e,_⟩
  subst e
  exact hno ⟨r,a,d,n,hg,ho,he⟩
 ·rintro bb ⟨r',x,d',m',hx,hox,e⟩
  simp only [putA,T.get_set] at hx
  by_cases hr:r'=r
  ·subst hr
   rw [he] at e;cases e
   exact .inl ⟨r',a,d,n,hg,ho,he⟩
  ·rw [if_neg hr] at hx
   exact .inl ⟨r',x,d',m',hx,hox,e⟩
 ·rintro bb ⟨r',x,d',m',hx,e⟩
  simp only [putA,T.get_set] at hx
  by_cases hr:r'=r
  ·subst hr
   rw [he] at e;cases e
   exact .inl ⟨r',a,d,n,hg,he⟩
  ·rw [if_neg hr] at hx
   exact .inl ⟨r',x,d',m',hx,e⟩
theorem Post.move(p:Pre η P ρ B h w){r b d n d2 n2:Nat}{a a':AObj}{o':Obj}{w':World}(hg:h.objs.get r=some a)(ho:ownO a=true)(he:ρ r=some (b,d,n))(hw:w'=wput w b o')
  (hO:OR η (ρ.put h.next (b,d2,n2)) a' d2 n2 o'):Post η ρ B h w (ρ.put h.next (b,d2,n2)) (newA { h with objs:=h.objs.del r } a').2 w':=by
 subst hw
 have hlt:=p.get_lt hg
 have hn:=p.fresh h.next (Nat.le_refl _)
 have hle:=Env.le_put (t:=(b,d2,n2)) hn
 obtain⟨b0,d0,n0,o0,e0,hb,_,hB⟩:=p.hr.obj r a hg
 rw [he] at e0;cases e0
 have get:∀ r' x,((h.objs.del r).set h.next a').get r'=some x→r' ≠ h.next→r' ≠ r∧h.objs.get r'=some x:=by
  intro r' x hx hne
  rw [T.get_set,if_neg hne,T.get_del] at hx
  by_cases e:r'=r
  ·rw [if_pos e] at hx;cases hx
  ·rw [if_neg e] at hx;exact⟨e,hx⟩
 refine⟨hle,fun r hr=>Env.put_ne _ _ (by omega),fun r hr=>?_,by simp [newA],⟨?_,?_,?_⟩,⟨rfl,rfl,rfl,by simp [wput],?_⟩,?_,?_⟩
 ·simp only [newA] at hr
  rw [Env.put_ne _ _ (by omega)];exact p.fresh r (by omega)
 ·intro r' x hx
  simp only [newA] at hx
  by_cases hr:r'=h.next
  ·subst hr
   rw [T.get_set,if_pos rfl] at hx;cases hx
   exact⟨b,d2,n2,o',Env.put_at _ _ _,by rw [wput_get,if_pos ⟨rfl,heap_lt hb⟩],hO,fun _=>hB ho⟩
  ·obtain⟨hne,hx⟩:=get r' x hx hr
   obtain⟨b1,d1,n1,o1,h1,h2,h3,h4⟩:=p.hr.obj r' x hx
   refine⟨b1,d1,n1,o1,hle _ _ h1,?_,h3.mono hle,h4⟩
   rw [wput_get,if_neg]
   ·exact h2
   ·rintro ⟨e,_⟩
    subst e
    exact hne (p.hr.uni hx hg h1 he (sh_of_own ho))
 ·intro r1 r2 x1 x2 bb e1 m1 e2 m2 hx1 hx2 k1 k2
  simp only [newA] at hx1 hx2
  by_cases hr1:r1=h.next
  ·by_cases hr2:r2=h.next
   ·exact .inl (by rw [hr1,hr2])
   ·obtain⟨hne,hx2⟩:=get r2 x2 hx2 hr2
    subst hr1
    rw [Env.put_at] at k1;cases k1
    rw [Env.put_ne _ _ hr2] at k2
    exact absurd (p.hr.uni hx2 hg k2 he (sh_of_own ho)) hne
  ·obtain⟨hne1,hx1⟩:=get r1 x1 hx1 hr1
   rw [Env.put_ne _ _ hr1] at k1
   by_cases hr2:r2=h.next
   ·subst hr2
    rw [Env.put_at] at k2;cases k2
    exact absurd (p.hr.uni hx1 hg k1 he (sh_of_own ho)) hne1
   ·obtain⟨hne2,hx2⟩:=get r2 x2 hx2 hr2
    rw [Env.put_ne _ _ hr2] at k2
    exact p.hr.inj r1 r2 x1 x2 _ _ _ _ _ hx1 hx2 k1 k2
 ·intro r1 x1 bb d1 m1 hx1 e1 hS
  simp only [newA] at hx1
  by_cases hr:r1=h.next
  ·subst hr
   rw [Env.put_at] at e1;cases e1
   have:=p.hr.sh _ a _ _ _ hg he hS
   rw [sh_of_own ho] at this;cases this
  ·obtain⟨_,hx1⟩:=get r1 x1 hx1 hr
   rw [Env.put_ne _ _ hr] at e1
   exact p.hr.sh r1 x1 bb d1 m1 hx1 e1 hS
 ·intro k hk hno
  rw [wput_get,if_neg]
  rintro ⟨e,_⟩
  subst e
  exact hno ⟨r,a,d,n,hg,ho,he⟩
 ·rintro bb ⟨r',x,d',m',hx,hox,e⟩
  simp only [newA] at hx
  by_cases hr:r'=h.next
  ·subst hr
   rw [Env.put_at] at e;cases e
   exact .inl ⟨r,a,d,n,hg,ho,he⟩
  ·obtain⟨_,hx⟩:=get r' x hx hr
   rw [Env.put_ne _ _ hr] at e
   exact .inl ⟨r',x,d',m',hx,hox,e⟩
 ·rintro bb ⟨r',x,d',m',hx,e⟩
  simp only [newA] at hx
  by_cases hr:r'=h.next
  ·subst hr
   rw [Env.put_at] at e;cases e
   exact .inl ⟨r,a,d,n,hg,he⟩
  ·obtain⟨_,hx⟩:=get r' x hx hr
   rw [Env.put_ne _ _ hr] at e
   exact .inl ⟨r',x,d',m',hx,e⟩
theorem storeC_ok(hη:OneCells η)(p:Pre η P ρ B h w){a b:Addr}{vs vs':List Value}{h':AH}(hs:storeC h a vs = .ok h')(hab:AdR ρ a b)(hv:LR η ρ vs vs') :
  ∃ w',(storeCells b vs').run P w = .ok () w'∧Post η ρ B h w ρ h' w':=by
 unfold storeC at hs
 split at hs
 ·have:=hv.inv_nil;subst this
  rw [okk] at hs;subst hs
  exact⟨w,rfl,.refl p⟩
 ·rename_i hne
  split at hs
  ·rename_i ty c q own hc
   rw [ite_no',okk] at hs
   obtain⟨⟨rfl,hlen,_,hall⟩,rfl⟩:=hs
   have hg:=cellsAt_ok.1 hc
   simp only [] at hg
   obtain⟨bb,d,n,C,lo,hi,h1,h2,h3,h4⟩:=p.hr.cells hg
   obtain⟨hsp,n',blk,d',h5,rfl⟩:=hab
   rw [h1] at h5;cases h5
   have hcl:c.length≤n:=h3.len
   have hsz:C.toList.length=d+n:=h3.size
   have hvl:vs.length=vs'.length:=hv.len
   have hone:∀ x ∈ vs',x.oneCell'=true:=by
    intro x hx
    obtain⟨i,hi,rfl⟩:=List.getElem_of_mem hx
    have hi':i<vs.length:=by omega
    have:=hv.at_ i vs[i] vs'[i] (List.getElem?_eq_getElem hi') (List.getElem?_eq_getElem hi)
    exact this.oneC hη (List.all_eq_true.1 hall _ (List.getElem_mem hi'))
   obtain⟨C',hC,hr⟩:=run_storeCells (P:=P) (o:=d+a.off) vs' 0 C w h2 hone (by omega) (fun j hj=>by
    have:=h3.free rfl (a.off+j) (by omega)
    rwa [show d+a.off+0+j=d+(a.off+j) by omega])
   refine⟨_,hr,Post.put p hg rfl h1 rfl ⟨C',ty,lo,hi,rfl,⟨rfl,?_,?_,?_,(fun hp=>by obtain⟨q1,q2,q3,q4⟩:=h3.plain hp;exact⟨q1,q2,q3,by rw [splice_len _ _ _ hlen];exact q4⟩),h3.free⟩⟩⟩
   ·rw [hC,splice_len _ _ _ (by omega)];exact hsz
   ·rw [splice_len _ _ _ hlen];exact hcl
   ·intro i v hi'
    rw [splice_get _ _ _ hlen] at hi'
    rw [hC,splice_get _ _ _ (by omega)]
    by_cases hin:a.off≤i∧i<a.off+vs.length
    ·rw [if_pos hin] at hi'
     rw [if_pos (by omega)]
     obtain⟨x,hx,hvx⟩:=hv.get hi'
     exact⟨x,by rw [show d+i - (d+a.off+0)=i - a.off by omega];exact hx,hvx⟩
    ·rw [if_neg hin] at hi'
     rw [if_neg (by omega)]
     exact h3.at_ i v hi'
  ·cases hs
end
end Go.Ev

namespace Go.Ev
variable {η:Nat→Value}
section
variable {P:Program} {ρ:Env} {B:Bd} {h:AH} {w:World}
theorem firstA_ok(H:HR η ρ B h w){size n:Nat}{v x:Value}{l:List Value}(hf:firstA h size n v = .ok l)(hx:VR η ρ v x) :
  ∃ m:Array Value,(Builtin.firstCells size n x).run P w = .ok m w∧LR η ρ l m.toList:=by
 unfold firstA at hf
 split at hf
 ·rename_i a len c
  obtain⟨a',c',rfl,hc⟩:=hx.slice_inv3 (.inl rfl)
  obtain⟨q,rfl,hq⟩:∃ q,a'=some q∧AdR ρ a q:=by
   rcases hc with⟨e,_⟩ | ⟨_,q,e,e',hq,_⟩ | ⟨_,q,_,_,_,_,e,e',hq,_⟩
   ·cases e
   ·cases e;exact⟨q,e',hq⟩
   ·cases e;exact⟨q,e',hq⟩
  obtain⟨vs,h1,h2,h3⟩:=getC_ok H hf hq
  exact⟨vs.toArray,by simp only [Builtin.firstCells,cells_of_list h2 h3],by simpa using h1⟩
 ·rename_i len c
  rw [ite_no',okk] at hf
  obtain⟨hn0,rfl⟩:=hf
  obtain⟨a',c',rfl,hc⟩:=hx.slice_inv
  cases a' with
  | none=>exact⟨#[],rfl,.nil⟩
  | some q=>exact⟨#[],by simp only [Builtin.firstCells];exact cells_of_list (vs:=[]) hn0.symm (fun j v h=>by simp at h),.nil⟩
 ·rename_i s
  have:=hx.string_inv;subst this
  rw [ite_no',okk] at hf
  obtain⟨_,rfl⟩:=hf
  refine⟨_,rfl,?_⟩
  have:((s.extract 0 n).data.map fun b=>Value.int .u8 b.toNat).toList=bytesV (s.data.toList.take n):=by
   rw [Array.toList_map,ByteArray.data_extract]
   simp [bytesV,List.extract]
  rw [this]
  generalize s.data.toList.take n=l
  induction l with
  | nil=>exact .nil
  | cons b l ih=>exact .cons (.int _ _) ih
 ·simp [no] at hf
theorem lenA_ok{v x:Value}{n:Nat}(hl:lenA v = .ok n)(hx:VR η ρ v x):(Builtin.lenOf x).run P w = .ok n w:=by
 unfold lenA at hl
 split at hl
 ·obtain⟨a',c',rfl,hc⟩:=hx.slice_inv
  rw [okk] at hl;subst hl;rfl
 ·have:=hx.string_inv;subst this
  rw [okk] at hl;subst hl;rfl
 ·simp [no] at hl
theorem growBy_le(n:Nat):∀ (r c:Nat),Builtin.growBy n r c≤Nat.max c (n+(n+768) / 4)
 | 0,c=>by simp only [Builtin.growBy];exact Nat.le_max_left _ _
 | r+1,c=>by
  simp only [Builtin.growBy]
  split
  ·exact Nat.le_max_left _ _
  ·have:=growBy_le n r (c+(c+768) / 4)
   have h2:c+(c+768) / 4≤n+(n+768) / 4:=by omega
   have h3:Nat.max (c+(c+768) / 4) (n+(n+768) / 4)=n+(n+768) / 4:=Nat.max_eq_right h2
   rw [h3] at this
   exact Nat.le_trans this (Nat.le_max_right _ _)
theorem nextcap_le{n c:Nat}(hn:n≤1000000)(hc:c<n):Builtin.nextslicecap n c≤3000000:=by
 unfold Builtin.nextslicecap
 split
 ·omega
 ·split
  ·omega
  ·have:=growBy_le n 4 c
   have h3:Nat.max c (n+(n+768) / 4)≤3000000:=Nat.max_le.2 ⟨by omega,by omega⟩
   omega
theorem isIntT_run{t:TypeId}(hi:isIntT P t = .ok false):∃ d,P.underlying t=some d∧(∀ k,d ≠ .int k):=by
 simp only [isIntT,bind_ok,undA_ok] at hi
 obtain⟨d,hd,hi⟩:=hi
 refine⟨d,hd,fun k e=>?_⟩
 subst e
 simp only [okk] at hi;cases hi
theorem zeroCells_len(z:Array Value)(n:Nat):(Builtin.zeroCells z n).toList.length=n * z.size:=by simp [Builtin.zeroCells]
theorem run_append_new{sT xT elem:TypeId}{ei:TypeInfo}{z:Value}{type:TypeId}{base:Option Addr}{len cap n:Nat}{x:Value}{old new:Array Value}(hsT:P.underlying sT=some (.slice elem))(hxT:isIntT P xT = .ok false)
  (hei:P.info? elem=some ei) (hz:zeroA P elem = .ok z) (hby:ei.bytes≤65536) (hn:(Builtin.lenOf x).run P w = .ok n w) (hbig:len+n≤1000000) (hroom:¬ len+n≤cap)
  (hold:(Builtin.firstCells ei.size len (.slice base len cap)).run P { w with drawn:=w.drawn+1 } = .ok old { w with drawn:=w.drawn+1 }) (hnew:(Builtin.firstCells ei.size n x).run P { w with drawn:=w.drawn+1 } = .ok new { w with drawn:=w.drawn+1 }) :
  ∃ nc w',len+n≤nc∧nc<capB∧Pushed w w' (.cells (old ++ new ++ Builtin.zeroCells z.cells (nc - (len+n))) elem)∧
   (Builtin.append_ #[sT,xT] type #[.slice base len cap,x]).run P w = .ok (.slice (some ⟨w.heap.size,0,none⟩) (len+n) nc) w':=by
 obtain⟨dx,hdx,hni⟩:=isIntT_run hxT
 have hsz:sizeA P elem = .ok ei.size:=sizeA_ok.2 ⟨ei,hei,rfl⟩
 have hzz:(zeroValue elem).run P w = .ok z w:=run_zero hz
 have hint:(dx matches .int _)=false:=by cases dx <;> first | rfl | exact absurd rfl (hni _)
 generalize hq:(Question.appendCap (len+n) cap elem).cut (w.tape w.drawn (Question.appendCap (len+n) cap elem))=nc
 have hnc:len+n≤nc:=by rw [← hq];simp only [Question.cut];omega
 have hncb:nc<capB:=by
  rw [← hq];simp only [Question.cut];unfold capB
  have:=Nat.mod_lt (w.tape w.drawn (Question.appendCap (len+n) cap elem)) (show 0<2 ^ 63 - (len+n) by omega)
  omega
 have hch:(choose (.appendCap (len+n) cap elem)).run P w = .ok nc { w with drawn:=w.drawn+1 }:=by
  rw [run_choose,hq];simp [Question.forced]
 have hnext:Builtin.nextslicecap (len+n) cap * ei.bytes≤2 ^ 48:=by
  have h1:=nextcap_le (n:=len+n) (c:=cap) hbig (by omega)
  have h2:Builtin.nextslicecap (len+n) cap * ei.bytes≤3000000 * 65536:=Nat.mul_le_mul h1 hby
  omega
 have hmax:IntKind.i64.max=9223372036854775807:=by decide
 refine⟨nc,{ wpush w (.cells (old ++ new ++ Builtin.zeroCells z.cells (nc - (len+n))) elem) with drawn:=w.drawn+1 },hnc,hncb,⟨rfl,rfl,rfl,rfl⟩,?_⟩
 have e0:(#[sT,xT]:Array TypeId)[0]? = some sT:=rfl
 have e1:(#[sT,xT]:Array TypeId)[1]? = some xT:=rfl
 have e2:(#[.slice base len cap,x]:Array Value)[0]? = some (.slice base len cap):=rfl
 have e3:(#[.slice base len cap,x]:Array Value)[1]? = some x:=rfl
 simp only [Builtin.append_,e0,e1,e2,e3,Sem.run_bind,run_und hsT,run_und hdx,Result.andThen_ok,run_size hsz,Sem.run_pure,hint,Bool.false_eq_true,if_false,hn]
 rw [if_neg hroom]
 simp only [Sem.run_bind,Sem.run_pure,run_info hei,Result.andThen_ok,hmax]
 rw [if_neg (by omega)]
 simp only [Sem.run_bind,Sem.run_pure,run_info hei,Result.andThen_ok]
 rw [if_neg (by omega)]
 simp only [Sem.run_bind,Sem.run_pure,run_info hei,Result.andThen_ok,hch,run_askRoom,hold,Bool.not_false,if_true,hnew,run_zero hz,run_newRow]
 rfl
theorem run_append_room{sT xT elem:TypeId}{ei:TypeInfo}{type:TypeId}{base:Option Addr}{len cap n:Nat}{x:Value}{new:Array Value}(hsT:P.underlying sT=some (.slice elem))(hxT:isIntT P xT = .ok false)
  (hei:P.info? elem=some ei) (hn:(Builtin.lenOf x).run P w = .ok n w) (hroom:len+n≤cap) (hnew:(Builtin.firstCells ei.size n x).run P w = .ok new w) :
  (base=none→(Builtin.append_ #[sT,xT] type #[.slice base len cap,x]).run P w = .ok (.slice base (len+n) cap) w)∧
  (∀ a w',base=some a→(storeCells (a.add (len * ei.size)) new.toList).run P w = .ok () w'→(Builtin.append_ #[sT,xT] type #[.slice base len cap,x]).run P w = .ok (.slice base (len+n) cap) w'):=by
 obtain⟨dx,hdx,hni⟩:=isIntT_run hxT
 have hsz:sizeA P elem = .ok ei.size:=sizeA_ok.2 ⟨ei,hei,rfl⟩
 have hint:(dx matches .int _)=false:=by cases dx <;> first | rfl | exact absurd rfl (hni _)
 have e0:(#[sT,xT]:Array TypeId)[0]? = some sT:=rfl
 have e1:(#[sT,xT]:Array TypeId)[1]? = some xT:=rfl
 have e2:(#[.slice base len cap,x]:Array Value)[0]? = some (.slice base len cap):=rfl
 have e3:(#[.slice base len cap,x]:Array Value)[1]? = some x:=rfl
 constructor
 ·intro hb
  subst hb
  simp only [Builtin.append_,e0,e1,e2,e3,Sem.run_bind,run_und hsT,run_und hdx,Result.andThen_ok,run_size hsz,Sem.run_pure,hint,Bool.false_eq_true,if_false,hn]
  rw [if_pos hroom]
  simp only [Sem.run_bind,Sem.run_pure,Result.andThen_ok,Bool.not_false,if_true,hnew]
 ·intro a w' hb hst
  subst hb
  simp only [Builtin.append_,e0,e1,e2,e3,Sem.run_bind,run_und hsT,run_und hdx,Result.andThen_ok,run_size hsz,Sem.run_pure,hint,Bool.false_eq_true,if_false,hn]
  rw [if_pos hroom]
  simp only [Sem.run_bind,Sem.run_pure,Result.andThen_ok,Bool.not_false,if_true,hnew,hst]
theorem HR.drew(H:HR η ρ B h w):HR η ρ B h { w with drawn:=w.drawn+1 }:=⟨H.obj,H.inj,H.sh⟩
theorem Pre.drew(H:Pre η P ρ B h w):Pre η P ρ B h { w with drawn:=w.drawn+1 }:=⟨H.hr.drew,H.fresh,H.glob,H.low⟩
theorem cells_cellsL(z:Value):z.cells.toList=cellsL z:=by cases z <;> rfl
theorem appendA_ok (hη : OneCells η) (p : Pre η P ρ B h w) {ts : List TypeId} {args : List Value} {args' : Array Value} {type : TypeId} {v : Value} {h' : AH} (ha : appendA P h ts args = .ok (v, h')) (hr : LR η ρ args args'.toList) :
    ∃ ρ' x w', (Builtin.append_ ⟨ts⟩ type args').run P w = .ok x w' ∧ VR η ρ' v x ∧ Post η ρ B h w ρ' h' w' := by
  unfold appendA at ha
  split at ha
  · rename_i sT xT base len cap x
    obtain ⟨s', m1, hm1, hs, hr1⟩ := hr.inv_cons
    obtain ⟨x', m2, hm2, hx, hr2⟩ := hr1.inv_cons
    have := hr2.inv_nil; subst this; subst hm2
    have hargs : args' = #[s', x'] := by rw [← Array.toArray_toList (xs := args'), hm1]
    subst hargs
    rw [ite_no] at ha
    obtain ⟨hcE, ha⟩ := ha
    obtain ⟨base', cap', rfl, hc⟩ := hs.slice_inv3 (by cases base with | none => exact .inr fun e => hcE ⟨rfl, e⟩ | some a => exact .inl rfl)
    simp only [bind_ok, undA_ok] at ha
    obtain ⟨d, hd, ha⟩ := ha
    split at ha
    · rename_i elem
      simp only [bind_ok, infoA_ok] at ha
      obtain ⟨ei, hei, z, hz, b, hint, ha⟩ := ha
      rw [ite_no] at ha
      obtain ⟨hb, ha⟩ := ha
      have hb : b = false := by simpa using hb
      subst hb
      rw [ite_no] at ha
      obtain ⟨hsize, ha⟩ := ha
      simp only [bind_ok] at ha
      obtain ⟨n, hn, new, hnew, old, hold, ha⟩ := ha
      rw [ite_no] at ha
      obtain ⟨hbig, ha⟩ := ha
      simp only [not_or, Decidable.not_not, gt_iff_lt, Nat.not_lt] at hsize hbig
      obtain ⟨hs0, hby, hzl⟩ := hsize
      obtain ⟨hlen, hnl, hol, hone⟩ := hbig
      have hnrun := lenA_ok (P := P) (w := w) hn hx
      -- a fresh row
      have fresh : ∀ (objs : T AObj), (∀ r y, objs.get r = some y → h.objs.get r = some y) → ¬ len + n ≤ cap' → (v, h') = freshA { h with objs } elem ei.size (len + n) (old ++ new) →
          ∃ ρ' x w', (Builtin.append_ #[sT, xT] type #[.slice base' len cap', x']).run P w = .ok x w' ∧ VR η ρ' v x ∧ Post η ρ B h w ρ' h' w' := by
        intro objs hsub hroom he
        obtain ⟨OLD, ho, hol'⟩ := firstA_ok (P := P) (w := { w with drawn := w.drawn + 1 }) p.drew.hr hold (by
          have := hs; exact this)
        obtain ⟨NEW, hnw, hnl'⟩ := firstA_ok (P := P) (w := { w with drawn := w.drawn + 1 }) p.drew.hr hnew hx
        obtain ⟨nc, w', hnc, hncb, hpush, hrun⟩ := run_append_new (P := P) (w := w) (type := type) (base := base') (old := OLD) (new := NEW) hd hint hei hz hby hnrun hlen hroom ho hnw
        simp only [freshA] at he
        injection he with e1 e2; subst e1; subst e2
        have hC : (OLD ++ NEW ++ Builtin.zeroCells z.cells (nc - (len + n))).toList = OLD.toList ++ NEW.toList ++ (Builtin.zeroCells z.cells (nc - (len + n))).toList := by simp
        have hrest := zeroCells_len z.cells (nc - (len + n))
        have hzs : z.cells.size = ei.size := by have := cells_cellsL z; have h2 : z.cells.size = z.cells.toList.length := rfl; rw [h2, this]; exact hzl
        have hOL : OLD.toList.length = len * ei.size := by rw [← hol'.len]; exact hol
        have hNL : NEW.toList.length = n * ei.size := by rw [← hnl'.len]; exact hnl
        have hCl : (OLD ++ NEW ++ Builtin.zeroCells z.cells (nc - (len + n))).toList.length = nc * ei.size := by
          rw [hC, List.length_append, List.length_append, hrest, hzs, hOL, hNL, ← Nat.add_mul, ← Nat.add_mul]
          congr 1; omega
        have hle := Env.le_put (t := (w.heap.size, 0, nc * ei.size)) (p.fresh h.next (Nat.le_refl _))
        refine ⟨ρ.put h.next (w.heap.size, 0, nc * ei.size), _, w', hrun, ?_, Post.new p hpush objs hsub ?_⟩
        · have := VR.sliceU (η := η) (ρ := ρ.put h.next (w.heap.size, 0, nc * ei.size)) (o := 0) (len + n) ei.size nc (Env.put_at _ _ _) (by omega) (by omega) hnc hncb
          exact this
        · refine ⟨_, elem, 0, 0, rfl, ⟨rfl, ?_, ?_, ?_, (fun h => by cases h), fun _ i _ hh => by omega⟩⟩
          · rw [hCl]; omega
          · rw [List.length_append, hol, hnl, ← Nat.add_mul]; exact Nat.mul_le_mul_right _ hnc
          · intro i u hu
            have hlr := (hol'.append hnl').mono hle
            obtain ⟨y, hy, hvy⟩ := hlr.get hu
            refine ⟨y, ?_, hvy⟩
            rw [Nat.zero_add, hC, List.getElem?_append_left (List.getElem?_eq_some_iff.1 hy).1]; exact hy
      by_cases hU : isU cap = true
      · rw [if_pos hU] at ha
        rcases hc with ⟨_, _, e, _⟩ | ⟨_, _, _, _, _, e, _⟩ | ⟨a, q, s, b, dd, nn, rfl, rfl, hpq, rfl, hρ, hs1, hn1, hl1, hcb⟩
        · rw [hU] at e; cases e
        · rw [hU] at e; cases e
        simp only [bind_ok] at ha
        obtain ⟨⟨ty, c, pl, own⟩, hcell, ha⟩ := ha
        simp only [ite_no] at ha
        obtain ⟨hmark, ha⟩ := ha
        simp only [not_or, Decidable.not_not] at hmark
        obtain ⟨rfl, hcs, rfl⟩ := hmark
        have hss : s = ei.size := by simp only [capU] at hcs; omega
        subst hss
        rw [okk] at ha
        by_cases hroom : len + n ≤ cap'
        · -- in place
          have hg := cellsAt_ok.1 hcell
          simp only [] at hg
          obtain ⟨b2, d2, n2, C, lo, hi, h1, h2, h3, h4⟩ := p.hr.cells hg
          rw [hρ] at h1; cases h1
          obtain ⟨hsp, n3, b3, d3, h5, rfl⟩ := hpq
          rw [hρ] at h5; cases h5
          obtain ⟨NEW, hnw, hnl'⟩ := firstA_ok (P := P) p.hr hnew hx
          have hsz : C.toList.length = dd + nn := h3.size
          have hcl : c.length ≤ nn := h3.len
          have hNL : NEW.toList.length = n * ei.size := by rw [← hnl'.len]; exact hnl
          have hmul : (len + n) * ei.size ≤ cap' * ei.size := Nat.mul_le_mul_right _ hroom
          rw [Nat.add_mul] at hmul
          have hone' : ∀ u ∈ NEW.toList, u.oneCell' = true := by
            intro u hu
            obtain ⟨i, hi', rfl⟩ := List.getElem_of_mem hu
            have hi2 : i < new.length := by omega
            have := hnl'.at_ i new[i] NEW.toList[i] (List.getElem?_eq_getElem hi2) (List.getElem?_eq_getElem hi')
            exact this.oneC hη (List.all_eq_true.1 (by simpa using hone) _ (List.getElem_mem hi2))
          obtain ⟨C', hC, hrs⟩ := run_storeCells (P := P) (o := dd + a.off + len * ei.size) NEW.toList 0 C w h2 hone' (by omega) (fun j hj => by
            have := h3.free rfl (a.off + len * ei.size + j) (by omega)
            rwa [show dd + a.off + len * ei.size + 0 + j = dd + (a.off + len * ei.size + j) by omega])
          have hrun := (run_append_room (P := P) (w := w) (type := type) (base := some ⟨b, dd + a.off, none⟩) (cap := cap') hd hint hei hnrun hroom hnw).2 _ _ rfl (by rw [add_eq rfl]; exact hrs)
          simp only [freshA] at ha
          injection ha with e1 e2; subst e1; subst e2
          have hle := Env.le_put (t := (b, dd + a.off, cap' * ei.size)) (p.fresh h.next (Nat.le_refl _))
          refine ⟨ρ.put h.next (b, dd + a.off, cap' * ei.size), _, _, hrun, ?_, Post.move p hg rfl hρ rfl ?_⟩
          · have := VR.sliceU (η := η) (ρ := ρ.put h.next (b, dd + a.off, cap' * ei.size)) (o := 0) (len + n) ei.size cap' (Env.put_at _ _ _) (by omega) (by omega) hroom hcb
            exact this
          · -- the old cells, where they lie
            obtain ⟨ovs, ho1, ho2, ho3⟩ := getC_ok p.hr (show getC h a (len * ei.size) = .ok old from hold) (b := ⟨b, dd + a.off, none⟩) ⟨hsp, nn, b, dd, hρ, rfl⟩
            refine ⟨C', ty, lo, hi, rfl, ⟨rfl, ?_, ?_, ?_, (fun h => by cases h), fun _ i hi' hh => ?_⟩⟩
            · rw [hC, splice_len _ _ _ (by omega)]; omega
            · rw [List.length_append, hol, hnl]; omega
            · intro i u hu
              by_cases hio : i < old.length
              · rw [List.getElem?_append_left hio] at hu
                obtain ⟨y, hy, hvy⟩ := ho1.get hu
                refine ⟨y, ?_, hvy.mono hle⟩
                have h6 := ho3 i y hy
                rw [add_eq rfl, cell_of h2] at h6
                rw [hC, splice_get _ _ _ (by omega), if_neg (by omega)]
                simpa [Nat.add_assoc] using h6
              · rw [List.getElem?_append_right (by omega)] at hu
                obtain ⟨y, hy, hvy⟩ := hnl'.get hu
                have hil : i - old.length < NEW.toList.length := (List.getElem?_eq_some_iff.1 hy).1
                refine ⟨y, ?_, hvy.mono hle⟩
                rw [hC, splice_get _ _ _ (by omega), if_pos (by omega)]
                rw [← hy]; congr 1; omega
            · exact h3.free rfl (a.off + i) (by omega) (by omega)
        · exact fresh _ (fun r y hy => by rw [T.get_del] at hy; split at hy; · cases hy
                                          · exact hy) hroom ha.symm
      · rw [if_neg hU] at ha
        have hcap : cap' = cap := by
          rcases hc with ⟨_, _, _, e⟩ | ⟨_, _, _, _, _, _, e⟩ | ⟨_, _, _, _, _, _, _, _, _, rfl, _⟩
          · exact e
          · exact e
          · exact absurd (isU_capU _) hU
        subst hcap
        by_cases hroom : len + n ≤ cap'
        · rw [if_pos hroom] at ha
          obtain ⟨NEW, hnw, hnl'⟩ := firstA_ok (P := P) p.hr hnew hx
          have hrr := run_append_room (P := P) (w := w) (type := type) (base := base') (cap := cap') hd hint hei hnrun hroom hnw
          have hU' : isU cap' = false := by simpa using hU
          rcases hc with ⟨rfl, rfl, _, _⟩ | ⟨a, q, rfl, rfl, hpq, _, _⟩ | ⟨_, _, _, _, _, _, _, _, _, rfl, _⟩
          · simp only [ite_no', okk] at ha
            obtain ⟨hemp, ha⟩ := ha
            injection ha with e1 e2; subst e1; subst e2
            exact ⟨ρ, _, w, hrr.1 rfl, .slice0 _ _ hU', .refl p⟩
          · simp only [bind_ok] at ha
            obtain ⟨h1, hst, ha⟩ := ha
            rw [okk] at ha; injection ha with e1 e2; subst e1; subst e2
            obtain ⟨w', hw', hpost⟩ := storeC_ok (P := P) hη p hst (hpq.add _) hnl'
            exact ⟨ρ, _, w', hrr.2 _ _ rfl hw', .slice_mk hpq hU', hpost⟩
          · exact absurd (isU_capU _) hU
        · rw [if_neg hroom, ite_no', okk] at ha
          exact fresh h.objs (fun _ _ hy => hy) hroom ha.2.symm
    · simp [no] at ha
  · simp [no] at ha
theorem copyA_ok(hη:OneCells η)(p:Pre η P ρ B h w){ts:List TypeId}{dst src dst' src' v:Value}{type:TypeId}{h':AH}(hc:(do
   match ← undA P (ts.headD 0),dst with
   | .slice elem,.slice base dLen cap=>do
    if base.isNone=true∧isE cap=true then no "copy: no row" else
    let n:=Nat.min (← lenA src) dLen
    let size ← sizeA P elem
    let cs ← firstA h size n src
    match base with
    | some a=>do let h ← storeC h a cs;.ok (goInt n,h)
    | none=>.ok (goInt n,h)
   | _,_=>no "copy" :M (Value × AH)) = .ok (v,h')) (hts:ts ≠ []) (h1:VR η ρ dst dst') (h2:VR η ρ src src') :
  ∃ x w',(Builtin.copy_ ⟨ts⟩ type #[dst',src']).run P w = .ok x w'∧VR η ρ v x∧Post η ρ B h w ρ h' w':=by
 simp only [bind_ok,undA_ok] at hc
 obtain⟨d,hd,hc⟩:=hc
 obtain⟨t0,ts',rfl⟩:∃ t0 ts',ts=t0 :: ts':=by cases ts with
  | nil=>exact absurd rfl hts
  | cons a b=>exact⟨_,_,rfl⟩
 have e0:(⟨t0 :: ts'⟩:Array TypeId)[0]? = some t0:=rfl
 have e2:(#[dst',src']:Array Value)[0]? = some dst':=rfl
 have e3:(#[dst',src']:Array Value)[1]? = some src':=rfl
 simp only [List.headD_cons] at hd
 split at hc
 ·rename_i elem base dLen cap
  rw [ite_no] at hc
  obtain⟨hcE,hc⟩:=hc
  obtain⟨base',cap',rfl,hcc⟩:=h1.slice_inv3 (by cases base with | none=>exact .inr fun e=>hcE ⟨rfl,e⟩ | some a=>exact .inl rfl)
  simp only [bind_ok] at hc
  obtain⟨n,hn,size,hsz,cs,hcs,hc⟩:=hc
  have hnr:=lenA_ok (P:=P) (w:=w) hn h2
  obtain⟨CS,hCS,hl⟩:=firstA_ok (P:=P) p.hr hcs h2
  split at hc
  ·rename_i a
   obtain⟨q,rfl,hq⟩:∃ q,base'=some q∧AdR ρ a q:=by
    rcases hcc with⟨e,_⟩ | ⟨_,q,e,e',hq,_⟩ | ⟨_,q,_,_,_,_,e,e',hq,_⟩
    ·cases e
    ·cases e;exact⟨q,e',hq⟩
    ·cases e;exact⟨q,e',hq⟩
   simp only [bind_ok] at hc
   obtain⟨h1',hst,hc⟩:=hc
   rw [okk] at hc;injection hc with e1 e2';subst e1;subst e2'
   obtain⟨w',hw',hpost⟩:=storeC_ok (P:=P) hη p hst hq hl
   refine⟨_,w',?_,.int _ _,hpost⟩
   simp only [Builtin.copy_,e0,e2,e3,Sem.run_bind,run_und hd,Result.andThen_ok,hnr,run_size hsz,hCS,hw'];rfl
  ·have e1:base'=none:=by rcases hcc with⟨_,e,_⟩ | ⟨_,_,e,_⟩ | ⟨_,_,_,_,_,_,e,_⟩ <;> first | exact e | cases e
   subst e1
   rw [okk] at hc;injection hc with e1 e2';subst e1;subst e2'
   refine⟨_,w,?_,.int _ _,.refl p⟩
   simp only [Builtin.copy_,e0,e2,e3,Sem.run_bind,run_und hd,Result.andThen_ok,hnr,run_size hsz,hCS];rfl
 ·simp [no] at hc
end
end Go.Ev

