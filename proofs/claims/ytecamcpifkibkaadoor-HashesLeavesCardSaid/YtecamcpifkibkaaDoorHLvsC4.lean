/- HLvsC, part 4: what the proof needs, in the order of its texts. -/
import Derived.Test.YtecamcpifkibkaaDoorHLvsC3
import Derived.Lib.LaidTab
import Derived.IntWalk
import Derived.Lib.SmallJoins
import Derived.Deep.Slices
import Derived.ChangeArms
import Derived.WideShapes
import Derived.ChangeSame
import Derived.SizedLaws
import Derived.Lib.ItoaLen
set_option linter.unusedVariables false
set_option linter.unusedSimpArgs false
namespace Go.Ev
variable {η:Nat→Value} {P:Program} {B:Bd}
inductive Sc where
 | steps (n:Nat) (k:Sc)
 | bit (d:Nat) (a b:Sc)
 | op (k:Sc)
 | opT (k:Sc)
 | call (kt:KT) (k:Sc)
 | both (a b:Sc)
 | stop (keep:List Nat) (rn:Option Rn)
 | done (rn:Option Rn)
 | reg (k:Sc)
 | regM (q:List Nat) (k:Sc)
 | regN (q:List Nat) (k:Sc)
 | regS (k:Sc)
 | regX (k:Sc)
def KT.clean:KT→Bool
 | .ret _ _=>true
 | .ite _ x y=>x.clean && y.clean
 | .know _ _=>false
theorem KT.some_sat:∀ {k:KT},k.clean=true→∃ v h,k.sat v h
 | .ret v h,_=>⟨v,h,rfl,rfl⟩
 | .ite b x y,hc=>by
  simp only [KT.clean,Bool.and_eq_true] at hc
  cases b with
  | true=>obtain⟨v,h,hs⟩:=KT.some_sat hc.1;exact⟨v,h,.inl ⟨rfl,hs⟩⟩
  | false=>obtain⟨v,h,hs⟩:=KT.some_sat hc.2;exact⟨v,h,.inr ⟨rfl,hs⟩⟩
 | .know _ _,hc=>by cases hc
def walkK(f:Value→AH→Sc→W):KT→Sc→W
 | .ret v h,k=>f v h k
 | .ite b x y,.both a c=>.ite b (walkK f x a) (walkK f y c)
 | .know p x,k=>.know p (walkK f x k)
 | .ite ..,_=>.fail "both"
def canonS(keep:List Nat)(s:AS):AS:=⟨{ s.fr with tm:=canonT keep s.fr.tm s.fr.n },s.cs,s.hp⟩
def seqOp(P:Program)(nest:Nest)(base i:Nat)(ρ:Operand→Value)(o:Oper)(h:AH):M (Value × AH):=
 match kindOf P o.op with
 | .read=>do
  let v ← readA P ρ o h
  .ok (v,h)
 | .alloc=>do
  let (v,b) ← allocA P ρ o (base+i)
  .ok (v,putA h (base+i) b)
 | .effect=>effRun P nest ρ o h
def regSeq(P:Program)(nest:Nest)(n base:Nat)(ops:List Oper):List Nat→T Value→AH→M (T Value × AH)
 | [],tm,h=>.ok (tm,h)
 | i :: is,tm,h=>match ops[i]? with
  | none=>no "regSeq"
  | some o=>do
   let want ← wantedA ops tm o
   let (v,h) ← (if want then seqOp P nest base i (evA tm) o h else .ok (undef,h):M (Value × AH))
   let tm ← putT n tm o.dst v
   regSeq P nest n base ops is tm h
def orderOkS(ops:List Oper)(o:Oper)(mask:Nat):List Oper→Nat→Bool
 | [],_=>true
 | x :: l,j=>(!clash ops x o || mask.testBit j) && orderOkS ops o mask l (j+1)
def isRead:Kind→Bool
 | .read=>true
 | _=>false
def isEffect:Kind→Bool
 | .effect=>true
 | _=>false
def chainOk(P:Program)(k:Kind)(mask:Nat):List Oper→Nat→Bool
 | [],_=>true
 | x :: l,j=>((isRead (kindOf P x.op) && !isEffect k) || mask.testBit j) && chainOk P k mask l (j+1)
def chainF(P:Program)(o:Op)(mask:Nat):List Oper→Nat→Bool
 | [],_=>true
 | x :: l,j=>(freeOp P o || (isRead (kindOf P x.op) && (!isEffect (kindOf P o) || freeOp P x.op)) || mask.testBit j) && chainF P o mask l (j+1)
def statOk(P:Program)(ops:List Oper):List Oper→Nat→List Nat→List Oper→Bool
 | [],_,_,_=>true
 | o :: l,i,masks,prev=>match maskOf masks i o.after.toList with
  | .ok m=>orderOkS ops o m prev 0 && okOps P o && chainF P o.op m prev 0 && statOk P ops l (i+1) (masks ++ [m]) (prev ++ [o])
  | .error _=>false
theorem orderOkS_eq{ops:List Oper}{o:Oper}{mask:Nat}:∀ {l:List Ent} {j:Nat},orderOk ops o mask l j=orderOkS ops o mask (l.map (·.o)) j
 | [],_=>rfl
 | x :: l,j=>by simp only [orderOk,List.map_cons,orderOkS,orderOkS_eq (l:=l)]
theorem chain_at{k:Kind}{mask:Nat}:∀ {l:List Oper} {j:Nat},chainOk P k mask l j=true→∀ t o,l[t]? = some o→(isRead (kindOf P o.op)=false∨isEffect k=true)→mask.testBit (j+t)=true
 | [],_,_,t,o,ho,_=>by simp at ho
 | x :: l,j,h,t,o,ho,hk=>by
  simp only [chainOk,Bool.and_eq_true,Bool.or_eq_true,Bool.not_eq_true'] at h
  cases t with
  | zero=>
   simp at ho;subst ho
   rcases h.1 with h1 | h1
   ·rcases hk with hk | hk
    ·rw [h1.1] at hk;cases hk
    ·rw [h1.2] at hk;cases hk
   ·exact h1
  | succ t=>
   have:=chain_at (l:=l) (j:=j+1) h.2 t o (by simpa using ho) hk
   rw [show j+(t+1)=j+1+t by omega];exact this
theorem chainF_at{o:Op}{mask:Nat}(hf:freeOp P o=false):∀ {l:List Oper} {j:Nat},chainF P o mask l j=true→∀ t x,l[t]? = some x→(isRead (kindOf P x.op)=false∨(isEffect (kindOf P o)=true∧freeOp P x.op=false))→mask.testBit (j+t)=true
 | [],_,_,t,x,ho,_=>by simp at ho
 | x :: l,j,h,t,y,ho,hk=>by
  simp only [chainF,Bool.and_eq_true,Bool.or_eq_true,Bool.not_eq_true',hf,Bool.false_eq_true,false_or] at h
  cases t with
  | zero=>
   simp at ho;subst ho
   rcases h.1 with h1 | h1
   ·rcases hk with hk | hk
    ·rw [h1.1] at hk;cases hk
    ·rcases h1.2 with h2 | h2
     ·rw [h2] at hk;cases hk.1
     ·rw [h2] at hk;cases hk.2
   ·exact h1
  | succ t=>
   have:=chainF_at hf (l:=l) (j:=j+1) h.2 t y (by simpa using ho) hk
   rw [show j+(t+1)=j+1+t by omega];exact this
theorem readsOk_free{mask:Nat}{al:List (Nat × Nat × AObj)}{h:AH}:∀ {l:List Ent} {j:Nat},(∀ t o,(l.map (·.o))[t]? = some o→mask.testBit (j+t)=true∨freeOp P o.op=true)→readsOk P mask al h l j=true
 | [],_,_=>rfl
 | x :: l,j,hk=>by
  simp only [readsOk,Bool.and_eq_true,Bool.or_eq_true]
  refine⟨?_,readsOk_free fun t o ho=>?_⟩
  ·rcases hk 0 x.o (by simp) with h1 | h1
   ·exact .inl (.inr (by simpa using h1))
   ·refine .inr ?_
    unfold sameRead
    rw [h1];rfl
  ·have:=hk (t+1) o (by simpa using ho)
   rw [show j+1+t=j+(t+1) by omega];exact this
theorem free_read{o:Op}(h:freeOp P o=true):kindOf P o = .read:=by
 unfold freeOp at h
 split at h <;> first | rfl | (cases h)
structure RegInv (P:Program) (base:Nat) (prev:List Oper) (rs:RS) (hq:AH):Prop where
 ents:rs.ents.map (·.o)=prev
 ee:∀ j,j ∈ rs.ee→∃ o,prev[j]? = some o∧isRead (kindOf P o.op)=false
 al:∀ p,p ∈ rs.al→∃ o,prev[p.1]? = some o∧isRead (kindOf P o.op)=false
 hp:∀ m:Nat,(∀ p,p ∈ rs.al→m.testBit p.1=true)→withAl m rs.h rs.al=hq
 fin:finalH rs.h rs.al=hq
theorem regLoop_seq{nest:Nest}{n base:Nat}{ops:List Oper}:∀ (l:List Oper) (i:Nat) (rs:RS) (tm':T Value) (h' hq:AH) (prev:List Oper),RegInv P base prev rs hq→prev.length=i→ops.drop i=l→statOk P ops l i rs.masks prev=true→regSeq P nest n base ops (List.range' i l.length) rs.tm hq = .ok (tm',h')→
  ∃ rs',regLoop P n base nest ops l i rs = .ok rs'∧rs'.tm=tm'∧finalH rs'.h rs'.al=h'
 | [],i,rs,tm',h',hq,prev,R,hp,hl,hs,hqq=>by
  simp only [List.length_nil,List.range'_zero,regSeq] at hqq
  rw [okk] at hqq
  injection hqq with e1 e2
  exact⟨rs,rfl,e1,R.fin.trans e2⟩
 | o :: l,i,rs,tm',h',hq,prev,R,hp,hl,hs,hqq=>by
  have hi:ops[i]? = some o:=by
   have:=congrArg (fun x=>x[0]?) hl
   simpa [List.getElem?_drop] using this
  have hl':ops.drop (i+1)=l:=by
   have:=congrArg List.tail hl
   simpa [List.tail_drop] using this
  unfold statOk at hs
  split at hs
  ·rename_i m hm
   simp only [Bool.and_eq_true] at hs
   obtain⟨⟨⟨h1,h2⟩,h3⟩,h4⟩:=hs
   rw [List.length_cons,List.range'_succ,regSeq,hi] at hqq
   simp only [bind_ok] at hqq
   obtain⟨want,hw,⟨v,h1'⟩,hv,tm1,ht,hqq⟩:=hqq
   simp only at ht hqq
   have hmal:freeOp P o.op=false→∀ p,p ∈ rs.al→m.testBit p.1=true:=fun hf p hpm=>by
    obtain⟨x,hx,hk⟩:=R.al p hpm
    have:=chainF_at hf h3 p.1 x hx (.inl hk)
    rw [Nat.zero_add] at this;exact this
   have hmee:freeOp P o.op=false→∀ j,j ∈ rs.ee→m.testBit j=true:=fun hf j hj=>by
    obtain⟨x,hx,hk⟩:=R.ee j hj
    have:=chainF_at hf h3 j x hx (.inl hk)
    rw [Nat.zero_add] at this;exact this
   have hH:freeOp P o.op=false→withAl m rs.h rs.al=hq:=fun hf=>R.hp m (hmal hf)
   have grow:∀ {x:Oper} {j:Nat} {Q:Oper→Prop},(∃ y,prev[j]? = some y∧Q y)→∃ y,(prev ++ [x])[j]? = some y∧Q y:=by
    rintro x j Q ⟨y,hy,hQ⟩
    exact⟨y,by rw [List.getElem?_append_left (List.getElem?_eq_some_iff.1 hy).1];exact hy,hQ⟩
   have here:(prev ++ [o])[i]? = some o:=by rw [← hp,List.getElem?_append_right (Nat.le_refl _),Nat.sub_self];rfl
   have key:∃ rs1,regStep P n base nest ops i o rs = .ok rs1∧rs1.tm=tm1∧rs1.masks=rs.masks ++ [m]∧RegInv P base (prev ++ [o]) rs1 h1':=by
    unfold regStep
    simp only [hm,bind,Except.bind]
    rw [if_neg (by rw [orderOkS_eq,R.ents,h1];simp)]
    simp only [hw]
    cases want with
    | false=>
     simp only [Bool.false_eq_true,if_false] at hv
     rw [okk] at hv
     injection hv with e1 e2
     subst e1;subst e2
     simp only [Bool.not_false,if_true,ht]
     exact⟨_,rfl,rfl,rfl,⟨by simp [R.ents],fun j hj=>grow (R.ee j hj),fun p hp=>grow (R.al p hp),R.hp,R.fin⟩⟩
    | true=>
     simp only [if_true] at hv
     unfold seqOp at hv
     simp only [Bool.not_true,Bool.false_eq_true,if_false,h2]
     cases hk:kindOf P o.op with
     | read=>
      rw [hk] at hv
      simp only [bind_ok] at hv
      obtain⟨v1,hv1,hv⟩:=hv
      rw [okk] at hv
      injection hv with e1 e2
      subst e1;subst e2
      have hr1:readA P (evA rs.tm) o (withAl m rs.h rs.al) = .ok v1:=by
       cases hf:freeOp P o.op with
       | true=>rw [readA_free hf (h':=hq)];exact hv1
       | false=>rw [hH hf];exact hv1
      simp only [hr1]
      rw [if_neg (by
       simp only [Bool.not_eq_true',Bool.not_eq_false']
       intro hh
       have:((rs.ee.zip rs.hh).all fun p=>m.testBit p.1 || sameRead P { o,mask:=m,tm:=rs.tm,want:=true,v:=v1,kind:=.read,obj:=none } rs.al p.2)=true:=by
        rw [List.all_eq_true]
        intro p hpz
        cases hf:freeOp P o.op with
        | true=>
         rw [Bool.or_eq_true]
         refine .inr ?_
         unfold sameRead
         simp only [hf,Bool.true_or]
        | false=>
         have:=hmee hf p.1 (List.of_mem_zip hpz).1
         rw [this];rfl
       first | (rw [this] at hh;cases hh) | (rw [hh] at this;cases this))]
      simp only [ht]
      exact⟨_,rfl,rfl,rfl,⟨by simp [R.ents],fun j hj=>grow (R.ee j hj),fun p hp=>grow (R.al p hp),R.hp,R.fin⟩⟩
     | alloc=>
      rw [hk] at hv
      simp only [bind_ok] at hv
      obtain⟨⟨v1,b⟩,hv1,hv⟩:=hv
      rw [okk] at hv
      injection hv with e1 e2
      subst e1;subst e2
      simp only [hv1,ht]
      refine⟨_,rfl,rfl,rfl,⟨by simp [R.ents],fun j hj=>grow (R.ee j hj),fun p hp'=>?_,fun m' hm'=>?_,?_⟩⟩
      ·rcases List.mem_cons.1 hp' with rfl | hp'
       ·exact⟨o,here,by rw [hk];rfl⟩
       ·exact grow (R.al p hp')
      ·show(if m'.testBit i=true then putA (withAl m' rs.h rs.al) (base+i) b else _)=_
       rw [if_pos (hm' (i,base+i,b) (by simp)),R.hp m' fun p hp'=>hm' p (by simp [hp'])]
      ·show putA (finalH rs.h rs.al) (base+i) b=_
       rw [R.fin]
     | effect=>
      rw [hk] at hv
      simp only at hv
      have hf:freeOp P o.op=false:=by
       cases hf:freeOp P o.op with
       | true=>rw [free_read hf] at hk;cases hk
       | false=>rfl
      have hmal:=hmal hf
      have hmee:=hmee hf
      have hH:=hH hf
      have hall:(rs.ee.all fun j=>m.testBit j)=true:=by rw [List.all_eq_true];exact fun j hj=>hmee j hj
      have hro:∀ al hh,readsOk P m al hh rs.ents 0=true:=fun al hh=>readsOk_free fun t x hx=>by
       rw [R.ents] at hx
       cases hg:freeOp P x.op with
       | true=>exact .inr rfl
       | false=>exact .inl (chainF_at hf h3 t x hx (.inr ⟨by rw [hk];rfl,hg⟩))
      have hfil:(rs.al.filter fun p=>!m.testBit p.1)=[]:=by
       rw [List.filter_eq_nil_iff]
       intro p hpm
       rw [hmal p hpm];simp
      simp only [hall,Bool.not_true,Bool.false_eq_true,if_false,hH,hv,hro,ht,hfil]
      refine⟨_,rfl,rfl,rfl,⟨by simp [R.ents],fun j hj=>?_,(fun p hp'=>by cases hp'),fun m' _=>rfl,rfl⟩⟩
      rcases List.mem_append.1 hj with hj | hj
      ·exact grow (R.ee j hj)
      ·rw [List.mem_singleton] at hj;subst hj
       exact⟨o,here,by rw [hk];rfl⟩
   obtain⟨rs1,e1,e2,e3,e4⟩:=key
   obtain⟨rs',g1,g2,g3⟩:=regLoop_seq (nest:=nest) l (i+1) rs1 tm' h' h1' (prev ++ [o]) e4 (by simp [hp]) hl' (by rw [e3];exact h4) (by rw [e2];exact hqq)
   refine⟨rs',?_,g2,g3⟩
   rw [regLoop]
   simp only [e1,bind,Except.bind]
   exact g1
  ·cases hs
theorem regionA_seq{nest:Nest}{n:Nat}{ops:List Oper}{tm tm':T Value}{h h':AH}(hs:statOk P ops ops 0 [] []=true)(hq:regSeq P nest n h.next ops (List.range ops.length) tm { h with next:=h.next+ops.length } = .ok (tm',h')) :
  regionA P n nest ops tm h = .ok (tm',h'):=by
 rw [List.range_eq_range'] at hq
 obtain⟨rs',g1,g2,g3⟩:=regLoop_seq (nest:=nest) (base:=h.next) (n:=n) ops 0 { tm,h:={ h with next:=h.next+ops.length },hh:=[{ h with next:=h.next+ops.length }],ee:=[],al:=[],masks:=[],ents:=[] } tm' h' { h with next:=h.next+ops.length } [] ⟨rfl,(fun j hj=>by cases hj),(fun p hp=>by cases hp),fun _ _=>rfl,rfl⟩ rfl rfl hs hq
 unfold regionA
 simp only [g1,bind,Except.bind]
 rw [g3,g2]
def vfit:Nat→Value→Bool
 | 0,_=>false
 | n+1,v=>match v with
  | .bool _=>true
  | .int _ _=>true
  | .string _=>true
  | .pointer _=>true
  | .slice _ _ _=>true
  | .map _=>true
  | .chan _=>true
  | .nilFunc=>true
  | .nilIface=>true
  | .iface _ x=>vfit n x
  | .func _ a b=>vfits n a.toList && vfits n b.toList
  | .agg x=>vfits n x.toList
  | .tuple x=>vfits n x.toList
  | _=>false
where
 vfits (n:Nat):List Value→Bool
  | []=>true
  | x :: xs=>vfit n x && vfits n xs
theorem vfits_eq{n:Nat}(ih:∀ v,vfit n v=true→veq n v v=true):∀ l,vfit.vfits n l=true→veq.veqL n l l=true
 | [],_=>rfl
 | x :: xs,h=>by
  unfold vfit.vfits at h
  simp only [Bool.and_eq_true] at h
  unfold veq.veqL
  simp only [Bool.and_eq_true]
  exact⟨ih x h.1,vfits_eq ih xs h.2⟩
theorem vfit_eq:∀ n v,vfit n v=true→veq n v v=true
 | 0,v,h=>by unfold vfit at h;cases h
 | n+1,v,h=>by
  have ih:=vfit_eq n
  have ihl:=fun l=>vfits_eq ih l
  cases v <;> unfold vfit at h <;> unfold veq <;> simp_all
def readIs:M Value→Value→Prop
 | .ok v,w=>v=w
 | .error _,_=>False
theorem readIs_ok:∀ {a:M Value} {w:Value},readIs a w→a = .ok w
 | .ok _,_,h=>congrArg _ h
 | .error _,_,h=>h.elim
def stillP(P:Program)(h:AH):List (T Value × Oper × Value)→Prop
 | []=>True
 | x :: l=>(readIs (readA P (evA x.1) x.2.1 h) x.2.2∧vfit 20 x.2.2=true)∧stillP P h l
theorem still_mem{h:AH}:∀ {l:List (T Value × Oper × Value)},stillP P h l→∀ x,x ∈ l→readA P (evA x.1) x.2.1 h = .ok x.2.2∧vfit 20 x.2.2=true
 | [],_,x,hx=>by cases hx
 | y :: l,hs,x,hx=>by
  rcases List.mem_cons.1 hx with rfl | hx
  ·exact⟨readIs_ok hs.1.1,hs.1.2⟩
  ·exact still_mem hs.2 x hx
def regS(P:Program)(n:Nat)(ops:List Oper):List Nat→List (T Value × Oper × Value)→T Value→AH→M (Prop × T Value × AH)
 | [],_,tm,h=>.ok (True,tm,h)
 | i :: is,rs,tm,h=>match ops[i]? with
  | none=>no "regS"
  | some o=>do
   let w ← wantedA ops tm o
   if w=false then no "regS: wanted" else
   match kindOf P o.op with
   | .read=>do
    let v ← readA P (evA tm) o h
    let tm1 ← putT n tm o.dst v
    regS P n ops is (rs ++ [(tm,o,v)]) tm1 h
   | .effect=>do
    let (a,h1) ← effA P (evA tm) o h
    let v ← (match a with
     | .value v=>.ok v
     | .skip=>.ok undef
     | _=>no "regS: a call" :M Value)
    let tm1 ← putT n tm o.dst v
    let r ← regS P n ops is rs tm1 h1
    .ok (stillP P h1 rs∧r.1,r.2)
   | .alloc=>no "regS: new memory"
def statR(P:Program)(ops:List Oper):List Oper→Nat→List Nat→List Oper→Bool
 | [],_,_,_=>true
 | o :: l,i,masks,prev=>match maskOf masks i o.after.toList with
  | .ok m=>orderOkS ops o m prev 0 && okOps P o && chainOk P .read m prev 0 && statR P ops l (i+1) (masks ++ [m]) (prev ++ [o])
  | .error _=>false
structure RegInvS (P:Program) (prev:List Oper) (rds:List (T Value × Oper × Value)) (rs:RS):Prop where
 ents:rs.ents.map (·.o)=prev
 ee:∀ j,j ∈ rs.ee→∃ o,prev[j]? = some o∧isRead (kindOf P o.op)=false
 al:rs.al=[]
 rd:∀ e,e ∈ rs.ents→isReadE e=true→(e.tm,e.o,e.v) ∈ rds
theorem readsOkS{mask:Nat}{h:AH}:∀ {l:List Ent} {j:Nat},(∀ e,e ∈ l→isReadE e=true→readA P (evA e.tm) e.o h = .ok e.v∧vfit 20 e.v=true)→readsOk P mask [] h l j=true
 | [],_,_=>rfl
 | x :: l,j,hk=>by
  simp only [readsOk,Bool.and_eq_true,Bool.or_eq_true]
  refine⟨?_,readsOkS fun e he=>hk e (by simp [he])⟩
  cases hr:isReadE x with
  | false=>exact .inl (.inl rfl)
  | true=>
   obtain⟨h1,h2⟩:=hk x (by simp) hr
   refine .inr ?_
   unfold sameRead
   rw [Bool.or_eq_true]
   refine .inr ?_
   simp only [withAl,h1]
   exact vfit_eq _ _ h2
theorem regLoop_S{nest:Nest}{n base:Nat}{ops:List Oper}:∀ (l:List Oper) (i:Nat) (rs:RS) (rds:List (T Value × Oper × Value)) (p:Prop) (tm':T Value) (h':AH) (prev:List Oper),RegInvS P prev rds rs→prev.length=i→ops.drop i=l→statR P ops l i rs.masks prev=true→regS P n ops (List.range' i l.length) rds rs.tm rs.h = .ok (p,tm',h')→p→
  ∃ rs',regLoop P n base nest ops l i rs = .ok rs'∧rs'.tm=tm'∧rs'.h=h'∧rs'.al=[]
 | [],i,rs,rds,p,tm',h',prev,R,hp,hl,hs,hqq,hpp=>by
  simp only [List.length_nil,List.range'_zero,regS] at hqq
  rw [okk] at hqq
  injection hqq with e1 e2
  injection e2 with e2 e3
  exact⟨rs,rfl,e2,e3,R.al⟩
 | o :: l,i,rs,rds,p,tm',h',prev,R,hp,hl,hs,hqq,hpp=>by
  have hi:ops[i]? = some o:=by
   have:=congrArg (fun x=>x[0]?) hl
   simpa [List.getElem?_drop] using this
  have hl':ops.drop (i+1)=l:=by
   have:=congrArg List.tail hl
   simpa [List.tail_drop] using this
  unfold statR at hs
  split at hs
  ·rename_i m hm
   simp only [Bool.and_eq_true] at hs
   obtain⟨⟨⟨h1,h2⟩,h3⟩,h4⟩:=hs
   rw [List.length_cons,List.range'_succ,regS,hi] at hqq
   simp only [bind_ok] at hqq
   obtain⟨w,hw,hqq⟩:=hqq
   rw [ite_no] at hqq
   obtain⟨hwt,hqq⟩:=hqq
   have hwt:w=true:=by simpa using hwt
   subst hwt
   have hmee:∀ j,j ∈ rs.ee→m.testBit j=true:=fun j hj=>by
    obtain⟨x,hx,hk⟩:=R.ee j hj
    have:=chain_at h3 j x hx (.inl hk)
    rw [Nat.zero_add] at this;exact this
   have grow:∀ {x:Oper} {j:Nat} {Q:Oper→Prop},(∃ y,prev[j]? = some y∧Q y)→∃ y,(prev ++ [x])[j]? = some y∧Q y:=by
    rintro x j Q ⟨y,hy,hQ⟩
    exact⟨y,by rw [List.getElem?_append_left (List.getElem?_eq_some_iff.1 hy).1];exact hy,hQ⟩
   have here:(prev ++ [o])[i]? = some o:=by rw [← hp,List.getElem?_append_right (Nat.le_refl _),Nat.sub_self];rfl
   have key:∃ rs1 rds1 p1,regStep P n base nest ops i o rs = .ok rs1∧rs1.masks=rs.masks ++ [m]∧RegInvS P (prev ++ [o]) rds1 rs1∧regS P n ops (List.range' (i+1) l.length) rds1 rs1.tm rs1.h = .ok (p1,tm',h')∧p1:=by
    unfold regStep
    simp only [hm,bind,Except.bind]
    rw [if_neg (by rw [orderOkS_eq,R.ents,h1];simp)]
    simp only [hw,Bool.not_true,Bool.false_eq_true,if_false,h2,R.al,withAl]
    cases hk:kindOf P o.op with
    | read=>
     rw [hk] at hqq
     simp only [bind_ok] at hqq
     obtain⟨v,hv,tm1,ht,hqq⟩:=hqq
     simp only [hv]
     rw [if_neg (by
      simp only [Bool.not_eq_true',Bool.not_eq_false']
      intro hh
      have:((rs.ee.zip rs.hh).all fun p=>m.testBit p.1 || sameRead P { o,mask:=m,tm:=rs.tm,want:=true,v,kind:=.read,obj:=none } [] p.2)=true:=by
       rw [List.all_eq_true]
       intro p hpz
       have:=hmee p.1 (List.of_mem_zip hpz).1
       rw [this];rfl
      first | (rw [this] at hh;cases hh) | (rw [hh] at this;cases this))]
     simp only [ht]
     refine⟨_,_,p,rfl,rfl,⟨by simp [R.ents],fun j hj=>grow (R.ee j hj),rfl,fun e he hr=>?_⟩,hqq,hpp⟩
     rcases List.mem_append.1 he with he | he
     ·exact List.mem_append.2 (.inl (R.rd e he hr))
     ·rw [List.mem_singleton] at he;subst he
      exact List.mem_append.2 (.inr (by simp))
    | alloc=>
     rw [hk] at hqq
     simp [no] at hqq
    | effect=>
     rw [hk] at hqq
     simp only [bind_ok] at hqq
     obtain⟨⟨a,h1'⟩,ha,v,hv,tm1,ht,⟨p1,r⟩,hr,hqq⟩:=hqq
     rw [okk] at hqq
     injection hqq with e1 e2
     subst e1;subst e2
     obtain⟨hst,hp1⟩:=hpp
     have hall:(rs.ee.all fun j=>m.testBit j)=true:=by rw [List.all_eq_true];exact fun j hj=>hmee j hj
     have he:effRun P nest (evA rs.tm) o rs.h = .ok (v,h1'):=by
      unfold effRun
      simp only [ha,bind,Except.bind]
      cases a with
      | value v0=>have hv:Except.ok v0=Except.ok v:=hv;injection hv with hv;subst hv;rfl
      | skip=>have hv:Except.ok undef=Except.ok v:=hv;injection hv with hv;subst hv;rfl
      | enter _ _=>have hv:no "regS: a call" =Except.ok v:=hv;cases hv
      | _=>have hv:no "regS: a call" =Except.ok v:=hv;cases hv
     have hro:readsOk P m [] h1' rs.ents 0=true:=readsOkS fun e he hr=>still_mem hst _ (R.rd e he hr)
     simp only [hall,Bool.not_true,Bool.false_eq_true,if_false,he,List.filter_nil,hro,ht]
     refine⟨_,rds,p1,rfl,rfl,⟨by simp [R.ents],fun j hj=>?_,rfl,fun e he hr=>?_⟩,hr,hp1⟩
     ·rcases List.mem_append.1 hj with hj | hj
      ·exact grow (R.ee j hj)
      ·rw [List.mem_singleton] at hj;subst hj
       exact⟨o,here,by rw [hk];rfl⟩
     ·rcases List.mem_append.1 he with he | he
      ·exact R.rd e he hr
      ·rw [List.mem_singleton] at he;subst he
       simp [isReadE] at hr
   obtain⟨rs1,rds1,p1,e1,e3,e4,e5,e6⟩:=key
   obtain⟨rs',g1,g2,g3,g4⟩:=regLoop_S (nest:=nest) l (i+1) rs1 rds1 p1 tm' h' (prev ++ [o]) e4 (by simp [hp]) hl' (by rw [e3];exact h4) e5 e6
   refine⟨rs',?_,g2,g3,g4⟩
   rw [regLoop]
   simp only [e1,bind,Except.bind]
   exact g1
  ·cases hs
theorem regionA_S{nest:Nest}{n:Nat}{ops:List Oper}{p:Prop}{tm tm':T Value}{h h':AH}(hs:statR P ops ops 0 [] []=true)(hq:regS P n ops (List.range ops.length) [] tm { h with next:=h.next+ops.length } = .ok (p,tm',h'))(hp:p) :
  regionA P n nest ops tm h = .ok (tm',h'):=by
 rw [List.range_eq_range'] at hq
 obtain⟨rs',g1,g2,g3,g4⟩:=regLoop_S (nest:=nest) (base:=h.next) (n:=n) ops 0 { tm,h:={ h with next:=h.next+ops.length },hh:=[{ h with next:=h.next+ops.length }],ee:=[],al:=[],masks:=[],ents:=[] } [] p tm' h' [] ⟨rfl,(fun j hj=>by cases hj),rfl,(fun e he=>by cases he)⟩ rfl rfl hs hq hp
 unfold regionA
 simp only [g1,bind,Except.bind]
 rw [g2,g4]
 show Except.ok (tm',rs'.h)=_
 rw [g3]
def needB(P:Program)(q:List Nat)(last:Nat)(kd:Kind)(quiet:Bool)(x:Oper)(j:Nat):Bool:=
 match kd with
 | .read=>!isRead (kindOf P x.op) && decide (j<last)
 | .alloc=>!isRead (kindOf P x.op)
 | .effect=>if quiet then !isRead (kindOf P x.op) || decide (j<last) else true
def chainM(P:Program)(q:List Nat)(last:Nat)(kd:Kind)(quiet:Bool)(mask:Nat):List Oper→Nat→Bool
 | [],_=>true
 | x :: l,j=>(!needB P q last kd quiet x j || mask.testBit j) && chainM P q last kd quiet mask l (j+1)
def lastM(P:Program)(q:List Nat)(i:Nat)(o:Oper)(last:Nat)(pend:Bool):Nat × Bool:=
 match kindOf P o.op with
 | .read=>(last,pend)
 | .alloc=>(i+1,true)
 | .effect=>if q.contains i then(if pend then(i+1,o.guard.isSome) else(last,false)) else(i+1,pend && o.guard.isSome)
def statOkM(P:Program)(q:List Nat)(ops:List Oper):List Oper→Nat→List Nat→List Oper→Nat→Bool→Bool
 | [],_,_,_,_,_=>true
 | o :: l,i,masks,prev,last,pend=>match maskOf masks i o.after.toList with
  | .ok m=>orderOkS ops o m prev 0 && okOps P o && chainM P q last (kindOf P o.op) (q.contains i) m prev 0 && statOkM P q ops l (i+1) (masks ++ [m]) (prev ++ [o]) (lastM P q i o last pend).1 (lastM P q i o last pend).2
  | .error _=>false
theorem chainM_at{q:List Nat}{last:Nat}{kd:Kind}{quiet:Bool}{mask:Nat}:∀ {l:List Oper} {j:Nat},chainM P q last kd quiet mask l j=true→∀ t o,l[t]? = some o→needB P q last kd quiet o (j+t)=true→mask.testBit (j+t)=true
 | [],_,_,t,o,ho,_=>by simp at ho
 | x :: l,j,h,t,o,ho,hk=>by
  simp only [chainM,Bool.and_eq_true,Bool.or_eq_true,Bool.not_eq_true'] at h
  cases t with
  | zero=>
   simp at ho;subst ho
   rw [Nat.add_zero] at hk ⊢
   rcases h.1 with h1 | h1
   ·rw [h1] at hk;cases hk
   ·exact h1
  | succ t=>
   have:=chainM_at (l:=l) (j:=j+1) h.2 t o (by simpa using ho) (by rw [show j+1+t=j+(t+1) by omega];exact hk)
   rw [show j+(t+1)=j+1+t by omega];exact this
def RegM(P:Program)(nest:Nest)(q:List Nat)(n base:Nat)(ops:List Oper):List Nat→T Value→AH→T Value→AH→Prop
 | [],tm,h,tm',h'=>tm=tm'∧h=h'
 | i :: is,tm,h,tm',h'=>∃ o want v h1 tm1,ops[i]? = some o∧wantedA ops tm o = .ok want∧(want=true→seqOp P nest base i (evA tm) o h = .ok (v,h1)∧(kindOf P o.op = .read→vfit 20 v=true)∧(q.contains i=true→h1=h))∧(want=false→v=undef∧h1=h)∧putT n tm o.dst v = .ok tm1∧RegM P nest q n base ops is tm1 h1 tm' h'
structure RegInvM (P:Program) (base:Nat) (prev:List Oper) (last:Nat) (pend:Bool) (rs:RS) (hq:AH):Prop where
 ents:rs.ents.map (·.o)=prev
 le:last≤prev.length
 ee:∀ j,j ∈ rs.ee→∃ o,prev[j]? = some o∧isRead (kindOf P o.op)=false
 al:∀ p,p ∈ rs.al→p.1<last∧∃ o,prev[p.1]? = some o∧isRead (kindOf P o.op)=false
 nil:pend=false→rs.al=[]
 hp:∀ m:Nat,(∀ p,p ∈ rs.al→m.testBit p.1=true)→withAl m rs.h rs.al=hq
 fin:finalH rs.h rs.al=hq
 hh:rs.hh.length=rs.ee.length+1∧rs.hh[rs.ee.length]? = some rs.h
 hz:∀ (k j:Nat) (x:AH),rs.ee[k]? = some j→rs.hh[k]? = some x→last≤j→x=rs.h∧rs.al=[]
 rd:∀ (t:Nat) (e:Ent),rs.ents[t]? = some e→last≤t→isReadE e=true→readA P (evA e.tm) e.o hq = .ok e.v∧veq 20 e.v e.v=true
theorem readsOkM{mask last:Nat}{h:AH}:∀ {l:List Ent} {j:Nat},(∀ t o,(l.map (·.o))[t]? = some o→j+t<last→mask.testBit (j+t)=true)→(∀ (t:Nat) (e:Ent),l[t]? = some e→last≤j+t→isReadE e=true→readA P (evA e.tm) e.o h = .ok e.v∧veq 20 e.v e.v=true)→readsOk P mask [] h l j=true
 | [],_,_,_=>rfl
 | x :: l,j,hm,hk=>by
  simp only [readsOk,Bool.and_eq_true,Bool.or_eq_true]
  refine⟨?_,readsOkM (last:=last) (fun t o ho hl=>?_) fun t e he hl=>?_⟩
  ·by_cases hl:j<last
   ·exact .inl (.inr (by have:=hm 0 x.o (by simp) (by omega);simpa using this))
   ·cases hr:isReadE x with
    | false=>exact .inl (.inl rfl)
    | true=>
     obtain⟨h1,h2⟩:=hk 0 x (by simp) (by omega) hr
     refine .inr ?_
     unfold sameRead
     simp only [withAl,h1,h2,Bool.or_true]
  ·have:=hm (t+1) o (by simpa using ho) (by omega)
   rw [show j+1+t=j+(t+1) by omega];exact this
  ·exact hk (t+1) e (by simpa using he) (by omega)
theorem zip_at{α β:Type}:∀ {a:List α} {b:List β} {p:α × β},p ∈ a.zip b→∃ k:Nat,a[k]? = some p.1∧b[k]? = some p.2
 | [],b,p,h=>by simp at h
 | x :: a,[],p,h=>by simp at h
 | x :: a,y :: b,p,h=>by
  rw [List.zip_cons_cons] at h
  rcases List.mem_cons.1 h with rfl | h
  ·exact⟨0,rfl,rfl⟩
  ·obtain⟨k,h1,h2⟩:=zip_at h
   exact⟨k+1,by simpa using h1,by simpa using h2⟩
theorem getE_snoc{α:Type}{l:List α}{x y:α}{k:Nat}(h:(l ++ [x])[k]? = some y):l[k]? = some y∨(k=l.length∧y=x):=by
 rcases Nat.lt_trichotomy k l.length with h1 | h1 | h1
 ·rw [List.getElem?_append_left h1] at h;exact .inl h
 ·subst h1;rw [List.getElem?_append_right (Nat.le_refl _),Nat.sub_self] at h;simp at h;exact .inr ⟨rfl,h.symm⟩
 ·rw [List.getElem?_eq_none (by simp;omega)] at h;cases h
theorem regLoop_M{nest:Nest}{q:List Nat}{n base:Nat}{ops:List Oper}:∀ (l:List Oper) (i:Nat) (rs:RS) (tm':T Value) (h' hq:AH) (prev:List Oper) (last:Nat) (pend:Bool),RegInvM P base prev last pend rs hq→prev.length=i→ops.drop i=l→statOkM P q ops l i rs.masks prev last pend=true→RegM P nest q n base ops (List.range' i l.length) rs.tm hq tm' h'→
  ∃ rs',regLoop P n base nest ops l i rs = .ok rs'∧rs'.tm=tm'∧finalH rs'.h rs'.al=h'
 | [],i,rs,tm',h',hq,prev,last,pend,R,hp,hl,hs,hqq=>by
  simp only [List.length_nil,List.range'_zero,RegM] at hqq
  exact⟨rs,rfl,hqq.1,R.fin.trans hqq.2⟩
 | o :: l,i,rs,tm',h',hq,prev,last,pend,R,hp,hl,hs,hqq=>by
  have hi:ops[i]? = some o:=by
   have:=congrArg (fun x=>x[0]?) hl
   simpa [List.getElem?_drop] using this
  have hl':ops.drop (i+1)=l:=by
   have:=congrArg List.tail hl
   simpa [List.tail_drop] using this
  unfold statOkM at hs
  split at hs
  ·rename_i m hm
   simp only [Bool.and_eq_true] at hs
   obtain⟨⟨⟨h1,h2⟩,h3⟩,h4⟩:=hs
   rw [List.length_cons,List.range'_succ,RegM] at hqq
   obtain⟨o',want,v,h1',tm1,ho,hw,hv,hu,ht,hqq⟩:=hqq
   rw [hi] at ho;injection ho with ho;subst ho
   have hlen:rs.ents.length=i:=by rw [← hp,← R.ents,List.length_map]
   have grow:∀ {x:Oper} {j:Nat} {Q:Oper→Prop},(∃ y,prev[j]? = some y∧Q y)→∃ y,(prev ++ [x])[j]? = some y∧Q y:=by
    rintro x j Q ⟨y,hy,hQ⟩
    exact⟨y,by rw [List.getElem?_append_left (List.getElem?_eq_some_iff.1 hy).1];exact hy,hQ⟩
   have here:(prev ++ [o])[i]? = some o:=by rw [← hp,List.getElem?_append_right (Nat.le_refl _),Nat.sub_self];rfl
   have bit:∀ (t:Nat) (x:Oper),prev[t]? = some x→needB P q last (kindOf P o.op) (q.contains i) x t=true→m.testBit t=true:=by
    intro t x hx hn
    have:=chainM_at h3 t x hx (by rw [Nat.zero_add];exact hn)
    rw [Nat.zero_add] at this;exact this
   have hle:=R.le
   have key:∃ rs1,regStep P n base nest ops i o rs = .ok rs1∧rs1.tm=tm1∧rs1.masks=rs.masks ++ [m]∧RegInvM P base (prev ++ [o]) (lastM P q i o last pend).1 (lastM P q i o last pend).2 rs1 h1':=by
    unfold regStep
    simp only [hm,bind,Except.bind]
    rw [if_neg (by rw [orderOkS_eq,R.ents,h1];simp)]
    simp only [hw]
    cases want with
    | false=>
     obtain⟨rfl,rfl⟩:=hu rfl
     simp only [Bool.not_false,if_true,ht]
     have hl2:last≤(lastM P q i o last pend).1∧(lastM P q i o last pend).1≤i+1:=by
      unfold lastM
      split
      ·simp only;omega
      ·simp only;omega
      ·split
       ·split <;> (simp only;omega)
       ·simp only;omega
     refine⟨_,rfl,rfl,rfl,⟨by simp [R.ents],by simp only [List.length_append,List.length_singleton];omega,fun j hj=>grow (R.ee j hj),fun p hp=>⟨by have:=(R.al p hp).1;omega,grow (R.al p hp).2⟩,fun hpn=>?_,R.hp,R.fin,R.hh,fun k j x hk hx hj=>R.hz k j x hk hx (by omega),fun t e he hj hr=>?_⟩⟩
     ·
      cases hk:kindOf P o.op with
      | read=>simp only [lastM,hk] at hpn;exact R.nil hpn
      | alloc=>simp only [lastM,hk] at hpn;cases hpn
      | effect=>
       have hg:o.guard.isSome=true:=by
        unfold wantedA at hw
        cases hgd:o.guard with
        | none=>rw [hgd] at hw;simp only at hw;rw [okk] at hw;cases hw
        | some g=>rfl
       refine R.nil ?_
       cases pend with
       | false=>rfl
       | true=>
        simp only [lastM,hk,hg,if_true,Bool.and_true] at hpn
        split at hpn <;> cases hpn
     ·rcases getE_snoc he with he | ⟨_,rfl⟩
      ·exact R.rd t e he (by omega) hr
      ·simp [isReadE] at hr
    | true=>
     obtain⟨hv,hfit,hqt⟩:=hv rfl
     unfold seqOp at hv
     simp only [Bool.not_true,Bool.false_eq_true,if_false,h2]
     cases hk:kindOf P o.op with
     | read=>
      rw [hk] at hv
      simp only [bind_ok] at hv
      obtain⟨v1,hv1,hv⟩:=hv
      rw [okk] at hv
      injection hv with e1 e2
      subst e1;subst e2
      have hve:=vfit_eq 20 v1 (hfit hk)
      have hmal:∀ p,p ∈ rs.al→m.testBit p.1=true:=fun p hpm=>by
       obtain⟨hlt,x,hx,hkx⟩:=R.al p hpm
       exact bit p.1 x hx (by rw [hk];simp only [needB,hkx];simpa using hlt)
      have hH:withAl m rs.h rs.al=hq:=R.hp m hmal
      simp only [hH,hv1]
      rw [if_neg (by
       simp only [Bool.not_eq_true',Bool.not_eq_false']
       intro hh
       have:((rs.ee.zip rs.hh).all fun p=>m.testBit p.1 || sameRead P { o,mask:=m,tm:=rs.tm,want:=true,v:=v1,kind:=.read,obj:=none } rs.al p.2)=true:=by
        rw [List.all_eq_true]
        intro p hpz
        obtain⟨k,hk1,hk2⟩:=zip_at hpz
        rcases Nat.lt_or_ge p.1 last with hlt | hge
        ·obtain⟨x,hx,hkx⟩:=R.ee p.1 (List.mem_of_getElem? hk1)
         rw [bit p.1 x hx (by rw [hk];simp only [needB,hkx];simpa using hlt)];rfl
        ·obtain⟨hx,hal⟩:=R.hz k p.1 p.2 hk1 hk2 hge
         have hrh:rs.h=hq:=by have:=R.fin;rw [hal] at this;exact this
         rw [hx,hal,hrh]
         unfold sameRead
         simp only [withAl,hv1,hve,Bool.or_true]
       first | (rw [this] at hh;cases hh) | (rw [hh] at this;cases this))]
      simp only [ht]
      have hlm:lastM P q i o last pend=(last,pend):=by unfold lastM;rw [hk]
      rw [hlm]
      refine⟨_,rfl,rfl,rfl,⟨by simp [R.ents],by simp only [List.length_append,List.length_singleton];omega,fun j hj=>grow (R.ee j hj),fun p hp=>⟨(R.al p hp).1,grow (R.al p hp).2⟩,R.nil,R.hp,R.fin,R.hh,R.hz,fun t e he hj hr=>?_⟩⟩
      rcases getE_snoc he with he | ⟨_,rfl⟩
      ·exact R.rd t e he hj hr
      ·exact⟨hv1,hve⟩
     | alloc=>
      rw [hk] at hv
      simp only [bind_ok] at hv
      obtain⟨⟨v1,b⟩,hv1,hv⟩:=hv
      rw [okk] at hv
      injection hv with e1 e2
      subst e1;subst e2
      simp only [hv1,ht]
      have hlm:lastM P q i o last pend=(i+1,true):=by unfold lastM;rw [hk]
      rw [hlm]
      refine⟨_,rfl,rfl,rfl,⟨by simp [R.ents],by simp only [List.length_append,List.length_singleton];omega,fun j hj=>grow (R.ee j hj),fun p hp'=>?_,(fun h=>by cases h),fun m' hm'=>?_,?_,R.hh,fun k j x hk' hx hj=>?_,fun t e he hj hr=>?_⟩⟩
      ·rcases List.mem_cons.1 hp' with rfl | hp'
       ·exact⟨Nat.lt_succ_self _,o,here,by rw [hk];rfl⟩
       ·exact⟨by have:=(R.al p hp').1;simp only;omega,grow (R.al p hp').2⟩
      ·show(if m'.testBit i=true then putA (withAl m' rs.h rs.al) (base+i) b else _)=_
       rw [if_pos (hm' (i,base+i,b) (by simp)),R.hp m' fun p hp'=>hm' p (by simp [hp'])]
      ·show putA (finalH rs.h rs.al) (base+i) b=_
       rw [R.fin]
      ·obtain⟨y,hy,_⟩:=R.ee j (List.mem_of_getElem? hk')
       have:=(List.getElem?_eq_some_iff.1 hy).1
       simp only at hj;omega
      ·rcases getE_snoc he with he | ⟨_,rfl⟩
       ·have:=(List.getElem?_eq_some_iff.1 he).1
        simp only at hj;omega
       ·simp [isReadE] at hr
     | effect=>
      rw [hk] at hv
      simp only at hv
      have hall:(rs.ee.all fun j=>m.testBit j)=true:=by
       rw [List.all_eq_true]
       intro j hj
       obtain⟨x,hx,hkx⟩:=R.ee j hj
       refine bit j x hx ?_
       rw [hk];simp only [needB,hkx];cases q.contains i <;> rfl
      have hmal:∀ p,p ∈ rs.al→m.testBit p.1=true:=fun p hpm=>by
       obtain⟨_,x,hx,hkx⟩:=R.al p hpm
       refine bit p.1 x hx ?_
       rw [hk];simp only [needB,hkx];cases q.contains i <;> rfl
      have hH:withAl m rs.h rs.al=hq:=R.hp m hmal
      have hfil:(rs.al.filter fun p=>!m.testBit p.1)=[]:=by
       rw [List.filter_eq_nil_iff]
       intro p hpm
       rw [hmal p hpm];simp
      have hee:∀ j,j ∈ rs.ee ++ [i]→∃ o1,(prev ++ [o])[j]? = some o1∧isRead (kindOf P o1.op)=false:=by
       intro j hj
       rcases List.mem_append.1 hj with hj | hj
       ·exact grow (R.ee j hj)
       ·rw [List.mem_singleton] at hj;subst hj
        exact⟨o,here,by rw [hk];rfl⟩
      have hhh:(rs.hh ++ [h1']).length=(rs.ee ++ [i]).length+1∧(rs.hh ++ [h1'])[(rs.ee ++ [i]).length]? = some h1':=by
       have:=R.hh.1
       refine⟨by simp [this],?_⟩
       rw [List.length_append,List.length_singleton,← this,List.getElem?_append_right (Nat.le_refl _),Nat.sub_self];rfl
      cases hqi:q.contains i with
      | true=>
       obtain rfl:=hqt hqi
       have hro:readsOk P m [] h1' rs.ents 0=true:=readsOkM (last:=last) (fun t x hx hlt=>by
        rw [R.ents] at hx
        rw [Nat.zero_add] at hlt ⊢
        exact bit t x hx (by rw [hk,hqi];simp only [needB,if_true];rw [decide_eq_true hlt,Bool.or_true])) (fun t e he hl hr=>R.rd t e he (by omega) hr)
       simp only [hall,Bool.not_true,Bool.false_eq_true,if_false,hH,hv,hfil,hro,ht]
       refine⟨_,rfl,rfl,rfl,?_⟩
       cases pend with
       | true=>
        have hlm:(lastM P q i o last true).1=i+1:=by unfold lastM;rw [hk];simp only [hqi,if_true]
        rw [hlm]
        refine⟨by simp [R.ents],by simp only [List.length_append,List.length_singleton];omega,hee,(fun p hp'=>by cases hp'),fun _=>rfl,fun m' _=>rfl,rfl,hhh,fun k j x hk' hx hj=>?_,fun t e he hj hr=>?_⟩
        ·obtain⟨y,hy,_⟩:=hee j (List.mem_of_getElem? hk')
         have:=(List.getElem?_eq_some_iff.1 hy).1
         simp only [List.length_append,List.length_singleton] at this hj;omega
        ·have:=(List.getElem?_eq_some_iff.1 he).1
         simp only [List.length_append,List.length_singleton,hlen] at this hj;omega
       | false=>
        have hlm:lastM P q i o last false=(last,false):=by unfold lastM;rw [hk];simp only [hqi,if_true,Bool.false_eq_true,if_false]
        rw [hlm]
        have hal:=R.nil rfl
        have hrh:rs.h=h1':=by have:=R.fin;rw [hal] at this;exact this
        refine⟨by simp [R.ents],by simp only [List.length_append,List.length_singleton];omega,hee,(fun p hp'=>by cases hp'),fun _=>rfl,fun m' _=>rfl,rfl,hhh,fun k j x hk' hx hj=>⟨?_,rfl⟩,fun t e he hj hr=>?_⟩
        ·simp only at hk' hx ⊢
         rcases getE_snoc hk' with hk' | ⟨e1,e2⟩
         ·have hkl:=(List.getElem?_eq_some_iff.1 hk').1
          rw [List.getElem?_append_left (by rw [R.hh.1];omega)] at hx
          rw [(R.hz k j x hk' hx hj).1,hrh]
         ·subst e1
          rw [List.getElem?_append_left (by rw [R.hh.1];omega),R.hh.2] at hx
          injection hx with hx;rw [← hx,hrh]
        ·rcases getE_snoc he with he | ⟨_,rfl⟩
         ·exact R.rd t e he hj hr
         ·simp [isReadE] at hr
      | false=>
       have hro:readsOk P m [] h1' rs.ents 0=true:=readsOkM (last:=i) (fun t x hx hlt=>by
        rw [R.ents] at hx
        rw [Nat.zero_add] at hlt ⊢
        exact bit t x hx (by rw [hk,hqi];simp only [needB,Bool.false_eq_true,if_false])) (fun t e he hl hr=>by
         have:=(List.getElem?_eq_some_iff.1 he).1
         omega)
       simp only [hall,Bool.not_true,Bool.false_eq_true,if_false,hH,hv,hfil,hro,ht]
       have hlm:(lastM P q i o last pend).1=i+1:=by unfold lastM;rw [hk];simp only [hqi,Bool.false_eq_true,if_false]
       rw [hlm]
       refine⟨_,rfl,rfl,rfl,by simp [R.ents],by simp only [List.length_append,List.length_singleton];omega,hee,(fun p hp'=>by cases hp'),fun _=>rfl,fun m' _=>rfl,rfl,hhh,fun k j x hk' hx hj=>?_,fun t e he hj hr=>?_⟩
       ·obtain⟨y,hy,_⟩:=hee j (List.mem_of_getElem? hk')
        have:=(List.getElem?_eq_some_iff.1 hy).1
        simp only [List.length_append,List.length_singleton] at this hj;omega
       ·have:=(List.getElem?_eq_some_iff.1 he).1
        simp only [List.length_append,List.length_singleton,hlen] at this hj;omega
   obtain⟨rs1,e1,e2,e3,e4⟩:=key
   obtain⟨rs',g1,g2,g3⟩:=regLoop_M (nest:=nest) l (i+1) rs1 tm' h' h1' (prev ++ [o]) _ _ e4 (by simp [hp]) hl' (by rw [e3];exact h4) (by rw [e2];exact hqq)
   refine⟨rs',?_,g2,g3⟩
   rw [regLoop]
   simp only [e1,bind,Except.bind]
   exact g1
  ·cases hs
theorem regionA_M{nest:Nest}{q:List Nat}{n:Nat}{ops:List Oper}{tm tm':T Value}{h h':AH}(hs:statOkM P q ops ops 0 [] [] 0 false=true)(hq:RegM P nest q n h.next ops (List.range ops.length) tm { h with next:=h.next+ops.length } tm' h') :
  regionA P n nest ops tm h = .ok (tm',h'):=by
 rw [List.range_eq_range'] at hq
 obtain⟨rs',g1,g2,g3⟩:=regLoop_M (nest:=nest) (base:=h.next) (n:=n) ops 0 { tm,h:={ h with next:=h.next+ops.length },hh:=[{ h with next:=h.next+ops.length }],ee:=[],al:=[],masks:=[],ents:=[] } tm' h' { h with next:=h.next+ops.length } [] 0 false ⟨rfl,Nat.le_refl _,(fun j hj=>by cases hj),(fun p hp=>by cases hp),fun _=>rfl,fun _ _=>rfl,rfl,⟨rfl,rfl⟩,(fun k j x hk=>by simp at hk),(fun t e he=>by simp at he)⟩ rfl rfl hs hq
 unfold regionA
 simp only [g1,bind,Except.bind]
 rw [g3,g2]
def nextR(P:Program)(q:List Nat)(i:Nat)(o:Oper)(ev:Operand→Value)(v:Value)(rds:List ((Operand→Value) × Oper × Value)):Bool→List ((Operand→Value) × Oper × Value)
 | false=>rds
 | true=>match kindOf P o.op with
  | .read=>(ev,o,v) :: rds
  | .alloc=>[]
  | .effect=>if q.contains i then rds else []
def nextH(P:Program)(q:List Nat)(i:Nat)(o:Oper)(h:AH)(xs:List AH):Bool→List AH
 | false=>xs
 | true=>match kindOf P o.op with
  | .read=>xs
  | .alloc=>[]
  | .effect=>if q.contains i then h :: xs else []
def RegN(P:Program)(nest:Nest)(q:List Nat)(n base:Nat)(ops:List Oper):List Nat→List ((Operand→Value) × Oper × Value)→List AH→T Value→AH→T Value→AH→Prop
 | [],_,_,tm,h,tm',h'=>tm=tm'∧h=h'
 | i :: is,rds,xs,tm,h,tm',h'=>∃ o want v h1 tm1,ops[i]? = some o∧wantedA ops tm o = .ok want∧(want=true→seqOp P nest base i (evA tm) o h = .ok (v,h1)∧(kindOf P o.op = .read→vfit 20 v=true∧∀ x,x ∈ xs→readA P (evA tm) o x = .ok v)∧(q.contains i=true→∀ r,r ∈ rds→readA P r.1 r.2.1 h1 = .ok r.2.2))∧(want=false→v=undef∧h1=h)∧putT n tm o.dst v = .ok tm1∧RegN P nest q n base ops is (nextR P q i o (evA tm) v rds want) (nextH P q i o h xs want) tm1 h1 tm' h'
structure RegInvN (P:Program) (base:Nat) (prev:List Oper) (last:Nat) (pend:Bool) (rs:RS) (hq:AH) (rds:List ((Operand→Value) × Oper × Value)) (xs:List AH):Prop where
 ents:rs.ents.map (·.o)=prev
 le:last≤prev.length
 ee:∀ j,j ∈ rs.ee→∃ o,prev[j]? = some o∧isRead (kindOf P o.op)=false
 al:∀ p,p ∈ rs.al→p.1<last∧∃ o,prev[p.1]? = some o∧isRead (kindOf P o.op)=false
 nil:pend=false→rs.al=[]
 hp:∀ m:Nat,(∀ p,p ∈ rs.al→m.testBit p.1=true)→withAl m rs.h rs.al=hq
 fin:finalH rs.h rs.al=hq
 hh:rs.hh.length=rs.ee.length+1∧rs.hh[rs.ee.length]? = some rs.h
 hz:∀ (k j:Nat) (x:AH),rs.ee[k]? = some j→rs.hh[k]? = some x→last≤j→x ∈ xs∧rs.al=[]
 rd:∀ (t:Nat) (e:Ent),rs.ents[t]? = some e→last≤t→isReadE e=true→(evA e.tm,e.o,e.v) ∈ rds∧readA P (evA e.tm) e.o hq = .ok e.v∧veq 20 e.v e.v=true
theorem regLoop_N{nest:Nest}{q:List Nat}{n base:Nat}{ops:List Oper}:∀ (l:List Oper) (i:Nat) (rs:RS) (tm':T Value) (h' hq:AH) (prev:List Oper) (last:Nat) (pend:Bool) (rds:List ((Operand→Value) × Oper × Value)) (xs:List AH),RegInvN P base prev last pend rs hq rds xs→prev.length=i→ops.drop i=l→statOkM P q ops l i rs.masks prev last pend=true→RegN P nest q n base ops (List.range' i l.length) rds xs rs.tm hq tm' h'→
  ∃ rs',regLoop P n base nest ops l i rs = .ok rs'∧rs'.tm=tm'∧finalH rs'.h rs'.al=h'
 | [],i,rs,tm',h',hq,prev,last,pend,rds,xs,R,hp,hl,hs,hqq=>by
  simp only [List.length_nil,List.range'_zero,RegN] at hqq
  exact⟨rs,rfl,hqq.1,R.fin.trans hqq.2⟩
 | o :: l,i,rs,tm',h',hq,prev,last,pend,rds,xs,R,hp,hl,hs,hqq=>by
  have hi:ops[i]? = some o:=by
   have:=congrArg (fun x=>x[0]?) hl
   simpa [List.getElem?_drop] using this
  have hl':ops.drop (i+1)=l:=by
   have:=congrArg List.tail hl
   simpa [List.tail_drop] using this
  unfold statOkM at hs
  split at hs
  ·rename_i m hm
   simp only [Bool.and_eq_true] at hs
   obtain⟨⟨⟨h1,h2⟩,h3⟩,h4⟩:=hs
   rw [List.length_cons,List.range'_succ,RegN] at hqq
   obtain⟨o',want,v,h1',tm1,ho,hw,hv,hu,ht,hqq⟩:=hqq
   rw [hi] at ho;injection ho with ho;subst ho
   have hlen:rs.ents.length=i:=by rw [← hp,← R.ents,List.length_map]
   have grow:∀ {x:Oper} {j:Nat} {Q:Oper→Prop},(∃ y,prev[j]? = some y∧Q y)→∃ y,(prev ++ [x])[j]? = some y∧Q y:=by
    rintro x j Q ⟨y,hy,hQ⟩
    exact⟨y,by rw [List.getElem?_append_left (List.getElem?_eq_some_iff.1 hy).1];exact hy,hQ⟩
   have here:(prev ++ [o])[i]? = some o:=by rw [← hp,List.getElem?_append_right (Nat.le_refl _),Nat.sub_self];rfl
   have bit:∀ (t:Nat) (x:Oper),prev[t]? = some x→needB P q last (kindOf P o.op) (q.contains i) x t=true→m.testBit t=true:=by
    intro t x hx hn
    have:=chainM_at h3 t x hx (by rw [Nat.zero_add];exact hn)
    rw [Nat.zero_add] at this;exact this
   have hle:=R.le
   have key:∃ rs1,regStep P n base nest ops i o rs = .ok rs1∧rs1.tm=tm1∧rs1.masks=rs.masks ++ [m]∧RegInvN P base (prev ++ [o]) (lastM P q i o last pend).1 (lastM P q i o last pend).2 rs1 h1' (nextR P q i o (evA rs.tm) v rds want) (nextH P q i o hq xs want):=by
    unfold regStep
    simp only [hm,bind,Except.bind]
    rw [if_neg (by rw [orderOkS_eq,R.ents,h1];simp)]
    simp only [hw]
    cases want with
    | false=>
     obtain⟨rfl,rfl⟩:=hu rfl
     simp only [Bool.not_false,if_true,ht]
     have hl2:last≤(lastM P q i o last pend).1∧(lastM P q i o last pend).1≤i+1:=by
      unfold lastM
      split
      ·simp only;omega
      ·simp only;omega
      ·split
       ·split <;> (simp only;omega)
       ·simp only;omega
     refine⟨_,rfl,rfl,rfl,⟨by simp [R.ents],by simp only [List.length_append,List.length_singleton];omega,fun j hj=>grow (R.ee j hj),fun p hp=>⟨by have:=(R.al p hp).1;omega,grow (R.al p hp).2⟩,fun hpn=>?_,R.hp,R.fin,R.hh,fun k j x hk hx hj=>R.hz k j x hk hx (by omega),fun t e he hj hr=>?_⟩⟩
     ·
      cases hk:kindOf P o.op with
      | read=>simp only [lastM,hk] at hpn;exact R.nil hpn
      | alloc=>simp only [lastM,hk] at hpn;cases hpn
      | effect=>
       have hg:o.guard.isSome=true:=by
        unfold wantedA at hw
        cases hgd:o.guard with
        | none=>rw [hgd] at hw;simp only at hw;rw [okk] at hw;cases hw
        | some g=>rfl
       refine R.nil ?_
       cases pend with
       | false=>rfl
       | true=>
        simp only [lastM,hk,hg,if_true,Bool.and_true] at hpn
        split at hpn <;> cases hpn
     ·rcases getE_snoc he with he | ⟨_,rfl⟩
      ·exact R.rd t e he (by omega) hr
      ·simp [isReadE] at hr
    | true=>
     obtain⟨hv,hfit,hqt⟩:=hv rfl
     unfold seqOp at hv
     simp only [Bool.not_true,Bool.false_eq_true,if_false,h2]
     cases hk:kindOf P o.op with
     | read=>
      rw [hk] at hv
      simp only [bind_ok] at hv
      obtain⟨v1,hv1,hv⟩:=hv
      rw [okk] at hv
      injection hv with e1 e2
      subst e1;subst e2
      have hve:=vfit_eq 20 v1 (hfit hk).1
      have hnR:nextR P q i o (evA rs.tm) v1 rds true=(evA rs.tm,o,v1) :: rds:=by simp only [nextR,hk]
      have hnH:nextH P q i o hq xs true=xs:=by simp only [nextH,hk]
      have hmal:∀ p,p ∈ rs.al→m.testBit p.1=true:=fun p hpm=>by
       obtain⟨hlt,x,hx,hkx⟩:=R.al p hpm
       exact bit p.1 x hx (by rw [hk];simp only [needB,hkx];simpa using hlt)
      have hH:withAl m rs.h rs.al=hq:=R.hp m hmal
      simp only [hH,hv1]
      rw [if_neg (by
       simp only [Bool.not_eq_true',Bool.not_eq_false']
       intro hh
       have:((rs.ee.zip rs.hh).all fun p=>m.testBit p.1 || sameRead P { o,mask:=m,tm:=rs.tm,want:=true,v:=v1,kind:=.read,obj:=none } rs.al p.2)=true:=by
        rw [List.all_eq_true]
        intro p hpz
        obtain⟨k,hk1,hk2⟩:=zip_at hpz
        rcases Nat.lt_or_ge p.1 last with hlt | hge
        ·obtain⟨x,hx,hkx⟩:=R.ee p.1 (List.mem_of_getElem? hk1)
         rw [bit p.1 x hx (by rw [hk];simp only [needB,hkx];simpa using hlt)];rfl
        ·obtain⟨hx,hal⟩:=R.hz k p.1 p.2 hk1 hk2 hge
         rw [hal]
         unfold sameRead
         simp only [withAl,(hfit hk).2 p.2 hx,hve,Bool.or_true]
       first | (rw [this] at hh;cases hh) | (rw [hh] at this;cases this))]
      simp only [ht]
      have hlm:lastM P q i o last pend=(last,pend):=by unfold lastM;rw [hk]
      rw [hlm,hnR,hnH]
      refine⟨_,rfl,rfl,rfl,⟨by simp [R.ents],by simp only [List.length_append,List.length_singleton];omega,fun j hj=>grow (R.ee j hj),fun p hp=>⟨(R.al p hp).1,grow (R.al p hp).2⟩,R.nil,R.hp,R.fin,R.hh,R.hz,fun t e he hj hr=>?_⟩⟩
      rcases getE_snoc he with he | ⟨_,rfl⟩
      ·obtain⟨g1,g2⟩:=R.rd t e he hj hr
       exact⟨List.mem_cons_of_mem _ g1,g2⟩
      ·exact⟨List.mem_cons_self,hv1,hve⟩
     | alloc=>
      rw [hk] at hv
      simp only [bind_ok] at hv
      obtain⟨⟨v1,b⟩,hv1,hv⟩:=hv
      rw [okk] at hv
      injection hv with e1 e2
      subst e1;subst e2
      simp only [hv1,ht]
      have hlm:lastM P q i o last pend=(i+1,true):=by unfold lastM;rw [hk]
      rw [hlm]
      refine⟨_,rfl,rfl,rfl,⟨by simp [R.ents],by simp only [List.length_append,List.length_singleton];omega,fun j hj=>grow (R.ee j hj),fun p hp'=>?_,(fun h=>by cases h),fun m' hm'=>?_,?_,R.hh,fun k j x hk' hx hj=>?_,fun t e he hj hr=>?_⟩⟩
      ·rcases List.mem_cons.1 hp' with rfl | hp'
       ·exact⟨Nat.lt_succ_self _,o,here,by rw [hk];rfl⟩
       ·exact⟨by have:=(R.al p hp').1;simp only;omega,grow (R.al p hp').2⟩
      ·show(if m'.testBit i=true then putA (withAl m' rs.h rs.al) (base+i) b else _)=_
       rw [if_pos (hm' (i,base+i,b) (by simp)),R.hp m' fun p hp'=>hm' p (by simp [hp'])]
      ·show putA (finalH rs.h rs.al) (base+i) b=_
       rw [R.fin]
      ·obtain⟨y,hy,_⟩:=R.ee j (List.mem_of_getElem? hk')
       have:=(List.getElem?_eq_some_iff.1 hy).1
       simp only at hj;omega
      ·rcases getE_snoc he with he | ⟨_,rfl⟩
       ·have:=(List.getElem?_eq_some_iff.1 he).1
        simp only at hj;omega
       ·simp [isReadE] at hr
     | effect=>
      rw [hk] at hv
      simp only at hv
      have hall:(rs.ee.all fun j=>m.testBit j)=true:=by
       rw [List.all_eq_true]
       intro j hj
       obtain⟨x,hx,hkx⟩:=R.ee j hj
       refine bit j x hx ?_
       rw [hk];simp only [needB,hkx];cases q.contains i <;> rfl
      have hmal:∀ p,p ∈ rs.al→m.testBit p.1=true:=fun p hpm=>by
       obtain⟨_,x,hx,hkx⟩:=R.al p hpm
       refine bit p.1 x hx ?_
       rw [hk];simp only [needB,hkx];cases q.contains i <;> rfl
      have hH:withAl m rs.h rs.al=hq:=R.hp m hmal
      have hfil:(rs.al.filter fun p=>!m.testBit p.1)=[]:=by
       rw [List.filter_eq_nil_iff]
       intro p hpm
       rw [hmal p hpm];simp
      have hee:∀ j,j ∈ rs.ee ++ [i]→∃ o1,(prev ++ [o])[j]? = some o1∧isRead (kindOf P o1.op)=false:=by
       intro j hj
       rcases List.mem_append.1 hj with hj | hj
       ·exact grow (R.ee j hj)
       ·rw [List.mem_singleton] at hj;subst hj
        exact⟨o,here,by rw [hk];rfl⟩
      have hhh:(rs.hh ++ [h1']).length=(rs.ee ++ [i]).length+1∧(rs.hh ++ [h1'])[(rs.ee ++ [i]).length]? = some h1':=by
       have:=R.hh.1
       refine⟨by simp [this],?_⟩
       rw [List.length_append,List.length_singleton,← this,List.getElem?_append_right (Nat.le_refl _),Nat.sub_self];rfl
      cases hqi:q.contains i with
      | true=>
       have hqk:=hqt hqi
       have hnR:nextR P q i o (evA rs.tm) v rds true=rds:=by simp only [nextR,hk,hqi,if_true]
       have hnH:nextH P q i o hq xs true=hq :: xs:=by simp only [nextH,hk,hqi,if_true]
       rw [hnR,hnH]
       have hro:readsOk P m [] h1' rs.ents 0=true:=readsOkM (last:=last) (fun t x hx hlt=>by
        rw [R.ents] at hx
        rw [Nat.zero_add] at hlt ⊢
        exact bit t x hx (by rw [hk,hqi];simp only [needB,if_true];rw [decide_eq_true hlt,Bool.or_true])) (fun t e he hl hr=>by
         obtain⟨g1,_,g3⟩:=R.rd t e he (by omega) hr
         exact⟨hqk _ g1,g3⟩)
       simp only [hall,Bool.not_true,Bool.false_eq_true,if_false,hH,hv,hfil,hro,ht]
       refine⟨_,rfl,rfl,rfl,?_⟩
       cases pend with
       | true=>
        have hlm:(lastM P q i o last true).1=i+1:=by unfold lastM;rw [hk];simp only [hqi,if_true]
        rw [hlm]
        refine⟨by simp [R.ents],by simp only [List.length_append,List.length_singleton];omega,hee,(fun p hp'=>by cases hp'),fun _=>rfl,fun m' _=>rfl,rfl,hhh,fun k j x hk' hx hj=>?_,fun t e he hj hr=>?_⟩
        ·obtain⟨y,hy,_⟩:=hee j (List.mem_of_getElem? hk')
         have:=(List.getElem?_eq_some_iff.1 hy).1
         simp only [List.length_append,List.length_singleton] at this hj;omega
        ·have:=(List.getElem?_eq_some_iff.1 he).1
         simp only [List.length_append,List.length_singleton,hlen] at this hj;omega
       | false=>
        have hlm:lastM P q i o last false=(last,false):=by unfold lastM;rw [hk];simp only [hqi,if_true,Bool.false_eq_true,if_false]
        rw [hlm]
        have hal:=R.nil rfl
        have hrh:rs.h=hq:=by have:=R.fin;rw [hal] at this;exact this
        refine⟨by simp [R.ents],by simp only [List.length_append,List.length_singleton];omega,hee,(fun p hp'=>by cases hp'),fun _=>rfl,fun m' _=>rfl,rfl,hhh,fun k j x hk' hx hj=>⟨?_,rfl⟩,fun t e he hj hr=>?_⟩
        ·simp only at hk' hx ⊢
         rcases getE_snoc hk' with hk' | ⟨e1,e2⟩
         ·have hkl:=(List.getElem?_eq_some_iff.1 hk').1
          rw [List.getElem?_append_left (by rw [R.hh.1];omega)] at hx
          exact List.mem_cons_of_mem _ (R.hz k j x hk' hx hj).1
         ·subst e1
          rw [List.getElem?_append_left (by rw [R.hh.1];omega),R.hh.2] at hx
          injection hx with hx;rw [← hx,hrh];exact List.mem_cons_self
        ·rcases getE_snoc he with he | ⟨_,rfl⟩
         ·obtain⟨g1,_,g3⟩:=R.rd t e he hj hr
          exact⟨g1,hqk _ g1,g3⟩
         ·simp [isReadE] at hr
      | false=>
       have hro:readsOk P m [] h1' rs.ents 0=true:=readsOkM (last:=i) (fun t x hx hlt=>by
        rw [R.ents] at hx
        rw [Nat.zero_add] at hlt ⊢
        exact bit t x hx (by rw [hk,hqi];simp only [needB,Bool.false_eq_true,if_false])) (fun t e he hl hr=>by
         have:=(List.getElem?_eq_some_iff.1 he).1
         omega)
       simp only [hall,Bool.not_true,Bool.false_eq_true,if_false,hH,hv,hfil,hro,ht]
       have hlm:(lastM P q i o last pend).1=i+1:=by unfold lastM;rw [hk];simp only [hqi,Bool.false_eq_true,if_false]
       rw [hlm]
       refine⟨_,rfl,rfl,rfl,by simp [R.ents],by simp only [List.length_append,List.length_singleton];omega,hee,(fun p hp'=>by cases hp'),fun _=>rfl,fun m' _=>rfl,rfl,hhh,fun k j x hk' hx hj=>?_,fun t e he hj hr=>?_⟩
       ·obtain⟨y,hy,_⟩:=hee j (List.mem_of_getElem? hk')
        have:=(List.getElem?_eq_some_iff.1 hy).1
        simp only [List.length_append,List.length_singleton] at this hj;omega
       ·have:=(List.getElem?_eq_some_iff.1 he).1
        simp only [List.length_append,List.length_singleton,hlen] at this hj;omega
   obtain⟨rs1,e1,e2,e3,e4⟩:=key
   obtain⟨rs',g1,g2,g3⟩:=regLoop_N (nest:=nest) l (i+1) rs1 tm' h' h1' (prev ++ [o]) _ _ _ _ e4 (by simp [hp]) hl' (by rw [e3];exact h4) (by rw [e2];exact hqq)
   refine⟨rs',?_,g2,g3⟩
   rw [regLoop]
   simp only [e1,bind,Except.bind]
   exact g1
  ·cases hs
theorem regionA_N{nest:Nest}{q:List Nat}{n:Nat}{ops:List Oper}{tm tm':T Value}{h h':AH}(hs:statOkM P q ops ops 0 [] [] 0 false=true)(hq:RegN P nest q n h.next ops (List.range ops.length) [] [] tm { h with next:=h.next+ops.length } tm' h') :
  regionA P n nest ops tm h = .ok (tm',h'):=by
 rw [List.range_eq_range'] at hq
 obtain⟨rs',g1,g2,g3⟩:=regLoop_N (nest:=nest) (base:=h.next) (n:=n) ops 0 { tm,h:={ h with next:=h.next+ops.length },hh:=[{ h with next:=h.next+ops.length }],ee:=[],al:=[],masks:=[],ents:=[] } tm' h' { h with next:=h.next+ops.length } [] 0 false [] [] ⟨rfl,Nat.le_refl _,(fun j hj=>by cases hj),(fun p hp=>by cases hp),fun _=>rfl,fun _ _=>rfl,rfl,⟨rfl,rfl⟩,(fun k j x hk=>by simp at hk),(fun t e he=>by simp at he)⟩ rfl rfl hs hq
 unfold regionA
 simp only [g1,bind,Except.bind]
 rw [g3,g2]
structure KC where
 f:FuncId
 args:List Value
 h:AH
 v:Value
 h':AH
def consM(g:FuncId)(args:List Value)(h:AH)(v:Value)(h':AH):List KC→Prop
 | []=>True
 | e :: l=>(e.f=g→args=e.args→h=e.h→v=e.v∧h'=e.h')∧consM g args h v h' l
def runGM(P:Program)(q:List Nat)(base:Nat):Nat→AS→M AS
 | 0,s=>.ok s
 | m+1,s=>match s.fr.todo with
  | .inRegion ops (i :: rest) :: k=>match ops.toList[i]? with
   | none=>no "runGM"
   | some o=>do
    let want ← wantedA ops.toList s.fr.tm o
    let (v,h) ← (if want then seqOp P noNest base i (evA s.fr.tm) o s.hp else .ok (undef,s.hp):M (Value × AH))
    if want && (q.contains i || (isRead (kindOf P o.op) && !vfit 20 v)) then no "runGM: fit" else
    let tm ← putT s.fr.n s.fr.tm o.dst v
    runGM P q base m ⟨{ s.fr with tm,todo:=.inRegion ops rest :: k },s.cs,h⟩
  | _=>no "runGM"
def walkM(P:Program)(kS:Sc→AS→W)(q:List Nat)(base:Nat):Nat→List KC→Sc→AS→W
 | 0,_,_,_=>.fail "fuel"
 | u+1,c,.steps n k,s=>match runGM P q base n s with
  | .ok s'=>walkM P kS q base u c k s'
  | .error e=>.fail e
 | u+1,c,.bit d a b,s=>match s.fr.tm.get d with
  | some (.bool x)=>.ite x (walkM P kS q base u c a ⟨{ s.fr with tm:=s.fr.tm.set d (.bool true) },s.cs,s.hp⟩) (walkM P kS q base u c b ⟨{ s.fr with tm:=s.fr.tm.set d (.bool false) },s.cs,s.hp⟩)
  | _=>.fail "bit"
 | u+1,c,.op k,s=>match s.fr.todo with
  | .inRegion ops (i :: rest) :: ki=>match ops.toList[i]? with
   | some o=>match wantedA ops.toList s.fr.tm o,opW P (evA s.fr.tm) o s.hp,kindOf P o.op with
    | .ok true,.ok (_,_),.alloc=>.fail "op: alloc"
    | .ok true,.ok (p,kt),kd=>if q.contains i then .fail "op: quiet" else .need p (walkK (fun v h k=>if isRead kd && !vfit 20 v then .fail "op: fit" else match putT s.fr.n s.fr.tm o.dst v with
      | .ok tm=>walkM P kS q base u c k ⟨{ s.fr with tm,todo:=.inRegion ops rest :: ki },s.cs,h⟩
      | .error e=>.fail e) kt k)
    | .ok _,.error e,_=>.fail e
    | _,_,_=>.fail "op: wanted"
   | none=>.fail "op"
  | _=>.fail "op: no region"
 | u+1,c,.call kt k,s=>match s.fr.todo with
  | .inRegion ops (i :: rest) :: ki=>match ops.toList[i]? with
   | some o=>match wantedA ops.toList s.fr.tm o,effA P (evA s.fr.tm) o s.hp,kindOf P o.op with
    | .ok true,.ok (.enter g args,h1),.effect=>if !kt.clean then .fail "call: conditions" else .call g args h1 kt (walkK (fun v h k=>.need (consM g args h1 v h c∧(if q.contains i=true then h=s.hp else True)) (match putT s.fr.n s.fr.tm o.dst v with
      | .ok tm=>walkM P kS q base u (⟨g,args,h1,v,h⟩ :: c) k ⟨{ s.fr with tm,todo:=.inRegion ops rest :: ki },s.cs,h⟩
      | .error e=>.fail e)) kt k)
    | _,_,_=>.fail "call: no call"
   | none=>.fail "call"
  | _=>.fail "call: no region"
 | _+1,_,.regM _ k,s=>match s.fr.todo with
  | .inRegion _ [] :: ki=>kS k ⟨{ s.fr with todo:=ki },s.cs,s.hp⟩
  | _=>.fail "regM: not the end"
 | _+1,_,_,_=>.fail "in a drawn region"
def sameX(P:Program)(ev:Operand→Value)(o:Oper)(v:Value):List AH→Prop
 | []=>True
 | x :: l=>readIs (readA P ev o x) v∧sameX P ev o v l
def stillR(P:Program)(h:AH):List ((Operand→Value) × Oper × Value)→Prop
 | []=>True
 | r :: l=>readIs (readA P r.1 r.2.1 h) r.2.2∧stillR P h l
theorem sameX_all{ev:Operand→Value}{o:Oper}{v:Value}:∀ {l:List AH},sameX P ev o v l→∀ x,x ∈ l→readA P ev o x = .ok v
 | [],_,x,h=>by cases h
 | y :: l,hs,x,h=>by
  rcases List.mem_cons.1 h with rfl | h
  ·exact readIs_ok hs.1
  ·exact sameX_all hs.2 x h
theorem stillR_all{h:AH}:∀ {l:List ((Operand→Value) × Oper × Value)},stillR P h l→∀ r,r ∈ l→readA P r.1 r.2.1 h = .ok r.2.2
 | [],_,x,h=>by cases h
 | y :: l,hs,x,h=>by
  rcases List.mem_cons.1 h with rfl | h
  ·exact readIs_ok hs.1
  ·exact stillR_all hs.2 x h
def runGN(P:Program)(q:List Nat)(base:Nat):Nat→List ((Operand→Value) × Oper × Value)→List AH→AS→M (Prop × List ((Operand→Value) × Oper × Value) × List AH × AS)
 | 0,rds,xs,s=>.ok (True,rds,xs,s)
 | m+1,rds,xs,s=>match s.fr.todo with
  | .inRegion ops (i :: rest) :: k=>match ops.toList[i]? with
   | none=>no "runGN"
   | some o=>do
    let want ← wantedA ops.toList s.fr.tm o
    let (v,h) ← (if want then seqOp P noNest base i (evA s.fr.tm) o s.hp else .ok (undef,s.hp):M (Value × AH))
    if want && (q.contains i || (isRead (kindOf P o.op) && !vfit 20 v)) then no "runGN: fit" else
    let tm ← putT s.fr.n s.fr.tm o.dst v
    let (p,r) ← runGN P q base m (nextR P q i o (evA s.fr.tm) v rds want) (nextH P q i o s.hp xs want) ⟨{ s.fr with tm,todo:=.inRegion ops rest :: k },s.cs,h⟩
    .ok ((if(want && isRead (kindOf P o.op))=true then sameX P (evA s.fr.tm) o v xs else True)∧p,r)
  | _=>no "runGN"
def walkN(P:Program)(kS:Sc→AS→W)(q:List Nat)(base:Nat):Nat→List KC→List ((Operand→Value) × Oper × Value)→List AH→Sc→AS→W
 | 0,_,_,_,_,_=>.fail "fuel"
 | u+1,c,rds,xs,.steps n k,s=>match runGN P q base n rds xs s with
  | .ok (p,rds',xs',s')=>.need p (walkN P kS q base u c rds' xs' k s')
  | .error e=>.fail e
 | u+1,c,rds,xs,.bit d a b,s=>match s.fr.tm.get d with
  | some (.bool x)=>.ite x (walkN P kS q base u c rds xs a ⟨{ s.fr with tm:=s.fr.tm.set d (.bool true) },s.cs,s.hp⟩) (walkN P kS q base u c rds xs b ⟨{ s.fr with tm:=s.fr.tm.set d (.bool false) },s.cs,s.hp⟩)
  | _=>.fail "bit"
 | u+1,c,rds,xs,.op k,s=>match s.fr.todo with
  | .inRegion ops (i :: rest) :: ki=>match ops.toList[i]? with
   | some o=>match wantedA ops.toList s.fr.tm o,opW P (evA s.fr.tm) o s.hp,kindOf P o.op with
    | .ok true,.ok (_,_),.alloc=>.fail "op: alloc"
    | .ok true,.ok (p,kt),kd=>if q.contains i then .fail "op: quiet" else .need p (walkK (fun v h k=>if isRead kd && !vfit 20 v then .fail "op: fit" else .need (if isRead kd=true then sameX P (evA s.fr.tm) o v xs else True) (match putT s.fr.n s.fr.tm o.dst v with
      | .ok tm=>walkN P kS q base u c (nextR P q i o (evA s.fr.tm) v rds true) (nextH P q i o s.hp xs true) k ⟨{ s.fr with tm,todo:=.inRegion ops rest :: ki },s.cs,h⟩
      | .error e=>.fail e)) kt k)
    | .ok _,.error e,_=>.fail e
    | _,_,_=>.fail "op: wanted"
   | none=>.fail "op"
  | _=>.fail "op: no region"
 | u+1,c,rds,xs,.call kt k,s=>match s.fr.todo with
  | .inRegion ops (i :: rest) :: ki=>match ops.toList[i]? with
   | some o=>match wantedA ops.toList s.fr.tm o,effA P (evA s.fr.tm) o s.hp,kindOf P o.op with
    | .ok true,.ok (.enter g args,h1),.effect=>if !kt.clean then .fail "call: conditions" else .call g args h1 kt (walkK (fun v h k=>.need (consM g args h1 v h c∧(if q.contains i=true then stillR P h rds else True)) (match putT s.fr.n s.fr.tm o.dst v with
      | .ok tm=>walkN P kS q base u (⟨g,args,h1,v,h⟩ :: c) (nextR P q i o (evA s.fr.tm) v rds true) (nextH P q i o s.hp xs true) k ⟨{ s.fr with tm,todo:=.inRegion ops rest :: ki },s.cs,h⟩
      | .error e=>.fail e)) kt k)
    | _,_,_=>.fail "call: no call"
   | none=>.fail "call"
  | _=>.fail "call: no region"
 | _+1,_,_,_,.regN _ k,s=>match s.fr.todo with
  | .inRegion _ [] :: ki=>kS k ⟨{ s.fr with todo:=ki },s.cs,s.hp⟩
  | _=>.fail "regN: not the end"
 | _+1,_,_,_,_,_=>.fail "in a drawn region"
def runG(P:Program)(base:Nat):Nat→AS→M AS
 | 0,s=>.ok s
 | m+1,s=>match s.fr.todo with
  | .inRegion ops (i :: rest) :: k=>match ops.toList[i]? with
   | none=>no "runG"
   | some o=>do
    let want ← wantedA ops.toList s.fr.tm o
    let (v,h) ← (if want then seqOp P noNest base i (evA s.fr.tm) o s.hp else .ok (undef,s.hp):M (Value × AH))
    let tm ← putT s.fr.n s.fr.tm o.dst v
    runG P base m ⟨{ s.fr with tm,todo:=.inRegion ops rest :: k },s.cs,h⟩
  | _=>no "runG"
def walkR(P:Program)(kS:Sc→AS→W)(base:Nat):Nat→Bool→Sc→AS→W
 | 0,_,_,_=>.fail "fuel"
 | u+1,c,.steps n k,s=>match runG P base n s with
  | .ok s'=>walkR P kS base u c k s'
  | .error e=>.fail e
 | u+1,c,.bit d a b,s=>match s.fr.tm.get d with
  | some (.bool x)=>.ite x (walkR P kS base u c a ⟨{ s.fr with tm:=s.fr.tm.set d (.bool true) },s.cs,s.hp⟩) (walkR P kS base u c b ⟨{ s.fr with tm:=s.fr.tm.set d (.bool false) },s.cs,s.hp⟩)
  | _=>.fail "bit"
 | u+1,c,.op k,s=>match s.fr.todo with
  | .inRegion ops (i :: rest) :: ki=>match ops.toList[i]? with
   | some o=>match wantedA ops.toList s.fr.tm o,opW P (evA s.fr.tm) o s.hp,kindOf P o.op with
    | .ok true,.ok (_,_),.alloc=>.fail "op: alloc"
    | .ok true,.ok (p,kt),_=>.need p (walkK (fun v h k=>match putT s.fr.n s.fr.tm o.dst v with
      | .ok tm=>walkR P kS base u c k ⟨{ s.fr with tm,todo:=.inRegion ops rest :: ki },s.cs,h⟩
      | .error e=>.fail e) kt k)
    | .ok _,.error e,_=>.fail e
    | _,_,_=>.fail "op: wanted"
   | none=>.fail "op"
  | _=>.fail "op: no region"
 | u+1,c,.opT k,s=>match s.fr.todo with
  | .inRegion ops (i :: rest) :: ki=>match ops.toList[i]? with
   | some o=>match wantedA ops.toList s.fr.tm o,opT P (evA s.fr.tm) o s.hp,kindOf P o.op with
    | .ok true,.ok (_,_),.alloc=>.fail "opT: alloc"
    | .ok true,.ok (p,kt),_=>.need p (walkK (fun v h k=>match putT s.fr.n s.fr.tm o.dst v with
      | .ok tm=>walkR P kS base u c k ⟨{ s.fr with tm,todo:=.inRegion ops rest :: ki },s.cs,h⟩
      | .error e=>.fail e) kt k)
    | .ok _,.error e,_=>.fail e
    | _,_,_=>.fail "opT: wanted"
   | none=>.fail "opT"
  | _=>.fail "opT: no region"
 | u+1,true,.call kt k,s=>match s.fr.todo with
  | .inRegion ops (i :: rest) :: ki=>match ops.toList[i]? with
   | some o=>match wantedA ops.toList s.fr.tm o,effA P (evA s.fr.tm) o s.hp,kindOf P o.op with
    | .ok true,.ok (.enter g args,h1),.effect=>if !kt.clean then .fail "call: conditions" else .call g args h1 kt (walkK (fun v h k=>match putT s.fr.n s.fr.tm o.dst v with
      | .ok tm=>walkR P kS base u false k ⟨{ s.fr with tm,todo:=.inRegion ops rest :: ki },s.cs,h⟩
      | .error e=>.fail e) kt k)
    | _,_,_=>.fail "call: no call"
   | none=>.fail "call"
  | _=>.fail "call: no region"
 | _+1,_,.reg k,s=>match s.fr.todo with
  | .inRegion _ [] :: ki=>kS k ⟨{ s.fr with todo:=ki },s.cs,s.hp⟩
  | _=>.fail "reg: not the end"
 | _+1,_,_,_=>.fail "in a drawn region"
def onlyIf(b:Bool)(p:Prop):Prop:=match b with
 | true=>p
 | false=>True
def sameQ(P:Program)(ev:Operand→Value)(o:Oper)(mask:Nat)(al:List (Nat × Nat × AObj))(v:Value):List (Nat × AH)→Prop
 | []=>True
 | p :: l=>onlyIf (!(mask.testBit p.1 || freeOp P o.op)) (readIs (readA P ev o (withAl mask p.2 al)) v)∧sameQ P ev o mask al v l
def stillQ(P:Program)(mask:Nat)(al:List (Nat × Nat × AObj))(h:AH):List Ent→Nat→Prop
 | [],_=>True
 | x :: l,j=>onlyIf (!(!isReadE x || mask.testBit j || freeOp P x.o.op)) (vfit 20 x.v=true∧readIs (readA P (evA x.tm) x.o (withAl x.mask h al)) x.v)∧stillQ P mask al h l (j+1)
def runX1(P:Program)(n base:Nat)(ops:List Oper)(i:Nat)(o:Oper)(s:RS):M (Prop × RS):=do
 let mask ← maskOf s.masks i o.after.toList
 if !orderOk ops o mask s.ents 0 then no "order of temporaries" else
 let want ← wantedA ops s.tm o
 if !want then
  let tm ← putT n s.tm o.dst undef
  .ok (True,{ s with tm,masks:=s.masks ++ [mask],ents:=s.ents ++ [{ o,mask,tm:=s.tm,want:=false,v:=undef,kind:=.read,obj:=none }] })
 else
 if !okOps P o then no "a constant" else
 match kindOf P o.op with
 | .read=>do
  let v ← readA P (evA s.tm) o (withAl mask s.h s.al)
  if !vfit 20 v then no "fit" else
  let tm ← putT n s.tm o.dst v
  .ok (sameQ P (evA s.tm) o mask s.al v (s.ee.zip s.hh),{ s with tm,masks:=s.masks ++ [mask],ents:=s.ents ++ [{ o,mask,tm:=s.tm,want:=true,v,kind:=.read,obj:=none }] })
 | .alloc=>do
  let (v,b) ← allocA P (evA s.tm) o (base+i)
  let tm ← putT n s.tm o.dst v
  .ok (True,{ s with tm,al:=(i,base+i,b) :: s.al,masks:=s.masks ++ [mask],ents:=s.ents ++ [{ o,mask,tm:=s.tm,want:=true,v,kind:=.alloc,obj:=some b }] })
 | .effect=>do
  if !(s.ee.all fun j=>mask.testBit j) then no "effects in no order" else
  let (v,h) ← effRun P noNest (evA s.tm) o (withAl mask s.h s.al)
  let tm ← putT n s.tm o.dst v
  .ok (stillQ P mask (s.al.filter fun p=>!mask.testBit p.1) h s.ents 0,{ tm,h,hh:=s.hh ++ [h],ee:=s.ee ++ [i],al:=s.al.filter fun p=>!mask.testBit p.1,masks:=s.masks ++ [mask],ents:=s.ents ++ [{ o,mask,tm:=s.tm,want:=true,v,kind:=.effect,obj:=none }] })
def runX(P:Program)(n base:Nat)(ops:List Oper):Nat→List Nat→RS→M (Prop × List Nat × RS)
 | 0,is,s=>.ok (True,is,s)
 | _+1,[],_=>no "runX"
 | m+1,i :: is,s=>match ops[i]? with
  | none=>no "runX"
  | some o=>do
   let (p,s1) ← runX1 P n base ops i o s
   let (q,r) ← runX P n base ops m is s1
   .ok (p∧q,r)
def opX(P:Program)(n:Nat)(ops:List Oper)(i:Nat)(o:Oper)(mask:Nat)(s:RS)(f:RS→Sc→W)(v:Value)(h:AH)(k:Sc):W:=
 match kindOf P o.op with
 | .read=>if !vfit 20 v then .fail "op: fit" else .need (sameQ P (evA s.tm) o mask s.al v (s.ee.zip s.hh)) (match putT n s.tm o.dst v with
  | .ok tm=>f { s with tm,masks:=s.masks ++ [mask],ents:=s.ents ++ [{ o,mask,tm:=s.tm,want:=true,v,kind:=.read,obj:=none }] } k
  | .error e=>.fail e)
 | .alloc=>.fail "op: alloc"
 | .effect=>if !(s.ee.all fun j=>mask.testBit j) then .fail "op: effects in no order" else .need (stillQ P mask (s.al.filter fun p=>!mask.testBit p.1) h s.ents 0) (match putT n s.tm o.dst v with
  | .ok tm=>f { tm,h,hh:=s.hh ++ [h],ee:=s.ee ++ [i],al:=s.al.filter fun p=>!mask.testBit p.1,masks:=s.masks ++ [mask],ents:=s.ents ++ [{ o,mask,tm:=s.tm,want:=true,v,kind:=.effect,obj:=none }] } k
  | .error e=>.fail e)
def walkX(P:Program)(kS:Sc→AS→W)(fr:AF)(cs:List AF)(ki:List Item)(base:Nat)(ops:List Oper):Nat→List KC→List Nat→RS→Sc→W
 | 0,_,_,_,_=>.fail "fuel"
 | u+1,c,is,s,.steps n k=>match runX P fr.n base ops n is s with
  | .ok (p,is',s')=>.need p (walkX P kS fr cs ki base ops u c is' s' k)
  | .error e=>.fail e
 | u+1,c,is,s,.bit d a b=>match s.tm.get d with
  | some (.bool x)=>.ite x (walkX P kS fr cs ki base ops u c is { s with tm:=s.tm.set d (.bool true) } a) (walkX P kS fr cs ki base ops u c is { s with tm:=s.tm.set d (.bool false) } b)
  | _=>.fail "bit"
 | u+1,c,i :: is,s,.call kt k=>match ops[i]? with
  | some o=>match maskOf s.masks i o.after.toList with
   | .ok mask=>match orderOk ops o mask s.ents 0 && (okOps P o && s.ee.all fun j=>mask.testBit j) with
    | false=>.fail "call: order"
    | true=>match wantedA ops s.tm o,effA P (evA s.tm) o (withAl mask s.h s.al),kindOf P o.op with
     | .ok true,.ok (.enter g args,h1),.effect=>if !kt.clean then .fail "call: conditions" else .call g args h1 kt (walkK (fun v h k=>.need (consM g args h1 v h c∧stillQ P mask (s.al.filter fun p=>!mask.testBit p.1) h s.ents 0) (match putT fr.n s.tm o.dst v with
       | .ok tm=>walkX P kS fr cs ki base ops u (⟨g,args,h1,v,h⟩ :: c) is { tm,h,hh:=s.hh ++ [h],ee:=s.ee ++ [i],al:=s.al.filter fun p=>!mask.testBit p.1,masks:=s.masks ++ [mask],ents:=s.ents ++ [{ o,mask,tm:=s.tm,want:=true,v,kind:=.effect,obj:=none }] } k
       | .error e=>.fail e)) kt k)
     | _,_,_=>.fail "call: no call"
   | .error e=>.fail e
  | none=>.fail "call"
 | u+1,c,i :: is,s,.op k=>match ops[i]? with
  | some o=>match maskOf s.masks i o.after.toList with
   | .ok mask=>match orderOk ops o mask s.ents 0 with
    | false=>.fail "op: order"
    | true=>match wantedA ops s.tm o,opW P (evA s.tm) o (withAl mask s.h s.al) with
     | .ok true,.ok (p,kt)=>.need p (walkK (opX P fr.n ops i o mask s fun s1 k=>walkX P kS fr cs ki base ops u c is s1 k) kt k)
     | .ok _,.error e=>.fail e
     | _,_=>.fail "op: wanted"
   | .error e=>.fail e
  | none=>.fail "op"
 | u+1,c,i :: is,s,.opT k=>match ops[i]? with
  | some o=>match maskOf s.masks i o.after.toList with
   | .ok mask=>match orderOk ops o mask s.ents 0 with
    | false=>.fail "op: order"
    | true=>match wantedA ops s.tm o,opT P (evA s.tm) o (withAl mask s.h s.al) with
     | .ok true,.ok (p,kt)=>.need p (walkK (opX P fr.n ops i o mask s fun s1 k=>walkX P kS fr cs ki base ops u c is s1 k) kt k)
     | .ok _,.error e=>.fail e
     | _,_=>.fail "op: wanted"
   | .error e=>.fail e
  | none=>.fail "op"
 | _+1,_,[],s,.regX k=>kS k ⟨{ fr with tm:=s.tm,todo:=ki },cs,finalH s.h s.al⟩
 | _+1,_,_,_,_=>.fail "in a drawn region"
def rs0(tm:T Value)(h:AH):RS:={ tm,h,hh:=[h],ee:=[],al:=[],masks:=[],ents:=[] }
def walkS(P:Program)(nest:Nest)(nb:Nat):Nat→Sc→AS→W
 | 0,_,_=>.fail "fuel"
 | u+1,.steps n k,s=>match runN' P nest n s with
  | .ok s'=>walkS P nest nb u k s'
  | .error e=>.fail e
 | u+1,.bit d a b,s=>match s.fr.tm.get d with
  | some (.bool x)=>.ite x (walkS P nest nb u a ⟨{ s.fr with tm:=s.fr.tm.set d (.bool true) },s.cs,s.hp⟩) (walkS P nest nb u b ⟨{ s.fr with tm:=s.fr.tm.set d (.bool false) },s.cs,s.hp⟩)
  | _=>.fail "bit"
 | u+1,.op k,s=>match s.fr.mode,s.fr.todo with
  | .run,.inRegion ops (i :: rest) :: _=>match ops.toList[i]? with
   | some o=>match wantedA ops.toList s.fr.tm o,opW P (evA s.fr.tm) o s.hp with
    | .ok true,.ok (p,kt)=>.need p (walkK (fun v h k=>match s.fr.finish v with
      | .ok f2=>walkS P nest nb u k ⟨f2,s.cs,h⟩
      | .error e=>.fail e) kt k)
    | .ok _,.error e=>.fail e
    | _,_=>.fail "op: wanted"
   | none=>.fail "op"
  | _,_=>.fail "op: no region"
 | u+1,.opT k,s=>match s.fr.mode,s.fr.todo with
  | .run,.inRegion ops (i :: rest) :: _=>match ops.toList[i]? with
   | some o=>match wantedA ops.toList s.fr.tm o,opT P (evA s.fr.tm) o s.hp with
    | .ok true,.ok (p,kt)=>.need p (walkK (fun v h k=>match s.fr.finish v with
      | .ok f2=>walkS P nest nb u k ⟨f2,s.cs,h⟩
      | .error e=>.fail e) kt k)
    | .ok _,.error e=>.fail e
    | _,_=>.fail "op: wanted"
   | none=>.fail "op"
  | _,_=>.fail "op: no region"
 | u+1,.call kt k,s=>match s.fr.mode,s.fr.todo with
  | .run,.inRegion ops (i :: rest) :: _=>match ops.toList[i]? with
   | some o=>match wantedA ops.toList s.fr.tm o,execA P (evA s.fr.tm) o s.hp with
    | .ok true,.ok (.enter g args,h1)=>.call g args h1 kt (walkK (fun v h k=>match s.fr.finish v with
      | .ok f2=>walkS P nest nb u k ⟨f2,s.cs,h⟩
      | .error e=>.fail e) kt k)
    | _,_=>.fail "call: no call"
   | none=>.fail "call"
  | _,_=>.fail "call: no region"
 | _+1,.both _ _,_=>.fail "both"
 | u+1,.reg k,s=>match s.fr.mode,s.fr.todo with
  | .run,.code (.region _ ops true) :: ki=>
   if statOk P ops.toList ops.toList 0 [] [] then walkR P (walkS P nest nb u) s.hp.next u true k ⟨{ s.fr with todo:=.inRegion ops (List.range ops.toList.length) :: ki },s.cs,{ s.hp with next:=s.hp.next+ops.toList.length }⟩
   else .fail "a region in no order"
  | _,_=>.fail "reg"
 | u+1,.regM q k,s=>match s.fr.mode,s.fr.todo with
  | .run,.code (.region _ ops true) :: ki=>
   if statOkM P q ops.toList ops.toList 0 [] [] 0 false then walkM P (walkS P nest nb u) q s.hp.next u [] k ⟨{ s.fr with todo:=.inRegion ops (List.range ops.toList.length) :: ki },s.cs,{ s.hp with next:=s.hp.next+ops.toList.length }⟩
   else .fail "a region in no order"
  | _,_=>.fail "regM"
 | u+1,.regN q k,s=>match s.fr.mode,s.fr.todo with
  | .run,.code (.region _ ops true) :: ki=>
   if statOkM P q ops.toList ops.toList 0 [] [] 0 false then walkN P (walkS P nest nb u) q s.hp.next u [] [] [] k ⟨{ s.fr with todo:=.inRegion ops (List.range ops.toList.length) :: ki },s.cs,{ s.hp with next:=s.hp.next+ops.toList.length }⟩
   else .fail "a region in no order"
  | _,_=>.fail "regN"
 | u+1,.regS k,s=>match s.fr.mode,s.fr.todo with
  | .run,.code (.region _ ops true) :: ki=>
   if statR P ops.toList ops.toList 0 [] [] then match regS P s.fr.n ops.toList (List.range ops.toList.length) [] s.fr.tm { s.hp with next:=s.hp.next+ops.toList.length } with
    | .ok (p,tm,h)=>.need p (walkS P nest nb u k ⟨{ s.fr with tm,todo:=ki },s.cs,h⟩)
    | .error e=>.fail e
   else .fail "a region in no order"
  | _,_=>.fail "regS"
 | u+1,.regX k,s=>match s.fr.mode,s.fr.todo with
  | .run,.code (.region _ ops true) :: ki=>walkX P (walkS P nest nb u) s.fr s.cs ki s.hp.next ops.toList u [] (List.range ops.toList.length) (rs0 s.fr.tm { s.hp with next:=s.hp.next+ops.toList.length }) k
  | _,_=>.fail "regX"
 | _+1,.stop keep none,s=>.stop keep (canonS keep s)
 | _+1,.stop keep (some rn),s=>match renS P.globals.size nb rn keep s with
  | some (s',p)=>.need p (.stop keep s')
  | none=>.fail "ren"
 | _+1,.done rn,s=>match stepA P nest s with
  | .ok (.done f v h)=>match rn with
   | none=>.done f v h
   | some rn=>if rn.good P.globals.size nb then match renV (rn.tf nb) 50 v,renH (rn.tf nb) h rn.bl with
    | some v',some (t,p)=>.need p (.done f v' ⟨t,rn.N⟩)
    | _,_=>.fail "done: ren"
    else .fail "done: names"
  | .ok _=>.fail "not done"
  | .error e=>.fail e
def QF(P:Program)(nb:Nat)(D:Value→AH→Prop)(v:Value)(h:AH):Prop:=
 D v h∨∃ v' h' σ,Emb P σ h' h∧nb≤h'.next∧(∀ r,r<nb→σ r=r)∧RV σ h'.next true v' v∧D v' h'
theorem CallSpec.ofQF(hη:OneCells η){f:FuncId}{args:List Value}{h:AH}{D:Value→AH→Prop}(c:CallSpec η P B f args h (QF P h.next D)):CallSpec η P B f args h D:=by
 intro ρ xs w cs l p
 obtain⟨v,h1,ρ1,fr',w',x,q1,q,hv,r⟩:=c ρ xs w cs l p
 rcases q1 with q1 | ⟨v',h',σ,E,hn,hσ,hrv,hq⟩
 ·exact⟨v,h1,ρ1,fr',w',x,q1,q,hv,r⟩
 ·have hP':=E.pre hη (p.post q)
  have hold:∀ r,r<h.next→cut σ h'.next ρ1 r=ρ r:=by
   intro r hr
   unfold cut
   rw [if_pos (by omega),hσ r hr]
   exact q.old r hr
  refine⟨v',h',cut σ h'.next ρ1,fr',w',x,hq,⟨?_,hold,hP'.fresh,hn,hP'.hr,q.fr,?_,?_⟩,hrv.dn hη cut_dn hv,r⟩
  ·intro r t hr
   rcases Nat.lt_or_ge r h.next with hl | hl
   ·rw [hold r hl];exact hr
   ·rw [p.fresh r hl] at hr;cases hr
  ·intro b hb
   exact q.own b (E.own' hb)
  ·rintro b hb
   obtain⟨r1,a1,a1',d1,n1,k1,_,k2,k3⟩:=E.nam hb
   exact q.inn b ⟨_,_,_,_,k2,k3⟩
theorem bind_get{α:Type}{t:T α}{d:Nat}{v:α}(h:t.get d=some v):∀ i,(t.set d v).get i=t.get i:=by
 intro i
 rw [T.get_set]
 by_cases hi:i=d
 ·subst hi;rw [if_pos rfl,h]
 ·rw [if_neg hi]
theorem Run.anyTm{fn:FuncId}{h0 h:AH}{f:AF}{cs:List AF}{Q:Value→AH→Prop}{tm:T Value}(hg:∀ t,tm.get t=f.tm.get t)(r:Run η P B fn h0 ⟨{ f with tm:=tm },cs,h⟩ Q):Run η P B fn h0 ⟨f,cs,h⟩ Q:=by
 intro ρ0 w0 ρ fr cs' w cs0 p0 p R
 have F:=R.fr
 refine r ρ0 w0 ρ fr cs' w cs0 p0 p ⟨⟨F.fn,⟨F.tm.1,fun t ht=>(hg t).trans (F.tm.2.1 t ht),fun t ht=>?_⟩,F.todo,F.defers,F.mode,F.kind,F.round⟩,R.cs,R.pre⟩
 show VR η ρ ((tm.get t).getD undef) _
 rw [hg t]
 exact F.tm.2.2 t ht
theorem walkK_sat{fn:FuncId}{K:List Nat→AS→Prop}{D:Value→AH→Prop}{f:Value→AH→Sc→W}:∀ {kt:KT} {k:Sc} {v:Value} {h:AH},(walkK f kt k).holds η P B fn K D→kt.sat v h→∃ k',(f v h k').holds η P B fn K D
 | .ret v0 h0,k,v,h,hw,hs=>by obtain⟨rfl,rfl⟩:=hs;unfold walkK at hw;exact⟨k,hw⟩
 | .ite b x y,k,v,h,hw,hs=>by
  cases k with
  | both a c=>
   unfold walkK at hw
   rcases hs with⟨h1,h2⟩ | ⟨h1,h2⟩
   ·exact walkK_sat (hw.1 h1) h2
   ·exact walkK_sat (hw.2 h1) h2
  | _=>exact absurd hw (by unfold walkK;exact fun h=>h)
 | .know p x,k,v,h,hw,hs=>by unfold walkK at hw;exact walkK_sat (hw hs.1) hs.2
theorem Run.doneQ(hη:OneCells η){nest:Nest}(hreg:RegOk η P B nest){fn:FuncId}{h0 h':AH}{s:AS}{v:Value}{f:FuncId}{Q:Value→AH→Prop}(hs:stepA P nest s = .ok (.done f v h'))(hf:f=fn)(q:Q v h'):Run η P B fn h0 s Q:=by
 subst hf;exact Run.done hη hreg hs q
theorem Goes.read{ρ:Operand→Value}{o:Oper}{h h':AH}{v:Value}(hg:Goes P ρ o h v h')(hk:kindOf P o.op = .read):readA P ρ o h = .ok v∧h'=h:=by
 have key:∀ {r:AN × AH},execA P ρ o h = .ok r→∃ v1,readA P ρ o h = .ok v1∧r=(.value v1,h):=by
  intro r hr
  unfold execA at hr
  rw [ite_no] at hr
  rw [hk] at hr
  simp only [bind_ok] at hr
  obtain⟨_,v1,h1,h2⟩:=hr
  rw [okk] at h2
  exact⟨v1,h1,h2.symm⟩
 rcases hg with hx | ⟨hx,_⟩
 ·obtain⟨v1,h1,h2⟩:=key hx
  injection h2 with e1 e2
  injection e1 with e1
  subst e1;subst e2
  exact⟨h1,rfl⟩
 ·obtain⟨v1,h1,h2⟩:=key hx
  injection h2 with e1 e2
  cases e1
def RegX(η:Nat→Value)(P:Program)(B:Bd)(fn:FuncId)(h0:AH)(base:Nat)(nest:Nest)(s:AS)(Q:Value→AH→Prop):Prop:=
 ∃ ops is k,s.fr.todo = .inRegion ops is :: k∧∃ tm' h',regSeq P nest s.fr.n base ops.toList is s.fr.tm s.hp = .ok (tm',h')∧Run η P B fn h0 ⟨{ s.fr with tm:=tm',todo:=k },s.cs,h'⟩ Q
def RegGo(η:Nat→Value)(P:Program)(B:Bd)(fn:FuncId)(h0:AH)(base:Nat)(c:Bool)(s:AS)(Q:Value→AH→Prop):Prop:=
 match c with
 | true=>∃ nest,NestOk η P B nest∧RegX η P B fn h0 base nest s Q
 | false=>∀ nest,RegX η P B fn h0 base nest s Q
theorem RegGo.map{fn:FuncId}{h0:AH}{base:Nat}{c:Bool}{s s':AS}{Q:Value→AH→Prop}(k:∀ nest,RegX η P B fn h0 base nest s' Q→RegX η P B fn h0 base nest s Q)(g:RegGo η P B fn h0 base c s' Q):RegGo η P B fn h0 base c s Q:=by
 cases c with
 | true=>obtain⟨nest,hn,g⟩:=g;exact⟨nest,hn,k nest g⟩
 | false=>exact fun nest=>k nest (g nest)
theorem seqOp_nest{nest:Nest}{base i:Nat}{ρ:Operand→Value}{o:Oper}{h:AH}{r:Value × AH}(hs:seqOp P noNest base i ρ o h = .ok r):seqOp P nest base i ρ o h = .ok r:=by
 unfold seqOp at hs ⊢
 split at hs
 ·exact hs
 ·exact hs
 ·unfold effRun at hs ⊢
  simp only [bind_ok] at hs ⊢
  obtain⟨⟨a,h1⟩,he,hs⟩:=hs
  refine⟨(a,h1),he,?_⟩
  cases a <;> first | exact hs | (simp [noNest,no] at hs)
theorem runG_go{fn:FuncId}{h0:AH}{base:Nat}{nest:Nest}{Q:Value→AH→Prop}:∀ (n:Nat) {s s':AS},runG P base n s = .ok s'→RegX η P B fn h0 base nest s' Q→RegX η P B fn h0 base nest s Q
 | 0,s,s',h,g=>by rw [runG,okk] at h;subst h;exact g
 | n+1,s,s',h,g=>by
  unfold runG at h
  split at h
  ·rename_i ops i rest k ht
   split at h
   ·simp [no] at h
   ·rename_i o ho
    simp only [bind_ok] at h
    obtain⟨want,hw,⟨v,h1⟩,hv,tm,htm,h⟩:=h
    simp only at htm h
    obtain⟨ops',is',k',ht',tm',h',hq,hr⟩:=runG_go n h g
    simp only at ht'
    injection ht' with e1 e2
    injection e1 with e3 e4
    subst e2;subst e3;subst e4
    refine⟨ops,i :: rest,k,ht,tm',h',?_,hr⟩
    rw [regSeq,ho]
    simp only [bind_ok]
    refine⟨want,hw,(v,h1),?_,tm,htm,hq⟩
    cases want with
    | false=>exact hv
    | true=>exact seqOp_nest hv
  ·simp [no] at h
theorem regSeq_get{nest:Nest}{n base:Nat}{ops:List Oper}{t1 t2:T Value}(he:∀ i,t1.get i=t2.get i):∀ {is:List Nat} {h:AH} {u1:T Value} {h':AH},regSeq P nest n base ops is t1 h = .ok (u1,h')→∃ u2,regSeq P nest n base ops is t2 h = .ok (u2,h')∧∀ i,u1.get i=u2.get i:=by
 intro is
 induction is generalizing t1 t2 with
 | nil=>intro h u1 h' hh;rw [regSeq,okk] at hh;injection hh with e1 e2;subst e1;subst e2;exact⟨t2,rfl,he⟩
 | cons i is ih=>
  intro h u1 h' hh
  rw [regSeq] at hh
  split at hh
  ·simp [no] at hh
  ·rename_i o ho
   simp only [bind_ok] at hh
   obtain⟨want,hw,⟨v,h1⟩,hv,tm,htm,hh⟩:=hh
   simp only at htm hh
   have hev:evA t1=evA t2:=by
    funext x
    cases x <;> simp only [evA,he]
   have hwn:wantedA ops t2 o = .ok want:=by
    rw [← hw];unfold wantedA
    split
    ·rfl
    ·split
     ·rfl
     ·rw [he]
   unfold putT at htm
   split at htm
   ·rename_i d hd
    split at htm
    ·rename_i hlt
     rw [okk] at htm;subst htm
     obtain⟨u2,g1,g2⟩:=ih (t2:=t2.set d v) (fun j=>by rw [T.get_set,T.get_set,he]) hh
     refine⟨u2,?_,g2⟩
     rw [regSeq,ho]
     simp only [bind_ok]
     refine⟨want,hwn,(v,h1),?_,t2.set d v,?_,g1⟩
     ·rw [← hev];exact hv
     ·unfold putT;rw [hd];simp only;rw [if_pos hlt]
    ·simp [no] at htm
   ·rename_i hd
    rw [okk] at htm;subst htm
    obtain⟨u2,g1,g2⟩:=ih (t2:=t2) he hh
    refine⟨u2,?_,g2⟩
    rw [regSeq,ho]
    simp only [bind_ok]
    refine⟨want,hwn,(v,h1),?_,t2,?_,g1⟩
    ·rw [← hev];exact hv
    ·unfold putT;rw [hd]
theorem RegX.tm{fn:FuncId}{h0:AH}{base:Nat}{nest:Nest}{s:AS}{Q:Value→AH→Prop}{tm:T Value}(hg:∀ t,tm.get t=s.fr.tm.get t)(g:RegX η P B fn h0 base nest ⟨{ s.fr with tm:=tm },s.cs,s.hp⟩ Q):RegX η P B fn h0 base nest s Q:=by
 obtain⟨ops,is,k,ht,tm',h',hq,hr⟩:=g
 simp only at ht hq
 obtain⟨u2,g1,g2⟩:=regSeq_get (t2:=s.fr.tm) hg hq
 exact⟨ops,is,k,ht,u2,h',g1,Run.anyTm (f:={ s.fr with tm:=u2,todo:=k }) (tm:=tm') g2 hr⟩
noncomputable def KT.get:KT→Value × AH
 | .ret v h=>(v,h)
 | .ite b x y=>if b=true then x.get else y.get
 | .know _ x=>x.get
theorem KT.get_of:∀ {k:KT} {v:Value} {h:AH},k.sat v h→(v,h)=k.get
 | .ret v0 h0,v,h,hs=>by obtain⟨rfl,rfl⟩:=hs;rfl
 | .ite b x y,v,h,hs=>by
  unfold KT.get
  rcases hs with⟨h1,h2⟩ | ⟨h1,h2⟩
  ·rw [if_pos h1];exact KT.get_of h2
  ·rw [if_neg (by rw [h1];simp)];exact KT.get_of h2
 | .know p x,v,h,hs=>by unfold KT.get;exact KT.get_of hs.2
open Classical in
noncomputable def nest1(g:FuncId)(args:List Value)(h:AH)(r:Value × AH):Nest:=fun f a x=>if f=g∧a=args∧x=h then .ok r else no "another call"
theorem nest1_ok{g:FuncId}{args:List Value}{h:AH}{kt:KT}(c:CallSpec η P B g args h kt.sat):NestOk η P B (nest1 g args h kt.get):=by
 refine NestOk.of fun f a x v h' hn=>?_
 unfold nest1 at hn
 by_cases hc:f=g∧a=args∧x=h
 ·rw [if_pos hc,okk] at hn
  obtain⟨rfl,rfl,rfl⟩:=hc
  refine c.mono fun v1 h1 hs=>?_
  have:=(KT.get_of hs).trans hn
  injection this with e1 e2
  exact⟨e1,e2⟩
 ·rw [if_neg hc] at hn;simp [no] at hn
theorem kt_sat{fn:FuncId}{K:List Nat→AS→Prop}{D:Value→AH→Prop}{f:Value→AH→Sc→W}:∀ {kt:KT} {k:Sc},(walkK f kt k).holds η P B fn K D→(∃ v h,kt.sat v h)→∃ k',(f kt.get.1 kt.get.2 k').holds η P B fn K D:=by
 rintro kt k hw ⟨v,h,hs⟩
 obtain⟨k',hh⟩:=walkK_sat hw hs
 have:=KT.get_of hs
 exact⟨k',by rw [← this];exact hh⟩
open Classical in
noncomputable def nestL:List KC→Nest
 | []=>noNest
 | e :: l=>fun f a x=>if f=e.f∧a=e.args∧x=e.h then .ok (e.v,e.h') else nestL l f a x
def KC.okay(η:Nat→Value)(P:Program)(B:Bd)(e:KC):Prop:=CallSpec η P B e.f e.args e.h fun v h'=>v=e.v∧h'=e.h'
theorem nestL_spec:∀ {l:List KC},(∀ e,e ∈ l→e.okay η P B)→∀ {f:FuncId} {a:List Value} {x:AH} {v:Value} {h':AH},nestL l f a x = .ok (v,h')→CallSpec η P B f a x fun v1 h1=>v1=v∧h1=h'
 | [],_,f,a,x,v,h',hn=>by simp [nestL,noNest,no] at hn
 | e :: l,hl,f,a,x,v,h',hn=>by
  unfold nestL at hn
  by_cases hc:f=e.f∧a=e.args∧x=e.h
  ·rw [if_pos hc,okk] at hn
   obtain⟨rfl,rfl,rfl⟩:=hc
   injection hn with e1 e2
   subst e1;subst e2
   exact hl e (by simp)
  ·rw [if_neg hc] at hn
   exact nestL_spec (fun e he=>hl e (by simp [he])) hn
theorem nestL_ok{l:List KC}(hl:∀ e,e ∈ l→e.okay η P B):NestOk η P B (nestL l):=NestOk.of fun _ _ _ _ _ hn=>nestL_spec hl hn
def Cons(l:List KC):Prop:=∀ e e',e ∈ l→e' ∈ l→e.f=e'.f→e.args=e'.args→e.h=e'.h→e.v=e'.v∧e.h'=e'.h'
theorem nestL_get:∀ {l:List KC},Cons l→∀ e,e ∈ l→nestL l e.f e.args e.h = .ok (e.v,e.h')
 | [],_,e,he=>by cases he
 | x :: l,hc,e,he=>by
  unfold nestL
  by_cases hk:e.f=x.f∧e.args=x.args∧e.h=x.h
  ·obtain⟨h1,h2⟩:=hc e x he (by simp) hk.1 hk.2.1 hk.2.2
   rw [if_pos hk,h1,h2]
  ·rw [if_neg hk]
   rcases List.mem_cons.1 he with rfl | he
   ·exact absurd ⟨rfl,rfl,rfl⟩ hk
   ·exact nestL_get (fun a b ha hb=>hc a b (by simp [ha]) (by simp [hb])) e he
theorem consM_all{g:FuncId}{args:List Value}{h:AH}{v:Value}{h':AH}:∀ {l:List KC},consM g args h v h' l→∀ e,e ∈ l→e.f=g→args=e.args→h=e.h→v=e.v∧h'=e.h'
 | [],_,e,he=>by cases he
 | x :: l,hx,e,he=>by
  rcases List.mem_cons.1 he with rfl | he
  ·exact hx.1
  ·exact consM_all hx.2 e he
theorem cons_cons{e:KC}{l:List KC}(hl:Cons l)(h:consM e.f e.args e.h e.v e.h' l):Cons (e :: l):=by
 intro a b ha hb hf hg hh
 have hc:=consM_all h
 rcases List.mem_cons.1 ha with h1 | h1 <;> rcases List.mem_cons.1 hb with h2 | h2
 ·rw [h1,h2];exact⟨rfl,rfl⟩
 ·subst h1;exact hc b h2 hf.symm hg hh
 ·subst h2;obtain⟨q1,q2⟩:=hc a h1 hf hg.symm hh.symm;exact⟨q1.symm,q2.symm⟩
 ·exact hl a b h1 h2 hf hg hh
def RegXM(η:Nat→Value)(P:Program)(B:Bd)(fn:FuncId)(h0:AH)(q:List Nat)(base:Nat)(nest:Nest)(s:AS)(Q:Value→AH→Prop):Prop:=
 ∃ ops is k,s.fr.todo = .inRegion ops is :: k∧∃ tm' h',RegM P nest q s.fr.n base ops.toList is s.fr.tm s.hp tm' h'∧Run η P B fn h0 ⟨{ s.fr with tm:=tm',todo:=k },s.cs,h'⟩ Q
def RegGoM(η:Nat→Value)(P:Program)(B:Bd)(fn:FuncId)(h0:AH)(q:List Nat)(base:Nat)(c:List KC)(s:AS)(Q:Value→AH→Prop):Prop:=
 Cons c→(∀ e,e ∈ c→e.okay η P B)→∃ L,(∀ e,e ∈ c→e ∈ L)∧Cons L∧(∀ e,e ∈ L→e.okay η P B)∧RegXM η P B fn h0 q base (nestL L) s Q
theorem RegM.get{nest:Nest}{q:List Nat}{n base:Nat}{ops:List Oper}:∀ {is:List Nat} {t1 t2 u1:T Value} {h h':AH},(∀ i,t1.get i=t2.get i)→RegM P nest q n base ops is t1 h u1 h'→∃ u2,RegM P nest q n base ops is t2 h u2 h'∧∀ i,u1.get i=u2.get i:=by
 intro is
 induction is with
 | nil=>intro t1 t2 u1 h h' he hh;rw [RegM] at hh;obtain⟨rfl,rfl⟩:=hh;exact⟨t2,⟨rfl,rfl⟩,he⟩
 | cons i is ih=>
  intro t1 t2 u1 h h' he hh
  rw [RegM] at hh
  obtain⟨o,want,v,h1,tm1,ho,hw,hv,hu,htm,hh⟩:=hh
  have hev:evA t1=evA t2:=by
   funext x
   cases x <;> simp only [evA,he]
  have hwn:wantedA ops t2 o = .ok want:=by
   rw [← hw];unfold wantedA
   split
   ·rfl
   ·split
    ·rfl
    ·rw [he]
  unfold putT at htm
  split at htm
  ·rename_i d hd
   split at htm
   ·rename_i hlt
    rw [okk] at htm;subst htm
    obtain⟨u2,g1,g2⟩:=ih (t2:=t2.set d v) (fun j=>by rw [T.get_set,T.get_set,he]) hh
    refine⟨u2,?_,g2⟩
    rw [RegM]
    refine⟨o,want,v,h1,t2.set d v,ho,hwn,by rw [← hev];exact hv,hu,?_,g1⟩
    unfold putT;rw [hd];simp only;rw [if_pos hlt]
   ·simp [no] at htm
  ·rename_i hd
   rw [okk] at htm;subst htm
   obtain⟨u2,g1,g2⟩:=ih (t2:=t2) he hh
   refine⟨u2,?_,g2⟩
   rw [RegM]
   refine⟨o,want,v,h1,t2,ho,hwn,by rw [← hev];exact hv,hu,?_,g1⟩
   unfold putT;rw [hd]
theorem RegXM.tm{fn:FuncId}{h0:AH}{q:List Nat}{base:Nat}{nest:Nest}{s:AS}{Q:Value→AH→Prop}{tm:T Value}(hg:∀ t,tm.get t=s.fr.tm.get t)(g:RegXM η P B fn h0 q base nest ⟨{ s.fr with tm:=tm },s.cs,s.hp⟩ Q):RegXM η P B fn h0 q base nest s Q:=by
 obtain⟨ops,is,k,ht,tm',h',hq,hr⟩:=g
 simp only at ht hq
 obtain⟨u2,g1,g2⟩:=RegM.get (t2:=s.fr.tm) hg hq
 exact⟨ops,is,k,ht,u2,h',g1,Run.anyTm (f:={ s.fr with tm:=u2,todo:=k }) (tm:=tm') g2 hr⟩
theorem RegGoM.map{fn:FuncId}{h0:AH}{q:List Nat}{base:Nat}{c:List KC}{s s':AS}{Q:Value→AH→Prop}(g:RegGoM η P B fn h0 q base c s' Q)(k:∀ nest,RegXM η P B fn h0 q base nest s' Q→RegXM η P B fn h0 q base nest s Q):RegGoM η P B fn h0 q base c s Q:=by
 intro hc ho
 obtain⟨L,h1,h2,h3,h4⟩:=g hc ho
 exact⟨L,h1,h2,h3,k _ h4⟩
theorem runGM_go{fn:FuncId}{h0:AH}{base:Nat}{nest:Nest}{Q:Value→AH→Prop}{q:List Nat}:∀ (n:Nat) {s s':AS},runGM P q base n s = .ok s'→RegXM η P B fn h0 q base nest s' Q→RegXM η P B fn h0 q base nest s Q
 | 0,s,s',h,g=>by rw [runGM,okk] at h;subst h;exact g
 | n+1,s,s',h,g=>by
  unfold runGM at h
  split at h
  ·rename_i ops i rest k ht
   split at h
   ·simp [no] at h
   ·rename_i o ho
    simp only [bind_ok] at h
    obtain⟨want,hw,⟨v,h1⟩,hv,h⟩:=h
    simp only at h
    split at h
    ·simp [no] at h
    ·rename_i hfit
     simp only [bind_ok] at h
     obtain⟨tm,htm,h⟩:=h
     obtain⟨ops',is',k',ht',tm',h',hqq,hr⟩:=runGM_go n h g
     simp only at ht'
     injection ht' with e1 e2
     injection e1 with e3 e4
     subst e2;subst e3;subst e4
     refine⟨ops,i :: rest,k,ht,tm',h',?_,hr⟩
     rw [RegM]
     refine⟨o,want,v,h1,tm,ho,hw,fun hw1=>?_,fun hw1=>?_,htm,hqq⟩
     ·subst hw1
      simp only [if_true] at hv
      simp only [Bool.true_and,Bool.or_eq_true,Bool.and_eq_true,not_or,not_and,Bool.not_eq_true',Bool.not_eq_false] at hfit
      refine⟨seqOp_nest hv,fun hk=>?_,fun hc=>absurd hc hfit.1⟩
      exact hfit.2 (by rw [hk];rfl)
     ·subst hw1
      simp only [Bool.false_eq_true,if_false] at hv
      rw [okk] at hv;injection hv with e1 e2;exact⟨e1.symm,e2.symm⟩
  ·simp [no] at h
theorem walkM_ok{fn:FuncId}{h0:AH}{K:List Nat→AS→Prop}{D:Value→AH→Prop}{Q:Value→AH→Prop}{kS:Sc→AS→W}{q:List Nat}{base:Nat}
  (hS:∀ sc s,(kS sc s).holds η P B fn K D→Run η P B fn h0 s Q):∀ (u:Nat) (c:List KC) (sc:Sc) (s:AS),(walkM P kS q base u c sc s).holds η P B fn K D→RegGoM η P B fn h0 q base c s Q:=by
 intro u
 induction u with
 | zero=>intro c sc s h;exact absurd h (by unfold walkM;exact fun h=>h)
 | succ u ih=>
  intro c sc s h
  cases sc with
  | steps n k=>
   unfold walkM at h
   split at h
   ·rename_i s' hs
    have g:=ih c k s' h
    exact g.map fun nest x=>runGM_go n hs x
   ·exact absurd h fun h=>h
  | bit d a b=>
   unfold walkM at h
   split at h
   ·rename_i x hx
    cases x with
    | true=>
     have g:=ih c a _ (h.1 rfl)
     exact g.map fun nest x=>RegXM.tm (bind_get hx) x
    | false=>
     have g:=ih c b _ (h.2 rfl)
     exact g.map fun nest x=>RegXM.tm (bind_get hx) x
   ·exact absurd h fun h=>h
  | op k=>
   unfold walkM at h
   split at h
   ·rename_i ops i rest ki ht
    split at h
    ·rename_i o ho
     split at h
     ·exact absurd h fun h=>h
     ·rename_i p kt hw hop hk
      split at h
      ·exact absurd h fun h=>h
      ·rename_i hqi
       obtain⟨hp,h⟩:=h
       have h:=h hp
       obtain⟨v1,h1,hs,hgo⟩:=opW_ok hop hp
       obtain⟨k',hh⟩:=walkK_sat h hs
       split at hh
       ·exact absurd hh fun h=>h
       ·rename_i hf
        split at hh
        ·rename_i tm htm
         have g:=ih c k' _ hh
         refine g.map fun nest x=>?_
         obtain⟨ops',is',k2,ht',tm',h',hq,hrun⟩:=x
         simp only at ht'
         injection ht' with e1 e2
         injection e1 with e3 e4
         subst e2;subst e3;subst e4
         refine⟨ops,i :: rest,ki,ht,tm',h',?_,hrun⟩
         rw [RegM]
         refine⟨o,true,v1,h1,tm,ho,hw,fun _=>⟨?_,fun hkr=>?_,fun hc=>absurd hc hqi⟩,(fun hx=>by cases hx),htm,hq⟩
         ·unfold seqOp
          cases hkk:kindOf P o.op with
          | read=>
           obtain⟨hr,e⟩:=hgo.read hkk
           rw [e]
           simp only [hr,bind,Except.bind]
          | alloc=>exact absurd hkk hk
          | effect=>
           have hx:∀ {r:AN × AH},execA P (evA s.fr.tm) o s.hp = .ok r→effA P (evA s.fr.tm) o s.hp = .ok r:=by
            intro r hr
            unfold execA at hr
            rw [ite_no,hkk] at hr
            exact hr.2
           unfold effRun
           rcases hgo with hg | ⟨hg,e⟩
           ·simp only [hx hg,bind,Except.bind]
           ·rw [e];simp only [hx hg,bind,Except.bind]
         ·simp only [hkr,isRead,Bool.true_and,Bool.not_eq_true',Bool.not_eq_false] at hf
          exact hf
        ·exact absurd hh fun h=>h
     ·exact absurd h fun h=>h
     ·exact absurd h fun h=>h
    ·exact absurd h fun h=>h
   ·exact absurd h fun h=>h
  | call kt k=>
   unfold walkM at h
   split at h
   ·rename_i ops i rest ki ht
    split at h
    ·rename_i o ho
     split at h
     ·rename_i g args h1 hw hx hk
      split at h
      ·exact absurd h fun h=>h
      ·rename_i hcl
       obtain⟨hc,h⟩:=h
       obtain⟨k',⟨⟨q1,q2⟩,hh⟩⟩:=kt_sat h (KT.some_sat (by simpa using hcl))
       have hh:=hh ⟨q1,q2⟩
       split at hh
       ·rename_i tm htm
        intro hcs hoks
        have hnew:(⟨g,args,h1,kt.get.1,kt.get.2⟩:KC).okay η P B:=hc.mono fun v1 h2 hs=>by
         have:=KT.get_of hs
         rw [← this];exact⟨rfl,rfl⟩
        obtain⟨L,m1,m2,m3,ops',is',k2,ht',tm',h',hq,hrun⟩:=ih (⟨g,args,h1,kt.get.1,kt.get.2⟩ :: c) k' _ hh (cons_cons hcs q1) (fun e he=>by
         rcases List.mem_cons.1 he with rfl | he
         ·exact hnew
         ·exact hoks e he)
        simp only at ht'
        injection ht' with e1 e2
        injection e1 with e3 e4
        subst e2;subst e3;subst e4
        refine⟨L,fun e he=>m1 e (by simp [he]),m2,m3,ops,i :: rest,ki,ht,tm',h',?_,hrun⟩
        rw [RegM]
        refine⟨o,true,kt.get.1,kt.get.2,tm,ho,hw,fun _=>⟨?_,(fun hkr=>by rw [hk] at hkr;cases hkr),fun hc=>?_⟩,(fun hx=>by cases hx),htm,hq⟩
        ·unfold seqOp
         rw [hk]
         simp only
         unfold effRun
         simp only [hx,bind,Except.bind]
         exact nestL_get m2 ⟨g,args,h1,kt.get.1,kt.get.2⟩ (m1 _ (by simp))
        ·rw [if_pos hc] at q2;exact q2
       ·exact absurd hh fun h=>h
     ·exact absurd h fun h=>h
    ·exact absurd h fun h=>h
   ·exact absurd h fun h=>h
  | regM q' k=>
   unfold walkM at h
   split at h
   ·rename_i ops ki ht
    intro hcs hoks
    exact⟨c,fun e he=>he,hcs,hoks,ops,[],ki,ht,s.fr.tm,s.hp,⟨rfl,rfl⟩,hS k _ h⟩
   ·exact absurd h fun h=>h
  | regN q' k=>exact absurd h (by unfold walkM;exact fun h=>h)
  | reg k=>exact absurd h (by unfold walkM;exact fun h=>h)
  | regS k=>exact absurd h (by unfold walkM;exact fun h=>h)
  | regX k=>exact absurd h (by unfold walkM;exact fun h=>h)
  | opT k=>exact absurd h (by unfold walkM;exact fun h=>h)
  | both a b=>exact absurd h (by unfold walkM;exact fun h=>h)
  | stop a b=>exact absurd h (by unfold walkM;exact fun h=>h)
  | done a=>exact absurd h (by unfold walkM;exact fun h=>h)
def RegXN(η:Nat→Value)(P:Program)(B:Bd)(fn:FuncId)(h0:AH)(q:List Nat)(base:Nat)(nest:Nest)(rds:List ((Operand→Value) × Oper × Value))(xs:List AH)(s:AS)(Q:Value→AH→Prop):Prop:=
 ∃ ops is k,s.fr.todo = .inRegion ops is :: k∧∃ tm' h',RegN P nest q s.fr.n base ops.toList is rds xs s.fr.tm s.hp tm' h'∧Run η P B fn h0 ⟨{ s.fr with tm:=tm',todo:=k },s.cs,h'⟩ Q
def RegGoN(η:Nat→Value)(P:Program)(B:Bd)(fn:FuncId)(h0:AH)(q:List Nat)(base:Nat)(c:List KC)(rds:List ((Operand→Value) × Oper × Value))(xs:List AH)(s:AS)(Q:Value→AH→Prop):Prop:=
 Cons c→(∀ e,e ∈ c→e.okay η P B)→∃ L,(∀ e,e ∈ c→e ∈ L)∧Cons L∧(∀ e,e ∈ L→e.okay η P B)∧RegXN η P B fn h0 q base (nestL L) rds xs s Q
theorem RegN.get{nest:Nest}{q:List Nat}{n base:Nat}{ops:List Oper}:∀ {is:List Nat} {rds:List ((Operand→Value) × Oper × Value)} {xs:List AH} {t1 t2 u1:T Value} {h h':AH},(∀ i,t1.get i=t2.get i)→RegN P nest q n base ops is rds xs t1 h u1 h'→∃ u2,RegN P nest q n base ops is rds xs t2 h u2 h'∧∀ i,u1.get i=u2.get i:=by
 intro is
 induction is with
 | nil=>intro rds xs t1 t2 u1 h h' he hh;rw [RegN] at hh;obtain⟨rfl,rfl⟩:=hh;exact⟨t2,⟨rfl,rfl⟩,he⟩
 | cons i is ih=>
  intro rds xs t1 t2 u1 h h' he hh
  rw [RegN] at hh
  obtain⟨o,want,v,h1,tm1,ho,hw,hv,hu,htm,hh⟩:=hh
  have hev:evA t1=evA t2:=by
   funext x
   cases x <;> simp only [evA,he]
  rw [hev] at hh
  have hwn:wantedA ops t2 o = .ok want:=by
   rw [← hw];unfold wantedA
   split
   ·rfl
   ·split
    ·rfl
    ·rw [he]
  unfold putT at htm
  split at htm
  ·rename_i d hd
   split at htm
   ·rename_i hlt
    rw [okk] at htm;subst htm
    obtain⟨u2,g1,g2⟩:=ih (t2:=t2.set d v) (fun j=>by rw [T.get_set,T.get_set,he]) hh
    refine⟨u2,?_,g2⟩
    rw [RegN]
    refine⟨o,want,v,h1,t2.set d v,ho,hwn,by rw [← hev];exact hv,hu,?_,g1⟩
    unfold putT;rw [hd];simp only;rw [if_pos hlt]
   ·simp [no] at htm
  ·rename_i hd
   rw [okk] at htm;subst htm
   obtain⟨u2,g1,g2⟩:=ih (t2:=t2) he hh
   refine⟨u2,?_,g2⟩
   rw [RegN]
   refine⟨o,want,v,h1,t2,ho,hwn,by rw [← hev];exact hv,hu,?_,g1⟩
   unfold putT;rw [hd]
theorem RegXN.tm{fn:FuncId}{h0:AH}{q:List Nat}{base:Nat}{nest:Nest}{rds:List ((Operand→Value) × Oper × Value)}{xs:List AH}{s:AS}{Q:Value→AH→Prop}{tm:T Value}(hg:∀ t,tm.get t=s.fr.tm.get t)(g:RegXN η P B fn h0 q base nest rds xs ⟨{ s.fr with tm:=tm },s.cs,s.hp⟩ Q):RegXN η P B fn h0 q base nest rds xs s Q:=by
 obtain⟨ops,is,k,ht,tm',h',hq,hr⟩:=g
 simp only at ht hq
 obtain⟨u2,g1,g2⟩:=RegN.get (t2:=s.fr.tm) hg hq
 exact⟨ops,is,k,ht,u2,h',g1,Run.anyTm (f:={ s.fr with tm:=u2,todo:=k }) (tm:=tm') g2 hr⟩
theorem RegGoN.map{fn:FuncId}{h0:AH}{q:List Nat}{base:Nat}{c:List KC}{rds rds':List ((Operand→Value) × Oper × Value)}{xs xs':List AH}{s s':AS}{Q:Value→AH→Prop}(g:RegGoN η P B fn h0 q base c rds' xs' s' Q)(k:∀ nest,RegXN η P B fn h0 q base nest rds' xs' s' Q→RegXN η P B fn h0 q base nest rds xs s Q):RegGoN η P B fn h0 q base c rds xs s Q:=by
 intro hc ho
 obtain⟨L,h1,h2,h3,h4⟩:=g hc ho
 exact⟨L,h1,h2,h3,k _ h4⟩
theorem runGN_go{fn:FuncId}{h0:AH}{base:Nat}{nest:Nest}{Q:Value→AH→Prop}{q:List Nat}:∀ (n:Nat) {rds rds':List ((Operand→Value) × Oper × Value)} {xs xs':List AH} {p:Prop} {s s':AS},runGN P q base n rds xs s = .ok (p,rds',xs',s')→p→RegXN η P B fn h0 q base nest rds' xs' s' Q→RegXN η P B fn h0 q base nest rds xs s Q
 | 0,rds,rds',xs,xs',p,s,s',h,hp,g=>by rw [runGN,okk] at h;injection h with e1 e2;injection e2 with e2 e3;injection e3 with e3 e4;subst e2;subst e3;subst e4;exact g
 | n+1,rds,rds',xs,xs',p,s,s',h,hp,g=>by
  unfold runGN at h
  split at h
  ·rename_i ops i rest k ht
   split at h
   ·simp [no] at h
   ·rename_i o ho
    simp only [bind_ok] at h
    obtain⟨want,hw,⟨v,h1⟩,hv,h⟩:=h
    simp only at h
    split at h
    ·simp [no] at h
    ·rename_i hfit
     simp only [bind_ok] at h
     obtain⟨tm,htm,⟨p1,r1,r2,r3⟩,hrec,h⟩:=h
     simp only at h
     rw [okk] at h
     injection h with e1 e2;injection e2 with e2 e3;injection e3 with e3 e4
     subst e2;subst e3;subst e4;subst e1
     obtain⟨hp1,hp2⟩:=hp
     obtain⟨ops',is',k',ht',tm',h',hqq,hr⟩:=runGN_go n hrec hp2 g
     simp only at ht'
     injection ht' with e1 e2
     injection e1 with e3 e4
     subst e2;subst e3;subst e4
     refine⟨ops,i :: rest,k,ht,tm',h',?_,hr⟩
     rw [RegN]
     refine⟨o,want,v,h1,tm,ho,hw,fun hw1=>?_,fun hw1=>?_,htm,hqq⟩
     ·subst hw1
      simp only [if_true] at hv
      simp only [Bool.true_and,Bool.or_eq_true,Bool.and_eq_true,not_or,not_and,Bool.not_eq_true',Bool.not_eq_false] at hfit
      refine⟨seqOp_nest hv,fun hk=>⟨?_,?_⟩,fun hc=>absurd hc hfit.1⟩
      ·exact hfit.2 (by rw [hk];rfl)
      ·rw [if_pos (by rw [hk];rfl)] at hp1
       exact sameX_all hp1
     ·subst hw1
      simp only [Bool.false_eq_true,if_false] at hv
      rw [okk] at hv;injection hv with e1 e2;exact⟨e1.symm,e2.symm⟩
  ·simp [no] at h
theorem walkN_ok{fn:FuncId}{h0:AH}{K:List Nat→AS→Prop}{D:Value→AH→Prop}{Q:Value→AH→Prop}{kS:Sc→AS→W}{q:List Nat}{base:Nat}
  (hS:∀ sc s,(kS sc s).holds η P B fn K D→Run η P B fn h0 s Q):∀ (u:Nat) (c:List KC) (rds:List ((Operand→Value) × Oper × Value)) (xs:List AH) (sc:Sc) (s:AS),(walkN P kS q base u c rds xs sc s).holds η P B fn K D→RegGoN η P B fn h0 q base c rds xs s Q:=by
 intro u
 induction u with
 | zero=>intro c rds xs sc s h;exact absurd h (by unfold walkN;exact fun h=>h)
 | succ u ih=>
  intro c rds xs sc s h
  cases sc with
  | steps n k=>
   unfold walkN at h
   split at h
   ·rename_i p rds' xs' s' hs
    obtain⟨hp,h⟩:=h
    have g:=ih c rds' xs' k s' (h hp)
    exact g.map fun nest x=>runGN_go n hs hp x
   ·exact absurd h fun h=>h
  | bit d a b=>
   unfold walkN at h
   split at h
   ·rename_i x hx
    cases x with
    | true=>
     have g:=ih c rds xs a _ (h.1 rfl)
     exact g.map fun nest x=>RegXN.tm (bind_get hx) x
    | false=>
     have g:=ih c rds xs b _ (h.2 rfl)
     exact g.map fun nest x=>RegXN.tm (bind_get hx) x
   ·exact absurd h fun h=>h
  | op k=>
   unfold walkN at h
   split at h
   ·rename_i ops i rest ki ht
    split at h
    ·rename_i o ho
     split at h
     ·exact absurd h fun h=>h
     ·rename_i p kt hw hop hk
      split at h
      ·exact absurd h fun h=>h
      ·rename_i hqi
       obtain⟨hp,h⟩:=h
       have h:=h hp
       obtain⟨v1,h1,hs,hgo⟩:=opW_ok hop hp
       obtain⟨k',hh⟩:=walkK_sat h hs
       split at hh
       ·exact absurd hh fun h=>h
       ·rename_i hf
        obtain⟨hsx,hh⟩:=hh
        have hh:=hh hsx
        split at hh
        ·rename_i tm htm
         have g:=ih c _ _ k' _ hh
         refine g.map fun nest x=>?_
         obtain⟨ops',is',k2,ht',tm',h',hq,hrun⟩:=x
         simp only at ht'
         injection ht' with e1 e2
         injection e1 with e3 e4
         subst e2;subst e3;subst e4
         refine⟨ops,i :: rest,ki,ht,tm',h',?_,hrun⟩
         rw [RegN]
         refine⟨o,true,v1,h1,tm,ho,hw,fun _=>⟨?_,fun hkr=>?_,fun hc=>absurd hc hqi⟩,(fun hx=>by cases hx),htm,hq⟩
         ·unfold seqOp
          cases hkk:kindOf P o.op with
          | read=>
           obtain⟨hr,e⟩:=hgo.read hkk
           rw [e]
           simp only [hr,bind,Except.bind]
          | alloc=>exact absurd hkk hk
          | effect=>
           have hx:∀ {r:AN × AH},execA P (evA s.fr.tm) o s.hp = .ok r→effA P (evA s.fr.tm) o s.hp = .ok r:=by
            intro r hr
            unfold execA at hr
            rw [ite_no,hkk] at hr
            exact hr.2
           unfold effRun
           rcases hgo with hg | ⟨hg,e⟩
           ·simp only [hx hg,bind,Except.bind]
           ·rw [e];simp only [hx hg,bind,Except.bind]
         ·simp only [hkr,isRead,Bool.true_and,Bool.not_eq_true',Bool.not_eq_false] at hf
          rw [if_pos (by rw [hkr];rfl)] at hsx
          exact⟨hf,sameX_all hsx⟩
        ·exact absurd hh fun h=>h
     ·exact absurd h fun h=>h
     ·exact absurd h fun h=>h
    ·exact absurd h fun h=>h
   ·exact absurd h fun h=>h
  | call kt k=>
   unfold walkN at h
   split at h
   ·rename_i ops i rest ki ht
    split at h
    ·rename_i o ho
     split at h
     ·rename_i g args h1 hw hx hk
      split at h
      ·exact absurd h fun h=>h
      ·rename_i hcl
       obtain⟨hc,h⟩:=h
       obtain⟨k',⟨⟨q1,q2⟩,hh⟩⟩:=kt_sat h (KT.some_sat (by simpa using hcl))
       have hh:=hh ⟨q1,q2⟩
       split at hh
       ·rename_i tm htm
        intro hcs hoks
        have hnew:(⟨g,args,h1,kt.get.1,kt.get.2⟩:KC).okay η P B:=hc.mono fun v1 h2 hs=>by
         have:=KT.get_of hs
         rw [← this];exact⟨rfl,rfl⟩
        obtain⟨L,m1,m2,m3,ops',is',k2,ht',tm',h',hq,hrun⟩:=ih (⟨g,args,h1,kt.get.1,kt.get.2⟩ :: c) _ _ k' _ hh (cons_cons hcs q1) (fun e he=>by
         rcases List.mem_cons.1 he with rfl | he
         ·exact hnew
         ·exact hoks e he)
        simp only at ht'
        injection ht' with e1 e2
        injection e1 with e3 e4
        subst e2;subst e3;subst e4
        refine⟨L,fun e he=>m1 e (by simp [he]),m2,m3,ops,i :: rest,ki,ht,tm',h',?_,hrun⟩
        rw [RegN]
        refine⟨o,true,kt.get.1,kt.get.2,tm,ho,hw,fun _=>⟨?_,(fun hkr=>by rw [hk] at hkr;cases hkr),fun hc=>?_⟩,(fun hx=>by cases hx),htm,hq⟩
        ·unfold seqOp
         rw [hk]
         simp only
         unfold effRun
         simp only [hx,bind,Except.bind]
         exact nestL_get m2 ⟨g,args,h1,kt.get.1,kt.get.2⟩ (m1 _ (by simp))
        ·rw [if_pos hc] at q2;exact stillR_all q2
       ·exact absurd hh fun h=>h
     ·exact absurd h fun h=>h
    ·exact absurd h fun h=>h
   ·exact absurd h fun h=>h
  | regN q' k=>
   unfold walkN at h
   split at h
   ·rename_i ops ki ht
    intro hcs hoks
    exact⟨c,fun e he=>he,hcs,hoks,ops,[],ki,ht,s.fr.tm,s.hp,⟨rfl,rfl⟩,hS k _ h⟩
   ·exact absurd h fun h=>h
  | reg k=>exact absurd h (by unfold walkN;exact fun h=>h)
  | regM q' k=>exact absurd h (by unfold walkN;exact fun h=>h)
  | regS k=>exact absurd h (by unfold walkN;exact fun h=>h)
  | regX k=>exact absurd h (by unfold walkN;exact fun h=>h)
  | opT k=>exact absurd h (by unfold walkN;exact fun h=>h)
  | both a b=>exact absurd h (by unfold walkN;exact fun h=>h)
  | stop a b=>exact absurd h (by unfold walkN;exact fun h=>h)
  | done a=>exact absurd h (by unfold walkN;exact fun h=>h)
theorem walkR_ok{fn:FuncId}{h0:AH}{K:List Nat→AS→Prop}{D:Value→AH→Prop}{Q:Value→AH→Prop}{kS:Sc→AS→W}{base:Nat}
  (hS:∀ sc s,(kS sc s).holds η P B fn K D→Run η P B fn h0 s Q):∀ (u:Nat) (c:Bool) (sc:Sc) (s:AS),(walkR P kS base u c sc s).holds η P B fn K D→RegGo η P B fn h0 base c s Q:=by
 intro u
 induction u with
 | zero=>intro c sc s h;exact absurd h (by unfold walkR;exact fun h=>h)
 | succ u ih=>
  intro c sc s h
  cases sc with
  | steps n k=>
   unfold walkR at h
   split at h
   ·rename_i s' hs
    exact(ih c k s' h).map fun nest x=>runG_go n hs x
   ·exact absurd h fun h=>h
  | bit d a b=>
   unfold walkR at h
   split at h
   ·rename_i x hx
    cases x with
    | true=>exact(ih c a _ (h.1 rfl)).map fun nest x=>RegX.tm (bind_get hx) x
    | false=>exact(ih c b _ (h.2 rfl)).map fun nest x=>RegX.tm (bind_get hx) x
   ·exact absurd h fun h=>h
  | op k=>
   unfold walkR at h
   split at h
   ·rename_i ops i rest ki ht
    split at h
    ·rename_i o ho
     split at h
     ·exact absurd h fun h=>h
     ·rename_i p kt hw hop hk
      obtain⟨hp,h⟩:=h
      have h:=h hp
      obtain⟨v1,h1,hs,hgo⟩:=opW_ok hop hp
      obtain⟨k',hh⟩:=walkK_sat h hs
      split at hh
      ·rename_i tm htm
       refine(ih c k' _ hh).map fun nest x=>?_
       obtain⟨ops',is',k2,ht',tm',h',hq,hrun⟩:=x
       simp only at ht'
       injection ht' with e1 e2
       injection e1 with e3 e4
       subst e2;subst e3;subst e4
       refine⟨ops,i :: rest,ki,ht,tm',h',?_,hrun⟩
       rw [regSeq,ho]
       simp only [bind_ok]
       refine⟨true,hw,(v1,h1),?_,tm,htm,hq⟩
       simp only [if_true]
       unfold seqOp
       cases hkk:kindOf P o.op with
       | read=>
        obtain⟨hr,e⟩:=hgo.read hkk
        rw [e]
        simp only [hr,bind,Except.bind]
       | alloc=>exact absurd hkk hk
       | effect=>
        have hx:∀ {r:AN × AH},execA P (evA s.fr.tm) o s.hp = .ok r→effA P (evA s.fr.tm) o s.hp = .ok r:=by
         intro r hr
         unfold execA at hr
         rw [ite_no,hkk] at hr
         exact hr.2
        unfold effRun
        rcases hgo with hg | ⟨hg,e⟩
        ·simp only [hx hg,bind,Except.bind]
        ·rw [e];simp only [hx hg,bind,Except.bind]
      ·exact absurd hh fun h=>h
     ·exact absurd h fun h=>h
     ·exact absurd h fun h=>h
    ·exact absurd h fun h=>h
   ·exact absurd h fun h=>h
  | call kt k=>
   cases c with
   | false=>exact absurd h (by unfold walkR;exact fun h=>h)
   | true=>
    unfold walkR at h
    split at h
    ·rename_i ops i rest ki ht
     split at h
     ·rename_i o ho
      split at h
      ·rename_i g args h1 hw hx hk
       split at h
       ·exact absurd h fun h=>h
       ·rename_i hcl
        obtain⟨hc,h⟩:=h
        obtain⟨k',hh⟩:=kt_sat h (KT.some_sat (by simpa using hcl))
        split at hh
        ·rename_i tm htm
         refine⟨nest1 g args h1 kt.get,nest1_ok hc,?_⟩
         obtain⟨ops',is',k2,ht',tm',h',hq,hrun⟩:=ih false k' _ hh (nest1 g args h1 kt.get)
         simp only at ht'
         injection ht' with e1 e2
         injection e1 with e3 e4
         subst e2;subst e3;subst e4
         refine⟨ops,i :: rest,ki,ht,tm',h',?_,hrun⟩
         rw [regSeq,ho]
         simp only [bind_ok]
         refine⟨true,hw,kt.get,?_,tm,htm,hq⟩
         simp only [if_true]
         unfold seqOp
         rw [hk]
         simp only
         unfold effRun
         simp only [hx,bind,Except.bind]
         unfold nest1
         rw [if_pos ⟨rfl,rfl,rfl⟩]
        ·exact absurd hh fun h=>h
      ·exact absurd h fun h=>h
     ·exact absurd h fun h=>h
    ·exact absurd h fun h=>h
  | reg k=>
   unfold walkR at h
   split at h
   ·rename_i ops ki ht
    have x:∀ nest,RegX η P B fn h0 base nest s Q:=fun nest=>⟨ops,[],ki,ht,s.fr.tm,s.hp,rfl,hS k _ h⟩
    cases c with
    | true=>exact⟨noNest,noNest_ok,x noNest⟩
    | false=>exact x
   ·exact absurd h fun h=>h
  | opT k=>
   unfold walkR at h
   split at h
   ·rename_i ops i rest ki ht
    split at h
    ·rename_i o ho
     split at h
     ·exact absurd h fun h=>h
     ·rename_i p kt hw hop hk
      obtain⟨hp,h⟩:=h
      have h:=h hp
      obtain⟨v1,h1,hs,hgo⟩:=opT_ok hop hp
      obtain⟨k',hh⟩:=walkK_sat h hs
      split at hh
      ·rename_i tm htm
       refine(ih c k' _ hh).map fun nest x=>?_
       obtain⟨ops',is',k2,ht',tm',h',hq,hrun⟩:=x
       simp only at ht'
       injection ht' with e1 e2
       injection e1 with e3 e4
       subst e2;subst e3;subst e4
       refine⟨ops,i :: rest,ki,ht,tm',h',?_,hrun⟩
       rw [regSeq,ho]
       simp only [bind_ok]
       refine⟨true,hw,(v1,h1),?_,tm,htm,hq⟩
       simp only [if_true]
       unfold seqOp
       cases hkk:kindOf P o.op with
       | read=>
        obtain⟨hr,e⟩:=hgo.read hkk
        rw [e]
        simp only [hr,bind,Except.bind]
       | alloc=>exact absurd hkk hk
       | effect=>
        have hx:∀ {r:AN × AH},execA P (evA s.fr.tm) o s.hp = .ok r→effA P (evA s.fr.tm) o s.hp = .ok r:=by
         intro r hr
         unfold execA at hr
         rw [ite_no,hkk] at hr
         exact hr.2
        unfold effRun
        rcases hgo with hg | ⟨hg,e⟩
        ·simp only [hx hg,bind,Except.bind]
        ·rw [e];simp only [hx hg,bind,Except.bind]
      ·exact absurd hh fun h=>h
     ·exact absurd h fun h=>h
     ·exact absurd h fun h=>h
    ·exact absurd h fun h=>h
   ·exact absurd h fun h=>h
  | both a b=>exact absurd h (by unfold walkR;exact fun h=>h)
  | stop a b=>exact absurd h (by unfold walkR;exact fun h=>h)
  | done a=>exact absurd h (by unfold walkR;exact fun h=>h)
  | regM q a=>exact absurd h (by unfold walkR;exact fun h=>h)
  | regN q a=>exact absurd h (by unfold walkR;exact fun h=>h)
  | regS a=>exact absurd h (by unfold walkR;exact fun h=>h)
  | regX a=>exact absurd h (by unfold walkR;exact fun h=>h)
def RegX1(P:Program)(nest:Nest)(n base:Nat)(ops:List Oper):List Nat→RS→T Value→AH→Prop
 | [],s,tm',h'=>s.tm=tm'∧finalH s.h s.al=h'
 | i :: is,s,tm',h'=>∃ o s1,ops[i]? = some o∧regStep P n base nest ops i o s = .ok s1∧RegX1 P nest n base ops is s1 tm' h'
theorem regLoop_X{nest:Nest}{n base:Nat}{ops:List Oper}{tm':T Value}{h':AH}:∀ (l:List Oper) (i:Nat) (s:RS),ops.drop i=l→RegX1 P nest n base ops (List.range' i l.length) s tm' h'→∃ s',regLoop P n base nest ops l i s = .ok s'∧s'.tm=tm'∧finalH s'.h s'.al=h'
 | [],i,s,hl,h=>⟨s,rfl,h⟩
 | o :: l,i,s,hl,h=>by
  have hi:ops[i]? = some o:=by
   have:=congrArg (fun x=>x[0]?) hl
   simpa [List.getElem?_drop] using this
  have hl':ops.drop (i+1)=l:=by
   have:=congrArg List.tail hl
   simpa [List.tail_drop] using this
  rw [List.length_cons,List.range'_succ,RegX1] at h
  obtain⟨o',s1,ho,hs,h⟩:=h
  rw [hi] at ho;injection ho with ho;subst ho
  obtain⟨s',g1,g2⟩:=regLoop_X l (i+1) s1 hl' h
  refine⟨s',?_,g2⟩
  rw [regLoop]
  simp only [hs,bind,Except.bind]
  exact g1
theorem regionA_X{nest:Nest}{n:Nat}{ops:List Oper}{tm tm':T Value}{h h':AH}(hq:RegX1 P nest n h.next ops (List.range ops.length) (rs0 tm { h with next:=h.next+ops.length }) tm' h') :
  regionA P n nest ops tm h = .ok (tm',h'):=by
 rw [List.range_eq_range'] at hq
 obtain⟨s',g1,g2,g3⟩:=regLoop_X (nest:=nest) (base:=h.next) (n:=n) ops 0 _ rfl hq
 unfold regionA
 unfold rs0 at g1
 simp only [g1,bind,Except.bind]
 rw [g3,g2]
theorem T.setF_same{α:Type}:∀ (k:Nat) (t:T α) (n:Nat) (v:α),t.get n=some v→T.setF k t n (some v)=t
 | 0,_,_,_,_=>rfl
 | k+1,.nil,_,_,h=>by cases h
 | k+1,.node o l r,n,v,h=>by
  unfold T.get at h
  unfold T.setF
  split at h
  ·rename_i h0;rw [if_pos h0,h]
  ·rename_i h0
   rw [if_neg h0]
   split at h
   ·rename_i h1;rw [if_pos h1,T.setF_same k l _ v h]
   ·rename_i h1;rw [if_neg h1,T.setF_same k r _ v h]
theorem T.set_same{α:Type}{t:T α}{n:Nat}{v:α}(h:t.get n=some v):t.set n v=t:=T.setF_same _ _ _ _ h
theorem sameQ_ok{o:Oper}{mask:Nat}{tm:T Value}{al:List (Nat × Nat × AObj)}{v:Value}(hv:vfit 20 v=true):∀ {l:List (Nat × AH)},sameQ P (evA tm) o mask al v l→(l.all fun p=>mask.testBit p.1 || sameRead P { o,mask,tm,want:=true,v,kind:=.read,obj:=none } al p.2)=true
 | [],_=>rfl
 | p :: l,h=>by
  obtain⟨h1,h2⟩:=h
  rw [List.all_cons,sameQ_ok hv h2,Bool.and_true]
  cases hb:mask.testBit p.1 || freeOp P o.op with
  | true=>
   rw [Bool.or_eq_true] at hb
   rcases hb with hb | hb
   ·rw [hb];rfl
   ·unfold sameRead;simp only [hb,Bool.true_or,Bool.or_true]
  | false=>
   rw [hb] at h1
   have h1:readIs (readA P (evA tm) o (withAl mask p.2 al)) v:=h1
   unfold sameRead
   simp only [readIs_ok h1,vfit_eq 20 v hv,Bool.or_true]
theorem stillQ_ok{mask:Nat}{al:List (Nat × Nat × AObj)}{h:AH}:∀ {l:List Ent} {j:Nat},stillQ P mask al h l j→readsOk P mask al h l j=true
 | [],_,_=>rfl
 | x :: l,j,hh=>by
  obtain⟨h1,h2⟩:=hh
  unfold readsOk
  rw [stillQ_ok h2,Bool.and_true]
  cases hb:!isReadE x || mask.testBit j || freeOp P x.o.op with
  | true=>
   simp only [Bool.or_eq_true] at hb
   rcases hb with hb | hb
   ·rcases hb with hb | hb
    ·rw [hb];rfl
    ·rw [hb,Bool.or_true];rfl
   ·unfold sameRead;simp only [hb,Bool.true_or,Bool.or_true]
  | false=>
   rw [hb] at h1
   have h1:vfit 20 x.v=true∧readIs (readA P (evA x.tm) x.o (withAl x.mask h al)) x.v:=h1
   unfold sameRead
   simp only [readIs_ok h1.2,vfit_eq 20 x.v h1.1,Bool.or_true]
theorem effRun_nest{nest:Nest}{ρ:Operand→Value}{o:Oper}{h:AH}{r:Value × AH}(hs:effRun P noNest ρ o h = .ok r):effRun P nest ρ o h = .ok r:=by
 unfold effRun at hs ⊢
 simp only [bind_ok] at hs ⊢
 obtain⟨⟨a,h1⟩,he,hs⟩:=hs
 refine⟨(a,h1),he,?_⟩
 cases a <;> first | exact hs | (simp [noNest,no] at hs)
theorem runX1_ok{nest:Nest}{n base:Nat}{ops:List Oper}{i:Nat}{o:Oper}{s s1:RS}{p:Prop}(h:runX1 P n base ops i o s = .ok (p,s1))(hp:p):regStep P n base nest ops i o s = .ok s1:=by
 unfold runX1 at h
 unfold regStep
 simp only [bind_ok] at h ⊢
 obtain⟨mask,hm,h⟩:=h
 refine⟨mask,hm,?_⟩
 split at h
 ·simp [no] at h
 ·rename_i h1
  rw [if_neg h1]
  simp only [bind_ok] at h ⊢
  obtain⟨want,hw,h⟩:=h
  refine⟨want,hw,?_⟩
  split at h
  ·rename_i h2
   rw [if_pos h2]
   simp only [bind_ok] at h ⊢
   obtain⟨tm,ht,h⟩:=h
   rw [okk] at h;injection h with e1 e2;subst e2
   exact⟨tm,ht,rfl⟩
  ·rename_i h2
   rw [if_neg h2]
   split at h
   ·simp [no] at h
   ·rename_i h3
    rw [if_neg h3]
    split at h
    ·rename_i hk
     rw [hk]
     simp only [bind_ok] at h ⊢
     obtain⟨v,hv,h⟩:=h
     split at h
     ·simp [no] at h
     ·rename_i h4
      simp only [bind_ok] at h
      obtain⟨tm,ht,h⟩:=h
      rw [okk] at h;injection h with e1 e2;subst e2;subst e1
      refine⟨v,hv,?_⟩
      rw [if_neg (by rw [sameQ_ok (by simpa using h4) hp];simp)]
      simp only [bind_ok]
      exact⟨tm,ht,rfl⟩
    ·rename_i hk
     rw [hk]
     simp only [bind_ok] at h ⊢
     obtain⟨⟨v,b⟩,hv,tm,ht,h⟩:=h
     rw [okk] at h;injection h with e1 e2;subst e2
     exact⟨(v,b),hv,tm,ht,rfl⟩
    ·rename_i hk
     rw [hk]
     split at h
     ·simp [no] at h
     ·rename_i h4
      simp only
      rw [if_neg h4]
      simp only [bind_ok] at h ⊢
      obtain⟨⟨v,h'⟩,hv,tm,ht,h⟩:=h
      rw [okk] at h;injection h with e1 e2;subst e2;subst e1
      refine⟨(v,h'),effRun_nest hv,?_⟩
      simp only
      rw [if_neg (by rw [stillQ_ok hp];simp)]
      simp only [bind_ok]
      exact⟨tm,ht,rfl⟩
theorem runX_ok{nest:Nest}{n base:Nat}{ops:List Oper}{tm':T Value}{h':AH}:∀ (m:Nat) {is is':List Nat} {s s':RS} {p:Prop},runX P n base ops m is s = .ok (p,is',s')→p→RegX1 P nest n base ops is' s' tm' h'→RegX1 P nest n base ops is s tm' h'
 | 0,is,is',s,s',p,h,hp,g=>by rw [runX,okk] at h;injection h with e1 e2;injection e2 with e2 e3;subst e2;subst e3;exact g
 | m+1,[],is',s,s',p,h,hp,g=>by simp [runX,no] at h
 | m+1,i :: is,is',s,s',p,h,hp,g=>by
  unfold runX at h
  split at h
  ·simp [no] at h
  ·rename_i o ho
   simp only [bind_ok] at h
   obtain⟨⟨p1,s1⟩,h1,⟨q,r1,r2⟩,h2,h⟩:=h
   simp only at h
   rw [okk] at h;injection h with e1 e2;injection e2 with e2 e3;subst e2;subst e3;subst e1
   exact⟨o,s1,ho,runX1_ok h1 hp.1,runX_ok m h2 hp.2 g⟩
def RegGoX(η:Nat→Value)(P:Program)(B:Bd)(fn:FuncId)(h0:AH)(fr:AF)(cs:List AF)(ki:List Item)(base:Nat)(ops:List Oper)(c:List KC)(is:List Nat)(s:RS)(Q:Value→AH→Prop):Prop:=
 Cons c→(∀ e,e ∈ c→e.okay η P B)→∃ L,(∀ e,e ∈ c→e ∈ L)∧Cons L∧(∀ e,e ∈ L→e.okay η P B)∧∃ tm' h',RegX1 P (nestL L) fr.n base ops is s tm' h'∧Run η P B fn h0 ⟨{ fr with tm:=tm',todo:=ki },cs,h'⟩ Q
theorem okOps_of_opW{ρ:Operand→Value}{o:Oper}{h:AH}{r:Prop × KT}(hw:opW P ρ o h = .ok r):okOps P o=true:=by
 unfold opW at hw
 rw [ite_no] at hw
 cases hq:okOps P o with
 | true=>rfl
 | false=>rw [hq] at hw;simp at hw
theorem okOps_of_opT{ρ:Operand→Value}{o:Oper}{h:AH}{r:Prop × KT}(hw:opT P ρ o h = .ok r):okOps P o=true:=by
 unfold opT at hw
 rw [ite_no] at hw
 cases hq:okOps P o with
 | true=>rfl
 | false=>rw [hq] at hw;simp at hw
theorem opX_ok{fn:FuncId}{h0:AH}{K:List Nat→AS→Prop}{D:Value→AH→Prop}{Q:Value→AH→Prop}{fr:AF}{cs:List AF}{ki:List Item}{base:Nat}{ops:List Oper}{c:List KC}{i:Nat}{is:List Nat}{s:RS}{o:Oper}{mask:Nat}{f:RS→Sc→W}{v:Value}{h:AH}{k:Sc}
  (hok:okOps P o=true) (hm:maskOf s.masks i o.after.toList = .ok mask) (hb:orderOk ops o mask s.ents 0=true) (hw:wantedA ops s.tm o = .ok true) (hgo:Goes P (evA s.tm) o (withAl mask s.h s.al) v h) (hh:(opX P fr.n ops i o mask s f v h k).holds η P B fn K D) (ho:ops[i]? = some o)
  (ih:∀ s1,(f s1 k).holds η P B fn K D→RegGoX η P B fn h0 fr cs ki base ops c is s1 Q):RegGoX η P B fn h0 fr cs ki base ops c (i :: is) s Q:=by
 unfold opX at hh
 split at hh
 ·rename_i hk
  split at hh
  ·exact absurd hh fun h=>h
  ·rename_i hf
   obtain⟨hq,hh⟩:=hh
   have hh:=hh hq
   split at hh
   ·rename_i tm htm
    obtain⟨hr,e⟩:=hgo.read hk
    intro hc hoks
    obtain⟨L,m1,m2,m3,tm',h',hx,hrun⟩:=ih _ hh hc hoks
    refine⟨L,m1,m2,m3,tm',h',⟨o,_,ho,?_,hx⟩,hrun⟩
    unfold regStep
    simp only [bind_ok]
    refine⟨mask,hm,?_⟩
    rw [if_neg (by rw [hb];simp)]
    simp only [bind_ok]
    refine⟨true,hw,?_⟩
    rw [if_neg (by simp),if_neg (by rw [hok];simp),hk]
    simp only [bind_ok]
    refine⟨v,hr,?_⟩
    rw [if_neg (by rw [sameQ_ok (by simpa using hf) hq];simp)]
    simp only [bind_ok]
    exact⟨tm,htm,rfl⟩
   ·exact absurd hh fun h=>h
 ·exact absurd hh fun h=>h
 ·rename_i hk
  split at hh
  ·exact absurd hh fun h=>h
  ·rename_i hf
   obtain⟨hq,hh⟩:=hh
   have hh:=hh hq
   split at hh
   ·rename_i tm htm
    intro hc hoks
    obtain⟨L,m1,m2,m3,tm',h',hx,hrun⟩:=ih _ hh hc hoks
    refine⟨L,m1,m2,m3,tm',h',⟨o,_,ho,?_,hx⟩,hrun⟩
    unfold regStep
    simp only [bind_ok]
    refine⟨mask,hm,?_⟩
    rw [if_neg (by rw [hb];simp)]
    simp only [bind_ok]
    refine⟨true,hw,?_⟩
    rw [if_neg (by simp),if_neg (by rw [hok];simp),hk]
    simp only
    rw [if_neg hf]
    simp only [bind_ok]
    have hx:∀ {r:AN × AH},execA P (evA s.tm) o (withAl mask s.h s.al) = .ok r→effA P (evA s.tm) o (withAl mask s.h s.al) = .ok r:=by
     intro r hr
     unfold execA at hr
     rw [ite_no,hk] at hr
     exact hr.2
    refine⟨(v,h),?_,?_⟩
    ·unfold effRun
     rcases hgo with hg | ⟨hg,e⟩
     ·simp only [hx hg,bind,Except.bind]
     ·rw [e];simp only [hx hg,bind,Except.bind]
    ·rw [if_neg (by rw [stillQ_ok hq];simp)]
     simp only [bind_ok]
     exact⟨tm,htm,rfl⟩
   ·exact absurd hh fun h=>h
theorem walkX_ok{fn:FuncId}{h0:AH}{K:List Nat→AS→Prop}{D:Value→AH→Prop}{Q:Value→AH→Prop}{kS:Sc→AS→W}{fr:AF}{cs:List AF}{ki:List Item}{base:Nat}{ops:List Oper}
  (hS:∀ sc s,(kS sc s).holds η P B fn K D→Run η P B fn h0 s Q):∀ (u:Nat) (c:List KC) (is:List Nat) (s:RS) (sc:Sc),(walkX P kS fr cs ki base ops u c is s sc).holds η P B fn K D→RegGoX η P B fn h0 fr cs ki base ops c is s Q:=by
 intro u
 induction u with
 | zero=>intro c is s sc h;exact absurd h (by unfold walkX;exact fun h=>h)
 | succ u ih=>
  intro c is s sc h
  cases sc with
  | steps n k=>
   unfold walkX at h
   split at h
   ·rename_i p is' s' hs
    obtain⟨hp,h⟩:=h
    intro hc ho
    obtain⟨L,m1,m2,m3,tm',h',hq,hr⟩:=ih c is' s' k (h hp) hc ho
    exact⟨L,m1,m2,m3,tm',h',runX_ok n hs hp hq,hr⟩
   ·exact absurd h fun h=>h
  | bit d a b=>
   unfold walkX at h
   split at h
   ·rename_i x hx
    cases x with
    | true=>
     have g:=ih c is _ a (h.1 rfl)
     rw [T.set_same hx] at g
     exact g
    | false=>
     have g:=ih c is _ b (h.2 rfl)
     rw [T.set_same hx] at g
     exact g
   ·exact absurd h fun h=>h
  | op k=>
   cases is with
   | nil=>exact absurd h (by unfold walkX;exact fun h=>h)
   | cons i is=>
   unfold walkX at h
   split at h
   ·rename_i o ho
    split at h
    ·rename_i mask hm
     split at h
     ·exact absurd h fun h=>h
     ·rename_i hb
      split at h
      ·rename_i p kt hw hop
       obtain⟨hp,h⟩:=h
       obtain⟨v1,h1,hs,hgo⟩:=opW_ok hop hp
       obtain⟨k',hh⟩:=walkK_sat (h hp) hs
       exact opX_ok (okOps_of_opW hop) hm hb hw hgo hh ho fun s1=>ih c is s1 k'
      ·exact absurd h fun h=>h
      ·exact absurd h fun h=>h
    ·exact absurd h fun h=>h
   ·exact absurd h fun h=>h
  | opT k=>
   cases is with
   | nil=>exact absurd h (by unfold walkX;exact fun h=>h)
   | cons i is=>
   unfold walkX at h
   split at h
   ·rename_i o ho
    split at h
    ·rename_i mask hm
     split at h
     ·exact absurd h fun h=>h
     ·rename_i hb
      split at h
      ·rename_i p kt hw hop
       obtain⟨hp,h⟩:=h
       obtain⟨v1,h1,hs,hgo⟩:=opT_ok hop hp
       obtain⟨k',hh⟩:=walkK_sat (h hp) hs
       exact opX_ok (okOps_of_opT hop) hm hb hw hgo hh ho fun s1=>ih c is s1 k'
      ·exact absurd h fun h=>h
      ·exact absurd h fun h=>h
    ·exact absurd h fun h=>h
   ·exact absurd h fun h=>h
  | call kt k=>
   cases is with
   | nil=>exact absurd h (by unfold walkX;exact fun h=>h)
   | cons i is=>
   unfold walkX at h
   split at h
   ·rename_i o ho
    split at h
    ·rename_i mask hm
     split at h
     ·exact absurd h fun h=>h
     ·rename_i hb
      simp only [Bool.and_eq_true] at hb
      obtain⟨hb1,hb2,hb3⟩:=hb
      split at h
      ·rename_i g args h1 hw hx hk
       split at h
       ·exact absurd h fun h=>h
       ·rename_i hcl
        obtain⟨hc,h⟩:=h
        obtain⟨k',⟨⟨q1,q2⟩,hh⟩⟩:=kt_sat h (KT.some_sat (by simpa using hcl))
        have hh:=hh ⟨q1,q2⟩
        split at hh
        ·rename_i tm htm
         intro hcs hoks
         have hnew:(⟨g,args,h1,kt.get.1,kt.get.2⟩:KC).okay η P B:=hc.mono fun v1 h2 hs=>by
          have:=KT.get_of hs
          rw [← this];exact⟨rfl,rfl⟩
         obtain⟨L,m1,m2,m3,tm',h',hq,hrun⟩:=ih (⟨g,args,h1,kt.get.1,kt.get.2⟩ :: c) _ _ k' hh (cons_cons hcs q1) (fun e he=>by
          rcases List.mem_cons.1 he with rfl | he
          ·exact hnew
          ·exact hoks e he)
         refine⟨L,fun e he=>m1 e (by simp [he]),m2,m3,tm',h',⟨o,_,ho,?_,hq⟩,hrun⟩
         unfold regStep
         simp only [bind_ok]
         refine⟨mask,hm,?_⟩
         rw [if_neg (by rw [hb1];simp)]
         simp only [bind_ok]
         refine⟨true,hw,?_⟩
         rw [if_neg (by simp),if_neg (by rw [hb2];simp),hk]
         simp only
         rw [if_neg (by rw [hb3];simp)]
         simp only [bind_ok]
         refine⟨kt.get,?_,?_⟩
         ·unfold effRun
          simp only [hx,bind,Except.bind]
          exact nestL_get m2 ⟨g,args,h1,kt.get.1,kt.get.2⟩ (m1 _ (by simp))
         ·rw [if_neg (by rw [stillQ_ok q2];simp)]
          simp only [bind_ok]
          exact⟨tm,htm,rfl⟩
        ·exact absurd hh fun h=>h
      ·exact absurd h fun h=>h
    ·exact absurd h fun h=>h
   ·exact absurd h fun h=>h
  | regX k=>
   cases is with
   | nil=>
    unfold walkX at h
    intro hcs hoks
    exact⟨c,fun e he=>he,hcs,hoks,s.tm,finalH s.h s.al,⟨rfl,rfl⟩,hS k _ h⟩
   | cons i is=>exact absurd h (by unfold walkX;exact fun h=>h)
  | reg k=>exact absurd h (by unfold walkX;exact fun h=>h)
  | regM q' k=>exact absurd h (by unfold walkX;exact fun h=>h)
  | regN q' k=>exact absurd h (by unfold walkX;exact fun h=>h)
  | regS k=>exact absurd h (by unfold walkX;exact fun h=>h)
  | both a b=>exact absurd h (by unfold walkX;exact fun h=>h)
  | stop a b=>exact absurd h (by unfold walkX;exact fun h=>h)
  | done a=>exact absurd h (by unfold walkX;exact fun h=>h)
theorem walk_ok(hη:OneCells η)(hmix:P.follows .mixedOrders=true){nest:Nest}(hreg:RegOk η P B nest){fn:FuncId}{h0:AH}{K:List Nat→AS→Prop}{D:Value→AH→Prop}
  (hK:∀ keep s,K keep s→RunD η P B fn h0 keep s (QF P h0.next D)):∀ (u:Nat) (sc:Sc) (s:AS),(∀ t,s.fr.n≤t→s.fr.tm.get t=none)→(walkS P nest h0.next u sc s).holds η P B fn K D→Run η P B fn h0 s (QF P h0.next D):=by
 intro u
 induction u with
 | zero=>intro sc s _ h;exact absurd h (by unfold walkS;exact fun h=>h)
 | succ u ih=>
  intro sc s hi h
  have hi':∀ (s':AS),(∀ (ρ0:Env) (w0:World) (ρ:Env) (fr:Frame) (cs:List Frame) (w:World) (cs0:List Frame),Pre η P ρ0 B h0 w0→Post η ρ0 B h0 w0 ρ s'.hp w→SR η P ρ B s' fr cs w→(∀ t,s'.fr.n≤t→s'.fr.tm.get t=none)):=by
   intro s' ρ0 w0 ρ fr cs w cs0 p0 p R
   exact R.fr.tm.2.1
    -- a run may assume what every state has
  have auto:∀ {s':AS} {Q:Value→AH→Prop},((∀ t,s'.fr.n≤t→s'.fr.tm.get t=none)→Run η P B fn h0 s' Q)→Run η P B fn h0 s' Q:=by
   intro s' Q k ρ0 w0 ρ fr cs w cs0 p0 p R
   exact k (hi' s' ρ0 w0 ρ fr cs w cs0 p0 p R) ρ0 w0 ρ fr cs w cs0 p0 p R
  cases sc with
  | steps n k=>
   unfold walkS at h
   split at h
   ·rename_i s' hs
    exact Run.steps hη hreg n hs (auto fun hi2=>ih k s' hi2 h)
   ·exact absurd h fun h=>h
  | bit d a b=>
   unfold walkS at h
   split at h
   ·rename_i x hx
    cases x with
    | true=>exact Run.anyTm (bind_get hx) (auto fun hi2=>ih a _ hi2 (h.1 rfl))
    | false=>exact Run.anyTm (bind_get hx) (auto fun hi2=>ih b _ hi2 (h.2 rfl))
   ·exact absurd h fun h=>h
  | op k=>
   unfold walkS at h
   split at h
   ·rename_i ops i rest rk hm ht
    split at h
    ·rename_i o ho
     split at h
     ·rename_i p kt hw hop
      obtain⟨hp,h⟩:=h
      have h:=h hp
      obtain⟨v,h',hsat,hgo⟩:=opW_ok hop hp
      obtain⟨k',hh⟩:=walkK_sat h hsat
      split at hh
      ·rename_i f2 hf
       obtain⟨f,cs,hpp⟩:=s
       simp only at hm ht hw hf hgo hh
       have hs:stepA P nest ⟨f,cs,hpp⟩ = .ok (.next ⟨f2,cs,h'⟩):=by
        rcases hgo with hx | ⟨hx,rfl⟩ <;>
        ·unfold stepA
         simp only [hm,ht,ho,hw,hx,afterA,hf,bind,Except.bind,if_true]
       exact .step hη hreg hs (auto fun hi2=>ih k' _ hi2 hh)
      ·exact absurd hh fun h=>h
     ·exact absurd h fun h=>h
     ·exact absurd h fun h=>h
    ·exact absurd h fun h=>h
   ·exact absurd h fun h=>h
  | opT k=>
   unfold walkS at h
   split at h
   ·rename_i ops i rest rk hm ht
    split at h
    ·rename_i o ho
     split at h
     ·rename_i p kt hw hop
      obtain⟨hp,h⟩:=h
      have h:=h hp
      obtain⟨v,h',hsat,hgo⟩:=opT_ok hop hp
      obtain⟨k',hh⟩:=walkK_sat h hsat
      split at hh
      ·rename_i f2 hf
       obtain⟨f,cs,hpp⟩:=s
       simp only at hm ht hw hf hgo hh
       have hs:stepA P nest ⟨f,cs,hpp⟩ = .ok (.next ⟨f2,cs,h'⟩):=by
        rcases hgo with hx | ⟨hx,rfl⟩ <;>
        ·unfold stepA
         simp only [hm,ht,ho,hw,hx,afterA,hf,bind,Except.bind,if_true]
       exact .step hη hreg hs (auto fun hi2=>ih k' _ hi2 hh)
      ·exact absurd hh fun h=>h
     ·exact absurd h fun h=>h
     ·exact absurd h fun h=>h
    ·exact absurd h fun h=>h
   ·exact absurd h fun h=>h
  | call kt k=>
   unfold walkS at h
   split at h
   ·rename_i ops i rest rk hm ht
    split at h
    ·rename_i o ho
     split at h
     ·rename_i g args h1 hw hx
      obtain⟨hc,h⟩:=h
      refine Run.call hη hm ht ho hw hx hc (fun v h' hsat=>?_)
      obtain⟨k',hh⟩:=walkK_sat h hsat
      split at hh
      ·rename_i f2 hf
       exact⟨f2,hf,auto fun hi2=>ih k' _ hi2 hh⟩
      ·exact absurd hh fun h=>h
     ·exact absurd h fun h=>h
    ·exact absurd h fun h=>h
   ·exact absurd h fun h=>h
  | both a b=>exact absurd h (by unfold walkS;exact fun h=>h)
  | reg k=>
   unfold walkS at h
   split at h
   ·rename_i id ops ki hm ht
    split at h
    ·rename_i hst
     obtain⟨nest2,hn2,ops',is',k',ht',tm',h',hq,hrun⟩:=walkR_ok (Q:=QF P h0.next D) (base:=s.hp.next) (fun sc s hh=>auto fun hi2=>ih sc s hi2 hh) u true k _ h
     simp only at ht'
     injection ht' with e1 e2
     injection e1 with e3 e4
     subst e2;subst e3;subst e4
     obtain⟨f,cs,hpp⟩:=s
     simp only at hm ht hq hrun hst
     have hs:stepA P nest2 ⟨f,cs,hpp⟩ = .ok (.next ⟨{ f with tm:=tm',todo:=ki },cs,h'⟩):=by
      unfold stepA
      simp only [hm,ht,Bool.not_true,Bool.false_eq_true,if_false,regionA_seq hst hq,bind,Except.bind]
     exact .step hη (regionA_ok hη hmix hn2) hs hrun
    ·exact absurd h fun h=>h
   ·exact absurd h fun h=>h
  | regS k=>
   unfold walkS at h
   split at h
   ·rename_i ident ops ki hm ht
    split at h
    ·rename_i hst
     split at h
     ·rename_i p tm h' hq
      obtain⟨hp,h⟩:=h
      have h:=h hp
      obtain⟨f,cs,hpp⟩:=s
      simp only at hm ht hq h
      have hr:=regionA_S (nest:=nest) hst hq hp
      have hs:stepA P nest ⟨f,cs,hpp⟩ = .ok (.next ⟨{ f with tm,todo:=ki },cs,h'⟩):=by
       unfold stepA
       simp only [hm,ht,hr,bind,Except.bind,Bool.not_true,Bool.false_eq_true,if_false]
      exact .step hη hreg hs (auto fun hi2=>ih k _ hi2 h)
     ·exact absurd h fun h=>h
    ·exact absurd h fun h=>h
   ·exact absurd h fun h=>h
  | regM q k=>
   unfold walkS at h
   split at h
   ·rename_i id ops ki hm ht
    split at h
    ·rename_i hst
     obtain⟨L,_,_,hL,ops',is',k',ht',tm',h',hq,hrun⟩:=walkM_ok (Q:=QF P h0.next D) (q:=q) (base:=s.hp.next) (fun sc s hh=>auto fun hi2=>ih sc s hi2 hh) u [] k _ h (fun _ _ h=>by cases h) (fun _ h=>by cases h)
     simp only at ht'
     injection ht' with e1 e2
     injection e1 with e3 e4
     subst e2;subst e3;subst e4
     obtain⟨f,cs,hpp⟩:=s
     simp only at hm ht hq hrun hst hL
     have hs:stepA P (nestL L) ⟨f,cs,hpp⟩ = .ok (.next ⟨{ f with tm:=tm',todo:=ki },cs,h'⟩):=by
      unfold stepA
      simp only [hm,ht,Bool.not_true,Bool.false_eq_true,if_false,regionA_M hst hq,bind,Except.bind]
     exact .step hη (regionA_ok hη hmix (nestL_ok hL)) hs hrun
    ·exact absurd h fun h=>h
   ·exact absurd h fun h=>h
  | regN q k=>
   unfold walkS at h
   split at h
   ·rename_i id ops ki hm ht
    split at h
    ·rename_i hst
     obtain⟨L,_,_,hL,ops',is',k',ht',tm',h',hq,hrun⟩:=walkN_ok (Q:=QF P h0.next D) (q:=q) (base:=s.hp.next) (fun sc s hh=>auto fun hi2=>ih sc s hi2 hh) u [] [] [] k _ h (fun _ _ h=>by cases h) (fun _ h=>by cases h)
     simp only at ht'
     injection ht' with e1 e2
     injection e1 with e3 e4
     subst e2;subst e3;subst e4
     obtain⟨f,cs,hpp⟩:=s
     simp only at hm ht hq hrun hst hL
     have hs:stepA P (nestL L) ⟨f,cs,hpp⟩ = .ok (.next ⟨{ f with tm:=tm',todo:=ki },cs,h'⟩):=by
      unfold stepA
      simp only [hm,ht,Bool.not_true,Bool.false_eq_true,if_false,regionA_N hst hq,bind,Except.bind]
     exact .step hη (regionA_ok hη hmix (nestL_ok hL)) hs hrun
    ·exact absurd h fun h=>h
   ·exact absurd h fun h=>h
  | regX k=>
   unfold walkS at h
   split at h
   ·rename_i id ops ki hm ht
    obtain⟨L,_,_,hL,tm',h',hq,hrun⟩:=walkX_ok (Q:=QF P h0.next D) (fun sc s hh=>auto fun hi2=>ih sc s hi2 hh) u [] _ _ k h (fun _ _ h=>by cases h) (fun _ h=>by cases h)
    obtain⟨f,cs,hpp⟩:=s
    simp only at hm ht hq hrun hL
    have hs:stepA P (nestL L) ⟨f,cs,hpp⟩ = .ok (.next ⟨{ f with tm:=tm',todo:=ki },cs,h'⟩):=by
     unfold stepA
     simp only [hm,ht,Bool.not_true,Bool.false_eq_true,if_false,regionA_X hq,bind,Except.bind]
    exact .step hη (regionA_ok hη hmix (nestL_ok hL)) hs hrun
   ·exact absurd h fun h=>h
  | stop keep rn=>
   cases rn with
   | none=>
    unfold walkS at h
    have hd:=hK _ _ h
    refine hd s.fr.tm hi (fun t ht=>?_)
    show inT s.fr.tm t=inT (canonT keep s.fr.tm s.fr.n) t
    unfold inT
    rw [canonT_get]
    by_cases hlt:t<s.fr.n
    ·rw [if_pos hlt,if_pos ht];rfl
    ·rw [if_neg hlt,hi t (by omega)]
   | some rn=>
    unfold walkS at h
    split at h
    ·rename_i s' p hr
     obtain⟨hp,h⟩:=h
     exact RunD.renS hη hr hp (hK _ _ (h hp))
    ·exact absurd h fun h=>h
  | done rn=>
   unfold walkS at h
   split at h
   ·rename_i f v h' hs
    cases rn with
    | none=>
     obtain⟨hf,hd⟩:=h
     exact Run.doneQ hη hreg hs hf (.inl hd)
    | some rn=>
     simp only at h
     split at h
     ·rename_i hg
      split at h
      ·rename_i v' t p hv hh
       obtain⟨hp,h⟩:=h
       obtain⟨hf,hd⟩:=h hp
       have hgd:=hg
       simp only [Rn.good,Bool.and_eq_true,decide_eq_true_eq] at hgd
       refine Run.doneQ hη hreg hs hf (.inr ⟨v',⟨t,rn.N⟩,rn.sg h0.next,ren_emb hg hh hp,hgd.1.1.1.1.2,fun r hr=>by unfold Rn.sg;rw [if_pos hr],renV_ok (rn.tf_ok hg) 50 hv,hd⟩)
      ·exact absurd h fun h=>h
     ·exact absurd h fun h=>h
   ·exact absurd h fun h=>h
   ·exact absurd h fun h=>h
end Go.Ev

namespace Go.Ev
open Go
variable {η:Nat→Value} {P:Program} {B:Bd}
def W.kts:W→List KT
 | .ite _ x y=>x.kts ++ y.kts
 | .need _ x=>x.kts
 | .know _ x=>x.kts
 | .call _ _ _ k x=>k :: x.kts
 | _=>[]
def kN:KT:=.ret .nilFunc ⟨.nil,0⟩
def Sc.fill:Sc→List KT→Sc × List KT
 | .steps n k,l=>match k.fill l with | (k,l)=>(.steps n k,l)
 | .bit d a b,l=>match a.fill l with | (a,l)=>match b.fill l with | (b,l)=>(.bit d a b,l)
 | .both a b,l=>match a.fill l with | (a,l)=>match b.fill l with | (b,l)=>(.both a b,l)
 | .op k,l=>match k.fill l with | (k,l)=>(.op k,l)
 | .opT k,l=>match k.fill l with | (k,l)=>(.opT k,l)
 | .reg k,l=>match k.fill l with | (k,l)=>(.reg k,l)
 | .regM q k,l=>match k.fill l with | (k,l)=>(.regM q k,l)
 | .regN q k,l=>match k.fill l with | (k,l)=>(.regN q k,l)
 | .regS k,l=>match k.fill l with | (k,l)=>(.regS k,l)
 | .regX k,l=>match k.fill l with | (k,l)=>(.regX k,l)
 | .call _ k,x :: l=>match k.fill l with | (k,l)=>(.call x k,l)
 | .call x k,[]=>(.call x k,[])
 | .stop a b,l=>(.stop a b,l)
 | .done a,l=>(.done a,l)
theorem walk_okT(hη:OneCells η)(hmix:P.follows .mixedOrders=true){nest:Nest}(hreg:RegOk η P B nest){fn:FuncId}{h0:AH}{D:Value→AH→Prop}{w:W}(sc:Sc)(s:AS)
  (hi:tmOk s.fr.n s.fr.tm 1 0=true) (h:w.holds η P B fn (fun kp st=>RunD η P B fn h0 kp st (QF P h0.next D)) D)
  (e:walkS P nest h0.next 10000 (sc.fill w.kts).1 s=w):Run η P B fn h0 s (QF P h0.next D):=
 walk_ok hη hmix hreg (fun _ _ k=>k) 10000 (sc.fill w.kts).1 s (tmOk_get hi) (Eq.mpr (congrArg (W.holds η P B fn _ D) e) h)
end Go.Ev

namespace Go.Ev
def isTrue:Except String (Value × AH)→Bool
 | .ok (.bool true,_)=>true
 | _=>false
theorem isTrue_ok{r:Except String (Value × AH)}(h:isTrue r=true):∃ h',r = .ok (.bool true,h'):=by
 unfold isTrue at h
 split at h
 ·exact⟨_,rfl⟩
 ·cases h
def opq(n:Nat):List Value:=(List.range n).map fun i=>.chan (some i)
end Go.Ev

namespace Go.Ev
variable {η:Nat→Value} {P:Program} {B:Bd}
theorem Pre.drop{ρ:Env}{h:AH}{w:World}(p:Pre η P ρ B h w){o:T AObj}(hs:∀ r a,o.get r=some a→h.objs.get r=some a):Pre η P ρ B ⟨o,h.next⟩ w:=
 ⟨⟨fun r a g=>p.hr.obj r a (hs r a g),fun r r' a a' b d n d' n' h1 h2=>p.hr.inj r r' a a' b d n d' n' (hs _ _ h1) (hs _ _ h2),fun r a b d n h1=>p.hr.sh r a b d n (hs _ _ h1)⟩,p.fresh,p.glob,p.low⟩
theorem Post.drop{ρ ρ':Env}{h h':AH}{w w':World}(p:Post η ρ B h w ρ' h' w'){o:T AObj}(hs:∀ r a,o.get r=some a→h'.objs.get r=some a):Post η ρ B h w ρ' ⟨o,h'.next⟩ w':=
 ⟨p.le,p.old,p.fresh,p.next,⟨fun r a g=>p.hr.obj r a (hs r a g),fun r r' a a' b d n d' n' h1 h2=>p.hr.inj r r' a a' b d n d' n' (hs _ _ h1) (hs _ _ h2),fun r a b d n h1=>p.hr.sh r a b d n (hs _ _ h1)⟩,p.fr,fun b ⟨r,a,d,n,h1,h2⟩=>p.own b ⟨r,a,d,n,hs _ _ h1,h2⟩,fun b ⟨r,a,d,n,h1,h2⟩=>p.inn b ⟨r,a,d,n,hs _ _ h1,h2⟩⟩
theorem Run.drop{fn:FuncId}{h0 h:AH}{f:AF}{cs:List AF}{Q:Value→AH→Prop}{o:T AObj}(hs:∀ r a,o.get r=some a→h.objs.get r=some a)(r:Run η P B fn h0 ⟨f,cs,⟨o,h.next⟩⟩ Q):Run η P B fn h0 ⟨f,cs,h⟩ Q:=by
 intro ρ0 w0 ρ fr cs' w cs0 p0 p R
 exact r ρ0 w0 ρ fr cs' w cs0 p0 (p.drop hs) ⟨R.fr,R.cs,R.pre.drop hs⟩
end Go.Ev

namespace Go.Ev
variable {η:Nat→Value} {P:Program} {B:Bd}
def sizeAt(W:World)(g:Nat):Nat:=match W.heap[g]? with
 | some (.cells C _ _)=>C.size
 | _=>0
def envL(P:Program)(W:World):Env:=fun r=>if r≤P.globals.size then some (r,0,sizeAt W r) else none
def TabAt(η:Nat→Value)(P:Program)(W:World)(x:Nat × TypeId × List Value):Prop:=
 x.1<P.globals.size∧∃ (C:Array Value) (fr:Nat × Nat),W.heap[x.1]? = some (.cells C x.2.1 fr)∧LR η (envL P W) x.2.2 C.toList
theorem TabAt.lits{W:World}{g:Nat}{t:TypeId}{z:Array Value}{name:String}{c:List Value}(hS:W.ShapedOpen P)(h0:((begin P (fun _ _=>0) default).world.heap[g]?).bind Obj.row? = some (z,t))(hg:g<P.globals.size)(hn:P.globalNamed name=some g)
  (hv:W.var? P name=some c.toArray) (hc:c.all bareV=true):TabAt η P W (g,t,c):=by
 obtain⟨cs,hh,_⟩:=hS.1 g z t hg h0
 unfold World.var? at hv
 rw [hn] at hv
 simp only [Option.bind_some,hh] at hv
 injection hv with hv
 refine⟨hg,cs,_,hh,?_⟩
 rw [hv]
 exact LR.bare hc
theorem TabAt.handle{W:World}{g:Nat}{t u ty:TypeId}{z:Array Value}{name:String}(hS:W.ShapedOpen P)(h0:((begin P (fun _ _=>0) default).world.heap[g]?).bind Obj.row? = some (z,t))(hg:g<P.globals.size)(hn:P.globalNamed name=some g)
  (hv:W.var? P name=some #[.iface u (.agg #[typeHandle P ty])]):TabAt η P W (g,t,[.iface u (.agg ⟨[.pointer (some ⟨P.globals.size,ty,none⟩)]⟩)]):=by
 obtain⟨cs,hh,_⟩:=hS.1 g z t hg h0
 unfold World.var? at hv
 rw [hn] at hv
 simp only [Option.bind_some,hh] at hv
 injection hv with hv
 refine⟨hg,cs,_,hh,?_⟩
 rw [hv]
 have hp:VR η (envL P W) (.pointer (some ⟨P.globals.size,ty,none⟩)) (typeHandle P ty):=by
  have:=VR.ptr (η:=η) (ρ:=envL P W) (r:=P.globals.size) (o:=ty) (b:=P.globals.size) (d:=0) (n:=sizeAt W P.globals.size) (by unfold envL;rw [if_pos (Nat.le_refl _)])
  rw [Nat.zero_add] at this
  exact this
 exact .cons (.iface _ (.agg' (.cons hp .nil))) .nil
end Go.Ev

namespace Go.Ev
variable {η:Nat→Value} {P:Program} {B:Bd}
def TabAtP(η:Nat→Value)(P:Program)(W:World)(x:Nat × TypeId × List Value):Prop:=
 x.1<P.globals.size∧∃ (C:Array Value),W.heap[x.1]? = some (.cells C x.2.1 (0,0))∧LR η (envL P W) x.2.2 C.toList
theorem TabAtP.lits{W:World}{g:Nat}{t:TypeId}{z:Array Value}{name:String}{c:List Value}(hS:W.ShapedOpen P)(h0:((begin P (fun _ _=>0) default).world.heap[g]?).bind Obj.row? = some (z,t))(hg:g<P.globals.size)(hn:P.globalNamed name=some g)
  (hv:W.var? P name=some c.toArray) (hc:c.all bareV=true):TabAtP η P W (g,t,c):=by
 obtain⟨cs,hh,_⟩:=hS.1 g z t hg h0
 unfold World.var? at hv
 rw [hn] at hv
 simp only [Option.bind_some,hh] at hv
 injection hv with hv
 refine⟨hg,cs,hh,?_⟩
 rw [hv]
 exact LR.bare hc
theorem TabAtP.opq{W:World}{g i:Nat}{t:TypeId}{z:Array Value}{name:String}(hS:W.ShapedOpen P)(h0:((begin P (fun _ _=>0) default).world.heap[g]?).bind Obj.row? = some (z,t))(hg:g<P.globals.size)(hn:P.globalNamed name=some g)
  (hv:W.var? P name=some #[η i]):TabAtP η P W (g,t,[.chan (some i)]):=by
 obtain⟨cs,hh,_⟩:=hS.1 g z t hg h0
 unfold World.var? at hv
 rw [hn] at hv
 simp only [Option.bind_some,hh] at hv
 injection hv with hv
 refine⟨hg,cs,hh,?_⟩
 rw [hv]
 exact .cons (.opq i) .nil
theorem Pre.row{ρ:Env}{h:AH}{w:World}(p:Pre η P ρ B h w){g:Nat}{ty:TypeId}{c:List Value}{own:Nat}(hg:g≤P.globals.size)(ho:h.objs.get g=some (.cells ty c true own)) :
  ∃ C:Array Value,w.heap[g]? = some (.cells C ty (0,0))∧C.toList.length=c.length∧∀ (i:Nat) (v:Value),c[i]? = some v→∃ x,C.toList[i]? = some x∧VR η ρ v x:=by
 obtain⟨b,d,n,o,h1,h2,⟨C,ty',lo,hi,rfl,k⟩,_⟩:=p.hr.obj g _ ho
 obtain⟨n',h3⟩:=p.glob g hg
 rw [h3] at h1
 injection h1 with h1
 injection h1 with e1 e2
 injection e2 with e2 e3
 subst e1;subst e2;subst e3
 obtain⟨rfl,rfl,_,hl⟩:=k.plain rfl
 obtain rfl:=k.ty
 refine⟨C,h2,?_,fun i v hv=>?_⟩
 ·have:=k.size;omega
 ·obtain⟨x,hx,hv⟩:=k.at_ i v hv
  exact⟨x,by rw [Nat.zero_add] at hx;exact hx,hv⟩
theorem Pre.lits{ρ:Env}{h:AH}{w:World}(p:Pre η P ρ B h w){g:Nat}{ty:TypeId}{name:String}{k:IntKind}{zs:List Int}{own:Nat}(hn:P.globalNamed name=some g)(hg:g≤P.globals.size)(ho:h.objs.get g=some (.cells ty (zs.map fun z=>Value.int k z) true own)) :
  Lib.TabIs P w name k zs:=by
 obtain⟨C,h1,h2,h3⟩:=p.row hg ho
 unfold Lib.TabIs World.var?
 rw [hn]
 simp only [Option.bind_some,h1]
 refine congrArg some ?_
 obtain⟨C⟩:=C
 congr 1
 refine List.ext_getElem? fun i=>?_
 cases hz:(zs.map fun z=>Value.int k z)[i]? with
 | none=>
  rw [List.getElem?_eq_none_iff] at hz ⊢
  simp only at h2
  omega
 | some v=>
  obtain⟨x,hx,hv⟩:=h3 i v hz
  simp only [List.getElem?_map,Option.map_eq_some_iff] at hz
  obtain⟨z,_,rfl⟩:=hz
  simp only at hx
  rw [hx,hv.int_inv]
theorem Pre.cell{ρ:Env}{h:AH}{w:World}(p:Pre η P ρ B h w){g i:Nat}{ty:TypeId}{own:Nat}(hg:g≤P.globals.size)(ho:h.objs.get g=some (.cells ty [.chan (some i)] true own)) :
  w.cell? ⟨g,0,none⟩=some (η i):=by
 obtain⟨C,h1,h2,h3⟩:=p.row hg ho
 obtain⟨x,hx,hv⟩:=h3 0 _ rfl
 unfold World.cell?
 simp only [h1]
 cases hv
 obtain⟨C⟩:=C
 simp only at hx
 simp [hx]
theorem CallSpec.ofCalls{f:FuncId}{args:List Value}{h:AH}{v:Value}(hx:∀ (ρ:Env) (args':Array Value) (w:World),LR η ρ args args'.toList→Pre η P ρ B h w→Calls P f args' w fun e w'=>∃ x,e = .returned x∧VR η ρ v x∧Go.RowKit.Below w.heap.size w w') :
  CallSpec η P B f args h (fun v' h'=>v'=v∧h'=h):=by
 intro ρ args' w cs hl p
 obtain⟨e,w',fr,⟨x,rfl,hv,hb⟩,hc,hf,hlv⟩:=hx ρ args' w hl p cs
 refine⟨v,h,ρ,fr,w',x,⟨rfl,rfl⟩,⟨fun _ _ h=>h,fun _ _=>rfl,p.fresh,Nat.le_refl _,⟨fun r a ha=>?_,p.hr.inj,p.hr.sh⟩,⟨hb.os,hb.tape,hb.output,hb.size,fun k hk _=>hb.block k hk⟩,fun _ h=>.inl h,fun _ h=>.inl h⟩,hv,hf,hlv,hc⟩
 obtain⟨b,d,n,o,h1,h2,h3,h4⟩:=p.hr.obj r a ha
 have hlt:b<w.heap.size:=by
  rcases Nat.lt_or_ge b w.heap.size with h | h
  ·exact h
  ·rw [Array.getElem?_eq_none h] at h2;cases h2
 exact⟨b,d,n,o,h1,by rw [hb.block b hlt];exact h2,h3,h4⟩
end Go.Ev

namespace Go.Ev
theorem rep_one(v:Value):∀ n,rep [v] n=List.replicate n v
 | 0=>rfl
 | n+1=>by rw [rep,rep_one v n,List.replicate_succ];rfl
theorem bytesV_len(l:List UInt8):(bytesV l).length=l.length:=by unfold bytesV;rw [List.length_map]
theorem bytesV_one(l:List UInt8):(bytesV l).all oneC=true:=by
 rw [List.all_eq_true];intro v hv;unfold bytesV at hv;obtain⟨b,_,rfl⟩:=List.mem_map.1 hv;rfl
theorem splice_all{c vs:List Value}(h:vs.length=c.length):splice c 0 vs=vs:=by
 unfold splice
 rw [List.take_zero,List.nil_append,Nat.zero_add,h,List.drop_length,List.append_nil]
theorem byte_back(b:UInt8):UInt8.ofNat ((b.toNat:Int)).toNat=b:=by rw [Int.toNat_natCast];exact UInt8.ofNat_toNat
theorem bytesOf_bytesV:∀ l:List UInt8,bytesOf (bytesV l) = .ok l
 | []=>rfl
 | b :: l=>by
  show bytesOf (.int .u8 b.toNat :: bytesV l)=_
  unfold bytesOf
  rw [bytesOf_bytesV l]
  show Except.ok (UInt8.ofNat ((b.toNat:Int)).toNat :: l)=_
  rw [byte_back]
theorem map_byteOf:∀ l:List UInt8,(bytesV l).map byteOf=l
 | []=>rfl
 | b :: l=>by
  show UInt8.ofNat ((b.toNat:Int)).toNat :: (bytesV l).map byteOf=_
  rw [map_byteOf l,byte_back]
theorem bytesIn_all(l:List UInt8):bytesIn (bytesV l) 0 l.length=l:=by
 unfold bytesIn
 rw [List.drop_zero,List.take_of_length_le (by rw [bytesV_len];exact Nat.le_refl _),map_byteOf]
theorem take_bytesV(l:List UInt8):List.take l.length (List.drop 0 (bytesV l))=bytesV l:=by
 rw [List.drop_zero,List.take_of_length_le (by rw [bytesV_len];exact Nat.le_refl _)]
end Go.Ev

namespace Go.Ev
open Go Go.Proofs Go.RowKit Go.Sort
variable {η:Nat→Value} {P:Program} {B:Bd}
theorem CallSpec.conv{f:FuncId}{args:List Value}{h:AH}{k k':KT}(c:CallSpec η P B f args h k.sat)(e:k=k'):CallSpec η P B f args h k'.sat:=e ▸ c
theorem CallSpec.bare(hη:OneCells η){f:FuncId}{args:List Value}{v:Value}{N:Nat}(hN:P.globals.size<N)(ha:∀ σ M,L2 (RV σ M true) args args)(hv:∀ σ M,RV σ M false v v)(hw:∀ σ M,RV σ M true v v)(c:CallSpec η P B f args (heapN N) fun v' _=>v'=v)(h:AH):CallSpec η P B f args h (KT.ret v h).sat:=by
 refine CallSpec.pure hη hN ha hv ?_ h
 refine c.forget hη ?_
 rintro v' h1 rfl hn
 exact⟨fun r=>r,_,heapN N,⟨rfl,rfl⟩,emb_nil hN fun _ _=>rfl,Nat.le_refl _,fun _ _=>rfl,hw _ _⟩
theorem l2_bare{σ:Nat→Nat}{N:Nat}{w:Bool}:∀ {l:List Value},(∀ v ∈ l,RV σ N w v v)→L2 (RV σ N w) l l
 | [],_=>.nil
 | v :: l,h=>.cons (h v (by simp)) (l2_bare fun x hx=>h x (by simp [hx]))
def withRow(h:AH)(ty:TypeId)(c:List Value)(p:Bool):AH:=⟨h.objs.set h.next (.cells ty c p 2),h.next+1⟩
theorem CallSpec.fresh(hη:OneCells η){f:FuncId}{args:List Value}{N:Nat}{mk:Nat→Value}{ty:TypeId}{c:List Value}{p:Bool}(hN:P.globals.size<N)(ha:∀ σ M,L2 (RV σ M true) args args)
  (hv:∀ (σ:Nat→Nat) (M r:Nat),r<M→RV σ M false (mk r) (mk (σ r))) (hc:∀ σ M,∀ v ∈ c,RV σ M false v v) (k:CallSpec η P B f args (heapN N) fun v h=>v=mk N∧h=withRow (heapN N) ty c p) (h:AH) :
  CallSpec η P B f args h fun v h1=>v=mk h.next∧h1=withRow h ty c p:=by
 refine k.frame (σ:=fun r=>r) hη (emb_nil hN fun _ _=>rfl) (ha _ _) ?_
 rintro v hs' ⟨rfl,rfl⟩ _
 have hsg:sg (fun r=>r) N h.next N=h.next:=by unfold sg;rw [if_neg (Nat.lt_irrefl _),Nat.sub_self];rfl
 refine⟨mk h.next,withRow h ty c p,⟨rfl,rfl⟩,?_,⟨?_,fun r a hr=>?_⟩⟩
 ·have:=hv (sg (fun r=>r) (heapN N).next h.next) (N+1) N (Nat.lt_succ_self _)
  rw [show(heapN N).next=N from rfl,hsg] at this
  exact this
 ·show h.next+1=h.next+(N+1 - N);omega
 ·unfold withRow at hr
  simp only [T.get_set] at hr
  by_cases e:r=h.next
  ·rw [if_pos e] at hr
   injection hr with hr
   subst hr
   refine .inl ⟨N,.cells ty c p 2,Nat.lt_succ_self _,by rw [show(heapN N).next=N from rfl,hsg,e],?_,?_⟩
   ·show((heapN N).objs.set N _).get N=_
    rw [T.get_set,if_pos rfl]
   ·exact .cells _ _ (l2_bare (hc _ _)) (.inl rfl)
  ·rw [if_neg e] at hr
   exact .inr (.inl ⟨hr,fun r0 a0 h0=>by cases h0⟩)
theorem lr_bare_inv{ρ:Env}:∀ {l m:List Value},(l.all fun v=>match v with | .string _ | .int _ _ | .bool _=>true | _=>false)=true→LR η ρ l m→m=l
 | [],m,_,h=>LR.inv_nil h
 | v :: l,m,hb,h=>by
  obtain⟨x,m',rfl,hv,hr⟩:=LR.inv_cons h
  simp only [List.all_cons,Bool.and_eq_true] at hb
  rw [lr_bare_inv hb.2 hr]
  congr 1
  cases v <;> first | exact hv.string_inv | exact hv.int_inv | exact hv.bool_inv | exact absurd hb.1 (by simp)
theorem args_inv{ρ:Env}{l:List Value}{a:Array Value}(hb:(l.all fun v=>match v with | .string _ | .int _ _ | .bool _=>true | _=>false)=true)(h:LR η ρ l a.toList):a=l.toArray:=by
 have:=lr_bare_inv hb h
 cases a;simp only at this;rw [this]
theorem below_drewN{B:Nat}{a w:World}(h:Below B a w)(n:Nat):Below B a (w.drewN n):=⟨h.os,h.tape,h.output,h.size,h.block⟩
theorem below_grow{B:Nat}{a w:World}(h:Below B a w)(hB:B≤w.heap.size)(os:Array Obj):Below B a (grow w os):=by
 refine h.trans ⟨rfl,rfl,rfl,by simp [grow],fun k hk=>?_⟩
 simp only [grow]
 rw [Array.getElem?_append_left (by omega)]
end Go.Ev

namespace Go.Ev
variable {η:Nat→Value} {P:Program} {B:Bd}
structure Row where
 ty:TypeId
 c:List Value
 b:Nat
 o:Nat
def objsR:List Row→Nat→T AObj
 | [],_=>.nil
 | x :: l,i=>(objsR l (i+1)).set i (.cells x.ty x.c false 0)
theorem objsR_get:∀ {l:List Row} {i r:Nat} {a:AObj},(objsR l i).get r=some a→i≤r∧∃ x,l[r - i]? = some x∧a = .cells x.ty x.c false 0
 | [],i,r,a,h=>by simp [objsR,T.get] at h
 | x :: l,i,r,a,h=>by
  unfold objsR at h
  rw [T.get_set] at h
  by_cases e:r=i
  ·rw [if_pos e] at h;cases h;subst e;exact⟨Nat.le_refl _,x,by simp,rfl⟩
  ·rw [if_neg e] at h
   obtain⟨h1,y,h2,h3⟩:=objsR_get h
   refine⟨by omega,y,?_,h3⟩
   rw [show r - i=(r - (i+1))+1 by omega,List.getElem?_cons_succ];exact h2
def heapR(l:List Row):AH:=⟨objsR l 126,126+l.length⟩
def sizeB(W:World)(b:Nat):Nat:=match W.heap[b]? with | some (.cells C _ _)=>C.size | _=>0
def envR(P:Program)(W:World)(l:List Row):Env:=fun r=>if 126≤r then(l[r - 126]?).map fun x=>(x.b,x.o,sizeB W x.b - x.o) else envL P W r
def RowAt(W:World)(x:Row):Prop:=∃ (C:Array Value) (lo hi:Nat),W.heap[x.b]? = some (.cells C x.ty (lo,hi))∧x.o+x.c.length≤C.size∧(∀ (i:Nat) (v:Value),x.c[i]? = some v→C.toList[x.o+i]? = some v)∧x.c.all bareV=true
def bdR(W:World):Bd:=⟨W.heap.size,fun b=>b<W.heap.size,fun _ h=>h⟩
set_option maxRecDepth 4000 in
theorem preR{W:World}{l:List Row}(hN:P.globals.size<126)(hl:∀ x ∈ l,RowAt W x):Pre η P (envR P W l) (bdR W) (heapR l) W:=by
 refine⟨⟨fun r a h=>?_,fun r r' a a' b d n d' n' h h' e e'=>?_,fun r a b d n h e hS=>?_⟩,fun r hr=>?_,fun g hg=>⟨sizeAt W g,?_⟩,Nat.le_refl _⟩
 ·obtain⟨h1,x,hx,rfl⟩:=objsR_get h
  obtain⟨C,lo,hi,hb,ho,hc,hbare⟩:=hl x (List.mem_of_getElem? hx)
  have hs:sizeB W x.b=C.size:=by unfold sizeB;rw [hb]
  refine⟨x.b,x.o,C.size - x.o,_,by unfold envR;rw [if_pos h1,hx,Option.map_some,hs],hb,⟨C,x.ty,lo,hi,rfl,⟨rfl,by show C.size=_;omega,by omega,fun i v hv=>⟨v,hc i v hv,?_⟩,(fun h=>by cases h),(fun h=>by cases h)⟩⟩,(fun h=>by cases h)⟩
  exact VR.bare (List.all_eq_true.1 hbare v (List.mem_of_getElem? hv))
 ·obtain⟨h1,x,hx,rfl⟩:=objsR_get h
  obtain⟨C,lo,hi,hb,_⟩:=hl x (List.mem_of_getElem? hx)
  unfold envR at e
  rw [if_pos h1,hx] at e
  simp only [Option.map_some,Option.some.injEq,Prod.mk.injEq] at e
  rw [e.1] at hb
  exact .inr (heap_lt hb)
 ·obtain⟨h1,x,hx,rfl⟩:=objsR_get h
  rfl
 ·have h:126+l.length≤r:=hr
  unfold envR;rw [if_pos (by omega),List.getElem?_eq_none (by omega)];rfl
 ·unfold envR envL;rw [if_neg (by omega),if_pos hg]
theorem CallSpec.trueR{f:FuncId}{args:List Value}{args':Array Value}{W:World}{l:List Row}(hN:P.globals.size<126)(hl:∀ x ∈ l,RowAt W x)
  (ha:LR η (envR P W l) args args'.toList) (k:CallSpec η P (bdR W) f args (heapR l) fun v _=>v = .bool true) :
  Calls P f args' W fun e w'=>e = .returned (.bool true)∧Go.RowKit.Below W.heap.size W w':=by
 have p:=preR (η:=η) (P:=P) hN hl
 refine(k.calls ha p).mono ?_
 rintro e w' ⟨v,h',ρ',x,rfl,rfl,hv,hp⟩
 exact⟨by rw [hv.bool_inv],p.hr.below hp.fr p.low⟩
theorem rv_bare{σ:Nat→Nat}{N:Nat}{w:Bool}:∀ {v:Value},bareV v=true→RV σ N w v v:=by
 intro v h
 cases v with
 | bool _=>exact .bool _
 | int _ _=>exact .int _ _
 | float _ _=>exact .float _ _
 | complex _ _ _=>exact .complex _ _ _
 | string _=>exact .string _
 | pointer a=>cases a with
  | none=>exact .ptr0
  | some a=>simp [bareV] at h
 | map a=>cases a with
  | none=>exact .map0
  | some a=>simp [bareV] at h
 | nilFunc=>exact .nilFunc
 | nilIface=>exact .nilIface
 | slice a l c=>cases a with
  | none=>exact .slice0 _ _
  | some a=>simp [bareV] at h
 | _=>simp [bareV] at h
theorem l2_bareV{σ:Nat→Nat}{N:Nat}{w:Bool}{l:List Value}(h:l.all bareV=true):L2 (RV σ N w) l l:=l2_bare fun v hv=>rv_bare (List.all_eq_true.1 h v hv)
def objsT:List (TypeId × List Value)→Nat→T AObj
 | [],_=>.nil
 | x :: l,i=>(objsT l (i+1)).set i (.cells x.1 x.2 false 0)
theorem objsT_get:∀ {l:List (TypeId × List Value)} {i r:Nat} {a:AObj},(objsT l i).get r=some a→i≤r∧∃ x,l[r - i]? = some x∧a = .cells x.1 x.2 false 0
 | [],i,r,a,h=>by simp [objsT,T.get] at h
 | x :: l,i,r,a,h=>by
  unfold objsT at h
  rw [T.get_set] at h
  by_cases e:r=i
  ·rw [if_pos e] at h;cases h;subst e;exact⟨Nat.le_refl _,x,by simp,rfl⟩
  ·rw [if_neg e] at h
   obtain⟨h1,y,h2,h3⟩:=objsT_get h
   refine⟨by omega,y,?_,h3⟩
   rw [show r - i=(r - (i+1))+1 by omega,List.getElem?_cons_succ];exact h2
theorem objsT_at:∀ {l:List (TypeId × List Value)} {i j:Nat} {x:TypeId × List Value},l[j]? = some x→(objsT l i).get (i+j)=some (.cells x.1 x.2 false 0)
 | [],i,j,x,h=>by simp at h
 | y :: l,i,0,x,h=>by
  simp at h;subst h
  unfold objsT;rw [T.get_set,if_pos (by omega)]
 | y :: l,i,j+1,x,h=>by
  unfold objsT
  rw [T.get_set,if_neg (by omega),show i+(j+1)=i+1+j by omega]
  exact objsT_at (by simpa using h)
def heapT(l:List (TypeId × List Value)):AH:=⟨objsT l 126,126+l.length⟩
def sigR(rn:Nat→Nat):Nat→Nat:=fun r=>if 126≤r then rn (r - 126) else r
def RowsIn(h:AH)(l:List (TypeId × List Value))(rn:Nat→Nat):Prop:=
 (∀ i x,l[i]? = some x→x.2.all bareV=true∧∃ own,h.objs.get (rn i)=some (.cells x.1 x.2 false own))∧(∀ i j,i<l.length→j<l.length→rn i=rn j→i=j)
theorem emb_rows{h:AH}{l:List (TypeId × List Value)}{rn:Nat→Nat}(hN:P.globals.size<126)(hr:RowsIn h l rn):Emb P (sigR rn) (heapT l) h:=by
 refine⟨fun g hg=>⟨by show g<126+l.length;omega,by unfold sigR;rw [if_neg (by omega)]⟩,fun r a ha=>?_,fun r r' a a' ha ha' he=>?_⟩
 ·obtain⟨h1,x,hx,rfl⟩:=objsT_get ha
  obtain⟨hb,own,ho⟩:=hr.1 _ x hx
  have hlt:=(List.getElem?_eq_some_iff.1 hx).1
  refine⟨by show r<126+l.length;omega,.cells x.1 x.2 false own,by unfold sigR;rw [if_pos h1];exact ho,.cells _ _ (l2_bareV hb) (.inr ⟨rfl,rfl⟩)⟩
 ·obtain⟨h1,x,hx,rfl⟩:=objsT_get ha
  obtain⟨h1',y,hy,rfl⟩:=objsT_get ha'
  unfold sigR at he
  rw [if_pos h1,if_pos h1'] at he
  have:=hr.2 _ _ (List.getElem?_eq_some_iff.1 hx).1 (List.getElem?_eq_some_iff.1 hy).1 he
  omega
theorem framed_old{h:AH}{l:List (TypeId × List Value)}{rn:Nat→Nat}{hs':AH}(hs:∀ r a,(heapT l).objs.get r=some a→hs'.objs.get r=some a){r:Nat}{a:AObj}(ha:h.objs.get r=some a) :
  (h.objs.get r=some a∧∀ r0 a0,(heapT l).objs.get r0=some a0→sigR rn r0 ≠ r)∨(h.objs.get r=some a∧∃ r0 a0 a1,r0<(heapT l).next∧sigR rn r0=r∧(heapT l).objs.get r0=some a0∧ownO a0=false∧hs'.objs.get r0=some a1):=by
 by_cases hq:∃ i,i<l.length∧rn i=r
 ·obtain⟨i,hi,e⟩:=hq
  refine .inr ⟨ha,126+i,_,_,by show 126+i<126+l.length;omega,by unfold sigR;rw [if_pos (by omega),show 126+i - 126=i by omega,e],objsT_at (List.getElem?_eq_getElem hi),rfl,hs _ _ (objsT_at (List.getElem?_eq_getElem hi))⟩
 ·refine .inl ⟨ha,fun r0 a0 h0 e=>hq ?_⟩
  obtain⟨h1,x,hx,_⟩:=objsT_get h0
  unfold sigR at e
  rw [if_pos h1] at e
  exact⟨r0 - 126,(List.getElem?_eq_some_iff.1 hx).1,e⟩
theorem CallSpec.pureR(hη:OneCells η){f:FuncId}{args args':List Value}{l:List (TypeId × List Value)}{rn:Nat→Nat}{h:AH}{v:Value}(hN:P.globals.size<126)(hr:RowsIn h l rn)(ha:L2 (RV (sigR rn) (126+l.length) true) args args')(hv:∀ σ M,RV σ M false v v)
  (c:CallSpec η P B f args (heapT l) fun v1 h1=>v1=v∧h1=heapT l):CallSpec η P B f args' h fun v1 h1=>v1=v∧h1=h:=by
 refine c.frame (σ:=sigR rn) hη (emb_rows hN hr) ha ?_
 rintro v1 hs' ⟨rfl,rfl⟩ _
 exact⟨v1,h,⟨rfl,rfl⟩,hv _ _,⟨by simp,fun r a hr=>.inr (framed_old (fun _ _ h=>h) hr)⟩⟩
theorem CallSpec.freshR(hη:OneCells η){f:FuncId}{args args':List Value}{l:List (TypeId × List Value)}{rn:Nat→Nat}{h:AH}{mk:Nat→Value}{ty:TypeId}{c:List Value}{p:Bool}(hN:P.globals.size<126)(hr0:RowsIn h l rn)(ha:L2 (RV (sigR rn) (126+l.length) true) args args')
  (hv:∀ (σ:Nat→Nat) (M r:Nat),r<M→RV σ M false (mk r) (mk (σ r))) (hc:c.all bareV=true) (k:CallSpec η P B f args (heapT l) fun v h1=>v=mk (126+l.length)∧h1=withRow (heapT l) ty c p) :
  CallSpec η P B f args' h fun v h1=>v=mk h.next∧h1=withRow h ty c p:=by
 refine k.frame (σ:=sigR rn) hη (emb_rows hN hr0) ha ?_
 rintro v hs' ⟨rfl,rfl⟩ _
 have hsg:sg (sigR rn) (126+l.length) h.next (126+l.length)=h.next:=by unfold sg;rw [if_neg (Nat.lt_irrefl _),Nat.sub_self];rfl
 refine⟨mk h.next,withRow h ty c p,⟨rfl,rfl⟩,?_,⟨?_,fun r a hr=>?_⟩⟩
 ·have:=hv (sg (sigR rn) (heapT l).next h.next) (126+l.length+1) (126+l.length) (Nat.lt_succ_self _)
  rw [show(heapT l).next=126+l.length from rfl,hsg] at this
  exact this
 ·show h.next+1=h.next+(126+l.length+1 - (126+l.length));omega
 ·unfold withRow at hr
  simp only [T.get_set] at hr
  by_cases e:r=h.next
  ·rw [if_pos e] at hr
   injection hr with hr
   subst hr
   refine .inl ⟨126+l.length,.cells ty c p 2,Nat.lt_succ_self _,by rw [show(heapT l).next=126+l.length from rfl,hsg,e],?_,?_⟩
   ·show((heapT l).objs.set (126+l.length) _).get (126+l.length)=_
    rw [T.get_set,if_pos rfl]
   ·exact .cells _ _ (l2_bareV hc) (.inl rfl)
  ·rw [if_neg e] at hr
   refine .inr (framed_old (fun r0 a0 h0=>?_) hr)
   have:=(emb_rows (P:=P) hN hr0).obj r0 a0 h0
   show((heapT l).objs.set (126+l.length) _).get r0=_
   rw [T.get_set,if_neg (by have:=this.1;change r0<126+l.length at this;omega)]
   exact h0
end Go.Ev

namespace Go.Ev
open Go Go.RowKit Go.ChangeShapes Go.WideShapes
variable {P:Program}
theorem has_of_slice'{w:World}{r:Reach}{b0:Nat}{t e:TypeId}{a:Addr}{n c:Nat}(hu:P.underlying t=some (.slice e))(h:Value.okWide P w r b0 t (.slice (some a) n c)):w.has P r b0 a e c:=by
 simp only [Value.okWide,hu,Cell.okWide,Cell.ok] at h
 exact h.2.2
theorem cells_slice'(p:Option Addr)(n c:Nat):(Value.slice p n c).cells.toList=[.slice p n c]:=rfl
theorem notU{c:Nat}(h:c≤maxLen):isU c=false:=by
 have:maxLen<9223372036854775808:=by decide
 unfold isU capB
 exact decide_eq_false (by omega)
theorem row_at{W:World}{b o:Nat}{C:Array Value}{ty:TypeId}{lo hi:Nat}{c:List Value}(hb:W.heap[b]? = some (.cells C ty (lo,hi)))(hc:∀ (i:Nat) (v:Value),c[i]? = some v→W.cell? ⟨b,o+i,none⟩=some v)(hbare:c.all bareV=true)(hne:c ≠ []):RowAt W ⟨ty,c,b,o⟩:=by
 have hall:∀ (i:Nat) (v:Value),c[i]? = some v→C[o+i]? = some v:=by
  intro i v hv
  have h:=hc i v hv
  unfold World.cell? at h
  simp only [hb,Option.isSome_none,Bool.false_eq_true,if_false] at h
  exact h
 refine⟨C,lo,hi,hb,?_,fun i v hv=>by simpa using hall i v hv,hbare⟩
 have hl:0<c.length:=List.length_pos_iff.2 hne
 have:=hall (c.length - 1) (c[c.length - 1]'(by omega)) (List.getElem?_eq_getElem (by omega))
 have:=(Array.getElem?_eq_some_iff.1 this).1
 show o+c.length≤C.size
 omega
end Go.Ev

namespace Go.Ev
open Go Go.Proofs
variable {η:Nat→Value} {P:Program} {B:Bd}
inductive SameO:AObj→AObj→Prop
 | cells {ty:TypeId} {c:List Value} {own:Nat} (hb:c.all bareV=true):SameO (.cells ty c false 0) (.cells ty c false own)
 | map {es:List MapEntry} {cl:Nat} {own:Bool} (hb:(es.all fun e=>bareV e.key && bareV e.val)=true):SameO (.map es cl false) (.map es cl own)
theorem SameO.own{a a':AObj}(k:SameO a a'):ownO a=false:=by cases k <;> rfl
def objsO:List AObj→Nat→T AObj
 | [],_=>.nil
 | x :: l,i=>(objsO l (i+1)).set i x
theorem objsO_get:∀ {l:List AObj} {i r:Nat} {a:AObj},(objsO l i).get r=some a→i≤r∧l[r - i]? = some a
 | [],i,r,a,h=>by simp [objsO,T.get] at h
 | x :: l,i,r,a,h=>by
  unfold objsO at h
  rw [T.get_set] at h
  by_cases e:r=i
  ·rw [if_pos e] at h;subst e;exact⟨Nat.le_refl _,by rw [Nat.sub_self];exact h⟩
  ·rw [if_neg e] at h
   obtain⟨h1,h2⟩:=objsO_get h
   exact⟨by omega,by rw [show r - i=(r - (i+1))+1 by omega,List.getElem?_cons_succ];exact h2⟩
theorem objsO_at:∀ {l:List AObj} {i j:Nat} {x:AObj},l[j]? = some x→(objsO l i).get (i+j)=some x
 | [],_,_,_,h=>by simp at h
 | y :: l,i,0,x,h=>by
  unfold objsO;rw [T.get_set,if_pos (by omega)];exact h
 | y :: l,i,j+1,x,h=>by
  unfold objsO;rw [T.get_set,if_neg (by omega),show i+(j+1)=i+1+j by omega]
  exact objsO_at (by simpa using h)
def heapO(l:List AObj):AH:=⟨objsO l 126,126+l.length⟩
end Go.Ev

/- Hashes of bytes (FNV-1a): what the functions return. -/
namespace Go.Ev
namespace FN
def stp(k:IntKind)(f h x:Int):Int:=k.wrap (k.wrap (((BitVec.ofInt k.bits h ^^^ BitVec.ofInt k.bits (k.wrap x)).toNat:Nat):Int) * f)
def fnvC(k:IntKind)(f:Int)(c:List Value):Nat→Nat→Int→Int
 | 0,_,h=>h
 | n+1,o,h=>fnvC k f c n (o+1) (stp k f h (intAt c o))
def fnv(k:IntKind)(f:Int)(c:List Value)(o n:Nat)(h:Int):Int:=fnvC k f c n o h
end FN
end Go.Ev

/- Rings of backends: what the functions return. -/
namespace Go.Ev
namespace RG
def noNB(s:List UInt8):Bool:=s.any (fun c=>c<33 || 126<c) || s.isEmpty || decide (32<s.length)
def noW(w:Int):Bool:=decide (w<0) || decide (20<w)
def fstIx(p:Nat→Bool):Nat→Nat→Int
 | 0,_=>-1
 | m+1,i=>if p i then(i:Int) else fstIx p m (i+1)
def badW(c:List Value)(o n:Nat):Int:=fstIx (fun i=>noW (intAt c (o+i))) n 0
def badN(c:List Value)(o n:Nat):Int:=fstIx (fun i=>noNB (strAt c (o+i))) n 0
def ixS(c:List Value)(s:List UInt8)(o n:Nat):Int:=fstIx (fun i=>s == strAt c (o+i)) n 0
def twiF(c:List Value)(o:Nat):Nat→Nat→Bool
 | 0,_=>false
 | m+1,i=>if 0≤ixS c (strAt c (o+i)) o i then true else twiF c o m (i+1)
def twi(c:List Value)(o n:Nat):Bool:=twiF c o n 0
def cntF(c:List Value)(k:Int)(o:Nat):Nat→Nat→Int→Int
 | 0,_,a=>a
 | m+1,i,a=>cntF c k o m (i+1) (IntKind.i64.wrap (a+IntKind.i64.wrap (intAt c (o+i) * k)))
def cnt(c:List Value)(k:Int)(o n:Nat):Int:=cntF c k o n 0 0
def cmpI(a b:Int):Int:=if a<b then -1 else if b<a then 1 else 0
def orI(x y:Int):Int:=if x=0 then y else x
def cmpP(p q:Int × Int):Int:=orI (cmpI p.1 q.1) (cmpI p.2 q.2)
def leP(p q:Int × Int):Bool:=!decide (cmpP q p<0)
def encP(p:Int × Int):List Value:=[.int .u32 p.1,.int .i64 p.2]
def ptV(l:List (Int × Int)):List Value:=l.flatMap encP
def ptsOf(c:List Value)(n:Nat):List (Int × Int):=(List.range n).map fun i=>(intAt c (i * 2),intAt c (i * 2+1))
def srtC(c:List Value)(n:Nat):List Value:=ptV ((ptsOf c n).mergeSort leP)
def dig(n:Int):List UInt8:=Lib.itoa n
def chkB(c:List Value)(o n:Nat)(c':List Value)(o' n':Nat)(k:Int):Int:=
 if n=0∨16<n then 3 else if n' ≠ n then 2 else if 0≤badW c' o' n'∨k<1∨100<k then 7 else if 0≤badN c o n then 6 else if twi c o n then 8 else if 4096<cnt c' k o' n' then 3 else 0
def hsB(s:List UInt8):Int:=FN.fnv .u32 16777619 (bytesV (s ++ [35])) 0 (s ++ [35]).length 2166136261
def hsP(b j:Int):Int:=FN.fnv .u32 16777619 (bytesV (dig j)) 0 (dig j).length b
def inn(b:Int)(i:Nat):Nat→Nat→List (Int × Int)
 | 0,_=>[]
 | m+1,j=>(hsP b (j:Int),(i:Int)) :: inn b i m (j+1)
def allP(c:List Value)(o:Nat)(c':List Value)(o':Nat)(k:Int):Nat→Nat→List (Int × Int)
 | 0,_=>[]
 | m+1,i=>inn (hsB (strAt c (o+i))) i (intAt c' (o'+i) * k).toNat 0 ++ allP c o c' o' k m (i+1)
def strR(c:List Value)(o:Nat):Nat→Nat→List Value
 | 0,_=>[]
 | m+1,i=>.string ⟨⟨strAt c (o+i)⟩⟩ :: strR c o m (i+1)
def cutI(c:List Value)(o n:Nat):List Value:=List.take n (List.drop o c)
def chkI(c:List Value)(o n:Nat)(c':List Value)(o' n':Nat)(k:Int):Int:=chkB c o n c' o' n' k
def ptsS(c:List Value)(o:Nat)(c':List Value)(o':Nat)(k:Int)(n:Nat):List (Int × Int):=(allP c o c' o' k n 0).mergeSort leP
def srtP(c:List Value)(o:Nat)(c':List Value)(o':Nat)(k:Int)(n:Nat):List Value:=ptV (ptsS c o c' o' k n)
def lenP(c:List Value)(o:Nat)(c':List Value)(o':Nat)(k:Int)(n:Nat):Nat:=(allP c o c' o' k n 0).length
def equB(c:List Value)(n:Nat)(d:List Value)(m:Nat):Bool:=decide (ptsOf c n=ptsOf d m)
def strC(c:List Value)(o n:Nat):List Value:=strR c o n 0
def cutC(c:List Value)(o n:Nat):List Value:=cutI c o n
def ckR(c:List Value)(o n:Nat)(c':List Value)(o' n':Nat)(k:Int)(l:List (Int × Int)):Int:=
 if chkI c o n c' o' n' k ≠ 0 then chkI c o n c' o' n' k else if l=ptsS c o c' o' k n then 0 else 6
def ckI(c:List Value)(o n:Nat)(c':List Value)(o' n':Nat)(k:Int)(c2:List Value)(m:Nat):Int:=ckR c o n c' o' n' k (ptsOf c2 m)
def ckZ(c:List Value)(o n:Nat)(c':List Value)(o' n':Nat)(k:Int):Int:=ckR c o n c' o' n' k []
def lbL(l:List (Int × Int))(x:Int):Nat:=(l.takeWhile fun p=>decide (p.1<x)).length
def lbN(c:List Value)(n:Nat)(x:Int):Nat:=lbL (ptsOf c n) x
def lbB(c:List Value)(n:Nat)(x:Int):Bool:=decide (lbN c n x<n) && (cmpI (intAt c (lbN c n x * 2)) x == 0)
def bknL(l:List (Int × Int))(x:Int):Int:=(l[if lbL l x=l.length then 0 else lbL l x]?.getD (0,0)).2
end RG
end Go.Ev

