/- HLvsC, part 6: what the proof needs, in the order of its texts. -/
import Derived.Test.YtecamcpifkibkaaDoorHLvsC5
import Derived.Shelf.SlSortCmp.NoneTotal
import Derived.Test.YtecamcpifkibkaaDoorShelf
import Derived.Test.YtecamcpifkibkaaDoorProg
import Derived.KernelRfl
set_option linter.unusedVariables false
set_option linter.unusedSimpArgs false
namespace Go.Ev
open Go Go.Proofs Go.Shelf Go.RowKit Go.Lib Go.Sort
variable {η:Nat→Value} {P:Program} {B:Bd}
def lit3(v:Value):Bool:=match v with | .string _ | .int _ _ | .bool _=>true | _=>false
theorem vr_lit3{ρ:Env}{v x:Value}(h:lit3 v=true)(k:VR η ρ v x):x=v:=by
 cases v <;> first | (simp [lit3] at h;done) | skip
 ·exact k.bool_inv
 ·exact k.int_inv
 ·exact k.string_inv
theorem vr_of_lit3{ρ:Env}{v:Value}(h:lit3 v=true):VR η ρ v v:=by
 cases v <;> first | (simp [lit3] at h;done) | skip
 ·exact .bool _
 ·exact .int _ _
 ·exact .string _
theorem one_of_lit3{v:Value}(h:lit3 v=true):v.oneCell'=true:=by
 cases v <;> first | rfl | simp [lit3] at h
theorem Post.ofBelow{ρ:Env}{h:AH}{w w':World}(p:Pre η P ρ B h w)(hb:Go.RowKit.Below w.heap.size w w'):Post η ρ B h w ρ h w':=by
 refine⟨fun _ _ h=>h,fun _ _=>rfl,p.fresh,Nat.le_refl _,⟨fun r a ha=>?_,p.hr.inj,p.hr.sh⟩,⟨hb.os,hb.tape,hb.output,hb.size,fun k hk _=>hb.block k hk⟩,fun _ h=>.inl h,fun _ h=>.inl h⟩
 obtain⟨b,d,n,o,h1,h2,h3,h4⟩:=p.hr.obj r a ha
 have hlt:b<w.heap.size:=by
  rcases Nat.lt_or_ge b w.heap.size with h | h
  ·exact h
  ·rw [Array.getElem?_eq_none h] at h2;cases h2
 exact⟨b,d,n,o,h1,by rw [hb.block b hlt];exact h2,h3,h4⟩
theorem grow_of_below{w w':World}(hb:Go.RowKit.Below w.heap.size w w')(hd:w.drawn≤w'.drawn):∃ q os,w'=Go.Sort.grow (w.drewN q) os:=by
 refine⟨w'.drawn - w.drawn,w'.heap.extract w.heap.size w'.heap.size,?_⟩
 obtain⟨hp,tp,dr,o,ou⟩:=w
 obtain⟨hp',tp',dr',o',ou'⟩:=w'
 obtain⟨h1,h2,h3,h4,h5⟩:=hb
 simp only at h1 h2 h3 h4 h5 hd ⊢
 subst h1;subst h2;subst h3
 unfold Go.Sort.grow World.drewN
 simp only [World.mk.injEq,true_and,and_true]
 refine⟨?_,by omega⟩
 refine Array.ext_getElem? fun i=>?_
 rw [Array.getElem?_append]
 by_cases hi:i<hp.size
 ·rw [if_pos hi,h5 i hi]
 ·rw [if_neg hi,Array.getElem?_extract]
  by_cases hi2:i<hp'.size
  ·rw [if_pos (by omega),show hp.size+(i - hp.size)=i by omega]
  ·rw [if_neg (by omega),Array.getElem?_eq_none (by omega)]
section
variable {α:Type} [Inhabited α]
theorem flatK_mem{enc:α→List Value}{k:Nat}(hk:∀ x,(enc x).length=k)(hb:∀ x,(enc x).all lit3=true)(d:Array α){t:Nat}(ht:t<d.size * k):lit3 (flatK enc k d)[t]! = true:=by
 rw [get_flatK _ _ _ t ht]
 have k0:0<k:=by
  rcases Nat.eq_zero_or_pos k with h | h
  ·subst h;omega
  ·exact h
 have hm:t % k<(enc d[t / k]!).length:=by rw [hk];exact Nat.mod_lt _ k0
 rw [getElem!_pos (enc d[t / k]!) (t % k) hm]
 exact List.all_eq_true.1 (hb _) _ (List.getElem_mem hm)
theorem cmp_lays{k:Nat}{enc:α→List Value}{cf:α→α→Int}{g:Nat}(hN:P.globals.size<126)(hb:∀ x,(enc x).all lit3=true)
  (hc:∀ (B:Bd) (x y:α),CallSpec η P B g [.agg (enc x).toArray,.agg (enc y).toArray] (heapR []) fun v _=>v = .int .i64 (cf x y)) (blk off size:Nat) (w:World):CmpLays P g #[] enc k cf blk off size w:=by
 intro m os dk hs x y
 generalize sortWorldK enc k w blk off m dk os=W
 have p:=preR (η:=η) (P:=P) (W:=W) (l:=[]) hN (fun x hx=>by cases hx)
 have lr:∀ z:α,VR η (envR P W []) (.agg (enc z).toArray) (.agg (enc z).toArray):=fun z=>.agg rfl fun i v x h1 h2=>by
  have h1:(enc z)[i]? = some v:=by simpa using h1
  have h2:(enc z)[i]? = some x:=by simpa using h2
  rw [h1] at h2;injection h2 with h2;subst h2
  exact vr_of_lit3 (List.all_eq_true.1 (hb z) v (List.mem_of_getElem? h1))
 have kc:=Go.Ev.Dr.calls ((hc (bdR W) x y).calls (args':=#[.agg (enc x).toArray,.agg (enc y).toArray]) (.cons (lr x) (.cons (lr y) .nil)) p)
 refine kc.mono ?_
 rintro e w' ⟨⟨v,h',ρ',z,rfl,rfl,hv,hp⟩,hd⟩
 have hbl:=p.hr.below hp.fr p.low
 exact⟨by rw [hv.int_inv],grow_of_below hbl (hd (by intro h;cases h))⟩
theorem CallSpec.sortK(hη:OneCells η){ρL:Ren}(L:SlLaysF0.n6 P ρL)(hN:P.globals.size<126)(k:Nat)(aE:∀ w,(isAgg (ρL.t 24)).run P w = .ok true w)(zE:∀ w,(Go.sizeOf (ρL.t 24)).run P w = .ok k w)(enc:α→List Value)(hk:∀ x,(enc x).length=k)(hb:∀ x,(enc x).all lit3=true)(cf:α→α→Int)(hO:SWO (ltOf cf))
  (hT:∀ x y,(ltOf cf) x y=false→(ltOf cf) y x=false→x=y) (g:Nat) (eg:∀ args w,(callFunc g args).run P w = .ok (.enter g args) w) (hc:∀ (B:Bd) (x y:α),CallSpec η P B g [.agg (enc x).toArray,.agg (enc y).toArray] (heapR []) fun v _=>v = .int .i64 (cf x y))
  {h:AH} {r cap:Nat} {ty:TypeId} {d:Array α} (hr:h.objs.get r=some (.cells ty (flatK enc k d).toList false 2)) (hsz:d.size<4611686018427387904) :
  CallSpec η P B (ρL.f 6) [.slice (some ⟨r,0,none⟩) d.size cap,.func (.func g) #[] #[]] h fun v h'=>v = .tuple #[]∧h'=putA h r (.cells ty (flatK enc k (d.toList.mergeSort fun x y=>!(ltOf cf) y x).toArray).toList false 2):=by
 intro ρ args' w cs hl p
 obtain⟨x1,m1,e1,v1,hl⟩:=hl.inv_cons
 obtain⟨x2,m2,rfl,v2,hl⟩:=hl.inv_cons
 have:=hl.inv_nil;subst this
 obtain⟨g',c',d',rfl,hg,l1,l2⟩:=v2.func_inv
 have hg':g' = .func g:=by cases hg;rfl
 subst hg'
 have ec:c'=#[]:=by have:=l1.inv_nil;exact Array.toList_inj.1 this
 have ed:d'=#[]:=by have:=l2.inv_nil;exact Array.toList_inj.1 this
 subst ec;subst ed
 obtain⟨b,dd,n,o,hρ,hw,hO2,hB⟩:=p.hr.obj r _ hr
 have hs:∃ c2,x1 = .slice (some ⟨b,dd,none⟩) d.size c2:=by
  cases v1 with
  | slice _ _ hq hu=>rw [hρ] at hq;cases hq;exact⟨_,rfl⟩
  | sliceU _ s c hq _ _ _ _=>rw [hρ] at hq;cases hq;exact⟨_,rfl⟩
 obtain⟨c2,rfl⟩:=hs
 obtain rfl:args'=#[.slice (some ⟨b,dd,none⟩) d.size c2,.func (.func g) #[] #[]]:=Array.toList_inj.1 e1
 obtain⟨C,ty',lo,hi,rfl,R⟩:=hO2
 have hty:=R.ty;subst hty
 have hlen:=R.len
 have hsize:=R.size
 simp only [Array.length_toList,size_flatK] at hlen hsize
 have hcell:∀ t,t<d.size * k→C[dd+t]? = some (flatK enc k d)[t]!:=fun t ht=>by
  have hv:(flatK enc k d).toList[t]? = some (flatK enc k d)[t]!:=by
   rw [Array.getElem?_toList,getElem!_pos _ t (by rw [size_flatK];exact ht),Array.getElem?_eq_getElem]
  obtain⟨x,hx,hvx⟩:=R.at_ t _ hv
  rw [vr_lit3 (flatK_mem hk hb d ht) hvx,Array.getElem?_toList] at hx
  exact hx
 have hH:HoldsK enc k w b dd d:=fun t ht=>by
  have ht:t<d.size * k:=by simpa using ht
  refine⟨?_,?_⟩
  ·unfold World.cell?
   simp only [hw,Option.isSome_none,Bool.false_eq_true,if_false]
   exact hcell t ht
  ·unfold World.frozen?
   have hf:=R.free rfl t (by omega)
   simp only [hw]
   simp only [Bool.and_eq_false_iff,decide_eq_false_iff_not]
   by_cases h1:lo≤dd+t
   ·exact .inr fun h2=>hf ⟨h1,h2⟩
   ·exact .inl h1
 have hlt:b<w.heap.size:=heap_lt hw
 have h1c:∀ x,∀ v ∈ enc x,v.oneCell'=true:=fun x v hv=>one_of_lit3 (List.all_eq_true.1 (hb x) v hv)
 obtain⟨e,w',fr,⟨rfl,n2,os,hw'⟩,hcs,hf,hlv⟩:=AnyQ.slices_SortFunc_total L k aE zE enc hk h1c cf hO g #[] b dd c2 d w eg (cmp_lays hN hb hc b dd d.size w) hH hlt hsz hT cs
 generalize hD:(d.toList.mergeSort fun x y=>!(ltOf cf) y x).toArray=D at hw' ⊢
 have hDs:D.size=d.size:=by rw [← hD,List.size_toArray,List.length_mergeSort,Array.length_toList]
 have hFs:(flatK enc k D).size=d.size * k:=by rw [size_flatK,hDs]
 have P1:=Post.put (o':=.cells (putCells id dd (flatK enc k D) C) ty' (lo,hi)) p hr rfl hρ rfl (a':=.cells ty' (flatK enc k D).toList false 2) ⟨_,_,_,_,rfl,⟨rfl,by simp [putCells,hsize],by rw [Array.length_toList,hFs];exact hlen,fun i v hv=>?_,fun q=>(by cases q),R.free⟩⟩
 ·have P2:=Post.ofBelow (w':=w') (p.post P1) ⟨by subst hw';rfl,by subst hw';rfl,by subst hw';rfl,by subst hw';simp [sortWorldK,putRowK,putRow,mapBlock,Go.Sort.grow,Go.Sort.ahead,wput],fun j hj=>?_⟩
  ·exact⟨.tuple #[],_,ρ,fr,w',.tuple #[],⟨rfl,rfl⟩,P1.trans P2,.tuple rfl (fun i v x h1 _=>by simp at h1),hf,hlv,hcs⟩
  ·have hj2:j<w.heap.size:=by simpa [wput] using hj
   subst hw'
   show((w.heap.modify b (onCells (putCells id dd (flatK enc k D)))) ++ os)[j]? = _
   rw [Array.getElem?_append,if_pos (by simpa using hj2),Array.getElem?_modify,wput_get]
   by_cases hbj:b=j
   ·subst hbj
    rw [if_pos rfl,if_pos ⟨rfl,hlt⟩,hw];rfl
   ·rw [if_neg hbj,if_neg (fun q=>hbj q.1.symm)]
 ·have hi:i<d.size * k:=by
   have:=(List.getElem?_eq_some_iff.1 hv).1
   rw [Array.length_toList,hFs] at this;exact this
  have hvv:v=(flatK enc k D)[i]!:=by
   rw [Array.getElem?_toList] at hv
   rw [getElem!_pos _ i (by rw [hFs];exact hi)]
   rw [Array.getElem?_eq_getElem (by rw [hFs];exact hi)] at hv
   exact(Option.some.inj hv).symm
  have hl3:lit3 v=true:=by rw [hvv];exact flatK_mem hk hb D (by rw [hDs];exact hi)
  refine⟨v,?_,vr_of_lit3 hl3⟩
  rw [Array.getElem?_toList]
  unfold putCells
  have hC:dd+i<C.size:=by rw [hsize];omega
  rw [Array.getElem?_mapIdx,Array.getElem?_eq_getElem hC,Option.map_some,if_pos ⟨by omega,by rw [hFs];omega⟩,Nat.add_sub_cancel_left,← hvv];rfl
end
end Go.Ev

/- Rings of backends: points sorted. -/
namespace Go.Ev
open Go Go.Proofs Go.Shelf Go.Sort
variable {η:Nat→Value} {B:Bd}
namespace RG
theorem orI_neg{x y:Int}:orI x y<0 ↔ x<0∨(x=0∧y<0):=by unfold orI;split <;> omega
theorem cmpI_neg{a b:Int}:cmpI a b<0 ↔ a<b:=by unfold cmpI;split <;> (try split) <;> omega
theorem cmpI_zero{a b:Int}:cmpI a b=0 ↔ a=b:=by unfold cmpI;split <;> (try split) <;> omega
theorem lt_iff(p q:Int × Int):cmpP p q<0 ↔ p.1<q.1∨(p.1=q.1∧p.2<q.2):=by
 unfold cmpP
 rw [orI_neg,cmpI_neg,cmpI_zero,cmpI_neg]
theorem ltP(p q:Int × Int):ltOf cmpP p q=true ↔ p.1<q.1∨(p.1=q.1∧p.2<q.2):=by
 unfold ltOf
 rw [decide_eq_true_eq,lt_iff]
theorem ltPf(p q:Int × Int):ltOf cmpP p q=false ↔ ¬ (p.1<q.1∨(p.1=q.1∧p.2<q.2)):=by
 unfold ltOf
 rw [decide_eq_false_iff_not,lt_iff]
theorem swoP:SWO (ltOf cmpP) where
 irrefl x:=by rw [ltPf];omega
 trans x y z h1 h2:=by rw [ltP] at *;omega
 ntrans x y z h1 h2:=by rw [ltPf] at *;omega
theorem totP(x y:Int × Int)(h1:ltOf cmpP x y=false)(h2:ltOf cmpP y x=false):x=y:=by
 rw [ltPf] at h1 h2
 obtain⟨a,b⟩:=x;obtain⟨c,d⟩:=y
 simp only at h1 h2
 rw [show a=c by omega,show b=d by omega]
theorem ptV_len(l:List (Int × Int)):(ptV l).length=l.length * 2:=by
 induction l with
 | nil=>rfl
 | cons x l ih=>unfold ptV at *;rw [List.flatMap_cons,List.length_append,ih];simp [encP];omega
theorem ptV_get(l:List (Int × Int)):∀ {i:Nat} (h:i<l.length),(ptV l)[i * 2]? = some (.int .u32 l[i].1)∧(ptV l)[i * 2+1]? = some (.int .i64 l[i].2):=by
 induction l with
 | nil=>intro i h;simp at h
 | cons x l ih=>
  intro i h
  have e:ptV (x :: l) = .int .u32 x.1 :: .int .i64 x.2 :: ptV l:=rfl
  rw [e]
  cases i with
  | zero=>exact⟨rfl,rfl⟩
  | succ i=>
   have:=ih (i:=i) (by simpa using h)
   rw [show(i+1) * 2=i * 2+1+1 by omega]
   exact this
theorem ptV_bare(l:List (Int × Int)):(ptV l).all bareV=true:=by
 rw [List.all_eq_true];intro v hv
 unfold ptV encP at hv
 rw [List.mem_flatMap] at hv
 obtain⟨x,_,hx⟩:=hv
 simp at hx
 rcases hx with rfl | rfl <;> rfl
theorem flat_ptV(l:List (Int × Int)):(flatK encP 2 l.toArray).toList=ptV l:=by
 refine List.ext_getElem? fun t=>?_
 by_cases h:t<l.length * 2
 ·have hd:t / 2<l.length:=by omega
  rw [Array.getElem?_toList,Array.getElem?_eq_getElem (by simpa using h),← getElem!_pos _ t (by simpa using h),get_flatK _ _ _ t (by simpa using h)]
  have e1:l.toArray[t / 2]! = l[t / 2]:=by simp [hd]
  rw [e1]
  obtain⟨g1,g2⟩:=ptV_get l hd
  rcases Nat.mod_two_eq_zero_or_one t with q | q
  ·have e2:t=t / 2 * 2:=by omega
   have e3:(ptV l)[t]? = some (.int .u32 l[t / 2].1):=(congrArg (fun k=>(ptV l)[k]?) e2).trans g1
   rw [q,e3];rfl
  ·have e2:t=t / 2 * 2+1:=by omega
   have e3:(ptV l)[t]? = some (.int .i64 l[t / 2].2):=(congrArg (fun k=>(ptV l)[k]?) e2).trans g2
   rw [q,e3];rfl
 ·rw [Array.getElem?_toList,Array.getElem?_eq_none (by simp;omega),List.getElem?_eq_none (by rw [ptV_len];omega)]
theorem ptsOf_ptV(l:List (Int × Int)):ptsOf (ptV l) l.length=l:=by
 refine List.ext_getElem? fun t=>?_
 unfold ptsOf
 rw [List.getElem?_map]
 by_cases h:t<l.length
 ·obtain⟨g1,g2⟩:=ptV_get l h
  rw [List.getElem?_range h,Option.map_some,List.getElem?_eq_getElem h]
  unfold intAt
  rw [g1,g2]
 ·rw [List.getElem?_eq_none (by simpa using h),List.getElem?_eq_none (by omega)];rfl
theorem leP_eq:(fun x y:Int × Int=>!(ltOf cmpP) y x)=leP:=by
 funext x y
 unfold leP ltOf;rfl
theorem sort_any(hη:OneCells η)(hmix:Tryd.prog.follows .mixedOrders=true){H:AH}{r cap:Nat}{ty:TypeId}{l:List (Int × Int)}(hr:H.objs.get r=some (.cells ty (ptV l) false 2))(hn:l.length≤1000000) :
  CallSpec η Tryd.prog B 42 [.slice (some ⟨r,0,none⟩) l.length cap,.func (.func 43) #[] #[]] H (KT.ret (.tuple ⟨[]⟩) ⟨H.objs.set r (.cells ty (ptV (l.mergeSort leP)) false 2),H.next⟩).sat:=by
 have k:=CallSpec.sortK (η:=η) (B:=B) (P:=Tryd.prog) hη Tryd.sortP FN.gs9 2 Tryd.isAgg55 Tryd.sizeOf55 encP (fun _=>rfl) (fun _=>rfl) cmpP swoP totP 43 (enters_of Tryd.func43 (by kernel_rfl) rfl)
  (fun B x y=>(cmpP_can hη hmix x.1 y.1 x.2 y.2)) (h:=H) (r:=r) (cap:=cap) (ty:=ty) (d:=l.toArray) (by rw [flat_ptV];exact hr) (by simp;omega)
 rw [leP_eq,flat_ptV] at k
 exact k
end RG
end Go.Ev

namespace Go.Ev
variable {η:Nat→Value} {P:Program} {B:Bd}
def objsRT(l:List Row):List (Nat × TypeId × List Value)→T AObj
 | []=>objsR l 126
 | x :: t=>(objsRT l t).set x.1 (.cells x.2.1 x.2.2 true 0)
theorem objsRT_get{l:List Row}:∀ {t:List (Nat × TypeId × List Value)} {r:Nat} {a:AObj},(objsRT l t).get r=some a→(∃ x ∈ t,x.1=r∧a = .cells x.2.1 x.2.2 true 0)∨(objsR l 126).get r=some a
 | [],r,a,h=>.inr h
 | x :: t,r,a,h=>by
  unfold objsRT at h
  rw [T.get_set] at h
  by_cases e:r=x.1
  ·rw [if_pos e] at h;cases h;exact .inl ⟨x,by simp,e.symm,rfl⟩
  ·rw [if_neg e] at h
   rcases objsRT_get h with⟨y,h1,h2⟩ | h1
   ·exact .inl ⟨y,by simp [h1],h2⟩
   ·exact .inr h1
def heapRT(t:List (Nat × TypeId × List Value))(l:List Row):AH:=⟨objsRT l t,126+l.length⟩
def bdRT(W:World)(t:List (Nat × TypeId × List Value)):Bd:=⟨W.heap.size,fun b=>b<W.heap.size∧∀ x ∈ t,x.1 ≠ b,fun _ h=>h.1⟩
set_option maxRecDepth 4000 in
theorem preRT{W:World}{l:List Row}{t:List (Nat × TypeId × List Value)}(hN:P.globals.size<126)(ht:∀ x ∈ t,TabAtP η P W x)(hl:∀ x ∈ l,RowAt W x)(hd:∀ x ∈ l,∀ y ∈ t,x.ty ≠ y.2.1):Pre η P (envR P W l) (bdRT W t) (heapRT t l) W:=by
 have tabE:∀ x ∈ t,envR P W l x.1=some (x.1,0,sizeAt W x.1):=fun x hx=>by
  have:=(ht x hx).1
  unfold envR envL;rw [if_neg (by omega),if_pos (Nat.le_of_lt this)]
 have rowE:∀ {r:Nat} {a:AObj},(objsR l 126).get r=some a→∃ x ∈ l,envR P W l r=some (x.b,x.o,sizeB W x.b - x.o)∧a = .cells x.ty x.c false 0:=fun {r a} h=>by
  obtain⟨h1,x,hx,rfl⟩:=objsR_get h
  exact⟨x,List.mem_of_getElem? hx,by unfold envR;rw [if_pos h1,hx];rfl,rfl⟩
 refine⟨⟨fun r a h=>?_,fun r r' a a' b d n d' n' h h' e e'=>?_,fun r a b d n h e hS=>?_⟩,fun r hr=>?_,fun g hg=>⟨sizeAt W g,?_⟩,Nat.le_refl _⟩
 ·rcases objsRT_get h with⟨x,hx,rfl,rfl⟩ | h
  ·obtain⟨h1,C,h2,h3⟩:=ht x hx
   have hs:sizeAt W x.1=C.size:=by unfold sizeAt;rw [h2]
   have hc:x.2.2.length=C.size:=h3.len
   refine⟨x.1,0,C.size,_,by rw [tabE x hx,hs],h2,⟨C,x.2.1,0,0,rfl,⟨rfl,by simp,by omega,fun i v hv=>?_,(fun _=>⟨rfl,rfl,rfl,hc⟩),(fun h=>by cases h)⟩⟩,(fun h=>by cases h)⟩
   obtain⟨y,hy,hv⟩:=h3.get hv
   refine⟨y,by rw [Nat.zero_add];exact hy,hv.mono fun k b hb=>?_⟩
   unfold envL at hb
   unfold envR envL
   split at hb
   ·rename_i hk
    rw [if_neg (by omega),if_pos hk];exact hb
   ·cases hb
  ·obtain⟨x,hx,he,rfl⟩:=rowE h
   obtain⟨C,lo,hi,hb,ho,hc,hbare⟩:=hl x hx
   have hs:sizeB W x.b=C.size:=by unfold sizeB;rw [hb]
   refine⟨x.b,x.o,C.size - x.o,_,by rw [he,hs],hb,⟨C,x.ty,lo,hi,rfl,⟨rfl,by show C.size=_;omega,by omega,fun i v hv=>⟨v,hc i v hv,?_⟩,(fun h=>by cases h),(fun h=>by cases h)⟩⟩,(fun h=>by cases h)⟩
   exact VR.bare (List.all_eq_true.1 hbare v (List.mem_of_getElem? hv))
 ·rcases objsRT_get h with⟨x,hx,rfl,rfl⟩ | h <;> rcases objsRT_get h' with⟨y,hy,rfl,rfl⟩ | h'
  ·rw [tabE x hx] at e;rw [tabE y hy] at e'
   injection e with e;injection e with e1 _
   injection e' with e';injection e' with e2 _
   exact .inl (e1.trans e2.symm)
  ·rw [tabE x hx] at e
   obtain⟨y,hy,he,rfl⟩:=rowE h'
   rw [he] at e'
   cases e
   injection e' with e';injection e' with e1 e2
   obtain⟨_,C,h2,_⟩:=ht x hx
   obtain⟨C2,lo,hi,hb,_⟩:=hl y hy
   rw [e1] at hb;rw [hb] at h2
   injection h2 with h2;injection h2 with _ h2
   exact absurd h2 (hd y hy x hx)
  ·rw [tabE y hy] at e'
   obtain⟨x,hx,he,rfl⟩:=rowE h
   rw [he] at e
   cases e'
   injection e with e;injection e with e1 e2
   obtain⟨_,C,h2,_⟩:=ht y hy
   obtain⟨C2,lo,hi,hb,_⟩:=hl x hx
   rw [e1] at hb;rw [hb] at h2
   injection h2 with h2;injection h2 with _ h2
   exact absurd h2 (hd x hx y hy)
  ·obtain⟨x,hx,he,rfl⟩:=rowE h
   rw [he] at e
   injection e with e;injection e with e1 e2
   obtain⟨C,lo,hi,hb,_⟩:=hl x hx
   rw [e1] at hb
   refine .inr ⟨heap_lt hb,fun y hy q=>?_⟩
   obtain⟨_,C2,h2,_⟩:=ht y hy
   rw [q,hb] at h2
   injection h2 with h2;injection h2 with _ h2
   exact hd x hx y hy h2
 ·rcases objsRT_get h with⟨x,hx,rfl,rfl⟩ | h
  ·rw [tabE x hx] at e
   cases e
   exact absurd rfl (hS.2 x hx)
  ·obtain⟨h1,x,hx,rfl⟩:=objsR_get h
   rfl
 ·have h:126+l.length≤r:=hr
  unfold envR;rw [if_pos (by omega),List.getElem?_eq_none (by omega)];rfl
 ·unfold envR envL;rw [if_neg (by omega),if_pos hg]
theorem CallSpec.trueRT{f:FuncId}{args:List Value}{args':Array Value}{W:World}{l:List Row}{t:List (Nat × TypeId × List Value)}(hN:P.globals.size<126)(ht:∀ x ∈ t,TabAtP η P W x)(hl:∀ x ∈ l,RowAt W x)(hd:∀ x ∈ l,∀ y ∈ t,x.ty ≠ y.2.1)
  (ha:LR η (envR P W l) args args'.toList) (k:CallSpec η P (bdRT W t) f args (heapRT t l) fun v _=>v = .bool true) :
  Calls P f args' W fun e w'=>e = .returned (.bool true)∧Go.RowKit.Below W.heap.size W w':=by
 have p:=preRT (η:=η) (P:=P) hN ht hl hd
 refine(k.calls ha p).mono ?_
 rintro e w' ⟨v,h',ρ',x,rfl,rfl,hv,hp⟩
 exact⟨by rw [hv.bool_inv],p.hr.below hp.fr p.low⟩
end Go.Ev

namespace Go.Ev
open Go
variable {η:Nat→Value} {P:Program} {B:Bd}
def HasT(h:AH)(tab:List (Nat × TypeId × List Value)):Prop:=∀ x ∈ tab,h.objs.get x.1=some (.cells x.2.1 x.2.2 true 0)
def flatV(v:Value):Bool:=bareV v || (match v with | .chan _=>true | _=>false)
def TabOk(P:Program)(tab:List (Nat × TypeId × List Value)):Prop:=∀ x ∈ tab,x.1≤P.globals.size∧x.2.2.all flatV=true
theorem rv_flat{σ:Nat→Nat}{N:Nat}{w:Bool}{v:Value}(h:flatV v=true):RV σ N w v v:=by
 unfold flatV at h
 rw [Bool.or_eq_true] at h
 rcases h with h | h
 ·exact rv_bare h
 ·cases v with
  | chan c=>exact .chan c
  | _=>cases h
theorem l2_flat{σ:Nat→Nat}{N:Nat}{w:Bool}{l:List Value}(h:l.all flatV=true):L2 (RV σ N w) l l:=l2_bare fun v hv=>rv_flat (List.all_eq_true.1 h v hv)
end Go.Ev

namespace Go.Ev
open Go
variable {η:Nat→Value} {P:Program} {B:Bd}
abbrev Tab:=List (Nat × TypeId × List Value)
def objsTT(l:List (TypeId × List Value)):Tab→T AObj
 | []=>objsT l 126
 | x :: t=>(objsTT l t).set x.1 (.cells x.2.1 x.2.2 true 0)
def heapTT(t:Tab)(l:List (TypeId × List Value)):AH:=⟨objsTT l t,126+l.length⟩
theorem objsTT_get{l:List (TypeId × List Value)}:∀ {t:Tab} {r:Nat} {a:AObj},(objsTT l t).get r=some a→(∃ x ∈ t,x.1=r∧a = .cells x.2.1 x.2.2 true 0)∨(objsT l 126).get r=some a
 | [],r,a,h=>.inr h
 | x :: t,r,a,h=>by
  unfold objsTT at h
  rw [T.get_set] at h
  by_cases e:r=x.1
  ·rw [if_pos e] at h;cases h;exact .inl ⟨x,by simp,e.symm,rfl⟩
  ·rw [if_neg e] at h
   rcases objsTT_get h with⟨y,h1,h2⟩ | h1
   ·exact .inl ⟨y,by simp [h1],h2⟩
   ·exact .inr h1
theorem emb_rowsW{h:AH}{l:List (TypeId × List Value)}{t:Tab}{rn:Nat→Nat}(hN:P.globals.size<126)(hk:TabOk P t)(ht:HasT h t)(hr:RowsIn h l rn)(hn:∀ i,i<l.length→P.globals.size<rn i):Emb P (sigR rn) (heapTT t l) h:=by
 have low:∀ x ∈ t,sigR rn x.1=x.1:=fun x hx=>by have:=(hk x hx).1;unfold sigR;rw [if_neg (by omega)]
 refine⟨fun g hg=>⟨by show g<126+l.length;omega,by unfold sigR;rw [if_neg (by omega)]⟩,fun r a ha=>?_,fun r r' a a' ha ha' he=>?_⟩
 ·rcases objsTT_get ha with⟨x,hx,rfl,rfl⟩ | ha
  ·obtain⟨h1,h2⟩:=hk x hx
   refine⟨by show x.1<126+l.length;omega,_,by rw [low x hx];exact ht x hx,.cells _ _ (l2_flat h2) (.inr ⟨rfl,rfl⟩)⟩
  ·obtain⟨h1,x,hx,rfl⟩:=objsT_get ha
   obtain⟨hb,own,ho⟩:=hr.1 _ x hx
   have hlt:=(List.getElem?_eq_some_iff.1 hx).1
   refine⟨by show r<126+l.length;omega,.cells x.1 x.2 false own,by unfold sigR;rw [if_pos h1];exact ho,.cells _ _ (l2_bareV hb) (.inr ⟨rfl,rfl⟩)⟩
 ·have row:∀ {r:Nat} {a:AObj},(objsT l 126).get r=some a→126≤r∧r - 126<l.length∧sigR rn r=rn (r - 126):=fun {r a} q=>by
   obtain⟨h1,x,hx,rfl⟩:=objsT_get q
   exact⟨h1,(List.getElem?_eq_some_iff.1 hx).1,by unfold sigR;rw [if_pos h1]⟩
  rcases objsTT_get ha with⟨x,hx,rfl,rfl⟩ | ha <;> rcases objsTT_get ha' with⟨y,hy,rfl,rfl⟩ | ha'
  ·rw [low x hx,low y hy] at he;exact he
  ·obtain⟨a1,a2,a3⟩:=row ha'
   rw [low x hx,a3] at he
   have:=hn _ a2;have:=(hk x hx).1;omega
  ·obtain⟨a1,a2,a3⟩:=row ha
   rw [low y hy,a3] at he
   have:=hn _ a2;have:=(hk y hy).1;omega
  ·obtain⟨a1,a2,a3⟩:=row ha
   obtain⟨b1,b2,b3⟩:=row ha'
   rw [a3,b3] at he
   have:=hr.2 _ _ a2 b2 he
   omega
theorem framed_oldW{h:AH}{l:List (TypeId × List Value)}{t:Tab}{rn:Nat→Nat}{hs':AH}(hk:TabOk P t)(hN:P.globals.size<126)(hs:∀ r a,(heapTT t l).objs.get r=some a→hs'.objs.get r=some a){r:Nat}{a:AObj}(ha:h.objs.get r=some a) :
  (h.objs.get r=some a∧∀ r0 a0,(heapTT t l).objs.get r0=some a0→sigR rn r0 ≠ r)∨(h.objs.get r=some a∧∃ r0 a0 a1,r0<(heapTT t l).next∧sigR rn r0=r∧(heapTT t l).objs.get r0=some a0∧ownO a0=false∧hs'.objs.get r0=some a1):=by
 by_cases hq:∃ r0 a0,(heapTT t l).objs.get r0=some a0∧sigR rn r0=r
 ·obtain⟨r0,a0,h0,e⟩:=hq
  refine .inr ⟨ha,r0,a0,a0,?_,e,h0,?_,hs _ _ h0⟩
  ·rcases objsTT_get h0 with⟨x,hx,rfl,rfl⟩ | h0
   ·have:=(hk x hx).1;show x.1<126+l.length;omega
   ·obtain⟨h1,x,hx,_⟩:=objsT_get h0
    have:=(List.getElem?_eq_some_iff.1 hx).1
    show r0<126+l.length;omega
  ·rcases objsTT_get h0 with⟨x,hx,rfl,rfl⟩ | h0
   ·rfl
   ·obtain⟨h1,x,hx,rfl⟩:=objsT_get h0;rfl
 ·exact .inl ⟨ha,fun r0 a0 h0 e=>hq ⟨r0,a0,h0,e⟩⟩
theorem CallSpec.pureRW(hη:OneCells η){f:FuncId}{args args':List Value}{l:List (TypeId × List Value)}{t:Tab}{rn:Nat→Nat}{h:AH}{v:Value}(hN:P.globals.size<126)(hk:TabOk P t)(ht:HasT h t)(hr:RowsIn h l rn)(hn:∀ i,i<l.length→P.globals.size<rn i)(ha:L2 (RV (sigR rn) (126+l.length) true) args args')(hv:∀ σ M,RV σ M false v v)
  (c:CallSpec η P B f args (heapTT t l) fun v1 h1=>v1=v∧h1=heapTT t l):CallSpec η P B f args' h fun v1 h1=>v1=v∧h1=h:=by
 refine c.frame (σ:=sigR rn) hη (emb_rowsW hN hk ht hr hn) ha ?_
 rintro v1 hs' ⟨rfl,rfl⟩ _
 exact⟨v1,h,⟨rfl,rfl⟩,hv _ _,⟨by simp,fun r a hr=>.inr (framed_oldW hk hN (fun _ _ h=>h) hr)⟩⟩
theorem CallSpec.freshRW(hη:OneCells η){f:FuncId}{args args':List Value}{l:List (TypeId × List Value)}{t:Tab}{rn:Nat→Nat}{h:AH}{mk:Nat→Value}{ty:TypeId}{c:List Value}{p:Bool}(hN:P.globals.size<126)(hk:TabOk P t)(ht:HasT h t)(hr0:RowsIn h l rn)(hn:∀ i,i<l.length→P.globals.size<rn i)(ha:L2 (RV (sigR rn) (126+l.length) true) args args')
  (hv:∀ (σ:Nat→Nat) (M r:Nat),r<M→RV σ M false (mk r) (mk (σ r))) (hc:c.all bareV=true) (k:CallSpec η P B f args (heapTT t l) fun v h1=>v=mk (126+l.length)∧h1.next=126+l.length+1∧(∀ r a,(heapTT t l).objs.get r=some a→h1.objs.get r=some a)∧h1.objs.get (126+l.length)=some (.cells ty c p 2)) :
  CallSpec η P B f args' h fun v h1=>v=mk h.next∧h1=withRow h ty c p:=by
 refine k.frame (σ:=sigR rn) hη (emb_rowsW hN hk ht hr0 hn) ha ?_
 rintro v hs' ⟨rfl,hnx,hold,hnew⟩ _
 have hsg:sg (sigR rn) (126+l.length) h.next (126+l.length)=h.next:=by unfold sg;rw [if_neg (Nat.lt_irrefl _),Nat.sub_self];rfl
 refine⟨mk h.next,withRow h ty c p,⟨rfl,rfl⟩,?_,⟨?_,fun r a hr=>?_⟩⟩
 ·have:=hv (sg (sigR rn) (heapTT t l).next h.next) (126+l.length+1) (126+l.length) (Nat.lt_succ_self _)
  rw [show(heapTT t l).next=126+l.length from rfl,hsg] at this
  rw [hnx]
  exact this
 ·rw [hnx];show h.next+1=h.next+(126+l.length+1 - (126+l.length));omega
 ·unfold withRow at hr
  simp only [T.get_set] at hr
  by_cases e:r=h.next
  ·rw [if_pos e] at hr
   injection hr with hr
   subst hr
   refine .inl ⟨126+l.length,.cells ty c p 2,by rw [hnx];exact Nat.lt_succ_self _,by rw [show(heapTT t l).next=126+l.length from rfl,hsg,e],hnew,.cells _ _ (l2_bareV hc) (.inl rfl)⟩
  ·rw [if_neg e] at hr
   exact .inr (framed_oldW hk hN hold hr)
end Go.Ev

namespace Go.Ev
open Go Go.Proofs
open Go.Ev.T renaming node → nN, nil → nZ
open Go.Proofs.Tryd (prog)
set_option maxRecDepth 100000
set_option maxHeartbeats 2000000
namespace RPts
noncomputable def bd:Code:=(Go.Proofs.Tryd.f29.body).getD .skip
noncomputable def H0(tb:List Value)(ty ty' o o':Nat)(c c':List Value)(n n' cap cap':Nat)(nd:Int):AH:={ objs:=nS (AObj.cells 115 tb true 0) (eE (eE (eE (eE (eE (eE (lL (AObj.cells ty' c' false 0)) nZ) nZ) nZ) nZ) nZ) nZ) (eE nZ (eE nZ (eE nZ (eE nZ (eE nZ (lL (AObj.cells ty c false 0))))))),next:=128 }
noncomputable def E(tb:List Value)(ty ty' o o':Nat)(c c':List Value)(n n' cap cap':Nat)(nd:Int):AS:=⟨⟨29,47,nS (sS 126 o n cap) (lL (Value.slice (some ⟨127,o',none⟩) n' cap')) (lL (iI nd)),[Item.code (codeAt bd [])],[],FrameMode.run,CallKind.normal,none⟩,[],H0 tb ty ty' o o' c c' n n' cap cap' nd⟩
noncomputable def S0(tb:List Value)(ty ty' o o':Nat)(c c':List Value)(n n' cap cap':Nat)(nd i0:Int)(d:Nat→Value):AS:=⟨⟨29,47,nS (d 0) (nS (Value.slice (some ⟨127,o',none⟩) n' cap') (nS (d 3) (nS (Value.slice none 0 0) (nS (d 15) (lL (d 31)) nZ) (nS (d 23) (lL (d 39)) nZ)) (nS (d 11) (nS (d 19) (lL (d 35)) nZ) (nS (d 27) (lL (d 43)) nZ))) (nS (d 5) (nS (d 9) (nS (d 17) (lL (d 33)) nZ) (nS (d 25) (lL (d 41)) nZ)) (nS (iI (↑n:Int)) (nS (d 21) (lL (d 37)) nZ) (nS (d 29) (lL (d 45)) nZ)))) (nS (iI nd) (nS (d 4) (nS (d 8) (nS (d 16) (lL (d 32)) nZ) (nS (d 24) (lL (d 40)) nZ)) (nS (sS 126 o n cap) (nS (d 20) (lL (d 36)) nZ) (nS (d 28) (lL (d 44)) nZ))) (nS (d 6) (nS (d 10) (nS (d 18) (lL (d 34)) nZ) (nS (d 26) (lL (d 42)) nZ)) (nS (iI i0) (nS (d 22) (lL (d 38)) nZ) (nS (d 30) (lL (d 46)) nZ)))),[Item.code (codeAt bd [1,1,0,1,0,0]),Item.inLoop (codeAt bd [1,1,0,1,0,0]),Item.inBlock 0,Item.code (codeAt bd [1,1,1])],[],FrameMode.run,CallKind.normal,none⟩,[],⟨nS (AObj.cells 115 tb true 0) (eE (eE (eE (eE (eE (eE (lL (AObj.cells ty' c' false 0)) nZ) nZ) nZ) nZ) nZ) nZ) (eE nZ (eE nZ (eE nZ (eE nZ (eE nZ (lL (AObj.cells ty c false 0))))))),128⟩⟩
noncomputable def S1(tb:List Value)(ty ty' o o':Nat)(c c':List Value)(n n' cap cap':Nat)(nd i0 i1 i2 i3:Int)(d:Nat→Value):AS:=⟨⟨29,47,nS (d 0) (nS (Value.slice (some ⟨127,o',none⟩) n' cap') (nS (d 3) (nS (Value.slice none 0 0) (nS (d 15) (lL (d 31)) nZ) (nS (d 23) (lL (d 39)) nZ)) (nS (d 11) (nS (d 19) (lL (d 35)) nZ) (nS (d 27) (lL (d 43)) nZ))) (nS (d 5) (nS (d 9) (nS (d 17) (lL (d 33)) nZ) (nS (d 25) (lL (d 41)) nZ)) (nS (iI (↑n:Int)) (nS (d 21) (lL (d 37)) nZ) (nS (iI 0) (lL (d 45)) nZ)))) (nS (iI nd) (nS (d 4) (nS (iI i0) (nS (d 16) (lL (d 32)) nZ) (nS (d 24) (lL (d 40)) nZ)) (nS (sS 126 o n cap) (nS (d 20) (lL (d 36)) nZ) (nS (iI i1) (lL (d 44)) nZ))) (nS (d 6) (nS (Value.int IntKind.u32 i2) (nS (d 18) (lL (d 34)) nZ) (nS (d 26) (lL (d 42)) nZ)) (nS (iI i3) (nS (d 22) (lL (d 38)) nZ) (nS (d 30) (lL (d 46)) nZ)))),[Item.code (codeAt bd [1,1,0,1,0,0,1,1,0,0,1,1,1,0,0]),Item.inLoop (codeAt bd [1,1,0,1,0,0,1,1,0,0,1,1,1,0,0]),Item.inBlock 2,Item.inBlock 1,Item.code (codeAt bd [1,1,0,1,0,0,1,1,1]),Item.inLoop (codeAt bd [1,1,0,1,0,0]),Item.inBlock 0,Item.code (codeAt bd [1,1,1])],[],FrameMode.run,CallKind.normal,none⟩,[],⟨nS (AObj.cells 115 tb true 0) (eE (eE (eE (eE (eE (eE (lL (AObj.cells ty' c' false 0)) nZ) nZ) nZ) nZ) nZ) nZ) (eE nZ (eE nZ (eE nZ (eE nZ (eE nZ (lL (AObj.cells ty c false 0))))))),128⟩⟩
noncomputable def S2(tb:List Value)(ty ty' o o':Nat)(c c':List Value)(n n' cap cap':Nat)(nd:Int)(n0:Nat)(i0:Int)(l0:List Value)(i1 i2 i3 i4:Int)(d:Nat→Value):AS:=⟨⟨29,47,nS (d 0) (nS (Value.slice (some ⟨127,o',none⟩) n' cap') (nS (d 3) (nS (sS 128 0 n0 u2) (nS (d 15) (lL (d 31)) nZ) (nS (d 23) (lL (d 39)) nZ)) (nS (d 11) (nS (d 19) (lL (d 35)) nZ) (nS (d 27) (lL (d 43)) nZ))) (nS (d 5) (nS (d 9) (nS (d 17) (lL (d 33)) nZ) (nS (d 25) (lL (d 41)) nZ)) (nS (iI (↑n:Int)) (nS (d 21) (lL (d 37)) nZ) (nS (iI i0) (lL (d 45)) nZ)))) (nS (iI nd) (nS (d 4) (nS (iI i1) (nS (d 16) (lL (d 32)) nZ) (nS (d 24) (lL (d 40)) nZ)) (nS (sS 126 o n cap) (nS (d 20) (lL (d 36)) nZ) (nS (iI i2) (lL (d 44)) nZ))) (nS (d 6) (nS (Value.int IntKind.u32 i3) (nS (d 18) (lL (d 34)) nZ) (nS (d 26) (lL (d 42)) nZ)) (nS (iI i4) (nS (d 22) (lL (d 38)) nZ) (nS (d 30) (lL (d 46)) nZ)))),[Item.code (codeAt bd [1,1,0,1,0,0,1,1,0,0,1,1,1,0,0]),Item.inLoop (codeAt bd [1,1,0,1,0,0,1,1,0,0,1,1,1,0,0]),Item.inBlock 2,Item.inBlock 1,Item.code (codeAt bd [1,1,0,1,0,0,1,1,1]),Item.inLoop (codeAt bd [1,1,0,1,0,0]),Item.inBlock 0,Item.code (codeAt bd [1,1,1])],[],FrameMode.run,CallKind.normal,none⟩,[],⟨nS (AObj.cells 115 tb true 0) (eE (eE (eE (eE (eE (eE (lL (AObj.cells ty' c' false 0)) nZ) nZ) nZ) nZ) nZ) nZ) (eE (eE (eE (eE (eE (eE (lL (AObj.cells 55 l0 false 2)) nZ) nZ) nZ) nZ) nZ) (eE nZ (eE nZ (eE nZ (eE nZ (lL (AObj.cells ty c false 0))))))),129⟩⟩
noncomputable def S3(tb:List Value)(ty ty' o o':Nat)(c c':List Value)(n n' cap cap':Nat)(nd:Int)(n0:Nat)(i0:Int)(l0:List Value)(d:Nat→Value):AS:=⟨⟨29,47,nS (d 0) (nS (Value.slice (some ⟨127,o',none⟩) n' cap') (nS (d 3) (nS (sS 128 0 n0 u2) (nS (d 15) (lL (d 31)) nZ) (nS (d 23) (lL (d 39)) nZ)) (nS (d 11) (nS (d 19) (lL (d 35)) nZ) (nS (d 27) (lL (d 43)) nZ))) (nS (d 5) (nS (d 9) (nS (d 17) (lL (d 33)) nZ) (nS (d 25) (lL (d 41)) nZ)) (nS (iI (↑n:Int)) (nS (d 21) (lL (d 37)) nZ) (nS (d 29) (lL (d 45)) nZ)))) (nS (iI nd) (nS (d 4) (nS (d 8) (nS (d 16) (lL (d 32)) nZ) (nS (d 24) (lL (d 40)) nZ)) (nS (sS 126 o n cap) (nS (d 20) (lL (d 36)) nZ) (nS (d 28) (lL (d 44)) nZ))) (nS (d 6) (nS (d 10) (nS (d 18) (lL (d 34)) nZ) (nS (d 26) (lL (d 42)) nZ)) (nS (iI i0) (nS (d 22) (lL (d 38)) nZ) (nS (d 30) (lL (d 46)) nZ)))),[Item.code (codeAt bd [1,1,0,1,0,0]),Item.inLoop (codeAt bd [1,1,0,1,0,0]),Item.inBlock 0,Item.code (codeAt bd [1,1,1])],[],FrameMode.run,CallKind.normal,none⟩,[],⟨nS (AObj.cells 115 tb true 0) (eE (eE (eE (eE (eE (eE (lL (AObj.cells ty' c' false 0)) nZ) nZ) nZ) nZ) nZ) nZ) (eE (eE (eE (eE (eE (eE (lL (AObj.cells 55 l0 false 2)) nZ) nZ) nZ) nZ) nZ) (eE nZ (eE nZ (eE nZ (eE nZ (lL (AObj.cells ty c false 0))))))),129⟩⟩
theorem enter{η:Nat→Value}{B:Bd}(hη:OneCells η)(hmix:prog.follows .mixedOrders=true)(hreg:RegOk η prog B noNest){D:Value→AH→Prop}(tb:List Value)(ty ty' o o':Nat)(c c':List Value)(n n' cap cap':Nat)(nd:Int)(h:W.holds η prog B 29 (fun kp_ st_=>RunD η prog B 29 (H0 tb ty ty' o o' c c' n n' cap cap' nd) kp_ st_ (QF prog 128 D)) D (.stop [1,2,7,12,13,14] (S0 tb ty ty' o o' c c' n n' cap cap' nd (0) (fun _=>undef)))):CallSpec η prog B 29 [Value.slice (some ⟨126,o,none⟩) n cap,Value.slice (some ⟨127,o',none⟩) n' cap',Value.int IntKind.i64 nd] (H0 tb ty ty' o o' c c' n n' cap cap' nd) D:=by
 refine CallSpec.ofQF hη (CallSpec.enter (fr:=(E tb ty ty' o o' c c' n n' cap cap' nd).fr) (by kernel_rfl) ?_)
 exact walk_okT (h0:=H0 tb ty ty' o o' c c' n n' cap cap' nd) hη hmix hreg (.steps 17 <| .stop [1,2,7,12,13,14] none) (E tb ty ty' o o' c c' n n' cap cap' nd) (by kernel_rfl) h (by kernel_rfl)
theorem cut0{η:Nat→Value}{B:Bd}(hη:OneCells η)(hmix:prog.follows .mixedOrders=true)(hreg:RegOk η prog B noNest){D:Value→AH→Prop}(tb:List Value)(ty ty' o o':Nat)(c c':List Value)(n n' cap cap':Nat)(nd i0:Int)(h:let q2:=(FN.fnv IntKind.u32 16777619 (bytesV (strAt c (o+i0.toNat * 1) ++ ([35]:List UInt8))) 0 (strAt c (o+i0.toNat * 1) ++ ([35]:List UInt8)).length 2166136261);let q1:AH:=⟨nS (AObj.cells 115 tb true 0) (eE (eE (eE (eE (eE (eE (lL (AObj.cells ty' c' false 0)) nZ) nZ) nZ) nZ) nZ) nZ) (eE nZ (eE nZ (eE nZ (eE nZ (eE nZ (lL (AObj.cells ty c false 0))))))),128⟩;let q0:AH:=⟨nS (AObj.cells 115 tb true 0) (eE (eE (eE (eE (eE (eE (lL (AObj.cells ty' c' false 0)) nZ) nZ) nZ) nZ) nZ) nZ) (eE (eE (eE (eE (eE (eE (lL (AObj.cells 5 (bytesV (strAt c (o+i0.toNat * 1) ++ ([35]:List UInt8))) false 2)) nZ) nZ) nZ) nZ) nZ) (eE nZ (eE nZ (eE nZ (eE nZ (lL (AObj.cells ty c false 0))))))),129⟩;W.holds η prog B 29 (fun kp_ st_=>RunD η prog B 29 (H0 tb ty ty' o o' c c' n n' cap cap' nd) kp_ st_ (QF prog 128 D)) D (.ite (decide (i0<(↑n:Int))) (.need ((0:Int)≤i0∧i0<(↑n:Int)) (.need (c[o+i0.toNat * (1:Nat)]? = some (Value.string ⟨⟨strAt c (o+i0.toNat * (1:Nat))⟩⟩)) (.need ((strAt c (o+i0.toNat * (1:Nat))).length+(1:Nat)≤(9223372036854775807:Nat)) (.need ((strAt c (o+i0.toNat * (1:Nat)) ++ ([35]:List UInt8)).length≤(1000000:Nat)) (.call 15 [Value.slice (some ⟨128,0,none⟩) (strAt c (o+i0.toNat * 1) ++ ([35]:List UInt8)).length 9223372036854775809] (q0) (.ret (Value.int IntKind.u32 q2) (q0)) (.need ((0:Int)≤i0∧i0<(↑n':Int)) (.need (c'[o'+i0.toNat * (1:Nat)]? = some (Value.int IntKind.i64 (intAt c' (o'+i0.toNat * (1:Nat))))) (.need (NoNames tb∧NoNames c∧NoNames c'∧True) (.stop [1,2,7,8,10,12,13,14,28,29] (S1 tb ty ty' o o' c c' n n' cap cap' nd (i0) (IntKind.i64.wrap (intAt c' (o'+i0.toNat * 1) * nd)) q2 (i0) (fun _=>undef))))))))))) (.call 42 [Value.slice none 0 0,Value.func (Fn.func 43) ⟨[]⟩ ⟨[]⟩] (q1) (.ret (undef) (q1)) (.done 29 (Value.slice none 0 0) (H0 tb ty ty' o o' c c' n n' cap cap' nd))))):RunD η prog B 29 (H0 tb ty ty' o o' c c' n n' cap cap' nd) [1,2,7,12,13,14] (S0 tb ty ty' o o' c c' n n' cap cap' nd i0 fun _=>undef) (QF prog 128 D):=by
 refine RunD.intro (S0 tb ty ty' o o' c c' n n' cap cap' nd i0) (fun d=>⟨rfl,rfl,rfl⟩) (fun d=>tmOk_get (by kernel_rfl)) (fun d=>by kernel_rfl) (fun d=>?_)
 exact walk_okT (h0:=H0 tb ty ty' o o' c c' n n' cap cap' nd) hη hmix hreg (.steps 5 <| .bit 15 (.steps 7 <| .op <| .op <| .steps 6 <| .op <| .op <| .call kN <| .steps 6 <| .op <| .op <| .steps 6 <| .stop [1,2,7,8,10,12,13,14,28,29] (some ⟨128,[],[(0,(0,true)),(126,(126,true)),(127,(127,true))]⟩)) (.steps 5 <| .call kN <| .steps 7 <| .done none)) (S0 tb ty ty' o o' c c' n n' cap cap' nd i0 d) (by kernel_rfl) h (by kernel_rfl)
theorem cut1{η:Nat→Value}{B:Bd}(hη:OneCells η)(hmix:prog.follows .mixedOrders=true)(hreg:RegOk η prog B noNest){D:Value→AH→Prop}(tb:List Value)(ty ty' o o':Nat)(c c':List Value)(n n' cap cap':Nat)(nd i0 i1 i2 i3:Int)(h:let q2:=(FN.fnv IntKind.u32 16777619 [Value.int IntKind.u8 48] 0 1 i2);let q1:AH:=⟨nS (AObj.cells 115 tb true 0) (eE (eE (eE (eE (eE (eE (lL (AObj.cells ty' c' false 0)) nZ) nZ) nZ) nZ) nZ) nZ) (eE nZ (eE nZ (eE nZ (eE nZ (eE nZ (lL (AObj.cells ty c false 0))))))),128⟩;let q0:AH:=⟨nS (AObj.cells 115 tb true 0) (eE (eE (eE (eE (eE (eE (lL (AObj.cells ty' c' false 0)) nZ) nZ) nZ) nZ) nZ) nZ) (eE (eE (eE (eE (eE (eE (lL (AObj.cells 5 [uI 48] false 2)) nZ) nZ) nZ) nZ) nZ) (eE nZ (eE nZ (eE nZ (eE nZ (lL (AObj.cells ty c false 0))))))),129⟩;W.holds η prog B 29 (fun kp_ st_=>RunD η prog B 29 (H0 tb ty ty' o o' c c' n n' cap cap' nd) kp_ st_ (QF prog 128 D)) D (.ite (decide ((0:Int)<i1)) (.call 41 [Value.int IntKind.i64 0] (q1) (.ret (Value.string ⟨⟨RG.dig 0⟩⟩) (q1)) (.call 25 [Value.int IntKind.u32 i2,Value.slice (some ⟨128,0,none⟩) 1 9223372036854775809] (q0) (.ret (Value.int IntKind.u32 q2) (q0)) (.need (NoNames tb∧NoNames c∧NoNames c'∧True∧True) (.stop [1,2,7,8,10,12,13,14,28,29] (S2 tb ty ty' o o' c c' n n' cap cap' nd (1) (1) ([Value.int IntKind.u32 q2,Value.int IntKind.i64 i0]) (i0) (i1) (i2) (i3) (fun _=>undef)))))) (.stop [1,2,7,12,13,14] (S0 tb ty ty' o o' c c' n n' cap cap' nd (IntKind.i64.wrap (i3+1)) (fun _=>undef))))):RunD η prog B 29 (H0 tb ty ty' o o' c c' n n' cap cap' nd) [1,2,7,8,10,12,13,14,28,29] (S1 tb ty ty' o o' c c' n n' cap cap' nd i0 i1 i2 i3 fun _=>undef) (QF prog 128 D):=by
 refine RunD.intro (S1 tb ty ty' o o' c c' n n' cap cap' nd i0 i1 i2 i3) (fun d=>⟨rfl,rfl,rfl⟩) (fun d=>tmOk_get (by kernel_rfl)) (fun d=>by kernel_rfl) (fun d=>?_)
 exact walk_okT (h0:=H0 tb ty ty' o o' c c' n n' cap cap' nd) hη hmix hreg (.steps 5 <| .bit 30 (.steps 13 <| .call kN <| .steps 1 <| .call kN <| .steps 12 <| .stop [1,2,7,8,10,12,13,14,28,29] (some ⟨129,[(130,128)],[(0,(0,true)),(126,(126,true)),(127,(127,true)),(128,(130,false))]⟩)) (.steps 8 <| .stop [1,2,7,12,13,14] none)) (S1 tb ty ty' o o' c c' n n' cap cap' nd i0 i1 i2 i3 d) (by kernel_rfl) h (by kernel_rfl)
theorem cut2{η:Nat→Value}{B:Bd}(hη:OneCells η)(hmix:prog.follows .mixedOrders=true)(hreg:RegOk η prog B noNest){D:Value→AH→Prop}(tb:List Value)(ty ty' o o':Nat)(c c':List Value)(n n' cap cap':Nat)(nd:Int)(n0:Nat)(i0:Int)(l0:List Value)(i1 i2 i3 i4:Int)(h:let q2:=(FN.fnv IntKind.u32 16777619 (bytesV (RG.dig i0)) 0 (RG.dig i0).length i3);let q1:AH:=⟨nS (AObj.cells 115 tb true 0) (eE (eE (eE (eE (eE (eE (lL (AObj.cells ty' c' false 0)) nZ) nZ) nZ) nZ) nZ) nZ) (eE (eE (eE (eE (eE (eE (lL (AObj.cells 55 l0 false 2)) nZ) nZ) nZ) nZ) nZ) (eE nZ (eE nZ (eE nZ (eE nZ (lL (AObj.cells ty c false 0))))))),129⟩;let q0:AH:=⟨nS (AObj.cells 115 tb true 0) (eE (eE (eE (eE (eE (eE (lL (AObj.cells ty' c' false 0)) nZ) nZ) nZ) nZ) nZ) (eE (eE (eE (eE (eE (lL (AObj.cells 5 (bytesV (RG.dig i0)) false 2)) nZ) nZ) nZ) nZ) nZ)) (eE (eE (eE (eE (eE (eE (lL (AObj.cells 55 l0 false 2)) nZ) nZ) nZ) nZ) nZ) (eE nZ (eE nZ (eE nZ (eE nZ (lL (AObj.cells ty c false 0))))))),130⟩;W.holds η prog B 29 (fun kp_ st_=>RunD η prog B 29 (H0 tb ty ty' o o' c c' n n' cap cap' nd) kp_ st_ (QF prog 128 D)) D (.ite (decide (i0<i2)) (.call 41 [Value.int IntKind.i64 i0] (q1) (.ret (Value.string ⟨⟨RG.dig i0⟩⟩) (q1)) (.need ((RG.dig i0).length≤(1000000:Nat)) (.call 25 [Value.int IntKind.u32 i3,Value.slice (some ⟨129,0,none⟩) (RG.dig i0).length 9223372036854775809] (q0) (.ret (Value.int IntKind.u32 q2) (q0)) (.need ((2:Nat)≤(2:Nat)∧l0.length=n0 * (2:Nat)∧n0+(1:Nat)≤(1000000:Nat)∧(2:Nat)=(2:Nat)∧true=true) (.need (NoNames tb∧NoNames c∧NoNames c'∧NoNames (l0 ++ [Value.int IntKind.u32 (FN.fnv IntKind.u32 (16777619:Int) (bytesV (RG.dig i0)) (0:Nat) (RG.dig i0).length i3),Value.int IntKind.i64 i1])∧True) (.stop [1,2,7,8,10,12,13,14,28,29] (S2 tb ty ty' o o' c c' n n' cap cap' nd (n0+1) (IntKind.i64.wrap (i0+1)) (l0 ++ [Value.int IntKind.u32 q2,Value.int IntKind.i64 i1]) (i1) (i2) (i3) (i4) (fun _=>undef)))))))) (.stop [1,2,7,12,13,14] (S3 tb ty ty' o o' c c' n n' cap cap' nd (n0) (IntKind.i64.wrap (i4+1)) (l0) (fun _=>undef))))):RunD η prog B 29 (H0 tb ty ty' o o' c c' n n' cap cap' nd) [1,2,7,8,10,12,13,14,28,29] (S2 tb ty ty' o o' c c' n n' cap cap' nd n0 i0 l0 i1 i2 i3 i4 fun _=>undef) (QF prog 128 D):=by
 refine RunD.intro (S2 tb ty ty' o o' c c' n n' cap cap' nd n0 i0 l0 i1 i2 i3 i4) (fun d=>⟨rfl,rfl,rfl⟩) (fun d=>tmOk_get (by kernel_rfl)) (fun d=>by kernel_rfl) (fun d=>?_)
 exact walk_okT (h0:=H0 tb ty ty' o o' c c' n n' cap cap' nd) hη hmix hreg (.steps 5 <| .bit 30 (.steps 13 <| .call kN <| .op <| .call kN <| .steps 3 <| .op <| .steps 8 <| .stop [1,2,7,8,10,12,13,14,28,29] (some ⟨129,[(131,128)],[(0,(0,true)),(126,(126,true)),(127,(127,true)),(128,(131,true))]⟩)) (.steps 8 <| .stop [1,2,7,12,13,14] none)) (S2 tb ty ty' o o' c c' n n' cap cap' nd n0 i0 l0 i1 i2 i3 i4 d) (by kernel_rfl) h (by kernel_rfl)
theorem cut3{η:Nat→Value}{B:Bd}(hη:OneCells η)(hmix:prog.follows .mixedOrders=true)(hreg:RegOk η prog B noNest){D:Value→AH→Prop}(tb:List Value)(ty ty' o o':Nat)(c c':List Value)(n n' cap cap':Nat)(nd:Int)(n0:Nat)(i0:Int)(l0:List Value)(h:let q2:=(FN.fnv IntKind.u32 16777619 (bytesV (strAt c (o+i0.toNat * 1) ++ ([35]:List UInt8))) 0 (strAt c (o+i0.toNat * 1) ++ ([35]:List UInt8)).length 2166136261);let q1:AH:=⟨nS (AObj.cells 115 tb true 0) (eE (eE (eE (eE (eE (eE (lL (AObj.cells ty' c' false 0)) nZ) nZ) nZ) nZ) nZ) nZ) (eE (eE (eE (eE (eE (eE (lL (AObj.cells 55 (RG.srtC l0 n0) false 2)) nZ) nZ) nZ) nZ) nZ) (eE nZ (eE nZ (eE nZ (eE nZ (lL (AObj.cells ty c false 0))))))),129⟩;let q0:AH:=⟨nS (AObj.cells 115 tb true 0) (eE (eE (eE (eE (eE (eE (lL (AObj.cells ty' c' false 0)) nZ) nZ) nZ) nZ) nZ) (eE (eE (eE (eE (eE (lL (AObj.cells 5 (bytesV (strAt c (o+i0.toNat * 1) ++ ([35]:List UInt8))) false 2)) nZ) nZ) nZ) nZ) nZ)) (eE (eE (eE (eE (eE (eE (lL (AObj.cells 55 l0 false 2)) nZ) nZ) nZ) nZ) nZ) (eE nZ (eE nZ (eE nZ (eE nZ (lL (AObj.cells ty c false 0))))))),130⟩;W.holds η prog B 29 (fun kp_ st_=>RunD η prog B 29 (H0 tb ty ty' o o' c c' n n' cap cap' nd) kp_ st_ (QF prog 128 D)) D (.ite (decide (i0<(↑n:Int))) (.need ((0:Int)≤i0∧i0<(↑n:Int)) (.need (c[o+i0.toNat * (1:Nat)]? = some (Value.string ⟨⟨strAt c (o+i0.toNat * (1:Nat))⟩⟩)) (.need ((strAt c (o+i0.toNat * (1:Nat))).length+(1:Nat)≤(9223372036854775807:Nat)) (.need ((strAt c (o+i0.toNat * (1:Nat)) ++ ([35]:List UInt8)).length≤(1000000:Nat)) (.call 15 [Value.slice (some ⟨129,0,none⟩) (strAt c (o+i0.toNat * 1) ++ ([35]:List UInt8)).length 9223372036854775809] (q0) (.ret (Value.int IntKind.u32 q2) (q0)) (.need ((0:Int)≤i0∧i0<(↑n':Int)) (.need (c'[o'+i0.toNat * (1:Nat)]? = some (Value.int IntKind.i64 (intAt c' (o'+i0.toNat * (1:Nat))))) (.need (NoNames tb∧NoNames c∧NoNames c'∧NoNames l0∧True) (.stop [1,2,7,8,10,12,13,14,28,29] (S2 tb ty ty' o o' c c' n n' cap cap' nd (n0) (0) (l0) (i0) (IntKind.i64.wrap (intAt c' (o'+i0.toNat * 1) * nd)) q2 (i0) (fun _=>undef))))))))))) (.call 42 [Value.slice (some ⟨128,0,none⟩) n0 9223372036854775810,Value.func (Fn.func 43) ⟨[]⟩ ⟨[]⟩] (⟨nS (AObj.cells 115 tb true 0) (eE (eE (eE (eE (eE (eE (lL (AObj.cells ty' c' false 0)) nZ) nZ) nZ) nZ) nZ) nZ) (eE (eE (eE (eE (eE (eE (lL (AObj.cells 55 l0 false 2)) nZ) nZ) nZ) nZ) nZ) (eE nZ (eE nZ (eE nZ (eE nZ (lL (AObj.cells ty c false 0))))))),129⟩) (.ret (undef) (q1)) (.done 29 (Value.slice (some ⟨128,0,none⟩) n0 9223372036854775810) (q1))))):RunD η prog B 29 (H0 tb ty ty' o o' c c' n n' cap cap' nd) [1,2,7,12,13,14] (S3 tb ty ty' o o' c c' n n' cap cap' nd n0 i0 l0 fun _=>undef) (QF prog 128 D):=by
 refine RunD.intro (S3 tb ty ty' o o' c c' n n' cap cap' nd n0 i0 l0) (fun d=>⟨rfl,rfl,rfl⟩) (fun d=>tmOk_get (by kernel_rfl)) (fun d=>by kernel_rfl) (fun d=>?_)
 exact walk_okT (h0:=H0 tb ty ty' o o' c c' n n' cap cap' nd) hη hmix hreg (.steps 5 <| .bit 15 (.steps 7 <| .op <| .op <| .steps 6 <| .op <| .op <| .call kN <| .steps 6 <| .op <| .op <| .steps 6 <| .stop [1,2,7,8,10,12,13,14,28,29] (some ⟨129,[(128,128)],[(0,(0,true)),(126,(126,true)),(127,(127,true)),(128,(128,true))]⟩)) (.steps 5 <| .call kN <| .steps 7 <| .done none)) (S3 tb ty ty' o o' c c' n n' cap cap' nd n0 i0 l0 d) (by kernel_rfl) h (by kernel_rfl)
end RPts
end Go.Ev

/- Hashes of bytes: the law of sums. -/
namespace Go.Ev
open Go Go.Proofs Go.RowKit
variable {η:Nat→Value} {B:Bd}
namespace FN
theorem nn_row{c:List Value}{o n:Nat}(k:Row8 c o n):NoNames c:=fun v hv=>by
 have:=List.all_eq_true.1 k.1 v hv
 cases v <;> first | rfl | (simp [bareV] at this;done) | (rename_i a _ _;cases a <;> first | rfl | simp [bareV] at this) | (rename_i a;cases a <;> first | rfl | simp [bareV] at this)
theorem one_row{c:List Value}{o n:Nat}(k:Row8 c o n):c.all oneC=true:=by
 rw [List.all_eq_true];intro v hv
 have:=List.all_eq_true.1 k.1 v hv
 cases v <;> first | rfl | (simp [bareV] at this;done)
end FN
end Go.Ev

/- Hashes: the closed calls of the law. -/
namespace Go.Ev
open Go Go.Proofs
variable {η:Nat→Value} {B:Bd}
namespace FN
theorem aw_true:isTrue (callA Tryd.prog 100000 20 9 [] (heapN 126))=true:=by kernel_rfl
theorem awake_ok(hη:OneCells η)(hmix:Tryd.prog.follows .mixedOrders=true)(H:AH):CallSpec η Tryd.prog B 9 [] H (KT.ret (.bool true) H).sat:=by
 refine CallSpec.bare hη gs9 (N:=126) (fun _ _=>.nil) (fun _ _=>.bool _) (fun _ _=>.bool _) ?_ H
 obtain⟨h',hc⟩:=isTrue_ok aw_true
 exact(CallSpec.eval hη hmix hc).mono fun v1 h1 hh=>hh.1
end FN
end Go.Ev

/- Hashes of bytes: the law of sums, over the world. -/
namespace Go.Ev
open Go Go.Proofs Go.RowKit
namespace FN
theorem row_bytes(s:List UInt8):Row8 (bytesV s) 0 s.length:=by
 refine⟨?_,fun i hi=>?_⟩
 ·rw [List.all_eq_true];intro v hv
  unfold bytesV at hv
  rw [List.mem_map] at hv
  obtain⟨x,_,rfl⟩:=hv;rfl
 ·have e:(bytesV s)[0+i]? = some (.int .u8 (s[i].toNat:Int)):=by
   unfold bytesV
   rw [Nat.zero_add,List.getElem?_map,List.getElem?_eq_getElem hi];rfl
  unfold intAt
  rw [e]
end FN
end Go.Ev

/- Rings of backends: the points. -/
namespace Go.Ev
open Go Go.Proofs Go.RowKit Go.Sort
variable {η:Nat→Value} {B:Bd}
namespace RG
def pow:List Value:=Lib.pow10Tab.map fun z=>Value.int .u64 z
def tabR:Tab:=[(0,115,pow)]
theorem itoa_any(hη:OneCells η){h:AH}(ht:HasT h tabR)(n:Int)(h0:-9223372036854775808≤n)(h1:n≤9223372036854775807):CallSpec η Tryd.prog B 41 [.int .i64 n] h (KT.ret (.string ⟨⟨dig n⟩⟩) h).sat:=by
 refine CallSpec.ofCalls (v:=.string ⟨⟨dig n⟩⟩) fun ρ args' w hl p=>?_
 obtain rfl:=args_inv rfl hl
 have h5:=ht _ (List.mem_singleton.2 rfl)
 refine(Tryd.strconv_Itoa n h0 h1 w (p.lits (name:= "internal/strconv.uint64pow10") (by kernel_rfl) (by decide +kernel) h5)).mono ?_
 rintro e w' ⟨rfl,k,os,rfl⟩
 refine⟨_,rfl,?_,below_grow (below_drewN (Below.refl _ _) k) (Nat.le_refl _) os⟩
 unfold dig
 exact .string _
theorem dig_len(n:Int)(h0:-9223372036854775808≤n)(h1:n≤9223372036854775807):(dig n).length≤21:=by unfold dig;exact Lib.itoa_length_le n h0 h1
theorem inn_len(b:Int)(i:Nat):∀ m j,(inn b i m j).length=m
 | 0,_=>rfl
 | m+1,j=>by unfold inn;rw [List.length_cons,inn_len b i m]
theorem dig0:dig 0=[48]:=by unfold dig;decide +kernel
theorem hasT1{H:AH}(hr:H.objs.get 0=some (.cells 115 pow true 0)):HasT H tabR:=fun x hx=>by
 unfold tabR at hx
 rw [List.mem_singleton] at hx
 subst hx;exact hr
theorem hsP0(b:Int):FN.fnv .u32 16777619 [Value.int .u8 48] 0 1 b=hsP b ((0:Nat):Int):=by
 unfold hsP
 rw [show((0:Nat):Int)=0 from rfl,dig0];rfl
theorem srtC_eq(l:List (Int × Int)):srtC (ptV l) l.length=ptV (l.mergeSort leP):=by unfold srtC;rw [ptsOf_ptV]
theorem ptV_snoc(l:List (Int × Int))(h i:Int):ptV l ++ [.int .u32 h,.int .i64 i]=ptV (l ++ [(h,i)]):=by unfold ptV;rw [List.flatMap_append];rfl
theorem nn_of{c:List Value}(h:c.all bareV=true):NoNames c:=FN.nn_row (o:=0) (n:=0) ⟨h,fun i hi=>by omega⟩
theorem pow_bare:pow.all bareV=true:=by decide +kernel
theorem sortN_any(hη:OneCells η)(H:AH):CallSpec η Tryd.prog B 42 [.slice none 0 0,.func (.func 43) #[] #[]] H (KT.ret (.tuple ⟨[]⟩) H).sat:=by
 refine CallSpec.ofCalls (v:=.tuple #[]) fun ρ args' w hl p=>?_
 obtain⟨x1,m1,e1,v1,hl⟩:=hl.inv_cons
 obtain⟨x2,m2,rfl,v2,hl⟩:=hl.inv_cons
 have:=hl.inv_nil;subst this
 obtain⟨g',c',d',rfl,hg,l1,l2⟩:=v2.func_inv
 have hx:∃ q c2,x1 = .slice q 0 c2:=by
  cases v1 <;> exact⟨_,_,rfl⟩
 obtain⟨q,c2,rfl⟩:=hx
 obtain rfl:args'=#[.slice q 0 c2,.func g' c' d']:=Array.toList_inj.1 e1
 refine(AnyF.slices_SortFunc_none Tryd.sortP q c2 (.func g' c' d') w).mono ?_
 rintro e w' ⟨rfl,rfl⟩
 exact⟨_,rfl,.tuple rfl (fun i v x h1 _=>by simp at h1),Below.refl _ _⟩
def ptsD(t:Tab)(rows:List (TypeId × List Value))(all:List (Int × Int))(v:Value)(h:AH):Prop:=
 if all=[] then v = .slice none 0 0∧h=heapTT t rows else v = .slice (some ⟨126+rows.length,0,none⟩) all.length (capU 2)∧h.next=126+rows.length+1∧(∀ r a,(heapTT t rows).objs.get r=some a→h.objs.get r=some a)∧h.objs.get (126+rows.length)=some (.cells 55 (ptV (all.mergeSort leP)) false 2)
set_option maxRecDepth 20000 in
set_option maxHeartbeats 4000000 in
theorem pts_can(hη:OneCells η)(hmix:Tryd.prog.follows .mixedOrders=true){ty ty' o o' n cap n' cap':Nat}{c c':List Value}{k:Int}(hc:RowS c o n)(hc':RowI c' o' n)(hn':n'=n)(hn:n≤16)(hw:∀ i,i<n→0≤intAt c' (o'+i)∧intAt c' (o'+i)≤20)(hk:1≤k∧k≤100)(hl:∀ i,i<n→(strAt c (o+i)).length≤1000)(hb:(allP c o c' o' k n 0).length≤100000) :
  CallSpec η Tryd.prog B 29 [.slice (some ⟨126,o,none⟩) n cap,.slice (some ⟨127,o',none⟩) n' cap',.int .i64 k] (heapTT tabR [(ty,c),(ty',c')]) (ptsD tabR [(ty,c),(ty',c')] (allP c o c' o' k n 0)):=by
 subst hn'
 generalize hall:allP c o c' o' k n' 0=all at hb ⊢
 have e0:RPts.H0 pow ty ty' o o' c c' n' n' cap cap' k=heapTT tabR [(ty,c),(ty',c')]:=rfl
 have nc:=nn_of hc.1
 have nc':=nn_of hc'.1
 have np:=nn_of pow_bare
 have cut0:=fun i0=>RPts.cut0 (η:=η) (B:=B) (D:=ptsD tabR [(ty,c),(ty',c')] all) hη hmix (reg0 hη hmix) pow ty ty' o o' c c' n' n' cap cap' k i0
 have cut1:=fun i0 i1 i2 i3=>RPts.cut1 (η:=η) (B:=B) (D:=ptsD tabR [(ty,c),(ty',c')] all) hη hmix (reg0 hη hmix) pow ty ty' o o' c c' n' n' cap cap' k i0 i1 i2 i3
 have cut2:=fun n0 i0 l0 i1 i2 i3 i4=>RPts.cut2 (η:=η) (B:=B) (D:=ptsD tabR [(ty,c),(ty',c')] all) hη hmix (reg0 hη hmix) pow ty ty' o o' c c' n' n' cap cap' k n0 i0 l0 i1 i2 i3 i4
 have cut3:=fun n0 i0 l0=>RPts.cut3 (η:=η) (B:=B) (D:=ptsD tabR [(ty,c),(ty',c')] all) hη hmix (reg0 hη hmix) pow ty ty' o o' c c' n' n' cap cap' k n0 i0 l0
 refine RPts.enter hη hmix (reg0 hη hmix) _ _ _ _ _ _ _ _ _ _ _ _ ?_
 simp only [W.holds,true_and,and_true,decide_eq_true_eq,decide_eq_false_iff_not,Nat.mul_one,true_implies] at cut0 cut1 cut2 cut3 ⊢
 have hwk:∀ i,i<n'→IntKind.i64.wrap (intAt c' (o'+i) * k)=((intAt c' (o'+i) * k).toNat:Int):=fun i hi=>by
  obtain⟨a1,a2⟩:=hw i hi
  have b0:0≤intAt c' (o'+i) * k:=Int.mul_nonneg a1 (by omega)
  have b1:intAt c' (o'+i) * k≤20 * 100:=Int.mul_le_mul a2 hk.2 (by omega) (by omega)
  rw [wrap_small b0 (by omega),Int.toNat_of_nonneg b0]
 have on3:=fun (H:AH) (r:Nat) (x:Int) (s:List UInt8) (own:Nat) (cp:Nat) (hr:H.objs.get r=some (.cells 5 (bytesV s) false own)) (hs:s.length≤1000000)=>FN.onV_any (B:=B) (cap:=cp) hη (pre:=[.int .u32 x]) hr (FN.row_bytes s) (fun _ _=>.cons (.int _ _) .nil) (FN.HO3_can hη hmix x (FN.row_bytes s) hs)
 have sm3:=fun (H:AH) (r:Nat) (s:List UInt8) (own:Nat) (cp:Nat) (hr:H.objs.get r=some (.cells 5 (bytesV s) false own)) (hs:s.length≤1000000)=>FN.onV_any (B:=B) (cap:=cp) hη (pre:=[]) hr (FN.row_bytes s) (fun _ _=>.nil) (FN.HS3_can hη hmix (FN.row_bytes s) hs)
 have inner:∀ (m i:Nat),i+(m+1)=n'→(∀ acc:List (Int × Int),acc ≠ []→all=acc ++ allP c o c' o' k m (i+1)→RunD η Tryd.prog B 29 (RPts.H0 pow ty ty' o o' c c' n' n' cap cap' k) [1,2,7,12,13,14] (RPts.S3 pow ty ty' o o' c c' n' n' cap cap' k acc.length ((i+1:Nat):Int) (ptV acc) fun _=>undef) (QF Tryd.prog 128 (ptsD tabR [(ty,c),(ty',c')] all)))→∀ (q j:Nat) (acc:List (Int × Int)),acc ≠ []→j+q=(intAt c' (o'+i) * k).toNat→all=acc ++ (inn (hsB (strAt c (o+i))) i q j ++ allP c o c' o' k m (i+1))→RunD η Tryd.prog B 29 (RPts.H0 pow ty ty' o o' c c' n' n' cap cap' k) [1,2,7,8,10,12,13,14,28,29] (RPts.S2 pow ty ty' o o' c c' n' n' cap cap' k acc.length (j:Int) (ptV acc) (i:Int) (((intAt c' (o'+i) * k).toNat:Nat):Int) (hsB (strAt c (o+i))) (i:Int) fun _=>undef) (QF Tryd.prog 128 (ptsD tabR [(ty,c),(ty',c')] all)):=by
  intro m i hi next
  have hin:i<n':=by omega
  intro q
  induction q with
  | zero=>
   intro j acc hne hj he
   have c2:=cut2 acc.length (j:Int) (ptV acc) (i:Int) (((intAt c' (o'+i) * k).toNat:Nat):Int) (hsB (strAt c (o+i))) (i:Int)
   simp only [w1 i (by omega)] at c2
   exact c2 ⟨fun q=>by omega,fun _=>next acc hne he⟩
  | succ q ihq=>
   intro j acc hne hj he
   have hlen:acc.length+1≤100000:=by
    have:=congrArg List.length he
    rw [List.length_append,List.length_append,inn_len] at this
    omega
   have hj2:j≤100000:=by
    obtain⟨a1,a2⟩:=hw i hin
    have b1:intAt c' (o'+i) * k≤20 * 100:=Int.mul_le_mul a2 hk.2 (by omega) (by omega)
    omega
   have dl:=dig_len (j:Int) (by omega) (by omega)
   have eP:FN.fnv .u32 16777619 (bytesV (dig (j:Int))) 0 (dig (j:Int)).length (hsB (strAt c (o+i)))=hsP (hsB (strAt c (o+i))) (j:Int):=by unfold hsP;rfl
   have c2:=cut2 acc.length (j:Int) (ptV acc) (i:Int) (((intAt c' (o'+i) * k).toNat:Nat):Int) (hsB (strAt c (o+i))) (i:Int)
   simp only [w1 j (by omega),eP,ptV_snoc] at c2
   have r:=ihq (j+1) (acc ++ [(hsP (hsB (strAt c (o+i))) (j:Int),(i:Int))]) (by simp) (by omega) (by rw [he];simp [inn])
   rw [List.length_append,List.length_singleton] at r
   refine c2 ⟨fun _=>⟨itoa_any hη (hasT1 (by kernel_rfl)) _ (by omega) (by omega),by omega,fun _=>⟨?_,⟨by omega,by rw [ptV_len],by omega⟩,fun _=>⟨⟨np,nc,nc',nn_of (ptV_bare _)⟩,fun _=>r⟩⟩⟩,fun q=>by omega⟩
   rw [← eP]
   exact on3 _ 129 (hsB (strAt c (o+i))) (dig (j:Int)) 2 (capU 1) (by kernel_rfl) (by omega)
 have outer3:∀ (m i:Nat) (acc:List (Int × Int)),i+m=n'→acc ≠ []→all=acc ++ allP c o c' o' k m i→RunD η Tryd.prog B 29 (RPts.H0 pow ty ty' o o' c c' n' n' cap cap' k) [1,2,7,12,13,14] (RPts.S3 pow ty ty' o o' c c' n' n' cap cap' k acc.length (i:Int) (ptV acc) fun _=>undef) (QF Tryd.prog 128 (ptsD tabR [(ty,c),(ty',c')] all)):=by
  intro m
  induction m with
  | zero=>
   intro i acc hi hne he
   have he:all=acc:=by rw [he];unfold allP;rw [List.append_nil]
   subst he
   have c3:=cut3 all.length (i:Int) (ptV all)
   simp only [srtC_eq] at c3
   refine c3 ⟨fun q=>by omega,fun _=>⟨sort_any hη hmix (by kernel_rfl) (by omega),?_⟩⟩
   unfold ptsD
   rw [if_neg hne]
   refine⟨rfl,rfl,fun r a hr=>?_,by kernel_rfl⟩
   rcases objsTT_get hr with⟨x,hx,rfl,rfl⟩ | hr
   ·unfold tabR at hx
    rw [List.mem_singleton] at hx
    subst hx;kernel_rfl
   ·obtain⟨h1,x,hx,rfl⟩:=objsT_get hr
    obtain⟨d,rfl⟩:∃ d,r=126+d:=⟨r - 126,by omega⟩
    rw [Nat.add_sub_cancel_left] at hx
    rcases d with _ | _ | d
    ·simp at hx;subst hx;kernel_rfl
    ·simp at hx;subst hx;kernel_rfl
    ·simp at hx
  | succ m ih=>
   intro i acc hi hne he
   have hin:i<n':=by omega
   have eB:FN.fnv .u32 16777619 (bytesV (strAt c (o+i) ++ [35])) 0 (strAt c (o+i) ++ [35]).length 2166136261=hsB (strAt c (o+i)):=by unfold hsB;rfl
   have inner:=inner m i hi fun acc hne he=>ih (i+1) acc (by omega) hne he
   have c3:=cut3 acc.length (i:Int) (ptV acc)
   simp only [Int.toNat_natCast,hwk i hin,eB] at c3
   have hls:=hl i hin
   refine c3 ⟨fun _=>⟨⟨by omega,by omega⟩,fun _=>⟨hc.2 i hin,fun _=>⟨by omega,fun _=>⟨by rw [List.length_append];simp;omega,fun _=>⟨?_,⟨by omega,by omega⟩,fun _=>⟨hc'.2 i hin,fun _=>⟨⟨np,nc,nc',nn_of (ptV_bare _)⟩,fun _=>inner (intAt c' (o'+i) * k).toNat 0 acc hne (by omega) (by rw [he];rfl)⟩⟩⟩⟩⟩⟩⟩,fun q=>by omega⟩
   rw [← eB]
   exact sm3 _ 129 (strAt c (o+i) ++ [35]) 2 (capU 1) (by kernel_rfl) (by rw [List.length_append];simp;omega)
 have outer0:∀ (m i:Nat),i+m=n'→all=allP c o c' o' k m i→RunD η Tryd.prog B 29 (RPts.H0 pow ty ty' o o' c c' n' n' cap cap' k) [1,2,7,12,13,14] (RPts.S0 pow ty ty' o o' c c' n' n' cap cap' k (i:Int) fun _=>undef) (QF Tryd.prog 128 (ptsD tabR [(ty,c),(ty',c')] all)):=by
  intro m
  induction m with
  | zero=>
   intro i hi he
   have he:all=[]:=he
   refine cut0 (i:Int) ⟨fun q=>by omega,fun _=>⟨sortN_any hη _,?_⟩⟩
   unfold ptsD
   rw [if_pos he]
   exact⟨rfl,rfl⟩
  | succ m ih=>
   intro i hi he
   have hin:i<n':=by omega
   have eB:FN.fnv .u32 16777619 (bytesV (strAt c (o+i) ++ [35])) 0 (strAt c (o+i) ++ [35]).length 2166136261=hsB (strAt c (o+i)):=by unfold hsB;rfl
   have c0:=cut0 (i:Int)
   have c1:=cut1 (i:Int) (((intAt c' (o'+i) * k).toNat:Nat):Int) (hsB (strAt c (o+i))) (i:Int)
   simp only [Int.toNat_natCast,hwk i hin,eB] at c0
   simp only [w1 i (by omega),hsP0] at c1
   have hls:=hl i hin
   refine c0 ⟨fun _=>⟨⟨by omega,by omega⟩,fun _=>⟨hc.2 i hin,fun _=>⟨by omega,fun _=>⟨by rw [List.length_append];simp;omega,fun _=>⟨?_,⟨by omega,by omega⟩,fun _=>⟨hc'.2 i hin,fun _=>⟨⟨np,nc,nc'⟩,fun _=>c1 ⟨fun hq=>?_,fun hq=>ih (i+1) (by omega) ?_⟩⟩⟩⟩⟩⟩⟩⟩,fun q=>by omega⟩
   ·rw [← eB]
    exact sm3 _ 128 (strAt c (o+i) ++ [35]) 2 (capU 1) (by kernel_rfl) (by rw [List.length_append];simp;omega)
   ·obtain⟨q,hq⟩:∃ q,(intAt c' (o'+i) * k).toNat=q+1:=⟨(intAt c' (o'+i) * k).toNat - 1,by omega⟩
    have he':all=inn (hsB (strAt c (o+i))) i (intAt c' (o'+i) * k).toNat 0 ++ allP c o c' o' k m (i+1):=he
    rw [hq] at he'
    have r:=inner m i hi (fun acc hne he=>outer3 m (i+1) acc (by omega) hne he) q 1 [(hsP (hsB (strAt c (o+i))) ((0:Nat):Int),(i:Int))] (by simp) (by omega) he'
    refine⟨itoa_any hη (hasT1 (by kernel_rfl)) _ (by omega) (by omega),?_,⟨np,nc,nc'⟩,fun _=>r⟩
    have z:=fun (H:AH) (hr:H.objs.get 128=some (.cells 5 (bytesV [48]) false 2))=>FN.onV_any (B:=B) (cap:=capU 1) hη (pre:=[.int .u32 (hsB (strAt c (o+i)))]) hr (FN.row_bytes [48]) (fun _ _=>.cons (.int _ _) .nil) (FN.HO3_can hη hmix (hsB (strAt c (o+i))) (FN.row_bytes [48]) (by decide))
    rw [show FN.fnv .u32 16777619 (bytesV [48]) 0 [(48:UInt8)].length (hsB (strAt c (o+i)))=hsP (hsB (strAt c (o+i))) ((0:Nat):Int) from hsP0 _] at z
    exact z _ (by kernel_rfl)
   ·have he':all=inn (hsB (strAt c (o+i))) i (intAt c' (o'+i) * k).toNat 0 ++ allP c o c' o' k m (i+1):=he
    rw [he',show(intAt c' (o'+i) * k).toNat=0 by omega];rfl
 exact outer0 n' 0 (by omega) hall.symm
end RG
end Go.Ev

/- Rings of backends: names and weights copied. -/
namespace Go.Ev
open Go Go.Proofs
variable {η:Nat→Value} {B:Bd}
namespace RG
theorem clone_can(hη:OneCells η)(hmix:Tryd.prog.follows .mixedOrders=true)(s:List UInt8)(hs:s.length≤1000000) :
  CallSpec η Tryd.prog B 40 [.string ⟨⟨s⟩⟩] (heapN 126) fun v _=>v = .string ⟨⟨s⟩⟩:=by
 refine RSCl.enter hη hmix (reg0 hη hmix) s ?_
 have e1:(s.length:Int).toNat=s.length:=Int.toNat_natCast _
 have e2:s.length.min s.length=s.length:=Nat.min_self _
 have e3:List.take s.length s=s:=List.take_of_length_le (Nat.le_refl _)
 have e4:splice (List.replicate s.length (Value.int IntKind.u8 (0:Int))) 0 (bytesV s)=bytesV s:=splice_all (by rw [List.length_replicate,bytesV_len])
 simp only [W.holds,true_and,and_true,true_implies,e1,e2,e3,e4,Int.toNat_natCast,take_bytesV,bytesOf_bytesV,bytesIn_all,bytesV_len,bytesV_one,Nat.mul_one,Nat.zero_add,rep_one,List.length_replicate,beq_iff_eq,beq_eq_false_iff_ne]
 refine⟨fun h=>?_,fun h=>⟨⟨by omega,by omega,by omega⟩,fun _=>⟨Nat.le_refl _,fun _=>⟨fun h0=>by omega,fun h0=>⟨⟨by omega,by omega⟩,fun _=>⟨⟨by omega,by omega,Nat.le_refl _⟩,fun _=>⟨fun h1=>by omega,fun _=>trivial⟩⟩⟩⟩⟩⟩⟩
 have:s=[]:=List.length_eq_zero_iff.1 (by omega)
 rw [this]
theorem clone_any(hη:OneCells η)(hmix:Tryd.prog.follows .mixedOrders=true)(s:List UInt8)(hs:s.length≤1000000)(H:AH):CallSpec η Tryd.prog B 40 [.string ⟨⟨s⟩⟩] H (KT.ret (.string ⟨⟨s⟩⟩) H).sat:=
 CallSpec.bare hη FN.gs9 (N:=126) (fun _ _=>.cons (.string _) .nil) (fun _ _=>.string _) (fun _ _=>.string _) (clone_can hη hmix s hs) H
theorem strR_len(c:List Value)(o:Nat):∀ m i,(strR c o m i).length=m
 | 0,_=>rfl
 | m+1,i=>by unfold strR;rw [List.length_cons,strR_len c o m]
theorem strR_snoc(c:List Value)(o:Nat):∀ m i,strR c o (m+1) i=strR c o m i ++ [.string ⟨⟨strAt c (o+(i+m))⟩⟩]
 | 0,i=>rfl
 | m+1,i=>by
  rw [show strR c o (m+1+1) i = .string ⟨⟨strAt c (o+i)⟩⟩ :: strR c o (m+1) (i+1) from rfl,strR_snoc c o m (i+1),show i+1+m=i+(m+1) by omega]
  rfl
theorem rep_len(z:Value):∀ m,(rep [z] m).length=m
 | 0=>rfl
 | m+1=>by unfold rep;rw [List.length_append,rep_len z m];simp;omega
theorem rep_splice(z:Value)(l:List Value)(m:Nat)(v:Value):splice (l ++ rep [z] (m+1)) l.length [v]=(l ++ [v]) ++ rep [z] m:=by
 unfold splice
 rw [List.take_left,List.length_singleton,List.drop_append,List.drop_of_length_le (by omega),Nat.add_sub_cancel_left]
 rfl
set_option maxHeartbeats 2000000 in
theorem cpN_can(hη:OneCells η)(hmix:Tryd.prog.follows .mixedOrders=true){ty o n cap:Nat}{c:List Value}(hc:RowS c o n)(hn:n≤100000)(hl:∀ i,i<n→(strAt c (o+i)).length≤1000000) :
  CallSpec η Tryd.prog B 28 [.slice (some ⟨126,o,none⟩) n cap] (heapT [(ty,c)]) fun v h=>v = .slice (some ⟨127,0,none⟩) n n∧h=withRow (heapT [(ty,c)]) 9 (strR c o n 0) true:=by
 have nc:=nn_of hc.1
 have cut:=fun i0 l0=>RCpN.cut0 (η:=η) (B:=B) (D:=fun v h=>v = .slice (some ⟨127,0,none⟩) n n∧h=withRow (heapT [(ty,c)]) 9 (strR c o n 0) true) hη hmix (reg0 hη hmix) ty o c n cap i0 l0
 refine RCpN.enter hη hmix (reg0 hη hmix) _ _ _ _ _ ?_
 simp only [W.holds,true_and,and_true,decide_eq_true_eq,decide_eq_false_iff_not,Nat.mul_one,true_implies,Int.toNat_natCast,Nat.zero_add] at cut ⊢
 have loop:∀ (m i:Nat),i+m=n→RunD η Tryd.prog B 28 (RCpN.H0 ty o c n cap) [3,9,10,11] (RCpN.S0 ty o c n cap (i:Int) (strR c o i 0 ++ rep [.string ⟨#[]⟩] m) fun _=>undef) (QF Tryd.prog 127 fun v h=>v = .slice (some ⟨127,0,none⟩) n n∧h=withRow (heapT [(ty,c)]) 9 (strR c o n 0) true):=by
  intro m
  induction m with
  | zero=>
   intro i hi
   have:i=n:=by omega
   subst this
   refine cut _ _ ⟨fun q=>by omega,fun _=>?_⟩
   rw [show rep [Value.string ⟨#[]⟩] 0=[] from rfl,List.append_nil]
   kernel_rfl
  | succ m ih=>
   intro i hi
   have c1:=cut (i:Int) (strR c o i 0 ++ rep [.string ⟨#[]⟩] (m+1))
   have e:splice (strR c o i 0 ++ rep [Value.string ⟨#[]⟩] (m+1)) i [.string ⟨⟨strAt c (o+i)⟩⟩]=strR c o (i+1) 0 ++ rep [Value.string ⟨#[]⟩] m:=by
    have:=rep_splice (.string ⟨#[]⟩) (strR c o i 0) m (.string ⟨⟨strAt c (o+i)⟩⟩)
    rw [strR_len] at this
    rw [this,strR_snoc,Nat.zero_add]
   simp only [w1 i (by omega),Int.toNat_natCast,e] at c1
   exact c1 ⟨fun _=>⟨⟨by omega,by omega⟩,fun _=>⟨hc.2 i (by omega),fun _=>⟨clone_any hη hmix _ (hl i (by omega)) _,⟨by omega,by omega⟩,fun _=>⟨by rw [List.length_append,strR_len,rep_len];omega,fun _=>ih (i+1) (by omega)⟩⟩⟩⟩,fun q=>by omega⟩
 exact⟨⟨by omega,by omega,by omega⟩,fun _=>loop n 0 (by omega)⟩
theorem clo_can(hη:OneCells η)(hmix:Tryd.prog.follows .mixedOrders=true){ty o n cap:Nat}{c:List Value}(hc:RowI c o n)(hn:n≤100000)(h0:0<n) :
  CallSpec η Tryd.prog B 19 [.slice (some ⟨126,o,none⟩) n cap] (heapT [(ty,c)]) fun v h=>v = .slice (some ⟨127,0,none⟩) n (capU 1)∧h=withRow (heapT [(ty,c)]) 3 (cutI c o n) false:=by
 have hle:o+n≤c.length:=by
  have:=(List.getElem?_eq_some_iff.1 (hc.2 (n - 1) (by omega))).1
  omega
 have hb:(cutI c o n).all bareV=true:=List.all_eq_true.2 fun v hv=>List.all_eq_true.1 hc.1 v (List.mem_of_mem_drop (List.mem_of_mem_take hv))
 have ho:(cutI c o n).all oneC=true:=FN.one_row (o:=0) (n:=0) ⟨hb,fun i hi=>by omega⟩
 refine RClo.enter hη hmix (reg0 hη hmix) _ _ _ _ _ ?_
 simp only [W.holds,true_and,and_true,true_implies,Nat.mul_one,Nat.zero_add,List.nil_append]
 exact⟨⟨hle,h0,by omega,by rw [List.length_take,List.length_drop];omega,ho⟩,fun _=>⟨⟨nn_of hc.1,nn_of hb⟩,fun _=>⟨rfl,by kernel_rfl⟩⟩⟩
end RG
end Go.Ev

namespace Go.Ev
open Go Go.Proofs
open Go.Ev.T renaming node → nN, nil → nZ
open Go.Proofs.Tryd (prog)
set_option maxRecDepth 100000
set_option maxHeartbeats 2000000
namespace RBin
noncomputable def bd:Code:=(Go.Proofs.Tryd.f44.body).getD .skip
noncomputable def H0(ty:Nat)(c:List Value)(n cap:Nat)(x:Int):AH:={ objs:=eE nZ (eE nZ (eE nZ (eE nZ (eE nZ (eE nZ (lL (AObj.cells ty c false 0))))))),next:=127 }
noncomputable def E(ty:Nat)(c:List Value)(n cap:Nat)(x:Int):AS:=⟨⟨44,49,nS (sS 126 0 n cap) (lL (Value.int IntKind.u32 x)) (lL (Value.func (Fn.func 45) ⟨[]⟩ ⟨[]⟩)),[Item.code (codeAt bd [])],[],FrameMode.run,CallKind.normal,none⟩,[],H0 ty c n cap x⟩
noncomputable def S0(ty:Nat)(c:List Value)(n cap:Nat)(x i0 i1:Int)(d:Nat→Value):AS:=⟨⟨44,49,nS (sS 126 0 n cap) (nS (Value.int IntKind.u32 x) (nS (d 3) (nS (d 7) (nS (d 15) (lL (d 31)) (lL (d 47))) (nS (d 23) (lL (d 39)) nZ)) (nS (d 11) (nS (d 19) (lL (d 35)) nZ) (nS (d 27) (lL (d 43)) nZ))) (nS (d 5) (nS (iI i0) (nS (d 17) (lL (d 33)) nZ) (nS (d 25) (lL (d 41)) nZ)) (nS (d 13) (nS (d 21) (lL (d 37)) nZ) (nS (d 29) (lL (d 45)) nZ)))) (nS (Value.func (Fn.func 45) ⟨[]⟩ ⟨[]⟩) (nS (d 4) (nS (iI (↑n:Int)) (nS (d 16) (lL (d 32)) (lL (d 48))) (nS (d 24) (lL (d 40)) nZ)) (nS (d 12) (nS (d 20) (lL (d 36)) nZ) (nS (d 28) (lL (d 44)) nZ))) (nS (d 6) (nS (iI i1) (nS (d 18) (lL (d 34)) nZ) (nS (d 26) (lL (d 42)) nZ)) (nS (d 14) (nS (d 22) (lL (d 38)) nZ) (nS (d 30) (lL (d 46)) nZ)))),[Item.code (codeAt bd [1,1,1,0,0,0]),Item.inLoop (codeAt bd [1,1,1,0,0,0]),Item.inBlock 0,Item.code (codeAt bd [1,1,1,1])],[],FrameMode.run,CallKind.normal,none⟩,[],⟨eE nZ (eE nZ (eE nZ (eE nZ (eE nZ (eE nZ (lL (AObj.cells ty c false 0))))))),127⟩⟩
theorem enter{η:Nat→Value}{B:Bd}(hη:OneCells η)(hmix:prog.follows .mixedOrders=true)(hreg:RegOk η prog B noNest){D:Value→AH→Prop}(ty:Nat)(c:List Value)(n cap:Nat)(x:Int)(h:W.holds η prog B 44 (fun kp_ st_=>RunD η prog B 44 (H0 ty c n cap x) kp_ st_ (QF prog 127 D)) D (.stop [0,1,2,8,9,10] (S0 ty c n cap x (0) ((↑n:Int)) (fun _=>undef)))):CallSpec η prog B 44 [Value.slice (some ⟨126,0,none⟩) n cap,Value.int IntKind.u32 x,Value.func (Fn.func 45) ⟨[]⟩ ⟨[]⟩] (H0 ty c n cap x) D:=by
 refine CallSpec.ofQF hη (CallSpec.enter (fr:=(E ty c n cap x).fr) (by kernel_rfl) ?_)
 exact walk_okT (h0:=H0 ty c n cap x) hη hmix hreg (.steps 20 <| .stop [0,1,2,8,9,10] none) (E ty c n cap x) (by kernel_rfl) h (by kernel_rfl)
theorem cut0{η:Nat→Value}{B:Bd}(hη:OneCells η)(hmix:prog.follows .mixedOrders=true)(hreg:RegOk η prog B noNest){D:Value→AH→Prop}(ty:Nat)(c:List Value)(n cap:Nat)(x i0 i1:Int)(h:let q6:=(intAt c (0+i0.toNat * 2));let q5:=((IntKind.u64.wrap (IntKind.i64.wrap (i0+i1))).fdiv (2:Int));let q4:=(IntKind.i64.wrap ((IntKind.u64.wrap (IntKind.i64.wrap (i0+i1))).fdiv 2));let q3:=(IntKind.i64.wrap q5);let q2:=(intAt c (0+q4.toNat * 2));let q1:=(intAt c ((0:Nat)+q3.toNat * (2:Nat)));let q0:AH:=⟨eE nZ (eE nZ (eE nZ (eE nZ (eE nZ (eE nZ (lL (AObj.cells ty c false 0))))))),127⟩;W.holds η prog B 44 (fun kp_ st_=>RunD η prog B 44 (H0 ty c n cap x) kp_ st_ (QF prog 127 D)) D (.ite (decide (i0<i1)) (.need ((0:Int)≤IntKind.i64.wrap q5∧IntKind.i64.wrap q5<(↑n:Int)) (.need ((0:Nat)+q3.toNat * (2:Nat)+(2:Nat)≤c.length∧List.take (2:Nat) (List.drop ((0:Nat)+q3.toNat * (2:Nat)) c)=[Value.int IntKind.u32 q1,Value.int IntKind.i64 (intAt c ((0:Nat)+q3.toNat * (2:Nat)+(1:Nat)))]) (.call 45 [Value.agg ⟨[Value.int IntKind.u32 q2,Value.int IntKind.i64 (intAt c (0+q4.toNat * 2+1))]⟩,Value.int IntKind.u32 x] (q0) (.ret (Value.int IntKind.i64 (RG.cmpI q2 x)) (q0)) (.ite (decide (RG.cmpI q1 x<(0:Int))) (.stop [0,1,2,8,9,10] (S0 ty c n cap x (IntKind.i64.wrap (IntKind.i64.wrap ((IntKind.u64.wrap (IntKind.i64.wrap (i0+i1))).fdiv 2)+1)) (i1) (fun _=>undef))) (.stop [0,1,2,8,9,10] (S0 ty c n cap x (i0) q4 (fun _=>undef))))))) (.ite (decide (i0<(↑n:Int))) (.need ((0:Int)≤i0∧i0<(↑n:Int)) (.need ((0:Nat)+i0.toNat * (2:Nat)+(2:Nat)≤c.length∧List.take (2:Nat) (List.drop ((0:Nat)+i0.toNat * (2:Nat)) c)=[Value.int IntKind.u32 (intAt c ((0:Nat)+i0.toNat * (2:Nat))),Value.int IntKind.i64 (intAt c ((0:Nat)+i0.toNat * (2:Nat)+(1:Nat)))]) (.call 45 [Value.agg ⟨[Value.int IntKind.u32 q6,Value.int IntKind.i64 (intAt c (0+i0.toNat * 2+1))]⟩,Value.int IntKind.u32 x] (q0) (.ret (Value.int IntKind.i64 (RG.cmpI q6 x)) (q0)) (.done 44 (Value.tuple ⟨[Value.int IntKind.i64 i0,Value.bool (RG.cmpI q6 x == 0)]⟩) (H0 ty c n cap x))))) (.done 44 (Value.tuple ⟨[Value.int IntKind.i64 i0,Value.bool false]⟩) (H0 ty c n cap x))))):RunD η prog B 44 (H0 ty c n cap x) [0,1,2,8,9,10] (S0 ty c n cap x i0 i1 fun _=>undef) (QF prog 127 D):=by
 refine RunD.intro (S0 ty c n cap x i0 i1) (fun d=>⟨rfl,rfl,rfl⟩) (fun d=>tmOk_get (by kernel_rfl)) (fun d=>by kernel_rfl) (fun d=>?_)
 exact walk_okT (h0:=H0 ty c n cap x) hη hmix hreg (.steps 7 <| .bit 17 (.steps 18 <| .op <| .op <| .steps 1 <| .call kN <| .steps 2 <| .bit 31 (.steps 8 <| .stop [0,1,2,8,9,10] none) (.steps 7 <| .stop [0,1,2,8,9,10] none)) (.steps 9 <| .bit 39 (.steps 3 <| .op <| .op <| .steps 1 <| .call kN <| .steps 6 <| .done none) (.steps 13 <| .done none))) (S0 ty c n cap x i0 i1 d) (by kernel_rfl) h (by kernel_rfl)
end RBin
end Go.Ev

/- Rings of backends: points compared, points searched. -/
namespace Go.Ev
open Go Go.Proofs
variable {η:Nat→Value} {B:Bd}
namespace RG
theorem pt_at{l:List (Int × Int)}{i:Nat}(h:i<l.length):i * 2+2≤(ptV l).length∧List.take 2 (List.drop (i * 2) (ptV l))=[.int .u32 (intAt (ptV l) (i * 2)),.int .i64 (intAt (ptV l) (i * 2+1))]∧intAt (ptV l) (i * 2)=l[i].1∧intAt (ptV l) (i * 2+1)=l[i].2:=by
 obtain⟨g1,g2⟩:=ptV_get l h
 have e1:intAt (ptV l) (i * 2)=l[i].1:=by unfold intAt;rw [g1]
 have e2:intAt (ptV l) (i * 2+1)=l[i].2:=by unfold intAt;rw [g2]
 have hlen:i * 2+2≤(ptV l).length:=by rw [ptV_len];omega
 refine⟨hlen,?_,e1,e2⟩
 rw [e1,e2]
 refine List.ext_getElem? fun t=>?_
 rw [List.getElem?_take]
 match t with
 | 0=>rw [if_pos (by decide),List.getElem?_drop,Nat.add_zero,g1];rfl
 | 1=>rw [if_pos (by decide),List.getElem?_drop,g2];rfl
 | t+2=>rw [if_neg (by omega)];rfl
set_option maxHeartbeats 2000000 in
theorem equ_can(hη:OneCells η)(hmix:Tryd.prog.follows .mixedOrders=true){ty ty' cap cap':Nat}{a b:List (Int × Int)}(ha:a.length≤1000000) :
  CallSpec η Tryd.prog B 18 [.slice (some ⟨126,0,none⟩) a.length cap,.slice (some ⟨127,0,none⟩) b.length cap'] (heapT [(ty,ptV a),(ty',ptV b)]) fun v h=>v = .bool (decide (a=b))∧h=heapT [(ty,ptV a),(ty',ptV b)]:=by
 have na:=nn_of (ptV_bare a)
 have nb:=nn_of (ptV_bare b)
 have e0:REqu.H0 ty ty' 0 0 (ptV a) (ptV b) a.length b.length cap cap'=heapT [(ty,ptV a),(ty',ptV b)]:=rfl
 rw [← e0]
 have cut:=fun i0=>REqu.cut0 (η:=η) (B:=B) (D:=fun v h=>v = .bool (decide (a=b))∧h=REqu.H0 ty ty' 0 0 (ptV a) (ptV b) a.length b.length cap cap') hη hmix (reg0 hη hmix) ty ty' 0 0 (ptV a) (ptV b) a.length b.length cap cap' i0
 refine REqu.enter hη hmix (reg0 hη hmix) _ _ _ _ _ _ _ _ _ _ ?_
 simp only [W.holds,true_and,and_true,decide_eq_true_eq,decide_eq_false_iff_not,Nat.zero_add,true_implies,bne_iff_ne,ne_eq,bne_eq_false_iff_eq] at cut ⊢
 refine⟨fun h=>?_,fun h=>?_⟩
 ·rw [decide_eq_false (fun q=>h (by rw [q]))]
 ·have hl:a.length=b.length:=by omega
  have loop:∀ (m i:Nat),i+m=a.length→(∀ t (h1:t<a.length) (h2:t<b.length),t<i→a[t]=b[t])→RunD η Tryd.prog B 18 (REqu.H0 ty ty' 0 0 (ptV a) (ptV b) a.length b.length cap cap') [0,1,12,13] (REqu.S0 ty ty' 0 0 (ptV a) (ptV b) a.length b.length cap cap' (i:Int) fun _=>undef) (QF Tryd.prog 128 fun v h=>v = .bool (decide (a=b))∧h=REqu.H0 ty ty' 0 0 (ptV a) (ptV b) a.length b.length cap cap'):=by
   intro m
   induction m with
   | zero=>
    intro i hi hp
    refine cut _ ⟨fun q=>by omega,fun _=>?_⟩
    rw [decide_eq_true (List.ext_getElem hl fun t h1 h2=>hp t h1 h2 (by omega))]
   | succ m ih=>
    intro i hi hp
    have hia:i<a.length:=by omega
    have hib:i<b.length:=by omega
    obtain⟨a1,a2,a3,a4⟩:=pt_at hia
    obtain⟨b1,b2,b3,b4⟩:=pt_at hib
    have c1:=cut (i:Int)
    simp only [w1 i (by omega),Int.toNat_natCast] at c1
    refine c1 ⟨fun _=>⟨⟨by omega,by omega⟩,fun _=>⟨⟨a1,a2⟩,fun _=>⟨⟨by omega,by omega⟩,fun _=>⟨⟨b1,b2⟩,fun _=>⟨fun h=>⟨⟨na,nb⟩,fun _=>?_⟩,fun h=>⟨⟨na,nb⟩,fun _=>ih (i+1) (by omega) fun t h1 h2 ht=>?_⟩⟩⟩⟩⟩⟩,fun q=>by omega⟩
    ·rw [a3,a4,b3,b4] at h
     rw [decide_eq_false (fun q=>by subst q;simp at h)]
    ·rcases Nat.lt_or_ge t i with q | q
     ·exact hp t h1 h2 q
     ·have:t=i:=by omega
      subst this
      rw [a3,a4,b3,b4] at h
      simp at h
      exact Prod.ext h.1 h.2
  exact loop a.length 0 (by omega) (fun t _ _ h=>by omega)
theorem mid_eq{a b:Nat}(h:a+b≤2000000):IntKind.i64.wrap ((IntKind.u64.wrap (IntKind.i64.wrap ((a:Int)+(b:Int)))).fdiv 2)=(((a+b) / 2:Nat):Int):=by
 rw [wrap_small (n:=(a:Int)+(b:Int)) (by omega) (by omega)]
 have e:IntKind.u64.wrap ((a:Int)+(b:Int))=((a+b:Nat):Int):=by
  simp only [IntKind.wrap,IntKind.bits,IntKind.signed]
  simp
  omega
 rw [e]
 have e2:(((a+b:Nat):Int)).fdiv 2=(((a+b) / 2:Nat):Int):=by
  rw [Int.fdiv_eq_ediv_of_nonneg _ (by omega)];rfl
 rw [e2,wrap_small (by omega) (by omega)]
set_option maxHeartbeats 2000000 in
theorem bin_can(hη:OneCells η)(hmix:Tryd.prog.follows .mixedOrders=true){ty cap p:Nat}{l:List (Int × Int)}{x:Int}(hn:l.length≤1000000)(hp:p≤l.length)(h1:∀ t (h:t<l.length),t<p→l[t].1<x)(h2:∀ t (h:t<l.length),p≤t→¬ l[t].1<x) :
  CallSpec η Tryd.prog B 44 [.slice (some ⟨126,0,none⟩) l.length cap,.int .u32 x,.func (.func 45) #[] #[]] (heapT [(ty,ptV l)]) fun v h=>v = .tuple ⟨[.int .i64 (p:Int),.bool (decide (p<l.length) && (cmpI (intAt (ptV l) (p * 2)) x == 0))]⟩∧h=heapT [(ty,ptV l)]:=by
 have e0:RBin.H0 ty (ptV l) l.length cap x=heapT [(ty,ptV l)]:=rfl
 rw [← e0]
 have cut:=fun i0 i1=>RBin.cut0 (η:=η) (B:=B) (D:=fun v h=>v = .tuple ⟨[.int .i64 (p:Int),.bool (decide (p<l.length) && (cmpI (intAt (ptV l) (p * 2)) x == 0))]⟩∧h=RBin.H0 ty (ptV l) l.length cap x) hη hmix (reg0 hη hmix) ty (ptV l) l.length cap x i0 i1
 refine RBin.enter hη hmix (reg0 hη hmix) _ _ _ _ _ ?_
 simp only [W.holds,true_and,and_true,decide_eq_true_eq,decide_eq_false_iff_not,Nat.zero_add,true_implies] at cut ⊢
 have loop:∀ (d a b:Nat),b - a=d→a≤p→p≤b→b≤l.length→RunD η Tryd.prog B 44 (RBin.H0 ty (ptV l) l.length cap x) [0,1,2,8,9,10] (RBin.S0 ty (ptV l) l.length cap x (a:Int) (b:Int) fun _=>undef) (QF Tryd.prog 127 fun v h=>v = .tuple ⟨[.int .i64 (p:Int),.bool (decide (p<l.length) && (cmpI (intAt (ptV l) (p * 2)) x == 0))]⟩∧h=RBin.H0 ty (ptV l) l.length cap x):=by
  intro d
  induction d using Nat.strongRecOn with
  | _ d ih=>
   intro a b hd ha hb hbl
   have c1:=cut (a:Int) (b:Int)
   simp only [mid_eq (show a+b≤2000000 by omega),Int.toNat_natCast,w1 ((a+b) / 2) (by omega)] at c1
   refine c1 ⟨fun q=>?_,fun q=>?_⟩
   ·have hm:(a+b) / 2<l.length:=by omega
    obtain⟨a1,a2,a3,a4⟩:=pt_at hm
    refine⟨⟨by omega,by omega⟩,fun _=>⟨⟨a1,a2⟩,fun _=>⟨cmpH_any hη hmix _ _ _ _,fun h=>ih (b - ((a+b) / 2+1)) (by omega) _ _ rfl ?_ hb hbl,fun h=>ih ((a+b) / 2 - a) (by omega) _ _ rfl ha ?_ (by omega)⟩⟩⟩
    ·rw [cmpI_neg,a3] at h
     rcases Nat.lt_or_ge ((a+b) / 2) p with r | r
     ·omega
     ·exact absurd h (h2 _ hm r)
    ·rw [cmpI_neg,a3] at h
     rcases Nat.lt_or_ge ((a+b) / 2) p with r | r
     ·exact absurd (h1 _ hm r) h
     ·exact r
   ·have hap:a=p:=by omega
    subst hap
    refine⟨fun h=>?_,fun h=>?_⟩
    ·have hal:a<l.length:=by omega
     obtain⟨a1,a2,a3,a4⟩:=pt_at hal
     refine⟨⟨by omega,by omega⟩,fun _=>⟨⟨a1,a2⟩,fun _=>⟨cmpH_any hη hmix _ _ _ _,?_⟩⟩⟩
     rw [decide_eq_true hal,Bool.true_and]
    ·rw [decide_eq_false (by omega),Bool.false_and]
 exact loop _ 0 l.length rfl (by omega) hp (Nat.le_refl _)
end RG
end Go.Ev

namespace Go.Ev
open Go Go.Proofs
open Go.Ev.T renaming node → nN, nil → nZ
open Go.Proofs.Tryd (prog)
set_option maxRecDepth 100000
set_option maxHeartbeats 2000000
namespace RCkNN
noncomputable def bd:Code:=(Go.Proofs.Tryd.f8.body).getD .skip
noncomputable def H0(tb:List Value)(ty ty' ty2 o o':Nat)(c c' c2:List Value)(n n' m cap cap' cap2:Nat)(kn:Int):AH:={ objs:=nS (AObj.cells 115 tb true 0) (eE (eE (eE (eE (eE (eE (lL (AObj.cells ty' c' false 0)) nZ) nZ) nZ) nZ) nZ) nZ) (eE (eE (eE (eE (eE (eE (lL (AObj.cells ty2 c2 false 0)) nZ) nZ) nZ) nZ) nZ) (eE nZ (eE nZ (eE nZ (eE nZ (lL (AObj.cells ty c false 0))))))),next:=129 }
noncomputable def E(tb:List Value)(ty ty' ty2 o o':Nat)(c c' c2:List Value)(n n' m cap cap' cap2:Nat)(kn:Int):AS:=⟨⟨8,24,lL (Value.agg ⟨[sS 126 o n cap,Value.slice (some ⟨127,o',none⟩) n' cap',iI kn,sS 128 0 m cap2]⟩),[Item.code (codeAt bd [])],[],FrameMode.run,CallKind.normal,none⟩,[],H0 tb ty ty' ty2 o o' c c' c2 n n' m cap cap' cap2 kn⟩
theorem enter{η:Nat→Value}{B:Bd}(hη:OneCells η)(hmix:prog.follows .mixedOrders=true)(hreg:RegOk η prog B noNest){D:Value→AH→Prop}(tb:List Value)(ty ty' ty2 o o':Nat)(c c' c2:List Value)(n n' m cap cap' cap2:Nat)(kn:Int)(h:let q8:=(RG.chkI c o n c' o' n' kn != (0:Int));let q7:=(Value.int IntKind.i64 (RG.chkI c o n c' o' n' kn));let q6:W:=(.need (NoNames tb∧NoNames c∧NoNames c'∧NoNames c2∧True) (.done 8 (Value.int IntKind.i64 0) (H0 tb ty ty' ty2 o o' c c' c2 n n' m cap cap' cap2 kn)));let q5:W:=(.need (NoNames tb∧NoNames c∧NoNames c'∧NoNames c2∧True) (.done 8 (Value.int IntKind.i64 6) (H0 tb ty ty' ty2 o o' c c' c2 n n' m cap cap' cap2 kn)));let q4:AH:=⟨nS (AObj.cells 115 tb true 0) (eE (eE (eE (eE (eE (eE (lL (AObj.cells ty' c' false 0)) nZ) nZ) nZ) nZ) nZ) (eE (eE (eE (eE (eE (lL (AObj.cells 26 [sS 126 o n cap,Value.slice (some ⟨127,o',none⟩) n' cap',iI kn,sS 128 0 m cap2] true 2)) nZ) nZ) nZ) nZ) nZ)) (eE (eE (eE (eE (eE (eE (lL (AObj.cells ty2 c2 false 0)) nZ) nZ) nZ) nZ) nZ) (eE (eE (eE (eE (eE (lL (AObj.cells 26 [Value.slice none 0 0,Value.slice none 0 0,iI 0,Value.slice none 0 0] true 2)) nZ) nZ) nZ) nZ) (eE nZ (eE nZ (eE nZ (lL (AObj.cells ty c false 0))))))),131⟩;let q3:AH:=⟨nS (AObj.cells 115 tb true 0) (eE (eE (eE (eE (eE (eE (lL (AObj.cells ty' c' false 0)) nZ) nZ) nZ) nZ) (eE (eE (eE (eE (lL (AObj.cells 9 (RG.strC c o n) true 2)) nZ) nZ) nZ) nZ)) (eE (eE (eE (eE (eE (lL (AObj.cells 26 [sS 126 o n cap,Value.slice (some ⟨127,o',none⟩) n' cap',iI kn,sS 128 0 m cap2] true 2)) nZ) nZ) nZ) nZ) nZ)) (eE (eE (eE (eE (eE (eE (lL (AObj.cells ty2 c2 false 0)) nZ) nZ) nZ) nZ) nZ) (eE (eE (eE (eE (eE (lL (AObj.cells 26 [Value.slice none 0 0,Value.slice none 0 0,iI 0,Value.slice none 0 0] true 2)) nZ) nZ) nZ) nZ) (eE nZ (eE nZ (eE nZ (lL (AObj.cells ty c false 0))))))),132⟩;let q2:AH:=⟨nS (AObj.cells 115 tb true 0) (eE (eE (eE (eE (eE (eE (lL (AObj.cells ty' c' false 0)) nZ) nZ) nZ) nZ) (eE (eE (eE (eE (lL (AObj.cells 26 [Value.slice none 0 0,Value.slice none 0 0,iI 0,Value.slice none 0 0] true 2)) nZ) nZ) nZ) nZ)) (eE (eE (eE (eE (eE (lL (AObj.cells 26 [sS 126 o n cap,Value.slice (some ⟨127,o',none⟩) n' cap',iI kn,sS 128 0 m cap2] true 2)) nZ) nZ) nZ) nZ) nZ)) (eE (eE (eE (eE (eE (eE (lL (AObj.cells ty2 c2 false 0)) nZ) nZ) nZ) nZ) nZ) (eE (eE (eE (eE (eE (lL (AObj.cells 26 [Value.slice none 0 0,Value.slice none 0 0,iI 0,Value.slice none 0 0] true 2)) nZ) nZ) nZ) nZ) (eE nZ (eE nZ (eE nZ (lL (AObj.cells ty c false 0))))))),132⟩;let q1:AH:=⟨nS (AObj.cells 115 tb true 0) (eE (eE (eE (eE (eE (eE (lL (AObj.cells ty' c' false 0)) nZ) nZ) nZ) nZ) (eE (eE (eE (eE (lL (AObj.cells 9 (RG.strC c o n) true 2)) nZ) nZ) nZ) nZ)) (eE (eE (eE (eE (eE (lL (AObj.cells 26 [sS 126 o n cap,Value.slice (some ⟨127,o',none⟩) n' cap',iI kn,sS 128 0 m cap2] true 2)) nZ) nZ) nZ) nZ) nZ)) (eE (eE (eE (eE (eE (eE (lL (AObj.cells ty2 c2 false 0)) nZ) nZ) nZ) nZ) (eE (eE (eE (eE (lL (AObj.cells 3 (RG.cutC c' o' n') false 2)) nZ) nZ) nZ) nZ)) (eE (eE (eE (eE (eE (lL (AObj.cells 26 [Value.slice none 0 0,Value.slice none 0 0,iI 0,Value.slice none 0 0] true 2)) nZ) nZ) nZ) nZ) (eE nZ (eE nZ (eE nZ (lL (AObj.cells ty c false 0))))))),133⟩;let q0:AH:=⟨nS (AObj.cells 115 tb true 0) (eE (eE (eE (eE (eE (eE (lL (AObj.cells ty' c' false 0)) nZ) nZ) nZ) nZ) (eE (eE (eE (eE (lL (AObj.cells 9 (RG.strC c o n) true 2)) nZ) nZ) nZ) nZ)) (eE (eE (eE (eE (eE (lL (AObj.cells 26 [sS 126 o n cap,Value.slice (some ⟨127,o',none⟩) n' cap',iI kn,sS 128 0 m cap2] true 2)) nZ) nZ) nZ) nZ) (eE (eE (eE (eE (lL (AObj.cells 55 (RG.srtP c o c' o' kn n) false 2)) nZ) nZ) nZ) nZ))) (eE (eE (eE (eE (eE (eE (lL (AObj.cells ty2 c2 false 0)) nZ) nZ) nZ) nZ) (eE (eE (eE (eE (lL (AObj.cells 3 (RG.cutC c' o' n') false 2)) nZ) nZ) nZ) nZ)) (eE (eE (eE (eE (eE (lL (AObj.cells 26 [sS 131 0 n n,sS 132 0 n' 9223372036854775809,iI kn,sS 133 0 (RG.lenP c o c' o' kn n) u2] true 2)) nZ) nZ) nZ) nZ) (eE (eE (eE (eE (lL (AObj.cells 26 [sS 131 0 n n,sS 132 0 n' 9223372036854775809,iI kn,sS 133 0 (RG.lenP c o c' o' kn n) u2] true 2)) nZ) nZ) nZ) (eE nZ (eE nZ (lL (AObj.cells ty c false 0))))))),135⟩;W.holds η prog B 8 (fun kp_ st_=>RunD η prog B 8 (H0 tb ty ty' ty2 o o' c c' c2 n n' m cap cap' cap2 kn) kp_ st_ (QF prog 129 D)) D (.call 27 [Value.slice (some ⟨126,o,none⟩) n cap,Value.slice (some ⟨127,o',none⟩) n' cap',Value.int IntKind.i64 kn] (q4) (.ret q7 (q4)) (.ite q8 (.ite q8 (.need (NoNames tb∧NoNames c∧NoNames c'∧NoNames c2∧True) (.done 8 q7 (H0 tb ty ty' ty2 o o' c c' c2 n n' m cap cap' cap2 kn))) (.call 18 [Value.slice (some ⟨128,0,none⟩) m cap2,Value.slice none 0 0] (q2) (.ret (Value.bool (decide (m=0))) (q2)) (.ite (!decide (m=(0:Nat))) q5 q6))) (.call 28 [Value.slice (some ⟨126,o,none⟩) n cap] (q4) (.ret (Value.slice (some ⟨131,0,none⟩) n n) (q3)) (.call 19 [Value.slice (some ⟨127,o',none⟩) n' cap'] (q3) (.ret (Value.slice (some ⟨132,0,none⟩) n' 9223372036854775809) (q1)) (.call 29 [Value.slice (some ⟨126,o,none⟩) n cap,Value.slice (some ⟨127,o',none⟩) n' cap',Value.int IntKind.i64 kn] (q1) (.ret (Value.slice (some ⟨133,0,none⟩) (RG.lenP c o c' o' kn n) 9223372036854775810) (⟨nS (AObj.cells 115 tb true 0) (eE (eE (eE (eE (eE (eE (lL (AObj.cells ty' c' false 0)) nZ) nZ) nZ) nZ) (eE (eE (eE (eE (lL (AObj.cells 9 (RG.strC c o n) true 2)) nZ) nZ) nZ) nZ)) (eE (eE (eE (eE (eE (lL (AObj.cells 26 [sS 126 o n cap,Value.slice (some ⟨127,o',none⟩) n' cap',iI kn,sS 128 0 m cap2] true 2)) nZ) nZ) nZ) nZ) (eE (eE (eE (eE (lL (AObj.cells 55 (RG.srtP c o c' o' kn n) false 2)) nZ) nZ) nZ) nZ))) (eE (eE (eE (eE (eE (eE (lL (AObj.cells ty2 c2 false 0)) nZ) nZ) nZ) nZ) (eE (eE (eE (eE (lL (AObj.cells 3 (RG.cutC c' o' n') false 2)) nZ) nZ) nZ) nZ)) (eE (eE (eE (eE (eE (lL (AObj.cells 26 [Value.slice none 0 0,Value.slice none 0 0,iI 0,Value.slice none 0 0] true 2)) nZ) nZ) nZ) nZ) (eE nZ (eE nZ (eE nZ (lL (AObj.cells ty c false 0))))))),134⟩)) (.call 18 [Value.slice (some ⟨128,0,none⟩) m cap2,Value.slice (some ⟨133,0,none⟩) (RG.lenP c o c' o' kn n) 9223372036854775810] (q0) (.ret (Value.bool (RG.equB c2 m (RG.srtP c o c' o' kn n) (RG.lenP c o c' o' kn n))) (q0)) (.ite (!RG.equB c2 m (RG.srtP c o c' o' kn n) (RG.lenP c o c' o' kn n)) q5 q6)))))))):CallSpec η prog B 8 [Value.agg ⟨[Value.slice (some ⟨126,o,none⟩) n cap,Value.slice (some ⟨127,o',none⟩) n' cap',Value.int IntKind.i64 kn,Value.slice (some ⟨128,0,none⟩) m cap2]⟩] (H0 tb ty ty' ty2 o o' c c' c2 n n' m cap cap' cap2 kn) D:=by
 refine CallSpec.ofQF hη (CallSpec.enter (fr:=(E tb ty ty' ty2 o o' c c' c2 n n' m cap cap' cap2 kn).fr) (by kernel_rfl) ?_)
 exact walk_okT (h0:=H0 tb ty ty' ty2 o o' c c' c2 n n' m cap cap' cap2 kn) hη hmix hreg (.steps 25 <| .call kN <| .steps 7 <| .bit 14 (.steps 23 <| .bit 16 (.steps 7 <| .done (some ⟨129,[],[(0,(0,true)),(126,(126,true)),(127,(127,true)),(128,(128,true))]⟩)) (.steps 9 <| .call kN <| .steps 2 <| .bit 23 (.steps 6 <| .done (some ⟨129,[],[(0,(0,true)),(126,(126,true)),(127,(127,true)),(128,(128,true))]⟩)) (.steps 7 <| .done (some ⟨129,[],[(0,(0,true)),(126,(126,true)),(127,(127,true)),(128,(128,true))]⟩)))) (.steps 5 <| .call kN <| .steps 1 <| .call kN <| .steps 4 <| .call kN <| .steps 28 <| .call kN <| .steps 2 <| .bit 23 (.steps 6 <| .done (some ⟨129,[],[(0,(0,true)),(126,(126,true)),(127,(127,true)),(128,(128,true))]⟩)) (.steps 7 <| .done (some ⟨129,[],[(0,(0,true)),(126,(126,true)),(127,(127,true)),(128,(128,true))]⟩)))) (E tb ty ty' ty2 o o' c c' c2 n n' m cap cap' cap2 kn) (by kernel_rfl) h (by kernel_rfl)
end RCkNN
namespace RCkNE
noncomputable def bd:Code:=(Go.Proofs.Tryd.f8.body).getD .skip
noncomputable def H0(tb:List Value)(ty ty' o o':Nat)(c c':List Value)(n n' cap cap':Nat)(kn:Int):AH:={ objs:=nS (AObj.cells 115 tb true 0) (eE (eE (eE (eE (eE (eE (lL (AObj.cells ty' c' false 0)) nZ) nZ) nZ) nZ) nZ) nZ) (eE nZ (eE nZ (eE nZ (eE nZ (eE nZ (lL (AObj.cells ty c false 0))))))),next:=128 }
noncomputable def E(tb:List Value)(ty ty' o o':Nat)(c c':List Value)(n n' cap cap':Nat)(kn:Int):AS:=⟨⟨8,24,lL (Value.agg ⟨[sS 126 o n cap,Value.slice (some ⟨127,o',none⟩) n' cap',iI kn,Value.slice none 0 9223372036854775808]⟩),[Item.code (codeAt bd [])],[],FrameMode.run,CallKind.normal,none⟩,[],H0 tb ty ty' o o' c c' n n' cap cap' kn⟩
theorem enter{η:Nat→Value}{B:Bd}(hη:OneCells η)(hmix:prog.follows .mixedOrders=true)(hreg:RegOk η prog B noNest){D:Value→AH→Prop}(tb:List Value)(ty ty' o o':Nat)(c c':List Value)(n n' cap cap':Nat)(kn:Int)(h:let q7:=(RG.chkI c o n c' o' n' kn != (0:Int));let q6:=(Value.int IntKind.i64 (RG.chkI c o n c' o' n' kn));let q5:W:=(.need (NoNames tb∧NoNames c∧NoNames c'∧True) (.done 8 (Value.int IntKind.i64 0) (H0 tb ty ty' o o' c c' n n' cap cap' kn)));let q4:AH:=⟨nS (AObj.cells 115 tb true 0) (eE (eE (eE (eE (eE (eE (lL (AObj.cells ty' c' false 0)) nZ) nZ) nZ) nZ) nZ) (eE (eE (eE (eE (eE (lL (AObj.cells 26 [Value.slice none 0 0,Value.slice none 0 0,iI 0,Value.slice none 0 0] true 2)) nZ) nZ) nZ) nZ) nZ)) (eE (eE (eE (eE (eE (eE (lL (AObj.cells 26 [sS 126 o n cap,Value.slice (some ⟨127,o',none⟩) n' cap',iI kn,Value.slice none 0 9223372036854775808] true 2)) nZ) nZ) nZ) nZ) nZ) (eE nZ (eE nZ (eE nZ (eE nZ (lL (AObj.cells ty c false 0))))))),130⟩;let q3:AH:=⟨nS (AObj.cells 115 tb true 0) (eE (eE (eE (eE (eE (eE (lL (AObj.cells ty' c' false 0)) nZ) nZ) nZ) nZ) nZ) (eE (eE (eE (eE (eE (lL (AObj.cells 26 [Value.slice none 0 0,Value.slice none 0 0,iI 0,Value.slice none 0 0] true 2)) nZ) nZ) nZ) nZ) nZ)) (eE (eE (eE (eE (eE (eE (lL (AObj.cells 26 [sS 126 o n cap,Value.slice (some ⟨127,o',none⟩) n' cap',iI kn,Value.slice none 0 9223372036854775808] true 2)) nZ) nZ) nZ) nZ) nZ) (eE (eE (eE (eE (eE (lL (AObj.cells 9 (RG.strC c o n) true 2)) nZ) nZ) nZ) nZ) (eE nZ (eE nZ (eE nZ (lL (AObj.cells ty c false 0))))))),131⟩;let q2:AH:=⟨nS (AObj.cells 115 tb true 0) (eE (eE (eE (eE (eE (eE (lL (AObj.cells ty' c' false 0)) nZ) nZ) nZ) nZ) nZ) (eE (eE (eE (eE (eE (lL (AObj.cells 26 [Value.slice none 0 0,Value.slice none 0 0,iI 0,Value.slice none 0 0] true 2)) nZ) nZ) nZ) nZ) nZ)) (eE (eE (eE (eE (eE (eE (lL (AObj.cells 26 [sS 126 o n cap,Value.slice (some ⟨127,o',none⟩) n' cap',iI kn,Value.slice none 0 9223372036854775808] true 2)) nZ) nZ) nZ) nZ) nZ) (eE (eE (eE (eE (eE (lL (AObj.cells 26 [Value.slice none 0 0,Value.slice none 0 0,iI 0,Value.slice none 0 0] true 2)) nZ) nZ) nZ) nZ) (eE nZ (eE nZ (eE nZ (lL (AObj.cells ty c false 0))))))),131⟩;let q1:AH:=⟨nS (AObj.cells 115 tb true 0) (eE (eE (eE (eE (eE (eE (lL (AObj.cells ty' c' false 0)) nZ) nZ) nZ) nZ) (eE (eE (eE (eE (lL (AObj.cells 3 (RG.cutC c' o' n') false 2)) nZ) nZ) nZ) nZ)) (eE (eE (eE (eE (eE (lL (AObj.cells 26 [Value.slice none 0 0,Value.slice none 0 0,iI 0,Value.slice none 0 0] true 2)) nZ) nZ) nZ) nZ) nZ)) (eE (eE (eE (eE (eE (eE (lL (AObj.cells 26 [sS 126 o n cap,Value.slice (some ⟨127,o',none⟩) n' cap',iI kn,Value.slice none 0 9223372036854775808] true 2)) nZ) nZ) nZ) nZ) nZ) (eE (eE (eE (eE (eE (lL (AObj.cells 9 (RG.strC c o n) true 2)) nZ) nZ) nZ) nZ) (eE nZ (eE nZ (eE nZ (lL (AObj.cells ty c false 0))))))),132⟩;let q0:AH:=⟨nS (AObj.cells 115 tb true 0) (eE (eE (eE (eE (eE (eE (lL (AObj.cells ty' c' false 0)) nZ) nZ) nZ) nZ) (eE (eE (eE (eE (lL (AObj.cells 3 (RG.cutC c' o' n') false 2)) nZ) nZ) nZ) nZ)) (eE (eE (eE (eE (eE (lL (AObj.cells 26 [sS 130 0 n n,sS 131 0 n' 9223372036854775809,iI kn,sS 132 0 (RG.lenP c o c' o' kn n) u2] true 2)) nZ) nZ) nZ) nZ) (eE (eE (eE (eE (lL (AObj.cells 26 [sS 130 0 n n,sS 131 0 n' 9223372036854775809,iI kn,sS 132 0 (RG.lenP c o c' o' kn n) u2] true 2)) nZ) nZ) nZ) nZ))) (eE (eE (eE (eE (eE (eE (lL (AObj.cells 26 [sS 126 o n cap,Value.slice (some ⟨127,o',none⟩) n' cap',iI kn,Value.slice none 0 9223372036854775808] true 2)) nZ) nZ) nZ) nZ) (eE (eE (eE (eE (lL (AObj.cells 55 (RG.srtP c o c' o' kn n) false 2)) nZ) nZ) nZ) nZ)) (eE (eE (eE (eE (eE (lL (AObj.cells 9 (RG.strC c o n) true 2)) nZ) nZ) nZ) nZ) (eE nZ (eE nZ (eE nZ (lL (AObj.cells ty c false 0))))))),134⟩;W.holds η prog B 8 (fun kp_ st_=>RunD η prog B 8 (H0 tb ty ty' o o' c c' n n' cap cap' kn) kp_ st_ (QF prog 128 D)) D (.call 27 [Value.slice (some ⟨126,o,none⟩) n cap,Value.slice (some ⟨127,o',none⟩) n' cap',Value.int IntKind.i64 kn] (q4) (.ret q6 (q4)) (.ite q7 (.ite q7 (.need (NoNames tb∧NoNames c∧NoNames c'∧True) (.done 8 q6 (H0 tb ty ty' o o' c c' n n' cap cap' kn))) (.call 18 [Value.slice none 0 9223372036854775808,Value.slice none 0 0] (q2) (.ret (Value.bool true) (q2)) q5)) (.call 28 [Value.slice (some ⟨126,o,none⟩) n cap] (q4) (.ret (Value.slice (some ⟨130,0,none⟩) n n) (q3)) (.call 19 [Value.slice (some ⟨127,o',none⟩) n' cap'] (q3) (.ret (Value.slice (some ⟨131,0,none⟩) n' 9223372036854775809) (q1)) (.call 29 [Value.slice (some ⟨126,o,none⟩) n cap,Value.slice (some ⟨127,o',none⟩) n' cap',Value.int IntKind.i64 kn] (q1) (.ret (Value.slice (some ⟨132,0,none⟩) (RG.lenP c o c' o' kn n) 9223372036854775810) (⟨nS (AObj.cells 115 tb true 0) (eE (eE (eE (eE (eE (eE (lL (AObj.cells ty' c' false 0)) nZ) nZ) nZ) nZ) (eE (eE (eE (eE (lL (AObj.cells 3 (RG.cutC c' o' n') false 2)) nZ) nZ) nZ) nZ)) (eE (eE (eE (eE (eE (lL (AObj.cells 26 [Value.slice none 0 0,Value.slice none 0 0,iI 0,Value.slice none 0 0] true 2)) nZ) nZ) nZ) nZ) nZ)) (eE (eE (eE (eE (eE (eE (lL (AObj.cells 26 [sS 126 o n cap,Value.slice (some ⟨127,o',none⟩) n' cap',iI kn,Value.slice none 0 9223372036854775808] true 2)) nZ) nZ) nZ) nZ) (eE (eE (eE (eE (lL (AObj.cells 55 (RG.srtP c o c' o' kn n) false 2)) nZ) nZ) nZ) nZ)) (eE (eE (eE (eE (eE (lL (AObj.cells 9 (RG.strC c o n) true 2)) nZ) nZ) nZ) nZ) (eE nZ (eE nZ (eE nZ (lL (AObj.cells ty c false 0))))))),133⟩)) (.call 18 [Value.slice none 0 9223372036854775808,Value.slice (some ⟨132,0,none⟩) (RG.lenP c o c' o' kn n) 9223372036854775810] (q0) (.ret (Value.bool (decide (RG.lenP c o c' o' kn n=0))) (q0)) (.ite (!decide (RG.lenP c o c' o' kn n=(0:Nat))) (.need (NoNames tb∧NoNames c∧NoNames c'∧True) (.done 8 (Value.int IntKind.i64 6) (H0 tb ty ty' o o' c c' n n' cap cap' kn))) q5)))))))):CallSpec η prog B 8 [Value.agg ⟨[Value.slice (some ⟨126,o,none⟩) n cap,Value.slice (some ⟨127,o',none⟩) n' cap',Value.int IntKind.i64 kn,Value.slice none 0 9223372036854775808]⟩] (H0 tb ty ty' o o' c c' n n' cap cap' kn) D:=by
 refine CallSpec.ofQF hη (CallSpec.enter (fr:=(E tb ty ty' o o' c c' n n' cap cap' kn).fr) (by kernel_rfl) ?_)
 exact walk_okT (h0:=H0 tb ty ty' o o' c c' n n' cap cap' kn) hη hmix hreg (.steps 25 <| .call kN <| .steps 7 <| .bit 14 (.steps 23 <| .bit 16 (.steps 7 <| .done (some ⟨128,[],[(0,(0,true)),(126,(126,true)),(127,(127,true))]⟩)) (.steps 9 <| .call kN <| .steps 9 <| .done (some ⟨128,[],[(0,(0,true)),(126,(126,true)),(127,(127,true))]⟩))) (.steps 5 <| .call kN <| .steps 1 <| .call kN <| .steps 4 <| .call kN <| .steps 28 <| .call kN <| .steps 2 <| .bit 23 (.steps 6 <| .done (some ⟨128,[],[(0,(0,true)),(126,(126,true)),(127,(127,true))]⟩)) (.steps 7 <| .done (some ⟨128,[],[(0,(0,true)),(126,(126,true)),(127,(127,true))]⟩)))) (E tb ty ty' o o' c c' n n' cap cap' kn) (by kernel_rfl) h (by kernel_rfl)
end RCkNE
namespace RCkEN
noncomputable def bd:Code:=(Go.Proofs.Tryd.f8.body).getD .skip
noncomputable def H0(tb:List Value)(ty ty' ty2 o o':Nat)(c c' c2:List Value)(n n' m cap cap' cap2:Nat)(kn:Int):AH:={ objs:=nS (AObj.cells 115 tb true 0) (eE (eE (eE (eE (eE (eE (lL (AObj.cells ty' c' false 0)) nZ) nZ) nZ) nZ) nZ) nZ) (eE (eE (eE (eE (eE (eE (lL (AObj.cells ty2 c2 false 0)) nZ) nZ) nZ) nZ) nZ) (eE nZ (eE nZ (eE nZ (eE nZ (lL (AObj.cells ty c false 0))))))),next:=129 }
noncomputable def E(tb:List Value)(ty ty' ty2 o o':Nat)(c c' c2:List Value)(n n' m cap cap' cap2:Nat)(kn:Int):AS:=⟨⟨8,24,lL (Value.agg ⟨[sS 126 o n cap,Value.slice (some ⟨127,o',none⟩) n' cap',iI kn,sS 128 0 m cap2]⟩),[Item.code (codeAt bd [])],[],FrameMode.run,CallKind.normal,none⟩,[],H0 tb ty ty' ty2 o o' c c' c2 n n' m cap cap' cap2 kn⟩
theorem enter{η:Nat→Value}{B:Bd}(hη:OneCells η)(hmix:prog.follows .mixedOrders=true)(hreg:RegOk η prog B noNest){D:Value→AH→Prop}(tb:List Value)(ty ty' ty2 o o':Nat)(c c' c2:List Value)(n n' m cap cap' cap2:Nat)(kn:Int)(h:let q8:=(RG.chkI c o n c' o' n' kn != (0:Int));let q7:=(Value.int IntKind.i64 (RG.chkI c o n c' o' n' kn));let q6:W:=(.need (NoNames tb∧NoNames c∧NoNames c'∧NoNames c2∧True) (.done 8 (Value.int IntKind.i64 0) (H0 tb ty ty' ty2 o o' c c' c2 n n' m cap cap' cap2 kn)));let q5:W:=(.need (NoNames tb∧NoNames c∧NoNames c'∧NoNames c2∧True) (.done 8 (Value.int IntKind.i64 6) (H0 tb ty ty' ty2 o o' c c' c2 n n' m cap cap' cap2 kn)));let q4:AH:=⟨nS (AObj.cells 115 tb true 0) (eE (eE (eE (eE (eE (eE (lL (AObj.cells ty' c' false 0)) nZ) nZ) nZ) nZ) nZ) (eE (eE (eE (eE (eE (lL (AObj.cells 26 [sS 126 o n cap,Value.slice (some ⟨127,o',none⟩) n' cap',iI kn,sS 128 0 m cap2] true 2)) nZ) nZ) nZ) nZ) nZ)) (eE (eE (eE (eE (eE (eE (lL (AObj.cells ty2 c2 false 0)) nZ) nZ) nZ) nZ) nZ) (eE (eE (eE (eE (eE (lL (AObj.cells 26 [Value.slice none 0 0,Value.slice none 0 0,iI 0,Value.slice none 0 0] true 2)) nZ) nZ) nZ) nZ) (eE nZ (eE nZ (eE nZ (lL (AObj.cells ty c false 0))))))),131⟩;let q3:AH:=⟨nS (AObj.cells 115 tb true 0) (eE (eE (eE (eE (eE (eE (lL (AObj.cells ty' c' false 0)) nZ) nZ) nZ) nZ) (eE (eE (eE (eE (lL (AObj.cells 9 (RG.strC c o n) true 2)) nZ) nZ) nZ) nZ)) (eE (eE (eE (eE (eE (lL (AObj.cells 26 [sS 126 o n cap,Value.slice (some ⟨127,o',none⟩) n' cap',iI kn,sS 128 0 m cap2] true 2)) nZ) nZ) nZ) nZ) nZ)) (eE (eE (eE (eE (eE (eE (lL (AObj.cells ty2 c2 false 0)) nZ) nZ) nZ) nZ) nZ) (eE (eE (eE (eE (eE (lL (AObj.cells 26 [Value.slice none 0 0,Value.slice none 0 0,iI 0,Value.slice none 0 0] true 2)) nZ) nZ) nZ) nZ) (eE nZ (eE nZ (eE nZ (lL (AObj.cells ty c false 0))))))),132⟩;let q2:AH:=⟨nS (AObj.cells 115 tb true 0) (eE (eE (eE (eE (eE (eE (lL (AObj.cells ty' c' false 0)) nZ) nZ) nZ) nZ) (eE (eE (eE (eE (lL (AObj.cells 26 [Value.slice none 0 0,Value.slice none 0 0,iI 0,Value.slice none 0 0] true 2)) nZ) nZ) nZ) nZ)) (eE (eE (eE (eE (eE (lL (AObj.cells 26 [sS 126 o n cap,Value.slice (some ⟨127,o',none⟩) n' cap',iI kn,sS 128 0 m cap2] true 2)) nZ) nZ) nZ) nZ) nZ)) (eE (eE (eE (eE (eE (eE (lL (AObj.cells ty2 c2 false 0)) nZ) nZ) nZ) nZ) nZ) (eE (eE (eE (eE (eE (lL (AObj.cells 26 [Value.slice none 0 0,Value.slice none 0 0,iI 0,Value.slice none 0 0] true 2)) nZ) nZ) nZ) nZ) (eE nZ (eE nZ (eE nZ (lL (AObj.cells ty c false 0))))))),132⟩;let q1:AH:=⟨nS (AObj.cells 115 tb true 0) (eE (eE (eE (eE (eE (eE (lL (AObj.cells ty' c' false 0)) nZ) nZ) nZ) nZ) (eE (eE (eE (eE (lL (AObj.cells 9 (RG.strC c o n) true 2)) nZ) nZ) nZ) nZ)) (eE (eE (eE (eE (eE (lL (AObj.cells 26 [sS 126 o n cap,Value.slice (some ⟨127,o',none⟩) n' cap',iI kn,sS 128 0 m cap2] true 2)) nZ) nZ) nZ) nZ) nZ)) (eE (eE (eE (eE (eE (eE (lL (AObj.cells ty2 c2 false 0)) nZ) nZ) nZ) nZ) (eE (eE (eE (eE (lL (AObj.cells 3 (RG.cutC c' o' n') false 2)) nZ) nZ) nZ) nZ)) (eE (eE (eE (eE (eE (lL (AObj.cells 26 [Value.slice none 0 0,Value.slice none 0 0,iI 0,Value.slice none 0 0] true 2)) nZ) nZ) nZ) nZ) (eE nZ (eE nZ (eE nZ (lL (AObj.cells ty c false 0))))))),133⟩;let q0:AH:=⟨nS (AObj.cells 115 tb true 0) (eE (eE (eE (eE (eE (eE (lL (AObj.cells ty' c' false 0)) nZ) nZ) nZ) nZ) (eE (eE (eE (eE (lL (AObj.cells 9 (RG.strC c o n) true 2)) nZ) nZ) nZ) nZ)) (eE (eE (eE (eE (eE (lL (AObj.cells 26 [sS 126 o n cap,Value.slice (some ⟨127,o',none⟩) n' cap',iI kn,sS 128 0 m cap2] true 2)) nZ) nZ) nZ) nZ) (eE (eE (eE (eE (lL (AObj.cells 26 [sS 131 0 n n,sS 132 0 n' 9223372036854775809,iI kn,Value.slice none 0 0] true 2)) nZ) nZ) nZ) nZ))) (eE (eE (eE (eE (eE (eE (lL (AObj.cells ty2 c2 false 0)) nZ) nZ) nZ) nZ) (eE (eE (eE (eE (lL (AObj.cells 3 (RG.cutC c' o' n') false 2)) nZ) nZ) nZ) nZ)) (eE (eE (eE (eE (eE (lL (AObj.cells 26 [sS 131 0 n n,sS 132 0 n' 9223372036854775809,iI kn,Value.slice none 0 0] true 2)) nZ) nZ) nZ) nZ) (eE nZ (eE nZ (eE nZ (lL (AObj.cells ty c false 0))))))),134⟩;W.holds η prog B 8 (fun kp_ st_=>RunD η prog B 8 (H0 tb ty ty' ty2 o o' c c' c2 n n' m cap cap' cap2 kn) kp_ st_ (QF prog 129 D)) D (.call 27 [Value.slice (some ⟨126,o,none⟩) n cap,Value.slice (some ⟨127,o',none⟩) n' cap',Value.int IntKind.i64 kn] (q4) (.ret q7 (q4)) (.ite q8 (.ite q8 (.need (NoNames tb∧NoNames c∧NoNames c'∧NoNames c2∧True) (.done 8 q7 (H0 tb ty ty' ty2 o o' c c' c2 n n' m cap cap' cap2 kn))) (.call 18 [Value.slice (some ⟨128,0,none⟩) m cap2,Value.slice none 0 0] (q2) (.ret (Value.bool (decide (m=0))) (q2)) (.ite (!decide (m=(0:Nat))) q5 q6))) (.call 28 [Value.slice (some ⟨126,o,none⟩) n cap] (q4) (.ret (Value.slice (some ⟨131,0,none⟩) n n) (q3)) (.call 19 [Value.slice (some ⟨127,o',none⟩) n' cap'] (q3) (.ret (Value.slice (some ⟨132,0,none⟩) n' 9223372036854775809) (q1)) (.call 29 [Value.slice (some ⟨126,o,none⟩) n cap,Value.slice (some ⟨127,o',none⟩) n' cap',Value.int IntKind.i64 kn] (q1) (.ret (Value.slice none 0 0) (q1)) (.call 18 [Value.slice (some ⟨128,0,none⟩) m cap2,Value.slice none 0 0] (q0) (.ret (Value.bool (decide (m=0))) (q0)) (.ite (!decide (m=(0:Nat))) q5 q6)))))))):CallSpec η prog B 8 [Value.agg ⟨[Value.slice (some ⟨126,o,none⟩) n cap,Value.slice (some ⟨127,o',none⟩) n' cap',Value.int IntKind.i64 kn,Value.slice (some ⟨128,0,none⟩) m cap2]⟩] (H0 tb ty ty' ty2 o o' c c' c2 n n' m cap cap' cap2 kn) D:=by
 refine CallSpec.ofQF hη (CallSpec.enter (fr:=(E tb ty ty' ty2 o o' c c' c2 n n' m cap cap' cap2 kn).fr) (by kernel_rfl) ?_)
 exact walk_okT (h0:=H0 tb ty ty' ty2 o o' c c' c2 n n' m cap cap' cap2 kn) hη hmix hreg (.steps 25 <| .call kN <| .steps 7 <| .bit 14 (.steps 23 <| .bit 16 (.steps 7 <| .done (some ⟨129,[],[(0,(0,true)),(126,(126,true)),(127,(127,true)),(128,(128,true))]⟩)) (.steps 9 <| .call kN <| .steps 2 <| .bit 23 (.steps 6 <| .done (some ⟨129,[],[(0,(0,true)),(126,(126,true)),(127,(127,true)),(128,(128,true))]⟩)) (.steps 7 <| .done (some ⟨129,[],[(0,(0,true)),(126,(126,true)),(127,(127,true)),(128,(128,true))]⟩)))) (.steps 5 <| .call kN <| .steps 1 <| .call kN <| .steps 4 <| .call kN <| .steps 28 <| .call kN <| .steps 2 <| .bit 23 (.steps 6 <| .done (some ⟨129,[],[(0,(0,true)),(126,(126,true)),(127,(127,true)),(128,(128,true))]⟩)) (.steps 7 <| .done (some ⟨129,[],[(0,(0,true)),(126,(126,true)),(127,(127,true)),(128,(128,true))]⟩)))) (E tb ty ty' ty2 o o' c c' c2 n n' m cap cap' cap2 kn) (by kernel_rfl) h (by kernel_rfl)
end RCkEN
namespace RCkEE
noncomputable def bd:Code:=(Go.Proofs.Tryd.f8.body).getD .skip
noncomputable def H0(tb:List Value)(ty ty' o o':Nat)(c c':List Value)(n n' cap cap':Nat)(kn:Int):AH:={ objs:=nS (AObj.cells 115 tb true 0) (eE (eE (eE (eE (eE (eE (lL (AObj.cells ty' c' false 0)) nZ) nZ) nZ) nZ) nZ) nZ) (eE nZ (eE nZ (eE nZ (eE nZ (eE nZ (lL (AObj.cells ty c false 0))))))),next:=128 }
noncomputable def E(tb:List Value)(ty ty' o o':Nat)(c c':List Value)(n n' cap cap':Nat)(kn:Int):AS:=⟨⟨8,24,lL (Value.agg ⟨[sS 126 o n cap,Value.slice (some ⟨127,o',none⟩) n' cap',iI kn,Value.slice none 0 9223372036854775808]⟩),[Item.code (codeAt bd [])],[],FrameMode.run,CallKind.normal,none⟩,[],H0 tb ty ty' o o' c c' n n' cap cap' kn⟩
theorem enter{η:Nat→Value}{B:Bd}(hη:OneCells η)(hmix:prog.follows .mixedOrders=true)(hreg:RegOk η prog B noNest){D:Value→AH→Prop}(tb:List Value)(ty ty' o o':Nat)(c c':List Value)(n n' cap cap':Nat)(kn:Int)(h:let q7:=(RG.chkI c o n c' o' n' kn != (0:Int));let q6:=(Value.int IntKind.i64 (RG.chkI c o n c' o' n' kn));let q5:W:=(.need (NoNames tb∧NoNames c∧NoNames c'∧True) (.done 8 (Value.int IntKind.i64 0) (H0 tb ty ty' o o' c c' n n' cap cap' kn)));let q4:AH:=⟨nS (AObj.cells 115 tb true 0) (eE (eE (eE (eE (eE (eE (lL (AObj.cells ty' c' false 0)) nZ) nZ) nZ) nZ) nZ) (eE (eE (eE (eE (eE (lL (AObj.cells 26 [Value.slice none 0 0,Value.slice none 0 0,iI 0,Value.slice none 0 0] true 2)) nZ) nZ) nZ) nZ) nZ)) (eE (eE (eE (eE (eE (eE (lL (AObj.cells 26 [sS 126 o n cap,Value.slice (some ⟨127,o',none⟩) n' cap',iI kn,Value.slice none 0 9223372036854775808] true 2)) nZ) nZ) nZ) nZ) nZ) (eE nZ (eE nZ (eE nZ (eE nZ (lL (AObj.cells ty c false 0))))))),130⟩;let q3:AH:=⟨nS (AObj.cells 115 tb true 0) (eE (eE (eE (eE (eE (eE (lL (AObj.cells ty' c' false 0)) nZ) nZ) nZ) nZ) nZ) (eE (eE (eE (eE (eE (lL (AObj.cells 26 [Value.slice none 0 0,Value.slice none 0 0,iI 0,Value.slice none 0 0] true 2)) nZ) nZ) nZ) nZ) nZ)) (eE (eE (eE (eE (eE (eE (lL (AObj.cells 26 [sS 126 o n cap,Value.slice (some ⟨127,o',none⟩) n' cap',iI kn,Value.slice none 0 9223372036854775808] true 2)) nZ) nZ) nZ) nZ) nZ) (eE (eE (eE (eE (eE (lL (AObj.cells 9 (RG.strC c o n) true 2)) nZ) nZ) nZ) nZ) (eE nZ (eE nZ (eE nZ (lL (AObj.cells ty c false 0))))))),131⟩;let q2:AH:=⟨nS (AObj.cells 115 tb true 0) (eE (eE (eE (eE (eE (eE (lL (AObj.cells ty' c' false 0)) nZ) nZ) nZ) nZ) nZ) (eE (eE (eE (eE (eE (lL (AObj.cells 26 [Value.slice none 0 0,Value.slice none 0 0,iI 0,Value.slice none 0 0] true 2)) nZ) nZ) nZ) nZ) nZ)) (eE (eE (eE (eE (eE (eE (lL (AObj.cells 26 [sS 126 o n cap,Value.slice (some ⟨127,o',none⟩) n' cap',iI kn,Value.slice none 0 9223372036854775808] true 2)) nZ) nZ) nZ) nZ) nZ) (eE (eE (eE (eE (eE (lL (AObj.cells 26 [Value.slice none 0 0,Value.slice none 0 0,iI 0,Value.slice none 0 0] true 2)) nZ) nZ) nZ) nZ) (eE nZ (eE nZ (eE nZ (lL (AObj.cells ty c false 0))))))),131⟩;let q1:AH:=⟨nS (AObj.cells 115 tb true 0) (eE (eE (eE (eE (eE (eE (lL (AObj.cells ty' c' false 0)) nZ) nZ) nZ) nZ) (eE (eE (eE (eE (lL (AObj.cells 3 (RG.cutC c' o' n') false 2)) nZ) nZ) nZ) nZ)) (eE (eE (eE (eE (eE (lL (AObj.cells 26 [Value.slice none 0 0,Value.slice none 0 0,iI 0,Value.slice none 0 0] true 2)) nZ) nZ) nZ) nZ) nZ)) (eE (eE (eE (eE (eE (eE (lL (AObj.cells 26 [sS 126 o n cap,Value.slice (some ⟨127,o',none⟩) n' cap',iI kn,Value.slice none 0 9223372036854775808] true 2)) nZ) nZ) nZ) nZ) nZ) (eE (eE (eE (eE (eE (lL (AObj.cells 9 (RG.strC c o n) true 2)) nZ) nZ) nZ) nZ) (eE nZ (eE nZ (eE nZ (lL (AObj.cells ty c false 0))))))),132⟩;let q0:AH:=⟨nS (AObj.cells 115 tb true 0) (eE (eE (eE (eE (eE (eE (lL (AObj.cells ty' c' false 0)) nZ) nZ) nZ) nZ) (eE (eE (eE (eE (lL (AObj.cells 3 (RG.cutC c' o' n') false 2)) nZ) nZ) nZ) nZ)) (eE (eE (eE (eE (eE (lL (AObj.cells 26 [sS 130 0 n n,sS 131 0 n' 9223372036854775809,iI kn,Value.slice none 0 0] true 2)) nZ) nZ) nZ) nZ) nZ)) (eE (eE (eE (eE (eE (eE (lL (AObj.cells 26 [sS 126 o n cap,Value.slice (some ⟨127,o',none⟩) n' cap',iI kn,Value.slice none 0 9223372036854775808] true 2)) nZ) nZ) nZ) nZ) (eE (eE (eE (eE (lL (AObj.cells 26 [sS 130 0 n n,sS 131 0 n' 9223372036854775809,iI kn,Value.slice none 0 0] true 2)) nZ) nZ) nZ) nZ)) (eE (eE (eE (eE (eE (lL (AObj.cells 9 (RG.strC c o n) true 2)) nZ) nZ) nZ) nZ) (eE nZ (eE nZ (eE nZ (lL (AObj.cells ty c false 0))))))),133⟩;W.holds η prog B 8 (fun kp_ st_=>RunD η prog B 8 (H0 tb ty ty' o o' c c' n n' cap cap' kn) kp_ st_ (QF prog 128 D)) D (.call 27 [Value.slice (some ⟨126,o,none⟩) n cap,Value.slice (some ⟨127,o',none⟩) n' cap',Value.int IntKind.i64 kn] (q4) (.ret q6 (q4)) (.ite q7 (.ite q7 (.need (NoNames tb∧NoNames c∧NoNames c'∧True) (.done 8 q6 (H0 tb ty ty' o o' c c' n n' cap cap' kn))) (.call 18 [Value.slice none 0 9223372036854775808,Value.slice none 0 0] (q2) (.ret (Value.bool true) (q2)) q5)) (.call 28 [Value.slice (some ⟨126,o,none⟩) n cap] (q4) (.ret (Value.slice (some ⟨130,0,none⟩) n n) (q3)) (.call 19 [Value.slice (some ⟨127,o',none⟩) n' cap'] (q3) (.ret (Value.slice (some ⟨131,0,none⟩) n' 9223372036854775809) (q1)) (.call 29 [Value.slice (some ⟨126,o,none⟩) n cap,Value.slice (some ⟨127,o',none⟩) n' cap',Value.int IntKind.i64 kn] (q1) (.ret (Value.slice none 0 0) (q1)) (.call 18 [Value.slice none 0 9223372036854775808,Value.slice none 0 0] (q0) (.ret (Value.bool true) (q0)) q5))))))):CallSpec η prog B 8 [Value.agg ⟨[Value.slice (some ⟨126,o,none⟩) n cap,Value.slice (some ⟨127,o',none⟩) n' cap',Value.int IntKind.i64 kn,Value.slice none 0 9223372036854775808]⟩] (H0 tb ty ty' o o' c c' n n' cap cap' kn) D:=by
 refine CallSpec.ofQF hη (CallSpec.enter (fr:=(E tb ty ty' o o' c c' n n' cap cap' kn).fr) (by kernel_rfl) ?_)
 exact walk_okT (h0:=H0 tb ty ty' o o' c c' n n' cap cap' kn) hη hmix hreg (.steps 25 <| .call kN <| .steps 7 <| .bit 14 (.steps 23 <| .bit 16 (.steps 7 <| .done (some ⟨128,[],[(0,(0,true)),(126,(126,true)),(127,(127,true))]⟩)) (.steps 9 <| .call kN <| .steps 9 <| .done (some ⟨128,[],[(0,(0,true)),(126,(126,true)),(127,(127,true))]⟩))) (.steps 5 <| .call kN <| .steps 1 <| .call kN <| .steps 4 <| .call kN <| .steps 28 <| .call kN <| .steps 9 <| .done (some ⟨128,[],[(0,(0,true)),(126,(126,true)),(127,(127,true))]⟩))) (E tb ty ty' o o' c c' n n' cap cap' kn) (by kernel_rfl) h (by kernel_rfl)
end RCkEE
namespace RCkZ
noncomputable def bd:Code:=(Go.Proofs.Tryd.f8.body).getD .skip
noncomputable def H0(kn:Int):AH:={ objs:=nZ,next:=126 }
noncomputable def E(kn:Int):AS:=⟨⟨8,24,lL (Value.agg ⟨[Value.slice none 0 9223372036854775808,Value.chan none,iI kn,Value.chan none]⟩),[Item.code (codeAt bd [])],[],FrameMode.run,CallKind.normal,none⟩,[],H0 kn⟩
theorem enter{η:Nat→Value}{B:Bd}(hη:OneCells η)(hmix:prog.follows .mixedOrders=true)(hreg:RegOk η prog B noNest){D:Value→AH→Prop}(kn:Int)(h:W.holds η prog B 8 (fun kp_ st_=>RunD η prog B 8 (H0 kn) kp_ st_ (QF prog 126 D)) D (.need (True) (.done 8 (Value.int IntKind.i64 3) (H0 kn)))):CallSpec η prog B 8 [Value.agg ⟨[Value.slice none 0 9223372036854775808,Value.chan none,Value.int IntKind.i64 kn,Value.chan none]⟩] (H0 kn) D:=by
 refine CallSpec.ofQF hη (CallSpec.enter (fr:=(E kn).fr) (by kernel_rfl) ?_)
 exact walk_okT (h0:=H0 kn) hη hmix hreg (.steps 88 <| .done (some ⟨126,[],[]⟩)) (E kn) (by kernel_rfl) h (by kernel_rfl)
end RCkZ
end Go.Ev

/- Rings of backends: contracts wherever names, weights and points stand; Check. -/
namespace Go.Ev
open Go Go.Proofs
variable {η:Nat→Value} {B:Bd}
namespace RG
theorem cpN_any(hη:OneCells η)(hmix:Tryd.prog.follows .mixedOrders=true){H:AH}{r ty o n cap own:Nat}{c:List Value}(hr:H.objs.get r=some (.cells ty c false own))(hc:RowS c o n)(hn:n≤100000)(hl:∀ i,i<n→(strAt c (o+i)).length≤1000000) :
  CallSpec η Tryd.prog B 28 [.slice (some ⟨r,o,none⟩) n cap] H (KT.ret (.slice (some ⟨H.next,0,none⟩) n n) (withRow H 9 (strC c o n) true)).sat:=by
 have e:strC c o n=strR c o n 0:=by unfold strC;rfl
 rw [e]
 have hb:(strR c o n 0).all bareV=true:=by
  have:∀ m i,(strR c o m i).all bareV=true:=fun m=>by
   induction m with
   | zero=>intro i;rfl
   | succ m ih=>intro i;unfold strR;rw [List.all_cons,ih];rfl
  exact this n 0
 exact CallSpec.freshR (mk:=fun r=>.slice (some ⟨r,0,none⟩) n n) hη FN.gs9 (FN.rowsIn1 hr hc.1) (.cons (.slice (σ:=sigR fun _=>r) _ _ (by simp)) .nil) (fun σ M r h=>.slice _ _ h) hb (cpN_can hη hmix hc hn hl)
theorem clo_any(hη:OneCells η)(hmix:Tryd.prog.follows .mixedOrders=true){H:AH}{r ty o n cap own:Nat}{c:List Value}(hr:H.objs.get r=some (.cells ty c false own))(hc:RowI c o n)(hn:n≤100000)(h0:0<n) :
  CallSpec η Tryd.prog B 19 [.slice (some ⟨r,o,none⟩) n cap] H (KT.ret (.slice (some ⟨H.next,0,none⟩) n (capU 1)) (withRow H 3 (cutC c o n) false)).sat:=by
 have e:cutC c o n=cutI c o n:=by unfold cutC;rfl
 rw [e]
 have hb:(cutI c o n).all bareV=true:=List.all_eq_true.2 fun v hv=>List.all_eq_true.1 hc.1 v (List.mem_of_mem_drop (List.mem_of_mem_take hv))
 exact CallSpec.freshR (mk:=fun r=>.slice (some ⟨r,0,none⟩) n (capU 1)) hη FN.gs9 (FN.rowsIn1 hr hc.1) (.cons (.slice (σ:=sigR fun _=>r) _ _ (by simp)) .nil) (fun σ M r h=>.slice _ _ h) hb (clo_can hη hmix hc hn h0)
theorem rows2{H:AH}{r r' ty ty' own own':Nat}{c c':List Value}(hr:H.objs.get r=some (.cells ty c false own))(hr':H.objs.get r'=some (.cells ty' c' false own'))(hne:r ≠ r')(hb:c.all bareV=true)(hb':c'.all bareV=true):RowsIn H [(ty,c),(ty',c')] fun i=>if i=0 then r else r':=by
 refine⟨fun i x hi=>?_,fun i j hi hj hij=>?_⟩
 ·match i with
  | 0=>simp at hi;subst hi;exact⟨hb,own,hr⟩
  | 1=>simp at hi;subst hi;exact⟨hb',own',hr'⟩
  | i+2=>simp at hi
 ·simp only [List.length_cons,List.length_nil] at hi hj
  simp only at hij
  by_cases h0:i=0 <;> by_cases h0':j=0
  ·omega
  ·rw [if_pos h0,if_neg h0'] at hij;exact absurd hij hne
  ·rw [if_neg h0,if_pos h0'] at hij;exact absurd hij.symm hne
  ·omega
theorem tabR_ok:TabOk Tryd.prog tabR:=fun x hx=>by
 unfold tabR at hx
 rw [List.mem_singleton] at hx
 subst hx
 refine⟨by decide +kernel,?_⟩
 have:=pow_bare
 rw [List.all_eq_true] at this ⊢
 intro v hv
 unfold flatV;rw [this v hv];rfl
theorem gs_lt:Tryd.prog.globals.size<126:=FN.gs9
theorem ptN_any(hη:OneCells η)(hmix:Tryd.prog.follows .mixedOrders=true){H:AH}{r r' ty ty' o o' n n' cap cap' own own':Nat}{c c':List Value}{k:Int}(ht:HasT H tabR)(hr:H.objs.get r=some (.cells ty c false own))(hr':H.objs.get r'=some (.cells ty' c' false own'))(hne:r ≠ r')(hlo:126≤r)(hlo':126≤r')(hc:RowS c o n)(hc':RowI c' o' n)(hn':n'=n)(hn:n≤16)(hw:∀ i,i<n→0≤intAt c' (o'+i)∧intAt c' (o'+i)≤20)(hk:1≤k∧k≤100)(hl:∀ i,i<n→(strAt c (o+i)).length≤1000)(hb:(allP c o c' o' k n 0).length≤100000)(hz:allP c o c' o' k n 0 ≠ []) :
  CallSpec η Tryd.prog B 29 [.slice (some ⟨r,o,none⟩) n cap,.slice (some ⟨r',o',none⟩) n' cap',.int .i64 k] H (KT.ret (.slice (some ⟨H.next,0,none⟩) (lenP c o c' o' k n) (capU 2)) (withRow H 55 (srtP c o c' o' k n) false)).sat:=by
 have e1:srtP c o c' o' k n=ptV ((allP c o c' o' k n 0).mergeSort leP):=by unfold srtP ptsS;rfl
 have e2:lenP c o c' o' k n=(allP c o c' o' k n 0).length:=by unfold lenP;rfl
 rw [e1,e2]
 refine CallSpec.freshRW (mk:=fun r=>.slice (some ⟨r,0,none⟩) (allP c o c' o' k n 0).length (capU 2)) (l:=[(ty,c),(ty',c')]) (t:=tabR) (args:=[.slice (some ⟨126,o,none⟩) n cap,.slice (some ⟨127,o',none⟩) n' cap',.int .i64 k]) hη FN.gs9 tabR_ok ht (rows2 hr hr' hne hc.1 hc'.1) (fun i hi=>?_) (.cons ?_ (.cons ?_ (.cons (.int _ _) .nil))) (fun σ M r h=>.slice _ _ h) (ptV_bare _) ((pts_can hη hmix hc hc' hn' hn hw hk hl hb).mono fun v h hd=>?_)
 ·have:=gs_lt
  show Tryd.prog.globals.size<if i=0 then r else r'
  split <;> omega
 ·exact .slice (σ:=sigR fun i=>if i=0 then r else r') _ _ (by simp)
 ·exact .slice (σ:=sigR fun i=>if i=0 then r else r') _ _ (by simp)
 ·unfold ptsD at hd
  rw [if_neg hz] at hd
  exact hd
theorem equ_any(hη:OneCells η)(hmix:Tryd.prog.follows .mixedOrders=true){H:AH}{r r' ty ty' cap cap' own own':Nat}{a b:List (Int × Int)}(hr:H.objs.get r=some (.cells ty (ptV a) false own))(hr':H.objs.get r'=some (.cells ty' (ptV b) false own'))(hne:r ≠ r')(ha:a.length≤1000000) :
  CallSpec η Tryd.prog B 18 [.slice (some ⟨r,0,none⟩) a.length cap,.slice (some ⟨r',0,none⟩) b.length cap'] H (KT.ret (.bool (equB (ptV a) a.length (ptV b) b.length)) H).sat:=by
 have e:equB (ptV a) a.length (ptV b) b.length=decide (a=b):=by unfold equB;rw [ptsOf_ptV,ptsOf_ptV]
 rw [e]
 refine CallSpec.pureR (l:=[(ty,ptV a),(ty',ptV b)]) (args:=[.slice (some ⟨126,0,none⟩) a.length cap,.slice (some ⟨127,0,none⟩) b.length cap']) hη FN.gs9 (rows2 hr hr' hne (ptV_bare a) (ptV_bare b)) (.cons ?_ (.cons ?_ .nil)) (fun _ _=>.bool _) (equ_can hη hmix ha)
 ·exact .slice (σ:=sigR fun i=>if i=0 then r else r') _ _ (by simp)
 ·exact .slice (σ:=sigR fun i=>if i=0 then r else r') _ _ (by simp)
theorem fstIx_neg(p:Nat→Bool):∀ m i,fstIx p m i<0 ↔ ∀ j,i≤j→j<i+m→p j=false
 | 0,i=>⟨fun _ j h1 h2=>by omega,fun _=>by unfold fstIx;omega⟩
 | m+1,i=>by
  have e:fstIx p (m+1) i=if p i then(i:Int) else fstIx p m (i+1):=rfl
  rw [e]
  cases h:p i with
  | true=>
   refine⟨fun q=>?_,fun q=>?_⟩
   ·rw [if_pos rfl] at q;omega
   ·have:=q i (Nat.le_refl _) (by omega)
    rw [h] at this;cases this
  | false=>
   rw [if_neg (by decide),fstIx_neg p m (i+1)]
   refine⟨fun q j h1 h2=>?_,fun q j h1 h2=>q j (by omega) (by omega)⟩
   rcases Nat.lt_or_ge i j with r | r
   ·exact q j (by omega) (by omega)
   ·have:j=i:=by omega
    subst this;exact h
structure ChkOk (c:List Value) (o n:Nat) (c':List Value) (o' n':Nat) (k:Int):Prop where
 n0:0<n
 n16:n≤16
 eq:n'=n
 w:∀ i,i<n→0≤intAt c' (o'+i)∧intAt c' (o'+i)≤20
 kk:1≤k∧k≤100
 nm:∀ i,i<n→noNB (strAt c (o+i))=false
 tw:twi c o n=false
 ct:cnt c' k o' n≤4096
theorem chk_zero{c:List Value}{o n:Nat}{c':List Value}{o' n':Nat}{k:Int}(h:chkI c o n c' o' n' k=0):ChkOk c o n c' o' n' k:=by
 unfold chkI chkB at h
 split at h
 ·omega
 split at h
 ·omega
 split at h
 ·omega
 split at h
 ·omega
 split at h
 ·omega
 split at h
 ·omega
 rename_i h1 h2 h3 h4 h5 h6
 have en:n'=n:=by omega
 subst en
 have hw:badW c' o' n'<0:=by omega
 have hn:badN c o n'<0:=by omega
 unfold badW at hw
 unfold badN at hn
 rw [fstIx_neg] at hw hn
 refine⟨by omega,by omega,rfl,fun i hi=>?_,by omega,fun i hi=>hn i (by omega) (by omega),by simpa using h5,by omega⟩
 have:=hw i (by omega) (by omega)
 unfold noW at this
 rw [Bool.or_eq_false_iff,decide_eq_false_iff_not,decide_eq_false_iff_not] at this
 omega
theorem allP_len{c:List Value}{o:Nat}{c':List Value}{o':Nat}{k:Int}(hk:1≤k∧k≤100):∀ m i,(∀ j,i≤j→j<i+m→0≤intAt c' (o'+j)∧intAt c' (o'+j)≤20)→(allP c o c' o' k m i).length≤m * 2000
 | 0,i,_=>by unfold allP;simp
 | m+1,i,h=>by
  unfold allP
  rw [List.length_append,inn_len]
  have ih:=allP_len (c:=c) (o:=o) (c':=c') (o':=o') hk m (i+1) fun j h1 h2=>h j (by omega) (by omega)
  obtain⟨a1,a2⟩:=h i (Nat.le_refl _) (by omega)
  have b1:intAt c' (o'+i) * k≤20 * 100:=Int.mul_le_mul a2 hk.2 (by omega) (by omega)
  omega
theorem noN_len{s:List UInt8}(h:noNB s=false):s.length≤32:=by
 unfold noNB at h
 rw [Bool.or_eq_false_iff] at h
 have:=h.2
 rw [decide_eq_false_iff_not] at this
 omega
theorem chkI_any(hη:OneCells η)(hmix:Tryd.prog.follows .mixedOrders=true){H:AH}{r r' ty ty' o o' n n' cap cap' own own':Nat}{c c':List Value}{k:Int}(hr:H.objs.get r=some (.cells ty c false own))(hr':H.objs.get r'=some (.cells ty' c' false own'))(hne:r ≠ r')(hc:RowS c o n)(hc':RowI c' o' n')(hl:∀ i,i<n→(strAt c (o+i)).length≤1000000)(hcap:isU cap=false)(hcn:n≤cap) :
  CallSpec η Tryd.prog B 27 [.slice (some ⟨r,o,none⟩) n cap,.slice (some ⟨r',o',none⟩) n' cap',.int .i64 k] H (KT.ret (.int .i64 (chkI c o n c' o' n' k)) H).sat:=by
 have:=chk_any (B:=B) (H:=H) (cap':=cap') (k:=k) hη hmix hr hr' hne hc hc' hl hcap hcn
 rw [show chkB c o n c' o' n' k=chkI c o n c' o' n' k by unfold chkI;rfl] at this
 exact this
set_option maxRecDepth 20000 in
set_option maxHeartbeats 4000000 in
theorem ckNN_can(hη:OneCells η)(hmix:Tryd.prog.follows .mixedOrders=true){ty ty' ty2 o o' n n' cap cap' cap2:Nat}{c c':List Value}{l:List (Int × Int)}{k:Int}(hc:RowS c o n)(hc':RowI c' o' n')(hl:∀ i,i<n→(strAt c (o+i)).length≤1000000)(hcap:isU cap=false)(hcn:n≤cap)(hll:l.length≤1000000)(hz:chkI c o n c' o' n' k=0→allP c o c' o' k n 0 ≠ []) :
  CallSpec η Tryd.prog B 8 [.agg ⟨[.slice (some ⟨126,o,none⟩) n cap,.slice (some ⟨127,o',none⟩) n' cap',.int .i64 k,.slice (some ⟨128,0,none⟩) l.length cap2]⟩] (heapTT tabR [(ty,c),(ty',c'),(ty2,ptV l)]) fun v h=>v = .int .i64 (ckR c o n c' o' n' k l)∧h=heapTT tabR [(ty,c),(ty',c'),(ty2,ptV l)]:=by
 have nc:=nn_of hc.1
 have nc':=nn_of hc'.1
 have np:=nn_of pow_bare
 have nl:=nn_of (ptV_bare l)
 refine RCkNN.enter hη hmix (reg0 hη hmix) pow ty ty' ty2 o o' c c' (ptV l) n n' l.length cap cap' cap2 k ?_
 simp only [W.holds,true_and,and_true,true_implies,bne_iff_ne,ne_eq,bne_eq_false_iff_eq,Bool.not_eq_true',Bool.not_eq_false']
 refine⟨chkI_any (ty:=ty) (ty':=ty') (own:=0) (own':=0) hη hmix (by kernel_rfl) (by kernel_rfl) (by decide) hc hc' hl hcap hcn,fun h=>⟨fun _=>⟨⟨np,nc,nc',nl⟩,fun _=>?_⟩,fun h2=>absurd h2 h⟩,fun h=>?_⟩
 ·refine⟨?_,rfl⟩
  unfold ckR;rw [if_pos h]
 ·have k0:=chk_zero h
  obtain⟨n0,n16,en,hw,hk,hnm,htw,hct⟩:=k0
  subst en
  have hlen:(allP c o c' o' k n' 0).length≤100000:=by
   have:=allP_len (c:=c) (o:=o) (c':=c') (o':=o') hk n' 0 fun j _ hj=>hw j (by omega)
   omega
  have hl2:∀ i,i<n'→(strAt c (o+i)).length≤1000:=fun i hi=>by have:=noN_len (hnm i hi);omega
  have e1:srtP c o c' o' k n'=ptV (ptsS c o c' o' k n'):=by unfold srtP;rfl
  have e2:lenP c o c' o' k n'=(ptsS c o c' o' k n').length:=by unfold lenP ptsS;rw [List.length_mergeSort]
  have k1:=fun (H:AH) h1=>cpN_any (B:=B) (H:=H) (r:=126) (ty:=ty) (cap:=cap) (own:=0) hη hmix h1 hc (by omega) hl
  have k2:=fun (H:AH) h1=>clo_any (B:=B) (H:=H) (r:=127) (ty:=ty') (cap:=cap') (own:=0) hη hmix h1 hc' (by omega) n0
  have k3:=fun (H:AH) ht h1 h2=>ptN_any (B:=B) (H:=H) (r:=126) (r':=127) (ty:=ty) (ty':=ty') (cap:=cap) (cap':=cap') (own:=0) (own':=0) hη hmix ht h1 h2 (by decide) (by decide) (by decide) hc hc' rfl n16 hw hk hl2 hlen (hz h)
  refine⟨(k1 _ (by kernel_rfl)).conv (by kernel_rfl),(k2 _ (by kernel_rfl)).conv (by kernel_rfl),(k3 _ (hasT1 (by kernel_rfl)) (by kernel_rfl) (by kernel_rfl)).conv (by kernel_rfl),?_,fun hq=>⟨⟨np,nc,nc',nl⟩,fun _=>?_⟩,fun hq=>⟨⟨np,nc,nc',nl⟩,fun _=>?_⟩⟩
  ·rw [e1,e2]
   exact equ_any (ty:=ty2) (ty':=55) (own:=0) (own':=2) hη hmix (by kernel_rfl) (by kernel_rfl) (by decide) hll
  ·unfold equB at hq
   rw [e1,e2,ptsOf_ptV,ptsOf_ptV] at hq
   refine⟨?_,rfl⟩
   unfold ckR
   rw [if_neg (by rw [h];simp),if_neg (by simpa using hq)]
  ·unfold equB at hq
   rw [e1,e2,ptsOf_ptV,ptsOf_ptV] at hq
   refine⟨?_,rfl⟩
   unfold ckR
   rw [if_neg (by rw [h];simp),if_pos (by simpa using hq)]
end RG
end Go.Ev

namespace Go.Ev
open Go Go.Proofs
open Go.Ev.T renaming node → nN, nil → nZ
open Go.Proofs.Tryd (prog)
set_option maxRecDepth 100000
set_option maxHeartbeats 2000000
namespace REqNS
noncomputable def bd:Code:=(Go.Proofs.Tryd.f18.body).getD .skip
noncomputable def H0(ty:Nat)(c:List Value)(n cap:Nat):AH:={ objs:=eE nZ (eE nZ (eE nZ (eE nZ (eE nZ (eE nZ (lL (AObj.cells ty c false 0))))))),next:=127 }
noncomputable def E(ty:Nat)(c:List Value)(n cap:Nat):AS:=⟨⟨18,26,nS (Value.slice none 0 9223372036854775808) (lL (sS 126 0 n cap)) nZ,[Item.code (codeAt bd [])],[],FrameMode.run,CallKind.normal,none⟩,[],H0 ty c n cap⟩
noncomputable def S0(ty:Nat)(c:List Value)(n cap:Nat) (d:Nat→Value):AS:=⟨⟨18,26,nS (Value.slice none 0 9223372036854775808) (nS (sS 126 0 n cap) (nS (d 3) (nS (d 7) (lL (d 15)) (lL (d 23))) (nS (d 11) (lL (d 19)) nZ)) (nS (d 5) (nS (d 9) (lL (d 17)) (lL (d 25))) (nS (iI 0) (lL (d 21)) nZ))) (nS (d 2) (nS (d 4) (nS (d 8) (lL (d 16)) (lL (d 24))) (nS (iI 0) (lL (d 20)) nZ)) (nS (d 6) (nS (d 10) (lL (d 18)) nZ) (nS (d 14) (lL (d 22)) nZ))),[Item.code (codeAt bd [1,1,0,1,0,0]),Item.inLoop (codeAt bd [1,1,0,1,0,0]),Item.inBlock 0,Item.code (codeAt bd [1,1,1])],[],FrameMode.run,CallKind.normal,none⟩,[],⟨eE nZ (eE nZ (eE nZ (eE nZ (eE nZ (eE nZ (lL (AObj.cells ty c false 0))))))),127⟩⟩
theorem enter{η:Nat→Value}{B:Bd}(hη:OneCells η)(hmix:prog.follows .mixedOrders=true)(hreg:RegOk η prog B noNest){D:Value→AH→Prop}(ty:Nat)(c:List Value)(n cap:Nat)(h:W.holds η prog B 18 (fun kp_ st_=>RunD η prog B 18 (H0 ty c n cap) kp_ st_ (QF prog 127 D)) D (.ite ((0:Int) != (↑n:Int)) (.done 18 (Value.bool false) (H0 ty c n cap)) (.stop [0,1,12,13] (S0 ty c n cap  (fun _=>undef))))):CallSpec η prog B 18 [Value.slice none 0 9223372036854775808,Value.slice (some ⟨126,0,none⟩) n cap] (H0 ty c n cap) D:=by
 refine CallSpec.ofQF hη (CallSpec.enter (fr:=(E ty c n cap).fr) (by kernel_rfl) ?_)
 exact walk_okT (h0:=H0 ty c n cap) hη hmix hreg (.steps 13 <| .bit 10 (.steps 6 <| .done none) (.steps 11 <| .stop [0,1,12,13] none)) (E ty c n cap) (by kernel_rfl) h (by kernel_rfl)
theorem cut0{η:Nat→Value}{B:Bd}(hη:OneCells η)(hmix:prog.follows .mixedOrders=true)(hreg:RegOk η prog B noNest){D:Value→AH→Prop}(ty:Nat)(c:List Value)(n cap:Nat) (h:W.holds η prog B 18 (fun kp_ st_=>RunD η prog B 18 (H0 ty c n cap) kp_ st_ (QF prog 127 D)) D (.done 18 (Value.bool true) (H0 ty c n cap))):RunD η prog B 18 (H0 ty c n cap) [0,1,12,13] (S0 ty c n cap  fun _=>undef) (QF prog 127 D):=by
 refine RunD.intro (S0 ty c n cap) (fun d=>⟨rfl,rfl,rfl⟩) (fun d=>tmOk_get (by kernel_rfl)) (fun d=>by kernel_rfl) (fun d=>?_)
 exact walk_okT (h0:=H0 ty c n cap) hη hmix hreg (.steps 12 <| .done none) (S0 ty c n cap  d) (by kernel_rfl) h (by kernel_rfl)
end REqNS
namespace REqSN
noncomputable def bd:Code:=(Go.Proofs.Tryd.f18.body).getD .skip
noncomputable def H0(ty:Nat)(c:List Value)(n cap:Nat):AH:={ objs:=eE nZ (eE nZ (eE nZ (eE nZ (eE nZ (eE nZ (lL (AObj.cells ty c false 0))))))),next:=127 }
noncomputable def E(ty:Nat)(c:List Value)(n cap:Nat):AS:=⟨⟨18,26,nS (sS 126 0 n cap) (lL (Value.slice none 0 0)) nZ,[Item.code (codeAt bd [])],[],FrameMode.run,CallKind.normal,none⟩,[],H0 ty c n cap⟩
noncomputable def S0(ty:Nat)(c:List Value)(n cap:Nat) (d:Nat→Value):AS:=⟨⟨18,26,nS (sS 126 0 n cap) (nS (Value.slice none 0 0) (nS (d 3) (nS (d 7) (lL (d 15)) (lL (d 23))) (nS (d 11) (lL (d 19)) nZ)) (nS (d 5) (nS (d 9) (lL (d 17)) (lL (d 25))) (nS (iI 0) (lL (d 21)) nZ))) (nS (d 2) (nS (d 4) (nS (d 8) (lL (d 16)) (lL (d 24))) (nS (iI (↑n:Int)) (lL (d 20)) nZ)) (nS (d 6) (nS (d 10) (lL (d 18)) nZ) (nS (d 14) (lL (d 22)) nZ))),[Item.code (codeAt bd [1,1,0,1,0,0]),Item.inLoop (codeAt bd [1,1,0,1,0,0]),Item.inBlock 0,Item.code (codeAt bd [1,1,1])],[],FrameMode.run,CallKind.normal,none⟩,[],⟨eE nZ (eE nZ (eE nZ (eE nZ (eE nZ (eE nZ (lL (AObj.cells ty c false 0))))))),127⟩⟩
theorem enter{η:Nat→Value}{B:Bd}(hη:OneCells η)(hmix:prog.follows .mixedOrders=true)(hreg:RegOk η prog B noNest){D:Value→AH→Prop}(ty:Nat)(c:List Value)(n cap:Nat)(h:W.holds η prog B 18 (fun kp_ st_=>RunD η prog B 18 (H0 ty c n cap) kp_ st_ (QF prog 127 D)) D (.ite ((↑n:Int) != (0:Int)) (.done 18 (Value.bool false) (H0 ty c n cap)) (.stop [0,1,12,13] (S0 ty c n cap  (fun _=>undef))))):CallSpec η prog B 18 [Value.slice (some ⟨126,0,none⟩) n cap,Value.slice none 0 0] (H0 ty c n cap) D:=by
 refine CallSpec.ofQF hη (CallSpec.enter (fr:=(E ty c n cap).fr) (by kernel_rfl) ?_)
 exact walk_okT (h0:=H0 ty c n cap) hη hmix hreg (.steps 13 <| .bit 10 (.steps 6 <| .done none) (.steps 11 <| .stop [0,1,12,13] none)) (E ty c n cap) (by kernel_rfl) h (by kernel_rfl)
theorem cut0{η:Nat→Value}{B:Bd}(hη:OneCells η)(hmix:prog.follows .mixedOrders=true)(hreg:RegOk η prog B noNest){D:Value→AH→Prop}(ty:Nat)(c:List Value)(n cap:Nat) (h:W.holds η prog B 18 (fun kp_ st_=>RunD η prog B 18 (H0 ty c n cap) kp_ st_ (QF prog 127 D)) D (.ite (decide ((0:Int)<(↑n:Int))) (.need ((0:Int)≤(0:Int)∧(0:Int)<(↑n:Int)) (.need ((2:Nat)≤c.length∧List.take (2:Nat) c=[Value.int IntKind.u32 (intAt c (0:Nat)),Value.int IntKind.i64 (intAt c (1:Nat))]) (.fail "in a drawn region"))) (.done 18 (Value.bool true) (H0 ty c n cap)))):RunD η prog B 18 (H0 ty c n cap) [0,1,12,13] (S0 ty c n cap  fun _=>undef) (QF prog 127 D):=by
 refine RunD.intro (S0 ty c n cap) (fun d=>⟨rfl,rfl,rfl⟩) (fun d=>tmOk_get (by kernel_rfl)) (fun d=>by kernel_rfl) (fun d=>?_)
 exact walk_okT (h0:=H0 ty c n cap) hη hmix hreg (.steps 5 <| .bit 14 (.steps 10 <| .reg <| .steps 2 <| .op <| .op <| .steps 2 <| .both (.done none) (.done none)) (.steps 7 <| .done none)) (S0 ty c n cap  d) (by kernel_rfl) h (by kernel_rfl)
end REqSN
end Go.Ev

/- Rings of backends: Check, where there are no points. -/
namespace Go.Ev
open Go Go.Proofs
variable {η:Nat→Value} {B:Bd}
namespace RG
theorem equNS_any(hη:OneCells η)(hmix:Tryd.prog.follows .mixedOrders=true){H:AH}{r ty n cap own:Nat}{c:List Value}(hr:H.objs.get r=some (.cells ty c false own))(hb:c.all bareV=true) :
  CallSpec η Tryd.prog B 18 [.slice none 0 9223372036854775808,.slice (some ⟨r,0,none⟩) n cap] H (KT.ret (.bool (decide (n=0))) H).sat:=by
 refine CallSpec.pureR (l:=[(ty,c)]) (rn:=fun _=>r) (args:=[.slice none 0 9223372036854775808,.slice (some ⟨126,0,none⟩) n cap]) hη FN.gs9 (FN.rowsIn1 hr hb) (.cons (.slice0 _ _) (.cons (.slice (σ:=sigR fun _=>r) _ _ (by simp)) .nil)) (fun _ _=>.bool _) ?_
 refine REqNS.enter hη hmix (reg0 hη hmix) ty c n cap ?_
 have cut:=REqNS.cut0 (η:=η) (B:=B) (D:=fun v h=>v = .bool (decide (n=0))∧h=REqNS.H0 ty c n cap) hη hmix (reg0 hη hmix) ty c n cap
 simp only [W.holds,true_and,and_true,true_implies,bne_iff_ne,ne_eq,bne_eq_false_iff_eq] at cut ⊢
 refine⟨fun h=>⟨by rw [decide_eq_false (fun q=>h (by omega))],rfl⟩,fun h=>cut ?_⟩
 rw [decide_eq_true (by omega)]
theorem equSN_any(hη:OneCells η)(hmix:Tryd.prog.follows .mixedOrders=true){H:AH}{r ty n cap own:Nat}{c:List Value}(hr:H.objs.get r=some (.cells ty c false own))(hb:c.all bareV=true) :
  CallSpec η Tryd.prog B 18 [.slice (some ⟨r,0,none⟩) n cap,.slice none 0 0] H (KT.ret (.bool (decide (n=0))) H).sat:=by
 refine CallSpec.pureR (l:=[(ty,c)]) (rn:=fun _=>r) (args:=[.slice (some ⟨126,0,none⟩) n cap,.slice none 0 0]) hη FN.gs9 (FN.rowsIn1 hr hb) (.cons (.slice (σ:=sigR fun _=>r) _ _ (by simp)) (.cons (.slice0 _ _) .nil)) (fun _ _=>.bool _) ?_
 refine REqSN.enter hη hmix (reg0 hη hmix) ty c n cap ?_
 have cut:=REqSN.cut0 (η:=η) (B:=B) (D:=fun v h=>v = .bool (decide (n=0))∧h=REqSN.H0 ty c n cap) hη hmix (reg0 hη hmix) ty c n cap
 simp only [W.holds,true_and,and_true,true_implies,bne_iff_ne,ne_eq,bne_eq_false_iff_eq,decide_eq_true_eq,decide_eq_false_iff_not] at cut ⊢
 refine⟨fun h=>⟨by rw [decide_eq_false (fun q=>h (by omega))],rfl⟩,fun h=>cut ⟨fun q=>by omega,fun _=>?_⟩⟩
 rw [decide_eq_true (by omega)]
theorem equNN_any(hη:OneCells η)(hmix:Tryd.prog.follows .mixedOrders=true)(H:AH) :
  CallSpec η Tryd.prog B 18 [.slice none 0 9223372036854775808,.slice none 0 0] H (KT.ret (.bool true) H).sat:=
 CallSpec.bare hη FN.gs9 (N:=126) (fun _ _=>.cons (.slice0 _ _) (.cons (.slice0 _ _) .nil)) (fun _ _=>.bool _) (fun _ _=>.bool _) ((CallSpec.eval (fuel:=100000) (depth:=20) (h':=heapN 126) (v:=.bool true) hη hmix (by kernel_rfl)).mono fun _ _ hh=>hh.1) H
theorem ptE_any(hη:OneCells η)(hmix:Tryd.prog.follows .mixedOrders=true){H:AH}{r r' ty ty' o o' n n' cap cap' own own':Nat}{c c':List Value}{k:Int}(ht:HasT H tabR)(hr:H.objs.get r=some (.cells ty c false own))(hr':H.objs.get r'=some (.cells ty' c' false own'))(hne:r ≠ r')(hlo:126≤r)(hlo':126≤r')(hc:RowS c o n)(hc':RowI c' o' n)(hn':n'=n)(hn:n≤16)(hw:∀ i,i<n→0≤intAt c' (o'+i)∧intAt c' (o'+i)≤20)(hk:1≤k∧k≤100)(hl:∀ i,i<n→(strAt c (o+i)).length≤1000)(hz:allP c o c' o' k n 0=[]) :
  CallSpec η Tryd.prog B 29 [.slice (some ⟨r,o,none⟩) n cap,.slice (some ⟨r',o',none⟩) n' cap',.int .i64 k] H (KT.ret (.slice none 0 0) H).sat:=by
 refine CallSpec.pureRW (l:=[(ty,c),(ty',c')]) (t:=tabR) (args:=[.slice (some ⟨126,o,none⟩) n cap,.slice (some ⟨127,o',none⟩) n' cap',.int .i64 k]) hη FN.gs9 tabR_ok ht (rows2 hr hr' hne hc.1 hc'.1) (fun i hi=>?_) (.cons ?_ (.cons ?_ (.cons (.int _ _) .nil))) (fun _ _=>.slice0 _ _) ((pts_can hη hmix hc hc' hn' hn hw hk hl (by rw [hz];simp)).mono fun v h hd=>?_)
 ·have:=gs_lt
  show Tryd.prog.globals.size<if i=0 then r else r'
  split <;> omega
 ·exact .slice (σ:=sigR fun i=>if i=0 then r else r') _ _ (by simp)
 ·exact .slice (σ:=sigR fun i=>if i=0 then r else r') _ _ (by simp)
 ·unfold ptsD at hd
  rw [if_pos hz] at hd
  exact hd
theorem ptsS_nil{c:List Value}{o:Nat}{c':List Value}{o':Nat}{k:Int}{n:Nat}:ptsS c o c' o' k n=[] ↔ allP c o c' o' k n 0=[]:=by
 unfold ptsS
 constructor
 ·intro h
  have:=congrArg List.length h
  rw [List.length_mergeSort] at this
  exact List.length_eq_zero_iff.1 this
 ·intro h;rw [h];simp

set_option maxRecDepth 20000 in
set_option maxHeartbeats 4000000 in
theorem ckNE_can(hη:OneCells η)(hmix:Tryd.prog.follows .mixedOrders=true){ty ty' o o' n n' cap cap':Nat}{c c':List Value}{k:Int}(hc:RowS c o n)(hc':RowI c' o' n')(hl:∀ i,i<n→(strAt c (o+i)).length≤1000000)(hcap:isU cap=false)(hcn:n≤cap)(hz:chkI c o n c' o' n' k=0→allP c o c' o' k n 0 ≠ []) :
  CallSpec η Tryd.prog B 8 [.agg ⟨[.slice (some ⟨126,o,none⟩) n cap,.slice (some ⟨127,o',none⟩) n' cap',.int .i64 k,.slice none 0 9223372036854775808]⟩] (heapTT tabR [(ty,c),(ty',c')]) fun v h=>v = .int .i64 (ckR c o n c' o' n' k [])∧h=heapTT tabR [(ty,c),(ty',c')]:=by
 have nc:=nn_of hc.1
 have nc':=nn_of hc'.1
 have np:=nn_of pow_bare
 refine RCkNE.enter hη hmix (reg0 hη hmix) pow ty ty' o o' c c' n n' cap cap' k ?_
 simp only [W.holds,true_and,and_true,true_implies,bne_iff_ne,ne_eq,bne_eq_false_iff_eq,Bool.not_eq_true',Bool.not_eq_false']
 refine⟨chkI_any (ty:=ty) (ty':=ty') (own:=0) (own':=0) hη hmix (by kernel_rfl) (by kernel_rfl) (by decide) hc hc' hl hcap hcn,fun h=>⟨fun _=>⟨⟨np,nc,nc'⟩,fun _=>?_⟩,fun h2=>absurd h2 h⟩,fun h=>?_⟩
 ·refine⟨?_,rfl⟩
  unfold ckR;rw [if_pos h]
 ·have k0:=chk_zero h
  obtain⟨n0,n16,en,hw,hk,hnm,htw,hct⟩:=k0
  subst en
  have hlen:(allP c o c' o' k n' 0).length≤100000:=by
   have:=allP_len (c:=c) (o:=o) (c':=c') (o':=o') hk n' 0 fun j _ hj=>hw j (by omega)
   omega
  have hl2:∀ i,i<n'→(strAt c (o+i)).length≤1000:=fun i hi=>by have:=noN_len (hnm i hi);omega
  have e1:srtP c o c' o' k n'=ptV (ptsS c o c' o' k n'):=by unfold srtP;rfl
  have e2:lenP c o c' o' k n'=(ptsS c o c' o' k n').length:=by unfold lenP ptsS;rw [List.length_mergeSort]
  have k1:=fun (H:AH) h1=>cpN_any (B:=B) (H:=H) (r:=126) (ty:=ty) (cap:=cap) (own:=0) hη hmix h1 hc (by omega) hl
  have k2:=fun (H:AH) h1=>clo_any (B:=B) (H:=H) (r:=127) (ty:=ty') (cap:=cap') (own:=0) hη hmix h1 hc' (by omega) n0
  have k3:=fun (H:AH) ht h1 h2=>ptN_any (B:=B) (H:=H) (r:=126) (r':=127) (ty:=ty) (ty':=ty') (cap:=cap) (cap':=cap') (own:=0) (own':=0) hη hmix ht h1 h2 (by decide) (by decide) (by decide) hc hc' rfl n16 hw hk hl2 hlen (hz h)
  refine⟨(k1 _ (by kernel_rfl)).conv (by kernel_rfl),(k2 _ (by kernel_rfl)).conv (by kernel_rfl),(k3 _ (hasT1 (by kernel_rfl)) (by kernel_rfl) (by kernel_rfl)).conv (by kernel_rfl),?_,fun hq=>⟨⟨np,nc,nc'⟩,fun _=>?_⟩,fun hq=>⟨⟨np,nc,nc'⟩,fun _=>?_⟩⟩
  ·rw [e1,e2]
   exact equNS_any (ty:=55) (own:=2) hη hmix (by kernel_rfl) (ptV_bare (ptsS c o c' o' k n'))
  ·refine⟨?_,rfl⟩
   unfold ckR
   rw [if_neg (by rw [h];simp),if_neg (fun q=>hz h (ptsS_nil.1 q.symm))]
  ·rw [e2] at hq
   exact absurd (ptsS_nil.1 (List.length_eq_zero_iff.1 (by simpa using hq))) (hz h)

set_option maxRecDepth 20000 in
set_option maxHeartbeats 4000000 in
theorem ckEN_can(hη:OneCells η)(hmix:Tryd.prog.follows .mixedOrders=true){ty ty' ty2 o o' n n' cap cap' cap2:Nat}{c c':List Value}{l:List (Int × Int)}{k:Int}(hc:RowS c o n)(hc':RowI c' o' n')(hl:∀ i,i<n→(strAt c (o+i)).length≤1000000)(hcap:isU cap=false)(hcn:n≤cap)(hll:l.length≤1000000)(hz:chkI c o n c' o' n' k=0→allP c o c' o' k n 0=[])(hne:l ≠ []) :
  CallSpec η Tryd.prog B 8 [.agg ⟨[.slice (some ⟨126,o,none⟩) n cap,.slice (some ⟨127,o',none⟩) n' cap',.int .i64 k,.slice (some ⟨128,0,none⟩) l.length cap2]⟩] (heapTT tabR [(ty,c),(ty',c'),(ty2,ptV l)]) fun v h=>v = .int .i64 (ckR c o n c' o' n' k l)∧h=heapTT tabR [(ty,c),(ty',c'),(ty2,ptV l)]:=by
 have nc:=nn_of hc.1
 have nc':=nn_of hc'.1
 have np:=nn_of pow_bare
 have nl:=nn_of (ptV_bare l)
 refine RCkEN.enter hη hmix (reg0 hη hmix) pow ty ty' ty2 o o' c c' (ptV l) n n' l.length cap cap' cap2 k ?_
 simp only [W.holds,true_and,and_true,true_implies,bne_iff_ne,ne_eq,bne_eq_false_iff_eq,Bool.not_eq_true',Bool.not_eq_false']
 refine⟨chkI_any (ty:=ty) (ty':=ty') (own:=0) (own':=0) hη hmix (by kernel_rfl) (by kernel_rfl) (by decide) hc hc' hl hcap hcn,fun h=>⟨fun _=>⟨⟨np,nc,nc',nl⟩,fun _=>?_⟩,fun h2=>absurd h2 h⟩,fun h=>?_⟩
 ·refine⟨?_,rfl⟩
  unfold ckR;rw [if_pos h]
 ·have k0:=chk_zero h
  obtain⟨n0,n16,en,hw,hk,hnm,htw,hct⟩:=k0
  subst en
  have hl2:∀ i,i<n'→(strAt c (o+i)).length≤1000:=fun i hi=>by have:=noN_len (hnm i hi);omega
  have k1:=fun (H:AH) h1=>cpN_any (B:=B) (H:=H) (r:=126) (ty:=ty) (cap:=cap) (own:=0) hη hmix h1 hc (by omega) hl
  have k2:=fun (H:AH) h1=>clo_any (B:=B) (H:=H) (r:=127) (ty:=ty') (cap:=cap') (own:=0) hη hmix h1 hc' (by omega) n0
  have k3:=fun (H:AH) ht h1 h2=>ptE_any (B:=B) (H:=H) (r:=126) (r':=127) (ty:=ty) (ty':=ty') (cap:=cap) (cap':=cap') (own:=0) (own':=0) hη hmix ht h1 h2 (by decide) (by decide) (by decide) hc hc' rfl n16 hw hk hl2 (hz h)
  refine⟨(k1 _ (by kernel_rfl)).conv (by kernel_rfl),(k2 _ (by kernel_rfl)).conv (by kernel_rfl),k3 _ (hasT1 (by kernel_rfl)) (by kernel_rfl) (by kernel_rfl),?_,fun hq=>⟨⟨np,nc,nc',nl⟩,fun _=>?_⟩,fun hq=>⟨⟨np,nc,nc',nl⟩,fun _=>?_⟩⟩
  ·exact equSN_any (ty:=ty2) (own:=0) hη hmix (by kernel_rfl) (ptV_bare l)
  ·refine⟨?_,rfl⟩
   unfold ckR
   rw [if_neg (by rw [h];simp),if_neg (fun q=>hne (by rw [q];exact ptsS_nil.2 (hz h)))]
  ·exact absurd (List.length_eq_zero_iff.1 (by simpa using hq)) hne

set_option maxRecDepth 20000 in
set_option maxHeartbeats 4000000 in
theorem ckEE_can(hη:OneCells η)(hmix:Tryd.prog.follows .mixedOrders=true){ty ty' o o' n n' cap cap':Nat}{c c':List Value}{k:Int}(hc:RowS c o n)(hc':RowI c' o' n')(hl:∀ i,i<n→(strAt c (o+i)).length≤1000000)(hcap:isU cap=false)(hcn:n≤cap)(hz:chkI c o n c' o' n' k=0→allP c o c' o' k n 0=[]) :
  CallSpec η Tryd.prog B 8 [.agg ⟨[.slice (some ⟨126,o,none⟩) n cap,.slice (some ⟨127,o',none⟩) n' cap',.int .i64 k,.slice none 0 9223372036854775808]⟩] (heapTT tabR [(ty,c),(ty',c')]) fun v h=>v = .int .i64 (ckR c o n c' o' n' k [])∧h=heapTT tabR [(ty,c),(ty',c')]:=by
 have nc:=nn_of hc.1
 have nc':=nn_of hc'.1
 have np:=nn_of pow_bare
 refine RCkEE.enter hη hmix (reg0 hη hmix) pow ty ty' o o' c c' n n' cap cap' k ?_
 simp only [W.holds,true_and,and_true,true_implies,bne_iff_ne,ne_eq,bne_eq_false_iff_eq,Bool.not_eq_true',Bool.not_eq_false']
 refine⟨chkI_any (ty:=ty) (ty':=ty') (own:=0) (own':=0) hη hmix (by kernel_rfl) (by kernel_rfl) (by decide) hc hc' hl hcap hcn,fun h=>⟨fun _=>⟨⟨np,nc,nc'⟩,fun _=>?_⟩,fun h2=>absurd h2 h⟩,fun h=>?_⟩
 ·refine⟨?_,rfl⟩
  unfold ckR;rw [if_pos h]
 ·have k0:=chk_zero h
  obtain⟨n0,n16,en,hw,hk,hnm,htw,hct⟩:=k0
  subst en
  have hl2:∀ i,i<n'→(strAt c (o+i)).length≤1000:=fun i hi=>by have:=noN_len (hnm i hi);omega
  have k1:=fun (H:AH) h1=>cpN_any (B:=B) (H:=H) (r:=126) (ty:=ty) (cap:=cap) (own:=0) hη hmix h1 hc (by omega) hl
  have k2:=fun (H:AH) h1=>clo_any (B:=B) (H:=H) (r:=127) (ty:=ty') (cap:=cap') (own:=0) hη hmix h1 hc' (by omega) n0
  have k3:=fun (H:AH) ht h1 h2=>ptE_any (B:=B) (H:=H) (r:=126) (r':=127) (ty:=ty) (ty':=ty') (cap:=cap) (cap':=cap') (own:=0) (own':=0) hη hmix ht h1 h2 (by decide) (by decide) (by decide) hc hc' rfl n16 hw hk hl2 (hz h)
  refine⟨(k1 _ (by kernel_rfl)).conv (by kernel_rfl),(k2 _ (by kernel_rfl)).conv (by kernel_rfl),k3 _ (hasT1 (by kernel_rfl)) (by kernel_rfl) (by kernel_rfl),equNN_any hη hmix _,⟨np,nc,nc'⟩,fun _=>?_⟩
  refine⟨?_,rfl⟩
  unfold ckR
  rw [if_neg (by rw [h];simp),if_pos (ptsS_nil.2 (hz h)).symm]

end RG
end Go.Ev

namespace Go.Ev
open Go Go.Proofs
open Go.Ev.T renaming node → nN, nil → nZ
open Go.Proofs.Tryd (prog)
set_option maxRecDepth 100000
set_option maxHeartbeats 2000000
namespace RFnN
noncomputable def bd:Code:=(Go.Proofs.Tryd.f11.body).getD .skip
noncomputable def H0(tb:List Value)(ty ty' ty2 o o':Nat)(c c' c2:List Value)(n n' m cap cap' cap2:Nat)(kn:Int)(s:List UInt8):AH:={ objs:=nS (AObj.cells 115 tb true 0) (eE (eE (eE (eE (eE (eE (lL (AObj.cells ty' c' false 0)) nZ) nZ) nZ) nZ) nZ) nZ) (eE (eE (eE (eE (eE (eE (lL (AObj.cells ty2 c2 false 0)) nZ) nZ) nZ) nZ) nZ) (eE nZ (eE nZ (eE nZ (eE nZ (lL (AObj.cells ty c false 0))))))),next:=129 }
noncomputable def E(tb:List Value)(ty ty' ty2 o o':Nat)(c c' c2:List Value)(n n' m cap cap' cap2:Nat)(kn:Int)(s:List UInt8):AS:=⟨⟨11,17,nS (Value.agg ⟨[sS 126 o n cap,Value.slice (some ⟨127,o',none⟩) n' cap',iI kn,sS 128 0 m cap2]⟩) (lL (Value.string ⟨⟨s⟩⟩)) nZ,[Item.code (codeAt bd [])],[],FrameMode.run,CallKind.normal,none⟩,[],H0 tb ty ty' ty2 o o' c c' c2 n n' m cap cap' cap2 kn s⟩
theorem enter{η:Nat→Value}{B:Bd}(hη:OneCells η)(hmix:prog.follows .mixedOrders=true)(hreg:RegOk η prog B noNest){D:Value→AH→Prop}(tb:List Value)(ty ty' ty2 o o':Nat)(c c' c2:List Value)(n n' m cap cap' cap2:Nat)(kn:Int)(s:List UInt8)(h:let q2:=(RG.ckI c o n c' o' n' kn c2 m != (0:Int));let q1:AH:=⟨nS (AObj.cells 115 tb true 0) (eE (eE (eE (eE (eE (eE (lL (AObj.cells ty' c' false 0)) nZ) nZ) nZ) nZ) nZ) (eE (eE (eE (eE (eE (lL (AObj.cells 26 [sS 126 o n cap,Value.slice (some ⟨127,o',none⟩) n' cap',iI kn,sS 128 0 m cap2] true 2)) nZ) nZ) nZ) nZ) nZ)) (eE (eE (eE (eE (eE (eE (lL (AObj.cells ty2 c2 false 0)) nZ) nZ) nZ) nZ) nZ) (eE (eE (eE (eE (eE (lL (AObj.cells 26 [sS 126 o n cap,Value.slice (some ⟨127,o',none⟩) n' cap',iI kn,sS 128 0 m cap2] true 2)) nZ) nZ) nZ) nZ) (eE nZ (eE nZ (eE nZ (lL (AObj.cells ty c false 0))))))),131⟩;let q0:W:=(.need (s.length≤(1000000:Nat)) (.call 15 [Value.slice (some ⟨131,0,none⟩) s.length 9223372036854775809] (⟨nS (AObj.cells 115 tb true 0) (eE (eE (eE (eE (eE (eE (lL (AObj.cells ty' c' false 0)) nZ) nZ) nZ) nZ) (eE (eE (eE (eE (lL (AObj.cells 5 (bytesV s) false 2)) nZ) nZ) nZ) nZ)) (eE (eE (eE (eE (eE (lL (AObj.cells 26 [sS 126 o n cap,Value.slice (some ⟨127,o',none⟩) n' cap',iI kn,sS 128 0 m cap2] true 2)) nZ) nZ) nZ) nZ) nZ)) (eE (eE (eE (eE (eE (eE (lL (AObj.cells ty2 c2 false 0)) nZ) nZ) nZ) nZ) nZ) (eE (eE (eE (eE (eE (lL (AObj.cells 26 [sS 126 o n cap,Value.slice (some ⟨127,o',none⟩) n' cap',iI kn,sS 128 0 m cap2] true 2)) nZ) nZ) nZ) nZ) (eE nZ (eE nZ (eE nZ (lL (AObj.cells ty c false 0))))))),132⟩) (.ret (Value.int IntKind.u32 (FN.fnv IntKind.u32 16777619 (bytesV s) 0 s.length 2166136261)) (⟨nS (AObj.cells 115 tb true 0) (eE (eE (eE (eE (eE (eE (lL (AObj.cells ty' c' false 0)) nZ) nZ) nZ) nZ) (eE (eE (eE (eE (lL (AObj.cells 5 (bytesV s) false 2)) nZ) nZ) nZ) nZ)) (eE (eE (eE (eE (eE (lL (AObj.cells 26 [sS 126 o n cap,Value.slice (some ⟨127,o',none⟩) n' cap',iI kn,sS 128 0 m cap2] true 2)) nZ) nZ) nZ) nZ) nZ)) (eE (eE (eE (eE (eE (eE (lL (AObj.cells ty2 c2 false 0)) nZ) nZ) nZ) nZ) nZ) (eE (eE (eE (eE (eE (lL (AObj.cells 26 [sS 126 o n cap,Value.slice (some ⟨127,o',none⟩) n' cap',iI kn,sS 128 0 m cap2] true 2)) nZ) nZ) nZ) nZ) (eE nZ (eE nZ (eE nZ (lL (AObj.cells ty c false 0))))))),132⟩)) (.call 44 [Value.slice (some ⟨128,0,none⟩) m cap2,Value.int IntKind.u32 (FN.fnv IntKind.u32 16777619 (bytesV s) 0 s.length 2166136261),Value.func (Fn.func 45) ⟨[]⟩ ⟨[]⟩] (⟨nS (AObj.cells 115 tb true 0) (eE (eE (eE (eE (eE (eE (lL (AObj.cells ty' c' false 0)) nZ) nZ) nZ) nZ) (eE (eE (eE (eE (lL (AObj.cells 5 (bytesV s) false 2)) nZ) nZ) nZ) nZ)) (eE (eE (eE (eE (eE (lL (AObj.cells 26 [sS 126 o n cap,Value.slice (some ⟨127,o',none⟩) n' cap',iI kn,sS 128 0 m cap2] true 2)) nZ) nZ) nZ) nZ) nZ)) (eE (eE (eE (eE (eE (eE (lL (AObj.cells ty2 c2 false 0)) nZ) nZ) nZ) nZ) nZ) (eE (eE (eE (eE (eE (lL (AObj.cells 26 [sS 126 o n cap,Value.slice (some ⟨127,o',none⟩) n' cap',iI kn,sS 128 0 m cap2] true 2)) nZ) nZ) nZ) nZ) (eE nZ (eE nZ (eE nZ (lL (AObj.cells ty c false 0))))))),132⟩) (.ret (Value.tuple ⟨[Value.int IntKind.i64 (↑(RG.lbN c2 m (FN.fnv IntKind.u32 16777619 (bytesV s) 0 s.length 2166136261)):Int),Value.bool (RG.lbB c2 m (FN.fnv IntKind.u32 16777619 (bytesV s) 0 s.length 2166136261))]⟩) (⟨nS (AObj.cells 115 tb true 0) (eE (eE (eE (eE (eE (eE (lL (AObj.cells ty' c' false 0)) nZ) nZ) nZ) nZ) (eE (eE (eE (eE (lL (AObj.cells 5 (bytesV s) false 2)) nZ) nZ) nZ) nZ)) (eE (eE (eE (eE (eE (lL (AObj.cells 26 [sS 126 o n cap,Value.slice (some ⟨127,o',none⟩) n' cap',iI kn,sS 128 0 m cap2] true 2)) nZ) nZ) nZ) nZ) nZ)) (eE (eE (eE (eE (eE (eE (lL (AObj.cells ty2 c2 false 0)) nZ) nZ) nZ) nZ) nZ) (eE (eE (eE (eE (eE (lL (AObj.cells 26 [sS 126 o n cap,Value.slice (some ⟨127,o',none⟩) n' cap',iI kn,sS 128 0 m cap2] true 2)) nZ) nZ) nZ) nZ) (eE nZ (eE nZ (eE nZ (lL (AObj.cells ty c false 0))))))),132⟩)) (.ite ((↑(RG.lbN c2 m (FN.fnv IntKind.u32 (16777619:Int) (bytesV s) (0:Nat) s.length (2166136261:Int))):Int) == (↑m:Int)) (.need ((0:Int)≤(0:Int)∧(0:Int)<(↑m:Int)) (.need (c2[(1:Nat)]? = some (Value.int IntKind.i64 (intAt c2 (1:Nat)))) (.need (NoNames tb∧NoNames c∧NoNames c'∧NoNames c2∧True) (.done 11 (Value.tuple ⟨[Value.int IntKind.i64 (intAt c2 1),Value.int IntKind.i64 0]⟩) (H0 tb ty ty' ty2 o o' c c' c2 n n' m cap cap' cap2 kn s))))) (.need ((0:Int)≤(↑(RG.lbN c2 m (FN.fnv IntKind.u32 (16777619:Int) (bytesV s) (0:Nat) s.length (2166136261:Int))):Int)∧(↑(RG.lbN c2 m (FN.fnv IntKind.u32 (16777619:Int) (bytesV s) (0:Nat) s.length (2166136261:Int))):Int)<(↑m:Int)) (.need (c2[(0:Nat)+(↑(RG.lbN c2 m (FN.fnv IntKind.u32 (16777619:Int) (bytesV s) (0:Nat) s.length (2166136261:Int))):Int).toNat * (2:Nat)+(1:Nat)]? = some (Value.int IntKind.i64 (intAt c2 ((0:Nat)+(↑(RG.lbN c2 m (FN.fnv IntKind.u32 (16777619:Int) (bytesV s) (0:Nat) s.length (2166136261:Int))):Int).toNat * (2:Nat)+(1:Nat))))) (.need (NoNames tb∧NoNames c∧NoNames c'∧NoNames c2∧True) (.done 11 (Value.tuple ⟨[Value.int IntKind.i64 (intAt c2 (0+(↑(RG.lbN c2 m (FN.fnv IntKind.u32 16777619 (bytesV s) 0 s.length 2166136261)):Int).toNat * 2+1)),Value.int IntKind.i64 0]⟩) (H0 tb ty ty' ty2 o o' c c' c2 n n' m cap cap' cap2 kn s)))))))));W.holds η prog B 11 (fun kp_ st_=>RunD η prog B 11 (H0 tb ty ty' ty2 o o' c c' c2 n n' m cap cap' cap2 kn s) kp_ st_ (QF prog 129 D)) D (.call 8 [Value.agg ⟨[Value.slice (some ⟨126,o,none⟩) n cap,Value.slice (some ⟨127,o',none⟩) n' cap',Value.int IntKind.i64 kn,Value.slice (some ⟨128,0,none⟩) m cap2]⟩] (q1) (.ret (Value.int IntKind.i64 (RG.ckI c o n c' o' n' kn c2 m)) (q1)) (.ite q2 (.ite q2 (.need (NoNames tb∧NoNames c∧NoNames c'∧NoNames c2∧True) (.done 11 (Value.tuple ⟨[Value.int IntKind.i64 0,Value.int IntKind.i64 (RG.ckI c o n c' o' n' kn c2 m)]⟩) (H0 tb ty ty' ty2 o o' c c' c2 n n' m cap cap' cap2 kn s))) q0) (.ite (decide ((↑(⟨⟨s⟩⟩:ByteArray).size:Int) > (200:Int))) (.need (NoNames tb∧NoNames c∧NoNames c'∧NoNames c2∧True) (.done 11 (Value.tuple ⟨[Value.int IntKind.i64 0,Value.int IntKind.i64 3]⟩) (H0 tb ty ty' ty2 o o' c c' c2 n n' m cap cap' cap2 kn s))) (.ite ((↑m:Int) == (0:Int)) (.need (NoNames tb∧NoNames c∧NoNames c'∧NoNames c2∧True) (.done 11 (Value.tuple ⟨[Value.int IntKind.i64 0,Value.int IntKind.i64 4]⟩) (H0 tb ty ty' ty2 o o' c c' c2 n n' m cap cap' cap2 kn s))) q0))))):CallSpec η prog B 11 [Value.agg ⟨[Value.slice (some ⟨126,o,none⟩) n cap,Value.slice (some ⟨127,o',none⟩) n' cap',Value.int IntKind.i64 kn,Value.slice (some ⟨128,0,none⟩) m cap2]⟩,Value.string ⟨⟨s⟩⟩] (H0 tb ty ty' ty2 o o' c c' c2 n n' m cap cap' cap2 kn s) D:=by
 refine CallSpec.ofQF hη (CallSpec.enter (fr:=(E tb ty ty' ty2 o o' c c' c2 n n' m cap cap' cap2 kn s).fr) (by kernel_rfl) ?_)
 exact walk_okT (h0:=H0 tb ty ty' ty2 o o' c c' c2 n n' m cap cap' cap2 kn s) hη hmix hreg (.steps 21 <| .call kN <| .steps 7 <| .bit 9 (.steps 15 <| .bit 11 (.steps 8 <| .done (some ⟨129,[],[(0,(0,true)),(126,(126,true)),(127,(127,true)),(128,(128,true))]⟩)) (.steps 26 <| .op <| .call kN <| .call kN <| .steps 14 <| .bit 18 (.steps 7 <| .op <| .steps 1 <| .op <| .steps 8 <| .done (some ⟨129,[],[(0,(0,true)),(126,(126,true)),(127,(127,true)),(128,(128,true))]⟩)) (.steps 9 <| .op <| .steps 1 <| .op <| .steps 8 <| .done (some ⟨129,[],[(0,(0,true)),(126,(126,true)),(127,(127,true)),(128,(128,true))]⟩)))) (.steps 21 <| .bit 12 (.steps 22 <| .done (some ⟨129,[],[(0,(0,true)),(126,(126,true)),(127,(127,true)),(128,(128,true))]⟩)) (.steps 10 <| .bit 16 (.steps 22 <| .done (some ⟨129,[],[(0,(0,true)),(126,(126,true)),(127,(127,true)),(128,(128,true))]⟩)) (.steps 41 <| .op <| .call kN <| .call kN <| .steps 14 <| .bit 18 (.steps 7 <| .op <| .steps 1 <| .op <| .steps 8 <| .done (some ⟨129,[],[(0,(0,true)),(126,(126,true)),(127,(127,true)),(128,(128,true))]⟩)) (.steps 9 <| .op <| .steps 1 <| .op <| .steps 8 <| .done (some ⟨129,[],[(0,(0,true)),(126,(126,true)),(127,(127,true)),(128,(128,true))]⟩)))))) (E tb ty ty' ty2 o o' c c' c2 n n' m cap cap' cap2 kn s) (by kernel_rfl) h (by kernel_rfl)
end RFnN
end Go.Ev

/- Rings of backends: Check and Find, wherever they stand. -/
namespace Go.Ev
open Go Go.Proofs
variable {η:Nat→Value} {B:Bd}
namespace RG
theorem ckI_eq{c:List Value}{o n:Nat}{c':List Value}{o' n':Nat}{k:Int}{l:List (Int × Int)}:ckI c o n c' o' n' k (ptV l) l.length=ckR c o n c' o' n' k l:=by unfold ckI;rw [ptsOf_ptV]
theorem ckZ_eq{c:List Value}{o n:Nat}{c':List Value}{o' n':Nat}{k:Int}:ckZ c o n c' o' n' k=ckR c o n c' o' n' k []:=by unfold ckZ;rfl
def r3(r r' r2 i:Nat):Nat:=if i=0 then r else if i=1 then r' else r2
theorem rows3{H:AH}{r r' r2 ty ty' ty2 own own' own2:Nat}{c c' c2:List Value}(hr:H.objs.get r=some (.cells ty c false own))(hr':H.objs.get r'=some (.cells ty' c' false own'))(hr2:H.objs.get r2=some (.cells ty2 c2 false own2))(h1:r ≠ r')(h2:r ≠ r2)(h3:r' ≠ r2)(hb:c.all bareV=true)(hb':c'.all bareV=true)(hb2:c2.all bareV=true):RowsIn H [(ty,c),(ty',c'),(ty2,c2)] (r3 r r' r2):=by
 refine⟨fun i x hi=>?_,fun i j hi hj hij=>?_⟩
 ·match i with
  | 0=>simp at hi;subst hi;exact⟨hb,own,hr⟩
  | 1=>simp at hi;subst hi;exact⟨hb',own',hr'⟩
  | 2=>simp at hi;subst hi;exact⟨hb2,own2,hr2⟩
  | i+3=>simp at hi
 ·simp only [List.length_cons,List.length_nil] at hi hj
  unfold r3 at hij
  have hi':i=0∨i=1∨i=2:=by omega
  have hj':j=0∨j=1∨j=2:=by omega
  rcases hi' with rfl | rfl | rfl <;> rcases hj' with rfl | rfl | rfl <;> simp at hij <;> first | rfl | (exfalso;omega)
theorem ckN_any(hη:OneCells η)(hmix:Tryd.prog.follows .mixedOrders=true){H:AH}{r r' r2 ty ty' ty2 o o' n n' cap cap' cap2 own own' own2:Nat}{c c':List Value}{l:List (Int × Int)}{k:Int}(ht:HasT H tabR)(hr:H.objs.get r=some (.cells ty c false own))(hr':H.objs.get r'=some (.cells ty' c' false own'))(hr2:H.objs.get r2=some (.cells ty2 (ptV l) false own2))(h1:r ≠ r')(h2:r ≠ r2)(h3:r' ≠ r2)(hlo:126≤r∧126≤r'∧126≤r2)(hc:RowS c o n)(hc':RowI c' o' n')(hl:∀ i,i<n→(strAt c (o+i)).length≤1000000)(hcap:isU cap=false)(hcn:n≤cap)(hll:l.length≤1000000)(hne:l ≠ []) :
  CallSpec η Tryd.prog B 8 [.agg ⟨[.slice (some ⟨r,o,none⟩) n cap,.slice (some ⟨r',o',none⟩) n' cap',.int .i64 k,.slice (some ⟨r2,0,none⟩) l.length cap2]⟩] H (KT.ret (.int .i64 (ckI c o n c' o' n' k (ptV l) l.length)) H).sat:=by
 rw [ckI_eq]
 refine CallSpec.pureRW (l:=[(ty,c),(ty',c'),(ty2,ptV l)]) (t:=tabR) (rn:=r3 r r' r2) (args:=[.agg ⟨[.slice (some ⟨126,o,none⟩) n cap,.slice (some ⟨127,o',none⟩) n' cap',.int .i64 k,.slice (some ⟨128,0,none⟩) l.length cap2]⟩]) hη FN.gs9 tabR_ok ht (rows3 hr hr' hr2 h1 h2 h3 hc.1 hc'.1 (ptV_bare l)) (fun i hi=>?_) (.cons (.agg rfl fun j y z e1 e2=>?_) .nil) (fun _ _=>.int _ _) ?_
 ·have:=gs_lt
  unfold r3
  split
  ·omega
  ·split <;> omega
 ·match j,e1,e2 with
  | 0,e1,e2=>simp at e1 e2;subst e1;subst e2;exact .slice (σ:=sigR (r3 r r' r2)) (r:=126) _ _ (show 126<129 by decide)
  | 1,e1,e2=>simp at e1 e2;subst e1;subst e2;exact .slice (σ:=sigR (r3 r r' r2)) (r:=127) _ _ (show 127<129 by decide)
  | 2,e1,e2=>simp at e1 e2;subst e1;subst e2;exact .int _ _
  | 3,e1,e2=>simp at e1 e2;subst e1;subst e2;exact .slice (σ:=sigR (r3 r r' r2)) (r:=128) _ _ (show 128<129 by decide)
  | j+4,e1,e2=>simp at e1
 ·by_cases hz:allP c o c' o' k n 0=[]
  ·exact ckEN_can hη hmix hc hc' hl hcap hcn hll (fun _=>hz) hne
  ·exact ckNN_can hη hmix hc hc' hl hcap hcn hll (fun _=>hz)
theorem takeW_lt{l:List (Int × Int)}{x:Int}:∀ t (h:t<l.length),t<lbL l x→l[t].1<x:=by
 unfold lbL
 induction l with
 | nil=>intro t h;simp at h
 | cons p l ih=>
  intro t h ht
  by_cases hp:p.1<x
  ·rw [List.takeWhile_cons,if_pos (by simpa using hp)] at ht
   cases t with
   | zero=>exact hp
   | succ t=>exact ih t (by simpa using h) (by simpa using ht)
  ·rw [List.takeWhile_cons,if_neg (by simpa using hp)] at ht
   simp at ht
theorem takeW_ge{l:List (Int × Int)}{x:Int}(hs:l.Pairwise fun p q=>p.1≤q.1):∀ t (h:t<l.length),lbL l x≤t→¬ l[t].1<x:=by
 unfold lbL
 induction l with
 | nil=>intro t h;simp at h
 | cons p l ih=>
  intro t h ht
  obtain⟨h1,h2⟩:=List.pairwise_cons.1 hs
  by_cases hp:p.1<x
  ·rw [List.takeWhile_cons,if_pos (by simpa using hp)] at ht
   cases t with
   | zero=>simp at ht
   | succ t=>exact ih h2 t (by simpa using h) (by simpa using ht)
  ·cases t with
   | zero=>exact hp
   | succ t=>
    have h':t<l.length:=by simpa using h
    have:=h1 (l[t]'h') (List.getElem_mem h')
    show ¬ (l[t]'h').1<x
    omega
theorem lb_le(l:List (Int × Int))(x:Int):lbL l x≤l.length:=by unfold lbL;exact(List.takeWhile_sublist _).length_le
theorem bin_any(hη:OneCells η)(hmix:Tryd.prog.follows .mixedOrders=true){H:AH}{r ty cap own:Nat}{l:List (Int × Int)}{x:Int}(hr:H.objs.get r=some (.cells ty (ptV l) false own))(hn:l.length≤1000000)(hs:l.Pairwise fun p q=>p.1≤q.1) :
  CallSpec η Tryd.prog B 44 [.slice (some ⟨r,0,none⟩) l.length cap,.int .u32 x,.func (.func 45) #[] #[]] H (KT.ret (.tuple ⟨[.int .i64 (lbN (ptV l) l.length x:Int),.bool (lbB (ptV l) l.length x)]⟩) H).sat:=by
 have e:lbN (ptV l) l.length x=lbL l x:=by unfold lbN;rw [ptsOf_ptV]
 have e2:lbB (ptV l) l.length x=(decide (lbL l x<l.length) && (cmpI (intAt (ptV l) (lbL l x * 2)) x == 0)):=by unfold lbB;rw [e]
 rw [e,e2]
 refine CallSpec.pureR (l:=[(ty,ptV l)]) (rn:=fun _=>r) (args:=[.slice (some ⟨126,0,none⟩) l.length cap,.int .u32 x,.func (.func 45) #[] #[]]) hη FN.gs9 (FN.rowsIn1 hr (ptV_bare l)) (.cons (.slice (σ:=sigR fun _=>r) _ _ (by simp)) (.cons (.int _ _) (.cons (rv_f _) .nil))) (fun _ _=>.tuple rfl fun j y z e1 e2=>?_) (bin_can hη hmix hn (lb_le l x) takeW_lt (takeW_ge hs))
 match j,e1,e2 with
 | 0,e1,e2=>simp at e1 e2;subst e1;subst e2;exact .int _ _
 | 1,e1,e2=>simp at e1 e2;subst e1;subst e2;exact .bool _
 | j+2,e1,e2=>simp at e1
theorem ptsS_sorted(c:List Value)(o:Nat)(c':List Value)(o':Nat)(k:Int)(n:Nat):(ptsS c o c' o' k n).Pairwise fun p q=>p.1≤q.1:=by
 unfold ptsS
 have h:=List.pairwise_mergeSort (le:=leP) (fun a b d h1 h2=>by
  unfold leP at *
  simp only [Bool.not_eq_true',decide_eq_false_iff_not,lt_iff] at *
  omega) (fun a b=>by
  unfold leP
  simp only [Bool.or_eq_true,Bool.not_eq_true',decide_eq_false_iff_not,lt_iff]
  omega) (allP c o c' o' k n 0)
 refine h.imp fun {p q} hq=>?_
 unfold leP at hq
 simp only [Bool.not_eq_true',decide_eq_false_iff_not,lt_iff] at hq
 omega
def hsK(s:List UInt8):Int:=FN.fnv .u32 16777619 (bytesV s) 0 s.length 2166136261
set_option maxRecDepth 20000 in
set_option maxHeartbeats 4000000 in
theorem fnN_can(hη:OneCells η)(hmix:Tryd.prog.follows .mixedOrders=true){ty ty' ty2 o o' n n' cap cap' cap2:Nat}{c c':List Value}{l:List (Int × Int)}{k:Int}{s:List UInt8}(hc:RowS c o n)(hc':RowI c' o' n')(hl:∀ i,i<n→(strAt c (o+i)).length≤1000000)(hcap:isU cap=false)(hcn:n≤cap)(hll:l.length≤1000000)(hne:l ≠ [])(h0:ckR c o n c' o' n' k l=0)(hs:s.length≤200) :
  CallSpec η Tryd.prog B 11 [.agg ⟨[.slice (some ⟨126,o,none⟩) n cap,.slice (some ⟨127,o',none⟩) n' cap',.int .i64 k,.slice (some ⟨128,0,none⟩) l.length cap2]⟩,.string ⟨⟨s⟩⟩] (heapTT tabR [(ty,c),(ty',c'),(ty2,ptV l)]) fun v h=>v = .tuple ⟨[.int .i64 (bknL l (hsK s)),.int .i64 0]⟩∧h=heapTT tabR [(ty,c),(ty',c'),(ty2,ptV l)]:=by
 have nc:=nn_of hc.1
 have nc':=nn_of hc'.1
 have np:=nn_of pow_bare
 have nl:=nn_of (ptV_bare l)
 have hck:ckI c o n c' o' n' k (ptV l) l.length=0:=by rw [ckI_eq];exact h0
 have hpos:0<l.length:=List.length_pos_iff.2 hne
 have hsort:l.Pairwise fun p q=>p.1≤q.1:=by
  unfold ckR at h0
  split at h0
  ·omega
  split at h0
  ·rename_i e;rw [e];exact ptsS_sorted _ _ _ _ _ _
  ·omega
 have elb:lbN (ptV l) l.length (hsK s)=lbL l (hsK s):=by unfold lbN;rw [ptsOf_ptV]
 have eK:FN.fnv .u32 16777619 (bytesV s) 0 s.length 2166136261=hsK s:=rfl
 have hle:=lb_le l (hsK s)
 have gt:∀ {i:Nat} (h:i<l.length),(ptV l)[i * 2+1]? = some (.int .i64 (intAt (ptV l) (i * 2+1)))∧intAt (ptV l) (i * 2+1)=l[i].2:=fun {i} h=>by
  obtain⟨_,g2⟩:=ptV_get l h
  obtain⟨_,_,_,g4⟩:=pt_at h
  exact⟨by rw [g2,g4],g4⟩
 refine RFnN.enter hη hmix (reg0 hη hmix) pow ty ty' ty2 o o' c c' (ptV l) n n' l.length cap cap' cap2 k s ?_
 simp only [W.holds,true_and,and_true,true_implies,bne_iff_ne,ne_eq,bne_eq_false_iff_eq,beq_iff_eq,beq_eq_false_iff_ne,decide_eq_true_eq,decide_eq_false_iff_not,eK,elb,hck,Nat.zero_add,Int.toNat_natCast,not_true_eq_false,false_implies]
 have ck:=fun (H:AH) ht h1 h2 h3=>ckN_any (B:=B) (H:=H) (r:=126) (r':=127) (r2:=128) (ty:=ty) (ty':=ty') (ty2:=ty2) (own:=0) (own':=0) (own2:=0) (cap':=cap') (cap2:=cap2) (k:=k) hη hmix ht h1 h2 h3 (by decide) (by decide) (by decide) (by decide) hc hc' hl hcap hcn hll hne
 simp only [hck] at ck
 have sm:=fun (H:AH) (hr:H.objs.get 131=some (.cells 5 (bytesV s) false 2))=>FN.onV_any (B:=B) (cap:=capU 1) hη (pre:=[]) hr (FN.row_bytes s) (fun _ _=>.nil) (FN.HS3_can hη hmix (FN.row_bytes s) (by omega))
 have bi:=fun (H:AH) hr=>bin_any (B:=B) (H:=H) (r:=128) (ty:=ty2) (own:=0) (cap:=cap2) (x:=hsK s) hη hmix hr hll hsort
 simp only [elb] at bi
 have hsz:((⟨⟨s⟩⟩:ByteArray).size:Int)=(s.length:Int):=rfl
 refine⟨ck _ (hasT1 (by kernel_rfl)) (by kernel_rfl) (by kernel_rfl) (by kernel_rfl),fun hq=>?_,fun _=>⟨fun hm=>?_,fun _=>⟨by omega,fun _=>⟨sm _ (by kernel_rfl),bi _ (by kernel_rfl),fun he=>⟨⟨by omega,by omega⟩,fun _=>⟨(gt hpos).1,fun _=>⟨⟨np,nc,nc',nl⟩,fun _=>⟨?_,rfl⟩⟩⟩⟩,fun he=>⟨⟨by omega,by omega⟩,fun _=>⟨(gt (i:=lbL l (hsK s)) (by omega)).1,fun _=>⟨⟨np,nc,nc',nl⟩,fun _=>⟨?_,rfl⟩⟩⟩⟩⟩⟩⟩⟩
 ·rw [hsz] at hq;omega
 ·omega
 ·have e:=(gt hpos).2
  unfold bknL
  rw [if_pos (by omega),List.getElem?_eq_getElem hpos]
  rw [show(0 * 2+1:Nat)=1 from rfl] at e
  rw [e];rfl
 ·have hlt:lbL l (hsK s)<l.length:=by omega
  have e:=(gt hlt).2
  unfold bknL
  rw [if_neg (by omega),List.getElem?_eq_getElem hlt,e];rfl
end RG
end Go.Ev

namespace Go.Ev
open Go Go.Proofs
open Go.Ev.T renaming node → nN, nil → nZ
open Go.Proofs.Tryd (prog)
set_option maxRecDepth 100000
set_option maxHeartbeats 2000000
namespace RFnE
noncomputable def bd:Code:=(Go.Proofs.Tryd.f11.body).getD .skip
noncomputable def H0(tb:List Value)(ty ty' o o':Nat)(c c':List Value)(n n' cap cap':Nat)(kn:Int)(s:List UInt8):AH:={ objs:=nS (AObj.cells 115 tb true 0) (eE (eE (eE (eE (eE (eE (lL (AObj.cells ty' c' false 0)) nZ) nZ) nZ) nZ) nZ) nZ) (eE nZ (eE nZ (eE nZ (eE nZ (eE nZ (lL (AObj.cells ty c false 0))))))),next:=128 }
noncomputable def E(tb:List Value)(ty ty' o o':Nat)(c c':List Value)(n n' cap cap':Nat)(kn:Int)(s:List UInt8):AS:=⟨⟨11,17,nS (Value.agg ⟨[sS 126 o n cap,Value.slice (some ⟨127,o',none⟩) n' cap',iI kn,Value.slice none 0 9223372036854775808]⟩) (lL (Value.string ⟨⟨s⟩⟩)) nZ,[Item.code (codeAt bd [])],[],FrameMode.run,CallKind.normal,none⟩,[],H0 tb ty ty' o o' c c' n n' cap cap' kn s⟩
theorem enter{η:Nat→Value}{B:Bd}(hη:OneCells η)(hmix:prog.follows .mixedOrders=true)(hreg:RegOk η prog B noNest){D:Value→AH→Prop}(tb:List Value)(ty ty' o o':Nat)(c c':List Value)(n n' cap cap':Nat)(kn:Int)(s:List UInt8)(h:let q0:AH:=⟨nS (AObj.cells 115 tb true 0) (eE (eE (eE (eE (eE (eE (lL (AObj.cells ty' c' false 0)) nZ) nZ) nZ) nZ) nZ) (eE (eE (eE (eE (eE (lL (AObj.cells 26 [sS 126 o n cap,Value.slice (some ⟨127,o',none⟩) n' cap',iI kn,Value.slice none 0 9223372036854775808] true 2)) nZ) nZ) nZ) nZ) nZ)) (eE (eE (eE (eE (eE (eE (lL (AObj.cells 26 [sS 126 o n cap,Value.slice (some ⟨127,o',none⟩) n' cap',iI kn,Value.slice none 0 9223372036854775808] true 2)) nZ) nZ) nZ) nZ) nZ) (eE nZ (eE nZ (eE nZ (eE nZ (lL (AObj.cells ty c false 0))))))),130⟩;W.holds η prog B 11 (fun kp_ st_=>RunD η prog B 11 (H0 tb ty ty' o o' c c' n n' cap cap' kn s) kp_ st_ (QF prog 128 D)) D (.call 8 [Value.agg ⟨[Value.slice (some ⟨126,o,none⟩) n cap,Value.slice (some ⟨127,o',none⟩) n' cap',Value.int IntKind.i64 kn,Value.slice none 0 9223372036854775808]⟩] (q0) (.ret (Value.int IntKind.i64 0) (q0)) (.ite (decide ((↑(⟨⟨s⟩⟩:ByteArray).size:Int) > (200:Int))) (.need (NoNames tb∧NoNames c∧NoNames c'∧True) (.done 11 (Value.tuple ⟨[Value.int IntKind.i64 0,Value.int IntKind.i64 3]⟩) (H0 tb ty ty' o o' c c' n n' cap cap' kn s))) (.need (NoNames tb∧NoNames c∧NoNames c'∧True) (.done 11 (Value.tuple ⟨[Value.int IntKind.i64 0,Value.int IntKind.i64 4]⟩) (H0 tb ty ty' o o' c c' n n' cap cap' kn s)))))):CallSpec η prog B 11 [Value.agg ⟨[Value.slice (some ⟨126,o,none⟩) n cap,Value.slice (some ⟨127,o',none⟩) n' cap',Value.int IntKind.i64 kn,Value.slice none 0 9223372036854775808]⟩,Value.string ⟨⟨s⟩⟩] (H0 tb ty ty' o o' c c' n n' cap cap' kn s) D:=by
 refine CallSpec.ofQF hη (CallSpec.enter (fr:=(E tb ty ty' o o' c c' n n' cap cap' kn s).fr) (by kernel_rfl) ?_)
 exact walk_okT (h0:=H0 tb ty ty' o o' c c' n n' cap cap' kn s) hη hmix hreg (.steps 21 <| .call kN <| .steps 28 <| .bit 12 (.steps 22 <| .done (some ⟨128,[],[(0,(0,true)),(126,(126,true)),(127,(127,true))]⟩)) (.steps 32 <| .done (some ⟨128,[],[(0,(0,true)),(126,(126,true)),(127,(127,true))]⟩))) (E tb ty ty' o o' c c' n n' cap cap' kn s) (by kernel_rfl) h (by kernel_rfl)
end RFnE
end Go.Ev

/- Rings of backends: Check and Find without points; Find from any heap. -/
namespace Go.Ev
open Go Go.Proofs
variable {η:Nat→Value} {B:Bd}
namespace RG
theorem ckE_any(hη:OneCells η)(hmix:Tryd.prog.follows .mixedOrders=true){H:AH}{r r' ty ty' o o' n n' cap cap' own own':Nat}{c c':List Value}{k:Int}(ht:HasT H tabR)(hr:H.objs.get r=some (.cells ty c false own))(hr':H.objs.get r'=some (.cells ty' c' false own'))(h1:r ≠ r')(hlo:126≤r∧126≤r')(hc:RowS c o n)(hc':RowI c' o' n')(hl:∀ i,i<n→(strAt c (o+i)).length≤1000000)(hcap:isU cap=false)(hcn:n≤cap) :
  CallSpec η Tryd.prog B 8 [.agg ⟨[.slice (some ⟨r,o,none⟩) n cap,.slice (some ⟨r',o',none⟩) n' cap',.int .i64 k,.slice none 0 9223372036854775808]⟩] H (KT.ret (.int .i64 (ckZ c o n c' o' n' k)) H).sat:=by
 rw [ckZ_eq]
 refine CallSpec.pureRW (l:=[(ty,c),(ty',c')]) (t:=tabR) (rn:=fun i=>if i=0 then r else r') (args:=[.agg ⟨[.slice (some ⟨126,o,none⟩) n cap,.slice (some ⟨127,o',none⟩) n' cap',.int .i64 k,.slice none 0 9223372036854775808]⟩]) hη FN.gs9 tabR_ok ht (rows2 hr hr' h1 hc.1 hc'.1) (fun i hi=>?_) (.cons (.agg rfl fun j y z e1 e2=>?_) .nil) (fun _ _=>.int _ _) ?_
 ·have:=gs_lt
  show Tryd.prog.globals.size<if i=0 then r else r'
  split <;> omega
 ·match j,e1,e2 with
  | 0,e1,e2=>simp at e1 e2;subst e1;subst e2;exact .slice (σ:=sigR fun i=>if i=0 then r else r') (r:=126) _ _ (show 126<128 by decide)
  | 1,e1,e2=>simp at e1 e2;subst e1;subst e2;exact .slice (σ:=sigR fun i=>if i=0 then r else r') (r:=127) _ _ (show 127<128 by decide)
  | 2,e1,e2=>simp at e1 e2;subst e1;subst e2;exact .int _ _
  | 3,e1,e2=>simp at e1 e2;subst e1;subst e2;exact .slice0 _ _
  | j+4,e1,e2=>simp at e1
 ·by_cases hz:allP c o c' o' k n 0=[]
  ·exact ckEE_can hη hmix hc hc' hl hcap hcn (fun _=>hz)
  ·exact ckNE_can hη hmix hc hc' hl hcap hcn (fun _=>hz)
set_option maxRecDepth 20000 in
theorem fnE_can(hη:OneCells η)(hmix:Tryd.prog.follows .mixedOrders=true){ty ty' o o' n n' cap cap':Nat}{c c':List Value}{k:Int}{s:List UInt8}(hc:RowS c o n)(hc':RowI c' o' n')(hl:∀ i,i<n→(strAt c (o+i)).length≤1000000)(hcap:isU cap=false)(hcn:n≤cap)(h0:ckR c o n c' o' n' k []=0)(hs:s.length≤200) :
  CallSpec η Tryd.prog B 11 [.agg ⟨[.slice (some ⟨126,o,none⟩) n cap,.slice (some ⟨127,o',none⟩) n' cap',.int .i64 k,.slice none 0 9223372036854775808]⟩,.string ⟨⟨s⟩⟩] (heapTT tabR [(ty,c),(ty',c')]) fun v h=>v = .tuple ⟨[.int .i64 0,.int .i64 4]⟩∧h=heapTT tabR [(ty,c),(ty',c')]:=by
 have nc:=nn_of hc.1
 have nc':=nn_of hc'.1
 have np:=nn_of pow_bare
 have hck:ckZ c o n c' o' n' k=0:=by rw [ckZ_eq];exact h0
 have ck:=fun (H:AH) ht h1 h2=>ckE_any (B:=B) (H:=H) (r:=126) (r':=127) (ty:=ty) (ty':=ty') (own:=0) (own':=0) (cap':=cap') (k:=k) hη hmix ht h1 h2 (by decide) (by decide) hc hc' hl hcap hcn
 simp only [hck] at ck
 have hsz:((⟨⟨s⟩⟩:ByteArray).size:Int)=(s.length:Int):=rfl
 refine RFnE.enter hη hmix (reg0 hη hmix) pow ty ty' o o' c c' n n' cap cap' k s ?_
 simp only [W.holds,true_and,and_true,true_implies,decide_eq_true_eq,decide_eq_false_iff_not]
 refine⟨ck _ (hasT1 (by kernel_rfl)) (by kernel_rfl) (by kernel_rfl),fun hq=>?_,fun _=>⟨⟨np,nc,nc'⟩,fun _=>rfl⟩⟩
 rw [hsz] at hq;omega
theorem fnN_any(hη:OneCells η)(hmix:Tryd.prog.follows .mixedOrders=true){H:AH}{r r' r2 ty ty' ty2 o o' n n' cap cap' cap2 own own' own2:Nat}{c c':List Value}{l:List (Int × Int)}{k:Int}{s:List UInt8}(ht:HasT H tabR)(hr:H.objs.get r=some (.cells ty c false own))(hr':H.objs.get r'=some (.cells ty' c' false own'))(hr2:H.objs.get r2=some (.cells ty2 (ptV l) false own2))(h1:r ≠ r')(h2:r ≠ r2)(h3:r' ≠ r2)(hlo:126≤r∧126≤r'∧126≤r2)(hc:RowS c o n)(hc':RowI c' o' n')(hl:∀ i,i<n→(strAt c (o+i)).length≤1000000)(hcap:isU cap=false)(hcn:n≤cap)(hll:l.length≤1000000)(hne:l ≠ [])(h0:ckR c o n c' o' n' k l=0)(hs:s.length≤200) :
  CallSpec η Tryd.prog B 11 [.agg ⟨[.slice (some ⟨r,o,none⟩) n cap,.slice (some ⟨r',o',none⟩) n' cap',.int .i64 k,.slice (some ⟨r2,0,none⟩) l.length cap2]⟩,.string ⟨⟨s⟩⟩] H (KT.ret (.tuple ⟨[.int .i64 (bknL l (hsK s)),.int .i64 0]⟩) H).sat:=by
 refine CallSpec.pureRW (l:=[(ty,c),(ty',c'),(ty2,ptV l)]) (t:=tabR) (rn:=r3 r r' r2) (args:=[.agg ⟨[.slice (some ⟨126,o,none⟩) n cap,.slice (some ⟨127,o',none⟩) n' cap',.int .i64 k,.slice (some ⟨128,0,none⟩) l.length cap2]⟩,.string ⟨⟨s⟩⟩]) hη FN.gs9 tabR_ok ht (rows3 hr hr' hr2 h1 h2 h3 hc.1 hc'.1 (ptV_bare l)) (fun i hi=>?_) (.cons (.agg rfl fun j y z e1 e2=>?_) (.cons (.string _) .nil)) (fun _ _=>.tuple rfl fun j y z e1 e2=>?_) (fnN_can hη hmix hc hc' hl hcap hcn hll hne h0 hs)
 ·have:=gs_lt
  unfold r3
  split
  ·omega
  ·split <;> omega
 ·match j,e1,e2 with
  | 0,e1,e2=>simp at e1 e2;subst e1;subst e2;exact .slice (σ:=sigR (r3 r r' r2)) (r:=126) _ _ (show 126<129 by decide)
  | 1,e1,e2=>simp at e1 e2;subst e1;subst e2;exact .slice (σ:=sigR (r3 r r' r2)) (r:=127) _ _ (show 127<129 by decide)
  | 2,e1,e2=>simp at e1 e2;subst e1;subst e2;exact .int _ _
  | 3,e1,e2=>simp at e1 e2;subst e1;subst e2;exact .slice (σ:=sigR (r3 r r' r2)) (r:=128) _ _ (show 128<129 by decide)
  | j+4,e1,e2=>simp at e1
 ·match j,e1,e2 with
  | 0,e1,e2=>simp at e1 e2;subst e1;subst e2;exact .int _ _
  | 1,e1,e2=>simp at e1 e2;subst e1;subst e2;exact .int _ _
  | j+2,e1,e2=>simp at e1
end RG
end Go.Ev

/- Rings of backends: Find without points from any heap. -/
namespace Go.Ev
open Go Go.Proofs
variable {η:Nat→Value} {B:Bd}
namespace RG
theorem fnE_any(hη:OneCells η)(hmix:Tryd.prog.follows .mixedOrders=true){H:AH}{r r' ty ty' o o' n n' cap cap' own own':Nat}{c c':List Value}{k:Int}{s:List UInt8}(ht:HasT H tabR)(hr:H.objs.get r=some (.cells ty c false own))(hr':H.objs.get r'=some (.cells ty' c' false own'))(h1:r ≠ r')(hlo:126≤r∧126≤r')(hc:RowS c o n)(hc':RowI c' o' n')(hl:∀ i,i<n→(strAt c (o+i)).length≤1000000)(hcap:isU cap=false)(hcn:n≤cap)(h0:ckR c o n c' o' n' k []=0)(hs:s.length≤200) :
  CallSpec η Tryd.prog B 11 [.agg ⟨[.slice (some ⟨r,o,none⟩) n cap,.slice (some ⟨r',o',none⟩) n' cap',.int .i64 k,.slice none 0 9223372036854775808]⟩,.string ⟨⟨s⟩⟩] H (KT.ret (.tuple ⟨[.int .i64 0,.int .i64 4]⟩) H).sat:=by
 refine CallSpec.pureRW (l:=[(ty,c),(ty',c')]) (t:=tabR) (rn:=fun i=>if i=0 then r else r') (args:=[.agg ⟨[.slice (some ⟨126,o,none⟩) n cap,.slice (some ⟨127,o',none⟩) n' cap',.int .i64 k,.slice none 0 9223372036854775808]⟩,.string ⟨⟨s⟩⟩]) hη FN.gs9 tabR_ok ht (rows2 hr hr' h1 hc.1 hc'.1) (fun i hi=>?_) (.cons (.agg rfl fun j y z e1 e2=>?_) (.cons (.string _) .nil)) (fun _ _=>.tuple rfl fun j y z e1 e2=>?_) (fnE_can hη hmix hc hc' hl hcap hcn h0 hs)
 ·have:=gs_lt
  show Tryd.prog.globals.size<if i=0 then r else r'
  split <;> omega
 ·match j,e1,e2 with
  | 0,e1,e2=>simp at e1 e2;subst e1;subst e2;exact .slice (σ:=sigR fun i=>if i=0 then r else r') (r:=126) _ _ (show 126<128 by decide)
  | 1,e1,e2=>simp at e1 e2;subst e1;subst e2;exact .slice (σ:=sigR fun i=>if i=0 then r else r') (r:=127) _ _ (show 127<128 by decide)
  | 2,e1,e2=>simp at e1 e2;subst e1;subst e2;exact .int _ _
  | 3,e1,e2=>simp at e1 e2;subst e1;subst e2;exact .slice0 _ _
  | j+4,e1,e2=>simp at e1
 ·match j,e1,e2 with
  | 0,e1,e2=>simp at e1 e2;subst e1;subst e2;exact .int _ _
  | 1,e1,e2=>simp at e1 e2;subst e1;subst e2;exact .int _ _
  | j+2,e1,e2=>simp at e1
end RG
end Go.Ev

/- Rings of backends: what Check returns where there are no weights. -/
namespace Go.Ev
namespace RG
def chE(n:Nat):Int:=if n=0∨16<n then 3 else 2
end RG
end Go.Ev

namespace Go.Ev
open Go Go.Proofs
open Go.Ev.T renaming node → nN, nil → nZ
open Go.Proofs.Tryd (prog)
set_option maxRecDepth 100000
set_option maxHeartbeats 2000000
namespace RChE
noncomputable def bd:Code:=(Go.Proofs.Tryd.f27.body).getD .skip
noncomputable def H0(ty o:Nat)(c:List Value)(n cap:Nat)(k:Int):AH:={ objs:=eE nZ (eE nZ (eE nZ (eE nZ (eE nZ (eE nZ (lL (AObj.cells ty c false 0))))))),next:=127 }
noncomputable def E(ty o:Nat)(c:List Value)(n cap:Nat)(k:Int):AS:=⟨⟨27,44,nS (sS 126 o n cap) (lL (Value.slice none 0 9223372036854775808)) (lL (iI k)),[Item.code (codeAt bd [])],[],FrameMode.run,CallKind.normal,none⟩,[],H0 ty o c n cap k⟩
theorem enter{η:Nat→Value}{B:Bd}(hη:OneCells η)(hmix:prog.follows .mixedOrders=true)(hreg:RegOk η prog B noNest){D:Value→AH→Prop}(ty o:Nat)(c:List Value)(n cap:Nat)(k:Int)(h:let q2:W:=(.done 27 (Value.int IntKind.i64 7) (H0 ty o c n cap k));let q1:W:=(.done 27 (Value.int IntKind.i64 3) (H0 ty o c n cap k));let q0:AH:=⟨eE nZ (eE nZ (eE nZ (eE nZ (eE nZ (eE nZ (lL (AObj.cells ty c false 0))))))),127⟩;W.holds η prog B 27 (fun kp_ st_=>RunD η prog B 27 (H0 ty o c n cap k) kp_ st_ (QF prog 127 D)) D (.ite ((↑n:Int) == (0:Int)) q1 (.ite (decide ((↑n:Int) > (16:Int))) q1 (.ite ((0:Int) != (↑n:Int)) (.done 27 (Value.int IntKind.i64 2) (H0 ty o c n cap k)) (.call 35 [Value.slice none 0 9223372036854775808,Value.func (Fn.func 36) ⟨[]⟩ ⟨[]⟩] (q0) (.ret (Value.bool false) (q0)) (.ite (decide (k<(1:Int))) q2 (.ite (decide (k > (100:Int))) q2 (.call 23 [Value.slice (some ⟨126,o,none⟩) n cap,Value.func (Fn.func 37) ⟨[]⟩ ⟨[]⟩] (q0) (.ret (Value.bool (decide (0≤RG.badN c o n))) (q0)) (.ite (decide ((0:Int)≤RG.badN c o n)) (.done 27 (Value.int IntKind.i64 6) (H0 ty o c n cap k)) (.call 38 [Value.slice (some ⟨126,o,none⟩) n cap] (q0) (.ret (Value.bool (RG.twi c o n)) (q0)) (.ite (RG.twi c o n) (.done 27 (Value.int IntKind.i64 8) (H0 ty o c n cap k)) (.call 39 [Value.slice none 0 9223372036854775808,Value.int IntKind.i64 k] (q0) (.ret (Value.int IntKind.i64 0) (q0)) (.done 27 (Value.int IntKind.i64 0) (H0 ty o c n cap k)))))))))))))):CallSpec η prog B 27 [Value.slice (some ⟨126,o,none⟩) n cap,Value.slice none 0 9223372036854775808,Value.int IntKind.i64 k] (H0 ty o c n cap k) D:=by
 refine CallSpec.ofQF hη (CallSpec.enter (fr:=(E ty o c n cap k).fr) (by kernel_rfl) ?_)
 exact walk_okT (h0:=H0 ty o c n cap k) hη hmix hreg (.steps 12 <| .bit 11 (.steps 12 <| .done none) (.steps 6 <| .bit 7 (.steps 6 <| .done none) (.steps 10 <| .bit 16 (.steps 6 <| .done none) (.steps 4 <| .call kN <| .steps 5 <| .bit 29 (.steps 11 <| .done none) (.steps 5 <| .bit 22 (.steps 6 <| .done none) (.steps 4 <| .call kN <| .steps 2 <| .bit 33 (.steps 6 <| .done none) (.steps 4 <| .call kN <| .steps 2 <| .bit 36 (.steps 6 <| .done none) (.steps 5 <| .call kN <| .steps 11 <| .done none)))))))) (E ty o c n cap k) (by kernel_rfl) h (by kernel_rfl)
end RChE
namespace RCk2
noncomputable def bd:Code:=(Go.Proofs.Tryd.f8.body).getD .skip
noncomputable def H0(ty o:Nat)(c:List Value)(n cap:Nat)(kn:Int):AH:={ objs:=eE nZ (eE nZ (eE nZ (eE nZ (eE nZ (eE nZ (lL (AObj.cells ty c false 0))))))),next:=127 }
noncomputable def E(ty o:Nat)(c:List Value)(n cap:Nat)(kn:Int):AS:=⟨⟨8,24,lL (Value.agg ⟨[sS 126 o n cap,Value.slice none 0 9223372036854775808,iI kn,Value.chan none]⟩),[Item.code (codeAt bd [])],[],FrameMode.run,CallKind.normal,none⟩,[],H0 ty o c n cap kn⟩
theorem enter{η:Nat→Value}{B:Bd}(hη:OneCells η)(hmix:prog.follows .mixedOrders=true)(hreg:RegOk η prog B noNest){D:Value→AH→Prop}(ty o:Nat)(c:List Value)(n cap:Nat)(kn:Int)(h:let q0:AH:=⟨eE (eE (eE (eE (eE (eE (eE (lL (AObj.cells 26 [sS 126 o n cap,Value.slice none 0 9223372036854775808,iI kn,Value.chan none] true 2)) nZ) nZ) nZ) nZ) nZ) nZ) (eE (eE (eE (eE (eE (eE (lL (AObj.cells 26 [Value.slice none 0 0,Value.slice none 0 0,iI 0,Value.slice none 0 0] true 2)) nZ) nZ) nZ) nZ) nZ) (eE nZ (eE nZ (eE nZ (eE nZ (lL (AObj.cells ty c false 0))))))),129⟩;W.holds η prog B 8 (fun kp_ st_=>RunD η prog B 8 (H0 ty o c n cap kn) kp_ st_ (QF prog 127 D)) D (.call 27 [Value.slice (some ⟨126,o,none⟩) n cap,Value.slice none 0 9223372036854775808,Value.int IntKind.i64 kn] (q0) (.ret (Value.int IntKind.i64 2) (q0)) (.need (NoNames c∧True) (.done 8 (Value.int IntKind.i64 2) (H0 ty o c n cap kn))))):CallSpec η prog B 8 [Value.agg ⟨[Value.slice (some ⟨126,o,none⟩) n cap,Value.slice none 0 9223372036854775808,Value.int IntKind.i64 kn,Value.chan none]⟩] (H0 ty o c n cap kn) D:=by
 refine CallSpec.ofQF hη (CallSpec.enter (fr:=(E ty o c n cap kn).fr) (by kernel_rfl) ?_)
 exact walk_okT (h0:=H0 ty o c n cap kn) hη hmix hreg (.steps 25 <| .call kN <| .steps 37 <| .done (some ⟨127,[],[(126,(126,true))]⟩)) (E ty o c n cap kn) (by kernel_rfl) h (by kernel_rfl)
end RCk2
namespace RCk3
noncomputable def bd:Code:=(Go.Proofs.Tryd.f8.body).getD .skip
noncomputable def H0(ty o:Nat)(c:List Value)(n cap:Nat)(kn:Int):AH:={ objs:=eE nZ (eE nZ (eE nZ (eE nZ (eE nZ (eE nZ (lL (AObj.cells ty c false 0))))))),next:=127 }
noncomputable def E(ty o:Nat)(c:List Value)(n cap:Nat)(kn:Int):AS:=⟨⟨8,24,lL (Value.agg ⟨[sS 126 o n cap,Value.slice none 0 9223372036854775808,iI kn,Value.chan none]⟩),[Item.code (codeAt bd [])],[],FrameMode.run,CallKind.normal,none⟩,[],H0 ty o c n cap kn⟩
theorem enter{η:Nat→Value}{B:Bd}(hη:OneCells η)(hmix:prog.follows .mixedOrders=true)(hreg:RegOk η prog B noNest){D:Value→AH→Prop}(ty o:Nat)(c:List Value)(n cap:Nat)(kn:Int)(h:let q0:AH:=⟨eE (eE (eE (eE (eE (eE (eE (lL (AObj.cells 26 [sS 126 o n cap,Value.slice none 0 9223372036854775808,iI kn,Value.chan none] true 2)) nZ) nZ) nZ) nZ) nZ) nZ) (eE (eE (eE (eE (eE (eE (lL (AObj.cells 26 [Value.slice none 0 0,Value.slice none 0 0,iI 0,Value.slice none 0 0] true 2)) nZ) nZ) nZ) nZ) nZ) (eE nZ (eE nZ (eE nZ (eE nZ (lL (AObj.cells ty c false 0))))))),129⟩;W.holds η prog B 8 (fun kp_ st_=>RunD η prog B 8 (H0 ty o c n cap kn) kp_ st_ (QF prog 127 D)) D (.call 27 [Value.slice (some ⟨126,o,none⟩) n cap,Value.slice none 0 9223372036854775808,Value.int IntKind.i64 kn] (q0) (.ret (Value.int IntKind.i64 3) (q0)) (.need (NoNames c∧True) (.done 8 (Value.int IntKind.i64 3) (H0 ty o c n cap kn))))):CallSpec η prog B 8 [Value.agg ⟨[Value.slice (some ⟨126,o,none⟩) n cap,Value.slice none 0 9223372036854775808,Value.int IntKind.i64 kn,Value.chan none]⟩] (H0 ty o c n cap kn) D:=by
 refine CallSpec.ofQF hη (CallSpec.enter (fr:=(E ty o c n cap kn).fr) (by kernel_rfl) ?_)
 exact walk_okT (h0:=H0 ty o c n cap kn) hη hmix hreg (.steps 25 <| .call kN <| .steps 37 <| .done (some ⟨127,[],[(126,(126,true))]⟩)) (E ty o c n cap kn) (by kernel_rfl) h (by kernel_rfl)
end RCk3
end Go.Ev

/- Rings of backends: Check of rings without names, or without weights: it returns no 0. -/
namespace Go.Ev
open Go Go.Proofs
variable {η:Nat→Value} {B:Bd}
namespace RG
theorem chE_any(hη:OneCells η)(hmix:Tryd.prog.follows .mixedOrders=true){H:AH}{r ty o n cap own:Nat}{c:List Value}{k:Int}(hr:H.objs.get r=some (.cells ty c false own))(hc:RowS c o n) :
  CallSpec η Tryd.prog B 27 [.slice (some ⟨r,o,none⟩) n cap,.slice none 0 9223372036854775808,.int .i64 k] H (KT.ret (.int .i64 (chE n)) H).sat:=by
 refine CallSpec.pureR (l:=[(ty,c)]) (rn:=fun _=>r) (args:=[.slice (some ⟨126,o,none⟩) n cap,.slice none 0 9223372036854775808,.int .i64 k]) hη FN.gs9 (FN.rowsIn1 hr hc.1) (.cons (.slice (σ:=sigR fun _=>r) _ _ (by simp)) (.cons (.slice0 _ _) (.cons (.int _ _) .nil))) (fun _ _=>.int _ _) ?_
 refine RChE.enter hη hmix (reg0 hη hmix) ty o c n cap k ?_
 simp only [W.holds,true_and,and_true,true_implies,decide_eq_true_eq,decide_eq_false_iff_not,beq_iff_eq,bne_iff_ne,ne_eq,beq_eq_false_iff_ne,bne_eq_false_iff_eq]
 refine⟨fun h=>⟨?_,rfl⟩,fun h=>⟨fun h2=>⟨?_,rfl⟩,fun h2=>⟨fun h3=>⟨?_,rfl⟩,fun h3=>absurd h3.symm h⟩⟩⟩
 ·unfold chE;rw [if_pos (by omega)]
 ·unfold chE;rw [if_pos (by omega)]
 ·unfold chE;rw [if_neg (by omega)]
theorem ckW_any(hη:OneCells η)(hmix:Tryd.prog.follows .mixedOrders=true){H:AH}{r ty o n cap own:Nat}{c:List Value}{k:Int}{pv:Value}(hr:H.objs.get r=some (.cells ty c false own))(hc:RowS c o n)(hp:oneC pv=true) :
  CallSpec η Tryd.prog B 8 [.agg ⟨[.slice (some ⟨r,o,none⟩) n cap,.slice none 0 9223372036854775808,.int .i64 k,pv]⟩] H (KT.ret (.int .i64 (chE n)) H).sat:=by
 refine CallSpec.pureR (l:=[(ty,c)]) (rn:=fun _=>r) (args:=[.agg ⟨[.slice (some ⟨126,o,none⟩) n cap,.slice none 0 9223372036854775808,.int .i64 k,.chan none]⟩]) hη FN.gs9 (FN.rowsIn1 hr hc.1) (.cons (.agg rfl fun j y z e1 e2=>?_) .nil) (fun _ _=>.int _ _) ?_
 ·match j,e1,e2 with
  | 0,e1,e2=>simp at e1 e2;subst e1;subst e2;exact .slice (σ:=sigR fun _=>r) (r:=126) _ _ (show 126<127 by decide)
  | 1,e1,e2=>simp at e1 e2;subst e1;subst e2;exact .slice0 _ _
  | 2,e1,e2=>simp at e1 e2;subst e1;subst e2;exact .int _ _
  | 3,e1,e2=>simp at e1 e2;subst e1;subst e2;exact .any rfl hp
  | j+4,e1,e2=>simp at e1
 ·have nc:=nn_of hc.1
  have k1:=fun (H:AH) h1=>chE_any (B:=B) (H:=H) (r:=126) (o:=o) (n:=n) (cap:=cap) (ty:=ty) (own:=0) (k:=k) hη hmix h1 hc
  by_cases h:n=0∨16<n
  ·have e:chE n=3:=by unfold chE;rw [if_pos h]
   rw [e] at k1 ⊢
   refine RCk3.enter hη hmix (reg0 hη hmix) ty o c n cap k ?_
   simp only [W.holds,true_and,and_true,true_implies]
   exact⟨k1 _ (by kernel_rfl),nc,fun _=>rfl⟩
  ·have e:chE n=2:=by unfold chE;rw [if_neg h]
   rw [e] at k1 ⊢
   refine RCk2.enter hη hmix (reg0 hη hmix) ty o c n cap k ?_
   simp only [W.holds,true_and,and_true,true_implies]
   exact⟨k1 _ (by kernel_rfl),nc,fun _=>rfl⟩
theorem ckZ_any(hη:OneCells η)(hmix:Tryd.prog.follows .mixedOrders=true){H:AH}{k:Int}{wv pv:Value}(hw:oneC wv=true)(hp:oneC pv=true) :
  CallSpec η Tryd.prog B 8 [.agg ⟨[.slice none 0 9223372036854775808,wv,.int .i64 k,pv]⟩] H (KT.ret (.int .i64 3) H).sat:=by
 refine CallSpec.pureR (l:=[]) (rn:=fun _=>0) (args:=[.agg ⟨[.slice none 0 9223372036854775808,.chan none,.int .i64 k,.chan none]⟩]) hη FN.gs9 ⟨fun i x hi=>by simp at hi,fun i j hi=>by simp at hi⟩ (.cons (.agg rfl fun j y z e1 e2=>?_) .nil) (fun _ _=>.int _ _) ?_
 ·match j,e1,e2 with
  | 0,e1,e2=>simp at e1 e2;subst e1;subst e2;exact .slice0 _ _
  | 1,e1,e2=>simp at e1 e2;subst e1;subst e2;exact .any rfl hw
  | 2,e1,e2=>simp at e1 e2;subst e1;subst e2;exact .int _ _
  | 3,e1,e2=>simp at e1 e2;subst e1;subst e2;exact .any rfl hp
  | j+4,e1,e2=>simp at e1
 ·refine RCkZ.enter hη hmix (reg0 hη hmix) k ?_
  simp only [W.holds,true_and,and_true,true_implies]
  rfl
end RG
end Go.Ev

/- Rings of backends: what is more than is looked at. -/
namespace Go.Ev
open Go Go.Proofs
namespace RG
def farM(c':List Value)(k:Int):Nat→Nat→Int→Int
 | 0,_,a=>a
 | m+1,i,a=>farM c' k m (i+1) (if 0≤intAt c' i∧intAt c' i≤20∧0≤k∧k≤100 then IntKind.i64.wrap (a+IntKind.i64.wrap (intAt c' i * k)) else a)
def farL(c:List Value):Nat→Nat→Bool
 | 0,_=>false
 | m+1,i=>decide (100<(strAt c i).length) || farL c m (i+1)
def farT(q:Int):Bool:=decide (600<q) && decide (q≤4096)
def farB(c:List Value)(n:Nat)(c':List Value)(n':Nat)(k:Int)(m:Nat):Bool:=
 decide (20<n) || decide (20<n') || (decide (600<m) && decide (m≤4096)) || decide (5000<m) || farL c n 0 || farT (farM c' k n' 0 0)
theorem farB_1{c:List Value}{n:Nat}{c':List Value}{n':Nat}{k:Int}{m:Nat}(h:20<n):farB c n c' n' k m=true:=by unfold farB;rw [decide_eq_true h];rfl
theorem farB_2{c:List Value}{n:Nat}{c':List Value}{n':Nat}{k:Int}{m:Nat}(h:20<n'):farB c n c' n' k m=true:=by unfold farB;rw [decide_eq_true h,Bool.or_true];rfl
theorem farB_3{c:List Value}{n:Nat}{c':List Value}{n':Nat}{k:Int}{m:Nat}(h:600<m)(h2:m≤4096):farB c n c' n' k m=true:=by unfold farB;rw [decide_eq_true h,decide_eq_true h2,Bool.and_true,Bool.or_true];rfl
theorem farB_4{c:List Value}{n:Nat}{c':List Value}{n':Nat}{k:Int}{m:Nat}(h:5000<m):farB c n c' n' k m=true:=by unfold farB;rw [decide_eq_true h,Bool.or_true];rfl
theorem farB_0{c:List Value}{n:Nat}{c':List Value}{n':Nat}{k:Int}{m:Nat}(h1:¬ 20<n)(h2:¬ 20<n')(h3:¬ (600<m∧m≤4096))(h4:¬ 5000<m):farB c n c' n' k m=(farL c n 0 || farT (farM c' k n' 0 0)):=by
 have e:(decide (600<m) && decide (m≤4096))=false:=by rw [← Bool.decide_and];exact decide_eq_false h3
 unfold farB;rw [decide_eq_false h1,decide_eq_false h2,e,decide_eq_false h4];rfl
theorem farL_no{c:List Value}:∀ m i,farL c m i=false→∀ j,i≤j→j<i+m→(strAt c j).length≤100
 | 0,_,_,j,a,b=>by omega
 | m+1,i,h,j,a,b=>by
  unfold farL at h
  rw [Bool.or_eq_false_iff] at h
  have:=of_decide_eq_false h.1
  rcases Nat.lt_or_ge i j with q | q
  ·exact farL_no m (i+1) h.2 j q (by omega)
  ·have:j=i:=by omega
   subst this;omega
theorem far_no{c:List Value}{n:Nat}{c':List Value}{n':Nat}{k:Int}{m:Nat}(h:farB c n c' n' k m=false):n≤20∧n'≤20∧m≤5000∧∀ j,j<n→(strAt c j).length≤100:=by
 have g1:¬ 20<n:=fun q=>by rw [farB_1 q] at h;cases h
 have g2:¬ 20<n':=fun q=>by rw [farB_2 q] at h;cases h
 have g3:¬ (600<m∧m≤4096):=fun q=>by rw [farB_3 q.1 q.2] at h;cases h
 have g4:¬ 5000<m:=fun q=>by rw [farB_4 q] at h;cases h
 rw [farB_0 g1 g2 g3 g4,Bool.or_eq_false_iff] at h
 exact⟨by omega,by omega,by omega,fun j q=>farL_no n 0 h.1 j (by omega) (by omega)⟩
end RG
end Go.Ev

