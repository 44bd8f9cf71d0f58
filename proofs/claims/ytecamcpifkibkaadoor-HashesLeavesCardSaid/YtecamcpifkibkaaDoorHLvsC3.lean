/- HLvsC, part 3: what the proof needs, in the order of its texts. -/
import Derived.Test.YtecamcpifkibkaaDoorHLvsC2
set_option linter.unusedVariables false
set_option linter.unusedSimpArgs false
namespace Go.Ev
variable {η:Nat→Value}
section
variable {P:Program} {B:Bd} {nest:Nest} {ops:Array Oper} {base N n:Nat} {tm0:T Value} {h0:AH} {s:RS} {ρ0:Env} {h:AH} {w0:World} {S:Nat→Bool} {ρ:Env} {tmps:Array Value} {w:World} {k:Nat} {hk:AH}
theorem finish_eq{fr:Frame}{i:Nat}{rest:List Nat}{kk:List Item}{o:Oper}(ht:fr.todo = .inRegion ops (i :: rest) :: kk)(ho:ops[i]? = some o)(u:Value):fr.finish u={ fr with tmps:=setD fr.tmps o.dst u,todo:=.inRegion ops rest :: kk }:=by
 obtain⟨fn,tmps,todo,defers,mode,kind,roundOf⟩:=fr
 simp only at ht;subst ht
 simp only [Frame.finish,ho,Option.bind_some,setD]
 rfl
theorem op_run(hη:OneCells η)(hnest:NestOk η P B nest)(cs:List Frame)(G:Good P nest ops.toList base n tm0 h0 s)(I:RInv η P B s base N n tm0 ρ0 h w0 S ρ tmps w k hk){i:Nat}{x:Ent}(hx:s.ents[i]? = some x)(hp:∀ e ∈ x.o.after.toList,Region.binds .any e=true→S e.on=true)(hi:S i=false)(hiN:i<N)
  {fr:Frame} {rest:List Nat} {kk:List Item} (hm:fr.mode = .run) (ht:fr.todo = .inRegion ops (i :: rest) :: kk) (hfr:fr.tmps=tmps) :
  ∃ ρ' tmps' w' k' hk',RInv η P B s base N n tm0 ρ0 h w0 (fun j=>S j || j == i) ρ' tmps' w' k' hk'∧Steps P (lone fr cs w) (lone { fr with tmps:=tmps',todo:=.inRegion ops rest :: kk } cs w'):=by
 have K:=G.ent i x hx
 have ho:ops[i]? = some x.o:=by rw [← Array.getElem?_toList];exact K.o
 have hw:=want_agree G I hx hp hi
 have hfin:=fun u=>finish_eq (fr:=fr) ht ho u
 have hnc:notCall fr:=fun d b r s k hh=>by rw [ht] at hh;cases hh
 cases hwant:x.want with
 | false=>
  obtain⟨h1,h2⟩:=K.un hwant
  refine⟨ρ,_,w,k,hk,quiet_step G I hx hp hi hiN h2 (fun hh=>by rw [hwant] at hh;cases hh.1) (u:=undef) (by rw [h1];exact .undef'),one_go ?_⟩
  rw [hwant] at hw
  have hf:=hfin undef
  rw [hfr] at hf
  rw [← hf]
  obtain⟨fn,tmps2,todo,defers,mode,kind,roundOf⟩:=fr
  simp only at hm ht hfr
  subst hm;subst ht;subst hfr
  simp only [stepG,run0,stepG.exec,ho,Option.map_some,Option.getD_some,hw,Bool.false_eq_true,if_false]
  rfl
 | true=>
  have hok:=K.ok hwant
  have hev:=eval_agree G I hx hp hi hok hfr
  have hw':Region.wanted x.o (yielded ops fr.tmps)=true:=by rw [hfr,hw,hwant]
  cases hkind:x.kind with
  | read=>
   obtain⟨hobj,hrd⟩:=K.rd hwant hkind
   obtain⟨al,hal,hr⟩:=hrd k hk I.hhk (fun m e he hb=>(I.ks m e he).1 (I.mask G i x hx hp e hb)) (fun m e hmk he=>by
    obtain⟨y,hy,_⟩:=G.effs m e he
    rw [mkE_of hy]
    cases hb:y.mask.testBit i with
    | false=>rfl
    | true=>have:=I.mask' G hy ((I.ks m e he).2 hmk) i hb;rw [hi] at this;cases this)
   obtain⟨_,hpre⟩:=I.sub hal (I.mask G i x hx hp)
   obtain⟨u,hu,huv⟩:=readA_ok hη hpre.glob hpre.hr hev hr
   have hd:∀ c,x.o.op ≠ .defer c:=by
    intro c hc
    unfold readA at hr
    rw [hc] at hr
    simp [no] at hr
   refine⟨ρ,_,w,k,hk,quiet_step G I hx hp hi hiN hobj (fun hh=>by rw [hkind] at hh;cases hh.2) huv,one_go ?_⟩
   rw [stepG_region hm ht ho hw' (.inr hd),apply_value hu,hfin,hfr]
  | alloc=>
   obtain⟨b,hobj,ha⟩:=K.alc hwant hkind
   obtain⟨hown,u,w',ob,nn,hu,hpush,hrel⟩:=allocA_ok (w:=w) hη hev ha
   have hle:=Env.le_put (t:=(w.heap.size,0,nn)) (I.unb i hiN (.inl hi))
   obtain⟨h1,h2⟩:=hrel _ hle (Env.put_at _ _ _)
   have hd:∀ c,x.o.op ≠ .defer c:=by
    intro c hc
    unfold allocA at ha
    rw [hc] at ha
    simp [no] at ha
   refine⟨_,_,w',k,hk,alloc_step G I hx hp hi hiN hobj hown (fun hh=>by rw [hkind] at hh;cases hh.2) hpush h1 h2,one_go ?_⟩
   rw [stepG_region hm ht ho hw' (.inr hd),apply_value hu,hfin,hfr]
  | effect=>
   obtain⟨hobj,k2,hk2,hk',e1,e2,e3,e4,al,hal,hef⟩:=K.eff hwant hkind
      -- just those before it are done
   have hkk:k2=k:=by
    rcases Nat.lt_trichotomy k2 k with hlt | h2 | hgt
    ·have:=(I.ks k2 i e1).2 hlt
     rw [hi] at this;cases this
    ·exact h2
    ·have hkl:k<s.ee.length:=by have:=(List.getElem?_eq_some_iff.1 e1).1;omega
     have hb:=e4 k s.ee[k] hgt (List.getElem?_eq_getElem hkl)
     have:=(I.ks k s.ee[k] (List.getElem?_eq_getElem hkl)).1 (I.mask G i x hx hp _ hb)
     exact absurd this (Nat.lt_irrefl _)
   subst hkk
   have:hk2=hk:=by have:=I.hhk;rw [e2] at this;exact Option.some.inj this
   subst this
   obtain⟨_,hpre⟩:=I.sub hal (I.mask G i x hx hp)
   simp only [effRun,bind_ok] at hef
   obtain⟨⟨a,h1⟩,hea,hef⟩:=hef
   obtain⟨ρ1,w1,hn,hpost⟩:=effA_ok hη hpre hev hea
   have hd:∀ c,x.o.op ≠ .defer c:=by
    intro c hc
    unfold effA at hea
    rw [hc] at hea
    simp only [bind_ok] at hea
    obtain⟨⟨t,args⟩,_,hea⟩:=hea
    rw [okk] at hea;injection hea with q1 q2;subst q1
    simp [no] at hef
   split at hef
   ·rename_i v h2 heq
    injection heq with q1 q2;subst q1;subst q2
    rw [okk] at hef;injection hef with q1 q2;subst q1;subst q2
    obtain⟨u,hu,huv⟩:=hn
    refine⟨ρ1,_,w1,_,_,effect_step G I hx hp hi hiN hobj e1 e3 hal hpost huv,one_go ?_⟩
    rw [stepG_region hm ht ho hw' (.inr hd),apply_value hu,hfin,hfr]
   ·rename_i h2 heq
    injection heq with q1 q2;subst q1;subst q2
    rw [okk] at hef;injection hef with q1 q2
    have hu:(execOp fr.eval x.o).run P w = .ok .skip w1:=hn
    subst q2
    refine⟨ρ1,_,w1,_,_,effect_step G I hx hp hi hiN hobj e1 e3 hal hpost (u:=undef) (by rw [← q1];exact .undef'),one_go ?_⟩
    rw [stepG_region hm ht ho hw' (.inr hd),apply_skip hu,hfin,hfr]
   ·rename_i g args h2 heq
    injection heq with q1 q2;subst q1;subst q2
    obtain⟨xs,hu,hl⟩:=hn
    obtain⟨ρ2,fr2,w2,u,hp2,hv2,_,hleave,hst⟩:=hnest g args h1 hk' x.v hef ρ1 xs w1 (fr :: cs) hl (hpre.post hpost)
    refine⟨ρ2,_,w2,_,_,effect_step G I hx hp hi hiN hobj e1 e3 hal (hpost.trans hp2) hv2,?_⟩
    refine(one_go (fr':=Frame.enter P g xs .normal) (cs':=fr :: cs) (w':=w1) ?_).trans (hst.trans (.one ?_))
    ·rw [stepG_region hm ht ho hw' (.inr hd),apply_enter hnc hu]
    ·rw [step_leave_returned hleave,hfin,hfr]
   ·simp [no] at hef
theorem lin_run(hη:OneCells η)(hnest:NestOk η P B nest)(cs:List Frame)(G:Good P nest ops.toList base n tm0 h0 s)(hN:s.ents.length=ops.size):∀ (fuel t:Nat) (listed:Array Bool) (ρ:Env) (tmps:Array Value) (w:World) (k:Nat) (hk:AH) (fr:Frame) (kk:List Item),
  listed.size=ops.size→listed.toList.countP (· == false)≤fuel→RInv η P B s base ops.size n tm0 ρ0 h w0 (fun j=>listed.getD j false) ρ tmps w k hk→fr.mode = .run→fr.todo = .inRegion ops (Region.linearise.go .any ops fuel t listed []) :: kk→fr.tmps=tmps→
  ∃ S' ρ' tmps' w' k' hk',(∀ j,j<ops.size→S' j=true)∧RInv η P B s base ops.size n tm0 ρ0 h w0 S' ρ' tmps' w' k' hk'∧Steps P (lone fr cs w) (lone { fr with tmps:=tmps',todo:=kk } cs w'):=by
 have done:∀ (listed:Array Bool) (ρ:Env) (tmps:Array Value) (w:World) (k:Nat) (hk:AH) (fr:Frame) (kk:List Item),(∀ j,j<ops.size→listed.getD j false=true)→
   RInv η P B s base ops.size n tm0 ρ0 h w0 (fun j=>listed.getD j false) ρ tmps w k hk→fr.mode = .run→fr.todo = .inRegion ops [] :: kk→fr.tmps=tmps→
   ∃ S' ρ' tmps' w' k' hk',(∀ j,j<ops.size→S' j=true)∧RInv η P B s base ops.size n tm0 ρ0 h w0 S' ρ' tmps' w' k' hk'∧Steps P (lone fr cs w) (lone { fr with tmps:=tmps',todo:=kk } cs w'):=by
  intro listed ρ tmps w k hk fr kk hall I hm ht hfr
  refine⟨_,ρ,tmps,w,k,hk,hall,I,one_go ?_⟩
  obtain⟨fn,tmps2,todo,defers,mode,kind,roundOf⟩:=fr
  simp only at hm ht hfr
  subst hm;subst ht;subst hfr
  simp [stepG,run0,stepG.exec]
 intro fuel
 induction fuel with
 | zero=>
  intro t listed ρ tmps w k hk fr kk hsz hc I hm ht hfr
  refine done listed ρ tmps w k hk fr kk (fun j hj=>?_) I hm (by simpa [Region.linearise.go] using ht) hfr
  have h0:listed.toList.countP (· == false)=0:=by omega
  rw [List.countP_eq_zero] at h0
  have hjl:j<listed.size:=by omega
  have:=h0 listed[j] (by simp)
  rw [Array.getD_eq_getD_getElem?,Array.getElem?_eq_getElem hjl]
  simpa using this
 | succ fuel ih=>
  intro t listed ρ tmps w k hk fr kk hsz hc I hm ht hfr
  simp only [Region.linearise.go] at ht
  change fr.todo = .inRegion ops (match (Region.ready .any ops listed)[t % (Region.ready .any ops listed).length]? with
   | some i=>Region.linearise.go .any ops fuel (t / (Region.ready .any ops listed).length) (listed.setIfInBounds i true) [i]
   | none=>[].reverse) :: kk at ht
  cases hi:(Region.ready .any ops listed)[t % (Region.ready .any ops listed).length]? with
  | none=>
   rw [hi] at ht
   have hnil:Region.ready .any ops listed=[]:=by
    cases hr:Region.ready .any ops listed with
    | nil=>rfl
    | cons x xs=>
     rw [hr] at hi
     have hlt:t % (x :: xs).length<(x :: xs).length:=Nat.mod_lt _ (by simp)
     rw [List.getElem?_eq_none_iff] at hi
     omega
   refine done listed ρ tmps w k hk fr kk ?_ I hm (by simpa using ht) hfr
      -- the least one that is left would be ready
   intro j
   induction j using Nat.strongRecOn with
   | _ j ihj=>
    intro hj
    cases hl:listed.getD j false with
    | true=>rfl
    | false=>
     exfalso
     have hjl:j<listed.size:=by omega
     have hje:j<s.ents.length:=by omega
     have K:=G.ent j _ (List.getElem?_eq_getElem hje)
     have hmem:j ∈ Region.ready .any ops listed:=by
      rw [mem_ready]
      refine⟨?_,_,by rw [← Array.getElem?_toList];exact K.o,fun e he hb=>?_⟩
      ·rw [Array.getD_eq_getD_getElem?,Array.getElem?_eq_getElem hjl] at hl ⊢
       simpa using hl
      ·have:=(K.pre e (by simpa using he) hb).1
       exact ihj e.on this (by omega)
     rw [hnil] at hmem;cases hmem
  | some i=>
   rw [hi] at ht
   simp only at ht
   rw [linearise_go_acc,List.reverse_singleton,List.singleton_append] at ht
   have hmem:=List.mem_of_getElem? hi
   rw [mem_ready] at hmem
   obtain⟨hun,o,ho,hall⟩:=hmem
   have hil:i<ops.size:=(Array.getElem?_eq_some_iff.1 ho).1
   have hie:i<s.ents.length:=by omega
   have hisz:i<listed.size:=by omega
   have hx:=List.getElem?_eq_getElem hie
   have K:=G.ent i _ hx
   have hoo:o=s.ents[i].o:=by
    have:=K.o
    rw [Array.getElem?_toList,ho] at this
    exact Option.some.inj this
   have hli:listed.getD i false=false:=by
    rw [Array.getD_eq_getD_getElem?,Array.getElem?_eq_getElem hisz] at hun ⊢
    simpa using hun
   obtain⟨ρ1,tmps1,w1,k1,hk1,I1,hst⟩:=op_run hη hnest cs G I hx (fun e he hb=>hall e (by rw [hoo];simpa using he) hb) hli hil hm ht hfr
   have hS:(fun j=>listed.getD j false || j == i)=fun j=>(listed.setIfInBounds i true).getD j false:=by
    funext j
    simp only [Array.getD_eq_getD_getElem?]
    by_cases hji:j=i
    ·subst hji;simp [hisz]
    ·rw [Array.getElem?_setIfInBounds_ne (fun e=>hji e.symm)];simp [hji]
   rw [hS] at I1
   have hcnt:(listed.setIfInBounds i true).toList.countP (· == false)≤fuel:=by
    rw [Array.toList_setIfInBounds,List.countP_set (h:=by simpa using hisz)]
    have hli':listed.toList[i]=false:=by
     rw [Array.getD_eq_getD_getElem?,Array.getElem?_eq_getElem hisz] at hli
     simpa using hli
    rw [hli']
    have e1:(false == false)=true:=rfl
    have e2:(true == false)=false:=rfl
    simp only [e1,e2,if_true,Bool.false_eq_true,if_false]
    omega
   obtain⟨S',ρ2,tmps2,w2,k2,hk2,g1,g2,g3⟩:=ih _ _ ρ1 tmps1 w1 k1 hk1 { fr with tmps:=tmps1,todo:=.inRegion ops (Region.linearise.go .any ops fuel (t / (Region.ready .any ops listed).length) (listed.setIfInBounds i true) []) :: kk } kk (by simp [hsz]) hcnt I1 hm rfl rfl
   exact⟨S',ρ2,tmps2,w2,k2,hk2,g1,g2,hst.trans g3⟩
end
end Go.Ev

namespace Go.Ev
variable {η:Nat→Value}
section
variable {P:Program} {B:Bd}
theorem finalH_get{h:AH}{r:Nat}{a:AObj}:∀ (al:List (Nat × Nat × AObj)),(finalH h al).objs.get r=some a→h.objs.get r=some a∨∃ j,(j,r,a) ∈ al
 | [],hg=>.inl hg
 | (i,r',b) :: l,hg=>by
  simp only [finalH,putA,T.get_set] at hg
  by_cases e:r=r'
  ·rw [if_pos e] at hg;cases hg;subst e
   exact .inr ⟨i,by simp⟩
  ·rw [if_neg e] at hg
   rcases finalH_get l hg with h1 | ⟨j,h1⟩
   ·exact .inl h1
   ·exact .inr ⟨j,by simp [h1]⟩
theorem finalH_next{h:AH}:∀ (al:List (Nat × Nat × AObj)),(finalH h al).next=h.next
 | []=>rfl
 | _ :: l=>finalH_next l
theorem regionA_ok(hη:OneCells η)(hmix:P.follows .mixedOrders=true){nest:Nest}(hnest:NestOk η P B nest):RegOk η P B nest:=by
 intro ops n tm tm' h h' hr ρ fr w kk id cs ht p hm hto
 simp only [regionA,bind_ok] at hr
 obtain⟨s,hs,hr⟩:=hr
 rw [okk] at hr;injection hr with e1 e2;subst e1;subst e2
 obtain⟨G,hlen⟩:=regLoop_good (base:=h.next) (n:=n) (tm0:=tm) (ops:=ops.toList) (P:=P) (nest:=nest) (h0:={ h with next:=h.next+ops.toList.length }) (Good.start _) (fun j o hj=>by simpa using hj) hs
 have hN:s.ents.length=ops.size:=by rw [hlen];simp
 have hsz:ops.toList.length=ops.size:=rfl
  -- nothing is done
 have hin:∀ (S:Nat→Bool) r a,(∀ j,S j=false)→InS s.ents s.ee h.next S 0 { h with next:=h.next+ops.toList.length } r a→h.objs.get r=some a:=by
  rintro S r a hS (h1 | ⟨j,_,_,h3,_⟩)
  ·exact h1
  ·rw [hS] at h3;cases h3
 have hall:∀ j,(Array.replicate ops.size false).getD j false=false:=by
  intro j
  rw [Array.getD_eq_getD_getElem?,Array.getElem?_replicate]
  split <;> rfl
 have I0:RInv η P B s h.next ops.size n tm ρ h w (fun j=>(Array.replicate ops.size false).getD j false) ρ fr.tmps { w with drawn:=w.drawn+1 } 0 { h with next:=h.next+ops.toList.length }:=by
  refine⟨fun j x hx hj=>?_,fun j hj=>?_,?_,G.hd,Nat.zero_le _,fun m e he=>?_,⟨fun r a hI=>p.hr.obj r a (hin _ r a hall hI),fun r r' a a' b d m d' m' h1 h2=>p.hr.inj r r' a a' b d m d' m' (hin _ _ _ hall h1) (hin _ _ _ hall h2),fun r a b d m h1=>p.hr.sh r a b d m (hin _ _ _ hall h1),(fun j a b d m _ h3=>by rw [hall] at h3;cases h3),by rw [hsz];exact Nat.le_refl _,fun r hr=>p.fresh r ?_,?_,?_,?_⟩,fun j hj _=>p.fresh _ (by omega),Env.le_refl _,fun _ _=>rfl,p.glob,⟨rfl,rfl,rfl,Nat.le_refl _,fun _ _ _=>rfl⟩,p.low⟩
  ·rw [hall] at hj;cases hj
  ·rw [hall] at hj;cases hj
  ·refine TR.congr (fun t=>?_) ht
   rw [tmS_get]
   exact wr_none fun j x _ _=>by rw [Nat.zero_add];exact hall j
  ·rw [hall];constructor
   ·intro h;cases h
   ·intro h;omega
  ·simp only at hr;omega
  ·intro j hj _
   show h.objs.get (h.next+j)=none
   cases hg:h.objs.get (h.next+j) with
   | none=>rfl
   | some a=>have:=p.get_lt hg;omega
  ·rintro b ⟨r,a,d,m,h1,h2,h3⟩
   exact .inl ⟨r,a,d,m,hin _ _ _ hall h1,h2,h3⟩
  ·rintro b ⟨r,a,d,m,h1,h3⟩
   exact .inl ⟨r,a,d,m,hin _ _ _ hall h1,h3⟩
 obtain⟨S',ρ',tmps',w',k',hk',g1,I,g3⟩:=lin_run hη hnest cs G hN ops.size (w.tape w.drawn (.order fr.fn id)) (Array.replicate ops.size false) ρ fr.tmps { w with drawn:=w.drawn+1 } 0 _
  { fr with todo:=.inRegion ops (Region.linearise.go .any ops ops.size (w.tape w.drawn (.order fr.fn id)) (Array.replicate ops.size false) []) :: kk } kk (by simp) (Nat.le_trans List.countP_le_length (by simp)) I0 hm rfl rfl
  -- all effects are done
 have hk:k'=s.ee.length:=by
  rcases Nat.lt_or_ge k' s.ee.length with hlt | hge
  ·have he:=G.ee_lt (List.getElem?_eq_getElem hlt)
   have:=(I.ks k' s.ee[k'] (List.getElem?_eq_getElem hlt)).1 (g1 _ (by omega))
   exact absurd this (Nat.lt_irrefl _)
  ·exact Nat.le_antisymm I.kle hge
 subst hk
 have hhk:hk'=s.h:=by have:=I.hhk;rw [G.hl] at this;exact(Option.some.inj this).symm
 subst hhk
 have hfin:∀ r a,(finalH s.h s.al).objs.get r=some a→InS s.ents s.ee h.next S' s.ee.length s.h r a:=by
  intro r a hg
  rcases finalH_get _ hg with h1 | ⟨j,h1⟩
  ·exact .inl h1
  ·obtain⟨e1,e2,e3⟩:=G.al j r a h1
   exact .inr ⟨j,e1,e2,g1 j (by have:=alOf_lt e2;omega),e3⟩
 refine⟨ρ',tmps',w',?_,⟨I.le,I.old,?_,?_,⟨fun r a hg=>I.H.obj r a (hfin r a hg),fun r r' a a' b d m d' m' h1 h2=>I.H.inj r r' a a' b d m d' m' (hfin _ _ h1) (hfin _ _ h2),fun r a b d m h1=>I.H.sh r a b d m (hfin _ _ h1)⟩,I.fr,?_,?_⟩,?_⟩
 ·refine TR.congr (fun t=>?_) I.tmr
  rw [G.tm t,tmS_get]
  refine wr_congr fun j x hx _=>?_
  have hj:=(List.getElem?_eq_some_iff.1 hx).1
  rw [Nat.zero_add,g1 j (by omega)]
  simpa using hj
 ·intro r hr
  rw [finalH_next] at hr
  exact I.H.fresh r hr
 ·rw [finalH_next]
  have:=I.H.nx;omega
 ·rintro b ⟨r,a,d,m,h1,h2,h3⟩
  exact I.H.own b ⟨r,a,d,m,hfin _ _ h1,h2,h3⟩
 ·rintro b ⟨r,a,d,m,h1,h3⟩
  exact I.H.inn b ⟨r,a,d,m,hfin _ _ h1,h3⟩
 ·refine Steps.trans (one_go (fr':={ fr with todo:=.inRegion ops (Region.linearise.go .any ops ops.size (w.tape w.drawn (.order fr.fn id)) (Array.replicate ops.size false) []) :: kk }) (cs':=cs) (w':={ w with drawn:=w.drawn+1 }) ?_) g3
  obtain⟨fn,tmps2,todo,defers,mode,kind,roundOf⟩:=fr
  simp only at hm hto
  subst hm;subst hto
  simp [stepG,run0,stepG.exec,choose,Sem.run,Question.forced,Question.cut,Region.schedule,hmix,Region.linearise]
theorem runF_ok(hη:OneCells η){nest:Nest}(hreg:RegOk η P B nest):∀ (fuel:Nat) (s:AS) (f:FuncId) (v:Value) (h':AH),runF P nest fuel s = .ok (f,v,h')→∀ (ρ:Env) (fr:Frame) (cs:List Frame) (w:World) (cs0:List Frame),SR η P ρ B s fr cs w→
  ∃ ρ' fr' w' x,Post η ρ B s.hp w ρ' h' w'∧VR η ρ' v x∧fr'.fn=f∧fr'.leaving P w' (.returned x)∧Steps P (lone fr (cs ++ cs0) w) (lone fr' cs0 w')
 | 0,s,f,v,h',hr,ρ,fr,cs,w,cs0,R=>by simp [runF,no] at hr
 | fuel+1,s,f,v,h',hr,ρ,fr,cs,w,cs0,R=>by
  simp only [runF] at hr
  split at hr
  ·rename_i s' hs
   rcases stepA_ok (cs0:=cs0) hη hreg R hs with⟨s2,he,ρ1,fr1,cs1,w1,k1,k2,k3⟩ | ⟨v2,he,_⟩
   ·injection he with he;subst he
    obtain⟨ρ2,fr2,w2,x,l1,l2,l3,l4,l5⟩:=runF_ok hη hreg fuel s' f v h' hr ρ1 fr1 cs1 w1 cs0 k1
    exact⟨ρ2,fr2,w2,x,k2.trans l1,l2,l3,l4,k3.trans l5⟩
   ·cases he
  ·rename_i f2 v2 h2 hs
   rw [okk] at hr;injection hr with e1 e2;injection e2 with e2 e3;subst e1;subst e2;subst e3
   rcases stepA_ok (cs0:=cs0) hη hreg R hs with⟨s2,he,_⟩ | ⟨v3,he,hcs,x,hx,hl⟩
   ·cases he
   ·injection he with e1 e2 e3;subst e1;subst e2;subst e3
    have hc:=R.cs
    rw [hcs] at hc
    have:=hc.inv_nil;subst this
    exact⟨ρ,fr,w,x,.refl R.pre,hx,R.fr.fn,hl,.refl _ _⟩
  ·cases hr
theorem nestA_ok(hη:OneCells η)(hmix:P.follows .mixedOrders=true)(fuel:Nat):∀ d,NestOk η P B (nestA P fuel d)
 | 0=>by intro f args h h' v hr;simp [nestA,no] at hr
 | d+1=>by
  intro f args h h' v hr ρ args' w cs hl p
  simp only [nestA,bind_ok] at hr
  obtain⟨fr,he,⟨f2,v2,h2⟩,hrun,hr⟩:=hr
  simp only [ite_no',okk] at hr
  obtain⟨hf,hr⟩:=hr
  injection hr with e1 e2;subst e1;subst e2
  obtain⟨ρ',fr',w',x,k1,k2,k3,k4,k5⟩:=runF_ok hη (regionA_ok hη hmix (nestA_ok hη hmix fuel d)) fuel ⟨fr,[],h⟩ f2 v2 h2 hrun ρ (Frame.enter P f args' .normal) [] w cs ⟨enter_ok he hl,.nil,p⟩
  exact⟨ρ',fr',w',x,k1,k2,by rw [k3,hf],k4,by simpa using k5⟩
end
end Go.Ev

namespace Go.Ev
variable {η:Nat→Value} {P:Program} {B:Bd}
def CallSpec(η:Nat→Value)(P:Program)(B:Bd)(f:FuncId)(args:List Value)(h:AH)(Q:Value→AH→Prop):Prop:=
 ∀ (ρ:Env) (args':Array Value) (w:World) (cs:List Frame),LR η ρ args args'.toList→Pre η P ρ B h w→
  ∃ v h' ρ' fr' w' x,Q v h'∧Post η ρ B h w ρ' h' w'∧VR η ρ' v x∧fr'.fn=f∧fr'.leaving P w' (.returned x)∧Steps P (lone (Frame.enter P f args' .normal) cs w) (lone fr' cs w')
def Run(η:Nat→Value)(P:Program)(B:Bd)(fn:FuncId)(h0:AH)(s:AS)(Q:Value→AH→Prop):Prop:=
 ∀ (ρ0:Env) (w0:World) (ρ:Env) (fr:Frame) (cs:List Frame) (w:World) (cs0:List Frame),Pre η P ρ0 B h0 w0→Post η ρ0 B h0 w0 ρ s.hp w→SR η P ρ B s fr cs w→
  ∃ v h' ρ' fr' w' x,Q v h'∧Post η ρ0 B h0 w0 ρ' h' w'∧VR η ρ' v x∧fr'.fn=fn∧fr'.leaving P w' (.returned x)∧Steps P (lone fr (cs ++ cs0) w) (lone fr' cs0 w')
theorem CallSpec.mono{f:FuncId}{args:List Value}{h:AH}{Q Q':Value→AH→Prop}(c:CallSpec η P B f args h Q)(k:∀ v h',Q v h'→Q' v h'):CallSpec η P B f args h Q':=by
 intro ρ args' w cs l p
 obtain⟨v,h',ρ',fr',w',x,q,r⟩:=c ρ args' w cs l p
 exact⟨v,h',ρ',fr',w',x,k _ _ q,r⟩
theorem Run.mono{fn:FuncId}{h0:AH}{s:AS}{Q Q':Value→AH→Prop}(c:Run η P B fn h0 s Q)(k:∀ v h',Q v h'→Q' v h'):Run η P B fn h0 s Q':=by
 intro ρ0 w0 ρ fr cs w cs0 p0 p r
 obtain⟨v,h',ρ',fr',w',x,q,r⟩:=c ρ0 w0 ρ fr cs w cs0 p0 p r
 exact⟨v,h',ρ',fr',w',x,k _ _ q,r⟩
theorem CallSpec.enter{f:FuncId}{args:List Value}{h:AH}{fr:AF}{Q:Value→AH→Prop}(he:enterA P f args .normal = .ok fr)(r:Run η P B f h ⟨fr,[],h⟩ Q):CallSpec η P B f args h Q:=by
 intro ρ args' w cs l p
 exact r ρ w ρ (Frame.enter P f args' .normal) [] w cs p (.refl p) ⟨enter_ok he l,.nil,p⟩
theorem Run.step(hη:OneCells η){nest:Nest}(hreg:RegOk η P B nest){fn:FuncId}{h0:AH}{s s':AS}{Q:Value→AH→Prop}(hs:stepA P nest s = .ok (.next s'))(r:Run η P B fn h0 s' Q):Run η P B fn h0 s Q:=by
 intro ρ0 w0 ρ fr cs w cs0 p0 p R
 rcases stepA_ok (cs0:=cs0) hη hreg R hs with⟨s2,he,ρ1,fr1,cs1,w1,k1,k2,k3⟩ | ⟨v2,he,_⟩
 ·injection he with he;subst he
  obtain⟨v,h',ρ',fr',w',x,q,l1,l2,l3,l4,l5⟩:=r ρ0 w0 ρ1 fr1 cs1 w1 cs0 p0 (p.trans k2) k1
  exact⟨v,h',ρ',fr',w',x,q,l1,l2,l3,l4,k3.trans l5⟩
 ·cases he
theorem Run.done(hη:OneCells η){nest:Nest}(hreg:RegOk η P B nest){fn:FuncId}{h0 h':AH}{s:AS}{v:Value}{Q:Value→AH→Prop}(hs:stepA P nest s = .ok (.done fn v h'))(q:Q v h'):Run η P B fn h0 s Q:=by
 intro ρ0 w0 ρ fr cs w cs0 p0 p R
 rcases stepA_ok (cs0:=cs0) hη hreg R hs with⟨s2,he,_⟩ | ⟨v2,he,hcs,x,hx,hl⟩
 ·cases he
 ·injection he with e1 e2 e3;subst e1;subst e2;subst e3
  have hc:=R.cs
  rw [hcs] at hc
  have:=hc.inv_nil;subst this
  exact⟨v,s.hp,ρ,fr,w,x,q,p,hx,R.fr.fn,hl,.refl _ _⟩
def runN'(P:Program)(nest:Nest):Nat→AS→M AS
 | 0,s=>.ok s
 | n+1,s=>match stepA P nest s with
  | .ok (.next s)=>runN' P nest n s
  | .ok (.done ..)=>no "done"
  | .error e=>.error e
theorem Run.steps(hη:OneCells η){nest:Nest}(hreg:RegOk η P B nest){fn:FuncId}{h0:AH}{Q:Value→AH→Prop}{s':AS}:∀ (n:Nat) {s:AS},runN' P nest n s = .ok s'→Run η P B fn h0 s' Q→Run η P B fn h0 s Q
 | 0,s,hs,r=>by rw [runN',okk] at hs;subst hs;exact r
 | n+1,s,hs,r=>by
  rw [runN'] at hs
  split at hs
  ·rename_i s1 h1;exact .step hη hreg h1 (Run.steps hη hreg n hs r)
  ·simp [no] at hs
  ·cases hs
theorem Run.call(hη:OneCells η){fn g:FuncId}{args:List Value}{h0 h1:AH}{s:AS}{ops:Array Oper}{i:Nat}{rest:List Nat}{k:List Item}{o:Oper}{Q1 Q:Value→AH→Prop}(hm:s.fr.mode = .run)(ht:s.fr.todo = .inRegion ops (i :: rest) :: k)(ho:ops.toList[i]? = some o)
  (hw:wantedA ops.toList s.fr.tm o = .ok true) (hx:execA P (evA s.fr.tm) o s.hp = .ok (.enter g args,h1)) (hc:CallSpec η P B g args h1 Q1) (r:∀ v h',Q1 v h'→∃ f2,s.fr.finish v = .ok f2∧Run η P B fn h0 ⟨f2,s.cs,h'⟩ Q):Run η P B fn h0 s Q:=by
 intro ρ0 w0 ρ fr cs w cs0 p0 p R
 obtain⟨f,acs,hp⟩:=s
 simp only at hm ht hw hx r p
 have F:=R.fr
 have hC:=R.cs
 have hP:=R.pre
 simp only at F hC hP
 have hmode:fr.mode = .run:=by
  have h:=F.mode
  rw [hm] at h
  generalize fr.mode=m at h
  cases h;rfl
 obtain⟨k',htodo,hk⟩:∃ k',fr.todo = .inRegion ops (i :: rest) :: k'∧L2 (ItR ρ) k k':=by
  have h:=F.todo
  rw [ht] at h
  obtain⟨y,k',e,hy,hk⟩:=h.inv_cons
  cases hy
  exact⟨k',e,hk⟩
 have ho':ops[i]? = some o:=by rw [← Array.getElem?_toList];exact ho
 have hwant:=wanted_ok (ops:=ops) F.tm hw
 have hE:=execA_ok (w:=w) hη hP (o:=o) (σ:=evA f.tm) (τ:=fr.eval) (fun x hx=>evA_ok hP.glob F.tm hx) hx
 obtain⟨ρ1,w1,⟨xs,hu,hl⟩,hpost⟩:=hE
 have hP1:=hP.post hpost
 obtain⟨v,h',ρ2,fr2,w2,u,q1,hp2,hv2,_,hleave,hst⟩:=hc ρ1 xs w1 (fr :: (cs ++ cs0)) hl hP1
 obtain⟨f2,hf2,r2⟩:=r v h' q1
 have hle:=Env.le_trans hpost.le hp2.le
 have F2:=finish_ok hf2 (F.mono hle) hv2
 have hd:∀ c,o.op ≠ .defer c:=by
  intro c hcc
  unfold execA at hx
  rw [ite_no] at hx
  have hx:=hx.2
  simp only [hcc,kindOf,effA,bind_ok] at hx
  obtain⟨⟨t,av⟩,_,hx⟩:=hx
  rw [okk] at hx;injection hx with e1 e2;cases e1
 obtain⟨v',h2,ρ',fr',w',x,q,l1,l2,l3,l4,l5⟩:=r2 ρ0 w0 ρ2 (fr.finish u) cs w2 cs0 p0 (p.trans (hpost.trans hp2)) ⟨F2,L2.map_mono hle hC,hP1.post hp2⟩
 refine⟨v',h2,ρ',fr',w',x,q,l1,l2,l3,l4,?_⟩
 have hnc:notCall fr:=fun d b r s k hh=>by rw [htodo] at hh;cases hh
 refine((one_go (fr':=Frame.enter P g xs .normal) (cs':=fr :: (cs ++ cs0)) (w':=w1) ?_).trans (hst.trans (.one ?_))).trans l5
 ·rw [stepG_region hmode htodo ho' hwant (.inr hd),apply_enter hnc hu]
 ·rw [step_leave_returned hleave]
theorem CallSpec.calls{f:FuncId}{args:List Value}{args':Array Value}{h:AH}{ρ:Env}{w:World}{Q:Value→AH→Prop}(c:CallSpec η P B f args h Q)(hl:LR η ρ args args'.toList)(p:Pre η P ρ B h w) :
  Calls P f args' w fun e w'=>∃ v h' ρ' x,e = .returned x∧Q v h'∧VR η ρ' v x∧Post η ρ B h w ρ' h' w':=by
 intro cs
 obtain⟨v,h',ρ',fr',w',x,q,k1,k2,k3,k4,k5⟩:=c ρ args' w cs hl p
 exact⟨.returned x,w',fr',⟨v,h',ρ',x,rfl,q,k2,k1⟩,k5,k3,k4⟩
theorem NestOk.of{nest:Nest}(k:∀ f args h v h',nest f args h = .ok (v,h')→CallSpec η P B f args h fun v1 h1=>v1=v∧h1=h'):NestOk η P B nest:=by
 intro f args h h' v hn ρ args' w cs l p
 obtain⟨v1,h1,ρ',fr',w',x,⟨e1,e2⟩,r⟩:=k f args h v h' hn ρ args' w cs l p
 subst e1;subst e2
 exact⟨ρ',fr',w',x,r⟩
def noNest:Nest:=fun _ _ _=>no "a call in a region of any order"
theorem noNest_ok:NestOk η P B noNest:=by
 intro f args h h' v hn;simp [noNest,no] at hn
theorem reg0(hη:OneCells η)(hmix:P.follows .mixedOrders=true):RegOk η P B noNest:=regionA_ok hη hmix noNest_ok
theorem CallSpec.eval(hη:OneCells η)(hmix:P.follows .mixedOrders=true){fuel depth:Nat}{f:FuncId}{args:List Value}{h h':AH}{v:Value}(hc:callA P fuel depth f args h = .ok (v,h')):CallSpec η P B f args h fun v1 h1=>v1=v∧h1=h':=by
 intro ρ args' w cs l p
 obtain⟨ρ',fr',w',x,r⟩:=nestA_ok hη hmix fuel (depth+1) f args h h' v hc ρ args' w cs l p
 exact⟨v,h',ρ',fr',w',x,⟨rfl,rfl⟩,r⟩
end Go.Ev
namespace Go.Ev
variable {η:Nat→Value} {P:Program} {B:Bd}
def stopAt(s:AS):Bool:=
 match s.fr.mode,s.fr.todo with
 | .run,.code (.cond _ _ _) :: _=>true
 | .run,.code (.loop _) :: _=>true
 | .run,.inLoop _ :: _=>true
 | .run,.inRegion ops (i :: _) :: _=>match ops.toList[i]? with
  | some { op:=.call { callee:=.builtin _,.. },.. }=>false
  | some { op:=.call _,.. }=>true
  | _=>false
 | .run,_=>false
 | _,_=>true
def runTo(P:Program)(nest:Nest):Nat→AS→M AS
 | 0,_=>no "fuel"
 | n+1,s=>match stepA P nest s with
  | .ok (.next s)=>if stopAt s then .ok s else runTo P nest n s
  | .ok (.done ..)=>no "done"
  | .error e=>.error e
theorem Run.to(hη:OneCells η){nest:Nest}(hreg:RegOk η P B nest){fn:FuncId}{h0:AH}{Q:Value→AH→Prop}{s':AS}:∀ (n:Nat) {s:AS},runTo P nest n s = .ok s'→Run η P B fn h0 s' Q→Run η P B fn h0 s Q
 | 0,s,hs,r=>by simp [runTo,no] at hs
 | n+1,s,hs,r=>by
  rw [runTo] at hs
  split at hs
  ·rename_i s1 h1
   split at hs
   ·rw [okk] at hs;subst hs;exact .step hη hreg h1 r
   ·exact .step hη hreg h1 (Run.to hη hreg n hs r)
  ·simp [no] at hs
  ·cases hs
theorem Run.go(hη:OneCells η){nest:Nest}(hreg:RegOk η P B nest){fn:FuncId}{h0:AH}{Q:Value→AH→Prop}{s:AS}(n:Nat)(k:∀ X,runTo P nest n s=X→∃ s',X = .ok s'∧Run η P B fn h0 s' Q):Run η P B fn h0 s Q:=by
 obtain⟨s',h1,h2⟩:=k _ rfl
 exact .to hη hreg n h1 h2
theorem Run.fin(hη:OneCells η){nest:Nest}(hreg:RegOk η P B nest){fn:FuncId}{h0:AH}{Q:Value→AH→Prop}{s:AS}(k:∀ X,stepA P nest s=X→∃ v h',X = .ok (.done fn v h')∧Q v h'):Run η P B fn h0 s Q:=by
 obtain⟨v,h',h1,h2⟩:=k _ rfl
 exact .done hη hreg h1 h2
theorem CallSpec.go{f:FuncId}{args:List Value}{h:AH}{Q:Value→AH→Prop}(k:∀ X,enterA P f args .normal=X→∃ fr,X = .ok fr∧Run η P B f h ⟨fr,[],h⟩ Q):CallSpec η P B f args h Q:=by
 obtain⟨fr,h1,h2⟩:=k _ rfl
 exact .enter h1 h2
theorem Run.cond(hη:OneCells η){nest:Nest}(hreg:RegOk η P B nest){fn:FuncId}{h0:AH}{Q:Value→AH→Prop}{fr:AF}{cs:List AF}{h:AH}{c:Operand}{thn els:Code}{k:List Item}{b:Bool}(hm:fr.mode = .run)(ht:fr.todo = .code (.cond c thn els) :: k)(hb:evA fr.tm c = .bool b)
  (h1:b=true→Run η P B fn h0 ⟨{ fr with todo:=.code thn :: k },cs,h⟩ Q) (h2:b=false→Run η P B fn h0 ⟨{ fr with todo:=.code els :: k },cs,h⟩ Q):Run η P B fn h0 ⟨fr,cs,h⟩ Q:=by
 have hs:stepA P nest ⟨fr,cs,h⟩ = .ok (.next ⟨{ fr with todo:=.code (if b then thn else els) :: k },cs,h⟩):=by
  unfold stepA
  simp only [hm,ht,hb]
 refine .step hη hreg hs ?_
 cases b with
 | true=>exact h1 rfl
 | false=>exact h2 rfl
end Go.Ev
namespace Go.Ev
def codeAt:Code→List Nat→Code
 | .seq a b,n :: p=>codeAt (if n=0 then a else b) p
 | .cond _ a b,n :: p=>codeAt (if n=0 then a else b) p
 | .block _ a,_ :: p=>codeAt a p
 | .loop a,_ :: p=>codeAt a p
 | .scope a,_ :: p=>codeAt a p
 | .rangeFunc _ _ a b,n :: p=>codeAt (if n=0 then a else b) p
 | c,_=>c
end Go.Ev

namespace Go.Ev
variable {η:Nat→Value} {P:Program} {B:Bd}
inductive RF (σ:Nat→Nat) (N:Nat):Fn→Fn→Prop
 | same {f:Fn} (h:∀ l,f ≠ .yield l):RF σ N f f
 | yield {l:Nat} (h:l<N):RF σ N (.yield l) (.yield (σ l))
inductive RV (σ:Nat→Nat) (N:Nat) (wk:Bool):Value→Value→Prop
 | bool (b:Bool):RV σ N wk (.bool b) (.bool b)
 | int (k:IntKind) (n:Int):RV σ N wk (.int k n) (.int k n)
 | float (k:FloatKind) (b:Nat):RV σ N wk (.float k b) (.float k b)
 | complex (k:FloatKind) (a b:Nat):RV σ N wk (.complex k a b) (.complex k a b)
 | string (s:ByteArray):RV σ N wk (.string s) (.string s)
 | ptr0:RV σ N wk (.pointer none) (.pointer none)
 | ptr {r o:Nat} {s} (h:r<N):RV σ N wk (.pointer (some ⟨r,o,s⟩)) (.pointer (some ⟨σ r,o,s⟩))
 | slice0 (l c:Nat):RV σ N wk (.slice none l c) (.slice none l c)
 | slice {r o:Nat} {s} (l c:Nat) (h:r<N):RV σ N wk (.slice (some ⟨r,o,s⟩) l c) (.slice (some ⟨σ r,o,s⟩) l c)
 | map0:RV σ N wk (.map none) (.map none)
 | map {r:Nat} (h:r<N):RV σ N wk (.map (some r)) (.map (some (σ r)))
 | func {f g:Fn} {a b c d:Array Value} (hf:RF σ N f g) (h1:a.toList.length=c.toList.length) (h2:b.toList.length=d.toList.length)
   (h3:∀ (i:Nat) (v x:Value),a.toList[i]? = some v→c.toList[i]? = some x→RV σ N wk v x) (h4:∀ (i:Nat) (v x:Value),b.toList[i]? = some v→d.toList[i]? = some x→RV σ N wk v x):RV σ N wk (.func f a b) (.func g c d)
 | nilFunc:RV σ N wk .nilFunc .nilFunc
 | nilIface:RV σ N wk .nilIface .nilIface
 | iface (t:TypeId) {v x:Value} (h:RV σ N wk v x):RV σ N wk (.iface t v) (.iface t x)
 | agg {a c:Array Value} (h1:a.toList.length=c.toList.length) (h3:∀ (i:Nat) (v x:Value),a.toList[i]? = some v→c.toList[i]? = some x→RV σ N wk v x):RV σ N wk (.agg a) (.agg c)
 | tuple {a c:Array Value} (h1:a.toList.length=c.toList.length) (h3:∀ (i:Nat) (v x:Value),a.toList[i]? = some v→c.toList[i]? = some x→RV σ N wk v x):RV σ N wk (.tuple a) (.tuple c)
 | chan (c:Option Nat):RV σ N wk (.chan c) (.chan c)
 | any {v:Value} (hw:wk=true) (h:oneC v=true):RV σ N wk (.chan none) v
theorem RV.up{σ:Nat→Nat}{N:Nat}{ρs ρ:Env}(hn:∀ r t,r<N→ρs r=some t→ρ (σ r)=some t){v v' x:Value}(k:RV σ N false v v')(h:VR η ρs v x):VR η ρ v' x:=by
 induction k generalizing x with
 | ptr h1=>cases h with | ptr h=>exact .ptr (hn _ _ h1 h)
 | slice l c h1=>cases h with
  | slice _ _ h hc=>exact .slice _ _ (hn _ _ h1 h) hc
  | sliceU _ s c h a b d e=>exact .sliceU _ _ _ (hn _ _ h1 h) a b d e
 | map h1=>cases h with | map h=>exact .map (hn _ _ h1 h)
 | func hf h1 h2 h3 h4 i3 i4=>cases h with
  | func kf k1 k2 k3 k4=>
   refine .func ?_ (h1.symm.trans k1) (h2.symm.trans k2) (fun i v x hv hx=>?_) (fun i v x hv hx=>?_)
   ·cases hf with
    | same hh=>cases kf with
     | same h'=>exact .same h'
     | yield h'=>exact absurd rfl (hh _)
    | yield hh=>cases kf with
     | same h'=>exact absurd rfl (h' _)
     | yield h'=>exact .yield (hn _ _ hh h')
   ·have hi:=(List.getElem?_eq_some_iff.1 hv).1
    rw [← h1] at hi
    exact i3 i _ v (List.getElem?_eq_getElem hi) hv (k3 i _ x (List.getElem?_eq_getElem hi) hx)
   ·have hi:=(List.getElem?_eq_some_iff.1 hv).1
    rw [← h2] at hi
    exact i4 i _ v (List.getElem?_eq_getElem hi) hv (k4 i _ x (List.getElem?_eq_getElem hi) hx)
 | iface t h1 ih=>cases h with | iface _ h=>exact .iface _ (ih h)
 | agg h1 h3 i3=>cases h with
  | agg k1 k3=>
   refine .agg (h1.symm.trans k1) (fun i v x hv hx=>?_)
   have hi:=(List.getElem?_eq_some_iff.1 hv).1
   rw [← h1] at hi
   exact i3 i _ v (List.getElem?_eq_getElem hi) hv (k3 i _ x (List.getElem?_eq_getElem hi) hx)
 | tuple h1 h3 i3=>cases h with
  | tuple k1 k3=>
   refine .tuple (h1.symm.trans k1) (fun i v x hv hx=>?_)
   have hi:=(List.getElem?_eq_some_iff.1 hv).1
   rw [← h1] at hi
   exact i3 i _ v (List.getElem?_eq_getElem hi) hv (k3 i _ x (List.getElem?_eq_getElem hi) hx)
 | slice0 l c=>cases h with | slice0 _ _ hc=>exact .slice0 _ _ hc | sliceE _ _=>exact .sliceE _ _ | sliceF _ _=>exact .sliceF _ _
 | bool b=>cases h;exact .bool b
 | int k n=>cases h;exact .int k n
 | float k n=>cases h;exact .float k n
 | complex k a b=>cases h;exact .complex k a b
 | string s=>cases h;exact .string s
 | ptr0=>cases h;exact .ptr0
 | map0=>cases h;exact .map0
 | nilFunc=>cases h;exact .nilFunc
 | nilIface=>cases h;exact .nilIface
 | chan c=>cases h with
  | opq i=>exact .opq i
  | any h=>exact .any h
 | any hw h1=>cases hw
theorem RV.dn(hη:OneCells η){σ:Nat→Nat}{N:Nat}{wk:Bool}{ρs ρ:Env}(hn:∀ r t,r<N→ρ (σ r)=some t→ρs r=some t){v v' x:Value}(k:RV σ N wk v v')(h:VR η ρ v' x):VR η ρs v x:=by
 induction k generalizing x with
 | ptr h1=>cases h with | ptr h=>exact .ptr (hn _ _ h1 h)
 | slice l c h1=>cases h with
  | slice _ _ h hc=>exact .slice _ _ (hn _ _ h1 h) hc
  | sliceU _ s c h a b d e=>exact .sliceU _ _ _ (hn _ _ h1 h) a b d e
 | map h1=>cases h with | map h=>exact .map (hn _ _ h1 h)
 | func hf h1 h2 h3 h4 i3 i4=>cases h with
  | func kf k1 k2 k3 k4=>
   refine .func ?_ (h1.trans k1) (h2.trans k2) (fun i v x hv hx=>?_) (fun i v x hv hx=>?_)
   ·cases hf with
    | same hh=>cases kf with
     | same h'=>exact .same h'
     | yield h'=>exact absurd rfl (hh _)
    | yield hh=>cases kf with
     | same h'=>exact absurd rfl (h' _)
     | yield h'=>exact .yield (hn _ _ hh h')
   ·have hi:=(List.getElem?_eq_some_iff.1 hv).1
    rw [h1] at hi
    exact i3 i v _ hv (List.getElem?_eq_getElem hi) (k3 i _ x (List.getElem?_eq_getElem hi) hx)
   ·have hi:=(List.getElem?_eq_some_iff.1 hv).1
    rw [h2] at hi
    exact i4 i v _ hv (List.getElem?_eq_getElem hi) (k4 i _ x (List.getElem?_eq_getElem hi) hx)
 | iface t h1 ih=>cases h with | iface _ h=>exact .iface _ (ih h)
 | agg h1 h3 i3=>cases h with
  | agg k1 k3=>
   refine .agg (h1.trans k1) (fun i v x hv hx=>?_)
   have hi:=(List.getElem?_eq_some_iff.1 hv).1
   rw [h1] at hi
   exact i3 i v _ hv (List.getElem?_eq_getElem hi) (k3 i _ x (List.getElem?_eq_getElem hi) hx)
 | tuple h1 h3 i3=>cases h with
  | tuple k1 k3=>
   refine .tuple (h1.trans k1) (fun i v x hv hx=>?_)
   have hi:=(List.getElem?_eq_some_iff.1 hv).1
   rw [h1] at hi
   exact i3 i v _ hv (List.getElem?_eq_getElem hi) (k3 i _ x (List.getElem?_eq_getElem hi) hx)
 | slice0 l c=>cases h with | slice0 _ _ hc=>exact .slice0 _ _ hc | sliceE _ _=>exact .sliceE _ _ | sliceF _ _=>exact .sliceF _ _
 | bool b=>cases h;exact .bool b
 | int k n=>cases h;exact .int k n
 | float k n=>cases h;exact .float k n
 | complex k a b=>cases h;exact .complex k a b
 | string s=>cases h;exact .string s
 | ptr0=>cases h;exact .ptr0
 | map0=>cases h;exact .map0
 | nilFunc=>cases h;exact .nilFunc
 | nilIface=>cases h;exact .nilIface
 | chan c=>cases h with
  | opq i=>exact .opq i
  | any h=>exact .any h
 | any hw h1=>exact .any (h.oneC hη h1)
theorem lr_dn(hη:OneCells η){σ:Nat→Nat}{N:Nat}{wk:Bool}{ρs ρ:Env}(hn:∀ r t,r<N→ρ (σ r)=some t→ρs r=some t){l l':List Value}(k:L2 (RV σ N wk) l l'){m:List Value}(h:LR η ρ l' m):LR η ρs l m:=by
 induction k generalizing m with
 | nil=>have:=h.inv_nil;subst this;exact .nil
 | cons a _ ih=>
  obtain⟨x,m',rfl,h1,h2⟩:=h.inv_cons
  exact .cons (a.dn hη hn h1) (ih h2)
theorem L2.get'{α β:Type}{R:α→β→Prop}{l:List α}{m:List β}(k:L2 R l m):∀ {i:Nat} {b:β},m[i]? = some b→∃ a,l[i]? = some a∧R a b:=by
 induction k with
 | nil=>intro i a h;simp at h
 | cons h _ ih=>
  intro i a e
  cases i with
  | zero=>simp at e;subst e;exact⟨_,rfl,h⟩
  | succ i=>exact ih (by simpa using e)
def RE(σ:Nat→Nat)(N:Nat)(wk:Bool)(e e':MapEntry):Prop:=RV σ N wk e.key e'.key∧RV σ N wk e.val e'.val∧e.born=e'.born
inductive RO (σ:Nat→Nat) (N:Nat) (wk:Bool):AObj→AObj→Prop
 | cells (ty:TypeId) {c c':List Value} (p:Bool) {own own':Nat} (h:L2 (RV σ N wk) c c') (ho:own=own'∨(wk=true∧own=0)):RO σ N wk (.cells ty c p own) (.cells ty c' p own')
 | map {es es':List MapEntry} (clock:Nat) {own own':Bool} (h:L2 (RE σ N wk) es es') (ho:own=own'∨(wk=true∧own=false)):RO σ N wk (.map es clock own) (.map es' clock own')
 | stringIter (s:ByteArray) (pos:Nat):RO σ N wk (.stringIter s pos) (.stringIter s pos)
 | mapIter0 (since:Nat) (seen:List Nat) (last:Nat):RO σ N wk (.mapIter none since seen last) (.mapIter none since seen last)
 | mapIter {m:Nat} (since:Nat) (seen:List Nat) (last:Nat) (h:m<N):RO σ N wk (.mapIter (some m) since seen last) (.mapIter (some (σ m)) since seen last)
 | loop {st:LoopState} {pend:Option Code} {fn:FuncId} {tm tm':T Value} {n:Nat} {ps:List Tmp} {asg body:Code} {ds:Nat} (hi:∀ t,n≤t→tm.get t=none) (hi':∀ t,n≤t→tm'.get t=none) (ht:∀ t,t<n→RV σ N wk ((tm.get t).getD undef) ((tm'.get t).getD undef)) (hd:ds<N):RO σ N wk (.loop st pend fn tm n ps asg body ds) (.loop st pend fn tm' n ps asg body (σ ds))
 | deferred0:RO σ N wk (.deferred none) (.deferred none)
 | deferred1:RO σ N wk (.deferred (some [])) (.deferred (some []))
theorem RO.own {σ : Nat → Nat} {N : Nat} {wk : Bool} {a a' : AObj} (k : RO σ N wk a a') (h : ownO a = true) : ownO a' = true := by
  cases k with
  | cells ty p h1 ho => rcases ho with rfl | ⟨_, rfl⟩
                        · exact h
                        · simp [ownO] at h
  | map c h1 ho => rcases ho with rfl | ⟨_, rfl⟩
                   · exact h
                   · simp [ownO] at h
  | _ => rfl
theorem RO.sh {σ : Nat → Nat} {N : Nat} {wk : Bool} {a a' : AObj} (k : RO σ N wk a a') (h : shO a' = true) : shO a = true := by
  cases k with
  | cells ty p h1 ho => rcases ho with rfl | ⟨_, rfl⟩
                        · exact h
                        · simp only [shO, Bool.and_eq_true] at h ⊢; exact ⟨h.1, rfl⟩
  | _ => simp [shO] at h
theorem RO.sh' {σ : Nat → Nat} {N : Nat} {a a' : AObj} (k : RO σ N false a a') (h : shO a = true) : shO a' = true := by
  cases k with
  | cells ty p h1 ho => rcases ho with rfl | ⟨h2, _⟩
                        · exact h
                        · cases h2
  | _ => simp [shO] at h
theorem RO.own' {σ : Nat → Nat} {N : Nat} {a a' : AObj} (k : RO σ N false a a') (h : ownO a' = true) : ownO a = true := by
  cases k with
  | cells ty p h1 ho => rcases ho with rfl | ⟨h2, _⟩
                        · exact h
                        · cases h2
  | map c h1 ho => rcases ho with rfl | ⟨h2, _⟩
                   · exact h
                   · cases h2
  | _ => rfl
theorem RO.dn(hη:OneCells η){σ:Nat→Nat}{N:Nat}{wk:Bool}{ρs ρ:Env}(hn:∀ r t,r<N→ρ (σ r)=some t→ρs r=some t){a a':AObj}(k:RO σ N wk a a'){d n:Nat}{o:Obj}(h:OR η ρ a' d n o):OR η ρs a d n o:=by
 cases k with
 | cells ty p hc ho=>
  obtain⟨C,t,lo,hi,e,q⟩:=h
  refine⟨C,t,lo,hi,e,q.ty,q.size,hc.len ▸ q.len,fun i v hv=>?_,fun hp=>?_,fun h2=>?_⟩
  ·obtain⟨v',h1,h2⟩:=hc.get hv
   obtain⟨x,h3,h4⟩:=q.at_ i v' h1
   exact⟨x,h3,h2.dn hη hn h4⟩
  ·rw [hc.len];exact q.plain hp
  ·rcases ho with rfl | ⟨_,rfl⟩
   ·exact q.free h2
   ·cases h2
 | map c hc ho=>
  obtain⟨E,e,q⟩:=h
  refine⟨E,e,?_⟩
  clear e
  generalize E.toList=l at q ⊢
  induction hc generalizing l with
  | nil=>cases q;exact .nil
  | cons h1 _ ih=>cases q with
   | cons h2 h3=>exact .cons ⟨h1.1.dn hη hn h2.1,h1.2.1.dn hη hn h2.2.1,h1.2.2.trans h2.2.2⟩ (ih _ h3)
 | stringIter s pos=>exact h
 | mapIter0 since seen last=>
  obtain⟨hd,m',e,q⟩:=h
  refine⟨hd,m',e,?_⟩
  cases m' with
  | none=>exact q
  | some b=>exact q
 | mapIter since seen last hm=>
  obtain⟨hd,m',e,q⟩:=h
  refine⟨hd,m',e,?_⟩
  cases m' with
  | none=>exact q
  | some b=>obtain⟨d,n,q⟩:=q;exact⟨d,n,hn _ _ hm q⟩
 | loop hi hi' ht hd=>
  obtain⟨l,e,a,b,c,t,f,g,i,dd,nn,k⟩:=h
  exact⟨l,e,a,b,c,⟨t.1,hi,fun i hi=>(ht i hi).dn hη hn (t.2.2 i hi)⟩,f,g,i,dd,nn,hn _ _ hd k⟩
 | deferred0=>
  obtain⟨ds',e,q⟩:=h
  refine⟨ds',e,?_⟩
  cases ds' with
  | none=>trivial
  | some m=>exact q
 | deferred1=>
  obtain⟨ds',e,q⟩:=h
  refine⟨ds',e,?_⟩
  cases ds' with
  | none=>exact q
  | some m=>simp only at q ⊢;cases q;exact .nil
theorem RO.up{σ:Nat→Nat}{N:Nat}{ρs ρ:Env}(hn:∀ r t,r<N→ρs r=some t→ρ (σ r)=some t){a a':AObj}(k:RO σ N false a a'){d n:Nat}{o:Obj}(h:OR η ρs a d n o):OR η ρ a' d n o:=by
 cases k with
 | cells ty p hc ho=>
  obtain⟨C,t,lo,hi,e,q⟩:=h
  refine⟨C,t,lo,hi,e,q.ty,q.size,hc.len ▸ q.len,fun i v hv=>?_,fun hp=>?_,fun h2=>?_⟩
  ·obtain⟨v',h1,h2⟩:=hc.get' hv
   obtain⟨x,h3,h4⟩:=q.at_ i v' h1
   exact⟨x,h3,h2.up hn h4⟩
  ·rw [← hc.len];exact q.plain hp
  ·rcases ho with rfl | ⟨h3,_⟩
   ·exact q.free h2
   ·cases h3
 | map c hc ho=>
  obtain⟨E,e,q⟩:=h
  refine⟨E,e,?_⟩
  clear e
  generalize E.toList=l at q ⊢
  induction hc generalizing l with
  | nil=>cases q;exact .nil
  | cons h1 _ ih=>cases q with
   | cons h2 h3=>exact .cons ⟨h1.1.up hn h2.1,h1.2.1.up hn h2.2.1,h1.2.2.symm.trans h2.2.2⟩ (ih _ h3)
 | stringIter s pos=>exact h
 | mapIter0 since seen last=>
  obtain⟨hd,m',e,q⟩:=h
  refine⟨hd,m',e,?_⟩
  cases m' with
  | none=>exact q
  | some b=>exact q
 | mapIter since seen last hm=>
  obtain⟨hd,m',e,q⟩:=h
  refine⟨hd,m',e,?_⟩
  cases m' with
  | none=>exact q
  | some b=>obtain⟨d,n,q⟩:=q;exact⟨d,n,hn _ _ hm q⟩
 | loop hi hi' ht hd=>
  obtain⟨l,e,a,b,c,t,f,g,i,dd,nn,k⟩:=h
  exact⟨l,e,a,b,c,⟨t.1,hi',fun i hi=>(ht i hi).up hn (t.2.2 i hi)⟩,f,g,i,dd,nn,hn _ _ hd k⟩
 | deferred0=>
  obtain⟨ds',e,q⟩:=h
  refine⟨ds',e,?_⟩
  cases ds' with
  | none=>trivial
  | some m=>exact q
 | deferred1=>
  obtain⟨ds',e,q⟩:=h
  refine⟨ds',e,?_⟩
  cases ds' with
  | none=>exact q
  | some m=>simp only at q ⊢;cases q;exact .nil
structure Emb (P:Program) (σ:Nat→Nat) (hs h:AH):Prop where
 glob:∀ g,g≤P.globals.size→g<hs.next∧σ g=g
 obj:∀ r a,hs.objs.get r=some a→r<hs.next∧∃ a',h.objs.get (σ r)=some a'∧RO σ hs.next true a a'
 inj:∀ r r' a a',hs.objs.get r=some a→hs.objs.get r'=some a'→σ r=σ r'→r=r'
def cut(σ:Nat→Nat)(N:Nat)(ρ:Env):Env:=fun r=>if r<N then ρ (σ r) else none
theorem cut_dn{σ:Nat→Nat}{N:Nat}{ρ:Env}:∀ r t,r<N→ρ (σ r)=some t→cut σ N ρ r=some t:=by
 intro r t hr h;unfold cut;rw [if_pos hr];exact h
theorem Emb.pre(hη:OneCells η){σ:Nat→Nat}{hs h:AH}{ρ:Env}{w:World}(E:Emb P σ hs h)(p:Pre η P ρ B h w):Pre η P (cut σ hs.next ρ) B hs w:=by
 refine⟨⟨fun r a hr=>?_,fun r r' a a' b d n d' n' h1 h2 e1 e2=>?_,fun r a b d n h1 e1 hS=>?_⟩,fun r hr=>?_,fun g hg=>?_,p.low⟩
 ·obtain⟨hlt,a',h1,h2⟩:=E.obj r a hr
  obtain⟨b,d,n,o,k1,k2,k3,k4⟩:=p.hr.obj _ a' h1
  exact⟨b,d,n,o,cut_dn _ _ hlt k1,k2,h2.dn hη cut_dn k3,fun ho=>k4 (h2.own ho)⟩
 ·obtain⟨l1,b1,g1,_⟩:=E.obj r a h1
  obtain⟨l2,b2,g2,_⟩:=E.obj r' a' h2
  unfold cut at e1 e2
  rw [if_pos l1] at e1
  rw [if_pos l2] at e2
  exact(p.hr.inj _ _ _ _ b d n d' n' g1 g2 e1 e2).imp (E.inj r r' a a' h1 h2) id
 ·obtain⟨l1,b1,g1,k1⟩:=E.obj r a h1
  unfold cut at e1
  rw [if_pos l1] at e1
  exact k1.sh (p.hr.sh _ _ b d n g1 e1 hS)
 ·unfold cut;rw [if_neg (by omega)]
 ·obtain⟨h1,h2⟩:=E.glob g hg
  obtain⟨n,h3⟩:=p.glob g hg
  exact⟨n,cut_dn _ _ h1 (by rw [h2];exact h3)⟩
theorem Emb.own{σ:Nat→Nat}{hs h:AH}{ρ:Env}{b:Nat}(E:Emb P σ hs h)(k:Own (cut σ hs.next ρ) hs b):∃ r1 a1 a1' d n,hs.objs.get r1=some a1∧ownO a1=true∧h.objs.get (σ r1)=some a1'∧ownO a1'=true∧ρ (σ r1)=some (b,d,n):=by
 obtain⟨r1,a1,d,n,h1,h2,h3⟩:=k
 obtain⟨l1,a1',g1,g2⟩:=E.obj r1 a1 h1
 unfold cut at h3
 rw [if_pos l1] at h3
 exact⟨r1,a1,a1',d,n,h1,h2,g1,g2.own h2,h3⟩
theorem Emb.own'{σ:Nat→Nat}{hs h:AH}{ρ:Env}{b:Nat}(E:Emb P σ hs h)(k:Own (cut σ hs.next ρ) hs b):Own ρ h b:=by
 obtain⟨r1,a1,a1',d,n,h1,h2,h3,h4,h5⟩:=E.own k
 exact⟨_,_,_,_,h3,h4,h5⟩
theorem Emb.nam{σ:Nat→Nat}{hs h:AH}{ρ:Env}{b:Nat}(E:Emb P σ hs h)(k:∃ r a d n,hs.objs.get r=some a∧cut σ hs.next ρ r=some (b,d,n)):∃ r1 a1 a1' d n,hs.objs.get r1=some a1∧r1<hs.next∧h.objs.get (σ r1)=some a1'∧ρ (σ r1)=some (b,d,n):=by
 obtain⟨r1,a1,d,n,h1,h3⟩:=k
 obtain⟨l1,a1',g1,g2⟩:=E.obj r1 a1 h1
 unfold cut at h3
 rw [if_pos l1] at h3
 exact⟨r1,a1,a1',d,n,h1,l1,g1,h3⟩
def sg(σ:Nat→Nat)(ns n:Nat):Nat→Nat:=fun r=>if r<ns then σ r else n+(r - ns)
structure Framed (σ:Nat→Nat) (hs h hs' h':AH):Prop where
 next:h'.next=h.next+(hs'.next - hs.next)
 obj:∀ r a,h'.objs.get r=some a→
  (∃ r0 a0,r0<hs'.next∧sg σ hs.next h.next r0=r∧hs'.objs.get r0=some a0∧RO (sg σ hs.next h.next) hs'.next false a0 a)∨
  (h.objs.get r=some a∧∀ r0 a0,hs.objs.get r0=some a0→σ r0 ≠ r)∨
  (h.objs.get r=some a∧∃ r0 a0 a1,r0<hs.next∧σ r0=r∧hs.objs.get r0=some a0∧ownO a0=false∧hs'.objs.get r0=some a1)
theorem Emb.post(hη:OneCells η){σ:Nat→Nat}{hs h hs' h':AH}{ρ ρs':Env}{w w':World}(E:Emb P σ hs h)(p:Pre η P ρ B h w)(q:Post η (cut σ hs.next ρ) B hs w ρs' hs' w')(F:Framed σ hs h hs' h') :
  ∃ ρ',Post η ρ B h w ρ' h' w'∧∀ r t,r<hs'.next→ρs' r=some t→ρ' (sg σ hs.next h.next r)=some t:=by
 have hnx:=q.next
 let ρ':Env:=fun r=>if r<h.next then ρ r else ρs' (hs.next+(r - h.next))
 have hold:∀ r,r<h.next→ρ' r=ρ r:=fun r hr=>if_pos hr
 have hle:Env.le ρ ρ':=by
  intro r t hr
  have hlt:r<h.next:=by
   rcases Nat.lt_or_ge r h.next with hl | hl
   ·exact hl
   ·rw [p.fresh r hl] at hr;cases hr
  rw [hold r hlt];exact hr
 have hup:∀ r t,r<hs'.next→ρs' r=some t→ρ' (sg σ hs.next h.next r)=some t:=by
  intro r t hr ht
  unfold sg
  by_cases hlt:r<hs.next
  ·rw [if_pos hlt]
   rw [q.old r hlt] at ht
   unfold cut at ht
   rw [if_pos hlt] at ht
   exact hle _ _ ht
  ·rw [if_neg hlt]
   show(if h.next+(r - hs.next)<h.next then _ else _)=_
   rw [if_neg (by omega)]
   rw [show hs.next+(h.next+(r - hs.next) - h.next)=r by omega]
   exact ht
  -- a block of the bigger heap that the smaller one does not own is left as it was
 have hkeep:∀ r a b d n o,h.objs.get r=some a→ρ r=some (b,d,n)→w.heap[b]? = some o→((∀ r0 a0,hs.objs.get r0=some a0→σ r0 ≠ r)∨∃ r0 a0 a1,r0<hs.next∧σ r0=r∧hs.objs.get r0=some a0∧ownO a0=false∧hs'.objs.get r0=some a1)→w'.heap[b]? = some o:=by
  intro r a b d n o hr hρ hb hc
  rw [q.fr.kept b (heap_lt hb) ?_];exact hb
  intro hown
  obtain⟨r1,a1,a1',d1,n1,h1,h2,h3,h4,h5⟩:=E.own hown
  have e:=(p.hr.uni hr h3 hρ h5 (sh_of_own h4)).symm
  rcases hc with hc | ⟨r0,a0,_,_,e0,g0,g1,_⟩
  ·exact hc r1 a1 h1 e
  ·have:=E.inj r1 r0 a1 a0 h1 g0 (e.trans e0.symm)
   subst this
   rw [h1] at g0;cases g0
   rw [g1] at h2;cases h2
  -- what each name of the new heap stands for
 have himg:∀ r0 a0,hs'.objs.get r0=some a0→r0<hs'.next→∀ r b d n,sg σ hs.next h.next r0=r→ρ' r=some (b,d,n)→ρs' r0=some (b,d,n):=by
  intro r0 a0 h0 hl r b d n e hb
  obtain⟨b1,d1,n1,o1,k1,_⟩:=q.hr.obj r0 a0 h0
  have:=hup r0 _ hl k1
  rw [e,hb] at this
  rw [k1];exact this.symm
 refine⟨ρ',⟨hle,hold,fun r hr=>?_,by rw [F.next];omega,⟨fun r a hr=>?_,fun r r' a a' b d n d' n' hr hr' e e'=>?_,fun r a b d n hr e hS=>?_⟩,⟨q.fr.os,q.fr.tape,q.fr.output,q.fr.size,fun k hk hn=>q.fr.kept k hk fun hq=>hn (E.own' hq)⟩,?_,?_⟩,hup⟩
 ·rw [F.next] at hr
  show(if r<h.next then _ else _)=_
  rw [if_neg (by omega)]
  exact q.fresh _ (by omega)
 ·rcases F.obj r a hr with⟨r0,a0,hl,e,h0,hro⟩ | ⟨h1,hc⟩ | ⟨h1,hc⟩
  ·obtain⟨b,d,n,o,k1,k2,k3,k4⟩:=q.hr.obj r0 a0 h0
   exact⟨b,d,n,o,by rw [← e];exact hup r0 _ hl k1,k2,hro.up hup k3,fun ho=>k4 (hro.own' ho)⟩
  ·obtain⟨b,d,n,o,k1,k2,k3,k4⟩:=p.hr.obj r a h1
   exact⟨b,d,n,o,hle _ _ k1,hkeep r a b d n o h1 k1 k2 (.inl hc),k3.mono hle,k4⟩
  ·obtain⟨b,d,n,o,k1,k2,k3,k4⟩:=p.hr.obj r a h1
   exact⟨b,d,n,o,hle _ _ k1,hkeep r a b d n o h1 k1 k2 (.inr hc),k3.mono hle,k4⟩
 ·have old1:∀ r a,h.objs.get r=some a→ρ' r=ρ r:=fun r a hg=>hold r (p.get_lt hg)
  by_cases hS:B.S b
  ·exact .inr hS
  refine .inl ?_
    -- an image and one that stayed
  have mixed:∀ r0 a0 r r' a' d n d' n',r0<hs'.next→sg σ hs.next h.next r0=r→hs'.objs.get r0=some a0→ρ' r=some (b,d,n)→h.objs.get r'=some a'→ρ' r'=some (b,d',n')→((∀ r0 a0,hs.objs.get r0=some a0→σ r0 ≠ r')∨∃ r0 a0 a1,r0<hs.next∧σ r0=r'∧hs.objs.get r0=some a0∧ownO a0=false∧hs'.objs.get r0=some a1)→r=r':=by
   intro r0 a0 r r' a' d n d' n' hl e0 h0 e hr' e' hc
   have es:=himg r0 a0 h0 hl r b d n e0 e
   rw [old1 r' a' hr'] at e'
   rcases hc with hc | ⟨r2,a2,a3,l2,e2,g2,_,g3⟩
   ·rcases q.inn b ⟨r0,a0,d,n,h0,es⟩ with h1 | h1
    ·obtain⟨r1,a1,a1',d1,n1,k1,_,k2,k3⟩:=E.nam h1
     exact absurd ((p.hr.inj _ _ _ _ _ _ _ _ _ k2 hr' k3 e').resolve_right hS) (hc r1 a1 k1)
    ·obtain⟨b2,_,_,o2,k1,k2,_⟩:=p.hr.obj r' a' hr'
     rw [e'] at k1;cases k1
     exact absurd (heap_lt k2) (by omega)
   ·have e3:ρs' r2=some (b,d',n'):=by
     rw [q.old r2 l2];exact cut_dn _ _ l2 (by rw [e2];exact e')
    have:=(q.hr.inj r0 r2 a0 a3 b d n d' n' h0 g3 es e3).resolve_right hS
    subst this
    rw [← e0,← e2]
    unfold sg;rw [if_pos l2]
  rcases F.obj r a hr with⟨r0,a0,hl,e0,h0,_⟩ | h1
  ·rcases F.obj r' a' hr' with⟨r0',a0',hl',e0',h0',_⟩ | h1'
   ·have es:=himg r0 a0 h0 hl r b d n e0 e
    have es':=himg r0' a0' h0' hl' r' b d' n' e0' e'
    have:=(q.hr.inj r0 r0' a0 a0' b d n d' n' h0 h0' es es').resolve_right hS
    subst this
    rw [← e0,← e0']
   ·have ⟨g,hc⟩:h.objs.get r'=some a'∧_:=h1'.elim (fun k=>⟨k.1,Or.inl k.2⟩) (fun k=>⟨k.1,Or.inr k.2⟩)
    exact mixed r0 a0 r r' a' d n d' n' hl e0 h0 e g e' hc
  ·have ⟨g,hc⟩:h.objs.get r=some a∧((∀ r0 a0,hs.objs.get r0=some a0→σ r0 ≠ r)∨∃ r0 a0 a1,r0<hs.next∧σ r0=r∧hs.objs.get r0=some a0∧ownO a0=false∧hs'.objs.get r0=some a1):=h1.elim (fun k=>⟨k.1,Or.inl k.2⟩) (fun k=>⟨k.1,Or.inr k.2⟩)
   rcases F.obj r' a' hr' with⟨r0',a0',hl',e0',h0',_⟩ | h1'
   ·exact(mixed r0' a0' r' r a d' n' d n hl' e0' h0' e' g e hc).symm
   ·have g':h.objs.get r'=some a':=h1'.elim (fun k=>k.1) (fun k=>k.1)
    rw [old1 r a g] at e
    rw [old1 r' a' g'] at e'
    exact(p.hr.inj r r' a a' b d n d' n' g g' e e').resolve_right hS
 ·have old1:∀ r a,h.objs.get r=some a→ρ' r=ρ r:=fun r a hg=>hold r (p.get_lt hg)
  rcases F.obj r a hr with⟨r0,a0,hl,e0,h0,hro⟩ | ⟨h1,_⟩ | ⟨h1,_⟩
  ·exact hro.sh' (q.hr.sh r0 a0 b d n h0 (himg r0 a0 h0 hl r b d n e0 e) hS)
  ·exact p.hr.sh r a b d n h1 (by rw [← old1 r a h1];exact e) hS
  ·exact p.hr.sh r a b d n h1 (by rw [← old1 r a h1];exact e) hS
 ·rintro b ⟨r,a,d,n,hr,ho,e⟩
  have old1:∀ r a,h.objs.get r=some a→ρ' r=ρ r:=fun r a hg=>hold r (p.get_lt hg)
  rcases F.obj r a hr with⟨r0,a0,hl,e0,h0,hro⟩ | ⟨h1,_⟩ | ⟨h1,_⟩
  ·have es:=himg r0 a0 h0 hl r b d n e0 e
   rcases q.own b ⟨r0,a0,d,n,h0,hro.own' ho,es⟩ with k | k
   ·exact .inl (E.own' k)
   ·exact .inr k
  ·exact .inl ⟨r,a,d,n,h1,ho,by rw [← old1 r a h1];exact e⟩
  ·exact .inl ⟨r,a,d,n,h1,ho,by rw [← old1 r a h1];exact e⟩
 ·rintro b ⟨r,a,d,n,hr,e⟩
  have old1:∀ r a,h.objs.get r=some a→ρ' r=ρ r:=fun r a hg=>hold r (p.get_lt hg)
  rcases F.obj r a hr with⟨r0,a0,hl,e0,h0,hro⟩ | ⟨h1,_⟩ | ⟨h1,_⟩
  ·have es:=himg r0 a0 h0 hl r b d n e0 e
   rcases q.inn b ⟨r0,a0,d,n,h0,es⟩ with k | k
   ·obtain⟨r1,a1,a1',d1,n1,k1,_,k2,k3⟩:=E.nam k
    exact .inl ⟨_,_,_,_,k2,k3⟩
   ·exact .inr k
  ·exact .inl ⟨r,a,d,n,h1,by rw [← old1 r a h1];exact e⟩
  ·exact .inl ⟨r,a,d,n,h1,by rw [← old1 r a h1];exact e⟩
theorem CallSpec.frame(hη:OneCells η){f:FuncId}{args args':List Value}{hs h:AH}{σ:Nat→Nat}{Q1 Q:Value→AH→Prop}(c:CallSpec η P B f args hs Q1)(E:Emb P σ hs h)(ha:L2 (RV σ hs.next true) args args')
  (k:∀ v hs',Q1 v hs'→hs.next≤hs'.next→∃ v' h',Q v' h'∧RV (sg σ hs.next h.next) hs'.next false v v'∧Framed σ hs h hs' h'):CallSpec η P B f args' h Q:=by
 intro ρ xs w cs l p
 obtain⟨v,hs',ρs',fr',w',x,q1,q,hv,r⟩:=c (cut σ hs.next ρ) xs w cs (lr_dn hη cut_dn ha l) (E.pre hη p)
 obtain⟨v',h',hq,hrv,F⟩:=k v hs' q1 q.next
 obtain⟨ρ',hp,hup⟩:=E.post hη p q F
 exact⟨v',h',ρ',fr',w',x,hq,hp,hrv.up hup hv,r⟩
end Go.Ev

namespace Go.Ev
variable {η:Nat→Value} {P:Program} {B:Bd}
inductive RI (σ:Nat→Nat) (N:Nat):Item→Item→Prop
 | code (c:Code):RI σ N (.code c) (.code c)
 | inBlock (i:Nat):RI σ N (.inBlock i) (.inBlock i)
 | inLoop (c:Code):RI σ N (.inLoop c) (.inLoop c)
 | inScope (c:Code):RI σ N (.inScope c) (.inScope c)
 | inRegion (ops:Array Oper) (l:List Nat):RI σ N (.inRegion ops l) (.inRegion ops l)
 | inRangeFunc {l:Nat} (h:l<N):RI σ N (.inRangeFunc l) (.inRangeFunc (σ l))
 | endRangeFunc {l:Nat} (h:l<N):RI σ N (.endRangeFunc l) (.endRangeFunc (σ l))
 | beginRound:RI σ N .beginRound .beginRound
inductive RDf (σ:Nat→Nat) (N:Nat):Deferred→Deferred→Prop
 | coll {r:Nat} (h:r<N):RDf σ N { target:=.collected r,args:=#[] } { target:=.collected (σ r),args:=#[] }
def RRo(σ:Nat→Nat)(N:Nat):Option Nat→Option Nat→Prop
 | none,none=>True
 | some r,some r'=>r<N∧r'=σ r
 | _,_=>False
structure RFr (σ:Nat→Nat) (N:Nat) (f f':AF):Prop where
 fn:f.fn=f'.fn
 n:f.n=f'.n
 hi:∀ t,f.n≤t→f.tm.get t=none
 tm:∀ t,t<f.n→RV σ N true ((f.tm.get t).getD undef) ((f'.tm.get t).getD undef)
 todo:L2 (RI σ N) f.todo f'.todo
 defers:L2 (RDf σ N) f.defers f'.defers
 mode:f.mode=f'.mode∧(f'.mode = .run∨f'.mode = .returning)
 kind:f.kind=f'.kind
 round:RRo σ N f.round f'.round
theorem RFr.dn(hη:OneCells η){σ:Nat→Nat}{N:Nat}{ρs ρ:Env}(hn:∀ r t,r<N→ρ (σ r)=some t→ρs r=some t){f f':AF}(k:RFr σ N f f'){fr:Frame}(F:FrR η ρ f' fr):FrR η ρs f fr:=by
 refine⟨F.fn.trans k.fn.symm,⟨F.tm.1.trans k.n.symm,k.hi,fun t ht=>(k.tm t ht).dn hη hn (F.tm.2.2 t (by rw [← k.n];exact ht))⟩,?_,?_,?_,F.kind.trans k.kind.symm,?_⟩
 ·have key:∀ {a b:List Item},L2 (RI σ N) a b→∀ {l:List Item},L2 (ItR ρ) b l→L2 (ItR ρs) a l:=by
   intro a b h2
   induction h2 with
   | nil=>intro l h;cases h;exact .nil
   | cons a _ ih=>
    intro l h
    obtain⟨y,m,rfl,h1,h2⟩:=h.inv_cons
    refine .cons ?_ (ih h2)
    cases a with
    | inRangeFunc hl=>cases h1 with | inRangeFunc e=>exact .inRangeFunc (hn _ _ hl e)
    | endRangeFunc hl=>cases h1 with | endRangeFunc e=>exact .endRangeFunc (hn _ _ hl e)
    | code c=>cases h1;exact .code c
    | inBlock c=>cases h1;exact .inBlock c
    | inLoop c=>cases h1;exact .inLoop c
    | inScope c=>cases h1;exact .inScope c
    | inRegion a b=>cases h1;exact .inRegion a b
    | beginRound=>cases h1;exact .beginRound
  exact key k.todo F.todo
 ·have key:∀ {a b:List Deferred},L2 (RDf σ N) a b→∀ {l:List Deferred},L2 (DR η ρ) b l→L2 (DR η ρs) a l:=by
   intro a b h2
   induction h2 with
   | nil=>intro l h;cases h;exact .nil
   | cons a _ ih=>
    intro l h
    obtain⟨y,m,rfl,h1,h2⟩:=h.inv_cons
    refine .cons ?_ (ih h2)
    cases a with
    | coll hr=>
     obtain⟨ht,ha⟩:=h1
     obtain⟨yt,ya⟩:=y
     refine⟨?_,?_⟩
     ·cases yt <;> simp only [TgR] at ht ⊢
      obtain⟨d,n,e⟩:=ht
      exact⟨d,n,hn _ _ hr e⟩
     ·simp only at ha ⊢
      have he:ya.toList=[]:=LR.inv_nil ha
      rw [he];exact .nil
  exact key k.defers F.defers
 ·have h:=F.mode
  rw [k.mode.1]
  rcases k.mode.2 with e | e
  ·rw [e] at h ⊢
   generalize fr.mode=m at h
   cases h;exact .run
  ·rw [e] at h ⊢
   generalize fr.mode=m at h
   cases h;exact .returning
 ·have h:=F.round
  have h2:=k.round
  generalize fr.roundOf=r at h
  generalize f'.round=r1 at h h2
  generalize f.round=r2 at h2
  cases r2 with
  | none=>cases r1 with
   | none=>cases r with
    | none=>trivial
    | some b=>exact h
   | some b=>exact absurd h2 fun h=>h
  | some x=>cases r1 with
   | none=>exact absurd h2 fun h=>h
   | some y=>
    obtain⟨hx,rfl⟩:=h2
    cases r with
    | none=>exact h
    | some b=>obtain⟨d,n,e⟩:=h;exact⟨d,n,hn _ _ hx e⟩
theorem rfr_dn(hη:OneCells η){σ:Nat→Nat}{N:Nat}{ρs ρ:Env}(hn:∀ r t,r<N→ρ (σ r)=some t→ρs r=some t):∀ {a b:List AF},L2 (RFr σ N) a b→∀ {l:List Frame},L2 (FrR η ρ) b l→L2 (FrR η ρs) a l:=by
 intro a b k
 induction k with
 | nil=>intro l h;cases h;exact .nil
 | cons a _ ih=>
  intro l h
  obtain⟨y,m,rfl,h1,h2⟩:=h.inv_cons
  exact .cons (a.dn hη hn h1) (ih h2)
theorem Run.ren(hη:OneCells η){fn:FuncId}{h0:AH}{f f':AF}{gs gs':List AF}{hs h:AH}{Q:Value→AH→Prop}(σ:Nat→Nat)(E:Emb P σ hs h)(hn:h0.next≤hs.next)(hσ:∀ r,r<h0.next→σ r=r)(k:RFr σ hs.next f f')(kg:L2 (RFr σ hs.next) gs gs')(r:Run η P B fn h0 ⟨f,gs,hs⟩ Q):Run η P B fn h0 ⟨f',gs',h⟩ Q:=by
 intro ρ0 w0 ρ fr cs w cs0 p0 p R
 have hC:L2 (FrR η ρ) gs' cs:=R.cs
 have hP:Pre η P ρ B h w:=R.pre
 have hcs:L2 (FrR η (cut σ hs.next ρ)) gs cs:=rfr_dn hη cut_dn kg hC
 have hP':=E.pre hη hP
 have hold:∀ r,r<h0.next→cut σ hs.next ρ r=ρ0 r:=by
  intro r hr
  unfold cut
  rw [if_pos (by omega),hσ r hr]
  exact p.old r hr
 refine r ρ0 w0 (cut σ hs.next ρ) fr cs w cs0 p0 ⟨?_,hold,hP'.fresh,hn,hP'.hr,p.fr,?_,?_⟩ ⟨k.dn hη cut_dn R.fr,hcs,hP'⟩
 ·intro r t hr
  rcases Nat.lt_or_ge r h0.next with hl | hl
  ·rw [hold r hl];exact hr
  ·rw [p0.fresh r hl] at hr;cases hr
 ·intro b hb
  exact p.own b (E.own' hb)
 ·rintro b hb
  obtain⟨r1,a1,a1',d1,n1,k1,_,k2,k3⟩:=E.nam hb
  exact p.inn b ⟨_,_,_,_,k2,k3⟩
theorem CallSpec.forget(hη:OneCells η){f:FuncId}{args:List Value}{h:AH}{Q1 Q:Value→AH→Prop}(c:CallSpec η P B f args h Q1)
  (k:∀ v h1,Q1 v h1→h.next≤h1.next→∃ σ v' h',Q v' h'∧Emb P σ h' h1∧h.next≤h'.next∧(∀ r,r<h.next→σ r=r)∧RV σ h'.next true v' v):CallSpec η P B f args h Q:=by
 intro ρ xs w cs l p
 obtain⟨v,h1,ρ1,fr',w',x,q1,q,hv,r⟩:=c ρ xs w cs l p
 obtain⟨σ,v',h',hq,E,hn,hσ,hrv⟩:=k v h1 q1 q.next
 have hP':=E.pre hη (p.post q)
 have hold:∀ r,r<h.next→cut σ h'.next ρ1 r=ρ r:=by
  intro r hr
  unfold cut
  rw [if_pos (by omega),hσ r hr]
  exact q.old r hr
 refine⟨v',h',cut σ h'.next ρ1,fr',w',x,hq,⟨?_,hold,hP'.fresh,hn,hP'.hr,q.fr,?_,?_⟩,hrv.dn hη cut_dn hv,r⟩
 ·intro r t hr
  rcases Nat.lt_or_ge r h.next with hl | hl
  ·rw [hold r hl];exact hr
  ·rw [p.fresh r hl] at hr;cases hr
 ·intro b hb
  exact q.own b (E.own' hb)
 ·rintro b hb
  obtain⟨r1,a1,a1',d1,n1,k1,_,k2,k3⟩:=E.nam hb
  exact q.inn b ⟨_,_,_,_,k2,k3⟩
def heapN(n:Nat):AH:={ objs:=.nil,next:=n }
theorem emb_nil{P:Program}{σ:Nat→Nat}{N:Nat}{h:AH}(hN:P.globals.size<N)(hσ:∀ g,g≤P.globals.size→σ g=g):Emb P σ (heapN N) h:=
 ⟨fun g hg=>⟨(by show g<N;omega),hσ g hg⟩,(fun r a hr=>by cases hr),(fun r r' a a' hr=>by cases hr)⟩
theorem CallSpec.pure(hη:OneCells η){f:FuncId}{args:List Value}{N:Nat}{v:Value}(hN:P.globals.size<N)(ha:∀ σ M,L2 (RV σ M true) args args)(hv:∀ σ M,RV σ M false v v)(c:CallSpec η P B f args (heapN N) fun v1 h1=>v1=v∧h1=heapN N)(h:AH) :
  CallSpec η P B f args h fun v1 h1=>v1=v∧h1=h:=by
 refine c.frame (σ:=fun r=>r) hη (emb_nil hN fun _ _=>rfl) (ha _ _) ?_
 rintro v1 hs' ⟨rfl,rfl⟩ _
 refine⟨v1,h,⟨rfl,rfl⟩,hv _ _,⟨by simp [heapN],fun r a hr=>.inr (.inl ⟨hr,fun r0 a0 h0=>by cases h0⟩)⟩⟩
end Go.Ev

namespace Go.Ev
variable {η:Nat→Value} {P:Program} {B:Bd}
theorem Run.op(hη:OneCells η){nest:Nest}(hreg:RegOk η P B nest){fn:FuncId}{h0 h h':AH}{f f2:AF}{cs:List AF}{ops:Array Oper}{i:Nat}{rest:List Nat}{k:List Item}{o:Oper}{v:Value}{Q:Value→AH→Prop}(hm:f.mode = .run)(ht:f.todo = .inRegion ops (i :: rest) :: k)
  (ho:ops.toList[i]? = some o) (hw:wantedA ops.toList f.tm o = .ok true) (hx:execA P (evA f.tm) o h = .ok (.value v,h')) (hf:f.finish v = .ok f2) (r:Run η P B fn h0 ⟨f2,cs,h'⟩ Q):Run η P B fn h0 ⟨f,cs,h⟩ Q:=by
 have hs:stepA P nest ⟨f,cs,h⟩ = .ok (.next ⟨f2,cs,h'⟩):=by
  unfold stepA
  simp only [hm,ht,ho,hw,hx,afterA,hf,bind,Except.bind,if_true]
 exact .step hη hreg hs r
theorem exec_read{ρ:Operand→Value}{o:Oper}{h:AH}{v:Value}(hok:okOps P o=true)(hk:kindOf P o.op = .read)(hr:readA P ρ o h = .ok v):execA P ρ o h = .ok (.value v,h):=by
 unfold execA
 rw [hok,hk]
 simp only [Bool.not_true,Bool.false_eq_true,if_false,hr]
 rfl
end Go.Ev
namespace Go.Ev
variable {η:Nat→Value} {P:Program} {B:Bd}
def fillT(tm:T Value):Nat→T Value
 | 0=>tm
 | n+1=>(fillT tm n).set n ((tm.get n).getD undef)
theorem fillT_get(tm:T Value):∀ (n t:Nat),(fillT tm n).get t=if t<n then some ((tm.get t).getD undef) else tm.get t
 | 0,t=>by simp [fillT]
 | n+1,t=>by
  rw [fillT,T.get_set,fillT_get tm n]
  by_cases h:t=n
  ·subst h;simp
  ·rw [if_neg h]
   by_cases h2:t<n
   ·rw [if_pos h2,if_pos (by omega)]
   ·rw [if_neg h2,if_neg (by omega)]
theorem Run.fill{fn:FuncId}{h0 h:AH}{f:AF}{cs:List AF}{Q:Value→AH→Prop}(r:Run η P B fn h0 ⟨{ f with tm:=fillT f.tm f.n },cs,h⟩ Q):Run η P B fn h0 ⟨f,cs,h⟩ Q:=by
 intro ρ0 w0 ρ fr cs' w cs0 p0 p R
 refine r ρ0 w0 ρ fr cs' w cs0 p0 p ⟨⟨R.fr.fn,⟨R.fr.tm.1,fun t ht=>?_,fun t ht=>?_⟩,R.fr.todo,R.fr.defers,R.fr.mode,R.fr.kind,R.fr.round⟩,R.cs,R.pre⟩
 ·have:=R.fr.tm.2.1 t ht
  simp only [fillT_get]
  rw [if_neg (by have:f.n≤t:=ht;omega)];exact this
 ·have:=R.fr.tm.2.2 t ht
  simp only [fillT_get]
  rw [if_pos (show t<f.n from ht)];exact this
def tL{α:Type}:List (Nat × α)→T α
 | []=>.nil
 | (t,v) :: l=>(tL l).set t v
def hL(l:List (Nat × AObj))(n:Nat):AH:=⟨tL l,n⟩
def begin'(P:Program)(f:FuncId)(args:List Value)(h:AH):M AS:=do
 let fr ← enterA P f args .normal
 .ok ⟨{ fr with tm:=fillT fr.tm fr.n },[],h⟩
theorem CallSpec.start{f:FuncId}{args:List Value}{h:AH}{s:AS}{Q:Value→AH→Prop}(he:begin' P f args h = .ok s)(r:Run η P B f h s Q):CallSpec η P B f args h Q:=by
 simp only [begin',bind_ok] at he
 obtain⟨fr,he,h1⟩:=he
 rw [okk] at h1;subst h1
 exact .enter he (.fill r)
end Go.Ev
namespace Go.Ev
variable {η:Nat→Value} {P:Program} {B:Bd}
def inT(tm:T Value)(t:Nat):Value:=(tm.get t).getD undef
theorem Run.loop(hη:OneCells η){nest:Nest}(hreg:RegOk η P B nest){fn:FuncId}{h0 h:AH}{f:AF}{cs:List AF}{body:Code}{k:List Item}{Q:Value→AH→Prop}(hm:f.mode = .run)(ht:f.todo = .code (.loop body) :: k∨f.todo = .inLoop body :: k)
  (r:Run η P B fn h0 ⟨{ f with todo:=.code body :: .inLoop body :: k },cs,h⟩ Q):Run η P B fn h0 ⟨f,cs,h⟩ Q:=by
 have hs:stepA P nest ⟨f,cs,h⟩ = .ok (.next ⟨{ f with todo:=.code body :: .inLoop body :: k },cs,h⟩):=by
  unfold stepA
  rcases ht with ht | ht <;> simp only [hm,ht]
 exact .step hη hreg hs r
theorem l2_same{σ:Nat→Nat}{N:Nat}{wk:Bool}:∀ {c:List Value},(∀ v,v ∈ c→RV σ N wk v v)→L2 (RV σ N wk) c c
 | [],_=>.nil
 | v :: c,h=>.cons (h v (by simp)) (l2_same fun x hx=>h x (by simp [hx]))
end Go.Ev

namespace Go.Ev
variable {η:Nat→Value} {P:Program} {B:Bd}

inductive KT where
 | ret (v:Value) (h:AH)
 | ite (b:Bool) (x y:KT)
 | know (p:Prop) (x:KT)
def KT.sat:KT→Value→AH→Prop
 | .ret v0 h0,v,h=>v=v0∧h=h0
 | .ite b x y,v,h=>(b=true∧x.sat v h)∨(b=false∧y.sat v h)
 | .know p x,v,h=>p∧x.sat v h
inductive W where
 | ite (b:Bool) (x y:W)
 | need (p:Prop) (x:W)
 | know (p:Prop) (x:W)
 | call (f:FuncId) (args:List Value) (h:AH) (k:KT) (x:W)
 | stop (keep:List Nat) (s:AS)
 | done (f:FuncId) (v:Value) (h:AH)
 | fail (m:String)
def W.holds(η:Nat→Value)(P:Program)(B:Bd)(fn:FuncId)(K:List Nat→AS→Prop)(D:Value→AH→Prop):W→Prop
 | .ite b x y=>(b=true→x.holds η P B fn K D)∧(b=false→y.holds η P B fn K D)
 | .need p x=>p∧(p→x.holds η P B fn K D)
 | .know p x=>p→x.holds η P B fn K D
 | .call f args h k x=>CallSpec η P B f args h k.sat∧x.holds η P B fn K D
 | .stop l s=>K l s
 | .done f v h=>f=fn∧D v h
 | .fail _=>False

def intAt(c:List Value)(i:Nat):Int:=match c[i]? with | some (.int _ n)=>n | _=>0
def strAt(c:List Value)(i:Nat):List UInt8:=match c[i]? with | some (.string s)=>s.data.toList | _=>[]
def boolAt(c:List Value)(i:Nat):Bool:=match c[i]? with | some (.bool b)=>b | _=>false
def sEq2(a b c d:ByteArray):Bool:=a.data.toList == c.data.toList && b.data.toList == d.data.toList
def strF(P:Program)(f:Field):Bool:=f.name != "_" && (match P.underlying f.type with | some .string=>true | _=>false)
def twoS(P:Program)(t:TypeId):Bool:=match P.underlying t with
 | some (.struct ⟨[f,g]⟩)=>strF P f && strF P g && f.offset == 0 && g.offset == 1 && !P.stoodInHeld t && !P.eqGuardType P.depth t
 | _=>false
theorem eqA_two{h:AH}{t:TypeId}{a b c d:ByteArray}(hq:twoS P t=true):eqA P h 10000 t (.agg ⟨[.string a,.string b]⟩) (.agg ⟨[.string c,.string d]⟩) = .ok (sEq2 a b c d)∧P.eqGuardType P.depth t=false:=by
 unfold twoS at hq
 split at hq
 ·rename_i f g hu
  simp only [Bool.and_eq_true,strF,bne_iff_ne,ne_eq,Bool.not_eq_true',beq_iff_eq] at hq
  obtain⟨⟨⟨⟨⟨⟨hn,hf⟩,hn',hg⟩,ho⟩,ho'⟩,hs⟩,he⟩:=hq
  refine⟨?_,he⟩
  have uf:P.underlying f.type=some .string:=by split at hf <;> simp_all
  have ug:P.underlying g.type=some .string:=by split at hg <;> simp_all
  show eqA P h (9998+1+1) t _ _=_
  unfold eqA
  simp only [undA,hu,orNo,bind,Except.bind,hs,Bool.false_eq_true,if_false,eqFields,hn,hn',partA,isAggA,uf,ug,ho,ho',List.getElem?_cons_zero,List.getElem?_cons_succ,List.drop]
  unfold eqA
  simp only [undA,uf,ug,orNo,bind,Except.bind]
  unfold sEq2
  cases (a.data.toList == c.data.toList) <;> cases (b.data.toList == d.data.toList) <;> simp
 ·cases hq
def intF(P:Program)(f:Field):Bool:=f.name != "_" && (match P.underlying f.type with | some (.int _)=>true | _=>false)
def twoI(P:Program)(t:TypeId):Bool:=match P.underlying t with
 | some (.struct ⟨[f,g]⟩)=>intF P f && intF P g && f.offset == 0 && g.offset == 1 && !P.stoodInHeld t && !P.eqGuardType P.depth t
 | _=>false
theorem eqA_twoI{h:AH}{t:TypeId}{k l:IntKind}{a b c d:Int}(hq:twoI P t=true):eqA P h 10000 t (.agg ⟨[.int k a,.int l b]⟩) (.agg ⟨[.int k c,.int l d]⟩) = .ok (a == c && b == d)∧P.eqGuardType P.depth t=false:=by
 unfold twoI at hq
 split at hq
 ·rename_i f g hu
  simp only [Bool.and_eq_true,intF,bne_iff_ne,ne_eq,Bool.not_eq_true',beq_iff_eq] at hq
  obtain⟨⟨⟨⟨⟨⟨hn,hf⟩,hn',hg⟩,ho⟩,ho'⟩,hs⟩,he⟩:=hq
  refine⟨?_,he⟩
  obtain⟨kf,uf⟩:∃ kf,P.underlying f.type=some (.int kf):=by split at hf <;> simp_all
  obtain⟨kg,ug⟩:∃ kg,P.underlying g.type=some (.int kg):=by split at hg <;> simp_all
  show eqA P h (9998+1+1) t _ _=_
  unfold eqA
  simp only [undA,hu,orNo,bind,Except.bind,hs,Bool.false_eq_true,if_false,eqFields,hn,hn',partA,isAggA,uf,ug,ho,ho',List.getElem?_cons_zero,List.getElem?_cons_succ,List.drop]
  unfold eqA
  simp only [undA,uf,ug,orNo,bind,Except.bind,if_true]
  cases (a == c) <;> cases (b == d) <;> simp
 ·cases hq
section
variable (P:Program)
def cellTypes:Nat→TypeId→M (List TypeId)
 | 0,_=>no "cellTypes"
 | n+1,t=>do
  match ← undA P t with
  | .struct fs=>fs.toList.foldlM (fun acc f=>do .ok (acc ++ (← cellTypes n f.type))) []
  | .array k e=>do .ok ((List.replicate k (← cellTypes n e)).flatten)
  | _=>.ok [t]
def cellTyped(c:List Value)(t:TypeId)(i:Nat):M Value:=do
 match ← undA P t with
 | .int k=>.ok (.int k (intAt c i))
 | .string=>.ok (strL (strAt c i))
 | .bool=>.ok (.bool (boolAt c i))
 | _=>no "a cell of another type"
def cellsTyped(c:List Value):List TypeId→Nat→M (List Value)
 | [],_=>.ok []
 | t :: ts,i=>do .ok ((← cellTyped P c t i) :: (← cellsTyped c ts (i+1)))
def wLoad(ρ:Operand→Value)(t:TypeId)(x:Operand)(h:AH):M (Prop × Value × AH):=do
 let a ← addrA (ρ x)
 let (_,c,_,_) ← cellsAt h a.block
 if ← isAggA P t then
  let n ← sizeA P t
  let ts ← cellTypes P 20 t
  let vs ← cellsTyped P c ts a.off
  .ok (a.off+n≤c.length∧(c.drop a.off).take n=vs,aggL vs,h)
 else do
  let v ← cellTyped P c t a.off
  .ok (c[a.off]? = some v,v,h)
def wStore(ρ:Operand→Value)(t:TypeId)(x y:Operand)(h:AH):M (Prop × Value × AH):=do
 let a ← addrA (ρ x)
 let vs:=cellsL (ρ y)
 let (ty,c,p,own) ← cellsAt h a.block
 if vs.length ≠ (← sizeA P t)∨vs.isEmpty=true∨own ≠ 2∨vs.all oneC=false then no "store" else
 .ok (a.off+vs.length≤c.length,undef,putA h a.block (.cells ty (splice c a.off vs) p 2))
def wIndexAddr(ρ:Operand→Value)(t:TypeId)(x ix:Operand)(h:AH):M (Prop × Value × AH):=do
 let i ← intOfA (ρ ix)
 match ← undA P t,ρ x with
 | .array len elem,.pointer (some a)=>do
  let n ← sizeA P elem
  if a.spot=none then .ok (0≤i∧i<len,.pointer (some (addO a (i.toNat * n))),h) else no "spot"
 | .slice elem,.slice (some a) len _=>do
  let n ← sizeA P elem
  .ok (0≤i∧i<len,.pointer (some (addO a (i.toNat * n))),h)
 | _,_=>no "index"
def byteAt(l:List UInt8)(i:Int):Int:=((l[i.toNat]?).getD 0).toNat
def wIndex(ρ:Operand→Value)(t:TypeId)(x ix:Operand)(h:AH):M (Prop × Value × AH):=do
 let i ← intOfA (ρ ix)
 match ← undA P t,ρ x with
 | .string,.string s=>.ok (0≤i∧i<s.data.toList.length,.int .u8 (byteAt s.data.toList i),h)
 | _,_=>no "index"
def wInt(v:Option Value)(d:Int):M Int:=match v with
 | none=>.ok d
 | some v=>intOfA v
def capP(c:Nat)(p q:Prop):Prop:=if isU c=true then p else q
def capN(c p q:Nat):Nat:=if isU c=true then p else q
def cutN(c l size:Nat):Nat:=if c=l then 0 else l * size
theorem capP_no{c:Nat}(h:isU c=false)(p q:Prop):capP c p q=q:=by unfold capP;rw [h];rfl
theorem capN_no{c:Nat}(h:isU c=false)(p q:Nat):capN c p q=q:=by unfold capN;rw [h];rfl
def wSlice(ρ:Operand→Value)(t:TypeId)(x:Operand)(lo hi mx:Option Operand)(h:AH):M (Prop × Value × AH):=do
 match ← undA P t,ρ x,mx with
 | .string,.string s,none=>do
  let l ← wInt (lo.map ρ) 0
  let u ← wInt (hi.map ρ) s.data.toList.length
  .ok (0≤l∧l≤u∧u≤s.data.toList.length,strL ((s.data.toList.drop l.toNat).take (u.toNat - l.toNat)),h)
 | .slice elem,.slice (some a) len cap,none=>do
  let l ← wInt (lo.map ρ) 0
  let u ← wInt (hi.map ρ) len
  let size ← sizeA P elem
  if a.spot ≠ none then no "spot" else
  .ok (0≤l∧l≤u∧capP cap (cap=capU size∧size ≠ 0∧u≤len∧(l<len∨l=0)) (u≤cap),.slice (some (addO a (capN cap (l.toNat * size) (cutN cap l.toNat size)))) (u.toNat - l.toNat) (capN cap cap (cap - l.toNat)),h)
 | .slice elem,.slice (some a) len cap,some m=>do
  match hi with
  | none=>no "slice"
  | some hi=>do
   let l ← wInt (lo.map ρ) 0
   let u ← intOfA (ρ hi)
   let m ← intOfA (ρ m)
   let size ← sizeA P elem
   if a.spot ≠ none then no "spot" else
   .ok (0≤l∧l≤u∧u≤m∧m<9223372036854775808∧capP cap (cap=capU size∧size ≠ 0∧m≤len) (m≤cap),.slice (some (addO a (cutN m.toNat l.toNat size))) (u.toNat - l.toNat) (m.toNat - l.toNat),h)
 | _,_,_=>no "slice"
def wBin(ρ:Operand→Value)(op:BinOp)(t:TypeId)(x y:Operand)(h:AH):M (Prop × Value × AH):=
 match ρ x,ρ y,op with
 | .int k a,.int k' b,.quo=>if k=k' then .ok (b ≠ 0,.int k (k.wrap (a.tdiv b)),h) else no "kinds"
 | .int k a,.int k' b,.rem=>if k=k' then .ok (b ≠ 0,.int k (a.tmod b),h) else no "kinds"
 | .int k a,.int _ b,.shl=>.ok (0≤b,.int k (k.wrap (a * 2 ^ (min b.toNat k.bits))),h)
 | .int k a,.int _ b,.shr=>.ok (0≤b,.int k (a.fdiv (2 ^ (min b.toNat k.bits))),h)
 | .string a,.string b,.add=>.ok (a.data.toList.length+b.data.toList.length≤9223372036854775807,strL (a.data.toList ++ b.data.toList),h)
 | .agg ⟨[.string a,.string b]⟩,.agg ⟨[.string c,.string d]⟩,.eql=>if twoS P t then .ok (True,.bool (sEq2 a b c d),h) else no "binop"
 | .agg ⟨[.string a,.string b]⟩,.agg ⟨[.string c,.string d]⟩,.neq=>if twoS P t then .ok (True,.bool (!sEq2 a b c d),h) else no "binop"
 | .agg ⟨[.int k a,.int l b]⟩,.agg ⟨[.int k' c,.int l' d]⟩,.eql=>if twoI P t=true∧k=k'∧l=l' then .ok (True,.bool (a == c && b == d),h) else no "binop"
 | .agg ⟨[.int k a,.int l b]⟩,.agg ⟨[.int k' c,.int l' d]⟩,.neq=>if twoI P t=true∧k=k'∧l=l' then .ok (True,.bool (!(a == c && b == d)),h) else no "binop"
 | _,_,_=>no "binop"
end

theorem exec_eff{ρ:Operand→Value}{o:Oper}{h:AH}{r:AN × AH}(hok:okOps P o=true)(hk:kindOf P o.op = .effect)(hr:effA P ρ o h = .ok r):execA P ρ o h = .ok r:=by
 unfold execA
 rw [hok,hk]
 simp only [Bool.not_true,Bool.false_eq_true,if_false,hr]
theorem wLoad_ok{ρ:Operand→Value}{o:Oper}{t:TypeId}{x:Operand}{h h':AH}{p:Prop}{v:Value}(ho:o.op = .load t x)(hw:wLoad P ρ t x h = .ok (p,v,h'))(hp:p):readA P ρ o h = .ok v∧h'=h:=by
 unfold wLoad at hw
 simp only [bind_ok] at hw
 obtain⟨a,ha,⟨ty,c,pl,own⟩,hc,g,hg,hw⟩:=hw
 have hsp:a.spot=none:=by
  unfold addrA at ha
  split at ha
  ·split at ha
   ·rename_i h1;rw [okk] at ha;subst ha;exact h1
   ·simp [no] at ha
  ·simp [no] at ha
 cases g with
 | true=>
  simp only [if_true,bind_ok] at hw
  obtain⟨n,hn,ts,_,vs,_,hw⟩:=hw
  rw [okk] at hw
  injection hw with e1 e2
  injection e2 with e2 e3
  subst e1;subst e2;subst e3
  refine⟨?_,rfl⟩
  unfold readA
  simp only [ho,ha,loadA,hg,hn,bind,Except.bind,if_true,getC,hc]
  rw [if_pos ⟨hp.1,hsp⟩]
  simp only [hp.2]
 | false=>
  simp only [Bool.false_eq_true,if_false,bind_ok] at hw
  obtain⟨v1,_,hw⟩:=hw
  rw [okk] at hw
  injection hw with e1 e2
  injection e2 with e2 e3
  subst e1;subst e2;subst e3
  refine⟨?_,rfl⟩
  have hl:=(List.getElem?_eq_some_iff.1 hp).1
  have hd:(c.drop a.off).take 1=[v1]:=by
   rw [List.drop_eq_getElem_cons hl]
   simp [(List.getElem?_eq_some_iff.1 hp).2]
  unfold readA
  simp only [ho,ha,loadA,hg,bind,Except.bind,Bool.false_eq_true,if_false,getC,hc]
  rw [if_pos ⟨by omega,hsp⟩]
  simp only [hd]
theorem addr_spot{v:Value}{a:Addr}(ha:addrA v = .ok a):a.spot=none:=by
 unfold addrA at ha
 split at ha
 ·split at ha
  ·rename_i h1;rw [okk] at ha;subst ha;exact h1
  ·simp [no] at ha
 ·simp [no] at ha
theorem wStore_ok{ρ:Operand→Value}{o:Oper}{t:TypeId}{x y:Operand}{h h':AH}{p:Prop}{v:Value}(ho:o.op = .store t x y)(hw:wStore P ρ t x y h = .ok (p,v,h'))(hp:p):effA P ρ o h = .ok (.skip,h')∧v=undef:=by
 unfold wStore at hw
 simp only [bind_ok] at hw
 obtain⟨a,ha,⟨ty,c,pl,own⟩,hc,n,hn,hw⟩:=hw
 have hsp:=addr_spot ha
 simp only at hw
 split at hw
 ·simp [no] at hw
 ·rename_i hcond
  rw [okk] at hw
  injection hw with e1 e2
  injection e2 with e2 e3
  subst e1;subst e2;subst e3
  refine⟨?_,rfl⟩
  have h1:(cellsL (ρ y)).length=n:=Decidable.byContradiction fun hh=>hcond (.inl hh)
  have h2:¬ (cellsL (ρ y)).isEmpty=true:=fun hh=>hcond (.inr (.inl hh))
  have h3:own=2:=Decidable.byContradiction fun hh=>hcond (.inr (.inr (.inl hh)))
  have h4:(cellsL (ρ y)).all oneC=true:=by
   cases hq:(cellsL (ρ y)).all oneC with
   | true=>rfl
   | false=>exact absurd (.inr (.inr (.inr hq))) hcond
  have hst:storeC h a (cellsL (ρ y)) = .ok (putA h a.block (.cells ty (splice c a.off (cellsL (ρ y))) pl 2)):=by
   unfold storeC
   split
   ·rename_i he;rw [he] at h2;simp at h2
   ·rw [hc]
    simp only
    rw [if_pos ⟨h3,hp,hsp,h4⟩]
  unfold effA
  simp only [ho,ha,bind,Except.bind,storeA,hn]
  rw [if_neg (by rw [h1];simp),hst]
theorem wIndexAddr_ok{ρ:Operand→Value}{o:Oper}{t:TypeId}{x y:Operand}{h h':AH}{p:Prop}{v:Value}(ho:o.op = .indexAddr t x y)(hw:wIndexAddr P ρ t x y h = .ok (p,v,h'))(hp:p):readA P ρ o h = .ok v∧h'=h:=by
 unfold wIndexAddr at hw
 simp only [bind_ok] at hw
 obtain⟨i,hi,d,hd,hw⟩:=hw
 split at hw
 ·rename_i len elem a hx
  simp only [bind_ok] at hw
  obtain⟨n,hn,hw⟩:=hw
  split at hw
  ·rename_i hs
   rw [okk] at hw
   injection hw with e1 e2
   injection e2 with e2 e3
   subst e1;subst e2;subst e3
   refine⟨?_,rfl⟩
   unfold readA
   simp only [ho,hi,hd,hx,hn,bind,Except.bind]
   rw [if_pos ⟨hp.1,hp.2,hs⟩]
  ·simp [no] at hw
 ·rename_i elem a len cap hx
  simp only [bind_ok] at hw
  obtain⟨n,hn,hw⟩:=hw
  rw [okk] at hw
  injection hw with e1 e2
  injection e2 with e2 e3
  subst e1;subst e2;subst e3
  refine⟨?_,rfl⟩
  unfold readA
  simp only [ho,hi,hd,hx,hn,bind,Except.bind]
  rw [if_pos hp]
 ·simp [no] at hw
theorem wIndex_ok{ρ:Operand→Value}{o:Oper}{t:TypeId}{x y:Operand}{h h':AH}{p:Prop}{v:Value}(ho:o.op = .index t x y)(hw:wIndex P ρ t x y h = .ok (p,v,h'))(hp:p):readA P ρ o h = .ok v∧h'=h:=by
 unfold wIndex at hw
 simp only [bind_ok] at hw
 obtain⟨i,hi,d,hd,hw⟩:=hw
 split at hw
 ·rename_i s hx
  rw [okk] at hw
  injection hw with e1 e2
  injection e2 with e2 e3
  subst e1;subst e2;subst e3
  refine⟨?_,rfl⟩
  have hlt:i.toNat<s.data.toList.length:=by omega
  unfold readA
  simp only [ho,hi,hd,hx,bind,Except.bind]
  rw [if_pos hp.1,List.getElem?_eq_getElem hlt]
  simp only [byteAt,List.getElem?_eq_getElem hlt,Option.getD_some]
 ·simp [no] at hw
theorem wBin_ok{ρ:Operand→Value}{o:Oper}{op:BinOp}{t yt:TypeId}{x y:Operand}{h h':AH}{p:Prop}{v:Value}(ho:o.op = .binOp op t x y yt)(hw:wBin P ρ op t x y h = .ok (p,v,h'))(hp:p):readA P ρ o h = .ok v∧h'=h:=by
 unfold wBin at hw
 split at hw
 ·rename_i k a k' b hx hy
  split at hw
  ·rename_i hk
   rw [okk] at hw
   injection hw with e1 e2
   injection e2 with e2 e3
   subst e1;subst e2;subst e3;subst hk
   refine⟨?_,rfl⟩
   unfold readA
   simp only [ho,hx,hy,guardOk,isEq,bind,Except.bind,binA,isShift,intA,if_true,Bool.false_eq_true,if_false]
   rw [if_neg hp]
  ·simp [no] at hw
 ·rename_i k a k' b hx hy
  split at hw
  ·rename_i hk
   rw [okk] at hw
   injection hw with e1 e2
   injection e2 with e2 e3
   subst e1;subst e2;subst e3;subst hk
   refine⟨?_,rfl⟩
   unfold readA
   simp only [ho,hx,hy,guardOk,isEq,bind,Except.bind,binA,isShift,intA,if_true,Bool.false_eq_true,if_false]
   rw [if_neg hp]
  ·simp [no] at hw
 ·rename_i k a k' b hx hy
  rw [okk] at hw
  injection hw with e1 e2
  injection e2 with e2 e3
  subst e1;subst e2;subst e3
  refine⟨?_,rfl⟩
  unfold readA
  simp only [ho,hx,hy,guardOk,isEq,bind,Except.bind,binA,isShift,shiftA,if_true]
  rw [if_neg (by omega)]
 ·rename_i k a k' b hx hy
  rw [okk] at hw
  injection hw with e1 e2
  injection e2 with e2 e3
  subst e1;subst e2;subst e3
  refine⟨?_,rfl⟩
  unfold readA
  simp only [ho,hx,hy,guardOk,isEq,bind,Except.bind,binA,isShift,shiftA,if_true]
  rw [if_neg (by omega)]
 ·rename_i a b hx hy
  rw [okk] at hw
  injection hw with e1 e2
  injection e2 with e2 e3
  subst e1;subst e2;subst e3
  refine⟨?_,rfl⟩
  unfold readA
  have hs:strA .add a.data.toList b.data.toList = .ok (strL (a.data.toList ++ b.data.toList)):=if_pos hp
  have hb:∀ h:AH,binA P h .add t (.string a) (.string b)=strA .add a.data.toList b.data.toList:=fun _=>rfl
  rw [← hb h] at hs
  generalize Value.string a=u at hx hs
  generalize Value.string b=u2 at hy hs
  clear hp
  simp only [ho,hx,hy,guardOk,isEq,bind,Except.bind,if_true,hs]
 ·rename_i a b c d hx hy
  split at hw
  ·rename_i hq
   rw [okk] at hw
   injection hw with e1 e2
   injection e2 with e2 e3
   subst e1;subst e2;subst e3
   obtain⟨k1,k2⟩:=eqA_two (h:=h) (a:=a) (b:=b) (c:=c) (d:=d) hq
   refine⟨?_,rfl⟩
   have hb:binA P h .eql t (.agg ⟨[.string a,.string b]⟩) (.agg ⟨[.string c,.string d]⟩) = .ok (.bool (sEq2 a b c d)):=by
    unfold binA
    simp only [plainV,isEq,k1,bind,Except.bind,Bool.and_self,if_true]
    cases sEq2 a b c d <;> rfl
   unfold readA
   simp only [ho,hx,hy,guardOk,isEq,k2,Bool.not_false,bind,Except.bind,if_true,hb]
  ·simp [no] at hw
 ·rename_i a b c d hx hy
  split at hw
  ·rename_i hq
   rw [okk] at hw
   injection hw with e1 e2
   injection e2 with e2 e3
   subst e1;subst e2;subst e3
   obtain⟨k1,k2⟩:=eqA_two (h:=h) (a:=a) (b:=b) (c:=c) (d:=d) hq
   refine⟨?_,rfl⟩
   have hb:binA P h .neq t (.agg ⟨[.string a,.string b]⟩) (.agg ⟨[.string c,.string d]⟩) = .ok (.bool (!sEq2 a b c d)):=by
    unfold binA
    simp only [plainV,isEq,k1,bind,Except.bind,Bool.and_self,if_true]
    cases sEq2 a b c d <;> rfl
   unfold readA
   simp only [ho,hx,hy,guardOk,isEq,k2,Bool.not_false,bind,Except.bind,if_true,hb]
  ·simp [no] at hw
 ·rename_i k a l b k' c l' d hx hy
  split at hw
  ·rename_i hq
   obtain⟨hq,rfl,rfl⟩:=hq
   rw [okk] at hw
   injection hw with e1 e2
   injection e2 with e2 e3
   subst e1;subst e2;subst e3
   obtain⟨k1,k2⟩:=eqA_twoI (h:=h) (k:=k) (l:=l) (a:=a) (b:=b) (c:=c) (d:=d) hq
   refine⟨?_,rfl⟩
   have hb:binA P h .eql t (.agg ⟨[.int k a,.int l b]⟩) (.agg ⟨[.int k c,.int l d]⟩) = .ok (.bool (a == c && b == d)):=by
    unfold binA
    simp only [plainV,isEq,k1,bind,Except.bind,Bool.and_self,if_true]
    cases (a == c && b == d) <;> rfl
   unfold readA
   simp only [ho,hx,hy,guardOk,isEq,k2,Bool.not_false,bind,Except.bind,if_true,hb]
  ·simp [no] at hw
 ·rename_i k a l b k' c l' d hx hy
  split at hw
  ·rename_i hq
   obtain⟨hq,rfl,rfl⟩:=hq
   rw [okk] at hw
   injection hw with e1 e2
   injection e2 with e2 e3
   subst e1;subst e2;subst e3
   obtain⟨k1,k2⟩:=eqA_twoI (h:=h) (k:=k) (l:=l) (a:=a) (b:=b) (c:=c) (d:=d) hq
   refine⟨?_,rfl⟩
   have hb:binA P h .neq t (.agg ⟨[.int k a,.int l b]⟩) (.agg ⟨[.int k c,.int l d]⟩) = .ok (.bool (!(a == c && b == d))):=by
    unfold binA
    simp only [plainV,isEq,k1,bind,Except.bind,Bool.and_self,if_true]
    cases (a == c && b == d) <;> rfl
   unfold readA
   simp only [ho,hx,hy,guardOk,isEq,k2,Bool.not_false,bind,Except.bind,if_true,hb]
  ·simp [no] at hw
 ·simp [no] at hw
theorem wSlice_ok{ρ:Operand→Value}{o:Oper}{t:TypeId}{x:Operand}{lo hi mx:Option Operand}{h h':AH}{p:Prop}{v:Value}(ho:o.op = .slice t x lo hi mx)(hw:wSlice P ρ t x lo hi mx h = .ok (p,v,h'))(hp:p):readA P ρ o h = .ok v∧h'=h:=by
 unfold wSlice at hw
 simp only [bind_ok] at hw
 obtain⟨d,hd,hw⟩:=hw
 have key:∀ (v?:Option Value) (y:Nat) (n dflt:Int),wInt v? dflt = .ok n→∀ w,v? = some w→0≤n→n≤y→boundA w y = .ok n.toNat:=by
  intro v? y n dflt h1 w h2 h3 h4
  subst h2
  unfold wInt at h1
  simp only at h1
  unfold boundA
  simp only [h1,bind,Except.bind]
  rw [if_pos ⟨h3,h4⟩]
 have bw:∀ (len y:Nat) (lo hi:Option Value) (l u:Int),wInt lo 0 = .ok l→wInt hi len = .ok u→0≤l→l≤u→u≤y→boundsA len y lo hi none = .ok (l.toNat,u.toNat,y):=by
  intro len y lo hi l u hl hu p1 p2 p3
  unfold boundsA
  simp only [bind,Except.bind]
  cases hi with
  | none=>
   unfold wInt at hu;rw [okk] at hu
   simp only
   cases lo with
   | none=>
    unfold wInt at hl;rw [okk] at hl
    simp only
    rw [← hl,← hu];simp
   | some w=>
    simp only
    rw [key _ len l 0 hl w rfl p1 (by omega)]
    simp only
    rw [← hu];simp
  | some w2=>
   simp only
   rw [key _ y u _ hu w2 rfl (by omega) (by omega)]
   simp only
   cases lo with
   | none=>
    unfold wInt at hl;rw [okk] at hl
    simp only
    rw [← hl];simp
   | some w=>
    simp only
    rw [key _ u.toNat l 0 hl w rfl p1 (by omega)]
 split at hw
 ·rename_i s hx
  simp only [bind_ok] at hw
  obtain⟨l,hl,u,hu,hw⟩:=hw
  rw [okk] at hw
  injection hw with e1 e2
  injection e2 with e2 e3
  subst e1;subst e2;subst e3
  refine⟨?_,rfl⟩
  obtain⟨p1,p2,p3⟩:=hp
  have hsz:s.size=s.data.toList.length:=rfl
  unfold readA
  simp only [ho,hd,hx,sliceA,bind,Except.bind,Option.map_none,Option.isSome_none,Bool.false_eq_true,if_false]
  have hb:boundsA s.size s.size (lo.map ρ) (hi.map ρ) none = .ok (l.toNat,u.toNat,s.size):=by
   unfold boundsA
   simp only [bind,Except.bind]
   cases hhi:hi.map ρ with
   | none=>
    rw [hhi] at hu
    unfold wInt at hu;rw [okk] at hu
    simp only
    cases hlo:lo.map ρ with
    | none=>
     rw [hlo] at hl
     unfold wInt at hl;rw [okk] at hl
     simp only
     rw [← hl,← hu,hsz];simp
    | some w=>
     simp only
     rw [key _ s.size l 0 hl w hlo p1 (by omega)]
     simp only
     rw [← hu,hsz];simp
   | some w2=>
    simp only
    rw [key _ s.size u _ hu w2 hhi (by omega) (by omega)]
    simp only
    cases hlo:lo.map ρ with
    | none=>
     rw [hlo] at hl
     unfold wInt at hl;rw [okk] at hl
     simp only
     rw [← hl];simp
    | some w=>
     simp only
     rw [key _ u.toNat l 0 hl w hlo p1 (by omega)]
  rw [hb]
 ·rename_i elem a len cap hx
  simp only [bind_ok] at hw
  obtain⟨l,hl,u,hu,size,hsz,hw⟩:=hw
  rw [ite_no,okk] at hw
  obtain⟨hspot,hw⟩:=hw
  have hspot:a.spot=none:=Decidable.byContradiction hspot
  injection hw with e1 e2
  injection e2 with e2 e3
  subst e1;subst e2;subst e3
  refine⟨?_,rfl⟩
  obtain⟨p1,p2,p3⟩:=hp
  unfold readA
  simp only [ho,hd,hx,sliceA,bind,Except.bind,hsz,Option.map_none,Option.isNone_some,Bool.false_eq_true,false_and,if_false]
  cases hq:isU cap with
  | true=>
   unfold capP at p3
   simp only [hq,if_true] at p3 ⊢
   obtain⟨c2,c3,p3,p4⟩:=p3
   rw [bw len len _ _ _ _ hl hu p1 p2 p3]
   simp only
   rw [if_neg (by intro hh;rcases hh with hh | hh;exact hh c2;exact c3 hh)]
   simp only [Option.isSome_none,Bool.false_eq_true,if_false]
   rw [if_pos (by omega)]
   unfold capN
   simp only [hq,if_true]
   rfl
  | false=>
   rw [capP_no hq] at p3
   simp only [Bool.false_eq_true,if_false]
   rw [bw len cap _ _ _ _ hl hu p1 p2 p3]
   simp only
   unfold mkS
   have:isU (cap - l.toNat)=false:=by
    unfold isU at hq ⊢
    simp only [decide_eq_false_iff_not] at hq ⊢
    omega
   rw [this,capN_no hq,capN_no hq]
   unfold cutN
   simp only [Bool.false_eq_true,if_false]
   by_cases hc:cap=l.toNat
   ·rw [if_pos hc,if_pos hc]
    unfold addO
    rw [Nat.add_zero]
    cases a;simp only at hspot;rw [hspot]
   ·rw [if_neg hc,if_neg hc]
    rfl
 ·rename_i elem a len cap m hx
  cases hi with
  | none=>simp [no] at hw
  | some hi=>
   simp only [bind_ok] at hw
   obtain⟨l,hl,u,hu,m',hm,size,hsz,hw⟩:=hw
   rw [ite_no,okk] at hw
   obtain⟨hspot,hw⟩:=hw
   have hspot:a.spot=none:=Decidable.byContradiction hspot
   injection hw with e1 e2
   injection e2 with e2 e3
   subst e1;subst e2;subst e3
   refine⟨?_,rfl⟩
   obtain⟨p1,p2,p3,p4,p5⟩:=hp
   unfold readA
   have hw2:wInt (some (ρ hi)) 0 = .ok u:=hu
   have hw3:wInt (some (ρ m)) 0 = .ok m':=hm
   have b3:∀ y:Nat,m'≤y→boundsA len y (lo.map ρ) (some (ρ hi)) (some (ρ m)) = .ok (l.toNat,u.toNat,m'.toNat):=by
    intro y hy
    unfold boundsA
    simp only [bind,Except.bind]
    rw [key _ y m' 0 hw3 _ rfl (by omega) hy]
    simp only
    rw [key _ m'.toNat u 0 hw2 _ rfl (by omega) (by omega)]
    simp only
    cases hlo:lo.map ρ with
    | none=>
     rw [hlo] at hl
     unfold wInt at hl;rw [okk] at hl
     simp only
     rw [← hl];simp
    | some w=>
     simp only
     rw [key _ u.toNat l 0 hl w hlo p1 (by omega)]
   have hU:isU (m'.toNat - l.toNat)=false:=by
    unfold isU capB
    simp only [decide_eq_false_iff_not]
    omega
   have fin:∀ a:Addr,a.spot=none→mkS (if m'.toNat=l.toNat then some a else Option.map (addO · (l.toNat * size)) (some a)) (u.toNat - l.toNat) (m'.toNat - l.toNat) = .ok (.slice (some (addO a (cutN m'.toNat l.toNat size))) (u.toNat - l.toNat) (m'.toNat - l.toNat)):=by
    intro a hsp
    unfold mkS
    rw [hU]
    simp only [Bool.false_eq_true,if_false]
    unfold cutN
    by_cases hc:m'.toNat=l.toNat
    ·rw [if_pos hc,if_pos hc]
     unfold addO
     rw [Nat.add_zero]
     cases a;simp only at hsp;rw [hsp]
    ·rw [if_neg hc,if_neg hc]
     rfl
   simp only [ho,hd,hx,sliceA,bind,Except.bind,hsz,Option.map_some,Option.isNone_some,Bool.false_eq_true,false_and,if_false]
   cases hq:isU cap with
   | true=>
    unfold capP at p5
    simp only [hq,if_true] at p5 ⊢
    obtain⟨c2,c3,p5⟩:=p5
    rw [b3 len p5]
    simp only
    rw [if_neg (by intro hh;rcases hh with hh | hh;exact hh c2;exact c3 hh)]
    simp only [Option.isSome_some,if_true]
    exact fin _ hspot
   | false=>
    rw [capP_no hq] at p5
    simp only [Bool.false_eq_true,if_false]
    rw [b3 cap p5]
    simp only
    exact fin _ hspot
 ·simp [no] at hw
end Go.Ev

namespace Go.Ev
variable {η:Nat→Value} {P:Program} {B:Bd}
section
variable (P:Program)
def cut0(c:List Value):Nat→Nat→List Value
 | 0,_=>c
 | off,n=>(c.drop off).take n
def cutOk(c:List Value):Nat→Nat→Prop
 | 0,n=>c.length=n
 | off,n=>off+n≤c.length
def wFirst(h:AH)(size n:Nat):Value→M (Prop × List Value)
 | .slice (some a) _ _=>do
  let (_,c,_,_) ← cellsAt h a.block
  if a.spot=none then .ok (a.off+n * size≤c.length,(c.drop a.off).take (n * size)) else no "spot"
 | .slice none _ c=>if isE c=true then no "nil cells" else .ok (n * size=0,[])
 | .string s=>if size=1 then .ok (True,bytesV (s.data.toList.take n)) else no "bytes"
 | _=>no "slice or string"
def wAppend(ρ:Operand→Value)(argTypes:List TypeId)(args:List Value)(h:AH):M (Prop × KT):=do
 match argTypes,args with
 | [sT,xT],[.slice base len cap,x]=>do
  match ← undA P sT with
  | .slice elem=>do
   let ei ← infoA P elem
   let z ← zeroA P elem
   let isInt ← isIntT P xT
   if isInt then no "append of make" else
   if ei.size=0∨ei.bytes > 65536∨(cellsL z).length ≠ ei.size then no "append: size" else
   let n ← lenA x
   let (pn,new) ← wFirst h ei.size n x
   match base with
   | some a=>do
    let (ty,c,_,own) ← cellsAt h a.block
    if cap=0∧len=0 then
     if a.off ≠ 0∨a.spot ≠ none then no "append: empty" else
     let r:=freshA h elem ei.size (0+n) ([] ++ new)
     .ok (pn∧0<n∧n≤1000000∧new.length=n * ei.size∧new.all oneC=true,.ret r.1 r.2)
    else
    if isU cap=false∨own ≠ 2∨cap ≠ capU ei.size∨ty ≠ elem∨a.spot ≠ none then no "append: mark" else
    let r:=freshA { h with objs:=h.objs.del a.block } elem ei.size (len+n) (cut0 c a.off (len * ei.size) ++ new)
    .ok (pn∧cutOk c a.off (len * ei.size)∧len+n≤1000000∧new.length=n * ei.size∧new.all oneC=true,.ret r.1 r.2)
   | none=>do
    if isU cap=true∨len ≠ 0∨cap ≠ 0 then no "append: nil" else
    let r:=freshA h elem ei.size (0+n) ([] ++ new)
    .ok (pn∧n≤1000000∧new.length=n * ei.size∧new.all oneC=true,.ite (n == 0) (.ret (.slice none 0 0) h) (.ret r.1 r.2))
  | _=>no "append"
 | _,_=>no "append args"
def wAppendT(ρ:Operand→Value)(argTypes:List TypeId)(args:List Value)(h:AH):M (Prop × KT):=do
 match argTypes,args with
 | [sT,xT],[.slice (some a) len cap,x]=>do
  match ← undA P sT with
  | .slice elem=>do
   let ei ← infoA P elem
   let z ← zeroA P elem
   let isInt ← isIntT P xT
   if isInt then no "append of make" else
   if ei.size=0∨ei.bytes > 65536∨(cellsL z).length ≠ ei.size then no "append: size" else
   let n ← lenA x
   let (pn,new) ← wFirst h ei.size n x
   let (ty,c,_,own) ← cellsAt h a.block
   if cap=0∧len=0 then
    if a.off ≠ 0∨a.spot ≠ none then no "append: empty" else do
    let h1 ← storeC h (addO a (0 * ei.size)) []
    let r:=freshA h elem ei.size (0+n) ([] ++ new)
    .ok (pn∧n≤1000000∧new.length=n * ei.size∧new.all oneC=true,.ite (n == 0) (.ret (.slice (some a) 0 0) h1) (.ret r.1 r.2))
   else
   if isU cap=false∨own ≠ 2∨cap ≠ capU ei.size∨ty ≠ elem∨a.spot ≠ none then no "append: mark" else
   let r:=freshA { h with objs:=h.objs.del a.block } elem ei.size (len+n) ((c.drop a.off).take (len * ei.size) ++ new)
   .ok (pn∧a.off+len * ei.size≤c.length∧len+n≤1000000∧new.length=n * ei.size∧new.all oneC=true,.ret r.1 r.2)
  | _=>no "append"
 | _,_=>no "append args"
def byteOf:Value→UInt8
 | .int _ n=>UInt8.ofNat n.toNat
 | _=>0
def bytesIn(c:List Value)(off n:Nat):List UInt8:=((c.drop off).take n).map byteOf
def wConv(ρ:Operand→Value)(src dst:TypeId)(x:Operand)(h:AH):M (Prop × KT):=do
 match ← undA P src,← undA P dst,ρ x with
 | .slice e,.string,.slice (some a) len _=>do
  match ← undA P e with
  | .int .u8=>do
   let (_,c,_,_) ← cellsAt h a.block
   if a.spot ≠ none then no "spot" else
   .ok (a.off+len≤c.length∧bytesOf ((c.drop a.off).take len) = .ok (bytesIn c a.off len),.ret (strL (bytesIn c a.off len)) h)
  | _=>no "conv"
 | .string,.slice e,.string s=>do
  match ← undA P e with
  | .int .u8=>
   .ok (s.size≤1000000,.ret (.slice (some ⟨h.next,0,none⟩) s.size (capU 1)) (newA h (.cells e (bytesV s.data.toList) false 2)).2)
  | _=>no "conv"
 | _,_,_=>no "conv"
def wMakeSlice(ρ:Operand→Value)(t:TypeId)(l c:Operand)(h:AH):M (Prop × KT):=do
 match ← undA P t with
 | .slice elem=>do
  let l ← intOfA (ρ l)
  let c ← intOfA (ρ c)
  let ei ← infoA P elem
  if ei.bytes > 65536 then no "makeSlice" else
  let z:=cellsL (← zeroA P elem)
  if z.length ≠ ei.size then no "makeSlice: zero" else
  .ok (0≤l∧l≤c∧c≤1000000,.ret (.slice (some ⟨h.next,0,none⟩) l.toNat c.toNat) (newA h (.cells elem (rep z c.toNat) true 2)).2)
 | _=>no "makeSlice"
def mVal(z:Value):Option (Nat × Value)→Value
 | some (_,v)=>v
 | none=>z
def mFind(d:TypeDesc)(k:Value)(es:List MapEntry):Option (Nat × Value):=(Instr.findNow d k es 0).getD none
def typedOf(c:List Value)(t:TypeId):M Value:=do
 if ← isAggA P t then .ok (aggL (← cellsTyped P c (← cellTypes P 20 t) 0)) else cellTyped P c t 0
def wLookup(ρ:Operand→Value)(t:TypeId)(x k:Operand)(commaOk:Bool)(h:AH):M (Prop × KT):=do
 match ← undA P t with
 | .map key elem=>do
  match ρ x with
  | .map (some r)=>do
   let (es,_,_) ← mapOf h r
   let d ← keyKind P key
   let z ← zeroA P elem
   let f:=mFind d (ρ k) es
   let v ← typedOf P (cellsL (mVal z f)) elem
   .ok (Instr.findNow d (ρ k) es 0=some f∧mVal z f=v,.ret (if commaOk then tupL [v,.bool f.isSome] else v) h)
  | _=>no "map"
 | _=>no "map type"
def mPut(k x:Value)(c:Nat)(es:List MapEntry):Option (Nat × Value)→List MapEntry
 | some (i,_)=>modEntry (fun e=>{ e with key:=k,val:=x }) es i
 | none=>es ++ [{ key:=k,val:=x,born:=c }]
def mClock(c:Nat):Option (Nat × Value)→Nat
 | some _=>c
 | none=>c+1
def wMapSet(ρ:Operand→Value)(t:TypeId)(m k x:Operand)(h:AH):M (Prop × KT):=do
 match ← undA P t,ρ m with
 | .map key _,.map (some r)=>do
  let (es,c,own) ← mapOf h r
  if !own then no "map not own" else
  let d ← keyKind P key
  let f:=mFind d (ρ k) es
  .ok (Instr.findNow d (ρ k) es 0=some f,.ret undef (putA h r (.map (mPut (ρ k) (ρ x) c es f) (mClock c f) own)))
 | _,_=>no "map type"
def wCopy(ρ:Operand→Value)(argTypes:List TypeId)(args:List Value)(h:AH):M (Prop × KT):=do
 match argTypes,args with
 | t :: _,[.slice (some a) dLen _,src]=>do
  match ← undA P t with
  | .slice elem=>do
   let sl ← lenA src
   let size ← sizeA P elem
   let n:=Nat.min sl dLen
   let (pn,cs) ← wFirst h size n src
   let (ty,c,p,own) ← cellsAt h a.block
   if own ≠ 2∨a.spot ≠ none∨size=0 then no "copy" else
   .ok (pn∧cs.length=n * size∧a.off+cs.length≤c.length∧cs.all oneC=true,.ite (n == 0) (.ret (goInt 0) h) (.ret (goInt n) (putA h a.block (.cells ty (splice c a.off cs) p 2))))
  | _=>no "copy"
 | _,_=>no "copy args"
def wUnsafeString(ρ:Operand→Value)(argTypes:List TypeId)(args:List Value)(h:AH):M (Prop × KT):=do
 match argTypes,args with
 | t :: _,[.pointer (some a),.int kd n]=>do
  let (ty,c,p,own) ← cellsAt h a.block
  match ← undA P t,P.underlying ty with
  | .pointer e,some (.int .u8)=>
   if e ≠ ty∨P.cellsOf ty ≠ 1∨own=0∨a.spot ≠ none then no "unsafe.String: type" else
   .ok (0≤n∧n≤1000000∧a.off+n.toNat≤c.length∧bytesOf ((c.drop a.off).take n.toNat) = .ok (bytesIn c a.off n.toNat),.ite (n == 0) (.ret (.string ⟨#[]⟩) h) (.ret (strL (bytesIn c a.off n.toNat)) (putA h a.block (.cells ty c false 1))))
  | _,_=>no "unsafe.String: type"
 | _,_=>no "unsafe.String"
def mDel(es:List MapEntry):Option (Nat × Value)→List MapEntry
 | some (i,_)=>es.eraseIdx i
 | none=>es
def wDelete(argTypes:List TypeId)(args:List Value)(h:AH):M (Prop × KT):=do
 match argTypes,args with
 | t :: _,[.map (some r),k]=>do
  match ← undA P t with
  | .map key _=>do
   let (es,c,own) ← mapOf h r
   if !own then no "map not own" else
   let d ← keyKind P key
   let f:=mFind d k es
   .ok (Instr.findNow d k es 0=some f,.ret (tupL []) (putA h r (.map (mDel es f) c own)))
  | _=>no "map type"
 | _,_=>no "delete args"
def wClear(argTypes:List TypeId)(args:List Value)(h:AH):M (Prop × KT):=do
 match argTypes,args with
 | t :: _,[.slice (some a) n _]=>do
  match ← undA P t with
  | .slice elem=>do
   let z ← zeroA P elem
   let (ty,c,p,own) ← cellsAt h a.block
   if own ≠ 2∨a.spot ≠ none∨(cellsL z).isEmpty=true∨(cellsL z).all oneC=false then no "clear" else
   .ok (a.off+(rep (cellsL z) n).length≤c.length,.ite (n == 0) (.ret (tupL []) h) (.ret (tupL []) (putA h a.block (.cells ty (splice c a.off (rep (cellsL z) n)) p 2))))
  | _=>no "clear"
 | _,_=>no "clear args"
def wSliceData(ts:List TypeId)(args:List Value)(h:AH):M (Prop × Value × AH):=match args with
 | [.slice (some a) l c]=>if isU c=true∧ts.isEmpty=false then .ok (0<l,.pointer (some a),h) else no "SliceData"
 | _=>no "SliceData"
def lift1(x:M (Prop × Value × AH)):M (Prop × KT):=do
 let (p,v,h) ← x
 .ok (p,.ret v h)
def opW(ρ:Operand→Value)(o:Oper)(h:AH):M (Prop × KT):=
 if !okOps P o then no "a constant" else
 match o.op with
 | .load t x=>lift1 (wLoad P ρ t x h)
 | .store t x y=>lift1 (wStore P ρ t x y h)
 | .indexAddr t x y=>lift1 (wIndexAddr P ρ t x y h)
 | .index t x y=>lift1 (wIndex P ρ t x y h)
 | .binOp op t x y _=>lift1 (wBin P ρ op t x y h)
 | .slice t x lo hi mx=>lift1 (wSlice P ρ t x lo hi mx h)
 | .call { callee:=.builtin .append,args,argTypes }=>wAppend P ρ argTypes.toList (args.toList.map ρ) h
 | .call { callee:=.builtin .copy,args,argTypes }=>wCopy P ρ argTypes.toList (args.toList.map ρ) h
 | .call { callee:=.builtin .unsafeString,args,argTypes }=>wUnsafeString P ρ argTypes.toList (args.toList.map ρ) h
 | .call { callee:=.builtin .delete,args,argTypes }=>wDelete P argTypes.toList (args.toList.map ρ) h
 | .call { callee:=.builtin .clear,args,argTypes }=>wClear P argTypes.toList (args.toList.map ρ) h
 | .call { callee:=.builtin .unsafeSliceData,args,argTypes }=>lift1 (wSliceData argTypes.toList (args.toList.map ρ) h)
 | .convert s d x=>wConv P ρ s d x h
 | .makeSlice t l c=>wMakeSlice P ρ t l c h
 | .lookup t x k ok=>wLookup P ρ t x k ok h
 | .mapUpdate t m k x=>wMapSet P ρ t m k x h
 | .insert t m k x=>wMapSet P ρ t m k x h
 | _=>no "operation"
def opT(ρ:Operand→Value)(o:Oper)(h:AH):M (Prop × KT):=
 if !okOps P o then no "a constant" else
 match o.op with
 | .call { callee:=.builtin .append,args,argTypes }=>wAppendT P ρ argTypes.toList (args.toList.map ρ) h
 | _=>no "operation"
end
def Goes(P:Program)(ρ:Operand→Value)(o:Oper)(h:AH)(v:Value)(h':AH):Prop:=execA P ρ o h = .ok (.value v,h')∨(execA P ρ o h = .ok (.skip,h')∧v=undef)
theorem read_goes{ρ:Operand→Value}{o:Oper}{h:AH}{v:Value}(hok:okOps P o=true)(hk:kindOf P o.op = .read)(hr:readA P ρ o h = .ok v):Goes P ρ o h v h:=.inl (exec_read hok hk hr)
theorem wFirst_ok{h:AH}{size n:Nat}{x:Value}{p:Prop}{l:List Value}(hw:wFirst h size n x = .ok (p,l))(hp:p):firstA h size n x = .ok l:=by
 unfold wFirst at hw
 split at hw
 ·rename_i a _ _
  simp only [bind_ok] at hw
  obtain⟨⟨ty,c,pl,own⟩,hc,hw⟩:=hw
  simp only at hw
  split at hw
  ·rename_i hs
   rw [okk] at hw;injection hw with e1 e2;subst e1;subst e2
   unfold firstA getC
   simp only [hc]
   rw [if_pos ⟨hp,hs⟩]
  ·simp [no] at hw
 ·rw [ite_no,okk] at hw
  obtain⟨hcE,hw⟩:=hw
  injection hw with e1 e2;subst e1;subst e2
  unfold firstA
  simp only
  rw [if_pos hp]
 ·split at hw
  ·rename_i hs
   rw [okk] at hw;injection hw with e1 e2;subst e1;subst e2
   unfold firstA
   simp only
   rw [if_pos hs]
  ·simp [no] at hw
 ·simp [no] at hw
theorem wAppend_ok{ρ:Operand→Value}{ts:List TypeId}{args:List Value}{h:AH}{p:Prop}{k:KT}(hw:wAppend P ρ ts args h = .ok (p,k))(hp:p):∃ v h',k.sat v h'∧appendA P h ts args = .ok (v,h'):=by
 unfold wAppend at hw
 split at hw
 ·rename_i sT xT base len cap x
  simp only [bind_ok] at hw
  obtain⟨d,hd,hw⟩:=hw
  split at hw
  ·rename_i elem
   simp only [bind_ok] at hw
   obtain⟨ei,hei,z,hz,isInt,hi,hw⟩:=hw
   rw [ite_no] at hw
   obtain⟨hi2,hw⟩:=hw
   rw [ite_no] at hw
   obtain⟨hs,hw⟩:=hw
   simp only [bind_ok] at hw
   obtain⟨n,hn,⟨pn,new⟩,hnew,hw⟩:=hw
   simp only at hw
   cases base with
   | some a=>
    simp only [bind_ok] at hw
    obtain⟨⟨ty,c,pl,own⟩,hc,hw⟩:=hw
    simp only at hw
    by_cases h00:cap=0∧len=0
    ·rw [if_pos h00,ite_no] at hw
     obtain⟨hm,hw⟩:=hw
     rw [okk] at hw
     injection hw with e1 e2;subst e1;subst e2
     obtain⟨p1,p2,p3,p4,p5⟩:=hp
     obtain⟨c0,l0⟩:=h00
     subst c0;subst l0
     have m1:a.off=0:=Decidable.byContradiction fun hh=>hm (.inl hh)
     have m5:a.spot=none:=Decidable.byContradiction fun hh=>hm (.inr hh)
     have hf:=wFirst_ok hnew p1
     have hold:firstA h ei.size 0 (.slice (some a) 0 0) = .ok []:=by
      unfold firstA getC
      simp only [hc,m1]
      rw [if_pos ⟨by omega,m5⟩]
      simp
     refine⟨_,_,⟨rfl,rfl⟩,?_⟩
     unfold appendA
     simp only [hd,hei,hz,hi,hn,hf,hold,bind,Except.bind,Option.isNone_some,Bool.false_eq_true,false_and,if_false]
     rw [if_neg hi2,if_neg hs,if_neg (by rintro (hh | hh | hh | hh);omega;exact hh p4;simp at hh;rw [p5] at hh;cases hh),if_neg (by decide),if_neg (by omega),if_pos (by decide)]
    rw [if_neg h00] at hw
    rw [ite_no] at hw
    obtain⟨hm,hw⟩:=hw
    rw [okk] at hw
    injection hw with e1 e2;subst e1;subst e2
    obtain⟨p1,p2,p3,p4,p5⟩:=hp
    refine⟨_,_,⟨rfl,rfl⟩,?_⟩
    have m1:isU cap=true:=by cases hq:isU cap with | true=>rfl | false=>exact absurd (.inl hq) hm
    have m2:own=2:=Decidable.byContradiction fun hh=>hm (.inr (.inl hh))
    have m3:cap=capU ei.size:=Decidable.byContradiction fun hh=>hm (.inr (.inr (.inl hh)))
    have m4:ty=elem:=Decidable.byContradiction fun hh=>hm (.inr (.inr (.inr (.inl hh))))
    have m5:a.spot=none:=Decidable.byContradiction fun hh=>hm (.inr (.inr (.inr (.inr hh))))
    have hf:=wFirst_ok hnew p1
    have hold:firstA h ei.size len (.slice (some a) len cap) = .ok (cut0 c a.off (len * ei.size))∧(cut0 c a.off (len * ei.size)).length=len * ei.size:=by
     unfold firstA getC
     simp only [hc]
     cases ha:a.off with
     | zero=>
      rw [ha] at p2
      have p2:c.length=len * ei.size:=p2
      rw [if_pos ⟨by omega,m5⟩]
      refine⟨?_,p2⟩
      show _=Except.ok c
      rw [List.drop_zero,List.take_of_length_le (by omega)]
     | succ o=>
      rw [ha] at p2
      have p2:o+1+len * ei.size≤c.length:=p2
      rw [if_pos ⟨p2,m5⟩]
      refine⟨rfl,?_⟩
      show((c.drop (o+1)).take (len * ei.size)).length=_
      rw [List.length_take,List.length_drop];omega
    unfold appendA
    simp only [hd,hei,hz,hi,hn,hf,hold.1,bind,Except.bind,Option.isNone_some,Bool.false_eq_true,false_and,if_false]
    rw [if_neg hi2,if_neg hs,if_neg (by rintro (hh | hh | hh | hh);omega;exact hh p4;exact hh hold.2;rw [p5] at hh;cases hh),if_pos m1]
    simp only [hc]
    rw [if_neg (by rintro (hh | hh | hh);exact hh m2;exact hh m3;exact hh m4)]
   | none=>
    simp only at hw
    rw [ite_no] at hw
    obtain⟨hm,hw⟩:=hw
    rw [okk] at hw
    injection hw with e1 e2;subst e1;subst e2
    obtain⟨p1,p3,p4,p5⟩:=hp
    have m1:isU cap=false:=by cases hq:isU cap with | false=>rfl | true=>exact absurd (.inl hq) hm
    have m2:len=0:=Decidable.byContradiction fun hh=>hm (.inr (.inl hh))
    have m3:cap=0:=Decidable.byContradiction fun hh=>hm (.inr (.inr hh))
    subst m2;subst m3
    have hf:=wFirst_ok hnew p1
    have hold:firstA h ei.size 0 (.slice none 0 0) = .ok []:=by
     unfold firstA;simp [isE,capE,capF,capB]
    have hz0:ei.size ≠ 0:=fun hh=>hs (.inl hh)
    cases hn0:(n == 0) with
    | true=>
     have hn0':n=0:=by simpa using hn0
     refine⟨_,_,.inl ⟨rfl,rfl,rfl⟩,?_⟩
     unfold appendA
     simp only [hd,hei,hz,hi,hn,hf,hold,bind,Except.bind]
     rw [if_neg (show ¬ ((none:Option Addr).isNone=true∧isE 0=true) from by decide),if_neg hi2,if_neg hs,if_neg (by rintro (hh | hh | hh | hh);omega;exact hh p4;simp at hh;rw [p5] at hh;cases hh),if_neg (by rw [m1];simp),if_pos (by omega)]
     have:new=[]:=by
      have:new.length=0:=by rw [p4,hn0'];simp
      exact List.length_eq_zero_iff.1 this
     subst this
     simp [hn0']
    | false=>
     have hn0':n ≠ 0:=by simpa using hn0
     refine⟨_,_,.inr ⟨rfl,rfl,rfl⟩,?_⟩
     unfold appendA
     simp only [hd,hei,hz,hi,hn,hf,hold,bind,Except.bind]
     rw [if_neg (show ¬ ((none:Option Addr).isNone=true∧isE 0=true) from by decide),if_neg hi2,if_neg hs,if_neg (by rintro (hh | hh | hh | hh);omega;exact hh p4;simp at hh;rw [p5] at hh;cases hh),if_neg (by rw [m1];simp),if_neg (by omega),if_pos (by omega)]
  ·simp [no] at hw
 ·simp [no] at hw
theorem wAppendT_ok{ρ:Operand→Value}{ts:List TypeId}{args:List Value}{h:AH}{p:Prop}{k:KT}(hw:wAppendT P ρ ts args h = .ok (p,k))(hp:p):∃ v h',k.sat v h'∧appendA P h ts args = .ok (v,h'):=by
 unfold wAppendT at hw
 split at hw
 ·rename_i sT xT a len cap x
  simp only [bind_ok] at hw
  obtain⟨d,hd,hw⟩:=hw
  split at hw
  ·rename_i elem
   simp only [bind_ok] at hw
   obtain⟨ei,hei,z,hz,b,hi,hw⟩:=hw
   rw [ite_no] at hw
   obtain⟨hi2,hw⟩:=hw
   rw [ite_no] at hw
   obtain⟨hs,hw⟩:=hw
   simp only [bind_ok] at hw
   obtain⟨n,hn,⟨pn,new⟩,hnew,⟨ty,c,pl,own⟩,hc,hw⟩:=hw
   simp only at hw
   by_cases h00:cap=0∧len=0
   ·rw [if_pos h00,ite_no] at hw
    obtain⟨hm,hw⟩:=hw
    simp only [bind_ok] at hw
    obtain⟨h1,hst,hw⟩:=hw
    rw [okk] at hw
    injection hw with e1 e2;subst e1;subst e2
    obtain⟨p1,p3,p4,p5⟩:=hp
    obtain⟨c0,l0⟩:=h00
    subst c0;subst l0
    have m1:a.off=0:=Decidable.byContradiction fun hh=>hm (.inl hh)
    have m5:a.spot=none:=Decidable.byContradiction fun hh=>hm (.inr hh)
    have hf:=wFirst_ok hnew p1
    have hold:firstA h ei.size 0 (.slice (some a) 0 0) = .ok []:=by
     unfold firstA getC
     simp only [hc,m1]
     rw [if_pos ⟨by omega,m5⟩]
     simp
    cases hn0:(n == 0) with
    | true=>
     have hn0':n=0:=by simpa using hn0
     refine⟨_,_,.inl ⟨rfl,rfl,rfl⟩,?_⟩
     have hnw:new=[]:=by
      have:new.length=0:=by rw [p4,hn0'];simp
      exact List.length_eq_zero_iff.1 this
     subst hnw
     subst hn0'
     unfold appendA
     simp only [hd,hei,hz,hi,hn,hf,hold,bind,Except.bind,Option.isNone_some,Bool.false_eq_true,false_and,if_false]
     rw [if_neg hi2,if_neg hs,if_neg (by rintro (hh | hh | hh | hh);omega;exact hh p4;simp at hh;simp at hh),if_neg (by decide),if_pos (by omega)]
     simp only [hst]
    | false=>
     have hn0':n ≠ 0:=by simpa using hn0
     refine⟨_,_,.inr ⟨rfl,rfl,rfl⟩,?_⟩
     unfold appendA
     simp only [hd,hei,hz,hi,hn,hf,hold,bind,Except.bind,Option.isNone_some,Bool.false_eq_true,false_and,if_false]
     rw [if_neg hi2,if_neg hs,if_neg (by rintro (hh | hh | hh | hh);omega;exact hh p4;simp at hh;rw [p5] at hh;cases hh),if_neg (by decide),if_neg (by omega),if_pos (by decide)]
   rw [if_neg h00] at hw
   rw [ite_no] at hw
   obtain⟨hm,hw⟩:=hw
   rw [okk] at hw
   injection hw with e1 e2;subst e1;subst e2
   obtain⟨p1,p2,p3,p4,p5⟩:=hp
   refine⟨_,_,⟨rfl,rfl⟩,?_⟩
   have m1:isU cap=true:=by cases hq:isU cap with | true=>rfl | false=>exact absurd (.inl hq) hm
   have m2:own=2:=Decidable.byContradiction fun hh=>hm (.inr (.inl hh))
   have m3:cap=capU ei.size:=Decidable.byContradiction fun hh=>hm (.inr (.inr (.inl hh)))
   have m4:ty=elem:=Decidable.byContradiction fun hh=>hm (.inr (.inr (.inr (.inl hh))))
   have m5:a.spot=none:=Decidable.byContradiction fun hh=>hm (.inr (.inr (.inr (.inr hh))))
   have hf:=wFirst_ok hnew p1
   have hold:firstA h ei.size len (.slice (some a) len cap) = .ok ((c.drop a.off).take (len * ei.size))∧((c.drop a.off).take (len * ei.size)).length=len * ei.size:=by
    unfold firstA getC
    simp only [hc]
    rw [if_pos ⟨p2,m5⟩]
    refine⟨rfl,?_⟩
    rw [List.length_take,List.length_drop];omega
   unfold appendA
   simp only [hd,hei,hz,hi,hn,hf,hold.1,bind,Except.bind,Option.isNone_some,Bool.false_eq_true,false_and,if_false]
   rw [if_neg hi2,if_neg hs,if_neg (by rintro (hh | hh | hh | hh);omega;exact hh p4;exact hh hold.2;rw [p5] at hh;cases hh),if_pos m1]
   simp only [hc]
   rw [if_neg (by rintro (hh | hh | hh);exact hh m2;exact hh m3;exact hh m4)]
  ·simp [no] at hw
 ·simp [no] at hw
theorem wConv_ok{ρ:Operand→Value}{o:Oper}{s d:TypeId}{x:Operand}{h:AH}{p:Prop}{k:KT}(hok:okOps P o=true)(ho:o.op = .convert s d x)(hw:wConv P ρ s d x h = .ok (p,k))(hp:p):∃ v h',k.sat v h'∧Goes P ρ o h v h':=by
 unfold wConv at hw
 simp only [bind_ok] at hw
 obtain⟨t1,h1,t2,h2,hw⟩:=hw
 split at hw
 ·rename_i e a len cap hx
  simp only [bind_ok] at hw
  obtain⟨t3,h3,hw⟩:=hw
  split at hw
  ·simp only [bind_ok] at hw
   obtain⟨⟨ty,c,pl,own⟩,hc,hw⟩:=hw
   simp only at hw
   rw [ite_no] at hw
   obtain⟨hs,hw⟩:=hw
   rw [okk] at hw
   injection hw with e1 e2;subst e1;subst e2
   have hs':a.spot=none:=Decidable.byContradiction hs
   refine⟨_,_,⟨rfl,rfl⟩,read_goes hok ?_ ?_⟩
   ·rw [ho];unfold kindOf
    have:isSliceT P d=false:=by
     unfold isSliceT
     unfold undA orNo at h2
     split at h2
     ·rename_i hu;rw [okk] at h2;rw [hu,h2]
     ·simp [no] at h2
    simp only [this,Bool.false_eq_true,if_false]
   ·unfold readA
    simp only [ho,convA,h1,h2,hx,h3,bind,Except.bind,getC,hc,Option.isNone_some,Bool.false_eq_true,false_and,if_false]
    rw [if_pos ⟨hp.1,hs'⟩]
    simp only [hp.2]
  ·simp [no] at hw
 ·rename_i e s1 hx
  simp only [bind_ok] at hw
  obtain⟨t3,h3,hw⟩:=hw
  split at hw
  ·rw [okk] at hw
   injection hw with e1 e2;subst e1;subst e2
   refine⟨_,_,⟨rfl,rfl⟩,.inl ?_⟩
   have hk:kindOf P o.op = .alloc:=by
    rw [ho];unfold kindOf
    have:isSliceT P d=true:=by
     unfold isSliceT
     unfold undA orNo at h2
     split at h2
     ·rename_i hu;rw [okk] at h2;rw [hu,h2]
     ·simp [no] at h2
    have hs':isSliceT P s=false:=by
     unfold isSliceT
     unfold undA orNo at h1
     split at h1
     ·rename_i hu;rw [okk] at h1;rw [hu,h1]
     ·simp [no] at h1
    simp only [this,hs',if_true,Bool.false_eq_true,if_false]
   unfold execA
   rw [hok,hk]
   simp only [Bool.not_true,Bool.false_eq_true,if_false,allocA,ho,h1,h2,hx,h3,bind,Except.bind]
   rw [if_neg (by omega)]
  ·simp [no] at hw
 ·simp [no] at hw
theorem wMakeSlice_ok{ρ:Operand→Value}{o:Oper}{t:TypeId}{x y:Operand}{h:AH}{p:Prop}{k:KT}(hok:okOps P o=true)(ho:o.op = .makeSlice t x y)(hw:wMakeSlice P ρ t x y h = .ok (p,k))(hp:p):∃ v h',k.sat v h'∧Goes P ρ o h v h':=by
 unfold wMakeSlice at hw
 simp only [bind_ok] at hw
 obtain⟨d,hd,hw⟩:=hw
 split at hw
 ·simp only [bind_ok] at hw
  obtain⟨l,hl,c,hc,ei,hei,hw⟩:=hw
  rw [ite_no] at hw
  obtain⟨hb,hw⟩:=hw
  simp only [bind_ok] at hw
  obtain⟨z,hz,hw⟩:=hw
  rw [ite_no] at hw
  obtain⟨hzl,hw⟩:=hw
  rw [okk] at hw
  injection hw with e1 e2;subst e1;subst e2
  obtain⟨p1,p2,p3⟩:=hp
  refine⟨_,_,⟨rfl,rfl⟩,.inl ?_⟩
  have hzl':(cellsL z).length=ei.size:=Decidable.byContradiction hzl
  unfold execA
  rw [hok,ho]
  simp only [Bool.not_true,Bool.false_eq_true,if_false,kindOf,allocA,ho,hd,hl,hc,hei,bind,Except.bind]
  rw [if_neg (by omega)]
  by_cases h0:c.toNat * ei.size=0
  ·simp only [h0,if_true]
   have hr:∀ (m:Nat) (zz:List Value),zz.length=0∨m=0→rep zz m=[]:=by
    intro m zz hm
    induction m with
    | zero=>rfl
    | succ m ih=>
     rcases hm with hm | hm
     ·rw [rep,ih (.inl hm),List.length_eq_zero_iff.1 hm];rfl
     ·omega
   have hq:c.toNat=0∨ei.size=0:=Nat.mul_eq_zero.1 h0
   simp only [ne_eq,not_true_eq_false,false_and,if_false]
   rw [hr _ [] (.inl rfl),hr _ (cellsL z) (by rcases hq with hq | hq;exact .inr hq;exact .inl (hzl'.trans hq))]
  ·simp only [h0,if_false,hz]
   rw [if_neg (by rintro ⟨_,hh⟩;exact hh hzl')]
 ·simp [no] at hw
theorem wLookup_ok{ρ:Operand→Value}{o:Oper}{t:TypeId}{x y:Operand}{c:Bool}{h:AH}{p:Prop}{k:KT}(hok:okOps P o=true)(ho:o.op = .lookup t x y c)(hw:wLookup P ρ t x y c h = .ok (p,k))(hp:p):∃ v h',k.sat v h'∧Goes P ρ o h v h':=by
 unfold wLookup at hw
 simp only [bind_ok] at hw
 obtain⟨d,hd,hw⟩:=hw
 split at hw
 ·rename_i key elem
  split at hw
  ·rename_i r hx
   simp only [bind_ok] at hw
   obtain⟨⟨es,cl,own⟩,hm,dk,hdk,z,hz,v,hv,hw⟩:=hw
   rw [okk] at hw
   injection hw with e1 e2;subst e1;subst e2
   refine⟨_,_,⟨rfl,rfl⟩,read_goes hok (by rw [ho];rfl) ?_⟩
   obtain⟨p1,p2⟩:=hp
   unfold readA
   simp only [ho,lookA,hd,hx,hm,bind,Except.bind,findM,hdk,p1,orNo]
   cases hf:mFind dk (ρ y) es with
   | none=>
    rw [hf] at p2
    simp only [hz]
    unfold mVal at p2
    simp only at p2
    rw [p2]
    cases c <;> rfl
   | some q=>
    obtain⟨i,u⟩:=q
    rw [hf] at p2
    unfold mVal at p2
    simp only at p2
    subst p2
    cases c <;> rfl
  ·simp [no] at hw
 ·simp [no] at hw
theorem mapSet_ok'{ρ:Operand→Value}{t:TypeId}{m k x:Operand}{h:AH}{p:Prop}{kt:KT}(hw:wMapSet P ρ t m k x h = .ok (p,kt))(hp:p):∃ h',kt.sat undef h'∧mapSet P h t (ρ m) (ρ k) (ρ x) = .ok h':=by
 unfold wMapSet at hw
 simp only [bind_ok] at hw
 obtain⟨d,hd,hw⟩:=hw
 split at hw
 ·rename_i key elem r hx
  simp only [bind_ok] at hw
  obtain⟨⟨es,cl,own⟩,hm,hw⟩:=hw
  simp only at hw
  rw [ite_no] at hw
  obtain⟨ho,hw⟩:=hw
  simp only [bind_ok] at hw
  obtain⟨dk,hdk,hw⟩:=hw
  rw [okk] at hw
  injection hw with e1 e2;subst e1;subst e2
  refine⟨_,⟨rfl,rfl⟩,?_⟩
  unfold mapSet
  simp only [hd,hx,hm,bind,Except.bind,findM,hdk,hp,orNo]
  rw [if_neg ho]
  cases hf:mFind dk (ρ k) es with
  | none=>rfl
  | some q=>obtain⟨i,u⟩:=q;rfl
 ·simp [no] at hw
theorem wCopy_ok{ρ:Operand→Value}{ts:List TypeId}{args:List Value}{h:AH}{p:Prop}{k:KT}(hw:wCopy P ρ ts args h = .ok (p,k))(hp:p):∃ v h',k.sat v h'∧builtinA P h .copy ts args = .ok (.value v,h'):=by
 unfold wCopy at hw
 split at hw
 ·rename_i t r a dLen dc src
  simp only [bind_ok] at hw
  obtain⟨d,hd,hw⟩:=hw
  split at hw
  ·rename_i elem
   simp only [bind_ok] at hw
   obtain⟨sl,hsl,size,hsz,⟨pn,cs⟩,hcs,⟨ty,c,pl,own⟩,hc,hw⟩:=hw
   simp only at hw
   rw [ite_no] at hw
   obtain⟨hm,hw⟩:=hw
   rw [okk] at hw
   injection hw with e1 e2;subst e1;subst e2
   obtain⟨p1,p2,p3,p4⟩:=hp
   have m1:own=2:=Decidable.byContradiction fun hh=>hm (.inl hh)
   have m2:a.spot=none:=Decidable.byContradiction fun hh=>hm (.inr (.inl hh))
   have m3:¬ size=0:=fun hh=>hm (.inr (.inr hh))
   have hf:=wFirst_ok hcs p1
   have hbase:builtinA P h .copy (t :: r) [.slice (some a) dLen dc,src]=(do let h ← storeC h a cs;.ok (.value (goInt (Nat.min sl dLen:Nat)),h)):=by
    unfold builtinA
    simp only [List.isEmpty_cons,Bool.false_eq_true,if_false,List.headD_cons,hd,hsl,hsz,hf,bind,Except.bind,Option.isNone_some,false_and]
   rw [hbase]
   cases hn:(Nat.min sl dLen == 0) with
   | true=>
    have hn0:Nat.min sl dLen=0:=by simpa using hn
    have hcs0:cs=[]:=List.length_eq_zero_iff.1 (by rw [p2,hn0];simp)
    refine⟨_,_,.inl ⟨rfl,rfl,rfl⟩,?_⟩
    subst hcs0
    rw [hn0]
    rfl
   | false=>
    have hn0:Nat.min sl dLen ≠ 0:=by simpa using hn
    have hcs0:cs ≠ []:=by
     intro e
     rw [e] at p2
     have:=p2.symm
     rw [List.length_nil,Nat.mul_eq_zero] at this
     rcases this with h1 | h1
     ·exact hn0 h1
     ·exact m3 h1
    refine⟨_,_,.inr ⟨rfl,rfl,rfl⟩,?_⟩
    have hst:storeC h a cs = .ok (putA h a.block (.cells ty (splice c a.off cs) pl 2)):=by
     unfold storeC
     split
     ·exact absurd rfl hcs0
     ·rw [hc]
      simp only
      rw [if_pos ⟨m1,p3,m2,p4⟩]
    rw [hst]
    rfl
  ·simp [no] at hw
 ·simp [no] at hw
theorem wUnsafeString_ok{ρ:Operand→Value}{ts:List TypeId}{args:List Value}{h:AH}{p:Prop}{k:KT}(hw:wUnsafeString P ρ ts args h = .ok (p,k))(hp:p):∃ v h',k.sat v h'∧builtinA P h .unsafeString ts args = .ok (.value v,h'):=by
 unfold wUnsafeString at hw
 split at hw
 ·rename_i t r a kd n
  simp only [bind_ok] at hw
  obtain⟨⟨ty,c,pl,own⟩,hc,d,hd,hw⟩:=hw
  simp only at hw
  split at hw
  ·rename_i e hu
   rw [ite_no] at hw
   obtain⟨hm,hw⟩:=hw
   rw [okk] at hw
   injection hw with e1 e2;subst e1;subst e2
   obtain⟨p1,p2,p3,p4⟩:=hp
   have m1:e=ty:=Decidable.byContradiction fun hh=>hm (.inl hh)
   have m2:P.cellsOf ty=1:=Decidable.byContradiction fun hh=>hm (.inr (.inl hh))
   have m3:¬ own=0:=fun hh=>hm (.inr (.inr (.inl hh)))
   have m4:a.spot=none:=Decidable.byContradiction fun hh=>hm (.inr (.inr (.inr hh)))
   cases hn:(n == 0) with
   | true=>
    have hn0:n=0:=by simpa using hn
    refine⟨_,_,.inl ⟨rfl,rfl,rfl⟩,?_⟩
    unfold builtinA
    simp only [List.isEmpty_cons,Bool.false_eq_true,if_false,intOfA,bind,Except.bind]
    rw [if_neg (by omega),if_pos hn0]
   | false=>
    have hn0:n ≠ 0:=by simpa using hn
    refine⟨_,_,.inr ⟨rfl,rfl,rfl⟩,?_⟩
    have hg:getC h a n.toNat = .ok ((c.drop a.off).take n.toNat):=by
     unfold getC;rw [hc];simp only;rw [if_pos ⟨p3,m4⟩]
    unfold builtinA
    simp only [List.isEmpty_cons,Bool.false_eq_true,if_false,intOfA,bind,Except.bind]
    rw [if_neg (by omega),if_neg hn0]
    simp only [hc]
    rw [if_neg m3]
    simp only [List.headD_cons,hd,hu]
    rw [if_neg (by rintro (hh | hh);exact hh m1;exact hh m2),hg]
    simp only [p4]
  ·simp [no] at hw
 ·simp [no] at hw
theorem wDelete_ok{ts:List TypeId}{args:List Value}{h:AH}{p:Prop}{k:KT}(hw:wDelete P ts args h = .ok (p,k))(hp:p):∃ v h',k.sat v h'∧builtinA P h .delete ts args = .ok (.value v,h'):=by
 unfold wDelete at hw
 split at hw
 ·rename_i t r mr y
  simp only [bind_ok] at hw
  obtain⟨d,hd,hw⟩:=hw
  split at hw
  ·rename_i key elem
   simp only [bind_ok] at hw
   obtain⟨⟨es,cl,own⟩,hm,hw⟩:=hw
   simp only at hw
   rw [ite_no] at hw
   obtain⟨ho,hw⟩:=hw
   simp only [bind_ok] at hw
   obtain⟨dk,hdk,hw⟩:=hw
   rw [okk] at hw
   injection hw with e1 e2;subst e1;subst e2
   refine⟨_,_,⟨rfl,rfl⟩,?_⟩
   unfold builtinA
   simp only [List.isEmpty_cons,Bool.false_eq_true,if_false,List.headD_cons,deleteA,hd,hm,bind,Except.bind,findM,hdk,hp,orNo]
   rw [if_neg ho]
   cases hf:mFind dk y es with
   | none=>rfl
   | some q=>obtain⟨i,u⟩:=q;rfl
  ·simp [no] at hw
 ·simp [no] at hw
theorem rep_oneC{z:List Value}(h:z.all oneC=true):∀ n,(rep z n).all oneC=true
 | 0=>rfl
 | n+1=>by unfold rep;rw [List.all_append,h,rep_oneC h n];rfl
theorem wClear_ok{ts:List TypeId}{args:List Value}{h:AH}{p:Prop}{k:KT}(hw:wClear P ts args h = .ok (p,k))(hp:p):∃ v h',k.sat v h'∧builtinA P h .clear ts args = .ok (.value v,h'):=by
 unfold wClear at hw
 split at hw
 ·rename_i t r a n cc
  simp only [bind_ok] at hw
  obtain⟨d,hd,hw⟩:=hw
  split at hw
  ·rename_i elem
   simp only [bind_ok] at hw
   obtain⟨z,hz,⟨ty,c,pl,own⟩,hc,hw⟩:=hw
   simp only at hw
   rw [ite_no] at hw
   obtain⟨hm,hw⟩:=hw
   rw [okk] at hw
   injection hw with e1 e2;subst e1;subst e2
   have m1:own=2:=Decidable.byContradiction fun hh=>hm (.inl hh)
   have m2:a.spot=none:=Decidable.byContradiction fun hh=>hm (.inr (.inl hh))
   have m3:¬ (cellsL z).isEmpty=true:=fun hh=>hm (.inr (.inr (.inl hh)))
   have m4:(cellsL z).all oneC=true:=by
    cases hq:(cellsL z).all oneC with
    | true=>rfl
    | false=>exact absurd (.inr (.inr (.inr hq))) hm
   have hbase:builtinA P h .clear (t :: r) [.slice (some a) n cc]=(do let h ← (if n=0 then .ok h else storeC h a (rep (cellsL z) n):M AH);.ok (.value (tupL []),h)):=by
    unfold builtinA
    simp only [List.isEmpty_cons,Bool.false_eq_true,if_false,List.headD_cons,clearA,hd,hz,bind,Except.bind]
   rw [hbase]
   cases hn:(n == 0) with
   | true=>
    have hn0:n=0:=by simpa using hn
    refine⟨_,_,.inl ⟨rfl,rfl,rfl⟩,?_⟩
    rw [if_pos hn0]
    rfl
   | false=>
    have hn0:n ≠ 0:=by simpa using hn
    refine⟨_,_,.inr ⟨rfl,rfl,rfl⟩,?_⟩
    rw [if_neg hn0]
    have hne:rep (cellsL z) n ≠ []:=by
     cases n with
     | zero=>exact absurd rfl hn0
     | succ n=>
      unfold rep
      intro e
      rw [List.append_eq_nil_iff] at e
      rw [e.1] at m3
      exact m3 rfl
    have hst:storeC h a (rep (cellsL z) n) = .ok (putA h a.block (.cells ty (splice c a.off (rep (cellsL z) n)) pl 2)):=by
     unfold storeC
     split
     ·rename_i he;exact absurd he hne
     ·rw [hc]
      simp only
      rw [if_pos ⟨m1,hp,m2,rep_oneC m4 n⟩]
    rw [hst]
    rfl
  ·simp [no] at hw
 ·simp [no] at hw
theorem opW_ok{ρ:Operand→Value}{o:Oper}{h:AH}{p:Prop}{k:KT}(hw:opW P ρ o h = .ok (p,k))(hp:p):∃ v h',k.sat v h'∧Goes P ρ o h v h':=by
 unfold opW at hw
 rw [ite_no] at hw
 obtain⟨hok,hw⟩:=hw
 have hok:okOps P o=true:=by cases hq:okOps P o with | true=>rfl | false=>rw [hq] at hok;simp at hok
 have l1:∀ {x:M (Prop × Value × AH)},lift1 x = .ok (p,k)→∃ v h',x = .ok (p,v,h')∧k = .ret v h':=by
  intro x hx
  unfold lift1 at hx
  simp only [bind_ok] at hx
  obtain⟨⟨p1,v,h'⟩,hx,e⟩:=hx
  rw [okk] at e
  injection e with e1 e2
  subst e1;subst e2
  exact⟨v,h',hx,rfl⟩
 split at hw
 ·rename_i t x ho
  obtain⟨v,h',hx,rfl⟩:=l1 hw
  obtain⟨hr,rfl⟩:=wLoad_ok ho hx hp
  exact⟨v,h',⟨rfl,rfl⟩,read_goes hok (by rw [ho];rfl) hr⟩
 ·rename_i t x y ho
  obtain⟨v,h',hx,rfl⟩:=l1 hw
  obtain⟨hr,rfl⟩:=wStore_ok ho hx hp
  exact⟨undef,h',⟨rfl,rfl⟩,.inr ⟨exec_eff hok (by rw [ho];rfl) hr,rfl⟩⟩
 ·rename_i t x y ho
  obtain⟨v,h',hx,rfl⟩:=l1 hw
  obtain⟨hr,rfl⟩:=wIndexAddr_ok ho hx hp
  exact⟨v,h',⟨rfl,rfl⟩,read_goes hok (by rw [ho];rfl) hr⟩
 ·rename_i t x y ho
  obtain⟨v,h',hx,rfl⟩:=l1 hw
  obtain⟨hr,rfl⟩:=wIndex_ok ho hx hp
  exact⟨v,h',⟨rfl,rfl⟩,read_goes hok (by rw [ho];rfl) hr⟩
 ·rename_i op t x y yt ho
  obtain⟨v,h',hx,rfl⟩:=l1 hw
  obtain⟨hr,rfl⟩:=wBin_ok ho hx hp
  exact⟨v,h',⟨rfl,rfl⟩,read_goes hok (by rw [ho];rfl) hr⟩
 ·rename_i t x lo hi mx ho
  obtain⟨v,h',hx,rfl⟩:=l1 hw
  obtain⟨hr,rfl⟩:=wSlice_ok ho hx hp
  exact⟨v,h',⟨rfl,rfl⟩,read_goes hok (by rw [ho];rfl) hr⟩
 ·rename_i args ats ho
  obtain⟨v,h',hs,ha⟩:=wAppend_ok hw hp
  refine⟨v,h',hs,.inl (exec_eff hok (by rw [ho];rfl) ?_)⟩
  unfold effA
  simp only [ho,resolveA,bind,Except.bind,invokeA,builtinA]
  rw [ha]
 ·rename_i args ats ho
  obtain⟨v,h',hs,ha⟩:=wCopy_ok hw hp
  refine⟨v,h',hs,.inl (exec_eff hok (by rw [ho];rfl) ?_)⟩
  unfold effA
  simp only [ho,resolveA,bind,Except.bind,invokeA]
  exact ha
 ·rename_i args ats ho
  obtain⟨v,h',hs,ha⟩:=wUnsafeString_ok hw hp
  refine⟨v,h',hs,.inl (exec_eff hok (by rw [ho];rfl) ?_)⟩
  unfold effA
  simp only [ho,resolveA,bind,Except.bind,invokeA]
  exact ha
 ·rename_i args ats ho
  obtain⟨v,h',hs,ha⟩:=wDelete_ok hw hp
  refine⟨v,h',hs,.inl (exec_eff hok (by rw [ho];rfl) ?_)⟩
  unfold effA
  simp only [ho,resolveA,bind,Except.bind,invokeA]
  exact ha
 ·rename_i args ats ho
  obtain⟨v,h',hs,ha⟩:=wClear_ok hw hp
  refine⟨v,h',hs,.inl (exec_eff hok (by rw [ho];rfl) ?_)⟩
  unfold effA
  simp only [ho,resolveA,bind,Except.bind,invokeA]
  exact ha
 ·rename_i args ats ho
  obtain⟨v,h',hx,rfl⟩:=l1 hw
  unfold wSliceData at hx
  split at hx
  ·rename_i a l c ha
   split at hx
   ·rename_i hc
    rw [okk] at hx
    injection hx with e1 e2
    injection e2 with e2 e3
    subst e1;subst e2;subst e3
    refine⟨_,_,⟨rfl,rfl⟩,read_goes hok (by rw [ho];rfl) ?_⟩
    unfold readA
    simp only [ho,hc.2,ha,Bool.false_eq_true,if_false]
    have hc0:c ≠ 0:=by rintro rfl;exact absurd hc.1 (by decide)
    unfold readB
    exact if_pos ⟨hc0,.inr hp⟩
   ·simp [no] at hx
  ·simp [no] at hx
 ·rename_i s d x ho
  exact wConv_ok hok ho hw hp
 ·rename_i t l c ho
  exact wMakeSlice_ok hok ho hw hp
 ·rename_i t x y c ho
  exact wLookup_ok hok ho hw hp
 ·rename_i t m y x ho
  obtain⟨h',hs,ha⟩:=mapSet_ok' hw hp
  refine⟨undef,h',hs,.inr ⟨exec_eff hok (by rw [ho];rfl) ?_,rfl⟩⟩
  unfold effA
  simp only [ho,bind,Except.bind,ha]
 ·rename_i t m y x ho
  obtain⟨h',hs,ha⟩:=mapSet_ok' hw hp
  refine⟨undef,h',hs,.inr ⟨exec_eff hok (by rw [ho];rfl) ?_,rfl⟩⟩
  unfold effA
  simp only [ho,bind,Except.bind,ha]
 ·simp [no] at hw
theorem opT_ok{ρ:Operand→Value}{o:Oper}{h:AH}{p:Prop}{k:KT}(hw:opT P ρ o h = .ok (p,k))(hp:p):∃ v h',k.sat v h'∧Goes P ρ o h v h':=by
 unfold opT at hw
 rw [ite_no] at hw
 obtain⟨hok,hw⟩:=hw
 have hok:okOps P o=true:=by cases hq:okOps P o with | true=>rfl | false=>rw [hq] at hok;simp at hok
 split at hw
 ·rename_i args ats ho
  obtain⟨v,h',hs,ha⟩:=wAppendT_ok hw hp
  refine⟨v,h',hs,.inl (exec_eff hok (by rw [ho];rfl) ?_)⟩
  unfold effA
  simp only [ho,resolveA,bind,Except.bind,invokeA,builtinA]
  rw [ha]
 ·simp [no] at hw
end Go.Ev

namespace Go.Ev
variable {η:Nat→Value} {P:Program} {B:Bd}

theorem Run.tm{fn:FuncId}{h0 h:AH}{f:AF}{cs:List AF}{Q:Value→AH→Prop}{tm:T Value}(hi:∀ t,f.n≤t→tm.get t=none)(hg:∀ t,inT tm t=inT f.tm t)(r:Run η P B fn h0 ⟨{ f with tm:=tm },cs,h⟩ Q):Run η P B fn h0 ⟨f,cs,h⟩ Q:=by
 intro ρ0 w0 ρ fr cs' w cs0 p0 p R
 have F:=R.fr
 refine r ρ0 w0 ρ fr cs' w cs0 p0 p ⟨⟨F.fn,⟨F.tm.1,hi,fun t ht=>?_⟩,F.todo,F.defers,F.mode,F.kind,F.round⟩,R.cs,R.pre⟩
 have:=hg t
 unfold inT at this
 show VR η ρ ((tm.get t).getD undef) _
 rw [this]
 exact F.tm.2.2 t ht
def RunD(η:Nat→Value)(P:Program)(B:Bd)(fn:FuncId)(h0:AH)(keep:List Nat)(s:AS)(Q:Value→AH→Prop):Prop:=
 ∀ tm',(∀ t,s.fr.n≤t→tm'.get t=none)→(∀ t,keep.contains t=true→inT tm' t=inT s.fr.tm t)→Run η P B fn h0 ⟨{ s.fr with tm:=tm' },s.cs,s.hp⟩ Q
def canonT(keep:List Nat)(tm:T Value):Nat→T Value
 | 0=>.nil
 | n+1=>(canonT keep tm n).set n (if keep.contains n then inT tm n else undef)
theorem canonT_get(keep:List Nat)(tm:T Value):∀ n t,(canonT keep tm n).get t=if t<n then some (if keep.contains t then inT tm t else undef) else none
 | 0,t=>by rw [if_neg (by omega)];rfl
 | n+1,t=>by
  rw [canonT,T.get_set,canonT_get keep tm n t]
  by_cases h:t=n
  ·subst h;rw [if_pos rfl,if_pos (show t<t+1 by omega)]
  ·rw [if_neg h]
   by_cases h2:t<n
   ·rw [if_pos h2,if_pos (show t<n+1 by omega)]
   ·rw [if_neg h2,if_neg (show ¬ t<n+1 by omega)]
def allT(n:Nat)(f:Nat→Value):List Value:=(List.range n).map f
theorem allT_eq{n:Nat}{f g:Nat→Value}(h:allT n f=allT n g):∀ t,t<n→f t=g t:=by
 intro t ht
 have:=congrArg (fun l=>l[t]?) h
 simp only [allT,List.getElem?_map,List.getElem?_range ht,Option.map_some] at this
 injection this
theorem RunD.intro{fn:FuncId}{h0:AH}{keep:List Nat}{s:AS}{Q:Value→AH→Prop}(S:(Nat→Value)→AS)
  (e1:∀ d,(S d).cs=s.cs∧(S d).hp=s.hp∧{ (S d).fr with tm:=s.fr.tm }=s.fr) (hi:∀ d t,s.fr.n≤t→(S d).fr.tm.get t=none) (e2:∀ d,allT s.fr.n (inT (S d).fr.tm)=allT s.fr.n fun t=>if keep.contains t then inT s.fr.tm t else d t) (r:∀ d,Run η P B fn h0 (S d) Q):RunD η P B fn h0 keep s Q:=by
 intro tm' h1 h2
 have hr:=r (inT tm')
 obtain⟨c1,c2,c3⟩:=e1 (inT tm')
 have hn:(S (inT tm')).fr.n=s.fr.n:=by rw [← c3]
 refine Run.tm (f:={ s.fr with tm:=tm' }) (tm:=(S (inT tm')).fr.tm) (fun t ht=>hi _ t ht) (fun t=>?_) ?_
 ·show inT _ t=inT tm' t
  by_cases ht:t<s.fr.n
  ·rw [allT_eq (e2 (inT tm')) t ht]
   cases hk:keep.contains t with
   | true=>simp only [if_true];exact(h2 t hk).symm
   | false=>simp only [Bool.false_eq_true,if_false]
  ·unfold inT
   rw [hi _ t (by omega),h1 t (by omega)]
 ·have:(⟨{ ({ s.fr with tm:=tm' }:AF) with tm:=(S (inT tm')).fr.tm },s.cs,s.hp⟩:AS)=S (inT tm'):=by
   rw [← c1,← c2]
   have:({ ({ s.fr with tm:=tm' }:AF) with tm:=(S (inT tm')).fr.tm }:AF)=(S (inT tm')).fr:=by
    have h3:=congrArg (fun f:AF=>({ f with tm:=(S (inT tm')).fr.tm }:AF)) c3
    simp only at h3
    exact h3.symm
   rw [this]
  rw [this]
  exact hr
theorem RunD.at{fn:FuncId}{h0:AH}{keep:List Nat}{f:AF}{cs:List AF}{h:AH}{Q:Value→AH→Prop}(r:RunD η P B fn h0 keep ⟨{ f with tm:=canonT keep f.tm f.n },cs,h⟩ Q)(hi:∀ t,f.n≤t→f.tm.get t=none)(hk:keep.all (fun t=>decide (t<f.n))=true):Run η P B fn h0 ⟨f,cs,h⟩ Q:=by
 refine r f.tm hi (fun t ht=>?_)
 have hlt:t<f.n:=by
  have:=List.all_eq_true.1 hk t (by simpa using ht)
  simpa using this
 unfold inT
 simp only [canonT_get,if_pos hlt,ht,if_true,Option.getD_some]
 rfl

def mapO{α:Type}(f:α→Option α):List α→Option (List α)
 | []=>some []
 | x :: xs=>match f x,mapO f xs with
  | some y,some ys=>some (y :: ys)
  | _,_=>none
def renA(τ:Nat→Option Nat)(a:Addr):Option Addr:=(τ a.block).map fun r=>⟨r,a.off,a.spot⟩
def renV(τ:Nat→Option Nat):Nat→Value→Option Value
 | 0,_=>none
 | n+1,v=>match v with
  | .pointer (some a)=>some (match renA τ a with | some b=>.pointer (some b) | none=>.chan none)
  | .slice (some a) l c=>some (match renA τ a with | some b=>.slice (some b) l c | none=>.chan none)
  | .map (some r)=>some (match τ r with | some b=>.map (some b) | none=>.chan none)
  | .func (.yield l) a b=>match τ l with
   | some r=>match mapO (renV τ n) a.toList,mapO (renV τ n) b.toList with
    | some x,some y=>some (.func (.yield r) ⟨x⟩ ⟨y⟩)
    | _,_=>none
   | none=>some (.chan none)
  | .func f a b=>match mapO (renV τ n) a.toList,mapO (renV τ n) b.toList with
   | some x,some y=>some (.func f ⟨x⟩ ⟨y⟩)
   | _,_=>none
  | .iface t x=>(renV τ n x).map (.iface t)
  | .agg l=>(mapO (renV τ n) l.toList).map fun l=>.agg ⟨l⟩
  | .tuple l=>(mapO (renV τ n) l.toList).map fun l=>.tuple ⟨l⟩
  | v=>some v
theorem mapO_l2{α:Type}{R:α→α→Prop}{f:α→Option α}(hf:∀ x y,f x=some y→R y x):∀ {l m:List α},mapO f l=some m→L2 R m l
 | [],m,h=>by simp [mapO] at h;subst h;exact .nil
 | x :: xs,m,h=>by
  unfold mapO at h
  split at h
  ·rename_i y ys h1 h2;injection h with h;subst h;exact .cons (hf _ _ h1) (mapO_l2 hf h2)
  ·cases h
theorem renV_ok{σ:Nat→Nat}{N:Nat}{τ:Nat→Option Nat}(hτ:∀ r r',τ r=some r'→r'<N∧σ r'=r):∀ (n:Nat) {v v':Value},renV τ n v=some v'→RV σ N true v' v:=by
 intro n
 induction n with
 | zero=>intro v v' h;cases h
 | succ n ih=>
  intro v v' h
  have hL:∀ {l m:List Value},mapO (renV τ n) l=some m→L2 (RV σ N true) m l:=fun h=>mapO_l2 (R:=RV σ N true) (fun x y hx=>ih hx) h
  have hget:∀ {l m:List Value},L2 (RV σ N true) l m→l.length=m.length∧∀ (i:Nat) (v x:Value),l[i]? = some v→m[i]? = some x→RV σ N true v x:=by
   intro l m h2
   refine⟨h2.len,fun i v x hv hx=>?_⟩
   obtain⟨b,hb,hr⟩:=h2.get hv
   rw [hx] at hb;injection hb with hb;subst hb;exact hr
  unfold renV at h
  split at h
  ·rename_i a
   injection h with h;subst h
   unfold renA
   cases ht:τ a.block with
   | none=>exact .any rfl rfl
   | some r=>
    obtain⟨h1,h2⟩:=hτ _ _ ht
    obtain⟨b,o,s⟩:=a
    simp only at h2
    subst h2
    exact .ptr h1
  ·rename_i a l c
   injection h with h;subst h
   unfold renA
   cases ht:τ a.block with
   | none=>exact .any rfl rfl
   | some r=>
    obtain⟨h1,h2⟩:=hτ _ _ ht
    obtain⟨b,o,s⟩:=a
    simp only at h2
    subst h2
    exact .slice _ _ h1
  ·rename_i r
   injection h with h;subst h
   cases ht:τ r with
   | none=>exact .any rfl rfl
   | some r'=>
    obtain⟨h1,h2⟩:=hτ _ _ ht
    subst h2
    exact .map h1
  ·rename_i l a b
   cases ht:τ l with
   | none=>rw [ht] at h;injection h with h;subst h;exact .any rfl rfl
   | some r=>
    rw [ht] at h
    obtain⟨h1,h2⟩:=hτ _ _ ht
    subst h2
    simp only at h
    split at h
    ·rename_i x y hx hy
     injection h with h;subst h
     obtain⟨x1,x2⟩:=hget (hL hx)
     obtain⟨y1,y2⟩:=hget (hL hy)
     exact .func (.yield h1) x1 y1 x2 y2
    ·cases h
  ·rename_i f a b hf
   split at h
   ·rename_i x y hx hy
    injection h with h;subst h
    obtain⟨x1,x2⟩:=hget (hL hx)
    obtain⟨y1,y2⟩:=hget (hL hy)
    exact .func (.same fun l hl=>hf l hl) x1 y1 x2 y2
   ·cases h
  ·rename_i t x
   cases hx:renV τ n x with
   | none=>rw [hx] at h;cases h
   | some y=>rw [hx] at h;injection h with h;subst h;exact .iface t (ih hx)
  ·rename_i l
   cases hx:mapO (renV τ n) l.toList with
   | none=>rw [hx] at h;cases h
   | some y=>
    rw [hx] at h;injection h with h;subst h
    obtain⟨x1,x2⟩:=hget (hL hx)
    exact .agg x1 x2
  ·rename_i l
   cases hx:mapO (renV τ n) l.toList with
   | none=>rw [hx] at h;cases h
   | some y=>
    rw [hx] at h;injection h with h;subst h
    obtain⟨x1,x2⟩:=hget (hL hx)
    exact .tuple x1 x2
  ·rename_i h1 h2 h3 h4 h5 h6 h7 h8
   injection h with h;subst h
   cases v with
   | bool b=>exact .bool b
   | int k n=>exact .int k n
   | float k n=>exact .float k n
   | complex k a b=>exact .complex k a b
   | string s=>exact .string s
   | pointer a=>cases a with | none=>exact .ptr0 | some a=>exact absurd rfl (h1 a)
   | slice a l c=>cases a with | none=>exact .slice0 l c | some a=>exact absurd rfl (h2 a l c)
   | map a=>cases a with | none=>exact .map0 | some a=>exact absurd rfl (h3 a)
   | chan c=>exact .chan c
   | func f a b=>exact absurd rfl (h5 f a b)
   | nilFunc=>exact .nilFunc
   | nilIface=>exact .nilIface
   | iface t x=>exact absurd rfl (h6 t x)
   | agg l=>exact absurd rfl (h7 l)
   | tuple l=>exact absurd rfl (h8 l)
def bareN:Value→Bool
 | .bool _ | .int _ _ | .float _ _ | .complex _ _ _ | .string _ | .pointer none | .slice none _ _ | .map none | .nilFunc | .nilIface=>true
 | _=>false
def NoNames(c:List Value):Prop:=∀ v,v ∈ c→bareN v=true
def NoNamesE(es:List MapEntry):Prop:=∀ e,e ∈ es→bareN e.key=true∧bareN e.val=true
theorem bareN_rv{σ:Nat→Nat}{N:Nat}{wk:Bool}{v:Value}(h:bareN v=true):RV σ N wk v v:=by
 unfold bareN at h
 split at h <;> first | exact .bool _ | exact .int _ _ | exact .float _ _ | exact .complex _ _ _ | exact .string _ | exact .ptr0 | exact .slice0 _ _ | exact .map0 | exact .nilFunc | exact .nilIface | cases h
def tmOk(n:Nat):T Value→Nat→Nat→Bool
 | .nil,_,_=>true
 | .node o l r,a,c=>(o.isNone || decide (c<n)) && tmOk n l (2 * a) (a+c) && tmOk n r (2 * a) (2 * a+c)
theorem tmOk_at{n:Nat}:∀ {t:T Value} {a c:Nat},tmOk n t a c=true→∀ i,n≤a * i+c→t.get i=none
 | .nil,_,_,_,_,_=>rfl
 | .node o l r,a,c,h,i,hi=>by
  simp only [tmOk,Bool.and_eq_true,Bool.or_eq_true,decide_eq_true_eq,Option.isNone_iff_eq_none] at h
  unfold T.get
  by_cases h0:i=0
  ·rw [if_pos h0];subst h0
   rcases h.1.1 with h1 | h1
   ·exact h1
   ·omega
  ·rw [if_neg h0]
   by_cases h1:i % 2=1
   ·rw [if_pos h1]
    refine tmOk_at h.1.2 _ ?_
    have hh:i=2 * (i / 2)+1:=by omega
    have:a * i=2 * a * (i / 2)+a:=by
     conv=>lhs;rw [hh]
     rw [Nat.mul_add,Nat.mul_one,← Nat.mul_assoc,Nat.mul_comm a 2]
    omega
   ·rw [if_neg h1]
    refine tmOk_at h.2 _ ?_
    have hh:i=2 * (i / 2 - 1)+2:=by omega
    have:a * i=2 * a * (i / 2 - 1)+2 * a:=by
     conv=>lhs;rw [hh]
     rw [Nat.mul_add,← Nat.mul_assoc,Nat.mul_comm a 2]
    omega
theorem tmOk_get{n:Nat}{t:T Value}(h:tmOk n t 1 0=true):∀ i,n≤i→t.get i=none:=fun i hi=>tmOk_at h i (by omega)
def renT(τ:Nat→Option Nat)(keep:List Nat)(tm:T Value):Nat→Option (T Value)
 | 0=>some .nil
 | n+1=>match (if keep.contains n then renV τ 50 (inT tm n) else some undef),renT τ keep tm n with
  | some v,some t=>some (t.set n v)
  | _,_=>none
theorem renT_ok{τ:Nat→Option Nat}{keep:List Nat}{tm:T Value}:∀ {n:Nat} {t:T Value},renT τ keep tm n=some t→(∀ i,n≤i→t.get i=none)∧∀ i,i<n→keep.contains i=true→renV τ 50 (inT tm i)=some (inT t i)
 | 0,t,h=>by simp only [renT] at h;injection h with h;subst h;exact⟨fun _ _=>rfl,fun i hi=>by omega⟩
 | n+1,t,h=>by
  unfold renT at h
  split at h
  ·rename_i v t1 h1 h2
   injection h with h;subst h
   obtain⟨k1,k2⟩:=renT_ok h2
   refine⟨fun i hi=>by rw [T.get_set,if_neg (by omega)];exact k1 i (by omega),fun i hi hk=>?_⟩
   unfold inT
   rw [T.get_set]
   by_cases he:i=n
   ·subst he;rw [if_pos rfl];rw [if_pos hk] at h1;unfold inT at h1;rw [h1];rfl
   ·rw [if_neg he];exact k2 i (by omega) hk
  ·cases h
def renE(τ:Nat→Option Nat)(e:MapEntry):Option MapEntry:=match renV τ 50 e.key,renV τ 50 e.val with
 | some k,some v=>some { e with key:=k,val:=v }
 | _,_=>none
def renO(τ:Nat→Option Nat)(open_:Bool):AObj→Option (AObj × Prop)
 | .cells ty c p own=>if open_ then some (.cells ty c p own,NoNames c) else(mapO (renV τ 50) c).map fun c'=>(.cells ty c' p own,True)
 | .map es k own=>if open_ then some (.map es k own,NoNamesE es) else(mapO (renE τ) es).map fun es'=>(.map es' k own,True)
 | .stringIter s p=>some (.stringIter s p,True)
 | .mapIter none a b c=>some (.mapIter none a b c,True)
 | .mapIter (some m) a b c=>(τ m).map fun r=>(.mapIter (some r) a b c,True)
 | .loop st pend fn tm n ps asg body ds=>if tmOk n tm 1 0 then(match renT τ (List.range n) tm n,τ ds with
  | some tm',some ds'=>some (.loop st pend fn tm' n ps asg body ds',True)
  | _,_=>none) else none
 | .deferred none=>some (.deferred none,True)
 | .deferred (some [])=>some (.deferred (some []),True)
 | _=>none
theorem renO_ok{σ:Nat→Nat}{N:Nat}{τ:Nat→Option Nat}(hτ:∀ r r',τ r=some r'→r'<N∧σ r'=r){op:Bool}{o o':AObj}{p:Prop}(h:renO τ op o=some (o',p))(hp:p):RO σ N true o' o:=by
 unfold renO at h
 split at h
 ·rename_i ty c pl own
  cases op with
  | true=>
   simp only [if_true] at h
   injection h with h;injection h with e1 e2;subst e1;subst e2
   exact .cells ty pl (l2_same fun v hv=>bareN_rv (hp v hv)) (.inl rfl)
  | false=>
   simp only [Bool.false_eq_true,if_false] at h
   cases hm:mapO (renV τ 50) c with
   | none=>rw [hm] at h;cases h
   | some c'=>
    rw [hm] at h
    injection h with h;injection h with e1 e2;subst e1;subst e2
    exact .cells ty pl (mapO_l2 (R:=RV σ N true) (fun x y hx=>renV_ok hτ 50 hx) hm) (.inl rfl)
 ·rename_i es k own
  cases op with
  | true=>
   simp only [if_true] at h
   injection h with h;injection h with e1 e2;subst e1;subst e2
   have key:∀ {es:List MapEntry},NoNamesE es→L2 (RE σ N true) es es:=by
    intro es
    induction es with
    | nil=>intro _;exact .nil
    | cons e es ih=>
     intro h
     have h1:=h e (by simp)
     exact .cons ⟨bareN_rv h1.1,bareN_rv h1.2,rfl⟩ (ih fun x hx=>h x (by simp [hx]))
   exact .map k (key hp) (.inl rfl)
  | false=>
   simp only [Bool.false_eq_true,if_false] at h
   cases hm:mapO (renE τ) es with
   | none=>rw [hm] at h;cases h
   | some c'=>
    rw [hm] at h
    injection h with h;injection h with e1 e2;subst e1;subst e2
    refine .map k (mapO_l2 (R:=RE σ N true) (fun x y hx=>?_) hm) (.inl rfl)
    unfold renE at hx
    split at hx
    ·rename_i a b ha hb
     injection hx with hx;subst hx
     exact⟨renV_ok hτ 50 ha,renV_ok hτ 50 hb,rfl⟩
    ·cases hx
 ·injection h with h;injection h with e1 e2;subst e1;subst e2;exact .stringIter _ _
 ·injection h with h;injection h with e1 e2;subst e1;subst e2;exact .mapIter0 _ _ _
 ·rename_i m a b c
  cases ht:τ m with
  | none=>rw [ht] at h;cases h
  | some r=>
   rw [ht] at h
   injection h with h;injection h with e1 e2;subst e1;subst e2
   obtain⟨h1,h2⟩:=hτ _ _ ht
   subst h2
   exact .mapIter _ _ _ h1
 ·rename_i st pend fn tm n ps asg body ds
  split at h
  ·rename_i hok
   split at h
   ·rename_i tm' ds' ht hd
    injection h with h;injection h with e1 e2;subst e1;subst e2
    obtain⟨k1,k2⟩:=renT_ok ht
    obtain⟨h1,h2⟩:=hτ _ _ hd
    subst h2
    exact .loop k1 (tmOk_get hok) (fun t ht=>renV_ok hτ 50 (k2 t ht (by rw [List.contains_iff_mem];exact List.mem_range.2 ht))) h1
   ·cases h
  ·cases h
 ·injection h with h;injection h with e1 e2;subst e1;subst e2;exact .deferred0
 ·injection h with h;injection h with e1 e2;subst e1;subst e2;exact .deferred1
 ·cases h
structure Rn where
 N:Nat
 τ:List (Nat × Nat)
 bl:List (Nat × Nat × Bool)
def Rn.sg(rn:Rn)(nb r:Nat):Nat:=if r<nb then r else((rn.τ.find? fun p=>p.2 == r).map (·.1)).getD r
def Rn.tf(rn:Rn)(nb a:Nat):Option Nat:=if a<nb then some a else(rn.τ.find? fun p=>p.1 == a).map (·.2)
def nodupB:List Nat→Bool
 | []=>true
 | x :: xs=>!xs.contains x && nodupB xs
def Rn.good(rn:Rn)(gs nb:Nat):Bool:=
 decide (gs<nb) && decide (nb≤rn.N) && rn.τ.all (fun p=>decide (nb≤p.2) && decide (p.2<rn.N) && decide (nb≤p.1) && rn.sg nb p.2 == p.1) &&
  rn.bl.all (fun b=>decide (b.1<rn.N) && rn.sg nb b.1 == b.2.1) && nodupB (rn.bl.map (·.1)) && nodupB (rn.bl.map (·.2.1))
theorem Rn.tf_ok{rn:Rn}{gs nb:Nat}(h:rn.good gs nb=true):∀ r r',rn.tf nb r=some r'→r'<rn.N∧rn.sg nb r'=r:=by
 intro r r' hr
 simp only [Rn.good,Bool.and_eq_true,decide_eq_true_eq] at h
 obtain⟨⟨⟨⟨⟨h1,h2⟩,h3⟩,h4⟩,h5⟩,h6⟩:=h
 unfold Rn.tf at hr
 by_cases hlt:r<nb
 ·rw [if_pos hlt] at hr;injection hr with hr;subst hr
  exact⟨by omega,by unfold Rn.sg;rw [if_pos hlt]⟩
 ·rw [if_neg hlt] at hr
  cases hf:rn.τ.find? (fun p=>p.1 == r) with
  | none=>rw [hf] at hr;cases hr
  | some q=>
   rw [hf] at hr;injection hr with hr;subst hr
   have hq:=List.find?_some hf
   have hm:=List.mem_of_find?_eq_some hf
   have:=List.all_eq_true.1 h3 q hm
   simp only [Bool.and_eq_true,decide_eq_true_eq,beq_iff_eq] at this hq
   exact⟨this.1.1.2,this.2.trans hq⟩
def renH(τ:Nat→Option Nat)(h:AH):List (Nat × Nat × Bool)→Option (T AObj × Prop)
 | []=>some (.nil,True)
 | b :: l=>match h.objs.get b.2.1 with
  | none=>none
  | some o=>match renO τ b.2.2 o,renH τ h l with
   | some (o',p),some (t,q)=>some (t.set b.1 o',p∧q)
   | _,_=>none
theorem renH_ok{σ:Nat→Nat}{N:Nat}{τ:Nat→Option Nat}(hτ:∀ r r',τ r=some r'→r'<N∧σ r'=r){h:AH}:∀ {l:List (Nat × Nat × Bool)} {t:T AObj} {p:Prop},renH τ h l=some (t,p)→p→∀ r o,t.get r=some o→∃ b o',b ∈ l∧b.1=r∧h.objs.get b.2.1=some o'∧RO σ N true o o'
 | [],t,p,hr,hp,r,o,ho=>by
  simp only [renH] at hr;injection hr with hr;injection hr with e1 e2;subst e1;cases ho
 | b :: l,t,p,hr,hp,r,o,ho=>by
  unfold renH at hr
  cases hx:h.objs.get b.2.1 with
  | none=>rw [hx] at hr;cases hr
  | some ob=>
   rw [hx] at hr
   simp only at hr
   split at hr
   ·rename_i o' p1 t1 q1 h1 h2
    injection hr with hr;injection hr with e1 e2;subst e1;subst e2
    rw [T.get_set] at ho
    by_cases hb:r=b.1
    ·rw [if_pos hb] at ho
     injection ho with ho;subst ho
     exact⟨b,ob,by simp,hb.symm,hx,renO_ok hτ h1 hp.1⟩
    ·rw [if_neg hb] at ho
     obtain⟨b',o2,k1,k2,k3,k4⟩:=renH_ok hτ h2 hp.2 r o ho
     exact⟨b',o2,by simp [k1],k2,k3,k4⟩
   ·cases hr
theorem nodupB_inj{α:Type}{f:α→Nat}:∀ {l:List α},nodupB (l.map f)=true→∀ {x y:α},x ∈ l→y ∈ l→f x=f y→x=y
 | [],_,x,y,hx,_,_=>by cases hx
 | a :: l,h,x,y,hx,hy,e=>by
  simp only [List.map_cons,nodupB,Bool.and_eq_true,Bool.not_eq_true'] at h
  have hn:∀ z,z ∈ l→f z ≠ f a:=by
   intro z hz he
   have:(l.map f).contains (f a)=true:=by
    rw [List.contains_iff_mem];exact List.mem_map.2 ⟨z,hz,he⟩
   rw [this] at h;cases h.1
  rcases List.mem_cons.1 hx with h1 | h1
  ·rcases List.mem_cons.1 hy with h2 | h2
   ·rw [h1,h2]
   ·rw [h1] at e;exact absurd e.symm (hn _ h2)
  ·rcases List.mem_cons.1 hy with h2 | h2
   ·rw [h2] at e;exact absurd e (hn _ h1)
   ·exact nodupB_inj h.2 h1 h2 e
theorem ren_emb{rn:Rn}{nb:Nat}{h:AH}{t:T AObj}{p:Prop}(hg:rn.good P.globals.size nb=true)(hr:renH (rn.tf nb) h rn.bl=some (t,p))(hp:p):Emb P (rn.sg nb) ⟨t,rn.N⟩ h:=by
 have hτ:=rn.tf_ok hg
 have key:=renH_ok (N:=rn.N) (σ:=rn.sg nb) hτ hr hp
 simp only [Rn.good,Bool.and_eq_true,decide_eq_true_eq] at hg
 obtain⟨⟨⟨⟨⟨h1,h2⟩,h3⟩,h4⟩,h5⟩,h6⟩:=hg
 have hb:∀ b,b ∈ rn.bl→b.1<rn.N∧rn.sg nb b.1=b.2.1:=by
  intro b hb
  have:=List.all_eq_true.1 h4 b hb
  simp only [Bool.and_eq_true,decide_eq_true_eq,beq_iff_eq] at this
  exact this
 refine⟨fun g hgs=>⟨?_,?_⟩,fun r a hr=>?_,fun r r' a a' hr hr' he=>?_⟩
 ·show g<rn.N;omega
 ·unfold Rn.sg;rw [if_pos (by omega)]
 ·obtain⟨b,o',k1,k2,k3,k4⟩:=key r a hr
  obtain⟨l1,l2⟩:=hb b k1
  subst k2
  exact⟨l1,o',by rw [l2];exact k3,k4⟩
 ·obtain⟨b,_,k1,k2,_⟩:=key r a hr
  obtain⟨b',_,k1',k2',_⟩:=key r' a' hr'
  subst k2;subst k2'
  rw [(hb b k1).2,(hb b' k1').2] at he
  rw [nodupB_inj (f:=fun b:Nat × Nat × Bool=>b.2.1) h6 k1 k1' he]
theorem weak_ex{σ:Nat→Nat}{N:Nat}(v:Value):∃ v0,RV σ N true v0 v:=match v with
 | .agg l=>by
  have h:∀ m:List Value,(∀ x,x ∈ m→∃ v0,RV σ N true v0 x)→∃ m0,L2 (RV σ N true) m0 m:=by
   intro m
   induction m with
   | nil=>intro _;exact⟨[],.nil⟩
   | cons x m ih=>
    intro hx
    obtain⟨v0,hv⟩:=hx x (by simp)
    obtain⟨m0,hm⟩:=ih fun y hy=>hx y (by simp [hy])
    exact⟨v0 :: m0,.cons hv hm⟩
  obtain⟨m0,hm⟩:=h l.toList fun x hx=>weak_ex x
  refine⟨.agg ⟨m0⟩,.agg hm.len fun i v x hv hx=>?_⟩
  obtain⟨b,hb,hr⟩:=hm.get hv
  rw [hx] at hb;injection hb with hb;subst hb;exact hr
 | .tuple l=>by
  have h:∀ m:List Value,(∀ x,x ∈ m→∃ v0,RV σ N true v0 x)→∃ m0,L2 (RV σ N true) m0 m:=by
   intro m
   induction m with
   | nil=>intro _;exact⟨[],.nil⟩
   | cons x m ih=>
    intro hx
    obtain⟨v0,hv⟩:=hx x (by simp)
    obtain⟨m0,hm⟩:=ih fun y hy=>hx y (by simp [hy])
    exact⟨v0 :: m0,.cons hv hm⟩
  obtain⟨m0,hm⟩:=h l.toList fun x hx=>weak_ex x
  refine⟨.tuple ⟨m0⟩,.tuple hm.len fun i v x hv hx=>?_⟩
  obtain⟨b,hb,hr⟩:=hm.get hv
  rw [hx] at hb;injection hb with hb;subst hb;exact hr
 | .bool b=>⟨_,.bool b⟩
 | .int k n=>⟨_,.int k n⟩
 | .float k n=>⟨_,.float k n⟩
 | .complex k a b=>⟨_,.complex k a b⟩
 | .string s=>⟨_,.string s⟩
 | .pointer a=>⟨_,.any rfl rfl⟩
 | .slice a l c=>⟨_,.any rfl rfl⟩
 | .map a=>⟨_,.any rfl rfl⟩
 | .chan c=>⟨_,.chan c⟩
 | .func f a b=>⟨_,.any rfl rfl⟩
 | .nilFunc=>⟨_,.nilFunc⟩
 | .nilIface=>⟨_,.nilIface⟩
 | .iface t v=>by obtain⟨v0,h⟩:=weak_ex v;exact⟨.iface t v0,.iface t h⟩
termination_by SizeOf.sizeOf v
decreasing_by
 ·simp_wf
  have:=List.sizeOf_lt_of_mem hx
  have h2:SizeOf.sizeOf l=1+SizeOf.sizeOf l.toList:=by cases l;rfl
  omega
 ·simp_wf
  have:=List.sizeOf_lt_of_mem hx
  have h2:SizeOf.sizeOf l=1+SizeOf.sizeOf l.toList:=by cases l;rfl
  omega
 ·simp_wf
  omega
def tabT(f:Nat→Value):Nat→T Value
 | 0=>.nil
 | n+1=>(tabT f n).set n (f n)
theorem tabT_get(f:Nat→Value):∀ n t,(tabT f n).get t=if t<n then some (f t) else none
 | 0,t=>by rw [if_neg (by omega)];rfl
 | n+1,t=>by
  rw [tabT,T.get_set,tabT_get f n t]
  by_cases h:t=n
  ·subst h;rw [if_pos rfl,if_pos (show t<t+1 by omega)]
  ·rw [if_neg h]
   by_cases h2:t<n
   ·rw [if_pos h2,if_pos (show t<n+1 by omega)]
   ·rw [if_neg h2,if_neg (show ¬ t<n+1 by omega)]
def isRun:FrameMode→Bool
 | .run=>true
 | _=>false
def renI(τ:Nat→Option Nat):Item→Option Item
 | .inRangeFunc l=>(τ l).map .inRangeFunc
 | .endRangeFunc l=>(τ l).map .endRangeFunc
 | .code c=>some (.code c)
 | .inBlock i=>some (.inBlock i)
 | .inLoop c=>some (.inLoop c)
 | .inScope c=>some (.inScope c)
 | .inRegion a b=>some (.inRegion a b)
 | .beginRound=>some .beginRound
 | _=>none
theorem renI_ok{σ:Nat→Nat}{N:Nat}{τ:Nat→Option Nat}(hτ:∀ r r',τ r=some r'→r'<N∧σ r'=r){x y:Item}(h:renI τ x=some y):RI σ N y x:=by
 unfold renI at h
 split at h
 ·rename_i l
  rw [Option.map_eq_some_iff] at h
  obtain⟨r,h1,rfl⟩:=h
  obtain⟨h2,h3⟩:=hτ _ _ h1
  subst h3;exact .inRangeFunc h2
 ·rename_i l
  rw [Option.map_eq_some_iff] at h
  obtain⟨r,h1,rfl⟩:=h
  obtain⟨h2,h3⟩:=hτ _ _ h1
  subst h3;exact .endRangeFunc h2
 ·injection h with h;subst h;exact .code _
 ·injection h with h;subst h;exact .inBlock _
 ·injection h with h;subst h;exact .inLoop _
 ·injection h with h;subst h;exact .inScope _
 ·injection h with h;subst h;exact .inRegion _ _
 ·injection h with h;subst h;exact .beginRound
 ·cases h
def renD(τ:Nat→Option Nat):Deferred→Option Deferred
 | { target:=.collected r,args:=⟨[]⟩ }=>(τ r).map fun r'=>{ target:=.collected r',args:=⟨[]⟩ }
 | _=>none
theorem renD_ok{σ:Nat→Nat}{N:Nat}{τ:Nat→Option Nat}(hτ:∀ r r',τ r=some r'→r'<N∧σ r'=r){x y:Deferred}(h:renD τ x=some y):RDf σ N y x:=by
 unfold renD at h
 split at h
 ·rename_i r
  rw [Option.map_eq_some_iff] at h
  obtain⟨r',h1,rfl⟩:=h
  obtain⟨h2,h3⟩:=hτ _ _ h1
  subst h3;exact .coll h2
 ·cases h
def renRo(τ:Nat→Option Nat):Option Nat→Option (Option Nat)
 | none=>some none
 | some r=>(τ r).map some
theorem renRo_ok{σ:Nat→Nat}{N:Nat}{τ:Nat→Option Nat}(hτ:∀ r r',τ r=some r'→r'<N∧σ r'=r){x y:Option Nat}(h:renRo τ x=some y):RRo σ N y x:=by
 cases x with
 | none=>injection h with h;subst h;trivial
 | some r=>
  unfold renRo at h
  rw [Option.map_eq_some_iff] at h
  obtain⟨r',h1,rfl⟩:=h
  obtain⟨h2,h3⟩:=hτ _ _ h1
  exact⟨h2,h3.symm⟩
def renF(τ:Nat→Option Nat)(keep:List Nat)(f:AF):Option AF:=
 if isRun f.mode then match renT τ keep f.tm f.n,mapO (renI τ) f.todo,mapO (renD τ) f.defers,renRo τ f.round with
  | some tm,some todo,some defers,some round=>some { fn:=f.fn,n:=f.n,tm,todo,defers,mode:=f.mode,kind:=f.kind,round }
  | _,_,_,_=>none
 else none
theorem renF_ok{σ:Nat→Nat}{N:Nat}{τ:Nat→Option Nat}(hτ:∀ r r',τ r=some r'→r'<N∧σ r'=r){keep:List Nat}{f f':AF}(h:renF τ keep f=some f')(tm:T Value)(hi:∀ t,f.n≤t→tm.get t=none)(ht:∀ t,t<f.n→RV σ N true (inT tm t) (inT f.tm t)) :
  RFr σ N { f' with tm:=tm } f:=by
 unfold renF at h
 split at h
 ·rename_i hm
  split at h
  ·rename_i tm1 todo defers round h1 h2 h3 h4
   injection h with h;subst h
   refine⟨rfl,rfl,hi,ht,mapO_l2 (R:=RI σ N) (fun x y hx=>renI_ok hτ hx) h2,mapO_l2 (R:=RDf σ N) (fun x y hx=>renD_ok hτ hx) h3,⟨rfl,?_⟩,rfl,renRo_ok hτ h4⟩
   cases hm2:f.mode with
   | run=>exact .inl rfl
   | returning=>exact .inr rfl
   | panicking c=>rw [hm2] at hm;simp [isRun] at hm
  ·cases h
 ·cases h
theorem renF_tm{τ:Nat→Option Nat}{keep:List Nat}{f f':AF}(h:renF τ keep f=some f'):renT τ keep f.tm f.n=some f'.tm∧f'.n=f.n:=by
 unfold renF at h
 split at h
 ·split at h
  ·rename_i tm1 todo defers round h1 h2 h3 h4
   injection h with h;subst h
   exact⟨h1,rfl⟩
  ·cases h
 ·cases h
def renC(τ:Nat→Option Nat)(f:AF):Option AF:=renF τ (List.range f.n) f
theorem renC_ok{σ:Nat→Nat}{N:Nat}{τ:Nat→Option Nat}(hτ:∀ r r',τ r=some r'→r'<N∧σ r'=r){f f':AF}(h:renC τ f=some f'):RFr σ N f' f:=by
 obtain⟨h1,h2⟩:=renF_tm h
 obtain⟨k1,k2⟩:=renT_ok h1
 exact renF_ok hτ h f'.tm k1 fun t ht=>renV_ok hτ 50 (k2 t ht (by rw [List.contains_iff_mem];exact List.mem_range.2 ht))
def renS(gs nb:Nat)(rn:Rn)(keep:List Nat)(s:AS):Option (AS × Prop):=
 if rn.good gs nb then
  match renF (rn.tf nb) keep s.fr,mapO (renC (rn.tf nb)) s.cs,renH (rn.tf nb) s.hp rn.bl with
  | some fr,some cs,some (t,p)=>some (⟨fr,cs,⟨t,rn.N⟩⟩,p)
  | _,_,_=>none
 else none
theorem RunD.renS(hη:OneCells η){fn:FuncId}{h0:AH}{rn:Rn}{keep:List Nat}{s s':AS}{p:Prop}{Q:Value→AH→Prop}(h:renS P.globals.size h0.next rn keep s=some (s',p))(hp:p)(r:RunD η P B fn h0 keep s' Q):Run η P B fn h0 s Q:=by
 unfold Go.Ev.renS at h
 split at h
 ·rename_i c5
  split at h
  ·rename_i fr cs t q h1 hcs h2
   injection h with h;injection h with e1 e2;subst e1;subst e2
   obtain⟨f,cs0,hp0⟩:=s
   simp only at h1 hcs h2 r
   have hτ:=rn.tf_ok c5
   have hgd:=c5
   simp only [Rn.good,Bool.and_eq_true,decide_eq_true_eq] at hgd
   have hn:h0.next≤rn.N:=hgd.1.1.1.1.2
   obtain⟨ht,hnn⟩:=renF_tm h1
   obtain⟨k1,k2⟩:=renT_ok ht
   have hw:∀ i,∃ v0,RV (rn.sg h0.next) rn.N true v0 (inT f.tm i)∧(i<f.n→keep.contains i=true→v0=inT fr.tm i):=by
    intro i
    by_cases hk:i<f.n∧keep.contains i=true
    ·exact⟨inT fr.tm i,renV_ok hτ 50 (k2 i hk.1 hk.2),fun _ _=>rfl⟩
    ·obtain⟨v0,hv⟩:=weak_ex (σ:=rn.sg h0.next) (N:=rn.N) (inT f.tm i)
     exact⟨v0,hv,fun h1 h2=>absurd ⟨h1,h2⟩ hk⟩
   let g:Nat→Value:=fun i=>Classical.choose (hw i)
   have hg:∀ i,RV (rn.sg h0.next) rn.N true (g i) (inT f.tm i)∧(i<f.n→keep.contains i=true→g i=inT fr.tm i):=fun i=>Classical.choose_spec (hw i)
   have hr:=r (tabT g f.n) (fun i hi=>by rw [tabT_get,if_neg (by simp only at hi;omega)]) (fun i hk=>by
    show inT (tabT g f.n) i=inT fr.tm i
    by_cases hi:i<f.n
    ·unfold inT;rw [tabT_get,if_pos hi];exact(hg i).2 hi hk
    ·unfold inT;rw [tabT_get,if_neg hi,k1 i (by omega)])
   refine Run.ren (f:={ fr with tm:=tabT g f.n }) (hs:=⟨t,rn.N⟩) hη (rn.sg h0.next) (ren_emb c5 h2 hp) hn (fun r hr=>by unfold Rn.sg;rw [if_pos hr]) (renF_ok hτ h1 (tabT g f.n) (fun i hi=>?_) fun i hi=>?_) (mapO_l2 (R:=RFr (rn.sg h0.next) rn.N) (fun x y hx=>renC_ok hτ hx) hcs) hr
   ·rw [tabT_get,if_neg (by omega)]
   ·show RV _ _ _ (((tabT g f.n).get i).getD undef) _
    rw [tabT_get,if_pos (show i<f.n from hi)]
    exact(hg i).1
  ·cases h
 ·cases h
end Go.Ev

