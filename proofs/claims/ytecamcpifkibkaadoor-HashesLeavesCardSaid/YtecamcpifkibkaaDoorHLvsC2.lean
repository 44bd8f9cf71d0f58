/- HLvsC, part 2: what the proof needs, in the order of its texts. -/
import Derived.Test.YtecamcpifkibkaaDoorHLvsC1
import Derived.Lib.UnsafeStr
import Derived.Calls
import Derived.Orders
set_option linter.unusedVariables false
set_option linter.unusedSimpArgs false
namespace Go.Ev
variable {η:Nat→Value}
theorem L2.modify{α:Type}{R:MapEntry→MapEntry→Prop}{f g:MapEntry→MapEntry}(hfg:∀ a b,R a b→R (f a) (g b)){l m:List MapEntry}(h:L2 R l m):∀ i,L2 R (modEntry f l i) (m.modify i g):=by
 induction h with
 | nil=>intro i;simp only [modEntry,List.modify_nil];exact .nil
 | cons h k ih=>
  intro i
  cases i with
  | zero=>simp only [modEntry,List.modify_zero_cons];exact .cons (hfg _ _ h) k
  | succ i=>simp only [modEntry,List.modify_succ_cons];exact .cons h (ih i)
theorem L2.eraseIdx{α β:Type}{R:α→β→Prop}{l:List α}{m:List β}(h:L2 R l m):∀ i,L2 R (l.eraseIdx i) (m.eraseIdx i):=by
 induction h with
 | nil=>intro i;exact .nil
 | cons h k ih=>
  intro i
  cases i with
  | zero=>exact k
  | succ i=>exact .cons h (ih i)
theorem L2.snoc{α β:Type}{R:α→β→Prop}{l:List α}{m:List β}{a:α}{b:β}(h:L2 R l m)(k:R a b):L2 R (l ++ [a]) (m ++ [b]):=h.append (.cons k .nil)
theorem L2.findIdx{p q:MapEntry→Bool}{R:MapEntry→MapEntry→Prop}(hpq:∀ a b,R a b→p a=q b){l m:List MapEntry}(h:L2 R l m):l.findIdx? p=m.findIdx? q:=by
 induction h with
 | nil=>rfl
 | cons h k ih=>simp only [List.findIdx?_cons,hpq _ _ h,ih]
section
variable {P:Program} {ρ:Env} {B:Bd} {h:AH} {w:World}
theorem run_setObj{r:Nat}{o o':Obj}(hr:w.heap[r]? = some o)(ho:∀ c t f,o ≠ .cells c t f):(setObj r o').run P w = .ok () (wput w r o'):=by
 simp only [setObj,Sem.run,hr]
 cases o <;> first | rfl | exact absurd rfl (ho _ _ _)
theorem ER.set{k k' x x':Value}(hk:VR η ρ k k')(hx:VR η ρ x x')(a b:MapEntry)(h:ER η ρ a b):ER η ρ { a with key:=k,val:=x } { b with key:=k',val:=x' }:=⟨hk,hx,h.2.2⟩
theorem ER.setKey{k k':Value}(hk:VR η ρ k k')(a b:MapEntry)(h:ER η ρ a b):ER η ρ { a with key:=k } { b with key:=k' }:=⟨hk,h.2.1,h.2.2⟩
theorem ER.setVal{x x':Value}(hx:VR η ρ x x')(a b:MapEntry)(h:ER η ρ a b):ER η ρ { a with val:=x } { b with val:=x' }:=⟨h.1,hx,h.2.2⟩
theorem Post.map(p:Pre η P ρ B h w){r:Nat}{es es2:List MapEntry}{c c2 b d n:Nat}{E2:Array MapEntry}(hg:h.objs.get r=some (.map es c true))(he:ρ r=some (b,d,n))(h2:L2 (ER η ρ) es2 E2.toList) :
  Post η ρ B h w ρ (putA h r (.map es2 c2 true)) (wput w b (.map E2 c2)):=Post.put p hg rfl he rfl ⟨E2,rfl,h2⟩
theorem keyStays{E:Array MapEntry}{i:Nat}{e':MapEntry}{k k':Value}(h1:E.toList[i]? = some e')(hb:∀ n,Instr.sameBits n e'.key k'=true):(Instr.keyThatStays (((E[i]?).map (·.key)).getD k) k').run P w = .ok k' w:=by
 have:E[i]? = some e':=by simpa using h1
 rw [this]
 simp only [Option.map_some,Option.getD_some,Instr.keyThatStays,hb,if_true];rfl
theorem mapSet_ok(p:Pre η P ρ B h w){t:TypeId}{m k x m' k' x':Value}{h':AH}(hs:mapSet P h t m k x = .ok h')(hm:VR η ρ m m')(hk:VR η ρ k k')(hx:VR η ρ x x') :
  ∃ w',(Instr.mapUpdate t m' k' x').run P w = .ok () w'∧Post η ρ B h w ρ h' w':=by
 simp only [mapSet,bind_ok,undA_ok] at hs
 obtain⟨d,hd,hs⟩:=hs
 split at hs
 ·rename_i key elem r
  obtain⟨b,dd,n,rfl,hρ⟩:=hm.map_inv
  simp only [bind_ok] at hs
  obtain⟨⟨es,c,own⟩,hmap,hs⟩:=hs
  simp only [ite_no] at hs
  obtain⟨hown,hs⟩:=hs
  have hown:own=true:=by simpa using hown
  subst hown
  have hg:=mapOf_ok.1 hmap
  simp only [] at hg
  obtain⟨b2,d2,n2,E,h1,h2,h3,h4⟩:=p.hr.map hg
  rw [hρ] at h1;cases h1
  simp only [bind_ok] at hs
  obtain⟨f,hf,hs⟩:=hs
  obtain⟨hck,hf⟩:=findM_ok (P:=P) (w:=w) hf hk h3
  rcases hf with⟨rfl,hrun⟩ | ⟨j,e,e',rfl,he,he',her,hkk,hke,hsb,hrun⟩
  ·simp only [okk] at hs;subst hs
   refine⟨wput w b (.map (E.push { key:=k',val:=x',born:=c }) (c+1)),?_,Post.map p hg hρ (by rw [Array.toList_push];exact h3.snoc ⟨hk,hx,rfl⟩)⟩
   simp only [Instr.mapUpdate,Sem.run_bind,run_und hd,Result.andThen_ok,run_getObj h2 (by simp),hck,hrun,run_setObj h2 (by simp)]
  ·simp only [okk] at hs;subst hs
   have hst:=keyStays (P:=P) (w:=w) (k:=k') (k':=k') he' (fun n=>by rw [hke,hkk];exact hsb n)
   refine⟨wput w b (.map (E.modify j fun e=>{ e with key:=k',val:=x' }) c),?_,Post.map p hg hρ (by rw [Array.toList_modify];exact L2.modify (α:=Unit) (ER.set hk hx) h3 j)⟩
   simp only [Instr.mapUpdate,Sem.run_bind,run_und hd,Result.andThen_ok,run_getObj h2 (by simp),hck,hrun,hst,run_setObj h2 (by simp)]
 ·simp [no] at hs
theorem mapEntryA_ok(p:Pre η P ρ B h w){t:TypeId}{m k m' k' v:Value}{h':AH}(hs:mapEntryA P h t m k = .ok (v,h'))(hm:VR η ρ m m')(hk:VR η ρ k k') :
  ∃ x w',(Instr.mapEntry t m' k').run P w = .ok x w'∧VR η ρ v x∧Post η ρ B h w ρ h' w':=by
 simp only [mapEntryA,bind_ok,undA_ok] at hs
 obtain⟨d,hd,hs⟩:=hs
 split at hs
 ·rename_i key elem r
  obtain⟨b,dd,n,rfl,hρ⟩:=hm.map_inv
  simp only [bind_ok] at hs
  obtain⟨⟨es,c,own⟩,hmap,hs⟩:=hs
  simp only [ite_no] at hs
  obtain⟨hown,hs⟩:=hs
  have hown:own=true:=by simpa using hown
  subst hown
  have hg:=mapOf_ok.1 hmap
  simp only [] at hg
  obtain⟨b2,d2,n2,E,h1,h2,h3,h4⟩:=p.hr.map hg
  rw [hρ] at h1;cases h1
  simp only [bind_ok] at hs
  obtain⟨f,hf,hs⟩:=hs
  obtain⟨hck,hf⟩:=findM_ok (P:=P) (w:=w) hf hk h3
  rcases hf with⟨rfl,hrun⟩ | ⟨j,e,e',rfl,he,he',her,hkk,hke,hsb,hrun⟩
  ·simp only [bind_ok] at hs
   obtain⟨z,hz,hs⟩:=hs
   rw [okk] at hs;injection hs with e1 e2;subst e1;subst e2
   refine⟨.tuple #[z,goInt c],wput w b (.map (E.push { key:=k',val:=z,born:=c }) (c+1)),?_,.tup' (.cons (.zero hz) (.cons (.int _ _) .nil)),Post.map p hg hρ (by rw [Array.toList_push];exact h3.snoc ⟨hk,.zero hz,rfl⟩)⟩
   simp only [Instr.mapEntry,Sem.run_bind,run_und hd,Result.andThen_ok,run_getObj h2 (by simp),hck,hrun,run_zero hz,run_setObj h2 (by simp)];rfl
  ·rw [okk] at hs;injection hs with e1 e2;subst e1;subst e2
   have hst:=keyStays (P:=P) (w:=w) (k:=k') (k':=k') he' (fun n=>by rw [hke,hkk];exact hsb n)
   have hE:E[j]? = some e':=by simpa using he'
   refine⟨.tuple #[e'.val,goInt e'.born],wput w b (.map (E.modify j fun e=>{ e with key:=k' }) c),?_,?_,Post.map p hg hρ (by rw [Array.toList_modify];exact L2.modify (α:=Unit) (ER.setKey hk) h3 j)⟩
   ·simp only [Instr.mapEntry,Sem.run_bind,run_und hd,Result.andThen_ok,run_getObj h2 (by simp),hck,hrun,hst,run_setObj h2 (by simp)]
    rw [hE];rfl
   ·rw [he]
    simp only [Option.map_some,Option.getD_some,her.2.2]
    exact .tup' (.cons her.2.1 (.cons (.int _ _) .nil))
 ·simp [no] at hs
theorem entryStoreA_ok(p:Pre η P ρ B h w){t:TypeId}{m s x m' s' x':Value}{h':AH}(hs:entryStoreA h m s x = .ok h')(hm:VR η ρ m m')(hst:VR η ρ s s')(hx:VR η ρ x x') :
  ∃ w',(Instr.entryStore t m' s' x').run P w = .ok () w'∧Post η ρ B h w ρ h' w':=by
 unfold entryStoreA at hs
 split at hs
 ·rename_i r
  obtain⟨b,dd,n,rfl,hρ⟩:=hm.map_inv
  simp only [bind_ok,intOfA_ok] at hs
  obtain⟨⟨es,c,own⟩,hmap,bn,⟨kk,rfl⟩,hs⟩:=hs
  have:=hst.int_inv;subst this
  simp only [ite_no] at hs
  obtain⟨hown,hs⟩:=hs
  have hown:own=true:=by simpa using hown
  subst hown
  have hg:=mapOf_ok.1 hmap
  simp only [] at hg
  obtain⟨b2,d2,n2,E,h1,h2,h3,h4⟩:=p.hr.map hg
  rw [hρ] at h1;cases h1
  split at hs
  ·rename_i i hi
   rw [okk] at hs;subst hs
   have hf:E.findIdx? (fun e=>(e.born:Int) == bn)=some i:=by
    have hfi:∀ (E:Array MapEntry) q,E.findIdx? q=E.toList.findIdx? q:=fun E q=>by obtain⟨l⟩:=E;simp
    rw [hfi,← hi,bornAt]
    exact(L2.findIdx (fun a b hab=>by rw [hab.2.2]) h3).symm
   refine⟨wput w b (.map (E.modify i fun e=>{ e with val:=x' }) c),?_,Post.map p hg hρ (by rw [Array.toList_modify];exact L2.modify (α:=Unit) (ER.setVal hx) h3 i)⟩
   simp only [Instr.entryStore,Sem.run_bind,Result.andThen_ok,run_getObj h2 (by simp),asInt,run_asIntOf,Sem.run_pure,hf,run_setObj h2 (by simp)]
  ·simp [no] at hs
 ·simp [no] at hs
theorem deleteA_ok(p:Pre η P ρ B h w){t:TypeId}{ts:List TypeId}{type:TypeId}{m k m' k':Value}{h':AH}(hs:deleteA P h t m k = .ok h')(hm:VR η ρ m m')(hk:VR η ρ k k') :
  ∃ w',(Builtin.delete_ ⟨t :: ts⟩ type #[m',k']).run P w = .ok (.tuple #[]) w'∧Post η ρ B h w ρ h' w':=by
 have e0:(⟨t :: ts⟩:Array TypeId)[0]? = some t:=rfl
 have e2:(#[m',k']:Array Value)[0]? = some m':=rfl
 have e3:(#[m',k']:Array Value)[1]? = some k':=rfl
 simp only [deleteA,bind_ok,undA_ok] at hs
 obtain⟨d,hd,hs⟩:=hs
 split at hs
 ·rename_i key elem
  split at hs
  ·have:=hm.map0_inv;subst this
   simp only [bind_ok] at hs
   obtain⟨kd,hkd,hs⟩:=hs
   rw [okk] at hs;subst hs
   obtain⟨hu,hd'⟩:=keyKind_ok hkd
   refine⟨w,?_,.refl p⟩
   simp only [Builtin.delete_,e0,e2,e3,Sem.run_bind,run_und hd,Result.andThen_ok,run_checkKey hu hd' true 9999 k',Sem.run_pure]
  ·rename_i r
   obtain⟨b,dd,n,rfl,hρ⟩:=hm.map_inv
   simp only [bind_ok] at hs
   obtain⟨⟨es,c,own⟩,hmap,hs⟩:=hs
   simp only [ite_no] at hs
   obtain⟨hown,hs⟩:=hs
   have hown:own=true:=by simpa using hown
   subst hown
   have hg:=mapOf_ok.1 hmap
   simp only [] at hg
   obtain⟨b2,d2,n2,E,h1,h2,h3,h4⟩:=p.hr.map hg
   rw [hρ] at h1;cases h1
   simp only [bind_ok] at hs
   obtain⟨f,hf,hs⟩:=hs
   obtain⟨hck,hf⟩:=findM_ok (P:=P) (w:=w) hf hk h3
   rcases hf with⟨rfl,hrun⟩ | ⟨j,e,e',rfl,he,he',her,hkk,hke,hsb,hrun⟩
   ·simp only [okk] at hs;subst hs
    refine⟨wput w b (.map E c),?_,Post.map p hg hρ h3⟩
    simp only [Builtin.delete_,e0,e2,e3,Sem.run_bind,run_und hd,Result.andThen_ok,run_getObj h2 (by simp),hck,hrun,run_setObj h2 (by simp),Sem.run_pure]
   ·simp only [okk] at hs;subst hs
    have hE:(E.eraseIdxIfInBounds j).toList=E.toList.eraseIdx j:=by
     have hlt:j<E.size:=(List.getElem?_eq_some_iff.1 he').1
     unfold Array.eraseIdxIfInBounds
     rw [dif_pos hlt]
     simp
    refine⟨wput w b (.map (E.eraseIdxIfInBounds j) c),?_,Post.map p hg hρ (by rw [hE];exact h3.eraseIdx j)⟩
    simp only [Builtin.delete_,e0,e2,e3,Sem.run_bind,run_und hd,Result.andThen_ok,run_getObj h2 (by simp),hck,hrun,run_setObj h2 (by simp),Sem.run_pure]
  ·simp [no] at hs
 ·simp [no] at hs
theorem clearA_ok(hη:OneCells η)(p:Pre η P ρ B h w){t:TypeId}{ts:List TypeId}{type:TypeId}{x x':Value}{h':AH}(hs:clearA P h t x = .ok h')(hx:VR η ρ x x') :
  ∃ w',(Builtin.clear_ ⟨t :: ts⟩ type #[x']).run P w = .ok (.tuple #[]) w'∧Post η ρ B h w ρ h' w':=by
 have e0:(⟨t :: ts⟩:Array TypeId)[0]? = some t:=rfl
 have e2:(#[x']:Array Value)[0]? = some x':=rfl
 simp only [clearA,bind_ok,undA_ok] at hs
 obtain⟨d,hd,hs⟩:=hs
 split at hs
 ·have:=hx.map0_inv;subst this
  rw [okk] at hs;subst hs
  exact⟨w,by simp only [Builtin.clear_,e0,e2,Sem.run_bind,run_und hd,Result.andThen_ok];rfl,.refl p⟩
 ·rw [ite_no,okk] at hs
  obtain⟨hcE,hs⟩:=hs
  subst hs
  obtain⟨a',c',rfl,hc⟩:=hx.slice_inv3 (.inr hcE)
  have e1:a'=none:=by rcases hc with⟨_,e,_⟩ | ⟨_,_,e,_⟩ | ⟨_,_,_,_,_,_,e,_⟩ <;> first | exact e | cases e
  subst e1
  exact⟨w,by simp only [Builtin.clear_,e0,e2,Sem.run_bind,run_und hd,Result.andThen_ok];rfl,.refl p⟩
 ·rename_i r
  obtain⟨b,dd,n,rfl,hρ⟩:=hx.map_inv
  simp only [bind_ok] at hs
  obtain⟨⟨es,c,own⟩,hmap,hs⟩:=hs
  simp only [ite_no',okk] at hs
  obtain⟨rfl,rfl⟩:=hs
  have hg:=mapOf_ok.1 hmap
  simp only [] at hg
  obtain⟨b2,d2,n2,E,h1,h2,h3,h4⟩:=p.hr.map hg
  rw [hρ] at h1;cases h1
  refine⟨wput w b (.map #[] c),?_,Post.map p hg hρ .nil⟩
  simp only [Builtin.clear_,e0,e2,Sem.run_bind,run_und hd,Result.andThen_ok,run_getObj h2 (by simp),run_setObj h2 (by simp),Sem.run_pure]
 ·rename_i elem a n c
  obtain⟨a',c',rfl,hc⟩:=hx.slice_inv3 (.inl rfl)
  obtain⟨q,rfl,hq⟩:∃ q,a'=some q∧AdR ρ a q:=by
   rcases hc with⟨e,_⟩ | ⟨_,q,e,e',hq,_⟩ | ⟨_,q,_,_,_,_,e,e',hq,_⟩
   ·cases e
   ·cases e;exact⟨q,e',hq⟩
   ·cases e;exact⟨q,e',hq⟩
  by_cases hn:n=0
  ·rw [if_pos hn,okk] at hs;subst hs;subst hn
   exact⟨w,by simp only [Builtin.clear_,e0,e2,Sem.run_bind,run_und hd,Result.andThen_ok];rfl,.refl p⟩
  ·rw [if_neg hn] at hs
   simp only [bind_ok] at hs
   obtain⟨z,hz,hs⟩:=hs
   have hl:=(VR.zero (η:=η) (ρ:=ρ) hz).cells hη
   have hzc:(Builtin.zeroCells z.cells n).toList=rep z.cells.toList n:=range_rep rfl
   rw [cells_cellsL] at hl
   obtain⟨w',hw',hpost⟩:=storeC_ok (P:=P) hη p hs hq (vs':=(Builtin.zeroCells z.cells n).toList) (by rw [hzc,cells_cellsL];exact LR.rep hl n)
   refine⟨w',?_,hpost⟩
   obtain⟨n',rfl⟩:∃ n',n=n'+1:=⟨n - 1,by omega⟩
   simp only [Builtin.clear_,e0,e2,Sem.run_bind,run_und hd,Result.andThen_ok,run_zero hz,hw',Sem.run_pure]
 ·simp [no] at hs
end
end Go.Ev

namespace Go.Ev
variable {η:Nat→Value}
section
variable {P:Program} {ρ:Env} {B:Bd} {h:AH} {w:World}
theorem HR.iter(H:HR η ρ B h w){r:Nat}{m:Option Nat}{since last:Nat}{seen:List Nat}(hg:h.objs.get r=some (.mapIter m since seen last)) :
  ∃ b n m',ρ r=some (b,0,n)∧w.heap[b]? = some (.mapIter m' since seen.toArray last)∧((m=none∧m'=none)∨∃ r b d n,m=some r∧m'=some b∧ρ r=some (b,d,n)):=by
 obtain⟨b,d,n,o,h1,h2,⟨rfl,m',rfl,h3⟩,_⟩:=H.obj _ _ hg
 refine⟨b,n,m',h1,h2,?_⟩
 cases m <;> cases m' <;> simp only at h3
 ·exact .inl ⟨rfl,rfl⟩
 ·obtain⟨d,n,h3⟩:=h3;exact .inr ⟨_,_,d,n,rfl,rfl,h3⟩
theorem nextA_ok(p:Pre η P ρ B h w){it it' v:Value}{isS:Bool}{type:TypeId}{h':AH}(hn:nextA h it isS = .ok (v,h'))(hi:VR η ρ it it') :
  ∃ x w',(Instr.next it' isS type).run P w = .ok x w'∧VR η ρ v x∧Post η ρ B h w ρ h' w':=by
 have over:VR η ρ (tupL [.bool false]) (.tuple #[.bool false]):=.tup' (.cons (.bool _) .nil)
 unfold nextA at hn
 split at hn
 ·rename_i r sp
  obtain⟨q,rfl,hq⟩:=hi.ptr_inv
  obtain⟨hsp,n,b,d,hρ,rfl⟩:=hq
  simp only at hρ hsp
  split at hn
  ·rename_i s pos hg
   obtain⟨b2,d2,n2,o,h1,h2,⟨hd0,rfl⟩,h4⟩:=p.hr.obj _ _ hg
   rw [hρ] at h1;cases h1
   subst hd0
   split at hn
   ·rename_i hlt
    simp only [okk] at hn
    injection hn with e1 e2;subst e1;subst e2
    refine⟨.tuple #[.bool true,goInt pos,.int .i32 (Utf8.decode s pos).1],wput w b (.stringIter s (pos+(Utf8.decode s pos).2)),?_,.tup' (.cons (.bool _) (.cons (.int _ _) (.cons (.int _ _) .nil))),Post.put p hg rfl hρ rfl ⟨rfl,rfl⟩⟩
    simp only [Instr.next,Nat.zero_add,Sem.run_bind,run_getObj h2 (by simp),Result.andThen_ok,hlt,if_true,run_setObj h2 (by simp),Sem.run_pure]
   ·rename_i hlt
    simp only [okk] at hn
    injection hn with e1 e2;subst e1;subst e2
    refine⟨_,w,?_,over,.refl p⟩
    simp only [Instr.next,Nat.zero_add,Sem.run_bind,run_getObj h2 (by simp),Result.andThen_ok,hlt,if_false,Sem.run_pure]
  ·rename_i since seen last hg
   obtain⟨b2,n2,m',h1,h2,h3⟩:=p.hr.iter hg
   rw [hρ] at h1;cases h1
   rcases h3 with⟨_,rfl⟩ | ⟨_,_,_,_,h3,_⟩
   case inr=>cases h3
   case inl=>
    simp only [okk] at hn
    injection hn with e1 e2;subst e1;subst e2
    refine⟨_,w,?_,over,.refl p⟩
    simp only [Instr.next,Nat.zero_add,Sem.run_bind,run_getObj h2 (by simp),Result.andThen_ok,Sem.run_pure]
  ·rename_i m since seen last hg
   obtain⟨b2,n2,m',h1,h2,h3⟩:=p.hr.iter hg
   rw [hρ] at h1;cases h1
   rcases h3 with⟨h3,_⟩ | ⟨r0,mb,md,mn,h3,rfl,hρm⟩
   case inl=>cases h3
   case inr=>
    injection h3 with h3;subst h3
    simp only [bind_ok] at hn
    obtain⟨⟨es,clock,own⟩,hm,hn⟩:=hn
    obtain⟨b3,d3,n3,E,k1,k2,k30,hBm⟩:=p.hr.map (mapOf_ok.1 hm)
    have k3:L2 (ER η ρ) es E.toList:=k30
    clear k30 hBm
    rw [hρm] at k1;cases k1
    simp only [ite_no] at hn
    obtain⟨hall,hn⟩:=hn
    have hallE:¬ (!seen.toArray.isEmpty && !E.isEmpty && E.all (fun e=>decide (e.born ≥ last)))=true:=by
     intro hh
     apply hall
     have e1:E.isEmpty=es.isEmpty:=by
      have hl:=k3.len
      have:∀ (A:Array MapEntry),A.isEmpty=A.toList.isEmpty:=fun A=>by obtain⟨l⟩:=A;simp
      rw [this]
      clear k3 k2 hall hh hn hm this
      generalize E.toList=l at hl
      cases es <;> cases l <;> simp_all
     have e2:E.all (fun e=>decide (e.born ≥ last))=es.all (fun e=>decide (e.born ≥ last)):=by
      rw [← Array.all_toList]
      clear hn hall hh hm k2 e1
      generalize E.toList=l at k3
      induction k3 with
      | nil=>rfl
      | cons hr _ ih=>simp only [List.all_cons,ih,hr.2.2]
     rw [e1,e2] at hh
     simpa using hh
    have hleft:L2 (ER η ρ) (es.filter fun e=>!seen.contains e.born) (E.filter fun e=>!seen.toArray.contains e.born).toList:=by
     rw [Array.toList_filter]
     clear hn hall hallE hm k2
     generalize E.toList=l at k3
     induction k3 with
     | nil=>exact .nil
     | @cons a c l m hr _ ih=>
      simp only [List.filter_cons]
      have:(!seen.toArray.contains c.born) = !seen.contains a.born:=by rw [hr.2.2];simp
      rw [this]
      split
      ·exact .cons hr ih
      ·exact ih
    split at hn
    ·rename_i hnil
     simp only [okk] at hn
     injection hn with e1 e2;subst e1;subst e2
     rw [hnil] at hleft
     have hE0:(E.filter fun e=>!seen.toArray.contains e.born)=#[]:=by
      have:=hleft.inv_nil
      rw [← Array.toArray_toList (xs:=E.filter _),this]
     refine⟨_,w,?_,over,.refl p⟩
     simp only [Instr.next,Nat.zero_add,Sem.run_bind,run_getObj h2 (by simp),run_getObj k2 (by simp),Result.andThen_ok]
     rw [if_neg hallE,hE0]
     simp [Question.forced]
    ·rename_i e hone
     simp only [ite_no',okk] at hn
     obtain⟨hborn,hn⟩:=hn
     injection hn with e1 e2;subst e1;subst e2
     rw [hone] at hleft
     obtain⟨e',m'',hm1,hre,hm2⟩:=hleft.inv_cons
     have:=hm2.inv_nil;subst this
     have hE1:(E.filter fun e=>!seen.toArray.contains e.born)=#[e']:=by
      rw [← Array.toArray_toList (xs:=E.filter _),hm1]
     have hb':e'.born<since:=by rw [← hre.2.2];exact hborn
     refine⟨.tuple #[.bool true,e'.key,e'.val],wput w b (.mapIter (some mb) since (seen.toArray.push e'.born) clock),?_,.tup' (.cons (.bool _) (.cons hre.1 (.cons hre.2.1 .nil))),Post.put p hg rfl hρ rfl ⟨rfl,some mb,?_,⟨_,_,hρm⟩⟩⟩
     ·simp only [Instr.next,Nat.zero_add,Sem.run_bind,run_getObj h2 (by simp),run_getObj k2 (by simp),Result.andThen_ok]
      rw [if_neg hallE,hE1]
      simp [Question.forced,hb',run_setObj h2 (by simp),Nat.not_le.2 hb']
     ·rw [hre.2.2];simp
    ·simp [no] at hn
  ·simp [no] at hn
 ·simp [no] at hn
theorem rangeA_ok(p:Pre η P ρ B h w){t:TypeId}{x x' v:Value}{h':AH}(hr:(do
  match ← undA P t,x with
  | .string,.string s=>let (r,h):=newA h (.stringIter s 0);.ok (.pointer (some ⟨r,0,none⟩),h)
  | .map _ _,.map none=>let (r,h):=newA h (.mapIter none 0 [] 0);.ok (.pointer (some ⟨r,0,none⟩),h)
  | .map _ _,.map (some m)=>do
   let (_,clock,_) ← mapOf h m
   let (r,h):=newA h (.mapIter (some m) clock [] clock)
   .ok (.pointer (some ⟨r,0,none⟩),h)
  | _,_=>no "range" :M (Value × AH)) = .ok (v,h')) (hx:VR η ρ x x') :
  ∃ ρ' y w',(Instr.range t x').run P w = .ok y w'∧VR η ρ' v y∧Post η ρ B h w ρ' h' w':=by
 simp only [bind_ok,undA_ok] at hr
 obtain⟨d,hd,hr⟩:=hr
 have fin:∀ (ob:Obj) (a:AObj),OR η (ρ.put h.next (w.heap.size,0,0)) a 0 0 ob→(v,h')=(.pointer (some ⟨h.next,0,none⟩),(newA h a).2)→
   VR η (ρ.put h.next (w.heap.size,0,0)) v (.pointer (some ⟨w.heap.size,0,none⟩))∧Post η ρ B h w (ρ.put h.next (w.heap.size,0,0)) h' (wpush w ob):=by
  intro ob a hO he
  injection he with e1 e2;subst e1;subst e2
  exact⟨VR.ptr_new (Env.put_at _ _ _),Post.new (w':=wpush w ob) (ob:=ob) p ⟨rfl,rfl,rfl,rfl⟩ h.objs (fun _ _ hx=>hx) hO⟩
 split at hr
 ·have:=hx.string_inv;subst this
  simp only [newA,okk] at hr
  obtain⟨f1,f2⟩:=fin (.stringIter _ 0) (.stringIter _ 0) ⟨rfl,rfl⟩ hr.symm
  exact⟨_,_,_,by simp only [Instr.range,Sem.run_bind,run_und hd,Result.andThen_ok,Sem.run_pure,run_newObj];rfl,f1,f2⟩
 ·have:=hx.map0_inv;subst this
  simp only [newA,okk] at hr
  obtain⟨f1,f2⟩:=fin (.mapIter none 0 #[] 0) (.mapIter none 0 [] 0) ⟨rfl,none,rfl,trivial⟩ hr.symm
  exact⟨_,_,_,by simp only [Instr.range,Sem.run_bind,run_und hd,Result.andThen_ok,Sem.run_pure,run_newObj];rfl,f1,f2⟩
 ·rename_i m
  obtain⟨mb,md,mn,rfl,hρ⟩:=hx.map_inv
  simp only [bind_ok] at hr
  obtain⟨⟨es,clock,own⟩,hm,hr⟩:=hr
  obtain⟨b3,d3,n3,E,k1,k2,k3,_⟩:=p.hr.map (mapOf_ok.1 hm)
  rw [hρ] at k1;cases k1
  simp only [newA,okk] at hr
  obtain⟨f1,f2⟩:=fin (.mapIter (some mb) clock #[] clock) (.mapIter (some m) clock [] clock) ⟨rfl,some mb,rfl,⟨_,_,Env.le_put (p.fresh h.next (Nat.le_refl _)) _ _ hρ⟩⟩ hr.symm
  exact⟨_,_,_,by simp only [Instr.range,Sem.run_bind,run_und hd,Result.andThen_ok,Sem.run_pure,run_getObj k2 (by simp),run_newObj];rfl,f1,f2⟩
 ·simp [no] at hr
end
end Go.Ev

namespace Go.Ev
open Go.Extern
variable {P:Program}
def Rd(P:Program){α:Type}(s:Sem α):Prop:=∀ (w:World) (a:α) (w':World),s.run P w = .ok a w'→∀ u,s.run P u = .ok a u
theorem Rd.pure{α:Type}(a:α):Rd P (Pure.pure a:Sem α):=by
 intro w b w' h u
 simp only [Sem.run_pure] at h ⊢
 injection h with h1 _;rw [h1]
theorem Rd.bind{α β:Type}{s:Sem α}{f:α→Sem β}(h:Rd P s)(k:∀ a,Rd P (f a)):Rd P (s >>= f):=by
 intro w b w' hr u
 rw [Sem.run_bind] at hr ⊢
 cases hs:s.run P w with
 | ok a w1=>
  rw [hs,Result.andThen_ok] at hr
  rw [h w a w1 hs u,Result.andThen_ok]
  exact k a w1 b w' hr u
 | _=>rw [hs] at hr;cases hr
theorem Rd.program:Rd P program:=by
 intro w a w' h u
 rw [run_program] at h ⊢
 injection h with h1 _;rw [h1]
theorem Rd.stuck{α:Type}(s:String):Rd P (Go.stuck s:Sem α):=by
 intro w a w' h u;simp at h
theorem Rd.unsup{α:Type}(s:Unsupported):Rd P (Go.unsupported s:Sem α):=by
 intro w a w' h u;simp at h
theorem Rd.panic{α:Type}(s:String):Rd P (Go.panicString s:Sem α):=by
 intro w a w' h u;simp [panicString,Result.andThen] at h
theorem Rd.ite{α:Type}{c:Prop}[Decidable c]{s t:Sem α}(h:Rd P s)(k:Rd P t):Rd P (if c then s else t):=by
 split <;> assumption
theorem Rd.info(t:TypeId):Rd P (typeInfo t):=by
 unfold typeInfo
 refine Rd.bind Rd.program fun p=>?_
 split
 ·exact .pure _
 ·exact .stuck _
theorem Rd.under(t:TypeId):Rd P (Rtype.under t):=by
 unfold Rtype.under
 refine Rd.bind (.info _) fun i=>?_
 split
 ·exact .bind (.info _) fun _=>.pure _
 ·exact .pure _
theorem Rd.noPack(s:String)(t:TypeId):Rd P (Rtype.noPack s t):=by
 unfold Rtype.noPack
 exact .bind .program fun _=>.ite (.unsup _) (.pure _)
theorem Rd.noPackMethods(s:String)(t:TypeId):Rd P (Rtype.noPackMethods s t):=by
 unfold Rtype.noPackMethods
 exact .bind .program fun _=>.ite (.unsup _) (.pure _)
theorem Rd.noPackHeld(s:String)(t:TypeId):Rd P (Rtype.noPackHeld s t):=by
 unfold Rtype.noPackHeld
 exact .bind .program fun _=>.ite (.unsup _) (.pure _)
theorem Rd.kind(t:TypeId):Rd P (Rtype.kind t):=by
 unfold Rtype.kind
 refine Rd.bind (.under _) fun i=>?_
 split
 split <;> first | exact .pure _ | exact .stuck _
theorem Rd.elem(t:TypeId):Rd P (Rtype.elem? t):=by
 unfold Rtype.elem?
 refine Rd.bind (.under _) fun i=>?_
 split <;> exact .pure _
theorem Rd.hasName(t:TypeId):Rd P (Rtype.hasName t):=by
 unfold Rtype.hasName
 refine Rd.bind (.info _) fun i=>?_
 split <;> exact .pure _
theorem Rd.implements(a b:TypeId):Rd P (Rtype.implements a b):=by
 unfold Rtype.implements
 refine Rd.bind (.noPackMethods _ _) fun _=>Rd.bind (.noPackMethods _ _) fun _=>Rd.bind (.under _) fun _=>Rd.bind (.under _) fun _=>?_
 split
 ·exact .pure _
 ·exact .bind (.info _) fun _=>.pure _
 ·exact .pure _
theorem Rd.direct(a b:TypeId):Rd P (Rtype.directlyAssignable a b):=by
 unfold Rtype.directlyAssignable
 refine Rd.ite (.pure _) ?_
 refine Rd.bind (.hasName _) fun _=>Rd.bind (.hasName _) fun _=>Rd.ite (.pure _) (Rd.bind (.under _) fun x=>?_)
 obtain⟨t,ti⟩:=x
 refine Rd.bind (.under _) fun y=>?_
 obtain⟨u,ui⟩:=y
 simp only []
 split <;> exact .pure _
theorem Rd.implements_(a b:TypeId):Rd P (ReflectliteType.implements_ a b):=by
 unfold ReflectliteType.implements_
 have J:Rd P (do Rtype.noPackMethods "Implements" b;Rtype.noPack "Implements" a;Rtype.implements a b):=.bind (.noPackMethods _ _) fun _=>.bind (.noPack _ _) fun _=>.implements _ _
 exact Rd.bind (.kind _) fun _=>.ite (.bind (.panic _) fun _=>J) J
theorem Rd.assignable(a b:TypeId):Rd P (ReflectliteType.assignableTo a b):=by
 unfold ReflectliteType.assignableTo
 have J:Rd P (do return (← Rtype.directlyAssignable a b) || (← Rtype.implements a b)):=.bind (.direct _ _) fun _=>.bind (.implements _ _) fun _=>.pure _
 exact .ite (.bind (.noPackMethods _ _) fun _=>.bind (.noPackMethods _ _) fun _=>J) J
theorem Rd.cutType(s:String):Rd P (Go.cutType s):=by
 unfold Go.cutType
 refine Rd.bind .program fun _=>?_
 split
 ·exact .pure _
 ·exact .stuck _
theorem runR_ok{α:Type}{s:Sem α}{a:α}(h:Rd P s)(hr:runR P s = .ok a)(w:World):s.run P w = .ok a w:=by
 unfold runR at hr
 split at hr
 ·rename_i x w' hx
  rw [okk] at hr;subst hr
  exact h _ _ _ hx w
 ·simp [no] at hr
variable {η:Nat→Value} {ρ:Env} {B:Bd} {h:AH} {w:World}
theorem handA_ok(hG:GR P ρ){v x:Value}{t:TypeId}(h:handA P v = .ok t)(hv:VR η ρ v x):x=typeHandle P t∧(Rtype.ofHandle x).run P w = .ok t w:=by
 unfold handA at h
 split at h
 ·rename_i a
  rw [ite_no',okk] at h
  obtain⟨⟨h1,h2⟩,h3⟩:=h
  obtain⟨b,rfl,_,n,blk,d,h4,rfl⟩:=hv.ptr_inv
  obtain⟨m,h5⟩:=hG _ (Nat.le_refl _)
  rw [h1,h5] at h4
  cases h4
  subst h3
  have e:(Value.pointer (some ⟨P.globals.size,0+a.off,none⟩))=typeHandle P a.off:=by rw [Nat.zero_add];rfl
  refine⟨e,?_⟩
  rw [e]
  simp [Rtype.ofHandle,handleType,typeHandle,Result.andThen]
 ·simp [no] at h
theorem handV_ok(hG:GR P ρ)(t:TypeId):VR η ρ (handV P t) (typeHandle P t):=by
 obtain⟨m,h5⟩:=hG _ (Nat.le_refl _)
 have:=VR.ptr (η:=η) (o:=t) h5
 rw [Nat.zero_add] at this
 exact this
theorem rtypeA_ok(hG:GR P ρ){t:TypeId}{v:Value}(h:rtypeA P t = .ok v):∃ x,(ReflectliteType.toType t).run P w = .ok x w∧VR η ρ v x:=by
 simp only [rtypeA,bind_ok] at h
 obtain⟨c,hc,h⟩:=h
 rw [okk] at h;subst h
 refine⟨.iface c (.agg #[typeHandle P t]),?_,.iface _ (.agg' (.cons (handV_ok hG t) .nil))⟩
 have:=runR_ok (.cutType _) hc w
 simp [ReflectliteType.toType,this,Rtype.handle,Result.andThen]
theorem ofRtA_ok(hG:GR P ρ){v x:Value}{t:TypeId}(h:ofRtA P v = .ok t)(hv:VR η ρ v x):(ReflectliteType.ofRtype x).run P w = .ok t w:=by
 unfold ofRtA at h
 split at h
 ·rename_i hd
  simp only [bind_ok] at h
  obtain⟨t',h1,u,h2,h⟩:=h
  rw [okk] at h;subst h
  obtain⟨c,rfl,hl⟩:=hv.agg_inv
  obtain⟨y,m,hm,hy,hm'⟩:=hl.inv_cons
  have:=hm'.inv_nil;subst this
  have hc:c=#[y]:=by rw [← Array.toArray_toList (xs:=c),hm]
  subst hc
  have k1:=(handA_ok (w:=w) hG h1 hy).2
  have k2:=runR_ok (.noPack _ _) h2 w
  have e:ReflectliteType.ofRtype (.agg #[y])=(do let t ← Rtype.ofHandle y;Rtype.noPack "a Type asked or handed on" t;pure t):=rfl
  rw [e]
  simp [k1,k2,Result.andThen]
 ·simp [no] at h
theorem valA_ok(hG:GR P ρ){clean:Bool}{v x:Value}{t:TypeId}{a:Addr}{f:Nat}(h:valA P clean v = .ok (t,a,f))(hv:VR η ρ v x) :
  ∃ b,AdR ρ a b∧(ReflectliteValue.partsAny x).run P w = .ok (some (t,b,f)) w∧(clean=true→(ReflectliteValue.parts x).run P w = .ok (some (t,b,f)) w):=by
 unfold valA at h
 split at h
 ·rename_i hd a' f'
  rw [ite_no] at h
  obtain⟨hn,h⟩:=h
  simp only [bind_ok] at h
  obtain⟨t',h1,u,h2,h⟩:=h
  obtain⟨n,hfn⟩:∃ n:Nat,f'=((n+1:Nat):Int):=⟨f'.toNat - 1,by omega⟩
  subst hfn
  rw [okk] at h;injection h with e1 e2;injection e2 with e2 e3;subst e1;subst e2;subst e3
  obtain⟨c,rfl,hl⟩:=hv.agg_inv
  obtain⟨y,m,hm,hy,hm'⟩:=hl.inv_cons
  obtain⟨y2,m2,hm2,hy2,hm2'⟩:=hm'.inv_cons
  obtain⟨y3,m3,hm3,hy3,hm3'⟩:=hm2'.inv_cons
  have:=hm3'.inv_nil;subst this;subst hm3;subst hm2
  obtain⟨b,rfl,hb⟩:=hy2.ptr_inv
  have:=hy3.int_inv;subst this
  have hc:c=#[y,.pointer (some b),.int .u64 ((n+1:Nat):Int)]:=by rw [← Array.toArray_toList (xs:=c),hm]
  subst hc
  have k1:=(handA_ok (w:=w) hG h1 hy).2
  have k3:(ReflectliteValue.partsAny (.agg #[y,.pointer (some b),.int .u64 ((n+1:Nat):Int)])).run P w = .ok (some (t',b,((n+1:Nat):Int).toNat)) w:=by
   have e:ReflectliteValue.partsAny (.agg #[y,.pointer (some b),.int .u64 ((n+1:Nat):Int)])=(do pure (some (← Rtype.ofHandle y,b,((n+1:Nat):Int).toNat))):=rfl
   rw [e]
   simp [k1,Result.andThen]
  refine⟨b,hb,k3,fun hcl=>?_⟩
  subst hcl
  rw [if_pos rfl] at h2
  have k2:=runR_ok (.noPack _ _) h2 w
  simp only [ReflectliteValue.parts,Sem.run_bind,k3,Result.andThen_ok,k2,Sem.run_pure]
 ·simp [no] at h
theorem mkVA_ok(hG:GR P ρ){t:TypeId}{a b:Addr}{fl:Nat}{v:Value}(h:mkVA P t a fl = .ok v)(hb:AdR ρ a b):∃ x,(ReflectliteValue.mk t b fl).run P w = .ok x w∧VR η ρ v x:=by
 simp only [mkVA,bind_ok] at h
 obtain⟨k,hk,h⟩:=h
 rw [okk] at h;subst h
 refine⟨.agg #[typeHandle P t,.pointer (some b),.int .u64 (Int.ofNat (k+128+fl))],?_,.agg' (.cons (handV_ok hG t) (.cons hb.ptr (.cons (.int _ _) .nil)))⟩
 have:=runR_ok (.kind _) hk w
 simp [ReflectliteValue.mk,this,Rtype.handle,ReflectliteValue.flagIndir,Result.andThen]
end Go.Ev

namespace Go.Ev
variable {η:Nat→Value}
section
variable {P:Program} {ρ:Env} {B:Bd} {h:AH} {w:World}
theorem liesAt_off{e:TypeId}(hc:P.cellsOf e=1)(count off n:Nat)(hn:off+n≤count):liesAt P P.depth e count off e n=true:=by
 have hd:P.depth=(2 * (P.types.size+Made.depth)+1)+1:=rfl
 rw [hd]
 simp only [liesAt,Bool.or_eq_true]
 left
 rw [hd]
 simp [rowAt,hc,hn,sameLayout,Nat.mod_one]
def PlR(η:Nat→Value)(ρ:Env):APlace→Go.Place→Prop
 | .val v,.val x=>VR η ρ v x
 | .var a,.var b=>AdR ρ a b
 | _,_=>False
theorem PlR.get(H:HR η ρ B h w){t:TypeId}{x:APlace}{x':Go.Place}{v:Value}(hg:x.get P h t = .ok v)(hx:PlR η ρ x x'):∃ y,(x'.get t).run P w = .ok y w∧VR η ρ v y:=by
 cases x with
 | val u=>
  cases x' with
  | val u'=>simp only [APlace.get,okk] at hg;subst hg;exact⟨u',rfl,hx⟩
  | var b=>exact hx.elim
 | var a=>
  cases x' with
  | val u'=>exact hx.elim
  | var b=>exact loadA_ok H hg hx
theorem followA_ok(H:HR η ρ B h w):∀ {path:List FieldStep} {t t2:TypeId} {x y:APlace} {x':Go.Place},followA P h path t x = .ok (t2,y)→PlR η ρ x x'→∃ y',(Go.follow path t x').run P w = .ok (t2,y') w∧PlR η ρ y y'
 | [],t,t2,x,y,x',hf,hx=>by
  simp only [followA,okk] at hf;injection hf with e1 e2;subst e1;subst e2
  exact⟨x',rfl,hx⟩
 | s :: rest,t,t2,x,y,x',hf,hx=>by
  simp only [followA,bind_ok] at hf
  obtain⟨f,hfo,hf⟩:=hf
  obtain⟨fs,hfs,hfi⟩:=fieldOff_ok hfo
  by_cases hd:s.deref=true
  ·rw [if_pos hd] at hf
   simp only [bind_ok,addrA_ok] at hf
   obtain⟨v,hv,a,⟨rfl,_⟩,n,hn,hf⟩:=hf
   rw [ite_no] at hf
   obtain⟨h0,hf⟩:=hf
   obtain⟨u,hu,hur⟩:=PlR.get (P:=P) H hv hx
   obtain⟨q,rfl,hq⟩:=hur.ptr_inv
   obtain⟨y',hy,hyr⟩:=followA_ok H hf (x':=.var (q.add f.offset)) (hq.add _)
   refine⟨y',?_,hyr⟩
   simp only [Go.follow,Sem.run_bind,run_und hfs,Result.andThen_ok,hfi]
   rw [if_pos hd]
   simp only [Sem.run_bind,hu,Result.andThen_ok,asAddr,Sem.run_pure,run_place hn h0,hy]
  ·rw [if_neg hd] at hf
   split at hf
   ·rename_i a
    cases x' with
    | val u=>exact hx.elim
    | var b=>
     simp only [bind_ok] at hf
     obtain⟨n,hn,hf⟩:=hf
     rw [ite_no] at hf
     obtain⟨h0,hf⟩:=hf
     obtain⟨y',hy,hyr⟩:=followA_ok H hf (x':=.var (b.add f.offset)) (AdR.add hx _)
     refine⟨y',?_,hyr⟩
     simp only [Go.follow,Sem.run_bind,run_und hfs,Result.andThen_ok,hfi]
     rw [if_neg hd]
     simp only [Sem.run_bind,run_place hn h0,Result.andThen_ok,hy]
   ·rename_i cs
    cases x' with
    | var b=>exact hx.elim
    | val u=>
     obtain⟨c,rfl,hl⟩:=VR.agg_inv hx
     simp only [bind_ok] at hf
     obtain⟨pv,hp,hf⟩:=hf
     obtain⟨r,hr,hrv⟩:=partA_ok (P:=P) (w:=w) hp hl
     obtain⟨y',hy,hyr⟩:=followA_ok H hf (x':=.val r) hrv
     refine⟨y',?_,hyr⟩
     simp only [Go.follow,Sem.run_bind,run_und hfs,Result.andThen_ok,hfi]
     rw [if_neg hd]
     simp only [Sem.run_bind,hr,Result.andThen_ok,hy]
   ·simp [no] at hf
theorem recvAt_ok(H:HR η ρ B h w){xt:TypeId}{x:APlace}{x':Go.Place}{ptr:Bool}{v:Value}{wr:Option String}(hr:recvAt P h xt x ptr = .ok v)(hx:PlR η ρ x x'):∃ r,(Go.receiverAt xt x' ptr wr).run P w = .ok r w∧VR η ρ v r:=by
 simp only [recvAt,bind_ok,undA_ok] at hr
 obtain⟨d,hd,hr⟩:=hr
 split at hr
 ·obtain⟨y,hy,hv⟩:=PlR.get (P:=P) H hr hx
  refine⟨y,?_,hv⟩
  simp only [Go.receiverAt,Sem.run_bind,run_und hd,Result.andThen_ok,hy]
 ·rename_i elem
  simp only [bind_ok,addrA_ok] at hr
  obtain⟨u,hu,a,⟨rfl,_⟩,hr⟩:=hr
  obtain⟨y,hy,hyr⟩:=PlR.get (P:=P) H hu hx
  obtain⟨q,rfl,hq⟩:=hyr.ptr_inv
  obtain⟨r,h1,h2⟩:=loadA_ok H hr hq
  refine⟨r,?_,h2⟩
  cases wr with
  | none=>simp only [Go.receiverAt,Sem.run_bind,run_und hd,Result.andThen_ok,hy,asAddr,Sem.run_pure,h1]
  | some nm=>
   have hck:(Builtin.ssaWrapNilChk_ #[xt] xt #[.pointer (some q),strVal "",strVal nm]).run P w = .ok (.pointer (some q)) w:=rfl
   simp only [Go.receiverAt,Sem.run_bind,run_und hd,Result.andThen_ok,hy,hck,asAddr,Sem.run_pure,h1]
 ·rename_i n1
  cases x' with
  | val u=>exact hx.elim
  | var b=>
   rw [okk] at hr;subst hr
   refine⟨.pointer (some b),?_,AdR.ptr hx⟩
   simp only [Go.receiverAt,Sem.run_bind,run_und hd,Result.andThen_ok]
   cases d <;> first | rfl | exact absurd rfl (n1 _)
 ·simp [no] at hr
 ·rename_i n1
  obtain⟨y,hy,hv⟩:=PlR.get (P:=P) H hr hx
  refine⟨y,?_,hv⟩
  simp only [Go.receiverAt,Sem.run_bind,run_und hd,Result.andThen_ok]
  cases d <;> first | exact hy | exact absurd rfl (n1 _)
theorem methodA_ok(H:HR η ρ B h w):∀ {n:Nat} {t:TypeId} {v v':Value} {name:String} {f:FuncId} {r:Value},methodA P h n t v name = .ok (f,r)→VR η ρ v v'→∃ r',(Go.method n t v' name).run P w = .ok (f,r') w∧VR η ρ r r'
 | 0,t,v,v',name,f,r,hm,hv=>by simp [methodA,no] at hm
 | n+1,t,v,v',name,f,r,hm,hv=>by
  simp only [methodA,bind_ok,infoA_ok,orNo_ok] at hm
  obtain⟨i,hi,m,hmm,⟨xt,x⟩,hfo,hm⟩:=hm
  obtain⟨x',hx,hxr⟩:=followA_ok H hfo (x':=.val v') hv
  have hfind:i.methods.find? (·.name == name)=some m:=by rw [← Array.find?_toList];exact hmm
  simp only [Go.method,Sem.run_bind,run_info hi,Result.andThen_ok,hfind,hx]
  simp only [] at hm
  split at hm
  ·rename_i hfn
   simp only [bind_ok] at hm
   obtain⟨u,hu,hm⟩:=hm
   obtain⟨y,hy,hyr⟩:=PlR.get (P:=P) H hu hxr
   rw [hfn]
   simp only [Sem.run_bind,hy,Result.andThen_ok]
   split at hm
   ·obtain⟨z,rfl,hz⟩:=hyr.iface_inv
    exact methodA_ok H hm hz
   ·simp [no] at hm
  ·rename_i f0 ptr hfn
   simp only [bind_ok] at hm
   obtain⟨rv,hrv,hm⟩:=hm
   rw [okk] at hm;injection hm with e1 e2;subst e1;subst e2
   rw [hfn]
   obtain⟨y,hy,hyr⟩:=recvAt_ok (P:=P) (wr:=if m.path.isEmpty then some ((name.splitOn ".").getLastD name) else none) H hrv hxr
   exact⟨y,by simp only [Sem.run_bind,hy,Result.andThen_ok,Sem.run_pure],hyr⟩
def NR(η:Nat→Value)(ρ:Env):AN→Result Next→World→Prop
 | .value v,r,w=>∃ x,r = .ok (.value x) w∧VR η ρ v x
 | .skip,r,w=>r = .ok .skip w
 | .enter f args,r,w=>∃ xs,r = .ok (.enter f xs) w∧LR η ρ args xs.toList
 | .defer d,r,w=>∃ e,r = .ok (.defer e) w∧DR η ρ d e
 | .recover,r,w=>r = .ok .recover w
 | .round l fn tm n asg body,r,w=>∃ b d k tmps,r = .ok (.round b fn tmps asg body) w∧ρ l=some (b,d,k)∧TR η ρ tm n tmps
 | .panic v,r,w=>∃ x,r = .halt (.panic x) w∧VR η ρ v x
def Eff(η:Nat→Value)(P:Program)(ρ:Env)(B:Bd)(h:AH)(w:World)(s:Sem Next)(a:AN)(h':AH):Prop:=∃ ρ' w',NR η ρ' a (s.run P w) w'∧Post η ρ B h w ρ' h' w'
theorem Eff.reader(p:Pre η P ρ B h w){s:Sem Next}{a:AN}(hn:NR η ρ a (s.run P w) w):Eff η P ρ B h w s a h:=⟨ρ,w,hn,.refl p⟩
theorem look_none{fn:Func}{n:String}(hn:fn.name=n)(ho:(fn.origin == fn.name || fn.origin == "")=true)(h1:(Extern.allNextRows.lookup n).isNone=true)(h2:(Extern.allNextRows.lookup "").isNone=true):Extern.findNext fn=none:=by
 have k1:Extern.allNextRows.lookup n=none:=by simpa using h1
 have k2:Extern.allNextRows.lookup "" =none:=by simpa using h2
 unfold Extern.findNext
 have hor:fn.origin=n∨fn.origin = "" :=by
  rw [Bool.or_eq_true] at ho
  rcases ho with ho | ho
  ·exact .inl ((beq_iff_eq.1 ho).trans hn)
  ·exact .inr (beq_iff_eq.1 ho)
 rcases hor with e | e <;> simp only [hn,e,k1,k2] <;> rfl
theorem look_find{fn:Func}{n:String}{e:Array Value→Sem Value}(hn:fn.name=n)(h1:(Extern.allGenericRows.lookup n).isNone=true)(h2:(Extern.allTypedRows.lookup n).isNone=true)(h3:Extern.allRows.lookup n=some e):Extern.find fn=some e:=by
 have k1:Extern.allGenericRows.lookup n=none:=by simpa using h1
 have k2:Extern.allTypedRows.lookup n=none:=by simpa using h2
 unfold Extern.find
 simp only [hn,k1,k2,h3];rfl
theorem look_typed{fn:Func}{n:String}{e:Extern.Typed}(hn:fn.name=n)(h1:(Extern.allGenericRows.lookup n).isNone=true)(h2:Extern.allTypedRows.lookup n=some e):Extern.find fn=some (e fn.params fn.resultTypes):=by
 have k1:Extern.allGenericRows.lookup n=none:=by simpa using h1
 unfold Extern.find
 simp only [hn,k1,h2];rfl
theorem digits_len:∀ (n t:Nat) (acc:Array Value),(Extern.BytealgMakeNoZero.digits n t acc).size=acc.size+n
 | 0,t,acc=>rfl
 | n+1,t,acc=>by
  simp only [Extern.BytealgMakeNoZero.digits]
  rw [digits_len n,Array.size_push];omega
theorem reflectA_ok(hη:OneCells η)(p:Pre η P ρ B h w){f:FuncId}{fn:Func}{args:List Value}{args':Array Value}{a:AN}{h':AH}(hf:P.funcs[f]? = some fn)(hnm:(fn.name == "runtime.NumGoroutine")=false)(hb:fn.body.isNone=true)(ho:(fn.origin == fn.name || fn.origin == "")=true)(hc:reflectA P h fn args = .ok (a,h'))(hl:LR η ρ args args'.toList) :
  Eff η P ρ B h w (callFunc f args') a h':=by
 have hG:=p.glob
 have one:∀ {x:Value},args=[x]→∃ x',args'=#[x']∧VR η ρ x x':=by
  intro x e;subst e
  obtain⟨x',m,hm,hx,hm'⟩:=hl.inv_cons
  have:=hm'.inv_nil;subst this
  exact⟨x',by rw [← Array.toArray_toList (xs:=args'),hm],hx⟩
 have two:∀ {x y:Value},args=[x,y]→∃ x' y',args'=#[x',y']∧VR η ρ x x'∧VR η ρ y y':=by
  intro x y e;subst e
  obtain⟨x',m,hm,hx,hm'⟩:=hl.inv_cons
  obtain⟨y',m2,hm2,hy,hm2'⟩:=hm'.inv_cons
  have:=hm2'.inv_nil;subst this;subst hm2
  exact⟨x',y',by rw [← Array.toArray_toList (xs:=args'),hm],hx,hy⟩
 have nx:(Extern.allNextRows.lookup "").isNone=true:=by kernel_rfl
 have put:∀ {n:String} {e:Array Value→Sem Value} {v x:Value},fn.name=n→(Extern.allNextRows.lookup n).isNone=true→(Extern.allGenericRows.lookup n).isNone=true→(Extern.allTypedRows.lookup n).isNone=true→Extern.allRows.lookup n=some e→(e args').run P w = .ok x w→VR η ρ v x→Eff η P ρ B h w (callFunc f args') (.value v) h:=by
  intro n e v x hn k1 k2 k3 k4 hr hv
  refine Eff.reader p ⟨x,?_,hv⟩
  rw [run_callFunc_extern hf hnm hb (look_none hn ho k1 nx) (look_find hn k2 k3 k4),hr]
  rfl
 unfold reflectA at hc
 by_cases hn:fn.name = "internal/reflectlite.TypeOf"
 ·rw [if_pos hn] at hc
  split at hc
  ·obtain⟨x',rfl,hx⟩:=one rfl
   have:=hx.nilIface_inv;subst this
   rw [okk] at hc;injection hc with e1 e2;subst e1;subst e2
   exact put hn (by kernel_rfl) (by kernel_rfl) (by kernel_rfl) (e:=Extern.ReflectliteType.typeOf) (by kernel_rfl) rfl .nilIface
  ·rename_i t v
   obtain⟨x',rfl,hx⟩:=one rfl
   obtain⟨y,rfl,hy⟩:=hx.iface_inv
   simp only [bind_ok] at hc
   obtain⟨u,hu,hc⟩:=hc
   rw [okk] at hc;injection hc with e1 e2;subst e1;subst e2
   obtain⟨z,hz,hzv⟩:=rtypeA_ok (w:=w) (η:=η) hG hu
   exact put hn (by kernel_rfl) (by kernel_rfl) (by kernel_rfl) (e:=Extern.ReflectliteType.typeOf) (by kernel_rfl) hz hzv
  ·simp [no] at hc
 ·rw [if_neg hn] at hc
  by_cases hn:fn.name = "(internal/reflectlite.rtype).Elem"
  ·rw [if_pos hn] at hc
   split at hc
   ·obtain⟨x',rfl,hx⟩:=one rfl
    simp only [bind_ok] at hc
    obtain⟨t,ht,o,hel,hc⟩:=hc
    have k1:=ofRtA_ok (w:=w) hG ht hx
    have k2:=runR_ok (.elem _) hel w
    split at hc
    ·rename_i e
     simp only [bind_ok] at hc
     obtain⟨u,hu,hc⟩:=hc
     rw [okk] at hc;injection hc with e1 e2;subst e1;subst e2
     obtain⟨z,hz,hzv⟩:=rtypeA_ok (w:=w) (η:=η) hG hu
     refine put hn (by kernel_rfl) (by kernel_rfl) (by kernel_rfl) (e:=Extern.ReflectliteType.method Extern.ReflectliteType.elem) (by kernel_rfl) (x:=z) ?_ hzv
     have e:∀ g:TypeId→Sem Value,Extern.ReflectliteType.method g #[x']=(do g (← Extern.ReflectliteType.ofRtype x')):=fun _=>rfl
     rw [e]
     simp only [Extern.ReflectliteType.elem,Sem.run_bind,k1,k2,Result.andThen_ok,hz]
    ·simp [no] at hc
   ·simp [no] at hc
  ·rw [if_neg hn] at hc
   by_cases hn:fn.name = "(internal/reflectlite.rtype).Implements"
   ·rw [if_pos hn] at hc
    split at hc
    ·obtain⟨x',y',rfl,hx,hy⟩:=two rfl
     obtain⟨z,rfl,hz⟩:=hy.iface_inv
     simp only [bind_ok] at hc
     obtain⟨c,hc1,d,hc2,b,hc3,hc⟩:=hc
     rw [okk] at hc;injection hc with e1 e2;subst e1;subst e2
     have k1:=ofRtA_ok (w:=w) hG hc1 hz
     have k2:=ofRtA_ok (w:=w) hG hc2 hx
     have k3:=runR_ok (.implements_ _ _) hc3 w
     refine put hn (by kernel_rfl) (by kernel_rfl) (by kernel_rfl) (e:=Extern.ReflectliteType.relation "Implements" Extern.ReflectliteType.implements_) (by kernel_rfl) (x:=.bool b) ?_ (.bool _)
     have e:∀ (g:String) (r:TypeId→TypeId→Sem Bool) (T:TypeId),Extern.ReflectliteType.relation g r #[x',.iface T z]=(do pure (.bool (← r (← Extern.ReflectliteType.ofRtype z) (← Extern.ReflectliteType.ofRtype x')))):=fun _ _ _=>rfl
     rw [e]
     simp only [Sem.run_bind,k1,k2,k3,Result.andThen_ok,Sem.run_pure]
    ·simp [no] at hc
   ·rw [if_neg hn] at hc
    by_cases hn:fn.name = "(internal/reflectlite.rtype).AssignableTo"
    ·rw [if_pos hn] at hc
     split at hc
     ·obtain⟨x',y',rfl,hx,hy⟩:=two rfl
      obtain⟨z,rfl,hz⟩:=hy.iface_inv
      simp only [bind_ok] at hc
      obtain⟨c,hc1,d,hc2,b,hc3,hc⟩:=hc
      rw [okk] at hc;injection hc with e1 e2;subst e1;subst e2
      have k1:=ofRtA_ok (w:=w) hG hc1 hz
      have k2:=ofRtA_ok (w:=w) hG hc2 hx
      have k3:=runR_ok (.assignable _ _) hc3 w
      refine put hn (by kernel_rfl) (by kernel_rfl) (by kernel_rfl) (e:=Extern.ReflectliteType.relation "AssignableTo" Extern.ReflectliteType.assignableTo) (by kernel_rfl) (x:=.bool b) ?_ (.bool _)
      have e:∀ (g:String) (r:TypeId→TypeId→Sem Bool) (T:TypeId),Extern.ReflectliteType.relation g r #[x',.iface T z]=(do pure (.bool (← r (← Extern.ReflectliteType.ofRtype z) (← Extern.ReflectliteType.ofRtype x')))):=fun _ _ _=>rfl
      rw [e]
      simp only [Sem.run_bind,k1,k2,k3,Result.andThen_ok,Sem.run_pure]
     ·simp [no] at hc
    ·rw [if_neg hn] at hc
     by_cases hn:fn.name = "(*internal/abi.Type).Kind"
     ·rw [if_pos hn] at hc
      split at hc
      ·obtain⟨x',rfl,hx⟩:=one rfl
       simp only [bind_ok] at hc
       obtain⟨t,ht,u,hu,k,hk,hc⟩:=hc
       rw [okk] at hc;injection hc with e1 e2;subst e1;subst e2
       have k1:=(handA_ok (w:=w) hG ht hx).2
       have k2:=runR_ok (.noPack _ _) hu w
       have k3:=runR_ok (.kind _) hk w
       refine put hn (by kernel_rfl) (by kernel_rfl) (by kernel_rfl) (e:=Extern.ReflectliteType.abiMethod fun t=>do pure (.int .u8 (← Extern.Rtype.kind t))) (by kernel_rfl) (x:=.int .u8 k) ?_ (.int _ _)
       have e:∀ g:TypeId→Sem Value,Extern.ReflectliteType.abiMethod g #[x']=(do let t ← Extern.Rtype.ofHandle x';Extern.Rtype.noPack "a method of abi.Type" t;g t):=fun _=>rfl
       rw [e]
       simp only [Sem.run_bind,k1,k2,k3,Result.andThen_ok,Sem.run_pure]
      ·simp [no] at hc
     ·rw [if_neg hn] at hc
      by_cases hn:fn.name = "(internal/reflectlite.rtype).Comparable"
      ·rw [if_pos hn] at hc
       split at hc
       ·obtain⟨x',rfl,hx⟩:=one rfl
        simp only [bind_ok,infoA_ok] at hc
        obtain⟨t,ht,u,hu,i,hi,hc⟩:=hc
        rw [okk] at hc;injection hc with e1 e2;subst e1;subst e2
        have k1:=ofRtA_ok (w:=w) hG ht hx
        have k2:=runR_ok (.noPackHeld _ _) hu w
        refine put hn (by kernel_rfl) (by kernel_rfl) (by kernel_rfl) (e:=Extern.ReflectliteType.method fun t=>do Extern.Rtype.noPackHeld "Comparable" t;pure (.bool (← typeInfo t).comparable)) (by kernel_rfl) (x:=.bool i.comparable) ?_ (.bool _)
        have e:∀ g:TypeId→Sem Value,Extern.ReflectliteType.method g #[x']=(do g (← Extern.ReflectliteType.ofRtype x')):=fun _=>rfl
        rw [e]
        simp only [Sem.run_bind,k1,k2,run_info hi,Result.andThen_ok,Sem.run_pure]
       ·simp [no] at hc
      ·rw [if_neg hn] at hc
       by_cases hn:fn.name = "internal/reflectlite.ValueOf"
       ·rw [if_pos hn] at hc
        split at hc
        ·rename_i t v
         obtain⟨x',rfl,hx⟩:=one rfl
         obtain⟨y,rfl,hy⟩:=hx.iface_inv
         simp only [bind_ok] at hc
         obtain⟨u,hu,hc⟩:=hc
         rw [okk] at hc;injection hc with e1 e2;subst e1;subst e2
         have hle:=Env.le_put (t:=(w.heap.size,0,y.cells.size)) (p.fresh h.next (Nat.le_refl _))
         have hG':=hG.mono hle
         obtain⟨z,hz,hzv⟩:=mkVA_ok (w:=wpush w (.cells y.cells t)) (η:=η) (b:=⟨w.heap.size,0,none⟩) hG' hu ⟨rfl,_,_,_,Env.put_at _ _ _,rfl⟩
         refine⟨ρ.put h.next (w.heap.size,0,y.cells.size),wpush w (.cells y.cells t),⟨z,?_,hzv⟩,Post.new p (w':=wpush w (.cells y.cells t)) (ob:=.cells y.cells t) ⟨rfl,rfl,rfl,rfl⟩ h.objs (fun _ _ hx=>hx) ?_⟩
         ·rw [run_callFunc_extern hf hnm hb (look_none hn ho (by kernel_rfl) nx) (look_find hn (by kernel_rfl) (by kernel_rfl) (e:=fun args=>Extern.ReflectliteValue.unpack (args.getD 0 (.tuple #[]))) (by kernel_rfl))]
          have e:Extern.ReflectliteValue.unpack (#[Value.iface t y].getD 0 (.tuple #[]))=(do Extern.ReflectliteValue.mk t (← newVar t y) 0):=rfl
          rw [e]
          simp only [Sem.run_bind,run_newVar,Result.andThen_ok,hz]
         ·exact CR.new ((hy.mono hle).cells hη)
        ·simp [no] at hc
       ·rw [if_neg hn] at hc
        by_cases hn:fn.name = "(internal/reflectlite.Value).Type"
        ·rw [if_pos hn] at hc
         split at hc
         ·obtain⟨x',rfl,hx⟩:=one rfl
          simp only [bind_ok] at hc
          obtain⟨⟨t,a',f'⟩,ht,u,hu,hc⟩:=hc
          rw [okk] at hc;injection hc with e1 e2;subst e1;subst e2
          obtain⟨b,hb',k1,_⟩:=valA_ok (w:=w) hG ht hx
          obtain⟨z,hz,hzv⟩:=rtypeA_ok (w:=w) (η:=η) hG hu
          refine put hn (by kernel_rfl) (by kernel_rfl) (by kernel_rfl) (e:=Extern.ReflectliteValue.methodAny (Extern.ReflectliteValue.valueError "reflectlite.Value.Type" 0) fun t _ _ _=>Extern.ReflectliteType.toType t) (by kernel_rfl) (x:=z) ?_ hzv
          have e:∀ (g:Sem Value) (r:TypeId→Addr→Nat→Nat→Sem Value),Extern.ReflectliteValue.methodAny g r #[x']=(do match ← Extern.ReflectliteValue.partsAny x' with | none=>g | some (t,a,fl)=>r t a fl (fl % 32)):=fun _ _=>rfl
          rw [e]
          simp only [Sem.run_bind,k1,Result.andThen_ok,hz]
         ·simp [no] at hc
        ·rw [if_neg hn] at hc
         by_cases hn:fn.name = "(internal/reflectlite.Value).IsNil"
         ·rw [if_pos hn] at hc
          split at hc
          ·obtain⟨x',rfl,hx⟩:=one rfl
           simp only [bind_ok] at hc
           obtain⟨⟨t,a',f'⟩,ht,hc⟩:=hc
           rw [ite_no] at hc
           obtain⟨hk,hc⟩:=hc
           rw [Bool.not_eq_false] at hk
           simp only [bind_ok] at hc
           obtain⟨u,hu,hc⟩:=hc
           obtain⟨b,hb',_,k1⟩:=valA_ok (w:=w) hG ht hx
           have k1:=k1 rfl
           obtain⟨z,hz,hzv⟩:=loadA_ok p.hr hu hb'
           split at hc
           ·rw [okk] at hc;injection hc with e1 e2;subst e1;subst e2
            have:=hzv.ptr0_inv;subst this
            refine put hn (by kernel_rfl) (by kernel_rfl) (by kernel_rfl) (e:=Extern.ReflectliteValue.method (Extern.ReflectliteValue.valueError "reflectlite.Value.IsNil" 0) Extern.ReflectliteValue.isNil) (by kernel_rfl) (x:=.bool true) ?_ (.bool _)
            have e:∀ (g:Sem Value) (r:TypeId→Addr→Nat→Nat→Sem Value),Extern.ReflectliteValue.method g r #[x']=(do match ← Extern.ReflectliteValue.parts x' with | none=>g | some (t,a,fl)=>r t a fl (fl % 32)):=fun _ _=>rfl
            rw [e]
            simp only [Extern.ReflectliteValue.isNil,Sem.run_bind,k1,Result.andThen_ok,hk,Bool.not_true,Bool.false_eq_true,if_false,hz,Sem.run_pure]
           ·rw [okk] at hc;injection hc with e1 e2;subst e1;subst e2
            obtain⟨q,rfl,hq⟩:=hzv.ptr_inv
            refine put hn (by kernel_rfl) (by kernel_rfl) (by kernel_rfl) (e:=Extern.ReflectliteValue.method (Extern.ReflectliteValue.valueError "reflectlite.Value.IsNil" 0) Extern.ReflectliteValue.isNil) (by kernel_rfl) (x:=.bool false) ?_ (.bool _)
            have e:∀ (g:Sem Value) (r:TypeId→Addr→Nat→Nat→Sem Value),Extern.ReflectliteValue.method g r #[x']=(do match ← Extern.ReflectliteValue.parts x' with | none=>g | some (t,a,fl)=>r t a fl (fl % 32)):=fun _ _=>rfl
            rw [e]
            simp only [Extern.ReflectliteValue.isNil,Sem.run_bind,k1,Result.andThen_ok,hk,Bool.not_true,Bool.false_eq_true,if_false,hz,Sem.run_pure]
           ·simp [no] at hc
          ·simp [no] at hc
         ·rw [if_neg hn] at hc
          by_cases hn:fn.name = "(internal/reflectlite.Value).Elem"
          ·rw [if_pos hn] at hc
           split at hc
           ·obtain⟨x',rfl,hx⟩:=one rfl
            simp only [bind_ok] at hc
            obtain⟨⟨t,a',f'⟩,ht,hc⟩:=hc
            rw [ite_no] at hc
            obtain⟨hk,hc⟩:=hc
            have hk:f' % 32=22:=by simpa using hk
            simp only [bind_ok] at hc
            obtain⟨u,hu,o,hel,hc⟩:=hc
            obtain⟨b,hb',_,k1⟩:=valA_ok (w:=w) hG ht hx
            have k1:=k1 rfl
            obtain⟨z,hz,hzv⟩:=loadA_ok p.hr hu hb'
            have k2:=runR_ok (.elem _) hel w
            split at hc
            ·simp only [bind_ok] at hc
             obtain⟨v2,hv2,hc⟩:=hc
             rw [okk] at hc;injection hc with e1 e2;subst e1;subst e2
             obtain⟨q,rfl,hq⟩:=hzv.ptr_inv
             obtain⟨z2,hz2,hzv2⟩:=mkVA_ok (w:=w) (η:=η) hG hv2 hq
             refine put hn (by kernel_rfl) (by kernel_rfl) (by kernel_rfl) (e:=Extern.ReflectliteValue.method (Extern.ReflectliteValue.valueError "reflectlite.Value.Elem" 0) Extern.ReflectliteValue.elem) (by kernel_rfl) (x:=z2) ?_ hzv2
             have e:∀ (g:Sem Value) (r:TypeId→Addr→Nat→Nat→Sem Value),Extern.ReflectliteValue.method g r #[x']=(do match ← Extern.ReflectliteValue.parts x' with | none=>g | some (t,a,fl)=>r t a fl (fl % 32)):=fun _ _=>rfl
             rw [e]
             simp only [Extern.ReflectliteValue.elem,Sem.run_bind,k1,Result.andThen_ok,hk]
             rw [if_neg (by decide)]
             simp only [Sem.run_bind,hz,k2,Result.andThen_ok]
             exact hz2
            ·simp [no] at hc
           ·simp [no] at hc
          ·rw [if_neg hn] at hc
           by_cases hn:fn.name = "(internal/reflectlite.Value).Set"
           ·rw [if_pos hn] at hc
            split at hc
            ·obtain⟨x',y',rfl,hx,hy⟩:=two rfl
             simp only [bind_ok] at hc
             obtain⟨⟨t,a',f'⟩,ht,⟨t2,a2,f2⟩,ht2,hc⟩:=hc
             rw [ite_no] at hc
             obtain⟨hk,hc⟩:=hc
             simp only [bind_ok] at hc
             obtain⟨u,hu,bb,hbb,hc⟩:=hc
             rw [ite_no] at hc
             obtain⟨hbt,hc⟩:=hc
             rw [Bool.not_eq_false] at hbt
             subst hbt
             simp only [bind_ok] at hc
             obtain⟨h2,hst,hc⟩:=hc
             rw [okk] at hc;injection hc with e1 e2;subst e1;subst e2
             obtain⟨b,hb',_,k1⟩:=valA_ok (w:=w) hG ht hx
             obtain⟨b2,hb2',_,k2⟩:=valA_ok (w:=w) hG ht2 hy
             have k1:=k1 rfl
             have k2:=k2 rfl
             obtain⟨z,hz,hzv⟩:=loadA_ok p.hr hu hb2'
             have k3:=runR_ok (.direct _ _) hbb w
             simp only [storeA,bind_ok] at hst
             obtain⟨n,hn2,hst⟩:=hst
             rw [ite_no] at hst
             obtain⟨hlen,hst⟩:=hst
             have hcl:=hzv.cells hη
             obtain⟨w',hw',hp⟩:=storeC_ok (P:=P) hη p hst hb' hcl
             have hsz:z.cells.size=n:=by
              have e1:=hcl.len
              have e2:z.cells.size=z.cells.toList.length:=rfl
              omega
             refine⟨ρ,w',⟨.tuple #[],?_,.tup' .nil⟩,hp⟩
             rw [run_callFunc_extern hf hnm hb (look_none hn ho (by kernel_rfl) nx) (look_find hn (by kernel_rfl) (by kernel_rfl) (e:=Extern.ReflectliteValue.set) (by kernel_rfl))]
             have e:Extern.ReflectliteValue.set #[x',y']=(do
              let (some (dst,a,fl),some (src,b,_)):=(← Extern.ReflectliteValue.parts x',← Extern.ReflectliteValue.parts y')
               | unsupported (.noEntry "extern/(internal/reflectlite.Value).Set.zeroValue")
              if fl / Extern.ReflectliteValue.flagAddr % 2 == 0 then unsupported (.noEntry "extern/(internal/reflectlite.Value).Set.unaddressable")
              let val ← loadVar src b
              if ← Extern.Rtype.directlyAssignable dst src then storeVar dst a val
              else if ← Extern.Rtype.implements dst src then
               if(← Extern.Rtype.kind src) == 20 then
                match val with
                | .nilIface=>unsupported (.noEntry "extern/reflectlite: a nil value of one interface type handed on as a value of another")
                | _=>storeVar dst a val
               else storeVar dst a (.iface src val)
              else panicString ("reflectlite.Set: value of type " ++ (← Extern.Rtype.spelt src) ++ " is not assignable to type " ++ (← Extern.Rtype.spelt dst))
              pure (.tuple #[])):=rfl
             have hfl:(f' / Extern.ReflectliteValue.flagAddr % 2 == 0)=false:=by
              unfold Extern.ReflectliteValue.flagAddr
              cases hq:f' / 256 % 2 == 0 with
              | false=>rfl
              | true=>exact absurd (beq_iff_eq.1 hq) hk
             rw [e]
             simp only [Sem.run_bind,k1,k2,Result.andThen_ok,hfl,Bool.false_eq_true,if_false,hz,k3,if_true,storeVar,run_size hn2,Sem.run_pure]
             rw [if_neg (by omega)]
             simp only [Sem.run_bind,hw',Result.andThen_ok,Sem.run_pure]
            ·simp [no] at hc
           ·rw [if_neg hn] at hc;simp [no] at hc
theorem run_lb{l vs:List Value}(hl:LR η ρ l vs):∀ {bs:List UInt8},bytesOf l = .ok bs→∀ (a:Addr) (acc:ByteArray),a.spot=none→(∀ (j:Nat) (v:Value),vs[j]? = some v→w.cell? (a.add j)=some v)→(Extern.Bytes.loadBytes a l.length acc).run P w = .ok ⟨⟨acc.data.toList ++ bs⟩⟩ w:=by
 induction l generalizing vs with
 | nil=>
  intro bs hb a acc _ _
  simp only [bytesOf,okk] at hb;subst hb
  simp only [List.length_nil,Extern.Bytes.loadBytes,Sem.run_pure,List.append_nil]
 | cons v l ih=>
  intro bs hb a acc ha hc
  obtain⟨x,m,rfl,hx,hm⟩:=hl.inv_cons
  unfold bytesOf at hb
  split at hb
  ·rename_i e;cases e
  ·rename_i n r e
   injection e with e1 e2;subst e1;subst e2
   have:=hx.int_inv;subst this
   split at hb
   ·rename_i l' hl'
    rw [okk] at hb;subst hb
    have h0:=hc 0 _ rfl
    have hz:a.add 0=a:=by simp [Addr.add]
    rw [hz] at h0
    have k:=ih hm hl' (a.add 1) (acc.push n.toNat.toUInt8) (by rw [add_eq ha]) (fun j v hj=>by
     have:=hc (j+1) v (by simpa using hj)
     rw [add_eq ha,add_eq rfl]
     rw [add_eq ha] at this
     rw [show a.off+1+j=a.off+(j+1) by omega];exact this)
    simp only [List.length_cons,Extern.Bytes.loadBytes,Sem.run_bind,run_load,h0,Result.andThen_ok]
    rw [k]
    congr 1
    apply byteArray_ext
    simp [ByteArray.push]
   ·cases hb
  ·simp [no] at hb
theorem run_indexByte_any{x:Value}{s:ByteArray}{c:Int}(hb:(Extern.Bytes.bytesOf x).run P w = .ok s w):(Extern.BytealgIndexByte.indexByte #[x,.int .u8 c]).run P w = .ok (.int .i64 (firstIdx s c.toNat.toUInt8)) w:=by
 change Sem.run P (do
  let b ← Extern.Bytes.bytesOf x
  let c' ← Extern.Bytes.asByte (.int .u8 c)
  match (List.range b.size).find? fun i=>b[i]! == c' with
  | some i=>pure (goInt i)
  | none=>pure (goInt (-1))) w=_
 simp only [Sem.run_bind,hb,Extern.Bytes.asByte,firstIdx,Sem.run_pure,Result.andThen]
 generalize (List.range s.size).find? (fun i=>s[i]! == c.toNat.toUInt8)=r
 cases r <;> rfl
theorem externA_ok(hη:OneCells η)(p:Pre η P ρ B h w){f:FuncId}{fn:Func}{args:List Value}{args':Array Value}{a:AN}{h':AH}(hf:P.funcs[f]? = some fn)(hnm:(fn.name == "runtime.NumGoroutine")=false)(hb:fn.body.isNone=true)(hc:externA P h fn args = .ok (a,h'))(hl:LR η ρ args args'.toList) :
  Eff η P ρ B h w (callFunc f args') a h':=by
 have one:∀ {x:Value},args=[x]→∃ x',args'=#[x']∧VR η ρ x x':=by
  intro x e;subst e
  obtain⟨x',m,hm,hx,hm'⟩:=hl.inv_cons
  have:=hm'.inv_nil;subst this
  exact⟨x',by rw [← Array.toArray_toList (xs:=args'),hm],hx⟩
 have two:∀ {x y:Value},args=[x,y]→∃ x' y',args'=#[x',y']∧VR η ρ x x'∧VR η ρ y y':=by
  intro x y e;subst e
  obtain⟨x',m,hm,hx,hm'⟩:=hl.inv_cons
  obtain⟨y',m2,hm2,hy,hm2'⟩:=hm'.inv_cons
  have:=hm2'.inv_nil;subst this;subst hm2
  exact⟨x',y',by rw [← Array.toArray_toList (xs:=args'),hm],hx,hy⟩
 unfold externA at hc
 rw [ite_no] at hc
 obtain⟨ho,hc⟩:=hc
 rw [Bool.not_eq_false] at ho
 have nx:(Extern.allNextRows.lookup "").isNone=true:=by kernel_rfl
 split at hc
 ·rename_i hn
  split at hc
  ·rename_i x
   obtain⟨x',rfl,hx⟩:=one rfl
   rw [okk] at hc;injection hc with e1 e2;subst e1;subst e2
   refine Eff.reader p ⟨x',?_,hx⟩
   rw [run_callFunc_extern hf hnm hb (look_none hn ho (by kernel_rfl) nx) (look_find hn (by kernel_rfl) (by kernel_rfl) (e:=Extern.AbiNoEscape.same) (by rfl))]
   rfl
  ·simp [no] at hc
 ·split at hc
  ·rename_i hn
   split at hc
   ·rename_i s c
    obtain⟨x',y',rfl,hx,hy⟩:=two rfl
    have:=hx.string_inv;have:=hy.int_inv;subst_vars
    rw [okk] at hc;injection hc with e1 e2;subst e1;subst e2
    refine Eff.reader p ⟨_,?_,.int _ _⟩
    rw [run_callFunc_extern hf hnm hb (look_none hn ho (by kernel_rfl) nx) (look_find hn (by kernel_rfl) (by kernel_rfl) (e:=Extern.BytealgIndexByte.indexByte) (by rfl))]
    rw [run_indexByte_string];rfl
   ·simp [no] at hc
  ·split at hc
   ·rename_i hn
    split at hc
    ·rename_i ad n c0 c
     simp only [bind_ok] at hc
     obtain⟨cs,hcs,bs,hbs,hc⟩:=hc
     rw [okk] at hc;injection hc with e1 e2;subst e1;subst e2
     obtain⟨x',y',rfl,hx,hy⟩:=two rfl
     have:=hy.int_inv;subst this
     obtain⟨a',c',rfl,hcc⟩:=hx.slice_inv3 (.inl rfl)
     obtain⟨q,rfl,hq⟩:∃ q,a'=some q∧AdR ρ ad q:=by
      rcases hcc with⟨e,_⟩ | ⟨_,q,e,e',hq,_⟩ | ⟨_,q,_,_,_,_,e,e',hq,_⟩
      ·cases e
      ·cases e;exact⟨q,e',hq⟩
      ·cases e;exact⟨q,e',hq⟩
     obtain⟨vs,h1,h2,h3⟩:=getC_ok p.hr hcs hq
     obtain⟨_,n',blk,d',h5,rfl⟩:=hq
     have hlen:cs.length=n:=by rw [← h2,h1.len]
     have hlb:=run_lb (P:=P) (w:=w) h1 hbs ⟨blk,d'+ad.off,none⟩ .empty rfl h3
     rw [hlen] at hlb
     refine Eff.reader p ⟨_,?_,.int _ _⟩
     rw [run_callFunc_extern hf hnm hb (look_none hn ho (by kernel_rfl) nx) (look_find hn (by kernel_rfl) (by kernel_rfl) (e:=Extern.BytealgIndexByte.indexByte) (by rfl))]
     have hbo:(Extern.Bytes.bytesOf (.slice (some ⟨blk,d'+ad.off,none⟩) n c')).run P w = .ok ⟨⟨bs⟩⟩ w:=by
      show(Extern.Bytes.loadBytes ⟨blk,d'+ad.off,none⟩ n .empty).run P w=_
      rw [hlb];rfl
     rw [run_indexByte_any hbo];rfl
    ·simp [no] at hc
   ·split at hc
    ·rename_i hn
     split at hc
     ·rename_i s c
      obtain⟨x',y',rfl,hx,hy⟩:=two rfl
      have:=hx.string_inv;have:=hy.int_inv;subst_vars
      rw [okk] at hc;injection hc with e1 e2;subst e1;subst e2
      refine Eff.reader p ⟨_,?_,.int _ _⟩
      rw [run_callFunc_extern hf hnm hb (look_none hn ho (by kernel_rfl) nx) (look_find hn (by kernel_rfl) (by kernel_rfl) (e:=Extern.BytealgCount.count) (by rfl))]
      rfl
     ·simp [no] at hc
    ·split at hc
     ·rename_i hn
      split at hc
      ·rename_i n t hres
       simp only [bind_ok,undA_ok] at hc
       obtain⟨d,hd,hc⟩:=hc
       split at hc
       ·rename_i e
        rw [ite_no,okk] at hc
        obtain⟨hr,hc⟩:=hc
        injection hc with e1 e2;subst e1;subst e2
        have hargs:args'=#[.int .i64 n]:=by
         obtain⟨x',h1,h2⟩:=one rfl
         rw [h1,h2.int_inv]
        subst hargs
        have hr0:fn.resultTypes[0]? = some t:=by rw [← Array.getElem?_toList,hres];rfl
        generalize hq:(Question.appendCap n.toNat 0 e).cut (w.tape w.drawn (Question.appendCap n.toNat 0 e))=cap
        have hcap:n.toNat≤cap:=by rw [← hq];simp only [Question.cut];omega
        have hcb:cap<capB:=by
         rw [← hq];simp only [Question.cut];unfold capB
         have:=Nat.mod_lt (w.tape w.drawn (Question.appendCap n.toNat 0 e)) (show 0<2 ^ 63 - n.toNat by omega)
         omega
        have hch:(choose (.appendCap n.toNat 0 e)).run P w = .ok cap { w with drawn:=w.drawn+1 }:=by
         rw [run_choose,hq];simp [Question.forced]
        obtain⟨by_,w2,hch2,hw2h,hw2o,hw2t,hw2p⟩:∃ by_ w2,(choose (.extern "internal/bytealg.MakeNoZero.bytes" 0)).run P { w with drawn:=w.drawn+1 } = .ok by_ w2∧w2.heap=w.heap∧w2.os=w.os∧w2.tape=w.tape∧w2.output=w.output:=by
         rw [run_choose]
         simp only [Question.forced]
         exact⟨_,_,rfl,rfl,rfl,rfl,rfl⟩
        obtain⟨C,hC⟩:∃ C:Array Value,Extern.BytealgMakeNoZero.digits cap by_ #[]=C:=⟨_,rfl⟩
        have hCs:C.size=cap:=by rw [← hC,digits_len];simp
        have hrun:(Extern.BytealgMakeNoZero.makeNoZero fn.params fn.resultTypes #[.int .i64 n]).run P w = .ok (.slice (some ⟨w.heap.size,0,none⟩) n.toNat cap) (wpush w2 (.cells C e)):=by
         have hdef:Extern.BytealgMakeNoZero.makeNoZero fn.params fn.resultTypes #[.int .i64 n]=(do
          let some t:=fn.resultTypes[0]? | stuck "bytealg.MakeNoZero: no result type"
          let .slice elem ← underlying t | stuck "bytealg.MakeNoZero: slice type expected"
          if n<0 || n > 2 ^ 48 then runtimePanic (.error "makeslice: len out of range")
          let cap ← choose (.appendCap n.toNat 0 elem)
          askRoom cap
          let bytes ← choose (.extern "internal/bytealg.MakeNoZero.bytes" 0)
          let a ← newRow elem (Extern.BytealgMakeNoZero.digits cap bytes #[])
          pure (.slice (some a) n.toNat cap)):=rfl
         rw [hdef,hr0]
         simp only [Sem.run_bind,run_und hd,Result.andThen_ok]
         rw [if_neg (by simp only [Bool.or_eq_true,decide_eq_true_eq];omega)]
         simp only [Sem.run_bind,Sem.run_pure,hch,run_askRoom,hch2,Result.andThen_ok,hC,run_newRow,hw2h]
        have hle:=Env.le_put (t:=(w.heap.size,0,cap)) (p.fresh h.next (Nat.le_refl _))
        refine⟨ρ.put h.next (w.heap.size,0,cap),wpush w2 (.cells C e),⟨.slice (some ⟨w.heap.size,0,none⟩) n.toNat cap,?_,?_⟩,Post.new p (w':=wpush w2 (.cells C e)) (ob:=.cells C e) ⟨(show(w2.heap.push (.cells C e))=w.heap.push (.cells C e) by rw [hw2h]),hw2o,hw2t,hw2p⟩ h.objs (fun _ _ hx=>hx) ?_⟩
        ·rw [run_callFunc_extern hf hnm hb (look_none hn ho (by kernel_rfl) nx) (look_typed hn (by kernel_rfl) (e:=Extern.BytealgMakeNoZero.makeNoZero) (by rfl)),hrun]
         rfl
        ·have:=VR.sliceU (η:=η) (ρ:=ρ.put h.next (w.heap.size,0,cap)) (o:=0) n.toNat 1 cap (Env.put_at _ _ _) (by omega) (by omega) hcap hcb
         exact this
        ·refine⟨C,e,0,0,rfl,⟨rfl,?_,by simp,fun i v hv=>by simp at hv,(fun h=>absurd h (by decide)),(fun _ i _ hh=>by omega)⟩⟩
         have:C.toList.length=C.size:=rfl
         omega
       ·simp [no] at hc
      ·simp [no] at hc
     ·exact reflectA_ok hη p hf hnm hb ho hc hl
theorem callF_ok(hη:OneCells η)(p:Pre η P ρ B h w){f:FuncId}{args:List Value}{args':Array Value}{a:AN}{h':AH}(hc:callF P h f args = .ok (a,h'))(hl:LR η ρ args args'.toList):Eff η P ρ B h w (callFunc f args') a h':=by
 unfold callF at hc
 split at hc
 ·simp [no] at hc
 ·rename_i fn hfn
  rw [ite_no] at hc
  obtain⟨hnm,hc⟩:=hc
  have hb2:(fn.name == "runtime.NumGoroutine")=false:=by cases h:fn.name == "runtime.NumGoroutine" <;> simp_all
  split at hc
  ·rename_i hb
   exact externA_ok hη p hfn hb2 hb hc hl
  ·rename_i hb
   rw [okk] at hc;injection hc with e1 e2;subst e1;subst e2
   have hb1:fn.body.isNone=false:=by rw [Bool.not_eq_true] at hb;exact hb
   refine Eff.reader p ⟨args',?_,hl⟩
   simp only [callFunc,Sem.run_bind,run_program,Result.andThen_ok,hfn,hb1,hb2,Bool.false_eq_true,if_false,Sem.run_pure]
theorem callMeth_ok(hη:OneCells η)(p:Pre η P ρ B h w){recv recv':Value}{name:String}{args:List Value}{args':Array Value}{a:AN}{h':AH}(hc:callMeth P h recv name args = .ok (a,h'))(hr:VR η ρ recv recv')(hl:LR η ρ args args'.toList) :
  Eff η P ρ B h w (callMethod recv' name args') a h':=by
 unfold callMeth at hc
 split at hc
 ·obtain⟨u,rfl,hu⟩:=hr.iface_inv
  simp only [bind_ok] at hc
  obtain⟨⟨f,r⟩,hm,hc⟩:=hc
  obtain⟨r',hr',hrr⟩:=methodA_ok p.hr hm hu
  obtain⟨ρ',w',k1,k2⟩:=callF_ok hη p (args':=#[r'] ++ args') hc (by simpa using LR.cons hrr hl)
  exact⟨ρ',w',by simp only [callMethod,Sem.run_bind,run_program,Result.andThen_ok,hr'];exact k1,k2⟩
 ·simp [no] at hc
theorem putParams_ok:∀ {ps:List Tmp} {args args':List Value} {tm tm2:T Value} {n:Nat} {tmps:Array Value},putParams n ps args tm = .ok tm2→LR η ρ args args'→TR η ρ tm n tmps→
  TR η ρ tm2 n ((ps.zip args').foldl (fun tmps (x:Tmp × Value)=>tmps.setIfInBounds x.1 x.2) tmps)
 | [],args,args',tm,tm2,n,tmps,hp,hl,ht=>by
  cases args <;> (simp only [putParams,okk] at hp;subst hp;simpa using ht)
 | t :: ps,[],args',tm,tm2,n,tmps,hp,hl,ht=>by
  have:=hl.inv_nil;subst this
  simp only [putParams,okk] at hp;subst hp
  simpa using ht
 | t :: ps,v :: vs,args',tm,tm2,n,tmps,hp,hl,ht=>by
  obtain⟨x,m,rfl,hx,hm⟩:=hl.inv_cons
  simp only [putParams] at hp
  rw [ite_no'] at hp
  obtain⟨hlt,hp⟩:=hp
  rw [List.zip_cons_cons,List.foldl_cons]
  refine putParams_ok hp hm ⟨by simp [ht.1],?_,?_⟩
  ·intro s hs
   rw [T.get_set,if_neg (fun e=>by subst e;exact absurd hlt (Nat.not_lt.2 hs))]
   exact ht.2.1 s hs
  ·intro s hs
   rw [T.get_set]
   by_cases e:s=t
   ·subst e
    rw [if_pos rfl]
    have hsz:s<tmps.size:=by rw [ht.1];exact hs
    simp only [Option.getD_some]
    rw [Array.getD_eq_getD_getElem?,Array.getElem?_setIfInBounds_self_of_lt hsz]
    exact hx
   ·rw [if_neg e]
    rw [Array.getD_eq_getD_getElem?,Array.getElem?_setIfInBounds_ne (fun h=>e h.symm),← Array.getD_eq_getD_getElem?]
    exact ht.2.2 s hs
theorem freeze_eq{b off n lo hi:Nat}{C:Array Value}{ty:TypeId}(hb:w.heap[b]? = some (.cells C ty (lo,hi)))(hn:n ≠ 0) :
  w.freeze ⟨b,off,none⟩ n=wput w b (.cells C ty (if lo == hi then(off,off+n) else(min lo off,max hi (off+n)))):=by
 unfold World.freeze wput
 rw [if_neg hn]
 congr 1
 apply Array.ext_getElem?
 intro k
 rw [Array.getElem?_modify,Array.getElem?_setIfInBounds]
 by_cases h:b=k
 ·subst h
  rw [if_pos rfl,if_pos rfl,hb,if_pos (heap_lt hb)]
  rfl
 ·rw [if_neg h,if_neg h]
theorem bytesOf_cells:∀ {l:List Value} {bs:List UInt8} {vs:List Value},bytesOf l = .ok bs→LR η ρ l vs→bs.length=l.length∧∀ (j:Nat) (u:UInt8),bs[j]? = some u→∃ n,vs[j]? = some (.int .u8 n)∧u=UInt8.ofNat n.toNat
 | [],bs,vs,hb,hl=>by simp only [bytesOf,okk] at hb;subst hb;exact⟨rfl,fun j u h=>by simp at h⟩
 | v :: l,bs,vs,hb,hl=>by
  obtain⟨x,m,rfl,hx,hm⟩:=hl.inv_cons
  unfold bytesOf at hb
  split at hb
  ·rename_i e;cases e
  ·rename_i n r e
   injection e with e1 e2;subst e1;subst e2
   have:=hx.int_inv;subst this
   split at hb
   ·rename_i l' hl'
    rw [okk] at hb;subst hb
    obtain⟨i1,i2⟩:=bytesOf_cells hl' hm
    refine⟨by simp [i1],fun j u hj=>?_⟩
    cases j with
    | zero=>simp at hj;subst hj;exact⟨n,rfl,rfl⟩
    | succ j=>simp at hj;simpa using i2 j u hj
   ·cases hb
  ·simp [no] at hb
end
end Go.Ev

namespace Go.Ev
variable {η:Nat→Value}
section
variable {P:Program} {ρ:Env} {B:Bd} {h:AH} {w:World}
theorem add_add{a:Addr}(h:a.spot=none)(i j:Nat):(a.add i).add j=a.add (i+j):=by
 rw [add_eq h,add_eq rfl,add_eq h,Nat.add_assoc]
theorem run_loadBytes':∀ (bs:List UInt8) (vs:List Value) (a:Addr) (acc:ByteArray),a.spot=none→(∀ (j:Nat) (u:UInt8),bs[j]? = some u→∃ n:Int,vs[j]? = some (Value.int .u8 n)∧u=UInt8.ofNat n.toNat)→(∀ (j:Nat) (v:Value),vs[j]? = some v→w.cell? (a.add j)=some v)→
  (loadBytes a acc bs.length).run P w = .ok ⟨⟨acc.data.toList ++ bs⟩⟩ w
 | [],vs,a,acc,_,_,_=>by
  simp only [List.length_nil,loadBytes,Sem.run_pure,List.append_nil]
 | u :: bs,vs,a,acc,ha,hb,hc=>by
  obtain⟨n,hn,hu⟩:=hb 0 u rfl
  have h0:=hc 0 _ hn
  have hz:a.add 0=a:=by simp [Addr.add]
  rw [hz] at h0
  have ih:=run_loadBytes' bs (vs.drop 1) (a.add 1) (acc.push n.toNat.toUInt8) (by rw [add_eq ha]) (fun j x hj=>by
   obtain⟨m,hm,hx⟩:=hb (j+1) x (by simpa using hj)
   exact⟨m,by rw [List.getElem?_drop,Nat.add_comm];exact hm,hx⟩) (fun j v hj=>by
   rw [List.getElem?_drop] at hj
   have:=hc _ v hj
   rw [add_add ha];exact this)
  simp only [List.length_cons,loadBytes,Sem.run_bind,run_load,h0,Result.andThen_ok]
  rw [ih]
  congr 1
  apply byteArray_ext
  simp [ByteArray.push,hu]
theorem unsafeS_ok(p:Pre η P ρ B h w){pt:TypeId}{ts:List TypeId}{type:TypeId}{a:Addr}{q:Addr}{lk:IntKind}{n:Int}{v:AN}{h':AH}(hq:AdR ρ a q)(h0:¬ (n<0∨n > 1000000))(hn0:¬ n=0)
  (hs:(do
   let (ty,c,_,own) ← cellsAt h a.block
   if own=0 then no "unsafe.String: not own" else
   match ← undA P pt,P.underlying ty with
   | .pointer e,some (.int .u8)=>
    if e ≠ ty∨P.cellsOf ty ≠ 1 then no "unsafe.String: type" else do
    let l ← bytesOf (← getC h a n.toNat)
    .ok (.value (strL l),putA h a.block (.cells ty c false 1))
   | _,_=>no "unsafe.String: type" :M (AN × AH)) = .ok (v,h')) :
  ∃ l w',v = .value (strL l)∧(Builtin.unsafeString_ ⟨pt :: ts⟩ type #[.pointer (some q),.int lk n]).run P w = .ok (strL l) w'∧Post η ρ B h w ρ h' w':=by
 simp only [bind_ok] at hs
 obtain⟨⟨ty,c,pl,own⟩,hcell,hs⟩:=hs
 simp only [ite_no] at hs
 obtain⟨hown,hs⟩:=hs
 simp only [bind_ok,undA_ok] at hs
 obtain⟨d,hd,hs⟩:=hs
 split at hs
 ·rename_i e hty
  simp only [ite_no] at hs
  obtain⟨hes,hs⟩:=hs
  simp only [not_or,Decidable.not_not] at hes
  obtain⟨rfl,hc1⟩:=hes
  simp only [bind_ok] at hs
  obtain⟨l,hl,bs,hb,hs⟩:=hs
  rw [okk] at hs;injection hs with e1 e2;subst e1;subst e2
  have hg:=cellsAt_ok.1 hcell
  simp only [] at hg
  obtain⟨b,dd,nn,C,lo,hi,h1,h2,h3,h4⟩:=p.hr.cells hg
  obtain⟨vs,k1,k2,k3⟩:=getC_ok p.hr hl hq
  obtain⟨hsp,n',b',d',h5,rfl⟩:=hq
  rw [h1] at h5;cases h5
  obtain⟨m1,m2⟩:=bytesOf_cells hb k1
  have hbl:bs.length=n.toNat:=by rw [m1,k1.len,k2]
  have hload:=run_loadBytes' (P:=P) (w:=w) bs vs ⟨b,dd+a.off,none⟩ .empty rfl m2 k3
  rw [hbl] at hload
  have hsz:C.toList.length=dd+nn:=h3.size
  have hcl:c.length≤nn:=h3.len
    -- the cells are there
  have hin:a.off+n.toNat≤c.length:=by
   unfold getC at hl
   rw [hcell] at hl
   simp only [ite_no'] at hl
   exact hl.1.1
  have hCs:C.size=dd+nn:=hsz
  have hlies:=liesAt_off (P:=P) hc1 (C.size / P.cellsOf e) (dd+a.off) n.toNat (by rw [hc1,Nat.div_one];omega)
  refine⟨bs,wput w b (.cells C e (if lo == hi then(dd+a.off,dd+a.off+n.toNat) else(min lo (dd+a.off),max hi (dd+a.off+n.toNat)))),rfl,?_,?_⟩
  ·have hdef:Builtin.unsafeString_ ⟨pt :: ts⟩ type #[.pointer (some ⟨b,dd+a.off,none⟩),.int lk n] =
    (do
     let n ← asInt (.int lk n)
     if n<0 then runtimePanic (.error "unsafe.String: len out of range")
     if n > IntKind.i64.max then unsupported (.unsafePointer "String: a length above the largest int")
     if n=0 then pure (.string .empty)
     else if ← variablesAt ⟨b,dd+a.off,none⟩ (← elemOf pt) n.toNat then do
      let s ← loadBytes ⟨b,dd+a.off,none⟩ .empty n.toNat
      freeze ⟨b,dd+a.off,none⟩ n.toNat
      pure (.string s)
     else unsupported (.unsafePointer "String: not so many bytes at ptr")):=rfl
   rw [hdef]
   have hmax:IntKind.i64.max=9223372036854775807:=by decide
   have hsh:w.shape? b=some (e,C.size):=by simp only [World.shape?,h2]
   simp only [asInt,Sem.run_bind,run_asIntOf,Sem.run_pure,Result.andThen_ok,hmax]
   rw [if_neg (by omega)]
   rw [if_neg (by omega)]
   rw [if_neg hn0]
   have hel:(elemOf pt).run P w = .ok e w:=by simp only [elemOf,Sem.run_bind,run_und hd,Result.andThen_ok,Sem.run_pure]
   have hva:(variablesAt ⟨b,dd+a.off,none⟩ e n.toNat).run P w = .ok true w:=by
    simp only [variablesAt,Sem.run_bind,run_program,Result.andThen_ok,run_shape,hsh,Sem.run_pure,hlies]
   simp only [Sem.run_bind,hel,Result.andThen_ok,hva,if_true,hload,run_freeze,Sem.run_pure]
   rw [freeze_eq h2 (by omega)]
   rfl
  ·refine Post.put p hg ?_ h1 rfl ⟨C,e,_,_,rfl,⟨rfl,hsz,hcl,h3.at_,(fun h=>by cases h),(fun h=>by cases h)⟩⟩
   simp [ownO,hown]
 ·simp [no] at hs
theorem two_args{a b:Value}{args':Array Value}(h:LR η ρ [a,b] args'.toList):∃ a' b',args'=#[a',b']∧VR η ρ a a'∧VR η ρ b b':=by
 obtain⟨a',m1,hm1,ha,hr1⟩:=h.inv_cons
 obtain⟨b',m2,hm2,hb,hr2⟩:=hr1.inv_cons
 have:=hr2.inv_nil;subst this;subst hm2
 exact⟨a',b',by rw [← Array.toArray_toList (xs:=args'),hm1],ha,hb⟩
theorem one_arg{a:Value}{args':Array Value}(h:LR η ρ [a] args'.toList):∃ a',args'=#[a']∧VR η ρ a a':=by
 obtain⟨a',m1,hm1,ha,hr1⟩:=h.inv_cons
 have:=hr1.inv_nil;subst this
 exact⟨a',by rw [← Array.toArray_toList (xs:=args'),hm1],ha⟩
theorem Eff.val{s:Sem Value}{v:Value}{h':AH}(hh:∃ ρ' x w',s.run P w = .ok x w'∧VR η ρ' v x∧Post η ρ B h w ρ' h' w'):Eff η P ρ B h w (do pure (.value (← s))) (.value v) h':=by
 obtain⟨ρ',x,w',h1,h2,h3⟩:=hh
 exact⟨ρ',w',⟨x,by simp only [Sem.run_bind,h1,Result.andThen_ok,Sem.run_pure],h2⟩,h3⟩
theorem builtinA_ok(hη:OneCells η)(p:Pre η P ρ B h w){b:Builtin}{ts:Array TypeId}{type:TypeId}{cs:Array Bool}{args:List Value}{args':Array Value}{a:AN}{h':AH}(hb:builtinA P h b ts.toList args = .ok (a,h'))(hl:LR η ρ args args'.toList) :
  Eff η P ρ B h w (builtin b ts type cs args') a h':=by
 obtain⟨ts⟩:=ts
 simp only [] at hb
 have head:¬ (ts.isEmpty=true)→∃ t ts',ts=t :: ts':=by
  intro hne
  cases ts with
  | nil=>simp at hne
  | cons t ts'=>exact⟨_,_,rfl⟩
 unfold builtinA at hb
 split at hb
 ·simp only [bind_ok] at hb
  obtain⟨⟨v,h1⟩,ha,hb⟩:=hb
  rw [okk] at hb;injection hb with e1 e2;subst e1;subst e2
  exact Eff.val (appendA_ok hη p ha hl)
 ·rename_i dst src
  obtain⟨d',s',rfl,hd,hs⟩:=two_args hl
  rw [ite_no] at hb
  obtain⟨hne,hb⟩:=hb
  have hts:ts ≠ []:=fun e=>hne (by rw [e];rfl)
  have hc:∃ v,a = .value v∧(do
   match ← undA P (ts.headD 0),dst with
   | .slice elem,.slice base dLen cap=>do
    if base.isNone=true∧isE cap=true then no "copy: no row" else
    let n:=Nat.min (← lenA src) dLen
    let size ← sizeA P elem
    let cs ← firstA h size n src
    match base with
    | some a=>do let h ← storeC h a cs;.ok (goInt n,h)
    | none=>.ok (goInt n,h)
   | _,_=>no "copy" :M (Value × AH)) = .ok (v,h'):=by
   simp only [bind_ok] at hb ⊢
   obtain⟨d0,hd0,hb⟩:=hb
   split at hb
   ·rw [ite_no] at hb
    obtain⟨hcE,hb⟩:=hb
    simp only [bind_ok] at hb
    obtain⟨n,hn,sz,hsz,c,hc,hb⟩:=hb
    split at hb
    ·simp only [bind_ok] at hb
     obtain⟨h1,hst,hb⟩:=hb
     rw [okk] at hb;injection hb with e1 e2;subst e1;subst e2
     exact⟨_,rfl,_,hd0,by simp only [if_neg hcE,bind_ok];exact⟨n,hn,sz,hsz,c,hc,h1,hst,rfl⟩⟩
    ·rw [okk] at hb;injection hb with e1 e2;subst e1;subst e2
     exact⟨_,rfl,_,hd0,by simp only [if_neg hcE,bind_ok];exact⟨n,hn,sz,hsz,c,hc,rfl⟩⟩
   ·simp [no] at hb
  obtain⟨v,rfl,hc⟩:=hc
  obtain⟨x,w',h1,h2,h3⟩:=copyA_ok (type:=type) hη p hc hts hd hs
  exact Eff.val ⟨ρ,x,w',h1,h2,h3⟩
 ·rename_i m k
  obtain⟨m',k',rfl,hm,hk⟩:=two_args hl
  rw [ite_no] at hb
  obtain⟨hne,hb⟩:=hb
  obtain⟨t,ts',rfl⟩:=head hne
  simp only [bind_ok,List.headD_cons] at hb
  obtain⟨h1,hd,hb⟩:=hb
  rw [okk] at hb;injection hb with e1 e2;subst e1;subst e2
  obtain⟨w',hw,hp⟩:=deleteA_ok (ts:=ts') (type:=type) p hd hm hk
  exact Eff.val ⟨ρ,_,w',hw,.tup' .nil,hp⟩
 ·rename_i x
  obtain⟨x',rfl,hx⟩:=one_arg hl
  rw [ite_no] at hb
  obtain⟨hne,hb⟩:=hb
  obtain⟨t,ts',rfl⟩:=head hne
  simp only [bind_ok,List.headD_cons] at hb
  obtain⟨h1,hd,hb⟩:=hb
  rw [okk] at hb;injection hb with e1 e2;subst e1;subst e2
  obtain⟨w',hw,hp⟩:=clearA_ok (ts:=ts') (type:=type) hη p hd hx
  exact Eff.val ⟨ρ,_,w',hw,.tup' .nil,hp⟩
 ·rename_i t v
  obtain⟨x',rfl,hx⟩:=one_arg hl
  obtain⟨y,rfl,hy⟩:=hx.iface_inv
  rw [okk] at hb;injection hb with e1 e2;subst e1;subst e2
  exact⟨ρ,w,⟨.iface t y,rfl,.iface t hy⟩,.refl p⟩
 ·rw [okk] at hb;injection hb with e1 e2;subst e1;subst e2
  exact⟨ρ,w,rfl,.refl p⟩
 ·rename_i pt l
  obtain⟨p',l',rfl,hp',hl'⟩:=two_args hl
  rw [ite_no] at hb
  obtain⟨hne,hb⟩:=hb
  obtain⟨t,ts',rfl⟩:=head hne
  simp only [bind_ok,intOfA_ok,List.headD_cons] at hb
  obtain⟨n,⟨lk,rfl⟩,hb⟩:=hb
  have:=hl'.int_inv;subst this
  rw [ite_no] at hb
  obtain⟨hn,hb⟩:=hb
  have hmax:IntKind.i64.max=9223372036854775807:=by decide
  have empty:n=0→∀ q:Option Addr,(Builtin.unsafeString_ ⟨t :: ts'⟩ type #[.pointer q,.int lk n]).run P w = .ok (.string ⟨#[]⟩) w:=by
   intro h0 q
   subst h0
   have hdef:Builtin.unsafeString_ ⟨t :: ts'⟩ type #[.pointer q,.int lk 0] =
    (do
     let n ← asInt (.int lk 0)
     if n<0 then runtimePanic (.error "unsafe.String: len out of range")
     if n > IntKind.i64.max then unsupported (.unsafePointer "String: a length above the largest int")
     match q with
     | none=>
      if n=0 then pure (.string .empty)
      else runtimePanic (.error "unsafe.String: ptr is nil and len is not zero")
     | some a=>
      if n=0 then pure (.string .empty)
      else if ← variablesAt a (← elemOf t) n.toNat then do
       let s ← loadBytes a .empty n.toNat
       freeze a n.toNat
       pure (.string s)
      else unsupported (.unsafePointer "String: not so many bytes at ptr")):=rfl
   rw [hdef]
   simp only [asInt,Sem.run_bind,run_asIntOf,Sem.run_pure,Result.andThen_ok,hmax]
   rw [if_neg (by omega)]
   rw [if_neg (by omega)]
   cases q <;> rfl
  split at hb
  ·have:=hp'.ptr0_inv;subst this
   rw [ite_no',okk] at hb
   obtain⟨h0,hb⟩:=hb
   injection hb with e1 e2;subst e1;subst e2
   exact Eff.val ⟨ρ,_,w,empty h0 _,.string _,.refl p⟩
  ·obtain⟨q,rfl,hq⟩:=hp'.ptr_inv
   by_cases h0:n=0
   ·rw [if_pos h0,okk] at hb
    injection hb with e1 e2;subst e1;subst e2
    exact Eff.val ⟨ρ,_,w,empty h0 _,.string _,.refl p⟩
   ·rw [if_neg h0] at hb
    obtain⟨bs,w',rfl,hr,hpost⟩:=unsafeS_ok (ts:=ts') (type:=type) (lk:=lk) p hq hn h0 hb
    exact Eff.val ⟨ρ,_,w',hr,.string _,hpost⟩
 ·simp [no] at hb
theorem invokeA_ok(hη:OneCells η)(p:Pre η P ρ B h w){t t':Target}{args:List Value}{args':Array Value}{a:AN}{h':AH}(hi:invokeA P h t args = .ok (a,h'))(ht:TgR ρ η t t')(hl:LR η ρ args args'.toList) :
  Eff η P ρ B h w (invoke t' args') a h':=by
 have rest:∀ {r:Value} {l:List Value},args=r :: l→∃ r',args'[0]? = some r'∧VR η ρ r r'∧LR η ρ l (args'.extract 1 args'.size).toList:=by
  intro r l e
  subst e
  obtain⟨r',m,hm,hr,hm'⟩:=hl.inv_cons
  refine⟨r',by rw [← Array.getElem?_toList,hm];rfl,hr,?_⟩
  have:(args'.extract 1 args'.size).toList=m:=by
   have h1:args'.size=m.length+1:=by have:args'.size=args'.toList.length:=rfl;rw [this,hm];rfl
   rw [Array.toList_extract,hm,h1]
   simp [List.extract]
  rw [this];exact hm'
 unfold invokeA at hi
 split at hi
 ·rename_i b ts ty cs
  cases t' with
  | builtin b' ts' ty' cs'=>
   obtain⟨rfl,rfl,rfl,rfl⟩:=ht
   exact builtinA_ok hη p hi hl
  | _=>exact ht.elim
 ·rename_i f captured
  cases t' with
  | fn g captured'=>
   obtain⟨hf,hc⟩:=ht
   cases hf
   exact callF_ok hη p hi (args':=args' ++ captured') (by simpa using hl.append hc)
  | _=>exact ht.elim
 ·rename_i name captured
  cases t' with
  | fn g captured'=>
   obtain⟨hf,hc⟩:=ht
   cases hf
   split at hi
   ·rename_i r l
    obtain⟨r',hr0,hr,hlr⟩:=rest rfl
    obtain⟨ρ',w',k1,k2⟩:=callMeth_ok hη p hi hr hlr
    exact⟨ρ',w',by simp only [invoke,hr0];exact k1,k2⟩
   ·simp [no] at hi
  | _=>exact ht.elim
 ·rename_i t0 name captured
  cases t' with
  | fn g captured'=>
   obtain⟨hf,hc⟩:=ht
   cases hf
   split at hi
   ·rename_i r l
    obtain⟨r',hr0,hr,hlr⟩:=rest rfl
    simp only [bind_ok,undA_ok] at hi
    obtain⟨d,hd,hi⟩:=hi
    split at hi
    ·obtain⟨ρ',w',k1,k2⟩:=callMeth_ok hη p hi hr hlr
     exact⟨ρ',w',by simp only [invoke,hr0,Sem.run_bind,run_und hd,Result.andThen_ok];exact k1,k2⟩
    ·rename_i hni
     obtain⟨ρ',w',k1,k2⟩:=callMeth_ok hη p hi (VR.iface t0 hr) hlr
     refine⟨ρ',w',?_,k2⟩
     simp only [invoke,hr0,Sem.run_bind,run_und hd,Result.andThen_ok]
     cases d <;> first | exact k1 | exact absurd rfl (hni _)
   ·simp [no] at hi
  | _=>exact ht.elim
 ·rename_i t0 path f pointer captured
  cases t' with
  | fn g captured'=>
   obtain⟨hf,hc⟩:=ht
   cases hf
   split at hi
   ·rename_i x l
    obtain⟨r',hr0,hr,hlr⟩:=rest rfl
    simp only [bind_ok] at hi
    obtain⟨⟨xt,pl⟩,hfo,rv,hrv,ha⟩:=hi
    obtain⟨y',hy,hyr⟩:=followA_ok p.hr hfo (x':=.val r') hr
    obtain⟨u,hu,hur⟩:=recvAt_ok (P:=P) (wr:=none) p.hr hrv hyr
    obtain⟨ρ',w',k1,k2⟩:=callF_ok hη p (args':=#[u] ++ args'.extract 1 args'.size) ha (by rw [Array.toList_append];exact LR.cons hur hlr)
    exact⟨ρ',w',by simp only [invoke,hr0,receiverVia,Sem.run_bind,hy,hu,Result.andThen_ok];exact k1,k2⟩
   ·simp [no] at hi
  | _=>exact ht.elim
 ·rename_i l captured
  cases t' with
  | fn g captured'=>
   obtain⟨hf,hc⟩:=ht
   split at hi
   ·rename_i st pend fn tm n params asg body ds hg
    rw [ite_no] at hi
    obtain⟨hlen,hi⟩:=hi
    simp only [bind_ok] at hi
    obtain⟨tm2,htm,hi⟩:=hi
    rw [okk] at hi;injection hi with e1 e2;subst e1;subst e2
    cases hf with
    | same hs=>exact absurd rfl (hs l)
    | yield hρ=>
     rename_i b d0 n0
     obtain⟨b2,d2,n2,o,h1,h2,⟨lp,rfl,k1,k2,k3,k4,k5,k6,k7,dd,nn,k8⟩,_⟩:=p.hr.obj _ _ hg
     rw [hρ] at h1;cases h1
     refine Eff.reader p ⟨b,_,_,(lp.params.zip args').foldl (fun tmps (x:Tmp × Value)=>tmps.setIfInBounds x.1 x.2) lp.tmps,?_,hρ,?_⟩
     ·have hsz:args'.size=lp.params.size:=by
       have e1:=hl.len
       have e2:lp.params.toList.length=params.length:=by rw [k5]
       have e3:args'.size=args'.toList.length:=rfl
       have e4:lp.params.size=lp.params.toList.length:=rfl
       omega
      simp only [invoke,Instr.yield,Instr.getLoop,Sem.run_bind,run_getObj h2 (by simp),Result.andThen_ok,Sem.run_pure]
      rw [if_neg (by omega)]
      simp only [Sem.run_bind,Sem.run_pure,Result.andThen_ok,k3,k6,k7]
     ·have:=putParams_ok htm hl k4
      rw [← k5] at this
      have hz:(lp.params.zip args').foldl (fun tmps (x:Tmp × Value)=>tmps.setIfInBounds x.1 x.2) lp.tmps=(lp.params.toList.zip args'.toList).foldl (fun tmps (x:Tmp × Value)=>tmps.setIfInBounds x.1 x.2) lp.tmps:=by
       rw [← Array.foldl_toList,Array.toList_zip]
      rw [hz];exact this
   ·simp [no] at hi
  | _=>exact ht.elim
 ·simp [no] at hi
theorem resolveA_ok{c:Call}{σ τ:Operand→Value}{type:TypeId}(hs:∀ x ∈ c.operands.toList,VR η ρ (σ x) (τ x)){t:Target}{args:List Value}(hr:resolveA σ c type = .ok (t,args)) :
  ∃ d:Deferred,(resolve τ c type).run P w = .ok d w∧TgR ρ η t d.target∧LR η ρ args d.args.toList:=by
 obtain⟨callee,cargs,argTypes⟩:=c
 have ha:=map_rel (η:=η) (ρ:=ρ) (σ:=σ) (τ:=τ) (xs:=cargs) (fun x hx=>hs x (by simp [Call.operands];exact .inr (by simpa using hx)))
 unfold resolveA at hr
 simp only [] at hr
 cases callee with
 | builtin b=>
  simp only [okk] at hr;injection hr with e1 e2;subst e1;subst e2
  refine⟨_,rfl,⟨rfl,rfl,rfl,?_⟩,ha⟩
  apply Array.ext'
  simp only [Array.toList_map]
  apply List.map_congr_left
  intro x _
  cases x <;> rfl
 | invoke recv name=>
  simp only [okk] at hr;injection hr with e1 e2;subst e1;subst e2
  have hv:=hs recv (by simp [Call.operands])
  exact⟨_,rfl,⟨.same (fun l e=>by cases e),.nil⟩,by rw [Array.toList_append];exact LR.cons hv ha⟩
 | value f=>
  have hv:=hs f (by simp [Call.operands])
  simp only [] at hr
  split at hr
  ·rename_i fn first captured hf
   rw [okk] at hr;injection hr with e1 e2;subst e1;subst e2
   rw [hf] at hv
   obtain⟨g,c,d,hg,hfr,h1,h2⟩:=hv.func_inv
   refine⟨{ target:=.fn g d,args:=c ++ cargs.map τ },?_,⟨hfr,h2⟩,by rw [Array.toList_append];exact h1.append ha⟩
   simp only [resolve,hg,Deferred.ofValue];rfl
  ·simp [no] at hr
theorem convEffA_ok(p:Pre η P ρ B h w){s d:TypeId}{x y:Value}{a:AN}{h':AH}(he:convEffA P h s d x = .ok (a,h'))(hx:VR η ρ x y) :
  Eff η P ρ B h w (do pure (.value (← convert s d y))) a h':=by
 unfold convEffA at he
 simp only [bind_ok,undA_ok] at he
 obtain⟨sd,hsd,dd,hdd,he⟩:=he
 split at he
 ·rename_i e0 e ad l c
  simp only [bind_ok,undA_ok] at he
  obtain⟨ed,hed,he⟩:=he
  split at he
  ·split at he
   ·rename_i hsd'
    subst hsd'
    have hee:e0=e:=by rw [hsd] at hdd;injection hdd with hdd;injection hdd
    subst hee
    simp only [bind_ok] at he
    obtain⟨⟨ty,cs,pl,own⟩,hc,he⟩:=he
    split at he
    ·rename_i ty' cs' heq
     injection heq with q1 q2;injection q2 with q2 q3;injection q3 with q3 q4
     subst q1;subst q2;subst q3;subst q4
     split at he
     ·rename_i hsp
      rw [okk] at he;injection he with e1 e2;subst e1;subst e2
      have hg:=cellsAt_ok.1 hc
      simp only [] at hg
      obtain⟨bb,d0,n,C,lo,hi,h1,h2,h3,h4⟩:=p.hr.cells hg
      obtain⟨hlo,hhi,hd0,hcl⟩:=h3.plain rfl
      subst hlo;subst hhi;subst hd0
      have hsz:C.toList.length=0+n:=h3.size
      have hCs:C.size=C.toList.length:=rfl
      obtain⟨a',c',rfl,hcc⟩:=hx.slice_inv3 (.inl rfl)
      obtain⟨q,rfl,hq⟩:∃ q,a'=some q∧AdR ρ ad q:=by
       rcases hcc with⟨e,_⟩ | ⟨_,q,e,e',hq,_⟩ | ⟨_,q,_,_,_,_,e,e',hq,_⟩
       ·cases e
       ·cases e;exact⟨q,e',hq⟩
       ·cases e;exact⟨q,e',hq⟩
      obtain⟨_,n',blk,d',h5,rfl⟩:=hq
      rw [h1] at h5;cases h5
      have hlt:=heap_lt h2
      refine Eff.val ⟨ρ,_,wput w bb (.cells C ty (C.size,C.size+1)),?_,hx,Post.put p hg rfl h1 rfl ⟨C,ty,C.size,C.size+1,rfl,⟨rfl,hsz,h3.len,h3.at_,(fun h=>by cases h),fun _ i hi hh=>by omega⟩⟩⟩
      have hshape:w.shape? bb=some (ty,C.size):=by simp only [World.shape?,h2]
      simp only [convert,Sem.run_bind,run_und hsd,run_und hed,Result.andThen_ok,beq_self_eq_true,markStringish,run_shape,hshape,freeze,Sem.run_pure]
      have hfr:w.freeze ⟨bb,C.size,none⟩ 1=wput w bb (.cells C ty (C.size,C.size+1)):=by
       unfold World.freeze wput
       rw [if_neg (by decide)]
       congr 1
       apply Array.ext_getElem?
       intro k
       rw [Array.getElem?_modify,Array.getElem?_setIfInBounds]
       by_cases hk:bb=k
       ·subst hk;rw [if_pos rfl,if_pos rfl,if_pos hlt,h2];rfl
       ·rw [if_neg hk,if_neg hk]
      rw [← hfr]
      rfl
     ·simp [no] at he
    ·simp [no] at he
   ·simp [no] at he
  ·simp [no] at he
 ·simp [no] at he
theorem effA_ok(hη:OneCells η)(p:Pre η P ρ B h w){o:Oper}{σ τ:Operand→Value}(hs:∀ x ∈ o.op.operands.toList,VR η ρ (σ x) (τ x)){a:AN}{h':AH}(he:effA P σ o h = .ok (a,h')) :
  Eff η P ρ B h w (execOp τ o) a h':=by
 obtain⟨dst,op,type,pos,after,guard⟩:=o
 have unit:∀ {s:Sem Unit} {h':AH},(∃ w',s.run P w = .ok () w'∧Post η ρ B h w ρ h' w')→Eff η P ρ B h w (do s;pure .skip) .skip h':=by
  rintro s h' ⟨w',h1,h2⟩
  refine⟨ρ,w',?_,h2⟩
  show((do s;pure Next.skip:Sem Next)).run P w = .ok .skip w'
  simp only [Sem.run_bind,h1,Result.andThen_ok,Sem.run_pure]
 cases op <;> simp only [effA] at he <;> simp only [Op.operands] at hs <;> try (simp [no] at he;done)
 case store t ad x=>
  simp only [bind_ok,addrA_ok] at he
  obtain⟨q,⟨hq,_⟩,h1,hst,he⟩:=he
  rw [okk] at he;injection he with e1 e2;subst e1;subst e2
  have ha:=hs ad (by simp);have hx:=hs x (by simp)
  rw [hq] at ha
  obtain⟨q',hq',hqr⟩:=ha.ptr_inv
  simp only [storeA,bind_ok] at hst
  obtain⟨n,hn,hst⟩:=hst
  rw [ite_no] at hst
  obtain⟨hlen,hst⟩:=hst
  have hc:=hx.cells hη
  obtain⟨w',hw',hp⟩:=storeC_ok (P:=P) hη p hst hqr hc
  refine unit ⟨w',?_,hp⟩
  have hsz:(τ x).cells.size=n:=by
   have e1:=hc.len
   have e2:(τ x).cells.size=(τ x).cells.toList.length:=rfl
   omega
  simp only [Instr.storeAt,Sem.run_bind,hq',Instr.sureAddr,Sem.run_pure,Result.andThen_ok,storeVar,run_size hn]
  rw [if_neg (by omega)]
  exact hw'
 case convert s d x=>
  have hx:=hs x (by simp)
  generalize σ x=u at he hx
  exact convEffA_ok p he hx
 case insert t m k x=>
  simp only [bind_ok] at he
  obtain⟨h1,hm,he⟩:=he
  rw [okk] at he;injection he with e1 e2;subst e1;subst e2
  exact unit (mapSet_ok p hm (hs m (by simp)) (hs k (by simp)) (hs x (by simp)))
 case mapUpdate t m k x=>
  simp only [bind_ok] at he
  obtain⟨h1,hm,he⟩:=he
  rw [okk] at he;injection he with e1 e2;subst e1;subst e2
  exact unit (mapSet_ok p hm (hs m (by simp)) (hs k (by simp)) (hs x (by simp)))
 case mapEntry t m k=>
  simp only [bind_ok] at he
  obtain⟨⟨v,h1⟩,hm,he⟩:=he
  rw [okk] at he;injection he with e1 e2;subst e1;subst e2
  obtain⟨x,w',k1,k2,k3⟩:=mapEntryA_ok p hm (hs m (by simp)) (hs k (by simp))
  exact Eff.val ⟨ρ,x,w',k1,k2,k3⟩
 case entryStore t m s x=>
  simp only [bind_ok] at he
  obtain⟨h1,hm,he⟩:=he
  rw [okk] at he;injection he with e1 e2;subst e1;subst e2
  exact unit (entryStoreA_ok p hm (hs m (by simp)) (hs s (by simp)) (hs x (by simp)))
 case range t x=>
  have hx:=hs x (by simp)
  generalize σ x=u at he hx
  have:∃ v,a = .value v∧(do
   match ← undA P t,u with
   | .string,.string s=>let (r,h):=newA h (.stringIter s 0);.ok (.pointer (some ⟨r,0,none⟩),h)
   | .map _ _,.map none=>let (r,h):=newA h (.mapIter none 0 [] 0);.ok (.pointer (some ⟨r,0,none⟩),h)
   | .map _ _,.map (some m)=>do
    let (_,clock,_) ← mapOf h m
    let (r,h):=newA h (.mapIter (some m) clock [] clock)
    .ok (.pointer (some ⟨r,0,none⟩),h)
   | _,_=>no "range" :M (Value × AH)) = .ok (v,h'):=by
   simp only [bind_ok,newA] at he ⊢
   obtain⟨d,hd,he⟩:=he
   split at he
   ·rw [okk] at he;injection he with e1 e2;subst e1;subst e2
    exact⟨_,rfl,_,hd,rfl⟩
   ·rw [okk] at he;injection he with e1 e2;subst e1;subst e2
    exact⟨_,rfl,_,hd,rfl⟩
   ·simp only [bind_ok] at he
    obtain⟨m,hm,he⟩:=he
    rw [okk] at he;injection he with e1 e2;subst e1;subst e2
    exact⟨_,rfl,_,hd,by simp only [bind_ok];exact⟨m,hm,rfl⟩⟩
   ·simp [no] at he
  obtain⟨v,rfl,hr⟩:=this
  exact Eff.val (rangeA_ok p hr hx)
 case next it s=>
  simp only [bind_ok] at he
  obtain⟨⟨v,h1⟩,hm,he⟩:=he
  rw [okk] at he;injection he with e1 e2;subst e1;subst e2
  obtain⟨x,w',k1,k2,k3⟩:=nextA_ok (P:=P) (type:=type) p hm (hs it (by simp))
  exact Eff.val ⟨ρ,x,w',k1,k2,k3⟩
 case call c=>
  simp only [bind_ok] at he
  obtain⟨⟨t,args⟩,hr,hi⟩:=he
  obtain⟨d,hd,ht,hl⟩:=resolveA_ok (P:=P) (w:=w) hs hr
  obtain⟨ρ',w',k1,k2⟩:=invokeA_ok hη p hi ht hl
  exact⟨ρ',w',by simp only [execOp,Sem.run_bind,hd,Result.andThen_ok];exact k1,k2⟩
 case defer c=>
  simp only [bind_ok] at he
  obtain⟨⟨t,args⟩,hr,he⟩:=he
  rw [okk] at he;injection he with e1 e2;subst e1;subst e2
  obtain⟨d,hd,ht,hl⟩:=resolveA_ok (P:=P) (w:=w) hs hr
  exact⟨ρ,w,⟨d,by simp only [execOp,Sem.run_bind,hd,Result.andThen_ok,Sem.run_pure],ht,by simpa using hl⟩,.refl p⟩
 case panic x=>
  have hx:=hs x (by simp)
  split at he
  ·rename_i t v hv
   rw [okk] at he;injection he with e1 e2;subst e1;subst e2
   rw [hv] at hx
   obtain⟨y,hy,hyr⟩:=hx.iface_inv
   exact⟨ρ,w,⟨.iface t y,by simp only [execOp,hy];rfl,.iface t hyr⟩,.refl p⟩
  ·simp [no] at he
end
end Go.Ev

namespace Go.Ev
variable {η:Nat→Value}
inductive ItR (ρ:Env):Item→Item→Prop
 | code (c:Code):ItR ρ (.code c) (.code c)
 | inBlock (i:Nat):ItR ρ (.inBlock i) (.inBlock i)
 | inLoop (c:Code):ItR ρ (.inLoop c) (.inLoop c)
 | inScope (c:Code):ItR ρ (.inScope c) (.inScope c)
 | inRegion (ops:Array Oper) (l:List Nat):ItR ρ (.inRegion ops l) (.inRegion ops l)
 | inRangeFunc {l b d n:Nat} (h:ρ l=some (b,d,n)):ItR ρ (.inRangeFunc l) (.inRangeFunc b)
 | endRangeFunc {l b d n:Nat} (h:ρ l=some (b,d,n)):ItR ρ (.endRangeFunc l) (.endRangeFunc b)
 | beginRound:ItR ρ .beginRound .beginRound
theorem ItR.mono{ρ ρ':Env}(h:Env.le ρ ρ'){a b:Item}(k:ItR ρ a b):ItR ρ' a b:=by
 cases k with
 | code c=>exact .code c
 | inBlock i=>exact .inBlock i
 | inLoop c=>exact .inLoop c
 | inScope c=>exact .inScope c
 | inRegion o l=>exact .inRegion o l
 | inRangeFunc e=>exact .inRangeFunc (h _ _ e)
 | endRangeFunc e=>exact .endRangeFunc (h _ _ e)
 | beginRound=>exact .beginRound
def PeR(η:Nat→Value)(ρ:Env)(a b:PanicEntry):Prop:=VR η ρ a.v b.v∧a.recovered=b.recovered∧a.goexit=b.goexit
inductive MoR (η:Nat→Value) (ρ:Env):FrameMode→FrameMode→Prop
 | run:MoR η ρ .run .run
 | returning:MoR η ρ .returning .returning
 | panicking {l m:List PanicEntry} (h:L2 (PeR η ρ) l m):MoR η ρ (.panicking l) (.panicking m)
theorem MoR.mono{ρ ρ':Env}(h:Env.le ρ ρ'){a b:FrameMode}(k:MoR η ρ a b):MoR η ρ' a b:=by
 cases k with
 | run=>exact .run
 | returning=>exact .returning
 | panicking e=>exact .panicking (e.mono fun _ _ q=>⟨q.1.mono h,q.2⟩)
def RoR(ρ:Env):Option Nat→Option Nat→Prop
 | none,none=>True
 | some l,some b=>∃ d n,ρ l=some (b,d,n)
 | _,_=>False
theorem RoR.mono{ρ ρ':Env}(h:Env.le ρ ρ'){a b:Option Nat}(k:RoR ρ a b):RoR ρ' a b:=by
 cases a <;> cases b <;> simp only [RoR] at k ⊢
 obtain⟨d,n,e⟩:=k;exact⟨d,n,h _ _ e⟩
structure FrR (η:Nat→Value) (ρ:Env) (f:AF) (fr:Frame):Prop where
 fn:fr.fn=f.fn
 tm:TR η ρ f.tm f.n fr.tmps
 todo:L2 (ItR ρ) f.todo fr.todo
 defers:L2 (DR η ρ) f.defers fr.defers
 mode:MoR η ρ f.mode fr.mode
 kind:fr.kind=f.kind
 round:RoR ρ f.round fr.roundOf
theorem FrR.mono{ρ ρ':Env}(h:Env.le ρ ρ'){f:AF}{fr:Frame}(k:FrR η ρ f fr):FrR η ρ' f fr:=
 ⟨k.fn,k.tm.mono h,k.todo.mono fun _ _=>ItR.mono h,k.defers.mono fun _ _=>DR.mono h,k.mode.mono h,k.kind,k.round.mono h⟩
section
variable {P:Program} {ρ:Env} {B:Bd} {h:AH} {w:World}
theorem evA_ok(hG:GR P ρ){tm:T Value}{n:Nat}{fr:Frame}(ht:TR η ρ tm n fr.tmps){x:Operand}(hx:okO P x=true):VR η ρ (evA tm x) (fr.eval x):=by
 cases x with
 | tmp t=>
  simp only [evA,Frame.eval]
  rcases Nat.lt_or_ge t n with h | h
  ·exact ht.2.2 t h
  ·rw [ht.2.1 t h,Array.getD_eq_getD_getElem?,Array.getElem?_eq_none (by rw [ht.1];exact h)]
   exact .tup' .nil
 | const v=>exact .bareA hx
 | global g=>
  simp only [okO,decide_eq_true_eq] at hx
  obtain⟨n,hg⟩:=hG g (Nat.le_of_lt hx)
  exact VR.ptr_new hg
 | func f=>exact .func_mk (.same fun l e=>by cases e) .nil .nil
theorem okOps_all{o:Oper}(h:okOps P o=true):∀ x ∈ o.op.operands.toList,okO P x=true:=fun x hx=>List.all_eq_true.1 h x hx
def setD(tmps:Array Value)(dst:Option Tmp)(x:Value):Array Value:=
 match dst with
 | some d=>tmps.setIfInBounds d x
 | none=>tmps
theorem putT_ok{n:Nat}{tm tm2:T Value}{dst:Option Tmp}{v x:Value}{tmps:Array Value}(hp:putT n tm dst v = .ok tm2)(ht:TR η ρ tm n tmps)(hv:VR η ρ v x) :
  TR η ρ tm2 n (setD tmps dst x):=by
 cases dst with
 | none=>simp only [putT,okk] at hp;subst hp;exact ht
 | some d=>
  simp only [putT] at hp
  rw [ite_no',okk] at hp
  obtain⟨hd,rfl⟩:=hp
  refine⟨by simp [setD,ht.1],fun t h=>?_,fun t h=>?_⟩
  ·rw [T.get_set,if_neg (fun e=>by subst e;exact absurd hd (Nat.not_lt.2 h))]
   exact ht.2.1 t h
  ·rw [T.get_set]
   show VR η ρ _ ((tmps.setIfInBounds d x).getD t undef)
   by_cases e:t=d
   ·subst e
    have hl:t<tmps.size:=by rw [ht.1];exact h
    rw [if_pos rfl]
    simp only [Option.getD_some]
    rw [Array.getD_eq_getD_getElem?,Array.getElem?_setIfInBounds_self_of_lt hl]
    exact hv
   ·rw [if_neg e]
    rw [Array.getD_eq_getD_getElem?,Array.getElem?_setIfInBounds_ne (fun h=>e h.symm),← Array.getD_eq_getD_getElem?]
    exact ht.2.2 t h
theorem VR.undef':VR η ρ undef undef:=.tup' .nil
theorem finish_ok{f f2:AF}{fr:Frame}{v x:Value}(hf:f.finish v = .ok f2)(hr:FrR η ρ f fr)(hv:VR η ρ v x):FrR η ρ f2 (fr.finish x):=by
 obtain⟨fn,tmps,todo,defers,mode,kind,roundOf⟩:=fr
 unfold AF.finish at hf
 have htodo:=hr.todo
 split at hf
 ·rename_i ops i rest k he
  rw [he] at htodo
  obtain⟨y,k',hk,hy,hkk⟩:=htodo.inv_cons
  simp only at hk;subst hk
  cases hy
  simp only [bind_ok] at hf
  obtain⟨tm,htm,hf⟩:=hf
  rw [okk] at hf;subst hf
  have hto:(ops.toList[i]?).bind (·.dst)=(ops[i]?).bind (·.dst):=by rw [Array.getElem?_toList]
  rw [hto] at htm
  have:=putT_ok htm hr.tm hv
  refine⟨hr.fn,?_,.cons (.inRegion _ _) hkk,hr.defers,hr.mode,hr.kind,hr.round⟩
  exact this
 ·rename_i l k he
  rw [he] at htodo
  obtain⟨y,k',hk,hy,hkk⟩:=htodo.inv_cons
  simp only at hk;subst hk
  cases hy with
  | inRangeFunc e=>
   rw [okk] at hf;subst hf
   exact⟨hr.fn,hr.tm,.cons (.endRangeFunc e) hkk,hr.defers,hr.mode,hr.kind,hr.round⟩
 ·rename_i k he
  rw [he] at htodo
  obtain⟨y,k',hk,hy,hkk⟩:=htodo.inv_cons
  simp only at hk;subst hk
  cases hy
  rw [okk] at hf;subst hf
  exact⟨hr.fn,hr.tm,hkk,hr.defers,hr.mode,hr.kind,hr.round⟩
 ·simp [no] at hf
theorem enter_ok{f:FuncId}{args:List Value}{args':Array Value}{kind:CallKind}{fr:AF}(he:enterA P f args kind = .ok fr)(hl:LR η ρ args args'.toList):FrR η ρ fr (Frame.enter P f args' kind):=by
 unfold enterA at he
 split at he
 ·simp [no] at he
 ·rename_i fn hfn
  split at he
  ·simp [no] at he
  ·rename_i b hb
   rw [okk] at he;subst he
   have hlen:args.length=args'.toList.length:=hl.len
   have hsz:args'.size=args'.toList.length:=rfl
   have htm:(Frame.enter P f args' kind).tmps=args' ++ Array.replicate (fn.ntmps - args'.size) undef:=by simp [Frame.enter,hfn]
   refine⟨rfl,?_,?_,.nil,.run,rfl,trivial⟩
   ·rw [htm]
    refine⟨by simp;omega,fun t h=>?_,fun t h=>?_⟩
    ·have hge:max fn.ntmps args.length≤t:=h
     rw [T.get_ofL,if_neg (by omega),T.get_nil]
    ·rw [T.get_ofL]
     simp only [Array.getD_eq_getD_getElem?]
     by_cases ht:t<args.length
     ·rw [if_pos (by omega),Nat.sub_zero]
      obtain⟨x,hx,hv⟩:=hl.get (List.getElem?_eq_getElem ht)
      rw [Array.getElem?_append_left (by omega)]
      rw [← Array.getElem?_toList,hx,List.getElem?_eq_getElem ht]
      exact hv
     ·rw [if_neg (by omega),T.get_nil,Array.getElem?_append_right (by omega)]
      have:((Array.replicate (fn.ntmps - args'.size) undef)[t - args'.size]?).getD undef=undef:=by
       rw [Array.getElem?_replicate];split <;> rfl
      rw [this];exact .undef'
   ·simp only [Frame.enter,hfn,Option.bind_some,hb,Option.getD_some]
    exact .cons (.code b) .nil
theorem raise_ok{f:AF}{fr:Frame}{vs xs:List PanicEntry}(hr:FrR η ρ f fr)(hv:L2 (PeR η ρ) vs xs):FrR η ρ (f.raiseA vs) (fr.raise xs):=by
 obtain⟨fn,tmps,todo,defers,mode,kind,roundOf⟩:=fr
 obtain⟨fn',n,tm,todo',defers',mode',kind',round'⟩:=f
 have hm:=hr.mode
 simp only at hm
 cases hm with
 | run=>exact⟨hr.fn,hr.tm,hr.todo,hr.defers,.panicking hv,hr.kind,hr.round⟩
 | returning=>exact⟨hr.fn,hr.tm,hr.todo,hr.defers,.panicking hv,hr.kind,hr.round⟩
 | panicking h=>exact⟨hr.fn,hr.tm,hr.todo,hr.defers,.panicking (hv.append h),hr.kind,hr.round⟩
def resV(tmps:Array Value):ResultVar→Sem Value
 | .tmp t=>pure (tmps.getD t undef)
 | .cell a t=>do loadVar t (← asAddr (tmps.getD a undef))
theorem resL_ok(H:HR η ρ B h w){tm:T Value}{n:Nat}{tmps:Array Value}(ht:TR η ρ tm n tmps):∀ {rs:List ResultVar} {vs:List Value},resL P tm h rs = .ok vs→
  ∃ xs,(rs.mapM (resV tmps)).run P w = .ok xs w∧LR η ρ vs xs
 | [],vs,hr=>by simp only [resL,okk] at hr;subst hr;exact⟨[],rfl,.nil⟩
 | r :: rs,vs,hr=>by
  have get:∀ t,VR η ρ ((tm.get t).getD undef) (tmps.getD t undef):=by
   intro t
   rcases Nat.lt_or_ge t n with h | h
   ·exact ht.2.2 t h
   ·rw [ht.2.1 t h,Array.getD_eq_getD_getElem?,Array.getElem?_eq_none (by rw [ht.1];exact h)]
    exact .undef'
  cases r with
  | tmp t=>
   simp only [resL,bind_ok] at hr
   obtain⟨l,hl,hr⟩:=hr
   rw [okk] at hr;subst hr
   obtain⟨xs,h1,h2⟩:=resL_ok H ht hl
   refine⟨_,?_,.cons (get t) h2⟩
   simp only [List.mapM_cons,Sem.run_bind,resV,Sem.run_pure,Result.andThen_ok] at h1 ⊢
   rw [h1];rfl
  | cell a t=>
   simp only [resL,bind_ok,addrA_ok] at hr
   obtain⟨q,⟨hq,_⟩,v,hv,l,hl,hr⟩:=hr
   rw [okk] at hr;subst hr
   obtain⟨xs,h1,h2⟩:=resL_ok H ht hl
   have ha:=get a
   rw [hq] at ha
   obtain⟨q',hq',hqr⟩:=ha.ptr_inv
   obtain⟨x,k1,k2⟩:=loadA_ok H hv hqr
   refine⟨_,?_,.cons k2 h2⟩
   simp only [List.mapM_cons,Sem.run_bind,resV,Sem.run_pure,hq',asAddr,k1,Result.andThen_ok] at h1 ⊢
   rw [h1];rfl
theorem results_ok(H:HR η ρ B h w){fn:Func}{tm:T Value}{n:Nat}{tmps:Array Value}(ht:TR η ρ tm n tmps){v:Value}(hr:resultsA P fn tm h = .ok v):∃ x,(results fn tmps).run P w = .ok x w∧VR η ρ v x:=by
 simp only [resultsA,bind_ok] at hr
 obtain⟨vs,hvs,hr⟩:=hr
 obtain⟨xs,h1,h2⟩:=resL_ok H ht hvs
 have hm:(fn.results.mapM (resV tmps)).run P w = .ok xs.toArray w:=by
  generalize hr':fn.results=rs at *
  obtain⟨rl⟩:=rs
  rw [show(Array.mk rl)=rl.toArray from rfl,List.mapM_toArray]
  simp only [Sem.run_map] at h1 ⊢
  rw [h1];rfl
 have hf:(fun (r:ResultVar)=>(match r with
   | .tmp t=>pure (tmps.getD t undef)
   | .cell a t=>do loadVar t (← asAddr (tmps.getD a undef)):Sem Value))=resV tmps:=by
  funext r;cases r <;> rfl
 have hres:(results fn tmps).run P w=(do
   let vs ← fn.results.mapM (resV tmps)
   pure (if h:vs.size=1 then vs[0] else .tuple vs):Sem Value).run P w:=by
  rw [← hf];rfl
 split at hr
 ·rename_i v1
  rw [okk] at hr;subst hr
  obtain⟨x,m,rfl,hx,hm'⟩:=h2.inv_cons
  have:=hm'.inv_nil;subst this
  refine⟨x,?_,hx⟩
  rw [hres]
  simp only [Sem.run_bind]
  rw [hm];rfl
 ·rename_i hne
  rw [okk] at hr;subst hr
  refine⟨.tuple xs.toArray,?_,.tup' h2⟩
  rw [hres]
  simp only [Sem.run_bind]
  rw [hm]
  have:¬ xs.toArray.size=1:=by
   intro e
   have e2:vs.length=1:=by rw [h2.len];simpa using e
   obtain⟨a,rfl⟩:=List.length_eq_one_iff.1 e2
   exact hne a rfl
  simp only [Result.andThen_ok]
  rw [dif_neg this];rfl
theorem exitTo_ok{id:Nat}{k k':List Item}(hk:L2 (ItR ρ) k k'):(∀ r,exitTo id k=some r→∃ r',exitTo id k'=some r'∧L2 (ItR ρ) r r')∧(exitTo id k=none→exitTo id k'=none):=by
  induction hk with
  | nil=>exact⟨fun r h=>by simp [exitTo] at h,fun _=>rfl⟩
  | cons h _ ih=>
    rename_i a b l m hl
    cases h <;> simp only [exitTo] <;> first
      | exact ih
      | (split
         · exact⟨fun r h=>by cases h;exact⟨_,rfl,hl⟩,fun h=>by cases h⟩
         · exact ih)
theorem gotoIn_ok{id:Nat}{k k':List Item}(hk:L2 (ItR ρ) k k'):(∀ r,gotoIn id k=some r→∃ r',gotoIn id k'=some r'∧L2 (ItR ρ) r r')∧(gotoIn id k=none→gotoIn id k'=none):=by
  induction hk with
  | nil=>exact⟨fun r h=>by simp [gotoIn] at h,fun _=>rfl⟩
  | cons h _ ih=>
    rename_i a b l m hl
    cases h <;> simp only [gotoIn] <;> first
      | exact ih
      | (split
         · exact⟨fun r h=>by cases h;exact⟨_,rfl,.cons (.code _) (.cons (.inScope _) hl)⟩,fun h=>by cases h⟩
         · exact ih)
theorem wanted_ok{ops:Array Oper}{tm:T Value}{n:Nat}{tmps:Array Value}{o:Oper}{b:Bool}(ht:TR η ρ tm n tmps)(hw:wantedA ops.toList tm o = .ok b):Region.wanted o (yielded ops tmps)=b:=by
 unfold wantedA at hw
 unfold Region.wanted
 split at hw
 ·rename_i hg;rw [hg];rw [okk] at hw;exact hw
 ·rename_i j want hg
  rw [hg]
  simp only [yielded]
  rw [Array.getElem?_toList] at hw
  split at hw
  ·rename_i hd
   rw [hd];rw [okk] at hw;subst hw;simp
  ·rename_i d hd
   rw [hd]
   simp only [Option.bind_some]
   have hv:VR η ρ ((tm.get d).getD undef) (tmps.getD d undef):=by
    rcases Nat.lt_or_ge d n with h | h
    ·exact ht.2.2 d h
    ·rw [ht.2.1 d h,Array.getD_eq_getD_getElem?,Array.getElem?_eq_none (by rw [ht.1];exact h)]
     exact .undef'
   rw [Array.getD_eq_getD_getElem?] at hv
   split at hw
   ·rename_i b0 hb0
    rw [hb0] at hv
    have hv:=hv.bool_inv
    rw [okk] at hw;subst hw
    cases ht':tmps[d]? with
    | none=>rw [ht'] at hv;cases hv
    | some x=>rw [ht'] at hv;simp only [Option.getD_some] at hv;subst hv;cases b0 <;> cases want <;> rfl
   ·rename_i ts hb0
    rw [hb0] at hv
    obtain⟨c,hc,_⟩:=hv.tuple_inv
    rw [okk] at hw;subst hw
    cases ht':tmps[d]? with
    | none=>simp
    | some x=>rw [ht'] at hc;simp only [Option.getD_some] at hc;subst hc;simp
   ·simp [no] at hw
theorem execA_ok(hη:OneCells η)(p:Pre η P ρ B h w){o:Oper}{σ τ:Operand→Value}(hs:∀ x,okO P x=true→VR η ρ (σ x) (τ x)){a:AN}{h':AH}(he:execA P σ o h = .ok (a,h')):Eff η P ρ B h w (execOp τ o) a h':=by
 unfold execA at he
 rw [ite_no] at he
 obtain⟨hok,he⟩:=he
 have hs':∀ x ∈ o.op.operands.toList,VR η ρ (σ x) (τ x):=fun x hx=>hs x (okOps_all (by simpa using hok) x hx)
 split at he
 ·simp only [bind_ok] at he
  obtain⟨v,hv,he⟩:=he
  rw [okk] at he;injection he with e1 e2;subst e1;subst e2
  exact Eff.reader p (readA_ok hη p.glob p.hr hs' hv)
 ·simp only [bind_ok] at he
  obtain⟨⟨v,b⟩,hv,he⟩:=he
  rw [okk] at he;injection he with e1 e2;subst e1;subst e2
  obtain⟨hown,x,w',ob,n,h1,h2,h3⟩:=allocA_ok (w:=w) hη hs' hv
  have hle:=Env.le_put (t:=(w.heap.size,0,n)) (p.fresh h.next (Nat.le_refl _))
  obtain⟨k1,k2⟩:=h3 _ hle (Env.put_at _ _ _)
  exact⟨_,w',⟨x,h1,k1⟩,Post.new p h2 h.objs (fun _ _ hx=>hx) k2⟩
 ·exact effA_ok hη p hs' he
end
end Go.Ev

namespace Go.Ev
variable {η:Nat→Value}
structure SR (η:Nat→Value) (P:Program) (ρ:Env) (B:Bd) (s:AS) (fr:Frame) (cs:List Frame) (w:World):Prop where
 fr:FrR η ρ s.fr fr
 cs:L2 (FrR η ρ) s.cs cs
 pre:Pre η P ρ B s.hp w
def run0(fr:Frame)(cs:List Frame):Goroutine:={ frame:=fr,callers:=cs,status:=.running,dying:=none }
section
variable {P:Program} {ρ:Env} {B:Bd} {h:AH} {w:World}
section apply
variable {fr:Frame} {cs:List Frame} {s:Sem Next} {w':World}
theorem apply_value{v:Value}(hr:s.run P w = .ok (.value v) w'):(stepG.apply P true fr cs none s w).bare = .go (run0 (fr.finish v) cs) w':=by
 simp [stepG.apply,hr,run0]
theorem apply_skip(hr:s.run P w = .ok .skip w'):(stepG.apply P true fr cs none s w).bare = .go (run0 (fr.finish undef) cs) w':=by
 simp [stepG.apply,hr,run0]
theorem apply_defer{d:Deferred}(hr:s.run P w = .ok (.defer d) w'):(stepG.apply P true fr cs none s w).bare = .go (run0 (({ fr with defers:=d :: fr.defers }:Frame).finish undef) cs) w':=by
 simp [stepG.apply,hr,run0]
theorem apply_panic{v:Value}(hr:s.run P w = .halt (.panic v) w'):(stepG.apply P true fr cs none s w).bare = .go (run0 (fr.raise [{ v,recovered:=false }]) cs) w':=by
 simp [stepG.apply,hr,run0]
def notCall(fr:Frame):Prop:=∀ d b r s k,fr.todo ≠ .call d b r s :: k
theorem apply_enter{f:FuncId}{args:Array Value}(hk:notCall fr)(hr:s.run P w = .ok (.enter f args) w'):(stepG.apply P true fr cs none s w).bare = .go (run0 (Frame.enter P f args .normal) (fr :: cs)) w':=by
 simp only [stepG.apply,Sem.runT_eq,hr,if_true]
 simp [run0]
 congr 1
 split
 ·rename_i hh;exact absurd hh (hk _ _ _ _ _)
 ·rfl
theorem apply_round{l:Nat}{f:FuncId}{tmps:Array Value}{asg body:Code}(hr:s.run P w = .ok (.round l f tmps asg body) w'):(stepG.apply P true fr cs none s w).bare = .go (run0 (Frame.round l f tmps asg body .normal) (fr :: cs)) w':=by
 simp [stepG.apply,hr,run0]
theorem apply_recover_none(ho:fr.roundOf=none)(ht:tryRecover fr cs=none)(hr:s.run P w = .ok .recover w'):(stepG.apply P true fr cs none s w).bare = .go (run0 (fr.finish .nilIface) cs) w':=by
 simp [stepG.apply,hr,ho,ht,run0]
theorem apply_recover_some{v:Value}{cs2:List Frame}(ho:fr.roundOf=none)(ht:tryRecover fr cs=some (v,cs2))(hr:s.run P w = .ok .recover w'):(stepG.apply P true fr cs none s w).bare = .go (run0 (fr.finish v) cs2) w':=by
 simp [stepG.apply,hr,ho,ht,run0]
end apply
theorem PeR.one{v x:Value}(h:VR η ρ v x):L2 (PeR η ρ) [{ v,recovered:=false }] [{ v:=x,recovered:=false }]:=.cons ⟨h,rfl,rfl⟩ .nil
theorem tryRec_ok{f:AF}{fr:Frame}{acs:List AF}{cs:List Frame}{r:Option (Value × List AF)}(hf:FrR η ρ f fr)(hc:L2 (FrR η ρ) acs cs)(hr:tryRecA f acs = .ok r) :
  (r=none∧∀ cs0,tryRecover fr (cs ++ cs0)=none)∨(∃ v acs2 x cs2,r=some (v,acs2)∧(∀ cs0,tryRecover fr (cs ++ cs0)=some (x,cs2 ++ cs0))∧VR η ρ v x∧L2 (FrR η ρ) acs2 cs2):=by
 unfold tryRecA at hr
 split at hr
 ·rename_i c rest hk
  obtain⟨c',rest',rfl,hcr,hrest⟩:=hc.inv_cons
  have hk':fr.kind = .deferred:=by rw [hf.kind,hk]
  have hm:=hcr.mode
  split at hr
  ·rename_i v older hmo
   rw [hmo] at hm
   rw [okk] at hr;subst hr
   generalize hm':c'.mode=m' at hm
   cases hm with
   | panicking hl=>
    obtain⟨e',older',rfl,he,ho⟩:=hl.inv_cons
    obtain⟨v',rec',gx'⟩:=e'
    obtain⟨hv,hrc,hgx⟩:=he
    simp only at hv hrc hgx
    subst hrc;subst hgx
    refine .inr ⟨v,_,v',{ c' with mode:=.panicking ({ v:=v',recovered:=true } :: older') } :: rest',rfl,?_,hv,.cons ⟨hcr.fn,hcr.tm,hcr.todo,hcr.defers,.panicking (.cons ⟨hv,rfl,rfl⟩ ho),hcr.kind,hcr.round⟩ hrest⟩
    intro cs0;simp [tryRecover,hk',hm']
  ·rename_i hno
   rw [okk] at hr;subst hr
   refine .inl ⟨rfl,fun cs0=>?_⟩
   simp only [List.cons_append,tryRecover,hk']
   generalize hm':c'.mode=m' at hm
   generalize hm2:c.mode=m2 at hm
   cases hm with
   | run=>rfl
   | returning=>rfl
   | panicking hl=>
    cases hl with
    | nil=>rfl
    | cons he ho=>
     rename_i e e' l l'
     obtain⟨v,rec,gx⟩:=e
     obtain⟨v',rec',gx'⟩:=e'
     obtain⟨hv,hrc,hgx⟩:=he
     simp only at hv hrc hgx
     subst hrc;subst hgx
     cases rec with
     | true=>rfl
     | false=>
      cases gx with
      | true=>rfl
      | false=>exact absurd hm2 (hno _ _)
 ·rename_i hk
  have hk':fr.kind = .normal:=by rw [hf.kind,hk]
  rw [okk] at hr;subst hr
  exact .inl ⟨rfl,fun cs0=>by simp [tryRecover,hk']⟩
 ·simp [no] at hr
theorem L2.map_mono{ρ':Env}(hl:Env.le ρ ρ'){a:List AF}{b:List Frame}(h:L2 (FrR η ρ) a b):L2 (FrR η ρ') a b:=h.mono fun _ _=>FrR.mono hl
theorem after_ok{f:AF}{fr:Frame}{acs:List AF}{cs:List Frame}{s:Sem Next}{a:AN}{h':AH}{r:AR}(F:FrR η ρ f fr)(C:L2 (FrR η ρ) acs cs)(p:Pre η P ρ B h w)(hE:Eff η P ρ B h w s a h')(ha:afterA P f acs a h' = .ok r)(hk:notCall fr) :
  ∃ s',r = .next s'∧∃ ρ' fr' cs' w',SR η P ρ' B s' fr' cs' w'∧Post η ρ B h w ρ' s'.hp w'∧∀ cs0,(stepG.apply P true fr (cs ++ cs0) none s w).bare = .go (run0 fr' (cs' ++ cs0)) w':=by
 obtain⟨ρ',w',hn,hp⟩:=hE
 have p':=p.post hp
 have F':=F.mono hp.le
 have C':=L2.map_mono hp.le C
 cases a with
 | value v=>
  obtain⟨x,hr,hv⟩:=hn
  simp only [afterA,bind_ok] at ha
  obtain⟨f2,hf2,ha⟩:=ha
  rw [okk] at ha;subst ha
  exact⟨_,rfl,ρ',_,cs,w',⟨finish_ok hf2 F' hv,C',p'⟩,hp,fun cs0=>apply_value hr⟩
 | skip=>
  have hr:s.run P w = .ok .skip w':=hn
  simp only [afterA,bind_ok] at ha
  obtain⟨f2,hf2,ha⟩:=ha
  rw [okk] at ha;subst ha
  exact⟨_,rfl,ρ',_,cs,w',⟨finish_ok hf2 F' .undef',C',p'⟩,hp,fun cs0=>apply_skip hr⟩
 | enter g args=>
  obtain⟨xs,hr,hl⟩:=hn
  simp only [afterA,bind_ok] at ha
  obtain⟨f2,hf2,ha⟩:=ha
  rw [okk] at ha;subst ha
  exact⟨_,rfl,ρ',_,fr :: cs,w',⟨enter_ok hf2 hl,.cons F' C',p'⟩,hp,fun cs0=>apply_enter hk hr⟩
 | defer d=>
  obtain⟨e,hr,hd⟩:=hn
  simp only [afterA] at ha
  rw [ite_no] at ha
  obtain⟨hrd,ha⟩:=ha
  simp only [bind_ok] at ha
  obtain⟨f2,hf2,ha⟩:=ha
  rw [okk] at ha;subst ha
  refine⟨_,rfl,ρ',_,cs,w',⟨finish_ok hf2 (fr:={ fr with defers:=e :: fr.defers }) ⟨F'.fn,F'.tm,F'.todo,.cons hd F'.defers,F'.mode,F'.kind,F'.round⟩ .undef',C',p'⟩,hp,fun cs0=>apply_defer hr⟩
 | recover=>
  have hr:s.run P w = .ok .recover w':=hn
  simp only [afterA] at ha
  rw [ite_no] at ha
  obtain⟨hrd,ha⟩:=ha
  have hro:fr.roundOf=none:=by
   have:=F.round
   cases h1:f.round with
   | some l=>rw [h1] at hrd;simp at hrd
   | none=>rw [h1] at this;cases h2:fr.roundOf with
    | none=>rfl
    | some b=>rw [h2] at this;exact this.elim
  simp only [bind_ok] at ha
  obtain⟨t,ht,ha⟩:=ha
  rcases tryRec_ok F' C' ht with⟨rfl,hnone⟩ | ⟨v,acs2,x,cs2,rfl,hsome,hv,hc2⟩
  ·simp only [bind_ok] at ha
   obtain⟨f2,hf2,ha⟩:=ha
   rw [okk] at ha;subst ha
   exact⟨_,rfl,ρ',_,cs,w',⟨finish_ok hf2 F' .nilIface,C',p'⟩,hp,fun cs0=>apply_recover_none hro (hnone cs0) hr⟩
  ·simp only [bind_ok] at ha
   obtain⟨f2,hf2,ha⟩:=ha
   rw [okk] at ha;subst ha
   exact⟨_,rfl,ρ',_,cs2,w',⟨finish_ok hf2 F' hv,hc2,p'⟩,hp,fun cs0=>apply_recover_some hro (hsome cs0) hr⟩
 | round l fn tm n asg body=>
  obtain⟨b,d,k,tmps,hr,hρ,ht⟩:=hn
  simp only [afterA,okk] at ha;subst ha
  exact⟨_,rfl,ρ',_,fr :: cs,w',⟨⟨rfl,ht,.cons (.code _) (.cons .beginRound (.cons (.code _) .nil)),.nil,.run,rfl,(show RoR ρ' (some l) (some b) from⟨d,k,hρ⟩)⟩,.cons F' C',p'⟩,hp,fun cs0=>apply_round hr⟩
 | panic v=>
  obtain⟨x,hr,hv⟩:=hn
  simp only [afterA,okk] at ha;subst ha
  exact⟨_,rfl,ρ',_,cs,w',⟨raise_ok F' (PeR.one hv),C',p'⟩,hp,fun cs0=>apply_panic hr⟩
theorem RoR.inv_none{f:AF}{fr:Frame}(F:FrR η ρ f fr)(h:f.round=none):fr.roundOf=none:=by
 have:=F.round
 rw [h] at this
 cases h2:fr.roundOf with
 | none=>rfl
 | some b=>rw [h2] at this;exact this.elim
theorem RoR.inv_some{f:AF}{fr:Frame}(F:FrR η ρ f fr){l:Nat}(h:f.round=some l):∃ b d n,fr.roundOf=some b∧ρ l=some (b,d,n):=by
 have:=F.round
 rw [h] at this
 cases h2:fr.roundOf with
 | none=>rw [h2] at this;exact this.elim
 | some b=>rw [h2] at this;obtain⟨d,n,e⟩:=this;exact⟨b,d,n,rfl,e⟩
theorem return_ok{f:AF}{fr:Frame}{acs:List AF}{cs:List Frame}{v x:Value}{r:AR}(F:FrR η ρ f fr)(C:L2 (FrR η ρ) acs cs)(p:Pre η P ρ B h w)(hv:VR η ρ v x)(hr:returnA f acs v h = .ok r) :
  (∃ s',r = .next s'∧s'.hp=h∧∃ fr' cs',SR η P ρ B s' fr' cs' w∧∀ cs0,(doReturn P true fr (cs ++ cs0) none x w) = .go (run0 fr' (cs' ++ cs0)) w)∨
  (r = .done f.fn v h∧acs=[]∧f.kind = .normal∧f.round=none):=by
 unfold returnA at hr
 split at hr
 ·rw [ite_no',okk] at hr
  obtain⟨hk,rfl⟩:=hr
  have hk1:f.kind = .normal:=by
   cases h1:f.kind <;> rw [h1] at hk <;> first | rfl | simp at hk
  have hk2:f.round=none:=by
   cases h1:f.round <;> rw [h1] at hk <;> first | rfl | simp at hk
  exact .inr ⟨rfl,rfl,hk1,hk2⟩
 ·rename_i c rest
  obtain⟨c',rest',rfl,hc,hrest⟩:=C.inv_cons
  refine .inl ?_
  split at hr
  ·rename_i hk
   have hk':fr.kind = .normal:=by rw [F.kind,hk]
   simp only [bind_ok] at hr
   obtain⟨c2,hc2,hr⟩:=hr
   rw [okk] at hr;subst hr
   exact⟨_,rfl,rfl,_,rest',⟨finish_ok hc2 hc hv,hrest,p⟩,fun cs0=>by simp [doReturn,hk',run0]⟩
  ·rename_i hk
   have hk':fr.kind = .deferred:=by rw [F.kind,hk]
   have hm:=hc.mode
   split at hr
   ·rename_i v0 gx older hmo
    rw [hmo] at hm
    rw [ite_no',okk] at hr
    obtain⟨hold,rfl⟩:=hr
    generalize hm':c'.mode=m' at hm
    cases hm with
    | panicking hl=>
     obtain⟨e',older',rfl,he,ho⟩:=hl.inv_cons
     obtain⟨v',rec',gx'⟩:=e'
     obtain⟨hv',hrc,hgx⟩:=he
     simp only at hrc hgx
     subst hrc
     have:older'=[]:=by
      have:older=[]:=by simpa using hold
      subst this
      exact ho.inv_nil
     subst this
     refine⟨_,rfl,rfl,{ c' with mode:=.returning },rest',⟨⟨hc.fn,hc.tm,hc.todo,hc.defers,.returning,hc.kind,hc.round⟩,hrest,p⟩,fun cs0=>?_⟩
     simp [doReturn,hk',hm',run0]
   ·rename_i hno
    rw [okk] at hr;subst hr
    refine⟨_,rfl,rfl,c',rest',⟨hc,hrest,p⟩,fun cs0=>?_⟩
    generalize hm':c'.mode=m' at hm
    generalize hm2:c.mode=m2 at hm
    simp only [doReturn,List.cons_append,hk',hm',run0]
    cases hm with
    | run=>rfl
    | returning=>rfl
    | panicking hl=>
     cases hl with
     | nil=>rfl
     | cons he ho=>
      rename_i e e' l l'
      obtain⟨v,rec,gx⟩:=e
      obtain⟨v',rec',gx'⟩:=e'
      obtain⟨hv,hrc,hgx⟩:=he
      simp only at hv hrc hgx
      subst hrc;subst hgx
      cases rec with
      | false=>rfl
      | true=>exact absurd hm2 (hno _ _ _)
  ·simp [no] at hr
theorem HR.loop(H:HR η ρ B h w){r:Nat}{st:LoopState}{pend:Option Code}{fn:FuncId}{tm:T Value}{n:Nat}{ps:List Tmp}{asg body:Code}{ds:Nat}(hg:h.objs.get r=some (.loop st pend fn tm n ps asg body ds)) :
  ∃ b d k l,ρ r=some (b,d,k)∧w.heap[b]? = some (.loop l)∧l.state=st∧l.pending=pend∧l.fn=fn∧TR η ρ tm n l.tmps∧l.params.toList=ps∧l.assign=asg∧l.body=body∧∃ d n,ρ ds=some (l.defers,d,n):=by
 obtain⟨b,d,k,o,h1,h2,⟨l,rfl,h3⟩,_⟩:=H.obj _ _ hg
 exact⟨b,d,k,l,h1,h2,h3⟩
theorem Post.loop(p:Pre η P ρ B h w){r b d k:Nat}{st st':LoopState}{pend pend':Option Code}{fn:FuncId}{tm:T Value}{n:Nat}{ps:List Tmp}{asg body:Code}{ds:Nat}{l:Loop}(hg:h.objs.get r=some (.loop st pend fn tm n ps asg body ds))
  (he:ρ r=some (b,d,k)) (hb:w.heap[b]? = some (.loop l)):Post η ρ B h w ρ (putA h r (.loop st' pend' fn tm n ps asg body ds)) (wput w b (.loop { l with state:=st',pending:=pend' })):=by
 obtain⟨b2,d2,k2,l2,h1,h2,h3,h4,h5,h6,h7,h8,h9,h10⟩:=p.hr.loop hg
 rw [he] at h1;cases h1
 rw [hb] at h2;cases h2
 exact Post.put p hg rfl he rfl ⟨_,rfl,rfl,rfl,h5,h6,h7,h8,h9,h10⟩
end
end Go.Ev

namespace Go.Ev
variable {η:Nat→Value}
abbrev Nest:=FuncId→List Value→AH→M (Value × AH)
def RegOk(η:Nat→Value)(P:Program)(B:Bd)(nest:Nest):Prop:=
 ∀ (ops:Array Oper) (n:Nat) (tm tm':T Value) (h h':AH),regionA P n nest ops.toList tm h = .ok (tm',h')→
  ∀ (ρ:Env) (fr:Frame) (w:World) (k:List Item) (id:Nat) (cs:List Frame),TR η ρ tm n fr.tmps→Pre η P ρ B h w→fr.mode = .run→fr.todo = .code (.region id ops true) :: k→
   ∃ ρ' tmps' w',TR η ρ' tm' n tmps'∧Post η ρ B h w ρ' h' w'∧Steps P (lone fr cs w) (lone { fr with tmps:=tmps',todo:=k } cs w')
def NestOk(η:Nat→Value)(P:Program)(B:Bd)(nest:Nest):Prop:=
 ∀ (f:FuncId) (args:List Value) (h h':AH) (v:Value),nest f args h = .ok (v,h')→∀ (ρ:Env) (args':Array Value) (w:World) (cs:List Frame),LR η ρ args args'.toList→Pre η P ρ B h w→
  ∃ ρ' fr' w' x,Post η ρ B h w ρ' h' w'∧VR η ρ' v x∧fr'.fn=f∧fr'.leaving P w' (.returned x)∧Steps P (lone (Frame.enter P f args' .normal) cs w) (lone fr' cs w')
section
variable {P:Program} {ρ:Env} {B:Bd} {w:World}
theorem one_go{fr fr':Frame}{cs cs':List Frame}{w w':World}(h:(stepG P true (run0 fr cs) w).bare = .go (run0 fr' cs') w'):Steps P (lone fr cs w) (lone fr' cs' w'):=.one (step_lone_go h)
theorem bare_after(es:Array Event)(s:GStep):(GStep.after es s).bare=s.bare:=GStep.bare_after es s
def Stepped'(η:Nat→Value)(P:Program)(B:Bd)(ρ:Env)(s:AS)(fr:Frame)(cs:List Frame)(w:World)(cs0:List Frame)(r:AR):Prop:=
 (∃ s',r = .next s'∧∃ ρ' fr' cs' w',SR η P ρ' B s' fr' cs' w'∧Post η ρ B s.hp w ρ' s'.hp w'∧Steps P (lone fr (cs ++ cs0) w) (lone fr' (cs' ++ cs0) w'))∨
 (∃ v,r = .done s.fr.fn v s.hp∧s.cs=[]∧∃ x,VR η ρ v x∧fr.leaving P w (.returned x))
theorem Stepped'.move{cs0:List Frame}{s:AS}{fr fr':Frame}{cs:List Frame}{f':AF}{r:AR}(R:SR η P ρ B s fr cs w)(hr:r = .next { s with fr:=f' })(F:FrR η ρ f' fr')(hst:∀ cs0,(stepG P true (run0 fr (cs ++ cs0)) w).bare = .go (run0 fr' (cs ++ cs0)) w) :
  Stepped' η P B ρ s fr cs w cs0 r:=.inl ⟨_,hr,ρ,fr',cs,w,⟨F,R.cs,R.pre⟩,.refl R.pre,one_go (hst cs0)⟩
theorem FrR.todo_of{f:AF}{fr:Frame}(F:FrR η ρ f fr){k k':List Item}(h:L2 (ItR ρ) k k'):FrR η ρ { f with todo:=k } { fr with todo:=k' }:=⟨F.fn,F.tm,h,F.defers,F.mode,F.kind,F.round⟩
theorem leave_ok{cs0:List Frame}{s:AS}{fr:Frame}{cs:List Frame}{jump:Option Code}{r:AR}(R:SR η P ρ B s fr cs w)
  (hl:(match s.fr.round with
   | none=>(match jump with
    | none | some .ret=>.ok (.next { s with fr:={ s.fr with mode:=.returning } })
    | _=>no "leave")
   | some l=>match s.hp.objs.get l with
    | some (.loop _ _ fn tm n ps asg body ds)=>returnA s.fr s.cs (.bool jump.isNone) (putA s.hp l (.loop (if jump.isNone then .ready else .done) jump fn tm n ps asg body ds))
    | _=>no "no loop" :M AR) = .ok r)
  (hst:∀ cs0,fr.roundOf=none→(jump=none∨jump=some .ret)→(stepG P true (run0 fr (cs ++ cs0)) w).bare = .go (run0 { fr with mode:=.returning } (cs ++ cs0)) w)
  (hst2:∀ cs0 l v w',fr.roundOf=some l→(Instr.endRound l jump).run P w = .ok v w'→(stepG P true (run0 fr (cs ++ cs0)) w).bare=(doReturn P true fr (cs ++ cs0) none v w').bare):Stepped' η P B ρ s fr cs w cs0 r:=by
 split at hl
 ·rename_i hro
  have h1:jump=none∨jump=some .ret:=by
   split at hl
   ·exact .inl rfl
   ·exact .inr rfl
   ·simp [no] at hl
  have h2:r = .next { s with fr:={ s.fr with mode:=.returning } }:=by
   rcases h1 with rfl | rfl <;> (rw [okk] at hl;exact hl.symm)
  exact Stepped'.move (fr':={ fr with mode:=.returning }) R h2 ⟨R.fr.fn,R.fr.tm,R.fr.todo,R.fr.defers,.returning,R.fr.kind,R.fr.round⟩ (fun cs0=>hst cs0 (RoR.inv_none R.fr hro) h1)
 ·rename_i l hro
  obtain⟨b,d,n0,hb,hρ⟩:=RoR.inv_some R.fr hro
  split at hl
  ·rename_i st pend fn tm n ps asg body ds hg
   obtain⟨b2,d2,k2,lp,h1,h2,h3⟩:=R.pre.hr.loop hg
   rw [hρ] at h1;cases h1
   have hpost:=Post.loop (st':=if jump.isNone then .ready else .done) (pend':=jump) R.pre hg hρ h2
   have hrun:(Instr.endRound b jump).run P w = .ok (.bool jump.isNone) (wput w b (.loop { lp with state:=if jump.isNone then .ready else .done,pending:=jump })):=by
    simp only [Instr.endRound,Instr.getLoop,Sem.run_bind,run_getObj h2 (by simp),Result.andThen_ok,Sem.run_pure,run_setObj h2 (by simp)]
   rcases return_ok (R.fr) R.cs (R.pre.post hpost) (.bool jump.isNone) hl with⟨s',rfl,hhp,fr',cs',hSR,hdo⟩ | ⟨_,_,_,hrn⟩
   ·refine .inl ⟨s',rfl,ρ,fr',cs',_,hSR,by rw [hhp];exact hpost,one_go ?_⟩
    rw [hst2 cs0 b _ _ hb hrun,hdo];rfl
   ·rw [hro] at hrn;cases hrn
  ·simp [no] at hl
theorem stepG_region{fr:Frame}{cs:List Frame}{ops:Array Oper}{i:Nat}{rest:List Nat}{k:List Item}{o:Oper}(hm:fr.mode = .run)(ht:fr.todo = .inRegion ops (i :: rest) :: k)(ho:ops[i]? = some o)(hw:Region.wanted o (yielded ops fr.tmps)=true)
  (hd:fr.roundOf=none∨∀ c,o.op ≠ .defer c):stepG P true (run0 fr cs) w=stepG.apply P true fr cs none (execOp fr.eval o) w:=by
 obtain⟨fn,tmps,todo,defers,mode,kind,roundOf⟩:=fr
 simp only at hm ht hw hd
 subst hm;subst ht
 simp only [stepG,run0,stepG.exec,ho,Option.map_some,Option.getD_some,hw,if_true,stepG.oper,Frame.oper?]
 rcases hd with rfl | hd
 ·rfl
 ·cases roundOf with
  | none=>rfl
  | some l=>
   cases hop:o.op <;> first | rfl | exact absurd hop (hd _)
theorem notDefer{f:AF}{fr:Frame}{acs:List AF}{o:Oper}{h:AH}{a:AN}{h':AH}{r:AR}{tm:T Value}(F:FrR η ρ f fr)(he:execA P (evA tm) o h = .ok (a,h'))(ha:afterA P f acs a h' = .ok r):fr.roundOf=none∨∀ c,o.op ≠ .defer c:=by
 cases hr:f.round with
 | none=>exact .inl (RoR.inv_none F hr)
 | some l=>
  refine .inr fun c hc=>?_
  obtain⟨dst,op,type,pos,after,guard⟩:=o
  simp only at hc;subst hc
  unfold execA at he
  rw [ite_no] at he
  obtain⟨_,he⟩:=he
  simp only [kindOf,effA,bind_ok] at he
  obtain⟨⟨t,args⟩,_,he⟩:=he
  rw [okk] at he;injection he with e1 e2;subst e1
  simp only [afterA] at ha
  rw [ite_no] at ha
  rw [hr] at ha
  exact ha.1 rfl
theorem unwindA_ok(hη:OneCells η){cs0:List Frame}{s:AS}{fr:Frame}{cs:List Frame}{r:AR}(R:SR η P ρ B s fr cs w)(hs:unwindA P s = .ok r)(hm:s.fr.mode ≠ .run):Stepped' η P B ρ s fr cs w cs0 r:=by
 obtain⟨f,acs,hp⟩:=s
 have F:=R.fr
 simp only at F hm
 obtain⟨fn,tmps,todo,defers,mode,kind,roundOf⟩:=fr
 have hmode:=F.mode
 have hdef:=F.defers
 simp only at hmode hdef
 have hnr:mode ≠ .run:=by
  intro e;subst e
  generalize f.mode=m at *
  cases hmode;exact hm rfl
 have hstep:∀ cs0,stepG P true (run0 { fn,tmps,todo,defers,mode,kind,roundOf } cs0) w=unwind P true { fn,tmps,todo,defers,mode,kind,roundOf } cs0 none w:=by
  intro cs0
  cases mode with
  | run=>exact absurd rfl hnr
  | returning=>rfl
  | panicking c=>rfl
 have hcatch:(Frame.catches P { fn,tmps,todo,defers,mode,kind,roundOf })=false:=by
  unfold Frame.catches
  have ht:=F.todo
  simp only at ht
  split
  ·rename_i h1 h2
   simp only at h2
   subst h2
   generalize f.todo=ft at ht
   cases ht with
   | cons hh _=>cases hh
  ·rfl
 unfold unwindA at hs
 dsimp only at hs
 split at hs
 ·
  rename_i b args ds he
  rw [he] at hdef
  obtain⟨d',ds',rfl,hd,hds⟩:=hdef.inv_cons
  obtain⟨t',a'⟩:=d'
  obtain⟨ht,ha⟩:=hd
  simp only at ht
  cases t' with
  | collected b'=>
   obtain⟨d0,n0,hρ⟩:=ht
   split at hs
   ·rename_i calls hg
    obtain⟨b2,d2,n2,o,h1,h2,⟨ds2,rfl,h3⟩,_⟩:=R.pre.hr.obj _ _ hg
    rw [hρ] at h1;cases h1
    cases ds2 with
    | none=>exact h3.elim
    | some calls'=>
     rw [okk] at hs;subst hs
     have hpost:Post η ρ B hp w ρ (putA hp b (.deferred none)) (wput w b' (.deferred none)):=Post.put R.pre hg rfl hρ rfl ⟨none,rfl,trivial⟩
     have hrun:(Instr.takeDeferred b').run P w = .ok calls' (wput w b' (.deferred none)):=by
      simp only [Instr.takeDeferred,Sem.run_bind,run_getObj h2 (by simp),Result.andThen_ok,Sem.run_pure,run_setObj h2 (by simp)]
     refine .inl ⟨_,rfl,ρ,{ fn,tmps,todo,defers:=calls' ++ ds',mode,kind,roundOf },cs,_,⟨⟨F.fn,F.tm,F.todo,h3.append hds,F.mode,F.kind,F.round⟩,R.cs,R.pre.post hpost⟩,hpost,one_go ?_⟩
     rw [hstep]
     simp [unwind,hrun,bare_after,run0]
   ·simp [no] at hs
  | _=>exact ht.elim
 ·rename_i d ds hnc he
  rw [he] at hdef
  obtain⟨d',ds',rfl,hd,hds⟩:=hdef.inv_cons
  simp only [bind_ok] at hs
  obtain⟨⟨a,h'⟩,hi,hs⟩:=hs
  obtain⟨ρ',w',hn,hpost⟩:=invokeA_ok hη R.pre hi hd.1 hd.2
  have hunw:∀ cs0,unwind P true { fn,tmps,todo,defers:=d' :: ds',mode,kind,roundOf } cs0 none w=callDeferred P { fn,tmps,todo,defers:=ds',mode,kind,roundOf } cs0 none d' w:=by
   intro cs0
   obtain⟨t',a'⟩:=d'
   cases t' with
   | collected b'=>
    exfalso
    obtain⟨t,a0⟩:=d
    have ht:=hd.1
    simp only at ht
    cases t <;> first | exact ht.elim | exact hnc _ _ rfl
   | _=>rfl
  have hnn:d'.target ≠ .nil:=by
   intro hd1
   have ht:=hd.1
   rw [hd1] at ht
   obtain⟨t,a0⟩:=d
   simp only at ht hi
   cases t <;> first | exact ht.elim | (simp [invokeA,no] at hi;done)
  have F':FrR η ρ' { f with defers:=ds } { fn,tmps,todo,defers:=ds',mode,kind,roundOf }:=by
   have:=F.mono hpost.le
   exact⟨this.fn,this.tm,this.todo,hds.mono fun _ _=>DR.mono hpost.le,this.mode,this.kind,this.round⟩
  split at hs
  ·rename_i g args h2 heq
   injection heq with e1 e2
   subst e1;subst e2
   obtain⟨xs,hr,hl⟩:=hn
   simp only [bind_ok] at hs
   obtain⟨f2,hf2,hs⟩:=hs
   rw [okk] at hs;subst hs
   refine .inl ⟨_,rfl,ρ',Frame.enter P g xs .deferred,{ fn,tmps,todo,defers:=ds',mode,kind,roundOf } :: cs,w',⟨enter_ok hf2 hl,.cons F' (L2.map_mono hpost.le R.cs),R.pre.post hpost⟩,hpost,one_go ?_⟩
   rw [hstep,hunw]
   unfold callDeferred
   split
   ·rename_i hh
    exfalso;apply hnn
    cases hd1:d'.target <;> simp_all
   ·simp [hr,bare_after,run0]
  ·rename_i v h2 heq
   injection heq with e1 e2
   subst e1;subst e2
   obtain⟨x,hr,hl⟩:=hn
   rw [okk] at hs;subst hs
   refine .inl ⟨_,rfl,ρ',{ fn,tmps,todo,defers:=ds',mode,kind,roundOf },cs,w',⟨F',L2.map_mono hpost.le R.cs,R.pre.post hpost⟩,hpost,one_go ?_⟩
   rw [hstep,hunw]
   unfold callDeferred
   split
   ·rename_i hh
    exfalso;apply hnn
    cases hd1:d'.target <;> simp_all
   ·simp [hr,bare_after,run0]
  ·simp [no] at hs
 ·rename_i he
  rw [he] at hdef
  have:=hdef.inv_nil;subst this
  split at hs
  ·rename_i chain hfm
   rw [hfm] at hmode
   cases hmode with
   | panicking hch=>
    rename_i chain'
    split at hs
    ·rename_i c rest
     have hC:=R.cs
     simp only at hC
     obtain⟨c',rest',rfl,hc,hrest⟩:=hC.inv_cons
     rw [okk] at hs;subst hs
     refine .inl ⟨_,rfl,ρ,c'.raise chain',rest',w,⟨raise_ok hc hch,hrest,R.pre⟩,.refl R.pre,one_go ?_⟩
     rw [hstep]
     simp [unwind,hcatch,run0]
    ·simp [no] at hs
  ·rename_i hnp
   rw [ite_no] at hs
   obtain⟨hro,hs⟩:=hs
   have hret:f.mode = .returning:=by
    generalize f.mode=m at *
    cases m with
    | run=>exact absurd rfl hm
    | returning=>rfl
    | panicking c=>exact absurd rfl (hnp c)
   rw [hret] at hmode
   cases hmode
   split at hs
   ·simp [no] at hs
   ·rename_i fn' hfn
    simp only [bind_ok] at hs
    obtain⟨v,hv,hs⟩:=hs
    obtain⟨x,hx,hxv⟩:=results_ok R.pre.hr F.tm hv
    have hffn:fn=f.fn:=F.fn
    have hfn':P.funcs[fn]? = some fn':=by rw [hffn];exact hfn
    rcases return_ok F R.cs R.pre hxv hs with⟨s',rfl,hhp,fr',cs',hSR,hdo⟩ | ⟨rfl,h1,h2,h3⟩
    ·refine .inl ⟨s',rfl,ρ,fr',cs',w,hSR,by rw [hhp];exact .refl R.pre,one_go ?_⟩
     rw [hstep]
     simp only [unwind,hfn',Sem.runT_eq,hx,bare_after]
     rw [hdo];rfl
    ·refine .inr ⟨v,rfl,h1,x,hxv,rfl,rfl,?_,fn',hfn',hx⟩
     have hk:kind=f.kind:=F.kind
     simp only
     rw [hk,h2]
theorem enterLoopA_ok{f:AF}{fr:Frame}{h h':AH}{d:Nat}{mark:List Deferred}{params:Array Tmp}{asg body:Code}(F:FrR η ρ f fr)(p:Pre η P ρ B h w)(he:enterLoopA f h = .ok (d,mark,h')) :
  ∃ ρ' b dd n mark' w',Post η ρ B h w ρ' h' w'∧ρ' d=some (b,dd,n)∧L2 (DR η ρ') mark mark'∧
   (Instr.enterLoop fr.fn fr.tmps params asg body fr.roundOf).run P w = .ok (w'.heap.size,mark') (wpush w' (.loop { state:=.ready,pending:=none,fn:=fr.fn,tmps:=fr.tmps,params,assign:=asg,body,defers:=b })):=by
 unfold enterLoopA at he
 split at he
 ·rename_i l hro
  obtain⟨b,d0,n0,hb,hρ⟩:=RoR.inv_some F hro
  split at he
  ·rename_i st pend fn2 tm n ps asg2 body2 ds hg
   obtain⟨b2,d2,k2,lp,h1,h2,h3,h4,h5,h6,h7,h8,h9,dd,nn,h10⟩:=p.hr.loop hg
   rw [hρ] at h1;cases h1
   rw [okk] at he;injection he with e1 e2;injection e2 with e2 e3;subst e1;subst e2;subst e3
   refine⟨ρ,lp.defers,dd,nn,[],w,.refl p,h10,.nil,?_⟩
   rw [hb]
   simp only [Instr.enterLoop,Instr.getLoop,Sem.run_bind,run_getObj h2 (by simp),Result.andThen_ok,Sem.run_pure,run_newObj]
   rfl
  ·simp [no] at he
 ·rename_i hro
  rw [okk] at he;injection he with e1 e2;injection e2 with e2 e3;subst e1;subst e2;subst e3
  have hpost:Post η ρ B h w (ρ.put h.next (w.heap.size,0,0)) (newA h (.deferred (some []))).2 (wpush w (.deferred (some []))):=
   Post.new (w':=wpush w (.deferred (some []))) (ob:=.deferred (some [])) p ⟨rfl,rfl,rfl,rfl⟩ h.objs (fun _ _ hx=>hx) ⟨some [],rfl,.nil⟩
  refine⟨_,w.heap.size,0,0,[{ target:=.collected w.heap.size,args:=#[] }],_,hpost,Env.put_at _ _ _,.cons ⟨⟨0,0,Env.put_at _ _ _⟩,.nil⟩ .nil,?_⟩
  rw [RoR.inv_none F hro]
  simp only [Instr.enterLoop,Sem.run_bind,run_newObj,Result.andThen_ok,Sem.run_pure]
  rfl
theorem stepA_ok(hη:OneCells η){nest:Nest}(hreg:RegOk η P B nest){cs0:List Frame}{s:AS}{fr:Frame}{cs:List Frame}{r:AR}(R:SR η P ρ B s fr cs w)(hs:stepA P nest s = .ok r):Stepped' η P B ρ s fr cs w cs0 r:=by
 obtain⟨f,acs,hp⟩:=s
 have F:=R.fr
 simp only at F
 obtain⟨fn,tmps,todo,defers,mode,kind,roundOf⟩:=fr
 have hmode:=F.mode
 have htodo:=F.todo
 have hdef:=F.defers
 simp only at hmode htodo hdef
 unfold stepA at hs
 dsimp only at hs
 split at hs
 ·
  rename_i hfm
  rw [hfm] at hmode
  cases hmode
  split at hs
  ·
   rename_i he
   rw [he] at htodo
   have:=htodo.inv_nil;subst this
   refine leave_ok (jump:=none) R hs (fun cs0 hro _=>?_) (fun cs0 l v w' hro hrun=>?_)
   ·simp only at hro;subst hro
    simp [stepG,run0,stepG.exec]
   ·simp only at hro;subst hro
    simp [stepG,run0,stepG.exec,hrun,bare_after]
  ·rename_i k he
   rw [he] at htodo
   obtain⟨y,k',rfl,hy,hk⟩:=htodo.inv_cons
   cases hy
   refine leave_ok (jump:=some .ret) R hs (fun cs0 hro _=>?_) (fun cs0 l v w' hro hrun=>?_)
   ·simp only at hro;subst hro
    simp [stepG,run0,stepG.exec]
   ·simp only at hro;subst hro
    simp [stepG,run0,stepG.exec,hrun,bare_after]
  ·rename_i k he
   rw [he] at htodo
   obtain⟨y,k',rfl,hy,hk⟩:=htodo.inv_cons
   cases hy
   rw [okk] at hs
   exact Stepped'.move R hs.symm (F.todo_of hk) (fun cs0=>by simp [stepG,run0,stepG.exec])
  ·rename_i l k he
   rw [he] at htodo
   obtain⟨y,k',rfl,hy,hk⟩:=htodo.inv_cons
   cases hy
   rw [okk] at hs
   exact Stepped'.move R hs.symm (F.todo_of hk) (fun cs0=>by simp [stepG,run0,stepG.exec])
  ·rename_i l k he
   rw [he] at htodo
   obtain⟨y,k',rfl,hy,hk⟩:=htodo.inv_cons
   cases hy
   rw [okk] at hs
   exact Stepped'.move R hs.symm (F.todo_of hk) (fun cs0=>by simp [stepG,run0,stepG.exec])
  ·rename_i l k he
   rw [he] at htodo
   obtain⟨y,k',rfl,hy,hk⟩:=htodo.inv_cons
   cases hy
   rw [okk] at hs
   exact Stepped'.move R hs.symm (F.todo_of hk) (fun cs0=>by simp [stepG,run0,stepG.exec])
  ·rename_i a b k he
   rw [he] at htodo
   obtain⟨y,k',rfl,hy,hk⟩:=htodo.inv_cons
   cases hy
   rw [okk] at hs
   exact Stepped'.move R hs.symm (F.todo_of (.cons (.code a) (.cons (.code b) hk))) (fun cs0=>by simp [stepG,run0,stepG.exec])
  ·rename_i c thn els k he
   rw [he] at htodo
   obtain⟨y,k',rfl,hy,hk⟩:=htodo.inv_cons
   cases hy
   split at hs
   ·rename_i b hb
    rw [okk] at hs
    have hev:(Frame.eval { fn,tmps,todo:=.code (.cond c thn els) :: k',defers,mode:=.run,kind,roundOf } c) = .bool b:=by
     have hok:okO P c=true:=by
      cases c with
      | tmp t=>rfl
      | const v=>simp only [evA] at hb;subst hb;rfl
      | global g=>cases hb
      | func g=>cases hb
     have:=evA_ok (P:=P) R.pre.glob (fr:={ fn,tmps,todo:=.code (.cond c thn els) :: k',defers,mode:=.run,kind,roundOf }) F.tm hok
     rw [hb] at this
     exact this.bool_inv
    refine Stepped'.move R hs.symm (F.todo_of (.cons (.code _) hk)) (fun cs0=>?_)
    simp [stepG,run0,stepG.exec,hev]
   ·simp [no] at hs
  ·rename_i id body k he
   rw [he] at htodo
   obtain⟨y,k',rfl,hy,hk⟩:=htodo.inv_cons
   cases hy
   rw [okk] at hs
   exact Stepped'.move R hs.symm (F.todo_of (.cons (.code body) (.cons (.inBlock id) hk))) (fun cs0=>by simp [stepG,run0,stepG.exec])
  ·rename_i body k he
   rw [he] at htodo
   obtain⟨y,k',rfl,hy,hk⟩:=htodo.inv_cons
   cases hy
   rw [okk] at hs
   exact Stepped'.move R hs.symm (F.todo_of (.cons (.code body) (.cons (.inLoop body) hk))) (fun cs0=>by simp [stepG,run0,stepG.exec])
  ·rename_i body k he
   rw [he] at htodo
   obtain⟨y,k',rfl,hy,hk⟩:=htodo.inv_cons
   cases hy
   rw [okk] at hs
   exact Stepped'.move R hs.symm (F.todo_of (.cons (.code body) (.cons (.inLoop body) hk))) (fun cs0=>by simp [stepG,run0,stepG.exec])
  ·rename_i body k he
   rw [he] at htodo
   obtain⟨y,k',rfl,hy,hk⟩:=htodo.inv_cons
   cases hy
   rw [okk] at hs
   exact Stepped'.move R hs.symm (F.todo_of (.cons (.code body) (.cons (.inScope body) hk))) (fun cs0=>by simp [stepG,run0,stepG.exec])
  ·
   rename_i id k he
   rw [he] at htodo
   obtain⟨y,k',rfl,hy,hk⟩:=htodo.inv_cons
   cases hy
   obtain⟨e1,e2⟩:=exitTo_ok (id:=id) hk
   split at hs
   ·rename_i r' hr'
    obtain⟨r2,h2,hk2⟩:=e1 r' hr'
    rw [okk] at hs
    exact Stepped'.move R hs.symm (F.todo_of hk2) (fun cs0=>by simp [stepG,run0,stepG.exec,h2])
   ·rename_i hr'
    have h2:=e2 hr'
    refine leave_ok (jump:=some (.exit id)) R hs (fun cs0 hro hj=>?_) (fun cs0 l v w' hro hrun=>?_)
    ·rcases hj with hj | hj <;> cases hj
    ·simp only at hro;subst hro
     simp [stepG,run0,stepG.exec,h2,hrun,bare_after]
  ·rename_i id k he
   rw [he] at htodo
   obtain⟨y,k',rfl,hy,hk⟩:=htodo.inv_cons
   cases hy
   obtain⟨e1,e2⟩:=gotoIn_ok (id:=id) hk
   split at hs
   ·rename_i r' hr'
    obtain⟨r2,h2,hk2⟩:=e1 r' hr'
    rw [okk] at hs
    exact Stepped'.move R hs.symm (F.todo_of hk2) (fun cs0=>by simp [stepG,run0,stepG.exec,h2])
   ·rename_i hr'
    have h2:=e2 hr'
    refine leave_ok (jump:=some (.goto id)) R hs (fun cs0 hro hj=>?_) (fun cs0 l v w' hro hrun=>?_)
    ·rcases hj with hj | hj <;> cases hj
    ·simp only at hro;subst hro
     simp [stepG,run0,stepG.exec,h2,hrun,bare_after]
  ·
   rename_i fo params assign body k he
   rw [he] at htodo
   obtain⟨y,k',rfl,hy,hk⟩:=htodo.inv_cons
   cases hy
   simp only [bind_ok] at hs
   obtain⟨⟨d,mark,h1⟩,hel,hs⟩:=hs
   simp only [newA] at hs
   rw [ite_no] at hs
   obtain⟨hok,hs⟩:=hs
   have hok:okO P fo=true:=by simpa using hok
   obtain⟨ρ1,b,dd,n0,mark',w1,hp1,hd1,hmk,hrun⟩:=enterLoopA_ok (P:=P) (params:=params) (asg:=assign) (body:=body) F R.pre hel
   simp only at hrun
   have p1:=R.pre.post hp1
   have F1:=F.mono hp1.le
   have hle:=Env.le_put (t:=(w1.heap.size,0,0)) (p1.fresh h1.next (Nat.le_refl _))
   have hp2:Post η ρ1 B h1 w1 (ρ1.put h1.next (w1.heap.size,0,0)) (newA h1 (.loop .ready none f.fn f.tm f.n params.toList assign body d)).2
     (wpush w1 (.loop { state:=.ready,pending:=none,fn,tmps,params,assign,body,defers:=b })):=
    Post.new (w':=wpush w1 _) (ob:=.loop { state:=.ready,pending:=none,fn,tmps,params,assign,body,defers:=b }) p1 ⟨rfl,rfl,rfl,rfl⟩ h1.objs (fun _ _ hx=>hx)
     ⟨_,rfl,rfl,rfl,F1.fn,F1.tm.mono hle,rfl,rfl,rfl,dd,n0,hle _ _ hd1⟩
   have p2:=p1.post hp2
   have F2:=F1.mono hle
   have hpp:=hp1.trans hp2
   split at hs
   ·rename_i gfn first captured hev
    simp only [bind_ok] at hs
    obtain⟨⟨a,h3⟩,hi,ha⟩:=hs
    have hv:=evA_ok (P:=P) (fr:={ fn,tmps,todo:=.inRangeFunc w1.heap.size :: k',defers:=mark' ++ defers,mode:=.run,kind,roundOf }) p2.glob F2.tm hok
    rw [hev] at hv
    obtain⟨g,c,dcap,hg,hfr,hfi,hca⟩:=hv.func_inv
    have hyv:VR η (ρ1.put h1.next (w1.heap.size,0,0)) (.func (.yield h1.next) #[] #[]) (.func (.yield w1.heap.size) #[] #[]):=.func_mk (.yield (Env.put_at _ _ _)) .nil .nil
    obtain⟨ρ',w',hn,hp3⟩:=invokeA_ok (t':=.fn g dcap) (args':=c ++ #[.func (.yield w1.heap.size) #[] #[]]) hη p2 hi ⟨hfr,hca⟩ (by rw [Array.toList_append];exact hfi.append (.cons hyv .nil))
    have hE:Eff η P (ρ1.put h1.next (w1.heap.size,0,0)) B (newA h1 (.loop .ready none f.fn f.tm f.n params.toList assign body d)).2 (wpush w1 (.loop { state:=.ready,pending:=none,fn,tmps,params,assign,body,defers:=b }))
      (do let d ← resolve (Frame.eval { fn,tmps,todo:=.inRangeFunc w1.heap.size :: k',defers:=mark' ++ defers,mode:=.run,kind,roundOf }) { callee:=.value fo,args:=#[.const (.func (.yield w1.heap.size) #[] #[])],argTypes:=#[] } 0;invoke d.target d.args) a h3:=by
     refine⟨ρ',w',?_,hp3⟩
     have hres:∀ w,(resolve (Frame.eval { fn,tmps,todo:=.inRangeFunc w1.heap.size :: k',defers:=mark' ++ defers,mode:=.run,kind,roundOf }) { callee:=.value fo,args:=#[.const (.func (.yield w1.heap.size) #[] #[])],argTypes:=#[] } 0).run P w = .ok { target:=.fn g dcap,args:=c ++ #[.func (.yield w1.heap.size) #[] #[]] } w:=by
      intro w
      simp only [resolve,hg,Deferred.ofValue,Sem.run_pure,List.map_toArray,List.map_cons,List.map_nil]
      rfl
     simp only [Sem.run_bind,hres,Result.andThen_ok]
     exact hn
    have Fn:FrR η (ρ1.put h1.next (w1.heap.size,0,0)) { f with todo:=.inRangeFunc h1.next :: k,defers:=mark ++ f.defers } { fn,tmps,todo:=.inRangeFunc w1.heap.size :: k',defers:=mark' ++ defers,mode:=.run,kind,roundOf }:=
     ⟨F2.fn,F2.tm,.cons (.inRangeFunc (Env.put_at _ _ _)) (hk.mono fun _ _=>ItR.mono (Env.le_trans hp1.le hle)),(hmk.mono fun _ _=>DR.mono hle).append F2.defers,F2.mode,F2.kind,F2.round⟩
    obtain⟨s',rfl,ρ4,fr4,cs4,w4,k1,k2,k3⟩:=after_ok Fn (L2.map_mono (Env.le_trans hp1.le hle) R.cs) p2 hE ha (fun d b r s k hh=>by cases hh)
    refine .inl ⟨s',rfl,ρ4,fr4,cs4,w4,k1,hpp.trans k2,one_go ?_⟩
    have:=k3 cs0
    rw [← this]
    simp only [stepG,run0,stepG.exec,Sem.runT_eq,hrun,bare_after]
   ·simp [no] at hs
  ·
   rename_i k he
   rw [he] at htodo
   obtain⟨y,k',rfl,hy,hk⟩:=htodo.inv_cons
   cases hy
   split at hs
   ·simp [no] at hs
   ·rename_i l hro
    obtain⟨b,d,n0,hb,hρ⟩:=RoR.inv_some F hro
    simp only at hb;subst hb
    split at hs
    ·rename_i pend fn2 tm n ps asg body ds hg
     obtain⟨b2,d2,k2,lp,h1,h2,h3,h4,h5⟩:=R.pre.hr.loop hg
     rw [hρ] at h1;cases h1
     have hpost:=Post.loop (st':=.busy) (pend':=pend) R.pre hg hρ h2
     have hrun:((do (some b).elim (stuck "beginRound: no round") Instr.beginRound;pure .skip:Sem Next)).run P w = .ok .skip (wput w b (.loop { lp with state:=.busy,pending:=pend })):=by
      simp only [Option.elim_some,Instr.beginRound,Instr.getLoop,Sem.run_bind,run_getObj h2 (by simp),Result.andThen_ok,Sem.run_pure,run_setObj h2 (by simp),h3,h4]
     rw [okk] at hs;subst hs
     refine .inl ⟨_,rfl,ρ,{ fn,tmps,todo:=k',defers,mode:=.run,kind,roundOf:=some b },cs,_,⟨F.todo_of hk,R.cs,R.pre.post hpost⟩,hpost,one_go ?_⟩
     have:=apply_skip (P:=P) (fr:={ fn,tmps,todo:=.beginRound :: k',defers,mode:=.run,kind,roundOf:=some b }) (cs:=cs ++ cs0) hrun
     simp only [stepG,run0,stepG.exec]
     exact this
    ·simp [no] at hs
  ·
   rename_i l k he
   rw [he] at htodo
   obtain⟨y,k',rfl,hy,hk⟩:=htodo.inv_cons
   cases hy with
   | endRangeFunc hρ=>
    rename_i b d n0
    split at hs
    ·rename_i st pend fn2 tm n ps asg body ds hg
     obtain⟨b2,d2,k2,lp,h1,h2,h3,h4,h5⟩:=R.pre.hr.loop hg
     rw [hρ] at h1;cases h1
     rw [ite_no,okk] at hs
     obtain⟨hst,hs⟩:=hs
     subst hs
     have hpost:=Post.loop (st':=.exhausted) (pend':=pend) R.pre hg hρ h2
     have hrun:(Instr.endLoop b).run P w = .ok pend (wput w b (.loop { lp with state:=.exhausted,pending:=pend })):=by
      have hb:(lp.state == .busy)=false:=by rw [h3];cases st <;> first | rfl | exact absurd rfl hst
      simp only [Instr.endLoop,Instr.getLoop,Sem.run_bind,run_getObj h2 (by simp),Result.andThen_ok,Sem.run_pure,hb,Bool.false_eq_true,if_false,run_setObj h2 (by simp),h4]
     have hitems:L2 (ItR ρ) ((pend.map Item.code).toList ++ k) ((pend.map Item.code).toList ++ k'):=by
      refine L2.append ?_ hk
      cases pend with
      | none=>exact .nil
      | some c=>exact .cons (.code c) .nil
     refine .inl ⟨_,rfl,ρ,{ fn,tmps,todo:=(pend.map Item.code).toList ++ k',defers,mode:=.run,kind,roundOf },cs,_,⟨F.todo_of hitems,R.cs,R.pre.post hpost⟩,hpost,one_go ?_⟩
     simp [stepG,run0,stepG.exec,hrun,bare_after]
    ·simp [no] at hs
  ·
   rename_i id ops draw k he
   rw [he] at htodo
   obtain⟨y,k',rfl,hy,hk⟩:=htodo.inv_cons
   cases hy
   cases draw with
   | false=>
    simp only [Bool.not_false,if_true,okk] at hs
    exact Stepped'.move R hs.symm (F.todo_of (.cons (.inRegion ops (List.range ops.size)) hk)) (fun cs0=>by simp [stepG,run0,stepG.exec])
   | true=>
    simp only [Bool.not_true,Bool.false_eq_true,if_false,bind_ok] at hs
    obtain⟨⟨tm,h'⟩,hr,hs⟩:=hs
    rw [okk] at hs;subst hs
    obtain⟨ρ',tmps',w',k1,k2,k3⟩:=hreg ops f.n f.tm tm hp h' hr ρ { fn,tmps,todo:=.code (.region id ops true) :: k',defers,mode:=.run,kind,roundOf } w k' id (cs ++ cs0) F.tm R.pre rfl rfl
    refine .inl ⟨_,rfl,ρ',{ fn,tmps:=tmps',todo:=k',defers,mode:=.run,kind,roundOf },cs,w',⟨?_,L2.map_mono k2.le R.cs,R.pre.post k2⟩,k2,k3⟩
    have F':=F.mono k2.le
    exact⟨F'.fn,k1,hk.mono fun _ _=>ItR.mono k2.le,F'.defers,F'.mode,F'.kind,F'.round⟩
  ·rename_i ops k he
   rw [he] at htodo
   obtain⟨y,k',rfl,hy,hk⟩:=htodo.inv_cons
   cases hy
   rw [okk] at hs
   exact Stepped'.move R hs.symm (F.todo_of hk) (fun cs0=>by simp [stepG,run0,stepG.exec])
  ·
   rename_i ops i rest k he
   rw [he] at htodo
   obtain⟨y,k',rfl,hy,hk⟩:=htodo.inv_cons
   cases hy
   split at hs
   ·simp [no] at hs
   ·rename_i o ho
    have ho':ops[i]? = some o:=by rw [← Array.getElem?_toList];exact ho
    simp only [bind_ok] at hs
    obtain⟨b,hb,hs⟩:=hs
    have hw:=wanted_ok (ops:=ops) F.tm hb
    simp only at hw
    cases b with
    | true=>
     simp only [if_true,bind_ok] at hs
     obtain⟨⟨a,h'⟩,hex,ha⟩:=hs
     have hE:=execA_ok (w:=w) hη R.pre (o:=o) (σ:=evA f.tm) (τ:=Frame.eval { fn,tmps,todo:=.inRegion ops (i :: rest) :: k',defers,mode:=.run,kind,roundOf }) (fun x hx=>evA_ok R.pre.glob F.tm hx) hex
     obtain⟨s',rfl,ρ',fr',cs',w',k1,k2,k3⟩:=after_ok F R.cs R.pre hE ha (fun d b r s k hh=>by cases hh)
     refine .inl ⟨s',rfl,ρ',fr',cs',w',k1,k2,one_go ?_⟩
     rw [stepG_region rfl rfl ho' hw (notDefer F hex ha)]
     exact k3 cs0
    | false=>
     simp only [Bool.false_eq_true,if_false,bind_ok] at hs
     obtain⟨f2,hf2,hs⟩:=hs
     rw [okk] at hs;subst hs
     have F2:=finish_ok hf2 F .undef'
     refine .inl ⟨_,rfl,ρ,_,cs,w,⟨F2,R.cs,R.pre⟩,.refl R.pre,one_go ?_⟩
     simp only [stepG,run0,stepG.exec,ho',Option.map_some,Option.getD_some,hw,Bool.false_eq_true,if_false]
     rfl
  ·simp [no] at hs
 ·exact unwindA_ok hη R hs (by rw [‹f.mode=_›];simp)
 ·exact unwindA_ok hη R hs (by rw [‹f.mode=_›];simp)
end
end Go.Ev

namespace Go.Ev
variable {η:Nat→Value}
theorem veqL_eq{n:Nat}(ih:∀ a b,veq n a b=true→a=b):∀ (l m:List Value),veq.veqL n l m=true→l=m
 | [],[],_=>rfl
 | [],_ :: _,h=>by simp [veq.veqL] at h
 | _ :: _,[],h=>by simp [veq.veqL] at h
 | x :: l,y :: m,h=>by
  simp only [veq.veqL,Bool.and_eq_true] at h
  rw [ih _ _ h.1,veqL_eq ih l m h.2]
theorem arr_ext{a b:Array Value}(h:a.toList=b.toList):a=b:=by
 rw [← Array.toArray_toList (xs:=a),h]
theorem veq_eq:∀ (n:Nat) (a b:Value),veq n a b=true→a=b
 | 0,a,b,h=>by simp [veq] at h
 | n+1,a,b,h=>by
  have ih:=veq_eq n
  have ihl:=veqL_eq ih
  unfold veq at h
  split at h <;> try simp only [Bool.and_eq_true,beq_iff_eq] at h
  ·rw [h]
  ·rw [h.1,h.2]
  ·rw [byteArray_ext h]
  ·rw [h]
  ·rw [h.1.1,h.1.2,h.2]
  ·rw [h]
  ·rw [h]
  ·rfl
  ·rfl
  ·rw [h.1,ih _ _ h.2]
  ·rw [h.1.1,arr_ext (ihl _ _ h.1.2),arr_ext (ihl _ _ h.2)]
  ·rw [arr_ext (ihl _ _ h)]
  ·rw [arr_ext (ihl _ _ h)]
  ·cases h
theorem maskOf_ok{masks:List Nat}{i:Nat}:∀ {es:List Edge} {m:Nat},maskOf masks i es = .ok m→
  (∀ e ∈ es,Region.binds .any e=true→e.on<i∧m.testBit e.on=true)∧
  (∀ j,m.testBit j=true→∃ e ∈ es,Region.binds .any e=true∧e.on<i∧(j=e.on∨((masks[e.on]?).getD 0).testBit j=true))
 | [],m,h=>by
  simp only [maskOf,okk] at h;subst h
  exact⟨fun e he=>by simp at he,fun j hj=>by simp at hj⟩
 | e :: es,m,h=>by
  simp only [maskOf,bind_ok] at h
  obtain⟨r,hr,h⟩:=h
  obtain⟨i1,i2⟩:=maskOf_ok hr
  by_cases hb:Region.binds .any e=true
  ·rw [if_pos hb,ite_no',okk] at h
   obtain⟨hlt,rfl⟩:=h
   constructor
   ·intro e' he' hb'
    rcases List.mem_cons.1 he' with rfl | he'
    ·exact⟨hlt,by simp [Nat.testBit_or]⟩
    ·obtain⟨a,b⟩:=i1 e' he' hb'
     exact⟨a,by simp [Nat.testBit_or,b]⟩
   ·intro j hj
    simp only [Nat.testBit_or,Bool.or_eq_true] at hj
    rcases hj with(hj | hj) | hj
    ·rw [Nat.testBit_two_pow] at hj
     exact⟨e,by simp,hb,hlt,.inl (by simpa using (of_decide_eq_true hj).symm)⟩
    ·exact⟨e,by simp,hb,hlt,.inr hj⟩
    ·obtain⟨e',he',a,b,c⟩:=i2 j hj
     exact⟨e',by simp [he'],a,b,c⟩
  ·rw [if_neg hb,okk] at h;subst h
   constructor
   ·intro e' he' hb'
    rcases List.mem_cons.1 he' with rfl | he'
    ·exact absurd hb' hb
    ·exact i1 e' he' hb'
   ·intro j hj
    obtain⟨e',he',a,b,c⟩:=i2 j hj
    exact⟨e',by simp [he'],a,b,c⟩
def wr:List Ent→Nat→(Nat→Bool)→Tmp→Option Value→Option Value
 | [],_,_,_,acc=>acc
 | x :: l,i,p,t,acc=>wr l (i+1) p t (if p i && x.o.dst == some t then some x.v else acc)
theorem wr_congr{p q:Nat→Bool}{t:Tmp}:∀ {l:List Ent} {i:Nat} {acc:Option Value},(∀ j x,l[j]? = some x→x.o.dst=some t→p (i+j)=q (i+j))→wr l i p t acc=wr l i q t acc
 | [],i,acc,_=>rfl
 | x :: l,i,acc,h=>by
  simp only [wr]
  have h0:=h 0 x rfl
  have e:(if p i && x.o.dst == some t then some x.v else acc)=(if q i && x.o.dst == some t then some x.v else acc):=by
   by_cases hd:x.o.dst=some t
   ·rw [show p i=q i from h0 hd]
   ·simp [hd]
  rw [e]
  exact wr_congr fun j y hj hy=>by have:=h (j+1) y (by simpa using hj) hy;rwa [show i+(j+1)=i+1+j by omega] at this
theorem wr_none{p:Nat→Bool}{t:Tmp}:∀ {l:List Ent} {i:Nat} {acc:Option Value},(∀ j x,l[j]? = some x→x.o.dst=some t→p (i+j)=false)→wr l i p t acc=acc
 | [],i,acc,_=>rfl
 | x :: l,i,acc,h=>by
  simp only [wr]
  have h0:=h 0 x rfl
  have e:(if p i && x.o.dst == some t then some x.v else acc)=acc:=by
   by_cases hd:x.o.dst=some t
   ·rw [show p i=false from h0 hd];simp
   ·simp [hd]
  rw [e]
  exact wr_none fun j y hj hy=>by have:=h (j+1) y (by simpa using hj) hy;rwa [show i+(j+1)=i+1+j by omega] at this
theorem wr_last{p:Nat→Bool}{t:Tmp}{x:Ent}:∀ {l:List Ent} {i j:Nat} {acc:Option Value},l[j]? = some x→x.o.dst=some t→p (i+j)=true→
  (∀ j' y,j<j'→l[j']? = some y→y.o.dst=some t→p (i+j')=false)→wr l i p t acc=some x.v
 | [],i,j,acc,h,_,_,_=>by simp at h
 | y :: l,i,0,acc,h,hd,hp,hn=>by
  simp at h;subst h
  simp only [wr]
  rw [wr_none (fun j' z hj hz=>by have:=hn (j'+1) z (by omega) (by simpa using hj) hz;rwa [show i+(j'+1)=i+1+j' by omega] at this)]
  simp [show p i=true from hp,hd]
 | y :: l,i,j+1,acc,h,hd,hp,hn=>by
  simp only [wr]
  exact wr_last (j:=j) (by simpa using h) hd (by rwa [show i+1+j=i+(j+1) by omega]) fun j' z hj hz hdz=>by
   have:=hn (j'+1) z (by omega) (by simpa using hz) hdz;rwa [show i+(j'+1)=i+1+j' by omega] at this
theorem wr_append{p:Nat→Bool}{t:Tmp}{x:Ent}:∀ {l:List Ent} {i:Nat} {acc:Option Value},wr (l ++ [x]) i p t acc=if p (i+l.length) && x.o.dst == some t then some x.v else wr l i p t acc
 | [],i,acc=>rfl
 | y :: l,i,acc=>by
  simp only [List.cons_append,wr]
  rw [wr_append,List.length_cons,show i+1+l.length=i+(l.length+1) by omega]
def alOf(E:List Ent)(j:Nat):Option AObj:=(E[j]?).bind (·.obj)
def mkE(E:List Ent)(j:Nat):Nat:=((E[j]?).map (·.mask)).getD 0
def Merged(E:List Ent)(ee:List Nat)(k j:Nat):Prop:=∃ m e,m<k∧ee[m]? = some e∧(mkE E e).testBit j=true
def AlIn(E:List Ent)(ee:List Nat)(base k:Nat)(al:List (Nat × Nat × AObj)):Prop:=∀ j r b,(j,r,b) ∈ al→r=base+j∧alOf E j=some b∧¬ Merged E ee k j
structure EntOk (P:Program) (nest:Nest) (ops:List Oper) (base n:Nat) (tm0:T Value) (E:List Ent) (hh:List AH) (ee:List Nat) (j:Nat) (x:Ent):Prop where
 o:ops[j]? = some x.o
 pre:∀ e ∈ x.o.after.toList,Region.binds .any e=true→e.on<j∧x.mask.testBit e.on=true
 clo:∀ m,x.mask.testBit m=true→∃ e ∈ x.o.after.toList,Region.binds .any e=true∧e.on<j∧(m=e.on∨(mkE E e.on).testBit m=true)
 ord:∀ j' y,j'<j→E[j']? = some y→clash ops y.o x.o=true→x.mask.testBit j'=true
 tm:∀ t,x.tm.get t=wr E 0 (fun i=>decide (i<j)) t (tm0.get t)
 dst:∀ d,x.o.dst=some d→d<n
 want:wantedA ops x.tm x.o = .ok x.want
 un:x.want=false→x.v=undef∧x.obj=none
 ok:x.want=true→okOps P x.o=true
 rd:x.want=true→x.kind = .read→x.obj=none∧∀ k hk,hh[k]? = some hk→(∀ m e,ee[m]? = some e→x.mask.testBit e=true→m<k)→(∀ m e,m<k→ee[m]? = some e→(mkE E e).testBit j=false)→
  ∃ al,AlIn E ee base k al∧readA P (evA x.tm) x.o (withAl x.mask hk al) = .ok x.v
 alc:x.want=true→x.kind = .alloc→∃ b,x.obj=some b∧allocA P (evA x.tm) x.o (base+j) = .ok (x.v,b)
 eff:x.want=true→x.kind = .effect→x.obj=none∧∃ k hk hk',ee[k]? = some j∧hh[k]? = some hk∧hh[k+1]? = some hk'∧(∀ m e,m<k→ee[m]? = some e→x.mask.testBit e=true)∧
  ∃ al,AlIn E ee base k al∧effRun P nest (evA x.tm) x.o (withAl x.mask hk al) = .ok (x.v,hk')
 once:x.want=true→x.kind = .read→∃ hx,readA P (evA x.tm) x.o hx = .ok x.v
structure Good (P:Program) (nest:Nest) (ops:List Oper) (base n:Nat) (tm0:T Value) (h0:AH) (s:RS):Prop where
 msk:∀ j:Nat,(s.masks[j]?).getD 0=mkE s.ents j
 mlen:s.masks.length=s.ents.length
 hlen:s.hh.length=s.ee.length+1
 hd:s.hh[0]? = some h0
 hl:s.hh[s.ee.length]? = some s.h
 ent:∀ j x,s.ents[j]? = some x→EntOk P nest ops base n tm0 s.ents s.hh s.ee j x
 effs:∀ (m e:Nat),s.ee[m]? = some e→∃ x,s.ents[e]? = some x∧x.want=true∧x.kind = .effect
 inc:∀ (m m' e e':Nat),m<m'→s.ee[m]? = some e→s.ee[m']? = some e'→e<e'
 al:AlIn s.ents s.ee base s.ee.length s.al
 alc:∀ j b,alOf s.ents j=some b→¬ Merged s.ents s.ee s.ee.length j→(j,base+j,b) ∈ s.al
 tm:∀ t,s.tm.get t=wr s.ents 0 (fun i=>decide (i<s.ents.length)) t (tm0.get t)
section
variable {P:Program} {nest:Nest} {ops:List Oper} {base n:Nat} {tm0:T Value} {h0:AH} {s:RS}
theorem mkE_append{E:List Ent}{x:Ent}{j:Nat}(h:j<E.length):mkE (E ++ [x]) j=mkE E j:=by
 unfold mkE;rw [List.getElem?_append_left h]
theorem mkE_new{E:List Ent}{x:Ent}:mkE (E ++ [x]) E.length=x.mask:=by
 unfold mkE;simp
theorem alOf_append{E:List Ent}{x:Ent}{j:Nat}(h:j<E.length):alOf (E ++ [x]) j=alOf E j:=by
 unfold alOf;rw [List.getElem?_append_left h]
theorem alOf_lt{E:List Ent}{j:Nat}{b:AObj}(h:alOf E j=some b):j<E.length:=by
 unfold alOf at h
 rcases Nat.lt_or_ge j E.length with h' | h'
 ·exact h'
 ·rw [List.getElem?_eq_none h'] at h;cases h
theorem Good.ee_lt(G:Good P nest ops base n tm0 h0 s){m e:Nat}(h:s.ee[m]? = some e):e<s.ents.length:=by
 obtain⟨x,hx,_⟩:=G.effs m e h
 exact(List.getElem?_eq_some_iff.1 hx).1
structure Ext (s:RS) (x:Ent) (ee':List Nat) (hh':List AH):Prop where
 ee:∀ m,m<s.ee.length→ee'[m]? = s.ee[m]?
 hh:∀ k,k≤s.ee.length→hh'[k]? = s.hh[k]?
theorem Good.merged_iff(G:Good P nest ops base n tm0 h0 s){x:Ent}{ee':List Nat}{hh':List AH}(X:Ext s x ee' hh'){k j:Nat}(hk:k≤s.ee.length):Merged (s.ents ++ [x]) ee' k j ↔ Merged s.ents s.ee k j:=by
 constructor
 ·rintro ⟨m,e,hm,he,hb⟩
  rw [X.ee m (by omega)] at he
  exact⟨m,e,hm,he,by rwa [mkE_append (G.ee_lt he)] at hb⟩
 ·rintro ⟨m,e,hm,he,hb⟩
  exact⟨m,e,hm,by rw [X.ee m (by omega)];exact he,by rwa [mkE_append (G.ee_lt he)]⟩
theorem Good.alin(G:Good P nest ops base n tm0 h0 s){x:Ent}{ee':List Nat}{hh':List AH}(X:Ext s x ee' hh'){k:Nat}(hk:k≤s.ee.length){al:List (Nat × Nat × AObj)}(h:AlIn s.ents s.ee base k al):AlIn (s.ents ++ [x]) ee' base k al:=by
 intro j r b hm
 obtain⟨h1,h2,h3⟩:=h j r b hm
 exact⟨h1,by rw [alOf_append (alOf_lt h2)];exact h2,fun hh=>h3 ((G.merged_iff X hk).1 hh)⟩
theorem Good.keep(G:Good P nest ops base n tm0 h0 s){x:Ent}{ee':List Nat}{hh':List AH}(X:Ext s x ee' hh'){j:Nat}{y:Ent}(hy:s.ents[j]? = some y)
  (hnew:y.want=true→y.kind = .read→∀ k hk,s.ee.length<k→hh'[k]? = some hk→(∀ m e,m<k→ee'[m]? = some e→(mkE (s.ents ++ [x]) e).testBit j=false)→∃ al,AlIn (s.ents ++ [x]) ee' base k al∧readA P (evA y.tm) y.o (withAl y.mask hk al) = .ok y.v) :
  EntOk P nest ops base n tm0 (s.ents ++ [x]) hh' ee' j y:=by
 have K:=G.ent j y hy
 have hj:j<s.ents.length:=(List.getElem?_eq_some_iff.1 hy).1
 refine⟨K.o,K.pre,?_,?_,?_,K.dst,K.want,K.un,K.ok,?_,K.alc,?_,K.once⟩
 ·intro m hm
  obtain⟨e,he,hb,hlt,hor⟩:=K.clo m hm
  exact⟨e,he,hb,hlt,by rw [mkE_append (by omega)];exact hor⟩
 ·intro j' z hj' hz
  rw [List.getElem?_append_left (by omega)] at hz
  exact K.ord j' z hj' hz
 ·intro t
  rw [K.tm t,wr_append]
  simp only [Nat.zero_add]
  rw [show decide (s.ents.length<j)=false from by simp;omega]
  simp
 ·intro hw hk
  obtain⟨h1,h2⟩:=K.rd hw hk
  refine⟨h1,fun k hk' hkk c1 c2=>?_⟩
  rcases Nat.lt_or_ge s.ee.length k with hlt | hle
  ·exact hnew hw hk k hk' hlt hkk c2
  ·rw [X.hh k hle] at hkk
   obtain⟨al,a1,a2⟩:=h2 k hk' hkk (fun m e hm hb=>by
    have hml:m<s.ee.length:=(List.getElem?_eq_some_iff.1 hm).1
    exact c1 m e (by rw [X.ee m hml];exact hm) hb) (fun m e hm he=>by
    have:=c2 m e hm (by rw [X.ee m (by omega)];exact he)
    rwa [mkE_append (G.ee_lt he)] at this)
   exact⟨al,G.alin X hle a1,a2⟩
 ·intro hw hk
  obtain⟨h1,k,hk1,hk2,e1,e2,e3,e4,al,a1,a2⟩:=K.eff hw hk
  have hkl:k<s.ee.length:=(List.getElem?_eq_some_iff.1 e1).1
  refine⟨h1,k,hk1,hk2,by rw [X.ee k hkl];exact e1,by rw [X.hh k (by omega)];exact e2,by rw [X.hh (k+1) (by omega)];exact e3,?_,al,G.alin X (by omega) a1,a2⟩
  intro m e hm he
  exact e4 m e hm (by rw [← X.ee m (by omega)];exact he)
theorem orderOk_ok{o:Oper}{mask:Nat}:∀ {E:List Ent} {i:Nat},orderOk ops o mask E i=true→∀ j y,E[j]? = some y→clash ops y.o o=true→mask.testBit (i+j)=true
 | [],i,_,j,y,hy,_=>by simp at hy
 | x :: E,i,h,j,y,hy,hc=>by
  simp only [orderOk,Bool.and_eq_true,Bool.or_eq_true,Bool.not_eq_true'] at h
  cases j with
  | zero=>
   simp at hy;subst hy
   rcases h.1 with h1 | h1
   ·rw [hc] at h1;cases h1
   ·exact h1
  | succ j=>
   have:=orderOk_ok h.2 j y (by simpa using hy) hc
   rwa [show i+1+j=i+(j+1) by omega] at this
theorem readsOk_ok{mask:Nat}{al:List (Nat × Nat × AObj)}{h:AH}:∀ {E:List Ent} {i:Nat},readsOk P mask al h E i=true→∀ j y,E[j]? = some y→isReadE y=true→mask.testBit (i+j)=false→sameRead P y al h=true
 | [],i,_,j,y,hy,_,_=>by simp at hy
 | x :: E,i,hr,j,y,hy,hc,hm=>by
  simp only [readsOk,Bool.and_eq_true,Bool.or_eq_true,Bool.not_eq_true'] at hr
  cases j with
  | zero=>
   simp at hy;subst hy
   rcases hr.1 with(h1 | h1) | h1
   ·rw [hc] at h1;cases h1
   ·rw [show mask.testBit i=false from hm] at h1;cases h1
   ·exact h1
  | succ j=>exact readsOk_ok hr.2 j y (by simpa using hy) hc (by rwa [show i+1+j=i+(j+1) by omega])
theorem eqA_free{h h':AH}{t:TypeId}{x y:Value}{d:TypeDesc}(hu:P.underlying t=some d)(hd:litD d=true)(n:Nat):eqA P h n t x y=eqA P h' n t x y:=by
 cases n with
 | zero=>rfl
 | succ n=>
  unfold eqA
  simp only [undA,hu,orNo,bind,Except.bind]
  unfold litD at hd
  split at hd
  ·cases x <;> cases y <;> rfl
  ·cases x <;> cases y <;> rfl
  ·cases x <;> cases y <;> rfl
  ·cases hd
theorem readA_free{ρ:Operand→Value}{o:Oper}{h h':AH}(hf:freeOp P o.op=true):readA P ρ o h=readA P ρ o h':=by
 unfold readA
 unfold freeOp at hf
 split at hf
 ·rename_i x he;simp only [he]
 ·rename_i x he;simp only [he]
 ·rename_i he;simp only [he]
 ·rename_i he;simp only [he]
 ·rename_i he;simp only [he]
 ·rename_i he;simp only [he]
 ·rename_i he;simp only [he]
 ·rename_i he;simp only [he]
 ·rename_i he;simp only [he]
 ·rename_i he;simp only [he]
 ·rename_i op t x y yt he
  simp only [he]
  have hb:binA P h op t (ρ x) (ρ y)=binA P h' op t (ρ x) (ρ y):=by
   unfold binA
   have e:∀ a b,eqA P h 10000 t a b=eqA P h' 10000 t a b:=by
    intro a b
    split at hf
    ·rename_i d hu;exact eqA_free hu hf _
    ·cases hf
   split <;> first | rfl | simp only [e]
  rw [hb]
 ·cases hf
theorem sameRead_ok{e:Ent}{al:List (Nat × Nat × AObj)}{h:AH}(hs:sameRead P e al h=true)(h1:∃ hx,readA P (evA e.tm) e.o hx = .ok e.v):readA P (evA e.tm) e.o (withAl e.mask h al) = .ok e.v:=by
 unfold sameRead at hs
 rw [Bool.or_eq_true] at hs
 rcases hs with hs | hs
 ·obtain⟨hx,h1⟩:=h1
  rw [readA_free hs];exact h1
 ·split at hs
  ·rename_i v hv;rw [hv,veq_eq _ _ _ hs]
  ·cases hs
end
end Go.Ev

namespace Go.Ev
variable {η:Nat→Value}
section
variable {P:Program} {nest:Nest} {ops:List Oper} {base n:Nat} {tm0:T Value} {h0:AH} {s:RS}
theorem putT_get{n:Nat}{tm tm2:T Value}{dst:Option Tmp}{v:Value}(h:putT n tm dst v = .ok tm2):(∀ d,dst=some d→d<n)∧∀ t,tm2.get t=if dst=some t then some v else tm.get t:=by
 cases dst with
 | none=>simp only [putT,okk] at h;subst h;exact⟨(fun d hd=>by cases hd),(fun t=>by simp)⟩
 | some d=>
  simp only [putT] at h
  rw [ite_no',okk] at h
  obtain⟨hd,rfl⟩:=h
  refine⟨fun e he=>by cases he;exact hd,fun t=>?_⟩
  rw [T.get_set]
  by_cases e:t=d
  ·subst e;simp
  ·rw [if_neg e,if_neg (fun hc=>e (by cases hc;rfl))]
theorem tm_next(G:Good P nest ops base n tm0 h0 s){x:Ent}{tm2:T Value}(h:putT n s.tm x.o.dst x.v = .ok tm2)(t:Tmp):tm2.get t=wr (s.ents ++ [x]) 0 (fun i=>decide (i<(s.ents ++ [x]).length)) t (tm0.get t):=by
 rw [(putT_get h).2 t,wr_append,G.tm t]
 simp only [Nat.zero_add,List.length_append,List.length_singleton]
 have e:wr s.ents 0 (fun i=>decide (i<s.ents.length)) t (tm0.get t)=wr s.ents 0 (fun i=>decide (i<s.ents.length+1)) t (tm0.get t):=by
  refine wr_congr fun j y hy _=>?_
  have:=(List.getElem?_eq_some_iff.1 hy).1
  simp;omega
 rw [e]
 by_cases hd:x.o.dst=some t
 ·simp [hd]
 ·simp [hd]
theorem tm_same(x:Ent)(G:Good P nest ops base n tm0 h0 s)(t:Tmp):s.tm.get t=wr (s.ents ++ [x]) 0 (fun i=>decide (i<s.ents.length)) t (tm0.get t):=by
 rw [wr_append,G.tm t]
 simp
theorem msk_next{x:Ent}{mask:Nat}(hmask:x.mask=mask)(hm:∀ j:Nat,(s.masks[j]?).getD 0=mkE s.ents j)(hl:s.masks.length=s.ents.length)(j:Nat):((s.masks ++ [mask])[j]?).getD 0=mkE (s.ents ++ [x]) j:=by
 rcases Nat.lt_trichotomy j s.ents.length with h | h | h
 ·rw [mkE_append h,List.getElem?_append_left (by omega)];exact hm j
 ·subst h
  rw [mkE_new,List.getElem?_append_right (by omega),hl];simp [hmask]
 ·unfold mkE
  rw [List.getElem?_eq_none (by rw [List.length_append];simp;omega),List.getElem?_eq_none (by rw [List.length_append];simp;omega)]
  rfl
theorem withAl_next{mask:Nat}{h:AH}:∀ (al:List (Nat × Nat × AObj)),(withAl mask h al).next=h.next
 | []=>rfl
 | (i,r,b) :: l=>by
  simp only [withAl]
  split
  ·exact withAl_next l
  ·exact withAl_next l
theorem withAl_get{mask:Nat}{h:AH}{r:Nat}{a:AObj}:∀ (al:List (Nat × Nat × AObj)),(withAl mask h al).objs.get r=some a→h.objs.get r=some a∨∃ j,(j,r,a) ∈ al∧mask.testBit j=true
 | [],hg=>.inl hg
 | (i,r',b) :: l,hg=>by
  simp only [withAl] at hg
  split at hg
  ·rename_i hm
   simp only [putA,T.get_set] at hg
   by_cases e:r=r'
   ·rw [if_pos e] at hg;cases hg;subst e
    exact .inr ⟨i,by simp,hm⟩
   ·rw [if_neg e] at hg
    rcases withAl_get l hg with h1 | ⟨j,h1,h2⟩
    ·exact .inl h1
    ·exact .inr ⟨j,by simp [h1],h2⟩
  ·rcases withAl_get l hg with h1 | ⟨j,h1,h2⟩
   ·exact .inl h1
   ·exact .inr ⟨j,by simp [h1],h2⟩
theorem Good.ext_same(G:Good P nest ops base n tm0 h0 s)(x:Ent):Ext s x s.ee s.hh:=⟨fun _ _=>rfl,fun _ _=>rfl⟩
theorem Good.quiet(G:Good P nest ops base n tm0 h0 s){x:Ent}{tm2:T Value}{al2:List (Nat × Nat × AObj)}(hx:EntOk P nest ops base n tm0 (s.ents ++ [x]) s.hh s.ee s.ents.length x)(hp:putT n s.tm x.o.dst x.v = .ok tm2)
  (hal:∀ p,p ∈ al2 ↔ p ∈ s.al∨∃ b,x.obj=some b∧p=(s.ents.length,base+s.ents.length,b)):Good P nest ops base n tm0 h0 { s with tm:=tm2,al:=al2,masks:=s.masks ++ [x.mask],ents:=s.ents ++ [x] }:=by
 have X:=G.ext_same x
 have hnm:∀ k,k≤s.ee.length→¬ Merged (s.ents ++ [x]) s.ee k s.ents.length:=by
  rintro k hk ⟨m,e,hm,he,hb⟩
  have hel:=G.ee_lt he
  rw [mkE_append hel] at hb
  obtain⟨y,hy,_⟩:=G.effs m e he
  have K:=G.ent e y hy
  have hmk:mkE s.ents e=y.mask:=by unfold mkE;rw [hy];rfl
  rw [hmk] at hb
    -- the bits of a mask lie before its entry
  have below:∀ (e:Nat) (y:Ent),s.ents[e]? = some y→∀ m,y.mask.testBit m=true→m<e:=by
   intro e
   induction e using Nat.strongRecOn with
   | _ e ih=>
    intro y hy m hm
    obtain⟨ed,_,_,hlt,hor⟩:=(G.ent e y hy).clo m hm
    rcases hor with rfl | hor
    ·exact hlt
    ·have hl:ed.on<s.ents.length:=by have:=(List.getElem?_eq_some_iff.1 hy).1;omega
     have hz:s.ents[ed.on]? = some s.ents[ed.on]:=List.getElem?_eq_getElem hl
     have:mkE s.ents ed.on=s.ents[ed.on].mask:=by unfold mkE;rw [hz];rfl
     rw [this] at hor
     have:=ih ed.on hlt _ hz m hor
     omega
  have:=below e y hy _ hb
  omega
 refine⟨msk_next rfl G.msk G.mlen,by simp [G.mlen],G.hlen,G.hd,G.hl,?_,?_,G.inc,?_,?_,tm_next G hp⟩
 ·intro j y hy
  rcases Nat.lt_trichotomy j s.ents.length with h | h | h
  ·rw [List.getElem?_append_left h] at hy
   refine G.keep X hy (fun _ _ k hk hlt hkk _=>?_)
   have:=(List.getElem?_eq_some_iff.1 hkk).1
   rw [G.hlen] at this;omega
  ·subst h
   rw [List.getElem?_append_right (Nat.le_refl _)] at hy
   simp at hy;subst hy;exact hx
  ·rw [List.getElem?_eq_none (by rw [List.length_append];simp;omega)] at hy;cases hy
 ·intro m e he
  obtain⟨y,h1,h2⟩:=G.effs m e he
  exact⟨y,by rw [List.getElem?_append_left (List.getElem?_eq_some_iff.1 h1).1];exact h1,h2⟩
 ·intro j r b hm
  rcases (hal _).1 hm with hm | ⟨b',hb',he⟩
  ·exact G.alin X (Nat.le_refl _) G.al j r b hm
  ·cases he
   refine⟨rfl,?_,hnm _ (Nat.le_refl _)⟩
   unfold alOf
   simp [hb']
 ·intro j b hb hnm'
  rcases Nat.lt_trichotomy j s.ents.length with h | h | h
  ·rw [alOf_append h] at hb
   exact(hal _).2 (.inl (G.alc j b hb (fun hm=>hnm' ((G.merged_iff X (Nat.le_refl _)).2 hm))))
  ·subst h
   unfold alOf at hb
   simp at hb
   exact(hal _).2 (.inr ⟨b,hb,rfl⟩)
  ·have:=alOf_lt hb;rw [List.length_append] at this;simp at this;omega
theorem Good.loud(G:Good P nest ops base n tm0 h0 s){x:Ent}{tm2:T Value}{h':AH}(hx:EntOk P nest ops base n tm0 (s.ents ++ [x]) (s.hh ++ [h']) (s.ee ++ [s.ents.length]) s.ents.length x)(hp:putT n s.tm x.o.dst x.v = .ok tm2)
  (hw:x.want=true) (hk:x.kind = .effect) (hobj:x.obj=none) (hrd:readsOk P x.mask (s.al.filter fun p=>!x.mask.testBit p.1) h' s.ents 0=true) :
  Good P nest ops base n tm0 h0 { tm:=tm2,h:=h',hh:=s.hh ++ [h'],ee:=s.ee ++ [s.ents.length],al:=s.al.filter fun p=>!x.mask.testBit p.1,masks:=s.masks ++ [x.mask],ents:=s.ents ++ [x] }:=by
 have X:Ext s x (s.ee ++ [s.ents.length]) (s.hh ++ [h']):=⟨fun m hm=>List.getElem?_append_left hm,fun k hk=>List.getElem?_append_left (by rw [G.hlen];omega)⟩
 have mlast:∀ j,Merged (s.ents ++ [x]) (s.ee ++ [s.ents.length]) (s.ee.length+1) j ↔ Merged s.ents s.ee s.ee.length j∨x.mask.testBit j=true:=by
  intro j
  constructor
  ·rintro ⟨m,e,hm,he,hb⟩
   rcases Nat.lt_or_ge m s.ee.length with hlt | hge
   ·exact .inl ((G.merged_iff X (Nat.le_refl _)).1 ⟨m,e,hlt,he,hb⟩)
   ·have:m=s.ee.length:=by omega
    subst this
    rw [List.getElem?_append_right (Nat.le_refl _)] at he
    simp at he;subst he
    rw [mkE_new] at hb
    exact .inr hb
  ·rintro (hm | hb)
   ·obtain⟨m,e,h1,h2,h3⟩:=(G.merged_iff X (Nat.le_refl _)).2 hm
    exact⟨m,e,by omega,h2,h3⟩
   ·exact⟨s.ee.length,s.ents.length,by omega,by rw [List.getElem?_append_right (Nat.le_refl _)];simp,by rw [mkE_new];exact hb⟩
 have alin:AlIn (s.ents ++ [x]) (s.ee ++ [s.ents.length]) base (s.ee.length+1) (s.al.filter fun p=>!x.mask.testBit p.1):=by
  intro j r b hm
  simp only [List.mem_filter,Bool.not_eq_true'] at hm
  obtain⟨h1,h2,h3⟩:=G.al j r b hm.1
  refine⟨h1,by rw [alOf_append (alOf_lt h2)];exact h2,fun hmm=>?_⟩
  rcases (mlast j).1 hmm with hmm | hmm
  ·exact h3 hmm
  ·rw [hmm] at hm;exact absurd hm.2 (by simp)
 refine⟨msk_next rfl G.msk G.mlen,by simp [G.mlen],by simp [G.hlen],by rw [List.getElem?_append_left (by rw [G.hlen];omega)];exact G.hd,?_,?_,?_,?_,by simpa using alin,?_,tm_next G hp⟩
 ·simp only [List.length_append,List.length_singleton]
  rw [List.getElem?_append_right (by rw [G.hlen];omega),G.hlen];simp
 ·intro j y hy
  rcases Nat.lt_trichotomy j s.ents.length with h | h | h
  ·rw [List.getElem?_append_left h] at hy
   refine G.keep X hy (fun hyw hyk k hk hlt hkk c2=>?_)
   have hkl:=(List.getElem?_eq_some_iff.1 hkk).1
   simp only [List.length_append,List.length_singleton,G.hlen] at hkl
   have hke:k=s.ee.length+1:=by omega
   subst hke
   rw [List.getElem?_append_right (by rw [G.hlen];omega),G.hlen] at hkk
   simp at hkk;subst hkk
   have hnb:=c2 s.ee.length s.ents.length (by omega) (by rw [List.getElem?_append_right (Nat.le_refl _)];simp)
   rw [mkE_new] at hnb
   have hsr:=readsOk_ok hrd j y hy (by simp [isReadE,hyw,hyk]) (by simpa using hnb)
   exact⟨_,alin,sameRead_ok hsr ((G.ent j y hy).once hyw hyk)⟩
  ·subst h
   rw [List.getElem?_append_right (Nat.le_refl _)] at hy
   simp at hy;subst hy;exact hx
  ·rw [List.getElem?_eq_none (by rw [List.length_append];simp;omega)] at hy;cases hy
 ·intro m e he
  rcases Nat.lt_or_ge m s.ee.length with hlt | hge
  ·rw [X.ee m hlt] at he
   obtain⟨y,h1,h2⟩:=G.effs m e he
   exact⟨y,by rw [List.getElem?_append_left (List.getElem?_eq_some_iff.1 h1).1];exact h1,h2⟩
  ·have hl:=(List.getElem?_eq_some_iff.1 he).1
   simp only [List.length_append,List.length_singleton] at hl
   have:m=s.ee.length:=by omega
   subst this
   rw [List.getElem?_append_right (Nat.le_refl _)] at he
   simp at he;subst he
   exact⟨x,by simp,hw,hk⟩
 ·intro m m' e e' hmm he he'
  have hl:=(List.getElem?_eq_some_iff.1 he').1
  simp only [List.length_append,List.length_singleton] at hl
  rw [X.ee m (by omega)] at he
  rcases Nat.lt_or_ge m' s.ee.length with hlt | hge
  ·rw [X.ee m' hlt] at he'
   exact G.inc m m' e e' hmm he he'
  ·have:m'=s.ee.length:=by omega
   subst this
   rw [List.getElem?_append_right (Nat.le_refl _)] at he'
   simp at he';subst he'
   exact G.ee_lt he
 ·intro j b hb hnm'
  simp only [List.length_append,List.length_singleton] at hnm'
  rcases Nat.lt_trichotomy j s.ents.length with h | h | h
  ·rw [alOf_append h] at hb
   have hno:¬ (Merged s.ents s.ee s.ee.length j∨x.mask.testBit j=true):=fun hh=>hnm' ((mlast j).2 hh)
   have hm:=G.alc j b hb (fun hh=>hno (.inl hh))
   simp only [List.mem_filter,Bool.not_eq_true']
   exact⟨hm,by cases hx:x.mask.testBit j <;> first | rfl | exact absurd (.inr hx) hno⟩
  ·subst h
   unfold alOf at hb
   simp [hobj] at hb
  ·have:=alOf_lt hb;rw [List.length_append] at this;simp at this;omega
theorem regStep_good(G:Good P nest ops base n tm0 h0 s){o:Oper}{s':RS}(ho:ops[s.ents.length]? = some o)(hs:regStep P n base nest ops s.ents.length o s = .ok s'):Good P nest ops base n tm0 h0 s'∧s'.ents.length=s.ents.length+1:=by
 unfold regStep at hs
 simp only [bind_ok] at hs
 obtain⟨mask,hmask,hs⟩:=hs
 rw [ite_no] at hs
 obtain⟨hord,hs⟩:=hs
 have hord:orderOk ops o mask s.ents 0=true:=by simpa using hord
 simp only [bind_ok] at hs
 obtain⟨want,hwant,hs⟩:=hs
 obtain⟨m1,m2⟩:=maskOf_ok hmask
 have clo:∀ (x:Ent) m,mask.testBit m=true→∃ e ∈ o.after.toList,Region.binds .any e=true∧e.on<s.ents.length∧(m=e.on∨(mkE (s.ents ++ [x]) e.on).testBit m=true):=by
  intro x m hm
  obtain⟨e,he,hb,hlt,hor⟩:=m2 m hm
  exact⟨e,he,hb,hlt,by rw [mkE_append hlt,← G.msk];exact hor⟩
 have ord:∀ (x:Ent) j' y,j'<s.ents.length→(s.ents ++ [x])[j']? = some y→clash ops y.o o=true→mask.testBit j'=true:=by
  intro x j' y hj hy hc
  rw [List.getElem?_append_left hj] at hy
  simpa using orderOk_ok hord j' y hy hc
 cases want with
 | false=>
  simp only [Bool.not_false,if_true,bind_ok] at hs
  obtain⟨tm,htm,hs⟩:=hs
  rw [okk] at hs;subst hs
  refine⟨Good.quiet G (x:={ o,mask,tm:=s.tm,want:=false,v:=undef,kind:=.read,obj:=none }) ⟨ho,m1,clo _,ord _,tm_same _ G,(putT_get htm).1,hwant,fun _=>⟨rfl,rfl⟩,fun h=>(by cases h),fun h=>(by cases h),fun h=>(by cases h),fun h=>(by cases h),fun h=>(by cases h)⟩ htm (fun p=>by simp),by simp⟩
 | true=>
  simp only [Bool.not_true,Bool.false_eq_true,if_false] at hs
  rw [ite_no] at hs
  obtain⟨hok,hs⟩:=hs
  have hok:okOps P o=true:=by simpa using hok
  split at hs
  ·simp only [bind_ok] at hs
   obtain⟨v,hv,hs⟩:=hs
   rw [ite_no] at hs
   obtain⟨hun,hs⟩:=hs
   rw [Bool.not_eq_true,Bool.not_eq_false'] at hun
   have hun:∀ (a:Nat) (b:AH),(a,b) ∈ s.ee.zip s.hh→mask.testBit a=true∨sameRead P { o,mask,tm:=s.tm,want:=true,v,kind:=.read,obj:=none } s.al b=true:=fun a b hm=>by
    have:=List.all_eq_true.1 hun (a,b) hm
    simpa [Bool.or_eq_true] using this
   simp only [bind_ok] at hs
   obtain⟨tm,htm,hs⟩:=hs
   rw [okk] at hs;subst hs
   have X:=G.ext_same { o,mask,tm:=s.tm,want:=true,v,kind:=.read,obj:=none }
   refine⟨Good.quiet G (x:={ o,mask,tm:=s.tm,want:=true,v,kind:=.read,obj:=none }) ⟨ho,m1,clo _,ord _,tm_same _ G,(putT_get htm).1,hwant,fun h=>(by cases h),fun _=>hok,fun _ _=>⟨rfl,fun k hk hkk c1 c2=>?_⟩,fun _ h=>(by cases h),fun _ h=>(by cases h),fun _ _=>⟨_,hv⟩⟩ htm (fun p=>by simp),by simp⟩
   have hkl:=(List.getElem?_eq_some_iff.1 hkk).1
   rw [G.hlen] at hkl
   have halk:AlIn (s.ents ++ [{ o,mask,tm:=s.tm,want:=true,v,kind:=.read,obj:=none }]) s.ee base k s.al:=by
    have:=G.alin X (Nat.le_refl _) G.al
    intro j r b hm
    obtain⟨h1,h2,h3⟩:=this j r b hm
    exact⟨h1,h2,fun ⟨m,e,hm,q⟩=>h3 ⟨m,e,by omega,q⟩⟩
   rcases Nat.lt_or_ge k s.ee.length with hlt | hge
   ·have hz:(s.ee[k],hk) ∈ s.ee.zip s.hh:=by
     have hk2:k<s.hh.length:=by rw [G.hlen];omega
     have:s.hh[k]=hk:=by rw [List.getElem?_eq_getElem hk2] at hkk;exact Option.some.inj hkk
     rw [← this]
     have hz:=List.getElem_mem (l:=s.ee.zip s.hh) (n:=k) (by rw [List.length_zip,G.hlen];omega)
     rwa [List.getElem_zip] at hz
    rcases hun _ _ hz with h1 | h1
    ·exact absurd (c1 k s.ee[k] (List.getElem?_eq_getElem hlt) h1) (Nat.lt_irrefl _)
    ·exact⟨s.al,halk,sameRead_ok h1 ⟨_,hv⟩⟩
   ·have:k=s.ee.length:=by omega
    subst this
    rw [G.hl] at hkk;cases hkk
    exact⟨s.al,halk,hv⟩
  ·simp only [bind_ok] at hs
   obtain⟨⟨v,b⟩,hv,tm,htm,hs⟩:=hs
   rw [okk] at hs;subst hs
   refine⟨Good.quiet G (x:={ o,mask,tm:=s.tm,want:=true,v,kind:=.alloc,obj:=some b }) ⟨ho,m1,clo _,ord _,tm_same _ G,(putT_get htm).1,hwant,fun h=>(by cases h),fun _=>hok,fun _ h=>(by cases h),fun _ _=>⟨b,rfl,hv⟩,fun _ h=>(by cases h),fun _ h=>(by cases h)⟩ htm (fun p=>?_),by simp⟩
   simp only [List.mem_cons]
   constructor
   ·rintro (rfl | h)
    ·exact .inr ⟨b,rfl,rfl⟩
    ·exact .inl h
   ·rintro (h | ⟨b',hb',rfl⟩)
    ·exact .inr h
    ·cases hb';exact .inl rfl
  ·rw [ite_no] at hs
   obtain⟨hch,hs⟩:=hs
   rw [Bool.not_eq_true,Bool.not_eq_false'] at hch
   have hch:∀ x ∈ s.ee,mask.testBit x=true:=fun x hm=>List.all_eq_true.1 hch x hm
   simp only [bind_ok] at hs
   obtain⟨⟨v,h'⟩,hv,hs⟩:=hs
   rw [ite_no] at hs
   obtain⟨hrd,hs⟩:=hs
   have hrd:readsOk P mask (s.al.filter fun p=>!mask.testBit p.1) h' s.ents 0=true:=by simpa using hrd
   simp only [bind_ok] at hs
   obtain⟨tm,htm,hs⟩:=hs
   rw [okk] at hs;subst hs
   have X:Ext s { o,mask,tm:=s.tm,want:=true,v,kind:=.effect,obj:=none } (s.ee ++ [s.ents.length]) (s.hh ++ [h']):=⟨fun m hm=>List.getElem?_append_left hm,fun k hk=>List.getElem?_append_left (by rw [G.hlen];omega)⟩
   refine⟨Good.loud G (x:={ o,mask,tm:=s.tm,want:=true,v,kind:=.effect,obj:=none }) ⟨ho,m1,clo _,ord _,tm_same _ G,(putT_get htm).1,hwant,fun h=>(by cases h),fun _=>hok,fun _ h=>(by cases h),fun _ h=>(by cases h),fun _ _=>⟨rfl,s.ee.length,s.h,h',?_,?_,?_,?_,s.al,G.alin X (Nat.le_refl _) G.al,hv⟩,fun _ h=>(by cases h)⟩ htm rfl rfl rfl hrd,by simp⟩
   ·rw [List.getElem?_append_right (Nat.le_refl _)];simp
   ·rw [List.getElem?_append_left (by rw [G.hlen];omega)];exact G.hl
   ·rw [List.getElem?_append_right (by rw [G.hlen];omega),G.hlen];simp
   ·intro m e hm he
    rw [List.getElem?_append_left hm] at he
    exact hch e (List.mem_of_getElem? he)
theorem regLoop_good:∀ {l:List Oper} {s s':RS},Good P nest ops base n tm0 h0 s→(∀ j o,l[j]? = some o→ops[s.ents.length+j]? = some o)→regLoop P n base nest ops l s.ents.length s = .ok s'→Good P nest ops base n tm0 h0 s'∧s'.ents.length=s.ents.length+l.length
 | [],s,s',G,_,hr=>by simp only [regLoop,okk] at hr;subst hr;exact⟨G,by simp⟩
 | o :: l,s,s',G,ho,hr=>by
  simp only [regLoop,bind_ok] at hr
  obtain⟨s1,h1,hr⟩:=hr
  obtain⟨G1,hl1⟩:=regStep_good G (ho 0 o rfl) h1
  rw [← hl1] at hr
  obtain⟨G2,hl2⟩:=regLoop_good G1 (fun j o' hj=>by have:=ho (j+1) o' (by simpa using hj);rw [hl1];rwa [show s.ents.length+(j+1)=s.ents.length+1+j by omega] at this) hr
  exact⟨G2,by rw [hl2,hl1,List.length_cons];omega⟩
theorem Good.start(h0:AH):Good P nest ops base n tm0 h0 { tm:=tm0,h:=h0,hh:=[h0],ee:=[],al:=[],masks:=[],ents:=[] }:=
 ⟨fun j=>by simp [mkE],rfl,rfl,rfl,rfl,fun j x h=>by simp at h,fun m e h=>by simp at h,fun m m' e e' _ h=>by simp at h,fun j r b h=>by simp at h,fun j b h=>by simp [alOf] at h,fun t=>rfl⟩
end
end Go.Ev

namespace Go.Ev
variable {η:Nat→Value}
def tmS:List Ent→Nat→(Nat→Bool)→T Value→T Value
 | [],_,_,tm=>tm
 | x :: l,i,p,tm=>tmS l (i+1) p (match p i,x.o.dst with | true,some d=>tm.set d x.v | _,_=>tm)
theorem tmS_get{p:Nat→Bool}{t:Tmp}:∀ {l:List Ent} {i:Nat} {tm:T Value},(tmS l i p tm).get t=wr l i p t (tm.get t)
 | [],i,tm=>rfl
 | x :: l,i,tm=>by
  simp only [tmS,wr]
  rw [tmS_get]
  congr 1
  cases hp:p i with
  | false=>simp
  | true=>
   cases hd:x.o.dst with
   | none=>simp
   | some d=>
    simp only [Bool.true_and]
    rw [T.get_set]
    by_cases e:t=d
    ·subst e;simp
    ·have:¬ (d=t):=fun h=>e h.symm
     simp [e,this]
theorem TR.congr{ρ:Env}{tm tm2:T Value}{n:Nat}{tmps:Array Value}(h:∀ t,tm2.get t=tm.get t)(k:TR η ρ tm n tmps):TR η ρ tm2 n tmps:=
 ⟨k.1,fun t ht=>by rw [h];exact k.2.1 t ht,fun t ht=>by rw [h];exact k.2.2 t ht⟩
def InS(E:List Ent)(ee:List Nat)(base:Nat)(S:Nat→Bool)(k:Nat)(hk:AH)(r:Nat)(a:AObj):Prop:=
 hk.objs.get r=some a∨∃ j,r=base+j∧alOf E j=some a∧S j=true∧¬ Merged E ee k j
structure HOk (η:Nat→Value) (B:Bd) (E:List Ent) (ee:List Nat) (base N:Nat) (ρ0:Env) (h:AH) (w0:World) (S:Nat→Bool) (ρ:Env) (w:World) (k:Nat) (hk:AH):Prop where
 obj:∀ r a,InS E ee base S k hk r a→∃ b d m o,ρ r=some (b,d,m)∧w.heap[b]? = some o∧OR η ρ a d m o∧(ownO a=true→B.n≤b)
 inj:∀ r r' a a' b d m d' m',InS E ee base S k hk r a→InS E ee base S k hk r' a'→ρ r=some (b,d,m)→ρ r'=some (b,d',m')→r=r'∨B.S b
 sh:∀ r a b d m,InS E ee base S k hk r a→ρ r=some (b,d,m)→B.S b→shO a=true
 new:∀ j a b d m,alOf E j=some a→S j=true→¬ Merged E ee k j→ρ (base+j)=some (b,d,m)→¬ B.S b
 nx:base+N≤hk.next
 fresh:FreshR ρ hk.next
 abs:∀ j,j<N→¬ Merged E ee k j→hk.objs.get (base+j)=none
 own:∀ b,(∃ r a d m,InS E ee base S k hk r a∧ownO a=true∧ρ r=some (b,d,m))→Own ρ0 h b∨w0.heap.size≤b
 inn:∀ b,(∃ r a d m,InS E ee base S k hk r a∧ρ r=some (b,d,m))→(∃ r a d m,h.objs.get r=some a∧ρ0 r=some (b,d,m))∨w0.heap.size≤b
structure RInv (η:Nat→Value) (P:Program) (B:Bd) (s:RS) (base N n:Nat) (tm0:T Value) (ρ0:Env) (h:AH) (w0:World) (S:Nat→Bool) (ρ:Env) (tmps:Array Value) (w:World) (k:Nat) (hk:AH):Prop where
 clo:∀ j x,s.ents[j]? = some x→S j=true→∀ e ∈ x.o.after.toList,Region.binds .any e=true→S e.on=true
 lt:∀ j,S j=true→j<N
 tmr:TR η ρ (tmS s.ents 0 S tm0) n tmps
 hhk:s.hh[k]? = some hk
 kle:k≤s.ee.length
 ks:∀ m e,s.ee[m]? = some e→(S e=true ↔ m<k)
 H:HOk η B s.ents s.ee base N ρ0 h w0 S ρ w k hk
 unb:∀ j,j<N→(S j=false∨alOf s.ents j=none)→ρ (base+j)=none
 le:Env.le ρ0 ρ
 old:∀ r,r<base→ρ r=ρ0 r
 glob:GR P ρ
 fr:Fr ρ0 h w0 w
 low:B.n≤w.heap.size
section
variable {P:Program} {B:Bd} {nest:Nest} {ops:Array Oper} {base N n:Nat} {tm0:T Value} {h0:AH} {s:RS} {ρ0:Env} {h:AH} {w0:World} {S:Nat→Bool} {ρ:Env} {tmps:Array Value} {w:World} {k:Nat} {hk:AH}
theorem mkE_of{E:List Ent}{j:Nat}{x:Ent}(h:E[j]? = some x):mkE E j=x.mask:=by unfold mkE;rw [h];rfl
theorem alOf_of{E:List Ent}{j:Nat}{x:Ent}(h:E[j]? = some x):alOf E j=x.obj:=by unfold alOf;rw [h];rfl
theorem RInv.mask(G:Good P nest ops.toList base n tm0 h0 s)(I:RInv η P B s base N n tm0 ρ0 h w0 S ρ tmps w k hk):∀ (j:Nat) (x:Ent),s.ents[j]? = some x→(∀ e ∈ x.o.after.toList,Region.binds .any e=true→S e.on=true)→∀ m,x.mask.testBit m=true→S m=true:=by
 intro j
 induction j using Nat.strongRecOn with
 | _ j ih=>
  intro x hx hp m hm
  obtain⟨e,he,hb,hlt,hor⟩:=(G.ent j x hx).clo m hm
  have hse:=hp e he hb
  rcases hor with rfl | hor
  ·exact hse
  ·have hl:e.on<s.ents.length:=by have:=(List.getElem?_eq_some_iff.1 hx).1;omega
   have hz:s.ents[e.on]? = some s.ents[e.on]:=List.getElem?_eq_getElem hl
   rw [mkE_of hz] at hor
   exact ih e.on hlt _ hz (I.clo _ _ hz hse) m hor
theorem RInv.mask'(G:Good P nest ops.toList base n tm0 h0 s)(I:RInv η P B s base N n tm0 ρ0 h w0 S ρ tmps w k hk){j:Nat}{x:Ent}(hx:s.ents[j]? = some x)(hS:S j=true):∀ m,x.mask.testBit m=true→S m=true:=
 I.mask G j x hx (I.clo j x hx hS)
theorem RInv.not_merged(G:Good P nest ops.toList base n tm0 h0 s)(I:RInv η P B s base N n tm0 ρ0 h w0 S ρ tmps w k hk){i:Nat}(hi:S i=false):¬ Merged s.ents s.ee k i:=by
 rintro ⟨m,e,hm,he,hb⟩
 have hse:=(I.ks m e he).2 hm
 obtain⟨y,hy,_⟩:=G.effs m e he
 rw [mkE_of hy] at hb
 have:=I.mask' G hy hse i hb
 rw [hi] at this;cases this
theorem RInv.sub(I:RInv η P B s base N n tm0 ρ0 h w0 S ρ tmps w k hk){mask:Nat}{al:List (Nat × Nat × AObj)}(hal:AlIn s.ents s.ee base k al)(hm:∀ m,mask.testBit m=true→S m=true) :
  (∀ r a,(withAl mask hk al).objs.get r=some a→InS s.ents s.ee base S k hk r a)∧Pre η P ρ B (withAl mask hk al) w:=by
 have hin:∀ r a,(withAl mask hk al).objs.get r=some a→InS s.ents s.ee base S k hk r a:=by
  intro r a hg
  rcases withAl_get al hg with h1 | ⟨j,h1,h2⟩
  ·exact .inl h1
  ·obtain⟨e1,e2,e3⟩:=hal j r a h1
   exact .inr ⟨j,e1,e2,hm j h2,e3⟩
 refine⟨hin,⟨⟨fun r a hg=>I.H.obj r a (hin r a hg),fun r r' a a' b d m d' m' h1 h2=>I.H.inj r r' a a' b d m d' m' (hin _ _ h1) (hin _ _ h2),fun r a b d m hg=>I.H.sh r a b d m (hin r a hg)⟩,?_,I.glob,I.low⟩⟩
 intro r hr
 rw [withAl_next] at hr
 exact I.H.fresh r hr
theorem wr_agree(G:Good P nest ops.toList base n tm0 h0 s)(I:RInv η P B s base N n tm0 ρ0 h w0 S ρ tmps w k hk){i:Nat}{x:Ent}(hx:s.ents[i]? = some x)(hp:∀ e ∈ x.o.after.toList,Region.binds .any e=true→S e.on=true)(hi:S i=false){t:Tmp}(ht:t ∈ looks ops.toList x.o) :
  (tmS s.ents 0 S tm0).get t=x.tm.get t:=by
 rw [tmS_get,(G.ent i x hx).tm t]
 refine wr_congr fun j z hz hd=>?_
 rw [Nat.zero_add]
 have hil:i<s.ents.length:=(List.getElem?_eq_some_iff.1 hx).1
 rcases Nat.lt_trichotomy j i with hlt | rfl | hgt
 ·have hc:clash ops.toList z.o x.o=true:=by
   unfold clash;rw [hd];simp [ht]
  have:=I.mask G i x hx hp j ((G.ent i x hx).ord j z hlt hz hc)
  simp [this,hlt]
 ·simp [hi]
 ·have hc:clash ops.toList x.o z.o=true:=by
   unfold clash;rw [hd];simp [ht]
  have hb:=(G.ent j z hz).ord i x hgt hx hc
  have:S j=false:=by
   cases hS:S j with
   | false=>rfl
   | true=>have:=I.mask' G hz hS i hb;rw [hi] at this;cases this
  simp [this];omega
theorem eval_agree(G:Good P nest ops.toList base n tm0 h0 s)(I:RInv η P B s base N n tm0 ρ0 h w0 S ρ tmps w k hk){i:Nat}{x:Ent}(hx:s.ents[i]? = some x)(hp:∀ e ∈ x.o.after.toList,Region.binds .any e=true→S e.on=true)(hi:S i=false)(hok:okOps P x.o=true){fr:Frame}(hfr:fr.tmps=tmps) :
  ∀ y ∈ x.o.op.operands.toList,VR η ρ (evA x.tm y) (fr.eval y):=by
 intro y hy
 have hyo:=okOps_all hok y hy
 have:=evA_ok (P:=P) I.glob (fr:=fr) (by rw [hfr];exact I.tmr) hyo
 have e:evA (tmS s.ents 0 S tm0) y=evA x.tm y:=by
  cases y with
  | tmp t=>
   simp only [evA]
   rw [wr_agree G I hx hp hi (List.mem_append_left _ (List.mem_filterMap.2 ⟨.tmp t,hy,rfl⟩))]
  | _=>rfl
 rw [← e];exact this
theorem want_agree(G:Good P nest ops.toList base n tm0 h0 s)(I:RInv η P B s base N n tm0 ρ0 h w0 S ρ tmps w k hk){i:Nat}{x:Ent}(hx:s.ents[i]? = some x)(hp:∀ e ∈ x.o.after.toList,Region.binds .any e=true→S e.on=true)(hi:S i=false) :
  Region.wanted x.o (yielded ops tmps)=x.want:=by
 refine wanted_ok I.tmr ?_
 rw [← (G.ent i x hx).want]
 unfold wantedA
 cases hg:x.o.guard with
 | none=>rfl
 | some g=>
  obtain⟨j,want⟩:=g
  simp only []
  cases hd:(ops.toList[j]?).bind (·.dst) with
  | none=>rfl
  | some d=>
   simp only []
   rw [wr_agree G I hx hp hi (by
    unfold looks
    refine List.mem_append_right _ ?_
    rw [hg]
    simp only []
    rw [hd]
    simp)]
theorem tm_step(G:Good P nest ops.toList base n tm0 h0 s)(I:RInv η P B s base N n tm0 ρ0 h w0 S ρ tmps w k hk){i:Nat}{x:Ent}(hx:s.ents[i]? = some x)(hi:S i=false){ρ':Env}(hle:Env.le ρ ρ'){u:Value}(hv:VR η ρ' x.v u) :
  TR η ρ' (tmS s.ents 0 (fun j=>S j || j == i) tm0) n (setD tmps x.o.dst u):=by
 have key:∀ t,(tmS s.ents 0 (fun j=>S j || j == i) tm0).get t=if x.o.dst=some t then some x.v else(tmS s.ents 0 S tm0).get t:=by
  intro t
  rw [tmS_get,tmS_get]
  by_cases hd:x.o.dst=some t
  ·rw [if_pos hd]
   refine wr_last (j:=i) hx hd (by simp) fun j' z hj hz hdz=>?_
   rw [Nat.zero_add]
   have hc:clash ops.toList x.o z.o=true:=by
    unfold clash;rw [hd,hdz];simp
   have hb:=(G.ent j' z hz).ord i x hj hx hc
   have:S j'=false:=by
    cases hS:S j' with
    | false=>rfl
    | true=>have:=I.mask' G hz hS i hb;rw [hi] at this;cases this
   simp [this];omega
  ·rw [if_neg hd]
   refine wr_congr fun j z hz hdz=>?_
   rw [Nat.zero_add]
   have:j ≠ i:=fun e=>hd (by subst e;rw [hx] at hz;cases hz;exact hdz)
   simp [this]
 have ht:=I.tmr.mono hle
 cases hd:x.o.dst with
 | none=>
  exact TR.congr (fun t=>by rw [key t,hd];simp) ht
 | some d=>
  have hput:putT n (tmS s.ents 0 S tm0) (some d) x.v = .ok ((tmS s.ents 0 S tm0).set d x.v):=by
   simp only [putT];rw [if_pos ((G.ent i x hx).dst d hd)]
  refine TR.congr (fun t=>?_) (putT_ok hput ht hv)
  rw [key t,T.get_set,hd]
  by_cases e:t=d
  ·subst e;simp
  ·rw [if_neg e,if_neg (fun h=>e (by cases h;rfl))]
theorem ks_step(G:Good P nest ops.toList base n tm0 h0 s)(I:RInv η P B s base N n tm0 ρ0 h w0 S ρ tmps w k hk){i:Nat}{x:Ent}(hx:s.ents[i]? = some x)(hne:¬ (x.want=true∧x.kind = .effect)):∀ m e,s.ee[m]? = some e→((S e || e == i)=true ↔ m<k):=by
 intro m e he
 obtain⟨y,hy,hw,hkk⟩:=G.effs m e he
 have:e ≠ i:=fun h=>hne (by subst h;rw [hx] at hy;cases hy;exact⟨hw,hkk⟩)
 rw [← I.ks m e he]
 simp [this]
theorem clo_step(I:RInv η P B s base N n tm0 ρ0 h w0 S ρ tmps w k hk){i:Nat}{x:Ent}(hx:s.ents[i]? = some x)(hp:∀ e ∈ x.o.after.toList,Region.binds .any e=true→S e.on=true) :
  ∀ j y,s.ents[j]? = some y→(S j || j == i)=true→∀ e ∈ y.o.after.toList,Region.binds .any e=true→(S e.on || e.on == i)=true:=by
 intro j y hy hj e he hb
 by_cases hji:j=i
 ·subst hji;rw [hx] at hy;cases hy
  simp [hp e he hb]
 ·have:S j=true:=by simpa [hji] using hj
  simp [I.clo j y hy this e he hb]
theorem quiet_step(G:Good P nest ops.toList base n tm0 h0 s)(I:RInv η P B s base N n tm0 ρ0 h w0 S ρ tmps w k hk){i:Nat}{x:Ent}(hx:s.ents[i]? = some x)(hp:∀ e ∈ x.o.after.toList,Region.binds .any e=true→S e.on=true)(hi:S i=false)(hiN:i<N)
  (hobj:x.obj=none) (hne:¬ (x.want=true∧x.kind = .effect)) {u:Value} (hv:VR η ρ x.v u):RInv η P B s base N n tm0 ρ0 h w0 (fun j=>S j || j == i) ρ (setD tmps x.o.dst u) w k hk:=by
 have hin:∀ r a,InS s.ents s.ee base (fun j=>S j || j == i) k hk r a ↔ InS s.ents s.ee base S k hk r a:=by
  intro r a
  constructor
  ·rintro (h1 | ⟨j,h1,h2,h3,h4⟩)
   ·exact .inl h1
   ·refine .inr ⟨j,h1,h2,?_,h4⟩
    have:j ≠ i:=fun e=>by subst e;rw [alOf_of hx,hobj] at h2;cases h2
    simpa [this] using h3
  ·rintro (h1 | ⟨j,h1,h2,h3,h4⟩)
   ·exact .inl h1
   ·exact .inr ⟨j,h1,h2,by simp [h3],h4⟩
 have newq:∀ j a b d m,alOf s.ents j=some a→(S j || j == i)=true→¬ Merged s.ents s.ee k j→ρ (base+j)=some (b,d,m)→¬ B.S b:=by
  intro j a b d m h2 h3 h4
  have hji:j ≠ i:=fun e=>by subst e;rw [alOf_of hx,hobj] at h2;cases h2
  exact I.H.new j a b d m h2 (by simpa [hji] using h3) h4
 refine⟨clo_step I hx hp,fun j hj=>?_,tm_step G I hx hi (Env.le_refl _) hv,I.hhk,I.kle,ks_step G I hx hne,⟨fun r a h=>I.H.obj r a ((hin r a).1 h),fun r r' a a' b d m d' m' h1 h2=>I.H.inj r r' a a' b d m d' m' ((hin _ _).1 h1) ((hin _ _).1 h2),fun r a b d m h1=>I.H.sh r a b d m ((hin _ _).1 h1),newq,I.H.nx,I.H.fresh,I.H.abs,
  fun b ⟨r,a,d,m,h1,h2⟩=>I.H.own b ⟨r,a,d,m,(hin _ _).1 h1,h2⟩,fun b ⟨r,a,d,m,h1,h2⟩=>I.H.inn b ⟨r,a,d,m,(hin _ _).1 h1,h2⟩⟩,fun j hj hS=>I.unb j hj (hS.imp (fun h=>by simp at h;exact h.1) id),I.le,I.old,I.glob,I.fr,I.low⟩
 simp at hj
 rcases hj with hj | rfl
 ·exact I.lt j hj
 ·exact hiN
theorem alloc_step(G:Good P nest ops.toList base n tm0 h0 s)(I:RInv η P B s base N n tm0 ρ0 h w0 S ρ tmps w k hk){i:Nat}{x:Ent}(hx:s.ents[i]? = some x)(hp:∀ e ∈ x.o.after.toList,Region.binds .any e=true→S e.on=true)(hi:S i=false)(hiN:i<N)
  {b:AObj} (hobj:x.obj=some b) (hown:ownO b=true) (hne:¬ (x.want=true∧x.kind = .effect)) {u:Value} {w':World} {ob:Obj} {nn:Nat} (hpush:Pushed w w' ob)
  (hv:VR η (ρ.put (base+i) (w.heap.size,0,nn)) x.v u) (hO:OR η (ρ.put (base+i) (w.heap.size,0,nn)) b 0 nn ob) :
  RInv η P B s base N n tm0 ρ0 h w0 (fun j=>S j || j == i) (ρ.put (base+i) (w.heap.size,0,nn)) (setD tmps x.o.dst u) w' k hk:=by
 have hnone:=I.unb i hiN (.inl hi)
 have hle:=Env.le_put (t:=(w.heap.size,0,nn)) hnone
 have hin:∀ r a,InS s.ents s.ee base (fun j=>S j || j == i) k hk r a→(r=base+i∧a=b)∨(r ≠ base+i∧InS s.ents s.ee base S k hk r a):=by
  intro r a
  rintro (h1 | ⟨j,h1,h2,h3,h4⟩)
  ·refine .inr ⟨fun e=>?_,.inl h1⟩
   subst e
   rw [I.H.abs i hiN (I.not_merged G hi)] at h1;cases h1
  ·by_cases e:j=i
   ·subst e
    rw [alOf_of hx,hobj] at h2;cases h2
    exact .inl ⟨h1,rfl⟩
   ·exact .inr ⟨by omega,.inr ⟨j,h1,h2,by simpa [e] using h3,h4⟩⟩
 have blt:∀ r a b' d m,InS s.ents s.ee base S k hk r a→ρ r=some (b',d,m)→b'<w.heap.size:=by
  intro r a b' d m h1 h2
  obtain⟨b2,d2,m2,o,e1,e2,_⟩:=I.H.obj r a h1
  rw [h2] at e1;cases e1
  exact heap_lt e2
 have hfr:Fr ρ0 h w0 w':=by
  refine⟨hpush.os.trans I.fr.os,hpush.tape.trans I.fr.tape,hpush.output.trans I.fr.output,by rw [hpush.heap];have:=I.fr.size;simp;omega,fun k2 hk2 hno=>?_⟩
  rw [pushed_old hpush (Nat.lt_of_lt_of_le hk2 I.fr.size)]
  exact I.fr.kept k2 hk2 hno
 refine⟨clo_step I hx hp,fun j hj=>?_,tm_step G I hx hi hle hv,I.hhk,I.kle,ks_step G I hx hne,⟨?_,?_,?_,?_,I.H.nx,?_,I.H.abs,?_,?_⟩,?_,Env.le_trans I.le hle,?_,I.glob.mono hle,hfr,?_⟩
 ·simp at hj
  rcases hj with hj | rfl
  ·exact I.lt j hj
  ·exact hiN
 ·intro r a h
  rcases hin r a h with⟨rfl,rfl⟩ | ⟨hr,h⟩
  ·exact⟨_,_,_,ob,Env.put_at _ _ _,pushed_new hpush,hO,fun _=>I.low⟩
  ·obtain⟨b2,d2,m2,o,e1,e2,e3,e4⟩:=I.H.obj r a h
   exact⟨b2,d2,m2,o,hle _ _ e1,by rw [pushed_old hpush (heap_lt e2)];exact e2,e3.mono hle,e4⟩
 ·intro r r' a a' b2 d m d' m' h1 h2 e1 e2
  rcases hin r a h1 with⟨rfl,rfl⟩ | ⟨hr,h1⟩
  ·rcases hin r' a' h2 with⟨rfl,rfl⟩ | ⟨hr',h2⟩
   ·exact .inl rfl
   ·rw [Env.put_at] at e1;cases e1
    rw [Env.put_ne _ _ hr'] at e2
    exact absurd (blt _ _ _ _ _ h2 e2) (Nat.lt_irrefl _)
  ·rw [Env.put_ne _ _ hr] at e1
   rcases hin r' a' h2 with⟨rfl,rfl⟩ | ⟨hr',h2⟩
   ·rw [Env.put_at] at e2;cases e2
    exact absurd (blt _ _ _ _ _ h1 e1) (Nat.lt_irrefl _)
   ·rw [Env.put_ne _ _ hr'] at e2
    exact I.H.inj r r' a a' b2 d m d' m' h1 h2 e1 e2
 ·intro r a b2 d m h1 e1 hS
  rcases hin r a h1 with⟨rfl,rfl⟩ | ⟨hr,h1⟩
  ·rw [Env.put_at] at e1;cases e1
   have:=B.lt _ hS
   have:=I.low
   omega
  ·rw [Env.put_ne _ _ hr] at e1
   exact I.H.sh r a b2 d m h1 e1 hS
 ·intro j a b2 d m h2 h3 h4 e1 hS
  by_cases e:j=i
  ·subst e
   rw [Env.put_at] at e1;cases e1
   have:=B.lt _ hS
   have:=I.low
   omega
  ·rw [Env.put_ne _ _ (by omega)] at e1
   exact I.H.new j a b2 d m h2 (by simpa [e] using h3) h4 e1 hS
 ·intro r hr
  have:=I.H.nx
  rw [Env.put_ne _ _ (by omega)]
  exact I.H.fresh r hr
 ·rintro b2 ⟨r,a,d,m,h1,h2,h3⟩
  rcases hin r a h1 with⟨rfl,rfl⟩ | ⟨hr,h1⟩
  ·rw [Env.put_at] at h3;cases h3
   exact .inr I.fr.size
  ·rw [Env.put_ne _ _ hr] at h3
   exact I.H.own b2 ⟨r,a,d,m,h1,h2,h3⟩
 ·rintro b2 ⟨r,a,d,m,h1,h3⟩
  rcases hin r a h1 with⟨rfl,rfl⟩ | ⟨hr,h1⟩
  ·rw [Env.put_at] at h3;cases h3
   exact .inr I.fr.size
  ·rw [Env.put_ne _ _ hr] at h3
   exact I.H.inn b2 ⟨r,a,d,m,h1,h3⟩
 ·intro j hj hS
  have hji:j ≠ i:=fun e=>by
   subst e
   rcases hS with hS | hS
   ·simp at hS
   ·rw [alOf_of hx,hobj] at hS;cases hS
  rw [Env.put_ne _ _ (by omega)]
  exact I.unb j hj (hS.imp (fun h=>by simp at h;exact h.1) id)
 ·intro r hr
  rw [Env.put_ne _ _ (by omega)]
  exact I.old r hr
 ·have:=I.low
  rw [hpush.heap];simp;omega
theorem effect_step(G:Good P nest ops.toList base n tm0 h0 s)(I:RInv η P B s base N n tm0 ρ0 h w0 S ρ tmps w k hk){i:Nat}{x:Ent}(hx:s.ents[i]? = some x)(hp:∀ e ∈ x.o.after.toList,Region.binds .any e=true→S e.on=true)(hi:S i=false)(hiN:i<N)(hobj:x.obj=none)
  (hek:s.ee[k]? = some i) {hk':AH} (hhk':s.hh[k+1]? = some hk') {al:List (Nat × Nat × AObj)} (hal:AlIn s.ents s.ee base k al) {ρ':Env} {w':World} (hpost:Post η ρ B (withAl x.mask hk al) w ρ' hk' w') {u:Value} (hv:VR η ρ' x.v u) :
  RInv η P B s base N n tm0 ρ0 h w0 (fun j=>S j || j == i) ρ' (setD tmps x.o.dst u) w' (k+1) hk':=by
 obtain⟨hsub,hpre⟩:=I.sub hal (I.mask G i x hx hp)
 have mstep:∀ j,Merged s.ents s.ee (k+1) j ↔ Merged s.ents s.ee k j∨x.mask.testBit j=true:=by
  intro j
  constructor
  ·rintro ⟨m,e,hm,he,hb⟩
   rcases Nat.lt_or_ge m k with hlt | hge
   ·exact .inl ⟨m,e,hlt,he,hb⟩
   ·have:m=k:=by omega
    subst this
    rw [hek] at he;cases he
    rw [mkE_of hx] at hb
    exact .inr hb
  ·rintro (⟨m,e,hm,he,hb⟩ | hb)
   ·exact⟨m,e,by omega,he,hb⟩
   ·exact⟨k,i,by omega,hek,by rw [mkE_of hx];exact hb⟩
 have blt:∀ r a b' d m,InS s.ents s.ee base S k hk r a→ρ r=some (b',d,m)→b'<w.heap.size:=by
  intro r a b' d m h1 h2
  obtain⟨b2,d2,m2,o,e1,e2,_⟩:=I.H.obj r a h1
  rw [h2] at e1;cases e1
  exact heap_lt e2
 have hnx:(withAl x.mask hk al).next=hk.next:=withAl_next al
  -- what is left of the blocks made
 have rest:∀ r a,InS s.ents s.ee base (fun j=>S j || j == i) (k+1) hk' r a→hk'.objs.get r=some a∨(∃ j,r=base+j∧S j=true∧InS s.ents s.ee base S k hk r a∧¬ Merged s.ents s.ee (k+1) j):=by
  rintro r a (h1 | ⟨j,h1,h2,h3,h4⟩)
  ·exact .inl h1
  ·have hji:j ≠ i:=fun e=>by subst e;rw [alOf_of hx,hobj] at h2;cases h2
   have hS:S j=true:=by simpa [hji] using h3
   exact .inr ⟨j,h1,hS,.inr ⟨j,h1,h2,hS,fun hm=>h4 ((mstep j).2 (.inl hm))⟩,h4⟩
  -- they are not in the part that the effect saw
 have nosub:∀ j a,j<N→¬ Merged s.ents s.ee (k+1) j→(withAl x.mask hk al).objs.get (base+j) ≠ some a:=by
  intro j a hj hnm hg
  rcases withAl_get al hg with h1 | ⟨j',h1,h2⟩
  ·rw [I.H.abs j hj (fun hm=>hnm ((mstep j).2 (.inl hm)))] at h1;cases h1
  ·obtain⟨e1,_,_⟩:=hal j' _ _ h1
   have:j'=j:=by omega
   subst this
   exact hnm ((mstep j').2 (.inr h2))
 have hroom:=I.H.nx
  -- a block of the rest is none of those behind the effect
 have nsh:∀ j a b d m,S j=true→InS s.ents s.ee base S k hk (base+j) a→¬ Merged s.ents s.ee (k+1) j→ρ (base+j)=some (b,d,m)→¬ B.S b:=by
  intro j a b d m hS hI hnm e1
  rcases hI with h1 | ⟨j',e,h2,h3,h4⟩
  ·rw [I.H.abs j (I.lt j hS) (fun hm=>hnm ((mstep j).2 (.inl hm)))] at h1;cases h1
  ·have:j'=j:=by omega
   subst this
   exact I.H.new j' a b d m h2 h3 h4 e1
 have apart:∀ j a r2 a2 b d m d2 m2,S j=true→InS s.ents s.ee base S k hk (base+j) a→¬ Merged s.ents s.ee (k+1) j→hk'.objs.get r2=some a2→ρ (base+j)=some (b,d,m)→ρ' r2=some (b,d2,m2)→False:=by
  intro j a r2 a2 b d m d2 m2 hS hI hnm hg e1 e2
  rcases hpost.inn b ⟨r2,a2,d2,m2,hg,e2⟩ with⟨r3,a3,d3,m3,hg3,e3⟩ | hge
  ·have:=(I.H.inj _ _ _ _ _ _ _ _ _ (hsub r3 a3 hg3) hI e3 e1).resolve_right (nsh j a b d m hS hI hnm e1)
   subst this
   exact nosub j a3 (I.lt j hS) hnm hg3
  ·have:=blt _ _ _ _ _ hI e1
   omega
 have hold:∀ j,j<N→ρ' (base+j)=ρ (base+j):=fun j hj=>hpost.old _ (by rw [hnx];omega)
 have hOwn:OwnIn ρ0 ρ h (withAl x.mask hk al) w0:=by
  rintro b ⟨r,a,d,m,h1,h2,h3⟩
  exact I.H.own b ⟨r,a,d,m,hsub r a h1,h2,h3⟩
 refine⟨clo_step I hx hp,fun j hj=>?_,tm_step G I hx hi hpost.le hv,hhk',by have:=(List.getElem?_eq_some_iff.1 hek).1;omega,?_,⟨?_,?_,?_,?_,?_,hpost.fresh,?_,?_,?_⟩,?_,Env.le_trans I.le hpost.le,?_,I.glob.mono hpost.le,I.fr.trans hOwn hpost.fr,Nat.le_trans I.low hpost.fr.size⟩
 ·simp at hj
  rcases hj with hj | rfl
  ·exact I.lt j hj
  ·exact hiN
 ·intro m e he
  by_cases hm:m=k
  ·subst hm
   rw [hek] at he;cases he
   simp
  ·have hne:e ≠ i:=by
    intro hei;subst hei
    rcases Nat.lt_trichotomy m k with hlt | h2 | hgt
    ·exact absurd (G.inc m k e e hlt he hek) (Nat.lt_irrefl _)
    ·exact hm h2
    ·exact absurd (G.inc k m e e hgt hek he) (Nat.lt_irrefl _)
   have:=I.ks m e he
   simp only [hne,beq_iff_eq,Bool.or_eq_true,or_false]
   rw [this];omega
 ·intro r a hI
  rcases rest r a hI with h1 | ⟨j,rfl,hS,h1,hnm⟩
  ·obtain⟨b,d,m,o,e1,e2,e3,e4⟩:=hpost.hr.obj r a h1
   exact⟨b,d,m,o,e1,e2,e3,e4⟩
  ·obtain⟨b,d,m,o,e1,e2,e3,e4⟩:=I.H.obj _ a h1
   refine⟨b,d,m,o,hpost.le _ _ e1,?_,e3.mono hpost.le,e4⟩
   rw [hpost.fr.kept b (heap_lt e2) ?_]
   ·exact e2
   ·rintro ⟨r3,a3,d3,m3,h3,_,e5⟩
    have:=(I.H.inj _ _ _ _ _ _ _ _ _ (hsub r3 a3 h3) h1 e5 e1).resolve_right (nsh j a b d m hS h1 hnm e1)
    subst this
    exact nosub j a3 (I.lt j hS) hnm h3
 ·intro r r' a a' b d m d' m' h1 h2 e1 e2
  rcases rest r a h1 with h1 | ⟨j,rfl,hS,h1,hnm⟩
  ·rcases rest r' a' h2 with h2 | ⟨j',rfl,hS',h2,hnm'⟩
   ·exact hpost.hr.inj r r' a a' b d m d' m' h1 h2 e1 e2
   ·rw [hold j' (I.lt j' hS')] at e2
    exact(apart j' a' r a b d' m' d m hS' h2 hnm' h1 e2 e1).elim
  ·rw [hold j (I.lt j hS)] at e1
   rcases rest r' a' h2 with h2 | ⟨j',rfl,hS',h2,hnm'⟩
   ·exact(apart j a r' a' b d m d' m' hS h1 hnm h2 e1 e2).elim
   ·rw [hold j' (I.lt j' hS')] at e2
    exact I.H.inj _ _ _ _ _ _ _ _ _ h1 h2 e1 e2
 ·intro r a b d m hI e1 hS
  rcases rest r a hI with h1 | ⟨j,rfl,hSj,h1,hnm⟩
  ·exact hpost.hr.sh r a b d m h1 e1 hS
  ·rw [hold j (I.lt j hSj)] at e1
   exact I.H.sh _ a b d m h1 e1 hS
 ·intro j a b d m h2 h3 h4 e1
  have hji:j ≠ i:=fun e=>by subst e;rw [alOf_of hx,hobj] at h2;cases h2
  have hSj:S j=true:=by simpa [hji] using h3
  rw [hold j (I.lt j hSj)] at e1
  exact I.H.new j a b d m h2 hSj (fun hm=>h4 ((mstep j).2 (.inl hm))) e1
 ·have:=hpost.next
  rw [hnx] at this;omega
 ·intro j hj hnm
  cases hg:hk'.objs.get (base+j) with
  | none=>rfl
  | some a=>
   exfalso
   obtain⟨b,d,m,o,e1,e2,_⟩:=hpost.hr.obj _ a hg
   have e1':=e1
   rw [hold j hj] at e1'
      -- its number was bound before: it is that of a block made
   have hS:S j=true:=by
    cases hS:S j with
    | true=>rfl
    | false=>rw [I.unb j hj (.inl hS)] at e1';cases e1'
   cases hal3:alOf s.ents j with
   | none=>rw [I.unb j hj (.inr hal3)] at e1';cases e1'
   | some c=>
    have hI:InS s.ents s.ee base S k hk (base+j) c:=.inr ⟨j,rfl,hal3,hS,fun hm=>hnm ((mstep j).2 (.inl hm))⟩
    rcases hpost.inn b ⟨base+j,a,d,m,hg,e1⟩ with⟨r3,a3,d3,m3,hg3,e3⟩ | hge
    ·have:=(I.H.inj _ _ _ _ _ _ _ _ _ (hsub r3 a3 hg3) hI e3 e1').resolve_right (nsh j c b d m hS hI hnm e1')
     subst this
     exact nosub j a3 hj hnm hg3
    ·have:=blt _ _ _ _ _ hI e1'
     omega
 ·rintro b ⟨r,a,d,m,h1,h2,h3⟩
  rcases rest r a h1 with h1 | ⟨j,rfl,hS,h1,hnm⟩
  ·rcases hpost.own b ⟨r,a,d,m,h1,h2,h3⟩ with⟨r3,a3,d3,m3,h4,h5,h6⟩ | hge
   ·exact I.H.own b ⟨r3,a3,d3,m3,hsub _ _ h4,h5,h6⟩
   ·have:=I.fr.size;exact .inr (by omega)
  ·rw [hold j (I.lt j hS)] at h3
   exact I.H.own b ⟨_,a,d,m,h1,h2,h3⟩
 ·rintro b ⟨r,a,d,m,h1,h3⟩
  rcases rest r a h1 with h1 | ⟨j,rfl,hS,h1,hnm⟩
  ·rcases hpost.inn b ⟨r,a,d,m,h1,h3⟩ with⟨r3,a3,d3,m3,h4,h6⟩ | hge
   ·exact I.H.inn b ⟨r3,a3,d3,m3,hsub _ _ h4,h6⟩
   ·have:=I.fr.size;exact .inr (by omega)
  ·rw [hold j (I.lt j hS)] at h3
   exact I.H.inn b ⟨_,a,d,m,h1,h3⟩
 ·intro j hj hS
  rw [hold j hj]
  exact I.unb j hj (hS.imp (fun h=>by simp at h;exact h.1) id)
 ·intro r hr
  have h1:=I.old r hr
  rw [hpost.old r (by rw [hnx];omega)]
  exact h1
end
end Go.Ev

