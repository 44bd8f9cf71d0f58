/- HashesLeaves: row, card. -/
import Derived.Test.YtecamcpifkibkaaDoorHLvsC8
import Derived.Test.YtecamcpifkibkaaDoorCards
import Derived.Test.YtecamcpifkibkaaDoorTie
import Derived.Test.YtecamcpifkibkaaDoorHashesLeavesFacts
import Derived.ChangeSame
import Derived.Carry
import Derived.WalkKit
import Derived.ProofKit
import Derived.OpenShut
import Derived.Below
import Derived.ChangeMaps5
import Derived.ChangeShapes
import Derived.Deep.DeepHandedRow
import Derived.Lib.LaidU8
import Derived.MapViews
import Derived.DeepKeys2
import Derived.LaidLaws
namespace Go.Proofs.YtecamcpifkibkaaDoor.hashesLeaves
set_option linter.unusedVariables false
set_option linter.unusedSimpArgs false
set_option maxRecDepth 100000
open Go.Ev (NoLie RArg TabAtP open_row1 open_row2 prs slice_okWide struct_cell wf_u8)
open Go.ChangeShapes Go.WideShapes Go.ChangeAt Go.RowKit Go.ChangeMaps
theorem own:ownKnob Tryd.prog.godebug=none:=by kernel_rfl
theorem laidOut:laidOutB Tryd.prog=true:=by kernel_rfl
theorem var_lits{P:Program}{W:World}{name:String}{d:DataW Unit}{l:List Lit}{g:Nat}{t:TypeId}{m:Nat}(h:Lib.VarReads P W name d)(hg:P.globalNamed name=some g)
  (hty:(P.globals[g]?).map (·.type)=some t) (hk:P.keyTypeAt m t=true) (ht:P.tiled m t=true) (hl:d.flat=l):W.var? P name=some (l.map Lit.toCell).toArray:=by
 obtain⟨g',t',cs,fuel,p,hg',ht',hv,hd⟩:=h
 obtain rfl:=Option.some.inj (hg.symm.trans hg')
 obtain rfl:=Option.some.inj (hty.symm.trans ht')
 have h1:=(keyLits_of_trod m t hk fuel cs.toList (d,p) hd).1
 rw [hl] at h1
 have h2:=cells_of_lits m t ht m cs.toList l h1
 rw [hv,← h2]
theorem tabRow0:((begin Tryd.prog (fun _ _=>0) default).world.heap[0]?).bind Obj.row? = some (Array.replicate 20 (.int .u64 0),115):=by kernel_rfl
theorem in0:("internal/strconv.uint64pow10",Rows.laid_internal_strconv_uint64pow10) ∈ Rows.hashesLeavesRow.laid:=List.mem_of_getElem? (i:=2) rfl
theorem tabs{W:World}(h:laidMetH Tryd.prog Rows.hashesLeavesRow.laid W)(hS:W.ShapedOpen Tryd.prog):∀ x ∈ Go.Ev.RG.tabR,TabAtP (fun _=>.nilIface) Tryd.prog W x:=by
 have h':laidMet Tryd.prog Rows.hashesLeavesRow.laid W:=h
 have r0:Lib.VarReads Tryd.prog W "internal/strconv.uint64pow10" Rows.laid_internal_strconv_uint64pow10:=Lib.laidMet.reads h' in0
 have v0:=var_lits (m:=8) r0 (g:=0) (t:=115) (by kernel_rfl) (by kernel_rfl) (by kernel_rfl) (by kernel_rfl) (l:=_) rfl
 intro x hx
 unfold Go.Ev.RG.tabR at hx
 rw [List.mem_singleton] at hx
 subst hx
 exact TabAtP.lits hS tabRow0 (of_decide_eq_true (by kernel_rfl)) (name:= "internal/strconv.uint64pow10") (by kernel_rfl) (v0.trans (by kernel_rfl)) (by kernel_rfl)
theorem noS:NoLie Tryd.prog 115 9:=by refine NoLie.of Tryd.underlying115 Tryd.underlying43 ?_ ?_ ?_<;>kernel_rfl
theorem noI:NoLie Tryd.prog 115 3:=by refine NoLie.of Tryd.underlying115 Tryd.underlying43 ?_ ?_ ?_<;>kernel_rfl
theorem noP:NoLie Tryd.prog 115 55:=by refine NoLie.of Tryd.underlying115 Tryd.underlying43 ?_ ?_ ?_<;>kernel_rfl
theorem open_ring{H:Type}{enc:TypeId × Value→H}{W:World}{r:Reach}{b0 base:Nat}{sp:Nat→Bool}{held:Bool}{v:Value}{d:DataW H}{ps:List MemPlace}
  (hval:Value.okWide Tryd.prog W r b0 26 v) (h:DataW.Trod enc Tryd.prog W base sp held 26 v d ps) :
  ∃ w0 w1 w2 k n c n' c' l,v = .agg ⟨[w0,w1,.int .i64 k,w2]⟩∧(RArg 115 W w0 n c∧c.length=n∧∀ u,u ∈ c→∃ s,u = .string s)∧(RArg 115 W w1 n' c'∧c'.length=n'∧∀ u,u ∈ c'→∃ z,u = .int .i64 z)∧RArg 115 W w2 l.length (prs (fun p:Int × Int=>.int .u32 p.1) (fun p=>.int .i64 p.2) l):=by
 have hu:=Tryd.underlying26
 obtain⟨cs,rfl,hsz⟩:=okWide_struct hu hval
 have h2:Tryd.prog.cellsOf 26=4:=by kernel_rfl
 rw [h2] at hsz
 obtain⟨c0,c1,c2,c3,rfl⟩:∃ c0 c1 c2 c3,cs=#[c0,c1,c2,c3]:=by
  obtain⟨l⟩:=cs
  match l,hsz with
  | [c0,c1,c2,c3],_=>exact⟨c0,c1,c2,c3,rfl⟩
 have hts:Tryd.prog.cellTypes Tryd.prog.depth 26=some [22,23,3,24]:=by kernel_rfl
 have k0:=slice_okWide Tryd.underlying22 (struct_cell (i:=0) hu hts hval rfl rfl rfl)
 have k1:=slice_okWide Tryd.underlying23 (struct_cell (i:=1) hu hts hval rfl rfl rfl)
 have k3:=slice_okWide Tryd.underlying24 (struct_cell (i:=3) hu hts hval rfl rfl rfl)
 obtain⟨fuel,hf⟩:=h
 obtain⟨xs,m,_,_,_,hxl,hg⟩:=DataW.trod_struct hu hf
 have hl4:xs.length=4:=hxl
 have g0:=hg 0 _ rfl
 have g1:=hg 1 _ rfl
 have g2:=hg 2 _ rfl
 have g3:=hg 3 _ rfl
 rw [List.getElem?_eq_getElem (by omega)] at g0 g1 g2 g3
 have t0:DataW.trod enc Tryd.prog W base sp held m 22 [c0]=some xs[0]:=g0
 have t1:DataW.trod enc Tryd.prog W base sp held m 23 [c1]=some xs[1]:=g1
 have t2:DataW.trod enc Tryd.prog W base sp held m 3 [c2]=some xs[2]:=g2
 have t3:DataW.trod enc Tryd.prog W base sp held m 24 [c3]=some xs[3]:=g3
 obtain⟨k,ek,_,_⟩:=DataW.trod_int Tryd.underlying3 t2
 have ek:c2 = .int .i64 k:=by simpa using ek
 subst ek
 have cellsOf1:∀ {v:Value} {t e:TypeId} {x:DataW H × List MemPlace},Value.okWide Tryd.prog W r b0 t v→Tryd.prog.underlying t=some (.slice e)→DataW.trod enc Tryd.prog W base sp held m t [v]=some x→DataW.Trod enc Tryd.prog W base sp held t v x.1 x.2:=fun {v t e x} ho hs ht=>by
  obtain⟨p,n,c,rfl⟩:=okWide_slice hs ho
  exact⟨m,ht⟩
 obtain⟨n,c,a1,a2,a3⟩:=open_row1 (T:=115) (Q:=fun u=>∃ s,u = .string s) Tryd.underlying22 (by kernel_rfl) noS (fun fuel u x q=>by obtain⟨s,e,_⟩:=DataW.trod_string Tryd.underlying9 q;exact⟨s,by simpa using e⟩) (fun u q=>by obtain⟨s,rfl⟩:=q;rfl) k0 (cellsOf1 k0 Tryd.underlying22 t0)
 obtain⟨n',c',b1,b2,b3⟩:=open_row1 (T:=115) (Q:=fun u=>∃ z,u = .int .i64 z) Tryd.underlying23 (by kernel_rfl) noI (fun fuel u x q=>by obtain⟨s,e,_⟩:=DataW.trod_int Tryd.underlying3 q;exact⟨s,by simpa using e⟩) (fun u q=>by obtain⟨s,rfl⟩:=q;rfl) k1 (cellsOf1 k1 Tryd.underlying23 t1)
 obtain⟨l,l1⟩:=open_row2 (T:=115) (f:=fun p:Int × Int=>.int .u32 p.1) (g:=fun p=>.int .i64 p.2) Tryd.underlying24 Tryd.underlying55 rfl rfl (by kernel_rfl) (by kernel_rfl) (by kernel_rfl) noP
  (fun fuel u x u' x' q q'=>by
   obtain⟨y,e,_⟩:=DataW.trod_int Tryd.underlying47 q
   obtain⟨z,e',_⟩:=DataW.trod_int Tryd.underlying3 q'
   exact⟨(y,z),by simpa using e,by simpa using e'⟩) (fun _=>rfl) (fun _=>rfl) k3 (cellsOf1 k3 Tryd.underlying24 t3)
 exact⟨c0,c1,c3,k,n,c,n',c',l,rfl,⟨a1,a2,a3⟩,⟨b1,b2,b3⟩,l1⟩
theorem contract(H:Type)(enc:TypeId × Value→H)(W:World)(base:Nat)(args:Array Value)(ds gs:List (DataW H))(before:List MemPlace)
  (hval:∀ (j:Nat) t v,Tryd.f3.params[j]? = some t→args[j]? = some v→Value.okWide Tryd.prog W .any base t v)
  (hW:DataW.Whole enc Tryd.prog Tryd.f3.params.toList Rows.hashesLeavesSpec.vars false W args.toList ds gs before) (hL:laidMetH Tryd.prog Rows.hashesLeavesRow.laid W) (hS:W.ShapedOpen Tryd.prog) :
  Calls Tryd.prog 3 args W fun e W'=>∃ v,e = .returned v∧Rows.hashesLeavesSpec.post enc Tryd.prog Tryd.f3 false true false false W args v W':=by
 have hW':=hW
 obtain⟨p,q,hA0,hV,rfl,hfz,hnd⟩:=hW
 have hA:DataW.TrodAll enc Tryd.prog W 0 (fun _=>true) true Tryd.f3.params.toList args.toList ds p:=hA0
 rw [Tryd.params3] at hA hval
 obtain⟨v0,vs0,d0,ds0,p0,q0,hargs,rfl,rfl,h0,r0⟩:=trodAll_cons hA
 obtain⟨v1,vs1,d1,ds1,p1,q1,rfl,rfl,rfl,h1,r1⟩:=trodAll_cons r0
 obtain⟨v2,vs2,d2,ds2,p2,q2,rfl,rfl,rfl,h2,r2⟩:=trodAll_cons r1
 obtain⟨rfl,rfl,rfl⟩:=trodAll_nil r2
 obtain rfl:args=#[v0,v1,v2]:=by cases args;simp_all
 obtain⟨rfl,rfl⟩:=trodVars_none hV
 obtain⟨w0,w1,w2,k,n,c,n',c',l,ev0,⟨a1,a2,a3⟩,⟨b1,b2,b3⟩,l1⟩:=open_ring (hval 0 26 v0 rfl rfl) h0
 obtain⟨xb,rfl,rfl,rfl,hx⟩:=open_int Tryd.underlying5 (hval 1 5 v1 rfl rfl) h1
 obtain⟨nk,c3,g1,g2,g3⟩:=open_row1 (T:=115) (Q:=fun u=>∃ s,u = .string s) Tryd.underlying22 (by kernel_rfl) noS (fun fuel u x q=>by obtain⟨s,e,_⟩:=DataW.trod_string Tryd.underlying9 q;exact⟨s,by simpa using e⟩) (fun u q=>by obtain⟨s,rfl⟩:=q;rfl) (hval 2 22 v2 rfl rfl) h2
 have key:=Go.Ev.RG.leave_row (k:=k) Tryd.checked.mixed (tabs hL hS) a1 a2 a3 b1 b2 b3 l1 g1 g2 g3 (wf_u8 hx)
 rw [← ev0] at key
 refine key.mono fun e W' ⟨he,hb⟩=>?_
 subst he
 have hlt:=hW'.lt
 refine⟨_,rfl,_,_,_,[],p0 ++ ([] ++ (p2 ++ [])),[],hW',?_,?_,rfl,hb.frame _,fun h=>by cases h⟩
 ·exact trodAll_cons_mk (shut_bool Tryd.underlying4 _) trodAll_mk0
 ·exact trodAll_cons_mk (Below.trod (t:=26) laidOut (by kernel_rfl) (of_decide_eq_true (by kernel_rfl)) h0 hb (fun x hx=>hlt x (by simp [hx]))) (trodAll_cons_mk (shut_int Tryd.underlying5 hx) (trodAll_cons_mk (Below.trod (t:=22) laidOut (by kernel_rfl) (of_decide_eq_true (by kernel_rfl)) h2 hb (fun x hx=>hlt x (by simp [hx]))) trodAll_mk0))
def cellsOf(d:DataW Unit):Array Value:=(d.flat.map Lit.toCell).toArray
noncomputable def low:Nat:=(World.holding Tryd.prog default ⟨#[],#[],[]⟩).heap.size
def lay(h:Array Obj)(g:Nat)(cs:Array Value):Array Obj:=h.modify g fun
 | .cells _ t frozen=>.cells cs t frozen
 | o=>o
noncomputable def laidWorld(os:Os):World:=
 let w0:=World.holding Tryd.prog os ⟨#[],#[],[]⟩
 { w0 with heap:=(lay (lay (lay w0.heap 1 (cellsOf Rows.laid_math_bits_deBruijn32tab)) 2 (cellsOf Rows.laid_math_bits_deBruijn64tab)) 0 (cellsOf Rows.laid_internal_strconv_uint64pow10)) }
def args0:Array Value:=#[.agg #[.slice none 0 0,.slice none 0 0,.int .i64 0,.slice none 0 0],.int .u8 0,.slice none 0 0]
theorem laid_met(os:Os):laidMet Tryd.prog Rows.hashesLeavesRow.laid ((laidWorld os).forCall (fun _ _=>0) ⟨#[],args0,[]⟩).memory:=
 laidMet_of_run' 8 (by kernel_rfl) (by kernel_rfl)
theorem reads(os:Os){H:Type}(enc:TypeId × Value→H):∃ places,DataW.whole enc Tryd.prog ((laidWorld os).forCall (fun _ _=>0) ⟨#[],args0,[]⟩).memory Tryd.f3.params.toList Rows.hashesLeavesSpec.vars false args0.toList 8=some ([.agg [.nil,.nil,.lit (.int .i64 0),.nil],.lit (.int .u8 0),.nil],[],places):=
 ⟨[],by kernel_rfl⟩
theorem lifted(os:Os)(started:os.Started)(H:Type)(enc:TypeId × Value→H)(F:Stop.Interp) :
  ReturnsInHanded {} Tryd.checked os 3 .any ((OpenSpec.ofChange Rows.hashesLeavesSpec).preRow enc Tryd.prog Tryd.f3 Rows.hashesLeavesRow.domain false Rows.hashesLeavesRow.laid) (((OpenSpec.ofChange Rows.hashesLeavesSpec).at F).post enc Tryd.prog Tryd.f3 false true false false):=by
 obtain⟨places,hx⟩:=reads os enc
 refine returnsInHanded_of_row (C:=Tryd.checked) (s:=OpenSpec.ofChange Rows.hashesLeavesSpec) own started (by kernel_rfl) Tryd.func3
  (witness_row_at (enc:=enc) (C:=Tryd.checked) false (laidWorld os) args0 rfl (by kernel_rfl) (by kernel_rfl) (by kernel_rfl)
   (OpenSpec.preRow_of_cond 8 hx (by kernel_rfl) (fun k hk=>by cases hk) (by kernel_rfl) (laid_met os))) ?_
 intro W base args ds gs before hval hW _ _ _ hL hS _
 exact contract H enc W base args ds gs before hval hW hL hS
theorem said:Rows.HashesLeavesSaid:=
 OpenClaim.holds_of_cond 3 Tryd.f3 rfl rfl rfl rfl rfl rfl rfl ⟨rfl,rfl,rfl,rfl,rfl⟩ rfl rfl rfl rfl rfl (by kernel_rfl) Tryd.func3 facts
  (of_decide_eq_true (by kernel_rfl)) (by unfold Func.isWrapper;first | (rw [if_pos (by decide +kernel)];kernel_rfl) | (rw [if_neg (by decide +kernel)];exact⟨rfl,rfl⟩))
  (fun os started H enc _ F=>by rw [OpenClaim.pre_eq_preRow];exact lifted os started H enc F)
theorem plain(f:FuncId)(fn:Func)(hf:Tryd.pinned.checked.prog.funcNamed "spillway/spillwaylaw11.HashesLeaves" =some f)(hfn:Tryd.pinned.checked.prog.funcs[f]? = some fn) :
  false=Tryd.pinned.checked.prog.looks []∧∀ (j:Nat) t,fn.params[j]? = some t→Tryd.pinned.checked.prog.wantsStandIn t=false:=by
 obtain rfl:f=3:=Option.some.inj ((show Tryd.prog.funcNamed "spillway/spillwaylaw11.HashesLeaves" =some 3 by kernel_rfl).symm.trans hf) |>.symm
 obtain rfl:fn=Tryd.f3:=(Option.some.inj (Tryd.func3.symm.trans hfn)).symm
 refine⟨by kernel_rfl,fun j t ht=>?_⟩
 rw [Tryd.params3] at ht
 have:t=26∨t=5∨t=22:=by
  have hm:=Array.mem_of_getElem? ht
  simp at hm
  first | omega | (rcases hm with h | h | h <;> simp [h])
 rcases this with rfl | rfl | rfl
 ·exact(show Tryd.prog.wantsStandIn 26=false by kernel_rfl)
 ·exact(show Tryd.prog.wantsStandIn 5=false by kernel_rfl)
 ·exact(show Tryd.prog.wantsStandIn 22=false by kernel_rfl)
theorem card:Rows.HashesLeavesCardSaid:=
 Claim7.holds_tied_plain_at .later [] _ _ _ _ said (fun _ h=>by cases h) (by kernel_rfl) (fun _ h=>by cases h) hashesLeaves_row_tie rfl ⟨rfl,rfl⟩ (by kernel_rfl) rfl plain (by kernel_rfl)
end Go.Proofs.YtecamcpifkibkaaDoor.hashesLeaves
