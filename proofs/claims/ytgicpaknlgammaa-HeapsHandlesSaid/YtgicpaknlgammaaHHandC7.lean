/- HHandC, part 7: what the proof needs, in the order of its texts. -/
import Derived.Test.YtgicpaknlgammaaHHandC6
import Derived.Test.YtgicpaknlgammaaProg
import Derived.KernelRfl
/- Sorting items: what breaks patterns. -/
set_option linter.unusedVariables false
set_option linter.unusedSimpArgs false
namespace Go.Ev
open Go Go.Proofs Go.RowKit
variable {η:Nat→Value} {B:Bd}
namespace HQ
abbrev RPb(η:Nat→Value)(B:Bd)(f n cap:Nat)(d:A2)(a b:Nat)(R:A2)(S:(Nat→Value)→AS):Prop:=
 RunD η Try.prog B 76 (KBreak.H0 f n cap (aC d) a b) [0,1,8,9,10,11] (S fun _=>undef) (QF Try.prog 128 (KT.ret undef (heapS f (aC R))).sat)
def BitsSpec(η:Nat→Value)(B:Bd):Prop:=∀ (l:Nat) (H:AH),l≤1000000→CallSpec η Try.prog B 63 [.int .u64 (l:Int)] H (KT.ret (.int .i64 (blN l:Int)) H).sat
theorem wand(a b:Nat)(ha:a<18446744073709551616)(hb:b<18446744073709551616):IntKind.u64.wrap (((BitVec.ofInt IntKind.u64.bits (a:Int) &&& BitVec.ofInt IntKind.u64.bits (b:Int)).toNat:Nat):Int)=((a &&& b:Nat):Int):=by
 have e:∀ x:Nat,x<18446744073709551616→(BitVec.ofInt 64 (x:Int)).toNat=x:=fun x hx=>by
  rw [BitVec.toNat_ofInt];omega
 have:(BitVec.ofInt IntKind.u64.bits (a:Int) &&& BitVec.ofInt IntKind.u64.bits (b:Int)).toNat=a &&& b:=by
  show(BitVec.ofInt 64 (a:Int) &&& BitVec.ofInt 64 (b:Int)).toNat=a &&& b
  rw [BitVec.toNat_and,e a ha,e b hb]
 rw [this]
 exact wu _ (Nat.lt_of_le_of_lt Nat.and_le_left ha)
theorem next_any(hη:OneCells η)(hmix:Try.prog.follows .mixedOrders=true){x r:Nat}{H H':AH}(hx:x<18446744073709551616)(hr:H.objs.get r=some (.cells 144 [.int .u64 (x:Int)] true 2))
  (e':H'=⟨putL (keyQ (fun _=>r) 1 H.next) [some (.cells 144 [.int .u64 (xnN x:Int)] true 2)] 0 H.objs,H.next+(1 - 1)⟩) :
  CallSpec η Try.prog B 87 [.pointer (some ⟨r,0,none⟩)] H (KT.ret (.int .u64 (xnN x:Int)) H').sat:=by
 subst e'
 have k:=next_ok (B:=B) hη hmix hx
 have e:xnN x=Sort.xorNextN x:=by unfold xnN;rfl
 rw [← e] at k
 refine CallSpec.moveK hη gs9 (rn:=fun _=>r) (l:=[.cells 144 [.int .u64 (x:Int)] true 2]) (l':=[.cells 144 [.int .u64 (x:Int)] true 2]) (args:=[.pointer (some ⟨126,0,none⟩)]) (v:=.int .u64 (xnN x:Int))
  (l2:=[some (.cells 144 [.int .u64 (xnN x:Int)] true 2)]) (l2':=[some (.cells 144 [.int .u64 (xnN x:Int)] true 2)]) ⟨fun i a hi=>?_,?_,fun i j hi hj e=>?_⟩ (Nat.le_refl _) rfl (.cons ?_ .nil) (.int _ _) (fun j x' hj=>?_) ?_
 ·match i,hi with
  | 0,hi=>simp at hi;subst hi;exact hr
  | i+1,hi=>simp at hi
 ·exact .cons (.cells _ _ (.cons (.int _ _) .nil) (.inl rfl)) .nil
 ·simp only [List.length_cons,List.length_nil] at hi hj;omega
 ·have:=RV.ptr (σ:=sigR fun _=>r) (N:=127) (wk:=true) (r:=126) (o:=0) (s:=none) (by decide)
  exact this
 ·match j,hj with
  | 0,hj=>simp at hj;subst hj;exact .inl ⟨_,rfl,.cells _ _ (.cons (.int _ _) .nil) (.inl rfl)⟩
  | j+1,hj=>simp at hj
 ·exact k.mono fun v1 h1 ⟨e1,e2⟩=>⟨e1,by rw [e2];rfl,by rw [e2];exact⟨rfl,trivial⟩⟩
theorem bl_le(l:Nat)(h0:l ≠ 0):2 ^ Sort.bitsLen l≤2 * l:=by
 unfold Sort.bitsLen
 rw [if_neg h0,Nat.pow_succ,Nat.mul_comm]
 exact Nat.mul_le_mul_left 2 (Nat.log2_self_le h0)
set_option maxHeartbeats 4000000 in
theorem break_ok(hη:OneCells η)(hmix:Try.prog.follows .mixedOrders=true){f n cap:Nat}(hbl:BitsSpec η B):BreakSpec η B f n cap:=by
 intro d a b hab hb hn hm
 generalize hR:Sort.breakPatterns d a b=R
 have w1:IntKind.i64.wrap ((b:Int) - (a:Int))=((b - a:Nat):Int):=wn _ (by omega) (by omega)
 have w2:(((b - a:Nat):Int)).tdiv 4=(((b - a) / 4:Nat):Int):=by rw [Int.tdiv_eq_ediv_of_nonneg (by omega)];omega
 have w3:IntKind.i64.wrap (((b - a) / 4:Nat):Int)=(((b - a) / 4:Nat):Int):=ww _ (by omega)
 have v2:IntKind.i64.wrap ((((b - a) / 4:Nat):Int) * 2)=(((b - a) / 4 * 2:Nat):Int):=wn _ (by omega) (by omega)
 have u2:IntKind.i64.wrap ((a:Int)+(((b - a) / 4 * 2:Nat):Int))=((a+(b - a) / 4 * 2:Nat):Int):=wn _ (by omega) (by omega)
 have u3:IntKind.i64.wrap (((a+(b - a) / 4 * 2:Nat):Int)+1)=((a+(b - a) / 4 * 2+1:Nat):Int):=wn _ (by omega) (by omega)
 have wl:IntKind.u64.wrap ((b - a:Nat):Int)=((b - a:Nat):Int):=wu _ (by omega)
 have h8:decide (((b - a:Nat):Int) ≥ 8)=decide (b - a ≥ 8):=ge_nat _ 8
 have cut0:=fun i0 l0 l1=>KBreak.cut0 (η:=η) (B:=B) (D:=(KT.ret undef (heapS f (aC R))).sat) hη hmix (reg0 hη hmix) f n cap (aC d) a b i0 l0 l1
 by_cases q:b - a ≥ 8
 ·have eB:blN (b - a)=Sort.bitsLen (b - a):=by unfold blN;rfl
  have hM2:=bl_le (b - a) (by omega)
  have hM:IntKind.u64.wrap ((1:Int) * 2 ^ min (blN (b - a)) 64)=((2 ^ Sort.bitsLen (b - a):Nat):Int):=by
   have h64:Sort.bitsLen (b - a)≤64:=by
    rcases Nat.lt_or_ge (Sort.bitsLen (b - a)) 64 with h | h
    ·omega
    ·have:=Nat.pow_le_pow_right (show 0<2 by decide) h
     have e:(2:Nat) ^ 64=18446744073709551616:=by decide
     omega
   rw [eB,Nat.min_eq_left h64,Int.one_mul,← wu (2 ^ Sort.bitsLen (b - a)) (by omega)]
   congr 1
  have hM1:IntKind.u64.wrap (((2 ^ Sort.bitsLen (b - a):Nat):Int) - 1)=((2 ^ Sort.bitsLen (b - a) - 1:Nat):Int):=by
   have:0<2 ^ Sort.bitsLen (b - a):=Nat.pow_pos (by decide)
   rw [← wu (2 ^ Sort.bitsLen (b - a) - 1) (by omega)]
   congr 1;omega
  have e1:(1:Nat) <<< Sort.bitsLen (b - a)=2 ^ Sort.bitsLen (b - a):=by rw [Nat.shiftLeft_eq,Nat.one_mul]
  have rnd:∀ (st:UInt64 × A2) (idx:Nat),a+(b - a) / 4 * 2 - 1≤idx→idx≤a+(b - a) / 4 * 2+1→st.2.size=d.size→
    RPb η B f n cap d a b R (KBreak.S0 f n cap (aC d) a b ((idx+1:Nat):Int) [.int .u64 ((Sort.breakStep a (b - a) (2 ^ Sort.bitsLen (b - a)) st idx).1.toNat:Int)] (aC (Sort.breakStep a (b - a) (2 ^ Sort.bitsLen (b - a)) st idx).2))→
    RPb η B f n cap d a b R (KBreak.S0 f n cap (aC d) a b (idx:Int) [.int .u64 (st.1.toNat:Int)] (aC st.2)):=by
   intro st idx h1 h2 hs nx
   obtain⟨r0,t⟩:=st
   dsimp only at hs nx ⊢
   have i0:intAt [Value.int IntKind.u64 (r0.toNat:Int)] 0=(r0.toNat:Int):=rfl
   have hX:r0.toNat<18446744073709551616:=r0.toNat_lt
   have hx:xnN r0.toNat=(Sort.xorNext r0).toNat:=by unfold xnN;exact(Sort.xorNext_toNat r0).symm
   have hx2:(Sort.xorNext r0).toNat<18446744073709551616:=(Sort.xorNext r0).toNat_lt
   have nk:∀ {H H':AH},H.objs.get 128=some (.cells 144 [.int .u64 (r0.toNat:Int)] true 2)→H'=⟨putL (keyQ (fun _=>128) 1 H.next) [some (.cells 144 [.int .u64 ((Sort.xorNext r0).toNat:Int)] true 2)] 0 H.objs,H.next+(1 - 1)⟩→
     CallSpec η Try.prog B 87 [.pointer (some ⟨128,0,none⟩)] H (KT.ret (.int .u64 ((Sort.xorNext r0).toNat:Int)) H').sat:=fun h1 h2=>by
    rw [← hx] at h2 ⊢;exact next_any hη hmix hX h1 h2
   generalize ho:(Sort.xorNext r0).toNat &&& (2 ^ Sort.bitsLen (b - a) - 1)=o
   have hol:o<2 * (b - a):=by
    have:o≤2 ^ Sort.bitsLen (b - a) - 1:=by rw [← ho];exact Nat.and_le_right
    omega
   have wo:IntKind.i64.wrap ((o:Nat):Int)=(o:Int):=ww o (by omega)
   have wo2:IntKind.i64.wrap ((o:Int) - ((b - a:Nat):Int))=(o:Int) - ((b - a:Nat):Int)∨o<b - a:=by
    by_cases h:o<b - a
    ·exact .inr h
    ·exact .inl (by rw [wrap_small (by omega) (by omega)])
   have hbs:∀ q,(if o ≥ b - a then o - (b - a) else o)=q→(Sort.breakStep a (b - a) (2 ^ Sort.bitsLen (b - a)) (r0,t) idx)=(Sort.xorNext r0,Sort.swp t idx (a+q)):=fun q e=>by
    unfold Sort.breakStep
    simp only [ho,e]
   have hI:idx<t.size:=by omega
   obtain⟨a1,a2⟩:=aC_int hI
   have p1:=fun x y=>aC_put (d:=t) (k:=idx) hI x y
   refine cut0 _ _ _ ?_
   by_cases c:o ≥ b - a
   ·have hq:=hbs (o - (b - a)) (if_pos c)
    rw [hq] at nx
    have wo2:IntKind.i64.wrap ((o:Int) - ((b - a:Nat):Int))=((o - (b - a):Nat):Int):=wn _ (by omega) (by omega)
    have wa:IntKind.i64.wrap ((a:Int)+((o - (b - a):Nat):Int))=((a+(o - (b - a)):Nat):Int):=wn _ (by omega) (by omega)
    have hJ:a+(o - (b - a))<t.size:=by omega
    obtain⟨b1,b2⟩:=aC_int hJ
    have p2:=fun q x y=>aC_put (d:=t.setIfInBounds idx q) (k:=a+(o - (b - a))) (by simpa using hJ) x y
    simp only [W.holds,w1,w2,w3,v2,u2,u3,wl,i0,Int.toNat_natCast,hM,hM1,hx,wand _ _ hx2 (show 2 ^ Sort.bitsLen (b - a) - 1<18446744073709551616 by omega),ho,wo,wo2,wa,le_nat,ge_nat,HQ.wp idx (by omega),Nat.zero_add,Nat.add_zero,a1,a2,b1,b2,aC_cut hI,aC_cut hJ,p1,p2,aC_len,aC_nn,Array.size_setIfInBounds,decide_eq_true_eq,decide_eq_false_iff_not,true_and,and_true,true_implies]
    repeat' first
     | exact nx
     | exact nk (by kernel_rfl) (by kernel_rfl)
     | (exfalso;omega)
     | refine And.intro (by omega) (fun _=>?_)
     | refine And.intro ?_ ?_
     | intro _
   ·have hq:=hbs o (if_neg c)
    rw [hq] at nx
    have wa:IntKind.i64.wrap ((a:Int)+(o:Int))=((a+o:Nat):Int):=wn _ (by omega) (by omega)
    have hJ:a+o<t.size:=by omega
    obtain⟨b1,b2⟩:=aC_int hJ
    have p2:=fun q x y=>aC_put (d:=t.setIfInBounds idx q) (k:=a+o) (by simpa using hJ) x y
    simp only [W.holds,w1,w2,w3,v2,u2,u3,wl,i0,Int.toNat_natCast,hM,hM1,hx,wand _ _ hx2 (show 2 ^ Sort.bitsLen (b - a) - 1<18446744073709551616 by omega),ho,wo,wa,le_nat,ge_nat,HQ.wp idx (by omega),Nat.zero_add,Nat.add_zero,a1,a2,b1,b2,aC_cut hI,aC_cut hJ,p1,p2,aC_len,aC_nn,Array.size_setIfInBounds,decide_eq_true_eq,decide_eq_false_iff_not,true_and,and_true,true_implies]
    repeat' first
     | exact nx
     | exact nk (by kernel_rfl) (by kernel_rfl)
     | (exfalso;omega)
     | refine And.intro (by omega) (fun _=>?_)
     | refine And.intro ?_ ?_
     | intro _
  have hsz:∀ (st:UInt64 × A2) (idx:Nat),(Sort.breakStep a (b - a) (2 ^ Sort.bitsLen (b - a)) st idx).2.size=st.2.size:=fun st idx=>by
   unfold Sort.breakStep;exact Sort.size_swp _ _ _
  have v4:IntKind.i64.wrap (((a+(b - a) / 4 * 2:Nat):Int) - 1)=((a+(b - a) / 4 * 2 - 1:Nat):Int):=wm _ (by omega) (by omega)
  have hR2:(Sort.breakStep a (b - a) (2 ^ Sort.bitsLen (b - a)) (Sort.breakStep a (b - a) (2 ^ Sort.bitsLen (b - a)) (Sort.breakStep a (b - a) (2 ^ Sort.bitsLen (b - a)) (UInt64.ofNat (b - a),d) (a+(b - a) / 4 * 2 - 1)) (a+(b - a) / 4 * 2 - 1+1)) (a+(b - a) / 4 * 2 - 1+2)).2=R:=by
   rw [← hR]
   unfold Sort.breakPatterns
   simp only [if_pos q,e1]
  have r3:=rnd (UInt64.ofNat (b - a),d) (a+(b - a) / 4 * 2 - 1) (Nat.le_refl _) (by omega) rfl
   (rnd _ (a+(b - a) / 4 * 2 - 1+1) (by omega) (by omega) (hsz _ _)
    (rnd _ (a+(b - a) / 4 * 2 - 1+2) (by omega) (by omega) (by rw [hsz,hsz]) (by
     rw [hR2]
     refine cut0 _ _ _ ?_
     simp only [W.holds,w1,w2,w3,v2,u2,u3,le_nat,decide_eq_true_eq,decide_eq_false_iff_not,aC_nn,true_and,and_true,true_implies]
     exact⟨fun h=>by omega,fun _=>⟨rfl,by kernel_rfl⟩⟩)))
  have hof:(UInt64.ofNat (b - a)).toNat=b - a:=by
   rw [UInt64.toNat_ofNat'];omega
  dsimp only at r3
  rw [hof] at r3
  refine KBreak.enter hη hmix (reg0 hη hmix) _ _ _ _ _ _ ?_
  simp only [W.holds,w1,w2,w3,v2,u2,v4,wl,h8,Int.toNat_natCast,decide_eq_true_eq,decide_eq_false_iff_not,aC_nn,true_and,and_true,true_implies]
  exact⟨fun _=>⟨hbl (b - a) _ (by omega),r3⟩,fun h=>absurd q h⟩
 ·have e:Sort.breakPatterns d a b=d:=if_neg q
  rw [e] at hR
  subst hR
  refine KBreak.enter hη hmix (reg0 hη hmix) _ _ _ _ _ _ ?_
  simp only [W.holds,w1,h8,decide_eq_true_eq,decide_eq_false_iff_not,true_and,and_true,true_implies]
  exact⟨fun h=>absurd h q,fun _=>⟨rfl,by kernel_rfl⟩⟩
end HQ
end Go.Ev

namespace Go.Ev
open Go Go.Proofs
open Go.Ev.T renaming node → nN, nil → nZ
open Go.Proofs.Try (prog)
set_option maxRecDepth 100000
set_option maxHeartbeats 2000000
namespace KBits
noncomputable def bd:Code:=(Go.Proofs.Try.f63.body).getD .skip
noncomputable def H0(x:Int):AH:={ objs:=nZ,next:=126 }
noncomputable def E(x:Int):AS:=⟨⟨63,8,lL (Value.int IntKind.u64 x),[Item.code (codeAt bd [])],[],FrameMode.run,CallKind.normal,none⟩,[],H0 x⟩
theorem enter{η:Nat→Value}{B:Bd}(hη:OneCells η)(hmix:prog.follows .mixedOrders=true)(hreg:RegOk η prog B noNest){D:Value→AH→Prop}(x:Int)(h:let q4:=((x.fdiv (65536:Int)).fdiv (256:Int));let q3:=((x.fdiv (4294967296:Int)).fdiv (256:Int));let q2:=((x.fdiv (4294967296:Int)).fdiv (65536:Int));let q1:=(q2.fdiv (256:Int));let q0:=(([OfNat.ofNat 0,OfNat.ofNat 1,OfNat.ofNat 2,OfNat.ofNat 2,OfNat.ofNat 3,OfNat.ofNat 3,OfNat.ofNat 3,OfNat.ofNat 3,OfNat.ofNat 4,OfNat.ofNat 4,OfNat.ofNat 4,OfNat.ofNat 4,OfNat.ofNat 4,OfNat.ofNat 4,OfNat.ofNat 4,OfNat.ofNat 4,OfNat.ofNat 5,OfNat.ofNat 5,OfNat.ofNat 5,OfNat.ofNat 5,OfNat.ofNat 5,OfNat.ofNat 5,OfNat.ofNat 5,OfNat.ofNat 5,OfNat.ofNat 5,OfNat.ofNat 5,OfNat.ofNat 5,OfNat.ofNat 5,OfNat.ofNat 5,OfNat.ofNat 5,OfNat.ofNat 5,OfNat.ofNat 5,OfNat.ofNat 6,OfNat.ofNat 6,OfNat.ofNat 6,OfNat.ofNat 6,OfNat.ofNat 6,OfNat.ofNat 6,OfNat.ofNat 6,OfNat.ofNat 6,OfNat.ofNat 6,OfNat.ofNat 6,OfNat.ofNat 6,OfNat.ofNat 6,OfNat.ofNat 6,OfNat.ofNat 6,OfNat.ofNat 6,OfNat.ofNat 6,OfNat.ofNat 6,OfNat.ofNat 6,OfNat.ofNat 6,OfNat.ofNat 6,OfNat.ofNat 6,OfNat.ofNat 6,OfNat.ofNat 6,OfNat.ofNat 6,OfNat.ofNat 6,OfNat.ofNat 6,OfNat.ofNat 6,OfNat.ofNat 6,OfNat.ofNat 6,OfNat.ofNat 6,OfNat.ofNat 6,OfNat.ofNat 6].append [OfNat.ofNat 7,OfNat.ofNat 7,OfNat.ofNat 7,OfNat.ofNat 7,OfNat.ofNat 7,OfNat.ofNat 7,OfNat.ofNat 7,OfNat.ofNat 7,OfNat.ofNat 7,OfNat.ofNat 7,OfNat.ofNat 7,OfNat.ofNat 7,OfNat.ofNat 7,OfNat.ofNat 7,OfNat.ofNat 7,OfNat.ofNat 7,OfNat.ofNat 7,OfNat.ofNat 7,OfNat.ofNat 7,OfNat.ofNat 7,OfNat.ofNat 7,OfNat.ofNat 7,OfNat.ofNat 7,OfNat.ofNat 7,OfNat.ofNat 7,OfNat.ofNat 7,OfNat.ofNat 7,OfNat.ofNat 7,OfNat.ofNat 7,OfNat.ofNat 7,OfNat.ofNat 7,OfNat.ofNat 7,OfNat.ofNat 7,OfNat.ofNat 7,OfNat.ofNat 7,OfNat.ofNat 7,OfNat.ofNat 7,OfNat.ofNat 7,OfNat.ofNat 7,OfNat.ofNat 7,OfNat.ofNat 7,OfNat.ofNat 7,OfNat.ofNat 7,OfNat.ofNat 7,OfNat.ofNat 7,OfNat.ofNat 7,OfNat.ofNat 7,OfNat.ofNat 7,OfNat.ofNat 7,OfNat.ofNat 7,OfNat.ofNat 7,OfNat.ofNat 7,OfNat.ofNat 7,OfNat.ofNat 7,OfNat.ofNat 7,OfNat.ofNat 7,OfNat.ofNat 7,OfNat.ofNat 7,OfNat.ofNat 7,OfNat.ofNat 7,OfNat.ofNat 7,OfNat.ofNat 7,OfNat.ofNat 7,OfNat.ofNat 7]).append ([OfNat.ofNat 8,OfNat.ofNat 8,OfNat.ofNat 8,OfNat.ofNat 8,OfNat.ofNat 8,OfNat.ofNat 8,OfNat.ofNat 8,OfNat.ofNat 8,OfNat.ofNat 8,OfNat.ofNat 8,OfNat.ofNat 8,OfNat.ofNat 8,OfNat.ofNat 8,OfNat.ofNat 8,OfNat.ofNat 8,OfNat.ofNat 8,OfNat.ofNat 8,OfNat.ofNat 8,OfNat.ofNat 8,OfNat.ofNat 8,OfNat.ofNat 8,OfNat.ofNat 8,OfNat.ofNat 8,OfNat.ofNat 8,OfNat.ofNat 8,OfNat.ofNat 8,OfNat.ofNat 8,OfNat.ofNat 8,OfNat.ofNat 8,OfNat.ofNat 8,OfNat.ofNat 8,OfNat.ofNat 8,OfNat.ofNat 8,OfNat.ofNat 8,OfNat.ofNat 8,OfNat.ofNat 8,OfNat.ofNat 8,OfNat.ofNat 8,OfNat.ofNat 8,OfNat.ofNat 8,OfNat.ofNat 8,OfNat.ofNat 8,OfNat.ofNat 8,OfNat.ofNat 8,OfNat.ofNat 8,OfNat.ofNat 8,OfNat.ofNat 8,OfNat.ofNat 8,OfNat.ofNat 8,OfNat.ofNat 8,OfNat.ofNat 8,OfNat.ofNat 8,OfNat.ofNat 8,OfNat.ofNat 8,OfNat.ofNat 8,OfNat.ofNat 8,OfNat.ofNat 8,OfNat.ofNat 8,OfNat.ofNat 8,OfNat.ofNat 8,OfNat.ofNat 8,OfNat.ofNat 8,OfNat.ofNat 8,OfNat.ofNat 8].append [OfNat.ofNat 8,OfNat.ofNat 8,OfNat.ofNat 8,OfNat.ofNat 8,OfNat.ofNat 8,OfNat.ofNat 8,OfNat.ofNat 8,OfNat.ofNat 8,OfNat.ofNat 8,OfNat.ofNat 8,OfNat.ofNat 8,OfNat.ofNat 8,OfNat.ofNat 8,OfNat.ofNat 8,OfNat.ofNat 8,OfNat.ofNat 8,OfNat.ofNat 8,OfNat.ofNat 8,OfNat.ofNat 8,OfNat.ofNat 8,OfNat.ofNat 8,OfNat.ofNat 8,OfNat.ofNat 8,OfNat.ofNat 8,OfNat.ofNat 8,OfNat.ofNat 8,OfNat.ofNat 8,OfNat.ofNat 8,OfNat.ofNat 8,OfNat.ofNat 8,OfNat.ofNat 8,OfNat.ofNat 8,OfNat.ofNat 8,OfNat.ofNat 8,OfNat.ofNat 8,OfNat.ofNat 8,OfNat.ofNat 8,OfNat.ofNat 8,OfNat.ofNat 8,OfNat.ofNat 8,OfNat.ofNat 8,OfNat.ofNat 8,OfNat.ofNat 8,OfNat.ofNat 8,OfNat.ofNat 8,OfNat.ofNat 8,OfNat.ofNat 8,OfNat.ofNat 8,OfNat.ofNat 8,OfNat.ofNat 8,OfNat.ofNat 8,OfNat.ofNat 8,OfNat.ofNat 8,OfNat.ofNat 8,OfNat.ofNat 8,OfNat.ofNat 8,OfNat.ofNat 8,OfNat.ofNat 8,OfNat.ofNat 8,OfNat.ofNat 8,OfNat.ofNat 8,OfNat.ofNat 8,OfNat.ofNat 8,OfNat.ofNat 8]));W.holds η prog B 63 (fun kp_ st_=>RunD η prog B 63 (H0 x) kp_ st_ (QF prog 126 D)) D (.ite (decide (x ≥ (4294967296:Int))) (.ite (decide (x.fdiv ((2:Int) ^ min (Int.toNat (32:Int)) IntKind.u64.bits) ≥ (65536:Int))) (.ite (decide ((x.fdiv (4294967296:Int)).fdiv (65536:Int) ≥ (256:Int))) (.need ((0:Int)≤IntKind.u8.wrap q1∧IntKind.u8.wrap q1<(256:Int)) (.done 63 (Value.int IntKind.i64 (IntKind.i64.wrap (56+IntKind.i64.wrap (byteAt q0.toArray.toList (IntKind.u8.wrap (((x.fdiv 4294967296).fdiv 65536).fdiv 256)))))) (H0 x))) (.need ((0:Int)≤IntKind.u8.wrap q2∧IntKind.u8.wrap q2<(256:Int)) (.done 63 (Value.int IntKind.i64 (IntKind.i64.wrap (48+IntKind.i64.wrap (byteAt q0.toArray.toList (IntKind.u8.wrap ((x.fdiv 4294967296).fdiv 65536)))))) (H0 x)))) (.ite (decide (x.fdiv (4294967296:Int) ≥ (256:Int))) (.need ((0:Int)≤IntKind.u8.wrap q3∧IntKind.u8.wrap q3<(256:Int)) (.done 63 (Value.int IntKind.i64 (IntKind.i64.wrap (40+IntKind.i64.wrap (byteAt q0.toArray.toList (IntKind.u8.wrap ((x.fdiv 4294967296).fdiv 256)))))) (H0 x))) (.need ((0:Int)≤IntKind.u8.wrap (x.fdiv (4294967296:Int))∧IntKind.u8.wrap (x.fdiv (4294967296:Int))<(256:Int)) (.done 63 (Value.int IntKind.i64 (IntKind.i64.wrap (32+IntKind.i64.wrap (byteAt q0.toArray.toList (IntKind.u8.wrap (x.fdiv 4294967296)))))) (H0 x))))) (.ite (decide (x ≥ (65536:Int))) (.ite (decide (x.fdiv (65536:Int) ≥ (256:Int))) (.need ((0:Int)≤IntKind.u8.wrap q4∧IntKind.u8.wrap q4<(256:Int)) (.done 63 (Value.int IntKind.i64 (IntKind.i64.wrap (24+IntKind.i64.wrap (byteAt q0.toArray.toList (IntKind.u8.wrap ((x.fdiv 65536).fdiv 256)))))) (H0 x))) (.need ((0:Int)≤IntKind.u8.wrap (x.fdiv (65536:Int))∧IntKind.u8.wrap (x.fdiv (65536:Int))<(256:Int)) (.done 63 (Value.int IntKind.i64 (IntKind.i64.wrap (16+IntKind.i64.wrap (byteAt q0.toArray.toList (IntKind.u8.wrap (x.fdiv 65536)))))) (H0 x)))) (.ite (decide (x ≥ (256:Int))) (.need ((0:Int)≤IntKind.u8.wrap (x.fdiv (256:Int))∧IntKind.u8.wrap (x.fdiv (256:Int))<(256:Int)) (.done 63 (Value.int IntKind.i64 (IntKind.i64.wrap (8+IntKind.i64.wrap (byteAt q0.toArray.toList (IntKind.u8.wrap (x.fdiv 256)))))) (H0 x))) (.need ((0:Int)≤IntKind.u8.wrap x∧IntKind.u8.wrap x<(256:Int)) (.done 63 (Value.int IntKind.i64 (IntKind.i64.wrap (0+IntKind.i64.wrap (byteAt q0.toArray.toList (IntKind.u8.wrap x))))) (H0 x))))))):CallSpec η prog B 63 [Value.int IntKind.u64 x] (H0 x) D:=by
 refine CallSpec.ofQF hη (CallSpec.enter (fr:=(E x).fr) (by kernel_rfl) ?_)
 exact walk_okT (h0:=H0 x) hη hmix hreg (.steps 21 <| .bit 4 (.steps 16 <| .bit 8 (.steps 18 <| .bit 14 (.steps 17 <| .op <| .steps 9 <| .done none) (.steps 7 <| .op <| .steps 9 <| .done none)) (.steps 8 <| .bit 14 (.steps 17 <| .op <| .steps 9 <| .done none) (.steps 7 <| .op <| .steps 9 <| .done none))) (.steps 8 <| .bit 8 (.steps 18 <| .bit 14 (.steps 17 <| .op <| .steps 9 <| .done none) (.steps 7 <| .op <| .steps 9 <| .done none)) (.steps 8 <| .bit 14 (.steps 17 <| .op <| .steps 9 <| .done none) (.steps 7 <| .op <| .steps 9 <| .done none)))) (E x) (by kernel_rfl) h (by kernel_rfl)
end KBits
end Go.Ev

/- Sorting items: the length of a number in bits. -/
namespace Go.Ev
open Go Go.Proofs Go.RowKit
variable {η:Nat→Value} {B:Bd}
namespace HQ
theorem bl_shift(l s:Nat)(h:2 ^ s≤l):Sort.bitsLen l=s+Sort.bitsLen (l / 2 ^ s):=by
 have h0:0<2 ^ s:=Nat.pow_pos (by decide)
 have hm:l / 2 ^ s ≠ 0:=by
  have:=(Nat.le_div_iff_mul_le h0).2 (show 1 * 2 ^ s≤l by omega)
  omega
 unfold Sort.bitsLen
 rw [if_neg (by omega),if_neg hm]
 have e:l.log2=s+(l / 2 ^ s).log2:=by
  rw [Nat.log2_eq_iff (by omega)]
  obtain⟨k1,k2⟩:=(Nat.log2_eq_iff hm (k:=(l / 2 ^ s).log2)).1 rfl
  refine⟨?_,?_⟩
  ·rw [Nat.add_comm,Nat.pow_add];exact(Nat.le_div_iff_mul_le h0).1 k1
  ·rw [Nat.add_assoc,Nat.add_comm,Nat.pow_add];exact(Nat.div_lt_iff_lt_mul h0).1 k2
 omega
theorem tabl(T:List UInt8)(h:T.map UInt8.toNat=(List.range 256).map Sort.bitsLen)(k:Nat)(hk:k<256):byteAt T (k:Int)=(Sort.bitsLen k:Int):=by
 have e:=congrArg (fun l=>l[k]?) h
 simp only [List.getElem?_map,List.getElem?_range hk,Option.map_some] at e
 unfold byteAt
 cases hT:T[k]? with
 | none=>rw [hT] at e;cases e
 | some v=>
  rw [hT] at e
  injection e with e
  simp [hT,e]
theorem w8(x:Nat)(h:x<256):IntKind.u8.wrap (x:Int)=(x:Int):=by
 show(x:Int) % 256=x
 omega
theorem fd(x k:Nat):((x:Int)).fdiv (k:Int)=((x / k:Nat):Int):=by
 rw [Int.fdiv_eq_ediv_of_nonneg _ (by omega)];exact(Int.natCast_ediv x k).symm
theorem bits_ok(hη:OneCells η)(hmix:Try.prog.follows .mixedOrders=true):BitsSpec η B:=by
 intro l H hl
 have eB:blN l=Sort.bitsLen l:=by unfold blN;rfl
 have k:CallSpec η Try.prog B 63 [.int .u64 (l:Int)] (heapO []) (KT.ret (.int .i64 (blN l:Int)) (heapO [])).sat:=by
  have f1:∀ x:Nat,((x:Int)).fdiv 65536=((x / 65536:Nat):Int):=fun x=>fd x 65536
  have f2:∀ x:Nat,((x:Int)).fdiv 256=((x / 256:Nat):Int):=fun x=>fd x 256
  have hb:∀ m:Nat,m<256→Sort.bitsLen m≤8:=fun m hm=>by
   unfold Sort.bitsLen
   split
   ·omega
   ·rename_i h0
    have:=(Nat.log2_lt h0 (k:=8)).2 hm
    omega
  refine KBits.enter hη hmix (reg0 hη hmix) _ ?_
  simp only [W.holds,f1,f2,decide_eq_true_eq,decide_eq_false_iff_not,true_and,and_true,true_implies]
  refine⟨fun q=>by omega,fun _=>⟨fun q=>⟨fun q2=>by omega,fun _=>?_⟩,fun q=>⟨fun q2=>?_,fun q2=>?_⟩⟩⟩
  ·have hk:l / 65536<256:=by omega
   have e2:=bl_shift l 16 (by omega)
   have e3:=hb _ hk
   rw [w8 _ hk]
   refine⟨by omega,fun _=>?_⟩
   rw [tabl _ (by kernel_rfl) _ hk,ww _ (by omega),eB,e2]
   refine⟨?_,by kernel_rfl⟩
   congr 1
   rw [show(2:Nat) ^ 16=65536 from rfl]
   exact wn _ (by omega) (by omega)
  ·have hk:l / 256<256:=by omega
   have e2:=bl_shift l 8 (by omega)
   have e3:=hb _ hk
   rw [w8 _ hk]
   refine⟨by omega,fun _=>?_⟩
   rw [tabl _ (by kernel_rfl) _ hk,ww _ (by omega),eB,e2]
   refine⟨?_,by kernel_rfl⟩
   congr 1
   rw [show(2:Nat) ^ 8=256 from rfl]
   exact wn _ (by omega) (by omega)
  ·have hk:l<256:=by omega
   have e3:=hb _ hk
   rw [w8 _ hk]
   refine⟨by omega,fun _=>?_⟩
   rw [tabl _ (by kernel_rfl) _ hk,ww _ (by omega),eB]
   refine⟨?_,by kernel_rfl⟩
   congr 1
   exact wn _ (by omega) (by omega)
 exact CallSpec.bare (N:=126) (v:=.int .i64 (blN l:Int)) hη gs9 (fun _ _=>.cons (.int _ _) .nil) (fun _ _=>.int _ _) (fun _ _=>.int _ _) (k.mono fun v h e=>e.1) H
theorem pdq_ok(hη:OneCells η)(hmix:Try.prog.follows .mixedOrders=true){f n cap:Nat}(hf:isOrd f):∀ N,PdqSpec η B f n cap N
 | 0=>fun d a b m h=>by omega
 | N+1=>pdq_step hη hmix hf (break_ok hη hmix (bits_ok hη hmix)) (pdq_ok hη hmix hf N)
end HQ
end Go.Ev

namespace Go.Ev
open Go Go.Proofs
open Go.Ev.T renaming node → nN, nil → nZ
open Go.Proofs.Try (prog)
set_option maxRecDepth 100000
set_option maxHeartbeats 2000000
namespace KSortF
noncomputable def bd:Code:=(Go.Proofs.Try.f45.body).getD .skip
noncomputable def H0(f:Nat)(n:Nat)(cap:Nat)(c:List Value):AH:={ objs:=eE (eE (eE (eE (eE (eE (eE (lL (AObj.cells 74 [Value.func (Fn.func f) ⟨[]⟩ ⟨[]⟩,Value.chan none,Value.chan none,Value.chan none] true 0)) nZ) nZ) nZ) nZ) nZ) nZ) (eE nZ (eE nZ (eE nZ (eE nZ (eE nZ (lL (AObj.cells 52 c false 2))))))),next:=128 }
noncomputable def E(f:Nat)(n:Nat)(cap:Nat)(c:List Value):AS:=⟨⟨45,14,nS (sS 126 0 n cap) (lL (Value.func (Fn.func 36) ⟨[pP 127 0]⟩ ⟨[]⟩)) nZ,[Item.code (codeAt bd [])],[],FrameMode.run,CallKind.normal,none⟩,[],H0 f n cap c⟩
theorem enter{η:Nat→Value}{B:Bd}(hη:OneCells η)(hmix:prog.follows .mixedOrders=true)(hreg:RegOk η prog B noNest){D:Value→AH→Prop}(f:Nat)(n:Nat)(cap:Nat)(c:List Value)(h:let q2:=(HQ.blN (IntKind.u64.wrap (↑n:Int)).toNat);let q1:AH:=⟨eE (eE (eE (eE (eE (eE (eE (lL (AObj.cells 74 [Value.func (Fn.func f) ⟨[]⟩ ⟨[]⟩,Value.chan none,Value.chan none,Value.chan none] true 0)) nZ) nZ) nZ) nZ) nZ) nZ) (eE nZ (eE nZ (eE nZ (eE nZ (eE nZ (lL (AObj.cells 52 c false 2))))))),128⟩;let q0:AH:=⟨eE (eE (eE (eE (eE (eE (eE (lL (AObj.cells 74 [Value.func (Fn.func f) ⟨[]⟩ ⟨[]⟩,Value.chan none,Value.chan none,Value.chan none] true 0)) nZ) nZ) nZ) nZ) nZ) nZ) (eE nZ (eE nZ (eE nZ (eE nZ (eE nZ (lL (AObj.cells 52 (HQ.pdC f c 0 (↑n:Int).toNat (↑q2:Int).toNat) false 2))))))),128⟩;W.holds η prog B 45 (fun kp_ st_=>RunD η prog B 45 (H0 f n cap c) kp_ st_ (QF prog 128 D)) D (.call 63 [Value.int IntKind.u64 (IntKind.u64.wrap (↑n:Int))] (q1) (.ret (Value.int IntKind.i64 (↑q2:Int)) (q1)) (.call 62 [Value.slice (some ⟨126,0,none⟩) n cap,Value.int IntKind.i64 0,Value.int IntKind.i64 (↑n:Int),Value.int IntKind.i64 (↑q2:Int),Value.func (Fn.func 36) ⟨[Value.pointer (some ⟨127,0,none⟩)]⟩ ⟨[]⟩] (q1) (.ret (undef) (q0)) (.done 45 (undef) (q0))))):CallSpec η prog B 45 [Value.slice (some ⟨126,0,none⟩) n cap,Value.func (Fn.func 36) ⟨[Value.pointer (some ⟨127,0,none⟩)]⟩ ⟨[]⟩] (H0 f n cap c) D:=by
 refine CallSpec.ofQF hη (CallSpec.enter (fr:=(E f n cap c).fr) (by kernel_rfl) ?_)
 exact walk_okT (h0:=H0 f n cap c) hη hmix hreg (.steps 11 <| .call kN <| .steps 1 <| .call kN <| .steps 2 <| .done none) (E f n cap c) (by kernel_rfl) h (by kernel_rfl)
end KSortF
end Go.Ev

/- Sorting items: slices.SortFunc. -/
namespace Go.Ev
open Go Go.Proofs Go.RowKit
variable {η:Nat→Value} {B:Bd}
namespace HQ
theorem bl_small(l:Nat)(h:l≤1000000):Sort.bitsLen l≤1000:=by
 unfold Sort.bitsLen
 split
 ·omega
 ·rename_i h0
  have:=(Nat.log2_lt h0 (k:=20)).2 (by omega)
  omega
def srt(f:Nat)(d:A2):A2:=Sort.sort (ltA f) d
theorem srt_perm(f:Nat)(d:A2):(srt f d).toList.Perm d.toList∧(srt f d).size=d.size:=by
 obtain⟨⟨h1,_,h3⟩,_⟩:=Sort.sort_sorts (ltA f) (ltA_swo f) d
 refine⟨?_,h1⟩
 have e1:((Sort.sort (ltA f) d).extract 0 d.size)=Sort.sort (ltA f) d:=by rw [← h1];exact Array.extract_size
 have e2:d.extract 0 d.size=d:=Array.extract_size
 rw [e1,e2] at h3
 exact h3
theorem sortf_ok(hη:OneCells η)(hmix:Try.prog.follows .mixedOrders=true){f cap:Nat}{d:A2}(hf:isOrd f)(hm:d.size≤1000000) :
  CallSpec η Try.prog B 45 (sArgs d.size cap []) (heapS f (aC d)) (KT.ret undef (heapS f (aC (srt f d)))).sat:=by
 have eB:blN d.size=Sort.bitsLen d.size:=by unfold blN;rfl
 have wl:IntKind.u64.wrap ((d.size:Nat):Int)=((d.size:Nat):Int):=wu _ (by omega)
 have pk:=pdq_ok (B:=B) (n:=d.size) (cap:=cap) hη hmix hf (d.size+1) d 0 d.size (Sort.bitsLen d.size) (by omega) (Nat.zero_le _) (Nat.le_refl _) (Nat.le_refl _) hm (bl_small _ hm)
 have e:Sort.pdq (ltA f) d 0 d.size (Sort.bitsLen d.size) true true=srt f d:=rfl
 rw [e] at pk
 have bk:=bits_ok (B:=B) hη hmix
 refine KSortF.enter hη hmix (reg0 hη hmix) _ _ _ _ ?_
 simp only [W.holds,wl,Int.toNat_natCast,Int.toNat_zero,eB,pdC_eq,e,aC_nn,true_and,and_true,true_implies]
 refine⟨?_,?_,rfl,by kernel_rfl⟩
 ·have k:=fun H=>bk d.size H hm
  rw [eB] at k
  exact k _
 ·exact here_S hη (l:=[.int .i64 ((0:Nat):Int),.int .i64 (d.size:Int),.int .i64 ((Sort.bitsLen d.size:Nat):Int)]) (c:=d) rfl (by kernel_rfl) (by kernel_rfl) (fun _ _=>rv_un) (by kernel_rfl) pk
theorem sortf_any(hη:OneCells η)(hmix:Try.prog.follows .mixedOrders=true){f cap r v o:Nat}{d:A2}{x y z:Value}{H:AH}(hf:isOrd f)(hm:d.size≤1000000)(hr:H.objs.get r=some (.cells 52 (aC d) false 2))(hv:H.objs.get v=some (valO f x y z o))(hd:r ≠ v)(hx:oneC x=true)(hy:oneC y=true)(hz:oneC z=true) :
  CallSpec η Try.prog B 45 [.slice (some ⟨r,0,none⟩) d.size cap,.func (.func 36) ⟨[.pointer (some ⟨v,0,none⟩)]⟩ ⟨[]⟩] H
   (KT.ret undef ⟨putL (keyQ (rnS r v) 2 H.next) [some (.cells 52 (aC (srt f d)) false 2),some (valO f x y z o)] 0 H.objs,H.next+(2 - 2)⟩).sat:=
 any_S hη hr hv hd hx hy hz (sA d.size cap r v [] rfl) (fun _ _=>rv_un) (sortf_ok hη hmix hf hm)
end HQ
end Go.Ev

/- Contracts of queues, wherever they stand: Get, Set, Remove, Save; Same. -/
namespace Go.Ev
open Go Go.Proofs Go.RowKit
variable {η:Nat→Value} {B:Bd}
namespace HQ
theorem itemV_rv{σ:Nat→Nat}{N:Nat}{w:Bool}(c:List Value)(i:Nat):RV σ N w (itemV c i) (itemV c i):=.iface _ (.agg rfl fun j v x h1 h2=>by
 match j,h1,h2 with
 | 0,h1,h2=>simp at h1 h2;subst h1;subst h2;exact .int _ _
 | 1,h1,h2=>simp at h1 h2;subst h1;subst h2;exact .int _ _
 | j+2,h1,h2=>simp at h1)
theorem any_okN(hη:OneCells η){F:FuncId}{A A':List Value}{w:Value}{f:Nat}{x:Int}{n n' cap:Nat}{s s':QS}{g g':G}{k k':Nat}{v r m:Nat}{H:AH}(hv:H.objs.get v=some (objV f x r n cap m))(hr:H.objs.get r=some (.cells 52 s.c false 2))(hm:H.objs.get m=some (.map s.E s.ck true))(hd:v ≠ r∧v ≠ m∧r ≠ m)
  (hs:s.c=its g k) (hE:intE s.E) (hs':s'.c=its g' k') (hE':intE s'.E) (ha:L2 (RV (sigR (rnQ v r m)) 129 true) A A') (hw:∀ σ N,RV σ N false w w)
  (c:CallSpec η Try.prog B F A (heapV f (.int .i64 x) n cap s) (KT.ret w (heapV f (.int .i64 x) n' cap s')).sat):CallSpec η Try.prog B F A' H (KT.ret w (withQ H (objV f x r n' cap m) v r m s')).sat:=by
 have b1:s.c.all bareV=true:=by rw [hs];exact its_bare g k
 have b2:s'.c.all bareV=true:=by rw [hs'];exact its_bare g' k'
 refine CallSpec.move hη gs9 (rn:=rnQ v r m) (l:=[objV f x 127 n cap 128,.cells 52 s.c false 2,.map s.E s.ck true]) (l':=[objV f x r n cap m,.cells 52 s.c false 2,.map s.E s.ck true])
  (l2:=[some (objV f x 127 n' cap 128),some (.cells 52 s'.c false 2),some (.map s'.E s'.ck true)]) (l2':=[some (objV f x r n' cap m),some (.cells 52 s'.c false 2),some (.map s'.E s'.ck true)]) ⟨fun i a hi=>?_,?_,fun i j hi hj e=>?_⟩ (Nat.le_refl _) ha (hw _ _) ?_ ?_
 ·match i,hi with
  | 0,hi=>simp at hi;subst hi;exact hv
  | 1,hi=>simp at hi;subst hi;exact hr
  | 2,hi=>simp at hi;subst hi;exact hm
  | i+3,hi=>simp at hi
 ·exact .cons (ro_V (show 127<129 by decide) (show 128<129 by decide)) (.cons (.cells _ _ (l2_bareV b1) (.inl rfl)) (.cons (.map _ (bare_int hE) (.inl rfl)) .nil))
 ·simp only [List.length_cons,List.length_nil] at hi hj
  match i,j,hi,hj,e with
  | 0,0,_,_,_=>rfl
  | 1,1,_,_,_=>rfl
  | 2,2,_,_,_=>rfl
  | 0,1,_,_,e=>exact absurd e hd.1
  | 0,2,_,_,e=>exact absurd e hd.2.1
  | 1,0,_,_,e=>exact absurd e.symm hd.1
  | 1,2,_,_,e=>exact absurd e hd.2.2
  | 2,0,_,_,e=>exact absurd e.symm hd.2.1
  | 2,1,_,_,e=>exact absurd e.symm hd.2.2
 ·exact .cons (.some (ro_V (show 127<129 by decide) (show 128<129 by decide))) (.cons (.some (.cells _ _ (l2_bareV b2) (.inl rfl))) (.cons (.some (.map _ (bare_int hE') (.inl rfl))) .nil))
 ·exact c.mono fun v1 h1 ⟨e1,e2⟩=>⟨e1,by rw [e2];rfl,by rw [e2];exact⟨rfl,rfl,rfl,trivial⟩⟩
theorem plN_at{n:Nat}{g:G}{E:List MapEntry}(h:Plc n g E){k:Nat}(hk:k<n):plN E (g k).1=k:=by
 obtain⟨i,hi⟩:=h.find hk
 unfold plN
 rw [hi]
 show((k:Nat):Int).toNat=k
 exact Int.toNat_natCast k
theorem plc_tree{n:Nat}{g:G}{E:List MapEntry}(h:Plc n g E){k:Nat}(hk:k<n):(mFind (.int .i64) (.int .i64 (g k).1) E).isSome=true∧mVal (.int .i64 0) (mFind (.int .i64) (.int .i64 (g k).1) E) = .int .i64 (k:Int):=by
 obtain⟨i,hi⟩:=h.find hk
 have hi:mFind (.int .i64) (.int .i64 (g k).1) E=some (i,.int .i64 (k:Int)):=hi
 rw [hi]
 exact⟨rfl,rfl⟩
theorem cellsInt(k:Int):intAt (cellsL (.int .i64 k)) 0=k:=rfl
set_option maxRecDepth 20000 in
theorem get_home(hη:OneCells η)(hmix:Try.prog.follows .mixedOrders=true){f:Nat}{x:Int}{n m:Nat}{s:QS}{g:G}{p:Nat}(hs:s.c=its g m)(hP:Plc n g s.E)(hn:n≤m)(hp:p<n) :
  CallSpec η Try.prog B 19 [.pointer (some ⟨126,0,none⟩),.int .i64 (g p).1] (heapK f x n s) fun v h=>v=tupL [.int .i64 (g p).2,.int .i64 0]∧h.next=126+4∧hasQ h.objs [some (objQ 126 127),some (objV f x 128 n (capU 2) 129),some (.cells 52 s.c false 2),some (.map s.E s.ck true)] 126:=by
 obtain⟨c,E,ck⟩:=s
 simp only at hs hP
 subst hs
 obtain⟨t1,t2⟩:=plc_tree hP hp
 have f1:Instr.findNow (.int .i64) (.int .i64 (g p).1) E 0=some (mFind (.int .i64) (.int .i64 (g p).1) E):=find_fE hP.int
 obtain⟨i1,i2⟩:=its_int (g:=g) (m:=m) (k:=p) (by omega)
 obtain⟨j1,j2⟩:=its_get g (m:=m) (k:=p) (by omega)
 refine KGet.enter hη hmix (reg0 hη hmix) _ _ _ _ _ ?_
 simp only [W.holds,t1,t2,cellsInt,f1,i1,i2,j1,j2,Int.toNat_natCast,Nat.zero_add,true_and,and_true,true_implies,Bool.not_true,Bool.false_eq_true,false_implies,Bool.true_eq_false]
 exact⟨⟨by omega,by omega⟩,fun _=>⟨rfl,rfl,by kernel_rfl,by kernel_rfl,by kernel_rfl,by kernel_rfl,trivial⟩⟩
set_option maxRecDepth 20000 in
theorem set_home(hη:OneCells η)(hmix:Try.prog.follows .mixedOrders=true){f:Nat}{x:Int}{n m:Nat}{s:QS}{g:G}{p:Nat}(hf:isOrd f)(hs:s.c=its g m)(hP:Plc n g s.E)(hn:n≤m)(hp:p<n)(hm:n≤1000000)(u:Int) :
  CallSpec η Try.prog B 20 [.pointer (some ⟨126,0,none⟩),.int .i64 (g p).1,.int .i64 u] (heapK f x n s) fun v h=>v = .int .i64 0∧h.next=126+4∧hasQ h.objs [some (objQ 126 127),some (objV f x 128 n (capU 2) 129),some (.cells 52 (s.setv f n p u).c false 2),some (.map (s.setv f n p u).E (s.setv f n p u).ck true)] 126:=by
 obtain⟨c,E,ck⟩:=s
 simp only at hs hP
 subst hs
 have hl:=its_len g m
 obtain⟨t1,t2⟩:=plc_tree hP hp
 have f1:Instr.findNow (.int .i64) (.int .i64 (g p).1) E 0=some (mFind (.int .i64) (.int .i64 (g p).1) E):=find_fE hP.int
 have hc:(QS.mk (splice (its g m) (p * 2+1) [.int .i64 u]) E ck).c=its (upd g p ((g p).1,u)) m:=splice_v (by omega) u
 obtain⟨x1,x2⟩:=set_G (f:=f) (s:=⟨its g m,E,ck⟩) rfl hn hp u
 have fx:=fix_ok (B:=B) (x:=x) (cap:=capU 2) hη hmix hf hc hP.int hn hp hm
 refine KSet.enter hη hmix (reg0 hη hmix) _ _ _ _ _ _ ?_
 simp only [W.holds,t1,t2,cellsInt,f1,Int.toNat_natCast,Nat.zero_add,true_and,and_true,true_implies,Bool.not_true,Bool.false_eq_true,false_implies,Bool.true_eq_false]
 refine⟨⟨by omega,by omega⟩,fun _=>⟨by omega,fun _=>⟨?_,?_⟩⟩⟩
 ·exact(any_ok hη (v:=127) (r:=128) (m:=129) (by kernel_rfl) (by kernel_rfl) (by kernel_rfl) ⟨by decide,by decide,by decide⟩ hc hP.int x1 (x2 hP.int) (.cons (.iface _ (.ptr (by decide))) (.cons (.int _ _) .nil)) (fun _ _=>.tuple rfl (fun i v w h=>by simp at h)) fx).conv (by kernel_rfl)
 ·exact⟨by kernel_rfl,by kernel_rfl,by kernel_rfl,by kernel_rfl,trivial⟩
set_option maxRecDepth 20000 in
theorem rem_home(hη:OneCells η)(hmix:Try.prog.follows .mixedOrders=true){f:Nat}{x:Int}{n m:Nat}{s:QS}{g:G}{p:Nat}(hf:isOrd f)(hs:s.c=its g m)(hP:Plc n g s.E)(hn:n≤m)(hp:p<n)(hm:n≤1000000) :
  CallSpec η Try.prog B 18 [.pointer (some ⟨126,0,none⟩),.int .i64 (g p).1] (heapK f x n s) fun v h=>v=tupL [.int .i64 (g p).2,.int .i64 0]∧h.next=126+4∧hasQ h.objs [some (objQ 126 127),some (objV f x 128 (n - 1) (capU 2) 129),some (.cells 52 (s.rem f n p).c false 2),some (.map (s.rem f n p).E (s.rem f n p).ck true)] 126:=by
 obtain⟨t1,t2⟩:=plc_tree hP hp
 have f1:Instr.findNow (.int .i64) (.int .i64 (g p).1) s.E 0=some (mFind (.int .i64) (.int .i64 (g p).1) s.E):=find_fE hP.int
 obtain⟨r1,_⟩:=rem1_G (f:=f) hs hn hp
 obtain⟨x1,x2⟩:=rem_G (f:=f) hs hP.int hn hp
 have hv:intAt (s.rem1 f n p).c ((n - 1) * 2+1)=(g p).2:=by rw [r1,(its_int (k:=n - 1) (by omega)).2,rem1_last hp]
 have hr:=hrem_ok (B:=B) (x:=x) hη hmix hf hs hP.int hn hp hm
 refine KRem.enter hη hmix (reg0 hη hmix) _ _ _ _ _ ?_
 simp only [W.holds,t1,t2,cellsInt,f1,hv,qeta,Int.toNat_natCast,true_and,and_true,true_implies,Bool.not_true,Bool.false_eq_true,false_implies,Bool.true_eq_false]
 refine⟨?_,?_⟩
 ·have e:itemV (s.rem1 f n p).c (n - 1) = .iface 52 (.agg ⟨[.int .i64 (intAt (s.rem1 f n p).c ((n - 1) * 2)),.int .i64 (g p).2]⟩):=by unfold itemV;rw [hv]
  have k:=any_okN hη (v:=127) (r:=128) (m:=129) (H:=heapK f x n s) (by kernel_rfl) (by kernel_rfl) (by kernel_rfl) ⟨by decide,by decide,by decide⟩ hs hP.int x1 x2 (A':=[.iface 69 (.pointer (some ⟨127,0,none⟩)),.int .i64 (p:Int)]) (.cons (.iface _ (.ptr (by decide))) (.cons (.int _ _) .nil)) (fun _ _=>itemV_rv _ _) hr
  rw [e] at k
  exact k.conv (by kernel_rfl)
 ·exact⟨rfl,by kernel_rfl,by kernel_rfl,by kernel_rfl,by kernel_rfl,trivial⟩
end HQ
end Go.Ev

/- Contracts of queues, wherever they stand: Get, Set, Remove, Save; Same. -/
namespace Go.Ev
open Go Go.Proofs Go.RowKit
variable {η:Nat→Value} {B:Bd}
namespace HQ
theorem bare_Q{s:QS}{g:G}{k:Nat}(h:s.c=its g k):s.c.all bareV=true:=by rw [h];exact its_bare g k
theorem get_any(hη:OneCells η)(hmix:Try.prog.follows .mixedOrders=true){H:AH}{q v r m f:Nat}{x:Int}{n k p:Nat}{s:QS}{g:G}(a:QAt H q v r m f x n s)(hs:s.c=its g k)(hP:Plc n g s.E)(hn:n≤k)(hp:p<n) :
  CallSpec η Try.prog B 19 [.pointer (some ⟨q,0,none⟩),.int .i64 (g p).1] H (KT.ret (tupL [.int .i64 (g p).2,.int .i64 0]) ⟨putL (keyQ (rnK q v r m) 4 H.next) [some (objQ q v),some (objV f x r n (capU 2) m),some (.cells 52 s.c false 2),some (.map s.E s.ck true)] 0 H.objs,H.next+(4 - 4)⟩).sat:=by
 refine CallSpec.move hη gs9 (l2:=[some (objQ 126 127),some (objV f x 128 n (capU 2) 129),some (.cells 52 s.c false 2),some (.map s.E s.ck true)])
  (args:=[.pointer (some ⟨126,0,none⟩),.int .i64 (g p).1]) (stands4 a hs hP.int) (by simp) (.cons (.ptr (show 126<130 by decide)) (.cons (.int _ _) .nil)) (tup_rv rfl) ?_ (get_home hη hmix hs hP hn hp)
 exact .cons (.some (ro_Q (show 126<130 by decide) (show 127<130 by decide))) (.cons (.some (ro_V (r:=128) (m:=129) (show 128<130 by decide) (show 129<130 by decide))) (.cons (.some (.cells _ _ (l2_bareV (bare_Q hs)) (.inl rfl))) (.cons (.some (.map _ (bare_int hP.int) (.inl rfl))) .nil)))
theorem set_any(hη:OneCells η)(hmix:Try.prog.follows .mixedOrders=true){H:AH}{q v r m f:Nat}{x:Int}{n k p:Nat}{s:QS}{g:G}(a:QAt H q v r m f x n s)(hf:isOrd f)(hs:s.c=its g k)(hP:Plc n g s.E)(hn:n≤k)(hp:p<n)(hm:n≤1000000)(u:Int) :
  CallSpec η Try.prog B 20 [.pointer (some ⟨q,0,none⟩),.int .i64 (g p).1,.int .i64 u] H (KT.ret (.int .i64 0) ⟨putL (keyQ (rnK q v r m) 4 H.next) [some (objQ q v),some (objV f x r n (capU 2) m),some (.cells 52 (s.setv f n p u).c false 2),some (.map (s.setv f n p u).E (s.setv f n p u).ck true)] 0 H.objs,H.next+(4 - 4)⟩).sat:=by
 obtain⟨x1,x2⟩:=set_G (f:=f) hs hn hp u
 refine CallSpec.move hη gs9 (l2:=[some (objQ 126 127),some (objV f x 128 n (capU 2) 129),some (.cells 52 (s.setv f n p u).c false 2),some (.map (s.setv f n p u).E (s.setv f n p u).ck true)])
  (args:=[.pointer (some ⟨126,0,none⟩),.int .i64 (g p).1,.int .i64 u]) (stands4 a hs hP.int) (by simp) (.cons (.ptr (show 126<130 by decide)) (.cons (.int _ _) (.cons (.int _ _) .nil))) (.int _ _) ?_ (set_home hη hmix hf hs hP hn hp hm u)
 exact .cons (.some (ro_Q (show 126<130 by decide) (show 127<130 by decide))) (.cons (.some (ro_V (r:=128) (m:=129) (show 128<130 by decide) (show 129<130 by decide))) (.cons (.some (.cells _ _ (l2_bareV (bare_Q x1)) (.inl rfl))) (.cons (.some (.map _ (bare_int (x2 hP.int)) (.inl rfl))) .nil)))
theorem rem_any(hη:OneCells η)(hmix:Try.prog.follows .mixedOrders=true){H:AH}{q v r m f:Nat}{x:Int}{n k p:Nat}{s:QS}{g:G}(a:QAt H q v r m f x n s)(hf:isOrd f)(hs:s.c=its g k)(hP:Plc n g s.E)(hn:n≤k)(hp:p<n)(hm:n≤1000000) :
  CallSpec η Try.prog B 18 [.pointer (some ⟨q,0,none⟩),.int .i64 (g p).1] H (KT.ret (tupL [.int .i64 (g p).2,.int .i64 0]) ⟨putL (keyQ (rnK q v r m) 4 H.next) [some (objQ q v),some (objV f x r (n - 1) (capU 2) m),some (.cells 52 (s.rem f n p).c false 2),some (.map (s.rem f n p).E (s.rem f n p).ck true)] 0 H.objs,H.next+(4 - 4)⟩).sat:=by
 obtain⟨x1,x2⟩:=rem_G (f:=f) hs hP.int hn hp
 refine CallSpec.move hη gs9 (l2:=[some (objQ 126 127),some (objV f x 128 (n - 1) (capU 2) 129),some (.cells 52 (s.rem f n p).c false 2),some (.map (s.rem f n p).E (s.rem f n p).ck true)])
  (args:=[.pointer (some ⟨126,0,none⟩),.int .i64 (g p).1]) (stands4 a hs hP.int) (by simp) (.cons (.ptr (show 126<130 by decide)) (.cons (.int _ _) .nil)) (tup_rv rfl) ?_ (rem_home hη hmix hf hs hP hn hp hm)
 exact .cons (.some (ro_Q (show 126<130 by decide) (show 127<130 by decide))) (.cons (.some (ro_V (r:=128) (m:=129) (show 128<130 by decide) (show 129<130 by decide))) (.cons (.some (.cells _ _ (l2_bareV (bare_Q x1)) (.inl rfl))) (.cons (.some (.map _ (bare_int x2) (.inl rfl))) .nil)))
/- Save -/
theorem take_its{g:G}{n m:Nat}(h:n≤m):List.take (n * 2) (its g m)=its g n:=by
 have hl:=its_len g m
 refine its_ext (by rw [List.length_take];omega) fun k hk=>?_
 rw [List.getElem?_take,List.getElem?_take,if_pos (by omega),if_pos (by omega)]
 exact its_get g (by omega)
def arrL(l:LI):A2:=l.toArray
theorem its_aC(g:G)(n:Nat):its g n=aC (arrL (lst g n)):=by
 unfold aC
 have hsz:(arrL (lst g n)).size=n:=by unfold arrL;rw [List.size_toArray,lst_len]
 rw [hsz]
 refine its_congr fun k hk=>?_
 have h1:k<(lst g n).length:=by rw [lst_len];exact hk
 have h2:=lst_get (g:=g) hk
 unfold arrL
 rw [List.getElem?_eq_getElem h1] at h2
 injection h2 with h2
 simp only [List.getElem!_toArray,List.getElem!_eq_getElem?_getD,List.getElem?_eq_getElem h1,Option.getD_some]
 exact h2.symm
def srtL(f:Nat)(l:LI):LI:=(srt f (arrL l)).toList
theorem arrL_toList(d:A2):arrL d.toList=d:=by unfold arrL;simp
theorem svC_its{f n m:Nat}{g:G}(h:n≤m):svC f n (its g m)=aC (arrL (srtL f (lst g n))):=by
 unfold svC srtL
 rw [take_its h,its_aC,aC_arr,arrL_toList]
 rfl
theorem soC_aC(f:Nat)(d:A2):soC f (aC d)=aC (srt f d):=by unfold soC;rw [aC_arr];rfl
theorem aC_oneC(d:A2):(aC d).all oneC=true:=by
 have h:=its_bare (fun i=>d[i]!) d.size
 rw [List.all_eq_true] at h ⊢
 intro v hv
 have hb:=h v hv
 cases v <;> first | rfl | (simp [bareV] at hb;done) | (rename_i a _ _;cases a <;> first | rfl | simp [bareV] at hb) | (rename_i a;cases a <;> first | rfl | simp [bareV] at hb)
set_option maxRecDepth 20000 in
theorem save_home(hη:OneCells η)(hmix:Try.prog.follows .mixedOrders=true){f:Nat}{x:Int}{n m:Nat}{s:QS}{g:G}(hf:isOrd f)(hs:s.c=its g m)(hE:intE s.E)(hn:n≤m)(h0:0<n)(hm:n≤1000000) :
  CallSpec η Try.prog B 13 [.pointer (some ⟨126,0,none⟩)] (heapK f x n s) fun v h=>v = .agg ⟨[.int .i64 x,.slice (some ⟨130,0,none⟩) n (capU 2)]⟩∧h.next=126+5∧hasQ h.objs [some (objQ 126 127),some (objV f x 128 n (capU 2) 129),some (.cells 52 s.c false 2),some (.map s.E s.ck true),some (.cells 52 (svC f n s.c) false 2)] 126:=by
 obtain⟨c,E,ck⟩:=s
 simp only at hs hE
 subst hs
 have hl:=its_len g m
 have hd:(arrL (lst g n)).size=n:=by unfold arrL;rw [List.size_toArray,lst_len]
 have e1:List.take (n * 2) (its g m)=aC (arrL (lst g n)):=by rw [take_its hn,its_aC]
 have e2:svC f n (its g m)=aC (srt f (arrL (lst g n))):=by rw [svC_its hn];unfold srtL;rw [arrL_toList]
 have e3:(aC (arrL (lst g n))).length=n * 2:=by rw [aC_len,hd]
 rw [e2]
 refine KSave.enter hη hmix (reg0 hη hmix) _ _ _ _ ?_
 simp only [W.holds,Nat.zero_add,List.nil_append,List.drop_zero,e1,soC_aC,e3,aC_oneC,true_and,and_true,true_implies]
 refine⟨⟨by omega,h0,hm⟩,fun _=>⟨?_,⟨its_nn g m,nn_int hE,aC_nn _⟩,fun _=>?_⟩⟩
 ·have k:=fun H hr hv=>sortf_any (B:=B) (H:=H) (f:=f) (cap:=capU 2) (r:=132) (v:=127) (o:=2) (d:=arrL (lst g n)) (x:=.int .i64 x) (y:=.slice (some ⟨128,0,none⟩) n (capU 2)) (z:=.map (some 129)) hη hmix hf (by rw [hd];exact hm) hr hv (by decide) rfl rfl rfl
  rw [hd] at k
  exact(k _ (by kernel_rfl) (by kernel_rfl)).conv (by kernel_rfl)
 ·exact⟨rfl,by kernel_rfl,by kernel_rfl,by kernel_rfl,by kernel_rfl,by kernel_rfl,trivial⟩
theorem save_any(hη:OneCells η)(hmix:Try.prog.follows .mixedOrders=true){H:AH}{q v r m f:Nat}{x:Int}{n k:Nat}{s:QS}{g:G}(a:QAt H q v r m f x n s)(hf:isOrd f)(hs:s.c=its g k)(hE:intE s.E)(hn:n≤k)(h0:0<n)(hm:n≤1000000) :
  CallSpec η Try.prog B 13 [.pointer (some ⟨q,0,none⟩)] H (KT.ret (.agg ⟨[.int .i64 x,.slice (some ⟨H.next,0,none⟩) n (capU 2)]⟩) ⟨putL (keyQ (rnK q v r m) 4 H.next) [some (objQ q v),some (objV f x r n (capU 2) m),some (.cells 52 s.c false 2),some (.map s.E s.ck true),some (.cells 52 (svC f n s.c) false 2)] 0 H.objs,H.next+(5 - 4)⟩).sat:=by
 have b3:(svC f n s.c).all bareV=true:=by rw [hs,svC_its hn];exact its_bare _ _
 refine CallSpec.move hη gs9 (v:=.agg ⟨[.int .i64 x,.slice (some ⟨130,0,none⟩) n (capU 2)]⟩) (l2:=[some (objQ 126 127),some (objV f x 128 n (capU 2) 129),some (.cells 52 s.c false 2),some (.map s.E s.ck true),some (.cells 52 (svC f n s.c) false 2)])
  (args:=[.pointer (some ⟨126,0,none⟩)]) (stands4 a hs hE) (by simp) (.cons (.ptr (show 126<130 by decide)) .nil) (.agg rfl fun j y z h1 h2=>?_) ?_ (save_home hη hmix hf hs hE hn h0 hm)
 ·match j,h1,h2 with
  | 0,h1,h2=>simp at h1 h2;subst h1;subst h2;exact .int _ _
  | 1,h1,h2=>simp at h1 h2;subst h1;subst h2;exact .slice _ _ (show 130<131 by decide)
  | j+2,h1,h2=>simp at h1
 ·exact .cons (.some (ro_Q (show 126<131 by decide) (show 127<131 by decide))) (.cons (.some (ro_V (r:=128) (m:=129) (show 128<131 by decide) (show 129<131 by decide))) (.cons (.some (.cells _ _ (l2_bareV (bare_Q hs)) (.inl rfl))) (.cons (.some (.map _ (bare_int hE) (.inl rfl))) (.cons (.some (.cells _ _ (l2_bareV b3) (.inl rfl))) .nil))))
/- Same -/
theorem sameC_its{g1 g2:G}{n m k1 k2:Nat}(h1:n≤k1)(h2:n≤k2):sameC n (its g1 k1) m (its g2 k2)=decide (n=m∧∀ i,i<n→g1 i=g2 i):=by
 unfold sameC
 refine decide_eq_decide.2 ⟨fun ⟨e,h⟩=>⟨e,fun i hi=>?_⟩,fun ⟨e,h⟩=>⟨e,fun i hi=>?_⟩⟩
 ·have a:=h (i * 2) (by omega)
  have b:=h (i * 2+1) (by omega)
  rw [(its_int (by omega)).1,(its_int (by omega)).1] at a
  rw [(its_int (by omega)).2,(its_int (by omega)).2] at b
  exact Prod.ext a b
 ·have e2:=h (i / 2) (by omega)
  rcases Nat.mod_two_eq_zero_or_one i with q | q
  ·rw [show i=i / 2 * 2 by omega,(its_int (by omega)).1,(its_int (by omega)).1,e2]
  ·rw [show i=i / 2 * 2+1 by omega,(its_int (by omega)).2,(its_int (by omega)).2,e2]
set_option maxRecDepth 20000 in
theorem same_home(hη:OneCells η)(hmix:Try.prog.follows .mixedOrders=true){g1 g2:G}{n m k1 k2 c1 c2:Nat}(h1:n≤k1)(h2:m≤k2)(hn:n≤1000000) :
  CallSpec η Try.prog B 14 [.slice (some ⟨126,0,none⟩) n c1,.slice (some ⟨127,0,none⟩) m c2] (heapO [.cells 52 (its g1 k1) false 0,.cells 52 (its g2 k2) false 0]) (KT.ret (.bool (sameC n (its g1 k1) m (its g2 k2))) (heapO [.cells 52 (its g1 k1) false 0,.cells 52 (its g2 k2) false 0])).sat:=by
 have l1:=its_len g1 k1
 have l2:=its_len g2 k2
 generalize hR:sameC n (its g1 k1) m (its g2 k2)=R
 have cut:=fun i0=>KSame.cut0 (η:=η) (B:=B) (D:=(KT.ret (.bool R) (heapO [.cells 52 (its g1 k1) false 0,.cells 52 (its g2 k2) false 0])).sat) hη hmix (reg0 hη hmix) (its g1 k1) (its g2 k2) n m c1 c2 i0
 have loop:∀ (d i:Nat),n - i=d→i≤n→n=m→(∀ j,j<i→g1 j=g2 j)→RunD η Try.prog B 14 (KSame.H0 (its g1 k1) (its g2 k2) n m c1 c2) [0,1,5] (KSame.S0 (its g1 k1) (its g2 k2) n m c1 c2 (i:Int) fun _=>undef) (QF Try.prog 128 (KT.ret (.bool R) (heapO [.cells 52 (its g1 k1) false 0,.cells 52 (its g2 k2) false 0])).sat):=by
  intro d
  induction d with
  | zero=>
   intro i hd hi e hall
   refine cut _ ?_
   simp only [W.holds,true_and,and_true,true_implies,decide_eq_true_eq,decide_eq_false_iff_not]
   refine⟨fun q=>by omega,fun _=>⟨?_,by kernel_rfl⟩⟩
   rw [← hR,sameC_its h1 (by omega)]
   congr 1
   exact(decide_eq_true ⟨e,fun j hj=>hall j (by omega)⟩).symm
  | succ d ih=>
   intro i hd hi e hall
   have hin:i<n:=by omega
   obtain⟨a1,a2⟩:=its_int (g:=g1) (m:=k1) (k:=i) (by omega)
   obtain⟨b1,b2⟩:=its_int (g:=g2) (m:=k2) (k:=i) (by omega)
   have w1:IntKind.i64.wrap ((i:Int)+1)=((i+1:Nat):Int):=by rw [wrap_small (by omega) (by omega)];omega
   have ca:=its_cut (g:=g1) (m:=k1) (k:=i) (by omega)
   have cb:=its_cut (g:=g2) (m:=k2) (k:=i) (by omega)
   refine cut _ ?_
   simp only [W.holds,Int.toNat_natCast,Nat.zero_add,a1,a2,b1,b2,ca,cb,w1,true_and,and_true,true_implies,decide_eq_true_eq,decide_eq_false_iff_not]
   refine⟨fun _=>⟨⟨by omega,by omega⟩,fun _=>⟨by omega,fun _=>⟨⟨by omega,by omega⟩,fun _=>⟨by omega,fun _=>⟨fun q=>⟨⟨its_nn _ _,its_nn _ _⟩,fun _=>⟨?_,by kernel_rfl⟩⟩,fun q=>⟨⟨its_nn _ _,its_nn _ _⟩,fun _=>?_⟩⟩⟩⟩⟩⟩,fun q=>by omega⟩
   ·rw [← hR,sameC_its h1 (by omega)]
    congr 1
    refine(decide_eq_false fun h=>?_).symm
    have:=h.2 i hin
    rw [this] at q
    simp at q
   ·refine ih (i+1) (by omega) hin e fun j hj=>?_
    by_cases c:j=i
    ·subst c
     simp at q
     exact Prod.ext q.1 q.2
    ·exact hall j (by omega)
 refine KSame.enter hη hmix (reg0 hη hmix) _ _ _ _ _ _ ?_
 simp only [W.holds,true_and,bne_iff_ne,ne_eq,bne_eq_false_iff_eq]
 refine⟨fun q=>⟨?_,by kernel_rfl⟩,fun q=>loop n 0 rfl (Nat.zero_le _) (by omega) fun j hj=>absurd hj (Nat.not_lt_zero j)⟩
 rw [← hR]
 unfold sameC
 congr 1
 exact(decide_eq_false fun h=>q (by rw [h.1])).symm
end HQ
end Go.Ev

/- Queues: contracts' words for made, walked; the law's calls. -/
namespace Go.Ev.HQ
open Go Go.Ev
def ordN(b:Int):Nat:=if b.tmod 2=1 then 31 else 24
def mkS(f:Nat)(src:Nat→Int):Nat→QS
 | 0=>⟨[],[],0⟩
 | i+1=>(mkS f src i).push f i ((i+1:Nat):Int) (src i)
def mdS(f:Nat)(c:List Value)(o n:Nat):QS:=mkS f (fun j=>intAt c (o+j)) n
def QS.pushT(f n:Nat)(s:QS)(x y:Int):QS:=QS.push f n ⟨s.c.take (n * 2),s.E,s.ck⟩ x y
def walkK:List Value→AH→KT
 | [.pointer (some ⟨q,0,none⟩)],H=>onK H q fun v r m oq ov _ f n s=>.ret (.slice (some ⟨H.next,0,none⟩) n (capU 2)) ⟨putL (keyQ (rnK q v r m) 4 H.next) [some oq,some ov,some (.cells 52 s.c false 2),some (.map s.E s.ck true),some (.cells 52 (svC f n s.c) false 2)] 0 H.objs,H.next+(5 - 4)⟩
 | _,H=>.ret undef H
end Go.Ev.HQ

namespace Go.Ev
open Go Go.Proofs
open Go.Ev.T renaming node → nN, nil → nZ
open Go.Proofs.Try (prog)
set_option maxRecDepth 100000
set_option maxHeartbeats 2000000
namespace KMade
noncomputable def bd:Code:=(Go.Proofs.Try.f16.body).getD .skip
noncomputable def H0(by_:Int)(ty:Nat)(o:Nat)(c:List Value)(n:Nat)(cap:Nat):AH:={ objs:=eE nZ (eE nZ (eE nZ (eE nZ (eE nZ (eE nZ (lL (AObj.cells ty c false 0))))))),next:=127 }
noncomputable def E(by_:Int)(ty:Nat)(o:Nat)(c:List Value)(n:Nat)(cap:Nat):AS:=⟨⟨16,37,nS (uI by_) (lL (sS 126 o n cap)) nZ,[Item.code (codeAt bd [])],[],FrameMode.run,CallKind.normal,none⟩,[],H0 by_ ty o c n cap⟩
noncomputable def S0(by_:Int)(ty:Nat)(o:Nat)(c:List Value)(n:Nat)(cap:Nat) (d:Nat→Value):AS:=⟨⟨16,37,nS (d 0) (nS (sS 126 o n cap) (nS (d 3) (nS (d 7) (nS (d 15) (lL (d 31)) nZ) (lL (d 23))) (nS (d 11) (nS (d 19) (lL (d 35)) nZ) (lL (d 27)))) (nS (pP 127 0) (nS (d 9) (nS (d 17) (lL (d 33)) nZ) (lL (d 25))) (nS (d 13) (lL (d 21)) (lL (d 29))))) (nS (d 2) (nS (d 4) (nS (d 8) (nS (d 16) (lL (d 32)) nZ) (lL (d 24))) (nS (d 12) (nS (d 20) (lL (d 36)) nZ) (lL (d 28)))) (nS (iI 0) (nS (d 10) (nS (d 18) (lL (d 34)) nZ) (lL (d 26))) (nS (d 14) (lL (d 22)) (lL (d 30))))),[Item.code (codeAt bd [1,1,1,0,1,0,0]),Item.inLoop (codeAt bd [1,1,1,0,1,0,0]),Item.inBlock 0,Item.code (codeAt bd [1,1,1,1])],[],FrameMode.run,CallKind.normal,none⟩,[],⟨eE (eE (eE (eE (eE (eE (eE (lL (AObj.cells 78 [pP 127 0,pP 128 0] true 2)) nZ) nZ) nZ) nZ) nZ) (eE (eE (eE (eE (eE (lL (AObj.map [] 0 true)) nZ) nZ) nZ) nZ) nZ)) (eE (eE (eE (eE (eE (eE (lL (AObj.cells 74 [Value.func (Fn.func (HQ.ordN by_)) ⟨[]⟩ ⟨[]⟩,iI 1,Value.slice none 0 0,Value.map (some 129)] true 2)) nZ) nZ) nZ) nZ) nZ) (eE nZ (eE nZ (eE nZ (eE nZ (lL (AObj.cells ty c false 0))))))),130⟩⟩
noncomputable def S1(by_:Int)(ty:Nat)(o:Nat)(c:List Value)(n:Nat)(cap:Nat)(i0:Int)(l0:List Value)(i1:Int)(n0:Nat)(m0:List MapEntry)(n1:Nat)(d:Nat→Value):AS:=⟨⟨16,37,nS (d 0) (nS (sS 126 o n cap) (nS (d 3) (nS (d 7) (nS (d 15) (lL (d 31)) nZ) (lL (d 23))) (nS (d 11) (nS (d 19) (lL (d 35)) nZ) (lL (d 27)))) (nS (pP 127 0) (nS (d 9) (nS (d 17) (lL (d 33)) nZ) (lL (d 25))) (nS (d 13) (lL (d 21)) (lL (d 29))))) (nS (d 2) (nS (d 4) (nS (d 8) (nS (d 16) (lL (d 32)) nZ) (lL (d 24))) (nS (d 12) (nS (d 20) (lL (d 36)) nZ) (lL (d 28)))) (nS (iI i0) (nS (d 10) (nS (d 18) (lL (d 34)) nZ) (lL (d 26))) (nS (d 14) (lL (d 22)) (lL (d 30))))),[Item.code (codeAt bd [1,1,1,0,1,0,0]),Item.inLoop (codeAt bd [1,1,1,0,1,0,0]),Item.inBlock 0,Item.code (codeAt bd [1,1,1,1])],[],FrameMode.run,CallKind.normal,none⟩,[],⟨eE (eE (eE (eE (eE (eE (eE (lL (AObj.cells 78 [pP 127 0,pP 128 0] true 2)) nZ) nZ) nZ) nZ) nZ) (eE (eE (eE (eE (eE (lL (AObj.cells 52 l0 false 2)) nZ) nZ) nZ) nZ) nZ)) (eE (eE (eE (eE (eE (eE (lL (AObj.cells 74 [Value.func (Fn.func (HQ.ordN by_)) ⟨[]⟩ ⟨[]⟩,iI i1,sS 129 0 n0 u2,Value.map (some 130)] true 2)) nZ) nZ) nZ) nZ) nZ) (eE (eE (eE (eE (eE (lL (AObj.map m0 n1 true)) nZ) nZ) nZ) nZ) (eE nZ (eE nZ (eE nZ (lL (AObj.cells ty c false 0))))))),131⟩⟩
theorem enter{η:Nat→Value}{B:Bd}(hη:OneCells η)(hmix:prog.follows .mixedOrders=true)(hreg:RegOk η prog B noNest){D:Value→AH→Prop}(by_:Int)(ty:Nat)(o:Nat)(c:List Value)(n:Nat)(cap:Nat)(h:let q0:AH:=⟨eE nZ (eE nZ (eE nZ (eE nZ (eE nZ (eE nZ (lL (AObj.cells ty c false 0))))))),127⟩;W.holds η prog B 16 (fun kp_ st_=>RunD η prog B 16 (H0 by_ ty o c n cap) kp_ st_ (QF prog 127 D)) D (.call 8 [Value.int IntKind.u8 by_] (q0) (.ret (Value.func (Fn.func (HQ.ordN by_)) ⟨[]⟩ ⟨[]⟩) (q0)) (.call 7 [Value.func (Fn.func (HQ.ordN by_)) ⟨[]⟩ ⟨[]⟩] (q0) (.ret (Value.pointer (some ⟨127,0,none⟩)) (⟨eE (eE (eE (eE (eE (eE (eE (lL (AObj.cells 78 [pP 127 0,pP 128 0] true 2)) nZ) nZ) nZ) nZ) nZ) (eE (eE (eE (eE (eE (lL (AObj.map [] 0 true)) nZ) nZ) nZ) nZ) nZ)) (eE (eE (eE (eE (eE (eE (lL (AObj.cells 74 [Value.func (Fn.func (HQ.ordN by_)) ⟨[]⟩ ⟨[]⟩,iI 1,Value.slice none 0 0,Value.map (some 129)] true 2)) nZ) nZ) nZ) nZ) nZ) (eE nZ (eE nZ (eE nZ (eE nZ (lL (AObj.cells ty c false 0))))))),130⟩)) (.ite (decide ((↑n:Int) > (300:Int))) (.need (NoNames c∧True) (.done 16 (Value.pointer none) (H0 by_ ty o c n cap))) (.stop [1,5,6] (S0 by_ ty o c n cap  (fun _=>undef))))))):CallSpec η prog B 16 [Value.int IntKind.u8 by_,Value.slice (some ⟨126,o,none⟩) n cap] (H0 by_ ty o c n cap) D:=by
 refine CallSpec.ofQF hη (CallSpec.enter (fr:=(E by_ ty o c n cap).fr) (by kernel_rfl) ?_)
 exact walk_okT (h0:=H0 by_ ty o c n cap) hη hmix hreg (.steps 7 <| .call kN <| .call kN <| .steps 13 <| .bit 18 (.steps 6 <| .done (some ⟨127,[],[(126,(126,true))]⟩)) (.steps 9 <| .stop [1,5,6] none)) (E by_ ty o c n cap) (by kernel_rfl) h (by kernel_rfl)
theorem cut0{η:Nat→Value}{B:Bd}(hη:OneCells η)(hmix:prog.follows .mixedOrders=true)(hreg:RegOk η prog B noNest){D:Value→AH→Prop}(by_:Int)(ty:Nat)(o:Nat)(c:List Value)(n:Nat)(cap:Nat) (h:let q0:AH:=⟨eE (eE (eE (eE (eE (eE (eE (lL (AObj.cells 78 [pP 127 0,pP 128 0] true 2)) nZ) nZ) nZ) nZ) nZ) (eE (eE (eE (eE (eE (lL (AObj.map [] 0 true)) nZ) nZ) nZ) nZ) nZ)) (eE (eE (eE (eE (eE (eE (lL (AObj.cells 74 [Value.func (Fn.func (HQ.ordN by_)) ⟨[]⟩ ⟨[]⟩,iI 1,Value.slice none 0 0,Value.map (some 129)] true 2)) nZ) nZ) nZ) nZ) nZ) (eE nZ (eE nZ (eE nZ (eE nZ (lL (AObj.cells ty c false 0))))))),130⟩;W.holds η prog B 16 (fun kp_ st_=>RunD η prog B 16 (H0 by_ ty o c n cap) kp_ st_ (QF prog 127 D)) D (.ite (decide ((0:Int)<(↑n:Int))) (.need ((0:Int)≤(0:Int)∧(0:Int)<(↑n:Int)) (.need (c[o+(0:Nat)]? = some (Value.int IntKind.i64 (intAt c (o+(0:Nat))))) (.call 17 [Value.pointer (some ⟨127,0,none⟩),Value.int IntKind.i64 (intAt c (o+0))] (q0) (.ret (Value.tuple ⟨[Value.int IntKind.i64 1,Value.int IntKind.i64 0]⟩) (⟨eE (eE (eE (eE (eE (eE (eE (lL (AObj.cells 78 [pP 127 0,pP 128 0] true 2)) nZ) nZ) nZ) nZ) nZ) (eE (eE (eE (eE (eE (lL (AObj.map [{ key:=iI 1,val:=iI 0,born:=0 }] 1 true)) nZ) nZ) nZ) nZ) nZ)) (eE (eE (eE (eE (eE (eE (lL (AObj.cells 74 [Value.func (Fn.func (HQ.ordN by_)) ⟨[]⟩ ⟨[]⟩,iI 2,sS 130 0 1 u2,Value.map (some 129)] true 2)) nZ) nZ) nZ) nZ) nZ) (eE (eE (eE (eE (eE (lL (AObj.cells 52 [iI 1,iI (intAt c (o+0))] false 2)) nZ) nZ) nZ) nZ) (eE nZ (eE nZ (eE nZ (lL (AObj.cells ty c false 0))))))),131⟩)) (.need (NoNames c∧True∧True∧True∧True∧True) (.stop [1,5,6] (S1 by_ ty o c n cap (1) ([Value.int IntKind.i64 1,Value.int IntKind.i64 (intAt c (o+0))]) (2) (1) ([{ key:=Value.int IntKind.i64 1,val:=Value.int IntKind.i64 0,born:=0 }]) (1) (fun _=>undef))))))) (.done 16 (Value.pointer (some ⟨127,0,none⟩)) (q0)))):RunD η prog B 16 (H0 by_ ty o c n cap) [1,5,6] (S0 by_ ty o c n cap  fun _=>undef) (QF prog 127 D):=by
 refine RunD.intro (S0 by_ ty o c n cap) (fun d=>⟨rfl,rfl,rfl⟩) (fun d=>tmOk_get (by kernel_rfl)) (fun d=>by kernel_rfl) (fun d=>?_)
 exact walk_okT (h0:=H0 by_ ty o c n cap) hη hmix hreg (.steps 8 <| .bit 22 (.steps 9 <| .op <| .op <| .call kN <| .steps 20 <| .stop [1,5,6] (some ⟨131,[(127,127),(128,128),(130,129),(129,130)],[(126,(126,true)),(127,(127,false)),(128,(128,false)),(129,(130,false)),(130,(129,false))]⟩)) (.steps 8 <| .done none)) (S0 by_ ty o c n cap  d) (by kernel_rfl) h (by kernel_rfl)
theorem cut1{η:Nat→Value}{B:Bd}(hη:OneCells η)(hmix:prog.follows .mixedOrders=true)(hreg:RegOk η prog B noNest){D:Value→AH→Prop}(by_:Int)(ty:Nat)(o:Nat)(c:List Value)(n:Nat)(cap:Nat)(i0:Int)(l0:List Value)(i1:Int)(n0:Nat)(m0:List MapEntry)(n1:Nat)(h:let q2:=(HQ.QS.push (HQ.ordN by_) n0 (HQ.QS.mk (l0) (m0) (n1)) i1 (intAt c (o+i0.toNat * 1)));let q1:=(HQ.QS.push (HQ.ordN by_) n0 (HQ.QS.mk (l0) (m0) (n1)) i1 (intAt c (o+i0.toNat * (1:Nat))));let q0:AH:=⟨eE (eE (eE (eE (eE (eE (eE (lL (AObj.cells 78 [pP 127 0,pP 128 0] true 2)) nZ) nZ) nZ) nZ) nZ) (eE (eE (eE (eE (eE (lL (AObj.cells 52 l0 false 2)) nZ) nZ) nZ) nZ) nZ)) (eE (eE (eE (eE (eE (eE (lL (AObj.cells 74 [Value.func (Fn.func (HQ.ordN by_)) ⟨[]⟩ ⟨[]⟩,iI i1,sS 129 0 n0 u2,Value.map (some 130)] true 2)) nZ) nZ) nZ) nZ) nZ) (eE (eE (eE (eE (eE (lL (AObj.map m0 n1 true)) nZ) nZ) nZ) nZ) (eE nZ (eE nZ (eE nZ (lL (AObj.cells ty c false 0))))))),131⟩;W.holds η prog B 16 (fun kp_ st_=>RunD η prog B 16 (H0 by_ ty o c n cap) kp_ st_ (QF prog 127 D)) D (.ite (decide (i0<(↑n:Int))) (.need ((0:Int)≤i0∧i0<(↑n:Int)) (.need (c[o+i0.toNat * (1:Nat)]? = some (Value.int IntKind.i64 (intAt c (o+i0.toNat * (1:Nat))))) (.call 17 [Value.pointer (some ⟨127,0,none⟩),Value.int IntKind.i64 (intAt c (o+i0.toNat * 1))] (q0) (.ret (Value.tuple ⟨[Value.int IntKind.i64 i1,Value.int IntKind.i64 0]⟩) (⟨eE (eE (eE (eE (eE (eE (eE (lL (AObj.cells 78 [pP 127 0,pP 128 0] true 2)) nZ) nZ) nZ) nZ) (eE (eE (eE (eE (lL (AObj.cells 52 q2.c false 2)) nZ) nZ) nZ) nZ)) (eE (eE (eE (eE (eE (eE nZ nZ) nZ) nZ) nZ) nZ) nZ)) (eE (eE (eE (eE (eE (eE (lL (AObj.cells 74 [Value.func (Fn.func (HQ.ordN by_)) ⟨[]⟩ ⟨[]⟩,iI (IntKind.i64.wrap (i1+1)),sS 131 0 (n0+1) u2,Value.map (some 130)] true 2)) nZ) nZ) nZ) nZ) nZ) (eE (eE (eE (eE (eE (lL (AObj.map q2.E q2.ck true)) nZ) nZ) nZ) nZ) (eE nZ (eE nZ (eE nZ (lL (AObj.cells ty c false 0))))))),132⟩)) (.need (NoNames c∧True∧True∧NoNames q1.c∧NoNamesE q1.E∧True) (.stop [1,5,6] (S1 by_ ty o c n cap (IntKind.i64.wrap (i0+1)) (q2.c) (IntKind.i64.wrap (i1+1)) (n0+1) (q2.E) (q2.ck) (fun _=>undef))))))) (.done 16 (Value.pointer (some ⟨127,0,none⟩)) (q0)))):RunD η prog B 16 (H0 by_ ty o c n cap) [1,5,6] (S1 by_ ty o c n cap i0 l0 i1 n0 m0 n1 fun _=>undef) (QF prog 127 D):=by
 refine RunD.intro (S1 by_ ty o c n cap i0 l0 i1 n0 m0 n1) (fun d=>⟨rfl,rfl,rfl⟩) (fun d=>tmOk_get (by kernel_rfl)) (fun d=>by kernel_rfl) (fun d=>?_)
 exact walk_okT (h0:=H0 by_ ty o c n cap) hη hmix hreg (.steps 8 <| .bit 22 (.steps 9 <| .op <| .op <| .call kN <| .steps 20 <| .stop [1,5,6] (some ⟨131,[(127,127),(128,128),(131,129),(130,130)],[(126,(126,true)),(127,(127,false)),(128,(128,false)),(129,(131,true)),(130,(130,true))]⟩)) (.steps 8 <| .done none)) (S1 by_ ty o c n cap i0 l0 i1 n0 m0 n1 d) (by kernel_rfl) h (by kernel_rfl)
end KMade
namespace KWalk
noncomputable def bd:Code:=(Go.Proofs.Try.f15.body).getD .skip
noncomputable def bd64:Code:=(Go.Proofs.Try.f64.body).getD .skip
noncomputable def H0(f:Nat)(x:Int)(n:Nat)(s:HQ.QS):AH:={ objs:=eE (eE (eE (eE (eE (eE (eE (lL (AObj.cells 74 [Value.func (Fn.func f) ⟨[]⟩ ⟨[]⟩,iI x,sS 128 0 n u2,Value.map (some 129)] true 2)) nZ) nZ) nZ) nZ) nZ) (eE (eE (eE (eE (eE (lL (AObj.map s.E s.ck true)) nZ) nZ) nZ) nZ) nZ)) (eE (eE (eE (eE (eE (eE (lL (AObj.cells 52 s.c false 2)) nZ) nZ) nZ) nZ) nZ) (eE nZ (eE nZ (eE nZ (eE nZ (lL (AObj.cells 78 [pP 126 0,pP 127 0] true 2))))))),next:=130 }
noncomputable def E(f:Nat)(x:Int)(n:Nat)(s:HQ.QS):AS:=⟨⟨15,20,lL (pP 126 0),[Item.code (codeAt bd [])],[],FrameMode.run,CallKind.normal,none⟩,[],H0 f x n s⟩
noncomputable def S0(f:Nat)(x:Int)(n:Nat)(s:HQ.QS) (d:Nat→Value):AS:=⟨⟨64,21,nS (Value.func (Fn.yield 130) ⟨[]⟩ ⟨[]⟩) (nS (d 1) (nS (d 3) (nS (sS 131 0 n u2) (lL (d 15)) nZ) (nS (d 11) (lL (d 19)) nZ)) (nS (d 5) (nS (iI 0) (lL (d 17)) nZ) (lL (d 13)))) (nS (d 2) (nS (d 4) (nS (iI (↑n:Int)) (lL (d 16)) nZ) (nS (d 12) (lL (d 20)) nZ)) (nS (d 6) (nS (d 10) (lL (d 18)) nZ) (lL (d 14)))),[Item.code (codeAt bd64 [1,0,0]),Item.inLoop (codeAt bd64 [1,0,0]),Item.inBlock 0],[],FrameMode.run,CallKind.normal,none⟩,[⟨15,20,nS (pP 126 0) (nS undef (nS (pP 132 0) (nS (Value.func (Fn.func 64) ⟨[]⟩ ⟨[pP 133 0]⟩) u1 nZ) u4) (nS undef u4 u1)) (nS (Value.slice none 0 0) (nS undef u4 u1) (nS (pP 126 0) u4 u1)),[Item.inRangeFunc 130,Item.inBlock 0,Item.code (codeAt bd [1,1,1])],[{ target:=Target.collected 134,args:=⟨[]⟩ }],FrameMode.run,CallKind.normal,none⟩],⟨eE (eE (eE (eE (eE (eE (eE (lL (AObj.cells 74 [Value.func (Fn.func f) ⟨[]⟩ ⟨[]⟩,iI x,sS 128 0 n u2,Value.map (some 129)] true 2)) nZ) nZ) nZ) nZ) (eE (eE (eE (eE (lL (AObj.cells 52 (HQ.svC f n s.c) false 2)) nZ) nZ) nZ) nZ)) (eE (eE (eE (eE (eE (lL (AObj.map s.E s.ck true)) nZ) nZ) nZ) nZ) (eE (eE (eE (eE (lL (AObj.cells 27 [pP 126 0] true 2)) nZ) nZ) nZ) nZ))) (eE (eE (eE (eE (eE (eE (lL (AObj.cells 52 s.c false 2)) nZ) nZ) nZ) nZ) (eE (eE (eE (eE (lL (AObj.cells 22 [Value.slice none 0 0] true 2)) nZ) nZ) nZ) nZ)) (eE (eE (eE (eE (eE (lL (AObj.loop LoopState.ready none 15 (nS (pP 126 0) (nS undef (nS (pP 132 0) (nS (Value.func (Fn.func 64) ⟨[]⟩ ⟨[pP 133 0]⟩) u1 nZ) u4) (nS undef u4 u1)) (nS (Value.slice none 0 0) (nS undef u4 u1) (nS (pP 126 0) u4 u1))) 20 [8,9] (codeAt bd [1,1,0,1,0,0]) (codeAt bd [1,1,0,1,0,1]) 134)) nZ) nZ) nZ) nZ) (eE (eE (eE (eE (lL (AObj.deferred (some []))) nZ) nZ) nZ) (eE nZ (eE nZ (lL (AObj.cells 78 [pP 126 0,pP 127 0] true 2))))))),135⟩⟩
noncomputable def S1(f:Nat)(x:Int)(n:Nat)(s:HQ.QS)(i0:Int)(l0:List Value)(n0:Nat)(d:Nat→Value):AS:=⟨⟨64,21,nS (Value.func (Fn.yield 130) ⟨[]⟩ ⟨[]⟩) (nS (d 1) (nS (d 3) (nS (sS 131 0 n u2) (lL (d 15)) nZ) (nS (d 11) (lL (d 19)) nZ)) (nS (d 5) (nS (iI i0) (lL (d 17)) nZ) (lL (d 13)))) (nS (d 2) (nS (d 4) (nS (iI (↑n:Int)) (lL (d 16)) nZ) (nS (d 12) (lL (d 20)) nZ)) (nS (d 6) (nS (d 10) (lL (d 18)) nZ) (lL (d 14)))),[Item.code (codeAt bd64 [1,0,0]),Item.inLoop (codeAt bd64 [1,0,0]),Item.inBlock 0],[],FrameMode.run,CallKind.normal,none⟩,[⟨15,20,nS (pP 126 0) (nS undef (nS (pP 132 0) (nS (Value.func (Fn.func 64) ⟨[]⟩ ⟨[pP 133 0]⟩) u1 nZ) u4) (nS undef u4 u1)) (nS (Value.slice none 0 0) (nS undef u4 u1) (nS (pP 126 0) u4 u1)),[Item.inRangeFunc 130,Item.inBlock 0,Item.code (codeAt bd [1,1,1])],[{ target:=Target.collected 134,args:=⟨[]⟩ }],FrameMode.run,CallKind.normal,none⟩],⟨eE (eE (eE (eE (eE (eE (eE (lL (AObj.cells 74 [Value.func (Fn.func f) ⟨[]⟩ ⟨[]⟩,iI x,sS 128 0 n u2,Value.map (some 129)] true 2)) nZ) nZ) nZ) (eE (eE (eE (lL (AObj.cells 52 l0 false 2)) nZ) nZ) nZ)) (eE (eE (eE (eE (lL (AObj.cells 52 (HQ.svC f n s.c) false 2)) nZ) nZ) nZ) nZ)) (eE (eE (eE (eE (eE (lL (AObj.map s.E s.ck true)) nZ) nZ) nZ) nZ) (eE (eE (eE (eE (lL (AObj.cells 27 [pP 126 0] true 2)) nZ) nZ) nZ) nZ))) (eE (eE (eE (eE (eE (eE (lL (AObj.cells 52 s.c false 2)) nZ) nZ) nZ) nZ) (eE (eE (eE (eE (lL (AObj.cells 22 [sS 135 0 n0 u2] true 2)) nZ) nZ) nZ) nZ)) (eE (eE (eE (eE (eE (lL (AObj.loop LoopState.ready none 15 (nS (pP 126 0) (nS undef (nS (pP 132 0) (nS (Value.func (Fn.func 64) ⟨[]⟩ ⟨[pP 133 0]⟩) u1 nZ) u4) (nS undef u4 u1)) (nS (Value.slice none 0 0) (nS undef u4 u1) (nS (pP 126 0) u4 u1))) 20 [8,9] (codeAt bd [1,1,0,1,0,0]) (codeAt bd [1,1,0,1,0,1]) 134)) nZ) nZ) nZ) nZ) (eE (eE (eE (eE (lL (AObj.deferred (some []))) nZ) nZ) nZ) (eE nZ (eE nZ (lL (AObj.cells 78 [pP 126 0,pP 127 0] true 2))))))),136⟩⟩
theorem enter{η:Nat→Value}{B:Bd}(hη:OneCells η)(hmix:prog.follows .mixedOrders=true)(hreg:RegOk η prog B noNest){D:Value→AH→Prop}(f:Nat)(x:Int)(n:Nat)(s:HQ.QS)(h:let q3:T AObj:=(eE (eE (eE (eE (lL (AObj.cells 22 [Value.slice none 0 0] true 2)) nZ) nZ) nZ) nZ);let q2:T AObj:=(eE nZ (eE nZ (lL (AObj.cells 78 [pP 126 0,pP 127 0] true 2))));let q1:T AObj:=(eE (eE (eE (eE (eE (lL (AObj.cells 52 s.c false 2)) nZ) nZ) nZ) nZ) (eE (eE (eE (eE (lL (AObj.deferred (some []))) nZ) nZ) nZ) nZ));let q0:T AObj:=(eE (eE (eE (eE (eE (eE (lL (AObj.cells 74 [Value.func (Fn.func f) ⟨[]⟩ ⟨[]⟩,iI x,sS 128 0 n u2,Value.map (some 129)] true 2)) nZ) nZ) nZ) nZ) (eE (eE (eE (eE (lL (AObj.cells 27 [pP 126 0] true 2)) nZ) nZ) nZ) nZ)) (eE (eE (eE (eE (eE (lL (AObj.map s.E s.ck true)) nZ) nZ) nZ) nZ) (eE (eE (eE (eE (lL (AObj.loop LoopState.ready none 15 (nS (pP 126 0) (eE (nS (pP 130 0) (lL (Value.func (Fn.func 64) ⟨[]⟩ ⟨[pP 131 0]⟩)) nZ) nZ) (nS (Value.slice none 0 0) nZ (lL (pP 126 0)))) 20 [8,9] (codeAt bd [1,1,0,1,0,0]) (codeAt bd [1,1,0,1,0,1]) 132)) nZ) nZ) nZ) nZ)));W.holds η prog B 15 (fun kp_ st_=>RunD η prog B 15 (H0 f x n s) kp_ st_ (QF prog 130 D)) D (.call 13 [Value.pointer (some ⟨126,0,none⟩)] (⟨eE q0 (eE q1 (eE q3 (eE nZ q2))),134⟩) (.ret (Value.agg ⟨[Value.int IntKind.i64 x,Value.slice (some ⟨134,0,none⟩) n 9223372036854775810]⟩) (⟨eE q0 (eE q1 (eE q3 (eE (eE (eE (eE (lL (AObj.cells 52 (HQ.svC f n s.c) false 2)) nZ) nZ) nZ) q2))),135⟩)) (.need (True∧True∧NoNames s.c∧NoNamesE s.E∧True∧NoNames (HQ.svC f n s.c)∧True∧True∧True∧True) (.stop [0,7,8,9] (S0 f x n s  (fun _=>undef)))))):CallSpec η prog B 15 [Value.pointer (some ⟨126,0,none⟩)] (H0 f x n s) D:=by
 refine CallSpec.ofQF hη (CallSpec.enter (fr:=(E f x n s).fr) (by kernel_rfl) ?_)
 exact walk_okT (h0:=H0 f x n s) hη hmix hreg (.steps 31 <| .call kN <| .steps 6 <| .stop [0,7,8,9] (some ⟨135,[(133,130),(134,131),(130,132),(131,133),(132,134)],[(126,(126,false)),(127,(127,false)),(128,(128,true)),(129,(129,true)),(130,(133,false)),(131,(134,true)),(132,(130,false)),(133,(131,false)),(134,(132,false))]⟩)) (E f x n s) (by kernel_rfl) h (by kernel_rfl)
theorem cut0{η:Nat→Value}{B:Bd}(hη:OneCells η)(hmix:prog.follows .mixedOrders=true)(hreg:RegOk η prog B noNest){D:Value→AH→Prop}(f:Nat)(x:Int)(n:Nat)(s:HQ.QS) (h:W.holds η prog B 15 (fun kp_ st_=>RunD η prog B 15 (H0 f x n s) kp_ st_ (QF prog 130 D)) D (.ite (decide ((0:Int)<(↑n:Int))) (.need ((0:Int)≤(0:Int)∧(0:Int)<(↑n:Int)) (.need ((2:Nat)≤(HQ.svC f n s.c).length∧List.take (2:Nat) (List.drop (0:Nat) (HQ.svC f n s.c))=[Value.int IntKind.i64 (intAt (HQ.svC f n s.c) (0:Nat)),Value.int IntKind.i64 (intAt (HQ.svC f n s.c) (1:Nat))]) (.need (True∧True∧NoNames s.c∧NoNamesE s.E∧True∧NoNames (HQ.svC f n s.c)∧True∧True∧True∧True∧True) (.stop [0,7,8,9] (S1 f x n s (1) ([Value.int IntKind.i64 (intAt (HQ.svC f n s.c) 0),Value.int IntKind.i64 (intAt (HQ.svC f n s.c) 1)]) (1) (fun _=>undef)))))) (.need (True∧True∧NoNames s.c∧NoNamesE s.E∧True) (.done 15 (Value.slice none 0 0) (H0 f x n s))))):RunD η prog B 15 (H0 f x n s) [0,7,8,9] (S0 f x n s  fun _=>undef) (QF prog 130 D):=by
 refine RunD.intro (S0 f x n s) (fun d=>⟨rfl,rfl,rfl⟩) (fun d=>tmOk_get (by kernel_rfl)) (fun d=>by kernel_rfl) (fun d=>?_)
 exact walk_okT (h0:=H0 f x n s) hη hmix hreg (.steps 5 <| .bit 10 (.steps 6 <| .op <| .op <| .steps 50 <| .stop [0,7,8,9] (some ⟨136,[(130,130),(131,131),(132,132),(133,133),(134,134),(137,135)],[(126,(126,false)),(127,(127,false)),(128,(128,true)),(129,(129,true)),(130,(130,false)),(131,(131,true)),(132,(132,false)),(133,(133,false)),(134,(134,false)),(135,(137,false))]⟩)) (.steps 13 <| .done (some ⟨130,[],[(126,(126,false)),(127,(127,false)),(128,(128,true)),(129,(129,true))]⟩))) (S0 f x n s  d) (by kernel_rfl) h (by kernel_rfl)
theorem cut1{η:Nat→Value}{B:Bd}(hη:OneCells η)(hmix:prog.follows .mixedOrders=true)(hreg:RegOk η prog B noNest){D:Value→AH→Prop}(f:Nat)(x:Int)(n:Nat)(s:HQ.QS)(i0:Int)(l0:List Value)(n0:Nat)(h:let q4:T AObj:=(eE (eE (eE (eE (eE (lL (AObj.cells 52 s.c false 2)) nZ) nZ) nZ) nZ) nZ);let q3:=(l0 ++ [Value.int IntKind.i64 (intAt (HQ.svC f n s.c) (0+i0.toNat * 2)),Value.int IntKind.i64 (intAt (HQ.svC f n s.c) (0+i0.toNat * 2+1))]);let q2:T AObj:=(eE nZ (eE nZ (eE nZ (lL (AObj.cells 78 [pP 126 0,pP 127 0] true 2)))));let q1:=(l0 ++ [Value.int IntKind.i64 (intAt (HQ.svC f n s.c) ((0:Nat)+i0.toNat * (2:Nat))),Value.int IntKind.i64 (intAt (HQ.svC f n s.c) ((0:Nat)+i0.toNat * (2:Nat)+(1:Nat)))]);let q0:T AObj:=(eE (eE (eE (eE (eE (eE (lL (AObj.cells 74 [Value.func (Fn.func f) ⟨[]⟩ ⟨[]⟩,iI x,sS 128 0 n u2,Value.map (some 129)] true 2)) nZ) nZ) nZ) nZ) nZ) (eE (eE (eE (eE (eE (lL (AObj.map s.E s.ck true)) nZ) nZ) nZ) nZ) nZ));W.holds η prog B 15 (fun kp_ st_=>RunD η prog B 15 (H0 f x n s) kp_ st_ (QF prog 130 D)) D (.ite (decide (i0<(↑n:Int))) (.need ((0:Int)≤i0∧i0<(↑n:Int)) (.need ((0:Nat)+i0.toNat * (2:Nat)+(2:Nat)≤(HQ.svC f n s.c).length∧List.take (2:Nat) (List.drop ((0:Nat)+i0.toNat * (2:Nat)) (HQ.svC f n s.c))=[Value.int IntKind.i64 (intAt (HQ.svC f n s.c) ((0:Nat)+i0.toNat * (2:Nat))),Value.int IntKind.i64 (intAt (HQ.svC f n s.c) ((0:Nat)+i0.toNat * (2:Nat)+(1:Nat)))]) (.need ((2:Nat)≤(2:Nat)∧l0.length=n0 * (2:Nat)∧n0+(1:Nat)≤(1000000:Nat)∧(2:Nat)=(2:Nat)∧true=true) (.ite (decide ((↑(n0+(1:Nat)):Int) > (5000:Int))) (.need (True∧True∧NoNames s.c∧NoNamesE s.E∧NoNames q1∧True) (.done 15 (Value.slice (some ⟨130,0,none⟩) (n0+1) 9223372036854775810) (⟨eE q0 (eE q4 (eE (eE (eE (eE (eE (lL (AObj.cells 52 q3 false 2)) nZ) nZ) nZ) nZ) q2)),131⟩))) (.need (True∧True∧NoNames s.c∧NoNamesE s.E∧True∧NoNames (HQ.svC f n s.c)∧True∧True∧True∧NoNames q1∧True) (.stop [0,7,8,9] (S1 f x n s (IntKind.i64.wrap (i0+1)) q3 (n0+1) (fun _=>undef)))))))) (.need (True∧True∧NoNames s.c∧NoNamesE s.E∧NoNames l0∧True) (.done 15 (Value.slice (some ⟨130,0,none⟩) n0 9223372036854775810) (⟨eE q0 (eE q4 (eE (eE (eE (eE (eE (lL (AObj.cells 52 l0 false 2)) nZ) nZ) nZ) nZ) q2)),131⟩))))):RunD η prog B 15 (H0 f x n s) [0,7,8,9] (S1 f x n s i0 l0 n0 fun _=>undef) (QF prog 130 D):=by
 refine RunD.intro (S1 f x n s i0 l0 n0) (fun d=>⟨rfl,rfl,rfl⟩) (fun d=>tmOk_get (by kernel_rfl)) (fun d=>by kernel_rfl) (fun d=>?_)
 exact walk_okT (h0:=H0 f x n s) hη hmix hreg (.steps 5 <| .bit 10 (.steps 6 <| .op <| .op <| .steps 27 <| .op <| .steps 8 <| .bit 18 (.steps 16 <| .done (some ⟨131,[(138,130)],[(126,(126,false)),(127,(127,false)),(128,(128,true)),(129,(129,true)),(130,(138,true))]⟩)) (.steps 14 <| .stop [0,7,8,9] (some ⟨136,[(130,130),(131,131),(132,132),(133,133),(134,134),(138,135)],[(126,(126,false)),(127,(127,false)),(128,(128,true)),(129,(129,true)),(130,(130,false)),(131,(131,true)),(132,(132,false)),(133,(133,false)),(134,(134,false)),(135,(138,true))]⟩))) (.steps 13 <| .done (some ⟨131,[(135,130)],[(126,(126,false)),(127,(127,false)),(128,(128,true)),(129,(129,true)),(130,(135,true))]⟩))) (S1 f x n s i0 l0 n0 d) (by kernel_rfl) h (by kernel_rfl)
end KWalk
end Go.Ev

/- Contracts of queues: made. -/
namespace Go.Ev
open Go Go.Proofs Go.RowKit
variable {η:Nat→Value} {B:Bd}
namespace HQ
theorem ordN_is(b:Int):isOrd (ordN b):=by
 unfold ordN isOrd
 split
 ·exact .inl rfl
 ·exact .inr rfl
theorem order_N(hη:OneCells η)(hmix:Try.prog.follows .mixedOrders=true)(b:Int)(h:AH):CallSpec η Try.prog B 8 [.int .u8 b] h (KT.ret (.func (.func (ordN b)) #[] #[]) h).sat:=by
 unfold ordN
 by_cases hb:b.tmod 2=1
 ·rw [if_pos hb];exact order_T hη hmix hb h
 ·rw [if_neg hb];exact order_L hη hmix hb h
def mkG(f:Nat)(src:Nat→Int):Nat→G
 | 0=>fun _=>(0,0)
 | i+1=>pushG f i (mkG f src i) ((i+1:Nat):Int) (src i)
theorem mkS_one(f:Nat)(src:Nat→Int):mkS f src 1=⟨[.int .i64 1,.int .i64 (src 0)],[{ key:=.int .i64 1,val:=.int .i64 0,born:=0 }],1⟩:=by
 show QS.up f (0+1) _ 0=_
 unfold QS.up
 rw [if_pos (.inl rfl)]
 rfl
theorem mkS_form(f:Nat)(src:Nat→Int):∀ i,(mkS f src i).c=its (mkG f src i) i∧intE (mkS f src i).E
 | 0=>⟨rfl,fun e h=>by cases h⟩
 | i+1=>by
  obtain⟨h1,h2⟩:=mkS_form f src i
  exact push_form h1 h2 (src i)
theorem mkG_inv(f:Nat)(src:Nat→Int):∀ i,PushInv f src i (mkG f src i)
 | 0=>⟨fun k h1 h2=>by omega,fun a b ha hb _=>by omega,fun k hk=>by omega⟩
 | i+1=>(mkG_inv f src i).step
theorem mkS_plc(f:Nat)(src:Nat→Int):∀ i,Plc i (mkG f src i) (mkS f src i).E
 | 0=>⟨fun a b ha hb _=>by omega,fun k hk=>by omega,fun e h=>by cases h⟩
 | i+1=>by
  refine push_P (mkS_form f src i).1 (mkS_plc f src i) fun k hk e=>?_
  obtain⟨j,h1,h2⟩:=(mkG_inv f src i).src k hk
  rw [h2] at e
  simp only at e
  omega
theorem mdS_eq(f:Nat)(c:List Value)(o n:Nat):mdS f c o n=mkS f (fun j=>intAt c (o+j)) n:=by unfold mdS;rfl
theorem nn_bare{c:List Value}(h:c.all bareV=true):NoNames c:=fun v hv=>by
 have:=List.all_eq_true.1 h v hv
 cases v <;> first | rfl | (simp [bareV] at this;done) | (rename_i a _ _;cases a <;> first | rfl | simp [bareV] at this) | (rename_i a;cases a <;> first | rfl | simp [bareV] at this)
set_option maxRecDepth 20000 in
theorem made_home(hη:OneCells η)(hmix:Try.prog.follows .mixedOrders=true)(b:Int){ty o n cap:Nat}{c:List Value}(hc:∀ j,j<n→c[o+j]? = some (.int .i64 (intAt c (o+j))))(hb:c.all bareV=true)(h0:0<n)(hn:n≤300) :
  CallSpec η Try.prog B 16 [.int .u8 b,.slice (some ⟨126,o,none⟩) n cap] (heapT [(ty,c)]) fun v h=>v = .pointer (some ⟨127,0,none⟩)∧h.next=126+5∧hasQ h.objs [some (.cells ty c false 0),some (objQ 127 128),some (objV (ordN b) ((n+1:Nat):Int) 129 n (capU 2) 130),some (.cells 52 (mdS (ordN b) c o n).c false 2),some (.map (mdS (ordN b) c o n).E (mdS (ordN b) c o n).ck true)] 126:=by
 have nn:NoNames c:=nn_bare hb
 rw [mdS_eq]
 generalize hsrc:(fun j=>intAt c (o+j))=src
 have hsv:∀ j,intAt c (o+j)=src j:=fun j=>by rw [← hsrc]
 generalize hD:(fun (v:Value) (h:AH)=>v = .pointer (some ⟨127,0,none⟩)∧h.next=126+5∧hasQ h.objs [some (.cells ty c false 0),some (objQ 127 128),some (objV (ordN b) ((n+1:Nat):Int) 129 n (capU 2) 130),some (.cells 52 (mkS (ordN b) src n).c false 2),some (.map (mkS (ordN b) src n).E (mkS (ordN b) src n).ck true)] 126)=D
 have hord:=ordN_is b
 have wr1:∀ i:Nat,i≤1000000→IntKind.i64.wrap ((i:Int)+1)=((i+1:Nat):Int):=fun i hi=>by rw [wrap_small (by omega) (by omega)];omega
 have cut0:=KMade.cut0 (η:=η) (B:=B) (D:=D) hη hmix (reg0 hη hmix) b ty o c n cap
 have cut1:=fun i0 l0 i1 n0 m0 n1=>KMade.cut1 (η:=η) (B:=B) (D:=D) hη hmix (reg0 hη hmix) b ty o c n cap i0 l0 i1 n0 m0 n1
 simp only [W.holds,true_and,and_true,true_implies,decide_eq_true_eq,decide_eq_false_iff_not,Nat.mul_one,Nat.add_zero,Int.toNat_natCast,Int.le_refl,hsv] at cut0 cut1
 have pushes:∀ (d i:Nat),n - i=d→1≤i→i≤n→RunD η Try.prog B 16 (KMade.H0 b ty o c n cap) [1,5,6] (KMade.S1 b ty o c n cap (i:Int) (mkS (ordN b) src i).c ((i+1:Nat):Int) i (mkS (ordN b) src i).E (mkS (ordN b) src i).ck fun _=>undef) (QF Try.prog 127 D):=by
  intro d
  induction d with
  | zero=>
   intro i hd h1 hin
   have hi:i=n:=by omega
   subst hi
   refine cut1 _ _ _ _ _ _ ⟨fun q=>by omega,fun _=>?_⟩
   rw [← hD]
   exact⟨rfl,rfl,by kernel_rfl,by kernel_rfl,by kernel_rfl,by kernel_rfl,by kernel_rfl,trivial⟩
  | succ d ih=>
   intro i hd h1 hin
   have hi:i<n:=by omega
   have c1:=cut1 (i:Int) (mkS (ordN b) src i).c ((i+1:Nat):Int) i (mkS (ordN b) src i).E (mkS (ordN b) src i).ck
   obtain⟨f1,f2⟩:=mkS_form (ordN b) src i
   obtain⟨p1,p2⟩:=mkS_form (ordN b) src (i+1)
   have next:=ih (i+1) (by omega) (by omega) hi
   have hci:=hc i hi
   rw [hsv] at hci
   rw [Int.toNat_natCast,hci,qeta,wr1 i (by omega),wr1 (i+1) (by omega)] at c1
   refine c1 ⟨fun _=>⟨⟨by omega,by omega⟩,fun _=>⟨rfl,fun _=>⟨?_,⟨nn,by rw [show(mkS (ordN b) src i).push (ordN b) i ((i+1:Nat):Int) (src i)=mkS (ordN b) src (i+1) from rfl,p1];exact its_nn _ _,nn_int p2⟩,fun _=>next⟩⟩⟩,fun q=>by omega⟩
   exact(push_at hη hmix (wr1 (i+1) (by omega)) (q:=127) (v:=128) (r:=129) (m:=130) (f:=ordN b) (x:=((i+1:Nat):Int)) (n:=i) (s:=mkS (ordN b) src i) ⟨by kernel_rfl,by kernel_rfl,by kernel_rfl,by kernel_rfl,by decide⟩ hord f1 f2 (by omega) (by omega) (src i)).conv (by kernel_rfl)
 refine KMade.enter hη hmix (reg0 hη hmix) _ _ _ _ _ _ ?_
 simp only [W.holds,true_and,and_true,true_implies,decide_eq_true_eq,decide_eq_false_iff_not]
 refine⟨order_N hη hmix b _,(new_any hη hmix hord _).conv (by kernel_rfl),fun q=>by omega,fun _=>cut0 ⟨fun _=>⟨by omega,fun _=>⟨?_,fun _=>⟨?_,nn,fun _=>?_⟩⟩⟩,fun q=>by omega⟩⟩
 ·have:=hc 0 h0
  rw [hsv,Nat.add_zero] at this
  have e:=hsv 0
  rw [Nat.add_zero] at e
  rw [this,e]
 ·exact(push_any0 hη hmix (q:=127) (v:=128) (m:=129) (f:=ordN b) (x:=1) ⟨by kernel_rfl,by kernel_rfl,by kernel_rfl,by decide⟩ hord (by decide) _).conv (by kernel_rfl)
 ·have k:=pushes (n - 1) 1 rfl (Nat.le_refl _) (by omega)
  rw [mkS_one] at k
  have e:=hsv 0
  rw [Nat.add_zero] at e
  rw [e]
  exact k
end HQ
end Go.Ev

namespace Go.Ev
open Go Go.Proofs
open Go.Ev.T renaming node → nN, nil → nZ
open Go.Proofs.Try (prog)
set_option maxRecDepth 100000
set_option maxHeartbeats 2000000
namespace KPushT
noncomputable def bd:Code:=(Go.Proofs.Try.f17.body).getD .skip
noncomputable def H0(f:Nat)(x:Int)(n:Nat)(s:HQ.QS)(y:Int):AH:={ objs:=eE (eE (eE (eE (eE (eE (eE (lL (AObj.cells 74 [Value.func (Fn.func f) ⟨[]⟩ ⟨[]⟩,iI x,sS 128 0 n u2,Value.map (some 129)] true 2)) nZ) nZ) nZ) nZ) nZ) (eE (eE (eE (eE (eE (lL (AObj.map s.E s.ck true)) nZ) nZ) nZ) nZ) nZ)) (eE (eE (eE (eE (eE (eE (lL (AObj.cells 52 s.c false 2)) nZ) nZ) nZ) nZ) nZ) (eE nZ (eE nZ (eE nZ (eE nZ (lL (AObj.cells 78 [pP 126 0,pP 127 0] true 2))))))),next:=130 }
noncomputable def E(f:Nat)(x:Int)(n:Nat)(s:HQ.QS)(y:Int):AS:=⟨⟨17,50,nS (pP 126 0) (lL (iI y)) nZ,[Item.code (codeAt bd [])],[],FrameMode.run,CallKind.normal,none⟩,[],H0 f x n s y⟩
theorem enter{η:Nat→Value}{B:Bd}(hη:OneCells η)(hmix:prog.follows .mixedOrders=true)(hreg:RegOk η prog B noNest){D:Value→AH→Prop}(f:Nat)(x:Int)(n:Nat)(s:HQ.QS)(y:Int)(h:let q8:=(mFind (TypeDesc.int IntKind.i64) (Value.int IntKind.i64 x) s.E);let q7:W:=(.done 17 (Value.tuple ⟨[Value.int IntKind.i64 0,Value.int IntKind.i64 5]⟩) (H0 f x n s y));let q6:T AObj:=(eE (eE (eE (lL (AObj.cells 52 [iI x,iI y] true 2)) nZ) nZ) nZ);let q5:T AObj:=(eE (eE nZ (eE (eE (lL (AObj.cells 52 [iI x,iI y] true 2)) nZ) nZ)) nZ);let q4:T AObj:=(eE nZ (eE nZ (eE nZ (lL (AObj.cells 78 [pP 126 0,pP 127 0] true 2)))));let q3:T AObj:=(eE (eE (eE (eE (eE (lL (AObj.cells 74 [Value.func (Fn.func f) ⟨[]⟩ ⟨[]⟩,iI (IntKind.i64.wrap (x+1)),sS 154 0 (n+1) u2,Value.map (some 129)] true 2)) nZ) nZ) nZ) nZ) nZ);let q2:=(HQ.QS.up f ((IntKind.i64.wrap ((↑(n+(1:Nat)):Int) - (1:Int))).toNat+(1:Nat)) (HQ.QS.mk (List.take (n * (2:Nat)) (List.drop (0:Nat) s.c) ++ [Value.int IntKind.i64 x,Value.int IntKind.i64 y]) (mPut (Value.int IntKind.i64 x) (Value.int IntKind.i64 (↑n:Int)) s.ck s.E q8) (mClock s.ck q8)) (IntKind.i64.wrap ((↑(n+(1:Nat)):Int) - (1:Int))).toNat);let q1:T AObj:=(eE (eE (lL (AObj.cells 52 (HQ.QS.up f ((IntKind.i64.wrap ((↑(n+1):Int) - 1)).toNat+1) (HQ.QS.mk (List.take (n * 2) (List.drop 0 s.c) ++ [iI x,iI y]) (mPut (iI x) (iI (↑n:Int)) s.ck s.E q8) (mClock s.ck q8)) (IntKind.i64.wrap ((↑(n+1):Int) - 1)).toNat).c false 2)) nZ) nZ);let q0:T AObj:=(eE (eE (eE (eE (lL (AObj.map (HQ.QS.up f ((IntKind.i64.wrap ((↑(n+1):Int) - 1)).toNat+1) (HQ.QS.mk (List.take (n * 2) (List.drop 0 s.c) ++ [iI x,iI y]) (mPut (iI x) (iI (↑n:Int)) s.ck s.E q8) (mClock s.ck q8)) (IntKind.i64.wrap ((↑(n+1):Int) - 1)).toNat).E (HQ.QS.up f ((IntKind.i64.wrap ((↑(n+1):Int) - 1)).toNat+1) (HQ.QS.mk (List.take (n * 2) (List.drop 0 s.c) ++ [iI x,iI y]) (mPut (iI x) (iI (↑n:Int)) s.ck s.E q8) (mClock s.ck q8)) (IntKind.i64.wrap ((↑(n+1):Int) - 1)).toNat).ck true)) nZ) nZ) nZ) nZ);W.holds η prog B 17 (fun kp_ st_=>RunD η prog B 17 (H0 f x n s y) kp_ st_ (QF prog 130 D)) D (.ite ((↑n:Int) == (5000:Int)) q7 (.ite (x == (1000000000000000:Int)) q7 (.need (Instr.findNow (TypeDesc.int IntKind.i64) (Value.int IntKind.i64 x) s.E (0:Nat)=some q8) (.need ((2:Nat)≤(2:Nat)∧(0:Nat)+n * (2:Nat)≤s.c.length∧n+(1:Nat)≤(1000000:Nat)∧(2:Nat)=(2:Nat)∧true=true) (.call 65 [Value.iface 69 (Value.pointer (some ⟨127,0,none⟩)),Value.int IntKind.i64 (IntKind.i64.wrap ((↑(n+1):Int) - 1))] (⟨eE (eE q3 (eE (eE (eE (eE (eE (lL (AObj.map (mPut (iI x) (iI (↑n:Int)) s.ck s.E q8) (mClock s.ck q8) true)) nZ) nZ) nZ) nZ) q5)) (eE (eE (eE (eE (eE (eE (eE nZ nZ) nZ) nZ) nZ) nZ) nZ) (eE (eE q6 (eE nZ (eE (eE (lL (AObj.cells 52 (List.take (n * 2) (List.drop 0 s.c) ++ [iI x,iI y]) false 2)) nZ) nZ))) q4)),155⟩) (.ret (undef) (⟨eE (eE q3 (eE q0 q5)) (eE (eE (eE (eE (eE (eE (eE nZ nZ) nZ) nZ) nZ) nZ) nZ) (eE (eE q6 (eE nZ q1)) q4)),155⟩)) (.need (True∧True∧NoNamesE q2.E∧NoNames q2.c∧True) (.done 17 (Value.tuple ⟨[Value.int IntKind.i64 x,Value.int IntKind.i64 0]⟩) (⟨eE (eE (eE (eE (eE (eE (eE (lL (AObj.cells 74 [Value.func (Fn.func f) ⟨[]⟩ ⟨[]⟩,iI (IntKind.i64.wrap (x+1)),sS 130 0 (n+1) u2,Value.map (some 129)] true 2)) nZ) nZ) nZ) nZ) nZ) (eE q0 nZ)) (eE nZ (eE (eE (eE q1 nZ) nZ) q4)),131⟩))))))))):CallSpec η prog B 17 [Value.pointer (some ⟨126,0,none⟩),Value.int IntKind.i64 y] (H0 f x n s y) D:=by
 refine CallSpec.ofQF hη (CallSpec.enter (fr:=(E f x n s y).fr) (by kernel_rfl) ?_)
 exact walk_okT (h0:=H0 f x n s y) hη hmix hreg (.steps 100 <| .bit 12 (.steps 17 <| .done none) (.steps 10 <| .bit 21 (.steps 7 <| .done none) (.steps 52 <| .reg <| .steps 11 <| .op <| .reg <| .reg <| .steps 7 <| .opT <| .steps 3 <| .reg <| .steps 23 <| .call kN <| .steps 11 <| .done (some ⟨131,[(154,130)],[(126,(126,false)),(127,(127,false)),(129,(129,true)),(130,(154,true))]⟩)))) (E f x n s y) (by kernel_rfl) h (by kernel_rfl)
end KPushT
end Go.Ev

/- Contracts of queues: Push behind Remove; Pop: plain mathematics. -/
namespace Go.Ev
open Go Go.Proofs Go.RowKit
variable {η:Nat→Value} {B:Bd}
namespace HQ
theorem pushT_form{f n k:Nat}{s:QS}{g:G}{x:Int}(hs:s.c=its g k)(hE:intE s.E)(hn:n≤k)(y:Int):(s.pushT f n x y).c=its (pushG f n g x y) (n+1)∧intE (s.pushT f n x y).E:=by
 have hc:(QS.mk (s.c.take (n * 2)) s.E s.ck).c=its g n:=by
  show s.c.take (n * 2)=_
  rw [hs,take_its hn]
 exact push_form hc hE y
theorem pushT_P{f n k:Nat}{s:QS}{g:G}{x y:Int}(hs:s.c=its g k)(hn:n≤k)(h:Plc n g s.E)(hx:∀ k,k<n→(g k).1 ≠ x):Plc (n+1) (pushG f n g x y) (s.pushT f n x y).E:=by
 have hc:(QS.mk (s.c.take (n * 2)) s.E s.ck).c=its g n:=by
  show s.c.take (n * 2)=_
  rw [hs,take_its hn]
 exact push_P (s:=⟨s.c.take (n * 2),s.E,s.ck⟩) hc h hx
set_option maxRecDepth 20000 in
theorem pushT_home(hη:OneCells η)(hmix:Try.prog.follows .mixedOrders=true){f:Nat}{x:Int}{n k:Nat}{s:QS}{g:G}(hf:isOrd f)(hs:s.c=its g k)(hE:intE s.E)(hk:n≤k)(hn:n<5000)(hx:x ≠ 1000000000000000)(y:Int) :
  CallSpec η Try.prog B 17 [.pointer (some ⟨126,0,none⟩),.int .i64 y] (heapK f x n s) fun v h=>v=tupL [.int .i64 x,.int .i64 0]∧h.next=131∧hasQ h.objs [some (objQ 126 127),some (objV f (IntKind.i64.wrap (x+1)) 130 (n+1) (capU 2) 129),none,some (.map (s.pushT f n x y).E (s.pushT f n x y).ck true),some (.cells 52 (s.pushT f n x y).c false 2)] 126:=by
 have hl:=its_len g k
 obtain⟨c,E,ck⟩:=s
 simp only at hs hE
 subst hs
 have hc:(QS.place ⟨its g n ++ [.int .i64 x,.int .i64 y],E,ck⟩ x n).c=its (upd g n (x,y)) (n+1):=its_snoc x y
 have hp:intE (QS.place ⟨its g n ++ [.int .i64 x,.int .i64 y],E,ck⟩ x n).E:=QS.place_int hE
 obtain⟨u1,u2⟩:=up_G (f:=f) (k:=n+1) hc (Nat.lt_succ_self n)
 have nnc:NoNames ((QS.place ⟨its g n ++ [.int .i64 x,.int .i64 y],E,ck⟩ x n).up f (n+1) n).c:=by rw [u1];exact its_nn _ _
 have up:=up_ok (B:=B) (x:=IntKind.i64.wrap (x+1)) (cap:=capU 2) hη hmix hf hc hp (Nat.le_refl _) (Nat.lt_succ_self n) (by omega)
 have eT:QS.pushT f n ⟨its g k,E,ck⟩ x y=(QS.place ⟨its g n ++ [.int .i64 x,.int .i64 y],E,ck⟩ x n).up f (n+1) n:=by
  show QS.push f n ⟨(its g k).take (n * 2),E,ck⟩ x y=_
  rw [take_its hk];rfl
 rw [eT]
 refine KPushT.enter hη hmix (reg0 hη hmix) _ _ _ _ _ ?_
 simp only [W.holds,wr_n (n:=n) (by omega),Int.toNat_natCast,Nat.zero_add,List.drop_zero,take_its hk,true_and,and_true,true_implies,Nat.le_refl]
 refine⟨fun q=>by simp at q;omega,fun _=>⟨fun q=>absurd (by simpa using q) hx,fun _=>⟨find_fE hE,fun _=>⟨⟨by omega,by omega⟩,fun _=>⟨?_,⟨nn_int (u2 hp),nnc⟩,fun _=>?_⟩⟩⟩⟩⟩
 rotate_left
 ·exact⟨rfl,by kernel_rfl,by kernel_rfl,by kernel_rfl,by kernel_rfl,trivial⟩
 exact(any_ok hη (v:=127) (r:=154) (m:=129) (by kernel_rfl) (by kernel_rfl) (by kernel_rfl) ⟨by decide,by decide,by decide⟩ hc hp u1 (u2 hp) (.cons (.iface _ (.ptr (by decide))) (.cons (.int _ _) .nil)) (fun _ _=>.tuple rfl (fun i v w h=>by simp at h)) up).conv (by kernel_rfl)
theorem pushT_any(hη:OneCells η)(hmix:Try.prog.follows .mixedOrders=true){H:AH}{q v r m f:Nat}{x x':Int}{n k:Nat}{s:QS}{g:G}(hx':IntKind.i64.wrap (x+1)=x')(a:QAt H q v r m f x n s)(hf:isOrd f)(hs:s.c=its g k)(hE:intE s.E)(hk:n≤k)(hn:n<5000)(hx:x ≠ 1000000000000000)(y:Int) :
  CallSpec η Try.prog B 17 [.pointer (some ⟨q,0,none⟩),.int .i64 y] H (KT.ret (tupL [.int .i64 x,.int .i64 0]) ⟨putL (keyQ (rnK q v r m) 4 H.next) [some (objQ q v),some (objV f x' H.next (n+1) (capU 2) m),none,some (.map (s.pushT f n x y).E (s.pushT f n x y).ck true),some (.cells 52 (s.pushT f n x y).c false 2)] 0 H.objs,H.next+(5 - 4)⟩).sat:=by
 subst hx'
 obtain⟨p1,p2⟩:=pushT_form (f:=f) (x:=x) hs hE hk y
 have b2:(s.pushT f n x y).c.all bareV=true:=by rw [p1];exact its_bare _ _
 refine CallSpec.move hη gs9 (l2:=[some (objQ 126 127),some (objV f (IntKind.i64.wrap (x+1)) 130 (n+1) (capU 2) 129),none,some (.map (s.pushT f n x y).E (s.pushT f n x y).ck true),some (.cells 52 (s.pushT f n x y).c false 2)])
  (args:=[.pointer (some ⟨126,0,none⟩),.int .i64 y]) (stands4 a hs hE) (by simp) (.cons (.ptr (show 126<130 by decide)) (.cons (.int _ _) .nil)) (tup_rv rfl) ?_ (pushT_home hη hmix hf hs hE hk hn hx y)
 exact .cons (.some (ro_Q (show 126<131 by decide) (show 127<131 by decide))) (.cons (.some (ro_V (r:=130) (m:=129) (show 130<131 by decide) (show 129<131 by decide))) (.cons .none (.cons (.some (.map _ (bare_int p2) (.inl rfl))) (.cons (.some (.cells _ _ (l2_bareV b2) (.inl rfl))) .nil))))
/- Pop -/
theorem ltA_lt(f:Nat)(x y:Int × Int):ltA f x y=ltG f x y:=rfl
theorem srtL_perm(f:Nat)(l:LI):(srtL f l).Perm l:=by
 have:=(srt_perm f (arrL l)).1
 unfold srtL
 refine this.trans ?_
 unfold arrL
 simp
theorem srtL_srt(f:Nat)(l:LI):Srt f (srtL f l):=by
 obtain⟨⟨hz,_,_⟩,hs⟩:=Sort.sort_sorts (ltA f) (ltA_swo f) (arrL l)
 unfold Srt srtL
 rw [List.pairwise_iff_getElem]
 intro i j hi hj hij
 have hi':i<(srt f (arrL l)).size:=by simpa using hi
 have hj':j<(srt f (arrL l)).size:=by simpa using hj
 have hjz:j<(arrL l).size:=by rw [← hz];exact hj'
 have k:=hs i j (Nat.zero_le _) hij hjz
 have k:ltA f (srt f (arrL l))[j]! (srt f (arrL l))[i]! = false:=k
 rw [getElem!_pos (srt f (arrL l)) j hj',getElem!_pos (srt f (arrL l)) i hi',ltA_lt,ltG_no] at k
 simpa using k
theorem made_any(hη:OneCells η)(hmix:Try.prog.follows .mixedOrders=true)(b:Int){H:AH}{ty o n cap r:Nat}{c:List Value}(hr:H.objs.get r=some (.cells ty c false 0))(hc:∀ j,j<n→c[o+j]? = some (.int .i64 (intAt c (o+j))))(hb:c.all bareV=true)(h0:0<n)(hn:n≤300) :
  CallSpec η Try.prog B 16 [.int .u8 b,.slice (some ⟨r,o,none⟩) n cap] H (KT.ret (.pointer (some ⟨H.next,0,none⟩)) ⟨putL (keyQ (fun _=>r) 1 H.next) [some (.cells ty c false 0),some (objQ H.next (H.next+1)),some (objV (ordN b) ((n+1:Nat):Int) (H.next+2) n (capU 2) (H.next+3)),some (.cells 52 (mdS (ordN b) c o n).c false 2),some (.map (mdS (ordN b) c o n).E (mdS (ordN b) c o n).ck true)] 0 H.objs,H.next+(5 - 1)⟩).sat:=by
 obtain⟨m1,m2⟩:=mkS_form (ordN b) (fun j=>intAt c (o+j)) n
 rw [← mdS_eq] at m1 m2
 refine CallSpec.move hη gs9 (rn:=fun _=>r) (l:=[.cells ty c false 0]) (l':=[.cells ty c false 0]) (args:=[.int .u8 b,.slice (some ⟨126,o,none⟩) n cap]) (v:=.pointer (some ⟨127,0,none⟩)) (l2:=[some (.cells ty c false 0),some (objQ 127 128),some (objV (ordN b) ((n+1:Nat):Int) 129 n (capU 2) 130),some (.cells 52 (mdS (ordN b) c o n).c false 2),some (.map (mdS (ordN b) c o n).E (mdS (ordN b) c o n).ck true)])
  ⟨fun i a' hi=>?_,.cons (.cells _ _ (l2_bareV hb) (.inl rfl)) .nil,fun i j hi hj _=>by simp at hi hj;omega⟩ (by simp) (.cons (.int _ _) (.cons (.slice _ _ (show 126<127 by decide)) .nil)) (.ptr (show 127<131 by decide)) ?_ (made_home hη hmix b hc hb h0 hn)
 ·cases i with
  | zero=>simp at hi;subst hi;exact hr
  | succ i=>simp at hi
 ·exact .cons (.some (.cells _ _ (l2_bareV hb) (.inl rfl))) (.cons (.some (ro_Q (show 127<131 by decide) (show 128<131 by decide))) (.cons (.some (ro_V (r:=129) (m:=130) (show 129<131 by decide) (show 130<131 by decide))) (.cons (.some (.cells _ _ (l2_bareV (bare_Q m1)) (.inl rfl))) (.cons (.some (.map _ (bare_int m2) (.inl rfl))) .nil))))
/- The items of a queue in order, as they are saved. -/
theorem srtL_len(f:Nat)(l:LI):(srtL f l).length=l.length:=(srtL_perm f l).length_eq
end HQ
end Go.Ev

/- Contracts of queues: walked. -/
namespace Go.Ev
open Go Go.Proofs Go.RowKit
variable {η:Nat→Value} {B:Bd}
namespace HQ
def gV(f n:Nat)(g:G):G:=fun i=>(arrL (srtL f (lst g n)))[i]!
theorem gV_lst(f n:Nat)(g:G):lst (gV f n g) n=srtL f (lst g n):=by
 have hl:(srtL f (lst g n)).length=n:=by rw [srtL_len,lst_len]
 apply List.ext_getElem?
 intro i
 rcases Nat.lt_or_ge i n with hi | hi
 ·rw [lst_get hi]
  have h1:i<(srtL f (lst g n)).length:=by omega
  rw [List.getElem?_eq_getElem h1]
  unfold gV arrL
  simp only [List.getElem!_toArray,List.getElem!_eq_getElem?_getD,List.getElem?_eq_getElem h1,Option.getD_some]
 ·rw [List.getElem?_eq_none (by rw [lst_len];exact hi),List.getElem?_eq_none (by omega)]
theorem svC_gV{f n m:Nat}{g:G}(h:n≤m):svC f n (its g m)=its (gV f n g) n:=by
 rw [svC_its h]
 show its _ _=_
 have hl:(arrL (srtL f (lst g n))).size=n:=by
  unfold arrL;rw [List.size_toArray,srtL_len,lst_len]
 rw [hl];rfl
theorem its_one(g:G):[Value.int .i64 (g 0).1,.int .i64 (g 0).2]=its g 1:=by
 rfl
theorem its_succ(g:G)(k:Nat):its g k ++ [.int .i64 (g k).1,.int .i64 (g k).2]=its g (k+1):=by
 rw [its_snoc]
 exact its_congr fun i hi=>by unfold upd;split <;> simp_all
set_option maxRecDepth 20000 in
theorem walk_home(hη:OneCells η)(hmix:Try.prog.follows .mixedOrders=true){f:Nat}{x:Int}{n m:Nat}{s:QS}{g:G}(hf:isOrd f)(hs:s.c=its g m)(hE:intE s.E)(hn:n≤m)(h0:0<n)(hm:n≤5000) :
  CallSpec η Try.prog B 15 [.pointer (some ⟨126,0,none⟩)] (heapK f x n s) fun v h=>v = .slice (some ⟨130,0,none⟩) n (capU 2)∧h.next=126+5∧hasQ h.objs [some (objQ 126 127),some (objV f x 128 n (capU 2) 129),some (.cells 52 s.c false 2),some (.map s.E s.ck true),some (.cells 52 (svC f n s.c) false 2)] 126:=by
 have nn:NoNames s.c:=by rw [hs];exact its_nn _ _
 have nE:=nn_int hE
 have hSV:svC f n s.c=its (gV f n g) n:=by rw [hs];exact svC_gV hn
 generalize gV f n g=g0 at hSV
 generalize hD:(fun (v:Value) (h:AH)=>v = .slice (some ⟨130,0,none⟩) n (capU 2)∧h.next=126+5∧hasQ h.objs [some (objQ 126 127),some (objV f x 128 n (capU 2) 129),some (.cells 52 s.c false 2),some (.map s.E s.ck true),some (.cells 52 (svC f n s.c) false 2)] 126)=D
 have nnS:∀ k,NoNames (its g0 k):=fun k=>its_nn _ _
 have wr1:∀ i:Nat,i≤1000000→IntKind.i64.wrap ((i:Int)+1)=((i+1:Nat):Int):=fun i hi=>by rw [wrap_small (by omega) (by omega)];omega
 have cut0:=KWalk.cut0 (η:=η) (B:=B) (D:=D) hη hmix (reg0 hη hmix) f x n s
 have cut1:=fun i0 l0 n0=>KWalk.cut1 (η:=η) (B:=B) (D:=D) hη hmix (reg0 hη hmix) f x n s i0 l0 n0
 simp only [W.holds,true_and,and_true,true_implies,decide_eq_true_eq,decide_eq_false_iff_not,hSV,Nat.zero_add] at cut0 cut1
 have loop:∀ (d a:Nat),n - a=d→1≤a→a≤n→
   RunD η Try.prog B 15 (KWalk.H0 f x n s) [0,7,8,9] (KWalk.S1 f x n s (a:Int) (its g0 a) a fun _=>undef) (QF Try.prog 130 D):=by
  intro d
  induction d with
  | zero=>
   intro a hd h1 han
   have hi:a=n:=by omega
   subst hi
   refine cut1 _ _ _ ⟨fun q=>by omega,fun _=>⟨⟨nn,nE,nnS _⟩,fun _=>?_⟩⟩
   rw [← hD]
   refine⟨rfl,by kernel_rfl,by kernel_rfl,by kernel_rfl,by kernel_rfl,by kernel_rfl,?_,trivial⟩
   rw [hSV];kernel_rfl
  | succ d ih=>
   intro a hd h1 han
   have ha:a<n:=by omega
   have c1:=cut1 (a:Int) (its g0 a) a
   obtain⟨s1,s2⟩:=its_int (g:=g0) (m:=n) (k:=a) ha
   have sc:=its_cut (g:=g0) (m:=n) (k:=a) ha
   have il:=its_len g0 n
   have ila:=its_len g0 a
   rw [Int.toNat_natCast,s1,s2,sc,its_succ,wr1 a (by omega)] at c1
   refine c1 ⟨fun _=>⟨⟨by omega,by omega⟩,fun _=>⟨⟨by omega,rfl⟩,fun _=>⟨⟨by omega,by omega⟩,fun _=>⟨fun q=>by omega,fun _=>⟨⟨nn,nE,nnS _,nnS _⟩,fun _=>ih (a+1) (by omega) (by omega) ha⟩⟩⟩⟩⟩,fun q=>by omega⟩
 refine KWalk.enter hη hmix (reg0 hη hmix) _ _ _ _ ?_
 simp only [W.holds,true_and,and_true,true_implies,decide_eq_true_eq,decide_eq_false_iff_not,hSV]
 refine⟨?_,⟨nn,nE,nnS _⟩,fun _=>?_⟩
 ·have k:=fun (H:AH) hA=>save_any (B:=B) (H:=H) (q:=126) (v:=127) (r:=128) (m:=129) (f:=f) (x:=x) (n:=n) (k:=m) (s:=s) hη hmix hA hf hs hE hn h0 (by omega)
  rw [hSV] at k
  exact(k _ ⟨by kernel_rfl,by kernel_rfl,by kernel_rfl,by kernel_rfl,by decide⟩).conv (by kernel_rfl)
 ·obtain⟨s1,s2⟩:=its_int (g:=g0) (m:=n) (k:=0) h0
  have sc:=its_cut (g:=g0) (m:=n) (k:=0) h0
  have il:=its_len g0 n
  simp only [Nat.zero_mul,Nat.zero_add] at s1 s2 sc
  rw [s1,s2,sc,its_one] at cut0
  exact cut0 ⟨fun _=>⟨⟨by omega,by omega⟩,fun _=>⟨⟨by omega,rfl⟩,fun _=>⟨⟨nn,nE,nnS _⟩,fun _=>loop (n - 1) 1 rfl (Nat.le_refl _) h0⟩⟩⟩,fun q=>by omega⟩
theorem walk_any(hη:OneCells η)(hmix:Try.prog.follows .mixedOrders=true){H:AH}{q v r m f:Nat}{x:Int}{n k:Nat}{s:QS}{g:G}(a:QAt H q v r m f x n s)(hf:isOrd f)(hs:s.c=its g k)(hE:intE s.E)(hn:n≤k)(h0:0<n)(hm:n≤5000) :
  CallSpec η Try.prog B 15 [.pointer (some ⟨q,0,none⟩)] H (KT.ret (.slice (some ⟨H.next,0,none⟩) n (capU 2)) ⟨putL (keyQ (rnK q v r m) 4 H.next) [some (objQ q v),some (objV f x r n (capU 2) m),some (.cells 52 s.c false 2),some (.map s.E s.ck true),some (.cells 52 (svC f n s.c) false 2)] 0 H.objs,H.next+(5 - 4)⟩).sat:=by
 have b3:(svC f n s.c).all bareV=true:=by rw [hs,svC_gV hn];exact its_bare _ _
 refine CallSpec.move hη gs9 (v:=.slice (some ⟨130,0,none⟩) n (capU 2)) (l2:=[some (objQ 126 127),some (objV f x 128 n (capU 2) 129),some (.cells 52 s.c false 2),some (.map s.E s.ck true),some (.cells 52 (svC f n s.c) false 2)])
  (args:=[.pointer (some ⟨126,0,none⟩)]) (stands4 a hs hE) (by simp) (.cons (.ptr (show 126<130 by decide)) .nil) (.slice _ _ (show 130<131 by decide)) ?_ (walk_home hη hmix hf hs hE hn h0 hm)
 exact .cons (.some (ro_Q (show 126<131 by decide) (show 127<131 by decide))) (.cons (.some (ro_V (r:=128) (m:=129) (show 128<131 by decide) (show 129<131 by decide))) (.cons (.some (.cells _ _ (l2_bareV (bare_Q hs)) (.inl rfl))) (.cons (.some (.map _ (bare_int hE) (.inl rfl))) (.cons (.some (.cells _ _ (l2_bareV b3) (.inl rfl))) .nil))))
end HQ
end Go.Ev

namespace Go.Ev
open Go Go.Proofs
open Go.Ev.T renaming node → nN, nil → nZ
open Go.Proofs.Try (prog)
set_option maxRecDepth 100000
set_option maxHeartbeats 2000000
namespace KHand
noncomputable def bd:Code:=(Go.Proofs.Try.f4.body).getD .skip
noncomputable def H0(by_:Int)(ty:Nat)(o:Nat)(c:List Value)(n:Nat)(cap:Nat)(ya:Int)(yb:Int):AH:={ objs:=eE nZ (eE nZ (eE nZ (eE nZ (eE nZ (eE nZ (lL (AObj.cells ty c false 0))))))),next:=127 }
noncomputable def E(by_:Int)(ty:Nat)(o:Nat)(c:List Value)(n:Nat)(cap:Nat)(ya:Int)(yb:Int):AS:=⟨⟨4,187,nS (uI by_) (lL (sS 126 o n cap)) (lL (Value.agg ⟨[iI ya,iI yb]⟩)),[Item.code (codeAt bd [])],[],FrameMode.run,CallKind.normal,none⟩,[],H0 by_ ty o c n cap ya yb⟩
noncomputable def S0(by_:Int)(ty:Nat)(o:Nat)(c:List Value)(n:Nat)(cap:Nat)(ya:Int)(yb:Int)(i0:Int)(i1:Int)(m0:List MapEntry)(n0:Nat)(l0:List Value)(i2:Int)(n1:Nat)(d:Nat→Value):AS:=⟨⟨4,187,nS (d 0) (nS (sS 126 o n cap) (nS (d 3) (nS (pP 127 0) (nS (d 15) (nS (d 31) (nS (d 63) (lL (d 127)) nZ) (nS (d 95) (lL (d 159)) nZ)) (nS (d 47) (nS (d 79) (lL (d 143)) nZ) (nS (d 111) (lL (d 175)) nZ))) (nS (d 23) (nS (d 39) (nS (d 71) (lL (d 135)) nZ) (nS (d 103) (lL (d 167)) nZ)) (nS (d 55) (nS (d 87) (lL (d 151)) nZ) (nS (d 119) (lL (d 183)) nZ)))) (nS (d 11) (nS (d 19) (nS (d 35) (nS (d 67) (lL (d 131)) nZ) (nS (d 99) (lL (d 163)) nZ)) (nS (d 51) (nS (d 83) (lL (d 147)) nZ) (nS (d 115) (lL (d 179)) nZ))) (nS (d 27) (nS (d 43) (nS (d 75) (lL (d 139)) nZ) (nS (d 107) (lL (d 171)) nZ)) (nS (d 59) (nS (d 91) (lL (d 155)) nZ) (lL (d 123)))))) (nS (pP 128 0) (nS (iI i1) (nS (d 17) (nS (d 33) (nS (d 65) (lL (d 129)) nZ) (nS (d 97) (lL (d 161)) nZ)) (nS (d 49) (nS (d 81) (lL (d 145)) nZ) (nS (d 113) (lL (d 177)) nZ))) (nS (d 25) (nS (d 41) (nS (d 73) (lL (d 137)) nZ) (nS (d 105) (lL (d 169)) nZ)) (nS (d 57) (nS (d 89) (lL (d 153)) nZ) (nS (d 121) (lL (d 185)) nZ)))) (nS (d 13) (nS (d 21) (nS (d 37) (nS (d 69) (lL (d 133)) nZ) (nS (d 101) (lL (d 165)) nZ)) (nS (d 53) (nS (d 85) (lL (d 149)) nZ) (nS (d 117) (lL (d 181)) nZ))) (nS (d 29) (nS (d 45) (nS (d 77) (lL (d 141)) nZ) (nS (d 109) (lL (d 173)) nZ)) (nS (d 61) (nS (d 93) (lL (d 157)) nZ) (lL (d 125))))))) (nS (d 2) (nS (d 4) (nS (pP 129 0) (nS (d 16) (nS (d 32) (nS (d 64) (lL (d 128)) nZ) (nS (d 96) (lL (d 160)) nZ)) (nS (d 48) (nS (d 80) (lL (d 144)) nZ) (nS (d 112) (lL (d 176)) nZ))) (nS (d 24) (nS (d 40) (nS (d 72) (lL (d 136)) nZ) (nS (d 104) (lL (d 168)) nZ)) (nS (d 56) (nS (d 88) (lL (d 152)) nZ) (nS (d 120) (lL (d 184)) nZ)))) (nS (d 12) (nS (d 20) (nS (d 36) (nS (d 68) (lL (d 132)) nZ) (nS (d 100) (lL (d 164)) nZ)) (nS (d 52) (nS (d 84) (lL (d 148)) nZ) (nS (d 116) (lL (d 180)) nZ))) (nS (d 28) (nS (d 44) (nS (d 76) (lL (d 140)) nZ) (nS (d 108) (lL (d 172)) nZ)) (nS (d 60) (nS (d 92) (lL (d 156)) nZ) (lL (d 124)))))) (nS (d 6) (nS (d 10) (nS (d 18) (nS (d 34) (nS (d 66) (lL (d 130)) nZ) (nS (d 98) (lL (d 162)) nZ)) (nS (d 50) (nS (d 82) (lL (d 146)) nZ) (nS (d 114) (lL (d 178)) nZ))) (nS (d 26) (nS (d 42) (nS (d 74) (lL (d 138)) nZ) (nS (d 106) (lL (d 170)) nZ)) (nS (d 58) (nS (d 90) (lL (d 154)) nZ) (nS (d 122) (lL (d 186)) nZ)))) (nS (d 14) (nS (d 22) (nS (d 38) (nS (d 70) (lL (d 134)) nZ) (nS (d 102) (lL (d 166)) nZ)) (nS (d 54) (nS (d 86) (lL (d 150)) nZ) (nS (d 118) (lL (d 182)) nZ))) (nS (d 30) (nS (d 46) (nS (d 78) (lL (d 142)) nZ) (nS (d 110) (lL (d 174)) nZ)) (nS (d 62) (nS (d 94) (lL (d 158)) nZ) (lL (d 126))))))),[Item.code (codeAt bd [1,1,1,1,1,0,1,0,0]),Item.inLoop (codeAt bd [1,1,1,1,1,0,1,0,0]),Item.inBlock 0,Item.code (codeAt bd [1,1,1,1,1,1])],[],FrameMode.run,CallKind.normal,none⟩,[],⟨eE (eE (eE (eE (eE (eE (eE (lL (AObj.cells 78 [pP 127 0,pP 130 0] true 2)) nZ) nZ) nZ) nZ) (eE (eE (eE (eE (lL (AObj.cells 52 (HQ.svC (HQ.ordN by_) n (HQ.mdS (HQ.ordN by_) c o n).c) false 2)) nZ) nZ) nZ) nZ)) (eE (eE (eE (eE (eE (lL (AObj.cells 24 [iI i0,sS 131 0 n u2] true 2)) nZ) nZ) nZ) nZ) (eE (eE (eE (eE (lL (AObj.map m0 n0 true)) nZ) nZ) nZ) nZ))) (eE (eE (eE (eE (eE (eE (lL (AObj.cells 44 [iI ya,iI yb] true 2)) nZ) nZ) nZ) nZ) (eE (eE (eE (eE (lL (AObj.cells 52 l0 false 2)) nZ) nZ) nZ) nZ)) (eE (eE (eE (eE (eE (lL (AObj.cells 74 [Value.func (Fn.func (HQ.ordN by_)) ⟨[]⟩ ⟨[]⟩,iI i2,sS 132 0 n1 u2,Value.map (some 133)] true 2)) nZ) nZ) nZ) nZ) (eE nZ (eE nZ (eE nZ (lL (AObj.cells ty c false 0))))))),134⟩⟩
noncomputable def S1(by_:Int)(ty:Nat)(o:Nat)(c:List Value)(n:Nat)(cap:Nat)(ya:Int)(yb:Int)(i0:Int)(m0:List MapEntry)(n0:Nat)(l0:List Value)(i1:Int)(n1:Nat)(i2:Int)(i3:Int)(d:Nat→Value):AS:=⟨⟨4,187,nS (d 0) (nS (sS 126 o n cap) (nS (d 3) (nS (pP 127 0) (nS (d 15) (nS (d 31) (nS (d 63) (lL (d 127)) nZ) (nS (d 95) (lL (d 159)) nZ)) (nS (d 47) (nS (d 79) (lL (d 143)) nZ) (nS (d 111) (lL (d 175)) nZ))) (nS (d 23) (nS (d 39) (nS (d 71) (lL (d 135)) nZ) (nS (d 103) (lL (d 167)) nZ)) (nS (d 55) (nS (d 87) (lL (d 151)) nZ) (nS (d 119) (lL (d 183)) nZ)))) (nS (d 11) (nS (d 19) (nS (d 35) (nS (d 67) (lL (d 131)) nZ) (nS (d 99) (lL (d 163)) nZ)) (nS (d 51) (nS (d 83) (lL (d 147)) nZ) (nS (d 115) (lL (d 179)) nZ))) (nS (d 27) (nS (d 43) (nS (d 75) (lL (d 139)) nZ) (nS (d 107) (lL (d 171)) nZ)) (nS (d 59) (nS (d 91) (lL (d 155)) nZ) (lL (d 123)))))) (nS (pP 128 0) (nS (iI i2) (nS (d 17) (nS (d 33) (nS (d 65) (lL (d 129)) nZ) (nS (d 97) (lL (d 161)) nZ)) (nS (d 49) (nS (d 81) (lL (d 145)) nZ) (nS (d 113) (lL (d 177)) nZ))) (nS (d 25) (nS (d 41) (nS (d 73) (lL (d 137)) nZ) (nS (d 105) (lL (d 169)) nZ)) (nS (d 57) (nS (d 89) (lL (d 153)) nZ) (nS (d 121) (lL (d 185)) nZ)))) (nS (d 13) (nS (d 21) (nS (d 37) (nS (d 69) (lL (d 133)) nZ) (nS (d 101) (lL (d 165)) nZ)) (nS (d 53) (nS (d 85) (lL (d 149)) nZ) (nS (d 117) (lL (d 181)) nZ))) (nS (d 29) (nS (d 45) (nS (d 77) (lL (d 141)) nZ) (nS (d 109) (lL (d 173)) nZ)) (nS (d 61) (nS (d 93) (lL (d 157)) nZ) (lL (d 125))))))) (nS (d 2) (nS (d 4) (nS (pP 129 0) (nS (d 16) (nS (d 32) (nS (d 64) (lL (d 128)) nZ) (nS (d 96) (lL (d 160)) nZ)) (nS (d 48) (nS (d 80) (lL (d 144)) nZ) (nS (d 112) (lL (d 176)) nZ))) (nS (d 24) (nS (d 40) (nS (d 72) (lL (d 136)) nZ) (nS (d 104) (lL (d 168)) nZ)) (nS (d 56) (nS (d 88) (lL (d 152)) nZ) (nS (d 120) (lL (d 184)) nZ)))) (nS (d 12) (nS (d 20) (nS (d 36) (nS (d 68) (lL (d 132)) nZ) (nS (d 100) (lL (d 164)) nZ)) (nS (d 52) (nS (d 84) (lL (d 148)) nZ) (nS (d 116) (lL (d 180)) nZ))) (nS (d 28) (nS (d 44) (nS (d 76) (lL (d 140)) nZ) (nS (d 108) (lL (d 172)) nZ)) (nS (d 60) (nS (d 92) (lL (d 156)) nZ) (lL (d 124)))))) (nS (d 6) (nS (iI i0) (nS (d 18) (nS (d 34) (nS (d 66) (lL (d 130)) nZ) (nS (d 98) (lL (d 162)) nZ)) (nS (d 50) (nS (d 82) (lL (d 146)) nZ) (nS (d 114) (lL (d 178)) nZ))) (nS (d 26) (nS (d 42) (nS (d 74) (lL (d 138)) nZ) (nS (d 106) (lL (d 170)) nZ)) (nS (d 58) (nS (d 90) (lL (d 154)) nZ) (nS (d 122) (lL (d 186)) nZ)))) (nS (d 14) (nS (d 22) (nS (d 38) (nS (d 70) (lL (d 134)) nZ) (nS (d 102) (lL (d 166)) nZ)) (nS (d 54) (nS (d 86) (lL (d 150)) nZ) (nS (d 118) (lL (d 182)) nZ))) (nS (d 30) (nS (d 46) (nS (d 78) (lL (d 142)) nZ) (nS (d 110) (lL (d 174)) nZ)) (nS (d 62) (nS (d 94) (lL (d 158)) nZ) (lL (d 126))))))),[Item.code (codeAt bd [1,1,1,1,1,0,1,0,0,1,0,0,1,1,0]),Item.code (codeAt bd [1,1,1,1,1,0,1,0,0,1,0,0,1,1,1]),Item.inBlock 1,Item.code (codeAt bd [1,1,1,1,1,0,1,0,0,1,1]),Item.inLoop (codeAt bd [1,1,1,1,1,0,1,0,0]),Item.inBlock 0,Item.code (codeAt bd [1,1,1,1,1,1])],[],FrameMode.run,CallKind.normal,none⟩,[],⟨eE (eE (eE (eE (eE (eE (eE (lL (AObj.cells 78 [pP 127 0,pP 130 0] true 2)) nZ) nZ) nZ) nZ) (eE (eE (eE (eE (lL (AObj.cells 52 (HQ.svC (HQ.ordN by_) n (HQ.mdS (HQ.ordN by_) c o n).c) false 2)) nZ) nZ) nZ) nZ)) (eE (eE (eE (eE (eE (lL (AObj.cells 24 [iI i3,sS 131 0 n u2] true 2)) nZ) nZ) nZ) nZ) (eE (eE (eE (eE (lL (AObj.map m0 n0 true)) nZ) nZ) nZ) nZ))) (eE (eE (eE (eE (eE (eE (lL (AObj.cells 44 [iI ya,iI yb] true 2)) nZ) nZ) nZ) nZ) (eE (eE (eE (eE (lL (AObj.cells 52 l0 false 2)) nZ) nZ) nZ) nZ)) (eE (eE (eE (eE (eE (lL (AObj.cells 74 [Value.func (Fn.func (HQ.ordN by_)) ⟨[]⟩ ⟨[]⟩,iI i1,sS 132 0 n1 u2,Value.map (some 133)] true 2)) nZ) nZ) nZ) nZ) (eE nZ (eE nZ (eE nZ (lL (AObj.cells ty c false 0))))))),134⟩⟩
noncomputable def S2(by_:Int)(ty:Nat)(o:Nat)(c:List Value)(n:Nat)(cap:Nat)(ya:Int)(yb:Int)(i0:Int)(i1:Int)(i2:Int)(m1:List MapEntry)(n2:Nat)(l1:List Value)(n3:Nat)(i3:Int)(d:Nat→Value):AS:=⟨⟨4,187,nS (d 0) (nS (sS 126 o n cap) (nS (d 3) (nS (pP 127 0) (nS (d 15) (nS (d 31) (nS (d 63) (lL (d 127)) nZ) (nS (d 95) (lL (d 159)) nZ)) (nS (d 47) (nS (d 79) (lL (d 143)) nZ) (nS (d 111) (lL (d 175)) nZ))) (nS (d 23) (nS (d 39) (nS (d 71) (lL (d 135)) nZ) (nS (d 103) (lL (d 167)) nZ)) (nS (d 55) (nS (d 87) (lL (d 151)) nZ) (nS (d 119) (lL (d 183)) nZ)))) (nS (iI 0) (nS (d 19) (nS (d 35) (nS (d 67) (lL (d 131)) nZ) (nS (d 99) (lL (d 163)) nZ)) (nS (d 51) (nS (d 83) (lL (d 147)) nZ) (nS (d 115) (lL (d 179)) nZ))) (nS (d 27) (nS (d 43) (nS (d 75) (lL (d 139)) nZ) (nS (d 107) (lL (d 171)) nZ)) (nS (d 59) (nS (d 91) (lL (d 155)) nZ) (lL (d 123)))))) (nS (pP 128 0) (nS (iI i3) (nS (d 17) (nS (d 33) (nS (d 65) (lL (d 129)) nZ) (nS (d 97) (lL (d 161)) nZ)) (nS (d 49) (nS (d 81) (lL (d 145)) nZ) (nS (d 113) (lL (d 177)) nZ))) (nS (d 25) (nS (d 41) (nS (d 73) (lL (d 137)) nZ) (nS (d 105) (lL (d 169)) nZ)) (nS (d 57) (nS (d 89) (lL (d 153)) nZ) (nS (d 121) (lL (d 185)) nZ)))) (nS (d 13) (nS (d 21) (nS (d 37) (nS (d 69) (lL (d 133)) nZ) (nS (d 101) (lL (d 165)) nZ)) (nS (d 53) (nS (d 85) (lL (d 149)) nZ) (nS (d 117) (lL (d 181)) nZ))) (nS (d 29) (nS (d 45) (nS (d 77) (lL (d 141)) nZ) (nS (d 109) (lL (d 173)) nZ)) (nS (d 61) (nS (d 93) (lL (d 157)) nZ) (lL (d 125))))))) (nS (d 2) (nS (d 4) (nS (pP 129 0) (nS (d 16) (nS (d 32) (nS (d 64) (lL (d 128)) nZ) (nS (d 96) (lL (d 160)) nZ)) (nS (d 48) (nS (d 80) (lL (d 144)) nZ) (nS (d 112) (lL (d 176)) nZ))) (nS (d 24) (nS (d 40) (nS (d 72) (lL (d 136)) nZ) (nS (d 104) (lL (d 168)) nZ)) (nS (d 56) (nS (d 88) (lL (d 152)) nZ) (nS (d 120) (lL (d 184)) nZ)))) (nS (iI i2) (nS (d 20) (nS (d 36) (nS (d 68) (lL (d 132)) nZ) (nS (d 100) (lL (d 164)) nZ)) (nS (d 52) (nS (d 84) (lL (d 148)) nZ) (nS (d 116) (lL (d 180)) nZ))) (nS (d 28) (nS (d 44) (nS (d 76) (lL (d 140)) nZ) (nS (d 108) (lL (d 172)) nZ)) (nS (d 60) (nS (d 92) (lL (d 156)) nZ) (lL (d 124)))))) (nS (d 6) (nS (d 10) (nS (d 18) (nS (d 34) (nS (d 66) (lL (d 130)) nZ) (nS (d 98) (lL (d 162)) nZ)) (nS (d 50) (nS (d 82) (lL (d 146)) nZ) (nS (d 114) (lL (d 178)) nZ))) (nS (d 26) (nS (d 42) (nS (d 74) (lL (d 138)) nZ) (nS (d 106) (lL (d 170)) nZ)) (nS (d 58) (nS (d 90) (lL (d 154)) nZ) (nS (d 122) (lL (d 186)) nZ)))) (nS (d 14) (nS (d 22) (nS (d 38) (nS (d 70) (lL (d 134)) nZ) (nS (d 102) (lL (d 166)) nZ)) (nS (d 54) (nS (d 86) (lL (d 150)) nZ) (nS (d 118) (lL (d 182)) nZ))) (nS (d 30) (nS (d 46) (nS (d 78) (lL (d 142)) nZ) (nS (d 110) (lL (d 174)) nZ)) (nS (d 62) (nS (d 94) (lL (d 158)) nZ) (lL (d 126))))))),[Item.code (codeAt bd [1,1,1,1,1,0,1,0,0,1,0,0,1,1,1,0]),Item.code (codeAt bd [1,1,1,1,1,0,1,0,0,1,0,0,1,1,1,1]),Item.inBlock 1,Item.code (codeAt bd [1,1,1,1,1,0,1,0,0,1,1]),Item.inLoop (codeAt bd [1,1,1,1,1,0,1,0,0]),Item.inBlock 0,Item.code (codeAt bd [1,1,1,1,1,1])],[],FrameMode.run,CallKind.normal,none⟩,[],⟨eE (eE (eE (eE (eE (eE (eE (lL (AObj.cells 78 [pP 127 0,pP 130 0] true 2)) nZ) nZ) nZ) nZ) (eE (eE (eE (eE (lL (AObj.cells 52 (HQ.svC (HQ.ordN by_) n (HQ.mdS (HQ.ordN by_) c o n).c) false 2)) nZ) nZ) nZ) nZ)) (eE (eE (eE (eE (eE (lL (AObj.cells 24 [iI i0,sS 131 0 n u2] true 2)) nZ) nZ) nZ) nZ) (eE (eE (eE (eE (lL (AObj.map m1 n2 true)) nZ) nZ) nZ) nZ))) (eE (eE (eE (eE (eE (eE (lL (AObj.cells 44 [iI ya,iI yb] true 2)) nZ) nZ) nZ) nZ) (eE (eE (eE (eE (lL (AObj.cells 52 l1 false 2)) nZ) nZ) nZ) nZ)) (eE (eE (eE (eE (eE (lL (AObj.cells 74 [Value.func (Fn.func (HQ.ordN by_)) ⟨[]⟩ ⟨[]⟩,iI i1,sS 132 0 n3 u2,Value.map (some 133)] true 2)) nZ) nZ) nZ) nZ) (eE nZ (eE nZ (eE nZ (lL (AObj.cells ty c false 0))))))),134⟩⟩
noncomputable def S3(by_:Int)(ty:Nat)(o:Nat)(c:List Value)(n:Nat)(cap:Nat)(ya:Int)(yb:Int)(i0:Int)(i2:Int)(n0:Nat)(n1:Nat)(l0:List Value)(m0:List MapEntry)(d:Nat→Value):AS:=⟨⟨4,187,nS (d 0) (nS (sS 126 o n cap) (nS (d 3) (nS (pP 127 0) (nS (d 15) (nS (d 31) (nS (d 63) (lL (d 127)) nZ) (nS (d 95) (lL (d 159)) nZ)) (nS (d 47) (nS (d 79) (lL (d 143)) nZ) (nS (d 111) (lL (d 175)) nZ))) (nS (d 23) (nS (d 39) (nS (d 71) (lL (d 135)) nZ) (nS (d 103) (lL (d 167)) nZ)) (nS (d 55) (nS (d 87) (lL (d 151)) nZ) (nS (d 119) (lL (d 183)) nZ)))) (nS (d 11) (nS (d 19) (nS (d 35) (nS (d 67) (lL (d 131)) nZ) (nS (d 99) (lL (d 163)) nZ)) (nS (d 51) (nS (d 83) (lL (d 147)) nZ) (nS (d 115) (lL (d 179)) nZ))) (nS (d 27) (nS (d 43) (nS (d 75) (lL (d 139)) nZ) (nS (d 107) (lL (d 171)) nZ)) (nS (d 59) (nS (d 91) (lL (d 155)) nZ) (lL (d 123)))))) (nS (pP 128 0) (nS (d 9) (nS (d 17) (nS (d 33) (nS (d 65) (lL (d 129)) nZ) (nS (d 97) (lL (d 161)) nZ)) (nS (d 49) (nS (d 81) (lL (d 145)) nZ) (nS (d 113) (lL (d 177)) nZ))) (nS (d 25) (nS (d 41) (nS (d 73) (lL (d 137)) nZ) (nS (d 105) (lL (d 169)) nZ)) (nS (d 57) (nS (d 89) (lL (d 153)) nZ) (nS (d 121) (lL (d 185)) nZ)))) (nS (d 13) (nS (d 21) (nS (d 37) (nS (d 69) (lL (d 133)) nZ) (nS (d 101) (lL (d 165)) nZ)) (nS (d 53) (nS (d 85) (lL (d 149)) nZ) (nS (d 117) (lL (d 181)) nZ))) (nS (d 29) (nS (d 45) (nS (d 77) (lL (d 141)) nZ) (nS (d 109) (lL (d 173)) nZ)) (nS (d 61) (nS (d 93) (lL (d 157)) nZ) (lL (d 125))))))) (nS (d 2) (nS (d 4) (nS (pP 129 0) (nS (d 16) (nS (d 32) (nS (d 64) (lL (d 128)) nZ) (nS (d 96) (lL (d 160)) nZ)) (nS (d 48) (nS (d 80) (lL (d 144)) nZ) (nS (d 112) (lL (d 176)) nZ))) (nS (d 24) (nS (d 40) (nS (d 72) (lL (d 136)) nZ) (nS (d 104) (lL (d 168)) nZ)) (nS (d 56) (nS (d 88) (lL (d 152)) nZ) (nS (d 120) (lL (d 184)) nZ)))) (nS (d 12) (nS (d 20) (nS (d 36) (nS (d 68) (lL (d 132)) nZ) (nS (d 100) (lL (d 164)) nZ)) (nS (d 52) (nS (d 84) (lL (d 148)) nZ) (nS (d 116) (lL (d 180)) nZ))) (nS (d 28) (nS (d 44) (nS (d 76) (lL (d 140)) nZ) (nS (d 108) (lL (d 172)) nZ)) (nS (d 60) (nS (d 92) (lL (d 156)) nZ) (lL (d 124)))))) (nS (d 6) (nS (d 10) (nS (d 18) (nS (d 34) (nS (d 66) (lL (d 130)) nZ) (nS (d 98) (lL (d 162)) nZ)) (nS (d 50) (nS (d 82) (lL (d 146)) nZ) (nS (d 114) (lL (d 178)) nZ))) (nS (d 26) (nS (d 42) (nS (d 74) (lL (d 138)) nZ) (nS (d 106) (lL (d 170)) nZ)) (nS (d 58) (nS (d 90) (lL (d 154)) nZ) (nS (d 122) (lL (d 186)) nZ)))) (nS (d 14) (nS (d 22) (nS (d 38) (nS (d 70) (lL (d 134)) nZ) (nS (d 102) (lL (d 166)) nZ)) (nS (d 54) (nS (d 86) (lL (d 150)) nZ) (nS (d 118) (lL (d 182)) nZ))) (nS (d 30) (nS (d 46) (nS (d 78) (lL (d 142)) nZ) (nS (d 110) (lL (d 174)) nZ)) (nS (d 62) (nS (d 94) (lL (d 158)) nZ) (lL (d 126))))))),[Item.code (codeAt bd [1,1,1,1,1,1,1,0]),Item.code (codeAt bd [1,1,1,1,1,1,1,1])],[],FrameMode.run,CallKind.normal,none⟩,[],⟨eE (eE (eE (eE (eE (eE (eE (lL (AObj.cells 78 [pP 127 0,pP 130 0] true 2)) nZ) nZ) nZ) nZ) (eE (eE (eE (eE (lL (AObj.cells 52 (HQ.svC (HQ.ordN by_) n (HQ.mdS (HQ.ordN by_) c o n).c) false 2)) nZ) nZ) nZ) nZ)) (eE (eE (eE (eE (eE (lL (AObj.cells 24 [iI i0,sS 131 0 n u2] true 2)) nZ) nZ) nZ) nZ) (eE (eE (eE (eE (lL (AObj.map m0 n0 true)) nZ) nZ) nZ) nZ))) (eE (eE (eE (eE (eE (eE (lL (AObj.cells 44 [iI ya,iI yb] true 2)) nZ) nZ) nZ) nZ) (eE (eE (eE (eE (lL (AObj.cells 52 l0 false 2)) nZ) nZ) nZ) nZ)) (eE (eE (eE (eE (eE (lL (AObj.cells 74 [Value.func (Fn.func (HQ.ordN by_)) ⟨[]⟩ ⟨[]⟩,iI i2,sS 132 0 n1 u2,Value.map (some 133)] true 2)) nZ) nZ) nZ) nZ) (eE nZ (eE nZ (eE nZ (lL (AObj.cells ty c false 0))))))),134⟩⟩
noncomputable def S4(by_:Int)(ty:Nat)(o:Nat)(c:List Value)(n:Nat)(cap:Nat)(ya:Int)(yb:Int)(i0:Int)(i2:Int)(n0:Nat)(n1:Nat)(l0:List Value)(m0:List MapEntry)(i1:Int)(d:Nat→Value):AS:=⟨⟨4,187,nS (d 0) (nS (sS 126 o n cap) (nS (d 3) (nS (pP 127 0) (nS (d 15) (nS (d 31) (nS (d 63) (lL (d 127)) nZ) (nS (d 95) (lL (d 159)) nZ)) (nS (d 47) (nS (d 79) (lL (d 143)) nZ) (nS (d 111) (lL (d 175)) nZ))) (nS (d 23) (nS (d 39) (nS (d 71) (lL (d 135)) nZ) (nS (d 103) (lL (d 167)) nZ)) (nS (d 55) (nS (d 87) (lL (d 151)) nZ) (nS (d 119) (lL (d 183)) nZ)))) (nS (d 11) (nS (d 19) (nS (d 35) (nS (d 67) (lL (d 131)) nZ) (nS (d 99) (lL (d 163)) nZ)) (nS (d 51) (nS (d 83) (lL (d 147)) nZ) (nS (d 115) (lL (d 179)) nZ))) (nS (d 27) (nS (d 43) (nS (d 75) (lL (d 139)) nZ) (nS (d 107) (lL (d 171)) nZ)) (nS (d 59) (nS (d 91) (lL (d 155)) nZ) (lL (d 123)))))) (nS (pP 128 0) (nS (d 9) (nS (d 17) (nS (d 33) (nS (d 65) (lL (d 129)) nZ) (nS (d 97) (lL (d 161)) nZ)) (nS (d 49) (nS (d 81) (lL (d 145)) nZ) (nS (d 113) (lL (d 177)) nZ))) (nS (d 25) (nS (d 41) (nS (d 73) (lL (d 137)) nZ) (nS (d 105) (lL (d 169)) nZ)) (nS (d 57) (nS (d 89) (lL (d 153)) nZ) (nS (d 121) (lL (d 185)) nZ)))) (nS (iI i1) (nS (d 21) (nS (d 37) (nS (d 69) (lL (d 133)) nZ) (nS (d 101) (lL (d 165)) nZ)) (nS (d 53) (nS (d 85) (lL (d 149)) nZ) (nS (d 117) (lL (d 181)) nZ))) (nS (d 29) (nS (d 45) (nS (d 77) (lL (d 141)) nZ) (nS (d 109) (lL (d 173)) nZ)) (nS (d 61) (nS (d 93) (lL (d 157)) nZ) (lL (d 125))))))) (nS (d 2) (nS (d 4) (nS (pP 129 0) (nS (d 16) (nS (d 32) (nS (d 64) (lL (d 128)) nZ) (nS (d 96) (lL (d 160)) nZ)) (nS (d 48) (nS (d 80) (lL (d 144)) nZ) (nS (d 112) (lL (d 176)) nZ))) (nS (d 24) (nS (d 40) (nS (d 72) (lL (d 136)) nZ) (nS (d 104) (lL (d 168)) nZ)) (nS (d 56) (nS (d 88) (lL (d 152)) nZ) (nS (d 120) (lL (d 184)) nZ)))) (nS (d 12) (nS (d 20) (nS (d 36) (nS (d 68) (lL (d 132)) nZ) (nS (d 100) (lL (d 164)) nZ)) (nS (d 52) (nS (d 84) (lL (d 148)) nZ) (nS (d 116) (lL (d 180)) nZ))) (nS (d 28) (nS (d 44) (nS (d 76) (lL (d 140)) nZ) (nS (d 108) (lL (d 172)) nZ)) (nS (d 60) (nS (d 92) (lL (d 156)) nZ) (lL (d 124)))))) (nS (d 6) (nS (d 10) (nS (d 18) (nS (d 34) (nS (d 66) (lL (d 130)) nZ) (nS (d 98) (lL (d 162)) nZ)) (nS (d 50) (nS (d 82) (lL (d 146)) nZ) (nS (d 114) (lL (d 178)) nZ))) (nS (d 26) (nS (d 42) (nS (d 74) (lL (d 138)) nZ) (nS (d 106) (lL (d 170)) nZ)) (nS (d 58) (nS (d 90) (lL (d 154)) nZ) (nS (d 122) (lL (d 186)) nZ)))) (nS (d 14) (nS (d 22) (nS (d 38) (nS (d 70) (lL (d 134)) nZ) (nS (d 102) (lL (d 166)) nZ)) (nS (d 54) (nS (d 86) (lL (d 150)) nZ) (nS (d 118) (lL (d 182)) nZ))) (nS (d 30) (nS (d 46) (nS (d 78) (lL (d 142)) nZ) (nS (d 110) (lL (d 174)) nZ)) (nS (d 62) (nS (d 94) (lL (d 158)) nZ) (lL (d 126))))))),[Item.code (codeAt bd [1,1,1,1,1,1,1,1,0]),Item.code (codeAt bd [1,1,1,1,1,1,1,1,1])],[],FrameMode.run,CallKind.normal,none⟩,[],⟨eE (eE (eE (eE (eE (eE (eE (lL (AObj.cells 78 [pP 127 0,pP 130 0] true 2)) nZ) nZ) nZ) nZ) (eE (eE (eE (eE (lL (AObj.cells 52 (HQ.svC (HQ.ordN by_) n (HQ.mdS (HQ.ordN by_) c o n).c) false 2)) nZ) nZ) nZ) nZ)) (eE (eE (eE (eE (eE (lL (AObj.cells 24 [iI i0,sS 131 0 n u2] true 2)) nZ) nZ) nZ) nZ) (eE (eE (eE (eE (lL (AObj.map m0 n0 true)) nZ) nZ) nZ) nZ))) (eE (eE (eE (eE (eE (eE (lL (AObj.cells 44 [iI ya,iI yb] true 2)) nZ) nZ) nZ) nZ) (eE (eE (eE (eE (lL (AObj.cells 52 l0 false 2)) nZ) nZ) nZ) nZ)) (eE (eE (eE (eE (eE (lL (AObj.cells 74 [Value.func (Fn.func (HQ.ordN by_)) ⟨[]⟩ ⟨[]⟩,iI i2,sS 132 0 n1 u2,Value.map (some 133)] true 2)) nZ) nZ) nZ) nZ) (eE nZ (eE nZ (eE nZ (lL (AObj.cells ty c false 0))))))),134⟩⟩
noncomputable def S5(by_:Int)(ty:Nat)(o:Nat)(c:List Value)(n:Nat)(cap:Nat)(ya:Int)(yb:Int)(i0:Int)(i1:Int)(i2:Int)(n0:Nat)(n1:Nat)(l0:List Value)(m0:List MapEntry)(i3:Int)(d:Nat→Value):AS:=⟨⟨4,187,nS (d 0) (nS (sS 126 o n cap) (nS (d 3) (nS (pP 127 0) (nS (iI 0) (nS (d 31) (nS (d 63) (lL (d 127)) nZ) (nS (d 95) (lL (d 159)) nZ)) (nS (d 47) (nS (d 79) (lL (d 143)) nZ) (nS (d 111) (lL (d 175)) nZ))) (nS (d 23) (nS (d 39) (nS (d 71) (lL (d 135)) nZ) (nS (d 103) (lL (d 167)) nZ)) (nS (d 55) (nS (d 87) (lL (d 151)) nZ) (nS (d 119) (lL (d 183)) nZ)))) (nS (d 11) (nS (d 19) (nS (d 35) (nS (d 67) (lL (d 131)) nZ) (nS (d 99) (lL (d 163)) nZ)) (nS (d 51) (nS (d 83) (lL (d 147)) nZ) (nS (d 115) (lL (d 179)) nZ))) (nS (d 27) (nS (d 43) (nS (d 75) (lL (d 139)) nZ) (nS (d 107) (lL (d 171)) nZ)) (nS (d 59) (nS (d 91) (lL (d 155)) nZ) (lL (d 123)))))) (nS (pP 128 0) (nS (d 9) (nS (d 17) (nS (d 33) (nS (d 65) (lL (d 129)) nZ) (nS (d 97) (lL (d 161)) nZ)) (nS (d 49) (nS (d 81) (lL (d 145)) nZ) (nS (d 113) (lL (d 177)) nZ))) (nS (d 25) (nS (d 41) (nS (d 73) (lL (d 137)) nZ) (nS (d 105) (lL (d 169)) nZ)) (nS (d 57) (nS (d 89) (lL (d 153)) nZ) (nS (d 121) (lL (d 185)) nZ)))) (nS (iI i1) (nS (d 21) (nS (d 37) (nS (d 69) (lL (d 133)) nZ) (nS (d 101) (lL (d 165)) nZ)) (nS (d 53) (nS (d 85) (lL (d 149)) nZ) (nS (d 117) (lL (d 181)) nZ))) (nS (d 29) (nS (d 45) (nS (d 77) (lL (d 141)) nZ) (nS (d 109) (lL (d 173)) nZ)) (nS (d 61) (nS (d 93) (lL (d 157)) nZ) (lL (d 125))))))) (nS (d 2) (nS (d 4) (nS (pP 129 0) (nS (d 16) (nS (d 32) (nS (d 64) (lL (d 128)) nZ) (nS (d 96) (lL (d 160)) nZ)) (nS (d 48) (nS (d 80) (lL (d 144)) nZ) (nS (d 112) (lL (d 176)) nZ))) (nS (d 24) (nS (d 40) (nS (d 72) (lL (d 136)) nZ) (nS (d 104) (lL (d 168)) nZ)) (nS (d 56) (nS (d 88) (lL (d 152)) nZ) (nS (d 120) (lL (d 184)) nZ)))) (nS (d 12) (nS (d 20) (nS (d 36) (nS (d 68) (lL (d 132)) nZ) (nS (d 100) (lL (d 164)) nZ)) (nS (d 52) (nS (d 84) (lL (d 148)) nZ) (nS (d 116) (lL (d 180)) nZ))) (nS (d 28) (nS (d 44) (nS (d 76) (lL (d 140)) nZ) (nS (d 108) (lL (d 172)) nZ)) (nS (d 60) (nS (d 92) (lL (d 156)) nZ) (lL (d 124)))))) (nS (d 6) (nS (d 10) (nS (d 18) (nS (d 34) (nS (d 66) (lL (d 130)) nZ) (nS (d 98) (lL (d 162)) nZ)) (nS (d 50) (nS (d 82) (lL (d 146)) nZ) (nS (d 114) (lL (d 178)) nZ))) (nS (d 26) (nS (d 42) (nS (d 74) (lL (d 138)) nZ) (nS (d 106) (lL (d 170)) nZ)) (nS (d 58) (nS (d 90) (lL (d 154)) nZ) (nS (d 122) (lL (d 186)) nZ)))) (nS (iI i3) (nS (d 22) (nS (d 38) (nS (d 70) (lL (d 134)) nZ) (nS (d 102) (lL (d 166)) nZ)) (nS (d 54) (nS (d 86) (lL (d 150)) nZ) (nS (d 118) (lL (d 182)) nZ))) (nS (d 30) (nS (d 46) (nS (d 78) (lL (d 142)) nZ) (nS (d 110) (lL (d 174)) nZ)) (nS (d 62) (nS (d 94) (lL (d 158)) nZ) (lL (d 126))))))),[Item.code (codeAt bd [1,1,1,1,1,1,1,1,1,0,0]),Item.code (codeAt bd [1,1,1,1,1,1,1,1,1,0,1]),Item.code (codeAt bd [1,1,1,1,1,1,1,1,1,1])],[],FrameMode.run,CallKind.normal,none⟩,[],⟨eE (eE (eE (eE (eE (eE (eE (lL (AObj.cells 78 [pP 127 0,pP 130 0] true 2)) nZ) nZ) nZ) nZ) (eE (eE (eE (eE (lL (AObj.cells 52 (HQ.svC (HQ.ordN by_) n (HQ.mdS (HQ.ordN by_) c o n).c) false 2)) nZ) nZ) nZ) nZ)) (eE (eE (eE (eE (eE (lL (AObj.cells 24 [iI i0,sS 131 0 n u2] true 2)) nZ) nZ) nZ) nZ) (eE (eE (eE (eE (lL (AObj.map m0 n0 true)) nZ) nZ) nZ) nZ))) (eE (eE (eE (eE (eE (eE (lL (AObj.cells 44 [iI ya,iI yb] true 2)) nZ) nZ) nZ) nZ) (eE (eE (eE (eE (lL (AObj.cells 52 l0 false 2)) nZ) nZ) nZ) nZ)) (eE (eE (eE (eE (eE (lL (AObj.cells 74 [Value.func (Fn.func (HQ.ordN by_)) ⟨[]⟩ ⟨[]⟩,iI i2,sS 132 0 n1 u2,Value.map (some 133)] true 2)) nZ) nZ) nZ) nZ) (eE nZ (eE nZ (eE nZ (lL (AObj.cells ty c false 0))))))),134⟩⟩
noncomputable def S6(by_:Int)(ty:Nat)(o:Nat)(c:List Value)(n:Nat)(cap:Nat)(ya:Int)(yb:Int)(i0:Int)(i1:Int)(i2:Int)(n1:Nat)(m1:List MapEntry)(n2:Nat)(l1:List Value)(d:Nat→Value):AS:=⟨⟨4,187,nS (d 0) (nS (d 1) (nS (d 3) (nS (pP 127 0) (nS (d 15) (nS (d 31) (nS (d 63) (lL (d 127)) nZ) (nS (d 95) (lL (d 159)) nZ)) (nS (d 47) (nS (d 79) (lL (d 143)) nZ) (nS (d 111) (lL (d 175)) nZ))) (nS (d 23) (nS (d 39) (nS (d 71) (lL (d 135)) nZ) (nS (d 103) (lL (d 167)) nZ)) (nS (d 55) (nS (d 87) (lL (d 151)) nZ) (nS (d 119) (lL (d 183)) nZ)))) (nS (d 11) (nS (d 19) (nS (d 35) (nS (d 67) (lL (d 131)) nZ) (nS (d 99) (lL (d 163)) nZ)) (nS (d 51) (nS (d 83) (lL (d 147)) nZ) (nS (d 115) (lL (d 179)) nZ))) (nS (d 27) (nS (d 43) (nS (d 75) (lL (d 139)) nZ) (nS (d 107) (lL (d 171)) nZ)) (nS (d 59) (nS (d 91) (lL (d 155)) nZ) (lL (d 123)))))) (nS (pP 128 0) (nS (d 9) (nS (d 17) (nS (d 33) (nS (d 65) (lL (d 129)) nZ) (nS (d 97) (lL (d 161)) nZ)) (nS (d 49) (nS (d 81) (lL (d 145)) nZ) (nS (d 113) (lL (d 177)) nZ))) (nS (d 25) (nS (d 41) (nS (d 73) (lL (d 137)) nZ) (nS (d 105) (lL (d 169)) nZ)) (nS (d 57) (nS (d 89) (lL (d 153)) nZ) (nS (d 121) (lL (d 185)) nZ)))) (nS (iI i1) (nS (d 21) (nS (d 37) (nS (d 69) (lL (d 133)) nZ) (nS (d 101) (lL (d 165)) nZ)) (nS (d 53) (nS (d 85) (lL (d 149)) nZ) (nS (d 117) (lL (d 181)) nZ))) (nS (d 29) (nS (d 45) (nS (d 77) (lL (d 141)) nZ) (nS (d 109) (lL (d 173)) nZ)) (nS (d 61) (nS (d 93) (lL (d 157)) nZ) (lL (d 125))))))) (nS (d 2) (nS (d 4) (nS (pP 129 0) (nS (d 16) (nS (d 32) (nS (d 64) (lL (d 128)) nZ) (nS (d 96) (lL (d 160)) nZ)) (nS (d 48) (nS (d 80) (lL (d 144)) nZ) (nS (d 112) (lL (d 176)) nZ))) (nS (d 24) (nS (d 40) (nS (d 72) (lL (d 136)) nZ) (nS (d 104) (lL (d 168)) nZ)) (nS (d 56) (nS (d 88) (lL (d 152)) nZ) (nS (d 120) (lL (d 184)) nZ)))) (nS (d 12) (nS (d 20) (nS (d 36) (nS (d 68) (lL (d 132)) nZ) (nS (d 100) (lL (d 164)) nZ)) (nS (d 52) (nS (d 84) (lL (d 148)) nZ) (nS (d 116) (lL (d 180)) nZ))) (nS (d 28) (nS (d 44) (nS (d 76) (lL (d 140)) nZ) (nS (d 108) (lL (d 172)) nZ)) (nS (d 60) (nS (d 92) (lL (d 156)) nZ) (lL (d 124)))))) (nS (d 6) (nS (d 10) (nS (d 18) (nS (d 34) (nS (d 66) (lL (d 130)) nZ) (nS (d 98) (lL (d 162)) nZ)) (nS (d 50) (nS (d 82) (lL (d 146)) nZ) (nS (d 114) (lL (d 178)) nZ))) (nS (d 26) (nS (d 42) (nS (d 74) (lL (d 138)) nZ) (nS (d 106) (lL (d 170)) nZ)) (nS (d 58) (nS (d 90) (lL (d 154)) nZ) (nS (d 122) (lL (d 186)) nZ)))) (nS (d 14) (nS (d 22) (nS (d 38) (nS (d 70) (lL (d 134)) nZ) (nS (d 102) (lL (d 166)) nZ)) (nS (d 54) (nS (d 86) (lL (d 150)) nZ) (nS (d 118) (lL (d 182)) nZ))) (nS (d 30) (nS (d 46) (nS (d 78) (lL (d 142)) nZ) (nS (d 110) (lL (d 174)) nZ)) (nS (d 62) (nS (d 94) (lL (d 158)) nZ) (lL (d 126))))))),[Item.code (codeAt bd [1,1,1,1,1,1,1,1,1,1,0,0]),Item.code (codeAt bd [1,1,1,1,1,1,1,1,1,1,0,1]),Item.code (codeAt bd [1,1,1,1,1,1,1,1,1,1,1])],[],FrameMode.run,CallKind.normal,none⟩,[],⟨eE (eE (eE (eE (eE (eE (eE (lL (AObj.cells 78 [pP 127 0,pP 130 0] true 2)) nZ) nZ) nZ) nZ) (eE (eE (eE (eE (lL (AObj.cells 52 (HQ.svC (HQ.ordN by_) n (HQ.mdS (HQ.ordN by_) c o n).c) false 2)) nZ) nZ) nZ) nZ)) (eE (eE (eE (eE (eE (lL (AObj.cells 24 [iI i0,sS 131 0 n u2] true 2)) nZ) nZ) nZ) nZ) (eE (eE (eE (eE (lL (AObj.map m1 n2 true)) nZ) nZ) nZ) nZ))) (eE (eE (eE (eE (eE (eE (lL (AObj.cells 44 [iI ya,iI yb] true 2)) nZ) nZ) nZ) nZ) (eE (eE (eE (eE (lL (AObj.cells 52 l1 false 2)) nZ) nZ) nZ) nZ)) (eE (eE (eE (eE (eE (lL (AObj.cells 74 [Value.func (Fn.func (HQ.ordN by_)) ⟨[]⟩ ⟨[]⟩,iI i2,sS 132 0 n1 u2,Value.map (some 133)] true 2)) nZ) nZ) nZ) nZ) (eE nZ (eE nZ (eE nZ (lL (AObj.cells ty c false 0))))))),134⟩⟩
noncomputable def S7(by_:Int)(ty:Nat)(o:Nat)(c:List Value)(n:Nat)(cap:Nat)(ya:Int)(yb:Int)(i1:Int)(n1:Nat)(l0:List Value)(i0:Int)(d:Nat→Value):AS:=⟨⟨4,187,nS (d 0) (nS (d 1) (nS (d 3) (nS (d 7) (nS (d 15) (nS (d 31) (nS (d 63) (lL (d 127)) nZ) (nS (d 95) (lL (d 159)) nZ)) (nS (d 47) (nS (d 79) (lL (d 143)) nZ) (nS (d 111) (lL (d 175)) nZ))) (nS (d 23) (nS (d 39) (nS (d 71) (lL (d 135)) nZ) (nS (d 103) (lL (d 167)) nZ)) (nS (d 55) (nS (d 87) (lL (d 151)) nZ) (nS (d 119) (lL (d 183)) nZ)))) (nS (d 11) (nS (Value.slice none 0 0) (nS (d 35) (nS (d 67) (lL (d 131)) nZ) (nS (d 99) (lL (d 163)) nZ)) (nS (d 51) (nS (d 83) (lL (d 147)) nZ) (nS (d 115) (lL (d 179)) nZ))) (nS (d 27) (nS (d 43) (nS (d 75) (lL (d 139)) nZ) (nS (d 107) (lL (d 171)) nZ)) (nS (d 59) (nS (d 91) (lL (d 155)) nZ) (lL (d 123)))))) (nS (d 5) (nS (d 9) (nS (sS 127 0 n u2) (nS (d 33) (nS (d 65) (lL (d 129)) nZ) (nS (d 97) (lL (d 161)) nZ)) (nS (d 49) (nS (d 81) (lL (d 145)) nZ) (nS (d 113) (lL (d 177)) nZ))) (nS (d 25) (nS (d 41) (nS (d 73) (lL (d 137)) nZ) (nS (d 105) (lL (d 169)) nZ)) (nS (d 57) (nS (d 89) (lL (d 153)) nZ) (nS (d 121) (lL (d 185)) nZ)))) (nS (iI i1) (nS (d 21) (nS (d 37) (nS (d 69) (lL (d 133)) nZ) (nS (d 101) (lL (d 165)) nZ)) (nS (d 53) (nS (d 85) (lL (d 149)) nZ) (nS (d 117) (lL (d 181)) nZ))) (nS (d 29) (nS (d 45) (nS (d 77) (lL (d 141)) nZ) (nS (d 109) (lL (d 173)) nZ)) (nS (d 61) (nS (d 93) (lL (d 157)) nZ) (lL (d 125))))))) (nS (d 2) (nS (d 4) (nS (d 8) (nS (sS 128 0 n1 u2) (nS (d 32) (nS (d 64) (lL (d 128)) nZ) (nS (d 96) (lL (d 160)) nZ)) (nS (d 48) (nS (d 80) (lL (d 144)) nZ) (nS (d 112) (lL (d 176)) nZ))) (nS (d 24) (nS (d 40) (nS (d 72) (lL (d 136)) nZ) (nS (d 104) (lL (d 168)) nZ)) (nS (d 56) (nS (d 88) (lL (d 152)) nZ) (nS (d 120) (lL (d 184)) nZ)))) (nS (d 12) (nS (iI i0) (nS (d 36) (nS (d 68) (lL (d 132)) nZ) (nS (d 100) (lL (d 164)) nZ)) (nS (d 52) (nS (d 84) (lL (d 148)) nZ) (nS (d 116) (lL (d 180)) nZ))) (nS (d 28) (nS (d 44) (nS (d 76) (lL (d 140)) nZ) (nS (d 108) (lL (d 172)) nZ)) (nS (d 60) (nS (d 92) (lL (d 156)) nZ) (lL (d 124)))))) (nS (d 6) (nS (d 10) (nS (Value.slice none 0 0) (nS (d 34) (nS (d 66) (lL (d 130)) nZ) (nS (d 98) (lL (d 162)) nZ)) (nS (d 50) (nS (d 82) (lL (d 146)) nZ) (nS (d 114) (lL (d 178)) nZ))) (nS (d 26) (nS (d 42) (nS (d 74) (lL (d 138)) nZ) (nS (d 106) (lL (d 170)) nZ)) (nS (d 58) (nS (d 90) (lL (d 154)) nZ) (nS (d 122) (lL (d 186)) nZ)))) (nS (d 14) (nS (d 22) (nS (d 38) (nS (d 70) (lL (d 134)) nZ) (nS (d 102) (lL (d 166)) nZ)) (nS (d 54) (nS (d 86) (lL (d 150)) nZ) (nS (d 118) (lL (d 182)) nZ))) (nS (d 30) (nS (d 46) (nS (d 78) (lL (d 142)) nZ) (nS (d 110) (lL (d 174)) nZ)) (nS (d 62) (nS (d 94) (lL (d 158)) nZ) (lL (d 126))))))),[Item.code (codeAt bd [1,1,1,1,1,1,1,1,1,1,1,1,1,0,1,0,0]),Item.inLoop (codeAt bd [1,1,1,1,1,1,1,1,1,1,1,1,1,0,1,0,0]),Item.inBlock 2,Item.code (codeAt bd [1,1,1,1,1,1,1,1,1,1,1,1,1,1])],[],FrameMode.run,CallKind.normal,none⟩,[],⟨eE (eE (eE (eE (eE (eE (eE (lL (AObj.cells 52 (HQ.svC (HQ.ordN by_) n (HQ.mdS (HQ.ordN by_) c o n).c) false 2)) nZ) nZ) nZ) nZ) nZ) nZ) (eE (eE (eE (eE (eE (eE (lL (AObj.cells 52 l0 false 2)) nZ) nZ) nZ) nZ) nZ) (eE nZ (eE nZ (eE nZ (eE nZ (lL (AObj.cells ty c false 0))))))),129⟩⟩
noncomputable def S8(by_:Int)(ty:Nat)(o:Nat)(c:List Value)(n:Nat)(cap:Nat)(ya:Int)(yb:Int)(i1:Int)(n1:Nat)(l0:List Value)(i0:Int)(i2:Int)(n0:Nat)(i3:Int)(n2:Nat)(l1:List Value)(l2:List Value)(d:Nat→Value):AS:=⟨⟨4,187,nS (d 0) (nS (d 1) (nS (d 3) (nS (d 7) (nS (d 15) (nS (d 31) (nS (d 63) (lL (d 127)) nZ) (nS (d 95) (lL (d 159)) nZ)) (nS (d 47) (nS (d 79) (lL (d 143)) nZ) (nS (d 111) (lL (d 175)) nZ))) (nS (d 23) (nS (d 39) (nS (d 71) (lL (d 135)) nZ) (nS (d 103) (lL (d 167)) nZ)) (nS (d 55) (nS (d 87) (lL (d 151)) nZ) (nS (d 119) (lL (d 183)) nZ)))) (nS (d 11) (nS (sS 127 0 n0 u2) (nS (d 35) (nS (d 67) (lL (d 131)) nZ) (nS (d 99) (lL (d 163)) nZ)) (nS (d 51) (nS (d 83) (lL (d 147)) nZ) (nS (d 115) (lL (d 179)) nZ))) (nS (d 27) (nS (d 43) (nS (d 75) (lL (d 139)) nZ) (nS (d 107) (lL (d 171)) nZ)) (nS (d 59) (nS (d 91) (lL (d 155)) nZ) (lL (d 123)))))) (nS (d 5) (nS (d 9) (nS (sS 128 0 n u2) (nS (d 33) (nS (d 65) (lL (d 129)) nZ) (nS (d 97) (lL (d 161)) nZ)) (nS (d 49) (nS (d 81) (lL (d 145)) nZ) (nS (d 113) (lL (d 177)) nZ))) (nS (d 25) (nS (d 41) (nS (d 73) (lL (d 137)) nZ) (nS (d 105) (lL (d 169)) nZ)) (nS (d 57) (nS (d 89) (lL (d 153)) nZ) (nS (d 121) (lL (d 185)) nZ)))) (nS (iI i1) (nS (d 21) (nS (d 37) (nS (d 69) (lL (d 133)) nZ) (nS (d 101) (lL (d 165)) nZ)) (nS (d 53) (nS (d 85) (lL (d 149)) nZ) (nS (d 117) (lL (d 181)) nZ))) (nS (d 29) (nS (d 45) (nS (d 77) (lL (d 141)) nZ) (nS (d 109) (lL (d 173)) nZ)) (nS (d 61) (nS (d 93) (lL (d 157)) nZ) (lL (d 125))))))) (nS (d 2) (nS (d 4) (nS (d 8) (nS (sS 129 0 n1 u2) (nS (d 32) (nS (d 64) (lL (d 128)) nZ) (nS (d 96) (lL (d 160)) nZ)) (nS (d 48) (nS (d 80) (lL (d 144)) nZ) (nS (d 112) (lL (d 176)) nZ))) (nS (d 24) (nS (d 40) (nS (d 72) (lL (d 136)) nZ) (nS (d 104) (lL (d 168)) nZ)) (nS (d 56) (nS (d 88) (lL (d 152)) nZ) (nS (d 120) (lL (d 184)) nZ)))) (nS (d 12) (nS (iI i3) (nS (d 36) (nS (d 68) (lL (d 132)) nZ) (nS (d 100) (lL (d 164)) nZ)) (nS (d 52) (nS (d 84) (lL (d 148)) nZ) (nS (d 116) (lL (d 180)) nZ))) (nS (d 28) (nS (d 44) (nS (d 76) (lL (d 140)) nZ) (nS (d 108) (lL (d 172)) nZ)) (nS (d 60) (nS (d 92) (lL (d 156)) nZ) (lL (d 124)))))) (nS (d 6) (nS (d 10) (nS (sS 130 0 n2 u2) (nS (d 34) (nS (d 66) (lL (d 130)) nZ) (nS (d 98) (lL (d 162)) nZ)) (nS (d 50) (nS (d 82) (lL (d 146)) nZ) (nS (d 114) (lL (d 178)) nZ))) (nS (d 26) (nS (d 42) (nS (d 74) (lL (d 138)) nZ) (nS (d 106) (lL (d 170)) nZ)) (nS (d 58) (nS (d 90) (lL (d 154)) nZ) (nS (d 122) (lL (d 186)) nZ)))) (nS (d 14) (nS (d 22) (nS (d 38) (nS (d 70) (lL (d 134)) nZ) (nS (d 102) (lL (d 166)) nZ)) (nS (d 54) (nS (d 86) (lL (d 150)) nZ) (nS (d 118) (lL (d 182)) nZ))) (nS (d 30) (nS (d 46) (nS (d 78) (lL (d 142)) nZ) (nS (d 110) (lL (d 174)) nZ)) (nS (d 62) (nS (d 94) (lL (d 158)) nZ) (lL (d 126))))))),[Item.code (codeAt bd [1,1,1,1,1,1,1,1,1,1,1,1,1,0,1,0,0]),Item.inLoop (codeAt bd [1,1,1,1,1,1,1,1,1,1,1,1,1,0,1,0,0]),Item.inBlock 2,Item.code (codeAt bd [1,1,1,1,1,1,1,1,1,1,1,1,1,1])],[],FrameMode.run,CallKind.normal,none⟩,[],⟨eE (eE (eE (eE (eE (eE (eE (lL (AObj.cells 52 l1 false 2)) nZ) nZ) nZ) nZ) nZ) (eE (eE (eE (eE (eE (lL (AObj.cells 52 l0 false 2)) nZ) nZ) nZ) nZ) nZ)) (eE (eE (eE (eE (eE (eE (lL (AObj.cells 52 (HQ.svC (HQ.ordN by_) n (HQ.mdS (HQ.ordN by_) c o n).c) false 2)) nZ) nZ) nZ) nZ) nZ) (eE (eE (eE (eE (eE (lL (AObj.cells 52 l2 false 2)) nZ) nZ) nZ) nZ) (eE nZ (eE nZ (eE nZ (lL (AObj.cells ty c false 0))))))),131⟩⟩
noncomputable def S9(by_:Int)(ty:Nat)(o:Nat)(c:List Value)(n:Nat)(cap:Nat)(ya:Int)(yb:Int)(i1:Int)(n1:Nat)(l0:List Value)(i0:Int)(n0:Nat)(l1:List Value)(d:Nat→Value):AS:=⟨⟨4,187,nS (d 0) (nS (d 1) (nS (d 3) (nS (d 7) (nS (d 15) (nS (d 31) (nS (d 63) (lL (d 127)) nZ) (nS (d 95) (lL (d 159)) nZ)) (nS (d 47) (nS (d 79) (lL (d 143)) nZ) (nS (d 111) (lL (d 175)) nZ))) (nS (d 23) (nS (d 39) (nS (d 71) (lL (d 135)) nZ) (nS (d 103) (lL (d 167)) nZ)) (nS (d 55) (nS (d 87) (lL (d 151)) nZ) (nS (d 119) (lL (d 183)) nZ)))) (nS (d 11) (nS (Value.slice none 0 0) (nS (d 35) (nS (d 67) (lL (d 131)) nZ) (nS (d 99) (lL (d 163)) nZ)) (nS (d 51) (nS (d 83) (lL (d 147)) nZ) (nS (d 115) (lL (d 179)) nZ))) (nS (d 27) (nS (d 43) (nS (d 75) (lL (d 139)) nZ) (nS (d 107) (lL (d 171)) nZ)) (nS (d 59) (nS (d 91) (lL (d 155)) nZ) (lL (d 123)))))) (nS (d 5) (nS (d 9) (nS (sS 127 0 n u2) (nS (d 33) (nS (d 65) (lL (d 129)) nZ) (nS (d 97) (lL (d 161)) nZ)) (nS (d 49) (nS (d 81) (lL (d 145)) nZ) (nS (d 113) (lL (d 177)) nZ))) (nS (d 25) (nS (d 41) (nS (d 73) (lL (d 137)) nZ) (nS (d 105) (lL (d 169)) nZ)) (nS (d 57) (nS (d 89) (lL (d 153)) nZ) (nS (d 121) (lL (d 185)) nZ)))) (nS (iI i1) (nS (d 21) (nS (d 37) (nS (d 69) (lL (d 133)) nZ) (nS (d 101) (lL (d 165)) nZ)) (nS (d 53) (nS (d 85) (lL (d 149)) nZ) (nS (d 117) (lL (d 181)) nZ))) (nS (d 29) (nS (d 45) (nS (d 77) (lL (d 141)) nZ) (nS (d 109) (lL (d 173)) nZ)) (nS (d 61) (nS (d 93) (lL (d 157)) nZ) (lL (d 125))))))) (nS (d 2) (nS (d 4) (nS (d 8) (nS (sS 128 0 n1 u2) (nS (d 32) (nS (d 64) (lL (d 128)) nZ) (nS (d 96) (lL (d 160)) nZ)) (nS (d 48) (nS (d 80) (lL (d 144)) nZ) (nS (d 112) (lL (d 176)) nZ))) (nS (d 24) (nS (d 40) (nS (d 72) (lL (d 136)) nZ) (nS (d 104) (lL (d 168)) nZ)) (nS (d 56) (nS (d 88) (lL (d 152)) nZ) (nS (d 120) (lL (d 184)) nZ)))) (nS (d 12) (nS (iI i0) (nS (d 36) (nS (d 68) (lL (d 132)) nZ) (nS (d 100) (lL (d 164)) nZ)) (nS (d 52) (nS (d 84) (lL (d 148)) nZ) (nS (d 116) (lL (d 180)) nZ))) (nS (d 28) (nS (d 44) (nS (d 76) (lL (d 140)) nZ) (nS (d 108) (lL (d 172)) nZ)) (nS (d 60) (nS (d 92) (lL (d 156)) nZ) (lL (d 124)))))) (nS (d 6) (nS (d 10) (nS (sS 129 0 n0 u2) (nS (d 34) (nS (d 66) (lL (d 130)) nZ) (nS (d 98) (lL (d 162)) nZ)) (nS (d 50) (nS (d 82) (lL (d 146)) nZ) (nS (d 114) (lL (d 178)) nZ))) (nS (d 26) (nS (d 42) (nS (d 74) (lL (d 138)) nZ) (nS (d 106) (lL (d 170)) nZ)) (nS (d 58) (nS (d 90) (lL (d 154)) nZ) (nS (d 122) (lL (d 186)) nZ)))) (nS (d 14) (nS (d 22) (nS (d 38) (nS (d 70) (lL (d 134)) nZ) (nS (d 102) (lL (d 166)) nZ)) (nS (d 54) (nS (d 86) (lL (d 150)) nZ) (nS (d 118) (lL (d 182)) nZ))) (nS (d 30) (nS (d 46) (nS (d 78) (lL (d 142)) nZ) (nS (d 110) (lL (d 174)) nZ)) (nS (d 62) (nS (d 94) (lL (d 158)) nZ) (lL (d 126))))))),[Item.code (codeAt bd [1,1,1,1,1,1,1,1,1,1,1,1,1,0,1,0,0]),Item.inLoop (codeAt bd [1,1,1,1,1,1,1,1,1,1,1,1,1,0,1,0,0]),Item.inBlock 2,Item.code (codeAt bd [1,1,1,1,1,1,1,1,1,1,1,1,1,1])],[],FrameMode.run,CallKind.normal,none⟩,[],⟨eE (eE (eE (eE (eE (eE (eE (lL (AObj.cells 52 (HQ.svC (HQ.ordN by_) n (HQ.mdS (HQ.ordN by_) c o n).c) false 2)) nZ) nZ) nZ) nZ) nZ) (eE (eE (eE (eE (eE (lL (AObj.cells 52 l1 false 2)) nZ) nZ) nZ) nZ) nZ)) (eE (eE (eE (eE (eE (eE (lL (AObj.cells 52 l0 false 2)) nZ) nZ) nZ) nZ) nZ) (eE nZ (eE nZ (eE nZ (eE nZ (lL (AObj.cells ty c false 0))))))),130⟩⟩
noncomputable def S10(by_:Int)(ty:Nat)(o:Nat)(c:List Value)(n:Nat)(cap:Nat)(ya:Int)(yb:Int)(i1:Int)(n1:Nat)(l0:List Value)(i0:Int)(i2:Int)(n0:Nat)(i3:Int)(l1:List Value)(d:Nat→Value):AS:=⟨⟨4,187,nS (d 0) (nS (d 1) (nS (d 3) (nS (d 7) (nS (d 15) (nS (d 31) (nS (d 63) (lL (d 127)) nZ) (nS (d 95) (lL (d 159)) nZ)) (nS (d 47) (nS (d 79) (lL (d 143)) nZ) (nS (d 111) (lL (d 175)) nZ))) (nS (d 23) (nS (d 39) (nS (d 71) (lL (d 135)) nZ) (nS (d 103) (lL (d 167)) nZ)) (nS (d 55) (nS (d 87) (lL (d 151)) nZ) (nS (d 119) (lL (d 183)) nZ)))) (nS (d 11) (nS (sS 127 0 n0 u2) (nS (d 35) (nS (d 67) (lL (d 131)) nZ) (nS (d 99) (lL (d 163)) nZ)) (nS (d 51) (nS (d 83) (lL (d 147)) nZ) (nS (d 115) (lL (d 179)) nZ))) (nS (d 27) (nS (d 43) (nS (d 75) (lL (d 139)) nZ) (nS (d 107) (lL (d 171)) nZ)) (nS (d 59) (nS (d 91) (lL (d 155)) nZ) (lL (d 123)))))) (nS (d 5) (nS (d 9) (nS (sS 128 0 n u2) (nS (d 33) (nS (d 65) (lL (d 129)) nZ) (nS (d 97) (lL (d 161)) nZ)) (nS (d 49) (nS (d 81) (lL (d 145)) nZ) (nS (d 113) (lL (d 177)) nZ))) (nS (d 25) (nS (d 41) (nS (d 73) (lL (d 137)) nZ) (nS (d 105) (lL (d 169)) nZ)) (nS (d 57) (nS (d 89) (lL (d 153)) nZ) (nS (d 121) (lL (d 185)) nZ)))) (nS (iI i1) (nS (d 21) (nS (d 37) (nS (d 69) (lL (d 133)) nZ) (nS (d 101) (lL (d 165)) nZ)) (nS (d 53) (nS (d 85) (lL (d 149)) nZ) (nS (d 117) (lL (d 181)) nZ))) (nS (d 29) (nS (d 45) (nS (d 77) (lL (d 141)) nZ) (nS (d 109) (lL (d 173)) nZ)) (nS (d 61) (nS (d 93) (lL (d 157)) nZ) (lL (d 125))))))) (nS (d 2) (nS (d 4) (nS (d 8) (nS (sS 129 0 n1 u2) (nS (d 32) (nS (d 64) (lL (d 128)) nZ) (nS (d 96) (lL (d 160)) nZ)) (nS (d 48) (nS (d 80) (lL (d 144)) nZ) (nS (d 112) (lL (d 176)) nZ))) (nS (d 24) (nS (d 40) (nS (d 72) (lL (d 136)) nZ) (nS (d 104) (lL (d 168)) nZ)) (nS (d 56) (nS (d 88) (lL (d 152)) nZ) (nS (d 120) (lL (d 184)) nZ)))) (nS (d 12) (nS (iI i3) (nS (d 36) (nS (d 68) (lL (d 132)) nZ) (nS (d 100) (lL (d 164)) nZ)) (nS (d 52) (nS (d 84) (lL (d 148)) nZ) (nS (d 116) (lL (d 180)) nZ))) (nS (d 28) (nS (d 44) (nS (d 76) (lL (d 140)) nZ) (nS (d 108) (lL (d 172)) nZ)) (nS (d 60) (nS (d 92) (lL (d 156)) nZ) (lL (d 124)))))) (nS (d 6) (nS (d 10) (nS (Value.slice none 0 0) (nS (d 34) (nS (d 66) (lL (d 130)) nZ) (nS (d 98) (lL (d 162)) nZ)) (nS (d 50) (nS (d 82) (lL (d 146)) nZ) (nS (d 114) (lL (d 178)) nZ))) (nS (d 26) (nS (d 42) (nS (d 74) (lL (d 138)) nZ) (nS (d 106) (lL (d 170)) nZ)) (nS (d 58) (nS (d 90) (lL (d 154)) nZ) (nS (d 122) (lL (d 186)) nZ)))) (nS (d 14) (nS (d 22) (nS (d 38) (nS (d 70) (lL (d 134)) nZ) (nS (d 102) (lL (d 166)) nZ)) (nS (d 54) (nS (d 86) (lL (d 150)) nZ) (nS (d 118) (lL (d 182)) nZ))) (nS (d 30) (nS (d 46) (nS (d 78) (lL (d 142)) nZ) (nS (d 110) (lL (d 174)) nZ)) (nS (d 62) (nS (d 94) (lL (d 158)) nZ) (lL (d 126))))))),[Item.code (codeAt bd [1,1,1,1,1,1,1,1,1,1,1,1,1,0,1,0,0]),Item.inLoop (codeAt bd [1,1,1,1,1,1,1,1,1,1,1,1,1,0,1,0,0]),Item.inBlock 2,Item.code (codeAt bd [1,1,1,1,1,1,1,1,1,1,1,1,1,1])],[],FrameMode.run,CallKind.normal,none⟩,[],⟨eE (eE (eE (eE (eE (eE (eE (lL (AObj.cells 52 l1 false 2)) nZ) nZ) nZ) nZ) nZ) (eE (eE (eE (eE (eE (lL (AObj.cells 52 l0 false 2)) nZ) nZ) nZ) nZ) nZ)) (eE (eE (eE (eE (eE (eE (lL (AObj.cells 52 (HQ.svC (HQ.ordN by_) n (HQ.mdS (HQ.ordN by_) c o n).c) false 2)) nZ) nZ) nZ) nZ) nZ) (eE nZ (eE nZ (eE nZ (eE nZ (lL (AObj.cells ty c false 0))))))),130⟩⟩
theorem enter{η:Nat→Value}{B:Bd}(hη:OneCells η)(hmix:prog.follows .mixedOrders=true)(hreg:RegOk η prog B noNest){D:Value→AH→Prop}(by_:Int)(ty:Nat)(o:Nat)(c:List Value)(n:Nat)(cap:Nat)(ya:Int)(yb:Int)(h:let q3:=(HQ.mdS (HQ.ordN by_) c o n);let q2:=(HQ.svC (HQ.ordN by_) n q3.c);let q1:AH:=⟨eE (eE (eE (eE (eE (eE (eE (lL (AObj.cells 44 [iI ya,iI yb] true 2)) nZ) nZ) nZ) nZ) nZ) nZ) (eE nZ (eE nZ (eE nZ (eE nZ (eE nZ (lL (AObj.cells ty c false 0))))))),128⟩;let q0:AH:=⟨eE (eE (eE (eE (eE (eE (eE (lL (AObj.cells 44 [iI ya,iI yb] true 2)) nZ) nZ) nZ) nZ) (eE (eE (eE (eE (lL (AObj.map q3.E q3.ck true)) nZ) nZ) nZ) nZ)) (eE (eE (eE (eE (eE (lL (AObj.cells 74 [Value.func (Fn.func (HQ.ordN by_)) ⟨[]⟩ ⟨[]⟩,iI (↑(n+1):Int),sS 130 0 n u2,Value.map (some 131)] true 2)) nZ) nZ) nZ) nZ) nZ)) (eE (eE (eE (eE (eE (eE (lL (AObj.cells 78 [pP 128 0,pP 129 0] true 2)) nZ) nZ) nZ) nZ) nZ) (eE (eE (eE (eE (eE (lL (AObj.cells 52 q3.c false 2)) nZ) nZ) nZ) nZ) (eE nZ (eE nZ (eE nZ (lL (AObj.cells ty c false 0))))))),132⟩;W.holds η prog B 4 (fun kp_ st_=>RunD η prog B 4 (H0 by_ ty o c n cap ya yb) kp_ st_ (QF prog 127 D)) D (.ite (decide ((↑n:Int) > (100:Int))) (.call 6 [] (q1) (.ret (Value.bool true) (q1)) (.need (NoNames c∧True) (.done 4 (Value.bool true) (H0 by_ ty o c n cap ya yb)))) (.call 16 [Value.int IntKind.u8 by_,Value.slice (some ⟨126,o,none⟩) n cap] (q1) (.ret (Value.pointer (some ⟨128,0,none⟩)) (q0)) (.call 13 [Value.pointer (some ⟨128,0,none⟩)] (q0) (.ret (Value.agg ⟨[Value.int IntKind.i64 (↑(n+1):Int),Value.slice (some ⟨132,0,none⟩) n 9223372036854775810]⟩) (⟨eE (eE (eE (eE (eE (eE (eE (lL (AObj.cells 44 [iI ya,iI yb] true 2)) nZ) nZ) nZ) nZ) (eE (eE (eE (eE (lL (AObj.map q3.E q3.ck true)) nZ) nZ) nZ) nZ)) (eE (eE (eE (eE (eE (lL (AObj.cells 74 [Value.func (Fn.func (HQ.ordN by_)) ⟨[]⟩ ⟨[]⟩,iI (↑(n+1):Int),sS 130 0 n u2,Value.map (some 131)] true 2)) nZ) nZ) nZ) nZ) nZ)) (eE (eE (eE (eE (eE (eE (lL (AObj.cells 78 [pP 128 0,pP 129 0] true 2)) nZ) nZ) nZ) nZ) (eE (eE (eE (eE (lL (AObj.cells 52 q2 false 2)) nZ) nZ) nZ) nZ)) (eE (eE (eE (eE (eE (lL (AObj.cells 52 q3.c false 2)) nZ) nZ) nZ) nZ) (eE nZ (eE nZ (eE nZ (lL (AObj.cells ty c false 0))))))),133⟩)) (.need (NoNames c∧True∧True∧True∧True∧NoNames q2∧NoNames q3.c∧NoNamesE q3.E∧True) (.stop [1,5,7,8,9] (S0 by_ ty o c n cap ya yb ((↑(n+1):Int)) (0) (q3.E) (q3.ck) (q3.c) ((↑(n+1):Int)) (n) (fun _=>undef)))))))):CallSpec η prog B 4 [Value.int IntKind.u8 by_,Value.slice (some ⟨126,o,none⟩) n cap,Value.agg ⟨[Value.int IntKind.i64 ya,Value.int IntKind.i64 yb]⟩] (H0 by_ ty o c n cap ya yb) D:=by
 refine CallSpec.ofQF hη (CallSpec.enter (fr:=(E by_ ty o c n cap ya yb).fr) (by kernel_rfl) ?_)
 exact walk_okT (h0:=H0 by_ ty o c n cap ya yb) hη hmix hreg (.steps 12 <| .bit 23 (.steps 3 <| .call kN <| .steps 3 <| .done (some ⟨127,[],[(126,(126,true))]⟩)) (.steps 6 <| .call kN <| .steps 13 <| .call kN <| .steps 10 <| .stop [1,5,7,8,9] (some ⟨134,[(128,127),(127,128),(133,129),(129,130),(132,131),(130,132),(131,133)],[(126,(126,true)),(127,(128,false)),(128,(127,false)),(129,(133,false)),(130,(129,false)),(131,(132,true)),(132,(130,true)),(133,(131,true))]⟩))) (E by_ ty o c n cap ya yb) (by kernel_rfl) h (by kernel_rfl)
theorem cut0{η:Nat→Value}{B:Bd}(hη:OneCells η)(hmix:prog.follows .mixedOrders=true)(hreg:RegOk η prog B noNest){D:Value→AH→Prop}(by_:Int)(ty:Nat)(o:Nat)(c:List Value)(n:Nat)(cap:Nat)(ya:Int)(yb:Int)(i0:Int)(i1:Int)(m0:List MapEntry)(n0:Nat)(l0:List Value)(i2:Int)(n1:Nat)(h:let q2:=(HQ.svC (HQ.ordN by_) n (HQ.mdS (HQ.ordN by_) c o n).c);let q1:=(HQ.QS.pushT (HQ.ordN by_) n1 (HQ.QS.mk (l0) (m0) (n0)) i2 ya);let q0:AH:=⟨eE (eE (eE (eE (eE (eE (eE (lL (AObj.cells 78 [pP 127 0,pP 130 0] true 2)) nZ) nZ) nZ) nZ) (eE (eE (eE (eE (lL (AObj.cells 52 q2 false 2)) nZ) nZ) nZ) nZ)) (eE (eE (eE (eE (eE (lL (AObj.cells 24 [iI i0,sS 131 0 n u2] true 2)) nZ) nZ) nZ) nZ) (eE (eE (eE (eE (lL (AObj.map m0 n0 true)) nZ) nZ) nZ) nZ))) (eE (eE (eE (eE (eE (eE (lL (AObj.cells 44 [iI ya,iI yb] true 2)) nZ) nZ) nZ) nZ) (eE (eE (eE (eE (lL (AObj.cells 52 l0 false 2)) nZ) nZ) nZ) nZ)) (eE (eE (eE (eE (eE (lL (AObj.cells 74 [Value.func (Fn.func (HQ.ordN by_)) ⟨[]⟩ ⟨[]⟩,iI i2,sS 132 0 n1 u2,Value.map (some 133)] true 2)) nZ) nZ) nZ) nZ) (eE nZ (eE nZ (eE nZ (lL (AObj.cells ty c false 0))))))),134⟩;W.holds η prog B 4 (fun kp_ st_=>RunD η prog B 4 (H0 by_ ty o c n cap ya yb) kp_ st_ (QF prog 127 D)) D (.ite (decide (i1<(3:Int))) (.call 17 [Value.pointer (some ⟨127,0,none⟩),Value.int IntKind.i64 ya] (q0) (.ret (Value.tuple ⟨[Value.int IntKind.i64 i2,Value.int IntKind.i64 0]⟩) (⟨eE (eE (eE (eE (eE (eE (eE (lL (AObj.cells 78 [pP 127 0,pP 130 0] true 2)) nZ) nZ) nZ) nZ) (eE (eE (eE (eE (lL (AObj.cells 52 q2 false 2)) nZ) nZ) nZ) nZ)) (eE (eE (eE (eE (eE (lL (AObj.cells 24 [iI i0,sS 131 0 n u2] true 2)) nZ) nZ) nZ) nZ) (eE (eE (eE (eE (lL (AObj.map q1.E q1.ck true)) nZ) nZ) nZ) nZ))) (eE (eE (eE (eE (eE (eE (lL (AObj.cells 44 [iI ya,iI yb] true 2)) nZ) nZ) nZ) nZ) (eE (eE (eE (eE (eE nZ nZ) nZ) nZ) nZ) nZ)) (eE (eE (eE (eE (eE (lL (AObj.cells 74 [Value.func (Fn.func (HQ.ordN by_)) ⟨[]⟩ ⟨[]⟩,iI (IntKind.i64.wrap (i2+1)),sS 134 0 (n1+1) u2,Value.map (some 133)] true 2)) nZ) nZ) nZ) nZ) (eE (eE (eE (eE (lL (AObj.cells 52 q1.c false 2)) nZ) nZ) nZ) (eE nZ (eE nZ (lL (AObj.cells ty c false 0))))))),135⟩)) (.ite (i2 != IntKind.i64.wrap (i0+i1)) (.need (NoNames c∧True) (.done 4 (Value.bool false) (H0 by_ ty o c n cap ya yb))) (.need (NoNames c∧True∧True∧True∧True∧NoNames q2∧NoNames q1.c∧NoNamesE q1.E∧True) (.stop [1,5,7,8,9,10] (S1 by_ ty o c n cap ya yb (i2) (q1.E) (q1.ck) (q1.c) (IntKind.i64.wrap (i2+1)) (n1+1) (i1) (i0) (fun _=>undef)))))) (.ite ((↑n:Int) == (0:Int)) (.call 6 [] (q0) (.ret (Value.bool true) (q0)) (.need (NoNames c∧True) (.done 4 (Value.bool true) (H0 by_ ty o c n cap ya yb)))) (.stop [1,5,7,8] (S3 by_ ty o c n cap ya yb (i0) (i2) (n0) (n1) (l0) (m0) (fun _=>undef)))))):RunD η prog B 4 (H0 by_ ty o c n cap ya yb) [1,5,7,8,9] (S0 by_ ty o c n cap ya yb i0 i1 m0 n0 l0 i2 n1 fun _=>undef) (QF prog 127 D):=by
 refine RunD.intro (S0 by_ ty o c n cap ya yb i0 i1 m0 n0 l0 i2 n1) (fun d=>⟨rfl,rfl,rfl⟩) (fun d=>tmOk_get (by kernel_rfl)) (fun d=>by kernel_rfl) (fun d=>?_)
 exact walk_okT (h0:=H0 by_ ty o c n cap ya yb) hη hmix hreg (.steps 6 <| .bit 33 (.steps 9 <| .call kN <| .steps 20 <| .bit 52 (.steps 6 <| .done (some ⟨127,[],[(126,(126,true))]⟩)) (.steps 3 <| .stop [1,5,7,8,9,10] (some ⟨134,[(127,127),(128,128),(129,129),(130,130),(131,131),(134,132),(133,133)],[(126,(126,true)),(127,(127,false)),(128,(128,false)),(129,(129,false)),(130,(130,false)),(131,(131,true)),(132,(134,true)),(133,(133,true))]⟩))) (.steps 9 <| .bit 78 (.steps 3 <| .call kN <| .steps 3 <| .done (some ⟨127,[],[(126,(126,true))]⟩)) (.steps 3 <| .stop [1,5,7,8] none))) (S0 by_ ty o c n cap ya yb i0 i1 m0 n0 l0 i2 n1 d) (by kernel_rfl) h (by kernel_rfl)
theorem cut1{η:Nat→Value}{B:Bd}(hη:OneCells η)(hmix:prog.follows .mixedOrders=true)(hreg:RegOk η prog B noNest){D:Value→AH→Prop}(by_:Int)(ty:Nat)(o:Nat)(c:List Value)(n:Nat)(cap:Nat)(ya:Int)(yb:Int)(i0:Int)(m0:List MapEntry)(n0:Nat)(l0:List Value)(i1:Int)(n1:Nat)(i2:Int)(i3:Int)(h:let q5:T AObj:=(eE nZ (eE nZ (eE nZ (lL (AObj.cells ty c false 0)))));let q4:=(HQ.QS.rem (HQ.ordN by_) n1 (HQ.QS.mk (l0) (m0) (n0)) (HQ.plN (HQ.QS.mk (l0) (m0) (n0)).E i0));let q3:=(intAt (HQ.QS.rem1 (HQ.ordN by_) n1 (HQ.QS.mk (l0) (m0) (n0)) (HQ.plN (HQ.QS.mk (l0) (m0) (n0)).E i0)).c ((n1 - 1) * 2+1));let q2:T AObj:=(eE (eE (eE (eE (lL (AObj.cells 44 [iI ya,iI yb] true 2)) nZ) nZ) nZ) nZ);let q1:T AObj:=(eE (eE (eE (eE (lL (AObj.cells 24 [iI i3,sS 131 0 n u2] true 2)) nZ) nZ) nZ) nZ);let q0:T AObj:=(eE (eE (eE (eE (eE (lL (AObj.cells 78 [pP 127 0,pP 130 0] true 2)) nZ) nZ) nZ) nZ) (eE (eE (eE (eE (lL (AObj.cells 52 (HQ.svC (HQ.ordN by_) n (HQ.mdS (HQ.ordN by_) c o n).c) false 2)) nZ) nZ) nZ) nZ));W.holds η prog B 4 (fun kp_ st_=>RunD η prog B 4 (H0 by_ ty o c n cap ya yb) kp_ st_ (QF prog 127 D)) D (.call 18 [Value.pointer (some ⟨127,0,none⟩),Value.int IntKind.i64 i0] (⟨eE (eE q0 (eE q1 (eE (eE (eE (eE (lL (AObj.map m0 n0 true)) nZ) nZ) nZ) nZ))) (eE (eE q2 (eE (eE (eE (eE (lL (AObj.cells 52 l0 false 2)) nZ) nZ) nZ) nZ)) (eE (eE (eE (eE (eE (lL (AObj.cells 74 [Value.func (Fn.func (HQ.ordN by_)) ⟨[]⟩ ⟨[]⟩,iI i1,sS 132 0 n1 u2,Value.map (some 133)] true 2)) nZ) nZ) nZ) nZ) q5)),134⟩) (.ret (Value.tuple ⟨[Value.int IntKind.i64 q3,Value.int IntKind.i64 0]⟩) (⟨eE (eE q0 (eE q1 (eE (eE (eE (eE (lL (AObj.map q4.E q4.ck true)) nZ) nZ) nZ) nZ))) (eE (eE q2 (eE (eE (eE (eE (lL (AObj.cells 52 q4.c false 2)) nZ) nZ) nZ) nZ)) (eE (eE (eE (eE (eE (lL (AObj.cells 74 [Value.func (Fn.func (HQ.ordN by_)) ⟨[]⟩ ⟨[]⟩,iI i1,sS 132 0 (n1 - 1) u2,Value.map (some 133)] true 2)) nZ) nZ) nZ) nZ) q5)),134⟩)) (.stop [1,5,7,8,9,11,12] (S2 by_ ty o c n cap ya yb (i3) (i1) q3 (q4.E) (q4.ck) (q4.c) (n1 - 1) (i2) (fun _=>undef))))):RunD η prog B 4 (H0 by_ ty o c n cap ya yb) [1,5,7,8,9,10] (S1 by_ ty o c n cap ya yb i0 m0 n0 l0 i1 n1 i2 i3 fun _=>undef) (QF prog 127 D):=by
 refine RunD.intro (S1 by_ ty o c n cap ya yb i0 m0 n0 l0 i1 n1 i2 i3) (fun d=>⟨rfl,rfl,rfl⟩) (fun d=>tmOk_get (by kernel_rfl)) (fun d=>by kernel_rfl) (fun d=>?_)
 exact walk_okT (h0:=H0 by_ ty o c n cap ya yb) hη hmix hreg (.steps 3 <| .call kN <| .steps 7 <| .stop [1,5,7,8,9,11,12] none) (S1 by_ ty o c n cap ya yb i0 m0 n0 l0 i1 n1 i2 i3 d) (by kernel_rfl) h (by kernel_rfl)
theorem cut2{η:Nat→Value}{B:Bd}(hη:OneCells η)(hmix:prog.follows .mixedOrders=true)(hreg:RegOk η prog B noNest){D:Value→AH→Prop}(by_:Int)(ty:Nat)(o:Nat)(c:List Value)(n:Nat)(cap:Nat)(ya:Int)(yb:Int)(i0:Int)(i1:Int)(i2:Int)(m1:List MapEntry)(n2:Nat)(l1:List Value)(n3:Nat)(i3:Int)(h:let q4:=(HQ.svC (HQ.ordN by_) n (HQ.mdS (HQ.ordN by_) c o n).c);let q3:W:=(.need (NoNames c∧True) (.done 4 (Value.bool false) (H0 by_ ty o c n cap ya yb)));let q2:=(Value.bool (HQ.sameC n3 (HQ.svC (HQ.ordN by_) n3 l1) n q4));let q1:AH:=⟨eE (eE (eE (eE (eE (eE (eE (lL (AObj.cells 78 [pP 127 0,pP 130 0] true 2)) nZ) nZ) nZ) nZ) (eE (eE (eE (eE (lL (AObj.cells 52 q4 false 2)) nZ) nZ) nZ) nZ)) (eE (eE (eE (eE (eE (lL (AObj.cells 24 [iI i0,sS 131 0 n u2] true 2)) nZ) nZ) nZ) nZ) (eE (eE (eE (eE (lL (AObj.map m1 n2 true)) nZ) nZ) nZ) nZ))) (eE (eE (eE (eE (eE (eE (lL (AObj.cells 44 [iI ya,iI yb] true 2)) nZ) nZ) nZ) nZ) (eE (eE (eE (eE (lL (AObj.cells 52 l1 false 2)) nZ) nZ) nZ) nZ)) (eE (eE (eE (eE (eE (lL (AObj.cells 74 [Value.func (Fn.func (HQ.ordN by_)) ⟨[]⟩ ⟨[]⟩,iI i1,sS 132 0 n3 u2,Value.map (some 133)] true 2)) nZ) nZ) nZ) nZ) (eE nZ (eE nZ (eE nZ (lL (AObj.cells ty c false 0))))))),151⟩;let q0:AH:=⟨eE (eE (eE (eE (eE (eE (eE (lL (AObj.cells 78 [pP 127 0,pP 130 0] true 2)) nZ) nZ) nZ) (eE nZ (eE (eE (lL (AObj.cells 52 (HQ.svC (HQ.ordN by_) n3 l1) false 2)) nZ) nZ))) (eE (eE (eE (eE (lL (AObj.cells 52 q4 false 2)) nZ) nZ) nZ) nZ)) (eE (eE (eE (eE (eE (lL (AObj.cells 24 [iI i0,sS 131 0 n u2] true 2)) nZ) nZ) nZ) nZ) (eE (eE (eE (eE (lL (AObj.map m1 n2 true)) nZ) nZ) nZ) nZ))) (eE (eE (eE (eE (eE (eE (lL (AObj.cells 44 [iI ya,iI yb] true 2)) nZ) nZ) nZ) nZ) (eE (eE (eE (eE (lL (AObj.cells 52 l1 false 2)) nZ) nZ) nZ) nZ)) (eE (eE (eE (eE (eE (lL (AObj.cells 74 [Value.func (Fn.func (HQ.ordN by_)) ⟨[]⟩ ⟨[]⟩,iI i1,sS 132 0 n3 u2,Value.map (some 133)] true 2)) nZ) nZ) nZ) nZ) (eE nZ (eE nZ (eE nZ (lL (AObj.cells ty c false 0))))))),152⟩;W.holds η prog B 4 (fun kp_ st_=>RunD η prog B 4 (H0 by_ ty o c n cap ya yb) kp_ st_ (QF prog 127 D)) D (.need ((True)∧(True)∧(True)∧(True)∧(True)∧(True)∧(True)∧(True)∧(True)∧True) (.ite (i2 != ya) (.need ((True)∧(True)∧(True)∧(True)∧(True)∧(True)∧(True)∧(True)∧True) q3) (.need ((True)∧True) (.call 13 [Value.pointer (some ⟨127,0,none⟩)] (q1) (.ret (Value.agg ⟨[Value.int IntKind.i64 i1,Value.slice (some ⟨151,0,none⟩) n3 9223372036854775810]⟩) (q0)) (.need (True∧Value.pointer (some ⟨(127:Nat),(0:Nat),none⟩)=Value.pointer (some ⟨(127:Nat),(0:Nat),none⟩)∧Value.bool (i2 != ya)=Value.bool (i2 != ya)∧Value.bool (i2 != ya)=Value.bool (i2 != ya)∧Value.bool (i2 != ya)=Value.bool (i2 != ya)∧Value.int IntKind.i64 ya=Value.int IntKind.i64 ya∧Value.pointer (some ⟨(128:Nat),(0:Nat),none⟩)=Value.pointer (some ⟨(128:Nat),(0:Nat),none⟩)∧Value.int IntKind.i64 i2=Value.int IntKind.i64 i2∧Value.bool false=Value.bool false∧Value.bool false=Value.bool false∧Value.int IntKind.i64 (0:Int)=Value.int IntKind.i64 (0:Int)∧True) (.need ((Value.slice (some ⟨(151:Nat),(0:Nat),none⟩) n3 (9223372036854775810:Nat)=Value.slice (some ⟨(151:Nat),(0:Nat),none⟩) n3 (9223372036854775810:Nat)∧True)∧(Value.pointer (some ⟨(129:Nat),(1:Nat),none⟩)=Value.pointer (some ⟨(129:Nat),(1:Nat),none⟩)∧True)∧(Value.slice (some ⟨(131:Nat),(0:Nat),none⟩) n (9223372036854775810:Nat)=Value.slice (some ⟨(131:Nat),(0:Nat),none⟩) n (9223372036854775810:Nat)∧True)∧True) (.call 14 [Value.slice (some ⟨151,0,none⟩) n3 9223372036854775810,Value.slice (some ⟨131,0,none⟩) n 9223372036854775810] (q0) (.ret q2 (q0)) (.need (consM 14 ([Value.slice (some ⟨151,0,none⟩) n3 9223372036854775810,Value.slice (some ⟨131,0,none⟩) n 9223372036854775810]) (q0) q2 (q0) [⟨13,[Value.pointer (some ⟨127,0,none⟩)],q1,Value.agg ⟨[Value.int IntKind.i64 i1,Value.slice (some ⟨151,0,none⟩) n3 9223372036854775810]⟩,q0⟩]∧True) (.need ((True)∧(True)∧True) (.ite (!HQ.sameC n3 (HQ.svC (HQ.ordN by_) n3 l1) n q4) q3 (.need (NoNames c∧True∧True∧True∧True∧NoNames q4∧NoNames l1∧NoNamesE m1∧True) (.stop [1,5,7,8,9] (S0 by_ ty o c n cap ya yb (i0) (IntKind.i64.wrap (i3+1)) (m1) (n2) (l1) (i1) (n3) (fun _=>undef))))))))))))))):RunD η prog B 4 (H0 by_ ty o c n cap ya yb) [1,5,7,8,9,11,12] (S2 by_ ty o c n cap ya yb i0 i1 i2 m1 n2 l1 n3 i3 fun _=>undef) (QF prog 127 D):=by
 refine RunD.intro (S2 by_ ty o c n cap ya yb i0 i1 i2 m1 n2 l1 n3 i3) (fun d=>⟨rfl,rfl,rfl⟩) (fun d=>tmOk_get (by kernel_rfl)) (fun d=>by kernel_rfl) (fun d=>?_)
 exact walk_okT (h0:=H0 by_ ty o c n cap ya yb) hη hmix hreg (.regN [10] <| .steps 9 <| .bit 67 (.steps 8 <| .regN [10] <| .steps 6 <| .done (some ⟨127,[],[(126,(126,true))]⟩)) (.steps 1 <| .call kN <| .steps 3 <| .call kN <| .steps 2 <| .regN [10] <| .bit 75 (.steps 6 <| .done (some ⟨127,[],[(126,(126,true))]⟩)) (.steps 9 <| .stop [1,5,7,8,9] (some ⟨134,[(127,127),(128,128),(129,129),(130,130),(131,131),(132,132),(133,133)],[(126,(126,true)),(127,(127,false)),(128,(128,false)),(129,(129,false)),(130,(130,false)),(131,(131,true)),(132,(132,true)),(133,(133,true))]⟩)))) (S2 by_ ty o c n cap ya yb i0 i1 i2 m1 n2 l1 n3 i3 d) (by kernel_rfl) h (by kernel_rfl)
theorem cut3{η:Nat→Value}{B:Bd}(hη:OneCells η)(hmix:prog.follows .mixedOrders=true)(hreg:RegOk η prog B noNest){D:Value→AH→Prop}(by_:Int)(ty:Nat)(o:Nat)(c:List Value)(n:Nat)(cap:Nat)(ya:Int)(yb:Int)(i0:Int)(i2:Int)(n0:Nat)(n1:Nat)(l0:List Value)(m0:List MapEntry)(h:W.holds η prog B 4 (fun kp_ st_=>RunD η prog B 4 (H0 by_ ty o c n cap ya yb) kp_ st_ (QF prog 127 D)) D (.need ((↑n:Int) ≠ (0:Int)) (.stop [1,5,7,8,13] (S4 by_ ty o c n cap ya yb (i0) (i2) (n0) (n1) (l0) (m0) (IntKind.i64.wrap (1+(if(if true=true then decide (IntKind.i64.wrap (0 - IntKind.i64.wrap (yb+1)) > yb) else decide (IntKind.i64.wrap (0 - IntKind.i64.wrap (yb+1))<yb))=true then IntKind.i64.wrap (0 - IntKind.i64.wrap (yb+1)) else yb).tmod (↑n:Int))) (fun _=>undef))))):RunD η prog B 4 (H0 by_ ty o c n cap ya yb) [1,5,7,8] (S3 by_ ty o c n cap ya yb i0 i2 n0 n1 l0 m0 fun _=>undef) (QF prog 127 D):=by
 refine RunD.intro (S3 by_ ty o c n cap ya yb i0 i2 n0 n1 l0 m0) (fun d=>⟨rfl,rfl,rfl⟩) (fun d=>tmOk_get (by kernel_rfl)) (fun d=>by kernel_rfl) (fun d=>?_)
 exact walk_okT (h0:=H0 by_ ty o c n cap ya yb) hη hmix hreg (.steps 10 <| .op <| .steps 4 <| .stop [1,5,7,8,13] none) (S3 by_ ty o c n cap ya yb i0 i2 n0 n1 l0 m0 d) (by kernel_rfl) h (by kernel_rfl)
theorem cut4{η:Nat→Value}{B:Bd}(hη:OneCells η)(hmix:prog.follows .mixedOrders=true)(hreg:RegOk η prog B noNest){D:Value→AH→Prop}(by_:Int)(ty:Nat)(o:Nat)(c:List Value)(n:Nat)(cap:Nat)(ya:Int)(yb:Int)(i0:Int)(i2:Int)(n0:Nat)(n1:Nat)(l0:List Value)(m0:List MapEntry)(i1:Int)(h:let q0:AH:=⟨eE (eE (eE (eE (eE (eE (eE (lL (AObj.cells 78 [pP 127 0,pP 130 0] true 2)) nZ) nZ) nZ) nZ) (eE (eE (eE (eE (lL (AObj.cells 52 (HQ.svC (HQ.ordN by_) n (HQ.mdS (HQ.ordN by_) c o n).c) false 2)) nZ) nZ) nZ) nZ)) (eE (eE (eE (eE (eE (lL (AObj.cells 24 [iI i0,sS 131 0 n u2] true 2)) nZ) nZ) nZ) nZ) (eE (eE (eE (eE (lL (AObj.map m0 n0 true)) nZ) nZ) nZ) nZ))) (eE (eE (eE (eE (eE (eE (lL (AObj.cells 44 [iI ya,iI yb] true 2)) nZ) nZ) nZ) nZ) (eE (eE (eE (eE (lL (AObj.cells 52 l0 false 2)) nZ) nZ) nZ) nZ)) (eE (eE (eE (eE (eE (lL (AObj.cells 74 [Value.func (Fn.func (HQ.ordN by_)) ⟨[]⟩ ⟨[]⟩,iI i2,sS 132 0 n1 u2,Value.map (some 133)] true 2)) nZ) nZ) nZ) nZ) (eE nZ (eE nZ (eE nZ (lL (AObj.cells ty c false 0))))))),134⟩;W.holds η prog B 4 (fun kp_ st_=>RunD η prog B 4 (H0 by_ ty o c n cap ya yb) kp_ st_ (QF prog 127 D)) D (.call 19 [Value.pointer (some ⟨127,0,none⟩),Value.int IntKind.i64 i1] (q0) (.ret (Value.tuple ⟨[Value.int IntKind.i64 (intAt l0 (HQ.plN m0 i1 * 2+1)),Value.int IntKind.i64 0]⟩) (q0)) (.stop [1,5,7,8,13,14,15] (S5 by_ ty o c n cap ya yb (i0) (i1) (i2) (n0) (n1) (l0) (m0) (intAt l0 (HQ.plN m0 i1 * 2+1)) (fun _=>undef))))):RunD η prog B 4 (H0 by_ ty o c n cap ya yb) [1,5,7,8,13] (S4 by_ ty o c n cap ya yb i0 i2 n0 n1 l0 m0 i1 fun _=>undef) (QF prog 127 D):=by
 refine RunD.intro (S4 by_ ty o c n cap ya yb i0 i2 n0 n1 l0 m0 i1) (fun d=>⟨rfl,rfl,rfl⟩) (fun d=>tmOk_get (by kernel_rfl)) (fun d=>by kernel_rfl) (fun d=>?_)
 exact walk_okT (h0:=H0 by_ ty o c n cap ya yb) hη hmix hreg (.steps 3 <| .call kN <| .steps 8 <| .stop [1,5,7,8,13,14,15] none) (S4 by_ ty o c n cap ya yb i0 i2 n0 n1 l0 m0 i1 d) (by kernel_rfl) h (by kernel_rfl)
theorem cut5{η:Nat→Value}{B:Bd}(hη:OneCells η)(hmix:prog.follows .mixedOrders=true)(hreg:RegOk η prog B noNest){D:Value→AH→Prop}(by_:Int)(ty:Nat)(o:Nat)(c:List Value)(n:Nat)(cap:Nat)(ya:Int)(yb:Int)(i0:Int)(i1:Int)(i2:Int)(n0:Nat)(n1:Nat)(l0:List Value)(m0:List MapEntry)(i3:Int)(h:let q8:=(HQ.svC (HQ.ordN by_) n (HQ.mdS (HQ.ordN by_) c o n).c);let q7:=(o+(IntKind.i64.wrap (i1 - (1:Int))).toNat * (1:Nat));let q6:W:=(.need (NoNames c∧True) (.done 4 (Value.bool false) (H0 by_ ty o c n cap ya yb)));let q5:=(HQ.QS.setv (HQ.ordN by_) n1 (HQ.QS.mk (l0) (m0) (n0)) (HQ.plN (HQ.QS.mk (l0) (m0) (n0)).E i1) i3);let q4:=(Value.agg ⟨[Value.int IntKind.i64 i2,Value.slice (some ⟨161,0,none⟩) n1 9223372036854775810]⟩);let q3:=(Value.bool (HQ.sameC n1 (HQ.svC (HQ.ordN by_) n1 q5.c) n q8));let q2:AH:=⟨eE (eE (eE (eE (eE (eE (eE (lL (AObj.cells 78 [pP 127 0,pP 130 0] true 2)) nZ) nZ) nZ) nZ) (eE (eE (eE (eE (lL (AObj.cells 52 q8 false 2)) nZ) nZ) nZ) nZ)) (eE (eE (eE (eE (eE (lL (AObj.cells 24 [iI i0,sS 131 0 n u2] true 2)) nZ) nZ) nZ) nZ) (eE (eE (eE (eE (lL (AObj.map m0 n0 true)) nZ) nZ) nZ) nZ))) (eE (eE (eE (eE (eE (eE (lL (AObj.cells 44 [iI ya,iI yb] true 2)) nZ) nZ) nZ) nZ) (eE (eE (eE (eE (lL (AObj.cells 52 l0 false 2)) nZ) nZ) nZ) nZ)) (eE (eE (eE (eE (eE (lL (AObj.cells 74 [Value.func (Fn.func (HQ.ordN by_)) ⟨[]⟩ ⟨[]⟩,iI i2,sS 132 0 n1 u2,Value.map (some 133)] true 2)) nZ) nZ) nZ) nZ) (eE nZ (eE nZ (eE nZ (lL (AObj.cells ty c false 0))))))),161⟩;let q1:AH:=⟨eE (eE (eE (eE (eE (eE (eE (lL (AObj.cells 78 [pP 127 0,pP 130 0] true 2)) nZ) nZ) nZ) nZ) (eE (eE (eE (eE (lL (AObj.cells 52 q8 false 2)) nZ) nZ) nZ) nZ)) (eE (eE (eE (eE (eE (lL (AObj.cells 24 [iI i0,sS 131 0 n u2] true 2)) nZ) nZ) nZ) nZ) (eE (eE (eE (eE (lL (AObj.map q5.E q5.ck true)) nZ) nZ) nZ) nZ))) (eE (eE (eE (eE (eE (eE (lL (AObj.cells 44 [iI ya,iI yb] true 2)) nZ) nZ) nZ) nZ) (eE (eE (eE (eE (lL (AObj.cells 52 q5.c false 2)) nZ) nZ) nZ) nZ)) (eE (eE (eE (eE (eE (lL (AObj.cells 74 [Value.func (Fn.func (HQ.ordN by_)) ⟨[]⟩ ⟨[]⟩,iI i2,sS 132 0 n1 u2,Value.map (some 133)] true 2)) nZ) nZ) nZ) nZ) (eE nZ (eE nZ (eE nZ (lL (AObj.cells ty c false 0))))))),161⟩;let q0:AH:=⟨eE (eE (eE (eE (eE (eE (eE (lL (AObj.cells 78 [pP 127 0,pP 130 0] true 2)) nZ) nZ) nZ) nZ) (eE (eE (eE (eE (lL (AObj.cells 52 q8 false 2)) nZ) nZ) nZ) nZ)) (eE (eE (eE (eE (eE (lL (AObj.cells 24 [iI i0,sS 131 0 n u2] true 2)) nZ) (eE (lL (AObj.cells 52 (HQ.svC (HQ.ordN by_) n1 q5.c) false 2)) nZ)) nZ) nZ) (eE (eE (eE (eE (lL (AObj.map q5.E q5.ck true)) nZ) nZ) nZ) nZ))) (eE (eE (eE (eE (eE (eE (lL (AObj.cells 44 [iI ya,iI yb] true 2)) nZ) nZ) nZ) nZ) (eE (eE (eE (eE (lL (AObj.cells 52 q5.c false 2)) nZ) nZ) nZ) nZ)) (eE (eE (eE (eE (eE (lL (AObj.cells 74 [Value.func (Fn.func (HQ.ordN by_)) ⟨[]⟩ ⟨[]⟩,iI i2,sS 132 0 n1 u2,Value.map (some 133)] true 2)) nZ) nZ) nZ) nZ) (eE nZ (eE nZ (eE nZ (lL (AObj.cells ty c false 0))))))),162⟩;W.holds η prog B 4 (fun kp_ st_=>RunD η prog B 4 (H0 by_ ty o c n cap ya yb) kp_ st_ (QF prog 127 D)) D (.need ((True)∧(True)∧(True)∧(True)∧(True)∧(True)∧(True)∧True) (.need ((0:Int)≤IntKind.i64.wrap (i1 - (1:Int))∧IntKind.i64.wrap (i1 - (1:Int))<(↑n:Int)) (.need (True) (.need (c[o+(IntKind.i64.wrap (i1 - (1:Int))).toNat * (1:Nat)]? = some (Value.int IntKind.i64 (intAt c q7))) (.need (True) (.need ((True)∧(True)∧(True)∧True) (.ite (i3 != intAt c q7) (.need ((True)∧(True)∧(True)∧(True)∧(True)∧(True)∧(True)∧(True)∧(True)∧(True)∧(True)∧(True)∧(True)∧(True)∧(True)∧True) q6) (.need ((True)∧(True)∧(True)∧True) (.call 20 [Value.pointer (some ⟨127,0,none⟩),Value.int IntKind.i64 i1,Value.int IntKind.i64 i3] (q2) (.ret (Value.int IntKind.i64 0) (q1)) (.need (True∧True) (.need ((True)∧(True)∧(True)∧(True)∧True) (.call 13 [Value.pointer (some ⟨127,0,none⟩)] (q1) (.ret q4 (q0)) (.need (consM 13 ([Value.pointer (some ⟨127,0,none⟩)]) (q1) q4 (q0) [⟨20,[Value.pointer (some ⟨127,0,none⟩),Value.int IntKind.i64 i1,Value.int IntKind.i64 i3],q2,Value.int IntKind.i64 0,q1⟩]∧Value.pointer (some ⟨(127:Nat),(0:Nat),none⟩)=Value.pointer (some ⟨(127:Nat),(0:Nat),none⟩)∧Value.bool false=Value.bool false∧Value.bool false=Value.bool false∧Value.bool false=Value.bool false∧True) (.need ((Value.slice (some ⟨(161:Nat),(0:Nat),none⟩) n1 (9223372036854775810:Nat)=Value.slice (some ⟨(161:Nat),(0:Nat),none⟩) n1 (9223372036854775810:Nat)∧True)∧(Value.pointer (some ⟨(129:Nat),(1:Nat),none⟩)=Value.pointer (some ⟨(129:Nat),(1:Nat),none⟩)∧True)∧(Value.slice (some ⟨(131:Nat),(0:Nat),none⟩) n (9223372036854775810:Nat)=Value.slice (some ⟨(131:Nat),(0:Nat),none⟩) n (9223372036854775810:Nat)∧True)∧True) (.call 14 [Value.slice (some ⟨161,0,none⟩) n1 9223372036854775810,Value.slice (some ⟨131,0,none⟩) n 9223372036854775810] (q0) (.ret q3 (q0)) (.need (consM 14 ([Value.slice (some ⟨161,0,none⟩) n1 9223372036854775810,Value.slice (some ⟨131,0,none⟩) n 9223372036854775810]) (q0) q3 (q0) [⟨13,[Value.pointer (some ⟨127,0,none⟩)],q1,Value.agg ⟨[Value.int IntKind.i64 i2,Value.slice (some ⟨161,0,none⟩) n1 9223372036854775810]⟩,q0⟩,⟨20,[Value.pointer (some ⟨127,0,none⟩),Value.int IntKind.i64 i1,Value.int IntKind.i64 i3],q2,Value.int IntKind.i64 0,q1⟩]∧True) (.need ((True)∧(True)∧True) (.ite (!HQ.sameC n1 (HQ.svC (HQ.ordN by_) n1 q5.c) n q8) q6 (.need (NoNames c∧True∧True∧True∧True∧NoNames q8∧NoNames q5.c∧NoNamesE q5.E∧True) (.stop [5,7,8,13] (S6 by_ ty o c n cap ya yb (i0) (i1) (i2) (n1) (q5.E) (q5.ck) (q5.c) (fun _=>undef))))))))))))))))))))))):RunD η prog B 4 (H0 by_ ty o c n cap ya yb) [1,5,7,8,13,14,15] (S5 by_ ty o c n cap ya yb i0 i1 i2 n0 n1 l0 m0 i3 fun _=>undef) (QF prog 127 D):=by
 refine RunD.intro (S5 by_ ty o c n cap ya yb i0 i1 i2 n0 n1 l0 m0 i3) (fun d=>⟨rfl,rfl,rfl⟩) (fun d=>tmOk_get (by kernel_rfl)) (fun d=>by kernel_rfl) (fun d=>?_)
 exact walk_okT (h0:=H0 by_ ty o c n cap ya yb) hη hmix hreg (.regN [20] <| .steps 7 <| .op <| .op <| .steps 3 <| .bit 108 (.steps 15 <| .regN [20] <| .steps 6 <| .done (some ⟨127,[],[(126,(126,true))]⟩)) (.steps 3 <| .call kN <| .steps 4 <| .call kN <| .steps 3 <| .call kN <| .steps 2 <| .regN [20] <| .bit 123 (.steps 6 <| .done (some ⟨127,[],[(126,(126,true))]⟩)) (.steps 4 <| .stop [5,7,8,13] (some ⟨134,[(127,127),(128,128),(129,129),(130,130),(131,131),(132,132),(133,133)],[(126,(126,true)),(127,(127,false)),(128,(128,false)),(129,(129,false)),(130,(130,false)),(131,(131,true)),(132,(132,true)),(133,(133,true))]⟩)))) (S5 by_ ty o c n cap ya yb i0 i1 i2 n0 n1 l0 m0 i3 d) (by kernel_rfl) h (by kernel_rfl)
theorem cut6{η:Nat→Value}{B:Bd}(hη:OneCells η)(hmix:prog.follows .mixedOrders=true)(hreg:RegOk η prog B noNest){D:Value→AH→Prop}(by_:Int)(ty:Nat)(o:Nat)(c:List Value)(n:Nat)(cap:Nat)(ya:Int)(yb:Int)(i0:Int)(i1:Int)(i2:Int)(n1:Nat)(m1:List MapEntry)(n2:Nat)(l1:List Value)(h:let q5:=(HQ.svC (HQ.ordN by_) n (HQ.mdS (HQ.ordN by_) c o n).c);let q4:=(HQ.svC (HQ.ordN by_) n1 (HQ.QS.setv (HQ.ordN by_) n1 (HQ.QS.mk (l1) (m1) (n2)) (HQ.plN (HQ.QS.mk (l1) (m1) (n2)).E i1) ya).c);let q3:T AObj:=(eE (eE (eE (eE (lL (AObj.cells 44 [iI ya,iI yb] true 2)) nZ) nZ) nZ) nZ);let q2:T AObj:=(eE (eE (eE (eE (eE (lL (AObj.cells 74 [Value.func (Fn.func (HQ.ordN by_)) ⟨[]⟩ ⟨[]⟩,iI i2,sS 132 0 n1 u2,Value.map (some 133)] true 2)) nZ) nZ) nZ) nZ) (eE nZ (eE nZ (eE nZ (lL (AObj.cells ty c false 0))))));let q1:T AObj:=(eE (eE q3 (eE (eE (eE (eE (lL (AObj.cells 52 (HQ.QS.setv (HQ.ordN by_) n1 (HQ.QS.mk (l1) (m1) (n2)) (HQ.plN (HQ.QS.mk (l1) (m1) (n2)).E i1) ya).c false 2)) nZ) nZ) nZ) nZ)) q2);let q0:T AObj:=(eE (eE (eE (eE (eE (eE (lL (AObj.cells 78 [pP 127 0,pP 130 0] true 2)) nZ) nZ) nZ) nZ) (eE (eE (eE (eE (lL (AObj.cells 52 q5 false 2)) nZ) nZ) nZ) nZ)) (eE (eE (eE (eE (eE (lL (AObj.cells 24 [iI i0,sS 131 0 n u2] true 2)) nZ) nZ) nZ) nZ) (eE (eE (eE (eE (lL (AObj.map (HQ.QS.setv (HQ.ordN by_) n1 (HQ.QS.mk (l1) (m1) (n2)) (HQ.plN (HQ.QS.mk (l1) (m1) (n2)).E i1) ya).E (HQ.QS.setv (HQ.ordN by_) n1 (HQ.QS.mk (l1) (m1) (n2)) (HQ.plN (HQ.QS.mk (l1) (m1) (n2)).E i1) ya).ck true)) nZ) nZ) nZ) nZ)));W.holds η prog B 4 (fun kp_ st_=>RunD η prog B 4 (H0 by_ ty o c n cap ya yb) kp_ st_ (QF prog 127 D)) D (.call 20 [Value.pointer (some ⟨127,0,none⟩),Value.int IntKind.i64 i1,Value.int IntKind.i64 ya] (⟨eE (eE (eE (eE (eE (eE (eE (lL (AObj.cells 78 [pP 127 0,pP 130 0] true 2)) nZ) nZ) nZ) nZ) (eE (eE (eE (eE (lL (AObj.cells 52 q5 false 2)) nZ) nZ) nZ) nZ)) (eE (eE (eE (eE (eE (lL (AObj.cells 24 [iI i0,sS 131 0 n u2] true 2)) nZ) nZ) nZ) nZ) (eE (eE (eE (eE (lL (AObj.map m1 n2 true)) nZ) nZ) nZ) nZ))) (eE (eE q3 (eE (eE (eE (eE (lL (AObj.cells 52 l1 false 2)) nZ) nZ) nZ) nZ)) q2),134⟩) (.ret (Value.int IntKind.i64 0) (⟨eE q0 q1,134⟩)) (.need ((True)∧True) (.call 15 [Value.pointer (some ⟨127,0,none⟩)] (⟨eE q0 q1,140⟩) (.ret (Value.slice (some ⟨140,0,none⟩) n1 9223372036854775810) (⟨eE q0 (eE (eE q3 (eE (eE (eE (eE (lL (AObj.cells 52 (HQ.QS.setv (HQ.ordN by_) n1 (HQ.QS.mk (l1) (m1) (n2)) (HQ.plN (HQ.QS.mk (l1) (m1) (n2)).E i1) ya).c false 2)) nZ) nZ) nZ) (eE (eE (eE (lL (AObj.cells 52 q4 false 2)) nZ) nZ) nZ))) q2),141⟩)) (.need (True∧Value.pointer (some ⟨(127:Nat),(0:Nat),none⟩)=Value.pointer (some ⟨(127:Nat),(0:Nat),none⟩)∧True) (.need ((Value.pointer (some ⟨(129:Nat),(1:Nat),none⟩)=Value.pointer (some ⟨(129:Nat),(1:Nat),none⟩)∧True)∧(Value.slice (some ⟨(131:Nat),(0:Nat),none⟩) n (9223372036854775810:Nat)=Value.slice (some ⟨(131:Nat),(0:Nat),none⟩) n (9223372036854775810:Nat)∧True)∧(Value.slice (some ⟨(140:Nat),(0:Nat),none⟩) n1 (9223372036854775810:Nat)=Value.slice (some ⟨(140:Nat),(0:Nat),none⟩) n1 (9223372036854775810:Nat)∧True)∧(Value.slice (some ⟨(131:Nat),(0:Nat),none⟩) n (9223372036854775810:Nat)=Value.slice (some ⟨(131:Nat),(0:Nat),none⟩) n (9223372036854775810:Nat)∧True)∧True) (.need (NoNames c∧NoNames q5∧NoNames q4∧True) (.stop [13,16,17,18,19,20] (S7 by_ ty o c n cap ya yb (i1) (n1) q4 (0) (fun _=>undef)))))))))):RunD η prog B 4 (H0 by_ ty o c n cap ya yb) [5,7,8,13] (S6 by_ ty o c n cap ya yb i0 i1 i2 n1 m1 n2 l1 fun _=>undef) (QF prog 127 D):=by
 refine RunD.intro (S6 by_ ty o c n cap ya yb i0 i1 i2 n1 m1 n2 l1) (fun d=>⟨rfl,rfl,rfl⟩) (fun d=>tmOk_get (by kernel_rfl)) (fun d=>by kernel_rfl) (fun d=>?_)
 exact walk_okT (h0:=H0 by_ ty o c n cap ya yb) hη hmix hreg (.steps 5 <| .call kN <| .steps 5 <| .regN [1] <| .steps 1 <| .call kN <| .steps 4 <| .regN [1] <| .steps 12 <| .stop [13,16,17,18,19,20] (some ⟨129,[(131,127),(140,128)],[(126,(126,true)),(127,(131,true)),(128,(140,true))]⟩)) (S6 by_ ty o c n cap ya yb i0 i1 i2 n1 m1 n2 l1 d) (by kernel_rfl) h (by kernel_rfl)
theorem cut7{η:Nat→Value}{B:Bd}(hη:OneCells η)(hmix:prog.follows .mixedOrders=true)(hreg:RegOk η prog B noNest){D:Value→AH→Prop}(by_:Int)(ty:Nat)(o:Nat)(c:List Value)(n:Nat)(cap:Nat)(ya:Int)(yb:Int)(i1:Int)(n1:Nat)(l0:List Value)(i0:Int)(h:let q10:=((0:Nat)+i0.toNat * (2:Nat)+(0:Nat));let q9:=(HQ.svC (HQ.ordN by_) n (HQ.mdS (HQ.ordN by_) c o n).c);let q8:=(intAt q9 (0+i0.toNat * 2));let q7:W:=(.need (NoNames c∧True) (.done 4 (Value.bool false) (H0 by_ ty o c n cap ya yb)));let q6:=(intAt q9 (0+i0.toNat * 2+1));let q5:=(intAt q9 ((0:Nat)+i0.toNat * (2:Nat)));let q4:=(List.drop ((0:Nat)+i0.toNat * (2:Nat)) q9);let q3:=(intAt q9 ((0:Nat)+i0.toNat * (2:Nat)+(1:Nat)));let q2:=(intAt q9 q10 != i1);let q1:=(Value.int IntKind.i64 (intAt q9 q10));let q0:W:=(.call 14 [Value.slice none 0 0,Value.slice none 0 0] (⟨eE (eE (eE (eE (eE (eE (eE (lL (AObj.cells 52 q9 false 2)) nZ) nZ) nZ) nZ) nZ) nZ) (eE (eE (eE (eE (eE (eE (lL (AObj.cells 52 l0 false 2)) nZ) nZ) nZ) nZ) nZ) (eE nZ (eE nZ (eE nZ (eE nZ (lL (AObj.cells ty c false 0))))))),129⟩) (.ret (Value.bool true) (⟨eE (eE (eE (eE (eE (eE (eE (lL (AObj.cells 52 q9 false 2)) nZ) nZ) nZ) nZ) nZ) nZ) (eE (eE (eE (eE (eE (eE (lL (AObj.cells 52 l0 false 2)) nZ) nZ) nZ) nZ) nZ) (eE nZ (eE nZ (eE nZ (eE nZ (lL (AObj.cells ty c false 0))))))),129⟩)) (.call 6 [] (⟨eE (eE (eE (eE (eE (eE (eE (lL (AObj.cells 52 q9 false 2)) nZ) nZ) nZ) nZ) nZ) nZ) (eE (eE (eE (eE (eE (eE (lL (AObj.cells 52 l0 false 2)) nZ) nZ) nZ) nZ) nZ) (eE nZ (eE nZ (eE nZ (eE nZ (lL (AObj.cells ty c false 0))))))),129⟩) (.ret (Value.bool true) (⟨eE (eE (eE (eE (eE (eE (eE (lL (AObj.cells 52 q9 false 2)) nZ) nZ) nZ) nZ) nZ) nZ) (eE (eE (eE (eE (eE (eE (lL (AObj.cells 52 l0 false 2)) nZ) nZ) nZ) nZ) nZ) (eE nZ (eE nZ (eE nZ (eE nZ (lL (AObj.cells ty c false 0))))))),129⟩)) (.need (NoNames c∧True) (.done 4 (Value.bool true) (H0 by_ ty o c n cap ya yb)))));W.holds η prog B 4 (fun kp_ st_=>RunD η prog B 4 (H0 by_ ty o c n cap ya yb) kp_ st_ (QF prog 127 D)) D (.ite (decide (i0<(↑n1:Int))) (.ite (decide (i0<(↑n:Int))) (.need ((0:Int)≤i0∧i0<(↑n1:Int)) (.need (l0[(0:Nat)+i0.toNat * (2:Nat)+(0:Nat)]? = some (Value.int IntKind.i64 (intAt l0 q10))) (.ite (intAt l0 q10 != i1) (.need ((0:Int)≤i0∧i0<(↑n1:Int)) (.need ((0:Nat)+i0.toNat * (2:Nat)+(2:Nat)≤l0.length∧List.take (2:Nat) (List.drop ((0:Nat)+i0.toNat * (2:Nat)) l0)=[Value.int IntKind.i64 (intAt l0 ((0:Nat)+i0.toNat * (2:Nat))),Value.int IntKind.i64 (intAt l0 ((0:Nat)+i0.toNat * (2:Nat)+(1:Nat)))]) (.need ((0:Int)≤i0∧i0<(↑n:Int)) (.need (q9[(0:Nat)+i0.toNat * (2:Nat)+(0:Nat)]? = some q1) (.ite q2 (.need ((0:Int)≤i0∧i0<(↑n:Int)) (.need ((0:Nat)+i0.toNat * (2:Nat)+(2:Nat)≤q9.length∧List.take (2:Nat) q4=[Value.int IntKind.i64 q5,Value.int IntKind.i64 q3]) (.need (NoNames c∧True∧NoNames q9∧NoNames l0∧True∧True) (.stop [13,16,17,18,19,20] (S8 by_ ty o c n cap ya yb (i1) (n1) (l0) default default (1) (IntKind.i64.wrap (i0+1)) (1) ([Value.int IntKind.i64 q8,Value.int IntKind.i64 q6]) ([Value.int IntKind.i64 (intAt l0 (0+i0.toNat * 2)),Value.int IntKind.i64 (intAt l0 (0+i0.toNat * 2+1))]) (fun _=>undef)))))) (.need (NoNames c∧NoNames q9∧NoNames l0∧True∧True) (.stop [13,16,17,18,19,20] (S9 by_ ty o c n cap ya yb (i1) (n1) (l0) (IntKind.i64.wrap (i0+1)) (1) ([Value.int IntKind.i64 (intAt l0 (0+i0.toNat * 2)),Value.int IntKind.i64 (intAt l0 (0+i0.toNat * 2+1))]) (fun _=>undef))))))))) (.need ((0:Int)≤i0∧i0<(↑n:Int)) (.need (q9[(0:Nat)+i0.toNat * (2:Nat)+(0:Nat)]? = some q1) (.ite q2 (.need ((0:Int)≤i0∧i0<(↑n:Int)) (.need ((0:Nat)+i0.toNat * (2:Nat)+(2:Nat)≤q9.length∧List.take (2:Nat) q4=[Value.int IntKind.i64 q5,Value.int IntKind.i64 q3]) (.need (NoNames c∧True∧NoNames q9∧NoNames l0∧True) (.stop [13,16,17,18,19,20] (S10 by_ ty o c n cap ya yb (i1) (n1) (l0) default default (1) (IntKind.i64.wrap (i0+1)) ([Value.int IntKind.i64 q8,Value.int IntKind.i64 q6]) (fun _=>undef)))))) (.stop [13,16,17,18,19,20] (S7 by_ ty o c n cap ya yb (i1) (n1) (l0) (IntKind.i64.wrap (i0+1)) (fun _=>undef))))))))) (.ite ((↑n1:Int) == (↑n:Int)) q0 q7)) (.ite ((↑n1:Int) == (↑n:Int)) q0 q7))):RunD η prog B 4 (H0 by_ ty o c n cap ya yb) [13,16,17,18,19,20] (S7 by_ ty o c n cap ya yb i1 n1 l0 i0 fun _=>undef) (QF prog 127 D):=by
 refine RunD.intro (S7 by_ ty o c n cap ya yb i1 n1 l0 i0) (fun d=>⟨rfl,rfl,rfl⟩) (fun d=>tmOk_get (by kernel_rfl)) (fun d=>by kernel_rfl) (fun d=>?_)
 exact walk_okT (h0:=H0 by_ ty o c n cap ya yb) hη hmix hreg (.steps 8 <| .bit 138 (.steps 6 <| .bit 143 (.steps 9 <| .op <| .steps 1 <| .op <| .steps 3 <| .bit 152 (.steps 5 <| .op <| .op <| .steps 8 <| .op <| .steps 1 <| .op <| .steps 3 <| .bit 166 (.steps 5 <| .op <| .op <| .steps 11 <| .stop [13,16,17,18,19,20] (some ⟨131,[(132,127),(127,128),(128,129),(130,130)],[(126,(126,true)),(127,(132,false)),(128,(127,true)),(129,(128,true)),(130,(130,false))]⟩)) (.steps 9 <| .stop [13,16,17,18,19,20] (some ⟨130,[(127,127),(128,128),(130,129)],[(126,(126,true)),(127,(127,true)),(128,(128,true)),(129,(130,false))]⟩))) (.steps 6 <| .op <| .steps 1 <| .op <| .steps 3 <| .bit 166 (.steps 5 <| .op <| .op <| .steps 11 <| .stop [13,16,17,18,19,20] (some ⟨130,[(130,127),(127,128),(128,129)],[(126,(126,true)),(127,(130,false)),(128,(127,true)),(129,(128,true))]⟩)) (.steps 9 <| .stop [13,16,17,18,19,20] none))) (.steps 10 <| .bit 179 (.steps 2 <| .call kN <| .steps 2 <| .call kN <| .steps 4 <| .done (some ⟨127,[],[(126,(126,true))]⟩)) (.steps 10 <| .done (some ⟨127,[],[(126,(126,true))]⟩)))) (.steps 16 <| .bit 179 (.steps 2 <| .call kN <| .steps 2 <| .call kN <| .steps 4 <| .done (some ⟨127,[],[(126,(126,true))]⟩)) (.steps 10 <| .done (some ⟨127,[],[(126,(126,true))]⟩)))) (S7 by_ ty o c n cap ya yb i1 n1 l0 i0 d) (by kernel_rfl) h (by kernel_rfl)
theorem cut8{η:Nat→Value}{B:Bd}(hη:OneCells η)(hmix:prog.follows .mixedOrders=true)(hreg:RegOk η prog B noNest){D:Value→AH→Prop}(by_:Int)(ty:Nat)(o:Nat)(c:List Value)(n:Nat)(cap:Nat)(ya:Int)(yb:Int)(i1:Int)(n1:Nat)(l0:List Value)(i0:Int)(i2:Int)(n0:Nat)(i3:Int)(n2:Nat)(l1:List Value)(l2:List Value)(h:let q12:=((0:Nat)+i3.toNat * (2:Nat)+(0:Nat));let q11:=(HQ.svC (HQ.ordN by_) n (HQ.mdS (HQ.ordN by_) c o n).c);let q10:W:=(.need (NoNames c∧True) (.done 4 (Value.bool false) (H0 by_ ty o c n cap ya yb)));let q9:=(intAt q11 ((0:Nat)+i3.toNat * (2:Nat)));let q8:=(List.drop ((0:Nat)+i3.toNat * (2:Nat)) q11);let q7:=(intAt q11 ((0:Nat)+i3.toNat * (2:Nat)+(1:Nat)));let q6:=(intAt q11 q12 != i1);let q5:=(l2 ++ [Value.int IntKind.i64 (intAt l0 (0+i3.toNat * 2)),Value.int IntKind.i64 (intAt l0 (0+i3.toNat * 2+1))]);let q4:=(Value.int IntKind.i64 (intAt q11 q12));let q3:=(l2 ++ [Value.int IntKind.i64 (intAt l0 ((0:Nat)+i3.toNat * (2:Nat))),Value.int IntKind.i64 (intAt l0 ((0:Nat)+i3.toNat * (2:Nat)+(1:Nat)))]);let q2:=(l1 ++ [Value.int IntKind.i64 (intAt q11 (0+i3.toNat * 2)),Value.int IntKind.i64 (intAt q11 (0+i3.toNat * 2+1))]);let q1:=(l1 ++ [Value.int IntKind.i64 q9,Value.int IntKind.i64 q7]);let q0:W:=(.call 14 [Value.slice (some ⟨130,0,none⟩) n2 9223372036854775810,Value.slice (some ⟨127,0,none⟩) n0 9223372036854775810] (⟨eE (eE (eE (eE (eE (eE (eE (lL (AObj.cells 52 l1 false 2)) nZ) nZ) nZ) nZ) nZ) (eE (eE (eE (eE (eE (lL (AObj.cells 52 l0 false 2)) nZ) nZ) nZ) nZ) nZ)) (eE (eE (eE (eE (eE (eE (lL (AObj.cells 52 q11 false 2)) nZ) nZ) nZ) nZ) nZ) (eE (eE (eE (eE (eE (lL (AObj.cells 52 l2 false 2)) nZ) nZ) nZ) nZ) (eE nZ (eE nZ (eE nZ (lL (AObj.cells ty c false 0))))))),131⟩) (.ret (Value.bool (HQ.sameC n2 l2 n0 l1)) (⟨eE (eE (eE (eE (eE (eE (eE (lL (AObj.cells 52 l1 false 2)) nZ) nZ) nZ) nZ) nZ) (eE (eE (eE (eE (eE (lL (AObj.cells 52 l0 false 2)) nZ) nZ) nZ) nZ) nZ)) (eE (eE (eE (eE (eE (eE (lL (AObj.cells 52 q11 false 2)) nZ) nZ) nZ) nZ) nZ) (eE (eE (eE (eE (eE (lL (AObj.cells 52 l2 false 2)) nZ) nZ) nZ) nZ) (eE nZ (eE nZ (eE nZ (lL (AObj.cells ty c false 0))))))),131⟩)) (.ite (HQ.sameC n2 l2 n0 l1) (.call 6 [] (⟨eE (eE (eE (eE (eE (eE (eE (lL (AObj.cells 52 l1 false 2)) nZ) nZ) nZ) nZ) nZ) (eE (eE (eE (eE (eE (lL (AObj.cells 52 l0 false 2)) nZ) nZ) nZ) nZ) nZ)) (eE (eE (eE (eE (eE (eE (lL (AObj.cells 52 q11 false 2)) nZ) nZ) nZ) nZ) nZ) (eE (eE (eE (eE (eE (lL (AObj.cells 52 l2 false 2)) nZ) nZ) nZ) nZ) (eE nZ (eE nZ (eE nZ (lL (AObj.cells ty c false 0))))))),131⟩) (.ret (Value.bool true) (⟨eE (eE (eE (eE (eE (eE (eE (lL (AObj.cells 52 l1 false 2)) nZ) nZ) nZ) nZ) nZ) (eE (eE (eE (eE (eE (lL (AObj.cells 52 l0 false 2)) nZ) nZ) nZ) nZ) nZ)) (eE (eE (eE (eE (eE (eE (lL (AObj.cells 52 q11 false 2)) nZ) nZ) nZ) nZ) nZ) (eE (eE (eE (eE (eE (lL (AObj.cells 52 l2 false 2)) nZ) nZ) nZ) nZ) (eE nZ (eE nZ (eE nZ (lL (AObj.cells ty c false 0))))))),131⟩)) (.need (NoNames c∧True) (.done 4 (Value.bool true) (H0 by_ ty o c n cap ya yb)))) q10));W.holds η prog B 4 (fun kp_ st_=>RunD η prog B 4 (H0 by_ ty o c n cap ya yb) kp_ st_ (QF prog 127 D)) D (.ite (decide (i3<(↑n1:Int))) (.ite (decide (i3<(↑n:Int))) (.need ((0:Int)≤i3∧i3<(↑n1:Int)) (.need (l0[(0:Nat)+i3.toNat * (2:Nat)+(0:Nat)]? = some (Value.int IntKind.i64 (intAt l0 q12))) (.ite (intAt l0 q12 != i1) (.need ((0:Int)≤i3∧i3<(↑n1:Int)) (.need ((0:Nat)+i3.toNat * (2:Nat)+(2:Nat)≤l0.length∧List.take (2:Nat) (List.drop ((0:Nat)+i3.toNat * (2:Nat)) l0)=[Value.int IntKind.i64 (intAt l0 ((0:Nat)+i3.toNat * (2:Nat))),Value.int IntKind.i64 (intAt l0 ((0:Nat)+i3.toNat * (2:Nat)+(1:Nat)))]) (.need ((2:Nat)≤(2:Nat)∧l2.length=n2 * (2:Nat)∧n2+(1:Nat)≤(1000000:Nat)∧(2:Nat)=(2:Nat)∧true=true) (.need ((0:Int)≤i3∧i3<(↑n:Int)) (.need (q11[(0:Nat)+i3.toNat * (2:Nat)+(0:Nat)]? = some q4) (.ite q6 (.need ((0:Int)≤i3∧i3<(↑n:Int)) (.need ((0:Nat)+i3.toNat * (2:Nat)+(2:Nat)≤q11.length∧List.take (2:Nat) q8=[Value.int IntKind.i64 q9,Value.int IntKind.i64 q7]) (.need ((2:Nat)≤(2:Nat)∧l1.length=n0 * (2:Nat)∧n0+(1:Nat)≤(1000000:Nat)∧(2:Nat)=(2:Nat)∧true=true) (.need (NoNames c∧NoNames q1∧NoNames q11∧NoNames l0∧NoNames q3∧True) (.stop [13,16,17,18,19,20] (S8 by_ ty o c n cap ya yb (i1) (n1) (l0) default default (n0+1) (IntKind.i64.wrap (i3+1)) (n2+1) q2 q5 (fun _=>undef))))))) (.need (NoNames c∧NoNames l1∧NoNames q11∧NoNames l0∧NoNames q3∧True) (.stop [13,16,17,18,19,20] (S8 by_ ty o c n cap ya yb (i1) (n1) (l0) default default (n0) (IntKind.i64.wrap (i3+1)) (n2+1) (l1) q5 (fun _=>undef)))))))))) (.need ((0:Int)≤i3∧i3<(↑n:Int)) (.need (q11[(0:Nat)+i3.toNat * (2:Nat)+(0:Nat)]? = some q4) (.ite q6 (.need ((0:Int)≤i3∧i3<(↑n:Int)) (.need ((0:Nat)+i3.toNat * (2:Nat)+(2:Nat)≤q11.length∧List.take (2:Nat) q8=[Value.int IntKind.i64 q9,Value.int IntKind.i64 q7]) (.need ((2:Nat)≤(2:Nat)∧l1.length=n0 * (2:Nat)∧n0+(1:Nat)≤(1000000:Nat)∧(2:Nat)=(2:Nat)∧true=true) (.need (NoNames c∧NoNames q1∧NoNames q11∧NoNames l0∧NoNames l2∧True) (.stop [13,16,17,18,19,20] (S8 by_ ty o c n cap ya yb (i1) (n1) (l0) default default (n0+1) (IntKind.i64.wrap (i3+1)) (n2) q2 (l2) (fun _=>undef))))))) (.stop [13,16,17,18,19,20] (S8 by_ ty o c n cap ya yb (i1) (n1) (l0) default default (n0) (IntKind.i64.wrap (i3+1)) (n2) (l1) (l2) (fun _=>undef))))))))) (.ite ((↑n1:Int) == (↑n:Int)) q0 q10)) (.ite ((↑n1:Int) == (↑n:Int)) q0 q10))):RunD η prog B 4 (H0 by_ ty o c n cap ya yb) [13,16,17,18,19,20] (S8 by_ ty o c n cap ya yb i1 n1 l0 i0 i2 n0 i3 n2 l1 l2 fun _=>undef) (QF prog 127 D):=by
 refine RunD.intro (S8 by_ ty o c n cap ya yb i1 n1 l0 i0 i2 n0 i3 n2 l1 l2) (fun d=>⟨rfl,rfl,rfl⟩) (fun d=>tmOk_get (by kernel_rfl)) (fun d=>by kernel_rfl) (fun d=>?_)
 exact walk_okT (h0:=H0 by_ ty o c n cap ya yb) hη hmix hreg (.steps 8 <| .bit 138 (.steps 6 <| .bit 143 (.steps 9 <| .op <| .steps 1 <| .op <| .steps 3 <| .bit 152 (.steps 5 <| .op <| .op <| .steps 1 <| .op <| .steps 6 <| .op <| .steps 1 <| .op <| .steps 3 <| .bit 166 (.steps 5 <| .op <| .op <| .steps 1 <| .op <| .steps 9 <| .stop [13,16,17,18,19,20] (some ⟨131,[(134,127),(128,128),(129,129),(132,130)],[(126,(126,true)),(127,(134,true)),(128,(128,true)),(129,(129,true)),(130,(132,true))]⟩)) (.steps 9 <| .stop [13,16,17,18,19,20] (some ⟨131,[(127,127),(128,128),(129,129),(132,130)],[(126,(126,true)),(127,(127,true)),(128,(128,true)),(129,(129,true)),(130,(132,true))]⟩))) (.steps 6 <| .op <| .steps 1 <| .op <| .steps 3 <| .bit 166 (.steps 5 <| .op <| .op <| .steps 1 <| .op <| .steps 9 <| .stop [13,16,17,18,19,20] (some ⟨131,[(132,127),(128,128),(129,129),(130,130)],[(126,(126,true)),(127,(132,true)),(128,(128,true)),(129,(129,true)),(130,(130,true))]⟩)) (.steps 9 <| .stop [13,16,17,18,19,20] none))) (.steps 10 <| .bit 179 (.steps 2 <| .call kN <| .steps 2 <| .bit 184 (.call kN <| .steps 4 <| .done (some ⟨127,[],[(126,(126,true))]⟩)) (.steps 5 <| .done (some ⟨127,[],[(126,(126,true))]⟩))) (.steps 10 <| .done (some ⟨127,[],[(126,(126,true))]⟩)))) (.steps 16 <| .bit 179 (.steps 2 <| .call kN <| .steps 2 <| .bit 184 (.call kN <| .steps 4 <| .done (some ⟨127,[],[(126,(126,true))]⟩)) (.steps 5 <| .done (some ⟨127,[],[(126,(126,true))]⟩))) (.steps 10 <| .done (some ⟨127,[],[(126,(126,true))]⟩)))) (S8 by_ ty o c n cap ya yb i1 n1 l0 i0 i2 n0 i3 n2 l1 l2 d) (by kernel_rfl) h (by kernel_rfl)
theorem cut9{η:Nat→Value}{B:Bd}(hη:OneCells η)(hmix:prog.follows .mixedOrders=true)(hreg:RegOk η prog B noNest){D:Value→AH→Prop}(by_:Int)(ty:Nat)(o:Nat)(c:List Value)(n:Nat)(cap:Nat)(ya:Int)(yb:Int)(i1:Int)(n1:Nat)(l0:List Value)(i0:Int)(n0:Nat)(l1:List Value)(h:let q12:=((0:Nat)+i0.toNat * (2:Nat)+(0:Nat));let q11:=(HQ.svC (HQ.ordN by_) n (HQ.mdS (HQ.ordN by_) c o n).c);let q10:=(intAt q11 (0+i0.toNat * 2));let q9:W:=(.need (NoNames c∧True) (.done 4 (Value.bool false) (H0 by_ ty o c n cap ya yb)));let q8:=(intAt q11 (0+i0.toNat * 2+1));let q7:=(intAt q11 ((0:Nat)+i0.toNat * (2:Nat)));let q6:=(List.drop ((0:Nat)+i0.toNat * (2:Nat)) q11);let q5:=(intAt q11 ((0:Nat)+i0.toNat * (2:Nat)+(1:Nat)));let q4:=(intAt q11 q12 != i1);let q3:=(l1 ++ [Value.int IntKind.i64 (intAt l0 (0+i0.toNat * 2)),Value.int IntKind.i64 (intAt l0 (0+i0.toNat * 2+1))]);let q2:=(Value.int IntKind.i64 (intAt q11 q12));let q1:=(l1 ++ [Value.int IntKind.i64 (intAt l0 ((0:Nat)+i0.toNat * (2:Nat))),Value.int IntKind.i64 (intAt l0 ((0:Nat)+i0.toNat * (2:Nat)+(1:Nat)))]);let q0:W:=(.call 14 [Value.slice (some ⟨129,0,none⟩) n0 9223372036854775810,Value.slice none 0 0] (⟨eE (eE (eE (eE (eE (eE (eE (lL (AObj.cells 52 q11 false 2)) nZ) nZ) nZ) nZ) nZ) (eE (eE (eE (eE (eE (lL (AObj.cells 52 l1 false 2)) nZ) nZ) nZ) nZ) nZ)) (eE (eE (eE (eE (eE (eE (lL (AObj.cells 52 l0 false 2)) nZ) nZ) nZ) nZ) nZ) (eE nZ (eE nZ (eE nZ (eE nZ (lL (AObj.cells ty c false 0))))))),130⟩) (.ret (Value.bool false) (⟨eE (eE (eE (eE (eE (eE (eE (lL (AObj.cells 52 q11 false 2)) nZ) nZ) nZ) nZ) nZ) (eE (eE (eE (eE (eE (lL (AObj.cells 52 l1 false 2)) nZ) nZ) nZ) nZ) nZ)) (eE (eE (eE (eE (eE (eE (lL (AObj.cells 52 l0 false 2)) nZ) nZ) nZ) nZ) nZ) (eE nZ (eE nZ (eE nZ (eE nZ (lL (AObj.cells ty c false 0))))))),130⟩)) q9);W.holds η prog B 4 (fun kp_ st_=>RunD η prog B 4 (H0 by_ ty o c n cap ya yb) kp_ st_ (QF prog 127 D)) D (.ite (decide (i0<(↑n1:Int))) (.ite (decide (i0<(↑n:Int))) (.need ((0:Int)≤i0∧i0<(↑n1:Int)) (.need (l0[(0:Nat)+i0.toNat * (2:Nat)+(0:Nat)]? = some (Value.int IntKind.i64 (intAt l0 q12))) (.ite (intAt l0 q12 != i1) (.need ((0:Int)≤i0∧i0<(↑n1:Int)) (.need ((0:Nat)+i0.toNat * (2:Nat)+(2:Nat)≤l0.length∧List.take (2:Nat) (List.drop ((0:Nat)+i0.toNat * (2:Nat)) l0)=[Value.int IntKind.i64 (intAt l0 ((0:Nat)+i0.toNat * (2:Nat))),Value.int IntKind.i64 (intAt l0 ((0:Nat)+i0.toNat * (2:Nat)+(1:Nat)))]) (.need ((2:Nat)≤(2:Nat)∧l1.length=n0 * (2:Nat)∧n0+(1:Nat)≤(1000000:Nat)∧(2:Nat)=(2:Nat)∧true=true) (.need ((0:Int)≤i0∧i0<(↑n:Int)) (.need (q11[(0:Nat)+i0.toNat * (2:Nat)+(0:Nat)]? = some q2) (.ite q4 (.need ((0:Int)≤i0∧i0<(↑n:Int)) (.need ((0:Nat)+i0.toNat * (2:Nat)+(2:Nat)≤q11.length∧List.take (2:Nat) q6=[Value.int IntKind.i64 q7,Value.int IntKind.i64 q5]) (.need (NoNames c∧True∧NoNames q11∧NoNames l0∧NoNames q1∧True) (.stop [13,16,17,18,19,20] (S8 by_ ty o c n cap ya yb (i1) (n1) (l0) default default (1) (IntKind.i64.wrap (i0+1)) (n0+1) ([Value.int IntKind.i64 q10,Value.int IntKind.i64 q8]) q3 (fun _=>undef)))))) (.need (NoNames c∧NoNames q11∧NoNames l0∧NoNames q1∧True) (.stop [13,16,17,18,19,20] (S9 by_ ty o c n cap ya yb (i1) (n1) (l0) (IntKind.i64.wrap (i0+1)) (n0+1) q3 (fun _=>undef)))))))))) (.need ((0:Int)≤i0∧i0<(↑n:Int)) (.need (q11[(0:Nat)+i0.toNat * (2:Nat)+(0:Nat)]? = some q2) (.ite q4 (.need ((0:Int)≤i0∧i0<(↑n:Int)) (.need ((0:Nat)+i0.toNat * (2:Nat)+(2:Nat)≤q11.length∧List.take (2:Nat) q6=[Value.int IntKind.i64 q7,Value.int IntKind.i64 q5]) (.need (NoNames c∧True∧NoNames q11∧NoNames l0∧NoNames l1∧True) (.stop [13,16,17,18,19,20] (S8 by_ ty o c n cap ya yb (i1) (n1) (l0) default default (1) (IntKind.i64.wrap (i0+1)) (n0) ([Value.int IntKind.i64 q10,Value.int IntKind.i64 q8]) (l1) (fun _=>undef)))))) (.stop [13,16,17,18,19,20] (S9 by_ ty o c n cap ya yb (i1) (n1) (l0) (IntKind.i64.wrap (i0+1)) (n0) (l1) (fun _=>undef))))))))) (.ite ((↑n1:Int) == (↑n:Int)) q0 q9)) (.ite ((↑n1:Int) == (↑n:Int)) q0 q9))):RunD η prog B 4 (H0 by_ ty o c n cap ya yb) [13,16,17,18,19,20] (S9 by_ ty o c n cap ya yb i1 n1 l0 i0 n0 l1 fun _=>undef) (QF prog 127 D):=by
 refine RunD.intro (S9 by_ ty o c n cap ya yb i1 n1 l0 i0 n0 l1) (fun d=>⟨rfl,rfl,rfl⟩) (fun d=>tmOk_get (by kernel_rfl)) (fun d=>by kernel_rfl) (fun d=>?_)
 exact walk_okT (h0:=H0 by_ ty o c n cap ya yb) hη hmix hreg (.steps 8 <| .bit 138 (.steps 6 <| .bit 143 (.steps 9 <| .op <| .steps 1 <| .op <| .steps 3 <| .bit 152 (.steps 5 <| .op <| .op <| .steps 1 <| .op <| .steps 6 <| .op <| .steps 1 <| .op <| .steps 3 <| .bit 166 (.steps 5 <| .op <| .op <| .steps 11 <| .stop [13,16,17,18,19,20] (some ⟨131,[(133,127),(127,128),(128,129),(131,130)],[(126,(126,true)),(127,(133,false)),(128,(127,true)),(129,(128,true)),(130,(131,true))]⟩)) (.steps 9 <| .stop [13,16,17,18,19,20] (some ⟨130,[(127,127),(128,128),(131,129)],[(126,(126,true)),(127,(127,true)),(128,(128,true)),(129,(131,true))]⟩))) (.steps 6 <| .op <| .steps 1 <| .op <| .steps 3 <| .bit 166 (.steps 5 <| .op <| .op <| .steps 11 <| .stop [13,16,17,18,19,20] (some ⟨131,[(131,127),(127,128),(128,129),(129,130)],[(126,(126,true)),(127,(131,false)),(128,(127,true)),(129,(128,true)),(130,(129,true))]⟩)) (.steps 9 <| .stop [13,16,17,18,19,20] none))) (.steps 10 <| .bit 179 (.steps 2 <| .call kN <| .steps 7 <| .done (some ⟨127,[],[(126,(126,true))]⟩)) (.steps 10 <| .done (some ⟨127,[],[(126,(126,true))]⟩)))) (.steps 16 <| .bit 179 (.steps 2 <| .call kN <| .steps 7 <| .done (some ⟨127,[],[(126,(126,true))]⟩)) (.steps 10 <| .done (some ⟨127,[],[(126,(126,true))]⟩)))) (S9 by_ ty o c n cap ya yb i1 n1 l0 i0 n0 l1 d) (by kernel_rfl) h (by kernel_rfl)
theorem cut10{η:Nat→Value}{B:Bd}(hη:OneCells η)(hmix:prog.follows .mixedOrders=true)(hreg:RegOk η prog B noNest){D:Value→AH→Prop}(by_:Int)(ty:Nat)(o:Nat)(c:List Value)(n:Nat)(cap:Nat)(ya:Int)(yb:Int)(i1:Int)(n1:Nat)(l0:List Value)(i0:Int)(i2:Int)(n0:Nat)(i3:Int)(l1:List Value)(h:let q10:=((0:Nat)+i3.toNat * (2:Nat)+(0:Nat));let q9:=(HQ.svC (HQ.ordN by_) n (HQ.mdS (HQ.ordN by_) c o n).c);let q8:W:=(.need (NoNames c∧True) (.done 4 (Value.bool false) (H0 by_ ty o c n cap ya yb)));let q7:=(intAt q9 ((0:Nat)+i3.toNat * (2:Nat)));let q6:=(List.drop ((0:Nat)+i3.toNat * (2:Nat)) q9);let q5:=(intAt q9 ((0:Nat)+i3.toNat * (2:Nat)+(1:Nat)));let q4:=(intAt q9 q10 != i1);let q3:=(Value.int IntKind.i64 (intAt q9 q10));let q2:=(l1 ++ [Value.int IntKind.i64 (intAt q9 (0+i3.toNat * 2)),Value.int IntKind.i64 (intAt q9 (0+i3.toNat * 2+1))]);let q1:=(l1 ++ [Value.int IntKind.i64 q7,Value.int IntKind.i64 q5]);let q0:W:=(.call 14 [Value.slice none 0 0,Value.slice (some ⟨127,0,none⟩) n0 9223372036854775810] (⟨eE (eE (eE (eE (eE (eE (eE (lL (AObj.cells 52 l1 false 2)) nZ) nZ) nZ) nZ) nZ) (eE (eE (eE (eE (eE (lL (AObj.cells 52 l0 false 2)) nZ) nZ) nZ) nZ) nZ)) (eE (eE (eE (eE (eE (eE (lL (AObj.cells 52 q9 false 2)) nZ) nZ) nZ) nZ) nZ) (eE nZ (eE nZ (eE nZ (eE nZ (lL (AObj.cells ty c false 0))))))),130⟩) (.ret (Value.bool false) (⟨eE (eE (eE (eE (eE (eE (eE (lL (AObj.cells 52 l1 false 2)) nZ) nZ) nZ) nZ) nZ) (eE (eE (eE (eE (eE (lL (AObj.cells 52 l0 false 2)) nZ) nZ) nZ) nZ) nZ)) (eE (eE (eE (eE (eE (eE (lL (AObj.cells 52 q9 false 2)) nZ) nZ) nZ) nZ) nZ) (eE nZ (eE nZ (eE nZ (eE nZ (lL (AObj.cells ty c false 0))))))),130⟩)) q8);W.holds η prog B 4 (fun kp_ st_=>RunD η prog B 4 (H0 by_ ty o c n cap ya yb) kp_ st_ (QF prog 127 D)) D (.ite (decide (i3<(↑n1:Int))) (.ite (decide (i3<(↑n:Int))) (.need ((0:Int)≤i3∧i3<(↑n1:Int)) (.need (l0[(0:Nat)+i3.toNat * (2:Nat)+(0:Nat)]? = some (Value.int IntKind.i64 (intAt l0 q10))) (.ite (intAt l0 q10 != i1) (.need ((0:Int)≤i3∧i3<(↑n1:Int)) (.need ((0:Nat)+i3.toNat * (2:Nat)+(2:Nat)≤l0.length∧List.take (2:Nat) (List.drop ((0:Nat)+i3.toNat * (2:Nat)) l0)=[Value.int IntKind.i64 (intAt l0 ((0:Nat)+i3.toNat * (2:Nat))),Value.int IntKind.i64 (intAt l0 ((0:Nat)+i3.toNat * (2:Nat)+(1:Nat)))]) (.need ((0:Int)≤i3∧i3<(↑n:Int)) (.need (q9[(0:Nat)+i3.toNat * (2:Nat)+(0:Nat)]? = some q3) (.ite q4 (.need ((0:Int)≤i3∧i3<(↑n:Int)) (.need ((0:Nat)+i3.toNat * (2:Nat)+(2:Nat)≤q9.length∧List.take (2:Nat) q6=[Value.int IntKind.i64 q7,Value.int IntKind.i64 q5]) (.need ((2:Nat)≤(2:Nat)∧l1.length=n0 * (2:Nat)∧n0+(1:Nat)≤(1000000:Nat)∧(2:Nat)=(2:Nat)∧true=true) (.need (NoNames c∧NoNames q1∧NoNames q9∧NoNames l0∧True∧True) (.stop [13,16,17,18,19,20] (S8 by_ ty o c n cap ya yb (i1) (n1) (l0) default default (n0+1) (IntKind.i64.wrap (i3+1)) (1) q2 ([Value.int IntKind.i64 (intAt l0 (0+i3.toNat * 2)),Value.int IntKind.i64 (intAt l0 (0+i3.toNat * 2+1))]) (fun _=>undef))))))) (.need (NoNames c∧NoNames l1∧NoNames q9∧NoNames l0∧True∧True) (.stop [13,16,17,18,19,20] (S8 by_ ty o c n cap ya yb (i1) (n1) (l0) default default (n0) (IntKind.i64.wrap (i3+1)) (1) (l1) ([Value.int IntKind.i64 (intAt l0 (0+i3.toNat * 2)),Value.int IntKind.i64 (intAt l0 (0+i3.toNat * 2+1))]) (fun _=>undef))))))))) (.need ((0:Int)≤i3∧i3<(↑n:Int)) (.need (q9[(0:Nat)+i3.toNat * (2:Nat)+(0:Nat)]? = some q3) (.ite q4 (.need ((0:Int)≤i3∧i3<(↑n:Int)) (.need ((0:Nat)+i3.toNat * (2:Nat)+(2:Nat)≤q9.length∧List.take (2:Nat) q6=[Value.int IntKind.i64 q7,Value.int IntKind.i64 q5]) (.need ((2:Nat)≤(2:Nat)∧l1.length=n0 * (2:Nat)∧n0+(1:Nat)≤(1000000:Nat)∧(2:Nat)=(2:Nat)∧true=true) (.need (NoNames c∧NoNames q1∧NoNames q9∧NoNames l0∧True) (.stop [13,16,17,18,19,20] (S10 by_ ty o c n cap ya yb (i1) (n1) (l0) default default (n0+1) (IntKind.i64.wrap (i3+1)) q2 (fun _=>undef))))))) (.stop [13,16,17,18,19,20] (S10 by_ ty o c n cap ya yb (i1) (n1) (l0) default default (n0) (IntKind.i64.wrap (i3+1)) (l1) (fun _=>undef))))))))) (.ite ((↑n1:Int) == (↑n:Int)) q0 q8)) (.ite ((↑n1:Int) == (↑n:Int)) q0 q8))):RunD η prog B 4 (H0 by_ ty o c n cap ya yb) [13,16,17,18,19,20] (S10 by_ ty o c n cap ya yb i1 n1 l0 i0 i2 n0 i3 l1 fun _=>undef) (QF prog 127 D):=by
 refine RunD.intro (S10 by_ ty o c n cap ya yb i1 n1 l0 i0 i2 n0 i3 l1) (fun d=>⟨rfl,rfl,rfl⟩) (fun d=>tmOk_get (by kernel_rfl)) (fun d=>by kernel_rfl) (fun d=>?_)
 exact walk_okT (h0:=H0 by_ ty o c n cap ya yb) hη hmix hreg (.steps 8 <| .bit 138 (.steps 6 <| .bit 143 (.steps 9 <| .op <| .steps 1 <| .op <| .steps 3 <| .bit 152 (.steps 5 <| .op <| .op <| .steps 8 <| .op <| .steps 1 <| .op <| .steps 3 <| .bit 166 (.steps 5 <| .op <| .op <| .steps 1 <| .op <| .steps 9 <| .stop [13,16,17,18,19,20] (some ⟨131,[(133,127),(128,128),(129,129),(131,130)],[(126,(126,true)),(127,(133,true)),(128,(128,true)),(129,(129,true)),(130,(131,false))]⟩)) (.steps 9 <| .stop [13,16,17,18,19,20] (some ⟨131,[(127,127),(128,128),(129,129),(131,130)],[(126,(126,true)),(127,(127,true)),(128,(128,true)),(129,(129,true)),(130,(131,false))]⟩))) (.steps 6 <| .op <| .steps 1 <| .op <| .steps 3 <| .bit 166 (.steps 5 <| .op <| .op <| .steps 1 <| .op <| .steps 9 <| .stop [13,16,17,18,19,20] (some ⟨130,[(131,127),(128,128),(129,129)],[(126,(126,true)),(127,(131,true)),(128,(128,true)),(129,(129,true))]⟩)) (.steps 9 <| .stop [13,16,17,18,19,20] none))) (.steps 10 <| .bit 179 (.steps 2 <| .call kN <| .steps 7 <| .done (some ⟨127,[],[(126,(126,true))]⟩)) (.steps 10 <| .done (some ⟨127,[],[(126,(126,true))]⟩)))) (.steps 16 <| .bit 179 (.steps 2 <| .call kN <| .steps 7 <| .done (some ⟨127,[],[(126,(126,true))]⟩)) (.steps 10 <| .done (some ⟨127,[],[(126,(126,true))]⟩)))) (S10 by_ ty o c n cap ya yb i1 n1 l0 i0 i2 n0 i3 l1 d) (by kernel_rfl) h (by kernel_rfl)
end KHand
end Go.Ev

/- The law of handles. -/
namespace Go.Ev
open Go Go.Proofs Go.RowKit
variable {η:Nat→Value} {B:Bd}
namespace HQ
theorem same_any(hη:OneCells η)(hmix:Try.prog.follows .mixedOrders=true){H:AH}{g1 g2:G}{n m k1 k2 c1 c2 r1 r2:Nat}(h1:H.objs.get r1=some (.cells 52 (its g1 k1) false 2))(h2:H.objs.get r2=some (.cells 52 (its g2 k2) false 2))(hd:r1 ≠ r2)(hn:n≤k1)(hm:m≤k2)(hn':n≤1000000) :
  CallSpec η Try.prog B 14 [.slice (some ⟨r1,0,none⟩) n c1,.slice (some ⟨r2,0,none⟩) m c2] H (KT.ret (.bool (sameC n (its g1 k1) m (its g2 k2))) H).sat:=by
 refine CallSpec.look hη gs9 (rn:=fun i=>if i=0 then r1 else r2) (l:=[.cells 52 (its g1 k1) false 0,.cells 52 (its g2 k2) false 0]) (l':=[.cells 52 (its g1 k1) false 2,.cells 52 (its g2 k2) false 2]) (args:=[.slice (some ⟨126,0,none⟩) n c1,.slice (some ⟨127,0,none⟩) m c2]) ⟨fun i a' hi=>?_,.cons (.cells _ _ (l2_bareV (its_bare _ _)) (.inr ⟨rfl,rfl⟩)) (.cons (.cells _ _ (l2_bareV (its_bare _ _)) (.inr ⟨rfl,rfl⟩)) .nil),fun i j hi hj e=>?_⟩ (fun a ha=>by simp at ha;rcases ha with rfl | rfl <;> rfl) (.cons (.slice _ _ (show 126<128 by decide)) (.cons (.slice _ _ (show 127<128 by decide)) .nil)) (fun _ _=>.bool _) (same_home hη hmix hn hm hn')
 ·match i,hi with
  | 0,hi=>simp at hi;subst hi;exact h1
  | 1,hi=>simp at hi;subst hi;exact h2
  | i+2,hi=>simp at hi
 ·simp only [List.length_cons,List.length_nil] at hi hj
  match i,j,hi,hj,e with
  | 0,0,_,_,_=>rfl
  | 1,1,_,_,_=>rfl
  | 0,1,_,_,e=>exact absurd e hd
  | 1,0,_,_,e=>exact absurd e.symm hd
theorem sameC_self(n:Nat)(c:List Value):sameC n c n c=true:=by unfold sameC;simp
def itL(l:LI):List Value:=aC (arrL l)
theorem itL_its(l:LI):itL l=its (fun i=>(arrL l)[i]!) (arrL l).size:=by unfold itL;rfl
theorem arrL_size(l:LI):(arrL l).size=l.length:=by unfold arrL;simp
theorem itL_len(l:LI):(itL l).length=l.length * 2:=by rw [itL_its,its_len,arrL_size]
theorem itL_nn(l:LI):NoNames (itL l):=by rw [itL_its];exact its_nn _ _
theorem arrL_get(l:LI){i:Nat}(h:i<l.length):(arrL l)[i]! = l[i]:=by
 unfold arrL
 rw [List.getElem!_toArray,List.getElem!_eq_getElem?_getD,List.getElem?_eq_getElem h,Option.getD_some]
theorem itL_snoc(l:LI)(p:Int × Int):itL l ++ [.int .i64 p.1,.int .i64 p.2]=itL (l ++ [p]):=by
 rw [itL_its,itL_its,arrL_size,arrL_size,its_snoc,List.length_append]
 refine its_congr fun k hk=>?_
 have hk:k<l.length+1:=hk
 rw [arrL_get _ (by simp;omega)]
 unfold upd
 split
 ·next e=>subst e;simp
 ·next e=>
  show(arrL l)[k]! = _
  rw [arrL_get _ (by omega),List.getElem_append_left (by omega)]
theorem itL_one(p:Int × Int):[Value.int .i64 p.1,.int .i64 p.2]=itL [p]:=by
 have e:itL []=[]:=List.length_eq_zero_iff.1 (by rw [itL_len];rfl)
 have:=itL_snoc [] p
 rw [List.nil_append,e] at this
 exact this
theorem sameNil(hη:OneCells η)(hmix:Try.prog.follows .mixedOrders=true)(H:AH):CallSpec η Try.prog B 14 [.slice none 0 0,.slice none 0 0] H (KT.ret (.bool true) H).sat:=by
 refine CallSpec.bare hη gs9 (N:=126) (fun _ _=>.cons (.slice0 _ _) (.cons (.slice0 _ _) .nil)) (fun _ _=>.bool _) (fun _ _=>.bool _) ?_ H
 have k:isTrue (callA Try.prog 100000 20 14 [.slice none 0 0,.slice none 0 0] (heapN 126))=true:=by kernel_rfl
 obtain⟨h',hc⟩:=isTrue_ok k
 exact(CallSpec.eval hη hmix hc).mono fun v1 h1 hh=>hh.1
theorem sameL_any(hη:OneCells η)(hmix:Try.prog.follows .mixedOrders=true){H:AH}{l:LI}{c1 c2 r1 r2:Nat}(h1:H.objs.get r1=some (.cells 52 (itL l) false 2))(h2:H.objs.get r2=some (.cells 52 (itL l) false 2))(hd:r1 ≠ r2)(hl:l.length≤1000000) :
  CallSpec η Try.prog B 14 [.slice (some ⟨r1,0,none⟩) l.length c1,.slice (some ⟨r2,0,none⟩) l.length c2] H (KT.ret (.bool true) H).sat:=by
 rw [itL_its] at h1 h2
 have k:=same_any (B:=B) (n:=l.length) (m:=l.length) (c1:=c1) (c2:=c2) hη hmix h1 h2 hd (by rw [arrL_size];exact Nat.le_refl _) (by rw [arrL_size];exact Nat.le_refl _) hl
 rw [sameC_self] at k
 exact k
theorem sameI_any(hη:OneCells η)(hmix:Try.prog.follows .mixedOrders=true){H:AH}{g:G}{n c1 c2 r1 r2:Nat}(h1:H.objs.get r1=some (.cells 52 (its g n) false 2))(h2:H.objs.get r2=some (.cells 52 (its g n) false 2))(hd:r1 ≠ r2)(hl:n≤1000000) :
  CallSpec η Try.prog B 14 [.slice (some ⟨r1,0,none⟩) n c1,.slice (some ⟨r2,0,none⟩) n c2] H (KT.ret (.bool true) H).sat:=by
 have k:=same_any (B:=B) (n:=n) (m:=n) (c1:=c1) (c2:=c2) hη hmix h1 h2 hd (Nat.le_refl _) (Nat.le_refl _) hl
 rw [sameC_self] at k
 exact k
/- items but one -/
def fl(g:G)(h:Int)(i:Nat):LI:=(lst g i).filter fun p=>p.1 != h
theorem fl_no{g:G}{h:Int}{i:Nat}(e:(g i).1=h):fl g h (i+1)=fl g h i:=by
 unfold fl;rw [lst_succ,List.filter_append];simp [e]
theorem fl_yes{g:G}{h:Int}{i:Nat}(e:(g i).1 ≠ h):fl g h (i+1)=fl g h i ++ [g i]:=by
 unfold fl;rw [lst_succ,List.filter_append];simp [e]
theorem fl_len(g:G)(h:Int)(i:Nat):(fl g h i).length≤i:=by
 have:=List.length_filter_le (fun p=>p.1 != h) (lst g i)
 rw [lst_len] at this
 exact this
theorem fl_upd{g:G}{h u:Int}{p:Nat}(e:(g p).1=h):∀ i,fl (upd g p ((g p).1,u)) h i=fl g h i
 | 0=>rfl
 | i+1=>by
  have ih:=fl_upd (u:=u) e i
  by_cases q:(g i).1=h
  ·rw [fl_no q,fl_no (by rw [upd_fst];exact q),ih]
  ·rw [fl_yes q,fl_yes (by rw [upd_fst];exact q),ih]
   have:i ≠ p:=fun e'=>q (by rw [e'];exact e)
   unfold upd;rw [if_neg this]
/- the same items in order -/
theorem gV_perm{f n:Nat}{g g':G}(hp:(lst g n).Perm (lst g' n))(hd:dist (lst g n)):its (gV f n g) n=its (gV f n g') n:=by
 have e:srtL f (lst g n)=srtL f (lst g' n):=srt_uniq (f:=f) ((srtL_perm f _).trans (hp.trans (srtL_perm f _).symm)) (dist_perm (srtL_perm f _).symm hd) (srtL_srt f _) (srtL_srt f _)
 refine its_congr fun k hk=>?_
 unfold gV;rw [e]
theorem fl_srt{f n:Nat}{g g':G}{h:Int}(hp:(fl g h n).Perm (fl g' h n))(hd:dist (lst g n)):fl (gV f n g) h n=fl (gV f n g') h n:=by
 unfold fl
 rw [gV_lst,gV_lst]
 refine srt_uniq (f:=f) (((srtL_perm f _).filter _).trans (hp.trans ((srtL_perm f _).filter _).symm)) ?_ ?_ ?_
 ·exact List.Pairwise.sublist List.filter_sublist (dist_perm (srtL_perm f _).symm hd)
 ·exact List.Pairwise.sublist List.filter_sublist (srtL_srt f _)
 ·exact List.Pairwise.sublist List.filter_sublist (srtL_srt f _)
theorem Plc.dist{n:Nat}{g:G}{E:List MapEntry}(h:Plc n g E):dist (lst g n):=dist_lst h.dis
theorem mkG_all(f:Nat)(src:Nat→Int):∀ i j,j<i→(((j+1:Nat):Int),src j) ∈ lst (mkG f src i) i
 | 0,j,h=>by omega
 | i+1,j,h=>by
  refine(push_lst f i (mkG f src i) ((i+1:Nat):Int) (src i)).symm.mem_iff.1 ?_
  by_cases e:j=i
  ·subst e;exact List.mem_cons_self
  ·exact List.mem_cons_of_mem _ (mkG_all f src i j (by omega))
set_option maxRecDepth 20000 in
set_option maxHeartbeats 8000000 in
theorem hand_fin(hη:OneCells η)(hmix:Try.prog.follows .mixedOrders=true)(b:Int){ty o n cap:Nat}{c:List Value}{ya yb h:Int}{ga gb:G}(hb:c.all bareV=true)(hn:n≤1000)(hSV:svC (ordN b) n (mdS (ordN b) c o n).c=its gb n)(hab:fl ga h n=fl gb h n) :
  RunD η Try.prog B 4 (KHand.H0 b ty o c n cap ya yb) [13,16,17,18,19,20] (KHand.S7 b ty o c n cap ya yb h n (its ga n) 0 fun _=>undef) (QF Try.prog 127 fun v _=>v = .bool true):=by
 have nn:NoNames c:=nn_bare hb
 have awake:=fun (H:AH)=>awake_ok (B:=B) hη hmix H
 have wr1:∀ i:Nat,i≤1000000→IntKind.i64.wrap ((i:Int)+1)=((i+1:Nat):Int):=fun i hi=>by rw [wrap_small (by omega) (by omega)];omega
 generalize hD:(QF Try.prog 127 fun v _=>v = .bool true)=D
 have cut7:=fun i0=>KHand.cut7 (η:=η) (B:=B) (D:=fun v _=>v = .bool true) hη hmix (reg0 hη hmix) b ty o c n cap ya yb h n (its ga n) i0
 have cut9:=fun i0 n0 l1=>KHand.cut9 (η:=η) (B:=B) (D:=fun v _=>v = .bool true) hη hmix (reg0 hη hmix) b ty o c n cap ya yb h n (its ga n) i0 n0 l1
 have cut10:=fun i0 i2 n0 i3 l1=>KHand.cut10 (η:=η) (B:=B) (D:=fun v _=>v = .bool true) hη hmix (reg0 hη hmix) b ty o c n cap ya yb h n (its ga n) i0 i2 n0 i3 l1
 have cut8:=fun i0 i2 n0 i3 n2 l1 l2=>KHand.cut8 (η:=η) (B:=B) (D:=fun v _=>v = .bool true) hη hmix (reg0 hη hmix) b ty o c n cap ya yb h n (its ga n) i0 i2 n0 i3 n2 l1 l2
 simp only [hD] at cut7 cut8 cut9 cut10
 simp only [W.holds,eq_self,true_and,and_true,true_implies,decide_eq_true_eq,decide_eq_false_iff_not,Nat.mul_one,Nat.zero_add,Nat.add_zero,hSV,bne_iff_ne,ne_eq,bne_eq_false_iff_eq,beq_iff_eq,beq_eq_false_iff_ne] at cut7 cut8 cut9 cut10
 have la:=its_len ga n
 have lb:=its_len gb n
 have all:∀ (d i:Nat),n - i=d→i≤n→
   (fl ga h i=[]→fl gb h i=[]→RunD η Try.prog B 4 (KHand.H0 b ty o c n cap ya yb) [13,16,17,18,19,20] (KHand.S7 b ty o c n cap ya yb h n (its ga n) (i:Int) fun _=>undef) D)∧
   (fl ga h i ≠ []→fl gb h i=[]→RunD η Try.prog B 4 (KHand.H0 b ty o c n cap ya yb) [13,16,17,18,19,20] (KHand.S9 b ty o c n cap ya yb h n (its ga n) (i:Int) (fl ga h i).length (itL (fl ga h i)) fun _=>undef) D)∧
   (fl ga h i=[]→fl gb h i ≠ []→RunD η Try.prog B 4 (KHand.H0 b ty o c n cap ya yb) [13,16,17,18,19,20] (KHand.S10 b ty o c n cap ya yb h n (its ga n) default default (fl gb h i).length (i:Int) (itL (fl gb h i)) fun _=>undef) D)∧
   (fl ga h i ≠ []→fl gb h i ≠ []→RunD η Try.prog B 4 (KHand.H0 b ty o c n cap ya yb) [13,16,17,18,19,20] (KHand.S8 b ty o c n cap ya yb h n (its ga n) default default (fl gb h i).length (i:Int) (fl ga h i).length (itL (fl gb h i)) (itL (fl ga h i)) fun _=>undef) D):=by
  intro d
  induction d with
  | zero=>
   intro i hd hi
   have:i=n:=by omega
   subst this
   have hle:=fl_len gb h i
   refine⟨fun e1 e2=>?_,fun e1 e2=>absurd (hab.trans e2) e1,fun e1 e2=>absurd (hab.symm.trans e1) e2,fun e1 e2=>?_⟩
   ·refine cut7 _ ⟨fun q=>by omega,fun _=>?_⟩
    exact⟨⟨sameNil hη hmix _,awake _,nn,fun _=>trivial⟩,fun q=>absurd trivial q⟩
   ·rw [hab]
    have c1:=cut8 default default (fl gb h i).length (i:Int) (fl gb h i).length (itL (fl gb h i)) (itL (fl gb h i))
    simp only [sameC_self] at c1
    refine c1 ⟨fun q=>by omega,fun _=>?_⟩
    exact⟨⟨sameL_any hη hmix (by kernel_rfl) (by kernel_rfl) (by decide) (by omega),fun _=>⟨awake _,nn,fun _=>trivial⟩,fun q=>by simp at q⟩,fun q=>absurd trivial q⟩
  | succ d ih=>
   intro i hd hi
   have hin:i<n:=by omega
   have next:=ih (i+1) (by omega) hin
   have hla:=fl_len ga h i
   have hlb:=fl_len gb h i
   obtain⟨a1,a2⟩:=its_int (g:=ga) (m:=n) (k:=i) hin
   obtain⟨b1,b2⟩:=its_int (g:=gb) (m:=n) (k:=i) hin
   have ac:=its_cut (g:=ga) (m:=n) (k:=i) hin
   have bc:=its_cut (g:=gb) (m:=n) (k:=i) hin
   obtain⟨ag,_⟩:=its_get ga (m:=n) (k:=i) hin
   obtain⟨bg,_⟩:=its_get gb (m:=n) (k:=i) hin
   have lka:=itL_len (fl ga h i)
   have lkb:=itL_len (fl gb h i)
   have w1:=wr1 i (by omega)
   have nna:=its_nn ga n
   have nnb:=its_nn gb n
   have nnka:=itL_nn (fl ga h i)
   have nnkb:=itL_nn (fl gb h i)
   have c7:=cut7 (i:Int)
   have c9:=cut9 (i:Int) (fl ga h i).length (itL (fl ga h i))
   have c10:=cut10 default default (fl gb h i).length (i:Int) (itL (fl gb h i))
   have c8:=cut8 default default (fl gb h i).length (i:Int) (fl ga h i).length (itL (fl gb h i)) (itL (fl ga h i))
   simp only [Int.toNat_natCast,a1,a2,b1,b2,ac,bc,ag,bg,w1,itL_snoc,itL_one] at c7
   simp only [Int.toNat_natCast,a1,a2,b1,b2,ac,bc,ag,bg,w1,itL_snoc] at c8 c9 c10
   simp only [itL_one] at c9 c10
   clear cut7 cut8 cut9 cut10
   have hin':(i:Int)<(n:Int):=by omega
   have hr:(0:Int)≤(i:Int)∧(i:Int)<(n:Int):=by omega
   have ra:i * 2+2≤(its ga n).length:=by omega
   have rb:i * 2+2≤(its gb n).length:=by omega
   have ta:2≤2∧(itL (fl ga h i)).length=(fl ga h i).length * 2∧(fl ga h i).length+1≤1000000:=⟨Nat.le_refl _,lka,by omega⟩
   have tb:2≤2∧(itL (fl gb h i)).length=(fl gb h i).length * 2∧(fl gb h i).length+1≤1000000:=⟨Nat.le_refl _,lkb,by omega⟩
   have nx:∀ l,NoNames (itL l):=itL_nn
   clear ih hSV hab hD lka lkb w1 a1 a2 b1 b2 ac bc ag bg la lb hla hlb
   by_cases ha:(ga i).1=h <;> by_cases hb:(gb i).1=h
   all_goals
    first
    | rw [fl_no ha,fl_no hb] at next
    | rw [fl_no ha,fl_yes hb] at next
    | rw [fl_yes ha,fl_no hb] at next
    | rw [fl_yes ha,fl_yes hb] at next
    simp only [ha,hb,hin',hr,ra,rb,ta,tb,nn,nna,nnb,nx,not_true_eq_false,not_false_eq_true,true_implies,false_implies,and_true,true_and,and_self] at c7 c8 c9 c10
    refine⟨fun e1 e2=>?_,fun e1 e2=>?_,fun e1 e2=>?_,fun e1 e2=>?_⟩
    all_goals
     simp only [e1,e2,List.nil_append,List.length_append,List.length_cons,List.length_nil,Nat.zero_add,ne_eq,List.append_eq_nil_iff,List.cons_ne_nil,reduceCtorEq,and_false,not_false_eq_true,not_true_eq_false,true_implies,false_implies,and_true,true_and] at next
     first | exact c7 next | exact c8 next | exact c9 next | exact c10 next
 exact(all n 0 rfl (Nat.zero_le _)).1 rfl rfl
structure Good (f n:Nat) (gM:G) (s:QS) (g:G) (k:Nat):Prop where
 c:s.c=its g k
 le:n≤k
 plc:Plc n g s.E
 perm:(lst g n).Perm (lst gM n)
theorem Good.sv{f n k:Nat}{gM g:G}{s:QS}(w:Good f n gM s g k):svC f n s.c=its (gV f n gM) n:=by
 rw [w.c,svC_gV w.le];exact gV_perm w.perm w.plc.dist
theorem lst_upd_self{g:G}{p:Nat}:upd g p ((g p).1,(g p).2)=g:=by
 funext i;unfold upd;split
 ·next e=>subst e;rfl
 ·rfl
theorem wrap_in{n:Int}(h0:-9223372036854775808≤n)(h1:n<9223372036854775808):IntKind.i64.wrap n=n:=by
 have e1:(2:Int) ^ IntKind.i64.bits=18446744073709551616:=by decide
 have e2:(2:Int) ^ (IntKind.i64.bits - 1)=9223372036854775808:=by decide
 have e3:IntKind.i64.signed=true:=rfl
 unfold IntKind.wrap
 simp only [e1,e2,e3,if_true,Bool.true_and,decide_eq_true_eq]
 split <;> omega
theorem idx_ok{n:Nat}{y:Int}(h0:0<n)(hn:n≤1000)(h1:-9223372036854775808≤y)(h2:y≤9223372036854775807):∃ j,j<n∧IntKind.i64.wrap (1+(if(IntKind.i64.wrap (0 - IntKind.i64.wrap (y+1)) > y) then IntKind.i64.wrap (0 - IntKind.i64.wrap (y+1)) else y).tmod (n:Int))=((j+1:Nat):Int):=by
 have key:∀ m:Int,0≤m→∃ j,j<n∧IntKind.i64.wrap (1+m.tmod (n:Int))=((j+1:Nat):Int):=fun m hm=>by
  have e:m.tmod (n:Int)=m % (n:Int):=Int.tmod_eq_emod_of_nonneg hm
  have l1:=Int.emod_nonneg m (show(n:Int) ≠ 0 by omega)
  have l2:=Int.emod_lt_of_pos m (show(0:Int)<(n:Int) by omega)
  refine⟨(m % (n:Int)).toNat,by omega,?_⟩
  rw [e,wrap_small (by omega) (by omega)]
  omega
 refine key _ ?_
 by_cases c:y=9223372036854775807
 ·subst c
  have e1:IntKind.i64.wrap (9223372036854775807+1)=-9223372036854775808:=by decide
  rw [e1]
  have e2:IntKind.i64.wrap (0 - -9223372036854775808)=-9223372036854775808:=by decide
  rw [e2]
  decide
 ·rw [wrap_in (n:=y+1) (by omega) (by omega),wrap_in (n:=0 - (y+1)) (by omega) (by omega)]
  split <;> omega
end HQ
end Go.Ev

/- The law of handles. -/
namespace Go.Ev
open Go Go.Proofs Go.RowKit
variable {η:Nat→Value} {B:Bd}
namespace HQ
set_option maxRecDepth 20000 in
set_option maxHeartbeats 4000000 in
theorem hand_set(hη:OneCells η)(hmix:Try.prog.follows .mixedOrders=true)(b:Int){ty o n cap k p:Nat}{c:List Value}{ya yb i0 x:Int}{gM g:G}{s:QS}(hb:c.all bareV=true)(h0:0<n)(hn:n≤1000)(hSV:svC (ordN b) n (mdS (ordN b) c o n).c=its (gV (ordN b) n gM) n)(w:Good (ordN b) n gM s g k)(hp:p<n) :
  RunD η Try.prog B 4 (KHand.H0 b ty o c n cap ya yb) [5,7,8,13] (KHand.S6 b ty o c n cap ya yb i0 (g p).1 x n s.E s.ck s.c fun _=>undef) (QF Try.prog 127 fun v _=>v = .bool true):=by
 have nn:NoNames c:=nn_bare hb
 have hord:=ordN_is b
 obtain⟨z1,z2⟩:=set_G (f:=ordN b) w.c w.le hp ya
 have zP:=set_P (f:=ordN b) w.c w.le hp ya w.plc
 have hpl:=plN_at w.plc hp
 have hs1:svC (ordN b) n (s.setv (ordN b) n p ya).c=its (gV (ordN b) n (setG (ordN b) n g p ya)) n:=by rw [z1];exact svC_gV w.le
 have hf:=hand_fin (B:=B) hη hmix b (ty:=ty) (o:=o) (cap:=cap) (ya:=ya) (yb:=yb) (h:=(g p).1) (ga:=gV (ordN b) n (setG (ordN b) n g p ya)) hb hn hSV (by
  refine fl_srt ?_ zP.dist
  have e1:(fl (setG (ordN b) n g p ya) (g p).1 n).Perm (fl (upd g p ((g p).1,ya)) (g p).1 n):=(set_lst hp ya).filter _
  rw [fl_upd rfl] at e1
  exact e1.trans (w.perm.filter _))
 have cut:=KHand.cut6 (η:=η) (B:=B) (D:=fun v _=>v = .bool true) hη hmix (reg0 hη hmix) b ty o c n cap ya yb i0 (g p).1 x n s.E s.ck s.c
 generalize hD:(QF Try.prog 127 fun v _=>v = .bool true)=D at hf cut
 refine cut ?_
 simp only [W.holds,eq_self,true_and,and_true,true_implies,qeta,hpl,hs1,hSV]
 refine⟨?_,?_,⟨nn,its_nn _ _,its_nn _ _⟩,fun _=>hf⟩
 ·have k:=fun (H:AH) hA=>set_any (B:=B) (H:=H) (q:=127) (v:=130) (r:=132) (m:=133) (f:=ordN b) (x:=x) (n:=n) (k:=k) (s:=s) (g:=g) hη hmix hA hord w.c w.plc w.le hp (by omega) ya
  exact(k _ ⟨by kernel_rfl,by kernel_rfl,by kernel_rfl,by kernel_rfl,by decide⟩).conv (by kernel_rfl)
 ·have k:=fun (H:AH) hA=>walk_any (B:=B) (H:=H) (q:=127) (v:=130) (r:=132) (m:=133) (f:=ordN b) (x:=x) (n:=n) (k:=k) (s:=s.setv (ordN b) n p ya) hη hmix hA hord z1 zP.int w.le h0 (by omega)
  rw [hs1] at k
  exact(k _ ⟨by kernel_rfl,by kernel_rfl,by kernel_rfl,by kernel_rfl,by decide⟩).conv (by kernel_rfl)
set_option maxRecDepth 20000 in
set_option maxHeartbeats 4000000 in
theorem hand_get(hη:OneCells η)(hmix:Try.prog.follows .mixedOrders=true)(b:Int){ty o n cap k p j:Nat}{c:List Value}{ya yb i0 x:Int}{gM g:G}{s:QS}(hc:∀ j,j<n→c[o+j]? = some (.int .i64 (intAt c (o+j))))(hb:c.all bareV=true)(h0:0<n)(hn:n≤1000)(hSV:svC (ordN b) n (mdS (ordN b) c o n).c=its (gV (ordN b) n gM) n)(w:Good (ordN b) n gM s g k)(hp:p<n)(hj:j<n)(e1:(g p).1=((j+1:Nat):Int))(e2:(g p).2=intAt c (o+j)) :
  RunD η Try.prog B 4 (KHand.H0 b ty o c n cap ya yb) [1,5,7,8,13] (KHand.S4 b ty o c n cap ya yb i0 x s.ck n s.c s.E (g p).1 fun _=>undef) (QF Try.prog 127 fun v _=>v = .bool true):=by
 have nn:NoNames c:=nn_bare hb
 have hord:=ordN_is b
 have hpl:=plN_at w.plc hp
 obtain⟨v1,v2⟩:=its_int (g:=g) (m:=k) (k:=p) (by have:=w.le;omega)
 rw [← w.c] at v1 v2
 obtain⟨z1,z2⟩:=set_G (f:=ordN b) w.c w.le hp (g p).2
 have zP:=set_P (f:=ordN b) w.c w.le hp (g p).2 w.plc
 have zp:(lst (setG (ordN b) n g p (g p).2) n).Perm (lst g n):=by
  have:=set_lst (f:=ordN b) (g:=g) hp (g p).2
  rw [lst_upd_self] at this
  exact this
 have w2:Good (ordN b) n gM (s.setv (ordN b) n p (g p).2) (setG (ordN b) n g p (g p).2) k:=⟨z1,w.le,zP,zp.trans w.perm⟩
 obtain⟨p2,hp2,ep2⟩:=lst_mem.1 (zp.symm.mem_iff.1 (lst_mem.2 ⟨p,hp,rfl⟩))
 have hs:=hand_set (B:=B) hη hmix b (ty:=ty) (o:=o) (cap:=cap) (ya:=ya) (yb:=yb) (i0:=i0) (x:=x) (p:=p2) hb h0 hn hSV w2 hp2
 rw [ep2] at hs
 have sv1:=w2.sv
 have w1:IntKind.i64.wrap ((g p).1 - 1)=(j:Int):=by rw [e1,wrap_small (by omega) (by omega)];omega
 have cut4:=KHand.cut4 (η:=η) (B:=B) (D:=fun v _=>v = .bool true) hη hmix (reg0 hη hmix) b ty o c n cap ya yb i0 x s.ck n s.c s.E (g p).1
 have cut5:=KHand.cut5 (η:=η) (B:=B) (D:=fun v _=>v = .bool true) hη hmix (reg0 hη hmix) b ty o c n cap ya yb i0 (g p).1 x s.ck n s.c s.E (g p).2
 generalize hD:(QF Try.prog 127 fun v _=>v = .bool true)=D at hs cut4 cut5
 simp only [W.holds,eq_self,true_and,and_true,true_implies,qeta,hpl,v2] at cut4
 simp only [W.holds,eq_self,true_and,and_true,true_implies,qeta,hpl,w1,Int.toNat_natCast,Nat.mul_one,e2.symm,sv1,hSV,sameC_self,bne_self_eq_false,Bool.not_true,Bool.false_eq_true,false_implies,consM] at cut5
 have hcj:=hc j hj
 rw [← e2] at hcj
 refine cut4 ⟨?_,cut5 ⟨⟨by omega,by omega⟩,fun _=>⟨hcj,fun _=>⟨?_,?_,fun q=>absurd q (by decide),fun _=>⟨?_,⟨fun q=>absurd q (by decide),fun q=>absurd q (by decide)⟩,fun _=>⟨⟨nn,its_nn _ _,by rw [z1];exact its_nn _ _,nn_int zP.int⟩,fun _=>hs⟩⟩⟩⟩⟩⟩
 ·have k:=fun (H:AH) hA=>get_any (B:=B) (H:=H) (q:=127) (v:=130) (r:=132) (m:=133) (f:=ordN b) (x:=x) (n:=n) (k:=k) (s:=s) (g:=g) hη hmix hA w.c w.plc w.le hp
  exact(k _ ⟨by kernel_rfl,by kernel_rfl,by kernel_rfl,by kernel_rfl,by decide⟩).conv (by kernel_rfl)
 ·have k:=fun (H:AH) hA=>set_any (B:=B) (H:=H) (q:=127) (v:=130) (r:=132) (m:=133) (f:=ordN b) (x:=x) (n:=n) (k:=k) (s:=s) (g:=g) hη hmix hA hord w.c w.plc w.le hp (by omega) (g p).2
  exact(k _ ⟨by kernel_rfl,by kernel_rfl,by kernel_rfl,by kernel_rfl,by decide⟩).conv (by kernel_rfl)
 ·have k:=fun (H:AH) hA=>save_any (B:=B) (H:=H) (q:=127) (v:=130) (r:=132) (m:=133) (f:=ordN b) (x:=x) (n:=n) (k:=k) (s:=s.setv (ordN b) n p (g p).2) hη hmix hA hord z1 zP.int w.le h0 (by omega)
  rw [sv1] at k
  exact(k _ ⟨by kernel_rfl,by kernel_rfl,by kernel_rfl,by kernel_rfl,by decide⟩).conv (by kernel_rfl)
 ·exact sameI_any (g:=gV (ordN b) n gM) hη hmix (by kernel_rfl) (by kernel_rfl) (by decide) (by omega)
set_option maxRecDepth 20000 in
set_option maxHeartbeats 4000000 in
theorem hand_3(hη:OneCells η)(hmix:Try.prog.follows .mixedOrders=true)(b:Int){ty o n cap k:Nat}{c:List Value}{ya yb i0 x:Int}{gM g:G}{s:QS}(hc:∀ j,j<n→c[o+j]? = some (.int .i64 (intAt c (o+j))))(hb:c.all bareV=true)(h0:0<n)(hn:n≤1000)(hSV:svC (ordN b) n (mdS (ordN b) c o n).c=its (gV (ordN b) n gM) n)(w:Good (ordN b) n gM s g k)(hM:∀ j,j<n→(((j+1:Nat):Int),intAt c (o+j)) ∈ lst gM n)(h1:-9223372036854775808≤yb)(h2:yb≤9223372036854775807) :
  RunD η Try.prog B 4 (KHand.H0 b ty o c n cap ya yb) [1,5,7,8] (KHand.S3 b ty o c n cap ya yb i0 x s.ck n s.c s.E fun _=>undef) (QF Try.prog 127 fun v _=>v = .bool true):=by
 obtain⟨j,hj,ej⟩:=idx_ok h0 hn h1 h2
 obtain⟨p,hp,ep⟩:=lst_mem.1 (w.perm.symm.mem_iff.1 (hM j hj))
 have hs:=hand_get (B:=B) hη hmix b (ty:=ty) (o:=o) (cap:=cap) (ya:=ya) (yb:=yb) (i0:=i0) (x:=x) (j:=j) hc hb h0 hn hSV w hp hj (by rw [ep]) (by rw [ep])
 rw [ep] at hs
 refine KHand.cut3 (η:=η) (B:=B) (D:=fun v _=>v = .bool true) hη hmix (reg0 hη hmix) b ty o c n cap ya yb i0 x s.ck n s.c s.E ?_
 generalize hD:(QF Try.prog 127 fun v _=>v = .bool true)=D at hs
 simp only [W.holds,eq_self,if_true,decide_eq_true_eq,ej,ne_eq]
 exact⟨by omega,fun _=>hs⟩
set_option maxRecDepth 20000 in
set_option maxHeartbeats 8000000 in
theorem hand_can(hη:OneCells η)(hmix:Try.prog.follows .mixedOrders=true)(b:Int){ty o n cap:Nat}{c:List Value}{ya yb:Int}(hc:∀ j,j<n→c[o+j]? = some (.int .i64 (intAt c (o+j))))(hb:c.all bareV=true)(h0:0<n)(h1:-9223372036854775808≤yb)(h2:yb≤9223372036854775807) :
  CallSpec η Try.prog B 4 [.int .u8 b,.slice (some ⟨126,o,none⟩) n cap,.agg ⟨[.int .i64 ya,.int .i64 yb]⟩] (heapT [(ty,c)]) fun v _=>v = .bool true:=by
 have nn:NoNames c:=nn_bare hb
 have hord:=ordN_is b
 have awake:=fun (H:AH)=>awake_ok (B:=B) hη hmix H
 obtain⟨m1,m2⟩:=mkS_form (ordN b) (fun j=>intAt c (o+j)) n
 have hmI:=mkG_inv (ordN b) (fun j=>intAt c (o+j)) n
 have hmP:=mkS_plc (ordN b) (fun j=>intAt c (o+j)) n
 have hM:=mkG_all (ordN b) (fun j=>intAt c (o+j)) n
 rw [← mdS_eq] at m1 m2 hmP
 generalize mkG (ordN b) (fun j=>intAt c (o+j)) n=gM at m1 hmI hmP hM
 have w0:Good (ordN b) n gM (mdS (ordN b) c o n) gM n:=⟨m1,Nat.le_refl n,hmP,List.Perm.refl _⟩
 have hSV:=w0.sv
 have wr1:∀ i:Nat,i≤1000000→IntKind.i64.wrap ((i:Int)+1)=((i+1:Nat):Int):=fun i hi=>by rw [wrap_small (by omega) (by omega)];omega
 have nnS:=its_nn (gV (ordN b) n gM) n
 refine KHand.enter hη hmix (reg0 hη hmix) _ _ _ _ _ _ _ _ ?_
 simp only [W.holds,eq_self,true_and,and_true,true_implies,decide_eq_true_eq,decide_eq_false_iff_not,hSV]
 refine⟨fun _=>⟨awake _,nn,fun _=>trivial⟩,fun q=>⟨?_,?_,?_,fun _=>?_⟩⟩
 ·exact(made_any (B:=B) hη hmix b (ty:=ty) (c:=c) (r:=126) (by kernel_rfl) hc hb h0 (by omega)).conv (by kernel_rfl)
 ·have k:=fun (H:AH) hA=>save_any (B:=B) (H:=H) (q:=128) (v:=129) (r:=130) (m:=131) (f:=ordN b) (x:=((n+1:Nat):Int)) (n:=n) (k:=n) (s:=mdS (ordN b) c o n) hη hmix hA hord m1 m2 (Nat.le_refl n) h0 (by omega)
  rw [hSV] at k
  exact(k _ ⟨by kernel_rfl,by kernel_rfl,by kernel_rfl,by kernel_rfl,by decide⟩).conv (by kernel_rfl)
 ·exact⟨nn,nnS,by rw [m1];exact its_nn _ _,nn_int m2⟩
 have hn:n≤100:=by omega
 have loop:∀ (d a:Nat) (s:QS) (g:G) (k:Nat),3 - a=d→a≤3→Good (ordN b) n gM s g k→
   RunD η Try.prog B 4 (KHand.H0 b ty o c n cap ya yb) [1,5,7,8,9] (KHand.S0 b ty o c n cap ya yb ((n+1:Nat):Int) (a:Int) s.E s.ck s.c ((n+1+a:Nat):Int) n fun _=>undef) (QF Try.prog 127 fun v _=>v = .bool true):=by
  intro d
  induction d with
  | zero=>
   intro a s g k hd ha w
   have h3:=hand_3 (B:=B) hη hmix b (ty:=ty) (o:=o) (cap:=cap) (ya:=ya) (yb:=yb) (i0:=((n+1:Nat):Int)) (x:=((n+1+a:Nat):Int)) hc hb h0 (by omega) hSV w hM h1 h2
   have cut:=KHand.cut0 (η:=η) (B:=B) (D:=fun v _=>v = .bool true) hη hmix (reg0 hη hmix) b ty o c n cap ya yb ((n+1:Nat):Int) (a:Int) s.E s.ck s.c ((n+1+a:Nat):Int) n
   generalize (QF Try.prog 127 fun v _=>v = .bool true)=D at h3 cut ⊢
   refine cut ?_
   simp only [W.holds,eq_self,true_and,and_true,true_implies,decide_eq_true_eq,decide_eq_false_iff_not,beq_iff_eq,beq_eq_false_iff_ne,ne_eq]
   exact⟨fun q=>by omega,fun _=>⟨fun q=>by omega,fun _=>h3⟩⟩
  | succ d ih=>
   intro a s g k hd ha w
   obtain⟨y1,y2⟩:=pushT_form (f:=ordN b) (x:=((n+1+a:Nat):Int)) w.c w.plc.int w.le ya
   have yP:=pushT_P (f:=ordN b) (x:=((n+1+a:Nat):Int)) (y:=ya) w.c w.le w.plc fun k hk e=>by
    obtain⟨i,hi,ei⟩:=lst_mem.1 (w.perm.mem_iff.1 (lst_mem.2 ⟨k,hk,rfl⟩))
    obtain⟨j,hj,ej⟩:=hmI.src i hi
    rw [← ei,ej] at e
    simp only at e
    omega
   have ypm:=push_lst (ordN b) n g ((n+1+a:Nat):Int) ya
   generalize hs1:s.pushT (ordN b) n ((n+1+a:Nat):Int) ya=s1 at y1 y2 yP
   generalize pushG (ordN b) n g ((n+1+a:Nat):Int) ya=g1 at y1 yP ypm
   obtain⟨p,hp,ep⟩:=lst_mem.1 (ypm.symm.mem_iff.1 List.mem_cons_self)
   have e1:(g1 p).1=((n+1+a:Nat):Int):=by rw [ep]
   have e2:(g1 p).2=ya:=by rw [ep]
   have hpl:=plN_at yP hp
   rw [e1] at hpl
   obtain⟨r1,r2⟩:=rem_G (f:=ordN b) y1 y2 (Nat.le_refl (n+1)) hp
   have rP:=rem_P (f:=ordN b) y1 (Nat.le_refl (n+1)) hp yP
   have rpm:=rem_lst (f:=ordN b) (g:=g1) hp
   have hrv:intAt (s1.rem1 (ordN b) (n+1) p).c (n * 2+1)=ya:=by
    have l:=rem1_last (f:=ordN b) (g:=g1) hp
    rw [Nat.add_sub_cancel] at l
    rw [(rem1_G (f:=ordN b) y1 (Nat.le_refl (n+1)) hp).1,(its_int (k:=n) (by omega)).2,l,e2]
   have w2:Good (ordN b) n gM (s1.rem (ordN b) (n+1) p) (remG (ordN b) (n+1) g1 p) (n+1):=⟨r1,Nat.le_succ n,rP,by
    rw [ep] at rpm
    exact((rpm.trans ypm).cons_inv).trans w.perm⟩
   have next:=ih (a+1) _ _ _ (by omega) (by omega) w2
   have sv2:=w2.sv
   generalize hs2:s1.rem (ordN b) (n+1) p=s2 at r1 r2 w2 next sv2
   have wx:IntKind.i64.wrap (((n+1+a:Nat):Int)+1)=((n+1+(a+1):Nat):Int):=by rw [wrap_small (by omega) (by omega)];omega
   have wy:IntKind.i64.wrap (((n+1:Nat):Int)+(a:Int))=((n+1+a:Nat):Int):=by rw [wrap_small (by omega) (by omega)];omega
   have cut0:=KHand.cut0 (η:=η) (B:=B) (D:=fun v _=>v = .bool true) hη hmix (reg0 hη hmix) b ty o c n cap ya yb ((n+1:Nat):Int) (a:Int) s.E s.ck s.c ((n+1+a:Nat):Int) n
   have cut1:=KHand.cut1 (η:=η) (B:=B) (D:=fun v _=>v = .bool true) hη hmix (reg0 hη hmix) b ty o c n cap ya yb ((n+1+a:Nat):Int) s1.E s1.ck s1.c ((n+1+(a+1):Nat):Int) (n+1) (a:Int) ((n+1:Nat):Int)
   have cut2:=KHand.cut2 (η:=η) (B:=B) (D:=fun v _=>v = .bool true) hη hmix (reg0 hη hmix) b ty o c n cap ya yb ((n+1:Nat):Int) ((n+1+(a+1):Nat):Int) ya s2.E s2.ck s2.c n (a:Int)
   generalize (QF Try.prog 127 fun v _=>v = .bool true)=D at next cut0 cut1 cut2 ⊢
   simp only [W.holds,eq_self,true_and,and_true,true_implies,decide_eq_true_eq,decide_eq_false_iff_not,qeta,hs1,wx,wy,bne_self_eq_false,Bool.false_eq_true,false_implies,hSV] at cut0
   simp only [W.holds,eq_self,true_and,and_true,true_implies,qeta,hpl,hrv,hs2,hSV,Nat.add_sub_cancel] at cut1
   simp only [W.holds,eq_self,true_and,and_true,true_implies,qeta,sv2,hSV,sameC_self,wr1 a (by omega),bne_self_eq_false,Bool.not_true,Bool.false_eq_true,false_implies] at cut2
   refine cut0 ⟨fun _=>⟨?_,⟨nn,nnS,by rw [y1];exact its_nn _ _,nn_int y2⟩,fun _=>cut1 ⟨?_,cut2 ⟨?_,?_,⟨fun q=>absurd (show(13:Nat)=14 from q) (by decide),trivial⟩,fun _=>⟨⟨nn,nnS,by rw [r1];exact its_nn _ _,nn_int r2⟩,fun _=>next⟩⟩⟩⟩,fun q=>by omega⟩
   ·have k:=fun (H:AH) hA=>pushT_any (B:=B) (H:=H) (q:=127) (v:=130) (r:=132) (m:=133) (f:=ordN b) (x:=((n+1+a:Nat):Int)) (n:=n) (k:=k) (s:=s) (g:=g) hη hmix wx hA hord w.c w.plc.int w.le (by omega) (by omega) ya
    rw [hs1] at k
    exact(k _ ⟨by kernel_rfl,by kernel_rfl,by kernel_rfl,by kernel_rfl,by decide⟩).conv (by kernel_rfl)
   ·have k:=fun (H:AH) hA=>rem_any (B:=B) (H:=H) (q:=127) (v:=130) (r:=132) (m:=133) (f:=ordN b) (x:=((n+1+(a+1):Nat):Int)) (n:=n+1) (k:=n+1) (s:=s1) (g:=g1) hη hmix hA hord y1 yP (Nat.le_refl _) hp (by omega)
    rw [e1,e2,hs2] at k
    exact(k _ ⟨by kernel_rfl,by kernel_rfl,by kernel_rfl,by kernel_rfl,by decide⟩).conv (by kernel_rfl)
   ·have k:=fun (H:AH) hA=>save_any (B:=B) (H:=H) (q:=127) (v:=130) (r:=132) (m:=133) (f:=ordN b) (x:=((n+1+(a+1):Nat):Int)) (n:=n) (k:=n+1) (s:=s2) hη hmix hA hord r1 r2 (Nat.le_succ n) h0 (by omega)
    rw [sv2] at k
    exact(k _ ⟨by kernel_rfl,by kernel_rfl,by kernel_rfl,by kernel_rfl,by decide⟩).conv (by kernel_rfl)
   ·exact sameI_any (g:=gV (ordN b) n gM) hη hmix (by kernel_rfl) (by kernel_rfl) (by decide) (by omega)
 exact loop 3 0 _ gM n rfl (by omega) w0
end HQ
end Go.Ev

