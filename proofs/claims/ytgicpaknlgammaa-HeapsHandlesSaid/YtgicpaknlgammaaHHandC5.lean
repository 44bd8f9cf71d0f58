/- HHandC, part 5: what the proof needs, in the order of its texts. -/
import Derived.Test.YtgicpaknlgammaaHHandC4
import Derived.Test.YtgicpaknlgammaaProg
import Derived.KernelRfl
import Derived.Sort.Defs
import Derived.Sort.LotD4
import Derived.Sort.LotA
import Derived.Sort.Row
set_option linter.unusedVariables false
set_option linter.unusedSimpArgs false
namespace Go.Ev
open Go Go.Proofs
open Go.Ev.T renaming node → nN, nil → nZ
open Go.Proofs.Try (prog)
set_option maxRecDepth 100000
set_option maxHeartbeats 2000000
namespace KPush
noncomputable def bd:Code:=(Go.Proofs.Try.f17.body).getD .skip
noncomputable def H0(f:Nat)(x:Int)(n:Nat)(s:HQ.QS)(y:Int):AH:={ objs:=eE (eE (eE (eE (eE (eE (eE (lL (AObj.cells 74 [Value.func (Fn.func f) ⟨[]⟩ ⟨[]⟩,iI x,sS 128 0 n u2,Value.map (some 129)] true 2)) nZ) nZ) nZ) nZ) nZ) (eE (eE (eE (eE (eE (lL (AObj.map s.E s.ck true)) nZ) nZ) nZ) nZ) nZ)) (eE (eE (eE (eE (eE (eE (lL (AObj.cells 52 s.c false 2)) nZ) nZ) nZ) nZ) nZ) (eE nZ (eE nZ (eE nZ (eE nZ (lL (AObj.cells 78 [pP 126 0,pP 127 0] true 2))))))),next:=130 }
noncomputable def E(f:Nat)(x:Int)(n:Nat)(s:HQ.QS)(y:Int):AS:=⟨⟨17,50,nS (pP 126 0) (lL (iI y)) nZ,[Item.code (codeAt bd [])],[],FrameMode.run,CallKind.normal,none⟩,[],H0 f x n s y⟩
theorem enter{η:Nat→Value}{B:Bd}(hη:OneCells η)(hmix:prog.follows .mixedOrders=true)(hreg:RegOk η prog B noNest){D:Value→AH→Prop}(f:Nat)(x:Int)(n:Nat)(s:HQ.QS)(y:Int)(h:let q8:=(mFind (TypeDesc.int IntKind.i64) (Value.int IntKind.i64 x) s.E);let q7:W:=(.done 17 (Value.tuple ⟨[Value.int IntKind.i64 0,Value.int IntKind.i64 5]⟩) (H0 f x n s y));let q6:T AObj:=(eE (eE (eE (lL (AObj.cells 52 [iI x,iI y] true 2)) nZ) nZ) nZ);let q5:T AObj:=(eE (eE nZ (eE (eE (lL (AObj.cells 52 [iI x,iI y] true 2)) nZ) nZ)) nZ);let q4:T AObj:=(eE nZ (eE nZ (eE nZ (lL (AObj.cells 78 [pP 126 0,pP 127 0] true 2)))));let q3:T AObj:=(eE (eE (eE (eE (eE (lL (AObj.cells 74 [Value.func (Fn.func f) ⟨[]⟩ ⟨[]⟩,iI (IntKind.i64.wrap (x+1)),sS 154 0 (n+1) u2,Value.map (some 129)] true 2)) nZ) nZ) nZ) nZ) nZ);let q2:=(HQ.QS.up f ((IntKind.i64.wrap ((↑(n+(1:Nat)):Int) - (1:Int))).toNat+(1:Nat)) (HQ.QS.mk (cut0 s.c (0:Nat) (n * (2:Nat)) ++ [Value.int IntKind.i64 x,Value.int IntKind.i64 y]) (mPut (Value.int IntKind.i64 x) (Value.int IntKind.i64 (↑n:Int)) s.ck s.E q8) (mClock s.ck q8)) (IntKind.i64.wrap ((↑(n+(1:Nat)):Int) - (1:Int))).toNat);let q1:T AObj:=(eE (eE (lL (AObj.cells 52 (HQ.QS.up f ((IntKind.i64.wrap ((↑(n+1):Int) - 1)).toNat+1) (HQ.QS.mk (cut0 s.c 0 (n * 2) ++ [iI x,iI y]) (mPut (iI x) (iI (↑n:Int)) s.ck s.E q8) (mClock s.ck q8)) (IntKind.i64.wrap ((↑(n+1):Int) - 1)).toNat).c false 2)) nZ) nZ);let q0:T AObj:=(eE (eE (eE (eE (lL (AObj.map (HQ.QS.up f ((IntKind.i64.wrap ((↑(n+1):Int) - 1)).toNat+1) (HQ.QS.mk (cut0 s.c 0 (n * 2) ++ [iI x,iI y]) (mPut (iI x) (iI (↑n:Int)) s.ck s.E q8) (mClock s.ck q8)) (IntKind.i64.wrap ((↑(n+1):Int) - 1)).toNat).E (HQ.QS.up f ((IntKind.i64.wrap ((↑(n+1):Int) - 1)).toNat+1) (HQ.QS.mk (cut0 s.c 0 (n * 2) ++ [iI x,iI y]) (mPut (iI x) (iI (↑n:Int)) s.ck s.E q8) (mClock s.ck q8)) (IntKind.i64.wrap ((↑(n+1):Int) - 1)).toNat).ck true)) nZ) nZ) nZ) nZ);W.holds η prog B 17 (fun kp_ st_=>RunD η prog B 17 (H0 f x n s y) kp_ st_ (QF prog 130 D)) D (.ite ((↑n:Int) == (5000:Int)) q7 (.ite (x == (1000000000000000:Int)) q7 (.need (Instr.findNow (TypeDesc.int IntKind.i64) (Value.int IntKind.i64 x) s.E (0:Nat)=some q8) (.need ((2:Nat)≤(2:Nat)∧s.c.length=n * (2:Nat)∧n+(1:Nat)≤(1000000:Nat)∧(2:Nat)=(2:Nat)∧true=true) (.call 65 [Value.iface 69 (Value.pointer (some ⟨127,0,none⟩)),Value.int IntKind.i64 (IntKind.i64.wrap ((↑(n+1):Int) - 1))] (⟨eE (eE q3 (eE (eE (eE (eE (eE (lL (AObj.map (mPut (iI x) (iI (↑n:Int)) s.ck s.E q8) (mClock s.ck q8) true)) nZ) nZ) nZ) nZ) q5)) (eE (eE (eE (eE (eE (eE (eE nZ nZ) nZ) nZ) nZ) nZ) nZ) (eE (eE q6 (eE nZ (eE (eE (lL (AObj.cells 52 (cut0 s.c 0 (n * 2) ++ [iI x,iI y]) false 2)) nZ) nZ))) q4)),155⟩) (.ret (undef) (⟨eE (eE q3 (eE q0 q5)) (eE (eE (eE (eE (eE (eE (eE nZ nZ) nZ) nZ) nZ) nZ) nZ) (eE (eE q6 (eE nZ q1)) q4)),155⟩)) (.need (True∧True∧NoNamesE q2.E∧NoNames q2.c∧True) (.done 17 (Value.tuple ⟨[Value.int IntKind.i64 x,Value.int IntKind.i64 0]⟩) (⟨eE (eE (eE (eE (eE (eE (eE (lL (AObj.cells 74 [Value.func (Fn.func f) ⟨[]⟩ ⟨[]⟩,iI (IntKind.i64.wrap (x+1)),sS 130 0 (n+1) u2,Value.map (some 129)] true 2)) nZ) nZ) nZ) nZ) nZ) (eE q0 nZ)) (eE nZ (eE (eE (eE q1 nZ) nZ) q4)),131⟩))))))))):CallSpec η prog B 17 [Value.pointer (some ⟨126,0,none⟩),Value.int IntKind.i64 y] (H0 f x n s y) D:=by
 refine CallSpec.ofQF hη (CallSpec.enter (fr:=(E f x n s y).fr) (by kernel_rfl) ?_)
 exact walk_okT (h0:=H0 f x n s y) hη hmix hreg (.steps 100 <| .bit 12 (.steps 17 <| .done none) (.steps 10 <| .bit 21 (.steps 7 <| .done none) (.steps 52 <| .reg <| .steps 11 <| .op <| .reg <| .reg <| .steps 7 <| .op <| .steps 3 <| .reg <| .steps 23 <| .call kN <| .steps 11 <| .done (some ⟨131,[(154,130)],[(126,(126,false)),(127,(127,false)),(129,(129,true)),(130,(154,true))]⟩)))) (E f x n s y) (by kernel_rfl) h (by kernel_rfl)
end KPush
namespace KPush0
noncomputable def bd:Code:=(Go.Proofs.Try.f17.body).getD .skip
noncomputable def H0(f:Nat)(x:Int)(y:Int):AH:={ objs:=eE (eE (eE (eE (eE (eE (eE (lL (AObj.cells 74 [Value.func (Fn.func f) ⟨[]⟩ ⟨[]⟩,iI x,Value.slice none 0 0,Value.map (some 128)] true 2)) nZ) nZ) nZ) nZ) nZ) nZ) (eE (eE (eE (eE (eE (eE (lL (AObj.map [] 0 true)) nZ) nZ) nZ) nZ) nZ) (eE nZ (eE nZ (eE nZ (eE nZ (lL (AObj.cells 78 [pP 126 0,pP 127 0] true 2))))))),next:=129 }
noncomputable def E(f:Nat)(x:Int)(y:Int):AS:=⟨⟨17,50,nS (pP 126 0) (lL (iI y)) nZ,[Item.code (codeAt bd [])],[],FrameMode.run,CallKind.normal,none⟩,[],H0 f x y⟩
theorem enter{η:Nat→Value}{B:Bd}(hη:OneCells η)(hmix:prog.follows .mixedOrders=true)(hreg:RegOk η prog B noNest){D:Value→AH→Prop}(f:Nat)(x:Int)(y:Int)(h:let q0:AH:=⟨eE (eE (eE (eE (eE (eE (eE (lL (AObj.cells 74 [Value.func (Fn.func f) ⟨[]⟩ ⟨[]⟩,iI (IntKind.i64.wrap (x+1)),sS 153 0 1 u2,Value.map (some 128)] true 2)) nZ) nZ) nZ) nZ) nZ) (eE (eE (eE (eE (eE (lL (AObj.cells 52 [iI x,iI y] true 2)) nZ) nZ) nZ) (eE nZ (eE (eE (lL (AObj.cells 52 [iI x,iI y] false 2)) nZ) nZ))) nZ)) (eE (eE (eE (eE (eE (eE (lL (AObj.map [{ key:=iI x,val:=iI 0,born:=0 }] 1 true)) nZ) nZ) nZ) nZ) (eE (eE nZ (eE (eE (lL (AObj.cells 52 [iI x,iI y] true 2)) nZ) nZ)) nZ)) (eE nZ (eE nZ (eE nZ (eE nZ (lL (AObj.cells 78 [pP 126 0,pP 127 0] true 2))))))),154⟩;W.holds η prog B 17 (fun kp_ st_=>RunD η prog B 17 (H0 f x y) kp_ st_ (QF prog 129 D)) D (.ite (x == (1000000000000000:Int)) (.done 17 (Value.tuple ⟨[Value.int IntKind.i64 0,Value.int IntKind.i64 5]⟩) (H0 f x y)) (.call 65 [Value.iface 69 (Value.pointer (some ⟨127,0,none⟩)),Value.int IntKind.i64 0] (q0) (.ret (undef) (q0)) (.need (True∧True∧True∧True∧True) (.done 17 (Value.tuple ⟨[Value.int IntKind.i64 x,Value.int IntKind.i64 0]⟩) (⟨eE (eE (eE (eE (eE (eE (eE (lL (AObj.cells 74 [Value.func (Fn.func f) ⟨[]⟩ ⟨[]⟩,iI (IntKind.i64.wrap (x+1)),sS 129 0 1 u2,Value.map (some 128)] true 2)) nZ) nZ) nZ) nZ) nZ) (eE (eE (eE (eE (eE (lL (AObj.cells 52 [iI x,iI y] false 2)) nZ) nZ) nZ) nZ) nZ)) (eE (eE (eE (eE (eE (eE (lL (AObj.map [{ key:=iI x,val:=iI 0,born:=0 }] 1 true)) nZ) nZ) nZ) nZ) nZ) (eE nZ (eE nZ (eE nZ (eE nZ (lL (AObj.cells 78 [pP 126 0,pP 127 0] true 2))))))),130⟩)))))):CallSpec η prog B 17 [Value.pointer (some ⟨126,0,none⟩),Value.int IntKind.i64 y] (H0 f x y) D:=by
 refine CallSpec.ofQF hη (CallSpec.enter (fr:=(E f x y).fr) (by kernel_rfl) ?_)
 exact walk_okT (h0:=H0 f x y) hη hmix hreg (.steps 110 <| .bit 21 (.steps 7 <| .done none) (.steps 77 <| .call kN <| .steps 11 <| .done (some ⟨130,[(153,129)],[(126,(126,false)),(127,(127,false)),(128,(128,false)),(129,(153,false))]⟩))) (E f x y) (by kernel_rfl) h (by kernel_rfl)
end KPush0
end Go.Ev

/- Contracts of queues: Push, Pop. -/
namespace Go.Ev
open Go Go.Proofs Go.RowKit
variable {η:Nat→Value} {B:Bd}
namespace HQ
theorem bare_int{E:List MapEntry}(h:intE E){σ:Nat→Nat}{N:Nat}{w:Bool}:L2 (RE σ N w) E E:=by
 induction E with
 | nil=>exact .nil
 | cons e E ih=>
  obtain⟨k,x,h1,h2⟩:=h e (by simp)
  exact .cons ⟨by rw [h1];exact .int _ _,by rw [h2];exact .int _ _,rfl⟩ (ih fun e' he=>h e' (by simp [he]))
def objV(f:Nat)(x:Int)(r n cap m:Nat):AObj:=.cells 74 [.func (.func f) #[] #[],.int .i64 x,.slice (some ⟨r,0,none⟩) n cap,.map (some m)] true 2
theorem ro_V{f:Nat}{x:Int}{r n cap m:Nat}{σ:Nat→Nat}{N:Nat}{w:Bool}(hr:r<N)(hm:m<N):RO σ N w (objV f x r n cap m) (objV f x (σ r) n cap (σ m)):=
 .cells _ _ (.cons (rv_fn f) (.cons (.int _ _) (.cons (.slice _ _ hr) (.cons (.map hm) .nil)))) (.inl rfl)
theorem any_ok(hη:OneCells η){F:FuncId}{A A':List Value}{w:Value}{f:Nat}{x:Int}{n cap:Nat}{s s':QS}{g g':G}{k k':Nat}{v r m:Nat}{H:AH}(hv:H.objs.get v=some (objV f x r n cap m))(hr:H.objs.get r=some (.cells 52 s.c false 2))(hm:H.objs.get m=some (.map s.E s.ck true))(hd:v ≠ r∧v ≠ m∧r ≠ m)
  (hs:s.c=its g k) (hE:intE s.E) (hs':s'.c=its g' k') (hE':intE s'.E) (ha:L2 (RV (sigR (rnQ v r m)) 129 true) A A') (hw:∀ σ N,RV σ N false w w)
  (c:CallSpec η Try.prog B F A (heapV f (.int .i64 x) n cap s) (KT.ret w (heapV f (.int .i64 x) n cap s')).sat):CallSpec η Try.prog B F A' H (KT.ret w (withQ H (objV f x r n cap m) v r m s')).sat:=by
 have b1:s.c.all bareV=true:=by rw [hs];exact its_bare g k
 have b2:s'.c.all bareV=true:=by rw [hs'];exact its_bare g' k'
 refine CallSpec.move hη gs9 (rn:=rnQ v r m) (l:=[objV f x 127 n cap 128,.cells 52 s.c false 2,.map s.E s.ck true]) (l':=[objV f x r n cap m,.cells 52 s.c false 2,.map s.E s.ck true])
  (l2:=[some (objV f x 127 n cap 128),some (.cells 52 s'.c false 2),some (.map s'.E s'.ck true)]) (l2':=[some (objV f x r n cap m),some (.cells 52 s'.c false 2),some (.map s'.E s'.ck true)]) ⟨fun i a hi=>?_,?_,fun i j hi hj e=>?_⟩ (Nat.le_refl _) ha (hw _ _) ?_ ?_
 ·match i,hi with
  | 0,hi=>simp at hi;subst hi;exact hv
  | 1,hi=>simp at hi;subst hi;exact hr
  | 2,hi=>simp at hi;subst hi;exact hm
  | i+3,hi=>simp at hi
 ·exact .cons (ro_V (show 127<129 by decide) (show 128<129 by decide)) (.cons (.cells _ _ (l2_bareV b1) (.inl rfl)) (.cons (.map _ (bare_int hE) (.inl rfl)) .nil))
 ·simp only [List.length_cons,List.length_nil] at hi hj
  match i,j,hi,hj,e with
  | 0,0,_,_,_=>rfl
  | 1,1,_,_,_=>rfl
  | 2,2,_,_,_=>rfl
  | 0,1,_,_,e=>exact absurd e hd.1
  | 0,2,_,_,e=>exact absurd e hd.2.1
  | 1,0,_,_,e=>exact absurd e.symm hd.1
  | 1,2,_,_,e=>exact absurd e hd.2.2
  | 2,0,_,_,e=>exact absurd e.symm hd.2.1
  | 2,1,_,_,e=>exact absurd e.symm hd.2.2
 ·exact .cons (.some (ro_V (show 127<129 by decide) (show 128<129 by decide))) (.cons (.some (.cells _ _ (l2_bareV b2) (.inl rfl))) (.cons (.some (.map _ (bare_int hE') (.inl rfl))) .nil))
 ·exact c.mono fun v1 h1 ⟨e1,e2⟩=>⟨e1,by rw [e2];rfl,by rw [e2];exact⟨rfl,rfl,rfl,trivial⟩⟩
theorem wr_n{n:Nat}(h:n≤1000000):IntKind.i64.wrap (((n+1:Nat):Int) - 1)=(n:Int):=by
 rw [wrap_small (by omega) (by omega)];omega
theorem wr_p{n:Nat}(h:n≤1000000)(h0:0<n):IntKind.i64.wrap ((n:Int) - 1)=((n - 1:Nat):Int):=by
 rw [wrap_small (by omega) (by omega)];omega
def objQ(q v:Nat):AObj:=.cells 78 [.pointer (some ⟨q,0,none⟩),.pointer (some ⟨v,0,none⟩)] true 2
theorem its_snoc{g:G}{n:Nat}(x y:Int):its g n ++ [.int .i64 x,.int .i64 y]=its (upd g n (x,y)) (n+1):=by
 show _=its (upd g n (x,y)) n ++ [.int .i64 (upd g n (x,y) n).1,.int .i64 (upd g n (x,y) n).2]
 rw [its_congr (g:=upd g n (x,y)) (g':=g) fun k hk=>if_neg (by omega)]
 show _=its g n ++ [.int .i64 (if n=n then(x,y) else g n).1,.int .i64 (if n=n then(x,y) else g n).2]
 rw [if_pos rfl]
set_option maxRecDepth 20000 in
theorem push_home(hη:OneCells η)(hmix:Try.prog.follows .mixedOrders=true){f:Nat}{x:Int}{n:Nat}{s:QS}{g:G}(hf:isOrd f)(hs:s.c=its g n)(hE:intE s.E)(hn:n<5000)(hx:x ≠ 1000000000000000)(y:Int) :
  CallSpec η Try.prog B 17 [.pointer (some ⟨126,0,none⟩),.int .i64 y] (heapK f x n s) fun v h=>v=tupL [.int .i64 x,.int .i64 0]∧h.next=131∧hasQ h.objs [some (objQ 126 127),some (objV f (IntKind.i64.wrap (x+1)) 130 (n+1) (capU 2) 129),none,some (.map (s.push f n x y).E (s.push f n x y).ck true),some (.cells 52 (s.push f n x y).c false 2)] 126:=by
 have hl:=its_len g n
 obtain⟨c,E,ck⟩:=s
 simp only at hs hE
 subst hs
 have hc:(QS.place ⟨its g n ++ [.int .i64 x,.int .i64 y],E,ck⟩ x n).c=its (upd g n (x,y)) (n+1):=its_snoc x y
 have hp:intE (QS.place ⟨its g n ++ [.int .i64 x,.int .i64 y],E,ck⟩ x n).E:=QS.place_int hE
 obtain⟨u1,u2⟩:=up_G (f:=f) (k:=n+1) hc (Nat.lt_succ_self n)
 have nnc:NoNames ((QS.place ⟨its g n ++ [.int .i64 x,.int .i64 y],E,ck⟩ x n).up f (n+1) n).c:=by rw [u1];exact its_nn _ _
 have up:=up_ok (B:=B) (x:=IntKind.i64.wrap (x+1)) (cap:=capU 2) hη hmix hf hc hp (Nat.le_refl _) (Nat.lt_succ_self n) (by omega)
 refine KPush.enter hη hmix (reg0 hη hmix) _ _ _ _ _ ?_
 simp only [W.holds,wr_n (n:=n) (by omega),Int.toNat_natCast,true_and,and_true,true_implies,Nat.le_refl]
 refine⟨fun q=>by simp at q;omega,fun _=>⟨fun q=>absurd (by simpa using q) hx,fun _=>⟨find_fE hE,fun _=>⟨⟨hl,by omega⟩,fun _=>⟨?_,⟨nn_int (u2 hp),nnc⟩,fun _=>?_⟩⟩⟩⟩⟩
 rotate_left
 ·exact⟨rfl,by kernel_rfl,by kernel_rfl,by kernel_rfl,by kernel_rfl,trivial⟩
 exact(any_ok hη (v:=127) (r:=154) (m:=129) (by kernel_rfl) (by kernel_rfl) (by kernel_rfl) ⟨by decide,by decide,by decide⟩ hc hp u1 (u2 hp) (.cons (.iface _ (.ptr (by decide))) (.cons (.int _ _) .nil)) (fun _ _=>.tuple rfl (fun i v w h=>by simp at h)) up).conv (by kernel_rfl)
theorem push_home0(hη:OneCells η)(hmix:Try.prog.follows .mixedOrders=true){f:Nat}{x:Int}(hf:isOrd f)(hx:x ≠ 1000000000000000)(y:Int) :
  CallSpec η Try.prog B 17 [.pointer (some ⟨126,0,none⟩),.int .i64 y] (heapK0 f x) fun v h=>v=tupL [.int .i64 x,.int .i64 0]∧h.next=126+4∧hasQ h.objs [some (objQ 126 127),some (objV f (IntKind.i64.wrap (x+1)) 129 1 (capU 2) 128),some (.map [{ key:=.int .i64 x,val:=.int .i64 0,born:=0 }] 1 true),some (.cells 52 [.int .i64 x,.int .i64 y] false 2)] 126:=by
 have hc:(QS.mk [.int .i64 x,.int .i64 y] [{ key:=.int .i64 x,val:=.int .i64 0,born:=0 }] 1).c=its (fun _=>(x,y)) 1:=rfl
 have hp:intE [{ key:=.int .i64 x,val:=.int .i64 0,born:=0 }]:=fun e he=>by
  rw [List.mem_singleton] at he;subst he;exact⟨x,0,rfl,rfl⟩
 have up:=up_ok (B:=B) (x:=IntKind.i64.wrap (x+1)) (cap:=capU 2) (j:=0) hη hmix hf hc hp (Nat.le_refl _) (Nat.lt_succ_self 0) (by omega)
 have hu:(QS.mk [.int .i64 x,.int .i64 y] [{ key:=.int .i64 x,val:=.int .i64 0,born:=0 }] 1).up f (0+1) 0=⟨[.int .i64 x,.int .i64 y],[{ key:=.int .i64 x,val:=.int .i64 0,born:=0 }],1⟩:=if_pos (.inl rfl)
 rw [hu] at up
 refine KPush0.enter hη hmix (reg0 hη hmix) _ _ _ ?_
 simp only [W.holds,true_and,and_true,true_implies]
 refine⟨fun q=>absurd (by simpa using q) hx,fun _=>⟨?_,?_⟩⟩
 rotate_left
 ·exact⟨rfl,by kernel_rfl,by kernel_rfl,by kernel_rfl,by kernel_rfl,trivial⟩
 exact(any_ok hη (v:=127) (r:=153) (m:=128) (by kernel_rfl) (by kernel_rfl) (by kernel_rfl) ⟨by decide,by decide,by decide⟩ hc hp hc hp (.cons (.iface _ (.ptr (by decide))) (.cons (.int _ _) .nil)) (fun _ _=>.tuple rfl (fun i v w h=>by simp at h)) up).conv (by kernel_rfl)
def popG(f n:Nat)(g:G):G:=upd (downG f (n - 1) (n - 1+1) (sw g 0 (n - 1)) 0).1 (n - 1) (0,0)
end HQ
end Go.Ev

/- Contracts of queues, wherever they stand. -/
namespace Go.Ev
open Go Go.Proofs Go.RowKit
variable {η:Nat→Value} {B:Bd}
namespace HQ
theorem ro_Q{q v:Nat}{σ:Nat→Nat}{N:Nat}{w:Bool}(hq:q<N)(hv:v<N):RO σ N w (objQ q v) (objQ (σ q) (σ v)):=.cells _ _ (.cons (.ptr hq) (.cons (.ptr hv) .nil)) (.inl rfl)
structure QAt (H:AH) (q v r m f:Nat) (x:Int) (n:Nat) (s:QS):Prop where
 hq:H.objs.get q=some (objQ q v)
 hv:H.objs.get v=some (objV f x r n (capU 2) m)
 hr:H.objs.get r=some (.cells 52 s.c false 2)
 hm:H.objs.get m=some (.map s.E s.ck true)
 hd:q ≠ v∧q ≠ r∧q ≠ m∧v ≠ r∧v ≠ m∧r ≠ m
theorem tup_rv{σ:Nat→Nat}{N:Nat}{w:Bool}{l:List Value}(h:l.all bareV=true):RV σ N w (tupL l) (tupL l):=.tuple rfl fun i v x h1 h2=>by
 have h1:l[i]? = some v:=h1
 have h2:l[i]? = some x:=h2
 rw [h1] at h2
 injection h2 with h2
 subst h2
 exact rv_bare (List.all_eq_true.1 h v (List.mem_of_getElem? h1))
theorem stands4{H:AH}{q v r m f:Nat}{x:Int}{n:Nat}{s:QS}{g:G}{k:Nat}(a:QAt H q v r m f x n s)(hs:s.c=its g k)(hE:intE s.E) :
  Stands H [objQ 126 127,objV f x 128 n (capU 2) 129,.cells 52 s.c false 2,.map s.E s.ck true] [objQ q v,objV f x r n (capU 2) m,.cells 52 s.c false 2,.map s.E s.ck true] (rnK q v r m):=by
 have b1:s.c.all bareV=true:=by rw [hs];exact its_bare g k
 obtain⟨d1,d2,d3,d4,d5,d6⟩:=a.hd
 refine⟨fun i a' hi=>?_,?_,fun i j hi hj e=>?_⟩
 ·match i,hi with
  | 0,hi=>simp at hi;subst hi;exact a.hq
  | 1,hi=>simp at hi;subst hi;exact a.hv
  | 2,hi=>simp at hi;subst hi;exact a.hr
  | 3,hi=>simp at hi;subst hi;exact a.hm
  | i+4,hi=>simp at hi
 ·exact .cons (ro_Q (show 126<130 by decide) (show 127<130 by decide)) (.cons (ro_V (show 128<130 by decide) (show 129<130 by decide)) (.cons (.cells _ _ (l2_bareV b1) (.inl rfl)) (.cons (.map _ (bare_int hE) (.inl rfl)) .nil)))
 ·simp only [List.length_cons,List.length_nil] at hi hj
  match i,j,hi,hj,e with
  | 0,0,_,_,_=>rfl
  | 1,1,_,_,_=>rfl
  | 2,2,_,_,_=>rfl
  | 3,3,_,_,_=>rfl
  | 0,1,_,_,e=>exact absurd e d1
  | 0,2,_,_,e=>exact absurd e d2
  | 0,3,_,_,e=>exact absurd e d3
  | 1,0,_,_,e=>exact absurd e.symm d1
  | 1,2,_,_,e=>exact absurd e d4
  | 1,3,_,_,e=>exact absurd e d5
  | 2,0,_,_,e=>exact absurd e.symm d2
  | 2,1,_,_,e=>exact absurd e.symm d4
  | 2,3,_,_,e=>exact absurd e d6
  | 3,0,_,_,e=>exact absurd e.symm d3
  | 3,1,_,_,e=>exact absurd e.symm d5
  | 3,2,_,_,e=>exact absurd e.symm d6
theorem push_form{f n:Nat}{s:QS}{g:G}{x:Int}(hs:s.c=its g n)(hE:intE s.E)(y:Int):(s.push f n x y).c=its (upG f (n+1) (upd g n (x,y)) n) (n+1)∧intE (s.push f n x y).E:=by
 have hc:(QS.place ⟨s.c ++ [.int .i64 x,.int .i64 y],s.E,s.ck⟩ x n).c=its (upd g n (x,y)) (n+1):=by
  show s.c ++ [.int .i64 x,.int .i64 y]=_
  rw [hs,its_snoc]
 obtain⟨u1,u2⟩:=up_G (f:=f) (k:=n+1) hc (Nat.lt_succ_self n)
 exact⟨u1,u2 (QS.place_int hE)⟩
theorem push_any(hη:OneCells η)(hmix:Try.prog.follows .mixedOrders=true){H:AH}{q v r m f:Nat}{x:Int}{n:Nat}{s:QS}{g:G}(a:QAt H q v r m f x n s)(hf:isOrd f)(hs:s.c=its g n)(hE:intE s.E)(hn:n<5000)(hx:x ≠ 1000000000000000)(y:Int) :
  CallSpec η Try.prog B 17 [.pointer (some ⟨q,0,none⟩),.int .i64 y] H (KT.ret (tupL [.int .i64 x,.int .i64 0]) ⟨putL (keyQ (rnK q v r m) 4 H.next) [some (objQ q v),some (objV f (IntKind.i64.wrap (x+1)) H.next (n+1) (capU 2) m),none,some (.map (s.push f n x y).E (s.push f n x y).ck true),some (.cells 52 (s.push f n x y).c false 2)] 0 H.objs,H.next+(5 - 4)⟩).sat:=by
 obtain⟨p1,p2⟩:=push_form (f:=f) (x:=x) hs hE y
 have b2:(s.push f n x y).c.all bareV=true:=by rw [p1];exact its_bare _ _
 refine CallSpec.move hη gs9 (l2:=[some (objQ 126 127),some (objV f (IntKind.i64.wrap (x+1)) 130 (n+1) (capU 2) 129),none,some (.map (s.push f n x y).E (s.push f n x y).ck true),some (.cells 52 (s.push f n x y).c false 2)])
  (args:=[.pointer (some ⟨126,0,none⟩),.int .i64 y]) (stands4 a hs hE) (by simp) (.cons (.ptr (show 126<130 by decide)) (.cons (.int _ _) .nil)) (tup_rv rfl) ?_ (push_home hη hmix hf hs hE hn hx y)
 exact .cons (.some (ro_Q (show 126<131 by decide) (show 127<131 by decide))) (.cons (.some (ro_V (r:=130) (m:=129) (show 130<131 by decide) (show 129<131 by decide))) (.cons .none (.cons (.some (.map _ (bare_int p2) (.inl rfl))) (.cons (.some (.cells _ _ (l2_bareV b2) (.inl rfl))) .nil))))
structure QAt0 (H:AH) (q v m f:Nat) (x:Int):Prop where
 hq:H.objs.get q=some (objQ q v)
 hv:H.objs.get v=some (.cells 74 [.func (.func f) #[] #[],.int .i64 x,.slice none 0 0,.map (some m)] true 2)
 hm:H.objs.get m=some (.map [] 0 true)
 hd:q ≠ v∧q ≠ m∧v ≠ m
theorem push_any0(hη:OneCells η)(hmix:Try.prog.follows .mixedOrders=true){H:AH}{q v m f:Nat}{x:Int}(a:QAt0 H q v m f x)(hf:isOrd f)(hx:x ≠ 1000000000000000)(y:Int) :
  CallSpec η Try.prog B 17 [.pointer (some ⟨q,0,none⟩),.int .i64 y] H (KT.ret (tupL [.int .i64 x,.int .i64 0]) ⟨putL (keyQ (rnQ q v m) 3 H.next) [some (objQ q v),some (objV f (IntKind.i64.wrap (x+1)) H.next 1 (capU 2) m),some (.map [{ key:=.int .i64 x,val:=.int .i64 0,born:=0 }] 1 true),some (.cells 52 [.int .i64 x,.int .i64 y] false 2)] 0 H.objs,H.next+(4 - 3)⟩).sat:=by
 obtain⟨d1,d2,d3⟩:=a.hd
 have hp:intE [{ key:=.int .i64 x,val:=.int .i64 0,born:=0 }]:=fun e he=>by
  rw [List.mem_singleton] at he;subst he;exact⟨x,0,rfl,rfl⟩
 have st:Stands H [objQ 126 127,.cells 74 [.func (.func f) #[] #[],.int .i64 x,.slice none 0 0,.map (some 128)] true 2,.map [] 0 true] [objQ q v,.cells 74 [.func (.func f) #[] #[],.int .i64 x,.slice none 0 0,.map (some m)] true 2,.map [] 0 true] (rnQ q v m):=by
  refine⟨fun i a' hi=>?_,?_,fun i j hi hj e=>?_⟩
  ·match i,hi with
   | 0,hi=>simp at hi;subst hi;exact a.hq
   | 1,hi=>simp at hi;subst hi;exact a.hv
   | 2,hi=>simp at hi;subst hi;exact a.hm
   | i+3,hi=>simp at hi
  ·exact .cons (ro_Q (show 126<129 by decide) (show 127<129 by decide)) (.cons (.cells _ _ (.cons (rv_fn f) (.cons (.int _ _) (.cons (.slice0 _ _) (.cons (.map (show 128<129 by decide)) .nil)))) (.inl rfl)) (.cons (.map _ .nil (.inl rfl)) .nil))
  ·simp only [List.length_cons,List.length_nil] at hi hj
   match i,j,hi,hj,e with
   | 0,0,_,_,_=>rfl
   | 1,1,_,_,_=>rfl
   | 2,2,_,_,_=>rfl
   | 0,1,_,_,e=>exact absurd e d1
   | 0,2,_,_,e=>exact absurd e d2
   | 1,0,_,_,e=>exact absurd e.symm d1
   | 1,2,_,_,e=>exact absurd e d3
   | 2,0,_,_,e=>exact absurd e.symm d2
   | 2,1,_,_,e=>exact absurd e.symm d3
 refine CallSpec.move hη gs9 (l2:=[some (objQ 126 127),some (objV f (IntKind.i64.wrap (x+1)) 129 1 (capU 2) 128),some (.map [{ key:=.int .i64 x,val:=.int .i64 0,born:=0 }] 1 true),some (.cells 52 [.int .i64 x,.int .i64 y] false 2)])
  (args:=[.pointer (some ⟨126,0,none⟩),.int .i64 y]) st (by simp) (.cons (.ptr (show 126<129 by decide)) (.cons (.int _ _) .nil)) (tup_rv rfl) ?_ (push_home0 hη hmix hf hx y)
 exact .cons (.some (ro_Q (show 126<130 by decide) (show 127<130 by decide))) (.cons (.some (ro_V (r:=129) (m:=128) (show 129<130 by decide) (show 128<130 by decide))) (.cons (.some (.map _ (bare_int hp) (.inl rfl))) (.cons (.some (.cells _ _ (.cons (.int _ _) (.cons (.int _ _) .nil)) (.inl rfl))) .nil)))
end HQ
end Go.Ev

namespace Go.Ev
open Go Go.Proofs
open Go.Ev.T renaming node → nN, nil → nZ
open Go.Proofs.Try (prog)
set_option maxRecDepth 100000
set_option maxHeartbeats 2000000
namespace KNewT
noncomputable def bd:Code:=(Go.Proofs.Try.f7.body).getD .skip
noncomputable def H0(u:Nat):AH:={ objs:=nZ,next:=126 }
noncomputable def E(u:Nat):AS:=⟨⟨7,12,lL (Value.func (Fn.func 31) ⟨[]⟩ ⟨[]⟩),[Item.code (codeAt bd [])],[],FrameMode.run,CallKind.normal,none⟩,[],H0 u⟩
theorem enter{η:Nat→Value}{B:Bd}(hη:OneCells η)(hmix:prog.follows .mixedOrders=true)(hreg:RegOk η prog B nestE){D:Value→AH→Prop}(u:Nat)(h:W.holds η prog B 7 (fun kp_ st_=>RunD η prog B 7 (H0 u) kp_ st_ (QF prog 126 D)) D (.need (True∧True∧True∧True) (.done 7 (Value.pointer (some ⟨126,0,none⟩)) (⟨eE (eE (eE (eE (eE (eE (eE (lL (AObj.cells 74 [Value.func (Fn.func 31) ⟨[]⟩ ⟨[]⟩,iI 1,Value.slice none 0 0,Value.map (some 128)] true 2)) nZ) nZ) nZ) nZ) nZ) nZ) (eE (eE (eE (eE (eE (eE (lL (AObj.map [] 0 true)) nZ) nZ) nZ) nZ) nZ) (eE nZ (eE nZ (eE nZ (eE nZ (lL (AObj.cells 78 [pP 126 0,pP 127 0] true 2))))))),129⟩)))):CallSpec η prog B 7 [Value.func (Fn.func 31) ⟨[]⟩ ⟨[]⟩] (H0 u) D:=by
 refine CallSpec.ofQF hη (CallSpec.enter (fr:=(E u).fr) (by kernel_rfl) ?_)
 exact walk_okT (h0:=H0 u) hη hmix hreg (.steps 168 <| .done (some ⟨129,[(152,126),(138,127),(140,128)],[(126,(152,false)),(127,(138,false)),(128,(140,false))]⟩)) (E u) (by kernel_rfl) h (by kernel_rfl)
end KNewT
namespace KNewL
noncomputable def bd:Code:=(Go.Proofs.Try.f7.body).getD .skip
noncomputable def H0(u:Nat):AH:={ objs:=nZ,next:=126 }
noncomputable def E(u:Nat):AS:=⟨⟨7,12,lL (Value.func (Fn.func 24) ⟨[]⟩ ⟨[]⟩),[Item.code (codeAt bd [])],[],FrameMode.run,CallKind.normal,none⟩,[],H0 u⟩
theorem enter{η:Nat→Value}{B:Bd}(hη:OneCells η)(hmix:prog.follows .mixedOrders=true)(hreg:RegOk η prog B nestE){D:Value→AH→Prop}(u:Nat)(h:W.holds η prog B 7 (fun kp_ st_=>RunD η prog B 7 (H0 u) kp_ st_ (QF prog 126 D)) D (.need (True∧True∧True∧True) (.done 7 (Value.pointer (some ⟨126,0,none⟩)) (⟨eE (eE (eE (eE (eE (eE (eE (lL (AObj.cells 74 [Value.func (Fn.func 24) ⟨[]⟩ ⟨[]⟩,iI 1,Value.slice none 0 0,Value.map (some 128)] true 2)) nZ) nZ) nZ) nZ) nZ) nZ) (eE (eE (eE (eE (eE (eE (lL (AObj.map [] 0 true)) nZ) nZ) nZ) nZ) nZ) (eE nZ (eE nZ (eE nZ (eE nZ (lL (AObj.cells 78 [pP 126 0,pP 127 0] true 2))))))),129⟩)))):CallSpec η prog B 7 [Value.func (Fn.func 24) ⟨[]⟩ ⟨[]⟩] (H0 u) D:=by
 refine CallSpec.ofQF hη (CallSpec.enter (fr:=(E u).fr) (by kernel_rfl) ?_)
 exact walk_okT (h0:=H0 u) hη hmix hreg (.steps 168 <| .done (some ⟨129,[(152,126),(138,127),(140,128)],[(126,(152,false)),(127,(138,false)),(128,(140,false))]⟩)) (E u) (by kernel_rfl) h (by kernel_rfl)
end KNewL
namespace KOrd
noncomputable def bd:Code:=(Go.Proofs.Try.f8.body).getD .skip
noncomputable def H0(by_:Int):AH:={ objs:=nZ,next:=126 }
noncomputable def E(by_:Int):AS:=⟨⟨8,6,lL (uI by_),[Item.code (codeAt bd [])],[],FrameMode.run,CallKind.normal,none⟩,[],H0 by_⟩
theorem enter{η:Nat→Value}{B:Bd}(hη:OneCells η)(hmix:prog.follows .mixedOrders=true)(hreg:RegOk η prog B noNest){D:Value→AH→Prop}(by_:Int)(h:W.holds η prog B 8 (fun kp_ st_=>RunD η prog B 8 (H0 by_) kp_ st_ (QF prog 126 D)) D (.ite (by_.tmod (2:Int) == (1:Int)) (.done 8 (Value.func (Fn.func 31) ⟨[]⟩ ⟨[]⟩) (H0 by_)) (.done 8 (Value.func (Fn.func 24) ⟨[]⟩ ⟨[]⟩) (H0 by_)))):CallSpec η prog B 8 [Value.int IntKind.u8 by_] (H0 by_) D:=by
 refine CallSpec.ofQF hη (CallSpec.enter (fr:=(E by_).fr) (by kernel_rfl) ?_)
 exact walk_okT (h0:=H0 by_) hη hmix hreg (.steps 11 <| .bit 5 (.steps 6 <| .done none) (.steps 7 <| .done none)) (E by_) (by kernel_rfl) h (by kernel_rfl)
end KOrd
end Go.Ev

/- Contracts of queues: New, Pop of none; order, awake. -/
namespace Go.Ev
open Go Go.Proofs Go.RowKit
variable {η:Nat→Value} {B:Bd}
namespace HQ
theorem regE(hη:OneCells η)(hmix:Try.prog.follows .mixedOrders=true):RegOk η Try.prog B nestE:=regionA_ok hη hmix (nestA_ok hη hmix _ _)
theorem order_T(hη:OneCells η)(hmix:Try.prog.follows .mixedOrders=true){b:Int}(hb:b.tmod 2=1)(h:AH):CallSpec η Try.prog B 8 [.int .u8 b] h (KT.ret (.func (.func 31) #[] #[]) h).sat:=by
 refine CallSpec.bare hη gs9 (fun _ _=>.cons (.int _ _) .nil) (fun _ _=>rv_fn _) (fun _ _=>rv_fn _) ?_ h
 refine KOrd.enter hη hmix (reg0 hη hmix) _ ?_
 simp only [W.holds,true_and,beq_iff_eq,beq_eq_false_iff_ne]
 exact⟨fun _=>trivial,fun q=>absurd hb q⟩
theorem order_L(hη:OneCells η)(hmix:Try.prog.follows .mixedOrders=true){b:Int}(hb:b.tmod 2 ≠ 1)(h:AH):CallSpec η Try.prog B 8 [.int .u8 b] h (KT.ret (.func (.func 24) #[] #[]) h).sat:=by
 refine CallSpec.bare hη gs9 (fun _ _=>.cons (.int _ _) .nil) (fun _ _=>rv_fn _) (fun _ _=>rv_fn _) ?_ h
 refine KOrd.enter hη hmix (reg0 hη hmix) _ ?_
 simp only [W.holds,true_and,beq_iff_eq,beq_eq_false_iff_ne]
 exact⟨fun q=>absurd q hb,fun _=>trivial⟩
theorem new_any(hη:OneCells η)(hmix:Try.prog.follows .mixedOrders=true){f:Nat}(hf:isOrd f)(H:AH) :
  CallSpec η Try.prog B 7 [.func (.func f) #[] #[]] H (KT.ret (.pointer (some ⟨H.next,0,none⟩)) ⟨putL (keyQ (fun _=>0) 0 H.next) [some (objQ H.next (H.next+1)),some (.cells 74 [.func (.func f) #[] #[],.int .i64 1,.slice none 0 0,.map (some (H.next+2))] true 2),some (.map [] 0 true)] 0 H.objs,H.next+(3 - 0)⟩).sat:=by
 refine CallSpec.move hη gs9 (rn:=fun _=>0) (l:=[]) (l':=[]) (args:=[.func (.func f) #[] #[]]) (v:=.pointer (some ⟨126,0,none⟩)) (l2:=[some (objQ 126 127),some (.cells 74 [.func (.func f) #[] #[],.int .i64 1,.slice none 0 0,.map (some 128)] true 2),some (.map [] 0 true)]) ⟨fun i a' hi=>by simp at hi,.nil,fun i j hi _ _=>by simp at hi⟩ (by simp) (.cons (rv_fn f) .nil) (.ptr (show 126<129 by decide)) ?_ ?_
 ·exact .cons (.some (ro_Q (show 126<129 by decide) (show 127<129 by decide))) (.cons (.some (.cells _ _ (.cons (rv_fn f) (.cons (.int _ _) (.cons (.slice0 _ _) (.cons (.map (show 128<129 by decide)) .nil)))) (.inl rfl))) (.cons (.some (.map _ .nil (.inl rfl))) .nil))
 ·rcases hf with rfl | rfl
  ·refine KNewT.enter hη hmix (regE hη hmix) 0 ?_
   simp only [W.holds,true_and,and_true,true_implies]
   exact⟨rfl,by kernel_rfl,by kernel_rfl,by kernel_rfl,trivial⟩
  ·refine KNewL.enter hη hmix (regE hη hmix) 0 ?_
   simp only [W.holds,true_and,and_true,true_implies]
   exact⟨rfl,by kernel_rfl,by kernel_rfl,by kernel_rfl,trivial⟩
set_option maxRecDepth 100000 in
theorem awake_ok(hη:OneCells η)(hmix:Try.prog.follows .mixedOrders=true)(h:AH):CallSpec η Try.prog B 6 [] h (KT.ret (.bool true) h).sat:=by
 refine CallSpec.bare hη gs9 (N:=126) (fun _ _=>.nil) (fun _ _=>.bool _) (fun _ _=>.bool _) ?_ h
 have k:isTrue (callA Try.prog 100000 20 6 [] (heapN 126))=true:=by kernel_rfl
 obtain⟨h',hc⟩:=isTrue_ok k
 exact(CallSpec.eval hη hmix hc).mono fun v1 h1 hh=>hh.1
end HQ
end Go.Ev

/- Queues: what is popped, in its order: plain mathematics; Pop of none. -/
namespace Go.Ev
open Go Go.Proofs Go.RowKit
variable {η:Nat→Value} {B:Bd}
namespace HQ
theorem push_at(hη:OneCells η)(hmix:Try.prog.follows .mixedOrders=true){H:AH}{q v r m f:Nat}{x x':Int}{n:Nat}{s:QS}{g:G}(hx':IntKind.i64.wrap (x+1)=x')(a:QAt H q v r m f x n s)(hf:isOrd f)(hs:s.c=its g n)(hE:intE s.E)(hn:n<5000)(hx:x ≠ 1000000000000000)(y:Int) :
  CallSpec η Try.prog B 17 [.pointer (some ⟨q,0,none⟩),.int .i64 y] H (KT.ret (tupL [.int .i64 x,.int .i64 0]) ⟨putL (keyQ (rnK q v r m) 4 H.next) [some (objQ q v),some (objV f x' H.next (n+1) (capU 2) m),none,some (.map (s.push f n x y).E (s.push f n x y).ck true),some (.cells 52 (s.push f n x y).c false 2)] 0 H.objs,H.next+(5 - 4)⟩).sat:=by
 subst hx';exact push_any hη hmix a hf hs hE hn hx y
/- seen -/
def Src(src:Nat→Int)(n:Nat)(p:Int × Int):Prop:=∃ j:Nat,j<n∧p=(((j+1:Nat):Int),src j)
structure PushInv (f:Nat) (src:Nat→Int) (i:Nat) (g:G):Prop where
 heap:heapG f i g
 dis:distinct i g
 src:∀ k,k<i→Src src i (g k)
theorem PushInv.step{f:Nat}{src:Nat→Int}{i:Nat}{g:G}(h:PushInv f src i g):PushInv f src (i+1) (upG f (i+1) (upd g i (((i+1:Nat):Int),src i)) i):=by
 have u0:∀ k,k<i→upd g i (((i+1:Nat):Int),src i) k=g k:=fun k hk=>if_neg (by omega)
 have u1:upd g i (((i+1:Nat):Int),src i) i=(((i+1:Nat):Int),src i):=if_pos rfl
 have hs:∀ k,k<i+1→Src src (i+1) (upd g i (((i+1:Nat):Int),src i) k):=by
  intro k hk
  by_cases e:k=i
  ·rw [e,u1];exact⟨i,Nat.lt_succ_self i,rfl⟩
  ·rw [u0 k (by omega)]
   obtain⟨j,h1,h2⟩:=h.src k (by omega)
   exact⟨j,by omega,h2⟩
 refine⟨up_heap (by omega) (by omega) (fun a ha hai hne=>?_) (fun a ha hai he h0=>by omega),?_,?_⟩
 ·rw [u0 a (by omega),u0 _ (by omega)];exact h.heap a ha (by omega)
 ·refine up_inv (I:=distinct (i+1)) (fun g a b ha hb hd=>distinct_sw ha hb hd) (Nat.lt_succ_self i) ?_
  intro a b ha hb e
  by_cases ea:a=i
  ·by_cases eb:b=i
   ·omega
   ·rw [ea,u1,u0 b (by omega)] at e
    obtain⟨j,h1,h2⟩:=h.src b (by omega)
    rw [h2] at e
    simp only at e;omega
  ·by_cases eb:b=i
   ·rw [eb,u1,u0 a (by omega)] at e
    obtain⟨j,h1,h2⟩:=h.src a (by omega)
    rw [h2] at e
    simp only at e;omega
   ·rw [u0 a (by omega),u0 b (by omega)] at e
    exact h.dis a b (by omega) (by omega) e
 ·exact up_inv (I:=fun g=>∀ k,k<i+1→Src src (i+1) (g k)) (fun g a b ha hb hd=>all_sw ha hb hd) (Nat.lt_succ_self i) hs
structure PopInv (f:Nat) (src:Nat→Int) (n a:Nat) (g:G) (sb:Nat→Bool) (at_ last:Int):Prop where
 le:a≤n
 heap:heapG f (n - a) g
 dis:distinct (n - a) g
 src:∀ k,k<n - a→Src src n (g k)
 fresh:∀ k,k<n - a→sb ((g k).1 - 1).toNat=false
 last:0<a→∀ k,k<n - a→¬ lt f (g k) (at_,last)∧(g k).1 ≠ at_
theorem PushInv.pop{f:Nat}{src:Nat→Int}{n:Nat}{g:G}(h:PushInv f src n g):PopInv f src n 0 g (fun _=>false) 0 0:=
 ⟨Nat.zero_le _,h.heap,h.dis,h.src,fun _ _=>rfl,fun h=>absurd h (Nat.lt_irrefl 0)⟩
theorem PopInv.step{f:Nat}{src:Nat→Int}{n a:Nat}{g:G}{sb:Nat→Bool}{at_ last:Int}(h:PopInv f src n a g sb at_ last)(ha:a<n) :
  PopInv f src n (a+1) (popG f (n - a) g) (fun k=>if k=((g 0).1 - 1).toNat then true else sb k) (g 0).1 (g 0).2:=by
 have hm:0<n - a:=by omega
 have e1:n - (a+1)=n - a - 1:=by omega
 have hle:=h.le
  -- before the exchanges
 have b0:∀ k,k<n - a - 1→Src src n (sw g 0 (n - a - 1) k)∧sb ((sw g 0 (n - a - 1) k).1 - 1).toNat=false∧(sw g 0 (n - a - 1) k).1 ≠ (g 0).1∧¬ lt f (sw g 0 (n - a - 1) k) (g 0):=by
  intro k hk
  rw [sw_at,if_neg (by omega)]
  by_cases c:k=0
  ·rw [if_pos c]
   exact⟨h.src _ (by omega),h.fresh _ (by omega),fun e=>by have:=h.dis _ _ (by omega) hm e;omega,heap_min h.heap _ (by omega)⟩
  ·rw [if_neg c]
   exact⟨h.src _ (by omega),h.fresh _ (by omega),fun e=>by have:=h.dis _ _ (by omega) hm e;omega,heap_min h.heap _ (by omega)⟩
 have b1:=down_inv (f:=f) (n:=n - a - 1) (k:=n - a - 1+1) (i:=0) (I:=fun g'=>∀ k,k<n - a - 1→Src src n (g' k)∧sb ((g' k).1 - 1).toNat=false∧(g' k).1 ≠ (g 0).1∧¬ lt f (g' k) (g 0)) (fun g' i j hi hj hd=>all_sw (p:=fun p=>Src src n p∧sb (p.1 - 1).toNat=false∧p.1 ≠ (g 0).1∧¬ lt f p (g 0)) hi hj hd) b0
 have d0:distinct (n - a - 1) (sw g 0 (n - a - 1)):=by
  intro x y hx hy e
  exact distinct_sw (n:=n - a) hm (by omega) h.dis x y (by omega) (by omega) e
 have d1:=down_inv (f:=f) (n:=n - a - 1) (k:=n - a - 1+1) (i:=0) (I:=distinct (n - a - 1)) (fun g' i j hi hj hd=>distinct_sw hi hj hd) d0
 have h1:heapG f (n - a - 1) (downG f (n - a - 1) (n - a - 1+1) (sw g 0 (n - a - 1)) 0).1:=by
  refine down_heap (by omega) (fun x hx hxn hp=>?_) (fun x hx hxn hp h0=>absurd h0 (Nat.lt_irrefl 0))
  rw [sw_at,sw_at,if_neg (show ¬ x=n - a - 1 by omega),if_neg (show ¬ x=0 by omega),if_neg (show ¬ (x - 1) / 2=n - a - 1 by omega),if_neg hp]
  exact h.heap x hx (by omega)
 have p0:∀ k,k<n - a - 1→popG f (n - a) g k=(downG f (n - a - 1) (n - a - 1+1) (sw g 0 (n - a - 1)) 0).1 k:=fun k hk=>if_neg (by omega)
 refine⟨by omega,?_,?_,?_,?_,?_⟩
 ·rw [e1]
  intro k hk hkn
  rw [p0 k hkn,p0 _ (by omega)];exact h1 k hk hkn
 ·rw [e1]
  intro x y hx hy e
  rw [p0 x hx,p0 y hy] at e
  exact d1 x y hx hy e
 ·rw [e1]
  intro k hk
  rw [p0 k hk];exact(b1 k hk).1
 ·rw [e1]
  intro k hk
  rw [p0 k hk]
  obtain⟨q1,q2,q3,_⟩:=b1 k hk
  obtain⟨j,j1,j2⟩:=q1
  obtain⟨i,i1,i2⟩:=h.src 0 hm
  rw [if_neg]
  ·exact q2
  ·rw [j2,i2] at q3
   rw [j2,i2]
   simp only at q3 ⊢
   omega
 ·rw [e1]
  intro _ k hk
  rw [p0 k hk]
  exact⟨(b1 k hk).2.2.2,(b1 k hk).2.2.1⟩
end HQ
end Go.Ev

/- Queues: places by handles, and lists of items: plain mathematics. -/
namespace Go.Ev.HQ
open Go Go.Ev
def keyI(e:MapEntry):Int:=match e.key with
 | .int _ a=>a
 | _=>0
def lk(k:Int):List MapEntry→Option (Nat × Value)
 | []=>none
 | e :: E=>if keyI e=k then some (0,e.val) else(lk k E).map fun p=>(p.1+1,p.2)
theorem find_lk{k:Int}:∀ {E:List MapEntry} {i:Nat},intE E→Instr.findNow (.int .i64) (.int .i64 k) E i=some ((lk k E).map fun p=>(p.1+i,p.2))
 | [],i,_=>rfl
 | e :: E,i,h=>by
  obtain⟨a,x,h1,h2⟩:=h e (by simp)
  have hk:keyI e=a:=by unfold keyI;rw [h1]
  unfold Instr.findNow lk
  rw [h1,same_int,hk]
  by_cases q:k=a
  ·subst q;simp
  ·rw [beq_eq_false_iff_ne.2 q,if_neg (fun e=>q e.symm)]
   show Instr.findNow _ _ E (i+1)=_
   rw [find_lk (E:=E) (i:=i+1) fun e' he=>h e' (by simp [he])]
   cases lk k E with
   | none=>rfl
   | some p=>simp only [Option.map_some];rw [show p.1+(i+1)=p.1+1+i by omega]
theorem fE_eq{E:List MapEntry}{k:Int}(h:intE E):fE E k=lk k E:=by
 unfold fE mFind
 rw [find_lk h]
 cases lk k E <;> rfl
def pv(E:List MapEntry)(h:Int):Option Value:=(lk h E).map (·.2)
theorem pv_cons(e:MapEntry)(E:List MapEntry)(h:Int):pv (e :: E) h=if keyI e=h then some e.val else pv E h:=by
 show((if keyI e=h then some (0,e.val) else(lk h E).map fun p=>(p.1+1,p.2)):Option (Nat × Value)).map (·.2)=if keyI e=h then some e.val else(lk h E).map (·.2)
 split
 ·rfl
 ·cases lk h E <;> rfl
theorem pv_mod{k x:Int}:∀ {E:List MapEntry} {i:Nat} {v:Value},lk k E=some (i,v)→∀ h,pv (modEntry (fun e=>{ e with key:=.int .i64 k,val:=.int .i64 x }) E i) h=if h=k then some (.int .i64 x) else pv E h
 | [],i,v,q,h=>by cases q
 | e :: E,i,v,q,h=>by
  unfold lk at q
  by_cases c:keyI e=k
  ·rw [if_pos c] at q
   injection q with q;injection q with q1 q2
   subst q1
   show pv (_ :: E) h=_
   rw [pv_cons,pv_cons]
   show(if k=h then _ else _)=_
   by_cases d:h=k
   ·subst d;rw [if_pos rfl,if_pos rfl]
   ·rw [if_neg (fun e=>d e.symm),if_neg d,if_neg (fun e'=>d (e'.symm.trans c))]
  ·rw [if_neg c] at q
   cases hl:lk k E with
   | none=>rw [hl] at q;cases q
   | some p=>
    rw [hl] at q
    injection q with q;injection q with q1 q2
    subst q1
    show pv (e :: modEntry _ E p.1) h=_
    rw [pv_cons,pv_cons,pv_mod (E:=E) (i:=p.1) (v:=p.2) hl]
    by_cases d:h=k
    ·subst d;rw [if_pos rfl,if_neg c,if_pos rfl]
    ·rw [if_neg d,if_neg d]
theorem pv_app{k:Int}{e':MapEntry}(hk:keyI e'=k):∀ {E:List MapEntry},lk k E=none→∀ h,pv (E ++ [e']) h=if h=k then some e'.val else pv E h
 | [],_,h=>by
  show pv [e'] h=_
  rw [pv_cons,hk]
  by_cases d:h=k
  ·subst d;rw [if_pos rfl]
  ·rw [if_neg (fun e=>d e.symm),if_neg d]
 | e :: E,q,h=>by
  unfold lk at q
  have c:keyI e ≠ k:=fun c=>by rw [if_pos c] at q;cases q
  rw [if_neg c] at q
  have hl:lk k E=none:=by cases hl:lk k E with
   | none=>rfl
   | some p=>rw [hl] at q;cases q
  show pv (e :: (E ++ [e'])) h=_
  rw [pv_cons,pv_cons,pv_app hk hl]
  by_cases d:h=k
  ·subst d;rw [if_pos rfl,if_neg c,if_pos rfl]
  ·rw [if_neg d,if_neg d]
theorem pv_put{k x:Int}{c:Nat}{E:List MapEntry}(hE:intE E)(h:Int):pv (mPut (.int .i64 k) (.int .i64 x) c E (fE E k)) h=if h=k then some (.int .i64 x) else pv E h:=by
 rw [fE_eq hE]
 cases hl:lk k E with
 | none=>exact pv_app (e':={ key:=.int .i64 k,val:=.int .i64 x,born:=c }) rfl hl h
 | some p=>exact pv_mod hl h
theorem pv_del0{k:Int}:∀ {E:List MapEntry} {i:Nat} {v:Value},lk k E=some (i,v)→∀ h,h ≠ k→pv (E.eraseIdx i) h=pv E h
 | [],i,v,q,h,_=>by cases q
 | e :: E,i,v,q,h,hn=>by
  unfold lk at q
  by_cases c:keyI e=k
  ·rw [if_pos c] at q
   injection q with q;injection q with q1 q2
   subst q1
   show pv E h=_
   rw [pv_cons,if_neg (fun e'=>hn (e'.symm.trans c))]
  ·rw [if_neg c] at q
   cases hl:lk k E with
   | none=>rw [hl] at q;cases q
   | some p=>
    rw [hl] at q
    injection q with q;injection q with q1 q2
    subst q1
    show pv (e :: E.eraseIdx p.1) h=_
    rw [pv_cons,pv_cons,pv_del0 (E:=E) (i:=p.1) (v:=p.2) hl h hn]
theorem pv_del{k:Int}{E:List MapEntry}(hE:intE E){h:Int}(hn:h ≠ k):pv (mDel E (fE E k)) h=pv E h:=by
 rw [fE_eq hE]
 cases hl:lk k E with
 | none=>rfl
 | some p=>exact pv_del0 hl h hn
theorem dlt_int{E:List MapEntry}{q:Option (Nat × Value)}(h:intE E):intE (mDel E q):=by
 cases q with
 | none=>exact h
 | some p=>exact fun e he=>h e (List.mem_of_mem_eraseIdx he)
structure Plc (n:Nat) (g:G) (E:List MapEntry):Prop where
 dis:distinct n g
 at_:∀ k,k<n→pv E (g k).1=some (.int .i64 (k:Int))
 int:intE E
theorem Plc.find{n:Nat}{g:G}{E:List MapEntry}(h:Plc n g E){k:Nat}(hk:k<n):∃ i,fE E (g k).1=some (i,.int .i64 (k:Int)):=by
 have:=h.at_ k hk
 rw [fE_eq h.int]
 unfold pv at this
 cases hl:lk (g k).1 E with
 | none=>rw [hl] at this;cases this
 | some p=>
  rw [hl] at this
  injection this with this
  exact⟨p.1,by rw [← this]⟩
theorem Plc.swap{n i j m:Nat}{g:G}{s:QS}(hs:s.c=its g m)(hn:n≤m)(hi:i<n)(hj:j<n)(h:Plc n g s.E):Plc n (sw g i j) (s.swap i j).E:=by
 have hd:=distinct_sw hi hj h.dis
 have e:(s.swap i j).E=((QS.mk (its (sw g i j) m) s.E s.ck).place (sw g i j i).1 i |>.place (sw g i j j).1 j).E:=by
  unfold QS.swap
  simp only [hs,swC_its (g:=g) (m:=m) (i:=i) (j:=j) (by omega) (by omega),(its_int (g:=sw g i j) (m:=m) (k:=i) (by omega)).1,(its_int (g:=sw g i j) (m:=m) (k:=j) (by omega)).1]
 refine⟨hd,fun k hk=>?_,QS.swap_int h.int⟩
 rw [e]
 have h1:intE ((QS.mk (its (sw g i j) m) s.E s.ck).place (sw g i j i).1 i).E:=put_int h.int
 show pv (mPut _ _ _ _ (fE _ _)) _=_
 rw [pv_put h1]
 by_cases a:k=j
 ·subst a;rw [if_pos rfl]
 ·rw [if_neg fun q=>a (hd k j hk hj q)]
  show pv (mPut _ _ _ _ (fE _ _)) _=_
  rw [pv_put h.int]
  by_cases b:k=i
  ·subst b;rw [if_pos rfl]
  ·rw [if_neg fun q=>b (hd k i hk hi q),sw_at,if_neg a,if_neg b]
   exact h.at_ k hk
theorem Plc.up{f n m:Nat}:∀ {k:Nat} {s:QS} {g:G} {j:Nat},s.c=its g m→n≤m→j<n→Plc n g s.E→Plc n (upG f k g j) (s.up f k j).E
 | 0,s,g,j,hs,hn,hj,h=>h
 | k+1,s,g,j,hs,hn,hj,h=>by
  have hp:(j - 1) / 2<n:=by omega
  unfold QS.up upG
  rw [hs,lessC_its (by omega) (by omega)]
  split
  ·exact h
  ·exact Plc.up (s:=s.swap ((j - 1) / 2) j) (g:=sw g ((j - 1) / 2) j) (QS.swap_c hs (by omega) (by omega)) hn hp (h.swap hs hn hp hj)
theorem Plc.down{f n b m:Nat}(hb:b≤n)(hn:n≤m):∀ {k:Nat} {s:QS} {g:G} {i:Nat},s.c=its g m→Plc n g s.E→Plc n (downG f b k g i).1 (QS.down f b k s i).1.E
 | 0,s,g,i,hs,h=>h
 | k+1,s,g,i,hs,h=>by
  unfold QS.down downG
  by_cases q:b≤i * 2+1
  ·rw [if_pos (.inl q),if_pos (.inl q)];exact h
  ·obtain⟨b1,b2⟩:=dnJ_lt (f:=f) (g:=g) (i:=i) (n:=b) (by omega)
   rw [hs,downJ_its (by omega) (by omega),lessC_its (by omega) (by omega)]
   split
   ·exact h
   ·exact Plc.down hb hn (s:=s.swap i (dnJ f g i b)) (g:=sw g i (dnJ f g i b)) (QS.swap_c hs (by omega) (by omega)) (h.swap hs hn (by omega) (by omega))
/- items as lists -/
abbrev LI:=List (Int × Int)
def lst(g:G)(n:Nat):LI:=(List.range n).map g
theorem lst_len(g:G)(n:Nat):(lst g n).length=n:=by unfold lst;simp
theorem lst_get{g:G}{n k:Nat}(h:k<n):(lst g n)[k]? = some (g k):=by
 unfold lst;rw [List.getElem?_map,List.getElem?_range h];rfl
theorem lst_succ(g:G)(n:Nat):lst g (n+1)=lst g n ++ [g n]:=by
 unfold lst;rw [List.range_succ,List.map_append];rfl
theorem lst_congr{g g':G}{n:Nat}(h:∀ k,k<n→g k=g' k):lst g n=lst g' n:=by
 unfold lst
 exact List.map_congr_left fun k hk=>h k (List.mem_range.1 hk)
theorem lst_mem{g:G}{n:Nat}{p:Int × Int}:p ∈ lst g n ↔ ∃ k,k<n∧g k=p:=by
 unfold lst
 rw [List.mem_map]
 exact⟨fun ⟨k,h1,h2⟩=>⟨k,List.mem_range.1 h1,h2⟩,fun ⟨k,h1,h2⟩=>⟨k,List.mem_range.2 h1,h2⟩⟩
theorem lst_sw{g:G}{n i j:Nat}(hi:i<n)(hj:j<n):(lst (sw g i j) n).Perm (lst g n):=by
 have e:lst (sw g i j) n=((List.range n).map fun k=>if k=j then i else if k=i then j else k).map g:=by
  unfold lst
  rw [List.map_map]
  refine List.map_congr_left fun k _=>?_
  rw [sw_at]
  show _=g (if k=j then i else if k=i then j else k)
  split
  ·rfl
  ·split <;> rfl
 rw [e]
 unfold lst
 refine List.Perm.map g ((List.perm_ext_iff_of_nodup ?_ List.nodup_range).2 fun a=>?_)
 ·rw [List.nodup_iff_pairwise_ne,List.pairwise_map]
  refine List.Pairwise.imp ?_ (List.nodup_iff_pairwise_ne.1 (List.nodup_range (n:=n)))
  intro a b hab e
  split at e <;> split at e <;> (try split at e) <;> (try split at e) <;> omega
 ·rw [List.mem_map,List.mem_range]
  constructor
  ·rintro ⟨k,h1,rfl⟩
   have:=List.mem_range.1 h1
   split
   ·exact hi
   ·split <;> omega
  ·intro h
   refine⟨if a=j then i else if a=i then j else a,List.mem_range.2 ?_,?_⟩
   ·split
    ·exact hi
    ·split <;> omega
   ·by_cases a1:a=j
    ·rw [if_pos a1]
     by_cases a2:i=j
     ·rw [if_pos a2];omega
     ·rw [if_neg a2,if_pos rfl];exact a1.symm
    ·rw [if_neg a1]
     by_cases a2:a=i
     ·rw [if_pos a2,if_pos rfl];exact a2.symm
     ·rw [if_neg a2,if_neg a1,if_neg a2]
theorem lst_up{f n:Nat}{k:Nat}{g:G}{j:Nat}(hj:j<n):(lst (upG f k g j) n).Perm (lst g n):=
 up_inv (I:=fun h=>(lst h n).Perm (lst g n)) (fun h i j hi hj q=>(lst_sw hi hj).trans q) hj (List.Perm.refl _)
theorem lst_down{f n b:Nat}(hb:b≤n){k:Nat}{g:G}{i:Nat}:(lst (downG f b k g i).1 n).Perm (lst g n):=
 down_inv (I:=fun h=>(lst h n).Perm (lst g n)) (fun h i j hi hj q=>(lst_sw (by omega) (by omega)).trans q) (List.Perm.refl _)
def dist(l:LI):Prop:=l.Pairwise fun a b=>a.1 ≠ b.1
theorem dist_lst{n:Nat}{g:G}(h:distinct n g):dist (lst g n):=by
 unfold dist lst
 rw [List.pairwise_map]
 refine List.Pairwise.imp_of_mem ?_ (List.nodup_iff_pairwise_ne.1 (List.nodup_range (n:=n)))
 intro a b ha hb hab e
 exact hab (h a b (List.mem_range.1 ha) (List.mem_range.1 hb) e)
theorem dist_perm{l l':LI}(h:l.Perm l')(hd:dist l):dist l':=(h.pairwise_iff (fun h e=>h e.symm)).1 hd
theorem dist_eq{l:LI}(hd:dist l){a b:Int × Int}(ha:a ∈ l)(hb:b ∈ l)(e:a.1=b.1):a=b:=by
 induction l with
 | nil=>cases ha
 | cons c l ih=>
  obtain⟨h1,h2⟩:=List.pairwise_cons.1 hd
  rcases List.mem_cons.1 ha with rfl | ha'
  ·rcases List.mem_cons.1 hb with rfl | hb'
   ·rfl
   ·exact absurd e (h1 b hb')
  ·rcases List.mem_cons.1 hb with rfl | hb'
   ·exact absurd e.symm (h1 a ha')
   ·exact ih h2 ha' hb'
def Srt(f:Nat)(l:LI):Prop:=l.Pairwise fun a b=>¬ lt f b a
theorem lt_tri{f:Nat}{a b:Int × Int}(h1:¬ lt f a b)(h2:¬ lt f b a):a.1=b.1:=by
 unfold lt at h1 h2;omega
theorem srt_uniq{f:Nat}{l l':LI}(h:l.Perm l')(hd:dist l)(h1:Srt f l)(h2:Srt f l'):l=l':=
 List.Perm.eq_of_pairwise (le:=fun a b=>¬ lt f b a) (fun a b ha hb q1 q2=>dist_eq hd ha (h.symm.mem_iff.1 hb) (lt_tri q2 q1)) h1 h2 h
end Go.Ev.HQ

/- slices.SortFunc on items, its order a method value: what its functions return, by the plain twins of the library. -/
namespace Go.Ev.HQ
open Go Go.Ev
def arr(c:List Value):Array (Int × Int):=(Array.range (c.length / 2)).map fun i=>(intAt c (i * 2),intAt c (i * 2+1))
def aC(d:Array (Int × Int)):List Value:=its (fun i=>d[i]!) d.size
def ltA(f:Nat)(x y:Int × Int):Bool:=decide (cmpA f x.1 x.2 y.1 y.2<0)
def heapS(f:Nat)(c:List Value):AH:=heapO [.cells 52 c false 2,.cells 74 [.func (.func f) #[] #[],.chan none,.chan none,.chan none] true 0]
def rnS(r v:Nat):Nat→Nat
 | 0=>r
 | _=>v
def insC(f:Nat)(c:List Value)(a b:Nat):List Value:=aC (Sort.insertionSort (ltA f) (arr c) a b)
def o2A(f:Nat)(c:List Value)(a b s:Nat):Nat:=(Sort.order2 (ltA f) (arr c) a b s).1
def o2B(f:Nat)(c:List Value)(a b s:Nat):Nat:=(Sort.order2 (ltA f) (arr c) a b s).2.1
def o2S(f:Nat)(c:List Value)(a b s:Nat):Nat:=(Sort.order2 (ltA f) (arr c) a b s).2.2
def meV(f:Nat)(c:List Value)(a b e s:Nat):Nat:=(Sort.median (ltA f) (arr c) a b e s).1
def meS(f:Nat)(c:List Value)(a b e s:Nat):Nat:=(Sort.median (ltA f) (arr c) a b e s).2
def maV(f:Nat)(c:List Value)(a s:Nat):Nat:=(Sort.medianAdjacent (ltA f) (arr c) a s).1
def maS(f:Nat)(c:List Value)(a s:Nat):Nat:=(Sort.medianAdjacent (ltA f) (arr c) a s).2
def chP(f:Nat)(c:List Value)(a b:Nat):Nat:=(Sort.choosePivot (ltA f) (arr c) a b).1
def chH(f:Nat)(c:List Value)(a b:Nat):Int:=Sort.hintCode (Sort.choosePivot (ltA f) (arr c) a b).2
def rvC(c:List Value)(a b:Nat):List Value:=aC (Sort.reverseRange (arr c) a b)
def brC(c:List Value)(a b:Nat):List Value:=aC (Sort.breakPatterns (arr c) a b)
def hsC(f:Nat)(c:List Value)(a b:Nat):List Value:=aC (Sort.heapSort (ltA f) (arr c) a b)
def sfC(f:Nat)(c:List Value)(hi first lo:Nat):List Value:=aC (Sort.siftDown (ltA f) hi first lo (arr c))
def plB(f:Nat)(c:List Value)(a b:Nat):Bool:=(Sort.partialInsertionSort (ltA f) (arr c) a b).2
def plC(f:Nat)(c:List Value)(a b:Nat):List Value:=aC (Sort.partialInsertionSort (ltA f) (arr c) a b).1
def peM(f:Nat)(c:List Value)(a b p:Nat):Nat:=(Sort.partitionEqual (ltA f) (arr c) a b p).1
def peC(f:Nat)(c:List Value)(a b p:Nat):List Value:=aC (Sort.partitionEqual (ltA f) (arr c) a b p).2
def paM(f:Nat)(c:List Value)(a b p:Nat):Nat:=(Sort.partition (ltA f) (arr c) a b p).1
def paB(f:Nat)(c:List Value)(a b p:Nat):Bool:=(Sort.partition (ltA f) (arr c) a b p).2.1
def paC(f:Nat)(c:List Value)(a b p:Nat):List Value:=aC (Sort.partition (ltA f) (arr c) a b p).2.2
def pdC(f:Nat)(c:List Value)(a b m:Nat):List Value:=aC (Sort.pdq (ltA f) (arr c) a b m true true)
def blN(n:Nat):Nat:=Sort.bitsLen n
def heapSS(f:Nat)(c:List Value)(s:Nat):AH:=heapO [.cells 52 c false 2,.cells 74 [.func (.func f) #[] #[],.chan none,.chan none,.chan none] true 0,.cells 3 [.int .i64 s] true 2]
def iv(n:Nat):Value:=.int .i64 (n:Int)
end Go.Ev.HQ

/- Queues: what Fix, Get, Set, Remove, Save, All and Same return. -/
namespace Go.Ev.HQ
open Go Go.Ev
def QS.fixA(f n:Nat)(s:QS)(i:Nat):QS:=if i<(QS.down f n (n+1) s i).2 then(QS.down f n (n+1) s i).1 else(QS.down f n (n+1) s i).1.up f (i+1) i
def QS.rem1(f n:Nat)(s:QS)(p:Nat):QS:=if n - 1=p then s else(s.swap p (n - 1)).fixA f (n - 1) p
def QS.rem(f n:Nat)(s:QS)(p:Nat):QS:=⟨splice (s.rem1 f n p).c ((n - 1) * 2) [.int .i64 0,.int .i64 0],mDel (s.rem1 f n p).E (fE (s.rem1 f n p).E (intAt (s.rem1 f n p).c ((n - 1) * 2))),(s.rem1 f n p).ck⟩
def QS.setv(f n:Nat)(s:QS)(p:Nat)(y:Int):QS:=QS.fixA f n ⟨splice s.c (p * 2+1) [.int .i64 y],s.E,s.ck⟩ p
def plN(E:List MapEntry)(k:Int):Nat:=match fE E k with
 | some (_,.int _ x)=>x.toNat
 | _=>0
end Go.Ev.HQ

/- Queues: Push, Remove, Set on items: plain mathematics. -/
namespace Go.Ev.HQ
open Go Go.Ev
def fixG(f n:Nat)(g:G)(i:Nat):G:=if i<(downG f n (n+1) g i).2 then(downG f n (n+1) g i).1 else upG f (i+1) (downG f n (n+1) g i).1 i
theorem fix_G{f n m i:Nat}{s:QS}{g:G}(hs:s.c=its g m)(hn:n≤m)(hi:i<m):(s.fixA f n i).c=its (fixG f n g i) m∧(intE s.E→intE (s.fixA f n i).E):=by
 obtain⟨d1,d2,d3⟩:=down_G (f:=f) (n:=n) (k:=n+1) (i:=i) hn hs
 unfold QS.fixA fixG
 rw [d2]
 split
 ·exact⟨d1,d3⟩
 ·obtain⟨u1,u2⟩:=up_G (f:=f) (k:=i+1) (j:=i) d1 hi
  exact⟨u1,fun h=>u2 (d3 h)⟩
theorem fix_P{f n N m i:Nat}{s:QS}{g:G}(hs:s.c=its g m)(hn:n≤N)(hN:N≤m)(hi:i<N)(h:Plc N g s.E):Plc N (fixG f n g i) (s.fixA f n i).E:=by
 obtain⟨d1,d2,d3⟩:=down_G (f:=f) (n:=n) (k:=n+1) (i:=i) (by omega) hs
 have p:=Plc.down (f:=f) hn hN (k:=n+1) (i:=i) hs h
 unfold QS.fixA fixG
 rw [d2]
 split
 ·exact p
 ·exact Plc.up (s:=(QS.down f n (n+1) s i).1) d1 hN hi p
theorem fix_far{f n i a:Nat}{g:G}(hi:i<n)(ha:n≤a):fixG f n g i a=g a:=by
 unfold fixG
 split
 ·exact down_inv (I:=fun h=>h a=g a) (fun q i j hi hj e=>by rw [far_sw hi hj ha];exact e) rfl
 ·exact up_inv (n:=n) (I:=fun h=>h a=g a) (fun q i j hi hj e=>by rw [far_sw hi hj ha];exact e) hi (down_inv (I:=fun h=>h a=g a) (fun q i j hi hj e=>by rw [far_sw hi hj ha];exact e) rfl)
theorem fix_lst{f n N i:Nat}{g:G}(hn:n≤N)(hi:i<N):(lst (fixG f n g i) N).Perm (lst g N):=by
 unfold fixG
 split
 ·exact lst_down hn
 ·exact(lst_up hi).trans (lst_down hn)
/- Remove -/
def rem1G(f n:Nat)(g:G)(p:Nat):G:=if n - 1=p then g else fixG f (n - 1) (sw g p (n - 1)) p
def remG(f n:Nat)(g:G)(p:Nat):G:=upd (rem1G f n g p) (n - 1) (0,0)
theorem rem1_G{f n m p:Nat}{s:QS}{g:G}(hs:s.c=its g m)(hn:n≤m)(hp:p<n):(s.rem1 f n p).c=its (rem1G f n g p) m∧(intE s.E→intE (s.rem1 f n p).E):=by
 unfold QS.rem1 rem1G
 split
 ·exact⟨hs,fun h=>h⟩
 ·have:=fix_G (f:=f) (n:=n - 1) (i:=p) (QS.swap_c (i:=p) (j:=n - 1) hs (by omega) (by omega)) (by omega) (by omega)
  exact⟨this.1,fun h=>this.2 (QS.swap_int h)⟩
theorem rem1_last{f n p:Nat}{g:G}(hp:p<n):rem1G f n g p (n - 1)=g p:=by
 unfold rem1G
 split
 ·rename_i h;rw [h]
 ·rw [fix_far (by omega) (Nat.le_refl _),sw_at,if_pos rfl]
theorem rem_G{f n m p:Nat}{s:QS}{g:G}(hs:s.c=its g m)(hE:intE s.E)(hn:n≤m)(hp:p<n):(s.rem f n p).c=its (remG f n g p) m∧intE (s.rem f n p).E:=by
 obtain⟨r1,r2⟩:=rem1_G (f:=f) hs hn hp
 unfold QS.rem remG
 refine⟨?_,dlt_int (r2 hE)⟩
 show splice (s.rem1 f n p).c ((n - 1) * 2) _=_
 rw [r1,splice_its (by omega)]
theorem rem1_P{f n m p:Nat}{s:QS}{g:G}(hs:s.c=its g m)(hn:n≤m)(hp:p<n)(h:Plc n g s.E):Plc n (rem1G f n g p) (s.rem1 f n p).E:=by
 unfold QS.rem1 rem1G
 split
 ·exact h
 ·exact fix_P (QS.swap_c (i:=p) (j:=n - 1) hs (by omega) (by omega)) (by omega) hn hp (h.swap hs hn hp (by omega))
theorem rem_P{f n m p:Nat}{s:QS}{g:G}(hs:s.c=its g m)(hn:n≤m)(hp:p<n)(h:Plc n g s.E):Plc (n - 1) (remG f n g p) (s.rem f n p).E:=by
 have h1:=rem1_P (f:=f) hs hn hp h
 obtain⟨r1,r2⟩:=rem1_G (f:=f) hs hn hp
 have u:∀ k,k<n - 1→remG f n g p k=rem1G f n g p k:=fun k hk=>if_neg (by omega)
 refine⟨fun a b ha hb e=>?_,fun k hk=>?_,dlt_int h1.int⟩
 ·rw [u a ha,u b hb] at e
  exact h1.dis a b (by omega) (by omega) e
 ·rw [u k hk]
  unfold QS.rem
  show pv (mDel _ (fE _ _)) _=_
  rw [pv_del h1.int]
  ·exact h1.at_ k (by omega)
  ·rw [r1,(its_int (g:=rem1G f n g p) (m:=m) (k:=n - 1) (by omega)).1]
   intro e
   have:=h1.dis k (n - 1) (by omega) (by omega) e
   omega
theorem rem_lst{f n p:Nat}{g:G}(hp:p<n):(g p :: lst (remG f n g p) (n - 1)).Perm (lst g n):=by
 have e:lst (remG f n g p) (n - 1)=lst (rem1G f n g p) (n - 1):=lst_congr fun k hk=>if_neg (by omega)
 have h1:(lst (rem1G f n g p) n).Perm (lst g n):=by
  unfold rem1G
  split
  ·exact List.Perm.refl _
  ·exact(fix_lst (by omega) hp).trans (lst_sw hp (by omega))
 rw [e]
 refine List.Perm.trans ?_ h1
 have e2:lst (rem1G f n g p) n=lst (rem1G f n g p) (n - 1) ++ [g p]:=by
  have:=lst_succ (rem1G f n g p) (n - 1)
  rw [show n - 1+1=n by omega,rem1_last hp] at this
  exact this
 rw [e2]
 exact(List.perm_append_comm (l₁:=[g p]) (l₂:=lst (rem1G f n g p) (n - 1)))
/- Set -/
def setG(f n:Nat)(g:G)(p:Nat)(y:Int):G:=fixG f n (upd g p ((g p).1,y)) p
theorem splice_v{g:G}{m k:Nat}(h:k<m)(y:Int):splice (its g m) (k * 2+1) [.int .i64 y]=its (upd g k ((g k).1,y)) m:=by
 have e:splice (its g m) (k * 2+1) [.int .i64 y]=splice (its g m) (k * 2) [.int .i64 (g k).1,.int .i64 y]:=by
  obtain⟨h1,h2⟩:=its_get g h
  have hl:=its_len g m
  have b1:k * 2+1+[Value.int .i64 y].length≤(its g m).length:=by simp only [List.length_cons,List.length_nil];omega
  have b2:k * 2+[Value.int .i64 (g k).1,Value.int .i64 y].length≤(its g m).length:=by simp only [List.length_cons,List.length_nil];omega
  apply List.ext_getElem?
  intro i
  rw [splice_get b1,splice_get b2]
  simp only [List.length_cons,List.length_nil]
  by_cases c1:i<k * 2
  ·rw [if_pos (by omega),if_pos c1]
  ·by_cases c2:i=k * 2
   ·subst c2
    rw [if_pos (by omega),if_neg (by omega),if_pos (by omega),Nat.sub_self,h1];rfl
   ·by_cases c3:i=k * 2+1
    ·subst c3
     rw [if_neg (by omega),if_pos (by omega),if_neg (by omega),if_pos (by omega),Nat.sub_self,Nat.add_sub_cancel_left];rfl
    ·rw [if_neg (by omega),if_neg (by omega),if_neg (by omega),if_neg (by omega)]
 rw [e,splice_its h]
theorem set_G{f n m p:Nat}{s:QS}{g:G}(hs:s.c=its g m)(hn:n≤m)(hp:p<n)(y:Int):(s.setv f n p y).c=its (setG f n g p y) m∧(intE s.E→intE (s.setv f n p y).E):=by
 have hc:(QS.mk (splice s.c (p * 2+1) [.int .i64 y]) s.E s.ck).c=its (upd g p ((g p).1,y)) m:=by
  show splice s.c _ _=_
  rw [hs,splice_v (by omega)]
 exact fix_G (f:=f) (n:=n) (i:=p) hc hn (by omega)
theorem upd_fst{g:G}{p:Nat}{y:Int}(k:Nat):(upd g p ((g p).1,y) k).1=(g k).1:=by
 unfold upd
 split
 ·rename_i h;rw [h]
 ·rfl
theorem set_P{f n m p:Nat}{s:QS}{g:G}(hs:s.c=its g m)(hn:n≤m)(hp:p<n)(y:Int)(h:Plc n g s.E):Plc n (setG f n g p y) (s.setv f n p y).E:=by
 have hc:(QS.mk (splice s.c (p * 2+1) [.int .i64 y]) s.E s.ck).c=its (upd g p ((g p).1,y)) m:=by
  show splice s.c _ _=_
  rw [hs,splice_v (by omega)]
 refine fix_P hc (Nat.le_refl _) hn hp ⟨fun a b ha hb e=>?_,fun k hk=>?_,h.int⟩
 ·rw [upd_fst,upd_fst] at e;exact h.dis a b ha hb e
 ·rw [upd_fst];exact h.at_ k hk
theorem set_lst{f n p:Nat}{g:G}(hp:p<n)(y:Int):(lst (setG f n g p y) n).Perm (lst (upd g p ((g p).1,y)) n):=fix_lst (Nat.le_refl _) hp
/- Push -/
def pushG(f n:Nat)(g:G)(x y:Int):G:=upG f (n+1) (upd g n (x,y)) n
theorem push_P{f n:Nat}{s:QS}{g:G}{x y:Int}(hs:s.c=its g n)(h:Plc n g s.E)(hx:∀ k,k<n→(g k).1 ≠ x):Plc (n+1) (pushG f n g x y) (s.push f n x y).E:=by
 have hc:(QS.place ⟨s.c ++ [.int .i64 x,.int .i64 y],s.E,s.ck⟩ x n).c=its (upd g n (x,y)) (n+1):=by
  show s.c ++ [.int .i64 x,.int .i64 y]=_
  rw [hs]
  show _=its (upd g n (x,y)) n ++ [.int .i64 (upd g n (x,y) n).1,.int .i64 (upd g n (x,y) n).2]
  rw [its_congr (g:=upd g n (x,y)) (g':=g) fun k hk=>if_neg (by omega),show upd g n (x,y) n=(x,y) from if_pos rfl]
 have u0:∀ k,k<n→upd g n (x,y) k=g k:=fun k hk=>if_neg (by omega)
 have u1:upd g n (x,y) n=(x,y):=if_pos rfl
 refine Plc.up hc (Nat.le_refl _) (Nat.lt_succ_self n) ⟨fun a b ha hb e=>?_,fun k hk=>?_,QS.place_int h.int⟩
 ·by_cases ea:a=n
  ·by_cases eb:b=n
   ·omega
   ·rw [ea,u1,u0 b (by omega)] at e;exact absurd e.symm (hx b (by omega))
  ·by_cases eb:b=n
   ·rw [eb,u1,u0 a (by omega)] at e;exact absurd e (hx a (by omega))
   ·rw [u0 a (by omega),u0 b (by omega)] at e;exact h.dis a b (by omega) (by omega) e
 ·show pv (mPut _ _ _ _ (fE _ _)) _=_
  rw [pv_put h.int]
  by_cases ea:k=n
  ·rw [ea,u1,if_pos rfl]
  ·rw [u0 k (by omega),if_neg (hx k (by omega))];exact h.at_ k (by omega)
theorem push_lst(f n:Nat)(g:G)(x y:Int):(lst (pushG f n g x y) (n+1)).Perm ((x,y) :: lst g n):=by
 refine(lst_up (Nat.lt_succ_self n)).trans ?_
 rw [lst_succ,show upd g n (x,y) n=(x,y) from if_pos rfl,lst_congr (g:=upd g n (x,y)) (g':=g) fun k hk=>if_neg (by omega)]
 exact List.perm_append_comm
end Go.Ev.HQ

/- Queues: K of slices.SortFunc and Save. -/
namespace Go.Ev.HQ
open Go Go.Ev
def soC(f:Nat)(c:List Value):List Value:=aC (Sort.sort (ltA f) (arr c))
end Go.Ev.HQ

/- Queues: contracts' words for Fix, Set, Remove, Get, Save, Same. -/
namespace Go.Ev.HQ
open Go Go.Ev
def QS.vpop(n:Nat)(s:QS):QS:=⟨splice s.c ((n - 1) * 2) [.int .i64 0,.int .i64 0],mDel s.E (fE s.E (intAt s.c ((n - 1) * 2))),s.ck⟩
def itemV(c:List Value)(i:Nat):Value:=.iface 52 (.agg ⟨[.int .i64 (intAt c (i * 2)),.int .i64 (intAt c (i * 2+1))]⟩)
def onK(H:AH)(q:Nat)(k:Nat→Nat→Nat→AObj→AObj→Int→Nat→Nat→QS→KT):KT:=match H.objs.get q with
 | some (.cells t0 [a0,.pointer (some ⟨v,0,none⟩)] p0 w0)=>match H.objs.get v with
  | some (.cells t [.func (.func f) a b,.int .i64 x,.slice (some ⟨r,0,none⟩) n c,.map (some m)] p w)=>match H.objs.get r,H.objs.get m with
   | some (.cells _ cs _ _),some (.map E ck _)=>k v r m (.cells t0 [a0,.pointer (some ⟨v,0,none⟩)] p0 w0) (.cells t [.func (.func f) a b,.int .i64 x,.slice (some ⟨r,0,none⟩) n c,.map (some m)] p w) x f n ⟨cs,E,ck⟩
   | _,_=>.ret undef H
  | _=>.ret undef H
 | _=>.ret undef H
def svC(f n:Nat)(c:List Value):List Value:=aC (Sort.sort (ltA f) (arr (c.take (n * 2))))
def sameC(n:Nat)(c:List Value)(m:Nat)(d:List Value):Bool:=decide (n=m∧∀ i,i<n * 2→intAt c i=intAt d i)
end Go.Ev.HQ

namespace Go.Ev
open Go Go.Proofs
open Go.Ev.T renaming node → nN, nil → nZ
open Go.Proofs.Try (prog)
set_option maxRecDepth 100000
set_option maxHeartbeats 2000000
namespace KSave
noncomputable def bd:Code:=(Go.Proofs.Try.f13.body).getD .skip
noncomputable def H0(f:Nat)(x:Int)(n:Nat)(s:HQ.QS):AH:={ objs:=eE (eE (eE (eE (eE (eE (eE (lL (AObj.cells 74 [Value.func (Fn.func f) ⟨[]⟩ ⟨[]⟩,iI x,sS 128 0 n u2,Value.map (some 129)] true 2)) nZ) nZ) nZ) nZ) nZ) (eE (eE (eE (eE (eE (lL (AObj.map s.E s.ck true)) nZ) nZ) nZ) nZ) nZ)) (eE (eE (eE (eE (eE (eE (lL (AObj.cells 52 s.c false 2)) nZ) nZ) nZ) nZ) nZ) (eE nZ (eE nZ (eE nZ (eE nZ (lL (AObj.cells 78 [pP 126 0,pP 127 0] true 2))))))),next:=130 }
noncomputable def E(f:Nat)(x:Int)(n:Nat)(s:HQ.QS):AS:=⟨⟨13,32,lL (pP 126 0),[Item.code (codeAt bd [])],[],FrameMode.run,CallKind.normal,none⟩,[],H0 f x n s⟩
theorem enter{η:Nat→Value}{B:Bd}(hη:OneCells η)(hmix:prog.follows .mixedOrders=true)(hreg:RegOk η prog B noNest){D:Value→AH→Prop}(f:Nat)(x:Int)(n:Nat)(s:HQ.QS)(h:let q4:=(List.take (n * (2:Nat)) (List.drop (0:Nat) s.c));let q3:T AObj:=(eE (eE (eE (eE (lL (AObj.cells 52 s.c false 2)) nZ) nZ) nZ) nZ);let q2:T AObj:=(eE (eE (eE (eE (lL (AObj.cells 52 (HQ.soC f ([] ++ List.take (n * 2) (List.drop 0 s.c))) false 2)) nZ) nZ) nZ) nZ);let q1:T AObj:=(eE (eE (eE (eE (eE (lL (AObj.cells 24 [iI 0,Value.slice none 0 0] true 2)) nZ) nZ) nZ) nZ) (eE nZ (eE nZ (eE nZ (lL (AObj.cells 78 [pP 126 0,pP 127 0] true 2))))));let q0:T AObj:=(eE (eE (eE (eE (eE (eE (lL (AObj.cells 74 [Value.func (Fn.func f) ⟨[]⟩ ⟨[]⟩,iI x,sS 128 0 n u2,Value.map (some 129)] true 2)) nZ) nZ) nZ) nZ) (eE (eE (eE (eE (lL (AObj.cells 52 [] true 2)) nZ) nZ) nZ) nZ)) (eE (eE (eE (eE (eE (lL (AObj.map s.E s.ck true)) nZ) nZ) nZ) nZ) nZ));W.holds η prog B 13 (fun kp_ st_=>RunD η prog B 13 (H0 f x n s) kp_ st_ (QF prog 130 D)) D (.need ((0:Nat)+n * (2:Nat)≤s.c.length∧(0:Nat)<n∧n≤(1000000:Nat)∧q4.length=n * (2:Nat)∧q4.all oneC=true) (.call 45 [Value.slice (some ⟨132,0,none⟩) (0+n) 9223372036854775810,Value.func (Fn.func 36) ⟨[Value.pointer (some ⟨127,0,none⟩)]⟩ ⟨[]⟩] (⟨eE q0 (eE (eE q3 (eE (eE (eE (eE (lL (AObj.cells 52 ([] ++ List.take (n * 2) (List.drop 0 s.c)) false 2)) nZ) nZ) nZ) nZ)) q1),133⟩) (.ret (undef) (⟨eE q0 (eE (eE q3 q2) q1),133⟩)) (.need (True∧True∧NoNames s.c∧NoNamesE s.E∧NoNames (HQ.soC f ([] ++ List.take (n * (2:Nat)) (List.drop (0:Nat) s.c)))∧True) (.done 13 (Value.agg ⟨[Value.int IntKind.i64 x,Value.slice (some ⟨130,0,none⟩) (0+n) 9223372036854775810]⟩) (⟨eE (eE (eE (eE (eE (eE (eE (lL (AObj.cells 74 [Value.func (Fn.func f) ⟨[]⟩ ⟨[]⟩,iI x,sS 128 0 n u2,Value.map (some 129)] true 2)) nZ) nZ) nZ) nZ) nZ) (eE (eE (eE (eE (eE (lL (AObj.map s.E s.ck true)) nZ) nZ) nZ) nZ) nZ)) (eE (eE q3 nZ) (eE q2 (eE nZ (eE nZ (eE nZ (lL (AObj.cells 78 [pP 126 0,pP 127 0] true 2))))))),131⟩)))))):CallSpec η prog B 13 [Value.pointer (some ⟨126,0,none⟩)] (H0 f x n s) D:=by
 refine CallSpec.ofQF hη (CallSpec.enter (fr:=(E f x n s).fr) (by kernel_rfl) ?_)
 exact walk_okT (h0:=H0 f x n s) hη hmix hreg (.steps 59 <| .op <| .steps 14 <| .call kN <| .steps 15 <| .done (some ⟨131,[(132,130)],[(126,(126,false)),(127,(127,false)),(128,(128,true)),(129,(129,true)),(130,(132,true))]⟩)) (E f x n s) (by kernel_rfl) h (by kernel_rfl)
end KSave
namespace KFix
noncomputable def bd:Code:=(Go.Proofs.Try.f50.body).getD .skip
noncomputable def H0(f:Nat)(x:Int)(n:Nat)(cap:Nat)(s:HQ.QS)(i:Nat):AH:={ objs:=eE (eE (eE (eE (eE (eE (eE (lL (AObj.cells 52 s.c false 2)) nZ) nZ) nZ) nZ) nZ) nZ) (eE (eE (eE (eE (eE (eE (lL (AObj.map s.E s.ck true)) nZ) nZ) nZ) nZ) nZ) (eE nZ (eE nZ (eE nZ (eE nZ (lL (AObj.cells 74 [Value.func (Fn.func f) ⟨[]⟩ ⟨[]⟩,iI x,sS 127 0 n cap,Value.map (some 128)] true 2))))))),next:=129 }
noncomputable def E(f:Nat)(x:Int)(n:Nat)(cap:Nat)(s:HQ.QS)(i:Nat):AS:=⟨⟨50,13,nS (Value.iface 69 (pP 126 0)) (lL (iI (↑i:Int))) nZ,[Item.code (codeAt bd [])],[],FrameMode.run,CallKind.normal,none⟩,[],H0 f x n cap s i⟩
theorem enter{η:Nat→Value}{B:Bd}(hη:OneCells η)(hmix:prog.follows .mixedOrders=true)(hreg:RegOk η prog B noNest){D:Value→AH→Prop}(f:Nat)(x:Int)(n:Nat)(cap:Nat)(s:HQ.QS)(i:Nat)(h:let q1:AH:=⟨eE (eE (eE (eE (eE (eE (eE (lL (AObj.cells 52 (HQ.QS.down f (↑n:Int).toNat ((↑n:Int).toNat+1) (HQ.QS.mk (s.c) (s.E) (s.ck)) (↑i:Int).toNat).fst.c false 2)) nZ) nZ) nZ) nZ) nZ) nZ) (eE (eE (eE (eE (eE (eE (lL (AObj.map (HQ.QS.down f (↑n:Int).toNat ((↑n:Int).toNat+1) (HQ.QS.mk (s.c) (s.E) (s.ck)) (↑i:Int).toNat).fst.E (HQ.QS.down f (↑n:Int).toNat ((↑n:Int).toNat+1) (HQ.QS.mk (s.c) (s.E) (s.ck)) (↑i:Int).toNat).fst.ck true)) nZ) nZ) nZ) nZ) nZ) (eE nZ (eE nZ (eE nZ (eE nZ (lL (AObj.cells 74 [Value.func (Fn.func f) ⟨[]⟩ ⟨[]⟩,iI x,sS 127 0 n cap,Value.map (some 128)] true 2))))))),129⟩;let q0:AH:=⟨eE (eE (eE (eE (eE (eE (eE (lL (AObj.cells 52 (HQ.QS.up f ((↑i:Int).toNat+1) (HQ.QS.mk ((HQ.QS.down f (↑n:Int).toNat ((↑n:Int).toNat+1) (HQ.QS.mk (s.c) (s.E) (s.ck)) (↑i:Int).toNat).fst.c) ((HQ.QS.down f (↑n:Int).toNat ((↑n:Int).toNat+1) (HQ.QS.mk (s.c) (s.E) (s.ck)) (↑i:Int).toNat).fst.E) ((HQ.QS.down f (↑n:Int).toNat ((↑n:Int).toNat+1) (HQ.QS.mk (s.c) (s.E) (s.ck)) (↑i:Int).toNat).fst.ck)) (↑i:Int).toNat).c false 2)) nZ) nZ) nZ) nZ) nZ) nZ) (eE (eE (eE (eE (eE (eE (lL (AObj.map (HQ.QS.up f ((↑i:Int).toNat+1) (HQ.QS.mk ((HQ.QS.down f (↑n:Int).toNat ((↑n:Int).toNat+1) (HQ.QS.mk (s.c) (s.E) (s.ck)) (↑i:Int).toNat).fst.c) ((HQ.QS.down f (↑n:Int).toNat ((↑n:Int).toNat+1) (HQ.QS.mk (s.c) (s.E) (s.ck)) (↑i:Int).toNat).fst.E) ((HQ.QS.down f (↑n:Int).toNat ((↑n:Int).toNat+1) (HQ.QS.mk (s.c) (s.E) (s.ck)) (↑i:Int).toNat).fst.ck)) (↑i:Int).toNat).E (HQ.QS.up f ((↑i:Int).toNat+1) (HQ.QS.mk ((HQ.QS.down f (↑n:Int).toNat ((↑n:Int).toNat+1) (HQ.QS.mk (s.c) (s.E) (s.ck)) (↑i:Int).toNat).fst.c) ((HQ.QS.down f (↑n:Int).toNat ((↑n:Int).toNat+1) (HQ.QS.mk (s.c) (s.E) (s.ck)) (↑i:Int).toNat).fst.E) ((HQ.QS.down f (↑n:Int).toNat ((↑n:Int).toNat+1) (HQ.QS.mk (s.c) (s.E) (s.ck)) (↑i:Int).toNat).fst.ck)) (↑i:Int).toNat).ck true)) nZ) nZ) nZ) nZ) nZ) (eE nZ (eE nZ (eE nZ (eE nZ (lL (AObj.cells 74 [Value.func (Fn.func f) ⟨[]⟩ ⟨[]⟩,iI x,sS 127 0 n cap,Value.map (some 128)] true 2))))))),129⟩;W.holds η prog B 50 (fun kp_ st_=>RunD η prog B 50 (H0 f x n cap s i) kp_ st_ (QF prog 129 D)) D (.call 66 [Value.iface 69 (Value.pointer (some ⟨126,0,none⟩)),Value.int IntKind.i64 (↑i:Int),Value.int IntKind.i64 (↑n:Int)] (⟨eE (eE (eE (eE (eE (eE (eE (lL (AObj.cells 52 s.c false 2)) nZ) nZ) nZ) nZ) nZ) nZ) (eE (eE (eE (eE (eE (eE (lL (AObj.map s.E s.ck true)) nZ) nZ) nZ) nZ) nZ) (eE nZ (eE nZ (eE nZ (eE nZ (lL (AObj.cells 74 [Value.func (Fn.func f) ⟨[]⟩ ⟨[]⟩,iI x,sS 127 0 n cap,Value.map (some 128)] true 2))))))),129⟩) (.ret (Value.bool (decide ((↑i:Int).toNat<(HQ.QS.down f (↑n:Int).toNat ((↑n:Int).toNat+1) (HQ.QS.mk (s.c) (s.E) (s.ck)) (↑i:Int).toNat).snd))) (q1)) (.ite (!decide ((↑i:Int).toNat<(HQ.QS.down f (↑n:Int).toNat ((↑n:Int).toNat+(1:Nat)) (HQ.QS.mk (s.c) (s.E) (s.ck)) (↑i:Int).toNat).snd)) (.call 65 [Value.iface 69 (Value.pointer (some ⟨126,0,none⟩)),Value.int IntKind.i64 (↑i:Int)] (q1) (.ret (undef) (q0)) (.done 50 (undef) (q0))) (.done 50 (undef) (q1))))):CallSpec η prog B 50 [Value.iface 69 (Value.pointer (some ⟨126,0,none⟩)),Value.int IntKind.i64 (↑i:Int)] (H0 f x n cap s i) D:=by
 refine CallSpec.ofQF hη (CallSpec.enter (fr:=(E f x n cap s i).fr) (by kernel_rfl) ?_)
 exact walk_okT (h0:=H0 f x n cap s i) hη hmix hreg (.steps 21 <| .call kN <| .steps 2 <| .bit 9 (.steps 4 <| .call kN <| .steps 2 <| .done none) (.steps 3 <| .done none)) (E f x n cap s i) (by kernel_rfl) h (by kernel_rfl)
end KFix
namespace KGet
noncomputable def bd:Code:=(Go.Proofs.Try.f19.body).getD .skip
noncomputable def H0(f:Nat)(x:Int)(n:Nat)(s:HQ.QS)(y:Int):AH:={ objs:=eE (eE (eE (eE (eE (eE (eE (lL (AObj.cells 74 [Value.func (Fn.func f) ⟨[]⟩ ⟨[]⟩,iI x,sS 128 0 n u2,Value.map (some 129)] true 2)) nZ) nZ) nZ) nZ) nZ) (eE (eE (eE (eE (eE (lL (AObj.map s.E s.ck true)) nZ) nZ) nZ) nZ) nZ)) (eE (eE (eE (eE (eE (eE (lL (AObj.cells 52 s.c false 2)) nZ) nZ) nZ) nZ) nZ) (eE nZ (eE nZ (eE nZ (eE nZ (lL (AObj.cells 78 [pP 126 0,pP 127 0] true 2))))))),next:=130 }
noncomputable def E(f:Nat)(x:Int)(n:Nat)(s:HQ.QS)(y:Int):AS:=⟨⟨19,28,nS (pP 126 0) (lL (iI y)) nZ,[Item.code (codeAt bd [])],[],FrameMode.run,CallKind.normal,none⟩,[],H0 f x n s y⟩
theorem enter{η:Nat→Value}{B:Bd}(hη:OneCells η)(hmix:prog.follows .mixedOrders=true)(hreg:RegOk η prog B noNest){D:Value→AH→Prop}(f:Nat)(x:Int)(n:Nat)(s:HQ.QS)(y:Int)(h:let q2:=(mFind (TypeDesc.int IntKind.i64) (Value.int IntKind.i64 y) s.E);let q1:=(cellsL (mVal (Value.int IntKind.i64 (0:Int)) q2));let q0:=(intAt q1 (0:Nat));W.holds η prog B 19 (fun kp_ st_=>RunD η prog B 19 (H0 f x n s y) kp_ st_ (QF prog 130 D)) D (.need (Instr.findNow (TypeDesc.int IntKind.i64) (Value.int IntKind.i64 y) s.E (0:Nat)=some q2∧mVal (Value.int IntKind.i64 (0:Int)) q2=Value.int IntKind.i64 q0) (.ite (!q2.isSome) (.done 19 (Value.tuple ⟨[Value.int IntKind.i64 0,Value.int IntKind.i64 4]⟩) (H0 f x n s y)) (.need ((0:Int)≤intAt q1 (0:Nat)∧intAt q1 (0:Nat)<(↑n:Int)) (.need (s.c[(0:Nat)+q0.toNat * (2:Nat)+(1:Nat)]? = some (Value.int IntKind.i64 (intAt s.c ((0:Nat)+q0.toNat * (2:Nat)+(1:Nat))))) (.done 19 (Value.tuple ⟨[Value.int IntKind.i64 (intAt s.c (0+(intAt (cellsL (mVal (Value.int IntKind.i64 0) q2)) 0).toNat * 2+1)),Value.int IntKind.i64 0]⟩) (H0 f x n s y))))))):CallSpec η prog B 19 [Value.pointer (some ⟨126,0,none⟩),Value.int IntKind.i64 y] (H0 f x n s y) D:=by
 refine CallSpec.ofQF hη (CallSpec.enter (fr:=(E f x n s y).fr) (by kernel_rfl) ?_)
 exact walk_okT (h0:=H0 f x n s y) hη hmix hreg (.steps 54 <| .op <| .steps 12 <| .bit 24 (.steps 29 <| .done none) (.steps 34 <| .op <| .steps 1 <| .op <| .steps 4 <| .done none)) (E f x n s y) (by kernel_rfl) h (by kernel_rfl)
end KGet
namespace KSame
noncomputable def bd:Code:=(Go.Proofs.Try.f14.body).getD .skip
noncomputable def H0(c1:List Value)(c2:List Value)(n:Nat)(m:Nat)(p:Nat)(q:Nat):AH:={ objs:=eE (eE (eE (eE (eE (eE (eE (lL (AObj.cells 52 c2 false 0)) nZ) nZ) nZ) nZ) nZ) nZ) (eE nZ (eE nZ (eE nZ (eE nZ (eE nZ (lL (AObj.cells 52 c1 false 0))))))),next:=128 }
noncomputable def E(c1:List Value)(c2:List Value)(n:Nat)(m:Nat)(p:Nat)(q:Nat):AS:=⟨⟨14,26,nS (sS 126 0 n p) (lL (sS 127 0 m q)) nZ,[Item.code (codeAt bd [])],[],FrameMode.run,CallKind.normal,none⟩,[],H0 c1 c2 n m p q⟩
noncomputable def S0(c1:List Value)(c2:List Value)(n:Nat)(m:Nat)(p:Nat)(q:Nat)(i0:Int)(d:Nat→Value):AS:=⟨⟨14,26,nS (sS 126 0 n p) (nS (sS 127 0 m q) (nS (d 3) (nS (d 7) (lL (d 15)) (lL (d 23))) (nS (d 11) (lL (d 19)) nZ)) (nS (iI i0) (nS (d 9) (lL (d 17)) (lL (d 25))) (nS (d 13) (lL (d 21)) nZ))) (nS (d 2) (nS (d 4) (nS (d 8) (lL (d 16)) (lL (d 24))) (nS (d 12) (lL (d 20)) nZ)) (nS (d 6) (nS (d 10) (lL (d 18)) nZ) (nS (d 14) (lL (d 22)) nZ))),[Item.code (codeAt bd [1,1,0,1,0,0]),Item.inLoop (codeAt bd [1,1,0,1,0,0]),Item.inBlock 0,Item.code (codeAt bd [1,1,1])],[],FrameMode.run,CallKind.normal,none⟩,[],⟨eE (eE (eE (eE (eE (eE (eE (lL (AObj.cells 52 c2 false 0)) nZ) nZ) nZ) nZ) nZ) nZ) (eE nZ (eE nZ (eE nZ (eE nZ (eE nZ (lL (AObj.cells 52 c1 false 0))))))),128⟩⟩
theorem enter{η:Nat→Value}{B:Bd}(hη:OneCells η)(hmix:prog.follows .mixedOrders=true)(hreg:RegOk η prog B noNest){D:Value→AH→Prop}(c1:List Value)(c2:List Value)(n:Nat)(m:Nat)(p:Nat)(q:Nat)(h:W.holds η prog B 14 (fun kp_ st_=>RunD η prog B 14 (H0 c1 c2 n m p q) kp_ st_ (QF prog 128 D)) D (.ite ((↑n:Int) != (↑m:Int)) (.done 14 (Value.bool false) (H0 c1 c2 n m p q)) (.stop [0,1,5] (S0 c1 c2 n m p q (0) (fun _=>undef))))):CallSpec η prog B 14 [Value.slice (some ⟨126,0,none⟩) n p,Value.slice (some ⟨127,0,none⟩) m q] (H0 c1 c2 n m p q) D:=by
 refine CallSpec.ofQF hη (CallSpec.enter (fr:=(E c1 c2 n m p q).fr) (by kernel_rfl) ?_)
 exact walk_okT (h0:=H0 c1 c2 n m p q) hη hmix hreg (.steps 13 <| .bit 10 (.steps 6 <| .done none) (.steps 9 <| .stop [0,1,5] none)) (E c1 c2 n m p q) (by kernel_rfl) h (by kernel_rfl)
theorem cut0{η:Nat→Value}{B:Bd}(hη:OneCells η)(hmix:prog.follows .mixedOrders=true)(hreg:RegOk η prog B noNest){D:Value→AH→Prop}(c1:List Value)(c2:List Value)(n:Nat)(m:Nat)(p:Nat)(q:Nat)(i0:Int)(h:let q1:=((0:Nat)+i0.toNat * (2:Nat));let q0:=((0:Nat)+i0.toNat * (2:Nat)+(1:Nat));W.holds η prog B 14 (fun kp_ st_=>RunD η prog B 14 (H0 c1 c2 n m p q) kp_ st_ (QF prog 128 D)) D (.ite (decide (i0<(↑n:Int))) (.need ((0:Int)≤i0∧i0<(↑n:Int)) (.need ((0:Nat)+i0.toNat * (2:Nat)+(2:Nat)≤c1.length∧List.take (2:Nat) (List.drop q1 c1)=[Value.int IntKind.i64 (intAt c1 q1),Value.int IntKind.i64 (intAt c1 q0)]) (.need ((0:Int)≤i0∧i0<(↑m:Int)) (.need ((0:Nat)+i0.toNat * (2:Nat)+(2:Nat)≤c2.length∧List.take (2:Nat) (List.drop q1 c2)=[Value.int IntKind.i64 (intAt c2 q1),Value.int IntKind.i64 (intAt c2 q0)]) (.need (True) (.ite (!(intAt c1 q1 == intAt c2 q1 && intAt c1 q0 == intAt c2 q0)) (.need (NoNames c1∧NoNames c2∧True) (.done 14 (Value.bool false) (H0 c1 c2 n m p q))) (.need (NoNames c1∧NoNames c2∧True) (.stop [0,1,5] (S0 c1 c2 n m p q (IntKind.i64.wrap (i0+1)) (fun _=>undef)))))))))) (.done 14 (Value.bool true) (H0 c1 c2 n m p q)))):RunD η prog B 14 (H0 c1 c2 n m p q) [0,1,5] (S0 c1 c2 n m p q i0 fun _=>undef) (QF prog 128 D):=by
 refine RunD.intro (S0 c1 c2 n m p q i0) (fun d=>⟨rfl,rfl,rfl⟩) (fun d=>tmOk_get (by kernel_rfl)) (fun d=>by kernel_rfl) (fun d=>?_)
 exact walk_okT (h0:=H0 c1 c2 n m p q) hη hmix hreg (.steps 8 <| .bit 14 (.steps 5 <| .reg <| .steps 2 <| .op <| .op <| .steps 2 <| .op <| .op <| .op <| .reg <| .bit 25 (.steps 6 <| .done (some ⟨128,[],[(126,(126,true)),(127,(127,true))]⟩)) (.steps 9 <| .stop [0,1,5] (some ⟨128,[],[(126,(126,true)),(127,(127,true))]⟩))) (.steps 7 <| .done none)) (S0 c1 c2 n m p q i0 d) (by kernel_rfl) h (by kernel_rfl)
end KSame
namespace KSet
noncomputable def bd:Code:=(Go.Proofs.Try.f20.body).getD .skip
noncomputable def H0(f:Nat)(x:Int)(n:Nat)(s:HQ.QS)(y:Int)(v:Int):AH:={ objs:=eE (eE (eE (eE (eE (eE (eE (lL (AObj.cells 74 [Value.func (Fn.func f) ⟨[]⟩ ⟨[]⟩,iI x,sS 128 0 n u2,Value.map (some 129)] true 2)) nZ) nZ) nZ) nZ) nZ) (eE (eE (eE (eE (eE (lL (AObj.map s.E s.ck true)) nZ) nZ) nZ) nZ) nZ)) (eE (eE (eE (eE (eE (eE (lL (AObj.cells 52 s.c false 2)) nZ) nZ) nZ) nZ) nZ) (eE nZ (eE nZ (eE nZ (eE nZ (lL (AObj.cells 78 [pP 126 0,pP 127 0] true 2))))))),next:=130 }
noncomputable def E(f:Nat)(x:Int)(n:Nat)(s:HQ.QS)(y:Int)(v:Int):AS:=⟨⟨20,36,nS (pP 126 0) (lL (iI y)) (lL (iI v)),[Item.code (codeAt bd [])],[],FrameMode.run,CallKind.normal,none⟩,[],H0 f x n s y v⟩
theorem enter{η:Nat→Value}{B:Bd}(hη:OneCells η)(hmix:prog.follows .mixedOrders=true)(hreg:RegOk η prog B noNest){D:Value→AH→Prop}(f:Nat)(x:Int)(n:Nat)(s:HQ.QS)(y:Int)(v:Int)(h:let q4:=(mFind (TypeDesc.int IntKind.i64) (Value.int IntKind.i64 y) s.E);let q3:=(cellsL (mVal (Value.int IntKind.i64 (0:Int)) q4));let q2:=(intAt (cellsL (mVal (Value.int IntKind.i64 0) q4)) 0);let q1:=(intAt q3 (0:Nat));let q0:AH:=⟨eE (eE (eE (eE (eE (eE (eE (lL (AObj.cells 74 [Value.func (Fn.func f) ⟨[]⟩ ⟨[]⟩,iI x,sS 128 0 n u2,Value.map (some 129)] true 2)) nZ) nZ) nZ) nZ) nZ) (eE (eE (eE (eE (eE (lL (AObj.map (HQ.QS.fixA f n (HQ.QS.mk (splice s.c (0+q2.toNat * 2+1) [iI v]) (s.E) (s.ck)) q2.toNat).E (HQ.QS.fixA f n (HQ.QS.mk (splice s.c (0+q2.toNat * 2+1) [iI v]) (s.E) (s.ck)) q2.toNat).ck true)) nZ) nZ) nZ) nZ) nZ)) (eE (eE (eE (eE (eE (eE (lL (AObj.cells 52 (HQ.QS.fixA f n (HQ.QS.mk (splice s.c (0+q2.toNat * 2+1) [iI v]) (s.E) (s.ck)) q2.toNat).c false 2)) nZ) nZ) nZ) nZ) nZ) (eE nZ (eE nZ (eE nZ (eE nZ (lL (AObj.cells 78 [pP 126 0,pP 127 0] true 2))))))),130⟩;W.holds η prog B 20 (fun kp_ st_=>RunD η prog B 20 (H0 f x n s y v) kp_ st_ (QF prog 130 D)) D (.need (Instr.findNow (TypeDesc.int IntKind.i64) (Value.int IntKind.i64 y) s.E (0:Nat)=some q4∧mVal (Value.int IntKind.i64 (0:Int)) q4=Value.int IntKind.i64 q1) (.ite (!q4.isSome) (.done 20 (Value.int IntKind.i64 4) (H0 f x n s y v)) (.need ((0:Int)≤intAt q3 (0:Nat)∧intAt q3 (0:Nat)<(↑n:Int)) (.need ((0:Nat)+q1.toNat * (2:Nat)+(1:Nat)+(1:Nat)≤s.c.length) (.call 50 [Value.iface 69 (Value.pointer (some ⟨127,0,none⟩)),Value.int IntKind.i64 q2] (⟨eE (eE (eE (eE (eE (eE (eE (lL (AObj.cells 74 [Value.func (Fn.func f) ⟨[]⟩ ⟨[]⟩,iI x,sS 128 0 n u2,Value.map (some 129)] true 2)) nZ) nZ) nZ) nZ) nZ) (eE (eE (eE (eE (eE (lL (AObj.map s.E s.ck true)) nZ) nZ) nZ) nZ) nZ)) (eE (eE (eE (eE (eE (eE (lL (AObj.cells 52 (splice s.c (0+q2.toNat * 2+1) [iI v]) false 2)) nZ) nZ) nZ) nZ) nZ) (eE nZ (eE nZ (eE nZ (eE nZ (lL (AObj.cells 78 [pP 126 0,pP 127 0] true 2))))))),130⟩) (.ret (undef) (q0)) (.done 20 (Value.int IntKind.i64 0) (q0)))))))):CallSpec η prog B 20 [Value.pointer (some ⟨126,0,none⟩),Value.int IntKind.i64 y,Value.int IntKind.i64 v] (H0 f x n s y v) D:=by
 refine CallSpec.ofQF hη (CallSpec.enter (fr:=(E f x n s y v).fr) (by kernel_rfl) ?_)
 exact walk_okT (h0:=H0 f x n s y v) hη hmix hreg (.steps 53 <| .op <| .steps 12 <| .bit 24 (.steps 27 <| .done none) (.steps 35 <| .op <| .steps 1 <| .op <| .steps 9 <| .call kN <| .steps 6 <| .done none)) (E f x n s y v) (by kernel_rfl) h (by kernel_rfl)
end KSet
namespace KVPop
noncomputable def bd:Code:=(Go.Proofs.Try.f116.body).getD .skip
noncomputable def H0(f:Nat)(x:Int)(n:Nat)(cap:Nat)(s:HQ.QS):AH:={ objs:=eE (eE (eE (eE (eE (eE (eE (lL (AObj.cells 52 s.c false 2)) nZ) nZ) nZ) nZ) nZ) nZ) (eE (eE (eE (eE (eE (eE (lL (AObj.map s.E s.ck true)) nZ) nZ) nZ) nZ) nZ) (eE nZ (eE nZ (eE nZ (eE nZ (lL (AObj.cells 74 [Value.func (Fn.func f) ⟨[]⟩ ⟨[]⟩,iI x,sS 127 0 n u2,Value.map (some 128)] true 2))))))),next:=129 }
noncomputable def E(f:Nat)(x:Int)(n:Nat)(cap:Nat)(s:HQ.QS):AS:=⟨⟨116,41,lL (pP 126 0),[Item.code (codeAt bd [])],[],FrameMode.run,CallKind.normal,none⟩,[],H0 f x n cap s⟩
theorem enter{η:Nat→Value}{B:Bd}(hη:OneCells η)(hmix:prog.follows .mixedOrders=true)(hreg:RegOk η prog B noNest){D:Value→AH→Prop}(f:Nat)(x:Int)(n:Nat)(cap:Nat)(s:HQ.QS)(h:let q7:=(IntKind.i64.wrap ((↑n:Int) - (1:Int)));let q6:=((0:Nat)+q7.toNat * (2:Nat));let q5:=(Value.int IntKind.i64 (intAt s.c q6));let q4:=(rep [Value.int IntKind.i64 (0:Int),Value.int IntKind.i64 (0:Int)] ((↑n:Int).toNat - q7.toNat));let q3:=(mFind (TypeDesc.int IntKind.i64) q5 s.E);let q2:=(mDel s.E q3);let q1:=(Value.iface 52 (Value.agg ⟨[Value.int IntKind.i64 (intAt s.c (0+(IntKind.i64.wrap ((↑n:Int) - 1)).toNat * 2)),Value.int IntKind.i64 (intAt s.c (0+(IntKind.i64.wrap ((↑n:Int) - 1)).toNat * 2+1))]⟩));let q0:T AObj:=(eE (eE (eE (eE (eE (eE (lL (AObj.map (mDel s.E (mFind (TypeDesc.int IntKind.i64) (iI (intAt s.c (0+(IntKind.i64.wrap ((↑n:Int) - 1)).toNat * 2))) s.E)) s.ck true)) nZ) nZ) nZ) nZ) nZ) (eE nZ (eE nZ (eE nZ (eE nZ (lL (AObj.cells 74 [Value.func (Fn.func f) ⟨[]⟩ ⟨[]⟩,iI x,sS 127 0 ((IntKind.i64.wrap ((↑n:Int) - 1)).toNat - 0) u2,Value.map (some 128)] true 2)))))));W.holds η prog B 116 (fun kp_ st_=>RunD η prog B 116 (H0 f x n cap s) kp_ st_ (QF prog 129 D)) D (.need ((0:Int)≤IntKind.i64.wrap ((↑n:Int) - (1:Int))∧IntKind.i64.wrap ((↑n:Int) - (1:Int))<(↑n:Int)) (.need ((0:Nat)+q7.toNat * (2:Nat)+(2:Nat)≤s.c.length∧List.take (2:Nat) (List.drop q6 s.c)=[Value.int IntKind.i64 (intAt s.c q6),Value.int IntKind.i64 (intAt s.c ((0:Nat)+q7.toNat * (2:Nat)+(1:Nat)))]) (.need ((0:Int)≤IntKind.i64.wrap ((↑n:Int) - (1:Int))∧IntKind.i64.wrap ((↑n:Int) - (1:Int))≤(↑n:Int)∧(9223372036854775810:Nat)=(9223372036854775810:Nat)∧(2:Nat) ≠ (0:Nat)∧(↑n:Int)≤(↑n:Int)∧(IntKind.i64.wrap ((↑n:Int) - (1:Int))<(↑n:Int)∨IntKind.i64.wrap ((↑n:Int) - (1:Int))=(0:Int))) (.need ((0:Nat)+q7.toNat * (2:Nat)+q4.length≤s.c.length) (.ite ((↑n:Int).toNat - q7.toNat == (0:Nat)) (.need ((0:Int)≤(0:Int)∧(0:Int)≤IntKind.i64.wrap ((↑n:Int) - (1:Int))∧(9223372036854775810:Nat)=(9223372036854775810:Nat)∧(2:Nat) ≠ (0:Nat)∧IntKind.i64.wrap ((↑n:Int) - (1:Int))≤(↑n:Int)∧((0:Int)<(↑n:Int)∨(0:Int)=(0:Int))) (.need (Instr.findNow (TypeDesc.int IntKind.i64) q5 s.E (0:Nat)=some q3) (.need (True∧NoNames s.c∧NoNamesE q2∧True) (.done 116 q1 (⟨eE (eE (eE (eE (eE (eE (eE (lL (AObj.cells 52 s.c false 2)) nZ) nZ) nZ) nZ) nZ) nZ) q0,129⟩))))) (.need ((0:Int)≤(0:Int)∧(0:Int)≤IntKind.i64.wrap ((↑n:Int) - (1:Int))∧(9223372036854775810:Nat)=(9223372036854775810:Nat)∧(2:Nat) ≠ (0:Nat)∧IntKind.i64.wrap ((↑n:Int) - (1:Int))≤(↑n:Int)∧((0:Int)<(↑n:Int)∨(0:Int)=(0:Int))) (.need (Instr.findNow (TypeDesc.int IntKind.i64) q5 s.E (0:Nat)=some q3) (.need (True∧NoNames (splice s.c q6 q4)∧NoNamesE q2∧True) (.done 116 q1 (⟨eE (eE (eE (eE (eE (eE (eE (lL (AObj.cells 52 (splice s.c (0+(IntKind.i64.wrap ((↑n:Int) - 1)).toNat * 2) (rep [iI 0,iI 0] ((↑n:Int).toNat - (IntKind.i64.wrap ((↑n:Int) - 1)).toNat))) false 2)) nZ) nZ) nZ) nZ) nZ) nZ) q0,129⟩))))))))))):CallSpec η prog B 116 [Value.pointer (some ⟨126,0,none⟩)] (H0 f x n cap s) D:=by
 refine CallSpec.ofQF hη (CallSpec.enter (fr:=(E f x n cap s).fr) (by kernel_rfl) ?_)
 exact walk_okT (h0:=H0 f x n cap s) hη hmix hreg (.steps 21 <| .op <| .op <| .steps 10 <| .op <| .op <| .both (.steps 9 <| .op <| .steps 5 <| .reg <| .steps 6 <| .op <| .reg <| .steps 7 <| .done (some ⟨129,[],[(126,(126,false)),(127,(127,true)),(128,(128,true))]⟩)) (.steps 9 <| .op <| .steps 5 <| .reg <| .steps 6 <| .op <| .reg <| .steps 7 <| .done (some ⟨129,[],[(126,(126,false)),(127,(127,true)),(128,(128,true))]⟩))) (E f x n cap s) (by kernel_rfl) h (by kernel_rfl)
end KVPop
namespace KHRem
noncomputable def bd:Code:=(Go.Proofs.Try.f49.body).getD .skip
noncomputable def H0(f:Nat)(x:Int)(n:Nat)(s:HQ.QS)(i:Nat):AH:={ objs:=eE (eE (eE (eE (eE (eE (eE (lL (AObj.cells 52 s.c false 2)) nZ) nZ) nZ) nZ) nZ) nZ) (eE (eE (eE (eE (eE (eE (lL (AObj.map s.E s.ck true)) nZ) nZ) nZ) nZ) nZ) (eE nZ (eE nZ (eE nZ (eE nZ (lL (AObj.cells 74 [Value.func (Fn.func f) ⟨[]⟩ ⟨[]⟩,iI x,sS 127 0 n u2,Value.map (some 128)] true 2))))))),next:=129 }
noncomputable def E(f:Nat)(x:Int)(n:Nat)(s:HQ.QS)(i:Nat):AS:=⟨⟨49,26,nS (Value.iface 69 (pP 126 0)) (lL (iI (↑i:Int))) nZ,[Item.code (codeAt bd [])],[],FrameMode.run,CallKind.normal,none⟩,[],H0 f x n s i⟩
theorem enter{η:Nat→Value}{B:Bd}(hη:OneCells η)(hmix:prog.follows .mixedOrders=true)(hreg:RegOk η prog B noNest){D:Value→AH→Prop}(f:Nat)(x:Int)(n:Nat)(s:HQ.QS)(i:Nat)(h:let q13:=(IntKind.i64.wrap ((↑n:Int) - 1));let q12:=(IntKind.i64.wrap ((↑n:Int) - (1:Int)));let q11:=((HQ.QS.mk (s.c) (s.E) (s.ck)).swap (↑i:Int).toNat q13.toNat);let q10:=((HQ.QS.mk (s.c) (s.E) (s.ck)).swap (↑i:Int).toNat q12.toNat);let q9:=(Value.iface 52 (Value.agg ⟨[Value.int IntKind.i64 (intAt s.c ((n - 1) * 2)),Value.int IntKind.i64 (intAt s.c ((n - 1) * 2+1))]⟩));let q8:AH:=⟨eE (eE (eE (eE (eE (eE (eE (lL (AObj.cells 52 s.c false 2)) nZ) nZ) nZ) nZ) nZ) nZ) (eE (eE (eE (eE (eE (eE (lL (AObj.map s.E s.ck true)) nZ) nZ) nZ) nZ) nZ) (eE nZ (eE nZ (eE nZ (eE nZ (lL (AObj.cells 74 [Value.func (Fn.func f) ⟨[]⟩ ⟨[]⟩,iI x,sS 127 0 n u2,Value.map (some 128)] true 2))))))),129⟩;let q7:AH:=⟨eE (eE (eE (eE (eE (eE (eE (lL (AObj.cells 52 (HQ.QS.vpop n (HQ.QS.mk (s.c) (s.E) (s.ck))).c false 2)) nZ) nZ) nZ) nZ) nZ) nZ) (eE (eE (eE (eE (eE (eE (lL (AObj.map (HQ.QS.vpop n (HQ.QS.mk (s.c) (s.E) (s.ck))).E (HQ.QS.vpop n (HQ.QS.mk (s.c) (s.E) (s.ck))).ck true)) nZ) nZ) nZ) nZ) nZ) (eE nZ (eE nZ (eE nZ (eE nZ (lL (AObj.cells 74 [Value.func (Fn.func f) ⟨[]⟩ ⟨[]⟩,iI x,sS 127 0 (n - 1) u2,Value.map (some 128)] true 2))))))),129⟩;let q6:AH:=⟨eE (eE (eE (eE (eE (eE (eE (lL (AObj.cells 52 q11.c false 2)) nZ) nZ) nZ) nZ) nZ) nZ) (eE (eE (eE (eE (eE (eE (lL (AObj.map q11.E q11.ck true)) nZ) nZ) nZ) nZ) nZ) (eE nZ (eE nZ (eE nZ (eE nZ (lL (AObj.cells 74 [Value.func (Fn.func f) ⟨[]⟩ ⟨[]⟩,iI x,sS 127 0 n u2,Value.map (some 128)] true 2))))))),129⟩;let q5:=(Value.iface 52 (Value.agg ⟨[Value.int IntKind.i64 (intAt (HQ.QS.down f q13.toNat (q13.toNat+1) (HQ.QS.mk (q11.c) (q11.E) (q11.ck)) (↑i:Int).toNat).fst.c ((n - 1) * 2)),Value.int IntKind.i64 (intAt (HQ.QS.down f q13.toNat (q13.toNat+1) (HQ.QS.mk (q11.c) (q11.E) (q11.ck)) (↑i:Int).toNat).fst.c ((n - 1) * 2+1))]⟩));let q4:AH:=⟨eE (eE (eE (eE (eE (eE (eE (lL (AObj.cells 52 (HQ.QS.down f q13.toNat (q13.toNat+1) (HQ.QS.mk (q11.c) (q11.E) (q11.ck)) (↑i:Int).toNat).fst.c false 2)) nZ) nZ) nZ) nZ) nZ) nZ) (eE (eE (eE (eE (eE (eE (lL (AObj.map (HQ.QS.down f q13.toNat (q13.toNat+1) (HQ.QS.mk (q11.c) (q11.E) (q11.ck)) (↑i:Int).toNat).fst.E (HQ.QS.down f q13.toNat (q13.toNat+1) (HQ.QS.mk (q11.c) (q11.E) (q11.ck)) (↑i:Int).toNat).fst.ck true)) nZ) nZ) nZ) nZ) nZ) (eE nZ (eE nZ (eE nZ (eE nZ (lL (AObj.cells 74 [Value.func (Fn.func f) ⟨[]⟩ ⟨[]⟩,iI x,sS 127 0 n u2,Value.map (some 128)] true 2))))))),129⟩;let q3:=(Value.iface 52 (Value.agg ⟨[Value.int IntKind.i64 (intAt (HQ.QS.up f ((↑i:Int).toNat+1) (HQ.QS.mk ((HQ.QS.down f q13.toNat (q13.toNat+1) (HQ.QS.mk (q11.c) (q11.E) (q11.ck)) (↑i:Int).toNat).fst.c) ((HQ.QS.down f q13.toNat (q13.toNat+1) (HQ.QS.mk (q11.c) (q11.E) (q11.ck)) (↑i:Int).toNat).fst.E) ((HQ.QS.down f q13.toNat (q13.toNat+1) (HQ.QS.mk (q11.c) (q11.E) (q11.ck)) (↑i:Int).toNat).fst.ck)) (↑i:Int).toNat).c ((n - 1) * 2)),Value.int IntKind.i64 (intAt (HQ.QS.up f ((↑i:Int).toNat+1) (HQ.QS.mk ((HQ.QS.down f q13.toNat (q13.toNat+1) (HQ.QS.mk (q11.c) (q11.E) (q11.ck)) (↑i:Int).toNat).fst.c) ((HQ.QS.down f q13.toNat (q13.toNat+1) (HQ.QS.mk (q11.c) (q11.E) (q11.ck)) (↑i:Int).toNat).fst.E) ((HQ.QS.down f q13.toNat (q13.toNat+1) (HQ.QS.mk (q11.c) (q11.E) (q11.ck)) (↑i:Int).toNat).fst.ck)) (↑i:Int).toNat).c ((n - 1) * 2+1))]⟩));let q2:AH:=⟨eE (eE (eE (eE (eE (eE (eE (lL (AObj.cells 52 (HQ.QS.vpop n (HQ.QS.mk ((HQ.QS.down f q13.toNat (q13.toNat+1) (HQ.QS.mk (q11.c) (q11.E) (q11.ck)) (↑i:Int).toNat).fst.c) ((HQ.QS.down f q13.toNat (q13.toNat+1) (HQ.QS.mk (q11.c) (q11.E) (q11.ck)) (↑i:Int).toNat).fst.E) ((HQ.QS.down f q13.toNat (q13.toNat+1) (HQ.QS.mk (q11.c) (q11.E) (q11.ck)) (↑i:Int).toNat).fst.ck))).c false 2)) nZ) nZ) nZ) nZ) nZ) nZ) (eE (eE (eE (eE (eE (eE (lL (AObj.map (HQ.QS.vpop n (HQ.QS.mk ((HQ.QS.down f q13.toNat (q13.toNat+1) (HQ.QS.mk (q11.c) (q11.E) (q11.ck)) (↑i:Int).toNat).fst.c) ((HQ.QS.down f q13.toNat (q13.toNat+1) (HQ.QS.mk (q11.c) (q11.E) (q11.ck)) (↑i:Int).toNat).fst.E) ((HQ.QS.down f q13.toNat (q13.toNat+1) (HQ.QS.mk (q11.c) (q11.E) (q11.ck)) (↑i:Int).toNat).fst.ck))).E (HQ.QS.vpop n (HQ.QS.mk ((HQ.QS.down f q13.toNat (q13.toNat+1) (HQ.QS.mk (q11.c) (q11.E) (q11.ck)) (↑i:Int).toNat).fst.c) ((HQ.QS.down f q13.toNat (q13.toNat+1) (HQ.QS.mk (q11.c) (q11.E) (q11.ck)) (↑i:Int).toNat).fst.E) ((HQ.QS.down f q13.toNat (q13.toNat+1) (HQ.QS.mk (q11.c) (q11.E) (q11.ck)) (↑i:Int).toNat).fst.ck))).ck true)) nZ) nZ) nZ) nZ) nZ) (eE nZ (eE nZ (eE nZ (eE nZ (lL (AObj.cells 74 [Value.func (Fn.func f) ⟨[]⟩ ⟨[]⟩,iI x,sS 127 0 (n - 1) u2,Value.map (some 128)] true 2))))))),129⟩;let q1:AH:=⟨eE (eE (eE (eE (eE (eE (eE (lL (AObj.cells 52 (HQ.QS.up f ((↑i:Int).toNat+1) (HQ.QS.mk ((HQ.QS.down f q13.toNat (q13.toNat+1) (HQ.QS.mk (q11.c) (q11.E) (q11.ck)) (↑i:Int).toNat).fst.c) ((HQ.QS.down f q13.toNat (q13.toNat+1) (HQ.QS.mk (q11.c) (q11.E) (q11.ck)) (↑i:Int).toNat).fst.E) ((HQ.QS.down f q13.toNat (q13.toNat+1) (HQ.QS.mk (q11.c) (q11.E) (q11.ck)) (↑i:Int).toNat).fst.ck)) (↑i:Int).toNat).c false 2)) nZ) nZ) nZ) nZ) nZ) nZ) (eE (eE (eE (eE (eE (eE (lL (AObj.map (HQ.QS.up f ((↑i:Int).toNat+1) (HQ.QS.mk ((HQ.QS.down f q13.toNat (q13.toNat+1) (HQ.QS.mk (q11.c) (q11.E) (q11.ck)) (↑i:Int).toNat).fst.c) ((HQ.QS.down f q13.toNat (q13.toNat+1) (HQ.QS.mk (q11.c) (q11.E) (q11.ck)) (↑i:Int).toNat).fst.E) ((HQ.QS.down f q13.toNat (q13.toNat+1) (HQ.QS.mk (q11.c) (q11.E) (q11.ck)) (↑i:Int).toNat).fst.ck)) (↑i:Int).toNat).E (HQ.QS.up f ((↑i:Int).toNat+1) (HQ.QS.mk ((HQ.QS.down f q13.toNat (q13.toNat+1) (HQ.QS.mk (q11.c) (q11.E) (q11.ck)) (↑i:Int).toNat).fst.c) ((HQ.QS.down f q13.toNat (q13.toNat+1) (HQ.QS.mk (q11.c) (q11.E) (q11.ck)) (↑i:Int).toNat).fst.E) ((HQ.QS.down f q13.toNat (q13.toNat+1) (HQ.QS.mk (q11.c) (q11.E) (q11.ck)) (↑i:Int).toNat).fst.ck)) (↑i:Int).toNat).ck true)) nZ) nZ) nZ) nZ) nZ) (eE nZ (eE nZ (eE nZ (eE nZ (lL (AObj.cells 74 [Value.func (Fn.func f) ⟨[]⟩ ⟨[]⟩,iI x,sS 127 0 n u2,Value.map (some 128)] true 2))))))),129⟩;let q0:AH:=⟨eE (eE (eE (eE (eE (eE (eE (lL (AObj.cells 52 (HQ.QS.vpop n (HQ.QS.mk ((HQ.QS.up f ((↑i:Int).toNat+1) (HQ.QS.mk ((HQ.QS.down f q13.toNat (q13.toNat+1) (HQ.QS.mk (q11.c) (q11.E) (q11.ck)) (↑i:Int).toNat).fst.c) ((HQ.QS.down f q13.toNat (q13.toNat+1) (HQ.QS.mk (q11.c) (q11.E) (q11.ck)) (↑i:Int).toNat).fst.E) ((HQ.QS.down f q13.toNat (q13.toNat+1) (HQ.QS.mk (q11.c) (q11.E) (q11.ck)) (↑i:Int).toNat).fst.ck)) (↑i:Int).toNat).c) ((HQ.QS.up f ((↑i:Int).toNat+1) (HQ.QS.mk ((HQ.QS.down f q13.toNat (q13.toNat+1) (HQ.QS.mk (q11.c) (q11.E) (q11.ck)) (↑i:Int).toNat).fst.c) ((HQ.QS.down f q13.toNat (q13.toNat+1) (HQ.QS.mk (q11.c) (q11.E) (q11.ck)) (↑i:Int).toNat).fst.E) ((HQ.QS.down f q13.toNat (q13.toNat+1) (HQ.QS.mk (q11.c) (q11.E) (q11.ck)) (↑i:Int).toNat).fst.ck)) (↑i:Int).toNat).E) ((HQ.QS.up f ((↑i:Int).toNat+1) (HQ.QS.mk ((HQ.QS.down f q13.toNat (q13.toNat+1) (HQ.QS.mk (q11.c) (q11.E) (q11.ck)) (↑i:Int).toNat).fst.c) ((HQ.QS.down f q13.toNat (q13.toNat+1) (HQ.QS.mk (q11.c) (q11.E) (q11.ck)) (↑i:Int).toNat).fst.E) ((HQ.QS.down f q13.toNat (q13.toNat+1) (HQ.QS.mk (q11.c) (q11.E) (q11.ck)) (↑i:Int).toNat).fst.ck)) (↑i:Int).toNat).ck))).c false 2)) nZ) nZ) nZ) nZ) nZ) nZ) (eE (eE (eE (eE (eE (eE (lL (AObj.map (HQ.QS.vpop n (HQ.QS.mk ((HQ.QS.up f ((↑i:Int).toNat+1) (HQ.QS.mk ((HQ.QS.down f q13.toNat (q13.toNat+1) (HQ.QS.mk (q11.c) (q11.E) (q11.ck)) (↑i:Int).toNat).fst.c) ((HQ.QS.down f q13.toNat (q13.toNat+1) (HQ.QS.mk (q11.c) (q11.E) (q11.ck)) (↑i:Int).toNat).fst.E) ((HQ.QS.down f q13.toNat (q13.toNat+1) (HQ.QS.mk (q11.c) (q11.E) (q11.ck)) (↑i:Int).toNat).fst.ck)) (↑i:Int).toNat).c) ((HQ.QS.up f ((↑i:Int).toNat+1) (HQ.QS.mk ((HQ.QS.down f q13.toNat (q13.toNat+1) (HQ.QS.mk (q11.c) (q11.E) (q11.ck)) (↑i:Int).toNat).fst.c) ((HQ.QS.down f q13.toNat (q13.toNat+1) (HQ.QS.mk (q11.c) (q11.E) (q11.ck)) (↑i:Int).toNat).fst.E) ((HQ.QS.down f q13.toNat (q13.toNat+1) (HQ.QS.mk (q11.c) (q11.E) (q11.ck)) (↑i:Int).toNat).fst.ck)) (↑i:Int).toNat).E) ((HQ.QS.up f ((↑i:Int).toNat+1) (HQ.QS.mk ((HQ.QS.down f q13.toNat (q13.toNat+1) (HQ.QS.mk (q11.c) (q11.E) (q11.ck)) (↑i:Int).toNat).fst.c) ((HQ.QS.down f q13.toNat (q13.toNat+1) (HQ.QS.mk (q11.c) (q11.E) (q11.ck)) (↑i:Int).toNat).fst.E) ((HQ.QS.down f q13.toNat (q13.toNat+1) (HQ.QS.mk (q11.c) (q11.E) (q11.ck)) (↑i:Int).toNat).fst.ck)) (↑i:Int).toNat).ck))).E (HQ.QS.vpop n (HQ.QS.mk ((HQ.QS.up f ((↑i:Int).toNat+1) (HQ.QS.mk ((HQ.QS.down f q13.toNat (q13.toNat+1) (HQ.QS.mk (q11.c) (q11.E) (q11.ck)) (↑i:Int).toNat).fst.c) ((HQ.QS.down f q13.toNat (q13.toNat+1) (HQ.QS.mk (q11.c) (q11.E) (q11.ck)) (↑i:Int).toNat).fst.E) ((HQ.QS.down f q13.toNat (q13.toNat+1) (HQ.QS.mk (q11.c) (q11.E) (q11.ck)) (↑i:Int).toNat).fst.ck)) (↑i:Int).toNat).c) ((HQ.QS.up f ((↑i:Int).toNat+1) (HQ.QS.mk ((HQ.QS.down f q13.toNat (q13.toNat+1) (HQ.QS.mk (q11.c) (q11.E) (q11.ck)) (↑i:Int).toNat).fst.c) ((HQ.QS.down f q13.toNat (q13.toNat+1) (HQ.QS.mk (q11.c) (q11.E) (q11.ck)) (↑i:Int).toNat).fst.E) ((HQ.QS.down f q13.toNat (q13.toNat+1) (HQ.QS.mk (q11.c) (q11.E) (q11.ck)) (↑i:Int).toNat).fst.ck)) (↑i:Int).toNat).E) ((HQ.QS.up f ((↑i:Int).toNat+1) (HQ.QS.mk ((HQ.QS.down f q13.toNat (q13.toNat+1) (HQ.QS.mk (q11.c) (q11.E) (q11.ck)) (↑i:Int).toNat).fst.c) ((HQ.QS.down f q13.toNat (q13.toNat+1) (HQ.QS.mk (q11.c) (q11.E) (q11.ck)) (↑i:Int).toNat).fst.E) ((HQ.QS.down f q13.toNat (q13.toNat+1) (HQ.QS.mk (q11.c) (q11.E) (q11.ck)) (↑i:Int).toNat).fst.ck)) (↑i:Int).toNat).ck))).ck true)) nZ) nZ) nZ) nZ) nZ) (eE nZ (eE nZ (eE nZ (eE nZ (lL (AObj.cells 74 [Value.func (Fn.func f) ⟨[]⟩ ⟨[]⟩,iI x,sS 127 0 (n - 1) u2,Value.map (some 128)] true 2))))))),129⟩;W.holds η prog B 49 (fun kp_ st_=>RunD η prog B 49 (H0 f x n s i) kp_ st_ (QF prog 129 D)) D (.ite (IntKind.i64.wrap ((↑n:Int) - (1:Int)) != (↑i:Int)) (.call 118 [Value.pointer (some ⟨126,0,none⟩),Value.int IntKind.i64 (↑i:Int),Value.int IntKind.i64 q13] (q8) (.ret (undef) (q6)) (.call 66 [Value.iface 69 (Value.pointer (some ⟨126,0,none⟩)),Value.int IntKind.i64 (↑i:Int),Value.int IntKind.i64 q13] (q6) (.ret (Value.bool (decide ((↑i:Int).toNat<(HQ.QS.down f q13.toNat (q13.toNat+1) (HQ.QS.mk (q11.c) (q11.E) (q11.ck)) (↑i:Int).toNat).snd))) (q4)) (.ite (!decide ((↑i:Int).toNat<(HQ.QS.down f q12.toNat (q12.toNat+(1:Nat)) (HQ.QS.mk (q10.c) (q10.E) (q10.ck)) (↑i:Int).toNat).snd)) (.call 65 [Value.iface 69 (Value.pointer (some ⟨126,0,none⟩)),Value.int IntKind.i64 (↑i:Int)] (q4) (.ret (undef) (q1)) (.call 116 [Value.pointer (some ⟨126,0,none⟩)] (q1) (.ret q3 (q0)) (.done 49 q3 (q0)))) (.call 116 [Value.pointer (some ⟨126,0,none⟩)] (q4) (.ret q5 (q2)) (.done 49 q5 (q2)))))) (.call 116 [Value.pointer (some ⟨126,0,none⟩)] (q8) (.ret q9 (q7)) (.done 49 q9 (q7))))):CallSpec η prog B 49 [Value.iface 69 (Value.pointer (some ⟨126,0,none⟩)),Value.int IntKind.i64 (↑i:Int)] (H0 f x n s i) D:=by
 refine CallSpec.ofQF hη (CallSpec.enter (fr:=(E f x n s i).fr) (by kernel_rfl) ?_)
 exact walk_okT (h0:=H0 f x n s i) hη hmix hreg (.steps 33 <| .bit 11 (.steps 6 <| .call kN <| .steps 6 <| .call kN <| .steps 2 <| .bit 20 (.steps 4 <| .call kN <| .steps 4 <| .call kN <| .steps 3 <| .done none) (.steps 5 <| .call kN <| .steps 3 <| .done none)) (.steps 5 <| .call kN <| .steps 3 <| .done none)) (E f x n s i) (by kernel_rfl) h (by kernel_rfl)
end KHRem
namespace KRem
noncomputable def bd:Code:=(Go.Proofs.Try.f18.body).getD .skip
noncomputable def H0(f:Nat)(x:Int)(n:Nat)(s:HQ.QS)(y:Int):AH:={ objs:=eE (eE (eE (eE (eE (eE (eE (lL (AObj.cells 74 [Value.func (Fn.func f) ⟨[]⟩ ⟨[]⟩,iI x,sS 128 0 n u2,Value.map (some 129)] true 2)) nZ) nZ) nZ) nZ) nZ) (eE (eE (eE (eE (eE (lL (AObj.map s.E s.ck true)) nZ) nZ) nZ) nZ) nZ)) (eE (eE (eE (eE (eE (eE (lL (AObj.cells 52 s.c false 2)) nZ) nZ) nZ) nZ) nZ) (eE nZ (eE nZ (eE nZ (eE nZ (lL (AObj.cells 78 [pP 126 0,pP 127 0] true 2))))))),next:=130 }
noncomputable def E(f:Nat)(x:Int)(n:Nat)(s:HQ.QS)(y:Int):AS:=⟨⟨18,26,nS (pP 126 0) (lL (iI y)) nZ,[Item.code (codeAt bd [])],[],FrameMode.run,CallKind.normal,none⟩,[],H0 f x n s y⟩
theorem enter{η:Nat→Value}{B:Bd}(hη:OneCells η)(hmix:prog.follows .mixedOrders=true)(hreg:RegOk η prog B noNest){D:Value→AH→Prop}(f:Nat)(x:Int)(n:Nat)(s:HQ.QS)(y:Int)(h:let q3:=(mFind (TypeDesc.int IntKind.i64) (Value.int IntKind.i64 y) s.E);let q2:=(intAt (cellsL (mVal (Value.int IntKind.i64 0) q3)) 0);let q1:=(intAt (HQ.QS.rem1 f n (HQ.QS.mk (s.c) (s.E) (s.ck)) q2.toNat).c ((n - 1) * 2+1));let q0:AH:=⟨eE (eE (eE (eE (eE (eE (eE (lL (AObj.cells 74 [Value.func (Fn.func f) ⟨[]⟩ ⟨[]⟩,iI x,sS 128 0 (n - 1) u2,Value.map (some 129)] true 2)) nZ) nZ) nZ) nZ) nZ) (eE (eE (eE (eE (eE (lL (AObj.map (HQ.QS.rem f n (HQ.QS.mk (s.c) (s.E) (s.ck)) q2.toNat).E (HQ.QS.rem f n (HQ.QS.mk (s.c) (s.E) (s.ck)) q2.toNat).ck true)) nZ) nZ) nZ) nZ) nZ)) (eE (eE (eE (eE (eE (eE (lL (AObj.cells 52 (HQ.QS.rem f n (HQ.QS.mk (s.c) (s.E) (s.ck)) q2.toNat).c false 2)) nZ) nZ) nZ) nZ) nZ) (eE nZ (eE nZ (eE nZ (eE nZ (lL (AObj.cells 78 [pP 126 0,pP 127 0] true 2))))))),130⟩;W.holds η prog B 18 (fun kp_ st_=>RunD η prog B 18 (H0 f x n s y) kp_ st_ (QF prog 130 D)) D (.need (Instr.findNow (TypeDesc.int IntKind.i64) (Value.int IntKind.i64 y) s.E (0:Nat)=some q3∧mVal (Value.int IntKind.i64 (0:Int)) q3=Value.int IntKind.i64 (intAt (cellsL (mVal (Value.int IntKind.i64 (0:Int)) q3)) (0:Nat))) (.ite (!q3.isSome) (.done 18 (Value.tuple ⟨[Value.int IntKind.i64 0,Value.int IntKind.i64 4]⟩) (H0 f x n s y)) (.call 49 [Value.iface 69 (Value.pointer (some ⟨127,0,none⟩)),Value.int IntKind.i64 q2] (⟨eE (eE (eE (eE (eE (eE (eE (lL (AObj.cells 74 [Value.func (Fn.func f) ⟨[]⟩ ⟨[]⟩,iI x,sS 128 0 n u2,Value.map (some 129)] true 2)) nZ) nZ) nZ) nZ) nZ) (eE (eE (eE (eE (eE (lL (AObj.map s.E s.ck true)) nZ) nZ) nZ) nZ) nZ)) (eE (eE (eE (eE (eE (eE (lL (AObj.cells 52 s.c false 2)) nZ) nZ) nZ) nZ) nZ) (eE nZ (eE nZ (eE nZ (eE nZ (lL (AObj.cells 78 [pP 126 0,pP 127 0] true 2))))))),130⟩) (.ret (Value.iface 52 (Value.agg ⟨[Value.int IntKind.i64 (intAt (HQ.QS.rem1 f n (HQ.QS.mk (s.c) (s.E) (s.ck)) q2.toNat).c ((n - 1) * 2)),Value.int IntKind.i64 q1]⟩)) (q0)) (.done 18 (Value.tuple ⟨[Value.int IntKind.i64 q1,Value.int IntKind.i64 0]⟩) (q0)))))):CallSpec η prog B 18 [Value.pointer (some ⟨126,0,none⟩),Value.int IntKind.i64 y] (H0 f x n s y) D:=by
 refine CallSpec.ofQF hη (CallSpec.enter (fr:=(E f x n s y).fr) (by kernel_rfl) ?_)
 exact walk_okT (h0:=H0 f x n s y) hη hmix hreg (.steps 54 <| .op <| .steps 12 <| .bit 24 (.steps 29 <| .done none) (.steps 32 <| .call kN <| .steps 6 <| .done none)) (E f x n s y) (by kernel_rfl) h (by kernel_rfl)
end KRem
end Go.Ev

/- Contracts: Fix, Remove of container/heap; Pop of a queue's values. -/
namespace Go.Ev
open Go Go.Proofs Go.RowKit
variable {η:Nat→Value} {B:Bd}
namespace HQ
theorem qeta(S:QS):QS.mk S.c S.E S.ck=S:=rfl
theorem down_at(hη:OneCells η)(hmix:Try.prog.follows .mixedOrders=true){f:Nat}{x:Int}{n cap:Nat}{s:QS}{g:G}{m i k:Nat}{H H':AH}(e:H=heapV f (.int .i64 x) n cap s)(e':H'=heapV f (.int .i64 x) n cap (QS.down f k (k+1) s i).1)(hf:isOrd f)(hs:s.c=its g m)(hE:intE s.E)(hn:n≤m)(hi:i≤n)(hk:k≤n)(hm:n≤1000000) :
  CallSpec η Try.prog B 66 [.iface 69 (.pointer (some ⟨126,0,none⟩)),.int .i64 (i:Int),.int .i64 (k:Int)] H (KT.ret (.bool (decide (i<(QS.down f k (k+1) s i).2))) H').sat:=by
 subst e;subst e';exact down_ok hη hmix hf hs hE hn hi hk hm
theorem up_at(hη:OneCells η)(hmix:Try.prog.follows .mixedOrders=true){f:Nat}{x:Int}{n cap:Nat}{s:QS}{g:G}{m j:Nat}{H H':AH}(e:H=heapV f (.int .i64 x) n cap s)(e':H'=heapV f (.int .i64 x) n cap (s.up f (j+1) j))(hf:isOrd f)(hs:s.c=its g m)(hE:intE s.E)(hn:n≤m)(hj:j<n)(hm:n≤1000000) :
  CallSpec η Try.prog B 65 [.iface 69 (.pointer (some ⟨126,0,none⟩)),.int .i64 (j:Int)] H (KT.ret undef H').sat:=by
 subst e;subst e';exact up_ok hη hmix hf hs hE hn hj hm
set_option maxRecDepth 20000 in
theorem fix_ok(hη:OneCells η)(hmix:Try.prog.follows .mixedOrders=true){f:Nat}{x:Int}{n cap:Nat}{s:QS}{g:G}{m i:Nat}(hf:isOrd f)(hs:s.c=its g m)(hE:intE s.E)(hn:n≤m)(hi:i<n)(hm:n≤1000000) :
  CallSpec η Try.prog B 50 [.iface 69 (.pointer (some ⟨126,0,none⟩)),.int .i64 (i:Int)] (heapV f (.int .i64 x) n cap s) (KT.ret undef (heapV f (.int .i64 x) n cap (s.fixA f n i))).sat:=by
 obtain⟨d1,d2,d3⟩:=down_G (f:=f) (n:=n) (k:=n+1) (i:=i) hn hs
 refine KFix.enter hη hmix (reg0 hη hmix) _ _ _ _ _ _ ?_
 simp only [W.holds,Int.toNat_natCast,qeta,true_and,and_true,true_implies,Bool.not_eq_true',Bool.not_eq_false',decide_eq_true_eq,decide_eq_false_iff_not]
 refine⟨down_at (x:=x) (cap:=cap) (s:=s) hη hmix (by kernel_rfl) (by kernel_rfl) hf hs hE hn (by omega) (Nat.le_refl n) hm,fun q=>⟨up_at (x:=x) (cap:=cap) (s:=(QS.down f n (n+1) s i).1) hη hmix (by kernel_rfl) (by kernel_rfl) hf d1 (d3 hE) hn hi hm,?_⟩,fun q=>?_⟩
 ·unfold QS.fixA
  rw [if_neg q]
  exact⟨rfl,by kernel_rfl⟩
 ·unfold QS.fixA
  rw [if_pos q]
  exact⟨rfl,by kernel_rfl⟩
set_option maxRecDepth 20000 in
theorem vpop_ok(hη:OneCells η)(hmix:Try.prog.follows .mixedOrders=true){f:Nat}{x:Int}{n:Nat}{s:QS}{g:G}{m:Nat}(hs:s.c=its g m)(hE:intE s.E)(hn:n≤m)(h0:0<n)(hm:n≤1000000) :
  CallSpec η Try.prog B 116 [.pointer (some ⟨126,0,none⟩)] (heapV f (.int .i64 x) n (capU 2) s) (KT.ret (itemV s.c (n - 1)) (heapV f (.int .i64 x) (n - 1) (capU 2) (s.vpop n))).sat:=by
 obtain⟨c,E,ck⟩:=s
 simp only at hs hE
 subst hs
 have hl:=its_len g m
 have hcut:=its_cut (g:=g) (m:=m) (k:=n - 1) (by omega)
 have hint:=its_int (g:=g) (m:=m) (k:=n - 1) (by omega)
 have hsp:=splice_its (g:=g) (m:=m) (k:=n - 1) (by omega) 0 0
 have hrep:rep [Value.int .i64 0,.int .i64 0] (n - (n - 1))=[.int .i64 0,.int .i64 0]:=by rw [show n - (n - 1)=1 by omega];rfl
 have fin:itemV (its g m) (n - 1) = .iface 52 (.agg ⟨[.int .i64 (g (n - 1)).1,.int .i64 (g (n - 1)).2]⟩)∧QS.vpop n ⟨its g m,E,ck⟩=⟨its (upd g (n - 1) (0,0)) m,mDel E (fE E (g (n - 1)).1),ck⟩:=by
  unfold itemV QS.vpop
  rw [hint.1,hint.2]
  exact⟨rfl,by rw [hsp]⟩
 rw [fin.1,fin.2]
 refine KVPop.enter hη hmix (reg0 hη hmix) _ _ _ 0 _ ?_
 simp only [W.holds,wr_p hm h0,Int.toNat_natCast,Nat.zero_add,hrep,hcut,hint.1,hint.2,hsp,true_and,and_true,true_implies]
 refine⟨⟨by omega,by omega⟩,fun _=>⟨by omega,fun _=>⟨⟨by omega,by omega,by decide,by omega,.inl (by omega)⟩,fun _=>⟨by simp only [List.length_cons,List.length_nil];omega,fun _=>⟨fun q=>absurd (show n - (n - 1)=0 by simpa using q) (by omega),fun _=>⟨⟨by omega,by omega,by decide,by omega,.inr trivial⟩,fun _=>⟨find_fE hE,fun _=>⟨⟨its_nn _ m,nn_int (dlt_int hE)⟩,fun _=>⟨rfl,by kernel_rfl⟩⟩⟩⟩⟩⟩⟩⟩⟩
theorem vpop_at(hη:OneCells η)(hmix:Try.prog.follows .mixedOrders=true){f:Nat}{x:Int}{n:Nat}{s:QS}{g:G}{m:Nat}{H H':AH}{w:Value}(e:H=heapV f (.int .i64 x) n (capU 2) s)(e':H'=heapV f (.int .i64 x) (n - 1) (capU 2) (s.vpop n))(ew:w=itemV s.c (n - 1))(hs:s.c=its g m)(hE:intE s.E)(hn:n≤m)(h0:0<n)(hm:n≤1000000) :
  CallSpec η Try.prog B 116 [.pointer (some ⟨126,0,none⟩)] H (KT.ret w H').sat:=by
 subst e;subst e';subst ew;exact vpop_ok hη hmix hs hE hn h0 hm
theorem rem_vpop(f n:Nat)(s:QS)(p:Nat):s.rem f n p=(s.rem1 f n p).vpop n:=rfl
set_option maxRecDepth 20000 in
theorem hrem_ok(hη:OneCells η)(hmix:Try.prog.follows .mixedOrders=true){f:Nat}{x:Int}{n:Nat}{s:QS}{g:G}{m i:Nat}(hf:isOrd f)(hs:s.c=its g m)(hE:intE s.E)(hn:n≤m)(hi:i<n)(hm:n≤1000000) :
  CallSpec η Try.prog B 49 [.iface 69 (.pointer (some ⟨126,0,none⟩)),.int .i64 (i:Int)] (heapV f (.int .i64 x) n (capU 2) s) (KT.ret (itemV (s.rem1 f n i).c (n - 1)) (heapV f (.int .i64 x) (n - 1) (capU 2) (s.rem f n i))).sat:=by
 have h0:0<n:=by omega
 rw [rem_vpop]
 refine KHRem.enter hη hmix (reg0 hη hmix) _ _ _ _ _ ?_
 simp only [W.holds,wr_p hm h0,Int.toNat_natCast,qeta,true_and,and_true,true_implies,Bool.not_eq_true',Bool.not_eq_false',decide_eq_true_eq,decide_eq_false_iff_not,bne_iff_ne,ne_eq,bne_eq_false_iff_eq]
 have hE1:=QS.swap_int (i:=i) (j:=n - 1) hE
 refine⟨fun q=>?_,fun q=>?_⟩
 ·have hne:n - 1 ≠ i:=fun e=>q (by omega)
  have hc:=QS.swap_c (i:=i) (j:=n - 1) hs (by omega) (by omega)
  obtain⟨d1,d2,d3⟩:=down_G (f:=f) (n:=n - 1) (k:=n - 1+1) (i:=i) (by omega) hc
  refine⟨swap_at (f:=f) (x:=x) (cap:=capU 2) (s:=s) hη hmix (by kernel_rfl) (by kernel_rfl) hs hE hn hi (by omega),down_at (x:=x) (cap:=capU 2) (s:=s.swap i (n - 1)) hη hmix (by kernel_rfl) (by kernel_rfl) hf hc hE1 hn (by omega) (by omega) hm,fun q2=>?_,fun q2=>?_⟩
  ·have e1:s.rem1 f n i=(QS.down f (n - 1) (n - 1+1) (s.swap i (n - 1)) i).1.up f (i+1) i:=by
    unfold QS.rem1 QS.fixA;rw [if_neg hne,if_neg q2]
   obtain⟨u1,u2⟩:=up_G (f:=f) (k:=i+1) (j:=i) d1 (by omega)
   rw [e1]
   refine⟨up_at (x:=x) (cap:=capU 2) (s:=(QS.down f (n - 1) (n - 1+1) (s.swap i (n - 1)) i).1) hη hmix (by kernel_rfl) (by kernel_rfl) hf d1 (d3 hE1) hn hi hm,vpop_at (f:=f) (x:=x) (s:=(QS.down f (n - 1) (n - 1+1) (s.swap i (n - 1)) i).1.up f (i+1) i) hη hmix (by kernel_rfl) (by kernel_rfl) rfl u1 (u2 (d3 hE1)) hn h0 hm,?_⟩
   exact⟨rfl,by kernel_rfl⟩
  ·have e1:s.rem1 f n i=(QS.down f (n - 1) (n - 1+1) (s.swap i (n - 1)) i).1:=by
    unfold QS.rem1 QS.fixA;rw [if_neg hne,if_pos q2]
   rw [e1]
   refine⟨vpop_at (f:=f) (x:=x) (s:=(QS.down f (n - 1) (n - 1+1) (s.swap i (n - 1)) i).1) hη hmix (by kernel_rfl) (by kernel_rfl) rfl d1 (d3 hE1) hn h0 hm,?_⟩
   exact⟨rfl,by kernel_rfl⟩
 ·have e1:s.rem1 f n i=s:=by unfold QS.rem1;rw [if_pos (by omega)]
  rw [e1]
  refine⟨vpop_at (f:=f) (x:=x) (s:=s) hη hmix (by kernel_rfl) (by kernel_rfl) rfl hs hE hn h0 hm,?_⟩
  exact⟨rfl,by kernel_rfl⟩
end HQ
end Go.Ev

namespace Go.Ev
open Go Go.Proofs
open Go.Ev.T renaming node → nN, nil → nZ
open Go.Proofs.Try (prog)
set_option maxRecDepth 100000
set_option maxHeartbeats 2000000
namespace KIns
noncomputable def bd:Code:=(Go.Proofs.Try.f74.body).getD .skip
noncomputable def H0(f:Nat)(n:Nat)(cap:Nat)(c:List Value)(a:Nat)(b:Nat):AH:={ objs:=eE (eE (eE (eE (eE (eE (eE (lL (AObj.cells 74 [Value.func (Fn.func f) ⟨[]⟩ ⟨[]⟩,Value.chan none,Value.chan none,Value.chan none] true 0)) nZ) nZ) nZ) nZ) nZ) nZ) (eE nZ (eE nZ (eE nZ (eE nZ (eE nZ (lL (AObj.cells 52 c false 2))))))),next:=128 }
noncomputable def E(f:Nat)(n:Nat)(cap:Nat)(c:List Value)(a:Nat)(b:Nat):AS:=⟨⟨74,53,nS (sS 126 0 n cap) (nS (iI (↑a:Int)) (lL (Value.func (Fn.func 36) ⟨[pP 127 0]⟩ ⟨[]⟩)) nZ) (lL (iI (↑b:Int))),[Item.code (codeAt bd [])],[],FrameMode.run,CallKind.normal,none⟩,[],H0 f n cap c a b⟩
noncomputable def S0(f:Nat)(n:Nat)(cap:Nat)(c:List Value)(a:Nat)(b:Nat)(i0:Int)(l0:List Value)(d:Nat→Value):AS:=⟨⟨74,53,nS (sS 126 0 n cap) (nS (iI (↑a:Int)) (nS (Value.func (Fn.func 36) ⟨[pP 127 0]⟩ ⟨[]⟩) (nS (d 7) (nS (d 15) (lL (d 31)) (lL (d 47))) (nS (d 23) (lL (d 39)) nZ)) (nS (d 11) (nS (d 19) (lL (d 35)) (lL (d 51))) (nS (d 27) (lL (d 43)) nZ))) (nS (d 5) (nS (d 9) (nS (d 17) (lL (d 33)) (lL (d 49))) (nS (d 25) (lL (d 41)) nZ)) (nS (d 13) (nS (d 21) (lL (d 37)) nZ) (nS (d 29) (lL (d 45)) nZ)))) (nS (iI (↑b:Int)) (nS (d 4) (nS (iI i0) (nS (d 16) (lL (d 32)) (lL (d 48))) (nS (d 24) (lL (d 40)) nZ)) (nS (d 12) (nS (d 20) (lL (d 36)) (lL (d 52))) (nS (d 28) (lL (d 44)) nZ))) (nS (d 6) (nS (d 10) (nS (d 18) (lL (d 34)) (lL (d 50))) (nS (d 26) (lL (d 42)) nZ)) (nS (d 14) (nS (d 22) (lL (d 38)) nZ) (nS (d 30) (lL (d 46)) nZ)))),[Item.code (codeAt bd [1,0,0]),Item.inLoop (codeAt bd [1,0,0]),Item.inBlock 0],[],FrameMode.run,CallKind.normal,none⟩,[],⟨eE (eE (eE (eE (eE (eE (eE (lL (AObj.cells 74 [Value.func (Fn.func f) ⟨[]⟩ ⟨[]⟩,Value.chan none,Value.chan none,Value.chan none] true 0)) nZ) nZ) nZ) nZ) nZ) nZ) (eE nZ (eE nZ (eE nZ (eE nZ (eE nZ (lL (AObj.cells 52 l0 false 2))))))),128⟩⟩
noncomputable def S1(f:Nat)(n:Nat)(cap:Nat)(c:List Value)(a:Nat)(b:Nat)(i0:Int)(l0:List Value)(i1:Int)(d:Nat→Value):AS:=⟨⟨74,53,nS (sS 126 0 n cap) (nS (iI (↑a:Int)) (nS (Value.func (Fn.func 36) ⟨[pP 127 0]⟩ ⟨[]⟩) (nS (d 7) (nS (d 15) (lL (d 31)) (lL (d 47))) (nS (d 23) (lL (d 39)) nZ)) (nS (d 11) (nS (d 19) (lL (d 35)) (lL (d 51))) (nS (d 27) (lL (d 43)) nZ))) (nS (d 5) (nS (iI i0) (nS (d 17) (lL (d 33)) (lL (d 49))) (nS (d 25) (lL (d 41)) nZ)) (nS (d 13) (nS (d 21) (lL (d 37)) nZ) (nS (d 29) (lL (d 45)) nZ)))) (nS (iI (↑b:Int)) (nS (d 4) (nS (iI i1) (nS (d 16) (lL (d 32)) (lL (d 48))) (nS (d 24) (lL (d 40)) nZ)) (nS (d 12) (nS (d 20) (lL (d 36)) (lL (d 52))) (nS (d 28) (lL (d 44)) nZ))) (nS (d 6) (nS (d 10) (nS (d 18) (lL (d 34)) (lL (d 50))) (nS (d 26) (lL (d 42)) nZ)) (nS (d 14) (nS (d 22) (lL (d 38)) nZ) (nS (d 30) (lL (d 46)) nZ)))),[Item.code (codeAt bd [1,0,0,1,0,0,1,0,0]),Item.inLoop (codeAt bd [1,0,0,1,0,0,1,0,0]),Item.inBlock 2,Item.inBlock 1,Item.code (codeAt bd [1,0,0,1,1]),Item.inLoop (codeAt bd [1,0,0]),Item.inBlock 0],[],FrameMode.run,CallKind.normal,none⟩,[],⟨eE (eE (eE (eE (eE (eE (eE (lL (AObj.cells 74 [Value.func (Fn.func f) ⟨[]⟩ ⟨[]⟩,Value.chan none,Value.chan none,Value.chan none] true 0)) nZ) nZ) nZ) nZ) nZ) nZ) (eE nZ (eE nZ (eE nZ (eE nZ (eE nZ (lL (AObj.cells 52 l0 false 2))))))),128⟩⟩
theorem enter{η:Nat→Value}{B:Bd}(hη:OneCells η)(hmix:prog.follows .mixedOrders=true)(hreg:RegOk η prog B noNest){D:Value→AH→Prop}(f:Nat)(n:Nat)(cap:Nat)(c:List Value)(a:Nat)(b:Nat)(h:W.holds η prog B 74 (fun kp_ st_=>RunD η prog B 74 (H0 f n cap c a b) kp_ st_ (QF prog 128 D)) D (.stop [0,1,2,3,8] (S0 f n cap c a b (IntKind.i64.wrap ((↑a:Int)+1)) (c) (fun _=>undef)))):CallSpec η prog B 74 [Value.slice (some ⟨126,0,none⟩) n cap,Value.int IntKind.i64 (↑a:Int),Value.int IntKind.i64 (↑b:Int),Value.func (Fn.func 36) ⟨[Value.pointer (some ⟨127,0,none⟩)]⟩ ⟨[]⟩] (H0 f n cap c a b) D:=by
 refine CallSpec.ofQF hη (CallSpec.enter (fr:=(E f n cap c a b).fr) (by kernel_rfl) ?_)
 exact walk_okT (h0:=H0 f n cap c a b) hη hmix hreg (.steps 8 <| .stop [0,1,2,3,8] none) (E f n cap c a b) (by kernel_rfl) h (by kernel_rfl)
theorem cut0{η:Nat→Value}{B:Bd}(hη:OneCells η)(hmix:prog.follows .mixedOrders=true)(hreg:RegOk η prog B noNest){D:Value→AH→Prop}(f:Nat)(n:Nat)(cap:Nat)(c:List Value)(a:Nat)(b:Nat)(i0:Int)(l0:List Value)(h:W.holds η prog B 74 (fun kp_ st_=>RunD η prog B 74 (H0 f n cap c a b) kp_ st_ (QF prog 128 D)) D (.ite (decide (i0<(↑b:Int))) (.stop [0,1,2,3,8,9] (S1 f n cap c a b (i0) (l0) (i0) (fun _=>undef))) (.done 74 (undef) (⟨eE (eE (eE (eE (eE (eE (eE (lL (AObj.cells 74 [Value.func (Fn.func f) ⟨[]⟩ ⟨[]⟩,Value.chan none,Value.chan none,Value.chan none] true 0)) nZ) nZ) nZ) nZ) nZ) nZ) (eE nZ (eE nZ (eE nZ (eE nZ (eE nZ (lL (AObj.cells 52 l0 false 2))))))),128⟩)))):RunD η prog B 74 (H0 f n cap c a b) [0,1,2,3,8] (S0 f n cap c a b i0 l0 fun _=>undef) (QF prog 128 D):=by
 refine RunD.intro (S0 f n cap c a b i0 l0) (fun d=>⟨rfl,rfl,rfl⟩) (fun d=>tmOk_get (by kernel_rfl)) (fun d=>by kernel_rfl) (fun d=>?_)
 exact walk_okT (h0:=H0 f n cap c a b) hη hmix hreg (.steps 7 <| .bit 14 (.steps 11 <| .stop [0,1,2,3,8,9] none) (.steps 3 <| .done none)) (S0 f n cap c a b i0 l0 d) (by kernel_rfl) h (by kernel_rfl)
theorem cut1{η:Nat→Value}{B:Bd}(hη:OneCells η)(hmix:prog.follows .mixedOrders=true)(hreg:RegOk η prog B noNest){D:Value→AH→Prop}(f:Nat)(n:Nat)(cap:Nat)(c:List Value)(a:Nat)(b:Nat)(i0:Int)(l0:List Value)(i1:Int)(h:let q13:=(intAt l0 (0+i0.toNat * 2));let q12:=(intAt l0 (0+i0.toNat * 2+1));let q11:=(IntKind.i64.wrap (i0 - (1:Int)));let q10:=(intAt l0 ((0:Nat)+i0.toNat * (2:Nat)));let q9:=(List.drop ((0:Nat)+i0.toNat * (2:Nat)) l0);let q8:=(intAt l0 (0+(IntKind.i64.wrap (i0 - 1)).toNat * 2));let q7:=(intAt l0 ((0:Nat)+i0.toNat * (2:Nat)+(1:Nat)));let q6:=(intAt l0 (0+(IntKind.i64.wrap (i0 - 1)).toNat * 2+1));let q5:=(intAt l0 ((0:Nat)+q11.toNat * (2:Nat)));let q4:=(List.drop ((0:Nat)+q11.toNat * (2:Nat)) l0);let q3:=(intAt l0 ((0:Nat)+q11.toNat * (2:Nat)+(1:Nat)));let q2:W:=(.need (NoNames l0∧True∧True) (.stop [0,1,2,3,8] (S0 f n cap c a b (IntKind.i64.wrap (i1+1)) (l0) (fun _=>undef))));let q1:=(splice l0 ((0:Nat)+i0.toNat * (2:Nat)) [Value.int IntKind.i64 q5,Value.int IntKind.i64 q3]);let q0:AH:=⟨eE (eE (eE (eE (eE (eE (eE (lL (AObj.cells 74 [Value.func (Fn.func f) ⟨[]⟩ ⟨[]⟩,Value.chan none,Value.chan none,Value.chan none] true 0)) nZ) nZ) nZ) nZ) nZ) nZ) (eE nZ (eE nZ (eE nZ (eE nZ (eE nZ (lL (AObj.cells 52 l0 false 2))))))),145⟩;W.holds η prog B 74 (fun kp_ st_=>RunD η prog B 74 (H0 f n cap c a b) kp_ st_ (QF prog 128 D)) D (.ite (decide (i0 > (↑a:Int))) (.need ((0:Int)≤i0∧i0<(↑n:Int)) (.need ((0:Nat)+i0.toNat * (2:Nat)+(2:Nat)≤l0.length∧List.take (2:Nat) q9=[Value.int IntKind.i64 q10,Value.int IntKind.i64 q7]) (.need ((0:Int)≤IntKind.i64.wrap (i0 - (1:Int))∧IntKind.i64.wrap (i0 - (1:Int))<(↑n:Int)) (.need ((0:Nat)+q11.toNat * (2:Nat)+(2:Nat)≤l0.length∧List.take (2:Nat) q4=[Value.int IntKind.i64 q5,Value.int IntKind.i64 q3]) (.call 36 [Value.pointer (some ⟨127,0,none⟩),Value.agg ⟨[Value.int IntKind.i64 q13,Value.int IntKind.i64 q12]⟩,Value.agg ⟨[Value.int IntKind.i64 q8,Value.int IntKind.i64 q6]⟩] (q0) (.ret (Value.int IntKind.i64 (HQ.cmpA f q13 q12 q8 q6)) (q0)) (.ite (decide (HQ.cmpA f q10 q7 q5 q3<(0:Int))) (.need ((0:Int)≤IntKind.i64.wrap (i0 - (1:Int))∧IntKind.i64.wrap (i0 - (1:Int))<(↑n:Int)) (.need ((0:Nat)+q11.toNat * (2:Nat)+(2:Nat)≤l0.length∧List.take (2:Nat) q4=[Value.int IntKind.i64 q5,Value.int IntKind.i64 q3]) (.need ((0:Int)≤i0∧i0<(↑n:Int)) (.need ((0:Nat)+i0.toNat * (2:Nat)+(2:Nat)≤l0.length∧List.take (2:Nat) q9=[Value.int IntKind.i64 q10,Value.int IntKind.i64 q7]) (.need ((0:Int)≤i0∧i0<(↑n:Int)) (.need ((0:Nat)+i0.toNat * (2:Nat)+(2:Nat)≤l0.length) (.need ((0:Int)≤IntKind.i64.wrap (i0 - (1:Int))∧IntKind.i64.wrap (i0 - (1:Int))<(↑n:Int)) (.need ((0:Nat)+q11.toNat * (2:Nat)+(2:Nat)≤q1.length) (.need (NoNames (splice q1 ((0:Nat)+q11.toNat * (2:Nat)) [Value.int IntKind.i64 q10,Value.int IntKind.i64 q7])∧True∧True) (.stop [0,1,2,3,8,9] (S1 f n cap c a b (IntKind.i64.wrap (i0 - 1)) (splice (splice l0 (0+i0.toNat * 2) [Value.int IntKind.i64 q8,Value.int IntKind.i64 q6]) (0+(IntKind.i64.wrap (i0 - 1)).toNat * 2) [Value.int IntKind.i64 q13,Value.int IntKind.i64 q12]) (i1) (fun _=>undef)))))))))))) q2)))))) q2)):RunD η prog B 74 (H0 f n cap c a b) [0,1,2,3,8,9] (S1 f n cap c a b i0 l0 i1 fun _=>undef) (QF prog 128 D):=by
 refine RunD.intro (S1 f n cap c a b i0 l0 i1) (fun d=>⟨rfl,rfl,rfl⟩) (fun d=>tmOk_get (by kernel_rfl)) (fun d=>by kernel_rfl) (fun d=>?_)
 exact walk_okT (h0:=H0 f n cap c a b) hη hmix hreg (.steps 2 <| .reg <| .steps 4 <| .bit 21 (.steps 3 <| .op <| .op <| .steps 3 <| .op <| .op <| .call kN <| .steps 2 <| .reg <| .bit 34 (.steps 4 <| .reg <| .steps 8 <| .op <| .op <| .steps 2 <| .op <| .op <| .op <| .op <| .op <| .op <| .reg <| .steps 7 <| .stop [0,1,2,3,8,9] (some ⟨128,[],[(126,(126,true)),(127,(127,false))]⟩)) (.steps 9 <| .stop [0,1,2,3,8] (some ⟨128,[],[(126,(126,true)),(127,(127,false))]⟩))) (.steps 13 <| .reg <| .steps 9 <| .stop [0,1,2,3,8] (some ⟨128,[],[(126,(126,true)),(127,(127,false))]⟩))) (S1 f n cap c a b i0 l0 i1 d) (by kernel_rfl) h (by kernel_rfl)
end KIns
namespace KSift
noncomputable def bd:Code:=(Go.Proofs.Try.f85.body).getD .skip
noncomputable def H0(f:Nat)(n:Nat)(cap:Nat)(c:List Value)(lo:Nat)(hi:Nat)(first:Nat):AH:={ objs:=eE (eE (eE (eE (eE (eE (eE (lL (AObj.cells 74 [Value.func (Fn.func f) ⟨[]⟩ ⟨[]⟩,Value.chan none,Value.chan none,Value.chan none] true 0)) nZ) nZ) nZ) nZ) nZ) nZ) (eE nZ (eE nZ (eE nZ (eE nZ (eE nZ (lL (AObj.cells 52 c false 2))))))),next:=128 }
noncomputable def E(f:Nat)(n:Nat)(cap:Nat)(c:List Value)(lo:Nat)(hi:Nat)(first:Nat):AS:=⟨⟨85,82,nS (sS 126 0 n cap) (nS (iI (↑lo:Int)) (lL (iI (↑first:Int))) nZ) (nS (iI (↑hi:Int)) (lL (Value.func (Fn.func 36) ⟨[pP 127 0]⟩ ⟨[]⟩)) nZ),[Item.code (codeAt bd [])],[],FrameMode.run,CallKind.normal,none⟩,[],H0 f n cap c lo hi first⟩
noncomputable def S0(f:Nat)(n:Nat)(cap:Nat)(c:List Value)(lo:Nat)(hi:Nat)(first:Nat)(i0:Int)(l0:List Value)(d:Nat→Value):AS:=⟨⟨85,82,nS (sS 126 0 n cap) (nS (d 1) (nS (iI (↑first:Int)) (nS (d 7) (nS (d 15) (nS (d 31) (lL (d 63)) nZ) (nS (d 47) (lL (d 79)) nZ)) (nS (d 23) (nS (d 39) (lL (d 71)) nZ) (lL (d 55)))) (nS (d 11) (nS (d 19) (nS (d 35) (lL (d 67)) nZ) (lL (d 51))) (nS (d 27) (nS (d 43) (lL (d 75)) nZ) (lL (d 59))))) (nS (d 5) (nS (d 9) (nS (d 17) (nS (d 33) (lL (d 65)) nZ) (nS (d 49) (lL (d 81)) nZ)) (nS (d 25) (nS (d 41) (lL (d 73)) nZ) (lL (d 57)))) (nS (d 13) (nS (d 21) (nS (d 37) (lL (d 69)) nZ) (lL (d 53))) (nS (d 29) (nS (d 45) (lL (d 77)) nZ) (lL (d 61)))))) (nS (iI (↑hi:Int)) (nS (Value.func (Fn.func 36) ⟨[pP 127 0]⟩ ⟨[]⟩) (nS (d 8) (nS (d 16) (nS (d 32) (lL (d 64)) nZ) (nS (d 48) (lL (d 80)) nZ)) (nS (d 24) (nS (d 40) (lL (d 72)) nZ) (lL (d 56)))) (nS (d 12) (nS (d 20) (nS (d 36) (lL (d 68)) nZ) (lL (d 52))) (nS (d 28) (nS (d 44) (lL (d 76)) nZ) (lL (d 60))))) (nS (d 6) (nS (iI i0) (nS (d 18) (nS (d 34) (lL (d 66)) nZ) (lL (d 50))) (nS (d 26) (nS (d 42) (lL (d 74)) nZ) (lL (d 58)))) (nS (d 14) (nS (d 22) (nS (d 38) (lL (d 70)) nZ) (lL (d 54))) (nS (d 30) (nS (d 46) (lL (d 78)) nZ) (lL (d 62)))))),[Item.code (codeAt bd [1,0,0]),Item.inLoop (codeAt bd [1,0,0]),Item.inBlock 0],[],FrameMode.run,CallKind.normal,none⟩,[],⟨eE (eE (eE (eE (eE (eE (eE (lL (AObj.cells 74 [Value.func (Fn.func f) ⟨[]⟩ ⟨[]⟩,Value.chan none,Value.chan none,Value.chan none] true 0)) nZ) nZ) nZ) nZ) nZ) nZ) (eE nZ (eE nZ (eE nZ (eE nZ (eE nZ (lL (AObj.cells 52 l0 false 2))))))),128⟩⟩
theorem enter{η:Nat→Value}{B:Bd}(hη:OneCells η)(hmix:prog.follows .mixedOrders=true)(hreg:RegOk η prog B noNest){D:Value→AH→Prop}(f:Nat)(n:Nat)(cap:Nat)(c:List Value)(lo:Nat)(hi:Nat)(first:Nat)(h:W.holds η prog B 85 (fun kp_ st_=>RunD η prog B 85 (H0 f n cap c lo hi first) kp_ st_ (QF prog 128 D)) D (.stop [0,2,3,4,10] (S0 f n cap c lo hi first ((↑lo:Int)) (c) (fun _=>undef)))):CallSpec η prog B 85 [Value.slice (some ⟨126,0,none⟩) n cap,Value.int IntKind.i64 (↑lo:Int),Value.int IntKind.i64 (↑hi:Int),Value.int IntKind.i64 (↑first:Int),Value.func (Fn.func 36) ⟨[Value.pointer (some ⟨127,0,none⟩)]⟩ ⟨[]⟩] (H0 f n cap c lo hi first) D:=by
 refine CallSpec.ofQF hη (CallSpec.enter (fr:=(E f n cap c lo hi first).fr) (by kernel_rfl) ?_)
 exact walk_okT (h0:=H0 f n cap c lo hi first) hη hmix hreg (.steps 7 <| .stop [0,2,3,4,10] none) (E f n cap c lo hi first) (by kernel_rfl) h (by kernel_rfl)
theorem cut0{η:Nat→Value}{B:Bd}(hη:OneCells η)(hmix:prog.follows .mixedOrders=true)(hreg:RegOk η prog B noNest){D:Value→AH→Prop}(f:Nat)(n:Nat)(cap:Nat)(c:List Value)(lo:Nat)(hi:Nat)(first:Nat)(i0:Int)(l0:List Value)(h:let q31:=(IntKind.i64.wrap ((↑first:Int)+i0));let q30:=(IntKind.i64.wrap ((2:Int) * i0)+(1:Int));let q29:=(IntKind.i64.wrap (IntKind.i64.wrap (2 * i0)+1)+1);let q28:=(intAt l0 (0+q31.toNat * 2));let q27:=(intAt l0 (0+q31.toNat * 2+1));let q26:=(intAt l0 ((0:Nat)+q31.toNat * (2:Nat)));let q25:=((↑first:Int)+IntKind.i64.wrap q30);let q24:=(List.drop ((0:Nat)+q31.toNat * (2:Nat)) l0);let q23:=(intAt l0 ((0:Nat)+q31.toNat * (2:Nat)+(1:Nat)));let q22:=(IntKind.i64.wrap q25);let q21:=(intAt l0 (0+(IntKind.i64.wrap ((↑first:Int)+IntKind.i64.wrap (IntKind.i64.wrap (2 * i0)+1))).toNat * 2));let q20:=((↑first:Int)+IntKind.i64.wrap (IntKind.i64.wrap q30+(1:Int)));let q19:=(IntKind.i64.wrap q25+(1:Int));let q18:=(intAt l0 (0+(IntKind.i64.wrap ((↑first:Int)+IntKind.i64.wrap (IntKind.i64.wrap (2 * i0)+1))).toNat * 2+1));let q17:=(IntKind.i64.wrap q20);let q16:=(IntKind.i64.wrap q19);let q15:=(intAt l0 (0+(IntKind.i64.wrap ((↑first:Int)+IntKind.i64.wrap q29)).toNat * 2));let q14:=(intAt l0 (0+(IntKind.i64.wrap (IntKind.i64.wrap ((↑first:Int)+IntKind.i64.wrap (IntKind.i64.wrap (2 * i0)+1))+1)).toNat * 2));let q13:=(intAt l0 (0+(IntKind.i64.wrap ((↑first:Int)+IntKind.i64.wrap q29)).toNat * 2+1));let q12:=(intAt l0 (0+(IntKind.i64.wrap (IntKind.i64.wrap ((↑first:Int)+IntKind.i64.wrap (IntKind.i64.wrap (2 * i0)+1))+1)).toNat * 2+1));let q11:=(intAt l0 ((0:Nat)+q22.toNat * (2:Nat)));let q10:=(intAt l0 ((0:Nat)+q22.toNat * (2:Nat)+(1:Nat)));let q9:=(intAt l0 ((0:Nat)+q17.toNat * (2:Nat)));let q8:=(intAt l0 ((0:Nat)+q16.toNat * (2:Nat)));let q7:=(List.drop ((0:Nat)+q17.toNat * (2:Nat)) l0);let q6:=(intAt l0 ((0:Nat)+q17.toNat * (2:Nat)+(1:Nat)));let q5:=(intAt l0 ((0:Nat)+q16.toNat * (2:Nat)+(1:Nat)));let q4:AH:=⟨eE (eE (eE (eE (eE (eE (eE (lL (AObj.cells 74 [Value.func (Fn.func f) ⟨[]⟩ ⟨[]⟩,Value.chan none,Value.chan none,Value.chan none] true 0)) nZ) nZ) nZ) nZ) nZ) nZ) (eE nZ (eE nZ (eE nZ (eE nZ (eE nZ (lL (AObj.cells 52 l0 false 2))))))),166⟩;let q3:AH:=⟨eE (eE (eE (eE (eE (eE (eE (lL (AObj.cells 74 [Value.func (Fn.func f) ⟨[]⟩ ⟨[]⟩,Value.chan none,Value.chan none,Value.chan none] true 0)) nZ) nZ) nZ) nZ) nZ) nZ) (eE nZ (eE nZ (eE nZ (eE nZ (eE nZ (lL (AObj.cells 52 l0 false 2))))))),150⟩;let q2:W:=(.done 85 (undef) (⟨eE (eE (eE (eE (eE (eE (eE (lL (AObj.cells 74 [Value.func (Fn.func f) ⟨[]⟩ ⟨[]⟩,Value.chan none,Value.chan none,Value.chan none] true 0)) nZ) nZ) nZ) nZ) nZ) nZ) (eE nZ (eE nZ (eE nZ (eE nZ (eE nZ (lL (AObj.cells 52 l0 false 2))))))),128⟩));let q1:=(splice l0 ((0:Nat)+q31.toNat * (2:Nat)) [Value.int IntKind.i64 q9,Value.int IntKind.i64 q6]);let q0:W:=(.need ((0:Int)≤IntKind.i64.wrap ((↑first:Int)+i0)∧IntKind.i64.wrap ((↑first:Int)+i0)<(↑n:Int)) (.need ((0:Nat)+q31.toNat * (2:Nat)+(2:Nat)≤l0.length∧List.take (2:Nat) q24=[Value.int IntKind.i64 q26,Value.int IntKind.i64 q23]) (.need ((0:Int)≤IntKind.i64.wrap q25∧IntKind.i64.wrap q25<(↑n:Int)) (.need ((0:Nat)+q22.toNat * (2:Nat)+(2:Nat)≤l0.length∧List.take (2:Nat) (List.drop ((0:Nat)+q22.toNat * (2:Nat)) l0)=[Value.int IntKind.i64 q11,Value.int IntKind.i64 q10]) (.call 36 [Value.pointer (some ⟨127,0,none⟩),Value.agg ⟨[Value.int IntKind.i64 q28,Value.int IntKind.i64 q27]⟩,Value.agg ⟨[Value.int IntKind.i64 q21,Value.int IntKind.i64 q18]⟩] (q4) (.ret (Value.int IntKind.i64 (HQ.cmpA f q28 q27 q21 q18)) (q4)) (.ite (!decide (HQ.cmpA f q26 q23 q11 q10<(0:Int))) (.need (NoNames l0∧True∧True) q2) (.need ((0:Int)≤IntKind.i64.wrap q25∧IntKind.i64.wrap q25<(↑n:Int)) (.need ((0:Nat)+q22.toNat * (2:Nat)+(2:Nat)≤l0.length∧List.take (2:Nat) (List.drop ((0:Nat)+q22.toNat * (2:Nat)) l0)=[Value.int IntKind.i64 q11,Value.int IntKind.i64 q10]) (.need ((0:Int)≤IntKind.i64.wrap ((↑first:Int)+i0)∧IntKind.i64.wrap ((↑first:Int)+i0)<(↑n:Int)) (.need ((0:Nat)+q31.toNat * (2:Nat)+(2:Nat)≤l0.length∧List.take (2:Nat) q24=[Value.int IntKind.i64 q26,Value.int IntKind.i64 q23]) (.need ((0:Int)≤IntKind.i64.wrap ((↑first:Int)+i0)∧IntKind.i64.wrap ((↑first:Int)+i0)<(↑n:Int)) (.need ((0:Nat)+q31.toNat * (2:Nat)+(2:Nat)≤l0.length) (.need ((0:Int)≤IntKind.i64.wrap q25∧IntKind.i64.wrap q25<(↑n:Int)) (.need ((0:Nat)+q22.toNat * (2:Nat)+(2:Nat)≤(splice l0 ((0:Nat)+q31.toNat * (2:Nat)) [Value.int IntKind.i64 q11,Value.int IntKind.i64 q10]).length) (.need (NoNames (splice (splice l0 ((0:Nat)+q31.toNat * (2:Nat)) [Value.int IntKind.i64 q11,Value.int IntKind.i64 q10]) ((0:Nat)+q22.toNat * (2:Nat)) [Value.int IntKind.i64 q26,Value.int IntKind.i64 q23])∧True∧True) (.stop [0,2,3,4,10] (S0 f n cap c lo hi first (IntKind.i64.wrap (IntKind.i64.wrap (2 * i0)+1)) (splice (splice l0 (0+q31.toNat * 2) [Value.int IntKind.i64 q21,Value.int IntKind.i64 q18]) (0+(IntKind.i64.wrap ((↑first:Int)+IntKind.i64.wrap (IntKind.i64.wrap (2 * i0)+1))).toNat * 2) [Value.int IntKind.i64 q28,Value.int IntKind.i64 q27]) (fun _=>undef))))))))))))))))));W.holds η prog B 85 (fun kp_ st_=>RunD η prog B 85 (H0 f n cap c lo hi first) kp_ st_ (QF prog 128 D)) D (.ite (decide (IntKind.i64.wrap q30 ≥ (↑hi:Int))) q2 (.ite (decide (IntKind.i64.wrap (IntKind.i64.wrap q30+(1:Int))<(↑hi:Int))) (.need ((0:Int)≤IntKind.i64.wrap q25∧IntKind.i64.wrap q25<(↑n:Int)) (.need ((0:Nat)+q22.toNat * (2:Nat)+(2:Nat)≤l0.length∧List.take (2:Nat) (List.drop ((0:Nat)+q22.toNat * (2:Nat)) l0)=[Value.int IntKind.i64 q11,Value.int IntKind.i64 q10]) (.need ((0:Int)≤IntKind.i64.wrap q19∧IntKind.i64.wrap q19<(↑n:Int)) (.need ((0:Nat)+q16.toNat * (2:Nat)+(2:Nat)≤l0.length∧List.take (2:Nat) (List.drop ((0:Nat)+q16.toNat * (2:Nat)) l0)=[Value.int IntKind.i64 q8,Value.int IntKind.i64 q5]) (.call 36 [Value.pointer (some ⟨127,0,none⟩),Value.agg ⟨[Value.int IntKind.i64 q21,Value.int IntKind.i64 q18]⟩,Value.agg ⟨[Value.int IntKind.i64 q14,Value.int IntKind.i64 q12]⟩] (q3) (.ret (Value.int IntKind.i64 (HQ.cmpA f q21 q18 q14 q12)) (q3)) (.ite (decide (HQ.cmpA f q11 q10 q8 q5<(0:Int))) (.need ((0:Int)≤IntKind.i64.wrap ((↑first:Int)+i0)∧IntKind.i64.wrap ((↑first:Int)+i0)<(↑n:Int)) (.need ((0:Nat)+q31.toNat * (2:Nat)+(2:Nat)≤l0.length∧List.take (2:Nat) q24=[Value.int IntKind.i64 q26,Value.int IntKind.i64 q23]) (.need ((0:Int)≤IntKind.i64.wrap q20∧IntKind.i64.wrap q20<(↑n:Int)) (.need ((0:Nat)+q17.toNat * (2:Nat)+(2:Nat)≤l0.length∧List.take (2:Nat) q7=[Value.int IntKind.i64 q9,Value.int IntKind.i64 q6]) (.call 36 [Value.pointer (some ⟨127,0,none⟩),Value.agg ⟨[Value.int IntKind.i64 q28,Value.int IntKind.i64 q27]⟩,Value.agg ⟨[Value.int IntKind.i64 q15,Value.int IntKind.i64 q13]⟩] (q4) (.ret (Value.int IntKind.i64 (HQ.cmpA f q28 q27 q15 q13)) (q4)) (.ite (!decide (HQ.cmpA f q26 q23 q9 q6<(0:Int))) (.need (NoNames l0∧True∧True) q2) (.need ((0:Int)≤IntKind.i64.wrap q20∧IntKind.i64.wrap q20<(↑n:Int)) (.need ((0:Nat)+q17.toNat * (2:Nat)+(2:Nat)≤l0.length∧List.take (2:Nat) q7=[Value.int IntKind.i64 q9,Value.int IntKind.i64 q6]) (.need ((0:Int)≤IntKind.i64.wrap ((↑first:Int)+i0)∧IntKind.i64.wrap ((↑first:Int)+i0)<(↑n:Int)) (.need ((0:Nat)+q31.toNat * (2:Nat)+(2:Nat)≤l0.length∧List.take (2:Nat) q24=[Value.int IntKind.i64 q26,Value.int IntKind.i64 q23]) (.need ((0:Int)≤IntKind.i64.wrap ((↑first:Int)+i0)∧IntKind.i64.wrap ((↑first:Int)+i0)<(↑n:Int)) (.need ((0:Nat)+q31.toNat * (2:Nat)+(2:Nat)≤l0.length) (.need ((0:Int)≤IntKind.i64.wrap q20∧IntKind.i64.wrap q20<(↑n:Int)) (.need ((0:Nat)+q17.toNat * (2:Nat)+(2:Nat)≤q1.length) (.need (NoNames (splice q1 ((0:Nat)+q17.toNat * (2:Nat)) [Value.int IntKind.i64 q26,Value.int IntKind.i64 q23])∧True∧True) (.stop [0,2,3,4,10] (S0 f n cap c lo hi first (IntKind.i64.wrap q29) (splice (splice l0 (0+q31.toNat * 2) [Value.int IntKind.i64 q15,Value.int IntKind.i64 q13]) (0+(IntKind.i64.wrap ((↑first:Int)+IntKind.i64.wrap q29)).toNat * 2) [Value.int IntKind.i64 q28,Value.int IntKind.i64 q27]) (fun _=>undef)))))))))))))))))) q0)))))) q0))):RunD η prog B 85 (H0 f n cap c lo hi first) [0,2,3,4,10] (S0 f n cap c lo hi first i0 l0 fun _=>undef) (QF prog 128 D):=by
 refine RunD.intro (S0 f n cap c lo hi first i0 l0) (fun d=>⟨rfl,rfl,rfl⟩) (fun d=>tmOk_get (by kernel_rfl)) (fun d=>by kernel_rfl) (fun d=>?_)
 exact walk_okT (h0:=H0 f n cap c lo hi first) hη hmix hreg (.steps 15 <| .bit 18 (.steps 3 <| .done none) (.steps 4 <| .reg <| .steps 5 <| .bit 23 (.steps 5 <| .op <| .op <| .steps 5 <| .op <| .op <| .call kN <| .steps 2 <| .reg <| .bit 40 (.steps 8 <| .reg <| .steps 5 <| .op <| .op <| .steps 4 <| .op <| .op <| .call kN <| .steps 2 <| .reg <| .bit 58 (.steps 2 <| .done (some ⟨128,[],[(126,(126,true)),(127,(127,false))]⟩)) (.steps 3 <| .reg <| .steps 12 <| .op <| .op <| .steps 4 <| .op <| .op <| .op <| .op <| .op <| .op <| .reg <| .steps 6 <| .stop [0,2,3,4,10] (some ⟨128,[],[(126,(126,true)),(127,(127,false))]⟩))) (.steps 4 <| .reg <| .steps 5 <| .op <| .op <| .steps 4 <| .op <| .op <| .call kN <| .steps 2 <| .reg <| .bit 58 (.steps 2 <| .done (some ⟨128,[],[(126,(126,true)),(127,(127,false))]⟩)) (.steps 3 <| .reg <| .steps 12 <| .op <| .op <| .steps 4 <| .op <| .op <| .op <| .op <| .op <| .op <| .reg <| .steps 6 <| .stop [0,2,3,4,10] (some ⟨128,[],[(126,(126,true)),(127,(127,false))]⟩)))) (.steps 17 <| .reg <| .steps 4 <| .reg <| .steps 5 <| .op <| .op <| .steps 4 <| .op <| .op <| .call kN <| .steps 2 <| .reg <| .bit 58 (.steps 2 <| .done (some ⟨128,[],[(126,(126,true)),(127,(127,false))]⟩)) (.steps 3 <| .reg <| .steps 12 <| .op <| .op <| .steps 4 <| .op <| .op <| .op <| .op <| .op <| .op <| .reg <| .steps 6 <| .stop [0,2,3,4,10] (some ⟨128,[],[(126,(126,true)),(127,(127,false))]⟩))))) (S0 f n cap c lo hi first i0 l0 d) (by kernel_rfl) h (by kernel_rfl)
end KSift
namespace KRev
noncomputable def bd:Code:=(Go.Proofs.Try.f78.body).getD .skip
noncomputable def H0(f:Nat)(n:Nat)(cap:Nat)(c:List Value)(a:Nat)(b:Nat):AH:={ objs:=eE (eE (eE (eE (eE (eE (eE (lL (AObj.cells 74 [Value.func (Fn.func f) ⟨[]⟩ ⟨[]⟩,Value.chan none,Value.chan none,Value.chan none] true 0)) nZ) nZ) nZ) nZ) nZ) nZ) (eE nZ (eE nZ (eE nZ (eE nZ (eE nZ (lL (AObj.cells 52 c false 2))))))),next:=128 }
noncomputable def E(f:Nat)(n:Nat)(cap:Nat)(c:List Value)(a:Nat)(b:Nat):AS:=⟨⟨78,34,nS (sS 126 0 n cap) (nS (iI (↑a:Int)) (lL (Value.func (Fn.func 36) ⟨[pP 127 0]⟩ ⟨[]⟩)) nZ) (lL (iI (↑b:Int))),[Item.code (codeAt bd [])],[],FrameMode.run,CallKind.normal,none⟩,[],H0 f n cap c a b⟩
noncomputable def S0(f:Nat)(n:Nat)(cap:Nat)(c:List Value)(a:Nat)(b:Nat)(i0:Int)(i1:Int)(l0:List Value)(d:Nat→Value):AS:=⟨⟨78,34,nS (sS 126 0 n cap) (nS (d 1) (nS (d 3) (nS (d 7) (nS (d 15) (lL (d 31)) nZ) (lL (d 23))) (nS (d 11) (lL (d 19)) (lL (d 27)))) (nS (d 5) (nS (iI i0) (nS (d 17) (lL (d 33)) nZ) (lL (d 25))) (nS (d 13) (lL (d 21)) (lL (d 29))))) (nS (d 2) (nS (d 4) (nS (iI i1) (nS (d 16) (lL (d 32)) nZ) (lL (d 24))) (nS (d 12) (lL (d 20)) (lL (d 28)))) (nS (d 6) (nS (d 10) (lL (d 18)) (lL (d 26))) (nS (d 14) (lL (d 22)) (lL (d 30))))),[Item.code (codeAt bd [1,1,0,0]),Item.inLoop (codeAt bd [1,1,0,0]),Item.inBlock 0],[],FrameMode.run,CallKind.normal,none⟩,[],⟨eE (eE (eE (eE (eE (eE (eE (lL (AObj.cells 74 [Value.func (Fn.func f) ⟨[]⟩ ⟨[]⟩,Value.chan none,Value.chan none,Value.chan none] true 0)) nZ) nZ) nZ) nZ) nZ) nZ) (eE nZ (eE nZ (eE nZ (eE nZ (eE nZ (lL (AObj.cells 52 l0 false 2))))))),128⟩⟩
theorem enter{η:Nat→Value}{B:Bd}(hη:OneCells η)(hmix:prog.follows .mixedOrders=true)(hreg:RegOk η prog B noNest){D:Value→AH→Prop}(f:Nat)(n:Nat)(cap:Nat)(c:List Value)(a:Nat)(b:Nat)(h:W.holds η prog B 78 (fun kp_ st_=>RunD η prog B 78 (H0 f n cap c a b) kp_ st_ (QF prog 128 D)) D (.stop [0,8,9] (S0 f n cap c a b (IntKind.i64.wrap ((↑b:Int) - 1)) ((↑a:Int)) (c) (fun _=>undef)))):CallSpec η prog B 78 [Value.slice (some ⟨126,0,none⟩) n cap,Value.int IntKind.i64 (↑a:Int),Value.int IntKind.i64 (↑b:Int),Value.func (Fn.func 36) ⟨[Value.pointer (some ⟨127,0,none⟩)]⟩ ⟨[]⟩] (H0 f n cap c a b) D:=by
 refine CallSpec.ofQF hη (CallSpec.enter (fr:=(E f n cap c a b).fr) (by kernel_rfl) ?_)
 exact walk_okT (h0:=H0 f n cap c a b) hη hmix hreg (.steps 13 <| .stop [0,8,9] none) (E f n cap c a b) (by kernel_rfl) h (by kernel_rfl)
theorem cut0{η:Nat→Value}{B:Bd}(hη:OneCells η)(hmix:prog.follows .mixedOrders=true)(hreg:RegOk η prog B noNest){D:Value→AH→Prop}(f:Nat)(n:Nat)(cap:Nat)(c:List Value)(a:Nat)(b:Nat)(i0:Int)(i1:Int)(l0:List Value)(h:let q3:=((0:Nat)+i0.toNat * (2:Nat));let q2:=(intAt l0 ((0:Nat)+i1.toNat * (2:Nat)));let q1:=(intAt l0 ((0:Nat)+i1.toNat * (2:Nat)+(1:Nat)));let q0:=(splice l0 ((0:Nat)+i1.toNat * (2:Nat)) [Value.int IntKind.i64 (intAt l0 q3),Value.int IntKind.i64 (intAt l0 ((0:Nat)+i0.toNat * (2:Nat)+(1:Nat)))]);W.holds η prog B 78 (fun kp_ st_=>RunD η prog B 78 (H0 f n cap c a b) kp_ st_ (QF prog 128 D)) D (.ite (decide (i1<i0)) (.need ((0:Int)≤i0∧i0<(↑n:Int)) (.need ((0:Nat)+i0.toNat * (2:Nat)+(2:Nat)≤l0.length∧List.take (2:Nat) (List.drop q3 l0)=[Value.int IntKind.i64 (intAt l0 q3),Value.int IntKind.i64 (intAt l0 ((0:Nat)+i0.toNat * (2:Nat)+(1:Nat)))]) (.need ((0:Int)≤i1∧i1<(↑n:Int)) (.need ((0:Nat)+i1.toNat * (2:Nat)+(2:Nat)≤l0.length∧List.take (2:Nat) (List.drop ((0:Nat)+i1.toNat * (2:Nat)) l0)=[Value.int IntKind.i64 q2,Value.int IntKind.i64 q1]) (.need ((0:Int)≤i1∧i1<(↑n:Int)) (.need ((0:Nat)+i1.toNat * (2:Nat)+(2:Nat)≤l0.length) (.need ((0:Int)≤i0∧i0<(↑n:Int)) (.need ((0:Nat)+i0.toNat * (2:Nat)+(2:Nat)≤q0.length) (.need (NoNames (splice q0 q3 [Value.int IntKind.i64 q2,Value.int IntKind.i64 q1])∧True∧True) (.stop [0,8,9] (S0 f n cap c a b (IntKind.i64.wrap (i0 - 1)) (IntKind.i64.wrap (i1+1)) (splice (splice l0 (0+i1.toNat * 2) [Value.int IntKind.i64 (intAt l0 (0+i0.toNat * 2)),Value.int IntKind.i64 (intAt l0 (0+i0.toNat * 2+1))]) (0+i0.toNat * 2) [Value.int IntKind.i64 (intAt l0 (0+i1.toNat * 2)),Value.int IntKind.i64 (intAt l0 (0+i1.toNat * 2+1))]) (fun _=>undef)))))))))))) (.done 78 (undef) (⟨eE (eE (eE (eE (eE (eE (eE (lL (AObj.cells 74 [Value.func (Fn.func f) ⟨[]⟩ ⟨[]⟩,Value.chan none,Value.chan none,Value.chan none] true 0)) nZ) nZ) nZ) nZ) nZ) nZ) (eE nZ (eE nZ (eE nZ (eE nZ (eE nZ (lL (AObj.cells 52 l0 false 2))))))),128⟩)))):RunD η prog B 78 (H0 f n cap c a b) [0,8,9] (S0 f n cap c a b i0 i1 l0 fun _=>undef) (QF prog 128 D):=by
 refine RunD.intro (S0 f n cap c a b i0 i1 l0) (fun d=>⟨rfl,rfl,rfl⟩) (fun d=>tmOk_get (by kernel_rfl)) (fun d=>by kernel_rfl) (fun d=>?_)
 exact walk_okT (h0:=H0 f n cap c a b) hη hmix hreg (.steps 7 <| .bit 15 (.steps 4 <| .reg <| .steps 6 <| .op <| .op <| .steps 2 <| .op <| .op <| .op <| .op <| .op <| .op <| .reg <| .steps 13 <| .stop [0,8,9] (some ⟨128,[],[(126,(126,true)),(127,(127,false))]⟩)) (.steps 3 <| .done none)) (S0 f n cap c a b i0 i1 l0 d) (by kernel_rfl) h (by kernel_rfl)
end KRev
end Go.Ev

/- Sorting items: reverse, insertion sort, sift down. -/
namespace Go.Ev
open Go Go.Proofs Go.RowKit
variable {η:Nat→Value} {B:Bd}
namespace HQ
abbrev A2:=Array (Int × Int)
theorem aC_int{d:A2}{k:Nat}(h:k<d.size):intAt (aC d) (k * 2)=(d[k]!).1∧intAt (aC d) (k * 2+1)=(d[k]!).2:=its_int h
theorem aC_cut{d:A2}{k:Nat}(h:k<d.size):List.take 2 (List.drop (k * 2) (aC d))=[.int .i64 (d[k]!).1,.int .i64 (d[k]!).2]:=its_cut h
theorem aC_len(d:A2):(aC d).length=d.size * 2:=its_len _ _
theorem aC_nn(d:A2):NoNames (aC d):=its_nn _ _
theorem aC_arr(d:A2):arr (aC d)=d:=by
 apply Array.ext
 ·unfold arr
  rw [Array.size_map,Array.size_range,aC_len];omega
 ·intro i h1 h2
  simp only [arr,Array.getElem_map,Array.getElem_range,(aC_int h2).1,(aC_int h2).2,getElem!_pos d i h2]
theorem aC_put{d:A2}{k:Nat}(h:k<d.size)(x y:Int):splice (aC d) (k * 2) [.int .i64 x,.int .i64 y]=aC (d.setIfInBounds k (x,y)):=by
 unfold aC
 rw [splice_its h,Array.size_setIfInBounds]
 refine its_congr fun j hj=>?_
 unfold upd
 by_cases e:j=k
 ·subst e;rw [if_pos rfl,getElem!_pos _ j (by simpa using h)];simp
 ·rw [if_neg e,Sort.getElem!_set_other d k j _ e]
theorem valS(f:Nat)(l:List Value):ValAt (heapS f l) 127 f:=⟨.chan none,.chan none,.chan none,0,by kernel_rfl,rfl,rfl,rfl⟩
theorem cmp_at(hη:OneCells η)(hmix:Try.prog.follows .mixedOrders=true){f:Nat}{H:AH}{l:List Value}(hf:isOrd f)(e:H.objs.get 127=(heapS f l).objs.get 127)(u a k b:Int) :
  CallSpec η Try.prog B 36 [.pointer (some ⟨127,0,none⟩),.agg ⟨[.int .i64 u,.int .i64 a]⟩,.agg ⟨[.int .i64 k,.int .i64 b]⟩] H (KT.ret (.int .i64 (cmpA f u a k b)) H).sat:=by
 obtain⟨a1,a2,a3,o,h1,h2⟩:=valS f l
 exact cmp_ok hη hmix hf ⟨a1,a2,a3,o,by rw [e];exact h1,h2⟩ u a k b
abbrev sArgs(n cap:Nat)(l:List Value):List Value:=.slice (some ⟨126,0,none⟩) n cap :: (l ++ [.func (.func 36) ⟨[.pointer (some ⟨127,0,none⟩)]⟩ ⟨[]⟩])
theorem ww(a:Nat)(h:a≤1000000000):IntKind.i64.wrap (a:Int)=a:=wrap_small (by omega) (by omega)
theorem wp(a:Nat)(h:a≤1000000000):IntKind.i64.wrap ((a:Int)+1)=((a+1:Nat):Int):=by rw [wrap_small (by omega) (by omega)];omega
theorem wm(a:Nat)(h:a≤1000000000)(h0:0<a):IntKind.i64.wrap ((a:Int) - 1)=((a - 1:Nat):Int):=by rw [wrap_small (by omega) (by omega)];omega
theorem gt_nat(a b:Nat):decide ((a:Int) > (b:Int))=decide (a > b):=decide_eq_decide.2 (by omega)
theorem lt_nat(a b:Nat):decide ((a:Int)<(b:Int))=decide (a<b):=decide_eq_decide.2 (by omega)

theorem rev_ok(hη:OneCells η)(hmix:Try.prog.follows .mixedOrders=true){f n cap:Nat}{d:A2}{a b:Nat}(hab:a<b)(hb:b≤n)(hn:n≤d.size)(hm:d.size≤1000000) :
  CallSpec η Try.prog B 78 (sArgs n cap [.int .i64 (a:Int),.int .i64 (b:Int)]) (heapS f (aC d)) (KT.ret undef (heapS f (aC (Sort.reverseRange d a b)))).sat:=by
 generalize hR:Sort.reverseRange d a b=R
 have cut:=fun i0 i1 l0=>KRev.cut0 (η:=η) (B:=B) (D:=(KT.ret undef (heapS f (aC R))).sat) hη hmix (reg0 hη hmix) f n cap (aC d) a b i0 i1 l0
 have loop:∀ (k i j:Nat) (t:A2),j - i<k→j<n→t.size=d.size→Sort.reverseLoop i j t=R→RunD η Try.prog B 78 (KRev.H0 f n cap (aC d) a b) [0,8,9] (KRev.S0 f n cap (aC d) a b (j:Int) (i:Int) (aC t) fun _=>undef) (QF Try.prog 128 (KT.ret undef (heapS f (aC R))).sat):=by
  intro k
  induction k with
  | zero=>intro i j t h;omega
  | succ k ih=>
   intro i j t hk hjn ht he
   refine cut _ _ _ ?_
   unfold Sort.reverseLoop at he
   simp only [W.holds,lt_nat,decide_eq_true_eq,decide_eq_false_iff_not,Int.toNat_natCast,true_and,and_true,true_implies,Nat.zero_add,Nat.add_zero]
   refine⟨fun q=>?_,fun q=>?_⟩
   ·rw [if_pos q] at he
    have hi:i<t.size:=by omega
    have hj:j<t.size:=by omega
    obtain⟨a1,a2⟩:=aC_int hi
    obtain⟨b1,b2⟩:=aC_int hj
    have p1:=fun x y=>aC_put (d:=t) (k:=i) hi x y
    have p2:=fun p x y=>aC_put (d:=t.setIfInBounds i p) (k:=j) (by simpa using hj) x y
    simp only [a1,a2,b1,b2,aC_cut hi,aC_cut hj,p1,p2,aC_len,aC_nn,Array.size_setIfInBounds,wp i (by omega),wm j (by omega) (by omega),true_and,and_true,true_implies]
    have nx:=ih (i+1) (j - 1) (Sort.swp t i j) (by omega) (by omega) (by rw [Sort.size_swp];exact ht) he
    repeat' first | exact nx | refine⟨by omega,fun _=>?_⟩
   ·rw [if_neg q] at he
    subst he
    exact⟨rfl,by kernel_rfl⟩
 refine KRev.enter hη hmix (reg0 hη hmix) _ _ _ _ _ _ ?_
 simp only [W.holds,wm b (by omega) (by omega)]
 exact loop (b+1) a (b - 1) d (by omega) (by omega) rfl hR
theorem ins_ok(hη:OneCells η)(hmix:Try.prog.follows .mixedOrders=true){f n cap:Nat}{d:A2}{a b:Nat}(hf:isOrd f)(hb:b≤n)(hn:n≤d.size)(hm:d.size≤1000000)(ha:a≤n) :
  CallSpec η Try.prog B 74 (sArgs n cap [.int .i64 (a:Int),.int .i64 (b:Int)]) (heapS f (aC d)) (KT.ret undef (heapS f (aC (Sort.insertionSort (ltA f) d a b)))).sat:=by
 generalize hR:Sort.insertionSort (ltA f) d a b=R
 have cut0:=fun i0 l0=>KIns.cut0 (η:=η) (B:=B) (D:=(KT.ret undef (heapS f (aC R))).sat) hη hmix (reg0 hη hmix) f n cap (aC d) a b i0 l0
 have cut1:=fun i0 l0 i1=>KIns.cut1 (η:=η) (B:=B) (D:=(KT.ret undef (heapS f (aC R))).sat) hη hmix (reg0 hη hmix) f n cap (aC d) a b i0 l0 i1
 have outer:∀ (k i:Nat) (t:A2),b - i<k→i≤n+1→t.size=d.size→Sort.insOuter (ltA f) a b i t=R→RunD η Try.prog B 74 (KIns.H0 f n cap (aC d) a b) [0,1,2,3,8] (KIns.S0 f n cap (aC d) a b (i:Int) (aC t) fun _=>undef) (QF Try.prog 128 (KT.ret undef (heapS f (aC R))).sat):=by
  intro k
  induction k with
  | zero=>intro i t h;omega
  | succ k ih=>
   intro i t hk hin ht he
   unfold Sort.insOuter at he
   refine cut0 _ _ ?_
   simp only [W.holds,lt_nat,decide_eq_true_eq,decide_eq_false_iff_not,true_and,and_true,true_implies]
   refine⟨fun q=>?_,fun q=>?_⟩
   ·rw [if_pos q] at he
    have inner:∀ (j:Nat) (u:A2),j≤i→u.size=d.size→Sort.insOuter (ltA f) a b (i+1) (Sort.insInner (ltA f) a j u)=R→RunD η Try.prog B 74 (KIns.H0 f n cap (aC d) a b) [0,1,2,3,8,9] (KIns.S1 f n cap (aC d) a b (j:Int) (aC u) (i:Int) fun _=>undef) (QF Try.prog 128 (KT.ret undef (heapS f (aC R))).sat):=by
     intro j
     induction j with
     | zero=>
      intro u hj hu he
      refine cut1 _ _ _ ?_
      simp only [W.holds,gt_nat,decide_eq_true_eq,decide_eq_false_iff_not,wp i (by omega),aC_nn,true_and,and_true,true_implies]
      exact⟨fun q=>by omega,fun _=>ih (i+1) u (by omega) (by omega) hu he⟩
     | succ j ihj=>
      intro u hj hu he
      unfold Sort.insInner at he
      have h1:j+1<u.size:=by omega
      have h0:j<u.size:=by omega
      obtain⟨a1,a2⟩:=aC_int h1
      obtain⟨b1,b2⟩:=aC_int h0
      have p1:=fun x y=>aC_put (d:=u) (k:=j+1) h1 x y
      have p2:=fun p x y=>aC_put (d:=u.setIfInBounds (j+1) p) (k:=j) (by simpa using h0) x y
      refine cut1 _ _ _ ?_
      simp only [W.holds,gt_nat,decide_eq_true_eq,decide_eq_false_iff_not,wm (j+1) (by omega) (by omega),Nat.add_sub_cancel,Int.toNat_natCast,Nat.zero_add,Nat.add_zero,a1,a2,b1,b2,aC_cut h1,aC_cut h0,p1,p2,aC_len,aC_nn,Array.size_setIfInBounds,wp i (by omega),true_and,and_true,true_implies]
      refine⟨fun q=>?_,fun q=>?_⟩
      ·have fin:∀ {y},y=ltA f u[j+1]! u[j]!→(if y=true then Sort.insInner (ltA f) a j (Sort.swp u (j+1) j) else u)=(if decide (j+1 > a) && ltA f u[j+1]! u[j]! then Sort.insInner (ltA f) a j (Sort.swp u (j+1) j) else u):=fun e=>by rw [e,decide_eq_true (by exact q),Bool.true_and]
       have go:ltA f u[j+1]! u[j]! = true→RunD η Try.prog B 74 (KIns.H0 f n cap (aC d) a b) [0,1,2,3,8,9] (KIns.S1 f n cap (aC d) a b (j:Int) (aC (Sort.swp u (j+1) j)) (i:Int) fun _=>undef) (QF Try.prog 128 (KT.ret undef (heapS f (aC R))).sat):=fun e=>by
        rw [← fin e.symm,if_pos rfl] at he
        exact ihj _ (by omega) (by rw [Sort.size_swp];exact hu) he
       have st:ltA f u[j+1]! u[j]! = false→RunD η Try.prog B 74 (KIns.H0 f n cap (aC d) a b) [0,1,2,3,8] (KIns.S0 f n cap (aC d) a b ((i+1:Nat):Int) (aC u) fun _=>undef) (QF Try.prog 128 (KT.ret undef (heapS f (aC R))).sat):=fun e=>by
        rw [← fin e.symm,if_neg (by simp)] at he
        exact ih (i+1) u (by omega) (by omega) hu he
       repeat' first | exact cmp_at hη hmix hf (l:=aC u) (by kernel_rfl) _ _ _ _ | exact go (decide_eq_true ‹_›) | exact st (decide_eq_false ‹_›) | refine⟨by omega,fun _=>?_⟩ | refine⟨?_,fun _=>?_,fun _=>?_⟩
      ·rw [if_neg (by simp;omega)] at he
       exact ih (i+1) u (by omega) (by omega) hu he
    exact inner i t (Nat.le_refl _) ht he
   ·rw [if_neg q] at he
    subst he
    exact⟨rfl,by kernel_rfl⟩
 refine KIns.enter hη hmix (reg0 hη hmix) _ _ _ _ _ _ ?_
 simp only [W.holds,wp a (by omega)]
 exact outer (b+1) (a+1) d (by omega) (by omega) rfl hR
theorem wn{x:Int}(y:Nat)(h:x=(y:Int))(hy:y≤1000000000):IntKind.i64.wrap x=(y:Int):=by rw [h];exact ww y hy
theorem ge_nat(a b:Nat):decide ((a:Int) ≥ (b:Int))=decide (a ≥ b):=decide_eq_decide.2 (by omega)
set_option maxHeartbeats 4000000 in
theorem sift_ok(hη:OneCells η)(hmix:Try.prog.follows .mixedOrders=true){f n cap:Nat}{d:A2}{lo hi first:Nat}(hf:isOrd f)(hb:first+hi≤n)(hn:n≤d.size)(hm:d.size≤1000000)(ha:lo≤n) :
  CallSpec η Try.prog B 85 (sArgs n cap [.int .i64 (lo:Int),.int .i64 (hi:Int),.int .i64 (first:Int)]) (heapS f (aC d)) (KT.ret undef (heapS f (aC (Sort.siftDown (ltA f) hi first lo d)))).sat:=by
 generalize hR:Sort.siftDown (ltA f) hi first lo d=R
 have cut0:=fun i0 l0=>KSift.cut0 (η:=η) (B:=B) (D:=(KT.ret undef (heapS f (aC R))).sat) hη hmix (reg0 hη hmix) f n cap (aC d) lo hi first i0 l0
 have loop:∀ (k a:Nat) (t:A2),hi - a<k→a≤n→t.size=d.size→Sort.siftDown (ltA f) hi first a t=R→RunD η Try.prog B 85 (KSift.H0 f n cap (aC d) lo hi first) [0,2,3,4,10] (KSift.S0 f n cap (aC d) lo hi first (a:Int) (aC t) fun _=>undef) (QF Try.prog 128 (KT.ret undef (heapS f (aC R))).sat):=by
  intro k
  induction k with
  | zero=>intro a t h;omega
  | succ k ih=>
   intro a t hk han ht he
   refine cut0 _ _ ?_
   have w1:IntKind.i64.wrap (2 * (a:Int))=((2 * a:Nat):Int):=wn _ (by omega) (by omega)
   have w2:IntKind.i64.wrap (((2 * a:Nat):Int)+1)=((2 * a+1:Nat):Int):=wn _ (by omega) (by omega)
   have w3:IntKind.i64.wrap (((2 * a+1:Nat):Int)+1)=((2 * a+2:Nat):Int):=wn _ (by omega) (by omega)
   have w4:IntKind.i64.wrap ((first:Int)+((2 * a+1:Nat):Int))=((first+(2 * a+1):Nat):Int):=wn _ (by omega) (by omega)
   have w5:IntKind.i64.wrap (((first+(2 * a+1):Nat):Int)+1)=((first+(2 * a+2):Nat):Int):=wn _ (by omega) (by omega)
   have w6:IntKind.i64.wrap ((first:Int)+((2 * a+2:Nat):Int))=((first+(2 * a+2):Nat):Int):=wn _ (by omega) (by omega)
   have w7:IntKind.i64.wrap ((first:Int)+(a:Int))=((first+a:Nat):Int):=wn _ (by omega) (by omega)
   unfold Sort.siftDown at he
   simp only [W.holds,w1,w2,w3,w4,w5,w6,w7,ge_nat,lt_nat,decide_eq_true_eq,decide_eq_false_iff_not,true_and,and_true,true_implies]
   refine⟨fun q=>?_,fun q=>?_⟩
   ·rw [dif_pos q] at he
    subst he
    exact⟨rfl,by kernel_rfl⟩
   rw [dif_neg q] at he
   have hc:first+(2 * a+1)<t.size:=by omega
   have hr:first+a<t.size:=by omega
   obtain⟨a1,a2⟩:=aC_int hc
   obtain⟨b1,b2⟩:=aC_int hr
   have low:(decide (2 * a+1+1<hi) && ltA f t[first+(2 * a+1)]! t[first+(2 * a+1)+1]!)=false→ltA f t[first+a]! t[first+(2 * a+1)]! = true→RunD η Try.prog B 85 (KSift.H0 f n cap (aC d) lo hi first) [0,2,3,4,10] (KSift.S0 f n cap (aC d) lo hi first ((2 * a+1:Nat):Int) (aC (Sort.swp t (first+a) (first+(2 * a+1)))) fun _=>undef) (QF Try.prog 128 (KT.ret undef (heapS f (aC R))).sat):=fun e1 e2=>by
    rw [if_neg (by rw [e1];simp),if_neg (by rw [e2];simp)] at he
    exact ih _ _ (by omega) (by omega) (by rw [Sort.size_swp];exact ht) he
   have low0:(decide (2 * a+1+1<hi) && ltA f t[first+(2 * a+1)]! t[first+(2 * a+1)+1]!)=false→ltA f t[first+a]! t[first+(2 * a+1)]! = false→t=R:=fun e1 e2=>by
    rw [if_neg (by rw [e1];simp),if_pos (by rw [e2];rfl)] at he
    exact he
   have p1:=fun x y=>aC_put (d:=t) (k:=first+a) hr x y
   refine⟨fun q2=>?_,fun q2=>?_⟩
   ·have h2:first+(2 * a+2)<t.size:=by omega
    obtain⟨c1,c2⟩:=aC_int h2
    have p2:=fun p x y=>aC_put (d:=t.setIfInBounds (first+a) p) (k:=first+(2 * a+1)) (by simpa using hc) x y
    have p3:=fun p x y=>aC_put (d:=t.setIfInBounds (first+a) p) (k:=first+(2 * a+2)) (by simpa using h2) x y
    have up:ltA f t[first+(2 * a+1)]! t[first+(2 * a+2)]! = true→ltA f t[first+a]! t[first+(2 * a+2)]! = true→RunD η Try.prog B 85 (KSift.H0 f n cap (aC d) lo hi first) [0,2,3,4,10] (KSift.S0 f n cap (aC d) lo hi first ((2 * a+2:Nat):Int) (aC (Sort.swp t (first+a) (first+(2 * a+2)))) fun _=>undef) (QF Try.prog 128 (KT.ret undef (heapS f (aC R))).sat):=fun e1 e2=>by
     have e1':ltA f t[first+(2 * a+1)]! t[first+(2 * a+1)+1]! = true:=e1
     rw [if_pos (by rw [e1',decide_eq_true q2];rfl),if_neg (by rw [e2];simp),dif_pos q2] at he
     exact ih _ _ (by omega) (by omega) (by rw [Sort.size_swp];exact ht) he
    have up0:ltA f t[first+(2 * a+1)]! t[first+(2 * a+2)]! = true→ltA f t[first+a]! t[first+(2 * a+2)]! = false→t=R:=fun e1 e2=>by
     have e1':ltA f t[first+(2 * a+1)]! t[first+(2 * a+1)+1]! = true:=e1
     rw [if_pos (by rw [e1',decide_eq_true q2];rfl),if_pos (by rw [e2];rfl)] at he
     exact he
    simp only [Int.toNat_natCast,Nat.zero_add,Nat.add_zero,a1,a2,b1,b2,c1,c2,aC_cut hc,aC_cut hr,aC_cut h2,p1,p2,p3,aC_len,aC_nn,Array.size_setIfInBounds,Bool.not_eq_true',Bool.not_eq_false',decide_eq_true_eq,decide_eq_false_iff_not,true_and,and_true,true_implies]
    have lowb:ltA f t[first+(2 * a+1)]! t[first+(2 * a+2)]! = false→(decide (2 * a+1+1<hi) && ltA f t[first+(2 * a+1)]! t[first+(2 * a+1)+1]!)=false:=fun e=>by
     have e':ltA f t[first+(2 * a+1)]! t[first+(2 * a+1)+1]! = false:=e
     rw [e',Bool.and_false]
    repeat' first
     | exact cmp_at hη hmix hf (l:=aC t) (by kernel_rfl) _ _ _ _
     | exact up (decide_eq_true (by assumption)) (decide_eq_true (by assumption))
     | exact low (lowb (decide_eq_false (by assumption))) (decide_eq_true (by assumption))
     | (refine⟨rfl,?_⟩;rw [← up0 (decide_eq_true (by assumption)) (decide_eq_false (by assumption))];kernel_rfl)
     | (refine⟨rfl,?_⟩;rw [← low0 (lowb (decide_eq_false (by assumption))) (decide_eq_false (by assumption))];kernel_rfl)
     | refine⟨by omega,fun _=>?_⟩
     | refine⟨?_,fun _=>?_,fun _=>?_⟩
   ·have p2:=fun p x y=>aC_put (d:=t.setIfInBounds (first+a) p) (k:=first+(2 * a+1)) (by simpa using hc) x y
    have e1:(decide (2 * a+1+1<hi) && ltA f t[first+(2 * a+1)]! t[first+(2 * a+1)+1]!)=false:=by
     rw [decide_eq_false (by exact q2)];rfl
    simp only [Int.toNat_natCast,Nat.zero_add,Nat.add_zero,a1,a2,b1,b2,aC_cut hc,aC_cut hr,p1,p2,aC_len,aC_nn,Array.size_setIfInBounds,Bool.not_eq_true',Bool.not_eq_false',decide_eq_true_eq,decide_eq_false_iff_not,true_and,and_true,true_implies]
    repeat' first
     | exact cmp_at hη hmix hf (l:=aC t) (by kernel_rfl) _ _ _ _
     | exact low e1 (decide_eq_true (by assumption))
     | (refine⟨rfl,?_⟩;rw [← low0 e1 (decide_eq_false (by assumption))];kernel_rfl)
     | refine⟨by omega,fun _=>?_⟩
     | refine⟨?_,fun _=>?_,fun _=>?_⟩
 refine KSift.enter hη hmix (reg0 hη hmix) _ _ _ _ _ _ _ ?_
 simp only [W.holds]
 exact loop (hi+1) lo d (by omega) (by omega) rfl hR
end HQ
end Go.Ev

namespace Go.Ev
open Go Go.Proofs
open Go.Ev.T renaming node → nN, nil → nZ
open Go.Proofs.Try (prog)
set_option maxRecDepth 100000
set_option maxHeartbeats 2000000
namespace KOrd2
noncomputable def bd:Code:=(Go.Proofs.Try.f91.body).getD .skip
noncomputable def H0(f:Nat)(n:Nat)(cap:Nat)(c:List Value)(a:Nat)(b:Nat)(s:Nat):AH:={ objs:=eE (eE (eE (eE (eE (eE (eE (lL (AObj.cells 74 [Value.func (Fn.func f) ⟨[]⟩ ⟨[]⟩,Value.chan none,Value.chan none,Value.chan none] true 0)) nZ) nZ) nZ) nZ) nZ) nZ) (eE (eE (eE (eE (eE (eE (lL (AObj.cells 3 [iI (↑s:Int)] true 2)) nZ) nZ) nZ) nZ) nZ) (eE nZ (eE nZ (eE nZ (eE nZ (lL (AObj.cells 52 c false 2))))))),next:=129 }
noncomputable def E(f:Nat)(n:Nat)(cap:Nat)(c:List Value)(a:Nat)(b:Nat)(s:Nat):AS:=⟨⟨91,32,nS (sS 126 0 n cap) (nS (iI (↑a:Int)) (lL (pP 128 0)) nZ) (nS (iI (↑b:Int)) (lL (Value.func (Fn.func 36) ⟨[pP 127 0]⟩ ⟨[]⟩)) nZ),[Item.code (codeAt bd [])],[],FrameMode.run,CallKind.normal,none⟩,[],H0 f n cap c a b s⟩
theorem enter{η:Nat→Value}{B:Bd}(hη:OneCells η)(hmix:prog.follows .mixedOrders=true)(hreg:RegOk η prog B noNest){D:Value→AH→Prop}(f:Nat)(n:Nat)(cap:Nat)(c:List Value)(a:Nat)(b:Nat)(s:Nat)(h:let q6:=(intAt c (0+(↑a:Int).toNat * 2+1));let q5:=(intAt c (0+(↑b:Int).toNat * 2+1));let q4:=(intAt c ((0:Nat)+(↑a:Int).toNat * (2:Nat)));let q3:=(intAt c ((0:Nat)+(↑b:Int).toNat * (2:Nat)));let q2:=(intAt c ((0:Nat)+(↑a:Int).toNat * (2:Nat)+(1:Nat)));let q1:=(intAt c ((0:Nat)+(↑b:Int).toNat * (2:Nat)+(1:Nat)));let q0:AH:=⟨eE (eE (eE (eE (eE (eE (eE (lL (AObj.cells 74 [Value.func (Fn.func f) ⟨[]⟩ ⟨[]⟩,Value.chan none,Value.chan none,Value.chan none] true 0)) nZ) nZ) nZ) nZ) nZ) nZ) (eE (eE (eE (eE (eE (eE (lL (AObj.cells 3 [iI (↑s:Int)] true 2)) nZ) nZ) nZ) nZ) nZ) (eE nZ (eE nZ (eE nZ (eE nZ (lL (AObj.cells 52 c false 2))))))),140⟩;W.holds η prog B 91 (fun kp_ st_=>RunD η prog B 91 (H0 f n cap c a b s) kp_ st_ (QF prog 129 D)) D (.need ((0:Int)≤(↑b:Int)∧(↑b:Int)<(↑n:Int)) (.need ((0:Nat)+(↑b:Int).toNat * (2:Nat)+(2:Nat)≤c.length∧List.take (2:Nat) (List.drop ((0:Nat)+(↑b:Int).toNat * (2:Nat)) c)=[Value.int IntKind.i64 q3,Value.int IntKind.i64 q1]) (.need ((0:Int)≤(↑a:Int)∧(↑a:Int)<(↑n:Int)) (.need ((0:Nat)+(↑a:Int).toNat * (2:Nat)+(2:Nat)≤c.length∧List.take (2:Nat) (List.drop ((0:Nat)+(↑a:Int).toNat * (2:Nat)) c)=[Value.int IntKind.i64 q4,Value.int IntKind.i64 q2]) (.call 36 [Value.pointer (some ⟨127,0,none⟩),Value.agg ⟨[Value.int IntKind.i64 (intAt c (0+(↑b:Int).toNat * 2)),Value.int IntKind.i64 q5]⟩,Value.agg ⟨[Value.int IntKind.i64 (intAt c (0+(↑a:Int).toNat * 2)),Value.int IntKind.i64 q6]⟩] (q0) (.ret (Value.int IntKind.i64 (HQ.cmpA f (intAt c (0+(↑b:Int).toNat * 2)) q5 (intAt c (0+(↑a:Int).toNat * 2)) q6)) (q0)) (.ite (decide (HQ.cmpA f q3 q1 q4 q2<(0:Int))) (.need (NoNames c∧True∧True∧True) (.done 91 (Value.tuple ⟨[Value.int IntKind.i64 (↑b:Int),Value.int IntKind.i64 (↑a:Int)]⟩) (⟨eE (eE (eE (eE (eE (eE (eE (lL (AObj.cells 74 [Value.func (Fn.func f) ⟨[]⟩ ⟨[]⟩,Value.chan none,Value.chan none,Value.chan none] true 0)) nZ) nZ) nZ) nZ) nZ) nZ) (eE (eE (eE (eE (eE (eE (lL (AObj.cells 3 [iI (IntKind.i64.wrap ((↑s:Int)+1))] true 2)) nZ) nZ) nZ) nZ) nZ) (eE nZ (eE nZ (eE nZ (eE nZ (lL (AObj.cells 52 c false 2))))))),129⟩))) (.need (NoNames c∧True∧True∧True) (.done 91 (Value.tuple ⟨[Value.int IntKind.i64 (↑a:Int),Value.int IntKind.i64 (↑b:Int)]⟩) (H0 f n cap c a b s)))))))))):CallSpec η prog B 91 [Value.slice (some ⟨126,0,none⟩) n cap,Value.int IntKind.i64 (↑a:Int),Value.int IntKind.i64 (↑b:Int),Value.pointer (some ⟨128,0,none⟩),Value.func (Fn.func 36) ⟨[Value.pointer (some ⟨127,0,none⟩)]⟩ ⟨[]⟩] (H0 f n cap c a b s) D:=by
 refine CallSpec.ofQF hη (CallSpec.enter (fr:=(E f n cap c a b s).fr) (by kernel_rfl) ?_)
 exact walk_okT (h0:=H0 f n cap c a b s) hη hmix hreg (.steps 7 <| .reg <| .steps 3 <| .op <| .op <| .steps 2 <| .op <| .op <| .call kN <| .steps 1 <| .reg <| .bit 22 (.steps 18 <| .done (some ⟨129,[],[(126,(126,true)),(127,(127,false)),(128,(128,false))]⟩)) (.steps 10 <| .done (some ⟨129,[],[(126,(126,true)),(127,(127,false)),(128,(128,false))]⟩))) (E f n cap c a b s) (by kernel_rfl) h (by kernel_rfl)
end KOrd2
namespace KMed
noncomputable def bd:Code:=(Go.Proofs.Try.f89.body).getD .skip
noncomputable def H0(f:Nat)(n:Nat)(cap:Nat)(c:List Value)(a:Nat)(b:Nat)(e:Nat)(s:Nat):AH:={ objs:=eE (eE (eE (eE (eE (eE (eE (lL (AObj.cells 74 [Value.func (Fn.func f) ⟨[]⟩ ⟨[]⟩,Value.chan none,Value.chan none,Value.chan none] true 0)) nZ) nZ) nZ) nZ) nZ) nZ) (eE (eE (eE (eE (eE (eE (lL (AObj.cells 3 [iI (↑s:Int)] true 2)) nZ) nZ) nZ) nZ) nZ) (eE nZ (eE nZ (eE nZ (eE nZ (lL (AObj.cells 52 c false 2))))))),next:=129 }
noncomputable def E(f:Nat)(n:Nat)(cap:Nat)(c:List Value)(a:Nat)(b:Nat)(e:Nat)(s:Nat):AS:=⟨⟨89,41,nS (sS 126 0 n cap) (nS (iI (↑a:Int)) (lL (iI (↑e:Int))) (lL (Value.func (Fn.func 36) ⟨[pP 127 0]⟩ ⟨[]⟩))) (nS (iI (↑b:Int)) (lL (pP 128 0)) nZ),[Item.code (codeAt bd [])],[],FrameMode.run,CallKind.normal,none⟩,[],H0 f n cap c a b e s⟩
theorem enter{η:Nat→Value}{B:Bd}(hη:OneCells η)(hmix:prog.follows .mixedOrders=true)(hreg:RegOk η prog B noNest){D:Value→AH→Prop}(f:Nat)(n:Nat)(cap:Nat)(c:List Value)(a:Nat)(b:Nat)(e:Nat)(s:Nat)(h:let q7:=(HQ.o2S f c (↑a:Int).toNat (↑b:Int).toNat (↑s:Int).toNat);let q6:=(HQ.o2B f c (↑a:Int).toNat (↑b:Int).toNat (↑s:Int).toNat);let q5:=(HQ.o2A f c (↑a:Int).toNat (↑b:Int).toNat (↑s:Int).toNat);let q4:=(HQ.o2A f c (↑q6:Int).toNat (↑e:Int).toNat (↑q7:Int).toNat);let q3:=(HQ.o2B f c (↑q5:Int).toNat (↑q4:Int).toNat (↑(HQ.o2S f c (↑q6:Int).toNat (↑e:Int).toNat (↑q7:Int).toNat):Int).toNat);let q2:AH:=⟨eE (eE (eE (eE (eE (eE (eE (lL (AObj.cells 74 [Value.func (Fn.func f) ⟨[]⟩ ⟨[]⟩,Value.chan none,Value.chan none,Value.chan none] true 0)) nZ) nZ) nZ) nZ) nZ) nZ) (eE (eE (eE (eE (eE (eE (lL (AObj.cells 3 [iI (↑q7:Int)] true 2)) nZ) nZ) nZ) nZ) nZ) (eE nZ (eE nZ (eE nZ (eE nZ (lL (AObj.cells 52 c false 2))))))),129⟩;let q1:AH:=⟨eE (eE (eE (eE (eE (eE (eE (lL (AObj.cells 74 [Value.func (Fn.func f) ⟨[]⟩ ⟨[]⟩,Value.chan none,Value.chan none,Value.chan none] true 0)) nZ) nZ) nZ) nZ) nZ) nZ) (eE (eE (eE (eE (eE (eE (lL (AObj.cells 3 [iI (↑(HQ.o2S f c (↑q6:Int).toNat (↑e:Int).toNat (↑q7:Int).toNat):Int)] true 2)) nZ) nZ) nZ) nZ) nZ) (eE nZ (eE nZ (eE nZ (eE nZ (lL (AObj.cells 52 c false 2))))))),129⟩;let q0:AH:=⟨eE (eE (eE (eE (eE (eE (eE (lL (AObj.cells 74 [Value.func (Fn.func f) ⟨[]⟩ ⟨[]⟩,Value.chan none,Value.chan none,Value.chan none] true 0)) nZ) nZ) nZ) nZ) nZ) nZ) (eE (eE (eE (eE (eE (eE (lL (AObj.cells 3 [iI (↑(HQ.o2S f c (↑q5:Int).toNat (↑q4:Int).toNat (↑(HQ.o2S f c (↑q6:Int).toNat (↑e:Int).toNat (↑q7:Int).toNat):Int).toNat):Int)] true 2)) nZ) nZ) nZ) nZ) nZ) (eE nZ (eE nZ (eE nZ (eE nZ (lL (AObj.cells 52 c false 2))))))),129⟩;W.holds η prog B 89 (fun kp_ st_=>RunD η prog B 89 (H0 f n cap c a b e s) kp_ st_ (QF prog 129 D)) D (.call 91 [Value.slice (some ⟨126,0,none⟩) n cap,Value.int IntKind.i64 (↑a:Int),Value.int IntKind.i64 (↑b:Int),Value.pointer (some ⟨128,0,none⟩),Value.func (Fn.func 36) ⟨[Value.pointer (some ⟨127,0,none⟩)]⟩ ⟨[]⟩] (⟨eE (eE (eE (eE (eE (eE (eE (lL (AObj.cells 74 [Value.func (Fn.func f) ⟨[]⟩ ⟨[]⟩,Value.chan none,Value.chan none,Value.chan none] true 0)) nZ) nZ) nZ) nZ) nZ) nZ) (eE (eE (eE (eE (eE (eE (lL (AObj.cells 3 [iI (↑s:Int)] true 2)) nZ) nZ) nZ) nZ) nZ) (eE nZ (eE nZ (eE nZ (eE nZ (lL (AObj.cells 52 c false 2))))))),129⟩) (.ret (Value.tuple ⟨[Value.int IntKind.i64 (↑q5:Int),Value.int IntKind.i64 (↑q6:Int)]⟩) (q2)) (.call 91 [Value.slice (some ⟨126,0,none⟩) n cap,Value.int IntKind.i64 (↑q6:Int),Value.int IntKind.i64 (↑e:Int),Value.pointer (some ⟨128,0,none⟩),Value.func (Fn.func 36) ⟨[Value.pointer (some ⟨127,0,none⟩)]⟩ ⟨[]⟩] (q2) (.ret (Value.tuple ⟨[Value.int IntKind.i64 (↑q4:Int),Value.int IntKind.i64 (↑(HQ.o2B f c (↑q6:Int).toNat (↑e:Int).toNat (↑q7:Int).toNat):Int)]⟩) (q1)) (.call 91 [Value.slice (some ⟨126,0,none⟩) n cap,Value.int IntKind.i64 (↑q5:Int),Value.int IntKind.i64 (↑q4:Int),Value.pointer (some ⟨128,0,none⟩),Value.func (Fn.func 36) ⟨[Value.pointer (some ⟨127,0,none⟩)]⟩ ⟨[]⟩] (q1) (.ret (Value.tuple ⟨[Value.int IntKind.i64 (↑(HQ.o2A f c (↑q5:Int).toNat (↑q4:Int).toNat (↑(HQ.o2S f c (↑q6:Int).toNat (↑e:Int).toNat (↑q7:Int).toNat):Int).toNat):Int),Value.int IntKind.i64 (↑q3:Int)]⟩) (q0)) (.done 89 (Value.int IntKind.i64 (↑q3:Int)) (q0)))))):CallSpec η prog B 89 [Value.slice (some ⟨126,0,none⟩) n cap,Value.int IntKind.i64 (↑a:Int),Value.int IntKind.i64 (↑b:Int),Value.int IntKind.i64 (↑e:Int),Value.pointer (some ⟨128,0,none⟩),Value.func (Fn.func 36) ⟨[Value.pointer (some ⟨127,0,none⟩)]⟩ ⟨[]⟩] (H0 f n cap c a b e s) D:=by
 refine CallSpec.ofQF hη (CallSpec.enter (fr:=(E f n cap c a b e s).fr) (by kernel_rfl) ?_)
 exact walk_okT (h0:=H0 f n cap c a b e s) hη hmix hreg (.steps 11 <| .call kN <| .steps 13 <| .call kN <| .steps 13 <| .call kN <| .steps 12 <| .done none) (E f n cap c a b e s) (by kernel_rfl) h (by kernel_rfl)
end KMed
namespace KMeda
noncomputable def bd:Code:=(Go.Proofs.Try.f88.body).getD .skip
noncomputable def H0(f:Nat)(n:Nat)(cap:Nat)(c:List Value)(a:Nat)(s:Nat):AH:={ objs:=eE (eE (eE (eE (eE (eE (eE (lL (AObj.cells 74 [Value.func (Fn.func f) ⟨[]⟩ ⟨[]⟩,Value.chan none,Value.chan none,Value.chan none] true 0)) nZ) nZ) nZ) nZ) nZ) nZ) (eE (eE (eE (eE (eE (eE (lL (AObj.cells 3 [iI (↑s:Int)] true 2)) nZ) nZ) nZ) nZ) nZ) (eE nZ (eE nZ (eE nZ (eE nZ (lL (AObj.cells 52 c false 2))))))),next:=129 }
noncomputable def E(f:Nat)(n:Nat)(cap:Nat)(c:List Value)(a:Nat)(s:Nat):AS:=⟨⟨88,18,nS (sS 126 0 n cap) (nS (iI (↑a:Int)) (lL (Value.func (Fn.func 36) ⟨[pP 127 0]⟩ ⟨[]⟩)) nZ) (lL (pP 128 0)),[Item.code (codeAt bd [])],[],FrameMode.run,CallKind.normal,none⟩,[],H0 f n cap c a s⟩
theorem enter{η:Nat→Value}{B:Bd}(hη:OneCells η)(hmix:prog.follows .mixedOrders=true)(hreg:RegOk η prog B noNest){D:Value→AH→Prop}(f:Nat)(n:Nat)(cap:Nat)(c:List Value)(a:Nat)(s:Nat)(h:let q1:=(Value.int IntKind.i64 (↑(HQ.meV f c (IntKind.i64.wrap ((↑a:Int) - 1)).toNat (↑a:Int).toNat (IntKind.i64.wrap ((↑a:Int)+1)).toNat (↑s:Int).toNat):Int));let q0:AH:=⟨eE (eE (eE (eE (eE (eE (eE (lL (AObj.cells 74 [Value.func (Fn.func f) ⟨[]⟩ ⟨[]⟩,Value.chan none,Value.chan none,Value.chan none] true 0)) nZ) nZ) nZ) nZ) nZ) nZ) (eE (eE (eE (eE (eE (eE (lL (AObj.cells 3 [iI (↑(HQ.meS f c (IntKind.i64.wrap ((↑a:Int) - 1)).toNat (↑a:Int).toNat (IntKind.i64.wrap ((↑a:Int)+1)).toNat (↑s:Int).toNat):Int)] true 2)) nZ) nZ) nZ) nZ) nZ) (eE nZ (eE nZ (eE nZ (eE nZ (lL (AObj.cells 52 c false 2))))))),129⟩;W.holds η prog B 88 (fun kp_ st_=>RunD η prog B 88 (H0 f n cap c a s) kp_ st_ (QF prog 129 D)) D (.call 89 [Value.slice (some ⟨126,0,none⟩) n cap,Value.int IntKind.i64 (IntKind.i64.wrap ((↑a:Int) - 1)),Value.int IntKind.i64 (↑a:Int),Value.int IntKind.i64 (IntKind.i64.wrap ((↑a:Int)+1)),Value.pointer (some ⟨128,0,none⟩),Value.func (Fn.func 36) ⟨[Value.pointer (some ⟨127,0,none⟩)]⟩ ⟨[]⟩] (⟨eE (eE (eE (eE (eE (eE (eE (lL (AObj.cells 74 [Value.func (Fn.func f) ⟨[]⟩ ⟨[]⟩,Value.chan none,Value.chan none,Value.chan none] true 0)) nZ) nZ) nZ) nZ) nZ) nZ) (eE (eE (eE (eE (eE (eE (lL (AObj.cells 3 [iI (↑s:Int)] true 2)) nZ) nZ) nZ) nZ) nZ) (eE nZ (eE nZ (eE nZ (eE nZ (lL (AObj.cells 52 c false 2))))))),129⟩) (.ret q1 (q0)) (.done 88 q1 (q0)))):CallSpec η prog B 88 [Value.slice (some ⟨126,0,none⟩) n cap,Value.int IntKind.i64 (↑a:Int),Value.pointer (some ⟨128,0,none⟩),Value.func (Fn.func 36) ⟨[Value.pointer (some ⟨127,0,none⟩)]⟩ ⟨[]⟩] (H0 f n cap c a s) D:=by
 refine CallSpec.ofQF hη (CallSpec.enter (fr:=(E f n cap c a s).fr) (by kernel_rfl) ?_)
 exact walk_okT (h0:=H0 f n cap c a s) hη hmix hreg (.steps 14 <| .call kN <| .steps 3 <| .done none) (E f n cap c a s) (by kernel_rfl) h (by kernel_rfl)
end KMeda
namespace KChoose
noncomputable def bd:Code:=(Go.Proofs.Try.f77.body).getD .skip
noncomputable def H0(f:Nat)(n:Nat)(cap:Nat)(c:List Value)(a:Nat)(b:Nat):AH:={ objs:=eE (eE (eE (eE (eE (eE (eE (lL (AObj.cells 74 [Value.func (Fn.func f) ⟨[]⟩ ⟨[]⟩,Value.chan none,Value.chan none,Value.chan none] true 0)) nZ) nZ) nZ) nZ) nZ) nZ) (eE nZ (eE nZ (eE nZ (eE nZ (eE nZ (lL (AObj.cells 52 c false 2))))))),next:=128 }
noncomputable def E(f:Nat)(n:Nat)(cap:Nat)(c:List Value)(a:Nat)(b:Nat):AS:=⟨⟨77,63,nS (sS 126 0 n cap) (nS (iI (↑a:Int)) (lL (Value.func (Fn.func 36) ⟨[pP 127 0]⟩ ⟨[]⟩)) nZ) (lL (iI (↑b:Int))),[Item.code (codeAt bd [])],[],FrameMode.run,CallKind.normal,none⟩,[],H0 f n cap c a b⟩
theorem enter{η:Nat→Value}{B:Bd}(hη:OneCells η)(hmix:prog.follows .mixedOrders=true)(hreg:RegOk η prog B noNest){D:Value→AH→Prop}(f:Nat)(n:Nat)(cap:Nat)(c:List Value)(a:Nat)(b:Nat)(h:let q15:T AObj:=(eE nZ (eE nZ (eE nZ (eE nZ (lL (AObj.cells 52 c false 2))))));let q14:=(IntKind.i64.wrap ((↑a:Int)+IntKind.i64.wrap (IntKind.i64.wrap ((IntKind.i64.wrap ((↑b:Int) - (↑a:Int))).tdiv 4) * 3)));let q13:=(IntKind.i64.wrap ((↑a:Int)+IntKind.i64.wrap (IntKind.i64.wrap ((IntKind.i64.wrap ((↑b:Int) - (↑a:Int))).tdiv 4) * 2)));let q12:=(IntKind.i64.wrap ((↑a:Int)+IntKind.i64.wrap (IntKind.i64.wrap ((IntKind.i64.wrap ((↑b:Int) - (↑a:Int))).tdiv 4) * 1)));let q11:=(HQ.maV f c q12.toNat 0);let q10:T AObj:=(eE (eE (eE (eE (eE (eE (lL (AObj.cells 74 [Value.func (Fn.func f) ⟨[]⟩ ⟨[]⟩,Value.chan none,Value.chan none,Value.chan none] true 0)) nZ) nZ) nZ) nZ) nZ) nZ);let q9:=(HQ.maV f c q13.toNat (↑(HQ.maS f c q12.toNat 0):Int).toNat);let q8:=(HQ.meV f c q12.toNat q13.toNat q14.toNat 0);let q7:AH:=⟨eE q10 (eE (eE (eE (eE (eE (eE (lL (AObj.cells 3 [iI 0] true 2)) nZ) nZ) nZ) nZ) nZ) q15),129⟩;let q6:=(HQ.meS f c (IntKind.i64.wrap ((↑a:Int)+IntKind.i64.wrap (IntKind.i64.wrap ((IntKind.i64.wrap ((↑b:Int) - (↑a:Int))).tdiv (4:Int)) * (1:Int)))).toNat (IntKind.i64.wrap ((↑a:Int)+IntKind.i64.wrap (IntKind.i64.wrap ((IntKind.i64.wrap ((↑b:Int) - (↑a:Int))).tdiv (4:Int)) * (2:Int)))).toNat (IntKind.i64.wrap ((↑a:Int)+IntKind.i64.wrap (IntKind.i64.wrap ((IntKind.i64.wrap ((↑b:Int) - (↑a:Int))).tdiv (4:Int)) * (3:Int)))).toNat (0:Nat));let q5:=(HQ.maV f c q14.toNat (↑(HQ.maS f c q13.toNat (↑(HQ.maS f c q12.toNat 0):Int).toNat):Int).toNat);let q4:AH:=⟨eE q10 (eE (eE (eE (eE (eE (eE (lL (AObj.cells 3 [iI (↑(HQ.maS f c q12.toNat 0):Int)] true 2)) nZ) nZ) nZ) nZ) nZ) q15),129⟩;let q3:AH:=⟨eE q10 (eE (eE (eE (eE (eE (eE (lL (AObj.cells 3 [iI (↑(HQ.maS f c q13.toNat (↑(HQ.maS f c q12.toNat 0):Int).toNat):Int)] true 2)) nZ) nZ) nZ) nZ) nZ) q15),129⟩;let q2:AH:=⟨eE q10 (eE (eE (eE (eE (eE (eE (lL (AObj.cells 3 [iI (↑(HQ.maS f c q14.toNat (↑(HQ.maS f c q13.toNat (↑(HQ.maS f c q12.toNat 0):Int).toNat):Int).toNat):Int)] true 2)) nZ) nZ) nZ) nZ) nZ) q15),129⟩;let q1:=(HQ.meV f c (↑q11:Int).toNat (↑q9:Int).toNat (↑q5:Int).toNat (↑(HQ.maS f c q14.toNat (↑(HQ.maS f c q13.toNat (↑(HQ.maS f c q12.toNat 0):Int).toNat):Int).toNat):Int).toNat);let q0:=(HQ.meS f c (↑(HQ.maV f c (IntKind.i64.wrap ((↑a:Int)+IntKind.i64.wrap (IntKind.i64.wrap ((IntKind.i64.wrap ((↑b:Int) - (↑a:Int))).tdiv (4:Int)) * (1:Int)))).toNat (0:Nat)):Int).toNat (↑(HQ.maV f c (IntKind.i64.wrap ((↑a:Int)+IntKind.i64.wrap (IntKind.i64.wrap ((IntKind.i64.wrap ((↑b:Int) - (↑a:Int))).tdiv (4:Int)) * (2:Int)))).toNat (↑(HQ.maS f c (IntKind.i64.wrap ((↑a:Int)+IntKind.i64.wrap (IntKind.i64.wrap ((IntKind.i64.wrap ((↑b:Int) - (↑a:Int))).tdiv (4:Int)) * (1:Int)))).toNat (0:Nat)):Int).toNat):Int).toNat (↑(HQ.maV f c (IntKind.i64.wrap ((↑a:Int)+IntKind.i64.wrap (IntKind.i64.wrap ((IntKind.i64.wrap ((↑b:Int) - (↑a:Int))).tdiv (4:Int)) * (3:Int)))).toNat (↑(HQ.maS f c (IntKind.i64.wrap ((↑a:Int)+IntKind.i64.wrap (IntKind.i64.wrap ((IntKind.i64.wrap ((↑b:Int) - (↑a:Int))).tdiv (4:Int)) * (2:Int)))).toNat (↑(HQ.maS f c (IntKind.i64.wrap ((↑a:Int)+IntKind.i64.wrap (IntKind.i64.wrap ((IntKind.i64.wrap ((↑b:Int) - (↑a:Int))).tdiv (4:Int)) * (1:Int)))).toNat (0:Nat)):Int).toNat):Int).toNat):Int).toNat (↑(HQ.maS f c (IntKind.i64.wrap ((↑a:Int)+IntKind.i64.wrap (IntKind.i64.wrap ((IntKind.i64.wrap ((↑b:Int) - (↑a:Int))).tdiv (4:Int)) * (3:Int)))).toNat (↑(HQ.maS f c (IntKind.i64.wrap ((↑a:Int)+IntKind.i64.wrap (IntKind.i64.wrap ((IntKind.i64.wrap ((↑b:Int) - (↑a:Int))).tdiv (4:Int)) * (2:Int)))).toNat (↑(HQ.maS f c (IntKind.i64.wrap ((↑a:Int)+IntKind.i64.wrap (IntKind.i64.wrap ((IntKind.i64.wrap ((↑b:Int) - (↑a:Int))).tdiv (4:Int)) * (1:Int)))).toNat (0:Nat)):Int).toNat):Int).toNat):Int).toNat);W.holds η prog B 77 (fun kp_ st_=>RunD η prog B 77 (H0 f n cap c a b) kp_ st_ (QF prog 128 D)) D (.ite (decide (IntKind.i64.wrap ((↑b:Int) - (↑a:Int)) ≥ (8:Int))) (.ite (decide (IntKind.i64.wrap ((↑b:Int) - (↑a:Int)) ≥ (50:Int))) (.call 88 [Value.slice (some ⟨126,0,none⟩) n cap,Value.int IntKind.i64 q12,Value.pointer (some ⟨128,0,none⟩),Value.func (Fn.func 36) ⟨[Value.pointer (some ⟨127,0,none⟩)]⟩ ⟨[]⟩] (q7) (.ret (Value.int IntKind.i64 (↑q11:Int)) (q4)) (.call 88 [Value.slice (some ⟨126,0,none⟩) n cap,Value.int IntKind.i64 q13,Value.pointer (some ⟨128,0,none⟩),Value.func (Fn.func 36) ⟨[Value.pointer (some ⟨127,0,none⟩)]⟩ ⟨[]⟩] (q4) (.ret (Value.int IntKind.i64 (↑q9:Int)) (q3)) (.call 88 [Value.slice (some ⟨126,0,none⟩) n cap,Value.int IntKind.i64 q14,Value.pointer (some ⟨128,0,none⟩),Value.func (Fn.func 36) ⟨[Value.pointer (some ⟨127,0,none⟩)]⟩ ⟨[]⟩] (q3) (.ret (Value.int IntKind.i64 (↑q5:Int)) (q2)) (.call 89 [Value.slice (some ⟨126,0,none⟩) n cap,Value.int IntKind.i64 (↑q11:Int),Value.int IntKind.i64 (↑q9:Int),Value.int IntKind.i64 (↑q5:Int),Value.pointer (some ⟨128,0,none⟩),Value.func (Fn.func 36) ⟨[Value.pointer (some ⟨127,0,none⟩)]⟩ ⟨[]⟩] (q2) (.ret (Value.int IntKind.i64 (↑q1:Int)) (⟨eE q10 (eE (eE (eE (eE (eE (eE (lL (AObj.cells 3 [iI (↑(HQ.meS f c (↑q11:Int).toNat (↑q9:Int).toNat (↑q5:Int).toNat (↑(HQ.maS f c q14.toNat (↑(HQ.maS f c q13.toNat (↑(HQ.maS f c q12.toNat 0):Int).toNat):Int).toNat):Int).toNat):Int)] true 2)) nZ) nZ) nZ) nZ) nZ) q15),129⟩)) (.ite ((↑q0:Int) == (0:Int)) (.need (NoNames c∧True∧True) (.done 77 (Value.tuple ⟨[Value.int IntKind.i64 (↑q1:Int),Value.int IntKind.i64 1]⟩) (H0 f n cap c a b))) (.ite ((↑q0:Int) == (12:Int)) (.need (NoNames c∧True∧True) (.done 77 (Value.tuple ⟨[Value.int IntKind.i64 (↑q1:Int),Value.int IntKind.i64 2]⟩) (H0 f n cap c a b))) (.need (NoNames c∧True∧True) (.done 77 (Value.tuple ⟨[Value.int IntKind.i64 (↑q1:Int),Value.int IntKind.i64 0]⟩) (H0 f n cap c a b))))))))) (.call 89 [Value.slice (some ⟨126,0,none⟩) n cap,Value.int IntKind.i64 q12,Value.int IntKind.i64 q13,Value.int IntKind.i64 q14,Value.pointer (some ⟨128,0,none⟩),Value.func (Fn.func 36) ⟨[Value.pointer (some ⟨127,0,none⟩)]⟩ ⟨[]⟩] (q7) (.ret (Value.int IntKind.i64 (↑q8:Int)) (⟨eE q10 (eE (eE (eE (eE (eE (eE (lL (AObj.cells 3 [iI (↑(HQ.meS f c q12.toNat q13.toNat q14.toNat 0):Int)] true 2)) nZ) nZ) nZ) nZ) nZ) q15),129⟩)) (.ite ((↑q6:Int) == (0:Int)) (.need (NoNames c∧True∧True) (.done 77 (Value.tuple ⟨[Value.int IntKind.i64 (↑q8:Int),Value.int IntKind.i64 1]⟩) (H0 f n cap c a b))) (.ite ((↑q6:Int) == (12:Int)) (.need (NoNames c∧True∧True) (.done 77 (Value.tuple ⟨[Value.int IntKind.i64 (↑q8:Int),Value.int IntKind.i64 2]⟩) (H0 f n cap c a b))) (.need (NoNames c∧True∧True) (.done 77 (Value.tuple ⟨[Value.int IntKind.i64 (↑q8:Int),Value.int IntKind.i64 0]⟩) (H0 f n cap c a b))))))) (.need (NoNames c∧True∧True) (.done 77 (Value.tuple ⟨[Value.int IntKind.i64 q13,Value.int IntKind.i64 1]⟩) (H0 f n cap c a b))))):CallSpec η prog B 77 [Value.slice (some ⟨126,0,none⟩) n cap,Value.int IntKind.i64 (↑a:Int),Value.int IntKind.i64 (↑b:Int),Value.func (Fn.func 36) ⟨[Value.pointer (some ⟨127,0,none⟩)]⟩ ⟨[]⟩] (H0 f n cap c a b) D:=by
 refine CallSpec.ofQF hη (CallSpec.enter (fr:=(E f n cap c a b).fr) (by kernel_rfl) ?_)
 exact walk_okT (h0:=H0 f n cap c a b) hη hmix hreg (.steps 49 <| .bit 34 (.steps 7 <| .bit 36 (.steps 6 <| .call kN <| .steps 7 <| .call kN <| .steps 6 <| .call kN <| .steps 8 <| .call kN <| .steps 12 <| .bit 57 (.steps 8 <| .done (some ⟨128,[],[(126,(126,true)),(127,(127,false))]⟩)) (.steps 6 <| .bit 60 (.steps 8 <| .done (some ⟨128,[],[(126,(126,true)),(127,(127,false))]⟩)) (.steps 8 <| .done (some ⟨128,[],[(126,(126,true)),(127,(127,false))]⟩)))) (.steps 8 <| .call kN <| .steps 12 <| .bit 57 (.steps 8 <| .done (some ⟨128,[],[(126,(126,true)),(127,(127,false))]⟩)) (.steps 6 <| .bit 60 (.steps 8 <| .done (some ⟨128,[],[(126,(126,true)),(127,(127,false))]⟩)) (.steps 8 <| .done (some ⟨128,[],[(126,(126,true)),(127,(127,false))]⟩))))) (.steps 20 <| .done (some ⟨128,[],[(126,(126,true)),(127,(127,false))]⟩))) (E f n cap c a b) (by kernel_rfl) h (by kernel_rfl)
end KChoose
end Go.Ev

/- Sorting items: the choice of a pivot. -/
namespace Go.Ev
open Go Go.Proofs Go.RowKit
variable {η:Nat→Value} {B:Bd}
namespace HQ
theorem o2A_eq(f:Nat)(d:A2)(a b s:Nat):o2A f (aC d) a b s=(Sort.order2 (ltA f) d a b s).1:=by unfold o2A;rw [aC_arr]
theorem o2B_eq(f:Nat)(d:A2)(a b s:Nat):o2B f (aC d) a b s=(Sort.order2 (ltA f) d a b s).2.1:=by unfold o2B;rw [aC_arr]
theorem o2S_eq(f:Nat)(d:A2)(a b s:Nat):o2S f (aC d) a b s=(Sort.order2 (ltA f) d a b s).2.2:=by unfold o2S;rw [aC_arr]
abbrev ssArgs(n cap:Nat)(l:List Value):List Value:=sArgs n cap (l ++ [.pointer (some ⟨128,0,none⟩)])
theorem ord2_ok(hη:OneCells η)(hmix:Try.prog.follows .mixedOrders=true){f n cap:Nat}{d:A2}{a b s:Nat}(hf:isOrd f)(ha:a<n)(hb:b<n)(hn:n≤d.size)(hm:d.size≤1000000)(hs:s≤1000000) :
  CallSpec η Try.prog B 91 (ssArgs n cap [.int .i64 (a:Int),.int .i64 (b:Int)]) (heapSS f (aC d) s) (KT.ret (tupL [iv (o2A f (aC d) a b s),iv (o2B f (aC d) a b s)]) (heapSS f (aC d) (o2S f (aC d) a b s))).sat:=by
 rw [o2A_eq,o2B_eq,o2S_eq]
 have h1:a<d.size:=by omega
 have h0:b<d.size:=by omega
 obtain⟨a1,a2⟩:=aC_int h1
 obtain⟨b1,b2⟩:=aC_int h0
 have hT:ltA f d[b]! d[a]! = true→Sort.order2 (ltA f) d a b s=(b,a,s+1):=fun e=>if_pos e
 have hF:ltA f d[b]! d[a]! = false→Sort.order2 (ltA f) d a b s=(a,b,s):=fun e=>if_neg (by rw [e];simp)
 refine KOrd2.enter hη hmix (reg0 hη hmix) _ _ _ _ _ _ _ ?_
 simp only [W.holds,decide_eq_true_eq,decide_eq_false_iff_not,Int.toNat_natCast,Nat.zero_add,Nat.add_zero,a1,a2,b1,b2,aC_cut h1,aC_cut h0,aC_len,aC_nn,wp s (by omega),true_and,and_true,true_implies]
 repeat' first
  | exact cmp_at hη hmix hf (l:=aC d) (by kernel_rfl) _ _ _ _
  | (rw [hT (decide_eq_true (by assumption))];exact⟨rfl,by kernel_rfl⟩)
  | (rw [hF (decide_eq_false (by assumption))];exact⟨rfl,by kernel_rfl⟩)
  | refine⟨by omega,fun _=>?_⟩
  | refine⟨?_,fun _=>?_,fun _=>?_⟩
theorem ord2_at(hη:OneCells η)(hmix:Try.prog.follows .mixedOrders=true){f n cap:Nat}{d:A2}{a b s:Nat}{H H':AH}{x y:Nat}(e:H=heapSS f (aC d) s)(ex:x=o2A f (aC d) a b s)(ey:y=o2B f (aC d) a b s)(e':H'=heapSS f (aC d) (o2S f (aC d) a b s))(hf:isOrd f)(ha:a<n)(hb:b<n)(hn:n≤d.size)(hm:d.size≤1000000)(hs:s≤1000000) :
  CallSpec η Try.prog B 91 (ssArgs n cap [.int .i64 (a:Int),.int .i64 (b:Int)]) H (KT.ret (tupL [.int .i64 (x:Int),.int .i64 (y:Int)]) H').sat:=by
 subst e;subst ex;subst ey;subst e'
 exact ord2_ok hη hmix hf ha hb hn hm hs
theorem o2_lt{f:Nat}{d:A2}{a b s n:Nat}(ha:a<n)(hb:b<n):o2A f (aC d) a b s<n∧o2B f (aC d) a b s<n∧o2S f (aC d) a b s≤s+1:=by
 rw [o2A_eq,o2B_eq,o2S_eq]
 unfold Sort.order2
 split <;> exact⟨by assumption,by assumption,by simp⟩
theorem meV_eq(f:Nat)(d:A2)(a b e s:Nat):meV f (aC d) a b e s=(Sort.median (ltA f) d a b e s).1:=by unfold meV;rw [aC_arr]
theorem meS_eq(f:Nat)(d:A2)(a b e s:Nat):meS f (aC d) a b e s=(Sort.median (ltA f) d a b e s).2:=by unfold meS;rw [aC_arr]
theorem meV_o2(f:Nat)(d:A2)(a b e s:Nat):meV f (aC d) a b e s=o2B f (aC d) (o2A f (aC d) a b s) (o2A f (aC d) (o2B f (aC d) a b s) e (o2S f (aC d) a b s)) (o2S f (aC d) (o2B f (aC d) a b s) e (o2S f (aC d) a b s)):=by
 simp only [o2A_eq,o2B_eq,o2S_eq,meV_eq];rfl
theorem meS_o2(f:Nat)(d:A2)(a b e s:Nat):meS f (aC d) a b e s=o2S f (aC d) (o2A f (aC d) a b s) (o2A f (aC d) (o2B f (aC d) a b s) e (o2S f (aC d) a b s)) (o2S f (aC d) (o2B f (aC d) a b s) e (o2S f (aC d) a b s)):=by
 simp only [o2A_eq,o2B_eq,o2S_eq,meS_eq];rfl
theorem me_lt{f:Nat}{d:A2}{a b e s n:Nat}(ha:a<n)(hb:b<n)(he:e<n):meV f (aC d) a b e s<n∧meS f (aC d) a b e s≤s+3:=by
 rw [meV_o2,meS_o2]
 have r1:=o2_lt (f:=f) (d:=d) (s:=s) ha hb
 have r2:=o2_lt (f:=f) (d:=d) (s:=o2S f (aC d) a b s) r1.2.1 he
 have r3:=o2_lt (f:=f) (d:=d) (s:=o2S f (aC d) (o2B f (aC d) a b s) e (o2S f (aC d) a b s)) r1.1 r2.1
 exact⟨r3.2.1,by omega⟩
theorem med_ok(hη:OneCells η)(hmix:Try.prog.follows .mixedOrders=true){f n cap:Nat}{d:A2}{a b e s:Nat}(hf:isOrd f)(ha:a<n)(hb:b<n)(he:e<n)(hn:n≤d.size)(hm:d.size≤1000000)(hs:s≤1000) :
  CallSpec η Try.prog B 89 (ssArgs n cap [.int .i64 (a:Int),.int .i64 (b:Int),.int .i64 (e:Int)]) (heapSS f (aC d) s) (KT.ret (iv (meV f (aC d) a b e s)) (heapSS f (aC d) (meS f (aC d) a b e s))).sat:=by
 have r1:=o2_lt (f:=f) (d:=d) (s:=s) ha hb
 have r2:=o2_lt (f:=f) (d:=d) (s:=o2S f (aC d) a b s) r1.2.1 he
 rw [meV_o2,meS_o2]
 refine KMed.enter hη hmix (reg0 hη hmix) _ _ _ _ _ _ _ _ ?_
 simp only [W.holds,Int.toNat_natCast,true_and,and_true,true_implies]
 refine⟨ord2_at hη hmix (by kernel_rfl) rfl rfl (by kernel_rfl) hf ha hb hn hm (by omega),ord2_at hη hmix (by kernel_rfl) rfl rfl (by kernel_rfl) hf r1.2.1 he hn hm (by omega),ord2_at hη hmix (by kernel_rfl) rfl rfl (by kernel_rfl) hf r1.1 r2.1 hn hm (by omega),?_⟩
 exact⟨rfl,by kernel_rfl⟩
theorem med_at(hη:OneCells η)(hmix:Try.prog.follows .mixedOrders=true){f n cap:Nat}{d:A2}{a b e s:Nat}{H H':AH}{x:Nat}(eH:H=heapSS f (aC d) s)(ex:x=meV f (aC d) a b e s)(e':H'=heapSS f (aC d) (meS f (aC d) a b e s))(hf:isOrd f)(ha:a<n)(hb:b<n)(he:e<n)(hn:n≤d.size)(hm:d.size≤1000000)(hs:s≤1000) :
  CallSpec η Try.prog B 89 (ssArgs n cap [.int .i64 (a:Int),.int .i64 (b:Int),.int .i64 (e:Int)]) H (KT.ret (.int .i64 (x:Int)) H').sat:=by
 subst eH;subst ex;subst e'
 exact med_ok hη hmix hf ha hb he hn hm hs
theorem maV_me(f:Nat)(d:A2)(a s:Nat):maV f (aC d) a s=meV f (aC d) (a - 1) a (a+1) s:=by unfold maV;rw [aC_arr,meV_eq];rfl
theorem maS_me(f:Nat)(d:A2)(a s:Nat):maS f (aC d) a s=meS f (aC d) (a - 1) a (a+1) s:=by unfold maS;rw [aC_arr,meS_eq];rfl
theorem ma_lt{f:Nat}{d:A2}{a s n:Nat}(h:a+1<n):maV f (aC d) a s<n∧maS f (aC d) a s≤s+3:=by
 rw [maV_me,maS_me];exact me_lt (by omega) (by omega) h
theorem meda_at(hη:OneCells η)(hmix:Try.prog.follows .mixedOrders=true){f n cap:Nat}{d:A2}{a s:Nat}{H H':AH}{x:Nat}(eH:H=heapSS f (aC d) s)(ex:x=maV f (aC d) a s)(e':H'=heapSS f (aC d) (maS f (aC d) a s))(hf:isOrd f)(h0:0<a)(ha:a+1<n)(hn:n≤d.size)(hm:d.size≤1000000)(hs:s≤1000) :
  CallSpec η Try.prog B 88 (ssArgs n cap [.int .i64 (a:Int)]) H (KT.ret (.int .i64 (x:Int)) H').sat:=by
 subst eH;subst ex;subst e'
 rw [maV_me,maS_me]
 refine KMeda.enter hη hmix (reg0 hη hmix) _ _ _ _ _ _ ?_
 simp only [W.holds,wm a (by omega) h0,wp a (by omega),Int.toNat_natCast,true_and,and_true,true_implies]
 exact⟨med_at hη hmix (by kernel_rfl) rfl (by kernel_rfl) hf (by omega) (by omega) (by omega) hn hm hs,rfl,by kernel_rfl⟩
theorem chP_eq(f:Nat)(d:A2)(a b:Nat):chP f (aC d) a b=(Sort.choosePivot (ltA f) d a b).1:=by unfold chP;rw [aC_arr]
theorem chH_eq(f:Nat)(d:A2)(a b:Nat):chH f (aC d) a b=Sort.hintCode (Sort.choosePivot (ltA f) d a b).2:=by unfold chH;rw [aC_arr]
def hintN(s:Nat):Int:=if s=0 then 1 else if s=12 then 2 else 0
theorem hintN_eq(s:Nat):Sort.hintCode (if s=0 then Sort.Hint.increasing else if s=12 then .decreasing else .unknown)=hintN s:=by
 unfold hintN
 split
 ·rfl
 ·split <;> rfl
theorem ch_lo{f:Nat}{d:A2}{a b:Nat}(h:b - a<8):chP f (aC d) a b=a+(b - a) / 4 * 2∧chH f (aC d) a b=1:=by
 rw [chP_eq,chH_eq]
 unfold Sort.choosePivot
 simp only [if_neg (show ¬ b - a ≥ 8 by omega)]
 exact⟨trivial,rfl⟩
theorem ch_mid{f:Nat}{d:A2}{a b:Nat}(h:8≤b - a)(h2:b - a<50):chP f (aC d) a b=meV f (aC d) (a+(b - a) / 4 * 1) (a+(b - a) / 4 * 2) (a+(b - a) / 4 * 3) 0∧chH f (aC d) a b=hintN (meS f (aC d) (a+(b - a) / 4 * 1) (a+(b - a) / 4 * 2) (a+(b - a) / 4 * 3) 0):=by
 rw [chP_eq,chH_eq,meV_eq,meS_eq,← hintN_eq]
 unfold Sort.choosePivot
 simp only [if_pos (show b - a ≥ 8 by omega),if_neg (show ¬ b - a ≥ 50 by omega)]
 exact⟨trivial,trivial⟩
theorem ch_hi{f:Nat}{d:A2}{a b:Nat}(h2:50≤b - a) :
  let c:=aC d
  let i:=a+(b - a) / 4 * 1
  let j:=a+(b - a) / 4 * 2
  let k:=a+(b - a) / 4 * 3
  chP f c a b=meV f c (maV f c i 0) (maV f c j (maS f c i 0)) (maV f c k (maS f c j (maS f c i 0))) (maS f c k (maS f c j (maS f c i 0)))∧chH f c a b=hintN (meS f c (maV f c i 0) (maV f c j (maS f c i 0)) (maV f c k (maS f c j (maS f c i 0))) (maS f c k (maS f c j (maS f c i 0)))):=by
 have e1:∀ x s,maV f (aC d) x s=(Sort.medianAdjacent (ltA f) d x s).1:=fun x s=>by unfold maV;rw [aC_arr]
 have e2:∀ x s,maS f (aC d) x s=(Sort.medianAdjacent (ltA f) d x s).2:=fun x s=>by unfold maS;rw [aC_arr]
 simp only [chP_eq,chH_eq,meV_eq,meS_eq,e1,e2,← hintN_eq]
 unfold Sort.choosePivot
 simp only [if_pos (show b - a ≥ 8 by omega),if_pos (show b - a ≥ 50 by omega)]
 exact⟨trivial,trivial⟩
set_option maxHeartbeats 2000000 in
theorem choose_ok(hη:OneCells η)(hmix:Try.prog.follows .mixedOrders=true){f n cap:Nat}{d:A2}{a b:Nat}(hf:isOrd f)(hab:a≤b)(hb:b≤n)(hn:n≤d.size)(hm:d.size≤1000000) :
  CallSpec η Try.prog B 77 (sArgs n cap [.int .i64 (a:Int),.int .i64 (b:Int)]) (heapS f (aC d)) (KT.ret (tupL [iv (chP f (aC d) a b),.int .i64 (chH f (aC d) a b)]) (heapS f (aC d))).sat:=by
 have w1:IntKind.i64.wrap ((b:Int) - (a:Int))=((b - a:Nat):Int):=wn _ (by omega) (by omega)
 have w2:(((b - a:Nat):Int)).tdiv 4=(((b - a) / 4:Nat):Int):=by rw [Int.tdiv_eq_ediv_of_nonneg (by omega)];omega
 have w3:IntKind.i64.wrap (((b - a) / 4:Nat):Int)=(((b - a) / 4:Nat):Int):=ww _ (by omega)
 have v1:IntKind.i64.wrap ((((b - a) / 4:Nat):Int) * 1)=(((b - a) / 4 * 1:Nat):Int):=wn _ (by omega) (by omega)
 have v2:IntKind.i64.wrap ((((b - a) / 4:Nat):Int) * 2)=(((b - a) / 4 * 2:Nat):Int):=wn _ (by omega) (by omega)
 have v3:IntKind.i64.wrap ((((b - a) / 4:Nat):Int) * 3)=(((b - a) / 4 * 3:Nat):Int):=wn _ (by omega) (by omega)
 have u1:IntKind.i64.wrap ((a:Int)+(((b - a) / 4 * 1:Nat):Int))=((a+(b - a) / 4 * 1:Nat):Int):=wn _ (by omega) (by omega)
 have u2:IntKind.i64.wrap ((a:Int)+(((b - a) / 4 * 2:Nat):Int))=((a+(b - a) / 4 * 2:Nat):Int):=wn _ (by omega) (by omega)
 have u3:IntKind.i64.wrap ((a:Int)+(((b - a) / 4 * 3:Nat):Int))=((a+(b - a) / 4 * 3:Nat):Int):=wn _ (by omega) (by omega)
 refine KChoose.enter hη hmix (reg0 hη hmix) _ _ _ _ _ _ ?_
 simp only [W.holds,w1,w2,w3,v1,v2,v3,u1,u2,u3,aC_nn,Int.toNat_natCast,true_and,and_true,true_implies]
 have fin:∀ W:Nat,chH f (aC d) a b=hintN W→(((W:Int) == 0)=true→chH f (aC d) a b=1)∧(((W:Int) == 0)=false→(((W:Int) == 12)=true→chH f (aC d) a b=2)∧(((W:Int) == 12)=false→chH f (aC d) a b=0)):=fun W e=>by
  simp only [beq_iff_eq,beq_eq_false_iff_ne]
  rw [e]
  unfold hintN
  refine⟨fun h=>if_pos (by omega),fun h=>⟨fun h2=>?_,fun h2=>?_⟩⟩
  ·rw [if_neg (by omega),if_pos (by omega)]
  ·rw [if_neg (by omega),if_neg (by omega)]
 refine⟨fun q8=>⟨fun q50=>?_,fun q50=>?_⟩,fun q8=>?_⟩
 ·have q50:=of_decide_eq_true q50
  have ⟨e1,e2⟩:=ch_hi (f:=f) (d:=d) (a:=a) (b:=b) (by omega)
  have r1:=ma_lt (f:=f) (d:=d) (a:=a+(b - a) / 4 * 1) (s:=0) (n:=n) (by omega)
  have r2:=ma_lt (f:=f) (d:=d) (a:=a+(b - a) / 4 * 2) (s:=maS f (aC d) (a+(b - a) / 4 * 1) 0) (n:=n) (by omega)
  have r3:=ma_lt (f:=f) (d:=d) (a:=a+(b - a) / 4 * 3) (s:=maS f (aC d) (a+(b - a) / 4 * 2) (maS f (aC d) (a+(b - a) / 4 * 1) 0)) (n:=n) (by omega)
  refine⟨meda_at hη hmix (by kernel_rfl) rfl (by kernel_rfl) hf (by omega) (by omega) hn hm (by omega),meda_at hη hmix (by kernel_rfl) rfl (by kernel_rfl) hf (by omega) (by omega) hn hm (by omega),meda_at hη hmix (by kernel_rfl) rfl (by kernel_rfl) hf (by omega) (by omega) hn hm (by omega),med_at hη hmix (by kernel_rfl) rfl (by kernel_rfl) hf r1.1 r2.1 r3.1 hn hm (by omega),?_⟩
  have F:=fin _ e2
  refine⟨fun h=>?_,fun h=>⟨fun h2=>?_,fun h2=>?_⟩⟩
  ·rw [e1,F.1 h];exact⟨rfl,by kernel_rfl⟩
  ·rw [e1,(F.2 h).1 h2];exact⟨rfl,by kernel_rfl⟩
  ·rw [e1,(F.2 h).2 h2];exact⟨rfl,by kernel_rfl⟩
 ·have q50:=of_decide_eq_false q50
  have q8:=of_decide_eq_true q8
  have ⟨e1,e2⟩:=ch_mid (f:=f) (d:=d) (a:=a) (b:=b) (by omega) (by omega)
  refine⟨med_at hη hmix (by kernel_rfl) rfl (by kernel_rfl) hf (by omega) (by omega) (by omega) hn hm (by omega),?_⟩
  have F:=fin _ e2
  refine⟨fun h=>?_,fun h=>⟨fun h2=>?_,fun h2=>?_⟩⟩
  ·rw [e1,F.1 h];exact⟨rfl,by kernel_rfl⟩
  ·rw [e1,(F.2 h).1 h2];exact⟨rfl,by kernel_rfl⟩
  ·rw [e1,(F.2 h).2 h2];exact⟨rfl,by kernel_rfl⟩
 ·have q8:=of_decide_eq_false q8
  have ⟨e1,e2⟩:=ch_lo (f:=f) (d:=d) (a:=a) (b:=b) (by omega)
  rw [e1,e2]
  exact⟨rfl,by kernel_rfl⟩
end HQ
end Go.Ev

namespace Go.Ev
open Go Go.Proofs
open Go.Ev.T renaming node → nN, nil → nZ
open Go.Proofs.Try (prog)
set_option maxRecDepth 100000
set_option maxHeartbeats 2000000
namespace KHsort
noncomputable def bd:Code:=(Go.Proofs.Try.f75.body).getD .skip
noncomputable def H0(f:Nat)(n:Nat)(cap:Nat)(c:List Value)(a:Nat)(b:Nat):AH:={ objs:=eE (eE (eE (eE (eE (eE (eE (lL (AObj.cells 74 [Value.func (Fn.func f) ⟨[]⟩ ⟨[]⟩,Value.chan none,Value.chan none,Value.chan none] true 0)) nZ) nZ) nZ) nZ) nZ) nZ) (eE nZ (eE nZ (eE nZ (eE nZ (eE nZ (lL (AObj.cells 52 c false 2))))))),next:=128 }
noncomputable def E(f:Nat)(n:Nat)(cap:Nat)(c:List Value)(a:Nat)(b:Nat):AS:=⟨⟨75,60,nS (sS 126 0 n cap) (nS (iI (↑a:Int)) (lL (Value.func (Fn.func 36) ⟨[pP 127 0]⟩ ⟨[]⟩)) nZ) (lL (iI (↑b:Int))),[Item.code (codeAt bd [])],[],FrameMode.run,CallKind.normal,none⟩,[],H0 f n cap c a b⟩
noncomputable def S0(f:Nat)(n:Nat)(cap:Nat)(c:List Value)(a:Nat)(b:Nat)(i0:Int)(l0:List Value)(d:Nat→Value):AS:=⟨⟨75,60,nS (sS 126 0 n cap) (nS (d 1) (nS (Value.func (Fn.func 36) ⟨[pP 127 0]⟩ ⟨[]⟩) (nS (d 7) (nS (d 15) (lL (d 31)) (lL (d 47))) (nS (d 23) (lL (d 39)) (lL (d 55)))) (nS (iI i0) (nS (d 19) (lL (d 35)) (lL (d 51))) (nS (d 27) (lL (d 43)) (lL (d 59))))) (nS (d 5) (nS (iI 0) (nS (d 17) (lL (d 33)) (lL (d 49))) (nS (d 25) (lL (d 41)) (lL (d 57)))) (nS (d 13) (nS (d 21) (lL (d 37)) (lL (d 53))) (nS (d 29) (lL (d 45)) nZ)))) (nS (d 2) (nS (d 4) (nS (iI (↑a:Int)) (nS (d 16) (lL (d 32)) (lL (d 48))) (nS (d 24) (lL (d 40)) (lL (d 56)))) (nS (d 12) (nS (d 20) (lL (d 36)) (lL (d 52))) (nS (d 28) (lL (d 44)) nZ))) (nS (d 6) (nS (iI (IntKind.i64.wrap ((↑b:Int) - (↑a:Int)))) (nS (d 18) (lL (d 34)) (lL (d 50))) (nS (d 26) (lL (d 42)) (lL (d 58)))) (nS (d 14) (nS (d 22) (lL (d 38)) (lL (d 54))) (nS (d 30) (lL (d 46)) nZ)))),[Item.code (codeAt bd [1,1,1,0,1,0,0]),Item.inLoop (codeAt bd [1,1,1,0,1,0,0]),Item.inBlock 0,Item.code (codeAt bd [1,1,1,1])],[],FrameMode.run,CallKind.normal,none⟩,[],⟨eE (eE (eE (eE (eE (eE (eE (lL (AObj.cells 74 [Value.func (Fn.func f) ⟨[]⟩ ⟨[]⟩,Value.chan none,Value.chan none,Value.chan none] true 0)) nZ) nZ) nZ) nZ) nZ) nZ) (eE nZ (eE nZ (eE nZ (eE nZ (eE nZ (lL (AObj.cells 52 l0 false 2))))))),128⟩⟩
noncomputable def S1(f:Nat)(n:Nat)(cap:Nat)(c:List Value)(a:Nat)(b:Nat)(i0:Int)(l0:List Value)(d:Nat→Value):AS:=⟨⟨75,60,nS (sS 126 0 n cap) (nS (d 1) (nS (Value.func (Fn.func 36) ⟨[pP 127 0]⟩ ⟨[]⟩) (nS (d 7) (nS (d 15) (lL (d 31)) (lL (d 47))) (nS (d 23) (lL (d 39)) (lL (d 55)))) (nS (d 11) (nS (d 19) (lL (d 35)) (lL (d 51))) (nS (d 27) (lL (d 43)) (lL (d 59))))) (nS (d 5) (nS (iI 0) (nS (d 17) (lL (d 33)) (lL (d 49))) (nS (d 25) (lL (d 41)) (lL (d 57)))) (nS (d 13) (nS (d 21) (lL (d 37)) (lL (d 53))) (nS (d 29) (lL (d 45)) nZ)))) (nS (d 2) (nS (d 4) (nS (iI (↑a:Int)) (nS (d 16) (lL (d 32)) (lL (d 48))) (nS (d 24) (lL (d 40)) (lL (d 56)))) (nS (iI i0) (nS (d 20) (lL (d 36)) (lL (d 52))) (nS (d 28) (lL (d 44)) nZ))) (nS (d 6) (nS (d 10) (nS (d 18) (lL (d 34)) (lL (d 50))) (nS (d 26) (lL (d 42)) (lL (d 58)))) (nS (d 14) (nS (d 22) (lL (d 38)) (lL (d 54))) (nS (d 30) (lL (d 46)) nZ)))),[Item.code (codeAt bd [1,1,1,1,1,0,0]),Item.inLoop (codeAt bd [1,1,1,1,1,0,0]),Item.inBlock 2],[],FrameMode.run,CallKind.normal,none⟩,[],⟨eE (eE (eE (eE (eE (eE (eE (lL (AObj.cells 74 [Value.func (Fn.func f) ⟨[]⟩ ⟨[]⟩,Value.chan none,Value.chan none,Value.chan none] true 0)) nZ) nZ) nZ) nZ) nZ) nZ) (eE nZ (eE nZ (eE nZ (eE nZ (eE nZ (lL (AObj.cells 52 l0 false 2))))))),128⟩⟩
theorem enter{η:Nat→Value}{B:Bd}(hη:OneCells η)(hmix:prog.follows .mixedOrders=true)(hreg:RegOk η prog B noNest){D:Value→AH→Prop}(f:Nat)(n:Nat)(cap:Nat)(c:List Value)(a:Nat)(b:Nat)(h:W.holds η prog B 75 (fun kp_ st_=>RunD η prog B 75 (H0 f n cap c a b) kp_ st_ (QF prog 128 D)) D (.stop [0,3,8,9,10,11] (S0 f n cap c a b (IntKind.i64.wrap ((IntKind.i64.wrap (IntKind.i64.wrap ((↑b:Int) - (↑a:Int)) - 1)).tdiv 2)) (c) (fun _=>undef)))):CallSpec η prog B 75 [Value.slice (some ⟨126,0,none⟩) n cap,Value.int IntKind.i64 (↑a:Int),Value.int IntKind.i64 (↑b:Int),Value.func (Fn.func 36) ⟨[Value.pointer (some ⟨127,0,none⟩)]⟩ ⟨[]⟩] (H0 f n cap c a b) D:=by
 refine CallSpec.ofQF hη (CallSpec.enter (fr:=(E f n cap c a b).fr) (by kernel_rfl) ?_)
 exact walk_okT (h0:=H0 f n cap c a b) hη hmix hreg (.steps 26 <| .stop [0,3,8,9,10,11] none) (E f n cap c a b) (by kernel_rfl) h (by kernel_rfl)
theorem cut0{η:Nat→Value}{B:Bd}(hη:OneCells η)(hmix:prog.follows .mixedOrders=true)(hreg:RegOk η prog B noNest){D:Value→AH→Prop}(f:Nat)(n:Nat)(cap:Nat)(c:List Value)(a:Nat)(b:Nat)(i0:Int)(l0:List Value)(h:let q1:=(HQ.sfC f l0 (IntKind.i64.wrap ((↑b:Int) - (↑a:Int))).toNat (↑a:Int).toNat i0.toNat);let q0:T AObj:=(eE (eE (eE (eE (eE (eE (lL (AObj.cells 74 [Value.func (Fn.func f) ⟨[]⟩ ⟨[]⟩,Value.chan none,Value.chan none,Value.chan none] true 0)) nZ) nZ) nZ) nZ) nZ) nZ);W.holds η prog B 75 (fun kp_ st_=>RunD η prog B 75 (H0 f n cap c a b) kp_ st_ (QF prog 128 D)) D (.ite (decide (i0 ≥ (0:Int))) (.call 85 [Value.slice (some ⟨126,0,none⟩) n cap,Value.int IntKind.i64 i0,Value.int IntKind.i64 (IntKind.i64.wrap ((↑b:Int) - (↑a:Int))),Value.int IntKind.i64 (↑a:Int),Value.func (Fn.func 36) ⟨[Value.pointer (some ⟨127,0,none⟩)]⟩ ⟨[]⟩] (⟨eE q0 (eE nZ (eE nZ (eE nZ (eE nZ (eE nZ (lL (AObj.cells 52 l0 false 2))))))),128⟩) (.ret (undef) (⟨eE q0 (eE nZ (eE nZ (eE nZ (eE nZ (eE nZ (lL (AObj.cells 52 q1 false 2))))))),128⟩)) (.stop [0,3,8,9,10,11] (S0 f n cap c a b (IntKind.i64.wrap (i0 - 1)) q1 (fun _=>undef)))) (.stop [0,3,8,9,12] (S1 f n cap c a b (IntKind.i64.wrap (IntKind.i64.wrap ((↑b:Int) - (↑a:Int)) - 1)) (l0) (fun _=>undef))))):RunD η prog B 75 (H0 f n cap c a b) [0,3,8,9,10,11] (S0 f n cap c a b i0 l0 fun _=>undef) (QF prog 128 D):=by
 refine RunD.intro (S0 f n cap c a b i0 l0) (fun d=>⟨rfl,rfl,rfl⟩) (fun d=>tmOk_get (by kernel_rfl)) (fun d=>by kernel_rfl) (fun d=>?_)
 exact walk_okT (h0:=H0 f n cap c a b) hη hmix hreg (.steps 6 <| .bit 21 (.steps 10 <| .call kN <| .steps 8 <| .stop [0,3,8,9,10,11] none) (.steps 10 <| .stop [0,3,8,9,12] none)) (S0 f n cap c a b i0 l0 d) (by kernel_rfl) h (by kernel_rfl)
theorem cut1{η:Nat→Value}{B:Bd}(hη:OneCells η)(hmix:prog.follows .mixedOrders=true)(hreg:RegOk η prog B noNest){D:Value→AH→Prop}(f:Nat)(n:Nat)(cap:Nat)(c:List Value)(a:Nat)(b:Nat)(i0:Int)(l0:List Value)(h:let q7:=(IntKind.i64.wrap ((↑a:Int)+i0));let q6:=(0+q7.toNat * 2);let q5:=(intAt l0 ((0:Nat)+(↑a:Int).toNat * (2:Nat)));let q4:=(intAt l0 ((0:Nat)+(↑a:Int).toNat * (2:Nat)+(1:Nat)));let q3:=((0:Nat)+q7.toNat * (2:Nat));let q2:T AObj:=(eE (eE (eE (eE (eE (eE (lL (AObj.cells 74 [Value.func (Fn.func f) ⟨[]⟩ ⟨[]⟩,Value.chan none,Value.chan none,Value.chan none] true 0)) nZ) nZ) nZ) nZ) nZ) nZ);let q1:=(splice l0 ((0:Nat)+(↑a:Int).toNat * (2:Nat)) [Value.int IntKind.i64 (intAt l0 q3),Value.int IntKind.i64 (intAt l0 ((0:Nat)+q7.toNat * (2:Nat)+(1:Nat)))]);let q0:=(HQ.sfC f (splice (splice l0 (0+(↑a:Int).toNat * 2) [Value.int IntKind.i64 (intAt l0 q6),Value.int IntKind.i64 (intAt l0 (0+q7.toNat * 2+1))]) q6 [Value.int IntKind.i64 (intAt l0 (0+(↑a:Int).toNat * 2)),Value.int IntKind.i64 (intAt l0 (0+(↑a:Int).toNat * 2+1))]) i0.toNat (↑a:Int).toNat 0);W.holds η prog B 75 (fun kp_ st_=>RunD η prog B 75 (H0 f n cap c a b) kp_ st_ (QF prog 128 D)) D (.ite (decide (i0 ≥ (0:Int))) (.need ((0:Int)≤IntKind.i64.wrap ((↑a:Int)+i0)∧IntKind.i64.wrap ((↑a:Int)+i0)<(↑n:Int)) (.need ((0:Nat)+q7.toNat * (2:Nat)+(2:Nat)≤l0.length∧List.take (2:Nat) (List.drop q3 l0)=[Value.int IntKind.i64 (intAt l0 q3),Value.int IntKind.i64 (intAt l0 ((0:Nat)+q7.toNat * (2:Nat)+(1:Nat)))]) (.need ((0:Int)≤(↑a:Int)∧(↑a:Int)<(↑n:Int)) (.need ((0:Nat)+(↑a:Int).toNat * (2:Nat)+(2:Nat)≤l0.length∧List.take (2:Nat) (List.drop ((0:Nat)+(↑a:Int).toNat * (2:Nat)) l0)=[Value.int IntKind.i64 q5,Value.int IntKind.i64 q4]) (.need ((0:Int)≤(↑a:Int)∧(↑a:Int)<(↑n:Int)) (.need ((0:Nat)+(↑a:Int).toNat * (2:Nat)+(2:Nat)≤l0.length) (.need ((0:Int)≤IntKind.i64.wrap ((↑a:Int)+i0)∧IntKind.i64.wrap ((↑a:Int)+i0)<(↑n:Int)) (.need ((0:Nat)+q7.toNat * (2:Nat)+(2:Nat)≤q1.length) (.call 85 [Value.slice (some ⟨126,0,none⟩) n cap,Value.int IntKind.i64 0,Value.int IntKind.i64 i0,Value.int IntKind.i64 (↑a:Int),Value.func (Fn.func 36) ⟨[Value.pointer (some ⟨127,0,none⟩)]⟩ ⟨[]⟩] (⟨eE q2 (eE nZ (eE nZ (eE nZ (eE nZ (eE nZ (lL (AObj.cells 52 (splice (splice l0 (0+(↑a:Int).toNat * 2) [iI (intAt l0 q6),iI (intAt l0 (0+q7.toNat * 2+1))]) q6 [iI (intAt l0 (0+(↑a:Int).toNat * 2)),iI (intAt l0 (0+(↑a:Int).toNat * 2+1))]) false 2))))))),148⟩) (.ret (undef) (⟨eE q2 (eE nZ (eE nZ (eE nZ (eE nZ (eE nZ (lL (AObj.cells 52 q0 false 2))))))),148⟩)) (.need (NoNames (HQ.sfC f (splice q1 q3 [Value.int IntKind.i64 q5,Value.int IntKind.i64 q4]) i0.toNat (↑a:Int).toNat (0:Nat))∧True∧True) (.stop [0,3,8,9,12] (S1 f n cap c a b (IntKind.i64.wrap (i0 - 1)) q0 (fun _=>undef))))))))))))) (.done 75 (undef) (⟨eE q2 (eE nZ (eE nZ (eE nZ (eE nZ (eE nZ (lL (AObj.cells 52 l0 false 2))))))),128⟩)))):RunD η prog B 75 (H0 f n cap c a b) [0,3,8,9,12] (S1 f n cap c a b i0 l0 fun _=>undef) (QF prog 128 D):=by
 refine RunD.intro (S1 f n cap c a b i0 l0) (fun d=>⟨rfl,rfl,rfl⟩) (fun d=>tmOk_get (by kernel_rfl)) (fun d=>by kernel_rfl) (fun d=>?_)
 exact walk_okT (h0:=H0 f n cap c a b) hη hmix hreg (.steps 6 <| .bit 33 (.steps 5 <| .reg <| .steps 10 <| .op <| .op <| .steps 2 <| .op <| .op <| .op <| .op <| .op <| .op <| .reg <| .steps 6 <| .call kN <| .steps 8 <| .stop [0,3,8,9,12] (some ⟨128,[],[(126,(126,true)),(127,(127,false))]⟩)) (.steps 3 <| .done none)) (S1 f n cap c a b i0 l0 d) (by kernel_rfl) h (by kernel_rfl)
end KHsort
end Go.Ev

/- Contracts that change some blocks and only look at others, in any heap. -/
namespace Go.Ev
open Go Go.Proofs
variable {η:Nat→Value} {P:Program} {B:Bd}
theorem CallSpec.moveK(hη:OneCells η){f:FuncId}{args args':List Value}{l l':List AObj}{l2 l2':List (Option AObj)}{rn:Nat→Nat}{h:AH}{v v':Value}(hN:P.globals.size<126)(hs:Stands h l l' rn)(hle:l.length≤l2.length)(hlen:l2.length=l2'.length)
  (ha:L2 (RV (sigR rn) (126+l.length) true) args args') (hv:RV (sg (sigR rn) (126+l.length) h.next) (126+l2.length) false v v')
  (ho:∀ (j:Nat) (x':AObj),l2'[j]? = some (some x')→(∃ x,l2[j]? = some (some x)∧RO (sg (sigR rn) (126+l.length) h.next) (126+l2.length) false x x')∨(∃ a0 a1:AObj,l[j]? = some a0∧ownO a0=false∧l2[j]? = some (some a1)∧l'[j]? = some x'))
  (c:CallSpec η P B f args (heapO l) fun v1 h1=>v1=v∧h1.next=126+l2.length∧hasQ h1.objs l2 126) :
  CallSpec η P B f args' h fun v1 h1=>v1=v'∧h1=⟨putL (keyQ rn l.length h.next) l2' 0 h.objs,h.next+(l2.length - l.length)⟩:=by
 refine c.frame (σ:=sigR rn) hη (hs.emb hN) ha ?_
 rintro v1 hs' ⟨rfl,hnx,hq⟩ _
 refine⟨v',_,⟨rfl,rfl⟩,by rw [hnx];exact hv,⟨?_,fun r a hr=>?_⟩⟩
 ·show h.next+(l2.length - l.length)=h.next+(hs'.next - (126+l.length));omega
 ·rcases putL_get hr with⟨j,h1,h2⟩ | ⟨h1,h2⟩
  ·rw [Nat.zero_add] at h2
   rcases ho j a h1 with⟨x,e1,hro⟩ | ⟨a0,a1,e0,ow,e1,e2⟩
   ·have hlt:=(List.getElem?_eq_some_iff.1 e1).1
    have hk:sg (sigR rn) (126+l.length) h.next (126+j)=keyQ rn l.length h.next j:=by
     unfold sg keyQ sigR
     by_cases hj:j<l.length
     ·rw [if_pos (by omega),if_pos (by omega),if_pos hj,Nat.add_sub_cancel_left]
     ·rw [if_neg (by omega),if_neg hj,show 126+j - (126+l.length)=j - l.length by omega]
    exact .inl ⟨126+j,_,(by rw [hnx];omega),hk.trans h2,hasQ_get hq e1,by rw [hnx];exact hro⟩
   ·have hlt:=(List.getElem?_eq_some_iff.1 e0).1
    have hj:rn j=r:=by unfold keyQ at h2;rw [if_pos hlt] at h2;exact h2
    exact .inr (.inr ⟨hj ▸ hs.at_ j a e2,126+j,a0,a1,(by show 126+j<126+l.length;omega),(by unfold sigR;rw [if_pos (by omega),Nat.add_sub_cancel_left,hj]),objsO_at e0,ow,hasQ_get hq e1⟩)
  ·refine .inr (.inl ⟨h1,fun r0 a0 h0 e=>?_⟩)
   obtain⟨g1,g2⟩:=objsO_get h0
   have hlt:=(List.getElem?_eq_some_iff.1 g2).1
   refine h2 (r0 - 126) (hlen ▸ Nat.lt_of_lt_of_le hlt hle) ?_
   unfold sigR at e
   rw [if_pos g1] at e
   rw [Nat.zero_add]
   unfold keyQ
   rw [if_pos hlt];exact e
end Go.Ev

/- Sorting items: heap sort, and what breaks patterns. -/
namespace Go.Ev
open Go Go.Proofs Go.RowKit
variable {η:Nat→Value} {B:Bd}
namespace HQ
theorem siftDown_size(lt:Int × Int→Int × Int→Bool)(hi first:Nat):∀ (k root:Nat) (d:A2),hi - root≤k→(Sort.siftDown lt hi first root d).size=d.size:=by
 intro k
 induction k with
 | zero=>
  intro root d h
  unfold Sort.siftDown
  rw [dif_pos (by omega)]
 | succ k ih=>
  intro root d h
  unfold Sort.siftDown
  split
  ·rfl
  ·split
   ·split
    ·rfl
    ·split
     ·rw [ih _ _ (by omega),Sort.size_swp]
     ·rfl
   ·split
    ·rfl
    ·rw [ih _ _ (by omega),Sort.size_swp]
theorem sfC_eq(f:Nat)(d:A2)(hi first lo:Nat):sfC f (aC d) hi first lo=aC (Sort.siftDown (ltA f) hi first lo d):=by unfold sfC;rw [aC_arr]
theorem wm1(k:Nat)(h:k≤1000000000):IntKind.i64.wrap ((k:Int) - 1)=(k:Int) - 1:=by
 cases k with
 | zero=>decide
 | succ k=>rw [wrap_small (by omega) (by omega)]
def valO(f:Nat)(x y z:Value)(w:Nat):AObj:=.cells 74 [.func (.func f) #[] #[],x,y,z] true w
theorem aC_bare(d:A2):(aC d).all bareV=true:=its_bare _ _
theorem rv_cl{σ:Nat→Nat}{N:Nat}{wk:Bool}(g v:Nat)(h:v<N):RV σ N wk (.func (.func g) ⟨[.pointer (some ⟨v,0,none⟩)]⟩ ⟨[]⟩) (.func (.func g) ⟨[.pointer (some ⟨σ v,0,none⟩)]⟩ ⟨[]⟩):=.func (.same (fun _ h=>by cases h)) rfl rfl (fun i a b h1 h2=>by
 match i,h1,h2 with
 | 0,h1,h2=>simp at h1 h2;subst h1;subst h2;exact .ptr h
 | i+1,h1,h2=>simp at h1) (by simp)
theorem any_S(hη:OneCells η){F:FuncId}{A A':List Value}{w w':Value}{f:Nat}{c c':A2}{r v:Nat}{x y z:Value}{o:Nat}{H:AH}(hr:H.objs.get r=some (.cells 52 (aC c) false 2))(hv:H.objs.get v=some (valO f x y z o))(hd:r ≠ v)(hx:oneC x=true)(hy:oneC y=true)(hz:oneC z=true)
  (ha:L2 (RV (sigR (rnS r v)) 128 true) A A') (hw:∀ σ N,RV σ N false w w')
  (k:CallSpec η Try.prog B F A (heapS f (aC c)) (KT.ret w (heapS f (aC c'))).sat):CallSpec η Try.prog B F A' H (KT.ret w' ⟨putL (keyQ (rnS r v) 2 H.next) [some (.cells 52 (aC c') false 2),some (valO f x y z o)] 0 H.objs,H.next+(2 - 2)⟩).sat:=by
 refine CallSpec.moveK hη gs9 (rn:=rnS r v) (l:=[.cells 52 (aC c) false 2,valO f (.chan none) (.chan none) (.chan none) 0]) (l':=[.cells 52 (aC c) false 2,valO f x y z o])
  (l2:=[some (.cells 52 (aC c') false 2),some (valO f (.chan none) (.chan none) (.chan none) 0)]) (l2':=[some (.cells 52 (aC c') false 2),some (valO f x y z o)]) ⟨fun i a hi=>?_,?_,fun i j hi hj e=>?_⟩ (Nat.le_refl _) rfl ha (hw _ _) (fun j x' hj=>?_) ?_
 ·match i,hi with
  | 0,hi=>simp at hi;subst hi;exact hr
  | 1,hi=>simp at hi;subst hi;exact hv
  | i+2,hi=>simp at hi
 ·exact .cons (.cells _ _ (l2_bareV (aC_bare c)) (.inl rfl)) (.cons (.cells _ _ (.cons (rv_fn f) (.cons (.any rfl hx) (.cons (.any rfl hy) (.cons (.any rfl hz) .nil)))) (.inr ⟨rfl,rfl⟩)) .nil)
 ·simp only [List.length_cons,List.length_nil] at hi hj
  match i,j,hi,hj,e with
  | 0,0,_,_,_=>rfl
  | 1,1,_,_,_=>rfl
  | 0,1,_,_,e=>exact absurd e hd
  | 1,0,_,_,e=>exact absurd e.symm hd
 ·match j,hj with
  | 0,hj=>simp at hj;subst hj;exact .inl ⟨_,rfl,.cells _ _ (l2_bareV (aC_bare c')) (.inl rfl)⟩
  | 1,hj=>simp at hj;subst hj;exact .inr ⟨_,_,rfl,rfl,rfl,rfl⟩
  | j+2,hj=>simp at hj
 ·exact k.mono fun v1 h1 ⟨e1,e2⟩=>⟨e1,by rw [e2];rfl,by rw [e2];exact⟨rfl,rfl,trivial⟩⟩
theorem l2_ap{α β:Type}{R:α→β→Prop}:∀ {a:List α} {b:List β} {c:List α} {d:List β},L2 R a b→L2 R c d→L2 R (a ++ c) (b ++ d)
 | _,_,_,_,.nil,h=>h
 | _,_,_,_,.cons h1 h2,h=>.cons h1 (l2_ap h2 h)
theorem sA(n cap r v:Nat)(l:List Value)(h:l.all bareV=true):L2 (RV (sigR (rnS r v)) 128 true) (sArgs n cap l) (.slice (some ⟨r,0,none⟩) n cap :: (l ++ [.func (.func 36) ⟨[.pointer (some ⟨v,0,none⟩)]⟩ ⟨[]⟩])):=by
 refine .cons ?_ (l2_ap (l2_bareV h) (.cons ?_ .nil))
 ·have:=RV.slice (σ:=sigR (rnS r v)) (N:=128) (wk:=true) (r:=126) (o:=0) (s:=none) n cap (by decide)
  exact this
 ·exact rv_cl _ 127 (by decide)
theorem here_S(hη:OneCells η){F:FuncId}{l:List Value}{w:Value}{f n cap:Nat}{c c':A2}{H H':AH}(hl:l.all bareV=true)(hr:H.objs.get 126=some (.cells 52 (aC c) false 2))(hv:H.objs.get 127=some (valO f (.chan none) (.chan none) (.chan none) 0))
  (hw:∀ σ N,RV σ N false w w) (e':H'=⟨putL (keyQ (rnS 126 127) 2 H.next) [some (.cells 52 (aC c') false 2),some (valO f (.chan none) (.chan none) (.chan none) 0)] 0 H.objs,H.next+(2 - 2)⟩)
  (k:CallSpec η Try.prog B F (sArgs n cap l) (heapS f (aC c)) (KT.ret w (heapS f (aC c'))).sat):CallSpec η Try.prog B F (sArgs n cap l) H (KT.ret w H').sat:=by
 subst e'
 exact any_S hη hr hv (by decide) rfl rfl rfl (sA n cap 126 127 l hl) hw k
theorem rv_un{σ:Nat→Nat}{N:Nat}:RV σ N false undef undef:=.tuple rfl (by simp)
theorem sift_at(hη:OneCells η)(hmix:Try.prog.follows .mixedOrders=true){f n cap:Nat}{d:A2}{lo hi first:Nat}{H H':AH}(hr:H.objs.get 126=some (.cells 52 (aC d) false 2))(hv:H.objs.get 127=some (valO f (.chan none) (.chan none) (.chan none) 0))(e':H'=⟨putL (keyQ (rnS 126 127) 2 H.next) [some (.cells 52 (aC (Sort.siftDown (ltA f) hi first lo d)) false 2),some (valO f (.chan none) (.chan none) (.chan none) 0)] 0 H.objs,H.next+(2 - 2)⟩)(hf:isOrd f)(hb:first+hi≤n)(hn:n≤d.size)(hm:d.size≤1000000)(ha:lo≤n) :
  CallSpec η Try.prog B 85 (sArgs n cap [.int .i64 (lo:Int),.int .i64 (hi:Int),.int .i64 (first:Int)]) H (KT.ret undef H').sat:=
 here_S hη rfl hr hv (fun _ _=>rv_un) e' (sift_ok hη hmix hf hb hn hm ha)
set_option maxHeartbeats 2000000 in
theorem hsort_ok(hη:OneCells η)(hmix:Try.prog.follows .mixedOrders=true){f n cap:Nat}{d:A2}{a b:Nat}(hf:isOrd f)(hab:a<b)(hb:b≤n)(hn:n≤d.size)(hm:d.size≤1000000) :
  CallSpec η Try.prog B 75 (sArgs n cap [.int .i64 (a:Int),.int .i64 (b:Int)]) (heapS f (aC d)) (KT.ret undef (heapS f (aC (Sort.heapSort (ltA f) d a b)))).sat:=by
 generalize hR:Sort.heapSort (ltA f) d a b=R
 have w1:IntKind.i64.wrap ((b:Int) - (a:Int))=((b - a:Nat):Int):=wn _ (by omega) (by omega)
 have w2:IntKind.i64.wrap (((b - a:Nat):Int) - 1)=((b - a:Nat):Int) - 1:=by rw [wrap_small (by omega) (by omega)]
 have cut0:=fun i0 l0=>KHsort.cut0 (η:=η) (B:=B) (D:=(KT.ret undef (heapS f (aC R))).sat) hη hmix (reg0 hη hmix) f n cap (aC d) a b i0 l0
 have cut1:=fun i0 l0=>KHsort.cut1 (η:=η) (B:=B) (D:=(KT.ret undef (heapS f (aC R))).sat) hη hmix (reg0 hη hmix) f n cap (aC d) a b i0 l0
 have pop:∀ (k:Nat) (t:A2),k≤b - a→t.size=d.size→Sort.heapPop (ltA f) a k t=R→RunD η Try.prog B 75 (KHsort.H0 f n cap (aC d) a b) [0,3,8,9,12] (KHsort.S1 f n cap (aC d) a b ((k:Int) - 1) (aC t) fun _=>undef) (QF Try.prog 128 (KT.ret undef (heapS f (aC R))).sat):=by
  intro k
  induction k with
  | zero=>
   intro t hk ht he
   refine cut1 _ _ ?_
   simp only [W.holds,decide_eq_true_eq,decide_eq_false_iff_not,true_and,and_true,true_implies]
   refine⟨fun q=>by omega,fun q=>?_⟩
   have he:t=R:=he
   subst he
   exact⟨rfl,by kernel_rfl⟩
  | succ k ih=>
   intro t hk ht he
   have e:(((k+1:Nat):Int) - 1)=(k:Int):=by omega
   rw [e]
   have v1:IntKind.i64.wrap ((a:Int)+(k:Int))=((a+k:Nat):Int):=wn _ (by omega) (by omega)
   have v2:IntKind.i64.wrap ((k:Int) - 1)=(k:Int) - 1:=wm1 k (by omega)
   have h1:a<t.size:=by omega
   have h0:a+k<t.size:=by omega
   obtain⟨a1,a2⟩:=aC_int h1
   obtain⟨b1,b2⟩:=aC_int h0
   have p1:=fun x y=>aC_put (d:=t) (k:=a) h1 x y
   have p2:=fun p x y=>aC_put (d:=t.setIfInBounds a p) (k:=a+k) (by simpa using h0) x y
   refine cut1 _ _ ?_
   have nx:=ih (Sort.siftDown (ltA f) k a 0 (Sort.swp t a (a+k))) (by omega) (by rw [siftDown_size _ _ _ _ _ _ (Nat.le_refl _),Sort.size_swp];exact ht) he
   have sw:aC ((t.setIfInBounds a ((t[a+k]!).1,(t[a+k]!).2)).setIfInBounds (a+k) ((t[a]!).1,(t[a]!).2))=aC (Sort.swp t a (a+k)):=rfl
   simp only [W.holds,v1,v2,decide_eq_true_eq,decide_eq_false_iff_not,Int.toNat_natCast,Int.toNat_zero,Nat.zero_add,Nat.add_zero,a1,a2,b1,b2,aC_cut h1,aC_cut h0,p1,p2,sw,sfC_eq,aC_len,aC_nn,Array.size_setIfInBounds,true_and,and_true,true_implies]
   refine⟨fun q=>?_,fun q=>by omega⟩
   repeat' first
    | exact nx
    | exact sift_at hη hmix (d:=Sort.swp t a (a+k)) (lo:=0) (by kernel_rfl) (by kernel_rfl) (by kernel_rfl) hf (by omega) (by rw [Sort.size_swp];omega) (by rw [Sort.size_swp];omega) (by omega)
    | refine⟨by omega,fun _=>?_⟩
    | refine⟨?_,?_⟩
 have build:∀ (k:Nat) (t:A2),k≤b - a→t.size=d.size→Sort.heapPop (ltA f) a (b - a) (Sort.heapBuild (ltA f) (b - a) a k t)=R→RunD η Try.prog B 75 (KHsort.H0 f n cap (aC d) a b) [0,3,8,9,10,11] (KHsort.S0 f n cap (aC d) a b ((k:Int) - 1) (aC t) fun _=>undef) (QF Try.prog 128 (KT.ret undef (heapS f (aC R))).sat):=by
  intro k
  induction k with
  | zero=>
   intro t hk ht he
   refine cut0 _ _ ?_
   simp only [W.holds,w1,w2,decide_eq_true_eq,decide_eq_false_iff_not,true_and,and_true,true_implies,aC_nn]
   refine⟨fun q=>by omega,fun q=>?_⟩
   exact pop (b - a) t (Nat.le_refl _) ht he
  | succ k ih=>
   intro t hk ht he
   have e:(((k+1:Nat):Int) - 1)=(k:Int):=by omega
   rw [e]
   have v2:IntKind.i64.wrap ((k:Int) - 1)=(k:Int) - 1:=wm1 k (by omega)
   refine cut0 _ _ ?_
   have nx:=ih (Sort.siftDown (ltA f) (b - a) a k t) (by omega) (by rw [siftDown_size _ _ _ _ _ _ (Nat.le_refl _)];exact ht) he
   simp only [W.holds,w1,w2,v2,decide_eq_true_eq,decide_eq_false_iff_not,Int.toNat_natCast,sfC_eq,aC_nn,true_and,and_true,true_implies]
   refine⟨fun q=>⟨sift_at hη hmix (d:=t) (by kernel_rfl) (by kernel_rfl) (by kernel_rfl) hf (by omega) (by omega) (by omega) (by omega),nx⟩,fun q=>by omega⟩
 have w3:(((b - a:Nat):Int) - 1).tdiv 2=(((b - a - 1) / 2:Nat):Int):=by rw [Int.tdiv_eq_ediv_of_nonneg (by omega)];omega
 have w4:IntKind.i64.wrap (((b - a - 1) / 2:Nat):Int)=(((b - a - 1) / 2+1:Nat):Int) - 1:=by rw [ww _ (by omega)];omega
 refine KHsort.enter hη hmix (reg0 hη hmix) _ _ _ _ _ _ ?_
 simp only [W.holds,w1,w2,w3,w4]
 exact build ((b - a - 1) / 2+1) d (by omega) rfl hR
end HQ
end Go.Ev

