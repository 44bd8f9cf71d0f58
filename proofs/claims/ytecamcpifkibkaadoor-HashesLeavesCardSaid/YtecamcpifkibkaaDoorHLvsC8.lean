/- HLvsC, part 8: what the proof needs, in the order of its texts. -/
import Derived.Test.YtecamcpifkibkaaDoorHLvsC7
import Derived.Test.YtecamcpifkibkaaDoorProg
import Derived.KernelRfl
/- Rings of backends: a backend that leaves: mathematics. -/
set_option linter.unusedVariables false
set_option linter.unusedSimpArgs false
namespace Go.Ev
open Go Go.Proofs
namespace RG
def notB(x:Int)(p:Int × Int):Bool:=!(p.2 == x)
theorem inn_keep{b:Int}{i:Nat}{x:Int}(h:(i:Int) ≠ x):∀ m j,(inn b i m j).filter (notB x)=inn b i m j
 | 0,_=>rfl
 | m+1,j=>by
  unfold inn
  rw [List.filter_cons_of_pos (by unfold notB;simpa using h),inn_keep h m (j+1)]
theorem inn_drop{b:Int}{i:Nat}:∀ m j,(inn b i m j).filter (notB (i:Int))=[]
 | 0,_=>rfl
 | m+1,j=>by
  unfold inn
  rw [List.filter_cons_of_neg (by unfold notB;simp),inn_drop m (j+1)]
theorem allP_leave{c c' d:List Value}{k:Int}{n t:Nat}(hd:∀ j,j<n→intAt d j=if j=t then 0 else intAt c' j):∀ m i,i+m≤n→allP c 0 d 0 k m i=(allP c 0 c' 0 k m i).filter (notB t)
 | 0,_,_=>rfl
 | m+1,i,hi=>by
  unfold allP
  rw [List.filter_append,allP_leave hd m (i+1) (by omega),Nat.zero_add,hd i (by omega)]
  congr 1
  by_cases e:i=t
  ·subst e
   rw [if_pos rfl,Int.zero_mul,inn_drop];rfl
  ·rw [if_neg e,inn_keep (by omega)]
theorem leP_anti{a b:Int × Int}(h1:leP a b=true)(h2:leP b a=true):a=b:=by
 unfold leP at *
 simp only [Bool.not_eq_true',decide_eq_false_iff_not,lt_iff] at *
 obtain⟨a1,a2⟩:=a
 obtain⟨b1,b2⟩:=b
 simp only at *
 have e1:a1=b1:=by omega
 have e2:a2=b2:=by omega
 rw [e1,e2]
theorem leP_srt(l:List (Int × Int)):(l.mergeSort leP).Pairwise fun a b=>leP a b=true:=
 List.pairwise_mergeSort (le:=leP) (fun a b d h1 h2=>by
  unfold leP at *
  simp only [Bool.not_eq_true',decide_eq_false_iff_not,lt_iff] at *
  omega) (fun a b=>by
  unfold leP
  simp only [Bool.or_eq_true,Bool.not_eq_true',decide_eq_false_iff_not,lt_iff]
  omega) l
theorem sort_filter(q:Int × Int→Bool)(l:List (Int × Int)):(l.filter q).mergeSort leP=(l.mergeSort leP).filter q:=
 List.Perm.eq_of_pairwise (le:=fun a b=>leP a b=true) (fun a b _ _ h1 h2=>leP_anti h1 h2) (leP_srt _) ((leP_srt l).filter q) ((List.mergeSort_perm _ _).trans ((List.mergeSort_perm l leP).symm.filter q))
theorem ptsS_leave{c c' d:List Value}{k:Int}{n t:Nat}(hd:∀ j,j<n→intAt d j=if j=t then 0 else intAt c' j):ptsS c 0 d 0 k n=(ptsS c 0 c' 0 k n).filter (notB t):=by
 unfold ptsS
 rw [allP_leave hd n 0 (by omega),sort_filter]
def rotF(l:List (Int × Int))(x:Int):List (Int × Int):=l.filter (fun p=>!decide (p.1<x)) ++ l.filter fun p=>decide (p.1<x)
theorem rotF_filter(q:Int × Int→Bool)(l:List (Int × Int))(x:Int):rotF (l.filter q) x=(rotF l x).filter q:=by
 unfold rotF
 rw [List.filter_append,List.filter_filter,List.filter_filter,List.filter_filter,List.filter_filter]
 congr 1 <;> (congr 1;funext p;exact Bool.and_comm _ _)
theorem cut_sorted{x:Int}:∀ {l:List (Int × Int)},(l.Pairwise fun p q=>p.1≤q.1)→l.takeWhile (fun p=>decide (p.1<x))=l.filter (fun p=>decide (p.1<x))∧l.dropWhile (fun p=>decide (p.1<x))=l.filter fun p=>!decide (p.1<x)
 | [],_=>⟨rfl,rfl⟩
 | p :: l,h=>by
  rw [List.pairwise_cons] at h
  obtain⟨h1,h2⟩:=h
  by_cases hp:p.1<x
  ·obtain⟨e1,e2⟩:=cut_sorted (x:=x) h2
   rw [List.takeWhile_cons_of_pos (by simpa using hp),List.dropWhile_cons_of_pos (by simpa using hp),List.filter_cons_of_pos (by simpa using hp),List.filter_cons_of_neg (by simpa using hp),e1,e2]
   exact⟨rfl,rfl⟩
  ·have e0:l.filter (fun p=>decide (p.1<x))=[]:=List.filter_eq_nil_iff.2 fun q hq=>by have:=h1 q hq;simp only [decide_eq_true_eq];omega
   have e3:l.filter (fun p=>!decide (p.1<x))=l:=List.filter_eq_self.2 fun q hq=>by have:=h1 q hq;simp only [Bool.not_eq_true',decide_eq_false_iff_not];omega
   rw [List.takeWhile_cons_of_neg (by simpa using hp),List.dropWhile_cons_of_neg (by simpa using hp),List.filter_cons_of_neg (by simpa using hp),List.filter_cons_of_pos (by simpa using hp),e0,e3]
   exact⟨rfl,rfl⟩
theorem rot_eq{l:List (Int × Int)}{x:Int}(hs:l.Pairwise fun p q=>p.1≤q.1):rotF l x=l.drop (plL l x) ++ l.take (plL l x):=by
 obtain⟨e1,e2⟩:=cut_sorted (x:=x) hs
 have e3:l.takeWhile (fun p=>decide (p.1<x)) ++ l.dropWhile (fun p=>decide (p.1<x))=l:=List.takeWhile_append_dropWhile
 unfold rotF
 rw [← e1,← e2]
 unfold plL
 split
 ·rename_i h
  unfold lbL at h
  have hd:l.dropWhile (fun p=>decide (p.1<x))=[]:=by
   have:=congrArg List.length e3
   rw [List.length_append,h] at this
   exact List.length_eq_zero_iff.1 (by omega)
  rw [hd,List.append_nil] at e3
  rw [hd,e3];simp
 ·unfold lbL
  generalize l.takeWhile (fun p=>decide (p.1<x))=a at *
  generalize l.dropWhile (fun p=>decide (p.1<x))=b at *
  subst e3
  rw [List.drop_left,List.take_left]
theorem rot_len{l:List (Int × Int)}{x:Int}(hs:l.Pairwise fun p q=>p.1≤q.1):(rotF l x).length=l.length:=by
 rw [rot_eq hs,List.length_append,List.length_drop,List.length_take]
 have:=lb_le l x
 unfold plL
 split <;> omega
theorem rot_get{l:List (Int × Int)}{x:Int}(hs:l.Pairwise fun p q=>p.1≤q.1){i:Nat}(hi:i<l.length):(rotF l x)[i]? = l[(plL l x+i) % l.length]?:=by
 have hp:plL l x<l.length:=by
  have:=lb_le l x
  unfold plL;split <;> omega
 rw [rot_eq hs]
 by_cases h:plL l x+i<l.length
 ·rw [List.getElem?_append_left (by rw [List.length_drop];omega),List.getElem?_drop,Nat.mod_eq_of_lt h]
 ·rw [List.getElem?_append_right (by rw [List.length_drop];omega),List.length_drop,List.getElem?_take_of_lt (by omega)]
  congr 1
  rw [Nat.mod_eq_sub_mod (by omega),Nat.mod_eq_of_lt (by omega)];omega
def dd:List Int→List Int→List Int
 | [],a=>a
 | b :: r,a=>dd r (if b ∈ a then a else a ++ [b])
theorem ordF_dd{l:List (Int × Int)}{x:Int}(hs:l.Pairwise fun p q=>p.1≤q.1):∀ (m i:Nat) (a:List Int),i+m=l.length→ordF l (plL l x) m i a=dd (((rotF l x).drop i).map (·.2)) a
 | 0,i,a,hi=>by
  rw [List.drop_of_length_le (by rw [rot_len hs];omega)];rfl
 | m+1,i,a,hi=>by
  have hl:i<(rotF l x).length:=by rw [rot_len hs];omega
  have e:=rot_get (x:=x) hs (i:=i) (by omega)
  rw [List.getElem?_eq_getElem hl] at e
  unfold ordF
  rw [← e,ordF_dd hs m (i+1) _ (by omega),List.drop_eq_getElem_cons hl,List.map_cons]
  rfl
theorem ordL_dd{l:List (Int × Int)}{x:Int}(hs:l.Pairwise fun p q=>p.1≤q.1):ordL l x=dd ((rotF l x).map (·.2)) []:=by
 unfold ordL
 rw [ordF_dd hs l.length 0 [] (by omega),List.drop_zero]
theorem dd_pre:∀ r a,∃ t,dd r a=a ++ t
 | [],a=>⟨[],(List.append_nil a).symm⟩
 | b :: r,a=>by
  unfold dd
  obtain⟨t,e⟩:=dd_pre r (if b ∈ a then a else a ++ [b])
  split at e
  ·rename_i h;rw [if_pos h];exact⟨t,e⟩
  ·rename_i h;rw [if_neg h];exact⟨b :: t,by rw [e,List.append_assoc];rfl⟩
theorem dd_one(x:Int):∀ r,(r.filter (fun y=>!(y == x))=[]∧dd r [x]=[x])∨∃ b r' t,r.filter (fun y=>!(y == x))=b :: r'∧dd r [x]=x :: b :: t
 | []=>.inl ⟨rfl,rfl⟩
 | y :: r=>by
  by_cases h:y=x
  ·subst h
   rw [List.filter_cons_of_neg (by simp)]
   have e:dd (y :: r) [y]=dd r [y]:=by unfold dd;rw [if_pos (by simp)];cases r <;> rfl
   rw [e]
   exact dd_one y r
  ·rw [List.filter_cons_of_pos (by simpa using h)]
   refine .inr ⟨y,r.filter (fun y=>!(y == x)),?_⟩
   have e:dd (y :: r) [x]=dd r [x,y]:=by
    show dd r (if y ∈ [x] then [x] else [x] ++ [y])=_
    rw [if_neg (by simpa using h)];rfl
   obtain⟨t,e2⟩:=dd_pre r [x,y]
   exact⟨t,rfl,by rw [e,e2];rfl⟩
theorem bkn_head{l:List (Int × Int)}{x:Int}(hne:l ≠ [])(hs:l.Pairwise fun p q=>p.1≤q.1):((rotF l x).map (·.2)).head? = some (bknL l x):=by
 have hpos:0<l.length:=List.length_pos_iff.2 hne
 have hp:plL l x<l.length:=by
  have:=lb_le l x
  unfold plL;split <;> omega
 have e:=rot_get (x:=x) hs hpos
 rw [Nat.add_zero,Nat.mod_eq_of_lt hp,List.getElem?_eq_getElem hp] at e
 rw [List.head?_eq_getElem?,List.getElem?_map,e]
 unfold bknL
 have h2:(if lbL l x=l.length then 0 else lbL l x)=plL l x:=rfl
 rw [h2,List.getElem?_eq_getElem hp];rfl
theorem leave_facts {l l' : List (Int × Int)} {x h : Int} (hne : l ≠ []) (hs : l.Pairwise fun p q => p.1 ≤ q.1) (e : l' = l.filter (notB x)) :
    (1 ≤ (ordL l h).length ∧ (ordL l h)[0]? = some (bknL l h)) ∧ (l' ≠ [] → (bknL l h ≠ x → bknL l' h = bknL l h) ∧ bknL l' h ≠ x ∧ (bknL l h = x → 2 ≤ (ordL l h).length ∧ (ordL l h)[1]? = some (bknL l' h))) ∧ (l' = [] → bknL l h = x ∧ (ordL l h).length = 1) := by
  have hd := bkn_head (x := h) hne hs
  have hR : (rotF l' h).map (·.2) = ((rotF l h).map (·.2)).filter fun y => !(y == x) := by
    rw [e, rotF_filter, List.filter_map]; rfl
  have hs' : l'.Pairwise fun p q => p.1 ≤ q.1 := by rw [e]; exact hs.filter _
  have hO := ordL_dd (x := h) hs
  generalize (rotF l h).map (·.2) = R at hd hR hO
  cases R with
  | nil => cases hd
  | cons q R =>
    have hq : q = bknL l h := by simpa using hd
    have hO2 : ordL l h = dd R [q] := by rw [hO]; show dd R (if q ∈ [] then [] else [] ++ [q]) = _; rw [if_neg (by simp)]; rfl
    obtain ⟨t, et⟩ := dd_pre R [q]
    rw [et] at hO2
    refine ⟨⟨by rw [hO2]; simp, by rw [hO2, hq]; rfl⟩, fun hn => ?_, fun hn => ?_⟩
    · have hd' := bkn_head (x := h) hn hs'
      rw [hR] at hd'
      have hmem : bknL l' h ∈ (q :: R).filter fun y => !(y == x) := by
        cases hh : (q :: R).filter fun y => !(y == x) with
        | nil => rw [hh] at hd'; cases hd'
        | cons a r => rw [hh] at hd'; have : a = bknL l' h := by simpa using hd'
                      rw [this]; simp
      refine ⟨fun hx => ?_, ?_, fun hx => ?_⟩
      · rw [List.filter_cons_of_pos (by rw [hq]; simpa using hx)] at hd'
        rw [← hq]; simpa using hd'.symm
      · have := (List.mem_filter.1 hmem).2
        simpa using this
      · rw [hq, List.filter_cons_of_neg (by simpa using hx)] at hd'
        have hqx : q = x := hq.trans hx
        subst hqx
        rcases dd_one q R with ⟨z1, z2⟩ | ⟨b, r', t', z1, z2⟩
        · rw [z1] at hd'; cases hd'
        · rw [z1] at hd'
          have hb : b = bknL l' h := by simpa using hd'
          rw [← et, z2] at hO2
          rw [hO2, hb]
          exact ⟨by simp, rfl⟩
    · have hnil : (q :: R).filter (fun y => !(y == x)) = [] := by rw [← hR, hn]; rfl
      have hall := List.filter_eq_nil_iff.1 hnil
      have hqx : q = x := by have := hall q (by simp); simpa using this
      refine ⟨by rw [← hq]; exact hqx, ?_⟩
      subst hqx
      rcases dd_one q R with ⟨z1, z2⟩ | ⟨b, r', t', z1, z2⟩
      · rw [← et, z2] at hO2; rw [hO2]; rfl
      · rw [List.filter_cons_of_neg (by simp)] at hnil
        rw [hnil] at z1; cases z1
end RG
end Go.Ev

namespace Go.Ev
open Go Go.Proofs
open Go.Ev.T renaming node → nN, nil → nZ
open Go.Proofs.Tryd (prog)
set_option maxRecDepth 100000
set_option maxHeartbeats 2000000
namespace OOdN
noncomputable def bd:Code:=(Go.Proofs.Tryd.f12.body).getD .skip
noncomputable def H0(tb:List Value)(ty ty' ty2 n n' m cap cap' cap2:Nat)(c c' c2:List Value)(kn:Int)(s:List UInt8):AH:={ objs:=nS (AObj.cells 115 tb true 0) (eE (eE (eE (eE (eE (eE (lL (AObj.cells ty' c' false 0)) nZ) nZ) nZ) nZ) nZ) nZ) (eE (eE (eE (eE (eE (eE (lL (AObj.cells ty2 c2 false 0)) nZ) nZ) nZ) nZ) nZ) (eE nZ (eE nZ (eE nZ (eE nZ (lL (AObj.cells ty c false 0))))))),next:=129 }
noncomputable def E(tb:List Value)(ty ty' ty2 n n' m cap cap' cap2:Nat)(c c' c2:List Value)(kn:Int)(s:List UInt8):AS:=⟨⟨12,17,nS (Value.agg ⟨[sS 126 0 n cap,sS 127 0 n' cap',iI kn,sS 128 0 m cap2]⟩) (lL (Value.string ⟨⟨s⟩⟩)) nZ,[Item.code (codeAt bd [])],[],FrameMode.run,CallKind.normal,none⟩,[],H0 tb ty ty' ty2 n n' m cap cap' cap2 c c' c2 kn s⟩
theorem enter{η:Nat→Value}{B:Bd}(hη:OneCells η)(hmix:prog.follows .mixedOrders=true)(hreg:RegOk η prog B noNest){D:Value→AH→Prop}(tb:List Value)(ty ty' ty2 n n' m cap cap' cap2:Nat)(c c' c2:List Value)(kn:Int)(s:List UInt8)(h:let q5:T AObj:=(eE nZ (eE nZ (eE nZ (lL (AObj.cells ty c false 0)))));let q4:T AObj:=(eE (eE (eE (eE (lL (AObj.cells ty' c' false 0)) nZ) nZ) nZ) nZ);let q3:T AObj:=(eE (eE (eE (eE (lL (AObj.cells 3 (RG.ordC c2 m s) false 2)) nZ) nZ) nZ) nZ);let q2:T AObj:=(eE (eE (eE (eE (eE (lL (AObj.cells ty2 c2 false 0)) nZ) nZ) nZ) nZ) nZ);let q1:T AObj:=(eE (eE (eE (eE (lL (AObj.cells 26 [sS 126 0 n cap,sS 127 0 n' cap',iI kn,sS 128 0 m cap2] true 2)) nZ) nZ) nZ) nZ);let q0:AH:=⟨nS (AObj.cells 115 tb true 0) (eE (eE q4 nZ) (eE q1 nZ)) (eE q2 (eE q1 q5)),131⟩;W.holds η prog B 12 (fun kp_ st_=>RunD η prog B 12 (H0 tb ty ty' ty2 n n' m cap cap' cap2 c c' c2 kn s) kp_ st_ (QF prog 129 D)) D (.call 8 [Value.agg ⟨[Value.slice (some ⟨126,0,none⟩) n cap,Value.slice (some ⟨127,0,none⟩) n' cap',Value.int IntKind.i64 kn,Value.slice (some ⟨128,0,none⟩) m cap2]⟩] (q0) (.ret (Value.int IntKind.i64 0) (q0)) (.ite (decide ((↑(⟨⟨s⟩⟩:ByteArray).size:Int) > (200:Int))) (.need (NoNames tb∧NoNames c∧NoNames c'∧NoNames c2∧True) (.done 12 (Value.tuple ⟨[Value.slice none 0 0,Value.int IntKind.i64 3]⟩) (H0 tb ty ty' ty2 n n' m cap cap' cap2 c c' c2 kn s))) (.ite ((↑m:Int) == (0:Int)) (.need (NoNames tb∧NoNames c∧NoNames c'∧NoNames c2∧True) (.done 12 (Value.tuple ⟨[Value.slice none 0 0,Value.int IntKind.i64 4]⟩) (H0 tb ty ty' ty2 n n' m cap cap' cap2 c c' c2 kn s))) (.call 22 [Value.slice (some ⟨128,0,none⟩) m cap2,Value.string ⟨⟨s⟩⟩] (q0) (.ret (Value.slice (some ⟨131,0,none⟩) (RG.ordN c2 m s) 9223372036854775809) (⟨nS (AObj.cells 115 tb true 0) (eE (eE q4 q3) (eE q1 nZ)) (eE q2 (eE q1 q5)),132⟩)) (.need (NoNames tb∧NoNames c∧NoNames c'∧NoNames c2∧NoNames (RG.ordC c2 m s)∧True) (.done 12 (Value.tuple ⟨[Value.slice (some ⟨129,0,none⟩) (RG.ordN c2 m s) 9223372036854775809,Value.int IntKind.i64 0]⟩) (⟨nS (AObj.cells 115 tb true 0) (eE (eE q4 nZ) (eE q3 nZ)) (eE q2 (eE nZ q5)),130⟩)))))))):CallSpec η prog B 12 [Value.agg ⟨[Value.slice (some ⟨126,0,none⟩) n cap,Value.slice (some ⟨127,0,none⟩) n' cap',Value.int IntKind.i64 kn,Value.slice (some ⟨128,0,none⟩) m cap2]⟩,Value.string ⟨⟨s⟩⟩] (H0 tb ty ty' ty2 n n' m cap cap' cap2 c c' c2 kn s) D:=by
 refine CallSpec.ofQF hη (CallSpec.enter (fr:=(E tb ty ty' ty2 n n' m cap cap' cap2 c c' c2 kn s).fr) (by kernel_rfl) ?_)
 exact walk_okT (h0:=H0 tb ty ty' ty2 n n' m cap cap' cap2 c c' c2 kn s) hη hmix hreg (.steps 21 <| .call kN <| .steps 28 <| .bit 12 (.steps 22 <| .done (some ⟨129,[],[(0,(0,true)),(126,(126,true)),(127,(127,true)),(128,(128,true))]⟩)) (.steps 10 <| .bit 16 (.steps 22 <| .done (some ⟨129,[],[(0,(0,true)),(126,(126,true)),(127,(127,true)),(128,(128,true))]⟩)) (.steps 22 <| .call kN <| .steps 4 <| .done (some ⟨130,[(131,129)],[(0,(0,true)),(126,(126,true)),(127,(127,true)),(128,(128,true)),(129,(131,true))]⟩)))) (E tb ty ty' ty2 n n' m cap cap' cap2 c c' c2 kn s) (by kernel_rfl) h (by kernel_rfl)
end OOdN
namespace OOdE
noncomputable def bd:Code:=(Go.Proofs.Tryd.f12.body).getD .skip
noncomputable def H0(tb:List Value)(ty ty' n n' cap cap':Nat)(c c':List Value)(kn:Int)(s:List UInt8):AH:={ objs:=nS (AObj.cells 115 tb true 0) (eE (eE (eE (eE (eE (eE (lL (AObj.cells ty' c' false 0)) nZ) nZ) nZ) nZ) nZ) nZ) (eE nZ (eE nZ (eE nZ (eE nZ (eE nZ (lL (AObj.cells ty c false 0))))))),next:=128 }
noncomputable def E(tb:List Value)(ty ty' n n' cap cap':Nat)(c c':List Value)(kn:Int)(s:List UInt8):AS:=⟨⟨12,17,nS (Value.agg ⟨[sS 126 0 n cap,sS 127 0 n' cap',iI kn,Value.slice none 0 9223372036854775808]⟩) (lL (Value.string ⟨⟨s⟩⟩)) nZ,[Item.code (codeAt bd [])],[],FrameMode.run,CallKind.normal,none⟩,[],H0 tb ty ty' n n' cap cap' c c' kn s⟩
theorem enter{η:Nat→Value}{B:Bd}(hη:OneCells η)(hmix:prog.follows .mixedOrders=true)(hreg:RegOk η prog B noNest){D:Value→AH→Prop}(tb:List Value)(ty ty' n n' cap cap':Nat)(c c':List Value)(kn:Int)(s:List UInt8)(h:let q0:AH:=⟨nS (AObj.cells 115 tb true 0) (eE (eE (eE (eE (eE (eE (lL (AObj.cells ty' c' false 0)) nZ) nZ) nZ) nZ) nZ) (eE (eE (eE (eE (eE (lL (AObj.cells 26 [sS 126 0 n cap,sS 127 0 n' cap',iI kn,Value.slice none 0 9223372036854775808] true 2)) nZ) nZ) nZ) nZ) nZ)) (eE (eE (eE (eE (eE (eE (lL (AObj.cells 26 [sS 126 0 n cap,sS 127 0 n' cap',iI kn,Value.slice none 0 9223372036854775808] true 2)) nZ) nZ) nZ) nZ) nZ) (eE nZ (eE nZ (eE nZ (eE nZ (lL (AObj.cells ty c false 0))))))),130⟩;W.holds η prog B 12 (fun kp_ st_=>RunD η prog B 12 (H0 tb ty ty' n n' cap cap' c c' kn s) kp_ st_ (QF prog 128 D)) D (.call 8 [Value.agg ⟨[Value.slice (some ⟨126,0,none⟩) n cap,Value.slice (some ⟨127,0,none⟩) n' cap',Value.int IntKind.i64 kn,Value.slice none 0 9223372036854775808]⟩] (q0) (.ret (Value.int IntKind.i64 0) (q0)) (.ite (decide ((↑(⟨⟨s⟩⟩:ByteArray).size:Int) > (200:Int))) (.need (NoNames tb∧NoNames c∧NoNames c'∧True) (.done 12 (Value.tuple ⟨[Value.slice none 0 0,Value.int IntKind.i64 3]⟩) (H0 tb ty ty' n n' cap cap' c c' kn s))) (.need (NoNames tb∧NoNames c∧NoNames c'∧True) (.done 12 (Value.tuple ⟨[Value.slice none 0 0,Value.int IntKind.i64 4]⟩) (H0 tb ty ty' n n' cap cap' c c' kn s)))))):CallSpec η prog B 12 [Value.agg ⟨[Value.slice (some ⟨126,0,none⟩) n cap,Value.slice (some ⟨127,0,none⟩) n' cap',Value.int IntKind.i64 kn,Value.slice none 0 9223372036854775808]⟩,Value.string ⟨⟨s⟩⟩] (H0 tb ty ty' n n' cap cap' c c' kn s) D:=by
 refine CallSpec.ofQF hη (CallSpec.enter (fr:=(E tb ty ty' n n' cap cap' c c' kn s).fr) (by kernel_rfl) ?_)
 exact walk_okT (h0:=H0 tb ty ty' n n' cap cap' c c' kn s) hη hmix hreg (.steps 21 <| .call kN <| .steps 28 <| .bit 12 (.steps 22 <| .done (some ⟨128,[],[(0,(0,true)),(126,(126,true)),(127,(127,true))]⟩)) (.steps 32 <| .done (some ⟨128,[],[(0,(0,true)),(126,(126,true)),(127,(127,true))]⟩))) (E tb ty ty' n n' cap cap' c c' kn s) (by kernel_rfl) h (by kernel_rfl)
end OOdE
end Go.Ev

/- Rings of backends: the order of a key in a ring. -/
namespace Go.Ev
open Go Go.Proofs
variable {η:Nat→Value} {B:Bd}
namespace RG
theorem ordN_eq(l:List (Int × Int))(s:List UInt8):ordN (ptV l) l.length s=(ordL l (hsK s)).length:=by unfold ordN hsK;rw [ptsOf_ptV]
theorem ordC_eq(l:List (Int × Int))(s:List UInt8):ordC (ptV l) l.length s=intV (ordL l (hsK s)):=by unfold ordC hsK;rw [ptsOf_ptV]
theorem ord_any(hη:OneCells η)(hmix:Tryd.prog.follows .mixedOrders=true){H:AH}{r ty cap own:Nat}{l:List (Int × Int)}{s:List UInt8}(hr:H.objs.get r=some (.cells ty (ptV l) false own))(hne:l ≠ [])(hll:l.length≤100000)(hs:s.length≤1000)(hsort:l.Pairwise fun p q=>p.1≤q.1) :
  CallSpec η Tryd.prog B 22 [.slice (some ⟨r,0,none⟩) l.length cap,.string ⟨⟨s⟩⟩] H (KT.ret (.slice (some ⟨H.next,0,none⟩) (ordL l (hsK s)).length (capU 1)) (withRow H 3 (intV (ordL l (hsK s))) false)).sat:=
 CallSpec.freshR (mk:=fun r=>.slice (some ⟨r,0,none⟩) (ordL l (hsK s)).length (capU 1)) hη FN.gs9 (FN.rowsIn1 hr (ptV_bare l)) (.cons (.slice (σ:=sigR fun _=>r) _ _ (by simp)) (.cons (.string _) .nil)) (fun σ M r h=>.slice _ _ h) (intV_row _).1 (ord_can hη hmix hne hll hs hsort)
set_option maxRecDepth 20000 in
set_option maxHeartbeats 4000000 in
theorem oRN_can(hη:OneCells η)(hmix:Tryd.prog.follows .mixedOrders=true){ty ty' ty2 n n' cap cap' cap2:Nat}{c c':List Value}{l:List (Int × Int)}{k:Int}{s:List UInt8}(hc:RowS c 0 n)(hc':RowI c' 0 n')(hl:∀ i,i<n→(strAt c (0+i)).length≤1000000)(hcap:isU cap=false)(hcn:n≤cap)(hll:l.length≤100000)(hne:l ≠ [])(h0:ckR c 0 n c' 0 n' k l=0)(hs:s.length≤200) :
  CallSpec η Tryd.prog B 12 [.agg ⟨[.slice (some ⟨126,0,none⟩) n cap,.slice (some ⟨127,0,none⟩) n' cap',.int .i64 k,.slice (some ⟨128,0,none⟩) l.length cap2]⟩,.string ⟨⟨s⟩⟩] (heapTT tabR [(ty,c),(ty',c'),(ty2,ptV l)]) fun v h=>v = .tuple ⟨[.slice (some ⟨129,0,none⟩) (ordL l (hsK s)).length (capU 1),.int .i64 0]⟩∧h=withRow (heapTT tabR [(ty,c),(ty',c'),(ty2,ptV l)]) 3 (intV (ordL l (hsK s))) false:=by
 have nc:=nn_of hc.1
 have nc':=nn_of hc'.1
 have np:=nn_of pow_bare
 have nl:=nn_of (ptV_bare l)
 have hck:ckI c 0 n c' 0 n' k (ptV l) l.length=0:=by rw [ckI_eq];exact h0
 have hpos:0<l.length:=List.length_pos_iff.2 hne
 have hsort:l.Pairwise fun p q=>p.1≤q.1:=by rw [(ckR_zero h0).2];exact ptsS_sorted _ _ _ _ _ _
 have ck:=fun (H:AH) ht h1 h2 h3=>ckN_any (B:=B) (H:=H) (r:=126) (r':=127) (r2:=128) (ty:=ty) (ty':=ty') (ty2:=ty2) (own:=0) (own':=0) (own2:=0) (o:=0) (o':=0) (cap:=cap) (cap':=cap') (cap2:=cap2) (k:=k) hη hmix ht h1 h2 h3 (by decide) (by decide) (by decide) (by decide) hc hc' hl hcap hcn (show l.length≤1000000 by omega) hne
 simp only [hck] at ck
 have od:=fun (H:AH) hr=>ord_any (B:=B) (H:=H) (r:=128) (ty:=ty2) (own:=0) (cap:=cap2) (s:=s) hη hmix hr hne hll (by omega) hsort
 have hsz:((⟨⟨s⟩⟩:ByteArray).size:Int)=(s.length:Int):=rfl
 refine OOdN.enter hη hmix (reg0 hη hmix) pow ty ty' ty2 n n' l.length cap cap' cap2 c c' (ptV l) k s ?_
 simp only [W.holds,true_and,and_true,true_implies,beq_iff_eq,beq_eq_false_iff_ne,ne_eq,decide_eq_true_eq,decide_eq_false_iff_not,ordN_eq,ordC_eq]
 exact⟨ck _ (hasT1 (by kernel_rfl)) (by kernel_rfl) (by kernel_rfl) (by kernel_rfl),fun hq=>by rw [hsz] at hq;omega,fun _=>⟨fun hm=>by omega,fun _=>⟨(od _ (by kernel_rfl)).conv (by kernel_rfl),⟨np,nc,nc',nl,nn_of (intV_row _).1⟩,fun _=>⟨rfl,by kernel_rfl⟩⟩⟩⟩
theorem oRN_any(hη:OneCells η)(hmix:Tryd.prog.follows .mixedOrders=true){H:AH}{r r' r2 ty ty' ty2 n n' cap cap' cap2 own own' own2:Nat}{c c':List Value}{l:List (Int × Int)}{k:Int}{s:List UInt8}(ht:HasT H tabR)(hr:H.objs.get r=some (.cells ty c false own))(hr':H.objs.get r'=some (.cells ty' c' false own'))(hr2:H.objs.get r2=some (.cells ty2 (ptV l) false own2))(h1:r ≠ r')(h2:r ≠ r2)(h3:r' ≠ r2)(hlo:126≤r∧126≤r'∧126≤r2)(hc:RowS c 0 n)(hc':RowI c' 0 n')(hl:∀ i,i<n→(strAt c (0+i)).length≤1000000)(hcap:isU cap=false)(hcn:n≤cap)(hll:l.length≤100000)(hne:l ≠ [])(h0:ckR c 0 n c' 0 n' k l=0)(hs:s.length≤200) :
  CallSpec η Tryd.prog B 12 [.agg ⟨[.slice (some ⟨r,0,none⟩) n cap,.slice (some ⟨r',0,none⟩) n' cap',.int .i64 k,.slice (some ⟨r2,0,none⟩) l.length cap2]⟩,.string ⟨⟨s⟩⟩] H (KT.ret (.tuple ⟨[.slice (some ⟨H.next,0,none⟩) (ordL l (hsK s)).length (capU 1),.int .i64 0]⟩) (withRow H 3 (intV (ordL l (hsK s))) false)).sat:=by
 refine CallSpec.freshRW (mk:=fun r=>.tuple ⟨[.slice (some ⟨r,0,none⟩) (ordL l (hsK s)).length (capU 1),.int .i64 0]⟩) (l:=[(ty,c),(ty',c'),(ty2,ptV l)]) (t:=tabR) (rn:=r3 r r' r2) (args:=[.agg ⟨[.slice (some ⟨126,0,none⟩) n cap,.slice (some ⟨127,0,none⟩) n' cap',.int .i64 k,.slice (some ⟨128,0,none⟩) l.length cap2]⟩,.string ⟨⟨s⟩⟩]) hη FN.gs9 tabR_ok ht (rows3 hr hr' hr2 h1 h2 h3 hc.1 hc'.1 (ptV_bare l)) (fun i hi=>?_) (.cons (.agg rfl fun j y z e1 e2=>?_) (.cons (.string _) .nil)) (fun σ M r h=>.tuple rfl fun j y z e1 e2=>?_) (intV_row _).1 ((oRN_can (ty:=ty) (ty':=ty') (ty2:=ty2) (cap':=cap') (cap2:=cap2) hη hmix hc hc' hl hcap hcn hll hne h0 hs).mono fun v h hh=>⟨hh.1,by rw [hh.2];rfl,fun r a hr=>?_,?_⟩)
 ·have:=gs_lt
  unfold r3
  split
  ·omega
  ·split <;> omega
 ·match j,e1,e2 with
  | 0,e1,e2=>simp at e1 e2;subst e1;subst e2;exact .slice (σ:=sigR (r3 r r' r2)) (r:=126) _ _ (show 126<129 by decide)
  | 1,e1,e2=>simp at e1 e2;subst e1;subst e2;exact .slice (σ:=sigR (r3 r r' r2)) (r:=127) _ _ (show 127<129 by decide)
  | 2,e1,e2=>simp at e1 e2;subst e1;subst e2;exact .int _ _
  | 3,e1,e2=>simp at e1 e2;subst e1;subst e2;exact .slice (σ:=sigR (r3 r r' r2)) (r:=128) _ _ (show 128<129 by decide)
  | j+4,e1,e2=>simp at e1
 ·match j,e1,e2 with
  | 0,e1,e2=>simp at e1 e2;subst e1;subst e2;exact .slice _ _ h
  | 1,e1,e2=>simp at e1 e2;subst e1;subst e2;exact .int _ _
  | j+2,e1,e2=>simp at e1
 ·rw [hh.2,withRow_get]
  split
  ·rename_i e
   have hz:(heapTT tabR [(ty,c),(ty',c'),(ty2,ptV l)]).objs.get (heapTT tabR [(ty,c),(ty',c'),(ty2,ptV l)]).next=none:=by kernel_rfl
   rw [e,hz] at hr;cases hr
  ·exact hr
 ·rw [hh.2,withRow_get]
  exact if_pos rfl
theorem oRI_any(hη:OneCells η)(hmix:Tryd.prog.follows .mixedOrders=true){H:AH}{r r' r2 ty ty' ty2 n n' cap cap' cap2 own own' own2:Nat}{c c':List Value}{l:List (Int × Int)}{k:Int}{s:List UInt8}(ht:HasT H tabR)(hr:H.objs.get r=some (.cells ty c false own))(hr':H.objs.get r'=some (.cells ty' c' false own'))(hr2:H.objs.get r2=some (.cells ty2 (ptV l) false own2))(h1:r ≠ r')(h2:r ≠ r2)(h3:r' ≠ r2)(hlo:126≤r∧126≤r'∧126≤r2)(hc:RowS c 0 n)(hc':RowI c' 0 n')(hl:∀ i,i<n→(strAt c (0+i)).length≤1000000)(hcap:isU cap=false)(hcn:n≤cap)(hll:l.length≤100000)(hne:l ≠ [])(h0:ckR c 0 n c' 0 n' k l=0)(hs:s.length≤200) :
  CallSpec η Tryd.prog B 12 [.agg ⟨[.slice (some ⟨r,0,none⟩) n cap,.slice (some ⟨r',0,none⟩) n' cap',.int .i64 k,.slice (some ⟨r2,0,none⟩) l.length cap2]⟩,.string ⟨⟨s⟩⟩] H (KT.ite (Nat.beq (ordL l (hsK s)).length 1) (.ret (.tuple ⟨[.slice (some ⟨H.next,0,none⟩) 1 (capU 1),.int .i64 0]⟩) (withRow H 3 [.int .i64 (bknL l (hsK s))] false)) (.ret (.tuple ⟨[.slice (some ⟨H.next,0,none⟩) (ordL l (hsK s)).length (capU 1),.int .i64 0]⟩) (withRow H 3 (intV (ordL l (hsK s))) false))).sat:=by
 have k0:=oRN_any (B:=B) (cap':=cap') (cap2:=cap2) hη hmix ht hr hr' hr2 h1 h2 h3 hlo hc hc' hl hcap hcn hll hne h0 hs
 have hsort:l.Pairwise fun p q=>p.1≤q.1:=by rw [(ckR_zero h0).2];exact ptsS_sorted _ _ _ _ _ _
 obtain⟨⟨_,f1⟩,_⟩:=leave_facts (x:=0) (h:=hsK s) hne hsort rfl
 refine k0.mono fun v h hh=>?_
 cases hb:Nat.beq (ordL l (hsK s)).length 1 with
 | false=>exact .inr ⟨rfl,hh⟩
 | true=>
  refine .inl ⟨rfl,?_⟩
  have e1:(ordL l (hsK s)).length=1:=Nat.eq_of_beq_eq_true hb
  have e2:ordL l (hsK s)=[bknL l (hsK s)]:=by
   match ho:ordL l (hsK s),e1,f1 with
   | [a],_,f1=>simp at f1;rw [f1]
  obtain⟨q1,q2⟩:=hh
  rw [e1] at q1
  rw [e2] at q2
  exact⟨q1,q2⟩
end RG
end Go.Ev

/- Rings of backends: the weights of a ring that a backend leaves. -/
namespace Go.Ev
open Go Go.Proofs
namespace RG
def csum(c:List Value)(k:Int)(o:Nat):Nat→Nat→Int
 | 0,_=>0
 | m+1,i=>intAt c (o+i) * k+csum c k o m (i+1)
theorem mul_rng{a k:Int}(ha:0≤a∧a≤20)(hk:1≤k∧k≤100):0≤a * k∧a * k≤2000:=by
 have h1:a * k≤20 * 100:=Int.mul_le_mul ha.2 hk.2 (by omega) (by omega)
 have h2:0≤a * k:=Int.mul_nonneg ha.1 (by omega)
 omega
theorem cntF_sum{c:List Value}{k:Int}{o n:Nat}(hw:∀ i,i<n→0≤intAt c (o+i)∧intAt c (o+i)≤20)(hk:1≤k∧k≤100):∀ (m i:Nat) (a:Int),i+m≤n→0≤a→a+m * 2000≤1000000000→cntF c k o m i a=a+csum c k o m i
 | 0,_,a,_,_,_=>by unfold cntF csum;omega
 | m+1,i,a,hi,h0,h1=>by
  have hr:=mul_rng (hw i (by omega)) hk
  unfold cntF csum
  rw [wrap_small (n:=intAt c (o+i) * k) (by omega) (by omega),wrap_small (by omega) (by omega),cntF_sum hw hk m (i+1) _ (by omega) (by omega) (by omega)]
  omega
theorem csum_le{c d:List Value}{k:Int}{o p n:Nat}(hk:1≤k)(h:∀ i,i<n→intAt d (p+i)≤intAt c (o+i)):∀ m i,i+m≤n→csum d k p m i≤csum c k o m i
 | 0,_,_=>Int.le_refl _
 | m+1,i,hi=>by
  have h1:=csum_le hk h m (i+1) (by omega)
  have h2:intAt d (p+i) * k≤intAt c (o+i) * k:=Int.mul_le_mul_of_nonneg_right (h i (by omega)) (by omega)
  unfold csum
  omega
theorem chk_of{c:List Value}{o n:Nat}{c':List Value}{o' n':Nat}{k:Int}(h:ChkOk c o n c' o' n' k):chkI c o n c' o' n' k=0:=by
 obtain⟨h1,h2,h3,h4,h5,h6,h7,h8⟩:=h
 have hw:badW c' o' n'<0:=by
  unfold badW
  rw [fstIx_neg]
  intro j _ hj
  have:=h4 j (by omega)
  unfold noW
  rw [Bool.or_eq_false_iff,decide_eq_false_iff_not,decide_eq_false_iff_not];omega
 have hn:badN c o n<0:=by
  unfold badN
  rw [fstIx_neg]
  exact fun j _ hj=>h6 j (by omega)
 rw [← h3] at h8
 unfold chkI chkB
 rw [if_neg (by omega),if_neg (by omega),if_neg (by omega),if_neg (by omega),if_neg (by rw [h7];simp),if_neg (by omega)]
def zer(c':List Value)(n t:Nat):List Value:=splice (cutC c' 0 n) t [.int .i64 0]
theorem cutC_len{c:List Value}{n:Nat}(h:RowI c 0 n):(cutC c 0 n).length=n:=by
 have e:cutC c 0 n=List.take n (List.drop 0 c):=by unfold cutC cutI;rfl
 have:=h.len
 rw [e,List.drop_zero,List.length_take];omega
theorem zer_get{c:List Value}{n t:Nat}(h:RowI c 0 n)(ht:t<n)(j:Nat):(zer c n t)[j]? = if j=t then some (.int .i64 0) else(cutC c 0 n)[j]?:=by
 unfold zer
 rw [splice_get _ _ _ (by rw [cutC_len h];show t+1≤n;omega)]
 by_cases e:j=t
 ·subst e
  rw [if_pos ⟨Nat.le_refl _,by show j<j+1;omega⟩,if_pos rfl,Nat.sub_self];rfl
 ·rw [if_neg (by show ¬ (t≤j∧j<t+1);omega),if_neg e]
theorem zer_at{c:List Value}{n t:Nat}(h:RowI c 0 n)(ht:t<n){j:Nat}(hj:j<n):intAt (zer c n t) j=if j=t then 0 else intAt c j:=by
 have e:=zer_get h ht j
 by_cases q:j=t
 ·rw [if_pos q] at e ⊢
  unfold intAt;rw [e]
 ·rw [if_neg q] at e ⊢
  have e2:=cutC_get (c:=c) (o:=0) hj
  rw [Nat.zero_add] at e2
  exact intAt_of (e.trans e2)
theorem zer_row{c:List Value}{n t:Nat}(h:RowI c 0 n)(ht:t<n):RowI (zer c n t) 0 n:=by
 refine⟨?_,fun i hi=>?_⟩
 ·unfold zer splice
  have hb:=(cutC_row h).1
  rw [List.all_append,List.all_append,Bool.and_eq_true,Bool.and_eq_true]
  exact⟨⟨List.all_eq_true.2 fun v hv=>List.all_eq_true.1 hb v (List.mem_of_mem_take hv),rfl⟩,List.all_eq_true.2 fun v hv=>List.all_eq_true.1 hb v (List.mem_of_mem_drop hv)⟩
 ·rw [Nat.zero_add,zer_at h ht hi,zer_get h ht]
  by_cases e:i=t
  ·rw [if_pos e,if_pos e]
  ·rw [if_neg e,if_neg e]
   have e2:=cutC_get (c:=c) (o:=0) hi
   have:=h.2 i hi
   rw [Nat.zero_add] at e2 this
   rw [e2];exact this
theorem zer_chk{c c':List Value}{n t:Nat}{k:Int}(h':RowI c' 0 n)(hk:chkI c 0 n c' 0 n k=0)(ht:t<n):chkI c 0 n (zer c' n t) 0 n k=0:=by
 have k0:=chk_zero hk
 have hz:∀ i,i<n→intAt (zer c' n t) (0+i)=if i=t then 0 else intAt c' (0+i):=fun i hi=>by rw [Nat.zero_add];exact zer_at h' ht hi
 have hw:∀ i,i<n→0≤intAt (zer c' n t) (0+i)∧intAt (zer c' n t) (0+i)≤20:=fun i hi=>by
  rw [hz i hi]
  have:=k0.w i hi
  split <;> omega
 refine chk_of ⟨k0.n0,k0.n16,k0.eq,hw,k0.kk,k0.nm,k0.tw,?_⟩
 have hct:=k0.ct
 have n16:=k0.n16
 unfold cnt at hct ⊢
 rw [cntF_sum k0.w k0.kk n 0 0 (by omega) (by omega) (by omega)] at hct
 rw [cntF_sum hw k0.kk n 0 0 (by omega) (by omega) (by omega)]
 have:=csum_le (c:=c') (d:=zer c' n t) (o:=0) (p:=0) k0.kk.1 (fun i hi=>by
  rw [hz i hi]
  have:=k0.w i hi
  split <;> omega) n 0 (by omega)
 omega
theorem zer_pts{c c':List Value}{n t:Nat}{k:Int}(h':RowI c' 0 n)(ht:t<n):ptsS c 0 (zer c' n t) 0 k n=(ptsS c 0 c' 0 k n).filter (notB t):=
 ptsS_leave fun j hj=>zer_at h' ht hj
theorem ckR_rng(c:List Value)(o n:Nat)(c':List Value)(o' n':Nat)(k:Int)(l:List (Int × Int)):0≤ckR c o n c' o' n' k l:=by
 have h:0≤chkI c o n c' o' n' k:=by
  unfold chkI chkB
  repeat' split
  all_goals omega
 unfold ckR
 repeat' split
 all_goals omega
theorem ckN1_eq{c:List Value}{o n:Nat}{c':List Value}{o' n':Nat}{k:Int}{l:List (Int × Int)}(h:ckR c o n c' o' n' k l ≠ 0):ckR c o n c' o' n' k l=Int.ofNat (Nat.succ (ckN1 c o n c' o' n' k l)):=by
 have:=ckR_rng c o n c' o' n' k l
 unfold ckN1
 show _=((_+1:Nat):Int)
 omega
theorem tm_lt{xb:Int}{n:Nat}(bb:0≤xb∧xb<256)(hn:0<n):∃ t:Nat,t<n∧(IntKind.i64.wrap xb).tmod (n:Int)=(t:Int):=by
 rw [wrap_small (by omega) (by omega)]
 refine⟨(xb.tmod (n:Int)).toNat,?_,?_⟩
 ·have h1:=Int.tmod_lt_of_pos xb (b:=(n:Int)) (by omega)
  have h0:=Int.tmod_nonneg (n:Int) bb.1
  omega
 ·have h0:=Int.tmod_nonneg (n:Int) bb.1
  omega
end RG
end Go.Ev

namespace Go.Ev
open Go Go.Proofs
open Go.Ev.T renaming node → nN, nil → nZ
open Go.Proofs.Tryd (prog)
set_option maxRecDepth 100000
set_option maxHeartbeats 2000000
namespace LvNNN
noncomputable def bd:Code:=(Go.Proofs.Tryd.f3.body).getD .skip
noncomputable def H0(tb:List Value)(ty ty' ty2 ty3 n n' m nk cap cap' cap2 cap3:Nat)(c c' c2 c3:List Value)(kn xb:Int):AH:={ objs:=nS (AObj.cells 115 tb true 0) (eE (eE (eE (eE (eE (eE (lL (AObj.cells ty' c' false 0)) nZ) nZ) nZ) nZ) nZ) (eE (eE (eE (eE (eE (lL (AObj.cells ty3 c3 false 0)) nZ) nZ) nZ) nZ) nZ)) (eE (eE (eE (eE (eE (eE (lL (AObj.cells ty2 c2 false 0)) nZ) nZ) nZ) nZ) nZ) (eE nZ (eE nZ (eE nZ (eE nZ (lL (AObj.cells ty c false 0))))))),next:=130 }
noncomputable def E(tb:List Value)(ty ty' ty2 ty3 n n' m nk cap cap' cap2 cap3:Nat)(c c' c2 c3:List Value)(kn xb:Int):AS:=⟨⟨3,154,nS (Value.agg ⟨[sS 126 0 n cap,sS 127 0 n' cap',iI kn,sS 128 0 m cap2]⟩) (lL (uI xb)) (lL (sS 129 0 nk cap3)),[Item.code (codeAt bd [])],[],FrameMode.run,CallKind.normal,none⟩,[],H0 tb ty ty' ty2 ty3 n n' m nk cap cap' cap2 cap3 c c' c2 c3 kn xb⟩
noncomputable def S0(tb:List Value)(ty ty' ty2 ty3 n n' m nk cap cap' cap2 cap3:Nat)(c c' c2 c3:List Value)(kn xb i0:Int)(n0:Nat)(l0 l1 l2:List Value)(i1:Int)(d:Nat→Value):AS:=⟨⟨3,154,nS (d 0) (nS (d 1) (nS (pP 130 0) (nS (iI i0) (nS (d 15) (nS (d 31) (nS (d 63) (lL (d 127)) nZ) (lL (d 95))) (nS (d 47) (nS (d 79) (lL (d 143)) nZ) (lL (d 111)))) (nS (d 23) (nS (d 39) (nS (d 71) (lL (d 135)) nZ) (lL (d 103))) (nS (d 55) (nS (d 87) (lL (d 151)) nZ) (lL (d 119))))) (nS (d 11) (nS (d 19) (nS (d 35) (nS (d 67) (lL (d 131)) nZ) (lL (d 99))) (nS (d 51) (nS (d 83) (lL (d 147)) nZ) (lL (d 115)))) (nS (d 27) (nS (d 43) (nS (d 75) (lL (d 139)) nZ) (lL (d 107))) (nS (d 59) (lL (d 91)) (lL (d 123)))))) (nS (d 5) (nS (d 9) (nS (d 17) (nS (d 33) (nS (d 65) (lL (d 129)) nZ) (lL (d 97))) (nS (d 49) (nS (d 81) (lL (d 145)) nZ) (lL (d 113)))) (nS (d 25) (nS (d 41) (nS (d 73) (lL (d 137)) nZ) (lL (d 105))) (nS (d 57) (nS (d 89) (lL (d 153)) nZ) (lL (d 121))))) (nS (d 13) (nS (d 21) (nS (d 37) (nS (d 69) (lL (d 133)) nZ) (lL (d 101))) (nS (d 53) (nS (d 85) (lL (d 149)) nZ) (lL (d 117)))) (nS (d 29) (nS (d 45) (nS (d 77) (lL (d 141)) nZ) (lL (d 109))) (nS (d 61) (lL (d 93)) (lL (d 125))))))) (nS (sS 129 0 nk cap3) (nS (d 4) (nS (pP 131 0) (nS (d 16) (nS (d 32) (nS (d 64) (lL (d 128)) nZ) (lL (d 96))) (nS (d 48) (nS (d 80) (lL (d 144)) nZ) (lL (d 112)))) (nS (d 24) (nS (d 40) (nS (d 72) (lL (d 136)) nZ) (lL (d 104))) (nS (d 56) (nS (d 88) (lL (d 152)) nZ) (lL (d 120))))) (nS (d 12) (nS (d 20) (nS (d 36) (nS (d 68) (lL (d 132)) nZ) (lL (d 100))) (nS (d 52) (nS (d 84) (lL (d 148)) nZ) (lL (d 116)))) (nS (d 28) (nS (d 44) (nS (d 76) (lL (d 140)) nZ) (lL (d 108))) (nS (d 60) (lL (d 92)) (lL (d 124)))))) (nS (d 6) (nS (iI i1) (nS (d 18) (nS (d 34) (nS (d 66) (lL (d 130)) nZ) (lL (d 98))) (nS (d 50) (nS (d 82) (lL (d 146)) nZ) (lL (d 114)))) (nS (d 26) (nS (d 42) (nS (d 74) (lL (d 138)) nZ) (lL (d 106))) (nS (d 58) (lL (d 90)) (lL (d 122))))) (nS (d 14) (nS (d 22) (nS (d 38) (nS (d 70) (lL (d 134)) nZ) (lL (d 102))) (nS (d 54) (nS (d 86) (lL (d 150)) nZ) (lL (d 118)))) (nS (d 30) (nS (d 46) (nS (d 78) (lL (d 142)) nZ) (lL (d 110))) (nS (d 62) (lL (d 94)) (lL (d 126))))))),[Item.code (codeAt bd [1,1,1,1,1,0,1,0,0]),Item.inLoop (codeAt bd [1,1,1,1,1,0,1,0,0]),Item.inBlock 0,Item.code (codeAt bd [1,1,1,1,1,1])],[],FrameMode.run,CallKind.normal,none⟩,[],⟨nS (AObj.cells 115 tb true 0) (eE (eE (eE (eE (eE (eE (lL (AObj.cells ty' c' false 0)) nZ) nZ) nZ) nZ) (eE (eE (eE (eE (lL (AObj.cells 26 [sS 132 0 n n,sS 133 0 n' 9223372036854775809,iI kn,sS 134 0 n0 u2] true 2)) nZ) nZ) nZ) nZ)) (eE (eE (eE (eE (eE (lL (AObj.cells ty3 c3 false 0)) nZ) nZ) nZ) nZ) (eE (eE (eE (eE (lL (AObj.cells 3 l0 false 2)) nZ) nZ) nZ) nZ))) (eE (eE (eE (eE (eE (eE (lL (AObj.cells ty2 c2 false 0)) nZ) nZ) nZ) nZ) (eE (eE (eE (eE (lL (AObj.cells 9 l1 false 2)) nZ) nZ) nZ) nZ)) (eE (eE (eE (eE (eE (lL (AObj.cells 26 [sS 126 0 n cap,sS 127 0 n' cap',iI kn,sS 128 0 m cap2] true 2)) nZ) nZ) nZ) nZ) (eE (eE (eE (eE (lL (AObj.cells 55 l2 false 2)) nZ) nZ) nZ) (eE nZ (eE nZ (lL (AObj.cells ty c false 0))))))),135⟩⟩
theorem enter{η:Nat→Value}{B:Bd}(hη:OneCells η)(hmix:prog.follows .mixedOrders=true)(hreg:RegOk η prog B noNest){D:Value→AH→Prop}(tb:List Value)(ty ty' ty2 ty3 n n' m nk cap cap' cap2 cap3:Nat)(c c' c2 c3:List Value)(kn xb:Int)(h:let q17:=((IntKind.i64.wrap xb).tmod (↑n:Int));let q16:T AObj:=(eE nZ (eE nZ (lL (AObj.cells ty c false 0))));let q15:T AObj:=(eE (eE (eE (lL (AObj.cells ty2 c2 false 0)) nZ) nZ) nZ);let q14:T AObj:=(eE (eE (eE (lL (AObj.cells ty3 c3 false 0)) nZ) nZ) nZ);let q13:T AObj:=(eE (eE (eE (lL (AObj.cells ty' c' false 0)) nZ) nZ) nZ);let q12:=(RG.cutC (splice (RG.cutC c' 0 n') (0+q17.toNat * 1) [Value.int IntKind.i64 0]) 0 n');let q11:=(RG.srtP c 0 (splice (RG.cutC c' 0 n') (0+q17.toNat * 1) [Value.int IntKind.i64 0]) 0 kn n);let q10:=(RG.lenP c 0 (splice (RG.cutC c' 0 n') (0+q17.toNat * 1) [Value.int IntKind.i64 0]) 0 kn n);let q9:=(splice (RG.cutC c' (0:Nat) n') ((0:Nat)+q17.toNat * (1:Nat)) [Value.int IntKind.i64 (0:Int)]);let q8:W:=(.need (NoNames tb∧NoNames c∧NoNames c'∧NoNames c2∧NoNames c3∧True) (.done 3 (Value.bool false) (H0 tb ty ty' ty2 ty3 n n' m nk cap cap' cap2 cap3 c c' c2 c3 kn xb)));let q7:T AObj:=(eE (eE (eE (eE (lL (AObj.cells 26 [Value.slice none 0 0,Value.slice none 0 0,iI 0,Value.slice none 0 0] true 2)) nZ) nZ) nZ) nZ);let q6:T AObj:=(eE (eE (eE (eE (lL (AObj.cells 26 [sS 126 0 n cap,sS 127 0 n' cap',iI kn,sS 128 0 m cap2] true 2)) nZ) nZ) nZ) nZ);let q5:AH:=⟨nS (AObj.cells 115 tb true 0) (eE (eE (eE q13 nZ) nZ) (eE (eE q14 nZ) nZ)) (eE (eE (eE q15 nZ) nZ) (eE q6 (eE nZ q16))),131⟩;let q4:AH:=⟨nS (AObj.cells 115 tb true 0) (eE (eE (eE q13 nZ) q6) (eE (eE q14 nZ) nZ)) (eE (eE (eE q15 nZ) q7) (eE q6 (eE nZ q16))),133⟩;let q3:AH:=⟨nS (AObj.cells 115 tb true 0) (eE (eE (eE q13 nZ) q6) (eE (eE q14 nZ) (eE (eE (eE (eE (lL (AObj.cells 3 (splice (RG.cutC c' 0 n') (0+q17.toNat * 1) [iI 0]) false 2)) nZ) nZ) nZ) nZ))) (eE (eE (eE q15 nZ) q7) (eE q6 (eE (eE (eE (eE (lL (AObj.cells 26 [Value.slice none 0 0,Value.slice none 0 0,iI 0,Value.slice none 0 0] true 2)) nZ) nZ) nZ) q16))),135⟩;let q2:AH:=⟨nS (AObj.cells 115 tb true 0) (eE (eE (eE q13 (eE (eE (eE (lL (AObj.cells 9 (RG.strC c 0 n) false 2)) nZ) nZ) nZ)) q6) (eE (eE q14 nZ) (eE (eE (eE (eE (lL (AObj.cells 3 (splice (RG.cutC c' 0 n') (0+q17.toNat * 1) [iI 0]) false 2)) nZ) nZ) nZ) nZ))) (eE (eE (eE q15 nZ) q7) (eE q6 (eE (eE (eE (eE (lL (AObj.cells 26 [Value.slice none 0 0,Value.slice none 0 0,iI 0,Value.slice none 0 0] true 2)) nZ) nZ) nZ) q16))),136⟩;let q1:W:=(.call 9 [] (q5) (.ret (Value.bool true) (q5)) (.need (NoNames tb∧NoNames c∧NoNames c'∧NoNames c2∧NoNames c3∧True) (.done 3 (Value.bool true) (H0 tb ty ty' ty2 ty3 n n' m nk cap cap' cap2 cap3 c c' c2 c3 kn xb))));let q0:AH:=⟨nS (AObj.cells 115 tb true 0) (eE (eE (eE q13 (eE (eE (eE (lL (AObj.cells 9 (RG.strC c 0 n) false 2)) nZ) nZ) nZ)) q6) (eE (eE q14 nZ) (eE (eE (eE (eE (lL (AObj.cells 3 (splice (RG.cutC c' 0 n') (0+q17.toNat * 1) [iI 0]) false 2)) nZ) nZ) nZ) nZ))) (eE (eE (eE q15 (eE (eE (eE (lL (AObj.cells 3 q12 false 2)) nZ) nZ) nZ)) q7) (eE q6 (eE (eE (eE (eE (lL (AObj.cells 26 [Value.slice none 0 0,Value.slice none 0 0,iI 0,Value.slice none 0 0] true 2)) nZ) nZ) nZ) q16))),137⟩;W.holds η prog B 3 (fun kp_ st_=>RunD η prog B 3 (H0 tb ty ty' ty2 ty3 n n' m nk cap cap' cap2 cap3 c c' c2 c3 kn xb) kp_ st_ (QF prog 130 D)) D (.call 7 [Value.agg ⟨[Value.slice (some ⟨126,0,none⟩) n cap,Value.slice (some ⟨127,0,none⟩) n' cap',Value.int IntKind.i64 kn,Value.slice (some ⟨128,0,none⟩) m cap2]⟩] (q5) (.ret (Value.bool (RG.farB c n c' n' kn m)) (q5)) (.ite (RG.farB c n c' n' kn m) q1 (.ite (decide ((↑nk:Int) > (60:Int))) q1 (.call 8 [Value.agg ⟨[Value.slice (some ⟨126,0,none⟩) n cap,Value.slice (some ⟨127,0,none⟩) n' cap',Value.int IntKind.i64 kn,Value.slice (some ⟨128,0,none⟩) m cap2]⟩] (q5) (.ret (Value.int IntKind.i64 0) (q5)) (.ite ((↑n:Int) == (0:Int)) q1 (.need ((↑n:Int) ≠ (0:Int)) (.call 8 [Value.agg ⟨[Value.slice (some ⟨126,0,none⟩) n cap,Value.slice (some ⟨127,0,none⟩) n' cap',Value.int IntKind.i64 kn,Value.slice (some ⟨128,0,none⟩) m cap2]⟩] (q4) (.ret (Value.int IntKind.i64 0) (q4)) (.ite (decide ((IntKind.i64.wrap xb).tmod (↑n:Int)<(0:Int))) q8 (.ite (decide ((IntKind.i64.wrap xb).tmod (↑n:Int) ≥ (↑n:Int))) q8 (.call 19 [Value.slice (some ⟨127,0,none⟩) n' cap'] (q4) (.ret (Value.slice (some ⟨133,0,none⟩) n' 9223372036854775809) (⟨nS (AObj.cells 115 tb true 0) (eE (eE (eE q13 nZ) q6) (eE (eE q14 nZ) (eE (eE (eE (eE (lL (AObj.cells 3 (RG.cutC c' 0 n') false 2)) nZ) nZ) nZ) nZ))) (eE (eE (eE q15 nZ) q7) (eE q6 (eE nZ q16))),134⟩)) (.need ((0:Int)≤(IntKind.i64.wrap xb).tmod (↑n:Int)∧(IntKind.i64.wrap xb).tmod (↑n:Int)<(↑n':Int)) (.need ((0:Nat)+q17.toNat * (1:Nat)+(1:Nat)≤(RG.cutC c' (0:Nat) n').length) (.call 27 [Value.slice (some ⟨126,0,none⟩) n cap,Value.slice (some ⟨133,0,none⟩) n' 9223372036854775809,Value.int IntKind.i64 kn] (q3) (.ret (Value.int IntKind.i64 0) (q3)) (.call 28 [Value.slice (some ⟨126,0,none⟩) n cap] (q3) (.ret (Value.slice (some ⟨135,0,none⟩) n n) (q2)) (.call 19 [Value.slice (some ⟨133,0,none⟩) n' 9223372036854775809] (q2) (.ret (Value.slice (some ⟨136,0,none⟩) n' 9223372036854775809) (q0)) (.call 29 [Value.slice (some ⟨126,0,none⟩) n cap,Value.slice (some ⟨133,0,none⟩) n' 9223372036854775809,Value.int IntKind.i64 kn] (q0) (.ret (Value.slice (some ⟨137,0,none⟩) q10 9223372036854775810) (⟨nS (AObj.cells 115 tb true 0) (eE (eE (eE q13 (eE (eE (eE (lL (AObj.cells 9 (RG.strC c 0 n) false 2)) nZ) nZ) nZ)) q6) (eE (eE q14 (eE (eE (eE (lL (AObj.cells 55 q11 false 2)) nZ) nZ) nZ)) (eE (eE (eE (eE (lL (AObj.cells 3 (splice (RG.cutC c' 0 n') (0+q17.toNat * 1) [iI 0]) false 2)) nZ) nZ) nZ) nZ))) (eE (eE (eE q15 (eE (eE (eE (lL (AObj.cells 3 q12 false 2)) nZ) nZ) nZ)) q7) (eE q6 (eE (eE (eE (eE (lL (AObj.cells 26 [Value.slice none 0 0,Value.slice none 0 0,iI 0,Value.slice none 0 0] true 2)) nZ) nZ) nZ) q16))),138⟩)) (.ite ((↑n:Int) != (↑n:Int)) q8 (.need (NoNames tb∧NoNames c∧NoNames c'∧NoNames c2∧NoNames c3∧True∧True∧NoNames (RG.strC c (0:Nat) n)∧NoNames (RG.cutC q9 (0:Nat) n')∧NoNames (RG.srtP c (0:Nat) q9 (0:Nat) kn n)∧True) (.stop [2,3,7,8,10] (S0 tb ty ty' ty2 ty3 n n' m nk cap cap' cap2 cap3 c c' c2 c3 kn xb q17 q10 q12 (RG.strC c 0 n) q11 (0) (fun _=>undef)))))))))))))))))))))):CallSpec η prog B 3 [Value.agg ⟨[Value.slice (some ⟨126,0,none⟩) n cap,Value.slice (some ⟨127,0,none⟩) n' cap',Value.int IntKind.i64 kn,Value.slice (some ⟨128,0,none⟩) m cap2]⟩,Value.int IntKind.u8 xb,Value.slice (some ⟨129,0,none⟩) nk cap3] (H0 tb ty ty' ty2 ty3 n n' m nk cap cap' cap2 cap3 c c' c2 c3 kn xb) D:=by
 refine CallSpec.ofQF hη (CallSpec.enter (fr:=(E tb ty ty' ty2 ty3 n n' m nk cap cap' cap2 cap3 c c' c2 c3 kn xb).fr) (by kernel_rfl) ?_)
 exact walk_okT (h0:=H0 tb ty ty' ty2 ty3 n n' m nk cap cap' cap2 cap3 c c' c2 c3 kn xb) hη hmix hreg (.steps 9 <| .call kN <| .steps 1 <| .bit 19 (.steps 19 <| .call kN <| .steps 3 <| .done (some ⟨130,[],[(0,(0,true)),(126,(126,true)),(127,(127,true)),(128,(128,true)),(129,(129,true))]⟩)) (.steps 5 <| .bit 24 (.steps 14 <| .call kN <| .steps 3 <| .done (some ⟨130,[],[(0,(0,true)),(126,(126,true)),(127,(127,true)),(128,(128,true)),(129,(129,true))]⟩)) (.steps 1 <| .call kN <| .steps 9 <| .bit 34 (.steps 3 <| .call kN <| .steps 3 <| .done (some ⟨130,[],[(0,(0,true)),(126,(126,true)),(127,(127,true)),(128,(128,true)),(129,(129,true))]⟩)) (.steps 9 <| .op <| .steps 17 <| .call kN <| .steps 15 <| .bit 18 (.steps 44 <| .done (some ⟨130,[],[(0,(0,true)),(126,(126,true)),(127,(127,true)),(128,(128,true)),(129,(129,true))]⟩)) (.steps 7 <| .bit 24 (.steps 37 <| .done (some ⟨130,[],[(0,(0,true)),(126,(126,true)),(127,(127,true)),(128,(128,true)),(129,(129,true))]⟩)) (.steps 6 <| .call kN <| .steps 7 <| .op <| .op <| .steps 20 <| .call kN <| .steps 12 <| .call kN <| .steps 1 <| .call kN <| .steps 4 <| .call kN <| .steps 35 <| .bit 58 (.steps 6 <| .done (some ⟨130,[],[(0,(0,true)),(126,(126,true)),(127,(127,true)),(128,(128,true)),(129,(129,true))]⟩)) (.steps 9 <| .stop [2,3,7,8,10] (some ⟨135,[(130,130),(138,131),(135,132),(136,133),(137,134)],[(0,(0,true)),(126,(126,true)),(127,(127,true)),(128,(128,true)),(129,(129,true)),(130,(130,false)),(131,(138,false)),(132,(135,true)),(133,(136,true)),(134,(137,true))]⟩)))))))) (E tb ty ty' ty2 ty3 n n' m nk cap cap' cap2 cap3 c c' c2 c3 kn xb) (by kernel_rfl) h (by kernel_rfl)
theorem cut0{η:Nat→Value}{B:Bd}(hη:OneCells η)(hmix:prog.follows .mixedOrders=true)(hreg:RegOk η prog B noNest){D:Value→AH→Prop}(tb:List Value)(ty ty' ty2 ty3 n n' m nk cap cap' cap2 cap3:Nat)(c c' c2 c3:List Value)(kn xb i0:Int)(n0:Nat)(l0 l1 l2:List Value)(i1:Int)(h:let q21:=(RG.fnP c2 m (strAt c3 (0+i1.toNat * 1)));let q20:=(strAt c3 ((0:Nat)+i1.toNat * (1:Nat)));let q19:=(RG.ordC c2 m q20);let q18:=(RG.ordN c2 m q20);let q17:=(Value.string ⟨⟨strAt c3 ((0:Nat)+i1.toNat * (1:Nat))⟩⟩);let q16:=(RG.fnP c2 m q20 == i0);let q15:=(RG.fnP l2 n0 q20 == i0);let q14:=(q18.beq (1:Nat));let q13:T AObj:=(eE (eE (eE (lL (AObj.cells 3 l0 false 2)) nZ) nZ) nZ);let q12:=((↑q18:Int) == (0:Int));let q11:=((↑q18:Int).toNat - (1:Nat));let q10:T AObj:=(eE (eE (eE (eE (lL (AObj.cells ty3 c3 false 0)) nZ) nZ) nZ) nZ);let q9:=(Value.int IntKind.i64 (intAt q19 (0:Nat)));let q8:=(Value.tuple ⟨[Value.int IntKind.i64 (RG.fnP l2 n0 (strAt c3 (0+i1.toNat * 1))),Value.int IntKind.i64 0]⟩);let q7:W:=(.need (NoNames tb∧NoNames c∧NoNames c'∧NoNames c2∧NoNames c3∧True) (.done 3 (Value.bool false) (H0 tb ty ty' ty2 ty3 n n' m nk cap cap' cap2 cap3 c c' c2 c3 kn xb)));let q6:W:=(.need (NoNames tb∧NoNames c∧NoNames c'∧NoNames c2∧NoNames c3∧True∧True∧NoNames l1∧NoNames l0∧NoNames l2∧True) (.stop [2,3,7,8,10] (S0 tb ty ty' ty2 ty3 n n' m nk cap cap' cap2 cap3 c c' c2 c3 kn xb (i0) (n0) (l0) (l1) (l2) (IntKind.i64.wrap (i1+1)) (fun _=>undef))));let q5:T AObj:=(eE (eE (eE (eE (eE (lL (AObj.cells ty' c' false 0)) nZ) nZ) nZ) nZ) (eE (eE (eE (eE (lL (AObj.cells 26 [sS 132 0 n n,sS 133 0 n' 9223372036854775809,iI kn,sS 134 0 n0 u2] true 2)) nZ) nZ) nZ) nZ));let q4:T AObj:=(eE (eE (eE (eE (eE (eE (lL (AObj.cells ty2 c2 false 0)) nZ) nZ) nZ) nZ) (eE (eE (eE (eE (lL (AObj.cells 9 l1 false 2)) nZ) nZ) nZ) nZ)) (eE (eE (eE (eE (eE (lL (AObj.cells 26 [sS 126 0 n cap,sS 127 0 n' cap',iI kn,sS 128 0 m cap2] true 2)) nZ) nZ) nZ) nZ) (eE (eE (eE (eE (lL (AObj.cells 55 l2 false 2)) nZ) nZ) nZ) (eE nZ (eE nZ (lL (AObj.cells ty c false 0)))))));let q3:AH:=⟨nS (AObj.cells 115 tb true 0) (eE q5 (eE q10 (eE q13 nZ))) q4,146⟩;let q2:AH:=⟨nS (AObj.cells 115 tb true 0) (eE q5 (eE q10 (eE q13 (eE nZ (eE (eE (lL (AObj.cells 3 (RG.ordC c2 m (strAt c3 (0+i1.toNat * 1))) false 2)) nZ) nZ))))) q4,169⟩;let q1:AH:=⟨nS (AObj.cells 115 tb true 0) (eE q5 (eE q10 (eE q13 (eE nZ (eE (eE (lL (AObj.cells 3 [iI q21] false 2)) nZ) nZ))))) q4,169⟩;let q0:W:=(.call 9 [] (⟨nS (AObj.cells 115 tb true 0) (eE q5 (eE q10 (eE q13 nZ))) q4,135⟩) (.ret (Value.bool true) (⟨nS (AObj.cells 115 tb true 0) (eE q5 (eE q10 (eE q13 nZ))) q4,135⟩)) (.need (NoNames tb∧NoNames c∧NoNames c'∧NoNames c2∧NoNames c3∧True) (.done 3 (Value.bool true) (H0 tb ty ty' ty2 ty3 n n' m nk cap cap' cap2 cap3 c c' c2 c3 kn xb))));W.holds η prog B 3 (fun kp_ st_=>RunD η prog B 3 (H0 tb ty ty' ty2 ty3 n n' m nk cap cap' cap2 cap3 c c' c2 c3 kn xb) kp_ st_ (QF prog 130 D)) D (.ite (decide (i1<(↑nk:Int))) (.need ((0:Int)≤i1∧i1<(↑nk:Int)) (.need (c3[(0:Nat)+i1.toNat * (1:Nat)]? = some q17) (.ite (decide ((↑q20.length:Int) > (200:Int))) q0 (.need ((0:Int)≤i1∧i1<(↑nk:Int)) (.need (c3[(0:Nat)+i1.toNat * (1:Nat)]? = some q17) (.call 11 [Value.agg ⟨[Value.slice (some ⟨126,0,none⟩) n cap,Value.slice (some ⟨127,0,none⟩) n' cap',Value.int IntKind.i64 kn,Value.slice (some ⟨128,0,none⟩) m cap2]⟩,Value.string ⟨⟨strAt c3 (0+i1.toNat * 1)⟩⟩] (q3) (.ret (Value.tuple ⟨[Value.int IntKind.i64 q21,Value.int IntKind.i64 0]⟩) (q3)) (.need ((0:Int)≤i1∧i1<(↑nk:Int)) (.need (c3[(0:Nat)+i1.toNat * (1:Nat)]? = some q17) (.call 12 [Value.agg ⟨[Value.slice (some ⟨126,0,none⟩) n cap,Value.slice (some ⟨127,0,none⟩) n' cap',Value.int IntKind.i64 kn,Value.slice (some ⟨128,0,none⟩) m cap2]⟩,Value.string ⟨⟨strAt c3 (0+i1.toNat * 1)⟩⟩] (⟨nS (AObj.cells 115 tb true 0) (eE q5 (eE q10 (eE q13 nZ))) q4,157⟩) (.ite q14 (.ret (Value.tuple ⟨[Value.slice (some ⟨157,0,none⟩) 1 9223372036854775809,Value.int IntKind.i64 0]⟩) (⟨nS (AObj.cells 115 tb true 0) (eE q5 (eE q10 (eE q13 (eE nZ (eE (eE (lL (AObj.cells 3 [iI q21] false 2)) nZ) nZ))))) q4,158⟩)) (.ret (Value.tuple ⟨[Value.slice (some ⟨157,0,none⟩) (RG.ordN c2 m (strAt c3 (0+i1.toNat * 1))) 9223372036854775809,Value.int IntKind.i64 0]⟩) (⟨nS (AObj.cells 115 tb true 0) (eE q5 (eE q10 (eE q13 (eE nZ (eE (eE (lL (AObj.cells 3 (RG.ordC c2 m (strAt c3 (0+i1.toNat * 1))) false 2)) nZ) nZ))))) q4,158⟩))) (.ite q14 (.need ((0:Int)≤i1∧i1<(↑nk:Int)) (.need (c3[(0:Nat)+i1.toNat * (1:Nat)]? = some q17) (.call 11 [Value.agg ⟨[Value.slice (some ⟨132,0,none⟩) n n,Value.slice (some ⟨133,0,none⟩) n' 9223372036854775809,Value.int IntKind.i64 kn,Value.slice (some ⟨134,0,none⟩) n0 9223372036854775810]⟩,Value.string ⟨⟨strAt c3 (0+i1.toNat * 1)⟩⟩] (q1) (.ret q8 (q1)) (.ite (RG.fnP c2 m q20 != RG.fnP c2 m q20) q7 (.ite q16 q7 (.ite (RG.fnP l2 n0 q20 != RG.fnP c2 m q20) q7 (.ite q15 q7 q6))))))) (.need ((0:Int)≤i1∧i1<(↑nk:Int)) (.need (c3[(0:Nat)+i1.toNat * (1:Nat)]? = some q17) (.call 11 [Value.agg ⟨[Value.slice (some ⟨132,0,none⟩) n n,Value.slice (some ⟨133,0,none⟩) n' 9223372036854775809,Value.int IntKind.i64 kn,Value.slice (some ⟨134,0,none⟩) n0 9223372036854775810]⟩,Value.string ⟨⟨strAt c3 (0+i1.toNat * 1)⟩⟩] (q2) (.ret q8 (q2)) (.ite q12 q7 (.need ((0:Int)≤(0:Int)∧(0:Int)<(↑q18:Int)) (.need (q19[(0:Nat)]? = some q9) (.ite (intAt q19 (0:Nat) != RG.fnP c2 m q20) q7 (.ite q16 (.need ((0:Int)≤(1:Int)∧(1:Int)≤(↑q18:Int)∧(9223372036854775809:Nat)=(9223372036854775809:Nat)∧(1:Nat) ≠ (0:Nat)∧(↑q18:Int)≤(↑q18:Int)∧((1:Int)<(↑q18:Int)∨(1:Int)=(0:Int))) (.ite ((↑q11:Int) == (0:Int)) q7 (.ite (decide ((↑q11:Int) > (0:Int))) (.need ((0:Int)≤(0:Int)∧(0:Int)<(↑q11:Int)) (.need (q19[(1:Nat)]? = some (Value.int IntKind.i64 (intAt q19 (1:Nat)))) (.ite (RG.fnP l2 n0 q20 != intAt q19 (1:Nat)) q7 (.ite q15 q7 q6)))) q6))) (.ite q12 q7 (.ite (decide ((↑q18:Int) > (0:Int))) (.need ((0:Int)≤(0:Int)∧(0:Int)<(↑q18:Int)) (.need (q19[(0:Nat)]? = some q9) (.ite (RG.fnP l2 n0 q20 != intAt q19 (0:Nat)) q7 (.ite q15 q7 q6)))) q6)))))))))))))))))))) q0)):RunD η prog B 3 (H0 tb ty ty' ty2 ty3 n n' m nk cap cap' cap2 cap3 c c' c2 c3 kn xb) [2,3,7,8,10] (S0 tb ty ty' ty2 ty3 n n' m nk cap cap' cap2 cap3 c c' c2 c3 kn xb i0 n0 l0 l1 l2 i1 fun _=>undef) (QF prog 130 D):=by
 refine RunD.intro (S0 tb ty ty' ty2 ty3 n n' m nk cap cap' cap2 cap3 c c' c2 c3 kn xb i0 n0 l0 l1 l2 i1) (fun d=>⟨rfl,rfl,rfl⟩) (fun d=>tmOk_get (by kernel_rfl)) (fun d=>by kernel_rfl) (fun d=>?_)
 exact walk_okT (h0:=H0 tb ty ty' ty2 ty3 n n' m nk cap cap' cap2 cap3 c c' c2 c3 kn xb) hη hmix hreg (.steps 8 <| .bit 62 (.steps 9 <| .op <| .op <| .steps 3 <| .bit 70 (.steps 3 <| .call kN <| .steps 3 <| .done (some ⟨130,[],[(0,(0,true)),(126,(126,true)),(127,(127,true)),(128,(128,true)),(129,(129,true))]⟩)) (.steps 3 <| .reg <| .steps 3 <| .op <| .op <| .call kN <| .steps 5 <| .reg <| .steps 1 <| .reg <| .steps 3 <| .op <| .op <| .call kN <| .both (.steps 5 <| .reg <| .steps 1 <| .reg <| .steps 3 <| .op <| .op <| .call kN <| .steps 5 <| .reg <| .steps 23 <| .bit 117 (.steps 6 <| .done (some ⟨130,[],[(0,(0,true)),(126,(126,true)),(127,(127,true)),(128,(128,true)),(129,(129,true))]⟩)) (.steps 17 <| .bit 122 (.steps 43 <| .done (some ⟨130,[],[(0,(0,true)),(126,(126,true)),(127,(127,true)),(128,(128,true)),(129,(129,true))]⟩)) (.steps 26 <| .bit 146 (.steps 13 <| .done (some ⟨130,[],[(0,(0,true)),(126,(126,true)),(127,(127,true)),(128,(128,true)),(129,(129,true))]⟩)) (.steps 7 <| .bit 152 (.steps 6 <| .done (some ⟨130,[],[(0,(0,true)),(126,(126,true)),(127,(127,true)),(128,(128,true)),(129,(129,true))]⟩)) (.steps 9 <| .stop [2,3,7,8,10] (some ⟨135,[(130,130),(131,131),(132,132),(133,133),(134,134)],[(0,(0,true)),(126,(126,true)),(127,(127,true)),(128,(128,true)),(129,(129,true)),(130,(130,false)),(131,(131,false)),(132,(132,true)),(133,(133,true)),(134,(134,true))]⟩)))))) (.steps 5 <| .reg <| .steps 1 <| .reg <| .steps 3 <| .op <| .op <| .call kN <| .steps 5 <| .reg <| .steps 14 <| .bit 109 (.steps 15 <| .done (some ⟨130,[],[(0,(0,true)),(126,(126,true)),(127,(127,true)),(128,(128,true)),(129,(129,true))]⟩)) (.steps 1 <| .op <| .op <| .steps 6 <| .bit 117 (.steps 6 <| .done (some ⟨130,[],[(0,(0,true)),(126,(126,true)),(127,(127,true)),(128,(128,true)),(129,(129,true))]⟩)) (.steps 17 <| .bit 122 (.steps 3 <| .op <| .steps 8 <| .bit 128 (.steps 31 <| .done (some ⟨130,[],[(0,(0,true)),(126,(126,true)),(127,(127,true)),(128,(128,true)),(129,(129,true))]⟩)) (.steps 8 <| .bit 136 (.steps 5 <| .op <| .op <| .steps 3 <| .bit 146 (.steps 13 <| .done (some ⟨130,[],[(0,(0,true)),(126,(126,true)),(127,(127,true)),(128,(128,true)),(129,(129,true))]⟩)) (.steps 7 <| .bit 152 (.steps 6 <| .done (some ⟨130,[],[(0,(0,true)),(126,(126,true)),(127,(127,true)),(128,(128,true)),(129,(129,true))]⟩)) (.steps 9 <| .stop [2,3,7,8,10] (some ⟨135,[(130,130),(131,131),(132,132),(133,133),(134,134)],[(0,(0,true)),(126,(126,true)),(127,(127,true)),(128,(128,true)),(129,(129,true)),(130,(130,false)),(131,(131,false)),(132,(132,true)),(133,(133,true)),(134,(134,true))]⟩)))) (.steps 26 <| .stop [2,3,7,8,10] (some ⟨135,[(130,130),(131,131),(132,132),(133,133),(134,134)],[(0,(0,true)),(126,(126,true)),(127,(127,true)),(128,(128,true)),(129,(129,true)),(130,(130,false)),(131,(131,false)),(132,(132,true)),(133,(133,true)),(134,(134,true))]⟩)))) (.steps 8 <| .bit 128 (.steps 31 <| .done (some ⟨130,[],[(0,(0,true)),(126,(126,true)),(127,(127,true)),(128,(128,true)),(129,(129,true))]⟩)) (.steps 8 <| .bit 136 (.steps 5 <| .op <| .op <| .steps 3 <| .bit 146 (.steps 13 <| .done (some ⟨130,[],[(0,(0,true)),(126,(126,true)),(127,(127,true)),(128,(128,true)),(129,(129,true))]⟩)) (.steps 7 <| .bit 152 (.steps 6 <| .done (some ⟨130,[],[(0,(0,true)),(126,(126,true)),(127,(127,true)),(128,(128,true)),(129,(129,true))]⟩)) (.steps 9 <| .stop [2,3,7,8,10] (some ⟨135,[(130,130),(131,131),(132,132),(133,133),(134,134)],[(0,(0,true)),(126,(126,true)),(127,(127,true)),(128,(128,true)),(129,(129,true)),(130,(130,false)),(131,(131,false)),(132,(132,true)),(133,(133,true)),(134,(134,true))]⟩)))) (.steps 26 <| .stop [2,3,7,8,10] (some ⟨135,[(130,130),(131,131),(132,132),(133,133),(134,134)],[(0,(0,true)),(126,(126,true)),(127,(127,true)),(128,(128,true)),(129,(129,true)),(130,(130,false)),(131,(131,false)),(132,(132,true)),(133,(133,true)),(134,(134,true))]⟩))))))))) (.steps 4 <| .call kN <| .steps 3 <| .done (some ⟨130,[],[(0,(0,true)),(126,(126,true)),(127,(127,true)),(128,(128,true)),(129,(129,true))]⟩))) (S0 tb ty ty' ty2 ty3 n n' m nk cap cap' cap2 cap3 c c' c2 c3 kn xb i0 n0 l0 l1 l2 i1 d) (by kernel_rfl) h (by kernel_rfl)
end LvNNN
namespace LvNNE
noncomputable def bd:Code:=(Go.Proofs.Tryd.f3.body).getD .skip
noncomputable def H0(tb:List Value)(ty ty' ty2 n n' m cap cap' cap2:Nat)(c c' c2:List Value)(kn xb:Int):AH:={ objs:=nS (AObj.cells 115 tb true 0) (eE (eE (eE (eE (eE (eE (lL (AObj.cells ty' c' false 0)) nZ) nZ) nZ) nZ) nZ) nZ) (eE (eE (eE (eE (eE (eE (lL (AObj.cells ty2 c2 false 0)) nZ) nZ) nZ) nZ) nZ) (eE nZ (eE nZ (eE nZ (eE nZ (lL (AObj.cells ty c false 0))))))),next:=129 }
noncomputable def E(tb:List Value)(ty ty' ty2 n n' m cap cap' cap2:Nat)(c c' c2:List Value)(kn xb:Int):AS:=⟨⟨3,154,nS (Value.agg ⟨[sS 126 0 n cap,sS 127 0 n' cap',iI kn,sS 128 0 m cap2]⟩) (lL (uI xb)) (lL (Value.slice none 0 9223372036854775808)),[Item.code (codeAt bd [])],[],FrameMode.run,CallKind.normal,none⟩,[],H0 tb ty ty' ty2 n n' m cap cap' cap2 c c' c2 kn xb⟩
noncomputable def S0(tb:List Value)(ty ty' ty2 n n' m cap cap' cap2:Nat)(c c' c2:List Value)(kn xb i0:Int)(l0 l1 l2:List Value)(n0:Nat)(d:Nat→Value):AS:=⟨⟨3,154,nS (d 0) (nS (d 1) (nS (pP 129 0) (nS (iI i0) (nS (d 15) (nS (d 31) (nS (d 63) (lL (d 127)) nZ) (lL (d 95))) (nS (d 47) (nS (d 79) (lL (d 143)) nZ) (lL (d 111)))) (nS (d 23) (nS (d 39) (nS (d 71) (lL (d 135)) nZ) (lL (d 103))) (nS (d 55) (nS (d 87) (lL (d 151)) nZ) (lL (d 119))))) (nS (d 11) (nS (d 19) (nS (d 35) (nS (d 67) (lL (d 131)) nZ) (lL (d 99))) (nS (d 51) (nS (d 83) (lL (d 147)) nZ) (lL (d 115)))) (nS (d 27) (nS (d 43) (nS (d 75) (lL (d 139)) nZ) (lL (d 107))) (nS (d 59) (lL (d 91)) (lL (d 123)))))) (nS (d 5) (nS (d 9) (nS (d 17) (nS (d 33) (nS (d 65) (lL (d 129)) nZ) (lL (d 97))) (nS (d 49) (nS (d 81) (lL (d 145)) nZ) (lL (d 113)))) (nS (d 25) (nS (d 41) (nS (d 73) (lL (d 137)) nZ) (lL (d 105))) (nS (d 57) (nS (d 89) (lL (d 153)) nZ) (lL (d 121))))) (nS (d 13) (nS (d 21) (nS (d 37) (nS (d 69) (lL (d 133)) nZ) (lL (d 101))) (nS (d 53) (nS (d 85) (lL (d 149)) nZ) (lL (d 117)))) (nS (d 29) (nS (d 45) (nS (d 77) (lL (d 141)) nZ) (lL (d 109))) (nS (d 61) (lL (d 93)) (lL (d 125))))))) (nS (Value.slice none 0 9223372036854775808) (nS (d 4) (nS (pP 130 0) (nS (d 16) (nS (d 32) (nS (d 64) (lL (d 128)) nZ) (lL (d 96))) (nS (d 48) (nS (d 80) (lL (d 144)) nZ) (lL (d 112)))) (nS (d 24) (nS (d 40) (nS (d 72) (lL (d 136)) nZ) (lL (d 104))) (nS (d 56) (nS (d 88) (lL (d 152)) nZ) (lL (d 120))))) (nS (d 12) (nS (d 20) (nS (d 36) (nS (d 68) (lL (d 132)) nZ) (lL (d 100))) (nS (d 52) (nS (d 84) (lL (d 148)) nZ) (lL (d 116)))) (nS (d 28) (nS (d 44) (nS (d 76) (lL (d 140)) nZ) (lL (d 108))) (nS (d 60) (lL (d 92)) (lL (d 124)))))) (nS (d 6) (nS (iI 0) (nS (d 18) (nS (d 34) (nS (d 66) (lL (d 130)) nZ) (lL (d 98))) (nS (d 50) (nS (d 82) (lL (d 146)) nZ) (lL (d 114)))) (nS (d 26) (nS (d 42) (nS (d 74) (lL (d 138)) nZ) (lL (d 106))) (nS (d 58) (lL (d 90)) (lL (d 122))))) (nS (d 14) (nS (d 22) (nS (d 38) (nS (d 70) (lL (d 134)) nZ) (lL (d 102))) (nS (d 54) (nS (d 86) (lL (d 150)) nZ) (lL (d 118)))) (nS (d 30) (nS (d 46) (nS (d 78) (lL (d 142)) nZ) (lL (d 110))) (nS (d 62) (lL (d 94)) (lL (d 126))))))),[Item.code (codeAt bd [1,1,1,1,1,0,1,0,0]),Item.inLoop (codeAt bd [1,1,1,1,1,0,1,0,0]),Item.inBlock 0,Item.code (codeAt bd [1,1,1,1,1,1])],[],FrameMode.run,CallKind.normal,none⟩,[],⟨nS (AObj.cells 115 tb true 0) (eE (eE (eE (eE (eE (eE (lL (AObj.cells ty' c' false 0)) nZ) nZ) nZ) nZ) (eE (eE (eE (eE (lL (AObj.cells 9 l0 false 2)) nZ) nZ) nZ) nZ)) (eE (eE (eE (eE (eE (lL (AObj.cells 26 [sS 126 0 n cap,sS 127 0 n' cap',iI kn,sS 128 0 m cap2] true 2)) nZ) nZ) nZ) nZ) (eE (eE (eE (eE (lL (AObj.cells 55 l1 false 2)) nZ) nZ) nZ) nZ))) (eE (eE (eE (eE (eE (eE (lL (AObj.cells ty2 c2 false 0)) nZ) nZ) nZ) nZ) (eE (eE (eE (eE (lL (AObj.cells 3 l2 false 2)) nZ) nZ) nZ) nZ)) (eE (eE (eE (eE (eE (lL (AObj.cells 26 [sS 131 0 n n,sS 132 0 n' 9223372036854775809,iI kn,sS 133 0 n0 u2] true 2)) nZ) nZ) nZ) nZ) (eE nZ (eE nZ (eE nZ (lL (AObj.cells ty c false 0))))))),134⟩⟩
theorem enter{η:Nat→Value}{B:Bd}(hη:OneCells η)(hmix:prog.follows .mixedOrders=true)(hreg:RegOk η prog B noNest){D:Value→AH→Prop}(tb:List Value)(ty ty' ty2 n n' m cap cap' cap2:Nat)(c c' c2:List Value)(kn xb:Int)(h:let q16:=((IntKind.i64.wrap xb).tmod (↑n:Int));let q15:T AObj:=(eE nZ (eE nZ (lL (AObj.cells ty c false 0))));let q14:T AObj:=(eE (eE (eE (lL (AObj.cells ty2 c2 false 0)) nZ) nZ) nZ);let q13:T AObj:=(eE (eE (eE (lL (AObj.cells ty' c' false 0)) nZ) nZ) nZ);let q12:=(RG.cutC (splice (RG.cutC c' 0 n') (0+q16.toNat * 1) [Value.int IntKind.i64 0]) 0 n');let q11:=(RG.srtP c 0 (splice (RG.cutC c' 0 n') (0+q16.toNat * 1) [Value.int IntKind.i64 0]) 0 kn n);let q10:=(RG.lenP c 0 (splice (RG.cutC c' 0 n') (0+q16.toNat * 1) [Value.int IntKind.i64 0]) 0 kn n);let q9:=(splice (RG.cutC c' (0:Nat) n') ((0:Nat)+q16.toNat * (1:Nat)) [Value.int IntKind.i64 (0:Int)]);let q8:W:=(.need (NoNames tb∧NoNames c∧NoNames c'∧NoNames c2∧True) (.done 3 (Value.bool false) (H0 tb ty ty' ty2 n n' m cap cap' cap2 c c' c2 kn xb)));let q7:T AObj:=(eE (eE (eE (eE (lL (AObj.cells 26 [Value.slice none 0 0,Value.slice none 0 0,iI 0,Value.slice none 0 0] true 2)) nZ) nZ) nZ) nZ);let q6:T AObj:=(eE (eE (eE (eE (lL (AObj.cells 26 [sS 126 0 n cap,sS 127 0 n' cap',iI kn,sS 128 0 m cap2] true 2)) nZ) nZ) nZ) nZ);let q5:AH:=⟨nS (AObj.cells 115 tb true 0) (eE (eE (eE q13 nZ) nZ) (eE q6 nZ)) (eE (eE (eE q14 nZ) nZ) (eE nZ (eE nZ q15))),130⟩;let q4:AH:=⟨nS (AObj.cells 115 tb true 0) (eE (eE (eE q13 nZ) q7) (eE q6 nZ)) (eE (eE (eE q14 nZ) nZ) (eE q6 (eE nZ q15))),132⟩;let q3:AH:=⟨nS (AObj.cells 115 tb true 0) (eE (eE (eE q13 nZ) q7) (eE q6 q7)) (eE (eE (eE q14 nZ) (eE (eE (eE (eE (lL (AObj.cells 3 (splice (RG.cutC c' 0 n') (0+q16.toNat * 1) [iI 0]) false 2)) nZ) nZ) nZ) nZ)) (eE q6 (eE nZ q15))),134⟩;let q2:W:=(.call 9 [] (q5) (.ret (Value.bool true) (q5)) (.need (NoNames tb∧NoNames c∧NoNames c'∧NoNames c2∧True) (.done 3 (Value.bool true) (H0 tb ty ty' ty2 n n' m cap cap' cap2 c c' c2 kn xb))));let q1:AH:=⟨nS (AObj.cells 115 tb true 0) (eE (eE (eE q13 nZ) q7) (eE q6 q7)) (eE (eE (eE q14 nZ) (eE (eE (eE (eE (lL (AObj.cells 3 (splice (RG.cutC c' 0 n') (0+q16.toNat * 1) [iI 0]) false 2)) nZ) nZ) nZ) nZ)) (eE q6 (eE (eE (eE (eE (lL (AObj.cells 9 (RG.strC c 0 n) false 2)) nZ) nZ) nZ) q15))),135⟩;let q0:AH:=⟨nS (AObj.cells 115 tb true 0) (eE (eE (eE q13 (eE (eE (eE (lL (AObj.cells 3 q12 false 2)) nZ) nZ) nZ)) q7) (eE q6 q7)) (eE (eE (eE q14 nZ) (eE (eE (eE (eE (lL (AObj.cells 3 (splice (RG.cutC c' 0 n') (0+q16.toNat * 1) [iI 0]) false 2)) nZ) nZ) nZ) nZ)) (eE q6 (eE (eE (eE (eE (lL (AObj.cells 9 (RG.strC c 0 n) false 2)) nZ) nZ) nZ) q15))),136⟩;W.holds η prog B 3 (fun kp_ st_=>RunD η prog B 3 (H0 tb ty ty' ty2 n n' m cap cap' cap2 c c' c2 kn xb) kp_ st_ (QF prog 129 D)) D (.call 7 [Value.agg ⟨[Value.slice (some ⟨126,0,none⟩) n cap,Value.slice (some ⟨127,0,none⟩) n' cap',Value.int IntKind.i64 kn,Value.slice (some ⟨128,0,none⟩) m cap2]⟩] (q5) (.ret (Value.bool (RG.farB c n c' n' kn m)) (q5)) (.ite (RG.farB c n c' n' kn m) q2 (.call 8 [Value.agg ⟨[Value.slice (some ⟨126,0,none⟩) n cap,Value.slice (some ⟨127,0,none⟩) n' cap',Value.int IntKind.i64 kn,Value.slice (some ⟨128,0,none⟩) m cap2]⟩] (q5) (.ret (Value.int IntKind.i64 0) (q5)) (.ite ((↑n:Int) == (0:Int)) q2 (.need ((↑n:Int) ≠ (0:Int)) (.call 8 [Value.agg ⟨[Value.slice (some ⟨126,0,none⟩) n cap,Value.slice (some ⟨127,0,none⟩) n' cap',Value.int IntKind.i64 kn,Value.slice (some ⟨128,0,none⟩) m cap2]⟩] (q4) (.ret (Value.int IntKind.i64 0) (q4)) (.ite (decide ((IntKind.i64.wrap xb).tmod (↑n:Int)<(0:Int))) q8 (.ite (decide ((IntKind.i64.wrap xb).tmod (↑n:Int) ≥ (↑n:Int))) q8 (.call 19 [Value.slice (some ⟨127,0,none⟩) n' cap'] (q4) (.ret (Value.slice (some ⟨132,0,none⟩) n' 9223372036854775809) (⟨nS (AObj.cells 115 tb true 0) (eE (eE (eE q13 nZ) q7) (eE q6 nZ)) (eE (eE (eE q14 nZ) (eE (eE (eE (eE (lL (AObj.cells 3 (RG.cutC c' 0 n') false 2)) nZ) nZ) nZ) nZ)) (eE q6 (eE nZ q15))),133⟩)) (.need ((0:Int)≤(IntKind.i64.wrap xb).tmod (↑n:Int)∧(IntKind.i64.wrap xb).tmod (↑n:Int)<(↑n':Int)) (.need ((0:Nat)+q16.toNat * (1:Nat)+(1:Nat)≤(RG.cutC c' (0:Nat) n').length) (.call 27 [Value.slice (some ⟨126,0,none⟩) n cap,Value.slice (some ⟨132,0,none⟩) n' 9223372036854775809,Value.int IntKind.i64 kn] (q3) (.ret (Value.int IntKind.i64 0) (q3)) (.call 28 [Value.slice (some ⟨126,0,none⟩) n cap] (q3) (.ret (Value.slice (some ⟨134,0,none⟩) n n) (q1)) (.call 19 [Value.slice (some ⟨132,0,none⟩) n' 9223372036854775809] (q1) (.ret (Value.slice (some ⟨135,0,none⟩) n' 9223372036854775809) (q0)) (.call 29 [Value.slice (some ⟨126,0,none⟩) n cap,Value.slice (some ⟨132,0,none⟩) n' 9223372036854775809,Value.int IntKind.i64 kn] (q0) (.ret (Value.slice (some ⟨136,0,none⟩) q10 9223372036854775810) (⟨nS (AObj.cells 115 tb true 0) (eE (eE (eE q13 (eE (eE (eE (lL (AObj.cells 3 q12 false 2)) nZ) nZ) nZ)) q7) (eE q6 q7)) (eE (eE (eE q14 (eE (eE (eE (lL (AObj.cells 55 q11 false 2)) nZ) nZ) nZ)) (eE (eE (eE (eE (lL (AObj.cells 3 (splice (RG.cutC c' 0 n') (0+q16.toNat * 1) [iI 0]) false 2)) nZ) nZ) nZ) nZ)) (eE q6 (eE (eE (eE (eE (lL (AObj.cells 9 (RG.strC c 0 n) false 2)) nZ) nZ) nZ) q15))),137⟩)) (.ite ((↑n:Int) != (↑n:Int)) q8 (.need (NoNames tb∧NoNames c∧NoNames c'∧NoNames c2∧True∧True∧NoNames (RG.strC c (0:Nat) n)∧NoNames (RG.cutC q9 (0:Nat) n')∧NoNames (RG.srtP c (0:Nat) q9 (0:Nat) kn n)∧True) (.stop [2,3,7,8,10] (S0 tb ty ty' ty2 n n' m cap cap' cap2 c c' c2 kn xb q16 (RG.strC c 0 n) q11 q12 q10 (fun _=>undef))))))))))))))))))))):CallSpec η prog B 3 [Value.agg ⟨[Value.slice (some ⟨126,0,none⟩) n cap,Value.slice (some ⟨127,0,none⟩) n' cap',Value.int IntKind.i64 kn,Value.slice (some ⟨128,0,none⟩) m cap2]⟩,Value.int IntKind.u8 xb,Value.slice none 0 9223372036854775808] (H0 tb ty ty' ty2 n n' m cap cap' cap2 c c' c2 kn xb) D:=by
 refine CallSpec.ofQF hη (CallSpec.enter (fr:=(E tb ty ty' ty2 n n' m cap cap' cap2 c c' c2 kn xb).fr) (by kernel_rfl) ?_)
 exact walk_okT (h0:=H0 tb ty ty' ty2 n n' m cap cap' cap2 c c' c2 kn xb) hη hmix hreg (.steps 9 <| .call kN <| .steps 1 <| .bit 19 (.steps 19 <| .call kN <| .steps 3 <| .done (some ⟨129,[],[(0,(0,true)),(126,(126,true)),(127,(127,true)),(128,(128,true))]⟩)) (.steps 6 <| .call kN <| .steps 9 <| .bit 34 (.steps 3 <| .call kN <| .steps 3 <| .done (some ⟨129,[],[(0,(0,true)),(126,(126,true)),(127,(127,true)),(128,(128,true))]⟩)) (.steps 9 <| .op <| .steps 17 <| .call kN <| .steps 15 <| .bit 18 (.steps 44 <| .done (some ⟨129,[],[(0,(0,true)),(126,(126,true)),(127,(127,true)),(128,(128,true))]⟩)) (.steps 7 <| .bit 24 (.steps 37 <| .done (some ⟨129,[],[(0,(0,true)),(126,(126,true)),(127,(127,true)),(128,(128,true))]⟩)) (.steps 6 <| .call kN <| .steps 7 <| .op <| .op <| .steps 20 <| .call kN <| .steps 12 <| .call kN <| .steps 1 <| .call kN <| .steps 4 <| .call kN <| .steps 35 <| .bit 58 (.steps 6 <| .done (some ⟨129,[],[(0,(0,true)),(126,(126,true)),(127,(127,true)),(128,(128,true))]⟩)) (.steps 9 <| .stop [2,3,7,8,10] (some ⟨134,[(129,129),(137,130),(134,131),(135,132),(136,133)],[(0,(0,true)),(126,(126,true)),(127,(127,true)),(128,(128,true)),(129,(129,false)),(130,(137,false)),(131,(134,true)),(132,(135,true)),(133,(136,true))]⟩))))))) (E tb ty ty' ty2 n n' m cap cap' cap2 c c' c2 kn xb) (by kernel_rfl) h (by kernel_rfl)
theorem cut0{η:Nat→Value}{B:Bd}(hη:OneCells η)(hmix:prog.follows .mixedOrders=true)(hreg:RegOk η prog B noNest){D:Value→AH→Prop}(tb:List Value)(ty ty' ty2 n n' m cap cap' cap2:Nat)(c c' c2:List Value)(kn xb i0:Int)(l0 l1 l2:List Value)(n0:Nat)(h:let q0:AH:=⟨nS (AObj.cells 115 tb true 0) (eE (eE (eE (eE (eE (eE (lL (AObj.cells ty' c' false 0)) nZ) nZ) nZ) nZ) (eE (eE (eE (eE (lL (AObj.cells 9 l0 false 2)) nZ) nZ) nZ) nZ)) (eE (eE (eE (eE (eE (lL (AObj.cells 26 [sS 126 0 n cap,sS 127 0 n' cap',iI kn,sS 128 0 m cap2] true 2)) nZ) nZ) nZ) nZ) (eE (eE (eE (eE (lL (AObj.cells 55 l1 false 2)) nZ) nZ) nZ) nZ))) (eE (eE (eE (eE (eE (eE (lL (AObj.cells ty2 c2 false 0)) nZ) nZ) nZ) nZ) (eE (eE (eE (eE (lL (AObj.cells 3 l2 false 2)) nZ) nZ) nZ) nZ)) (eE (eE (eE (eE (eE (lL (AObj.cells 26 [sS 131 0 n n,sS 132 0 n' 9223372036854775809,iI kn,sS 133 0 n0 u2] true 2)) nZ) nZ) nZ) nZ) (eE nZ (eE nZ (eE nZ (lL (AObj.cells ty c false 0))))))),134⟩;W.holds η prog B 3 (fun kp_ st_=>RunD η prog B 3 (H0 tb ty ty' ty2 n n' m cap cap' cap2 c c' c2 kn xb) kp_ st_ (QF prog 129 D)) D (.call 9 [] (q0) (.ret (Value.bool true) (q0)) (.need (NoNames tb∧NoNames c∧NoNames c'∧NoNames c2∧True) (.done 3 (Value.bool true) (H0 tb ty ty' ty2 n n' m cap cap' cap2 c c' c2 kn xb))))):RunD η prog B 3 (H0 tb ty ty' ty2 n n' m cap cap' cap2 c c' c2 kn xb) [2,3,7,8,10] (S0 tb ty ty' ty2 n n' m cap cap' cap2 c c' c2 kn xb i0 l0 l1 l2 n0 fun _=>undef) (QF prog 129 D):=by
 refine RunD.intro (S0 tb ty ty' ty2 n n' m cap cap' cap2 c c' c2 kn xb i0 l0 l1 l2 n0) (fun d=>⟨rfl,rfl,rfl⟩) (fun d=>tmOk_get (by kernel_rfl)) (fun d=>by kernel_rfl) (fun d=>?_)
 exact walk_okT (h0:=H0 tb ty ty' ty2 n n' m cap cap' cap2 c c' c2 kn xb) hη hmix hreg (.steps 12 <| .call kN <| .steps 3 <| .done (some ⟨129,[],[(0,(0,true)),(126,(126,true)),(127,(127,true)),(128,(128,true))]⟩)) (S0 tb ty ty' ty2 n n' m cap cap' cap2 c c' c2 kn xb i0 l0 l1 l2 n0 d) (by kernel_rfl) h (by kernel_rfl)
end LvNNE
namespace LvNEN
noncomputable def bd:Code:=(Go.Proofs.Tryd.f3.body).getD .skip
noncomputable def H0(tb:List Value)(ty ty' ty2 ty3 n n' m nk cap cap' cap2 cap3:Nat)(c c' c2 c3:List Value)(kn xb:Int):AH:={ objs:=nS (AObj.cells 115 tb true 0) (eE (eE (eE (eE (eE (eE (lL (AObj.cells ty' c' false 0)) nZ) nZ) nZ) nZ) nZ) (eE (eE (eE (eE (eE (lL (AObj.cells ty3 c3 false 0)) nZ) nZ) nZ) nZ) nZ)) (eE (eE (eE (eE (eE (eE (lL (AObj.cells ty2 c2 false 0)) nZ) nZ) nZ) nZ) nZ) (eE nZ (eE nZ (eE nZ (eE nZ (lL (AObj.cells ty c false 0))))))),next:=130 }
noncomputable def E(tb:List Value)(ty ty' ty2 ty3 n n' m nk cap cap' cap2 cap3:Nat)(c c' c2 c3:List Value)(kn xb:Int):AS:=⟨⟨3,154,nS (Value.agg ⟨[sS 126 0 n cap,sS 127 0 n' cap',iI kn,sS 128 0 m cap2]⟩) (lL (uI xb)) (lL (sS 129 0 nk cap3)),[Item.code (codeAt bd [])],[],FrameMode.run,CallKind.normal,none⟩,[],H0 tb ty ty' ty2 ty3 n n' m nk cap cap' cap2 cap3 c c' c2 c3 kn xb⟩
noncomputable def S0(tb:List Value)(ty ty' ty2 ty3 n n' m nk cap cap' cap2 cap3:Nat)(c c' c2 c3:List Value)(kn xb i0:Int)(l0 l1:List Value)(i1:Int)(d:Nat→Value):AS:=⟨⟨3,154,nS (d 0) (nS (d 1) (nS (pP 130 0) (nS (iI i0) (nS (d 15) (nS (d 31) (nS (d 63) (lL (d 127)) nZ) (lL (d 95))) (nS (d 47) (nS (d 79) (lL (d 143)) nZ) (lL (d 111)))) (nS (d 23) (nS (d 39) (nS (d 71) (lL (d 135)) nZ) (lL (d 103))) (nS (d 55) (nS (d 87) (lL (d 151)) nZ) (lL (d 119))))) (nS (d 11) (nS (d 19) (nS (d 35) (nS (d 67) (lL (d 131)) nZ) (lL (d 99))) (nS (d 51) (nS (d 83) (lL (d 147)) nZ) (lL (d 115)))) (nS (d 27) (nS (d 43) (nS (d 75) (lL (d 139)) nZ) (lL (d 107))) (nS (d 59) (lL (d 91)) (lL (d 123)))))) (nS (d 5) (nS (d 9) (nS (d 17) (nS (d 33) (nS (d 65) (lL (d 129)) nZ) (lL (d 97))) (nS (d 49) (nS (d 81) (lL (d 145)) nZ) (lL (d 113)))) (nS (d 25) (nS (d 41) (nS (d 73) (lL (d 137)) nZ) (lL (d 105))) (nS (d 57) (nS (d 89) (lL (d 153)) nZ) (lL (d 121))))) (nS (d 13) (nS (d 21) (nS (d 37) (nS (d 69) (lL (d 133)) nZ) (lL (d 101))) (nS (d 53) (nS (d 85) (lL (d 149)) nZ) (lL (d 117)))) (nS (d 29) (nS (d 45) (nS (d 77) (lL (d 141)) nZ) (lL (d 109))) (nS (d 61) (lL (d 93)) (lL (d 125))))))) (nS (sS 129 0 nk cap3) (nS (d 4) (nS (pP 131 0) (nS (d 16) (nS (d 32) (nS (d 64) (lL (d 128)) nZ) (lL (d 96))) (nS (d 48) (nS (d 80) (lL (d 144)) nZ) (lL (d 112)))) (nS (d 24) (nS (d 40) (nS (d 72) (lL (d 136)) nZ) (lL (d 104))) (nS (d 56) (nS (d 88) (lL (d 152)) nZ) (lL (d 120))))) (nS (d 12) (nS (d 20) (nS (d 36) (nS (d 68) (lL (d 132)) nZ) (lL (d 100))) (nS (d 52) (nS (d 84) (lL (d 148)) nZ) (lL (d 116)))) (nS (d 28) (nS (d 44) (nS (d 76) (lL (d 140)) nZ) (lL (d 108))) (nS (d 60) (lL (d 92)) (lL (d 124)))))) (nS (d 6) (nS (iI i1) (nS (d 18) (nS (d 34) (nS (d 66) (lL (d 130)) nZ) (lL (d 98))) (nS (d 50) (nS (d 82) (lL (d 146)) nZ) (lL (d 114)))) (nS (d 26) (nS (d 42) (nS (d 74) (lL (d 138)) nZ) (lL (d 106))) (nS (d 58) (lL (d 90)) (lL (d 122))))) (nS (d 14) (nS (d 22) (nS (d 38) (nS (d 70) (lL (d 134)) nZ) (lL (d 102))) (nS (d 54) (nS (d 86) (lL (d 150)) nZ) (lL (d 118)))) (nS (d 30) (nS (d 46) (nS (d 78) (lL (d 142)) nZ) (lL (d 110))) (nS (d 62) (lL (d 94)) (lL (d 126))))))),[Item.code (codeAt bd [1,1,1,1,1,0,1,0,0]),Item.inLoop (codeAt bd [1,1,1,1,1,0,1,0,0]),Item.inBlock 0,Item.code (codeAt bd [1,1,1,1,1,1])],[],FrameMode.run,CallKind.normal,none⟩,[],⟨nS (AObj.cells 115 tb true 0) (eE (eE (eE (eE (eE (eE (lL (AObj.cells ty' c' false 0)) nZ) nZ) nZ) nZ) (eE (eE (eE (eE (lL (AObj.cells 26 [sS 132 0 n n,sS 133 0 n' 9223372036854775809,iI kn,Value.slice none 0 0] true 2)) nZ) nZ) nZ) nZ)) (eE (eE (eE (eE (eE (lL (AObj.cells ty3 c3 false 0)) nZ) nZ) nZ) nZ) (eE (eE (eE (eE (lL (AObj.cells 3 l0 false 2)) nZ) nZ) nZ) nZ))) (eE (eE (eE (eE (eE (eE (lL (AObj.cells ty2 c2 false 0)) nZ) nZ) nZ) nZ) (eE (eE (eE (eE (lL (AObj.cells 9 l1 false 2)) nZ) nZ) nZ) nZ)) (eE (eE (eE (eE (eE (lL (AObj.cells 26 [sS 126 0 n cap,sS 127 0 n' cap',iI kn,sS 128 0 m cap2] true 2)) nZ) nZ) nZ) nZ) (eE nZ (eE nZ (eE nZ (lL (AObj.cells ty c false 0))))))),134⟩⟩
theorem enter{η:Nat→Value}{B:Bd}(hη:OneCells η)(hmix:prog.follows .mixedOrders=true)(hreg:RegOk η prog B noNest){D:Value→AH→Prop}(tb:List Value)(ty ty' ty2 ty3 n n' m nk cap cap' cap2 cap3:Nat)(c c' c2 c3:List Value)(kn xb:Int)(h:let q8:=((IntKind.i64.wrap xb).tmod (↑n:Int));let q7:W:=(.need (NoNames tb∧NoNames c∧NoNames c'∧NoNames c2∧NoNames c3∧True) (.done 3 (Value.bool false) (H0 tb ty ty' ty2 ty3 n n' m nk cap cap' cap2 cap3 c c' c2 c3 kn xb)));let q6:T AObj:=(eE (eE (eE (eE (lL (AObj.cells 26 [sS 126 0 n cap,sS 127 0 n' cap',iI kn,sS 128 0 m cap2] true 2)) nZ) nZ) nZ) nZ);let q5:AH:=⟨nS (AObj.cells 115 tb true 0) (eE (eE (eE (eE (eE (eE (lL (AObj.cells ty' c' false 0)) nZ) nZ) nZ) nZ) nZ) (eE (eE (eE (eE (eE (lL (AObj.cells ty3 c3 false 0)) nZ) nZ) nZ) nZ) nZ)) (eE (eE (eE (eE (eE (eE (lL (AObj.cells ty2 c2 false 0)) nZ) nZ) nZ) nZ) nZ) (eE q6 (eE nZ (eE nZ (eE nZ (lL (AObj.cells ty c false 0))))))),131⟩;let q4:AH:=⟨nS (AObj.cells 115 tb true 0) (eE (eE (eE (eE (eE (eE (lL (AObj.cells ty' c' false 0)) nZ) nZ) nZ) nZ) q6) (eE (eE (eE (eE (eE (lL (AObj.cells ty3 c3 false 0)) nZ) nZ) nZ) nZ) nZ)) (eE (eE (eE (eE (eE (eE (lL (AObj.cells ty2 c2 false 0)) nZ) nZ) nZ) nZ) (eE (eE (eE (eE (lL (AObj.cells 26 [Value.slice none 0 0,Value.slice none 0 0,iI 0,Value.slice none 0 0] true 2)) nZ) nZ) nZ) nZ)) (eE q6 (eE nZ (eE nZ (eE nZ (lL (AObj.cells ty c false 0))))))),133⟩;let q3:AH:=⟨nS (AObj.cells 115 tb true 0) (eE (eE (eE (eE (eE (eE (lL (AObj.cells ty' c' false 0)) nZ) nZ) nZ) nZ) q6) (eE (eE (eE (eE (eE (lL (AObj.cells ty3 c3 false 0)) nZ) nZ) nZ) nZ) (eE (eE (eE (eE (lL (AObj.cells 3 (splice (RG.cutC c' 0 n') (0+q8.toNat * 1) [iI 0]) false 2)) nZ) nZ) nZ) nZ))) (eE (eE (eE (eE (eE (eE (lL (AObj.cells ty2 c2 false 0)) nZ) nZ) nZ) nZ) (eE (eE (eE (eE (lL (AObj.cells 26 [Value.slice none 0 0,Value.slice none 0 0,iI 0,Value.slice none 0 0] true 2)) nZ) nZ) nZ) nZ)) (eE q6 (eE (eE (eE (eE (lL (AObj.cells 26 [Value.slice none 0 0,Value.slice none 0 0,iI 0,Value.slice none 0 0] true 2)) nZ) nZ) nZ) (eE nZ (eE nZ (lL (AObj.cells ty c false 0))))))),135⟩;let q2:AH:=⟨nS (AObj.cells 115 tb true 0) (eE (eE (eE (eE (eE (eE (lL (AObj.cells ty' c' false 0)) nZ) nZ) nZ) (eE (eE (eE (lL (AObj.cells 9 (RG.strC c 0 n) false 2)) nZ) nZ) nZ)) q6) (eE (eE (eE (eE (eE (lL (AObj.cells ty3 c3 false 0)) nZ) nZ) nZ) nZ) (eE (eE (eE (eE (lL (AObj.cells 3 (splice (RG.cutC c' 0 n') (0+q8.toNat * 1) [iI 0]) false 2)) nZ) nZ) nZ) nZ))) (eE (eE (eE (eE (eE (eE (lL (AObj.cells ty2 c2 false 0)) nZ) nZ) nZ) nZ) (eE (eE (eE (eE (lL (AObj.cells 26 [Value.slice none 0 0,Value.slice none 0 0,iI 0,Value.slice none 0 0] true 2)) nZ) nZ) nZ) nZ)) (eE q6 (eE (eE (eE (eE (lL (AObj.cells 26 [Value.slice none 0 0,Value.slice none 0 0,iI 0,Value.slice none 0 0] true 2)) nZ) nZ) nZ) (eE nZ (eE nZ (lL (AObj.cells ty c false 0))))))),136⟩;let q1:W:=(.call 9 [] (q5) (.ret (Value.bool true) (q5)) (.need (NoNames tb∧NoNames c∧NoNames c'∧NoNames c2∧NoNames c3∧True) (.done 3 (Value.bool true) (H0 tb ty ty' ty2 ty3 n n' m nk cap cap' cap2 cap3 c c' c2 c3 kn xb))));let q0:AH:=⟨nS (AObj.cells 115 tb true 0) (eE (eE (eE (eE (eE (eE (lL (AObj.cells ty' c' false 0)) nZ) nZ) nZ) (eE (eE (eE (lL (AObj.cells 9 (RG.strC c 0 n) false 2)) nZ) nZ) nZ)) q6) (eE (eE (eE (eE (eE (lL (AObj.cells ty3 c3 false 0)) nZ) nZ) nZ) nZ) (eE (eE (eE (eE (lL (AObj.cells 3 (splice (RG.cutC c' 0 n') (0+q8.toNat * 1) [iI 0]) false 2)) nZ) nZ) nZ) nZ))) (eE (eE (eE (eE (eE (eE (lL (AObj.cells ty2 c2 false 0)) nZ) nZ) nZ) (eE (eE (eE (lL (AObj.cells 3 (RG.cutC (splice (RG.cutC c' 0 n') (0+q8.toNat * 1) [iI 0]) 0 n') false 2)) nZ) nZ) nZ)) (eE (eE (eE (eE (lL (AObj.cells 26 [Value.slice none 0 0,Value.slice none 0 0,iI 0,Value.slice none 0 0] true 2)) nZ) nZ) nZ) nZ)) (eE q6 (eE (eE (eE (eE (lL (AObj.cells 26 [Value.slice none 0 0,Value.slice none 0 0,iI 0,Value.slice none 0 0] true 2)) nZ) nZ) nZ) (eE nZ (eE nZ (lL (AObj.cells ty c false 0))))))),137⟩;W.holds η prog B 3 (fun kp_ st_=>RunD η prog B 3 (H0 tb ty ty' ty2 ty3 n n' m nk cap cap' cap2 cap3 c c' c2 c3 kn xb) kp_ st_ (QF prog 130 D)) D (.call 7 [Value.agg ⟨[Value.slice (some ⟨126,0,none⟩) n cap,Value.slice (some ⟨127,0,none⟩) n' cap',Value.int IntKind.i64 kn,Value.slice (some ⟨128,0,none⟩) m cap2]⟩] (q5) (.ret (Value.bool (RG.farB c n c' n' kn m)) (q5)) (.ite (RG.farB c n c' n' kn m) q1 (.ite (decide ((↑nk:Int) > (60:Int))) q1 (.call 8 [Value.agg ⟨[Value.slice (some ⟨126,0,none⟩) n cap,Value.slice (some ⟨127,0,none⟩) n' cap',Value.int IntKind.i64 kn,Value.slice (some ⟨128,0,none⟩) m cap2]⟩] (q5) (.ret (Value.int IntKind.i64 0) (q5)) (.ite ((↑n:Int) == (0:Int)) q1 (.need ((↑n:Int) ≠ (0:Int)) (.call 8 [Value.agg ⟨[Value.slice (some ⟨126,0,none⟩) n cap,Value.slice (some ⟨127,0,none⟩) n' cap',Value.int IntKind.i64 kn,Value.slice (some ⟨128,0,none⟩) m cap2]⟩] (q4) (.ret (Value.int IntKind.i64 0) (q4)) (.ite (decide ((IntKind.i64.wrap xb).tmod (↑n:Int)<(0:Int))) q7 (.ite (decide ((IntKind.i64.wrap xb).tmod (↑n:Int) ≥ (↑n:Int))) q7 (.call 19 [Value.slice (some ⟨127,0,none⟩) n' cap'] (q4) (.ret (Value.slice (some ⟨133,0,none⟩) n' 9223372036854775809) (⟨nS (AObj.cells 115 tb true 0) (eE (eE (eE (eE (eE (eE (lL (AObj.cells ty' c' false 0)) nZ) nZ) nZ) nZ) q6) (eE (eE (eE (eE (eE (lL (AObj.cells ty3 c3 false 0)) nZ) nZ) nZ) nZ) (eE (eE (eE (eE (lL (AObj.cells 3 (RG.cutC c' 0 n') false 2)) nZ) nZ) nZ) nZ))) (eE (eE (eE (eE (eE (eE (lL (AObj.cells ty2 c2 false 0)) nZ) nZ) nZ) nZ) (eE (eE (eE (eE (lL (AObj.cells 26 [Value.slice none 0 0,Value.slice none 0 0,iI 0,Value.slice none 0 0] true 2)) nZ) nZ) nZ) nZ)) (eE q6 (eE nZ (eE nZ (eE nZ (lL (AObj.cells ty c false 0))))))),134⟩)) (.need ((0:Int)≤(IntKind.i64.wrap xb).tmod (↑n:Int)∧(IntKind.i64.wrap xb).tmod (↑n:Int)<(↑n':Int)) (.need ((0:Nat)+q8.toNat * (1:Nat)+(1:Nat)≤(RG.cutC c' (0:Nat) n').length) (.call 27 [Value.slice (some ⟨126,0,none⟩) n cap,Value.slice (some ⟨133,0,none⟩) n' 9223372036854775809,Value.int IntKind.i64 kn] (q3) (.ret (Value.int IntKind.i64 0) (q3)) (.call 28 [Value.slice (some ⟨126,0,none⟩) n cap] (q3) (.ret (Value.slice (some ⟨135,0,none⟩) n n) (q2)) (.call 19 [Value.slice (some ⟨133,0,none⟩) n' 9223372036854775809] (q2) (.ret (Value.slice (some ⟨136,0,none⟩) n' 9223372036854775809) (q0)) (.call 29 [Value.slice (some ⟨126,0,none⟩) n cap,Value.slice (some ⟨133,0,none⟩) n' 9223372036854775809,Value.int IntKind.i64 kn] (q0) (.ret (Value.slice none 0 0) (q0)) (.ite ((↑n:Int) != (↑n:Int)) q7 (.need (NoNames tb∧NoNames c∧NoNames c'∧NoNames c2∧NoNames c3∧True∧True∧NoNames (RG.strC c (0:Nat) n)∧NoNames (RG.cutC (splice (RG.cutC c' (0:Nat) n') ((0:Nat)+q8.toNat * (1:Nat)) [Value.int IntKind.i64 (0:Int)]) (0:Nat) n')∧True) (.stop [2,3,7,8,10] (S0 tb ty ty' ty2 ty3 n n' m nk cap cap' cap2 cap3 c c' c2 c3 kn xb q8 (RG.cutC (splice (RG.cutC c' 0 n') (0+q8.toNat * 1) [Value.int IntKind.i64 0]) 0 n') (RG.strC c 0 n) (0) (fun _=>undef)))))))))))))))))))))):CallSpec η prog B 3 [Value.agg ⟨[Value.slice (some ⟨126,0,none⟩) n cap,Value.slice (some ⟨127,0,none⟩) n' cap',Value.int IntKind.i64 kn,Value.slice (some ⟨128,0,none⟩) m cap2]⟩,Value.int IntKind.u8 xb,Value.slice (some ⟨129,0,none⟩) nk cap3] (H0 tb ty ty' ty2 ty3 n n' m nk cap cap' cap2 cap3 c c' c2 c3 kn xb) D:=by
 refine CallSpec.ofQF hη (CallSpec.enter (fr:=(E tb ty ty' ty2 ty3 n n' m nk cap cap' cap2 cap3 c c' c2 c3 kn xb).fr) (by kernel_rfl) ?_)
 exact walk_okT (h0:=H0 tb ty ty' ty2 ty3 n n' m nk cap cap' cap2 cap3 c c' c2 c3 kn xb) hη hmix hreg (.steps 9 <| .call kN <| .steps 1 <| .bit 19 (.steps 19 <| .call kN <| .steps 3 <| .done (some ⟨130,[],[(0,(0,true)),(126,(126,true)),(127,(127,true)),(128,(128,true)),(129,(129,true))]⟩)) (.steps 5 <| .bit 24 (.steps 14 <| .call kN <| .steps 3 <| .done (some ⟨130,[],[(0,(0,true)),(126,(126,true)),(127,(127,true)),(128,(128,true)),(129,(129,true))]⟩)) (.steps 1 <| .call kN <| .steps 9 <| .bit 34 (.steps 3 <| .call kN <| .steps 3 <| .done (some ⟨130,[],[(0,(0,true)),(126,(126,true)),(127,(127,true)),(128,(128,true)),(129,(129,true))]⟩)) (.steps 9 <| .op <| .steps 17 <| .call kN <| .steps 15 <| .bit 18 (.steps 44 <| .done (some ⟨130,[],[(0,(0,true)),(126,(126,true)),(127,(127,true)),(128,(128,true)),(129,(129,true))]⟩)) (.steps 7 <| .bit 24 (.steps 37 <| .done (some ⟨130,[],[(0,(0,true)),(126,(126,true)),(127,(127,true)),(128,(128,true)),(129,(129,true))]⟩)) (.steps 6 <| .call kN <| .steps 7 <| .op <| .op <| .steps 20 <| .call kN <| .steps 12 <| .call kN <| .steps 1 <| .call kN <| .steps 4 <| .call kN <| .steps 35 <| .bit 58 (.steps 6 <| .done (some ⟨130,[],[(0,(0,true)),(126,(126,true)),(127,(127,true)),(128,(128,true)),(129,(129,true))]⟩)) (.steps 9 <| .stop [2,3,7,8,10] (some ⟨134,[(130,130),(137,131),(135,132),(136,133)],[(0,(0,true)),(126,(126,true)),(127,(127,true)),(128,(128,true)),(129,(129,true)),(130,(130,false)),(131,(137,false)),(132,(135,true)),(133,(136,true))]⟩)))))))) (E tb ty ty' ty2 ty3 n n' m nk cap cap' cap2 cap3 c c' c2 c3 kn xb) (by kernel_rfl) h (by kernel_rfl)
theorem cut0{η:Nat→Value}{B:Bd}(hη:OneCells η)(hmix:prog.follows .mixedOrders=true)(hreg:RegOk η prog B noNest){D:Value→AH→Prop}(tb:List Value)(ty ty' ty2 ty3 n n' m nk cap cap' cap2 cap3:Nat)(c c' c2 c3:List Value)(kn xb i0:Int)(l0 l1:List Value)(i1:Int)(h:let q20:=(RG.fnP c2 m (strAt c3 (0+i1.toNat * 1)));let q19:=(strAt c3 ((0:Nat)+i1.toNat * (1:Nat)));let q18:=(RG.ordC c2 m q19);let q17:=(RG.ordN c2 m q19);let q16:=(Value.string ⟨⟨strAt c3 ((0:Nat)+i1.toNat * (1:Nat))⟩⟩);let q15:=(RG.fnP c2 m q19 == i0);let q14:=(Value.tuple ⟨[Value.int IntKind.i64 0,Value.int IntKind.i64 4]⟩);let q13:=(q17.beq (1:Nat));let q12:T AObj:=(eE (eE (eE (lL (AObj.cells 9 l1 false 2)) nZ) nZ) nZ);let q11:=((↑q17:Int) == (0:Int));let q10:=(decide ((↑q17:Int) > (0:Int)));let q9:T AObj:=(eE (eE (eE (eE (lL (AObj.cells ty2 c2 false 0)) nZ) nZ) nZ) nZ);let q8:=(decide ((↑((↑q17:Int).toNat - (1:Nat)):Int) > (0:Int)));let q7:W:=(.need (NoNames tb∧NoNames c∧NoNames c'∧NoNames c2∧NoNames c3∧True) (.done 3 (Value.bool false) (H0 tb ty ty' ty2 ty3 n n' m nk cap cap' cap2 cap3 c c' c2 c3 kn xb)));let q6:W:=(.need (NoNames tb∧NoNames c∧NoNames c'∧NoNames c2∧NoNames c3∧True∧True∧NoNames l1∧NoNames l0∧True) (.stop [2,3,7,8,10] (S0 tb ty ty' ty2 ty3 n n' m nk cap cap' cap2 cap3 c c' c2 c3 kn xb (i0) (l0) (l1) (IntKind.i64.wrap (i1+1)) (fun _=>undef))));let q5:T AObj:=(eE (eE (eE (eE (eE (lL (AObj.cells 26 [sS 126 0 n cap,sS 127 0 n' cap',iI kn,sS 128 0 m cap2] true 2)) nZ) nZ) nZ) nZ) (eE nZ (eE nZ (eE nZ (lL (AObj.cells ty c false 0))))));let q4:T AObj:=(eE (eE (eE (eE (eE (eE (lL (AObj.cells ty' c' false 0)) nZ) nZ) nZ) nZ) (eE (eE (eE (eE (lL (AObj.cells 26 [sS 132 0 n n,sS 133 0 n' 9223372036854775809,iI kn,Value.slice none 0 0] true 2)) nZ) nZ) nZ) nZ)) (eE (eE (eE (eE (eE (lL (AObj.cells ty3 c3 false 0)) nZ) nZ) nZ) nZ) (eE (eE (eE (eE (lL (AObj.cells 3 l0 false 2)) nZ) nZ) nZ) nZ)));let q3:AH:=⟨nS (AObj.cells 115 tb true 0) q4 (eE (eE q9 (eE q12 nZ)) q5),145⟩;let q2:AH:=⟨nS (AObj.cells 115 tb true 0) q4 (eE (eE q9 (eE q12 (eE nZ (eE (eE (lL (AObj.cells 3 (RG.ordC c2 m (strAt c3 (0+i1.toNat * 1))) false 2)) nZ) nZ)))) q5),168⟩;let q1:AH:=⟨nS (AObj.cells 115 tb true 0) q4 (eE (eE q9 (eE q12 (eE nZ (eE (eE (lL (AObj.cells 3 [iI q20] false 2)) nZ) nZ)))) q5),168⟩;let q0:W:=(.call 9 [] (⟨nS (AObj.cells 115 tb true 0) q4 (eE (eE q9 (eE q12 nZ)) q5),134⟩) (.ret (Value.bool true) (⟨nS (AObj.cells 115 tb true 0) q4 (eE (eE q9 (eE q12 nZ)) q5),134⟩)) (.need (NoNames tb∧NoNames c∧NoNames c'∧NoNames c2∧NoNames c3∧True) (.done 3 (Value.bool true) (H0 tb ty ty' ty2 ty3 n n' m nk cap cap' cap2 cap3 c c' c2 c3 kn xb))));W.holds η prog B 3 (fun kp_ st_=>RunD η prog B 3 (H0 tb ty ty' ty2 ty3 n n' m nk cap cap' cap2 cap3 c c' c2 c3 kn xb) kp_ st_ (QF prog 130 D)) D (.ite (decide (i1<(↑nk:Int))) (.need ((0:Int)≤i1∧i1<(↑nk:Int)) (.need (c3[(0:Nat)+i1.toNat * (1:Nat)]? = some q16) (.ite (decide ((↑q19.length:Int) > (200:Int))) q0 (.need ((0:Int)≤i1∧i1<(↑nk:Int)) (.need (c3[(0:Nat)+i1.toNat * (1:Nat)]? = some q16) (.call 11 [Value.agg ⟨[Value.slice (some ⟨126,0,none⟩) n cap,Value.slice (some ⟨127,0,none⟩) n' cap',Value.int IntKind.i64 kn,Value.slice (some ⟨128,0,none⟩) m cap2]⟩,Value.string ⟨⟨strAt c3 (0+i1.toNat * 1)⟩⟩] (q3) (.ret (Value.tuple ⟨[Value.int IntKind.i64 q20,Value.int IntKind.i64 0]⟩) (q3)) (.need ((0:Int)≤i1∧i1<(↑nk:Int)) (.need (c3[(0:Nat)+i1.toNat * (1:Nat)]? = some q16) (.call 12 [Value.agg ⟨[Value.slice (some ⟨126,0,none⟩) n cap,Value.slice (some ⟨127,0,none⟩) n' cap',Value.int IntKind.i64 kn,Value.slice (some ⟨128,0,none⟩) m cap2]⟩,Value.string ⟨⟨strAt c3 (0+i1.toNat * 1)⟩⟩] (⟨nS (AObj.cells 115 tb true 0) q4 (eE (eE q9 (eE q12 nZ)) q5),156⟩) (.ite q13 (.ret (Value.tuple ⟨[Value.slice (some ⟨156,0,none⟩) 1 9223372036854775809,Value.int IntKind.i64 0]⟩) (⟨nS (AObj.cells 115 tb true 0) q4 (eE (eE q9 (eE q12 (eE nZ (eE (eE (lL (AObj.cells 3 [iI q20] false 2)) nZ) nZ)))) q5),157⟩)) (.ret (Value.tuple ⟨[Value.slice (some ⟨156,0,none⟩) (RG.ordN c2 m (strAt c3 (0+i1.toNat * 1))) 9223372036854775809,Value.int IntKind.i64 0]⟩) (⟨nS (AObj.cells 115 tb true 0) q4 (eE (eE q9 (eE q12 (eE nZ (eE (eE (lL (AObj.cells 3 (RG.ordC c2 m (strAt c3 (0+i1.toNat * 1))) false 2)) nZ) nZ)))) q5),157⟩))) (.ite q13 (.need ((0:Int)≤i1∧i1<(↑nk:Int)) (.need (c3[(0:Nat)+i1.toNat * (1:Nat)]? = some q16) (.call 11 [Value.agg ⟨[Value.slice (some ⟨132,0,none⟩) n n,Value.slice (some ⟨133,0,none⟩) n' 9223372036854775809,Value.int IntKind.i64 kn,Value.slice none 0 0]⟩,Value.string ⟨⟨strAt c3 (0+i1.toNat * 1)⟩⟩] (q1) (.ret q14 (q1)) (.ite (RG.fnP c2 m q19 != RG.fnP c2 m q19) q7 (.ite q15 q6 q7))))) (.need ((0:Int)≤i1∧i1<(↑nk:Int)) (.need (c3[(0:Nat)+i1.toNat * (1:Nat)]? = some q16) (.call 11 [Value.agg ⟨[Value.slice (some ⟨132,0,none⟩) n n,Value.slice (some ⟨133,0,none⟩) n' 9223372036854775809,Value.int IntKind.i64 kn,Value.slice none 0 0]⟩,Value.string ⟨⟨strAt c3 (0+i1.toNat * 1)⟩⟩] (q2) (.ret q14 (q2)) (.ite q11 q7 (.need ((0:Int)≤(0:Int)∧(0:Int)<(↑q17:Int)) (.need (q18[(0:Nat)]? = some (Value.int IntKind.i64 (intAt q18 (0:Nat)))) (.ite (intAt q18 (0:Nat) != RG.fnP c2 m q19) q7 (.ite q15 (.need ((0:Int)≤(1:Int)∧(1:Int)≤(↑q17:Int)∧(9223372036854775809:Nat)=(9223372036854775809:Nat)∧(1:Nat) ≠ (0:Nat)∧(↑q17:Int)≤(↑q17:Int)∧((1:Int)<(↑q17:Int)∨(1:Int)=(0:Int))) (.ite ((↑((↑q17:Int).toNat - (1:Nat)):Int) == (0:Int)) (.ite q8 q7 q6) (.ite q8 q7 q6))) (.ite q11 (.ite q10 q7 q6) (.ite q10 q7 q6)))))))))))))))))))) q0)):RunD η prog B 3 (H0 tb ty ty' ty2 ty3 n n' m nk cap cap' cap2 cap3 c c' c2 c3 kn xb) [2,3,7,8,10] (S0 tb ty ty' ty2 ty3 n n' m nk cap cap' cap2 cap3 c c' c2 c3 kn xb i0 l0 l1 i1 fun _=>undef) (QF prog 130 D):=by
 refine RunD.intro (S0 tb ty ty' ty2 ty3 n n' m nk cap cap' cap2 cap3 c c' c2 c3 kn xb i0 l0 l1 i1) (fun d=>⟨rfl,rfl,rfl⟩) (fun d=>tmOk_get (by kernel_rfl)) (fun d=>by kernel_rfl) (fun d=>?_)
 exact walk_okT (h0:=H0 tb ty ty' ty2 ty3 n n' m nk cap cap' cap2 cap3 c c' c2 c3 kn xb) hη hmix hreg (.steps 8 <| .bit 62 (.steps 9 <| .op <| .op <| .steps 3 <| .bit 70 (.steps 3 <| .call kN <| .steps 3 <| .done (some ⟨130,[],[(0,(0,true)),(126,(126,true)),(127,(127,true)),(128,(128,true)),(129,(129,true))]⟩)) (.steps 3 <| .reg <| .steps 3 <| .op <| .op <| .call kN <| .steps 5 <| .reg <| .steps 1 <| .reg <| .steps 3 <| .op <| .op <| .call kN <| .both (.steps 5 <| .reg <| .steps 1 <| .reg <| .steps 3 <| .op <| .op <| .call kN <| .steps 5 <| .reg <| .steps 23 <| .bit 117 (.steps 6 <| .done (some ⟨130,[],[(0,(0,true)),(126,(126,true)),(127,(127,true)),(128,(128,true)),(129,(129,true))]⟩)) (.steps 17 <| .bit 122 (.steps 46 <| .stop [2,3,7,8,10] (some ⟨134,[(130,130),(131,131),(132,132),(133,133)],[(0,(0,true)),(126,(126,true)),(127,(127,true)),(128,(128,true)),(129,(129,true)),(130,(130,false)),(131,(131,false)),(132,(132,true)),(133,(133,true))]⟩)) (.steps 39 <| .done (some ⟨130,[],[(0,(0,true)),(126,(126,true)),(127,(127,true)),(128,(128,true)),(129,(129,true))]⟩)))) (.steps 5 <| .reg <| .steps 1 <| .reg <| .steps 3 <| .op <| .op <| .call kN <| .steps 5 <| .reg <| .steps 14 <| .bit 109 (.steps 15 <| .done (some ⟨130,[],[(0,(0,true)),(126,(126,true)),(127,(127,true)),(128,(128,true)),(129,(129,true))]⟩)) (.steps 1 <| .op <| .op <| .steps 6 <| .bit 117 (.steps 6 <| .done (some ⟨130,[],[(0,(0,true)),(126,(126,true)),(127,(127,true)),(128,(128,true)),(129,(129,true))]⟩)) (.steps 17 <| .bit 122 (.steps 3 <| .op <| .steps 8 <| .bit 128 (.steps 8 <| .bit 136 (.steps 23 <| .done (some ⟨130,[],[(0,(0,true)),(126,(126,true)),(127,(127,true)),(128,(128,true)),(129,(129,true))]⟩)) (.steps 26 <| .stop [2,3,7,8,10] (some ⟨134,[(130,130),(131,131),(132,132),(133,133)],[(0,(0,true)),(126,(126,true)),(127,(127,true)),(128,(128,true)),(129,(129,true)),(130,(130,false)),(131,(131,false)),(132,(132,true)),(133,(133,true))]⟩))) (.steps 8 <| .bit 136 (.steps 23 <| .done (some ⟨130,[],[(0,(0,true)),(126,(126,true)),(127,(127,true)),(128,(128,true)),(129,(129,true))]⟩)) (.steps 26 <| .stop [2,3,7,8,10] (some ⟨134,[(130,130),(131,131),(132,132),(133,133)],[(0,(0,true)),(126,(126,true)),(127,(127,true)),(128,(128,true)),(129,(129,true)),(130,(130,false)),(131,(131,false)),(132,(132,true)),(133,(133,true))]⟩)))) (.steps 8 <| .bit 128 (.steps 8 <| .bit 136 (.steps 23 <| .done (some ⟨130,[],[(0,(0,true)),(126,(126,true)),(127,(127,true)),(128,(128,true)),(129,(129,true))]⟩)) (.steps 26 <| .stop [2,3,7,8,10] (some ⟨134,[(130,130),(131,131),(132,132),(133,133)],[(0,(0,true)),(126,(126,true)),(127,(127,true)),(128,(128,true)),(129,(129,true)),(130,(130,false)),(131,(131,false)),(132,(132,true)),(133,(133,true))]⟩))) (.steps 8 <| .bit 136 (.steps 23 <| .done (some ⟨130,[],[(0,(0,true)),(126,(126,true)),(127,(127,true)),(128,(128,true)),(129,(129,true))]⟩)) (.steps 26 <| .stop [2,3,7,8,10] (some ⟨134,[(130,130),(131,131),(132,132),(133,133)],[(0,(0,true)),(126,(126,true)),(127,(127,true)),(128,(128,true)),(129,(129,true)),(130,(130,false)),(131,(131,false)),(132,(132,true)),(133,(133,true))]⟩))))))))) (.steps 4 <| .call kN <| .steps 3 <| .done (some ⟨130,[],[(0,(0,true)),(126,(126,true)),(127,(127,true)),(128,(128,true)),(129,(129,true))]⟩))) (S0 tb ty ty' ty2 ty3 n n' m nk cap cap' cap2 cap3 c c' c2 c3 kn xb i0 l0 l1 i1 d) (by kernel_rfl) h (by kernel_rfl)
end LvNEN
namespace LvNEE
noncomputable def bd:Code:=(Go.Proofs.Tryd.f3.body).getD .skip
noncomputable def H0(tb:List Value)(ty ty' ty2 n n' m cap cap' cap2:Nat)(c c' c2:List Value)(kn xb:Int):AH:={ objs:=nS (AObj.cells 115 tb true 0) (eE (eE (eE (eE (eE (eE (lL (AObj.cells ty' c' false 0)) nZ) nZ) nZ) nZ) nZ) nZ) (eE (eE (eE (eE (eE (eE (lL (AObj.cells ty2 c2 false 0)) nZ) nZ) nZ) nZ) nZ) (eE nZ (eE nZ (eE nZ (eE nZ (lL (AObj.cells ty c false 0))))))),next:=129 }
noncomputable def E(tb:List Value)(ty ty' ty2 n n' m cap cap' cap2:Nat)(c c' c2:List Value)(kn xb:Int):AS:=⟨⟨3,154,nS (Value.agg ⟨[sS 126 0 n cap,sS 127 0 n' cap',iI kn,sS 128 0 m cap2]⟩) (lL (uI xb)) (lL (Value.slice none 0 9223372036854775808)),[Item.code (codeAt bd [])],[],FrameMode.run,CallKind.normal,none⟩,[],H0 tb ty ty' ty2 n n' m cap cap' cap2 c c' c2 kn xb⟩
noncomputable def S0(tb:List Value)(ty ty' ty2 n n' m cap cap' cap2:Nat)(c c' c2:List Value)(kn xb i0:Int)(l0 l1:List Value)(d:Nat→Value):AS:=⟨⟨3,154,nS (d 0) (nS (d 1) (nS (pP 129 0) (nS (iI i0) (nS (d 15) (nS (d 31) (nS (d 63) (lL (d 127)) nZ) (lL (d 95))) (nS (d 47) (nS (d 79) (lL (d 143)) nZ) (lL (d 111)))) (nS (d 23) (nS (d 39) (nS (d 71) (lL (d 135)) nZ) (lL (d 103))) (nS (d 55) (nS (d 87) (lL (d 151)) nZ) (lL (d 119))))) (nS (d 11) (nS (d 19) (nS (d 35) (nS (d 67) (lL (d 131)) nZ) (lL (d 99))) (nS (d 51) (nS (d 83) (lL (d 147)) nZ) (lL (d 115)))) (nS (d 27) (nS (d 43) (nS (d 75) (lL (d 139)) nZ) (lL (d 107))) (nS (d 59) (lL (d 91)) (lL (d 123)))))) (nS (d 5) (nS (d 9) (nS (d 17) (nS (d 33) (nS (d 65) (lL (d 129)) nZ) (lL (d 97))) (nS (d 49) (nS (d 81) (lL (d 145)) nZ) (lL (d 113)))) (nS (d 25) (nS (d 41) (nS (d 73) (lL (d 137)) nZ) (lL (d 105))) (nS (d 57) (nS (d 89) (lL (d 153)) nZ) (lL (d 121))))) (nS (d 13) (nS (d 21) (nS (d 37) (nS (d 69) (lL (d 133)) nZ) (lL (d 101))) (nS (d 53) (nS (d 85) (lL (d 149)) nZ) (lL (d 117)))) (nS (d 29) (nS (d 45) (nS (d 77) (lL (d 141)) nZ) (lL (d 109))) (nS (d 61) (lL (d 93)) (lL (d 125))))))) (nS (Value.slice none 0 9223372036854775808) (nS (d 4) (nS (pP 130 0) (nS (d 16) (nS (d 32) (nS (d 64) (lL (d 128)) nZ) (lL (d 96))) (nS (d 48) (nS (d 80) (lL (d 144)) nZ) (lL (d 112)))) (nS (d 24) (nS (d 40) (nS (d 72) (lL (d 136)) nZ) (lL (d 104))) (nS (d 56) (nS (d 88) (lL (d 152)) nZ) (lL (d 120))))) (nS (d 12) (nS (d 20) (nS (d 36) (nS (d 68) (lL (d 132)) nZ) (lL (d 100))) (nS (d 52) (nS (d 84) (lL (d 148)) nZ) (lL (d 116)))) (nS (d 28) (nS (d 44) (nS (d 76) (lL (d 140)) nZ) (lL (d 108))) (nS (d 60) (lL (d 92)) (lL (d 124)))))) (nS (d 6) (nS (iI 0) (nS (d 18) (nS (d 34) (nS (d 66) (lL (d 130)) nZ) (lL (d 98))) (nS (d 50) (nS (d 82) (lL (d 146)) nZ) (lL (d 114)))) (nS (d 26) (nS (d 42) (nS (d 74) (lL (d 138)) nZ) (lL (d 106))) (nS (d 58) (lL (d 90)) (lL (d 122))))) (nS (d 14) (nS (d 22) (nS (d 38) (nS (d 70) (lL (d 134)) nZ) (lL (d 102))) (nS (d 54) (nS (d 86) (lL (d 150)) nZ) (lL (d 118)))) (nS (d 30) (nS (d 46) (nS (d 78) (lL (d 142)) nZ) (lL (d 110))) (nS (d 62) (lL (d 94)) (lL (d 126))))))),[Item.code (codeAt bd [1,1,1,1,1,0,1,0,0]),Item.inLoop (codeAt bd [1,1,1,1,1,0,1,0,0]),Item.inBlock 0,Item.code (codeAt bd [1,1,1,1,1,1])],[],FrameMode.run,CallKind.normal,none⟩,[],⟨nS (AObj.cells 115 tb true 0) (eE (eE (eE (eE (eE (eE (lL (AObj.cells ty' c' false 0)) nZ) nZ) nZ) nZ) (eE (eE (eE (eE (lL (AObj.cells 9 l0 false 2)) nZ) nZ) nZ) nZ)) (eE (eE (eE (eE (eE (lL (AObj.cells 26 [sS 126 0 n cap,sS 127 0 n' cap',iI kn,sS 128 0 m cap2] true 2)) nZ) nZ) nZ) nZ) nZ)) (eE (eE (eE (eE (eE (eE (lL (AObj.cells ty2 c2 false 0)) nZ) nZ) nZ) nZ) (eE (eE (eE (eE (lL (AObj.cells 3 l1 false 2)) nZ) nZ) nZ) nZ)) (eE (eE (eE (eE (eE (lL (AObj.cells 26 [sS 131 0 n n,sS 132 0 n' 9223372036854775809,iI kn,Value.slice none 0 0] true 2)) nZ) nZ) nZ) nZ) (eE nZ (eE nZ (eE nZ (lL (AObj.cells ty c false 0))))))),133⟩⟩
theorem enter{η:Nat→Value}{B:Bd}(hη:OneCells η)(hmix:prog.follows .mixedOrders=true)(hreg:RegOk η prog B noNest){D:Value→AH→Prop}(tb:List Value)(ty ty' ty2 n n' m cap cap' cap2:Nat)(c c' c2:List Value)(kn xb:Int)(h:let q8:=((IntKind.i64.wrap xb).tmod (↑n:Int));let q7:W:=(.need (NoNames tb∧NoNames c∧NoNames c'∧NoNames c2∧True) (.done 3 (Value.bool false) (H0 tb ty ty' ty2 n n' m cap cap' cap2 c c' c2 kn xb)));let q6:T AObj:=(eE (eE (eE (eE (lL (AObj.cells 26 [sS 126 0 n cap,sS 127 0 n' cap',iI kn,sS 128 0 m cap2] true 2)) nZ) nZ) nZ) nZ);let q5:AH:=⟨nS (AObj.cells 115 tb true 0) (eE (eE (eE (eE (eE (eE (lL (AObj.cells ty' c' false 0)) nZ) nZ) nZ) nZ) nZ) (eE q6 nZ)) (eE (eE (eE (eE (eE (eE (lL (AObj.cells ty2 c2 false 0)) nZ) nZ) nZ) nZ) nZ) (eE nZ (eE nZ (eE nZ (eE nZ (lL (AObj.cells ty c false 0))))))),130⟩;let q4:AH:=⟨nS (AObj.cells 115 tb true 0) (eE (eE (eE (eE (eE (eE (lL (AObj.cells ty' c' false 0)) nZ) nZ) nZ) nZ) (eE (eE (eE (eE (lL (AObj.cells 26 [Value.slice none 0 0,Value.slice none 0 0,iI 0,Value.slice none 0 0] true 2)) nZ) nZ) nZ) nZ)) (eE q6 nZ)) (eE (eE (eE (eE (eE (eE (lL (AObj.cells ty2 c2 false 0)) nZ) nZ) nZ) nZ) nZ) (eE q6 (eE nZ (eE nZ (eE nZ (lL (AObj.cells ty c false 0))))))),132⟩;let q3:AH:=⟨nS (AObj.cells 115 tb true 0) (eE (eE (eE (eE (eE (eE (lL (AObj.cells ty' c' false 0)) nZ) nZ) nZ) nZ) (eE (eE (eE (eE (lL (AObj.cells 26 [Value.slice none 0 0,Value.slice none 0 0,iI 0,Value.slice none 0 0] true 2)) nZ) nZ) nZ) nZ)) (eE q6 (eE (eE (eE (eE (lL (AObj.cells 26 [Value.slice none 0 0,Value.slice none 0 0,iI 0,Value.slice none 0 0] true 2)) nZ) nZ) nZ) nZ))) (eE (eE (eE (eE (eE (eE (lL (AObj.cells ty2 c2 false 0)) nZ) nZ) nZ) nZ) (eE (eE (eE (eE (lL (AObj.cells 3 (splice (RG.cutC c' 0 n') (0+q8.toNat * 1) [iI 0]) false 2)) nZ) nZ) nZ) nZ)) (eE q6 (eE nZ (eE nZ (eE nZ (lL (AObj.cells ty c false 0))))))),134⟩;let q2:W:=(.call 9 [] (q5) (.ret (Value.bool true) (q5)) (.need (NoNames tb∧NoNames c∧NoNames c'∧NoNames c2∧True) (.done 3 (Value.bool true) (H0 tb ty ty' ty2 n n' m cap cap' cap2 c c' c2 kn xb))));let q1:AH:=⟨nS (AObj.cells 115 tb true 0) (eE (eE (eE (eE (eE (eE (lL (AObj.cells ty' c' false 0)) nZ) nZ) nZ) nZ) (eE (eE (eE (eE (lL (AObj.cells 26 [Value.slice none 0 0,Value.slice none 0 0,iI 0,Value.slice none 0 0] true 2)) nZ) nZ) nZ) nZ)) (eE q6 (eE (eE (eE (eE (lL (AObj.cells 26 [Value.slice none 0 0,Value.slice none 0 0,iI 0,Value.slice none 0 0] true 2)) nZ) nZ) nZ) nZ))) (eE (eE (eE (eE (eE (eE (lL (AObj.cells ty2 c2 false 0)) nZ) nZ) nZ) nZ) (eE (eE (eE (eE (lL (AObj.cells 3 (splice (RG.cutC c' 0 n') (0+q8.toNat * 1) [iI 0]) false 2)) nZ) nZ) nZ) nZ)) (eE q6 (eE (eE (eE (eE (lL (AObj.cells 9 (RG.strC c 0 n) false 2)) nZ) nZ) nZ) (eE nZ (eE nZ (lL (AObj.cells ty c false 0))))))),135⟩;let q0:AH:=⟨nS (AObj.cells 115 tb true 0) (eE (eE (eE (eE (eE (eE (lL (AObj.cells ty' c' false 0)) nZ) nZ) nZ) (eE (eE (eE (lL (AObj.cells 3 (RG.cutC (splice (RG.cutC c' 0 n') (0+q8.toNat * 1) [iI 0]) 0 n') false 2)) nZ) nZ) nZ)) (eE (eE (eE (eE (lL (AObj.cells 26 [Value.slice none 0 0,Value.slice none 0 0,iI 0,Value.slice none 0 0] true 2)) nZ) nZ) nZ) nZ)) (eE q6 (eE (eE (eE (eE (lL (AObj.cells 26 [Value.slice none 0 0,Value.slice none 0 0,iI 0,Value.slice none 0 0] true 2)) nZ) nZ) nZ) nZ))) (eE (eE (eE (eE (eE (eE (lL (AObj.cells ty2 c2 false 0)) nZ) nZ) nZ) nZ) (eE (eE (eE (eE (lL (AObj.cells 3 (splice (RG.cutC c' 0 n') (0+q8.toNat * 1) [iI 0]) false 2)) nZ) nZ) nZ) nZ)) (eE q6 (eE (eE (eE (eE (lL (AObj.cells 9 (RG.strC c 0 n) false 2)) nZ) nZ) nZ) (eE nZ (eE nZ (lL (AObj.cells ty c false 0))))))),136⟩;W.holds η prog B 3 (fun kp_ st_=>RunD η prog B 3 (H0 tb ty ty' ty2 n n' m cap cap' cap2 c c' c2 kn xb) kp_ st_ (QF prog 129 D)) D (.call 7 [Value.agg ⟨[Value.slice (some ⟨126,0,none⟩) n cap,Value.slice (some ⟨127,0,none⟩) n' cap',Value.int IntKind.i64 kn,Value.slice (some ⟨128,0,none⟩) m cap2]⟩] (q5) (.ret (Value.bool (RG.farB c n c' n' kn m)) (q5)) (.ite (RG.farB c n c' n' kn m) q2 (.call 8 [Value.agg ⟨[Value.slice (some ⟨126,0,none⟩) n cap,Value.slice (some ⟨127,0,none⟩) n' cap',Value.int IntKind.i64 kn,Value.slice (some ⟨128,0,none⟩) m cap2]⟩] (q5) (.ret (Value.int IntKind.i64 0) (q5)) (.ite ((↑n:Int) == (0:Int)) q2 (.need ((↑n:Int) ≠ (0:Int)) (.call 8 [Value.agg ⟨[Value.slice (some ⟨126,0,none⟩) n cap,Value.slice (some ⟨127,0,none⟩) n' cap',Value.int IntKind.i64 kn,Value.slice (some ⟨128,0,none⟩) m cap2]⟩] (q4) (.ret (Value.int IntKind.i64 0) (q4)) (.ite (decide ((IntKind.i64.wrap xb).tmod (↑n:Int)<(0:Int))) q7 (.ite (decide ((IntKind.i64.wrap xb).tmod (↑n:Int) ≥ (↑n:Int))) q7 (.call 19 [Value.slice (some ⟨127,0,none⟩) n' cap'] (q4) (.ret (Value.slice (some ⟨132,0,none⟩) n' 9223372036854775809) (⟨nS (AObj.cells 115 tb true 0) (eE (eE (eE (eE (eE (eE (lL (AObj.cells ty' c' false 0)) nZ) nZ) nZ) nZ) (eE (eE (eE (eE (lL (AObj.cells 26 [Value.slice none 0 0,Value.slice none 0 0,iI 0,Value.slice none 0 0] true 2)) nZ) nZ) nZ) nZ)) (eE q6 nZ)) (eE (eE (eE (eE (eE (eE (lL (AObj.cells ty2 c2 false 0)) nZ) nZ) nZ) nZ) (eE (eE (eE (eE (lL (AObj.cells 3 (RG.cutC c' 0 n') false 2)) nZ) nZ) nZ) nZ)) (eE q6 (eE nZ (eE nZ (eE nZ (lL (AObj.cells ty c false 0))))))),133⟩)) (.need ((0:Int)≤(IntKind.i64.wrap xb).tmod (↑n:Int)∧(IntKind.i64.wrap xb).tmod (↑n:Int)<(↑n':Int)) (.need ((0:Nat)+q8.toNat * (1:Nat)+(1:Nat)≤(RG.cutC c' (0:Nat) n').length) (.call 27 [Value.slice (some ⟨126,0,none⟩) n cap,Value.slice (some ⟨132,0,none⟩) n' 9223372036854775809,Value.int IntKind.i64 kn] (q3) (.ret (Value.int IntKind.i64 0) (q3)) (.call 28 [Value.slice (some ⟨126,0,none⟩) n cap] (q3) (.ret (Value.slice (some ⟨134,0,none⟩) n n) (q1)) (.call 19 [Value.slice (some ⟨132,0,none⟩) n' 9223372036854775809] (q1) (.ret (Value.slice (some ⟨135,0,none⟩) n' 9223372036854775809) (q0)) (.call 29 [Value.slice (some ⟨126,0,none⟩) n cap,Value.slice (some ⟨132,0,none⟩) n' 9223372036854775809,Value.int IntKind.i64 kn] (q0) (.ret (Value.slice none 0 0) (q0)) (.ite ((↑n:Int) != (↑n:Int)) q7 (.need (NoNames tb∧NoNames c∧NoNames c'∧NoNames c2∧True∧True∧NoNames (RG.strC c (0:Nat) n)∧NoNames (RG.cutC (splice (RG.cutC c' (0:Nat) n') ((0:Nat)+q8.toNat * (1:Nat)) [Value.int IntKind.i64 (0:Int)]) (0:Nat) n')∧True) (.stop [2,3,7,8,10] (S0 tb ty ty' ty2 n n' m cap cap' cap2 c c' c2 kn xb q8 (RG.strC c 0 n) (RG.cutC (splice (RG.cutC c' 0 n') (0+q8.toNat * 1) [Value.int IntKind.i64 0]) 0 n') (fun _=>undef))))))))))))))))))))):CallSpec η prog B 3 [Value.agg ⟨[Value.slice (some ⟨126,0,none⟩) n cap,Value.slice (some ⟨127,0,none⟩) n' cap',Value.int IntKind.i64 kn,Value.slice (some ⟨128,0,none⟩) m cap2]⟩,Value.int IntKind.u8 xb,Value.slice none 0 9223372036854775808] (H0 tb ty ty' ty2 n n' m cap cap' cap2 c c' c2 kn xb) D:=by
 refine CallSpec.ofQF hη (CallSpec.enter (fr:=(E tb ty ty' ty2 n n' m cap cap' cap2 c c' c2 kn xb).fr) (by kernel_rfl) ?_)
 exact walk_okT (h0:=H0 tb ty ty' ty2 n n' m cap cap' cap2 c c' c2 kn xb) hη hmix hreg (.steps 9 <| .call kN <| .steps 1 <| .bit 19 (.steps 19 <| .call kN <| .steps 3 <| .done (some ⟨129,[],[(0,(0,true)),(126,(126,true)),(127,(127,true)),(128,(128,true))]⟩)) (.steps 6 <| .call kN <| .steps 9 <| .bit 34 (.steps 3 <| .call kN <| .steps 3 <| .done (some ⟨129,[],[(0,(0,true)),(126,(126,true)),(127,(127,true)),(128,(128,true))]⟩)) (.steps 9 <| .op <| .steps 17 <| .call kN <| .steps 15 <| .bit 18 (.steps 44 <| .done (some ⟨129,[],[(0,(0,true)),(126,(126,true)),(127,(127,true)),(128,(128,true))]⟩)) (.steps 7 <| .bit 24 (.steps 37 <| .done (some ⟨129,[],[(0,(0,true)),(126,(126,true)),(127,(127,true)),(128,(128,true))]⟩)) (.steps 6 <| .call kN <| .steps 7 <| .op <| .op <| .steps 20 <| .call kN <| .steps 12 <| .call kN <| .steps 1 <| .call kN <| .steps 4 <| .call kN <| .steps 35 <| .bit 58 (.steps 6 <| .done (some ⟨129,[],[(0,(0,true)),(126,(126,true)),(127,(127,true)),(128,(128,true))]⟩)) (.steps 9 <| .stop [2,3,7,8,10] (some ⟨133,[(129,129),(136,130),(134,131),(135,132)],[(0,(0,true)),(126,(126,true)),(127,(127,true)),(128,(128,true)),(129,(129,false)),(130,(136,false)),(131,(134,true)),(132,(135,true))]⟩))))))) (E tb ty ty' ty2 n n' m cap cap' cap2 c c' c2 kn xb) (by kernel_rfl) h (by kernel_rfl)
theorem cut0{η:Nat→Value}{B:Bd}(hη:OneCells η)(hmix:prog.follows .mixedOrders=true)(hreg:RegOk η prog B noNest){D:Value→AH→Prop}(tb:List Value)(ty ty' ty2 n n' m cap cap' cap2:Nat)(c c' c2:List Value)(kn xb i0:Int)(l0 l1:List Value)(h:let q0:AH:=⟨nS (AObj.cells 115 tb true 0) (eE (eE (eE (eE (eE (eE (lL (AObj.cells ty' c' false 0)) nZ) nZ) nZ) nZ) (eE (eE (eE (eE (lL (AObj.cells 9 l0 false 2)) nZ) nZ) nZ) nZ)) (eE (eE (eE (eE (eE (lL (AObj.cells 26 [sS 126 0 n cap,sS 127 0 n' cap',iI kn,sS 128 0 m cap2] true 2)) nZ) nZ) nZ) nZ) nZ)) (eE (eE (eE (eE (eE (eE (lL (AObj.cells ty2 c2 false 0)) nZ) nZ) nZ) nZ) (eE (eE (eE (eE (lL (AObj.cells 3 l1 false 2)) nZ) nZ) nZ) nZ)) (eE (eE (eE (eE (eE (lL (AObj.cells 26 [sS 131 0 n n,sS 132 0 n' 9223372036854775809,iI kn,Value.slice none 0 0] true 2)) nZ) nZ) nZ) nZ) (eE nZ (eE nZ (eE nZ (lL (AObj.cells ty c false 0))))))),133⟩;W.holds η prog B 3 (fun kp_ st_=>RunD η prog B 3 (H0 tb ty ty' ty2 n n' m cap cap' cap2 c c' c2 kn xb) kp_ st_ (QF prog 129 D)) D (.call 9 [] (q0) (.ret (Value.bool true) (q0)) (.need (NoNames tb∧NoNames c∧NoNames c'∧NoNames c2∧True) (.done 3 (Value.bool true) (H0 tb ty ty' ty2 n n' m cap cap' cap2 c c' c2 kn xb))))):RunD η prog B 3 (H0 tb ty ty' ty2 n n' m cap cap' cap2 c c' c2 kn xb) [2,3,7,8,10] (S0 tb ty ty' ty2 n n' m cap cap' cap2 c c' c2 kn xb i0 l0 l1 fun _=>undef) (QF prog 129 D):=by
 refine RunD.intro (S0 tb ty ty' ty2 n n' m cap cap' cap2 c c' c2 kn xb i0 l0 l1) (fun d=>⟨rfl,rfl,rfl⟩) (fun d=>tmOk_get (by kernel_rfl)) (fun d=>by kernel_rfl) (fun d=>?_)
 exact walk_okT (h0:=H0 tb ty ty' ty2 n n' m cap cap' cap2 c c' c2 kn xb) hη hmix hreg (.steps 12 <| .call kN <| .steps 3 <| .done (some ⟨129,[],[(0,(0,true)),(126,(126,true)),(127,(127,true)),(128,(128,true))]⟩)) (S0 tb ty ty' ty2 n n' m cap cap' cap2 c c' c2 kn xb i0 l0 l1 d) (by kernel_rfl) h (by kernel_rfl)
end LvNEE
namespace LvEEN
noncomputable def bd:Code:=(Go.Proofs.Tryd.f3.body).getD .skip
noncomputable def H0(tb:List Value)(ty ty' ty3 n n' nk cap cap' cap3:Nat)(c c' c3:List Value)(kn xb:Int):AH:={ objs:=nS (AObj.cells 115 tb true 0) (eE (eE (eE (eE (eE (eE (lL (AObj.cells ty' c' false 0)) nZ) nZ) nZ) nZ) nZ) nZ) (eE (eE (eE (eE (eE (eE (lL (AObj.cells ty3 c3 false 0)) nZ) nZ) nZ) nZ) nZ) (eE nZ (eE nZ (eE nZ (eE nZ (lL (AObj.cells ty c false 0))))))),next:=129 }
noncomputable def E(tb:List Value)(ty ty' ty3 n n' nk cap cap' cap3:Nat)(c c' c3:List Value)(kn xb:Int):AS:=⟨⟨3,154,nS (Value.agg ⟨[sS 126 0 n cap,sS 127 0 n' cap',iI kn,Value.slice none 0 9223372036854775808]⟩) (lL (uI xb)) (lL (sS 128 0 nk cap3)),[Item.code (codeAt bd [])],[],FrameMode.run,CallKind.normal,none⟩,[],H0 tb ty ty' ty3 n n' nk cap cap' cap3 c c' c3 kn xb⟩
noncomputable def S0(tb:List Value)(ty ty' ty3 n n' nk cap cap' cap3:Nat)(c c' c3:List Value)(kn xb i0:Int)(l0 l1:List Value)(i1:Int)(d:Nat→Value):AS:=⟨⟨3,154,nS (d 0) (nS (d 1) (nS (pP 129 0) (nS (iI i0) (nS (d 15) (nS (d 31) (nS (d 63) (lL (d 127)) nZ) (lL (d 95))) (nS (d 47) (nS (d 79) (lL (d 143)) nZ) (lL (d 111)))) (nS (d 23) (nS (d 39) (nS (d 71) (lL (d 135)) nZ) (lL (d 103))) (nS (d 55) (nS (d 87) (lL (d 151)) nZ) (lL (d 119))))) (nS (d 11) (nS (d 19) (nS (d 35) (nS (d 67) (lL (d 131)) nZ) (lL (d 99))) (nS (d 51) (nS (d 83) (lL (d 147)) nZ) (lL (d 115)))) (nS (d 27) (nS (d 43) (nS (d 75) (lL (d 139)) nZ) (lL (d 107))) (nS (d 59) (lL (d 91)) (lL (d 123)))))) (nS (d 5) (nS (d 9) (nS (d 17) (nS (d 33) (nS (d 65) (lL (d 129)) nZ) (lL (d 97))) (nS (d 49) (nS (d 81) (lL (d 145)) nZ) (lL (d 113)))) (nS (d 25) (nS (d 41) (nS (d 73) (lL (d 137)) nZ) (lL (d 105))) (nS (d 57) (nS (d 89) (lL (d 153)) nZ) (lL (d 121))))) (nS (d 13) (nS (d 21) (nS (d 37) (nS (d 69) (lL (d 133)) nZ) (lL (d 101))) (nS (d 53) (nS (d 85) (lL (d 149)) nZ) (lL (d 117)))) (nS (d 29) (nS (d 45) (nS (d 77) (lL (d 141)) nZ) (lL (d 109))) (nS (d 61) (lL (d 93)) (lL (d 125))))))) (nS (sS 128 0 nk cap3) (nS (d 4) (nS (pP 130 0) (nS (d 16) (nS (d 32) (nS (d 64) (lL (d 128)) nZ) (lL (d 96))) (nS (d 48) (nS (d 80) (lL (d 144)) nZ) (lL (d 112)))) (nS (d 24) (nS (d 40) (nS (d 72) (lL (d 136)) nZ) (lL (d 104))) (nS (d 56) (nS (d 88) (lL (d 152)) nZ) (lL (d 120))))) (nS (d 12) (nS (d 20) (nS (d 36) (nS (d 68) (lL (d 132)) nZ) (lL (d 100))) (nS (d 52) (nS (d 84) (lL (d 148)) nZ) (lL (d 116)))) (nS (d 28) (nS (d 44) (nS (d 76) (lL (d 140)) nZ) (lL (d 108))) (nS (d 60) (lL (d 92)) (lL (d 124)))))) (nS (d 6) (nS (iI i1) (nS (d 18) (nS (d 34) (nS (d 66) (lL (d 130)) nZ) (lL (d 98))) (nS (d 50) (nS (d 82) (lL (d 146)) nZ) (lL (d 114)))) (nS (d 26) (nS (d 42) (nS (d 74) (lL (d 138)) nZ) (lL (d 106))) (nS (d 58) (lL (d 90)) (lL (d 122))))) (nS (d 14) (nS (d 22) (nS (d 38) (nS (d 70) (lL (d 134)) nZ) (lL (d 102))) (nS (d 54) (nS (d 86) (lL (d 150)) nZ) (lL (d 118)))) (nS (d 30) (nS (d 46) (nS (d 78) (lL (d 142)) nZ) (lL (d 110))) (nS (d 62) (lL (d 94)) (lL (d 126))))))),[Item.code (codeAt bd [1,1,1,1,1,0,1,0,0]),Item.inLoop (codeAt bd [1,1,1,1,1,0,1,0,0]),Item.inBlock 0,Item.code (codeAt bd [1,1,1,1,1,1])],[],FrameMode.run,CallKind.normal,none⟩,[],⟨nS (AObj.cells 115 tb true 0) (eE (eE (eE (eE (eE (eE (lL (AObj.cells ty' c' false 0)) nZ) nZ) nZ) nZ) (eE (eE (eE (eE (lL (AObj.cells 9 l0 false 2)) nZ) nZ) nZ) nZ)) (eE (eE (eE (eE (eE (lL (AObj.cells 26 [sS 126 0 n cap,sS 127 0 n' cap',iI kn,Value.slice none 0 9223372036854775808] true 2)) nZ) nZ) nZ) nZ) nZ)) (eE (eE (eE (eE (eE (eE (lL (AObj.cells ty3 c3 false 0)) nZ) nZ) nZ) nZ) (eE (eE (eE (eE (lL (AObj.cells 3 l1 false 2)) nZ) nZ) nZ) nZ)) (eE (eE (eE (eE (eE (lL (AObj.cells 26 [sS 131 0 n n,sS 132 0 n' 9223372036854775809,iI kn,Value.slice none 0 0] true 2)) nZ) nZ) nZ) nZ) (eE nZ (eE nZ (eE nZ (lL (AObj.cells ty c false 0))))))),133⟩⟩
theorem enter{η:Nat→Value}{B:Bd}(hη:OneCells η)(hmix:prog.follows .mixedOrders=true)(hreg:RegOk η prog B noNest){D:Value→AH→Prop}(tb:List Value)(ty ty' ty3 n n' nk cap cap' cap3:Nat)(c c' c3:List Value)(kn xb:Int)(h:let q8:=((IntKind.i64.wrap xb).tmod (↑n:Int));let q7:W:=(.need (NoNames tb∧NoNames c∧NoNames c'∧NoNames c3∧True) (.done 3 (Value.bool false) (H0 tb ty ty' ty3 n n' nk cap cap' cap3 c c' c3 kn xb)));let q6:T AObj:=(eE (eE (eE (eE (lL (AObj.cells 26 [sS 126 0 n cap,sS 127 0 n' cap',iI kn,Value.slice none 0 9223372036854775808] true 2)) nZ) nZ) nZ) nZ);let q5:AH:=⟨nS (AObj.cells 115 tb true 0) (eE (eE (eE (eE (eE (eE (lL (AObj.cells ty' c' false 0)) nZ) nZ) nZ) nZ) nZ) (eE q6 nZ)) (eE (eE (eE (eE (eE (eE (lL (AObj.cells ty3 c3 false 0)) nZ) nZ) nZ) nZ) nZ) (eE nZ (eE nZ (eE nZ (eE nZ (lL (AObj.cells ty c false 0))))))),130⟩;let q4:AH:=⟨nS (AObj.cells 115 tb true 0) (eE (eE (eE (eE (eE (eE (lL (AObj.cells ty' c' false 0)) nZ) nZ) nZ) nZ) (eE (eE (eE (eE (lL (AObj.cells 26 [Value.slice none 0 0,Value.slice none 0 0,iI 0,Value.slice none 0 0] true 2)) nZ) nZ) nZ) nZ)) (eE q6 nZ)) (eE (eE (eE (eE (eE (eE (lL (AObj.cells ty3 c3 false 0)) nZ) nZ) nZ) nZ) nZ) (eE q6 (eE nZ (eE nZ (eE nZ (lL (AObj.cells ty c false 0))))))),132⟩;let q3:AH:=⟨nS (AObj.cells 115 tb true 0) (eE (eE (eE (eE (eE (eE (lL (AObj.cells ty' c' false 0)) nZ) nZ) nZ) nZ) (eE (eE (eE (eE (lL (AObj.cells 26 [Value.slice none 0 0,Value.slice none 0 0,iI 0,Value.slice none 0 0] true 2)) nZ) nZ) nZ) nZ)) (eE q6 (eE (eE (eE (eE (lL (AObj.cells 26 [Value.slice none 0 0,Value.slice none 0 0,iI 0,Value.slice none 0 0] true 2)) nZ) nZ) nZ) nZ))) (eE (eE (eE (eE (eE (eE (lL (AObj.cells ty3 c3 false 0)) nZ) nZ) nZ) nZ) (eE (eE (eE (eE (lL (AObj.cells 3 (splice (RG.cutC c' 0 n') (0+q8.toNat * 1) [iI 0]) false 2)) nZ) nZ) nZ) nZ)) (eE q6 (eE nZ (eE nZ (eE nZ (lL (AObj.cells ty c false 0))))))),134⟩;let q2:W:=(.call 9 [] (q5) (.ret (Value.bool true) (q5)) (.need (NoNames tb∧NoNames c∧NoNames c'∧NoNames c3∧True) (.done 3 (Value.bool true) (H0 tb ty ty' ty3 n n' nk cap cap' cap3 c c' c3 kn xb))));let q1:AH:=⟨nS (AObj.cells 115 tb true 0) (eE (eE (eE (eE (eE (eE (lL (AObj.cells ty' c' false 0)) nZ) nZ) nZ) nZ) (eE (eE (eE (eE (lL (AObj.cells 26 [Value.slice none 0 0,Value.slice none 0 0,iI 0,Value.slice none 0 0] true 2)) nZ) nZ) nZ) nZ)) (eE q6 (eE (eE (eE (eE (lL (AObj.cells 26 [Value.slice none 0 0,Value.slice none 0 0,iI 0,Value.slice none 0 0] true 2)) nZ) nZ) nZ) nZ))) (eE (eE (eE (eE (eE (eE (lL (AObj.cells ty3 c3 false 0)) nZ) nZ) nZ) nZ) (eE (eE (eE (eE (lL (AObj.cells 3 (splice (RG.cutC c' 0 n') (0+q8.toNat * 1) [iI 0]) false 2)) nZ) nZ) nZ) nZ)) (eE q6 (eE (eE (eE (eE (lL (AObj.cells 9 (RG.strC c 0 n) false 2)) nZ) nZ) nZ) (eE nZ (eE nZ (lL (AObj.cells ty c false 0))))))),135⟩;let q0:AH:=⟨nS (AObj.cells 115 tb true 0) (eE (eE (eE (eE (eE (eE (lL (AObj.cells ty' c' false 0)) nZ) nZ) nZ) (eE (eE (eE (lL (AObj.cells 3 (RG.cutC (splice (RG.cutC c' 0 n') (0+q8.toNat * 1) [iI 0]) 0 n') false 2)) nZ) nZ) nZ)) (eE (eE (eE (eE (lL (AObj.cells 26 [Value.slice none 0 0,Value.slice none 0 0,iI 0,Value.slice none 0 0] true 2)) nZ) nZ) nZ) nZ)) (eE q6 (eE (eE (eE (eE (lL (AObj.cells 26 [Value.slice none 0 0,Value.slice none 0 0,iI 0,Value.slice none 0 0] true 2)) nZ) nZ) nZ) nZ))) (eE (eE (eE (eE (eE (eE (lL (AObj.cells ty3 c3 false 0)) nZ) nZ) nZ) nZ) (eE (eE (eE (eE (lL (AObj.cells 3 (splice (RG.cutC c' 0 n') (0+q8.toNat * 1) [iI 0]) false 2)) nZ) nZ) nZ) nZ)) (eE q6 (eE (eE (eE (eE (lL (AObj.cells 9 (RG.strC c 0 n) false 2)) nZ) nZ) nZ) (eE nZ (eE nZ (lL (AObj.cells ty c false 0))))))),136⟩;W.holds η prog B 3 (fun kp_ st_=>RunD η prog B 3 (H0 tb ty ty' ty3 n n' nk cap cap' cap3 c c' c3 kn xb) kp_ st_ (QF prog 129 D)) D (.call 7 [Value.agg ⟨[Value.slice (some ⟨126,0,none⟩) n cap,Value.slice (some ⟨127,0,none⟩) n' cap',Value.int IntKind.i64 kn,Value.slice none 0 9223372036854775808]⟩] (q5) (.ret (Value.bool (RG.farB c n c' n' kn 0)) (q5)) (.ite (RG.farB c n c' n' kn (0:Nat)) q2 (.ite (decide ((↑nk:Int) > (60:Int))) q2 (.call 8 [Value.agg ⟨[Value.slice (some ⟨126,0,none⟩) n cap,Value.slice (some ⟨127,0,none⟩) n' cap',Value.int IntKind.i64 kn,Value.slice none 0 9223372036854775808]⟩] (q5) (.ret (Value.int IntKind.i64 0) (q5)) (.ite ((↑n:Int) == (0:Int)) q2 (.need ((↑n:Int) ≠ (0:Int)) (.call 8 [Value.agg ⟨[Value.slice (some ⟨126,0,none⟩) n cap,Value.slice (some ⟨127,0,none⟩) n' cap',Value.int IntKind.i64 kn,Value.slice none 0 9223372036854775808]⟩] (q4) (.ret (Value.int IntKind.i64 0) (q4)) (.ite (decide ((IntKind.i64.wrap xb).tmod (↑n:Int)<(0:Int))) q7 (.ite (decide ((IntKind.i64.wrap xb).tmod (↑n:Int) ≥ (↑n:Int))) q7 (.call 19 [Value.slice (some ⟨127,0,none⟩) n' cap'] (q4) (.ret (Value.slice (some ⟨132,0,none⟩) n' 9223372036854775809) (⟨nS (AObj.cells 115 tb true 0) (eE (eE (eE (eE (eE (eE (lL (AObj.cells ty' c' false 0)) nZ) nZ) nZ) nZ) (eE (eE (eE (eE (lL (AObj.cells 26 [Value.slice none 0 0,Value.slice none 0 0,iI 0,Value.slice none 0 0] true 2)) nZ) nZ) nZ) nZ)) (eE q6 nZ)) (eE (eE (eE (eE (eE (eE (lL (AObj.cells ty3 c3 false 0)) nZ) nZ) nZ) nZ) (eE (eE (eE (eE (lL (AObj.cells 3 (RG.cutC c' 0 n') false 2)) nZ) nZ) nZ) nZ)) (eE q6 (eE nZ (eE nZ (eE nZ (lL (AObj.cells ty c false 0))))))),133⟩)) (.need ((0:Int)≤(IntKind.i64.wrap xb).tmod (↑n:Int)∧(IntKind.i64.wrap xb).tmod (↑n:Int)<(↑n':Int)) (.need ((0:Nat)+q8.toNat * (1:Nat)+(1:Nat)≤(RG.cutC c' (0:Nat) n').length) (.call 27 [Value.slice (some ⟨126,0,none⟩) n cap,Value.slice (some ⟨132,0,none⟩) n' 9223372036854775809,Value.int IntKind.i64 kn] (q3) (.ret (Value.int IntKind.i64 0) (q3)) (.call 28 [Value.slice (some ⟨126,0,none⟩) n cap] (q3) (.ret (Value.slice (some ⟨134,0,none⟩) n n) (q1)) (.call 19 [Value.slice (some ⟨132,0,none⟩) n' 9223372036854775809] (q1) (.ret (Value.slice (some ⟨135,0,none⟩) n' 9223372036854775809) (q0)) (.call 29 [Value.slice (some ⟨126,0,none⟩) n cap,Value.slice (some ⟨132,0,none⟩) n' 9223372036854775809,Value.int IntKind.i64 kn] (q0) (.ret (Value.slice none 0 0) (q0)) (.ite ((↑n:Int) != (↑n:Int)) q7 (.need (NoNames tb∧NoNames c∧NoNames c'∧NoNames c3∧True∧True∧NoNames (RG.strC c (0:Nat) n)∧NoNames (RG.cutC (splice (RG.cutC c' (0:Nat) n') ((0:Nat)+q8.toNat * (1:Nat)) [Value.int IntKind.i64 (0:Int)]) (0:Nat) n')∧True) (.stop [2,3,7,8,10] (S0 tb ty ty' ty3 n n' nk cap cap' cap3 c c' c3 kn xb q8 (RG.strC c 0 n) (RG.cutC (splice (RG.cutC c' 0 n') (0+q8.toNat * 1) [Value.int IntKind.i64 0]) 0 n') (0) (fun _=>undef)))))))))))))))))))))):CallSpec η prog B 3 [Value.agg ⟨[Value.slice (some ⟨126,0,none⟩) n cap,Value.slice (some ⟨127,0,none⟩) n' cap',Value.int IntKind.i64 kn,Value.slice none 0 9223372036854775808]⟩,Value.int IntKind.u8 xb,Value.slice (some ⟨128,0,none⟩) nk cap3] (H0 tb ty ty' ty3 n n' nk cap cap' cap3 c c' c3 kn xb) D:=by
 refine CallSpec.ofQF hη (CallSpec.enter (fr:=(E tb ty ty' ty3 n n' nk cap cap' cap3 c c' c3 kn xb).fr) (by kernel_rfl) ?_)
 exact walk_okT (h0:=H0 tb ty ty' ty3 n n' nk cap cap' cap3 c c' c3 kn xb) hη hmix hreg (.steps 9 <| .call kN <| .steps 1 <| .bit 19 (.steps 19 <| .call kN <| .steps 3 <| .done (some ⟨129,[],[(0,(0,true)),(126,(126,true)),(127,(127,true)),(128,(128,true))]⟩)) (.steps 5 <| .bit 24 (.steps 14 <| .call kN <| .steps 3 <| .done (some ⟨129,[],[(0,(0,true)),(126,(126,true)),(127,(127,true)),(128,(128,true))]⟩)) (.steps 1 <| .call kN <| .steps 9 <| .bit 34 (.steps 3 <| .call kN <| .steps 3 <| .done (some ⟨129,[],[(0,(0,true)),(126,(126,true)),(127,(127,true)),(128,(128,true))]⟩)) (.steps 9 <| .op <| .steps 17 <| .call kN <| .steps 15 <| .bit 18 (.steps 44 <| .done (some ⟨129,[],[(0,(0,true)),(126,(126,true)),(127,(127,true)),(128,(128,true))]⟩)) (.steps 7 <| .bit 24 (.steps 37 <| .done (some ⟨129,[],[(0,(0,true)),(126,(126,true)),(127,(127,true)),(128,(128,true))]⟩)) (.steps 6 <| .call kN <| .steps 7 <| .op <| .op <| .steps 20 <| .call kN <| .steps 12 <| .call kN <| .steps 1 <| .call kN <| .steps 4 <| .call kN <| .steps 35 <| .bit 58 (.steps 6 <| .done (some ⟨129,[],[(0,(0,true)),(126,(126,true)),(127,(127,true)),(128,(128,true))]⟩)) (.steps 9 <| .stop [2,3,7,8,10] (some ⟨133,[(129,129),(136,130),(134,131),(135,132)],[(0,(0,true)),(126,(126,true)),(127,(127,true)),(128,(128,true)),(129,(129,false)),(130,(136,false)),(131,(134,true)),(132,(135,true))]⟩)))))))) (E tb ty ty' ty3 n n' nk cap cap' cap3 c c' c3 kn xb) (by kernel_rfl) h (by kernel_rfl)
theorem cut0{η:Nat→Value}{B:Bd}(hη:OneCells η)(hmix:prog.follows .mixedOrders=true)(hreg:RegOk η prog B noNest){D:Value→AH→Prop}(tb:List Value)(ty ty' ty3 n n' nk cap cap' cap3:Nat)(c c' c3:List Value)(kn xb i0:Int)(l0 l1:List Value)(i1:Int)(h:let q5:=(Value.string ⟨⟨strAt c3 ((0:Nat)+i1.toNat * (1:Nat))⟩⟩);let q4:=(Value.tuple ⟨[Value.int IntKind.i64 0,Value.int IntKind.i64 4]⟩);let q3:AH:=⟨nS (AObj.cells 115 tb true 0) (eE (eE (eE (eE (eE (eE (lL (AObj.cells ty' c' false 0)) nZ) nZ) nZ) nZ) (eE (eE (eE (eE (lL (AObj.cells 9 l0 false 2)) nZ) nZ) nZ) nZ)) (eE (eE (eE (eE (eE (lL (AObj.cells 26 [sS 126 0 n cap,sS 127 0 n' cap',iI kn,Value.slice none 0 9223372036854775808] true 2)) nZ) nZ) nZ) nZ) nZ)) (eE (eE (eE (eE (eE (eE (lL (AObj.cells ty3 c3 false 0)) nZ) nZ) nZ) nZ) (eE (eE (eE (eE (lL (AObj.cells 3 l1 false 2)) nZ) nZ) nZ) nZ)) (eE (eE (eE (eE (eE (lL (AObj.cells 26 [sS 131 0 n n,sS 132 0 n' 9223372036854775809,iI kn,Value.slice none 0 0] true 2)) nZ) nZ) nZ) nZ) (eE nZ (eE nZ (eE nZ (lL (AObj.cells ty c false 0))))))),166⟩;let q2:AH:=⟨nS (AObj.cells 115 tb true 0) (eE (eE (eE (eE (eE (eE (lL (AObj.cells ty' c' false 0)) nZ) nZ) nZ) nZ) (eE (eE (eE (eE (lL (AObj.cells 9 l0 false 2)) nZ) nZ) nZ) nZ)) (eE (eE (eE (eE (eE (lL (AObj.cells 26 [sS 126 0 n cap,sS 127 0 n' cap',iI kn,Value.slice none 0 9223372036854775808] true 2)) nZ) nZ) nZ) nZ) nZ)) (eE (eE (eE (eE (eE (eE (lL (AObj.cells ty3 c3 false 0)) nZ) nZ) nZ) nZ) (eE (eE (eE (eE (lL (AObj.cells 3 l1 false 2)) nZ) nZ) nZ) nZ)) (eE (eE (eE (eE (eE (lL (AObj.cells 26 [sS 131 0 n n,sS 132 0 n' 9223372036854775809,iI kn,Value.slice none 0 0] true 2)) nZ) nZ) nZ) nZ) (eE nZ (eE nZ (eE nZ (lL (AObj.cells ty c false 0))))))),155⟩;let q1:AH:=⟨nS (AObj.cells 115 tb true 0) (eE (eE (eE (eE (eE (eE (lL (AObj.cells ty' c' false 0)) nZ) nZ) nZ) nZ) (eE (eE (eE (eE (lL (AObj.cells 9 l0 false 2)) nZ) nZ) nZ) nZ)) (eE (eE (eE (eE (eE (lL (AObj.cells 26 [sS 126 0 n cap,sS 127 0 n' cap',iI kn,Value.slice none 0 9223372036854775808] true 2)) nZ) nZ) nZ) nZ) nZ)) (eE (eE (eE (eE (eE (eE (lL (AObj.cells ty3 c3 false 0)) nZ) nZ) nZ) nZ) (eE (eE (eE (eE (lL (AObj.cells 3 l1 false 2)) nZ) nZ) nZ) nZ)) (eE (eE (eE (eE (eE (lL (AObj.cells 26 [sS 131 0 n n,sS 132 0 n' 9223372036854775809,iI kn,Value.slice none 0 0] true 2)) nZ) nZ) nZ) nZ) (eE nZ (eE nZ (eE nZ (lL (AObj.cells ty c false 0))))))),144⟩;let q0:W:=(.call 9 [] (⟨nS (AObj.cells 115 tb true 0) (eE (eE (eE (eE (eE (eE (lL (AObj.cells ty' c' false 0)) nZ) nZ) nZ) nZ) (eE (eE (eE (eE (lL (AObj.cells 9 l0 false 2)) nZ) nZ) nZ) nZ)) (eE (eE (eE (eE (eE (lL (AObj.cells 26 [sS 126 0 n cap,sS 127 0 n' cap',iI kn,Value.slice none 0 9223372036854775808] true 2)) nZ) nZ) nZ) nZ) nZ)) (eE (eE (eE (eE (eE (eE (lL (AObj.cells ty3 c3 false 0)) nZ) nZ) nZ) nZ) (eE (eE (eE (eE (lL (AObj.cells 3 l1 false 2)) nZ) nZ) nZ) nZ)) (eE (eE (eE (eE (eE (lL (AObj.cells 26 [sS 131 0 n n,sS 132 0 n' 9223372036854775809,iI kn,Value.slice none 0 0] true 2)) nZ) nZ) nZ) nZ) (eE nZ (eE nZ (eE nZ (lL (AObj.cells ty c false 0))))))),133⟩) (.ret (Value.bool true) (⟨nS (AObj.cells 115 tb true 0) (eE (eE (eE (eE (eE (eE (lL (AObj.cells ty' c' false 0)) nZ) nZ) nZ) nZ) (eE (eE (eE (eE (lL (AObj.cells 9 l0 false 2)) nZ) nZ) nZ) nZ)) (eE (eE (eE (eE (eE (lL (AObj.cells 26 [sS 126 0 n cap,sS 127 0 n' cap',iI kn,Value.slice none 0 9223372036854775808] true 2)) nZ) nZ) nZ) nZ) nZ)) (eE (eE (eE (eE (eE (eE (lL (AObj.cells ty3 c3 false 0)) nZ) nZ) nZ) nZ) (eE (eE (eE (eE (lL (AObj.cells 3 l1 false 2)) nZ) nZ) nZ) nZ)) (eE (eE (eE (eE (eE (lL (AObj.cells 26 [sS 131 0 n n,sS 132 0 n' 9223372036854775809,iI kn,Value.slice none 0 0] true 2)) nZ) nZ) nZ) nZ) (eE nZ (eE nZ (eE nZ (lL (AObj.cells ty c false 0))))))),133⟩)) (.need (NoNames tb∧NoNames c∧NoNames c'∧NoNames c3∧True) (.done 3 (Value.bool true) (H0 tb ty ty' ty3 n n' nk cap cap' cap3 c c' c3 kn xb))));W.holds η prog B 3 (fun kp_ st_=>RunD η prog B 3 (H0 tb ty ty' ty3 n n' nk cap cap' cap3 c c' c3 kn xb) kp_ st_ (QF prog 129 D)) D (.ite (decide (i1<(↑nk:Int))) (.need ((0:Int)≤i1∧i1<(↑nk:Int)) (.need (c3[(0:Nat)+i1.toNat * (1:Nat)]? = some q5) (.ite (decide ((↑(strAt c3 ((0:Nat)+i1.toNat * (1:Nat))).length:Int) > (200:Int))) q0 (.need ((0:Int)≤i1∧i1<(↑nk:Int)) (.need (c3[(0:Nat)+i1.toNat * (1:Nat)]? = some q5) (.call 11 [Value.agg ⟨[Value.slice (some ⟨126,0,none⟩) n cap,Value.slice (some ⟨127,0,none⟩) n' cap',Value.int IntKind.i64 kn,Value.slice none 0 9223372036854775808]⟩,Value.string ⟨⟨strAt c3 (0+i1.toNat * 1)⟩⟩] (q1) (.ret q4 (q1)) (.need ((0:Int)≤i1∧i1<(↑nk:Int)) (.need (c3[(0:Nat)+i1.toNat * (1:Nat)]? = some q5) (.call 12 [Value.agg ⟨[Value.slice (some ⟨126,0,none⟩) n cap,Value.slice (some ⟨127,0,none⟩) n' cap',Value.int IntKind.i64 kn,Value.slice none 0 9223372036854775808]⟩,Value.string ⟨⟨strAt c3 (0+i1.toNat * 1)⟩⟩] (q2) (.ret (Value.tuple ⟨[Value.slice none 0 0,Value.int IntKind.i64 4]⟩) (q2)) (.need ((0:Int)≤i1∧i1<(↑nk:Int)) (.need (c3[(0:Nat)+i1.toNat * (1:Nat)]? = some q5) (.call 11 [Value.agg ⟨[Value.slice (some ⟨131,0,none⟩) n n,Value.slice (some ⟨132,0,none⟩) n' 9223372036854775809,Value.int IntKind.i64 kn,Value.slice none 0 0]⟩,Value.string ⟨⟨strAt c3 (0+i1.toNat * 1)⟩⟩] (q3) (.ret q4 (q3)) (.need (NoNames tb∧NoNames c∧NoNames c'∧NoNames c3∧True∧True∧NoNames l0∧NoNames l1∧True) (.stop [2,3,7,8,10] (S0 tb ty ty' ty3 n n' nk cap cap' cap3 c c' c3 kn xb (i0) (l0) (l1) (IntKind.i64.wrap (i1+1)) (fun _=>undef)))))))))))))))) q0)):RunD η prog B 3 (H0 tb ty ty' ty3 n n' nk cap cap' cap3 c c' c3 kn xb) [2,3,7,8,10] (S0 tb ty ty' ty3 n n' nk cap cap' cap3 c c' c3 kn xb i0 l0 l1 i1 fun _=>undef) (QF prog 129 D):=by
 refine RunD.intro (S0 tb ty ty' ty3 n n' nk cap cap' cap3 c c' c3 kn xb i0 l0 l1 i1) (fun d=>⟨rfl,rfl,rfl⟩) (fun d=>tmOk_get (by kernel_rfl)) (fun d=>by kernel_rfl) (fun d=>?_)
 exact walk_okT (h0:=H0 tb ty ty' ty3 n n' nk cap cap' cap3 c c' c3 kn xb) hη hmix hreg (.steps 8 <| .bit 62 (.steps 9 <| .op <| .op <| .steps 3 <| .bit 70 (.steps 3 <| .call kN <| .steps 3 <| .done (some ⟨129,[],[(0,(0,true)),(126,(126,true)),(127,(127,true)),(128,(128,true))]⟩)) (.steps 3 <| .reg <| .steps 3 <| .op <| .op <| .call kN <| .steps 5 <| .reg <| .steps 1 <| .reg <| .steps 3 <| .op <| .op <| .call kN <| .steps 5 <| .reg <| .steps 1 <| .reg <| .steps 3 <| .op <| .op <| .call kN <| .steps 5 <| .reg <| .steps 39 <| .stop [2,3,7,8,10] (some ⟨133,[(129,129),(130,130),(131,131),(132,132)],[(0,(0,true)),(126,(126,true)),(127,(127,true)),(128,(128,true)),(129,(129,false)),(130,(130,false)),(131,(131,true)),(132,(132,true))]⟩))) (.steps 4 <| .call kN <| .steps 3 <| .done (some ⟨129,[],[(0,(0,true)),(126,(126,true)),(127,(127,true)),(128,(128,true))]⟩))) (S0 tb ty ty' ty3 n n' nk cap cap' cap3 c c' c3 kn xb i0 l0 l1 i1 d) (by kernel_rfl) h (by kernel_rfl)
end LvEEN
namespace LvEEE
noncomputable def bd:Code:=(Go.Proofs.Tryd.f3.body).getD .skip
noncomputable def H0(tb:List Value)(ty ty' n n' cap cap':Nat)(c c':List Value)(kn xb:Int):AH:={ objs:=nS (AObj.cells 115 tb true 0) (eE (eE (eE (eE (eE (eE (lL (AObj.cells ty' c' false 0)) nZ) nZ) nZ) nZ) nZ) nZ) (eE nZ (eE nZ (eE nZ (eE nZ (eE nZ (lL (AObj.cells ty c false 0))))))),next:=128 }
noncomputable def E(tb:List Value)(ty ty' n n' cap cap':Nat)(c c':List Value)(kn xb:Int):AS:=⟨⟨3,154,nS (Value.agg ⟨[sS 126 0 n cap,sS 127 0 n' cap',iI kn,Value.slice none 0 9223372036854775808]⟩) (lL (uI xb)) (lL (Value.slice none 0 9223372036854775808)),[Item.code (codeAt bd [])],[],FrameMode.run,CallKind.normal,none⟩,[],H0 tb ty ty' n n' cap cap' c c' kn xb⟩
noncomputable def S0(tb:List Value)(ty ty' n n' cap cap':Nat)(c c':List Value)(kn xb i0:Int)(l0 l1:List Value)(d:Nat→Value):AS:=⟨⟨3,154,nS (d 0) (nS (d 1) (nS (pP 128 0) (nS (iI i0) (nS (d 15) (nS (d 31) (nS (d 63) (lL (d 127)) nZ) (lL (d 95))) (nS (d 47) (nS (d 79) (lL (d 143)) nZ) (lL (d 111)))) (nS (d 23) (nS (d 39) (nS (d 71) (lL (d 135)) nZ) (lL (d 103))) (nS (d 55) (nS (d 87) (lL (d 151)) nZ) (lL (d 119))))) (nS (d 11) (nS (d 19) (nS (d 35) (nS (d 67) (lL (d 131)) nZ) (lL (d 99))) (nS (d 51) (nS (d 83) (lL (d 147)) nZ) (lL (d 115)))) (nS (d 27) (nS (d 43) (nS (d 75) (lL (d 139)) nZ) (lL (d 107))) (nS (d 59) (lL (d 91)) (lL (d 123)))))) (nS (d 5) (nS (d 9) (nS (d 17) (nS (d 33) (nS (d 65) (lL (d 129)) nZ) (lL (d 97))) (nS (d 49) (nS (d 81) (lL (d 145)) nZ) (lL (d 113)))) (nS (d 25) (nS (d 41) (nS (d 73) (lL (d 137)) nZ) (lL (d 105))) (nS (d 57) (nS (d 89) (lL (d 153)) nZ) (lL (d 121))))) (nS (d 13) (nS (d 21) (nS (d 37) (nS (d 69) (lL (d 133)) nZ) (lL (d 101))) (nS (d 53) (nS (d 85) (lL (d 149)) nZ) (lL (d 117)))) (nS (d 29) (nS (d 45) (nS (d 77) (lL (d 141)) nZ) (lL (d 109))) (nS (d 61) (lL (d 93)) (lL (d 125))))))) (nS (Value.slice none 0 9223372036854775808) (nS (d 4) (nS (pP 129 0) (nS (d 16) (nS (d 32) (nS (d 64) (lL (d 128)) nZ) (lL (d 96))) (nS (d 48) (nS (d 80) (lL (d 144)) nZ) (lL (d 112)))) (nS (d 24) (nS (d 40) (nS (d 72) (lL (d 136)) nZ) (lL (d 104))) (nS (d 56) (nS (d 88) (lL (d 152)) nZ) (lL (d 120))))) (nS (d 12) (nS (d 20) (nS (d 36) (nS (d 68) (lL (d 132)) nZ) (lL (d 100))) (nS (d 52) (nS (d 84) (lL (d 148)) nZ) (lL (d 116)))) (nS (d 28) (nS (d 44) (nS (d 76) (lL (d 140)) nZ) (lL (d 108))) (nS (d 60) (lL (d 92)) (lL (d 124)))))) (nS (d 6) (nS (iI 0) (nS (d 18) (nS (d 34) (nS (d 66) (lL (d 130)) nZ) (lL (d 98))) (nS (d 50) (nS (d 82) (lL (d 146)) nZ) (lL (d 114)))) (nS (d 26) (nS (d 42) (nS (d 74) (lL (d 138)) nZ) (lL (d 106))) (nS (d 58) (lL (d 90)) (lL (d 122))))) (nS (d 14) (nS (d 22) (nS (d 38) (nS (d 70) (lL (d 134)) nZ) (lL (d 102))) (nS (d 54) (nS (d 86) (lL (d 150)) nZ) (lL (d 118)))) (nS (d 30) (nS (d 46) (nS (d 78) (lL (d 142)) nZ) (lL (d 110))) (nS (d 62) (lL (d 94)) (lL (d 126))))))),[Item.code (codeAt bd [1,1,1,1,1,0,1,0,0]),Item.inLoop (codeAt bd [1,1,1,1,1,0,1,0,0]),Item.inBlock 0,Item.code (codeAt bd [1,1,1,1,1,1])],[],FrameMode.run,CallKind.normal,none⟩,[],⟨nS (AObj.cells 115 tb true 0) (eE (eE (eE (eE (eE (eE (lL (AObj.cells ty' c' false 0)) nZ) nZ) nZ) nZ) (eE (eE (eE (eE (lL (AObj.cells 3 l0 false 2)) nZ) nZ) nZ) nZ)) (eE (eE (eE (eE (eE (lL (AObj.cells 26 [sS 130 0 n n,sS 131 0 n' 9223372036854775809,iI kn,Value.slice none 0 0] true 2)) nZ) nZ) nZ) nZ) nZ)) (eE (eE (eE (eE (eE (eE (lL (AObj.cells 26 [sS 126 0 n cap,sS 127 0 n' cap',iI kn,Value.slice none 0 9223372036854775808] true 2)) nZ) nZ) nZ) nZ) nZ) (eE (eE (eE (eE (eE (lL (AObj.cells 9 l1 false 2)) nZ) nZ) nZ) nZ) (eE nZ (eE nZ (eE nZ (lL (AObj.cells ty c false 0))))))),132⟩⟩
theorem enter{η:Nat→Value}{B:Bd}(hη:OneCells η)(hmix:prog.follows .mixedOrders=true)(hreg:RegOk η prog B noNest){D:Value→AH→Prop}(tb:List Value)(ty ty' n n' cap cap':Nat)(c c':List Value)(kn xb:Int)(h:let q8:=((IntKind.i64.wrap xb).tmod (↑n:Int));let q7:W:=(.need (NoNames tb∧NoNames c∧NoNames c'∧True) (.done 3 (Value.bool false) (H0 tb ty ty' n n' cap cap' c c' kn xb)));let q6:T AObj:=(eE (eE (eE (eE (eE (lL (AObj.cells 26 [sS 126 0 n cap,sS 127 0 n' cap',iI kn,Value.slice none 0 9223372036854775808] true 2)) nZ) nZ) nZ) nZ) nZ);let q5:AH:=⟨nS (AObj.cells 115 tb true 0) (eE (eE (eE (eE (eE (eE (lL (AObj.cells ty' c' false 0)) nZ) nZ) nZ) nZ) nZ) nZ) (eE q6 (eE nZ (eE nZ (eE nZ (eE nZ (lL (AObj.cells ty c false 0))))))),129⟩;let q4:AH:=⟨nS (AObj.cells 115 tb true 0) (eE (eE (eE (eE (eE (eE (lL (AObj.cells ty' c' false 0)) nZ) nZ) nZ) nZ) nZ) q6) (eE q6 (eE (eE (eE (eE (eE (lL (AObj.cells 26 [Value.slice none 0 0,Value.slice none 0 0,iI 0,Value.slice none 0 0] true 2)) nZ) nZ) nZ) nZ) (eE nZ (eE nZ (eE nZ (lL (AObj.cells ty c false 0))))))),131⟩;let q3:W:=(.call 9 [] (q5) (.ret (Value.bool true) (q5)) (.need (NoNames tb∧NoNames c∧NoNames c'∧True) (.done 3 (Value.bool true) (H0 tb ty ty' n n' cap cap' c c' kn xb))));let q2:AH:=⟨nS (AObj.cells 115 tb true 0) (eE (eE (eE (eE (eE (eE (lL (AObj.cells ty' c' false 0)) nZ) nZ) nZ) nZ) (eE (eE (eE (eE (lL (AObj.cells 3 (splice (RG.cutC c' 0 n') (0+q8.toNat * 1) [iI 0]) false 2)) nZ) nZ) nZ) nZ)) q6) (eE (eE (eE (eE (eE (eE (lL (AObj.cells 26 [sS 126 0 n cap,sS 127 0 n' cap',iI kn,Value.slice none 0 9223372036854775808] true 2)) nZ) nZ) nZ) nZ) (eE (eE (eE (eE (lL (AObj.cells 26 [Value.slice none 0 0,Value.slice none 0 0,iI 0,Value.slice none 0 0] true 2)) nZ) nZ) nZ) nZ)) (eE (eE (eE (eE (eE (lL (AObj.cells 26 [Value.slice none 0 0,Value.slice none 0 0,iI 0,Value.slice none 0 0] true 2)) nZ) nZ) nZ) nZ) (eE nZ (eE nZ (eE nZ (lL (AObj.cells ty c false 0))))))),133⟩;let q1:AH:=⟨nS (AObj.cells 115 tb true 0) (eE (eE (eE (eE (eE (eE (lL (AObj.cells ty' c' false 0)) nZ) nZ) nZ) nZ) (eE (eE (eE (eE (lL (AObj.cells 3 (splice (RG.cutC c' 0 n') (0+q8.toNat * 1) [iI 0]) false 2)) nZ) nZ) nZ) nZ)) (eE (eE (eE (eE (eE (lL (AObj.cells 26 [sS 126 0 n cap,sS 127 0 n' cap',iI kn,Value.slice none 0 9223372036854775808] true 2)) nZ) nZ) nZ) nZ) (eE (eE (eE (eE (lL (AObj.cells 9 (RG.strC c 0 n) false 2)) nZ) nZ) nZ) nZ))) (eE (eE (eE (eE (eE (eE (lL (AObj.cells 26 [sS 126 0 n cap,sS 127 0 n' cap',iI kn,Value.slice none 0 9223372036854775808] true 2)) nZ) nZ) nZ) nZ) (eE (eE (eE (eE (lL (AObj.cells 26 [Value.slice none 0 0,Value.slice none 0 0,iI 0,Value.slice none 0 0] true 2)) nZ) nZ) nZ) nZ)) (eE (eE (eE (eE (eE (lL (AObj.cells 26 [Value.slice none 0 0,Value.slice none 0 0,iI 0,Value.slice none 0 0] true 2)) nZ) nZ) nZ) nZ) (eE nZ (eE nZ (eE nZ (lL (AObj.cells ty c false 0))))))),134⟩;let q0:AH:=⟨nS (AObj.cells 115 tb true 0) (eE (eE (eE (eE (eE (eE (lL (AObj.cells ty' c' false 0)) nZ) nZ) nZ) nZ) (eE (eE (eE (eE (lL (AObj.cells 3 (splice (RG.cutC c' 0 n') (0+q8.toNat * 1) [iI 0]) false 2)) nZ) nZ) nZ) nZ)) (eE (eE (eE (eE (eE (lL (AObj.cells 26 [sS 126 0 n cap,sS 127 0 n' cap',iI kn,Value.slice none 0 9223372036854775808] true 2)) nZ) nZ) nZ) nZ) (eE (eE (eE (eE (lL (AObj.cells 9 (RG.strC c 0 n) false 2)) nZ) nZ) nZ) nZ))) (eE (eE (eE (eE (eE (eE (lL (AObj.cells 26 [sS 126 0 n cap,sS 127 0 n' cap',iI kn,Value.slice none 0 9223372036854775808] true 2)) nZ) nZ) nZ) nZ) (eE (eE (eE (eE (lL (AObj.cells 26 [Value.slice none 0 0,Value.slice none 0 0,iI 0,Value.slice none 0 0] true 2)) nZ) nZ) nZ) nZ)) (eE (eE (eE (eE (eE (lL (AObj.cells 26 [Value.slice none 0 0,Value.slice none 0 0,iI 0,Value.slice none 0 0] true 2)) nZ) nZ) nZ) nZ) (eE (eE (eE (eE (lL (AObj.cells 3 (RG.cutC (splice (RG.cutC c' 0 n') (0+q8.toNat * 1) [iI 0]) 0 n') false 2)) nZ) nZ) nZ) (eE nZ (eE nZ (lL (AObj.cells ty c false 0))))))),135⟩;W.holds η prog B 3 (fun kp_ st_=>RunD η prog B 3 (H0 tb ty ty' n n' cap cap' c c' kn xb) kp_ st_ (QF prog 128 D)) D (.call 7 [Value.agg ⟨[Value.slice (some ⟨126,0,none⟩) n cap,Value.slice (some ⟨127,0,none⟩) n' cap',Value.int IntKind.i64 kn,Value.slice none 0 9223372036854775808]⟩] (q5) (.ret (Value.bool (RG.farB c n c' n' kn 0)) (q5)) (.ite (RG.farB c n c' n' kn (0:Nat)) q3 (.call 8 [Value.agg ⟨[Value.slice (some ⟨126,0,none⟩) n cap,Value.slice (some ⟨127,0,none⟩) n' cap',Value.int IntKind.i64 kn,Value.slice none 0 9223372036854775808]⟩] (q5) (.ret (Value.int IntKind.i64 0) (q5)) (.ite ((↑n:Int) == (0:Int)) q3 (.need ((↑n:Int) ≠ (0:Int)) (.call 8 [Value.agg ⟨[Value.slice (some ⟨126,0,none⟩) n cap,Value.slice (some ⟨127,0,none⟩) n' cap',Value.int IntKind.i64 kn,Value.slice none 0 9223372036854775808]⟩] (q4) (.ret (Value.int IntKind.i64 0) (q4)) (.ite (decide ((IntKind.i64.wrap xb).tmod (↑n:Int)<(0:Int))) q7 (.ite (decide ((IntKind.i64.wrap xb).tmod (↑n:Int) ≥ (↑n:Int))) q7 (.call 19 [Value.slice (some ⟨127,0,none⟩) n' cap'] (q4) (.ret (Value.slice (some ⟨131,0,none⟩) n' 9223372036854775809) (⟨nS (AObj.cells 115 tb true 0) (eE (eE (eE (eE (eE (eE (lL (AObj.cells ty' c' false 0)) nZ) nZ) nZ) nZ) (eE (eE (eE (eE (lL (AObj.cells 3 (RG.cutC c' 0 n') false 2)) nZ) nZ) nZ) nZ)) q6) (eE q6 (eE (eE (eE (eE (eE (lL (AObj.cells 26 [Value.slice none 0 0,Value.slice none 0 0,iI 0,Value.slice none 0 0] true 2)) nZ) nZ) nZ) nZ) (eE nZ (eE nZ (eE nZ (lL (AObj.cells ty c false 0))))))),132⟩)) (.need ((0:Int)≤(IntKind.i64.wrap xb).tmod (↑n:Int)∧(IntKind.i64.wrap xb).tmod (↑n:Int)<(↑n':Int)) (.need ((0:Nat)+q8.toNat * (1:Nat)+(1:Nat)≤(RG.cutC c' (0:Nat) n').length) (.call 27 [Value.slice (some ⟨126,0,none⟩) n cap,Value.slice (some ⟨131,0,none⟩) n' 9223372036854775809,Value.int IntKind.i64 kn] (q2) (.ret (Value.int IntKind.i64 0) (q2)) (.call 28 [Value.slice (some ⟨126,0,none⟩) n cap] (q2) (.ret (Value.slice (some ⟨133,0,none⟩) n n) (q1)) (.call 19 [Value.slice (some ⟨131,0,none⟩) n' 9223372036854775809] (q1) (.ret (Value.slice (some ⟨134,0,none⟩) n' 9223372036854775809) (q0)) (.call 29 [Value.slice (some ⟨126,0,none⟩) n cap,Value.slice (some ⟨131,0,none⟩) n' 9223372036854775809,Value.int IntKind.i64 kn] (q0) (.ret (Value.slice none 0 0) (q0)) (.ite ((↑n:Int) != (↑n:Int)) q7 (.need (NoNames tb∧NoNames c∧NoNames c'∧True∧True∧NoNames (RG.strC c (0:Nat) n)∧NoNames (RG.cutC (splice (RG.cutC c' (0:Nat) n') ((0:Nat)+q8.toNat * (1:Nat)) [Value.int IntKind.i64 (0:Int)]) (0:Nat) n')∧True) (.stop [2,3,7,8,10] (S0 tb ty ty' n n' cap cap' c c' kn xb q8 (RG.cutC (splice (RG.cutC c' 0 n') (0+q8.toNat * 1) [Value.int IntKind.i64 0]) 0 n') (RG.strC c 0 n) (fun _=>undef))))))))))))))))))))):CallSpec η prog B 3 [Value.agg ⟨[Value.slice (some ⟨126,0,none⟩) n cap,Value.slice (some ⟨127,0,none⟩) n' cap',Value.int IntKind.i64 kn,Value.slice none 0 9223372036854775808]⟩,Value.int IntKind.u8 xb,Value.slice none 0 9223372036854775808] (H0 tb ty ty' n n' cap cap' c c' kn xb) D:=by
 refine CallSpec.ofQF hη (CallSpec.enter (fr:=(E tb ty ty' n n' cap cap' c c' kn xb).fr) (by kernel_rfl) ?_)
 exact walk_okT (h0:=H0 tb ty ty' n n' cap cap' c c' kn xb) hη hmix hreg (.steps 9 <| .call kN <| .steps 1 <| .bit 19 (.steps 19 <| .call kN <| .steps 3 <| .done (some ⟨128,[],[(0,(0,true)),(126,(126,true)),(127,(127,true))]⟩)) (.steps 6 <| .call kN <| .steps 9 <| .bit 34 (.steps 3 <| .call kN <| .steps 3 <| .done (some ⟨128,[],[(0,(0,true)),(126,(126,true)),(127,(127,true))]⟩)) (.steps 9 <| .op <| .steps 17 <| .call kN <| .steps 15 <| .bit 18 (.steps 44 <| .done (some ⟨128,[],[(0,(0,true)),(126,(126,true)),(127,(127,true))]⟩)) (.steps 7 <| .bit 24 (.steps 37 <| .done (some ⟨128,[],[(0,(0,true)),(126,(126,true)),(127,(127,true))]⟩)) (.steps 6 <| .call kN <| .steps 7 <| .op <| .op <| .steps 20 <| .call kN <| .steps 12 <| .call kN <| .steps 1 <| .call kN <| .steps 4 <| .call kN <| .steps 35 <| .bit 58 (.steps 6 <| .done (some ⟨128,[],[(0,(0,true)),(126,(126,true)),(127,(127,true))]⟩)) (.steps 9 <| .stop [2,3,7,8,10] (some ⟨132,[(128,128),(135,129),(133,130),(134,131)],[(0,(0,true)),(126,(126,true)),(127,(127,true)),(128,(128,false)),(129,(135,false)),(130,(133,true)),(131,(134,true))]⟩))))))) (E tb ty ty' n n' cap cap' c c' kn xb) (by kernel_rfl) h (by kernel_rfl)
theorem cut0{η:Nat→Value}{B:Bd}(hη:OneCells η)(hmix:prog.follows .mixedOrders=true)(hreg:RegOk η prog B noNest){D:Value→AH→Prop}(tb:List Value)(ty ty' n n' cap cap':Nat)(c c':List Value)(kn xb i0:Int)(l0 l1:List Value)(h:let q0:AH:=⟨nS (AObj.cells 115 tb true 0) (eE (eE (eE (eE (eE (eE (lL (AObj.cells ty' c' false 0)) nZ) nZ) nZ) nZ) (eE (eE (eE (eE (lL (AObj.cells 3 l0 false 2)) nZ) nZ) nZ) nZ)) (eE (eE (eE (eE (eE (lL (AObj.cells 26 [sS 130 0 n n,sS 131 0 n' 9223372036854775809,iI kn,Value.slice none 0 0] true 2)) nZ) nZ) nZ) nZ) nZ)) (eE (eE (eE (eE (eE (eE (lL (AObj.cells 26 [sS 126 0 n cap,sS 127 0 n' cap',iI kn,Value.slice none 0 9223372036854775808] true 2)) nZ) nZ) nZ) nZ) nZ) (eE (eE (eE (eE (eE (lL (AObj.cells 9 l1 false 2)) nZ) nZ) nZ) nZ) (eE nZ (eE nZ (eE nZ (lL (AObj.cells ty c false 0))))))),132⟩;W.holds η prog B 3 (fun kp_ st_=>RunD η prog B 3 (H0 tb ty ty' n n' cap cap' c c' kn xb) kp_ st_ (QF prog 128 D)) D (.call 9 [] (q0) (.ret (Value.bool true) (q0)) (.need (NoNames tb∧NoNames c∧NoNames c'∧True) (.done 3 (Value.bool true) (H0 tb ty ty' n n' cap cap' c c' kn xb))))):RunD η prog B 3 (H0 tb ty ty' n n' cap cap' c c' kn xb) [2,3,7,8,10] (S0 tb ty ty' n n' cap cap' c c' kn xb i0 l0 l1 fun _=>undef) (QF prog 128 D):=by
 refine RunD.intro (S0 tb ty ty' n n' cap cap' c c' kn xb i0 l0 l1) (fun d=>⟨rfl,rfl,rfl⟩) (fun d=>tmOk_get (by kernel_rfl)) (fun d=>by kernel_rfl) (fun d=>?_)
 exact walk_okT (h0:=H0 tb ty ty' n n' cap cap' c c' kn xb) hη hmix hreg (.steps 12 <| .call kN <| .steps 3 <| .done (some ⟨128,[],[(0,(0,true)),(126,(126,true)),(127,(127,true))]⟩)) (S0 tb ty ty' n n' cap cap' c c' kn xb i0 l0 l1 d) (by kernel_rfl) h (by kernel_rfl)
end LvEEE
end Go.Ev

/- Rings of backends: the law of a backend that leaves, where there are points. -/
namespace Go.Ev
open Go Go.Proofs
variable {η:Nat→Value} {B:Bd}
namespace RG
theorem intV_get{a:List Int}{j:Nat}{z:Int}(h:a[j]? = some z):(intV a)[j]? = some (.int .i64 z)∧intAt (intV a) j=z:=by
 have e:(intV a)[j]? = some (.int .i64 z):=by unfold intV;rw [List.getElem?_map,h];rfl
 refine⟨e,?_⟩
 unfold intAt
 rw [e]
set_option maxRecDepth 20000 in
set_option maxHeartbeats 8000000 in
theorem leaveNNN_can(hη:OneCells η)(hmix:Tryd.prog.follows .mixedOrders=true){ty ty' ty2 ty3 n n' nk cap cap' cap2 cap3:Nat}{c c' c3:List Value}{l:List (Int × Int)}{k xb:Int}(hc:RowS c 0 n)(hc':RowI c' 0 n')(hcap:isU cap=false)(hcn:n≤cap)(hne:l ≠ [])(h3:RowS c3 0 nk)(bb:0≤xb∧xb<256)(hck:ckR c 0 n c' 0 n' k l=0)(hz:∀ t,t<n→(xb.tmod (n:Int)=(t:Int))→l.filter (notB t) ≠ []) :
  CallSpec η Tryd.prog B 3 [.agg ⟨[.slice (some ⟨126,0,none⟩) n cap,.slice (some ⟨127,0,none⟩) n' cap',.int .i64 k,.slice (some ⟨128,0,none⟩) l.length cap2]⟩,.int .u8 xb,.slice (some ⟨129,0,none⟩) nk cap3] (heapTT tabR [(ty,c),(ty',c'),(ty2,ptV l),(ty3,c3)]) fun v _=>v = .bool true:=by
 have nc:=nn_of hc.1
 have nc':=nn_of hc'.1
 have n3:=nn_of h3.1
 have np:=nn_of pow_bare
 have nl:=nn_of (ptV_bare l)
 obtain⟨hch,el⟩:=ckR_zero hck
 have k0:=chk_zero hch
 have en:n'=n:=k0.eq
 subst en
 have hn0:=k0.n0
 have n16:=k0.n16
 obtain⟨t,ht,et⟩:=tm_lt bb hn0
 have kf:=fun (H:AH) q0 q1 q2=>farNNN_any (B:=B) (H:=H) (r:=126) (ty:=ty) (own:=0) (cap:=cap) (n:=n') (r':=127) (ty':=ty') (own':=0) (cap':=cap') (n':=n') (r2:=128) (ty2:=ty2) (own2:=0) (cap2:=cap2) (m:=l.length) (k:=k) hη hmix q0 q1 q2 (by decide) (by decide) (by decide) hc hc' (ptV_bare l)
 have aw:=fun (H:AH)=>FN.awake_ok (B:=B) hη hmix H
 have cut0:=fun i0 n0 l0 l1 l2 i1=>LvNNN.cut0 (η:=η) (B:=B) (D:=fun v _=>v = .bool true) hη hmix (reg0 hη hmix) pow ty ty' ty2 ty3 n' n' l.length nk cap cap' cap2 cap3 c c' (ptV l) c3 k xb i0 n0 l0 l1 l2 i1
 refine LvNNN.enter hη hmix (reg0 hη hmix) pow ty ty' ty2 ty3 n' n' l.length nk cap cap' cap2 cap3 c c' (ptV l) c3 k xb ?_
 simp only [W.holds,true_and,and_true,true_implies,decide_eq_true_eq,decide_eq_false_iff_not,eq_self,implies_true,forall_const,bne_iff_ne,ne_eq,bne_eq_false_iff_eq,Nat.mul_one,Nat.zero_add,beq_iff_eq,beq_eq_false_iff_ne,not_true_eq_false,false_implies,Int.toNat_natCast,et,ordN_eq,ordC_eq,fnP_ptV] at cut0 ⊢
 refine⟨kf _ (by kernel_rfl) (by kernel_rfl) (by kernel_rfl),fun _=>⟨aw _,⟨np,nc,nc',nl,n3⟩⟩,fun hf=>⟨fun _=>⟨aw _,⟨np,nc,nc',nl,n3⟩⟩,fun hk=>?_⟩⟩
 obtain⟨hn20,hn20',hm,hln⟩:=far_no hf
 have hl:∀ i,i<n'→(strAt c (0+i)).length≤1000000:=fun i hi=>by have:=hln i hi;rw [Nat.zero_add];omega
 have hl2:∀ i,i<n'→(strAt c (0+i)).length≤1000:=fun i hi=>by have:=hln i hi;rw [Nat.zero_add];omega
 have hI:ckI c 0 n' c' 0 n' k (ptV l) l.length=0:=by rw [ckI_eq];exact hck
 have ck:=fun (H:AH) ht h0 h1 h2=>ckN_any (B:=B) (H:=H) (r:=126) (r':=127) (r2:=128) (ty:=ty) (ty':=ty') (ty2:=ty2) (own:=0) (own':=0) (own2:=0) (o:=0) (o':=0) (cap:=cap) (cap':=cap') (cap2:=cap2) (k:=k) hη hmix ht h0 h1 h2 (by decide) (by decide) (by decide) (by decide) hc hc' hl hcap hcn (show l.length≤1000000 by omega) hne
 simp only [hI] at ck
 clear kf hf
 have hzr:=zer_row (t:=t) hc' ht
 have hzc:=zer_chk hc' hch ht
 have hzp:=zer_pts (c:=c) (k:=k) hc' ht
 rw [← el] at hzp
 have k1:=chk_zero hzc
 have hzl:=cutC_len hc'
 have e1:srtP c 0 (zer c' n' t) 0 k n'=ptV (ptsS c 0 (zer c' n' t) 0 k n'):=by unfold srtP;rfl
 have e2:lenP c 0 (zer c' n' t) 0 k n'=(ptsS c 0 (zer c' n' t) 0 k n').length:=by unfold lenP ptsS;rw [List.length_mergeSort]
 have etx:xb.tmod (n':Int)=(t:Int):=by rw [wrap_small (by omega) (by omega)] at et;exact et
 have hpz:ptsS c 0 (zer c' n' t) 0 k n' ≠ []:=by rw [hzp];exact hz t ht etx
 have hsort:l.Pairwise fun p q=>p.1≤q.1:=by rw [el];exact ptsS_sorted _ _ _ _ _ _
 have facts:=fun h=>leave_facts (h:=h) hne hsort hzp
 have npp:=nn_of (ptV_bare (ptsS c 0 (zer c' n' t) 0 k n'))
 have nst:=nn_of (strC_row (c:=c) (o:=0) (n:=n')).1
 have nwt:=nn_of (cutC_row hzr).1
 have hlen:(allP c 0 (zer c' n' t) 0 k n' 0).length≤100000:=by
  have:=allP_len (c:=c) (o:=0) (c':=zer c' n' t) (o':=0) k1.kk n' 0 fun j _ hj=>k1.w j (by omega)
  omega
 have hzz:allP c 0 (zer c' n' t) 0 k n' 0 ≠ []:=fun q=>hpz (ptsS_nil.2 q)
 have hpl:(ptsS c 0 (zer c' n' t) 0 k n').length≤1000000:=by unfold ptsS;rw [List.length_mergeSort];omega
 have lp:∀ (m i:Nat),i+m=nk→RunD η Tryd.prog B 3 (LvNNN.H0 pow ty ty' ty2 ty3 n' n' l.length nk cap cap' cap2 cap3 c c' (ptV l) c3 k xb) [2,3,7,8,10] (LvNNN.S0 pow ty ty' ty2 ty3 n' n' l.length nk cap cap' cap2 cap3 c c' (ptV l) c3 k xb (t:Int) (ptsS c 0 (zer c' n' t) 0 k n').length (cutC (zer c' n' t) 0 n') (strC c 0 n') (ptV (ptsS c 0 (zer c' n' t) 0 k n')) (i:Int) fun _=>undef) (QF Tryd.prog 130 fun v _=>v = .bool true):=by
  intro m
  induction m with
  | zero=>
   intro i hi
   exact cut0 _ _ _ _ _ _ ⟨fun q=>by omega,fun _=>⟨aw _,⟨np,nc,nc',nl,n3⟩⟩⟩
  | succ m ih=>
   intro i hi
   have c1:=cut0 (t:Int) (ptsS c 0 (zer c' n' t) 0 k n').length (cutC (zer c' n' t) 0 n') (strC c 0 n') (ptV (ptsS c 0 (zer c' n' t) 0 k n')) (i:Int)
   simp only [w1 i (by omega),Int.toNat_natCast,fnP_ptV,np,nc,nc',nl,n3,npp,nst,nwt,and_true,true_and,true_implies] at c1
   have ih1:=ih (i+1) (by omega)
   have hkey:=h3.2 i (by omega)
   rw [Nat.zero_add] at hkey
   refine c1 ?_
   clear c1 ih cut0
   simp only [hkey,true_and,true_implies]
   obtain⟨⟨o1,o0⟩,f2,_⟩:=facts (hsK (strAt c3 i))
   obtain⟨a1,a2,a3⟩:=f2 hpz
   have i0:=intV_get o0
   refine⟨fun _=>⟨by omega,fun _=>⟨fun _=>aw _,fun hs=>?_⟩⟩,fun q=>by omega⟩
   have g1:=fun (H:AH) ht h0 h1 h2=>fnN_any (B:=B) (H:=H) (r:=126) (r':=127) (r2:=128) (ty:=ty) (ty':=ty') (ty2:=ty2) (own:=0) (own':=0) (own2:=0) (o:=0) (o':=0) (cap:=cap) (cap':=cap') (cap2:=cap2) (k:=k) (s:=strAt c3 i) hη hmix ht h0 h1 h2 (by decide) (by decide) (by decide) (by decide) hc hc' hl hcap hcn (show l.length≤1000000 by omega) hne hck (by omega)
   have g2:=fun (H:AH) ht h0 h1 h2=>oRI_any (B:=B) (H:=H) (r:=126) (r':=127) (r2:=128) (ty:=ty) (ty':=ty') (ty2:=ty2) (own:=0) (own':=0) (own2:=0) (cap:=cap) (cap':=cap') (cap2:=cap2) (k:=k) (s:=strAt c3 i) hη hmix ht h0 h1 h2 (by decide) (by decide) (by decide) (by decide) hc hc' hl hcap hcn (show l.length≤100000 by omega) hne hck (by omega)
   have g3:=fun (H:AH) ht h0 h1 h2=>fnN_any (B:=B) (H:=H) (r:=132) (r':=133) (r2:=134) (ty:=9) (ty':=3) (ty2:=55) (own:=2) (own':=2) (own2:=2) (o:=0) (o':=0) (n:=n') (n':=n') (cap:=n') (cap':=9223372036854775809) (cap2:=9223372036854775810) (k:=k) (s:=strAt c3 i) hη hmix ht h0 h1 h2 (by decide) (by decide) (by decide) (by decide) strC_row (cutC_row hzr) (fun j hj=>by rw [strC_at hj];exact hl j hj) (isU_small (by omega)) (Nat.le_refl _) hpl hpz (copied_ck hzc) (by omega)
   refine⟨by omega,fun _=>⟨g1 _ (hasT1 (by kernel_rfl)) (by kernel_rfl) (by kernel_rfl) (by kernel_rfl),by omega,fun _=>⟨(g2 _ (hasT1 (by kernel_rfl)) (by kernel_rfl) (by kernel_rfl) (by kernel_rfl)).conv (by kernel_rfl),fun hb=>⟨by omega,fun _=>⟨g3 _ (hasT1 (by kernel_rfl)) (by kernel_rfl) (by kernel_rfl) (by kernel_rfl),fun hx=>?_,fun hx=>⟨fun hy=>absurd (a1 hx) hy,fun _=>⟨fun hy=>absurd hy a2,fun _=>ih1⟩⟩⟩⟩,fun hb=>⟨by omega,fun _=>⟨g3 _ (hasT1 (by kernel_rfl)) (by kernel_rfl) (by kernel_rfl) (by kernel_rfl),fun h0=>absurd h0 (by omega),fun _=>⟨by omega,fun _=>⟨by rw [i0.2];exact i0.1,fun _=>⟨fun hy=>absurd i0.2 hy,fun _=>⟨fun hx=>?_,fun hx=>?_⟩⟩⟩⟩⟩⟩⟩⟩⟩
   ·exact absurd (Nat.eq_of_beq_eq_true hb) (by have:=(a3 hx).1;omega)
   ·have i1:=intV_get (a3 hx).2
    have h2:=(a3 hx).1
    exact⟨by omega,fun _=>⟨fun h0=>absurd h0 (by omega),fun _=>⟨fun _=>⟨by omega,fun _=>⟨by rw [i1.2];exact i1.1,fun _=>⟨fun hy=>absurd i1.2.symm hy,fun _=>⟨fun hy=>absurd hy a2,fun _=>ih1⟩⟩⟩⟩,fun _=>ih1⟩⟩⟩
   ·exact⟨fun h0=>absurd h0 (by omega),fun _=>⟨fun _=>⟨by omega,fun _=>⟨by rw [i0.2];exact i0.1,fun _=>⟨fun hy=>absurd ((a1 hx).trans i0.2.symm) hy,fun _=>⟨fun hy=>absurd hy a2,fun _=>ih1⟩⟩⟩⟩,fun _=>ih1⟩⟩
 clear cut0
 have loop:=lp nk 0 (by omega)
 have z0:splice (cutC c' 0 n') t [Value.int IntKind.i64 0]=zer c' n' t:=rfl
 have q1:=fun (H:AH) h1=>clo_any (B:=B) (H:=H) (r:=127) (ty:=ty') (cap:=cap') (own:=0) hη hmix h1 hc' (by omega) hn0
 have q2:=fun (H:AH) h0 h1=>chkI_any (B:=B) (H:=H) (r:=126) (r':=133) (ty:=ty) (ty':=3) (o:=0) (o':=0) (own:=0) (own':=2) (cap:=cap) (cap':=9223372036854775809) (k:=k) hη hmix h0 h1 (by decide) hc hzr hl hcap hcn
 simp only [hzc] at q2
 have q3:=fun (H:AH) h1=>(cpN_any (B:=B) (H:=H) (r:=126) (ty:=ty) (cap:=cap) (own:=0) hη hmix h1 hc (by omega) hl).unp
 have q4:=fun (H:AH) h1=>clo_any (B:=B) (H:=H) (r:=133) (ty:=3) (cap:=9223372036854775809) (own:=2) hη hmix h1 hzr (by omega) hn0
 have q5:=fun (H:AH) ht h1 h2=>ptN_any (B:=B) (H:=H) (r:=126) (r':=133) (ty:=ty) (ty':=3) (o:=0) (o':=0) (cap:=cap) (cap':=9223372036854775809) (own:=0) (own':=2) hη hmix ht h1 h2 (by decide) (by decide) (by decide) hc hzr rfl n16 k1.w k1.kk hl2 hlen hzz
 simp only [e1,e2] at q5
 simp only [z0,e1,e2]
 refine⟨ck _ (hasT1 (by kernel_rfl)) (by kernel_rfl) (by kernel_rfl) (by kernel_rfl),fun h=>absurd h (by omega),fun _=>⟨by omega,fun _=>⟨ck _ (hasT1 (by kernel_rfl)) (by kernel_rfl) (by kernel_rfl) (by kernel_rfl),fun h=>absurd h (by omega),fun _=>⟨fun h=>absurd h (by omega),fun _=>⟨(q1 _ (by kernel_rfl)).conv (by kernel_rfl),⟨by omega,by omega⟩,fun _=>⟨by rw [hzl];omega,fun _=>⟨q2 _ (by kernel_rfl) (by kernel_rfl),(q3 _ (by kernel_rfl)).conv (by kernel_rfl),(q4 _ (by kernel_rfl)).conv (by kernel_rfl),(q5 _ (hasT1 (by kernel_rfl)) (by kernel_rfl) (by kernel_rfl)).conv (by kernel_rfl),⟨np,nc,nc',nl,n3,nst,nwt,npp⟩,fun _=>loop⟩⟩⟩⟩⟩⟩⟩
end RG
end Go.Ev

/- Rings of backends: the law of a backend that leaves, in all shapes of points and keys (written by mkLV.py). -/
namespace Go.Ev
open Go Go.Proofs
variable {η:Nat→Value} {B:Bd}
namespace RG
set_option maxRecDepth 20000 in
set_option maxHeartbeats 4000000 in
theorem oRE_can(hη:OneCells η)(hmix:Tryd.prog.follows .mixedOrders=true){ty ty' n n' cap cap':Nat}{c c':List Value}{k:Int}{s:List UInt8}(hc:RowS c 0 n)(hc':RowI c' 0 n')(hl:∀ i,i<n→(strAt c (0+i)).length≤1000000)(hcap:isU cap=false)(hcn:n≤cap)(h0:ckR c 0 n c' 0 n' k []=0)(hs:s.length≤200) :
  CallSpec η Tryd.prog B 12 [.agg ⟨[.slice (some ⟨126,0,none⟩) n cap,.slice (some ⟨127,0,none⟩) n' cap',.int .i64 k,.slice none 0 9223372036854775808]⟩,.string ⟨⟨s⟩⟩] (heapTT tabR [(ty,c),(ty',c')]) fun v h=>v = .tuple ⟨[.slice none 0 0,.int .i64 4]⟩∧h=heapTT tabR [(ty,c),(ty',c')]:=by
 have nc:=nn_of hc.1
 have nc':=nn_of hc'.1
 have np:=nn_of pow_bare
 have hck:ckZ c 0 n c' 0 n' k=0:=by rw [ckZ_eq];exact h0
 have ck:=fun (H:AH) ht h1 h2=>ckE_any (B:=B) (H:=H) (r:=126) (r':=127) (ty:=ty) (ty':=ty') (own:=0) (own':=0) (o:=0) (o':=0) (cap:=cap) (cap':=cap') (k:=k) hη hmix ht h1 h2 (by decide) (by decide) hc hc' hl hcap hcn
 simp only [hck] at ck
 have hsz:((⟨⟨s⟩⟩:ByteArray).size:Int)=(s.length:Int):=rfl
 refine OOdE.enter hη hmix (reg0 hη hmix) pow ty ty' n n' cap cap' c c' k s ?_
 simp only [W.holds,true_and,and_true,true_implies,decide_eq_true_eq,decide_eq_false_iff_not]
 exact⟨ck _ (hasT1 (by kernel_rfl)) (by kernel_rfl) (by kernel_rfl),fun hq=>by rw [hsz] at hq;omega,fun _=>⟨⟨np,nc,nc'⟩,fun _=>by kernel_rfl⟩⟩
theorem oRE_any(hη:OneCells η)(hmix:Tryd.prog.follows .mixedOrders=true){H:AH}{r r' ty ty' n n' cap cap' own own':Nat}{c c':List Value}{k:Int}{s:List UInt8}(ht:HasT H tabR)(hr:H.objs.get r=some (.cells ty c false own))(hr':H.objs.get r'=some (.cells ty' c' false own'))(h1:r ≠ r')(hlo:126≤r∧126≤r')(hc:RowS c 0 n)(hc':RowI c' 0 n')(hl:∀ i,i<n→(strAt c (0+i)).length≤1000000)(hcap:isU cap=false)(hcn:n≤cap)(h0:ckR c 0 n c' 0 n' k []=0)(hs:s.length≤200) :
  CallSpec η Tryd.prog B 12 [.agg ⟨[.slice (some ⟨r,0,none⟩) n cap,.slice (some ⟨r',0,none⟩) n' cap',.int .i64 k,.slice none 0 9223372036854775808]⟩,.string ⟨⟨s⟩⟩] H (KT.ret (.tuple ⟨[.slice none 0 0,.int .i64 4]⟩) H).sat:=by
 refine CallSpec.pureRW (l:=[(ty,c),(ty',c')]) (t:=tabR) (rn:=fun i=>if i=0 then r else r') (args:=[.agg ⟨[.slice (some ⟨126,0,none⟩) n cap,.slice (some ⟨127,0,none⟩) n' cap',.int .i64 k,.slice none 0 9223372036854775808]⟩,.string ⟨⟨s⟩⟩]) hη FN.gs9 tabR_ok ht (rows2 hr hr' h1 hc.1 hc'.1) (fun i hi=>?_) (.cons (.agg rfl fun j y z e1 e2=>?_) (.cons (.string _) .nil)) (fun _ _=>.tuple rfl fun j y z e1 e2=>?_) (oRE_can hη hmix hc hc' hl hcap hcn h0 hs)
 ·have:=gs_lt
  show Tryd.prog.globals.size<if i=0 then r else r'
  split <;> omega
 ·match j,e1,e2 with
  | 0,e1,e2=>simp at e1 e2;subst e1;subst e2;exact .slice (σ:=sigR fun i=>if i=0 then r else r') (r:=126) _ _ (show 126<128 by decide)
  | 1,e1,e2=>simp at e1 e2;subst e1;subst e2;exact .slice (σ:=sigR fun i=>if i=0 then r else r') (r:=127) _ _ (show 127<128 by decide)
  | 2,e1,e2=>simp at e1 e2;subst e1;subst e2;exact .int _ _
  | 3,e1,e2=>simp at e1 e2;subst e1;subst e2;exact .slice0 _ _
  | j+4,e1,e2=>simp at e1
 ·match j,e1,e2 with
  | 0,e1,e2=>simp at e1 e2;subst e1;subst e2;exact .slice0 _ _
  | 1,e1,e2=>simp at e1 e2;subst e1;subst e2;exact .int _ _
  | j+2,e1,e2=>simp at e1
set_option maxRecDepth 20000 in
set_option maxHeartbeats 8000000 in
theorem leaveNNE_can(hη:OneCells η)(hmix:Tryd.prog.follows .mixedOrders=true){ty ty' ty2 n n' cap cap' cap2:Nat}{c c':List Value}{l:List (Int × Int)}{k xb:Int}(hc:RowS c 0 n)(hc':RowI c' 0 n')(hcap:isU cap=false)(hcn:n≤cap)(hne:l ≠ [])(bb:0≤xb∧xb<256)(hck:ckR c 0 n c' 0 n' k l=0)(hz:∀ t,t<n→(xb.tmod (n:Int)=(t:Int))→l.filter (notB t) ≠ []) :
  CallSpec η Tryd.prog B 3 [.agg ⟨[.slice (some ⟨126,0,none⟩) n cap,.slice (some ⟨127,0,none⟩) n' cap',.int .i64 k,.slice (some ⟨128,0,none⟩) l.length cap2]⟩,.int .u8 xb,.slice none 0 9223372036854775808] (heapTT tabR [(ty,c),(ty',c'),(ty2,ptV l)]) fun v _=>v = .bool true:=by
 have nc:=nn_of hc.1
 have nc':=nn_of hc'.1
 have np:=nn_of pow_bare
 have nl:=nn_of (ptV_bare l)
 obtain⟨hch,el⟩:=ckR_zero hck
 have k0:=chk_zero hch
 have en:n'=n:=k0.eq
 subst en
 have hn0:=k0.n0
 have n16:=k0.n16
 obtain⟨t,ht,et⟩:=tm_lt bb hn0
 have kf:=fun (H:AH) q0 q1 q2=>farNNN_any (B:=B) (H:=H) (r:=126) (ty:=ty) (own:=0) (cap:=cap) (n:=n') (r':=127) (ty':=ty') (own':=0) (cap':=cap') (n':=n') (r2:=128) (ty2:=ty2) (own2:=0) (cap2:=cap2) (m:=l.length) (k:=k) hη hmix q0 q1 q2 (by decide) (by decide) (by decide) hc hc' (ptV_bare l)
 have aw:=fun (H:AH)=>FN.awake_ok (B:=B) hη hmix H
 have cut0:=fun a0 a1 a2 a3 a4=>LvNNE.cut0 (η:=η) (B:=B) (D:=fun v _=>v = .bool true) hη hmix (reg0 hη hmix) pow ty ty' ty2 n' n' l.length cap cap' cap2 c c' (ptV l) k xb a0 a1 a2 a3 a4
 refine LvNNE.enter hη hmix (reg0 hη hmix) pow ty ty' ty2 n' n' l.length cap cap' cap2 c c' (ptV l) k xb ?_
 simp only [W.holds,true_and,and_true,true_implies,decide_eq_true_eq,decide_eq_false_iff_not,eq_self,implies_true,forall_const,bne_iff_ne,ne_eq,bne_eq_false_iff_eq,Nat.mul_one,Nat.zero_add,beq_iff_eq,beq_eq_false_iff_ne,not_true_eq_false,false_implies,Int.toNat_natCast,et,ordN_eq,ordC_eq,fnP_ptV] at cut0 ⊢
 refine⟨kf _ (by kernel_rfl) (by kernel_rfl) (by kernel_rfl),fun _=>⟨aw _,⟨np,nc,nc',nl⟩⟩,fun hf=>?_⟩
 obtain⟨hn20,hn20',hm,hln⟩:=far_no hf
 have hl:∀ i,i<n'→(strAt c (0+i)).length≤1000000:=fun i hi=>by have:=hln i hi;rw [Nat.zero_add];omega
 have hl2:∀ i,i<n'→(strAt c (0+i)).length≤1000:=fun i hi=>by have:=hln i hi;rw [Nat.zero_add];omega
 have hI:ckI c 0 n' c' 0 n' k (ptV l) l.length=0:=by rw [ckI_eq];exact hck
 have ck:=fun (H:AH) ht h0 h1 h2=>ckN_any (B:=B) (H:=H) (r:=126) (r':=127) (r2:=128) (ty:=ty) (ty':=ty') (ty2:=ty2) (own:=0) (own':=0) (own2:=0) (o:=0) (o':=0) (cap:=cap) (cap':=cap') (cap2:=cap2) (k:=k) hη hmix ht h0 h1 h2 (by decide) (by decide) (by decide) (by decide) hc hc' hl hcap hcn (show l.length≤1000000 by omega) hne
 simp only [hI] at ck
 clear kf hf
 have hzr:=zer_row (t:=t) hc' ht
 have hzc:=zer_chk hc' hch ht
 have hzp:=zer_pts (c:=c) (k:=k) hc' ht
 rw [← el] at hzp
 have k1:=chk_zero hzc
 have hzl:=cutC_len hc'
 have e1:srtP c 0 (zer c' n' t) 0 k n'=ptV (ptsS c 0 (zer c' n' t) 0 k n'):=by unfold srtP;rfl
 have e2:lenP c 0 (zer c' n' t) 0 k n'=(ptsS c 0 (zer c' n' t) 0 k n').length:=by unfold lenP ptsS;rw [List.length_mergeSort]
 have etx:xb.tmod (n':Int)=(t:Int):=by rw [wrap_small (by omega) (by omega)] at et;exact et
 have hpz:ptsS c 0 (zer c' n' t) 0 k n' ≠ []:=by rw [hzp];exact hz t ht etx
 have hsort:l.Pairwise fun p q=>p.1≤q.1:=by rw [el];exact ptsS_sorted _ _ _ _ _ _
 have facts:=fun h=>leave_facts (h:=h) hne hsort hzp
 have npp:=nn_of (ptV_bare (ptsS c 0 (zer c' n' t) 0 k n'))
 have nst:=nn_of (strC_row (c:=c) (o:=0) (n:=n')).1
 have nwt:=nn_of (cutC_row hzr).1
 have hlen:(allP c 0 (zer c' n' t) 0 k n' 0).length≤100000:=by
  have:=allP_len (c:=c) (o:=0) (c':=zer c' n' t) (o':=0) k1.kk n' 0 fun j _ hj=>k1.w j (by omega)
  omega
 have hzz:allP c 0 (zer c' n' t) 0 k n' 0 ≠ []:=fun q=>hpz (ptsS_nil.2 q)
 have hpl:(ptsS c 0 (zer c' n' t) 0 k n').length≤1000000:=by unfold ptsS;rw [List.length_mergeSort];omega
 have loop:=cut0 (t:Int) (strC c 0 n') (ptV (ptsS c 0 (zer c' n' t) 0 k n')) (cutC (zer c' n' t) 0 n') (ptsS c 0 (zer c' n' t) 0 k n').length ⟨aw _,⟨np,nc,nc',nl⟩⟩
 clear cut0
 have z0:splice (cutC c' 0 n') t [Value.int IntKind.i64 0]=zer c' n' t:=rfl
 have q1:=fun (H:AH) h1=>clo_any (B:=B) (H:=H) (r:=127) (ty:=ty') (cap:=cap') (own:=0) hη hmix h1 hc' (by omega) hn0
 have q2:=fun (H:AH) h0 h1=>chkI_any (B:=B) (H:=H) (r:=126) (r':=132) (ty:=ty) (ty':=3) (o:=0) (o':=0) (own:=0) (own':=2) (cap:=cap) (cap':=9223372036854775809) (k:=k) hη hmix h0 h1 (by decide) hc hzr hl hcap hcn
 simp only [hzc] at q2
 have q3:=fun (H:AH) h1=>(cpN_any (B:=B) (H:=H) (r:=126) (ty:=ty) (cap:=cap) (own:=0) hη hmix h1 hc (by omega) hl).unp
 have q4:=fun (H:AH) h1=>clo_any (B:=B) (H:=H) (r:=132) (ty:=3) (cap:=9223372036854775809) (own:=2) hη hmix h1 hzr (by omega) hn0
 have q5:=fun (H:AH) ht h1 h2=>ptN_any (B:=B) (H:=H) (r:=126) (r':=132) (ty:=ty) (ty':=3) (o:=0) (o':=0) (cap:=cap) (cap':=9223372036854775809) (own:=0) (own':=2) hη hmix ht h1 h2 (by decide) (by decide) (by decide) hc hzr rfl n16 k1.w k1.kk hl2 hlen hzz
 simp only [e1,e2] at q5
 simp only [z0,e1,e2]
 refine⟨ck _ (hasT1 (by kernel_rfl)) (by kernel_rfl) (by kernel_rfl) (by kernel_rfl),fun h=>absurd h (by omega),fun _=>⟨by omega,fun _=>⟨ck _ (hasT1 (by kernel_rfl)) (by kernel_rfl) (by kernel_rfl) (by kernel_rfl),fun h=>absurd h (by omega),fun _=>⟨fun h=>absurd h (by omega),fun _=>⟨(q1 _ (by kernel_rfl)).conv (by kernel_rfl),⟨by omega,by omega⟩,fun _=>⟨by rw [hzl];omega,fun _=>⟨q2 _ (by kernel_rfl) (by kernel_rfl),(q3 _ (by kernel_rfl)).conv (by kernel_rfl),(q4 _ (by kernel_rfl)).conv (by kernel_rfl),(q5 _ (hasT1 (by kernel_rfl)) (by kernel_rfl) (by kernel_rfl)).conv (by kernel_rfl),⟨np,nc,nc',nl,nst,nwt,npp⟩,fun _=>loop⟩⟩⟩⟩⟩⟩⟩
set_option maxRecDepth 20000 in
set_option maxHeartbeats 8000000 in
theorem leaveNEN_can(hη:OneCells η)(hmix:Tryd.prog.follows .mixedOrders=true){ty ty' ty2 ty3 n n' nk cap cap' cap2 cap3:Nat}{c c' c3:List Value}{l:List (Int × Int)}{k xb:Int}(hc:RowS c 0 n)(hc':RowI c' 0 n')(hcap:isU cap=false)(hcn:n≤cap)(hne:l ≠ [])(h3:RowS c3 0 nk)(bb:0≤xb∧xb<256)(hck:ckR c 0 n c' 0 n' k l=0)(hz:∀ t,t<n→(xb.tmod (n:Int)=(t:Int))→l.filter (notB t)=[]) :
  CallSpec η Tryd.prog B 3 [.agg ⟨[.slice (some ⟨126,0,none⟩) n cap,.slice (some ⟨127,0,none⟩) n' cap',.int .i64 k,.slice (some ⟨128,0,none⟩) l.length cap2]⟩,.int .u8 xb,.slice (some ⟨129,0,none⟩) nk cap3] (heapTT tabR [(ty,c),(ty',c'),(ty2,ptV l),(ty3,c3)]) fun v _=>v = .bool true:=by
 have nc:=nn_of hc.1
 have nc':=nn_of hc'.1
 have n3:=nn_of h3.1
 have np:=nn_of pow_bare
 have nl:=nn_of (ptV_bare l)
 obtain⟨hch,el⟩:=ckR_zero hck
 have k0:=chk_zero hch
 have en:n'=n:=k0.eq
 subst en
 have hn0:=k0.n0
 have n16:=k0.n16
 obtain⟨t,ht,et⟩:=tm_lt bb hn0
 have kf:=fun (H:AH) q0 q1 q2=>farNNN_any (B:=B) (H:=H) (r:=126) (ty:=ty) (own:=0) (cap:=cap) (n:=n') (r':=127) (ty':=ty') (own':=0) (cap':=cap') (n':=n') (r2:=128) (ty2:=ty2) (own2:=0) (cap2:=cap2) (m:=l.length) (k:=k) hη hmix q0 q1 q2 (by decide) (by decide) (by decide) hc hc' (ptV_bare l)
 have aw:=fun (H:AH)=>FN.awake_ok (B:=B) hη hmix H
 have cut0:=fun a0 a1 a2 a3=>LvNEN.cut0 (η:=η) (B:=B) (D:=fun v _=>v = .bool true) hη hmix (reg0 hη hmix) pow ty ty' ty2 ty3 n' n' l.length nk cap cap' cap2 cap3 c c' (ptV l) c3 k xb a0 a1 a2 a3
 refine LvNEN.enter hη hmix (reg0 hη hmix) pow ty ty' ty2 ty3 n' n' l.length nk cap cap' cap2 cap3 c c' (ptV l) c3 k xb ?_
 simp only [W.holds,true_and,and_true,true_implies,decide_eq_true_eq,decide_eq_false_iff_not,eq_self,implies_true,forall_const,bne_iff_ne,ne_eq,bne_eq_false_iff_eq,Nat.mul_one,Nat.zero_add,beq_iff_eq,beq_eq_false_iff_ne,not_true_eq_false,false_implies,Int.toNat_natCast,et,ordN_eq,ordC_eq,fnP_ptV] at cut0 ⊢
 refine⟨kf _ (by kernel_rfl) (by kernel_rfl) (by kernel_rfl),fun _=>⟨aw _,⟨np,nc,nc',nl,n3⟩⟩,fun hf=>⟨fun _=>⟨aw _,⟨np,nc,nc',nl,n3⟩⟩,fun hk=>?_⟩⟩
 obtain⟨hn20,hn20',hm,hln⟩:=far_no hf
 have hl:∀ i,i<n'→(strAt c (0+i)).length≤1000000:=fun i hi=>by have:=hln i hi;rw [Nat.zero_add];omega
 have hl2:∀ i,i<n'→(strAt c (0+i)).length≤1000:=fun i hi=>by have:=hln i hi;rw [Nat.zero_add];omega
 have hI:ckI c 0 n' c' 0 n' k (ptV l) l.length=0:=by rw [ckI_eq];exact hck
 have ck:=fun (H:AH) ht h0 h1 h2=>ckN_any (B:=B) (H:=H) (r:=126) (r':=127) (r2:=128) (ty:=ty) (ty':=ty') (ty2:=ty2) (own:=0) (own':=0) (own2:=0) (o:=0) (o':=0) (cap:=cap) (cap':=cap') (cap2:=cap2) (k:=k) hη hmix ht h0 h1 h2 (by decide) (by decide) (by decide) (by decide) hc hc' hl hcap hcn (show l.length≤1000000 by omega) hne
 simp only [hI] at ck
 clear kf hf
 have hzr:=zer_row (t:=t) hc' ht
 have hzc:=zer_chk hc' hch ht
 have hzp:=zer_pts (c:=c) (k:=k) hc' ht
 rw [← el] at hzp
 have k1:=chk_zero hzc
 have hzl:=cutC_len hc'
 have e1:srtP c 0 (zer c' n' t) 0 k n'=ptV (ptsS c 0 (zer c' n' t) 0 k n'):=by unfold srtP;rfl
 have e2:lenP c 0 (zer c' n' t) 0 k n'=(ptsS c 0 (zer c' n' t) 0 k n').length:=by unfold lenP ptsS;rw [List.length_mergeSort]
 have etx:xb.tmod (n':Int)=(t:Int):=by rw [wrap_small (by omega) (by omega)] at et;exact et
 have hpz:ptsS c 0 (zer c' n' t) 0 k n'=[]:=by rw [hzp];exact hz t ht etx
 have hsort:l.Pairwise fun p q=>p.1≤q.1:=by rw [el];exact ptsS_sorted _ _ _ _ _ _
 have facts:=fun h=>leave_facts (h:=h) hne hsort hzp
 have nst:=nn_of (strC_row (c:=c) (o:=0) (n:=n')).1
 have nwt:=nn_of (cutC_row hzr).1
 have hlen:(allP c 0 (zer c' n' t) 0 k n' 0).length≤100000:=by
  have:=allP_len (c:=c) (o:=0) (c':=zer c' n' t) (o':=0) k1.kk n' 0 fun j _ hj=>k1.w j (by omega)
  omega
 have hzz:allP c 0 (zer c' n' t) 0 k n' 0=[]:=ptsS_nil.1 hpz
 have lp:∀ (m i:Nat),i+m=nk→RunD η Tryd.prog B 3 (LvNEN.H0 pow ty ty' ty2 ty3 n' n' l.length nk cap cap' cap2 cap3 c c' (ptV l) c3 k xb) [2,3,7,8,10] (LvNEN.S0 pow ty ty' ty2 ty3 n' n' l.length nk cap cap' cap2 cap3 c c' (ptV l) c3 k xb (t:Int) (cutC (zer c' n' t) 0 n') (strC c 0 n') (i:Int) fun _=>undef) (QF Tryd.prog 130 fun v _=>v = .bool true):=by
  intro m
  induction m with
  | zero=>
   intro i hi
   exact cut0 _ _ _ _ ⟨fun q=>by omega,fun _=>⟨aw _,⟨np,nc,nc',nl,n3⟩⟩⟩
  | succ m ih=>
   intro i hi
   have c1:=cut0 (t:Int) (cutC (zer c' n' t) 0 n') (strC c 0 n') (i:Int)
   simp only [w1 i (by omega),Int.toNat_natCast,fnP_ptV,np,nc,nc',nl,n3,nst,nwt,and_true,true_and,true_implies] at c1
   have ih1:=ih (i+1) (by omega)
   have hkey:=h3.2 i (by omega)
   rw [Nat.zero_add] at hkey
   refine c1 ?_
   clear c1 ih cut0
   simp only [hkey,true_and,true_implies]
   obtain⟨_,_,f3⟩:=facts (hsK (strAt c3 i))
   obtain⟨b1,b2⟩:=f3 hpz
   refine⟨fun _=>⟨by omega,fun _=>⟨fun _=>aw _,fun hs=>?_⟩⟩,fun q=>by omega⟩
   have g1:=fun (H:AH) ht h0 h1 h2=>fnN_any (B:=B) (H:=H) (r:=126) (r':=127) (r2:=128) (ty:=ty) (ty':=ty') (ty2:=ty2) (own:=0) (own':=0) (own2:=0) (o:=0) (o':=0) (cap:=cap) (cap':=cap') (cap2:=cap2) (k:=k) (s:=strAt c3 i) hη hmix ht h0 h1 h2 (by decide) (by decide) (by decide) (by decide) hc hc' hl hcap hcn (show l.length≤1000000 by omega) hne hck (by omega)
   have g2:=fun (H:AH) ht h0 h1 h2=>oRI_any (B:=B) (H:=H) (r:=126) (r':=127) (r2:=128) (ty:=ty) (ty':=ty') (ty2:=ty2) (own:=0) (own':=0) (own2:=0) (cap:=cap) (cap':=cap') (cap2:=cap2) (k:=k) (s:=strAt c3 i) hη hmix ht h0 h1 h2 (by decide) (by decide) (by decide) (by decide) hc hc' hl hcap hcn (show l.length≤100000 by omega) hne hck (by omega)
   have g3:=fun (H:AH) ht h0 h1=>(fnE_any (B:=B) (H:=H) (r:=132) (r':=133) (ty:=9) (ty':=3) (own:=2) (own':=2) (o:=0) (o':=0) (n:=n') (n':=n') (cap:=n') (cap':=9223372036854775809) (k:=k) (s:=strAt c3 i) hη hmix ht h0 h1 (by decide) (by decide) strC_row (cutC_row hzr) (fun j hj=>by rw [strC_at hj];exact hl j hj) (isU_small (by omega)) (Nat.le_refl _) (by rw [← hpz];exact copied_ck hzc) (by omega)).nilArg
   exact⟨by omega,fun _=>⟨g1 _ (hasT1 (by kernel_rfl)) (by kernel_rfl) (by kernel_rfl) (by kernel_rfl),by omega,fun _=>⟨(g2 _ (hasT1 (by kernel_rfl)) (by kernel_rfl) (by kernel_rfl) (by kernel_rfl)).conv (by kernel_rfl),fun hb=>⟨by omega,fun _=>⟨g3 _ (hasT1 (by kernel_rfl)) (by kernel_rfl) (by kernel_rfl),fun _=>ih1,fun hx=>absurd b1 hx⟩⟩,fun hb=>absurd hb (by rw [b2];decide)⟩⟩⟩
 clear cut0
 have loop:=lp nk 0 (by omega)
 have z0:splice (cutC c' 0 n') t [Value.int IntKind.i64 0]=zer c' n' t:=rfl
 have q1:=fun (H:AH) h1=>clo_any (B:=B) (H:=H) (r:=127) (ty:=ty') (cap:=cap') (own:=0) hη hmix h1 hc' (by omega) hn0
 have q2:=fun (H:AH) h0 h1=>chkI_any (B:=B) (H:=H) (r:=126) (r':=133) (ty:=ty) (ty':=3) (o:=0) (o':=0) (own:=0) (own':=2) (cap:=cap) (cap':=9223372036854775809) (k:=k) hη hmix h0 h1 (by decide) hc hzr hl hcap hcn
 simp only [hzc] at q2
 have q3:=fun (H:AH) h1=>(cpN_any (B:=B) (H:=H) (r:=126) (ty:=ty) (cap:=cap) (own:=0) hη hmix h1 hc (by omega) hl).unp
 have q4:=fun (H:AH) h1=>clo_any (B:=B) (H:=H) (r:=133) (ty:=3) (cap:=9223372036854775809) (own:=2) hη hmix h1 hzr (by omega) hn0
 have q5:=fun (H:AH) ht h1 h2=>ptE_any (B:=B) (H:=H) (r:=126) (r':=133) (ty:=ty) (ty':=3) (o:=0) (o':=0) (cap:=cap) (cap':=9223372036854775809) (own:=0) (own':=2) hη hmix ht h1 h2 (by decide) (by decide) (by decide) hc hzr rfl n16 k1.w k1.kk hl2 hzz
 simp only [z0]
 refine⟨ck _ (hasT1 (by kernel_rfl)) (by kernel_rfl) (by kernel_rfl) (by kernel_rfl),fun h=>absurd h (by omega),fun _=>⟨by omega,fun _=>⟨ck _ (hasT1 (by kernel_rfl)) (by kernel_rfl) (by kernel_rfl) (by kernel_rfl),fun h=>absurd h (by omega),fun _=>⟨fun h=>absurd h (by omega),fun _=>⟨(q1 _ (by kernel_rfl)).conv (by kernel_rfl),⟨by omega,by omega⟩,fun _=>⟨by rw [hzl];omega,fun _=>⟨q2 _ (by kernel_rfl) (by kernel_rfl),(q3 _ (by kernel_rfl)).conv (by kernel_rfl),(q4 _ (by kernel_rfl)).conv (by kernel_rfl),q5 _ (hasT1 (by kernel_rfl)) (by kernel_rfl) (by kernel_rfl),⟨np,nc,nc',nl,n3,nst,nwt⟩,fun _=>loop⟩⟩⟩⟩⟩⟩⟩
set_option maxRecDepth 20000 in
set_option maxHeartbeats 8000000 in
theorem leaveNEE_can(hη:OneCells η)(hmix:Tryd.prog.follows .mixedOrders=true){ty ty' ty2 n n' cap cap' cap2:Nat}{c c':List Value}{l:List (Int × Int)}{k xb:Int}(hc:RowS c 0 n)(hc':RowI c' 0 n')(hcap:isU cap=false)(hcn:n≤cap)(hne:l ≠ [])(bb:0≤xb∧xb<256)(hck:ckR c 0 n c' 0 n' k l=0)(hz:∀ t,t<n→(xb.tmod (n:Int)=(t:Int))→l.filter (notB t)=[]) :
  CallSpec η Tryd.prog B 3 [.agg ⟨[.slice (some ⟨126,0,none⟩) n cap,.slice (some ⟨127,0,none⟩) n' cap',.int .i64 k,.slice (some ⟨128,0,none⟩) l.length cap2]⟩,.int .u8 xb,.slice none 0 9223372036854775808] (heapTT tabR [(ty,c),(ty',c'),(ty2,ptV l)]) fun v _=>v = .bool true:=by
 have nc:=nn_of hc.1
 have nc':=nn_of hc'.1
 have np:=nn_of pow_bare
 have nl:=nn_of (ptV_bare l)
 obtain⟨hch,el⟩:=ckR_zero hck
 have k0:=chk_zero hch
 have en:n'=n:=k0.eq
 subst en
 have hn0:=k0.n0
 have n16:=k0.n16
 obtain⟨t,ht,et⟩:=tm_lt bb hn0
 have kf:=fun (H:AH) q0 q1 q2=>farNNN_any (B:=B) (H:=H) (r:=126) (ty:=ty) (own:=0) (cap:=cap) (n:=n') (r':=127) (ty':=ty') (own':=0) (cap':=cap') (n':=n') (r2:=128) (ty2:=ty2) (own2:=0) (cap2:=cap2) (m:=l.length) (k:=k) hη hmix q0 q1 q2 (by decide) (by decide) (by decide) hc hc' (ptV_bare l)
 have aw:=fun (H:AH)=>FN.awake_ok (B:=B) hη hmix H
 have cut0:=fun a0 a1 a2=>LvNEE.cut0 (η:=η) (B:=B) (D:=fun v _=>v = .bool true) hη hmix (reg0 hη hmix) pow ty ty' ty2 n' n' l.length cap cap' cap2 c c' (ptV l) k xb a0 a1 a2
 refine LvNEE.enter hη hmix (reg0 hη hmix) pow ty ty' ty2 n' n' l.length cap cap' cap2 c c' (ptV l) k xb ?_
 simp only [W.holds,true_and,and_true,true_implies,decide_eq_true_eq,decide_eq_false_iff_not,eq_self,implies_true,forall_const,bne_iff_ne,ne_eq,bne_eq_false_iff_eq,Nat.mul_one,Nat.zero_add,beq_iff_eq,beq_eq_false_iff_ne,not_true_eq_false,false_implies,Int.toNat_natCast,et,ordN_eq,ordC_eq,fnP_ptV] at cut0 ⊢
 refine⟨kf _ (by kernel_rfl) (by kernel_rfl) (by kernel_rfl),fun _=>⟨aw _,⟨np,nc,nc',nl⟩⟩,fun hf=>?_⟩
 obtain⟨hn20,hn20',hm,hln⟩:=far_no hf
 have hl:∀ i,i<n'→(strAt c (0+i)).length≤1000000:=fun i hi=>by have:=hln i hi;rw [Nat.zero_add];omega
 have hl2:∀ i,i<n'→(strAt c (0+i)).length≤1000:=fun i hi=>by have:=hln i hi;rw [Nat.zero_add];omega
 have hI:ckI c 0 n' c' 0 n' k (ptV l) l.length=0:=by rw [ckI_eq];exact hck
 have ck:=fun (H:AH) ht h0 h1 h2=>ckN_any (B:=B) (H:=H) (r:=126) (r':=127) (r2:=128) (ty:=ty) (ty':=ty') (ty2:=ty2) (own:=0) (own':=0) (own2:=0) (o:=0) (o':=0) (cap:=cap) (cap':=cap') (cap2:=cap2) (k:=k) hη hmix ht h0 h1 h2 (by decide) (by decide) (by decide) (by decide) hc hc' hl hcap hcn (show l.length≤1000000 by omega) hne
 simp only [hI] at ck
 clear kf hf
 have hzr:=zer_row (t:=t) hc' ht
 have hzc:=zer_chk hc' hch ht
 have hzp:=zer_pts (c:=c) (k:=k) hc' ht
 rw [← el] at hzp
 have k1:=chk_zero hzc
 have hzl:=cutC_len hc'
 have e1:srtP c 0 (zer c' n' t) 0 k n'=ptV (ptsS c 0 (zer c' n' t) 0 k n'):=by unfold srtP;rfl
 have e2:lenP c 0 (zer c' n' t) 0 k n'=(ptsS c 0 (zer c' n' t) 0 k n').length:=by unfold lenP ptsS;rw [List.length_mergeSort]
 have etx:xb.tmod (n':Int)=(t:Int):=by rw [wrap_small (by omega) (by omega)] at et;exact et
 have hpz:ptsS c 0 (zer c' n' t) 0 k n'=[]:=by rw [hzp];exact hz t ht etx
 have hsort:l.Pairwise fun p q=>p.1≤q.1:=by rw [el];exact ptsS_sorted _ _ _ _ _ _
 have facts:=fun h=>leave_facts (h:=h) hne hsort hzp
 have nst:=nn_of (strC_row (c:=c) (o:=0) (n:=n')).1
 have nwt:=nn_of (cutC_row hzr).1
 have hlen:(allP c 0 (zer c' n' t) 0 k n' 0).length≤100000:=by
  have:=allP_len (c:=c) (o:=0) (c':=zer c' n' t) (o':=0) k1.kk n' 0 fun j _ hj=>k1.w j (by omega)
  omega
 have hzz:allP c 0 (zer c' n' t) 0 k n' 0=[]:=ptsS_nil.1 hpz
 have loop:=cut0 (t:Int) (strC c 0 n') (cutC (zer c' n' t) 0 n') ⟨aw _,⟨np,nc,nc',nl⟩⟩
 clear cut0
 have z0:splice (cutC c' 0 n') t [Value.int IntKind.i64 0]=zer c' n' t:=rfl
 have q1:=fun (H:AH) h1=>clo_any (B:=B) (H:=H) (r:=127) (ty:=ty') (cap:=cap') (own:=0) hη hmix h1 hc' (by omega) hn0
 have q2:=fun (H:AH) h0 h1=>chkI_any (B:=B) (H:=H) (r:=126) (r':=132) (ty:=ty) (ty':=3) (o:=0) (o':=0) (own:=0) (own':=2) (cap:=cap) (cap':=9223372036854775809) (k:=k) hη hmix h0 h1 (by decide) hc hzr hl hcap hcn
 simp only [hzc] at q2
 have q3:=fun (H:AH) h1=>(cpN_any (B:=B) (H:=H) (r:=126) (ty:=ty) (cap:=cap) (own:=0) hη hmix h1 hc (by omega) hl).unp
 have q4:=fun (H:AH) h1=>clo_any (B:=B) (H:=H) (r:=132) (ty:=3) (cap:=9223372036854775809) (own:=2) hη hmix h1 hzr (by omega) hn0
 have q5:=fun (H:AH) ht h1 h2=>ptE_any (B:=B) (H:=H) (r:=126) (r':=132) (ty:=ty) (ty':=3) (o:=0) (o':=0) (cap:=cap) (cap':=9223372036854775809) (own:=0) (own':=2) hη hmix ht h1 h2 (by decide) (by decide) (by decide) hc hzr rfl n16 k1.w k1.kk hl2 hzz
 simp only [z0]
 refine⟨ck _ (hasT1 (by kernel_rfl)) (by kernel_rfl) (by kernel_rfl) (by kernel_rfl),fun h=>absurd h (by omega),fun _=>⟨by omega,fun _=>⟨ck _ (hasT1 (by kernel_rfl)) (by kernel_rfl) (by kernel_rfl) (by kernel_rfl),fun h=>absurd h (by omega),fun _=>⟨fun h=>absurd h (by omega),fun _=>⟨(q1 _ (by kernel_rfl)).conv (by kernel_rfl),⟨by omega,by omega⟩,fun _=>⟨by rw [hzl];omega,fun _=>⟨q2 _ (by kernel_rfl) (by kernel_rfl),(q3 _ (by kernel_rfl)).conv (by kernel_rfl),(q4 _ (by kernel_rfl)).conv (by kernel_rfl),q5 _ (hasT1 (by kernel_rfl)) (by kernel_rfl) (by kernel_rfl),⟨np,nc,nc',nl,nst,nwt⟩,fun _=>loop⟩⟩⟩⟩⟩⟩⟩
set_option maxRecDepth 20000 in
set_option maxHeartbeats 8000000 in
theorem leaveEEN_can(hη:OneCells η)(hmix:Tryd.prog.follows .mixedOrders=true){ty ty' ty3 n n' nk cap cap' cap3:Nat}{c c' c3:List Value}{k xb:Int}(hc:RowS c 0 n)(hc':RowI c' 0 n')(hcap:isU cap=false)(hcn:n≤cap)(h3:RowS c3 0 nk)(bb:0≤xb∧xb<256)(hck:ckR c 0 n c' 0 n' k []=0) :
  CallSpec η Tryd.prog B 3 [.agg ⟨[.slice (some ⟨126,0,none⟩) n cap,.slice (some ⟨127,0,none⟩) n' cap',.int .i64 k,.slice none 0 9223372036854775808]⟩,.int .u8 xb,.slice (some ⟨128,0,none⟩) nk cap3] (heapTT tabR [(ty,c),(ty',c'),(ty3,c3)]) fun v _=>v = .bool true:=by
 have nc:=nn_of hc.1
 have nc':=nn_of hc'.1
 have n3:=nn_of h3.1
 have np:=nn_of pow_bare
 obtain⟨hch,el⟩:=ckR_zero hck
 have k0:=chk_zero hch
 have en:n'=n:=k0.eq
 subst en
 have hn0:=k0.n0
 have n16:=k0.n16
 obtain⟨t,ht,et⟩:=tm_lt bb hn0
 have kf:=fun (H:AH) q0 q1=>farNNE_any (B:=B) (H:=H) (r:=126) (ty:=ty) (own:=0) (cap:=cap) (n:=n') (r':=127) (ty':=ty') (own':=0) (cap':=cap') (n':=n') (k:=k) hη hmix q0 q1 (by decide) hc hc'
 have aw:=fun (H:AH)=>FN.awake_ok (B:=B) hη hmix H
 have cut0:=fun a0 a1 a2 a3=>LvEEN.cut0 (η:=η) (B:=B) (D:=fun v _=>v = .bool true) hη hmix (reg0 hη hmix) pow ty ty' ty3 n' n' nk cap cap' cap3 c c' c3 k xb a0 a1 a2 a3
 refine LvEEN.enter hη hmix (reg0 hη hmix) pow ty ty' ty3 n' n' nk cap cap' cap3 c c' c3 k xb ?_
 simp only [W.holds,true_and,and_true,true_implies,decide_eq_true_eq,decide_eq_false_iff_not,eq_self,implies_true,forall_const,bne_iff_ne,ne_eq,bne_eq_false_iff_eq,Nat.mul_one,Nat.zero_add,beq_iff_eq,beq_eq_false_iff_ne,not_true_eq_false,false_implies,Int.toNat_natCast,et,ordN_eq,ordC_eq] at cut0 ⊢
 refine⟨kf _ (by kernel_rfl) (by kernel_rfl),fun _=>⟨aw _,⟨np,nc,nc',n3⟩⟩,fun hf=>⟨fun _=>⟨aw _,⟨np,nc,nc',n3⟩⟩,fun hk=>?_⟩⟩
 obtain⟨hn20,hn20',hm,hln⟩:=far_no hf
 have hl:∀ i,i<n'→(strAt c (0+i)).length≤1000000:=fun i hi=>by have:=hln i hi;rw [Nat.zero_add];omega
 have hl2:∀ i,i<n'→(strAt c (0+i)).length≤1000:=fun i hi=>by have:=hln i hi;rw [Nat.zero_add];omega
 have hI:ckZ c 0 n' c' 0 n' k=0:=by rw [ckZ_eq];exact hck
 have ck:=fun (H:AH) ht h0 h1=>ckE_any (B:=B) (H:=H) (r:=126) (r':=127) (ty:=ty) (ty':=ty') (own:=0) (own':=0) (o:=0) (o':=0) (cap:=cap) (cap':=cap') (k:=k) hη hmix ht h0 h1 (by decide) (by decide) hc hc' hl hcap hcn
 simp only [hI] at ck
 clear kf hf
 have hzr:=zer_row (t:=t) hc' ht
 have hzc:=zer_chk hc' hch ht
 have hzp:=zer_pts (c:=c) (k:=k) hc' ht
 rw [← el] at hzp
 have k1:=chk_zero hzc
 have hzl:=cutC_len hc'
 have e1:srtP c 0 (zer c' n' t) 0 k n'=ptV (ptsS c 0 (zer c' n' t) 0 k n'):=by unfold srtP;rfl
 have e2:lenP c 0 (zer c' n' t) 0 k n'=(ptsS c 0 (zer c' n' t) 0 k n').length:=by unfold lenP ptsS;rw [List.length_mergeSort]
 have etx:xb.tmod (n':Int)=(t:Int):=by rw [wrap_small (by omega) (by omega)] at et;exact et
 have hpz:ptsS c 0 (zer c' n' t) 0 k n'=[]:=by rw [hzp];rfl
 have nst:=nn_of (strC_row (c:=c) (o:=0) (n:=n')).1
 have nwt:=nn_of (cutC_row hzr).1
 have hlen:(allP c 0 (zer c' n' t) 0 k n' 0).length≤100000:=by
  have:=allP_len (c:=c) (o:=0) (c':=zer c' n' t) (o':=0) k1.kk n' 0 fun j _ hj=>k1.w j (by omega)
  omega
 have hzz:allP c 0 (zer c' n' t) 0 k n' 0=[]:=ptsS_nil.1 hpz
 have lp:∀ (m i:Nat),i+m=nk→RunD η Tryd.prog B 3 (LvEEN.H0 pow ty ty' ty3 n' n' nk cap cap' cap3 c c' c3 k xb) [2,3,7,8,10] (LvEEN.S0 pow ty ty' ty3 n' n' nk cap cap' cap3 c c' c3 k xb (t:Int) (strC c 0 n') (cutC (zer c' n' t) 0 n') (i:Int) fun _=>undef) (QF Tryd.prog 129 fun v _=>v = .bool true):=by
  intro m
  induction m with
  | zero=>
   intro i hi
   exact cut0 _ _ _ _ ⟨fun q=>by omega,fun _=>⟨aw _,⟨np,nc,nc',n3⟩⟩⟩
  | succ m ih=>
   intro i hi
   have c1:=cut0 (t:Int) (strC c 0 n') (cutC (zer c' n' t) 0 n') (i:Int)
   simp only [w1 i (by omega),Int.toNat_natCast,fnP_ptV,np,nc,nc',n3,nst,nwt,and_true,true_and,true_implies] at c1
   have ih1:=ih (i+1) (by omega)
   have hkey:=h3.2 i (by omega)
   rw [Nat.zero_add] at hkey
   refine c1 ?_
   clear c1 ih cut0
   simp only [hkey,true_and,true_implies]
   refine⟨fun _=>⟨by omega,fun _=>⟨fun _=>aw _,fun hs=>?_⟩⟩,fun q=>by omega⟩
   have g1:=fun (H:AH) ht h0 h1=>fnE_any (B:=B) (H:=H) (r:=126) (r':=127) (ty:=ty) (ty':=ty') (own:=0) (own':=0) (o:=0) (o':=0) (cap:=cap) (cap':=cap') (k:=k) (s:=strAt c3 i) hη hmix ht h0 h1 (by decide) (by decide) hc hc' hl hcap hcn hck (by omega)
   have g2:=fun (H:AH) ht h0 h1=>oRE_any (B:=B) (H:=H) (r:=126) (r':=127) (ty:=ty) (ty':=ty') (own:=0) (own':=0) (cap:=cap) (cap':=cap') (k:=k) (s:=strAt c3 i) hη hmix ht h0 h1 (by decide) (by decide) hc hc' hl hcap hcn hck (by omega)
   have g3:=fun (H:AH) ht h0 h1=>(fnE_any (B:=B) (H:=H) (r:=131) (r':=132) (ty:=9) (ty':=3) (own:=2) (own':=2) (o:=0) (o':=0) (n:=n') (n':=n') (cap:=n') (cap':=9223372036854775809) (k:=k) (s:=strAt c3 i) hη hmix ht h0 h1 (by decide) (by decide) strC_row (cutC_row hzr) (fun j hj=>by rw [strC_at hj];exact hl j hj) (isU_small (by omega)) (Nat.le_refl _) (by rw [← hpz];exact copied_ck hzc) (by omega)).nilArg
   exact⟨by omega,fun _=>⟨g1 _ (hasT1 (by kernel_rfl)) (by kernel_rfl) (by kernel_rfl),by omega,fun _=>⟨g2 _ (hasT1 (by kernel_rfl)) (by kernel_rfl) (by kernel_rfl),by omega,fun _=>⟨g3 _ (hasT1 (by kernel_rfl)) (by kernel_rfl) (by kernel_rfl),ih1⟩⟩⟩⟩
 clear cut0
 have loop:=lp nk 0 (by omega)
 have z0:splice (cutC c' 0 n') t [Value.int IntKind.i64 0]=zer c' n' t:=rfl
 have q1:=fun (H:AH) h1=>clo_any (B:=B) (H:=H) (r:=127) (ty:=ty') (cap:=cap') (own:=0) hη hmix h1 hc' (by omega) hn0
 have q2:=fun (H:AH) h0 h1=>chkI_any (B:=B) (H:=H) (r:=126) (r':=132) (ty:=ty) (ty':=3) (o:=0) (o':=0) (own:=0) (own':=2) (cap:=cap) (cap':=9223372036854775809) (k:=k) hη hmix h0 h1 (by decide) hc hzr hl hcap hcn
 simp only [hzc] at q2
 have q3:=fun (H:AH) h1=>(cpN_any (B:=B) (H:=H) (r:=126) (ty:=ty) (cap:=cap) (own:=0) hη hmix h1 hc (by omega) hl).unp
 have q4:=fun (H:AH) h1=>clo_any (B:=B) (H:=H) (r:=132) (ty:=3) (cap:=9223372036854775809) (own:=2) hη hmix h1 hzr (by omega) hn0
 have q5:=fun (H:AH) ht h1 h2=>ptE_any (B:=B) (H:=H) (r:=126) (r':=132) (ty:=ty) (ty':=3) (o:=0) (o':=0) (cap:=cap) (cap':=9223372036854775809) (own:=0) (own':=2) hη hmix ht h1 h2 (by decide) (by decide) (by decide) hc hzr rfl n16 k1.w k1.kk hl2 hzz
 simp only [z0]
 refine⟨ck _ (hasT1 (by kernel_rfl)) (by kernel_rfl) (by kernel_rfl),fun h=>absurd h (by omega),fun _=>⟨by omega,fun _=>⟨ck _ (hasT1 (by kernel_rfl)) (by kernel_rfl) (by kernel_rfl),fun h=>absurd h (by omega),fun _=>⟨fun h=>absurd h (by omega),fun _=>⟨(q1 _ (by kernel_rfl)).conv (by kernel_rfl),⟨by omega,by omega⟩,fun _=>⟨by rw [hzl];omega,fun _=>⟨q2 _ (by kernel_rfl) (by kernel_rfl),(q3 _ (by kernel_rfl)).conv (by kernel_rfl),(q4 _ (by kernel_rfl)).conv (by kernel_rfl),q5 _ (hasT1 (by kernel_rfl)) (by kernel_rfl) (by kernel_rfl),⟨np,nc,nc',n3,nst,nwt⟩,fun _=>loop⟩⟩⟩⟩⟩⟩⟩
set_option maxRecDepth 20000 in
set_option maxHeartbeats 8000000 in
theorem leaveEEE_can(hη:OneCells η)(hmix:Tryd.prog.follows .mixedOrders=true){ty ty' n n' cap cap':Nat}{c c':List Value}{k xb:Int}(hc:RowS c 0 n)(hc':RowI c' 0 n')(hcap:isU cap=false)(hcn:n≤cap)(bb:0≤xb∧xb<256)(hck:ckR c 0 n c' 0 n' k []=0) :
  CallSpec η Tryd.prog B 3 [.agg ⟨[.slice (some ⟨126,0,none⟩) n cap,.slice (some ⟨127,0,none⟩) n' cap',.int .i64 k,.slice none 0 9223372036854775808]⟩,.int .u8 xb,.slice none 0 9223372036854775808] (heapTT tabR [(ty,c),(ty',c')]) fun v _=>v = .bool true:=by
 have nc:=nn_of hc.1
 have nc':=nn_of hc'.1
 have np:=nn_of pow_bare
 obtain⟨hch,el⟩:=ckR_zero hck
 have k0:=chk_zero hch
 have en:n'=n:=k0.eq
 subst en
 have hn0:=k0.n0
 have n16:=k0.n16
 obtain⟨t,ht,et⟩:=tm_lt bb hn0
 have kf:=fun (H:AH) q0 q1=>farNNE_any (B:=B) (H:=H) (r:=126) (ty:=ty) (own:=0) (cap:=cap) (n:=n') (r':=127) (ty':=ty') (own':=0) (cap':=cap') (n':=n') (k:=k) hη hmix q0 q1 (by decide) hc hc'
 have aw:=fun (H:AH)=>FN.awake_ok (B:=B) hη hmix H
 have cut0:=fun a0 a1 a2=>LvEEE.cut0 (η:=η) (B:=B) (D:=fun v _=>v = .bool true) hη hmix (reg0 hη hmix) pow ty ty' n' n' cap cap' c c' k xb a0 a1 a2
 refine LvEEE.enter hη hmix (reg0 hη hmix) pow ty ty' n' n' cap cap' c c' k xb ?_
 simp only [W.holds,true_and,and_true,true_implies,decide_eq_true_eq,decide_eq_false_iff_not,eq_self,implies_true,forall_const,bne_iff_ne,ne_eq,bne_eq_false_iff_eq,Nat.mul_one,Nat.zero_add,beq_iff_eq,beq_eq_false_iff_ne,not_true_eq_false,false_implies,Int.toNat_natCast,et,ordN_eq,ordC_eq] at cut0 ⊢
 refine⟨kf _ (by kernel_rfl) (by kernel_rfl),fun _=>⟨aw _,⟨np,nc,nc'⟩⟩,fun hf=>?_⟩
 obtain⟨hn20,hn20',hm,hln⟩:=far_no hf
 have hl:∀ i,i<n'→(strAt c (0+i)).length≤1000000:=fun i hi=>by have:=hln i hi;rw [Nat.zero_add];omega
 have hl2:∀ i,i<n'→(strAt c (0+i)).length≤1000:=fun i hi=>by have:=hln i hi;rw [Nat.zero_add];omega
 have hI:ckZ c 0 n' c' 0 n' k=0:=by rw [ckZ_eq];exact hck
 have ck:=fun (H:AH) ht h0 h1=>ckE_any (B:=B) (H:=H) (r:=126) (r':=127) (ty:=ty) (ty':=ty') (own:=0) (own':=0) (o:=0) (o':=0) (cap:=cap) (cap':=cap') (k:=k) hη hmix ht h0 h1 (by decide) (by decide) hc hc' hl hcap hcn
 simp only [hI] at ck
 clear kf hf
 have hzr:=zer_row (t:=t) hc' ht
 have hzc:=zer_chk hc' hch ht
 have hzp:=zer_pts (c:=c) (k:=k) hc' ht
 rw [← el] at hzp
 have k1:=chk_zero hzc
 have hzl:=cutC_len hc'
 have e1:srtP c 0 (zer c' n' t) 0 k n'=ptV (ptsS c 0 (zer c' n' t) 0 k n'):=by unfold srtP;rfl
 have e2:lenP c 0 (zer c' n' t) 0 k n'=(ptsS c 0 (zer c' n' t) 0 k n').length:=by unfold lenP ptsS;rw [List.length_mergeSort]
 have etx:xb.tmod (n':Int)=(t:Int):=by rw [wrap_small (by omega) (by omega)] at et;exact et
 have hpz:ptsS c 0 (zer c' n' t) 0 k n'=[]:=by rw [hzp];rfl
 have nst:=nn_of (strC_row (c:=c) (o:=0) (n:=n')).1
 have nwt:=nn_of (cutC_row hzr).1
 have hlen:(allP c 0 (zer c' n' t) 0 k n' 0).length≤100000:=by
  have:=allP_len (c:=c) (o:=0) (c':=zer c' n' t) (o':=0) k1.kk n' 0 fun j _ hj=>k1.w j (by omega)
  omega
 have hzz:allP c 0 (zer c' n' t) 0 k n' 0=[]:=ptsS_nil.1 hpz
 have loop:=cut0 (t:Int) (cutC (zer c' n' t) 0 n') (strC c 0 n') ⟨aw _,⟨np,nc,nc'⟩⟩
 clear cut0
 have z0:splice (cutC c' 0 n') t [Value.int IntKind.i64 0]=zer c' n' t:=rfl
 have q1:=fun (H:AH) h1=>clo_any (B:=B) (H:=H) (r:=127) (ty:=ty') (cap:=cap') (own:=0) hη hmix h1 hc' (by omega) hn0
 have q2:=fun (H:AH) h0 h1=>chkI_any (B:=B) (H:=H) (r:=126) (r':=131) (ty:=ty) (ty':=3) (o:=0) (o':=0) (own:=0) (own':=2) (cap:=cap) (cap':=9223372036854775809) (k:=k) hη hmix h0 h1 (by decide) hc hzr hl hcap hcn
 simp only [hzc] at q2
 have q3:=fun (H:AH) h1=>(cpN_any (B:=B) (H:=H) (r:=126) (ty:=ty) (cap:=cap) (own:=0) hη hmix h1 hc (by omega) hl).unp
 have q4:=fun (H:AH) h1=>clo_any (B:=B) (H:=H) (r:=131) (ty:=3) (cap:=9223372036854775809) (own:=2) hη hmix h1 hzr (by omega) hn0
 have q5:=fun (H:AH) ht h1 h2=>ptE_any (B:=B) (H:=H) (r:=126) (r':=131) (ty:=ty) (ty':=3) (o:=0) (o':=0) (cap:=cap) (cap':=9223372036854775809) (own:=0) (own':=2) hη hmix ht h1 h2 (by decide) (by decide) (by decide) hc hzr rfl n16 k1.w k1.kk hl2 hzz
 simp only [z0]
 refine⟨ck _ (hasT1 (by kernel_rfl)) (by kernel_rfl) (by kernel_rfl),fun h=>absurd h (by omega),fun _=>⟨by omega,fun _=>⟨ck _ (hasT1 (by kernel_rfl)) (by kernel_rfl) (by kernel_rfl),fun h=>absurd h (by omega),fun _=>⟨fun h=>absurd h (by omega),fun _=>⟨(q1 _ (by kernel_rfl)).conv (by kernel_rfl),⟨by omega,by omega⟩,fun _=>⟨by rw [hzl];omega,fun _=>⟨q2 _ (by kernel_rfl) (by kernel_rfl),(q3 _ (by kernel_rfl)).conv (by kernel_rfl),(q4 _ (by kernel_rfl)).conv (by kernel_rfl),q5 _ (hasT1 (by kernel_rfl)) (by kernel_rfl) (by kernel_rfl),⟨np,nc,nc',nst,nwt⟩,fun _=>loop⟩⟩⟩⟩⟩⟩⟩
end RG
end Go.Ev

/- Rings of backends: the law of a backend that leaves: names or weights empty, or a ring that Check does not pass (written by mkLU.py). -/
namespace Go.Ev
open Go Go.Proofs
variable {η:Nat→Value} {B:Bd}
namespace RG
set_option maxHeartbeats 2000000 in
theorem leaveENNN_can(hη:OneCells η)(hmix:Tryd.prog.follows .mixedOrders=true){ty' ty2 ty3 n' m nk cap' cap2 cap3:Nat}{c' c2 c3:List Value}{k xb:Int}(hc':RowI c' 0 n')(hp2:c2.all bareV=true)(h3:RowS c3 0 nk) :
  CallSpec η Tryd.prog B 3 [.agg ⟨[.slice none 0 9223372036854775808,.slice (some ⟨126,0,none⟩) n' cap',.int .i64 k,.slice (some ⟨127,0,none⟩) m cap2]⟩,.int .u8 xb,.slice (some ⟨128,0,none⟩) nk cap3] (heapT [(ty',c'),(ty2,c2),(ty3,c3)]) fun v _=>v = .bool true:=by
 have kf:=fun (H:AH) q0 q1=>farENN_any (B:=B) (H:=H) (r':=126) (ty':=ty') (own':=0) (cap':=cap') (n':=n') (r2:=127) (ty2:=ty2) (own2:=0) (cap2:=cap2) (m:=m) (k:=k) hη hmix q0 q1 (by decide) hc' hp2
 have aw:=fun (H:AH)=>FN.awake_ok (B:=B) hη hmix H
 refine LUENNN3.enter hη hmix (reg0 hη hmix) ty' ty2 ty3 n' m nk cap' cap2 cap3 c' c2 c3 k xb ?_
 simp only [W.holds,true_and,and_true,true_implies,decide_eq_true_eq,decide_eq_false_iff_not,eq_self,implies_true,forall_const]
 exact⟨kf _ (by kernel_rfl) (by kernel_rfl),fun _=>⟨aw _,⟨nn_of hc'.1,nn_of hp2,nn_of h3.1⟩⟩,fun _=>⟨fun _=>⟨aw _,⟨nn_of hc'.1,nn_of hp2,nn_of h3.1⟩⟩,fun _=>⟨ckZ_any hη hmix rfl rfl,⟨aw _,⟨nn_of hc'.1,nn_of hp2,nn_of h3.1⟩⟩⟩⟩⟩
set_option maxHeartbeats 2000000 in
theorem leaveENNE_can(hη:OneCells η)(hmix:Tryd.prog.follows .mixedOrders=true){ty' ty2 n' m cap' cap2:Nat}{c' c2:List Value}{k xb:Int}(hc':RowI c' 0 n')(hp2:c2.all bareV=true) :
  CallSpec η Tryd.prog B 3 [.agg ⟨[.slice none 0 9223372036854775808,.slice (some ⟨126,0,none⟩) n' cap',.int .i64 k,.slice (some ⟨127,0,none⟩) m cap2]⟩,.int .u8 xb,.slice none 0 9223372036854775808] (heapT [(ty',c'),(ty2,c2)]) fun v _=>v = .bool true:=by
 have kf:=fun (H:AH) q0 q1=>farENN_any (B:=B) (H:=H) (r':=126) (ty':=ty') (own':=0) (cap':=cap') (n':=n') (r2:=127) (ty2:=ty2) (own2:=0) (cap2:=cap2) (m:=m) (k:=k) hη hmix q0 q1 (by decide) hc' hp2
 have aw:=fun (H:AH)=>FN.awake_ok (B:=B) hη hmix H
 refine LUENNE3.enter hη hmix (reg0 hη hmix) ty' ty2 n' m cap' cap2 c' c2 k xb ?_
 simp only [W.holds,true_and,and_true,true_implies,decide_eq_true_eq,decide_eq_false_iff_not,eq_self,implies_true,forall_const]
 exact⟨kf _ (by kernel_rfl) (by kernel_rfl),fun _=>⟨aw _,⟨nn_of hc'.1,nn_of hp2⟩⟩,fun _=>⟨ckZ_any hη hmix rfl rfl,⟨aw _,⟨nn_of hc'.1,nn_of hp2⟩⟩⟩⟩
set_option maxHeartbeats 2000000 in
theorem leaveENEN_can(hη:OneCells η)(hmix:Tryd.prog.follows .mixedOrders=true){ty' ty3 n' nk cap' cap3:Nat}{c' c3:List Value}{k xb:Int}(hc':RowI c' 0 n')(h3:RowS c3 0 nk) :
  CallSpec η Tryd.prog B 3 [.agg ⟨[.slice none 0 9223372036854775808,.slice (some ⟨126,0,none⟩) n' cap',.int .i64 k,.slice none 0 9223372036854775808]⟩,.int .u8 xb,.slice (some ⟨127,0,none⟩) nk cap3] (heapT [(ty',c'),(ty3,c3)]) fun v _=>v = .bool true:=by
 have kf:=fun (H:AH) q0=>farENE_any (B:=B) (H:=H) (r':=126) (ty':=ty') (own':=0) (cap':=cap') (n':=n') (k:=k) hη hmix q0 hc'
 have aw:=fun (H:AH)=>FN.awake_ok (B:=B) hη hmix H
 refine LUENEN3.enter hη hmix (reg0 hη hmix) ty' ty3 n' nk cap' cap3 c' c3 k xb ?_
 simp only [W.holds,true_and,and_true,true_implies,decide_eq_true_eq,decide_eq_false_iff_not,eq_self,implies_true,forall_const]
 exact⟨kf _ (by kernel_rfl),fun _=>⟨aw _,⟨nn_of hc'.1,nn_of h3.1⟩⟩,fun _=>⟨fun _=>⟨aw _,⟨nn_of hc'.1,nn_of h3.1⟩⟩,fun _=>⟨ckZ_any hη hmix rfl rfl,⟨aw _,⟨nn_of hc'.1,nn_of h3.1⟩⟩⟩⟩⟩
set_option maxHeartbeats 2000000 in
theorem leaveENEE_can(hη:OneCells η)(hmix:Tryd.prog.follows .mixedOrders=true){ty' n' cap':Nat}{c':List Value}{k xb:Int}(hc':RowI c' 0 n') :
  CallSpec η Tryd.prog B 3 [.agg ⟨[.slice none 0 9223372036854775808,.slice (some ⟨126,0,none⟩) n' cap',.int .i64 k,.slice none 0 9223372036854775808]⟩,.int .u8 xb,.slice none 0 9223372036854775808] (heapT [(ty',c')]) fun v _=>v = .bool true:=by
 have kf:=fun (H:AH) q0=>farENE_any (B:=B) (H:=H) (r':=126) (ty':=ty') (own':=0) (cap':=cap') (n':=n') (k:=k) hη hmix q0 hc'
 have aw:=fun (H:AH)=>FN.awake_ok (B:=B) hη hmix H
 refine LUENEE3.enter hη hmix (reg0 hη hmix) ty' n' cap' c' k xb ?_
 simp only [W.holds,true_and,and_true,true_implies,decide_eq_true_eq,decide_eq_false_iff_not,eq_self,implies_true,forall_const]
 exact⟨kf _ (by kernel_rfl),fun _=>⟨aw _,nn_of hc'.1⟩,fun _=>⟨ckZ_any hη hmix rfl rfl,⟨aw _,nn_of hc'.1⟩⟩⟩
set_option maxHeartbeats 2000000 in
theorem leaveEENN_can(hη:OneCells η)(hmix:Tryd.prog.follows .mixedOrders=true){ty2 ty3 m nk cap2 cap3:Nat}{c2 c3:List Value}{k xb:Int}(hp2:c2.all bareV=true)(h3:RowS c3 0 nk) :
  CallSpec η Tryd.prog B 3 [.agg ⟨[.slice none 0 9223372036854775808,.slice none 0 9223372036854775808,.int .i64 k,.slice (some ⟨126,0,none⟩) m cap2]⟩,.int .u8 xb,.slice (some ⟨127,0,none⟩) nk cap3] (heapT [(ty2,c2),(ty3,c3)]) fun v _=>v = .bool true:=by
 have kf:=fun (H:AH) q0=>farEEN_any (B:=B) (H:=H) (r2:=126) (ty2:=ty2) (own2:=0) (cap2:=cap2) (m:=m) (k:=k) hη hmix q0 hp2
 have aw:=fun (H:AH)=>FN.awake_ok (B:=B) hη hmix H
 refine LUEENN3.enter hη hmix (reg0 hη hmix) ty2 ty3 m nk cap2 cap3 c2 c3 k xb ?_
 simp only [W.holds,true_and,and_true,true_implies,decide_eq_true_eq,decide_eq_false_iff_not,eq_self,implies_true,forall_const]
 exact⟨kf _ (by kernel_rfl),fun _=>⟨aw _,⟨nn_of hp2,nn_of h3.1⟩⟩,fun _=>⟨fun _=>⟨aw _,⟨nn_of hp2,nn_of h3.1⟩⟩,fun _=>⟨ckZ_any hη hmix rfl rfl,⟨aw _,⟨nn_of hp2,nn_of h3.1⟩⟩⟩⟩⟩
set_option maxHeartbeats 2000000 in
theorem leaveEENE_can(hη:OneCells η)(hmix:Tryd.prog.follows .mixedOrders=true){ty2 m cap2:Nat}{c2:List Value}{k xb:Int}(hp2:c2.all bareV=true) :
  CallSpec η Tryd.prog B 3 [.agg ⟨[.slice none 0 9223372036854775808,.slice none 0 9223372036854775808,.int .i64 k,.slice (some ⟨126,0,none⟩) m cap2]⟩,.int .u8 xb,.slice none 0 9223372036854775808] (heapT [(ty2,c2)]) fun v _=>v = .bool true:=by
 have kf:=fun (H:AH) q0=>farEEN_any (B:=B) (H:=H) (r2:=126) (ty2:=ty2) (own2:=0) (cap2:=cap2) (m:=m) (k:=k) hη hmix q0 hp2
 have aw:=fun (H:AH)=>FN.awake_ok (B:=B) hη hmix H
 refine LUEENE3.enter hη hmix (reg0 hη hmix) ty2 m cap2 c2 k xb ?_
 simp only [W.holds,true_and,and_true,true_implies,decide_eq_true_eq,decide_eq_false_iff_not,eq_self,implies_true,forall_const]
 exact⟨kf _ (by kernel_rfl),fun _=>⟨aw _,nn_of hp2⟩,fun _=>⟨ckZ_any hη hmix rfl rfl,⟨aw _,nn_of hp2⟩⟩⟩
set_option maxHeartbeats 2000000 in
theorem leaveEEEN_can(hη:OneCells η)(hmix:Tryd.prog.follows .mixedOrders=true){ty3 nk cap3:Nat}{c3:List Value}{k xb:Int}(h3:RowS c3 0 nk) :
  CallSpec η Tryd.prog B 3 [.agg ⟨[.slice none 0 9223372036854775808,.slice none 0 9223372036854775808,.int .i64 k,.slice none 0 9223372036854775808]⟩,.int .u8 xb,.slice (some ⟨126,0,none⟩) nk cap3] (heapT [(ty3,c3)]) fun v _=>v = .bool true:=by
 have kf:=fun (H:AH)=>farEEE_any (B:=B) (H:=H) (k:=k) hη hmix
 rw [show farB [] 0 [] 0 k 0=false by unfold farB;rfl] at kf
 have aw:=fun (H:AH)=>FN.awake_ok (B:=B) hη hmix H
 refine LUEEEN3.enter hη hmix (reg0 hη hmix) ty3 nk cap3 c3 k xb ?_
 simp only [W.holds,true_and,and_true,true_implies,decide_eq_true_eq,decide_eq_false_iff_not,eq_self,implies_true,forall_const]
 exact⟨kf _,⟨fun _=>⟨aw _,nn_of h3.1⟩,fun _=>⟨ckZ_any hη hmix rfl rfl,⟨aw _,nn_of h3.1⟩⟩⟩⟩
set_option maxHeartbeats 2000000 in
theorem leaveEEEE_can(hη:OneCells η)(hmix:Tryd.prog.follows .mixedOrders=true){k xb:Int} :
  CallSpec η Tryd.prog B 3 [.agg ⟨[.slice none 0 9223372036854775808,.slice none 0 9223372036854775808,.int .i64 k,.slice none 0 9223372036854775808]⟩,.int .u8 xb,.slice none 0 9223372036854775808] (heapT []) fun v _=>v = .bool true:=by
 have kf:=fun (H:AH)=>farEEE_any (B:=B) (H:=H) (k:=k) hη hmix
 rw [show farB [] 0 [] 0 k 0=false by unfold farB;rfl] at kf
 have aw:=fun (H:AH)=>FN.awake_ok (B:=B) hη hmix H
 refine LUEEEE3.enter hη hmix (reg0 hη hmix) k xb ?_
 simp only [W.holds,true_and,and_true,true_implies,decide_eq_true_eq,decide_eq_false_iff_not,eq_self,implies_true,forall_const]
 exact⟨kf _,⟨ckZ_any hη hmix rfl rfl,aw _⟩⟩
set_option maxHeartbeats 2000000 in
theorem leaveNENN_can(hη:OneCells η)(hmix:Tryd.prog.follows .mixedOrders=true){ty ty2 ty3 n m nk cap cap2 cap3:Nat}{c c2 c3:List Value}{k xb:Int}(hc:RowS c 0 n)(hp2:c2.all bareV=true)(h3:RowS c3 0 nk) :
  CallSpec η Tryd.prog B 3 [.agg ⟨[.slice (some ⟨126,0,none⟩) n cap,.slice none 0 9223372036854775808,.int .i64 k,.slice (some ⟨127,0,none⟩) m cap2]⟩,.int .u8 xb,.slice (some ⟨128,0,none⟩) nk cap3] (heapT [(ty,c),(ty2,c2),(ty3,c3)]) fun v _=>v = .bool true:=by
 have kf:=fun (H:AH) q0 q1=>farNEN_any (B:=B) (H:=H) (r:=126) (ty:=ty) (own:=0) (cap:=cap) (n:=n) (r2:=127) (ty2:=ty2) (own2:=0) (cap2:=cap2) (m:=m) (k:=k) hη hmix q0 q1 (by decide) hc hp2
 have aw:=fun (H:AH)=>FN.awake_ok (B:=B) hη hmix H
 have kc:=fun (H:AH) q=>ckW_any (B:=B) (H:=H) (r:=126) (ty:=ty) (own:=0) (n:=n) (cap:=cap) (k:=k) (pv:=.slice (some ⟨127,0,none⟩) m cap2) hη hmix q hc rfl
 by_cases h:n=0∨16<n
 ·rw [show chE n=3 by unfold chE;rw [if_pos h]] at kc
  refine LUNENN3.enter hη hmix (reg0 hη hmix) ty ty2 ty3 n m nk cap cap2 cap3 c c2 c3 k xb ?_
  simp only [W.holds,true_and,and_true,true_implies,decide_eq_true_eq,decide_eq_false_iff_not,eq_self,implies_true,forall_const]
  exact⟨kf _ (by kernel_rfl) (by kernel_rfl),fun _=>⟨aw _,⟨nn_of hc.1,nn_of hp2,nn_of h3.1⟩⟩,fun _=>⟨fun _=>⟨aw _,⟨nn_of hc.1,nn_of hp2,nn_of h3.1⟩⟩,fun _=>⟨kc _ (by kernel_rfl),⟨aw _,⟨nn_of hc.1,nn_of hp2,nn_of h3.1⟩⟩⟩⟩⟩
 ·rw [show chE n=2 by unfold chE;rw [if_neg h]] at kc
  refine LUNENN2.enter hη hmix (reg0 hη hmix) ty ty2 ty3 n m nk cap cap2 cap3 c c2 c3 k xb ?_
  simp only [W.holds,true_and,and_true,true_implies,decide_eq_true_eq,decide_eq_false_iff_not,eq_self,implies_true,forall_const]
  exact⟨kf _ (by kernel_rfl) (by kernel_rfl),fun _=>⟨aw _,⟨nn_of hc.1,nn_of hp2,nn_of h3.1⟩⟩,fun _=>⟨fun _=>⟨aw _,⟨nn_of hc.1,nn_of hp2,nn_of h3.1⟩⟩,fun _=>⟨kc _ (by kernel_rfl),⟨aw _,⟨nn_of hc.1,nn_of hp2,nn_of h3.1⟩⟩⟩⟩⟩
set_option maxHeartbeats 2000000 in
theorem leaveNENE_can(hη:OneCells η)(hmix:Tryd.prog.follows .mixedOrders=true){ty ty2 n m cap cap2:Nat}{c c2:List Value}{k xb:Int}(hc:RowS c 0 n)(hp2:c2.all bareV=true) :
  CallSpec η Tryd.prog B 3 [.agg ⟨[.slice (some ⟨126,0,none⟩) n cap,.slice none 0 9223372036854775808,.int .i64 k,.slice (some ⟨127,0,none⟩) m cap2]⟩,.int .u8 xb,.slice none 0 9223372036854775808] (heapT [(ty,c),(ty2,c2)]) fun v _=>v = .bool true:=by
 have kf:=fun (H:AH) q0 q1=>farNEN_any (B:=B) (H:=H) (r:=126) (ty:=ty) (own:=0) (cap:=cap) (n:=n) (r2:=127) (ty2:=ty2) (own2:=0) (cap2:=cap2) (m:=m) (k:=k) hη hmix q0 q1 (by decide) hc hp2
 have aw:=fun (H:AH)=>FN.awake_ok (B:=B) hη hmix H
 have kc:=fun (H:AH) q=>ckW_any (B:=B) (H:=H) (r:=126) (ty:=ty) (own:=0) (n:=n) (cap:=cap) (k:=k) (pv:=.slice (some ⟨127,0,none⟩) m cap2) hη hmix q hc rfl
 by_cases h:n=0∨16<n
 ·rw [show chE n=3 by unfold chE;rw [if_pos h]] at kc
  refine LUNENE3.enter hη hmix (reg0 hη hmix) ty ty2 n m cap cap2 c c2 k xb ?_
  simp only [W.holds,true_and,and_true,true_implies,decide_eq_true_eq,decide_eq_false_iff_not,eq_self,implies_true,forall_const]
  exact⟨kf _ (by kernel_rfl) (by kernel_rfl),fun _=>⟨aw _,⟨nn_of hc.1,nn_of hp2⟩⟩,fun _=>⟨kc _ (by kernel_rfl),⟨aw _,⟨nn_of hc.1,nn_of hp2⟩⟩⟩⟩
 ·rw [show chE n=2 by unfold chE;rw [if_neg h]] at kc
  refine LUNENE2.enter hη hmix (reg0 hη hmix) ty ty2 n m cap cap2 c c2 k xb ?_
  simp only [W.holds,true_and,and_true,true_implies,decide_eq_true_eq,decide_eq_false_iff_not,eq_self,implies_true,forall_const]
  exact⟨kf _ (by kernel_rfl) (by kernel_rfl),fun _=>⟨aw _,⟨nn_of hc.1,nn_of hp2⟩⟩,fun _=>⟨kc _ (by kernel_rfl),⟨aw _,⟨nn_of hc.1,nn_of hp2⟩⟩⟩⟩
set_option maxHeartbeats 2000000 in
theorem leaveNEEN_can(hη:OneCells η)(hmix:Tryd.prog.follows .mixedOrders=true){ty ty3 n nk cap cap3:Nat}{c c3:List Value}{k xb:Int}(hc:RowS c 0 n)(h3:RowS c3 0 nk) :
  CallSpec η Tryd.prog B 3 [.agg ⟨[.slice (some ⟨126,0,none⟩) n cap,.slice none 0 9223372036854775808,.int .i64 k,.slice none 0 9223372036854775808]⟩,.int .u8 xb,.slice (some ⟨127,0,none⟩) nk cap3] (heapT [(ty,c),(ty3,c3)]) fun v _=>v = .bool true:=by
 have kf:=fun (H:AH) q0=>farNEE_any (B:=B) (H:=H) (r:=126) (ty:=ty) (own:=0) (cap:=cap) (n:=n) (k:=k) hη hmix q0 hc
 have aw:=fun (H:AH)=>FN.awake_ok (B:=B) hη hmix H
 have kc:=fun (H:AH) q=>ckW_any (B:=B) (H:=H) (r:=126) (ty:=ty) (own:=0) (n:=n) (cap:=cap) (k:=k) (pv:=.slice none 0 9223372036854775808) hη hmix q hc rfl
 by_cases h:n=0∨16<n
 ·rw [show chE n=3 by unfold chE;rw [if_pos h]] at kc
  refine LUNEEN3.enter hη hmix (reg0 hη hmix) ty ty3 n nk cap cap3 c c3 k xb ?_
  simp only [W.holds,true_and,and_true,true_implies,decide_eq_true_eq,decide_eq_false_iff_not,eq_self,implies_true,forall_const]
  exact⟨kf _ (by kernel_rfl),fun _=>⟨aw _,⟨nn_of hc.1,nn_of h3.1⟩⟩,fun _=>⟨fun _=>⟨aw _,⟨nn_of hc.1,nn_of h3.1⟩⟩,fun _=>⟨kc _ (by kernel_rfl),⟨aw _,⟨nn_of hc.1,nn_of h3.1⟩⟩⟩⟩⟩
 ·rw [show chE n=2 by unfold chE;rw [if_neg h]] at kc
  refine LUNEEN2.enter hη hmix (reg0 hη hmix) ty ty3 n nk cap cap3 c c3 k xb ?_
  simp only [W.holds,true_and,and_true,true_implies,decide_eq_true_eq,decide_eq_false_iff_not,eq_self,implies_true,forall_const]
  exact⟨kf _ (by kernel_rfl),fun _=>⟨aw _,⟨nn_of hc.1,nn_of h3.1⟩⟩,fun _=>⟨fun _=>⟨aw _,⟨nn_of hc.1,nn_of h3.1⟩⟩,fun _=>⟨kc _ (by kernel_rfl),⟨aw _,⟨nn_of hc.1,nn_of h3.1⟩⟩⟩⟩⟩
set_option maxHeartbeats 2000000 in
theorem leaveNEEE_can(hη:OneCells η)(hmix:Tryd.prog.follows .mixedOrders=true){ty n cap:Nat}{c:List Value}{k xb:Int}(hc:RowS c 0 n) :
  CallSpec η Tryd.prog B 3 [.agg ⟨[.slice (some ⟨126,0,none⟩) n cap,.slice none 0 9223372036854775808,.int .i64 k,.slice none 0 9223372036854775808]⟩,.int .u8 xb,.slice none 0 9223372036854775808] (heapT [(ty,c)]) fun v _=>v = .bool true:=by
 have kf:=fun (H:AH) q0=>farNEE_any (B:=B) (H:=H) (r:=126) (ty:=ty) (own:=0) (cap:=cap) (n:=n) (k:=k) hη hmix q0 hc
 have aw:=fun (H:AH)=>FN.awake_ok (B:=B) hη hmix H
 have kc:=fun (H:AH) q=>ckW_any (B:=B) (H:=H) (r:=126) (ty:=ty) (own:=0) (n:=n) (cap:=cap) (k:=k) (pv:=.slice none 0 9223372036854775808) hη hmix q hc rfl
 by_cases h:n=0∨16<n
 ·rw [show chE n=3 by unfold chE;rw [if_pos h]] at kc
  refine LUNEEE3.enter hη hmix (reg0 hη hmix) ty n cap c k xb ?_
  simp only [W.holds,true_and,and_true,true_implies,decide_eq_true_eq,decide_eq_false_iff_not,eq_self,implies_true,forall_const]
  exact⟨kf _ (by kernel_rfl),fun _=>⟨aw _,nn_of hc.1⟩,fun _=>⟨kc _ (by kernel_rfl),⟨aw _,nn_of hc.1⟩⟩⟩
 ·rw [show chE n=2 by unfold chE;rw [if_neg h]] at kc
  refine LUNEEE2.enter hη hmix (reg0 hη hmix) ty n cap c k xb ?_
  simp only [W.holds,true_and,and_true,true_implies,decide_eq_true_eq,decide_eq_false_iff_not,eq_self,implies_true,forall_const]
  exact⟨kf _ (by kernel_rfl),fun _=>⟨aw _,nn_of hc.1⟩,fun _=>⟨kc _ (by kernel_rfl),⟨aw _,nn_of hc.1⟩⟩⟩
set_option maxRecDepth 20000 in
set_option maxHeartbeats 2000000 in
theorem badNN_can(hη:OneCells η)(hmix:Tryd.prog.follows .mixedOrders=true){ty ty' ty2 ty3 n n' nk cap cap' cap2 cap3:Nat}{c c' c3:List Value}{l:List (Int × Int)}{k xb:Int}(hc:RowS c 0 n)(hc':RowI c' 0 n')(hcap:isU cap=false)(hcn:n≤cap)(hne:l ≠ [])(h3:RowS c3 0 nk)(hck:ckR c 0 n c' 0 n' k l ≠ 0) :
  CallSpec η Tryd.prog B 3 [.agg ⟨[.slice (some ⟨126,0,none⟩) n cap,.slice (some ⟨127,0,none⟩) n' cap',.int .i64 k,.slice (some ⟨128,0,none⟩) l.length cap2]⟩,.int .u8 xb,.slice (some ⟨129,0,none⟩) nk cap3] (heapTT tabR [(ty,c),(ty',c'),(ty2,ptV l),(ty3,c3)]) fun v _=>v = .bool true:=by
 have kf:=fun (H:AH) q0 q1 q2=>farNNN_any (B:=B) (H:=H) (r:=126) (ty:=ty) (own:=0) (cap:=cap) (n:=n) (r':=127) (ty':=ty') (own':=0) (cap':=cap') (n':=n') (r2:=128) (ty2:=ty2) (own2:=0) (cap2:=cap2) (m:=l.length) (k:=k) hη hmix q0 q1 q2 (by decide) (by decide) (by decide) hc hc' (ptV_bare l)
 have aw:=fun (H:AH)=>FN.awake_ok (B:=B) hη hmix H
 refine LwNN.enter hη hmix (reg0 hη hmix) pow ty ty' ty2 ty3 n n' l.length nk cap cap' cap2 cap3 c c' (ptV l) c3 k xb ?_
 simp only [W.holds,true_and,and_true,true_implies,decide_eq_true_eq,decide_eq_false_iff_not,eq_self,implies_true,forall_const,ptsOf_ptV]
 refine⟨kf _ (by kernel_rfl) (by kernel_rfl) (by kernel_rfl),fun _=>⟨aw _,⟨nn_of pow_bare,nn_of hc.1,nn_of hc'.1,nn_of (ptV_bare l),nn_of h3.1⟩⟩,fun hf=>⟨fun _=>⟨aw _,⟨nn_of pow_bare,nn_of hc.1,nn_of hc'.1,nn_of (ptV_bare l),nn_of h3.1⟩⟩,fun _=>?_⟩⟩
 obtain⟨hn20,hn20',hm,hln⟩:=far_no hf
 have hl:∀ i,i<n→(strAt c (0+i)).length≤1000000:=fun i hi=>by have:=hln i hi;rw [Nat.zero_add];omega
 have ck:=fun (H:AH) ht h0 h1 h2=>ckN_any (B:=B) (H:=H) (r:=126) (r':=127) (r2:=128) (ty:=ty) (ty':=ty') (ty2:=ty2) (own:=0) (own':=0) (own2:=0) (o:=0) (o':=0) (cap:=cap) (cap':=cap') (cap2:=cap2) (k:=k) hη hmix ht h0 h1 h2 (by decide) (by decide) (by decide) (by decide) hc hc' hl hcap hcn (show l.length≤1000000 by omega) hne
 simp only [show ckI c 0 n c' 0 n' k (ptV l) l.length=Int.ofNat (Nat.succ (ckN1 c 0 n c' 0 n' k l)) by rw [ckI_eq];exact ckN1_eq hck] at ck
 exact⟨ck _ (hasT1 (by kernel_rfl)) (by kernel_rfl) (by kernel_rfl) (by kernel_rfl),⟨aw _,⟨nn_of pow_bare,nn_of hc.1,nn_of hc'.1,nn_of (ptV_bare l),nn_of h3.1⟩⟩⟩
set_option maxRecDepth 20000 in
set_option maxHeartbeats 2000000 in
theorem badNE_can(hη:OneCells η)(hmix:Tryd.prog.follows .mixedOrders=true){ty ty' ty2 n n' cap cap' cap2:Nat}{c c':List Value}{l:List (Int × Int)}{k xb:Int}(hc:RowS c 0 n)(hc':RowI c' 0 n')(hcap:isU cap=false)(hcn:n≤cap)(hne:l ≠ [])(hck:ckR c 0 n c' 0 n' k l ≠ 0) :
  CallSpec η Tryd.prog B 3 [.agg ⟨[.slice (some ⟨126,0,none⟩) n cap,.slice (some ⟨127,0,none⟩) n' cap',.int .i64 k,.slice (some ⟨128,0,none⟩) l.length cap2]⟩,.int .u8 xb,.slice none 0 9223372036854775808] (heapTT tabR [(ty,c),(ty',c'),(ty2,ptV l)]) fun v _=>v = .bool true:=by
 have kf:=fun (H:AH) q0 q1 q2=>farNNN_any (B:=B) (H:=H) (r:=126) (ty:=ty) (own:=0) (cap:=cap) (n:=n) (r':=127) (ty':=ty') (own':=0) (cap':=cap') (n':=n') (r2:=128) (ty2:=ty2) (own2:=0) (cap2:=cap2) (m:=l.length) (k:=k) hη hmix q0 q1 q2 (by decide) (by decide) (by decide) hc hc' (ptV_bare l)
 have aw:=fun (H:AH)=>FN.awake_ok (B:=B) hη hmix H
 refine LwNE.enter hη hmix (reg0 hη hmix) pow ty ty' ty2 n n' l.length cap cap' cap2 c c' (ptV l) k xb ?_
 simp only [W.holds,true_and,and_true,true_implies,decide_eq_true_eq,decide_eq_false_iff_not,eq_self,implies_true,forall_const,ptsOf_ptV]
 refine⟨kf _ (by kernel_rfl) (by kernel_rfl) (by kernel_rfl),fun _=>⟨aw _,⟨nn_of pow_bare,nn_of hc.1,nn_of hc'.1,nn_of (ptV_bare l)⟩⟩,fun hf=>?_⟩
 obtain⟨hn20,hn20',hm,hln⟩:=far_no hf
 have hl:∀ i,i<n→(strAt c (0+i)).length≤1000000:=fun i hi=>by have:=hln i hi;rw [Nat.zero_add];omega
 have ck:=fun (H:AH) ht h0 h1 h2=>ckN_any (B:=B) (H:=H) (r:=126) (r':=127) (r2:=128) (ty:=ty) (ty':=ty') (ty2:=ty2) (own:=0) (own':=0) (own2:=0) (o:=0) (o':=0) (cap:=cap) (cap':=cap') (cap2:=cap2) (k:=k) hη hmix ht h0 h1 h2 (by decide) (by decide) (by decide) (by decide) hc hc' hl hcap hcn (show l.length≤1000000 by omega) hne
 simp only [show ckI c 0 n c' 0 n' k (ptV l) l.length=Int.ofNat (Nat.succ (ckN1 c 0 n c' 0 n' k l)) by rw [ckI_eq];exact ckN1_eq hck] at ck
 exact⟨ck _ (hasT1 (by kernel_rfl)) (by kernel_rfl) (by kernel_rfl) (by kernel_rfl),⟨aw _,⟨nn_of pow_bare,nn_of hc.1,nn_of hc'.1,nn_of (ptV_bare l)⟩⟩⟩
set_option maxRecDepth 20000 in
set_option maxHeartbeats 2000000 in
theorem badEN_can(hη:OneCells η)(hmix:Tryd.prog.follows .mixedOrders=true){ty ty' ty3 n n' nk cap cap' cap3:Nat}{c c' c3:List Value}{k xb:Int}(hc:RowS c 0 n)(hc':RowI c' 0 n')(hcap:isU cap=false)(hcn:n≤cap)(h3:RowS c3 0 nk)(hck:ckR c 0 n c' 0 n' k [] ≠ 0) :
  CallSpec η Tryd.prog B 3 [.agg ⟨[.slice (some ⟨126,0,none⟩) n cap,.slice (some ⟨127,0,none⟩) n' cap',.int .i64 k,.slice none 0 9223372036854775808]⟩,.int .u8 xb,.slice (some ⟨128,0,none⟩) nk cap3] (heapTT tabR [(ty,c),(ty',c'),(ty3,c3)]) fun v _=>v = .bool true:=by
 have kf:=fun (H:AH) q0 q1=>farNNE_any (B:=B) (H:=H) (r:=126) (ty:=ty) (own:=0) (cap:=cap) (n:=n) (r':=127) (ty':=ty') (own':=0) (cap':=cap') (n':=n') (k:=k) hη hmix q0 q1 (by decide) hc hc'
 have aw:=fun (H:AH)=>FN.awake_ok (B:=B) hη hmix H
 refine LwEN.enter hη hmix (reg0 hη hmix) pow ty ty' ty3 n n' nk cap cap' cap3 c c' c3 k xb ?_
 simp only [W.holds,true_and,and_true,true_implies,decide_eq_true_eq,decide_eq_false_iff_not,eq_self,implies_true,forall_const]
 refine⟨kf _ (by kernel_rfl) (by kernel_rfl),fun _=>⟨aw _,⟨nn_of pow_bare,nn_of hc.1,nn_of hc'.1,nn_of h3.1⟩⟩,fun hf=>⟨fun _=>⟨aw _,⟨nn_of pow_bare,nn_of hc.1,nn_of hc'.1,nn_of h3.1⟩⟩,fun _=>?_⟩⟩
 obtain⟨hn20,hn20',hm,hln⟩:=far_no hf
 have hl:∀ i,i<n→(strAt c (0+i)).length≤1000000:=fun i hi=>by have:=hln i hi;rw [Nat.zero_add];omega
 have ck:=fun (H:AH) ht h0 h1=>ckE_any (B:=B) (H:=H) (r:=126) (r':=127) (ty:=ty) (ty':=ty') (own:=0) (own':=0) (o:=0) (o':=0) (cap:=cap) (cap':=cap') (k:=k) hη hmix ht h0 h1 (by decide) (by decide) hc hc' hl hcap hcn
 simp only [show ckZ c 0 n c' 0 n' k=Int.ofNat (Nat.succ (ckN1 c 0 n c' 0 n' k [])) by rw [ckZ_eq];exact ckN1_eq hck] at ck
 exact⟨ck _ (hasT1 (by kernel_rfl)) (by kernel_rfl) (by kernel_rfl),⟨aw _,⟨nn_of pow_bare,nn_of hc.1,nn_of hc'.1,nn_of h3.1⟩⟩⟩
set_option maxRecDepth 20000 in
set_option maxHeartbeats 2000000 in
theorem badEE_can(hη:OneCells η)(hmix:Tryd.prog.follows .mixedOrders=true){ty ty' n n' cap cap':Nat}{c c':List Value}{k xb:Int}(hc:RowS c 0 n)(hc':RowI c' 0 n')(hcap:isU cap=false)(hcn:n≤cap)(hck:ckR c 0 n c' 0 n' k [] ≠ 0) :
  CallSpec η Tryd.prog B 3 [.agg ⟨[.slice (some ⟨126,0,none⟩) n cap,.slice (some ⟨127,0,none⟩) n' cap',.int .i64 k,.slice none 0 9223372036854775808]⟩,.int .u8 xb,.slice none 0 9223372036854775808] (heapTT tabR [(ty,c),(ty',c')]) fun v _=>v = .bool true:=by
 have kf:=fun (H:AH) q0 q1=>farNNE_any (B:=B) (H:=H) (r:=126) (ty:=ty) (own:=0) (cap:=cap) (n:=n) (r':=127) (ty':=ty') (own':=0) (cap':=cap') (n':=n') (k:=k) hη hmix q0 q1 (by decide) hc hc'
 have aw:=fun (H:AH)=>FN.awake_ok (B:=B) hη hmix H
 refine LwEE.enter hη hmix (reg0 hη hmix) pow ty ty' n n' cap cap' c c' k xb ?_
 simp only [W.holds,true_and,and_true,true_implies,decide_eq_true_eq,decide_eq_false_iff_not,eq_self,implies_true,forall_const]
 refine⟨kf _ (by kernel_rfl) (by kernel_rfl),fun _=>⟨aw _,⟨nn_of pow_bare,nn_of hc.1,nn_of hc'.1⟩⟩,fun hf=>?_⟩
 obtain⟨hn20,hn20',hm,hln⟩:=far_no hf
 have hl:∀ i,i<n→(strAt c (0+i)).length≤1000000:=fun i hi=>by have:=hln i hi;rw [Nat.zero_add];omega
 have ck:=fun (H:AH) ht h0 h1=>ckE_any (B:=B) (H:=H) (r:=126) (r':=127) (ty:=ty) (ty':=ty') (own:=0) (own':=0) (o:=0) (o':=0) (cap:=cap) (cap':=cap') (k:=k) hη hmix ht h0 h1 (by decide) (by decide) hc hc' hl hcap hcn
 simp only [show ckZ c 0 n c' 0 n' k=Int.ofNat (Nat.succ (ckN1 c 0 n c' 0 n' k [])) by rw [ckZ_eq];exact ckN1_eq hck] at ck
 exact⟨ck _ (hasT1 (by kernel_rfl)) (by kernel_rfl) (by kernel_rfl),⟨aw _,⟨nn_of pow_bare,nn_of hc.1,nn_of hc'.1⟩⟩⟩
end RG
end Go.Ev

/- Rings of backends: the law of a backend that leaves, over the world (written by mkLX.py). -/
namespace Go.Ev
open Go Go.Proofs Go.RowKit
variable {η:Nat→Value} {B:Bd}
theorem all4{α:Type}{p:α→Prop}{a b c d:α}(ha:p a)(hb:p b)(hc:p c)(hd:p d):∀ x,x ∈ [a,b,c,d]→p x:=fun x hx=>by
 rcases List.mem_cons.1 hx with rfl | hx
 ·exact ha
 ·exact all3 hb hc hd x hx
namespace RG
theorem callT2{f:FuncId}{W:World}{l:List Row}{a0 a1 a2 a3 v0 v1 v2 v3:Value}{k xb:Int}(ht:∀ x ∈ tabR,TabAtP (fun _=>.nilIface) Tryd.prog W x)(hl:∀ x ∈ l,RowAt W x)(hd:∀ x ∈ l,x.ty ≠ 115)
  (h0:VR (fun _=>.nilIface) (envR Tryd.prog W l) a0 v0) (h1:VR (fun _=>.nilIface) (envR Tryd.prog W l) a1 v1) (h2:VR (fun _=>.nilIface) (envR Tryd.prog W l) a2 v2) (h3:VR (fun _=>.nilIface) (envR Tryd.prog W l) a3 v3)
  (q:CallSpec (fun _=>.nilIface) Tryd.prog (bdRT W tabR) f [.agg ⟨[a0,a1,.int .i64 k,a2]⟩,.int .u8 xb,a3] (heapRT tabR l) fun v _=>v = .bool true) :
  Calls Tryd.prog f #[.agg ⟨[v0,v1,.int .i64 k,v2]⟩,.int .u8 xb,v3] W fun e w'=>e = .returned (.bool true)∧Go.RowKit.Below W.heap.size W w':=
 CallSpec.trueRT FN.gs9 ht hl (fun x hx y hy=>by
  unfold tabR at hy
  rw [List.mem_singleton] at hy
  subst hy;exact hd x hx) (.cons (.agg4 h0 h1 (.int _ _) h2) (.cons (.int _ _) (.cons h3 .nil))) q
theorem callR2{f:FuncId}{W:World}{l:List Row}{a0 a1 a2 a3 v0 v1 v2 v3:Value}{k xb:Int}(hl:∀ x ∈ l,RowAt W x)
  (h0:VR (fun _=>.nilIface) (envR Tryd.prog W l) a0 v0) (h1:VR (fun _=>.nilIface) (envR Tryd.prog W l) a1 v1) (h2:VR (fun _=>.nilIface) (envR Tryd.prog W l) a2 v2) (h3:VR (fun _=>.nilIface) (envR Tryd.prog W l) a3 v3)
  (q:CallSpec (fun _=>.nilIface) Tryd.prog (bdR W) f [.agg ⟨[a0,a1,.int .i64 k,a2]⟩,.int .u8 xb,a3] (heapR l) fun v _=>v = .bool true) :
  Calls Tryd.prog f #[.agg ⟨[v0,v1,.int .i64 k,v2]⟩,.int .u8 xb,v3] W fun e w'=>e = .returned (.bool true)∧Go.RowKit.Below W.heap.size W w':=
 CallSpec.trueR FN.gs9 hl (.cons (.agg4 h0 h1 (.int _ _) h2) (.cons (.int _ _) (.cons h3 .nil))) q
theorem leaveNN_full(hη:OneCells η)(hmix:Tryd.prog.follows .mixedOrders=true){ty ty' ty2 ty3 n n' nk cap cap' cap2 cap3:Nat}{c c' c3:List Value}{l:List (Int × Int)}{k xb:Int}(hc:RowS c 0 n)(hc':RowI c' 0 n')(hcap:isU cap=false)(hcn:n≤cap)(hne:l ≠ [])(h3:RowS c3 0 nk)(bb:0≤xb∧xb<256) :
  CallSpec η Tryd.prog B 3 [.agg ⟨[.slice (some ⟨126,0,none⟩) n cap,.slice (some ⟨127,0,none⟩) n' cap',.int .i64 k,.slice (some ⟨128,0,none⟩) l.length cap2]⟩,.int .u8 xb,.slice (some ⟨129,0,none⟩) nk cap3] (heapTT tabR [(ty,c),(ty',c'),(ty2,ptV l),(ty3,c3)]) fun v _=>v = .bool true:=by
 by_cases hck:ckR c 0 n c' 0 n' k l=0
 ·by_cases hz:∃ t:Nat,t<n∧xb.tmod (n:Int)=(t:Int)∧l.filter (notB t)=[]
  ·obtain⟨t0,_,e0,z0⟩:=hz
   exact leaveNEN_can hη hmix hc hc' hcap hcn hne h3 bb hck fun t _ e=>by
    have:t=t0:=by omega
    subst this;exact z0
  ·exact leaveNNN_can hη hmix hc hc' hcap hcn hne h3 bb hck fun t ht e q=>hz ⟨t,ht,e,q⟩
 ·exact badNN_can hη hmix hc hc' hcap hcn hne h3 hck
theorem leaveNE_full(hη:OneCells η)(hmix:Tryd.prog.follows .mixedOrders=true){ty ty' ty2 n n' cap cap' cap2:Nat}{c c':List Value}{l:List (Int × Int)}{k xb:Int}(hc:RowS c 0 n)(hc':RowI c' 0 n')(hcap:isU cap=false)(hcn:n≤cap)(hne:l ≠ [])(bb:0≤xb∧xb<256) :
  CallSpec η Tryd.prog B 3 [.agg ⟨[.slice (some ⟨126,0,none⟩) n cap,.slice (some ⟨127,0,none⟩) n' cap',.int .i64 k,.slice (some ⟨128,0,none⟩) l.length cap2]⟩,.int .u8 xb,.slice none 0 9223372036854775808] (heapTT tabR [(ty,c),(ty',c'),(ty2,ptV l)]) fun v _=>v = .bool true:=by
 by_cases hck:ckR c 0 n c' 0 n' k l=0
 ·by_cases hz:∃ t:Nat,t<n∧xb.tmod (n:Int)=(t:Int)∧l.filter (notB t)=[]
  ·obtain⟨t0,_,e0,z0⟩:=hz
   exact leaveNEE_can hη hmix hc hc' hcap hcn hne bb hck fun t _ e=>by
    have:t=t0:=by omega
    subst this;exact z0
  ·exact leaveNNE_can hη hmix hc hc' hcap hcn hne bb hck fun t ht e q=>hz ⟨t,ht,e,q⟩
 ·exact badNE_can hη hmix hc hc' hcap hcn hne hck
theorem leaveEN_full(hη:OneCells η)(hmix:Tryd.prog.follows .mixedOrders=true){ty ty' ty3 n n' nk cap cap' cap3:Nat}{c c' c3:List Value}{k xb:Int}(hc:RowS c 0 n)(hc':RowI c' 0 n')(hcap:isU cap=false)(hcn:n≤cap)(h3:RowS c3 0 nk)(bb:0≤xb∧xb<256) :
  CallSpec η Tryd.prog B 3 [.agg ⟨[.slice (some ⟨126,0,none⟩) n cap,.slice (some ⟨127,0,none⟩) n' cap',.int .i64 k,.slice none 0 9223372036854775808]⟩,.int .u8 xb,.slice (some ⟨128,0,none⟩) nk cap3] (heapTT tabR [(ty,c),(ty',c'),(ty3,c3)]) fun v _=>v = .bool true:=by
 by_cases hck:ckR c 0 n c' 0 n' k []=0
 ·exact leaveEEN_can hη hmix hc hc' hcap hcn h3 bb hck
 ·exact badEN_can hη hmix hc hc' hcap hcn h3 hck
theorem leaveEE_full(hη:OneCells η)(hmix:Tryd.prog.follows .mixedOrders=true){ty ty' n n' cap cap':Nat}{c c':List Value}{k xb:Int}(hc:RowS c 0 n)(hc':RowI c' 0 n')(hcap:isU cap=false)(hcn:n≤cap)(bb:0≤xb∧xb<256) :
  CallSpec η Tryd.prog B 3 [.agg ⟨[.slice (some ⟨126,0,none⟩) n cap,.slice (some ⟨127,0,none⟩) n' cap',.int .i64 k,.slice none 0 9223372036854775808]⟩,.int .u8 xb,.slice none 0 9223372036854775808] (heapTT tabR [(ty,c),(ty',c')]) fun v _=>v = .bool true:=by
 by_cases hck:ckR c 0 n c' 0 n' k []=0
 ·exact leaveEEE_can hη hmix hc hc' hcap hcn bb hck
 ·exact badEE_can hη hmix hc hc' hcap hcn hck
theorem leave_row(hmix:Tryd.prog.follows .mixedOrders=true){W:World}(ht:∀ x ∈ tabR,TabAtP (fun _=>.nilIface) Tryd.prog W x){v0 v1 v2 v3:Value}{n n' nk:Nat}{c c' c3:List Value}{l:List (Int × Int)}{k xb:Int}
  (h0:RArg 115 W v0 n c) (l0:c.length=n) (s0:∀ u,u ∈ c→∃ s,u = .string s) (h1:RArg 115 W v1 n' c') (l1:c'.length=n') (s1:∀ u,u ∈ c'→∃ z,u = .int .i64 z) (h2:RArg 115 W v2 l.length (prs (fun p=>.int .u32 p.1) (fun p=>.int .i64 p.2) l))
  (h3:RArg 115 W v3 nk c3) (l3:c3.length=nk) (s3:∀ u,u ∈ c3→∃ s,u = .string s) (bb:0≤xb∧xb<256) :
  Calls Tryd.prog 3 #[.agg ⟨[v0,v1,.int .i64 k,v2]⟩,.int .u8 xb,v3] W fun e w'=>e = .returned (.bool true)∧Go.RowKit.Below W.heap.size W w':=by
 have hη:OneCells (fun _=>Value.nilIface):=fun _=>rfl
 have hc:=rowS_of l0 s0
 have hc':=rowI_of l1 s1
 have hc3:=rowS_of l3 s3
 rw [prs_ptV] at h2
 have hp2:=ptV_bare l
 rcases h0 with⟨e0,p0,q0,rfl⟩ | ⟨n0,blk0,o0,cap0,ty0,rfl,u0,k0,t0,r0⟩ <;> rcases h1 with⟨e1,p1,q1,rfl⟩ | ⟨n1,blk1,o1,cap1,ty1,rfl,u1,k1,t1,r1⟩ <;> rcases h2 with⟨e2,p2,q2,rfl⟩ | ⟨n2,blk2,o2,cap2,ty2,rfl,u2,k2,t2,r2⟩ <;> rcases h3 with⟨e3,p3,q3,rfl⟩ | ⟨n3,blk3,o3,cap3,ty3,rfl,u3,k3,t3,r3⟩
 ·exact callR2 (l:=[]) (fun x hx=>by cases hx) (.sliceE _ _) (.sliceE _ _) (.sliceE _ _) (.sliceE _ _) (leaveEEEE_can hη hmix)
 ·exact callR2 (l:=[⟨ty3,c3,blk3,o3⟩]) (all1 r3) (.sliceE _ _) (.sliceE _ _) (.sliceE _ _) (.slot (i:=0) rfl u3) (leaveEEEN_can hη hmix hc3)
 ·exact callR2 (l:=[⟨ty2,ptV l,blk2,o2⟩]) (all1 r2) (.sliceE _ _) (.sliceE _ _) (.slot (i:=0) rfl u2) (.sliceE _ _) (leaveEENE_can hη hmix hp2)
 ·exact callR2 (l:=[⟨ty2,ptV l,blk2,o2⟩,⟨ty3,c3,blk3,o3⟩]) (all2 r2 r3) (.sliceE _ _) (.sliceE _ _) (.slot (i:=0) rfl u2) (.slot (i:=1) rfl u3) (leaveEENN_can hη hmix hp2 hc3)
 ·exact callR2 (l:=[⟨ty1,c',blk1,o1⟩]) (all1 r1) (.sliceE _ _) (.slot (i:=0) rfl u1) (.sliceE _ _) (.sliceE _ _) (leaveENEE_can hη hmix hc')
 ·exact callR2 (l:=[⟨ty1,c',blk1,o1⟩,⟨ty3,c3,blk3,o3⟩]) (all2 r1 r3) (.sliceE _ _) (.slot (i:=0) rfl u1) (.sliceE _ _) (.slot (i:=1) rfl u3) (leaveENEN_can hη hmix hc' hc3)
 ·exact callR2 (l:=[⟨ty1,c',blk1,o1⟩,⟨ty2,ptV l,blk2,o2⟩]) (all2 r1 r2) (.sliceE _ _) (.slot (i:=0) rfl u1) (.slot (i:=1) rfl u2) (.sliceE _ _) (leaveENNE_can hη hmix hc' hp2)
 ·exact callR2 (l:=[⟨ty1,c',blk1,o1⟩,⟨ty2,ptV l,blk2,o2⟩,⟨ty3,c3,blk3,o3⟩]) (all3 r1 r2 r3) (.sliceE _ _) (.slot (i:=0) rfl u1) (.slot (i:=1) rfl u2) (.slot (i:=2) rfl u3) (leaveENNN_can hη hmix hc' hp2 hc3)
 ·exact callR2 (l:=[⟨ty0,c,blk0,o0⟩]) (all1 r0) (.slot (i:=0) rfl u0) (.sliceE _ _) (.sliceE _ _) (.sliceE _ _) (leaveNEEE_can hη hmix hc)
 ·exact callR2 (l:=[⟨ty0,c,blk0,o0⟩,⟨ty3,c3,blk3,o3⟩]) (all2 r0 r3) (.slot (i:=0) rfl u0) (.sliceE _ _) (.sliceE _ _) (.slot (i:=1) rfl u3) (leaveNEEN_can hη hmix hc hc3)
 ·exact callR2 (l:=[⟨ty0,c,blk0,o0⟩,⟨ty2,ptV l,blk2,o2⟩]) (all2 r0 r2) (.slot (i:=0) rfl u0) (.sliceE _ _) (.slot (i:=1) rfl u2) (.sliceE _ _) (leaveNENE_can hη hmix hc hp2)
 ·exact callR2 (l:=[⟨ty0,c,blk0,o0⟩,⟨ty2,ptV l,blk2,o2⟩,⟨ty3,c3,blk3,o3⟩]) (all3 r0 r2 r3) (.slot (i:=0) rfl u0) (.sliceE _ _) (.slot (i:=1) rfl u2) (.slot (i:=2) rfl u3) (leaveNENN_can hη hmix hc hp2 hc3)
 ·exact callT2 (l:=[⟨ty0,c,blk0,o0⟩,⟨ty1,c',blk1,o1⟩]) ht (all2 r0 r1) (all2 t0 t1) (.slot (i:=0) rfl u0) (.slot (i:=1) rfl u1) (.sliceE _ _) (.sliceE _ _) (leaveEE_full hη hmix hc hc' u0 k0 bb)
 ·exact callT2 (l:=[⟨ty0,c,blk0,o0⟩,⟨ty1,c',blk1,o1⟩,⟨ty3,c3,blk3,o3⟩]) ht (all3 r0 r1 r3) (all3 t0 t1 t3) (.slot (i:=0) rfl u0) (.slot (i:=1) rfl u1) (.sliceE _ _) (.slot (i:=2) rfl u3) (leaveEN_full hη hmix hc hc' u0 k0 hc3 bb)
 ·exact callT2 (l:=[⟨ty0,c,blk0,o0⟩,⟨ty1,c',blk1,o1⟩,⟨ty2,ptV l,blk2,o2⟩]) ht (all3 r0 r1 r2) (all3 t0 t1 t2) (.slot (i:=0) rfl u0) (.slot (i:=1) rfl u1) (.slot (i:=2) rfl u2) (.sliceE _ _) (leaveNE_full hη hmix hc hc' u0 k0 (fun e=>by rw [e] at n2;exact absurd n2 (Nat.lt_irrefl _)) bb)
 ·exact callT2 (l:=[⟨ty0,c,blk0,o0⟩,⟨ty1,c',blk1,o1⟩,⟨ty2,ptV l,blk2,o2⟩,⟨ty3,c3,blk3,o3⟩]) ht (all4 r0 r1 r2 r3) (all4 t0 t1 t2 t3) (.slot (i:=0) rfl u0) (.slot (i:=1) rfl u1) (.slot (i:=2) rfl u2) (.slot (i:=3) rfl u3) (leaveNN_full hη hmix hc hc' u0 k0 (fun e=>by rw [e] at n2;exact absurd n2 (Nat.lt_irrefl _)) hc3 bb)
end RG
end Go.Ev

