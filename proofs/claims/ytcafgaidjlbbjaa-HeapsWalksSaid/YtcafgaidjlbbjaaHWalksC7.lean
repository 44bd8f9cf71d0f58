/- HWalksC, part 7: what the proof needs, in the order of its texts. -/
import Derived.Test.YtcafgaidjlbbjaaHWalksC6
import Derived.Test.YtcafgaidjlbbjaaProg
import Derived.KernelRfl
import Derived.Deep.Slices
import Derived.ChangeArms
import Derived.WideShapes
import Derived.ChangeSame
import Derived.SizedLaws
set_option linter.unusedVariables false
set_option linter.unusedSimpArgs false
namespace Go.Ev
open Go Go.Proofs
open Go.Ev.T renaming node → nN, nil → nZ
open Go.Proofs.Try (prog)
set_option maxRecDepth 100000
set_option maxHeartbeats 2000000
namespace KMade
noncomputable def bd : Code := (Go.Proofs.Try.f8.body).getD .skip
noncomputable def H0 (by_ : Int) (ty : Nat) (o : Nat) (c : List Value) (n : Nat) (cap : Nat) : AH := { objs := eE nZ (eE nZ (eE nZ (eE nZ (eE nZ (eE nZ (lL (AObj.cells ty c false 0))))))), next := 127 }
noncomputable def E (by_ : Int) (ty : Nat) (o : Nat) (c : List Value) (n : Nat) (cap : Nat) : AS := ⟨⟨8, 37, nS (uI by_) (lL (sS 126 o n cap)) nZ, [Item.code (codeAt bd [])], [], FrameMode.run, CallKind.normal, none⟩, [], H0 by_ ty o c n cap⟩
noncomputable def S0 (by_ : Int) (ty : Nat) (o : Nat) (c : List Value) (n : Nat) (cap : Nat)  (d : Nat → Value) : AS := ⟨⟨8, 37, nS (d 0) (nS (sS 126 o n cap) (nS (d 3) (nS (d 7) (nS (d 15) (lL (d 31)) nZ) (lL (d 23))) (nS (d 11) (nS (d 19) (lL (d 35)) nZ) (lL (d 27)))) (nS (pP 127 0) (nS (d 9) (nS (d 17) (lL (d 33)) nZ) (lL (d 25))) (nS (d 13) (lL (d 21)) (lL (d 29))))) (nS (d 2) (nS (d 4) (nS (d 8) (nS (d 16) (lL (d 32)) nZ) (lL (d 24))) (nS (d 12) (nS (d 20) (lL (d 36)) nZ) (lL (d 28)))) (nS (iI 0) (nS (d 10) (nS (d 18) (lL (d 34)) nZ) (lL (d 26))) (nS (d 14) (lL (d 22)) (lL (d 30))))), [Item.code (codeAt bd [1, 1, 1, 0, 1, 0, 0]), Item.inLoop (codeAt bd [1, 1, 1, 0, 1, 0, 0]), Item.inBlock 0, Item.code (codeAt bd [1, 1, 1, 1])], [], FrameMode.run, CallKind.normal, none⟩, [], ⟨eE (eE (eE (eE (eE (eE (eE (lL (AObj.cells 78 [pP 127 0, pP 128 0] true 2)) nZ) nZ) nZ) nZ) nZ) (eE (eE (eE (eE (eE (lL (AObj.map [] 0 true)) nZ) nZ) nZ) nZ) nZ)) (eE (eE (eE (eE (eE (eE (lL (AObj.cells 75 [Value.func (Fn.func (HQ.ordN by_)) ⟨[]⟩ ⟨[]⟩, iI 1, Value.slice none 0 0, Value.map (some 129)] true 2)) nZ) nZ) nZ) nZ) nZ) (eE nZ (eE nZ (eE nZ (eE nZ (lL (AObj.cells ty c false 0))))))), 130⟩⟩
noncomputable def S1 (by_ : Int) (ty : Nat) (o : Nat) (c : List Value) (n : Nat) (cap : Nat) (i0 : Int) (l0 : List Value) (i1 : Int) (n0 : Nat) (m0 : List MapEntry) (n1 : Nat) (d : Nat → Value) : AS := ⟨⟨8, 37, nS (d 0) (nS (sS 126 o n cap) (nS (d 3) (nS (d 7) (nS (d 15) (lL (d 31)) nZ) (lL (d 23))) (nS (d 11) (nS (d 19) (lL (d 35)) nZ) (lL (d 27)))) (nS (pP 127 0) (nS (d 9) (nS (d 17) (lL (d 33)) nZ) (lL (d 25))) (nS (d 13) (lL (d 21)) (lL (d 29))))) (nS (d 2) (nS (d 4) (nS (d 8) (nS (d 16) (lL (d 32)) nZ) (lL (d 24))) (nS (d 12) (nS (d 20) (lL (d 36)) nZ) (lL (d 28)))) (nS (iI i0) (nS (d 10) (nS (d 18) (lL (d 34)) nZ) (lL (d 26))) (nS (d 14) (lL (d 22)) (lL (d 30))))), [Item.code (codeAt bd [1, 1, 1, 0, 1, 0, 0]), Item.inLoop (codeAt bd [1, 1, 1, 0, 1, 0, 0]), Item.inBlock 0, Item.code (codeAt bd [1, 1, 1, 1])], [], FrameMode.run, CallKind.normal, none⟩, [], ⟨eE (eE (eE (eE (eE (eE (eE (lL (AObj.cells 78 [pP 127 0, pP 128 0] true 2)) nZ) nZ) nZ) nZ) nZ) (eE (eE (eE (eE (eE (lL (AObj.cells 40 l0 false 2)) nZ) nZ) nZ) nZ) nZ)) (eE (eE (eE (eE (eE (eE (lL (AObj.cells 75 [Value.func (Fn.func (HQ.ordN by_)) ⟨[]⟩ ⟨[]⟩, iI i1, sS 129 0 n0 u2, Value.map (some 130)] true 2)) nZ) nZ) nZ) nZ) nZ) (eE (eE (eE (eE (eE (lL (AObj.map m0 n1 true)) nZ) nZ) nZ) nZ) (eE nZ (eE nZ (eE nZ (lL (AObj.cells ty c false 0))))))), 131⟩⟩
theorem enter {η : Nat → Value} {B : Bd} (hη : OneCells η) (hmix : prog.follows .mixedOrders = true) (hreg : RegOk η prog B noNest) {D : Value → AH → Prop} (by_ : Int) (ty : Nat) (o : Nat) (c : List Value) (n : Nat) (cap : Nat) (h : let q0 : AH := ⟨eE nZ (eE nZ (eE nZ (eE nZ (eE nZ (eE nZ (lL (AObj.cells ty c false 0))))))), 127⟩; W.holds η prog B 8 (fun kp_ st_ => RunD η prog B 8 (H0 by_ ty o c n cap) kp_ st_ (QF prog 127 D)) D (.call 19 [Value.int IntKind.u8 by_] (q0) (.ret (Value.func (Fn.func (HQ.ordN by_)) ⟨[]⟩ ⟨[]⟩) (q0)) (.call 18 [Value.func (Fn.func (HQ.ordN by_)) ⟨[]⟩ ⟨[]⟩] (q0) (.ret (Value.pointer (some ⟨127, 0, none⟩)) (⟨eE (eE (eE (eE (eE (eE (eE (lL (AObj.cells 78 [pP 127 0, pP 128 0] true 2)) nZ) nZ) nZ) nZ) nZ) (eE (eE (eE (eE (eE (lL (AObj.map [] 0 true)) nZ) nZ) nZ) nZ) nZ)) (eE (eE (eE (eE (eE (eE (lL (AObj.cells 75 [Value.func (Fn.func (HQ.ordN by_)) ⟨[]⟩ ⟨[]⟩, iI 1, Value.slice none 0 0, Value.map (some 129)] true 2)) nZ) nZ) nZ) nZ) nZ) (eE nZ (eE nZ (eE nZ (eE nZ (lL (AObj.cells ty c false 0))))))), 130⟩)) (.ite (decide ((↑n : Int) > (300 : Int))) (.need (NoNames c ∧ True) (.done 8 (Value.pointer none) (H0 by_ ty o c n cap))) (.stop [1, 5, 6] (S0 by_ ty o c n cap  (fun _ => undef))))))) : CallSpec η prog B 8 [Value.int IntKind.u8 by_, Value.slice (some ⟨126, o, none⟩) n cap] (H0 by_ ty o c n cap) D := by
  refine CallSpec.ofQF hη (CallSpec.enter (fr := (E by_ ty o c n cap).fr) (by kernel_rfl) ?_)
  exact walk_okT (h0 := H0 by_ ty o c n cap) hη hmix hreg (.steps 7 <| .call kN <| .call kN <| .steps 13 <| .bit 18 (.steps 6 <| .done (some ⟨127, [], [(126, (126, true))]⟩)) (.steps 9 <| .stop [1, 5, 6] none)) (E by_ ty o c n cap) (by kernel_rfl) h (by kernel_rfl)
theorem cut0 {η : Nat → Value} {B : Bd} (hη : OneCells η) (hmix : prog.follows .mixedOrders = true) (hreg : RegOk η prog B noNest) {D : Value → AH → Prop} (by_ : Int) (ty : Nat) (o : Nat) (c : List Value) (n : Nat) (cap : Nat)  (h : let q0 : AH := ⟨eE (eE (eE (eE (eE (eE (eE (lL (AObj.cells 78 [pP 127 0, pP 128 0] true 2)) nZ) nZ) nZ) nZ) nZ) (eE (eE (eE (eE (eE (lL (AObj.map [] 0 true)) nZ) nZ) nZ) nZ) nZ)) (eE (eE (eE (eE (eE (eE (lL (AObj.cells 75 [Value.func (Fn.func (HQ.ordN by_)) ⟨[]⟩ ⟨[]⟩, iI 1, Value.slice none 0 0, Value.map (some 129)] true 2)) nZ) nZ) nZ) nZ) nZ) (eE nZ (eE nZ (eE nZ (eE nZ (lL (AObj.cells ty c false 0))))))), 130⟩; W.holds η prog B 8 (fun kp_ st_ => RunD η prog B 8 (H0 by_ ty o c n cap) kp_ st_ (QF prog 127 D)) D (.ite (decide ((0 : Int) < (↑n : Int))) (.need ((0 : Int) ≤ (0 : Int) ∧ (0 : Int) < (↑n : Int)) (.need (c[o + (0 : Nat)]? = some (Value.int IntKind.i64 (intAt c (o + (0 : Nat))))) (.call 10 [Value.pointer (some ⟨127, 0, none⟩), Value.int IntKind.i64 (intAt c (o + 0))] (q0) (.ret (Value.tuple ⟨[Value.int IntKind.i64 1, Value.int IntKind.i64 0]⟩) (⟨eE (eE (eE (eE (eE (eE (eE (lL (AObj.cells 78 [pP 127 0, pP 128 0] true 2)) nZ) nZ) nZ) nZ) nZ) (eE (eE (eE (eE (eE (lL (AObj.map [{ key := iI 1, val := iI 0, born := 0 }] 1 true)) nZ) nZ) nZ) nZ) nZ)) (eE (eE (eE (eE (eE (eE (lL (AObj.cells 75 [Value.func (Fn.func (HQ.ordN by_)) ⟨[]⟩ ⟨[]⟩, iI 2, sS 130 0 1 u2, Value.map (some 129)] true 2)) nZ) nZ) nZ) nZ) nZ) (eE (eE (eE (eE (eE (lL (AObj.cells 40 [iI 1, iI (intAt c (o + 0))] false 2)) nZ) nZ) nZ) nZ) (eE nZ (eE nZ (eE nZ (lL (AObj.cells ty c false 0))))))), 131⟩)) (.need (NoNames c ∧ True ∧ True ∧ True ∧ True ∧ True) (.stop [1, 5, 6] (S1 by_ ty o c n cap (1) ([Value.int IntKind.i64 1, Value.int IntKind.i64 (intAt c (o + 0))]) (2) (1) ([{ key := Value.int IntKind.i64 1, val := Value.int IntKind.i64 0, born := 0 }]) (1) (fun _ => undef))))))) (.done 8 (Value.pointer (some ⟨127, 0, none⟩)) (q0)))) : RunD η prog B 8 (H0 by_ ty o c n cap) [1, 5, 6] (S0 by_ ty o c n cap  fun _ => undef) (QF prog 127 D) := by
  refine RunD.intro (S0 by_ ty o c n cap ) (fun d => ⟨rfl, rfl, rfl⟩) (fun d => tmOk_get (by kernel_rfl)) (fun d => by kernel_rfl) (fun d => ?_)
  exact walk_okT (h0 := H0 by_ ty o c n cap) hη hmix hreg (.steps 8 <| .bit 22 (.steps 9 <| .op <| .op <| .call kN <| .steps 20 <| .stop [1, 5, 6] (some ⟨131, [(127, 127), (128, 128), (130, 129), (129, 130)], [(126, (126, true)), (127, (127, false)), (128, (128, false)), (129, (130, false)), (130, (129, false))]⟩)) (.steps 8 <| .done none)) (S0 by_ ty o c n cap  d) (by kernel_rfl) h (by kernel_rfl)
theorem cut1 {η : Nat → Value} {B : Bd} (hη : OneCells η) (hmix : prog.follows .mixedOrders = true) (hreg : RegOk η prog B noNest) {D : Value → AH → Prop} (by_ : Int) (ty : Nat) (o : Nat) (c : List Value) (n : Nat) (cap : Nat) (i0 : Int) (l0 : List Value) (i1 : Int) (n0 : Nat) (m0 : List MapEntry) (n1 : Nat) (h : let q2 := (HQ.QS.push (HQ.ordN by_) n0 (HQ.QS.mk (l0) (m0) (n1)) i1 (intAt c (o + i0.toNat * 1))); let q1 := (HQ.QS.push (HQ.ordN by_) n0 (HQ.QS.mk (l0) (m0) (n1)) i1 (intAt c (o + i0.toNat * (1 : Nat)))); let q0 : AH := ⟨eE (eE (eE (eE (eE (eE (eE (lL (AObj.cells 78 [pP 127 0, pP 128 0] true 2)) nZ) nZ) nZ) nZ) nZ) (eE (eE (eE (eE (eE (lL (AObj.cells 40 l0 false 2)) nZ) nZ) nZ) nZ) nZ)) (eE (eE (eE (eE (eE (eE (lL (AObj.cells 75 [Value.func (Fn.func (HQ.ordN by_)) ⟨[]⟩ ⟨[]⟩, iI i1, sS 129 0 n0 u2, Value.map (some 130)] true 2)) nZ) nZ) nZ) nZ) nZ) (eE (eE (eE (eE (eE (lL (AObj.map m0 n1 true)) nZ) nZ) nZ) nZ) (eE nZ (eE nZ (eE nZ (lL (AObj.cells ty c false 0))))))), 131⟩; W.holds η prog B 8 (fun kp_ st_ => RunD η prog B 8 (H0 by_ ty o c n cap) kp_ st_ (QF prog 127 D)) D (.ite (decide (i0 < (↑n : Int))) (.need ((0 : Int) ≤ i0 ∧ i0 < (↑n : Int)) (.need (c[o + i0.toNat * (1 : Nat)]? = some (Value.int IntKind.i64 (intAt c (o + i0.toNat * (1 : Nat))))) (.call 10 [Value.pointer (some ⟨127, 0, none⟩), Value.int IntKind.i64 (intAt c (o + i0.toNat * 1))] (q0) (.ret (Value.tuple ⟨[Value.int IntKind.i64 i1, Value.int IntKind.i64 0]⟩) (⟨eE (eE (eE (eE (eE (eE (eE (lL (AObj.cells 78 [pP 127 0, pP 128 0] true 2)) nZ) nZ) nZ) nZ) (eE (eE (eE (eE (lL (AObj.cells 40 q2.c false 2)) nZ) nZ) nZ) nZ)) (eE (eE (eE (eE (eE (eE nZ nZ) nZ) nZ) nZ) nZ) nZ)) (eE (eE (eE (eE (eE (eE (lL (AObj.cells 75 [Value.func (Fn.func (HQ.ordN by_)) ⟨[]⟩ ⟨[]⟩, iI (IntKind.i64.wrap (i1 + 1)), sS 131 0 (n0 + 1) u2, Value.map (some 130)] true 2)) nZ) nZ) nZ) nZ) nZ) (eE (eE (eE (eE (eE (lL (AObj.map q2.E q2.ck true)) nZ) nZ) nZ) nZ) (eE nZ (eE nZ (eE nZ (lL (AObj.cells ty c false 0))))))), 132⟩)) (.need (NoNames c ∧ True ∧ True ∧ NoNames q1.c ∧ NoNamesE q1.E ∧ True) (.stop [1, 5, 6] (S1 by_ ty o c n cap (IntKind.i64.wrap (i0 + 1)) (q2.c) (IntKind.i64.wrap (i1 + 1)) (n0 + 1) (q2.E) (q2.ck) (fun _ => undef))))))) (.done 8 (Value.pointer (some ⟨127, 0, none⟩)) (q0)))) : RunD η prog B 8 (H0 by_ ty o c n cap) [1, 5, 6] (S1 by_ ty o c n cap i0 l0 i1 n0 m0 n1 fun _ => undef) (QF prog 127 D) := by
  refine RunD.intro (S1 by_ ty o c n cap i0 l0 i1 n0 m0 n1) (fun d => ⟨rfl, rfl, rfl⟩) (fun d => tmOk_get (by kernel_rfl)) (fun d => by kernel_rfl) (fun d => ?_)
  exact walk_okT (h0 := H0 by_ ty o c n cap) hη hmix hreg (.steps 8 <| .bit 22 (.steps 9 <| .op <| .op <| .call kN <| .steps 20 <| .stop [1, 5, 6] (some ⟨131, [(127, 127), (128, 128), (131, 129), (130, 130)], [(126, (126, true)), (127, (127, false)), (128, (128, false)), (129, (131, true)), (130, (130, true))]⟩)) (.steps 8 <| .done none)) (S1 by_ ty o c n cap i0 l0 i1 n0 m0 n1 d) (by kernel_rfl) h (by kernel_rfl)
end KMade
end Go.Ev

/- Contracts of queues: made. -/
namespace Go.Ev
open Go Go.Proofs Go.RowKit
variable {η : Nat → Value} {B : Bd}
namespace HQ
theorem ordN_is (b : Int) : isOrd (ordN b) := by
  unfold ordN isOrd
  split
  · exact .inl rfl
  · exact .inr rfl
theorem order_N (hη : OneCells η) (hmix : Try.prog.follows .mixedOrders = true) (b : Int) (h : AH) : CallSpec η Try.prog B 19 [.int .u8 b] h (KT.ret (.func (.func (ordN b)) #[] #[]) h).sat := by
  unfold ordN
  by_cases hb : b.tmod 2 = 1
  · rw [if_pos hb]; exact order_T hη hmix hb h
  · rw [if_neg hb]; exact order_L hη hmix hb h
def mkG (f : Nat) (src : Nat → Int) : Nat → G
  | 0 => fun _ => (0, 0)
  | i + 1 => pushG f i (mkG f src i) ((i + 1 : Nat) : Int) (src i)
theorem mkS_one (f : Nat) (src : Nat → Int) : mkS f src 1 = ⟨[.int .i64 1, .int .i64 (src 0)], [{ key := .int .i64 1, val := .int .i64 0, born := 0 }], 1⟩ := by
  show QS.up f (0 + 1) _ 0 = _
  unfold QS.up
  rw [if_pos (.inl rfl)]
  rfl
theorem mkS_form (f : Nat) (src : Nat → Int) : ∀ i, (mkS f src i).c = its (mkG f src i) i ∧ intE (mkS f src i).E
  | 0 => ⟨rfl, fun e h => by cases h⟩
  | i + 1 => by
    obtain ⟨h1, h2⟩ := mkS_form f src i
    exact push_form h1 h2 (src i)
theorem mkG_inv (f : Nat) (src : Nat → Int) : ∀ i, PushInv f src i (mkG f src i)
  | 0 => ⟨fun k h1 h2 => by omega, fun a b ha hb _ => by omega, fun k hk => by omega⟩
  | i + 1 => (mkG_inv f src i).step
theorem mkS_plc (f : Nat) (src : Nat → Int) : ∀ i, Plc i (mkG f src i) (mkS f src i).E
  | 0 => ⟨fun a b ha hb _ => by omega, fun k hk => by omega, fun e h => by cases h⟩
  | i + 1 => by
    refine push_P (mkS_form f src i).1 (mkS_plc f src i) fun k hk e => ?_
    obtain ⟨j, h1, h2⟩ := (mkG_inv f src i).src k hk
    rw [h2] at e
    simp only at e
    omega
theorem mdS_eq (f : Nat) (c : List Value) (o n : Nat) : mdS f c o n = mkS f (fun j => intAt c (o + j)) n := by unfold mdS; rfl
theorem nn_bare {c : List Value} (h : c.all bareV = true) : NoNames c := fun v hv => by
  have := List.all_eq_true.1 h v hv
  cases v <;> first | rfl | (simp [bareV] at this; done) | (rename_i a _ _; cases a <;> first | rfl | simp [bareV] at this) | (rename_i a; cases a <;> first | rfl | simp [bareV] at this)
set_option maxRecDepth 20000 in
theorem made_home (hη : OneCells η) (hmix : Try.prog.follows .mixedOrders = true) (b : Int) {ty o n cap : Nat} {c : List Value} (hc : ∀ j, j < n → c[o + j]? = some (.int .i64 (intAt c (o + j)))) (hb : c.all bareV = true) (h0 : 0 < n) (hn : n ≤ 300) :
    CallSpec η Try.prog B 8 [.int .u8 b, .slice (some ⟨126, o, none⟩) n cap] (heapT [(ty, c)]) fun v h => v = .pointer (some ⟨127, 0, none⟩) ∧ h.next = 126 + 5 ∧ hasQ h.objs [some (.cells ty c false 0), some (objQ 127 128), some (objV (ordN b) ((n + 1 : Nat) : Int) 129 n (capU 2) 130), some (.cells 40 (mdS (ordN b) c o n).c false 2), some (.map (mdS (ordN b) c o n).E (mdS (ordN b) c o n).ck true)] 126 := by
  have nn : NoNames c := nn_bare hb
  rw [mdS_eq]
  generalize hsrc : (fun j => intAt c (o + j)) = src
  have hsv : ∀ j, intAt c (o + j) = src j := fun j => by rw [← hsrc]
  generalize hD : (fun (v : Value) (h : AH) => v = .pointer (some ⟨127, 0, none⟩) ∧ h.next = 126 + 5 ∧ hasQ h.objs [some (.cells ty c false 0), some (objQ 127 128), some (objV (ordN b) ((n + 1 : Nat) : Int) 129 n (capU 2) 130), some (.cells 40 (mkS (ordN b) src n).c false 2), some (.map (mkS (ordN b) src n).E (mkS (ordN b) src n).ck true)] 126) = D
  have hord := ordN_is b
  have wr1 : ∀ i : Nat, i ≤ 1000000 → IntKind.i64.wrap ((i : Int) + 1) = ((i + 1 : Nat) : Int) := fun i hi => by rw [wrap_small (by omega) (by omega)]; omega
  have cut0 := KMade.cut0 (η := η) (B := B) (D := D) hη hmix (reg0 hη hmix) b ty o c n cap
  have cut1 := fun i0 l0 i1 n0 m0 n1 => KMade.cut1 (η := η) (B := B) (D := D) hη hmix (reg0 hη hmix) b ty o c n cap i0 l0 i1 n0 m0 n1
  simp only [W.holds, true_and, and_true, true_implies, decide_eq_true_eq, decide_eq_false_iff_not, Nat.mul_one, Nat.add_zero, Int.toNat_natCast, Int.le_refl, hsv] at cut0 cut1
  have pushes : ∀ (d i : Nat), n - i = d → 1 ≤ i → i ≤ n → RunD η Try.prog B 8 (KMade.H0 b ty o c n cap) [1, 5, 6] (KMade.S1 b ty o c n cap (i : Int) (mkS (ordN b) src i).c ((i + 1 : Nat) : Int) i (mkS (ordN b) src i).E (mkS (ordN b) src i).ck fun _ => undef) (QF Try.prog 127 D) := by
    intro d
    induction d with
    | zero =>
      intro i hd h1 hin
      have hi : i = n := by omega
      subst hi
      refine cut1 _ _ _ _ _ _ ⟨fun q => by omega, fun _ => ?_⟩
      rw [← hD]
      exact ⟨rfl, rfl, by kernel_rfl, by kernel_rfl, by kernel_rfl, by kernel_rfl, by kernel_rfl, trivial⟩
    | succ d ih =>
      intro i hd h1 hin
      have hi : i < n := by omega
      have c1 := cut1 (i : Int) (mkS (ordN b) src i).c ((i + 1 : Nat) : Int) i (mkS (ordN b) src i).E (mkS (ordN b) src i).ck
      obtain ⟨f1, f2⟩ := mkS_form (ordN b) src i
      obtain ⟨p1, p2⟩ := mkS_form (ordN b) src (i + 1)
      have next := ih (i + 1) (by omega) (by omega) hi
      have hci := hc i hi
      rw [hsv] at hci
      rw [Int.toNat_natCast, hci, qeta, wr1 i (by omega), wr1 (i + 1) (by omega)] at c1
      refine c1 ⟨fun _ => ⟨⟨by omega, by omega⟩, fun _ => ⟨rfl, fun _ => ⟨?_, ⟨nn, by rw [show (mkS (ordN b) src i).push (ordN b) i ((i + 1 : Nat) : Int) (src i) = mkS (ordN b) src (i + 1) from rfl, p1]; exact its_nn _ _, nn_int p2⟩, fun _ => next⟩⟩⟩, fun q => by omega⟩
      exact (push_at hη hmix (wr1 (i + 1) (by omega)) (q := 127) (v := 128) (r := 129) (m := 130) (f := ordN b) (x := ((i + 1 : Nat) : Int)) (n := i) (s := mkS (ordN b) src i) ⟨by kernel_rfl, by kernel_rfl, by kernel_rfl, by kernel_rfl, by decide⟩ hord f1 f2 (by omega) (by omega) (src i)).conv (by kernel_rfl)
  refine KMade.enter hη hmix (reg0 hη hmix) _ _ _ _ _ _ ?_
  simp only [W.holds, true_and, and_true, true_implies, decide_eq_true_eq, decide_eq_false_iff_not]
  refine ⟨order_N hη hmix b _, (new_any hη hmix hord _).conv (by kernel_rfl), fun q => by omega, fun _ => cut0 ⟨fun _ => ⟨by omega, fun _ => ⟨?_, fun _ => ⟨?_, nn, fun _ => ?_⟩⟩⟩, fun q => by omega⟩⟩
  · have := hc 0 h0
    rw [hsv, Nat.add_zero] at this
    have e := hsv 0
    rw [Nat.add_zero] at e
    rw [this, e]
  · exact (push_any0 hη hmix (q := 127) (v := 128) (m := 129) (f := ordN b) (x := 1) ⟨by kernel_rfl, by kernel_rfl, by kernel_rfl, by decide⟩ hord (by decide) _).conv (by kernel_rfl)
  · have k := pushes (n - 1) 1 rfl (Nat.le_refl _) (by omega)
    rw [mkS_one] at k
    have e := hsv 0
    rw [Nat.add_zero] at e
    rw [e]
    exact k
end HQ
end Go.Ev

namespace Go.Ev
open Go Go.Proofs
open Go.Ev.T renaming node → nN, nil → nZ
open Go.Proofs.Try (prog)
set_option maxRecDepth 100000
set_option maxHeartbeats 2000000
namespace KPushT
noncomputable def bd : Code := (Go.Proofs.Try.f10.body).getD .skip
noncomputable def H0 (f : Nat) (x : Int) (n : Nat) (s : HQ.QS) (y : Int) : AH := { objs := eE (eE (eE (eE (eE (eE (eE (lL (AObj.cells 75 [Value.func (Fn.func f) ⟨[]⟩ ⟨[]⟩, iI x, sS 128 0 n u2, Value.map (some 129)] true 2)) nZ) nZ) nZ) nZ) nZ) (eE (eE (eE (eE (eE (lL (AObj.map s.E s.ck true)) nZ) nZ) nZ) nZ) nZ)) (eE (eE (eE (eE (eE (eE (lL (AObj.cells 40 s.c false 2)) nZ) nZ) nZ) nZ) nZ) (eE nZ (eE nZ (eE nZ (eE nZ (lL (AObj.cells 78 [pP 126 0, pP 127 0] true 2))))))), next := 130 }
noncomputable def E (f : Nat) (x : Int) (n : Nat) (s : HQ.QS) (y : Int) : AS := ⟨⟨10, 50, nS (pP 126 0) (lL (iI y)) nZ, [Item.code (codeAt bd [])], [], FrameMode.run, CallKind.normal, none⟩, [], H0 f x n s y⟩
theorem enter {η : Nat → Value} {B : Bd} (hη : OneCells η) (hmix : prog.follows .mixedOrders = true) (hreg : RegOk η prog B noNest) {D : Value → AH → Prop} (f : Nat) (x : Int) (n : Nat) (s : HQ.QS) (y : Int) (h : let q8 := (mFind (TypeDesc.int IntKind.i64) (Value.int IntKind.i64 x) s.E); let q7 : W := (.done 10 (Value.tuple ⟨[Value.int IntKind.i64 0, Value.int IntKind.i64 5]⟩) (H0 f x n s y)); let q6 : T AObj := (eE (eE (eE (lL (AObj.cells 40 [iI x, iI y] true 2)) nZ) nZ) nZ); let q5 : T AObj := (eE (eE nZ (eE (eE (lL (AObj.cells 40 [iI x, iI y] true 2)) nZ) nZ)) nZ); let q4 : T AObj := (eE nZ (eE nZ (eE nZ (lL (AObj.cells 78 [pP 126 0, pP 127 0] true 2))))); let q3 : T AObj := (eE (eE (eE (eE (eE (lL (AObj.cells 75 [Value.func (Fn.func f) ⟨[]⟩ ⟨[]⟩, iI (IntKind.i64.wrap (x + 1)), sS 154 0 (n + 1) u2, Value.map (some 129)] true 2)) nZ) nZ) nZ) nZ) nZ); let q2 := (HQ.QS.up f ((IntKind.i64.wrap ((↑(n + (1 : Nat)) : Int) - (1 : Int))).toNat + (1 : Nat)) (HQ.QS.mk (List.take (n * (2 : Nat)) (List.drop (0 : Nat) s.c) ++ [Value.int IntKind.i64 x, Value.int IntKind.i64 y]) (mPut (Value.int IntKind.i64 x) (Value.int IntKind.i64 (↑n : Int)) s.ck s.E q8) (mClock s.ck q8)) (IntKind.i64.wrap ((↑(n + (1 : Nat)) : Int) - (1 : Int))).toNat); let q1 : T AObj := (eE (eE (lL (AObj.cells 40 (HQ.QS.up f ((IntKind.i64.wrap ((↑(n + 1) : Int) - 1)).toNat + 1) (HQ.QS.mk (List.take (n * 2) (List.drop 0 s.c) ++ [iI x, iI y]) (mPut (iI x) (iI (↑n : Int)) s.ck s.E q8) (mClock s.ck q8)) (IntKind.i64.wrap ((↑(n + 1) : Int) - 1)).toNat).c false 2)) nZ) nZ); let q0 : T AObj := (eE (eE (eE (eE (lL (AObj.map (HQ.QS.up f ((IntKind.i64.wrap ((↑(n + 1) : Int) - 1)).toNat + 1) (HQ.QS.mk (List.take (n * 2) (List.drop 0 s.c) ++ [iI x, iI y]) (mPut (iI x) (iI (↑n : Int)) s.ck s.E q8) (mClock s.ck q8)) (IntKind.i64.wrap ((↑(n + 1) : Int) - 1)).toNat).E (HQ.QS.up f ((IntKind.i64.wrap ((↑(n + 1) : Int) - 1)).toNat + 1) (HQ.QS.mk (List.take (n * 2) (List.drop 0 s.c) ++ [iI x, iI y]) (mPut (iI x) (iI (↑n : Int)) s.ck s.E q8) (mClock s.ck q8)) (IntKind.i64.wrap ((↑(n + 1) : Int) - 1)).toNat).ck true)) nZ) nZ) nZ) nZ); W.holds η prog B 10 (fun kp_ st_ => RunD η prog B 10 (H0 f x n s y) kp_ st_ (QF prog 130 D)) D (.ite ((↑n : Int) == (5000 : Int)) q7 (.ite (x == (1000000000000000 : Int)) q7 (.need (Instr.findNow (TypeDesc.int IntKind.i64) (Value.int IntKind.i64 x) s.E (0 : Nat) = some q8) (.need ((2 : Nat) ≤ (2 : Nat) ∧ (0 : Nat) + n * (2 : Nat) ≤ s.c.length ∧ n + (1 : Nat) ≤ (1000000 : Nat) ∧ (2 : Nat) = (2 : Nat) ∧ true = true) (.call 62 [Value.iface 76 (Value.pointer (some ⟨127, 0, none⟩)), Value.int IntKind.i64 (IntKind.i64.wrap ((↑(n + 1) : Int) - 1))] (⟨eE (eE q3 (eE (eE (eE (eE (eE (lL (AObj.map (mPut (iI x) (iI (↑n : Int)) s.ck s.E q8) (mClock s.ck q8) true)) nZ) nZ) nZ) nZ) q5)) (eE (eE (eE (eE (eE (eE (eE nZ nZ) nZ) nZ) nZ) nZ) nZ) (eE (eE q6 (eE nZ (eE (eE (lL (AObj.cells 40 (List.take (n * 2) (List.drop 0 s.c) ++ [iI x, iI y]) false 2)) nZ) nZ))) q4)), 155⟩) (.ret (undef) (⟨eE (eE q3 (eE q0 q5)) (eE (eE (eE (eE (eE (eE (eE nZ nZ) nZ) nZ) nZ) nZ) nZ) (eE (eE q6 (eE nZ q1)) q4)), 155⟩)) (.need (True ∧ True ∧ NoNamesE q2.E ∧ NoNames q2.c ∧ True) (.done 10 (Value.tuple ⟨[Value.int IntKind.i64 x, Value.int IntKind.i64 0]⟩) (⟨eE (eE (eE (eE (eE (eE (eE (lL (AObj.cells 75 [Value.func (Fn.func f) ⟨[]⟩ ⟨[]⟩, iI (IntKind.i64.wrap (x + 1)), sS 130 0 (n + 1) u2, Value.map (some 129)] true 2)) nZ) nZ) nZ) nZ) nZ) (eE q0 nZ)) (eE nZ (eE (eE (eE q1 nZ) nZ) q4)), 131⟩))))))))) : CallSpec η prog B 10 [Value.pointer (some ⟨126, 0, none⟩), Value.int IntKind.i64 y] (H0 f x n s y) D := by
  refine CallSpec.ofQF hη (CallSpec.enter (fr := (E f x n s y).fr) (by kernel_rfl) ?_)
  exact walk_okT (h0 := H0 f x n s y) hη hmix hreg (.steps 100 <| .bit 12 (.steps 17 <| .done none) (.steps 10 <| .bit 21 (.steps 7 <| .done none) (.steps 52 <| .reg <| .steps 11 <| .op <| .reg <| .reg <| .steps 7 <| .opT <| .steps 3 <| .reg <| .steps 23 <| .call kN <| .steps 11 <| .done (some ⟨131, [(154, 130)], [(126, (126, false)), (127, (127, false)), (129, (129, true)), (130, (154, true))]⟩)))) (E f x n s y) (by kernel_rfl) h (by kernel_rfl)
end KPushT
end Go.Ev

/- Contracts of queues: Push behind Remove; Pop: plain mathematics. -/
namespace Go.Ev
open Go Go.Proofs Go.RowKit
variable {η : Nat → Value} {B : Bd}
namespace HQ
theorem pushT_form {f n k : Nat} {s : QS} {g : G} {x : Int} (hs : s.c = its g k) (hE : intE s.E) (hn : n ≤ k) (y : Int) : (s.pushT f n x y).c = its (pushG f n g x y) (n + 1) ∧ intE (s.pushT f n x y).E := by
  have hc : (QS.mk (s.c.take (n * 2)) s.E s.ck).c = its g n := by
    show s.c.take (n * 2) = _
    rw [hs, take_its hn]
  exact push_form hc hE y
theorem pushT_P {f n k : Nat} {s : QS} {g : G} {x y : Int} (hs : s.c = its g k) (hn : n ≤ k) (h : Plc n g s.E) (hx : ∀ k, k < n → (g k).1 ≠ x) : Plc (n + 1) (pushG f n g x y) (s.pushT f n x y).E := by
  have hc : (QS.mk (s.c.take (n * 2)) s.E s.ck).c = its g n := by
    show s.c.take (n * 2) = _
    rw [hs, take_its hn]
  exact push_P (s := ⟨s.c.take (n * 2), s.E, s.ck⟩) hc h hx
set_option maxRecDepth 20000 in
theorem pushT_home (hη : OneCells η) (hmix : Try.prog.follows .mixedOrders = true) {f : Nat} {x : Int} {n k : Nat} {s : QS} {g : G} (hf : isOrd f) (hs : s.c = its g k) (hE : intE s.E) (hk : n ≤ k) (hn : n < 5000) (hx : x ≠ 1000000000000000) (y : Int) :
    CallSpec η Try.prog B 10 [.pointer (some ⟨126, 0, none⟩), .int .i64 y] (heapK f x n s) fun v h => v = tupL [.int .i64 x, .int .i64 0] ∧ h.next = 131 ∧ hasQ h.objs [some (objQ 126 127), some (objV f (IntKind.i64.wrap (x + 1)) 130 (n + 1) (capU 2) 129), none, some (.map (s.pushT f n x y).E (s.pushT f n x y).ck true), some (.cells 40 (s.pushT f n x y).c false 2)] 126 := by
  have hl := its_len g k
  obtain ⟨c, E, ck⟩ := s
  simp only at hs hE
  subst hs
  have hc : (QS.place ⟨its g n ++ [.int .i64 x, .int .i64 y], E, ck⟩ x n).c = its (upd g n (x, y)) (n + 1) := its_snoc x y
  have hp : intE (QS.place ⟨its g n ++ [.int .i64 x, .int .i64 y], E, ck⟩ x n).E := QS.place_int hE
  obtain ⟨u1, u2⟩ := up_G (f := f) (k := n + 1) hc (Nat.lt_succ_self n)
  have nnc : NoNames ((QS.place ⟨its g n ++ [.int .i64 x, .int .i64 y], E, ck⟩ x n).up f (n + 1) n).c := by rw [u1]; exact its_nn _ _
  have up := up_ok (B := B) (x := IntKind.i64.wrap (x + 1)) (cap := capU 2) hη hmix hf hc hp (Nat.le_refl _) (Nat.lt_succ_self n) (by omega)
  have eT : QS.pushT f n ⟨its g k, E, ck⟩ x y = (QS.place ⟨its g n ++ [.int .i64 x, .int .i64 y], E, ck⟩ x n).up f (n + 1) n := by
    show QS.push f n ⟨(its g k).take (n * 2), E, ck⟩ x y = _
    rw [take_its hk]; rfl
  rw [eT]
  refine KPushT.enter hη hmix (reg0 hη hmix) _ _ _ _ _ ?_
  simp only [W.holds, wr_n (n := n) (by omega), Int.toNat_natCast, Nat.zero_add, List.drop_zero, take_its hk, true_and, and_true, true_implies, Nat.le_refl]
  refine ⟨fun q => by simp at q; omega, fun _ => ⟨fun q => absurd (by simpa using q) hx, fun _ => ⟨find_fE hE, fun _ => ⟨⟨by omega, by omega⟩, fun _ => ⟨?_, ⟨nn_int (u2 hp), nnc⟩, fun _ => ?_⟩⟩⟩⟩⟩
  rotate_left
  · exact ⟨rfl, by kernel_rfl, by kernel_rfl, by kernel_rfl, by kernel_rfl, trivial⟩
  exact (any_ok hη (v := 127) (r := 154) (m := 129) (by kernel_rfl) (by kernel_rfl) (by kernel_rfl) ⟨by decide, by decide, by decide⟩ hc hp u1 (u2 hp) (.cons (.iface _ (.ptr (by decide))) (.cons (.int _ _) .nil)) (fun _ _ => .tuple rfl (fun i v w h => by simp at h)) up).conv (by kernel_rfl)
theorem pushT_any (hη : OneCells η) (hmix : Try.prog.follows .mixedOrders = true) {H : AH} {q v r m f : Nat} {x x' : Int} {n k : Nat} {s : QS} {g : G} (hx' : IntKind.i64.wrap (x + 1) = x') (a : QAt H q v r m f x n s) (hf : isOrd f) (hs : s.c = its g k) (hE : intE s.E) (hk : n ≤ k) (hn : n < 5000) (hx : x ≠ 1000000000000000) (y : Int) :
    CallSpec η Try.prog B 10 [.pointer (some ⟨q, 0, none⟩), .int .i64 y] H (KT.ret (tupL [.int .i64 x, .int .i64 0]) ⟨putL (keyQ (rnK q v r m) 4 H.next) [some (objQ q v), some (objV f x' H.next (n + 1) (capU 2) m), none, some (.map (s.pushT f n x y).E (s.pushT f n x y).ck true), some (.cells 40 (s.pushT f n x y).c false 2)] 0 H.objs, H.next + (5 - 4)⟩).sat := by
  subst hx'
  obtain ⟨p1, p2⟩ := pushT_form (f := f) (x := x) hs hE hk y
  have b2 : (s.pushT f n x y).c.all bareV = true := by rw [p1]; exact its_bare _ _
  refine CallSpec.move hη gs9 (l2 := [some (objQ 126 127), some (objV f (IntKind.i64.wrap (x + 1)) 130 (n + 1) (capU 2) 129), none, some (.map (s.pushT f n x y).E (s.pushT f n x y).ck true), some (.cells 40 (s.pushT f n x y).c false 2)])
    (args := [.pointer (some ⟨126, 0, none⟩), .int .i64 y]) (stands4 a hs hE) (by simp) (.cons (.ptr (show 126 < 130 by decide)) (.cons (.int _ _) .nil)) (tup_rv rfl) ?_ (pushT_home hη hmix hf hs hE hk hn hx y)
  exact .cons (.some (ro_Q (show 126 < 131 by decide) (show 127 < 131 by decide))) (.cons (.some (ro_V (r := 130) (m := 129) (show 130 < 131 by decide) (show 129 < 131 by decide))) (.cons .none (.cons (.some (.map _ (bare_int p2) (.inl rfl))) (.cons (.some (.cells _ _ (l2_bareV b2) (.inl rfl))) .nil))))
/- Pop -/
theorem pop_lst {f n : Nat} {g : G} (h : 0 < n) : (g 0 :: lst (popG f n g) (n - 1)).Perm (lst g n) := by
  have e : lst (popG f n g) (n - 1) = lst (downG f (n - 1) (n - 1 + 1) (sw g 0 (n - 1)) 0).1 (n - 1) := lst_congr fun k hk => if_neg (by omega)
  have hl : (downG f (n - 1) (n - 1 + 1) (sw g 0 (n - 1)) 0).1 (n - 1) = g 0 := by rw [down_far (Nat.le_refl _), sw_at, if_pos rfl]
  have h1 : (lst (downG f (n - 1) (n - 1 + 1) (sw g 0 (n - 1)) 0).1 n).Perm (lst g n) := (lst_down (by omega)).trans (lst_sw h (by omega))
  generalize (downG f (n - 1) (n - 1 + 1) (sw g 0 (n - 1)) 0).1 = D at e hl h1
  rw [e]
  refine List.Perm.trans ?_ h1
  have e2 := lst_succ D (n - 1)
  rw [show n - 1 + 1 = n by omega, hl] at e2
  rw [e2]
  exact List.perm_append_comm (l₁ := [g 0])
theorem pop_heap {f m : Nat} {g : G} (h : heapG f m g) (hm : 0 < m) : heapG f (m - 1) (popG f m g) := by
  have h1 : heapG f (m - 1) (downG f (m - 1) (m - 1 + 1) (sw g 0 (m - 1)) 0).1 := by
    refine down_heap (by omega) (fun x hx hxn hp => ?_) (fun x hx hxn hp h0 => absurd h0 (Nat.lt_irrefl 0))
    rw [sw_at, sw_at, if_neg (show ¬ x = m - 1 by omega), if_neg (show ¬ x = 0 by omega), if_neg (show ¬ (x - 1) / 2 = m - 1 by omega), if_neg hp]
    exact h x hx (by omega)
  have p0 : ∀ k, k < m - 1 → popG f m g k = (downG f (m - 1) (m - 1 + 1) (sw g 0 (m - 1)) 0).1 k := fun k hk => if_neg (by omega)
  intro k hk hkn
  rw [p0 k hkn, p0 _ (by omega)]; exact h1 k hk hkn
theorem heap_head {f m : Nat} {g : G} {x : Int × Int} {L : LI} (h : heapG f m g) (hm : 0 < m) (hp : (lst g m).Perm (x :: L)) (hs : Srt f (x :: L)) (hd : dist (x :: L)) : g 0 = x := by
  have h0 : g 0 ∈ x :: L := hp.mem_iff.1 (lst_mem.2 ⟨0, hm, rfl⟩)
  obtain ⟨k, hk, e⟩ := lst_mem.1 (hp.symm.mem_iff.1 (List.mem_cons_self (a := x) (l := L)))
  have h1 : ¬ lt f x (g 0) := by rw [← e]; exact heap_min h k hk
  rcases List.mem_cons.1 h0 with h0' | h0'
  · exact h0'
  · have h2 : ¬ lt f (g 0) x := (List.pairwise_cons.1 hs).1 _ h0'
    exact dist_eq hd h0 List.mem_cons_self (lt_tri h2 h1)
/- items in order -/
theorem ltA_lt (f : Nat) (x y : Int × Int) : ltA f x y = ltG f x y := rfl
theorem srtL_perm (f : Nat) (l : LI) : (srtL f l).Perm l := by
  have := (srt_perm f (arrL l)).1
  unfold srtL
  refine this.trans ?_
  unfold arrL
  simp
theorem srtL_srt (f : Nat) (l : LI) : Srt f (srtL f l) := by
  obtain ⟨⟨hz, _, _⟩, hs⟩ := Sort.sort_sorts (ltA f) (ltA_swo f) (arrL l)
  unfold Srt srtL
  rw [List.pairwise_iff_getElem]
  intro i j hi hj hij
  have hi' : i < (srt f (arrL l)).size := by simpa using hi
  have hj' : j < (srt f (arrL l)).size := by simpa using hj
  have hjz : j < (arrL l).size := by rw [← hz]; exact hj'
  have k := hs i j (Nat.zero_le _) hij hjz
  have k : ltA f (srt f (arrL l))[j]! (srt f (arrL l))[i]! = false := k
  rw [getElem!_pos (srt f (arrL l)) j hj', getElem!_pos (srt f (arrL l)) i hi', ltA_lt, ltG_no] at k
  simpa using k
theorem made_any (hη : OneCells η) (hmix : Try.prog.follows .mixedOrders = true) (b : Int) {H : AH} {ty o n cap r : Nat} {c : List Value} (hr : H.objs.get r = some (.cells ty c false 0)) (hc : ∀ j, j < n → c[o + j]? = some (.int .i64 (intAt c (o + j)))) (hb : c.all bareV = true) (h0 : 0 < n) (hn : n ≤ 300) :
    CallSpec η Try.prog B 8 [.int .u8 b, .slice (some ⟨r, o, none⟩) n cap] H (KT.ret (.pointer (some ⟨H.next, 0, none⟩)) ⟨putL (keyQ (fun _ => r) 1 H.next) [some (.cells ty c false 0), some (objQ H.next (H.next + 1)), some (objV (ordN b) ((n + 1 : Nat) : Int) (H.next + 2) n (capU 2) (H.next + 3)), some (.cells 40 (mdS (ordN b) c o n).c false 2), some (.map (mdS (ordN b) c o n).E (mdS (ordN b) c o n).ck true)] 0 H.objs, H.next + (5 - 1)⟩).sat := by
  obtain ⟨m1, m2⟩ := mkS_form (ordN b) (fun j => intAt c (o + j)) n
  rw [← mdS_eq] at m1 m2
  refine CallSpec.move hη gs9 (rn := fun _ => r) (l := [.cells ty c false 0]) (l' := [.cells ty c false 0]) (args := [.int .u8 b, .slice (some ⟨126, o, none⟩) n cap]) (v := .pointer (some ⟨127, 0, none⟩)) (l2 := [some (.cells ty c false 0), some (objQ 127 128), some (objV (ordN b) ((n + 1 : Nat) : Int) 129 n (capU 2) 130), some (.cells 40 (mdS (ordN b) c o n).c false 2), some (.map (mdS (ordN b) c o n).E (mdS (ordN b) c o n).ck true)])
    ⟨fun i a' hi => ?_, .cons (.cells _ _ (l2_bareV hb) (.inl rfl)) .nil, fun i j hi hj _ => by simp at hi hj; omega⟩ (by simp) (.cons (.int _ _) (.cons (.slice _ _ (show 126 < 127 by decide)) .nil)) (.ptr (show 127 < 131 by decide)) ?_ (made_home hη hmix b hc hb h0 hn)
  · cases i with
    | zero => simp at hi; subst hi; exact hr
    | succ i => simp at hi
  · exact .cons (.some (.cells _ _ (l2_bareV hb) (.inl rfl))) (.cons (.some (ro_Q (show 127 < 131 by decide) (show 128 < 131 by decide))) (.cons (.some (ro_V (r := 129) (m := 130) (show 129 < 131 by decide) (show 130 < 131 by decide))) (.cons (.some (.cells _ _ (l2_bareV (bare_Q m1)) (.inl rfl))) (.cons (.some (.map _ (bare_int m2) (.inl rfl))) .nil))))
/- The items of a queue in order, as they are saved. -/
def gS (f : Nat) (src : Nat → Int) (n : Nat) : G := fun i => (arrL (srtL f (lst (mkG f src n) n)))[i]!
theorem srtL_len (f : Nat) (l : LI) : (srtL f l).length = l.length := (srtL_perm f l).length_eq
theorem gS_lst (f : Nat) (src : Nat → Int) (n : Nat) : lst (gS f src n) n = srtL f (lst (mkG f src n) n) := by
  have hl : (srtL f (lst (mkG f src n) n)).length = n := by rw [srtL_len, lst_len]
  apply List.ext_getElem?
  intro i
  rcases Nat.lt_or_ge i n with hi | hi
  · rw [lst_get hi]
    have h1 : i < (srtL f (lst (mkG f src n) n)).length := by omega
    rw [List.getElem?_eq_getElem h1]
    unfold gS arrL
    simp only [List.getElem!_toArray, List.getElem!_eq_getElem?_getD, List.getElem?_eq_getElem h1, Option.getD_some]
  · rw [List.getElem?_eq_none (by rw [lst_len]; exact hi), List.getElem?_eq_none (by omega)]
theorem sv_its (f : Nat) (c : List Value) (o n : Nat) : svC f n (mdS f c o n).c = its (gS f (fun j => intAt c (o + j)) n) n := by
  rw [mdS_eq, (mkS_form f _ n).1, svC_its (Nat.le_refl n)]
  show its _ _ = _
  have hl : (arrL (srtL f (lst (mkG f (fun j => intAt c (o + j)) n) n))).size = n := by
    unfold arrL; rw [List.size_toArray, srtL_len, lst_len]
  rw [hl]; rfl
theorem dist_distinct {n : Nat} {g : G} (h : dist (lst g n)) : distinct n g := by
  intro a b ha hb e
  have hl := lst_len g n
  unfold dist at h
  rw [List.pairwise_iff_getElem] at h
  have ga : (lst g n)[a]'(by omega) = g a := by have := lst_get (g := g) ha; rw [List.getElem?_eq_getElem (by omega)] at this; injection this
  have gb : (lst g n)[b]'(by omega) = g b := by have := lst_get (g := g) hb; rw [List.getElem?_eq_getElem (by omega)] at this; injection this
  rcases Nat.lt_trichotomy a b with h1 | h1 | h1
  · exact absurd (by rw [ga, gb]; exact e) (h a b (by omega) (by omega) h1)
  · exact h1
  · exact absurd (by rw [ga, gb]; exact e.symm) (h b a (by omega) (by omega) h1)
theorem gS_dist (f : Nat) (src : Nat → Int) (n : Nat) : dist (lst (gS f src n) n) := by
  rw [gS_lst]
  exact dist_perm (srtL_perm f _).symm (dist_lst (mkG_inv f src n).dis)
theorem gS_srt (f : Nat) (src : Nat → Int) (n : Nat) : Srt f (lst (gS f src n) n) := by rw [gS_lst]; exact srtL_srt f _
theorem gS_perm (f : Nat) (src : Nat → Int) (n : Nat) : (lst (mkG f src n) n).Perm (lst (gS f src n) n) := by rw [gS_lst]; exact (srtL_perm f _).symm
theorem drop_lst {g : G} {n a : Nat} (h : a < n) : (lst g n).drop a = g a :: (lst g n).drop (a + 1) := by
  have hl := lst_len g n
  rw [List.drop_eq_getElem_cons (by omega)]
  have := lst_get (g := g) h
  rw [List.getElem?_eq_getElem (by omega)] at this
  injection this with this
  rw [this]
end HQ
end Go.Ev

namespace Go.Ev
open Go Go.Proofs
open Go.Ev.T renaming node → nN, nil → nZ
open Go.Proofs.Try (prog)
set_option maxRecDepth 100000
set_option maxHeartbeats 2000000
namespace KWalks
noncomputable def bd : Code := (Go.Proofs.Try.f4.body).getD .skip
noncomputable def bd41 : Code := (Go.Proofs.Try.f41.body).getD .skip
noncomputable def H0 (by_ : Int) (ty : Nat) (o : Nat) (tw : Nat) (ow : Nat) (c : List Value) (cw : List Value) (n : Nat) (cap : Nat) (nw : Nat) (kw : Nat) : AH := { objs := eE (eE (eE (eE (eE (eE (eE (lL (AObj.cells tw cw false 0)) nZ) nZ) nZ) nZ) nZ) nZ) (eE nZ (eE nZ (eE nZ (eE nZ (eE nZ (lL (AObj.cells ty c false 0))))))), next := 128 }
noncomputable def E (by_ : Int) (ty : Nat) (o : Nat) (tw : Nat) (ow : Nat) (c : List Value) (cw : List Value) (n : Nat) (cap : Nat) (nw : Nat) (kw : Nat) : AS := ⟨⟨4, 93, nS (uI by_) (lL (sS 126 o n cap)) (lL (sS 127 ow nw kw)), [Item.code (codeAt bd [])], [], FrameMode.run, CallKind.normal, none⟩, [], H0 by_ ty o tw ow c cw n cap nw kw⟩
noncomputable def S0 (by_ : Int) (ty : Nat) (o : Nat) (tw : Nat) (ow : Nat) (c : List Value) (cw : List Value) (n : Nat) (cap : Nat) (nw : Nat) (kw : Nat) (i0 : Int) (l0 : List Value) (n0 : Nat) (l1 : List Value) (l2 : List Value) (m0 : List MapEntry) (n1 : Nat) (n2 : Nat) (m1 : List MapEntry) (n3 : Nat) (i1 : Int) (d : Nat → Value) : AS := ⟨⟨41, 21, nS (Value.func (Fn.yield 128) ⟨[]⟩ ⟨[]⟩) (nS (d 1) (nS (d 3) (nS (sS 129 0 n u2) (lL (d 15)) nZ) (nS (d 11) (lL (d 19)) nZ)) (nS (d 5) (nS (iI i0) (lL (d 17)) nZ) (lL (d 13)))) (nS (d 2) (nS (d 4) (nS (iI (↑n : Int)) (lL (d 16)) nZ) (nS (d 12) (lL (d 20)) nZ)) (nS (d 6) (nS (d 10) (lL (d 18)) nZ) (lL (d 14)))), [Item.code (codeAt bd41 [1, 0, 0]), Item.inLoop (codeAt bd41 [1, 0, 0]), Item.inBlock 0], [], FrameMode.run, CallKind.normal, none⟩, [⟨4, 93, nS (uI by_) (nS (sS 126 o n cap) (nS undef (nS (pP 130 0) (nS (sS 126 o n cap) (nS (pP 131 0) u1 nZ) u4) (nS (sS 126 o n cap) u4 u4)) (nS undef (nS (uI by_) u4 u4) (nS vF u4 u4))) (nS (pP 132 0) (nS (pP 133 0) (nS vF u4 u4) (nS (pP 131 0) u4 u4)) (nS undef (nS (pP 131 0) u4 u4) (nS vF u4 u1)))) (nS (sS 127 ow nw kw) (nS undef (nS (pP 134 0) (nS (iI (↑n : Int)) (nS (Value.func (Fn.func 41) ⟨[]⟩ ⟨[pP 135 0]⟩) u1 nZ) u4) (nS (pP 136 0) u4 u4)) (nS undef (nS (sS 126 o n cap) u4 u4) (nS (pP 136 0) u4 u4))) (nS (pP 137 0) (nS undef u5 (nS vF u4 u4)) (nS undef (nS (uI by_) u4 u4) (nS vF u4 u1)))), [Item.inRangeFunc 128, Item.inBlock 0, Item.code (codeAt bd [1, 1, 1, 1, 1, 1])], [{ target := Target.collected 138, args := ⟨[]⟩ }], FrameMode.run, CallKind.normal, none⟩], ⟨eE (eE (eE (eE (eE (eE (eE (lL (AObj.cells tw cw false 0)) nZ) nZ) (eE (eE (lL (AObj.cells 40 l0 false 2)) nZ) nZ)) (eE (eE (eE (lL (AObj.cells 25 [pP 131 0] true 2)) nZ) nZ) nZ)) (eE (eE (eE (eE (lL (AObj.cells 78 [pP 131 0, pP 139 0] true 2)) nZ) nZ) nZ) (eE (eE (eE (lL (AObj.cells 75 [Value.func (Fn.func (HQ.ordN by_)) ⟨[]⟩ ⟨[]⟩, iI i1, sS 141 0 n0 u2, Value.map (some 142)] true 2)) nZ) nZ) nZ))) (eE (eE (eE (eE (eE (lL (AObj.cells 40 (HQ.svC (HQ.ordN by_) n (HQ.mdS (HQ.ordN by_) c o n).c) false 2)) nZ) nZ) nZ) (eE (eE (eE (lL (AObj.cells 4 [Value.bool false] true 2)) nZ) nZ) nZ)) (eE (eE (eE (eE (lL (AObj.cells 3 l1 true 2)) nZ) nZ) nZ) (eE (eE (eE (lL (AObj.cells 40 l2 false 2)) nZ) nZ) nZ)))) (eE (eE (eE (eE (eE (eE (lL (AObj.loop LoopState.ready none 4 (nS (uI by_) (nS (sS 126 o n cap) (nS undef (nS (pP 130 0) (nS (sS 126 o n cap) (nS (pP 131 0) u1 nZ) u4) (nS (sS 126 o n cap) u4 u4)) (nS undef (nS (uI by_) u4 u4) (nS vF u4 u4))) (nS (pP 132 0) (nS (pP 133 0) (nS vF u4 u4) (nS (pP 131 0) u4 u4)) (nS undef (nS (pP 131 0) u4 u4) (nS vF u4 u1)))) (nS (sS 127 ow nw kw) (nS undef (nS (pP 134 0) (nS (iI (↑n : Int)) (nS (Value.func (Fn.func 41) ⟨[]⟩ ⟨[pP 135 0]⟩) u1 nZ) u4) (nS (pP 136 0) u4 u4)) (nS undef (nS (sS 126 o n cap) u4 u4) (nS (pP 136 0) u4 u4))) (nS (pP 137 0) (nS undef u5 (nS vF u4 u4)) (nS undef (nS (uI by_) u4 u4) (nS vF u4 u1))))) 93 [33, 34] (codeAt bd [1, 1, 1, 1, 1, 0, 1, 0, 0]) (codeAt bd [1, 1, 1, 1, 1, 0, 1, 0, 1]) 138)) nZ) nZ) (eE (eE (lL (AObj.map m0 n1 true)) nZ) nZ)) (eE (eE (eE (lL (AObj.cells 78 [pP 136 0, pP 140 0] true 2)) nZ) nZ) nZ)) (eE (eE (eE (eE (lL (AObj.cells 42 [sS 127 ow nw kw] true 2)) nZ) nZ) nZ) (eE (eE (eE (lL (AObj.cells 75 [Value.func (Fn.func (HQ.ordN by_)) ⟨[]⟩ ⟨[]⟩, iI (↑(n + 1) : Int), sS 143 0 n2 u2, Value.map (some 144)] true 2)) nZ) nZ) nZ))) (eE (eE (eE (eE (eE (lL (AObj.cells 25 [pP 131 0] true 2)) nZ) nZ) nZ) (eE (eE (eE (lL (AObj.deferred (some []))) nZ) nZ) nZ)) (eE (eE (eE (eE (lL (AObj.cells 25 [pP 136 0] true 2)) nZ) nZ) nZ) (eE (eE (eE (lL (AObj.map m1 n3 true)) nZ) nZ) (eE nZ (lL (AObj.cells ty c false 0))))))), 145⟩⟩
theorem enter {η : Nat → Value} {B : Bd} (hη : OneCells η) (hmix : prog.follows .mixedOrders = true) (hreg : RegOk η prog B noNest) {D : Value → AH → Prop} (by_ : Int) (ty : Nat) (o : Nat) (tw : Nat) (ow : Nat) (c : List Value) (cw : List Value) (n : Nat) (cap : Nat) (nw : Nat) (kw : Nat) (h : let q9 := (HQ.mdS (HQ.ordN by_) c o n); let q8 := (HQ.svC (HQ.ordN by_) n q9.c); let q7 : T AObj := (eE (eE (eE (lL (AObj.cells 40 q9.c false 2)) nZ) nZ) nZ); let q6 : T AObj := (eE (eE (eE (lL (AObj.map q9.E q9.ck true)) nZ) nZ) nZ); let q5 : T AObj := (eE q7 (eE (eE (eE (lL (AObj.cells 3 [iI 0] true 2)) nZ) nZ) nZ)); let q4 : T AObj := (eE (eE (eE (eE (lL (AObj.cells 42 [sS 127 ow nw kw] true 2)) nZ) nZ) nZ) q7); let q3 : AH := ⟨eE (eE (eE (eE (eE (eE (eE (lL (AObj.cells tw cw false 0)) nZ) nZ) nZ) nZ) nZ) (eE (eE (eE (eE (eE (lL (AObj.cells 4 [Value.bool false] true 2)) nZ) nZ) nZ) nZ) nZ)) (eE (eE (eE (eE (eE (eE (lL (AObj.cells 42 [sS 127 ow nw kw] true 2)) nZ) nZ) nZ) nZ) nZ) (eE nZ (eE nZ (eE nZ (eE nZ (lL (AObj.cells ty c false 0))))))), 130⟩; let q2 : T AObj := (eE (eE (eE (eE (eE (lL (AObj.cells 78 [pP 130 0, pP 131 0] true 2)) nZ) nZ) nZ) (eE (eE (eE (lL (AObj.cells 25 [pP 130 0] true 2)) nZ) nZ) nZ)) (eE (eE (eE (eE (lL (AObj.cells 78 [pP 134 0, pP 135 0] true 2)) nZ) nZ) nZ) (eE (eE (eE (lL (AObj.deferred (some []))) nZ) nZ) (eE nZ (lL (AObj.cells ty c false 0)))))); let q1 : AH := ⟨eE (eE (eE (eE (eE (eE (eE (lL (AObj.cells tw cw false 0)) nZ) nZ) nZ) nZ) (eE (eE (eE (eE (lL (AObj.cells 75 [Value.func (Fn.func (HQ.ordN by_)) ⟨[]⟩ ⟨[]⟩, iI (↑(n + 1) : Int), sS 132 0 n u2, Value.map (some 133)] true 2)) nZ) nZ) nZ) nZ)) (eE (eE (eE (eE (eE (lL (AObj.cells 4 [Value.bool false] true 2)) nZ) nZ) nZ) nZ) (eE q6 nZ))) (eE (eE (eE (eE (eE (eE (lL (AObj.cells 42 [sS 127 ow nw kw] true 2)) nZ) nZ) nZ) nZ) (eE q7 nZ)) (eE (eE (eE (eE (eE (lL (AObj.cells 78 [pP 130 0, pP 131 0] true 2)) nZ) nZ) nZ) nZ) (eE nZ (eE nZ (eE nZ (lL (AObj.cells ty c false 0))))))), 134⟩; let q0 : T AObj := (eE (eE (eE (eE (eE (eE (lL (AObj.cells tw cw false 0)) nZ) nZ) (eE (eE (lL (AObj.loop LoopState.ready none 4 (nS (uI by_) (nS (sS 126 o n cap) (eE (nS (pP 138 0) (nS (sS 126 o n cap) (lL (pP 130 0)) nZ) (lL (sS 126 o n cap))) (eE (lL (uI by_)) (lL vF))) (nS (pP 128 0) (nS (pP 140 0) (lL vF) (lL (pP 130 0))) (eE (lL (pP 130 0)) (lL vF)))) (nS (sS 127 ow nw kw) (eE (nS (pP 139 0) (nS (iI (↑n : Int)) (lL (Value.func (Fn.func 41) ⟨[]⟩ ⟨[pP 141 0]⟩)) nZ) (lL (pP 134 0))) (eE (lL (sS 126 o n cap)) (lL (pP 134 0)))) (nS (pP 129 0) (eE nZ (lL vF)) (eE (lL (uI by_)) (lL vF))))) 93 [33, 34] (codeAt bd [1, 1, 1, 1, 1, 0, 1, 0, 0]) (codeAt bd [1, 1, 1, 1, 1, 0, 1, 0, 1]) 142)) nZ) nZ)) (eE (eE (eE (lL (AObj.cells 75 [Value.func (Fn.func (HQ.ordN by_)) ⟨[]⟩ ⟨[]⟩, iI (↑(n + 1) : Int), sS 136 0 n u2, Value.map (some 137)] true 2)) nZ) nZ) nZ)) (eE (eE (eE (eE (lL (AObj.cells 75 [Value.func (Fn.func (HQ.ordN by_)) ⟨[]⟩ ⟨[]⟩, iI (↑(n + 1) : Int), sS 132 0 n u2, Value.map (some 133)] true 2)) nZ) nZ) nZ) (eE (eE (eE (lL (AObj.cells 25 [pP 134 0] true 2)) nZ) nZ) nZ))) (eE (eE (eE (eE (eE (lL (AObj.cells 4 [Value.bool false] true 2)) nZ) nZ) nZ) q6) (eE q6 (eE (eE (eE (lL (AObj.cells 25 [pP 130 0] true 2)) nZ) nZ) nZ)))); W.holds η prog B 4 (fun kp_ st_ => RunD η prog B 4 (H0 by_ ty o tw ow c cw n cap nw kw) kp_ st_ (QF prog 128 D)) D (.ite (decide ((↑n : Int) > (100 : Int))) (.call 7 [] (q3) (.ret (Value.bool true) (q3)) (.need (NoNames c ∧ NoNames cw ∧ True) (.done 4 (Value.bool true) (H0 by_ ty o tw ow c cw n cap nw kw)))) (.call 8 [Value.int IntKind.u8 by_, Value.slice (some ⟨126, o, none⟩) n cap] (q3) (.ret (Value.pointer (some ⟨130, 0, none⟩)) (q1)) (.call 8 [Value.int IntKind.u8 by_, Value.slice (some ⟨126, o, none⟩) n cap] (q1) (.ret (Value.pointer (some ⟨134, 0, none⟩)) (⟨eE (eE (eE (eE (eE (eE (eE (lL (AObj.cells tw cw false 0)) nZ) nZ) nZ) (eE (eE (eE (lL (AObj.cells 75 [Value.func (Fn.func (HQ.ordN by_)) ⟨[]⟩ ⟨[]⟩, iI (↑(n + 1) : Int), sS 136 0 n u2, Value.map (some 137)] true 2)) nZ) nZ) nZ)) (eE (eE (eE (eE (lL (AObj.cells 75 [Value.func (Fn.func (HQ.ordN by_)) ⟨[]⟩ ⟨[]⟩, iI (↑(n + 1) : Int), sS 132 0 n u2, Value.map (some 133)] true 2)) nZ) nZ) nZ) nZ)) (eE (eE (eE (eE (eE (lL (AObj.cells 4 [Value.bool false] true 2)) nZ) nZ) nZ) q6) (eE q6 nZ))) (eE (eE q4 (eE q7 nZ)) (eE (eE (eE (eE (eE (lL (AObj.cells 78 [pP 130 0, pP 131 0] true 2)) nZ) nZ) nZ) nZ) (eE (eE (eE (eE (lL (AObj.cells 78 [pP 134 0, pP 135 0] true 2)) nZ) nZ) nZ) (eE nZ (eE nZ (lL (AObj.cells ty c false 0))))))), 138⟩)) (.call 9 [Value.pointer (some ⟨130, 0, none⟩)] (⟨eE q0 (eE (eE q4 q5) q2), 144⟩) (.ret (Value.agg ⟨[Value.int IntKind.i64 (↑(n + 1) : Int), Value.slice (some ⟨144, 0, none⟩) n 9223372036854775810]⟩) (⟨eE q0 (eE (eE (eE (eE (eE (eE (lL (AObj.cells 42 [sS 127 ow nw kw] true 2)) nZ) nZ) (eE (eE (lL (AObj.cells 40 q8 false 2)) nZ) nZ)) q7) q5) q2), 145⟩)) (.need (NoNames c ∧ NoNames cw ∧ True ∧ NoNames q8 ∧ True ∧ True ∧ True ∧ True ∧ True ∧ True ∧ True ∧ True ∧ True ∧ True ∧ True ∧ NoNames q9.c ∧ NoNamesE q9.E ∧ NoNames q9.c ∧ NoNamesE q9.E ∧ True) (.stop [0, 7, 8, 9] (S0 by_ ty o tw ow c cw n cap nw kw (0) (q9.c) (n) ([Value.int IntKind.i64 0]) (q9.c) (q9.E) (q9.ck) (n) (q9.E) (q9.ck) ((↑(n + 1) : Int)) (fun _ => undef))))))))) : CallSpec η prog B 4 [Value.int IntKind.u8 by_, Value.slice (some ⟨126, o, none⟩) n cap, Value.slice (some ⟨127, ow, none⟩) nw kw] (H0 by_ ty o tw ow c cw n cap nw kw) D := by
  refine CallSpec.ofQF hη (CallSpec.enter (fr := (E by_ ty o tw ow c cw n cap nw kw).fr) (by kernel_rfl) ?_)
  exact walk_okT (h0 := H0 by_ ty o tw ow c cw n cap nw kw) hη hmix hreg (.steps 12 <| .bit 17 (.steps 3 <| .call kN <| .steps 3 <| .done (some ⟨128, [], [(126, (126, true)), (127, (127, true))]⟩)) (.steps 6 <| .call kN <| .steps 2 <| .call kN <| .steps 45 <| .call kN <| .steps 6 <| .stop [0, 7, 8, 9] (some ⟨145, [(143, 128), (144, 129), (138, 130), (130, 131), (128, 132), (140, 133), (139, 134), (141, 135), (134, 136), (129, 137), (142, 138), (131, 139), (135, 140), (132, 141), (133, 142), (136, 143), (137, 144)], [(126, (126, true)), (127, (127, true)), (128, (143, false)), (129, (144, true)), (130, (138, false)), (131, (130, false)), (132, (128, false)), (133, (140, false)), (134, (139, false)), (135, (141, false)), (136, (134, false)), (137, (129, false)), (138, (142, false)), (139, (131, false)), (140, (135, false)), (141, (132, true)), (142, (133, true)), (143, (136, true)), (144, (137, true))]⟩))) (E by_ ty o tw ow c cw n cap nw kw) (by kernel_rfl) h (by kernel_rfl)
theorem cut0 {η : Nat → Value} {B : Bd} (hη : OneCells η) (hmix : prog.follows .mixedOrders = true) (hreg : RegOk η prog B noNest) {D : Value → AH → Prop} (by_ : Int) (ty : Nat) (o : Nat) (tw : Nat) (ow : Nat) (c : List Value) (cw : List Value) (n : Nat) (cap : Nat) (nw : Nat) (kw : Nat) (i0 : Int) (l0 : List Value) (n0 : Nat) (l1 : List Value) (l2 : List Value) (m0 : List MapEntry) (n1 : Nat) (n2 : Nat) (m1 : List MapEntry) (n3 : Nat) (i1 : Int) (h : let q30 := ((0 : Nat) + i0.toNat * (2 : Nat)); let q29 := (Value.int IntKind.i64 (intAt l1 (0 : Nat))); let q28 := ((0 : Nat) + i0.toNat * (2 : Nat) + (1 : Nat)); let q27 := (HQ.QS.pop (HQ.ordN by_) n2 (HQ.QS.mk (l0) (m0) (n1))); let q26 := (HQ.svC (HQ.ordN by_) n (HQ.mdS (HQ.ordN by_) c o n).c); let q25 : T AObj := (eE nZ (lL (AObj.cells ty c false 0))); let q24 := (intAt cw (ow + (intAt l1 (0 : Nat)).toNat * (1 : Nat))); let q23 := (q27.E); let q22 := (q27.c); let q21 := (q27.ck); let q20 : T AObj := (eE (eE (eE (lL (AObj.cells 3 l1 true 2)) nZ) nZ) nZ); let q19 := (intAt q26 (0 + i0.toNat * 2)); let q18 : W := (.need (NoNames c ∧ NoNames cw ∧ True) (.done 4 (Value.bool false) (H0 by_ ty o tw ow c cw n cap nw kw))); let q17 := (Value.int IntKind.i64 (IntKind.i64.wrap (intAt l1 0 + 1)) :: List.append._f [] PUnit.unit (List.drop 1 l1)); let q16 : T AObj := (eE (eE (eE (lL (AObj.cells 25 [pP 136 0] true 2)) nZ) nZ) nZ); let q15 := (Value.int IntKind.i64 (IntKind.i64.wrap (intAt l1 (0 : Nat) + (1 : Int))) :: List.append._f [] PUnit.unit (List.drop (1 : Nat) l1)); let q14 := (HQ.QS.pushT (HQ.ordN by_) n0 (HQ.QS.mk (l2) (m1) (n3)) i1 (intAt q26 (0 + i0.toNat * 2 + 1))); let q13 : T AObj := (eE (eE (eE (lL (AObj.cells 78 [pP 131 0, pP 139 0] true 2)) nZ) nZ) nZ); let q12 := (HQ.QS.pushT (HQ.ordN by_) n0 (HQ.QS.mk (l2) (m1) (n3)) i1 (intAt q26 q28)); let q11 := (HQ.QS.rem (HQ.ordN by_) n0 (HQ.QS.mk (l2) (m1) (n3)) (HQ.plN (HQ.QS.mk (l2) (m1) (n3)).E q19)); let q10 := (HQ.QS.rem (HQ.ordN by_) n0 (HQ.QS.mk (l2) (m1) (n3)) (HQ.plN (HQ.QS.mk (l2) (m1) (n3)).E (intAt q26 q30))); let q9 : T AObj := (eE (eE (eE (eE (lL (AObj.cells 25 [pP 131 0] true 2)) nZ) nZ) nZ) (eE (eE (eE (lL (AObj.deferred (some []))) nZ) nZ) nZ)); let q8 := (HQ.QS.setv (HQ.ordN by_) n0 (HQ.QS.mk (l2) (m1) (n3)) (HQ.plN (HQ.QS.mk (l2) (m1) (n3)).E q19) (IntKind.i64.wrap ((IntKind.i64.wrap (0 - intAt q26 (0 + i0.toNat * 2 + 1))).tdiv 2))); let q7 : T AObj := (eE (eE (eE (eE (lL (AObj.cells tw cw false 0)) nZ) nZ) (eE (eE (lL (AObj.cells 40 q27.c false 2)) nZ) nZ)) (eE (eE (eE (lL (AObj.cells 25 [pP 131 0] true 2)) nZ) nZ) nZ)); let q6 := (HQ.QS.setv (HQ.ordN by_) n0 (HQ.QS.mk (l2) (m1) (n3)) (HQ.plN (HQ.QS.mk (l2) (m1) (n3)).E (intAt q26 q30)) (IntKind.i64.wrap ((IntKind.i64.wrap ((0 : Int) - intAt q26 q28)).tdiv (2 : Int)))); let q5 : T AObj := (eE (eE (eE (eE (lL (AObj.cells 40 q26 false 2)) nZ) nZ) (eE (eE (lL (AObj.cells 40 [iI q19, iI (intAt q26 (0 + i0.toNat * 2 + 1))] true 2)) nZ) nZ)) (eE (eE (eE (lL (AObj.cells 4 [Value.bool false] true 2)) nZ) nZ) nZ)); let q4 : W := (.need (l1[(0 : Nat)]? = some q29) (.need ((1 : Nat) ≤ l1.length) (.need (NoNames c ∧ NoNames cw ∧ True ∧ NoNames q26 ∧ True ∧ True ∧ True ∧ NoNames q15 ∧ True ∧ True ∧ True ∧ True ∧ True ∧ True ∧ True ∧ NoNames l2 ∧ NoNamesE m1 ∧ NoNames q27.c ∧ NoNamesE q27.E ∧ True) (.stop [0, 7, 8, 9] (S0 by_ ty o tw ow c cw n cap nw kw (IntKind.i64.wrap (i0 + 1)) q22 (n0) q17 (l2) q23 q21 (n2 - 1) (m1) (n3) (i1) (fun _ => undef)))))); let q3 : T AObj := (eE (eE (eE (eE (eE (lL (AObj.loop LoopState.busy none 4 (nS (uI by_) (nS (sS 126 o n cap) (nS undef (nS (pP 130 0) (nS (sS 126 o n cap) (nS (pP 131 0) u1 nZ) u4) (nS (sS 126 o n cap) u4 u4)) (nS undef (nS (uI by_) u4 u4) (nS vF u4 u4))) (nS (pP 132 0) (nS (pP 133 0) (nS vF u4 u4) (nS (pP 131 0) u4 u4)) (nS undef (nS (pP 131 0) u4 u4) (nS vF u4 u1)))) (nS (sS 127 ow nw kw) (nS undef (nS (pP 134 0) (nS (iI (↑n : Int)) (nS (Value.func (Fn.func 41) ⟨[]⟩ ⟨[pP 135 0]⟩) u1 nZ) u4) (nS (pP 136 0) u4 u4)) (nS undef (nS (sS 126 o n cap) u4 u4) (nS (pP 136 0) u4 u4))) (nS (pP 137 0) (nS undef u5 (nS vF u4 u4)) (nS undef (nS (uI by_) u4 u4) (nS vF u4 u1))))) 93 [33, 34] (codeAt bd [1, 1, 1, 1, 1, 0, 1, 0, 0]) (codeAt bd [1, 1, 1, 1, 1, 0, 1, 0, 1]) 138)) nZ) nZ) (eE (eE (lL (AObj.map q27.E q27.ck true)) nZ) nZ)) (eE (eE (eE (lL (AObj.cells 78 [pP 136 0, pP 140 0] true 2)) nZ) nZ) nZ)) (eE (eE (eE (eE (lL (AObj.cells 42 [sS 127 ow nw kw] true 2)) nZ) nZ) nZ) (eE (eE (eE (lL (AObj.cells 75 [Value.func (Fn.func (HQ.ordN by_)) ⟨[]⟩ ⟨[]⟩, iI (↑(n + 1) : Int), sS 143 0 (n2 - 1) u2, Value.map (some 144)] true 2)) nZ) nZ) nZ))); let q2 : AH := ⟨eE (eE (eE (eE (eE (eE (eE (lL (AObj.cells tw cw false 0)) nZ) nZ) (eE (eE (lL (AObj.cells 40 l0 false 2)) nZ) nZ)) (eE (eE (eE (lL (AObj.cells 25 [pP 131 0] true 2)) nZ) nZ) nZ)) (eE q13 (eE (eE (eE (lL (AObj.cells 75 [Value.func (Fn.func (HQ.ordN by_)) ⟨[]⟩ ⟨[]⟩, iI i1, sS 141 0 n0 u2, Value.map (some 142)] true 2)) nZ) nZ) nZ))) (eE (eE (eE (eE (eE (lL (AObj.cells 40 q26 false 2)) nZ) nZ) nZ) (eE (eE (eE (lL (AObj.cells 4 [Value.bool false] true 2)) nZ) nZ) nZ)) (eE q20 (eE (eE (eE (lL (AObj.cells 40 l2 false 2)) nZ) nZ) nZ)))) (eE (eE (eE (eE (eE (eE (lL (AObj.loop LoopState.exhausted none 4 (nS (uI by_) (nS (sS 126 o n cap) (nS undef (nS (pP 130 0) (nS (sS 126 o n cap) (nS (pP 131 0) u1 nZ) u4) (nS (sS 126 o n cap) u4 u4)) (nS undef (nS (uI by_) u4 u4) (nS vF u4 u4))) (nS (pP 132 0) (nS (pP 133 0) (nS vF u4 u4) (nS (pP 131 0) u4 u4)) (nS undef (nS (pP 131 0) u4 u4) (nS vF u4 u1)))) (nS (sS 127 ow nw kw) (nS undef (nS (pP 134 0) (nS (iI (↑n : Int)) (nS (Value.func (Fn.func 41) ⟨[]⟩ ⟨[pP 135 0]⟩) u1 nZ) u4) (nS (pP 136 0) u4 u4)) (nS undef (nS (sS 126 o n cap) u4 u4) (nS (pP 136 0) u4 u4))) (nS (pP 137 0) (nS undef u5 (nS vF u4 u4)) (nS undef (nS (uI by_) u4 u4) (nS vF u4 u1))))) 93 [33, 34] (codeAt bd [1, 1, 1, 1, 1, 0, 1, 0, 0]) (codeAt bd [1, 1, 1, 1, 1, 0, 1, 0, 1]) 138)) nZ) nZ) (eE (eE (lL (AObj.map m0 n1 true)) nZ) nZ)) (eE (eE (eE (lL (AObj.cells 78 [pP 136 0, pP 140 0] true 2)) nZ) nZ) nZ)) (eE (eE (eE (eE (lL (AObj.cells 42 [sS 127 ow nw kw] true 2)) nZ) nZ) nZ) (eE (eE (eE (lL (AObj.cells 75 [Value.func (Fn.func (HQ.ordN by_)) ⟨[]⟩ ⟨[]⟩, iI (↑(n + 1) : Int), sS 143 0 n2 u2, Value.map (some 144)] true 2)) nZ) nZ) nZ))) (eE q9 (eE q16 (eE (eE (eE (lL (AObj.map m1 n3 true)) nZ) nZ) q25)))), 145⟩; let q1 : AH := ⟨eE (eE (eE (eE (eE (eE (eE (lL (AObj.cells tw cw false 0)) nZ) nZ) (eE (eE (lL (AObj.cells 40 l0 false 2)) nZ) nZ)) (eE (eE (eE (lL (AObj.cells 25 [pP 131 0] true 2)) nZ) nZ) nZ)) (eE q13 (eE (eE (eE (lL (AObj.cells 75 [Value.func (Fn.func (HQ.ordN by_)) ⟨[]⟩ ⟨[]⟩, iI i1, sS 141 0 n0 u2, Value.map (some 142)] true 2)) nZ) nZ) nZ))) (eE q5 (eE q20 (eE (eE (eE (lL (AObj.cells 40 l2 false 2)) nZ) nZ) nZ)))) (eE (eE (eE (eE (eE (eE (lL (AObj.loop LoopState.busy none 4 (nS (uI by_) (nS (sS 126 o n cap) (nS undef (nS (pP 130 0) (nS (sS 126 o n cap) (nS (pP 131 0) u1 nZ) u4) (nS (sS 126 o n cap) u4 u4)) (nS undef (nS (uI by_) u4 u4) (nS vF u4 u4))) (nS (pP 132 0) (nS (pP 133 0) (nS vF u4 u4) (nS (pP 131 0) u4 u4)) (nS undef (nS (pP 131 0) u4 u4) (nS vF u4 u1)))) (nS (sS 127 ow nw kw) (nS undef (nS (pP 134 0) (nS (iI (↑n : Int)) (nS (Value.func (Fn.func 41) ⟨[]⟩ ⟨[pP 135 0]⟩) u1 nZ) u4) (nS (pP 136 0) u4 u4)) (nS undef (nS (sS 126 o n cap) u4 u4) (nS (pP 136 0) u4 u4))) (nS (pP 137 0) (nS undef u5 (nS vF u4 u4)) (nS undef (nS (uI by_) u4 u4) (nS vF u4 u1))))) 93 [33, 34] (codeAt bd [1, 1, 1, 1, 1, 0, 1, 0, 0]) (codeAt bd [1, 1, 1, 1, 1, 0, 1, 0, 1]) 138)) nZ) nZ) (eE (eE (lL (AObj.map m0 n1 true)) nZ) nZ)) (eE (eE (eE (lL (AObj.cells 78 [pP 136 0, pP 140 0] true 2)) nZ) nZ) nZ)) (eE (eE (eE (eE (lL (AObj.cells 42 [sS 127 ow nw kw] true 2)) nZ) nZ) nZ) (eE (eE (eE (lL (AObj.cells 75 [Value.func (Fn.func (HQ.ordN by_)) ⟨[]⟩ ⟨[]⟩, iI (↑(n + 1) : Int), sS 143 0 n2 u2, Value.map (some 144)] true 2)) nZ) nZ) nZ))) (eE q9 (eE q16 (eE (eE (eE (lL (AObj.map m1 n3 true)) nZ) nZ) q25)))), 146⟩; let q0 : AH := ⟨eE (eE (eE q7 (eE q13 (eE (eE (eE (lL (AObj.cells 75 [Value.func (Fn.func (HQ.ordN by_)) ⟨[]⟩ ⟨[]⟩, iI i1, sS 141 0 n0 u2, Value.map (some 142)] true 2)) nZ) nZ) nZ))) (eE q5 (eE q20 (eE (eE (eE (lL (AObj.cells 40 l2 false 2)) nZ) nZ) nZ)))) (eE q3 (eE q9 (eE q16 (eE (eE (eE (lL (AObj.map m1 n3 true)) nZ) nZ) q25)))), 146⟩; W.holds η prog B 4 (fun kp_ st_ => RunD η prog B 4 (H0 by_ ty o tw ow c cw n cap nw kw) kp_ st_ (QF prog 128 D)) D (.ite (decide (i0 < (↑n : Int))) (.need ((0 : Int) ≤ i0 ∧ i0 < (↑n : Int)) (.need ((0 : Nat) + i0.toNat * (2 : Nat) + (2 : Nat) ≤ q26.length ∧ List.take (2 : Nat) (List.drop q30 q26) = [Value.int IntKind.i64 (intAt q26 q30), Value.int IntKind.i64 (intAt q26 q28)]) (.call 17 [Value.pointer (some ⟨136, 0, none⟩)] (q1) (.ite (n2 == (0 : Nat)) (.ret (Value.tuple ⟨[Value.int IntKind.i64 0, Value.int IntKind.i64 0, Value.int IntKind.i64 4]⟩) (q1)) (.ret (Value.tuple ⟨[Value.int IntKind.i64 (intAt l0 0), Value.int IntKind.i64 (intAt l0 1), Value.int IntKind.i64 0]⟩) (q0))) (.ite (n2 == (0 : Nat)) q18 (.ite (intAt q26 q30 != intAt l0 (0 : Nat)) q18 (.ite (intAt q26 q28 != intAt l0 (1 : Nat)) q18 (.need (l1[(0 : Nat)]? = some q29) (.ite (decide (intAt l1 (0 : Nat) > (100 : Int))) q18 (.need (l1[(0 : Nat)]? = some q29) (.ite (decide (intAt l1 (0 : Nat) < (↑nw : Int))) (.need (l1[(0 : Nat)]? = some q29) (.need ((0 : Int) ≤ intAt l1 (0 : Nat) ∧ intAt l1 (0 : Nat) < (↑nw : Int)) (.need (cw[ow + (intAt l1 (0 : Nat)).toNat * (1 : Nat)]? = some (Value.int IntKind.u8 q24)) (.ite (q24.tmod (4 : Int) == (0 : Int)) (.call 11 [Value.pointer (some ⟨131, 0, none⟩), Value.int IntKind.i64 q19] (q0) (.ret (Value.tuple ⟨[Value.int IntKind.i64 (intAt (HQ.QS.rem1 (HQ.ordN by_) n0 (HQ.QS.mk (l2) (m1) (n3)) (HQ.plN (HQ.QS.mk (l2) (m1) (n3)).E q19)).c ((n0 - 1) * 2 + 1)), Value.int IntKind.i64 0]⟩) (⟨eE (eE (eE q7 (eE q13 (eE (eE (eE (lL (AObj.cells 75 [Value.func (Fn.func (HQ.ordN by_)) ⟨[]⟩ ⟨[]⟩, iI i1, sS 141 0 (n0 - 1) u2, Value.map (some 142)] true 2)) nZ) nZ) nZ))) (eE q5 (eE q20 (eE (eE (eE (lL (AObj.cells 40 q11.c false 2)) nZ) nZ) nZ)))) (eE q3 (eE q9 (eE q16 (eE (eE (eE (lL (AObj.map q11.E q11.ck true)) nZ) nZ) q25)))), 146⟩)) (.need (l1[(0 : Nat)]? = some q29) (.need ((1 : Nat) ≤ l1.length) (.need (NoNames c ∧ NoNames cw ∧ True ∧ NoNames q26 ∧ True ∧ True ∧ True ∧ NoNames q15 ∧ True ∧ True ∧ True ∧ True ∧ True ∧ True ∧ True ∧ NoNames q10.c ∧ NoNamesE q10.E ∧ NoNames q27.c ∧ NoNamesE q27.E ∧ True) (.stop [0, 7, 8, 9] (S0 by_ ty o tw ow c cw n cap nw kw (IntKind.i64.wrap (i0 + 1)) q22 (n0 - 1) q17 (q11.c) q23 q21 (n2 - 1) (q11.E) (q11.ck) (i1) (fun _ => undef))))))) (.ite (q24.tmod (4 : Int) == (1 : Int)) (.call 10 [Value.pointer (some ⟨131, 0, none⟩), Value.int IntKind.i64 (intAt q26 (0 + i0.toNat * 2 + 1))] (q0) (.ret (Value.tuple ⟨[Value.int IntKind.i64 i1, Value.int IntKind.i64 0]⟩) (⟨eE (eE (eE q7 (eE q13 (eE (eE (eE (lL (AObj.cells 75 [Value.func (Fn.func (HQ.ordN by_)) ⟨[]⟩ ⟨[]⟩, iI (IntKind.i64.wrap (i1 + 1)), sS 146 0 (n0 + 1) u2, Value.map (some 142)] true 2)) nZ) nZ) nZ))) (eE q5 (eE q20 (eE (eE (eE (eE nZ nZ) nZ) nZ) nZ)))) (eE q3 (eE (eE (eE (eE (eE (lL (AObj.cells 25 [pP 131 0] true 2)) nZ) nZ) (eE (eE (lL (AObj.cells 40 q14.c false 2)) nZ) nZ)) (eE (eE (eE (lL (AObj.deferred (some []))) nZ) nZ) nZ)) (eE q16 (eE (eE (eE (lL (AObj.map q14.E q14.ck true)) nZ) nZ) q25)))), 147⟩)) (.need (l1[(0 : Nat)]? = some q29) (.need ((1 : Nat) ≤ l1.length) (.need (NoNames c ∧ NoNames cw ∧ True ∧ NoNames q26 ∧ True ∧ True ∧ True ∧ NoNames q15 ∧ True ∧ True ∧ True ∧ True ∧ True ∧ True ∧ True ∧ NoNames q12.c ∧ NoNamesE q12.E ∧ NoNames q27.c ∧ NoNamesE q27.E ∧ True) (.stop [0, 7, 8, 9] (S0 by_ ty o tw ow c cw n cap nw kw (IntKind.i64.wrap (i0 + 1)) q22 (n0 + 1) q17 (q14.c) q23 q21 (n2 - 1) (q14.E) (q14.ck) (IntKind.i64.wrap (i1 + 1)) (fun _ => undef))))))) (.ite (q24.tmod (4 : Int) == (2 : Int)) (.call 14 [Value.pointer (some ⟨131, 0, none⟩), Value.int IntKind.i64 q19, Value.int IntKind.i64 (IntKind.i64.wrap ((IntKind.i64.wrap (0 - intAt q26 (0 + i0.toNat * 2 + 1))).tdiv 2))] (q0) (.ret (Value.int IntKind.i64 0) (⟨eE (eE (eE q7 (eE q13 (eE (eE (eE (lL (AObj.cells 75 [Value.func (Fn.func (HQ.ordN by_)) ⟨[]⟩ ⟨[]⟩, iI i1, sS 141 0 n0 u2, Value.map (some 142)] true 2)) nZ) nZ) nZ))) (eE q5 (eE q20 (eE (eE (eE (lL (AObj.cells 40 q8.c false 2)) nZ) nZ) nZ)))) (eE q3 (eE q9 (eE q16 (eE (eE (eE (lL (AObj.map q8.E q8.ck true)) nZ) nZ) q25)))), 146⟩)) (.need (l1[(0 : Nat)]? = some q29) (.need ((1 : Nat) ≤ l1.length) (.need (NoNames c ∧ NoNames cw ∧ True ∧ NoNames q26 ∧ True ∧ True ∧ True ∧ NoNames q15 ∧ True ∧ True ∧ True ∧ True ∧ True ∧ True ∧ True ∧ NoNames q6.c ∧ NoNamesE q6.E ∧ NoNames q27.c ∧ NoNamesE q27.E ∧ True) (.stop [0, 7, 8, 9] (S0 by_ ty o tw ow c cw n cap nw kw (IntKind.i64.wrap (i0 + 1)) q22 (n0) q17 (q8.c) q23 q21 (n2 - 1) (q8.E) (q8.ck) (i1) (fun _ => undef))))))) q4)))))) q4)))))))))) (.need (l1[(0 : Nat)]? = some q29) (.ite (intAt l1 (0 : Nat) == (↑n : Int)) (.call 7 [] (q2) (.ret (Value.bool true) (q2)) (.need (NoNames c ∧ NoNames cw ∧ True) (.done 4 (Value.bool true) (H0 by_ ty o tw ow c cw n cap nw kw)))) q18)))) : RunD η prog B 4 (H0 by_ ty o tw ow c cw n cap nw kw) [0, 7, 8, 9] (S0 by_ ty o tw ow c cw n cap nw kw i0 l0 n0 l1 l2 m0 n1 n2 m1 n3 i1 fun _ => undef) (QF prog 128 D) := by
  refine RunD.intro (S0 by_ ty o tw ow c cw n cap nw kw i0 l0 n0 l1 l2 m0 n1 n2 m1 n3 i1) (fun d => ⟨rfl, rfl, rfl⟩) (fun d => tmOk_get (by kernel_rfl)) (fun d => by kernel_rfl) (fun d => ?_)
  exact walk_okT (h0 := H0 by_ ty o tw ow c cw n cap nw kw) hη hmix hreg (.steps 5 <| .bit 10 (.steps 6 <| .op <| .op <| .steps 23 <| .call kN <| .both (.steps 42 <| .done (some ⟨128, [], [(126, (126, true)), (127, (127, true))]⟩)) (.steps 19 <| .bit 48 (.steps 23 <| .done (some ⟨128, [], [(126, (126, true)), (127, (127, true))]⟩)) (.steps 5 <| .bit 53 (.steps 18 <| .done (some ⟨128, [], [(126, (126, true)), (127, (127, true))]⟩)) (.op <| .steps 3 <| .bit 56 (.steps 14 <| .done (some ⟨128, [], [(126, (126, true)), (127, (127, true))]⟩)) (.steps 5 <| .op <| .steps 4 <| .bit 60 (.steps 4 <| .op <| .op <| .op <| .steps 8 <| .bit 66 (.steps 4 <| .call kN <| .steps 3 <| .op <| .steps 1 <| .op <| .steps 13 <| .stop [0, 7, 8, 9] (some ⟨145, [(128, 128), (129, 129), (130, 130), (131, 131), (132, 132), (133, 133), (134, 134), (135, 135), (136, 136), (137, 137), (138, 138), (139, 139), (140, 140), (141, 141), (142, 142), (143, 143), (144, 144)], [(126, (126, true)), (127, (127, true)), (128, (128, false)), (129, (129, true)), (130, (130, false)), (131, (131, false)), (132, (132, false)), (133, (133, true)), (134, (134, false)), (135, (135, false)), (136, (136, false)), (137, (137, false)), (138, (138, false)), (139, (139, false)), (140, (140, false)), (141, (141, true)), (142, (142, true)), (143, (143, true)), (144, (144, true))]⟩)) (.steps 6 <| .bit 71 (.steps 4 <| .call kN <| .steps 3 <| .op <| .steps 1 <| .op <| .steps 13 <| .stop [0, 7, 8, 9] (some ⟨145, [(128, 128), (129, 129), (130, 130), (131, 131), (132, 132), (133, 133), (134, 134), (135, 135), (136, 136), (137, 137), (138, 138), (139, 139), (140, 140), (146, 141), (142, 142), (143, 143), (144, 144)], [(126, (126, true)), (127, (127, true)), (128, (128, false)), (129, (129, true)), (130, (130, false)), (131, (131, false)), (132, (132, false)), (133, (133, true)), (134, (134, false)), (135, (135, false)), (136, (136, false)), (137, (137, false)), (138, (138, false)), (139, (139, false)), (140, (140, false)), (141, (146, true)), (142, (142, true)), (143, (143, true)), (144, (144, true))]⟩)) (.steps 6 <| .bit 76 (.steps 7 <| .call kN <| .steps 3 <| .op <| .steps 1 <| .op <| .steps 13 <| .stop [0, 7, 8, 9] (some ⟨145, [(128, 128), (129, 129), (130, 130), (131, 131), (132, 132), (133, 133), (134, 134), (135, 135), (136, 136), (137, 137), (138, 138), (139, 139), (140, 140), (141, 141), (142, 142), (143, 143), (144, 144)], [(126, (126, true)), (127, (127, true)), (128, (128, false)), (129, (129, true)), (130, (130, false)), (131, (131, false)), (132, (132, false)), (133, (133, true)), (134, (134, false)), (135, (135, false)), (136, (136, false)), (137, (137, false)), (138, (138, false)), (139, (139, false)), (140, (140, false)), (141, (141, true)), (142, (142, true)), (143, (143, true)), (144, (144, true))]⟩)) (.steps 4 <| .op <| .steps 1 <| .op <| .steps 13 <| .stop [0, 7, 8, 9] (some ⟨145, [(128, 128), (129, 129), (130, 130), (131, 131), (132, 132), (133, 133), (134, 134), (135, 135), (136, 136), (137, 137), (138, 138), (139, 139), (140, 140), (141, 141), (142, 142), (143, 143), (144, 144)], [(126, (126, true)), (127, (127, true)), (128, (128, false)), (129, (129, true)), (130, (130, false)), (131, (131, false)), (132, (132, false)), (133, (133, true)), (134, (134, false)), (135, (135, false)), (136, (136, false)), (137, (137, false)), (138, (138, false)), (139, (139, false)), (140, (140, false)), (141, (141, true)), (142, (142, true)), (143, (143, true)), (144, (144, true))]⟩))))) (.steps 3 <| .op <| .steps 1 <| .op <| .steps 13 <| .stop [0, 7, 8, 9] (some ⟨145, [(128, 128), (129, 129), (130, 130), (131, 131), (132, 132), (133, 133), (134, 134), (135, 135), (136, 136), (137, 137), (138, 138), (139, 139), (140, 140), (141, 141), (142, 142), (143, 143), (144, 144)], [(126, (126, true)), (127, (127, true)), (128, (128, false)), (129, (129, true)), (130, (130, false)), (131, (131, false)), (132, (132, false)), (133, (133, true)), (134, (134, false)), (135, (135, false)), (136, (136, false)), (137, (137, false)), (138, (138, false)), (139, (139, false)), (140, (140, false)), (141, (141, true)), (142, (142, true)), (143, (143, true)), (144, (144, true))]⟩))))))) (.steps 8 <| .op <| .steps 4 <| .bit 90 (.call kN <| .steps 5 <| .done (some ⟨128, [], [(126, (126, true)), (127, (127, true))]⟩)) (.steps 6 <| .done (some ⟨128, [], [(126, (126, true)), (127, (127, true))]⟩)))) (S0 by_ ty o tw ow c cw n cap nw kw i0 l0 n0 l1 l2 m0 n1 n2 m1 n3 i1 d) (by kernel_rfl) h (by kernel_rfl)
end KWalks
end Go.Ev

/- The law of walks. -/
namespace Go.Ev
open Go Go.Proofs Go.RowKit
variable {η : Nat → Value} {B : Bd}
namespace HQ
set_option maxRecDepth 20000 in
set_option maxHeartbeats 4000000 in
theorem walks_can (hη : OneCells η) (hmix : Try.prog.follows .mixedOrders = true) (b : Int) {ty o n cap tw ow nw kw : Nat} {c cw : List Value} (hc : ∀ j, j < n → c[o + j]? = some (.int .i64 (intAt c (o + j)))) (hb : c.all bareV = true) (hcw : ∀ j, j < nw → cw[ow + j]? = some (.int .u8 (intAt cw (ow + j)))) (hbw : cw.all bareV = true) (h0 : 0 < n) :
    CallSpec η Try.prog B 4 [.int .u8 b, .slice (some ⟨126, o, none⟩) n cap, .slice (some ⟨127, ow, none⟩) nw kw] (heapT [(ty, c), (tw, cw)]) fun v _ => v = .bool true := by
  have nn : NoNames c := nn_bare hb
  have nnw : NoNames cw := nn_bare hbw
  have hord := ordN_is b
  have awake := fun (H : AH) => awake_ok (B := B) hη hmix H
  have hSV := sv_its (ordN b) c o n
  obtain ⟨m1, m2⟩ := mkS_form (ordN b) (fun j => intAt c (o + j)) n
  have hmI := mkG_inv (ordN b) (fun j => intAt c (o + j)) n
  have hmP := mkS_plc (ordN b) (fun j => intAt c (o + j)) n
  have hgd := gS_dist (ordN b) (fun j => intAt c (o + j)) n
  have hgs := gS_srt (ordN b) (fun j => intAt c (o + j)) n
  have hgp := gS_perm (ordN b) (fun j => intAt c (o + j)) n
  rw [← mdS_eq] at m1 m2 hmP
  generalize hgS : gS (ordN b) (fun j => intAt c (o + j)) n = g0 at hSV hgd hgs hgp
  have hdis := dist_distinct hgd
  have hl0 := its_len g0 n
  have wr1 : ∀ i : Nat, i ≤ 1000000 → IntKind.i64.wrap ((i : Int) + 1) = ((i + 1 : Nat) : Int) := fun i hi => by rw [wrap_small (by omega) (by omega)]; omega
  have cut := fun i0 l0 n0 l1 l2 m0 n1 n2 mm1 n3 i1 => KWalks.cut0 (η := η) (B := B) (D := fun v _ => v = .bool true) hη hmix (reg0 hη hmix) b ty o tw ow c cw n cap nw kw i0 l0 n0 l1 l2 m0 n1 n2 mm1 n3 i1
  simp only [W.holds, true_and, and_true, true_implies, decide_eq_true_eq, decide_eq_false_iff_not, Nat.mul_one, Nat.zero_add, hSV, bne_iff_ne, ne_eq, bne_eq_false_iff_eq, beq_iff_eq, beq_eq_false_iff_ne] at cut
  have loop : ∀ (d a : Nat) (gp : G) (kp : Nat) (sp : QS) (gq : G) (kq N : Nat) (sq : QS) (x : Int), n - a = d → a ≤ n → n ≤ 100 → sp.c = its gp kp → n - a ≤ kp → intE sp.E → heapG (ordN b) (n - a) gp → (lst gp (n - a)).Perm ((lst g0 n).drop a) →
      sq.c = its gq kq → N ≤ kq → Plc N gq sq.E → N ≤ n + a → (∀ j, a ≤ j → j < n → ∃ k, k < N ∧ (gq k).1 = (g0 j).1) → (∀ k, k < N → (gq k).1 < x) → x ≤ ((n + 1 + a : Nat) : Int) → 0 ≤ x →
      RunD η Try.prog B 4 (KWalks.H0 b ty o tw ow c cw n cap nw kw) [0, 7, 8, 9] (KWalks.S0 b ty o tw ow c cw n cap nw kw (a : Int) sp.c N [.int .i64 (a : Int)] sq.c sp.E sp.ck (n - a) sq.E sq.ck x fun _ => undef) (QF Try.prog 128 fun v _ => v = .bool true) := by
    intro d
    induction d with
    | zero =>
      intro a gp kp sp gq kq N sq x hd ha h100 p1 p2 p3 p4 p5 q1 q2 q3 q4 q5 q6 q7 q8
      have hi : a = n := by omega
      subst hi
      refine cut _ _ _ _ _ _ _ _ _ _ _ ⟨fun q => by omega, fun _ => ⟨rfl, fun _ => ⟨fun _ => ⟨awake _, ⟨nn, nnw⟩, fun _ => trivial⟩, fun q => absurd rfl q⟩⟩⟩
    | succ d ih =>
      intro a gp kp sp gq kq N sq x hd ha h100 p1 p2 p3 p4 p5 q1 q2 q3 q4 q5 q6 q7 q8
      have han : a < n := by omega
      have c1 := cut (a : Int) sp.c N [.int .i64 (a : Int)] sq.c sp.E sp.ck (n - a) sq.E sq.ck x
      have hm : 0 < n - a := by omega
      have hdrop := drop_lst (g := g0) han
      have hg0 : gp 0 = g0 a := by
        rw [hdrop] at p5
        refine heap_head p4 hm p5 ?_ ?_
        · rw [← hdrop]; exact List.Pairwise.sublist (List.drop_sublist a _) hgs
        · rw [← hdrop]; exact List.Pairwise.sublist (List.drop_sublist a _) hgd
      have i0 : intAt sp.c 0 = (g0 a).1 := by rw [p1, (its_int (k := 0) (by omega)).1, hg0]
      have i1 : intAt sp.c 1 = (g0 a).2 := by rw [p1, (its_int (k := 0) (by omega)).2, hg0]
      obtain ⟨s1, s2⟩ := its_int (g := g0) (m := n) (k := a) han
      have sc := its_cut (g := g0) (m := n) (k := a) han
      have il : intAt [.int .i64 (a : Int)] 0 = (a : Int) := rfl
      obtain ⟨k0, hk0, hk1⟩ := q5 a (Nat.le_refl a) han
      have hpl := plN_at q3 hk0
      rw [hk1] at hpl
      rw [Int.toNat_natCast, s1, s2, sc, i0, i1, il, Int.toNat_natCast, wr1 a (by omega), qeta, qeta, hpl] at c1
      -- the queue that is popped
      obtain ⟨pp1, pp2⟩ := pop_G (f := ordN b) p1 p3 hm p2
      have pp3 := pop_heap p4 hm
      have pp4 : (lst (popG (ordN b) (n - a) gp) (n - a - 1)).Perm ((lst g0 n).drop (a + 1)) := by
        have := (pop_lst (f := ordN b) (g := gp) hm).trans p5
        rw [hdrop, hg0] at this
        exact this.cons_inv
      have e1 : n - a - 1 = n - (a + 1) := by omega
      have nnp : NoNames (sp.pop (ordN b) (n - a)).c := by rw [pp1]; exact its_nn _ _
      have nnq : NoNames sq.c := by rw [q1]; exact its_nn _ _
      have pend : ∀ j, a + 1 ≤ j → j < n → ∃ k, k < N ∧ (gq k).1 = (g0 j).1 ∧ k ≠ k0 := fun j h1 h2 => by
        obtain ⟨k, hk, he⟩ := q5 j (by omega) h2
        refine ⟨k, hk, he, fun e => ?_⟩
        rw [e, hk1] at he
        have := hdis a j han h2 he
        omega
      have next := fun (gq' : G) (kq' N' : Nat) (sq' : QS) (x' : Int) (r1 : sq'.c = its gq' kq') (r2 : N' ≤ kq') (r3 : Plc N' gq' sq'.E) (r4 : N' ≤ n + (a + 1)) (r5 : ∀ j, a + 1 ≤ j → j < n → ∃ k, k < N' ∧ (gq' k).1 = (g0 j).1) (r6 : ∀ k, k < N' → (gq' k).1 < x') (r7 : x' ≤ ((n + 1 + (a + 1) : Nat) : Int)) (r8 : 0 ≤ x') => ih (a + 1) (popG (ordN b) (n - a) gp) kp (sp.pop (ordN b) (n - a)) gq' kq' N' sq' x' (by omega) (by omega) h100 pp1 (by omega) pp2 (by rw [← e1]; exact pp3) (by rw [← e1]; exact pp4) r1 r2 r3 r4 r5 r6 r7 r8
      simp only [← e1] at next
      have same := next gq kq N sq x q1 q2 q3 (by omega) (fun j h1 h2 => by obtain ⟨k, x1, x2, _⟩ := pend j h1 h2; exact ⟨k, x1, x2⟩) q6 (by omega) q8
      have hnl : NoNames [Value.int .i64 ((a + 1 : Nat) : Int)] := nn_bare rfl
      obtain ⟨x1, x2⟩ := rem_G (f := ordN b) q1 q3.int q2 hk0
      obtain ⟨y1, y2⟩ := pushT_form (f := ordN b) (x := x) q1 q3.int q2 (g0 a).2
      have wx : IntKind.i64.wrap (x + 1) = x + 1 := wrap_small (by omega) (by omega)
      have hrv : intAt (QS.rem1 (ordN b) N sq k0).c ((N - 1) * 2 + 1) = (gq k0).2 := by
        rw [(rem1_G (f := ordN b) q1 q2 hk0).1, (its_int (k := N - 1) (by omega)).2, rem1_last hk0]
      refine c1 ⟨fun _ => ⟨⟨by omega, by omega⟩, fun _ => ⟨⟨by omega, rfl⟩, fun _ => ⟨?_, fun q => by omega, fun _ => ⟨fun q => absurd rfl q, fun _ => ⟨fun q => absurd rfl q, fun _ => ⟨rfl, fun _ => ⟨fun q => by omega, fun _ => ⟨rfl, fun _ => ⟨fun haw => ⟨rfl, fun _ => ⟨⟨by omega, haw⟩, fun _ => ⟨hcw a (by omega), fun _ => ⟨fun _ => ⟨?_, rfl, fun _ => ⟨by simp, fun _ => ⟨?_, fun _ => ?_⟩⟩⟩, fun _ => ⟨fun _ => ⟨?_, rfl, fun _ => ⟨by simp, fun _ => ⟨?_, fun _ => ?_⟩⟩⟩, fun _ => ⟨fun _ => ⟨?_, rfl, fun _ => ⟨by simp, fun _ => ⟨?_, fun _ => ?_⟩⟩⟩, fun _ => ⟨rfl, fun _ => ⟨by simp, fun _ => ⟨?_, fun _ => same⟩⟩⟩⟩⟩⟩⟩⟩⟩, fun _ => ⟨rfl, fun _ => ⟨by simp, fun _ => ⟨?_, fun _ => same⟩⟩⟩⟩⟩⟩⟩⟩⟩⟩⟩⟩, fun q => by omega⟩
      all_goals first | exact ⟨nn, nnw, its_nn _ _, hnl, nnq, nn_int q3.int, nnp, nn_int pp2⟩ | skip
      · refine CallSpec.iteF (by simp; omega) ?_
        exact (pop_at hη hmix (q := 136) (v := 140) (r := 143) (m := 144) (f := ordN b) (x := ((n + 1 : Nat) : Int)) (s := sp) (g := gp) (u := (g0 a).1) (w := (g0 a).2) (by rw [hg0]) (by rw [hg0]) ⟨by kernel_rfl, by kernel_rfl, by kernel_rfl, by kernel_rfl, by decide⟩ hord p1 p3 hm p2 (by omega)).conv (by kernel_rfl)
      -- Remove
      · have k := fun (H : AH) hA => rem_any (B := B) (H := H) (q := 131) (v := 139) (r := 141) (m := 142) (f := ordN b) (x := x) (n := N) (k := kq) (s := sq) (g := gq) hη hmix hA hord q1 q3 q2 hk0 (by omega)
        rw [hk1] at k
        rw [hrv]
        exact (k _ ⟨by kernel_rfl, by kernel_rfl, by kernel_rfl, by kernel_rfl, by decide⟩).conv (by kernel_rfl)
      · exact ⟨nn, nnw, its_nn _ _, hnl, by rw [x1]; exact its_nn _ _, nn_int x2, nnp, nn_int pp2⟩
      · refine next (remG (ordN b) N gq k0) kq (N - 1) (sq.rem (ordN b) N k0) x x1 (by omega) (rem_P q1 q2 hk0 q3) (by omega) (fun j h1 h2 => ?_) (fun k hk => ?_) (by omega) q8
        · obtain ⟨k, e1, e2, e3⟩ := pend j h1 h2
          have hmem : gq k ∈ gq k0 :: lst (remG (ordN b) N gq k0) (N - 1) := (rem_lst hk0).symm.mem_iff.1 (lst_mem.2 ⟨k, e1, rfl⟩)
          rcases List.mem_cons.1 hmem with he | he
          · exact absurd (q3.dis k k0 e1 hk0 (by rw [he])) e3
          · obtain ⟨k', h3, h4⟩ := lst_mem.1 he
            exact ⟨k', h3, by rw [h4, e2]⟩
        · obtain ⟨k', h3, h4⟩ := lst_mem.1 ((rem_lst (f := ordN b) hk0).mem_iff.1 (List.mem_cons_of_mem (gq k0) (lst_mem.2 ⟨k, hk, rfl⟩)))
          rw [← h4]; exact q6 k' h3
      -- Push
      · exact (pushT_any (B := B) (q := 131) (v := 139) (r := 141) (m := 142) (f := ordN b) (x := x) (n := N) (k := kq) (s := sq) (g := gq) hη hmix rfl ⟨by kernel_rfl, by kernel_rfl, by kernel_rfl, by kernel_rfl, by decide⟩ hord q1 q3.int q2 (by omega) (by omega) (g0 a).2).conv (by kernel_rfl)
      · exact ⟨nn, nnw, its_nn _ _, hnl, by rw [y1]; exact its_nn _ _, nn_int y2, nnp, nn_int pp2⟩
      · refine next (pushG (ordN b) N gq x (g0 a).2) (N + 1) (N + 1) (sq.pushT (ordN b) N x (g0 a).2) (IntKind.i64.wrap (x + 1)) y1 (Nat.le_refl _) (pushT_P q1 q2 q3 fun k hk e => by have := q6 k hk; omega) (by omega) (fun j h1 h2 => ?_) (fun k hk => ?_) (by rw [wx]; omega) (by rw [wx]; omega)
        · obtain ⟨k, e1, e2, e3⟩ := pend j h1 h2
          obtain ⟨k', h3, h4⟩ := lst_mem.1 ((push_lst (ordN b) N gq x (g0 a).2).symm.mem_iff.1 (List.mem_cons_of_mem _ (lst_mem.2 ⟨k, e1, rfl⟩)))
          exact ⟨k', h3, by rw [h4, e2]⟩
        · rw [wx]
          rcases List.mem_cons.1 ((push_lst (ordN b) N gq x (g0 a).2).mem_iff.1 (lst_mem.2 ⟨k, hk, rfl⟩)) with he | he
          · rw [he]; show x < x + 1; omega
          · obtain ⟨k', h3, h4⟩ := lst_mem.1 he
            rw [← h4]; have := q6 k' h3; omega
      -- Set
      · have k := fun (H : AH) hA u => set_any (B := B) (H := H) (q := 131) (v := 139) (r := 141) (m := 142) (f := ordN b) (x := x) (n := N) (k := kq) (s := sq) (g := gq) hη hmix hA hord q1 q3 q2 hk0 (by omega) u
        rw [hk1] at k
        exact (k _ ⟨by kernel_rfl, by kernel_rfl, by kernel_rfl, by kernel_rfl, by decide⟩ _).conv (by kernel_rfl)
      · obtain ⟨z1, z2⟩ := set_G (f := ordN b) q1 q2 hk0 (IntKind.i64.wrap ((IntKind.i64.wrap (0 - (g0 a).2)).tdiv 2))
        exact ⟨nn, nnw, its_nn _ _, hnl, by rw [z1]; exact its_nn _ _, nn_int (z2 q3.int), nnp, nn_int pp2⟩
      · generalize IntKind.i64.wrap ((IntKind.i64.wrap (0 - (g0 a).2)).tdiv 2) = u
        obtain ⟨z1, z2⟩ := set_G (f := ordN b) q1 q2 hk0 u
        refine next (setG (ordN b) N gq k0 u) kq N (sq.setv (ordN b) N k0 u) x z1 q2 (set_P q1 q2 hk0 u q3) (by omega) (fun j h1 h2 => ?_) (fun k hk => ?_) (by omega) q8
        · obtain ⟨k, e1, e2, e3⟩ := pend j h1 h2
          obtain ⟨k', h3, h4⟩ := lst_mem.1 ((set_lst (f := ordN b) hk0 u).symm.mem_iff.1 (lst_mem.2 ⟨k, e1, rfl⟩))
          exact ⟨k', h3, by rw [h4, upd_fst, e2]⟩
        · obtain ⟨k', h3, h4⟩ := lst_mem.1 ((set_lst (f := ordN b) hk0 u).mem_iff.1 (lst_mem.2 ⟨k, hk, rfl⟩))
          rw [← h4, upd_fst]; exact q6 k' h3
  refine KWalks.enter hη hmix (reg0 hη hmix) _ _ _ _ _ _ _ _ _ _ _ ?_
  simp only [W.holds, true_and, and_true, true_implies, decide_eq_true_eq, decide_eq_false_iff_not, hSV]
  refine ⟨fun _ => ⟨awake _, ⟨nn, nnw⟩, fun _ => trivial⟩, fun q => ⟨?_, ?_, ?_, ?_, fun _ => ?_⟩⟩
  · exact (made_any (B := B) hη hmix b (ty := ty) (c := c) (r := 126) (by kernel_rfl) hc hb h0 (by omega)).conv (by kernel_rfl)
  · exact (made_any (B := B) hη hmix b (ty := ty) (c := c) (r := 126) (by kernel_rfl) hc hb h0 (by omega)).conv (by kernel_rfl)
  · have k := fun (H : AH) hA => save_any (B := B) (H := H) (q := 130) (v := 131) (r := 132) (m := 133) (f := ordN b) (x := ((n + 1 : Nat) : Int)) (n := n) (k := n) (s := mdS (ordN b) c o n) hη hmix hA hord m1 m2 (Nat.le_refl n) h0 (by omega)
    rw [hSV] at k
    exact (k _ ⟨by kernel_rfl, by kernel_rfl, by kernel_rfl, by kernel_rfl, by decide⟩).conv (by kernel_rfl)
  · exact ⟨nn, nnw, its_nn _ _, by rw [m1]; exact its_nn _ _, nn_int m2, by rw [m1]; exact its_nn _ _, nn_int m2⟩
  · refine loop n 0 (mkG (ordN b) (fun j => intAt c (o + j)) n) n (mdS (ordN b) c o n) (mkG (ordN b) (fun j => intAt c (o + j)) n) n n (mdS (ordN b) c o n) ((n + 1 : Nat) : Int) rfl (Nat.zero_le _) (by omega) m1 (by omega) m2 hmI.heap hgp m1 (Nat.le_refl n) hmP (by omega) (fun j _ hj => ?_) (fun k hk => ?_) (by omega) (by omega)
    · obtain ⟨k, h3, h4⟩ := lst_mem.1 (hgp.symm.mem_iff.1 (lst_mem.2 ⟨j, hj, rfl⟩))
      exact ⟨k, h3, by rw [h4]⟩
    · obtain ⟨j, h3, h4⟩ := hmI.src k hk
      rw [h4]; show ((j + 1 : Nat) : Int) < _; omega
end HQ
end Go.Ev

namespace Go.Ev
open Go Go.Proofs
open Go.Ev.T renaming node → nN, nil → nZ
open Go.Proofs.Try (prog)
set_option maxRecDepth 100000
set_option maxHeartbeats 2000000
namespace KWalksN
noncomputable def bd : Code := (Go.Proofs.Try.f4.body).getD .skip
noncomputable def bd41 : Code := (Go.Proofs.Try.f41.body).getD .skip
noncomputable def H0 (by_ : Int) (ty : Nat) (o : Nat) (c : List Value) (n : Nat) (cap : Nat) : AH := { objs := eE nZ (eE nZ (eE nZ (eE nZ (eE nZ (eE nZ (lL (AObj.cells ty c false 0))))))), next := 127 }
noncomputable def E (by_ : Int) (ty : Nat) (o : Nat) (c : List Value) (n : Nat) (cap : Nat) : AS := ⟨⟨4, 93, nS (uI by_) (lL (sS 126 o n cap)) (lL (Value.slice none 0 9223372036854775808)), [Item.code (codeAt bd [])], [], FrameMode.run, CallKind.normal, none⟩, [], H0 by_ ty o c n cap⟩
noncomputable def S0 (by_ : Int) (ty : Nat) (o : Nat) (c : List Value) (n : Nat) (cap : Nat) (i0 : Int) (m0 : List MapEntry) (n0 : Nat) (n1 : Nat) (l0 : List Value) (l1 : List Value) (d : Nat → Value) : AS := ⟨⟨41, 21, nS (Value.func (Fn.yield 127) ⟨[]⟩ ⟨[]⟩) (nS (d 1) (nS (d 3) (nS (sS 128 0 n u2) (lL (d 15)) nZ) (nS (d 11) (lL (d 19)) nZ)) (nS (d 5) (nS (iI i0) (lL (d 17)) nZ) (lL (d 13)))) (nS (d 2) (nS (d 4) (nS (iI (↑n : Int)) (lL (d 16)) nZ) (nS (d 12) (lL (d 20)) nZ)) (nS (d 6) (nS (d 10) (lL (d 18)) nZ) (lL (d 14)))), [Item.code (codeAt bd41 [1, 0, 0]), Item.inLoop (codeAt bd41 [1, 0, 0]), Item.inBlock 0], [], FrameMode.run, CallKind.normal, none⟩, [⟨4, 93, nS (uI by_) (nS (sS 126 o n cap) (nS undef (nS (pP 129 0) (nS (sS 126 o n cap) (nS (pP 130 0) u1 nZ) u4) (nS (sS 126 o n cap) u4 u4)) (nS undef (nS (uI by_) u4 u4) (nS vF u4 u4))) (nS (pP 131 0) (nS (pP 132 0) (nS vF u4 u4) (nS (pP 130 0) u4 u4)) (nS undef (nS (pP 130 0) u4 u4) (nS vF u4 u1)))) (nS (Value.slice none 0 9223372036854775808) (nS undef (nS (pP 133 0) (nS (iI (↑n : Int)) (nS (Value.func (Fn.func 41) ⟨[]⟩ ⟨[pP 134 0]⟩) u1 nZ) u4) (nS (pP 135 0) u4 u4)) (nS undef (nS (sS 126 o n cap) u4 u4) (nS (pP 135 0) u4 u4))) (nS (pP 136 0) (nS undef u5 (nS vF u4 u4)) (nS undef (nS (uI by_) u4 u4) (nS vF u4 u1)))), [Item.inRangeFunc 127, Item.inBlock 0, Item.code (codeAt bd [1, 1, 1, 1, 1, 1])], [{ target := Target.collected 137, args := ⟨[]⟩ }], FrameMode.run, CallKind.normal, none⟩], ⟨eE (eE (eE (eE (eE (eE (eE (lL (AObj.loop LoopState.ready none 4 (nS (uI by_) (nS (sS 126 o n cap) (nS undef (nS (pP 129 0) (nS (sS 126 o n cap) (nS (pP 130 0) u1 nZ) u4) (nS (sS 126 o n cap) u4 u4)) (nS undef (nS (uI by_) u4 u4) (nS vF u4 u4))) (nS (pP 131 0) (nS (pP 132 0) (nS vF u4 u4) (nS (pP 130 0) u4 u4)) (nS undef (nS (pP 130 0) u4 u4) (nS vF u4 u1)))) (nS (Value.slice none 0 9223372036854775808) (nS undef (nS (pP 133 0) (nS (iI (↑n : Int)) (nS (Value.func (Fn.func 41) ⟨[]⟩ ⟨[pP 134 0]⟩) u1 nZ) u4) (nS (pP 135 0) u4 u4)) (nS undef (nS (sS 126 o n cap) u4 u4) (nS (pP 135 0) u4 u4))) (nS (pP 136 0) (nS undef u5 (nS vF u4 u4)) (nS undef (nS (uI by_) u4 u4) (nS vF u4 u1))))) 93 [33, 34] (codeAt bd [1, 1, 1, 1, 1, 0, 1, 0, 0]) (codeAt bd [1, 1, 1, 1, 1, 0, 1, 0, 1]) 137)) nZ) nZ) (eE (eE (lL (AObj.map m0 n0 true)) nZ) nZ)) (eE (eE (eE (lL (AObj.cells 78 [pP 135 0, pP 139 0] true 2)) nZ) nZ) nZ)) (eE (eE (eE (eE (lL (AObj.cells 42 [Value.slice none 0 9223372036854775808] true 2)) nZ) nZ) nZ) (eE (eE (eE (lL (AObj.cells 75 [Value.func (Fn.func (HQ.ordN by_)) ⟨[]⟩ ⟨[]⟩, iI (↑(n + 1) : Int), sS 142 0 n1 u2, Value.map (some 143)] true 2)) nZ) nZ) nZ))) (eE (eE (eE (eE (eE (lL (AObj.cells 25 [pP 130 0] true 2)) nZ) nZ) nZ) (eE (eE (eE (lL (AObj.deferred (some []))) nZ) nZ) nZ)) (eE (eE (eE (eE (lL (AObj.cells 25 [pP 135 0] true 2)) nZ) nZ) nZ) (eE (eE (eE (lL (AObj.map (HQ.mdS (HQ.ordN by_) c o n).E (HQ.mdS (HQ.ordN by_) c o n).ck true)) nZ) nZ) nZ)))) (eE (eE (eE (eE (eE (eE (lL (AObj.cells 40 (HQ.svC (HQ.ordN by_) n (HQ.mdS (HQ.ordN by_) c o n).c) false 2)) nZ) nZ) nZ) (eE (eE (eE (lL (AObj.cells 4 [Value.bool false] true 2)) nZ) nZ) nZ)) (eE (eE (eE (eE (lL (AObj.cells 3 l0 true 2)) nZ) nZ) nZ) (eE (eE (eE (lL (AObj.cells 40 (HQ.mdS (HQ.ordN by_) c o n).c false 2)) nZ) nZ) nZ))) (eE (eE (eE (eE (eE (lL (AObj.cells 78 [pP 130 0, pP 138 0] true 2)) nZ) nZ) nZ) (eE (eE (eE (lL (AObj.cells 75 [Value.func (Fn.func (HQ.ordN by_)) ⟨[]⟩ ⟨[]⟩, iI (↑(n + 1) : Int), sS 140 0 n u2, Value.map (some 141)] true 2)) nZ) nZ) nZ)) (eE (eE (eE (eE (lL (AObj.cells 25 [pP 130 0] true 2)) nZ) nZ) nZ) (eE (eE (eE (lL (AObj.cells 40 l1 false 2)) nZ) nZ) (eE nZ (lL (AObj.cells ty c false 0))))))), 144⟩⟩
theorem enter {η : Nat → Value} {B : Bd} (hη : OneCells η) (hmix : prog.follows .mixedOrders = true) (hreg : RegOk η prog B noNest) {D : Value → AH → Prop} (by_ : Int) (ty : Nat) (o : Nat) (c : List Value) (n : Nat) (cap : Nat) (h : let q9 := (HQ.mdS (HQ.ordN by_) c o n); let q8 := (HQ.svC (HQ.ordN by_) n q9.c); let q7 : T AObj := (eE (eE (eE (lL (AObj.cells 40 q9.c false 2)) nZ) nZ) nZ); let q6 : T AObj := (eE (eE (eE (lL (AObj.map q9.E q9.ck true)) nZ) nZ) nZ); let q5 : T AObj := (eE q7 (eE (eE (eE (lL (AObj.cells 3 [iI 0] true 2)) nZ) nZ) nZ)); let q4 : T AObj := (eE (eE (eE (eE (lL (AObj.cells 42 [Value.slice none 0 9223372036854775808] true 2)) nZ) nZ) nZ) q7); let q3 : AH := ⟨eE (eE (eE (eE (eE (eE (eE (lL (AObj.cells 42 [Value.slice none 0 9223372036854775808] true 2)) nZ) nZ) nZ) nZ) nZ) nZ) (eE (eE (eE (eE (eE (eE (lL (AObj.cells 4 [Value.bool false] true 2)) nZ) nZ) nZ) nZ) nZ) (eE nZ (eE nZ (eE nZ (eE nZ (lL (AObj.cells ty c false 0))))))), 129⟩; let q2 : T AObj := (eE (eE (eE (eE (eE (lL (AObj.cells 78 [pP 129 0, pP 130 0] true 2)) nZ) nZ) nZ) (eE (eE (eE (lL (AObj.cells 25 [pP 129 0] true 2)) nZ) nZ) nZ)) (eE (eE (eE (eE (lL (AObj.cells 78 [pP 133 0, pP 134 0] true 2)) nZ) nZ) nZ) (eE (eE (eE (lL (AObj.deferred (some []))) nZ) nZ) nZ))); let q1 : AH := ⟨eE (eE (eE (eE (eE (eE (eE (lL (AObj.cells 42 [Value.slice none 0 9223372036854775808] true 2)) nZ) nZ) nZ) nZ) (eE q7 nZ)) (eE (eE (eE (eE (eE (lL (AObj.cells 78 [pP 129 0, pP 130 0] true 2)) nZ) nZ) nZ) nZ) nZ)) (eE (eE (eE (eE (eE (eE (lL (AObj.cells 4 [Value.bool false] true 2)) nZ) nZ) nZ) nZ) (eE q6 nZ)) (eE (eE (eE (eE (eE (lL (AObj.cells 75 [Value.func (Fn.func (HQ.ordN by_)) ⟨[]⟩ ⟨[]⟩, iI (↑(n + 1) : Int), sS 131 0 n u2, Value.map (some 132)] true 2)) nZ) nZ) nZ) nZ) (eE nZ (eE nZ (eE nZ (lL (AObj.cells ty c false 0))))))), 133⟩; let q0 : T AObj := (eE (eE (eE (eE (eE (eE (lL (AObj.cells 4 [Value.bool false] true 2)) nZ) nZ) nZ) q6) (eE q6 (eE (eE (eE (lL (AObj.cells 25 [pP 129 0] true 2)) nZ) nZ) nZ))) (eE (eE (eE (eE (eE (lL (AObj.cells 75 [Value.func (Fn.func (HQ.ordN by_)) ⟨[]⟩ ⟨[]⟩, iI (↑(n + 1) : Int), sS 131 0 n u2, Value.map (some 132)] true 2)) nZ) nZ) nZ) (eE (eE (eE (lL (AObj.cells 25 [pP 133 0] true 2)) nZ) nZ) nZ)) (eE (eE (eE (eE (lL (AObj.cells 75 [Value.func (Fn.func (HQ.ordN by_)) ⟨[]⟩ ⟨[]⟩, iI (↑(n + 1) : Int), sS 135 0 n u2, Value.map (some 136)] true 2)) nZ) nZ) nZ) (eE (eE (eE (lL (AObj.loop LoopState.ready none 4 (nS (uI by_) (nS (sS 126 o n cap) (eE (nS (pP 137 0) (nS (sS 126 o n cap) (lL (pP 129 0)) nZ) (lL (sS 126 o n cap))) (eE (lL (uI by_)) (lL vF))) (nS (pP 127 0) (nS (pP 139 0) (lL vF) (lL (pP 129 0))) (eE (lL (pP 129 0)) (lL vF)))) (nS (Value.slice none 0 9223372036854775808) (eE (nS (pP 138 0) (nS (iI (↑n : Int)) (lL (Value.func (Fn.func 41) ⟨[]⟩ ⟨[pP 140 0]⟩)) nZ) (lL (pP 133 0))) (eE (lL (sS 126 o n cap)) (lL (pP 133 0)))) (nS (pP 128 0) (eE nZ (lL vF)) (eE (lL (uI by_)) (lL vF))))) 93 [33, 34] (codeAt bd [1, 1, 1, 1, 1, 0, 1, 0, 0]) (codeAt bd [1, 1, 1, 1, 1, 0, 1, 0, 1]) 141)) nZ) nZ) (eE nZ (lL (AObj.cells ty c false 0))))))); W.holds η prog B 4 (fun kp_ st_ => RunD η prog B 4 (H0 by_ ty o c n cap) kp_ st_ (QF prog 127 D)) D (.ite (decide ((↑n : Int) > (100 : Int))) (.call 7 [] (q3) (.ret (Value.bool true) (q3)) (.need (NoNames c ∧ True) (.done 4 (Value.bool true) (H0 by_ ty o c n cap)))) (.call 8 [Value.int IntKind.u8 by_, Value.slice (some ⟨126, o, none⟩) n cap] (q3) (.ret (Value.pointer (some ⟨129, 0, none⟩)) (q1)) (.call 8 [Value.int IntKind.u8 by_, Value.slice (some ⟨126, o, none⟩) n cap] (q1) (.ret (Value.pointer (some ⟨133, 0, none⟩)) (⟨eE (eE (eE q4 (eE q7 nZ)) (eE (eE (eE (eE (eE (lL (AObj.cells 78 [pP 129 0, pP 130 0] true 2)) nZ) nZ) nZ) nZ) (eE (eE (eE (eE (lL (AObj.cells 78 [pP 133 0, pP 134 0] true 2)) nZ) nZ) nZ) nZ))) (eE (eE (eE (eE (eE (eE (lL (AObj.cells 4 [Value.bool false] true 2)) nZ) nZ) nZ) q6) (eE q6 nZ)) (eE (eE (eE (eE (eE (lL (AObj.cells 75 [Value.func (Fn.func (HQ.ordN by_)) ⟨[]⟩ ⟨[]⟩, iI (↑(n + 1) : Int), sS 131 0 n u2, Value.map (some 132)] true 2)) nZ) nZ) nZ) nZ) (eE (eE (eE (eE (lL (AObj.cells 75 [Value.func (Fn.func (HQ.ordN by_)) ⟨[]⟩ ⟨[]⟩, iI (↑(n + 1) : Int), sS 135 0 n u2, Value.map (some 136)] true 2)) nZ) nZ) nZ) (eE nZ (eE nZ (lL (AObj.cells ty c false 0))))))), 137⟩)) (.call 9 [Value.pointer (some ⟨129, 0, none⟩)] (⟨eE (eE (eE q4 q5) q2) q0, 143⟩) (.ret (Value.agg ⟨[Value.int IntKind.i64 (↑(n + 1) : Int), Value.slice (some ⟨143, 0, none⟩) n 9223372036854775810]⟩) (⟨eE (eE (eE (eE (eE (eE (eE (lL (AObj.cells 42 [Value.slice none 0 9223372036854775808] true 2)) nZ) nZ) (eE (eE (lL (AObj.cells 40 q8 false 2)) nZ) nZ)) q7) q5) q2) q0, 144⟩)) (.need (NoNames c ∧ True ∧ NoNames q8 ∧ True ∧ True ∧ True ∧ True ∧ True ∧ True ∧ True ∧ True ∧ True ∧ True ∧ True ∧ NoNames q9.c ∧ NoNamesE q9.E ∧ NoNames q9.c ∧ NoNamesE q9.E ∧ True) (.stop [0, 7, 8, 9] (S0 by_ ty o c n cap (0) (q9.E) (q9.ck) (n) ([Value.int IntKind.i64 0]) (q9.c) (fun _ => undef))))))))) : CallSpec η prog B 4 [Value.int IntKind.u8 by_, Value.slice (some ⟨126, o, none⟩) n cap, Value.slice none 0 9223372036854775808] (H0 by_ ty o c n cap) D := by
  refine CallSpec.ofQF hη (CallSpec.enter (fr := (E by_ ty o c n cap).fr) (by kernel_rfl) ?_)
  exact walk_okT (h0 := H0 by_ ty o c n cap) hη hmix hreg (.steps 12 <| .bit 17 (.steps 3 <| .call kN <| .steps 3 <| .done (some ⟨127, [], [(126, (126, true))]⟩)) (.steps 6 <| .call kN <| .steps 2 <| .call kN <| .steps 45 <| .call kN <| .steps 6 <| .stop [0, 7, 8, 9] (some ⟨144, [(142, 127), (143, 128), (137, 129), (129, 130), (127, 131), (139, 132), (138, 133), (140, 134), (133, 135), (128, 136), (141, 137), (130, 138), (134, 139), (131, 140), (132, 141), (135, 142), (136, 143)], [(126, (126, true)), (127, (142, false)), (128, (143, true)), (129, (137, false)), (130, (129, false)), (131, (127, false)), (132, (139, false)), (133, (138, false)), (134, (140, false)), (135, (133, false)), (136, (128, false)), (137, (141, false)), (138, (130, false)), (139, (134, false)), (140, (131, true)), (141, (132, true)), (142, (135, true)), (143, (136, true))]⟩))) (E by_ ty o c n cap) (by kernel_rfl) h (by kernel_rfl)
theorem cut0 {η : Nat → Value} {B : Bd} (hη : OneCells η) (hmix : prog.follows .mixedOrders = true) (hreg : RegOk η prog B noNest) {D : Value → AH → Prop} (by_ : Int) (ty : Nat) (o : Nat) (c : List Value) (n : Nat) (cap : Nat) (i0 : Int) (m0 : List MapEntry) (n0 : Nat) (n1 : Nat) (l0 : List Value) (l1 : List Value) (h : let q11 := (HQ.mdS (HQ.ordN by_) c o n); let q10 := ((0 : Nat) + i0.toNat * (2 : Nat)); let q9 := (Value.pointer (some ⟨130, 0, none⟩)); let q8 := (Value.slice (some ⟨126, o, none⟩) n cap); let q7 := (Value.int IntKind.i64 (intAt l0 (0 : Nat))); let q6 := ((0 : Nat) + i0.toNat * (2 : Nat) + (1 : Nat)); let q5 := (HQ.QS.pop (HQ.ordN by_) n1 (HQ.QS.mk (l1) (m0) (n0))); let q4 := (HQ.svC (HQ.ordN by_) n q11.c); let q3 : W := (.need (NoNames c ∧ True) (.done 4 (Value.bool false) (H0 by_ ty o c n cap))); let q2 : T AObj := (eE (eE (eE (lL (AObj.cells 25 [pP 130 0] true 2)) nZ) nZ) nZ); let q1 : AH := ⟨eE (eE (eE (eE (eE (eE (eE (lL (AObj.loop LoopState.exhausted none 4 (nS (uI by_) (nS q8 (nS undef (nS (pP 129 0) (nS q8 (nS q9 u1 nZ) u4) (nS q8 u4 u4)) (nS undef (nS (uI by_) u4 u4) (nS vF u4 u4))) (nS (pP 131 0) (nS (pP 132 0) (nS vF u4 u4) (nS q9 u4 u4)) (nS undef (nS q9 u4 u4) (nS vF u4 u1)))) (nS (Value.slice none 0 9223372036854775808) (nS undef (nS (pP 133 0) (nS (iI (↑n : Int)) (nS (Value.func (Fn.func 41) ⟨[]⟩ ⟨[pP 134 0]⟩) u1 nZ) u4) (nS (pP 135 0) u4 u4)) (nS undef (nS q8 u4 u4) (nS (pP 135 0) u4 u4))) (nS (pP 136 0) (nS undef u5 (nS vF u4 u4)) (nS undef (nS (uI by_) u4 u4) (nS vF u4 u1))))) 93 [33, 34] (codeAt bd [1, 1, 1, 1, 1, 0, 1, 0, 0]) (codeAt bd [1, 1, 1, 1, 1, 0, 1, 0, 1]) 137)) nZ) nZ) (eE (eE (lL (AObj.map m0 n0 true)) nZ) nZ)) (eE (eE (eE (lL (AObj.cells 78 [pP 135 0, pP 139 0] true 2)) nZ) nZ) nZ)) (eE (eE (eE (eE (lL (AObj.cells 42 [Value.slice none 0 9223372036854775808] true 2)) nZ) nZ) nZ) (eE (eE (eE (lL (AObj.cells 75 [Value.func (Fn.func (HQ.ordN by_)) ⟨[]⟩ ⟨[]⟩, iI (↑(n + 1) : Int), sS 142 0 n1 u2, Value.map (some 143)] true 2)) nZ) nZ) nZ))) (eE (eE q2 (eE (eE (eE (lL (AObj.deferred (some []))) nZ) nZ) nZ)) (eE (eE (eE (eE (lL (AObj.cells 25 [pP 135 0] true 2)) nZ) nZ) nZ) (eE (eE (eE (lL (AObj.map q11.E q11.ck true)) nZ) nZ) nZ)))) (eE (eE (eE (eE (eE (eE (lL (AObj.cells 40 q4 false 2)) nZ) nZ) nZ) (eE (eE (eE (lL (AObj.cells 4 [Value.bool false] true 2)) nZ) nZ) nZ)) (eE (eE (eE (eE (lL (AObj.cells 3 l0 true 2)) nZ) nZ) nZ) (eE (eE (eE (lL (AObj.cells 40 q11.c false 2)) nZ) nZ) nZ))) (eE (eE (eE (eE (eE (lL (AObj.cells 78 [pP 130 0, pP 138 0] true 2)) nZ) nZ) nZ) (eE (eE (eE (lL (AObj.cells 75 [Value.func (Fn.func (HQ.ordN by_)) ⟨[]⟩ ⟨[]⟩, iI (↑(n + 1) : Int), sS 140 0 n u2, Value.map (some 141)] true 2)) nZ) nZ) nZ)) (eE q2 (eE (eE (eE (lL (AObj.cells 40 l1 false 2)) nZ) nZ) (eE nZ (lL (AObj.cells ty c false 0))))))), 144⟩; let q0 : AH := ⟨eE (eE (eE (eE (eE (eE (eE (lL (AObj.loop LoopState.busy none 4 (nS (uI by_) (nS q8 (nS undef (nS (pP 129 0) (nS q8 (nS q9 u1 nZ) u4) (nS q8 u4 u4)) (nS undef (nS (uI by_) u4 u4) (nS vF u4 u4))) (nS (pP 131 0) (nS (pP 132 0) (nS vF u4 u4) (nS q9 u4 u4)) (nS undef (nS q9 u4 u4) (nS vF u4 u1)))) (nS (Value.slice none 0 9223372036854775808) (nS undef (nS (pP 133 0) (nS (iI (↑n : Int)) (nS (Value.func (Fn.func 41) ⟨[]⟩ ⟨[pP 134 0]⟩) u1 nZ) u4) (nS (pP 135 0) u4 u4)) (nS undef (nS q8 u4 u4) (nS (pP 135 0) u4 u4))) (nS (pP 136 0) (nS undef u5 (nS vF u4 u4)) (nS undef (nS (uI by_) u4 u4) (nS vF u4 u1))))) 93 [33, 34] (codeAt bd [1, 1, 1, 1, 1, 0, 1, 0, 0]) (codeAt bd [1, 1, 1, 1, 1, 0, 1, 0, 1]) 137)) nZ) nZ) (eE (eE (lL (AObj.map m0 n0 true)) nZ) nZ)) (eE (eE (eE (lL (AObj.cells 78 [pP 135 0, pP 139 0] true 2)) nZ) nZ) nZ)) (eE (eE (eE (eE (lL (AObj.cells 42 [Value.slice none 0 9223372036854775808] true 2)) nZ) nZ) nZ) (eE (eE (eE (lL (AObj.cells 75 [Value.func (Fn.func (HQ.ordN by_)) ⟨[]⟩ ⟨[]⟩, iI (↑(n + 1) : Int), sS 142 0 n1 u2, Value.map (some 143)] true 2)) nZ) nZ) nZ))) (eE (eE q2 (eE (eE (eE (lL (AObj.deferred (some []))) nZ) nZ) nZ)) (eE (eE (eE (eE (lL (AObj.cells 25 [pP 135 0] true 2)) nZ) nZ) nZ) (eE (eE (eE (lL (AObj.map q11.E q11.ck true)) nZ) nZ) nZ)))) (eE (eE (eE (eE (eE (eE (lL (AObj.cells 40 q4 false 2)) nZ) nZ) (eE (eE (lL (AObj.cells 40 [iI (intAt q4 (0 + i0.toNat * 2)), iI (intAt q4 (0 + i0.toNat * 2 + 1))] true 2)) nZ) nZ)) (eE (eE (eE (lL (AObj.cells 4 [Value.bool false] true 2)) nZ) nZ) nZ)) (eE (eE (eE (eE (lL (AObj.cells 3 l0 true 2)) nZ) nZ) nZ) (eE (eE (eE (lL (AObj.cells 40 q11.c false 2)) nZ) nZ) nZ))) (eE (eE (eE (eE (eE (lL (AObj.cells 78 [pP 130 0, pP 138 0] true 2)) nZ) nZ) nZ) (eE (eE (eE (lL (AObj.cells 75 [Value.func (Fn.func (HQ.ordN by_)) ⟨[]⟩ ⟨[]⟩, iI (↑(n + 1) : Int), sS 140 0 n u2, Value.map (some 141)] true 2)) nZ) nZ) nZ)) (eE q2 (eE (eE (eE (lL (AObj.cells 40 l1 false 2)) nZ) nZ) (eE nZ (lL (AObj.cells ty c false 0))))))), 145⟩; W.holds η prog B 4 (fun kp_ st_ => RunD η prog B 4 (H0 by_ ty o c n cap) kp_ st_ (QF prog 127 D)) D (.ite (decide (i0 < (↑n : Int))) (.need ((0 : Int) ≤ i0 ∧ i0 < (↑n : Int)) (.need ((0 : Nat) + i0.toNat * (2 : Nat) + (2 : Nat) ≤ q4.length ∧ List.take (2 : Nat) (List.drop q10 q4) = [Value.int IntKind.i64 (intAt q4 q10), Value.int IntKind.i64 (intAt q4 q6)]) (.call 17 [Value.pointer (some ⟨135, 0, none⟩)] (q0) (.ite (n1 == (0 : Nat)) (.ret (Value.tuple ⟨[Value.int IntKind.i64 0, Value.int IntKind.i64 0, Value.int IntKind.i64 4]⟩) (q0)) (.ret (Value.tuple ⟨[Value.int IntKind.i64 (intAt l1 0), Value.int IntKind.i64 (intAt l1 1), Value.int IntKind.i64 0]⟩) (⟨eE (eE (eE (eE (eE (eE (eE (lL (AObj.loop LoopState.busy none 4 (nS (uI by_) (nS q8 (nS undef (nS (pP 129 0) (nS q8 (nS q9 u1 nZ) u4) (nS q8 u4 u4)) (nS undef (nS (uI by_) u4 u4) (nS vF u4 u4))) (nS (pP 131 0) (nS (pP 132 0) (nS vF u4 u4) (nS q9 u4 u4)) (nS undef (nS q9 u4 u4) (nS vF u4 u1)))) (nS (Value.slice none 0 9223372036854775808) (nS undef (nS (pP 133 0) (nS (iI (↑n : Int)) (nS (Value.func (Fn.func 41) ⟨[]⟩ ⟨[pP 134 0]⟩) u1 nZ) u4) (nS (pP 135 0) u4 u4)) (nS undef (nS q8 u4 u4) (nS (pP 135 0) u4 u4))) (nS (pP 136 0) (nS undef u5 (nS vF u4 u4)) (nS undef (nS (uI by_) u4 u4) (nS vF u4 u1))))) 93 [33, 34] (codeAt bd [1, 1, 1, 1, 1, 0, 1, 0, 0]) (codeAt bd [1, 1, 1, 1, 1, 0, 1, 0, 1]) 137)) nZ) nZ) (eE (eE (lL (AObj.map q5.E q5.ck true)) nZ) nZ)) (eE (eE (eE (lL (AObj.cells 78 [pP 135 0, pP 139 0] true 2)) nZ) nZ) nZ)) (eE (eE (eE (eE (lL (AObj.cells 42 [Value.slice none 0 9223372036854775808] true 2)) nZ) nZ) nZ) (eE (eE (eE (lL (AObj.cells 75 [Value.func (Fn.func (HQ.ordN by_)) ⟨[]⟩ ⟨[]⟩, iI (↑(n + 1) : Int), sS 142 0 (n1 - 1) u2, Value.map (some 143)] true 2)) nZ) nZ) nZ))) (eE (eE q2 (eE (eE (eE (lL (AObj.deferred (some []))) nZ) nZ) nZ)) (eE (eE (eE (eE (lL (AObj.cells 25 [pP 135 0] true 2)) nZ) nZ) nZ) (eE (eE (eE (lL (AObj.map q11.E q11.ck true)) nZ) nZ) nZ)))) (eE (eE (eE (eE (eE (eE (lL (AObj.cells 40 q4 false 2)) nZ) nZ) (eE (eE (lL (AObj.cells 40 [iI (intAt q4 (0 + i0.toNat * 2)), iI (intAt q4 (0 + i0.toNat * 2 + 1))] true 2)) nZ) nZ)) (eE (eE (eE (lL (AObj.cells 4 [Value.bool false] true 2)) nZ) nZ) nZ)) (eE (eE (eE (eE (lL (AObj.cells 3 l0 true 2)) nZ) nZ) nZ) (eE (eE (eE (lL (AObj.cells 40 q11.c false 2)) nZ) nZ) nZ))) (eE (eE (eE (eE (eE (lL (AObj.cells 78 [pP 130 0, pP 138 0] true 2)) nZ) nZ) nZ) (eE (eE (eE (lL (AObj.cells 75 [Value.func (Fn.func (HQ.ordN by_)) ⟨[]⟩ ⟨[]⟩, iI (↑(n + 1) : Int), sS 140 0 n u2, Value.map (some 141)] true 2)) nZ) nZ) nZ)) (eE q2 (eE (eE (eE (lL (AObj.cells 40 q5.c false 2)) nZ) nZ) (eE nZ (lL (AObj.cells ty c false 0))))))), 145⟩))) (.ite (n1 == (0 : Nat)) q3 (.ite (intAt q4 q10 != intAt l1 (0 : Nat)) q3 (.ite (intAt q4 q6 != intAt l1 (1 : Nat)) q3 (.need (l0[(0 : Nat)]? = some q7) (.ite (decide (intAt l0 (0 : Nat) > (100 : Int))) q3 (.need (l0[(0 : Nat)]? = some q7) (.ite (decide (intAt l0 (0 : Nat) < (0 : Int))) (.need (l0[(0 : Nat)]? = some q7) (.fail "index")) (.need (l0[(0 : Nat)]? = some q7) (.need ((1 : Nat) ≤ l0.length) (.need (NoNames c ∧ True ∧ NoNames q4 ∧ True ∧ True ∧ True ∧ NoNames (Value.int IntKind.i64 (IntKind.i64.wrap (intAt l0 (0 : Nat) + (1 : Int))) :: List.append._f [] PUnit.unit (List.drop (1 : Nat) l0)) ∧ True ∧ True ∧ True ∧ True ∧ True ∧ True ∧ True ∧ NoNames q11.c ∧ NoNamesE q11.E ∧ NoNames q5.c ∧ NoNamesE q5.E ∧ True) (.stop [0, 7, 8, 9] (S0 by_ ty o c n cap (IntKind.i64.wrap (i0 + 1)) (q5.E) (q5.ck) (n1 - 1) (Value.int IntKind.i64 (IntKind.i64.wrap (intAt l0 0 + 1)) :: List.append._f [] PUnit.unit (List.drop 1 l0)) (q5.c) (fun _ => undef)))))))))))))))) (.need (l0[(0 : Nat)]? = some q7) (.ite (intAt l0 (0 : Nat) == (↑n : Int)) (.call 7 [] (q1) (.ret (Value.bool true) (q1)) (.need (NoNames c ∧ True) (.done 4 (Value.bool true) (H0 by_ ty o c n cap)))) q3)))) : RunD η prog B 4 (H0 by_ ty o c n cap) [0, 7, 8, 9] (S0 by_ ty o c n cap i0 m0 n0 n1 l0 l1 fun _ => undef) (QF prog 127 D) := by
  refine RunD.intro (S0 by_ ty o c n cap i0 m0 n0 n1 l0 l1) (fun d => ⟨rfl, rfl, rfl⟩) (fun d => tmOk_get (by kernel_rfl)) (fun d => by kernel_rfl) (fun d => ?_)
  exact walk_okT (h0 := H0 by_ ty o c n cap) hη hmix hreg (.steps 5 <| .bit 10 (.steps 6 <| .op <| .op <| .steps 23 <| .call kN <| .both (.steps 42 <| .done (some ⟨127, [], [(126, (126, true))]⟩)) (.steps 19 <| .bit 48 (.steps 23 <| .done (some ⟨127, [], [(126, (126, true))]⟩)) (.steps 5 <| .bit 53 (.steps 18 <| .done (some ⟨127, [], [(126, (126, true))]⟩)) (.op <| .steps 3 <| .bit 56 (.steps 14 <| .done (some ⟨127, [], [(126, (126, true))]⟩)) (.steps 5 <| .op <| .steps 4 <| .bit 60 (.steps 4 <| .op <| .op <| .done none) (.steps 3 <| .op <| .steps 1 <| .op <| .steps 13 <| .stop [0, 7, 8, 9] (some ⟨144, [(127, 127), (128, 128), (129, 129), (130, 130), (131, 131), (132, 132), (133, 133), (134, 134), (135, 135), (136, 136), (137, 137), (138, 138), (139, 139), (140, 140), (141, 141), (142, 142), (143, 143)], [(126, (126, true)), (127, (127, false)), (128, (128, true)), (129, (129, false)), (130, (130, false)), (131, (131, false)), (132, (132, true)), (133, (133, false)), (134, (134, false)), (135, (135, false)), (136, (136, false)), (137, (137, false)), (138, (138, false)), (139, (139, false)), (140, (140, true)), (141, (141, true)), (142, (142, true)), (143, (143, true))]⟩))))))) (.steps 8 <| .op <| .steps 4 <| .bit 90 (.call kN <| .steps 5 <| .done (some ⟨127, [], [(126, (126, true))]⟩)) (.steps 6 <| .done (some ⟨127, [], [(126, (126, true))]⟩)))) (S0 by_ ty o c n cap i0 m0 n0 n1 l0 l1 d) (by kernel_rfl) h (by kernel_rfl)
end KWalksN
namespace KWalks0
noncomputable def bd : Code := (Go.Proofs.Try.f4.body).getD .skip
noncomputable def bd41 : Code := (Go.Proofs.Try.f41.body).getD .skip
noncomputable def H0 (by_ : Int) : AH := { objs := nZ, next := 126 }
noncomputable def E (by_ : Int) : AS := ⟨⟨4, 93, nS (uI by_) (lL (Value.slice none 0 9223372036854775808)) (lL (Value.chan none)), [Item.code (codeAt bd [])], [], FrameMode.run, CallKind.normal, none⟩, [], H0 by_⟩
noncomputable def S0 (by_ : Int)  (d : Nat → Value) : AS := ⟨⟨41, 21, nS (Value.func (Fn.yield 126) ⟨[]⟩ ⟨[]⟩) (nS (d 1) (nS (d 3) (nS (Value.slice none 0 0) (lL (d 15)) nZ) (nS (d 11) (lL (d 19)) nZ)) (nS (d 5) (nS (iI 0) (lL (d 17)) nZ) (lL (d 13)))) (nS (d 2) (nS (d 4) (nS (iI 0) (lL (d 16)) nZ) (nS (d 12) (lL (d 20)) nZ)) (nS (d 6) (nS (d 10) (lL (d 18)) nZ) (lL (d 14)))), [Item.code (codeAt bd41 [1, 0, 0]), Item.inLoop (codeAt bd41 [1, 0, 0]), Item.inBlock 0], [], FrameMode.run, CallKind.normal, none⟩, [⟨4, 93, nS (uI by_) (nS (Value.slice none 0 9223372036854775808) (nS undef (nS (pP 127 0) (nS (Value.slice none 0 9223372036854775808) (nS (pP 128 0) u1 nZ) u4) (nS (Value.slice none 0 9223372036854775808) u4 u4)) (nS undef (nS (uI by_) u4 u4) (nS vF u4 u4))) (nS (pP 129 0) (nS (pP 130 0) (nS vF u4 u4) (nS (pP 128 0) u4 u4)) (nS undef (nS (pP 128 0) u4 u4) (nS vF u4 u1)))) (nS (Value.chan none) (nS undef (nS (pP 131 0) (nS (iI 0) (nS (Value.func (Fn.func 41) ⟨[]⟩ ⟨[pP 132 0]⟩) u1 nZ) u4) (nS (pP 133 0) u4 u4)) (nS undef (nS (Value.slice none 0 9223372036854775808) u4 u4) (nS (pP 133 0) u4 u4))) (nS (pP 134 0) (nS undef u5 (nS vF u4 u4)) (nS undef (nS (uI by_) u4 u4) (nS vF u4 u1)))), [Item.inRangeFunc 126, Item.inBlock 0, Item.code (codeAt bd [1, 1, 1, 1, 1, 1])], [{ target := Target.collected 135, args := ⟨[]⟩ }], FrameMode.run, CallKind.normal, none⟩], ⟨eE (eE (eE (eE (eE (eE (eE (lL (AObj.cells 25 [pP 128 0] true 2)) nZ) nZ) nZ) (eE (eE (eE (lL (AObj.deferred (some []))) nZ) nZ) nZ)) (eE (eE (eE (eE (lL (AObj.cells 25 [pP 133 0] true 2)) nZ) nZ) nZ) (eE (eE (eE (lL (AObj.map [] 0 true)) nZ) nZ) nZ))) (eE (eE (eE (eE (eE (lL (AObj.cells 42 [Value.chan none] true 2)) nZ) nZ) nZ) (eE (eE (eE (lL (AObj.cells 75 [Value.func (Fn.func (HQ.ordN by_)) ⟨[]⟩ ⟨[]⟩, iI 1, Value.slice none 0 0, Value.map (some 139)] true 2)) nZ) nZ) nZ)) (eE (eE (eE (eE (lL (AObj.cells 78 [pP 133 0, pP 137 0] true 2)) nZ) nZ) nZ) nZ))) (eE (eE (eE (eE (eE (eE (lL (AObj.cells 78 [pP 128 0, pP 136 0] true 2)) nZ) nZ) nZ) (eE (eE (eE (lL (AObj.cells 75 [Value.func (Fn.func (HQ.ordN by_)) ⟨[]⟩ ⟨[]⟩, iI 1, Value.slice none 0 0, Value.map (some 138)] true 2)) nZ) nZ) nZ)) (eE (eE (eE (eE (lL (AObj.cells 25 [pP 128 0] true 2)) nZ) nZ) nZ) nZ)) (eE (eE (eE (eE (eE (lL (AObj.cells 3 [iI 0] true 2)) nZ) nZ) nZ) (eE (eE (eE (lL (AObj.map [] 0 true)) nZ) nZ) nZ)) (eE (eE (eE (eE (lL (AObj.cells 4 [Value.bool false] true 2)) nZ) nZ) nZ) (eE nZ (eE nZ (lL (AObj.loop LoopState.ready none 4 (nS (uI by_) (nS (Value.slice none 0 9223372036854775808) (nS undef (nS (pP 127 0) (nS (Value.slice none 0 9223372036854775808) (nS (pP 128 0) u1 nZ) u4) (nS (Value.slice none 0 9223372036854775808) u4 u4)) (nS undef (nS (uI by_) u4 u4) (nS vF u4 u4))) (nS (pP 129 0) (nS (pP 130 0) (nS vF u4 u4) (nS (pP 128 0) u4 u4)) (nS undef (nS (pP 128 0) u4 u4) (nS vF u4 u1)))) (nS (Value.chan none) (nS undef (nS (pP 131 0) (nS (iI 0) (nS (Value.func (Fn.func 41) ⟨[]⟩ ⟨[pP 132 0]⟩) u1 nZ) u4) (nS (pP 133 0) u4 u4)) (nS undef (nS (Value.slice none 0 9223372036854775808) u4 u4) (nS (pP 133 0) u4 u4))) (nS (pP 134 0) (nS undef u5 (nS vF u4 u4)) (nS undef (nS (uI by_) u4 u4) (nS vF u4 u1))))) 93 [33, 34] (codeAt bd [1, 1, 1, 1, 1, 0, 1, 0, 0]) (codeAt bd [1, 1, 1, 1, 1, 0, 1, 0, 1]) 135))))))), 140⟩⟩
theorem enter {η : Nat → Value} {B : Bd} (hη : OneCells η) (hmix : prog.follows .mixedOrders = true) (hreg : RegOk η prog B noNest) {D : Value → AH → Prop} (by_ : Int) (h : let q4 := (Value.func (Fn.func (HQ.ordN by_)) ⟨[]⟩ ⟨[]⟩); let q3 : T AObj := (eE (eE (eE (eE (lL (AObj.map [] 0 true)) nZ) nZ) nZ) nZ); let q2 : AH := ⟨eE (eE (eE (eE (eE (eE (eE (lL (AObj.cells 4 [Value.bool false] true 2)) nZ) nZ) nZ) nZ) nZ) nZ) (eE nZ (eE nZ (eE nZ (eE nZ (eE nZ (lL (AObj.cells 42 [Value.chan none] true 2))))))), 128⟩; let q1 : AH := ⟨eE (eE (eE (eE (eE (eE (eE (lL (AObj.cells 4 [Value.bool false] true 2)) nZ) nZ) nZ) nZ) nZ) (eE (eE (eE (eE (eE (lL (AObj.cells 75 [Value.func (Fn.func (HQ.ordN by_)) ⟨[]⟩ ⟨[]⟩, iI 1, Value.slice none 0 0, Value.map (some 130)] true 2)) nZ) nZ) nZ) nZ) nZ)) (eE (eE (eE (eE (eE (eE (lL (AObj.cells 78 [pP 128 0, pP 129 0] true 2)) nZ) nZ) nZ) nZ) nZ) (eE q3 (eE nZ (eE nZ (eE nZ (lL (AObj.cells 42 [Value.chan none] true 2))))))), 131⟩; let q0 : AH := ⟨eE (eE (eE (eE (eE (eE (eE (lL (AObj.cells 4 [Value.bool false] true 2)) nZ) nZ) nZ) (eE (eE (eE (lL (AObj.cells 25 [pP 131 0] true 2)) nZ) nZ) nZ)) (eE (eE (eE (eE (lL (AObj.cells 78 [pP 131 0, pP 132 0] true 2)) nZ) nZ) nZ) (eE (eE (eE (lL (AObj.loop LoopState.ready none 4 (nS (uI by_) (nS (Value.slice none 0 9223372036854775808) (eE (nS (pP 134 0) (nS (Value.slice none 0 9223372036854775808) (lL (pP 128 0)) nZ) (lL (Value.slice none 0 9223372036854775808))) (eE (lL (uI by_)) (lL vF))) (nS (pP 126 0) (nS (pP 136 0) (lL vF) (lL (pP 128 0))) (eE (lL (pP 128 0)) (lL vF)))) (nS (Value.chan none) (eE (nS (pP 135 0) (nS (iI 0) (lL (Value.func (Fn.func 41) ⟨[]⟩ ⟨[pP 137 0]⟩)) nZ) (lL (pP 131 0))) (eE (lL (Value.slice none 0 9223372036854775808)) (lL (pP 131 0)))) (nS (pP 127 0) (eE nZ (lL vF)) (eE (lL (uI by_)) (lL vF))))) 93 [33, 34] (codeAt bd [1, 1, 1, 1, 1, 0, 1, 0, 0]) (codeAt bd [1, 1, 1, 1, 1, 0, 1, 0, 1]) 138)) nZ) nZ) nZ))) (eE (eE (eE (eE (eE (lL (AObj.cells 75 [Value.func (Fn.func (HQ.ordN by_)) ⟨[]⟩ ⟨[]⟩, iI 1, Value.slice none 0 0, Value.map (some 130)] true 2)) nZ) nZ) nZ) (eE (eE (eE (lL (AObj.cells 25 [pP 128 0] true 2)) nZ) nZ) nZ)) q3)) (eE (eE (eE (eE (eE (eE (lL (AObj.cells 78 [pP 128 0, pP 129 0] true 2)) nZ) nZ) nZ) (eE (eE (eE (lL (AObj.cells 3 [iI 0] true 2)) nZ) nZ) nZ)) (eE (eE (eE (eE (lL (AObj.cells 75 [Value.func (Fn.func (HQ.ordN by_)) ⟨[]⟩ ⟨[]⟩, iI 1, Value.slice none 0 0, Value.map (some 133)] true 2)) nZ) nZ) nZ) nZ)) (eE (eE (eE (eE (eE (lL (AObj.map [] 0 true)) nZ) nZ) nZ) (eE (eE (eE (lL (AObj.deferred (some []))) nZ) nZ) nZ)) (eE (eE (eE (eE (lL (AObj.cells 25 [pP 128 0] true 2)) nZ) nZ) nZ) (eE nZ (eE nZ (lL (AObj.cells 42 [Value.chan none] true 2))))))), 140⟩; W.holds η prog B 4 (fun kp_ st_ => RunD η prog B 4 (H0 by_) kp_ st_ (QF prog 126 D)) D (.call 19 [Value.int IntKind.u8 by_] (q2) (.ret q4 (q2)) (.call 18 [Value.func (Fn.func (HQ.ordN by_)) ⟨[]⟩ ⟨[]⟩] (q2) (.ret (Value.pointer (some ⟨128, 0, none⟩)) (q1)) (.call 19 [Value.int IntKind.u8 by_] (q1) (.ret q4 (q1)) (.call 18 [Value.func (Fn.func (HQ.ordN by_)) ⟨[]⟩ ⟨[]⟩] (q1) (.ret (Value.pointer (some ⟨131, 0, none⟩)) (⟨eE (eE (eE (eE (eE (eE (eE (lL (AObj.cells 4 [Value.bool false] true 2)) nZ) nZ) nZ) nZ) (eE (eE (eE (eE (lL (AObj.cells 78 [pP 131 0, pP 132 0] true 2)) nZ) nZ) nZ) nZ)) (eE (eE (eE (eE (eE (lL (AObj.cells 75 [Value.func (Fn.func (HQ.ordN by_)) ⟨[]⟩ ⟨[]⟩, iI 1, Value.slice none 0 0, Value.map (some 130)] true 2)) nZ) nZ) nZ) nZ) q3)) (eE (eE (eE (eE (eE (eE (lL (AObj.cells 78 [pP 128 0, pP 129 0] true 2)) nZ) nZ) nZ) nZ) (eE (eE (eE (eE (lL (AObj.cells 75 [Value.func (Fn.func (HQ.ordN by_)) ⟨[]⟩ ⟨[]⟩, iI 1, Value.slice none 0 0, Value.map (some 133)] true 2)) nZ) nZ) nZ) nZ)) (eE q3 (eE nZ (eE nZ (eE nZ (lL (AObj.cells 42 [Value.chan none] true 2))))))), 134⟩)) (.call 9 [Value.pointer (some ⟨128, 0, none⟩)] (q0) (.ret (Value.agg ⟨[Value.int IntKind.i64 1, Value.slice none 0 0]⟩) (q0)) (.need (True ∧ True ∧ True ∧ True ∧ True ∧ True ∧ True ∧ True ∧ True ∧ True ∧ True ∧ True ∧ True ∧ True ∧ True) (.stop [0, 7, 8, 9] (S0 by_  (fun _ => undef)))))))))) : CallSpec η prog B 4 [Value.int IntKind.u8 by_, Value.slice none 0 9223372036854775808, Value.chan none] (H0 by_) D := by
  refine CallSpec.ofQF hη (CallSpec.enter (fr := (E by_).fr) (by kernel_rfl) ?_)
  exact walk_okT (h0 := H0 by_) hη hmix hreg (.steps 26 <| .call kN <| .call kN <| .steps 49 <| .call kN <| .call kN <| .steps 84 <| .call kN <| .steps 6 <| .stop [0, 7, 8, 9] (some ⟨140, [(139, 126), (134, 127), (128, 128), (126, 129), (136, 130), (135, 131), (137, 132), (131, 133), (127, 134), (138, 135), (129, 136), (132, 137), (130, 138), (133, 139)], [(126, (139, false)), (127, (134, false)), (128, (128, false)), (129, (126, false)), (130, (136, false)), (131, (135, false)), (132, (137, false)), (133, (131, false)), (134, (127, false)), (135, (138, false)), (136, (129, false)), (137, (132, false)), (138, (130, false)), (139, (133, false))]⟩)) (E by_) (by kernel_rfl) h (by kernel_rfl)
theorem cut0 {η : Nat → Value} {B : Bd} (hη : OneCells η) (hmix : prog.follows .mixedOrders = true) (hreg : RegOk η prog B noNest) {D : Value → AH → Prop} (by_ : Int)  (h : let q0 : AH := ⟨eE (eE (eE (eE (eE (eE (eE (lL (AObj.cells 25 [pP 128 0] true 2)) nZ) nZ) nZ) (eE (eE (eE (lL (AObj.deferred (some []))) nZ) nZ) nZ)) (eE (eE (eE (eE (lL (AObj.cells 25 [pP 133 0] true 2)) nZ) nZ) nZ) (eE (eE (eE (lL (AObj.map [] 0 true)) nZ) nZ) nZ))) (eE (eE (eE (eE (eE (lL (AObj.cells 42 [Value.chan none] true 2)) nZ) nZ) nZ) (eE (eE (eE (lL (AObj.cells 75 [Value.func (Fn.func (HQ.ordN by_)) ⟨[]⟩ ⟨[]⟩, iI 1, Value.slice none 0 0, Value.map (some 139)] true 2)) nZ) nZ) nZ)) (eE (eE (eE (eE (lL (AObj.cells 78 [pP 133 0, pP 137 0] true 2)) nZ) nZ) nZ) nZ))) (eE (eE (eE (eE (eE (eE (lL (AObj.cells 78 [pP 128 0, pP 136 0] true 2)) nZ) nZ) nZ) (eE (eE (eE (lL (AObj.cells 75 [Value.func (Fn.func (HQ.ordN by_)) ⟨[]⟩ ⟨[]⟩, iI 1, Value.slice none 0 0, Value.map (some 138)] true 2)) nZ) nZ) nZ)) (eE (eE (eE (eE (lL (AObj.cells 25 [pP 128 0] true 2)) nZ) nZ) nZ) nZ)) (eE (eE (eE (eE (eE (lL (AObj.cells 3 [iI 0] true 2)) nZ) nZ) nZ) (eE (eE (eE (lL (AObj.map [] 0 true)) nZ) nZ) nZ)) (eE (eE (eE (eE (lL (AObj.cells 4 [Value.bool false] true 2)) nZ) nZ) nZ) (eE nZ (eE nZ (lL (AObj.loop LoopState.exhausted none 4 (nS (uI by_) (nS (Value.slice none 0 9223372036854775808) (nS undef (nS (pP 127 0) (nS (Value.slice none 0 9223372036854775808) (nS (pP 128 0) u1 nZ) u4) (nS (Value.slice none 0 9223372036854775808) u4 u4)) (nS undef (nS (uI by_) u4 u4) (nS vF u4 u4))) (nS (pP 129 0) (nS (pP 130 0) (nS vF u4 u4) (nS (pP 128 0) u4 u4)) (nS undef (nS (pP 128 0) u4 u4) (nS vF u4 u1)))) (nS (Value.chan none) (nS undef (nS (pP 131 0) (nS (iI 0) (nS (Value.func (Fn.func 41) ⟨[]⟩ ⟨[pP 132 0]⟩) u1 nZ) u4) (nS (pP 133 0) u4 u4)) (nS undef (nS (Value.slice none 0 9223372036854775808) u4 u4) (nS (pP 133 0) u4 u4))) (nS (pP 134 0) (nS undef u5 (nS vF u4 u4)) (nS undef (nS (uI by_) u4 u4) (nS vF u4 u1))))) 93 [33, 34] (codeAt bd [1, 1, 1, 1, 1, 0, 1, 0, 0]) (codeAt bd [1, 1, 1, 1, 1, 0, 1, 0, 1]) 135))))))), 140⟩; W.holds η prog B 4 (fun kp_ st_ => RunD η prog B 4 (H0 by_) kp_ st_ (QF prog 126 D)) D (.call 7 [] (q0) (.ret (Value.bool true) (q0)) (.need (True) (.done 4 (Value.bool true) (H0 by_))))) : RunD η prog B 4 (H0 by_) [0, 7, 8, 9] (S0 by_  fun _ => undef) (QF prog 126 D) := by
  refine RunD.intro (S0 by_ ) (fun d => ⟨rfl, rfl, rfl⟩) (fun d => tmOk_get (by kernel_rfl)) (fun d => by kernel_rfl) (fun d => ?_)
  exact walk_okT (h0 := H0 by_) hη hmix hreg (.steps 18 <| .call kN <| .steps 5 <| .done (some ⟨126, [], []⟩)) (S0 by_  d) (by kernel_rfl) h (by kernel_rfl)
end KWalks0
namespace KSave0
noncomputable def bd : Code := (Go.Proofs.Try.f9.body).getD .skip
noncomputable def H0 (f : Nat) (x : Int) : AH := { objs := eE (eE (eE (eE (eE (eE (eE (lL (AObj.cells 75 [Value.func (Fn.func f) ⟨[]⟩ ⟨[]⟩, iI x, Value.slice none 0 0, Value.map (some 128)] true 2)) nZ) nZ) nZ) nZ) nZ) nZ) (eE (eE (eE (eE (eE (eE (lL (AObj.map [] 0 true)) nZ) nZ) nZ) nZ) nZ) (eE nZ (eE nZ (eE nZ (eE nZ (lL (AObj.cells 78 [pP 126 0, pP 127 0] true 2))))))), next := 129 }
noncomputable def E (f : Nat) (x : Int) : AS := ⟨⟨9, 32, lL (pP 126 0), [Item.code (codeAt bd [])], [], FrameMode.run, CallKind.normal, none⟩, [], H0 f x⟩
theorem enter {η : Nat → Value} {B : Bd} (hη : OneCells η) (hmix : prog.follows .mixedOrders = true) (hreg : RegOk η prog B noNest) {D : Value → AH → Prop} (f : Nat) (x : Int) (h : W.holds η prog B 9 (fun kp_ st_ => RunD η prog B 9 (H0 f x) kp_ st_ (QF prog 129 D)) D (.need (True ∧ True ∧ True ∧ True) (.done 9 (Value.agg ⟨[Value.int IntKind.i64 x, Value.slice none 0 0]⟩) (H0 f x)))) : CallSpec η prog B 9 [Value.pointer (some ⟨126, 0, none⟩)] (H0 f x) D := by
  refine CallSpec.ofQF hη (CallSpec.enter (fr := (E f x).fr) (by kernel_rfl) ?_)
  exact walk_okT (h0 := H0 f x) hη hmix hreg (.steps 212 <| .done (some ⟨129, [], [(126, (126, false)), (127, (127, false)), (128, (128, false))]⟩)) (E f x) (by kernel_rfl) h (by kernel_rfl)
end KSave0
end Go.Ev

namespace Go.Ev
open Go Go.RowKit Go.ChangeShapes Go.WideShapes
variable {P : Program}
def SliceArg (W : World) (v : Value) (n : Nat) (c : List Value) : Prop :=
  (v = .slice none 0 0 ∧ n = 0) ∨ ∃ blk o o' cap ty, v = .slice (some ⟨blk, o, none⟩) n cap ∧ isU cap = false ∧ (o' ≤ o ∧ o ≤ o' + c.length) ∧ (n ≠ 0 → o' = o) ∧ RowAt W ⟨ty, c, blk, o'⟩
theorem rowAt_le {fits : TypeId → Bool} : ∀ (d : Nat) {e : TypeId} {count off n : Nat}, rowAt P fits d e count off n = true → off ≤ count * P.cellsOf e
  | 0, e, count, off, n, h => by simp [rowAt] at h
  | d + 1, e, count, off, n, h => by
    unfold rowAt at h
    simp only at h
    split at h
    · cases h
    · rename_i hs
      have hs : 0 < P.cellsOf e := Nat.pos_of_ne_zero hs
      have hd := Nat.div_add_mod off (P.cellsOf e)
      simp only [Bool.or_eq_true, Bool.and_eq_true, beq_iff_eq, decide_eq_true_eq] at h
      rcases h with ⟨⟨hr, hn⟩, _⟩ | ⟨hi, _⟩
      · rw [hr, Nat.add_zero, Nat.mul_comm] at hd
        rw [← hd]; exact Nat.mul_le_mul_right _ (by omega)
      · exact Nat.le_of_lt ((Nat.div_lt_iff_lt_mul hs).1 hi)
theorem liesAt_le : ∀ (d : Nat) {u : TypeId} {e : TypeId} {count off n : Nat}, liesAt P d e count off u n = true → off ≤ count * P.cellsOf e
  | 0, u, e, count, off, n, h => by simp [liesAt] at h
  | d + 1, u, e, count, off, n, h => by
    unfold liesAt at h
    rw [Bool.or_eq_true] at h
    rcases h with h | h
    · exact rowAt_le _ h
    · cases hu : P.underlying u with
      | none => rw [hu] at h; cases h
      | some t =>
        rw [hu] at h
        cases t with
        | array m u' => exact liesAt_le d h
        | _ => simp at h
theorem has_lt' {w : World} {r : Reach} {base : Nat} {a : Addr} {e : TypeId} {n : Nat} (h : w.has P r base a e n) : a.spot = none ∧ ∃ (C : Array Value) (ty : TypeId) (lo hi : Nat), w.heap[a.block]? = some (.cells C ty (lo, hi)) ∧ a.off ≤ C.size := by
  obtain ⟨_, hs, row, cells, hsh, hl⟩ := h
  refine ⟨hs, ?_⟩
  have hle := Nat.le_trans (liesAt_le _ hl) (Nat.div_mul_le_self _ _)
  unfold World.shape? at hsh
  split at hsh
  · rename_i C ty fr hh
    obtain ⟨lo, hi⟩ := fr
    injection hsh with hsh
    injection hsh with h1 h2
    exact ⟨C, ty, lo, hi, hh, by omega⟩
  · cases hsh
theorem has_of_slice' {w : World} {r : Reach} {b0 : Nat} {t e : TypeId} {a : Addr} {n c : Nat} (hu : P.underlying t = some (.slice e)) (h : Value.okWide P w r b0 t (.slice (some a) n c)) : w.has P r b0 a e c := by
  simp only [Value.okWide, hu, Cell.okWide, Cell.ok] at h
  exact h.2.2
theorem cells_slice' (p : Option Addr) (n c : Nat) : (Value.slice p n c).cells.toList = [.slice p n c] := rfl
theorem notU {c : Nat} (h : c ≤ maxLen) : isU c = false := by
  have : maxLen < 9223372036854775808 := by decide
  unfold isU capB
  exact decide_eq_false (by omega)
theorem row_at {W : World} {b o : Nat} {C : Array Value} {ty : TypeId} {lo hi : Nat} {c : List Value} (hb : W.heap[b]? = some (.cells C ty (lo, hi))) (hc : ∀ (i : Nat) (v : Value), c[i]? = some v → W.cell? ⟨b, o + i, none⟩ = some v) (hbare : c.all bareV = true) (hne : c ≠ []) : RowAt W ⟨ty, c, b, o⟩ := by
  have hall : ∀ (i : Nat) (v : Value), c[i]? = some v → C[o + i]? = some v := by
    intro i v hv
    have h := hc i v hv
    unfold World.cell? at h
    simp only [hb, Option.isSome_none, Bool.false_eq_true, if_false] at h
    exact h
  refine ⟨C, lo, hi, hb, ?_, fun i v hv => by simpa using hall i v hv, hbare⟩
  have hl : 0 < c.length := List.length_pos_iff.2 hne
  have := hall (c.length - 1) (c[c.length - 1]'(by omega)) (List.getElem?_eq_getElem (by omega))
  have := (Array.getElem?_eq_some_iff.1 this).1
  show o + c.length ≤ C.size
  omega
end Go.Ev

namespace Go.Ev
open Go Go.RowKit Go.ChangeShapes Go.WideShapes
variable {P : Program}
def intsV (k : IntKind) (l : List Int) : List Value := l.map fun n => .int k n
theorem intsV_bare (k : IntKind) (l : List Int) : (intsV k l).all bareV = true := by
  rw [List.all_eq_true]; intro v hv
  unfold intsV at hv
  rw [List.mem_map] at hv
  obtain ⟨x, _, rfl⟩ := hv; rfl
theorem intsV_get {k : IntKind} {l : List Int} {j : Nat} (h : j < l.length) : (intsV k l)[j]? = some (.int k l[j]) := by
  unfold intsV; rw [List.getElem?_map, List.getElem?_eq_getElem h]; rfl
theorem open_ints_arg {t e : TypeId} {k : IntKind} (hu : P.underlying t = some (.slice e)) (he : P.underlying e = some (.int k)) (hC : P.cellsOf e = 1)
    {H : Type} {enc : TypeId × Value → H} {W : World} {r : Reach} {b0 base : Nat} {sp : Nat → Bool} {held : Bool} {v : Value} {d : DataW H} {ps : List MemPlace}
    (hval : Value.okWide P W r b0 t v) (h : DataW.Trod enc P W base sp held t v d ps) : ∃ b : List Int, SliceArg W v b.length (intsV k b) := by
  obtain ⟨p, n, c, rfl⟩ := okWide_slice hu hval
  obtain ⟨fuel, hf⟩ := h
  rw [cells_slice'] at hf
  rcases Go.Deep.open_slice1 hu hC hf with ⟨hn, _⟩ | ⟨a, len, cap, m, q, V, D, Pl, hcs, hb, hl, hm, hmm, hx, hi⟩
  · simp at hn
    obtain ⟨rfl, rfl, rfl⟩ := hn
    exact ⟨[], .inl ⟨rfl, rfl⟩⟩
  · simp at hcs
    obtain ⟨rfl, rfl, rfl⟩ := hcs
    obtain ⟨hsp, C, ty, lo, hi', hblk, hoff⟩ := has_lt' (has_of_slice' hu hval)
    obtain ⟨b, o, spot⟩ := a
    simp only at hsp hblk hoff
    subst hsp
    have hlm : n ≤ m := by rw [hmm]; split <;> omega
    have hel : ∀ i, i < n → ∃ x : Int, W.cell? ⟨b, o + i, none⟩ = some (.int k x) := by
      intro i hin
      obtain ⟨h1, h2⟩ := hi i (by omega)
      obtain ⟨z, hz, _, hw⟩ := DataW.trod_int he h2
      injection hz with hz _
      refine ⟨z, ?_⟩
      rw [hz] at h1
      simpa [Go.WideShapes.add_plain] using h1
    obtain ⟨F, hF⟩ := Go.Deep.choose_lt hel
    refine ⟨(List.range n).map F, ?_⟩
    have hlen : ((List.range n).map F).length = n := by simp
    rw [hlen]
    cases n with
    | zero => exact .inr ⟨b, o, o, c, ty, rfl, notU hm, ⟨Nat.le_refl _, Nat.le_add_right _ _⟩, fun h => absurd rfl h, C, lo, hi', hblk, hoff, (fun i v hv => by simp [intsV] at hv), rfl⟩
    | succ n =>
      refine .inr ⟨b, o, o, c, ty, rfl, notU hm, ⟨Nat.le_refl _, Nat.le_add_right _ _⟩, fun _ => rfl, row_at hblk (fun i v hv => ?_) (intsV_bare _ _) (by simp [intsV])⟩
      unfold intsV at hv
      rw [List.map_map, List.getElem?_map, Option.map_eq_some_iff] at hv
      obtain ⟨j, hj, rfl⟩ := hv
      rw [List.getElem?_eq_some_iff] at hj
      obtain ⟨hj1, rfl⟩ := hj
      rw [List.length_range] at hj1
      rw [List.getElem_range]
      exact hF i hj1
end Go.Ev

/- The law of walks: without numbers, and over the world. -/
namespace Go.Ev
open Go Go.Proofs Go.RowKit
variable {η : Nat → Value} {B : Bd}
namespace HQ
theorem save_none (hη : OneCells η) (hmix : Try.prog.follows .mixedOrders = true) {H : AH} {q v m f : Nat} {x : Int} (a : QAt0 H q v m f x) :
    CallSpec η Try.prog B 9 [.pointer (some ⟨q, 0, none⟩)] H (KT.ret (.agg ⟨[.int .i64 x, .slice none 0 0]⟩) ⟨putL (keyQ (rnQ q v m) 3 H.next) [some (objQ q v), some (.cells 75 [.func (.func f) #[] #[], .int .i64 x, .slice none 0 0, .map (some m)] true 2), some (.map [] 0 true)] 0 H.objs, H.next + (3 - 3)⟩).sat := by
  obtain ⟨d1, d2, d3⟩ := a.hd
  refine CallSpec.move hη gs9 (rn := rnQ q v m) (l := [objQ 126 127, .cells 75 [.func (.func f) #[] #[], .int .i64 x, .slice none 0 0, .map (some 128)] true 2, .map [] 0 true]) (l' := [objQ q v, .cells 75 [.func (.func f) #[] #[], .int .i64 x, .slice none 0 0, .map (some m)] true 2, .map [] 0 true])
    (args := [.pointer (some ⟨126, 0, none⟩)]) (v := .agg ⟨[.int .i64 x, .slice none 0 0]⟩) (l2 := [some (objQ 126 127), some (.cells 75 [.func (.func f) #[] #[], .int .i64 x, .slice none 0 0, .map (some 128)] true 2), some (.map [] 0 true)]) ⟨fun i a' hi => ?_, ?_, fun i j hi hj e => ?_⟩ (by simp) (.cons (.ptr (show 126 < 129 by decide)) .nil) (.agg rfl fun j y z h1 h2 => ?_) ?_ ?_
  · match i, hi with
    | 0, hi => simp at hi; subst hi; exact a.hq
    | 1, hi => simp at hi; subst hi; exact a.hv
    | 2, hi => simp at hi; subst hi; exact a.hm
    | i + 3, hi => simp at hi
  · exact .cons (ro_Q (show 126 < 129 by decide) (show 127 < 129 by decide)) (.cons (.cells _ _ (.cons (rv_fn f) (.cons (.int _ _) (.cons (.slice0 _ _) (.cons (.map (show 128 < 129 by decide)) .nil)))) (.inl rfl)) (.cons (.map _ .nil (.inl rfl)) .nil))
  · simp only [List.length_cons, List.length_nil] at hi hj
    match i, j, hi, hj, e with
    | 0, 0, _, _, _ => rfl
    | 1, 1, _, _, _ => rfl
    | 2, 2, _, _, _ => rfl
    | 0, 1, _, _, e => exact absurd e d1
    | 0, 2, _, _, e => exact absurd e d2
    | 1, 0, _, _, e => exact absurd e.symm d1
    | 1, 2, _, _, e => exact absurd e d3
    | 2, 0, _, _, e => exact absurd e.symm d2
    | 2, 1, _, _, e => exact absurd e.symm d3
  · match j, h1, h2 with
    | 0, h1, h2 => simp at h1 h2; subst h1; subst h2; exact .int _ _
    | 1, h1, h2 => simp at h1 h2; subst h1; subst h2; exact .slice0 _ _
    | j + 2, h1, h2 => simp at h1
  · exact .cons (.some (ro_Q (show 126 < 129 by decide) (show 127 < 129 by decide))) (.cons (.some (.cells _ _ (.cons (rv_fn f) (.cons (.int _ _) (.cons (.slice0 _ _) (.cons (.map (show 128 < 129 by decide)) .nil)))) (.inl rfl))) (.cons (.some (.map _ .nil (.inl rfl))) .nil))
  · refine KSave0.enter hη hmix (reg0 hη hmix) _ _ ?_
    simp only [W.holds, true_and, and_true, true_implies]
    first | exact ⟨rfl, by kernel_rfl, by kernel_rfl, by kernel_rfl, trivial⟩ | exact ⟨by kernel_rfl, by kernel_rfl, by kernel_rfl, trivial⟩ | exact ⟨rfl, rfl, by kernel_rfl, by kernel_rfl, by kernel_rfl, trivial⟩
theorem walks0_can (hη : OneCells η) (hmix : Try.prog.follows .mixedOrders = true) (b : Int) : CallSpec η Try.prog B 4 [.int .u8 b, .slice none 0 9223372036854775808, .chan none] (heapO []) fun v _ => v = .bool true := by
  have hord := ordN_is b
  have cut := KWalks0.cut0 (η := η) (B := B) (D := fun v _ => v = .bool true) hη hmix (reg0 hη hmix) b
  refine KWalks0.enter hη hmix (reg0 hη hmix) b ?_
  simp only [W.holds, true_and, and_true, true_implies] at cut ⊢
  exact ⟨order_N hη hmix b _, (new_any hη hmix hord _).conv (by kernel_rfl), order_N hη hmix b _, (new_any hη hmix hord _).conv (by kernel_rfl), (save_none hη hmix (q := 128) (v := 129) (m := 130) (f := ordN b) (x := 1) ⟨by kernel_rfl, by kernel_rfl, by kernel_rfl, by decide⟩).conv (by kernel_rfl), cut (awake_ok hη hmix _)⟩
set_option maxRecDepth 20000 in
set_option maxHeartbeats 4000000 in
theorem walksN_can (hη : OneCells η) (hmix : Try.prog.follows .mixedOrders = true) (b : Int) {ty o n cap : Nat} {c : List Value} (hc : ∀ j, j < n → c[o + j]? = some (.int .i64 (intAt c (o + j)))) (hb : c.all bareV = true) (h0 : 0 < n) :
    CallSpec η Try.prog B 4 [.int .u8 b, .slice (some ⟨126, o, none⟩) n cap, .slice none 0 9223372036854775808] (heapT [(ty, c)]) fun v _ => v = .bool true := by
  have nn : NoNames c := nn_bare hb
  have hord := ordN_is b
  have awake := fun (H : AH) => awake_ok (B := B) hη hmix H
  have hSV := sv_its (ordN b) c o n
  obtain ⟨m1, m2⟩ := mkS_form (ordN b) (fun j => intAt c (o + j)) n
  have hmI := mkG_inv (ordN b) (fun j => intAt c (o + j)) n
  have hgd := gS_dist (ordN b) (fun j => intAt c (o + j)) n
  have hgs := gS_srt (ordN b) (fun j => intAt c (o + j)) n
  have hgp := gS_perm (ordN b) (fun j => intAt c (o + j)) n
  rw [← mdS_eq] at m1 m2
  generalize hgS : gS (ordN b) (fun j => intAt c (o + j)) n = g0 at hSV hgd hgs hgp
  have hl0 := its_len g0 n
  have wr1 : ∀ i : Nat, i ≤ 1000000 → IntKind.i64.wrap ((i : Int) + 1) = ((i + 1 : Nat) : Int) := fun i hi => by rw [wrap_small (by omega) (by omega)]; omega
  have nnm : NoNames (mdS (ordN b) c o n).c := by rw [m1]; exact its_nn _ _
  have cut := fun i0 m0 n0 n1 l0 l1 => KWalksN.cut0 (η := η) (B := B) (D := fun v _ => v = .bool true) hη hmix (reg0 hη hmix) b ty o c n cap i0 m0 n0 n1 l0 l1
  simp only [W.holds, true_and, and_true, true_implies, decide_eq_true_eq, decide_eq_false_iff_not, Nat.mul_one, Nat.zero_add, hSV, bne_iff_ne, ne_eq, bne_eq_false_iff_eq, beq_iff_eq, beq_eq_false_iff_ne] at cut
  have loop : ∀ (d a : Nat) (gp : G) (kp : Nat) (sp : QS), n - a = d → a ≤ n → n ≤ 100 → sp.c = its gp kp → n - a ≤ kp → intE sp.E → heapG (ordN b) (n - a) gp → (lst gp (n - a)).Perm ((lst g0 n).drop a) →
      RunD η Try.prog B 4 (KWalksN.H0 b ty o c n cap) [0, 7, 8, 9] (KWalksN.S0 b ty o c n cap (a : Int) sp.E sp.ck (n - a) [.int .i64 (a : Int)] sp.c fun _ => undef) (QF Try.prog 127 fun v _ => v = .bool true) := by
    intro d
    induction d with
    | zero =>
      intro a gp kp sp hd ha h100 p1 p2 p3 p4 p5
      have hi : a = n := by omega
      subst hi
      refine cut _ _ _ _ _ _ ⟨fun q => by omega, fun _ => ⟨rfl, fun _ => ⟨fun _ => ⟨awake _, nn, fun _ => trivial⟩, fun q => absurd rfl q⟩⟩⟩
    | succ d ih =>
      intro a gp kp sp hd ha h100 p1 p2 p3 p4 p5
      have han : a < n := by omega
      have c1 := cut (a : Int) sp.E sp.ck (n - a) [.int .i64 (a : Int)] sp.c
      have hm : 0 < n - a := by omega
      have hdrop := drop_lst (g := g0) han
      have hg0 : gp 0 = g0 a := by
        rw [hdrop] at p5
        refine heap_head p4 hm p5 ?_ ?_
        · rw [← hdrop]; exact List.Pairwise.sublist (List.drop_sublist a _) hgs
        · rw [← hdrop]; exact List.Pairwise.sublist (List.drop_sublist a _) hgd
      have i0 : intAt sp.c 0 = (g0 a).1 := by rw [p1, (its_int (k := 0) (by omega)).1, hg0]
      have i1 : intAt sp.c 1 = (g0 a).2 := by rw [p1, (its_int (k := 0) (by omega)).2, hg0]
      obtain ⟨s1, s2⟩ := its_int (g := g0) (m := n) (k := a) han
      have sc := its_cut (g := g0) (m := n) (k := a) han
      have il : intAt [.int .i64 (a : Int)] 0 = (a : Int) := rfl
      rw [Int.toNat_natCast, s1, s2, sc, i0, i1, il, wr1 a (by omega), qeta] at c1
      obtain ⟨pp1, pp2⟩ := pop_G (f := ordN b) p1 p3 hm p2
      have pp3 := pop_heap p4 hm
      have pp4 : (lst (popG (ordN b) (n - a) gp) (n - a - 1)).Perm ((lst g0 n).drop (a + 1)) := by
        have := (pop_lst (f := ordN b) (g := gp) hm).trans p5
        rw [hdrop, hg0] at this
        exact this.cons_inv
      have e1 : n - a - 1 = n - (a + 1) := by omega
      have nnp : NoNames (sp.pop (ordN b) (n - a)).c := by rw [pp1]; exact its_nn _ _
      have next := ih (a + 1) (popG (ordN b) (n - a) gp) kp (sp.pop (ordN b) (n - a)) (by omega) (by omega) h100 pp1 (by omega) pp2 (by rw [← e1]; exact pp3) (by rw [← e1]; exact pp4)
      simp only [← e1] at next
      have hnl : NoNames [Value.int .i64 ((a + 1 : Nat) : Int)] := nn_bare rfl
      refine c1 ⟨fun _ => ⟨⟨by omega, by omega⟩, fun _ => ⟨⟨by omega, rfl⟩, fun _ => ⟨?_, fun q => by omega, fun _ => ⟨fun q => absurd rfl q, fun _ => ⟨fun q => absurd rfl q, fun _ => ⟨rfl, fun _ => ⟨fun q => by omega, fun _ => ⟨rfl, fun _ => ⟨fun haw => by omega, fun _ => ⟨rfl, fun _ => ⟨by simp, fun _ => ⟨⟨nn, its_nn _ _, hnl, nnm, nn_int m2, nnp, nn_int pp2⟩, fun _ => next⟩⟩⟩⟩⟩⟩⟩⟩⟩⟩⟩⟩, fun q => by omega⟩
      refine CallSpec.iteF (by simp; omega) ?_
      exact (pop_at hη hmix (q := 135) (v := 139) (r := 142) (m := 143) (f := ordN b) (x := ((n + 1 : Nat) : Int)) (s := sp) (g := gp) (u := (g0 a).1) (w := (g0 a).2) (by rw [hg0]) (by rw [hg0]) ⟨by kernel_rfl, by kernel_rfl, by kernel_rfl, by kernel_rfl, by decide⟩ hord p1 p3 hm p2 (by omega)).conv (by kernel_rfl)
  refine KWalksN.enter hη hmix (reg0 hη hmix) _ _ _ _ _ _ ?_
  simp only [W.holds, true_and, and_true, true_implies, decide_eq_true_eq, decide_eq_false_iff_not, hSV]
  refine ⟨fun _ => ⟨awake _, nn, fun _ => trivial⟩, fun q => ⟨?_, ?_, ?_, ?_, fun _ => ?_⟩⟩
  · exact (made_any (B := B) hη hmix b (ty := ty) (c := c) (r := 126) (by kernel_rfl) hc hb h0 (by omega)).conv (by kernel_rfl)
  · exact (made_any (B := B) hη hmix b (ty := ty) (c := c) (r := 126) (by kernel_rfl) hc hb h0 (by omega)).conv (by kernel_rfl)
  · have k := fun (H : AH) hA => save_any (B := B) (H := H) (q := 129) (v := 130) (r := 131) (m := 132) (f := ordN b) (x := ((n + 1 : Nat) : Int)) (n := n) (k := n) (s := mdS (ordN b) c o n) hη hmix hA hord m1 m2 (Nat.le_refl n) h0 (by omega)
    rw [hSV] at k
    exact (k _ ⟨by kernel_rfl, by kernel_rfl, by kernel_rfl, by kernel_rfl, by decide⟩).conv (by kernel_rfl)
  · exact ⟨nn, its_nn _ _, nnm, nn_int m2, nnm, nn_int m2⟩
  · exact loop n 0 (mkG (ordN b) (fun j => intAt c (o + j)) n) n (mdS (ordN b) c o n) rfl (Nat.zero_le _) (by omega) m1 (by omega) m2 hmI.heap hgp
theorem ints_get (k : IntKind) (L : List Int) : ∀ j, j < L.length → (intsV k L)[0 + j]? = some (.int k (intAt (intsV k L) (0 + j))) := fun j hj => by
  rw [Nat.zero_add]
  unfold intAt
  rw [intsV_get hj]
theorem walks_row (hmix : Try.prog.follows .mixedOrders = true) {w0 : World} (b : Int) (L M : List Int) (a a2 : Value) (ha : SliceArg w0 a L.length (intsV .i64 L)) (ha2 : SliceArg w0 a2 M.length (intsV .u8 M)) :
    Calls Try.prog 4 #[.int .u8 b, a, a2] w0 fun e w' => e = .returned (.bool true) ∧ Go.RowKit.Below w0.heap.size w0 w' := by
  have hη : OneCells (fun _ => Value.nilIface) := fun _ => rfl
  have one : a2.oneCell' = true := by
    rcases ha2 with ⟨rfl, _⟩ | ⟨blk, o, o', cap, ty, rfl, _⟩ <;> rfl
  have zero : ∀ (q : Option Addr) (cap : Nat), Calls Try.prog 4 #[.int .u8 b, .slice q 0 cap, a2] w0 fun e w' => e = .returned (.bool true) ∧ Go.RowKit.Below w0.heap.size w0 w' := fun q cap =>
    CallSpec.trueP (η := fun _ => .nilIface) (l := []) (args := [.int .u8 b, .slice none 0 9223372036854775808, .chan none]) gs9 (fun x hx => by cases hx) (.cons (.int _ _) (.cons (.sliceE _ _) (.cons (.any one) .nil))) (walks0_can hη hmix b)
  rcases ha with ⟨rfl, _⟩ | ⟨blk, o, o', cap, ty, rfl, hcap, hle, ho, hr⟩
  · exact zero none 0
  · by_cases hL : L = []
    · subst hL; exact zero _ _
    · have hpos : 0 < L.length := List.length_pos_iff.2 hL
      have eo := ho (by omega)
      have some0 : ∀ (q : Option Addr) (c2 : Nat), Calls Try.prog 4 #[.int .u8 b, .slice (some ⟨blk, o, none⟩) L.length cap, .slice q 0 c2] w0 fun e w' => e = .returned (.bool true) ∧ Go.RowKit.Below w0.heap.size w0 w' := fun q c2 => by
        refine CallSpec.trueR (η := fun _ => .nilIface) (l := [⟨ty, intsV .i64 L, blk, o'⟩]) (args := [.int .u8 b, .slice (some ⟨126, o - o', none⟩) L.length cap, .slice none 0 9223372036854775808]) gs9 (fun x hx => by rw [List.mem_singleton] at hx; subst hx; exact hr) (.cons (.int _ _) (.cons ?_ (.cons (.sliceE _ _) .nil))) ?_
        · have := VR.slice (η := fun _ => .nilIface) (ρ := envR Try.prog w0 [⟨ty, intsV .i64 L, blk, o'⟩]) (r := 126) (o := o - o') (b := blk) (d := o') (n := sizeB w0 blk - o') L.length cap rfl hcap
          rw [show o' + (o - o') = o by omega] at this
          exact this
        · rw [eo, Nat.sub_self]
          exact walksN_can hη hmix b (ints_get .i64 L) (intsV_bare _ _) hpos
      rcases ha2 with ⟨rfl, _⟩ | ⟨blk2, o2, o2', cap2, ty2, rfl, hcap2, hle2, ho2, hr2⟩
      · exact some0 none 0
      · by_cases hM : M = []
        · subst hM; exact some0 _ _
        · have hpos2 : 0 < M.length := List.length_pos_iff.2 hM
          have eo2 := ho2 (by omega)
          refine CallSpec.trueR (η := fun _ => .nilIface) (l := [⟨ty, intsV .i64 L, blk, o'⟩, ⟨ty2, intsV .u8 M, blk2, o2'⟩]) (args := [.int .u8 b, .slice (some ⟨126, o - o', none⟩) L.length cap, .slice (some ⟨127, o2 - o2', none⟩) M.length cap2]) gs9 (fun x hx => ?_) (.cons (.int _ _) (.cons ?_ (.cons ?_ .nil))) ?_
          · rcases List.mem_cons.1 hx with rfl | hx
            · exact hr
            · rw [List.mem_singleton] at hx; subst hx; exact hr2
          · have := VR.slice (η := fun _ => .nilIface) (ρ := envR Try.prog w0 [⟨ty, intsV .i64 L, blk, o'⟩, ⟨ty2, intsV .u8 M, blk2, o2'⟩]) (r := 126) (o := o - o') (b := blk) (d := o') (n := sizeB w0 blk - o') L.length cap rfl hcap
            rw [show o' + (o - o') = o by omega] at this
            exact this
          · have := VR.slice (η := fun _ => .nilIface) (ρ := envR Try.prog w0 [⟨ty, intsV .i64 L, blk, o'⟩, ⟨ty2, intsV .u8 M, blk2, o2'⟩]) (r := 127) (o := o2 - o2') (b := blk2) (d := o2') (n := sizeB w0 blk2 - o2') M.length cap2 rfl hcap2
            rw [show o2' + (o2 - o2') = o2 by omega] at this
            exact this
          · rw [eo, Nat.sub_self, eo2, Nat.sub_self]
            exact walks_can hη hmix b (ints_get .i64 L) (intsV_bare _ _) (ints_get .u8 M) (intsV_bare _ _) hpos
end HQ
end Go.Ev

