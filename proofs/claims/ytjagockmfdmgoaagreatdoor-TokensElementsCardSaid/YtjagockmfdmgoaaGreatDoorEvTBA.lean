/- Functions of one byte: all 256 of them, by the kernel; contracts from any heap. -/
import Derived.Test.YtjagockmfdmgoaaGreatDoorEvTBP
import Derived.Test.YtjagockmfdmgoaaGreatDoorEvTQL
namespace Go.Ev
set_option linter.unusedVariables false
set_option linter.unusedSimpArgs false
open Go Go.Proofs
variable {η : Nat → Value} {P : Program} {B : Nat}
/-- A tree of conditions alone, decided. -/
def W.pureB (fn : FuncId) (p : Value → Bool) : W → Bool
  | .ite b x y => if b then x.pureB fn p else y.pureB fn p
  | .done f v _ => decide (f = fn) && p v
  | _ => false
theorem W.pureB_ok {fn : FuncId} {K : List Nat → AS → Prop} {p : Value → Bool} : ∀ {t : W}, t.pureB fn p = true → t.holds η P B fn K fun v _ => p v = true
  | .ite b x y, h => by
    simp only [W.pureB] at h
    refine ⟨fun hb => ?_, fun hb => ?_⟩
    · rw [hb, if_pos rfl] at h; exact W.pureB_ok h
    · rw [hb] at h; exact W.pureB_ok h
  | .done f v h', h => by
    simp only [W.pureB, Bool.and_eq_true, decide_eq_true_eq] at h
    exact h
  | .need .., h | .know .., h | .call .., h | .stop .., h | .fail .., h => by simp [W.pureB] at h
theorem forall_u8 {p : UInt8 → Bool} (h : (List.range 256).all (fun k => p (UInt8.ofNat k)) = true) (c : UInt8) : p c = true := by
  have := List.all_eq_true.1 h c.toNat (List.mem_range.2 c.toNat_lt)
  rw [UInt8.ofNat_toNat] at this
  exact this
theorem u8_of {n : Int} (h0 : 0 ≤ n) (h1 : n ≤ 255) : ∃ c : UInt8, n = (c.toNat : Int) ∧ UInt8.ofNat n.toNat = c := by
  refine ⟨UInt8.ofNat n.toNat, ?_, rfl⟩
  rw [UInt8.toNat_ofNat']
  omega
theorem byteAt_range (s : List UInt8) (i : Int) : 0 ≤ byteAt s i ∧ byteAt s i ≤ 255 := by
  unfold byteAt
  have := ((s[i.toNat]?).getD 0).toNat_lt
  omega
/-- A call whose value is known and bare leaves any heap as it was. -/
theorem CallSpec.bare (hη : OneCells η) {f : FuncId} {args : List Value} {v : Value} {N : Nat} (hN : P.globals.size < N) (ha : ∀ σ M, L2 (RV σ M true) args args) (hv : ∀ σ M, RV σ M false v v) (hw : ∀ σ M, RV σ M true v v) (c : CallSpec η P B f args (heapN N) fun v' _ => v' = v) (h : AH) : CallSpec η P B f args h (KT.ret v h).sat := by
  refine CallSpec.pure hη hN ha hv ?_ h
  refine c.forget hη ?_
  rintro v' h1 rfl hn
  exact ⟨fun r => r, _, heapN N, ⟨rfl, rfl⟩, emb_nil hN fun _ _ => rfl, Nat.le_refl _, fun _ _ => rfl, hw _ _⟩
namespace TB
theorem gs9 : Tryz.prog.globals.size < 9 := of_decide_eq_true (by kernel_rfl)
def isInt (n : Int) : Value → Bool
  | .int .i64 m => decide (m = n)
  | _ => false
def isBool (b : Bool) : Value → Bool
  | .bool c => b == c
  | _ => false
theorem isInt_eq {n : Int} {v : Value} (h : isInt n v = true) : v = .int .i64 n := by
  unfold isInt at h
  split at h
  · rw [of_decide_eq_true h]
  · cases h
theorem isBool_eq {b : Bool} {v : Value} (h : isBool b v = true) : v = .bool b := by
  unfold isBool at h
  split at h
  · rw [eq_of_beq h]
  · cases h
theorem kind_any (hη : OneCells η) (hmix : Tryz.prog.follows .mixedOrders = true) {n : Int} (h0 : 0 ≤ n) (h1 : n ≤ 255) (h : AH) :
    CallSpec η Tryz.prog B 75 [.int .u8 n] h (KT.ret (.int .i64 (kdN n.toNat)) h).sat := by
  obtain ⟨c, rfl, hc⟩ := u8_of h0 h1
  refine CallSpec.bare hη gs9 (fun σ M => .cons (.int _ _) .nil) (fun σ M => .int _ _) (fun σ M => .int _ _) ?_ h
  refine (BKind.enter hη hmix (reg0 hη hmix) (D := fun v _ => isInt (kdN (c.toNat : Int).toNat) v = true) c (W.pureB_ok ?_)).mono fun v _ hv => isInt_eq hv
  clear h0 h1 hc
  revert c
  exact forall_u8 (by decide +kernel)
theorem let_any (hη : OneCells η) (hmix : Tryz.prog.follows .mixedOrders = true) {n : Int} (h0 : 0 ≤ n) (h1 : n ≤ 255) (h : AH) :
    CallSpec η Tryz.prog B 47 [.int .u8 n] h (KT.ret (.bool (letB (UInt8.ofNat n.toNat))) h).sat := by
  obtain ⟨c, rfl, hc⟩ := u8_of h0 h1
  rw [hc]
  refine CallSpec.bare hη gs9 (fun σ M => .cons (.int _ _) .nil) (fun σ M => .bool _) (fun σ M => .bool _) ?_ h
  refine (BLet.enter hη hmix (reg0 hη hmix) (D := fun v _ => isBool (letB c) v = true) c (W.pureB_ok ?_)).mono fun v _ hv => isBool_eq hv
  clear h0 h1 hc
  revert c
  exact forall_u8 (by decide +kernel)
theorem plain_any (hη : OneCells η) (hmix : Tryz.prog.follows .mixedOrders = true) {n : Int} (h0 : 0 ≤ n) (h1 : n ≤ 255) (h : AH) :
    CallSpec η Tryz.prog B 77 [.int .u8 n] h (KT.ret (.bool (plB (UInt8.ofNat n.toNat))) h).sat := by
  obtain ⟨c, rfl, hc⟩ := u8_of h0 h1
  rw [hc]
  refine CallSpec.bare hη gs9 (fun σ M => .cons (.int _ _) .nil) (fun σ M => .bool _) (fun σ M => .bool _) ?_ h
  refine (BPlain.enter hη hmix (reg0 hη hmix) (D := fun v _ => isBool (plB c) v = true) c (W.pureB_ok ?_)).mono fun v _ hv => isBool_eq hv
  clear h0 h1 hc
  revert c
  exact forall_u8 (by decide +kernel)
end TB
end Go.Ev
namespace Go.Ev
set_option linter.unusedVariables false
set_option linter.unusedSimpArgs false
open Go Go.Proofs
variable {η : Nat → Value} {B : Nat}
theorem at_cons {s : List UInt8} {i : Nat} {c : UInt8} {r : List UInt8} (h : s.drop i = c :: r) : i < s.length ∧ byteAt s (i : Int) = (c.toNat : Int) ∧ s.drop (i + 1) = r := by
  have hi : i < s.length := by
    rcases Nat.lt_or_ge i s.length with h' | h'
    · exact h'
    · rw [List.drop_eq_nil_of_le h'] at h; cases h
  have e : s.drop i = s[i] :: s.drop (i + 1) := List.drop_eq_getElem_cons hi
  rw [h] at e
  injection e with e1 e2
  refine ⟨hi, ?_, e2.symm⟩
  rw [byteAt_get hi, e1]
theorem at_nil {s : List UInt8} {i : Nat} (h : s.drop i = []) : s.length ≤ i := List.drop_eq_nil_iff.1 h
theorem wrap1 {i : Nat} (h : i ≤ 1000000000) : IntKind.i64.wrap ((i : Int) + 1) = ((i + 1 : Nat) : Int) := by
  rw [IntWalk.i64_in _ ⟨by omega, by omega⟩]; rfl
theorem str_args {σ : Nat → Nat} {M : Nat} {s : ByteArray} : L2 (RV σ M true) [.string s] [.string s] := .cons (.string _) .nil
namespace TB
theorem kd1 (c : UInt8) : (kdN c.toNat == 1) = letB c := eq_of_beq (forall_u8 (p := fun c => (kdN c.toNat == 1) == letB c) (by decide +kernel) c)
theorem kd0 (c : UInt8) : (kdN c.toNat == 0) = !plB c := eq_of_beq (forall_u8 (p := fun c => (kdN c.toNat == 0) == !plB c) (by decide +kernel) c)
theorem kd3 (c : UInt8) : (kdN c.toNat == 3) = (c.toNat == 34) := eq_of_beq (forall_u8 (p := fun c => (kdN c.toNat == 3) == (c.toNat == 34)) (by decide +kernel) c)
theorem kd4 (c : UInt8) : (kdN c.toNat == 4) = (c.toNat == 92) := eq_of_beq (forall_u8 (p := fun c => (kdN c.toNat == 4) == (c.toNat == 92)) (by decide +kernel) c)
theorem let_pl {c : UInt8} (h : letB c = true) : plB c = true ∧ c.toNat ≠ 34 ∧ c.toNat ≠ 92 := by
  have := forall_u8 (p := fun c => !letB c || (plB c && decide (c.toNat ≠ 34 ∧ c.toNat ≠ 92))) (by decide +kernel) c
  rw [h] at this
  simpa using this
theorem tokN_le : ∀ s : List UInt8, tokN s ≤ s.length
  | [] => Nat.le_refl _
  | c :: r => by
    unfold tokN; split
    · have := tokN_le r; simp; omega
    · simp
theorem tokN_all : ∀ s : List UInt8, tokN s = s.length ↔ s.all letB = true
  | [] => by simp [tokN]
  | c :: r => by
    have := tokN_all r
    unfold tokN
    cases h : letB c <;> simp [h, this]
theorem tokN_take : ∀ s : List UInt8, (s.take (tokN s)).all letB = true
  | [] => rfl
  | c :: r => by
    have := tokN_take r
    unfold tokN
    cases h : letB c with
    | true => simp only [if_true, List.take_succ_cons, List.all_cons, h, Bool.true_and]; exact this
    | false => rfl
theorem tokN_ok (hη : OneCells η) (hmix : Tryz.prog.follows .mixedOrders = true) (s : List UInt8) (hs : s.length ≤ 1000000) (h : AH) :
    CallSpec η Tryz.prog B 46 [.string ⟨⟨s⟩⟩] h (tokNK [.string ⟨⟨s⟩⟩] h).sat := by
  refine CallSpec.bare (v := .int .i64 (tokN s : Int)) hη gs9 (fun _ _ => str_args) (fun σ M => .int _ _) (fun σ M => .int _ _) ?_ h
  have cut := fun i0 => BTokN.cut0 (η := η) (B := B) (D := fun v _ => v = .int .i64 (tokN s : Int)) hη hmix (reg0 hη hmix) s i0
  simp only [W.holds, true_and, decide_eq_true_eq, decide_eq_false_iff_not] at cut
  have loop : ∀ (r : List UInt8) (i : Nat), s.drop i = r → i + tokN r = tokN s → RunD η Tryz.prog B 46 (BTokN.H0 s) [0, 3] (BTokN.S0 s (i : Int) fun _ => undef) (QF Tryz.prog 9 fun v _ => v = .int .i64 (tokN s : Int)) := by
    intro r
    induction r with
    | nil =>
      intro i hd he
      have := at_nil hd
      refine cut _ ⟨fun h => by omega, fun _ => ?_⟩
      rw [← he]; rfl
    | cons c r ih =>
      intro i hd he
      obtain ⟨hi, hb, hd2⟩ := at_cons hd
      refine cut _ ⟨fun _ => ⟨⟨by omega, by omega⟩, fun _ => ⟨kind_any hη hmix (byteAt_range _ _).1 (byteAt_range _ _).2 _, fun h => ?_, fun h => ?_⟩⟩, fun h => by omega⟩
      · rw [hb, Int.toNat_natCast, kd1] at h
        rw [wrap1 (by omega)]
        refine ih (i + 1) hd2 ?_
        rw [← he, tokN, if_pos h]; omega
      · rw [hb, Int.toNat_natCast, kd1] at h
        rw [← he, tokN, h]; rfl
  refine BTokN.enter hη hmix (reg0 hη hmix) _ ?_
  simp only [W.holds]
  exact loop s 0 rfl (by omega)
theorem nil_beq (s : List UInt8) : (s == []) = decide (s = []) := by cases s <;> rfl
theorem toL0 : (#[] : Array UInt8).toList = [] := rfl
theorem tok_ok (hη : OneCells η) (hmix : Tryz.prog.follows .mixedOrders = true) (s : List UInt8) (hs : s.length ≤ 1000000) (h : AH) :
    CallSpec η Tryz.prog B 16 [.string ⟨⟨s⟩⟩] h (tokK [.string ⟨⟨s⟩⟩] h).sat := by
  refine CallSpec.bare (v := .bool (tokB s)) hη gs9 (fun _ _ => str_args) (fun σ M => .bool _) (fun σ M => .bool _) ?_ h
  refine BTok.enter hη hmix (reg0 hη hmix) _ ?_
  simp only [W.holds, true_and, toL0, nil_beq, Bool.not_eq_true', Bool.not_eq_false', decide_eq_true_eq, decide_eq_false_iff_not]
  refine ⟨fun h0 => ⟨fun h1 => ⟨tokN_ok hη hmix s hs _, ?_⟩, fun h1 => ?_⟩, fun h0 => ?_⟩
  · have hp : 1 ≤ s.length := by cases s with | nil => exact absurd rfl h0 | cons => simp
    have e : ((tokN s : Int) == (s.length : Int)) = s.all letB := by
      have := tokN_all s
      cases ha : s.all letB with
      | true => rw [ha] at this; rw [this.2 rfl]; simp
      | false =>
        rw [ha] at this
        have hne : tokN s ≠ s.length := fun e => by cases this.1 e
        simp; omega
    rw [e]; unfold tokB
    rw [decide_eq_true (by omega), Bool.true_and]
  · unfold tokB; rw [decide_eq_false (by omega)]; rfl
  · subst h0; rfl
theorem rtok_ok (hη : OneCells η) (hmix : Tryz.prog.follows .mixedOrders = true) (s : List UInt8) (h : AH) :
    CallSpec η Tryz.prog B 17 [.string ⟨⟨s⟩⟩] h (tokK [.string ⟨⟨s⟩⟩] h).sat := by
  refine CallSpec.bare (v := .bool (tokB s)) hη gs9 (fun _ _ => str_args) (fun σ M => .bool _) (fun σ M => .bool _) ?_ h
  have cut := fun i0 => BRTok.cut0 (η := η) (B := B) (D := fun v _ => v = .bool (tokB s)) hη hmix (reg0 hη hmix) s i0
  simp only [W.holds, true_and, decide_eq_true_eq, decide_eq_false_iff_not] at cut
  refine BRTok.enter hη hmix (reg0 hη hmix) _ ?_
  simp only [W.holds, true_and, decide_eq_true_eq, decide_eq_false_iff_not]
  refine ⟨fun h => ?_, fun h0 => ⟨fun h => ?_, fun h => ?_⟩⟩
  · unfold tokB; rw [decide_eq_false (by omega)]; rfl
  · unfold tokB; rw [decide_eq_false (by omega)]; rfl
  have hs : 1 ≤ s.length ∧ s.length ≤ 64 := by omega
  have loop : ∀ (r : List UInt8) (i : Nat), s.drop i = r → s.all letB = r.all letB → RunD η Tryz.prog B 17 (BRTok.H0 s) [0, 3] (BRTok.S0 s (i : Int) fun _ => undef) (QF Tryz.prog 9 fun v _ => v = .bool (tokB s)) := by
    intro r
    induction r with
    | nil =>
      intro i hd he
      have := at_nil hd
      refine cut _ ⟨fun h => by omega, fun _ => ?_⟩
      unfold tokB; rw [he, decide_eq_true hs]; rfl
    | cons c r ih =>
      intro i hd he
      obtain ⟨hi, hb, hd2⟩ := at_cons hd
      refine cut _ ⟨fun _ => ⟨⟨by omega, by omega⟩, fun _ => ⟨let_any hη hmix (byteAt_range _ _).1 (byteAt_range _ _).2 _, fun h => ?_, fun h => ?_⟩⟩, fun h => by omega⟩
      · rw [hb, Int.toNat_natCast, UInt8.ofNat_toNat] at h
        unfold tokB
        rw [he, List.all_cons, show letB c = false by simpa using h, Bool.false_and, Bool.and_false]
      · rw [hb, Int.toNat_natCast, UInt8.ofNat_toNat] at h
        rw [wrap1 (by omega)]
        refine ih (i + 1) hd2 ?_
        rw [he, List.all_cons, show letB c = true by simpa using h, Bool.true_and]
  exact loop s 0 rfl rfl
end TB
end Go.Ev
namespace Go.Ev
set_option linter.unusedVariables false
set_option linter.unusedSimpArgs false
open Go Go.Proofs
variable {η : Nat → Value} {B : Nat}
theorem bytesV_app (a b : List UInt8) : bytesV (a ++ b) = bytesV a ++ bytesV b := by unfold bytesV; rw [List.map_append]
theorem bytesV_snoc (d : List UInt8) (c : UInt8) : bytesV d ++ [.int .u8 (c.toNat : Int)] = bytesV (d ++ [c]) := by rw [bytesV_app]; rfl
theorem bytesV_get (l : List UInt8) (i : Nat) : (bytesV l)[i]? = l[i]?.map fun b => .int .u8 (b.toNat : Int) := by unfold bytesV; rw [List.getElem?_map]
theorem app_get (d : List UInt8) (c : UInt8) (r : List UInt8) : (d ++ c :: r)[d.length]? = some c := by
  rw [List.getElem?_append_right (Nat.le_refl _), Nat.sub_self]; rfl
theorem splice_at (d : List UInt8) (c c' : UInt8) (r : List UInt8) : splice (bytesV (d ++ c :: r)) d.length [.int .u8 (c'.toNat : Int)] = bytesV (d ++ c' :: r) := by
  unfold splice
  rw [bytesV_app, bytesV_app]
  have hl : d.length = (bytesV d).length := (bytesV_len d).symm
  have e1 : (bytesV d ++ bytesV (c :: r)).take d.length = bytesV d := by rw [hl]; exact List.take_left
  have e2 : (bytesV d ++ bytesV (c :: r)).drop (d.length + 1) = bytesV r := by
    rw [hl, List.drop_append, List.drop_eq_nil_of_le (by omega), show (bytesV d).length + 1 - (bytesV d).length = 1 by omega]
    rfl
  have e3 : ([Value.int .u8 (c'.toNat : Int)] : List Value).length = 1 := rfl
  rw [e3, e1, e2, List.append_assoc]; rfl
/-- What a buffer of written bytes gives as a string. -/
theorem buf_ok (d : List UInt8) (h : d.length ≤ 1000000) : (0 : Int) ≤ (d.length : Int) ∧ (d.length : Int) ≤ 1000000 ∧ 0 + ((d.length : Int)).toNat ≤ (bytesV d).length ∧ bytesOf (List.take ((d.length : Int)).toNat (bytesV d)) = Except.ok (bytesIn (bytesV d) 0 ((d.length : Int)).toNat) := by
  rw [Int.toNat_natCast, bytesIn_all, List.take_of_length_le (by rw [bytesV_len]; exact Nat.le_refl _), bytesOf_bytesV, bytesV_len]
  exact ⟨by omega, by omega, by omega, rfl⟩
theorem take1 {s : List UInt8} {i : Nat} {c : UInt8} {r : List UInt8} (h : s.drop i = c :: r) : List.take (((i + 1 : Nat) : Int).toNat - (i : Int).toNat) (List.drop (i : Int).toNat s) = [c] := by
  rw [Int.toNat_natCast, Int.toNat_natCast, h, show i + 1 - i = 1 by omega]; rfl
namespace TB
theorem low_hi {c : UInt8} (h1 : 65 ≤ c.toNat) (h2 : c.toNat ≤ 90) : IntKind.u8.wrap ((c.toNat : Int) + 32) = ((lowB c).toNat : Int) ∧ IntKind.u8.wrap (IntKind.u8.wrap ((c.toNat : Int) + 97) - 65) = ((lowB c).toNat : Int) := by
  have := forall_u8 (p := fun c => !(decide (65 ≤ c.toNat) && decide (c.toNat ≤ 90)) || (decide (IntKind.u8.wrap ((c.toNat : Int) + 32) = ((lowB c).toNat : Int)) && decide (IntKind.u8.wrap (IntKind.u8.wrap ((c.toNat : Int) + 97) - 65) = ((lowB c).toNat : Int)))) (by decide +kernel) c
  rw [decide_eq_true h1, decide_eq_true h2] at this
  simpa using this
theorem low_else {c : UInt8} (h : ¬ (65 ≤ c.toNat ∧ c.toNat ≤ 90)) : lowB c = c := by unfold lowB; rw [if_neg h]
theorem clone_ok (hη : OneCells η) (hmix : Tryz.prog.follows .mixedOrders = true) (s : List UInt8) (hs : s.length ≤ 1000000) (h : AH) :
    CallSpec η Tryz.prog B 41 [.string ⟨⟨s⟩⟩] h (cloneK [.string ⟨⟨s⟩⟩] h).sat := by
  refine CallSpec.bare (v := .string ⟨⟨s⟩⟩) hη gs9 (fun _ _ => str_args) (fun σ M => .string _) (fun σ M => .string _) ?_ h
  refine BClone.enter hη hmix (reg0 hη hmix) _ ?_
  have e1 : (s.length : Int).toNat = s.length := Int.toNat_natCast _
  have e2 : s.length.min s.length = s.length := Nat.min_self _
  have e3 : List.take s.length s = s := List.take_of_length_le (Nat.le_refl _)
  have e4 : splice (List.replicate s.length (Value.int IntKind.u8 (0 : Int))) 0 (bytesV s) = bytesV s := splice_all (by rw [List.length_replicate, bytesV_len])
  simp only [W.holds, true_and, e1, e2, e3, e4, Int.toNat_natCast, take_bytesV, bytesOf_bytesV, bytesIn_all, bytesV_len, bytesV_one, Nat.mul_one, Nat.zero_add, rep_one, List.length_replicate, beq_iff_eq, beq_eq_false_iff_ne]
  refine ⟨fun h => ?_, fun h => ⟨⟨by omega, by omega, by omega⟩, fun _ => ⟨⟨Nat.le_refl _, trivial⟩, fun _ => ⟨fun h0 => by omega, fun h0 => ⟨⟨by omega, by omega⟩, fun _ => ⟨⟨by omega, by omega, Nat.le_refl _, trivial⟩, fun _ => ⟨fun h1 => by omega, fun _ _ => trivial⟩⟩⟩⟩⟩⟩⟩
  have : s = [] := List.length_eq_zero_iff.1 (by omega)
  rw [this]
theorem fold_ok (hη : OneCells η) (hmix : Tryz.prog.follows .mixedOrders = true) (s : List UInt8) (hs : s.length ≤ 900000) (h : AH) :
    CallSpec η Tryz.prog B 18 [.string ⟨⟨s⟩⟩] h (foldK [.string ⟨⟨s⟩⟩] h).sat := by
  refine CallSpec.bare (v := .string ⟨⟨s.map lowB⟩⟩) hη gs9 (fun _ _ => str_args) (fun σ M => .string _) (fun σ M => .string _) ?_ h
  have cut := fun l0 i0 n0 => BFoldT.cut1 (η := η) (B := B) (D := fun v _ => v = .string ⟨⟨s.map lowB⟩⟩) hη hmix (reg0 hη hmix) s l0 i0 n0
  simp only [W.holds, true_and, decide_eq_true_eq, decide_eq_false_iff_not] at cut
  have loop : ∀ (r : List UInt8) (i : Nat) (d : List UInt8), s.drop i = r → d.length = i → 1 ≤ i → d ++ r.map lowB = s.map lowB → RunD η Tryz.prog B 18 (BFoldT.H0 s) [0, 3, 7, 8] (BFoldT.S1 s (bytesV d) (i : Int) d.length fun _ => undef) (QF Tryz.prog 9 fun v _ => v = .string ⟨⟨s.map lowB⟩⟩) := by
    intro r
    induction r with
    | nil =>
      intro i d hd hl hi he
      have := at_nil hd
      have hdl : d.length ≤ 900000 := by
        have := congrArg List.length he
        simp at this; omega
      refine cut _ _ _ ⟨fun h => by omega, fun _ => ⟨by omega, fun _ => ⟨buf_ok d (by omega), fun _ => ⟨fun h => ?_, fun _ _ => ?_⟩⟩⟩⟩
      · have : (d.length : Int) = 0 := by simpa using h
        omega
      · rw [Int.toNat_natCast, bytesIn_all, ← he]; simp
    | cons c r ih =>
      intro i d hd hl hi he
      obtain ⟨hi2, hb, hd2⟩ := at_cons hd
      have next : ∀ x : UInt8, x = lowB c → RunD η Tryz.prog B 18 (BFoldT.H0 s) [0, 3, 7, 8] (BFoldT.S1 s (bytesV d ++ [.int .u8 (x.toNat : Int)]) (IntKind.i64.wrap ((i : Int) + 1)) (d.length + 1) fun _ => undef) (QF Tryz.prog 9 fun v _ => v = .string ⟨⟨s.map lowB⟩⟩) := by
        rintro x rfl
        rw [bytesV_snoc, wrap1 (by omega)]
        have := ih (i + 1) (d ++ [lowB c]) hd2 (by simp; omega) (by omega) (by rw [← he]; simp)
        rw [List.length_append] at this
        exact this
      have app : 1 ≤ 1 ∧ (bytesV d).length = d.length * 1 ∧ d.length + 1 ≤ 1000000 ∧ True := ⟨by omega, by rw [bytesV_len, Nat.mul_one], by omega, trivial⟩
      have nn : ∀ x : Int, NoNames (bytesV d ++ [.int .u8 x]) := by
        intro x v hv
        rcases List.mem_append.1 hv with h | h
        · exact bytesV_plain d v h
        · rw [List.mem_singleton.1 h]; rfl
      refine cut _ _ _ ⟨fun _ => ⟨⟨by omega, by omega⟩, fun _ => ⟨fun h1 => ⟨fun h2 => ⟨app, fun _ => ⟨⟨nn _, trivial⟩, fun _ => ?_⟩⟩, fun h2 => ⟨app, fun _ => ⟨⟨nn _, trivial⟩, fun _ => ?_⟩⟩⟩, fun h1 => ⟨app, fun _ => ⟨⟨nn _, trivial⟩, fun _ => ?_⟩⟩⟩⟩, fun h => by omega⟩
      · rw [hb] at h1 h2 ⊢
        rw [(low_hi (c := c) (by omega) (by omega)).1]
        exact next _ rfl
      · rw [hb] at h1 h2 ⊢
        exact next c (low_else (by omega)).symm
      · rw [hb] at h1 ⊢
        exact next c (low_else (by omega)).symm
  refine BFoldT.enter hη hmix (reg0 hη hmix) _ ?_
  simp only [W.holds]
  refine BFoldT.cut0 hη hmix (reg0 hη hmix) _ ?_
  simp only [W.holds, true_and, and_true, decide_eq_true_eq, decide_eq_false_iff_not, implies_true, true_implies]
  match s, loop with
  | [], loop => exact ⟨fun h => absurd h (by decide), fun _ => rfl⟩
  | c :: r, loop =>
    have hb : byteAt (c :: r) 0 = (c.toNat : Int) := rfl
    have next : ∀ x : UInt8, x = lowB c → RunD η Tryz.prog B 18 (BFoldT.H0 (c :: r)) [0, 3, 7, 8] (BFoldT.S1 (c :: r) [.int .u8 (x.toNat : Int)] 1 1 fun _ => undef) (QF Tryz.prog 9 fun v _ => v = .string ⟨⟨(c :: r).map lowB⟩⟩) := by
      rintro x rfl
      exact loop r 1 [lowB c] rfl rfl (by omega) rfl
    refine ⟨fun _ => ⟨⟨by omega, by simp <;> omega⟩, fun _ => ⟨fun h1 => ⟨fun h2 => ?_, fun h2 => ?_⟩, fun h1 => ?_⟩⟩, fun h => absurd h (by simp <;> omega)⟩
    · rw [hb] at h1 h2 ⊢
      rw [(low_hi (c := c) (by omega) (by omega)).1]
      exact next _ rfl
    · rw [hb] at h1 h2 ⊢
      exact next c (low_else (by omega)).symm
    · rw [hb] at h1 ⊢
      exact next c (low_else (by omega)).symm
theorem rfold_ok (hη : OneCells η) (hmix : Tryz.prog.follows .mixedOrders = true) (s : List UInt8) (hs : s.length ≤ 900000) (h : AH) :
    CallSpec η Tryz.prog B 19 [.string ⟨⟨s⟩⟩] h (foldK [.string ⟨⟨s⟩⟩] h).sat := by
  refine CallSpec.bare (v := .string ⟨⟨s.map lowB⟩⟩) hη gs9 (fun _ _ => str_args) (fun σ M => .string _) (fun σ M => .string _) ?_ h
  have cut := fun i0 l0 => BRFold.cut0 (η := η) (B := B) (D := fun v _ => v = .string ⟨⟨s.map lowB⟩⟩) hη hmix (reg0 hη hmix) s i0 l0
  simp only [W.holds, true_and, decide_eq_true_eq, decide_eq_false_iff_not, Nat.zero_add, Nat.mul_one] at cut
  have loop : ∀ (r d : List UInt8), d.length + r.length = s.length → d ++ r.map lowB = s.map lowB → RunD η Tryz.prog B 19 (BRFold.H0 s) [3, 4] (BRFold.S0 s (d.length : Int) (bytesV (d ++ r)) fun _ => undef) (QF Tryz.prog 9 fun v _ => v = .string ⟨⟨s.map lowB⟩⟩) := by
    intro r
    induction r with
    | nil =>
      intro d hl he
      simp only [List.length_nil, Nat.add_zero] at hl
      rw [List.append_nil]
      refine cut _ _ ⟨fun h => by omega, fun _ => ⟨?_, fun _ _ => ?_⟩⟩
      · rw [← hl, List.take_of_length_le (by rw [bytesV_len]; exact Nat.le_refl _), bytesIn_all, bytesOf_bytesV, bytesV_len]
        exact ⟨Nat.le_refl _, rfl⟩
      · rw [← hl, bytesIn_all, ← he]; simp
    | cons c r ih =>
      intro d hl he
      simp only [List.length_cons] at hl
      have hI : (0 : Int) ≤ (d.length : Int) ∧ (d.length : Int) < (s.length : Int) := ⟨by omega, by omega⟩
      have hg : (bytesV (d ++ c :: r))[(d.length : Int).toNat]? = some (.int .u8 (c.toNat : Int)) := by
        rw [Int.toNat_natCast, bytesV_get, app_get]; rfl
      have ha : intAt (bytesV (d ++ c :: r)) (d.length : Int).toNat = (c.toNat : Int) := by unfold intAt; rw [hg]
      have next : ∀ x : UInt8, x = lowB c → RunD η Tryz.prog B 19 (BRFold.H0 s) [3, 4] (BRFold.S0 s (IntKind.i64.wrap ((d.length : Int) + 1)) (bytesV (d ++ x :: r)) fun _ => undef) (QF Tryz.prog 9 fun v _ => v = .string ⟨⟨s.map lowB⟩⟩) := by
        rintro x rfl
        rw [wrap1 (by omega)]
        have := ih (d ++ [lowB c]) (by simp; omega) (by rw [← he]; simp)
        rw [List.length_append, List.append_assoc] at this
        exact this
      have hb : some (Value.int .u8 (c.toNat : Int)) = some (Value.int .u8 (intAt (bytesV (d ++ c :: r)) (d.length : Int).toNat)) := by rw [ha]
      refine cut _ _ ⟨fun _ => ⟨hI, fun _ => ⟨hg.trans hb, fun _ => ⟨fun h1 => ⟨hI, fun _ => ⟨hg.trans hb, fun _ => ⟨fun h2 => ⟨hI, fun _ => ⟨hg.trans hb, fun _ => ⟨hI, fun _ => ⟨by rw [bytesV_len]; simp, fun _ => ?_⟩⟩⟩⟩, fun h2 => ?_⟩⟩⟩, fun h1 => ?_⟩⟩⟩, fun h => by omega⟩
      · rw [ha] at h1 h2 ⊢
        rw [(low_hi (c := c) (by omega) (by omega)).2, Int.toNat_natCast, splice_at]
        exact next _ rfl
      · rw [ha] at h1 h2
        exact next c (low_else (by omega)).symm
      · rw [ha] at h1
        exact next c (low_else (by omega)).symm
  refine BRFold.enter hη hmix (reg0 hη hmix) _ ?_
  simp only [W.holds]
  exact ⟨by omega, fun _ => loop s [] (by simp) rfl⟩
end TB
end Go.Ev
