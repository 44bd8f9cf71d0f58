/- HStrC, part 6: what the proof needs, in the order of its texts. -/
import Derived.Test.YtklnjollalaehaaGreatDoorHStrC5
namespace Go.Ev
set_option linter.unusedVariables false
set_option linter.unusedSimpArgs false
open Go Go.Proofs
variable {η : Nat → Value} {P : Program} {B : Bd}
namespace TB
theorem gs9 : Tryz.prog.globals.size < 126 := of_decide_eq_true (by kernel_rfl)
def isInt (n : Int) : Value → Bool
  | .int .i64 m => decide (m = n)
  | _ => false
theorem isInt_eq {n : Int} {v : Value} (h : isInt n v = true) : v = .int .i64 n := by
  unfold isInt at h
  split at h
  · rw [of_decide_eq_true h]
  · cases h
theorem kind_any (hη : OneCells η) (hmix : Tryz.prog.follows .mixedOrders = true) {n : Int} (h0 : 0 ≤ n) (h1 : n ≤ 255) (h : AH) :
    CallSpec η Tryz.prog B 183 [.int .u8 n] h (KT.ret (.int .i64 (kdN n.toNat)) h).sat := by
  obtain ⟨c, rfl, hc⟩ := u8_of h0 h1
  refine CallSpec.bare hη gs9 (fun σ M => .cons (.int _ _) .nil) (fun σ M => .int _ _) (fun σ M => .int _ _) ?_ h
  refine (BKind.enter hη hmix (reg0 hη hmix) (D := fun v _ => isInt (kdN (c.toNat : Int).toNat) v = true) c (W.pureB_ok ?_)).mono fun v _ hv => isInt_eq hv
  clear h0 h1 hc
  revert c
  exact forall_u8 (by decide +kernel)
end TB
end Go.Ev
namespace Go.Ev
set_option linter.unusedVariables false
set_option linter.unusedSimpArgs false
open Go Go.Proofs
variable {η : Nat → Value} {B : Bd}
theorem at_cons {s : List UInt8} {i : Nat} {c : UInt8} {r : List UInt8} (h : s.drop i = c :: r) : i < s.length ∧ byteAt s (i : Int) = (c.toNat : Int) ∧ s.drop (i + 1) = r := by
  have hi : i < s.length := by
    rcases Nat.lt_or_ge i s.length with h' | h'
    · exact h'
    · rw [List.drop_eq_nil_of_le h'] at h; cases h
  have e : s.drop i = s[i] :: s.drop (i + 1) := List.drop_eq_getElem_cons hi
  rw [h] at e
  injection e with e1 e2
  refine ⟨hi, ?_, e2.symm⟩
  rw [byteAt_get hi, e1]
theorem at_nil {s : List UInt8} {i : Nat} (h : s.drop i = []) : s.length ≤ i := List.drop_eq_nil_iff.1 h
theorem wrap1 {i : Nat} (h : i ≤ 1000000000) : IntKind.i64.wrap ((i : Int) + 1) = ((i + 1 : Nat) : Int) := by
  rw [IntWalk.i64_in _ ⟨by omega, by omega⟩]; rfl
theorem str_args {σ : Nat → Nat} {M : Nat} {s : ByteArray} : L2 (RV σ M true) [.string s] [.string s] := .cons (.string _) .nil
namespace TB
theorem kd1 (c : UInt8) : (kdN c.toNat == 1) = letB c := eq_of_beq (forall_u8 (p := fun c => (kdN c.toNat == 1) == letB c) (by decide +kernel) c)
theorem tokN_all : ∀ s : List UInt8, tokN s = s.length ↔ s.all letB = true
  | [] => by simp [tokN]
  | c :: r => by
    have := tokN_all r
    unfold tokN
    cases h : letB c <;> simp [h, this]
theorem tokN_ok (hη : OneCells η) (hmix : Tryz.prog.follows .mixedOrders = true) (s : List UInt8) (hs : s.length ≤ 1000000) (h : AH) :
    CallSpec η Tryz.prog B 133 [.string ⟨⟨s⟩⟩] h (tokNK [.string ⟨⟨s⟩⟩] h).sat := by
  refine CallSpec.bare (v := .int .i64 (tokN s : Int)) hη gs9 (fun _ _ => str_args) (fun σ M => .int _ _) (fun σ M => .int _ _) ?_ h
  have cut := fun i0 => BTokN.cut0 (η := η) (B := B) (D := fun v _ => v = .int .i64 (tokN s : Int)) hη hmix (reg0 hη hmix) s i0
  simp only [W.holds, true_and, decide_eq_true_eq, decide_eq_false_iff_not] at cut
  have loop : ∀ (r : List UInt8) (i : Nat), s.drop i = r → i + tokN r = tokN s → RunD η Tryz.prog B 133 (BTokN.H0 s) [0, 3] (BTokN.S0 s (i : Int) fun _ => undef) (QF Tryz.prog 126 fun v _ => v = .int .i64 (tokN s : Int)) := by
    intro r
    induction r with
    | nil =>
      intro i hd he
      have := at_nil hd
      refine cut _ ⟨fun h => by omega, fun _ => ?_⟩
      rw [← he]; rfl
    | cons c r ih =>
      intro i hd he
      obtain ⟨hi, hb, hd2⟩ := at_cons hd
      refine cut _ ⟨fun _ => ⟨⟨by omega, by omega⟩, fun _ => ⟨kind_any hη hmix (byteAt_range _ _).1 (byteAt_range _ _).2 _, fun h => ?_, fun h => ?_⟩⟩, fun h => by omega⟩
      · rw [hb, Int.toNat_natCast, kd1] at h
        rw [wrap1 (by omega)]
        refine ih (i + 1) hd2 ?_
        rw [← he, tokN, if_pos h]; omega
      · rw [hb, Int.toNat_natCast, kd1] at h
        rw [← he, tokN, h]; rfl
  refine BTokN.enter hη hmix (reg0 hη hmix) _ ?_
  simp only [W.holds]
  exact loop s 0 rfl (by omega)
theorem nil_beq (s : List UInt8) : (s == []) = decide (s = []) := by cases s <;> rfl
theorem toL0 : (#[] : Array UInt8).toList = [] := rfl
theorem tok_ok (hη : OneCells η) (hmix : Tryz.prog.follows .mixedOrders = true) (s : List UInt8) (hs : s.length ≤ 1000000) (h : AH) :
    CallSpec η Tryz.prog B 92 [.string ⟨⟨s⟩⟩] h (tokK [.string ⟨⟨s⟩⟩] h).sat := by
  refine CallSpec.bare (v := .bool (tokB s)) hη gs9 (fun _ _ => str_args) (fun σ M => .bool _) (fun σ M => .bool _) ?_ h
  refine BTok.enter hη hmix (reg0 hη hmix) _ ?_
  simp only [W.holds, true_and, toL0, nil_beq, Bool.not_eq_true', Bool.not_eq_false', decide_eq_true_eq, decide_eq_false_iff_not]
  refine ⟨fun h0 => ⟨fun h1 => ⟨tokN_ok hη hmix s hs _, ?_⟩, fun h1 => ?_⟩, fun h0 => ?_⟩
  · have hp : 1 ≤ s.length := by cases s with | nil => exact absurd rfl h0 | cons => simp
    have e : ((tokN s : Int) == (s.length : Int)) = s.all letB := by
      have := tokN_all s
      cases ha : s.all letB with
      | true => rw [ha] at this; rw [this.2 rfl]; simp
      | false =>
        rw [ha] at this
        have hne : tokN s ≠ s.length := fun e => by cases this.1 e
        simp; omega
    rw [e]; unfold tokB
    rw [decide_eq_true (by omega), Bool.true_and]
  · unfold tokB; rw [decide_eq_false (by omega)]; rfl
  · subst h0; rfl
end TB
end Go.Ev
namespace Go.Ev
set_option linter.unusedVariables false
set_option linter.unusedSimpArgs false
open Go Go.Proofs
variable {η : Nat → Value} {B : Bd}
theorem bytesV_app (a b : List UInt8) : bytesV (a ++ b) = bytesV a ++ bytesV b := by unfold bytesV; rw [List.map_append]
namespace TB
theorem clone_ok (hη : OneCells η) (hmix : Tryz.prog.follows .mixedOrders = true) (s : List UInt8) (hs : s.length ≤ 1000000) (h : AH) :
    CallSpec η Tryz.prog B 70 [.string ⟨⟨s⟩⟩] h (cloneK [.string ⟨⟨s⟩⟩] h).sat := by
  refine CallSpec.bare (v := .string ⟨⟨s⟩⟩) hη gs9 (fun _ _ => str_args) (fun σ M => .string _) (fun σ M => .string _) ?_ h
  refine BClone.enter hη hmix (reg0 hη hmix) _ ?_
  have e1 : (s.length : Int).toNat = s.length := Int.toNat_natCast _
  have e2 : s.length.min s.length = s.length := Nat.min_self _
  have e3 : List.take s.length s = s := List.take_of_length_le (Nat.le_refl _)
  have e4 : splice (List.replicate s.length (Value.int IntKind.u8 (0 : Int))) 0 (bytesV s) = bytesV s := splice_all (by rw [List.length_replicate, bytesV_len])
  simp only [W.holds, true_and, e1, e2, e3, e4, Int.toNat_natCast, take_bytesV, bytesOf_bytesV, bytesIn_all, bytesV_len, bytesV_one, Nat.mul_one, Nat.zero_add, rep_one, List.length_replicate, beq_iff_eq, beq_eq_false_iff_ne]
  refine ⟨fun h => ?_, fun h => ⟨⟨by omega, by omega, by omega⟩, fun _ => ⟨⟨Nat.le_refl _, trivial⟩, fun _ => ⟨fun h0 => by omega, fun h0 => ⟨⟨by omega, by omega⟩, fun _ => ⟨⟨by omega, by omega, Nat.le_refl _, trivial⟩, fun _ => ⟨fun h1 => by omega, fun _ _ => trivial⟩⟩⟩⟩⟩⟩⟩
  have : s = [] := List.length_eq_zero_iff.1 (by omega)
  rw [this]
end TB
end Go.Ev

namespace Go.Ev
set_option linter.unusedVariables false
set_option linter.unusedSimpArgs false
open Go Go.Proofs
variable {η : Nat → Value} {B : Bd}
theorem RV.tup2 {σ : Nat → Nat} {N : Nat} {w : Bool} {a b : Value} (ha : RV σ N w a a) (hb : RV σ N w b b) : RV σ N w (.tuple ⟨[a, b]⟩) (.tuple ⟨[a, b]⟩) := .tuple rfl fun i v x hv hx => by
  match i, hv, hx with
  | 0, hv, hx => cases hv; cases hx; exact ha
  | 1, hv, hx => cases hv; cases hx; exact hb
namespace TB
end TB
end Go.Ev
namespace Go.Ev
set_option linter.unusedVariables false
set_option linter.unusedSimpArgs false
open Go Go.Proofs
variable {η : Nat → Value} {B : Bd}
namespace TB
/-- What a scan has found when d stands for i bytes. -/
def after (i : Nat) (d : List UInt8) (x : Option (Nat × List UInt8)) : Option (Nat × List UInt8) := x.map fun x => (x.1 + i, d ++ x.2)
end TB
end Go.Ev
namespace Go.Ev
set_option linter.unusedVariables false
set_option linter.unusedSimpArgs false
open Go Go.Proofs
variable {η : Nat → Value} {B : Bd}
namespace TB
end TB
end Go.Ev

