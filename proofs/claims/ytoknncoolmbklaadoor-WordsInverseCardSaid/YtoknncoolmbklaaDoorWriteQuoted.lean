/- Unquote of the package returns what P1.2 says, and writeQuoted appends a byte's escaped form to a builder; conditions: Amb, bounds on lengths. -/
import Derived.Test.YtoknncoolmbklaaDoorReadQuoted
import Derived.Test.YtoknncoolmbklaaDoorMag
import Derived.WalkLawsBesides
namespace Go.Proofs.YtoknncoolmbklaaDoor
set_option linter.unusedVariables false
set_option linter.unusedSimpArgs false
open Go.RowKit Go.Sort

/-- P1.2: what Unquote returns. -/
def unqV (l : List UInt8) : List UInt8 := if rqN l = l.length then rqT l else []
def unqE (l : List UInt8) : Int := if rqN l = l.length ∧ l ≠ [] then 0 else 6
theorem unq_bad {l : List UInt8} (h : rqN l = 0 ∨ rqN l < l.length) : unqV l = [] ∧ unqE l = 6 := by
  unfold unqV unqE
  by_cases h1 : rqN l = l.length
  · have hl : l.length = 0 := by omega
    obtain rfl : l = [] := List.length_eq_zero_iff.1 hl
    exact ⟨rfl, rfl⟩
  · rw [if_neg h1, if_neg (fun h => h1 h.1)]; exact ⟨rfl, rfl⟩
theorem rqN_le (l : List UInt8) : rqN l ≤ l.length := by
  unfold rqN
  cases h : rqL l with
  | none => simp
  | some p =>
    obtain ⟨x, n⟩ := p
    obtain ⟨r, rfl, rfl⟩ := of_rqL h
    simp; omega
theorem unq_ok {l : List UInt8} (h0 : ¬ rqN l = 0) (h : (l.length : Int) ≤ rqN l) : unqV l = rqT l ∧ unqE l = 0 := by
  have h1 := rqN_le l
  have h2 : rqN l = l.length := by omega
  unfold unqV unqE
  rw [if_pos h2, if_pos ⟨h2, fun h => by subst h; exact h0 rfl⟩]; exact ⟨rfl, rfl⟩
theorem wUnquote (s : ByteArray) (w : World) (ha : Amb w) (hs : s.size ≤ 140737488355000) :
    Calls Tryd.prog 19 #[.string s] w fun e w' => e = .returned (.tuple #[.string ⟨(unqV s.data.toList).toArray⟩, .int .i64 (unqE s.data.toList)]) ∧ Below w.heap.size w w' := by
  have hl := len_data s
  have HL := Lib.hid hl
  clear hl
  go_enter Tryd.func19, Tryd.ntmps19
  go_wp2_with (go_at_call 43; refine (wReadQuoted _ _ ha hs).mono ?_; rintro e W1 ⟨rfl, b1⟩)
  all_goals go_ret2
  all_goals first
    | (have hx := unq_bad (l := s.data.toList) (by have := HL.out; first | omega | (simp only [beq_iff_eq] at *; omega))
       exact ⟨ret_stri (by rw [hx.1]) hx.2.symm, b1⟩)
    | (have hx := unq_ok (l := s.data.toList) (by assumption) (by have := HL.out; omega)
       exact ⟨ret_stri (by rw [hx.1]) hx.2.symm, b1⟩)

theorem and_fin : ∀ c : Fin 256, bits BinOp.and .u8 (c.val : Int) 15 = ((c.val % 16 : Nat) : Int) := by decide +kernel
theorem hexAt (n : Nat) (h : n < 16) : (⟨#[48, 49, 50, 51, 52, 53, 54, 55, 56, 57, 97, 98, 99, 100, 101, 102]⟩ : ByteArray)[n]'h = hexD n := by
  have : ∀ n : Fin 16, (⟨#[48, 49, 50, 51, 52, 53, 54, 55, 56, 57, 97, 98, 99, 100, 101, 102]⟩ : ByteArray)[n.val]'n.isLt = hexD n.val := by decide +kernel
  exact this ⟨n, h⟩

/-- A builder that is written on. -/
def Writes (B b : Nat) (acc add : List UInt8) (w : World) (e : Ending) (w' : World) : Prop :=
  e = .returned (.tuple #[]) ∧ Lib.IsBuilderF 61 5 B b (Lib.byteCells (acc ++ add)) w' ∧ Below B w w'

theorem bytes_snoc (acc : List UInt8) (x : UInt8) : Lib.byteCells acc ++ [Value.int .u8 x.toNat] = Lib.byteCells (acc ++ [x]) := by
  rw [Lib.byteCells_append]; rfl

set_option maxRecDepth 100000 in
theorem wWriteQuoted (B b : Nat) (acc : List UInt8) (c : UInt8) (w : World) (ha : Amb w) (hB : 9 ≤ B) (hBw : B ≤ w.heap.size) (hI : Lib.IsBuilderF 61 5 B b (Lib.byteCells acc) w) (hlen : acc.length + 4 ≤ 140737488355328) :
    Calls Tryd.prog 46 #[.pointer (some ⟨b, 0, none⟩), .int .u8 c.toNat] w (Writes B b acc (esc c) w) := by
  have hc256 : (c.toNat : Int) < 256 := by have := c.toNat_lt; omega
  cases hp : plB c.toNat with
  | true =>
    have HE : Hid (esc c = [c]) := by unfold Hid esc; rw [if_pos hp]
    go_enter Tryd.func46, Tryd.ntmps46
    go_wp2_with (first | (go_at_call 71; refine (wPlain _ _).mono ?_; rintro e w' ⟨rfl, rfl⟩))
    refine (Tryd.bWriteByte B b _ _ _ hI (by rw [Lib.byteCells_length]; omega) (by omega)).mono ?_
    rintro e W2 ⟨rfl, h2, b2, _⟩
    go_wp2_with fail
    refine bodyPost_ret (results_none rfl _ _ _) rfl ?_
    refine ⟨rfl, ?_, b2⟩
    rw [HE.out, ← bytes_snoc]; exact .inr h2
  | false =>
    cases hl : letB c.toNat with
    | true =>
      have hr : 0 ≤ letV c.toNat ∧ letV c.toNat < 256 := by
        unfold letV; (repeat' split) <;> omega
      have HE : Hid (esc c = [92, UInt8.ofNat (letV c.toNat).toNat]) := by unfold Hid esc; rw [if_neg (by simp [hp]), if_pos hl]
      obtain ⟨v, hv⟩ : ∃ v : UInt8, letV c.toNat = v.toNat := ⟨UInt8.ofNat (letV c.toNat).toNat, by rw [UInt8.toNat_ofNat', Nat.mod_eq_of_lt (by omega)]; omega⟩
      have HV : Hid (UInt8.ofNat (letV c.toNat).toNat = v) := by unfold Hid; rw [hv]; simp
      clear hr
      go_enter Tryd.func46, Tryd.ntmps46
      go_wp2_with (first | (go_at_call 71; refine (wPlain _ _).mono ?_; rintro e w' ⟨rfl, rfl⟩))
      refine (Tryd.bWriteByte B b _ _ _ hI (by rw [Lib.byteCells_length]; omega) (by omega)).mono ?_
      rintro e W2 ⟨rfl, h2, b2, _⟩
      go_wp2_with (first | (go_at_call 72; refine (wLetterOf _ _ (ha.belowB b2 hB)).mono ?_; rintro e w' ⟨rfl, b3⟩))
      refine (Tryd.bWriteByte B b _ _ _ (isBuilderF_below (.inr h2) b3) (by simp [Lib.byteCells_length]; omega) (by have := b2.size; have := b3.size; omega)).mono ?_
      rintro e W4 ⟨rfl, h4, b4, _⟩
      go_wp2_with fail
      refine bodyPost_ret (results_none rfl _ _ _) rfl ?_
      refine ⟨rfl, ?_, b2.trans ((b3.mono (by have := b2.size; omega)).trans b4)⟩
      rw [HE.out, HV.out]
      have : Lib.byteCells (acc ++ [92, v]) = Lib.byteCells acc ++ [Value.int .u8 92] ++ [Value.int .u8 v.toNat] := by simp [Lib.byteCells]
      rw [this]; exact .inr h4
    | false =>
      have HE : Hid (esc c = [92, 120, hexD (c.toNat / 16), hexD (c.toNat % 16)]) := by unfold Hid esc; rw [if_neg (by simp [hp]), if_neg (by simp [hl])]
      have hand := and_fin ⟨c.toNat, c.toNat_lt⟩
      simp only at hand
      have hm16 : c.toNat % 16 < 16 := by omega
      obtain ⟨m, hm⟩ : ∃ m, c.toNat % 16 = m := ⟨_, rfl⟩
      rw [hm] at hand hm16
      have HM := Lib.hid hm
      clear hm
      go_enter Tryd.func46, Tryd.ntmps46
      go_wp2_with (first | (go_at_call 71; refine (wPlain _ _).mono ?_; rintro e w' ⟨rfl, rfl⟩))
      refine (Tryd.bWriteByte B b _ _ _ hI (by rw [Lib.byteCells_length]; omega) (by omega)).mono ?_
      rintro e W2 ⟨rfl, h2, b2, _⟩
      go_wp2_with (first | (go_at_call 72; refine (wLetterOf _ _ (ha.belowB b2 hB)).mono ?_; rintro e w' ⟨rfl, b3⟩))
      have z3 : B ≤ w'.heap.size := by have := b2.size; have := b3.size; omega
      refine (Tryd.bWriteByte B b _ _ _ (isBuilderF_below (.inr h2) b3) (by simp [Lib.byteCells_length]; omega) z3).mono ?_
      rintro e W4 ⟨rfl, h4, b4, _⟩
      have z4 : B ≤ W4.heap.size := by have := b4.size; omega
      go_wp2_with fail
      refine (Tryd.bWriteByte B b _ _ _ (.inr h4) (by simp [Lib.byteCells_length]; omega) z4).mono ?_
      rintro e W5 ⟨rfl, h5, b5, _⟩
      have z5 : B ≤ W5.heap.size := by have := b5.size; omega
      go_wp2_with fail
      refine (Tryd.bWriteByte B b _ _ _ (.inr h5) (by simp [Lib.byteCells_length]; omega) z5).mono ?_
      rintro e W6 ⟨rfl, h6, b6, _⟩
      go_wp2_with fail
      go_end0
      refine ⟨rfl, ?_, b2.trans ((b3.mono (by have := b2.size; omega)).trans (b4.trans (b5.trans b6)))⟩
      rw [HE.out, HM.out]
      have : Lib.byteCells (acc ++ [92, 120, hexD (c.toNat / 16), hexD m]) = Lib.byteCells acc ++ [Value.int .u8 92] ++ [Value.int .u8 120] ++ [Value.int .u8 (hexD (c.toNat / 16)).toNat] ++ [Value.int .u8 (hexD m).toNat] := by simp [Lib.byteCells]
      rw [this, ← hexAt (c.toNat / 16) (by omega), ← hexAt m hm16]; exact .inr h6
end Go.Proofs.YtoknncoolmbklaaDoor
