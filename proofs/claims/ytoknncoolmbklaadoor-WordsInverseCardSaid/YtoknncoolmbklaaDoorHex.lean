/- readHex of the package reads two hexadecimal digits; no conditions but the string's length. -/
import Derived.Test.YtoknncoolmbklaaDoorLetter
import Derived.WalkLawsBesides
namespace Go.Proofs.YtoknncoolmbklaaDoor
set_option linter.unusedVariables false
set_option linter.unusedSimpArgs false
open Go.RowKit Go.Sort

def hexDs : ByteArray := ⟨#[48, 49, 50, 51, 52, 53, 54, 55, 56, 57, 97, 98, 99, 100, 101, 102]⟩
theorem hexI_fin : ∀ c : Fin 256, Lib.indexByte hexDs.data.toList c.val.toUInt8 = hexI c.val := by decide +kernel
theorem wHexAt (c : UInt8) (w : World) :
    Calls Tryd.prog 115 #[.string hexDs, .int .u8 c.toNat] w fun e w' => e = .returned (.int .i64 (hexI c.toNat)) ∧ w = w' :=
  (Tryd.strings_IndexByte hexDs c.toNat w).mono fun e w' ⟨he, hw⟩ => ⟨by rw [he]; exact ret_int (hexI_fin ⟨c.toNat, c.toNat_lt⟩), hw.symm⟩
theorem or_fin : ∀ h l : Fin 16, bits BinOp.or .i64 ((h.val : Int) * 16) l.val % 256 = ((h.val * 16 + l.val : Nat) : Int) := by decide +kernel

theorem ret_u8i {a b c d : Int} (h : a = b) (h' : c = d) : Ending.returned (.tuple #[.int .u8 a, .int .i64 c]) = .returned (.tuple #[.int .u8 b, .int .i64 d]) := by rw [h, h']
theorem data4 (s : ByteArray) (h : 4 ≤ s.size) : ∃ r, s.data.toList = s[0] :: s[1] :: s[2] :: s[3] :: r := by
  have hl := len_data s
  match hd : s.data.toList with
  | a :: b :: c :: d :: r =>
    have g : ∀ j (hj : j < s.size), s.data.toList[j]'(by rw [hl]; exact hj) = s[j] := fun j hj => rfl
    refine ⟨r, ?_⟩
    rw [← g 0 (by omega), ← g 1 (by omega), ← g 2 (by omega), ← g 3 (by omega)]
    simp [hd]
  | [_, _, _] => rw [hd] at hl; simp at hl; omega
  | [_, _] => rw [hd] at hl; simp at hl; omega
  | [_] => rw [hd] at hl; simp at hl; omega
  | [] => rw [hd] at hl; simp at hl; omega
theorem rhexL_short (s : ByteArray) (h : s.size < 4) : rhexL s.data.toList = none := by
  have hl := len_data s
  match hd : s.data.toList with
  | a :: b :: c :: d :: r => rw [hd] at hl; simp at hl; omega
  | [_, _, _] => rfl
  | [_, _] => rfl
  | [_] => rfl
  | [] => rfl

set_option maxRecDepth 100000 in
theorem wReadHex (s : ByteArray) (w : World) (ha : Amb w) :
    Calls Tryd.prog 96 #[.string s] w fun e w' => e = .returned (.tuple #[.int .u8 (oV (rhexL s.data.toList)), .int .i64 (oN (rhexL s.data.toList))]) ∧ Below w.heap.size w w' := by
  by_cases h4 : 4 ≤ s.size
  · obtain ⟨r, hr⟩ := data4 s h4
    have HR := Lib.hid hr
    clear hr
    by_cases hb : hexI s[2].toNat < 0 ∨ hexI s[3].toNat < 0
    · have HB := Lib.hid hb
      go_enter Tryd.func96, Tryd.ntmps96
      go_wp2_with (first | (go_at_call 115; refine (wHexAt _ _).mono ?_; rintro e w' ⟨rfl, rfl⟩))
      all_goals go_ret2
      all_goals
        have hn : rhexL s.data.toList = none := by
          rw [HR.out]; simp only [rhexL]; rw [if_neg]; rintro ⟨a, b, _⟩; have := HB.out; omega
        rw [hn]
        exact ⟨ret_u8i rfl rfl, Below.refl _ _⟩
    · obtain ⟨h, hh⟩ : ∃ h : Nat, hexI s[2].toNat = h := ⟨(hexI s[2].toNat).toNat, by omega⟩
      obtain ⟨l, hl⟩ : ∃ l : Nat, hexI s[3].toNat = l := ⟨(hexI s[3].toNat).toNat, by omega⟩
      have b1 := hexI_lt s[2].toNat
      have b2 := hexI_lt s[3].toNat
      have h1 : h < 16 := by omega
      have h2 : l < 16 := by omega
      have hor := or_fin ⟨h, h1⟩ ⟨l, h2⟩
      simp only at hor
      have HH := Lib.hid hh
      have HL := Lib.hid hl
      obtain ⟨c, hc⟩ : ∃ c : Nat, h * 16 + l = c := ⟨_, rfl⟩
      have hspec : Hid (rhexL s.data.toList = if letB c = false ∧ plB c = false then some ((c : Int), 4) else none) := by
        unfold Hid
        rw [HR.out]
        simp only [rhexL]
        have e : hexI (s[2].toNat : Int) * (16 : Int) + hexI (s[3].toNat : Int) = (c : Int) := by rw [hh, hl]; omega
        rw [e]
        by_cases hx : letB (c : Int) = false ∧ plB (c : Int) = false
        · rw [if_pos hx, if_pos ⟨by omega, by omega, hx.1, hx.2⟩]
        · rw [if_neg hx, if_neg (fun ⟨_, _, a, b⟩ => hx ⟨a, b⟩)]
      rw [hc] at hor
      have hcb : (c : Int) < 256 := by omega
      clear hc b1 b2
      cases hlb : letB c with
      | true =>
        have hn : Hid (rhexL s.data.toList = none) := by unfold Hid; rw [hspec.out, if_neg (by rw [hlb]; simp)]
        clear hspec
        go_enter Tryd.func96, Tryd.ntmps96
        go_wp2_with (first | (go_at_call 115; refine (wHexAt _ _).mono ?_; rintro e w' ⟨rfl, rfl⟩) | (go_at_call 72; refine (wLetterOf _ _ ha).mono ?_; rintro e w' ⟨rfl, hbl⟩) | (go_at_call 71; refine (wPlain _ _).mono ?_; rintro e w' ⟨rfl, rfl⟩))
        go_ret2
        rw [hn.out]
        exact ⟨ret_u8i rfl rfl, hbl⟩
      | false =>
        cases hpb : plB c with
        | true =>
          have hn : Hid (rhexL s.data.toList = none) := by unfold Hid; rw [hspec.out, if_neg (by rw [hpb]; simp)]
          clear hspec
          go_enter Tryd.func96, Tryd.ntmps96
          go_wp2_with (first | (go_at_call 115; refine (wHexAt _ _).mono ?_; rintro e w' ⟨rfl, rfl⟩) | (go_at_call 72; refine (wLetterOf _ _ ha).mono ?_; rintro e w' ⟨rfl, hbl⟩) | (go_at_call 71; refine (wPlain _ _).mono ?_; rintro e w' ⟨rfl, rfl⟩))
          go_ret2
          rw [hn.out]
          exact ⟨ret_u8i rfl rfl, hbl⟩
        | false =>
          have hn : Hid (rhexL s.data.toList = some ((c : Int), 4)) := by unfold Hid; rw [hspec.out, if_pos ⟨hlb, hpb⟩]
          clear hspec
          go_enter Tryd.func96, Tryd.ntmps96
          go_wp2_with (first | (go_at_call 115; refine (wHexAt _ _).mono ?_; rintro e w' ⟨rfl, rfl⟩) | (go_at_call 72; refine (wLetterOf _ _ ha).mono ?_; rintro e w' ⟨rfl, hbl⟩) | (go_at_call 71; refine (wPlain _ _).mono ?_; rintro e w' ⟨rfl, rfl⟩))
          go_ret2
          rw [hn.out]
          exact ⟨ret_u8i rfl rfl, hbl⟩
  · have h4' : (s.size : Int) < 4 := by omega
    go_enter Tryd.func96, Tryd.ntmps96
    go_wp2_with fail
    go_ret2
    rw [rhexL_short s (by omega)]
    exact ⟨ret_u8i rfl rfl, Below.refl _ _⟩
end Go.Proofs.YtoknncoolmbklaaDoor
