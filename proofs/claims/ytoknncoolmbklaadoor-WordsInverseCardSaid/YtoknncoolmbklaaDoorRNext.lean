/- next of the reference returns the next decimal form; conditions: the string consists of digits, one at least, and a bound on its length. -/
import Derived.Test.YtoknncoolmbklaaDoorPlain
import Derived.Test.YtoknncoolmbklaaDoorWriteField
import Derived.Test.YtoknncoolmbklaaDoorBuf
import Derived.Deep.RegionWith
import Derived.WalkSpells
namespace Go.Proofs.YtoknncoolmbklaaDoor
set_option linter.unusedVariables false
set_option linter.unusedSimpArgs false
open Go.RowKit Go.Sort

theorem mk_app3 (a b : List UInt8) : (⟨a.toArray⟩ : ByteArray) ++ ⟨b.toArray⟩ = ⟨(a ++ b).toArray⟩ := mk_append a b
theorem u8_succ (c : UInt8) (h : c.toNat ≤ 57) : IntKind.u8.wrap ((c.toNat : Int) + 1) = ((c + 1).toNat : Int) := by
  rw [IntWalk.u8_in _ (by omega), UInt8.toNat_add]
  have : (1 : UInt8).toNat = 1 := rfl
  rw [this]; omega
theorem u8_mod (c : UInt8) (_h : c.toNat ≤ 57) : ((c.toNat : Int) + 1) % 256 = ((c + 1).toNat : Int) := by
  rw [UInt8.toNat_add]
  have : (1 : UInt8).toNat = 1 := rfl
  rw [this]; omega
set_option maxRecDepth 100000 in
set_option maxHeartbeats 1000000 in
theorem rNextS (s : ByteArray) (w : World) (hd : ∀ c ∈ s.data.toList, 48 ≤ c.toNat ∧ c.toNat ≤ 57) (h0 : 0 < s.size) (hs : s.size ≤ 1000000) :
    Calls Tryd.prog 64 #[.string s] w fun e w' => e = .returned (.string ⟨(nextL s.data.toList).toArray⟩) ∧ Below w.heap.size w w' := by
  have HD := Lib.hid hd
  clear hd
  have hS := nines_start s.data.toList
  rw [len_data] at hS
  have HN := Lib.hid hS
  clear hS
  obtain ⟨n, hn⟩ : ∃ n, s.size = n + 1 := ⟨s.size - 1, by omega⟩
  have HLN := Lib.hid hn
  have h0' : 1 ≤ (s.size : Int) := by omega
  clear hn
  have k1 := convB
  go_enter Tryd.func64, Tryd.ntmps64
  go_wp2_with fail
  go_loop [3] (fun i => (i = .int .i64 (-1) ∧ Hid (Nines s.data.toList 0)) ∨ ∃ j : Nat, j < s.size ∧ i = .int .i64 j ∧ Hid (Nines s.data.toList (j + 1))) (fun i => (intOf i + 1).toNat)
  case atStart =>
    right
    have hn := HLN.out
    have h := HN.out
    rw [hn] at h
    refine ⟨n, by omega, ?_, h⟩
    rw [hn]; go_num
  case round =>
    rcases hrel with ⟨rfl, HZ⟩ | ⟨j, hj, rfl, HZ⟩
    · go_wp2_with fail
      go_loop [4, 5] (fun o k => ∃ (m : Nat) (z : List UInt8), m ≤ s.size ∧ k = .int .i64 m ∧ o = .string ⟨z.toArray⟩ ∧ z.length = m ∧ Hid (z = List.replicate m 48)) (fun _ k => s.size - (intOf k).toNat)
      case atStart => exact ⟨0, [], by omega, rfl, rfl, rfl, rfl⟩
      case round =>
        obtain ⟨m, z, hm, rfl, rfl, hzl, HR⟩ := hrel
        by_cases hml : m < s.size
        · have hzl' : z.length + 1 ≤ 1000000 := by omega
          go_wp2_with fail
          go_round
          case rel =>
            refine ⟨m + 1, z ++ [48], by omega, by go_num, ?_, by simp; omega, by unfold Hid; rw [HR.out, ← List.replicate_succ']⟩
            have e : (⟨#[48]⟩ : ByteArray) = ⟨[48].toArray⟩ := rfl
            rw [e, mk_app3]
          case measure => simp [intOf]; omega
        · obtain rfl : m = s.size := by omega
          have HE := Lib.hid (nines_all HZ.out)
          have hzl' : z.length ≤ 1000000 := by omega
          go_wp2_with fail
          go_ret
          refine ⟨ret_str ?_, Below.refl _ _⟩
          rw [HE.out]
          have e : (⟨#[49]⟩ : ByteArray) = ⟨[49].toArray⟩ := rfl
          rw [e, mk_app3, HR.out, len_data]; rfl
    · by_cases h9 : s[j].toNat = 57
      · have h9' : ((s[j].toNat : Int) == 57) = true := by rw [h9]; rfl
        have HZ2 := Lib.hid (nines_step HZ.out (UInt8.toNat_inj.1 h9))
        clear h9
        go_wp2_with fail
        refine ⟨?_, by simp [intOf]⟩
        cases j with
        | zero => exact .inl ⟨rfl, HZ2⟩
        | succ j => exact .inr ⟨j, by omega, by go_num, HZ2⟩
      · have h9' : ((s[j].toNat : Int) == 57) = false := by
          rw [beq_eq_false_iff_ne]; omega
        have HE := Lib.hid (nines_end HZ.out (fun h => h9 (by
          have : s[j] = 57 := h
          rw [this]; rfl)))
        have hjI : (j : Int) < s.size := by omega
        have h57 : s[j].toNat ≤ 57 := (HD.out _ (mem_data.2 ⟨j, hj, rfl⟩)).2
        have hu8 := u8_mod s[j] h57
        have HX : Hid (s.extract 0 j = ⟨(s.data.toList.take j).toArray⟩) := by
          unfold Hid; rw [show s.data.toList.take j = (s.extract 0 j).data.toList by rw [Lib.extract_data]; simp]
        clear h9
        go_wp2_with fail
        go_loop [4, 5] (fun o k => ∃ (m : Nat) (z : List UInt8), j + 1 ≤ m ∧ m ≤ s.size ∧ k = .int .i64 m ∧ o = .string ⟨z.toArray⟩ ∧ z.length + (j + 1) = m ∧ Hid (z = List.replicate (m - (j + 1)) 48)) (fun _ k => s.size - (intOf k).toNat)
        case atStart => exact ⟨j + 1, [], by omega, by omega, by go_num, rfl, by simp, by unfold Hid; simp⟩
        case round =>
          obtain ⟨m, z, hjm, hm, rfl, rfl, hzl, HR⟩ := hrel
          by_cases hml : m < s.size
          · have hzl' : z.length + 1 ≤ 1000000 := by omega
            go_wp2_with fail
            go_round
            case rel =>
              refine ⟨m + 1, z ++ [48], by omega, by omega, by go_num, ?_, by simp; omega, by unfold Hid; rw [HR.out, ← List.replicate_succ', show m + 1 - (j + 1) = m - (j + 1) + 1 by omega]⟩
              have e : (⟨#[48]⟩ : ByteArray) = ⟨[48].toArray⟩ := rfl
              rw [e, mk_app3]
            case measure => simp [intOf]; omega
          · obtain rfl : m = s.size := by omega
            have hzl' : z.length ≤ 1000000 := by omega
            have hj1 : j ≤ 1000000 := by omega
            go_wp2_with fail
            go_region_with (fail)
            all_goals
              go_wp2_with fail
              go_ret
              refine ⟨ret_str (a := s.extract 0 j ++ (⟨#[s[j] + 1]⟩ : ByteArray) ++ (⟨z.toArray⟩ : ByteArray)) (b := ⟨(nextL s.data.toList).toArray⟩) ?_, by go_grown⟩
              rw [HX.out, show (⟨#[s[j] + 1]⟩ : ByteArray) = ⟨[s[j] + 1].toArray⟩ from rfl, mk_app3, mk_app3, HE.out, HR.out]; simp; try rfl
theorem rNext (l : List UInt8) (w : World) (hd : natL l = true) (hs : l.length ≤ 1000000) :
    Calls Tryd.prog 64 #[.string ⟨l.toArray⟩] w fun e w' => e = .returned (.string ⟨(nextL l).toArray⟩) ∧ Below w.heap.size w w' :=
  rNextS ⟨l.toArray⟩ w (natL_digits hd) (by rw [sizeL]; exact List.length_pos_iff.2 (natL_iff.1 hd).1) (by rw [sizeL]; exact hs)
end Go.Proofs.YtoknncoolmbklaaDoor
