/- The contract of the law's function of P1.4: on every slice of fields it returns true; under the ambient facts of Amb. -/
import Derived.Test.YtoknncoolmbklaaDoorShown
import Derived.Test.YtoknncoolmbklaaDoorRLine
namespace Go.Proofs.YtoknncoolmbklaaDoor
set_option linter.unusedVariables false
set_option linter.unusedSimpArgs false
open Go.RowKit Go.Sort
def SomeBool (w : World) (e : Ending) (w' : World) : Prop := ∃ b : Bool, e = .returned (.bool b) ∧ w = w'
theorem lFar (v : Value) (fs : List FL) (w : World) (hf : FieldsAt w v fs) :
    Calls Tryd.prog 26 #[v] w (SomeBool w) := by
  obtain ⟨p, c, rfl⟩ := hf.shape
  by_cases h70 : 70 < fs.length
  · have h70' : (70 : Int) < fs.length := by omega
    clear hf h70
    go_enter Tryd.func26, Tryd.ntmps26
    go_wp2_with fail
    go_ret
    exact ⟨true, rfl, rfl⟩
  · have h70' : (fs.length : Int) ≤ 70 := by omega
    have HF := Lib.hid hf
    clear hf h70
    go_enter Tryd.func26, Tryd.ntmps26
    go_wp2_with fail
    go_loop [3, 4] (fun m i => ∃ (k : Nat) (z : Int), k ≤ fs.length ∧ i = .int .i64 k ∧ m = .int .i64 z ∧ 0 ≤ z ∧ z ≤ 2100 * k) (fun _ i => fs.length - (intOf i).toNat)
    case atStart => exact ⟨0, 0, by omega, rfl, rfl, by omega, by omega⟩
    case round =>
      obtain ⟨k, z, hk, rfl, rfl, hz0, hz1⟩ := hrel
      by_cases hkl : k < fs.length
      · obtain ⟨b, o, rfl, hlt, hc0, hc1⟩ := HF.out.get k hkl
        have hkl' : (k : Int) < fs.length := by omega
        obtain ⟨n, hn⟩ : ∃ n, fs[k].1.length = n := ⟨_, rfl⟩
        by_cases h2 : 2100 < n
        · have h2' : (2100 : Int) < fs[k].1.length := by omega
          clear h2 hn
          go_wp2_with fail
          go_ret
          exact ⟨true, rfl, rfl⟩
        · have h2' : ¬ (2100 : Int) < fs[k].1.length := by omega
          have h3 : (fs[k].1.length : Int) ≤ 2100 := by omega
          clear h2 hn
          go_wp2_with fail
          go_round
          case rel => exact ⟨k + 1, z + fs[k].1.length, by omega, by go_num, rfl, by omega, by omega⟩
          case measure => simp [intOf]; omega
      · have hkl' : ¬ (k : Int) < fs.length := by omega
        go_wp2_with fail
        go_ret
        exact ⟨_, rfl, rfl⟩
theorem lJoins (v : Value) (fs : List FL) (w : World) (hf : FieldsAt w v fs) (ha : Amb w) :
    Calls Tryd.prog 6 #[v] w fun e w' => e = .returned (.bool true) ∧ Below w.heap.size w w' := by
  obtain ⟨p, c, rfl⟩ := hf.shape
  have HF := Lib.hid hf
  clear hf
  go_enter Tryd.func6, Tryd.ntmps6
  go_wp2_with fail
  refine (lFar _ fs _ HF.out).mono ?_
  rintro e W1 ⟨b, rfl, rfl⟩
  cases b with
  | true =>
    go_wp2_with fail
    refine (lShown _ ha).mono ?_
    rintro e W6 ⟨rfl, b6⟩
    go_wp2_with fail
    go_ret
    exact ⟨rfl, b6⟩
  | false =>
    go_wp2_with fail
    refine (wJoin _ fs _ ha HF.out).mono ?_
    rintro e W2 ⟨rfl, b2⟩
    go_wp2_with fail
    refine (rJoin _ fs _ (HF.out.below b2)).mono ?_
    rintro e W3 ⟨rfl, b3⟩
    have bw3 := b2.trans (b3.mono b2.size)
    clear b2 b3
    go_wp2_with fail
    refine (lShown _ (ha.below bw3)).mono ?_
    rintro e W6 ⟨rfl, b6⟩
    go_wp2_with fail
    go_ret
    exact ⟨rfl, bw3.trans (b6.mono bw3.size)⟩
end Go.Proofs.YtoknncoolmbklaaDoor
