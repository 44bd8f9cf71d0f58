/- readRun of the package reads a run: conditions: Amb, a bound on the length. -/
import Derived.Test.YtoknncoolmbklaaDoorLess
import Derived.Test.YtoknncoolmbklaaDoorPlain
import Derived.Test.YtoknncoolmbklaaDoorWriteField
namespace Go.Proofs.YtoknncoolmbklaaDoor
set_option linter.unusedVariables false
set_option linter.unusedSimpArgs false
open Go.RowKit Go.Sort

set_option maxRecDepth 100000 in
set_option maxHeartbeats 1000000 in
theorem wReadRun (s : ByteArray) (w : World) (ha : Amb w) (hs : s.size ≤ 10000) :
    Calls Tryd.prog 84 #[.string s] w fun e w' => e = .returned (.tuple #[.agg #[.string ⟨(runF s.data.toList).1.toArray⟩, .string ⟨(runF s.data.toList).2.1.toArray⟩], .bool (runF s.data.toList).2.2]) ∧ Below w.heap.size w w' := by
  obtain ⟨m, hm⟩ := (ha.below ((Below.refl _ w).alloc (Nat.le_refl _) (.cells #[.string ⟨#[]⟩, .string ⟨#[]⟩] 83))).maxLen
  have hlen := cut_len s.data.toList [45]
  rw [len_data] at hlen
  obtain ⟨f, t, b, hc⟩ : ∃ f t b, Lib.cut s.data.toList [45] = (f, t, b) := ⟨_, _, _, rfl⟩
  rw [hc] at hlen
  have HF : Hid (runF s.data.toList = if b = true then (f, t, natL f && natL t && lessL f t) else (s.data.toList, s.data.toList, natL s.data.toList)) := by unfold Hid runF; rw [hc]
  have cs : Calls Tryd.prog 82 #[.string s, .string ⟨#[45]⟩] (w.alloc (.cells #[.string ⟨#[]⟩, .string ⟨#[]⟩] 83)) fun e w' => e = .returned (.tuple #[.string ⟨f.toArray⟩, .string ⟨t.toArray⟩, .bool b]) ∧ ∃ n, w' = (w.alloc (.cells #[.string ⟨#[]⟩, .string ⟨#[]⟩] 83)).drewN n := by
    refine (Tryd.strings_Cut s ⟨#[45]⟩ m _ (by omega) hm).mono ?_
    rintro e W1 ⟨rfl, hn⟩
    have d : (⟨#[45]⟩ : ByteArray).data.toList = [45] := rfl
    rw [d, hc]
    exact ⟨rfl, hn⟩
  clear hm hc
  go_enter Tryd.func84, Tryd.ntmps84
  go_wp2_with fail
  refine cs.mono ?_
  rintro e W1 ⟨rfl, n, rfl⟩
  cases b with
  | false =>
    go_wp2_with (go_at_call 65; refine (wNatural _ _ (by omega)).mono ?_; rintro e w' ⟨rfl, rfl⟩)
    refine bodyPost_ret (v := .tuple #[.agg #[.string s, .string s], .bool (natL s.data.toList)]) (by simp [results, Tryd.results84, go_sem]) rfl ⟨by rw [HF.out]; simp, by go_grown; exact below_drewN ((Below.refl _ _).alloc (Nat.le_refl _) _) _⟩
  | true =>
    have cn : ∀ (l : List UInt8) (W : World), l.length ≤ 10000 → Calls Tryd.prog 65 #[.string ⟨l.toArray⟩] W fun e w' => e = .returned (.bool (natL l)) ∧ W = w' := fun l W hl => wNatural ⟨l.toArray⟩ W (by rw [sizeL]; omega)
    have cl : ∀ (W : World), Calls Tryd.prog 85 #[.string ⟨f.toArray⟩, .string ⟨t.toArray⟩] W fun e w' => e = .returned (.bool (lessL f t)) ∧ W = w' := fun W => wLess ⟨f.toArray⟩ ⟨t.toArray⟩ W
    have hf : f.length ≤ 10000 := by have := hlen.1; omega
    have ht : t.length ≤ 10000 := by have := hlen.2; omega
    have HT : Hid (runF s.data.toList = (f, t, natL f && natL t && lessL f t)) := HF.out
    have CF := Lib.hid fun W => cn f W hf
    have CT := Lib.hid fun W => cn t W ht
    have CL := Lib.hid cl
    clear hlen HF cn cl
    cases h1 : natL f with
    | false =>
      rw [h1] at CF HT
      go_wp2_with fail
      refine (CF.out _).mono ?_
      rintro e w' ⟨rfl, rfl⟩
      go_wp2_with fail
      refine bodyPost_ret (v := .tuple #[.agg #[.string ⟨f.toArray⟩, .string ⟨t.toArray⟩], .bool false]) (by simp [results, Tryd.results84, go_sem]) rfl ⟨by rw [HT.out]; rfl, by go_grown; exact below_drewN ((Below.refl _ _).alloc (Nat.le_refl _) _) _⟩
    | true =>
      rw [h1] at CF HT
      cases h2 : natL t with
      | false =>
        rw [h2] at CT HT
        go_wp2_with fail
        refine (CF.out _).mono ?_
        rintro e w' ⟨rfl, rfl⟩
        go_wp2_with fail
        refine (CT.out _).mono ?_
        rintro e w' ⟨rfl, rfl⟩
        go_wp2_with fail
        refine bodyPost_ret (v := .tuple #[.agg #[.string ⟨f.toArray⟩, .string ⟨t.toArray⟩], .bool false]) (by simp [results, Tryd.results84, go_sem]) rfl ⟨by rw [HT.out]; rfl, by go_grown; exact below_drewN ((Below.refl _ _).alloc (Nat.le_refl _) _) _⟩
      | true =>
        rw [h2] at CT HT
        go_wp2_with fail
        refine (CF.out _).mono ?_
        rintro e w' ⟨rfl, rfl⟩
        go_wp2_with fail
        refine (CT.out _).mono ?_
        rintro e w' ⟨rfl, rfl⟩
        go_wp2_with fail
        refine (CL.out _).mono ?_
        rintro e w' ⟨rfl, rfl⟩
        go_wp2_with fail
        refine bodyPost_ret (v := .tuple #[.agg #[.string ⟨f.toArray⟩, .string ⟨t.toArray⟩], .bool (lessL f t)]) (by simp [results, Tryd.results84, go_sem]) rfl ⟨by rw [HT.out]; rfl, by go_grown; exact below_drewN ((Below.refl _ _).alloc (Nat.le_refl _) _) _⟩
end Go.Proofs.YtoknncoolmbklaaDoor
