/- Digits of the package returns the decimal text of every int64, and Digits of the reference that of a digit; conditions: the ambient facts of Amb for the package. -/
import Derived.Test.YtoknncoolmbklaaDoorAmb
import Derived.Test.YtoknncoolmbklaaDoorDec
import Derived.Laws.BytesArg
import Derived.Deep.RegionWith
namespace Go.Proofs.YtoknncoolmbklaaDoor
set_option linter.unusedVariables false
set_option linter.unusedSimpArgs false
open Go.RowKit Go.Sort

theorem wDigits (n : Int) (h0 : -9223372036854775808 ≤ n) (h1 : n ≤ 9223372036854775807) (w : World) (ha : Amb w) :
    Calls Tryd.prog 17 #[.int .i64 n] w fun e w' => e = .returned (.string ⟨(Lib.itoa n).toArray⟩) ∧ Below w.heap.size w w' := by
  have hp := ha.pow
  go_enter Tryd.func17, Tryd.ntmps17
  go_wp2_with (go_at_call 42; refine (Tryd.strconv_FormatInt_10 n h0 h1 _ hp).mono ?_; rintro e w' ⟨rfl, k, os, rfl⟩)
  go_ret
  exact ⟨rfl, below_grow (below_drewN (Below.refl _ _) k) (Nat.le_refl _) os⟩

theorem conv1 (c : Int) (W : World) : (convert 38 9 (.slice (some ⟨W.heap.size, 0, none⟩) 1 1)).run Tryd.prog (W.alloc (.cells #[.int .u8 c] 5)) = .ok (.string ⟨#[UInt8.ofNat c.toNat]⟩) (W.alloc (.cells #[.int .u8 c] 5)) := by
  have h := run_convert_bytes_arg (P := Tryd.prog) (W.alloc (.cells #[.int .u8 c] 5)) 38 5 Tryd.underlying38 Tryd.underlying5 W.heap.size 0 1 1 [c] rfl
    (fun i hi => by obtain rfl : i = 0 := by omega
                    simp [World.cell?_alloc_new]) 9 Tryd.underlying9
  rw [h]; rfl

theorem itoa_small {n : Int} (h0 : 0 ≤ n) (h1 : n ≤ 9) : (Lib.itoa n).toArray = #[UInt8.ofNat (48 + n).toNat] := by
  unfold Lib.itoa
  rw [if_neg (by omega), Lib.decDigits_one (by omega)]
  congr 3; omega

set_option maxRecDepth 100000 in
theorem rDigits_small (n : Int) (h0 : 0 ≤ n) (h1 : n ≤ 9) (w : World) :
    Calls Tryd.prog 18 #[.int .i64 n] w fun e w' => e = .returned (.string ⟨(Lib.itoa n).toArray⟩) ∧ Below w.heap.size w w' := by
  have k1 := conv1
  go_enter Tryd.func18, Tryd.ntmps18
  go_wp2_with fail
  go_ret
  exact ⟨ret_str (by rw [itoa_small h0 h1]), (Below.refl _ _).alloc (Nat.le_refl _) _⟩
end Go.Proofs.YtoknncoolmbklaaDoor
