/- The contract of the law's function of P1.1: on every string and any two numbers it returns true; under the ambient facts of Amb. -/
import Derived.Test.YtmnlollkolmdaaaDoorShown
import Derived.Test.YtmnlollkolmdaaaDoorRInt
import Derived.Test.YtmnlollkolmdaaaDoorRDigits
namespace Go.Proofs.YtmnlollkolmdaaaDoor
open Go.RowKit Go.Sort
set_option maxRecDepth 100000 in
set_option maxHeartbeats 1000000 in
theorem lNames (s : ByteArray) (low high : Int) (hl : inI64 low) (hh : inI64 high) (w : World) (ha : Amb w) :
    Calls Tryd.prog 3 #[.string s, .int .i64 low, .int .i64 high] w fun e w' => e = .returned (.bool true) ∧ Below w.heap.size w w' := by
  by_cases hs : s.size ≤ 1000
  · have hs' : (s.size : Int) ≤ 1000 := by omega
    have HL := Lib.hid hl
    have HH := Lib.hid hh
    clear hl hh
    go_enter Tryd.func3, Tryd.ntmps3
    go_wp2_with fail
    refine (wInt s low high HL.out HH.out _ ha (by omega)).mono ?_
    rintro e W1 ⟨rfl, b1⟩
    go_wp2_with fail
    refine (rInt s low high HL.out HH.out _ (by omega)).mono ?_
    rintro e W1 ⟨rfl, rfl⟩
    go_wp2_with fail
    refine (wName _ _).mono ?_
    rintro e W1 ⟨rfl, rfl⟩
    go_wp2_with fail
    refine (rName _ _).mono ?_
    rintro e W1 ⟨rfl, rfl⟩
    go_wp2_with fail
    refine (wDigits low HL.out.1 HL.out.2 _ (ha.below b1)).mono ?_
    rintro e W2 ⟨rfl, b2⟩
    have bw2 := b1.trans (b2.mono b1.size)
    clear b1 b2
    go_wp2_with fail
    refine (rDigits low HL.out.1 HL.out.2 _).mono ?_
    rintro e W3 ⟨rfl, b3⟩
    have bw3 := bw2.trans (b3.mono bw2.size)
    clear bw2 b3
    go_wp2_with fail
    refine (wDigits high HH.out.1 HH.out.2 _ (ha.below bw3)).mono ?_
    rintro e W4 ⟨rfl, b4⟩
    have bw4 := bw3.trans (b4.mono bw3.size)
    clear bw3 b4
    go_wp2_with fail
    refine (rDigits high HH.out.1 HH.out.2 _).mono ?_
    rintro e W5 ⟨rfl, b5⟩
    have bw5 := bw4.trans (b5.mono bw4.size)
    clear bw4 b5
    go_wp2_with fail
    refine (lShown _ (ha.below bw5)).mono ?_
    rintro e W6 ⟨rfl, b6⟩
    go_wp2_with fail
    go_ret
    exact ⟨rfl, bw5.trans (b6.mono bw5.size)⟩
  · have hs' : (1000 : Int) < s.size := by omega
    clear hs
    go_enter Tryd.func3, Tryd.ntmps3
    go_wp2_with fail
    refine (lShown _ ha).mono ?_
    rintro e W6 ⟨rfl, b6⟩
    go_wp2_with fail
    go_ret
    exact ⟨rfl, b6⟩
end Go.Proofs.YtmnlollkolmdaaaDoor
