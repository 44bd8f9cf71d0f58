/- Plain lemmas on decimal digits and on bytes joined. -/
import Derived.Test.YtjjghagjigaljaaDoorNumP
import Derived.Lib.ItoaLen
namespace Go.Proofs.YtjjghagjigaljaaDoor
open Go.RowKit

theorem mk_append (a b : List UInt8) : ((⟨a.toArray⟩ : ByteArray) ++ (⟨b.toArray⟩ : ByteArray)) = ⟨(a ++ b).toArray⟩ := by
  apply ByteArray.ext
  rw [ByteArray.data_append]
  simp
theorem itoa_neg {n : Int} (h : n < 0) : Lib.itoa n = 45 :: Lib.itoa (-n) := by
  unfold Lib.itoa
  rw [if_pos h, if_neg (by omega)]
  congr 2; omega
theorem itoa_len {n : Int} (h0 : -9223372036854775808 ≤ n) (h1 : n ≤ 9223372036854775808) : (Lib.itoa n).length ≤ 30 := by
  by_cases h : n = 9223372036854775808
  · subst h
    unfold Lib.itoa
    rw [if_neg (by omega), Lib.decDigits_length]
    have := Lib.nDigits_le20 (9223372036854775808 : Int).toNat (by decide)
    omega
  · have := Lib.itoa_length_le n h0 (by omega)
    omega
theorem decDigits_step {u : Nat} (h : 10 ≤ u) : Lib.decDigits u = Lib.decDigits (u / 10) ++ [UInt8.ofNat (48 + u % 10)] := by
  rw [Lib.decDigits, dif_neg (by omega)]
theorem itoa_step_pos {n : Int} (h : 9 < n) : Lib.itoa n = Lib.itoa (n / 10) ++ [UInt8.ofNat (48 + n % 10).toNat] := by
  unfold Lib.itoa
  rw [if_neg (by omega), if_neg (by omega), decDigits_step (by omega)]
  congr 2
  · congr 1; omega
  · congr 1; omega
theorem itoa_step_neg {n : Int} (h : n < -9) : Lib.itoa n = Lib.itoa (n.tdiv 10) ++ [UInt8.ofNat (48 + -n.tmod 10).toNat] := by
  have e1 : n.tdiv 10 = -((-n) / 10) := by
    rw [← Int.tdiv_eq_ediv_of_nonneg (by omega), Int.neg_tdiv, Int.neg_neg]
  have e2 : -n.tmod 10 = (-n) % 10 := by
    rw [← Int.tmod_eq_emod_of_nonneg (by omega), Int.neg_tmod]
  rw [e2, itoa_neg (by omega), itoa_step_pos (by omega), e1, itoa_neg (n := -(-n / 10)) (by omega), Int.neg_neg]
  rfl
end Go.Proofs.YtjjghagjigaljaaDoor
