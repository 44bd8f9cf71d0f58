/- Plain: which byte's form stands at the beginning of a text. -/
import Derived.Test.YtjjghagjigaljaaDoorQuoteP
namespace Go.Proofs.YtjjghagjigaljaaDoor
open Go.RowKit

theorem rb_of_take {c : UInt8} {l : List UInt8} (h : l.take (esc c).length = esc c) : rbL l = some ((c.toNat : Int), (esc c).length) := by
  have e : l = esc c ++ l.drop (esc c).length := by
    conv => lhs; rw [← List.take_append_drop (esc c).length l, h]
  rw [e]; exact rb_esc c _
theorem rb_none_of {l : List UInt8} (h : ∀ c : UInt8, l.take (esc c).length ≠ esc c) : rbL l = none := by
  cases hb : rbL l with
  | none => rfl
  | some p =>
    obtain ⟨v, n⟩ := p
    obtain ⟨c, r, rfl, rfl, rfl⟩ := esc_rb hb
    exact absurd (by simp) (h c)
theorem take_len {c : UInt8} {l : List UInt8} (h : l.take (esc c).length = esc c) : (esc c).length ≤ l.length := by
  have := congrArg List.length h
  rw [List.length_take] at this; omega
end Go.Proofs.YtjjghagjigaljaaDoor
