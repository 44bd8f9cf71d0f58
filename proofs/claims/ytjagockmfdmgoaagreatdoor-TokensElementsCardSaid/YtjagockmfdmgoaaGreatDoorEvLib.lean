/- Plain facts about the walker's words for data: cells of rows, bytes. -/
import Derived.Test.YtjagockmfdmgoaaGreatDoorEvW4
import Derived.IntWalk
namespace Go.Ev
set_option linter.unusedVariables false
set_option linter.unusedSimpArgs false
theorem rep_one (v : Value) : ∀ n, rep [v] n = List.replicate n v
  | 0 => rfl
  | n + 1 => by rw [rep, rep_one v n, List.replicate_succ]; rfl
theorem bytesV_len (l : List UInt8) : (bytesV l).length = l.length := by unfold bytesV; rw [List.length_map]
theorem bytesV_one (l : List UInt8) : (bytesV l).all oneC = true := by
  rw [List.all_eq_true]; intro v hv; unfold bytesV at hv; obtain ⟨b, _, rfl⟩ := List.mem_map.1 hv; rfl
theorem bytesV_plain (l : List UInt8) : NoNames (bytesV l) := by
  intro v hv; unfold bytesV at hv; obtain ⟨b, _, rfl⟩ := List.mem_map.1 hv; rfl
theorem splice_all {c vs : List Value} (h : vs.length = c.length) : splice c 0 vs = vs := by
  unfold splice
  rw [List.take_zero, List.nil_append, Nat.zero_add, h, List.drop_length, List.append_nil]
theorem byte_back (b : UInt8) : UInt8.ofNat ((b.toNat : Int)).toNat = b := by rw [Int.toNat_natCast]; exact UInt8.ofNat_toNat
theorem bytesOf_bytesV : ∀ l : List UInt8, bytesOf (bytesV l) = .ok l
  | [] => rfl
  | b :: l => by
    show bytesOf (.int .u8 b.toNat :: bytesV l) = _
    unfold bytesOf
    rw [bytesOf_bytesV l]
    show Except.ok (UInt8.ofNat ((b.toNat : Int)).toNat :: l) = _
    rw [byte_back]
theorem map_byteOf : ∀ l : List UInt8, (bytesV l).map byteOf = l
  | [] => rfl
  | b :: l => by
    show UInt8.ofNat ((b.toNat : Int)).toNat :: (bytesV l).map byteOf = _
    rw [map_byteOf l, byte_back]
theorem bytesIn_all (l : List UInt8) : bytesIn (bytesV l) 0 l.length = l := by
  unfold bytesIn
  rw [List.drop_zero, List.take_of_length_le (by rw [bytesV_len]; exact Nat.le_refl _), map_byteOf]
theorem take_bytesV (l : List UInt8) : List.take l.length (List.drop 0 (bytesV l)) = bytesV l := by
  rw [List.drop_zero, List.take_of_length_le (by rw [bytesV_len]; exact Nat.le_refl _)]
theorem byteAt_get {l : List UInt8} {i : Nat} (h : i < l.length) : byteAt l (i : Int) = l[i].toNat := by
  unfold byteAt; rw [Int.toNat_natCast, List.getElem?_eq_getElem h]; rfl
theorem i64n {n : Nat} (h : n ≤ 9223372036854775807) : IntKind.wrap .i64 (n : Int) = n := IntWalk.i64_in _ ⟨by omega, by omega⟩
/-- Ints in a row. -/
def ic (L : List Int) : List Value := L.map (.int .i64)
theorem ic_len (L : List Int) : (ic L).length = L.length := by unfold ic; rw [List.length_map]
theorem ic_get {L : List Int} {i : Nat} (h : i < L.length) : (ic L)[i]? = some (.int .i64 (intAt (ic L) i)) ∧ intAt (ic L) i = L[i] := by
  have : (ic L)[i]? = some (.int .i64 L[i]) := by simp [ic, h]
  unfold intAt; rw [this]; exact ⟨rfl, rfl⟩
theorem ic_plain (L : List Int) : NoNames (ic L) := by
  intro v hv; unfold ic at hv; obtain ⟨x, _, rfl⟩ := List.mem_map.1 hv; rfl
end Go.Ev
