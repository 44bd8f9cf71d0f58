/- Plain: the field at the beginning of a line, as the reference finds it. -/
import Derived.Test.YtjjghagjigaljaaDoorSplitP
namespace Go.Proofs.YtjjghagjigaljaaDoor
open Go.RowKit

/-- How many bytes stand before the first space. -/
def uN (l : List UInt8) : Nat := (l.takeWhile fun c => decide (c ≠ 32)).length
/-- Whether a string has only bytes of bare fields, and at least one. -/
def bareS (l : List UInt8) : Bool := !l.isEmpty && l.all bareB

theorem bareB_32 : bareB 32 = false := by decide
theorem bareB_34 : bareB 34 = false := by decide
theorem uN_le (l : List UInt8) : uN l ≤ l.length := (List.takeWhile_sublist _).length_le
theorem take_uN (l : List UInt8) : l.take (uN l) = l.takeWhile fun c => decide (c ≠ 32) := by
  unfold uN
  induction l with
  | nil => rfl
  | cons a l ih =>
    rw [List.takeWhile_cons]
    split
    · rw [List.length_cons, List.take_succ_cons, ih]
    · rfl
theorem uN_of {l : List UInt8} {k : Nat} (h : ∀ c ∈ l.take k, c ≠ 32) (hk : k ≤ l.length) (hn : k = l.length ∨ l[k]? = some 32) : uN l = k := by
  unfold uN
  induction l generalizing k with
  | nil => simp at hk; simp [hk]
  | cons a l ih =>
    cases k with
    | zero =>
      rcases hn with hn | hn
      · simp at hn
      · simp at hn; simp [hn]
    | succ k =>
      have ha := h a (by simp)
      rw [List.takeWhile_cons, if_pos (by simpa using ha), List.length_cons]
      rw [ih (fun c hc => h c (by rw [List.take_succ_cons]; exact List.mem_cons_of_mem _ hc)) (by simpa using hk) (by simpa using hn)]
theorem uN_next (l : List UInt8) : uN l = l.length ∨ l[uN l]? = some 32 := by
  unfold uN
  induction l with
  | nil => exact .inl rfl
  | cons a l ih =>
    rw [List.takeWhile_cons]
    split
    · rw [List.length_cons]
      rcases ih with h | h
      · left; rw [List.length_cons, h]
      · right; simpa using h
    · rename_i h
      right; simp at h; simp [h]
theorem bareN_of {l : List UInt8} {k : Nat} (h : ∀ c ∈ l.take k, bareB c = true) (hk : k ≤ l.length) (hn : k = l.length ∨ ∀ c, l[k]? = some c → bareB c = false) : bareN l = k := by
  unfold bareN
  induction l generalizing k with
  | nil => simp at hk; simp [hk]
  | cons a l ih =>
    cases k with
    | zero =>
      rcases hn with hn | hn
      · simp at hn
      · have := hn a rfl; simp [this]
    | succ k =>
      have ha := h a (by simp)
      rw [List.takeWhile_cons, if_pos ha, List.length_cons]
      rw [ih (fun c hc => h c (by rw [List.take_succ_cons]; exact List.mem_cons_of_mem _ hc)) (by simpa using hk) (by simpa using hn)]
theorem take_bareN (l : List UInt8) : ∀ c ∈ l.take (bareN l), bareB c = true := by
  unfold bareN
  induction l with
  | nil => simp
  | cons a l ih =>
    rw [List.takeWhile_cons]
    split
    · rename_i h
      rw [List.length_cons, List.take_succ_cons]
      intro c hc
      rcases List.mem_cons.1 hc with rfl | hc
      · exact h
      · exact ih c hc
    · simp
theorem bareB_ne32 {c : UInt8} (h : bareB c = true) : c ≠ 32 := fun e => by rw [e] at h; simp [bareB_32] at h

/-- The reference's branch of a bare field. -/
theorem okAt_bare {l : List UInt8} (h0 : rqN l = 0) : okAt l = bareS (l.take (uN l)) ∧ (okAt l = true → fieldAt l = ((l.take (uN l), false), uN l)) := by
  by_cases hq : l.head? = some 34
  · have ho : okAt l = false := okAt_false fun h => by
      unfold fieldAt at h; rw [if_pos hq] at h
      simp only [h0] at h; exact h.1 rfl
    have hb : bareS (l.take (uN l)) = false := by
      cases l with
      | nil => simp at hq
      | cons a r =>
        obtain rfl : a = 34 := by simpa using hq
        rw [take_uN, List.takeWhile_cons, if_pos (by decide)]
        unfold bareS
        rw [List.all_cons, bareB_34]; simp
    rw [ho, hb]; exact ⟨rfl, fun h => by simp at h⟩
  · have hf : fieldAt l = ((l.take (bareN l), false), bareN l) := by unfold fieldAt; rw [if_neg hq]
    by_cases hb : bareS (l.take (uN l)) = true
    · have hb' := hb
      unfold bareS at hb'
      rw [Bool.and_eq_true, List.all_eq_true] at hb'
      have hN : bareN l = uN l := bareN_of (fun c hc => hb'.2 c hc) (uN_le l) (by
        rcases uN_next l with h | h
        · exact .inl h
        · right; intro c hc; rw [h] at hc; injection hc with hc; rw [← hc]; exact bareB_32)
      have hpos : uN l ≠ 0 := by
        intro h; rw [h] at hb'; simp at hb'
      have ho : okAt l = true := okAt_iff.2 (by rw [hf]; simp only; rw [hN]; exact ⟨hpos, uN_next l⟩)
      rw [ho, hb, hf, hN]; exact ⟨rfl, fun _ => rfl⟩
    · have ho : okAt l = false := okAt_false fun h => by
        rw [hf] at h; simp only at h
        have hU : uN l = bareN l := uN_of (fun c hc => bareB_ne32 (take_bareN l c hc)) (bareN_le l) h.2
        apply hb
        rw [hU]
        unfold bareS
        rw [Bool.and_eq_true, List.all_eq_true]
        refine ⟨?_, take_bareN l⟩
        cases l with
        | nil => simp [bareN] at h
        | cons a r =>
          have : bareN (a :: r) = (bareN (a :: r) - 1) + 1 := by omega
          rw [this, List.take_succ_cons]; rfl
      rw [ho]
      exact ⟨by simpa using hb, fun h => by simp at h⟩
/-- The reference's branch of a quoted field. -/
theorem field_quoted {l : List UInt8} (h0 : rqN l ≠ 0) : fieldAt l = ((rqT l, true), (rqN l).toNat) ∧ 0 < rqN l := by
  cases h : rqL l with
  | none => exact absurd (by unfold rqN; rw [h]) h0
  | some p =>
    have hh : l.head? = some 34 := by
      unfold rqL at h
      by_cases hq : l.head? = some 34
      · exact hq
      · rw [if_neg hq] at h; simp at h
    refine ⟨by unfold fieldAt; rw [if_pos hh], ?_⟩
    obtain ⟨x, n⟩ := p
    have : rqN l = n := by unfold rqN; rw [h]
    omega

/-- What is known when the fields before place k have been read. -/
def Sofar (l : List UInt8) (k : Nat) (fs : List FL) : Prop := seqL l = fs.map (fun f => (f, true)) ++ seqC (l.drop k)
theorem sofar_start {l : List UInt8} (h : l ≠ []) : Sofar l 0 [] := by unfold Sofar seqL; rw [if_neg h]; rfl
theorem sofar_bad {l : List UInt8} {k : Nat} {fs : List FL} (h : Sofar l k fs) (h8 : ¬ 8192 < l.length) (ho : okAt (l.drop k) = false) : splE l = 6 ∧ splF l = [] := by
  refine splE_form h8 ?_
  unfold formB; rw [h, seqC_bad ho]; simp
theorem sofar_end {l : List UInt8} {k : Nat} {fs : List FL} (h : Sofar l k fs) (ho : okAt (l.drop k) = true) (he : (fieldAt (l.drop k)).2 = (l.drop k).length) : formB l = true ∧ allF l = fs ++ [(fieldAt (l.drop k)).1] := by
  unfold formB allF; rw [h, seqC_end ho he]
  refine ⟨by simp, ?_⟩
  rw [List.map_append, List.map_map, show ((fun x : FL × Bool => x.1) ∘ fun f : FL => (f, true)) = id from rfl, List.map_id]; rfl
theorem sofar_step {l : List UInt8} {k : Nat} {fs : List FL} (h : Sofar l k fs) (ho : okAt (l.drop k) = true) (he : (fieldAt (l.drop k)).2 ≠ (l.drop k).length) : Sofar l (k + (fieldAt (l.drop k)).2 + 1) (fs ++ [(fieldAt (l.drop k)).1]) := by
  unfold Sofar; rw [h, seqC_step ho he, List.drop_drop]; simp [Nat.add_assoc]
/-- Whether one of the fields is too long. -/
def anyB (fs : List FL) : Bool := fs.any fun f => decide (2000 < f.1.length)
theorem anyB_snoc (fs : List FL) (f : FL) : anyB (fs ++ [f]) = (anyB fs || decide (2000 < f.1.length)) := by simp [anyB]
theorem longB_anyB (fs : List FL) : longB fs = (anyB fs || decide (64 < fs.length)) := by unfold longB anyB; rw [Bool.or_comm]
end Go.Proofs.YtjjghagjigaljaaDoor
