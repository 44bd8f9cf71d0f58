/- Contracts of the package's functions at what they returned themselves (P1.7); under the ambient facts of Amb. -/
import Derived.Test.YtoknncoolmbklaaDoorPlain
import Derived.Test.YtoknncoolmbklaaDoorRLine
import Derived.Test.YtoknncoolmbklaaDoorQuote
import Derived.Test.YtoknncoolmbklaaDoorWriteQuoted
import Derived.Test.YtoknncoolmbklaaDoorIntsEq
import Derived.Test.YtoknncoolmbklaaDoorRParse1
import Derived.Test.YtoknncoolmbklaaDoorSame
namespace Go.Proofs.YtoknncoolmbklaaDoor
set_option linter.unusedVariables false
set_option linter.unusedSimpArgs false
open Go.RowKit Go.Sort

theorem unq_quote (x : List UInt8) : unqV (quoteL x) = x ∧ unqE (quoteL x) = 0 := by
  have h := rqL_of x []
  rw [List.append_nil] at h
  have hn : rqN (quoteL x) = (quoteL x).length := by unfold rqN; rw [h]
  have ht : rqT (quoteL x) = x := by unfold rqT; rw [h]
  unfold unqV unqE
  rw [if_pos hn, if_pos ⟨hn, by unfold quoteL; simp⟩, ht]
  exact ⟨rfl, rfl⟩
theorem quote_unq {l : List UInt8} (h : unqE l = 0) : quoteL (unqV l) = l := by
  unfold unqE at h
  by_cases hc : rqN l = l.length ∧ l ≠ []
  · obtain ⟨h1, h2⟩ := hc
    cases hr : rqL l with
    | none =>
      have h3 : rqN l = 0 := by unfold rqN; rw [hr]
      exact absurd (List.length_eq_zero_iff.1 (by omega)) h2
    | some p =>
      obtain ⟨x, n⟩ := p
      obtain ⟨r, e, hn⟩ := of_rqL hr
      have h3 : rqN l = n := by unfold rqN; rw [hr]
      have h4 : rqT l = x := by unfold rqT; rw [hr]
      have h5 : r = [] := by
        have := congrArg List.length e
        rw [List.length_append] at this
        exact List.length_eq_zero_iff.1 (by omega)
      unfold unqV
      rw [if_pos h1, h4, e, h5, List.append_nil]
  · rw [if_neg hc] at h; cases h
theorem quote_len (x : List UInt8) : (quoteL x).length ≤ 4 * x.length + 2 := by
  have := flat4 x
  unfold quoteL; rw [List.length_cons, List.length_append, List.length_cons, List.length_nil]; omega
theorem back (s : ByteArray) : (⟨s.data.toList.toArray⟩ : ByteArray) = s := by simp
theorem toL (l : List UInt8) : (⟨l.toArray⟩ : ByteArray).data.toList = l := by simp
theorem sizeOfL (l : List UInt8) : (⟨l.toArray⟩ : ByteArray).size = l.length := by rw [← len_data, toL]
theorem wUnqQuote (s : ByteArray) (w : World) (ha : Amb w) (hs : s.size ≤ 3000) :
    Calls Tryd.prog 19 #[.string ⟨(quoteL s.data.toList).toArray⟩] w fun e w' => e = .returned (.tuple #[.string s, .int .i64 0]) ∧ Below w.heap.size w w' := by
  have hl := quote_len s.data.toList
  rw [len_data] at hl
  refine (wUnquote ⟨(quoteL s.data.toList).toArray⟩ w ha (by rw [sizeOfL]; omega)).mono ?_
  rintro e w' ⟨rfl, b⟩
  rw [toL, (unq_quote _).1, (unq_quote _).2, back]
  exact ⟨rfl, b⟩
theorem wQuoteBack (s : ByteArray) (w : World) (ha : Amb w) (hs : s.size ≤ 3000) (h : unqE s.data.toList = 0) :
    Calls Tryd.prog 21 #[.string ⟨(unqV s.data.toList).toArray⟩] w fun e w' => e = .returned (.string s) ∧ Below w.heap.size w w' := by
  have hl : (unqV s.data.toList).length ≤ 3000 := by
    have h1 := congrArg List.length (quote_unq h)
    have h2 : (unqV s.data.toList).length ≤ (quoteL (unqV s.data.toList)).length := by
      unfold quoteL
      rw [List.length_cons, List.length_append]
      have : ∀ y : List UInt8, y.length ≤ (y.flatMap esc).length := by
        intro y
        induction y with
        | nil => simp
        | cons c y ih => have := esc_len c; simp [List.flatMap_cons] at *; omega
      have := this (unqV s.data.toList)
      omega
    rw [len_data] at h1
    omega
  refine (wQuote ⟨(unqV s.data.toList).toArray⟩ w ha (by rw [sizeOfL]; omega)).mono ?_
  rintro e w' ⟨rfl, b⟩
  rw [toL, quote_unq h, back]
  exact ⟨rfl, b⟩
theorem wJoinBack (s : ByteArray) (v : Value) (w : World) (ha : Amb w) (h : splE s.data.toList = 0) (hf : FieldsAt w v (splF s.data.toList)) :
    Calls Tryd.prog 27 #[v] w fun e w' => e = .returned (.tuple #[.string s, .int .i64 0]) ∧ Below w.heap.size w w' := by
  refine (wJoin v _ w ha hf).mono ?_
  rintro e w' ⟨rfl, b⟩
  rw [(join_split h).1, (join_split h).2, back]
  exact ⟨rfl, b⟩
theorem wSplitBack (fs : List FL) (w : World) (ha : Amb w) (h : joiE fs = 0) :
    Calls Tryd.prog 23 #[.string ⟨(joiS fs).toArray⟩] w fun e w' => ∃ v, e = .returned (.tuple #[v, .int .i64 0]) ∧ w'.ownsRow w.heap.size 50 2 v fs.length (fcells fs) ∧ Below w.heap.size w w' := by
  have hj := joiS_zero h
  refine (wSplit ⟨(joiS fs).toArray⟩ w ha (by rw [sizeOfL, hj.1]; omega)).mono ?_
  rintro e w' ⟨v, rfl, hv, b⟩
  rw [toL, (split_join h).2] at hv
  rw [toL, (split_join h).1]
  exact ⟨v, rfl, hv, b⟩
theorem lis_len {zs : List Int} (h : lisE zs = 0) : (lisS zs).length ≤ 10000 := by
  have hb := parse_list h
  have h1 : ¬ 500 < zs.length := by intro hh; unfold lisE at h; rw [if_pos hh] at h; cases h
  have h2 : numsB zs = true := by
    cases hn : numsB zs with
    | true => rfl
    | false => unfold lisE at h; rw [if_neg h1, if_pos hn] at h; cases h
  have h3 : ascB zs = true := by
    cases hn : ascB zs with
    | true => rfl
    | false => unfold lisE at h; rw [if_neg h1, if_neg (by rw [h2]; simp), if_pos hn] at h; cases h
  have hs : lisS zs = listL zs := by unfold lisS; rw [if_pos h]
  rw [hs]
  by_cases h0 : zs = []
  · subst h0; decide
  · have hl : listL zs = listC zs := by unfold listL; rw [if_neg h0]
    have hn := numsB_iff.1 h2
    obtain ⟨vs, hv, rfl⟩ := runs_of _ zs (Nat.le_refl _) (fun x hx => (hn x hx).1) h3
    have hvs : vs ≠ [] := by rintro rfl; exact h0 rfl
    rw [hl, listC_spans vs hv hvs]
    have hb : ∀ v ∈ vs, v.1 ≤ 1000000000 ∧ v.2 ≤ 1000000000 := by
      intro v hvm
      have hle := hv.all v hvm
      have := hn v.2 (mem_spans.2 ⟨v, hvm, by omega, by omega⟩)
      omega
    have ht : ∀ u : Nat, u ≤ 1000000000 → (Lib.itoa (u : Int)).length ≤ 10 := by
      intro u hu
      rw [Lib.itoa_nonneg, Lib.decDigits_length]
      have hlt : u < 10 ^ 10 := by omega
      by_cases hc : Lib.nDigits u ≤ 10
      · exact hc
      · exfalso
        have hk : ∀ (k u : Nat), u < 10 ^ (k + 1) → Lib.nDigits u ≤ k + 1 := by
          intro k
          induction k with
          | zero => intro u hu; rw [Lib.nDigits_small (by simpa using hu)]; omega
          | succ k ih =>
            intro u hu
            by_cases h10 : u < 10
            · rw [Lib.nDigits_small h10]; omega
            · rw [Lib.nDigits_big h10]
              have := ih (u / 10) (by rw [Nat.pow_succ] at hu; omega)
              omega
        exact hc (hk 9 u hlt)
    have htx : ∀ v ∈ vs, (txt v).length + 1 ≤ 11 * (v.2 - v.1 + 1) := by
      intro v hvm
      have h1 := ht v.1 (hb v hvm).1
      have h2 := ht v.2 (hb v hvm).2
      unfold txt runTxt
      rw [List.length_append]
      by_cases hlt : (v.1 : Int) < v.2
      · rw [if_pos hlt, List.length_cons]; omega
      · rw [if_neg hlt, List.length_nil]; omega
    have hj : ∀ us : List (Nat × Nat), Sep us → (∀ v ∈ us, (txt v).length + 1 ≤ 11 * (v.2 - v.1 + 1)) → (joinR us).length ≤ 11 * (spans us).length := by
      intro us
      induction us with
      | nil => intro _ _; simp [joinR]
      | cons v r ih =>
        intro hss hh
        have h1 := hh v (by simp)
        have hsl := span_len hss.tail.1
        rw [spans_cons, List.length_append, hsl]
        cases r with
        | nil => rw [joinR]; omega
        | cons u r =>
          have := ih hss.tail.2 (fun x hx => hh x (List.mem_cons_of_mem _ hx))
          rw [joinR, List.length_append, List.length_cons]
          omega
    have h4 := hj vs hv htx
    omega
theorem wParseBack (zs : List Int) (w : World) (ha : Amb w) (h : lisE zs = 0) :
    Calls Tryd.prog 32 #[.string ⟨(lisS zs).toArray⟩] w fun e w' => ∃ v, e = .returned (.tuple #[v, .int .i64 0]) ∧ w'.ownsRow w.heap.size 3 1 v zs.length (icells zs) ∧ Below w.heap.size w w' := by
  have hl := lis_len h
  refine (wParseList ⟨(lisS zs).toArray⟩ w ha (by rw [sizeOfL]; exact hl)).mono ?_
  rintro e w' ⟨v, rfl, hv, b⟩
  rw [toL, (parse_list h).2] at hv
  rw [toL, (parse_list h).1]
  exact ⟨v, rfl, hv, b⟩
theorem wListBack (s : ByteArray) (v : Value) (w : World) (ha : Amb w) (h : parE s.data.toList = 0) (hz : IntsAt w v (parV s.data.toList)) :
    Calls Tryd.prog 30 #[v] w fun e w' => e = .returned (.tuple #[.string s, .int .i64 0]) ∧ Below w.heap.size w w' := by
  refine (wList v _ w ha hz).mono ?_
  rintro e w' ⟨rfl, b⟩
  rw [(list_parse h).1, (list_parse h).2, back]
  exact ⟨rfl, b⟩
theorem wIntBack (n : Int) (hn : inI64 n) (w : World) (ha : Amb w) :
    Calls Tryd.prog 13 #[.string ⟨(Lib.itoa n).toArray⟩, .int .i64 n, .int .i64 n] w fun e w' => e = .returned (.tuple #[.int .i64 n, .int .i64 0]) ∧ Below w.heap.size w w' := by
  have hl := itoa_len hn.1 (by have := hn.2; omega)
  refine (wInt ⟨(Lib.itoa n).toArray⟩ n n hn hn w ha (by rw [sizeOfL]; omega)).mono ?_
  rintro e w' ⟨rfl, b⟩
  rw [toL, (int_digits hn).1, (int_digits hn).2]
  exact ⟨rfl, b⟩
theorem wDigitsBack (s : ByteArray) (low high : Int) (w : World) (ha : Amb w) (h : intE s.data.toList low high = 0) :
    Calls Tryd.prog 17 #[.int .i64 (intV s.data.toList low high)] w fun e w' => e = .returned (.string s) ∧ Below w.heap.size w w' := by
  have hd := digits_int h
  refine (wDigits _ hd.2.1 hd.2.2 w ha).mono ?_
  rintro e w' ⟨rfl, b⟩
  rw [hd.1, back]
  exact ⟨rfl, b⟩
end Go.Proofs.YtoknncoolmbklaaDoor
