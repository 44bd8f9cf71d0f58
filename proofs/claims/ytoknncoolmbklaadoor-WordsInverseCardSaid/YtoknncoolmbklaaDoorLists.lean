/- numbers, ascending, runLength and writeRun of the package answer as P1.6 asks of a slice of integers; conditions: the slice reads as these integers, Amb for writeRun. -/
import Derived.Test.YtoknncoolmbklaaDoorSplit
import Derived.Test.YtoknncoolmbklaaDoorPlain
import Derived.Deep.QuietTactic
import Derived.BigQuiet
namespace Go.Proofs.YtoknncoolmbklaaDoor
set_option linter.unusedVariables false
set_option linter.unusedSimpArgs false
open Go.RowKit Go.Sort

/-- A slice of ints reads as these ints. -/
def IntsAt (w : World) (v : Value) (zs : List Int) : Prop :=
  (v = .slice none 0 0 ∧ zs = []) ∨ ∃ b o cap, v = .slice (some ⟨b, o, none⟩) zs.length cap ∧ b < w.heap.size ∧ zs.length ≤ cap ∧ cap ≤ 9223372036854775807 ∧
    ∀ i (h : i < zs.length), w.cell? ⟨b, o + i, none⟩ = some (.int .i64 zs[i])
theorem IntsAt.below {w w' : World} {v : Value} {zs : List Int} (h : IntsAt w v zs) (hb : Below w.heap.size w w') : IntsAt w' v zs := by
  rcases h with h | ⟨b, o, cap, rfl, hlt, hm, hm', hc⟩
  · exact .inl h
  · exact .inr ⟨b, o, cap, rfl, Nat.lt_of_lt_of_le hlt hb.size, hm, hm', fun i hi => (hb.cell (p := ⟨b, o + i, none⟩) hlt).trans (hc i hi)⟩

theorem numsB_false {l : List Int} {k : Nat} (hk : k < l.length) (h : numB l[k] = false) : numsB l = false := by
  cases hb : numsB l with
  | false => rfl
  | true => unfold numsB at hb; rw [List.all_eq_true] at hb; have := hb _ (List.getElem_mem hk); rw [h] at this; exact absurd this (by simp)
theorem numsB_true {l : List Int} (h : ∀ j (hj : j < l.length), numB l[j] = true) : numsB l = true := by
  unfold numsB; rw [List.all_eq_true]; intro x hx; obtain ⟨j, hj, rfl⟩ := List.mem_iff_getElem.1 hx; exact h j hj
theorem ascB_false {l : List Int} {k : Nat} (hk : k + 1 < l.length) (h : l[k + 1] ≤ l[k]) : ascB l = false := by
  cases hb : ascB l with
  | false => rfl
  | true => have := ascB_iff.1 hb k hk; omega

theorem wNumbers (v : Value) (zs : List Int) (w : World) (hz : IntsAt w v zs) :
    Calls Tryd.prog 56 #[v] w fun e w' => e = .returned (.bool (numsB zs)) ∧ Below w.heap.size w w' := by
  rcases hz with ⟨rfl, rfl⟩ | ⟨b, o, cap, rfl, hlt, hm, hm', hc⟩
  · go_enter Tryd.func56, Tryd.ntmps56
    go_wp2
    go_rounds 1
    go_ret
    exact ⟨rfl, Below.refl _ _⟩
  · have HC := Lib.hid hc
    clear hc
    go_enter Tryd.func56, Tryd.ntmps56
    go_wp2
    go_loop [7] (fun i => ∃ k : Nat, k ≤ zs.length ∧ i = .int .i64 k ∧ Hid (∀ j (hj : j < k) (h : j < zs.length), numB zs[j] = true)) (fun i => zs.length - (intOf i).toNat)
    case atStart => exact ⟨0, by omega, rfl, fun j hj => by omega⟩
    case round =>
      obtain ⟨k, hk, rfl, hall⟩ := hrel
      by_cases hkl : k < zs.length
      · have h0 := HC.out k hkl
        go_wp2
        all_goals first
          | (have hn : numB zs[k] = false := by (unfold numB; rw [Bool.and_eq_false_iff]; simp only [decide_eq_false_iff_not]; omega)
             go_ret
             exact ⟨ret_bool (numsB_false hkl hn).symm, Below.refl _ _⟩)
          | (have hn : numB zs[k] = true := by (unfold numB; rw [Bool.and_eq_true]; simp only [decide_eq_true_iff]; omega)
             refine ⟨⟨k + 1, by omega, by go_num, ?_⟩, by simp [intOf]; omega⟩
             intro j hj h
             by_cases hjk : j = k
             · subst hjk; exact hn
             · exact hall j (by omega) h)
      · go_wp2
        go_ret
        exact ⟨ret_bool (numsB_true (fun j h => hall j (by omega) h)).symm, Below.refl _ _⟩

set_option maxRecDepth 100000 in
theorem wAscending (v : Value) (zs : List Int) (w : World) (hz : IntsAt w v zs) :
    Calls Tryd.prog 57 #[v] w fun e w' => e = .returned (.bool (ascB zs)) ∧ Below w.heap.size w w' := by
  rcases hz with ⟨rfl, rfl⟩ | ⟨b, o, cap, rfl, hlt, hm, hm', hc⟩
  · go_enter Tryd.func57, Tryd.ntmps57
    go_wp2
    go_rounds 1
    go_ret
    exact ⟨rfl, Below.refl _ _⟩
  · have HC := Lib.hid hc
    clear hc
    go_enter Tryd.func57, Tryd.ntmps57
    go_wp2
    go_loopw [3] (fun i wr => ∃ k : Nat, (k ≤ zs.length ∨ k = 1) ∧ 1 ≤ k ∧ i = .int .i64 k ∧ Below w.heap.size w wr ∧ Hid (∀ j (hj : j + 1 < k) (h : j + 1 < zs.length), zs[j] < zs[j + 1])) (fun i _ => zs.length - (intOf i).toNat)
    case atStart => exact ⟨1, .inr rfl, by omega, rfl, Below.refl _ _, fun j hj => by omega⟩
    case round =>
      obtain ⟨k, hk, hk1, rfl, hbw, hall⟩ := hrel
      by_cases hkl : k < zs.length
      · obtain ⟨j, rfl⟩ : ∃ j, k = j + 1 := ⟨k - 1, by omega⟩
        have h0 : wr.cell? ⟨b, o + (j + 1), none⟩ = some (.int .i64 zs[j + 1]) := (hbw.cell (p := ⟨b, o + (j + 1), none⟩) hlt).trans (HC.out (j + 1) hkl)
        have h1 : wr.cell? ⟨b, o + j, none⟩ = some (.int .i64 zs[j]) := (hbw.cell (p := ⟨b, o + j, none⟩) hlt).trans (HC.out j (by omega))
        have hkl' : (j : Int) + 1 < zs.length := by omega
        have e1 : IntKind.i64.wrap ((j : Int) + 1 - 1) = j := by rw [IntWalk.i64_in _ (by omega)]; omega
        go_wp2
        go_quiet (fail)
        go_wp2
        · go_ret
          exact ⟨ret_bool (ascB_false hkl (by assumption)).symm, below_drewN hbw _⟩
        · have hlt' : zs[j] < zs[j + 1] := by assumption
          refine ⟨⟨j + 1 + 1, .inl (by omega), by omega, by go_num, below_drewN hbw _, ?_⟩, by simp [intOf]; omega⟩
          intro i hi h
          by_cases hij : i = j
          · subst hij; exact hlt'
          · exact hall i (by omega) h
      · go_wp2
        go_ret
        exact ⟨ret_bool (ascB_iff.2 (fun j h => hall j (by omega) h)).symm, hbw⟩

set_option maxRecDepth 100000 in
theorem wRunLength (v : Value) (zs : List Int) (w : World) (hz : IntsAt w v zs) (h0 : zs ≠ []) (hnum : ∀ j (h : j < zs.length), 0 ≤ zs[j] ∧ zs[j] ≤ 1000000000) :
    Calls Tryd.prog 58 #[v] w fun e w' => e = .returned (.int .i64 (runLen zs)) ∧ Below w.heap.size w w' := by
  rcases hz with ⟨rfl, rfl⟩ | ⟨b, o, cap, rfl, hlt, hm, hm', hc⟩
  · exact absurd rfl h0
  · have hpos : 0 < zs.length := List.length_pos_iff.2 h0
    have HC := Lib.hid hc
    have HN := Lib.hid hnum
    clear hc hnum h0
    go_enter Tryd.func58, Tryd.ntmps58
    go_wp2
    go_loopw [3] (fun i wr => ∃ k : Nat, k ≤ zs.length ∧ 1 ≤ k ∧ i = .int .i64 k ∧ Below w.heap.size w wr ∧ Hid (∀ j (hj : j + 1 < k) (h : j + 1 < zs.length), zs[j + 1] = zs[j] + 1)) (fun i _ => zs.length - (intOf i).toNat)
    case atStart => exact ⟨1, by omega, by omega, rfl, Below.refl _ _, fun j hj => by omega⟩
    case round =>
      obtain ⟨k, hk, hk1, rfl, hbw, hall⟩ := hrel
      by_cases hkl : k < zs.length
      · obtain ⟨j, rfl⟩ : ∃ j, k = j + 1 := ⟨k - 1, by omega⟩
        have h0 : wr.cell? ⟨b, o + (j + 1), none⟩ = some (.int .i64 zs[j + 1]) := (hbw.cell (p := ⟨b, o + (j + 1), none⟩) hlt).trans (HC.out (j + 1) hkl)
        have h1 : wr.cell? ⟨b, o + j, none⟩ = some (.int .i64 zs[j]) := (hbw.cell (p := ⟨b, o + j, none⟩) hlt).trans (HC.out j (by omega))
        have hkl' : (j : Int) + 1 < zs.length := by omega
        have e1 : IntKind.i64.wrap ((j : Int) + 1 - 1) = j := by rw [IntWalk.i64_in _ (by omega)]; omega
        have hb := HN.out j (by omega)
        have e2 : IntKind.i64.wrap (zs[j] + 1) = zs[j] + 1 := IntWalk.i64_in _ (by omega)
        have hd : decide ((j : Int) + 1 < (zs.length : Int)) = true := by simpa using hkl'
        go_wp2
        go_quiet (fail)
        go_wp2
        · have heq : zs[j + 1] = zs[j] + 1 := by have := ‹(zs[j + 1] == zs[j] + 1) = true›; simpa using this
          refine ⟨⟨j + 1 + 1, by omega, by omega, by go_num, below_drewN hbw _, ?_⟩, by simp [intOf]; omega⟩
          intro i hi h
          by_cases hij : i = j
          · subst hij; exact heq
          · exact hall i (by omega) h
        · have hne : zs[j + 1] ≠ zs[j] + 1 := by have := ‹(zs[j + 1] == zs[j] + 1) = false›; simpa using this
          have hrl : runLen zs = j + 1 := runLen_of hk1 hk (fun i h h' => hall i h h') (fun h => by simpa using hne)
          go_ret
          exact ⟨ret_int (by rw [hrl]), below_drewN hbw _⟩
      · have hd : decide ((k : Int) < (zs.length : Int)) = false := by rw [decide_eq_false_iff_not]; omega
        have hrl : runLen zs = k := runLen_of hk1 hk (fun j h h' => hall j h h') (fun h => absurd h hkl)
        have HRL := Lib.hid hrl
        clear hrl
        go_wp2
        go_quiet (fail)
        go_wp2
        go_ret
        exact ⟨ret_int (by rw [HRL.out]), below_drewN hbw _⟩

theorem mk_size (l : List UInt8) : (⟨l.toArray⟩ : ByteArray).size = l.length := by rw [← ByteArray.size_data]; simp
theorem strCells_mk (l : List UInt8) : Lib.strCells ⟨l.toArray⟩ = Lib.byteCells l := by rw [Lib.strCells_eq]

set_option maxRecDepth 100000 in
theorem wWriteRun (B b : Nat) (acc : List UInt8) (x y : Int) (w : World) (ha : Amb w) (hB : 9 ≤ B) (hBw : B ≤ w.heap.size) (hI : Lib.IsBuilderF 61 5 B b (Lib.byteCells acc) w) (hlen : acc.length + 100 ≤ 140737488355328)
    (hx : 0 ≤ x ∧ x ≤ 1000000000) (hy : 0 ≤ y ∧ y ≤ 1000000000) :
    Calls Tryd.prog 59 #[.pointer (some ⟨b, 0, none⟩), .int .i64 x, .int .i64 y] w (Writes B b acc (runTxt x y) w) := by
  have lx := itoa_len (n := x) (by omega) (by omega)
  have ly := itoa_len (n := y) (by omega) (by omega)
  go_enter Tryd.func59, Tryd.ntmps59
  go_wp2_with fail
  refine (wDigits x (by omega) (by omega) _ ha).mono ?_
  rintro e W1 ⟨rfl, b1⟩
  have z1 : B ≤ W1.heap.size := by have := b1.size; omega
  go_wp2_with fail
  refine (Tryd.bWriteString B b _ _ _ (isBuilderF_below hI b1) (by rw [Lib.byteCells_length, mk_size]; omega) z1).mono ?_
  rintro e W2 ⟨rfl, h2, b2, _⟩
  rw [strCells_mk, ← Lib.byteCells_append] at h2
  have z2 : B ≤ W2.heap.size := by have := b2.size; omega
  have bw2 : Below B w W2 := (b1.mono hBw).trans b2
  clear hI
  by_cases hxy : x < y
  · have HT : Hid (runTxt x y = Lib.itoa x ++ 45 :: Lib.itoa y) := by unfold Hid runTxt; rw [if_pos hxy]
    go_wp2_with fail
    refine (Tryd.bWriteByte B b _ 45 _ (.inr h2) (by rw [Lib.byteCells_length, List.length_append]; omega) z2).mono ?_
    rintro e W3 ⟨rfl, h3, b3, _⟩
    have z3 : B ≤ W3.heap.size := by have := b3.size; omega
    have bw3 := bw2.trans b3
    have e3 : Lib.byteCells (acc ++ Lib.itoa x) ++ [Value.int .u8 45] = Lib.byteCells (acc ++ Lib.itoa x ++ [45]) := by rw [Lib.byteCells_append (acc ++ Lib.itoa x)]; rfl
    rw [e3] at h3
    clear e3 h2
    go_wp2_with fail
    refine (wDigits y (by omega) (by omega) _ (ha.belowB bw3 hB)).mono ?_
    rintro e W4 ⟨rfl, b4⟩
    have z4 : B ≤ W4.heap.size := by have := b4.size; omega
    have h4 := isBuilderF_below (.inr h3) b4
    go_wp2_with fail
    refine (Tryd.bWriteString B b _ _ _ h4 (by rw [Lib.byteCells_length, mk_size, List.length_append, List.length_append, List.length_cons, List.length_nil]; omega) z4).mono ?_
    rintro e W5 ⟨rfl, h5, b5, _⟩
    rw [strCells_mk, ← Lib.byteCells_append] at h5
    go_wp2_with fail
    go_end0
    refine ⟨rfl, .inr ?_, bw3.trans ((b4.mono z3).trans b5)⟩
    rw [HT.out]
    simpa using h5
  · have HT : Hid (runTxt x y = Lib.itoa x) := by unfold Hid runTxt; rw [if_neg hxy, List.append_nil]
    have hxy' : y ≤ x := by omega
    clear hxy
    go_wp2_with fail
    go_end0
    refine ⟨rfl, .inr ?_, bw2⟩
    rw [HT.out]; exact h2
end Go.Proofs.YtoknncoolmbklaaDoor
