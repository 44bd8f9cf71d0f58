/- The contract of List of the package words: on a slice of integers it returns what P1.6 says, and changes nothing below the heap's size; under the ambient facts of Amb. -/
import Derived.Test.YtoknncoolmbklaaDoorLists
import Derived.StillTailTactics
namespace Go.Proofs.YtoknncoolmbklaaDoor
set_option linter.unusedVariables false
set_option linter.unusedSimpArgs false
open Go.RowKit Go.Sort

theorem IntsAt.drop {w : World} {b o cap : Nat} {zs : List Int} (k : Nat) (hlt : b < w.heap.size) (hm : zs.length ≤ cap) (hm' : cap ≤ 9223372036854775807) (hk : k ≤ zs.length)
    (hc : ∀ i (h : i < zs.length), w.cell? ⟨b, o + i, none⟩ = some (.int .i64 zs[i])) : IntsAt w (.slice (some ⟨b, o + k, none⟩) (zs.length - k) (cap - k)) (zs.drop k) := by
  refine .inr ⟨b, o + k, cap - k, by rw [List.length_drop], hlt, by rw [List.length_drop]; omega, by omega, fun i hi => ?_⟩
  rw [List.length_drop] at hi
  have := hc (k + i) (by omega)
  rw [List.getElem_drop, Nat.add_assoc]; exact this
theorem below_drew {B : Nat} {a w : World} (h : Below B a w) : Below B a w.drew := ⟨h.os, h.tape, h.output, h.size, h.block⟩
theorem runTxt_len {x y : Int} (hx : 0 ≤ x ∧ x ≤ 1000000000) (hy : 0 ≤ y ∧ y ≤ 1000000000) : (runTxt x y).length ≤ 61 := by
  have lx := itoa_len (n := x) (by omega) (by omega)
  have ly := itoa_len (n := y) (by omega) (by omega)
  unfold runTxt; split <;> simp <;> omega
theorem numsB_at {l : List Int} (h : numsB l = true) : ∀ j (hj : j < l.length), 0 ≤ l[j] ∧ l[j] ≤ 1000000000 := by
  intro j hj
  unfold numsB at h; rw [List.all_eq_true] at h
  have := h _ (List.getElem_mem hj)
  unfold numB at this; simpa using this
theorem lis_long {l : List Int} (h : 500 < l.length) : lisE l = 3 ∧ lisS l = [] := by
  have : lisE l = 3 := by unfold lisE; rw [if_pos h]
  exact ⟨this, by unfold lisS; rw [this]; rfl⟩
theorem lis_num {l : List Int} (h : ¬ 500 < l.length) (h1 : numsB l = false) : lisE l = 7 ∧ lisS l = [] := by
  have : lisE l = 7 := by unfold lisE; rw [if_neg h, if_pos h1]
  exact ⟨this, by unfold lisS; rw [this]; rfl⟩
theorem lis_asc {l : List Int} (h : ¬ 500 < l.length) (h1 : numsB l = true) (h2 : ascB l = false) : lisE l = 6 ∧ lisS l = [] := by
  have : lisE l = 6 := by unfold lisE; rw [if_neg h, if_neg (by simp [h1]), if_pos h2]
  exact ⟨this, by unfold lisS; rw [this]; rfl⟩
theorem lis_ok {l : List Int} (h : ¬ 500 < l.length) (h1 : numsB l = true) (h2 : ascB l = true) : lisE l = 0 ∧ lisS l = listL l := by
  have : lisE l = 0 := by unfold lisE; rw [if_neg h, if_neg (by simp [h1]), if_neg (by simp [h2])]
  exact ⟨this, by unfold lisS; rw [this]; rfl⟩

theorem listC_round {zs : List Int} {k n j : Nat} (hk : k < zs.length) (hn : runLen (zs.drop k) = n) (hj : j + 1 = k + n) (hjl : j < zs.length) :
    listC (zs.drop k) = runTxt zs[k] zs[j] ++ (if zs.drop (j + 1) = [] then [] else 44 :: listC (zs.drop (j + 1))) := by
  have hd : zs.drop k = zs[k] :: zs.drop (k + 1) := List.drop_eq_getElem_cons hk
  have h1 := runLen_pos (l := zs.drop k) (by intro h; rw [List.drop_eq_nil_iff] at h; omega)
  have hg := runLen_get (zs.drop k) (j - k) (by omega) (by rw [List.length_drop]; omega) (by rw [List.length_drop]; omega)
  rw [List.getElem_drop, List.getElem_drop] at hg
  have e1 : zs[k + (j - k)]'(by omega) = zs[j] := by congr 1; omega
  have e2 : zs[k + 0] = zs[k] := rfl
  rw [e1, e2] at hg
  have hj' : zs[k] + (n : Int) - 1 = zs[j] := by omega
  rw [hd, listC_step, ← hd, hn, List.drop_drop, ← hj, hj']

set_option maxRecDepth 100000 in
set_option maxHeartbeats 1000000 in
theorem wList_ok (b o cap : Nat) (zs : List Int) (w : World) (ha : Amb w) (hlt : b < w.heap.size) (hm : zs.length ≤ cap) (hm' : cap ≤ 9223372036854775807)
    (hc : ∀ i (h : i < zs.length), w.cell? ⟨b, o + i, none⟩ = some (.int .i64 zs[i])) (h5 : zs.length ≤ 500) (hn : numsB zs = true) (has : ascB zs = true) (h0 : 0 < zs.length) :
    Calls Tryd.prog 30 #[.slice (some ⟨b, o, none⟩) zs.length cap] w fun e w' => e = .returned (.tuple #[.string ⟨(listL zs).toArray⟩, .int .i64 0]) ∧ Below w.heap.size w w' := by
  have HC := Lib.hid hc
  have HN := Lib.hid (numsB_at hn)
  have h9 := ha.size
  have hn' : (!numsB zs) = false := by simp [hn]
  have has' : (!ascB zs) = false := by simp [has]
  have h5' : (zs.length : Int) ≤ 500 := by omega
  have h0' : ((zs.length : Int) == 0) = false := by rw [beq_eq_false_iff_ne]; omega
  have hz : IntsAt w (.slice (some ⟨b, o, none⟩) zs.length cap) zs := .inr ⟨b, o, cap, rfl, hlt, hm, hm', hc⟩
  clear hc hn has
  go_enter Tryd.func30, Tryd.ntmps30
  go_wp2_with fail
  refine (wNumbers _ zs _ hz).mono ?_
  rintro e W1 ⟨rfl, b1⟩
  go_wp2_with fail
  refine (wAscending _ zs _ (hz.below b1)).mono ?_
  rintro e W2 ⟨rfl, b2⟩
  have bw2 : Below w.heap.size w W2 := b1.trans (b2.mono b1.size)
  have z2 : w.heap.size ≤ W2.heap.size := bw2.size
  clear b1 b2
  go_wp2_with fail
  go_loopw [5] (fun i wr => ∃ (k : Nat) (T : List UInt8), k ≤ zs.length ∧ i = .int .i64 k ∧ T.length ≤ 70 * k ∧ Lib.IsBuilderF 61 5 W2.heap.size W2.heap.size (Lib.byteCells T) wr ∧ Below W2.heap.size W2 wr ∧ W2.heap.size < wr.heap.size ∧
    Hid (listC zs = T ++ (if k = 0 then listC zs else if zs.drop k = [] then [] else 44 :: listC (zs.drop k)))) (fun i _ => zs.length - (intOf i).toNat)
  case atStart =>
    exact ⟨0, [], by omega, rfl, by simp, Lib.IsBuilderF.of (Lib.fresh_isBuilder _ _ W2), (Below.refl _ W2).alloc (Nat.le_refl _) _, by simp, by simp [Hid]⟩
  case round =>
    obtain ⟨k, T, hk, rfl, hT, hI, hbw, hsz, HR⟩ := hrel
    by_cases hkl : k < zs.length
    · have hbw0 : Below w.heap.size w wr := bw2.trans (hbw.mono z2)
      have hcw : Hid (∀ i (h : i < zs.length), wr.cell? ⟨b, o + i, none⟩ = some (.int .i64 zs[i])) := Lib.hid (fun i hi => (hbw0.cell (p := ⟨b, o + i, none⟩) hlt).trans (HC.out i hi))
      have hlw : b < wr.heap.size := Nat.lt_of_lt_of_le hlt hbw0.size
      go_wp2_with fail
      refine (wRunLength _ (zs.drop k) _ (IntsAt.drop k hlw hm hm' hk hcw.out) (by intro h; rw [List.drop_eq_nil_iff] at h; omega) (fun j hj => by rw [List.getElem_drop]; exact HN.out _ _)).mono ?_
      rintro e W3 ⟨rfl, b3⟩
      have hbw3 : Below W2.heap.size W2 W3 := hbw.trans (b3.mono (by omega))
      have hI3 := isBuilderF_below hI b3
      have hsz3 : W2.heap.size < W3.heap.size := Nat.lt_of_lt_of_le hsz b3.size
      have HHN : Hid (1 ≤ runLen (zs.drop k) ∧ runLen (zs.drop k) ≤ zs.length - k) := by
        have h1 := runLen_pos (l := zs.drop k) (by intro h; rw [List.drop_eq_nil_iff] at h; omega)
        have h2 := runLen_le (zs.drop k)
        rw [List.length_drop] at h2
        exact ⟨h1, h2⟩
      clear b3 hI hbw hsz
      go_upto_if 28 with fail
      go_cut [6] (fun n wx => n = .int .i64 (runLen (zs.drop k) : Nat) ∧ ∃ T', Lib.IsBuilderF 61 5 W2.heap.size W2.heap.size (Lib.byteCells T') wx ∧ Below W2.heap.size W2 wx ∧ W2.heap.size < wx.heap.size ∧ T'.length ≤ 70 * k + 1 ∧ Hid (listC zs = T' ++ listC (zs.drop k)))
      case first =>
        go_wp2_with fail
        · have hkz : ¬ k = 0 := by omega
          refine (Tryd.bWriteByte W2.heap.size W2.heap.size _ 44 _ hI3 (by rw [Lib.byteCells_length]; omega) (by omega)).mono ?_
          rintro e W4 ⟨rfl, h4, b4, _⟩
          go_wp2_with fail
          go_meet
          refine ⟨rfl, T ++ [44], ?_, hbw3.trans b4, Nat.lt_of_lt_of_le hsz3 b4.size, by rw [List.length_append]; simp; omega, ?_⟩
          · have := bytes_snoc T 44
            rw [← this]; exact .inr h4
          · have := HR.out
            rw [if_neg hkz, if_neg (by intro h; rw [List.drop_eq_nil_iff] at h; omega)] at this
            unfold Hid; rw [this]; simp
        · go_meet
          have hkz : k = 0 := by omega
          refine ⟨rfl, T, hI3, hbw3, hsz3, by omega, ?_⟩
          have hT0 : T = [] := List.eq_nil_of_length_eq_zero (by omega)
          unfold Hid; rw [hT0, hkz]; simp
      case rest =>
        obtain ⟨rfl, T', hI', hbw', hsz', hT', HR'⟩ := hcut
        have hcx : Hid (∀ i (h : i < zs.length), wc.cell? ⟨b, o + i, none⟩ = some (.int .i64 zs[i])) := Lib.hid (fun i hi => ((bw2.trans (hbw'.mono z2)).cell (p := ⟨b, o + i, none⟩) hlt).trans (HC.out i hi))
        have ha' : Amb wc := ha.belowB (bw2.trans (hbw'.mono z2)) h9
        generalize hgn : runLen (zs.drop k) = n at HHN ⊢
        obtain ⟨hn1, hn2⟩ := HHN.out
        obtain ⟨j, hj⟩ : ∃ j : Nat, j + 1 = k + n := ⟨k + n - 1, by omega⟩
        have hjl : j < zs.length := by omega
        have h0c := hcx.out k hkl
        have h1c := hcx.out j hjl
        have hxk := HN.out k hkl
        have hxj := HN.out j hjl
        have e1 : IntKind.i64.wrap ((k : Int) + (n : Int)) = (j : Int) + 1 := by rw [IntWalk.i64_in _ (by omega)]; omega
        have e2 : IntKind.i64.wrap ((j : Int) + 1 - 1) = (j : Int) := by rw [IntWalk.i64_in _ (by omega)]; omega
        have hjl' : (j : Int) < (zs.length : Int) := by omega
        have hkl' : (k : Int) < (zs.length : Int) := by omega
        have e3 : IntKind.i64.wrap (j : Int) = (j : Int) := IntWalk.i64_in _ (by omega)
        have HJ := Lib.hid hj
        have HGN := Lib.hid hgn
        clear hj hgn hcx
        go_wp2_with fail
        have HW := Lib.hid (wWriteRun W2.heap.size W2.heap.size T' zs[k] zs[j] wc.drew (ha'.below (below_drew (Below.refl _ _))) (by omega) (by have := hsz'; simp; omega) (isBuilderF_below hI' (below_drew (Below.refl _ _))) (by omega) hxk hxj)
        go_region_with (go_at_call 59; refine HW.out.mono ?_; rintro e W5 ⟨rfl, h5, b5⟩)
        all_goals
          go_wp2_with fail
          have hTl := runTxt_len hxk hxj
          refine ⟨⟨j + 1, T' ++ runTxt zs[k] zs[j], by omega, by go_num, by rw [List.length_append]; have := HJ.out; omega, h5, hbw'.trans (Below.trans (below_drew (Below.refl _ _)) b5), Nat.lt_of_lt_of_le hsz' b5.size, ?_⟩, by have := HJ.out; simp [intOf]; omega⟩
          unfold Hid
          rw [HR'.out, if_neg (by omega), listC_round hkl HGN.out HJ.out hjl, List.append_assoc]
    · have hfin : Hid (T = listL zs) := by
        have := HR.out
        rw [if_neg (by omega), if_pos (List.drop_eq_nil_of_le (by omega)), List.append_nil] at this
        unfold Hid listL; rw [if_neg (by intro h; rw [h] at h0; simp at h0)]; exact this.symm
      go_wp2_with fail
      refine (Tryd.Builder_String_any_k W2.heap.size W2.heap.size T _ hI (by omega)).mono ?_
      rintro e W1 ⟨rfl, _, b1, _⟩
      go_wp2_with fail
      go_ret2
      exact ⟨ret_stri (by rw [hfin.out]) rfl, bw2.trans ((hbw.trans b1).mono z2)⟩
theorem ret_strl {l : List UInt8} {n m : Int} {l' : List UInt8} (h : l = l') (h' : n = m) : Ending.returned (.tuple #[.string ⟨l.toArray⟩, .int .i64 n]) = .returned (.tuple #[.string ⟨l'.toArray⟩, .int .i64 m]) := by rw [h, h']
set_option maxRecDepth 100000 in
set_option maxHeartbeats 1000000 in
theorem wList (v : Value) (zs : List Int) (w : World) (ha : Amb w) (hz : IntsAt w v zs) :
    Calls Tryd.prog 30 #[v] w fun e w' => e = .returned (.tuple #[.string ⟨(lisS zs).toArray⟩, .int .i64 (lisE zs)]) ∧ Below w.heap.size w w' := by
  by_cases h5 : 500 < zs.length
  · have HL := Lib.hid (lis_long h5)
    have h5' : (500 : Int) < zs.length := by omega
    rcases hz with ⟨rfl, rfl⟩ | ⟨b, o, cap, rfl, hlt, hm, hm', hc⟩
    · simp at h5
    go_enter Tryd.func30, Tryd.ntmps30
    go_wp2_with fail
    go_ret2
    exact ⟨ret_strl (l := []) HL.out.2.symm HL.out.1.symm, Below.refl _ _⟩
  have h5' : (zs.length : Int) ≤ 500 := by omega
  by_cases hn : numsB zs = true
  · by_cases has : ascB zs = true
    · have HL := Lib.hid (lis_ok h5 hn has)
      by_cases h0 : 0 < zs.length
      · rcases hz with ⟨rfl, rfl⟩ | ⟨b, o, cap, rfl, hlt, hm, hm', hc⟩
        · simp at h0
        refine (wList_ok b o cap zs w ha hlt hm hm' hc (by omega) hn has h0).mono ?_
        rintro e w' ⟨rfl, hb⟩
        exact ⟨ret_strl HL.out.2.symm HL.out.1.symm, hb⟩
      · have hzs : zs = [] := List.eq_nil_of_length_eq_zero (by omega)
        subst hzs
        have HZ := Lib.hid hz
        have key : ∀ v, IntsAt w v [] → (∃ c p, v = .slice p 0 c) → Calls Tryd.prog 30 #[v] w fun e w' => e = .returned (.tuple #[.string ⟨(lisS []).toArray⟩, .int .i64 (lisE [])]) ∧ Below w.heap.size w w' := by
          rintro v hv ⟨c, p, rfl⟩
          go_enter Tryd.func30, Tryd.ntmps30
          go_wp2_with fail
          refine (wNumbers _ [] _ hv).mono ?_
          rintro e W1 ⟨rfl, b1⟩
          have hn' : (!numsB []) = false := by simp [hn]
          have has' : (!ascB []) = false := by simp [has]
          go_wp2_with fail
          refine (wAscending _ [] _ (hv.below b1)).mono ?_
          rintro e W2 ⟨rfl, b2⟩
          go_wp2_with fail
          go_ret2
          exact ⟨ret_strl (l := [45]) HL.out.2.symm HL.out.1.symm, b1.trans (b2.mono b1.size)⟩
        refine key v hz ?_
        rcases hz with ⟨rfl, _⟩ | ⟨b, o, cap, rfl, _⟩
        · exact ⟨_, _, rfl⟩
        · exact ⟨_, _, rfl⟩
    · have has' : ascB zs = false := by simpa using has
      have HL := Lib.hid (lis_asc h5 hn has')
      have key : ∀ v, IntsAt w v zs → (∃ c p, v = .slice p zs.length c) → Calls Tryd.prog 30 #[v] w fun e w' => e = .returned (.tuple #[.string ⟨(lisS zs).toArray⟩, .int .i64 (lisE zs)]) ∧ Below w.heap.size w w' := by
        rintro v hv ⟨c, p, rfl⟩
        go_enter Tryd.func30, Tryd.ntmps30
        go_wp2_with fail
        refine (wNumbers _ zs _ hv).mono ?_
        rintro e W1 ⟨rfl, b1⟩
        have hn' : (!numsB zs) = false := by simp [hn]
        have has'' : (!ascB zs) = true := by simp [has']
        go_wp2_with fail
        refine (wAscending _ zs _ (hv.below b1)).mono ?_
        rintro e W2 ⟨rfl, b2⟩
        go_wp2_with fail
        go_ret2
        exact ⟨ret_strl (l := []) HL.out.2.symm HL.out.1.symm, b1.trans (b2.mono b1.size)⟩
      refine key v hz ?_
      rcases hz with ⟨rfl, h⟩ | ⟨b, o, cap, rfl, _⟩
      · rw [h]; exact ⟨_, _, rfl⟩
      · exact ⟨_, _, rfl⟩
  · have hn' : numsB zs = false := by simpa using hn
    have HL := Lib.hid (lis_num h5 hn')
    have key : ∀ v, IntsAt w v zs → (∃ c p, v = .slice p zs.length c) → Calls Tryd.prog 30 #[v] w fun e w' => e = .returned (.tuple #[.string ⟨(lisS zs).toArray⟩, .int .i64 (lisE zs)]) ∧ Below w.heap.size w w' := by
      rintro v hv ⟨c, p, rfl⟩
      go_enter Tryd.func30, Tryd.ntmps30
      go_wp2_with fail
      refine (wNumbers _ zs _ hv).mono ?_
      rintro e W1 ⟨rfl, b1⟩
      have hn'' : (!numsB zs) = true := by simp [hn']
      go_wp2_with fail
      go_ret2
      exact ⟨ret_strl (l := []) HL.out.2.symm HL.out.1.symm, b1⟩
    refine key v hz ?_
    rcases hz with ⟨rfl, h⟩ | ⟨b, o, cap, rfl, _⟩
    · rw [h]; exact ⟨_, _, rfl⟩
    · exact ⟨_, _, rfl⟩
end Go.Proofs.YtoknncoolmbklaaDoor
