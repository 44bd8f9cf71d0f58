/- UNDER WAY: the first loop of ParseList of the reference. -/
import Derived.Test.YtoknncoolmbklaaDoorRParts
import Derived.Test.YtoknncoolmbklaaDoorPlain
import Derived.Test.YtoknncoolmbklaaDoorRNext
import Derived.Test.YtoknncoolmbklaaDoorIntsEq
import Derived.Test.YtoknncoolmbklaaDoorRInt
import Derived.Test.YtoknncoolmbklaaDoorRDigits
import Derived.Deep.AppendLies
namespace Go.Proofs.YtoknncoolmbklaaDoor
set_option linter.unusedVariables false
set_option linter.unusedSimpArgs false
open Go.RowKit Go.Sort
theorem rDecQ (l : List UInt8) (hl : l.length ≤ 10000) (W : World) : Calls Tryd.prog 37 #[.string ⟨l.toArray⟩] W fun e w' => e = .returned (.bool (decL l)) ∧ w' = W :=
  (rDecimal ⟨l.toArray⟩ W (by rw [sizeL]; omega)).mono fun _ _ ⟨h, h'⟩ => ⟨h, h'.symm⟩
theorem rLessQ (l m : List UInt8) (W : World) : Calls Tryd.prog 63 #[.string ⟨l.toArray⟩, .string ⟨m.toArray⟩] W fun e w' => e = .returned (.bool (lessL l m)) ∧ w' = W :=
  (rLess ⟨l.toArray⟩ ⟨m.toArray⟩ W).mono fun _ _ ⟨h, h'⟩ => ⟨h, h'.symm⟩
theorem rPartsL (l : List UInt8) (c : UInt8) (w : World) (hs : l.length ≤ 10000) :
    Calls Tryd.prog 62 #[.string ⟨l.toArray⟩, .int .u8 c.toNat] w fun e w' => ∃ v, e = .returned v ∧ StrsAt w' v (partsL c l) ∧ Below w.heap.size w w' := by
  have hl := parts_len c l []
  refine (rParts ⟨l.toArray⟩ c w (by rw [sizeL]; omega)).mono ?_
  rintro e w' ⟨v, rfl, hv, hb⟩
  exact ⟨v, rfl, strsAt_of_owns hv (by unfold partsL; omega), hb⟩
theorem rIntQ (l : List UInt8) (hl : l.length ≤ 10000) (W : World) : Calls Tryd.prog 14 #[.string ⟨l.toArray⟩, .int .i64 0, .int .i64 1000000000] W fun e w' => e = .returned (.tuple #[.int .i64 (numV l), .int .i64 (intE l 0 1000000000)]) ∧ w' = W :=
  (rInt ⟨l.toArray⟩ 0 1000000000 (by unfold inI64; omega) (by unfold inI64; omega) W (by rw [sizeL]; omega)).mono fun _ _ ⟨h, h'⟩ => ⟨h, h'.symm⟩
theorem ne_of {a b : Option Nat} (h : a = none ∨ a ≠ b) : b = none ∨ b ≠ a := by
  rcases h with h | h
  · subst h
    cases b with
    | none => exact .inl rfl
    | some x => exact .inr (by simp)
  · exact .inr (Ne.symm h)
theorem far_of {a b : Option Nat} {g H n : Nat} (h : a = none ∨ a ≠ b) (hat : a = some g ∨ g = H) (hlt : b = some g → g < n) (hH : n ≤ H) : b ≠ some g := by
  intro e
  rcases hat with h1 | h1
  · rcases h with h2 | h2
    · rw [h2] at h1; cases h1
    · exact h2 (h1.trans e.symm)
  · have := hlt e; omega
/-- What holds between two integers of a run. -/
def AtNum5 (a b : Int) (acc : List Int) (w : World) (v8 v15 : Value) (wr : World) : Prop :=
  ∃ j : Nat, j ≤ (b - a + 1).toNat ∧ acc.length + j ≤ 500 ∧ v15 = .int .i64 (a + j) ∧ wr.ownsRow w.heap.size 3 1 v8 (acc.length + j) (icells (acc ++ upto a j)) ∧ Below w.heap.size w wr
/-- What holds between two parts in the first loop. -/
def AtRef (ps : List (List UInt8)) (W : World) (v4 v5 v6 v8 : Value) (wr : World) : Prop :=
  ∃ (k : Nat) (acc : List RN), k ≤ ps.length ∧ acc.length = k ∧ v8 = .int .i64 k ∧ v4 = .string ⟨(lastR acc).toArray⟩ ∧ wr.ownsRow W.heap.size 9 1 v5 acc.length (scells (acc.map (·.1))) ∧ wr.ownsRow W.heap.size 9 1 v6 acc.length (scells (acc.map (·.2))) ∧
    (v5.ownBlock = none ∨ v5.ownBlock ≠ v6.ownBlock) ∧ Below W.heap.size W wr ∧ Hid (runsG [] ps = runsG acc (ps.drop k)) ∧ Hid (∀ r ∈ acc, natL r.2 = true ∧ r.2.length ≤ 10000 ∧ r.1.length ≤ 10000)
set_option maxRecDepth 100000 in
set_option maxHeartbeats 2000000 in
theorem rParse_main (s : ByteArray) (w : World) (hs : s.size ≤ 10000) (h45 : s.data.toList ≠ [45]) :
    Calls Tryd.prog 33 #[.string s] w fun e w' => ∃ v, e = .returned (.tuple #[v, .int .i64 (parE s.data.toList)]) ∧ w'.ownsRow w.heap.size 3 1 v (parV s.data.toList).length (icells (parV s.data.toList)) ∧ Below w.heap.size w w' := by
  have hm : (s.toList == [45]) = false := by rw [ByteArray.toList_eq]; simpa using h45
  have hm2 : ¬ s.toList = [45] := by rw [ByteArray.toList_eq]; exact h45
  obtain ⟨ps, hps⟩ : ∃ ps, partsL 44 s.data.toList = ps := ⟨_, rfl⟩
  have hpe : ∀ p ∈ ps, p.length ≤ 10000 := fun p hp => by
    have := parts_each 44 s.data.toList [] p (by rw [← hps] at hp; exact hp)
    rw [len_data] at this; simp at this; omega
  have hp0 : 0 < ps.length := by rw [← hps]; exact List.length_pos_iff.2 (partsC_pos 44 s.data.toList [])
  have HP0 := Lib.hid hp0
  have hpl : ps.length ≤ 10001 := by have := parts_len 44 s.data.toList []; rw [len_data] at this; rw [← hps]; unfold partsL; omega
  have hsp := rPartsL s.data.toList 44 w (by rw [len_data]; exact hs)
  rw [hps] at hsp
  have hse : (⟨s.data.toList.toArray⟩ : ByteArray) = s := by simp
  rw [hse] at hsp
  have HSP := Lib.hid hsp
  have HPE := Lib.hid hpe
  have HRL : Hid (runsL s.data.toList = runsG [] ps) := by unfold Hid runsL; rw [hps]
  have H45 := Lib.hid h45
  clear hps hsp hpe hse h45 hp0
  go_enter Tryd.func33, Tryd.ntmps33
  go_wp2_with fail
  refine HSP.out.mono ?_
  rintro e W1 ⟨v, rfl, hst, b1⟩
  obtain ⟨pp, cp, rfl⟩ := hst.shape
  have HST := Lib.hid hst
  have hn0 := World.ownsRow_nil W1 W1.heap.size 9 1
  have hz01 := b1.size
  have hplI : (ps.length : Int) ≤ 10001 := by omega
  clear hst
  go_wp2_with fail
  go_loopw [4, 5, 6, 8] (AtRef ps W1) (fun _ _ _ i _ => ps.length - (intOf i).toNat)
  case atStart => exact ⟨0, [], by omega, rfl, rfl, rfl, hn0, hn0, .inl rfl, Below.refl _ _, rfl, fun r hr => by simp at hr⟩
  case round =>
    obtain ⟨k, acc, hk, hak, rfl, rfl, hown5, hown6, hdis, hbw, HG, HA⟩ := hrel
    by_cases hkp : k < ps.length
    · have hkI : (k : Int) < ps.length := by omega
      obtain ⟨bp, op, rfl, hlt, hc0⟩ := (HST.out.below hbw).get k hkp
      obtain ⟨p, hpd⟩ : ∃ p, ps[k] = p := ⟨_, rfl⟩
      rw [hpd] at hc0
      have hple : p.length ≤ 10000 := by rw [← hpd]; exact HPE.out _ (List.getElem_mem hkp)
      have HDR : Hid (ps.drop k = p :: ps.drop (k + 1)) := by unfold Hid; rw [← hpd]; exact List.drop_eq_getElem_cons hkp
      have HRP := Lib.hid (runF_parts p)
      have hrl := runF_len p
      have hpn := partsC_pos 45 p []
      have hpe := parts_each 45 p []
      obtain ⟨es, hes⟩ : ∃ es, partsL 45 p = es := ⟨_, rfl⟩
      have hes0 : es ≠ [] := by rw [← hes]; exact hpn
      have hesl : ∀ x ∈ es, x.length ≤ 10000 := fun x hx => by
        have := hpe x (by rw [← hes] at hx; exact hx)
        simp at this; omega
      have hpc := fun W => rPartsL p 45 W hple
      rw [hes] at hpc HRP
      have HPC := Lib.hid hpc
      have hzw := hbw.size
      clear hpd hpn hpe hpc
      go_wp2_with fail
      refine (HPC.out _).mono ?_
      rintro e W2 ⟨v9, rfl, hst9, b2⟩
      have hown52 := ownsRow_below hown5 b2
      have hown62 := ownsRow_below hown6 b2
      have hbw2 := hbw.trans (b2.mono hzw)
      obtain ⟨p9, c9, rfl⟩ := hst9.shape
      have H9 := Lib.hid hst9
      clear hown5 hown6 b2 hst9 hc0
      obtain ⟨L, hL⟩ : ∃ L, es.length = L := ⟨_, rfl⟩
      rw [hL]
      have HL := Lib.hid hL
      clear hL
      go_upto_region 10 with fail
      go_cut [63] (fun v63 wx => v63 = .bool (!refOk es) ∧ ∃ n, wx = W2.drewN n)
      case first =>
        match es, hes0, hesl, H9, HL with
        | [e0], _, hesl, H9, HL =>
          have hl1 : 1 = L := HL.out
          subst hl1
          obtain ⟨b9, o9, hq, hl9, h0⟩ := H9.out.get 0 (by simp)
          have h00 : W2.cell? ⟨b9, o9, none⟩ = some (.string ⟨e0.toArray⟩) := h0
          clear h0
          subst hq
          have D0 := Lib.hid (rDecQ e0 (hesl e0 (by simp)))
          cases hd0 : decL e0 with
          | false =>
            rw [hd0] at D0
            have HO : Hid (refOk [e0] = false) := hd0
            clear hd0
            go_quiet ((go_at_call 37; with_reducible exact Calls.quiet_of_same (D0.out _)))
            go_wp2_with fail
            go_meet
            exact ⟨by rw [HO.out]; rfl, _, rfl⟩
          | true =>
            rw [hd0] at D0
            have HO : Hid (refOk [e0] = true) := hd0
            clear hd0
            go_quiet ((go_at_call 37; with_reducible exact Calls.quiet_of_same (D0.out _)))
            go_wp2_with fail
            go_meet
            exact ⟨by rw [HO.out]; rfl, _, rfl⟩
        | [e0, e1], _, hesl, H9, HL =>
          have hl1 : 2 = L := HL.out
          subst hl1
          obtain ⟨b9, o9, hq, hl9, h0⟩ := H9.out.get 0 (by simp)
          obtain ⟨b8, o8, hq8, _, h1⟩ := H9.out.get 1 (by simp)
          subst hq
          injection hq8 with hq8
          injection hq8 with hq81 hq82
          subst hq81
          subst hq82
          have h00 : W2.cell? ⟨b9, o9, none⟩ = some (.string ⟨e0.toArray⟩) := h0
          have h11 : W2.cell? ⟨b9, o9 + 1, none⟩ = some (.string ⟨e1.toArray⟩) := h1
          clear h0 h1
          have D0 := Lib.hid (rDecQ e0 (hesl e0 (by simp)))
          have D1 := Lib.hid (rDecQ e1 (hesl e1 (by simp)))
          have DL := Lib.hid (rLessQ e0 e1)
          cases hd0 : decL e0 with
          | false =>
            rw [hd0] at D0
            have HO : Hid (refOk [e0, e1] = false) := by unfold Hid refOk; simp only; rw [hd0]; rfl
            clear hd0
            go_quiet ((go_at_call 37; with_reducible exact Calls.quiet_of_same (D0.out _)))
            go_wp2_with fail
            go_meet
            exact ⟨by rw [HO.out]; rfl, _, rfl⟩
          | true =>
            rw [hd0] at D0
            cases hd1 : decL e1 with
            | false =>
              rw [hd1] at D1
              have HO : Hid (refOk [e0, e1] = false) := by unfold Hid refOk; simp only; rw [hd0, hd1]; rfl
              clear hd0 hd1
              go_quiet ((first | (go_at_call 37; with_reducible exact Calls.quiet_of_same (D0.out _)) | (go_at_call 37; with_reducible exact Calls.quiet_of_same (D1.out _))))
              go_wp2_with fail
              go_meet
              exact ⟨by rw [HO.out]; rfl, _, rfl⟩
            | true =>
              rw [hd1] at D1
              cases hle : lessL e0 e1 with
              | false =>
                rw [hle] at DL
                have HO : Hid (refOk [e0, e1] = false) := by unfold Hid refOk; simp only; rw [hd0, hd1, hle]; rfl
                clear hd0 hd1 hle
                go_quiet ((first | (go_at_call 37; with_reducible exact Calls.quiet_of_same (D0.out _)) | (go_at_call 37; with_reducible exact Calls.quiet_of_same (D1.out _)) | (go_at_call 63; with_reducible exact Calls.quiet_of_same (DL.out _))))
                go_wp2_with fail
                go_meet
                exact ⟨by rw [HO.out]; rfl, _, rfl⟩
              | true =>
                rw [hle] at DL
                have HO : Hid (refOk [e0, e1] = true) := by unfold Hid refOk; simp only; rw [hd0, hd1, hle]; rfl
                clear hd0 hd1 hle
                go_quiet ((first | (go_at_call 37; with_reducible exact Calls.quiet_of_same (D0.out _)) | (go_at_call 37; with_reducible exact Calls.quiet_of_same (D1.out _)) | (go_at_call 63; with_reducible exact Calls.quiet_of_same (DL.out _))))
                go_wp2_with fail
                go_meet
                exact ⟨by rw [HO.out]; rfl, _, rfl⟩
        | e0 :: e1 :: e2 :: er, _, hesl, H9, HL =>
          have hl2 : er.length + 3 = L := HL.out
          have hg3' : (2 : Int) < (L : Int) := by omega
          have hg3 : decide ((2 : Int) < (L : Int)) = true := decide_eq_true hg3'
          have HO : Hid (refOk (e0 :: e1 :: e2 :: er) = false) := rfl
          clear hl2
          go_quiet (fail)
          go_wp2_with fail
          go_meet
          exact ⟨by rw [HO.out]; rfl, _, rfl⟩
      case rest =>
        obtain ⟨rfl, n, rfl⟩ := hcut
        obtain ⟨W3, hW3⟩ : ∃ W3, W2.drewN n = W3 := ⟨_, rfl⟩
        have hb23 : Below W2.heap.size W2 W3 := by rw [← hW3]; exact below_drewN (Below.refl _ _) n
        have hown53 := ownsRow_below hown52 hb23
        have hown63 := ownsRow_below hown62 hb23
        have hz2' := hbw2.size
        have hbw3 := hbw2.trans (hb23.mono hz2')
        have H93 := Lib.hid (H9.out.below hb23)
        rw [hW3]
        clear hW3 hown52 hown62 hb23
        cases hok : refOk es with
        | false =>
          have hbad : okRun acc p = false := by unfold okRun; rw [HRP.out.1, hok]; rfl
          have HP := Lib.hid (par_none H45.out (by rw [HRL.out, HG.out, HDR.out, runsG_bad hbad]))
          clear hbad hok
          go_wp2_with fail
          go_ret2
          rw [HP.out.1, HP.out.2]
          exact ⟨_, rfl, World.ownsRow_nil _ _ _ _, b1.trans (hbw3.mono hz01)⟩
        | true =>
          have HOK := Lib.hid hok
          have hru := HRP.out.2 (by rw [HRP.out.1, hok])
          clear hok
          go_upto_region 12 with fail
          go_cut [74] (fun v74 wx => v74 = .bool (!okRun acc p) ∧ Below W3.heap.size W3 wx)
          case first =>
            obtain ⟨e0, er, hee⟩ : ∃ e0 er, es = e0 :: er := by
              cases hx : es with
              | nil => exact absurd hx hes0
              | cons e0 er => exact ⟨e0, er, rfl⟩
            subst hee
            have he0 : (runF p).1 = e0 := by have := hru.1; simp at this; exact this.symm
            obtain ⟨b9, o9, hq, hl9, h0⟩ := H93.out.get 0 (by simp)
            have h00 : W3.cell? ⟨b9, o9, none⟩ = some (.string ⟨e0.toArray⟩) := h0
            clear h0
            subst hq
            have hLp : (0 : Int) < (L : Int) := by have := HL.out; simp at this; omega
            have hLN : 0 < L := by omega
            have hLN2 : decide (0 < L) = true := decide_eq_true hLN
            have HE0 := Lib.hid he0
            clear he0 hru
            by_cases hk0 : k = 0
            · have hacc : acc = [] := List.eq_nil_of_length_eq_zero (by omega)
              have HO : Hid (okRun acc p = true) := by unfold Hid okRun; rw [hacc, HRP.out.1, HOK.out]; rfl
              have hkI0 : decide ((0 : Int) < (k : Int)) = false := decide_eq_false (by omega)
              have hkN : decide (0 < k) = false := decide_eq_false (by omega)
              have hkN2 : ¬ 0 < k := by omega
              clear hk0 hacc
              go_quiet (fail)
              go_wp2_with fail
              go_meet
              exact ⟨by rw [HO.out]; rfl, below_drewN (Below.refl _ _) _⟩
            · have hkI0 : decide ((0 : Int) < (k : Int)) = true := decide_eq_true (by omega)
              obtain ⟨r0, hr0⟩ : ∃ r0, acc.getLast? = some r0 := by
                cases hx : acc.getLast? with
                | some r => exact ⟨r, rfl⟩
                | none => rw [List.getLast?_eq_none_iff] at hx; rw [hx] at hak; simp at hak; omega
              have hlr : lastR acc = r0.2 := by unfold lastR; rw [hr0]
              have hmem := HA.out r0 (List.mem_of_getLast? hr0)
              have HO : Hid (okRun acc p = lessL (nextL (lastR acc)) e0) := by unfold Hid okRun; rw [hlr, hr0, HRP.out.1, HOK.out, HE0.out]; rfl
              rw [← hlr] at hmem
              have CN := Lib.hid fun W => rNext (lastR acc) W hmem.1 (Nat.le_trans hmem.2.1 (by decide))
              have CL := Lib.hid fun W => rLessQ (nextL (lastR acc)) e0 W
              have hS : W3.drew.cell? ⟨b9, o9, none⟩ = some (.string ⟨e0.toArray⟩) ∧ Below W3.heap.size W3 W3.drew := ⟨h00, (Below.refl _ _).drew⟩
              have hkN : decide (0 < k) = true := decide_eq_true (by omega)
              have hkN2 : 0 < k := by omega
              clear hr0 hlr hmem hk0
              go_region_held3 (fun w' => w'.cell? ⟨b9, o9, none⟩ = some (.string ⟨e0.toArray⟩) ∧ Below W3.heap.size W3 w')
                (first | exact hS | go_keep | (go_split_ands; exact ⟨keepCell hb (by assumption), keepBelow hb (by assumption)⟩))
                (first | (go_at_call 64; refine (CN.out _).mono ?_; rintro e w' ⟨rfl, hb⟩) | (go_at_call 63; refine (CL.out _).mono ?_; rintro e w' ⟨rfl, rfl⟩))
              go_wp2_with fail
              go_meet
              rename_i hH
              exact ⟨by rw [HO.out], hH.2⟩
          case rest =>
            obtain ⟨rfl, hbx⟩ := hcut
            have hown54 := ownsRow_below hown53 hbx
            have hown64 := ownsRow_below hown63 hbx
            have hz3 := hbw3.size
            have hbwx := hbw3.trans (hbx.mono hz3)
            have H9x := Lib.hid (H93.out.below hbx)
            have HRU := Lib.hid hru
            clear hown53 hown63 hbx hru
            cases hokr : okRun acc p with
            | false =>
              have HP := Lib.hid (par_none H45.out (by rw [HRL.out, HG.out, HDR.out, runsG_bad hokr]))
              clear hokr
              go_wp2_with fail
              go_ret2
              rw [HP.out.1, HP.out.2]
              exact ⟨_, rfl, World.ownsRow_nil _ _ _ _, b1.trans (hbwx.mono hz01)⟩
            | true =>
              have HG2 : Hid (runsG [] ps = runsG (acc ++ [runOf p]) (ps.drop (k + 1))) := by unfold Hid; rw [HG.out, HDR.out, runsG_good hokr]
              have HDG := Lib.hid (runF_digits (l := p) (by rw [HRP.out.1, HOK.out]))
              clear hokr
              obtain ⟨n9, hn9⟩ : ∃ n9, L = n9 + 1 := ⟨L - 1, by have := HL.out; have := List.length_pos_iff.2 hes0; omega⟩
              subst hn9
              obtain ⟨b9, o9, hq, hl9, c0⟩ := H9x.out.get 0 (by have := HL.out; omega)
              obtain ⟨b8, o8, hq8, _, c1⟩ := H9x.out.get n9 (by have := HL.out; omega)
              subst hq
              injection hq8 with hq8
              injection hq8 with hq81 hq82
              subst hq81
              subst hq82
              have f0 : es[0]'(by have := HL.out; omega) = (runF p).1 := by
                have := HRU.out.1
                rw [List.head?_eq_getElem?, List.getElem?_eq_getElem (by have := HL.out; omega)] at this
                exact Option.some.inj this
              have f1 : es[n9]'(by have := HL.out; omega) = (runF p).2.1 := by
                have := HRU.out.2
                rw [List.getLast?_eq_getElem?, show es.length - 1 = n9 by have := HL.out; omega, List.getElem?_eq_getElem (by have := HL.out; omega)] at this
                exact Option.some.inj this
              rw [f0] at c0
              rw [f1] at c1
              have c00 : wc.cell? ⟨b9, o9, none⟩ = some (.string ⟨(runF p).1.toArray⟩) := c0
              obtain ⟨x0, hx0⟩ : ∃ x0, (runF p).1 = x0 := ⟨_, rfl⟩
              obtain ⟨x1, hx1⟩ : ∃ x1, (runF p).2.1 = x1 := ⟨_, rfl⟩
              rw [hx0] at c00
              rw [hx1] at c1
              have HRO : Hid (runOf p = (x0, x1)) := by unfold Hid runOf; rw [hx0, hx1]
              have HX1 : Hid (natL x1 = true ∧ x1.length ≤ 10000 ∧ x0.length ≤ 10000) := by
                refine ⟨?_, ?_, ?_⟩
                · have := HDG.out.2; rw [hx1] at this; exact this
                · rw [hx1] at hrl; omega
                · rw [hx0] at hrl; omega
              have hnb : (n9 : Int) ≤ 10001 := by
                have h1 := parts_len 45 p []
                have h2 : (partsL 45 p).length = n9 + 1 := by rw [hes]; exact HL.out
                unfold partsL at h2
                omega
              have e1 : (n9 : Int) + 1 - 1 = n9 := by omega
              have e5 : (n9 : Int) < (n9 : Int) + 1 := by omega
              have e6 : (0 : Int) < (n9 : Int) + 1 := by omega
              have hzx := hbwx.size
              have hx1' : acc.length + 1 ≤ maxLen := by unfold maxLen; omega
              have hx2' : (acc.length + 1) * 16 ≤ 140737488355328 := by omega
              have hx3 : W1.heap.size ≤ (wc.alloc (.cells #[.string ⟨x0.toArray⟩] 9)).heap.size := by simp; omega
              have HD := Lib.hid hdis
              obtain ⟨i0, hi, hz0, hz1, hz2⟩ := info_parts infoStr
              clear c0 f0 f1 hx0 hx1 hrl hdis
              go_wp2_with (at_builtin; refine wpList_append_lies _ rfl _ _ 71 rfl W1.heap.size 9 i0 (.string ByteArray.empty) 1 16 Tryd.underlying71 hi hz0 hz1 hz2 rfl (by decide) _ _ _ rfl (hown54.alloc _) ⟨wc.heap.size, 0, none⟩ 1 1 [.string ⟨x0.toArray⟩] rfl rfl ?a1 ?a2 (by decide) hx1' hx2' hx3 _ rfl ?a6)
              try (case a1 =>
                intro j u hj
                match j, hj with
                | 0, hj => simp at hj; subst hj; simp [World.cell?_alloc_new, Addr.add]
                | j + 1, hj => simp at hj)
              case a2 => first | rfl | (intro u hu; simp at hu; subst hu; rfl)
              case a6 =>
                intro g5 q5 w5 hown55 hgrow5 hat5 hlt5
                have hne6 := ne_of HD.out
                have hown65 := (hown64.alloc (.cells #[.string ⟨x0.toArray⟩] 9)).kept hgrow5 hne6
                have hbw5 : Below W1.heap.size W1 w5 := (hbwx.alloc hzx _).grown hgrow5 hx3 (fun k e => (hown54.lt k e).1)
                have hz5 := hbw5.size
                have hfar := far_of HD.out hat5 (fun e => (hown64.lt g5 e).2) (by simp)
                have HFAR := Lib.hid hfar
                have HLT5 := Lib.hid hlt5
                have hx3b : W1.heap.size ≤ (w5.alloc (.cells #[.string ⟨x1.toArray⟩] 9)).heap.size := by simp; omega
                clear hgrow5 hat5 hlt5 hne6 hfar
                go_wp2_with (at_builtin; refine wpList_append_lies _ rfl _ _ 71 rfl W1.heap.size 9 i0 (.string ByteArray.empty) 1 16 Tryd.underlying71 hi hz0 hz1 hz2 rfl (by decide) _ _ _ rfl (hown65.alloc _) ⟨w5.heap.size, 0, none⟩ 1 1 [.string ⟨x1.toArray⟩] rfl rfl ?d1 ?d2 (by decide) hx1' hx2' hx3b _ rfl ?d6)
                try (case d1 =>
                  intro j u hj
                  match j, hj with
                  | 0, hj => simp at hj; subst hj; simp [World.cell?_alloc_new, Addr.add]
                  | j + 1, hj => simp at hj)
                case d2 => first | rfl | (intro u hu; simp at hu; subst hu; rfl)
                case d6 =>
                  intro g6 q6 w6 hown66 hgrow6 hat6 hlt6
                  have hown56 := (hown55.alloc (.cells #[.string ⟨x1.toArray⟩] 9)).kept hgrow6 (.inr (fun e => HFAR.out e.symm))
                  have hbw6 : Below W1.heap.size W1 w6 := (hbw5.alloc hz5 _).grown hgrow6 hx3b (fun k e => (hown65.lt k e).1)
                  have hdis2 : g5 ≠ g6 := by
                    intro e
                    subst e
                    rcases hat6 with h | h
                    · exact HFAR.out h
                    · have := HLT5.out; first | omega | (simp at h; omega)
                  have hl1 : lastR (acc ++ [runOf p]) = x1 := by rw [HRO.out]; unfold lastR; simp
                  have hs5 : scells ((acc ++ [runOf p]).map (·.1)) = scells (acc.map (·.1)) ++ [.string ⟨x0.toArray⟩] := by rw [HRO.out, List.map_append]; exact scells_snoc _ _
                  have hs6 : scells ((acc ++ [runOf p]).map (·.2)) = scells (acc.map (·.2)) ++ [.string ⟨x1.toArray⟩] := by rw [HRO.out, List.map_append]; exact scells_snoc _ _
                  go_wp2_with fail
                  go_roundw
                  case rel =>
                    refine ⟨k + 1, acc ++ [runOf p], by omega, by simp; omega, by go_num, by rw [hl1], ?_, ?_, .inr (by simpa [Value.ownBlock] using hdis2), hbw6, HG2, ?_⟩
                    · rw [hs5, show (acc ++ [runOf p]).length = k + 1 by rw [List.length_append, hak]; rfl]; exact hown56
                    · rw [hs6, show (acc ++ [runOf p]).length = k + 1 by rw [List.length_append, hak]; rfl]; exact hown66
                    · intro r hr
                      rcases List.mem_append.1 hr with h | h
                      · exact HA.out r h
                      · rw [HRO.out] at h
                        simp at h; subst h; exact HX1.out
                  case measure => simp [intOf]; omega
    · obtain rfl : k = ps.length := by omega
      have hkI : ¬ ((ps.length : Int) < (ps.length : Int)) := by omega
      have HF : Hid (runsL s.data.toList = some acc) := by
        unfold Hid; rw [HRL.out, HG.out, List.drop_length]; rfl
      obtain ⟨r0, hr0⟩ : ∃ r0, acc.getLast? = some r0 := by
        cases hx : acc.getLast? with
        | some r => exact ⟨r, rfl⟩
        | none => rw [List.getLast?_eq_none_iff] at hx; rw [hx] at hak; have := HP0.out; simp at hak; omega
      have hlr : lastR acc = r0.2 := by unfold lastR; rw [hr0]
      have hmem := HA.out r0 (List.mem_of_getLast? hr0)
      rw [← hlr] at hmem
      have hrt := range_text hmem.1
      have CD : Hid (∀ W : World, Calls Tryd.prog 18 #[.int .i64 1000000000] W fun e w' => e = .returned (.string ⟨maxTxt.toArray⟩) ∧ Below W.heap.size W w') := by
        intro W; have := rDigits 1000000000 (by decide) (by decide) W; rw [maxTxt_nat.2.2] at this; exact this
      obtain ⟨mx, hmxt⟩ : ∃ mx, maxTxt = mx := ⟨_, rfl⟩
      rw [hmxt] at CD hrt
      have cl := fun W => rLessQ mx (lastR acc) W
      have hzw := hbw.size
      have hS : Below wr.heap.size wr wr.drew := (Below.refl _ _).drew
      obtain ⟨F5, hF5⟩ : ∃ F5, acc.map (·.1) = F5 := ⟨_, rfl⟩
      obtain ⟨F6, hF6⟩ : ∃ F6, acc.map (·.2) = F6 := ⟨_, rfl⟩
      have hl5 : F5.length = ps.length := by rw [← hF5, List.length_map]; exact hak
      have hl6 : F6.length = ps.length := by rw [← hF6, List.length_map]; exact hak
      rw [hF5, hak, ← hl5] at hown5
      rw [hF6, hak, ← hl6] at hown6
      have hst5 := strsAt_of_owns hown5 (by omega)
      have hst6 := strsAt_of_owns hown6 (by omega)
      obtain ⟨p5, c5, rfl⟩ := hst5.shape
      obtain ⟨p6, c6, rfl⟩ := hst6.shape
      have H5 := Lib.hid hst5
      have H6 := Lib.hid hst6
      have HF5 := Lib.hid hF5
      have HF6 := Lib.hid hF6
      clear hst5 hst6 hF5 hF6 hown5 hown6 hr0 hlr hmem hmxt hdis HG
      cases hmx : lessL mx (lastR acc) with
      | true =>
        rw [hmx] at cl
        have CL := Lib.hid cl
        have HP := Lib.hid (par_range H45.out HF.out (hrt.1 hmx))
        clear cl hmx hrt
        go_wp2_with fail
        refine (CD.out _).mono ?_
        rintro e wx ⟨rfl, hbx⟩
        go_wp2_with fail
        refine (CL.out _).mono ?_
        rintro e wy ⟨rfl, rfl⟩
        go_wp2_with fail
        go_ret2
        rw [HP.out.1, HP.out.2]
        exact ⟨_, rfl, World.ownsRow_nil _ _ _ _, b1.trans ((hbw.trans (hbx.mono hzw)).mono hz01)⟩
      | false =>
        rw [hmx] at cl
        have CL := Lib.hid cl
        have HZ : Hid (intE (lastR acc) 0 1000000000 = 0) := by
          unfold Hid
          rcases Decidable.em (intE (lastR acc) 0 1000000000 = 0) with h | h
          · exact h
          · have := hrt.2 h; rw [hmx] at this; cases this
        clear cl hmx hrt
        go_wp2_with fail
        refine (CD.out _).mono ?_
        rintro e wx ⟨rfl, hbx⟩
        go_wp2_with fail
        refine (CL.out _).mono ?_
        rintro e wy ⟨rfl, hwy⟩
        have hbx : Below wr.heap.size wr wy := by rw [hwy]; exact hbx
        subst hwy
        have hbwx := hbw.trans (hbx.mono hzw)
        have H5x := Lib.hid (H5.out.below hbx)
        have H6x := Lib.hid (H6.out.below hbx)
        have hn1 := World.ownsRow_nil wy wy.heap.size 3 1
        have hzx := hbwx.size
        obtain ⟨i0, hi, hz0, hz1, hz2⟩ := info_parts infoInt
        clear hbx hS hn0
        go_wp2_with fail
        go_loopw [10, 11] (AtRun acc wy) (fun _ i _ => acc.length - (intOf i).toNat)
        case atStart => exact ⟨0, [], by omega, by simp, rfl, hn1, Below.refl _ _, rfl⟩
        case round =>
          obtain ⟨k, out, hk2, hol, rfl, hown, hbo, HGo⟩ := hrel
          by_cases hkr : k < acc.length
          · have hkI2 : (k : Int) < ps.length := by omega
            have hkI5 : (k : Int) < F5.length := by omega
            have hkI6 : (k : Int) < F6.length := by omega
            obtain ⟨b5, o5, rfl, hlt5, hc5⟩ := (H5x.out.below hbo).get k (by omega)
            obtain ⟨b6, o6, rfl, hlt6, hc6⟩ := (H6x.out.below hbo).get k (by omega)
            obtain ⟨r, hr⟩ : ∃ r, acc[k] = r := ⟨_, rfl⟩
            have f5 : F5[k]'(by omega) = r.1 := by
              have := HF5.out; subst this; rw [List.getElem_map, hr]
            have f6 : F6[k]'(by omega) = r.2 := by
              have := HF6.out; subst this; rw [List.getElem_map, hr]
            rw [f5] at hc5
            rw [f6] at hc6
            have hmr := HA.out r (by rw [← hr]; exact List.getElem_mem hkr)
            have HDR : Hid (acc.drop k = r :: acc.drop (k + 1)) := by unfold Hid; rw [← hr]; exact List.drop_eq_getElem_cons hkr
            have CA := Lib.hid (rIntQ r.1 hmr.2.2)
            have CB := Lib.hid (rIntQ r.2 hmr.2.1)
            have hra := numV_range r.1
            have hrb := numV_range r.2
            obtain ⟨a, hae⟩ : ∃ a, numV r.1 = a := ⟨_, rfl⟩
            obtain ⟨b, hbe⟩ : ∃ b, numV r.2 = b := ⟨_, rfl⟩
            obtain ⟨ea, hea⟩ : ∃ ea, intE r.1 0 1000000000 = ea := ⟨_, rfl⟩
            obtain ⟨eb, heb⟩ : ∃ eb, intE r.2 0 1000000000 = eb := ⟨_, rfl⟩
            rw [hae, hea] at CA
            rw [hbe, heb] at CB
            rw [hae] at hra
            rw [hbe] at hrb
            obtain ⟨x0, hx0⟩ : ∃ x0, r.1 = x0 := ⟨_, rfl⟩
            obtain ⟨x1, hx1⟩ : ∃ x1, r.2 = x1 := ⟨_, rfl⟩
            rw [hx0] at hc5 CA
            rw [hx1] at hc6 CB
            obtain ⟨hpa, hpa2⟩ := hra
            obtain ⟨hpb, hpb2⟩ := hrb
            have HAE := Lib.hid hae
            have HBE := Lib.hid hbe
            obtain ⟨q, cq, hv8⟩ := slice_of_owns' hown
            subst hv8
            have hzr := hbo.size
            have hn4 : wr.ownsRow wy.heap.size 3 1 (.slice q out.length cq) (out.length + 0) (icells (out ++ upto a 0)) := by
              have e : out ++ upto a 0 = out := by simp [upto]
              rw [e]; exact hown
            clear f5 f6 hr hae hbe hea heb hx0 hx1 hmr hown
            go_wp2_with (first | (go_at_call 14; with_reducible refine (CA.out _).mono ?_; rintro e w' ⟨rfl, rfl⟩) | (go_at_call 14; with_reducible refine (CB.out _).mono ?_; rintro e w' ⟨rfl, rfl⟩))
            go_loopw [10, 16] (AtNum5 a b out wy) (fun _ i _ => (b + 1 - intOf i).toNat)
            case atStart => exact ⟨0, Nat.zero_le _, by omega, by simp, hn4, hbo⟩
            case round =>
              obtain ⟨j, hj, hj5, rfl, hownj, hbwj⟩ := hrel
              by_cases hjb : a + j ≤ b
              · obtain ⟨qj, cqj, hvj⟩ := slice_of_owns' hownj
                subst hvj
                by_cases h500 : out.length + j = 500
                · have h5I : (((out.length + j : Nat) : Int) == 500) = true := by rw [h500]; rfl
                  have h5I2 : ((out.length : Int) + (j : Int) == 500) = true := by rw [beq_iff_eq]; omega
                  have HP := Lib.hid (par_long H45.out HF.out HZ.out (by rw [HGo.out, HDR.out, fillG_full (by rw [HAE.out, HBE.out]; omega)]))
                  go_wp2_with fail
                  go_ret2
                  rw [HP.out.1, HP.out.2]
                  exact ⟨_, rfl, World.ownsRow_nil _ _ _ _, b1.trans ((hbwx.trans (hbwj.mono hzx)).mono hz01)⟩
                · have h5I : (((out.length + j : Nat) : Int) == 500) = false := by rw [beq_eq_false_iff_ne]; omega
                  have h5I2 : ((out.length : Int) + (j : Int) == 500) = false := by rw [beq_eq_false_iff_ne]; omega
                  have hjn : j + 1 ≤ (b - a + 1).toNat := by omega
                  have hx1 : out.length + j + 1 ≤ maxLen := by unfold maxLen; omega
                  have hx2 : (out.length + j + 1) * 8 ≤ 140737488355328 := by omega
                  have hzj := hbwj.size
                  have hx3 : wy.heap.size ≤ (wr.alloc (.cells #[.int .i64 (a + j)] 3)).heap.size := by simp; omega
                  have hj0 : 0 ≤ a + (j : Int) := by omega
                  have hj1 : a + (j : Int) ≤ 1000000000 := by omega
                  go_wp2_with (at_builtin; refine wpList_append_own _ rfl _ _ 40 rfl wy.heap.size 3 i0 (.int .i64 0) 1 8 Tryd.underlying40 hi hz0 hz1 hz2 rfl (by decide) _ _ _ rfl (hownj.alloc _) ⟨wr.heap.size, 0, none⟩ 1 1 [.int .i64 (a + j)] rfl rfl ?g1 ?g2 hx1 hx2 hx3 ?g6)
                  case g1 =>
                    intro j u hj
                    match j, hj with
                    | 0, hj => simp at hj; subst hj; simp [World.cell?_alloc_new, Addr.add]
                    | j + 1, hj => simp at hj
                  case g2 =>
                    intro u hu
                    simp at hu
                    subst hu; rfl
                  case g6 =>
                    intro v' w1 hown' hgrow _
                    have hbw5 : Below wy.heap.size wy w1 := (hbwj.alloc hzj _).grown hgrow hx3 (fun k e => (hownj.lt k e).1)
                    go_wp2_with fail
                    refine ⟨⟨j + 1, hjn, by omega, by go_num, ?_, hbw5⟩, by simp [intOf]; omega⟩
                    rw [upto_snoc, ← List.append_assoc, icells_snoc]
                    exact hown'
              · have hjn : j = (b - a + 1).toNat := by omega
                have HF2 : Hid (fillG [] acc = fillG (out ++ upto a j) (acc.drop (k + 1))) := by
                  unfold Hid
                  rw [HGo.out, HDR.out, fillG_room (by rw [HAE.out, HBE.out]; omega), HAE.out, HBE.out, spanL_upto, ← hjn]
                go_wp2_with fail
                go_roundw
                case rel =>
                  refine ⟨k + 1, out ++ upto a j, by omega, ?_, by go_num, ?_, hbwj, HF2⟩
                  · rw [List.length_append, upto_len]; exact hj5
                  · rw [List.length_append, upto_len]; exact hownj
                case measure => simp [intOf]; omega
          · have hkI2 : ¬ (k : Int) < ps.length := by omega
            obtain ⟨q, cq, hv8⟩ := slice_of_owns' hown
            subst hv8
            have HF2 : Hid (fillG [] acc = some out) := by
              unfold Hid; rw [HGo.out, List.drop_eq_nil_of_le (by omega)]; rfl
            have HPAR := Lib.hid (par_ok H45.out HF.out HZ.out HF2.out)
            go_wp2_with fail
            go_ret2
            rw [HPAR.out.1, HPAR.out.2]
            exact ⟨_, rfl, ownsRow_mono hown (by omega), b1.trans ((hbwx.trans (hbo.mono hzx)).mono hz01)⟩
end Go.Proofs.YtoknncoolmbklaaDoor
