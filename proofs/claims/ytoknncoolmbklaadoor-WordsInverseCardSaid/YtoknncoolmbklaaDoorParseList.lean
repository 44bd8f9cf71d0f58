/- ParseList of the package returns the integers and the error that P1.6 names; conditions: Amb, a bound on the length. -/
import Derived.Test.YtoknncoolmbklaaDoorReadRuns
namespace Go.Proofs.YtoknncoolmbklaaDoor
set_option linter.unusedVariables false
set_option linter.unusedSimpArgs false
open Go.RowKit Go.Sort

def icells (zs : List Int) : List Value := zs.map (Value.int .i64)
theorem infoInt : (Tryd.prog.info? 3).map (fun i => (i.zero, i.size, i.bytes)) = some (some (.int .i64 0), 1, 8) := by kernel_rfl
theorem runsG_len : ∀ (ps : List (List UInt8)) (acc rs : List RN), runsG acc ps = some rs → rs.length = acc.length + ps.length := by
  intro ps
  induction ps with
  | nil => intro acc rs h; simp [runsG] at h; simp [h]
  | cons p ps ih =>
    intro acc rs h
    unfold runsG at h
    split at h
    · have := ih _ _ h; simp at this ⊢; omega
    · simp at h
theorem runsL_pos {l : List UInt8} {rs : List RN} (h : runsL l = some rs) : 0 < rs.length ∧ rs.length ≤ l.length + 1 := by
  have h1 := runsG_len _ _ _ h
  have h2 := partsC_pos 44 l []
  have h3 := parts_len 44 l []
  have : 0 < (partsL 44 l).length := List.length_pos_iff.2 h2
  unfold partsL at *
  simp at h1; omega
theorem runs_get {w : World} {base : Nat} {p : Option Addr} {c n : Nat} {rs : List RN} (h : w.ownsRow base 83 2 (.slice p n c) rs.length (rcells rs)) (i : Nat) (hi : i < rs.length) :
    ∃ g, p = some ⟨g, 0, none⟩ ∧ w.cell? ⟨g, i * 2, none⟩ = some (.string ⟨rs[i].1.toArray⟩) ∧ w.cell? ⟨g, i * 2 + 1, none⟩ = some (.string ⟨rs[i].2.toArray⟩) := by
  have hcs := h
  obtain ⟨_, h | ⟨g, cap', cur, hv, _⟩⟩ := h
  · exact absurd h.2 (by omega)
  · injection hv with h1 h2 h3
    subst h1
    have hg := rcells_get rs i hi
    have c0 := hcs.cells (g := g) rfl (i * 2) _ hg.1
    have c1 := hcs.cells (g := g) rfl (i * 2 + 1) _ hg.2
    rw [Go.WideShapes.add_plain, Nat.zero_add] at c0 c1
    exact ⟨g, rfl, c0, c1⟩
theorem par_none {l : List UInt8} (h0 : l ≠ [45]) (h : runsL l = none) : parE l = 6 ∧ parV l = [] := by
  unfold parE parV; rw [if_neg h0, if_neg h0, h]; exact ⟨rfl, rfl⟩
theorem par_range {l : List UInt8} {rs : List RN} (h0 : l ≠ [45]) (h : runsL l = some rs) (h1 : intE (lastR rs) 0 1000000000 ≠ 0) : parE l = 7 ∧ parV l = [] := by
  unfold parE parV; rw [if_neg h0, if_neg h0, h]; simp only; rw [if_pos h1, if_pos h1]; exact ⟨rfl, rfl⟩
theorem par_long {l : List UInt8} {rs : List RN} (h0 : l ≠ [45]) (h : runsL l = some rs) (h1 : intE (lastR rs) 0 1000000000 = 0) (h2 : fillG [] rs = none) : parE l = 3 ∧ parV l = [] := by
  unfold parE parV; rw [if_neg h0, if_neg h0, h]; simp only; rw [if_neg (by simp [h1]), if_neg (by simp [h1]), h2]; exact ⟨rfl, rfl⟩
theorem par_ok {l : List UInt8} {rs : List RN} {zs : List Int} (h0 : l ≠ [45]) (h : runsL l = some rs) (h1 : intE (lastR rs) 0 1000000000 = 0) (h2 : fillG [] rs = some zs) : parE l = 0 ∧ parV l = zs := by
  unfold parE parV; rw [if_neg h0, if_neg h0, h]; simp only; rw [if_neg (by simp [h1]), if_neg (by simp [h1]), h2]; exact ⟨rfl, rfl⟩
theorem wNumberL (l : List UInt8) (w : World) (ha : Amb w) (hs : l.length ≤ 10000000) :
    Calls Tryd.prog 61 #[.string ⟨l.toArray⟩] w fun e w' => e = .returned (.tuple #[.int .i64 (numV l), .int .i64 (intE l 0 1000000000)]) ∧ Below w.heap.size w w' :=
  wNumber ⟨l.toArray⟩ w ha (by rw [sizeL]; omega)
theorem fillG_full {acc : List Int} {r : RN} {rs : List RN} (h : 500 ≤ numV r.2 - numV r.1 + acc.length) : fillG acc (r :: rs) = none := by rw [fillG, if_pos h]
theorem fillG_room {acc : List Int} {r : RN} {rs : List RN} (h : ¬ 500 ≤ numV r.2 - numV r.1 + acc.length) : fillG acc (r :: rs) = fillG (acc ++ spanL (numV r.1) (numV r.2)) rs := by rw [fillG, if_neg h]
def upto (a : Int) (j : Nat) : List Int := (List.range j).map fun i : Nat => a + (i : Int)
theorem upto_snoc (a : Int) (j : Nat) : upto a (j + 1) = upto a j ++ [a + j] := by unfold upto; rw [List.range_succ]; simp
theorem upto_len (a : Int) (j : Nat) : (upto a j).length = j := by unfold upto; simp
theorem spanL_upto (a b : Int) : spanL a b = upto a (b - a + 1).toNat := rfl
theorem icells_snoc (zs : List Int) (x : Int) : icells (zs ++ [x]) = icells zs ++ [.int .i64 x] := by simp [icells]
/-- What holds between two integers of a run. -/
def AtNum (a b : Int) (acc : List Int) (w : World) (v8 v15 : Value) (wr : World) : Prop :=
  ∃ j : Nat, j ≤ (b - a + 1).toNat ∧ v15 = .int .i64 (a + j) ∧ wr.ownsRow w.heap.size 3 1 v8 (acc.length + j) (icells (acc ++ upto a j)) ∧ Below w.heap.size w wr
/-- What holds between two runs. -/
def AtRun (rs : List RN) (w : World) (v8 i : Value) (wr : World) : Prop :=
  ∃ (k : Nat) (acc : List Int), k ≤ rs.length ∧ acc.length ≤ 500 ∧ i = .int .i64 k ∧ wr.ownsRow w.heap.size 3 1 v8 acc.length (icells acc) ∧ Below w.heap.size w wr ∧ Hid (fillG [] rs = fillG acc (rs.drop k))
theorem slen (rs : List RN) (h : ∀ r ∈ rs, r.1.length ≤ 10000 ∧ r.2.length ≤ 10000) (i : Nat) (hi : i < rs.length) : rs[i].1.length ≤ 10000000 ∧ rs[i].2.length ≤ 10000000 := by
  have := h _ (List.getElem_mem hi); omega
theorem runsG_small : ∀ (ps : List (List UInt8)) (acc rs : List RN), (∀ p ∈ ps, p.length ≤ 10000) → (∀ r ∈ acc, r.1.length ≤ 10000 ∧ r.2.length ≤ 10000) → runsG acc ps = some rs → ∀ r ∈ rs, r.1.length ≤ 10000 ∧ r.2.length ≤ 10000 := by
  intro ps
  induction ps with
  | nil => intro acc rs _ ha h; simp [runsG] at h; rw [← h]; exact ha
  | cons p ps ih =>
    intro acc rs hp ha h
    unfold runsG at h
    split at h
    · refine ih _ _ (fun q hq => hp q (by simp [hq])) (fun r hr => ?_) h
      rcases List.mem_append.1 hr with hr | hr
      · exact ha r hr
      · simp at hr; subst hr
        have := runF_len p
        have := hp p (by simp)
        unfold runOf; simp only; omega
    · simp at h

set_option maxRecDepth 100000 in
set_option maxHeartbeats 1000000 in
theorem wParseList (s : ByteArray) (w : World) (ha : Amb w) (hs : s.size ≤ 10000) :
    Calls Tryd.prog 32 #[.string s] w fun e w' => ∃ v, e = .returned (.tuple #[v, .int .i64 (parE s.data.toList)]) ∧ w'.ownsRow w.heap.size 3 1 v (parV s.data.toList).length (icells (parV s.data.toList)) ∧ Below w.heap.size w w' := by
  have hrr := wReadRuns s w ha hs
  by_cases h45 : s.data.toList = [45]
  · have hm : (s.toList == [45]) = true := by rw [ByteArray.toList_eq, h45]; rfl
    have HR : Hid (parE s.data.toList = 0 ∧ parV s.data.toList = []) := by unfold Hid parE parV; rw [if_pos h45, if_pos h45]; exact ⟨rfl, rfl⟩
    clear h45 hrr
    go_enter Tryd.func32, Tryd.ntmps32
    go_wp2_with fail
    go_ret2
    rw [HR.out.1, HR.out.2]
    exact ⟨_, rfl, World.ownsRow_nil _ _ _ _, Below.refl _ _⟩
  · have hm : (s.toList == [45]) = false := by rw [ByteArray.toList_eq]; simpa using h45
    have hm2 : ¬ s.toList = [45] := by rw [ByteArray.toList_eq]; exact h45
    have H45 := Lib.hid h45
    cases hrl : runsL s.data.toList with
    | none =>
      rw [hrl] at hrr
      have HRR := Lib.hid hrr
      have HR := Lib.hid (par_none h45 hrl)
      clear hrr h45 hrl
      go_enter Tryd.func32, Tryd.ntmps32
      go_wp2_with fail
      refine HRR.out.mono ?_
      rintro e W1 ⟨v, rfl, hv, b1⟩
      go_wp2_with fail
      go_ret2
      rw [HR.out.1, HR.out.2]
      exact ⟨_, rfl, World.ownsRow_nil _ _ _ _, b1⟩
    | some rs =>
      rw [hrl] at hrr
      have HRR := Lib.hid hrr
      have HRL := Lib.hid hrl
      have hpos := runsL_pos hrl
      rw [len_data] at hpos
      have hsm := runsG_small _ _ _ (fun p hp => by
        have := parts_each 44 s.data.toList [] p hp
        rw [len_data] at this; simp at this; omega) (fun r hr => by simp at hr) hrl
      have HSM := Lib.hid (slen rs hsm)
      obtain ⟨n, hn⟩ : ∃ n, rs.length = n + 1 := ⟨rs.length - 1, by omega⟩
      have hnl : n < rs.length := by omega
      have hlast : lastR rs = rs[n].2 := by
        unfold lastR
        rw [List.getLast?_eq_getElem?, show rs.length - 1 = n by omega, List.getElem?_eq_getElem hnl]
      have HLAST := Lib.hid hlast
      have HN := Lib.hid hn
      have hnb : (n : Int) ≤ 10001 := by omega
      have h45' := h45
      clear hrr h45 hrl hsm hlast hpos h45'
      go_enter Tryd.func32, Tryd.ntmps32
      go_wp2_with fail
      refine HRR.out.mono ?_
      rintro e W1 ⟨v, rfl, hv, b1⟩
      have hv1 : W1.ownsRow w.heap.size 83 2 v rs.length (rcells rs) := hv
      have hv2 : W1.ownsRow w.heap.size 83 2 v (n + 1) (rcells rs) := by rw [← HN.out]; exact hv1
      obtain ⟨p, c, hvv⟩ := slice_of_owns' hv2
      subst hvv
      obtain ⟨g, rfl, _, hcl⟩ := runs_get hv1 n hnl
      rw [← HLAST.out] at hcl
      have HV := Lib.hid hv1
      have ha1 := ha.below b1
      have hz1w := b1.size
      have hsl := (HSM.out n hnl).2
      rw [← HLAST.out] at hsl
      have hglt := (hv1.lt g rfl).2
      have e1 : (n : Int) + 1 - 1 = n := by omega
      have e5 : (n : Int) < (n : Int) + 1 := by omega
      clear hv hv1 hv2
      go_wp2_with fail
      refine (wNumberL (lastR rs) _ ha1 hsl).mono ?_
      rintro e W2 ⟨rfl, b2⟩
      have bw2 := b1.trans (b2.mono hz1w)
      have hz2w := bw2.size
      by_cases hz : intE (lastR rs) 0 1000000000 = 0
      · have hzb : (intE (lastR rs) 0 1000000000 != 0) = false := by rw [hz]; rfl
        have HZ := Lib.hid hz
        have HVW := Lib.hid (ownsRow_below HV.out b2)
        have hn0 := World.ownsRow_nil W2 W2.heap.size 3 1
        obtain ⟨i0, hi, hz0, hz1, hz2⟩ := info_parts infoInt
        clear hz hcl e1 e5
        go_wp2_with fail
        go_loopw [8, 40] (AtRun rs W2) (fun _ i _ => rs.length - (intOf i).toNat)
        case atStart => exact ⟨0, [], by omega, by simp, rfl, hn0, Below.refl _ _, rfl⟩
        case round =>
          obtain ⟨k, acc, hk, hal, rfl, hown, hbw, HG⟩ := hrel
          by_cases hkr : k < rs.length
          · have hkI : (k : Int) < (n : Int) + 1 := by have := HN.out; omega
            obtain ⟨g2, hg2, hc0, hc1⟩ := runs_get (ownsRow_below HVW.out hbw) k hkr
            injection hg2 with hg2
            injection hg2 with hg2
            subst hg2
            obtain ⟨r, hr⟩ : ∃ r, rs[k] = r := ⟨_, rfl⟩
            have hrl2 := HSM.out k hkr
            rw [hr] at hc0 hc1 hrl2
            have HR := Lib.hid hr
            have HDR := Lib.hid (List.drop_eq_getElem_cons hkr)
            have haw := (ha.below bw2).below hbw
            have hzr := hbw.size
            obtain ⟨hr1, hr2⟩ := hrl2
            clear hr
            go_wp2_with fail
            have hba : Below wr.heap.size wr (wr.alloc (.cells #[.string ⟨r.1.toArray⟩, .string ⟨r.2.toArray⟩] 83)) := (Below.refl _ _).alloc (Nat.le_refl _) _
            refine (wNumberL r.1 _ (haw.below hba) hr1).mono ?_
            rintro e W3 ⟨rfl, b3⟩
            have hd1 : W3.cell? ⟨wr.heap.size, 1, none⟩ = some (.string ⟨r.2.toArray⟩) := by
              rw [b3.cell (p := ⟨wr.heap.size, 1, none⟩) (by simp), World.cell?_alloc_new]; rfl
            have hb3 : Below wr.heap.size wr W3 := hba.trans (b3.mono (by simp))
            have hz3 := hb3.size
            clear b3 hba
            go_wp2_with fail
            refine (wNumberL r.2 _ (haw.below hb3) hr2).mono ?_
            rintro e W4 ⟨rfl, b4⟩
            have hb4 : Below wr.heap.size wr W4 := hb3.trans (b4.mono hz3)
            have hown4 := ownsRow_below hown hb4
            have hbw4 := hbw.trans (hb4.mono hzr)
            have hz4 := hbw4.size
            obtain ⟨q, cq, hv8⟩ := slice_of_owns' hown4
            subst hv8
            have hra := numV_range r.1
            have hrb := numV_range r.2
            obtain ⟨a, hae⟩ : ∃ a, numV r.1 = a := ⟨_, rfl⟩
            obtain ⟨b, hbe⟩ : ∃ b, numV r.2 = b := ⟨_, rfl⟩
            rw [hae] at hra
            rw [hbe] at hrb
            rw [hae, hbe]
            have hpa := hra.1
            have hpa2 := hra.2
            have hpb := hrb.1
            have hpb2 := hrb.2
            have hal' : (acc.length : Int) ≤ 500 := by omega
            clear hb3 b4 hd1 hown hc0 hc1 hra hrb
            by_cases hfull : 500 ≤ b - a + acc.length
            · have hfI : (500 : Int) - acc.length ≤ b - a := by omega
              have HF : Hid (fillG [] rs = none) := by
                unfold Hid
                rw [HG.out, HDR.out, HR.out, fillG_full (by rw [hae, hbe]; exact hfull)]
              have HPAR := Lib.hid (par_long H45.out HRL.out HZ.out HF.out)
              clear hae hbe
              go_wp2_with fail
              go_ret2
              rw [HPAR.out.1, HPAR.out.2]
              exact ⟨_, rfl, World.ownsRow_nil _ _ _ _, bw2.trans (hbw4.mono hz2w)⟩
            · have hfI : ¬ (500 : Int) - acc.length ≤ b - a := by omega
              have HF : Hid (fillG [] rs = fillG (acc ++ upto a (b - a + 1).toNat) (rs.drop (k + 1))) := by
                unfold Hid
                rw [HG.out, HDR.out, HR.out, fillG_room (by rw [hae, hbe]; exact hfull), hae, hbe, spanL_upto]
              clear hae hbe
              have hn4 : W4.ownsRow W2.heap.size 3 1 (.slice q acc.length cq) (acc.length + 0) (icells (acc ++ upto a 0)) := by
                have e : acc ++ upto a 0 = acc := by simp [upto]
                rw [e]; exact hown4
              go_wp2_with fail
              go_loopw [8, 15] (AtNum a b acc W2) (fun _ i _ => (b + 1 - intOf i).toNat)
              case atStart => exact ⟨0, Nat.zero_le _, by simp, hn4, hbw4⟩
              case round =>
                obtain ⟨j, hj, rfl, hownj, hbwj⟩ := hrel
                by_cases hjb : a + j ≤ b
                · have hjn : j + 1 ≤ (b - a + 1).toNat := by omega
                  have hj5 : acc.length + j + 1 ≤ 1000 := by omega
                  have hx1 : acc.length + j + 1 ≤ maxLen := by unfold maxLen; omega
                  have hx2 : (acc.length + j + 1) * 8 ≤ 140737488355328 := by omega
                  have hzj := hbwj.size
                  have hx3 : W2.heap.size ≤ (wr.alloc (.cells #[.int .i64 (a + j)] 3)).heap.size := by simp; omega
                  have hj0 : 0 ≤ a + (j : Int) := by omega
                  have hj1 : a + (j : Int) ≤ 1000000000 := by omega
                  go_wp2_with (at_builtin; refine wpList_append_own _ rfl _ _ 40 rfl W2.heap.size 3 i0 (.int .i64 0) 1 8 Tryd.underlying40 hi hz0 hz1 hz2 rfl (by decide) _ _ _ rfl (hownj.alloc _) ⟨wr.heap.size, 0, none⟩ 1 1 [.int .i64 (a + j)] rfl rfl ?c1 ?c2 hx1 hx2 hx3 ?c6)
                  case c1 =>
                    intro j u hj
                    match j, hj with
                    | 0, hj => simp at hj; subst hj; simp [World.cell?_alloc_new, Addr.add]
                    | j + 1, hj => simp at hj
                  case c2 =>
                    intro u hu
                    simp at hu
                    subst hu; rfl
                  case c6 =>
                    intro v' w1 hown' hgrow _
                    have hbw5 : Below W2.heap.size W2 w1 := (hbwj.alloc hzj _).grown hgrow hx3 (fun k e => (hownj.lt k e).1)
                    go_wp2_with fail
                    refine ⟨⟨j + 1, hjn, by go_num, ?_, hbw5⟩, by simp [intOf]; omega⟩
                    rw [upto_snoc, ← List.append_assoc, icells_snoc]
                    exact hown'
                · have hjn : j = (b - a + 1).toNat := by omega
                  have hj5 : acc.length + j ≤ 500 := by omega
                  subst hjn
                  go_wp2_with fail
                  go_roundw
                  case rel =>
                    refine ⟨k + 1, acc ++ upto a (b - a + 1).toNat, by omega, ?_, by go_num, ?_, hbwj, HF⟩
                    · rw [List.length_append, upto_len]; exact hj5
                    · rw [List.length_append, upto_len]; exact hownj
                  case measure => simp [intOf]; omega
          · have hkI : ¬ (k : Int) < (n : Int) + 1 := by have := HN.out; omega
            obtain ⟨q, cq, hv8⟩ := slice_of_owns' hown
            subst hv8
            have HF : Hid (fillG [] rs = some acc) := by
              unfold Hid; rw [HG.out, List.drop_eq_nil_of_le (by omega)]; rfl
            have HPAR := Lib.hid (par_ok H45.out HRL.out HZ.out HF.out)
            go_wp2_with fail
            go_ret2
            rw [HPAR.out.1, HPAR.out.2]
            exact ⟨_, rfl, ownsRow_mono hown hz2w, bw2.trans (hbw.mono hz2w)⟩
      · have hzb : (intE (lastR rs) 0 1000000000 != 0) = true := by rw [bne_iff_ne]; exact hz
        have HR := Lib.hid (par_range H45.out HRL.out hz)
        clear hz hcl
        go_wp2_with fail
        go_ret2
        rw [HR.out.1, HR.out.2]
        exact ⟨_, rfl, World.ownsRow_nil _ _ _ _, bw2⟩
end Go.Proofs.YtoknncoolmbklaaDoor
