/- readRuns of the package reads the runs of a list expression; conditions: Amb, a bound on the length. -/
import Derived.Test.YtoknncoolmbklaaDoorPlain
import Derived.Test.YtoknncoolmbklaaDoorReadRun
import Derived.Test.YtoknncoolmbklaaDoorWNext
import Derived.Test.YtoknncoolmbklaaDoorLines
import Derived.Deep.RegionWith
import Derived.Deep.RegionHeld3
import Derived.Deep.DeepCutAuto
import Derived.RangeFuncBox
namespace Go.Proofs.YtoknncoolmbklaaDoor
set_option linter.unusedVariables false
set_option linter.unusedSimpArgs false
open Go.RowKit Go.Sort

def rcells (rs : List RN) : List Value := rs.flatMap fun r => [.string ⟨r.1.toArray⟩, .string ⟨r.2.toArray⟩]
theorem rcells_snoc (rs : List RN) (r : RN) : rcells (rs ++ [r]) = rcells rs ++ [.string ⟨r.1.toArray⟩, .string ⟨r.2.toArray⟩] := by simp [rcells]
theorem rcells_length (rs : List RN) : (rcells rs).length = rs.length * 2 := by
  induction rs with
  | nil => rfl
  | cons f fs ih => simp only [rcells, List.flatMap_cons, List.length_append, List.length_cons, List.length_nil] at *; omega
theorem rcells_get : ∀ (fs : List RN) (i : Nat) (h : i < fs.length), (rcells fs)[i * 2]? = some (.string ⟨fs[i].1.toArray⟩) ∧ (rcells fs)[i * 2 + 1]? = some (.string ⟨fs[i].2.toArray⟩) := by
  intro fs
  induction fs with
  | nil => intro i h; simp at h
  | cons f fs ih =>
    intro i h
    cases i with
    | zero => exact ⟨rfl, rfl⟩
    | succ i =>
      have := ih i (by simpa using h)
      have e : rcells (f :: fs) = .string ⟨f.1.toArray⟩ :: .string ⟨f.2.toArray⟩ :: rcells fs := rfl
      rw [e, show (i + 1) * 2 = i * 2 + 1 + 1 from by omega]
      simpa using this
theorem infoRun : (Tryd.prog.info? 83).map (fun i => (i.zero, i.size, i.bytes)) = some (some (.agg #[.string ByteArray.empty, .string ByteArray.empty]), 2, 32) := by kernel_rfl

theorem wSplitC (c : UInt8) (s : ByteArray) (w : World) (ha : Amb w) (hs : s.size < 4294967281) :
    Calls Tryd.prog 83 #[.string s, .string ⟨#[c]⟩] w fun e w' => ∃ cap, e = .returned (.slice (some ⟨w.heap.size, 0, none⟩) (partsL c s.data.toList).length cap) ∧ StrsAt w' (.slice (some ⟨w.heap.size, 0, none⟩) (partsL c s.data.toList).length cap) (partsL c s.data.toList) ∧ Below w.heap.size w w' := by
  obtain ⟨m, hm⟩ := ha.maxLen
  have hl : (partsL c s.data.toList).length ≤ s.size + 1 := by have := parts_len c s.data.toList []; rw [len_data] at this; exact this
  refine (Tryd.strings_Split s ⟨#[c]⟩ m w hs hm (Nat.le_refl _)).mono ?_
  rintro e W1 ⟨rfl, rfl⟩
  rw [countB_parts]
  refine ⟨_, rfl, .inr ⟨w.heap.size, 0, _, rfl, by simp, by omega, fun i hi => ?_⟩, (Below.refl _ _).alloc (Nat.le_refl _) _⟩
  rw [World.cell?_alloc_new, splitB_parts c _ s rfl]
  simp [hi]
/-- What holds between two parts. -/
def AtPart (ps : List (List UInt8)) (w : World) (v4 i : Value) (wr : World) : Prop :=
  ∃ (k : Nat) (acc : List RN), k ≤ ps.length ∧ acc.length ≤ k ∧ i = .int .i64 k ∧ wr.ownsRow w.heap.size 83 2 v4 acc.length (rcells acc) ∧ Below w.heap.size w wr ∧ Hid (runsG [] ps = runsG acc (ps.drop k)) ∧ Hid (∀ r ∈ acc, natL r.2 = true ∧ r.2.length ≤ 10000)
def rbOf (o : Option (List RN)) : Bool := o.isSome
def rvOf (o : Option (List RN)) : List RN := o.getD []
theorem keepCell {w w' : World} {a : Addr} {v : Value} (hb : Below w.heap.size w w') (h : w.cell? a = some v) : w'.cell? a = some v := by
  have hlt : a.block < w.heap.size := by
    unfold World.cell? at h
    cases ho : w.heap[a.block]? with
    | none => rw [ho] at h; simp at h
    | some o => exact (Array.getElem?_eq_some_iff.1 ho).1
  rw [hb.cell hlt]; exact h
theorem keepHeap {w w' : World} {k : Nat} {o : Obj} (hb : Below w.heap.size w w') (h : w.heap[k]? = some o) : w'.heap[k]? = some o := by
  rw [hb.block k (Array.getElem?_eq_some_iff.1 h).1]; exact h
theorem keepBelow {W w w' : World} (hb : Below w.heap.size w w') (h : Below W.heap.size W w) : Below W.heap.size W w' := h.trans (hb.mono h.size)
theorem slice_of_owns' {w : World} {base : Nat} {e : TypeId} {size : Nat} {v : Value} {n : Nat} {xs : List Value} (h : w.ownsRow base e size v n xs) : ∃ a c, v = .slice a n c := by
  obtain ⟨_, h | ⟨g, cap, cur, hv, _⟩⟩ := h
  · exact ⟨_, _, by rw [h.1, h.2]⟩
  · exact ⟨_, _, hv⟩
theorem runsG_bad {acc : List RN} {p : List UInt8} {ps : List (List UInt8)} (h : okRun acc p = false) : runsG acc (p :: ps) = none := by rw [runsG, if_neg (by simp [h])]
theorem runsG_good {acc : List RN} {p : List UInt8} {ps : List (List UInt8)} (h : okRun acc p = true) : runsG acc (p :: ps) = runsG (acc ++ [runOf p]) ps := by rw [runsG, if_pos h]

set_option maxRecDepth 100000 in
set_option maxHeartbeats 1000000 in
theorem wReadRuns (s : ByteArray) (w : World) (ha : Amb w) (hs : s.size ≤ 10000) :
    Calls Tryd.prog 60 #[.string s] w fun e w' => ∃ v, e = .returned (.tuple #[v, .bool (rbOf (runsL s.data.toList))]) ∧ w'.ownsRow w.heap.size 83 2 v (rvOf (runsL s.data.toList)).length (rcells (rvOf (runsL s.data.toList))) ∧ Below w.heap.size w w' := by
  obtain ⟨ps, hps⟩ : ∃ ps, partsL 44 s.data.toList = ps := ⟨_, rfl⟩
  have hpl : ps.length ≤ 10001 := by have := parts_len 44 s.data.toList []; rw [len_data] at this; rw [← hps]; unfold partsL; omega
  have hpe : ∀ p ∈ ps, p.length ≤ 10000 := fun p hp => by
    have := parts_each 44 s.data.toList [] p (by rw [← hps] at hp; exact hp)
    rw [len_data] at this; simp at this; omega
  have hsp := wSplitC 44 s w ha (by omega)
  rw [hps] at hsp
  have HRL : Hid (runsL s.data.toList = runsG [] ps) := by unfold Hid runsL; rw [hps]
  have HSP := Lib.hid hsp
  have HPE := Lib.hid hpe
  clear hps hsp hpe
  obtain ⟨i0, hi, hz0, hz1, hz2⟩ := info_parts infoRun
  go_enter Tryd.func60, Tryd.ntmps60
  go_wp2_with fail
  refine HSP.out.mono ?_
  rintro e W1 ⟨cap, rfl, hst, b1⟩
  have HST := Lib.hid hst
  have hn0 := World.ownsRow_nil W1 W1.heap.size 83 2
  have hz01 := b1.size
  have hplI : (ps.length : Int) ≤ 10001 := by omega
  clear hst
  go_wp2_with fail
  go_loopw [4, 12] (AtPart ps W1) (fun _ i _ => ps.length - (intOf i).toNat)
  case atStart => exact ⟨0, [], by omega, by simp, rfl, hn0, Below.refl _ _, rfl, fun r hr => by simp at hr⟩
  case round =>
    obtain ⟨k, acc, hk, hak, rfl, hown, hbw, HG, HA⟩ := hrel
    by_cases hkp : k < ps.length
    · obtain ⟨bp, op, hp, hlt, hc0⟩ := (HST.out.below hbw).get k hkp
      injection hp with hp
      injection hp with hp1 hp2 hp3
      subst hp1
      subst hp2
      have hkI : (k : Int) < ps.length := by omega
      obtain ⟨p, hpd⟩ : ∃ p, ps[k] = p := ⟨_, rfl⟩
      rw [hpd, Nat.zero_add] at hc0
      have hple : p.length ≤ 10000 := by rw [← hpd]; exact HPE.out _ (List.getElem_mem hkp)
      have hdr : ps.drop k = p :: ps.drop (k + 1) := by rw [← hpd]; exact List.drop_eq_getElem_cons hkp
      have HDR := Lib.hid hdr
      have hrl := runF_len p
      obtain ⟨f, t, b, hr⟩ : ∃ f t b, runF p = (f, t, b) := ⟨_, _, _, rfl⟩
      rw [hr] at hrl
      have hrr : ∀ W, Amb W → Calls Tryd.prog 84 #[.string ⟨p.toArray⟩] W fun e w' => e = .returned (.tuple #[.agg #[.string ⟨f.toArray⟩, .string ⟨t.toArray⟩], .bool b]) ∧ Below W.heap.size W w' := fun W hW => by
        have := wReadRun ⟨p.toArray⟩ W hW (by rw [sizeL]; exact hple)
        rw [strL, hr] at this
        exact this
      have HRR := Lib.hid hrr
      have HR := Lib.hid hr
      have haw := (ha.below b1).below hbw
      have hzw := hbw.size
      clear hpd hdr hr hrr
      go_wp2_with fail
      refine (HRR.out _ haw).mono ?_
      rintro e W2 ⟨rfl, b2⟩
      have hown2 := ownsRow_below hown b2
      have hbw2 := hbw.trans (b2.mono hzw)
      have haw2 := haw.below b2
      have hz2' := hbw2.size
      clear hown b2 haw
      cases b with
      | false =>
        have hbad : okRun acc p = false := by unfold okRun; rw [HR.out]; rfl
        have HB : Hid (runsL s.data.toList = none) := by unfold Hid; rw [HRL.out, HG.out, HDR.out, runsG_bad hbad]
        clear hbad
        go_wp2_with fail
        go_ret2
        rw [HB.out]
        exact ⟨_, rfl, World.ownsRow_nil _ _ _ _, (b1.trans (hbw2.mono hz01)).alloc (by omega) _⟩
      | true =>
        have hft : natL f = true ∧ natL t = true := by
          have := runF_digits (l := p) (by rw [HR.out])
          rw [HR.out] at this; exact this
        have hf10 : f.length ≤ p.length := hrl.1
        have ht10 : t.length ≤ p.length := hrl.2
        clear hrl
        have HFT := Lib.hid hft
        have hal : acc.length ≤ 10001 := by omega
        obtain ⟨L, hL⟩ : ∃ L, acc.length = L := ⟨_, rfl⟩
        rw [hL] at hown2 hal hak
        have HLL := Lib.hid hL
        clear hL
        obtain ⟨q, cq, hv4⟩ := slice_of_owns' hown2
        subst hv4
        clear hft hc0
        have hrnew := World.alloc_heap_new W2 (.cells #[.string ⟨f.toArray⟩, .string ⟨t.toArray⟩] 83)
        have HRN := Lib.hid hrnew
        clear hrnew
        go_upto_region 8 with fail
        go_cut [39] (fun v39 wx => v39 = .bool (!okRun acc p) ∧ wx.heap[W2.heap.size]? = some (.cells #[.string ⟨f.toArray⟩, .string ⟨t.toArray⟩] 83 (0, 0)) ∧ Below (W2.heap.size + 1) (W2.alloc (.cells #[.string ⟨f.toArray⟩, .string ⟨t.toArray⟩] 83)) wx)
        case first =>
          cases L with
          | zero =>
            have hacc : acc = [] := List.eq_nil_of_length_eq_zero HLL.out
            subst hacc
            have HO : Hid (okRun [] p = true) := by unfold Hid okRun; rw [HR.out]; rfl
            go_quiet (fail)
            go_wp2_with fail
            go_meet
            refine ⟨by rw [HO.out]; rfl, HRN.out, below_drewN (Below.refl _ _) _⟩
          | succ n =>
            have hnl : n < acc.length := by have := HLL.out; omega
            obtain ⟨r0, hr0⟩ : ∃ r0, acc[n] = r0 := ⟨_, rfl⟩
            have hlast : acc.getLast? = some r0 := by
              rw [List.getLast?_eq_getElem?, show acc.length - 1 = n by have := HLL.out; omega, List.getElem?_eq_getElem hnl, hr0]
            have hmem := HA.out r0 (by rw [← hr0]; exact List.getElem_mem hnl)
            have HO : Hid (okRun acc p = lessL (nextL r0.2) f) := by unfold Hid okRun; rw [HR.out, hlast]; rfl
            have hcell : (rcells acc)[n * 2 + 1]? = some (.string ⟨r0.2.toArray⟩) := by rw [(rcells_get acc n hnl).2, hr0]
            have hmn : r0.2.length ≤ 1000000 := Nat.le_trans hmem.2 (by decide)
            have hmd : natL r0.2 = true := hmem.1
            obtain ⟨g, hq, hgl, hcg⟩ : ∃ g, q = some ⟨g, 0, none⟩ ∧ g < W2.heap.size ∧ W2.cell? ⟨g, n * 2 + 1, none⟩ = some (.string ⟨r0.2.toArray⟩) := by
              have hcs := hown2
              obtain ⟨_, h | ⟨g, cap', cur, hv, _⟩⟩ := hown2
              · exact absurd h.2 (by omega)
              · injection hv with h1 h2 h3
                subst h1
                refine ⟨g, rfl, (hcs.lt g rfl).2, ?_⟩
                have := hcs.cells (g := g) rfl (n * 2 + 1) _ hcell
                rw [Go.WideShapes.add_plain, Nat.zero_add] at this
                exact this
            subst hq
            have CN := Lib.hid fun W => wNext r0.2 W hmd hmn
            have CL := Lib.hid fun W => wLess ⟨(nextL r0.2).toArray⟩ ⟨f.toArray⟩ W
            have hcg3 : (W2.alloc (.cells #[.string ⟨f.toArray⟩, .string ⟨t.toArray⟩] 83)).cell? ⟨g, n * 2 + 1, none⟩ = some (.string ⟨r0.2.toArray⟩) := by
              rw [← hcg]; simp only [World.cell?]; rw [Below.heap_alloc _ _ _ hgl]
            have e1 : IntKind.i64.wrap ((n : Int) + 1 - 1) = n := by rw [IntWalk.i64_in _ (by omega)]; omega
            have e2 : (n : Int) + 1 - 1 = n := by omega
            have e3 : IntKind.i64.wrap (((n + 1 : Nat) : Int) - 1) = n := by rw [IntWalk.i64_in _ (by omega)]; omega
            have e4 : IntKind.i64.wrap (n : Int) = n := IntWalk.i64_in _ (by omega)
            have e5 : (n : Int) < ((n + 1 : Nat) : Int) := by omega
            clear hcell hlast hnl hr0 hmem hmn hmd hcg hown2 hak
            have hd : decide ((0 : Int) < (n : Int) + 1) = true := decide_eq_true (by omega)
            have hf3 : (W2.alloc (.cells #[.string ⟨f.toArray⟩, .string ⟨t.toArray⟩] 83)).cell? ⟨W2.heap.size, 0, none⟩ = some (.string ⟨f.toArray⟩) := by simp [World.cell?_alloc_new]
            have hr3 := HRN.out
            have hn0' : (0 : Int) ≤ (n : Int) := Int.natCast_nonneg _
            have hn1' : (n : Int) < (n : Int) + 1 := by omega
            obtain ⟨W3, hW3⟩ : ∃ W3, W2.alloc (.cells #[.string ⟨f.toArray⟩, .string ⟨t.toArray⟩] 83) = W3 := ⟨_, rfl⟩
            have hz3 : W3.heap.size = W2.heap.size + 1 := by rw [← hW3]; simp
            have HZ3 := Lib.hid hz3
            rw [hW3] at hcg3 hf3 hr3 ⊢
            have HW3 := Lib.hid hW3
            have hb3 : Below W3.heap.size W3 W3 := Below.refl _ _
            clear hW3 hz3 hgl hz2' hzw hlt
            have hS : W3.drew.cell? ⟨g, n * 2 + 1, none⟩ = some (.string ⟨r0.2.toArray⟩) ∧ W3.drew.cell? ⟨W2.heap.size, 0, none⟩ = some (.string ⟨f.toArray⟩) ∧ W3.drew.heap[W2.heap.size]? = some (.cells #[.string ⟨f.toArray⟩, .string ⟨t.toArray⟩] 83 (0, 0)) ∧ Below W3.heap.size W3 W3.drew := ⟨hcg3, hf3, hr3, hb3.drew⟩
            go_region_held3 (fun w' => w'.cell? ⟨g, n * 2 + 1, none⟩ = some (.string ⟨r0.2.toArray⟩) ∧ w'.cell? ⟨W2.heap.size, 0, none⟩ = some (.string ⟨f.toArray⟩) ∧ w'.heap[W2.heap.size]? = some (.cells #[.string ⟨f.toArray⟩, .string ⟨t.toArray⟩] 83 (0, 0)) ∧ Below W3.heap.size W3 w')
              (first | exact hS | go_keep | exact hS.2.2.1 | exact hS.2.2.2 | (go_split_ands; exact ⟨keepCell hb (by assumption), keepCell hb (by assumption), keepHeap hb (by assumption), keepBelow hb (by assumption)⟩))
              (first | (go_at_call 86; refine (CN.out _).mono ?_; rintro e w' ⟨rfl, hb⟩) | (go_at_call 85; refine (CL.out _).mono ?_; rintro e w' ⟨rfl, rfl⟩))
            go_wp2_with fail
            go_meet
            rename_i hH
            refine ⟨by rw [HO.out], hH.2.2.1, ?_⟩
            have hx4 := hH.2.2.2
            rw [HZ3.out, ← HW3.out] at hx4
            exact hx4
        case rest =>
          obtain ⟨rfl, hR, hbx⟩ := hcut
          have hbW : Below W2.heap.size W2 wc := ((Below.refl _ _).alloc (Nat.le_refl _) _).trans (hbx.mono (by omega))
          have hown3 := ownsRow_below hown2 hbW
          have hbw3 := hbw2.trans (hbW.mono hz2')
          have hz3 := hbw3.size
          have hR0 : wc.cell? ⟨W2.heap.size, 0, none⟩ = some (.string ⟨f.toArray⟩) := by simp only [World.cell?, hR]; rfl
          have hR1 : wc.cell? ⟨W2.heap.size, 1, none⟩ = some (.string ⟨t.toArray⟩) := by simp only [World.cell?, hR]; rfl
          cases hok : okRun acc p with
          | false =>
            have HB : Hid (runsL s.data.toList = none) := by unfold Hid; rw [HRL.out, HG.out, HDR.out, runsG_bad hok]
            go_wp2_with fail
            go_ret2
            rw [HB.out]
            exact ⟨_, rfl, World.ownsRow_nil _ _ _ _, b1.trans (hbw3.mono hz01)⟩
          | true =>
            have HG2 : Hid (runsG [] ps = runsG (acc ++ [(f, t)]) (ps.drop (k + 1))) := by
              have : runOf p = (f, t) := by unfold runOf; rw [HR.out]
              unfold Hid; rw [HG.out, HDR.out, runsG_good hok, this]
            have hx1 : L + 1 ≤ maxLen := by unfold maxLen; omega
            have hx2 : (L + 1) * 32 ≤ 140737488355328 := by omega
            have hx3 : W1.heap.size ≤ (wc.alloc (.cells #[.string ⟨f.toArray⟩, .string ⟨t.toArray⟩] 83)).heap.size := by simp; omega
            clear hok hown2 hbx hR
            go_wp2_with (at_builtin; refine wpList_append_own _ rfl _ _ 77 rfl W1.heap.size 83 i0 (.agg #[.string ByteArray.empty, .string ByteArray.empty]) 2 32 Tryd.underlying77 hi hz0 hz1 hz2 rfl (by decide) _ _ _ rfl (hown3.alloc _) ⟨wc.heap.size, 0, none⟩ 1 1 [.string ⟨f.toArray⟩, .string ⟨t.toArray⟩] rfl rfl ?c1 ?c2 hx1 hx2 hx3 ?c6)
            case c1 =>
              intro j u hj
              match j, hj with
              | 0, hj => simp at hj; subst hj; simp [World.cell?_alloc_new, Addr.add]
              | 1, hj => simp at hj; subst hj; simp [World.cell?_alloc_new, Addr.add]
              | j + 2, hj => simp at hj
            case c2 =>
              intro u hu
              simp at hu
              rcases hu with rfl | rfl <;> rfl
            case c6 =>
              intro v' w1 hown' hgrow _
              have hbw4 : Below W1.heap.size W1 w1 := (hbw3.alloc (by omega) _).grown hgrow hx3 (fun k e => (hown3.lt k e).1)
              go_wp2_with fail
              refine ⟨⟨k + 1, acc ++ [(f, t)], by omega, ?_, by go_num, ?_, hbw4, HG2, ?_⟩, by simp [intOf]; omega⟩
              · rw [List.length_append, HLL.out]; simp; omega
              · rw [List.length_append, rcells_snoc, HLL.out]; exact hown'
              · intro r hr
                rcases List.mem_append.1 hr with hr | hr
                · exact HA.out r hr
                · simp at hr; subst hr; exact ⟨HFT.out.2, by simp only; omega⟩
    · have hkp' : ¬ (k : Int) < ps.length := by omega
      have HB : Hid (runsL s.data.toList = some acc) := by
        unfold Hid; rw [HRL.out, HG.out, List.drop_eq_nil_of_le (by omega)]; rfl
      obtain ⟨pp, cc, hv⟩ := slice_of_owns' hown
      subst hv
      go_wp2_with fail
      go_ret2
      rw [HB.out]
      exact ⟨_, rfl, ownsRow_mono hown hz01, b1.trans (hbw.mono hz01)⟩
end Go.Proofs.YtoknncoolmbklaaDoor
