/- Split of the reference returns the fields and the error that P1.3 names; conditions: a bound on the length. -/
import Derived.Test.YtjjghagjigaljaaDoorRBare
import Derived.Test.YtjjghagjigaljaaDoorRQuoted
import Derived.Test.YtjjghagjigaljaaDoorSplit
import Derived.Deep.DeepCutAuto
namespace Go.Proofs.YtjjghagjigaljaaDoor
open Go.RowKit Go.Sort

/-- What is known of the field that begins at the beginning of l. -/
structure Fld (l : List UInt8) (f : FL) (n : Nat) : Prop where
  pos : 0 < n
  le : n ≤ l.length
  is : fieldAt l = (f, n)
  ok : okAt l = true ↔ (n = l.length ∨ l[n]? = some 32)
theorem fld_quoted {l : List UInt8} {n : Nat} (h : rqN l = n) (h0 : n ≠ 0) : Fld l (rqT l, true) n := by
  have hq := field_quoted (l := l) (by omega)
  rw [h] at hq
  simp only [Int.toNat_natCast] at hq
  refine ⟨by omega, ?_, hq.1, ?_⟩
  · have := fieldAt_le l; rw [hq.1] at this; exact this
  · rw [okAt_iff, hq.1]; simp only; exact ⟨fun h => h.2, fun h => ⟨h0, h⟩⟩
theorem fld_bare {l : List UInt8} (h : rqN l = 0) (hb : bareS (l.take (uN l)) = true) : Fld l (l.take (uN l), false) (uN l) := by
  have ho := okAt_bare h
  have hf := ho.2 (by rw [ho.1, hb])
  refine ⟨?_, uN_le l, hf, ?_⟩
  · rcases Nat.eq_zero_or_pos (uN l) with h0 | h0
    · rw [h0] at hb; simp [bareS] at hb
    · exact h0
  · rw [ho.1, hb]; exact ⟨fun _ => uN_next l, fun _ => rfl⟩

/-- What holds when a field begins at place k. -/
def AtField (s : ByteArray) (w : World) (o lg i : Value) (wr : World) : Prop :=
  ∃ (k : Nat) (fs : List FL), k ≤ s.size ∧ fs.length ≤ k ∧ i = .int .i64 k ∧ lg = .bool (anyB fs) ∧ wr.ownsRow w.heap.size 50 2 o fs.length (fcells fs) ∧ Below w.heap.size w wr ∧ Hid (Sofar s.data.toList k fs)

set_option maxRecDepth 100000 in
set_option maxHeartbeats 1000000 in
theorem rSplit_some (s : ByteArray) (w : World) (h0 : 0 < s.size) (hs : s.size ≤ 8192) :
    Calls Tryd.prog 24 #[.string s] w fun e w' => ∃ v, e = .returned (.tuple #[v, .int .i64 (splE s.data.toList)]) ∧ w'.ownsRow w.heap.size 50 2 v (splF s.data.toList).length (fcells (splF s.data.toList)) ∧ Below w.heap.size w w' := by
  have hs' : (s.size : Int) ≤ 8192 := by omega
  have he := isEmpty_of_pos s h0
  have hne := toList_ne_of_pos s h0
  have HS0 := Lib.hid (sofar_start (l := s.data.toList) (by intro h; have := len_data s; rw [h] at this; simp at this; omega))
  have hn0 := World.ownsRow_nil w w.heap.size 50 2
  go_enter Tryd.func24, Tryd.ntmps24
  go_wp2_with fail
  go_loopw [4, 5, 6] (AtField s w) (fun _ _ i _ => s.size - (intOf i).toNat)
  case atStart => exact ⟨0, [], by omega, by simp, rfl, rfl, hn0, Below.refl _ _, HS0⟩
  case round =>
    obtain ⟨k, fs, hk, hfk, rfl, rfl, hown, hbw, HS⟩ := hrel
    clear hn0 HS0
    obtain ⟨l, hl⟩ : ∃ l, s.data.toList.drop k = l := ⟨_, rfl⟩
    have htd : List.take (s.size - k) (List.drop k s.data.toList) = l := by rw [take_drop_data, hl]
    have hll : l.length = s.size - k := by rw [← hl, List.length_drop, len_data]
    have HL := Lib.hid hl
    have HLL := Lib.hid hll
    have hnn : 0 ≤ rqN l := by unfold rqN; split <;> omega
    obtain ⟨z, hn⟩ : ∃ z : Int, rqN l = z := ⟨_, rfl⟩
    rw [hn] at hnn
    have hnle := rqN_le l
    have hcall : ∀ W : World, Calls Tryd.prog 44 #[.string (s.extract k s.size)] W fun e w' => e = .returned (.tuple #[.string ⟨(rqT l).toArray⟩, .int .i64 z]) ∧ Below W.heap.size W w' := fun W => by
      have := rQuoted (s.extract k s.size) W (by simp; omega)
      rw [extract_from, hl, hn] at this
      exact this
    have HC := Lib.hid hcall
    have HN := Lib.hid hn
    have hn2 : z ≤ 8192 := by omega
    clear hl hll htd hcall hn hnle
    go_wp2_with fail
    refine (HC.out _).mono ?_
    rintro e W2 ⟨rfl, b2⟩
    have hown2 := ownsRow_below hown b2
    have hbw2 := hbw.trans (b2.mono hbw.size)
    have hz2 := hbw2.size
    have hrl : ∀ g, u4.ownBlock = some g → w.heap.size ≤ g ∧ g < W2.heap.size := fun g e => hown2.lt g e
    clear hown hbw b2
    go_upto_if 25 with fail
    go_cut [8] (fun v8 wx => ∃ (m : Nat) (f : FL), v8 = .int .i64 m ∧ W2.heap.size < wx.heap.size ∧ wx.cell? ⟨W2.heap.size, 0, none⟩ = some (.string ⟨f.1.toArray⟩) ∧ wx.cell? ⟨W2.heap.size, 1, none⟩ = some (.bool f.2) ∧ wx.ownsRow w.heap.size 50 2 u4 fs.length (fcells fs) ∧ Below w.heap.size w wx ∧ Hid (Fld l f m))
    case first =>
      by_cases hn0 : z = 0
      · subst hn0
        have hk' : (k : Int) ≤ s.size := by omega
        go_wp2_with fail
        go_loop [8] (fun v8 => ∃ j : Nat, k + j ≤ s.size ∧ v8 = .int .i64 j ∧ Hid (∀ c ∈ l.take j, c ≠ 32)) (fun v8 => s.size - k - (intOf v8).toNat)
        case atStart => exact ⟨0, by omega, rfl, fun c hc => by simp at hc⟩
        case round =>
          obtain ⟨j, hj, rfl, HJ⟩ := hrel
          have hj' : (k : Int) + j ≤ s.size := by omega
          have HXT : Hid ((s.extract k (k + j)).data.toList = l.take j) := by
            unfold Hid; rw [Lib.extract_data, HL.out, show k + j - k = j by omega]
          have HXS : Hid (s.extract k (k + j) = ⟨(l.take j).toArray⟩) := by
            unfold Hid; rw [← HXT.out]
          by_cases hlt : k + j < s.size
          · have hlt' : (k : Int) + j < s.size := by omega
            by_cases h32 : s[k + j].toNat = 32
            · have h32' : ((s[k + j].toNat : Int) != 32) = false := by rw [h32]; rfl
              have HU : Hid (uN l = j) := Lib.hid (uN_of HJ.out (by have := HLL.out; omega) (.inr (by
                rw [← HL.out, List.getElem?_drop, List.getElem?_eq_getElem (by rw [len_data]; omega)]
                exact congrArg some (UInt8.toNat_inj.1 h32))))
              clear h32
              go_wp2_with fail
              have hcb : Calls Tryd.prog 51 #[.string (s.extract k (k + j))] (W2.alloc (.cells #[.string (s.extract k (k + j)), .bool false] 50)) fun e w' => e = .returned (.bool (bareS (l.take j))) ∧ (W2.alloc (.cells #[.string (s.extract k (k + j)), .bool false] 50)) = w' := by
                have := rBare (s.extract k (k + j)) (W2.alloc (.cells #[.string (s.extract k (k + j)), .bool false] 50)) (by simp; omega)
                rw [HXT.out] at this; exact this
              have hob := okAt_bare HN.out
              rw [HU.out] at hob
              have HOB := Lib.hid hob
              clear hob
              cases hbs : bareS (l.take j) with
              | false =>
                rw [hbs] at hcb
                have hbad := sofar_bad HS.out (by rw [len_data]; omega) (by rw [HL.out, HOB.out.1, hbs])
                have HBD := Lib.hid hbad
                clear hbad
                refine hcb.mono ?_
                rintro e W3 ⟨rfl, rfl⟩
                clear hcb
                go_wp2_with fail
                go_ret2
                rw [HBD.out.1, HBD.out.2]
                exact ⟨_, rfl, World.ownsRow_nil _ _ _ _, hbw2.alloc hz2 _⟩
              | true =>
                rw [hbs] at hcb
                refine hcb.mono ?_
                rintro e W3 ⟨rfl, rfl⟩
                clear hcb
                go_wp2_with fail
                go_meet
                refine ⟨j, (l.take j, false), rfl, by simp, ?_, by simp [World.cell?_alloc_new], hown2.alloc _, hbw2.alloc hz2 _, ?_⟩
                · rw [World.cell?_alloc_new, HXS.out]; rfl
                · have := fld_bare HN.out (by rw [HU.out]; exact hbs)
                  rw [HU.out] at this; exact this
            · have h32' : ((s[k + j].toNat : Int) != 32) = true := by rw [bne_iff_ne]; omega
              have HJ' : Hid (∀ c ∈ l.take (j + 1), c ≠ 32) := by
                intro c hc
                have hgj : l[j]? = some s[k + j] := by
                  rw [← HL.out, List.getElem?_drop, List.getElem?_eq_getElem (by rw [len_data]; omega)]; rfl
                rw [List.take_add_one, hgj, List.mem_append] at hc
                rcases hc with hc | hc
                · exact HJ.out c hc
                · simp at hc; rw [hc]; intro h; rw [h] at h32; exact h32 rfl
              clear h32
              go_wp2_with fail
              refine ⟨⟨trivial, ?_⟩, by simp [intOf]; omega⟩
              repeat apply Exists.intro
              exact ⟨⟨j + 1, by omega, by go_num, HJ'⟩, rfl⟩
          · have hlt' : ¬ (k : Int) + j < s.size := by omega
            have HU : Hid (uN l = j) := Lib.hid (uN_of HJ.out (by have := HLL.out; omega) (.inl (by have := HLL.out; omega)))
            go_wp2_with fail
            have hcb : Calls Tryd.prog 51 #[.string (s.extract k (k + j))] (W2.alloc (.cells #[.string (s.extract k (k + j)), .bool false] 50)) fun e w' => e = .returned (.bool (bareS (l.take j))) ∧ (W2.alloc (.cells #[.string (s.extract k (k + j)), .bool false] 50)) = w' := by
              have := rBare (s.extract k (k + j)) (W2.alloc (.cells #[.string (s.extract k (k + j)), .bool false] 50)) (by simp; omega)
              rw [HXT.out] at this; exact this
            have hob := okAt_bare HN.out
            rw [HU.out] at hob
            have HOB := Lib.hid hob
            clear hob
            cases hbs : bareS (l.take j) with
            | false =>
              rw [hbs] at hcb
              have hbad := sofar_bad HS.out (by rw [len_data]; omega) (by rw [HL.out, HOB.out.1, hbs])
              have HBD := Lib.hid hbad
              clear hbad
              refine hcb.mono ?_
              rintro e W3 ⟨rfl, rfl⟩
              clear hcb
              go_wp2_with fail
              go_ret2
              rw [HBD.out.1, HBD.out.2]
              exact ⟨_, rfl, World.ownsRow_nil _ _ _ _, hbw2.alloc hz2 _⟩
            | true =>
              rw [hbs] at hcb
              refine hcb.mono ?_
              rintro e W3 ⟨rfl, rfl⟩
              clear hcb
              go_wp2_with fail
              go_meet
              refine ⟨j, (l.take j, false), rfl, by simp, ?_, by simp [World.cell?_alloc_new], hown2.alloc _, hbw2.alloc hz2 _, ?_⟩
              · rw [World.cell?_alloc_new, HXS.out]; rfl
              · have := fld_bare HN.out (by rw [HU.out]; exact hbs)
                rw [HU.out] at this; exact this
      · obtain ⟨n, rfl⟩ : ∃ n : Nat, z = n := ⟨z.toNat, by omega⟩
        have hn0' : ((n : Int) == 0) = false := by rw [beq_eq_false_iff_ne]; omega
        go_wp2_with fail
        go_meet
        exact ⟨n, (rqT l, true), rfl, by simp, by simp [World.cell?_alloc_new], by simp [World.cell?_alloc_new], hown2.alloc _, hbw2.alloc hz2 _, Lib.hid (fld_quoted HN.out (by omega))⟩
    case rest =>
      obtain ⟨m, f, rfl, hsz, hc0, hc1, hown3, hbw3, HF⟩ := hcut
      obtain ⟨i0, hi, hz0, hz1, hz2'⟩ := info_parts infoField
      have hm1 := HF.out.pos
      have hm2 := HF.out.le
      have hll := HLL.out
      have hx1 : fs.length + 1 ≤ maxLen := by unfold maxLen; omega
      have hx2 : (fs.length + 1) * 24 ≤ 140737488355328 := by omega
      have hx3 : w.heap.size ≤ (wc.alloc (.cells #[.string ⟨f.1.toArray⟩, .bool f.2] 50)).heap.size := by simp; omega
      clear hll
      go_upto_region 17 with (at_builtin; refine wpList_append_own _ rfl _ _ 32 rfl w.heap.size 50 i0 (.agg #[.string ByteArray.empty, .bool false]) 2 24 Tryd.underlying32 hi hz0 hz1 hz2' rfl (by decide) _ _ _ rfl (hown3.alloc _) ⟨wc.heap.size, 0, none⟩ 1 1 [.string ⟨f.1.toArray⟩, .bool f.2] rfl rfl ?c1 ?c2 hx1 hx2 hx3 ?c6)
      case c1 =>
        intro j u hj
        match j, hj with
        | 0, hj => simp at hj; subst hj; simp [World.cell?_alloc_new, Addr.add]
        | 1, hj => simp at hj; subst hj; simp [World.cell?_alloc_new, Addr.add]
        | j + 2, hj => simp at hj
      case c2 =>
        intro u hu
        simp at hu
        rcases hu with rfl | rfl <;> rfl
      case c6 =>
        intro v' w1 hown' hgrow _
        obtain ⟨g', cap', rfl⟩ := ownsRow_succ hown'
        have hbl : w1.heap[W2.heap.size]? = wc.heap[W2.heap.size]? := (hgrow.block _ (by simp; omega) (fun e => by have := (hrl _ e.symm).2; omega)).trans (Below.heap_alloc _ _ _ (by omega))
        have hd0 : w1.cell? ⟨W2.heap.size, 0, none⟩ = some (.string ⟨f.1.toArray⟩) := by rw [← hc0]; simp only [World.cell?, hbl]
        have hbw4 : Below w.heap.size w w1 := (hbw3.alloc (by omega) _).grown hgrow hx3 (fun k e => by have := (hrl k e).1; omega)
        clear hc0 hc1
        go_upto_region 17 with fail
        go_cut [5] (fun v5 wx => wx = w1 ∧ v5 = .bool (anyB (fs ++ [f])))
        case first =>
          cases hab : anyB fs with
          | true =>
            have HA := Lib.hid (by rw [anyB_snoc, hab]; rfl : anyB (fs ++ [f]) = true)
            go_wp2_with fail
            go_meet
            exact ⟨rfl, by rw [HA.out]⟩
          | false =>
            by_cases hfl : 2000 < f.1.length
            · have HA := Lib.hid (by rw [anyB_snoc, hab]; simpa using hfl : anyB (fs ++ [f]) = true)
              have hfl' : (2000 : Int) < f.1.length := by omega
              go_wp2_with fail
              go_meet
              exact ⟨rfl, by rw [HA.out]⟩
            · have HA := Lib.hid (by rw [anyB_snoc, hab]; simpa using hfl : anyB (fs ++ [f]) = false)
              have hfl' : ¬ (2000 : Int) < f.1.length := by omega
              go_wp2_with fail
              go_meet
              exact ⟨rfl, by rw [HA.out]⟩
        case rest =>
          obtain ⟨rfl, rfl⟩ := hcut
          have hfs : (fcells fs ++ [.string ⟨f.1.toArray⟩, .bool f.2]) = fcells (fs ++ [f]) := (fcells_snoc fs f).symm
          rw [hfs] at hown'
          have hlf : (fs ++ [f]).length = fs.length + 1 := by simp
          have HLF := Lib.hid hlf
          have hkm : (k : Int) + m ≤ s.size := by have := HLL.out; omega
          by_cases hend : k + m = s.size
          · have hend' : ((k : Int) + m == s.size) = true := by rw [beq_iff_eq]; omega
            have hok : okAt l = true := HF.out.ok.2 (.inl (by have := HLL.out; omega))
            have hse := sofar_end HS.out (by rw [HL.out]; exact hok) (by rw [HL.out, HF.out.is]; simp only; have := HLL.out; omega)
            rw [HL.out, HF.out.is] at hse
            simp only at hse
            have HE := Lib.hid hse
            clear hse hok hlf
            cases hab : anyB (fs ++ [f]) with
            | true =>
              have HR := Lib.hid (splE_many (l := s.data.toList) (by rw [len_data]; omega) HE.out.1 (by rw [HE.out.2, longB_anyB, hab]; rfl))
              go_wp2_with fail
              go_ret2
              rw [HR.out.1, HR.out.2]
              exact ⟨_, rfl, World.ownsRow_nil _ _ _ _, hbw4⟩
            | false =>
              by_cases h64 : 64 < fs.length + 1
              · have h64' : (64 : Int) < (fs.length : Int) + 1 := by omega
                have HR := Lib.hid (splE_many (l := s.data.toList) (by rw [len_data]; omega) HE.out.1 (by rw [HE.out.2, longB_anyB, hab, HLF.out]; simpa using h64))
                go_wp2_with fail
                go_ret2
                rw [HR.out.1, HR.out.2]
                exact ⟨_, rfl, World.ownsRow_nil _ _ _ _, hbw4⟩
              · have h64' : ¬ (64 : Int) < (fs.length : Int) + 1 := by omega
                have HR := Lib.hid (splE_ok (l := s.data.toList) (by rw [len_data]; omega) HE.out.1 (by rw [HE.out.2, longB_anyB, hab, HLF.out]; simpa using h64))
                go_wp2_with fail
                go_ret2
                rw [HR.out.1, HR.out.2, HE.out.2, HLF.out]
                exact ⟨_, rfl, hown', hbw4⟩
          · have hend' : ((k : Int) + m == s.size) = false := by rw [beq_eq_false_iff_ne]; omega
            have hltk : k + m < s.size := by have := HLL.out; omega
            have hget : l[m]? = some s[k + m] := by
              rw [← HL.out, List.getElem?_drop, List.getElem?_eq_getElem (by rw [len_data]; omega)]; rfl
            have HG := Lib.hid hget
            have hltk' : (k : Int) + m < s.size := by omega
            clear hget hlf
            by_cases h32 : s[k + m].toNat = 32
            · have h32' : ((s[k + m].toNat : Int) != 32) = false := by rw [h32]; rfl
              have hok : okAt l = true := HF.out.ok.2 (.inr (by rw [HG.out, show s[k + m] = 32 from UInt8.toNat_inj.1 h32]))
              have hst := sofar_step HS.out (by rw [HL.out]; exact hok) (by rw [HL.out, HF.out.is]; simp only; have := HLL.out; omega)
              rw [HL.out, HF.out.is] at hst
              simp only at hst
              have HST := Lib.hid hst
              clear hst hok h32
              go_wp2_with fail
              refine ⟨⟨k + m + 1, fs ++ [f], by omega, by rw [HLF.out]; omega, by go_num, rfl, by rw [HLF.out]; exact hown', hbw4, HST⟩, by simp [intOf]; omega⟩
            · have h32' : ((s[k + m].toNat : Int) != 32) = true := by rw [bne_iff_ne]; omega
              have hok : okAt l = false := by
                cases hb : okAt l with
                | false => rfl
                | true =>
                  have := HF.out.ok.1 hb
                  rw [HG.out] at this
                  rcases this with h | h
                  · have := HLL.out; omega
                  · injection h with h; rw [h] at h32; exact absurd rfl h32
              have hbad := sofar_bad HS.out (by rw [len_data]; omega) (by rw [HL.out, hok])
              have HBD := Lib.hid hbad
              clear hbad hok h32
              go_wp2_with fail
              go_ret2
              rw [HBD.out.1, HBD.out.2]
              exact ⟨_, rfl, World.ownsRow_nil _ _ _ _, hbw4⟩

set_option maxRecDepth 100000 in
theorem rSplit (s : ByteArray) (w : World) (hs : s.size ≤ 9223372036854775807) :
    Calls Tryd.prog 24 #[.string s] w fun e w' => ∃ v, e = .returned (.tuple #[v, .int .i64 (splE s.data.toList)]) ∧ w'.ownsRow w.heap.size 50 2 v (splF s.data.toList).length (fcells (splF s.data.toList)) ∧ Below w.heap.size w w' := by
  by_cases h8 : s.size ≤ 8192
  · by_cases h0 : 0 < s.size
    · exact rSplit_some s w h0 h8
    · have hz : s.size = 0 := by omega
      have hz' : (s.size : Int) ≤ 8192 := by omega
      have he := isEmpty_of_zero s hz
      have hne := toList_nil_of_zero s hz
      have hd : s.data.toList = [] := List.eq_nil_of_length_eq_zero (by rw [len_data]; exact hz)
      have HR : Hid (splE s.data.toList = 0 ∧ splF s.data.toList = []) := by rw [hd]; exact ⟨by decide, by decide⟩
      clear hz hd
      go_enter Tryd.func24, Tryd.ntmps24
      go_wp2_with fail
      go_ret2
      rw [HR.out.1, HR.out.2]
      exact ⟨_, rfl, World.ownsRow_nil _ _ _ _, Below.refl _ _⟩
  · have h8' : (8192 : Int) < s.size := by omega
    have HR := Lib.hid (splE_long (l := s.data.toList) (by rw [len_data]; omega))
    clear h8
    go_enter Tryd.func24, Tryd.ntmps24
    go_wp2_with fail
    go_ret2
    rw [HR.out.1, HR.out.2]
    exact ⟨_, rfl, World.ownsRow_nil _ _ _ _, Below.refl _ _⟩
end Go.Proofs.YtjjghagjigaljaaDoor
