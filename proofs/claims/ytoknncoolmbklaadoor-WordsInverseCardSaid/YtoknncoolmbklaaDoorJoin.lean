/- Join of the package returns the line and the error that P1.4 names; conditions: Amb, the slice reads as these fields. -/
import Derived.Test.YtoknncoolmbklaaDoorWriteField
import Derived.Test.YtoknncoolmbklaaDoorSame
import Derived.Test.YtoknncoolmbklaaDoorInt
import Derived.Deep.DeepCutAuto
import Derived.RangeFuncBox
namespace Go.Proofs.YtoknncoolmbklaaDoor
set_option linter.unusedVariables false
set_option linter.unusedSimpArgs false
open Go.RowKit Go.Sort
theorem FieldsAt.get {w : World} {p : Option Addr} {c : Nat} {fs : List FL} (h : FieldsAt w (.slice p fs.length c) fs) (i : Nat) (hi : i < fs.length) :
    ∃ b o, p = some ⟨b, o, none⟩ ∧ b < w.heap.size ∧ w.cell? ⟨b, o + i * 2, none⟩ = some (.string ⟨fs[i].1.toArray⟩) ∧ w.cell? ⟨b, o + i * 2 + 1, none⟩ = some (.bool fs[i].2) := by
  rcases h with ⟨h, rfl⟩ | ⟨b, o, cap, hv, hlt, hm, hc⟩
  · simp at hi
  · injection hv with h1 h2 h3
    exact ⟨b, o, h1, hlt, (hc i hi).1, (hc i hi).2⟩
theorem take_nil_iff (fs : List FL) (k : Nat) (hk : k ≤ fs.length) : fs.take k = [] ↔ k = 0 := by
  constructor
  · intro h; have := congrArg List.length h; rw [List.length_take, List.length_nil] at this; omega
  · rintro rfl; rfl
theorem take_snocF (fs : List FL) (k : Nat) (h : k < fs.length) : fs.take (k + 1) = fs.take k ++ [fs[k]] := by
  rw [List.take_succ_eq_append_getElem h]
set_option maxRecDepth 100000 in
set_option maxHeartbeats 800000 in
theorem wJoin (v : Value) (fs : List FL) (w : World) (ha : Amb w) (hf : FieldsAt w v fs) :
    Calls Tryd.prog 27 #[v] w fun e w' => e = .returned (.tuple #[.string ⟨(joiS fs).toArray⟩, .int .i64 (joiE fs)]) ∧ Below w.heap.size w w' := by
  have h9 := ha.size
  cases hlb : longB fs with
  | true =>
    have HR := Lib.hid (joi_long hlb)
    go_enter Tryd.func27, Tryd.ntmps27
    go_wp2_with fail
    refine (wTooLong v fs _ hf).mono ?_
    rintro e W1 ⟨rfl, b1⟩
    go_wp2_with fail
    go_ret2
    rw [HR.out.1, HR.out.2]
    exact ⟨rfl, b1⟩
  | false =>
    obtain ⟨h64, h2000⟩ := longB_parts hlb
    have H2 := Lib.hid h2000
    clear h2000
    obtain ⟨p, c, rfl⟩ := hf.shape
    have h64' : (fs.length : Int) ≤ 64 := by omega
    go_enter Tryd.func27, Tryd.ntmps27
    go_wp2_with fail
    refine (wTooLong _ fs _ hf).mono ?_
    rintro e W1 ⟨rfl, b1⟩
    have hz1 : w.heap.size ≤ W1.heap.size := b1.size
    have HF := Lib.hid (hf.below b1)
    clear hf
    go_wp2_with fail
    go_loopw [11] (fun i wr => ∃ (k : Nat), k ≤ fs.length ∧ i = .int .i64 k ∧ Lib.IsBuilderF 61 5 W1.heap.size W1.heap.size (Lib.byteCells (joinL (fs.take k))) wr ∧ Below W1.heap.size W1 wr ∧ W1.heap.size < wr.heap.size ∧
      Hid (∀ j (h : j < fs.length), j < k → badF fs[j] = false)) (fun i _ => fs.length - (intOf i).toNat)
    case atStart =>
      exact ⟨0, by omega, rfl, Lib.IsBuilderF.of (Lib.fresh_isBuilder _ _ W1), (Below.refl _ W1).alloc (Nat.le_refl _) _, by simp, fun j h hj => by omega⟩
    case round =>
      obtain ⟨k, hk, rfl, hI, hbw, hsz, HB⟩ := hrel
      have hJL : (joinL (fs.take k)).length ≤ 600000 := by
        have := joinL_len (M := 2000) (fs.take k) (fun f hf => H2.out f (List.mem_of_mem_take hf))
        have h3 : (fs.take k).length ≤ 64 := by rw [List.length_take]; omega
        have h4 : (fs.take k).length * (4 * 2000 + 3) ≤ 64 * (4 * 2000 + 3) := Nat.mul_le_mul_right _ h3
        omega
      by_cases hkl : k < fs.length
      · obtain ⟨b, o, rfl, hlt, hc0, hc1⟩ := (HF.out.below hbw).get k hkl
        obtain ⟨f, hfd⟩ : ∃ f, fs[k] = f := ⟨_, rfl⟩
        rw [hfd] at hc0 hc1
        have HFD := Lib.hid hfd
        have hf2 : f.1.length ≤ 2000 := by rw [← hfd]; exact H2.out _ (List.getElem_mem hkl)
        clear hfd
        have hkl' : (k : Int) < fs.length := by omega
        go_upto_if 17 with fail
        go_cut [] (fun wx => wx.heap[wr.heap.size]? = some (.cells #[.string ⟨f.1.toArray⟩, .bool f.2] 50 (0, 0)) ∧ Below W1.heap.size W1 wx ∧ W1.heap.size < wx.heap.size ∧
          Lib.IsBuilderF 61 5 W1.heap.size W1.heap.size (Lib.byteCells (joinL (fs.take k) ++ (if fs.take k = [] then [] else [32]))) wx)
        case first =>
          have hba : Below wr.heap.size wr (wr.alloc (.cells #[.string ⟨f.1.toArray⟩, .bool f.2] 50)) := (Below.refl _ _).alloc (Nat.le_refl _) _
          have hnew := World.alloc_heap_new wr (.cells #[.string ⟨f.1.toArray⟩, .bool f.2] 50)
          have HNEW := Lib.hid hnew
          clear hnew
          by_cases hk0 : k = 0
          · subst hk0
            go_wp2_with fail
            go_meet
            refine ⟨HNEW.out, hbw.alloc (by omega) _, by simp; omega, ?_⟩
            simpa using isBuilderF_below hI hba
          · have hk0' : (0 : Int) < (k : Int) := by omega
            have hne : ¬ fs.take k = [] := fun h => hk0 ((take_nil_iff fs k hk).1 h)
            go_wp2_with fail
            refine (Tryd.bWriteByte W1.heap.size W1.heap.size _ 32 _ (isBuilderF_below hI hba) (by rw [Lib.byteCells_length]; omega) (by simp; omega)).mono ?_
            rintro e W4 ⟨rfl, h4, b4, ho4⟩
            go_wp2_with fail
            go_meet
            refine ⟨ho4 _ _ HNEW.out (by simp; omega) (fun c fz h => by injection h with _ h2 _; exact absurd h2 (by decide)), (hbw.alloc (by omega) _).trans b4, by have := b4.size; simp at this; omega, ?_⟩
            rw [if_neg hne]
            have := bytes_snoc (joinL (fs.take k)) 32
            rw [← this]; exact .inr h4
        case rest =>
          obtain ⟨hd, hbw', hsz', hI'⟩ := hcut
          have hd0 : wc.cell? ⟨wr.heap.size, 0, none⟩ = some (.string ⟨f.1.toArray⟩) := by simp only [World.cell?, hd]; rfl
          have hd1 : wc.cell? ⟨wr.heap.size, 1, none⟩ = some (.bool f.2) := by simp only [World.cell?, hd]; rfl
          have haw : Amb wc := (ha.below b1).below hbw'
          have hzw : W1.heap.size ≤ wc.heap.size := by omega
          clear hd hc0 hc1
          cases hbf : badF f with
          | true =>
            have HR := Lib.hid (joi_form hlb (any_bad hkl (by rw [HFD.out]; exact hbf)))
            go_wp2_with fail
            refine (wWriteField_bad _ f _ (by omega) hbf).mono ?_
            rintro e W5 ⟨rfl, b5⟩
            go_wp2_with fail
            go_ret2
            rw [HR.out.1, HR.out.2]
            exact ⟨rfl, b1.trans ((hbw'.trans (b5.mono hzw)).mono hz1)⟩
          | false =>
            go_wp2_with fail
            refine (wWriteField W1.heap.size W1.heap.size _ f _ haw (by omega) hzw hI' (by omega) (by rw [List.length_append]; split <;> simp <;> omega) hbf).mono ?_
            rintro e W5 ⟨rfl, h5, b5⟩
            go_wp2_with fail
            refine ⟨⟨k + 1, by omega, by go_num, ?_, hbw'.trans b5, Nat.lt_of_lt_of_le hsz' b5.size, ?_⟩, by simp [intOf]; omega⟩
            · rw [take_snocF fs k hkl, joinL_snoc, HFD.out, ← List.append_assoc]; exact h5
            · intro j hj hjk
              by_cases hjk' : j = k
              · subst hjk'; rw [HFD.out]; exact hbf
              · exact HB.out j hj (by omega)
      · obtain rfl : k = fs.length := by omega
        rw [List.take_length] at hI hJL
        have hnb := none_bad (fun j hj => HB.out j hj hj)
        have hzr : W1.heap.size ≤ wr.heap.size := by omega
        have bw := b1.trans (hbw.mono hz1)
        go_wp2_with fail
        refine (Tryd.Builder_Len_f _ _ _ _ hI).mono ?_
        rintro e W6 ⟨rfl, rfl⟩
        by_cases h8 : 8192 < (joinL fs).length
        · have HR := Lib.hid (joi_line hlb hnb h8)
          have h8' : (8192 : Int) < ((Lib.byteCells (joinL fs)).length : Int) := by rw [Lib.byteCells_length]; omega
          go_wp2_with fail
          go_ret2
          rw [HR.out.1, HR.out.2]
          exact ⟨rfl, bw⟩
        · have HR := Lib.hid (joi_ok hlb hnb h8)
          have h8' : ¬ (8192 : Int) < ((Lib.byteCells (joinL fs)).length : Int) := by rw [Lib.byteCells_length]; omega
          go_wp2_with fail
          refine (Tryd.Builder_String_any_k _ _ (joinL fs) _ hI hzr).mono ?_
          rintro e W7 ⟨rfl, _, b7, _⟩
          go_wp2_with fail
          go_ret2
          rw [HR.out.1, HR.out.2]
          exact ⟨rfl, bw.trans (b7.mono hz1)⟩
end Go.Proofs.YtoknncoolmbklaaDoor
