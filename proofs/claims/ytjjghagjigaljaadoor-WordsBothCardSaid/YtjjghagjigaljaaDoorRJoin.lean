/- Join of the reference returns the line and the error that P1.4 names; conditions: the slice reads as these fields. -/
import Derived.Test.YtjjghagjigaljaaDoorJoin
import Derived.Test.YtjjghagjigaljaaDoorRBare
import Derived.Test.YtjjghagjigaljaaDoorRQuote
namespace Go.Proofs.YtjjghagjigaljaaDoor
open Go.RowKit Go.Sort
theorem rBareL (l : List UInt8) (hf : l.length ≤ 1000000) (W : World) : Calls Tryd.prog 51 #[.string ⟨l.toArray⟩] W fun e w' => e = .returned (.bool (bareS l)) ∧ W = w' :=
  rBare ⟨l.toArray⟩ W (by rw [sizeL]; omega)
theorem rQuoteL (l : List UInt8) (hf : l.length ≤ 1000000) (W : World) : Calls Tryd.prog 22 #[.string ⟨l.toArray⟩] W fun e w' => e = .returned (.string ⟨(quoteL l).toArray⟩) ∧ Below W.heap.size W w' :=
  rQuote ⟨l.toArray⟩ W (by rw [sizeL]; omega)
theorem str_app (a b : List UInt8) : (⟨a.toArray⟩ : ByteArray) ++ ⟨b.toArray⟩ = ⟨(a ++ b).toArray⟩ := by
  exact mk_append a b
set_option maxRecDepth 100000 in
set_option maxHeartbeats 800000 in
theorem rJoin (v : Value) (fs : List FL) (w : World) (hf : FieldsAt w v fs) :
    Calls Tryd.prog 28 #[v] w fun e w' => e = .returned (.tuple #[.string ⟨(joiS fs).toArray⟩, .int .i64 (joiE fs)]) ∧ Below w.heap.size w w' := by
  obtain ⟨p, c, rfl⟩ := hf.shape
  by_cases h64 : 64 < fs.length
  · have h64' : (64 : Int) < fs.length := by omega
    have HR := Lib.hid (joi_long (fs := fs) (by unfold longB; rw [decide_eq_true h64]; rfl))
    clear h64
    go_enter Tryd.func28, Tryd.ntmps28
    go_wp2_with fail
    go_ret2
    rw [HR.out.1, HR.out.2]
    exact ⟨rfl, Below.refl _ _⟩
  · have h64' : (fs.length : Int) ≤ 64 := by omega
    have HF := Lib.hid hf
    clear hf
    go_enter Tryd.func28, Tryd.ntmps28
    go_wp2_with fail
    go_loop [4] (fun i => ∃ k : Nat, k ≤ fs.length ∧ i = .int .i64 k ∧ Hid (∀ j (h : j < fs.length), j < k → fs[j].1.length ≤ 2000)) (fun i => fs.length - (intOf i).toNat)
    case atStart => exact ⟨0, by omega, rfl, fun j h hj => by omega⟩
    case round =>
      obtain ⟨k, hk, rfl, HL⟩ := hrel
      by_cases hkl : k < fs.length
      · obtain ⟨b, o, rfl, hlt, hc0, hc1⟩ := HF.out.get k hkl
        have hkl' : (k : Int) < fs.length := by omega
        by_cases h2 : 2000 < fs[k].1.length
        · have h2' : (2000 : Int) < fs[k].1.length := by omega
          have HR := Lib.hid (joi_long (longB_any hkl h2))
          go_wp2_with fail
          go_ret2
          rw [HR.out.1, HR.out.2]
          exact ⟨rfl, Below.refl _ _⟩
        · have h2' : ¬ (2000 : Int) < fs[k].1.length := by omega
          go_wp2_with fail
          go_round
          case rel =>
            refine ⟨k + 1, by omega, by go_num, fun j hj hjk => ?_⟩
            by_cases hjk' : j = k
            · subst hjk'; omega
            · exact HL.out j hj (by omega)
          case measure => simp [intOf]; omega
      · obtain rfl : k = fs.length := by omega
        have hlb : longB fs = false := longB_none (by omega) (fun j hj => HL.out j hj hj)
        have H2 := Lib.hid (fun j hj => HL.out j hj hj : ∀ j (h : j < fs.length), fs[j].1.length ≤ 2000)
        clear HL
        go_wp2_with fail
        go_loopw [5, 6] (fun t i wr => ∃ (k : Nat), k ≤ fs.length ∧ i = .int .i64 k ∧ t = .string ⟨(joinL (fs.take k)).toArray⟩ ∧ Below w.heap.size w wr ∧
          Hid (∀ j (h : j < fs.length), j < k → badF fs[j] = false)) (fun _ i _ => fs.length - (intOf i).toNat)
        case atStart => exact ⟨0, by omega, rfl, rfl, Below.refl _ _, fun j h hj => by omega⟩
        case round =>
          obtain ⟨k, hk, rfl, rfl, hbw, HB⟩ := hrel
          have hJL : (joinL (fs.take k)).length ≤ 600000 := by
            have := joinL_len (M := 2000) (fs.take k) (fun f hf => by
              obtain ⟨j, hj, rfl⟩ := List.mem_iff_getElem.1 (List.mem_of_mem_take hf)
              exact H2.out j hj)
            have h3 : (fs.take k).length ≤ 64 := by rw [List.length_take]; omega
            have h4 : (fs.take k).length * (4 * 2000 + 3) ≤ 64 * (4 * 2000 + 3) := Nat.mul_le_mul_right _ h3
            omega
          by_cases hkl : k < fs.length
          · obtain ⟨b, o, rfl, hlt, hc0, hc1⟩ := (HF.out.below hbw).get k hkl
            obtain ⟨f, hfd⟩ : ∃ f, fs[k] = f := ⟨_, rfl⟩
            rw [hfd] at hc0 hc1
            have HFD := Lib.hid hfd
            have hf2 : f.1.length ≤ 2000 := by rw [← hfd]; exact H2.out _ hkl
            clear hfd
            have hkl' : (k : Int) < fs.length := by omega
            have hzw := hbw.size
            cases hbf : badF f with
            | true =>
              have HR := Lib.hid (joi_form hlb (any_bad hkl (by rw [HFD.out]; exact hbf)))
              have hq : f.2 = false := by unfold badF at hbf; cases h : f.2 <;> simp [h] at hbf ⊢
              have hbs : bareS f.1 = false := by unfold badF at hbf; cases h : bareS f.1 <;> simp [h] at hbf ⊢
              rw [hq] at hc1
              have HC := Lib.hid (rBareL f.1 (by omega))
              rw [hbs] at HC
              clear hbf hq hbs
              go_wp2_with (go_at_call 51; refine (HC.out _).mono ?_; rintro e W5 ⟨rfl, rfl⟩)
              go_ret2
              rw [HR.out.1, HR.out.2]
              exact ⟨rfl, hbw⟩
            | false =>
              obtain ⟨T, hT⟩ : ∃ T, joinL (fs.take k) = T := ⟨_, rfl⟩
              rw [hT] at hJL
              rw [hT]
              have HT := Lib.hid hT
              clear hT
              have cont : ∀ q, f.2 = q → (q = true ∨ bareS f.1 = true) := fun q h => by
                unfold badF at hbf; rw [h] at hbf; cases q <;> simp at hbf ⊢; exact hbf
              cases hq : f.2 with
              | true =>
                rw [hq] at hc1
                have HIT : Hid (itemL f = quoteL f.1) := by unfold Hid itemL; rw [if_pos hq]
                have hql := itemL_len f
                rw [HIT.out] at hql
                have HC := Lib.hid (rQuoteL f.1 (by omega))
                clear hq cont
                go_upto_if 45 with fail
                go_cut [5] (fun v5 wx => wx = wr ∧ v5 = .string ⟨(T ++ (if fs.take k = [] then [] else [32])).toArray⟩)
                case first =>
                  by_cases hk0 : k = 0
                  · subst hk0
                    go_wp2_with fail
                    go_meet
                    exact ⟨rfl, by simp⟩
                  · have hk0' : (0 : Int) < (k : Int) := by omega
                    have hne : ¬ fs.take k = [] := fun h => hk0 ((take_nil_iff fs k hk).1 h)
                    have hl1 : T.length + 1 ≤ 9223372036854775807 := by omega
                    go_wp2_with fail
                    go_meet
                    refine ⟨rfl, ?_⟩
                    rw [if_neg hne, ← str_app]
                case rest =>
                  obtain ⟨rfl, rfl⟩ := hcut
                  obtain ⟨T2, hT2⟩ : ∃ T2, T ++ (if fs.take k = [] then [] else [32]) = T2 := ⟨_, rfl⟩
                  have hT2l : T2.length ≤ 600001 := by rw [← hT2, List.length_append]; split <;> simp <;> omega
                  rw [hT2]
                  have HT2 := Lib.hid hT2
                  clear hT2
                  go_wp2_with fail
                  refine (HC.out _).mono ?_
                  rintro e W5 ⟨rfl, b5⟩
                  go_wp2_with fail
                  refine ⟨⟨k + 1, by omega, by go_num, ?_, hbw.trans (b5.mono hzw), ?_⟩, by simp [intOf]; omega⟩
                  · rw [str_app, take_snocF fs k hkl, joinL_snoc, HFD.out, HIT.out, HT.out, ← List.append_assoc, HT2.out]
                  · intro j hj hjk
                    by_cases hjk' : j = k
                    · subst hjk'; rw [HFD.out]; exact hbf
                    · exact HB.out j hj (by omega)
              | false =>
                have hbs : bareS f.1 = true := (cont false hq).resolve_left (by simp)
                rw [hq] at hc1
                have HIT : Hid (itemL f = f.1) := by unfold Hid itemL; rw [if_neg (by simp [hq])]
                have HC := Lib.hid (rBareL f.1 (by omega))
                rw [hbs] at HC
                clear hq cont hbs
                go_upto_if 45 with (go_at_call 51; refine (HC.out _).mono ?_; rintro e W5 ⟨rfl, rfl⟩)
                go_cut [5] (fun v5 wx => wx = wr ∧ v5 = .string ⟨(T ++ (if fs.take k = [] then [] else [32])).toArray⟩)
                case first =>
                  by_cases hk0 : k = 0
                  · subst hk0
                    go_wp2_with fail
                    go_meet
                    exact ⟨rfl, by simp⟩
                  · have hk0' : (0 : Int) < (k : Int) := by omega
                    have hne : ¬ fs.take k = [] := fun h => hk0 ((take_nil_iff fs k hk).1 h)
                    have hl1 : T.length + 1 ≤ 9223372036854775807 := by omega
                    go_wp2_with fail
                    go_meet
                    refine ⟨rfl, ?_⟩
                    rw [if_neg hne, ← str_app]
                case rest =>
                  obtain ⟨rfl, rfl⟩ := hcut
                  obtain ⟨T2, hT2⟩ : ∃ T2, T ++ (if fs.take k = [] then [] else [32]) = T2 := ⟨_, rfl⟩
                  have hT2l : T2.length ≤ 600001 := by rw [← hT2, List.length_append]; split <;> simp <;> omega
                  rw [hT2]
                  have HT2 := Lib.hid hT2
                  clear hT2
                  go_wp2_with fail
                  refine ⟨⟨k + 1, by omega, by go_num, ?_, hbw, ?_⟩, by simp [intOf]; omega⟩
                  · rw [str_app, take_snocF fs k hkl, joinL_snoc, HFD.out, HIT.out, HT.out, ← List.append_assoc, HT2.out]
                  · intro j hj hjk
                    by_cases hjk' : j = k
                    · subst hjk'; rw [HFD.out]; exact hbf
                    · exact HB.out j hj (by omega)
          · obtain rfl : k = fs.length := by omega
            have hnb := none_bad (fun j hj => HB.out j hj hj)
            rw [List.take_length] at hJL
            rw [List.take_length]
            by_cases h8 : 8192 < (joinL fs).length
            · have HR := Lib.hid (joi_line hlb hnb h8)
              have h8' : (8192 : Int) < ((joinL fs).length : Int) := by omega
              go_wp2_with fail
              go_ret2
              rw [HR.out.1, HR.out.2]
              exact ⟨rfl, hbw⟩
            · have HR := Lib.hid (joi_ok hlb hnb h8)
              have h8' : ¬ (8192 : Int) < ((joinL fs).length : Int) := by omega
              go_wp2_with fail
              go_ret2
              rw [HR.out.1, HR.out.2]
              exact ⟨rfl, hbw⟩
end Go.Proofs.YtjjghagjigaljaaDoor
