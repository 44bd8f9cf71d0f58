/- bareLength of the package returns the length of the bare word at the start, and a cloned string reads as the string; conditions on lengths. -/
import Derived.Test.YtoknncoolmbklaaDoorQuote
import Derived.Test.YtoknncoolmbklaaDoorPlain
namespace Go.Proofs.YtoknncoolmbklaaDoor
set_option linter.unusedVariables false
set_option linter.unusedSimpArgs false
open Go.RowKit Go.Sort

theorem wClone (s : ByteArray) (w : World) (hlim : s.size ≤ 281474976710656) :
    Calls Tryd.prog 78 #[.string s] w fun e w' => e = .returned (.string s) ∧ Below w.heap.size w w' := by
  go_enter Tryd.func78, Tryd.ntmps78
  go_wp2_with (go_at_call 99; refine (Tryd.stringslite_Clone s _ hlim).mono ?_; rintro e w' ⟨rfl, hb⟩)
  go_ret
  exact ⟨rfl, hb⟩

theorem takeWhile_len_of {l : List UInt8} {p : UInt8 → Bool} {k : Nat} (h : ∀ c ∈ l.take k, p c = true) (hk : k ≤ l.length) (hn : ∀ c, l[k]? = some c → p c = false) : (l.takeWhile p).length = k := by
  induction l generalizing k with
  | nil => simp at hk; simp [hk]
  | cons a l ih =>
    cases k with
    | zero => have := hn a rfl; simp [List.takeWhile_cons, this]
    | succ k =>
      have ha := h a (by simp)
      rw [List.takeWhile_cons, if_pos ha, List.length_cons]
      rw [ih (fun c hc => h c (by rw [List.take_succ_cons]; exact List.mem_cons_of_mem _ hc)) (by simpa using hk) (fun c hc => hn c (by simpa using hc))]

theorem wBareLength (s : ByteArray) (w : World) (hs : s.size ≤ 9223372036854775806) :
    Calls Tryd.prog 77 #[.string s] w fun e w' => e = .returned (.int .i64 (bareN s.data.toList)) ∧ w = w' := by
  go_enter Tryd.func77, Tryd.ntmps77
  go_wp2_with fail
  go_loop [3] (fun i => ∃ k : Nat, k ≤ s.size ∧ i = .int .i64 k ∧ Hid (∀ c ∈ s.data.toList.take k, bareB c = true)) (fun i => s.size - (intOf i).toNat)
  case atStart => exact ⟨0, by omega, rfl, fun c hc => by simp at hc⟩
  case round =>
    obtain ⟨k, hk, rfl, hall⟩ := hrel
    by_cases hlt : k < s.size
    · have hget : s.data.toList[k]? = some s[k] := by rw [List.getElem?_eq_getElem (by simpa using hlt)]; rfl
      have HG := Lib.hid hget
      clear hget
      go_wp2_with (go_at_call 71; refine (wPlain _ _).mono ?_; rintro e w' ⟨rfl, rfl⟩)
      · have hb : bareB s[k] = true := by
          have h1 := ‹plB (s[k].toNat : Int) = true›
          have h2 := ‹((s[k].toNat : Int) != 32) = true›
          rw [bne_iff_ne] at h2
          unfold bareB; rw [h1, Bool.true_and, decide_eq_true_iff]; intro h; rw [h] at h2; exact h2 rfl
        refine ⟨⟨k + 1, by omega, by go_num, ?_⟩, by simp [intOf]; omega⟩
        intro c hc
        rw [take_snoc_data s k hlt, List.mem_append] at hc
        rcases hc with hc | hc
        · exact hall c hc
        · simp at hc; rw [hc]; exact hb
      · have hb : bareB s[k] = false := by
          have h2 := ‹((s[k].toNat : Int) != 32) = false›
          have h3 : s[k].toNat = 32 := by simp only [bne_eq_false_iff_eq] at h2; omega
          unfold bareB; rw [show s[k] = 32 from UInt8.toNat_inj.1 h3]; decide
        go_ret
        exact ⟨ret_int (by rw [bareN, takeWhile_len_of hall.out (by rw [len_data]; omega) (fun c hc => by rw [HG.out] at hc; injection hc with hc; rw [← hc]; exact hb)]), rfl⟩
      · have hb : bareB s[k] = false := by
          have h1 := ‹¬ plB (s[k].toNat : Int) = true›
          unfold bareB; simp [h1]
        go_ret
        exact ⟨ret_int (by rw [bareN, takeWhile_len_of hall.out (by rw [len_data]; omega) (fun c hc => by rw [HG.out] at hc; injection hc with hc; rw [← hc]; exact hb)]), rfl⟩
    · go_wp2_with fail
      go_ret
      exact ⟨ret_int (by rw [bareN, takeWhile_len_of hall.out (by rw [len_data]; omega) (fun c hc => by rw [List.getElem?_eq_none (by rw [len_data]; omega)] at hc; simp at hc)]), rfl⟩
end Go.Proofs.YtoknncoolmbklaaDoor
