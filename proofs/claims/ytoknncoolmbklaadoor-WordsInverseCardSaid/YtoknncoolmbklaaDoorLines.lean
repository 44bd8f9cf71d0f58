/- Lines of the package and of the reference return the lines and the error that P1.5 names; conditions: Amb, bounds on the length. -/
import Derived.Test.YtoknncoolmbklaaDoorPlain
import Derived.Test.YtoknncoolmbklaaDoorBuf
import Derived.Test.YtoknncoolmbklaaDoorWriteField
import Derived.Test.YtoknncoolmbklaaDoorLists
namespace Go.Proofs.YtoknncoolmbklaaDoor
set_option linter.unusedVariables false
set_option linter.unusedSimpArgs false
open Go.RowKit Go.Sort

/-- A slice of strings reads as these strings. -/
def StrsAt (w : World) (v : Value) (ss : List (List UInt8)) : Prop :=
  (v = .slice none 0 0 ∧ ss = []) ∨ ∃ b o cap, v = .slice (some ⟨b, o, none⟩) ss.length cap ∧ b < w.heap.size ∧ ss.length ≤ 4611686018427387904 ∧
    ∀ i (h : i < ss.length), w.cell? ⟨b, o + i, none⟩ = some (.string ⟨ss[i].toArray⟩)
theorem StrsAt.below {w w' : World} {v : Value} {ss : List (List UInt8)} (h : StrsAt w v ss) (hb : Below w.heap.size w w') : StrsAt w' v ss := by
  rcases h with h | ⟨b, o, cap, rfl, hlt, hm, hc⟩
  · exact .inl h
  · exact .inr ⟨b, o, cap, rfl, Nat.lt_of_lt_of_le hlt hb.size, hm, fun i hi => (hb.cell (p := ⟨b, o + i, none⟩) hlt).trans (hc i hi)⟩
theorem StrsAt.shape {w : World} {v : Value} {ss : List (List UInt8)} (h : StrsAt w v ss) : ∃ p c, v = .slice p ss.length c := by
  rcases h with ⟨rfl, rfl⟩ | ⟨b, o, cap, rfl, _⟩
  · exact ⟨_, _, rfl⟩
  · exact ⟨_, _, rfl⟩
theorem StrsAt.get {w : World} {p : Option Addr} {c : Nat} {ss : List (List UInt8)} (h : StrsAt w (.slice p ss.length c) ss) (i : Nat) (hi : i < ss.length) :
    ∃ b o, p = some ⟨b, o, none⟩ ∧ b < w.heap.size ∧ w.cell? ⟨b, o + i, none⟩ = some (.string ⟨ss[i].toArray⟩) := by
  rcases h with ⟨h, rfl⟩ | ⟨b, o, cap, hv, hlt, hm, hc⟩
  · simp at hi
  · injection hv with h1 h2 h3
    exact ⟨b, o, h1, hlt, hc i hi⟩
def scells (ss : List (List UInt8)) : List Value := ss.map fun l => .string ⟨l.toArray⟩
theorem scells_snoc (ss : List (List UInt8)) (l : List UInt8) : scells (ss ++ [l]) = scells ss ++ [.string ⟨l.toArray⟩] := by simp [scells]
theorem strsAt_of_owns {w : World} {base : Nat} {v : Value} {ss : List (List UInt8)} (h : w.ownsRow base 9 1 v ss.length (scells ss)) (hm : ss.length ≤ 4611686018427387904) : StrsAt w v ss := by
  obtain ⟨hl, h | ⟨g, cap, cur, rfl, hg, hh, hn, hcap, hcs, htk⟩⟩ := h
  · exact .inl ⟨h.1, List.length_eq_zero_iff.1 h.2⟩
  · refine .inr ⟨g, 0, cap, rfl, (Array.getElem?_eq_some_iff.1 hh).1, hm, fun i hi => ?_⟩
    have hget : (scells ss)[i]? = some (.string ⟨ss[i].toArray⟩) := by simp [scells, hi]
    rw [← htk, List.getElem?_take, if_pos (by omega)] at hget
    simp only [World.cell?, hh, Nat.zero_add]; rw [← Array.getElem?_toList]; exact hget
theorem infoStr : (Tryd.prog.info? 9).map (fun i => (i.zero, i.size, i.bytes)) = some (some (.string ByteArray.empty), 1, 16) := by kernel_rfl
theorem below_draws {w w' : World} (h : ∃ n, w' = w.drewN n) : Below w.heap.size w w' := by
  obtain ⟨n, rfl⟩ := h; exact below_drewN (Below.refl _ _) n
theorem wCutNl (t : List UInt8) (w : World) (ha : Amb w) (ht : t.length < 4294967281) : Calls Tryd.prog 82 #[.string ⟨t.toArray⟩, .string ⟨#[10]⟩] w fun e w' => e = .returned (.tuple #[.string ⟨(Lib.cut t [10]).1.toArray⟩, .string ⟨(Lib.cut t [10]).2.1.toArray⟩, .bool (Lib.cut t [10]).2.2]) ∧ Below w.heap.size w w' := by
  obtain ⟨m, hm⟩ := ha.maxLen
  refine (Tryd.strings_Cut ⟨t.toArray⟩ ⟨#[10]⟩ m w (by rw [sizeL]; exact ht) hm).mono ?_
  rintro e W1 ⟨rfl, hn⟩
  exact ⟨rfl, below_draws hn⟩
/-- What holds between two lines. -/
def AtLine (l : List UInt8) (w : World) (v0 v4 : Value) (wr : World) : Prop :=
  ∃ (t : List UInt8) (ss : List (List UInt8)), v0 = .string ⟨t.toArray⟩ ∧ wr.ownsRow w.heap.size 9 1 v4 ss.length (scells ss) ∧ Below w.heap.size w wr ∧ ss.length + t.length ≤ l.length ∧ Hid (linesL l = ss ++ linesL t) ∧ Hid (t = [] ∨ t.getLast? = some 10)

set_option maxRecDepth 100000 in
set_option maxHeartbeats 1000000 in
theorem wLines (s : ByteArray) (w : World) (ha : Amb w) (hs : s.size ≤ 4000000000) :
    Calls Tryd.prog 54 #[.string s] w fun e w' => ∃ v, e = .returned (.tuple #[v, .int .i64 (linE s.data.toList)]) ∧ w'.ownsRow w.heap.size 9 1 v (linF s.data.toList).length (scells (linF s.data.toList)) ∧ Below w.heap.size w w' := by
  by_cases hbig : 1048576 < s.size
  · have hb' : (1048576 : Int) < s.size := by omega
    have HR := Lib.hid (lin_long (l := s.data.toList) (by rw [len_data]; omega))
    go_enter Tryd.func54, Tryd.ntmps54
    go_wp2_with fail
    go_ret2
    rw [HR.out.1, HR.out.2]
    exact ⟨_, rfl, World.ownsRow_nil _ _ _ _, Below.refl _ _⟩
  have hb' : ¬ (1048576 : Int) < s.size := by omega
  obtain ⟨l, rfl⟩ : ∃ l : List UInt8, s = ⟨l.toArray⟩ := ⟨s.data.toList, by simp⟩
  rw [strL]
  rw [sizeL] at hbig hb' hs
  have hcs : ∀ W : World, Calls Tryd.prog 80 #[.string ⟨l.toArray⟩, .string ⟨#[10]⟩] W fun e w' => e = .returned (.bool (decide (l.getLast? = some 10))) ∧ W = w' := fun W => by
    have := Tryd.strings_HasSuffix ⟨l.toArray⟩ ⟨#[10]⟩ W (by rw [sizeL]; omega)
    rw [strL, show (⟨#[10]⟩ : ByteArray).data.toList = [10] from rfl, suffix_last] at this
    exact this.mono fun _ _ ⟨h, h'⟩ => ⟨h, h'.symm⟩
  have hcc : ∀ W : World, Calls Tryd.prog 81 #[.string ⟨l.toArray⟩, .string ⟨#[10]⟩] W fun e w' => e = .returned (.int .i64 ((linesL l).length : Nat)) ∧ W = w' := fun W => by
    have := Tryd.strings_Count_one ⟨l.toArray⟩ 10 W
    rw [strL, ← linesL_len] at this
    exact this.mono fun _ _ ⟨h, h'⟩ => ⟨h, h'.symm⟩
  have HCS := Lib.hid hcs
  have HCC := Lib.hid hcc
  clear hcs hcc
  by_cases hform : l ≠ [] ∧ l.getLast? ≠ some 10
  · have HR := Lib.hid (lin_form (l := l) hbig hform)
    have he : l.isEmpty = false := by simpa using hform.1
    have hd : decide (l.getLast? = some 10) = false := decide_eq_false hform.2
    rw [hd] at HCS
    clear hform hd
    go_enter Tryd.func54, Tryd.ntmps54
    go_wp2_with (go_at_call 80; refine (HCS.out _).mono ?_; rintro e W1 ⟨rfl, rfl⟩)
    go_ret2
    rw [HR.out.1, HR.out.2]
    exact ⟨_, rfl, World.ownsRow_nil _ _ _ _, Below.refl _ _⟩
  · have hlast : l = [] ∨ l.getLast? = some 10 := by
      by_cases h : l = []
      · exact .inl h
      · right; exact Classical.byContradiction fun h' => hform ⟨h, h'⟩
    have hcall : ∀ W : World, l ≠ [] → Calls Tryd.prog 80 #[.string ⟨l.toArray⟩, .string ⟨#[10]⟩] W fun e w' => e = .returned (.bool true) ∧ W = w' := fun W h => by
      have := HCS.out W
      rw [decide_eq_true (hlast.resolve_left h)] at this; exact this
    have HCALL := Lib.hid hcall
    have HLAST := Lib.hid hlast
    have hlen := linesL_le l
    have hn0 := World.ownsRow_nil w w.heap.size 9 1
    by_cases hmany : 5000 < (linesL l).length
    · have hmany' : (5000 : Int) < ((linesL l).length : Nat) := by omega
      have HR := Lib.hid (lin_many hbig hform hmany)
      have he : l ≠ [] := by intro h; rw [h] at hmany; simp [linesL, linesC] at hmany
      have he' : l.isEmpty = false := by simpa using he
      have HNE := Lib.hid he
      clear hform hcall hlast hlen hn0 he HCS
      go_enter Tryd.func54, Tryd.ntmps54
      go_wp2_with (first | (go_at_call 80; refine (HCALL.out _ HNE.out).mono ?_; rintro e W1 ⟨rfl, rfl⟩) | (go_at_call 81; refine (HCC.out _).mono ?_; rintro e W1 ⟨rfl, rfl⟩))
      go_ret2
      rw [HR.out.1, HR.out.2]
      exact ⟨_, rfl, World.ownsRow_nil _ _ _ _, Below.refl _ _⟩
    · have hmany' : ¬ (5000 : Int) < ((linesL l).length : Nat) := by omega
      have HR := Lib.hid (lin_ok hbig hform hmany)
      have h63 : l.length ≤ 1048576 := by omega
      clear hform hcall hlast hlen HCS
      obtain ⟨i0, hi, hz0, hz1, hz2⟩ := info_parts infoStr
      by_cases he : l = []
      · subst he
        go_enter Tryd.func54, Tryd.ntmps54
        go_wp2_with (go_at_call 81; refine (HCC.out _).mono ?_; rintro e W1 ⟨rfl, rfl⟩)
        go_rounds 1
        go_ret2
        rw [HR.out.1, HR.out.2]
        exact ⟨_, rfl, hn0, Below.refl _ _⟩
      · have he' : l.isEmpty = false := by simpa using he
        have HNE := Lib.hid he
        clear he
        go_enter Tryd.func54, Tryd.ntmps54
        go_wp2_with (first | (go_at_call 80; refine (HCALL.out _ HNE.out).mono ?_; rintro e W1 ⟨rfl, rfl⟩) | (go_at_call 81; refine (HCC.out _).mono ?_; rintro e W1 ⟨rfl, rfl⟩))
        go_loopw [0, 4] (AtLine l w) (fun v0 _ _ => match v0 with | .string b => b.size | _ => 0)
        case atStart => exact ⟨l, [], rfl, hn0, Below.refl _ _, by simp, rfl, HLAST.out⟩
        case round =>
          obtain ⟨t, ss, rfl, hown, hbw, hsl, HL, HT⟩ := hrel
          by_cases ht : t = []
          · subst ht
            have hfin : linesL l = ss := by rw [HL.out]; simp [linesL, linesC]
            have HFIN := Lib.hid hfin
            clear hfin
            go_wp2_with fail
            go_ret2
            rw [HR.out.1, HR.out.2, HFIN.out]
            exact ⟨_, rfl, hown, hbw⟩
          · have ht' : t.isEmpty = false := by simpa using ht
            obtain ⟨a, b, hcut, hll, hbt, hat, hbl⟩ := cut_line (HT.out.resolve_left ht)
            have hcc : ∀ W, Amb W → Calls Tryd.prog 82 #[.string ⟨t.toArray⟩, .string ⟨#[10]⟩] W fun e w' => e = .returned (.tuple #[.string ⟨a.toArray⟩, .string ⟨b.toArray⟩, .bool true]) ∧ Below W.heap.size W w' := fun W hW => by
              have := wCutNl t W hW (by omega)
              rw [hcut] at this; exact this
            have hcl : ∀ W, Calls Tryd.prog 78 #[.string ⟨a.toArray⟩] W fun e w' => e = .returned (.string ⟨a.toArray⟩) ∧ Below W.heap.size W w' := fun W => wClone _ W (by rw [sizeL]; omega)
            have HCUT := Lib.hid hcc
            have HCL := Lib.hid hcl
            have HLL := Lib.hid hll
            have haw := ha.below hbw
            have hbl' := Lib.hid hbl
            have hw0 := hbw.size
            clear ht hcut hcc hcl hll hbl
            go_wp2_with fail
            refine (HCUT.out _ haw).mono ?_
            rintro e W2 ⟨rfl, b2⟩
            have hown2 := ownsRow_below hown b2
            have hbw2 := hbw.trans (b2.mono hw0)
            have hz2' := hbw2.size
            clear hown b2 haw
            go_wp2_with fail
            refine (HCL.out _).mono ?_
            rintro e W3 ⟨rfl, b3⟩
            have hown3 := ownsRow_below hown2 b3
            have hbw3 := hbw2.trans (b3.mono hz2')
            have hz3 := hbw3.size
            have hx1 : ss.length + 1 ≤ maxLen := by unfold maxLen; omega
            have hx2 : (ss.length + 1) * 16 ≤ 140737488355328 := by omega
            have hx3 : w.heap.size ≤ (W3.alloc (.cells #[.string ⟨a.toArray⟩] 9)).heap.size := by simp; omega
            clear hown2 b3
            go_wp2_with (at_builtin; refine wpList_append_own _ rfl _ _ 71 rfl w.heap.size 9 i0 (.string ByteArray.empty) 1 16 Tryd.underlying71 hi hz0 hz1 hz2 rfl (by decide) _ _ _ rfl (hown3.alloc _) ⟨W3.heap.size, 0, none⟩ 1 1 [.string ⟨a.toArray⟩] rfl rfl ?c1 ?c2 hx1 hx2 hx3 ?c6)
            case c1 =>
              intro j u hj
              match j, hj with
              | 0, hj => simp at hj; subst hj; simp [World.cell?_alloc_new, Addr.add]
              | j + 1, hj => simp at hj
            case c2 =>
              intro u hu
              simp at hu
              subst hu; rfl
            case c6 =>
              intro v' w1 hown' hgrow _
              have hbw4 : Below w.heap.size w w1 := (hbw3.alloc (by omega) _).grown hgrow hx3 (fun k e => (hown3.lt k e).1)
              go_wp2_with fail
              refine ⟨⟨b, ss ++ [a], rfl, ?_, hbw4, by simp; omega, ?_, hbl'.out⟩, ?_⟩
              · rw [List.length_append, scells_snoc]; exact hown'
              · unfold Hid; rw [HL.out, HLL.out]; simp
              · show (⟨b.toArray⟩ : ByteArray).size < (⟨t.toArray⟩ : ByteArray).size
                rw [sizeL, sizeL]; exact hbt
end Go.Proofs.YtoknncoolmbklaaDoor
