/- Operations that only read. -/
import Derived.Test.YtangiefkpllnmaaGreatDoorEvHeap
import Derived.Laws.StructEq
import Derived.Laws.Slices
namespace Go.Ev
set_option linter.unusedVariables false
set_option linter.unusedSimpArgs false
variable {η : Nat → Value}
def GR (P : Program) (ρ : Env) : Prop := ∀ g, g ≤ P.globals.size → ∃ n, ρ g = some (g, 0, n)
theorem GR.mono {P : Program} {ρ ρ' : Env} (h : GR P ρ) (hl : Env.le ρ ρ') : GR P ρ' := fun g hg => let ⟨n, e⟩ := h g hg; ⟨n, hl _ _ e⟩

section inv
variable {ρ : Env} {x : Value}
theorem VR.bool_inv {b : Bool} (h : VR η ρ (.bool b) x) : x = .bool b := by cases h; rfl
theorem VR.int_inv {k : IntKind} {n : Int} (h : VR η ρ (.int k n) x) : x = .int k n := by cases h; rfl
theorem VR.string_inv {s : ByteArray} (h : VR η ρ (.string s) x) : x = .string s := by cases h; rfl
theorem VR.nilIface_inv (h : VR η ρ .nilIface x) : x = .nilIface := by cases h; rfl
theorem VR.nilFunc_inv (h : VR η ρ .nilFunc x) : x = .nilFunc := by cases h; rfl
theorem VR.ptr0_inv (h : VR η ρ (.pointer none) x) : x = .pointer none := by cases h; rfl
theorem VR.iface_inv {t : TypeId} {v : Value} (h : VR η ρ (.iface t v) x) : ∃ y, x = .iface t y ∧ VR η ρ v y := by cases h with | iface _ h => exact ⟨_, rfl, h⟩
theorem VR.agg_inv {a : Array Value} (h : VR η ρ (.agg a) x) : ∃ c, x = .agg c ∧ LR η ρ a.toList c.toList := by cases h with | agg h1 h2 => exact ⟨_, rfl, h1, h2⟩
theorem VR.tuple_inv {a : Array Value} (h : VR η ρ (.tuple a) x) : ∃ c, x = .tuple c ∧ LR η ρ a.toList c.toList := by cases h with | tuple h1 h2 => exact ⟨_, rfl, h1, h2⟩
theorem VR.map0_inv (h : VR η ρ (.map none) x) : x = .map none := by cases h; rfl
theorem VR.map_inv {r : Nat} (h : VR η ρ (.map (some r)) x) : ∃ b d n, x = .map (some b) ∧ ρ r = some (b, d, n) := by cases h with | map h => exact ⟨_, _, _, rfl, h⟩
theorem VR.func_inv {f : Fn} {a b : Array Value} (h : VR η ρ (.func f a b) x) : ∃ g c d, x = .func g c d ∧ FnR ρ f g ∧ LR η ρ a.toList c.toList ∧ LR η ρ b.toList d.toList := by
  cases h with | func hf h1 h2 h3 h4 => exact ⟨_, _, _, rfl, hf, ⟨h1, h3⟩, ⟨h2, h4⟩⟩
theorem VR.func_mk {f g : Fn} {a b c d : Array Value} (hf : FnR ρ f g) (h1 : LR η ρ a.toList c.toList) (h2 : LR η ρ b.toList d.toList) : VR η ρ (.func f a b) (.func g c d) := .func hf h1.len h2.len h1.at_ h2.at_
/-- A slice: known, or of unknown capacity. -/
theorem VR.slice_inv {a : Option Addr} {l c : Nat} (h : VR η ρ (.slice a l c) x) : ∃ a' c', x = .slice a' l c' ∧
    ((a = none ∧ a' = none ∧ isU c = false ∧ c' = c) ∨ (∃ p q, a = some p ∧ a' = some q ∧ AdR ρ p q ∧ isU c = false ∧ c' = c) ∨
     (∃ p q s b d n, a = some p ∧ a' = some q ∧ AdR ρ p q ∧ c = capU s ∧ ρ p.block = some (b, d, n) ∧ 0 < s ∧ p.off + c' * s = n ∧ l ≤ c' ∧ c' < capB)) := by
  cases h with
  | slice0 l c hc => exact ⟨_, _, rfl, .inl ⟨rfl, rfl, hc, rfl⟩⟩
  | slice l c h hc => exact ⟨_, _, rfl, .inr (.inl ⟨_, _, rfl, rfl, ⟨rfl, _, _, _, h, rfl⟩, hc, rfl⟩)⟩
  | sliceU l s c h hs hc hl hb => exact ⟨_, _, rfl, .inr (.inr ⟨_, _, _, _, _, _, rfl, rfl, ⟨rfl, _, _, _, h, rfl⟩, rfl, h, hs, hc, hl, hb⟩)⟩
theorem VR.slice_mk {a b : Addr} {l c : Nat} (h : AdR ρ a b) (hc : isU c = false) : VR η ρ (.slice (some a) l c) (.slice (some b) l c) := by
  obtain ⟨h1, n, blk, d, h2, rfl⟩ := h
  obtain ⟨r, o, s⟩ := a
  simp only at h1; subst h1
  exact .slice l c h2 hc
theorem isU_capU (s : Nat) : isU (capU s) = true := by simp [isU, capU]
end inv
theorem intOfA_ok {v : Value} {i : Int} : intOfA v = .ok i ↔ ∃ k, v = .int k i := by
  cases v <;> simp [intOfA, no]
theorem byteArray_ext {a b : ByteArray} (h : a.data.toList = b.data.toList) : a = b := by
  obtain ⟨⟨l⟩⟩ := a; obtain ⟨⟨m⟩⟩ := b; simp only at h; subst h; rfl

section
variable {P : Program} {ρ : Env} {B : Nat} {h : AH} {w : World}
theorem partA_ok {t : TypeId} {cs : List Value} {cs' : Array Value} {off : Nat} {v : Value} (hp : partA P t cs off = .ok v) (hc : LR η ρ cs cs'.toList) :
    ∃ x, (part t cs' off).run P w = .ok x w ∧ VR η ρ v x := by
  simp only [partA, bind_ok] at hp
  obtain ⟨b, hb, hp⟩ := hp
  cases b with
  | true =>
    simp only [if_true, bind_ok] at hp
    obtain ⟨n, hn, hp⟩ := hp
    rw [okk] at hp; subst hp
    refine ⟨.agg (cs'.extract off (off + n)), by simp [part, run_agg hb, run_size hn], ?_⟩
    have := VR.agg' ((hc.drop off).take n)
    have e : ((cs'.toList.drop off).take n).toArray = cs'.extract off (off + n) := by
      apply Array.ext'
      simp [List.extract]
    rw [e] at this; exact this
  | false =>
    simp only [if_false, Bool.false_eq_true, orNo_ok] at hp
    obtain ⟨x, hx, hv⟩ := hc.get hp
    refine ⟨x, ?_, hv⟩
    have : cs'[off]? = some x := by simpa using hx
    simp [part, run_agg hb, this]

theorem boundA_ok {x x' : Value} {y i : Nat} {code : BoundsCode} (hb : boundA x y = .ok i) (hx : VR η ρ x x') {Y : Nat} (hY : y ≤ Y) : (Instr.sliceBound x' Y code).run P w = .ok i w ∧ i ≤ y := by
  simp only [boundA, bind_ok, intOfA_ok] at hb
  obtain ⟨n, ⟨k, rfl⟩, hb⟩ := hb
  rw [ite_no', okk] at hb
  obtain ⟨hn, rfl⟩ := hb
  have := hx.int_inv; subst this
  refine ⟨?_, by omega⟩
  simp only [Instr.sliceBound, asIntOf, pure_bind]
  rw [if_pos (by omega)]; rfl
def OpR (η : Nat → Value) (ρ : Env) : Option Value → Option Value → Prop
  | none, none => True
  | some v, some x => VR η ρ v x
  | _, _ => False
theorem boundsA_ok {isS : Bool} {len cap l hh m : Nat} {lo hi mx lo' hi' mx' : Option Value} (hb : boundsA len cap lo hi mx = .ok (l, hh, m)) (h1 : OpR η ρ lo lo') (h2 : OpR η ρ hi hi') (h3 : OpR η ρ mx mx') :
    (∀ Cap, cap ≤ Cap → (Instr.sliceBounds isS len Cap lo' hi' mx').run P w = .ok (l, hh, if mx = none then Cap else m) w) ∧ (len ≤ cap → l ≤ hh ∧ hh ≤ m ∧ m ≤ cap) := by
  simp only [boundsA, bind_ok] at hb
  obtain ⟨m0, hm, h0, hh0, l0, hl0, hb⟩ := hb
  rw [okk] at hb
  injection hb with e1 e2; injection e2 with e2 e3; subst e1; subst e2; subst e3
  cases mx with
  | none =>
    cases mx' with
    | some v => exact absurd h3 (by simp [OpR])
    | none =>
      simp only [okk] at hm; subst hm
      cases hi with
      | none =>
        cases hi' with
        | some v => exact absurd h2 (by simp [OpR])
        | none =>
          simp only [okk] at hh0; subst hh0
          cases lo with
          | none =>
            cases lo' with
            | some v => exact absurd h1 (by simp [OpR])
            | none => simp only [okk] at hl0; subst hl0; exact ⟨fun Cap hC => by simp [Instr.sliceBounds], fun hlc => by omega⟩
          | some v =>
            cases lo' with
            | none => exact absurd h1 (by simp [OpR])
            | some v' =>
              have k := fun code => boundA_ok (P := P) (w := w) (code := code) hl0 h1 (Nat.le_refl _)
              exact ⟨fun Cap hC => by simp [Instr.sliceBounds, (k _).1], fun hlc => by have := (k .sliceB).2; omega⟩
      | some u =>
        cases hi' with
        | none => exact absurd h2 (by simp [OpR])
        | some u' =>
          have q := fun Cap hC code => boundA_ok (P := P) (w := w) (code := code) (Y := Cap) hh0 h2 hC
          cases lo with
          | none =>
            cases lo' with
            | some v => exact absurd h1 (by simp [OpR])
            | none => simp only [okk] at hl0; subst hl0; exact ⟨fun Cap hC => by simp [Instr.sliceBounds, (q Cap hC _).1], fun hlc => by have := (q _ (Nat.le_refl _) .sliceB).2; omega⟩
          | some v =>
            cases lo' with
            | none => exact absurd h1 (by simp [OpR])
            | some v' =>
              have k := fun code => boundA_ok (P := P) (w := w) (code := code) hl0 h1 (Nat.le_refl _)
              exact ⟨fun Cap hC => by simp [Instr.sliceBounds, (q Cap hC _).1, (k _).1], fun hlc => by have := (k .sliceB).2; have := (q _ (Nat.le_refl _) .sliceB).2; omega⟩
  | some y =>
    cases mx' with
    | none => exact absurd h3 (by simp [OpR])
    | some y' =>
      have p := fun Cap hC code => boundA_ok (P := P) (w := w) (code := code) (Y := Cap) hm h3 hC
      cases hi with
      | none => simp [no] at hh0
      | some u =>
        cases hi' with
        | none => exact absurd h2 (by simp [OpR])
        | some u' =>
          have q := fun code => boundA_ok (P := P) (w := w) (code := code) hh0 h2 (Nat.le_refl _)
          cases lo with
          | none =>
            cases lo' with
            | some v => exact absurd h1 (by simp [OpR])
            | none => simp only [okk] at hl0; subst hl0; exact ⟨fun Cap hC => by simp [Instr.sliceBounds, (p Cap hC _).1, (q _).1], fun hlc => by have := (q .sliceB).2; have := (p cap (Nat.le_refl _) .sliceB).2; omega⟩
          | some v =>
            cases lo' with
            | none => exact absurd h1 (by simp [OpR])
            | some v' =>
              have k := fun code => boundA_ok (P := P) (w := w) (code := code) hl0 h1 (Nat.le_refl _)
              exact ⟨fun Cap hC => by simp [Instr.sliceBounds, (p Cap hC _).1, (q _).1, (k _).1], fun hlc => by have := (k .sliceB).2; have := (q .sliceB).2; have := (p cap (Nat.le_refl _) .sliceB).2; omega⟩
theorem strL_eq (s : ByteArray) (l hh : Nat) : (ByteArray.mk ⟨(s.data.toList.drop l).take (hh - l)⟩) = s.extract l hh := by
  apply byteArray_ext
  rw [ByteArray.data_extract]
  simp [List.extract]
theorem mkS_ok {a : Option Addr} {l c : Nat} {r : Value} : mkS a l c = .ok r ↔ isU c = false ∧ .slice a l c = r := by
  unfold mkS
  rw [ite_no, okk]
  simp
theorem sliceA_ok {t : TypeId} {v x r : Value} {lo hi mx lo' hi' mx' : Option Value} (hs : sliceA P t v lo hi mx = .ok r) (hx : VR η ρ v x) (h1 : OpR η ρ lo lo') (h2 : OpR η ρ hi hi') (h3 : OpR η ρ mx mx') :
    ∃ y, (Instr.sliceAt t x lo' hi' mx').run P w = .ok y w ∧ VR η ρ r y := by
  simp only [sliceA, bind_ok, undA_ok] at hs
  obtain ⟨d, hd, hs⟩ := hs
  split at hs
  · -- a string
    rename_i s
    have := hx.string_inv; subst this
    rw [ite_no] at hs
    obtain ⟨hm, hs⟩ := hs
    cases mx with
    | some v => simp at hm
    | none =>
      cases mx' with
      | some v => exact absurd h3 (by simp [OpR])
      | none =>
        simp only [bind_ok] at hs
        obtain ⟨⟨l, hh, m⟩, hb, hs⟩ := hs
        simp only [okk] at hs; subst hs
        have := (boundsA_ok (P := P) (w := w) (isS := false) hb h1 h2 h3).1 _ (Nat.le_refl _)
        refine ⟨.string (s.extract l hh), ?_, ?_⟩
        · simp only [Instr.sliceAt, Sem.run_bind, run_und hd, Result.andThen_ok, Instr.slice]
          simp [this]
        · rw [strL, strL_eq]; exact .string _
  · -- a slice
    rename_i elem a len cap
    simp only [bind_ok] at hs
    obtain ⟨size, hsz, hs⟩ := hs
    obtain ⟨a', c', rfl, hc⟩ := hx.slice_inv
    by_cases hU : isU cap = true
    · rw [if_pos hU] at hs
      rcases hc with ⟨_, _, e, _⟩ | ⟨_, _, _, _, _, e, _⟩ | ⟨p, q, s, b, dd, n, rfl, rfl, hpq, rfl, hρ, hs0, hn, hl, hcb⟩
      · rw [hU] at e; cases e
      · rw [hU] at e; cases e
      simp only [bind_ok] at hs
      obtain ⟨⟨l, hh, m⟩, hb, hs⟩ := hs
      simp only [] at hs
      rw [ite_no] at hs
      obtain ⟨hcap, hs⟩ := hs
      have hss : s = size := by
        simp only [not_or, Decidable.not_not, capU] at hcap
        omega
      subst hss
      obtain ⟨k1, k2⟩ := boundsA_ok (P := P) (w := w) (isS := true) hb h1 h2 h3
      have k1 := k1 c' hl
      obtain ⟨k3, k4, k5⟩ := k2 (Nat.le_refl _)
      cases mx with
      | some y =>
        simp only [Option.isSome_some, if_true, mkS_ok] at hs; obtain ⟨hno, rfl⟩ := hs
        simp only [reduceCtorEq, if_false] at k1
        refine ⟨_, by simp only [Instr.sliceAt, Sem.run_bind, run_und hd, Result.andThen_ok, Instr.slice, k1, run_size hsz]; rfl, ?_⟩
        by_cases hml : m = l
        · rw [if_pos hml, if_pos hml]; exact .slice_mk hpq hno
        · rw [if_neg hml, if_neg hml]; exact .slice_mk (hpq.add _) hno
      | none =>
        simp only [Option.isSome_none, Bool.false_eq_true, if_false] at hs
        rw [ite_no', okk] at hs
        obtain ⟨hlt, rfl⟩ := hs
        simp only [if_true] at k1
        refine ⟨_, by simp only [Instr.sliceAt, Sem.run_bind, run_und hd, Result.andThen_ok, Instr.slice, k1, run_size hsz]; rfl, ?_⟩
        obtain ⟨hsp, n', blk, d', hρ', rfl⟩ := hpq
        rw [hρ] at hρ'; cases hρ'
        rw [show (if c' = l then some (⟨b, dd + p.off, none⟩ : Addr) else (some (⟨b, dd + p.off, none⟩ : Addr)).map fun x => x.add (l * s)) = some ⟨b, dd + p.off + l * s, none⟩ from by
          by_cases hml : c' = l
          · have : l = 0 := by omega
            rw [if_pos hml, this, Nat.zero_mul, Nat.add_zero]
          · rw [if_neg hml, Option.map_some, add_eq rfl]]
        have := VR.sliceU (η := η) (ρ := ρ) (r := p.block) (o := p.off + l * s) (b := b) (d := dd) (n := n) (hh - l) s (c' - l) hρ hs0 (by rw [Nat.sub_mul]; have : l * s ≤ c' * s := Nat.mul_le_mul_right _ (by omega); omega) (by omega) (by omega)
        rw [show dd + (p.off + l * s) = dd + p.off + l * s by omega] at this
        exact this
    · rw [if_neg hU] at hs
      have hU' : isU cap = false := by simpa using hU
      simp only [bind_ok] at hs
      obtain ⟨⟨l, hh, m⟩, hb, hs⟩ := hs
      simp only [mkS_ok] at hs; obtain ⟨hno, rfl⟩ := hs
      obtain ⟨k1, k2⟩ := boundsA_ok (P := P) (w := w) (isS := true) hb h1 h2 h3
      have hcap : c' = cap := by
        rcases hc with ⟨_, _, _, e⟩ | ⟨_, _, _, _, _, _, e⟩ | ⟨_, _, _, _, _, _, _, _, _, rfl, _⟩
        · exact e
        · exact e
        · rw [isU_capU] at hU'; cases hU'
      subst hcap
      have k1 := k1 c' (Nat.le_refl _)
      have hm : (if mx = none then c' else m) = m := by
        split
        · rename_i e; subst e; simp only [boundsA, bind_ok, okk] at hb; obtain ⟨m0, hm0, _, _, _, _, hb⟩ := hb; injection hb with _ hb; injection hb with _ hb; rw [← hb]; exact hm0
        · rfl
      rw [hm] at k1
      refine ⟨_, by simp only [Instr.sliceAt, Sem.run_bind, run_und hd, Result.andThen_ok, Instr.slice, k1, run_size hsz]; rfl, ?_⟩
      rcases hc with ⟨rfl, rfl, _, _⟩ | ⟨p, q, rfl, rfl, hpq, _, _⟩ | ⟨_, _, _, _, _, _, _, _, _, rfl, _⟩
      · simp only [Option.map_none, ite_self]; exact .slice0 _ _ hno
      · by_cases hml : m = l
        · rw [if_pos hml, if_pos hml]; exact .slice_mk hpq hno
        · rw [if_neg hml, if_neg hml]; exact .slice_mk (hpq.add _) hno
      · rw [isU_capU] at hU'; cases hU'
  · -- a pointer to an array
    rename_i arr a
    simp only [bind_ok, undA_ok] at hs
    obtain ⟨d2, hd2, hs⟩ := hs
    split at hs
    · rename_i n elem
      simp only [bind_ok] at hs
      obtain ⟨⟨l, hh, m⟩, hb, size, hsz, hs⟩ := hs
      simp only [mkS_ok] at hs; obtain ⟨hno, rfl⟩ := hs
      obtain ⟨q, rfl, hpq⟩ := hx.ptr_inv
      obtain ⟨k1, k2⟩ := boundsA_ok (P := P) (w := w) (isS := false) hb h1 h2 h3
      have k1 := k1 n (Nat.le_refl _)
      have hm : (if mx = none then n else m) = m := by
        split
        · rename_i e; subst e; simp only [boundsA, bind_ok, okk] at hb; obtain ⟨m0, hm0, _, _, _, _, hb⟩ := hb; injection hb with _ hb; injection hb with _ hb; rw [← hb]; exact hm0
        · rfl
      rw [hm] at k1
      refine ⟨_, by simp only [Instr.sliceAt, Sem.run_bind, run_und hd, run_und hd2, Result.andThen_ok, Instr.slice, asAddr, Sem.run_pure, k1, run_size hsz]; rfl, ?_⟩
      by_cases hml : m = l
      · rw [if_pos hml, if_pos hml]; exact .slice_mk hpq hno
      · rw [if_neg hml, if_neg hml]; exact .slice_mk (hpq.add _) hno
    · simp [no] at hs
  · -- an array
    rename_i n elem a
    simp only [bind_ok] at hs
    obtain ⟨⟨l, hh, m⟩, hb, size, hsz, hs⟩ := hs
    simp only [mkS_ok] at hs; obtain ⟨hno, rfl⟩ := hs
    obtain ⟨q, rfl, hpq⟩ := hx.ptr_inv
    obtain ⟨k1, k2⟩ := boundsA_ok (P := P) (w := w) (isS := false) hb h1 h2 h3
    have k1 := k1 n (Nat.le_refl _)
    have hm : (if mx = none then n else m) = m := by
      split
      · rename_i e; subst e; simp only [boundsA, bind_ok, okk] at hb; obtain ⟨m0, hm0, _, _, _, _, hb⟩ := hb; injection hb with _ hb; injection hb with _ hb; rw [← hb]; exact hm0
      · rfl
    rw [hm] at k1
    refine ⟨_, by simp only [Instr.sliceAt, Sem.run_bind, run_und hd, Result.andThen_ok, Instr.sureAddr, Sem.run_pure, k1, run_size hsz]; rfl, ?_⟩
    by_cases hml : m = l
    · rw [if_pos hml, if_pos hml]; exact .slice_mk hpq hno
    · rw [if_neg hml, if_neg hml]; exact .slice_mk (hpq.add _) hno
  · simp [no] at hs
end
end Go.Ev
