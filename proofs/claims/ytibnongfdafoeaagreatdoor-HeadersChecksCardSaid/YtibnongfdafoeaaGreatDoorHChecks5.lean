/- HChecks, part 5: what the proof needs, in the order of its texts. -/
import Derived.Test.YtibnongfdafoeaaGreatDoorHChecks4
import Derived.IntWalk
import Derived.Lib.SmallJoins
import Derived.Lib.SlTrimSet
namespace Go.Ev
set_option linter.unusedVariables false
set_option linter.unusedSimpArgs false
variable {η : Nat → Value} {P : Program} {B : Nat}
section
variable (P : Program)
/-- The first cells of a row: those that are asked for. -/
def cut0 (c : List Value) : Nat → Nat → List Value
  | 0, _ => c
  | off, n => (c.drop off).take n
def cutOk (c : List Value) : Nat → Nat → Prop
  | 0, n => c.length = n
  | off, n => off + n ≤ c.length
def wFirst (h : AH) (size n : Nat) : Value → M (Prop × List Value)
  | .slice (some a) _ _ => do
    let (_, c, _, _) ← cellsAt h a.block
    if a.spot = none then .ok (a.off + n * size ≤ c.length, (c.drop a.off).take (n * size)) else no "spot"
  | .slice none _ _ => .ok (n * size = 0, [])
  | .string s => if size = 1 then .ok (True, bytesV (s.data.toList.take n)) else no "bytes"
  | _ => no "slice or string"
def wAppend (ρ : Operand → Value) (argTypes : List TypeId) (args : List Value) (h : AH) : M (Prop × KT) := do
  match argTypes, args with
  | [sT, xT], [.slice base len cap, x] => do
    match ← undA P sT with
    | .slice elem => do
      let ei ← infoA P elem
      let z ← zeroA P elem
      let isInt ← isIntT P xT
      if isInt then no "append of make" else
      if ei.size = 0 ∨ ei.bytes > 65536 ∨ (cellsL z).length ≠ ei.size then no "append: size" else
      let n ← lenA x
      let (pn, new) ← wFirst h ei.size n x
      match base with
      | some a => do
        let (ty, c, _, own) ← cellsAt h a.block
        if isU cap = false ∨ own ≠ 2 ∨ cap ≠ capU ei.size ∨ ty ≠ elem ∨ a.spot ≠ none then no "append: mark" else
        let r := freshA { h with objs := h.objs.del a.block } elem ei.size (len + n) (cut0 c a.off (len * ei.size) ++ new)
        .ok (pn ∧ cutOk c a.off (len * ei.size) ∧ len + n ≤ 1000000 ∧ new.length = n * ei.size ∧ new.all oneC = true, .ret r.1 r.2)
      | none => do
        if isU cap = true ∨ len ≠ 0 ∨ cap ≠ 0 then no "append: nil" else
        let r := freshA h elem ei.size (0 + n) ([] ++ new)
        .ok (pn ∧ n ≤ 1000000 ∧ new.length = n * ei.size ∧ new.all oneC = true, .ite (n == 0) (.ret (.slice none 0 0) h) (.ret r.1 r.2))
    | _ => no "append"
  | _, _ => no "append args"
def byteOf : Value → UInt8
  | .int _ n => UInt8.ofNat n.toNat
  | _ => 0
def bytesIn (c : List Value) (off n : Nat) : List UInt8 := ((c.drop off).take n).map byteOf
def wConv (ρ : Operand → Value) (src dst : TypeId) (x : Operand) (h : AH) : M (Prop × KT) := do
  match ← undA P src, ← undA P dst, ρ x with
  | .slice e, .string, .slice (some a) len _ => do
    match ← undA P e with
    | .int .u8 => do
      let (_, c, _, _) ← cellsAt h a.block
      if a.spot ≠ none then no "spot" else
      .ok (a.off + len ≤ c.length ∧ bytesOf ((c.drop a.off).take len) = .ok (bytesIn c a.off len), .ret (strL (bytesIn c a.off len)) h)
    | _ => no "conv"
  | .string, .slice e, .string s => do
    match ← undA P e with
    | .int .u8 =>
      .ok (s.size ≤ 1000000, .ret (.slice (some ⟨h.next, 0, none⟩) s.size (capU 1)) (newA h (.cells e (bytesV s.data.toList) false 2)).2)
    | _ => no "conv"
  | _, _, _ => no "conv"
def wMakeSlice (ρ : Operand → Value) (t : TypeId) (l c : Operand) (h : AH) : M (Prop × KT) := do
  match ← undA P t with
  | .slice elem => do
    let l ← intOfA (ρ l)
    let c ← intOfA (ρ c)
    let ei ← infoA P elem
    if ei.bytes > 65536 then no "makeSlice" else
    let z := cellsL (← zeroA P elem)
    if z.length ≠ ei.size then no "makeSlice: zero" else
    .ok (0 ≤ l ∧ l ≤ c ∧ c ≤ 1000000, .ret (.slice (some ⟨h.next, 0, none⟩) l.toNat c.toNat) (newA h (.cells elem (rep z c.toNat) true 2)).2)
  | _ => no "makeSlice"
/-- What a map holds at a key, or zero. -/
def mVal (z : Value) : Option (Nat × Value) → Value
  | some (_, v) => v
  | none => z
def mFind (d : TypeDesc) (k : Value) (es : List MapEntry) : Option (Nat × Value) := (Instr.findNow d k es 0).getD none
def typedOf (c : List Value) (t : TypeId) : M Value := do
  if ← isAggA P t then .ok (aggL (← cellsTyped P c (← cellTypes P 20 t) 0)) else cellTyped P c t 0
def wLookup (ρ : Operand → Value) (t : TypeId) (x k : Operand) (commaOk : Bool) (h : AH) : M (Prop × KT) := do
  match ← undA P t with
  | .map key elem => do
    match ρ x with
    | .map (some r) => do
      let (es, _, _) ← mapOf h r
      let d ← keyKind P key
      let z ← zeroA P elem
      let f := mFind d (ρ k) es
      let v ← typedOf P (cellsL (mVal z f)) elem
      .ok (Instr.findNow d (ρ k) es 0 = some f ∧ mVal z f = v, .ret (if commaOk then tupL [v, .bool f.isSome] else v) h)
    | _ => no "map"
  | _ => no "map type"
def mPut (k x : Value) (c : Nat) (es : List MapEntry) : Option (Nat × Value) → List MapEntry
  | some (i, _) => modEntry (fun e => { e with key := k, val := x }) es i
  | none => es ++ [{ key := k, val := x, born := c }]
def mClock (c : Nat) : Option (Nat × Value) → Nat
  | some _ => c
  | none => c + 1
def wMapSet (ρ : Operand → Value) (t : TypeId) (m k x : Operand) (h : AH) : M (Prop × KT) := do
  match ← undA P t, ρ m with
  | .map key _, .map (some r) => do
    let (es, c, own) ← mapOf h r
    if !own then no "map not own" else
    let d ← keyKind P key
    let f := mFind d (ρ k) es
    .ok (Instr.findNow d (ρ k) es 0 = some f, .ret undef (putA h r (.map (mPut (ρ k) (ρ x) c es f) (mClock c f) own)))
  | _, _ => no "map type"
def wCopy (ρ : Operand → Value) (argTypes : List TypeId) (args : List Value) (h : AH) : M (Prop × KT) := do
  match argTypes, args with
  | t :: _, [.slice (some a) dLen _, src] => do
    match ← undA P t with
    | .slice elem => do
      let sl ← lenA src
      let size ← sizeA P elem
      let n := Nat.min sl dLen
      let (pn, cs) ← wFirst h size n src
      let (ty, c, p, own) ← cellsAt h a.block
      if own ≠ 2 ∨ a.spot ≠ none ∨ size = 0 then no "copy" else
      .ok (pn ∧ cs.length = n * size ∧ a.off + cs.length ≤ c.length ∧ cs.all oneC = true, .ite (n == 0) (.ret (goInt 0) h) (.ret (goInt n) (putA h a.block (.cells ty (splice c a.off cs) p 2))))
    | _ => no "copy"
  | _, _ => no "copy args"
def wUnsafeString (ρ : Operand → Value) (argTypes : List TypeId) (args : List Value) (h : AH) : M (Prop × KT) := do
  match argTypes, args with
  | t :: _, [.pointer (some a), .int kd n] => do
    let (ty, c, p, own) ← cellsAt h a.block
    match ← undA P t, P.underlying ty with
    | .pointer e, some (.int .u8) =>
      if e ≠ ty ∨ P.cellsOf ty ≠ 1 ∨ own = 0 ∨ a.spot ≠ none then no "unsafe.String: type" else
      .ok (0 ≤ n ∧ n ≤ 1000000 ∧ a.off + n.toNat ≤ c.length ∧ bytesOf ((c.drop a.off).take n.toNat) = .ok (bytesIn c a.off n.toNat), .ite (n == 0) (.ret (.string ⟨#[]⟩) h) (.ret (strL (bytesIn c a.off n.toNat)) (putA h a.block (.cells ty c false 1))))
    | _, _ => no "unsafe.String: type"
  | _, _ => no "unsafe.String"
/-- unsafe.SliceData of a slice of an unknown capacity. -/
def wSliceData (ts : List TypeId) (args : List Value) (h : AH) : M (Prop × Value × AH) := match args with
  | [.slice (some a) l c] => if isU c = true ∧ ts.isEmpty = false then .ok (0 < l, .pointer (some a), h) else no "SliceData"
  | _ => no "SliceData"
def lift1 (x : M (Prop × Value × AH)) : M (Prop × KT) := do
  let (p, v, h) ← x
  .ok (p, .ret v h)
/-- An operation, and what it asks. -/
def opW (ρ : Operand → Value) (o : Oper) (h : AH) : M (Prop × KT) :=
  if !okOps P o then no "a constant" else
  match o.op with
  | .load t x => lift1 (wLoad P ρ t x h)
  | .store t x y => lift1 (wStore P ρ t x y h)
  | .indexAddr t x y => lift1 (wIndexAddr P ρ t x y h)
  | .index t x y => lift1 (wIndex P ρ t x y h)
  | .binOp op _ x y _ => lift1 (wBin ρ op x y h)
  | .slice t x lo hi mx => lift1 (wSlice P ρ t x lo hi mx h)
  | .call { callee := .builtin .append, args, argTypes } => wAppend P ρ argTypes.toList (args.toList.map ρ) h
  | .call { callee := .builtin .copy, args, argTypes } => wCopy P ρ argTypes.toList (args.toList.map ρ) h
  | .call { callee := .builtin .unsafeString, args, argTypes } => wUnsafeString P ρ argTypes.toList (args.toList.map ρ) h
  | .call { callee := .builtin .unsafeSliceData, args, argTypes } => lift1 (wSliceData argTypes.toList (args.toList.map ρ) h)
  | .convert s d x => wConv P ρ s d x h
  | .makeSlice t l c => wMakeSlice P ρ t l c h
  | .lookup t x k ok => wLookup P ρ t x k ok h
  | .mapUpdate t m k x => wMapSet P ρ t m k x h
  | .insert t m k x => wMapSet P ρ t m k x h
  | _ => no "operation"
end
/-- What an operation leads to, if it goes on. -/
def Goes (P : Program) (ρ : Operand → Value) (o : Oper) (h : AH) (v : Value) (h' : AH) : Prop := execA P ρ o h = .ok (.value v, h') ∨ (execA P ρ o h = .ok (.skip, h') ∧ v = undef)
theorem read_goes {ρ : Operand → Value} {o : Oper} {h : AH} {v : Value} (hok : okOps P o = true) (hk : kindOf P o.op = .read) (hr : readA P ρ o h = .ok v) : Goes P ρ o h v h := .inl (exec_read hok hk hr)
theorem wFirst_ok {h : AH} {size n : Nat} {x : Value} {p : Prop} {l : List Value} (hw : wFirst h size n x = .ok (p, l)) (hp : p) : firstA h size n x = .ok l := by
  unfold wFirst at hw
  split at hw
  · rename_i a _ _
    simp only [bind_ok] at hw
    obtain ⟨⟨ty, c, pl, own⟩, hc, hw⟩ := hw
    simp only at hw
    split at hw
    · rename_i hs
      rw [okk] at hw; injection hw with e1 e2; subst e1; subst e2
      unfold firstA getC
      simp only [hc]
      rw [if_pos ⟨hp, hs⟩]
    · simp [no] at hw
  · rw [okk] at hw; injection hw with e1 e2; subst e1; subst e2
    unfold firstA
    simp only
    rw [if_pos hp]
  · split at hw
    · rename_i hs
      rw [okk] at hw; injection hw with e1 e2; subst e1; subst e2
      unfold firstA
      simp only
      rw [if_pos hs]
    · simp [no] at hw
  · simp [no] at hw
theorem wAppend_ok {ρ : Operand → Value} {ts : List TypeId} {args : List Value} {h : AH} {p : Prop} {k : KT} (hw : wAppend P ρ ts args h = .ok (p, k)) (hp : p) : ∃ v h', k.sat v h' ∧ appendA P h ts args = .ok (v, h') := by
  unfold wAppend at hw
  split at hw
  · rename_i sT xT base len cap x
    simp only [bind_ok] at hw
    obtain ⟨d, hd, hw⟩ := hw
    split at hw
    · rename_i elem
      simp only [bind_ok] at hw
      obtain ⟨ei, hei, z, hz, isInt, hi, hw⟩ := hw
      rw [ite_no] at hw
      obtain ⟨hi2, hw⟩ := hw
      rw [ite_no] at hw
      obtain ⟨hs, hw⟩ := hw
      simp only [bind_ok] at hw
      obtain ⟨n, hn, ⟨pn, new⟩, hnew, hw⟩ := hw
      simp only at hw
      cases base with
      | some a =>
        simp only [bind_ok] at hw
        obtain ⟨⟨ty, c, pl, own⟩, hc, hw⟩ := hw
        simp only at hw
        rw [ite_no] at hw
        obtain ⟨hm, hw⟩ := hw
        rw [okk] at hw
        injection hw with e1 e2; subst e1; subst e2
        obtain ⟨p1, p2, p3, p4, p5⟩ := hp
        refine ⟨_, _, ⟨rfl, rfl⟩, ?_⟩
        have m1 : isU cap = true := by cases hq : isU cap with | true => rfl | false => exact absurd (.inl hq) hm
        have m2 : own = 2 := Decidable.byContradiction fun hh => hm (.inr (.inl hh))
        have m3 : cap = capU ei.size := Decidable.byContradiction fun hh => hm (.inr (.inr (.inl hh)))
        have m4 : ty = elem := Decidable.byContradiction fun hh => hm (.inr (.inr (.inr (.inl hh))))
        have m5 : a.spot = none := Decidable.byContradiction fun hh => hm (.inr (.inr (.inr (.inr hh))))
        have hf := wFirst_ok hnew p1
        have hold : firstA h ei.size len (.slice (some a) len cap) = .ok (cut0 c a.off (len * ei.size)) ∧ (cut0 c a.off (len * ei.size)).length = len * ei.size := by
          unfold firstA getC
          simp only [hc]
          cases ha : a.off with
          | zero =>
            rw [ha] at p2
            have p2 : c.length = len * ei.size := p2
            rw [if_pos ⟨by omega, m5⟩]
            refine ⟨?_, p2⟩
            show _ = Except.ok c
            rw [List.drop_zero, List.take_of_length_le (by omega)]
          | succ o =>
            rw [ha] at p2
            have p2 : o + 1 + len * ei.size ≤ c.length := p2
            rw [if_pos ⟨p2, m5⟩]
            refine ⟨rfl, ?_⟩
            show ((c.drop (o + 1)).take (len * ei.size)).length = _
            rw [List.length_take, List.length_drop]; omega
        unfold appendA
        simp only [hd, hei, hz, hi, hn, hf, hold.1, bind, Except.bind]
        rw [if_neg hi2, if_neg hs, if_neg (by rintro (hh | hh | hh | hh); omega; exact hh p4; exact hh hold.2; rw [p5] at hh; cases hh), if_pos m1]
        simp only [hc]
        rw [if_neg (by rintro (hh | hh | hh); exact hh m2; exact hh m3; exact hh m4)]
      | none =>
        simp only at hw
        rw [ite_no] at hw
        obtain ⟨hm, hw⟩ := hw
        rw [okk] at hw
        injection hw with e1 e2; subst e1; subst e2
        obtain ⟨p1, p3, p4, p5⟩ := hp
        have m1 : isU cap = false := by cases hq : isU cap with | false => rfl | true => exact absurd (.inl hq) hm
        have m2 : len = 0 := Decidable.byContradiction fun hh => hm (.inr (.inl hh))
        have m3 : cap = 0 := Decidable.byContradiction fun hh => hm (.inr (.inr hh))
        subst m2; subst m3
        have hf := wFirst_ok hnew p1
        have hold : firstA h ei.size 0 (.slice none 0 0) = .ok [] := by
          unfold firstA; simp
        have hz0 : ei.size ≠ 0 := fun hh => hs (.inl hh)
        cases hn0 : (n == 0) with
        | true =>
          have hn0' : n = 0 := by simpa using hn0
          refine ⟨_, _, .inl ⟨rfl, rfl, rfl⟩, ?_⟩
          unfold appendA
          simp only [hd, hei, hz, hi, hn, hf, hold, bind, Except.bind]
          rw [if_neg hi2, if_neg hs, if_neg (by rintro (hh | hh | hh | hh); omega; exact hh p4; simp at hh; rw [p5] at hh; cases hh), if_neg (by rw [m1]; simp), if_pos (by omega)]
          have : new = [] := by
            have : new.length = 0 := by rw [p4, hn0']; simp
            exact List.length_eq_zero_iff.1 this
          subst this
          simp [hn0']
        | false =>
          have hn0' : n ≠ 0 := by simpa using hn0
          refine ⟨_, _, .inr ⟨rfl, rfl, rfl⟩, ?_⟩
          unfold appendA
          simp only [hd, hei, hz, hi, hn, hf, hold, bind, Except.bind]
          rw [if_neg hi2, if_neg hs, if_neg (by rintro (hh | hh | hh | hh); omega; exact hh p4; simp at hh; rw [p5] at hh; cases hh), if_neg (by rw [m1]; simp), if_neg (by omega), if_pos (by omega)]
    · simp [no] at hw
  · simp [no] at hw
theorem wConv_ok {ρ : Operand → Value} {o : Oper} {s d : TypeId} {x : Operand} {h : AH} {p : Prop} {k : KT} (hok : okOps P o = true) (ho : o.op = .convert s d x) (hw : wConv P ρ s d x h = .ok (p, k)) (hp : p) : ∃ v h', k.sat v h' ∧ Goes P ρ o h v h' := by
  unfold wConv at hw
  simp only [bind_ok] at hw
  obtain ⟨t1, h1, t2, h2, hw⟩ := hw
  split at hw
  · rename_i e a len cap hx
    simp only [bind_ok] at hw
    obtain ⟨t3, h3, hw⟩ := hw
    split at hw
    · simp only [bind_ok] at hw
      obtain ⟨⟨ty, c, pl, own⟩, hc, hw⟩ := hw
      simp only at hw
      rw [ite_no] at hw
      obtain ⟨hs, hw⟩ := hw
      rw [okk] at hw
      injection hw with e1 e2; subst e1; subst e2
      have hs' : a.spot = none := Decidable.byContradiction hs
      refine ⟨_, _, ⟨rfl, rfl⟩, read_goes hok ?_ ?_⟩
      · rw [ho]; unfold kindOf
        have : isSliceT P d = false := by
          unfold isSliceT
          unfold undA orNo at h2
          split at h2
          · rename_i hu; rw [okk] at h2; rw [hu, h2]
          · simp [no] at h2
        simp only [this, Bool.false_eq_true, if_false]
      · unfold readA
        simp only [ho, convA, h1, h2, hx, h3, bind, Except.bind, getC, hc]
        rw [if_pos ⟨hp.1, hs'⟩]
        simp only [hp.2]
    · simp [no] at hw
  · rename_i e s1 hx
    simp only [bind_ok] at hw
    obtain ⟨t3, h3, hw⟩ := hw
    split at hw
    · rw [okk] at hw
      injection hw with e1 e2; subst e1; subst e2
      refine ⟨_, _, ⟨rfl, rfl⟩, .inl ?_⟩
      have hk : kindOf P o.op = .alloc := by
        rw [ho]; unfold kindOf
        have : isSliceT P d = true := by
          unfold isSliceT
          unfold undA orNo at h2
          split at h2
          · rename_i hu; rw [okk] at h2; rw [hu, h2]
          · simp [no] at h2
        have hs' : isSliceT P s = false := by
          unfold isSliceT
          unfold undA orNo at h1
          split at h1
          · rename_i hu; rw [okk] at h1; rw [hu, h1]
          · simp [no] at h1
        simp only [this, hs', if_true, Bool.false_eq_true, if_false]
      unfold execA
      rw [hok, hk]
      simp only [Bool.not_true, Bool.false_eq_true, if_false, allocA, ho, h1, h2, hx, h3, bind, Except.bind]
      rw [if_neg (by omega)]
    · simp [no] at hw
  · simp [no] at hw
theorem wMakeSlice_ok {ρ : Operand → Value} {o : Oper} {t : TypeId} {x y : Operand} {h : AH} {p : Prop} {k : KT} (hok : okOps P o = true) (ho : o.op = .makeSlice t x y) (hw : wMakeSlice P ρ t x y h = .ok (p, k)) (hp : p) : ∃ v h', k.sat v h' ∧ Goes P ρ o h v h' := by
  unfold wMakeSlice at hw
  simp only [bind_ok] at hw
  obtain ⟨d, hd, hw⟩ := hw
  split at hw
  · simp only [bind_ok] at hw
    obtain ⟨l, hl, c, hc, ei, hei, hw⟩ := hw
    rw [ite_no] at hw
    obtain ⟨hb, hw⟩ := hw
    simp only [bind_ok] at hw
    obtain ⟨z, hz, hw⟩ := hw
    rw [ite_no] at hw
    obtain ⟨hzl, hw⟩ := hw
    rw [okk] at hw
    injection hw with e1 e2; subst e1; subst e2
    obtain ⟨p1, p2, p3⟩ := hp
    refine ⟨_, _, ⟨rfl, rfl⟩, .inl ?_⟩
    have hzl' : (cellsL z).length = ei.size := Decidable.byContradiction hzl
    unfold execA
    rw [hok, ho]
    simp only [Bool.not_true, Bool.false_eq_true, if_false, kindOf, allocA, ho, hd, hl, hc, hei, bind, Except.bind]
    rw [if_neg (by omega)]
    by_cases h0 : c.toNat * ei.size = 0
    · simp only [h0, if_true]
      have hr : ∀ (m : Nat) (zz : List Value), zz.length = 0 ∨ m = 0 → rep zz m = [] := by
        intro m zz hm
        induction m with
        | zero => rfl
        | succ m ih =>
          rcases hm with hm | hm
          · rw [rep, ih (.inl hm), List.length_eq_zero_iff.1 hm]; rfl
          · omega
      have hq : c.toNat = 0 ∨ ei.size = 0 := Nat.mul_eq_zero.1 h0
      simp only [ne_eq, not_true_eq_false, false_and, if_false]
      rw [hr _ [] (.inl rfl), hr _ (cellsL z) (by rcases hq with hq | hq; exact .inr hq; exact .inl (hzl'.trans hq))]
    · simp only [h0, if_false, hz]
      rw [if_neg (by rintro ⟨_, hh⟩; exact hh hzl')]
  · simp [no] at hw
theorem wLookup_ok {ρ : Operand → Value} {o : Oper} {t : TypeId} {x y : Operand} {c : Bool} {h : AH} {p : Prop} {k : KT} (hok : okOps P o = true) (ho : o.op = .lookup t x y c) (hw : wLookup P ρ t x y c h = .ok (p, k)) (hp : p) : ∃ v h', k.sat v h' ∧ Goes P ρ o h v h' := by
  unfold wLookup at hw
  simp only [bind_ok] at hw
  obtain ⟨d, hd, hw⟩ := hw
  split at hw
  · rename_i key elem
    split at hw
    · rename_i r hx
      simp only [bind_ok] at hw
      obtain ⟨⟨es, cl, own⟩, hm, dk, hdk, z, hz, v, hv, hw⟩ := hw
      rw [okk] at hw
      injection hw with e1 e2; subst e1; subst e2
      refine ⟨_, _, ⟨rfl, rfl⟩, read_goes hok (by rw [ho]; rfl) ?_⟩
      obtain ⟨p1, p2⟩ := hp
      unfold readA
      simp only [ho, lookA, hd, hx, hm, bind, Except.bind, findM, hdk, p1, orNo]
      cases hf : mFind dk (ρ y) es with
      | none =>
        rw [hf] at p2
        simp only [hz]
        unfold mVal at p2
        simp only at p2
        rw [p2]
        cases c <;> rfl
      | some q =>
        obtain ⟨i, u⟩ := q
        rw [hf] at p2
        unfold mVal at p2
        simp only at p2
        subst p2
        cases c <;> rfl
    · simp [no] at hw
  · simp [no] at hw
theorem mapSet_ok' {ρ : Operand → Value} {t : TypeId} {m k x : Operand} {h : AH} {p : Prop} {kt : KT} (hw : wMapSet P ρ t m k x h = .ok (p, kt)) (hp : p) : ∃ h', kt.sat undef h' ∧ mapSet P h t (ρ m) (ρ k) (ρ x) = .ok h' := by
  unfold wMapSet at hw
  simp only [bind_ok] at hw
  obtain ⟨d, hd, hw⟩ := hw
  split at hw
  · rename_i key elem r hx
    simp only [bind_ok] at hw
    obtain ⟨⟨es, cl, own⟩, hm, hw⟩ := hw
    simp only at hw
    rw [ite_no] at hw
    obtain ⟨ho, hw⟩ := hw
    simp only [bind_ok] at hw
    obtain ⟨dk, hdk, hw⟩ := hw
    rw [okk] at hw
    injection hw with e1 e2; subst e1; subst e2
    refine ⟨_, ⟨rfl, rfl⟩, ?_⟩
    unfold mapSet
    simp only [hd, hx, hm, bind, Except.bind, findM, hdk, hp, orNo]
    rw [if_neg ho]
    cases hf : mFind dk (ρ k) es with
    | none => rfl
    | some q => obtain ⟨i, u⟩ := q; rfl
  · simp [no] at hw
theorem wCopy_ok {ρ : Operand → Value} {ts : List TypeId} {args : List Value} {h : AH} {p : Prop} {k : KT} (hw : wCopy P ρ ts args h = .ok (p, k)) (hp : p) : ∃ v h', k.sat v h' ∧ builtinA P h .copy ts args = .ok (.value v, h') := by
  unfold wCopy at hw
  split at hw
  · rename_i t r a dLen dc src
    simp only [bind_ok] at hw
    obtain ⟨d, hd, hw⟩ := hw
    split at hw
    · rename_i elem
      simp only [bind_ok] at hw
      obtain ⟨sl, hsl, size, hsz, ⟨pn, cs⟩, hcs, ⟨ty, c, pl, own⟩, hc, hw⟩ := hw
      simp only at hw
      rw [ite_no] at hw
      obtain ⟨hm, hw⟩ := hw
      rw [okk] at hw
      injection hw with e1 e2; subst e1; subst e2
      obtain ⟨p1, p2, p3, p4⟩ := hp
      have m1 : own = 2 := Decidable.byContradiction fun hh => hm (.inl hh)
      have m2 : a.spot = none := Decidable.byContradiction fun hh => hm (.inr (.inl hh))
      have m3 : ¬ size = 0 := fun hh => hm (.inr (.inr hh))
      have hf := wFirst_ok hcs p1
      have hbase : builtinA P h .copy (t :: r) [.slice (some a) dLen dc, src] = (do let h ← storeC h a cs; .ok (.value (goInt (Nat.min sl dLen : Nat)), h)) := by
        unfold builtinA
        simp only [List.isEmpty_cons, Bool.false_eq_true, if_false, List.headD_cons, hd, hsl, hsz, hf, bind, Except.bind]
      rw [hbase]
      cases hn : (Nat.min sl dLen == 0) with
      | true =>
        have hn0 : Nat.min sl dLen = 0 := by simpa using hn
        have hcs0 : cs = [] := List.length_eq_zero_iff.1 (by rw [p2, hn0]; simp)
        refine ⟨_, _, .inl ⟨rfl, rfl, rfl⟩, ?_⟩
        subst hcs0
        rw [hn0]
        rfl
      | false =>
        have hn0 : Nat.min sl dLen ≠ 0 := by simpa using hn
        have hcs0 : cs ≠ [] := by
          intro e
          rw [e] at p2
          have := p2.symm
          rw [List.length_nil, Nat.mul_eq_zero] at this
          rcases this with h1 | h1
          · exact hn0 h1
          · exact m3 h1
        refine ⟨_, _, .inr ⟨rfl, rfl, rfl⟩, ?_⟩
        have hst : storeC h a cs = .ok (putA h a.block (.cells ty (splice c a.off cs) pl 2)) := by
          unfold storeC
          split
          · exact absurd rfl hcs0
          · rw [hc]
            simp only
            rw [if_pos ⟨m1, p3, m2, p4⟩]
        rw [hst]
        rfl
    · simp [no] at hw
  · simp [no] at hw
theorem wUnsafeString_ok {ρ : Operand → Value} {ts : List TypeId} {args : List Value} {h : AH} {p : Prop} {k : KT} (hw : wUnsafeString P ρ ts args h = .ok (p, k)) (hp : p) : ∃ v h', k.sat v h' ∧ builtinA P h .unsafeString ts args = .ok (.value v, h') := by
  unfold wUnsafeString at hw
  split at hw
  · rename_i t r a kd n
    simp only [bind_ok] at hw
    obtain ⟨⟨ty, c, pl, own⟩, hc, d, hd, hw⟩ := hw
    simp only at hw
    split at hw
    · rename_i e hu
      rw [ite_no] at hw
      obtain ⟨hm, hw⟩ := hw
      rw [okk] at hw
      injection hw with e1 e2; subst e1; subst e2
      obtain ⟨p1, p2, p3, p4⟩ := hp
      have m1 : e = ty := Decidable.byContradiction fun hh => hm (.inl hh)
      have m2 : P.cellsOf ty = 1 := Decidable.byContradiction fun hh => hm (.inr (.inl hh))
      have m3 : ¬ own = 0 := fun hh => hm (.inr (.inr (.inl hh)))
      have m4 : a.spot = none := Decidable.byContradiction fun hh => hm (.inr (.inr (.inr hh)))
      cases hn : (n == 0) with
      | true =>
        have hn0 : n = 0 := by simpa using hn
        refine ⟨_, _, .inl ⟨rfl, rfl, rfl⟩, ?_⟩
        unfold builtinA
        simp only [List.isEmpty_cons, Bool.false_eq_true, if_false, intOfA, bind, Except.bind]
        rw [if_neg (by omega), if_pos hn0]
      | false =>
        have hn0 : n ≠ 0 := by simpa using hn
        refine ⟨_, _, .inr ⟨rfl, rfl, rfl⟩, ?_⟩
        have hg : getC h a n.toNat = .ok ((c.drop a.off).take n.toNat) := by
          unfold getC; rw [hc]; simp only; rw [if_pos ⟨p3, m4⟩]
        unfold builtinA
        simp only [List.isEmpty_cons, Bool.false_eq_true, if_false, intOfA, bind, Except.bind]
        rw [if_neg (by omega), if_neg hn0]
        simp only [hc]
        rw [if_neg m3]
        simp only [List.headD_cons, hd, hu]
        rw [if_neg (by rintro (hh | hh); exact hh m1; exact hh m2), hg]
        simp only [p4]
    · simp [no] at hw
  · simp [no] at hw
theorem opW_ok {ρ : Operand → Value} {o : Oper} {h : AH} {p : Prop} {k : KT} (hw : opW P ρ o h = .ok (p, k)) (hp : p) : ∃ v h', k.sat v h' ∧ Goes P ρ o h v h' := by
  unfold opW at hw
  rw [ite_no] at hw
  obtain ⟨hok, hw⟩ := hw
  have hok : okOps P o = true := by cases hq : okOps P o with | true => rfl | false => rw [hq] at hok; simp at hok
  have l1 : ∀ {x : M (Prop × Value × AH)}, lift1 x = .ok (p, k) → ∃ v h', x = .ok (p, v, h') ∧ k = .ret v h' := by
    intro x hx
    unfold lift1 at hx
    simp only [bind_ok] at hx
    obtain ⟨⟨p1, v, h'⟩, hx, e⟩ := hx
    rw [okk] at e
    injection e with e1 e2
    subst e1; subst e2
    exact ⟨v, h', hx, rfl⟩
  split at hw
  · rename_i t x ho
    obtain ⟨v, h', hx, rfl⟩ := l1 hw
    obtain ⟨hr, rfl⟩ := wLoad_ok ho hx hp
    exact ⟨v, h', ⟨rfl, rfl⟩, read_goes hok (by rw [ho]; rfl) hr⟩
  · rename_i t x y ho
    obtain ⟨v, h', hx, rfl⟩ := l1 hw
    obtain ⟨hr, rfl⟩ := wStore_ok ho hx hp
    exact ⟨undef, h', ⟨rfl, rfl⟩, .inr ⟨exec_eff hok (by rw [ho]; rfl) hr, rfl⟩⟩
  · rename_i t x y ho
    obtain ⟨v, h', hx, rfl⟩ := l1 hw
    obtain ⟨hr, rfl⟩ := wIndexAddr_ok ho hx hp
    exact ⟨v, h', ⟨rfl, rfl⟩, read_goes hok (by rw [ho]; rfl) hr⟩
  · rename_i t x y ho
    obtain ⟨v, h', hx, rfl⟩ := l1 hw
    obtain ⟨hr, rfl⟩ := wIndex_ok ho hx hp
    exact ⟨v, h', ⟨rfl, rfl⟩, read_goes hok (by rw [ho]; rfl) hr⟩
  · rename_i op t x y yt ho
    obtain ⟨v, h', hx, rfl⟩ := l1 hw
    obtain ⟨hr, rfl⟩ := wBin_ok ho hx hp
    exact ⟨v, h', ⟨rfl, rfl⟩, read_goes hok (by rw [ho]; rfl) hr⟩
  · rename_i t x lo hi mx ho
    obtain ⟨v, h', hx, rfl⟩ := l1 hw
    obtain ⟨hr, rfl⟩ := wSlice_ok ho hx hp
    exact ⟨v, h', ⟨rfl, rfl⟩, read_goes hok (by rw [ho]; rfl) hr⟩
  · rename_i args ats ho
    obtain ⟨v, h', hs, ha⟩ := wAppend_ok hw hp
    refine ⟨v, h', hs, .inl (exec_eff hok (by rw [ho]; rfl) ?_)⟩
    unfold effA
    simp only [ho, resolveA, bind, Except.bind, invokeA, builtinA]
    rw [ha]
  · rename_i args ats ho
    obtain ⟨v, h', hs, ha⟩ := wCopy_ok hw hp
    refine ⟨v, h', hs, .inl (exec_eff hok (by rw [ho]; rfl) ?_)⟩
    unfold effA
    simp only [ho, resolveA, bind, Except.bind, invokeA]
    exact ha
  · rename_i args ats ho
    obtain ⟨v, h', hs, ha⟩ := wUnsafeString_ok hw hp
    refine ⟨v, h', hs, .inl (exec_eff hok (by rw [ho]; rfl) ?_)⟩
    unfold effA
    simp only [ho, resolveA, bind, Except.bind, invokeA]
    exact ha
  · rename_i args ats ho
    obtain ⟨v, h', hx, rfl⟩ := l1 hw
    unfold wSliceData at hx
    split at hx
    · rename_i a l c ha
      split at hx
      · rename_i hc
        rw [okk] at hx
        injection hx with e1 e2
        injection e2 with e2 e3
        subst e1; subst e2; subst e3
        refine ⟨_, _, ⟨rfl, rfl⟩, read_goes hok (by rw [ho]; rfl) ?_⟩
        unfold readA
        simp only [ho, hc.2, ha, Bool.false_eq_true, if_false]
        have hc0 : c ≠ 0 := by rintro rfl; exact absurd hc.1 (by decide)
        unfold readB
        exact if_pos ⟨hc0, .inr hp⟩
      · simp [no] at hx
    · simp [no] at hx
  · rename_i s d x ho
    exact wConv_ok hok ho hw hp
  · rename_i t l c ho
    exact wMakeSlice_ok hok ho hw hp
  · rename_i t x y c ho
    exact wLookup_ok hok ho hw hp
  · rename_i t m y x ho
    obtain ⟨h', hs, ha⟩ := mapSet_ok' hw hp
    refine ⟨undef, h', hs, .inr ⟨exec_eff hok (by rw [ho]; rfl) ?_, rfl⟩⟩
    unfold effA
    simp only [ho, bind, Except.bind, ha]
  · rename_i t m y x ho
    obtain ⟨h', hs, ha⟩ := mapSet_ok' hw hp
    refine ⟨undef, h', hs, .inr ⟨exec_eff hok (by rw [ho]; rfl) ?_, rfl⟩⟩
    unfold effA
    simp only [ho, bind, Except.bind, ha]
  · simp [no] at hw
end Go.Ev

namespace Go.Ev
set_option linter.unusedVariables false
set_option linter.unusedSimpArgs false
variable {η : Nat → Value} {P : Program} {B : Nat}

theorem Run.tm {fn : FuncId} {h0 h : AH} {f : AF} {cs : List AF} {Q : Value → AH → Prop} {tm : T Value} (hi : ∀ t, f.n ≤ t → tm.get t = none) (hg : ∀ t, inT tm t = inT f.tm t) (r : Run η P B fn h0 ⟨{ f with tm := tm }, cs, h⟩ Q) : Run η P B fn h0 ⟨f, cs, h⟩ Q := by
  intro ρ0 w0 ρ fr cs' w cs0 p0 p R
  have F := R.fr
  refine r ρ0 w0 ρ fr cs' w cs0 p0 p ⟨⟨F.fn, ⟨F.tm.1, hi, fun t ht => ?_⟩, F.todo, F.defers, F.mode, F.kind, F.round⟩, R.cs, R.pre⟩
  have := hg t
  unfold inT at this
  show VR η ρ ((tm.get t).getD undef) _
  rw [this]
  exact F.tm.2.2 t ht
/-- Whatever the other temporaries hold. -/
def RunD (η : Nat → Value) (P : Program) (B : Nat) (fn : FuncId) (h0 : AH) (keep : List Nat) (s : AS) (Q : Value → AH → Prop) : Prop :=
  ∀ tm', (∀ t, s.fr.n ≤ t → tm'.get t = none) → (∀ t, keep.contains t = true → inT tm' t = inT s.fr.tm t) → Run η P B fn h0 ⟨{ s.fr with tm := tm' }, s.cs, s.hp⟩ Q
def canonT (keep : List Nat) (tm : T Value) : Nat → T Value
  | 0 => .nil
  | n + 1 => (canonT keep tm n).set n (if keep.contains n then inT tm n else undef)
theorem canonT_get (keep : List Nat) (tm : T Value) : ∀ n t, (canonT keep tm n).get t = if t < n then some (if keep.contains t then inT tm t else undef) else none
  | 0, t => by rw [if_neg (by omega)]; rfl
  | n + 1, t => by
    rw [canonT, T.get_set, canonT_get keep tm n t]
    by_cases h : t = n
    · subst h; rw [if_pos rfl, if_pos (show t < t + 1 by omega)]
    · rw [if_neg h]
      by_cases h2 : t < n
      · rw [if_pos h2, if_pos (show t < n + 1 by omega)]
      · rw [if_neg h2, if_neg (show ¬ t < n + 1 by omega)]
/-- All of a row of temporaries. -/
def allT (n : Nat) (f : Nat → Value) : List Value := (List.range n).map f
theorem allT_eq {n : Nat} {f g : Nat → Value} (h : allT n f = allT n g) : ∀ t, t < n → f t = g t := by
  intro t ht
  have := congrArg (fun l => l[t]?) h
  simp only [allT, List.getElem?_map, List.getElem?_range ht, Option.map_some] at this
  injection this
theorem RunD.intro {fn : FuncId} {h0 : AH} {keep : List Nat} {s : AS} {Q : Value → AH → Prop} (S : (Nat → Value) → AS)
    (e1 : ∀ d, (S d).cs = s.cs ∧ (S d).hp = s.hp ∧ { (S d).fr with tm := s.fr.tm } = s.fr) (hi : ∀ d t, s.fr.n ≤ t → (S d).fr.tm.get t = none) (e2 : ∀ d, allT s.fr.n (inT (S d).fr.tm) = allT s.fr.n fun t => if keep.contains t then inT s.fr.tm t else d t) (r : ∀ d, Run η P B fn h0 (S d) Q) : RunD η P B fn h0 keep s Q := by
  intro tm' h1 h2
  have hr := r (inT tm')
  obtain ⟨c1, c2, c3⟩ := e1 (inT tm')
  have hn : (S (inT tm')).fr.n = s.fr.n := by rw [← c3]
  refine Run.tm (f := { s.fr with tm := tm' }) (tm := (S (inT tm')).fr.tm) (fun t ht => hi _ t ht) (fun t => ?_) ?_
  · show inT _ t = inT tm' t
    by_cases ht : t < s.fr.n
    · rw [allT_eq (e2 (inT tm')) t ht]
      cases hk : keep.contains t with
      | true => simp only [if_true]; exact (h2 t hk).symm
      | false => simp only [Bool.false_eq_true, if_false]
    · unfold inT
      rw [hi _ t (by omega), h1 t (by omega)]
  · have : (⟨{ ({ s.fr with tm := tm' } : AF) with tm := (S (inT tm')).fr.tm }, s.cs, s.hp⟩ : AS) = S (inT tm') := by
      rw [← c1, ← c2]
      have : ({ ({ s.fr with tm := tm' } : AF) with tm := (S (inT tm')).fr.tm } : AF) = (S (inT tm')).fr := by
        have h3 := congrArg (fun f : AF => ({ f with tm := (S (inT tm')).fr.tm } : AF)) c3
        simp only at h3
        exact h3.symm
      rw [this]
    rw [this]
    exact hr
theorem RunD.at {fn : FuncId} {h0 : AH} {keep : List Nat} {f : AF} {cs : List AF} {h : AH} {Q : Value → AH → Prop} (r : RunD η P B fn h0 keep ⟨{ f with tm := canonT keep f.tm f.n }, cs, h⟩ Q) (hi : ∀ t, f.n ≤ t → f.tm.get t = none) (hk : keep.all (fun t => decide (t < f.n)) = true) : Run η P B fn h0 ⟨f, cs, h⟩ Q := by
  refine r f.tm hi (fun t ht => ?_)
  have hlt : t < f.n := by
    have := List.all_eq_true.1 hk t (by simpa using ht)
    simpa using this
  unfold inT
  simp only [canonT_get, if_pos hlt, ht, if_true, Option.getD_some]
  rfl

def mapO {α : Type} (f : α → Option α) : List α → Option (List α)
  | [] => some []
  | x :: xs => match f x, mapO f xs with
    | some y, some ys => some (y :: ys)
    | _, _ => none
def renA (τ : Nat → Option Nat) (a : Addr) : Option Addr := (τ a.block).map fun r => ⟨r, a.off, a.spot⟩
def renV (τ : Nat → Option Nat) : Nat → Value → Option Value
  | 0, _ => none
  | n + 1, v => match v with
    | .pointer (some a) => some (match renA τ a with | some b => .pointer (some b) | none => .chan none)
    | .slice (some a) l c => some (match renA τ a with | some b => .slice (some b) l c | none => .chan none)
    | .map (some r) => some (match τ r with | some b => .map (some b) | none => .chan none)
    | .func (.yield l) a b => match τ l with
      | some r => match mapO (renV τ n) a.toList, mapO (renV τ n) b.toList with
        | some x, some y => some (.func (.yield r) ⟨x⟩ ⟨y⟩)
        | _, _ => none
      | none => some (.chan none)
    | .func f a b => match mapO (renV τ n) a.toList, mapO (renV τ n) b.toList with
      | some x, some y => some (.func f ⟨x⟩ ⟨y⟩)
      | _, _ => none
    | .iface t x => (renV τ n x).map (.iface t)
    | .agg l => (mapO (renV τ n) l.toList).map fun l => .agg ⟨l⟩
    | .tuple l => (mapO (renV τ n) l.toList).map fun l => .tuple ⟨l⟩
    | v => some v
theorem mapO_l2 {α : Type} {R : α → α → Prop} {f : α → Option α} (hf : ∀ x y, f x = some y → R y x) : ∀ {l m : List α}, mapO f l = some m → L2 R m l
  | [], m, h => by simp [mapO] at h; subst h; exact .nil
  | x :: xs, m, h => by
    unfold mapO at h
    split at h
    · rename_i y ys h1 h2; injection h with h; subst h; exact .cons (hf _ _ h1) (mapO_l2 hf h2)
    · cases h
theorem renV_ok {σ : Nat → Nat} {N : Nat} {τ : Nat → Option Nat} (hτ : ∀ r r', τ r = some r' → r' < N ∧ σ r' = r) : ∀ (n : Nat) {v v' : Value}, renV τ n v = some v' → RV σ N true v' v := by
  intro n
  induction n with
  | zero => intro v v' h; cases h
  | succ n ih =>
    intro v v' h
    have hL : ∀ {l m : List Value}, mapO (renV τ n) l = some m → L2 (RV σ N true) m l := fun h => mapO_l2 (R := RV σ N true) (fun x y hx => ih hx) h
    have hget : ∀ {l m : List Value}, L2 (RV σ N true) l m → l.length = m.length ∧ ∀ (i : Nat) (v x : Value), l[i]? = some v → m[i]? = some x → RV σ N true v x := by
      intro l m h2
      refine ⟨h2.len, fun i v x hv hx => ?_⟩
      obtain ⟨b, hb, hr⟩ := h2.get hv
      rw [hx] at hb; injection hb with hb; subst hb; exact hr
    unfold renV at h
    split at h
    · rename_i a
      injection h with h; subst h
      unfold renA
      cases ht : τ a.block with
      | none => exact .any rfl rfl
      | some r =>
        obtain ⟨h1, h2⟩ := hτ _ _ ht
        obtain ⟨b, o, s⟩ := a
        simp only at h2
        subst h2
        exact .ptr h1
    · rename_i a l c
      injection h with h; subst h
      unfold renA
      cases ht : τ a.block with
      | none => exact .any rfl rfl
      | some r =>
        obtain ⟨h1, h2⟩ := hτ _ _ ht
        obtain ⟨b, o, s⟩ := a
        simp only at h2
        subst h2
        exact .slice _ _ h1
    · rename_i r
      injection h with h; subst h
      cases ht : τ r with
      | none => exact .any rfl rfl
      | some r' =>
        obtain ⟨h1, h2⟩ := hτ _ _ ht
        subst h2
        exact .map h1
    · rename_i l a b
      cases ht : τ l with
      | none => rw [ht] at h; injection h with h; subst h; exact .any rfl rfl
      | some r =>
        rw [ht] at h
        obtain ⟨h1, h2⟩ := hτ _ _ ht
        subst h2
        simp only at h
        split at h
        · rename_i x y hx hy
          injection h with h; subst h
          obtain ⟨x1, x2⟩ := hget (hL hx)
          obtain ⟨y1, y2⟩ := hget (hL hy)
          exact .func (.yield h1) x1 y1 x2 y2
        · cases h
    · rename_i f a b hf
      split at h
      · rename_i x y hx hy
        injection h with h; subst h
        obtain ⟨x1, x2⟩ := hget (hL hx)
        obtain ⟨y1, y2⟩ := hget (hL hy)
        exact .func (.same fun l hl => hf l hl) x1 y1 x2 y2
      · cases h
    · rename_i t x
      cases hx : renV τ n x with
      | none => rw [hx] at h; cases h
      | some y => rw [hx] at h; injection h with h; subst h; exact .iface t (ih hx)
    · rename_i l
      cases hx : mapO (renV τ n) l.toList with
      | none => rw [hx] at h; cases h
      | some y =>
        rw [hx] at h; injection h with h; subst h
        obtain ⟨x1, x2⟩ := hget (hL hx)
        exact .agg x1 x2
    · rename_i l
      cases hx : mapO (renV τ n) l.toList with
      | none => rw [hx] at h; cases h
      | some y =>
        rw [hx] at h; injection h with h; subst h
        obtain ⟨x1, x2⟩ := hget (hL hx)
        exact .tuple x1 x2
    · rename_i h1 h2 h3 h4 h5 h6 h7 h8
      injection h with h; subst h
      cases v with
      | bool b => exact .bool b
      | int k n => exact .int k n
      | float k n => exact .float k n
      | complex k a b => exact .complex k a b
      | string s => exact .string s
      | pointer a => cases a with | none => exact .ptr0 | some a => exact absurd rfl (h1 a)
      | slice a l c => cases a with | none => exact .slice0 l c | some a => exact absurd rfl (h2 a l c)
      | map a => cases a with | none => exact .map0 | some a => exact absurd rfl (h3 a)
      | chan c => exact .chan c
      | func f a b => exact absurd rfl (h5 f a b)
      | nilFunc => exact .nilFunc
      | nilIface => exact .nilIface
      | iface t x => exact absurd rfl (h6 t x)
      | agg l => exact absurd rfl (h7 l)
      | tuple l => exact absurd rfl (h8 l)
/-- Values that name no block. -/
def bareN : Value → Bool
  | .bool _ | .int _ _ | .float _ _ | .complex _ _ _ | .string _ | .pointer none | .slice none _ _ | .map none | .nilFunc | .nilIface => true
  | _ => false
def NoNames (c : List Value) : Prop := ∀ v, v ∈ c → bareN v = true
def NoNamesE (es : List MapEntry) : Prop := ∀ e, e ∈ es → bareN e.key = true ∧ bareN e.val = true
theorem bareN_rv {σ : Nat → Nat} {N : Nat} {wk : Bool} {v : Value} (h : bareN v = true) : RV σ N wk v v := by
  unfold bareN at h
  split at h <;> first | exact .bool _ | exact .int _ _ | exact .float _ _ | exact .complex _ _ _ | exact .string _ | exact .ptr0 | exact .slice0 _ _ | exact .map0 | exact .nilFunc | exact .nilIface | cases h
/-- Nothing is told beyond the last temporary. -/
def tmOk (n : Nat) : T Value → Nat → Nat → Bool
  | .nil, _, _ => true
  | .node o l r, a, c => (o.isNone || decide (c < n)) && tmOk n l (2 * a) (a + c) && tmOk n r (2 * a) (2 * a + c)
theorem tmOk_at {n : Nat} : ∀ {t : T Value} {a c : Nat}, tmOk n t a c = true → ∀ i, n ≤ a * i + c → t.get i = none
  | .nil, _, _, _, _, _ => rfl
  | .node o l r, a, c, h, i, hi => by
    simp only [tmOk, Bool.and_eq_true, Bool.or_eq_true, decide_eq_true_eq, Option.isNone_iff_eq_none] at h
    unfold T.get
    by_cases h0 : i = 0
    · rw [if_pos h0]; subst h0
      rcases h.1.1 with h1 | h1
      · exact h1
      · omega
    · rw [if_neg h0]
      by_cases h1 : i % 2 = 1
      · rw [if_pos h1]
        refine tmOk_at h.1.2 _ ?_
        have hh : i = 2 * (i / 2) + 1 := by omega
        have : a * i = 2 * a * (i / 2) + a := by
          conv => lhs; rw [hh]
          rw [Nat.mul_add, Nat.mul_one, ← Nat.mul_assoc, Nat.mul_comm a 2]
        omega
      · rw [if_neg h1]
        refine tmOk_at h.2 _ ?_
        have hh : i = 2 * (i / 2 - 1) + 2 := by omega
        have : a * i = 2 * a * (i / 2 - 1) + 2 * a := by
          conv => lhs; rw [hh]
          rw [Nat.mul_add, ← Nat.mul_assoc, Nat.mul_comm a 2]
        omega
theorem tmOk_get {n : Nat} {t : T Value} (h : tmOk n t 1 0 = true) : ∀ i, n ≤ i → t.get i = none := fun i hi => tmOk_at h i (by omega)
def renT (τ : Nat → Option Nat) (keep : List Nat) (tm : T Value) : Nat → Option (T Value)
  | 0 => some .nil
  | n + 1 => match (if keep.contains n then renV τ 50 (inT tm n) else some undef), renT τ keep tm n with
    | some v, some t => some (t.set n v)
    | _, _ => none
theorem renT_ok {τ : Nat → Option Nat} {keep : List Nat} {tm : T Value} : ∀ {n : Nat} {t : T Value}, renT τ keep tm n = some t → (∀ i, n ≤ i → t.get i = none) ∧ ∀ i, i < n → keep.contains i = true → renV τ 50 (inT tm i) = some (inT t i)
  | 0, t, h => by simp only [renT] at h; injection h with h; subst h; exact ⟨fun _ _ => rfl, fun i hi => by omega⟩
  | n + 1, t, h => by
    unfold renT at h
    split at h
    · rename_i v t1 h1 h2
      injection h with h; subst h
      obtain ⟨k1, k2⟩ := renT_ok h2
      refine ⟨fun i hi => by rw [T.get_set, if_neg (by omega)]; exact k1 i (by omega), fun i hi hk => ?_⟩
      unfold inT
      rw [T.get_set]
      by_cases he : i = n
      · subst he; rw [if_pos rfl]; rw [if_pos hk] at h1; unfold inT at h1; rw [h1]; rfl
      · rw [if_neg he]; exact k2 i (by omega) hk
    · cases h
def renE (τ : Nat → Option Nat) (e : MapEntry) : Option MapEntry := match renV τ 50 e.key, renV τ 50 e.val with
  | some k, some v => some { e with key := k, val := v }
  | _, _ => none
def renO (τ : Nat → Option Nat) (open_ : Bool) : AObj → Option (AObj × Prop)
  | .cells ty c p own => if open_ then some (.cells ty c p own, NoNames c) else (mapO (renV τ 50) c).map fun c' => (.cells ty c' p own, True)
  | .map es k own => if open_ then some (.map es k own, NoNamesE es) else (mapO (renE τ) es).map fun es' => (.map es' k own, True)
  | .stringIter s p => some (.stringIter s p, True)
  | .mapIter none a b c => some (.mapIter none a b c, True)
  | .mapIter (some m) a b c => (τ m).map fun r => (.mapIter (some r) a b c, True)
  | .loop st pend fn tm n ps asg body ds => if tmOk n tm 1 0 then (match renT τ (List.range n) tm n, τ ds with
    | some tm', some ds' => some (.loop st pend fn tm' n ps asg body ds', True)
    | _, _ => none) else none
  | .deferred none => some (.deferred none, True)
  | .deferred (some []) => some (.deferred (some []), True)
  | _ => none
theorem renO_ok {σ : Nat → Nat} {N : Nat} {τ : Nat → Option Nat} (hτ : ∀ r r', τ r = some r' → r' < N ∧ σ r' = r) {op : Bool} {o o' : AObj} {p : Prop} (h : renO τ op o = some (o', p)) (hp : p) : RO σ N true o' o := by
  unfold renO at h
  split at h
  · rename_i ty c pl own
    cases op with
    | true =>
      simp only [if_true] at h
      injection h with h; injection h with e1 e2; subst e1; subst e2
      exact .cells ty pl (l2_same fun v hv => bareN_rv (hp v hv)) (.inl rfl)
    | false =>
      simp only [Bool.false_eq_true, if_false] at h
      cases hm : mapO (renV τ 50) c with
      | none => rw [hm] at h; cases h
      | some c' =>
        rw [hm] at h
        injection h with h; injection h with e1 e2; subst e1; subst e2
        exact .cells ty pl (mapO_l2 (R := RV σ N true) (fun x y hx => renV_ok hτ 50 hx) hm) (.inl rfl)
  · rename_i es k own
    cases op with
    | true =>
      simp only [if_true] at h
      injection h with h; injection h with e1 e2; subst e1; subst e2
      have key : ∀ {es : List MapEntry}, NoNamesE es → L2 (RE σ N true) es es := by
        intro es
        induction es with
        | nil => intro _; exact .nil
        | cons e es ih =>
          intro h
          have h1 := h e (by simp)
          exact .cons ⟨bareN_rv h1.1, bareN_rv h1.2, rfl⟩ (ih fun x hx => h x (by simp [hx]))
      exact .map k (key hp) (.inl rfl)
    | false =>
      simp only [Bool.false_eq_true, if_false] at h
      cases hm : mapO (renE τ) es with
      | none => rw [hm] at h; cases h
      | some c' =>
        rw [hm] at h
        injection h with h; injection h with e1 e2; subst e1; subst e2
        refine .map k (mapO_l2 (R := RE σ N true) (fun x y hx => ?_) hm) (.inl rfl)
        unfold renE at hx
        split at hx
        · rename_i a b ha hb
          injection hx with hx; subst hx
          exact ⟨renV_ok hτ 50 ha, renV_ok hτ 50 hb, rfl⟩
        · cases hx
  · injection h with h; injection h with e1 e2; subst e1; subst e2; exact .stringIter _ _
  · injection h with h; injection h with e1 e2; subst e1; subst e2; exact .mapIter0 _ _ _
  · rename_i m a b c
    cases ht : τ m with
    | none => rw [ht] at h; cases h
    | some r =>
      rw [ht] at h
      injection h with h; injection h with e1 e2; subst e1; subst e2
      obtain ⟨h1, h2⟩ := hτ _ _ ht
      subst h2
      exact .mapIter _ _ _ h1
  · rename_i st pend fn tm n ps asg body ds
    split at h
    · rename_i hok
      split at h
      · rename_i tm' ds' ht hd
        injection h with h; injection h with e1 e2; subst e1; subst e2
        obtain ⟨k1, k2⟩ := renT_ok ht
        obtain ⟨h1, h2⟩ := hτ _ _ hd
        subst h2
        exact .loop k1 (tmOk_get hok) (fun t ht => renV_ok hτ 50 (k2 t ht (by rw [List.contains_iff_mem]; exact List.mem_range.2 ht))) h1
      · cases h
    · cases h
  · injection h with h; injection h with e1 e2; subst e1; subst e2; exact .deferred0
  · injection h with h; injection h with e1 e2; subst e1; subst e2; exact .deferred1
  · cases h
/-- Other names: N names; (actual, new) ones; the blocks that are kept, (new, actual, are their data unknown?). -/
structure Rn where
  N : Nat
  τ : List (Nat × Nat)
  bl : List (Nat × Nat × Bool)
def Rn.sg (rn : Rn) (nb r : Nat) : Nat := if r < nb then r else ((rn.τ.find? fun p => p.2 == r).map (·.1)).getD r
def Rn.tf (rn : Rn) (nb a : Nat) : Option Nat := if a < nb then some a else (rn.τ.find? fun p => p.1 == a).map (·.2)
def nodupB : List Nat → Bool
  | [] => true
  | x :: xs => !xs.contains x && nodupB xs
def Rn.good (rn : Rn) (gs nb : Nat) : Bool :=
  decide (gs < nb) && decide (nb ≤ rn.N) && rn.τ.all (fun p => decide (nb ≤ p.2) && decide (p.2 < rn.N) && decide (nb ≤ p.1) && rn.sg nb p.2 == p.1) &&
    rn.bl.all (fun b => decide (b.1 < rn.N) && rn.sg nb b.1 == b.2.1) && nodupB (rn.bl.map (·.1)) && nodupB (rn.bl.map (·.2.1))
theorem Rn.tf_ok {rn : Rn} {gs nb : Nat} (h : rn.good gs nb = true) : ∀ r r', rn.tf nb r = some r' → r' < rn.N ∧ rn.sg nb r' = r := by
  intro r r' hr
  simp only [Rn.good, Bool.and_eq_true, decide_eq_true_eq] at h
  obtain ⟨⟨⟨⟨⟨h1, h2⟩, h3⟩, h4⟩, h5⟩, h6⟩ := h
  unfold Rn.tf at hr
  by_cases hlt : r < nb
  · rw [if_pos hlt] at hr; injection hr with hr; subst hr
    exact ⟨by omega, by unfold Rn.sg; rw [if_pos hlt]⟩
  · rw [if_neg hlt] at hr
    cases hf : rn.τ.find? (fun p => p.1 == r) with
    | none => rw [hf] at hr; cases hr
    | some q =>
      rw [hf] at hr; injection hr with hr; subst hr
      have hq := List.find?_some hf
      have hm := List.mem_of_find?_eq_some hf
      have := List.all_eq_true.1 h3 q hm
      simp only [Bool.and_eq_true, decide_eq_true_eq, beq_iff_eq] at this hq
      exact ⟨this.1.1.2, this.2.trans hq⟩
def renH (τ : Nat → Option Nat) (h : AH) : List (Nat × Nat × Bool) → Option (T AObj × Prop)
  | [] => some (.nil, True)
  | b :: l => match h.objs.get b.2.1 with
    | none => none
    | some o => match renO τ b.2.2 o, renH τ h l with
      | some (o', p), some (t, q) => some (t.set b.1 o', p ∧ q)
      | _, _ => none
theorem renH_ok {σ : Nat → Nat} {N : Nat} {τ : Nat → Option Nat} (hτ : ∀ r r', τ r = some r' → r' < N ∧ σ r' = r) {h : AH} : ∀ {l : List (Nat × Nat × Bool)} {t : T AObj} {p : Prop}, renH τ h l = some (t, p) → p → ∀ r o, t.get r = some o → ∃ b o', b ∈ l ∧ b.1 = r ∧ h.objs.get b.2.1 = some o' ∧ RO σ N true o o'
  | [], t, p, hr, hp, r, o, ho => by
    simp only [renH] at hr; injection hr with hr; injection hr with e1 e2; subst e1; cases ho
  | b :: l, t, p, hr, hp, r, o, ho => by
    unfold renH at hr
    cases hx : h.objs.get b.2.1 with
    | none => rw [hx] at hr; cases hr
    | some ob =>
      rw [hx] at hr
      simp only at hr
      split at hr
      · rename_i o' p1 t1 q1 h1 h2
        injection hr with hr; injection hr with e1 e2; subst e1; subst e2
        rw [T.get_set] at ho
        by_cases hb : r = b.1
        · rw [if_pos hb] at ho
          injection ho with ho; subst ho
          exact ⟨b, ob, by simp, hb.symm, hx, renO_ok hτ h1 hp.1⟩
        · rw [if_neg hb] at ho
          obtain ⟨b', o2, k1, k2, k3, k4⟩ := renH_ok hτ h2 hp.2 r o ho
          exact ⟨b', o2, by simp [k1], k2, k3, k4⟩
      · cases hr
theorem nodupB_inj {α : Type} {f : α → Nat} : ∀ {l : List α}, nodupB (l.map f) = true → ∀ {x y : α}, x ∈ l → y ∈ l → f x = f y → x = y
  | [], _, x, y, hx, _, _ => by cases hx
  | a :: l, h, x, y, hx, hy, e => by
    simp only [List.map_cons, nodupB, Bool.and_eq_true, Bool.not_eq_true'] at h
    have hn : ∀ z, z ∈ l → f z ≠ f a := by
      intro z hz he
      have : (l.map f).contains (f a) = true := by
        rw [List.contains_iff_mem]; exact List.mem_map.2 ⟨z, hz, he⟩
      rw [this] at h; cases h.1
    rcases List.mem_cons.1 hx with h1 | h1
    · rcases List.mem_cons.1 hy with h2 | h2
      · rw [h1, h2]
      · rw [h1] at e; exact absurd e.symm (hn _ h2)
    · rcases List.mem_cons.1 hy with h2 | h2
      · rw [h2] at e; exact absurd e (hn _ h1)
      · exact nodupB_inj h.2 h1 h2 e
theorem ren_emb {rn : Rn} {nb : Nat} {h : AH} {t : T AObj} {p : Prop} (hg : rn.good P.globals.size nb = true) (hr : renH (rn.tf nb) h rn.bl = some (t, p)) (hp : p) : Emb P (rn.sg nb) ⟨t, rn.N⟩ h := by
  have hτ := rn.tf_ok hg
  have key := renH_ok (N := rn.N) (σ := rn.sg nb) hτ hr hp
  simp only [Rn.good, Bool.and_eq_true, decide_eq_true_eq] at hg
  obtain ⟨⟨⟨⟨⟨h1, h2⟩, h3⟩, h4⟩, h5⟩, h6⟩ := hg
  have hb : ∀ b, b ∈ rn.bl → b.1 < rn.N ∧ rn.sg nb b.1 = b.2.1 := by
    intro b hb
    have := List.all_eq_true.1 h4 b hb
    simp only [Bool.and_eq_true, decide_eq_true_eq, beq_iff_eq] at this
    exact this
  refine ⟨fun g hgs => ⟨?_, ?_⟩, fun r a hr => ?_, fun r r' a a' hr hr' he => ?_⟩
  · show g < rn.N; omega
  · unfold Rn.sg; rw [if_pos (by omega)]
  · obtain ⟨b, o', k1, k2, k3, k4⟩ := key r a hr
    obtain ⟨l1, l2⟩ := hb b k1
    subst k2
    exact ⟨l1, o', by rw [l2]; exact k3, k4⟩
  · obtain ⟨b, _, k1, k2, _⟩ := key r a hr
    obtain ⟨b', _, k1', k2', _⟩ := key r' a' hr'
    subst k2; subst k2'
    rw [(hb b k1).2, (hb b' k1').2] at he
    rw [nodupB_inj (f := fun b : Nat × Nat × Bool => b.2.1) h6 k1 k1' he]
/-- Less is known of any value. -/
theorem weak_ex {σ : Nat → Nat} {N : Nat} (v : Value) : ∃ v0, RV σ N true v0 v := match v with
  | .agg l => by
    have h : ∀ m : List Value, (∀ x, x ∈ m → ∃ v0, RV σ N true v0 x) → ∃ m0, L2 (RV σ N true) m0 m := by
      intro m
      induction m with
      | nil => intro _; exact ⟨[], .nil⟩
      | cons x m ih =>
        intro hx
        obtain ⟨v0, hv⟩ := hx x (by simp)
        obtain ⟨m0, hm⟩ := ih fun y hy => hx y (by simp [hy])
        exact ⟨v0 :: m0, .cons hv hm⟩
    obtain ⟨m0, hm⟩ := h l.toList fun x hx => weak_ex x
    refine ⟨.agg ⟨m0⟩, .agg hm.len fun i v x hv hx => ?_⟩
    obtain ⟨b, hb, hr⟩ := hm.get hv
    rw [hx] at hb; injection hb with hb; subst hb; exact hr
  | .tuple l => by
    have h : ∀ m : List Value, (∀ x, x ∈ m → ∃ v0, RV σ N true v0 x) → ∃ m0, L2 (RV σ N true) m0 m := by
      intro m
      induction m with
      | nil => intro _; exact ⟨[], .nil⟩
      | cons x m ih =>
        intro hx
        obtain ⟨v0, hv⟩ := hx x (by simp)
        obtain ⟨m0, hm⟩ := ih fun y hy => hx y (by simp [hy])
        exact ⟨v0 :: m0, .cons hv hm⟩
    obtain ⟨m0, hm⟩ := h l.toList fun x hx => weak_ex x
    refine ⟨.tuple ⟨m0⟩, .tuple hm.len fun i v x hv hx => ?_⟩
    obtain ⟨b, hb, hr⟩ := hm.get hv
    rw [hx] at hb; injection hb with hb; subst hb; exact hr
  | .bool b => ⟨_, .bool b⟩
  | .int k n => ⟨_, .int k n⟩
  | .float k n => ⟨_, .float k n⟩
  | .complex k a b => ⟨_, .complex k a b⟩
  | .string s => ⟨_, .string s⟩
  | .pointer a => ⟨_, .any rfl rfl⟩
  | .slice a l c => ⟨_, .any rfl rfl⟩
  | .map a => ⟨_, .any rfl rfl⟩
  | .chan c => ⟨_, .chan c⟩
  | .func f a b => ⟨_, .any rfl rfl⟩
  | .nilFunc => ⟨_, .nilFunc⟩
  | .nilIface => ⟨_, .nilIface⟩
  | .iface t v => by obtain ⟨v0, h⟩ := weak_ex v; exact ⟨.iface t v0, .iface t h⟩
termination_by SizeOf.sizeOf v
decreasing_by
  · simp_wf
    have := List.sizeOf_lt_of_mem hx
    have h2 : SizeOf.sizeOf l = 1 + SizeOf.sizeOf l.toList := by cases l; rfl
    omega
  · simp_wf
    have := List.sizeOf_lt_of_mem hx
    have h2 : SizeOf.sizeOf l = 1 + SizeOf.sizeOf l.toList := by cases l; rfl
    omega
  · simp_wf
    omega
/-- A row of temporaries by their values. -/
def tabT (f : Nat → Value) : Nat → T Value
  | 0 => .nil
  | n + 1 => (tabT f n).set n (f n)
theorem tabT_get (f : Nat → Value) : ∀ n t, (tabT f n).get t = if t < n then some (f t) else none
  | 0, t => by rw [if_neg (by omega)]; rfl
  | n + 1, t => by
    rw [tabT, T.get_set, tabT_get f n t]
    by_cases h : t = n
    · subst h; rw [if_pos rfl, if_pos (show t < t + 1 by omega)]
    · rw [if_neg h]
      by_cases h2 : t < n
      · rw [if_pos h2, if_pos (show t < n + 1 by omega)]
      · rw [if_neg h2, if_neg (show ¬ t < n + 1 by omega)]
def isRun : FrameMode → Bool
  | .run => true
  | _ => false
def renI (τ : Nat → Option Nat) : Item → Option Item
  | .inRangeFunc l => (τ l).map .inRangeFunc
  | .endRangeFunc l => (τ l).map .endRangeFunc
  | .code c => some (.code c)
  | .inBlock i => some (.inBlock i)
  | .inLoop c => some (.inLoop c)
  | .inScope c => some (.inScope c)
  | .inRegion a b => some (.inRegion a b)
  | .beginRound => some .beginRound
  | _ => none
theorem renI_ok {σ : Nat → Nat} {N : Nat} {τ : Nat → Option Nat} (hτ : ∀ r r', τ r = some r' → r' < N ∧ σ r' = r) {x y : Item} (h : renI τ x = some y) : RI σ N y x := by
  unfold renI at h
  split at h
  · rename_i l
    rw [Option.map_eq_some_iff] at h
    obtain ⟨r, h1, rfl⟩ := h
    obtain ⟨h2, h3⟩ := hτ _ _ h1
    subst h3; exact .inRangeFunc h2
  · rename_i l
    rw [Option.map_eq_some_iff] at h
    obtain ⟨r, h1, rfl⟩ := h
    obtain ⟨h2, h3⟩ := hτ _ _ h1
    subst h3; exact .endRangeFunc h2
  · injection h with h; subst h; exact .code _
  · injection h with h; subst h; exact .inBlock _
  · injection h with h; subst h; exact .inLoop _
  · injection h with h; subst h; exact .inScope _
  · injection h with h; subst h; exact .inRegion _ _
  · injection h with h; subst h; exact .beginRound
  · cases h
def renD (τ : Nat → Option Nat) : Deferred → Option Deferred
  | { target := .collected r, args := ⟨[]⟩ } => (τ r).map fun r' => { target := .collected r', args := ⟨[]⟩ }
  | _ => none
theorem renD_ok {σ : Nat → Nat} {N : Nat} {τ : Nat → Option Nat} (hτ : ∀ r r', τ r = some r' → r' < N ∧ σ r' = r) {x y : Deferred} (h : renD τ x = some y) : RDf σ N y x := by
  unfold renD at h
  split at h
  · rename_i r
    rw [Option.map_eq_some_iff] at h
    obtain ⟨r', h1, rfl⟩ := h
    obtain ⟨h2, h3⟩ := hτ _ _ h1
    subst h3; exact .coll h2
  · cases h
def renRo (τ : Nat → Option Nat) : Option Nat → Option (Option Nat)
  | none => some none
  | some r => (τ r).map some
theorem renRo_ok {σ : Nat → Nat} {N : Nat} {τ : Nat → Option Nat} (hτ : ∀ r r', τ r = some r' → r' < N ∧ σ r' = r) {x y : Option Nat} (h : renRo τ x = some y) : RRo σ N y x := by
  cases x with
  | none => injection h with h; subst h; trivial
  | some r =>
    unfold renRo at h
    rw [Option.map_eq_some_iff] at h
    obtain ⟨r', h1, rfl⟩ := h
    obtain ⟨h2, h3⟩ := hτ _ _ h1
    exact ⟨h2, h3.symm⟩
/-- A frame under other names. -/
def renF (τ : Nat → Option Nat) (keep : List Nat) (f : AF) : Option AF :=
  if isRun f.mode then match renT τ keep f.tm f.n, mapO (renI τ) f.todo, mapO (renD τ) f.defers, renRo τ f.round with
    | some tm, some todo, some defers, some round => some { fn := f.fn, n := f.n, tm, todo, defers, mode := f.mode, kind := f.kind, round }
    | _, _, _, _ => none
  else none
theorem renF_ok {σ : Nat → Nat} {N : Nat} {τ : Nat → Option Nat} (hτ : ∀ r r', τ r = some r' → r' < N ∧ σ r' = r) {keep : List Nat} {f f' : AF} (h : renF τ keep f = some f') (tm : T Value) (hi : ∀ t, f.n ≤ t → tm.get t = none) (ht : ∀ t, t < f.n → RV σ N true (inT tm t) (inT f.tm t)) :
    RFr σ N { f' with tm := tm } f := by
  unfold renF at h
  split at h
  · rename_i hm
    split at h
    · rename_i tm1 todo defers round h1 h2 h3 h4
      injection h with h; subst h
      refine ⟨rfl, rfl, hi, ht, mapO_l2 (R := RI σ N) (fun x y hx => renI_ok hτ hx) h2, mapO_l2 (R := RDf σ N) (fun x y hx => renD_ok hτ hx) h3, ⟨rfl, ?_⟩, rfl, renRo_ok hτ h4⟩
      cases hm2 : f.mode with
      | run => exact .inl rfl
      | returning => exact .inr rfl
      | panicking c => rw [hm2] at hm; simp [isRun] at hm
    · cases h
  · cases h
theorem renF_tm {τ : Nat → Option Nat} {keep : List Nat} {f f' : AF} (h : renF τ keep f = some f') : renT τ keep f.tm f.n = some f'.tm ∧ f'.n = f.n := by
  unfold renF at h
  split at h
  · split at h
    · rename_i tm1 todo defers round h1 h2 h3 h4
      injection h with h; subst h
      exact ⟨h1, rfl⟩
    · cases h
  · cases h
def renC (τ : Nat → Option Nat) (f : AF) : Option AF := renF τ (List.range f.n) f
theorem renC_ok {σ : Nat → Nat} {N : Nat} {τ : Nat → Option Nat} (hτ : ∀ r r', τ r = some r' → r' < N ∧ σ r' = r) {f f' : AF} (h : renC τ f = some f') : RFr σ N f' f := by
  obtain ⟨h1, h2⟩ := renF_tm h
  obtain ⟨k1, k2⟩ := renT_ok h1
  exact renF_ok hτ h f'.tm k1 fun t ht => renV_ok hτ 50 (k2 t ht (by rw [List.contains_iff_mem]; exact List.mem_range.2 ht))
def renS (gs nb : Nat) (rn : Rn) (keep : List Nat) (s : AS) : Option (AS × Prop) :=
  if rn.good gs nb then
    match renF (rn.tf nb) keep s.fr, mapO (renC (rn.tf nb)) s.cs, renH (rn.tf nb) s.hp rn.bl with
    | some fr, some cs, some (t, p) => some (⟨fr, cs, ⟨t, rn.N⟩⟩, p)
    | _, _, _ => none
  else none
theorem RunD.renS (hη : OneCells η) {fn : FuncId} {h0 : AH} {rn : Rn} {keep : List Nat} {s s' : AS} {p : Prop} {Q : Value → AH → Prop} (h : renS P.globals.size h0.next rn keep s = some (s', p)) (hp : p) (r : RunD η P B fn h0 keep s' Q) : Run η P B fn h0 s Q := by
  unfold Go.Ev.renS at h
  split at h
  · rename_i c5
    split at h
    · rename_i fr cs t q h1 hcs h2
      injection h with h; injection h with e1 e2; subst e1; subst e2
      obtain ⟨f, cs0, hp0⟩ := s
      simp only at h1 hcs h2 r
      have hτ := rn.tf_ok c5
      have hgd := c5
      simp only [Rn.good, Bool.and_eq_true, decide_eq_true_eq] at hgd
      have hn : h0.next ≤ rn.N := hgd.1.1.1.1.2
      obtain ⟨ht, hnn⟩ := renF_tm h1
      obtain ⟨k1, k2⟩ := renT_ok ht
      have hw : ∀ i, ∃ v0, RV (rn.sg h0.next) rn.N true v0 (inT f.tm i) ∧ (i < f.n → keep.contains i = true → v0 = inT fr.tm i) := by
        intro i
        by_cases hk : i < f.n ∧ keep.contains i = true
        · exact ⟨inT fr.tm i, renV_ok hτ 50 (k2 i hk.1 hk.2), fun _ _ => rfl⟩
        · obtain ⟨v0, hv⟩ := weak_ex (σ := rn.sg h0.next) (N := rn.N) (inT f.tm i)
          exact ⟨v0, hv, fun h1 h2 => absurd ⟨h1, h2⟩ hk⟩
      let g : Nat → Value := fun i => Classical.choose (hw i)
      have hg : ∀ i, RV (rn.sg h0.next) rn.N true (g i) (inT f.tm i) ∧ (i < f.n → keep.contains i = true → g i = inT fr.tm i) := fun i => Classical.choose_spec (hw i)
      have hr := r (tabT g f.n) (fun i hi => by rw [tabT_get, if_neg (by simp only at hi; omega)]) (fun i hk => by
        show inT (tabT g f.n) i = inT fr.tm i
        by_cases hi : i < f.n
        · unfold inT; rw [tabT_get, if_pos hi]; exact (hg i).2 hi hk
        · unfold inT; rw [tabT_get, if_neg hi, k1 i (by omega)])
      refine Run.ren (f := { fr with tm := tabT g f.n }) (hs := ⟨t, rn.N⟩) hη (rn.sg h0.next) (ren_emb c5 h2 hp) hn (fun r hr => by unfold Rn.sg; rw [if_pos hr]) (renF_ok hτ h1 (tabT g f.n) (fun i hi => ?_) fun i hi => ?_) (mapO_l2 (R := RFr (rn.sg h0.next) rn.N) (fun x y hx => renC_ok hτ hx) hcs) hr
      · rw [tabT_get, if_neg (by omega)]
      · show RV _ _ _ (((tabT g f.n).get i).getD undef) _
        rw [tabT_get, if_pos (show i < f.n from hi)]
        exact (hg i).1
    · cases h
  · cases h
end Go.Ev

namespace Go.Ev
set_option linter.unusedVariables false
set_option linter.unusedSimpArgs false
variable {η : Nat → Value} {P : Program} {B : Nat}
inductive Sc where
  | steps (n : Nat) (k : Sc)
  | bit (d : Nat) (a b : Sc)
  | op (k : Sc)
  | call (kt : KT) (k : Sc)
  | both (a b : Sc)
  | stop (keep : List Nat) (rn : Option Rn)
  | done (rn : Option Rn)
  | reg (k : Sc)
  | regM (q : List Nat) (k : Sc)
/-- Without conditions: something is so. -/
def KT.clean : KT → Bool
  | .ret _ _ => true
  | .ite _ x y => x.clean && y.clean
  | .know _ _ => false
theorem KT.some_sat : ∀ {k : KT}, k.clean = true → ∃ v h, k.sat v h
  | .ret v h, _ => ⟨v, h, rfl, rfl⟩
  | .ite b x y, hc => by
    simp only [KT.clean, Bool.and_eq_true] at hc
    cases b with
    | true => obtain ⟨v, h, hs⟩ := KT.some_sat hc.1; exact ⟨v, h, .inl ⟨rfl, hs⟩⟩
    | false => obtain ⟨v, h, hs⟩ := KT.some_sat hc.2; exact ⟨v, h, .inr ⟨rfl, hs⟩⟩
  | .know _ _, hc => by cases hc
def walkK (f : Value → AH → Sc → W) : KT → Sc → W
  | .ret v h, k => f v h k
  | .ite b x y, .both a c => .ite b (walkK f x a) (walkK f y c)
  | .know p x, k => .know p (walkK f x k)
  | .ite .., _ => .fail "both"
def canonS (keep : List Nat) (s : AS) : AS := ⟨{ s.fr with tm := canonT keep s.fr.tm s.fr.n }, s.cs, s.hp⟩
/-- One operation of a region, one after another. -/
def seqOp (P : Program) (nest : Nest) (base i : Nat) (ρ : Operand → Value) (o : Oper) (h : AH) : M (Value × AH) :=
  match kindOf P o.op with
  | .read => do
    let v ← readA P ρ o h
    .ok (v, h)
  | .alloc => do
    let (v, b) ← allocA P ρ o (base + i)
    .ok (v, putA h (base + i) b)
  | .effect => effRun P nest ρ o h
/-- A region, one operation after another. -/
def regSeq (P : Program) (nest : Nest) (n base : Nat) (ops : List Oper) : List Nat → T Value → AH → M (T Value × AH)
  | [], tm, h => .ok (tm, h)
  | i :: is, tm, h => match ops[i]? with
    | none => no "regSeq"
    | some o => do
      let want ← wantedA ops tm o
      let (v, h) ← (if want then seqOp P nest base i (evA tm) o h else .ok (undef, h) : M (Value × AH))
      let tm ← putT n tm o.dst v
      regSeq P nest n base ops is tm h
def orderOkS (ops : List Oper) (o : Oper) (mask : Nat) : List Oper → Nat → Bool
  | [], _ => true
  | x :: l, j => (!clash ops x o || mask.testBit j) && orderOkS ops o mask l (j + 1)
def isRead : Kind → Bool
  | .read => true
  | _ => false
def isEffect : Kind → Bool
  | .effect => true
  | _ => false
/-- Is it in an order with all that is not a read; with all, if it is an effect? -/
def chainOk (P : Program) (k : Kind) (mask : Nat) : List Oper → Nat → Bool
  | [], _ => true
  | x :: l, j => ((isRead (kindOf P x.op) && !isEffect k) || mask.testBit j) && chainOk P k mask l (j + 1)
def statOk (P : Program) (ops : List Oper) : List Oper → Nat → List Nat → List Oper → Bool
  | [], _, _, _ => true
  | o :: l, i, masks, prev => match maskOf masks i o.after.toList with
    | .ok m => orderOkS ops o m prev 0 && okOps P o && chainOk P (kindOf P o.op) m prev 0 && statOk P ops l (i + 1) (masks ++ [m]) (prev ++ [o])
    | .error _ => false
theorem orderOkS_eq {ops : List Oper} {o : Oper} {mask : Nat} : ∀ {l : List Ent} {j : Nat}, orderOk ops o mask l j = orderOkS ops o mask (l.map (·.o)) j
  | [], _ => rfl
  | x :: l, j => by simp only [orderOk, List.map_cons, orderOkS, orderOkS_eq (l := l)]
theorem chain_at {k : Kind} {mask : Nat} : ∀ {l : List Oper} {j : Nat}, chainOk P k mask l j = true → ∀ t o, l[t]? = some o → (isRead (kindOf P o.op) = false ∨ isEffect k = true) → mask.testBit (j + t) = true
  | [], _, _, t, o, ho, _ => by simp at ho
  | x :: l, j, h, t, o, ho, hk => by
    simp only [chainOk, Bool.and_eq_true, Bool.or_eq_true, Bool.not_eq_true'] at h
    cases t with
    | zero =>
      simp at ho; subst ho
      rcases h.1 with h1 | h1
      · rcases hk with hk | hk
        · rw [h1.1] at hk; cases hk
        · rw [h1.2] at hk; cases hk
      · exact h1
    | succ t =>
      have := chain_at (l := l) (j := j + 1) h.2 t o (by simpa using ho) hk
      rw [show j + (t + 1) = j + 1 + t by omega]; exact this
/-- What is there of the region when so many operations are done. -/
structure RegInv (P : Program) (base : Nat) (prev : List Oper) (rs : RS) (hq : AH) : Prop where
  ents : rs.ents.map (·.o) = prev
  ee : ∀ j, j ∈ rs.ee → ∃ o, prev[j]? = some o ∧ isRead (kindOf P o.op) = false
  al : ∀ p, p ∈ rs.al → ∃ o, prev[p.1]? = some o ∧ isRead (kindOf P o.op) = false
  hp : ∀ m : Nat, (∀ p, p ∈ rs.al → m.testBit p.1 = true) → withAl m rs.h rs.al = hq
  fin : finalH rs.h rs.al = hq
theorem readsOk_chain {mask : Nat} {al : List (Nat × Nat × AObj)} {h : AH} : ∀ {l : List Ent} {j : Nat}, (∀ t o, (l.map (·.o))[t]? = some o → mask.testBit (j + t) = true) → readsOk P mask al h l j = true
  | [], _, _ => rfl
  | x :: l, j, hk => by
    simp only [readsOk, Bool.and_eq_true, Bool.or_eq_true]
    refine ⟨.inl (.inr (by have := hk 0 x.o (by simp); simpa using this)), readsOk_chain fun t o ho => ?_⟩
    have := hk (t + 1) o (by simpa using ho)
    rw [show j + 1 + t = j + (t + 1) by omega]; exact this
theorem regLoop_seq {nest : Nest} {n base : Nat} {ops : List Oper} : ∀ (l : List Oper) (i : Nat) (rs : RS) (tm' : T Value) (h' hq : AH) (prev : List Oper), RegInv P base prev rs hq → prev.length = i → ops.drop i = l → statOk P ops l i rs.masks prev = true → regSeq P nest n base ops (List.range' i l.length) rs.tm hq = .ok (tm', h') →
    ∃ rs', regLoop P n base nest ops l i rs = .ok rs' ∧ rs'.tm = tm' ∧ finalH rs'.h rs'.al = h'
  | [], i, rs, tm', h', hq, prev, R, hp, hl, hs, hqq => by
    simp only [List.length_nil, List.range'_zero, regSeq] at hqq
    rw [okk] at hqq
    injection hqq with e1 e2
    exact ⟨rs, rfl, e1, R.fin.trans e2⟩
  | o :: l, i, rs, tm', h', hq, prev, R, hp, hl, hs, hqq => by
    have hi : ops[i]? = some o := by
      have := congrArg (fun x => x[0]?) hl
      simpa [List.getElem?_drop] using this
    have hl' : ops.drop (i + 1) = l := by
      have := congrArg List.tail hl
      simpa [List.tail_drop] using this
    unfold statOk at hs
    split at hs
    · rename_i m hm
      simp only [Bool.and_eq_true] at hs
      obtain ⟨⟨⟨h1, h2⟩, h3⟩, h4⟩ := hs
      rw [List.length_cons, List.range'_succ, regSeq, hi] at hqq
      simp only [bind_ok] at hqq
      obtain ⟨want, hw, ⟨v, h1'⟩, hv, tm1, ht, hqq⟩ := hqq
      simp only at ht hqq
      have hmal : ∀ p, p ∈ rs.al → m.testBit p.1 = true := fun p hpm => by
        obtain ⟨x, hx, hk⟩ := R.al p hpm
        have := chain_at h3 p.1 x hx (.inl hk)
        rw [Nat.zero_add] at this; exact this
      have hmee : ∀ j, j ∈ rs.ee → m.testBit j = true := fun j hj => by
        obtain ⟨x, hx, hk⟩ := R.ee j hj
        have := chain_at h3 j x hx (.inl hk)
        rw [Nat.zero_add] at this; exact this
      have hH : withAl m rs.h rs.al = hq := R.hp m hmal
      have grow : ∀ {x : Oper} {j : Nat} {Q : Oper → Prop}, (∃ y, prev[j]? = some y ∧ Q y) → ∃ y, (prev ++ [x])[j]? = some y ∧ Q y := by
        rintro x j Q ⟨y, hy, hQ⟩
        exact ⟨y, by rw [List.getElem?_append_left (List.getElem?_eq_some_iff.1 hy).1]; exact hy, hQ⟩
      have here : (prev ++ [o])[i]? = some o := by rw [← hp, List.getElem?_append_right (Nat.le_refl _), Nat.sub_self]; rfl
      have key : ∃ rs1, regStep P n base nest ops i o rs = .ok rs1 ∧ rs1.tm = tm1 ∧ rs1.masks = rs.masks ++ [m] ∧ RegInv P base (prev ++ [o]) rs1 h1' := by
        unfold regStep
        simp only [hm, bind, Except.bind]
        rw [if_neg (by rw [orderOkS_eq, R.ents, h1]; simp)]
        simp only [hw]
        cases want with
        | false =>
          simp only [Bool.false_eq_true, if_false] at hv
          rw [okk] at hv
          injection hv with e1 e2
          subst e1; subst e2
          simp only [Bool.not_false, if_true, ht]
          exact ⟨_, rfl, rfl, rfl, ⟨by simp [R.ents], fun j hj => grow (R.ee j hj), fun p hp => grow (R.al p hp), R.hp, R.fin⟩⟩
        | true =>
          simp only [if_true] at hv
          unfold seqOp at hv
          simp only [Bool.not_true, Bool.false_eq_true, if_false, h2]
          cases hk : kindOf P o.op with
          | read =>
            rw [hk] at hv
            simp only [bind_ok] at hv
            obtain ⟨v1, hv1, hv⟩ := hv
            rw [okk] at hv
            injection hv with e1 e2
            subst e1; subst e2
            simp only [hH, hv1]
            rw [if_neg (by
              simp only [Bool.not_eq_true', Bool.not_eq_false']
              intro hh
              have : ((rs.ee.zip rs.hh).all fun p => m.testBit p.1 || sameRead P { o, mask := m, tm := rs.tm, want := true, v := v1, kind := .read, obj := none } rs.al p.2) = true := by
                rw [List.all_eq_true]
                intro p hpz
                have := hmee p.1 (List.of_mem_zip hpz).1
                rw [this]; rfl
              first | (rw [this] at hh; cases hh) | (rw [hh] at this; cases this))]
            simp only [ht]
            exact ⟨_, rfl, rfl, rfl, ⟨by simp [R.ents], fun j hj => grow (R.ee j hj), fun p hp => grow (R.al p hp), R.hp, R.fin⟩⟩
          | alloc =>
            rw [hk] at hv
            simp only [bind_ok] at hv
            obtain ⟨⟨v1, b⟩, hv1, hv⟩ := hv
            rw [okk] at hv
            injection hv with e1 e2
            subst e1; subst e2
            simp only [hv1, ht]
            refine ⟨_, rfl, rfl, rfl, ⟨by simp [R.ents], fun j hj => grow (R.ee j hj), fun p hp' => ?_, fun m' hm' => ?_, ?_⟩⟩
            · rcases List.mem_cons.1 hp' with rfl | hp'
              · exact ⟨o, here, by rw [hk]; rfl⟩
              · exact grow (R.al p hp')
            · show (if m'.testBit i = true then putA (withAl m' rs.h rs.al) (base + i) b else _) = _
              rw [if_pos (hm' (i, base + i, b) (by simp)), R.hp m' fun p hp' => hm' p (by simp [hp'])]
            · show putA (finalH rs.h rs.al) (base + i) b = _
              rw [R.fin]
          | effect =>
            rw [hk] at hv
            simp only at hv
            have hall : (rs.ee.all fun j => m.testBit j) = true := by rw [List.all_eq_true]; exact fun j hj => hmee j hj
            have hro : ∀ al hh, readsOk P m al hh rs.ents 0 = true := fun al hh => readsOk_chain fun t x hx => by
              rw [R.ents] at hx
              exact chain_at h3 t x hx (.inr (by rw [hk]; rfl))
            have hfil : (rs.al.filter fun p => !m.testBit p.1) = [] := by
              rw [List.filter_eq_nil_iff]
              intro p hpm
              rw [hmal p hpm]; simp
            simp only [hall, Bool.not_true, Bool.false_eq_true, if_false, hH, hv, hro, ht, hfil]
            refine ⟨_, rfl, rfl, rfl, ⟨by simp [R.ents], fun j hj => ?_, (fun p hp' => by cases hp'), fun m' _ => rfl, rfl⟩⟩
            rcases List.mem_append.1 hj with hj | hj
            · exact grow (R.ee j hj)
            · rw [List.mem_singleton] at hj; subst hj
              exact ⟨o, here, by rw [hk]; rfl⟩
      obtain ⟨rs1, e1, e2, e3, e4⟩ := key
      obtain ⟨rs', g1, g2, g3⟩ := regLoop_seq (nest := nest) l (i + 1) rs1 tm' h' h1' (prev ++ [o]) e4 (by simp [hp]) hl' (by rw [e3]; exact h4) (by rw [e2]; exact hqq)
      refine ⟨rs', ?_, g2, g3⟩
      rw [regLoop]
      simp only [e1, bind, Except.bind]
      exact g1
    · cases hs
theorem regionA_seq {nest : Nest} {n : Nat} {ops : List Oper} {tm tm' : T Value} {h h' : AH} (hs : statOk P ops ops 0 [] [] = true) (hq : regSeq P nest n h.next ops (List.range ops.length) tm { h with next := h.next + ops.length } = .ok (tm', h')) :
    regionA P n nest ops tm h = .ok (tm', h') := by
  rw [List.range_eq_range'] at hq
  obtain ⟨rs', g1, g2, g3⟩ := regLoop_seq (nest := nest) (base := h.next) (n := n) ops 0 { tm, h := { h with next := h.next + ops.length }, hh := [{ h with next := h.next + ops.length }], ee := [], al := [], masks := [], ents := [] } tm' h' { h with next := h.next + ops.length } [] ⟨rfl, (fun j hj => by cases hj), (fun p hp => by cases hp), fun _ _ => rfl, rfl⟩ rfl rfl hs hq
  unfold regionA
  simp only [g1, bind, Except.bind]
  rw [g3, g2]
/-- A value that the comparison finds to be itself. -/
def vfit : Nat → Value → Bool
  | 0, _ => false
  | n + 1, v => match v with
    | .bool _ => true
    | .int _ _ => true
    | .string _ => true
    | .pointer _ => true
    | .slice _ _ _ => true
    | .map _ => true
    | .chan _ => true
    | .nilFunc => true
    | .nilIface => true
    | .iface _ x => vfit n x
    | .func _ a b => vfits n a.toList && vfits n b.toList
    | .agg x => vfits n x.toList
    | .tuple x => vfits n x.toList
    | _ => false
where
  vfits (n : Nat) : List Value → Bool
    | [] => true
    | x :: xs => vfit n x && vfits n xs
theorem vfits_eq {n : Nat} (ih : ∀ v, vfit n v = true → veq n v v = true) : ∀ l, vfit.vfits n l = true → veq.veqL n l l = true
  | [], _ => rfl
  | x :: xs, h => by
    unfold vfit.vfits at h
    simp only [Bool.and_eq_true] at h
    unfold veq.veqL
    simp only [Bool.and_eq_true]
    exact ⟨ih x h.1, vfits_eq ih xs h.2⟩
theorem vfit_eq : ∀ n v, vfit n v = true → veq n v v = true
  | 0, v, h => by unfold vfit at h; cases h
  | n + 1, v, h => by
    have ih := vfit_eq n
    have ihl := fun l => vfits_eq ih l
    cases v <;> unfold vfit at h <;> unfold veq <;> simp_all
/-- What an operation of a drawn region must stand behind: q: calls that keep the heap; last: behind what changes the heap; k: kind of the one that comes. -/
def needB (P : Program) (q : List Nat) (last : Nat) (kd : Kind) (quiet : Bool) (x : Oper) (j : Nat) : Bool :=
  match kd with
  | .read => !isRead (kindOf P x.op) && decide (j < last)
  | .alloc => !isRead (kindOf P x.op)
  | .effect => if quiet then !isRead (kindOf P x.op) || decide (j < last) else true
def chainM (P : Program) (q : List Nat) (last : Nat) (kd : Kind) (quiet : Bool) (mask : Nat) : List Oper → Nat → Bool
  | [], _ => true
  | x :: l, j => (!needB P q last kd quiet x j || mask.testBit j) && chainM P q last kd quiet mask l (j + 1)
/-- Where what changes the heap ends, behind one more operation. -/
def lastM (P : Program) (q : List Nat) (i : Nat) (o : Oper) (last : Nat) (pend : Bool) : Nat × Bool :=
  match kindOf P o.op with
  | .read => (last, pend)
  | .alloc => (i + 1, true)
  | .effect => if q.contains i then (if pend then (i + 1, o.guard.isSome) else (last, false)) else (i + 1, pend && o.guard.isSome)
/-- A region in which calls that keep the heap may stand beside reads. -/
def statOkM (P : Program) (q : List Nat) (ops : List Oper) : List Oper → Nat → List Nat → List Oper → Nat → Bool → Bool
  | [], _, _, _, _, _ => true
  | o :: l, i, masks, prev, last, pend => match maskOf masks i o.after.toList with
    | .ok m => orderOkS ops o m prev 0 && okOps P o && chainM P q last (kindOf P o.op) (q.contains i) m prev 0 && statOkM P q ops l (i + 1) (masks ++ [m]) (prev ++ [o]) (lastM P q i o last pend).1 (lastM P q i o last pend).2
    | .error _ => false
theorem chainM_at {q : List Nat} {last : Nat} {kd : Kind} {quiet : Bool} {mask : Nat} : ∀ {l : List Oper} {j : Nat}, chainM P q last kd quiet mask l j = true → ∀ t o, l[t]? = some o → needB P q last kd quiet o (j + t) = true → mask.testBit (j + t) = true
  | [], _, _, t, o, ho, _ => by simp at ho
  | x :: l, j, h, t, o, ho, hk => by
    simp only [chainM, Bool.and_eq_true, Bool.or_eq_true, Bool.not_eq_true'] at h
    cases t with
    | zero =>
      simp at ho; subst ho
      rw [Nat.add_zero] at hk ⊢
      rcases h.1 with h1 | h1
      · rw [h1] at hk; cases hk
      · exact h1
    | succ t =>
      have := chainM_at (l := l) (j := j + 1) h.2 t o (by simpa using ho) (by rw [show j + 1 + t = j + (t + 1) by omega]; exact hk)
      rw [show j + (t + 1) = j + 1 + t by omega]; exact this
/-- A region, one operation after another; the calls in q leave the heap as it is. -/
def RegM (P : Program) (nest : Nest) (q : List Nat) (n base : Nat) (ops : List Oper) : List Nat → T Value → AH → T Value → AH → Prop
  | [], tm, h, tm', h' => tm = tm' ∧ h = h'
  | i :: is, tm, h, tm', h' => ∃ o want v h1 tm1, ops[i]? = some o ∧ wantedA ops tm o = .ok want ∧ (want = true → seqOp P nest base i (evA tm) o h = .ok (v, h1) ∧ (kindOf P o.op = .read → vfit 20 v = true) ∧ (q.contains i = true → h1 = h)) ∧ (want = false → v = undef ∧ h1 = h) ∧ putT n tm o.dst v = .ok tm1 ∧ RegM P nest q n base ops is tm1 h1 tm' h'
structure RegInvM (P : Program) (base : Nat) (prev : List Oper) (last : Nat) (pend : Bool) (rs : RS) (hq : AH) : Prop where
  ents : rs.ents.map (·.o) = prev
  le : last ≤ prev.length
  ee : ∀ j, j ∈ rs.ee → ∃ o, prev[j]? = some o ∧ isRead (kindOf P o.op) = false
  al : ∀ p, p ∈ rs.al → p.1 < last ∧ ∃ o, prev[p.1]? = some o ∧ isRead (kindOf P o.op) = false
  nil : pend = false → rs.al = []
  hp : ∀ m : Nat, (∀ p, p ∈ rs.al → m.testBit p.1 = true) → withAl m rs.h rs.al = hq
  fin : finalH rs.h rs.al = hq
  hh : rs.hh.length = rs.ee.length + 1 ∧ rs.hh[rs.ee.length]? = some rs.h
  hz : ∀ (k j : Nat) (x : AH), rs.ee[k]? = some j → rs.hh[k]? = some x → last ≤ j → x = rs.h ∧ rs.al = []
  rd : ∀ (t : Nat) (e : Ent), rs.ents[t]? = some e → last ≤ t → isReadE e = true → readA P (evA e.tm) e.o hq = .ok e.v ∧ veq 20 e.v e.v = true
theorem readsOkM {mask last : Nat} {h : AH} : ∀ {l : List Ent} {j : Nat}, (∀ t o, (l.map (·.o))[t]? = some o → j + t < last → mask.testBit (j + t) = true) → (∀ (t : Nat) (e : Ent), l[t]? = some e → last ≤ j + t → isReadE e = true → readA P (evA e.tm) e.o h = .ok e.v ∧ veq 20 e.v e.v = true) → readsOk P mask [] h l j = true
  | [], _, _, _ => rfl
  | x :: l, j, hm, hk => by
    simp only [readsOk, Bool.and_eq_true, Bool.or_eq_true]
    refine ⟨?_, readsOkM (last := last) (fun t o ho hl => ?_) fun t e he hl => ?_⟩
    · by_cases hl : j < last
      · exact .inl (.inr (by have := hm 0 x.o (by simp) (by omega); simpa using this))
      · cases hr : isReadE x with
        | false => exact .inl (.inl rfl)
        | true =>
          obtain ⟨h1, h2⟩ := hk 0 x (by simp) (by omega) hr
          refine .inr ?_
          unfold sameRead
          simp only [withAl, h1]
          exact h2
    · have := hm (t + 1) o (by simpa using ho) (by omega)
      rw [show j + 1 + t = j + (t + 1) by omega]; exact this
    · exact hk (t + 1) e (by simpa using he) (by omega)
theorem zip_at {α β : Type} : ∀ {a : List α} {b : List β} {p : α × β}, p ∈ a.zip b → ∃ k : Nat, a[k]? = some p.1 ∧ b[k]? = some p.2
  | [], b, p, h => by simp at h
  | x :: a, [], p, h => by simp at h
  | x :: a, y :: b, p, h => by
    rw [List.zip_cons_cons] at h
    rcases List.mem_cons.1 h with rfl | h
    · exact ⟨0, rfl, rfl⟩
    · obtain ⟨k, h1, h2⟩ := zip_at h
      exact ⟨k + 1, by simpa using h1, by simpa using h2⟩
theorem getE_snoc {α : Type} {l : List α} {x y : α} {k : Nat} (h : (l ++ [x])[k]? = some y) : l[k]? = some y ∨ (k = l.length ∧ y = x) := by
  rcases Nat.lt_trichotomy k l.length with h1 | h1 | h1
  · rw [List.getElem?_append_left h1] at h; exact .inl h
  · subst h1; rw [List.getElem?_append_right (Nat.le_refl _), Nat.sub_self] at h; simp at h; exact .inr ⟨rfl, h.symm⟩
  · rw [List.getElem?_eq_none (by simp; omega)] at h; cases h
theorem regLoop_M {nest : Nest} {q : List Nat} {n base : Nat} {ops : List Oper} : ∀ (l : List Oper) (i : Nat) (rs : RS) (tm' : T Value) (h' hq : AH) (prev : List Oper) (last : Nat) (pend : Bool), RegInvM P base prev last pend rs hq → prev.length = i → ops.drop i = l → statOkM P q ops l i rs.masks prev last pend = true → RegM P nest q n base ops (List.range' i l.length) rs.tm hq tm' h' →
    ∃ rs', regLoop P n base nest ops l i rs = .ok rs' ∧ rs'.tm = tm' ∧ finalH rs'.h rs'.al = h'
  | [], i, rs, tm', h', hq, prev, last, pend, R, hp, hl, hs, hqq => by
    simp only [List.length_nil, List.range'_zero, RegM] at hqq
    exact ⟨rs, rfl, hqq.1, R.fin.trans hqq.2⟩
  | o :: l, i, rs, tm', h', hq, prev, last, pend, R, hp, hl, hs, hqq => by
    have hi : ops[i]? = some o := by
      have := congrArg (fun x => x[0]?) hl
      simpa [List.getElem?_drop] using this
    have hl' : ops.drop (i + 1) = l := by
      have := congrArg List.tail hl
      simpa [List.tail_drop] using this
    unfold statOkM at hs
    split at hs
    · rename_i m hm
      simp only [Bool.and_eq_true] at hs
      obtain ⟨⟨⟨h1, h2⟩, h3⟩, h4⟩ := hs
      rw [List.length_cons, List.range'_succ, RegM] at hqq
      obtain ⟨o', want, v, h1', tm1, ho, hw, hv, hu, ht, hqq⟩ := hqq
      rw [hi] at ho; injection ho with ho; subst ho
      have hlen : rs.ents.length = i := by rw [← hp, ← R.ents, List.length_map]
      have grow : ∀ {x : Oper} {j : Nat} {Q : Oper → Prop}, (∃ y, prev[j]? = some y ∧ Q y) → ∃ y, (prev ++ [x])[j]? = some y ∧ Q y := by
        rintro x j Q ⟨y, hy, hQ⟩
        exact ⟨y, by rw [List.getElem?_append_left (List.getElem?_eq_some_iff.1 hy).1]; exact hy, hQ⟩
      have here : (prev ++ [o])[i]? = some o := by rw [← hp, List.getElem?_append_right (Nat.le_refl _), Nat.sub_self]; rfl
      have bit : ∀ (t : Nat) (x : Oper), prev[t]? = some x → needB P q last (kindOf P o.op) (q.contains i) x t = true → m.testBit t = true := by
        intro t x hx hn
        have := chainM_at h3 t x hx (by rw [Nat.zero_add]; exact hn)
        rw [Nat.zero_add] at this; exact this
      have hle := R.le
      have key : ∃ rs1, regStep P n base nest ops i o rs = .ok rs1 ∧ rs1.tm = tm1 ∧ rs1.masks = rs.masks ++ [m] ∧ RegInvM P base (prev ++ [o]) (lastM P q i o last pend).1 (lastM P q i o last pend).2 rs1 h1' := by
        unfold regStep
        simp only [hm, bind, Except.bind]
        rw [if_neg (by rw [orderOkS_eq, R.ents, h1]; simp)]
        simp only [hw]
        cases want with
        | false =>
          obtain ⟨rfl, rfl⟩ := hu rfl
          simp only [Bool.not_false, if_true, ht]
          have hl2 : last ≤ (lastM P q i o last pend).1 ∧ (lastM P q i o last pend).1 ≤ i + 1 := by
            unfold lastM
            split
            · simp only; omega
            · simp only; omega
            · split
              · split <;> (simp only; omega)
              · simp only; omega
          refine ⟨_, rfl, rfl, rfl, ⟨by simp [R.ents], by simp only [List.length_append, List.length_singleton]; omega, fun j hj => grow (R.ee j hj), fun p hp => ⟨by have := (R.al p hp).1; omega, grow (R.al p hp).2⟩, fun hpn => ?_, R.hp, R.fin, R.hh, fun k j x hk hx hj => R.hz k j x hk hx (by omega), fun t e he hj hr => ?_⟩⟩
          · -- an alloc or an effect that is not wanted: what is pending stays
            cases hk : kindOf P o.op with
            | read => simp only [lastM, hk] at hpn; exact R.nil hpn
            | alloc => simp only [lastM, hk] at hpn; cases hpn
            | effect =>
              have hg : o.guard.isSome = true := by
                unfold wantedA at hw
                cases hgd : o.guard with
                | none => rw [hgd] at hw; simp only at hw; rw [okk] at hw; cases hw
                | some g => rfl
              refine R.nil ?_
              cases pend with
              | false => rfl
              | true =>
                simp only [lastM, hk, hg, if_true, Bool.and_true] at hpn
                split at hpn <;> cases hpn
          · rcases getE_snoc he with he | ⟨_, rfl⟩
            · exact R.rd t e he (by omega) hr
            · simp [isReadE] at hr
        | true =>
          obtain ⟨hv, hfit, hqt⟩ := hv rfl
          unfold seqOp at hv
          simp only [Bool.not_true, Bool.false_eq_true, if_false, h2]
          cases hk : kindOf P o.op with
          | read =>
            rw [hk] at hv
            simp only [bind_ok] at hv
            obtain ⟨v1, hv1, hv⟩ := hv
            rw [okk] at hv
            injection hv with e1 e2
            subst e1; subst e2
            have hve := vfit_eq 20 v1 (hfit hk)
            have hmal : ∀ p, p ∈ rs.al → m.testBit p.1 = true := fun p hpm => by
              obtain ⟨hlt, x, hx, hkx⟩ := R.al p hpm
              exact bit p.1 x hx (by rw [hk]; simp only [needB, hkx]; simpa using hlt)
            have hH : withAl m rs.h rs.al = hq := R.hp m hmal
            simp only [hH, hv1]
            rw [if_neg (by
              simp only [Bool.not_eq_true', Bool.not_eq_false']
              intro hh
              have : ((rs.ee.zip rs.hh).all fun p => m.testBit p.1 || sameRead P { o, mask := m, tm := rs.tm, want := true, v := v1, kind := .read, obj := none } rs.al p.2) = true := by
                rw [List.all_eq_true]
                intro p hpz
                obtain ⟨k, hk1, hk2⟩ := zip_at hpz
                rcases Nat.lt_or_ge p.1 last with hlt | hge
                · obtain ⟨x, hx, hkx⟩ := R.ee p.1 (List.mem_of_getElem? hk1)
                  rw [bit p.1 x hx (by rw [hk]; simp only [needB, hkx]; simpa using hlt)]; rfl
                · obtain ⟨hx, hal⟩ := R.hz k p.1 p.2 hk1 hk2 hge
                  have hrh : rs.h = hq := by have := R.fin; rw [hal] at this; exact this
                  rw [hx, hal, hrh]
                  unfold sameRead
                  simp only [withAl, hv1, hve, Bool.or_true]
              first | (rw [this] at hh; cases hh) | (rw [hh] at this; cases this))]
            simp only [ht]
            have hlm : lastM P q i o last pend = (last, pend) := by unfold lastM; rw [hk]
            rw [hlm]
            refine ⟨_, rfl, rfl, rfl, ⟨by simp [R.ents], by simp only [List.length_append, List.length_singleton]; omega, fun j hj => grow (R.ee j hj), fun p hp => ⟨(R.al p hp).1, grow (R.al p hp).2⟩, R.nil, R.hp, R.fin, R.hh, R.hz, fun t e he hj hr => ?_⟩⟩
            rcases getE_snoc he with he | ⟨_, rfl⟩
            · exact R.rd t e he hj hr
            · exact ⟨hv1, hve⟩
          | alloc =>
            rw [hk] at hv
            simp only [bind_ok] at hv
            obtain ⟨⟨v1, b⟩, hv1, hv⟩ := hv
            rw [okk] at hv
            injection hv with e1 e2
            subst e1; subst e2
            simp only [hv1, ht]
            have hlm : lastM P q i o last pend = (i + 1, true) := by unfold lastM; rw [hk]
            rw [hlm]
            refine ⟨_, rfl, rfl, rfl, ⟨by simp [R.ents], by simp only [List.length_append, List.length_singleton]; omega, fun j hj => grow (R.ee j hj), fun p hp' => ?_, (fun h => by cases h), fun m' hm' => ?_, ?_, R.hh, fun k j x hk' hx hj => ?_, fun t e he hj hr => ?_⟩⟩
            · rcases List.mem_cons.1 hp' with rfl | hp'
              · exact ⟨Nat.lt_succ_self _, o, here, by rw [hk]; rfl⟩
              · exact ⟨by have := (R.al p hp').1; simp only; omega, grow (R.al p hp').2⟩
            · show (if m'.testBit i = true then putA (withAl m' rs.h rs.al) (base + i) b else _) = _
              rw [if_pos (hm' (i, base + i, b) (by simp)), R.hp m' fun p hp' => hm' p (by simp [hp'])]
            · show putA (finalH rs.h rs.al) (base + i) b = _
              rw [R.fin]
            · obtain ⟨y, hy, _⟩ := R.ee j (List.mem_of_getElem? hk')
              have := (List.getElem?_eq_some_iff.1 hy).1
              simp only at hj; omega
            · rcases getE_snoc he with he | ⟨_, rfl⟩
              · have := (List.getElem?_eq_some_iff.1 he).1
                simp only at hj; omega
              · simp [isReadE] at hr
          | effect =>
            rw [hk] at hv
            simp only at hv
            have hall : (rs.ee.all fun j => m.testBit j) = true := by
              rw [List.all_eq_true]
              intro j hj
              obtain ⟨x, hx, hkx⟩ := R.ee j hj
              refine bit j x hx ?_
              rw [hk]; simp only [needB, hkx]; cases q.contains i <;> rfl
            have hmal : ∀ p, p ∈ rs.al → m.testBit p.1 = true := fun p hpm => by
              obtain ⟨_, x, hx, hkx⟩ := R.al p hpm
              refine bit p.1 x hx ?_
              rw [hk]; simp only [needB, hkx]; cases q.contains i <;> rfl
            have hH : withAl m rs.h rs.al = hq := R.hp m hmal
            have hfil : (rs.al.filter fun p => !m.testBit p.1) = [] := by
              rw [List.filter_eq_nil_iff]
              intro p hpm
              rw [hmal p hpm]; simp
            have hee : ∀ j, j ∈ rs.ee ++ [i] → ∃ o1, (prev ++ [o])[j]? = some o1 ∧ isRead (kindOf P o1.op) = false := by
              intro j hj
              rcases List.mem_append.1 hj with hj | hj
              · exact grow (R.ee j hj)
              · rw [List.mem_singleton] at hj; subst hj
                exact ⟨o, here, by rw [hk]; rfl⟩
            have hhh : (rs.hh ++ [h1']).length = (rs.ee ++ [i]).length + 1 ∧ (rs.hh ++ [h1'])[(rs.ee ++ [i]).length]? = some h1' := by
              have := R.hh.1
              refine ⟨by simp [this], ?_⟩
              rw [List.length_append, List.length_singleton, ← this, List.getElem?_append_right (Nat.le_refl _), Nat.sub_self]; rfl
            cases hqi : q.contains i with
            | true =>
              obtain rfl := hqt hqi
              have hro : readsOk P m [] h1' rs.ents 0 = true := readsOkM (last := last) (fun t x hx hlt => by
                rw [R.ents] at hx
                rw [Nat.zero_add] at hlt ⊢
                exact bit t x hx (by rw [hk, hqi]; simp only [needB, if_true]; rw [decide_eq_true hlt, Bool.or_true])) (fun t e he hl hr => R.rd t e he (by omega) hr)
              simp only [hall, Bool.not_true, Bool.false_eq_true, if_false, hH, hv, hfil, hro, ht]
              refine ⟨_, rfl, rfl, rfl, ?_⟩
              cases pend with
              | true =>
                have hlm : (lastM P q i o last true).1 = i + 1 := by unfold lastM; rw [hk]; simp only [hqi, if_true]
                rw [hlm]
                refine ⟨by simp [R.ents], by simp only [List.length_append, List.length_singleton]; omega, hee, (fun p hp' => by cases hp'), fun _ => rfl, fun m' _ => rfl, rfl, hhh, fun k j x hk' hx hj => ?_, fun t e he hj hr => ?_⟩
                · obtain ⟨y, hy, _⟩ := hee j (List.mem_of_getElem? hk')
                  have := (List.getElem?_eq_some_iff.1 hy).1
                  simp only [List.length_append, List.length_singleton] at this hj; omega
                · have := (List.getElem?_eq_some_iff.1 he).1
                  simp only [List.length_append, List.length_singleton, hlen] at this hj; omega
              | false =>
                have hlm : lastM P q i o last false = (last, false) := by unfold lastM; rw [hk]; simp only [hqi, if_true, Bool.false_eq_true, if_false]
                rw [hlm]
                have hal := R.nil rfl
                have hrh : rs.h = h1' := by have := R.fin; rw [hal] at this; exact this
                refine ⟨by simp [R.ents], by simp only [List.length_append, List.length_singleton]; omega, hee, (fun p hp' => by cases hp'), fun _ => rfl, fun m' _ => rfl, rfl, hhh, fun k j x hk' hx hj => ⟨?_, rfl⟩, fun t e he hj hr => ?_⟩
                · simp only at hk' hx ⊢
                  rcases getE_snoc hk' with hk' | ⟨e1, e2⟩
                  · have hkl := (List.getElem?_eq_some_iff.1 hk').1
                    rw [List.getElem?_append_left (by rw [R.hh.1]; omega)] at hx
                    rw [(R.hz k j x hk' hx hj).1, hrh]
                  · subst e1
                    rw [List.getElem?_append_left (by rw [R.hh.1]; omega), R.hh.2] at hx
                    injection hx with hx; rw [← hx, hrh]
                · rcases getE_snoc he with he | ⟨_, rfl⟩
                  · exact R.rd t e he hj hr
                  · simp [isReadE] at hr
            | false =>
              have hro : readsOk P m [] h1' rs.ents 0 = true := readsOkM (last := i) (fun t x hx hlt => by
                rw [R.ents] at hx
                rw [Nat.zero_add] at hlt ⊢
                exact bit t x hx (by rw [hk, hqi]; simp only [needB, Bool.false_eq_true, if_false])) (fun t e he hl hr => by
                  have := (List.getElem?_eq_some_iff.1 he).1
                  omega)
              simp only [hall, Bool.not_true, Bool.false_eq_true, if_false, hH, hv, hfil, hro, ht]
              have hlm : (lastM P q i o last pend).1 = i + 1 := by unfold lastM; rw [hk]; simp only [hqi, Bool.false_eq_true, if_false]
              rw [hlm]
              refine ⟨_, rfl, rfl, rfl, by simp [R.ents], by simp only [List.length_append, List.length_singleton]; omega, hee, (fun p hp' => by cases hp'), fun _ => rfl, fun m' _ => rfl, rfl, hhh, fun k j x hk' hx hj => ?_, fun t e he hj hr => ?_⟩
              · obtain ⟨y, hy, _⟩ := hee j (List.mem_of_getElem? hk')
                have := (List.getElem?_eq_some_iff.1 hy).1
                simp only [List.length_append, List.length_singleton] at this hj; omega
              · have := (List.getElem?_eq_some_iff.1 he).1
                simp only [List.length_append, List.length_singleton, hlen] at this hj; omega
      obtain ⟨rs1, e1, e2, e3, e4⟩ := key
      obtain ⟨rs', g1, g2, g3⟩ := regLoop_M (nest := nest) l (i + 1) rs1 tm' h' h1' (prev ++ [o]) _ _ e4 (by simp [hp]) hl' (by rw [e3]; exact h4) (by rw [e2]; exact hqq)
      refine ⟨rs', ?_, g2, g3⟩
      rw [regLoop]
      simp only [e1, bind, Except.bind]
      exact g1
    · cases hs
theorem regionA_M {nest : Nest} {q : List Nat} {n : Nat} {ops : List Oper} {tm tm' : T Value} {h h' : AH} (hs : statOkM P q ops ops 0 [] [] 0 false = true) (hq : RegM P nest q n h.next ops (List.range ops.length) tm { h with next := h.next + ops.length } tm' h') :
    regionA P n nest ops tm h = .ok (tm', h') := by
  rw [List.range_eq_range'] at hq
  obtain ⟨rs', g1, g2, g3⟩ := regLoop_M (nest := nest) (base := h.next) (n := n) ops 0 { tm, h := { h with next := h.next + ops.length }, hh := [{ h with next := h.next + ops.length }], ee := [], al := [], masks := [], ents := [] } tm' h' { h with next := h.next + ops.length } [] 0 false ⟨rfl, Nat.le_refl _, (fun j hj => by cases hj), (fun p hp => by cases hp), fun _ => rfl, fun _ _ => rfl, rfl, ⟨rfl, rfl⟩, (fun k j x hk => by simp at hk), (fun t e he => by simp at he)⟩ rfl rfl hs hq
  unfold regionA
  simp only [g1, bind, Except.bind]
  rw [g3, g2]
/-- A call that is known. -/
structure KC where
  f : FuncId
  args : List Value
  h : AH
  v : Value
  h' : AH
/-- The same call gives the same. -/
def consM (g : FuncId) (args : List Value) (h : AH) (v : Value) (h' : AH) : List KC → Prop
  | [] => True
  | e :: l => (e.f = g → args = e.args → h = e.h → v = e.v ∧ h' = e.h') ∧ consM g args h v h' l
/-- Is an operation a read that is wanted? -/
def runGM (P : Program) (q : List Nat) (base : Nat) : Nat → AS → M AS
  | 0, s => .ok s
  | m + 1, s => match s.fr.todo with
    | .inRegion ops (i :: rest) :: k => match ops.toList[i]? with
      | none => no "runGM"
      | some o => do
        let want ← wantedA ops.toList s.fr.tm o
        let (v, h) ← (if want then seqOp P noNest base i (evA s.fr.tm) o s.hp else .ok (undef, s.hp) : M (Value × AH))
        if want && (q.contains i || (isRead (kindOf P o.op) && !vfit 20 v)) then no "runGM: fit" else
        let tm ← putT s.fr.n s.fr.tm o.dst v
        runGM P q base m ⟨{ s.fr with tm, todo := .inRegion ops rest :: k }, s.cs, h⟩
    | _ => no "runGM"
def walkM (P : Program) (kS : Sc → AS → W) (q : List Nat) (base : Nat) : Nat → List KC → Sc → AS → W
  | 0, _, _, _ => .fail "fuel"
  | u + 1, c, .steps n k, s => match runGM P q base n s with
    | .ok s' => walkM P kS q base u c k s'
    | .error e => .fail e
  | u + 1, c, .bit d a b, s => match s.fr.tm.get d with
    | some (.bool x) => .ite x (walkM P kS q base u c a ⟨{ s.fr with tm := s.fr.tm.set d (.bool true) }, s.cs, s.hp⟩) (walkM P kS q base u c b ⟨{ s.fr with tm := s.fr.tm.set d (.bool false) }, s.cs, s.hp⟩)
    | _ => .fail "bit"
  | u + 1, c, .op k, s => match s.fr.todo with
    | .inRegion ops (i :: rest) :: ki => match ops.toList[i]? with
      | some o => match wantedA ops.toList s.fr.tm o, opW P (evA s.fr.tm) o s.hp, kindOf P o.op with
        | .ok true, .ok (_, _), .alloc => .fail "op: alloc"
        | .ok true, .ok (p, kt), kd => if q.contains i then .fail "op: quiet" else .need p (walkK (fun v h k => if isRead kd && !vfit 20 v then .fail "op: fit" else match putT s.fr.n s.fr.tm o.dst v with
            | .ok tm => walkM P kS q base u c k ⟨{ s.fr with tm, todo := .inRegion ops rest :: ki }, s.cs, h⟩
            | .error e => .fail e) kt k)
        | .ok _, .error e, _ => .fail e
        | _, _, _ => .fail "op: wanted"
      | none => .fail "op"
    | _ => .fail "op: no region"
  | u + 1, c, .call kt k, s => match s.fr.todo with
    | .inRegion ops (i :: rest) :: ki => match ops.toList[i]? with
      | some o => match wantedA ops.toList s.fr.tm o, effA P (evA s.fr.tm) o s.hp, kindOf P o.op with
        | .ok true, .ok (.enter g args, h1), .effect => if !kt.clean then .fail "call: conditions" else .call g args h1 kt (walkK (fun v h k => .need (consM g args h1 v h c ∧ (if q.contains i = true then h = s.hp else True)) (match putT s.fr.n s.fr.tm o.dst v with
            | .ok tm => walkM P kS q base u (⟨g, args, h1, v, h⟩ :: c) k ⟨{ s.fr with tm, todo := .inRegion ops rest :: ki }, s.cs, h⟩
            | .error e => .fail e)) kt k)
        | _, _, _ => .fail "call: no call"
      | none => .fail "call"
    | _ => .fail "call: no region"
  | _ + 1, _, .regM _ k, s => match s.fr.todo with
    | .inRegion _ [] :: ki => kS k ⟨{ s.fr with todo := ki }, s.cs, s.hp⟩
    | _ => .fail "regM: not the end"
  | _ + 1, _, _, _ => .fail "in a drawn region"
/-- Steps inside a drawn region. -/
def runG (P : Program) (base : Nat) : Nat → AS → M AS
  | 0, s => .ok s
  | m + 1, s => match s.fr.todo with
    | .inRegion ops (i :: rest) :: k => match ops.toList[i]? with
      | none => no "runG"
      | some o => do
        let want ← wantedA ops.toList s.fr.tm o
        let (v, h) ← (if want then seqOp P noNest base i (evA s.fr.tm) o s.hp else .ok (undef, s.hp) : M (Value × AH))
        let tm ← putT s.fr.n s.fr.tm o.dst v
        runG P base m ⟨{ s.fr with tm, todo := .inRegion ops rest :: k }, s.cs, h⟩
    | _ => no "runG"
def walkR (P : Program) (kS : Sc → AS → W) (base : Nat) : Nat → Bool → Sc → AS → W
  | 0, _, _, _ => .fail "fuel"
  | u + 1, c, .steps n k, s => match runG P base n s with
    | .ok s' => walkR P kS base u c k s'
    | .error e => .fail e
  | u + 1, c, .bit d a b, s => match s.fr.tm.get d with
    | some (.bool x) => .ite x (walkR P kS base u c a ⟨{ s.fr with tm := s.fr.tm.set d (.bool true) }, s.cs, s.hp⟩) (walkR P kS base u c b ⟨{ s.fr with tm := s.fr.tm.set d (.bool false) }, s.cs, s.hp⟩)
    | _ => .fail "bit"
  | u + 1, c, .op k, s => match s.fr.todo with
    | .inRegion ops (i :: rest) :: ki => match ops.toList[i]? with
      | some o => match wantedA ops.toList s.fr.tm o, opW P (evA s.fr.tm) o s.hp, kindOf P o.op with
        | .ok true, .ok (_, _), .alloc => .fail "op: alloc"
        | .ok true, .ok (p, kt), _ => .need p (walkK (fun v h k => match putT s.fr.n s.fr.tm o.dst v with
            | .ok tm => walkR P kS base u c k ⟨{ s.fr with tm, todo := .inRegion ops rest :: ki }, s.cs, h⟩
            | .error e => .fail e) kt k)
        | .ok _, .error e, _ => .fail e
        | _, _, _ => .fail "op: wanted"
      | none => .fail "op"
    | _ => .fail "op: no region"
  | u + 1, true, .call kt k, s => match s.fr.todo with
    | .inRegion ops (i :: rest) :: ki => match ops.toList[i]? with
      | some o => match wantedA ops.toList s.fr.tm o, effA P (evA s.fr.tm) o s.hp, kindOf P o.op with
        | .ok true, .ok (.enter g args, h1), .effect => if !kt.clean then .fail "call: conditions" else .call g args h1 kt (walkK (fun v h k => match putT s.fr.n s.fr.tm o.dst v with
            | .ok tm => walkR P kS base u false k ⟨{ s.fr with tm, todo := .inRegion ops rest :: ki }, s.cs, h⟩
            | .error e => .fail e) kt k)
        | _, _, _ => .fail "call: no call"
      | none => .fail "call"
    | _ => .fail "call: no region"
  | _ + 1, _, .reg k, s => match s.fr.todo with
    | .inRegion _ [] :: ki => kS k ⟨{ s.fr with todo := ki }, s.cs, s.hp⟩
    | _ => .fail "reg: not the end"
  | _ + 1, _, _, _ => .fail "in a drawn region"
def walkS (P : Program) (nest : Nest) (nb : Nat) : Nat → Sc → AS → W
  | 0, _, _ => .fail "fuel"
  | u + 1, .steps n k, s => match runN' P nest n s with
    | .ok s' => walkS P nest nb u k s'
    | .error e => .fail e
  | u + 1, .bit d a b, s => match s.fr.tm.get d with
    | some (.bool x) => .ite x (walkS P nest nb u a ⟨{ s.fr with tm := s.fr.tm.set d (.bool true) }, s.cs, s.hp⟩) (walkS P nest nb u b ⟨{ s.fr with tm := s.fr.tm.set d (.bool false) }, s.cs, s.hp⟩)
    | _ => .fail "bit"
  | u + 1, .op k, s => match s.fr.mode, s.fr.todo with
    | .run, .inRegion ops (i :: rest) :: _ => match ops.toList[i]? with
      | some o => match wantedA ops.toList s.fr.tm o, opW P (evA s.fr.tm) o s.hp with
        | .ok true, .ok (p, kt) => .need p (walkK (fun v h k => match s.fr.finish v with
            | .ok f2 => walkS P nest nb u k ⟨f2, s.cs, h⟩
            | .error e => .fail e) kt k)
        | .ok _, .error e => .fail e
        | _, _ => .fail "op: wanted"
      | none => .fail "op"
    | _, _ => .fail "op: no region"
  | u + 1, .call kt k, s => match s.fr.mode, s.fr.todo with
    | .run, .inRegion ops (i :: rest) :: _ => match ops.toList[i]? with
      | some o => match wantedA ops.toList s.fr.tm o, execA P (evA s.fr.tm) o s.hp with
        | .ok true, .ok (.enter g args, h1) => .call g args h1 kt (walkK (fun v h k => match s.fr.finish v with
            | .ok f2 => walkS P nest nb u k ⟨f2, s.cs, h⟩
            | .error e => .fail e) kt k)
        | _, _ => .fail "call: no call"
      | none => .fail "call"
    | _, _ => .fail "call: no region"
  | _ + 1, .both _ _, _ => .fail "both"
  | u + 1, .reg k, s => match s.fr.mode, s.fr.todo with
    | .run, .code (.region _ ops true) :: ki =>
      if statOk P ops.toList ops.toList 0 [] [] then walkR P (walkS P nest nb u) s.hp.next u true k ⟨{ s.fr with todo := .inRegion ops (List.range ops.toList.length) :: ki }, s.cs, { s.hp with next := s.hp.next + ops.toList.length }⟩
      else .fail "a region in no order"
    | _, _ => .fail "reg"
  | u + 1, .regM q k, s => match s.fr.mode, s.fr.todo with
    | .run, .code (.region _ ops true) :: ki =>
      if statOkM P q ops.toList ops.toList 0 [] [] 0 false then walkM P (walkS P nest nb u) q s.hp.next u [] k ⟨{ s.fr with todo := .inRegion ops (List.range ops.toList.length) :: ki }, s.cs, { s.hp with next := s.hp.next + ops.toList.length }⟩
      else .fail "a region in no order"
    | _, _ => .fail "regM"
  | _ + 1, .stop keep none, s => .stop keep (canonS keep s)
  | _ + 1, .stop keep (some rn), s => match renS P.globals.size nb rn keep s with
    | some (s', p) => .need p (.stop keep s')
    | none => .fail "ren"
  | _ + 1, .done rn, s => match stepA P nest s with
    | .ok (.done f v h) => match rn with
      | none => .done f v h
      | some rn => if rn.good P.globals.size nb then match renV (rn.tf nb) 50 v, renH (rn.tf nb) h rn.bl with
        | some v', some (t, p) => .need p (.done f v' ⟨t, rn.N⟩)
        | _, _ => .fail "done: ren"
        else .fail "done: names"
    | .ok _ => .fail "not done"
    | .error e => .fail e
/-- The same, or its garbage forgotten. -/
def QF (P : Program) (nb : Nat) (D : Value → AH → Prop) (v : Value) (h : AH) : Prop :=
  D v h ∨ ∃ v' h' σ, Emb P σ h' h ∧ nb ≤ h'.next ∧ (∀ r, r < nb → σ r = r) ∧ RV σ h'.next true v' v ∧ D v' h'
theorem CallSpec.ofQF (hη : OneCells η) {f : FuncId} {args : List Value} {h : AH} {D : Value → AH → Prop} (c : CallSpec η P B f args h (QF P h.next D)) : CallSpec η P B f args h D := by
  intro ρ xs w cs l p
  obtain ⟨v, h1, ρ1, fr', w', x, q1, q, hv, r⟩ := c ρ xs w cs l p
  rcases q1 with q1 | ⟨v', h', σ, E, hn, hσ, hrv, hq⟩
  · exact ⟨v, h1, ρ1, fr', w', x, q1, q, hv, r⟩
  · have hP' := E.pre hη (p.post q)
    have hold : ∀ r, r < h.next → cut σ h'.next ρ1 r = ρ r := by
      intro r hr
      unfold cut
      rw [if_pos (by omega), hσ r hr]
      exact q.old r hr
    refine ⟨v', h', cut σ h'.next ρ1, fr', w', x, hq, ⟨?_, hold, hP'.fresh, hn, hP'.hr, q.fr, ?_, ?_⟩, hrv.dn hη cut_dn hv, r⟩
    · intro r t hr
      rcases Nat.lt_or_ge r h.next with hl | hl
      · rw [hold r hl]; exact hr
      · rw [p.fresh r hl] at hr; cases hr
    · intro b hb
      exact q.own b (E.own' hb)
    · rintro b hb
      obtain ⟨r1, a1, a1', d1, n1, k1, _, k2, k3⟩ := E.nam hb
      exact q.inn b ⟨_, _, _, _, k2, k3⟩
theorem bind_get {α : Type} {t : T α} {d : Nat} {v : α} (h : t.get d = some v) : ∀ i, (t.set d v).get i = t.get i := by
  intro i
  rw [T.get_set]
  by_cases hi : i = d
  · subst hi; rw [if_pos rfl, h]
  · rw [if_neg hi]
theorem Run.anyTm {fn : FuncId} {h0 h : AH} {f : AF} {cs : List AF} {Q : Value → AH → Prop} {tm : T Value} (hg : ∀ t, tm.get t = f.tm.get t) (r : Run η P B fn h0 ⟨{ f with tm := tm }, cs, h⟩ Q) : Run η P B fn h0 ⟨f, cs, h⟩ Q := by
  intro ρ0 w0 ρ fr cs' w cs0 p0 p R
  have F := R.fr
  refine r ρ0 w0 ρ fr cs' w cs0 p0 p ⟨⟨F.fn, ⟨F.tm.1, fun t ht => (hg t).trans (F.tm.2.1 t ht), fun t ht => ?_⟩, F.todo, F.defers, F.mode, F.kind, F.round⟩, R.cs, R.pre⟩
  show VR η ρ ((tm.get t).getD undef) _
  rw [hg t]
  exact F.tm.2.2 t ht
theorem walkK_sat {fn : FuncId} {K : List Nat → AS → Prop} {D : Value → AH → Prop} {f : Value → AH → Sc → W} : ∀ {kt : KT} {k : Sc} {v : Value} {h : AH}, (walkK f kt k).holds η P B fn K D → kt.sat v h → ∃ k', (f v h k').holds η P B fn K D
  | .ret v0 h0, k, v, h, hw, hs => by obtain ⟨rfl, rfl⟩ := hs; unfold walkK at hw; exact ⟨k, hw⟩
  | .ite b x y, k, v, h, hw, hs => by
    cases k with
    | both a c =>
      unfold walkK at hw
      rcases hs with ⟨h1, h2⟩ | ⟨h1, h2⟩
      · exact walkK_sat (hw.1 h1) h2
      · exact walkK_sat (hw.2 h1) h2
    | _ => exact absurd hw (by unfold walkK; exact fun h => h)
  | .know p x, k, v, h, hw, hs => by unfold walkK at hw; exact walkK_sat (hw hs.1) hs.2
theorem Run.doneQ (hη : OneCells η) {nest : Nest} (hreg : RegOk η P B nest) {fn : FuncId} {h0 h' : AH} {s : AS} {v : Value} {f : FuncId} {Q : Value → AH → Prop} (hs : stepA P nest s = .ok (.done f v h')) (hf : f = fn) (q : Q v h') : Run η P B fn h0 s Q := by
  subst hf; exact Run.done hη hreg hs q
theorem Goes.read {ρ : Operand → Value} {o : Oper} {h h' : AH} {v : Value} (hg : Goes P ρ o h v h') (hk : kindOf P o.op = .read) : readA P ρ o h = .ok v ∧ h' = h := by
  have key : ∀ {r : AN × AH}, execA P ρ o h = .ok r → ∃ v1, readA P ρ o h = .ok v1 ∧ r = (.value v1, h) := by
    intro r hr
    unfold execA at hr
    rw [ite_no] at hr
    rw [hk] at hr
    simp only [bind_ok] at hr
    obtain ⟨_, v1, h1, h2⟩ := hr
    rw [okk] at h2
    exact ⟨v1, h1, h2.symm⟩
  rcases hg with hx | ⟨hx, _⟩
  · obtain ⟨v1, h1, h2⟩ := key hx
    injection h2 with e1 e2
    injection e1 with e1
    subst e1; subst e2
    exact ⟨h1, rfl⟩
  · obtain ⟨v1, h1, h2⟩ := key hx
    injection h2 with e1 e2
    cases e1
/-- Inside a drawn region: it goes on to its end, and from there. -/
def RegX (η : Nat → Value) (P : Program) (B : Nat) (fn : FuncId) (h0 : AH) (base : Nat) (nest : Nest) (s : AS) (Q : Value → AH → Prop) : Prop :=
  ∃ ops is k, s.fr.todo = .inRegion ops is :: k ∧ ∃ tm' h', regSeq P nest s.fr.n base ops.toList is s.fr.tm s.hp = .ok (tm', h') ∧ Run η P B fn h0 ⟨{ s.fr with tm := tm', todo := k }, s.cs, h'⟩ Q
def RegGo (η : Nat → Value) (P : Program) (B : Nat) (fn : FuncId) (h0 : AH) (base : Nat) (c : Bool) (s : AS) (Q : Value → AH → Prop) : Prop :=
  match c with
  | true => ∃ nest, NestOk η P B nest ∧ RegX η P B fn h0 base nest s Q
  | false => ∀ nest, RegX η P B fn h0 base nest s Q
theorem RegGo.map {fn : FuncId} {h0 : AH} {base : Nat} {c : Bool} {s s' : AS} {Q : Value → AH → Prop} (k : ∀ nest, RegX η P B fn h0 base nest s' Q → RegX η P B fn h0 base nest s Q) (g : RegGo η P B fn h0 base c s' Q) : RegGo η P B fn h0 base c s Q := by
  cases c with
  | true => obtain ⟨nest, hn, g⟩ := g; exact ⟨nest, hn, k nest g⟩
  | false => exact fun nest => k nest (g nest)
theorem seqOp_nest {nest : Nest} {base i : Nat} {ρ : Operand → Value} {o : Oper} {h : AH} {r : Value × AH} (hs : seqOp P noNest base i ρ o h = .ok r) : seqOp P nest base i ρ o h = .ok r := by
  unfold seqOp at hs ⊢
  split at hs
  · exact hs
  · exact hs
  · unfold effRun at hs ⊢
    simp only [bind_ok] at hs ⊢
    obtain ⟨⟨a, h1⟩, he, hs⟩ := hs
    refine ⟨(a, h1), he, ?_⟩
    cases a <;> first | exact hs | (simp [noNest, no] at hs)
theorem runG_go {fn : FuncId} {h0 : AH} {base : Nat} {nest : Nest} {Q : Value → AH → Prop} : ∀ (n : Nat) {s s' : AS}, runG P base n s = .ok s' → RegX η P B fn h0 base nest s' Q → RegX η P B fn h0 base nest s Q
  | 0, s, s', h, g => by rw [runG, okk] at h; subst h; exact g
  | n + 1, s, s', h, g => by
    unfold runG at h
    split at h
    · rename_i ops i rest k ht
      split at h
      · simp [no] at h
      · rename_i o ho
        simp only [bind_ok] at h
        obtain ⟨want, hw, ⟨v, h1⟩, hv, tm, htm, h⟩ := h
        simp only at htm h
        obtain ⟨ops', is', k', ht', tm', h', hq, hr⟩ := runG_go n h g
        simp only at ht'
        injection ht' with e1 e2
        injection e1 with e3 e4
        subst e2; subst e3; subst e4
        refine ⟨ops, i :: rest, k, ht, tm', h', ?_, hr⟩
        rw [regSeq, ho]
        simp only [bind_ok]
        refine ⟨want, hw, (v, h1), ?_, tm, htm, hq⟩
        cases want with
        | false => exact hv
        | true => exact seqOp_nest hv
    · simp [no] at h
theorem regSeq_get {nest : Nest} {n base : Nat} {ops : List Oper} {t1 t2 : T Value} (he : ∀ i, t1.get i = t2.get i) : ∀ {is : List Nat} {h : AH} {u1 : T Value} {h' : AH}, regSeq P nest n base ops is t1 h = .ok (u1, h') → ∃ u2, regSeq P nest n base ops is t2 h = .ok (u2, h') ∧ ∀ i, u1.get i = u2.get i := by
  intro is
  induction is generalizing t1 t2 with
  | nil => intro h u1 h' hh; rw [regSeq, okk] at hh; injection hh with e1 e2; subst e1; subst e2; exact ⟨t2, rfl, he⟩
  | cons i is ih =>
    intro h u1 h' hh
    rw [regSeq] at hh
    split at hh
    · simp [no] at hh
    · rename_i o ho
      simp only [bind_ok] at hh
      obtain ⟨want, hw, ⟨v, h1⟩, hv, tm, htm, hh⟩ := hh
      simp only at htm hh
      have hev : evA t1 = evA t2 := by
        funext x
        cases x <;> simp only [evA, he]
      have hwn : wantedA ops t2 o = .ok want := by
        rw [← hw]; unfold wantedA
        split
        · rfl
        · split
          · rfl
          · rw [he]
      unfold putT at htm
      split at htm
      · rename_i d hd
        split at htm
        · rename_i hlt
          rw [okk] at htm; subst htm
          obtain ⟨u2, g1, g2⟩ := ih (t2 := t2.set d v) (fun j => by rw [T.get_set, T.get_set, he]) hh
          refine ⟨u2, ?_, g2⟩
          rw [regSeq, ho]
          simp only [bind_ok]
          refine ⟨want, hwn, (v, h1), ?_, t2.set d v, ?_, g1⟩
          · rw [← hev]; exact hv
          · unfold putT; rw [hd]; simp only; rw [if_pos hlt]
        · simp [no] at htm
      · rename_i hd
        rw [okk] at htm; subst htm
        obtain ⟨u2, g1, g2⟩ := ih (t2 := t2) he hh
        refine ⟨u2, ?_, g2⟩
        rw [regSeq, ho]
        simp only [bind_ok]
        refine ⟨want, hwn, (v, h1), ?_, t2, ?_, g1⟩
        · rw [← hev]; exact hv
        · unfold putT; rw [hd]
theorem RegX.tm {fn : FuncId} {h0 : AH} {base : Nat} {nest : Nest} {s : AS} {Q : Value → AH → Prop} {tm : T Value} (hg : ∀ t, tm.get t = s.fr.tm.get t) (g : RegX η P B fn h0 base nest ⟨{ s.fr with tm := tm }, s.cs, s.hp⟩ Q) : RegX η P B fn h0 base nest s Q := by
  obtain ⟨ops, is, k, ht, tm', h', hq, hr⟩ := g
  simp only at ht hq
  obtain ⟨u2, g1, g2⟩ := regSeq_get (t2 := s.fr.tm) hg hq
  exact ⟨ops, is, k, ht, u2, h', g1, Run.anyTm (f := { s.fr with tm := u2, todo := k }) (tm := tm') g2 hr⟩
/-- What a contract's words come to. -/
noncomputable def KT.get : KT → Value × AH
  | .ret v h => (v, h)
  | .ite b x y => if b = true then x.get else y.get
  | .know _ x => x.get
theorem KT.get_of : ∀ {k : KT} {v : Value} {h : AH}, k.sat v h → (v, h) = k.get
  | .ret v0 h0, v, h, hs => by obtain ⟨rfl, rfl⟩ := hs; rfl
  | .ite b x y, v, h, hs => by
    unfold KT.get
    rcases hs with ⟨h1, h2⟩ | ⟨h1, h2⟩
    · rw [if_pos h1]; exact KT.get_of h2
    · rw [if_neg (by rw [h1]; simp)]; exact KT.get_of h2
  | .know p x, v, h, hs => by unfold KT.get; exact KT.get_of hs.2
open Classical in
/-- Calls by one contract. -/
noncomputable def nest1 (g : FuncId) (args : List Value) (h : AH) (r : Value × AH) : Nest := fun f a x => if f = g ∧ a = args ∧ x = h then .ok r else no "another call"
theorem nest1_ok {g : FuncId} {args : List Value} {h : AH} {kt : KT} (c : CallSpec η P B g args h kt.sat) : NestOk η P B (nest1 g args h kt.get) := by
  refine NestOk.of fun f a x v h' hn => ?_
  unfold nest1 at hn
  by_cases hc : f = g ∧ a = args ∧ x = h
  · rw [if_pos hc, okk] at hn
    obtain ⟨rfl, rfl, rfl⟩ := hc
    refine c.mono fun v1 h1 hs => ?_
    have := (KT.get_of hs).trans hn
    injection this with e1 e2
    exact ⟨e1, e2⟩
  · rw [if_neg hc] at hn; simp [no] at hn
theorem kt_sat {fn : FuncId} {K : List Nat → AS → Prop} {D : Value → AH → Prop} {f : Value → AH → Sc → W} : ∀ {kt : KT} {k : Sc}, (walkK f kt k).holds η P B fn K D → (∃ v h, kt.sat v h) → ∃ k', (f kt.get.1 kt.get.2 k').holds η P B fn K D := by
  rintro kt k hw ⟨v, h, hs⟩
  obtain ⟨k', hh⟩ := walkK_sat hw hs
  have := KT.get_of hs
  exact ⟨k', by rw [← this]; exact hh⟩
open Classical in
/-- Calls that are known. -/
noncomputable def nestL : List KC → Nest
  | [] => noNest
  | e :: l => fun f a x => if f = e.f ∧ a = e.args ∧ x = e.h then .ok (e.v, e.h') else nestL l f a x
def KC.okay (η : Nat → Value) (P : Program) (B : Nat) (e : KC) : Prop := CallSpec η P B e.f e.args e.h fun v h' => v = e.v ∧ h' = e.h'
theorem nestL_spec : ∀ {l : List KC}, (∀ e, e ∈ l → e.okay η P B) → ∀ {f : FuncId} {a : List Value} {x : AH} {v : Value} {h' : AH}, nestL l f a x = .ok (v, h') → CallSpec η P B f a x fun v1 h1 => v1 = v ∧ h1 = h'
  | [], _, f, a, x, v, h', hn => by simp [nestL, noNest, no] at hn
  | e :: l, hl, f, a, x, v, h', hn => by
    unfold nestL at hn
    by_cases hc : f = e.f ∧ a = e.args ∧ x = e.h
    · rw [if_pos hc, okk] at hn
      obtain ⟨rfl, rfl, rfl⟩ := hc
      injection hn with e1 e2
      subst e1; subst e2
      exact hl e (by simp)
    · rw [if_neg hc] at hn
      exact nestL_spec (fun e he => hl e (by simp [he])) hn
theorem nestL_ok {l : List KC} (hl : ∀ e, e ∈ l → e.okay η P B) : NestOk η P B (nestL l) := NestOk.of fun _ _ _ _ _ hn => nestL_spec hl hn
/-- The same calls give the same. -/
def Cons (l : List KC) : Prop := ∀ e e', e ∈ l → e' ∈ l → e.f = e'.f → e.args = e'.args → e.h = e'.h → e.v = e'.v ∧ e.h' = e'.h'
theorem nestL_get : ∀ {l : List KC}, Cons l → ∀ e, e ∈ l → nestL l e.f e.args e.h = .ok (e.v, e.h')
  | [], _, e, he => by cases he
  | x :: l, hc, e, he => by
    unfold nestL
    by_cases hk : e.f = x.f ∧ e.args = x.args ∧ e.h = x.h
    · obtain ⟨h1, h2⟩ := hc e x he (by simp) hk.1 hk.2.1 hk.2.2
      rw [if_pos hk, h1, h2]
    · rw [if_neg hk]
      rcases List.mem_cons.1 he with rfl | he
      · exact absurd ⟨rfl, rfl, rfl⟩ hk
      · exact nestL_get (fun a b ha hb => hc a b (by simp [ha]) (by simp [hb])) e he
theorem consM_all {g : FuncId} {args : List Value} {h : AH} {v : Value} {h' : AH} : ∀ {l : List KC}, consM g args h v h' l → ∀ e, e ∈ l → e.f = g → args = e.args → h = e.h → v = e.v ∧ h' = e.h'
  | [], _, e, he => by cases he
  | x :: l, hx, e, he => by
    rcases List.mem_cons.1 he with rfl | he
    · exact hx.1
    · exact consM_all hx.2 e he
theorem cons_cons {e : KC} {l : List KC} (hl : Cons l) (h : consM e.f e.args e.h e.v e.h' l) : Cons (e :: l) := by
  intro a b ha hb hf hg hh
  have hc := consM_all h
  rcases List.mem_cons.1 ha with h1 | h1 <;> rcases List.mem_cons.1 hb with h2 | h2
  · rw [h1, h2]; exact ⟨rfl, rfl⟩
  · subst h1; exact hc b h2 hf.symm hg hh
  · subst h2; obtain ⟨q1, q2⟩ := hc a h1 hf hg.symm hh.symm; exact ⟨q1.symm, q2.symm⟩
  · exact hl a b h1 h2 hf hg hh
/-- Inside such a region. -/
def RegXM (η : Nat → Value) (P : Program) (B : Nat) (fn : FuncId) (h0 : AH) (q : List Nat) (base : Nat) (nest : Nest) (s : AS) (Q : Value → AH → Prop) : Prop :=
  ∃ ops is k, s.fr.todo = .inRegion ops is :: k ∧ ∃ tm' h', RegM P nest q s.fr.n base ops.toList is s.fr.tm s.hp tm' h' ∧ Run η P B fn h0 ⟨{ s.fr with tm := tm', todo := k }, s.cs, h'⟩ Q
def RegGoM (η : Nat → Value) (P : Program) (B : Nat) (fn : FuncId) (h0 : AH) (q : List Nat) (base : Nat) (c : List KC) (s : AS) (Q : Value → AH → Prop) : Prop :=
  Cons c → (∀ e, e ∈ c → e.okay η P B) → ∃ L, (∀ e, e ∈ c → e ∈ L) ∧ Cons L ∧ (∀ e, e ∈ L → e.okay η P B) ∧ RegXM η P B fn h0 q base (nestL L) s Q
theorem RegM.get {nest : Nest} {q : List Nat} {n base : Nat} {ops : List Oper} : ∀ {is : List Nat} {t1 t2 u1 : T Value} {h h' : AH}, (∀ i, t1.get i = t2.get i) → RegM P nest q n base ops is t1 h u1 h' → ∃ u2, RegM P nest q n base ops is t2 h u2 h' ∧ ∀ i, u1.get i = u2.get i := by
  intro is
  induction is with
  | nil => intro t1 t2 u1 h h' he hh; rw [RegM] at hh; obtain ⟨rfl, rfl⟩ := hh; exact ⟨t2, ⟨rfl, rfl⟩, he⟩
  | cons i is ih =>
    intro t1 t2 u1 h h' he hh
    rw [RegM] at hh
    obtain ⟨o, want, v, h1, tm1, ho, hw, hv, hu, htm, hh⟩ := hh
    have hev : evA t1 = evA t2 := by
      funext x
      cases x <;> simp only [evA, he]
    have hwn : wantedA ops t2 o = .ok want := by
      rw [← hw]; unfold wantedA
      split
      · rfl
      · split
        · rfl
        · rw [he]
    unfold putT at htm
    split at htm
    · rename_i d hd
      split at htm
      · rename_i hlt
        rw [okk] at htm; subst htm
        obtain ⟨u2, g1, g2⟩ := ih (t2 := t2.set d v) (fun j => by rw [T.get_set, T.get_set, he]) hh
        refine ⟨u2, ?_, g2⟩
        rw [RegM]
        refine ⟨o, want, v, h1, t2.set d v, ho, hwn, by rw [← hev]; exact hv, hu, ?_, g1⟩
        unfold putT; rw [hd]; simp only; rw [if_pos hlt]
      · simp [no] at htm
    · rename_i hd
      rw [okk] at htm; subst htm
      obtain ⟨u2, g1, g2⟩ := ih (t2 := t2) he hh
      refine ⟨u2, ?_, g2⟩
      rw [RegM]
      refine ⟨o, want, v, h1, t2, ho, hwn, by rw [← hev]; exact hv, hu, ?_, g1⟩
      unfold putT; rw [hd]
theorem RegXM.tm {fn : FuncId} {h0 : AH} {q : List Nat} {base : Nat} {nest : Nest} {s : AS} {Q : Value → AH → Prop} {tm : T Value} (hg : ∀ t, tm.get t = s.fr.tm.get t) (g : RegXM η P B fn h0 q base nest ⟨{ s.fr with tm := tm }, s.cs, s.hp⟩ Q) : RegXM η P B fn h0 q base nest s Q := by
  obtain ⟨ops, is, k, ht, tm', h', hq, hr⟩ := g
  simp only at ht hq
  obtain ⟨u2, g1, g2⟩ := RegM.get (t2 := s.fr.tm) hg hq
  exact ⟨ops, is, k, ht, u2, h', g1, Run.anyTm (f := { s.fr with tm := u2, todo := k }) (tm := tm') g2 hr⟩
theorem RegGoM.map {fn : FuncId} {h0 : AH} {q : List Nat} {base : Nat} {c : List KC} {s s' : AS} {Q : Value → AH → Prop} (g : RegGoM η P B fn h0 q base c s' Q) (k : ∀ nest, RegXM η P B fn h0 q base nest s' Q → RegXM η P B fn h0 q base nest s Q) : RegGoM η P B fn h0 q base c s Q := by
  intro hc ho
  obtain ⟨L, h1, h2, h3, h4⟩ := g hc ho
  exact ⟨L, h1, h2, h3, k _ h4⟩
theorem runGM_go {fn : FuncId} {h0 : AH} {base : Nat} {nest : Nest} {Q : Value → AH → Prop} {q : List Nat} : ∀ (n : Nat) {s s' : AS}, runGM P q base n s = .ok s' → RegXM η P B fn h0 q base nest s' Q → RegXM η P B fn h0 q base nest s Q
  | 0, s, s', h, g => by rw [runGM, okk] at h; subst h; exact g
  | n + 1, s, s', h, g => by
    unfold runGM at h
    split at h
    · rename_i ops i rest k ht
      split at h
      · simp [no] at h
      · rename_i o ho
        simp only [bind_ok] at h
        obtain ⟨want, hw, ⟨v, h1⟩, hv, h⟩ := h
        simp only at h
        split at h
        · simp [no] at h
        · rename_i hfit
          simp only [bind_ok] at h
          obtain ⟨tm, htm, h⟩ := h
          obtain ⟨ops', is', k', ht', tm', h', hqq, hr⟩ := runGM_go n h g
          simp only at ht'
          injection ht' with e1 e2
          injection e1 with e3 e4
          subst e2; subst e3; subst e4
          refine ⟨ops, i :: rest, k, ht, tm', h', ?_, hr⟩
          rw [RegM]
          refine ⟨o, want, v, h1, tm, ho, hw, fun hw1 => ?_, fun hw1 => ?_, htm, hqq⟩
          · subst hw1
            simp only [if_true] at hv
            simp only [Bool.true_and, Bool.or_eq_true, Bool.and_eq_true, not_or, not_and, Bool.not_eq_true', Bool.not_eq_false] at hfit
            refine ⟨seqOp_nest hv, fun hk => ?_, fun hc => absurd hc hfit.1⟩
            exact hfit.2 (by rw [hk]; rfl)
          · subst hw1
            simp only [Bool.false_eq_true, if_false] at hv
            rw [okk] at hv; injection hv with e1 e2; exact ⟨e1.symm, e2.symm⟩
    · simp [no] at h
theorem walkM_ok {fn : FuncId} {h0 : AH} {K : List Nat → AS → Prop} {D : Value → AH → Prop} {Q : Value → AH → Prop} {kS : Sc → AS → W} {q : List Nat} {base : Nat}
    (hS : ∀ sc s, (kS sc s).holds η P B fn K D → Run η P B fn h0 s Q) : ∀ (u : Nat) (c : List KC) (sc : Sc) (s : AS), (walkM P kS q base u c sc s).holds η P B fn K D → RegGoM η P B fn h0 q base c s Q := by
  intro u
  induction u with
  | zero => intro c sc s h; exact absurd h (by unfold walkM; exact fun h => h)
  | succ u ih =>
    intro c sc s h
    cases sc with
    | steps n k =>
      unfold walkM at h
      split at h
      · rename_i s' hs
        have g := ih c k s' h
        exact g.map fun nest x => runGM_go n hs x
      · exact absurd h fun h => h
    | bit d a b =>
      unfold walkM at h
      split at h
      · rename_i x hx
        cases x with
        | true =>
          have g := ih c a _ (h.1 rfl)
          exact g.map fun nest x => RegXM.tm (bind_get hx) x
        | false =>
          have g := ih c b _ (h.2 rfl)
          exact g.map fun nest x => RegXM.tm (bind_get hx) x
      · exact absurd h fun h => h
    | op k =>
      unfold walkM at h
      split at h
      · rename_i ops i rest ki ht
        split at h
        · rename_i o ho
          split at h
          · exact absurd h fun h => h
          · rename_i p kt hw hop hk
            split at h
            · exact absurd h fun h => h
            · rename_i hqi
              obtain ⟨hp, h⟩ := h
              have h := h hp
              obtain ⟨v1, h1, hs, hgo⟩ := opW_ok hop hp
              obtain ⟨k', hh⟩ := walkK_sat h hs
              split at hh
              · exact absurd hh fun h => h
              · rename_i hf
                split at hh
                · rename_i tm htm
                  have g := ih c k' _ hh
                  refine g.map fun nest x => ?_
                  obtain ⟨ops', is', k2, ht', tm', h', hq, hrun⟩ := x
                  simp only at ht'
                  injection ht' with e1 e2
                  injection e1 with e3 e4
                  subst e2; subst e3; subst e4
                  refine ⟨ops, i :: rest, ki, ht, tm', h', ?_, hrun⟩
                  rw [RegM]
                  refine ⟨o, true, v1, h1, tm, ho, hw, fun _ => ⟨?_, fun hkr => ?_, fun hc => absurd hc hqi⟩, (fun hx => by cases hx), htm, hq⟩
                  · unfold seqOp
                    cases hkk : kindOf P o.op with
                    | read =>
                      obtain ⟨hr, e⟩ := hgo.read hkk
                      rw [e]
                      simp only [hr, bind, Except.bind]
                    | alloc => exact absurd hkk hk
                    | effect =>
                      have hx : ∀ {r : AN × AH}, execA P (evA s.fr.tm) o s.hp = .ok r → effA P (evA s.fr.tm) o s.hp = .ok r := by
                        intro r hr
                        unfold execA at hr
                        rw [ite_no, hkk] at hr
                        exact hr.2
                      unfold effRun
                      rcases hgo with hg | ⟨hg, e⟩
                      · simp only [hx hg, bind, Except.bind]
                      · rw [e]; simp only [hx hg, bind, Except.bind]
                  · simp only [hkr, isRead, Bool.true_and, Bool.not_eq_true', Bool.not_eq_false] at hf
                    exact hf
                · exact absurd hh fun h => h
          · exact absurd h fun h => h
          · exact absurd h fun h => h
        · exact absurd h fun h => h
      · exact absurd h fun h => h
    | call kt k =>
      unfold walkM at h
      split at h
      · rename_i ops i rest ki ht
        split at h
        · rename_i o ho
          split at h
          · rename_i g args h1 hw hx hk
            split at h
            · exact absurd h fun h => h
            · rename_i hcl
              obtain ⟨hc, h⟩ := h
              obtain ⟨k', ⟨⟨q1, q2⟩, hh⟩⟩ := kt_sat h (KT.some_sat (by simpa using hcl))
              have hh := hh ⟨q1, q2⟩
              split at hh
              · rename_i tm htm
                intro hcs hoks
                have hnew : (⟨g, args, h1, kt.get.1, kt.get.2⟩ : KC).okay η P B := hc.mono fun v1 h2 hs => by
                  have := KT.get_of hs
                  rw [← this]; exact ⟨rfl, rfl⟩
                obtain ⟨L, m1, m2, m3, ops', is', k2, ht', tm', h', hq, hrun⟩ := ih (⟨g, args, h1, kt.get.1, kt.get.2⟩ :: c) k' _ hh (cons_cons hcs q1) (fun e he => by
                  rcases List.mem_cons.1 he with rfl | he
                  · exact hnew
                  · exact hoks e he)
                simp only at ht'
                injection ht' with e1 e2
                injection e1 with e3 e4
                subst e2; subst e3; subst e4
                refine ⟨L, fun e he => m1 e (by simp [he]), m2, m3, ops, i :: rest, ki, ht, tm', h', ?_, hrun⟩
                rw [RegM]
                refine ⟨o, true, kt.get.1, kt.get.2, tm, ho, hw, fun _ => ⟨?_, (fun hkr => by rw [hk] at hkr; cases hkr), fun hc => ?_⟩, (fun hx => by cases hx), htm, hq⟩
                · unfold seqOp
                  rw [hk]
                  simp only
                  unfold effRun
                  simp only [hx, bind, Except.bind]
                  exact nestL_get m2 ⟨g, args, h1, kt.get.1, kt.get.2⟩ (m1 _ (by simp))
                · rw [if_pos hc] at q2; exact q2
              · exact absurd hh fun h => h
          · exact absurd h fun h => h
        · exact absurd h fun h => h
      · exact absurd h fun h => h
    | regM q' k =>
      unfold walkM at h
      split at h
      · rename_i ops ki ht
        intro hcs hoks
        exact ⟨c, fun e he => he, hcs, hoks, ops, [], ki, ht, s.fr.tm, s.hp, ⟨rfl, rfl⟩, hS k _ h⟩
      · exact absurd h fun h => h
    | reg k => exact absurd h (by unfold walkM; exact fun h => h)
    | both a b => exact absurd h (by unfold walkM; exact fun h => h)
    | stop a b => exact absurd h (by unfold walkM; exact fun h => h)
    | done a => exact absurd h (by unfold walkM; exact fun h => h)
theorem walkR_ok {fn : FuncId} {h0 : AH} {K : List Nat → AS → Prop} {D : Value → AH → Prop} {Q : Value → AH → Prop} {kS : Sc → AS → W} {base : Nat}
    (hS : ∀ sc s, (kS sc s).holds η P B fn K D → Run η P B fn h0 s Q) : ∀ (u : Nat) (c : Bool) (sc : Sc) (s : AS), (walkR P kS base u c sc s).holds η P B fn K D → RegGo η P B fn h0 base c s Q := by
  intro u
  induction u with
  | zero => intro c sc s h; exact absurd h (by unfold walkR; exact fun h => h)
  | succ u ih =>
    intro c sc s h
    cases sc with
    | steps n k =>
      unfold walkR at h
      split at h
      · rename_i s' hs
        exact (ih c k s' h).map fun nest x => runG_go n hs x
      · exact absurd h fun h => h
    | bit d a b =>
      unfold walkR at h
      split at h
      · rename_i x hx
        cases x with
        | true => exact (ih c a _ (h.1 rfl)).map fun nest x => RegX.tm (bind_get hx) x
        | false => exact (ih c b _ (h.2 rfl)).map fun nest x => RegX.tm (bind_get hx) x
      · exact absurd h fun h => h
    | op k =>
      unfold walkR at h
      split at h
      · rename_i ops i rest ki ht
        split at h
        · rename_i o ho
          split at h
          · exact absurd h fun h => h
          · rename_i p kt hw hop hk
            obtain ⟨hp, h⟩ := h
            have h := h hp
            obtain ⟨v1, h1, hs, hgo⟩ := opW_ok hop hp
            obtain ⟨k', hh⟩ := walkK_sat h hs
            split at hh
            · rename_i tm htm
              refine (ih c k' _ hh).map fun nest x => ?_
              obtain ⟨ops', is', k2, ht', tm', h', hq, hrun⟩ := x
              simp only at ht'
              injection ht' with e1 e2
              injection e1 with e3 e4
              subst e2; subst e3; subst e4
              refine ⟨ops, i :: rest, ki, ht, tm', h', ?_, hrun⟩
              rw [regSeq, ho]
              simp only [bind_ok]
              refine ⟨true, hw, (v1, h1), ?_, tm, htm, hq⟩
              simp only [if_true]
              unfold seqOp
              cases hkk : kindOf P o.op with
              | read =>
                obtain ⟨hr, e⟩ := hgo.read hkk
                rw [e]
                simp only [hr, bind, Except.bind]
              | alloc => exact absurd hkk hk
              | effect =>
                have hx : ∀ {r : AN × AH}, execA P (evA s.fr.tm) o s.hp = .ok r → effA P (evA s.fr.tm) o s.hp = .ok r := by
                  intro r hr
                  unfold execA at hr
                  rw [ite_no, hkk] at hr
                  exact hr.2
                unfold effRun
                rcases hgo with hg | ⟨hg, e⟩
                · simp only [hx hg, bind, Except.bind]
                · rw [e]; simp only [hx hg, bind, Except.bind]
            · exact absurd hh fun h => h
          · exact absurd h fun h => h
          · exact absurd h fun h => h
        · exact absurd h fun h => h
      · exact absurd h fun h => h
    | call kt k =>
      cases c with
      | false => exact absurd h (by unfold walkR; exact fun h => h)
      | true =>
        unfold walkR at h
        split at h
        · rename_i ops i rest ki ht
          split at h
          · rename_i o ho
            split at h
            · rename_i g args h1 hw hx hk
              split at h
              · exact absurd h fun h => h
              · rename_i hcl
                obtain ⟨hc, h⟩ := h
                obtain ⟨k', hh⟩ := kt_sat h (KT.some_sat (by simpa using hcl))
                split at hh
                · rename_i tm htm
                  refine ⟨nest1 g args h1 kt.get, nest1_ok hc, ?_⟩
                  obtain ⟨ops', is', k2, ht', tm', h', hq, hrun⟩ := ih false k' _ hh (nest1 g args h1 kt.get)
                  simp only at ht'
                  injection ht' with e1 e2
                  injection e1 with e3 e4
                  subst e2; subst e3; subst e4
                  refine ⟨ops, i :: rest, ki, ht, tm', h', ?_, hrun⟩
                  rw [regSeq, ho]
                  simp only [bind_ok]
                  refine ⟨true, hw, kt.get, ?_, tm, htm, hq⟩
                  simp only [if_true]
                  unfold seqOp
                  rw [hk]
                  simp only
                  unfold effRun
                  simp only [hx, bind, Except.bind]
                  unfold nest1
                  rw [if_pos ⟨rfl, rfl, rfl⟩]
                · exact absurd hh fun h => h
            · exact absurd h fun h => h
          · exact absurd h fun h => h
        · exact absurd h fun h => h
    | reg k =>
      unfold walkR at h
      split at h
      · rename_i ops ki ht
        have x : ∀ nest, RegX η P B fn h0 base nest s Q := fun nest => ⟨ops, [], ki, ht, s.fr.tm, s.hp, rfl, hS k _ h⟩
        cases c with
        | true => exact ⟨noNest, noNest_ok, x noNest⟩
        | false => exact x
      · exact absurd h fun h => h
    | both a b => exact absurd h (by unfold walkR; exact fun h => h)
    | stop a b => exact absurd h (by unfold walkR; exact fun h => h)
    | done a => exact absurd h (by unfold walkR; exact fun h => h)
    | regM q a => exact absurd h (by unfold walkR; exact fun h => h)
/-- THE WALK IS SOUND. -/
theorem walk_ok (hη : OneCells η) (hmix : P.follows .mixedOrders = true) {nest : Nest} (hreg : RegOk η P B nest) {fn : FuncId} {h0 : AH} {K : List Nat → AS → Prop} {D : Value → AH → Prop}
    (hK : ∀ keep s, K keep s → RunD η P B fn h0 keep s (QF P h0.next D)) : ∀ (u : Nat) (sc : Sc) (s : AS), (∀ t, s.fr.n ≤ t → s.fr.tm.get t = none) → (walkS P nest h0.next u sc s).holds η P B fn K D → Run η P B fn h0 s (QF P h0.next D) := by
  intro u
  induction u with
  | zero => intro sc s _ h; exact absurd h (by unfold walkS; exact fun h => h)
  | succ u ih =>
    intro sc s hi h
    have hi' : ∀ (s' : AS), (∀ (ρ0 : Env) (w0 : World) (ρ : Env) (fr : Frame) (cs : List Frame) (w : World) (cs0 : List Frame), Pre η P ρ0 B h0 w0 → Post η ρ0 B h0 w0 ρ s'.hp w → SR η P ρ B s' fr cs w → (∀ t, s'.fr.n ≤ t → s'.fr.tm.get t = none)) := by
      intro s' ρ0 w0 ρ fr cs w cs0 p0 p R
      exact R.fr.tm.2.1
    -- a run may assume what every state has
    have auto : ∀ {s' : AS} {Q : Value → AH → Prop}, ((∀ t, s'.fr.n ≤ t → s'.fr.tm.get t = none) → Run η P B fn h0 s' Q) → Run η P B fn h0 s' Q := by
      intro s' Q k ρ0 w0 ρ fr cs w cs0 p0 p R
      exact k (hi' s' ρ0 w0 ρ fr cs w cs0 p0 p R) ρ0 w0 ρ fr cs w cs0 p0 p R
    cases sc with
    | steps n k =>
      unfold walkS at h
      split at h
      · rename_i s' hs
        exact Run.steps hη hreg n hs (auto fun hi2 => ih k s' hi2 h)
      · exact absurd h fun h => h
    | bit d a b =>
      unfold walkS at h
      split at h
      · rename_i x hx
        cases x with
        | true => exact Run.anyTm (bind_get hx) (auto fun hi2 => ih a _ hi2 (h.1 rfl))
        | false => exact Run.anyTm (bind_get hx) (auto fun hi2 => ih b _ hi2 (h.2 rfl))
      · exact absurd h fun h => h
    | op k =>
      unfold walkS at h
      split at h
      · rename_i ops i rest rk hm ht
        split at h
        · rename_i o ho
          split at h
          · rename_i p kt hw hop
            obtain ⟨hp, h⟩ := h
            have h := h hp
            obtain ⟨v, h', hsat, hgo⟩ := opW_ok hop hp
            obtain ⟨k', hh⟩ := walkK_sat h hsat
            split at hh
            · rename_i f2 hf
              obtain ⟨f, cs, hpp⟩ := s
              simp only at hm ht hw hf hgo hh
              have hs : stepA P nest ⟨f, cs, hpp⟩ = .ok (.next ⟨f2, cs, h'⟩) := by
                rcases hgo with hx | ⟨hx, rfl⟩ <;>
                · unfold stepA
                  simp only [hm, ht, ho, hw, hx, afterA, hf, bind, Except.bind, if_true]
              exact .step hη hreg hs (auto fun hi2 => ih k' _ hi2 hh)
            · exact absurd hh fun h => h
          · exact absurd h fun h => h
          · exact absurd h fun h => h
        · exact absurd h fun h => h
      · exact absurd h fun h => h
    | call kt k =>
      unfold walkS at h
      split at h
      · rename_i ops i rest rk hm ht
        split at h
        · rename_i o ho
          split at h
          · rename_i g args h1 hw hx
            obtain ⟨hc, h⟩ := h
            refine Run.call hη hm ht ho hw hx hc (fun v h' hsat => ?_)
            obtain ⟨k', hh⟩ := walkK_sat h hsat
            split at hh
            · rename_i f2 hf
              exact ⟨f2, hf, auto fun hi2 => ih k' _ hi2 hh⟩
            · exact absurd hh fun h => h
          · exact absurd h fun h => h
        · exact absurd h fun h => h
      · exact absurd h fun h => h
    | both a b => exact absurd h (by unfold walkS; exact fun h => h)
    | reg k =>
      unfold walkS at h
      split at h
      · rename_i id ops ki hm ht
        split at h
        · rename_i hst
          obtain ⟨nest2, hn2, ops', is', k', ht', tm', h', hq, hrun⟩ := walkR_ok (Q := QF P h0.next D) (base := s.hp.next) (fun sc s hh => auto fun hi2 => ih sc s hi2 hh) u true k _ h
          simp only at ht'
          injection ht' with e1 e2
          injection e1 with e3 e4
          subst e2; subst e3; subst e4
          obtain ⟨f, cs, hpp⟩ := s
          simp only at hm ht hq hrun hst
          have hs : stepA P nest2 ⟨f, cs, hpp⟩ = .ok (.next ⟨{ f with tm := tm', todo := ki }, cs, h'⟩) := by
            unfold stepA
            simp only [hm, ht, Bool.not_true, Bool.false_eq_true, if_false, regionA_seq hst hq, bind, Except.bind]
          exact .step hη (regionA_ok hη hmix hn2) hs hrun
        · exact absurd h fun h => h
      · exact absurd h fun h => h
    | regM q k =>
      unfold walkS at h
      split at h
      · rename_i id ops ki hm ht
        split at h
        · rename_i hst
          obtain ⟨L, _, _, hL, ops', is', k', ht', tm', h', hq, hrun⟩ := walkM_ok (Q := QF P h0.next D) (q := q) (base := s.hp.next) (fun sc s hh => auto fun hi2 => ih sc s hi2 hh) u [] k _ h (fun _ _ h => by cases h) (fun _ h => by cases h)
          simp only at ht'
          injection ht' with e1 e2
          injection e1 with e3 e4
          subst e2; subst e3; subst e4
          obtain ⟨f, cs, hpp⟩ := s
          simp only at hm ht hq hrun hst hL
          have hs : stepA P (nestL L) ⟨f, cs, hpp⟩ = .ok (.next ⟨{ f with tm := tm', todo := ki }, cs, h'⟩) := by
            unfold stepA
            simp only [hm, ht, Bool.not_true, Bool.false_eq_true, if_false, regionA_M hst hq, bind, Except.bind]
          exact .step hη (regionA_ok hη hmix (nestL_ok hL)) hs hrun
        · exact absurd h fun h => h
      · exact absurd h fun h => h
    | stop keep rn =>
      cases rn with
      | none =>
        unfold walkS at h
        have hd := hK _ _ h
        refine hd s.fr.tm hi (fun t ht => ?_)
        show inT s.fr.tm t = inT (canonT keep s.fr.tm s.fr.n) t
        unfold inT
        rw [canonT_get]
        by_cases hlt : t < s.fr.n
        · rw [if_pos hlt, if_pos ht]; rfl
        · rw [if_neg hlt, hi t (by omega)]
      | some rn =>
        unfold walkS at h
        split at h
        · rename_i s' p hr
          obtain ⟨hp, h⟩ := h
          exact RunD.renS hη hr hp (hK _ _ (h hp))
        · exact absurd h fun h => h
    | done rn =>
      unfold walkS at h
      split at h
      · rename_i f v h' hs
        cases rn with
        | none =>
          obtain ⟨hf, hd⟩ := h
          exact Run.doneQ hη hreg hs hf (.inl hd)
        | some rn =>
          simp only at h
          split at h
          · rename_i hg
            split at h
            · rename_i v' t p hv hh
              obtain ⟨hp, h⟩ := h
              obtain ⟨hf, hd⟩ := h hp
              have hgd := hg
              simp only [Rn.good, Bool.and_eq_true, decide_eq_true_eq] at hgd
              refine Run.doneQ hη hreg hs hf (.inr ⟨v', ⟨t, rn.N⟩, rn.sg h0.next, ren_emb hg hh hp, hgd.1.1.1.1.2, fun r hr => by unfold Rn.sg; rw [if_pos hr], renV_ok (rn.tf_ok hg) 50 hv, hd⟩)
            · exact absurd h fun h => h
          · exact absurd h fun h => h
      · exact absurd h fun h => h
      · exact absurd h fun h => h
end Go.Ev

namespace Go.Ev
set_option linter.unusedVariables false
set_option linter.unusedSimpArgs false
theorem rep_one (v : Value) : ∀ n, rep [v] n = List.replicate n v
  | 0 => rfl
  | n + 1 => by rw [rep, rep_one v n, List.replicate_succ]; rfl
theorem bytesV_len (l : List UInt8) : (bytesV l).length = l.length := by unfold bytesV; rw [List.length_map]
theorem bytesV_one (l : List UInt8) : (bytesV l).all oneC = true := by
  rw [List.all_eq_true]; intro v hv; unfold bytesV at hv; obtain ⟨b, _, rfl⟩ := List.mem_map.1 hv; rfl
theorem bytesV_plain (l : List UInt8) : NoNames (bytesV l) := by
  intro v hv; unfold bytesV at hv; obtain ⟨b, _, rfl⟩ := List.mem_map.1 hv; rfl
theorem splice_all {c vs : List Value} (h : vs.length = c.length) : splice c 0 vs = vs := by
  unfold splice
  rw [List.take_zero, List.nil_append, Nat.zero_add, h, List.drop_length, List.append_nil]
theorem byte_back (b : UInt8) : UInt8.ofNat ((b.toNat : Int)).toNat = b := by rw [Int.toNat_natCast]; exact UInt8.ofNat_toNat
theorem bytesOf_bytesV : ∀ l : List UInt8, bytesOf (bytesV l) = .ok l
  | [] => rfl
  | b :: l => by
    show bytesOf (.int .u8 b.toNat :: bytesV l) = _
    unfold bytesOf
    rw [bytesOf_bytesV l]
    show Except.ok (UInt8.ofNat ((b.toNat : Int)).toNat :: l) = _
    rw [byte_back]
theorem map_byteOf : ∀ l : List UInt8, (bytesV l).map byteOf = l
  | [] => rfl
  | b :: l => by
    show UInt8.ofNat ((b.toNat : Int)).toNat :: (bytesV l).map byteOf = _
    rw [map_byteOf l, byte_back]
theorem bytesIn_all (l : List UInt8) : bytesIn (bytesV l) 0 l.length = l := by
  unfold bytesIn
  rw [List.drop_zero, List.take_of_length_le (by rw [bytesV_len]; exact Nat.le_refl _), map_byteOf]
theorem take_bytesV (l : List UInt8) : List.take l.length (List.drop 0 (bytesV l)) = bytesV l := by
  rw [List.drop_zero, List.take_of_length_le (by rw [bytesV_len]; exact Nat.le_refl _)]
theorem byteAt_get {l : List UInt8} {i : Nat} (h : i < l.length) : byteAt l (i : Int) = l[i].toNat := by
  unfold byteAt; rw [Int.toNat_natCast, List.getElem?_eq_getElem h]; rfl
end Go.Ev

namespace Go.Ev
set_option linter.unusedVariables false
set_option linter.unusedSimpArgs false
open Go Go.Proofs Go.RowKit Go.Sort
variable {η : Nat → Value} {P : Program} {B : Nat}
/-- A tree of conditions alone, decided. -/
def W.pureB (fn : FuncId) (p : Value → Bool) : W → Bool
  | .ite b x y => if b then x.pureB fn p else y.pureB fn p
  | .done f v _ => decide (f = fn) && p v
  | _ => false
theorem W.pureB_ok {fn : FuncId} {K : List Nat → AS → Prop} {p : Value → Bool} : ∀ {t : W}, t.pureB fn p = true → t.holds η P B fn K fun v _ => p v = true
  | .ite b x y, h => by
    simp only [W.pureB] at h
    refine ⟨fun hb => ?_, fun hb => ?_⟩
    · rw [hb, if_pos rfl] at h; exact W.pureB_ok h
    · rw [hb] at h; exact W.pureB_ok h
  | .done f v h', h => by
    simp only [W.pureB, Bool.and_eq_true, decide_eq_true_eq] at h
    exact h
  | .need .., h | .know .., h | .call .., h | .stop .., h | .fail .., h => by simp [W.pureB] at h
theorem forall_u8 {p : UInt8 → Bool} (h : (List.range 256).all (fun k => p (UInt8.ofNat k)) = true) (c : UInt8) : p c = true := by
  have := List.all_eq_true.1 h c.toNat (List.mem_range.2 c.toNat_lt)
  rw [UInt8.ofNat_toNat] at this
  exact this
theorem u8_of {n : Int} (h0 : 0 ≤ n) (h1 : n ≤ 255) : ∃ c : UInt8, n = (c.toNat : Int) ∧ UInt8.ofNat n.toNat = c := by
  refine ⟨UInt8.ofNat n.toNat, ?_, rfl⟩
  rw [UInt8.toNat_ofNat']
  omega
theorem byteAt_range (s : List UInt8) (i : Int) : 0 ≤ byteAt s i ∧ byteAt s i ≤ 255 := by
  unfold byteAt
  have := ((s[i.toNat]?).getD 0).toNat_lt
  omega
theorem CallSpec.conv {f : FuncId} {args : List Value} {h : AH} {k k' : KT} (c : CallSpec η P B f args h k.sat) (e : k = k') : CallSpec η P B f args h k'.sat := e ▸ c
/-- A call whose value is known and bare leaves any heap as it was. -/
theorem CallSpec.bare (hη : OneCells η) {f : FuncId} {args : List Value} {v : Value} {N : Nat} (hN : P.globals.size < N) (ha : ∀ σ M, L2 (RV σ M true) args args) (hv : ∀ σ M, RV σ M false v v) (hw : ∀ σ M, RV σ M true v v) (c : CallSpec η P B f args (heapN N) fun v' _ => v' = v) (h : AH) : CallSpec η P B f args h (KT.ret v h).sat := by
  refine CallSpec.pure hη hN ha hv ?_ h
  refine c.forget hη ?_
  rintro v' h1 rfl hn
  exact ⟨fun r => r, _, heapN N, ⟨rfl, rfl⟩, emb_nil hN fun _ _ => rfl, Nat.le_refl _, fun _ _ => rfl, hw _ _⟩
theorem l2_bare {σ : Nat → Nat} {N : Nat} {w : Bool} : ∀ {l : List Value}, (∀ v ∈ l, RV σ N w v v) → L2 (RV σ N w) l l
  | [], _ => .nil
  | v :: l, h => .cons (h v (by simp)) (l2_bare fun x hx => h x (by simp [hx]))
/-- The heap with a row of cells in a new block. -/
def withRow (h : AH) (ty : TypeId) (c : List Value) (p : Bool) : AH := ⟨h.objs.set h.next (.cells ty c p 2), h.next + 1⟩
theorem CallSpec.fresh (hη : OneCells η) {f : FuncId} {args : List Value} {N : Nat} {mk : Nat → Value} {ty : TypeId} {c : List Value} {p : Bool} (hN : P.globals.size < N) (ha : ∀ σ M, L2 (RV σ M true) args args)
    (hv : ∀ (σ : Nat → Nat) (M r : Nat), r < M → RV σ M false (mk r) (mk (σ r))) (hc : ∀ σ M, ∀ v ∈ c, RV σ M false v v) (k : CallSpec η P B f args (heapN N) fun v h => v = mk N ∧ h = withRow (heapN N) ty c p) (h : AH) :
    CallSpec η P B f args h fun v h1 => v = mk h.next ∧ h1 = withRow h ty c p := by
  refine k.frame (σ := fun r => r) hη (emb_nil hN fun _ _ => rfl) (ha _ _) ?_
  rintro v hs' ⟨rfl, rfl⟩ _
  have hsg : sg (fun r => r) N h.next N = h.next := by unfold sg; rw [if_neg (Nat.lt_irrefl _), Nat.sub_self]; rfl
  refine ⟨mk h.next, withRow h ty c p, ⟨rfl, rfl⟩, ?_, ⟨?_, fun r a hr => ?_⟩⟩
  · have := hv (sg (fun r => r) (heapN N).next h.next) (N + 1) N (Nat.lt_succ_self _)
    rw [show (heapN N).next = N from rfl, hsg] at this
    exact this
  · show h.next + 1 = h.next + (N + 1 - N); omega
  · unfold withRow at hr
    simp only [T.get_set] at hr
    by_cases e : r = h.next
    · rw [if_pos e] at hr
      injection hr with hr
      subst hr
      refine .inl ⟨N, .cells ty c p 2, Nat.lt_succ_self _, by rw [show (heapN N).next = N from rfl, hsg, e], ?_, ?_⟩
      · show ((heapN N).objs.set N _).get N = _
        rw [T.get_set, if_pos rfl]
      · exact .cells _ _ (l2_bare (hc _ _)) (.inl rfl)
    · rw [if_neg e] at hr
      exact .inr (.inl ⟨hr, fun r0 a0 h0 => by cases h0⟩)
theorem lr_bare_inv {ρ : Env} : ∀ {l m : List Value}, (l.all fun v => match v with | .string _ | .int _ _ | .bool _ => true | _ => false) = true → LR η ρ l m → m = l
  | [], m, _, h => LR.inv_nil h
  | v :: l, m, hb, h => by
    obtain ⟨x, m', rfl, hv, hr⟩ := LR.inv_cons h
    simp only [List.all_cons, Bool.and_eq_true] at hb
    rw [lr_bare_inv hb.2 hr]
    congr 1
    cases v <;> first | exact hv.string_inv | exact hv.int_inv | exact hv.bool_inv | exact absurd hb.1 (by simp)
theorem args_inv {ρ : Env} {l : List Value} {a : Array Value} (hb : (l.all fun v => match v with | .string _ | .int _ _ | .bool _ => true | _ => false) = true) (h : LR η ρ l a.toList) : a = l.toArray := by
  have := lr_bare_inv hb h
  cases a; simp only at this; rw [this]
end Go.Ev

namespace Go.Proofs.YtibnongfdafoeaaGreatDoor
open Go.RowKit Go.Ev
theorem awake_ok {η : Nat → Value} {B : Nat} (hη : OneCells η) (hmix : Tryz.prog.follows .mixedOrders = true) (h : AH) :
    CallSpec η Tryz.prog B 32 [] h fun v h' => v = .bool true ∧ h' = h := by
  refine CallSpec.pure hη (N := Tryz.prog.globals.size + 1) (Nat.lt_succ_self _) (fun σ M => .nil) (fun σ M => .bool _) ?_ h
  refine (headersAwakeRun.whole hη hmix).forget hη ?_
  rintro v h1 rfl hn
  exact ⟨fun r => r, _, heapN (Tryz.prog.globals.size + 1), ⟨rfl, rfl⟩, emb_nil (Nat.lt_succ_self _) fun _ _ => rfl, Nat.le_refl _, fun _ _ => rfl, .bool _⟩
end Go.Proofs.YtibnongfdafoeaaGreatDoor

namespace Go.Ev
set_option linter.unusedVariables false
set_option linter.unusedSimpArgs false
namespace TB
def markP (n : Nat) : Prop := n = 33 ∨ n = 35 ∨ n = 36 ∨ n = 37 ∨ n = 38 ∨ n = 39 ∨ n = 42 ∨ n = 43 ∨ n = 45 ∨ n = 46 ∨ n = 94 ∨ n = 95 ∨ n = 96 ∨ n = 124 ∨ n = 126
def wordP (n : Nat) : Prop := (65 ≤ n ∧ n ≤ 90) ∨ (97 ≤ n ∧ n ≤ 122) ∨ (48 ≤ n ∧ n ≤ 57)
instance (n : Nat) : Decidable (markP n) := by unfold markP; infer_instance
instance (n : Nat) : Decidable (wordP n) := by unfold wordP; infer_instance
/-- A byte of tokens. -/
def letB (c : UInt8) : Bool := decide (wordP c.toNat ∨ markP c.toNat)
/-- A byte of texts and values. -/
def plB (c : UInt8) : Bool := decide (c.toNat = 9 ∨ (32 ≤ c.toNat ∧ c.toNat ≤ 126))
/-- The kind of a byte. -/
def kdN (n : Nat) : Int := if n = 9 ∨ n = 32 then 2 else if n = 34 then 3 else if n = 92 then 4 else if n = 44 then 5 else if n = 59 then 6 else if wordP n ∨ markP n then 1 else if 32 < n ∧ n ≤ 126 then 7 else 0
def kd (c : UInt8) : Int := kdN c.toNat
/-- How many bytes of tokens there are at the beginning. -/
def tokN : List UInt8 → Nat
  | [] => 0
  | c :: r => if letB c then tokN r + 1 else 0
def tokB (s : List UInt8) : Bool := decide (1 ≤ s.length ∧ s.length ≤ 64) && s.all letB
def lowB (c : UInt8) : UInt8 := if 65 ≤ c.toNat ∧ c.toNat ≤ 90 then c + 32 else c
def esc : List UInt8 → List UInt8
  | [] => []
  | c :: r => if c.toNat = 34 ∨ c.toNat = 92 then 92 :: c :: esc r else c :: esc r
def quo (s : List UInt8) : List UInt8 := 34 :: (esc s ++ [34])
/-- Behind a byte 34: how many bytes up to the end of the quoted string, and what it stands for. -/
def scan : List UInt8 → Option (Nat × List UInt8)
  | [] => none
  | c :: r => if plB c then (if c.toNat = 34 then some (1, []) else if c.toNat = 92 then (match r with
      | [] => none
      | d :: r' => if plB d then (scan r').map fun x => (x.1 + 2, d :: x.2) else none) else (scan r).map fun x => (x.1 + 1, c :: x.2)) else none
def tokNK (args : List Value) (h : AH) : KT := match args with
  | [.string s] => .ret (.int .i64 (tokN s.data.toList : Int)) h
  | _ => .ret undef h
def tokK (args : List Value) (h : AH) : KT := match args with
  | [.string s] => .ret (.bool (tokB s.data.toList)) h
  | _ => .ret undef h
def plainsK (args : List Value) (h : AH) : KT := match args with
  | [.string s] => .ret (.bool (s.data.toList.all plB)) h
  | _ => .ret undef h
def cloneK (args : List Value) (h : AH) : KT := match args with
  | [v] => .ret v h
  | _ => .ret undef h
def foldK (args : List Value) (h : AH) : KT := match args with
  | [.string s] => .ret (.string ⟨⟨s.data.toList.map lowB⟩⟩) h
  | _ => .ret undef h
end TB
end Go.Ev

namespace Go.Ev
set_option linter.unusedVariables false
set_option linter.unusedSimpArgs false
namespace TE
open TB
/-- How many bytes there are before the first comma that is in no quoted string (with fuel); none: that is no value. -/
def elN : Nat → List UInt8 → Option Nat
  | _, [] => some 0
  | 0, _ => none
  | m + 1, c :: r => if plB c = false then none else if c.toNat = 44 then some 0 else if c.toNat = 34 then (match scan r with
      | none => none
      | some (n, _) => (elN m (r.drop n)).map (· + (n + 1))) else (elN m r).map (· + 1)
def trimB (s : List UInt8) : List UInt8 := Lib.trimS s [9, 32]
/-- The elements (with fuel); none: that is no value. -/
def els : Nat → List UInt8 → Option (List (List UInt8))
  | _, [] => some []
  | 0, _ => none
  | m + 1, s => match elN s.length s with
    | none => none
    | some n => (els m (s.drop (n + 1))).map fun l => if trimB (s.take n) = [] then l else trimB (s.take n) :: l
def strs (l : List (List UInt8)) : List Value := l.map fun s => .string ⟨⟨s⟩⟩
/-- What is between the bytes `by` that are in no quoted strings (with fuel); cur: what there is since the last one. -/
def pt (b : Nat) : Nat → List UInt8 → List UInt8 → Option (List (List UInt8))
  | _, [], cur => some [cur]
  | 0, _, _ => none
  | m + 1, c :: r, cur => if plB c = false then none else if c.toNat = 34 then (match scan r with
      | none => none
      | some (n, _) => pt b m (r.drop n) (cur ++ c :: r.take n)) else if c.toNat = b then (pt b m r []).map (cur :: ·) else pt b m r (cur ++ [c])
def trimK (args : List Value) (h : AH) : KT := match args with
  | .string s :: _ => .ret (.string ⟨⟨trimB s.data.toList⟩⟩) h
  | _ => .ret undef h
/-- A list of strings, as it stands in the heap. -/
def listAt (h : AH) : Value → List (List UInt8)
  | .slice (some a) n _ => match h.objs.get a.block with
    | some (.cells _ c _ _) => (c.take n).map fun v => match v with | .string s => s.data.toList | _ => []
    | _ => []
  | _ => []
end TE
end Go.Ev

namespace Go.Ev
set_option linter.unusedVariables false
set_option linter.unusedSimpArgs false
variable {η : Nat → Value} {P : Program} {B : Nat}
/-- An argument's row: its type, its cells; the block and the place in the world. -/
structure Row where
  ty : TypeId
  c : List Value
  b : Nat
  o : Nat
def objsR : List Row → Nat → T AObj
  | [], _ => .nil
  | x :: l, i => (objsR l (i + 1)).set i (.cells x.ty x.c false 0)
theorem objsR_get : ∀ {l : List Row} {i r : Nat} {a : AObj}, (objsR l i).get r = some a → i ≤ r ∧ ∃ x, l[r - i]? = some x ∧ a = .cells x.ty x.c false 0
  | [], i, r, a, h => by simp [objsR, T.get] at h
  | x :: l, i, r, a, h => by
    unfold objsR at h
    rw [T.get_set] at h
    by_cases e : r = i
    · rw [if_pos e] at h; cases h; subst e; exact ⟨Nat.le_refl _, x, by simp, rfl⟩
    · rw [if_neg e] at h
      obtain ⟨h1, y, h2, h3⟩ := objsR_get h
      refine ⟨by omega, y, ?_, h3⟩
      rw [show r - i = (r - (i + 1)) + 1 by omega, List.getElem?_cons_succ]; exact h2
/-- The heap with the rows of arguments, from 126 on. -/
def heapR (l : List Row) : AH := ⟨objsR l 126, 126 + l.length⟩
def sizeB (W : World) (b : Nat) : Nat := match W.heap[b]? with | some (.cells C _ _) => C.size | _ => 0
def envR (P : Program) (W : World) (l : List Row) : Env := fun r => if 126 ≤ r then (l[r - 126]?).map fun x => (x.b, x.o, sizeB W x.b - x.o) else envL P W r
/-- A row, as it stands in the world. -/
def RowAt (W : World) (x : Row) : Prop := ∃ (C : Array Value) (lo hi : Nat), W.heap[x.b]? = some (.cells C x.ty (lo, hi)) ∧ x.o + x.c.length ≤ C.size ∧ (∀ (i : Nat) (v : Value), x.c[i]? = some v → C.toList[x.o + i]? = some v) ∧ x.c.all bareV = true
set_option maxRecDepth 4000 in
theorem preR {W : World} {l : List Row} (hN : P.globals.size < 126) (hl : ∀ x ∈ l, RowAt W x) (hd : ∀ (i j : Nat) (x y : Row), l[i]? = some x → l[j]? = some y → x.b = y.b → i = j) : Pre η P (envR P W l) W.heap.size (heapR l) W := by
  refine ⟨⟨fun r a h => ?_, fun r r' a a' b d n d' n' h h' e e' => ?_⟩, fun r hr => ?_, fun g hg => ⟨sizeAt W g, ?_⟩, Nat.le_refl _⟩
  · obtain ⟨h1, x, hx, rfl⟩ := objsR_get h
    obtain ⟨C, lo, hi, hb, ho, hc, hbare⟩ := hl x (List.mem_of_getElem? hx)
    have hs : sizeB W x.b = C.size := by unfold sizeB; rw [hb]
    refine ⟨x.b, x.o, C.size - x.o, _, by unfold envR; rw [if_pos h1, hx, Option.map_some, hs], hb, ⟨C, x.ty, lo, hi, rfl, ⟨rfl, by show C.size = _; omega, by omega, fun i v hv => ⟨v, hc i v hv, ?_⟩, (fun h => by cases h), (fun h => by cases h)⟩⟩, (fun h => by cases h)⟩
    exact VR.bare (List.all_eq_true.1 hbare v (List.mem_of_getElem? hv))
  · obtain ⟨h1, x, hx, rfl⟩ := objsR_get h
    obtain ⟨h1', y, hy, rfl⟩ := objsR_get h'
    unfold envR at e e'
    rw [if_pos h1, hx] at e
    rw [if_pos h1', hy] at e'
    simp only [Option.map_some, Option.some.injEq, Prod.mk.injEq] at e e'
    have := hd _ _ x y hx hy (e.1.trans e'.1.symm)
    omega
  · have h : 126 + l.length ≤ r := hr
    unfold envR; rw [if_pos (by omega), List.getElem?_eq_none (by omega)]; rfl
  · unfold envR envL; rw [if_neg (by omega), if_pos hg]
theorem CallSpec.trueR {f : FuncId} {args : List Value} {args' : Array Value} {W : World} {l : List Row} (hN : P.globals.size < 126) (hl : ∀ x ∈ l, RowAt W x) (hd : ∀ (i j : Nat) (x y : Row), l[i]? = some x → l[j]? = some y → x.b = y.b → i = j)
    (ha : LR η (envR P W l) args args'.toList) (k : CallSpec η P W.heap.size f args (heapR l) fun v _ => v = .bool true) :
    Calls P f args' W fun e w' => e = .returned (.bool true) ∧ Go.RowKit.Below W.heap.size W w' := by
  have p := preR (η := η) (P := P) hN hl hd
  refine (k.calls ha p).mono ?_
  rintro e w' ⟨v, h', ρ', x, rfl, rfl, hv, hp⟩
  exact ⟨by rw [hv.bool_inv], p.hr.below hp.fr p.low⟩
/-- A bare value is itself under any names. -/
theorem rv_bare {σ : Nat → Nat} {N : Nat} {w : Bool} : ∀ {v : Value}, bareV v = true → RV σ N w v v := by
  intro v h
  cases v with
  | bool _ => exact .bool _
  | int _ _ => exact .int _ _
  | float _ _ => exact .float _ _
  | complex _ _ _ => exact .complex _ _ _
  | string _ => exact .string _
  | pointer a => cases a with
    | none => exact .ptr0
    | some a => simp [bareV] at h
  | map a => cases a with
    | none => exact .map0
    | some a => simp [bareV] at h
  | nilFunc => exact .nilFunc
  | nilIface => exact .nilIface
  | slice a l c => cases a with
    | none => exact .slice0 _ _
    | some a => simp [bareV] at h
  | _ => simp [bareV] at h
theorem l2_bareV {σ : Nat → Nat} {N : Nat} {w : Bool} {l : List Value} (h : l.all bareV = true) : L2 (RV σ N w) l l := l2_bare fun v hv => rv_bare (List.all_eq_true.1 h v hv)
/-- Rows under the names from 126 on, as a contract's own heap has them. -/
def objsT : List (TypeId × List Value) → Nat → T AObj
  | [], _ => .nil
  | x :: l, i => (objsT l (i + 1)).set i (.cells x.1 x.2 false 0)
theorem objsT_get : ∀ {l : List (TypeId × List Value)} {i r : Nat} {a : AObj}, (objsT l i).get r = some a → i ≤ r ∧ ∃ x, l[r - i]? = some x ∧ a = .cells x.1 x.2 false 0
  | [], i, r, a, h => by simp [objsT, T.get] at h
  | x :: l, i, r, a, h => by
    unfold objsT at h
    rw [T.get_set] at h
    by_cases e : r = i
    · rw [if_pos e] at h; cases h; subst e; exact ⟨Nat.le_refl _, x, by simp, rfl⟩
    · rw [if_neg e] at h
      obtain ⟨h1, y, h2, h3⟩ := objsT_get h
      refine ⟨by omega, y, ?_, h3⟩
      rw [show r - i = (r - (i + 1)) + 1 by omega, List.getElem?_cons_succ]; exact h2
theorem objsT_at : ∀ {l : List (TypeId × List Value)} {i j : Nat} {x : TypeId × List Value}, l[j]? = some x → (objsT l i).get (i + j) = some (.cells x.1 x.2 false 0)
  | [], i, j, x, h => by simp at h
  | y :: l, i, 0, x, h => by
    simp at h; subst h
    unfold objsT; rw [T.get_set, if_pos (by omega)]
  | y :: l, i, j + 1, x, h => by
    unfold objsT
    rw [T.get_set, if_neg (by omega), show i + (j + 1) = i + 1 + j by omega]
    exact objsT_at (by simpa using h)
def heapT (l : List (TypeId × List Value)) : AH := ⟨objsT l 126, 126 + l.length⟩
def sigR (rn : Nat → Nat) : Nat → Nat := fun r => if 126 ≤ r then rn (r - 126) else r
/-- The rows stand in the heap under these names. -/
def RowsIn (h : AH) (l : List (TypeId × List Value)) (rn : Nat → Nat) : Prop :=
  (∀ i x, l[i]? = some x → x.2.all bareV = true ∧ ∃ own, h.objs.get (rn i) = some (.cells x.1 x.2 false own)) ∧ (∀ i j, i < l.length → j < l.length → rn i = rn j → i = j)
theorem emb_rows {h : AH} {l : List (TypeId × List Value)} {rn : Nat → Nat} (hN : P.globals.size < 126) (hr : RowsIn h l rn) : Emb P (sigR rn) (heapT l) h := by
  refine ⟨fun g hg => ⟨by show g < 126 + l.length; omega, by unfold sigR; rw [if_neg (by omega)]⟩, fun r a ha => ?_, fun r r' a a' ha ha' he => ?_⟩
  · obtain ⟨h1, x, hx, rfl⟩ := objsT_get ha
    obtain ⟨hb, own, ho⟩ := hr.1 _ x hx
    have hlt := (List.getElem?_eq_some_iff.1 hx).1
    refine ⟨by show r < 126 + l.length; omega, .cells x.1 x.2 false own, by unfold sigR; rw [if_pos h1]; exact ho, .cells _ _ (l2_bareV hb) (.inr ⟨rfl, rfl⟩)⟩
  · obtain ⟨h1, x, hx, rfl⟩ := objsT_get ha
    obtain ⟨h1', y, hy, rfl⟩ := objsT_get ha'
    unfold sigR at he
    rw [if_pos h1, if_pos h1'] at he
    have := hr.2 _ _ (List.getElem?_eq_some_iff.1 hx).1 (List.getElem?_eq_some_iff.1 hy).1 he
    omega
theorem framed_old {h : AH} {l : List (TypeId × List Value)} {rn : Nat → Nat} {hs' : AH} (hs : ∀ r a, (heapT l).objs.get r = some a → hs'.objs.get r = some a) {r : Nat} {a : AObj} (ha : h.objs.get r = some a) :
    (h.objs.get r = some a ∧ ∀ r0 a0, (heapT l).objs.get r0 = some a0 → sigR rn r0 ≠ r) ∨ (h.objs.get r = some a ∧ ∃ r0 a0 a1, r0 < (heapT l).next ∧ sigR rn r0 = r ∧ (heapT l).objs.get r0 = some a0 ∧ ownO a0 = false ∧ hs'.objs.get r0 = some a1) := by
  by_cases hq : ∃ i, i < l.length ∧ rn i = r
  · obtain ⟨i, hi, e⟩ := hq
    refine .inr ⟨ha, 126 + i, _, _, by show 126 + i < 126 + l.length; omega, by unfold sigR; rw [if_pos (by omega), show 126 + i - 126 = i by omega, e], objsT_at (List.getElem?_eq_getElem hi), rfl, hs _ _ (objsT_at (List.getElem?_eq_getElem hi))⟩
  · refine .inl ⟨ha, fun r0 a0 h0 e => hq ?_⟩
    obtain ⟨h1, x, hx, _⟩ := objsT_get h0
    unfold sigR at e
    rw [if_pos h1] at e
    exact ⟨r0 - 126, (List.getElem?_eq_some_iff.1 hx).1, e⟩
/-- A call that looks at rows, and whose result holds no blocks: the same in each heap in which the rows stand. -/
theorem CallSpec.pureR (hη : OneCells η) {f : FuncId} {args args' : List Value} {l : List (TypeId × List Value)} {rn : Nat → Nat} {h : AH} {v : Value} (hN : P.globals.size < 126) (hr : RowsIn h l rn) (ha : L2 (RV (sigR rn) (126 + l.length) true) args args') (hv : ∀ σ M, RV σ M false v v)
    (c : CallSpec η P B f args (heapT l) fun v1 h1 => v1 = v ∧ h1 = heapT l) : CallSpec η P B f args' h fun v1 h1 => v1 = v ∧ h1 = h := by
  refine c.frame (σ := sigR rn) hη (emb_rows hN hr) ha ?_
  rintro v1 hs' ⟨rfl, rfl⟩ _
  exact ⟨v1, h, ⟨rfl, rfl⟩, hv _ _, ⟨by simp, fun r a hr => .inr (framed_old (fun _ _ h => h) hr)⟩⟩
/-- A call that looks at rows, and returns one fresh row. -/
theorem CallSpec.freshR (hη : OneCells η) {f : FuncId} {args args' : List Value} {l : List (TypeId × List Value)} {rn : Nat → Nat} {h : AH} {mk : Nat → Value} {ty : TypeId} {c : List Value} {p : Bool} (hN : P.globals.size < 126) (hr0 : RowsIn h l rn) (ha : L2 (RV (sigR rn) (126 + l.length) true) args args')
    (hv : ∀ (σ : Nat → Nat) (M r : Nat), r < M → RV σ M false (mk r) (mk (σ r))) (hc : c.all bareV = true) (k : CallSpec η P B f args (heapT l) fun v h1 => v = mk (126 + l.length) ∧ h1 = withRow (heapT l) ty c p) :
    CallSpec η P B f args' h fun v h1 => v = mk h.next ∧ h1 = withRow h ty c p := by
  refine k.frame (σ := sigR rn) hη (emb_rows hN hr0) ha ?_
  rintro v hs' ⟨rfl, rfl⟩ _
  have hsg : sg (sigR rn) (126 + l.length) h.next (126 + l.length) = h.next := by unfold sg; rw [if_neg (Nat.lt_irrefl _), Nat.sub_self]; rfl
  refine ⟨mk h.next, withRow h ty c p, ⟨rfl, rfl⟩, ?_, ⟨?_, fun r a hr => ?_⟩⟩
  · have := hv (sg (sigR rn) (heapT l).next h.next) (126 + l.length + 1) (126 + l.length) (Nat.lt_succ_self _)
    rw [show (heapT l).next = 126 + l.length from rfl, hsg] at this
    exact this
  · show h.next + 1 = h.next + (126 + l.length + 1 - (126 + l.length)); omega
  · unfold withRow at hr
    simp only [T.get_set] at hr
    by_cases e : r = h.next
    · rw [if_pos e] at hr
      injection hr with hr
      subst hr
      refine .inl ⟨126 + l.length, .cells ty c p 2, Nat.lt_succ_self _, by rw [show (heapT l).next = 126 + l.length from rfl, hsg, e], ?_, ?_⟩
      · show ((heapT l).objs.set (126 + l.length) _).get (126 + l.length) = _
        rw [T.get_set, if_pos rfl]
      · exact .cells _ _ (l2_bareV hc) (.inl rfl)
    · rw [if_neg e] at hr
      refine .inr (framed_old (fun r0 a0 h0 => ?_) hr)
      have := (emb_rows (P := P) hN hr0).obj r0 a0 h0
      show ((heapT l).objs.set (126 + l.length) _).get r0 = _
      rw [T.get_set, if_neg (by have := this.1; change r0 < 126 + l.length at this; omega)]
      exact h0
end Go.Ev

namespace Go.Ev
set_option linter.unusedVariables false
set_option linter.unusedSimpArgs false
namespace TH
open TB TE
abbrev HF := List UInt8 × List UInt8
def flds : List HF → List Value
  | [] => []
  | p :: l => .string ⟨⟨p.1⟩⟩ :: .string ⟨⟨p.2⟩⟩ :: flds l
def low (s : List UInt8) : List UInt8 := s.map lowB
/-- The error of one field. -/
def ckB (n v : List UInt8) : Bool := tokB n && v.all plB && decide (trimB v = v)
def ckf (n v : List UInt8) : Int := if ckB n v = false then 6 else if 2000 < v.length then 3 else 0
def chkF : List HF → Nat → Int
  | [], n => if 8192 < n then 3 else 0
  | p :: l, n => if ckf p.1 p.2 ≠ 0 then ckf p.1 p.2 else chkF l (n + p.1.length + p.2.length + 4)
/-- The error of a list. -/
def chk (l : List HF) : Int := if 100 < l.length then 3 else chkF l 2
def canL : Bool → List UInt8 → List UInt8
  | _, [] => []
  | f, c :: r => (if f = true ∧ 97 ≤ c.toNat ∧ c.toNat ≤ 122 then c - 32 else c) :: canL (c == 45) r
def canS (s : List UInt8) : List UInt8 := if tokB s then canL true (low s) else []
def canE (s : List UInt8) : Int := if tokB s then 0 else 6
/-- Has a field the name? -/
def isB (n name : List UInt8) : Bool := low n == low name
def get (l : List HF) (name : List UInt8) : List (List UInt8) := (l.filter fun p => isB p.1 name).map (·.2)
def getB (l : List HF) (name : List UInt8) : Bool := (get l name).isEmpty
def joinS (sep : List UInt8) : List (List UInt8) → List UInt8
  | [] => []
  | [x] => x
  | x :: y :: r => x ++ sep ++ joinS sep (y :: r)
def askE (l : List HF) (name : List UInt8) : Int := if chk l ≠ 0 then chk l else if tokB name then 0 else 2
def setCookie : List UInt8 := [115, 101, 116, 45, 99, 111, 111, 107, 105, 101]
def comE (l : List HF) (name : List UInt8) : Int := if askE l name ≠ 0 then askE l name else if getB l name then 4 else if low name = setCookie then 9 else if 2000 < (joinS [44, 32] (get l name)).length then 3 else 0
def comS (l : List HF) (name : List UInt8) : List UInt8 := if comE l name = 0 then joinS [44, 32] (get l name) else []
def len4 (n v : List UInt8) : Int := ((n.length + v.length + 4 : Nat) : Int)
/-- A list of fields, as it stands in the heap. -/
def fieldsAt (h : AH) : Value → List HF
  | .slice (some a) n _ => match h.objs.get a.block with
    | some (.cells _ c _ _) => (List.range n).map fun i => (strAt c (a.off + 2 * i), strAt c (a.off + 2 * i + 1))
    | _ => []
  | _ => []
def ckfK (args : List Value) (h : AH) : KT := match args with
  | [.agg ⟨[.string n, .string v]⟩] => .ret (.int .i64 (ckf n.data.toList v.data.toList)) h
  | _ => .ret undef h
def llnK (args : List Value) (h : AH) : KT := match args with
  | [.agg ⟨[.string n, .string v]⟩] => .ret (.int .i64 (len4 n.data.toList v.data.toList)) h
  | _ => .ret undef h
def chkK (args : List Value) (h : AH) : KT := match args with
  | [v] => .ret (.int .i64 (chk (fieldsAt h v))) h
  | _ => .ret undef h
def canK (args : List Value) (h : AH) : KT := match args with
  | [.string s] => .ret (.tuple ⟨[.string ⟨⟨canS s.data.toList⟩⟩, .int .i64 (canE s.data.toList)]⟩) h
  | _ => .ret undef h
def isK (args : List Value) (h : AH) : KT := match args with
  | [.agg ⟨[.string n, .string _]⟩, .string s] => .ret (.bool (isB n.data.toList s.data.toList)) h
  | _ => .ret undef h
def valK (args : List Value) (h : AH) : KT := match args with
  | [v, .string s] => .ite (getB (fieldsAt h v) s.data.toList) (.ret (.slice none 0 0) h) (.ret (.slice (some ⟨h.next, 0, none⟩) (get (fieldsAt h v) s.data.toList).length (capU 1)) (withRow h 9 (strs (get (fieldsAt h v) s.data.toList)) false))
  | _ => .ret undef h
def mn (n : Nat) : Nat := if 12001 < n then 12001 else n
def farN : List HF → Nat
  | [] => 0
  | p :: l => mn p.1.length + mn p.2.length + farN l
/-- Is a list more than is looked at? -/
def farB (l : List HF) : Bool := decide (110 < l.length) || decide (12000 < farN l)
def farK (args : List Value) (h : AH) : KT := match args with
  | [v] => .ret (.bool (farB (fieldsAt h v))) h
  | _ => .ret undef h
end TH
end Go.Ev

