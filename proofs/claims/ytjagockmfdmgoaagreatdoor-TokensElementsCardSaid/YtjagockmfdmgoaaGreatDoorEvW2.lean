/- Walks by a script: append, conversions, maps; the walk. -/
import Derived.Test.YtjagockmfdmgoaaGreatDoorEvW
namespace Go.Ev
set_option linter.unusedVariables false
set_option linter.unusedSimpArgs false
variable {η : Nat → Value} {P : Program} {B : Nat}
section
variable (P : Program)
/-- The first cells of a row: those that are asked for. -/
def cut0 (c : List Value) : Nat → Nat → List Value
  | 0, _ => c
  | off, n => (c.drop off).take n
def cutOk (c : List Value) : Nat → Nat → Prop
  | 0, n => c.length = n
  | off, n => off + n ≤ c.length
def wFirst (h : AH) (size n : Nat) : Value → M (Prop × List Value)
  | .slice (some a) _ _ => do
    let (_, c, _, _) ← cellsAt h a.block
    if a.spot = none then .ok (a.off + n * size ≤ c.length, (c.drop a.off).take (n * size)) else no "spot"
  | .slice none _ _ => .ok (n * size = 0, [])
  | .string s => if size = 1 then .ok (True, bytesV (s.data.toList.take n)) else no "bytes"
  | _ => no "slice or string"
def wAppend (ρ : Operand → Value) (argTypes : List TypeId) (args : List Value) (h : AH) : M (Prop × KT) := do
  match argTypes, args with
  | [sT, xT], [.slice base len cap, x] => do
    match ← undA P sT with
    | .slice elem => do
      let ei ← infoA P elem
      let z ← zeroA P elem
      let isInt ← isIntT P xT
      if isInt then no "append of make" else
      if ei.size = 0 ∨ ei.bytes > 65536 ∨ (cellsL z).length ≠ ei.size then no "append: size" else
      let n ← lenA x
      let (pn, new) ← wFirst h ei.size n x
      match base with
      | some a => do
        let (ty, c, _, own) ← cellsAt h a.block
        if isU cap = false ∨ own ≠ 2 ∨ cap ≠ capU ei.size ∨ ty ≠ elem ∨ a.spot ≠ none then no "append: mark" else
        let r := freshA { h with objs := h.objs.del a.block } elem ei.size (len + n) (cut0 c a.off (len * ei.size) ++ new)
        .ok (pn ∧ cutOk c a.off (len * ei.size) ∧ len + n ≤ 1000000 ∧ new.length = n * ei.size ∧ new.all oneC = true, .ret r.1 r.2)
      | none => do
        if isU cap = true ∨ len ≠ 0 ∨ cap ≠ 0 then no "append: nil" else
        let r := freshA h elem ei.size (0 + n) ([] ++ new)
        .ok (pn ∧ n ≤ 1000000 ∧ new.length = n * ei.size ∧ new.all oneC = true, .ite (n == 0) (.ret (.slice none 0 0) h) (.ret r.1 r.2))
    | _ => no "append"
  | _, _ => no "append args"
def byteOf : Value → UInt8
  | .int _ n => UInt8.ofNat n.toNat
  | _ => 0
def bytesIn (c : List Value) (off n : Nat) : List UInt8 := ((c.drop off).take n).map byteOf
def wConv (ρ : Operand → Value) (src dst : TypeId) (x : Operand) (h : AH) : M (Prop × KT) := do
  match ← undA P src, ← undA P dst, ρ x with
  | .slice e, .string, .slice (some a) len _ => do
    match ← undA P e with
    | .int .u8 => do
      let (_, c, _, _) ← cellsAt h a.block
      if a.spot ≠ none then no "spot" else
      .ok (a.off + len ≤ c.length ∧ bytesOf ((c.drop a.off).take len) = .ok (bytesIn c a.off len), .ret (strL (bytesIn c a.off len)) h)
    | _ => no "conv"
  | _, .slice e, .string s => do
    match ← undA P e with
    | .int .u8 =>
      .ok (s.size ≤ 1000000, .ret (.slice (some ⟨h.next, 0, none⟩) s.size (capU 1)) (newA h (.cells e (bytesV s.data.toList) false 2)).2)
    | _ => no "conv"
  | _, _, _ => no "conv"
def wMakeSlice (ρ : Operand → Value) (t : TypeId) (l c : Operand) (h : AH) : M (Prop × KT) := do
  match ← undA P t with
  | .slice elem => do
    let l ← intOfA (ρ l)
    let c ← intOfA (ρ c)
    let ei ← infoA P elem
    if ei.bytes > 65536 then no "makeSlice" else
    let z := cellsL (← zeroA P elem)
    if z.length ≠ ei.size then no "makeSlice: zero" else
    .ok (0 ≤ l ∧ l ≤ c ∧ c ≤ 1000000, .ret (.slice (some ⟨h.next, 0, none⟩) l.toNat c.toNat) (newA h (.cells elem (rep z c.toNat) true 2)).2)
  | _ => no "makeSlice"
/-- What a map holds at a key, or zero. -/
def mVal (z : Value) : Option (Nat × Value) → Value
  | some (_, v) => v
  | none => z
def mFind (d : TypeDesc) (k : Value) (es : List MapEntry) : Option (Nat × Value) := (Instr.findNow d k es 0).getD none
def typedOf (c : List Value) (t : TypeId) : M Value := do
  if ← isAggA P t then .ok (aggL (← cellsTyped P c (← cellTypes P 20 t) 0)) else cellTyped P c t 0
def wLookup (ρ : Operand → Value) (t : TypeId) (x k : Operand) (commaOk : Bool) (h : AH) : M (Prop × KT) := do
  match ← undA P t with
  | .map key elem => do
    match ρ x with
    | .map (some r) => do
      let (es, _, _) ← mapOf h r
      let d ← keyKind P key
      let z ← zeroA P elem
      let f := mFind d (ρ k) es
      let v ← typedOf P (cellsL (mVal z f)) elem
      .ok (Instr.findNow d (ρ k) es 0 = some f ∧ mVal z f = v, .ret (if commaOk then tupL [v, .bool f.isSome] else v) h)
    | _ => no "map"
  | _ => no "map type"
def mPut (k x : Value) (c : Nat) (es : List MapEntry) : Option (Nat × Value) → List MapEntry
  | some (i, _) => modEntry (fun e => { e with key := k, val := x }) es i
  | none => es ++ [{ key := k, val := x, born := c }]
def mClock (c : Nat) : Option (Nat × Value) → Nat
  | some _ => c
  | none => c + 1
def wMapSet (ρ : Operand → Value) (t : TypeId) (m k x : Operand) (h : AH) : M (Prop × KT) := do
  match ← undA P t, ρ m with
  | .map key _, .map (some r) => do
    let (es, c, own) ← mapOf h r
    if !own then no "map not own" else
    let d ← keyKind P key
    let f := mFind d (ρ k) es
    .ok (Instr.findNow d (ρ k) es 0 = some f, .ret undef (putA h r (.map (mPut (ρ k) (ρ x) c es f) (mClock c f) own)))
  | _, _ => no "map type"
def wCopy (ρ : Operand → Value) (argTypes : List TypeId) (args : List Value) (h : AH) : M (Prop × KT) := do
  match argTypes, args with
  | t :: _, [.slice (some a) dLen _, src] => do
    match ← undA P t with
    | .slice elem => do
      let sl ← lenA src
      let size ← sizeA P elem
      let n := Nat.min sl dLen
      let (pn, cs) ← wFirst h size n src
      let (ty, c, p, own) ← cellsAt h a.block
      if own ≠ 2 ∨ a.spot ≠ none ∨ size = 0 then no "copy" else
      .ok (pn ∧ cs.length = n * size ∧ a.off + cs.length ≤ c.length ∧ cs.all oneC = true, .ite (n == 0) (.ret (goInt 0) h) (.ret (goInt n) (putA h a.block (.cells ty (splice c a.off cs) p 2))))
    | _ => no "copy"
  | _, _ => no "copy args"
def wUnsafeString (ρ : Operand → Value) (argTypes : List TypeId) (args : List Value) (h : AH) : M (Prop × KT) := do
  match argTypes, args with
  | t :: _, [.pointer (some a), .int kd n] => do
    let (ty, c, p, own) ← cellsAt h a.block
    match ← undA P t, P.underlying ty with
    | .pointer e, some (.int .u8) =>
      if e ≠ ty ∨ P.cellsOf ty ≠ 1 ∨ own = 0 ∨ a.spot ≠ none then no "unsafe.String: type" else
      .ok (0 ≤ n ∧ n ≤ 1000000 ∧ a.off + n.toNat ≤ c.length ∧ bytesOf ((c.drop a.off).take n.toNat) = .ok (bytesIn c a.off n.toNat), .ite (n == 0) (.ret (.string ⟨#[]⟩) h) (.ret (strL (bytesIn c a.off n.toNat)) (putA h a.block (.cells ty c false 1))))
    | _, _ => no "unsafe.String: type"
  | _, _ => no "unsafe.String"
/-- unsafe.SliceData of a slice of an unknown capacity. -/
def wSliceData (ts : List TypeId) (args : List Value) (h : AH) : M (Prop × Value × AH) := match args with
  | [.slice (some a) l c] => if isU c = true ∧ ts.isEmpty = false then .ok (0 < l, .pointer (some a), h) else no "SliceData"
  | _ => no "SliceData"
def lift1 (x : M (Prop × Value × AH)) : M (Prop × KT) := do
  let (p, v, h) ← x
  .ok (p, .ret v h)
/-- An operation, and what it asks. -/
def opW (ρ : Operand → Value) (o : Oper) (h : AH) : M (Prop × KT) :=
  if !okOps P o then no "a constant" else
  match o.op with
  | .load t x => lift1 (wLoad P ρ t x h)
  | .store t x y => lift1 (wStore P ρ t x y h)
  | .indexAddr t x y => lift1 (wIndexAddr P ρ t x y h)
  | .index t x y => lift1 (wIndex P ρ t x y h)
  | .binOp op _ x y _ => lift1 (wBin ρ op x y h)
  | .slice t x lo hi mx => lift1 (wSlice P ρ t x lo hi mx h)
  | .call { callee := .builtin .append, args, argTypes } => wAppend P ρ argTypes.toList (args.toList.map ρ) h
  | .call { callee := .builtin .copy, args, argTypes } => wCopy P ρ argTypes.toList (args.toList.map ρ) h
  | .call { callee := .builtin .unsafeString, args, argTypes } => wUnsafeString P ρ argTypes.toList (args.toList.map ρ) h
  | .call { callee := .builtin .unsafeSliceData, args, argTypes } => lift1 (wSliceData argTypes.toList (args.toList.map ρ) h)
  | .convert s d x => wConv P ρ s d x h
  | .makeSlice t l c => wMakeSlice P ρ t l c h
  | .lookup t x k ok => wLookup P ρ t x k ok h
  | .mapUpdate t m k x => wMapSet P ρ t m k x h
  | .insert t m k x => wMapSet P ρ t m k x h
  | _ => no "operation"
end
/-- What an operation leads to, if it goes on. -/
def Goes (P : Program) (ρ : Operand → Value) (o : Oper) (h : AH) (v : Value) (h' : AH) : Prop := execA P ρ o h = .ok (.value v, h') ∨ (execA P ρ o h = .ok (.skip, h') ∧ v = undef)
theorem read_goes {ρ : Operand → Value} {o : Oper} {h : AH} {v : Value} (hok : okOps P o = true) (hk : kindOf P o.op = .read) (hr : readA P ρ o h = .ok v) : Goes P ρ o h v h := .inl (exec_read hok hk hr)
theorem wFirst_ok {h : AH} {size n : Nat} {x : Value} {p : Prop} {l : List Value} (hw : wFirst h size n x = .ok (p, l)) (hp : p) : firstA h size n x = .ok l := by
  unfold wFirst at hw
  split at hw
  · rename_i a _ _
    simp only [bind_ok] at hw
    obtain ⟨⟨ty, c, pl, own⟩, hc, hw⟩ := hw
    simp only at hw
    split at hw
    · rename_i hs
      rw [okk] at hw; injection hw with e1 e2; subst e1; subst e2
      unfold firstA getC
      simp only [hc]
      rw [if_pos ⟨hp, hs⟩]
    · simp [no] at hw
  · rw [okk] at hw; injection hw with e1 e2; subst e1; subst e2
    unfold firstA
    simp only
    rw [if_pos hp]
  · split at hw
    · rename_i hs
      rw [okk] at hw; injection hw with e1 e2; subst e1; subst e2
      unfold firstA
      simp only
      rw [if_pos hs]
    · simp [no] at hw
  · simp [no] at hw
theorem wAppend_ok {ρ : Operand → Value} {ts : List TypeId} {args : List Value} {h : AH} {p : Prop} {k : KT} (hw : wAppend P ρ ts args h = .ok (p, k)) (hp : p) : ∃ v h', k.sat v h' ∧ appendA P h ts args = .ok (v, h') := by
  unfold wAppend at hw
  split at hw
  · rename_i sT xT base len cap x
    simp only [bind_ok] at hw
    obtain ⟨d, hd, hw⟩ := hw
    split at hw
    · rename_i elem
      simp only [bind_ok] at hw
      obtain ⟨ei, hei, z, hz, isInt, hi, hw⟩ := hw
      rw [ite_no] at hw
      obtain ⟨hi2, hw⟩ := hw
      rw [ite_no] at hw
      obtain ⟨hs, hw⟩ := hw
      simp only [bind_ok] at hw
      obtain ⟨n, hn, ⟨pn, new⟩, hnew, hw⟩ := hw
      simp only at hw
      cases base with
      | some a =>
        simp only [bind_ok] at hw
        obtain ⟨⟨ty, c, pl, own⟩, hc, hw⟩ := hw
        simp only at hw
        rw [ite_no] at hw
        obtain ⟨hm, hw⟩ := hw
        rw [okk] at hw
        injection hw with e1 e2; subst e1; subst e2
        obtain ⟨p1, p2, p3, p4, p5⟩ := hp
        refine ⟨_, _, ⟨rfl, rfl⟩, ?_⟩
        have m1 : isU cap = true := by cases hq : isU cap with | true => rfl | false => exact absurd (.inl hq) hm
        have m2 : own = 2 := Decidable.byContradiction fun hh => hm (.inr (.inl hh))
        have m3 : cap = capU ei.size := Decidable.byContradiction fun hh => hm (.inr (.inr (.inl hh)))
        have m4 : ty = elem := Decidable.byContradiction fun hh => hm (.inr (.inr (.inr (.inl hh))))
        have m5 : a.spot = none := Decidable.byContradiction fun hh => hm (.inr (.inr (.inr (.inr hh))))
        have hf := wFirst_ok hnew p1
        have hold : firstA h ei.size len (.slice (some a) len cap) = .ok (cut0 c a.off (len * ei.size)) ∧ (cut0 c a.off (len * ei.size)).length = len * ei.size := by
          unfold firstA getC
          simp only [hc]
          cases ha : a.off with
          | zero =>
            rw [ha] at p2
            have p2 : c.length = len * ei.size := p2
            rw [if_pos ⟨by omega, m5⟩]
            refine ⟨?_, p2⟩
            show _ = Except.ok c
            rw [List.drop_zero, List.take_of_length_le (by omega)]
          | succ o =>
            rw [ha] at p2
            have p2 : o + 1 + len * ei.size ≤ c.length := p2
            rw [if_pos ⟨p2, m5⟩]
            refine ⟨rfl, ?_⟩
            show ((c.drop (o + 1)).take (len * ei.size)).length = _
            rw [List.length_take, List.length_drop]; omega
        unfold appendA
        simp only [hd, hei, hz, hi, hn, hf, hold.1, bind, Except.bind]
        rw [if_neg hi2, if_neg hs, if_neg (by rintro (hh | hh | hh | hh); omega; exact hh p4; exact hh hold.2; rw [p5] at hh; cases hh), if_pos m1]
        simp only [hc]
        rw [if_neg (by rintro (hh | hh | hh); exact hh m2; exact hh m3; exact hh m4)]
      | none =>
        simp only at hw
        rw [ite_no] at hw
        obtain ⟨hm, hw⟩ := hw
        rw [okk] at hw
        injection hw with e1 e2; subst e1; subst e2
        obtain ⟨p1, p3, p4, p5⟩ := hp
        have m1 : isU cap = false := by cases hq : isU cap with | false => rfl | true => exact absurd (.inl hq) hm
        have m2 : len = 0 := Decidable.byContradiction fun hh => hm (.inr (.inl hh))
        have m3 : cap = 0 := Decidable.byContradiction fun hh => hm (.inr (.inr hh))
        subst m2; subst m3
        have hf := wFirst_ok hnew p1
        have hold : firstA h ei.size 0 (.slice none 0 0) = .ok [] := by
          unfold firstA; simp
        have hz0 : ei.size ≠ 0 := fun hh => hs (.inl hh)
        cases hn0 : (n == 0) with
        | true =>
          have hn0' : n = 0 := by simpa using hn0
          refine ⟨_, _, .inl ⟨rfl, rfl, rfl⟩, ?_⟩
          unfold appendA
          simp only [hd, hei, hz, hi, hn, hf, hold, bind, Except.bind]
          rw [if_neg hi2, if_neg hs, if_neg (by rintro (hh | hh | hh | hh); omega; exact hh p4; simp at hh; rw [p5] at hh; cases hh), if_neg (by rw [m1]; simp), if_pos (by omega)]
          have : new = [] := by
            have : new.length = 0 := by rw [p4, hn0']; simp
            exact List.length_eq_zero_iff.1 this
          subst this
          simp [hn0']
        | false =>
          have hn0' : n ≠ 0 := by simpa using hn0
          refine ⟨_, _, .inr ⟨rfl, rfl, rfl⟩, ?_⟩
          unfold appendA
          simp only [hd, hei, hz, hi, hn, hf, hold, bind, Except.bind]
          rw [if_neg hi2, if_neg hs, if_neg (by rintro (hh | hh | hh | hh); omega; exact hh p4; simp at hh; rw [p5] at hh; cases hh), if_neg (by rw [m1]; simp), if_neg (by omega), if_pos (by omega)]
    · simp [no] at hw
  · simp [no] at hw
theorem wConv_ok {ρ : Operand → Value} {o : Oper} {s d : TypeId} {x : Operand} {h : AH} {p : Prop} {k : KT} (hok : okOps P o = true) (ho : o.op = .convert s d x) (hw : wConv P ρ s d x h = .ok (p, k)) (hp : p) : ∃ v h', k.sat v h' ∧ Goes P ρ o h v h' := by
  unfold wConv at hw
  simp only [bind_ok] at hw
  obtain ⟨t1, h1, t2, h2, hw⟩ := hw
  split at hw
  · rename_i e a len cap hx
    simp only [bind_ok] at hw
    obtain ⟨t3, h3, hw⟩ := hw
    split at hw
    · simp only [bind_ok] at hw
      obtain ⟨⟨ty, c, pl, own⟩, hc, hw⟩ := hw
      simp only at hw
      rw [ite_no] at hw
      obtain ⟨hs, hw⟩ := hw
      rw [okk] at hw
      injection hw with e1 e2; subst e1; subst e2
      have hs' : a.spot = none := Decidable.byContradiction hs
      refine ⟨_, _, ⟨rfl, rfl⟩, read_goes hok ?_ ?_⟩
      · rw [ho]; unfold kindOf
        have : isSliceT P d = false := by
          unfold isSliceT
          unfold undA orNo at h2
          split at h2
          · rename_i hu; rw [okk] at h2; rw [hu, h2]
          · simp [no] at h2
        simp only [this, Bool.false_eq_true, if_false]
      · unfold readA
        simp only [ho, convA, h1, h2, hx, h3, bind, Except.bind, getC, hc]
        rw [if_pos ⟨hp.1, hs'⟩]
        simp only [hp.2]
    · simp [no] at hw
  · rename_i e s1 hx
    simp only [bind_ok] at hw
    obtain ⟨t3, h3, hw⟩ := hw
    split at hw
    · rw [okk] at hw
      injection hw with e1 e2; subst e1; subst e2
      refine ⟨_, _, ⟨rfl, rfl⟩, .inl ?_⟩
      have hk : kindOf P o.op = .alloc := by
        rw [ho]; unfold kindOf
        have : isSliceT P d = true := by
          unfold isSliceT
          unfold undA orNo at h2
          split at h2
          · rename_i hu; rw [okk] at h2; rw [hu, h2]
          · simp [no] at h2
        simp only [this, if_true]
      unfold execA
      rw [hok, hk]
      simp only [Bool.not_true, Bool.false_eq_true, if_false, allocA, ho, h1, h2, hx, h3, bind, Except.bind]
      rw [if_neg (by omega)]
    · simp [no] at hw
  · simp [no] at hw
theorem wMakeSlice_ok {ρ : Operand → Value} {o : Oper} {t : TypeId} {x y : Operand} {h : AH} {p : Prop} {k : KT} (hok : okOps P o = true) (ho : o.op = .makeSlice t x y) (hw : wMakeSlice P ρ t x y h = .ok (p, k)) (hp : p) : ∃ v h', k.sat v h' ∧ Goes P ρ o h v h' := by
  unfold wMakeSlice at hw
  simp only [bind_ok] at hw
  obtain ⟨d, hd, hw⟩ := hw
  split at hw
  · simp only [bind_ok] at hw
    obtain ⟨l, hl, c, hc, ei, hei, hw⟩ := hw
    rw [ite_no] at hw
    obtain ⟨hb, hw⟩ := hw
    simp only [bind_ok] at hw
    obtain ⟨z, hz, hw⟩ := hw
    rw [ite_no] at hw
    obtain ⟨hzl, hw⟩ := hw
    rw [okk] at hw
    injection hw with e1 e2; subst e1; subst e2
    obtain ⟨p1, p2, p3⟩ := hp
    refine ⟨_, _, ⟨rfl, rfl⟩, .inl ?_⟩
    have hzl' : (cellsL z).length = ei.size := Decidable.byContradiction hzl
    unfold execA
    rw [hok, ho]
    simp only [Bool.not_true, Bool.false_eq_true, if_false, kindOf, allocA, ho, hd, hl, hc, hei, bind, Except.bind]
    rw [if_neg (by omega)]
    by_cases h0 : c.toNat * ei.size = 0
    · simp only [h0, if_true]
      have hr : ∀ (m : Nat) (zz : List Value), zz.length = 0 ∨ m = 0 → rep zz m = [] := by
        intro m zz hm
        induction m with
        | zero => rfl
        | succ m ih =>
          rcases hm with hm | hm
          · rw [rep, ih (.inl hm), List.length_eq_zero_iff.1 hm]; rfl
          · omega
      have hq : c.toNat = 0 ∨ ei.size = 0 := Nat.mul_eq_zero.1 h0
      simp only [ne_eq, not_true_eq_false, false_and, if_false]
      rw [hr _ [] (.inl rfl), hr _ (cellsL z) (by rcases hq with hq | hq; exact .inr hq; exact .inl (hzl'.trans hq))]
    · simp only [h0, if_false, hz]
      rw [if_neg (by rintro ⟨_, hh⟩; exact hh hzl')]
  · simp [no] at hw
theorem wLookup_ok {ρ : Operand → Value} {o : Oper} {t : TypeId} {x y : Operand} {c : Bool} {h : AH} {p : Prop} {k : KT} (hok : okOps P o = true) (ho : o.op = .lookup t x y c) (hw : wLookup P ρ t x y c h = .ok (p, k)) (hp : p) : ∃ v h', k.sat v h' ∧ Goes P ρ o h v h' := by
  unfold wLookup at hw
  simp only [bind_ok] at hw
  obtain ⟨d, hd, hw⟩ := hw
  split at hw
  · rename_i key elem
    split at hw
    · rename_i r hx
      simp only [bind_ok] at hw
      obtain ⟨⟨es, cl, own⟩, hm, dk, hdk, z, hz, v, hv, hw⟩ := hw
      rw [okk] at hw
      injection hw with e1 e2; subst e1; subst e2
      refine ⟨_, _, ⟨rfl, rfl⟩, read_goes hok (by rw [ho]; rfl) ?_⟩
      obtain ⟨p1, p2⟩ := hp
      unfold readA
      simp only [ho, lookA, hd, hx, hm, bind, Except.bind, findM, hdk, p1, orNo]
      cases hf : mFind dk (ρ y) es with
      | none =>
        rw [hf] at p2
        simp only [hz]
        unfold mVal at p2
        simp only at p2
        rw [p2]
        cases c <;> rfl
      | some q =>
        obtain ⟨i, u⟩ := q
        rw [hf] at p2
        unfold mVal at p2
        simp only at p2
        subst p2
        cases c <;> rfl
    · simp [no] at hw
  · simp [no] at hw
theorem mapSet_ok' {ρ : Operand → Value} {t : TypeId} {m k x : Operand} {h : AH} {p : Prop} {kt : KT} (hw : wMapSet P ρ t m k x h = .ok (p, kt)) (hp : p) : ∃ h', kt.sat undef h' ∧ mapSet P h t (ρ m) (ρ k) (ρ x) = .ok h' := by
  unfold wMapSet at hw
  simp only [bind_ok] at hw
  obtain ⟨d, hd, hw⟩ := hw
  split at hw
  · rename_i key elem r hx
    simp only [bind_ok] at hw
    obtain ⟨⟨es, cl, own⟩, hm, hw⟩ := hw
    simp only at hw
    rw [ite_no] at hw
    obtain ⟨ho, hw⟩ := hw
    simp only [bind_ok] at hw
    obtain ⟨dk, hdk, hw⟩ := hw
    rw [okk] at hw
    injection hw with e1 e2; subst e1; subst e2
    refine ⟨_, ⟨rfl, rfl⟩, ?_⟩
    unfold mapSet
    simp only [hd, hx, hm, bind, Except.bind, findM, hdk, hp, orNo]
    rw [if_neg ho]
    cases hf : mFind dk (ρ k) es with
    | none => rfl
    | some q => obtain ⟨i, u⟩ := q; rfl
  · simp [no] at hw
theorem wCopy_ok {ρ : Operand → Value} {ts : List TypeId} {args : List Value} {h : AH} {p : Prop} {k : KT} (hw : wCopy P ρ ts args h = .ok (p, k)) (hp : p) : ∃ v h', k.sat v h' ∧ builtinA P h .copy ts args = .ok (.value v, h') := by
  unfold wCopy at hw
  split at hw
  · rename_i t r a dLen dc src
    simp only [bind_ok] at hw
    obtain ⟨d, hd, hw⟩ := hw
    split at hw
    · rename_i elem
      simp only [bind_ok] at hw
      obtain ⟨sl, hsl, size, hsz, ⟨pn, cs⟩, hcs, ⟨ty, c, pl, own⟩, hc, hw⟩ := hw
      simp only at hw
      rw [ite_no] at hw
      obtain ⟨hm, hw⟩ := hw
      rw [okk] at hw
      injection hw with e1 e2; subst e1; subst e2
      obtain ⟨p1, p2, p3, p4⟩ := hp
      have m1 : own = 2 := Decidable.byContradiction fun hh => hm (.inl hh)
      have m2 : a.spot = none := Decidable.byContradiction fun hh => hm (.inr (.inl hh))
      have m3 : ¬ size = 0 := fun hh => hm (.inr (.inr hh))
      have hf := wFirst_ok hcs p1
      have hbase : builtinA P h .copy (t :: r) [.slice (some a) dLen dc, src] = (do let h ← storeC h a cs; .ok (.value (goInt (Nat.min sl dLen : Nat)), h)) := by
        unfold builtinA
        simp only [List.isEmpty_cons, Bool.false_eq_true, if_false, List.headD_cons, hd, hsl, hsz, hf, bind, Except.bind]
      rw [hbase]
      cases hn : (Nat.min sl dLen == 0) with
      | true =>
        have hn0 : Nat.min sl dLen = 0 := by simpa using hn
        have hcs0 : cs = [] := List.length_eq_zero_iff.1 (by rw [p2, hn0]; simp)
        refine ⟨_, _, .inl ⟨rfl, rfl, rfl⟩, ?_⟩
        subst hcs0
        rw [hn0]
        rfl
      | false =>
        have hn0 : Nat.min sl dLen ≠ 0 := by simpa using hn
        have hcs0 : cs ≠ [] := by
          intro e
          rw [e] at p2
          have := p2.symm
          rw [List.length_nil, Nat.mul_eq_zero] at this
          rcases this with h1 | h1
          · exact hn0 h1
          · exact m3 h1
        refine ⟨_, _, .inr ⟨rfl, rfl, rfl⟩, ?_⟩
        have hst : storeC h a cs = .ok (putA h a.block (.cells ty (splice c a.off cs) pl 2)) := by
          unfold storeC
          split
          · exact absurd rfl hcs0
          · rw [hc]
            simp only
            rw [if_pos ⟨m1, p3, m2, p4⟩]
        rw [hst]
        rfl
    · simp [no] at hw
  · simp [no] at hw
theorem wUnsafeString_ok {ρ : Operand → Value} {ts : List TypeId} {args : List Value} {h : AH} {p : Prop} {k : KT} (hw : wUnsafeString P ρ ts args h = .ok (p, k)) (hp : p) : ∃ v h', k.sat v h' ∧ builtinA P h .unsafeString ts args = .ok (.value v, h') := by
  unfold wUnsafeString at hw
  split at hw
  · rename_i t r a kd n
    simp only [bind_ok] at hw
    obtain ⟨⟨ty, c, pl, own⟩, hc, d, hd, hw⟩ := hw
    simp only at hw
    split at hw
    · rename_i e hu
      rw [ite_no] at hw
      obtain ⟨hm, hw⟩ := hw
      rw [okk] at hw
      injection hw with e1 e2; subst e1; subst e2
      obtain ⟨p1, p2, p3, p4⟩ := hp
      have m1 : e = ty := Decidable.byContradiction fun hh => hm (.inl hh)
      have m2 : P.cellsOf ty = 1 := Decidable.byContradiction fun hh => hm (.inr (.inl hh))
      have m3 : ¬ own = 0 := fun hh => hm (.inr (.inr (.inl hh)))
      have m4 : a.spot = none := Decidable.byContradiction fun hh => hm (.inr (.inr (.inr hh)))
      cases hn : (n == 0) with
      | true =>
        have hn0 : n = 0 := by simpa using hn
        refine ⟨_, _, .inl ⟨rfl, rfl, rfl⟩, ?_⟩
        unfold builtinA
        simp only [List.isEmpty_cons, Bool.false_eq_true, if_false, intOfA, bind, Except.bind]
        rw [if_neg (by omega), if_pos hn0]
      | false =>
        have hn0 : n ≠ 0 := by simpa using hn
        refine ⟨_, _, .inr ⟨rfl, rfl, rfl⟩, ?_⟩
        have hg : getC h a n.toNat = .ok ((c.drop a.off).take n.toNat) := by
          unfold getC; rw [hc]; simp only; rw [if_pos ⟨p3, m4⟩]
        unfold builtinA
        simp only [List.isEmpty_cons, Bool.false_eq_true, if_false, intOfA, bind, Except.bind]
        rw [if_neg (by omega), if_neg hn0]
        simp only [hc]
        rw [if_neg m3]
        simp only [List.headD_cons, hd, hu]
        rw [if_neg (by rintro (hh | hh); exact hh m1; exact hh m2), hg]
        simp only [p4]
    · simp [no] at hw
  · simp [no] at hw
theorem opW_ok {ρ : Operand → Value} {o : Oper} {h : AH} {p : Prop} {k : KT} (hw : opW P ρ o h = .ok (p, k)) (hp : p) : ∃ v h', k.sat v h' ∧ Goes P ρ o h v h' := by
  unfold opW at hw
  rw [ite_no] at hw
  obtain ⟨hok, hw⟩ := hw
  have hok : okOps P o = true := by cases hq : okOps P o with | true => rfl | false => rw [hq] at hok; simp at hok
  have l1 : ∀ {x : M (Prop × Value × AH)}, lift1 x = .ok (p, k) → ∃ v h', x = .ok (p, v, h') ∧ k = .ret v h' := by
    intro x hx
    unfold lift1 at hx
    simp only [bind_ok] at hx
    obtain ⟨⟨p1, v, h'⟩, hx, e⟩ := hx
    rw [okk] at e
    injection e with e1 e2
    subst e1; subst e2
    exact ⟨v, h', hx, rfl⟩
  split at hw
  · rename_i t x ho
    obtain ⟨v, h', hx, rfl⟩ := l1 hw
    obtain ⟨hr, rfl⟩ := wLoad_ok ho hx hp
    exact ⟨v, h', ⟨rfl, rfl⟩, read_goes hok (by rw [ho]; rfl) hr⟩
  · rename_i t x y ho
    obtain ⟨v, h', hx, rfl⟩ := l1 hw
    obtain ⟨hr, rfl⟩ := wStore_ok ho hx hp
    exact ⟨undef, h', ⟨rfl, rfl⟩, .inr ⟨exec_eff hok (by rw [ho]; rfl) hr, rfl⟩⟩
  · rename_i t x y ho
    obtain ⟨v, h', hx, rfl⟩ := l1 hw
    obtain ⟨hr, rfl⟩ := wIndexAddr_ok ho hx hp
    exact ⟨v, h', ⟨rfl, rfl⟩, read_goes hok (by rw [ho]; rfl) hr⟩
  · rename_i t x y ho
    obtain ⟨v, h', hx, rfl⟩ := l1 hw
    obtain ⟨hr, rfl⟩ := wIndex_ok ho hx hp
    exact ⟨v, h', ⟨rfl, rfl⟩, read_goes hok (by rw [ho]; rfl) hr⟩
  · rename_i op t x y yt ho
    obtain ⟨v, h', hx, rfl⟩ := l1 hw
    obtain ⟨hr, rfl⟩ := wBin_ok ho hx hp
    exact ⟨v, h', ⟨rfl, rfl⟩, read_goes hok (by rw [ho]; rfl) hr⟩
  · rename_i t x lo hi mx ho
    obtain ⟨v, h', hx, rfl⟩ := l1 hw
    obtain ⟨hr, rfl⟩ := wSlice_ok ho hx hp
    exact ⟨v, h', ⟨rfl, rfl⟩, read_goes hok (by rw [ho]; rfl) hr⟩
  · rename_i args ats ho
    obtain ⟨v, h', hs, ha⟩ := wAppend_ok hw hp
    refine ⟨v, h', hs, .inl (exec_eff hok (by rw [ho]; rfl) ?_)⟩
    unfold effA
    simp only [ho, resolveA, bind, Except.bind, invokeA, builtinA]
    rw [ha]
  · rename_i args ats ho
    obtain ⟨v, h', hs, ha⟩ := wCopy_ok hw hp
    refine ⟨v, h', hs, .inl (exec_eff hok (by rw [ho]; rfl) ?_)⟩
    unfold effA
    simp only [ho, resolveA, bind, Except.bind, invokeA]
    exact ha
  · rename_i args ats ho
    obtain ⟨v, h', hs, ha⟩ := wUnsafeString_ok hw hp
    refine ⟨v, h', hs, .inl (exec_eff hok (by rw [ho]; rfl) ?_)⟩
    unfold effA
    simp only [ho, resolveA, bind, Except.bind, invokeA]
    exact ha
  · rename_i args ats ho
    obtain ⟨v, h', hx, rfl⟩ := l1 hw
    unfold wSliceData at hx
    split at hx
    · rename_i a l c ha
      split at hx
      · rename_i hc
        rw [okk] at hx
        injection hx with e1 e2
        injection e2 with e2 e3
        subst e1; subst e2; subst e3
        refine ⟨_, _, ⟨rfl, rfl⟩, read_goes hok (by rw [ho]; rfl) ?_⟩
        unfold readA
        simp only [ho, hc.2, ha, Bool.false_eq_true, if_false]
        have hc0 : c ≠ 0 := by rintro rfl; exact absurd hc.1 (by decide)
        unfold readB
        exact if_pos ⟨hc0, .inr hp⟩
      · simp [no] at hx
    · simp [no] at hx
  · rename_i s d x ho
    exact wConv_ok hok ho hw hp
  · rename_i t l c ho
    exact wMakeSlice_ok hok ho hw hp
  · rename_i t x y c ho
    exact wLookup_ok hok ho hw hp
  · rename_i t m y x ho
    obtain ⟨h', hs, ha⟩ := mapSet_ok' hw hp
    refine ⟨undef, h', hs, .inr ⟨exec_eff hok (by rw [ho]; rfl) ?_, rfl⟩⟩
    unfold effA
    simp only [ho, bind, Except.bind, ha]
  · rename_i t m y x ho
    obtain ⟨h', hs, ha⟩ := mapSet_ok' hw hp
    refine ⟨undef, h', hs, .inr ⟨exec_eff hok (by rw [ho]; rfl) ?_, rfl⟩⟩
    unfold effA
    simp only [ho, bind, Except.bind, ha]
  · simp [no] at hw
end Go.Ev
