/- Walks by a script: what is asked of data that are not known is laid out as a tree of conditions. -/
import Derived.Test.YtjagockmfdmgoaaGreatDoorEvRule2
namespace Go.Ev
set_option linter.unusedVariables false
set_option linter.unusedSimpArgs false
variable {η : Nat → Value} {P : Program} {B : Nat}

/-- What a contract says: values and heaps, by cases. -/
inductive KT where
  | ret (v : Value) (h : AH)
  | ite (b : Bool) (x y : KT)
  | know (p : Prop) (x : KT)
def KT.sat : KT → Value → AH → Prop
  | .ret v0 h0, v, h => v = v0 ∧ h = h0
  | .ite b x y, v, h => (b = true ∧ x.sat v h) ∨ (b = false ∧ y.sat v h)
  | .know p x, v, h => p ∧ x.sat v h
/-- What a walk asks. -/
inductive W where
  | ite (b : Bool) (x y : W)
  | need (p : Prop) (x : W)
  | know (p : Prop) (x : W)
  | call (f : FuncId) (args : List Value) (h : AH) (k : KT) (x : W)
  | stop (keep : List Nat) (s : AS)
  | done (f : FuncId) (v : Value) (h : AH)
  | fail (m : String)
def W.holds (η : Nat → Value) (P : Program) (B : Nat) (fn : FuncId) (K : List Nat → AS → Prop) (D : Value → AH → Prop) : W → Prop
  | .ite b x y => (b = true → x.holds η P B fn K D) ∧ (b = false → y.holds η P B fn K D)
  | .need p x => p ∧ (p → x.holds η P B fn K D)
  | .know p x => p → x.holds η P B fn K D
  | .call f args h k x => CallSpec η P B f args h k.sat ∧ x.holds η P B fn K D
  | .stop l s => K l s
  | .done f v h => f = fn ∧ D v h
  | .fail _ => False

/-- Cells as they are typed. -/
def intAt (c : List Value) (i : Nat) : Int := match c[i]? with | some (.int _ n) => n | _ => 0
def strAt (c : List Value) (i : Nat) : List UInt8 := match c[i]? with | some (.string s) => s.data.toList | _ => []
def boolAt (c : List Value) (i : Nat) : Bool := match c[i]? with | some (.bool b) => b | _ => false
section
variable (P : Program)
/-- The types of the cells of a value. -/
def cellTypes : Nat → TypeId → M (List TypeId)
  | 0, _ => no "cellTypes"
  | n + 1, t => do
    match ← undA P t with
    | .struct fs => fs.toList.foldlM (fun acc f => do .ok (acc ++ (← cellTypes n f.type))) []
    | .array k e => do .ok ((List.replicate k (← cellTypes n e)).flatten)
    | _ => .ok [t]
def cellTyped (c : List Value) (t : TypeId) (i : Nat) : M Value := do
  match ← undA P t with
  | .int k => .ok (.int k (intAt c i))
  | .string => .ok (strL (strAt c i))
  | .bool => .ok (.bool (boolAt c i))
  | _ => no "a cell of another type"
def cellsTyped (c : List Value) : List TypeId → Nat → M (List Value)
  | [], _ => .ok []
  | t :: ts, i => do .ok ((← cellTyped P c t i) :: (← cellsTyped c ts (i + 1)))
/-- An operation that asks something of its data. -/
def wLoad (ρ : Operand → Value) (t : TypeId) (x : Operand) (h : AH) : M (Prop × Value × AH) := do
  let a ← addrA (ρ x)
  let (_, c, _, _) ← cellsAt h a.block
  if ← isAggA P t then
    let n ← sizeA P t
    let ts ← cellTypes P 20 t
    let vs ← cellsTyped P c ts a.off
    .ok (a.off + n ≤ c.length ∧ (c.drop a.off).take n = vs, aggL vs, h)
  else do
    let v ← cellTyped P c t a.off
    .ok (c[a.off]? = some v, v, h)
def wStore (ρ : Operand → Value) (t : TypeId) (x y : Operand) (h : AH) : M (Prop × Value × AH) := do
  let a ← addrA (ρ x)
  let vs := cellsL (ρ y)
  let (ty, c, p, own) ← cellsAt h a.block
  if vs.length ≠ (← sizeA P t) ∨ vs.isEmpty = true ∨ own ≠ 2 ∨ vs.all oneC = false then no "store" else
  .ok (a.off + vs.length ≤ c.length, undef, putA h a.block (.cells ty (splice c a.off vs) p 2))
def wIndexAddr (ρ : Operand → Value) (t : TypeId) (x ix : Operand) (h : AH) : M (Prop × Value × AH) := do
  let i ← intOfA (ρ ix)
  match ← undA P t, ρ x with
  | .array len elem, .pointer (some a) => do
    let n ← sizeA P elem
    if a.spot = none then .ok (0 ≤ i ∧ i < len, .pointer (some (addO a (i.toNat * n))), h) else no "spot"
  | .slice elem, .slice (some a) len _ => do
    let n ← sizeA P elem
    .ok (0 ≤ i ∧ i < len, .pointer (some (addO a (i.toNat * n))), h)
  | _, _ => no "index"
def byteAt (l : List UInt8) (i : Int) : Int := ((l[i.toNat]?).getD 0).toNat
def wIndex (ρ : Operand → Value) (t : TypeId) (x ix : Operand) (h : AH) : M (Prop × Value × AH) := do
  let i ← intOfA (ρ ix)
  match ← undA P t, ρ x with
  | .string, .string s => .ok (0 ≤ i ∧ i < s.data.toList.length, .int .u8 (byteAt s.data.toList i), h)
  | _, _ => no "index"
def wInt (v : Option Value) (d : Int) : M Int := match v with
  | none => .ok d
  | some v => intOfA v
def wSlice (ρ : Operand → Value) (t : TypeId) (x : Operand) (lo hi mx : Option Operand) (h : AH) : M (Prop × Value × AH) := do
  match ← undA P t, ρ x, mx with
  | .string, .string s, none => do
    let l ← wInt (lo.map ρ) 0
    let u ← wInt (hi.map ρ) s.data.toList.length
    .ok (0 ≤ l ∧ l ≤ u ∧ u ≤ s.data.toList.length, strL ((s.data.toList.drop l.toNat).take (u.toNat - l.toNat)), h)
  | .slice elem, .slice (some a) len cap, none => do
    let l ← wInt (lo.map ρ) 0
    let u ← wInt (hi.map ρ) len
    let size ← sizeA P elem
    if isU cap = false ∨ cap ≠ capU size ∨ size = 0 then no "slice: mark" else
    .ok (0 ≤ l ∧ l ≤ u ∧ u ≤ len ∧ l < len, .slice (some (addO a (l.toNat * size))) (u.toNat - l.toNat) cap, h)
  | _, _, _ => no "slice"
def wBin (ρ : Operand → Value) (op : BinOp) (x y : Operand) (h : AH) : M (Prop × Value × AH) :=
  match ρ x, ρ y, op with
  | .int k a, .int k' b, .quo => if k = k' then .ok (b ≠ 0, .int k (k.wrap (a.tdiv b)), h) else no "kinds"
  | .int k a, .int k' b, .rem => if k = k' then .ok (b ≠ 0, .int k (a.tmod b), h) else no "kinds"
  | .int k a, .int _ b, .shl => .ok (0 ≤ b, .int k (k.wrap (a * 2 ^ (min b.toNat k.bits))), h)
  | .int k a, .int _ b, .shr => .ok (0 ≤ b, .int k (a.fdiv (2 ^ (min b.toNat k.bits))), h)
  | .string a, .string b, .add => .ok (a.data.toList.length + b.data.toList.length ≤ 9223372036854775807, strL (a.data.toList ++ b.data.toList), h)
  | _, _, _ => no "binop"
end

/-- One operation at the front of a region, its value told. -/
theorem exec_eff {ρ : Operand → Value} {o : Oper} {h : AH} {r : AN × AH} (hok : okOps P o = true) (hk : kindOf P o.op = .effect) (hr : effA P ρ o h = .ok r) : execA P ρ o h = .ok r := by
  unfold execA
  rw [hok, hk]
  simp only [Bool.not_true, Bool.false_eq_true, if_false, hr]
theorem wLoad_ok {ρ : Operand → Value} {o : Oper} {t : TypeId} {x : Operand} {h h' : AH} {p : Prop} {v : Value} (ho : o.op = .load t x) (hw : wLoad P ρ t x h = .ok (p, v, h')) (hp : p) : readA P ρ o h = .ok v ∧ h' = h := by
  unfold wLoad at hw
  simp only [bind_ok] at hw
  obtain ⟨a, ha, ⟨ty, c, pl, own⟩, hc, g, hg, hw⟩ := hw
  have hsp : a.spot = none := by
    unfold addrA at ha
    split at ha
    · split at ha
      · rename_i h1; rw [okk] at ha; subst ha; exact h1
      · simp [no] at ha
    · simp [no] at ha
  cases g with
  | true =>
    simp only [if_true, bind_ok] at hw
    obtain ⟨n, hn, ts, _, vs, _, hw⟩ := hw
    rw [okk] at hw
    injection hw with e1 e2
    injection e2 with e2 e3
    subst e1; subst e2; subst e3
    refine ⟨?_, rfl⟩
    unfold readA
    simp only [ho, ha, loadA, hg, hn, bind, Except.bind, if_true, getC, hc]
    rw [if_pos ⟨hp.1, hsp⟩]
    simp only [hp.2]
  | false =>
    simp only [Bool.false_eq_true, if_false, bind_ok] at hw
    obtain ⟨v1, _, hw⟩ := hw
    rw [okk] at hw
    injection hw with e1 e2
    injection e2 with e2 e3
    subst e1; subst e2; subst e3
    refine ⟨?_, rfl⟩
    have hl := (List.getElem?_eq_some_iff.1 hp).1
    have hd : (c.drop a.off).take 1 = [v1] := by
      rw [List.drop_eq_getElem_cons hl]
      simp [(List.getElem?_eq_some_iff.1 hp).2]
    unfold readA
    simp only [ho, ha, loadA, hg, bind, Except.bind, Bool.false_eq_true, if_false, getC, hc]
    rw [if_pos ⟨by omega, hsp⟩]
    simp only [hd]
theorem addr_spot {v : Value} {a : Addr} (ha : addrA v = .ok a) : a.spot = none := by
  unfold addrA at ha
  split at ha
  · split at ha
    · rename_i h1; rw [okk] at ha; subst ha; exact h1
    · simp [no] at ha
  · simp [no] at ha
theorem wStore_ok {ρ : Operand → Value} {o : Oper} {t : TypeId} {x y : Operand} {h h' : AH} {p : Prop} {v : Value} (ho : o.op = .store t x y) (hw : wStore P ρ t x y h = .ok (p, v, h')) (hp : p) : effA P ρ o h = .ok (.skip, h') ∧ v = undef := by
  unfold wStore at hw
  simp only [bind_ok] at hw
  obtain ⟨a, ha, ⟨ty, c, pl, own⟩, hc, n, hn, hw⟩ := hw
  have hsp := addr_spot ha
  simp only at hw
  split at hw
  · simp [no] at hw
  · rename_i hcond
    rw [okk] at hw
    injection hw with e1 e2
    injection e2 with e2 e3
    subst e1; subst e2; subst e3
    refine ⟨?_, rfl⟩
    have h1 : (cellsL (ρ y)).length = n := Decidable.byContradiction fun hh => hcond (.inl hh)
    have h2 : ¬ (cellsL (ρ y)).isEmpty = true := fun hh => hcond (.inr (.inl hh))
    have h3 : own = 2 := Decidable.byContradiction fun hh => hcond (.inr (.inr (.inl hh)))
    have h4 : (cellsL (ρ y)).all oneC = true := by
      cases hq : (cellsL (ρ y)).all oneC with
      | true => rfl
      | false => exact absurd (.inr (.inr (.inr hq))) hcond
    have hst : storeC h a (cellsL (ρ y)) = .ok (putA h a.block (.cells ty (splice c a.off (cellsL (ρ y))) pl 2)) := by
      unfold storeC
      split
      · rename_i he; rw [he] at h2; simp at h2
      · rw [hc]
        simp only
        rw [if_pos ⟨h3, hp, hsp, h4⟩]
    unfold effA
    simp only [ho, ha, bind, Except.bind, storeA, hn]
    rw [if_neg (by rw [h1]; simp), hst]
theorem wIndexAddr_ok {ρ : Operand → Value} {o : Oper} {t : TypeId} {x y : Operand} {h h' : AH} {p : Prop} {v : Value} (ho : o.op = .indexAddr t x y) (hw : wIndexAddr P ρ t x y h = .ok (p, v, h')) (hp : p) : readA P ρ o h = .ok v ∧ h' = h := by
  unfold wIndexAddr at hw
  simp only [bind_ok] at hw
  obtain ⟨i, hi, d, hd, hw⟩ := hw
  split at hw
  · rename_i len elem a hx
    simp only [bind_ok] at hw
    obtain ⟨n, hn, hw⟩ := hw
    split at hw
    · rename_i hs
      rw [okk] at hw
      injection hw with e1 e2
      injection e2 with e2 e3
      subst e1; subst e2; subst e3
      refine ⟨?_, rfl⟩
      unfold readA
      simp only [ho, hi, hd, hx, hn, bind, Except.bind]
      rw [if_pos ⟨hp.1, hp.2, hs⟩]
    · simp [no] at hw
  · rename_i elem a len cap hx
    simp only [bind_ok] at hw
    obtain ⟨n, hn, hw⟩ := hw
    rw [okk] at hw
    injection hw with e1 e2
    injection e2 with e2 e3
    subst e1; subst e2; subst e3
    refine ⟨?_, rfl⟩
    unfold readA
    simp only [ho, hi, hd, hx, hn, bind, Except.bind]
    rw [if_pos hp]
  · simp [no] at hw
theorem wIndex_ok {ρ : Operand → Value} {o : Oper} {t : TypeId} {x y : Operand} {h h' : AH} {p : Prop} {v : Value} (ho : o.op = .index t x y) (hw : wIndex P ρ t x y h = .ok (p, v, h')) (hp : p) : readA P ρ o h = .ok v ∧ h' = h := by
  unfold wIndex at hw
  simp only [bind_ok] at hw
  obtain ⟨i, hi, d, hd, hw⟩ := hw
  split at hw
  · rename_i s hx
    rw [okk] at hw
    injection hw with e1 e2
    injection e2 with e2 e3
    subst e1; subst e2; subst e3
    refine ⟨?_, rfl⟩
    have hlt : i.toNat < s.data.toList.length := by omega
    unfold readA
    simp only [ho, hi, hd, hx, bind, Except.bind]
    rw [if_pos hp.1, List.getElem?_eq_getElem hlt]
    simp only [byteAt, List.getElem?_eq_getElem hlt, Option.getD_some]
  · simp [no] at hw
theorem wBin_ok {ρ : Operand → Value} {o : Oper} {op : BinOp} {t yt : TypeId} {x y : Operand} {h h' : AH} {p : Prop} {v : Value} (ho : o.op = .binOp op t x y yt) (hw : wBin ρ op x y h = .ok (p, v, h')) (hp : p) : readA P ρ o h = .ok v ∧ h' = h := by
  unfold wBin at hw
  split at hw
  · rename_i k a k' b hx hy
    split at hw
    · rename_i hk
      rw [okk] at hw
      injection hw with e1 e2
      injection e2 with e2 e3
      subst e1; subst e2; subst e3; subst hk
      refine ⟨?_, rfl⟩
      unfold readA
      simp only [ho, hx, hy, guardOk, isEq, bind, Except.bind, binA, isShift, intA, if_true, Bool.false_eq_true, if_false]
      rw [if_neg hp]
    · simp [no] at hw
  · rename_i k a k' b hx hy
    split at hw
    · rename_i hk
      rw [okk] at hw
      injection hw with e1 e2
      injection e2 with e2 e3
      subst e1; subst e2; subst e3; subst hk
      refine ⟨?_, rfl⟩
      unfold readA
      simp only [ho, hx, hy, guardOk, isEq, bind, Except.bind, binA, isShift, intA, if_true, Bool.false_eq_true, if_false]
      rw [if_neg hp]
    · simp [no] at hw
  · rename_i k a k' b hx hy
    rw [okk] at hw
    injection hw with e1 e2
    injection e2 with e2 e3
    subst e1; subst e2; subst e3
    refine ⟨?_, rfl⟩
    unfold readA
    simp only [ho, hx, hy, guardOk, isEq, bind, Except.bind, binA, isShift, shiftA, if_true]
    rw [if_neg (by omega)]
  · rename_i k a k' b hx hy
    rw [okk] at hw
    injection hw with e1 e2
    injection e2 with e2 e3
    subst e1; subst e2; subst e3
    refine ⟨?_, rfl⟩
    unfold readA
    simp only [ho, hx, hy, guardOk, isEq, bind, Except.bind, binA, isShift, shiftA, if_true]
    rw [if_neg (by omega)]
  · rename_i a b hx hy
    rw [okk] at hw
    injection hw with e1 e2
    injection e2 with e2 e3
    subst e1; subst e2; subst e3
    refine ⟨?_, rfl⟩
    unfold readA
    have hs : strA .add a.data.toList b.data.toList = .ok (strL (a.data.toList ++ b.data.toList)) := if_pos hp
    have hb : ∀ h : AH, binA P h .add t (.string a) (.string b) = strA .add a.data.toList b.data.toList := fun _ => rfl
    rw [← hb h] at hs
    generalize Value.string a = u at hx hs
    generalize Value.string b = u2 at hy hs
    clear hp
    simp only [ho, hx, hy, guardOk, isEq, bind, Except.bind, if_true, hs]
  · simp [no] at hw
theorem wSlice_ok {ρ : Operand → Value} {o : Oper} {t : TypeId} {x : Operand} {lo hi mx : Option Operand} {h h' : AH} {p : Prop} {v : Value} (ho : o.op = .slice t x lo hi mx) (hw : wSlice P ρ t x lo hi mx h = .ok (p, v, h')) (hp : p) : readA P ρ o h = .ok v ∧ h' = h := by
  unfold wSlice at hw
  simp only [bind_ok] at hw
  obtain ⟨d, hd, hw⟩ := hw
  have key : ∀ (v? : Option Value) (y : Nat) (n : Int) (dflt : Int), wInt v? dflt = .ok n → ∀ w, v? = some w → 0 ≤ n → n ≤ y → boundA w y = .ok n.toNat := by
    intro v? y n dflt h1 w h2 h3 h4
    subst h2
    unfold wInt at h1
    simp only at h1
    unfold boundA
    simp only [h1, bind, Except.bind]
    rw [if_pos ⟨h3, h4⟩]
  split at hw
  · rename_i s hx
    simp only [bind_ok] at hw
    obtain ⟨l, hl, u, hu, hw⟩ := hw
    rw [okk] at hw
    injection hw with e1 e2
    injection e2 with e2 e3
    subst e1; subst e2; subst e3
    refine ⟨?_, rfl⟩
    obtain ⟨p1, p2, p3⟩ := hp
    have hsz : s.size = s.data.toList.length := rfl
    unfold readA
    simp only [ho, hd, hx, sliceA, bind, Except.bind, Option.map_none, Option.isSome_none, Bool.false_eq_true, if_false]
    have hb : boundsA s.size s.size (lo.map ρ) (hi.map ρ) none = .ok (l.toNat, u.toNat, s.size) := by
      unfold boundsA
      simp only [bind, Except.bind]
      cases hhi : hi.map ρ with
      | none =>
        rw [hhi] at hu
        unfold wInt at hu; rw [okk] at hu
        simp only
        cases hlo : lo.map ρ with
        | none =>
          rw [hlo] at hl
          unfold wInt at hl; rw [okk] at hl
          simp only
          rw [← hl, ← hu, hsz]; simp
        | some w =>
          simp only
          rw [key _ s.size l 0 hl w hlo p1 (by omega)]
          simp only
          rw [← hu, hsz]; simp
      | some w2 =>
        simp only
        rw [key _ s.size u _ hu w2 hhi (by omega) (by omega)]
        simp only
        cases hlo : lo.map ρ with
        | none =>
          rw [hlo] at hl
          unfold wInt at hl; rw [okk] at hl
          simp only
          rw [← hl]; simp
        | some w =>
          simp only
          rw [key _ u.toNat l 0 hl w hlo p1 (by omega)]
    rw [hb]
  · rename_i elem a len cap hx
    simp only [bind_ok] at hw
    obtain ⟨l, hl, u, hu, size, hsz, hw⟩ := hw
    split at hw
    · simp [no] at hw
    · rename_i hcond
      rw [okk] at hw
      injection hw with e1 e2
      injection e2 with e2 e3
      subst e1; subst e2; subst e3
      refine ⟨?_, rfl⟩
      obtain ⟨p1, p2, p3, p4⟩ := hp
      have c1 : isU cap = true := by cases hq : isU cap with | true => rfl | false => exact absurd (.inl hq) hcond
      have c2 : cap = capU size := Decidable.byContradiction fun hh => hcond (.inr (.inl hh))
      have c3 : ¬ size = 0 := fun hh => hcond (.inr (.inr hh))
      unfold readA
      simp only [ho, hd, hx, sliceA, bind, Except.bind, hsz, c1, if_true, Option.map_none]
      have hb : boundsA len len (lo.map ρ) (hi.map ρ) none = .ok (l.toNat, u.toNat, len) := by
        unfold boundsA
        simp only [bind, Except.bind]
        cases hhi : hi.map ρ with
        | none =>
          rw [hhi] at hu
          unfold wInt at hu; rw [okk] at hu
          simp only
          cases hlo : lo.map ρ with
          | none =>
            rw [hlo] at hl
            unfold wInt at hl; rw [okk] at hl
            simp only
            rw [← hl, ← hu]; simp
          | some w =>
            simp only
            rw [key _ len l 0 hl w hlo p1 (by omega)]
            simp only
            rw [← hu]; simp
        | some w2 =>
          simp only
          rw [key _ len u _ hu w2 hhi (by omega) (by omega)]
          simp only
          cases hlo : lo.map ρ with
          | none =>
            rw [hlo] at hl
            unfold wInt at hl; rw [okk] at hl
            simp only
            rw [← hl]; simp
          | some w =>
            simp only
            rw [key _ u.toNat l 0 hl w hlo p1 (by omega)]
      rw [hb]
      simp only
      rw [if_neg (by intro hh; rcases hh with hh | hh; exact hh c2; exact c3 hh)]
      simp only [Option.isSome_none, Bool.false_eq_true, if_false]
      rw [if_pos (by omega)]
      rfl
  · simp [no] at hw
end Go.Ev
