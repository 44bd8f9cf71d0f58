/- Walks by a script: the walk. -/
import Derived.Test.YtjagockmfdmgoaaGreatDoorEvW3
namespace Go.Ev
set_option linter.unusedVariables false
set_option linter.unusedSimpArgs false
variable {η : Nat → Value} {P : Program} {B : Nat}
inductive Sc where
  | steps (n : Nat) (k : Sc)
  | bit (d : Nat) (a b : Sc)
  | op (k : Sc)
  | call (kt : KT) (k : Sc)
  | both (a b : Sc)
  | stop (keep : List Nat) (rn : Option Rn)
  | done (rn : Option Rn)
  | reg (k : Sc)
/-- Without conditions: something is so. -/
def KT.clean : KT → Bool
  | .ret _ _ => true
  | .ite _ x y => x.clean && y.clean
  | .know _ _ => false
theorem KT.some_sat : ∀ {k : KT}, k.clean = true → ∃ v h, k.sat v h
  | .ret v h, _ => ⟨v, h, rfl, rfl⟩
  | .ite b x y, hc => by
    simp only [KT.clean, Bool.and_eq_true] at hc
    cases b with
    | true => obtain ⟨v, h, hs⟩ := KT.some_sat hc.1; exact ⟨v, h, .inl ⟨rfl, hs⟩⟩
    | false => obtain ⟨v, h, hs⟩ := KT.some_sat hc.2; exact ⟨v, h, .inr ⟨rfl, hs⟩⟩
  | .know _ _, hc => by cases hc
def walkK (f : Value → AH → Sc → W) : KT → Sc → W
  | .ret v h, k => f v h k
  | .ite b x y, .both a c => .ite b (walkK f x a) (walkK f y c)
  | .know p x, k => .know p (walkK f x k)
  | .ite .., _ => .fail "both"
def canonS (keep : List Nat) (s : AS) : AS := ⟨{ s.fr with tm := canonT keep s.fr.tm s.fr.n }, s.cs, s.hp⟩
/-- Nothing is told beyond the last temporary. -/
def tmOk (n : Nat) : T Value → Nat → Nat → Bool
  | .nil, _, _ => true
  | .node o l r, a, c => (o.isNone || decide (c < n)) && tmOk n l (2 * a) (a + c) && tmOk n r (2 * a) (2 * a + c)
theorem tmOk_at {n : Nat} : ∀ {t : T Value} {a c : Nat}, tmOk n t a c = true → ∀ i, n ≤ a * i + c → t.get i = none
  | .nil, _, _, _, _, _ => rfl
  | .node o l r, a, c, h, i, hi => by
    simp only [tmOk, Bool.and_eq_true, Bool.or_eq_true, decide_eq_true_eq, Option.isNone_iff_eq_none] at h
    unfold T.get
    by_cases h0 : i = 0
    · rw [if_pos h0]; subst h0
      rcases h.1.1 with h1 | h1
      · exact h1
      · omega
    · rw [if_neg h0]
      by_cases h1 : i % 2 = 1
      · rw [if_pos h1]
        refine tmOk_at h.1.2 _ ?_
        have hh : i = 2 * (i / 2) + 1 := by omega
        have : a * i = 2 * a * (i / 2) + a := by
          conv => lhs; rw [hh]
          rw [Nat.mul_add, Nat.mul_one, ← Nat.mul_assoc, Nat.mul_comm a 2]
        omega
      · rw [if_neg h1]
        refine tmOk_at h.2 _ ?_
        have hh : i = 2 * (i / 2 - 1) + 2 := by omega
        have : a * i = 2 * a * (i / 2 - 1) + 2 * a := by
          conv => lhs; rw [hh]
          rw [Nat.mul_add, ← Nat.mul_assoc, Nat.mul_comm a 2]
        omega
theorem tmOk_get {n : Nat} {t : T Value} (h : tmOk n t 1 0 = true) : ∀ i, n ≤ i → t.get i = none := fun i hi => tmOk_at h i (by omega)
/-- One operation of a region, one after another. -/
def seqOp (P : Program) (nest : Nest) (base i : Nat) (ρ : Operand → Value) (o : Oper) (h : AH) : M (Value × AH) :=
  match kindOf P o.op with
  | .read => do
    let v ← readA P ρ o h
    .ok (v, h)
  | .alloc => do
    let (v, b) ← allocA P ρ o (base + i)
    .ok (v, putA h (base + i) b)
  | .effect => effRun P nest ρ o h
/-- A region, one operation after another. -/
def regSeq (P : Program) (nest : Nest) (n base : Nat) (ops : List Oper) : List Nat → T Value → AH → M (T Value × AH)
  | [], tm, h => .ok (tm, h)
  | i :: is, tm, h => match ops[i]? with
    | none => no "regSeq"
    | some o => do
      let want ← wantedA ops tm o
      let (v, h) ← (if want then seqOp P nest base i (evA tm) o h else .ok (undef, h) : M (Value × AH))
      let tm ← putT n tm o.dst v
      regSeq P nest n base ops is tm h
def orderOkS (ops : List Oper) (o : Oper) (mask : Nat) : List Oper → Nat → Bool
  | [], _ => true
  | x :: l, j => (!clash ops x o || mask.testBit j) && orderOkS ops o mask l (j + 1)
def isRead : Kind → Bool
  | .read => true
  | _ => false
def isEffect : Kind → Bool
  | .effect => true
  | _ => false
/-- Is it in an order with all that is not a read; with all, if it is an effect? -/
def chainOk (P : Program) (k : Kind) (mask : Nat) : List Oper → Nat → Bool
  | [], _ => true
  | x :: l, j => ((isRead (kindOf P x.op) && !isEffect k) || mask.testBit j) && chainOk P k mask l (j + 1)
def statOk (P : Program) (ops : List Oper) : List Oper → Nat → List Nat → List Oper → Bool
  | [], _, _, _ => true
  | o :: l, i, masks, prev => match maskOf masks i o.after.toList with
    | .ok m => orderOkS ops o m prev 0 && okOps P o && chainOk P (kindOf P o.op) m prev 0 && statOk P ops l (i + 1) (masks ++ [m]) (prev ++ [o])
    | .error _ => false
theorem orderOkS_eq {ops : List Oper} {o : Oper} {mask : Nat} : ∀ {l : List Ent} {j : Nat}, orderOk ops o mask l j = orderOkS ops o mask (l.map (·.o)) j
  | [], _ => rfl
  | x :: l, j => by simp only [orderOk, List.map_cons, orderOkS, orderOkS_eq (l := l)]
theorem chain_at {k : Kind} {mask : Nat} : ∀ {l : List Oper} {j : Nat}, chainOk P k mask l j = true → ∀ t o, l[t]? = some o → (isRead (kindOf P o.op) = false ∨ isEffect k = true) → mask.testBit (j + t) = true
  | [], _, _, t, o, ho, _ => by simp at ho
  | x :: l, j, h, t, o, ho, hk => by
    simp only [chainOk, Bool.and_eq_true, Bool.or_eq_true, Bool.not_eq_true'] at h
    cases t with
    | zero =>
      simp at ho; subst ho
      rcases h.1 with h1 | h1
      · rcases hk with hk | hk
        · rw [h1.1] at hk; cases hk
        · rw [h1.2] at hk; cases hk
      · exact h1
    | succ t =>
      have := chain_at (l := l) (j := j + 1) h.2 t o (by simpa using ho) hk
      rw [show j + (t + 1) = j + 1 + t by omega]; exact this
/-- What is there of the region when so many operations are done. -/
structure RegInv (P : Program) (base : Nat) (prev : List Oper) (rs : RS) (hq : AH) : Prop where
  ents : rs.ents.map (·.o) = prev
  ee : ∀ j, j ∈ rs.ee → ∃ o, prev[j]? = some o ∧ isRead (kindOf P o.op) = false
  al : ∀ p, p ∈ rs.al → ∃ o, prev[p.1]? = some o ∧ isRead (kindOf P o.op) = false
  hp : ∀ m : Nat, (∀ p, p ∈ rs.al → m.testBit p.1 = true) → withAl m rs.h rs.al = hq
  fin : finalH rs.h rs.al = hq
theorem readsOk_chain {mask : Nat} {al : List (Nat × Nat × AObj)} {h : AH} : ∀ {l : List Ent} {j : Nat}, (∀ t o, (l.map (·.o))[t]? = some o → mask.testBit (j + t) = true) → readsOk P mask al h l j = true
  | [], _, _ => rfl
  | x :: l, j, hk => by
    simp only [readsOk, Bool.and_eq_true, Bool.or_eq_true]
    refine ⟨.inl (.inr (by have := hk 0 x.o (by simp); simpa using this)), readsOk_chain fun t o ho => ?_⟩
    have := hk (t + 1) o (by simpa using ho)
    rw [show j + 1 + t = j + (t + 1) by omega]; exact this
theorem regLoop_seq {nest : Nest} {n base : Nat} {ops : List Oper} : ∀ (l : List Oper) (i : Nat) (rs : RS) (tm' : T Value) (h' hq : AH) (prev : List Oper), RegInv P base prev rs hq → prev.length = i → ops.drop i = l → statOk P ops l i rs.masks prev = true → regSeq P nest n base ops (List.range' i l.length) rs.tm hq = .ok (tm', h') →
    ∃ rs', regLoop P n base nest ops l i rs = .ok rs' ∧ rs'.tm = tm' ∧ finalH rs'.h rs'.al = h'
  | [], i, rs, tm', h', hq, prev, R, hp, hl, hs, hqq => by
    simp only [List.length_nil, List.range'_zero, regSeq] at hqq
    rw [okk] at hqq
    injection hqq with e1 e2
    exact ⟨rs, rfl, e1, R.fin.trans e2⟩
  | o :: l, i, rs, tm', h', hq, prev, R, hp, hl, hs, hqq => by
    have hi : ops[i]? = some o := by
      have := congrArg (fun x => x[0]?) hl
      simpa [List.getElem?_drop] using this
    have hl' : ops.drop (i + 1) = l := by
      have := congrArg List.tail hl
      simpa [List.tail_drop] using this
    unfold statOk at hs
    split at hs
    · rename_i m hm
      simp only [Bool.and_eq_true] at hs
      obtain ⟨⟨⟨h1, h2⟩, h3⟩, h4⟩ := hs
      rw [List.length_cons, List.range'_succ, regSeq, hi] at hqq
      simp only [bind_ok] at hqq
      obtain ⟨want, hw, ⟨v, h1'⟩, hv, tm1, ht, hqq⟩ := hqq
      simp only at ht hqq
      have hmal : ∀ p, p ∈ rs.al → m.testBit p.1 = true := fun p hpm => by
        obtain ⟨x, hx, hk⟩ := R.al p hpm
        have := chain_at h3 p.1 x hx (.inl hk)
        rw [Nat.zero_add] at this; exact this
      have hmee : ∀ j, j ∈ rs.ee → m.testBit j = true := fun j hj => by
        obtain ⟨x, hx, hk⟩ := R.ee j hj
        have := chain_at h3 j x hx (.inl hk)
        rw [Nat.zero_add] at this; exact this
      have hH : withAl m rs.h rs.al = hq := R.hp m hmal
      have grow : ∀ {x : Oper} {j : Nat} {Q : Oper → Prop}, (∃ y, prev[j]? = some y ∧ Q y) → ∃ y, (prev ++ [x])[j]? = some y ∧ Q y := by
        rintro x j Q ⟨y, hy, hQ⟩
        exact ⟨y, by rw [List.getElem?_append_left (List.getElem?_eq_some_iff.1 hy).1]; exact hy, hQ⟩
      have here : (prev ++ [o])[i]? = some o := by rw [← hp, List.getElem?_append_right (Nat.le_refl _), Nat.sub_self]; rfl
      have key : ∃ rs1, regStep P n base nest ops i o rs = .ok rs1 ∧ rs1.tm = tm1 ∧ rs1.masks = rs.masks ++ [m] ∧ RegInv P base (prev ++ [o]) rs1 h1' := by
        unfold regStep
        simp only [hm, bind, Except.bind]
        rw [if_neg (by rw [orderOkS_eq, R.ents, h1]; simp)]
        simp only [hw]
        cases want with
        | false =>
          simp only [Bool.false_eq_true, if_false] at hv
          rw [okk] at hv
          injection hv with e1 e2
          subst e1; subst e2
          simp only [Bool.not_false, if_true, ht]
          exact ⟨_, rfl, rfl, rfl, ⟨by simp [R.ents], fun j hj => grow (R.ee j hj), fun p hp => grow (R.al p hp), R.hp, R.fin⟩⟩
        | true =>
          simp only [if_true] at hv
          unfold seqOp at hv
          simp only [Bool.not_true, Bool.false_eq_true, if_false, h2]
          cases hk : kindOf P o.op with
          | read =>
            rw [hk] at hv
            simp only [bind_ok] at hv
            obtain ⟨v1, hv1, hv⟩ := hv
            rw [okk] at hv
            injection hv with e1 e2
            subst e1; subst e2
            simp only [hH, hv1]
            rw [if_neg (by
              simp only [Bool.not_eq_true', Bool.not_eq_false']
              intro hh
              have : ((rs.ee.zip rs.hh).all fun p => m.testBit p.1 || sameRead P { o, mask := m, tm := rs.tm, want := true, v := v1, kind := .read, obj := none } rs.al p.2) = true := by
                rw [List.all_eq_true]
                intro p hpz
                have := hmee p.1 (List.of_mem_zip hpz).1
                rw [this]; rfl
              first | (rw [this] at hh; cases hh) | (rw [hh] at this; cases this))]
            simp only [ht]
            exact ⟨_, rfl, rfl, rfl, ⟨by simp [R.ents], fun j hj => grow (R.ee j hj), fun p hp => grow (R.al p hp), R.hp, R.fin⟩⟩
          | alloc =>
            rw [hk] at hv
            simp only [bind_ok] at hv
            obtain ⟨⟨v1, b⟩, hv1, hv⟩ := hv
            rw [okk] at hv
            injection hv with e1 e2
            subst e1; subst e2
            simp only [hv1, ht]
            refine ⟨_, rfl, rfl, rfl, ⟨by simp [R.ents], fun j hj => grow (R.ee j hj), fun p hp' => ?_, fun m' hm' => ?_, ?_⟩⟩
            · rcases List.mem_cons.1 hp' with rfl | hp'
              · exact ⟨o, here, by rw [hk]; rfl⟩
              · exact grow (R.al p hp')
            · show (if m'.testBit i = true then putA (withAl m' rs.h rs.al) (base + i) b else _) = _
              rw [if_pos (hm' (i, base + i, b) (by simp)), R.hp m' fun p hp' => hm' p (by simp [hp'])]
            · show putA (finalH rs.h rs.al) (base + i) b = _
              rw [R.fin]
          | effect =>
            rw [hk] at hv
            simp only at hv
            have hall : (rs.ee.all fun j => m.testBit j) = true := by rw [List.all_eq_true]; exact fun j hj => hmee j hj
            have hro : ∀ al hh, readsOk P m al hh rs.ents 0 = true := fun al hh => readsOk_chain fun t x hx => by
              rw [R.ents] at hx
              exact chain_at h3 t x hx (.inr (by rw [hk]; rfl))
            have hfil : (rs.al.filter fun p => !m.testBit p.1) = [] := by
              rw [List.filter_eq_nil_iff]
              intro p hpm
              rw [hmal p hpm]; simp
            simp only [hall, Bool.not_true, Bool.false_eq_true, if_false, hH, hv, hro, ht, hfil]
            refine ⟨_, rfl, rfl, rfl, ⟨by simp [R.ents], fun j hj => ?_, (fun p hp' => by cases hp'), fun m' _ => rfl, rfl⟩⟩
            rcases List.mem_append.1 hj with hj | hj
            · exact grow (R.ee j hj)
            · rw [List.mem_singleton] at hj; subst hj
              exact ⟨o, here, by rw [hk]; rfl⟩
      obtain ⟨rs1, e1, e2, e3, e4⟩ := key
      obtain ⟨rs', g1, g2, g3⟩ := regLoop_seq (nest := nest) l (i + 1) rs1 tm' h' h1' (prev ++ [o]) e4 (by simp [hp]) hl' (by rw [e3]; exact h4) (by rw [e2]; exact hqq)
      refine ⟨rs', ?_, g2, g3⟩
      rw [regLoop]
      simp only [e1, bind, Except.bind]
      exact g1
    · cases hs
theorem regionA_seq {nest : Nest} {n : Nat} {ops : List Oper} {tm tm' : T Value} {h h' : AH} (hs : statOk P ops ops 0 [] [] = true) (hq : regSeq P nest n h.next ops (List.range ops.length) tm { h with next := h.next + ops.length } = .ok (tm', h')) :
    regionA P n nest ops tm h = .ok (tm', h') := by
  rw [List.range_eq_range'] at hq
  obtain ⟨rs', g1, g2, g3⟩ := regLoop_seq (nest := nest) (base := h.next) (n := n) ops 0 { tm, h := { h with next := h.next + ops.length }, hh := [{ h with next := h.next + ops.length }], ee := [], al := [], masks := [], ents := [] } tm' h' { h with next := h.next + ops.length } [] ⟨rfl, (fun j hj => by cases hj), (fun p hp => by cases hp), fun _ _ => rfl, rfl⟩ rfl rfl hs hq
  unfold regionA
  simp only [g1, bind, Except.bind]
  rw [g3, g2]
/-- Steps inside a drawn region. -/
def runG (P : Program) (base : Nat) : Nat → AS → M AS
  | 0, s => .ok s
  | m + 1, s => match s.fr.todo with
    | .inRegion ops (i :: rest) :: k => match ops.toList[i]? with
      | none => no "runG"
      | some o => do
        let want ← wantedA ops.toList s.fr.tm o
        let (v, h) ← (if want then seqOp P noNest base i (evA s.fr.tm) o s.hp else .ok (undef, s.hp) : M (Value × AH))
        let tm ← putT s.fr.n s.fr.tm o.dst v
        runG P base m ⟨{ s.fr with tm, todo := .inRegion ops rest :: k }, s.cs, h⟩
    | _ => no "runG"
def walkR (P : Program) (kS : Sc → AS → W) (base : Nat) : Nat → Bool → Sc → AS → W
  | 0, _, _, _ => .fail "fuel"
  | u + 1, c, .steps n k, s => match runG P base n s with
    | .ok s' => walkR P kS base u c k s'
    | .error e => .fail e
  | u + 1, c, .bit d a b, s => match s.fr.tm.get d with
    | some (.bool x) => .ite x (walkR P kS base u c a ⟨{ s.fr with tm := s.fr.tm.set d (.bool true) }, s.cs, s.hp⟩) (walkR P kS base u c b ⟨{ s.fr with tm := s.fr.tm.set d (.bool false) }, s.cs, s.hp⟩)
    | _ => .fail "bit"
  | u + 1, c, .op k, s => match s.fr.todo with
    | .inRegion ops (i :: rest) :: ki => match ops.toList[i]? with
      | some o => match wantedA ops.toList s.fr.tm o, opW P (evA s.fr.tm) o s.hp, kindOf P o.op with
        | .ok true, .ok (_, _), .alloc => .fail "op: alloc"
        | .ok true, .ok (p, kt), _ => .need p (walkK (fun v h k => match putT s.fr.n s.fr.tm o.dst v with
            | .ok tm => walkR P kS base u c k ⟨{ s.fr with tm, todo := .inRegion ops rest :: ki }, s.cs, h⟩
            | .error e => .fail e) kt k)
        | .ok _, .error e, _ => .fail e
        | _, _, _ => .fail "op: wanted"
      | none => .fail "op"
    | _ => .fail "op: no region"
  | u + 1, true, .call kt k, s => match s.fr.todo with
    | .inRegion ops (i :: rest) :: ki => match ops.toList[i]? with
      | some o => match wantedA ops.toList s.fr.tm o, effA P (evA s.fr.tm) o s.hp, kindOf P o.op with
        | .ok true, .ok (.enter g args, h1), .effect => if !kt.clean then .fail "call: conditions" else .call g args h1 kt (walkK (fun v h k => match putT s.fr.n s.fr.tm o.dst v with
            | .ok tm => walkR P kS base u false k ⟨{ s.fr with tm, todo := .inRegion ops rest :: ki }, s.cs, h⟩
            | .error e => .fail e) kt k)
        | _, _, _ => .fail "call: no call"
      | none => .fail "call"
    | _ => .fail "call: no region"
  | _ + 1, _, .reg k, s => match s.fr.todo with
    | .inRegion _ [] :: ki => kS k ⟨{ s.fr with todo := ki }, s.cs, s.hp⟩
    | _ => .fail "reg: not the end"
  | _ + 1, _, _, _ => .fail "in a drawn region"
def walkS (P : Program) (nest : Nest) (nb : Nat) : Nat → Sc → AS → W
  | 0, _, _ => .fail "fuel"
  | u + 1, .steps n k, s => match runN' P nest n s with
    | .ok s' => walkS P nest nb u k s'
    | .error e => .fail e
  | u + 1, .bit d a b, s => match s.fr.tm.get d with
    | some (.bool x) => .ite x (walkS P nest nb u a ⟨{ s.fr with tm := s.fr.tm.set d (.bool true) }, s.cs, s.hp⟩) (walkS P nest nb u b ⟨{ s.fr with tm := s.fr.tm.set d (.bool false) }, s.cs, s.hp⟩)
    | _ => .fail "bit"
  | u + 1, .op k, s => match s.fr.mode, s.fr.todo with
    | .run, .inRegion ops (i :: rest) :: _ => match ops.toList[i]? with
      | some o => match wantedA ops.toList s.fr.tm o, opW P (evA s.fr.tm) o s.hp with
        | .ok true, .ok (p, kt) => .need p (walkK (fun v h k => match s.fr.finish v with
            | .ok f2 => walkS P nest nb u k ⟨f2, s.cs, h⟩
            | .error e => .fail e) kt k)
        | .ok _, .error e => .fail e
        | _, _ => .fail "op: wanted"
      | none => .fail "op"
    | _, _ => .fail "op: no region"
  | u + 1, .call kt k, s => match s.fr.mode, s.fr.todo with
    | .run, .inRegion ops (i :: rest) :: _ => match ops.toList[i]? with
      | some o => match wantedA ops.toList s.fr.tm o, execA P (evA s.fr.tm) o s.hp with
        | .ok true, .ok (.enter g args, h1) => .call g args h1 kt (walkK (fun v h k => match s.fr.finish v with
            | .ok f2 => walkS P nest nb u k ⟨f2, s.cs, h⟩
            | .error e => .fail e) kt k)
        | _, _ => .fail "call: no call"
      | none => .fail "call"
    | _, _ => .fail "call: no region"
  | _ + 1, .both _ _, _ => .fail "both"
  | u + 1, .reg k, s => match s.fr.mode, s.fr.todo with
    | .run, .code (.region _ ops true) :: ki =>
      if statOk P ops.toList ops.toList 0 [] [] then walkR P (walkS P nest nb u) s.hp.next u true k ⟨{ s.fr with todo := .inRegion ops (List.range ops.toList.length) :: ki }, s.cs, { s.hp with next := s.hp.next + ops.toList.length }⟩
      else .fail "a region in no order"
    | _, _ => .fail "reg"
  | _ + 1, .stop keep none, s => .stop keep (canonS keep s)
  | _ + 1, .stop keep (some rn), s => match renS P.globals.size nb rn keep s with
    | some (s', p) => .need p (.stop keep s')
    | none => .fail "ren"
  | _ + 1, .done rn, s => match stepA P nest s with
    | .ok (.done f v h) => match rn with
      | none => .done f v h
      | some rn => if rn.good P.globals.size nb then match renV (rn.tf nb) 50 v, renH (rn.tf nb) h rn.bl with
        | some v', some (t, p) => .need p (.done f v' ⟨t, rn.N⟩)
        | _, _ => .fail "done: ren"
        else .fail "done: names"
    | .ok _ => .fail "not done"
    | .error e => .fail e
/-- The same, or its garbage forgotten. -/
def QF (P : Program) (nb : Nat) (D : Value → AH → Prop) (v : Value) (h : AH) : Prop :=
  D v h ∨ ∃ v' h' σ, Emb P σ h' h ∧ nb ≤ h'.next ∧ (∀ r, r < nb → σ r = r) ∧ RV σ h'.next true v' v ∧ D v' h'
theorem CallSpec.ofQF (hη : OneCells η) {f : FuncId} {args : List Value} {h : AH} {D : Value → AH → Prop} (c : CallSpec η P B f args h (QF P h.next D)) : CallSpec η P B f args h D := by
  intro ρ xs w cs l p
  obtain ⟨v, h1, ρ1, fr', w', x, q1, q, hv, r⟩ := c ρ xs w cs l p
  rcases q1 with q1 | ⟨v', h', σ, E, hn, hσ, hrv, hq⟩
  · exact ⟨v, h1, ρ1, fr', w', x, q1, q, hv, r⟩
  · have hP' := E.pre hη (p.post q)
    have hold : ∀ r, r < h.next → cut σ h'.next ρ1 r = ρ r := by
      intro r hr
      unfold cut
      rw [if_pos (by omega), hσ r hr]
      exact q.old r hr
    refine ⟨v', h', cut σ h'.next ρ1, fr', w', x, hq, ⟨?_, hold, hP'.fresh, hn, hP'.hr, q.fr, ?_, ?_⟩, hrv.dn hη cut_dn hv, r⟩
    · intro r t hr
      rcases Nat.lt_or_ge r h.next with hl | hl
      · rw [hold r hl]; exact hr
      · rw [p.fresh r hl] at hr; cases hr
    · intro b hb
      exact q.own b (E.own' hb)
    · rintro b hb
      obtain ⟨r1, a1, a1', d1, n1, k1, _, k2, k3⟩ := E.nam hb
      exact q.inn b ⟨_, _, _, _, k2, k3⟩
theorem bind_get {α : Type} {t : T α} {d : Nat} {v : α} (h : t.get d = some v) : ∀ i, (t.set d v).get i = t.get i := by
  intro i
  rw [T.get_set]
  by_cases hi : i = d
  · subst hi; rw [if_pos rfl, h]
  · rw [if_neg hi]
theorem Run.anyTm {fn : FuncId} {h0 h : AH} {f : AF} {cs : List AF} {Q : Value → AH → Prop} {tm : T Value} (hg : ∀ t, tm.get t = f.tm.get t) (r : Run η P B fn h0 ⟨{ f with tm := tm }, cs, h⟩ Q) : Run η P B fn h0 ⟨f, cs, h⟩ Q := by
  intro ρ0 w0 ρ fr cs' w cs0 p0 p R
  have F := R.fr
  refine r ρ0 w0 ρ fr cs' w cs0 p0 p ⟨⟨F.fn, ⟨F.tm.1, fun t ht => (hg t).trans (F.tm.2.1 t ht), fun t ht => ?_⟩, F.todo, F.defers, F.mode, F.kind, F.round⟩, R.cs, R.pre⟩
  show VR η ρ ((tm.get t).getD undef) _
  rw [hg t]
  exact F.tm.2.2 t ht
theorem walkK_sat {fn : FuncId} {K : List Nat → AS → Prop} {D : Value → AH → Prop} {f : Value → AH → Sc → W} : ∀ {kt : KT} {k : Sc} {v : Value} {h : AH}, (walkK f kt k).holds η P B fn K D → kt.sat v h → ∃ k', (f v h k').holds η P B fn K D
  | .ret v0 h0, k, v, h, hw, hs => by obtain ⟨rfl, rfl⟩ := hs; unfold walkK at hw; exact ⟨k, hw⟩
  | .ite b x y, k, v, h, hw, hs => by
    cases k with
    | both a c =>
      unfold walkK at hw
      rcases hs with ⟨h1, h2⟩ | ⟨h1, h2⟩
      · exact walkK_sat (hw.1 h1) h2
      · exact walkK_sat (hw.2 h1) h2
    | _ => exact absurd hw (by unfold walkK; exact fun h => h)
  | .know p x, k, v, h, hw, hs => by unfold walkK at hw; exact walkK_sat (hw hs.1) hs.2
theorem Run.doneQ (hη : OneCells η) {nest : Nest} (hreg : RegOk η P B nest) {fn : FuncId} {h0 h' : AH} {s : AS} {v : Value} {f : FuncId} {Q : Value → AH → Prop} (hs : stepA P nest s = .ok (.done f v h')) (hf : f = fn) (q : Q v h') : Run η P B fn h0 s Q := by
  subst hf; exact Run.done hη hreg hs q
theorem Goes.read {ρ : Operand → Value} {o : Oper} {h h' : AH} {v : Value} (hg : Goes P ρ o h v h') (hk : kindOf P o.op = .read) : readA P ρ o h = .ok v ∧ h' = h := by
  have key : ∀ {r : AN × AH}, execA P ρ o h = .ok r → ∃ v1, readA P ρ o h = .ok v1 ∧ r = (.value v1, h) := by
    intro r hr
    unfold execA at hr
    rw [ite_no] at hr
    rw [hk] at hr
    simp only [bind_ok] at hr
    obtain ⟨_, v1, h1, h2⟩ := hr
    rw [okk] at h2
    exact ⟨v1, h1, h2.symm⟩
  rcases hg with hx | ⟨hx, _⟩
  · obtain ⟨v1, h1, h2⟩ := key hx
    injection h2 with e1 e2
    injection e1 with e1
    subst e1; subst e2
    exact ⟨h1, rfl⟩
  · obtain ⟨v1, h1, h2⟩ := key hx
    injection h2 with e1 e2
    cases e1
/-- Inside a drawn region: it goes on to its end, and from there. -/
def RegX (η : Nat → Value) (P : Program) (B : Nat) (fn : FuncId) (h0 : AH) (base : Nat) (nest : Nest) (s : AS) (Q : Value → AH → Prop) : Prop :=
  ∃ ops is k, s.fr.todo = .inRegion ops is :: k ∧ ∃ tm' h', regSeq P nest s.fr.n base ops.toList is s.fr.tm s.hp = .ok (tm', h') ∧ Run η P B fn h0 ⟨{ s.fr with tm := tm', todo := k }, s.cs, h'⟩ Q
def RegGo (η : Nat → Value) (P : Program) (B : Nat) (fn : FuncId) (h0 : AH) (base : Nat) (c : Bool) (s : AS) (Q : Value → AH → Prop) : Prop :=
  match c with
  | true => ∃ nest, NestOk η P B nest ∧ RegX η P B fn h0 base nest s Q
  | false => ∀ nest, RegX η P B fn h0 base nest s Q
theorem RegGo.map {fn : FuncId} {h0 : AH} {base : Nat} {c : Bool} {s s' : AS} {Q : Value → AH → Prop} (k : ∀ nest, RegX η P B fn h0 base nest s' Q → RegX η P B fn h0 base nest s Q) (g : RegGo η P B fn h0 base c s' Q) : RegGo η P B fn h0 base c s Q := by
  cases c with
  | true => obtain ⟨nest, hn, g⟩ := g; exact ⟨nest, hn, k nest g⟩
  | false => exact fun nest => k nest (g nest)
theorem seqOp_nest {nest : Nest} {base i : Nat} {ρ : Operand → Value} {o : Oper} {h : AH} {r : Value × AH} (hs : seqOp P noNest base i ρ o h = .ok r) : seqOp P nest base i ρ o h = .ok r := by
  unfold seqOp at hs ⊢
  split at hs
  · exact hs
  · exact hs
  · unfold effRun at hs ⊢
    simp only [bind_ok] at hs ⊢
    obtain ⟨⟨a, h1⟩, he, hs⟩ := hs
    refine ⟨(a, h1), he, ?_⟩
    cases a <;> first | exact hs | (simp [noNest, no] at hs)
theorem runG_go {fn : FuncId} {h0 : AH} {base : Nat} {nest : Nest} {Q : Value → AH → Prop} : ∀ (n : Nat) {s s' : AS}, runG P base n s = .ok s' → RegX η P B fn h0 base nest s' Q → RegX η P B fn h0 base nest s Q
  | 0, s, s', h, g => by rw [runG, okk] at h; subst h; exact g
  | n + 1, s, s', h, g => by
    unfold runG at h
    split at h
    · rename_i ops i rest k ht
      split at h
      · simp [no] at h
      · rename_i o ho
        simp only [bind_ok] at h
        obtain ⟨want, hw, ⟨v, h1⟩, hv, tm, htm, h⟩ := h
        simp only at htm h
        obtain ⟨ops', is', k', ht', tm', h', hq, hr⟩ := runG_go n h g
        simp only at ht'
        injection ht' with e1 e2
        injection e1 with e3 e4
        subst e2; subst e3; subst e4
        refine ⟨ops, i :: rest, k, ht, tm', h', ?_, hr⟩
        rw [regSeq, ho]
        simp only [bind_ok]
        refine ⟨want, hw, (v, h1), ?_, tm, htm, hq⟩
        cases want with
        | false => exact hv
        | true => exact seqOp_nest hv
    · simp [no] at h
theorem regSeq_get {nest : Nest} {n base : Nat} {ops : List Oper} {t1 t2 : T Value} (he : ∀ i, t1.get i = t2.get i) : ∀ {is : List Nat} {h : AH} {u1 : T Value} {h' : AH}, regSeq P nest n base ops is t1 h = .ok (u1, h') → ∃ u2, regSeq P nest n base ops is t2 h = .ok (u2, h') ∧ ∀ i, u1.get i = u2.get i := by
  intro is
  induction is generalizing t1 t2 with
  | nil => intro h u1 h' hh; rw [regSeq, okk] at hh; injection hh with e1 e2; subst e1; subst e2; exact ⟨t2, rfl, he⟩
  | cons i is ih =>
    intro h u1 h' hh
    rw [regSeq] at hh
    split at hh
    · simp [no] at hh
    · rename_i o ho
      simp only [bind_ok] at hh
      obtain ⟨want, hw, ⟨v, h1⟩, hv, tm, htm, hh⟩ := hh
      simp only at htm hh
      have hev : evA t1 = evA t2 := by
        funext x
        cases x <;> simp only [evA, he]
      have hwn : wantedA ops t2 o = .ok want := by
        rw [← hw]; unfold wantedA
        split
        · rfl
        · split
          · rfl
          · rw [he]
      unfold putT at htm
      split at htm
      · rename_i d hd
        split at htm
        · rename_i hlt
          rw [okk] at htm; subst htm
          obtain ⟨u2, g1, g2⟩ := ih (t2 := t2.set d v) (fun j => by rw [T.get_set, T.get_set, he]) hh
          refine ⟨u2, ?_, g2⟩
          rw [regSeq, ho]
          simp only [bind_ok]
          refine ⟨want, hwn, (v, h1), ?_, t2.set d v, ?_, g1⟩
          · rw [← hev]; exact hv
          · unfold putT; rw [hd]; simp only; rw [if_pos hlt]
        · simp [no] at htm
      · rename_i hd
        rw [okk] at htm; subst htm
        obtain ⟨u2, g1, g2⟩ := ih (t2 := t2) he hh
        refine ⟨u2, ?_, g2⟩
        rw [regSeq, ho]
        simp only [bind_ok]
        refine ⟨want, hwn, (v, h1), ?_, t2, ?_, g1⟩
        · rw [← hev]; exact hv
        · unfold putT; rw [hd]
theorem RegX.tm {fn : FuncId} {h0 : AH} {base : Nat} {nest : Nest} {s : AS} {Q : Value → AH → Prop} {tm : T Value} (hg : ∀ t, tm.get t = s.fr.tm.get t) (g : RegX η P B fn h0 base nest ⟨{ s.fr with tm := tm }, s.cs, s.hp⟩ Q) : RegX η P B fn h0 base nest s Q := by
  obtain ⟨ops, is, k, ht, tm', h', hq, hr⟩ := g
  simp only at ht hq
  obtain ⟨u2, g1, g2⟩ := regSeq_get (t2 := s.fr.tm) hg hq
  exact ⟨ops, is, k, ht, u2, h', g1, Run.anyTm (f := { s.fr with tm := u2, todo := k }) (tm := tm') g2 hr⟩
/-- What a contract's words come to. -/
noncomputable def KT.get : KT → Value × AH
  | .ret v h => (v, h)
  | .ite b x y => if b = true then x.get else y.get
  | .know _ x => x.get
theorem KT.get_of : ∀ {k : KT} {v : Value} {h : AH}, k.sat v h → (v, h) = k.get
  | .ret v0 h0, v, h, hs => by obtain ⟨rfl, rfl⟩ := hs; rfl
  | .ite b x y, v, h, hs => by
    unfold KT.get
    rcases hs with ⟨h1, h2⟩ | ⟨h1, h2⟩
    · rw [if_pos h1]; exact KT.get_of h2
    · rw [if_neg (by rw [h1]; simp)]; exact KT.get_of h2
  | .know p x, v, h, hs => by unfold KT.get; exact KT.get_of hs.2
open Classical in
/-- Calls by one contract. -/
noncomputable def nest1 (g : FuncId) (args : List Value) (h : AH) (r : Value × AH) : Nest := fun f a x => if f = g ∧ a = args ∧ x = h then .ok r else no "another call"
theorem nest1_ok {g : FuncId} {args : List Value} {h : AH} {kt : KT} (c : CallSpec η P B g args h kt.sat) : NestOk η P B (nest1 g args h kt.get) := by
  refine NestOk.of fun f a x v h' hn => ?_
  unfold nest1 at hn
  by_cases hc : f = g ∧ a = args ∧ x = h
  · rw [if_pos hc, okk] at hn
    obtain ⟨rfl, rfl, rfl⟩ := hc
    refine c.mono fun v1 h1 hs => ?_
    have := (KT.get_of hs).trans hn
    injection this with e1 e2
    exact ⟨e1, e2⟩
  · rw [if_neg hc] at hn; simp [no] at hn
theorem kt_sat {fn : FuncId} {K : List Nat → AS → Prop} {D : Value → AH → Prop} {f : Value → AH → Sc → W} : ∀ {kt : KT} {k : Sc}, (walkK f kt k).holds η P B fn K D → (∃ v h, kt.sat v h) → ∃ k', (f kt.get.1 kt.get.2 k').holds η P B fn K D := by
  rintro kt k hw ⟨v, h, hs⟩
  obtain ⟨k', hh⟩ := walkK_sat hw hs
  have := KT.get_of hs
  exact ⟨k', by rw [← this]; exact hh⟩
theorem walkR_ok {fn : FuncId} {h0 : AH} {K : List Nat → AS → Prop} {D : Value → AH → Prop} {Q : Value → AH → Prop} {kS : Sc → AS → W} {base : Nat}
    (hS : ∀ sc s, (kS sc s).holds η P B fn K D → Run η P B fn h0 s Q) : ∀ (u : Nat) (c : Bool) (sc : Sc) (s : AS), (walkR P kS base u c sc s).holds η P B fn K D → RegGo η P B fn h0 base c s Q := by
  intro u
  induction u with
  | zero => intro c sc s h; exact absurd h (by unfold walkR; exact fun h => h)
  | succ u ih =>
    intro c sc s h
    cases sc with
    | steps n k =>
      unfold walkR at h
      split at h
      · rename_i s' hs
        exact (ih c k s' h).map fun nest x => runG_go n hs x
      · exact absurd h fun h => h
    | bit d a b =>
      unfold walkR at h
      split at h
      · rename_i x hx
        cases x with
        | true => exact (ih c a _ (h.1 rfl)).map fun nest x => RegX.tm (bind_get hx) x
        | false => exact (ih c b _ (h.2 rfl)).map fun nest x => RegX.tm (bind_get hx) x
      · exact absurd h fun h => h
    | op k =>
      unfold walkR at h
      split at h
      · rename_i ops i rest ki ht
        split at h
        · rename_i o ho
          split at h
          · exact absurd h fun h => h
          · rename_i p kt hw hop hk
            obtain ⟨hp, h⟩ := h
            have h := h hp
            obtain ⟨v1, h1, hs, hgo⟩ := opW_ok hop hp
            obtain ⟨k', hh⟩ := walkK_sat h hs
            split at hh
            · rename_i tm htm
              refine (ih c k' _ hh).map fun nest x => ?_
              obtain ⟨ops', is', k2, ht', tm', h', hq, hrun⟩ := x
              simp only at ht'
              injection ht' with e1 e2
              injection e1 with e3 e4
              subst e2; subst e3; subst e4
              refine ⟨ops, i :: rest, ki, ht, tm', h', ?_, hrun⟩
              rw [regSeq, ho]
              simp only [bind_ok]
              refine ⟨true, hw, (v1, h1), ?_, tm, htm, hq⟩
              simp only [if_true]
              unfold seqOp
              cases hkk : kindOf P o.op with
              | read =>
                obtain ⟨hr, e⟩ := hgo.read hkk
                rw [e]
                simp only [hr, bind, Except.bind]
              | alloc => exact absurd hkk hk
              | effect =>
                have hx : ∀ {r : AN × AH}, execA P (evA s.fr.tm) o s.hp = .ok r → effA P (evA s.fr.tm) o s.hp = .ok r := by
                  intro r hr
                  unfold execA at hr
                  rw [ite_no, hkk] at hr
                  exact hr.2
                unfold effRun
                rcases hgo with hg | ⟨hg, e⟩
                · simp only [hx hg, bind, Except.bind]
                · rw [e]; simp only [hx hg, bind, Except.bind]
            · exact absurd hh fun h => h
          · exact absurd h fun h => h
          · exact absurd h fun h => h
        · exact absurd h fun h => h
      · exact absurd h fun h => h
    | call kt k =>
      cases c with
      | false => exact absurd h (by unfold walkR; exact fun h => h)
      | true =>
        unfold walkR at h
        split at h
        · rename_i ops i rest ki ht
          split at h
          · rename_i o ho
            split at h
            · rename_i g args h1 hw hx hk
              split at h
              · exact absurd h fun h => h
              · rename_i hcl
                obtain ⟨hc, h⟩ := h
                obtain ⟨k', hh⟩ := kt_sat h (KT.some_sat (by simpa using hcl))
                split at hh
                · rename_i tm htm
                  refine ⟨nest1 g args h1 kt.get, nest1_ok hc, ?_⟩
                  obtain ⟨ops', is', k2, ht', tm', h', hq, hrun⟩ := ih false k' _ hh (nest1 g args h1 kt.get)
                  simp only at ht'
                  injection ht' with e1 e2
                  injection e1 with e3 e4
                  subst e2; subst e3; subst e4
                  refine ⟨ops, i :: rest, ki, ht, tm', h', ?_, hrun⟩
                  rw [regSeq, ho]
                  simp only [bind_ok]
                  refine ⟨true, hw, kt.get, ?_, tm, htm, hq⟩
                  simp only [if_true]
                  unfold seqOp
                  rw [hk]
                  simp only
                  unfold effRun
                  simp only [hx, bind, Except.bind]
                  unfold nest1
                  rw [if_pos ⟨rfl, rfl, rfl⟩]
                · exact absurd hh fun h => h
            · exact absurd h fun h => h
          · exact absurd h fun h => h
        · exact absurd h fun h => h
    | reg k =>
      unfold walkR at h
      split at h
      · rename_i ops ki ht
        have x : ∀ nest, RegX η P B fn h0 base nest s Q := fun nest => ⟨ops, [], ki, ht, s.fr.tm, s.hp, rfl, hS k _ h⟩
        cases c with
        | true => exact ⟨noNest, noNest_ok, x noNest⟩
        | false => exact x
      · exact absurd h fun h => h
    | both a b => exact absurd h (by unfold walkR; exact fun h => h)
    | stop a b => exact absurd h (by unfold walkR; exact fun h => h)
    | done a => exact absurd h (by unfold walkR; exact fun h => h)
/-- THE WALK IS SOUND. -/
theorem walk_ok (hη : OneCells η) (hmix : P.follows .mixedOrders = true) {nest : Nest} (hreg : RegOk η P B nest) {fn : FuncId} {h0 : AH} {K : List Nat → AS → Prop} {D : Value → AH → Prop}
    (hK : ∀ keep s, K keep s → RunD η P B fn h0 keep s (QF P h0.next D)) : ∀ (u : Nat) (sc : Sc) (s : AS), (∀ t, s.fr.n ≤ t → s.fr.tm.get t = none) → (walkS P nest h0.next u sc s).holds η P B fn K D → Run η P B fn h0 s (QF P h0.next D) := by
  intro u
  induction u with
  | zero => intro sc s _ h; exact absurd h (by unfold walkS; exact fun h => h)
  | succ u ih =>
    intro sc s hi h
    have hi' : ∀ (s' : AS), (∀ (ρ0 : Env) (w0 : World) (ρ : Env) (fr : Frame) (cs : List Frame) (w : World) (cs0 : List Frame), Pre η P ρ0 B h0 w0 → Post η ρ0 B h0 w0 ρ s'.hp w → SR η P ρ B s' fr cs w → (∀ t, s'.fr.n ≤ t → s'.fr.tm.get t = none)) := by
      intro s' ρ0 w0 ρ fr cs w cs0 p0 p R
      exact R.fr.tm.2.1
    -- a run may assume what every state has
    have auto : ∀ {s' : AS} {Q : Value → AH → Prop}, ((∀ t, s'.fr.n ≤ t → s'.fr.tm.get t = none) → Run η P B fn h0 s' Q) → Run η P B fn h0 s' Q := by
      intro s' Q k ρ0 w0 ρ fr cs w cs0 p0 p R
      exact k (hi' s' ρ0 w0 ρ fr cs w cs0 p0 p R) ρ0 w0 ρ fr cs w cs0 p0 p R
    cases sc with
    | steps n k =>
      unfold walkS at h
      split at h
      · rename_i s' hs
        exact Run.steps hη hreg n hs (auto fun hi2 => ih k s' hi2 h)
      · exact absurd h fun h => h
    | bit d a b =>
      unfold walkS at h
      split at h
      · rename_i x hx
        cases x with
        | true => exact Run.anyTm (bind_get hx) (auto fun hi2 => ih a _ hi2 (h.1 rfl))
        | false => exact Run.anyTm (bind_get hx) (auto fun hi2 => ih b _ hi2 (h.2 rfl))
      · exact absurd h fun h => h
    | op k =>
      unfold walkS at h
      split at h
      · rename_i ops i rest rk hm ht
        split at h
        · rename_i o ho
          split at h
          · rename_i p kt hw hop
            obtain ⟨hp, h⟩ := h
            have h := h hp
            obtain ⟨v, h', hsat, hgo⟩ := opW_ok hop hp
            obtain ⟨k', hh⟩ := walkK_sat h hsat
            split at hh
            · rename_i f2 hf
              obtain ⟨f, cs, hpp⟩ := s
              simp only at hm ht hw hf hgo hh
              have hs : stepA P nest ⟨f, cs, hpp⟩ = .ok (.next ⟨f2, cs, h'⟩) := by
                rcases hgo with hx | ⟨hx, rfl⟩ <;>
                · unfold stepA
                  simp only [hm, ht, ho, hw, hx, afterA, hf, bind, Except.bind, if_true]
              exact .step hη hreg hs (auto fun hi2 => ih k' _ hi2 hh)
            · exact absurd hh fun h => h
          · exact absurd h fun h => h
          · exact absurd h fun h => h
        · exact absurd h fun h => h
      · exact absurd h fun h => h
    | call kt k =>
      unfold walkS at h
      split at h
      · rename_i ops i rest rk hm ht
        split at h
        · rename_i o ho
          split at h
          · rename_i g args h1 hw hx
            obtain ⟨hc, h⟩ := h
            refine Run.call hη hm ht ho hw hx hc (fun v h' hsat => ?_)
            obtain ⟨k', hh⟩ := walkK_sat h hsat
            split at hh
            · rename_i f2 hf
              exact ⟨f2, hf, auto fun hi2 => ih k' _ hi2 hh⟩
            · exact absurd hh fun h => h
          · exact absurd h fun h => h
        · exact absurd h fun h => h
      · exact absurd h fun h => h
    | both a b => exact absurd h (by unfold walkS; exact fun h => h)
    | reg k =>
      unfold walkS at h
      split at h
      · rename_i id ops ki hm ht
        split at h
        · rename_i hst
          obtain ⟨nest2, hn2, ops', is', k', ht', tm', h', hq, hrun⟩ := walkR_ok (Q := QF P h0.next D) (base := s.hp.next) (fun sc s hh => auto fun hi2 => ih sc s hi2 hh) u true k _ h
          simp only at ht'
          injection ht' with e1 e2
          injection e1 with e3 e4
          subst e2; subst e3; subst e4
          obtain ⟨f, cs, hpp⟩ := s
          simp only at hm ht hq hrun hst
          have hs : stepA P nest2 ⟨f, cs, hpp⟩ = .ok (.next ⟨{ f with tm := tm', todo := ki }, cs, h'⟩) := by
            unfold stepA
            simp only [hm, ht, Bool.not_true, Bool.false_eq_true, if_false, regionA_seq hst hq, bind, Except.bind]
          exact .step hη (regionA_ok hη hmix hn2) hs hrun
        · exact absurd h fun h => h
      · exact absurd h fun h => h
    | stop keep rn =>
      cases rn with
      | none =>
        unfold walkS at h
        have hd := hK _ _ h
        refine hd s.fr.tm hi (fun t ht => ?_)
        show inT s.fr.tm t = inT (canonT keep s.fr.tm s.fr.n) t
        unfold inT
        rw [canonT_get]
        by_cases hlt : t < s.fr.n
        · rw [if_pos hlt, if_pos ht]; rfl
        · rw [if_neg hlt, hi t (by omega)]
      | some rn =>
        unfold walkS at h
        split at h
        · rename_i s' p hr
          obtain ⟨hp, h⟩ := h
          exact RunD.renS hη hr hp (hK _ _ (h hp))
        · exact absurd h fun h => h
    | done rn =>
      unfold walkS at h
      split at h
      · rename_i f v h' hs
        cases rn with
        | none =>
          obtain ⟨hf, hd⟩ := h
          exact Run.doneQ hη hreg hs hf (.inl hd)
        | some rn =>
          simp only at h
          split at h
          · rename_i hg
            split at h
            · rename_i v' t p hv hh
              obtain ⟨hp, h⟩ := h
              obtain ⟨hf, hd⟩ := h hp
              have hgd := hg
              simp only [Rn.good, Bool.and_eq_true, decide_eq_true_eq] at hgd
              refine Run.doneQ hη hreg hs hf (.inr ⟨v', ⟨t, rn.N⟩, rn.sg h0.next, ren_emb hg hh hp, hgd.1.1.1.1.2, fun r hr => by unfold Rn.sg; rw [if_pos hr], renV_ok (rn.tf_ok hg) 50 hv, hd⟩)
            · exact absurd h fun h => h
          · exact absurd h fun h => h
      · exact absurd h fun h => h
      · exact absurd h fun h => h
end Go.Ev
