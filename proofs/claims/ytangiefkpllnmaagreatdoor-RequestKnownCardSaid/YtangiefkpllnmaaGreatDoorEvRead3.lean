/- The operations that only read, all. -/
import Derived.Test.YtangiefkpllnmaaGreatDoorEvRead2
namespace Go.Ev
set_option linter.unusedVariables false
set_option linter.unusedSimpArgs false
variable {η : Nat → Value}
theorem L2.inv_cons {α β : Type} {R : α → β → Prop} {a : α} {l : List α} {m : List β} (h : L2 R (a :: l) m) : ∃ b m', m = b :: m' ∧ R a b ∧ L2 R l m' := by
  cases h with | cons h k => exact ⟨_, _, rfl, h, k⟩
theorem L2.inv_nil {α β : Type} {R : α → β → Prop} {m : List β} (h : L2 R [] m) : m = [] := by cases h; rfl
theorem L2.get {α β : Type} {R : α → β → Prop} {l : List α} {m : List β} (h : L2 R l m) {i : Nat} {a : α} (ha : l[i]? = some a) : ∃ b, m[i]? = some b ∧ R a b := by
  induction h generalizing i with
  | nil => simp at ha
  | cons hr _ ih =>
    cases i with
    | zero => simp at ha; subst ha; exact ⟨_, rfl, hr⟩
    | succ i => simpa using ih (by simpa using ha)
section
variable {P : Program} {ρ : Env} {B : Nat} {h : AH} {w : World}
theorem keyKind_ok {kt : TypeId} {d : TypeDesc} (hk : keyKind P kt = .ok d) : P.underlying kt = some d ∧ ((∃ k, d = .int k) ∨ d = .string ∨ d = .bool) := by
  simp only [keyKind, bind_ok, undA_ok] at hk
  obtain ⟨u, hu, hk⟩ := hk
  split at hk <;> first | (simp [no] at hk; done) | (rw [okk] at hk; subst hk; exact ⟨hu, by simp⟩)
theorem sameNow_rel {d : TypeDesc} (hd : (∃ k, d = .int k) ∨ d = .string ∨ d = .bool) {k e k' e' : Value} {b : Bool} (hs : Instr.sameNow d k e = some b) (hk : VR η ρ k k') (he : VR η ρ e e') : k' = k ∧ e' = e ∧ (b = true → ∀ n, Instr.sameBits n e k = true) := by
  unfold Instr.sameNow at hs
  split at hs
  · have := hk.int_inv; have := he.int_inv; subst_vars
    refine ⟨rfl, rfl, fun hb n => ?_⟩
    split at hs
    · rename_i hkk; subst hkk; cases hs; simp only [beq_iff_eq] at hb; subst hb; simp [Instr.sameBits]
    · cases hs
  · have := hk.string_inv; have := he.string_inv; subst_vars
    refine ⟨rfl, rfl, fun hb n => ?_⟩
    cases hs
    rw [toList_bytes] at hb
    simp only [beq_iff_eq] at hb
    have := byteArray_ext hb; subst this
    simp only [Instr.sameBits, toList_bytes]; simp
  · have := hk.bool_inv; have := he.bool_inv; subst_vars
    refine ⟨rfl, rfl, fun hb n => ?_⟩
    cases hs; simp only [beq_iff_eq] at hb; subst hb; simp [Instr.sameBits]
  · cases hs
theorem findNow_rel {d : TypeDesc} (hd : (∃ k, d = .int k) ∨ d = .string ∨ d = .bool) {k k' : Value} (hk : VR η ρ k k') {es es' : List MapEntry} (hes : L2 (ER η ρ) es es') : ∀ {i : Nat} {r : Option (Nat × Value)}, Instr.findNow d k es i = some r →
    (r = none ∧ Instr.findNow d k' es' i = some none) ∨
    (∃ j e e', r = some (i + j, e.val) ∧ es[j]? = some e ∧ es'[j]? = some e' ∧ ER η ρ e e' ∧ k' = k ∧ e'.key = e.key ∧ (∀ n, Instr.sameBits n e.key k = true) ∧ Instr.findNow d k' es' i = some (some (i + j, e'.val))) := by
  induction hes with
  | nil => intro i r hr; simp only [Instr.findNow] at hr; cases hr; exact .inl ⟨rfl, rfl⟩
  | @cons e e' es es' hee _ ih =>
    intro i r hr
    simp only [Instr.findNow] at hr ⊢
    cases hs : Instr.sameNow d k e.key with
    | none => rw [hs] at hr; cases hr
    | some b =>
      rw [hs] at hr
      obtain ⟨e1, e2, e3⟩ := sameNow_rel hd hs hk hee.1
      rw [e1, e2, hs]
      cases b with
      | true =>
        cases hr
        exact .inr ⟨0, e, e', by simp, by simp, by simp, hee, rfl, e2, e3 rfl, by simp⟩
      | false =>
        rcases ih hr with ⟨h1, h2⟩ | ⟨j, a, a', h1, h2, h3, h4, h5, h6, h7, h8⟩
        · rw [e1] at h2; exact .inl ⟨h1, h2⟩
        · rw [e1] at h8
          exact .inr ⟨j + 1, a, a', by rw [h1]; congr 2; omega, by simpa using h2, by simpa using h3, h4, rfl, h6, h7, by rw [show i + (j + 1) = i + 1 + j by omega]; exact h8⟩
theorem run_checkKey {kt : TypeId} {d : TypeDesc} (hu : P.underlying kt = some d) (hd : (∃ k, d = .int k) ∨ d = .string ∨ d = .bool) (e : Bool) (n : Nat) (v : Value) : (Instr.checkKey e (n + 1) kt v).run P w = .ok () w := by
  simp only [Instr.checkKey, Sem.run_bind, run_und hu, Result.andThen_ok]
  rcases hd with ⟨k, rfl⟩ | rfl | rfl <;> rfl
/-- Looking a key up. -/
theorem findM_ok {kt : TypeId} {k k' : Value} {es es' : List MapEntry} {r : Option (Nat × Value)} (hf : findM P kt k es = .ok r) (hk : VR η ρ k k') (hes : L2 (ER η ρ) es es') :
    (∀ e v, (Instr.checkKey e 10000 kt v).run P w = .ok () w) ∧
    ((r = none ∧ (Instr.findKey kt k' es').run P w = .ok none w) ∨
     (∃ j e e', r = some (j, e.val) ∧ es[j]? = some e ∧ es'[j]? = some e' ∧ ER η ρ e e' ∧ k' = k ∧ e'.key = e.key ∧ (∀ n, Instr.sameBits n e.key k = true) ∧ (Instr.findKey kt k' es').run P w = .ok (some (j, e'.val)) w)) := by
  simp only [findM, bind_ok, orNo_ok] at hf
  obtain ⟨d, hd, hf⟩ := hf
  obtain ⟨hu, hd⟩ := keyKind_ok hd
  refine ⟨fun e v => run_checkKey hu hd e 9999 v, ?_⟩
  have hrun : ∀ {o}, Instr.findNow d k' es' 0 = some o → (Instr.findKey kt k' es').run P w = .ok o w := by
    intro o ho
    simp only [Instr.findKey, Sem.run_bind, run_und hu, Result.andThen_ok, ho]; rfl
  rcases findNow_rel hd hk hes hf with ⟨h1, h2⟩ | ⟨j, e, e', h1, h2, h3, h4, h5, h6, h7, h8⟩
  · exact .inl ⟨h1, hrun h2⟩
  · rw [Nat.zero_add] at h1 h8
    exact .inr ⟨j, e, e', h1, h2, h3, h4, h5, h6, h7, hrun h8⟩
theorem run_getObj {r : Nat} {o : Obj} (hr : w.heap[r]? = some o) (ho : ∀ c t f, o ≠ .cells c t f) : (getObj r).run P w = .ok o w := by
  simp only [getObj, Sem.run, hr]
theorem VR.pair {v x : Value} {b : Bool} (hv : VR η ρ v x) : VR η ρ (tupL [v, .bool b]) (.tuple #[x, .bool b]) := .tup' (.cons hv (.cons (.bool b) .nil))
theorem lookA_ok (H : HR η ρ B h w) {t : TypeId} {x k x' k' r : Value} {ok : Bool} (hl : lookA P h t x k ok = .ok r) (hx : VR η ρ x x') (hk : VR η ρ k k') :
    ∃ y, (Instr.lookup t x' k' ok).run P w = .ok y w ∧ VR η ρ r y := by
  simp only [lookA, bind_ok, undA_ok] at hl
  obtain ⟨td, ht, hl⟩ := hl
  split at hl
  · rename_i key elem
    simp only [bind_ok] at hl
    obtain ⟨es, hes, f, hf, hl⟩ := hl
    obtain ⟨E, hE, hrel⟩ : ∃ E : Array MapEntry, L2 (ER η ρ) es E.toList ∧ ((x' = .map none ∧ E = #[]) ∨ ∃ b c, x' = .map (some b) ∧ w.heap[b]? = some (.map E c)) := by
      split at hes
      · have := hx.map0_inv; subst this
        rw [okk] at hes; subst hes
        exact ⟨#[], .nil, .inl ⟨rfl, rfl⟩⟩
      · rename_i r0
        obtain ⟨b, d, n, rfl, hρ⟩ := hx.map_inv
        simp only [bind_ok] at hes
        obtain ⟨m, hm, hes⟩ := hes
        rw [okk] at hes; subst hes
        obtain ⟨b', d', n', E, h1, h2, h3, _⟩ := H.map (mapOf_ok.1 hm)
        rw [hρ] at h1; cases h1
        exact ⟨E, h3, .inr ⟨_, _, rfl, h2⟩⟩
      · simp [no] at hes
    obtain ⟨hck, hf⟩ := findM_ok (P := P) (w := w) hf hk hE
    rcases hf with ⟨rfl, hrun⟩ | ⟨j, e, e', rfl, _, _, he, _, _, _, hrun⟩
    · simp only [bind_ok] at hl
      obtain ⟨z, hz, hl⟩ := hl
      rw [okk] at hl; subst hl
      refine ⟨if ok then .tuple #[z, .bool false] else z, ?_, ?_⟩
      · simp only [Instr.lookup, Sem.run_bind, run_und ht, Result.andThen_ok]
        rcases hrel with ⟨rfl, rfl⟩ | ⟨b, c, rfl, hb⟩
        · simp only [Sem.run_bind, Sem.run_pure, hck, Result.andThen_ok, hrun, run_zero hz]
        · simp only [Sem.run_bind, run_getObj hb (by simp), Sem.run_pure, hck, Result.andThen_ok, hrun, run_zero hz]
      · cases ok
        · exact .zero hz
        · exact .pair (.zero hz)
    · simp only [okk] at hl; subst hl
      refine ⟨if ok then .tuple #[e'.val, .bool true] else e'.val, ?_, ?_⟩
      · simp only [Instr.lookup, Sem.run_bind, run_und ht, Result.andThen_ok]
        rcases hrel with ⟨rfl, rfl⟩ | ⟨b, c, rfl, hb⟩
        · simp only [Sem.run_bind, Sem.run_pure, hck, Result.andThen_ok, hrun]
        · simp only [Sem.run_bind, run_getObj hb (by simp), Sem.run_pure, hck, Result.andThen_ok, hrun]
      · cases ok
        · exact he.2.1
        · exact .pair he.2.1
  · simp [no] at hl

theorem guard_none {op : BinOp} (ho : isEq op = none) (t : TypeId) (x y : Operand) (a b : Value) : (eqGuard op t x y a b).run P w = .ok () w := by
  cases op <;> first | rfl | cases ho
theorem guard_eql {op : BinOp} {v : Bool} (ho : isEq op = some v) (t : TypeId) (x y : Operand) (a b : Value) : eqGuard op t x y a b = eqGuard .eql t x y a b := by
  cases op <;> first | rfl | cases ho
theorem nilOk_ok {t : TypeId} (hg : nilOk P t = .ok true) : (Op.eqGuardIn Op.maxDepth t .nilIface .nilIface).run P w = .ok false w := by
  obtain ⟨d, hd⟩ : ∃ d, Op.maxDepth = d + 1 := ⟨9999, rfl⟩
  rw [hd]
  unfold nilOk at hg
  split at hg
  · rename_i ms hms
    rw [okk] at hg
    simp only [Op.eqGuardIn, Sem.run_bind, run_und hms, Result.andThen_ok, hg]; rfl
  · rename_i u hu1 hu
    simp only [Op.eqGuardIn, Sem.run_bind, run_und hu, Result.andThen_ok]
    cases u <;> first | rfl | exact (hu1 _ rfl).elim
  · simp [no] at hg
theorem guard_ok {op : BinOp} {t : TypeId} {x y : Operand} {a b a' b' : Value} (hg : guardOk P op t x y a b = .ok true) (ha : VR η ρ a a') (hb : VR η ρ b b') (hna : ∀ i, a ≠ .chan i) (hnb : ∀ i, b ≠ .chan i) :
    (eqGuard op t x y a' b').run P w = .ok () w := by
  unfold guardOk at hg
  cases ho : isEq op with
  | none => exact guard_none ho ..
  | some v =>
    rw [ho] at hg
    rw [guard_eql ho]
    simp only [] at hg
    cases ha with
    | nilIface =>
      cases hb with
      | nilIface =>
        simp only [] at hg
        have key := fun hg => nilOk_ok (P := P) (w := w) (t := t) hg
        cases x <;> cases y <;> first
          | rfl
          | (have k := key hg
             simp only [eqGuard, Sem.run_bind]
             simp [k])
      | opq i => exact absurd rfl (hnb _)
      | any h => exact absurd rfl (hnb _)
      | _ => rfl
    | agg h1 h2 =>
      cases hb with
      | agg h3 h4 =>
        simp only [okk] at hg
        exact run_eqGuard_agg w .eql t x y _ _ (by simpa using hg)
      | opq i => exact absurd rfl (hnb _)
      | any h => exact absurd rfl (hnb _)
      | _ => rfl
    | opq i => exact absurd rfl (hna _)
    | any h => exact absurd rfl (hna _)
    | _ => rfl
theorem strL_append (a b : ByteArray) : (ByteArray.mk ⟨a.data.toList ++ b.data.toList⟩) = a ++ b := by
  apply byteArray_ext
  rw [ByteArray.data_append]; simp
theorem bsize (a : ByteArray) : a.data.toList.length = a.size := rfl
theorem strA_ok {op : BinOp} {a b : ByteArray} {v : Value} (hs : strA op a.data.toList b.data.toList = .ok v) : ∃ x, (Op.stringOp op a b).run P w = .ok x w ∧ VR η ρ v x := by
  unfold strA at hs
  unfold Op.stringOp
  simp only [ByteArray.toList_eq] at *
  have hmax : IntKind.i64.max = 9223372036854775807 := by decide
  cases op <;> simp only [] at hs ⊢ <;> first
    | (rw [okk] at hs; subst hs; exact ⟨_, rfl, .bool _⟩)
    | (rw [ite_no', okk] at hs
       obtain ⟨hl, rfl⟩ := hs
       rw [bsize, bsize] at hl
       rw [hmax, if_neg (by omega)]
       exact ⟨_, rfl, by rw [strL, strL_append]; exact .string _⟩)
    | (simp [no] at hs; done)
theorem shiftA_ok {op : BinOp} {k yk : IntKind} {a b : Int} {v : Value} (hs : shiftA op k a b = .ok v) : ∃ x, (Op.shift op k a yk b).run P w = .ok x w ∧ VR η ρ v x := by
  unfold shiftA at hs
  rw [ite_no] at hs
  obtain ⟨hb, hs⟩ := hs
  unfold Op.shift
  rw [if_neg hb]
  cases op <;> simp only [] at hs ⊢ <;> first
    | (simp [no] at hs; done)
    | (rw [okk] at hs; subst hs; exact ⟨_, rfl, .int _ _⟩)
theorem binA_ok (H : HR η ρ B h w) {op : BinOp} {t : TypeId} {x y x' y' v : Value} (hb : binA P h op t x y = .ok v) (hx : VR η ρ x x') (hy : VR η ρ y y') :
    ∃ r, (binOp op t x' y').run P w = .ok r w ∧ VR η ρ v r := by
  have eqc : ∀ {x y : Value}, VR η ρ x x' → VR η ρ y y' →
      (match isEq op with
      | some want => do Except.ok (.bool ((← eqA P h 10000 t x y) == want))
      | none => no "binop" : M Value) = .ok v → (op = .eql ∨ op = .neq) ∧ ∃ r, (if op = .eql then (do pure (.bool (← Op.equal t x' y')) : Sem Value) else do pure (.bool (!(← Op.equal t x' y')))).run P w = .ok r w ∧ VR η ρ v r := by
    intro x y hx hy hb
    cases op <;> simp only [isEq] at hb <;> first
      | (simp [no] at hb; done)
      | (simp only [bind_ok] at hb
         obtain ⟨r, hr, hb⟩ := hb
         rw [okk] at hb; subst hb
         have := eqA_ok (P := P) H _ _ _ _ _ _ _ hr hx hy
         refine ⟨by simp, ?_⟩
         simp only [reduceCtorEq, if_true, if_false, Sem.run_bind, Op.equal, Op.maxDepth, this, Result.andThen_ok]
         cases r <;> exact ⟨_, rfl, .bool _⟩)
  unfold binA at hb
  split at hb
  · rename_i k a k' b
    have := hx.int_inv; have := hy.int_inv; subst_vars
    split at hb
    · rename_i hsh
      obtain ⟨r, hr, hv⟩ := shiftA_ok (η := η) (ρ := ρ) (P := P) (w := w) (yk := k') hb
      cases op <;> first | (simp [isShift] at hsh; done) | exact ⟨r, hr, hv⟩
    · rename_i hsh
      rw [ite_no'] at hb
      obtain ⟨rfl, hb⟩ := hb
      cases op <;> simp only [intA, cmpA] at hb <;> first
        | (simp [isShift] at hsh; done)
        | (rw [okk] at hb; subst hb; simp only [binOp, ne_eq, not_true_eq_false, if_false]; exact ⟨_, rfl, by first | exact .int _ _ | exact .bool _⟩)
        | (rw [ite_no, okk] at hb
           obtain ⟨hb0, rfl⟩ := hb
           simp only [binOp, ne_eq, not_true_eq_false, if_false, Op.intDiv, hb0]
           exact ⟨_, rfl, .int _ _⟩)
        | (simp [no] at hb; done)
  · rename_i a b
    have := hx.string_inv; have := hy.string_inv; subst_vars
    obtain ⟨r, hr, hv⟩ := strA_ok (η := η) (ρ := ρ) (P := P) (w := w) hb
    refine ⟨r, ?_, hv⟩
    cases op <;> exact hr
  rename_i x y n1 n2
  rw [ite_no'] at hb
  obtain ⟨hp, hb⟩ := hb
  simp only [Bool.and_eq_true] at hp
  obtain ⟨ho, r, hr, hv⟩ := eqc hx hy hb
  refine ⟨r, ?_, hv⟩
  rcases ho with rfl | rfl
  · simp only [if_true] at hr
    rw [← hr]
    cases hx <;> first
      | (simp [plainV] at hp; done)
      | (cases hy <;> first | (simp [plainV] at hp; done) | rfl)
  · simp only [reduceCtorEq, if_false] at hr
    rw [← hr]
    cases hx <;> first
      | (simp [plainV] at hp; done)
      | (cases hy <;> first | (simp [plainV] at hp; done) | rfl)
end
end Go.Ev
