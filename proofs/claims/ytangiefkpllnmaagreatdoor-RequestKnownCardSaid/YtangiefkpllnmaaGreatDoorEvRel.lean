/- What the evaluator's values and heaps say of a world. -/
import Derived.Test.YtangiefkpllnmaaGreatDoorEvDef
import Derived.Laws.Sem
import Derived.Laws.Cells
import Derived.Below
namespace Go.Ev
set_option linter.unusedVariables false
set_option linter.unusedSimpArgs false

theorem T.get_nil {α : Type} (m : Nat) : (T.nil : T α).get m = none := rfl
theorem T.get_setF {α : Type} : ∀ (k : Nat) (t : T α) (n : Nat) (v : Option α) (m : Nat), n < k → (T.setF k t n v).get m = if m = n then v else t.get m := by
  intro k
  induction k with
  | zero => intro t n v m h; omega
  | succ k ih =>
    intro t n v m h
    cases t with
    | nil =>
      unfold T.setF
      by_cases h0 : n = 0
      · simp only [h0, if_true]
        by_cases hm : m = 0
        · simp [hm, T.get]
        · simp only [hm, if_false, T.get]; split <;> rfl
      · by_cases h1 : n % 2 = 1
        · simp only [h0, h1, if_true, if_false]
          by_cases hm : m = 0
          · simp only [hm, T.get, if_true]; rw [if_neg (by omega)]
          · by_cases hm1 : m % 2 = 1
            · simp only [hm, hm1, T.get, if_true, if_false]
              rw [ih _ _ _ _ (by omega)]
              by_cases e : m = n
              · simp [e]
              · rw [if_neg (by omega), if_neg e]; simp [T.get]
            · simp only [hm, hm1, T.get, if_false]; rw [if_neg (by omega)]
        · simp only [h0, h1, if_false]
          by_cases hm : m = 0
          · simp only [hm, T.get, if_true]; rw [if_neg (by omega)]
          · by_cases hm1 : m % 2 = 1
            · simp only [hm, hm1, T.get, if_true, if_false]; rw [if_neg (by omega)]
            · simp only [hm, hm1, T.get, if_false]
              rw [ih _ _ _ _ (by omega)]
              by_cases e : m = n
              · simp [e]
              · rw [if_neg (by omega), if_neg e]; simp [T.get]
    | node o l r =>
      unfold T.setF
      by_cases h0 : n = 0
      · simp only [h0, if_true]
        by_cases hm : m = 0
        · simp [hm, T.get]
        · simp only [hm, if_false, T.get]
      · by_cases h1 : n % 2 = 1
        · simp only [h0, h1, if_true, if_false]
          by_cases hm : m = 0
          · simp only [hm, T.get, if_true]; rw [if_neg (by omega)]
          · by_cases hm1 : m % 2 = 1
            · simp only [hm, hm1, T.get, if_true, if_false]
              rw [ih _ _ _ _ (by omega)]
              by_cases e : m = n
              · simp [e]
              · rw [if_neg (by omega), if_neg e]
            · simp only [hm, hm1, T.get, if_false]; rw [if_neg (by omega)]
        · simp only [h0, h1, if_false]
          by_cases hm : m = 0
          · simp only [hm, T.get, if_true]; rw [if_neg (by omega)]
          · by_cases hm1 : m % 2 = 1
            · simp only [hm, hm1, T.get, if_true, if_false]; rw [if_neg (by omega)]
            · simp only [hm, hm1, T.get, if_false]
              rw [ih _ _ _ _ (by omega)]
              by_cases e : m = n
              · simp [e]
              · rw [if_neg (by omega), if_neg e]
theorem T.get_set {α : Type} (t : T α) (n : Nat) (v : α) (m : Nat) : (t.set n v).get m = if m = n then some v else t.get m := T.get_setF _ _ _ _ _ (by omega)
theorem T.get_del {α : Type} (t : T α) (n m : Nat) : (t.del n).get m = if m = n then none else t.get m := T.get_setF _ _ _ _ _ (by omega)
theorem T.get_ofL {α : Type} : ∀ (l : List α) (n : Nat) (t : T α) (m : Nat), (T.ofL l n t).get m = if n ≤ m ∧ m < n + l.length then l[m - n]? else t.get m := by
  intro l
  induction l with
  | nil => intro n t m; rw [if_neg (by simp only [List.length_nil]; omega)]; rfl
  | cons x l ih =>
    intro n t m
    rw [T.ofL, ih, T.get_set]
    by_cases h : m = n
    · subst h; rw [if_neg (by omega), if_pos rfl, if_pos (by simp)]; simp only [Nat.sub_self]; rfl
    · by_cases h2 : n ≤ m ∧ m < n + (l.length + 1)
      · rw [if_pos (by omega), if_pos (by simpa using h2), show m - n = (m - (n + 1)) + 1 by omega]; rfl
      · rw [if_neg (by omega), if_neg h, if_neg (by simpa using h2)]

/-- Where a block lies: its number, how far from its beginning, and how many cells from there. -/
abbrev Env := Nat → Option (Nat × Nat × Nat)
def Env.le (ρ ρ' : Env) : Prop := ∀ r t, ρ r = some t → ρ' r = some t
theorem Env.le_refl (ρ : Env) : Env.le ρ ρ := fun _ _ h => h
theorem Env.le_trans {a b c : Env} (h : Env.le a b) (k : Env.le b c) : Env.le a c := fun r t e => k r t (h r t e)
def Env.put (ρ : Env) (r : Nat) (t : Nat × Nat × Nat) : Env := fun x => if x = r then some t else ρ x
theorem Env.le_put {ρ : Env} {r : Nat} {t : Nat × Nat × Nat} (h : ρ r = none) : Env.le ρ (ρ.put r t) := by
  intro x u hx
  unfold Env.put
  by_cases e : x = r
  · subst e; rw [h] at hx; cases hx
  · rw [if_neg e]; exact hx
theorem Env.put_at (ρ : Env) (r : Nat) (t : Nat × Nat × Nat) : ρ.put r t r = some t := by unfold Env.put; rw [if_pos rfl]
theorem Env.put_ne (ρ : Env) {r x : Nat} (t : Nat × Nat × Nat) (h : x ≠ r) : ρ.put r t x = ρ x := by unfold Env.put; rw [if_neg h]

inductive FnR (ρ : Env) : Fn → Fn → Prop
  | same {f : Fn} (h : ∀ l, f ≠ .yield l) : FnR ρ f f
  | yield {l b d n : Nat} (h : ρ l = some (b, d, n)) : FnR ρ (.yield l) (.yield b)

/-- What a value of the evaluator says; η: the values that are not looked into. -/
inductive VR (η : Nat → Value) (ρ : Env) : Value → Value → Prop
  | bool (b : Bool) : VR η ρ (.bool b) (.bool b)
  | int (k : IntKind) (n : Int) : VR η ρ (.int k n) (.int k n)
  | float (k : FloatKind) (b : Nat) : VR η ρ (.float k b) (.float k b)
  | complex (k : FloatKind) (a b : Nat) : VR η ρ (.complex k a b) (.complex k a b)
  | string (s : ByteArray) : VR η ρ (.string s) (.string s)
  | ptr0 : VR η ρ (.pointer none) (.pointer none)
  | ptr {r o b d n : Nat} (h : ρ r = some (b, d, n)) : VR η ρ (.pointer (some ⟨r, o, none⟩)) (.pointer (some ⟨b, d + o, none⟩))
  | slice0 (l c : Nat) (hc : isU c = false) : VR η ρ (.slice none l c) (.slice none l c)
  | slice {r o b d n : Nat} (l c : Nat) (h : ρ r = some (b, d, n)) (hc : isU c = false) : VR η ρ (.slice (some ⟨r, o, none⟩) l c) (.slice (some ⟨b, d + o, none⟩) l c)
  | sliceU {r o b d n : Nat} (l s c : Nat) (h : ρ r = some (b, d, n)) (hs : 0 < s) (hc : o + c * s = n) (hl : l ≤ c) (hb : c < capB) : VR η ρ (.slice (some ⟨r, o, none⟩) l (capU s)) (.slice (some ⟨b, d + o, none⟩) l c)
  | map0 : VR η ρ (.map none) (.map none)
  | map {r b d n : Nat} (h : ρ r = some (b, d, n)) : VR η ρ (.map (some r)) (.map (some b))
  | func {f g : Fn} {a b c d : Array Value} (hf : FnR ρ f g) (h1 : a.toList.length = c.toList.length) (h2 : b.toList.length = d.toList.length)
      (h3 : ∀ (i : Nat) (v x : Value), a.toList[i]? = some v → c.toList[i]? = some x → VR η ρ v x) (h4 : ∀ (i : Nat) (v x : Value), b.toList[i]? = some v → d.toList[i]? = some x → VR η ρ v x) : VR η ρ (.func f a b) (.func g c d)
  | nilFunc : VR η ρ .nilFunc .nilFunc
  | nilIface : VR η ρ .nilIface .nilIface
  | iface (t : TypeId) {v x : Value} (h : VR η ρ v x) : VR η ρ (.iface t v) (.iface t x)
  | agg {a c : Array Value} (h1 : a.toList.length = c.toList.length) (h3 : ∀ (i : Nat) (v x : Value), a.toList[i]? = some v → c.toList[i]? = some x → VR η ρ v x) : VR η ρ (.agg a) (.agg c)
  | tuple {a c : Array Value} (h1 : a.toList.length = c.toList.length) (h3 : ∀ (i : Nat) (v x : Value), a.toList[i]? = some v → c.toList[i]? = some x → VR η ρ v x) : VR η ρ (.tuple a) (.tuple c)
  | opq (i : Nat) : VR η ρ (.chan (some i)) (η i)
  /-- of which nothing is known -/
  | any {x : Value} (h : x.oneCell' = true) : VR η ρ (.chan none) x
theorem FnR.mono {ρ ρ' : Env} (h : Env.le ρ ρ') {f g : Fn} (k : FnR ρ f g) : FnR ρ' f g := by
  cases k with
  | same h => exact .same h
  | yield e => exact .yield (h _ _ e)
variable {η : Nat → Value}
theorem VR.mono {ρ ρ' : Env} (h : Env.le ρ ρ') {v x : Value} (k : VR η ρ v x) : VR η ρ' v x := by
  induction k with
  | bool b => exact .bool b
  | int k n => exact .int k n
  | float k b => exact .float k b
  | complex k a b => exact .complex k a b
  | string s => exact .string s
  | ptr0 => exact .ptr0
  | ptr e => exact .ptr (h _ _ e)
  | slice0 l c hc => exact .slice0 l c hc
  | slice l c e hc => exact .slice l c (h _ _ e) hc
  | sliceU l s c e hs hc hl hb => exact .sliceU l s c (h _ _ e) hs hc hl hb
  | map0 => exact .map0
  | map e => exact .map (h _ _ e)
  | func hf h1 h2 _ _ i3 i4 => exact .func (hf.mono h) h1 h2 i3 i4
  | nilFunc => exact .nilFunc
  | nilIface => exact .nilIface
  | iface t _ ih => exact .iface t ih
  | agg h1 _ i3 => exact .agg h1 i3
  | tuple h1 _ i3 => exact .tuple h1 i3
  | opq i => exact .opq i
  | any h => exact .any h

/-- Lists, element by element. -/
structure LR (η : Nat → Value) (ρ : Env) (l m : List Value) : Prop where
  len : l.length = m.length
  at_ : ∀ (i : Nat) (v x : Value), l[i]? = some v → m[i]? = some x → VR η ρ v x
theorem LR.nil {ρ : Env} : LR η ρ [] [] := ⟨rfl, fun _ _ _ h => by simp at h⟩
theorem LR.cons {ρ : Env} {v x : Value} {l m : List Value} (h : VR η ρ v x) (k : LR η ρ l m) : LR η ρ (v :: l) (x :: m) := by
  refine ⟨by simp [k.len], fun i a b ha hb => ?_⟩
  cases i with
  | zero => simp at ha hb; subst ha; subst hb; exact h
  | succ i => simp at ha hb; exact k.at_ i a b ha hb
theorem LR.inv_cons {ρ : Env} {v : Value} {l m : List Value} (h : LR η ρ (v :: l) m) : ∃ x m', m = x :: m' ∧ VR η ρ v x ∧ LR η ρ l m' := by
  cases m with
  | nil => have := h.len; simp at this
  | cons x m =>
    refine ⟨x, m, rfl, h.at_ 0 v x rfl rfl, by have := h.len; simpa using this, fun i a b ha hb => h.at_ (i + 1) a b (by simpa using ha) (by simpa using hb)⟩
theorem LR.inv_nil {ρ : Env} {m : List Value} (h : LR η ρ [] m) : m = [] := by
  have := h.len; cases m with
  | nil => rfl
  | cons _ _ => simp at this
theorem LR.mono {ρ ρ' : Env} (h : Env.le ρ ρ') {l m : List Value} (k : LR η ρ l m) : LR η ρ' l m := ⟨k.len, fun i v x a b => (k.at_ i v x a b).mono h⟩
theorem LR.append {ρ : Env} {a b c d : List Value} (h : LR η ρ a c) (k : LR η ρ b d) : LR η ρ (a ++ b) (c ++ d) := by
  refine ⟨by simp [h.len, k.len], fun i v x hv hx => ?_⟩
  by_cases hi : i < a.length
  · rw [List.getElem?_append_left hi] at hv
    rw [List.getElem?_append_left (by rw [← h.len]; exact hi)] at hx
    exact h.at_ i v x hv hx
  · rw [List.getElem?_append_right (by omega)] at hv
    rw [List.getElem?_append_right (by rw [← h.len]; omega), ← h.len] at hx
    exact k.at_ _ v x hv hx
theorem LR.take {ρ : Env} {a c : List Value} (h : LR η ρ a c) (n : Nat) : LR η ρ (a.take n) (c.take n) := by
  refine ⟨by simp [h.len], fun i v x hv hx => ?_⟩
  rw [List.getElem?_take] at hv hx
  split at hv
  · rename_i hi; rw [if_pos hi] at hx; exact h.at_ i v x hv hx
  · cases hv
theorem LR.drop {ρ : Env} {a c : List Value} (h : LR η ρ a c) (n : Nat) : LR η ρ (a.drop n) (c.drop n) := by
  refine ⟨by simp [h.len], fun i v x hv hx => ?_⟩
  rw [List.getElem?_drop] at hv hx
  exact h.at_ _ v x hv hx
theorem LR.get {ρ : Env} {a c : List Value} (h : LR η ρ a c) {i : Nat} {v : Value} (hv : a[i]? = some v) : ∃ x, c[i]? = some x ∧ VR η ρ v x := by
  have hi : i < a.length := (List.getElem?_eq_some_iff.1 hv).1
  have hc : i < c.length := by rw [← h.len]; exact hi
  exact ⟨c[i], List.getElem?_eq_getElem hc, h.at_ i v _ hv (List.getElem?_eq_getElem hc)⟩
theorem LR.get_none {ρ : Env} {a c : List Value} (h : LR η ρ a c) {i : Nat} (hv : a[i]? = none) : c[i]? = none := by
  rw [List.getElem?_eq_none_iff] at hv ⊢; rw [← h.len]; exact hv
theorem VR.agg' {ρ : Env} {a c : List Value} (h : LR η ρ a c) : VR η ρ (aggL a) (.agg c.toArray) := .agg (by simpa using h.len) (fun i v x hv hx => h.at_ i v x (by simpa using hv) (by simpa using hx))
theorem VR.tup' {ρ : Env} {a c : List Value} (h : LR η ρ a c) : VR η ρ (tupL a) (.tuple c.toArray) := .tuple (by simpa using h.len) (fun i v x hv hx => h.at_ i v x (by simpa using hv) (by simpa using hx))
/-- A value without addresses says itself. -/
theorem VR.bare {ρ : Env} {v : Value} (h : bareV v = true) : VR η ρ v v := by
  cases v with
  | bool b => exact .bool b
  | int k n => exact .int k n
  | float k n => exact .float k n
  | complex k a b => exact .complex k a b
  | string s => exact .string s
  | pointer a => cases a with
    | none => exact .ptr0
    | some a => simp [bareV] at h
  | slice a l c => cases a with
    | none => exact .slice0 l c (by simpa [bareV] using h)
    | some a => simp [bareV] at h
  | map r => cases r with
    | none => exact .map0
    | some a => simp [bareV] at h
  | nilFunc => exact .nilFunc
  | nilIface => exact .nilIface
  | _ => simp [bareV] at h
theorem LR.bare {ρ : Env} : ∀ {l : List Value}, l.all bareV = true → LR η ρ l l
  | [], _ => .nil
  | v :: l, h => by
    simp only [List.all_cons, Bool.and_eq_true] at h
    exact .cons (.bare h.1) (LR.bare h.2)
theorem VR.bareA {ρ : Env} {v : Value} (h : bareA v = true) : VR η ρ v v := by
  cases v with
  | agg cs =>
    have := LR.bare (η := η) (ρ := ρ) (l := cs.toList) h
    exact .agg rfl this.at_
  | tuple cs =>
    have he : cs.toList = [] := by simpa [Ev.bareA] using h
    exact .tuple rfl (fun i v x hv => by rw [he] at hv; simp at hv)
  | _ => exact .bare h

/-- The values that are not looked into are of one cell each. -/
def OneCells (η : Nat → Value) : Prop := ∀ i, (η i).oneCell' = true
theorem VR.oneC (hη : OneCells η) {ρ : Env} {v x : Value} (h : VR η ρ v x) (hv : Ev.oneC v = true) : x.oneCell' = true := by
  cases h <;> first | rfl | (simp [Ev.oneC] at hv; done) | exact hη _ | assumption
theorem VR.cells (hη : OneCells η) {ρ : Env} {v x : Value} (h : VR η ρ v x) : LR η ρ (cellsL v) x.cells.toList := by
  have one : ∀ {v x : Value}, VR η ρ v x → cellsL v = [v] → x.cells = #[x] → LR η ρ (cellsL v) x.cells.toList := by
    intro v x h h1 h2
    rw [h1, h2]; exact .cons h .nil
  cases h with
  | agg h1 h3 => exact ⟨h1, h3⟩
  | opq i =>
    refine one (.opq i) rfl ?_
    have := hη i
    cases hx : η i <;> first | rfl | (rw [hx] at this; simp [Value.oneCell'] at this)
  | any h =>
    refine one (.any h) rfl ?_
    cases x <;> first | rfl | simp [Value.oneCell'] at h
  | tuple h1 h3 => exact one (.tuple h1 h3) rfl rfl
  | func a b c d e => exact one (.func a b c d e) rfl rfl
  | iface t h => exact one (.iface t h) rfl rfl
  | bool b => exact one (.bool b) rfl rfl
  | int k n => exact one (.int k n) rfl rfl
  | float k n => exact one (.float k n) rfl rfl
  | complex k a b => exact one (.complex k a b) rfl rfl
  | string s => exact one (.string s) rfl rfl
  | ptr0 => exact one .ptr0 rfl rfl
  | ptr h => exact one (.ptr h) rfl rfl
  | slice0 l c h => exact one (.slice0 l c h) rfl rfl
  | slice l c h h' => exact one (.slice l c h h') rfl rfl
  | sliceU l s c h a b d e => exact one (.sliceU l s c h a b d e) rfl rfl
  | map0 => exact one .map0 rfl rfl
  | map h => exact one (.map h) rfl rfl
  | nilFunc => exact one .nilFunc rfl rfl
  | nilIface => exact one .nilIface rfl rfl

/-- Temporaries. -/
def TR (η : Nat → Value) (ρ : Env) (tm : T Value) (n : Nat) (tmps : Array Value) : Prop := tmps.size = n ∧ (∀ t, n ≤ t → tm.get t = none) ∧ ∀ t, t < n → VR η ρ ((tm.get t).getD undef) (tmps.getD t undef)
def TgR (ρ : Env) (η : Nat → Value) : Target → Target → Prop
  | .fn f a, .fn g b => FnR ρ f g ∧ LR η ρ a.toList b.toList
  | .nil, .nil => True
  | .builtin b ts t cs, .builtin b' ts' t' cs' => b = b' ∧ ts = ts' ∧ t = t' ∧ cs = cs'
  | .collected r, .collected r' => ∃ d n, ρ r = some (r', d, n)
  | _, _ => False
def DR (η : Nat → Value) (ρ : Env) (d e : Deferred) : Prop := TgR ρ η d.target e.target ∧ LR η ρ d.args.toList e.args.toList
/-- Lists of what is related. -/
inductive L2 {α β : Type} (R : α → β → Prop) : List α → List β → Prop
  | nil : L2 R [] []
  | cons {a b l m} (h : R a b) (k : L2 R l m) : L2 R (a :: l) (b :: m)
theorem L2.mono {α β : Type} {R S : α → β → Prop} (h : ∀ a b, R a b → S a b) {l : List α} {m : List β} (k : L2 R l m) : L2 S l m := by
  induction k with
  | nil => exact .nil
  | cons a _ ih => exact .cons (h _ _ a) ih
theorem L2.append {α β : Type} {R : α → β → Prop} {l l' : List α} {m m' : List β} (h : L2 R l m) (k : L2 R l' m') : L2 R (l ++ l') (m ++ m') := by
  induction h with
  | nil => exact k
  | cons a _ ih => exact .cons a ih
theorem L2.len {α β : Type} {R : α → β → Prop} {l : List α} {m : List β} (h : L2 R l m) : l.length = m.length := by
  induction h with
  | nil => rfl
  | cons _ _ ih => simp [ih]
def ER (η : Nat → Value) (ρ : Env) (e f : MapEntry) : Prop := VR η ρ e.key f.key ∧ VR η ρ e.val f.val ∧ e.born = f.born
theorem TR.mono {ρ ρ' : Env} (h : Env.le ρ ρ') {tm : T Value} {n : Nat} {ts : Array Value} (k : TR η ρ tm n ts) : TR η ρ' tm n ts := ⟨k.1, k.2.1, fun t ht => (k.2.2 t ht).mono h⟩
theorem TgR.mono {ρ ρ' : Env} (h : Env.le ρ ρ') {s t : Target} (k : TgR ρ η s t) : TgR ρ' η s t := by
  cases s <;> cases t <;> simp only [TgR] at k ⊢ <;> first | exact k | exact ⟨k.1.mono h, k.2.mono h⟩ | (obtain ⟨d, n, e⟩ := k; exact ⟨d, n, h _ _ e⟩)
theorem DR.mono {ρ ρ' : Env} (h : Env.le ρ ρ') {d e : Deferred} (k : DR η ρ d e) : DR η ρ' d e := ⟨k.1.mono h, k.2.mono h⟩
theorem ER.mono {ρ ρ' : Env} (h : Env.le ρ ρ') {d e : MapEntry} (k : ER η ρ d e) : ER η ρ' d e := ⟨k.1.mono h, k.2.1.mono h, k.2.2⟩

structure CR (η : Nat → Value) (ρ : Env) (ty : TypeId) (c : List Value) (p : Bool) (own : Nat) (d n : Nat) (C : Array Value) (ty' : TypeId) (lo hi : Nat) : Prop where
  ty : ty' = ty
  size : C.toList.length = d + n
  len : c.length ≤ n
  at_ : ∀ (i : Nat) (v : Value), c[i]? = some v → ∃ x, C.toList[d + i]? = some x ∧ VR η ρ v x
  plain : p = true → lo = 0 ∧ hi = 0 ∧ d = 0 ∧ c.length = n
  free : own = 2 → ∀ i, i < n → ¬ (lo ≤ d + i ∧ d + i < hi)
/-- What a block of the evaluator says of one of the world's. -/
def OR (η : Nat → Value) (ρ : Env) : AObj → Nat → Nat → Obj → Prop
  | .cells ty c p own, d, n, o => ∃ C ty' lo hi, o = .cells C ty' (lo, hi) ∧ CR η ρ ty c p own d n C ty' lo hi
  | .map es clock _, _, _, o => ∃ E, o = .map E clock ∧ L2 (ER η ρ) es E.toList
  | .stringIter s pos, d, _, o => d = 0 ∧ o = .stringIter s pos
  | .mapIter m since seen last, d, _, o => d = 0 ∧ ∃ m', o = .mapIter m' since seen.toArray last ∧ (match m, m' with | none, none => True | some r, some b => ∃ d n, ρ r = some (b, d, n) | _, _ => False)
  | .loop st pend fn tm n ps asg body ds, _, _, o => ∃ l : Loop, o = .loop l ∧ l.state = st ∧ l.pending = pend ∧ l.fn = fn ∧ TR η ρ tm n l.tmps ∧ l.params.toList = ps ∧ l.assign = asg ∧ l.body = body ∧ ∃ d n, ρ ds = some (l.defers, d, n)
  | .deferred ds, _, _, o => ∃ ds', o = .deferred ds' ∧ (match ds, ds' with | none, none => True | some l, some m => L2 (DR η ρ) l m | _, _ => False)
def ownO : AObj → Bool
  | .cells _ _ _ own => own != 0
  | .map _ _ own => own
  | _ => true
theorem CR.mono {ρ ρ' : Env} (h : Env.le ρ ρ') {ty : TypeId} {c : List Value} {p : Bool} {own : Nat} {d n : Nat} {C : Array Value} {ty' : TypeId} {lo hi : Nat} (k : CR η ρ ty c p own d n C ty' lo hi) : CR η ρ' ty c p own d n C ty' lo hi :=
  ⟨k.ty, k.size, k.len, fun i v e => let ⟨x, a, b⟩ := k.at_ i v e; ⟨x, a, b.mono h⟩, k.plain, k.free⟩
theorem OR.mono {ρ ρ' : Env} (h : Env.le ρ ρ') {a : AObj} {d n : Nat} {o : Obj} (k : OR η ρ a d n o) : OR η ρ' a d n o := by
  cases a with
  | cells ty c p own => obtain ⟨C, t, lo, hi, e, k⟩ := k; exact ⟨C, t, lo, hi, e, k.mono h⟩
  | map es clock own => obtain ⟨E, e, k⟩ := k; exact ⟨E, e, k.mono fun _ _ => ER.mono h⟩
  | stringIter s pos => exact k
  | mapIter m since seen last =>
    obtain ⟨hd, m', e, k⟩ := k
    refine ⟨hd, m', e, ?_⟩
    cases m <;> cases m' <;> simp only at k ⊢
    obtain ⟨d, n, e⟩ := k; exact ⟨d, n, h _ _ e⟩
  | loop st pend fn tm n ps asg body ds =>
    obtain ⟨l, e, a, b, c, t, f, g, i, d, n, k⟩ := k
    exact ⟨l, e, a, b, c, t.mono h, f, g, i, d, n, h _ _ k⟩
  | deferred ds =>
    obtain ⟨m', e, k⟩ := k
    refine ⟨m', e, ?_⟩
    cases ds <;> cases m' <;> simp only at k ⊢
    exact k.mono fun _ _ => DR.mono h

/-- What the evaluator's heap says of a world; B: what it may write lies from this block on. -/
structure HR (η : Nat → Value) (ρ : Env) (B : Nat) (h : AH) (w : World) : Prop where
  obj : ∀ r a, h.objs.get r = some a → ∃ b d n o, ρ r = some (b, d, n) ∧ w.heap[b]? = some o ∧ OR η ρ a d n o ∧ (ownO a = true → B ≤ b)
  inj : ∀ r r' a a' b d n d' n', h.objs.get r = some a → h.objs.get r' = some a' → ρ r = some (b, d, n) → ρ r' = some (b, d', n') → r = r'
def Own (ρ : Env) (h : AH) (b : Nat) : Prop := ∃ r a d n, h.objs.get r = some a ∧ ownO a = true ∧ ρ r = some (b, d, n)
/-- What is left as it was: all that the heap does not own. -/
structure Fr (ρ : Env) (h : AH) (w w' : World) : Prop where
  os : w'.os = w.os
  tape : w'.tape = w.tape
  output : w'.output = w.output
  size : w.heap.size ≤ w'.heap.size
  kept : ∀ k, k < w.heap.size → ¬ Own ρ h k → w'.heap[k]? = w.heap[k]?
/-- What is owned behind was owned before, or is new. -/
def OwnIn (ρ ρ' : Env) (h h' : AH) (w : World) : Prop := ∀ b, Own ρ' h' b → Own ρ h b ∨ w.heap.size ≤ b
def FreshR (ρ : Env) (n : Nat) : Prop := ∀ r, n ≤ r → ρ r = none
theorem Fr.refl (ρ : Env) (h : AH) (w : World) : Fr ρ h w w := ⟨rfl, rfl, rfl, Nat.le_refl _, fun _ _ _ => rfl⟩
theorem Fr.trans {ρ ρ' : Env} {h h' : AH} {w w' w'' : World} (a : Fr ρ h w w') (o : OwnIn ρ ρ' h h' w) (b : Fr ρ' h' w' w'') : Fr ρ h w w'' := by
  refine ⟨b.os.trans a.os, b.tape.trans a.tape, b.output.trans a.output, Nat.le_trans a.size b.size, fun k hk hn => ?_⟩
  rw [b.kept k (Nat.lt_of_lt_of_le hk a.size) (fun hq => ?_), a.kept k hk hn]
  rcases o k hq with h | h
  · exact hn h
  · omega
theorem OwnIn.trans {ρ ρ' ρ'' : Env} {h h' h'' : AH} {w w' : World} (a : OwnIn ρ ρ' h h' w) (hs : w.heap.size ≤ w'.heap.size) (b : OwnIn ρ' ρ'' h' h'' w') : OwnIn ρ ρ'' h h'' w := by
  intro k hk
  rcases b k hk with h | h
  · exact a k h
  · exact .inr (by omega)
theorem OwnIn.refl (ρ : Env) (h : AH) (w : World) : OwnIn ρ ρ h h w := fun _ h => .inl h
theorem HR.below {ρ : Env} {B : Nat} {h : AH} {w w' : World} (k : HR η ρ B h w) (f : Fr ρ h w w') (hB : B ≤ w.heap.size) : Go.RowKit.Below B w w' := by
  refine ⟨f.os, f.tape, f.output, f.size, fun i hi => f.kept i (by omega) fun ⟨r, a, d, n, e1, e2, e3⟩ => ?_⟩
  obtain ⟨b, d', n', o, e4, _, _, e5⟩ := k.obj r a e1
  rw [e3] at e4
  injection e4 with e4
  injection e4 with e4
  have := e5 e2
  omega
end Go.Ev
