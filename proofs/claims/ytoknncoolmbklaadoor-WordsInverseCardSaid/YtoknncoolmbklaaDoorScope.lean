/- A SCOPE IN WHICH THE RUN JUMPS TO LABELS, INSIDE A FENCE: what holds at each label, and a measure that every pass from a label to a label lowers. -/
import Derived.ControlIn
import Derived.WalkKit
namespace Go.Proofs.YtoknncoolmbklaaDoor
set_option linter.unusedVariables false
set_option linter.unusedSimpArgs false
open Go Go.RowKit

/-- As Q; by a goto to label l: J l. -/
def jumps (J : Nat → Act → World → Prop) (Q : Exit → Act → World → Prop) : Exit → Act → World → Prop
  | .goto l, a, w => J l a w
  | e, a, w => Q e a w

theorem stepR_scope {P : Program} {b : Frame} {a : Act} {k : List Item} {cs : List Frame} {w : World} {c : Code} :
    step P (lone (b.atR a (.code (.scope c) :: k)) cs w) = .next (lone (b.atR a (.code c :: .inScope c :: k)) cs w) :=
  step_lone_go (by simp [stepG, stepG.exec, Frame.atR])
theorem stepR_inScope {P : Program} {b : Frame} {a : Act} {k : List Item} {cs : List Frame} {w : World} {c : Code} :
    step P (lone (b.atR a (.inScope c :: k)) cs w) = .next (lone (b.atR a k) cs w) :=
  step_lone_go (by simp [stepG, stepG.exec, Frame.atR])

theorem wpIn_scope_jumps {F : Fence} {n : Nat} {P : Program} {Q : Exit → Act → World → Prop} {a : Act} {w : World} {c : Code} (hro : F.round = none)
    (J : Nat → Act → World → Prop) (μ : Nat → Act → World → Nat)
    (hJ : ∀ l a w, J l a w → ∃ rest, findLabel c l = some rest)
    (first : c.wpIn F n P (jumps J Q) a w)
    (pass : ∀ l rest a w, findLabel c l = some rest → J l a w → rest.wpIn F n P (jumps (fun l' a' w' => J l' a' w' ∧ μ l' a' w' < μ l a w) Q) a w) :
    (Code.scope c).wpIn F n P Q a w := by
  intro b k cs hr hb hroom
  have hbn : b.roundOf = none := hr.trans hro
  have nosome : ¬ b.roundOf.isSome = true := by rw [hbn]; simp
  have hg : ∀ l rest, findLabel c l = some rest → gotoIn l (.inScope c :: k) = some (.code rest :: .inScope c :: k) := fun l rest h => by simp [gotoIn, h]
  have key : ∀ m l rest a w, μ l a w = m → findLabel c l = some rest → J l a w → ∃ e a' w', Q e a' w' ∧ ArrivesIn (Machine.fenced P F) P (lone (b.atR a (.code rest :: .inScope c :: k)) cs w) b k cs e a' w' := by
    intro m
    induction m using Nat.strongRecOn with
    | _ m ih =>
      intro l rest a w hm hf hj
      obtain ⟨e, a₁, w₁, hq, harr⟩ := pass l rest a w hf hj b (.inScope c :: k) cs hr hb hroom
      cases e with
      | normal => exact ⟨.normal, a₁, w₁, hq, StepsIn.trans harr (.one (fenced_calm hb hroom rfl) stepR_inScope)⟩
      | exit id => exact ⟨.exit id, a₁, w₁, hq, fun k' hk => harr.1 k' (by simp [exitTo, hk]), fun h => absurd h nosome⟩
      | goto l' =>
        obtain ⟨hj', hlt⟩ := hq
        obtain ⟨rest', hf'⟩ := hJ _ _ _ hj'
        obtain ⟨e₂, a₂, w₂, hq₂, harr₂⟩ := ih _ (by omega) l' rest' a₁ w₁ rfl hf' hj'
        exact ⟨e₂, a₂, w₂, hq₂, .of_steps (harr.1 _ (hg _ _ hf')) harr₂⟩
      | ret => exact ⟨_, a₁, w₁, hq, harr⟩
      | panic ch => exact ⟨_, a₁, w₁, hq, harr⟩
      | outgrown => exact ⟨_, a₁, w₁, hq, harr⟩
  have h0 : (lone (b.atR a (.code (.scope c) :: k)) cs w).fenced P F := fenced_calm hb hroom rfl
  obtain ⟨e, a₁, w₁, hq, harr⟩ := first b (.inScope c :: k) cs hr hb hroom
  cases e with
  | normal => exact ⟨.normal, a₁, w₁, hq, .head h0 stepR_scope (StepsIn.trans harr (.one (fenced_calm hb hroom rfl) stepR_inScope))⟩
  | exit id => exact ⟨.exit id, a₁, w₁, hq, fun k' hk => .head h0 stepR_scope (harr.1 k' (by simp [exitTo, hk])), fun h => absurd h nosome⟩
  | goto l' =>
    obtain ⟨rest', hf'⟩ := hJ _ _ _ hq
    obtain ⟨e₂, a₂, w₂, hq₂, harr₂⟩ := key _ l' rest' a₁ w₁ rfl hf' hq
    exact ⟨e₂, a₂, w₂, hq₂, .of_steps (.head h0 stepR_scope (harr.1 _ (hg _ _ hf'))) harr₂⟩
  | ret => exact ⟨_, a₁, w₁, hq, .of_steps (.one h0 stepR_scope) harr⟩
  | panic ch => exact ⟨_, a₁, w₁, hq, .of_steps (.one h0 stepR_scope) harr⟩
  | outgrown => exact ⟨_, a₁, w₁, hq, .of_steps (.one h0 stepR_scope) harr⟩

theorem jumps_mono {J J' : Nat → Act → World → Prop} {Q : Exit → Act → World → Prop} (h : ∀ l a w, J l a w → J' l a w) : ∀ e a w, jumps J Q e a w → jumps J' Q e a w := by
  intro e a w
  cases e <;> first | exact id | exact h _ a w

theorem jumps_ret {J : Nat → Act → World → Prop} {Q : Exit → Act → World → Prop} {a : Act} {w : World} (h : Q .ret a w) : jumps J Q .ret a w := h
theorem jumps_goto {J : Nat → Act → World → Prop} {Q : Exit → Act → World → Prop} {l : Nat} {a : Act} {w : World} (h : J l a w) : jumps J Q (.goto l) a w := h
/-- Three labels; each begins at what is known, the second one runs on into the third one, the start into the first one. -/
theorem wpIn_scope3 {F : Fence} {n : Nat} {P : Program} {Q : Exit → Act → World → Prop} {a : Act} {w : World} {c r0 r1 r2 : Code} (hro : F.round = none)
    (f0 : findLabel c 0 = some (.seq .skip r0)) (f1 : findLabel c 1 = some (.seq .skip r1)) (f2 : findLabel c 2 = some (.seq .skip r2))
    (J : Nat → Act → World → Prop) (μ : Nat → Act → World → Nat) (hJ : ∀ l a w, J l a w → l = 0 ∨ l = 1 ∨ l = 2)
    (first : (∀ a w, J 0 a w → r0.wpIn F n P (jumps J Q) a w) → c.wpIn F n P (jumps J Q) a w)
    (p0 : ∀ a w, J 0 a w → r0.wpIn F n P (jumps (fun l' a' w' => J l' a' w' ∧ μ l' a' w' < μ 0 a w) Q) a w)
    (p1 : ∀ a w, J 1 a w → (∀ a' w', J 2 a' w' → μ 2 a' w' ≤ μ 1 a w → r2.wpIn F n P (jumps (fun l' a' w' => J l' a' w' ∧ μ l' a' w' < μ 1 a w) Q) a' w') →
      r1.wpIn F n P (jumps (fun l' a' w' => J l' a' w' ∧ μ l' a' w' < μ 1 a w) Q) a w)
    (p2 : ∀ a w, J 2 a w → r2.wpIn F n P (jumps (fun l' a' w' => J l' a' w' ∧ μ l' a' w' < μ 2 a w) Q) a w) :
    (Code.scope c).wpIn F n P Q a w := by
  refine wpIn_scope_jumps hro J μ ?_ (first fun a w h => wpIn_mono (p0 a w h) (jumps_mono fun _ _ _ h => h.1)) ?_
  · intro l a w h
    rcases hJ l a w h with rfl | rfl | rfl
    · exact ⟨_, f0⟩
    · exact ⟨_, f1⟩
    · exact ⟨_, f2⟩
  · intro l rest a w hf h
    rcases hJ l a w h with rfl | rfl | rfl
    · obtain rfl := Option.some.inj (f0.symm.trans hf); exact wpIn_seq (wpIn_skip (p0 a w h))
    · obtain rfl := Option.some.inj (f1.symm.trans hf)
      refine wpIn_seq (wpIn_skip ?_)
      exact p1 a w h fun a' w' h' hm => wpIn_mono (p2 a' w' h') (jumps_mono fun _ _ _ h => ⟨h.1, Nat.lt_of_lt_of_le h.2 hm⟩)
    · obtain rfl := Option.some.inj (f2.symm.trans hf); exact wpIn_seq (wpIn_skip (p2 a w h))
end Go.Proofs.YtoknncoolmbklaaDoor
