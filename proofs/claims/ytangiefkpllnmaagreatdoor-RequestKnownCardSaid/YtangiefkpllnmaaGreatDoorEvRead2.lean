/- Comparing, converting, looking up. -/
import Derived.Test.YtangiefkpllnmaaGreatDoorEvRead
namespace Go.Ev
set_option linter.unusedVariables false
set_option linter.unusedSimpArgs false
variable {η : Nat → Value}
section
variable {P : Program} {ρ : Env} {B : Nat} {h : AH} {w : World}
theorem toList_bytes (a b : ByteArray) : (a == b) = (a.data.toList == b.data.toList) := by
  rw [beq_toListBytes, ByteArray.toList_eq, ByteArray.toList_eq]
theorem eqAddr_ok (H : HR η ρ B h w) {a b a' b' : Addr} {r : Bool} (he : eqAddr h a b = .ok r) (ha : AdR ρ a a') (hb : AdR ρ b b') : (sameAddr a' b').run P w = .ok r w := by
  unfold eqAddr at he
  rw [ite_no'] at he
  obtain ⟨⟨sa, sb⟩, he⟩ := he
  obtain ⟨_, n, blk, d, h2, rfl⟩ := ha
  obtain ⟨_, n', blk', d', h2', rfl⟩ := hb
  by_cases hbl : a.block = b.block
  · rw [if_pos hbl, okk] at he; subst he
    rw [hbl, h2'] at h2; cases h2
    simp only [sameAddr, beq_self_eq_true, if_true]
    simp only [Sem.run_pure, Result.ok.injEq, and_true]
    by_cases ho : a.off = b.off
    · simp [ho]
    · have : ¬ (d + a.off = d + b.off) := by omega
      rw [show (a.off == b.off) = false from by simpa using ho]
      rw [beq_eq_false_iff_ne]
      intro hc; injection hc; omega
  · rw [if_neg hbl] at he
    split at he
    · rename_i c p q1 c' p' q2 hc1 hc2
      rw [ite_no', okk] at he
      obtain ⟨hp, rfl⟩ := he
      simp only [Bool.and_eq_true] at hp
      obtain ⟨b1, d1, n1, C1, lo1, hi1, e1, f1, g1, _⟩ := H.cells (cellsAt_ok.1 hc1)
      obtain ⟨b2, d2, n2, C2, lo2, hi2, e2, f2, g2, _⟩ := H.cells (cellsAt_ok.1 hc2)
      rw [h2] at e1; cases e1
      rw [h2'] at e2; cases e2
      have hne : blk ≠ blk' := fun e => hbl (by subst e; exact H.inj _ _ _ _ _ _ _ _ _ (cellsAt_ok.1 hc1) (cellsAt_ok.1 hc2) h2 h2')
      obtain ⟨rfl, rfl, _, _⟩ := g1.plain hp.1.1.1
      obtain ⟨rfl, rfl, _, _⟩ := g2.plain hp.1.1.2
      have fz1 : ∀ o, w.frozen? ⟨blk, o, none⟩ = false := fun o => by simp [World.frozen?, f1]
      have fz2 : ∀ o, w.frozen? ⟨blk', o, none⟩ = false := fun o => by simp [World.frozen?, f2]
      obtain ⟨T1, s1⟩ : ∃ T, w.shape? blk = some (T, C1.size) := ⟨_, by simp only [World.shape?, f1]; rfl⟩
      obtain ⟨T2, s2⟩ : ∃ T, w.shape? blk' = some (T, C2.size) := ⟨_, by simp only [World.shape?, f2]; rfl⟩
      simp only [sameAddr]
      rw [if_neg (by simpa using hne)]
      simp [fz1, fz2, s1, s2, noView, viewAt, mayBeOne, stringish]
    · simp [no] at he
  
theorem eqFields_ok {d : Nat} (ih : ∀ (t : TypeId) (x y x' y' : Value) (r : Bool), eqA P h d t x y = .ok r → VR η ρ x x' → VR η ρ y y' → (Op.equalIn d t x' y').run P w = .ok r w)
    {xs ys : List Value} {xs' ys' : Array Value} (hx : LR η ρ xs xs'.toList) (hy : LR η ρ ys ys'.toList) : ∀ (fs : List Field) (r : Bool), eqFields P (eqA P h d) xs ys fs = .ok r → (Op.eqFields d xs' ys' fs).run P w = .ok r w
  | [], r, he => by
    simp only [eqFields, okk] at he; subst he; rfl
  | f :: fs, r, he => by
    simp only [eqFields] at he
    by_cases hn : f.name = "_"
    · rw [if_pos hn] at he
      simp only [Op.eqFields]
      rw [if_neg (by simpa using hn)]
      exact eqFields_ok ih hx hy fs r he
    · rw [if_neg hn] at he
      simp only [bind_ok] at he
      obtain ⟨a, ha, b, hb, r1, hr1, he⟩ := he
      obtain ⟨a', ha', va⟩ := partA_ok (P := P) (w := w) ha hx
      obtain ⟨b', hb', vb⟩ := partA_ok (P := P) (w := w) hb hy
      have := ih _ _ _ _ _ _ hr1 va vb
      simp only [Op.eqFields]
      rw [if_pos (by simpa using hn)]
      simp only [Sem.run_bind, ha', hb', this, Result.andThen_ok]
      cases r1 with
      | true => simp only [if_true] at he; simpa using eqFields_ok ih hx hy fs r he
      | false => simp only [Bool.false_eq_true, if_false, okk] at he; subst he; simp
set_option maxHeartbeats 2000000 in
theorem eqA_ok (H : HR η ρ B h w) : ∀ (d : Nat) (t : TypeId) (x y x' y' : Value) (r : Bool), eqA P h d t x y = .ok r → VR η ρ x x' → VR η ρ y y' → (Op.equalIn d t x' y').run P w = .ok r w
  | 0, t, x, y, x', y', r, he, _, _ => by simp [eqA, no] at he
  | d + 1, t, x, y, x', y', r, he, hx, hy => by
    simp only [eqA, bind_ok, undA_ok] at he
    obtain ⟨td, ht, he⟩ := he
    split at he
    · have := hx.bool_inv; have := hy.bool_inv; subst_vars
      rw [okk] at he; subst he
      (simp only [Op.equalIn, Sem.run_bind, run_und ht, Result.andThen_ok]; rfl)
    · have := hx.int_inv; have := hy.int_inv; subst_vars
      rw [ite_no', okk] at he
      obtain ⟨hk, rfl⟩ := he
      simp only [Op.equalIn, Sem.run_bind, run_und ht, Result.andThen_ok]; rw [if_pos hk]; rfl
    · have := hx.string_inv; have := hy.string_inv; subst_vars
      rw [okk] at he; subst he
      simp only [Op.equalIn, Sem.run_bind, run_und ht, Result.andThen_ok, toList_bytes]; rfl
    · have := hx.ptr0_inv; subst this
      rw [okk] at he; subst he
      rename_i b
      cases b with
      | none => have := hy.ptr0_inv; subst this; (simp only [Op.equalIn, Sem.run_bind, run_und ht, Result.andThen_ok]; rfl)
      | some b => obtain ⟨q, rfl, _⟩ := hy.ptr_inv; (simp only [Op.equalIn, Sem.run_bind, run_und ht, Result.andThen_ok]; rfl)
    · have := hy.ptr0_inv; subst this
      rw [okk] at he; subst he
      rename_i b hb
      cases b with
      | none => exact (hb rfl).elim
      | some b => obtain ⟨q, rfl, _⟩ := hx.ptr_inv; (simp only [Op.equalIn, Sem.run_bind, run_und ht, Result.andThen_ok]; rfl)
    · obtain ⟨p, rfl, hp⟩ := hx.ptr_inv
      obtain ⟨q, rfl, hq⟩ := hy.ptr_inv
      simp only [bind_ok] at he
      obtain ⟨n, hn, he⟩ := he
      rw [ite_no'] at he
      obtain ⟨hn0, he⟩ := he
      have := eqAddr_ok (P := P) H he hp hq
      simp only [Op.equalIn, Sem.run_bind, run_und ht, Result.andThen_ok, run_size hn]
      rw [if_pos hn0]
      exact this
    · have := hx.nilIface_inv; have := hy.nilIface_inv; subst_vars
      rw [okk] at he; subst he
      (simp only [Op.equalIn, Sem.run_bind, run_und ht, Result.andThen_ok]; rfl)
    · have := hx.nilIface_inv; subst this
      obtain ⟨y1, rfl, _⟩ := hy.iface_inv
      rw [okk] at he; subst he
      (simp only [Op.equalIn, Sem.run_bind, run_und ht, Result.andThen_ok]; rfl)
    · have := hy.nilIface_inv; subst this
      obtain ⟨y1, rfl, _⟩ := hx.iface_inv
      rw [okk] at he; subst he
      (simp only [Op.equalIn, Sem.run_bind, run_und ht, Result.andThen_ok]; rfl)
    · obtain ⟨x1, rfl, hx1⟩ := hx.iface_inv
      obtain ⟨y1, rfl, hy1⟩ := hy.iface_inv
      rename_i tx vx ty vy
      by_cases htt : tx = ty
      · rw [if_neg (by simpa using htt)] at he
        simp only [bind_ok, infoA_ok] at he
        obtain ⟨i, hi, he⟩ := he
        rw [ite_no] at he
        obtain ⟨hcmp, he⟩ := he
        have := eqA_ok H d tx vx vy x1 y1 r he hx1 hy1
        simp only [Op.equalIn, Sem.run_bind, run_und ht, Result.andThen_ok]
        rw [if_neg (by simpa using htt)]
        simp only [Sem.run_bind, run_info hi, Result.andThen_ok]
        rw [if_neg (by simpa using hcmp)]
        exact this
      · rw [if_pos (by simpa using htt), okk] at he; subst he
        simp only [Op.equalIn, Sem.run_bind, run_und ht, Result.andThen_ok]
        rw [if_pos (by simpa using htt)]; rfl
    · rename_i fields xs0 ys0
      obtain ⟨xs', rfl, hxs⟩ := hx.agg_inv
      obtain ⟨ys', rfl, hys⟩ := hy.agg_inv
      rw [ite_no] at he
      obtain ⟨hst, he⟩ := he
      have ht' : P.underlying t = some (.struct (P.fieldsOf t)) := by simp only [Program.fieldsOf, ht]
      rw [run_equalIn_struct w d t xs' ys' ht' (by simpa using hst)]
      have e : P.fieldsOf t = fields := by simp only [Program.fieldsOf, ht]
      rw [e]
      exact eqFields_ok (fun t x y x' y' r a b c => eqA_ok H d t x y x' y' r a b c) hxs hys _ r he
    · rw [okk] at he; subst he
      rename_i l c b l2 c2
      obtain ⟨a', c', rfl, hc⟩ := hx.slice_inv
      obtain ⟨b', c2', rfl, hc2⟩ := hy.slice_inv
      have e1 : a' = none := by rcases hc with ⟨_, e, _⟩ | ⟨_, _, e, _⟩ | ⟨_, _, _, _, _, _, e, _⟩ <;> first | exact e | cases e
      have e2 : b'.isNone = b.isNone := by rcases hc2 with ⟨e, e', _⟩ | ⟨_, _, e, e', _⟩ | ⟨_, _, _, _, _, _, e, e', _⟩ <;> subst e <;> subst e' <;> rfl
      subst e1
      simp only [Op.equalIn, Sem.run_bind, run_und ht, Result.andThen_ok, e2]; rfl
    · rename_i a l c l2 c2 hne
      rw [okk] at he; subst he
      obtain ⟨a', c', rfl, hc⟩ := hx.slice_inv
      obtain ⟨b', c2', rfl, hc2⟩ := hy.slice_inv
      have e1 : b' = none := by rcases hc2 with ⟨_, e, _⟩ | ⟨_, _, e, _⟩ | ⟨_, _, _, _, _, _, e, _⟩ <;> first | exact e | cases e
      subst e1
      rcases hc with ⟨e, e', _⟩ | ⟨_, _, e, e', _⟩ | ⟨_, _, _, _, _, _, e, e', _⟩
      · subst e; exact (hne rfl).elim
      · subst e; subst e'; (simp only [Op.equalIn, Sem.run_bind, run_und ht, Result.andThen_ok]; rfl)
      · subst e; subst e'; (simp only [Op.equalIn, Sem.run_bind, run_und ht, Result.andThen_ok]; rfl)
    · have := hx.map0_inv; subst this
      rw [okk] at he; subst he
      rename_i b
      cases b with
      | none => have := hy.map0_inv; subst this; (simp only [Op.equalIn, Sem.run_bind, run_und ht, Result.andThen_ok]; rfl)
      | some b => obtain ⟨q, _, _, rfl, _⟩ := hy.map_inv; (simp only [Op.equalIn, Sem.run_bind, run_und ht, Result.andThen_ok]; rfl)
    · have := hy.map0_inv; subst this
      rw [okk] at he; subst he
      rename_i b hb
      cases b with
      | none => exact (hb rfl).elim
      | some b => obtain ⟨q, _, _, rfl, _⟩ := hx.map_inv; (simp only [Op.equalIn, Sem.run_bind, run_und ht, Result.andThen_ok]; rfl)
    · have := hx.nilFunc_inv; have := hy.nilFunc_inv; subst_vars
      rw [okk] at he; subst he
      (simp only [Op.equalIn, Sem.run_bind, run_und ht, Result.andThen_ok]; rfl)
    · have := hx.nilFunc_inv; subst this
      obtain ⟨_, _, _, rfl, _⟩ := hy.func_inv
      rw [okk] at he; subst he
      (simp only [Op.equalIn, Sem.run_bind, run_und ht, Result.andThen_ok]; rfl)
    · have := hy.nilFunc_inv; subst this
      obtain ⟨_, _, _, rfl, _⟩ := hx.func_inv
      rw [okk] at he; subst he
      (simp only [Op.equalIn, Sem.run_bind, run_und ht, Result.andThen_ok]; rfl)
    · simp [no] at he
end
end Go.Ev
