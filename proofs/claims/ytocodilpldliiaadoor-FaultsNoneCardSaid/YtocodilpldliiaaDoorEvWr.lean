import Derived.Test.YtocodilpldliiaaDoorEvNm
import Derived.Test.YtocodilpldliiaaDoorEvFNN
import Derived.Test.YtocodilpldliiaaDoorEvWrP
namespace Go.Ev
set_option linter.unusedVariables false
set_option linter.unusedSimpArgs false
open Go Go.Proofs
variable {η : Nat → Value} {B : Nat}
theorem gsz : Tryd.prog.globals.size < 7 := of_decide_eq_true (by kernel_rfl)
theorem Name_any (hη : OneCells η) (hmix : Tryd.prog.follows .mixedOrders = true) (hreg : RegOk η Tryd.prog B noNest) (s : List UInt8) (h : AH) :
    CallSpec η Tryd.prog B 49 [.string ⟨⟨s⟩⟩] h (KT.ite (nameB s) (.ret (.bool true) h) (.ret (.bool false) h)).sat := by
  have := CallSpec.pure hη (N := 7) gsz (fun σ M => .cons (.string _) .nil) (fun σ M => .bool _) (Name_ok hη hmix hreg s) h
  refine this.mono ?_
  rintro v h' ⟨rfl, rfl⟩
  cases nameB s
  · exact .inr ⟨rfl, rfl, rfl⟩
  · exact .inl ⟨rfl, rfl, rfl⟩
theorem Clone_any (hη : OneCells η) (hmix : Tryd.prog.follows .mixedOrders = true) (hreg : RegOk η Tryd.prog B noNest) {s : List UInt8} (hs : nameB s = true) (h : AH) :
    CallSpec η Tryd.prog B 54 [.string ⟨⟨s⟩⟩] h (KT.ret (.string ⟨⟨s⟩⟩) h).sat := by
  have hl : s.length ≤ 1000000 := by
    cases s with
    | nil => cases hs
    | cons c r =>
      have un : nameB (c :: r) = (decide (r.length ≤ 15) && (decide (97 ≤ c.toNat) && decide (c.toNat ≤ 122)) && r.all nameC) := rfl
      rw [un] at hs
      simp only [Bool.and_eq_true, decide_eq_true_eq] at hs
      have := hs.1.1
      show r.length + 1 ≤ _
      omega
  exact CallSpec.pure hη (N := 7) gsz (fun σ M => .cons (.string _) .nil) (fun σ M => .string _) (Clone_ok hη hmix hreg s hl) h
theorem Wrap_ok (hη : OneCells η) (hmix : Tryd.prog.follows .mixedOrders = true) (hreg : RegOk η Tryd.prog B noNest) (op : List UInt8) (kd bk cn : Int) :
    CallSpec η Tryd.prog B 10 [.agg ⟨[.int .i64 kd, .string ⟨⟨op⟩⟩, .int .i64 bk, .int .i64 cn]⟩, .nilIface] (FWrap.H0 op kd bk cn) (fun v _ => ∃ a b, v = .tuple ⟨[a, b]⟩ ∧ oneC a = true ∧ oneC b = true) := by
  refine FWrap.enter hη hmix hreg _ _ _ _ ?_
  simp only [W.holds, true_and]
  refine ⟨Name_any hη hmix hreg _ _, fun hn => ?_, fun hn => ?_⟩
  repeat' first
    | exact ⟨_, _, rfl, rfl, rfl⟩
    | exact Clone_any hη hmix hreg hn _
    | exact trivial
    | intro _
    | constructor
/-- Of what it returns nothing is known, and nothing of the heap. -/
theorem Wrap_any (hη : OneCells η) (hmix : Tryd.prog.follows .mixedOrders = true) (hreg : RegOk η Tryd.prog B noNest) (op : ByteArray) (kd bk cn : Int) (h : AH) :
    CallSpec η Tryd.prog B 10 [.agg ⟨[.int .i64 kd, .string op, .int .i64 bk, .int .i64 cn]⟩, .nilIface] h (fun v h' => v = .tuple ⟨[.chan none, .chan none]⟩ ∧ h' = h) := by
  obtain ⟨⟨op⟩⟩ := op
  have hu : ∀ (σ : Nat → Nat) (M : Nat), RV σ M false (.tuple ⟨[.chan none, .chan none]⟩) (.tuple ⟨[.chan none, .chan none]⟩) := fun σ M => .tuple rfl fun i v x hv hx => by
    match i, hv, hx with
    | 0, hv, hx => cases hv; cases hx; exact .chan _
    | 1, hv, hx => cases hv; cases hx; exact .chan _
  have hx : ∀ (σ : Nat → Nat) (M : Nat) (w : Bool), RV σ M w (.agg ⟨[.int .i64 kd, .string ⟨⟨op⟩⟩, .int .i64 bk, .int .i64 cn]⟩) (.agg ⟨[.int .i64 kd, .string ⟨⟨op⟩⟩, .int .i64 bk, .int .i64 cn]⟩) := fun σ M w => .agg rfl fun i v x hv hx => by
    match i, hv, hx with
    | 0, hv, hx => cases hv; cases hx; exact .int _ _
    | 1, hv, hx => cases hv; cases hx; exact .string _
    | 2, hv, hx => cases hv; cases hx; exact .int _ _
    | 3, hv, hx => cases hv; cases hx; exact .int _ _
  refine CallSpec.pure hη (N := 7) gsz (fun σ M => .cons (hx σ M true) (.cons .nilIface .nil)) (fun σ M => hu σ M) ?_ h
  refine (Wrap_ok hη hmix hreg op kd bk cn).forget hη ?_
  rintro v h1 ⟨a, b, rfl, ha, hb⟩ hn
  refine ⟨fun r => r, _, heapN 7, ⟨rfl, rfl⟩, emb_nil gsz fun _ _ => rfl, Nat.le_refl _, fun _ _ => rfl, ?_⟩
  refine .tuple rfl fun i v x hv hx => ?_
  match i, hv, hx with
  | 0, hv, hx => cases hv; cases hx; exact .any rfl ha
  | 1, hv, hx => cases hv; cases hx; exact .any rfl hb
end Go.Ev
namespace Go.Ev
open Go Go.Proofs
variable {η : Nat → Value} {B : Nat}
theorem nestN_ok (hη : OneCells η) (hmix : Tryd.prog.follows .mixedOrders = true) : NestOk η Tryd.prog B nestN := by
  have h0 := reg0 (B := B) hη hmix
  have hA := nestA_ok (B := B) hη hmix 1000000 20
  intro f args h h' v hn
  unfold nestN at hn
  split at hn
  · rename_i kd s bk cn
    injection hn with e
    injection e with e1 e2
    subst e1; subst e2
    intro ρ args' w cs l p
    obtain ⟨v1, h1, ρ', fr', w', x, ⟨e1, e2⟩, r⟩ := Wrap_any hη hmix h0 s kd bk cn h ρ args' w cs l p
    subst e1; subst e2
    exact ⟨ρ', fr', w', x, r⟩
  · exact hA _ _ _ _ _ hn
end Go.Ev
