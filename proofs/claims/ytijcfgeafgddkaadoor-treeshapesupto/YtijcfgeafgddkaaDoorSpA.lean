import Derived.Test.YtijcfgeafgddkaaDoorKd1
namespace Go.Proofs.YtijcfgeafgddkaaDoor
open Go.ChangeShapes Go.WideShapes Go.ChangeAt Go.RowKit
set_option linter.unusedVariables false

/-- where a node's run begins and ends in a list of so many pieces -/
def spB (x : Nd) (L : Nat) : Nat := min x.f.toNat L
def spE (x : Nd) (L : Nat) : Nat := min (max x.e.toNat (spB x L)) L
theorem spB_le (x : Nd) (L : Nat) : spB x L ≤ spE x L := by unfold spE spB; omega
theorem spE_le (x : Nd) (L : Nat) : spE x L ≤ L := by unfold spE; omega
theorem in_span {x : Nd} {L i : Nat} (hi : i < L) : (spB x L ≤ i ∧ i < spE x L) ↔ (x.f ≤ (i : Int) ∧ (i : Int) < x.e) := by
  unfold spE spB; omega
theorem spB_at {x : Nd} {L i : Nat} (hi : i < L) : spB x L ≤ i ↔ x.f ≤ (i : Int) := by unfold spB; omega
theorem spE_at {x : Nd} {L i : Nat} (hi : i < L) : spE x L ≤ i ↔ (spB x L ≤ i ∧ x.e ≤ (i : Int)) := by unfold spE spB; omega

/-- is a piece a token? -/
def tokB (p : Tk) : Bool := p.k != 0 && p.k != 1

theorem isToken_any (k : Int) (w : World) : Calls Tryd.prog 23 #[.int .u8 k] w fun e w' => e = .returned (.bool (k != 0 && k != 1)) ∧ w = w' := by
  by_cases h0 : k = 0
  · subst h0
    go_enter Tryd.func23, Tryd.ntmps23
    go_wp2
    go_ret
    exact ⟨rfl, rfl⟩
  · have h0' : (k != 0) = true := by simp [h0]
    go_enter Tryd.func23, Tryd.ntmps23
    go_wp2
    go_ret
    exact ⟨by rw [h0']; rfl, rfl⟩

theorem ret_ii {a b c d : Int} (h : a = b) (h2 : c = d) : Ending.returned (.tuple #[.int .i64 a, .int .i64 c]) = .returned (.tuple #[.int .i64 b, .int .i64 d]) := by rw [h, h2]

set_option maxHeartbeats 1000000 in
theorem span_any (x : Nd) (L : Nat) (w : World) (hx : NdFit x) (hL : L * 24 ≤ 140737488351232) :
    Calls Tryd.prog 24 #[.agg #[.int .u8 x.k, .int .i64 x.f, .int .i64 x.e, .int .i64 x.s], .int .i64 L] w fun e w' => e = .returned (.tuple #[.int .i64 (spB x L), .int .i64 (spE x L)]) ∧ Below w.heap.size w w' := by
  have hw : Below w.heap.size w (w.alloc (.cells #[.int .u8 x.k, .int .i64 x.f, .int .i64 x.e, .int .i64 x.s] 37)) := (Below.refl _ w).alloc (Nat.le_refl _) _
  have HB : Hid (∀ b, b = (spB x L : Int) ↔ (b = min (max x.f 0) L)) := by unfold Hid spB; intro b; omega
  have HE : Hid (∀ b, b = (spE x L : Int) ↔ (b = min (max x.e (min (max x.f 0) L)) L)) := by unfold Hid spE spB; intro b; omega
  have hc : (x.f < 0 ∧ x.e < 0) ∨ (x.f < 0 ∧ 0 ≤ x.e ∧ (L : Int) < x.e) ∨ (x.f < 0 ∧ 0 ≤ x.e ∧ x.e ≤ (L : Int)) ∨ (0 ≤ x.f ∧ (L : Int) < x.f ∧ x.e < (L : Int)) ∨ (0 ≤ x.f ∧ (L : Int) < x.f ∧ (L : Int) ≤ x.e ∧ (L : Int) < x.e) ∨ (0 ≤ x.f ∧ (L : Int) < x.f ∧ (L : Int) ≤ x.e ∧ x.e ≤ (L : Int)) ∨ (0 ≤ x.f ∧ x.f ≤ (L : Int) ∧ x.e < x.f) ∨ (0 ≤ x.f ∧ x.f ≤ (L : Int) ∧ x.f ≤ x.e ∧ (L : Int) < x.e) ∨ (0 ≤ x.f ∧ x.f ≤ (L : Int) ∧ x.f ≤ x.e ∧ x.e ≤ (L : Int)) := by omega
  rcases hc with ⟨g1, g2⟩ | ⟨g1, g2, g3⟩ | ⟨g1, g2, g3⟩ | ⟨g1, g2, g3⟩ | ⟨g1, g2, g3, g4⟩ | ⟨g1, g2, g3, g4⟩ | ⟨g1, g2, g3⟩ | ⟨g1, g2, g3, g4⟩ | ⟨g1, g2, g3, g4⟩
  all_goals
    go_enter Tryd.func24, Tryd.ntmps24
    go_wp2_with fail
    go_quiet (fail)
    go_wp2
    go_ret2
    exact ⟨ret_ii ((HB.out _).2 (by omega)) ((HE.out _).2 (by omega)), by have := below_drewN hw nq; exact this⟩
end Go.Proofs.YtijcfgeafgddkaaDoor
