import Derived.Test.YteolfolkolpehaaDoorCm6
namespace Go.Proofs.YteolfolkolpehaaDoor
open Go.ChangeShapes Go.WideShapes Go.ChangeAt Go.RowKit
set_option linter.unusedVariables false

def ins (e : Ed) : Bool := e.f == e.t
/-- does an edit of the second list stand ahead of one of the first? -/
def ahd (e o : Ed) : Bool := decide (e.f < o.f) || (e.f == o.f && ins e && !ins o)

theorem ret_b {a b : Bool} (h : a = b) : Ending.returned (.bool a) = .returned (.bool b) := by rw [h]

theorem insertion_any (f t : Int) (s : ByteArray) (w : World) : Calls Tryd.prog 70 #[.agg #[.int .i64 f, .int .i64 t, .string s]] w fun e w' => e = .returned (.bool (ins ⟨f, t, s⟩)) ∧ Below w.heap.size w w' := by
  go_enter Tryd.func70, Tryd.ntmps70
  go_wp2
  go_ret
  exact ⟨rfl, (Below.refl _ w).alloc (Nat.le_refl _) _⟩

set_option maxHeartbeats 400000 in
theorem ahead_any (e o : Ed) (w : World) : Calls Tryd.prog 69 #[.agg #[.int .i64 e.f, .int .i64 e.t, .string e.s], .agg #[.int .i64 o.f, .int .i64 o.t, .string o.s]] w fun r w' => r = .returned (.bool (ahd e o)) ∧ Below w.heap.size w w' := by
  go_enter Tryd.func69, Tryd.ntmps69
  go_wp2
  all_goals
    go_ret
    refine ⟨ret_b ?_, by have := Below.refl w.heap.size w; go_grown⟩
    simp only [ahd, ins]
    simp [*]
end Go.Proofs.YteolfolkolpehaaDoor
