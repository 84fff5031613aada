import Derived.Test.YtifjmdgmnpchbaaDoorLs
namespace Go.Proofs.YtifjmdgmnpchbaaDoor
open Go.ChangeShapes Go.WideShapes Go.ChangeAt Go.RowKit
set_option linter.unusedVariables false
set_option linter.unusedSimpArgs false

set_option maxHeartbeats 4000000 in
theorem rRight_any (x : Vl) (w : World) :
    Calls Tryd.prog 12 #[x.v] w fun e w' => e = .returned (.bool (rgt x)) ∧ Below w.heap.size w w' := by
  obtain ⟨k, b, i, s⟩ := x
  show Calls Tryd.prog 12 #[.agg #[.int .u8 k, .bool b, .int .i64 i, .string s]] w _
  have HC : Hid ((k = 1 ∧ i = 0 ∧ s.toList = []) ∨ (k = 1 ∧ i ≠ 0) ∨ (k = 1 ∧ i = 0 ∧ s.toList ≠ []) ∨ (k = 2 ∧ b = true) ∨ (k = 2 ∧ b = false ∧ s.toList = []) ∨ (k = 2 ∧ b = false ∧ s.toList ≠ []) ∨
      (k = 3 ∧ b = true) ∨ (k = 3 ∧ b = false ∧ i = 0) ∨ (k = 3 ∧ b = false ∧ i ≠ 0) ∨ (k ≠ 1 ∧ k ≠ 2 ∧ k ≠ 3)) := by
    unfold Hid; cases b <;> by_cases h1 : k = 1 <;> by_cases h2 : k = 2 <;> by_cases h3 : k = 3 <;> by_cases h4 : i = 0 <;> by_cases h5 : s.toList = [] <;> simp_all
  rcases HC.out with ⟨rfl, rfl, h3⟩ | ⟨rfl, h2⟩ | ⟨rfl, rfl, h3⟩ | ⟨rfl, rfl⟩ | ⟨rfl, rfl, h3⟩ | ⟨rfl, rfl, h3⟩ | ⟨rfl, rfl⟩ | ⟨rfl, rfl, rfl⟩ | ⟨rfl, rfl, h2⟩ | ⟨h1, h2, h3⟩
  all_goals clear HC
  all_goals go_enter Tryd.func12, Tryd.ntmps12
  all_goals go_wp2
  all_goals go_ret
  all_goals refine ⟨?_, by go_grown⟩
  all_goals (simp [rgt, *] <;> done)
end Go.Proofs.YtifjmdgmnpchbaaDoor
