import Derived.Test.YtniamjbieciilaaMgP
namespace Go.Proofs.Ytniamjbieciilaa
open Go.ChangeShapes Go.WideShapes Go.ChangeAt Go.RowKit
set_option linter.unusedVariables false

set_option maxRecDepth 1000000 in
set_option maxHeartbeats 2000000 in
theorem rMeet_any (a b : Ed) (w : World) : Calls Try.prog 30 #[.agg #[.int .i64 a.f, .int .i64 a.t, .string a.s], .agg #[.int .i64 b.f, .int .i64 b.t, .string b.s]] w fun r w' => r = .returned (.bool (meet a b)) ∧ Below w.heap.size w w' := by
  obtain ⟨af, at', sa⟩ := a
  obtain ⟨bf, bt, sb⟩ := b
  show Calls Try.prog 30 #[.agg #[.int .i64 af, .int .i64 at', .string sa], .agg #[.int .i64 bf, .int .i64 bt, .string sb]] w _
  by_cases h1 : af = at' <;> by_cases h2 : bf = bt
  · have HM : Hid (meet ⟨af, at', sa⟩ ⟨bf, bt, sb⟩ = (af == bf)) := by
      unfold Hid meet; rw [if_pos ⟨h1, h2⟩]; rfl
    subst h1 h2
    go_enter Try.func30, Try.ntmps30
    go_wp2
    all_goals go_ret
    all_goals exact ⟨ret_b (by rw [HM.out]; try (simp [*] <;> omega)), by have := Below.refl w.heap.size w; go_grown⟩
  · have HM : Hid (meet ⟨af, at', sa⟩ ⟨bf, bt, sb⟩ = (decide (bf < af) && decide (af < bt))) := by
      unfold Hid meet; rw [if_neg (by simp [h2]), if_pos h1]
    subst h1
    have h2' : (bf == bt) = false := beq_eq_false_iff_ne.2 h2
    go_enter Try.func30, Try.ntmps30
    go_wp2
    all_goals go_ret
    all_goals exact ⟨ret_b (by rw [HM.out]; try (simp [*] <;> omega)), by have := Below.refl w.heap.size w; go_grown⟩
  · have HM : Hid (meet ⟨af, at', sa⟩ ⟨bf, bt, sb⟩ = (decide (af < bf) && decide (bf < at'))) := by
      unfold Hid meet; rw [if_neg (by simp [h1]), if_neg h1, if_pos h2]
    subst h2
    have h1' : (af == at') = false := beq_eq_false_iff_ne.2 h1
    go_enter Try.func30, Try.ntmps30
    go_wp2
    all_goals go_ret
    all_goals exact ⟨ret_b (by rw [HM.out]; try (simp [*] <;> omega)), by have := Below.refl w.heap.size w; go_grown⟩
  · have HM : Hid (meet ⟨af, at', sa⟩ ⟨bf, bt, sb⟩ = (decide (af < bt) && decide (bf < at'))) := by
      unfold Hid meet; rw [if_neg (by simp [h1]), if_neg h1, if_neg h2]
    have h1' : (af == at') = false := beq_eq_false_iff_ne.2 h1
    have h2' : (bf == bt) = false := beq_eq_false_iff_ne.2 h2
    go_enter Try.func30, Try.ntmps30
    go_wp2
    all_goals go_ret
    all_goals exact ⟨ret_b (by rw [HM.out]; try (simp [*] <;> omega)), by have := Below.refl w.heap.size w; go_grown⟩

set_option maxRecDepth 1000000 in
set_option maxHeartbeats 2000000 in
theorem rahead_any (a b : Ed) (w : World) : Calls Try.prog 31 #[.agg #[.int .i64 a.f, .int .i64 a.t, .string a.s], .agg #[.int .i64 b.f, .int .i64 b.t, .string b.s]] w fun r w' => r = .returned (.bool (rah a b)) ∧ Below w.heap.size w w' := by
  obtain ⟨af, at', sa⟩ := a
  obtain ⟨bf, bt, sb⟩ := b
  show Calls Try.prog 31 #[.agg #[.int .i64 af, .int .i64 at', .string sa], .agg #[.int .i64 bf, .int .i64 bt, .string sb]] w _
  go_enter Try.func31, Try.ntmps31
  go_wp2
  all_goals go_ret
  all_goals refine ⟨ret_b ?_, by have := Below.refl w.heap.size w; go_grown⟩
  all_goals (simp [rah, *] <;> omega)
end Go.Proofs.Ytniamjbieciilaa
