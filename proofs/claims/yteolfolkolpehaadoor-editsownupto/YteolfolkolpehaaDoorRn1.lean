import Derived.Test.YteolfolkolpehaaDoorRn
namespace Go.Proofs.YteolfolkolpehaaDoor
open Go.ChangeShapes Go.WideShapes Go.ChangeAt Go.RowKit
set_option linter.unusedVariables false

theorem infoRn : (Tryd.prog.info? 94).map (fun i => (i.zero, i.size, i.bytes)) = some (some (.agg #[.bool false, .int .i64 0, .int .i64 0, .string ⟨#[]⟩]), 4, 40) := by kernel_rfl

set_option maxHeartbeats 400000 in
theorem whole_any (n : Nat) (w : World) (hn : n ≤ 140737488351232) :
    Calls Tryd.prog 38 #[.int .i64 n] w fun e w' => ∃ a c, e = .returned (.slice a (wh n).length c) ∧ RnA w' a (wh n) ∧ (a = none → (wh n).length = 0 ∧ c = 0) ∧ Below w.heap.size w w' := by
  by_cases h0 : n = 0
  · subst h0
    go_enter Tryd.func38, Tryd.ntmps38
    go_wp2
    go_ret
    exact ⟨none, 0, rfl, .inl rfl, fun _ => ⟨rfl, rfl⟩, Below.refl _ _⟩
  · have hb : (((n : Nat) : Int) == 0) = false := by simp; omega
    have HW : Hid (wh n = [⟨true, 0, n, ⟨#[]⟩⟩]) := by unfold Hid wh; rw [if_neg h0]
    go_enter Tryd.func38, Tryd.ntmps38
    go_wp2
    go_ret
    rw [HW.out]
    refine ⟨some ⟨w.heap.size, 0, none⟩, 1, rfl, .inr ⟨w.heap.size, 0, rfl, Rns.of_flat (by simp) (cells_new w (flatR [⟨true, 0, n, ⟨#[]⟩⟩]) 94)⟩, (fun h => by cases h), by go_grown⟩

set_option maxHeartbeats 400000 in
theorem rsize_old (f t : Int) (s : ByteArray) (w : World) (h0 : 0 ≤ f) (h1 : f ≤ t) (h2 : t ≤ 140737488351232) :
    Calls Tryd.prog 83 #[.agg #[.bool true, .int .i64 f, .int .i64 t, .string s]] w fun e w' => e = .returned (.int .i64 (t - f)) ∧ Below w.heap.size w w' := by
  go_enter Tryd.func83, Tryd.ntmps83
  go_wp2
  go_ret
  exact ⟨rfl, by go_grown⟩

set_option maxHeartbeats 400000 in
theorem rpart_old (f t x y : Int) (s : ByteArray) (w : World) (h0 : 0 ≤ f) (h2 : f ≤ 140737488351232) (hx : 0 ≤ x) (hx2 : x ≤ 140737488351232) (hy : 0 ≤ y) (hy2 : y ≤ 140737488351232) :
    Calls Tryd.prog 84 #[.agg #[.bool true, .int .i64 f, .int .i64 t, .string s], .int .i64 x, .int .i64 y] w fun e w' => e = .returned (.agg #[.bool true, .int .i64 (f + x), .int .i64 (f + y), .string ⟨#[]⟩]) ∧ Below w.heap.size w w' := by
  go_enter Tryd.func84, Tryd.ntmps84
  go_wp2
  refine bodyPost_ret (v := .agg #[.bool true, .int .i64 (f + x), .int .i64 (f + y), .string ⟨#[]⟩]) (by simp [results, Tryd.results84, go_sem]) rfl ⟨rfl, ?_⟩
  go_grown

set_option maxHeartbeats 800000 in
theorem wsize_any (n : Nat) (a : Option Addr) (c : Nat) (w : World) (hn : n ≤ 140737488351232) (h : RnA w a (wh n)) :
    Calls Tryd.prog 64 #[.slice a (wh n).length c] w fun e w' => e = .returned (.int .i64 n) ∧ Below w.heap.size w w' := by
  by_cases h0 : n = 0
  · subst h0
    rw [show (wh 0).length = 0 from rfl]
    go_enter Tryd.func64, Tryd.ntmps64
    go_wp2
    refine wp_loop_rounds 1 ?_
    rw [rounds_succ]
    go_wp2
    go_ret
    exact ⟨rfl, Below.refl _ _⟩
  · have hw : wh n = [⟨true, 0, n, ⟨#[]⟩⟩] := by unfold wh; rw [if_neg h0]
    rw [hw] at h ⊢
    rw [List.length_singleton]
    rcases h with h | ⟨b, o, rfl, h⟩
    · cases h
    obtain ⟨c0, c1, c2, c3⟩ := h.2 0 _ rfl
    simp only [Nat.zero_mul, Nat.add_zero] at c0 c1 c2 c3
    clear h hw
    go_enter Tryd.func64, Tryd.ntmps64
    go_wp2
    refine wp_loop_rounds 2 ?_
    rw [rounds_succ]
    go_wp2_with (go_at_call 83; refine (rsize_old 0 n ⟨#[]⟩ _ (by omega) (by omega) (by omega)).mono ?_; rintro e w1 ⟨rfl, hb1⟩)
    rw [rounds_succ]
    go_wp2
    go_ret
    exact ⟨ret_i64 (by omega), hb1⟩
end Go.Proofs.YteolfolkolpehaaDoor
