import Derived.Test.YtkfdlccacddbfaaSrc
namespace Go.Proofs.Ytkfdlccacddbfaa
open Go.ChangeShapes Go.WideShapes Go.ChangeAt Go.RowKit
set_option linter.unusedVariables false
set_option linter.unusedSimpArgs false

theorem insert_nil (w : World) : Calls Try.prog 47 #[.slice none 0 0, .int .i64 0, .int .i64 0] w fun e w' => (∃ x, e = .returned x) ∧ w' = w := by
  go_enter Try.func47, Try.ntmps47
  go_wp2
  refine wp_loop_rounds 1 ?_
  rw [rounds_succ]
  go_wp2
  go_end0
  exact ⟨⟨_, rfl⟩, rfl⟩
theorem pdq_nil (w : World) : Calls Try.prog 35 #[.slice none 0 0, .int .i64 0, .int .i64 0, .int .i64 0] w fun e w' => (∃ x, e = .returned x) ∧ w' = w := by
  go_enter Try.func35, Try.ntmps35
  go_wp2
  refine wp_loop_rounds 1 ?_
  rw [rounds_succ]
  go_wp2_with (go_at_call 47; (with_reducible refine (insert_nil _).mono ?_); rintro e v1 ⟨⟨x, rfl⟩, rfl⟩)
  refine bodyPost_ret (results_none rfl _ _ _) rfl ?_
  exact ⟨⟨_, rfl⟩, rfl⟩
theorem bl_le (n : Nat) (h : n ≤ 70368744177664) : Lib.bitLen n ≤ 1000 := by
  rw [bitLen_eq n (by omega)]
  have := (Sort.bitsLen_le_iff n 50).2 (Nat.lt_of_le_of_lt h (by decide))
  omega
theorem sort32_any (B g n c : Nat) (xs : List Hn) (w : World) (h : Row B 21 g n c w xs) (hn : n ≤ 70368744177664) :
    Calls Try.prog 32 #[.slice (some ⟨g, 0, none⟩) n c] w fun e w' => (∃ x, e = .returned x) ∧ ∃ ys, Sp B g n c w xs w' ys := by
  obtain ⟨k, hk⟩ : ∃ k : Nat, Lib.bitLen n = k := ⟨_, rfl⟩
  have hk2 := bl_le n hn
  rw [hk] at hk2
  have HL := fun w => Try.bits_Len (n : Int) w (by omega) (by omega)
  rw [Int.toNat_natCast, hk] at HL
  have e10 : IntKind.u64.wrap (n : Int) = (n : Int) := by rw [IntKind.wrap_u64]; omega
  have PQ : Hid (Calls Try.prog 35 #[.slice (some ⟨g, 0, none⟩) n c, .int .i64 0, .int .i64 (n : Int), .int .i64 (k : Int)] w fun e w' => (∃ x, e = .returned x) ∧ ∃ ys, Sp B g n c w xs w' ys) := pdq_any n B g n c 0 n k xs w h (by omega) (by omega) (by omega) hk2 hn
  clear hk
  go_enter Try.func32, Try.ntmps32
  go_wp2_with (first
    | (go_at_call 34; (with_reducible refine (HL _).mono ?_); rintro e w1 ⟨rfl, hw⟩; have hw2 := hw.symm; clear hw; subst hw2)
    | (go_at_call 35; (with_reducible refine PQ.out.mono ?_); rintro e v1 ⟨⟨x, rfl⟩, ys, hs1⟩; have S1 : Hid (Sp B g n c w xs v1 ys) := hs1; clear hs1))
  go_end0
  exact ⟨⟨_, rfl⟩, ys, S1.out⟩
theorem sort32_nil (w : World) : Calls Try.prog 32 #[.slice none 0 0] w fun e w' => (∃ x, e = .returned x) ∧ w' = w := by
  have HL := fun w => Try.bits_Len 0 w (by omega) (by omega)
  rw [show Lib.bitLen (Int.toNat 0) = 0 by decide] at HL
  go_enter Try.func32, Try.ntmps32
  go_wp2_with (first
    | (go_at_call 34; (with_reducible refine (HL _).mono ?_); rintro e w1 ⟨rfl, hw⟩; have hw2 := hw.symm; clear hw; subst hw2)
    | (go_at_call 35; (with_reducible refine (pdq_nil _).mono ?_); rintro e v1 ⟨⟨x, rfl⟩, rfl⟩))
  go_end0
  exact ⟨⟨_, rfl⟩, rfl⟩
theorem rising32_any (B g n c : Nat) (xs : List Hn) (w : World) (h : Row B 21 g n c w xs) (hn : n ≤ 70368744177664) :
    Calls Try.prog 28 #[.slice (some ⟨g, 0, none⟩) n c] w fun e w' => e = .returned (.slice (some ⟨g, 0, none⟩) n c) ∧ ∃ ys, Sp B g n c w xs w' ys := by
  have HR : Hid (Row B 21 g n c w xs) := h
  clear h
  go_enter Try.func28, Try.ntmps28
  go_wp2_with (go_at_call 32; (with_reducible refine (sort32_any B g n c xs w HR.out hn).mono ?_); rintro e v1 ⟨⟨x, rfl⟩, ys, hs1⟩; have S1 : Hid (Sp B g n c w xs v1 ys) := hs1; clear hs1)
  go_ret
  exact ⟨rfl, ys, S1.out⟩
theorem rising32_nil (w : World) : Calls Try.prog 28 #[.slice none 0 0] w fun e w' => e = .returned (.slice none 0 0) ∧ w' = w := by
  go_enter Try.func28, Try.ntmps28
  go_wp2_with (go_at_call 32; (with_reducible refine (sort32_nil _).mono ?_); rintro e v1 ⟨⟨x, rfl⟩, rfl⟩)
  go_ret
  exact ⟨rfl, rfl⟩
end Go.Proofs.Ytkfdlccacddbfaa
