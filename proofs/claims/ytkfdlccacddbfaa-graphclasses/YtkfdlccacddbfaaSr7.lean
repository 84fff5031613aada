import Derived.Test.YtkfdlccacddbfaaSr6
namespace Go.Proofs.Ytkfdlccacddbfaa
open Go.ChangeShapes Go.WideShapes Go.ChangeAt Go.RowKit
set_option linter.unusedVariables false
set_option linter.unusedSimpArgs false

set_option maxRecDepth 1000000 in
set_option maxHeartbeats 2000000 in
theorem pivot_any (B g n c a b : Nat) (xs : List Hn) (w : World) (h : Row B 21 g n c w xs) (hab : a + 12 < b) (hb : b ≤ n) (hn : n ≤ 70368744177664) :
    Calls Try.prog 50 #[.slice (some ⟨g, 0, none⟩) n c, .int .i64 (a : Int), .int .i64 (b : Int)] w fun e w' => ∃ (x t : Nat), e = .returned (.tuple #[.int .i64 (x : Int), .int .i64 (t : Int)]) ∧ (a ≤ x ∧ x < b) ∧ t ≤ 2 ∧ Row B 21 g n c w' xs ∧ Below w.heap.size w w' := by
  obtain ⟨l, hl⟩ : ∃ l : Nat, b - a = l := ⟨_, rfl⟩
  obtain ⟨q, hq⟩ : ∃ q : Nat, l / 4 = q := ⟨_, rfl⟩
  obtain ⟨q2, hq2⟩ : ∃ q2 : Nat, q * 2 = q2 := ⟨_, rfl⟩
  obtain ⟨q3, hq3⟩ : ∃ q3 : Nat, q * 3 = q3 := ⟨_, rfl⟩
  obtain ⟨i0, hi0⟩ : ∃ i0 : Nat, a + q = i0 := ⟨_, rfl⟩
  obtain ⟨j0, hj0⟩ : ∃ j0 : Nat, a + q2 = j0 := ⟨_, rfl⟩
  obtain ⟨k0, hk0⟩ : ∃ k0 : Nat, a + q3 = k0 := ⟨_, rfl⟩
  have e1 : IntKind.i64.wrap ((b : Int) - (a : Int)) = (l : Int) := by rw [IntWalk.i64_in _ ⟨by omega, by omega⟩]; omega
  have e2 : IntKind.i64.wrap ((l : Int).tdiv 4) = (q : Int) := by
    rw [Int.tdiv_eq_ediv_of_nonneg (by omega), IntWalk.i64_in _ ⟨by omega, by omega⟩]; omega
  have e2' : IntKind.i64.wrap ((l : Int) / 4) = (q : Int) := by
    rw [IntWalk.i64_in _ ⟨by omega, by omega⟩]; omega
  have e3 : IntKind.i64.wrap ((q : Int) * 1) = (q : Int) := by rw [IntWalk.i64_in _ ⟨by omega, by omega⟩]; omega
  have e3' : IntKind.i64.wrap (q : Int) = (q : Int) := IntWalk.i64_in _ ⟨by omega, by omega⟩
  have e4 : IntKind.i64.wrap ((q : Int) * 2) = (q2 : Int) := by rw [IntWalk.i64_in _ ⟨by omega, by omega⟩]; omega
  have e5 : IntKind.i64.wrap ((q : Int) * 3) = (q3 : Int) := by rw [IntWalk.i64_in _ ⟨by omega, by omega⟩]; omega
  have e6 : IntKind.i64.wrap ((a : Int) + (q : Int)) = (i0 : Int) := by rw [IntWalk.i64_in _ ⟨by omega, by omega⟩]; omega
  have e7 : IntKind.i64.wrap ((a : Int) + (q2 : Int)) = (j0 : Int) := by rw [IntWalk.i64_in _ ⟨by omega, by omega⟩]; omega
  have e8 : IntKind.i64.wrap ((a : Int) + (q3 : Int)) = (k0 : Int) := by rw [IntWalk.i64_in _ ⟨by omega, by omega⟩]; omega
  have hb3 : (a + 1 ≤ i0 ∧ i0 + 1 < b) ∧ (a + 1 ≤ j0 ∧ j0 + 1 < b) ∧ (a + 1 ≤ k0 ∧ k0 + 1 < b) := by omega
  have h8 : (8 : Int) ≤ (l : Int) := by omega
  obtain ⟨w0, e0, hw0, hs0, B0⟩ := bx1 w #[.int .i64 0] 3
  obtain ⟨s, hs⟩ : ∃ s, w.heap.size = s := ⟨_, rfl⟩
  have HE0 : Hid (w.alloc (.cells #[.int .i64 0] 3) = w0) := e0
  have HW0 : Hid (Below w.heap.size w w0) := hw0
  have HR : Hid (Rc B 21 g n c s 0 w0 xs) := ⟨h.below hw0, hs ▸ B0, by have := h.lt; omega⟩
  have HL : Hid (b - a = l ∧ l / 4 = q ∧ q * 2 = q2 ∧ q * 3 = q3 ∧ a + q = i0 ∧ a + q2 = j0 ∧ a + q3 = k0) := ⟨hl, hq, hq2, hq3, hi0, hj0, hk0⟩
  clear h e0 hw0 hs0 B0 hl hq hq2 hq3 hi0 hj0 hk0
  go_enter Try.func50, Try.ntmps50
  go_upto_region 3 with fail
  rw [HE0.out]
  by_cases h50 : 50 ≤ l
  · have h50' : (50 : Int) ≤ (l : Int) := by omega
    go_wp2_with (first
      | (go_at_call 63; (with_reducible refine (medianAdj_any B g n c s 0 i0 a b xs _ HR.out (by omega) hb (by omega) hn).mono ?_); rintro e v1 ⟨x1, c1, rfl, hx1, hc1, r1, o1⟩; have R1 : Hid (Rc B 21 g n c s c1 v1 xs) := r1; have O1 : Hid (One s w0 v1) := o1; clear r1 o1)
      | (go_at_call 63; (with_reducible refine (medianAdj_any B g n c s c1 j0 a b xs _ R1.out (by omega) hb (by omega) hn).mono ?_); rintro e v2 ⟨x2, c2, rfl, hx2, hc2, r2, o2⟩; have R2 : Hid (Rc B 21 g n c s c2 v2 xs) := r2; have O2 : Hid (One s w0 v2) := O1.out.trans o2; clear r2 o2)
      | (go_at_call 63; (with_reducible refine (medianAdj_any B g n c s c2 k0 a b xs _ R2.out (by omega) hb (by omega) hn).mono ?_); rintro e v3 ⟨x3, c3, rfl, hx3, hc3, r3, o3⟩; have R3 : Hid (Rc B 21 g n c s c3 v3 xs) := r3; have O3 : Hid (One s w0 v3) := O2.out.trans o3; clear r3 o3)
      | (go_at_call 64; (with_reducible refine (median_any B g n c s c3 x1 x2 x3 a b xs _ R3.out (by omega) (by omega) (by omega) hb (by omega) hn).mono ?_); rintro e v4 ⟨x4, c4, rfl, hx4, hc4, r4, o4⟩; have R4 : Hid (Rc B 21 g n c s c4 v4 xs) := r4; have O4 : Hid (One s w0 v4) := O3.out.trans o4; have cs4 := r4.box.one; clear r4 o4))
    all_goals
      go_ret2
      have HB4 : Below w.heap.size w v4 := HW0.out.trans (O4.out.bel.mono (by omega))
      first
        | exact ⟨x4, 0, rfl, hx4, by decide, R4.out.row, HB4⟩
        | exact ⟨x4, 1, rfl, hx4, by decide, R4.out.row, HB4⟩
        | exact ⟨x4, 2, rfl, hx4, by decide, R4.out.row, HB4⟩
        | exact ⟨x4, rfl, hx4, 0, by decide, R4.out.row, HB4⟩
  · have h50' : ¬ (50 : Int) ≤ (l : Int) := by omega
    go_wp2_with (first
      | (go_at_call 64; (with_reducible refine (median_any B g n c s 0 i0 j0 k0 a b xs _ HR.out (by omega) (by omega) (by omega) hb (by omega) hn).mono ?_); rintro e v4 ⟨x4, c4, rfl, hx4, hc4, r4, o4⟩; have R4 : Hid (Rc B 21 g n c s c4 v4 xs) := r4; have O4 : Hid (One s w0 v4) := o4; have cs4 := r4.box.one; clear r4 o4))
    all_goals
      go_ret2
      have HB4 : Below w.heap.size w v4 := HW0.out.trans (O4.out.bel.mono (by omega))
      first
        | exact ⟨x4, 0, rfl, hx4, by decide, R4.out.row, HB4⟩
        | exact ⟨x4, 1, rfl, hx4, by decide, R4.out.row, HB4⟩
        | exact ⟨x4, 2, rfl, hx4, by decide, R4.out.row, HB4⟩
        | exact ⟨x4, rfl, hx4, 0, by decide, R4.out.row, HB4⟩
end Go.Proofs.Ytkfdlccacddbfaa
