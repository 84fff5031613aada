import Derived.Test.YtkfdlccacddbfaaSr5
namespace Go.Proofs.Ytkfdlccacddbfaa
open Go.ChangeShapes Go.WideShapes Go.ChangeAt Go.RowKit
set_option linter.unusedVariables false
set_option linter.unusedSimpArgs false

set_option maxRecDepth 1000000 in
set_option maxHeartbeats 2000000 in
theorem median_any (B g n c s m a b d lo hi : Nat) (xs : List Hn) (w : World) (h : Rc B 21 g n c s m w xs) (ha : lo ≤ a ∧ a < hi) (hb : lo ≤ b ∧ b < hi) (hd : lo ≤ d ∧ d < hi) (hh : hi ≤ n) (hm : m ≤ 900) (hn : n ≤ 70368744177664) :
    Calls Try.prog 64 #[.slice (some ⟨g, 0, none⟩) n c, .int .i64 (a : Int), .int .i64 (b : Int), .int .i64 (d : Int), .pointer (some ⟨s, 0, none⟩)] w fun e w' => ∃ (x k : Nat), e = .returned (.int .i64 (x : Int)) ∧ (lo ≤ x ∧ x < hi) ∧ k ≤ m + 3 ∧ Rc B 21 g n c s k w' xs ∧ One s w w' := by
  have HR : Hid (Rc B 21 g n c s m w xs) := h
  clear h
  go_enter Try.func64, Try.ntmps64
  go_wp2_with (first
    | (go_at_call 67; (with_reducible refine (order2_any B g n c s m a b xs _ HR.out (by omega) (by omega) (by omega) hn).mono ?_); rintro e w1 ⟨x1, y1, k1, rfl, h1, hk1, r1, o1⟩; have R1 : Hid (Rc B 21 g n c s k1 w1 xs) := r1; have O1 : Hid (One s w w1) := o1; have b1 : lo ≤ x1 ∧ x1 < hi ∧ lo ≤ y1 ∧ y1 < hi := (by rcases h1 with h1 | h1 <;> omega); clear r1 o1 h1)
    | (go_at_call 67; (with_reducible refine (order2_any B g n c s k1 y1 d xs _ R1.out (by omega) (by omega) (by omega) hn).mono ?_); rintro e w2 ⟨x2, y2, k2, rfl, h2, hk2, r2, o2⟩; have R2 : Hid (Rc B 21 g n c s k2 w2 xs) := r2; have O2 : Hid (One s w w2) := O1.out.trans o2; have b2 : lo ≤ x2 ∧ x2 < hi ∧ lo ≤ y2 ∧ y2 < hi := (by rcases h2 with h2 | h2 <;> omega); clear r2 o2 h2)
    | (go_at_call 67; (with_reducible refine (order2_any B g n c s k2 x1 x2 xs _ R2.out (by omega) (by omega) (by omega) hn).mono ?_); rintro e w3 ⟨x3, y3, k3, rfl, h3, hk3, r3, o3⟩; have R3 : Hid (Rc B 21 g n c s k3 w3 xs) := r3; have O3 : Hid (One s w w3) := O2.out.trans o3; have b3 : lo ≤ x3 ∧ x3 < hi ∧ lo ≤ y3 ∧ y3 < hi := (by rcases h3 with h3 | h3 <;> omega); clear r3 o3 h3))
  go_ret
  first
    | exact ⟨y3, k3, rfl, by omega, by omega, R3.out, O3.out⟩
    | exact ⟨y3, rfl, by omega, k3, by omega, R3.out, O3.out⟩
theorem medianAdj_any (B g n c s m a lo hi : Nat) (xs : List Hn) (w : World) (h : Rc B 21 g n c s m w xs) (ha : lo + 1 ≤ a ∧ a + 1 < hi) (hh : hi ≤ n) (hm : m ≤ 900) (hn : n ≤ 70368744177664) :
    Calls Try.prog 63 #[.slice (some ⟨g, 0, none⟩) n c, .int .i64 (a : Int), .pointer (some ⟨s, 0, none⟩)] w fun e w' => ∃ (x k : Nat), e = .returned (.int .i64 (x : Int)) ∧ (lo ≤ x ∧ x < hi) ∧ k ≤ m + 3 ∧ Rc B 21 g n c s k w' xs ∧ One s w w' := by
  have HR : Hid (Rc B 21 g n c s m w xs) := h
  clear h
  obtain ⟨p, hp⟩ : ∃ p : Nat, a - 1 = p := ⟨_, rfl⟩
  obtain ⟨q, hq⟩ : ∃ q : Nat, a + 1 = q := ⟨_, rfl⟩
  have k1 : IntKind.i64.wrap ((a : Int) - 1) = (p : Int) := by rw [IntWalk.i64_in _ ⟨by omega, by omega⟩]; omega
  have k2 : IntKind.i64.wrap ((a : Int) + 1) = (q : Int) := by rw [IntWalk.i64_in _ ⟨by omega, by omega⟩]; omega
  have MD : Hid (Calls Try.prog 64 #[.slice (some ⟨g, 0, none⟩) n c, .int .i64 (p : Int), .int .i64 (a : Int), .int .i64 (q : Int), .pointer (some ⟨s, 0, none⟩)] w fun e w' => ∃ (x k : Nat), e = .returned (.int .i64 (x : Int)) ∧ (lo ≤ x ∧ x < hi) ∧ k ≤ m + 3 ∧ Rc B 21 g n c s k w' xs ∧ One s w w') := median_any B g n c s m p a q lo hi xs w HR.out (by omega) (by omega) (by omega) hh hm hn
  clear hp hq
  go_enter Try.func63, Try.ntmps63
  go_wp2_with (go_at_call 64; (with_reducible refine MD.out.mono ?_); rintro e w1 ⟨x1, kk, rfl, hx1, hk1, r1, o1⟩; have R1 : Hid (Rc B 21 g n c s kk w1 xs) := r1; have O1 : Hid (One s w w1) := o1; clear r1 o1)
  go_ret
  first
    | exact ⟨x1, kk, rfl, hx1, hk1, R1.out, O1.out⟩
    | exact ⟨x1, rfl, hx1, kk, hk1, R1.out, O1.out⟩
end Go.Proofs.Ytkfdlccacddbfaa
