import Derived.Test.YtgijcbipnjmhgaaTg3
namespace Go.Proofs.Ytgijcbipnjmhgaa
open Go.ChangeShapes Go.WideShapes Go.ChangeAt Go.RowKit
set_option linter.unusedVariables false
set_option linter.unusedSimpArgs false

theorem thg_no {n x : Int} (h : thg n x = false) : x < 0 ∨ (0 ≤ x ∧ n ≤ x) := by
  unfold thg at h
  by_cases h0 : x < 0
  · exact .inl h0
  · right
    simp at h
    omega
theorem thg_yes {n x : Int} (h : thg n x = true) : 0 ≤ x ∧ x < n := by
  unfold thg at h
  simpa using h
theorem ans_reach {n a cap : Nat} {s : Option Addr} {ps : List Pr} {w : World} (hL : LiesA w s ps) (hm : ps.length ≤ 8796093022208) (ht : things (n : Int) ps = true) (ha : a < n) : Ans 10 #[.int .i64 (n : Int), .slice s ps.length cap, .int .i64 (a : Int)] 0 w :=
  (reach_ok n a cap s ps w hL (by omega) ht ha).mono fun e w' ⟨v, h1, h2, _⟩ => ⟨v, h1, h2⟩
theorem ans_parts {n cap : Nat} {s : Option Addr} {ps : List Pr} {w : World} (hL : LiesA w s ps) (hm : ps.length ≤ 8796093022208) (ht : things (n : Int) ps = true) : Ans 16 #[.int .i64 (n : Int), .slice s ps.length cap] 0 w :=
  (parts_ok n cap s ps w hL hm ht).mono fun e w' ⟨v, h1, h2, _⟩ => ⟨v, h1, h2⟩
theorem ans_no {n x : Int} {cap : Nat} {s : Option Addr} {ps : List Pr} {w : World} (hL : LiesA w s ps) (hm : ps.length ≤ 8796093022208) (h : (things n ps && thg n x) = false) : Ans 10 #[.int .i64 n, .slice s ps.length cap, .int .i64 x] 1 w :=
  (reachB n x s cap ps w hL hm h).mono fun e w' ⟨h1, h2⟩ => ⟨_, h1, h2⟩
theorem graphTogether_walk (n : Int) (s : Option Addr) (cap : Nat) (ps : List Pr) (a b : Int) (w : World) (bn0 : -9223372036854775808 ≤ n) (bn1 : n ≤ 9223372036854775807) (hL : LiesA w s ps) (hn : s = none → ps.length = 0 ∧ cap = 0) (hl : ps.length * 16 ≤ 140737488351232) (ba0 : -9223372036854775808 ≤ a) (ba1 : a ≤ 9223372036854775807) (bb0 : -9223372036854775808 ≤ b) (bb1 : b ≤ 9223372036854775807) :
    Calls Try.prog 5 #[.int .i64 n, .slice s ps.length cap, .int .i64 a, .int .i64 b] w fun e w' => e = .returned (.bool true) ∧ Below w.heap.size w w' := by
  have hm : ps.length ≤ 8796093022208 := by omega
  cases ht : things n ps with
  | false =>
    exact tg_none n a b s ps.length cap w (ans_no hL hm (by rw [ht]; rfl)) (fun w1 h1 => ans_no (hL.below h1) hm (by rw [ht]; rfl)) (fun w1 h1 => (parts_bad n s cap ps w1 (hL.below h1) hm ht).mono fun e w' ⟨h2, h3⟩ => ⟨_, h2, h3⟩) (fun w1 h1 => by have h9 := right_any n s cap ps w1 (hL.below h1) hm; rw [ht] at h9; exact h9)
  | true =>
    have hn0 : 0 ≤ n := by
      have h9 := ht
      unfold things at h9
      simp only [Bool.and_eq_true, decide_eq_true_eq] at h9
      exact h9.1.1
    obtain ⟨n, rfl⟩ : ∃ m : Nat, n = (m : Int) := ⟨n.toNat, by omega⟩
    have RT : ∀ w1, Below w.heap.size w w1 → Calls Try.prog 17 #[.int .i64 (n : Int), .slice s ps.length cap] w1 fun e w' => e = .returned (.bool true) ∧ Below w1.heap.size w1 w' := fun w1 h1 => by have h9 := right_any (n : Int) s cap ps w1 (hL.below h1) hm; rw [ht] at h9; exact h9
    have RP : ∀ w1, Below w.heap.size w w1 → Ans 16 #[.int .i64 (n : Int), .slice s ps.length cap] 0 w1 := fun w1 h1 => ans_parts (hL.below h1) hm ht
    cases ha : thg n a with
    | false =>
      have ra := ans_no (cap := cap) hL hm (show (things (n : Int) ps && thg n a) = false by rw [ha, Bool.and_false])
      cases hb : thg n b with
      | false => exact tg_ab n a b s ps.length cap w (thg_no ha) (thg_no hb) ra (fun w1 h1 => ans_no (hL.below h1) hm (by rw [hb, Bool.and_false])) RP RT
      | true =>
        have hb2 := thg_yes hb
        obtain ⟨b, rfl⟩ : ∃ m : Nat, b = (m : Int) := ⟨b.toNat, by omega⟩
        exact tg_a n a b s ps.length cap w (thg_no ha) hb2 ra (fun w1 h1 => ans_reach (hL.below h1) hm ht (by omega)) RP RT
    | true =>
      have ha2 := thg_yes ha
      obtain ⟨a, rfl⟩ : ∃ m : Nat, a = (m : Int) := ⟨a.toNat, by omega⟩
      cases hb : thg n b with
      | false => exact tg_b n a b s ps.length cap w ha2 (thg_no hb) (ans_reach hL hm ht (by omega)) (fun w1 h1 => ans_no (hL.below h1) hm (by rw [hb, Bool.and_false])) RP RT
      | true =>
        have hb2 := thg_yes hb
        obtain ⟨b, rfl⟩ : ∃ m : Nat, b = (m : Int) := ⟨b.toNat, by omega⟩
        exact tg_ok n a b cap s ps w hL hm ht (by omega) (by omega)
end Go.Proofs.Ytgijcbipnjmhgaa
