import Derived.Test.YtkfdlccacddbfaaGl
import Derived.Test.YtkfdlccacddbfaaGq5
import Derived.Test.YtkfdlccacddbfaaSmI
namespace Go.Proofs.Ytkfdlccacddbfaa
open Go.ChangeShapes Go.WideShapes Go.ChangeAt Go.RowKit Go.Sort
set_option linter.unusedVariables false
set_option linter.unusedSimpArgs false

theorem LiesA.of {α : Type} [Rw α] {w : World} {b o : Nat} {xs : List α} (h : Lies w b o xs) : LiesA w (some ⟨b, o, none⟩) xs := .inr ⟨b, o, rfl, h⟩
theorem same_none (w : World) : Calls Try.prog 8 #[.slice none 0 0, .slice none 0 0] w fun e w' => e = .returned (.bool true) ∧ Below w.heap.size w w' := same_ints none none 0 0 [] w (.inl rfl) (.inl rfl) (by decide)
theorem RL.len {n x : Nat} {ps : List Pr} {zs : List Int} (h : RL n ps x zs) (hn : n ≤ 131072) : zs.length ≤ maxLen := by have := h.2.1; unfold maxLen; omega
theorem RL.one {n x : Nat} {ps : List Pr} {zs ys : List Int} (h : RL n ps x zs) (k : RL n ps x ys) : zs = ys := sorted_unique zs ys h.1 k.1 (fun y => (h.2.2 y).trans (k.2.2 y).symm)
theorem own_lies {w : World} {B : Nat} {v : Value} {zs : List Int} (h : w.ownsRow B 3 1 v zs.length (ivs zs)) : ∃ a c, v = .slice a zs.length c ∧ LiesA w a zs := by
  rw [show ivs zs = flat zs from (flat_ints zs).symm] at h
  obtain ⟨a, c, hv, hl, -⟩ := own_form (α := Int) h
  exact ⟨a, c, hv, hl⟩

set_option maxRecDepth 1000000 in
set_option maxHeartbeats 1000000 in
theorem graphReaches_walk (n : Int) (a : Option Addr) (cap : Nat) (ps : List Pr) (x : Int) (w : World) (bn0 : -9223372036854775808 ≤ n) (bn1 : n ≤ 9223372036854775807) (hL : LiesA w a ps) (hn : a = none → ps.length = 0 ∧ cap = 0) (hl : ps.length * 16 ≤ 140737488351232) (bx0 : -9223372036854775808 ≤ x) (bx1 : x ≤ 9223372036854775807) :
    Calls Try.prog 3 #[.int .i64 n, .slice a ps.length cap, .int .i64 x] w fun e w' => e = .returned (.bool true) ∧ Below w.heap.size w w' := by
  have HL : Hid (LiesA w a ps) := hL
  have LE : Hid (Calls Try.prog 5 #[.slice a ps.length cap] w fun e w' => e = .returned (.slice (some ⟨w.heap.size, 0, none⟩) ps.length (ps.length + 2)) ∧ Below w.heap.size w w' ∧ Lies w' w.heap.size 0 (ps ++ pmarks)) := plent_any a cap ps w hL hn hl
  obtain ⟨B, hB⟩ : ∃ B, w.heap.size = B := ⟨_, rfl⟩
  have HBq : Hid (w.heap.size = B) := hB
  rw [hB] at LE
  clear hL hn hB bn0 bn1 bx0 bx1
  cases hok : (things n ps && thg n x) with
  | false =>
    go_enter Try.func3, Try.ntmps3
    go_wp2_with (first
      | (go_at_call 5; (with_reducible refine LE.out.mono ?_); rintro e w1 ⟨rfl, hb1, hl1⟩; have HB1 : Hid (Below B w w1) := hb1; have L1 : Hid (Lies w1 B 0 (ps ++ pmarks)) := hl1; clear hb1 hl1)
      | (go_at_call 6; (with_reducible refine (reach_bad n x (some ⟨B, 0, none⟩) (ps.length + 2) ps w1 (LiesA.of L1.out.pre) (by omega) hok).mono ?_); rintro e w2 ⟨rfl, hb2⟩; have HB2 : Hid (Below w1.heap.size w1 w2) := hb2; have HB12 : Hid (Below B w w2) := HB1.out.trans (hb2.mono (by rw [← HBq.out]; exact HB1.out.size)); have L2 : Hid (Lies w2 B 0 (ps ++ pmarks)) := L1.out.below hb2 L1.out.1; clear hb2)
      | (go_at_call 7; (with_reducible refine (rreach_bad n x a cap ps w2 (HL.out.below (by rw [HBq.out]; exact HB12.out)) (by omega) hok).mono ?_); rintro e w3 ⟨rfl, hw3⟩; have hw3' := hw3.symm; clear hw3; subst hw3')
      | (go_at_call 8; (with_reducible refine (same_none w2).mono ?_); rintro e w4 ⟨rfl, hb4⟩; have HB4 : Hid (Below w2.heap.size w2 w4) := hb4; have HB14 : Hid (Below B w w4) := HB12.out.trans (hb4.mono (Nat.le_trans (by rw [← HBq.out]; exact HB1.out.size) HB2.out.size)); have L4 : Hid (Lies w4 B 0 (ps ++ pmarks)) := L2.out.below hb4 L2.out.1; clear hb4)
      | (go_at_call 9; (with_reducible refine (pkept_any B a cap ps w4 L4.out (HL.out.below (by rw [HBq.out]; exact HB14.out)) hl).mono ?_); rintro e w5 ⟨rfl, hb5⟩; have HB5 : Hid (Below B w w5) := HB14.out.trans (hb5.mono (by have := HB14.out.size; rw [HBq.out] at this; exact this)); clear hb5))
    go_ret
    exact ⟨rfl, by rw [HBq.out]; exact HB5.out⟩
  | true =>
    rw [Bool.and_eq_true] at hok
    obtain ⟨ht, hx⟩ := hok
    obtain ⟨nn, rfl⟩ : ∃ nn : Nat, n = (nn : Int) := ⟨n.toNat, by unfold things at ht; simp only [Bool.and_eq_true, decide_eq_true_eq] at ht; omega⟩
    unfold thg at hx
    simp only [Bool.and_eq_true, decide_eq_true_eq] at hx
    obtain ⟨xn, rfl⟩ : ∃ xn : Nat, x = (xn : Int) := ⟨x.toNat, by omega⟩
    have hxn : xn < nn := by omega
    have hnn := (things_spec ht).1
    have HT : Hid (things (nn : Int) ps = true) := ht
    clear ht hx
    go_enter Try.func3, Try.ntmps3
    go_wp2_with (first
      | (go_at_call 5; (with_reducible refine LE.out.mono ?_); rintro e w1 ⟨rfl, hb1, hl1⟩; have HB1 : Hid (Below B w w1) := hb1; have L1 : Hid (Lies w1 B 0 (ps ++ pmarks)) := hl1; clear hb1 hl1)
      | (go_at_call 6; (with_reducible refine (reach_ok nn xn (ps.length + 2) (some ⟨B, 0, none⟩) ps w1 (LiesA.of L1.out.pre) (by omega) HT.out hxn).mono ?_); rintro e w2 ⟨v2, rfl, hb2, zs, ho2, hr2⟩; have HB2 : Hid (Below w1.heap.size w1 w2) := hb2; have HB12 : Hid (Below B w w2) := HB1.out.trans (hb2.mono (by rw [← HBq.out]; exact HB1.out.size)); have L2 : Hid (Lies w2 B 0 (ps ++ pmarks)) := L1.out.below hb2 L1.out.1; have R2 : Hid (RL nn ps xn zs) := hr2; obtain ⟨a2, c2, hv2, hl2⟩ := own_lies ho2; subst hv2; have I2 : Hid (LiesA w2 a2 zs) := hl2; clear hb2 ho2 hr2 hl2)
      | (go_at_call 7; (with_reducible refine (rreach_ok nn xn cap a ps w2 (HL.out.below (by rw [HBq.out]; exact HB12.out)) (by omega) HT.out hxn).mono ?_); rintro e w3 ⟨v3, rfl, hb3, ys, ho3, hr3⟩; have hzy : zs = ys := R2.out.one hr3; subst hzy; have HB3 : Hid (Below w2.heap.size w2 w3) := hb3; have HB13 : Hid (Below B w w3) := HB12.out.trans (hb3.mono (Nat.le_trans (by rw [← HBq.out]; exact HB1.out.size) HB2.out.size)); have L3 : Hid (Lies w3 B 0 (ps ++ pmarks)) := L2.out.below hb3 L2.out.1; have I2' : Hid (LiesA w3 a2 zs) := I2.out.below hb3; obtain ⟨a3, c3, hv3, hl3⟩ := own_lies ho3; subst hv3; have I3 : Hid (LiesA w3 a3 zs) := hl3; clear hb3 ho3 hr3 hl3)
      | (go_at_call 8; (with_reducible refine (same_ints a2 a3 c2 c3 zs w3 I2'.out I3.out (R2.out.len hnn)).mono ?_); rintro e w4 ⟨rfl, hb4⟩; have HB4 : Hid (Below w3.heap.size w3 w4) := hb4; have HB14 : Hid (Below B w w4) := HB13.out.trans (hb4.mono (by have := HB13.out.size; rw [HBq.out] at this; exact this)); have L4 : Hid (Lies w4 B 0 (ps ++ pmarks)) := L3.out.below hb4 L3.out.1; clear hb4)
      | (go_at_call 9; (with_reducible refine (pkept_any B a cap ps w4 L4.out (HL.out.below (by rw [HBq.out]; exact HB14.out)) hl).mono ?_); rintro e w5 ⟨rfl, hb5⟩; have HB5 : Hid (Below B w w5) := HB14.out.trans (hb5.mono (by have := HB14.out.size; rw [HBq.out] at this; exact this)); clear hb5))
    go_ret
    exact ⟨rfl, by rw [HBq.out]; exact HB5.out⟩
end Go.Proofs.Ytkfdlccacddbfaa
