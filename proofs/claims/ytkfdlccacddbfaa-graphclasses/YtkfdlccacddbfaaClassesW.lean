import Derived.Test.YtkfdlccacddbfaaGc6
import Derived.Test.YtkfdlccacddbfaaReachesW
namespace Go.Proofs.Ytkfdlccacddbfaa
open Go.ChangeShapes Go.WideShapes Go.ChangeAt Go.RowKit Go.Sort
set_option linter.unusedVariables false
set_option linter.unusedSimpArgs false

theorem CL.len {ss : List Pr} {n : Nat} {l : List Int} (h : CL ss n l) (hn : n ≤ 131072) : l.length ≤ maxLen := by have := h.1; unfold maxLen; omega

set_option maxRecDepth 1000000 in
set_option maxHeartbeats 1000000 in
theorem graphClasses_walk (n : Int) (a : Option Addr) (cap : Nat) (ps : List Pr) (w : World) (bn0 : -9223372036854775808 ≤ n) (bn1 : n ≤ 9223372036854775807) (hL : LiesA w a ps) (hn : a = none → ps.length = 0 ∧ cap = 0) (hl : ps.length * 16 ≤ 140737488351232) :
    Calls Try.prog 4 #[.int .i64 n, .slice a ps.length cap] w fun e w' => e = .returned (.bool true) ∧ Below w.heap.size w w' := by
  have hm : ps.length ≤ 8796093022208 := by omega
  have HL : Hid (LiesA w a ps) := hL
  have LE : Hid (Calls Try.prog 5 #[.slice a ps.length cap] w fun e w' => e = .returned (.slice (some ⟨w.heap.size, 0, none⟩) ps.length (ps.length + 2)) ∧ Below w.heap.size w w' ∧ Lies w' w.heap.size 0 (ps ++ pmarks)) := plent_any a cap ps w hL hn hl
  obtain ⟨B, hB⟩ : ∃ B, w.heap.size = B := ⟨_, rfl⟩
  have HBq : Hid (w.heap.size = B) := hB
  rw [hB] at LE
  clear hL hn hB bn0 bn1
  cases hok : things n ps with
  | false =>
    go_enter Try.func4, Try.ntmps4
    go_wp2_with (first
      | (go_at_call 5; (with_reducible refine LE.out.mono ?_); rintro e w1 ⟨rfl, hb1, hl1⟩; have HB1 : Hid (Below B w w1) := hb1; have L1 : Hid (Lies w1 B 0 (ps ++ pmarks)) := hl1; clear hb1 hl1)
      | (go_at_call 10; (with_reducible refine (classes_bad n (some ⟨B, 0, none⟩) (ps.length + 2) ps w1 (LiesA.of L1.out.pre) hm hok).mono ?_); rintro e w2 ⟨rfl, hb2⟩; have HB2 : Hid (Below w1.heap.size w1 w2) := hb2; have HB12 : Hid (Below B w w2) := HB1.out.trans (hb2.mono (by rw [← HBq.out]; exact HB1.out.size)); have L2 : Hid (Lies w2 B 0 (ps ++ pmarks)) := L1.out.below hb2 L1.out.1; clear hb2)
      | (go_at_call 11; (with_reducible refine (rclasses_bad n a cap ps w2 (HL.out.below (by rw [HBq.out]; exact HB12.out)) hm hok).mono ?_); rintro e w3 ⟨rfl, hw3⟩; have hw3' := hw3.symm; clear hw3; subst hw3')
      | (go_at_call 8; (with_reducible refine (same_none w2).mono ?_); rintro e w4 ⟨rfl, hb4⟩; have HB4 : Hid (Below w2.heap.size w2 w4) := hb4; have HB14 : Hid (Below B w w4) := HB12.out.trans (hb4.mono (Nat.le_trans (by rw [← HBq.out]; exact HB1.out.size) HB2.out.size)); have L4 : Hid (Lies w4 B 0 (ps ++ pmarks)) := L2.out.below hb4 L2.out.1; clear hb4)
      | (go_at_call 9; (with_reducible refine (pkept_any B a cap ps w4 L4.out (HL.out.below (by rw [HBq.out]; exact HB14.out)) hl).mono ?_); rintro e w5 ⟨rfl, hb5⟩; have HB5 : Hid (Below B w w5) := HB14.out.trans (hb5.mono (by have := HB14.out.size; rw [HBq.out] at this; exact this)); clear hb5))
    go_ret
    exact ⟨rfl, by rw [HBq.out]; exact HB5.out⟩
  | true =>
    obtain ⟨nn, rfl⟩ : ∃ nn : Nat, n = (nn : Int) := ⟨n.toNat, by unfold things at hok; simp only [Bool.and_eq_true, decide_eq_true_eq] at hok; omega⟩
    have hnn := (things_spec hok).1
    have HT : Hid (things (nn : Int) ps = true) := hok
    clear hok
    go_enter Try.func4, Try.ntmps4
    go_wp2_with (first
      | (go_at_call 5; (with_reducible refine LE.out.mono ?_); rintro e w1 ⟨rfl, hb1, hl1⟩; have HB1 : Hid (Below B w w1) := hb1; have L1 : Hid (Lies w1 B 0 (ps ++ pmarks)) := hl1; clear hb1 hl1)
      | (go_at_call 10; (with_reducible refine (classes_ok nn (ps.length + 2) (some ⟨B, 0, none⟩) ps w1 (LiesA.of L1.out.pre) (fun h => by cases h) hm HT.out).mono ?_); rintro e w2 ⟨v2, rfl, hb2, zs, ho2, hr2⟩; have HB2 : Hid (Below w1.heap.size w1 w2) := hb2; have HB12 : Hid (Below B w w2) := HB1.out.trans (hb2.mono (by rw [← HBq.out]; exact HB1.out.size)); have L2 : Hid (Lies w2 B 0 (ps ++ pmarks)) := L1.out.below hb2 L1.out.1; have R2 : Hid (CL (both ps) nn zs) := hr2; obtain ⟨a2, c2, hv2, hl2⟩ := own_lies ho2; subst hv2; have I2 : Hid (LiesA w2 a2 zs) := hl2; clear hb2 ho2 hr2 hl2)
      | (go_at_call 11; (with_reducible refine (rclasses_ok nn cap a ps w2 (HL.out.below (by rw [HBq.out]; exact HB12.out)) hm HT.out).mono ?_); rintro e w3 ⟨v3, rfl, hb3, ys, ho3, hr3⟩; have hzy : zs = ys := R2.out.one hr3; subst hzy; have HB3 : Hid (Below w2.heap.size w2 w3) := hb3; have HB13 : Hid (Below B w w3) := HB12.out.trans (hb3.mono (Nat.le_trans (by rw [← HBq.out]; exact HB1.out.size) HB2.out.size)); have L3 : Hid (Lies w3 B 0 (ps ++ pmarks)) := L2.out.below hb3 L2.out.1; have I2' : Hid (LiesA w3 a2 zs) := I2.out.below hb3; obtain ⟨a3, c3, hv3, hl3⟩ := own_lies ho3; subst hv3; have I3 : Hid (LiesA w3 a3 zs) := hl3; clear hb3 ho3 hr3 hl3)
      | (go_at_call 8; (with_reducible refine (same_ints a2 a3 c2 c3 zs w3 I2'.out I3.out (R2.out.len hnn)).mono ?_); rintro e w4 ⟨rfl, hb4⟩; have HB4 : Hid (Below w3.heap.size w3 w4) := hb4; have HB14 : Hid (Below B w w4) := HB13.out.trans (hb4.mono (by have := HB13.out.size; rw [HBq.out] at this; exact this)); have L4 : Hid (Lies w4 B 0 (ps ++ pmarks)) := L3.out.below hb4 L3.out.1; clear hb4)
      | (go_at_call 9; (with_reducible refine (pkept_any B a cap ps w4 L4.out (HL.out.below (by rw [HBq.out]; exact HB14.out)) hl).mono ?_); rintro e w5 ⟨rfl, hb5⟩; have HB5 : Hid (Below B w w5) := HB14.out.trans (hb5.mono (by have := HB14.out.size; rw [HBq.out] at this; exact this)); clear hb5))
    go_ret
    exact ⟨rfl, by rw [HBq.out]; exact HB5.out⟩
end Go.Proofs.Ytkfdlccacddbfaa
