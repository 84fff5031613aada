import Derived.Test.YtphejjghgalkpaaDoorRs7
import Derived.BigQuiet
import Derived.Deep.RegionHeld3
namespace Go.Proofs.YtphejjghgalkpaaDoor
open Go.ChangeShapes Go.WideShapes Go.ChangeAt Go.RowKit Go.Maps Go.WideMaps
set_option linter.unusedVariables false
set_option linter.unusedSimpArgs false

/-- an edit and the one that takes it back -/
theorem edE_back (s n : ByteArray) (f t : Nat) (hft : f ≤ t) (ht : t ≤ s.size) : edE (edE s n f t) (s.extract f t) f (f + n.size) = s := by
  have hz := edE_size s n f t hft ht
  have zx : (s.extract f t).size = t - f := by rw [ByteArray.size_extract]; omega
  have R1 : Rn s n (edE s n f t) f t := rn_of s n f t hft ht
  have R2 : Rn (edE s n f t) (s.extract f t) (edE (edE s n f t) (s.extract f t) f (f + n.size)) f (f + n.size) := rn_of _ _ f (f + n.size) (by omega) (by omega)
  refine bt_all fun j => ?_
  by_cases h1 : j < f
  · rw [R2.one j h1, R1.one j h1]
  · by_cases h2 : j < t
    · have := R2.two (j - f) (by omega)
      rw [show f + (j - f) = j by omega] at this
      rw [this, bt_ex _ _ _ _ ht, show f + (j - f) = j by omega, if_pos h2]
    · have h3 := R2.three (j - t)
      have h4 := R1.three (j - t)
      rw [zx, show f + (t - f) + (j - t) = j by omega] at h3
      rw [h3, h4, show t + (j - t) = j by omega]
theorem sdB_own {s : ByteArray} (h : (cut s 0).2 = none) : sdB s (wau s (cut s 0).1) = true := by
  unfold sdB; rw [h]; exact (lsE_eq _ _).2 rfl
theorem sdB_nil {s : ByteArray} {yz : Nat × Nat} (h : (cut s 0).2 = some yz) (xs : List Tk) : sdB s xs = false := by
  unfold sdB; rw [h]
set_option maxRecDepth 1000000 in
set_option maxHeartbeats 16000000 in
theorem back_fault (s : ByteArray) (ef et : Int) (n : ByteArray) (hs : s.size ≤ 1048576) (hn : n.size ≤ 1048576) (w : World) (hS : Spl w) (hT : Lt w) (hM : MaxL w) {y z : Nat} (hC : (cut s 0).2 = some (y, z)) :
    Calls Tryd.prog 3 #[.string s, .agg #[.int .i64 ef, .int .i64 et, .string n]] w fun e w' => e = .returned (.bool true) ∧ Below w.heap.size w w' := by
  obtain ⟨w2, e2, hb2, hs2, B2⟩ := bx1 w #[.int .i64 ef, .int .i64 et, .string n] 23
  have HB2 : Hid (Below w.heap.size w w2) := hb2
  have kz : w.heap.size < w2.heap.size := B2.lt
  have HE2 : Hid (∀ v, Below w2.heap.size w2 v → Bx v w.heap.size #[.int .i64 ef, .int .i64 et, .string n] 23 ∧ Below w.heap.size w v) := fun v h => ⟨B2.below h B2.lt, hb2.trans (h.mono hb2.size)⟩
  obtain ⟨-, -, hy1, hy2, -⟩ := cut_first s s.size 0 y z (by omega) hC
  have hy : ((y : Int) != 0) = true := by rw [bne_iff_ne]; omega
  have HS1 : Hid (Calls Tryd.prog 5 #[.string s] w2 fun e w' => e = .returned (.tuple #[.slice none 0 0, .agg #[.int .i64 (y : Int), .int .i64 0, .int .i64 (z : Int)]]) ∧ Below w2.heap.size w2 w') := scan_no (by omega) hC w2 (hS.below hb2) (hT.below hb2) (hM.below hb2)
  have HRE : Hid (∀ v, Below w.heap.size w v → Calls Tryd.prog 6 #[.string s, .slice none 0 0, .agg #[.int .i64 ef, .int .i64 et, .string n]] v fun e w' => e = .returned (.tuple #[.string .empty, .slice none 0 0, .agg #[.int .i64 1, .int .i64 0, .int .i64 0]]) ∧ Below v.heap.size v w') := fun v hv => rescan_arg s none 0 [] ef et n (by omega) (by simp) (sdB_nil hC []) v (.inl rfl) (hS.below hv) (hT.below hv) (hM.below hv)
  clear hb2 hs2 B2 hS hT hM hC hy1 hy2
  go_enter Tryd.func3, Tryd.ntmps3
  go_wp2_with (first
    | (go_at_call 5; (with_reducible refine HS1.out.mono ?_); rintro e w3 ⟨rfl, hb3⟩; have hb4 : Below w2.heap.size w2 (w3.alloc (.cells #[.int .i64 (y : Int), .int .i64 0, .int .i64 (z : Int)] 27)) := hb3.alloc hb3.size _; obtain ⟨X4, hw4⟩ := HE2.out _ hb4; have HW4 := hidI hw4; have x0 : (w3.alloc (.cells #[.int .i64 (y : Int), .int .i64 0, .int .i64 (z : Int)] 27)).cell? ⟨w.heap.size, 0, none⟩ = some (.int .i64 ef) := X4.cell 0; have x1 : (w3.alloc (.cells #[.int .i64 (y : Int), .int .i64 0, .int .i64 (z : Int)] 27)).cell? ⟨w.heap.size, 1, none⟩ = some (.int .i64 et) := X4.cell 1; have x2 : (w3.alloc (.cells #[.int .i64 (y : Int), .int .i64 0, .int .i64 (z : Int)] 27)).cell? ⟨w.heap.size, 2, none⟩ = some (.string n) := X4.cell 2; have x9 : w.heap.size < w3.heap.size := Nat.lt_of_lt_of_le (by omega) hb3.size; clear hb3 hb4 X4 hw4)
    | (go_at_call 6; (with_reducible refine (HRE.out _ HW4.out).mono ?_); rintro e w5 ⟨rfl, hb5⟩; have HB5 : Hid (Below w.heap.size w w5) := HW4.out.trans (hb5.mono HW4.out.size); clear hb5))
  go_ret
  exact ⟨by first | rfl | simp, HB5.out.alloc HB5.out.size _⟩
-- the other ways
set_option maxRecDepth 1000000 in
set_option maxHeartbeats 16000000 in
theorem back_span (s : ByteArray) (ef et : Int) (n : ByteArray) (hs : s.size ≤ 1048576) (hn : n.size ≤ 1048576) (w : World) (hS : Spl w) (hT : Lt w) (hM : MaxL w) (hC : (cut s 0).2 = none) (hE : ef < 0 ∨ et < ef ∨ (s.size : Int) < et) :
    Calls Tryd.prog 3 #[.string s, .agg #[.int .i64 ef, .int .i64 et, .string n]] w fun e w' => e = .returned (.bool true) ∧ Below w.heap.size w w' := by
  obtain ⟨w2, e2, hb2, hs2, B2⟩ := bx1 w #[.int .i64 ef, .int .i64 et, .string n] 23
  have HB2 : Hid (Below w.heap.size w w2) := hb2
  have kz : w.heap.size < w2.heap.size := B2.lt
  have HE2 : Hid (∀ v, Below w2.heap.size w2 v → Bx v w.heap.size #[.int .i64 ef, .int .i64 et, .string n] 23 ∧ Below w.heap.size w v) := fun v h => ⟨B2.below h B2.lt, hb2.trans (h.mono hb2.size)⟩
  have hmx := wau_max (s := s) (by omega)
  have hsd := sdB_own hC
  have hsc := scan_ok (by omega) hC w2 (hS.below hb2) (hT.below hb2) (hM.below hb2)
  obtain ⟨L, hL⟩ : ∃ L, wau s (cut s 0).1 = L := ⟨_, rfl⟩
  rw [hL] at hmx hsd hsc
  have HS1 : Hid (Calls Tryd.prog 5 #[.string s] w2 fun e w' => ∃ a c, e = .returned (.tuple #[.slice a L.length c, .agg #[.int .i64 0, .int .i64 0, .int .i64 0]]) ∧ LiesA w' a L ∧ L.length ≤ c ∧ (a = none → c = 0) ∧ Below w2.heap.size w2 w') := hsc
  have HRE : Hid (∀ v a c, Below w.heap.size w v → LiesA v a L → Calls Tryd.prog 6 #[.string s, .slice a L.length c, .agg #[.int .i64 ef, .int .i64 et, .string n]] v fun e w' => e = .returned (.tuple #[.string .empty, .slice none 0 0, .agg #[.int .i64 10, .int .i64 0, .int .i64 0]]) ∧ Below v.heap.size v w') := fun v a c hv hl => rescan_span s a c L ef et n (by omega) (by omega) hsd hE v hl (hS.below hv) (hT.below hv) (hM.below hv)
  have hEE : ef < 0 ∨ (¬ ef < 0 ∧ et < ef) ∨ (¬ ef < 0 ∧ ¬ et < ef ∧ et > (s.size : Int)) := by omega
  clear hb2 hs2 B2 hS hT hM hC hsd hsc hL hE
  rcases hEE with q1 | ⟨q1, q2⟩ | ⟨q1, q2, q3⟩
  all_goals
    go_enter Tryd.func3, Tryd.ntmps3
    go_wp2_with (first
      | (go_at_call 5; (with_reducible refine HS1.out.mono ?_); rintro e w3 ⟨a3, c3, rfl, hl3, hc3, hn3, hb3⟩; have hb4 : Below w2.heap.size w2 (w3.alloc (.cells #[.int .i64 0, .int .i64 0, .int .i64 0] 27)) := hb3.alloc hb3.size _; obtain ⟨X, hw4⟩ := HE2.out _ hb4; have HW4 := hidI hw4; have HB4 := hidI hb4; have HL3 : Hid (LiesA w3 a3 L) := hl3; have HL4 : Hid (LiesA (w3.alloc (.cells #[.int .i64 0, .int .i64 0, .int .i64 0] 27)) a3 L) := hl3.below ((Below.refl _ _).alloc (Nat.le_refl _) _); have x0 : (w3.alloc (.cells #[.int .i64 0, .int .i64 0, .int .i64 0] 27)).cell? ⟨w.heap.size, 0, none⟩ = some (.int .i64 ef) := X.cell 0; have x1 : (w3.alloc (.cells #[.int .i64 0, .int .i64 0, .int .i64 0] 27)).cell? ⟨w.heap.size, 1, none⟩ = some (.int .i64 et) := X.cell 1; have x2 : (w3.alloc (.cells #[.int .i64 0, .int .i64 0, .int .i64 0] 27)).cell? ⟨w.heap.size, 2, none⟩ = some (.string n) := X.cell 2; have x9 : w.heap.size < w3.heap.size := Nat.lt_of_lt_of_le (by omega) hb3.size; clear hb3 hb4 X hw4 hl3 hn3)
      | (go_at_call 6; (with_reducible refine (HRE.out _ _ _ HW4.out HL4.out).mono ?_); rintro e w5 ⟨rfl, hb5⟩; have HB5 : Hid (Below w.heap.size w w5) := HW4.out.trans (hb5.mono HW4.out.size); have hb6 : Below w2.heap.size w2 (w5.alloc (.cells #[.int .i64 10, .int .i64 0, .int .i64 0] 27)) := (HB4.out.trans (hb5.mono HB4.out.size)).alloc (Nat.le_trans HB4.out.size hb5.size) _; obtain ⟨Y, hw6⟩ := HE2.out _ hb6; have y0 : (w5.alloc (.cells #[.int .i64 10, .int .i64 0, .int .i64 0] 27)).cell? ⟨w.heap.size, 0, none⟩ = some (.int .i64 ef) := Y.cell 0; have y1 : (w5.alloc (.cells #[.int .i64 10, .int .i64 0, .int .i64 0] 27)).cell? ⟨w.heap.size, 1, none⟩ = some (.int .i64 et) := Y.cell 1; have y2 : (w5.alloc (.cells #[.int .i64 10, .int .i64 0, .int .i64 0] 27)).cell? ⟨w.heap.size, 2, none⟩ = some (.string n) := Y.cell 2; have y9 : w.heap.size < w5.heap.size := (by have h5 := hb5.size; simp at h5; omega); clear hb5 hb6 Y hw6))
    go_ret
    exact ⟨by first | rfl | simp, HB5.out.alloc HB5.out.size _⟩
set_option maxRecDepth 1000000 in
set_option maxHeartbeats 16000000 in
theorem back_no (s : ByteArray) (f t : Nat) (n : ByteArray) (hs : s.size ≤ 1048576) (hn : n.size ≤ 1048576) (w : World) (hS : Spl w) (hT : Lt w) (hM : MaxL w) (hC : (cut s 0).2 = none) (hft : f ≤ t) (hts : t ≤ s.size) {y z : Nat} (hN : (cut (edE s n f t) 0).2 = some (y, z)) :
    Calls Tryd.prog 3 #[.string s, .agg #[.int .i64 (f : Int), .int .i64 (t : Int), .string n]] w fun e w' => e = .returned (.bool true) ∧ Below w.heap.size w w' := by
  obtain ⟨w2, e2, hb2, hs2, B2⟩ := bx1 w #[.int .i64 (f : Int), .int .i64 (t : Int), .string n] 23
  have HB2 : Hid (Below w.heap.size w w2) := hb2
  have kz : w.heap.size < w2.heap.size := B2.lt
  have HE2 : Hid (∀ v, Below w2.heap.size w2 v → Bx v w.heap.size #[.int .i64 (f : Int), .int .i64 (t : Int), .string n] 23 ∧ Below w.heap.size w v) := fun v h => ⟨B2.below h B2.lt, hb2.trans (h.mono hb2.size)⟩
  have hmx := wau_max (s := s) (by omega)
  have hsd := sdB_own hC
  have hsc := scan_ok (by omega) hC w2 (hS.below hb2) (hT.below hb2) (hM.below hb2)
  obtain ⟨L, hL⟩ : ∃ L, wau s (cut s 0).1 = L := ⟨_, rfl⟩
  rw [hL] at hmx hsd hsc
  have HS1 : Hid (Calls Tryd.prog 5 #[.string s] w2 fun e w' => ∃ a c, e = .returned (.tuple #[.slice a L.length c, .agg #[.int .i64 0, .int .i64 0, .int .i64 0]]) ∧ LiesA w' a L ∧ L.length ≤ c ∧ (a = none → c = 0) ∧ Below w2.heap.size w2 w') := hsc
  obtain ⟨s', hs'⟩ : ∃ s', edE s n f t = s' := ⟨_, rfl⟩
  have hsz := edE_size s n f t hft hts
  have HS' : Hid (s.extract 0 f ++ n ++ s.extract t s.size = s') := hs'
  have q1 : ¬ (f : Int) < 0 := by omega
  have q2 : ¬ (t : Int) < (f : Int) := by omega
  have q3 : ¬ (t : Int) > (s.size : Int) := by omega
  have hf' : (f : Int) ≤ (s.size : Int) := by omega
  have ht' : (t : Int) ≤ (s.size : Int) := by omega
  have hft' : (f : Int) ≤ (t : Int) := by omega
  have hres : ∀ v a c, Below w.heap.size w v → LiesA v a L → Calls Tryd.prog 6 #[.string s, .slice a L.length c, .agg #[.int .i64 (f : Int), .int .i64 (t : Int), .string n]] v fun e w' => RcE s' v e w' := fun v a c hv hl => by
    rw [← hs']; exact rescan_in s a c L f t n (by omega) (by omega) hsd hft hts v hl (hS.below hv) (hT.below hv) (hM.below hv)
  rw [hs'] at hsz hN
  obtain ⟨-, -, hy1, hy2, -⟩ := cut_first s' s'.size 0 y z (by omega) hN
  have hy : ((y : Int) != 0) = true := by rw [bne_iff_ne]; omega
  have HRE : Hid (∀ v a c, Below w.heap.size w v → LiesA v a L → Calls Tryd.prog 6 #[.string s, .slice a L.length c, .agg #[.int .i64 (f : Int), .int .i64 (t : Int), .string n]] v fun e w' => e = .returned (.tuple #[.string s', .slice none 0 0, .agg #[.int .i64 (y : Int), .int .i64 0, .int .i64 (z : Int)]]) ∧ Below v.heap.size v w') := fun v a c hv hl => (hres v a c hv hl).mono fun e w' h => by
    unfold RcE at h
    rw [hN] at h
    exact ⟨h.2, h.1⟩
  have HS2 : Hid (∀ v, Below w.heap.size w v → Calls Tryd.prog 5 #[.string s'] v fun e w' => e = .returned (.tuple #[.slice none 0 0, .agg #[.int .i64 (y : Int), .int .i64 0, .int .i64 (z : Int)]]) ∧ Below v.heap.size v w') := fun v hv => scan_no (by omega) hN v (hS.below hv) (hT.below hv) (hM.below hv)
  have zm1 : ¬ (9223372036854775807 < min f s.size + n.size) := by omega
  have zm2 : ¬ (9223372036854775807 < min f s.size + n.size + (s.size - t)) := by omega
  have zc1 : ¬ (9223372036854775807 < (s.extract 0 f).size + n.size) := by rw [off_size (by omega)]; omega
  have zc2 : ¬ (9223372036854775807 < (s.extract 0 f ++ n).size + (s.extract t s.size).size) := by rw [ByteArray.size_append, off_size (by omega), ByteArray.size_extract]; omega
  have hSe : s.extract 0 f ++ n ++ s.extract t s.size = s' := HS'.out
  clear hb2 hs2 B2 hS hT hM hC hsd hsc hL hs' hsz hres hN hy1 hy2
  go_enter Tryd.func3, Tryd.ntmps3
  go_upto_region 10 with (first
    | (go_at_call 5; (with_reducible refine HS1.out.mono ?_); rintro e w3 ⟨a3, c3, rfl, hl3, hc3, hn3, hb3⟩; have hb4 : Below w2.heap.size w2 (w3.alloc (.cells #[.int .i64 0, .int .i64 0, .int .i64 0] 27)) := hb3.alloc hb3.size _; obtain ⟨X, hw4⟩ := HE2.out _ hb4; have HW4 := hidI hw4; have HB4 := hidI hb4; have HL3 : Hid (LiesA w3 a3 L) := hl3; have HL4 : Hid (LiesA (w3.alloc (.cells #[.int .i64 0, .int .i64 0, .int .i64 0] 27)) a3 L) := hl3.below ((Below.refl _ _).alloc (Nat.le_refl _) _); have x0 : (w3.alloc (.cells #[.int .i64 0, .int .i64 0, .int .i64 0] 27)).cell? ⟨w.heap.size, 0, none⟩ = some (.int .i64 (f : Int)) := X.cell 0; have x1 : (w3.alloc (.cells #[.int .i64 0, .int .i64 0, .int .i64 0] 27)).cell? ⟨w.heap.size, 1, none⟩ = some (.int .i64 (t : Int)) := X.cell 1; have x2 : (w3.alloc (.cells #[.int .i64 0, .int .i64 0, .int .i64 0] 27)).cell? ⟨w.heap.size, 2, none⟩ = some (.string n) := X.cell 2; have x9 : w.heap.size < w3.heap.size := Nat.lt_of_lt_of_le (by omega) hb3.size; clear hb3 hb4 X hw4 hl3 hn3)
    | (go_at_call 6; (with_reducible refine (HRE.out _ _ _ HW4.out HL4.out).mono ?_); rintro e w5 ⟨rfl, hb5⟩; have HB5 : Hid (Below w2.heap.size w2 w5) := HB4.out.trans (hb5.mono HB4.out.size); have hb6 : Below w2.heap.size w2 (w5.alloc (.cells #[.int .i64 (y : Int), .int .i64 0, .int .i64 (z : Int)] 27)) := HB5.out.alloc HB5.out.size _; obtain ⟨Y, hw6⟩ := HE2.out _ hb6; have HW6 := hidI hw6; have y0 : (w5.alloc (.cells #[.int .i64 (y : Int), .int .i64 0, .int .i64 (z : Int)] 27)).cell? ⟨w.heap.size, 0, none⟩ = some (.int .i64 (f : Int)) := Y.cell 0; have y1 : (w5.alloc (.cells #[.int .i64 (y : Int), .int .i64 0, .int .i64 (z : Int)] 27)).cell? ⟨w.heap.size, 1, none⟩ = some (.int .i64 (t : Int)) := Y.cell 1; have y2 : (w5.alloc (.cells #[.int .i64 (y : Int), .int .i64 0, .int .i64 (z : Int)] 27)).cell? ⟨w.heap.size, 2, none⟩ = some (.string n) := Y.cell 2; have y9 : w.heap.size < w5.heap.size := Nat.lt_of_lt_of_le (by omega) HB5.out.size; clear hb5 hb6 Y hw6)
    | (go_at_call 5; (with_reducible refine (HS2.out _ HW6.out).mono ?_); rintro e w7 ⟨rfl, hb7⟩; have P7 : Bx w7 w5.heap.size #[.int .i64 (y : Int), .int .i64 0, .int .i64 (z : Int)] 27 := (Bx.new _ _ _).below hb7 (by simp); have hb8 : Below w2.heap.size w2 (w7.alloc (.cells #[.int .i64 (y : Int), .int .i64 0, .int .i64 (z : Int)] 27)) := ((HB5.out.alloc HB5.out.size _).trans (hb7.mono (by have := HB5.out.size; simp; omega))).alloc (by have h1 := hb7.size; have h2 := HB5.out.size; simp at h1; omega) _; have P8 := P7.alloc (.cells #[.int .i64 (y : Int), .int .i64 0, .int .i64 (z : Int)] 27); obtain ⟨ZB, hw8⟩ := HE2.out _ hb8; have HW8 := hidI hw8; have m0 : (w7.alloc (.cells #[.int .i64 (y : Int), .int .i64 0, .int .i64 (z : Int)] 27)).cell? ⟨w5.heap.size, 0, none⟩ = some (.int .i64 (y : Int)) := P8.cell 0; have m1 : (w7.alloc (.cells #[.int .i64 (y : Int), .int .i64 0, .int .i64 (z : Int)] 27)).cell? ⟨w5.heap.size, 1, none⟩ = some (.int .i64 0) := P8.cell 1; have m2 : (w7.alloc (.cells #[.int .i64 (y : Int), .int .i64 0, .int .i64 (z : Int)] 27)).cell? ⟨w5.heap.size, 2, none⟩ = some (.int .i64 (z : Int)) := P8.cell 2; have m9 := P7.lt; have zb0 : (w7.alloc (.cells #[.int .i64 (y : Int), .int .i64 0, .int .i64 (z : Int)] 27)).cell? ⟨w.heap.size, 0, none⟩ = some (.int .i64 (f : Int)) := ZB.cell 0; have zb1 : (w7.alloc (.cells #[.int .i64 (y : Int), .int .i64 0, .int .i64 (z : Int)] 27)).cell? ⟨w.heap.size, 1, none⟩ = some (.int .i64 (t : Int)) := ZB.cell 1; have zb2 : (w7.alloc (.cells #[.int .i64 (y : Int), .int .i64 0, .int .i64 (z : Int)] 27)).cell? ⟨w.heap.size, 2, none⟩ = some (.string n) := ZB.cell 2; have z9 : w.heap.size < w7.heap.size := (by omega); clear hb7 P7 P8 hb8 ZB hw8))
  go_quiet (fail)
  go_wp2
  go_ret
  exact ⟨by first | rfl | simp, bel_drewA HW8.out⟩
set_option maxRecDepth 1000000 in
set_option maxHeartbeats 16000000 in
theorem back_ok (s : ByteArray) (f t : Nat) (n : ByteArray) (hs : s.size ≤ 1048576) (hn : n.size ≤ 1048576) (w : World) (hS : Spl w) (hT : Lt w) (hM : MaxL w) (hC : (cut s 0).2 = none) (hft : f ≤ t) (hts : t ≤ s.size) (hN : (cut (edE s n f t) 0).2 = none) :
    Calls Tryd.prog 3 #[.string s, .agg #[.int .i64 (f : Int), .int .i64 (t : Int), .string n]] w fun e w' => e = .returned (.bool true) ∧ Below w.heap.size w w' := by
  obtain ⟨w2, e2, hb2, hs2, B2⟩ := bx1 w #[.int .i64 (f : Int), .int .i64 (t : Int), .string n] 23
  have HB2 : Hid (Below w.heap.size w w2) := hb2
  have kz : w.heap.size < w2.heap.size := B2.lt
  have HE2 : Hid (∀ v, Below w2.heap.size w2 v → Bx v w.heap.size #[.int .i64 (f : Int), .int .i64 (t : Int), .string n] 23 ∧ Below w.heap.size w v) := fun v h => ⟨B2.below h B2.lt, hb2.trans (h.mono hb2.size)⟩
  have hmx := wau_max (s := s) (by omega)
  have hsd := sdB_own hC
  have hsc := scan_ok (by omega) hC w2 (hS.below hb2) (hT.below hb2) (hM.below hb2)
  obtain ⟨L, hL⟩ : ∃ L, wau s (cut s 0).1 = L := ⟨_, rfl⟩
  rw [hL] at hmx hsd hsc
  have HS1 : Hid (Calls Tryd.prog 5 #[.string s] w2 fun e w' => ∃ a c, e = .returned (.tuple #[.slice a L.length c, .agg #[.int .i64 0, .int .i64 0, .int .i64 0]]) ∧ LiesA w' a L ∧ L.length ≤ c ∧ (a = none → c = 0) ∧ Below w2.heap.size w2 w') := hsc
  obtain ⟨s', hs'⟩ : ∃ s', edE s n f t = s' := ⟨_, rfl⟩
  have hsz := edE_size s n f t hft hts
  have HS' : Hid (s.extract 0 f ++ n ++ s.extract t s.size = s') := hs'
  have q1 : ¬ (f : Int) < 0 := by omega
  have q2 : ¬ (t : Int) < (f : Int) := by omega
  have q3 : ¬ (t : Int) > (s.size : Int) := by omega
  have hf' : (f : Int) ≤ (s.size : Int) := by omega
  have ht' : (t : Int) ≤ (s.size : Int) := by omega
  have hft' : (f : Int) ≤ (t : Int) := by omega
  have hres : ∀ v a c, Below w.heap.size w v → LiesA v a L → Calls Tryd.prog 6 #[.string s, .slice a L.length c, .agg #[.int .i64 (f : Int), .int .i64 (t : Int), .string n]] v fun e w' => RcE s' v e w' := fun v a c hv hl => by
    rw [← hs']; exact rescan_in s a c L f t n (by omega) (by omega) hsd hft hts v hl (hS.below hv) (hT.below hv) (hM.below hv)
  have hbk := edE_back s n f t hft hts
  rw [hs'] at hsz hN hbk
  have hmx' := wau_max (s := s') (by omega)
  have hsd' := sdB_own hN
  obtain ⟨L', hL'⟩ : ∃ L', wau s' (cut s' 0).1 = L' := ⟨_, rfl⟩
  rw [hL'] at hmx' hsd'
  have HRE : Hid (∀ v a c, Below w.heap.size w v → LiesA v a L → Calls Tryd.prog 6 #[.string s, .slice a L.length c, .agg #[.int .i64 (f : Int), .int .i64 (t : Int), .string n]] v fun e w' => ∃ a5 c5, e = .returned (.tuple #[.string s', .slice a5 L'.length c5, .agg #[.int .i64 0, .int .i64 0, .int .i64 0]]) ∧ LiesA w' a5 L' ∧ Below v.heap.size v w') := fun v a c hv hl => (hres v a c hv hl).mono fun e w' h => by
    unfold RcE at h
    rw [hN, hL'] at h
    obtain ⟨hb, u, rfl, ho⟩ := h
    obtain ⟨a5, c5, rfl, h1, -⟩ := own_form' ho
    exact ⟨a5, c5, rfl, h1, hb⟩
  have HR2 : Hid (∀ v a c, Below w.heap.size w v → LiesA v a L' → Calls Tryd.prog 6 #[.string s', .slice a L'.length c, .agg #[.int .i64 (f : Int), .int .i64 ((f : Int) + (n.size : Int)), .string (s.extract f t)]] v fun e w' => ∃ a8 c8, e = .returned (.tuple #[.string s, .slice a8 L.length c8, .agg #[.int .i64 0, .int .i64 0, .int .i64 0]]) ∧ w'.ownsRow v.heap.size 41 3 (.slice a8 L.length c8) L.length (flat L) ∧ Below v.heap.size v w') := fun v a c hv hl => by
    have zx : (s.extract f t).size = t - f := by rw [ByteArray.size_extract]; omega
    have h := rescan_in s' a c L' f (f + n.size) (s.extract f t) (by omega) (by omega) hsd' (by omega) (by omega) v hl (hS.below hv) (hT.below hv) (hM.below hv)
    rw [hbk, Int.natCast_add] at h
    refine h.mono fun e w' h => ?_
    unfold RcE at h
    rw [hC, hL] at h
    obtain ⟨hb, u, rfl, ho⟩ := h
    obtain ⟨a5, c5, rfl, h1, -⟩ := own_form' ho
    exact ⟨a5, c5, rfl, ho, hb⟩
  clear hb2 hs2 B2 hS hT hM hC hsd hsc hL hs' hsz hres hN hbk hsd' hL' HS'
  go_enter Tryd.func3, Tryd.ntmps3
  go_upto_region 11 with (first
    | (go_at_call 5; (with_reducible refine HS1.out.mono ?_); rintro e w3 ⟨a3, c3, rfl, hl3, hc3, hn3, hb3⟩; have hb4 : Below w2.heap.size w2 (w3.alloc (.cells #[.int .i64 0, .int .i64 0, .int .i64 0] 27)) := hb3.alloc hb3.size _; obtain ⟨X, hw4⟩ := HE2.out _ hb4; have HW4 := hidI hw4; have HB4 := hidI hb4; have HL3 : Hid (LiesA w3 a3 L) := hl3; have HL4 : Hid (LiesA (w3.alloc (.cells #[.int .i64 0, .int .i64 0, .int .i64 0] 27)) a3 L) := hl3.below ((Below.refl _ _).alloc (Nat.le_refl _) _); have x0 : (w3.alloc (.cells #[.int .i64 0, .int .i64 0, .int .i64 0] 27)).cell? ⟨w.heap.size, 0, none⟩ = some (.int .i64 (f : Int)) := X.cell 0; have x1 : (w3.alloc (.cells #[.int .i64 0, .int .i64 0, .int .i64 0] 27)).cell? ⟨w.heap.size, 1, none⟩ = some (.int .i64 (t : Int)) := X.cell 1; have x2 : (w3.alloc (.cells #[.int .i64 0, .int .i64 0, .int .i64 0] 27)).cell? ⟨w.heap.size, 2, none⟩ = some (.string n) := X.cell 2; have x9 : w.heap.size < w3.heap.size := Nat.lt_of_lt_of_le (by omega) hb3.size; clear hb3 hb4 X hw4 hl3 hn3)
    | (go_at_call 6; (with_reducible refine (HRE.out _ _ _ HW4.out HL4.out).mono ?_); rintro e w5 ⟨a5, c5, rfl, hl5, hb5⟩; have HB5 : Hid (Below w2.heap.size w2 w5) := HB4.out.trans (hb5.mono HB4.out.size); have HL5 : Hid (LiesA w5 a5 L') := hl5; have HM5 : Hid (LiesA w5 a3 L) := HL4.out.below hb5; have hb6 : Below w2.heap.size w2 (w5.alloc (.cells #[.int .i64 0, .int .i64 0, .int .i64 0] 27)) := HB5.out.alloc HB5.out.size _; obtain ⟨Y, hw6⟩ := HE2.out _ hb6; have HW6 := hidI hw6; have y0 : (w5.alloc (.cells #[.int .i64 0, .int .i64 0, .int .i64 0] 27)).cell? ⟨w.heap.size, 0, none⟩ = some (.int .i64 (f : Int)) := Y.cell 0; have y1 : (w5.alloc (.cells #[.int .i64 0, .int .i64 0, .int .i64 0] 27)).cell? ⟨w.heap.size, 1, none⟩ = some (.int .i64 (t : Int)) := Y.cell 1; have y2 : (w5.alloc (.cells #[.int .i64 0, .int .i64 0, .int .i64 0] 27)).cell? ⟨w.heap.size, 2, none⟩ = some (.string n) := Y.cell 2; have y9 : w.heap.size < w5.heap.size := Nat.lt_of_lt_of_le (by omega) HB5.out.size; clear hb5 hb6 Y hw6 hl5))
  obtain ⟨w6, e6⟩ : ∃ w6, w5.alloc (.cells #[.int .i64 0, .int .i64 0, .int .i64 0] 27) = w6 := ⟨_, rfl⟩
  have HL6 : Hid (LiesA w6 a5 L') := by unfold Hid; rw [← e6]; exact HL5.out.below ((Below.refl _ _).alloc (Nat.le_refl _) _)
  have HM6 : Hid (LiesA w6 a3 L) := by unfold Hid; rw [← e6]; exact HM5.out.below ((Below.refl _ _).alloc (Nat.le_refl _) _)
  rw [e6] at HW6 y0 y1 y2 ⊢
  have y8 : w.heap.size < w6.heap.size := by rw [← e6]; simp; omega
  clear e6 HL5 HM5 HL4 HL3 x0 x1 x2 x9 y9 HB5 HB4 HW4
  have new1 := World.new_ne w6 ⟨w.heap.size, 0, none⟩ y0
  have hw1 : IntKind.i64.wrap ((f : Int) + (n.size : Int)) = (f : Int) + (n.size : Int) := IntWalk.i64_in _ ⟨by omega, by omega⟩
  go_region_held3 (fun y => y.cell? ⟨w.heap.size, 0, none⟩ = some (.int .i64 (f : Int)) ∧ y.cell? ⟨w.heap.size, 1, none⟩ = some (.int .i64 (t : Int)) ∧ y.cell? ⟨w.heap.size, 2, none⟩ = some (.string n))
    (first
      | go_keep
      | (refine ⟨?_, ?_, ?_⟩ <;> assumption)
      | (refine ⟨?_, ?_, ?_⟩ <;> exact (cell_put3 (by show w.heap.size ≠ _; omega)).trans (by assumption)))
    ((go_at_call 6; refine (HR2.out _ a5 c5 (by first | exact HW6.out.drew | exact HW6.out.drew.alloc HW6.out.size _) (by first | exact HL6.out.below (Below.refl _ _).drew | exact HL6.out.below ((Below.refl _ _).drew.alloc (Nat.le_refl _) _))).mono ?_; rintro e w8 ⟨a8, c8, rfl, ho8, hb8⟩; have HB8 : Hid (Below w6.heap.size w6 w8) := (by first | exact (Below.refl _ w6).drew.trans hb8 | exact ((Below.refl _ w6).drew.alloc (Nat.le_refl _) _).trans (hb8.mono (by simp))); have u0 : w8.cell? ⟨w.heap.size, 0, none⟩ = some (.int .i64 (f : Int)) := (HB8.out.cell (p := ⟨w.heap.size, 0, none⟩) y8).trans y0; have u1 : w8.cell? ⟨w.heap.size, 1, none⟩ = some (.int .i64 (t : Int)) := (HB8.out.cell (p := ⟨w.heap.size, 1, none⟩) y8).trans y1; have u2 : w8.cell? ⟨w.heap.size, 2, none⟩ = some (.string n) := (HB8.out.cell (p := ⟨w.heap.size, 2, none⟩) y8).trans y2; have u9 : w.heap.size < w8.heap.size := Nat.lt_of_lt_of_le y8 HB8.out.size; have HO8 := hidI ho8; (first | (have j8 : Bx w8 w6.heap.size #[.int .i64 0, .int .i64 0, .int .i64 0] 27 := (Bx.new w6.drew _ _).below hb8 (by simp); have HJ8 := hidI j8; have j0 := j8.cell 0; have j1 := j8.cell 1; have j2 := j8.cell 2; have jf0 := j8.free 0; have jf1 := j8.free 1; have jf2 := j8.free 2; have jz := j8.lt; simp at j0 j1 j2; clear j8) | skip); clear hb8 ho8))
  · obtain ⟨W, hW⟩ : ∃ W, w8.alloc (.cells #[.int .i64 0, .int .i64 0, .int .i64 0] 27) = W := ⟨_, rfl⟩
    have hbW : Below w6.heap.size w6 W := by rw [← hW]; exact HB8.out.alloc HB8.out.size _
    have P8 : Bx W w8.heap.size #[.int .i64 0, .int .i64 0, .int .i64 0] 27 := by rw [← hW]; exact Bx.new _ _ _
    have HLW : Hid (LiesA W a8 L) := by
      obtain ⟨a', c', e', h1, -⟩ := own_form' HO8.out
      cases e'
      unfold Hid; rw [← hW]; exact h1.below ((Below.refl _ _).alloc (Nat.le_refl _) _)
    have HMW : Hid (LiesA W a3 L) := HM6.out.below hbW
    rw [hW]
    have HBW : Hid (Below w.heap.size w W) := HW6.out.trans (hbW.mono HW6.out.size)
    have p0 := P8.cell 0
    have p9 := P8.lt
    simp at p0
    clear hW hbW P8
    go_wp2_with (go_at_call 7; (with_reducible refine (same_tokens a8 a3 c8 c3 L W HLW.out HMW.out (by unfold maxLen; omega)).mono ?_); rintro e w9 ⟨rfl, hb9⟩; have HB9 : Hid (Below w.heap.size w w9) := HBW.out.trans (hb9.mono HBW.out.size); clear hb9)
    go_ret
    exact ⟨by first | rfl | simp, HB9.out⟩
  · obtain ⟨W, hW⟩ : ∃ W, ((w8.setCell ⟨w6.heap.size, 0, none⟩ (.int .i64 0)).setCell ⟨w6.heap.size, 1, none⟩ (.int .i64 0)).setCell ⟨w6.heap.size, 2, none⟩ (.int .i64 0) = W := ⟨_, rfl⟩
    have hbW : Below w6.heap.size w6 W := by rw [← hW]; exact bel_put3 HB8.out (Nat.le_refl _)
    have P8 : Bx W w6.heap.size #[.int .i64 0, .int .i64 0, .int .i64 0] 27 := by rw [← hW]; exact bx_put3 HJ8.out _ _ _
    have HLW : Hid (LiesA W a8 L) := by
      have h2 := own_put3 (v0 := .int .i64 0) (v1 := .int .i64 0) (v2 := .int .i64 0) HO8.out HJ8.out (by decide)
      obtain ⟨a', c', e', h1, -⟩ := own_form' h2
      cases e'
      unfold Hid; rw [← hW]; exact h1
    have HMW : Hid (LiesA W a3 L) := HM6.out.below hbW
    rw [hW]
    have HBW : Hid (Below w.heap.size w W) := HW6.out.trans (hbW.mono HW6.out.size)
    have p0 := P8.cell 0
    have p9 := P8.lt
    simp at p0
    clear hW hbW P8 j0 j1 j2 jf0 jf1 jf2 jz
    go_wp2_with (go_at_call 7; (with_reducible refine (same_tokens a8 a3 c8 c3 L W HLW.out HMW.out (by unfold maxLen; omega)).mono ?_); rintro e w9 ⟨rfl, hb9⟩; have HB9 : Hid (Below w.heap.size w w9) := HBW.out.trans (hb9.mono HBW.out.size); clear hb9)
    go_ret
    exact ⟨by first | rfl | simp, HB9.out⟩
theorem lexerBack_walk (s : ByteArray) (ef et : Int) (n : ByteArray) (hB : s.size + n.size ≤ 1048576) (w : World) (hS : Spl w) (hT : Lt w) (hM : MaxL w) :
    Calls Tryd.prog 3 #[.string s, .agg #[.int .i64 ef, .int .i64 et, .string n]] w fun e w' => e = .returned (.bool true) ∧ Below w.heap.size w w' := by
  cases hC : (cut s 0).2 with
  | some yz =>
    obtain ⟨y, z⟩ := yz
    exact back_fault s ef et n (by omega) (by omega) w hS hT hM hC
  | none =>
    by_cases hE : ef < 0 ∨ et < ef ∨ (s.size : Int) < et
    · exact back_span s ef et n (by omega) (by omega) w hS hT hM hC hE
    · obtain ⟨f, hf⟩ : ∃ f : Nat, ef = f := ⟨ef.toNat, by omega⟩
      obtain ⟨t, ht⟩ : ∃ t : Nat, et = t := ⟨et.toNat, by omega⟩
      subst hf
      subst ht
      cases hN : (cut (edE s n f t) 0).2 with
      | some yz =>
        obtain ⟨y, z⟩ := yz
        exact back_no s f t n (by omega) (by omega) w hS hT hM hC (by omega) (by omega) hN
      | none => exact back_ok s f t n (by omega) (by omega) w hS hT hM hC (by omega) (by omega) hN
end Go.Proofs.YtphejjghgalkpaaDoor
