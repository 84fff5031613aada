import Derived.Test.YthdfccdkomfikaaDoorJoinsP
import Derived.Test.YthdfccdkomfikaaDoorLc2
import Derived.Laws.Cover1
import Derived.Lib.Strings
namespace Go.Proofs.YthdfccdkomfikaaDoor
open Go.ChangeShapes Go.WideShapes Go.ChangeAt Go.RowKit Go.Maps Go.WideMaps
set_option linter.unusedVariables false
set_option linter.unusedSimpArgs false

set_option maxRecDepth 1000000 in
set_option maxHeartbeats 4000000 in
theorem moved_any (k f t d : Int) (h1 : 0 ≤ f ∧ f ≤ 4294967296) (h2 : 0 ≤ t ∧ t ≤ 4294967296) (h3 : 0 ≤ d ∧ d ≤ 4294967296) (w : World) : Calls Tryd.prog 10 #[.agg #[.int .u8 k, .int .i64 f, .int .i64 t], .int .i64 d] w fun e w' => e = .returned (.agg #[.int .u8 k, .int .i64 (f + d), .int .i64 (t + d)]) ∧ Below w.heap.size w w' := by
  obtain ⟨w2, e2, hb2, hs2, B1, B2⟩ := bx2 w #[.int .u8 k, .int .i64 f, .int .i64 t] #[.int .u8 0, .int .i64 0, .int .i64 0] 31 31
  have HB2 : Hid (Below w.heap.size w w2) := hb2
  have HX2 : Hid (Bx w2 (w.heap.size + 1) #[.int .u8 0, .int .i64 0, .int .i64 0] 31) := B2
  have c0 := B1.cell 0
  have c1 := B1.cell 1
  have c2 := B1.cell 2
  have d0 := B2.cell 0
  have d1 := B2.cell 1
  have d2 := B2.cell 2
  have g0 := B2.free 0
  have g1 := B2.free 1
  have g2 := B2.free 2
  have l1 := B1.lt
  have l2 := B2.lt
  simp at c0 c1 c2 d0 d1 d2
  clear hb2 B1 B2
  go_enter Tryd.func10, Tryd.ntmps10
  go_wp2
  obtain ⟨r0, r1, r2⟩ := HX2.out.read3 (.int .u8 k) (.int .i64 (f + d)) (.int .i64 (t + d))
  refine bodyPost_ret (v := .agg #[.int .u8 k, .int .i64 (f + d), .int .i64 (t + d)]) (by simp [results, Tryd.results10, go_sem, r0, r1, r2]) rfl ⟨rfl, bel_put3 HB2.out (by omega)⟩
set_option maxRecDepth 1000000 in
theorem open_any (y : Nat) (w : World) : Calls Tryd.prog 9 #[.int .i64 (y : Int)] w fun e w' => e = .returned (.bool (decide (y = 23 ∨ y = 22))) ∧ w' = w := by
  by_cases h1 : y = 23
  · subst h1
    go_enter Tryd.func9, Tryd.ntmps9
    go_wp2
    go_ret
    exact ⟨rfl, rfl⟩
  by_cases h2 : y = 22
  · subst h2
    go_enter Tryd.func9, Tryd.ntmps9
    go_wp2
    go_ret
    exact ⟨rfl, rfl⟩
  have q1 : ((y : Int) == 23) = false := by rw [beq_eq_false_iff_ne]; omega
  have q2 : ((y : Int) == 22) = false := by rw [beq_eq_false_iff_ne]; omega
  have e : decide (y = 23 ∨ y = 22) = false := by rw [decide_eq_false_iff_not]; omega
  rw [e]
  go_enter Tryd.func9, Tryd.ntmps9
  go_wp2
  go_ret
  exact ⟨rfl, rfl⟩

/-- why and where a list ends -/
def fwy (o : Option (Nat × Nat)) : Nat := match o with | none => 0 | some x => x.1
def fat (o : Option (Nat × Nat)) : Nat := match o with | none => 0 | some x => x.2
/-- Scan of any text, whatever it answers -/
theorem scan_all {s : ByteArray} (hs : s.size ≤ 4294967280) (w : World) (hS : Spl w) (hT : Lt w) (hM : MaxL w) :
    Calls Tryd.prog 6 #[.string s] w fun e w' => ∃ a n c, e = .returned (.tuple #[.slice a n c, .agg #[.int .i64 (fwy (cut s 0).2 : Int), .int .i64 0, .int .i64 (fat (cut s 0).2 : Int)]]) ∧ Below w.heap.size w w' := by
  cases hc : (cut s 0).2 with
  | none =>
    refine (scan_ok hs hc w hS hT hM).mono fun e w' h => ?_
    obtain ⟨a, c, he, -, -, -, hb⟩ := h
    exact ⟨a, _, c, he, hb⟩
  | some x =>
    obtain ⟨y, z⟩ := x
    refine (scan_no hs hc w hS hT hM).mono fun e w' h => ?_
    exact ⟨none, 0, 0, h.1, h.2⟩
theorem cut_why {s : ByteArray} {y z : Nat} (h : (cut s 0).2 = some (y, z)) : 20 ≤ y ∧ y ≤ 24 ∧ z < s.size := by
  obtain ⟨-, h1, h2, h3, -⟩ := cut_first s s.size 0 y z (by omega) h
  exact ⟨h2, h3, h1⟩

set_option maxRecDepth 1000000 in
set_option maxHeartbeats 8000000 in
theorem joins_fault (a b : ByteArray) (hB : a.size + b.size ≤ 1048576) (y z : Nat) (hc : (cut a 0).2 = some (y, z)) (w : World) (hS : Spl w) (hT : Lt w) (hM : MaxL w) :
    Calls Tryd.prog 5 #[.string a, .string b] w fun e w' => e = .returned (.bool true) ∧ Below w.heap.size w w' := by
  have hj := jn_of a b
  have hjz := hj.size
  have HSA : Hid (Calls Tryd.prog 6 #[.string a] w fun e w' => e = .returned (.tuple #[.slice none 0 0, .agg #[.int .i64 (y : Int), .int .i64 0, .int .i64 (z : Int)]]) ∧ Below w.heap.size w w') := scan_no (by omega) hc w hS hT hM
  obtain ⟨Y2, hY2⟩ : ∃ Y, fwy (cut b 0).2 = Y := ⟨_, rfl⟩
  obtain ⟨Z2, hZ2⟩ : ∃ Y, fat (cut b 0).2 = Y := ⟨_, rfl⟩
  obtain ⟨Y3, hY3⟩ : ∃ Y, fwy (cut (a ++ ⟨#[10]⟩ ++ b) 0).2 = Y := ⟨_, rfl⟩
  obtain ⟨Z3, hZ3⟩ : ∃ Y, fat (cut (a ++ ⟨#[10]⟩ ++ b) 0).2 = Y := ⟨_, rfl⟩
  have HSB : Hid (∀ v, Below w.heap.size w v → Calls Tryd.prog 6 #[.string b] v fun e w' => ∃ a n c, e = .returned (.tuple #[.slice a n c, .agg #[.int .i64 (Y2 : Int), .int .i64 0, .int .i64 (Z2 : Int)]]) ∧ Below v.heap.size v w') := fun v hv => by
    have := scan_all (s := b) (by omega) v (hS.below hv) (hT.below hv) (hM.below hv)
    rw [hY2, hZ2] at this
    exact this
  have HSJ : Hid (∀ v, Below w.heap.size w v → Calls Tryd.prog 6 #[.string (a ++ ⟨#[10]⟩ ++ b)] v fun e w' => ∃ a n c, e = .returned (.tuple #[.slice a n c, .agg #[.int .i64 (Y3 : Int), .int .i64 0, .int .i64 (Z3 : Int)]]) ∧ Below v.heap.size v w') := fun v hv => by
    have := scan_all (s := a ++ ⟨#[10]⟩ ++ b) (by omega) v (hS.below hv) (hT.below hv) (hM.below hv)
    rw [hY3, hZ3] at this
    exact this
  have hyy := cut_why hc
  have hy0 : ((y : Int) != 0) = true := by rw [bne_iff_ne]; omega
  have hcase : ((Y3 : Int) != 0) = true ∨ (((Y3 : Int) != 0) = false ∧ decide (y = 23 ∨ y = 22) = true) := by
    by_cases h3 : Y3 = 0
    · right
      refine ⟨by subst h3; rfl, ?_⟩
      rw [decide_eq_true_eq]
      apply Classical.byContradiction
      intro hn
      have := hj.cut_no a.size 0 y z (by omega) hc (by omega) (by omega)
      rw [this] at hY3
      simp only [fwy] at hY3
      omega
    · left; rw [bne_iff_ne]; omega
  have HOP : Hid (decide (y = 23 ∨ y = 22) = true → ∀ v, Calls Tryd.prog 9 #[.int .i64 (y : Int)] v fun e w' => e = .returned (.bool true) ∧ w' = v) := fun h v => by
    have := open_any y v
    rw [h] at this
    exact this
  have hza : ¬ (9223372036854775807 < a.size + 1) := by omega
  have hzb : ¬ (9223372036854775807 < (a ++ ⟨#[10]⟩ : ByteArray).size + b.size) := by rw [ByteArray.size_append, show (⟨#[10]⟩ : ByteArray).size = 1 from rfl]; omega
  clear hc hS hT hM hY2 hZ2 hY3 hZ3 hj hyy
  rcases hcase with q1 | ⟨q1, q2⟩
  all_goals
    go_enter Tryd.func5, Tryd.ntmps5
    go_wp2_with (first
      | (go_at_call 6; (with_reducible refine HSA.out.mono ?_); rintro e w3 ⟨rfl, hb3⟩; have HB3 : Hid (Below w.heap.size w w3) := hb3; clear hb3)
      | (go_at_call 6; (with_reducible refine (HSB.out _ (HB3.out.alloc HB3.out.size _)).mono ?_); rintro e w4 ⟨a4, n4, c4, rfl, hb4⟩; have HB4 : Hid (Below w.heap.size w w4) := (HB3.out.alloc HB3.out.size _).trans (hb4.mono (by have := HB3.out.size; simp; omega)); have X4 := (Bx.new w3 _ _).below hb4 (Bx.new w3 _ _).lt; have HX4 := hid_of X4; clear hb4 X4)
      | (go_at_call 6; (with_reducible refine (HSJ.out _ (HB4.out.alloc HB4.out.size _)).mono ?_); rintro e w5 ⟨a5, n5, c5, rfl, hb5⟩; have HB5 : Hid (Below w.heap.size w w5) := (HB4.out.alloc HB4.out.size _).trans (hb5.mono (by have := HB4.out.size; simp; omega)); have X5 := (HX4.out.alloc _).below hb5 (HX4.out.alloc _).lt; have k0 := X5.cell 0; have kz := X5.lt; simp at k0; clear hb5 X5)
      | (go_at_call 9; (with_reducible refine (HOP.out q2 _).mono ?_); rintro e w6 ⟨rfl, hw6⟩; have hw7 := hw6.symm; clear hw6; subst hw7))
    go_ret
    exact ⟨rfl, HB5.out.alloc HB5.out.size _⟩
set_option maxRecDepth 1000000 in
set_option maxHeartbeats 8000000 in
theorem joins_second (a b : ByteArray) (hB : a.size + b.size ≤ 1048576) (y z : Nat) (ha : (cut a 0).2 = none) (hc : (cut b 0).2 = some (y, z)) (w : World) (hS : Spl w) (hT : Lt w) (hM : MaxL w) :
    Calls Tryd.prog 5 #[.string a, .string b] w fun e w' => e = .returned (.bool true) ∧ Below w.heap.size w w' := by
  have hj := jn_of a b
  have hjz := hj.size
  have hJ : (cut (a ++ ⟨#[10]⟩ ++ b) 0).2 = some (y, a.size + 1 + z) := by
    rw [(hj.scan (cut_all a a.size 0 (by omega)).1 (cut_all b b.size 0 (by omega)).1 ha).1, hc]
    rfl
  have HSA : Hid (Calls Tryd.prog 6 #[.string a] w fun e w' => ∃ a' n c, e = .returned (.tuple #[.slice a' n c, .agg #[.int .i64 0, .int .i64 0, .int .i64 0]]) ∧ Below w.heap.size w w') := by
    have := scan_all (s := a) (by omega) w hS hT hM
    rw [ha] at this
    exact this
  have HSB : Hid (∀ v, Below w.heap.size w v → Calls Tryd.prog 6 #[.string b] v fun e w' => e = .returned (.tuple #[.slice none 0 0, .agg #[.int .i64 (y : Int), .int .i64 0, .int .i64 (z : Int)]]) ∧ Below v.heap.size v w') := fun v hv => scan_no (by omega) hc v (hS.below hv) (hT.below hv) (hM.below hv)
  have HSJ : Hid (∀ v, Below w.heap.size w v → Calls Tryd.prog 6 #[.string (a ++ ⟨#[10]⟩ ++ b)] v fun e w' => e = .returned (.tuple #[.slice none 0 0, .agg #[.int .i64 (y : Int), .int .i64 0, .int .i64 ((z : Int) + (a.size : Int) + 1)]]) ∧ Below v.heap.size v w') := fun v hv => by
    have := scan_no (s := a ++ ⟨#[10]⟩ ++ b) (by omega) hJ v (hS.below hv) (hT.below hv) (hM.below hv)
    rw [show ((a.size + 1 + z : Nat) : Int) = (z : Int) + (a.size : Int) + 1 by omega] at this
    exact this
  have hyy := cut_why hc
  have hy0 : ((y : Int) != 0) = true := by rw [bne_iff_ne]; omega
  have hza : ¬ (9223372036854775807 < a.size + 1) := by omega
  have hzb : ¬ (9223372036854775807 < (a ++ ⟨#[10]⟩ : ByteArray).size + b.size) := by rw [ByteArray.size_append, show (⟨#[10]⟩ : ByteArray).size = 1 from rfl]; omega
  have hzz : (z : Int) < 4294967296 := by omega
  clear hc hS hT hM hj ha hJ
  go_enter Tryd.func5, Tryd.ntmps5
  go_wp2_with (first
    | (go_at_call 6; (with_reducible refine HSA.out.mono ?_); rintro e w3 ⟨a3, n3, c3, rfl, hb3⟩; have HB3 : Hid (Below w.heap.size w w3) := hb3; clear hb3)
    | (go_at_call 6; (with_reducible refine (HSB.out _ (HB3.out.alloc HB3.out.size _)).mono ?_); rintro e w4 ⟨rfl, hb4⟩; have HB4 : Hid (Below w.heap.size w w4) := (HB3.out.alloc HB3.out.size _).trans (hb4.mono (by have := HB3.out.size; simp; omega)); have X4 := (Bx.new w3 _ _).below hb4 (Bx.new w3 _ _).lt; have HX4 := hid_of X4; clear hb4 X4)
    | (go_at_call 6; (with_reducible refine (HSJ.out _ (HB4.out.alloc HB4.out.size _)).mono ?_); rintro e w5 ⟨rfl, hb5⟩; have HB5 : Hid (Below w.heap.size w w5) := (HB4.out.alloc HB4.out.size _).trans (hb5.mono (by have := HB4.out.size; simp; omega)); have X5 := (HX4.out.alloc _).below hb5 (HX4.out.alloc _).lt; have Y5 := (Bx.new w4 _ _).below hb5 (Bx.new w4 _ _).lt; have k0 := X5.cell 0; have kz := X5.lt; have j0 := Y5.cell 0; have j2 := Y5.cell 2; have jz := Y5.lt; simp at k0 j0 j2; clear hb5 X5 Y5))
  go_ret
  exact ⟨by first | rfl | simp, HB5.out.alloc HB5.out.size _⟩
end Go.Proofs.YthdfccdkomfikaaDoor
