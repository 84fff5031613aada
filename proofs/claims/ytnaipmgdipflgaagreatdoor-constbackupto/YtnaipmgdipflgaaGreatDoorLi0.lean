import Derived.Test.YtnaipmgdipflgaaGreatDoorLy2
namespace Go.Proofs.YtnaipmgdipflgaaGreatDoor
open Go.ChangeShapes Go.WideShapes Go.ChangeAt Go.RowKit Go.Maps Go.WideMaps
set_option linter.unusedVariables false
set_option linter.unusedSimpArgs false

/-- what a box of four cells tells -/
theorem Bx.facts4 {w : World} {g : Nat} {t : TypeId} {v0 v1 v2 v3 : Value} (B : Bx w g #[v0, v1, v2, v3] t) :
    w.cell? ⟨g, 0, none⟩ = some v0 ∧ w.cell? ⟨g, 1, none⟩ = some v1 ∧ w.cell? ⟨g, 2, none⟩ = some v2 ∧ w.cell? ⟨g, 3, none⟩ = some v3 ∧ w.frozen? ⟨g, 0, none⟩ = false ∧ w.frozen? ⟨g, 1, none⟩ = false ∧ w.frozen? ⟨g, 2, none⟩ = false ∧ w.frozen? ⟨g, 3, none⟩ = false ∧ g < w.heap.size :=
  ⟨by rw [B.cell 0]; rfl, by rw [B.cell 1]; rfl, by rw [B.cell 2]; rfl, by rw [B.cell 3]; rfl, B.free 0, B.free 1, B.free 2, B.free 3, B.lt⟩
theorem Bx.nowV {w : World} {g : Nat} {t : TypeId} {u0 u1 u2 u3 : Value} (B : Bx w g #[u0, u1, u2, u3] t) (v0 v1 v2 v3 : Value) : Bx ((((w.setCell ⟨g, 0, none⟩ v0).setCell ⟨g, 1, none⟩ v1).setCell ⟨g, 2, none⟩ v2).setCell ⟨g, 3, none⟩ v3) g #[v0, v1, v2, v3] t := by
  have := (((B.set 0 v0).set 1 v1).set 2 v2).set 3 v3
  simpa using this
/-- a value and an error, as both tell them -/
def vlV (c n : Int) (t : ByteArray) (e : Int) : Value := .tuple #[.agg #[.int .u8 c, .bool false, .int .i64 n, .string t], .int .i64 e]
set_option maxRecDepth 1000000 in
theorem wrong_any (y : Int) (w : World) : Calls Tryz.prog 18 #[.int .i64 y] w fun e w' => e = .returned (.tuple #[.agg #[.int .u8 0, .bool false, .int .i64 0, .string ⟨#[]⟩], .int .i64 y]) ∧ Below w.heap.size w w' := by
  obtain ⟨w2, e2, hb2, hs2, B2⟩ := bx1 w #[.int .u8 0, .bool false, .int .i64 0, .string ⟨#[]⟩] 25
  have HB2 : Hid (Below w.heap.size w w2) := hb2
  have HX2 : Hid (Bx w2 w.heap.size #[.int .u8 0, .bool false, .int .i64 0, .string ⟨#[]⟩] 25) := B2
  have d0 := B2.cell 0
  have d1 := B2.cell 1
  have d2 := B2.cell 2
  have d3 := B2.cell 3
  have g0 := B2.free 0
  have g1 := B2.free 1
  have g2 := B2.free 2
  have g3 := B2.free 3
  have l2 := B2.lt
  simp at d0 d1 d2 d3
  clear hb2 B2 hs2
  go_enter Tryz.func18, Tryz.ntmps18
  go_wp2
  obtain ⟨r0, r1, r2, r3⟩ := HX2.out.read4 (.int .u8 0) (.bool false) (.int .i64 0) (.string ⟨#[]⟩)
  refine bodyPost_ret (v := .tuple #[.agg #[.int .u8 0, .bool false, .int .i64 0, .string ⟨#[]⟩], .int .i64 y]) (by simp [results, Tryz.results18, go_sem, r0, r1, r2, r3]) rfl ⟨rfl, bel_put4 HB2.out (Nat.le_refl _)⟩
set_option maxRecDepth 1000000 in
theorem number8_any (n : Int) (w : World) : Calls Tryz.prog 20 #[.int .i64 n] w fun e w' => e = .returned (.tuple #[.agg #[.int .u8 2, .bool false, .int .i64 n, .string ⟨#[]⟩], .int .i64 0]) ∧ Below w.heap.size w w' := by
  obtain ⟨w2, e2, hb2, hs2, B2⟩ := bx1 w #[.int .u8 0, .bool false, .int .i64 0, .string ⟨#[]⟩] 25
  have HB2 : Hid (Below w.heap.size w w2) := hb2
  have HX2 : Hid (Bx w2 w.heap.size #[.int .u8 0, .bool false, .int .i64 0, .string ⟨#[]⟩] 25) := B2
  have d0 := B2.cell 0
  have d1 := B2.cell 1
  have d2 := B2.cell 2
  have d3 := B2.cell 3
  have g0 := B2.free 0
  have g1 := B2.free 1
  have g2 := B2.free 2
  have g3 := B2.free 3
  have l2 := B2.lt
  simp at d0 d1 d2 d3
  clear hb2 B2 hs2
  go_enter Tryz.func20, Tryz.ntmps20
  go_wp2
  obtain ⟨r0, r1, r2, r3⟩ := HX2.out.read4 (.int .u8 2) (.bool false) (.int .i64 n) (.string ⟨#[]⟩)
  refine bodyPost_ret (v := .tuple #[.agg #[.int .u8 2, .bool false, .int .i64 n, .string ⟨#[]⟩], .int .i64 0]) (by simp [results, Tryz.results20, go_sem, r0, r1, r2, r3]) rfl ⟨rfl, bel_put4 HB2.out (Nat.le_refl _)⟩
set_option maxRecDepth 1000000 in
theorem words8_any (t : ByteArray) (w : World) : Calls Tryz.prog 23 #[.string t] w fun e w' => e = .returned (.tuple #[.agg #[.int .u8 3, .bool false, .int .i64 0, .string t], .int .i64 0]) ∧ Below w.heap.size w w' := by
  obtain ⟨w2, e2, hb2, hs2, B2⟩ := bx1 w #[.int .u8 0, .bool false, .int .i64 0, .string ⟨#[]⟩] 25
  have HB2 : Hid (Below w.heap.size w w2) := hb2
  have HX2 : Hid (Bx w2 w.heap.size #[.int .u8 0, .bool false, .int .i64 0, .string ⟨#[]⟩] 25) := B2
  have d0 := B2.cell 0
  have d1 := B2.cell 1
  have d2 := B2.cell 2
  have d3 := B2.cell 3
  have g0 := B2.free 0
  have g1 := B2.free 1
  have g2 := B2.free 2
  have g3 := B2.free 3
  have l2 := B2.lt
  simp at d0 d1 d2 d3
  clear hb2 B2 hs2
  go_enter Tryz.func23, Tryz.ntmps23
  go_wp2
  obtain ⟨r0, r1, r2, r3⟩ := HX2.out.read4 (.int .u8 3) (.bool false) (.int .i64 0) (.string t)
  refine bodyPost_ret (v := .tuple #[.agg #[.int .u8 3, .bool false, .int .i64 0, .string t], .int .i64 0]) (by simp [results, Tryz.results23, go_sem, r0, r1, r2, r3]) rfl ⟨rfl, bel_put4 HB2.out (Nat.le_refl _)⟩

set_option maxRecDepth 1000000 in
set_option maxHeartbeats 8000000 in
/-- Literal of a text of another kind -/
theorem lit_no (k : Int) (j : Int) (z : Bool) (s : ByteArray) (w : World) (hz : z = false ∨ (j == k) = false)
    (HK : Hid (∀ v, Below w.heap.size w v → Calls Tryz.prog 13 #[.string s] v fun e w' => e = .returned (.tuple #[.int .u8 j, .bool z]) ∧ Below v.heap.size v w')) :
    Calls Tryz.prog 6 #[.int .u8 k, .string s] w fun e w' => e = .returned (vlV 0 0 ⟨#[]⟩ 1) ∧ Below w.heap.size w w' := by
  obtain ⟨w2, e2, hb2, hs2, B2⟩ := bx1 w #[.int .u8 0, .bool false, .int .i64 0, .string ⟨#[]⟩] 25
  have HB2 : Hid (Below w.heap.size w w2) := hb2
  have HX2 : Hid (Bx w2 w.heap.size #[.int .u8 0, .bool false, .int .i64 0, .string ⟨#[]⟩] 25) := B2
  clear hb2 B2 hs2
  have HZ : Hid (z = false ∨ (j == k) = false) := hz
  clear hz
  have hjk : z = true → (j == k) = false := fun h => by rcases HZ.out with h2 | h2; (· rw [h] at h2; cases h2); exact h2
  cases z
  all_goals try have hjk := hjk rfl
  all_goals (
    go_enter Tryz.func6, Tryz.ntmps6
    go_wp2_with (go_at_call 13; (with_reducible refine (HK.out _ HB2.out).mono ?_); rintro e w3 ⟨rfl, hb3⟩; have HB3 : Hid (Below w.heap.size w w3) := HB2.out.trans (hb3.mono HB2.out.size); have HX3 : Hid (Bx w3 w.heap.size #[.int .u8 0, .bool false, .int .i64 0, .string ⟨#[]⟩] 25) := HX2.out.below hb3 HX2.out.lt; obtain ⟨d0, d1, d2, d3, g0, g1, g2, g3, l3⟩ := HX3.out.facts4; clear hb3)
    obtain ⟨r0, r1, r2, r3⟩ := HX3.out.read4 (.int .u8 0) (.bool false) (.int .i64 0) (.string ⟨#[]⟩)
    refine bodyPost_ret (v := vlV 0 0 ⟨#[]⟩ 1) (by simp [vlV, results, Tryz.results6, go_sem, r0, r1, r2, r3]) rfl ⟨rfl, bel_put4 HB3.out (Nat.le_refl _)⟩)
-- the walks, case by case (mkli0.py)
set_option maxRecDepth 1000000 in
set_option maxHeartbeats 8000000 in
theorem lit_else (k : Int) (s : ByteArray) (w : World) (h3 : (k == 3) = false) (h4 : (k == 4) = false) (h5 : (k == 5) = false)
    (HK : Hid (∀ v, Below w.heap.size w v → Calls Tryz.prog 13 #[.string s] v fun e w' => e = .returned (.tuple #[.int .u8 k, .bool true]) ∧ Below v.heap.size v w')) :
    Calls Tryz.prog 6 #[.int .u8 k, .string s] w fun e w' => e = .returned (vlV 0 0 ⟨#[]⟩ 1) ∧ Below w.heap.size w w' := by
  obtain ⟨w2, e2, hb2, hs2, B2⟩ := bx1 w #[.int .u8 0, .bool false, .int .i64 0, .string ⟨#[]⟩] 25
  have HB2 : Hid (Below w.heap.size w w2) := hb2
  have HX2 : Hid (Bx w2 w.heap.size #[.int .u8 0, .bool false, .int .i64 0, .string ⟨#[]⟩] 25) := B2
  clear hb2 B2 hs2
  go_enter Tryz.func6, Tryz.ntmps6
  go_wp2_with (go_at_call 13; (with_reducible refine (HK.out _ HB2.out).mono ?_); rintro e w3 ⟨rfl, hb3⟩; have HB3 : Hid (Below w.heap.size w w3) := HB2.out.trans (hb3.mono HB2.out.size); have HX3 : Hid (Bx w3 w.heap.size #[.int .u8 0, .bool false, .int .i64 0, .string ⟨#[]⟩] 25) := HX2.out.below hb3 HX2.out.lt; have hz3 : w.heap.size < w3.heap.size := HX3.out.lt; obtain ⟨v4, e4, hb4, hs4, B4⟩ := bx1 w3 #[.int .u8 0, .bool false, .int .i64 0, .string ⟨#[]⟩] 25; obtain ⟨w4, e5⟩ : ∃ w4, ((((v4.setCell ⟨w3.heap.size, 0, none⟩ (.int .u8 0)).setCell ⟨w3.heap.size, 1, none⟩ (.bool false)).setCell ⟨w3.heap.size, 2, none⟩ (.int .i64 0)).setCell ⟨w3.heap.size, 3, none⟩ (.string ⟨#[]⟩)) = w4 := ⟨_, rfl⟩; have hb5 : Below w3.heap.size w3 w4 := e5 ▸ bel_put4 hb4 (Nat.le_refl _); have HB4 : Hid (Below w.heap.size w w4) := HB3.out.trans (hb5.mono HB3.out.size); have HX4 : Hid (Bx w4 w.heap.size #[.int .u8 0, .bool false, .int .i64 0, .string ⟨#[]⟩] 25) := HX3.out.below hb5 HX3.out.lt; have HY4 : Hid (Bx w4 w3.heap.size #[.int .u8 0, .bool false, .int .i64 0, .string ⟨#[]⟩] 25) := e5 ▸ B4.nowV _ _ _ _; obtain ⟨u0, u1, u2, u3, t0, t1, t2, t3, l2⟩ := B4.facts4; obtain ⟨d0, d1, d2, d3, g0, g1, g2, g3, l3⟩ := HX4.out.facts4; obtain ⟨y0, y1, y2, y3, x0, x1, x2, x3, l4⟩ := HY4.out.facts4; clear hb3 hb4 hb5 B4 hs4)
  obtain ⟨r0, r1, r2, r3⟩ := HX4.out.read4 (.int .u8 0) (.bool false) (.int .i64 0) (.string ⟨#[]⟩)
  refine bodyPost_ret (v := vlV 0 0 ⟨#[]⟩ 1) (by simp [vlV, results, Tryz.results6, go_sem, r0, r1, r2, r3]) rfl ⟨rfl, bel_put4 HB4.out (Nat.le_refl _)⟩
set_option maxRecDepth 1000000 in
set_option maxHeartbeats 8000000 in
theorem lit_num (n : Int) (s : ByteArray) (w : World)
    (HK : Hid (∀ v, Below w.heap.size w v → Calls Tryz.prog 13 #[.string s] v fun e w' => e = .returned (.tuple #[.int .u8 3, .bool true]) ∧ Below v.heap.size v w'))
    (HN : Hid (∀ v, Below w.heap.size w v → Calls Tryz.prog 14 #[.string s] v fun e w' => e = .returned (.tuple #[.int .i64 n, .int .i64 0]) ∧ Below v.heap.size v w')) :
    Calls Tryz.prog 6 #[.int .u8 3, .string s] w fun e w' => e = .returned (vlV 2 n ⟨#[]⟩ 0) ∧ Below w.heap.size w w' := by
  obtain ⟨w2, e2, hb2, hs2, B2⟩ := bx1 w #[.int .u8 0, .bool false, .int .i64 0, .string ⟨#[]⟩] 25
  have HB2 : Hid (Below w.heap.size w w2) := hb2
  have HX2 : Hid (Bx w2 w.heap.size #[.int .u8 0, .bool false, .int .i64 0, .string ⟨#[]⟩] 25) := B2
  clear hb2 B2 hs2
  go_enter Tryz.func6, Tryz.ntmps6
  go_wp2_with (first
    | (go_at_call 13; (with_reducible refine (HK.out _ HB2.out).mono ?_); rintro e w3 ⟨rfl, hb3⟩; have HB3 : Hid (Below w.heap.size w w3) := HB2.out.trans (hb3.mono HB2.out.size); have HX3 : Hid (Bx w3 w.heap.size #[.int .u8 0, .bool false, .int .i64 0, .string ⟨#[]⟩] 25) := HX2.out.below hb3 HX2.out.lt; have hz3 : w.heap.size < w3.heap.size := HX3.out.lt; obtain ⟨v4, e4, hb4, hs4, B4⟩ := bx1 w3 #[.int .u8 0, .bool false, .int .i64 0, .string ⟨#[]⟩] 25; obtain ⟨w4, e5⟩ : ∃ w4, ((((v4.setCell ⟨w3.heap.size, 0, none⟩ (.int .u8 0)).setCell ⟨w3.heap.size, 1, none⟩ (.bool false)).setCell ⟨w3.heap.size, 2, none⟩ (.int .i64 0)).setCell ⟨w3.heap.size, 3, none⟩ (.string ⟨#[]⟩)) = w4 := ⟨_, rfl⟩; have hb5 : Below w3.heap.size w3 w4 := e5 ▸ bel_put4 hb4 (Nat.le_refl _); have HB4 : Hid (Below w.heap.size w w4) := HB3.out.trans (hb5.mono HB3.out.size); have HX4 : Hid (Bx w4 w.heap.size #[.int .u8 0, .bool false, .int .i64 0, .string ⟨#[]⟩] 25) := HX3.out.below hb5 HX3.out.lt; have HY4 : Hid (Bx w4 w3.heap.size #[.int .u8 0, .bool false, .int .i64 0, .string ⟨#[]⟩] 25) := e5 ▸ B4.nowV _ _ _ _; obtain ⟨u0, u1, u2, u3, t0, t1, t2, t3, l2⟩ := B4.facts4; obtain ⟨d0, d1, d2, d3, g0, g1, g2, g3, l3⟩ := HX4.out.facts4; obtain ⟨y0, y1, y2, y3, x0, x1, x2, x3, l4⟩ := HY4.out.facts4; clear hb3 hb4 hb5 B4 hs4)
    | (go_at_call 14; (with_reducible refine (HN.out _ (HB4.out.setCell (p := ⟨w3.heap.size, 0, none⟩) (Nat.le_of_lt hz3) _)).mono ?_); rintro e w5 ⟨rfl, hb5⟩; have HY5 : Hid (Bx w5 w3.heap.size #[.int .u8 2, .bool false, .int .i64 0, .string ⟨#[]⟩] 25) := (HY4.out.set 0 (.int .u8 2)).below hb5 (by simp; omega); have HX5 : Hid (Bx w5 w.heap.size #[.int .u8 0, .bool false, .int .i64 0, .string ⟨#[]⟩] 25) := (HX4.out.other ⟨w3.heap.size, 0, none⟩ (by simp; omega) (.int .u8 2)).below hb5 (by simp; omega); have HB5 : Hid (Below w.heap.size w w5) := (HB4.out.setCell (p := ⟨w3.heap.size, 0, none⟩) (Nat.le_of_lt hz3) (.int .u8 2)).trans (hb5.mono (by simp; omega)); obtain ⟨w6, e6⟩ : ∃ w6, w5.setCell ⟨w3.heap.size, 2, none⟩ (.int .i64 n) = w6 := ⟨_, rfl⟩; have HY6 : Hid (Bx w6 w3.heap.size #[.int .u8 2, .bool false, .int .i64 n, .string ⟨#[]⟩] 25) := e6 ▸ (HY5.out.set 2 (.int .i64 n)); have HX6 : Hid (Bx w6 w.heap.size #[.int .u8 0, .bool false, .int .i64 0, .string ⟨#[]⟩] 25) := e6 ▸ (HX5.out.other ⟨w3.heap.size, 2, none⟩ (by simp; omega) (.int .i64 n)); have HB6 : Hid (Below w.heap.size w w6) := e6 ▸ (HB5.out.setCell (p := ⟨w3.heap.size, 2, none⟩) (Nat.le_of_lt hz3) _); obtain ⟨p0, p1, p2, p3, q0, q1, q2, q3, l5⟩ := HY5.out.facts4; obtain ⟨d0, d1, d2, d3, g0, g1, g2, g3, l3⟩ := HX6.out.facts4; obtain ⟨y0, y1, y2, y3, x0, x1, x2, x3, l4⟩ := HY6.out.facts4; clear hb5))
  obtain ⟨r0, r1, r2, r3⟩ := HX6.out.read4 (.int .u8 2) (.bool false) (.int .i64 n) (.string ⟨#[]⟩)
  refine bodyPost_ret (v := vlV 2 n ⟨#[]⟩ 0) (by simp [vlV, results, Tryz.results6, go_sem, r0, r1, r2, r3]) rfl ⟨rfl, bel_put4 HB6.out (Nat.le_refl _)⟩
set_option maxRecDepth 1000000 in
set_option maxHeartbeats 8000000 in
theorem lit_big (n : Int) (s : ByteArray) (w : World)
    (HK : Hid (∀ v, Below w.heap.size w v → Calls Tryz.prog 13 #[.string s] v fun e w' => e = .returned (.tuple #[.int .u8 3, .bool true]) ∧ Below v.heap.size v w'))
    (HN : Hid (∀ v, Below w.heap.size w v → Calls Tryz.prog 14 #[.string s] v fun e w' => e = .returned (.tuple #[.int .i64 n, .int .i64 80]) ∧ Below v.heap.size v w')) :
    Calls Tryz.prog 6 #[.int .u8 3, .string s] w fun e w' => e = .returned (vlV 0 0 ⟨#[]⟩ 80) ∧ Below w.heap.size w w' := by
  obtain ⟨w2, e2, hb2, hs2, B2⟩ := bx1 w #[.int .u8 0, .bool false, .int .i64 0, .string ⟨#[]⟩] 25
  have HB2 : Hid (Below w.heap.size w w2) := hb2
  have HX2 : Hid (Bx w2 w.heap.size #[.int .u8 0, .bool false, .int .i64 0, .string ⟨#[]⟩] 25) := B2
  clear hb2 B2 hs2
  go_enter Tryz.func6, Tryz.ntmps6
  go_wp2_with (first
    | (go_at_call 13; (with_reducible refine (HK.out _ HB2.out).mono ?_); rintro e w3 ⟨rfl, hb3⟩; have HB3 : Hid (Below w.heap.size w w3) := HB2.out.trans (hb3.mono HB2.out.size); have HX3 : Hid (Bx w3 w.heap.size #[.int .u8 0, .bool false, .int .i64 0, .string ⟨#[]⟩] 25) := HX2.out.below hb3 HX2.out.lt; have hz3 : w.heap.size < w3.heap.size := HX3.out.lt; obtain ⟨v4, e4, hb4, hs4, B4⟩ := bx1 w3 #[.int .u8 0, .bool false, .int .i64 0, .string ⟨#[]⟩] 25; obtain ⟨w4, e5⟩ : ∃ w4, ((((v4.setCell ⟨w3.heap.size, 0, none⟩ (.int .u8 0)).setCell ⟨w3.heap.size, 1, none⟩ (.bool false)).setCell ⟨w3.heap.size, 2, none⟩ (.int .i64 0)).setCell ⟨w3.heap.size, 3, none⟩ (.string ⟨#[]⟩)) = w4 := ⟨_, rfl⟩; have hb5 : Below w3.heap.size w3 w4 := e5 ▸ bel_put4 hb4 (Nat.le_refl _); have HB4 : Hid (Below w.heap.size w w4) := HB3.out.trans (hb5.mono HB3.out.size); have HX4 : Hid (Bx w4 w.heap.size #[.int .u8 0, .bool false, .int .i64 0, .string ⟨#[]⟩] 25) := HX3.out.below hb5 HX3.out.lt; have HY4 : Hid (Bx w4 w3.heap.size #[.int .u8 0, .bool false, .int .i64 0, .string ⟨#[]⟩] 25) := e5 ▸ B4.nowV _ _ _ _; obtain ⟨u0, u1, u2, u3, t0, t1, t2, t3, l2⟩ := B4.facts4; obtain ⟨d0, d1, d2, d3, g0, g1, g2, g3, l3⟩ := HX4.out.facts4; obtain ⟨y0, y1, y2, y3, x0, x1, x2, x3, l4⟩ := HY4.out.facts4; clear hb3 hb4 hb5 B4 hs4)
    | (go_at_call 14; (with_reducible refine (HN.out _ (HB4.out.setCell (p := ⟨w3.heap.size, 0, none⟩) (Nat.le_of_lt hz3) _)).mono ?_); rintro e w5 ⟨rfl, hb5⟩; have HY5 : Hid (Bx w5 w3.heap.size #[.int .u8 2, .bool false, .int .i64 0, .string ⟨#[]⟩] 25) := (HY4.out.set 0 (.int .u8 2)).below hb5 (by simp; omega); have HX5 : Hid (Bx w5 w.heap.size #[.int .u8 0, .bool false, .int .i64 0, .string ⟨#[]⟩] 25) := (HX4.out.other ⟨w3.heap.size, 0, none⟩ (by simp; omega) (.int .u8 2)).below hb5 (by simp; omega); have HB5 : Hid (Below w.heap.size w w5) := (HB4.out.setCell (p := ⟨w3.heap.size, 0, none⟩) (Nat.le_of_lt hz3) (.int .u8 2)).trans (hb5.mono (by simp; omega)); obtain ⟨w6, e6⟩ : ∃ w6, w5.setCell ⟨w3.heap.size, 2, none⟩ (.int .i64 n) = w6 := ⟨_, rfl⟩; have HY6 : Hid (Bx w6 w3.heap.size #[.int .u8 2, .bool false, .int .i64 n, .string ⟨#[]⟩] 25) := e6 ▸ (HY5.out.set 2 (.int .i64 n)); have HX6 : Hid (Bx w6 w.heap.size #[.int .u8 0, .bool false, .int .i64 0, .string ⟨#[]⟩] 25) := e6 ▸ (HX5.out.other ⟨w3.heap.size, 2, none⟩ (by simp; omega) (.int .i64 n)); have HB6 : Hid (Below w.heap.size w w6) := e6 ▸ (HB5.out.setCell (p := ⟨w3.heap.size, 2, none⟩) (Nat.le_of_lt hz3) _); obtain ⟨p0, p1, p2, p3, q0, q1, q2, q3, l5⟩ := HY5.out.facts4; obtain ⟨d0, d1, d2, d3, g0, g1, g2, g3, l3⟩ := HX6.out.facts4; obtain ⟨y0, y1, y2, y3, x0, x1, x2, x3, l4⟩ := HY6.out.facts4; clear hb5))
  obtain ⟨r0, r1, r2, r3⟩ := HX6.out.read4 (.int .u8 0) (.bool false) (.int .i64 0) (.string ⟨#[]⟩)
  refine bodyPost_ret (v := vlV 0 0 ⟨#[]⟩ 80) (by simp [vlV, results, Tryz.results6, go_sem, r0, r1, r2, r3]) rfl ⟨rfl, bel_put4 HB6.out (Nat.le_refl _)⟩
set_option maxRecDepth 1000000 in
set_option maxHeartbeats 8000000 in
theorem lit_chr (n : Int) (s : ByteArray) (w : World)
    (HK : Hid (∀ v, Below w.heap.size w v → Calls Tryz.prog 13 #[.string s] v fun e w' => e = .returned (.tuple #[.int .u8 4, .bool true]) ∧ Below v.heap.size v w'))
    (HN : Hid (∀ v, Below w.heap.size w v → Calls Tryz.prog 15 #[.string s] v fun e w' => e = .returned (.tuple #[.int .i64 n, .int .i64 0]) ∧ Below v.heap.size v w')) :
    Calls Tryz.prog 6 #[.int .u8 4, .string s] w fun e w' => e = .returned (vlV 2 n ⟨#[]⟩ 0) ∧ Below w.heap.size w w' := by
  obtain ⟨w2, e2, hb2, hs2, B2⟩ := bx1 w #[.int .u8 0, .bool false, .int .i64 0, .string ⟨#[]⟩] 25
  have HB2 : Hid (Below w.heap.size w w2) := hb2
  have HX2 : Hid (Bx w2 w.heap.size #[.int .u8 0, .bool false, .int .i64 0, .string ⟨#[]⟩] 25) := B2
  clear hb2 B2 hs2
  go_enter Tryz.func6, Tryz.ntmps6
  go_wp2_with (first
    | (go_at_call 13; (with_reducible refine (HK.out _ HB2.out).mono ?_); rintro e w3 ⟨rfl, hb3⟩; have HB3 : Hid (Below w.heap.size w w3) := HB2.out.trans (hb3.mono HB2.out.size); have HX3 : Hid (Bx w3 w.heap.size #[.int .u8 0, .bool false, .int .i64 0, .string ⟨#[]⟩] 25) := HX2.out.below hb3 HX2.out.lt; have hz3 : w.heap.size < w3.heap.size := HX3.out.lt; obtain ⟨v4, e4, hb4, hs4, B4⟩ := bx1 w3 #[.int .u8 0, .bool false, .int .i64 0, .string ⟨#[]⟩] 25; obtain ⟨w4, e5⟩ : ∃ w4, ((((v4.setCell ⟨w3.heap.size, 0, none⟩ (.int .u8 0)).setCell ⟨w3.heap.size, 1, none⟩ (.bool false)).setCell ⟨w3.heap.size, 2, none⟩ (.int .i64 0)).setCell ⟨w3.heap.size, 3, none⟩ (.string ⟨#[]⟩)) = w4 := ⟨_, rfl⟩; have hb5 : Below w3.heap.size w3 w4 := e5 ▸ bel_put4 hb4 (Nat.le_refl _); have HB4 : Hid (Below w.heap.size w w4) := HB3.out.trans (hb5.mono HB3.out.size); have HX4 : Hid (Bx w4 w.heap.size #[.int .u8 0, .bool false, .int .i64 0, .string ⟨#[]⟩] 25) := HX3.out.below hb5 HX3.out.lt; have HY4 : Hid (Bx w4 w3.heap.size #[.int .u8 0, .bool false, .int .i64 0, .string ⟨#[]⟩] 25) := e5 ▸ B4.nowV _ _ _ _; obtain ⟨u0, u1, u2, u3, t0, t1, t2, t3, l2⟩ := B4.facts4; obtain ⟨d0, d1, d2, d3, g0, g1, g2, g3, l3⟩ := HX4.out.facts4; obtain ⟨y0, y1, y2, y3, x0, x1, x2, x3, l4⟩ := HY4.out.facts4; clear hb3 hb4 hb5 B4 hs4)
    | (go_at_call 15; (with_reducible refine (HN.out _ (HB4.out.setCell (p := ⟨w3.heap.size, 0, none⟩) (Nat.le_of_lt hz3) _)).mono ?_); rintro e w5 ⟨rfl, hb5⟩; have HY5 : Hid (Bx w5 w3.heap.size #[.int .u8 2, .bool false, .int .i64 0, .string ⟨#[]⟩] 25) := (HY4.out.set 0 (.int .u8 2)).below hb5 (by simp; omega); have HX5 : Hid (Bx w5 w.heap.size #[.int .u8 0, .bool false, .int .i64 0, .string ⟨#[]⟩] 25) := (HX4.out.other ⟨w3.heap.size, 0, none⟩ (by simp; omega) (.int .u8 2)).below hb5 (by simp; omega); have HB5 : Hid (Below w.heap.size w w5) := (HB4.out.setCell (p := ⟨w3.heap.size, 0, none⟩) (Nat.le_of_lt hz3) (.int .u8 2)).trans (hb5.mono (by simp; omega)); obtain ⟨w6, e6⟩ : ∃ w6, w5.setCell ⟨w3.heap.size, 2, none⟩ (.int .i64 n) = w6 := ⟨_, rfl⟩; have HY6 : Hid (Bx w6 w3.heap.size #[.int .u8 2, .bool false, .int .i64 n, .string ⟨#[]⟩] 25) := e6 ▸ (HY5.out.set 2 (.int .i64 n)); have HX6 : Hid (Bx w6 w.heap.size #[.int .u8 0, .bool false, .int .i64 0, .string ⟨#[]⟩] 25) := e6 ▸ (HX5.out.other ⟨w3.heap.size, 2, none⟩ (by simp; omega) (.int .i64 n)); have HB6 : Hid (Below w.heap.size w w6) := e6 ▸ (HB5.out.setCell (p := ⟨w3.heap.size, 2, none⟩) (Nat.le_of_lt hz3) _); obtain ⟨p0, p1, p2, p3, q0, q1, q2, q3, l5⟩ := HY5.out.facts4; obtain ⟨d0, d1, d2, d3, g0, g1, g2, g3, l3⟩ := HX6.out.facts4; obtain ⟨y0, y1, y2, y3, x0, x1, x2, x3, l4⟩ := HY6.out.facts4; clear hb5))
  obtain ⟨r0, r1, r2, r3⟩ := HX6.out.read4 (.int .u8 2) (.bool false) (.int .i64 n) (.string ⟨#[]⟩)
  refine bodyPost_ret (v := vlV 2 n ⟨#[]⟩ 0) (by simp [vlV, results, Tryz.results6, go_sem, r0, r1, r2, r3]) rfl ⟨rfl, bel_put4 HB6.out (Nat.le_refl _)⟩
set_option maxRecDepth 1000000 in
set_option maxHeartbeats 8000000 in
theorem lit_txt (t : ByteArray) (s : ByteArray) (w : World)
    (HK : Hid (∀ v, Below w.heap.size w v → Calls Tryz.prog 13 #[.string s] v fun e w' => e = .returned (.tuple #[.int .u8 5, .bool true]) ∧ Below v.heap.size v w'))
    (HN : Hid (∀ v, Below w.heap.size w v → Calls Tryz.prog 16 #[.string s] v fun e w' => e = .returned (.tuple #[.string t, .int .i64 0]) ∧ Below v.heap.size v w')) :
    Calls Tryz.prog 6 #[.int .u8 5, .string s] w fun e w' => e = .returned (vlV 3 0 t 0) ∧ Below w.heap.size w w' := by
  obtain ⟨w2, e2, hb2, hs2, B2⟩ := bx1 w #[.int .u8 0, .bool false, .int .i64 0, .string ⟨#[]⟩] 25
  have HB2 : Hid (Below w.heap.size w w2) := hb2
  have HX2 : Hid (Bx w2 w.heap.size #[.int .u8 0, .bool false, .int .i64 0, .string ⟨#[]⟩] 25) := B2
  clear hb2 B2 hs2
  go_enter Tryz.func6, Tryz.ntmps6
  go_wp2_with (first
    | (go_at_call 13; (with_reducible refine (HK.out _ HB2.out).mono ?_); rintro e w3 ⟨rfl, hb3⟩; have HB3 : Hid (Below w.heap.size w w3) := HB2.out.trans (hb3.mono HB2.out.size); have HX3 : Hid (Bx w3 w.heap.size #[.int .u8 0, .bool false, .int .i64 0, .string ⟨#[]⟩] 25) := HX2.out.below hb3 HX2.out.lt; have hz3 : w.heap.size < w3.heap.size := HX3.out.lt; obtain ⟨v4, e4, hb4, hs4, B4⟩ := bx1 w3 #[.int .u8 0, .bool false, .int .i64 0, .string ⟨#[]⟩] 25; obtain ⟨w4, e5⟩ : ∃ w4, ((((v4.setCell ⟨w3.heap.size, 0, none⟩ (.int .u8 0)).setCell ⟨w3.heap.size, 1, none⟩ (.bool false)).setCell ⟨w3.heap.size, 2, none⟩ (.int .i64 0)).setCell ⟨w3.heap.size, 3, none⟩ (.string ⟨#[]⟩)) = w4 := ⟨_, rfl⟩; have hb5 : Below w3.heap.size w3 w4 := e5 ▸ bel_put4 hb4 (Nat.le_refl _); have HB4 : Hid (Below w.heap.size w w4) := HB3.out.trans (hb5.mono HB3.out.size); have HX4 : Hid (Bx w4 w.heap.size #[.int .u8 0, .bool false, .int .i64 0, .string ⟨#[]⟩] 25) := HX3.out.below hb5 HX3.out.lt; have HY4 : Hid (Bx w4 w3.heap.size #[.int .u8 0, .bool false, .int .i64 0, .string ⟨#[]⟩] 25) := e5 ▸ B4.nowV _ _ _ _; obtain ⟨u0, u1, u2, u3, t0, t1, t2, t3, l2⟩ := B4.facts4; obtain ⟨d0, d1, d2, d3, g0, g1, g2, g3, l3⟩ := HX4.out.facts4; obtain ⟨y0, y1, y2, y3, x0, x1, x2, x3, l4⟩ := HY4.out.facts4; clear hb3 hb4 hb5 B4 hs4)
    | (go_at_call 16; (with_reducible refine (HN.out _ (HB4.out.setCell (p := ⟨w3.heap.size, 0, none⟩) (Nat.le_of_lt hz3) _)).mono ?_); rintro e w5 ⟨rfl, hb5⟩; have HY5 : Hid (Bx w5 w3.heap.size #[.int .u8 3, .bool false, .int .i64 0, .string ⟨#[]⟩] 25) := (HY4.out.set 0 (.int .u8 3)).below hb5 (by simp; omega); have HX5 : Hid (Bx w5 w.heap.size #[.int .u8 0, .bool false, .int .i64 0, .string ⟨#[]⟩] 25) := (HX4.out.other ⟨w3.heap.size, 0, none⟩ (by simp; omega) (.int .u8 3)).below hb5 (by simp; omega); have HB5 : Hid (Below w.heap.size w w5) := (HB4.out.setCell (p := ⟨w3.heap.size, 0, none⟩) (Nat.le_of_lt hz3) (.int .u8 3)).trans (hb5.mono (by simp; omega)); obtain ⟨w6, e6⟩ : ∃ w6, w5.setCell ⟨w3.heap.size, 3, none⟩ (.string t) = w6 := ⟨_, rfl⟩; have HY6 : Hid (Bx w6 w3.heap.size #[.int .u8 3, .bool false, .int .i64 0, .string t] 25) := e6 ▸ (HY5.out.set 3 (.string t)); have HX6 : Hid (Bx w6 w.heap.size #[.int .u8 0, .bool false, .int .i64 0, .string ⟨#[]⟩] 25) := e6 ▸ (HX5.out.other ⟨w3.heap.size, 3, none⟩ (by simp; omega) (.string t)); have HB6 : Hid (Below w.heap.size w w6) := e6 ▸ (HB5.out.setCell (p := ⟨w3.heap.size, 3, none⟩) (Nat.le_of_lt hz3) _); obtain ⟨p0, p1, p2, p3, q0, q1, q2, q3, l5⟩ := HY5.out.facts4; obtain ⟨d0, d1, d2, d3, g0, g1, g2, g3, l3⟩ := HX6.out.facts4; obtain ⟨y0, y1, y2, y3, x0, x1, x2, x3, l4⟩ := HY6.out.facts4; clear hb5))
  obtain ⟨r0, r1, r2, r3⟩ := HX6.out.read4 (.int .u8 3) (.bool false) (.int .i64 0) (.string t)
  refine bodyPost_ret (v := vlV 3 0 t 0) (by simp [vlV, results, Tryz.results6, go_sem, r0, r1, r2, r3]) rfl ⟨rfl, bel_put4 HB6.out (Nat.le_refl _)⟩
set_option maxRecDepth 1000000 in
set_option maxHeartbeats 8000000 in
theorem rlit_no (k : Int) (j : Int) (z : Bool) (s : ByteArray) (w : World) (hk0 : 0 ≤ k) (hk1 : k ≤ 255) (hz : z = false ∨ (j == k) = false)
    (HK : Hid (∀ v, Below w.heap.size w v → Calls Tryz.prog 17 #[.string s] v fun e w' => e = .returned (.tuple #[.int .i64 j, .bool z]) ∧ Below v.heap.size v w')) :
    Calls Tryz.prog 7 #[.int .u8 k, .string s] w fun e w' => e = .returned (vlV 0 0 ⟨#[]⟩ 1) ∧ Below w.heap.size w w' := by
  obtain ⟨w2, e2, hb2, hs2, B2⟩ := bx1 w #[.int .u8 0, .bool false, .int .i64 0, .string ⟨#[]⟩] 25
  have HB2 : Hid (Below w.heap.size w w2) := hb2
  have HX2 : Hid (Bx w2 w.heap.size #[.int .u8 0, .bool false, .int .i64 0, .string ⟨#[]⟩] 25) := B2
  clear hb2 B2 hs2
  have HZ : Hid (z = false ∨ (j == k) = false) := hz
  clear hz
  have hjk : z = true → (j == k) = false := fun h => by rcases HZ.out with h2 | h2; (· rw [h] at h2; cases h2); exact h2
  cases z
  all_goals try have hjk := hjk rfl
  all_goals (
    go_enter Tryz.func7, Tryz.ntmps7
    go_wp2_with (first
      | (go_at_call 17; (with_reducible refine (HK.out _ HB2.out).mono ?_); rintro e w3 ⟨rfl, hb3⟩; have HB3 : Hid (Below w.heap.size w w3) := HB2.out.trans (hb3.mono HB2.out.size); have HX3 : Hid (Bx w3 w.heap.size #[.int .u8 0, .bool false, .int .i64 0, .string ⟨#[]⟩] 25) := HX2.out.below hb3 HX2.out.lt; clear hb3)
      | (go_at_call 18; (with_reducible refine (wrong_any 1 _).mono ?_); rintro e w4 ⟨rfl, hb4⟩; have HBe : Hid (Below w.heap.size w w4) := HB3.out.trans (hb4.mono HB3.out.size); have HXe : Hid (Bx w4 w.heap.size #[.int .u8 0, .bool false, .int .i64 0, .string ⟨#[]⟩] 25) := HX3.out.below hb4 HX3.out.lt; obtain ⟨d0, d1, d2, d3, g0, g1, g2, g3, l3⟩ := HXe.out.facts4; clear hb4))
    obtain ⟨r0, r1, r2, r3⟩ := HXe.out.read4 (.int .u8 0) (.bool false) (.int .i64 0) (.string ⟨#[]⟩)
    refine bodyPost_ret (v := vlV 0 0 ⟨#[]⟩ 1) (by simp [vlV, results, Tryz.results7, go_sem, r0, r1, r2, r3]) rfl ⟨rfl, bel_put4 HBe.out (Nat.le_refl _)⟩)
set_option maxRecDepth 1000000 in
set_option maxHeartbeats 8000000 in
theorem rlit_else (k : Int) (s : ByteArray) (w : World) (hk0 : 0 ≤ k) (hk1 : k ≤ 255) (h3 : (k == 3) = false) (h4 : (k == 4) = false) (h5 : (k == 5) = false)
    (HK : Hid (∀ v, Below w.heap.size w v → Calls Tryz.prog 17 #[.string s] v fun e w' => e = .returned (.tuple #[.int .i64 k, .bool true]) ∧ Below v.heap.size v w')) :
    Calls Tryz.prog 7 #[.int .u8 k, .string s] w fun e w' => e = .returned (vlV 0 0 ⟨#[]⟩ 1) ∧ Below w.heap.size w w' := by
  obtain ⟨w2, e2, hb2, hs2, B2⟩ := bx1 w #[.int .u8 0, .bool false, .int .i64 0, .string ⟨#[]⟩] 25
  have HB2 : Hid (Below w.heap.size w w2) := hb2
  have HX2 : Hid (Bx w2 w.heap.size #[.int .u8 0, .bool false, .int .i64 0, .string ⟨#[]⟩] 25) := B2
  clear hb2 B2 hs2
  go_enter Tryz.func7, Tryz.ntmps7
  go_wp2_with (first
    | (go_at_call 17; (with_reducible refine (HK.out _ HB2.out).mono ?_); rintro e w3 ⟨rfl, hb3⟩; have HB3 : Hid (Below w.heap.size w w3) := HB2.out.trans (hb3.mono HB2.out.size); have HX3 : Hid (Bx w3 w.heap.size #[.int .u8 0, .bool false, .int .i64 0, .string ⟨#[]⟩] 25) := HX2.out.below hb3 HX2.out.lt; clear hb3)
    | (go_at_call 18; (with_reducible refine (wrong_any 1 _).mono ?_); rintro e w4 ⟨rfl, hb4⟩; have HBe : Hid (Below w.heap.size w w4) := HB3.out.trans (hb4.mono HB3.out.size); have HXe : Hid (Bx w4 w.heap.size #[.int .u8 0, .bool false, .int .i64 0, .string ⟨#[]⟩] 25) := HX3.out.below hb4 HX3.out.lt; obtain ⟨d0, d1, d2, d3, g0, g1, g2, g3, l3⟩ := HXe.out.facts4; clear hb4))
  obtain ⟨r0, r1, r2, r3⟩ := HXe.out.read4 (.int .u8 0) (.bool false) (.int .i64 0) (.string ⟨#[]⟩)
  refine bodyPost_ret (v := vlV 0 0 ⟨#[]⟩ 1) (by simp [vlV, results, Tryz.results7, go_sem, r0, r1, r2, r3]) rfl ⟨rfl, bel_put4 HBe.out (Nat.le_refl _)⟩
set_option maxRecDepth 1000000 in
set_option maxHeartbeats 8000000 in
theorem rlit_num (n : Int) (s : ByteArray) (w : World)
    (HK : Hid (∀ v, Below w.heap.size w v → Calls Tryz.prog 17 #[.string s] v fun e w' => e = .returned (.tuple #[.int .i64 3, .bool true]) ∧ Below v.heap.size v w'))
    (HN : Hid (∀ v, Below w.heap.size w v → Calls Tryz.prog 19 #[.string s] v fun e w' => e = .returned (.tuple #[.int .i64 n, .int .i64 0]) ∧ Below v.heap.size v w')) :
    Calls Tryz.prog 7 #[.int .u8 3, .string s] w fun e w' => e = .returned (vlV 2 n ⟨#[]⟩ 0) ∧ Below w.heap.size w w' := by
  obtain ⟨w2, e2, hb2, hs2, B2⟩ := bx1 w #[.int .u8 0, .bool false, .int .i64 0, .string ⟨#[]⟩] 25
  have HB2 : Hid (Below w.heap.size w w2) := hb2
  have HX2 : Hid (Bx w2 w.heap.size #[.int .u8 0, .bool false, .int .i64 0, .string ⟨#[]⟩] 25) := B2
  clear hb2 B2 hs2
  go_enter Tryz.func7, Tryz.ntmps7
  go_wp2_with (first
    | (go_at_call 17; (with_reducible refine (HK.out _ HB2.out).mono ?_); rintro e w3 ⟨rfl, hb3⟩; have HB3 : Hid (Below w.heap.size w w3) := HB2.out.trans (hb3.mono HB2.out.size); have HX3 : Hid (Bx w3 w.heap.size #[.int .u8 0, .bool false, .int .i64 0, .string ⟨#[]⟩] 25) := HX2.out.below hb3 HX2.out.lt; clear hb3)
    | (go_at_call 19; (with_reducible refine (HN.out _ HB3.out).mono ?_); rintro e w4 ⟨rfl, hb4⟩; have HB4 : Hid (Below w.heap.size w w4) := HB3.out.trans (hb4.mono HB3.out.size); have HX4 : Hid (Bx w4 w.heap.size #[.int .u8 0, .bool false, .int .i64 0, .string ⟨#[]⟩] 25) := HX3.out.below hb4 HX3.out.lt; clear hb4)
    | (go_at_call 20; (with_reducible refine (number8_any n _).mono ?_); rintro e w5 ⟨rfl, hb5⟩; have HBe : Hid (Below w.heap.size w w5) := HB4.out.trans (hb5.mono HB4.out.size); have HXe : Hid (Bx w5 w.heap.size #[.int .u8 0, .bool false, .int .i64 0, .string ⟨#[]⟩] 25) := HX4.out.below hb5 HX4.out.lt; obtain ⟨d0, d1, d2, d3, g0, g1, g2, g3, l3⟩ := HXe.out.facts4; clear hb5))
  obtain ⟨r0, r1, r2, r3⟩ := HXe.out.read4 (.int .u8 2) (.bool false) (.int .i64 n) (.string ⟨#[]⟩)
  refine bodyPost_ret (v := vlV 2 n ⟨#[]⟩ 0) (by simp [vlV, results, Tryz.results7, go_sem, r0, r1, r2, r3]) rfl ⟨rfl, bel_put4 HBe.out (Nat.le_refl _)⟩
set_option maxRecDepth 1000000 in
set_option maxHeartbeats 8000000 in
theorem rlit_big (n : Int) (s : ByteArray) (w : World)
    (HK : Hid (∀ v, Below w.heap.size w v → Calls Tryz.prog 17 #[.string s] v fun e w' => e = .returned (.tuple #[.int .i64 3, .bool true]) ∧ Below v.heap.size v w'))
    (HN : Hid (∀ v, Below w.heap.size w v → Calls Tryz.prog 19 #[.string s] v fun e w' => e = .returned (.tuple #[.int .i64 n, .int .i64 80]) ∧ Below v.heap.size v w')) :
    Calls Tryz.prog 7 #[.int .u8 3, .string s] w fun e w' => e = .returned (vlV 0 0 ⟨#[]⟩ 80) ∧ Below w.heap.size w w' := by
  obtain ⟨w2, e2, hb2, hs2, B2⟩ := bx1 w #[.int .u8 0, .bool false, .int .i64 0, .string ⟨#[]⟩] 25
  have HB2 : Hid (Below w.heap.size w w2) := hb2
  have HX2 : Hid (Bx w2 w.heap.size #[.int .u8 0, .bool false, .int .i64 0, .string ⟨#[]⟩] 25) := B2
  clear hb2 B2 hs2
  go_enter Tryz.func7, Tryz.ntmps7
  go_wp2_with (first
    | (go_at_call 17; (with_reducible refine (HK.out _ HB2.out).mono ?_); rintro e w3 ⟨rfl, hb3⟩; have HB3 : Hid (Below w.heap.size w w3) := HB2.out.trans (hb3.mono HB2.out.size); have HX3 : Hid (Bx w3 w.heap.size #[.int .u8 0, .bool false, .int .i64 0, .string ⟨#[]⟩] 25) := HX2.out.below hb3 HX2.out.lt; clear hb3)
    | (go_at_call 19; (with_reducible refine (HN.out _ HB3.out).mono ?_); rintro e w4 ⟨rfl, hb4⟩; have HB4 : Hid (Below w.heap.size w w4) := HB3.out.trans (hb4.mono HB3.out.size); have HX4 : Hid (Bx w4 w.heap.size #[.int .u8 0, .bool false, .int .i64 0, .string ⟨#[]⟩] 25) := HX3.out.below hb4 HX3.out.lt; clear hb4)
    | (go_at_call 18; (with_reducible refine (wrong_any 80 _).mono ?_); rintro e w5 ⟨rfl, hb5⟩; have HBe : Hid (Below w.heap.size w w5) := HB4.out.trans (hb5.mono HB4.out.size); have HXe : Hid (Bx w5 w.heap.size #[.int .u8 0, .bool false, .int .i64 0, .string ⟨#[]⟩] 25) := HX4.out.below hb5 HX4.out.lt; obtain ⟨d0, d1, d2, d3, g0, g1, g2, g3, l3⟩ := HXe.out.facts4; clear hb5))
  obtain ⟨r0, r1, r2, r3⟩ := HXe.out.read4 (.int .u8 0) (.bool false) (.int .i64 0) (.string ⟨#[]⟩)
  refine bodyPost_ret (v := vlV 0 0 ⟨#[]⟩ 80) (by simp [vlV, results, Tryz.results7, go_sem, r0, r1, r2, r3]) rfl ⟨rfl, bel_put4 HBe.out (Nat.le_refl _)⟩
set_option maxRecDepth 1000000 in
set_option maxHeartbeats 8000000 in
theorem rlit_chr (n : Int) (s : ByteArray) (w : World)
    (HK : Hid (∀ v, Below w.heap.size w v → Calls Tryz.prog 17 #[.string s] v fun e w' => e = .returned (.tuple #[.int .i64 4, .bool true]) ∧ Below v.heap.size v w'))
    (HN : Hid (∀ v, Below w.heap.size w v → Calls Tryz.prog 21 #[.string s] v fun e w' => e = .returned (.tuple #[.int .i64 n, .int .i64 0]) ∧ Below v.heap.size v w')) :
    Calls Tryz.prog 7 #[.int .u8 4, .string s] w fun e w' => e = .returned (vlV 2 n ⟨#[]⟩ 0) ∧ Below w.heap.size w w' := by
  obtain ⟨w2, e2, hb2, hs2, B2⟩ := bx1 w #[.int .u8 0, .bool false, .int .i64 0, .string ⟨#[]⟩] 25
  have HB2 : Hid (Below w.heap.size w w2) := hb2
  have HX2 : Hid (Bx w2 w.heap.size #[.int .u8 0, .bool false, .int .i64 0, .string ⟨#[]⟩] 25) := B2
  clear hb2 B2 hs2
  go_enter Tryz.func7, Tryz.ntmps7
  go_wp2_with (first
    | (go_at_call 17; (with_reducible refine (HK.out _ HB2.out).mono ?_); rintro e w3 ⟨rfl, hb3⟩; have HB3 : Hid (Below w.heap.size w w3) := HB2.out.trans (hb3.mono HB2.out.size); have HX3 : Hid (Bx w3 w.heap.size #[.int .u8 0, .bool false, .int .i64 0, .string ⟨#[]⟩] 25) := HX2.out.below hb3 HX2.out.lt; clear hb3)
    | (go_at_call 21; (with_reducible refine (HN.out _ HB3.out).mono ?_); rintro e w4 ⟨rfl, hb4⟩; have HB4 : Hid (Below w.heap.size w w4) := HB3.out.trans (hb4.mono HB3.out.size); have HX4 : Hid (Bx w4 w.heap.size #[.int .u8 0, .bool false, .int .i64 0, .string ⟨#[]⟩] 25) := HX3.out.below hb4 HX3.out.lt; clear hb4)
    | (go_at_call 20; (with_reducible refine (number8_any n _).mono ?_); rintro e w5 ⟨rfl, hb5⟩; have HBe : Hid (Below w.heap.size w w5) := HB4.out.trans (hb5.mono HB4.out.size); have HXe : Hid (Bx w5 w.heap.size #[.int .u8 0, .bool false, .int .i64 0, .string ⟨#[]⟩] 25) := HX4.out.below hb5 HX4.out.lt; obtain ⟨d0, d1, d2, d3, g0, g1, g2, g3, l3⟩ := HXe.out.facts4; clear hb5))
  obtain ⟨r0, r1, r2, r3⟩ := HXe.out.read4 (.int .u8 2) (.bool false) (.int .i64 n) (.string ⟨#[]⟩)
  refine bodyPost_ret (v := vlV 2 n ⟨#[]⟩ 0) (by simp [vlV, results, Tryz.results7, go_sem, r0, r1, r2, r3]) rfl ⟨rfl, bel_put4 HBe.out (Nat.le_refl _)⟩
set_option maxRecDepth 1000000 in
set_option maxHeartbeats 8000000 in
theorem rlit_txt (t : ByteArray) (s : ByteArray) (w : World)
    (HK : Hid (∀ v, Below w.heap.size w v → Calls Tryz.prog 17 #[.string s] v fun e w' => e = .returned (.tuple #[.int .i64 5, .bool true]) ∧ Below v.heap.size v w'))
    (HN : Hid (∀ v, Below w.heap.size w v → Calls Tryz.prog 22 #[.string s] v fun e w' => e = .returned (.tuple #[.string t, .int .i64 0]) ∧ Below v.heap.size v w')) :
    Calls Tryz.prog 7 #[.int .u8 5, .string s] w fun e w' => e = .returned (vlV 3 0 t 0) ∧ Below w.heap.size w w' := by
  obtain ⟨w2, e2, hb2, hs2, B2⟩ := bx1 w #[.int .u8 0, .bool false, .int .i64 0, .string ⟨#[]⟩] 25
  have HB2 : Hid (Below w.heap.size w w2) := hb2
  have HX2 : Hid (Bx w2 w.heap.size #[.int .u8 0, .bool false, .int .i64 0, .string ⟨#[]⟩] 25) := B2
  clear hb2 B2 hs2
  go_enter Tryz.func7, Tryz.ntmps7
  go_wp2_with (first
    | (go_at_call 17; (with_reducible refine (HK.out _ HB2.out).mono ?_); rintro e w3 ⟨rfl, hb3⟩; have HB3 : Hid (Below w.heap.size w w3) := HB2.out.trans (hb3.mono HB2.out.size); have HX3 : Hid (Bx w3 w.heap.size #[.int .u8 0, .bool false, .int .i64 0, .string ⟨#[]⟩] 25) := HX2.out.below hb3 HX2.out.lt; clear hb3)
    | (go_at_call 22; (with_reducible refine (HN.out _ HB3.out).mono ?_); rintro e w4 ⟨rfl, hb4⟩; have HB4 : Hid (Below w.heap.size w w4) := HB3.out.trans (hb4.mono HB3.out.size); have HX4 : Hid (Bx w4 w.heap.size #[.int .u8 0, .bool false, .int .i64 0, .string ⟨#[]⟩] 25) := HX3.out.below hb4 HX3.out.lt; clear hb4)
    | (go_at_call 23; (with_reducible refine (words8_any t _).mono ?_); rintro e w5 ⟨rfl, hb5⟩; have HBe : Hid (Below w.heap.size w w5) := HB4.out.trans (hb5.mono HB4.out.size); have HXe : Hid (Bx w5 w.heap.size #[.int .u8 0, .bool false, .int .i64 0, .string ⟨#[]⟩] 25) := HX4.out.below hb5 HX4.out.lt; obtain ⟨d0, d1, d2, d3, g0, g1, g2, g3, l3⟩ := HXe.out.facts4; clear hb5))
  obtain ⟨r0, r1, r2, r3⟩ := HXe.out.read4 (.int .u8 3) (.bool false) (.int .i64 0) (.string t)
  refine bodyPost_ret (v := vlV 3 0 t 0) (by simp [vlV, results, Tryz.results7, go_sem, r0, r1, r2, r3]) rfl ⟨rfl, bel_put4 HBe.out (Nat.le_refl _)⟩
end Go.Proofs.YtnaipmgdipflgaaGreatDoor
