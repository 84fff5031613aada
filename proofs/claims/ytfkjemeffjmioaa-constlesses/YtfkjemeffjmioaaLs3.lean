import Derived.Test.YtfkjemeffjmioaaLs2
namespace Go.Proofs.Ytfkjemeffjmioaa
open Go.ChangeShapes Go.WideShapes Go.ChangeAt Go.RowKit
set_option linter.unusedVariables false

def lsV (x y : Vl) (c : Int) : Bool := rgt x && (rgt y && (x.k == y.k && decide (c < 0)))

set_option maxRecDepth 1000000 in
set_option maxHeartbeats 8000000 in
theorem less_any (x y : Vl) (w : World) :
    Calls Try.prog 7 #[x.v, y.v] w fun e w' => e = .returned (.bool (lsV x y (cmpV x y))) ∧ Below w.heap.size w w' := by
  obtain ⟨w2, e2, hw, hs2, B0, B1⟩ := bx2 w #[.int .u8 x.k, .bool x.b, .int .i64 x.i, .string x.s] #[.int .u8 y.k, .bool y.b, .int .i64 y.i, .string y.s] 26 26
  have HB0 : Hid (Below w.heap.size w w2) := hw
  have HE2 : Hid ((w.alloc (.cells #[.int .u8 x.k, .bool x.b, .int .i64 x.i, .string x.s] 26)).alloc (.cells #[.int .u8 y.k, .bool y.b, .int .i64 y.i, .string y.s] 26) = w2) := e2
  have n0 := B0.lt
  have n1 := B1.lt
  have HX : Hid (∀ v, Below w2.heap.size w2 v → v.cell? ⟨w.heap.size, 0, none⟩ = some (.int .u8 x.k) ∧ v.cell? ⟨w.heap.size, 1, none⟩ = some (.bool x.b) ∧ v.cell? ⟨w.heap.size, 2, none⟩ = some (.int .i64 x.i) ∧ v.cell? ⟨w.heap.size, 3, none⟩ = some (.string x.s) ∧
      v.cell? ⟨w.heap.size + 1, 0, none⟩ = some (.int .u8 y.k) ∧ v.cell? ⟨w.heap.size + 1, 1, none⟩ = some (.bool y.b) ∧ v.cell? ⟨w.heap.size + 1, 2, none⟩ = some (.int .i64 y.i) ∧ v.cell? ⟨w.heap.size + 1, 3, none⟩ = some (.string y.s)) :=
    fun v h => ⟨(B0.below h n0).cell 0, (B0.below h n0).cell 1, (B0.below h n0).cell 2, (B0.below h n0).cell 3, (B1.below h n1).cell 0, (B1.below h n1).cell 1, (B1.below h n1).cell 2, (B1.below h n1).cell 3⟩
  obtain ⟨x0, x1, x2, x3, y0, y1, y2, y3⟩ := HX.out w2 (Below.refl _ _)
  clear e2 hw hs2 B0 B1
  obtain ⟨p, hp⟩ : ∃ p, rgt x = p := ⟨_, rfl⟩
  obtain ⟨q, hq⟩ : ∃ q, rgt y = q := ⟨_, rfl⟩
  obtain ⟨c, hc⟩ : ∃ c, cmpV x y = c := ⟨_, rfl⟩
  have HP : Hid (rgt x = p) := hp
  have HQ : Hid (rgt y = q) := hq
  have HC : Hid (cmpV x y = c) := hc
  have HL : Hid (lsV x y (cmpV x y) = (p && (q && (x.k == y.k && decide (c < 0))))) := by unfold Hid lsV; rw [hp, hq, hc]
  have HRX : Hid (∀ v, Calls Try.prog 11 #[.agg #[.int .u8 x.k, .bool x.b, .int .i64 x.i, .string x.s]] v fun e w' => e = .returned (.bool p) ∧ Below v.heap.size v w') := fun v => by rw [← hp]; exact isRight_any x v
  have HRY : Hid (∀ v, Calls Try.prog 11 #[.agg #[.int .u8 y.k, .bool y.b, .int .i64 y.i, .string y.s]] v fun e w' => e = .returned (.bool q) ∧ Below v.heap.size v w') := fun v => by rw [← hq]; exact isRight_any y v
  have HCM : Hid (∀ v, Calls Try.prog 12 #[.agg #[.int .u8 x.k, .bool x.b, .int .i64 x.i, .string x.s], .agg #[.int .u8 y.k, .bool y.b, .int .i64 y.i, .string y.s]] v fun e w' => e = .returned (.int .i64 c) ∧ Below v.heap.size v w') := fun v => by rw [← hc]; exact compare_any x y v
  clear hp hq hc
  show Calls Try.prog 7 #[.agg #[.int .u8 x.k, .bool x.b, .int .i64 x.i, .string x.s], .agg #[.int .u8 y.k, .bool y.b, .int .i64 y.i, .string y.s]] w _
  have HK : Hid ((p = false) ∨ (p = true ∧ q = false) ∨ (p = true ∧ q = true ∧ (x.k == y.k) = false) ∨ (p = true ∧ q = true ∧ x.k = y.k)) := by
    unfold Hid; cases p <;> cases q <;> by_cases h : x.k = y.k <;> simp_all
  rcases HK.out with rfl | ⟨rfl, rfl⟩ | ⟨rfl, rfl, h⟩ | ⟨rfl, rfl, h⟩
  · clear HK
    go_enter Try.func7, Try.ntmps7
    go_upto_region 1 with fail
    rw [HE2.out]
    go_wp2_with (go_at_call 11; (with_reducible refine (HRX.out _).mono ?_); rintro e w3 ⟨rfl, hb3⟩; have HB3 : Hid (Below w2.heap.size w2 w3) := hb3; obtain ⟨u0, u1, u2, u3, u4, u5, u6, u7⟩ := HX.out w3 hb3; clear hb3)
    go_ret
    exact ⟨by rw [HL.out]; rfl, HB0.out.trans (HB3.out.mono HB0.out.size)⟩
  · clear HK
    go_enter Try.func7, Try.ntmps7
    go_upto_region 1 with fail
    rw [HE2.out]
    go_wp2_with (first
      | (go_at_call 11; (with_reducible refine (HRX.out _).mono ?_); rintro e w3 ⟨rfl, hb3⟩; have HB3 : Hid (Below w2.heap.size w2 w3) := hb3; obtain ⟨u0, u1, u2, u3, u4, u5, u6, u7⟩ := HX.out w3 hb3; clear hb3)
      | (go_at_call 11; (with_reducible refine (HRY.out _).mono ?_); rintro e w4 ⟨rfl, hb4⟩; have HB4 : Hid (Below w2.heap.size w2 w4) := HB3.out.trans (hb4.mono HB3.out.size); obtain ⟨v0, v1, v2, v3, v4, v5, v6, v7⟩ := HX.out w4 HB4.out; clear hb4))
    go_ret
    exact ⟨by rw [HL.out]; rfl, HB0.out.trans (HB4.out.mono HB0.out.size)⟩
  · clear HK
    go_enter Try.func7, Try.ntmps7
    go_upto_region 1 with fail
    rw [HE2.out]
    go_wp2_with (first
      | (go_at_call 11; (with_reducible refine (HRX.out _).mono ?_); rintro e w3 ⟨rfl, hb3⟩; have HB3 : Hid (Below w2.heap.size w2 w3) := hb3; obtain ⟨u0, u1, u2, u3, u4, u5, u6, u7⟩ := HX.out w3 hb3; clear hb3)
      | (go_at_call 11; (with_reducible refine (HRY.out _).mono ?_); rintro e w4 ⟨rfl, hb4⟩; have HB4 : Hid (Below w2.heap.size w2 w4) := HB3.out.trans (hb4.mono HB3.out.size); obtain ⟨v0, v1, v2, v3, v4, v5, v6, v7⟩ := HX.out w4 HB4.out; clear hb4))
    go_ret
    exact ⟨by rw [HL.out, h]; rfl, HB0.out.trans (HB4.out.mono HB0.out.size)⟩
  · clear HK
    have h' : (x.k == y.k) = true := by rw [h]; simp
    have HH : Hid (x.k = y.k) := h
    clear h
    go_enter Try.func7, Try.ntmps7
    go_upto_region 1 with fail
    rw [HE2.out]
    go_wp2_with (first
      | (go_at_call 11; (with_reducible refine (HRX.out _).mono ?_); rintro e w3 ⟨rfl, hb3⟩; have HB3 : Hid (Below w2.heap.size w2 w3) := hb3; obtain ⟨u0, u1, u2, u3, u4, u5, u6, u7⟩ := HX.out w3 hb3; clear hb3)
      | (go_at_call 11; (with_reducible refine (HRY.out _).mono ?_); rintro e w4 ⟨rfl, hb4⟩; have HB4 : Hid (Below w2.heap.size w2 w4) := HB3.out.trans (hb4.mono HB3.out.size); obtain ⟨v0, v1, v2, v3, v4, v5, v6, v7⟩ := HX.out w4 HB4.out; clear hb4)
      | (go_at_call 12; (with_reducible refine (HCM.out _).mono ?_); rintro e w5 ⟨rfl, hb5⟩; have HB5 : Hid (Below w2.heap.size w2 w5) := HB4.out.trans (hb5.mono HB4.out.size); clear hb5))
    go_ret
    exact ⟨by rw [HL.out, h']; rfl, HB0.out.trans (HB5.out.mono HB0.out.size)⟩

set_option maxRecDepth 1000000 in
set_option maxHeartbeats 8000000 in
theorem rLess_any (x y : Vl) (w : World) (hx : x.s.size ≤ 140737488351232) (hy : y.s.size ≤ 140737488351232) :
    Calls Try.prog 8 #[x.v, y.v] w fun e w' => e = .returned (.bool (lsV x y (ordV x y))) ∧ Below w.heap.size w w' := by
  obtain ⟨w2, e2, hw, hs2, B0, B1⟩ := bx2 w #[.int .u8 x.k, .bool x.b, .int .i64 x.i, .string x.s] #[.int .u8 y.k, .bool y.b, .int .i64 y.i, .string y.s] 26 26
  have HB0 : Hid (Below w.heap.size w w2) := hw
  have HE2 : Hid ((w.alloc (.cells #[.int .u8 x.k, .bool x.b, .int .i64 x.i, .string x.s] 26)).alloc (.cells #[.int .u8 y.k, .bool y.b, .int .i64 y.i, .string y.s] 26) = w2) := e2
  have n0 := B0.lt
  have n1 := B1.lt
  have HX : Hid (∀ v, Below w2.heap.size w2 v → v.cell? ⟨w.heap.size, 0, none⟩ = some (.int .u8 x.k) ∧ v.cell? ⟨w.heap.size, 1, none⟩ = some (.bool x.b) ∧ v.cell? ⟨w.heap.size, 2, none⟩ = some (.int .i64 x.i) ∧ v.cell? ⟨w.heap.size, 3, none⟩ = some (.string x.s) ∧
      v.cell? ⟨w.heap.size + 1, 0, none⟩ = some (.int .u8 y.k) ∧ v.cell? ⟨w.heap.size + 1, 1, none⟩ = some (.bool y.b) ∧ v.cell? ⟨w.heap.size + 1, 2, none⟩ = some (.int .i64 y.i) ∧ v.cell? ⟨w.heap.size + 1, 3, none⟩ = some (.string y.s)) :=
    fun v h => ⟨(B0.below h n0).cell 0, (B0.below h n0).cell 1, (B0.below h n0).cell 2, (B0.below h n0).cell 3, (B1.below h n1).cell 0, (B1.below h n1).cell 1, (B1.below h n1).cell 2, (B1.below h n1).cell 3⟩
  obtain ⟨x0, x1, x2, x3, y0, y1, y2, y3⟩ := HX.out w2 (Below.refl _ _)
  clear e2 hw hs2 B0 B1
  obtain ⟨p, hp⟩ : ∃ p, rgt x = p := ⟨_, rfl⟩
  obtain ⟨q, hq⟩ : ∃ q, rgt y = q := ⟨_, rfl⟩
  obtain ⟨c, hc⟩ : ∃ c, ordV x y = c := ⟨_, rfl⟩
  have HP : Hid (rgt x = p) := hp
  have HQ : Hid (rgt y = q) := hq
  have HC : Hid (ordV x y = c) := hc
  have HL : Hid (lsV x y (ordV x y) = (p && (q && (x.k == y.k && decide (c < 0))))) := by unfold Hid lsV; rw [hp, hq, hc]
  have HRX : Hid (∀ v, Calls Try.prog 13 #[.agg #[.int .u8 x.k, .bool x.b, .int .i64 x.i, .string x.s]] v fun e w' => e = .returned (.bool p) ∧ Below v.heap.size v w') := fun v => by rw [← hp]; exact rRight_any x v
  have HRY : Hid (∀ v, Calls Try.prog 13 #[.agg #[.int .u8 y.k, .bool y.b, .int .i64 y.i, .string y.s]] v fun e w' => e = .returned (.bool q) ∧ Below v.heap.size v w') := fun v => by rw [← hq]; exact rRight_any y v
  have HCM : Hid (∀ v, Calls Try.prog 14 #[.agg #[.int .u8 x.k, .bool x.b, .int .i64 x.i, .string x.s], .agg #[.int .u8 y.k, .bool y.b, .int .i64 y.i, .string y.s]] v fun e w' => e = .returned (.int .i64 c) ∧ Below v.heap.size v w') := fun v => by rw [← hc]; exact order_any x y v hx hy
  clear hp hq hc
  show Calls Try.prog 8 #[.agg #[.int .u8 x.k, .bool x.b, .int .i64 x.i, .string x.s], .agg #[.int .u8 y.k, .bool y.b, .int .i64 y.i, .string y.s]] w _
  have HK : Hid ((p = false) ∨ (p = true ∧ q = false) ∨ (p = true ∧ q = true ∧ (x.k == y.k) = false) ∨ (p = true ∧ q = true ∧ x.k = y.k)) := by
    unfold Hid; cases p <;> cases q <;> by_cases h : x.k = y.k <;> simp_all
  rcases HK.out with rfl | ⟨rfl, rfl⟩ | ⟨rfl, rfl, h⟩ | ⟨rfl, rfl, h⟩
  · clear HK
    go_enter Try.func8, Try.ntmps8
    go_upto_region 1 with fail
    rw [HE2.out]
    go_wp2_with (go_at_call 13; (with_reducible refine (HRX.out _).mono ?_); rintro e w3 ⟨rfl, hb3⟩; have HB3 : Hid (Below w2.heap.size w2 w3) := hb3; obtain ⟨u0, u1, u2, u3, u4, u5, u6, u7⟩ := HX.out w3 hb3; clear hb3)
    go_ret
    exact ⟨by rw [HL.out]; rfl, HB0.out.trans (HB3.out.mono HB0.out.size)⟩
  · clear HK
    go_enter Try.func8, Try.ntmps8
    go_upto_region 1 with fail
    rw [HE2.out]
    go_wp2_with (first
      | (go_at_call 13; (with_reducible refine (HRX.out _).mono ?_); rintro e w3 ⟨rfl, hb3⟩; have HB3 : Hid (Below w2.heap.size w2 w3) := hb3; obtain ⟨u0, u1, u2, u3, u4, u5, u6, u7⟩ := HX.out w3 hb3; clear hb3)
      | (go_at_call 13; (with_reducible refine (HRY.out _).mono ?_); rintro e w4 ⟨rfl, hb4⟩; have HB4 : Hid (Below w2.heap.size w2 w4) := HB3.out.trans (hb4.mono HB3.out.size); obtain ⟨v0, v1, v2, v3, v4, v5, v6, v7⟩ := HX.out w4 HB4.out; clear hb4))
    go_ret
    exact ⟨by rw [HL.out]; rfl, HB0.out.trans (HB4.out.mono HB0.out.size)⟩
  · clear HK
    go_enter Try.func8, Try.ntmps8
    go_upto_region 1 with fail
    rw [HE2.out]
    go_wp2_with (first
      | (go_at_call 13; (with_reducible refine (HRX.out _).mono ?_); rintro e w3 ⟨rfl, hb3⟩; have HB3 : Hid (Below w2.heap.size w2 w3) := hb3; obtain ⟨u0, u1, u2, u3, u4, u5, u6, u7⟩ := HX.out w3 hb3; clear hb3)
      | (go_at_call 13; (with_reducible refine (HRY.out _).mono ?_); rintro e w4 ⟨rfl, hb4⟩; have HB4 : Hid (Below w2.heap.size w2 w4) := HB3.out.trans (hb4.mono HB3.out.size); obtain ⟨v0, v1, v2, v3, v4, v5, v6, v7⟩ := HX.out w4 HB4.out; clear hb4))
    go_ret
    exact ⟨by rw [HL.out, h]; rfl, HB0.out.trans (HB4.out.mono HB0.out.size)⟩
  · clear HK
    have h' : (x.k == y.k) = true := by rw [h]; simp
    have HH : Hid (x.k = y.k) := h
    clear h
    go_enter Try.func8, Try.ntmps8
    go_upto_region 1 with fail
    rw [HE2.out]
    go_wp2_with (first
      | (go_at_call 13; (with_reducible refine (HRX.out _).mono ?_); rintro e w3 ⟨rfl, hb3⟩; have HB3 : Hid (Below w2.heap.size w2 w3) := hb3; obtain ⟨u0, u1, u2, u3, u4, u5, u6, u7⟩ := HX.out w3 hb3; clear hb3)
      | (go_at_call 13; (with_reducible refine (HRY.out _).mono ?_); rintro e w4 ⟨rfl, hb4⟩; have HB4 : Hid (Below w2.heap.size w2 w4) := HB3.out.trans (hb4.mono HB3.out.size); obtain ⟨v0, v1, v2, v3, v4, v5, v6, v7⟩ := HX.out w4 HB4.out; clear hb4)
      | (go_at_call 14; (with_reducible refine (HCM.out _).mono ?_); rintro e w5 ⟨rfl, hb5⟩; have HB5 : Hid (Below w2.heap.size w2 w5) := HB4.out.trans (hb5.mono HB4.out.size); clear hb5))
    go_ret
    exact ⟨by rw [HL.out, h']; rfl, HB0.out.trans (HB5.out.mono HB0.out.size)⟩
end Go.Proofs.Ytfkjemeffjmioaa
