import Derived.Test.YthdfccdkomfikaaGreatDoorLy5
namespace Go.Proofs.YthdfccdkomfikaaGreatDoor
open Go.ChangeShapes Go.WideShapes Go.ChangeAt Go.RowKit
set_option linter.unusedVariables false
set_option linter.unusedSimpArgs false

theorem fnd_le (s : ByteArray) (c : Nat) : ∀ n k, s.size - k ≤ n → k ≤ s.size → k ≤ fnd s c k ∧ fnd s c k ≤ s.size
  | 0, k, hn, hk => by rw [fnd, dif_neg (by omega)]; omega
  | n + 1, k, hn, hk => by
    rw [fnd]
    split
    · rename_i h
      have := fnd_le s c n (k + 1) (by omega) (by omega)
      omega
    · omega
theorem quP_items {s : ByteArray} {p q kd : Nat} (hb : bt s p = q) (hq : (q = 34 ∧ kd = 5) ∨ (q = 39 ∧ kd = 4)) : quP s p = itP s p q kd := by
  unfold quP itP itO
  rw [if_neg (by omega), hb]
  cases quo s q (p + 1) 0 none with
  | none => rfl
  | some x =>
    obtain ⟨t, c, bad⟩ := x
    rcases hq with ⟨rfl, rfl⟩ | ⟨rfl, rfl⟩
    · simp only
      rw [if_neg (by omega), if_neg (by omega)]
      cases bad <;> rfl
    · simp only
      by_cases h : c = 1 <;> cases bad <;> simp [h]

set_option maxRecDepth 1000000 in
set_option maxHeartbeats 4000000 in
theorem quoted_34 (b : Nat) (s : ByteArray) (p : Nat) (hs : s.size ≤ 4294967280) (hp : p < s.size) (hc : (s[p]'hp).toNat = 34) (w : World) (hb : w.cell? ⟨b, 0, none⟩ = some (.string s)) (hT : U8 w) :
    Calls Tryz.prog 36 #[.pointer (some ⟨b, 0, none⟩), .int .i64 p] w fun e w' => e = .returned (.tuple #[tokV p (quP s p), fltV (quP s p)]) ∧ Below w.heap.size w w' := by
  have hbl : b < w.heap.size := World.block_lt_of_cell? _ _ hb
  have hp' : (p : Int) < (s.size : Int) := by omega
  rw [quP_items (q := 34) (kd := 5) (by rw [bt_in hp, hc]) (by omega)]
  obtain ⟨w2, e2, hw, hs2, B0, B1⟩ := bx2 w #[.int .u8 0, .int .i64 0, .int .i64 0] #[.int .i64 0, .int .i64 0, .int .i64 0] 36 25
  have HE2 : Hid ((w.alloc (.cells #[.int .u8 0, .int .i64 0, .int .i64 0] 36)).alloc (.cells #[.int .i64 0, .int .i64 0, .int .i64 0] 25) = w2) := e2
  have c2 : w2.cell? ⟨b, 0, none⟩ = some (.string s) := (hw.cell (p := ⟨b, 0, none⟩) hbl).trans hb
  have hb2 : b < w2.heap.size := by omega
  have HI : Hid (Calls Tryz.prog 58 #[.pointer (some ⟨b, 0, none⟩), .int .i64 p, .int .u8 5] w2 fun e w' => e = .returned (.tuple #[tokV p (itP s p 34 5), fltV (itP s p 34 5)]) ∧ Below w2.heap.size w2 w') := items_any b s p 34 5 hs hp hc (by omega) w2 c2 (hT.below hw)
  have HX : Hid (∀ v, Below w2.heap.size w2 v → Bx v w.heap.size #[.int .u8 0, .int .i64 0, .int .i64 0] 36 ∧ Bx v (w.heap.size + 1) #[.int .i64 0, .int .i64 0, .int .i64 0] 25 ∧ Below w.heap.size w v) :=
    fun v h => ⟨B0.below h B0.lt, B1.below h B1.lt, hw.trans (h.mono hw.size)⟩
  clear e2 hw hs2 B0 B1 hT hb
  cases hP : itP s p 34 5 with
  | ok k t =>
    rw [hP] at HI
    have HI' : Hid (Calls Tryz.prog 58 #[.pointer (some ⟨b, 0, none⟩), .int .i64 p, .int .u8 5] w2 fun e w' => e = .returned (.tuple #[.agg #[.int .u8 (k : Int), .int .i64 (p : Int), .int .i64 (t : Int)], .agg #[.int .i64 0, .int .i64 0, .int .i64 0]]) ∧ Below w2.heap.size w2 w') := HI
    clear HI hP
    go_enter Tryz.func36, Tryz.ntmps36
    go_upto_region 1 with fail
    rw [HE2.out]
    go_wp2_with (go_at_call 58; (with_reducible refine HI'.out.mono ?_); rintro e w4 ⟨rfl, hb4⟩; obtain ⟨Y0, Y1, HW4'⟩ := HX.out w4 hb4; have HW4 : Hid (Below w.heap.size w w4) := HW4'; have HY0 : Hid (Bx w4 w.heap.size #[.int .u8 0, .int .i64 0, .int .i64 0] 36) := Y0; have HY1 : Hid (Bx w4 (w.heap.size + 1) #[.int .i64 0, .int .i64 0, .int .i64 0] 25) := Y1; obtain ⟨z0, z1, z2, z3, z4, z5, zf, zh⟩ := two_of Y0 Y1; have f0 := zf 0; have f1 := zf 1; have f2 := zf 2; have h0 := zh 0; have h1 := zh 1; have h2 := zh 2; clear hb4 HW4' Y0 Y1 zf zh)
    obtain ⟨r0, r1, r2, r3, r4, r5⟩ := two_boxes HY0.out HY1.out (.int .u8 (k : Int)) (.int .i64 (p : Int)) (.int .i64 (t : Int)) (.int .i64 0) (.int .i64 0) (.int .i64 0)
    refine bodyPost_ret (v := .tuple #[.agg #[.int .u8 (k : Int), .int .i64 (p : Int), .int .i64 (t : Int)], .agg #[.int .i64 0, .int .i64 0, .int .i64 0]]) (by simp [results, Tryz.results36, go_sem, r0, r1, r2, r3, r4, r5]) rfl ⟨rfl, bel_two HW4.out (Nat.le_refl _)⟩
  | no y z =>
    rw [hP] at HI
    have HI' : Hid (Calls Tryz.prog 58 #[.pointer (some ⟨b, 0, none⟩), .int .i64 p, .int .u8 5] w2 fun e w' => e = .returned (.tuple #[.agg #[.int .u8 0, .int .i64 0, .int .i64 0], .agg #[.int .i64 (y : Int), .int .i64 0, .int .i64 (z : Int)]]) ∧ Below w2.heap.size w2 w') := HI
    clear HI hP
    go_enter Tryz.func36, Tryz.ntmps36
    go_upto_region 1 with fail
    rw [HE2.out]
    go_wp2_with (go_at_call 58; (with_reducible refine HI'.out.mono ?_); rintro e w4 ⟨rfl, hb4⟩; obtain ⟨Y0, Y1, HW4'⟩ := HX.out w4 hb4; have HW4 : Hid (Below w.heap.size w w4) := HW4'; have HY0 : Hid (Bx w4 w.heap.size #[.int .u8 0, .int .i64 0, .int .i64 0] 36) := Y0; have HY1 : Hid (Bx w4 (w.heap.size + 1) #[.int .i64 0, .int .i64 0, .int .i64 0] 25) := Y1; obtain ⟨z0, z1, z2, z3, z4, z5, zf, zh⟩ := two_of Y0 Y1; have f0 := zf 0; have f1 := zf 1; have f2 := zf 2; have h0 := zh 0; have h1 := zh 1; have h2 := zh 2; clear hb4 HW4' Y0 Y1 zf zh)
    obtain ⟨r0, r1, r2, r3, r4, r5⟩ := two_boxes HY0.out HY1.out (.int .u8 0) (.int .i64 0) (.int .i64 0) (.int .i64 (y : Int)) (.int .i64 0) (.int .i64 (z : Int))
    refine bodyPost_ret (v := .tuple #[.agg #[.int .u8 0, .int .i64 0, .int .i64 0], .agg #[.int .i64 (y : Int), .int .i64 0, .int .i64 (z : Int)]]) (by simp [results, Tryz.results36, go_sem, r0, r1, r2, r3, r4, r5]) rfl ⟨rfl, bel_two HW4.out (Nat.le_refl _)⟩

set_option maxRecDepth 1000000 in
set_option maxHeartbeats 4000000 in
theorem quoted_39 (b : Nat) (s : ByteArray) (p : Nat) (hs : s.size ≤ 4294967280) (hp : p < s.size) (hc : (s[p]'hp).toNat = 39) (w : World) (hb : w.cell? ⟨b, 0, none⟩ = some (.string s)) (hT : U8 w) :
    Calls Tryz.prog 36 #[.pointer (some ⟨b, 0, none⟩), .int .i64 p] w fun e w' => e = .returned (.tuple #[tokV p (quP s p), fltV (quP s p)]) ∧ Below w.heap.size w w' := by
  have hbl : b < w.heap.size := World.block_lt_of_cell? _ _ hb
  have hp' : (p : Int) < (s.size : Int) := by omega
  rw [quP_items (q := 39) (kd := 4) (by rw [bt_in hp, hc]) (by omega)]
  obtain ⟨w2, e2, hw, hs2, B0, B1⟩ := bx2 w #[.int .u8 0, .int .i64 0, .int .i64 0] #[.int .i64 0, .int .i64 0, .int .i64 0] 36 25
  have HE2 : Hid ((w.alloc (.cells #[.int .u8 0, .int .i64 0, .int .i64 0] 36)).alloc (.cells #[.int .i64 0, .int .i64 0, .int .i64 0] 25) = w2) := e2
  have c2 : w2.cell? ⟨b, 0, none⟩ = some (.string s) := (hw.cell (p := ⟨b, 0, none⟩) hbl).trans hb
  have hb2 : b < w2.heap.size := by omega
  have HI : Hid (Calls Tryz.prog 58 #[.pointer (some ⟨b, 0, none⟩), .int .i64 p, .int .u8 4] w2 fun e w' => e = .returned (.tuple #[tokV p (itP s p 39 4), fltV (itP s p 39 4)]) ∧ Below w2.heap.size w2 w') := items_any b s p 39 4 hs hp hc (by omega) w2 c2 (hT.below hw)
  have HX : Hid (∀ v, Below w2.heap.size w2 v → Bx v w.heap.size #[.int .u8 0, .int .i64 0, .int .i64 0] 36 ∧ Bx v (w.heap.size + 1) #[.int .i64 0, .int .i64 0, .int .i64 0] 25 ∧ Below w.heap.size w v) :=
    fun v h => ⟨B0.below h B0.lt, B1.below h B1.lt, hw.trans (h.mono hw.size)⟩
  clear e2 hw hs2 B0 B1 hT hb
  cases hP : itP s p 39 4 with
  | ok k t =>
    rw [hP] at HI
    have HI' : Hid (Calls Tryz.prog 58 #[.pointer (some ⟨b, 0, none⟩), .int .i64 p, .int .u8 4] w2 fun e w' => e = .returned (.tuple #[.agg #[.int .u8 (k : Int), .int .i64 (p : Int), .int .i64 (t : Int)], .agg #[.int .i64 0, .int .i64 0, .int .i64 0]]) ∧ Below w2.heap.size w2 w') := HI
    clear HI hP
    go_enter Tryz.func36, Tryz.ntmps36
    go_upto_region 1 with fail
    rw [HE2.out]
    go_wp2_with (go_at_call 58; (with_reducible refine HI'.out.mono ?_); rintro e w4 ⟨rfl, hb4⟩; obtain ⟨Y0, Y1, HW4'⟩ := HX.out w4 hb4; have HW4 : Hid (Below w.heap.size w w4) := HW4'; have HY0 : Hid (Bx w4 w.heap.size #[.int .u8 0, .int .i64 0, .int .i64 0] 36) := Y0; have HY1 : Hid (Bx w4 (w.heap.size + 1) #[.int .i64 0, .int .i64 0, .int .i64 0] 25) := Y1; obtain ⟨z0, z1, z2, z3, z4, z5, zf, zh⟩ := two_of Y0 Y1; have f0 := zf 0; have f1 := zf 1; have f2 := zf 2; have h0 := zh 0; have h1 := zh 1; have h2 := zh 2; clear hb4 HW4' Y0 Y1 zf zh)
    obtain ⟨r0, r1, r2, r3, r4, r5⟩ := two_boxes HY0.out HY1.out (.int .u8 (k : Int)) (.int .i64 (p : Int)) (.int .i64 (t : Int)) (.int .i64 0) (.int .i64 0) (.int .i64 0)
    refine bodyPost_ret (v := .tuple #[.agg #[.int .u8 (k : Int), .int .i64 (p : Int), .int .i64 (t : Int)], .agg #[.int .i64 0, .int .i64 0, .int .i64 0]]) (by simp [results, Tryz.results36, go_sem, r0, r1, r2, r3, r4, r5]) rfl ⟨rfl, bel_two HW4.out (Nat.le_refl _)⟩
  | no y z =>
    rw [hP] at HI
    have HI' : Hid (Calls Tryz.prog 58 #[.pointer (some ⟨b, 0, none⟩), .int .i64 p, .int .u8 4] w2 fun e w' => e = .returned (.tuple #[.agg #[.int .u8 0, .int .i64 0, .int .i64 0], .agg #[.int .i64 (y : Int), .int .i64 0, .int .i64 (z : Int)]]) ∧ Below w2.heap.size w2 w') := HI
    clear HI hP
    go_enter Tryz.func36, Tryz.ntmps36
    go_upto_region 1 with fail
    rw [HE2.out]
    go_wp2_with (go_at_call 58; (with_reducible refine HI'.out.mono ?_); rintro e w4 ⟨rfl, hb4⟩; obtain ⟨Y0, Y1, HW4'⟩ := HX.out w4 hb4; have HW4 : Hid (Below w.heap.size w w4) := HW4'; have HY0 : Hid (Bx w4 w.heap.size #[.int .u8 0, .int .i64 0, .int .i64 0] 36) := Y0; have HY1 : Hid (Bx w4 (w.heap.size + 1) #[.int .i64 0, .int .i64 0, .int .i64 0] 25) := Y1; obtain ⟨z0, z1, z2, z3, z4, z5, zf, zh⟩ := two_of Y0 Y1; have f0 := zf 0; have f1 := zf 1; have f2 := zf 2; have h0 := zh 0; have h1 := zh 1; have h2 := zh 2; clear hb4 HW4' Y0 Y1 zf zh)
    obtain ⟨r0, r1, r2, r3, r4, r5⟩ := two_boxes HY0.out HY1.out (.int .u8 0) (.int .i64 0) (.int .i64 0) (.int .i64 (y : Int)) (.int .i64 0) (.int .i64 (z : Int))
    refine bodyPost_ret (v := .tuple #[.agg #[.int .u8 0, .int .i64 0, .int .i64 0], .agg #[.int .i64 (y : Int), .int .i64 0, .int .i64 (z : Int)]]) (by simp [results, Tryz.results36, go_sem, r0, r1, r2, r3, r4, r5]) rfl ⟨rfl, bel_two HW4.out (Nat.le_refl _)⟩
end Go.Proofs.YthdfccdkomfikaaGreatDoor
