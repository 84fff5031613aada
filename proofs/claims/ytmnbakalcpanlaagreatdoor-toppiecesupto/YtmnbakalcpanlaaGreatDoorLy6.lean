import Derived.Test.YtmnbakalcpanlaaGreatDoorLy4
namespace Go.Proofs.YtmnbakalcpanlaaGreatDoor
open Go.ChangeShapes Go.WideShapes Go.ChangeAt Go.RowKit
set_option linter.unusedVariables false
set_option linter.unusedSimpArgs false

/-- the tables of runes and letters stand -/
def Lt (w : World) : Prop := U8 w ∧ ∀ v, Below w.heap.size w v → Lib.TabIs Tryz.prog v "unicode.properties" .u8 Lib.propertiesTab ∧ Lib.RVar 5 Lib.letterT v ∧ Lib.RVar 6 Lib.digitT v
theorem Lt.below {w w' : World} (h : Lt w) (hb : Below w.heap.size w w') : Lt w' := ⟨h.1.below hb, fun v hv => h.2 v (hb.trans (hv.mono hb.size))⟩

set_option maxRecDepth 100000 in
set_option maxHeartbeats 2000000 in
theorem isLetter_any (r : Nat) (hr : r < 1114112) (w : World) (hT : Lt w) :
    Calls Tryz.prog 53 #[.int .i32 (r : Int)] w fun e w' => e = .returned (.bool (isL r)) ∧ Below w.heap.size w w' := by
  by_cases h95 : r = 95
  · subst h95
    have E : isL 95 = true := by unfold isL; rfl
    rw [E]
    go_enter Tryz.func53, Tryz.ntmps53
    go_wp2
    go_ret
    exact ⟨rfl, Below.refl _ _⟩
  · have E : isL r = uL r := by unfold isL; simp [h95]
    rw [E]
    obtain ⟨t1, t2, t3⟩ := hT.2 w (Below.refl _ _)
    have HC : Hid (Calls Tryz.prog 66 #[.int .i32 (r : Int)] w fun e w' => e = .returned (.bool (uL r)) ∧ Below w.heap.size w w') := Tryz.unicode_IsLetter_any Lib.letterT (r : Int) w (by omega) (by omega) t1 t2 Lib.letterT_ok
    have h95' : ((r : Int) == 95) = false := by simp; omega
    clear t1 t2 t3 hT
    go_enter Tryz.func53, Tryz.ntmps53
    go_wp2_with (go_at_call 66; (with_reducible refine HC.out.mono ?_); rintro e w3 ⟨rfl, hb3⟩)
    go_ret
    exact ⟨rfl, hb3⟩

set_option maxRecDepth 100000 in
set_option maxHeartbeats 2000000 in
theorem isBlank_any (n : Nat) (w : World) :
    Calls Tryz.prog 48 #[.int .u8 (n : Int)] w fun e w' => e = .returned (.bool (blk n)) ∧ w' = w := by
  have H : n = 32 ∨ n = 9 ∨ n = 13 ∨ n = 10 ∨ (n ≠ 32 ∧ n ≠ 9 ∧ n ≠ 13 ∧ n ≠ 10) := by omega
  rcases H with rfl | rfl | rfl | rfl | ⟨h1, h2, h3, h4⟩
  · go_enter Tryz.func48, Tryz.ntmps48
    go_wp2
    go_ret
    exact ⟨rfl, rfl⟩
  · go_enter Tryz.func48, Tryz.ntmps48
    go_wp2
    go_ret
    exact ⟨rfl, rfl⟩
  · go_enter Tryz.func48, Tryz.ntmps48
    go_wp2
    go_ret
    exact ⟨rfl, rfl⟩
  · go_enter Tryz.func48, Tryz.ntmps48
    go_wp2
    go_ret
    exact ⟨rfl, rfl⟩
  · have E : blk n = false := by unfold blk; simp [h1, h2, h3, h4]
    rw [E]
    have k1 : ((n : Int) == 32) = false := by simp; omega
    have k2 : ((n : Int) == 9) = false := by simp; omega
    have k3 : ((n : Int) == 13) = false := by simp; omega
    have k4 : ((n : Int) == 10) = false := by simp; omega
    go_enter Tryz.func48, Tryz.ntmps48
    go_wp2
    go_ret
    exact ⟨rfl, rfl⟩

set_option maxRecDepth 100000 in
set_option maxHeartbeats 2000000 in
theorem atBlank_any (b : Nat) (s : ByteArray) (p : Nat) (hs : s.size ≤ 4294967280) (hp : p < s.size) (w : World) (hb : w.cell? ⟨b, 0, none⟩ = some (.string s)) :
    Calls Tryz.prog 28 #[.pointer (some ⟨b, 0, none⟩), .int .i64 (p : Int)] w fun e w' => e = .returned (.bool (blk (bt s p))) ∧ w' = w := by
  have hp' : (p : Int) < (s.size : Int) := by omega
  obtain ⟨n, hn⟩ : ∃ n, (s[p]'hp).toNat = n := ⟨_, rfl⟩
  have E : bt s p = n := by rw [bt_in hp, hn]
  rw [E]
  have hbl : b < w.heap.size := World.block_lt_of_cell? _ _ hb
  go_enter Tryz.func28, Tryz.ntmps28
  go_wp2_with (go_at_call 48; (with_reducible refine (isBlank_any n _).mono ?_); rintro e w3 ⟨rfl, hw3⟩; subst hw3)
  go_ret
  exact ⟨rfl, rfl⟩

set_option maxRecDepth 100000 in
set_option maxHeartbeats 2000000 in
theorem atLetter_any (b : Nat) (s : ByteArray) (p : Nat) (hs : s.size ≤ 4294967280) (hp : p < s.size) (w : World) (hb : w.cell? ⟨b, 0, none⟩ = some (.string s)) (hT : Lt w) :
    Calls Tryz.prog 32 #[.pointer (some ⟨b, 0, none⟩), .int .i64 (p : Int)] w fun e w' => e = .returned (.bool (isL (rn s p))) ∧ Below w.heap.size w w' := by
  have hp' : (p : Int) < (s.size : Int) := by omega
  have hbl : b < w.heap.size := World.block_lt_of_cell? _ _ hb
  have HD : Hid (Calls Tryz.prog 52 #[.string (s.extract p s.size)] w fun e w' => e = .returned (.tuple #[.int .i32 (rn s p : Nat), .int .i64 (wd s p : Nat)]) ∧ Below w.heap.size w w') := decode_call s p w hT.1
  have HT : Hid (Lt w) := hT
  have HR : Hid (rn s p < 1114112) := rn_lt s p
  obtain ⟨R, hR⟩ : ∃ R, rn s p = R := ⟨_, rfl⟩
  obtain ⟨D, hD⟩ : ∃ D, wd s p = D := ⟨_, rfl⟩
  rw [hR] at HD HR ⊢
  rw [hD] at HD
  clear hT hR hD
  go_enter Tryz.func32, Tryz.ntmps32
  go_wp2_with (first
    | (go_at_call 52; (with_reducible refine HD.out.mono ?_); rintro e w3 ⟨rfl, hb3⟩; have HB3 : Hid (Below w.heap.size w w3) := hb3; clear hb3)
    | (go_at_call 53; (with_reducible refine (isLetter_any R HR.out _ (HT.out.below HB3.out)).mono ?_); rintro e w4 ⟨rfl, hb4⟩; have HB4 : Hid (Below w.heap.size w w4) := HB3.out.trans (hb4.mono HB3.out.size); clear hb4))
  go_ret
  exact ⟨rfl, HB4.out⟩

set_option maxRecDepth 100000 in
set_option maxHeartbeats 2000000 in
theorem atDigit_any (b : Nat) (s : ByteArray) (p : Nat) (hs : s.size ≤ 4294967280) (hp : p < s.size) (w : World) (hb : w.cell? ⟨b, 0, none⟩ = some (.string s)) :
    Calls Tryz.prog 34 #[.pointer (some ⟨b, 0, none⟩), .int .i64 (p : Int)] w fun e w' => e = .returned (.bool (decide (48 ≤ bt s p ∧ bt s p ≤ 57))) ∧ w' = w := by
  have hp' : (p : Int) < (s.size : Int) := by omega
  obtain ⟨n, hn⟩ : ∃ n, (s[p]'hp).toNat = n := ⟨_, rfl⟩
  have E : bt s p = n := by rw [bt_in hp, hn]
  rw [E]
  have hbl : b < w.heap.size := World.block_lt_of_cell? _ _ hb
  by_cases h1 : 48 ≤ n
  · have h1' : (48 : Int) ≤ (n : Int) := by omega
    by_cases h2 : n ≤ 57
    · have h2' : (n : Int) ≤ 57 := by omega
      go_enter Tryz.func34, Tryz.ntmps34
      go_wp2
      go_ret
      exact ⟨by simp [h1, h2], rfl⟩
    · have h2' : ¬ (n : Int) ≤ 57 := by omega
      go_enter Tryz.func34, Tryz.ntmps34
      go_wp2
      go_ret
      exact ⟨by simp [h2], rfl⟩
  · have h1' : ¬ (48 : Int) ≤ (n : Int) := by omega
    go_enter Tryz.func34, Tryz.ntmps34
    go_wp2
    go_ret
    exact ⟨by simp [h1], rfl⟩

set_option maxRecDepth 100000 in
set_option maxHeartbeats 2000000 in
theorem atQuote_any (b : Nat) (s : ByteArray) (p : Nat) (hs : s.size ≤ 4294967280) (hp : p < s.size) (w : World) (hb : w.cell? ⟨b, 0, none⟩ = some (.string s)) :
    Calls Tryz.prog 36 #[.pointer (some ⟨b, 0, none⟩), .int .i64 (p : Int)] w fun e w' => e = .returned (.bool (decide (bt s p = 39 ∨ bt s p = 34 ∨ bt s p = 96))) ∧ w' = w := by
  have hp' : (p : Int) < (s.size : Int) := by omega
  obtain ⟨n, hn⟩ : ∃ n, (s[p]'hp).toNat = n := ⟨_, rfl⟩
  have E : bt s p = n := by rw [bt_in hp, hn]
  rw [E]
  clear E
  have hbl : b < w.heap.size := World.block_lt_of_cell? _ _ hb
  have H : n = 39 ∨ n = 34 ∨ n = 96 ∨ (n ≠ 39 ∧ n ≠ 34 ∧ n ≠ 96) := by omega
  rcases H with h | h | h | ⟨h1, h2, h3⟩
  · subst h
    go_enter Tryz.func36, Tryz.ntmps36
    go_wp2
    go_ret
    exact ⟨rfl, rfl⟩
  · subst h
    go_enter Tryz.func36, Tryz.ntmps36
    go_wp2
    go_ret
    exact ⟨rfl, rfl⟩
  · subst h
    go_enter Tryz.func36, Tryz.ntmps36
    go_wp2
    go_ret
    exact ⟨rfl, rfl⟩
  · have k1 : ((n : Int) == 39) = false := by simp; omega
    have k2 : ((n : Int) == 34) = false := by simp; omega
    have k3 : ((n : Int) == 96) = false := by simp; omega
    go_enter Tryz.func36, Tryz.ntmps36
    go_wp2
    go_ret
    exact ⟨by simp [h1, h2, h3], rfl⟩
end Go.Proofs.YtmnbakalcpanlaaGreatDoor

namespace Go.Proofs.YtmnbakalcpanlaaGreatDoor
open Go.ChangeShapes Go.WideShapes Go.ChangeAt Go.RowKit
set_option linter.unusedVariables false
set_option linter.unusedSimpArgs false

theorem fnd_le (s : ByteArray) (c : Nat) : ∀ n k, s.size - k ≤ n → k ≤ s.size → k ≤ fnd s c k ∧ fnd s c k ≤ s.size
  | 0, k, hn, hk => by rw [fnd, dif_neg (by omega)]; omega
  | n + 1, k, hn, hk => by
    rw [fnd]
    split
    · rename_i h
      have := fnd_le s c n (k + 1) (by omega) (by omega)
      omega
    · omega
theorem quP_items {s : ByteArray} {p q kd : Nat} (hb : bt s p = q) (hq : (q = 34 ∧ kd = 5) ∨ (q = 39 ∧ kd = 4)) : quP s p = itP s p q kd := by
  unfold quP itP itO
  rw [if_neg (by omega), hb]
  cases quo s q (p + 1) 0 none with
  | none => rfl
  | some x =>
    obtain ⟨t, c, bad⟩ := x
    rcases hq with ⟨rfl, rfl⟩ | ⟨rfl, rfl⟩
    · simp only
      rw [if_neg (by omega), if_neg (by omega)]
      cases bad <;> rfl
    · simp only
      by_cases h : c = 1 <;> cases bad <;> simp [h]

set_option maxRecDepth 1000000 in
set_option maxHeartbeats 4000000 in
theorem quoted_34 (b : Nat) (s : ByteArray) (p : Nat) (hs : s.size ≤ 4294967280) (hp : p < s.size) (hc : (s[p]'hp).toNat = 34) (w : World) (hb : w.cell? ⟨b, 0, none⟩ = some (.string s)) (hT : U8 w) :
    Calls Tryz.prog 37 #[.pointer (some ⟨b, 0, none⟩), .int .i64 p] w fun e w' => e = .returned (.tuple #[tokV p (quP s p), fltV (quP s p)]) ∧ Below w.heap.size w w' := by
  have hbl : b < w.heap.size := World.block_lt_of_cell? _ _ hb
  have hp' : (p : Int) < (s.size : Int) := by omega
  rw [quP_items (q := 34) (kd := 5) (by rw [bt_in hp, hc]) (by omega)]
  obtain ⟨w2, e2, hw, hs2, B0, B1⟩ := bx2 w #[.int .u8 0, .int .i64 0, .int .i64 0] #[.int .i64 0, .int .i64 0, .int .i64 0] 50 26
  have HE2 : Hid ((w.alloc (.cells #[.int .u8 0, .int .i64 0, .int .i64 0] 50)).alloc (.cells #[.int .i64 0, .int .i64 0, .int .i64 0] 26) = w2) := e2
  have c2 : w2.cell? ⟨b, 0, none⟩ = some (.string s) := (hw.cell (p := ⟨b, 0, none⟩) hbl).trans hb
  have hb2 : b < w2.heap.size := by omega
  have HI : Hid (Calls Tryz.prog 57 #[.pointer (some ⟨b, 0, none⟩), .int .i64 p, .int .u8 5] w2 fun e w' => e = .returned (.tuple #[tokV p (itP s p 34 5), fltV (itP s p 34 5)]) ∧ Below w2.heap.size w2 w') := items_any b s p 34 5 hs hp hc (by omega) w2 c2 (hT.below hw)
  have HX : Hid (∀ v, Below w2.heap.size w2 v → Bx v w.heap.size #[.int .u8 0, .int .i64 0, .int .i64 0] 50 ∧ Bx v (w.heap.size + 1) #[.int .i64 0, .int .i64 0, .int .i64 0] 26 ∧ Below w.heap.size w v) :=
    fun v h => ⟨B0.below h B0.lt, B1.below h B1.lt, hw.trans (h.mono hw.size)⟩
  clear e2 hw hs2 B0 B1 hT hb
  cases hP : itP s p 34 5 with
  | ok k t =>
    rw [hP] at HI
    have HI' : Hid (Calls Tryz.prog 57 #[.pointer (some ⟨b, 0, none⟩), .int .i64 p, .int .u8 5] w2 fun e w' => e = .returned (.tuple #[.agg #[.int .u8 (k : Int), .int .i64 (p : Int), .int .i64 (t : Int)], .agg #[.int .i64 0, .int .i64 0, .int .i64 0]]) ∧ Below w2.heap.size w2 w') := HI
    clear HI hP
    go_enter Tryz.func37, Tryz.ntmps37
    go_upto_region 1 with fail
    rw [HE2.out]
    go_wp2_with (go_at_call 57; (with_reducible refine HI'.out.mono ?_); rintro e w4 ⟨rfl, hb4⟩; obtain ⟨Y0, Y1, HW4'⟩ := HX.out w4 hb4; have HW4 : Hid (Below w.heap.size w w4) := HW4'; have HY0 : Hid (Bx w4 w.heap.size #[.int .u8 0, .int .i64 0, .int .i64 0] 50) := Y0; have HY1 : Hid (Bx w4 (w.heap.size + 1) #[.int .i64 0, .int .i64 0, .int .i64 0] 26) := Y1; obtain ⟨z0, z1, z2, z3, z4, z5, zf, zh⟩ := two_of Y0 Y1; have f0 := zf 0; have f1 := zf 1; have f2 := zf 2; have h0 := zh 0; have h1 := zh 1; have h2 := zh 2; clear hb4 HW4' Y0 Y1 zf zh)
    obtain ⟨r0, r1, r2, r3, r4, r5⟩ := two_boxes HY0.out HY1.out (.int .u8 (k : Int)) (.int .i64 (p : Int)) (.int .i64 (t : Int)) (.int .i64 0) (.int .i64 0) (.int .i64 0)
    refine bodyPost_ret (v := .tuple #[.agg #[.int .u8 (k : Int), .int .i64 (p : Int), .int .i64 (t : Int)], .agg #[.int .i64 0, .int .i64 0, .int .i64 0]]) (by simp [results, Tryz.results37, go_sem, r0, r1, r2, r3, r4, r5]) rfl ⟨rfl, bel_two HW4.out (Nat.le_refl _)⟩
  | no y z =>
    rw [hP] at HI
    have HI' : Hid (Calls Tryz.prog 57 #[.pointer (some ⟨b, 0, none⟩), .int .i64 p, .int .u8 5] w2 fun e w' => e = .returned (.tuple #[.agg #[.int .u8 0, .int .i64 0, .int .i64 0], .agg #[.int .i64 (y : Int), .int .i64 0, .int .i64 (z : Int)]]) ∧ Below w2.heap.size w2 w') := HI
    clear HI hP
    go_enter Tryz.func37, Tryz.ntmps37
    go_upto_region 1 with fail
    rw [HE2.out]
    go_wp2_with (go_at_call 57; (with_reducible refine HI'.out.mono ?_); rintro e w4 ⟨rfl, hb4⟩; obtain ⟨Y0, Y1, HW4'⟩ := HX.out w4 hb4; have HW4 : Hid (Below w.heap.size w w4) := HW4'; have HY0 : Hid (Bx w4 w.heap.size #[.int .u8 0, .int .i64 0, .int .i64 0] 50) := Y0; have HY1 : Hid (Bx w4 (w.heap.size + 1) #[.int .i64 0, .int .i64 0, .int .i64 0] 26) := Y1; obtain ⟨z0, z1, z2, z3, z4, z5, zf, zh⟩ := two_of Y0 Y1; have f0 := zf 0; have f1 := zf 1; have f2 := zf 2; have h0 := zh 0; have h1 := zh 1; have h2 := zh 2; clear hb4 HW4' Y0 Y1 zf zh)
    obtain ⟨r0, r1, r2, r3, r4, r5⟩ := two_boxes HY0.out HY1.out (.int .u8 0) (.int .i64 0) (.int .i64 0) (.int .i64 (y : Int)) (.int .i64 0) (.int .i64 (z : Int))
    refine bodyPost_ret (v := .tuple #[.agg #[.int .u8 0, .int .i64 0, .int .i64 0], .agg #[.int .i64 (y : Int), .int .i64 0, .int .i64 (z : Int)]]) (by simp [results, Tryz.results37, go_sem, r0, r1, r2, r3, r4, r5]) rfl ⟨rfl, bel_two HW4.out (Nat.le_refl _)⟩

set_option maxRecDepth 1000000 in
set_option maxHeartbeats 4000000 in
theorem quoted_39 (b : Nat) (s : ByteArray) (p : Nat) (hs : s.size ≤ 4294967280) (hp : p < s.size) (hc : (s[p]'hp).toNat = 39) (w : World) (hb : w.cell? ⟨b, 0, none⟩ = some (.string s)) (hT : U8 w) :
    Calls Tryz.prog 37 #[.pointer (some ⟨b, 0, none⟩), .int .i64 p] w fun e w' => e = .returned (.tuple #[tokV p (quP s p), fltV (quP s p)]) ∧ Below w.heap.size w w' := by
  have hbl : b < w.heap.size := World.block_lt_of_cell? _ _ hb
  have hp' : (p : Int) < (s.size : Int) := by omega
  rw [quP_items (q := 39) (kd := 4) (by rw [bt_in hp, hc]) (by omega)]
  obtain ⟨w2, e2, hw, hs2, B0, B1⟩ := bx2 w #[.int .u8 0, .int .i64 0, .int .i64 0] #[.int .i64 0, .int .i64 0, .int .i64 0] 50 26
  have HE2 : Hid ((w.alloc (.cells #[.int .u8 0, .int .i64 0, .int .i64 0] 50)).alloc (.cells #[.int .i64 0, .int .i64 0, .int .i64 0] 26) = w2) := e2
  have c2 : w2.cell? ⟨b, 0, none⟩ = some (.string s) := (hw.cell (p := ⟨b, 0, none⟩) hbl).trans hb
  have hb2 : b < w2.heap.size := by omega
  have HI : Hid (Calls Tryz.prog 57 #[.pointer (some ⟨b, 0, none⟩), .int .i64 p, .int .u8 4] w2 fun e w' => e = .returned (.tuple #[tokV p (itP s p 39 4), fltV (itP s p 39 4)]) ∧ Below w2.heap.size w2 w') := items_any b s p 39 4 hs hp hc (by omega) w2 c2 (hT.below hw)
  have HX : Hid (∀ v, Below w2.heap.size w2 v → Bx v w.heap.size #[.int .u8 0, .int .i64 0, .int .i64 0] 50 ∧ Bx v (w.heap.size + 1) #[.int .i64 0, .int .i64 0, .int .i64 0] 26 ∧ Below w.heap.size w v) :=
    fun v h => ⟨B0.below h B0.lt, B1.below h B1.lt, hw.trans (h.mono hw.size)⟩
  clear e2 hw hs2 B0 B1 hT hb
  cases hP : itP s p 39 4 with
  | ok k t =>
    rw [hP] at HI
    have HI' : Hid (Calls Tryz.prog 57 #[.pointer (some ⟨b, 0, none⟩), .int .i64 p, .int .u8 4] w2 fun e w' => e = .returned (.tuple #[.agg #[.int .u8 (k : Int), .int .i64 (p : Int), .int .i64 (t : Int)], .agg #[.int .i64 0, .int .i64 0, .int .i64 0]]) ∧ Below w2.heap.size w2 w') := HI
    clear HI hP
    go_enter Tryz.func37, Tryz.ntmps37
    go_upto_region 1 with fail
    rw [HE2.out]
    go_wp2_with (go_at_call 57; (with_reducible refine HI'.out.mono ?_); rintro e w4 ⟨rfl, hb4⟩; obtain ⟨Y0, Y1, HW4'⟩ := HX.out w4 hb4; have HW4 : Hid (Below w.heap.size w w4) := HW4'; have HY0 : Hid (Bx w4 w.heap.size #[.int .u8 0, .int .i64 0, .int .i64 0] 50) := Y0; have HY1 : Hid (Bx w4 (w.heap.size + 1) #[.int .i64 0, .int .i64 0, .int .i64 0] 26) := Y1; obtain ⟨z0, z1, z2, z3, z4, z5, zf, zh⟩ := two_of Y0 Y1; have f0 := zf 0; have f1 := zf 1; have f2 := zf 2; have h0 := zh 0; have h1 := zh 1; have h2 := zh 2; clear hb4 HW4' Y0 Y1 zf zh)
    obtain ⟨r0, r1, r2, r3, r4, r5⟩ := two_boxes HY0.out HY1.out (.int .u8 (k : Int)) (.int .i64 (p : Int)) (.int .i64 (t : Int)) (.int .i64 0) (.int .i64 0) (.int .i64 0)
    refine bodyPost_ret (v := .tuple #[.agg #[.int .u8 (k : Int), .int .i64 (p : Int), .int .i64 (t : Int)], .agg #[.int .i64 0, .int .i64 0, .int .i64 0]]) (by simp [results, Tryz.results37, go_sem, r0, r1, r2, r3, r4, r5]) rfl ⟨rfl, bel_two HW4.out (Nat.le_refl _)⟩
  | no y z =>
    rw [hP] at HI
    have HI' : Hid (Calls Tryz.prog 57 #[.pointer (some ⟨b, 0, none⟩), .int .i64 p, .int .u8 4] w2 fun e w' => e = .returned (.tuple #[.agg #[.int .u8 0, .int .i64 0, .int .i64 0], .agg #[.int .i64 (y : Int), .int .i64 0, .int .i64 (z : Int)]]) ∧ Below w2.heap.size w2 w') := HI
    clear HI hP
    go_enter Tryz.func37, Tryz.ntmps37
    go_upto_region 1 with fail
    rw [HE2.out]
    go_wp2_with (go_at_call 57; (with_reducible refine HI'.out.mono ?_); rintro e w4 ⟨rfl, hb4⟩; obtain ⟨Y0, Y1, HW4'⟩ := HX.out w4 hb4; have HW4 : Hid (Below w.heap.size w w4) := HW4'; have HY0 : Hid (Bx w4 w.heap.size #[.int .u8 0, .int .i64 0, .int .i64 0] 50) := Y0; have HY1 : Hid (Bx w4 (w.heap.size + 1) #[.int .i64 0, .int .i64 0, .int .i64 0] 26) := Y1; obtain ⟨z0, z1, z2, z3, z4, z5, zf, zh⟩ := two_of Y0 Y1; have f0 := zf 0; have f1 := zf 1; have f2 := zf 2; have h0 := zh 0; have h1 := zh 1; have h2 := zh 2; clear hb4 HW4' Y0 Y1 zf zh)
    obtain ⟨r0, r1, r2, r3, r4, r5⟩ := two_boxes HY0.out HY1.out (.int .u8 0) (.int .i64 0) (.int .i64 0) (.int .i64 (y : Int)) (.int .i64 0) (.int .i64 (z : Int))
    refine bodyPost_ret (v := .tuple #[.agg #[.int .u8 0, .int .i64 0, .int .i64 0], .agg #[.int .i64 (y : Int), .int .i64 0, .int .i64 (z : Int)]]) (by simp [results, Tryz.results37, go_sem, r0, r1, r2, r3, r4, r5]) rfl ⟨rfl, bel_two HW4.out (Nat.le_refl _)⟩
end Go.Proofs.YtmnbakalcpanlaaGreatDoor
