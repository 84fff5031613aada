import Derived.Test.YtmnbakalcpanlaaGreatDoorLmp
namespace Go.Proofs.YtmnbakalcpanlaaGreatDoor
open Go.ChangeShapes Go.WideShapes Go.ChangeAt Go.RowKit Go.Maps Go.WideMaps
set_option linter.unusedVariables false
set_option linter.unusedSimpArgs false

/-- the two boxes of an answer are laid -/
theorem start2 (w : World) (b : Nat) (s : ByteArray) (hb : w.cell? ⟨b, 0, none⟩ = some (.string s)) : ∃ w2, (w.alloc (.cells #[.int .u8 0, .int .i64 0, .int .i64 0] 50)).alloc (.cells #[.int .i64 0, .int .i64 0, .int .i64 0] 26) = w2 ∧ Below w.heap.size w w2 ∧ w2.heap.size = w.heap.size + 2 ∧
    ∀ v, Below w2.heap.size w2 v → Bx v w.heap.size #[.int .u8 0, .int .i64 0, .int .i64 0] 50 ∧ Bx v (w.heap.size + 1) #[.int .i64 0, .int .i64 0, .int .i64 0] 26 ∧ v.cell? ⟨b, 0, none⟩ = some (.string s) ∧ b < v.heap.size ∧ Below w.heap.size w v := by
  have hbl : b < w.heap.size := World.block_lt_of_cell? _ _ hb
  obtain ⟨w2, e2, hw, hs2, B0, B1⟩ := bx2 w #[.int .u8 0, .int .i64 0, .int .i64 0] #[.int .i64 0, .int .i64 0, .int .i64 0] 50 26
  refine ⟨w2, e2, hw, hs2, fun v h => ⟨B0.below h B0.lt, B1.below h B1.lt, (h.cell (p := ⟨b, 0, none⟩) (by show b < _; omega)).trans ((hw.cell (p := ⟨b, 0, none⟩) hbl).trans hb), by have := h.size; omega, hw.trans (h.mono hw.size)⟩⟩
theorem blE_in {s : ByteArray} {k : Nat} (h : k < s.size) (hb : blk (bt s k) = true) : blE s k = blE s (k + 1) := by rw [blE, dif_pos ⟨h, hb⟩]
theorem blE_out {s : ByteArray} {k : Nat} (h : ¬ (k < s.size ∧ blk (bt s k) = true)) : blE s k = k := by rw [blE, dif_neg h]

set_option maxRecDepth 1000000 in
set_option maxHeartbeats 4000000 in
theorem blanks_any (b : Nat) (s : ByteArray) (p : Nat) (hs : s.size ≤ 4294967280) (hp : p < s.size) (w : World) (hb : w.cell? ⟨b, 0, none⟩ = some (.string s)) :
    Calls Tryz.prog 29 #[.pointer (some ⟨b, 0, none⟩), .int .i64 (p : Int)] w fun e w' => e = .returned (.tuple #[tokV p (.ok 0 (blE s p)), fltV (.ok 0 (blE s p))]) ∧ Below w.heap.size w w' := by
  have hbl : b < w.heap.size := World.block_lt_of_cell? _ _ hb
  have hp' : (p : Int) < (s.size : Int) := by omega
  obtain ⟨w2, e2, hw, hs2, hX⟩ := start2 w b s hb
  have HE2 : Hid ((w.alloc (.cells #[.int .u8 0, .int .i64 0, .int .i64 0] 50)).alloc (.cells #[.int .i64 0, .int .i64 0, .int .i64 0] 26) = w2) := e2
  have HX : Hid (∀ v, Below w2.heap.size w2 v → Bx v w.heap.size #[.int .u8 0, .int .i64 0, .int .i64 0] 50 ∧ Bx v (w.heap.size + 1) #[.int .i64 0, .int .i64 0, .int .i64 0] 26 ∧ v.cell? ⟨b, 0, none⟩ = some (.string s) ∧ b < v.heap.size ∧ Below w.heap.size w v) := hX
  have HW2 : Hid (Below w.heap.size w w2) := hw
  obtain ⟨-, -, c2, b2, -⟩ := hX w2 (Below.refl _ _)
  clear e2 hw hX hb
  obtain ⟨E, hE⟩ : ∃ E, blE s p = E := ⟨_, rfl⟩
  have HE : Hid (blE s p = E) := hE
  rw [hE]
  clear hE
  go_enter Tryz.func29, Tryz.ntmps29
  go_upto_region 1 with fail
  rw [HE2.out]
  go_wp2
  go_loopw [6] (fun st wr => ∃ k : Nat, p ≤ k ∧ k ≤ s.size ∧ st = .int .i64 (k : Int) ∧ blE s k = E ∧ wr = w2) (fun st _ => s.size - (intOf st).toNat)
  case atStart => exact ⟨p, Nat.le_refl _, by omega, rfl, HE.out, rfl⟩
  case round =>
    obtain ⟨k, hpk, hk, rfl, hke, rfl⟩ := hrel
    by_cases hlt : k < s.size
    · have hlt' : (k : Int) < (s.size : Int) := by omega
      obtain ⟨n, hn⟩ : ∃ n, (s[k]'hlt).toNat = n := ⟨_, rfl⟩
      have hbt : bt s k = n := by rw [bt_in hlt, hn]
      cases hbn : blk n with
      | true =>
        have hst := blE_in hlt (by rw [hbt]; exact hbn)
        go_wp2_with (go_at_call 48; (with_reducible refine (isBlank_any n _).mono ?_); rintro e w3 ⟨rfl, hw3⟩; subst hw3; rw [hbn])
        go_roundw
        case rel => exact ⟨k + 1, by omega, by omega, by go_num, by rw [← hst]; exact hke, by first | rfl | trivial⟩
        case measure => simp [intOf]; omega
      | false =>
        have hst := blE_out (s := s) (k := k) (by rw [hbt, hbn]; simp)
        rw [hst] at hke
        subst hke
        obtain ⟨Y0, Y1, -, -, HWv⟩ := HX.out wr (Below.refl _ _)
        have HW4 : Hid (Below w.heap.size w wr) := HWv
        have HY0 : Hid (Bx wr w.heap.size #[.int .u8 0, .int .i64 0, .int .i64 0] 50) := Y0
        have HY1 : Hid (Bx wr (w.heap.size + 1) #[.int .i64 0, .int .i64 0, .int .i64 0] 26) := Y1
        obtain ⟨z0, z1, z2, z3, z4, z5, zf, zh⟩ := two_of Y0 Y1
        have f0 := zf 0
        have f1 := zf 1
        have f2 := zf 2
        have h0 := zh 0
        have h1 := zh 1
        have h2 := zh 2
        clear HWv Y0 Y1 zf zh
        go_wp2_with (go_at_call 48; (with_reducible refine (isBlank_any n _).mono ?_); rintro e w3 ⟨rfl, hw3⟩; subst hw3; rw [hbn])
        obtain ⟨r0, r1, r2, r3, r4, r5⟩ := two_boxes HY0.out HY1.out (.int .u8 0) (.int .i64 (p : Int)) (.int .i64 (k : Int)) (.int .i64 0) (.int .i64 0) (.int .i64 0)
        refine bodyPost_ret (v := .tuple #[.agg #[.int .u8 0, .int .i64 (p : Int), .int .i64 (k : Int)], .agg #[.int .i64 0, .int .i64 0, .int .i64 0]]) (by simp [results, Tryz.results29, go_sem, r0, r1, r2, r3, r4, r5]) rfl ⟨by simp [tokV, fltV], bel_two HW4.out (Nat.le_refl _)⟩
    · have hge : ¬ (k : Int) < (s.size : Int) := by omega
      have hst := blE_out (s := s) (k := k) (by omega)
      rw [hst] at hke
      subst hke
      obtain ⟨Y0, Y1, -, -, HWv⟩ := HX.out wr (Below.refl _ _)
      have HW4 : Hid (Below w.heap.size w wr) := HWv
      have HY0 : Hid (Bx wr w.heap.size #[.int .u8 0, .int .i64 0, .int .i64 0] 50) := Y0
      have HY1 : Hid (Bx wr (w.heap.size + 1) #[.int .i64 0, .int .i64 0, .int .i64 0] 26) := Y1
      obtain ⟨z0, z1, z2, z3, z4, z5, zf, zh⟩ := two_of Y0 Y1
      have f0 := zf 0
      have f1 := zf 1
      have f2 := zf 2
      have h0 := zh 0
      have h1 := zh 1
      have h2 := zh 2
      clear HWv Y0 Y1 zf zh
      go_wp2
      obtain ⟨r0, r1, r2, r3, r4, r5⟩ := two_boxes HY0.out HY1.out (.int .u8 0) (.int .i64 (p : Int)) (.int .i64 (k : Int)) (.int .i64 0) (.int .i64 0) (.int .i64 0)
      refine bodyPost_ret (v := .tuple #[.agg #[.int .u8 0, .int .i64 (p : Int), .int .i64 (k : Int)], .agg #[.int .i64 0, .int .i64 0, .int .i64 0]]) (by simp [results, Tryz.results29, go_sem, r0, r1, r2, r3, r4, r5]) rfl ⟨by simp [tokV, fltV], bel_two HW4.out (Nat.le_refl _)⟩

set_option maxRecDepth 1000000 in
set_option maxHeartbeats 4000000 in
theorem raw_any (b : Nat) (s : ByteArray) (p : Nat) (hs : s.size ≤ 4294967280) (hp : p < s.size) (w : World) (hb : w.cell? ⟨b, 0, none⟩ = some (.string s)) :
    Calls Tryz.prog 56 #[.pointer (some ⟨b, 0, none⟩), .int .i64 (p : Int)] w fun e w' => e = .returned (.tuple #[tokV p (if fnd s 96 (p + 1) < s.size then .ok 5 (fnd s 96 (p + 1) + 1) else .no 22 p), fltV (if fnd s 96 (p + 1) < s.size then .ok 5 (fnd s 96 (p + 1) + 1) else .no 22 p)]) ∧ Below w.heap.size w w' := by
  have hbl : b < w.heap.size := World.block_lt_of_cell? _ _ hb
  have hp' : (p : Int) < (s.size : Int) := by omega
  obtain ⟨w2, e2, hw, hs2, hX⟩ := start2 w b s hb
  have HE2 : Hid ((w.alloc (.cells #[.int .u8 0, .int .i64 0, .int .i64 0] 50)).alloc (.cells #[.int .i64 0, .int .i64 0, .int .i64 0] 26) = w2) := e2
  have HX : Hid (∀ v, Below w2.heap.size w2 v → Bx v w.heap.size #[.int .u8 0, .int .i64 0, .int .i64 0] 50 ∧ Bx v (w.heap.size + 1) #[.int .i64 0, .int .i64 0, .int .i64 0] 26 ∧ v.cell? ⟨b, 0, none⟩ = some (.string s) ∧ b < v.heap.size ∧ Below w.heap.size w v) := hX
  have HW2 : Hid (Below w.heap.size w w2) := hw
  obtain ⟨-, -, c2, b2, -⟩ := hX w2 (Below.refl _ _)
  clear e2 hw hX hb
  have HI : Hid (∀ v, Calls Tryz.prog 50 #[.string (s.extract (p + 1) s.size), .int .u8 96] v fun e w' => e = .returned (.int .i64 (if fnd s 96 (p + 1) < s.size then ((fnd s 96 (p + 1) : Nat) : Int) - ((p + 1 : Nat) : Int) else -1)) ∧ w' = v) := fun v => by
    have h := Tryz.strings_IndexByte (s.extract (p + 1) s.size) 96 v
    have e : Lib.indexByte (s.extract (p + 1) s.size).data.toList (96 : UInt8) = _ := idx_fnd s 96 (s.size - (p + 1)) (p + 1) (Nat.le_refl _) (by omega)
    rw [show Int.toNat 96 = 96 from rfl, show Nat.toUInt8 96 = (96 : UInt8) from rfl, e] at h
    exact h
  have hle := fnd_le s 96 (s.size - (p + 1)) (p + 1) (Nat.le_refl _) (by omega)
  obtain ⟨T, hT⟩ : ∃ T, fnd s 96 (p + 1) = T := ⟨_, rfl⟩
  rw [hT] at HI hle ⊢
  clear hT
  obtain ⟨Y0, Y1, -, -, HWv⟩ := HX.out w2 (Below.refl _ _)
  have HW4 : Hid (Below w.heap.size w w2) := HWv
  have HY0 : Hid (Bx w2 w.heap.size #[.int .u8 0, .int .i64 0, .int .i64 0] 50) := Y0
  have HY1 : Hid (Bx w2 (w.heap.size + 1) #[.int .i64 0, .int .i64 0, .int .i64 0] 26) := Y1
  obtain ⟨z0, z1, z2, z3, z4, z5, zf, zh⟩ := two_of Y0 Y1
  have f0 := zf 0
  have f1 := zf 1
  have f2 := zf 2
  have h0 := zh 0
  have h1 := zh 1
  have h2 := zh 2
  clear HWv Y0 Y1 zf zh
  by_cases hlt : T < s.size
  · rw [if_pos hlt] at HI ⊢
    obtain ⟨N, rfl⟩ : ∃ N, T = p + 1 + N := ⟨T - (p + 1), by omega⟩
    have HI' : Hid (∀ v, Calls Tryz.prog 50 #[.string (s.extract (p + 1) s.size), .int .u8 96] v fun e w' => e = .returned (.int .i64 (N : Int)) ∧ w' = v) := fun v => by
      have h := HI.out v
      rw [show ((p + 1 + N : Nat) : Int) - ((p + 1 : Nat) : Int) = (N : Int) by omega] at h
      exact h
    clear HI
    have hn0 : ¬ (N : Int) < 0 := by omega
    go_enter Tryz.func56, Tryz.ntmps56
    go_upto_region 1 with fail
    rw [HE2.out]
    go_wp2_with (go_at_call 50; (with_reducible refine (HI'.out _).mono ?_); rintro e w3 ⟨rfl, hw3⟩; subst hw3)
    obtain ⟨r0, r1, r2, r3, r4, r5⟩ := two_boxes HY0.out HY1.out (.int .u8 5) (.int .i64 (p : Int)) (.int .i64 ((p : Int) + 1 + (N : Int) + 1)) (.int .i64 0) (.int .i64 0) (.int .i64 0)
    refine bodyPost_ret (v := .tuple #[.agg #[.int .u8 5, .int .i64 (p : Int), .int .i64 ((p : Int) + 1 + (N : Int) + 1)], .agg #[.int .i64 0, .int .i64 0, .int .i64 0]]) (by simp [results, Tryz.results56, go_sem, r0, r1, r2, r3, r4, r5]) rfl ⟨by simp [tokV, fltV] <;> omega, bel_two HW4.out (Nat.le_refl _)⟩
  · rw [if_neg hlt] at HI ⊢
    clear HW4 HY0 HY1 z0 z1 z2 z3 z4 z5 f0 f1 f2 h0 h1 h2
    have hn0 : (-1 : Int) < 0 := by decide
    go_enter Tryz.func56, Tryz.ntmps56
    go_upto_region 1 with fail
    rw [HE2.out]
    go_wp2_with (first
      | (go_at_call 50; (with_reducible refine (HI.out _).mono ?_); rintro e w3 ⟨rfl, hw3⟩; subst hw3)
      | (go_at_call 22; (with_reducible refine (faultAt_any _ _ _).mono ?_); rintro e w4 ⟨rfl, hb4⟩; obtain ⟨Y0, Y1, -, -, HWv⟩ := HX.out w4 hb4; have HW4 : Hid (Below w.heap.size w w4) := HWv; have HY0 : Hid (Bx w4 w.heap.size #[.int .u8 0, .int .i64 0, .int .i64 0] 50) := Y0; have HY1 : Hid (Bx w4 (w.heap.size + 1) #[.int .i64 0, .int .i64 0, .int .i64 0] 26) := Y1; obtain ⟨z0, z1, z2, z3, z4, z5, zf, zh⟩ := two_of Y0 Y1; have f0 := zf 0; have f1 := zf 1; have f2 := zf 2; have h0 := zh 0; have h1 := zh 1; have h2 := zh 2; clear HWv Y0 Y1 zf zh; clear hb4))
    obtain ⟨r0, r1, r2, r3, r4, r5⟩ := two_boxes HY0.out HY1.out (.int .u8 0) (.int .i64 0) (.int .i64 0) (.int .i64 22) (.int .i64 0) (.int .i64 (p : Int))
    refine bodyPost_ret (v := .tuple #[.agg #[.int .u8 0, .int .i64 0, .int .i64 0], .agg #[.int .i64 22, .int .i64 0, .int .i64 (p : Int)]]) (by simp [results, Tryz.results56, go_sem, r0, r1, r2, r3, r4, r5]) rfl ⟨rfl, bel_two HW4.out (Nat.le_refl _)⟩

set_option maxRecDepth 1000000 in
set_option maxHeartbeats 4000000 in
theorem note_any (b : Nat) (s : ByteArray) (p : Nat) (hs : s.size ≤ 4294967280) (hp : p < s.size) (hn : bt s (p + 1) = 47 ∨ bt s (p + 1) = 42) (hp0 : bt s p = 47) (w : World) (hb : w.cell? ⟨b, 0, none⟩ = some (.string s)) (hM : ∃ m, w.cell? ⟨1, 0, none⟩ = some (.int .i64 m)) :
    Calls Tryz.prog 31 #[.pointer (some ⟨b, 0, none⟩), .int .i64 (p : Int)] w fun e w' => e = .returned (.tuple #[tokV p (noP s p), fltV (noP s p)]) ∧ Below w.heap.size w w' := by
  have hp1 : p + 1 < s.size := by
    by_cases h : p + 1 < s.size
    · exact h
    · have := bt_out h; omega
  have hp1' : (p : Int) + 1 < (s.size : Int) := by omega
  have hp2' : (p : Int) + 2 ≤ (s.size : Int) := by omega
  have hMl : 1 < w.heap.size := by obtain ⟨m, hm⟩ := hM; exact World.block_lt_of_cell? _ _ hm
  have HM : Hid (∃ m, w.cell? ⟨1, 0, none⟩ = some (.int .i64 m)) := hM
  clear hM
  have hbl : b < w.heap.size := World.block_lt_of_cell? _ _ hb
  have hp' : (p : Int) < (s.size : Int) := by omega
  obtain ⟨w2, e2, hw, hs2, hX⟩ := start2 w b s hb
  have HE2 : Hid ((w.alloc (.cells #[.int .u8 0, .int .i64 0, .int .i64 0] 50)).alloc (.cells #[.int .i64 0, .int .i64 0, .int .i64 0] 26) = w2) := e2
  have HX : Hid (∀ v, Below w2.heap.size w2 v → Bx v w.heap.size #[.int .u8 0, .int .i64 0, .int .i64 0] 50 ∧ Bx v (w.heap.size + 1) #[.int .i64 0, .int .i64 0, .int .i64 0] 26 ∧ v.cell? ⟨b, 0, none⟩ = some (.string s) ∧ b < v.heap.size ∧ Below w.heap.size w v) := hX
  have HW2 : Hid (Below w.heap.size w w2) := hw
  obtain ⟨-, -, c2, b2, -⟩ := hX w2 (Below.refl _ _)
  clear e2 hw hX hb
  obtain ⟨n, hn1⟩ : ∃ n, (s[p + 1]'hp1).toNat = n := ⟨_, rfl⟩
  have hbt : bt s (p + 1) = n := by rw [bt_in hp1, hn1]
  by_cases h47 : n = 47
  · subst h47
    have HR : Hid (noP s p = .ok 1 (fnd s 10 p)) := by unfold Hid noP; rw [if_pos (by omega)]
    have hf : fnd s 10 p = fnd s 10 (p + 2) := by rw [fnd_in (by omega) (by omega), fnd_in (by omega) (by omega)]
    have HI : Hid (∀ v, Calls Tryz.prog 50 #[.string (s.extract (p + 2) s.size), .int .u8 10] v fun e w' => e = .returned (.int .i64 (if fnd s 10 (p + 2) < s.size then ((fnd s 10 (p + 2) : Nat) : Int) - ((p + 2 : Nat) : Int) else -1)) ∧ w' = v) := fun v => by
      have h := Tryz.strings_IndexByte (s.extract (p + 2) s.size) 10 v
      have e : Lib.indexByte (s.extract (p + 2) s.size).data.toList (10 : UInt8) = _ := idx_fnd s 10 (s.size - (p + 2)) (p + 2) (Nat.le_refl _) (by omega)
      rw [show Int.toNat 10 = 10 from rfl, show Nat.toUInt8 10 = (10 : UInt8) from rfl, e] at h
      exact h
    have hle := fnd_le s 10 (s.size - (p + 2)) (p + 2) (Nat.le_refl _) (by omega)
    rw [hf] at HR
    obtain ⟨T, hT⟩ : ∃ T, fnd s 10 (p + 2) = T := ⟨_, rfl⟩
    rw [hT] at HI hle HR
    clear hT hf hbt hn
    obtain ⟨Y0, Y1, -, -, HWv⟩ := HX.out w2 (Below.refl _ _)
    have HW4 : Hid (Below w.heap.size w w2) := HWv
    have HY0 : Hid (Bx w2 w.heap.size #[.int .u8 0, .int .i64 0, .int .i64 0] 50) := Y0
    have HY1 : Hid (Bx w2 (w.heap.size + 1) #[.int .i64 0, .int .i64 0, .int .i64 0] 26) := Y1
    obtain ⟨z0, z1, z2, z3, z4, z5, zf, zh⟩ := two_of Y0 Y1
    have f0 := zf 0
    have f1 := zf 1
    have f2 := zf 2
    have h0 := zh 0
    have h1 := zh 1
    have h2 := zh 2
    clear HWv Y0 Y1 zf zh
    by_cases hlt : T < s.size
    · rw [if_pos hlt] at HI
      obtain ⟨N, rfl⟩ : ∃ N, T = p + 2 + N := ⟨T - (p + 2), by omega⟩
      have HI' : Hid (∀ v, Calls Tryz.prog 50 #[.string (s.extract (p + 2) s.size), .int .u8 10] v fun e w' => e = .returned (.int .i64 (N : Int)) ∧ w' = v) := fun v => by
        have h := HI.out v
        rw [show ((p + 2 + N : Nat) : Int) - ((p + 2 : Nat) : Int) = (N : Int) by omega] at h
        exact h
      clear HI
      have hn0 : ¬ (N : Int) < 0 := by omega
      go_enter Tryz.func31, Tryz.ntmps31
      go_upto_region 1 with fail
      rw [HE2.out]
      go_wp2_with (go_at_call 50; (with_reducible refine (HI'.out _).mono ?_); rintro e w3 ⟨rfl, hw3⟩; subst hw3)
      obtain ⟨r0, r1, r2, r3, r4, r5⟩ := two_boxes HY0.out HY1.out (.int .u8 1) (.int .i64 (p : Int)) (.int .i64 ((p : Int) + 2 + (N : Int))) (.int .i64 0) (.int .i64 0) (.int .i64 0)
      refine bodyPost_ret (v := .tuple #[.agg #[.int .u8 1, .int .i64 (p : Int), .int .i64 ((p : Int) + 2 + (N : Int))], .agg #[.int .i64 0, .int .i64 0, .int .i64 0]]) (by simp [results, Tryz.results31, go_sem, r0, r1, r2, r3, r4, r5]) rfl ⟨by rw [HR.out]; simp [noO, tokV, fltV] <;> omega, bel_two HW4.out (Nat.le_refl _)⟩
    · rw [if_neg hlt] at HI
      have hn0 : (-1 : Int) < 0 := by decide
      have hzz : ((s.extract (p + 2) s.size).size : Int) = (s.size : Int) - ((p : Int) + 2) := by rw [ByteArray.size_extract]; omega
      go_enter Tryz.func31, Tryz.ntmps31
      go_upto_region 1 with fail
      rw [HE2.out]
      go_wp2_with (go_at_call 50; (with_reducible refine (HI.out _).mono ?_); rintro e w3 ⟨rfl, hw3⟩; subst hw3)
      obtain ⟨r0, r1, r2, r3, r4, r5⟩ := two_boxes HY0.out HY1.out (.int .u8 1) (.int .i64 (p : Int)) (.int .i64 ((p : Int) + 2 + ((s.size - (p + 2) : Nat) : Int))) (.int .i64 0) (.int .i64 0) (.int .i64 0)
      refine bodyPost_ret (v := .tuple #[.agg #[.int .u8 1, .int .i64 (p : Int), .int .i64 ((p : Int) + 2 + ((s.size - (p + 2) : Nat) : Int))], .agg #[.int .i64 0, .int .i64 0, .int .i64 0]]) (by simp [results, Tryz.results31, go_sem, r0, r1, r2, r3, r4, r5]) rfl ⟨by rw [HR.out]; simp [noO, tokV, fltV] <;> omega, bel_two HW4.out (Nat.le_refl _)⟩
  · have h42 : n = 42 := by omega
    subst h42
    obtain ⟨O, hO⟩ : ∃ O, fn2 s 42 47 (p + 2) = O := ⟨_, rfl⟩
    have HR : Hid (noP s p = noO p O) := by unfold Hid noP; rw [if_neg (by omega), hO]
    have HI : Hid (∀ v, Below w.heap.size w v → Calls Tryz.prog 51 #[.string (s.extract (p + 2) s.size), .string ⟨#[42, 47]⟩] v fun e w' => e = .returned (.int .i64 (o2I (p + 2) O)) ∧ w' = v) := fun v hv => by
      obtain ⟨m, hm⟩ := HM.out
      have h := Tryz.strings_Index (s.extract (p + 2) s.size) ⟨#[42, 47]⟩ m v (by rw [ByteArray.size_extract]; omega) ((hv.cell (p := ⟨1, 0, none⟩) hMl).trans hm)
      have e : Lib.index (s.extract (p + 2) s.size).data.toList [42, 47] = _ := idx_fn2 s 42 47 (s.size - (p + 2)) (p + 2) (Nat.le_refl _) (by omega)
      rw [show (⟨#[42, 47]⟩ : ByteArray).data.toList = [42, 47] from rfl, e, show (42 : UInt8).toNat = 42 from rfl, show (47 : UInt8).toNat = 47 from rfl, hO] at h
      exact h
    have hn47 : ((42 : Int) == 47) = false := by decide
    cases O with
    | some T =>
      have hle := fn2_le s 42 47 (by omega) (s.size - (p + 2)) (p + 2) T (Nat.le_refl _) hO
      obtain ⟨N, rfl⟩ : ∃ N, T = p + 2 + N := ⟨T - (p + 2), by omega⟩
      have HI' : Hid (∀ v, Below w.heap.size w v → Calls Tryz.prog 51 #[.string (s.extract (p + 2) s.size), .string ⟨#[42, 47]⟩] v fun e w' => e = .returned (.int .i64 (N : Int)) ∧ w' = v) := fun v hv => by
        have h := HI.out v hv
        rw [show o2I (p + 2) (some (p + 2 + N)) = (N : Int) by simp only [o2I]; omega] at h
        exact h
      have hn0 : ¬ (N : Int) < 0 := by omega
      clear HI hO hbt hn
      obtain ⟨Y0, Y1, -, -, HWv⟩ := HX.out w2 (Below.refl _ _)
      have HW4 : Hid (Below w.heap.size w w2) := HWv
      have HY0 : Hid (Bx w2 w.heap.size #[.int .u8 0, .int .i64 0, .int .i64 0] 50) := Y0
      have HY1 : Hid (Bx w2 (w.heap.size + 1) #[.int .i64 0, .int .i64 0, .int .i64 0] 26) := Y1
      obtain ⟨z0, z1, z2, z3, z4, z5, zf, zh⟩ := two_of Y0 Y1
      have f0 := zf 0
      have f1 := zf 1
      have f2 := zf 2
      have h0 := zh 0
      have h1 := zh 1
      have h2 := zh 2
      clear HWv Y0 Y1 zf zh
      go_enter Tryz.func31, Tryz.ntmps31
      go_upto_region 1 with fail
      rw [HE2.out]
      go_wp2_with (go_at_call 51; (with_reducible refine (HI'.out _ HW2.out).mono ?_); rintro e w3 ⟨rfl, hw3⟩; subst hw3)
      obtain ⟨r0, r1, r2, r3, r4, r5⟩ := two_boxes HY0.out HY1.out (.int .u8 1) (.int .i64 (p : Int)) (.int .i64 ((p : Int) + 2 + (N : Int) + 2)) (.int .i64 0) (.int .i64 0) (.int .i64 0)
      refine bodyPost_ret (v := .tuple #[.agg #[.int .u8 1, .int .i64 (p : Int), .int .i64 ((p : Int) + 2 + (N : Int) + 2)], .agg #[.int .i64 0, .int .i64 0, .int .i64 0]]) (by simp [results, Tryz.results31, go_sem, r0, r1, r2, r3, r4, r5]) rfl ⟨by rw [HR.out]; simp [noO, tokV, fltV] <;> omega, bel_two HW4.out (Nat.le_refl _)⟩
    | none =>
      have HI' : Hid (∀ v, Below w.heap.size w v → Calls Tryz.prog 51 #[.string (s.extract (p + 2) s.size), .string ⟨#[42, 47]⟩] v fun e w' => e = .returned (.int .i64 (-1)) ∧ w' = v) := HI
      have hn0 : (-1 : Int) < 0 := by decide
      clear HI hO hbt hn
      go_enter Tryz.func31, Tryz.ntmps31
      go_upto_region 1 with fail
      rw [HE2.out]
      go_wp2_with (first
        | (go_at_call 51; (with_reducible refine (HI'.out _ HW2.out).mono ?_); rintro e w3 ⟨rfl, hw3⟩; subst hw3)
        | (go_at_call 22; (with_reducible refine (faultAt_any _ _ _).mono ?_); rintro e w4 ⟨rfl, hb4⟩; obtain ⟨Y0, Y1, -, -, HWv⟩ := HX.out w4 hb4; have HW4 : Hid (Below w.heap.size w w4) := HWv; have HY0 : Hid (Bx w4 w.heap.size #[.int .u8 0, .int .i64 0, .int .i64 0] 50) := Y0; have HY1 : Hid (Bx w4 (w.heap.size + 1) #[.int .i64 0, .int .i64 0, .int .i64 0] 26) := Y1; obtain ⟨z0, z1, z2, z3, z4, z5, zf, zh⟩ := two_of Y0 Y1; have f0 := zf 0; have f1 := zf 1; have f2 := zf 2; have h0 := zh 0; have h1 := zh 1; have h2 := zh 2; clear HWv Y0 Y1 zf zh; clear hb4))
      obtain ⟨r0, r1, r2, r3, r4, r5⟩ := two_boxes HY0.out HY1.out (.int .u8 0) (.int .i64 0) (.int .i64 0) (.int .i64 23) (.int .i64 0) (.int .i64 (p : Int))
      refine bodyPost_ret (v := .tuple #[.agg #[.int .u8 0, .int .i64 0, .int .i64 0], .agg #[.int .i64 23, .int .i64 0, .int .i64 (p : Int)]]) (by simp [results, Tryz.results31, go_sem, r0, r1, r2, r3, r4, r5]) rfl ⟨by rw [HR.out]; rfl, bel_two HW4.out (Nat.le_refl _)⟩
end Go.Proofs.YtmnbakalcpanlaaGreatDoor
