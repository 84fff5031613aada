import Derived.Test.YtlgddkkpngfmfaaDoorLx0
namespace Go.Proofs.YtlgddkkpngfmfaaDoor
open Go.ChangeShapes Go.WideShapes Go.ChangeAt Go.RowKit
set_option linter.unusedVariables false
set_option linter.unusedSimpArgs false

set_option maxRecDepth 1000000 in
set_option maxHeartbeats 2000000 in
theorem appendByte_7 (B : Nat) (v : Value) (l0 : List UInt8) (c : UInt8) (w : World) (hl0 : l0.length ≤ 70368744177664) (hB : B ≤ w.heap.size) (ho : w.ownsRow B 5 1 v l0.length (bc l0)) (hc : c = 7) :
    Calls Tryd.prog 13 #[v, .int .u8 (c.toNat : Int)] w fun e w' => ∃ v', e = .returned v' ∧ w'.ownsRow B 5 1 v' (l0 ++ [92, 97]).length (bc (l0 ++ [92, 97])) ∧ Below B w w' := by
  obtain ⟨i0, hi, hz0, hz1, hz2⟩ := info_parts infoU8b
  have HO : Hid (w.ownsRow B 5 1 v l0.length (bc l0)) := ho
  clear ho
  have hIx := Tryd.strings_IndexByte ⟨#[7, 8, 12, 10, 13, 9, 11]⟩ (c.toNat : Int) w
  rw [show Lib.indexByte (ByteArray.mk #[7, 8, 12, 10, 13, 9, 11]).data.toList ((c.toNat : Int).toNat.toUInt8) = 0 from by subst hc; decide] at hIx
  clear hc
  go_enter Tryd.func13, Tryd.ntmps13
  go_wp2_with (first | (go_at_call 20; (with_reducible refine hIx.mono ?_); rintro e w1 ⟨rfl, hw1⟩; have hw2 := hw1.symm; clear hw1; subst hw2) | (at_builtin; (refine wpList_append_own_any _ rfl _ _ 34 rfl B 5 i0 (.int .u8 0) 1 1 Tryd.underlying34 hi hz0 hz1 hz2 rfl (by decide) _ _ _ rfl (HO.out.alloc _) (some ⟨w.heap.size, 0, none⟩) 2 2 (bc [92, 97]) rfl (by rfl) (fun h => by cases h) (fun ad had => by cases had; exact cells_new w (bc [92, 97]) 5) (bc_one _) (by unfold maxLen; omega) (by omega) (by simp; omega) ?_); intro v9 w9 hown9 hgrow9; have HB9 : Hid (Below B w w9) := ((Below.refl B w).alloc hB _).grown hgrow9 (by simp; omega) (fun g h => (HO.out.lt g h).1); have HO9 : Hid (w9.ownsRow B 5 1 v9 (l0 ++ [92, 97]).length (bc (l0 ++ [92, 97]))) := (by unfold Hid; rw [bc_append, List.length_append]; exact hown9); clear hown9 hgrow9))
  go_ret
  exact ⟨_, rfl, HO9.out, HB9.out⟩

set_option maxRecDepth 1000000 in
set_option maxHeartbeats 2000000 in
theorem appendByte_8 (B : Nat) (v : Value) (l0 : List UInt8) (c : UInt8) (w : World) (hl0 : l0.length ≤ 70368744177664) (hB : B ≤ w.heap.size) (ho : w.ownsRow B 5 1 v l0.length (bc l0)) (hc : c = 8) :
    Calls Tryd.prog 13 #[v, .int .u8 (c.toNat : Int)] w fun e w' => ∃ v', e = .returned v' ∧ w'.ownsRow B 5 1 v' (l0 ++ [92, 98]).length (bc (l0 ++ [92, 98])) ∧ Below B w w' := by
  obtain ⟨i0, hi, hz0, hz1, hz2⟩ := info_parts infoU8b
  have HO : Hid (w.ownsRow B 5 1 v l0.length (bc l0)) := ho
  clear ho
  have hIx := Tryd.strings_IndexByte ⟨#[7, 8, 12, 10, 13, 9, 11]⟩ (c.toNat : Int) w
  rw [show Lib.indexByte (ByteArray.mk #[7, 8, 12, 10, 13, 9, 11]).data.toList ((c.toNat : Int).toNat.toUInt8) = 1 from by subst hc; decide] at hIx
  clear hc
  go_enter Tryd.func13, Tryd.ntmps13
  go_wp2_with (first | (go_at_call 20; (with_reducible refine hIx.mono ?_); rintro e w1 ⟨rfl, hw1⟩; have hw2 := hw1.symm; clear hw1; subst hw2) | (at_builtin; (refine wpList_append_own_any _ rfl _ _ 34 rfl B 5 i0 (.int .u8 0) 1 1 Tryd.underlying34 hi hz0 hz1 hz2 rfl (by decide) _ _ _ rfl (HO.out.alloc _) (some ⟨w.heap.size, 0, none⟩) 2 2 (bc [92, 98]) rfl (by rfl) (fun h => by cases h) (fun ad had => by cases had; exact cells_new w (bc [92, 98]) 5) (bc_one _) (by unfold maxLen; omega) (by omega) (by simp; omega) ?_); intro v9 w9 hown9 hgrow9; have HB9 : Hid (Below B w w9) := ((Below.refl B w).alloc hB _).grown hgrow9 (by simp; omega) (fun g h => (HO.out.lt g h).1); have HO9 : Hid (w9.ownsRow B 5 1 v9 (l0 ++ [92, 98]).length (bc (l0 ++ [92, 98]))) := (by unfold Hid; rw [bc_append, List.length_append]; exact hown9); clear hown9 hgrow9))
  go_ret
  exact ⟨_, rfl, HO9.out, HB9.out⟩

set_option maxRecDepth 1000000 in
set_option maxHeartbeats 2000000 in
theorem appendByte_12 (B : Nat) (v : Value) (l0 : List UInt8) (c : UInt8) (w : World) (hl0 : l0.length ≤ 70368744177664) (hB : B ≤ w.heap.size) (ho : w.ownsRow B 5 1 v l0.length (bc l0)) (hc : c = 12) :
    Calls Tryd.prog 13 #[v, .int .u8 (c.toNat : Int)] w fun e w' => ∃ v', e = .returned v' ∧ w'.ownsRow B 5 1 v' (l0 ++ [92, 102]).length (bc (l0 ++ [92, 102])) ∧ Below B w w' := by
  obtain ⟨i0, hi, hz0, hz1, hz2⟩ := info_parts infoU8b
  have HO : Hid (w.ownsRow B 5 1 v l0.length (bc l0)) := ho
  clear ho
  have hIx := Tryd.strings_IndexByte ⟨#[7, 8, 12, 10, 13, 9, 11]⟩ (c.toNat : Int) w
  rw [show Lib.indexByte (ByteArray.mk #[7, 8, 12, 10, 13, 9, 11]).data.toList ((c.toNat : Int).toNat.toUInt8) = 2 from by subst hc; decide] at hIx
  clear hc
  go_enter Tryd.func13, Tryd.ntmps13
  go_wp2_with (first | (go_at_call 20; (with_reducible refine hIx.mono ?_); rintro e w1 ⟨rfl, hw1⟩; have hw2 := hw1.symm; clear hw1; subst hw2) | (at_builtin; (refine wpList_append_own_any _ rfl _ _ 34 rfl B 5 i0 (.int .u8 0) 1 1 Tryd.underlying34 hi hz0 hz1 hz2 rfl (by decide) _ _ _ rfl (HO.out.alloc _) (some ⟨w.heap.size, 0, none⟩) 2 2 (bc [92, 102]) rfl (by rfl) (fun h => by cases h) (fun ad had => by cases had; exact cells_new w (bc [92, 102]) 5) (bc_one _) (by unfold maxLen; omega) (by omega) (by simp; omega) ?_); intro v9 w9 hown9 hgrow9; have HB9 : Hid (Below B w w9) := ((Below.refl B w).alloc hB _).grown hgrow9 (by simp; omega) (fun g h => (HO.out.lt g h).1); have HO9 : Hid (w9.ownsRow B 5 1 v9 (l0 ++ [92, 102]).length (bc (l0 ++ [92, 102]))) := (by unfold Hid; rw [bc_append, List.length_append]; exact hown9); clear hown9 hgrow9))
  go_ret
  exact ⟨_, rfl, HO9.out, HB9.out⟩

set_option maxRecDepth 1000000 in
set_option maxHeartbeats 2000000 in
theorem appendByte_10 (B : Nat) (v : Value) (l0 : List UInt8) (c : UInt8) (w : World) (hl0 : l0.length ≤ 70368744177664) (hB : B ≤ w.heap.size) (ho : w.ownsRow B 5 1 v l0.length (bc l0)) (hc : c = 10) :
    Calls Tryd.prog 13 #[v, .int .u8 (c.toNat : Int)] w fun e w' => ∃ v', e = .returned v' ∧ w'.ownsRow B 5 1 v' (l0 ++ [92, 110]).length (bc (l0 ++ [92, 110])) ∧ Below B w w' := by
  obtain ⟨i0, hi, hz0, hz1, hz2⟩ := info_parts infoU8b
  have HO : Hid (w.ownsRow B 5 1 v l0.length (bc l0)) := ho
  clear ho
  have hIx := Tryd.strings_IndexByte ⟨#[7, 8, 12, 10, 13, 9, 11]⟩ (c.toNat : Int) w
  rw [show Lib.indexByte (ByteArray.mk #[7, 8, 12, 10, 13, 9, 11]).data.toList ((c.toNat : Int).toNat.toUInt8) = 3 from by subst hc; decide] at hIx
  clear hc
  go_enter Tryd.func13, Tryd.ntmps13
  go_wp2_with (first | (go_at_call 20; (with_reducible refine hIx.mono ?_); rintro e w1 ⟨rfl, hw1⟩; have hw2 := hw1.symm; clear hw1; subst hw2) | (at_builtin; (refine wpList_append_own_any _ rfl _ _ 34 rfl B 5 i0 (.int .u8 0) 1 1 Tryd.underlying34 hi hz0 hz1 hz2 rfl (by decide) _ _ _ rfl (HO.out.alloc _) (some ⟨w.heap.size, 0, none⟩) 2 2 (bc [92, 110]) rfl (by rfl) (fun h => by cases h) (fun ad had => by cases had; exact cells_new w (bc [92, 110]) 5) (bc_one _) (by unfold maxLen; omega) (by omega) (by simp; omega) ?_); intro v9 w9 hown9 hgrow9; have HB9 : Hid (Below B w w9) := ((Below.refl B w).alloc hB _).grown hgrow9 (by simp; omega) (fun g h => (HO.out.lt g h).1); have HO9 : Hid (w9.ownsRow B 5 1 v9 (l0 ++ [92, 110]).length (bc (l0 ++ [92, 110]))) := (by unfold Hid; rw [bc_append, List.length_append]; exact hown9); clear hown9 hgrow9))
  go_ret
  exact ⟨_, rfl, HO9.out, HB9.out⟩

set_option maxRecDepth 1000000 in
set_option maxHeartbeats 2000000 in
theorem appendByte_13 (B : Nat) (v : Value) (l0 : List UInt8) (c : UInt8) (w : World) (hl0 : l0.length ≤ 70368744177664) (hB : B ≤ w.heap.size) (ho : w.ownsRow B 5 1 v l0.length (bc l0)) (hc : c = 13) :
    Calls Tryd.prog 13 #[v, .int .u8 (c.toNat : Int)] w fun e w' => ∃ v', e = .returned v' ∧ w'.ownsRow B 5 1 v' (l0 ++ [92, 114]).length (bc (l0 ++ [92, 114])) ∧ Below B w w' := by
  obtain ⟨i0, hi, hz0, hz1, hz2⟩ := info_parts infoU8b
  have HO : Hid (w.ownsRow B 5 1 v l0.length (bc l0)) := ho
  clear ho
  have hIx := Tryd.strings_IndexByte ⟨#[7, 8, 12, 10, 13, 9, 11]⟩ (c.toNat : Int) w
  rw [show Lib.indexByte (ByteArray.mk #[7, 8, 12, 10, 13, 9, 11]).data.toList ((c.toNat : Int).toNat.toUInt8) = 4 from by subst hc; decide] at hIx
  clear hc
  go_enter Tryd.func13, Tryd.ntmps13
  go_wp2_with (first | (go_at_call 20; (with_reducible refine hIx.mono ?_); rintro e w1 ⟨rfl, hw1⟩; have hw2 := hw1.symm; clear hw1; subst hw2) | (at_builtin; (refine wpList_append_own_any _ rfl _ _ 34 rfl B 5 i0 (.int .u8 0) 1 1 Tryd.underlying34 hi hz0 hz1 hz2 rfl (by decide) _ _ _ rfl (HO.out.alloc _) (some ⟨w.heap.size, 0, none⟩) 2 2 (bc [92, 114]) rfl (by rfl) (fun h => by cases h) (fun ad had => by cases had; exact cells_new w (bc [92, 114]) 5) (bc_one _) (by unfold maxLen; omega) (by omega) (by simp; omega) ?_); intro v9 w9 hown9 hgrow9; have HB9 : Hid (Below B w w9) := ((Below.refl B w).alloc hB _).grown hgrow9 (by simp; omega) (fun g h => (HO.out.lt g h).1); have HO9 : Hid (w9.ownsRow B 5 1 v9 (l0 ++ [92, 114]).length (bc (l0 ++ [92, 114]))) := (by unfold Hid; rw [bc_append, List.length_append]; exact hown9); clear hown9 hgrow9))
  go_ret
  exact ⟨_, rfl, HO9.out, HB9.out⟩

set_option maxRecDepth 1000000 in
set_option maxHeartbeats 2000000 in
theorem appendByte_9 (B : Nat) (v : Value) (l0 : List UInt8) (c : UInt8) (w : World) (hl0 : l0.length ≤ 70368744177664) (hB : B ≤ w.heap.size) (ho : w.ownsRow B 5 1 v l0.length (bc l0)) (hc : c = 9) :
    Calls Tryd.prog 13 #[v, .int .u8 (c.toNat : Int)] w fun e w' => ∃ v', e = .returned v' ∧ w'.ownsRow B 5 1 v' (l0 ++ [92, 116]).length (bc (l0 ++ [92, 116])) ∧ Below B w w' := by
  obtain ⟨i0, hi, hz0, hz1, hz2⟩ := info_parts infoU8b
  have HO : Hid (w.ownsRow B 5 1 v l0.length (bc l0)) := ho
  clear ho
  have hIx := Tryd.strings_IndexByte ⟨#[7, 8, 12, 10, 13, 9, 11]⟩ (c.toNat : Int) w
  rw [show Lib.indexByte (ByteArray.mk #[7, 8, 12, 10, 13, 9, 11]).data.toList ((c.toNat : Int).toNat.toUInt8) = 5 from by subst hc; decide] at hIx
  clear hc
  go_enter Tryd.func13, Tryd.ntmps13
  go_wp2_with (first | (go_at_call 20; (with_reducible refine hIx.mono ?_); rintro e w1 ⟨rfl, hw1⟩; have hw2 := hw1.symm; clear hw1; subst hw2) | (at_builtin; (refine wpList_append_own_any _ rfl _ _ 34 rfl B 5 i0 (.int .u8 0) 1 1 Tryd.underlying34 hi hz0 hz1 hz2 rfl (by decide) _ _ _ rfl (HO.out.alloc _) (some ⟨w.heap.size, 0, none⟩) 2 2 (bc [92, 116]) rfl (by rfl) (fun h => by cases h) (fun ad had => by cases had; exact cells_new w (bc [92, 116]) 5) (bc_one _) (by unfold maxLen; omega) (by omega) (by simp; omega) ?_); intro v9 w9 hown9 hgrow9; have HB9 : Hid (Below B w w9) := ((Below.refl B w).alloc hB _).grown hgrow9 (by simp; omega) (fun g h => (HO.out.lt g h).1); have HO9 : Hid (w9.ownsRow B 5 1 v9 (l0 ++ [92, 116]).length (bc (l0 ++ [92, 116]))) := (by unfold Hid; rw [bc_append, List.length_append]; exact hown9); clear hown9 hgrow9))
  go_ret
  exact ⟨_, rfl, HO9.out, HB9.out⟩

set_option maxRecDepth 1000000 in
set_option maxHeartbeats 2000000 in
theorem appendByte_11 (B : Nat) (v : Value) (l0 : List UInt8) (c : UInt8) (w : World) (hl0 : l0.length ≤ 70368744177664) (hB : B ≤ w.heap.size) (ho : w.ownsRow B 5 1 v l0.length (bc l0)) (hc : c = 11) :
    Calls Tryd.prog 13 #[v, .int .u8 (c.toNat : Int)] w fun e w' => ∃ v', e = .returned v' ∧ w'.ownsRow B 5 1 v' (l0 ++ [92, 118]).length (bc (l0 ++ [92, 118])) ∧ Below B w w' := by
  obtain ⟨i0, hi, hz0, hz1, hz2⟩ := info_parts infoU8b
  have HO : Hid (w.ownsRow B 5 1 v l0.length (bc l0)) := ho
  clear ho
  have hIx := Tryd.strings_IndexByte ⟨#[7, 8, 12, 10, 13, 9, 11]⟩ (c.toNat : Int) w
  rw [show Lib.indexByte (ByteArray.mk #[7, 8, 12, 10, 13, 9, 11]).data.toList ((c.toNat : Int).toNat.toUInt8) = 6 from by subst hc; decide] at hIx
  clear hc
  go_enter Tryd.func13, Tryd.ntmps13
  go_wp2_with (first | (go_at_call 20; (with_reducible refine hIx.mono ?_); rintro e w1 ⟨rfl, hw1⟩; have hw2 := hw1.symm; clear hw1; subst hw2) | (at_builtin; (refine wpList_append_own_any _ rfl _ _ 34 rfl B 5 i0 (.int .u8 0) 1 1 Tryd.underlying34 hi hz0 hz1 hz2 rfl (by decide) _ _ _ rfl (HO.out.alloc _) (some ⟨w.heap.size, 0, none⟩) 2 2 (bc [92, 118]) rfl (by rfl) (fun h => by cases h) (fun ad had => by cases had; exact cells_new w (bc [92, 118]) 5) (bc_one _) (by unfold maxLen; omega) (by omega) (by simp; omega) ?_); intro v9 w9 hown9 hgrow9; have HB9 : Hid (Below B w w9) := ((Below.refl B w).alloc hB _).grown hgrow9 (by simp; omega) (fun g h => (HO.out.lt g h).1); have HO9 : Hid (w9.ownsRow B 5 1 v9 (l0 ++ [92, 118]).length (bc (l0 ++ [92, 118]))) := (by unfold Hid; rw [bc_append, List.length_append]; exact hown9); clear hown9 hgrow9))
  go_ret
  exact ⟨_, rfl, HO9.out, HB9.out⟩


/-- no letter stands for it -/
def Ne7 (c : UInt8) : Prop := c ≠ 7 ∧ c ≠ 8 ∧ c ≠ 12 ∧ c ≠ 10 ∧ c ≠ 13 ∧ c ≠ 9 ∧ c ≠ 11
theorem no_esc {c : UInt8} (h : Ne7 c) : Lib.indexByte (ByteArray.mk #[7, 8, 12, 10, 13, 9, 11]).data.toList ((c.toNat : Int).toNat.toUInt8) = -1 := by
  obtain ⟨h1, h2, h3, h4, h5, h6, h7⟩ := h
  have e : ((c.toNat : Int).toNat.toUInt8) = c := by simp
  rw [e]
  simp [Lib.indexByte, Ne.symm h1, Ne.symm h2, Ne.symm h3, Ne.symm h4, Ne.symm h5, Ne.symm h6, Ne.symm h7, h1, h2, h3, h4, h5, h6, h7]

set_option maxRecDepth 1000000 in
set_option maxHeartbeats 2000000 in
theorem appendByte_34 (B : Nat) (v : Value) (l0 : List UInt8) (c : UInt8) (w : World) (hl0 : l0.length ≤ 70368744177664) (hB : B ≤ w.heap.size) (ho : w.ownsRow B 5 1 v l0.length (bc l0)) (hn : Ne7 c) (hc : c = 34) :
    Calls Tryd.prog 13 #[v, .int .u8 (c.toNat : Int)] w fun e w' => ∃ v', e = .returned v' ∧ w'.ownsRow B 5 1 v' (l0 ++ [92, c]).length (bc (l0 ++ [92, c])) ∧ Below B w w' := by
  obtain ⟨i0, hi, hz0, hz1, hz2⟩ := info_parts infoU8b
  have HO : Hid (w.ownsRow B 5 1 v l0.length (bc l0)) := ho
  clear ho
  have hIx := Tryd.strings_IndexByte ⟨#[7, 8, 12, 10, 13, 9, 11]⟩ (c.toNat : Int) w
  have hno : Lib.indexByte (ByteArray.mk #[7, 8, 12, 10, 13, 9, 11]).data.toList ((c.toNat : Int).toNat.toUInt8) = -1 := no_esc hn
  rw [hno] at hIx
  clear hno hn
  have t1 : ((c.toNat : Int) == 34) = true := by rw [hc]; rfl
  clear hc
  go_enter Tryd.func13, Tryd.ntmps13
  go_wp2_with (first | (go_at_call 20; (with_reducible refine hIx.mono ?_); rintro e w1 ⟨rfl, hw1⟩; have hw2 := hw1.symm; clear hw1; subst hw2) | (at_builtin; (refine wpList_append_own_any _ rfl _ _ 34 rfl B 5 i0 (.int .u8 0) 1 1 Tryd.underlying34 hi hz0 hz1 hz2 rfl (by decide) _ _ _ rfl (HO.out.alloc _) (some ⟨w.heap.size, 0, none⟩) 2 2 (bc [92, c]) rfl (by rfl) (fun h => by cases h) (fun ad had => by cases had; exact cells_new w (bc [92, c]) 5) (bc_one _) (by unfold maxLen; omega) (by omega) (by simp; omega) ?_); intro v9 w9 hown9 hgrow9; have HB9 : Hid (Below B w w9) := ((Below.refl B w).alloc hB _).grown hgrow9 (by simp; omega) (fun g h => (HO.out.lt g h).1); have HO9 : Hid (w9.ownsRow B 5 1 v9 (l0 ++ [92, c]).length (bc (l0 ++ [92, c]))) := (by unfold Hid; rw [bc_append, List.length_append]; exact hown9); clear hown9 hgrow9))
  go_ret
  exact ⟨_, rfl, HO9.out, HB9.out⟩

set_option maxRecDepth 1000000 in
set_option maxHeartbeats 2000000 in
theorem appendByte_92 (B : Nat) (v : Value) (l0 : List UInt8) (c : UInt8) (w : World) (hl0 : l0.length ≤ 70368744177664) (hB : B ≤ w.heap.size) (ho : w.ownsRow B 5 1 v l0.length (bc l0)) (hn : Ne7 c) (hc : c = 92) :
    Calls Tryd.prog 13 #[v, .int .u8 (c.toNat : Int)] w fun e w' => ∃ v', e = .returned v' ∧ w'.ownsRow B 5 1 v' (l0 ++ [92, c]).length (bc (l0 ++ [92, c])) ∧ Below B w w' := by
  obtain ⟨i0, hi, hz0, hz1, hz2⟩ := info_parts infoU8b
  have HO : Hid (w.ownsRow B 5 1 v l0.length (bc l0)) := ho
  clear ho
  have hIx := Tryd.strings_IndexByte ⟨#[7, 8, 12, 10, 13, 9, 11]⟩ (c.toNat : Int) w
  have hno : Lib.indexByte (ByteArray.mk #[7, 8, 12, 10, 13, 9, 11]).data.toList ((c.toNat : Int).toNat.toUInt8) = -1 := no_esc hn
  rw [hno] at hIx
  clear hno hn
  have t1 : ((c.toNat : Int) == 34) = false := by rw [hc]; rfl
  have t2 : ((c.toNat : Int) == 92) = true := by rw [hc]; rfl
  clear hc
  go_enter Tryd.func13, Tryd.ntmps13
  go_wp2_with (first | (go_at_call 20; (with_reducible refine hIx.mono ?_); rintro e w1 ⟨rfl, hw1⟩; have hw2 := hw1.symm; clear hw1; subst hw2) | (at_builtin; (refine wpList_append_own_any _ rfl _ _ 34 rfl B 5 i0 (.int .u8 0) 1 1 Tryd.underlying34 hi hz0 hz1 hz2 rfl (by decide) _ _ _ rfl (HO.out.alloc _) (some ⟨w.heap.size, 0, none⟩) 2 2 (bc [92, c]) rfl (by rfl) (fun h => by cases h) (fun ad had => by cases had; exact cells_new w (bc [92, c]) 5) (bc_one _) (by unfold maxLen; omega) (by omega) (by simp; omega) ?_); intro v9 w9 hown9 hgrow9; have HB9 : Hid (Below B w w9) := ((Below.refl B w).alloc hB _).grown hgrow9 (by simp; omega) (fun g h => (HO.out.lt g h).1); have HO9 : Hid (w9.ownsRow B 5 1 v9 (l0 ++ [92, c]).length (bc (l0 ++ [92, c]))) := (by unfold Hid; rw [bc_append, List.length_append]; exact hown9); clear hown9 hgrow9))
  go_ret
  exact ⟨_, rfl, HO9.out, HB9.out⟩

set_option maxRecDepth 1000000 in
set_option maxHeartbeats 2000000 in
theorem appendByte_pr (B : Nat) (v : Value) (l0 : List UInt8) (c : UInt8) (w : World) (hl0 : l0.length ≤ 70368744177664) (hB : B ≤ w.heap.size) (ho : w.ownsRow B 5 1 v l0.length (bc l0)) (hn : Ne7 c) (h34 : c ≠ 34) (h92 : c ≠ 92) (ha : 32 ≤ c.toNat) (hb : c.toNat ≤ 126) :
    Calls Tryd.prog 13 #[v, .int .u8 (c.toNat : Int)] w fun e w' => ∃ v', e = .returned v' ∧ w'.ownsRow B 5 1 v' (l0 ++ [c]).length (bc (l0 ++ [c])) ∧ Below B w w' := by
  obtain ⟨i0, hi, hz0, hz1, hz2⟩ := info_parts infoU8b
  have HO : Hid (w.ownsRow B 5 1 v l0.length (bc l0)) := ho
  clear ho
  have hIx := Tryd.strings_IndexByte ⟨#[7, 8, 12, 10, 13, 9, 11]⟩ (c.toNat : Int) w
  have hno : Lib.indexByte (ByteArray.mk #[7, 8, 12, 10, 13, 9, 11]).data.toList ((c.toNat : Int).toNat.toUInt8) = -1 := no_esc hn
  rw [hno] at hIx
  clear hno hn
  have t1 : ((c.toNat : Int) == 34) = false := by rw [beq_eq_false_iff_ne]; intro h; apply h34; apply UInt8.toNat_inj.1; show c.toNat = 34; omega
  have t2 : ((c.toNat : Int) == 92) = false := by rw [beq_eq_false_iff_ne]; intro h; apply h92; apply UInt8.toNat_inj.1; show c.toNat = 92; omega
  have t3 : (32 : Int) ≤ (c.toNat : Int) := by omega
  have t4 : (c.toNat : Int) ≤ 126 := by omega
  clear h34 h92
  go_enter Tryd.func13, Tryd.ntmps13
  go_wp2_with (first | (go_at_call 20; (with_reducible refine hIx.mono ?_); rintro e w1 ⟨rfl, hw1⟩; have hw2 := hw1.symm; clear hw1; subst hw2) | (at_builtin; (refine wpList_append_own_any _ rfl _ _ 34 rfl B 5 i0 (.int .u8 0) 1 1 Tryd.underlying34 hi hz0 hz1 hz2 rfl (by decide) _ _ _ rfl (HO.out.alloc _) (some ⟨w.heap.size, 0, none⟩) 1 1 (bc [c]) rfl (by rfl) (fun h => by cases h) (fun ad had => by cases had; exact cells_new w (bc [c]) 5) (bc_one _) (by unfold maxLen; omega) (by omega) (by simp; omega) ?_); intro v9 w9 hown9 hgrow9; have HB9 : Hid (Below B w w9) := ((Below.refl B w).alloc hB _).grown hgrow9 (by simp; omega) (fun g h => (HO.out.lt g h).1); have HO9 : Hid (w9.ownsRow B 5 1 v9 (l0 ++ [c]).length (bc (l0 ++ [c]))) := (by unfold Hid; rw [bc_append, List.length_append]; exact hown9); clear hown9 hgrow9))
  go_ret
  exact ⟨_, rfl, HO9.out, HB9.out⟩


set_option maxRecDepth 100000 in
theorem and15 : ∀ n : Nat, n < 256 → bits .and .u8 (n : Int) 15 = ((n % 16 : Nat) : Int) := by decide
theorem hx_at (q : Nat) (h : q < 16) : (ByteArray.mk #[48, 49, 50, 51, 52, 53, 54, 55, 56, 57, 97, 98, 99, 100, 101, 102])[q]'h = hx q := by
  have : ∀ q, (h : q < 16) → (ByteArray.mk #[48, 49, 50, 51, 52, 53, 54, 55, 56, 57, 97, 98, 99, 100, 101, 102])[q]'h = hx q := by decide
  exact this q h

set_option maxRecDepth 1000000 in
set_option maxHeartbeats 2000000 in
theorem appendByte_lo (B : Nat) (v : Value) (l0 : List UInt8) (c : UInt8) (w : World) (hl0 : l0.length ≤ 70368744177664) (hB : B ≤ w.heap.size) (ho : w.ownsRow B 5 1 v l0.length (bc l0)) (hn : Ne7 c) (h34 : c ≠ 34) (h92 : c ≠ 92) (ha : ¬ 32 ≤ c.toNat) :
    Calls Tryd.prog 13 #[v, .int .u8 (c.toNat : Int)] w fun e w' => ∃ v', e = .returned v' ∧ w'.ownsRow B 5 1 v' (l0 ++ [92, 120, hx (c.toNat / 16), hx (c.toNat % 16)]).length (bc (l0 ++ [92, 120, hx (c.toNat / 16), hx (c.toNat % 16)])) ∧ Below B w w' := by
  obtain ⟨i0, hi, hz0, hz1, hz2⟩ := info_parts infoU8b
  have HO : Hid (w.ownsRow B 5 1 v l0.length (bc l0)) := ho
  clear ho
  have hIx := Tryd.strings_IndexByte ⟨#[7, 8, 12, 10, 13, 9, 11]⟩ (c.toNat : Int) w
  have hno : Lib.indexByte (ByteArray.mk #[7, 8, 12, 10, 13, 9, 11]).data.toList ((c.toNat : Int).toNat.toUInt8) = -1 := no_esc hn
  rw [hno] at hIx
  clear hno hn
  have t1 : ((c.toNat : Int) == 34) = false := by rw [beq_eq_false_iff_ne]; intro h; apply h34; apply UInt8.toNat_inj.1; show c.toNat = 34; omega
  have t2 : ((c.toNat : Int) == 92) = false := by rw [beq_eq_false_iff_ne]; intro h; apply h92; apply UInt8.toNat_inj.1; show c.toNat = 92; omega
  clear h34 h92
  obtain ⟨q, hqd⟩ : ∃ q, c.toNat / 16 = q := ⟨_, rfl⟩
  obtain ⟨r, hrd⟩ : ∃ r, c.toNat % 16 = r := ⟨_, rfl⟩
  have hc2 := c.toNat_lt
  have hq16 : q < 16 := by omega
  have hr16 : r < 16 := by omega
  have hq : (c.toNat : Int) / 16 = (q : Int) := by omega
  have hr : bits .and .u8 (c.toNat : Int) 15 = (r : Int) := by rw [and15 c.toNat c.toNat_lt, hrd]
  rw [hqd, hrd]
  have hq' : (q : Int) < 16 := by omega
  have hr' : (r : Int) < 16 := by omega
  obtain ⟨X, hX⟩ : ∃ X, hx q = X := ⟨_, rfl⟩
  obtain ⟨Y, hY⟩ : ∃ Y, hx r = Y := ⟨_, rfl⟩
  have hxq : (ByteArray.mk #[48, 49, 50, 51, 52, 53, 54, 55, 56, 57, 97, 98, 99, 100, 101, 102])[q]'hq16 = X := (hx_at q hq16).trans hX
  have hxr : (ByteArray.mk #[48, 49, 50, 51, 52, 53, 54, 55, 56, 57, 97, 98, 99, 100, 101, 102])[r]'hr16 = Y := (hx_at r hr16).trans hY
  rw [hX, hY]
  clear hqd hrd hX hY
  have t3 : ¬ (32 : Int) ≤ (c.toNat : Int) := by omega
  go_enter Tryd.func13, Tryd.ntmps13
  go_wp2_with (go_at_call 20; (with_reducible refine hIx.mono ?_); rintro e w1 ⟨rfl, hw1⟩; have hw2 := hw1.symm; clear hw1; subst hw2)
  go_region_law ((refine step_append_at (by rfl) _ _ _ (by rfl) B 5 i0 (.int .u8 0) 1 1 Tryd.underlying34 hi hz0 hz1 hz2 rfl (by decide) v l0.length (bc l0) (by rfl) (HO.out.drew.alloc _) (some ⟨w.heap.size, 0, none⟩) 4 4 (bc [92, 120, X, Y]) (by rfl) (by rfl) (fun h => by cases h) (fun ad had => by cases had; exact cells_new w.drew (bc [92, 120, X, Y]) 5) (bc_one _) (by unfold maxLen; omega) (by omega) (Nat.le_trans hB (((Below.refl B w).drew.alloc hB _).size)) ?_; intro v9 w9 hown9 hgrow9 _; have HB9 : Hid (Below B w w9) := ((Below.refl B w).drew.alloc hB _).grown hgrow9 (Nat.le_trans hB (((Below.refl B w).drew.alloc hB _).size)) (fun g h => (HO.out.lt g h).1); have HO9 : Hid (w9.ownsRow B 5 1 v9 (l0 ++ [92, 120, X, Y]).length (bc (l0 ++ [92, 120, X, Y]))) := (by unfold Hid; rw [bc_append, List.length_append]; exact hown9); clear hown9 hgrow9))
  all_goals go_wp2
  all_goals go_ret
  all_goals exact ⟨_, rfl, HO9.out, HB9.out⟩

set_option maxRecDepth 1000000 in
set_option maxHeartbeats 2000000 in
theorem appendByte_hi (B : Nat) (v : Value) (l0 : List UInt8) (c : UInt8) (w : World) (hl0 : l0.length ≤ 70368744177664) (hB : B ≤ w.heap.size) (ho : w.ownsRow B 5 1 v l0.length (bc l0)) (hn : Ne7 c) (h34 : c ≠ 34) (h92 : c ≠ 92) (ha : 32 ≤ c.toNat) (hb : ¬ c.toNat ≤ 126) :
    Calls Tryd.prog 13 #[v, .int .u8 (c.toNat : Int)] w fun e w' => ∃ v', e = .returned v' ∧ w'.ownsRow B 5 1 v' (l0 ++ [92, 120, hx (c.toNat / 16), hx (c.toNat % 16)]).length (bc (l0 ++ [92, 120, hx (c.toNat / 16), hx (c.toNat % 16)])) ∧ Below B w w' := by
  obtain ⟨i0, hi, hz0, hz1, hz2⟩ := info_parts infoU8b
  have HO : Hid (w.ownsRow B 5 1 v l0.length (bc l0)) := ho
  clear ho
  have hIx := Tryd.strings_IndexByte ⟨#[7, 8, 12, 10, 13, 9, 11]⟩ (c.toNat : Int) w
  have hno : Lib.indexByte (ByteArray.mk #[7, 8, 12, 10, 13, 9, 11]).data.toList ((c.toNat : Int).toNat.toUInt8) = -1 := no_esc hn
  rw [hno] at hIx
  clear hno hn
  have t1 : ((c.toNat : Int) == 34) = false := by rw [beq_eq_false_iff_ne]; intro h; apply h34; apply UInt8.toNat_inj.1; show c.toNat = 34; omega
  have t2 : ((c.toNat : Int) == 92) = false := by rw [beq_eq_false_iff_ne]; intro h; apply h92; apply UInt8.toNat_inj.1; show c.toNat = 92; omega
  clear h34 h92
  obtain ⟨q, hqd⟩ : ∃ q, c.toNat / 16 = q := ⟨_, rfl⟩
  obtain ⟨r, hrd⟩ : ∃ r, c.toNat % 16 = r := ⟨_, rfl⟩
  have hc2 := c.toNat_lt
  have hq16 : q < 16 := by omega
  have hr16 : r < 16 := by omega
  have hq : (c.toNat : Int) / 16 = (q : Int) := by omega
  have hr : bits .and .u8 (c.toNat : Int) 15 = (r : Int) := by rw [and15 c.toNat c.toNat_lt, hrd]
  rw [hqd, hrd]
  have hq' : (q : Int) < 16 := by omega
  have hr' : (r : Int) < 16 := by omega
  obtain ⟨X, hX⟩ : ∃ X, hx q = X := ⟨_, rfl⟩
  obtain ⟨Y, hY⟩ : ∃ Y, hx r = Y := ⟨_, rfl⟩
  have hxq : (ByteArray.mk #[48, 49, 50, 51, 52, 53, 54, 55, 56, 57, 97, 98, 99, 100, 101, 102])[q]'hq16 = X := (hx_at q hq16).trans hX
  have hxr : (ByteArray.mk #[48, 49, 50, 51, 52, 53, 54, 55, 56, 57, 97, 98, 99, 100, 101, 102])[r]'hr16 = Y := (hx_at r hr16).trans hY
  rw [hX, hY]
  clear hqd hrd hX hY
  have t3 : (32 : Int) ≤ (c.toNat : Int) := by omega
  have t4 : ¬ (c.toNat : Int) ≤ 126 := by omega
  go_enter Tryd.func13, Tryd.ntmps13
  go_wp2_with (go_at_call 20; (with_reducible refine hIx.mono ?_); rintro e w1 ⟨rfl, hw1⟩; have hw2 := hw1.symm; clear hw1; subst hw2)
  go_region_law ((refine step_append_at (by rfl) _ _ _ (by rfl) B 5 i0 (.int .u8 0) 1 1 Tryd.underlying34 hi hz0 hz1 hz2 rfl (by decide) v l0.length (bc l0) (by rfl) (HO.out.drew.alloc _) (some ⟨w.heap.size, 0, none⟩) 4 4 (bc [92, 120, X, Y]) (by rfl) (by rfl) (fun h => by cases h) (fun ad had => by cases had; exact cells_new w.drew (bc [92, 120, X, Y]) 5) (bc_one _) (by unfold maxLen; omega) (by omega) (Nat.le_trans hB (((Below.refl B w).drew.alloc hB _).size)) ?_; intro v9 w9 hown9 hgrow9 _; have HB9 : Hid (Below B w w9) := ((Below.refl B w).drew.alloc hB _).grown hgrow9 (Nat.le_trans hB (((Below.refl B w).drew.alloc hB _).size)) (fun g h => (HO.out.lt g h).1); have HO9 : Hid (w9.ownsRow B 5 1 v9 (l0 ++ [92, 120, X, Y]).length (bc (l0 ++ [92, 120, X, Y]))) := (by unfold Hid; rw [bc_append, List.length_append]; exact hown9); clear hown9 hgrow9))
  all_goals go_wp2
  all_goals go_ret
  all_goals exact ⟨_, rfl, HO9.out, HB9.out⟩


theorem appendByte_any (B : Nat) (v : Value) (l0 : List UInt8) (c : UInt8) (w : World) (hl0 : l0.length ≤ 70368744177664) (hB : B ≤ w.heap.size) (ho : w.ownsRow B 5 1 v l0.length (bc l0)) :
    Calls Tryd.prog 13 #[v, .int .u8 (c.toNat : Int)] w fun e w' => ∃ v', e = .returned v' ∧ w'.ownsRow B 5 1 v' (l0 ++ qe c).length (bc (l0 ++ qe c)) ∧ Below B w w' := by
  unfold qe
  by_cases h1 : c = 7
  · rw [if_pos h1]; exact appendByte_7 B v l0 c w hl0 hB ho h1
  rw [if_neg h1]
  by_cases h2 : c = 8
  · rw [if_pos h2]; exact appendByte_8 B v l0 c w hl0 hB ho h2
  rw [if_neg h2]
  by_cases h3 : c = 12
  · rw [if_pos h3]; exact appendByte_12 B v l0 c w hl0 hB ho h3
  rw [if_neg h3]
  by_cases h4 : c = 10
  · rw [if_pos h4]; exact appendByte_10 B v l0 c w hl0 hB ho h4
  rw [if_neg h4]
  by_cases h5 : c = 13
  · rw [if_pos h5]; exact appendByte_13 B v l0 c w hl0 hB ho h5
  rw [if_neg h5]
  by_cases h6 : c = 9
  · rw [if_pos h6]; exact appendByte_9 B v l0 c w hl0 hB ho h6
  rw [if_neg h6]
  by_cases h7 : c = 11
  · rw [if_pos h7]; exact appendByte_11 B v l0 c w hl0 hB ho h7
  rw [if_neg h7]
  have hn : Ne7 c := ⟨h1, h2, h3, h4, h5, h6, h7⟩
  by_cases h8 : c = 34
  · rw [if_pos (.inl h8)]; exact appendByte_34 B v l0 c w hl0 hB ho hn h8
  by_cases h9 : c = 92
  · rw [if_pos (.inr h9)]; exact appendByte_92 B v l0 c w hl0 hB ho hn h9
  rw [if_neg (fun h => h.elim h8 h9)]
  by_cases ha : 32 ≤ c.toNat
  · by_cases hb : c.toNat ≤ 126
    · rw [if_pos ⟨ha, hb⟩]; exact appendByte_pr B v l0 c w hl0 hB ho hn h8 h9 ha hb
    · rw [if_neg (fun h => hb h.2)]; exact appendByte_hi B v l0 c w hl0 hB ho hn h8 h9 ha hb
  · rw [if_neg (fun h => ha h.1)]; exact appendByte_lo B v l0 c w hl0 hB ho hn h8 h9 ha
end Go.Proofs.YtlgddkkpngfmfaaDoor
