import Derived.Test.YtnaipmgdipflgaaGreatDoorLxs
import Derived.Test.YtnaipmgdipflgaaGreatDoorCt0
import Derived.Lib.ItoaLen
import Derived.Lib.AppendIntMem
import Derived.Lib.SmallJoins
namespace Go.Proofs.YtnaipmgdipflgaaGreatDoor
open Go.ChangeShapes Go.WideShapes Go.ChangeAt Go.RowKit
set_option linter.unusedVariables false
set_option linter.unusedSimpArgs false

set_option maxRecDepth 1000000 in
set_option maxHeartbeats 2000000 in
theorem appendByte_7 (B : Nat) (v : Value) (l0 : List UInt8) (c : UInt8) (w : World) (hl0 : l0.length ≤ 70368744177664) (hB : B ≤ w.heap.size) (ho : w.ownsRow B 5 1 v l0.length (bc l0)) (hc : c = 7) :
    Calls Tryz.prog 53 #[v, .int .u8 (c.toNat : Int)] w fun e w' => ∃ v', e = .returned v' ∧ w'.ownsRow B 5 1 v' (l0 ++ [92, 97]).length (bc (l0 ++ [92, 97])) ∧ Below B w w' := by
  obtain ⟨i0, hi, hz0, hz1, hz2⟩ := info_parts infoU8b
  have HO : Hid (w.ownsRow B 5 1 v l0.length (bc l0)) := ho
  clear ho
  have hIx := Tryz.strings_IndexByte ⟨#[7, 8, 12, 10, 13, 9, 11]⟩ (c.toNat : Int) w
  rw [show Lib.indexByte (ByteArray.mk #[7, 8, 12, 10, 13, 9, 11]).data.toList ((c.toNat : Int).toNat.toUInt8) = 0 from by subst hc; decide] at hIx
  clear hc
  go_enter Tryz.func53, Tryz.ntmps53
  go_wp2_with (first | (go_at_call 77; (with_reducible refine hIx.mono ?_); rintro e w1 ⟨rfl, hw1⟩; have hw2 := hw1.symm; clear hw1; subst hw2) | (at_builtin; (refine wpList_append_own_any _ rfl _ _ 79 rfl B 5 i0 (.int .u8 0) 1 1 Tryz.underlying79 hi hz0 hz1 hz2 rfl (by decide) _ _ _ rfl (HO.out.alloc _) (some ⟨w.heap.size, 0, none⟩) 2 2 (bc [92, 97]) rfl (by rfl) (fun h => by cases h) (fun ad had => by cases had; exact cells_new w (bc [92, 97]) 5) (bc_one _) (by unfold maxLen; omega) (by omega) (by simp; omega) ?_); intro v9 w9 hown9 hgrow9; have HB9 : Hid (Below B w w9) := ((Below.refl B w).alloc hB _).grown hgrow9 (by simp; omega) (fun g h => (HO.out.lt g h).1); have HO9 : Hid (w9.ownsRow B 5 1 v9 (l0 ++ [92, 97]).length (bc (l0 ++ [92, 97]))) := (by unfold Hid; rw [bc_append, List.length_append]; exact hown9); clear hown9 hgrow9))
  go_ret
  exact ⟨_, rfl, HO9.out, HB9.out⟩

set_option maxRecDepth 1000000 in
set_option maxHeartbeats 2000000 in
theorem appendByte_8 (B : Nat) (v : Value) (l0 : List UInt8) (c : UInt8) (w : World) (hl0 : l0.length ≤ 70368744177664) (hB : B ≤ w.heap.size) (ho : w.ownsRow B 5 1 v l0.length (bc l0)) (hc : c = 8) :
    Calls Tryz.prog 53 #[v, .int .u8 (c.toNat : Int)] w fun e w' => ∃ v', e = .returned v' ∧ w'.ownsRow B 5 1 v' (l0 ++ [92, 98]).length (bc (l0 ++ [92, 98])) ∧ Below B w w' := by
  obtain ⟨i0, hi, hz0, hz1, hz2⟩ := info_parts infoU8b
  have HO : Hid (w.ownsRow B 5 1 v l0.length (bc l0)) := ho
  clear ho
  have hIx := Tryz.strings_IndexByte ⟨#[7, 8, 12, 10, 13, 9, 11]⟩ (c.toNat : Int) w
  rw [show Lib.indexByte (ByteArray.mk #[7, 8, 12, 10, 13, 9, 11]).data.toList ((c.toNat : Int).toNat.toUInt8) = 1 from by subst hc; decide] at hIx
  clear hc
  go_enter Tryz.func53, Tryz.ntmps53
  go_wp2_with (first | (go_at_call 77; (with_reducible refine hIx.mono ?_); rintro e w1 ⟨rfl, hw1⟩; have hw2 := hw1.symm; clear hw1; subst hw2) | (at_builtin; (refine wpList_append_own_any _ rfl _ _ 79 rfl B 5 i0 (.int .u8 0) 1 1 Tryz.underlying79 hi hz0 hz1 hz2 rfl (by decide) _ _ _ rfl (HO.out.alloc _) (some ⟨w.heap.size, 0, none⟩) 2 2 (bc [92, 98]) rfl (by rfl) (fun h => by cases h) (fun ad had => by cases had; exact cells_new w (bc [92, 98]) 5) (bc_one _) (by unfold maxLen; omega) (by omega) (by simp; omega) ?_); intro v9 w9 hown9 hgrow9; have HB9 : Hid (Below B w w9) := ((Below.refl B w).alloc hB _).grown hgrow9 (by simp; omega) (fun g h => (HO.out.lt g h).1); have HO9 : Hid (w9.ownsRow B 5 1 v9 (l0 ++ [92, 98]).length (bc (l0 ++ [92, 98]))) := (by unfold Hid; rw [bc_append, List.length_append]; exact hown9); clear hown9 hgrow9))
  go_ret
  exact ⟨_, rfl, HO9.out, HB9.out⟩

set_option maxRecDepth 1000000 in
set_option maxHeartbeats 2000000 in
theorem appendByte_12 (B : Nat) (v : Value) (l0 : List UInt8) (c : UInt8) (w : World) (hl0 : l0.length ≤ 70368744177664) (hB : B ≤ w.heap.size) (ho : w.ownsRow B 5 1 v l0.length (bc l0)) (hc : c = 12) :
    Calls Tryz.prog 53 #[v, .int .u8 (c.toNat : Int)] w fun e w' => ∃ v', e = .returned v' ∧ w'.ownsRow B 5 1 v' (l0 ++ [92, 102]).length (bc (l0 ++ [92, 102])) ∧ Below B w w' := by
  obtain ⟨i0, hi, hz0, hz1, hz2⟩ := info_parts infoU8b
  have HO : Hid (w.ownsRow B 5 1 v l0.length (bc l0)) := ho
  clear ho
  have hIx := Tryz.strings_IndexByte ⟨#[7, 8, 12, 10, 13, 9, 11]⟩ (c.toNat : Int) w
  rw [show Lib.indexByte (ByteArray.mk #[7, 8, 12, 10, 13, 9, 11]).data.toList ((c.toNat : Int).toNat.toUInt8) = 2 from by subst hc; decide] at hIx
  clear hc
  go_enter Tryz.func53, Tryz.ntmps53
  go_wp2_with (first | (go_at_call 77; (with_reducible refine hIx.mono ?_); rintro e w1 ⟨rfl, hw1⟩; have hw2 := hw1.symm; clear hw1; subst hw2) | (at_builtin; (refine wpList_append_own_any _ rfl _ _ 79 rfl B 5 i0 (.int .u8 0) 1 1 Tryz.underlying79 hi hz0 hz1 hz2 rfl (by decide) _ _ _ rfl (HO.out.alloc _) (some ⟨w.heap.size, 0, none⟩) 2 2 (bc [92, 102]) rfl (by rfl) (fun h => by cases h) (fun ad had => by cases had; exact cells_new w (bc [92, 102]) 5) (bc_one _) (by unfold maxLen; omega) (by omega) (by simp; omega) ?_); intro v9 w9 hown9 hgrow9; have HB9 : Hid (Below B w w9) := ((Below.refl B w).alloc hB _).grown hgrow9 (by simp; omega) (fun g h => (HO.out.lt g h).1); have HO9 : Hid (w9.ownsRow B 5 1 v9 (l0 ++ [92, 102]).length (bc (l0 ++ [92, 102]))) := (by unfold Hid; rw [bc_append, List.length_append]; exact hown9); clear hown9 hgrow9))
  go_ret
  exact ⟨_, rfl, HO9.out, HB9.out⟩

set_option maxRecDepth 1000000 in
set_option maxHeartbeats 2000000 in
theorem appendByte_10 (B : Nat) (v : Value) (l0 : List UInt8) (c : UInt8) (w : World) (hl0 : l0.length ≤ 70368744177664) (hB : B ≤ w.heap.size) (ho : w.ownsRow B 5 1 v l0.length (bc l0)) (hc : c = 10) :
    Calls Tryz.prog 53 #[v, .int .u8 (c.toNat : Int)] w fun e w' => ∃ v', e = .returned v' ∧ w'.ownsRow B 5 1 v' (l0 ++ [92, 110]).length (bc (l0 ++ [92, 110])) ∧ Below B w w' := by
  obtain ⟨i0, hi, hz0, hz1, hz2⟩ := info_parts infoU8b
  have HO : Hid (w.ownsRow B 5 1 v l0.length (bc l0)) := ho
  clear ho
  have hIx := Tryz.strings_IndexByte ⟨#[7, 8, 12, 10, 13, 9, 11]⟩ (c.toNat : Int) w
  rw [show Lib.indexByte (ByteArray.mk #[7, 8, 12, 10, 13, 9, 11]).data.toList ((c.toNat : Int).toNat.toUInt8) = 3 from by subst hc; decide] at hIx
  clear hc
  go_enter Tryz.func53, Tryz.ntmps53
  go_wp2_with (first | (go_at_call 77; (with_reducible refine hIx.mono ?_); rintro e w1 ⟨rfl, hw1⟩; have hw2 := hw1.symm; clear hw1; subst hw2) | (at_builtin; (refine wpList_append_own_any _ rfl _ _ 79 rfl B 5 i0 (.int .u8 0) 1 1 Tryz.underlying79 hi hz0 hz1 hz2 rfl (by decide) _ _ _ rfl (HO.out.alloc _) (some ⟨w.heap.size, 0, none⟩) 2 2 (bc [92, 110]) rfl (by rfl) (fun h => by cases h) (fun ad had => by cases had; exact cells_new w (bc [92, 110]) 5) (bc_one _) (by unfold maxLen; omega) (by omega) (by simp; omega) ?_); intro v9 w9 hown9 hgrow9; have HB9 : Hid (Below B w w9) := ((Below.refl B w).alloc hB _).grown hgrow9 (by simp; omega) (fun g h => (HO.out.lt g h).1); have HO9 : Hid (w9.ownsRow B 5 1 v9 (l0 ++ [92, 110]).length (bc (l0 ++ [92, 110]))) := (by unfold Hid; rw [bc_append, List.length_append]; exact hown9); clear hown9 hgrow9))
  go_ret
  exact ⟨_, rfl, HO9.out, HB9.out⟩

set_option maxRecDepth 1000000 in
set_option maxHeartbeats 2000000 in
theorem appendByte_13 (B : Nat) (v : Value) (l0 : List UInt8) (c : UInt8) (w : World) (hl0 : l0.length ≤ 70368744177664) (hB : B ≤ w.heap.size) (ho : w.ownsRow B 5 1 v l0.length (bc l0)) (hc : c = 13) :
    Calls Tryz.prog 53 #[v, .int .u8 (c.toNat : Int)] w fun e w' => ∃ v', e = .returned v' ∧ w'.ownsRow B 5 1 v' (l0 ++ [92, 114]).length (bc (l0 ++ [92, 114])) ∧ Below B w w' := by
  obtain ⟨i0, hi, hz0, hz1, hz2⟩ := info_parts infoU8b
  have HO : Hid (w.ownsRow B 5 1 v l0.length (bc l0)) := ho
  clear ho
  have hIx := Tryz.strings_IndexByte ⟨#[7, 8, 12, 10, 13, 9, 11]⟩ (c.toNat : Int) w
  rw [show Lib.indexByte (ByteArray.mk #[7, 8, 12, 10, 13, 9, 11]).data.toList ((c.toNat : Int).toNat.toUInt8) = 4 from by subst hc; decide] at hIx
  clear hc
  go_enter Tryz.func53, Tryz.ntmps53
  go_wp2_with (first | (go_at_call 77; (with_reducible refine hIx.mono ?_); rintro e w1 ⟨rfl, hw1⟩; have hw2 := hw1.symm; clear hw1; subst hw2) | (at_builtin; (refine wpList_append_own_any _ rfl _ _ 79 rfl B 5 i0 (.int .u8 0) 1 1 Tryz.underlying79 hi hz0 hz1 hz2 rfl (by decide) _ _ _ rfl (HO.out.alloc _) (some ⟨w.heap.size, 0, none⟩) 2 2 (bc [92, 114]) rfl (by rfl) (fun h => by cases h) (fun ad had => by cases had; exact cells_new w (bc [92, 114]) 5) (bc_one _) (by unfold maxLen; omega) (by omega) (by simp; omega) ?_); intro v9 w9 hown9 hgrow9; have HB9 : Hid (Below B w w9) := ((Below.refl B w).alloc hB _).grown hgrow9 (by simp; omega) (fun g h => (HO.out.lt g h).1); have HO9 : Hid (w9.ownsRow B 5 1 v9 (l0 ++ [92, 114]).length (bc (l0 ++ [92, 114]))) := (by unfold Hid; rw [bc_append, List.length_append]; exact hown9); clear hown9 hgrow9))
  go_ret
  exact ⟨_, rfl, HO9.out, HB9.out⟩

set_option maxRecDepth 1000000 in
set_option maxHeartbeats 2000000 in
theorem appendByte_9 (B : Nat) (v : Value) (l0 : List UInt8) (c : UInt8) (w : World) (hl0 : l0.length ≤ 70368744177664) (hB : B ≤ w.heap.size) (ho : w.ownsRow B 5 1 v l0.length (bc l0)) (hc : c = 9) :
    Calls Tryz.prog 53 #[v, .int .u8 (c.toNat : Int)] w fun e w' => ∃ v', e = .returned v' ∧ w'.ownsRow B 5 1 v' (l0 ++ [92, 116]).length (bc (l0 ++ [92, 116])) ∧ Below B w w' := by
  obtain ⟨i0, hi, hz0, hz1, hz2⟩ := info_parts infoU8b
  have HO : Hid (w.ownsRow B 5 1 v l0.length (bc l0)) := ho
  clear ho
  have hIx := Tryz.strings_IndexByte ⟨#[7, 8, 12, 10, 13, 9, 11]⟩ (c.toNat : Int) w
  rw [show Lib.indexByte (ByteArray.mk #[7, 8, 12, 10, 13, 9, 11]).data.toList ((c.toNat : Int).toNat.toUInt8) = 5 from by subst hc; decide] at hIx
  clear hc
  go_enter Tryz.func53, Tryz.ntmps53
  go_wp2_with (first | (go_at_call 77; (with_reducible refine hIx.mono ?_); rintro e w1 ⟨rfl, hw1⟩; have hw2 := hw1.symm; clear hw1; subst hw2) | (at_builtin; (refine wpList_append_own_any _ rfl _ _ 79 rfl B 5 i0 (.int .u8 0) 1 1 Tryz.underlying79 hi hz0 hz1 hz2 rfl (by decide) _ _ _ rfl (HO.out.alloc _) (some ⟨w.heap.size, 0, none⟩) 2 2 (bc [92, 116]) rfl (by rfl) (fun h => by cases h) (fun ad had => by cases had; exact cells_new w (bc [92, 116]) 5) (bc_one _) (by unfold maxLen; omega) (by omega) (by simp; omega) ?_); intro v9 w9 hown9 hgrow9; have HB9 : Hid (Below B w w9) := ((Below.refl B w).alloc hB _).grown hgrow9 (by simp; omega) (fun g h => (HO.out.lt g h).1); have HO9 : Hid (w9.ownsRow B 5 1 v9 (l0 ++ [92, 116]).length (bc (l0 ++ [92, 116]))) := (by unfold Hid; rw [bc_append, List.length_append]; exact hown9); clear hown9 hgrow9))
  go_ret
  exact ⟨_, rfl, HO9.out, HB9.out⟩

set_option maxRecDepth 1000000 in
set_option maxHeartbeats 2000000 in
theorem appendByte_11 (B : Nat) (v : Value) (l0 : List UInt8) (c : UInt8) (w : World) (hl0 : l0.length ≤ 70368744177664) (hB : B ≤ w.heap.size) (ho : w.ownsRow B 5 1 v l0.length (bc l0)) (hc : c = 11) :
    Calls Tryz.prog 53 #[v, .int .u8 (c.toNat : Int)] w fun e w' => ∃ v', e = .returned v' ∧ w'.ownsRow B 5 1 v' (l0 ++ [92, 118]).length (bc (l0 ++ [92, 118])) ∧ Below B w w' := by
  obtain ⟨i0, hi, hz0, hz1, hz2⟩ := info_parts infoU8b
  have HO : Hid (w.ownsRow B 5 1 v l0.length (bc l0)) := ho
  clear ho
  have hIx := Tryz.strings_IndexByte ⟨#[7, 8, 12, 10, 13, 9, 11]⟩ (c.toNat : Int) w
  rw [show Lib.indexByte (ByteArray.mk #[7, 8, 12, 10, 13, 9, 11]).data.toList ((c.toNat : Int).toNat.toUInt8) = 6 from by subst hc; decide] at hIx
  clear hc
  go_enter Tryz.func53, Tryz.ntmps53
  go_wp2_with (first | (go_at_call 77; (with_reducible refine hIx.mono ?_); rintro e w1 ⟨rfl, hw1⟩; have hw2 := hw1.symm; clear hw1; subst hw2) | (at_builtin; (refine wpList_append_own_any _ rfl _ _ 79 rfl B 5 i0 (.int .u8 0) 1 1 Tryz.underlying79 hi hz0 hz1 hz2 rfl (by decide) _ _ _ rfl (HO.out.alloc _) (some ⟨w.heap.size, 0, none⟩) 2 2 (bc [92, 118]) rfl (by rfl) (fun h => by cases h) (fun ad had => by cases had; exact cells_new w (bc [92, 118]) 5) (bc_one _) (by unfold maxLen; omega) (by omega) (by simp; omega) ?_); intro v9 w9 hown9 hgrow9; have HB9 : Hid (Below B w w9) := ((Below.refl B w).alloc hB _).grown hgrow9 (by simp; omega) (fun g h => (HO.out.lt g h).1); have HO9 : Hid (w9.ownsRow B 5 1 v9 (l0 ++ [92, 118]).length (bc (l0 ++ [92, 118]))) := (by unfold Hid; rw [bc_append, List.length_append]; exact hown9); clear hown9 hgrow9))
  go_ret
  exact ⟨_, rfl, HO9.out, HB9.out⟩


/-- no letter stands for it -/
def Ne7 (c : UInt8) : Prop := c ≠ 7 ∧ c ≠ 8 ∧ c ≠ 12 ∧ c ≠ 10 ∧ c ≠ 13 ∧ c ≠ 9 ∧ c ≠ 11
theorem no_esc {c : UInt8} (h : Ne7 c) : Lib.indexByte (ByteArray.mk #[7, 8, 12, 10, 13, 9, 11]).data.toList ((c.toNat : Int).toNat.toUInt8) = -1 := by
  obtain ⟨h1, h2, h3, h4, h5, h6, h7⟩ := h
  have e : ((c.toNat : Int).toNat.toUInt8) = c := by simp
  rw [e]
  simp [Lib.indexByte, Ne.symm h1, Ne.symm h2, Ne.symm h3, Ne.symm h4, Ne.symm h5, Ne.symm h6, Ne.symm h7, h1, h2, h3, h4, h5, h6, h7]

set_option maxRecDepth 1000000 in
set_option maxHeartbeats 2000000 in
theorem appendByte_34 (B : Nat) (v : Value) (l0 : List UInt8) (c : UInt8) (w : World) (hl0 : l0.length ≤ 70368744177664) (hB : B ≤ w.heap.size) (ho : w.ownsRow B 5 1 v l0.length (bc l0)) (hn : Ne7 c) (hc : c = 34) :
    Calls Tryz.prog 53 #[v, .int .u8 (c.toNat : Int)] w fun e w' => ∃ v', e = .returned v' ∧ w'.ownsRow B 5 1 v' (l0 ++ [92, c]).length (bc (l0 ++ [92, c])) ∧ Below B w w' := by
  obtain ⟨i0, hi, hz0, hz1, hz2⟩ := info_parts infoU8b
  have HO : Hid (w.ownsRow B 5 1 v l0.length (bc l0)) := ho
  clear ho
  have hIx := Tryz.strings_IndexByte ⟨#[7, 8, 12, 10, 13, 9, 11]⟩ (c.toNat : Int) w
  have hno : Lib.indexByte (ByteArray.mk #[7, 8, 12, 10, 13, 9, 11]).data.toList ((c.toNat : Int).toNat.toUInt8) = -1 := no_esc hn
  rw [hno] at hIx
  clear hno hn
  have t1 : ((c.toNat : Int) == 34) = true := by rw [hc]; rfl
  clear hc
  go_enter Tryz.func53, Tryz.ntmps53
  go_wp2_with (first | (go_at_call 77; (with_reducible refine hIx.mono ?_); rintro e w1 ⟨rfl, hw1⟩; have hw2 := hw1.symm; clear hw1; subst hw2) | (at_builtin; (refine wpList_append_own_any _ rfl _ _ 79 rfl B 5 i0 (.int .u8 0) 1 1 Tryz.underlying79 hi hz0 hz1 hz2 rfl (by decide) _ _ _ rfl (HO.out.alloc _) (some ⟨w.heap.size, 0, none⟩) 2 2 (bc [92, c]) rfl (by rfl) (fun h => by cases h) (fun ad had => by cases had; exact cells_new w (bc [92, c]) 5) (bc_one _) (by unfold maxLen; omega) (by omega) (by simp; omega) ?_); intro v9 w9 hown9 hgrow9; have HB9 : Hid (Below B w w9) := ((Below.refl B w).alloc hB _).grown hgrow9 (by simp; omega) (fun g h => (HO.out.lt g h).1); have HO9 : Hid (w9.ownsRow B 5 1 v9 (l0 ++ [92, c]).length (bc (l0 ++ [92, c]))) := (by unfold Hid; rw [bc_append, List.length_append]; exact hown9); clear hown9 hgrow9))
  go_ret
  exact ⟨_, rfl, HO9.out, HB9.out⟩

set_option maxRecDepth 1000000 in
set_option maxHeartbeats 2000000 in
theorem appendByte_92 (B : Nat) (v : Value) (l0 : List UInt8) (c : UInt8) (w : World) (hl0 : l0.length ≤ 70368744177664) (hB : B ≤ w.heap.size) (ho : w.ownsRow B 5 1 v l0.length (bc l0)) (hn : Ne7 c) (hc : c = 92) :
    Calls Tryz.prog 53 #[v, .int .u8 (c.toNat : Int)] w fun e w' => ∃ v', e = .returned v' ∧ w'.ownsRow B 5 1 v' (l0 ++ [92, c]).length (bc (l0 ++ [92, c])) ∧ Below B w w' := by
  obtain ⟨i0, hi, hz0, hz1, hz2⟩ := info_parts infoU8b
  have HO : Hid (w.ownsRow B 5 1 v l0.length (bc l0)) := ho
  clear ho
  have hIx := Tryz.strings_IndexByte ⟨#[7, 8, 12, 10, 13, 9, 11]⟩ (c.toNat : Int) w
  have hno : Lib.indexByte (ByteArray.mk #[7, 8, 12, 10, 13, 9, 11]).data.toList ((c.toNat : Int).toNat.toUInt8) = -1 := no_esc hn
  rw [hno] at hIx
  clear hno hn
  have t1 : ((c.toNat : Int) == 34) = false := by rw [hc]; rfl
  have t2 : ((c.toNat : Int) == 92) = true := by rw [hc]; rfl
  clear hc
  go_enter Tryz.func53, Tryz.ntmps53
  go_wp2_with (first | (go_at_call 77; (with_reducible refine hIx.mono ?_); rintro e w1 ⟨rfl, hw1⟩; have hw2 := hw1.symm; clear hw1; subst hw2) | (at_builtin; (refine wpList_append_own_any _ rfl _ _ 79 rfl B 5 i0 (.int .u8 0) 1 1 Tryz.underlying79 hi hz0 hz1 hz2 rfl (by decide) _ _ _ rfl (HO.out.alloc _) (some ⟨w.heap.size, 0, none⟩) 2 2 (bc [92, c]) rfl (by rfl) (fun h => by cases h) (fun ad had => by cases had; exact cells_new w (bc [92, c]) 5) (bc_one _) (by unfold maxLen; omega) (by omega) (by simp; omega) ?_); intro v9 w9 hown9 hgrow9; have HB9 : Hid (Below B w w9) := ((Below.refl B w).alloc hB _).grown hgrow9 (by simp; omega) (fun g h => (HO.out.lt g h).1); have HO9 : Hid (w9.ownsRow B 5 1 v9 (l0 ++ [92, c]).length (bc (l0 ++ [92, c]))) := (by unfold Hid; rw [bc_append, List.length_append]; exact hown9); clear hown9 hgrow9))
  go_ret
  exact ⟨_, rfl, HO9.out, HB9.out⟩

set_option maxRecDepth 1000000 in
set_option maxHeartbeats 2000000 in
theorem appendByte_pr (B : Nat) (v : Value) (l0 : List UInt8) (c : UInt8) (w : World) (hl0 : l0.length ≤ 70368744177664) (hB : B ≤ w.heap.size) (ho : w.ownsRow B 5 1 v l0.length (bc l0)) (hn : Ne7 c) (h34 : c ≠ 34) (h92 : c ≠ 92) (ha : 32 ≤ c.toNat) (hb : c.toNat ≤ 126) :
    Calls Tryz.prog 53 #[v, .int .u8 (c.toNat : Int)] w fun e w' => ∃ v', e = .returned v' ∧ w'.ownsRow B 5 1 v' (l0 ++ [c]).length (bc (l0 ++ [c])) ∧ Below B w w' := by
  obtain ⟨i0, hi, hz0, hz1, hz2⟩ := info_parts infoU8b
  have HO : Hid (w.ownsRow B 5 1 v l0.length (bc l0)) := ho
  clear ho
  have hIx := Tryz.strings_IndexByte ⟨#[7, 8, 12, 10, 13, 9, 11]⟩ (c.toNat : Int) w
  have hno : Lib.indexByte (ByteArray.mk #[7, 8, 12, 10, 13, 9, 11]).data.toList ((c.toNat : Int).toNat.toUInt8) = -1 := no_esc hn
  rw [hno] at hIx
  clear hno hn
  have t1 : ((c.toNat : Int) == 34) = false := by rw [beq_eq_false_iff_ne]; intro h; apply h34; apply UInt8.toNat_inj.1; show c.toNat = 34; omega
  have t2 : ((c.toNat : Int) == 92) = false := by rw [beq_eq_false_iff_ne]; intro h; apply h92; apply UInt8.toNat_inj.1; show c.toNat = 92; omega
  have t3 : (32 : Int) ≤ (c.toNat : Int) := by omega
  have t4 : (c.toNat : Int) ≤ 126 := by omega
  clear h34 h92
  go_enter Tryz.func53, Tryz.ntmps53
  go_wp2_with (first | (go_at_call 77; (with_reducible refine hIx.mono ?_); rintro e w1 ⟨rfl, hw1⟩; have hw2 := hw1.symm; clear hw1; subst hw2) | (at_builtin; (refine wpList_append_own_any _ rfl _ _ 79 rfl B 5 i0 (.int .u8 0) 1 1 Tryz.underlying79 hi hz0 hz1 hz2 rfl (by decide) _ _ _ rfl (HO.out.alloc _) (some ⟨w.heap.size, 0, none⟩) 1 1 (bc [c]) rfl (by rfl) (fun h => by cases h) (fun ad had => by cases had; exact cells_new w (bc [c]) 5) (bc_one _) (by unfold maxLen; omega) (by omega) (by simp; omega) ?_); intro v9 w9 hown9 hgrow9; have HB9 : Hid (Below B w w9) := ((Below.refl B w).alloc hB _).grown hgrow9 (by simp; omega) (fun g h => (HO.out.lt g h).1); have HO9 : Hid (w9.ownsRow B 5 1 v9 (l0 ++ [c]).length (bc (l0 ++ [c]))) := (by unfold Hid; rw [bc_append, List.length_append]; exact hown9); clear hown9 hgrow9))
  go_ret
  exact ⟨_, rfl, HO9.out, HB9.out⟩


set_option maxRecDepth 100000 in
theorem and15 : ∀ n : Nat, n < 256 → bits .and .u8 (n : Int) 15 = ((n % 16 : Nat) : Int) := by decide
theorem hx_at (q : Nat) (h : q < 16) : (ByteArray.mk #[48, 49, 50, 51, 52, 53, 54, 55, 56, 57, 97, 98, 99, 100, 101, 102])[q]'h = hx q := by
  have : ∀ q, (h : q < 16) → (ByteArray.mk #[48, 49, 50, 51, 52, 53, 54, 55, 56, 57, 97, 98, 99, 100, 101, 102])[q]'h = hx q := by decide
  exact this q h

set_option maxRecDepth 1000000 in
set_option maxHeartbeats 2000000 in
theorem appendByte_lo (B : Nat) (v : Value) (l0 : List UInt8) (c : UInt8) (w : World) (hl0 : l0.length ≤ 70368744177664) (hB : B ≤ w.heap.size) (ho : w.ownsRow B 5 1 v l0.length (bc l0)) (hn : Ne7 c) (h34 : c ≠ 34) (h92 : c ≠ 92) (ha : ¬ 32 ≤ c.toNat) :
    Calls Tryz.prog 53 #[v, .int .u8 (c.toNat : Int)] w fun e w' => ∃ v', e = .returned v' ∧ w'.ownsRow B 5 1 v' (l0 ++ [92, 120, hx (c.toNat / 16), hx (c.toNat % 16)]).length (bc (l0 ++ [92, 120, hx (c.toNat / 16), hx (c.toNat % 16)])) ∧ Below B w w' := by
  obtain ⟨i0, hi, hz0, hz1, hz2⟩ := info_parts infoU8b
  have HO : Hid (w.ownsRow B 5 1 v l0.length (bc l0)) := ho
  clear ho
  have hIx := Tryz.strings_IndexByte ⟨#[7, 8, 12, 10, 13, 9, 11]⟩ (c.toNat : Int) w
  have hno : Lib.indexByte (ByteArray.mk #[7, 8, 12, 10, 13, 9, 11]).data.toList ((c.toNat : Int).toNat.toUInt8) = -1 := no_esc hn
  rw [hno] at hIx
  clear hno hn
  have t1 : ((c.toNat : Int) == 34) = false := by rw [beq_eq_false_iff_ne]; intro h; apply h34; apply UInt8.toNat_inj.1; show c.toNat = 34; omega
  have t2 : ((c.toNat : Int) == 92) = false := by rw [beq_eq_false_iff_ne]; intro h; apply h92; apply UInt8.toNat_inj.1; show c.toNat = 92; omega
  clear h34 h92
  obtain ⟨q, hqd⟩ : ∃ q, c.toNat / 16 = q := ⟨_, rfl⟩
  obtain ⟨r, hrd⟩ : ∃ r, c.toNat % 16 = r := ⟨_, rfl⟩
  have hc2 := c.toNat_lt
  have hq16 : q < 16 := by omega
  have hr16 : r < 16 := by omega
  have hq : (c.toNat : Int) / 16 = (q : Int) := by omega
  have hr : bits .and .u8 (c.toNat : Int) 15 = (r : Int) := by rw [and15 c.toNat c.toNat_lt, hrd]
  rw [hqd, hrd]
  have hq' : (q : Int) < 16 := by omega
  have hr' : (r : Int) < 16 := by omega
  obtain ⟨X, hX⟩ : ∃ X, hx q = X := ⟨_, rfl⟩
  obtain ⟨Y, hY⟩ : ∃ Y, hx r = Y := ⟨_, rfl⟩
  have hxq : (ByteArray.mk #[48, 49, 50, 51, 52, 53, 54, 55, 56, 57, 97, 98, 99, 100, 101, 102])[q]'hq16 = X := (hx_at q hq16).trans hX
  have hxr : (ByteArray.mk #[48, 49, 50, 51, 52, 53, 54, 55, 56, 57, 97, 98, 99, 100, 101, 102])[r]'hr16 = Y := (hx_at r hr16).trans hY
  rw [hX, hY]
  clear hqd hrd hX hY
  have t3 : ¬ (32 : Int) ≤ (c.toNat : Int) := by omega
  go_enter Tryz.func53, Tryz.ntmps53
  go_wp2_with (go_at_call 77; (with_reducible refine hIx.mono ?_); rintro e w1 ⟨rfl, hw1⟩; have hw2 := hw1.symm; clear hw1; subst hw2)
  go_region_law ((refine step_append_at (by rfl) _ _ _ (by rfl) B 5 i0 (.int .u8 0) 1 1 Tryz.underlying79 hi hz0 hz1 hz2 rfl (by decide) v l0.length (bc l0) (by rfl) (HO.out.drew.alloc _) (some ⟨w.heap.size, 0, none⟩) 4 4 (bc [92, 120, X, Y]) (by rfl) (by rfl) (fun h => by cases h) (fun ad had => by cases had; exact cells_new w.drew (bc [92, 120, X, Y]) 5) (bc_one _) (by unfold maxLen; omega) (by omega) (Nat.le_trans hB (((Below.refl B w).drew.alloc hB _).size)) ?_; intro v9 w9 hown9 hgrow9 _; have HB9 : Hid (Below B w w9) := ((Below.refl B w).drew.alloc hB _).grown hgrow9 (Nat.le_trans hB (((Below.refl B w).drew.alloc hB _).size)) (fun g h => (HO.out.lt g h).1); have HO9 : Hid (w9.ownsRow B 5 1 v9 (l0 ++ [92, 120, X, Y]).length (bc (l0 ++ [92, 120, X, Y]))) := (by unfold Hid; rw [bc_append, List.length_append]; exact hown9); clear hown9 hgrow9))
  all_goals go_wp2
  all_goals go_ret
  all_goals exact ⟨_, rfl, HO9.out, HB9.out⟩

set_option maxRecDepth 1000000 in
set_option maxHeartbeats 2000000 in
theorem appendByte_hi (B : Nat) (v : Value) (l0 : List UInt8) (c : UInt8) (w : World) (hl0 : l0.length ≤ 70368744177664) (hB : B ≤ w.heap.size) (ho : w.ownsRow B 5 1 v l0.length (bc l0)) (hn : Ne7 c) (h34 : c ≠ 34) (h92 : c ≠ 92) (ha : 32 ≤ c.toNat) (hb : ¬ c.toNat ≤ 126) :
    Calls Tryz.prog 53 #[v, .int .u8 (c.toNat : Int)] w fun e w' => ∃ v', e = .returned v' ∧ w'.ownsRow B 5 1 v' (l0 ++ [92, 120, hx (c.toNat / 16), hx (c.toNat % 16)]).length (bc (l0 ++ [92, 120, hx (c.toNat / 16), hx (c.toNat % 16)])) ∧ Below B w w' := by
  obtain ⟨i0, hi, hz0, hz1, hz2⟩ := info_parts infoU8b
  have HO : Hid (w.ownsRow B 5 1 v l0.length (bc l0)) := ho
  clear ho
  have hIx := Tryz.strings_IndexByte ⟨#[7, 8, 12, 10, 13, 9, 11]⟩ (c.toNat : Int) w
  have hno : Lib.indexByte (ByteArray.mk #[7, 8, 12, 10, 13, 9, 11]).data.toList ((c.toNat : Int).toNat.toUInt8) = -1 := no_esc hn
  rw [hno] at hIx
  clear hno hn
  have t1 : ((c.toNat : Int) == 34) = false := by rw [beq_eq_false_iff_ne]; intro h; apply h34; apply UInt8.toNat_inj.1; show c.toNat = 34; omega
  have t2 : ((c.toNat : Int) == 92) = false := by rw [beq_eq_false_iff_ne]; intro h; apply h92; apply UInt8.toNat_inj.1; show c.toNat = 92; omega
  clear h34 h92
  obtain ⟨q, hqd⟩ : ∃ q, c.toNat / 16 = q := ⟨_, rfl⟩
  obtain ⟨r, hrd⟩ : ∃ r, c.toNat % 16 = r := ⟨_, rfl⟩
  have hc2 := c.toNat_lt
  have hq16 : q < 16 := by omega
  have hr16 : r < 16 := by omega
  have hq : (c.toNat : Int) / 16 = (q : Int) := by omega
  have hr : bits .and .u8 (c.toNat : Int) 15 = (r : Int) := by rw [and15 c.toNat c.toNat_lt, hrd]
  rw [hqd, hrd]
  have hq' : (q : Int) < 16 := by omega
  have hr' : (r : Int) < 16 := by omega
  obtain ⟨X, hX⟩ : ∃ X, hx q = X := ⟨_, rfl⟩
  obtain ⟨Y, hY⟩ : ∃ Y, hx r = Y := ⟨_, rfl⟩
  have hxq : (ByteArray.mk #[48, 49, 50, 51, 52, 53, 54, 55, 56, 57, 97, 98, 99, 100, 101, 102])[q]'hq16 = X := (hx_at q hq16).trans hX
  have hxr : (ByteArray.mk #[48, 49, 50, 51, 52, 53, 54, 55, 56, 57, 97, 98, 99, 100, 101, 102])[r]'hr16 = Y := (hx_at r hr16).trans hY
  rw [hX, hY]
  clear hqd hrd hX hY
  have t3 : (32 : Int) ≤ (c.toNat : Int) := by omega
  have t4 : ¬ (c.toNat : Int) ≤ 126 := by omega
  go_enter Tryz.func53, Tryz.ntmps53
  go_wp2_with (go_at_call 77; (with_reducible refine hIx.mono ?_); rintro e w1 ⟨rfl, hw1⟩; have hw2 := hw1.symm; clear hw1; subst hw2)
  go_region_law ((refine step_append_at (by rfl) _ _ _ (by rfl) B 5 i0 (.int .u8 0) 1 1 Tryz.underlying79 hi hz0 hz1 hz2 rfl (by decide) v l0.length (bc l0) (by rfl) (HO.out.drew.alloc _) (some ⟨w.heap.size, 0, none⟩) 4 4 (bc [92, 120, X, Y]) (by rfl) (by rfl) (fun h => by cases h) (fun ad had => by cases had; exact cells_new w.drew (bc [92, 120, X, Y]) 5) (bc_one _) (by unfold maxLen; omega) (by omega) (Nat.le_trans hB (((Below.refl B w).drew.alloc hB _).size)) ?_; intro v9 w9 hown9 hgrow9 _; have HB9 : Hid (Below B w w9) := ((Below.refl B w).drew.alloc hB _).grown hgrow9 (Nat.le_trans hB (((Below.refl B w).drew.alloc hB _).size)) (fun g h => (HO.out.lt g h).1); have HO9 : Hid (w9.ownsRow B 5 1 v9 (l0 ++ [92, 120, X, Y]).length (bc (l0 ++ [92, 120, X, Y]))) := (by unfold Hid; rw [bc_append, List.length_append]; exact hown9); clear hown9 hgrow9))
  all_goals go_wp2
  all_goals go_ret
  all_goals exact ⟨_, rfl, HO9.out, HB9.out⟩


theorem appendByte_any (B : Nat) (v : Value) (l0 : List UInt8) (c : UInt8) (w : World) (hl0 : l0.length ≤ 70368744177664) (hB : B ≤ w.heap.size) (ho : w.ownsRow B 5 1 v l0.length (bc l0)) :
    Calls Tryz.prog 53 #[v, .int .u8 (c.toNat : Int)] w fun e w' => ∃ v', e = .returned v' ∧ w'.ownsRow B 5 1 v' (l0 ++ qe c).length (bc (l0 ++ qe c)) ∧ Below B w w' := by
  unfold qe
  by_cases h1 : c = 7
  · rw [if_pos h1]; exact appendByte_7 B v l0 c w hl0 hB ho h1
  rw [if_neg h1]
  by_cases h2 : c = 8
  · rw [if_pos h2]; exact appendByte_8 B v l0 c w hl0 hB ho h2
  rw [if_neg h2]
  by_cases h3 : c = 12
  · rw [if_pos h3]; exact appendByte_12 B v l0 c w hl0 hB ho h3
  rw [if_neg h3]
  by_cases h4 : c = 10
  · rw [if_pos h4]; exact appendByte_10 B v l0 c w hl0 hB ho h4
  rw [if_neg h4]
  by_cases h5 : c = 13
  · rw [if_pos h5]; exact appendByte_13 B v l0 c w hl0 hB ho h5
  rw [if_neg h5]
  by_cases h6 : c = 9
  · rw [if_pos h6]; exact appendByte_9 B v l0 c w hl0 hB ho h6
  rw [if_neg h6]
  by_cases h7 : c = 11
  · rw [if_pos h7]; exact appendByte_11 B v l0 c w hl0 hB ho h7
  rw [if_neg h7]
  have hn : Ne7 c := ⟨h1, h2, h3, h4, h5, h6, h7⟩
  by_cases h8 : c = 34
  · rw [if_pos (.inl h8)]; exact appendByte_34 B v l0 c w hl0 hB ho hn h8
  by_cases h9 : c = 92
  · rw [if_pos (.inr h9)]; exact appendByte_92 B v l0 c w hl0 hB ho hn h9
  rw [if_neg (fun h => h.elim h8 h9)]
  by_cases ha : 32 ≤ c.toNat
  · by_cases hb : c.toNat ≤ 126
    · rw [if_pos ⟨ha, hb⟩]; exact appendByte_pr B v l0 c w hl0 hB ho hn h8 h9 ha hb
    · rw [if_neg (fun h => hb h.2)]; exact appendByte_hi B v l0 c w hl0 hB ho hn h8 h9 ha hb
  · rw [if_neg (fun h => ha h.1)]; exact appendByte_lo B v l0 c w hl0 hB ho hn h8 h9 ha
end Go.Proofs.YtnaipmgdipflgaaGreatDoor

namespace Go.Proofs.YtnaipmgdipflgaaGreatDoor
open Go.ChangeShapes Go.WideShapes Go.ChangeAt Go.RowKit
set_option linter.unusedVariables false
set_option linter.unusedSimpArgs false

set_option maxRecDepth 1000000 in
set_option maxHeartbeats 2000000 in
theorem quote_any (s : ByteArray) (w : World) (hs : s.size ≤ 8796093022208) (ha : 1 < w.heap.size) (hb : 2 < w.heap.size) (hT : Lib.Utf8Tabs 1 2 w) :
    Calls Tryz.prog 29 #[.string s] w fun e w' => e = .returned (.string ⟨(qt s).toArray⟩) ∧ Below w.heap.size w w' := by
  obtain ⟨i0, hi, hz0, hz1, hz2⟩ := info_parts infoU8b
  obtain ⟨Q, hQ⟩ : ∃ Q, 34 :: qs s s.size 0 = Q := ⟨_, rfl⟩
  have HQ : Hid (34 :: qs s s.size 0 = Q) := hQ
  clear hQ
  have HT : Hid (∀ w', Below w.heap.size w w' → Lib.Utf8Tabs 1 2 w') := fun w' h => tabs_below hT h ha hb
  clear hT
  go_enter Tryz.func29, Tryz.ntmps29
  go_wp2
  go_loopg [3, 4] s.size (fun gk so si wr => ∃ (k n : Nat) (l : List UInt8), gk = s.size - k ∧ k ≤ s.size ∧ s.size - k ≤ n ∧ si = .int .i64 (k : Int) ∧ l ++ qs s n k = Q ∧ l.length ≤ 1 + 4 * k ∧ wr.ownsRow w.heap.size 5 1 so l.length (bc l) ∧ Below w.heap.size w wr)
  case atStart => exact ⟨0, s.size, [34], by omega, Nat.zero_le _, by omega, rfl, HQ.out, by simp, World.ownsRow_lit w (bc [34]).toArray 1 (Nat.le_refl _) (by unfold maxLen; omega) rfl, by go_grown⟩
  case round =>
    obtain ⟨k, n, l, rfl, hk, hkn, rfl, hlq, hll, hown, hbel⟩ := hrel
    have HB : Hid (Below w.heap.size w wr) := hbel
    have HO : Hid (wr.ownsRow w.heap.size 5 1 u3 l.length (bc l)) := hown
    have HLQ : Hid (l ++ qs s n k = Q) := hlq
    clear hbel hown hlq
    by_cases hlt : k < s.size
    · have hlt' : (k : Int) < (s.size : Int) := by omega
      obtain ⟨f1, f2, -, -⟩ := dec_facts s k hlt
      obtain ⟨m, hm, hqm⟩ := qs_step s n k hkn hlt
      have hln := q1_len s k hlt
      have HN : Hid (l ++ q1 s k hlt ++ qs s m (k + wd s k) = Q) := by unfold Hid; rw [← HLQ.out, hqm, List.append_assoc]
      clear hqm
      have HD : Hid (Calls Tryz.prog 52 #[.string (s.extract k s.size)] wr fun e w' => e = .returned (.tuple #[.int .i32 (rn s k : Nat), .int .i64 (wd s k : Nat)]) ∧ Below wr.heap.size wr w') := Tryz.utf8_DecodeRuneInString (s.extract k s.size) wr (HT.out wr HB.out)
      obtain ⟨c, hc⟩ : ∃ c, s[k]'hlt = c := ⟨_, rfl⟩
      by_cases h1 : 1 < wd s k
      · have HX : Hid (q1 s k hlt = (s.extract k (k + wd s k)).data.toList) := by unfold Hid q1; rw [if_pos h1]
        obtain ⟨W, hW⟩ : ∃ W, wd s k = W := ⟨_, rfl⟩
        obtain ⟨R, hR⟩ : ∃ R, rn s k = R := ⟨_, rfl⟩
        rw [hW] at f1 f2 hm hln HN HD h1 HX
        rw [hR] at HD
        have h1' : (1 : Int) < (W : Int) := by omega
        have hsz : (s.extract k (k + W)).size = W := by rw [ByteArray.size_extract]; omega
        obtain ⟨T, hTd⟩ : ∃ T, s.extract k (k + W) = T := ⟨_, rfl⟩
        rw [hTd] at HX hsz
        have HXs : Hid (q1 s k hlt = T.data.toList) := HX
        obtain ⟨q, hq⟩ : ∃ q, q1 s k hlt = q := ⟨_, rfl⟩
        rw [hq] at HXs HN hln
        clear HX hW hR hq hc
        go_wp2_with (first
          | (go_at_call 52; (with_reducible refine HD.out.mono ?_); rintro e w1 ⟨rfl, hb1⟩; have HB1 : Hid (Below w.heap.size w w1) := HB.out.trans (hb1.mono HB.out.size); have HO1 : Hid (w1.ownsRow w.heap.size 5 1 u3 l.length (bc l)) := ownsRow_below HO.out hb1 (Nat.le_refl _); clear hb1)
          | (at_builtin; (refine Lib.wpList_append_own_string _ rfl _ _ 79 9 rfl w.heap.size 5 i0 Tryz.underlying79 Tryz.underlying9 hi hz0 hz1 hz2 u3 l.length (bc l) rfl HO1.out T (by rw [← hTd]; rfl) (by unfold maxLen; omega) (by omega) HB1.out.size ?_); intro v9 w9 hown9 hgrow9 _; have HB9 : Hid (Below w.heap.size w w9) := HB1.out.grown hgrow9 HB1.out.size (fun g h => (HO1.out.lt g h).1); have HO9 : Hid (w9.ownsRow w.heap.size 5 1 v9 (l ++ q).length (bc (l ++ q))) := (by unfold Hid; rw [HXs.out, bc_append, List.length_append, Array.length_toList]; exact hown9); clear hown9 hgrow9))
        go_roundg (s.size - (k + W))
        case measure => omega
        case rel => exact ⟨k + W, m, l ++ q, rfl, by omega, hm, by go_num, HN.out, by rw [List.length_append]; omega, HO9.out, HB9.out⟩
      · have HX : Hid (q1 s k hlt = qe c) := by unfold Hid q1; rw [if_neg h1, hc]
        have hW : wd s k = 1 := by omega
        obtain ⟨R, hR⟩ : ∃ R, rn s k = R := ⟨_, rfl⟩
        rw [hW] at f1 f2 hm hln HN HD
        rw [hR] at HD
        have HXs : Hid (q1 s k hlt = qe c) := HX
        obtain ⟨q, hq⟩ : ∃ q, q1 s k hlt = q := ⟨_, rfl⟩
        rw [hq] at HXs HN hln
        clear HX hW hR hq h1
        go_wp2_with (first
          | (go_at_call 52; (with_reducible refine HD.out.mono ?_); rintro e w1 ⟨rfl, hb1⟩; have HB1 : Hid (Below w.heap.size w w1) := HB.out.trans (hb1.mono HB.out.size); have HO1 : Hid (w1.ownsRow w.heap.size 5 1 u3 l.length (bc l)) := ownsRow_below HO.out hb1 (Nat.le_refl _); clear hb1)
          | (go_at_call 53; (with_reducible refine (appendByte_any w.heap.size u3 l c _ (by omega) HB1.out.size HO1.out).mono ?_); rintro e w9 ⟨v9, rfl, ho9, hb9⟩; have HB9 : Hid (Below w.heap.size w w9) := HB1.out.trans hb9; have HO9 : Hid (w9.ownsRow w.heap.size 5 1 v9 (l ++ q).length (bc (l ++ q))) := (by unfold Hid; rw [HXs.out]; exact ho9); clear ho9 hb9))
        go_roundg (s.size - (k + 1))
        case measure => omega
        case rel => exact ⟨k + 1, m, l ++ q, rfl, by omega, hm, by go_num, HN.out, by rw [List.length_append]; omega, HO9.out, HB9.out⟩
    · have hge : ¬ (k : Int) < (s.size : Int) := by omega
      have HZ : Hid (l = Q) := by
        unfold Hid; rw [← HLQ.out, qs_end s n k hlt]; simp
      go_wp2_with (at_builtin; (refine wpList_append_own_any _ rfl _ _ 79 rfl w.heap.size 5 i0 (.int .u8 0) 1 1 Tryz.underlying79 hi hz0 hz1 hz2 rfl (by decide) _ _ _ rfl (HO.out.alloc _) (some ⟨wr.heap.size, 0, none⟩) 1 1 (bc [34]) rfl (by rfl) (fun h => by cases h) (fun ad had => by cases had; exact cells_new wr (bc [34]) 5) (bc_one _) (by unfold maxLen; omega) (by omega) (by have := HB.out.size; simp; omega) ?_); intro v9 w9 hown9 hgrow9; have HBw9 : Hid (Below w.heap.size w w9) := (HB.out.alloc HB.out.size _).grown hgrow9 (by have := HB.out.size; simp; omega) (fun g h => (HO.out.lt g h).1); have HOw9 : Hid (w9.ownsRow w.heap.size 5 1 v9 (l ++ [34]).length (bc (l ++ [34]))) := (by unfold Hid; rw [bc_append, List.length_append]; exact hown9); clear hown9 hgrow9; have hcv := own_string_any HOw9.out)
      go_ret
      refine ⟨?_, HBw9.out⟩
      rw [HZ.out, ← HQ.out]; rfl
end Go.Proofs.YtnaipmgdipflgaaGreatDoor

namespace Go.Proofs.YtnaipmgdipflgaaGreatDoor
open Go.ChangeShapes Go.WideShapes Go.ChangeAt Go.RowKit
set_option linter.unusedVariables false
set_option linter.unusedSimpArgs false

theorem app_list (a b : ByteArray) : (a ++ b).data.toList = a.data.toList ++ b.data.toList := by simp
theorem ext1 (s : ByteArray) (k : Nat) (h : k < s.size) : (s.extract k (k + 1)).data.toList = [s[k]'h] := by
  apply List.ext_getElem
  · rw [Array.length_toList]; show (s.extract k (k + 1)).size = _; rw [ByteArray.size_extract]; simp; omega
  · intro i h1 h2
    simp at h2; subst h2
    have : (s.extract k (k + 1)).data.toList[0] = (s.extract k (k + 1))[0]'(by rw [ByteArray.size_extract]; omega) := rfl
    rw [this, ByteArray.getElem_extract]; simp

set_option maxRecDepth 1000000 in
set_option maxHeartbeats 4000000 in
theorem rquote_any (s : ByteArray) (w : World) (hs : s.size ≤ 8796093022208) (ha : 1 < w.heap.size) (hb : 2 < w.heap.size) (hT : Lib.Utf8Tabs 1 2 w) :
    Calls Tryz.prog 32 #[.string s] w fun e w' => e = .returned (.string ⟨(qt s).toArray⟩) ∧ Below w.heap.size w w' := by
  obtain ⟨Q, hQ⟩ : ∃ Q, 34 :: qs s s.size 0 = Q := ⟨_, rfl⟩
  have HQ : Hid (34 :: qs s s.size 0 = Q) := hQ
  clear hQ
  have HT : Hid (∀ w', Below w.heap.size w w' → Lib.Utf8Tabs 1 2 w') := fun w' h => tabs_below hT h ha hb
  clear hT
  go_enter Tryz.func32, Tryz.ntmps32
  go_wp2
  go_loopg [4, 5] s.size (fun gk so si wr => ∃ (k n : Nat) (T : ByteArray), gk = s.size - k ∧ k ≤ s.size ∧ s.size - k ≤ n ∧ si = .int .i64 (k : Int) ∧ so = .string T ∧ T.data.toList ++ qs s n k = Q ∧ T.size ≤ 1 + 4 * k ∧ Below w.heap.size w wr)
  case atStart => exact ⟨0, s.size, ⟨#[34]⟩, by omega, Nat.zero_le _, by omega, rfl, rfl, HQ.out, by decide, by go_grown⟩
  case round =>
    obtain ⟨k, n, T, rfl, hk, hkn, rfl, rfl, hlq, hll, hbel⟩ := hrel
    have HB : Hid (Below w.heap.size w wr) := hbel
    have HLQ : Hid (T.data.toList ++ qs s n k = Q) := hlq
    clear hbel hlq
    by_cases hlt : k < s.size
    · have hlt' : (k : Int) < (s.size : Int) := by omega
      obtain ⟨f1, f2, f3, f4⟩ := dec_facts s k hlt
      obtain ⟨m, hm, hqm⟩ := qs_step s n k hkn hlt
      have hln := q1_len s k hlt
      have HN : Hid (T.data.toList ++ q1 s k hlt ++ qs s m (k + wd s k) = Q) := by unfold Hid; rw [← HLQ.out, hqm, List.append_assoc]
      clear hqm
      have HD : Hid (Calls Tryz.prog 52 #[.string (s.extract k s.size)] wr fun e w' => e = .returned (.tuple #[.int .i32 (rn s k : Nat), .int .i64 (wd s k : Nat)]) ∧ Below wr.heap.size wr w') := Tryz.utf8_DecodeRuneInString (s.extract k s.size) wr (HT.out wr HB.out)
      have HE1 := ext1 s k hlt
      obtain ⟨c, hc⟩ : ∃ c, s[k]'hlt = c := ⟨_, rfl⟩
      have HX : q1 s k hlt = if 1 < wd s k then (s.extract k (k + wd s k)).data.toList else qe c := by unfold q1; rw [hc]
      rw [hc] at f3 f4 HE1
      have hc8 := c.toNat_lt
      obtain ⟨W, hW⟩ : ∃ W, wd s k = W := ⟨_, rfl⟩
      obtain ⟨R, hR⟩ : ∃ R, rn s k = R := ⟨_, rfl⟩
      obtain ⟨q, hq⟩ : ∃ q, q1 s k hlt = q := ⟨_, rfl⟩
      rw [hW] at f1 f2 f3 f4 hm hln HN HD HX
      rw [hR] at HD f3 f4
      rw [hq] at HN hln HX
      clear hW hR hq
      have HDk : Hid (Calls Tryz.prog 52 #[.string (s.extract k s.size)] wr fun e w' => e = .returned (.tuple #[.int .i32 (R : Nat), .int .i64 (W : Nat)]) ∧ Below wr.heap.size wr w') := HD
      clear HD
      by_cases h1 : 1 < W
      · have hq : q = (s.extract k (k + W)).data.toList := by rw [HX, if_pos h1]
        have hsz : (s.extract k (k + W)).size = W := by rw [ByteArray.size_extract]; omega
        have c128 : 128 ≤ c.toNat := by
          by_cases h : c.toNat < 128
          · have := (f3 h).1; omega
          · omega
        have HQq : Hid (q = (s.extract k (k + W)).data.toList) := hq
        have t1 : (7 : Int) ≤ (c.toNat : Int) := by omega
        have t2 : ¬ (c.toNat : Int) ≤ 13 := by omega
        have t3 : ((c.toNat : Int) == 34) = false := by rw [beq_eq_false_iff_ne]; omega
        have t4 : ((c.toNat : Int) == 92) = false := by rw [beq_eq_false_iff_ne]; omega
        have t5 : ¬ (c.toNat : Int) < 32 := by omega
        have t6 : ((c.toNat : Int) == 127) = false := by rw [beq_eq_false_iff_ne]; omega
        have t7 : ((W : Int) == 1) = false := by rw [beq_eq_false_iff_ne]; omega
        have tz : ¬ (9223372036854775807 < T.size + W) := by omega
        clear HX f3 f4 hq
        by_cases hR : R = 65533
        · have t8 : ((R : Int) == 65533) = true := by rw [hR]; rfl
          clear hR
          go_wp2_with (go_at_call 52; (with_reducible refine HDk.out.mono ?_); rintro e w1 ⟨rfl, hb1⟩; have HB1 : Hid (Below w.heap.size w w1) := HB.out.trans (hb1.mono HB.out.size); clear hb1)
          go_roundg (s.size - (k + W))
          case measure => omega
          case rel =>
            have hU : (s.extract k (k + W)).data.toList = q := HQq.out.symm
            refine ⟨k + W, m, T ++ (s.extract k (k + W)), rfl, by omega, hm, by go_num, rfl, ?_, ?_, HB1.out⟩
            · rw [app_list, hU]; exact HN.out
            · rw [ByteArray.size_append]; have : (s.extract k (k + W)).size = q.length := by rw [← hU, Array.length_toList]; rfl
              omega
        · have t8 : ((R : Int) == 65533) = false := by rw [beq_eq_false_iff_ne]; omega
          clear hR
          go_wp2_with (go_at_call 52; (with_reducible refine HDk.out.mono ?_); rintro e w1 ⟨rfl, hb1⟩; have HB1 : Hid (Below w.heap.size w w1) := HB.out.trans (hb1.mono HB.out.size); clear hb1)
          go_roundg (s.size - (k + W))
          case measure => omega
          case rel =>
            have hU : (s.extract k (k + W)).data.toList = q := HQq.out.symm
            refine ⟨k + W, m, T ++ (s.extract k (k + W)), rfl, by omega, hm, by go_num, rfl, ?_, ?_, HB1.out⟩
            · rw [app_list, hU]; exact HN.out
            · rw [ByteArray.size_append]; have : (s.extract k (k + W)).size = q.length := by rw [← hU, Array.length_toList]; rfl
              omega
      · have hW1 : W = 1 := by omega
        subst hW1
        have hq : q = qe c := by rw [HX, if_neg h1]
        have HQq : Hid (q = qe c) := hq
        clear HX hq h1
        by_cases hb7 : c = 7
        · have hq : q = [92, 97] := by rw [HQq.out, hb7]; rfl
          have HQ2 : Hid (q = [92, 97]) := hq
          have t0 : (c.toNat : Int) = 7 := by rw [hb7]; rfl
          have tz : ¬ (9223372036854775807 < T.size + 2) := by omega
          clear HQq f3 f4 hq hb7
          go_wp2_with (go_at_call 52; (with_reducible refine HDk.out.mono ?_); rintro e w1 ⟨rfl, hb1⟩; have HB1 : Hid (Below w.heap.size w w1) := HB.out.trans (hb1.mono HB.out.size); clear hb1)
          go_roundg (s.size - (k + 1))
          case measure => omega
          case rel =>
            have hU : (ByteArray.mk #[92] ++ (ByteArray.mk #[97, 98, 116, 110, 118, 102, 114]).extract 0 1).data.toList = q := by rw [HQ2.out, app_list]; first | rfl | decide
            refine ⟨k + 1, m, T ++ (ByteArray.mk #[92] ++ (ByteArray.mk #[97, 98, 116, 110, 118, 102, 114]).extract 0 1), rfl, by omega, hm, by go_num, rfl, ?_, ?_, HB1.out⟩
            · rw [app_list, hU]; exact HN.out
            · rw [ByteArray.size_append]; have : (ByteArray.mk #[92] ++ (ByteArray.mk #[97, 98, 116, 110, 118, 102, 114]).extract 0 1).size = q.length := by rw [← hU, Array.length_toList]; rfl
              omega
        by_cases hb8 : c = 8
        · have hq : q = [92, 98] := by rw [HQq.out, hb8]; rfl
          have HQ2 : Hid (q = [92, 98]) := hq
          have t0 : (c.toNat : Int) = 8 := by rw [hb8]; rfl
          have tz : ¬ (9223372036854775807 < T.size + 2) := by omega
          clear HQq f3 f4 hq hb8
          go_wp2_with (go_at_call 52; (with_reducible refine HDk.out.mono ?_); rintro e w1 ⟨rfl, hb1⟩; have HB1 : Hid (Below w.heap.size w w1) := HB.out.trans (hb1.mono HB.out.size); clear hb1)
          go_roundg (s.size - (k + 1))
          case measure => omega
          case rel =>
            have hU : (ByteArray.mk #[92] ++ (ByteArray.mk #[97, 98, 116, 110, 118, 102, 114]).extract 1 2).data.toList = q := by rw [HQ2.out, app_list]; first | rfl | decide
            refine ⟨k + 1, m, T ++ (ByteArray.mk #[92] ++ (ByteArray.mk #[97, 98, 116, 110, 118, 102, 114]).extract 1 2), rfl, by omega, hm, by go_num, rfl, ?_, ?_, HB1.out⟩
            · rw [app_list, hU]; exact HN.out
            · rw [ByteArray.size_append]; have : (ByteArray.mk #[92] ++ (ByteArray.mk #[97, 98, 116, 110, 118, 102, 114]).extract 1 2).size = q.length := by rw [← hU, Array.length_toList]; rfl
              omega
        by_cases hb9 : c = 9
        · have hq : q = [92, 116] := by rw [HQq.out, hb9]; rfl
          have HQ2 : Hid (q = [92, 116]) := hq
          have t0 : (c.toNat : Int) = 9 := by rw [hb9]; rfl
          have tz : ¬ (9223372036854775807 < T.size + 2) := by omega
          clear HQq f3 f4 hq hb9
          go_wp2_with (go_at_call 52; (with_reducible refine HDk.out.mono ?_); rintro e w1 ⟨rfl, hb1⟩; have HB1 : Hid (Below w.heap.size w w1) := HB.out.trans (hb1.mono HB.out.size); clear hb1)
          go_roundg (s.size - (k + 1))
          case measure => omega
          case rel =>
            have hU : (ByteArray.mk #[92] ++ (ByteArray.mk #[97, 98, 116, 110, 118, 102, 114]).extract 2 3).data.toList = q := by rw [HQ2.out, app_list]; first | rfl | decide
            refine ⟨k + 1, m, T ++ (ByteArray.mk #[92] ++ (ByteArray.mk #[97, 98, 116, 110, 118, 102, 114]).extract 2 3), rfl, by omega, hm, by go_num, rfl, ?_, ?_, HB1.out⟩
            · rw [app_list, hU]; exact HN.out
            · rw [ByteArray.size_append]; have : (ByteArray.mk #[92] ++ (ByteArray.mk #[97, 98, 116, 110, 118, 102, 114]).extract 2 3).size = q.length := by rw [← hU, Array.length_toList]; rfl
              omega
        by_cases hb10 : c = 10
        · have hq : q = [92, 110] := by rw [HQq.out, hb10]; rfl
          have HQ2 : Hid (q = [92, 110]) := hq
          have t0 : (c.toNat : Int) = 10 := by rw [hb10]; rfl
          have tz : ¬ (9223372036854775807 < T.size + 2) := by omega
          clear HQq f3 f4 hq hb10
          go_wp2_with (go_at_call 52; (with_reducible refine HDk.out.mono ?_); rintro e w1 ⟨rfl, hb1⟩; have HB1 : Hid (Below w.heap.size w w1) := HB.out.trans (hb1.mono HB.out.size); clear hb1)
          go_roundg (s.size - (k + 1))
          case measure => omega
          case rel =>
            have hU : (ByteArray.mk #[92] ++ (ByteArray.mk #[97, 98, 116, 110, 118, 102, 114]).extract 3 4).data.toList = q := by rw [HQ2.out, app_list]; first | rfl | decide
            refine ⟨k + 1, m, T ++ (ByteArray.mk #[92] ++ (ByteArray.mk #[97, 98, 116, 110, 118, 102, 114]).extract 3 4), rfl, by omega, hm, by go_num, rfl, ?_, ?_, HB1.out⟩
            · rw [app_list, hU]; exact HN.out
            · rw [ByteArray.size_append]; have : (ByteArray.mk #[92] ++ (ByteArray.mk #[97, 98, 116, 110, 118, 102, 114]).extract 3 4).size = q.length := by rw [← hU, Array.length_toList]; rfl
              omega
        by_cases hb11 : c = 11
        · have hq : q = [92, 118] := by rw [HQq.out, hb11]; rfl
          have HQ2 : Hid (q = [92, 118]) := hq
          have t0 : (c.toNat : Int) = 11 := by rw [hb11]; rfl
          have tz : ¬ (9223372036854775807 < T.size + 2) := by omega
          clear HQq f3 f4 hq hb11
          go_wp2_with (go_at_call 52; (with_reducible refine HDk.out.mono ?_); rintro e w1 ⟨rfl, hb1⟩; have HB1 : Hid (Below w.heap.size w w1) := HB.out.trans (hb1.mono HB.out.size); clear hb1)
          go_roundg (s.size - (k + 1))
          case measure => omega
          case rel =>
            have hU : (ByteArray.mk #[92] ++ (ByteArray.mk #[97, 98, 116, 110, 118, 102, 114]).extract 4 5).data.toList = q := by rw [HQ2.out, app_list]; first | rfl | decide
            refine ⟨k + 1, m, T ++ (ByteArray.mk #[92] ++ (ByteArray.mk #[97, 98, 116, 110, 118, 102, 114]).extract 4 5), rfl, by omega, hm, by go_num, rfl, ?_, ?_, HB1.out⟩
            · rw [app_list, hU]; exact HN.out
            · rw [ByteArray.size_append]; have : (ByteArray.mk #[92] ++ (ByteArray.mk #[97, 98, 116, 110, 118, 102, 114]).extract 4 5).size = q.length := by rw [← hU, Array.length_toList]; rfl
              omega
        by_cases hb12 : c = 12
        · have hq : q = [92, 102] := by rw [HQq.out, hb12]; rfl
          have HQ2 : Hid (q = [92, 102]) := hq
          have t0 : (c.toNat : Int) = 12 := by rw [hb12]; rfl
          have tz : ¬ (9223372036854775807 < T.size + 2) := by omega
          clear HQq f3 f4 hq hb12
          go_wp2_with (go_at_call 52; (with_reducible refine HDk.out.mono ?_); rintro e w1 ⟨rfl, hb1⟩; have HB1 : Hid (Below w.heap.size w w1) := HB.out.trans (hb1.mono HB.out.size); clear hb1)
          go_roundg (s.size - (k + 1))
          case measure => omega
          case rel =>
            have hU : (ByteArray.mk #[92] ++ (ByteArray.mk #[97, 98, 116, 110, 118, 102, 114]).extract 5 6).data.toList = q := by rw [HQ2.out, app_list]; first | rfl | decide
            refine ⟨k + 1, m, T ++ (ByteArray.mk #[92] ++ (ByteArray.mk #[97, 98, 116, 110, 118, 102, 114]).extract 5 6), rfl, by omega, hm, by go_num, rfl, ?_, ?_, HB1.out⟩
            · rw [app_list, hU]; exact HN.out
            · rw [ByteArray.size_append]; have : (ByteArray.mk #[92] ++ (ByteArray.mk #[97, 98, 116, 110, 118, 102, 114]).extract 5 6).size = q.length := by rw [← hU, Array.length_toList]; rfl
              omega
        by_cases hb13 : c = 13
        · have hq : q = [92, 114] := by rw [HQq.out, hb13]; rfl
          have HQ2 : Hid (q = [92, 114]) := hq
          have t0 : (c.toNat : Int) = 13 := by rw [hb13]; rfl
          have tz : ¬ (9223372036854775807 < T.size + 2) := by omega
          clear HQq f3 f4 hq hb13
          go_wp2_with (go_at_call 52; (with_reducible refine HDk.out.mono ?_); rintro e w1 ⟨rfl, hb1⟩; have HB1 : Hid (Below w.heap.size w w1) := HB.out.trans (hb1.mono HB.out.size); clear hb1)
          go_roundg (s.size - (k + 1))
          case measure => omega
          case rel =>
            have hU : (ByteArray.mk #[92] ++ (ByteArray.mk #[97, 98, 116, 110, 118, 102, 114]).extract 6 7).data.toList = q := by rw [HQ2.out, app_list]; first | rfl | decide
            refine ⟨k + 1, m, T ++ (ByteArray.mk #[92] ++ (ByteArray.mk #[97, 98, 116, 110, 118, 102, 114]).extract 6 7), rfl, by omega, hm, by go_num, rfl, ?_, ?_, HB1.out⟩
            · rw [app_list, hU]; exact HN.out
            · rw [ByteArray.size_append]; have : (ByteArray.mk #[92] ++ (ByteArray.mk #[97, 98, 116, 110, 118, 102, 114]).extract 6 7).size = q.length := by rw [← hU, Array.length_toList]; rfl
              omega
        by_cases hb34 : c = 34
        · have hq : q = [92, c] := by rw [HQq.out, hb34]; rfl
          have HQ2 : Hid (q = [92, c]) := hq
          have t1 : (7 : Int) ≤ (c.toNat : Int) := by rw [hb34]; decide
          have t2 : ¬ (c.toNat : Int) ≤ 13 := by rw [hb34]; decide
          have t3 : ((c.toNat : Int) == 34) = true := by rw [hb34]; rfl
          have hsz : (s.extract k (k + 1)).size = 1 := by rw [ByteArray.size_extract]; omega
          have tz : ¬ (9223372036854775807 < T.size + 2) := by omega
          clear HQq f3 f4 hq hb34
          go_wp2_with (go_at_call 52; (with_reducible refine HDk.out.mono ?_); rintro e w1 ⟨rfl, hb1⟩; have HB1 : Hid (Below w.heap.size w w1) := HB.out.trans (hb1.mono HB.out.size); clear hb1)
          go_roundg (s.size - (k + 1))
          case measure => omega
          case rel =>
            have hU : (ByteArray.mk #[92] ++ s.extract k (k + 1)).data.toList = q := by rw [app_list, HE1, HQ2.out]; rfl
            refine ⟨k + 1, m, T ++ (ByteArray.mk #[92] ++ s.extract k (k + 1)), rfl, by omega, hm, by go_num, rfl, ?_, ?_, HB1.out⟩
            · rw [app_list, hU]; exact HN.out
            · rw [ByteArray.size_append]; have : (ByteArray.mk #[92] ++ s.extract k (k + 1)).size = q.length := by rw [← hU, Array.length_toList]; rfl
              omega
        by_cases hb92 : c = 92
        · have hq : q = [92, c] := by rw [HQq.out, hb92]; rfl
          have HQ2 : Hid (q = [92, c]) := hq
          have t1 : (7 : Int) ≤ (c.toNat : Int) := by rw [hb92]; decide
          have t2 : ¬ (c.toNat : Int) ≤ 13 := by rw [hb92]; decide
          have t3 : ((c.toNat : Int) == 34) = false := by rw [hb92]; rfl
          have t4 : ((c.toNat : Int) == 92) = true := by rw [hb92]; rfl
          have hsz : (s.extract k (k + 1)).size = 1 := by rw [ByteArray.size_extract]; omega
          have tz : ¬ (9223372036854775807 < T.size + 2) := by omega
          clear HQq f3 f4 hq hb92
          go_wp2_with (go_at_call 52; (with_reducible refine HDk.out.mono ?_); rintro e w1 ⟨rfl, hb1⟩; have HB1 : Hid (Below w.heap.size w w1) := HB.out.trans (hb1.mono HB.out.size); clear hb1)
          go_roundg (s.size - (k + 1))
          case measure => omega
          case rel =>
            have hU : (ByteArray.mk #[92] ++ s.extract k (k + 1)).data.toList = q := by rw [app_list, HE1, HQ2.out]; rfl
            refine ⟨k + 1, m, T ++ (ByteArray.mk #[92] ++ s.extract k (k + 1)), rfl, by omega, hm, by go_num, rfl, ?_, ?_, HB1.out⟩
            · rw [app_list, hU]; exact HN.out
            · rw [ByteArray.size_append]; have : (ByteArray.mk #[92] ++ s.extract k (k + 1)).size = q.length := by rw [← hU, Array.length_toList]; rfl
              omega
        have b34 : c.toNat ≠ 34 := fun h => hb34 (UInt8.toNat_inj.1 (by rw [h]; rfl))
        have b92 : c.toNat ≠ 92 := fun h => hb92 (UInt8.toNat_inj.1 (by rw [h]; rfl))
        have b7 : c.toNat ≠ 7 := fun h => hb7 (UInt8.toNat_inj.1 (by rw [h]; rfl))
        have b8 : c.toNat ≠ 8 := fun h => hb8 (UInt8.toNat_inj.1 (by rw [h]; rfl))
        have b9 : c.toNat ≠ 9 := fun h => hb9 (UInt8.toNat_inj.1 (by rw [h]; rfl))
        have b10 : c.toNat ≠ 10 := fun h => hb10 (UInt8.toNat_inj.1 (by rw [h]; rfl))
        have b11 : c.toNat ≠ 11 := fun h => hb11 (UInt8.toNat_inj.1 (by rw [h]; rfl))
        have b12 : c.toNat ≠ 12 := fun h => hb12 (UInt8.toNat_inj.1 (by rw [h]; rfl))
        have b13 : c.toNat ≠ 13 := fun h => hb13 (UInt8.toNat_inj.1 (by rw [h]; rfl))
        have hqe : qe c = if 32 ≤ c.toNat ∧ c.toNat ≤ 126 then [c] else [92, 120, hx (c.toNat / 16), hx (c.toNat % 16)] := by
          unfold qe
          rw [if_neg hb7, if_neg hb8, if_neg hb12, if_neg hb10, if_neg hb13, if_neg hb9, if_neg hb11, if_neg (fun h => h.elim hb34 hb92)]
        clear hb7 hb8 hb9 hb10 hb11 hb12 hb13 hb34 hb92
        have t3 : ((c.toNat : Int) == 34) = false := by rw [beq_eq_false_iff_ne]; omega
        have t4 : ((c.toNat : Int) == 92) = false := by rw [beq_eq_false_iff_ne]; omega
        by_cases hp : 32 ≤ c.toNat ∧ c.toNat ≤ 126
        · have hq : q = (s.extract k (k + 1)).data.toList := by rw [HQq.out, hqe, if_pos hp, HE1]
          have HQ2 : Hid (q = (s.extract k (k + 1)).data.toList) := hq
          have hRc : R = c.toNat := (f3 (by omega)).2
          have t1 : (7 : Int) ≤ (c.toNat : Int) := by omega
          have t2 : ¬ (c.toNat : Int) ≤ 13 := by omega
          have t5 : ¬ (c.toNat : Int) < 32 := by omega
          have t6 : ((c.toNat : Int) == 127) = false := by rw [beq_eq_false_iff_ne]; omega
          have t8 : ((R : Int) == 65533) = false := by rw [beq_eq_false_iff_ne]; omega
          have hsz : (s.extract k (k + 1)).size = 1 := by rw [ByteArray.size_extract]; omega
          have tz : ¬ (9223372036854775807 < T.size + 1) := by omega
          clear HQq f3 f4 hq hqe hp b34 b92 b7 b8 b9 b10 b11 b12 b13 hRc
          go_wp2_with (go_at_call 52; (with_reducible refine HDk.out.mono ?_); rintro e w1 ⟨rfl, hb1⟩; have HB1 : Hid (Below w.heap.size w w1) := HB.out.trans (hb1.mono HB.out.size); clear hb1)
          go_roundg (s.size - (k + 1))
          case measure => omega
          case rel =>
            have hU : (s.extract k (k + 1)).data.toList = q := HQ2.out.symm
            refine ⟨k + 1, m, T ++ (s.extract k (k + 1)), rfl, by omega, hm, by go_num, rfl, ?_, ?_, HB1.out⟩
            · rw [app_list, hU]; exact HN.out
            · rw [ByteArray.size_append]; have : (s.extract k (k + 1)).size = q.length := by rw [← hU, Array.length_toList]; rfl
              omega
        · have hq : q = [92, 120, hx (c.toNat / 16), hx (c.toNat % 16)] := by rw [HQq.out, hqe, if_neg hp]
          obtain ⟨d, hdd⟩ : ∃ d, c.toNat / 16 = d := ⟨_, rfl⟩
          obtain ⟨r, hrd⟩ : ∃ r, c.toNat % 16 = r := ⟨_, rfl⟩
          have hd16 : d < 16 := by omega
          have hr16 : r < 16 := by omega
          have hd : (c.toNat : Int) / 16 = (d : Int) := by omega
          have hr : (c.toNat : Int) % 16 = (r : Int) := by omega
          rw [hdd, hrd] at hq
          have HQ2 : Hid (q = [92, 120, hx d, hx r]) := hq
          have tz : ¬ (9223372036854775807 < T.size + 4) := by omega
          have hz1 : ((ByteArray.mk #[48, 49, 50, 51, 52, 53, 54, 55, 56, 57, 97, 98, 99, 100, 101, 102]).extract d (d + 1)).size = 1 := by rw [ByteArray.size_extract]; show min (d + 1) 16 - d = 1; omega
          have hz2 : ((ByteArray.mk #[48, 49, 50, 51, 52, 53, 54, 55, 56, 57, 97, 98, 99, 100, 101, 102]).extract r (r + 1)).size = 1 := by rw [ByteArray.size_extract]; show min (r + 1) 16 - r = 1; omega
          have hd' : (d : Int) < 16 := by omega
          have hr' : (r : Int) < 16 := by omega
          have HXd : Hid (((ByteArray.mk #[48, 49, 50, 51, 52, 53, 54, 55, 56, 57, 97, 98, 99, 100, 101, 102]).extract d (d + 1)).data.toList = [hx d]) := by unfold Hid; rw [ext1 (ByteArray.mk #[48, 49, 50, 51, 52, 53, 54, 55, 56, 57, 97, 98, 99, 100, 101, 102]) d hd16, hx_at d hd16]
          have HXr : Hid (((ByteArray.mk #[48, 49, 50, 51, 52, 53, 54, 55, 56, 57, 97, 98, 99, 100, 101, 102]).extract r (r + 1)).data.toList = [hx r]) := by unfold Hid; rw [ext1 (ByteArray.mk #[48, 49, 50, 51, 52, 53, 54, 55, 56, 57, 97, 98, 99, 100, 101, 102]) r hr16, hx_at r hr16]
          clear HQq hq hqe hdd hrd
          by_cases hlo : c.toNat < 7
          · have t1 : ¬ (7 : Int) ≤ (c.toNat : Int) := by omega
            have t5 : (c.toNat : Int) < 32 := by omega
            clear f3 f4 hp b34 b92 b7 b8 b9 b10 b11 b12 b13
            go_wp2_with (go_at_call 52; (with_reducible refine HDk.out.mono ?_); rintro e w1 ⟨rfl, hb1⟩; have HB1 : Hid (Below w.heap.size w w1) := HB.out.trans (hb1.mono HB.out.size); clear hb1)
            go_quiet (fail)
            go_wp2
            go_roundg (s.size - (k + 1))
            case measure => omega
            case rel =>
              have hU : (ByteArray.mk #[92, 120] ++ (ByteArray.mk #[48, 49, 50, 51, 52, 53, 54, 55, 56, 57, 97, 98, 99, 100, 101, 102]).extract d (d + 1) ++ (ByteArray.mk #[48, 49, 50, 51, 52, 53, 54, 55, 56, 57, 97, 98, 99, 100, 101, 102]).extract r (r + 1)).data.toList = q := by rw [app_list, app_list, HXd.out, HXr.out, HQ2.out]; rfl
              refine ⟨k + 1, m, T ++ (ByteArray.mk #[92, 120] ++ (ByteArray.mk #[48, 49, 50, 51, 52, 53, 54, 55, 56, 57, 97, 98, 99, 100, 101, 102]).extract d (d + 1) ++ (ByteArray.mk #[48, 49, 50, 51, 52, 53, 54, 55, 56, 57, 97, 98, 99, 100, 101, 102]).extract r (r + 1)), rfl, by omega, hm, by go_num, rfl, ?_, ?_, HB1.out.trans ⟨rfl, rfl, rfl, Nat.le_refl _, fun _ _ => rfl⟩⟩
              · rw [app_list, hU]; exact HN.out
              · rw [ByteArray.size_append]; have : (ByteArray.mk #[92, 120] ++ (ByteArray.mk #[48, 49, 50, 51, 52, 53, 54, 55, 56, 57, 97, 98, 99, 100, 101, 102]).extract d (d + 1) ++ (ByteArray.mk #[48, 49, 50, 51, 52, 53, 54, 55, 56, 57, 97, 98, 99, 100, 101, 102]).extract r (r + 1)).size = q.length := by rw [← hU, Array.length_toList]; rfl
                omega
          have t1 : (7 : Int) ≤ (c.toNat : Int) := by omega
          have t2 : ¬ (c.toNat : Int) ≤ 13 := by omega
          by_cases hl2 : c.toNat < 32
          · have t5 : (c.toNat : Int) < 32 := by omega
            clear f3 f4 hp b34 b92 b7 b8 b9 b10 b11 b12 b13
            go_wp2_with (go_at_call 52; (with_reducible refine HDk.out.mono ?_); rintro e w1 ⟨rfl, hb1⟩; have HB1 : Hid (Below w.heap.size w w1) := HB.out.trans (hb1.mono HB.out.size); clear hb1)
            go_quiet (fail)
            go_wp2
            go_roundg (s.size - (k + 1))
            case measure => omega
            case rel =>
              have hU : (ByteArray.mk #[92, 120] ++ (ByteArray.mk #[48, 49, 50, 51, 52, 53, 54, 55, 56, 57, 97, 98, 99, 100, 101, 102]).extract d (d + 1) ++ (ByteArray.mk #[48, 49, 50, 51, 52, 53, 54, 55, 56, 57, 97, 98, 99, 100, 101, 102]).extract r (r + 1)).data.toList = q := by rw [app_list, app_list, HXd.out, HXr.out, HQ2.out]; rfl
              refine ⟨k + 1, m, T ++ (ByteArray.mk #[92, 120] ++ (ByteArray.mk #[48, 49, 50, 51, 52, 53, 54, 55, 56, 57, 97, 98, 99, 100, 101, 102]).extract d (d + 1) ++ (ByteArray.mk #[48, 49, 50, 51, 52, 53, 54, 55, 56, 57, 97, 98, 99, 100, 101, 102]).extract r (r + 1)), rfl, by omega, hm, by go_num, rfl, ?_, ?_, HB1.out.trans ⟨rfl, rfl, rfl, Nat.le_refl _, fun _ _ => rfl⟩⟩
              · rw [app_list, hU]; exact HN.out
              · rw [ByteArray.size_append]; have : (ByteArray.mk #[92, 120] ++ (ByteArray.mk #[48, 49, 50, 51, 52, 53, 54, 55, 56, 57, 97, 98, 99, 100, 101, 102]).extract d (d + 1) ++ (ByteArray.mk #[48, 49, 50, 51, 52, 53, 54, 55, 56, 57, 97, 98, 99, 100, 101, 102]).extract r (r + 1)).size = q.length := by rw [← hU, Array.length_toList]; rfl
                omega
          have t5 : ¬ (c.toNat : Int) < 32 := by omega
          by_cases h127 : c.toNat = 127
          · have t6 : ((c.toNat : Int) == 127) = true := by rw [h127]; rfl
            clear f3 f4 hp b34 b92 b7 b8 b9 b10 b11 b12 b13 h127
            go_wp2_with (go_at_call 52; (with_reducible refine HDk.out.mono ?_); rintro e w1 ⟨rfl, hb1⟩; have HB1 : Hid (Below w.heap.size w w1) := HB.out.trans (hb1.mono HB.out.size); clear hb1)
            go_quiet (fail)
            go_wp2
            go_roundg (s.size - (k + 1))
            case measure => omega
            case rel =>
              have hU : (ByteArray.mk #[92, 120] ++ (ByteArray.mk #[48, 49, 50, 51, 52, 53, 54, 55, 56, 57, 97, 98, 99, 100, 101, 102]).extract d (d + 1) ++ (ByteArray.mk #[48, 49, 50, 51, 52, 53, 54, 55, 56, 57, 97, 98, 99, 100, 101, 102]).extract r (r + 1)).data.toList = q := by rw [app_list, app_list, HXd.out, HXr.out, HQ2.out]; rfl
              refine ⟨k + 1, m, T ++ (ByteArray.mk #[92, 120] ++ (ByteArray.mk #[48, 49, 50, 51, 52, 53, 54, 55, 56, 57, 97, 98, 99, 100, 101, 102]).extract d (d + 1) ++ (ByteArray.mk #[48, 49, 50, 51, 52, 53, 54, 55, 56, 57, 97, 98, 99, 100, 101, 102]).extract r (r + 1)), rfl, by omega, hm, by go_num, rfl, ?_, ?_, HB1.out.trans ⟨rfl, rfl, rfl, Nat.le_refl _, fun _ _ => rfl⟩⟩
              · rw [app_list, hU]; exact HN.out
              · rw [ByteArray.size_append]; have : (ByteArray.mk #[92, 120] ++ (ByteArray.mk #[48, 49, 50, 51, 52, 53, 54, 55, 56, 57, 97, 98, 99, 100, 101, 102]).extract d (d + 1) ++ (ByteArray.mk #[48, 49, 50, 51, 52, 53, 54, 55, 56, 57, 97, 98, 99, 100, 101, 102]).extract r (r + 1)).size = q.length := by rw [← hU, Array.length_toList]; rfl
                omega
          have t6 : ((c.toNat : Int) == 127) = false := by rw [beq_eq_false_iff_ne]; omega
          have hRb : R = 65533 := f4 (by omega) rfl
          have t8 : ((R : Int) == 65533) = true := by rw [hRb]; rfl
          clear f3 f4 hp b34 b92 b7 b8 b9 b10 b11 b12 b13 h127 hRb
          go_wp2_with (go_at_call 52; (with_reducible refine HDk.out.mono ?_); rintro e w1 ⟨rfl, hb1⟩; have HB1 : Hid (Below w.heap.size w w1) := HB.out.trans (hb1.mono HB.out.size); clear hb1)
          go_quiet (fail)
          go_wp2
          go_roundg (s.size - (k + 1))
          case measure => omega
          case rel =>
            have hU : (ByteArray.mk #[92, 120] ++ (ByteArray.mk #[48, 49, 50, 51, 52, 53, 54, 55, 56, 57, 97, 98, 99, 100, 101, 102]).extract d (d + 1) ++ (ByteArray.mk #[48, 49, 50, 51, 52, 53, 54, 55, 56, 57, 97, 98, 99, 100, 101, 102]).extract r (r + 1)).data.toList = q := by rw [app_list, app_list, HXd.out, HXr.out, HQ2.out]; rfl
            refine ⟨k + 1, m, T ++ (ByteArray.mk #[92, 120] ++ (ByteArray.mk #[48, 49, 50, 51, 52, 53, 54, 55, 56, 57, 97, 98, 99, 100, 101, 102]).extract d (d + 1) ++ (ByteArray.mk #[48, 49, 50, 51, 52, 53, 54, 55, 56, 57, 97, 98, 99, 100, 101, 102]).extract r (r + 1)), rfl, by omega, hm, by go_num, rfl, ?_, ?_, HB1.out.trans ⟨rfl, rfl, rfl, Nat.le_refl _, fun _ _ => rfl⟩⟩
            · rw [app_list, hU]; exact HN.out
            · rw [ByteArray.size_append]; have : (ByteArray.mk #[92, 120] ++ (ByteArray.mk #[48, 49, 50, 51, 52, 53, 54, 55, 56, 57, 97, 98, 99, 100, 101, 102]).extract d (d + 1) ++ (ByteArray.mk #[48, 49, 50, 51, 52, 53, 54, 55, 56, 57, 97, 98, 99, 100, 101, 102]).extract r (r + 1)).size = q.length := by rw [← hU, Array.length_toList]; rfl
              omega
    · have hge : ¬ (k : Int) < (s.size : Int) := by omega
      have HZ : Hid (T.data.toList = Q) := by unfold Hid; rw [← HLQ.out, qs_end s n k hlt]; simp
      have tz : ¬ (9223372036854775807 < T.size + 1) := by omega
      have HV : Hid (T ++ ByteArray.mk #[34] = ByteArray.mk (qt s).toArray) := by
        unfold Hid
        apply ByteArray.ext
        apply Array.ext'
        rw [app_list, HZ.out, ← HQ.out]
        simp [qt]
      go_wp2
      go_ret
      refine ⟨?_, HB.out⟩
      rw [← HV.out]; rfl
end Go.Proofs.YtnaipmgdipflgaaGreatDoor

namespace Go.Proofs.YtnaipmgdipflgaaGreatDoor
open Go.ChangeShapes Go.WideShapes Go.ChangeAt Go.RowKit
set_option linter.unusedVariables false
set_option linter.unusedSimpArgs false

/-- what a value is shown as -/
def shw (x : Vl) : List UInt8 := if rgt x then (if x.k = 1 then (if x.b then [116, 114, 117, 101] else [102, 97, 108, 115, 101]) else if x.k = 2 then Lib.itoa x.i else qt x.s) else []
theorem qs_len (s : ByteArray) : ∀ n k, s.size - k ≤ n → (qs s n k).length ≤ 4 * (s.size - k) := by
  intro n
  induction n with
  | zero =>
    intro k hk
    rw [qs_end s 0 k (by omega)]
    simp
  | succ n ih =>
    intro k hk
    by_cases h : k < s.size
    · have h1 := q1_len s k h
      have ⟨f1, f2, _, _⟩ := dec_facts s k h
      have e : qs s (n + 1) k = q1 s k h ++ qs s n (k + wd s k) := by rw [qs, dif_pos h]
      rw [e, List.length_append]
      have := ih (k + wd s k) (by omega)
      omega
    · rw [qs_end s (n + 1) k h]
      simp
theorem qt_len (s : ByteArray) : (qt s).length ≤ 4 * s.size + 2 := by
  have := qs_len s s.size 0 (by omega)
  unfold qt
  simp
  omega

/-- a value whose numbers are in bounds, with a text of at most 2147483648 bytes -/
def VlOk (x : Vl) : Prop := -9223372036854775808 ≤ x.i ∧ x.i ≤ 9223372036854775807 ∧ x.s.size ≤ 2147483648
theorem shw_len (x : Vl) (h : VlOk x) : (shw x).length ≤ 4 * x.s.size + 21 := by
  unfold shw
  by_cases h1 : rgt x = true
  · rw [if_pos h1]
    by_cases h2 : x.k = 1
    · rw [if_pos h2]; by_cases h3 : x.b = true <;> simp [h3] <;> omega
    · rw [if_neg h2]
      by_cases h3 : x.k = 2
      · rw [if_pos h3]; have := Lib.itoa_length_le x.i h.1 h.2.1; omega
      · rw [if_neg h3]; have := qt_len x.s; omega
  · rw [if_neg h1]; simp
/-- the tables that are read -/
def Tbs (w : World) : Prop := (1 < w.heap.size ∧ 2 < w.heap.size) ∧ Lib.Utf8Tabs 1 2 w ∧ Lib.TabIs Tryz.prog w "internal/strconv.uint64pow10" .u64 Lib.pow10Tab
theorem gPow10 : Tryz.prog.globalNamed "internal/strconv.uint64pow10" = some 0 := by kernel_rfl
theorem Tbs.below {w w' : World} (h : Tbs w) (hb : Below w.heap.size w w') : Tbs w' :=
  ⟨⟨Nat.lt_of_lt_of_le h.1.1 hb.size, Nat.lt_of_lt_of_le h.1.2 hb.size⟩, tabs_below h.2.1 hb h.1.1 h.1.2, Joins.tab_stays gPow10 h.2.2 hb (Nat.le_refl _)⟩

theorem formatInt_call (n : Int) (h0 : -9223372036854775808 ≤ n) (h1 : n ≤ 9223372036854775807) (v : World) (hT : Tbs v) :
    Calls Tryz.prog 28 #[.int .i64 n, .int .i64 10] v fun e w' => e = .returned (.string ⟨(Lib.itoa n).toArray⟩) ∧ Below v.heap.size v w' := by
  refine (Tryz.strconv_FormatInt_10 n h0 h1 v hT.2.2).mono ?_
  rintro e w' ⟨rfl, k, os, rfl⟩
  exact ⟨rfl, Lib.below_grow _ _ (Nat.le_refl _) k os⟩
set_option maxRecDepth 100000 in
theorem clone_call (s : ByteArray) (hs : s.size ≤ 281474976710656) (v : World) :
    Calls Tryz.prog 26 #[.string s] v fun e w' => e = .returned (.string s) ∧ Below v.heap.size v w' := by
  go_enter Tryz.func26, Tryz.ntmps26
  go_wp2_with (go_at_call 49; (with_reducible refine (Tryz.stringslite_Clone s _ hs).mono ?_); rintro e w9 ⟨rfl, hb9⟩)
  go_ret
  exact ⟨rfl, hb9⟩
theorem quote_call (s : ByteArray) (hs : s.size ≤ 2147483648) (v : World) (hT : Tbs v) : Calls Tryz.prog 29 #[.string s] v fun e w' => e = .returned (.string ⟨(qt s).toArray⟩) ∧ Below v.heap.size v w' :=
  quote_any s v (by omega) hT.1.1 hT.1.2 hT.2.1
theorem rquote_call (s : ByteArray) (hs : s.size ≤ 2147483648) (v : World) (hT : Tbs v) : Calls Tryz.prog 32 #[.string s] v fun e w' => e = .returned (.string ⟨(qt s).toArray⟩) ∧ Below v.heap.size v w' :=
  rquote_any s v (by omega) hT.1.1 hT.1.2 hT.2.1
theorem rgt_kinds {x : Vl} (h : rgt x = true) : x.k = 1 ∨ x.k = 2 ∨ x.k = 3 := by
  unfold rgt at h
  simp only [Bool.or_eq_true, Bool.and_eq_true, beq_iff_eq] at h
  omega

set_option maxRecDepth 1000000 in
set_option maxHeartbeats 4000000 in
theorem cshow_any (x : Vl) (hx : VlOk x) (w : World) (hT : Tbs w) :
    Calls Tryz.prog 9 #[.agg #[.int .u8 x.k, .bool x.b, .int .i64 x.i, .string x.s]] w fun e w' => e = .returned (.string ⟨(shw x).toArray⟩) ∧ Below w.heap.size w w' := by
  obtain ⟨k, b, i, s⟩ := x
  simp only
  obtain ⟨w2, e2, hw, hs2, B0⟩ := bx1 w #[.int .u8 k, .bool b, .int .i64 i, .string s] 25
  have HB0 : Hid (Below w.heap.size w w2) := hw
  have HE2 : Hid (w.alloc (.cells #[.int .u8 k, .bool b, .int .i64 i, .string s] 25) = w2) := e2
  have HX : Hid (∀ v, Below w2.heap.size w2 v → v.cell? ⟨w.heap.size, 0, none⟩ = some (.int .u8 k) ∧ v.cell? ⟨w.heap.size, 1, none⟩ = some (.bool b) ∧ v.cell? ⟨w.heap.size, 2, none⟩ = some (.int .i64 i) ∧ v.cell? ⟨w.heap.size, 3, none⟩ = some (.string s)) :=
    fun v h => ⟨(B0.below h B0.lt).cell 0, (B0.below h B0.lt).cell 1, (B0.below h B0.lt).cell 2, (B0.below h B0.lt).cell 3⟩
  have HT : Hid (∀ v, Below w2.heap.size w2 v → Tbs v) := fun v h => (hT.below hw).below h
  obtain ⟨x0, x1, x2, x3⟩ := HX.out w2 (Below.refl _ _)
  have HR : Hid (∀ v, Calls Tryz.prog 25 #[.agg #[.int .u8 k, .bool b, .int .i64 i, .string s]] v fun e w' => e = .returned (.bool (rgt ⟨k, b, i, s⟩)) ∧ Below v.heap.size v w') := fun v => isRight_any ⟨k, b, i, s⟩ v
  clear e2 hw hs2 B0 hT
  by_cases hr : rgt ⟨k, b, i, s⟩ = true
  · have hk := rgt_kinds hr
    rw [hr] at HR
    have hsh : shw ⟨k, b, i, s⟩ = (if k = 1 then (if b then [116, 114, 117, 101] else [102, 97, 108, 115, 101]) else if k = 2 then Lib.itoa i else qt s) := by unfold shw; rw [if_pos hr]
    obtain ⟨h0, h1, h2⟩ := hx
    have HR' : Hid (∀ v, Calls Tryz.prog 25 #[.agg #[.int .u8 k, .bool b, .int .i64 i, .string s]] v fun e w' => e = .returned (.bool true) ∧ Below v.heap.size v w') := HR
    clear HR hr
    simp only at hk hsh h0 h1 h2
    rcases hk with rfl | rfl | rfl
    · rw [if_pos rfl] at hsh
      have HS : Hid (shw ⟨1, b, i, s⟩ = Lib.formatBool b) := by unfold Hid; rw [hsh]; cases b <;> rfl
      clear hsh
      go_enter Tryz.func9, Tryz.ntmps9
      go_upto_region 1 with fail
      rw [HE2.out]
      go_wp2_with (first
        | (go_at_call 25; (with_reducible refine (HR'.out _).mono ?_); rintro e w3 ⟨rfl, hb3⟩; have HB3 : Hid (Below w2.heap.size w2 w3) := hb3; obtain ⟨y0, y1, y2, y3⟩ := HX.out w3 hb3; clear hb3)
        | (go_at_call 27; (with_reducible refine (Tryz.strconv_FormatBool _ _).mono ?_); rintro e w4 ⟨rfl, hw4⟩; have hw5 := hw4.symm; clear hw4; subst hw5)
        | (go_at_call 26; (with_reducible refine (clone_call _ (by cases b <;> decide) _).mono ?_); rintro e w5 ⟨rfl, hb5⟩; have HB5 : Hid (Below w2.heap.size w2 w5) := HB3.out.trans (hb5.mono HB3.out.size); clear hb5))
      go_ret
      exact ⟨by first | (rw [HS.out]; done) | (rw [HS.out]; rfl), HB0.out.trans (HB5.out.mono HB0.out.size)⟩
    · rw [if_neg (by omega), if_pos rfl] at hsh
      have HS : Hid (shw ⟨2, b, i, s⟩ = Lib.itoa i) := hsh
      clear hsh
      have HC : Hid ((⟨(Lib.itoa i).toArray⟩ : ByteArray).size ≤ 281474976710656) := by
        have := Lib.itoa_length_le i h0 h1
        show (Lib.itoa i).toArray.size ≤ _
        simp
        omega
      go_enter Tryz.func9, Tryz.ntmps9
      go_upto_region 1 with fail
      rw [HE2.out]
      go_wp2_with (first
        | (go_at_call 25; (with_reducible refine (HR'.out _).mono ?_); rintro e w3 ⟨rfl, hb3⟩; have HB3 : Hid (Below w2.heap.size w2 w3) := hb3; obtain ⟨y0, y1, y2, y3⟩ := HX.out w3 hb3; clear hb3)
        | (go_at_call 28; (with_reducible refine (formatInt_call _ h0 h1 _ (HT.out _ HB3.out)).mono ?_); rintro e w4 ⟨rfl, hb4⟩; have HB4 : Hid (Below w2.heap.size w2 w4) := HB3.out.trans (hb4.mono HB3.out.size); clear hb4)
        | (go_at_call 26; (with_reducible refine (clone_call ⟨(Lib.itoa i).toArray⟩ HC.out _).mono ?_); rintro e w5 ⟨rfl, hb5⟩; have HB5 : Hid (Below w2.heap.size w2 w5) := HB4.out.trans (hb5.mono HB4.out.size); clear hb5))
      go_ret
      exact ⟨by first | (rw [HS.out]; done) | (rw [HS.out]; rfl), HB0.out.trans (HB5.out.mono HB0.out.size)⟩
    · rw [if_neg (by omega), if_neg (by omega)] at hsh
      have HS : Hid (shw ⟨3, b, i, s⟩ = qt s) := hsh
      clear hsh
      go_enter Tryz.func9, Tryz.ntmps9
      go_upto_region 1 with fail
      rw [HE2.out]
      go_wp2_with (first
        | (go_at_call 25; (with_reducible refine (HR'.out _).mono ?_); rintro e w3 ⟨rfl, hb3⟩; have HB3 : Hid (Below w2.heap.size w2 w3) := hb3; obtain ⟨y0, y1, y2, y3⟩ := HX.out w3 hb3; clear hb3)
        | (go_at_call 29; (with_reducible refine (quote_call s h2 _ (HT.out _ HB3.out)).mono ?_); rintro e w5 ⟨rfl, hb5⟩; have HB5 : Hid (Below w2.heap.size w2 w5) := HB3.out.trans (hb5.mono HB3.out.size); clear hb5))
      go_ret
      exact ⟨by first | (rw [HS.out]; done) | (rw [HS.out]; rfl), HB0.out.trans (HB5.out.mono HB0.out.size)⟩
  · have hr' : rgt ⟨k, b, i, s⟩ = false := by simpa using hr
    rw [hr'] at HR
    have HS : Hid (shw ⟨k, b, i, s⟩ = []) := by unfold Hid shw; rw [if_neg hr]
    have HR' : Hid (∀ v, Calls Tryz.prog 25 #[.agg #[.int .u8 k, .bool b, .int .i64 i, .string s]] v fun e w' => e = .returned (.bool false) ∧ Below v.heap.size v w') := HR
    clear HR hr hr'
    go_enter Tryz.func9, Tryz.ntmps9
    go_upto_region 1 with fail
    rw [HE2.out]
    go_wp2_with (go_at_call 25; (with_reducible refine (HR'.out _).mono ?_); rintro e w3 ⟨rfl, hb3⟩; have HB3 : Hid (Below w2.heap.size w2 w3) := hb3; clear hb3)
    go_ret
    exact ⟨by first | (rw [HS.out]; done) | (rw [HS.out]; rfl), HB0.out.trans (HB3.out.mono HB0.out.size)⟩

set_option maxRecDepth 1000000 in
set_option maxHeartbeats 4000000 in
theorem rshow_any (x : Vl) (hx : VlOk x) (w : World) (hT : Tbs w) :
    Calls Tryz.prog 12 #[.agg #[.int .u8 x.k, .bool x.b, .int .i64 x.i, .string x.s]] w fun e w' => e = .returned (.string ⟨(shw x).toArray⟩) ∧ Below w.heap.size w w' := by
  obtain ⟨k, b, i, s⟩ := x
  simp only
  obtain ⟨w2, e2, hw, hs2, B0⟩ := bx1 w #[.int .u8 k, .bool b, .int .i64 i, .string s] 25
  have HB0 : Hid (Below w.heap.size w w2) := hw
  have HE2 : Hid (w.alloc (.cells #[.int .u8 k, .bool b, .int .i64 i, .string s] 25) = w2) := e2
  have HX : Hid (∀ v, Below w2.heap.size w2 v → v.cell? ⟨w.heap.size, 0, none⟩ = some (.int .u8 k) ∧ v.cell? ⟨w.heap.size, 1, none⟩ = some (.bool b) ∧ v.cell? ⟨w.heap.size, 2, none⟩ = some (.int .i64 i) ∧ v.cell? ⟨w.heap.size, 3, none⟩ = some (.string s)) :=
    fun v h => ⟨(B0.below h B0.lt).cell 0, (B0.below h B0.lt).cell 1, (B0.below h B0.lt).cell 2, (B0.below h B0.lt).cell 3⟩
  have HT : Hid (∀ v, Below w2.heap.size w2 v → Tbs v) := fun v h => (hT.below hw).below h
  obtain ⟨x0, x1, x2, x3⟩ := HX.out w2 (Below.refl _ _)
  have HR : Hid (∀ v, Calls Tryz.prog 10 #[.agg #[.int .u8 k, .bool b, .int .i64 i, .string s]] v fun e w' => e = .returned (.bool (rgt ⟨k, b, i, s⟩)) ∧ Below v.heap.size v w') := fun v => rRight_any ⟨k, b, i, s⟩ v
  clear e2 hw hs2 B0 hT
  by_cases hr : rgt ⟨k, b, i, s⟩ = true
  · have hk := rgt_kinds hr
    rw [hr] at HR
    have hsh : shw ⟨k, b, i, s⟩ = (if k = 1 then (if b then [116, 114, 117, 101] else [102, 97, 108, 115, 101]) else if k = 2 then Lib.itoa i else qt s) := by unfold shw; rw [if_pos hr]
    obtain ⟨h0, h1, h2⟩ := hx
    have HR' : Hid (∀ v, Calls Tryz.prog 10 #[.agg #[.int .u8 k, .bool b, .int .i64 i, .string s]] v fun e w' => e = .returned (.bool true) ∧ Below v.heap.size v w') := HR
    clear HR hr
    simp only at hk hsh h0 h1 h2
    rcases hk with rfl | rfl | rfl
    · rw [if_pos rfl] at hsh
      have HS : Hid (shw ⟨1, b, i, s⟩ = if b then [116, 114, 117, 101] else [102, 97, 108, 115, 101]) := hsh
      clear hsh
      cases b
      · go_enter Tryz.func12, Tryz.ntmps12
        go_upto_region 1 with fail
        rw [HE2.out]
        go_wp2_with (first
          | (go_at_call 10; (with_reducible refine (HR'.out _).mono ?_); rintro e w3 ⟨rfl, hb3⟩; have HB3 : Hid (Below w2.heap.size w2 w3) := hb3; obtain ⟨y0, y1, y2, y3⟩ := HX.out w3 hb3; clear hb3))
        go_ret
        exact ⟨by first | (rw [HS.out]; done) | (rw [HS.out]; rfl), HB0.out.trans (HB3.out.mono HB0.out.size)⟩
      · go_enter Tryz.func12, Tryz.ntmps12
        go_upto_region 1 with fail
        rw [HE2.out]
        go_wp2_with (first
          | (go_at_call 10; (with_reducible refine (HR'.out _).mono ?_); rintro e w3 ⟨rfl, hb3⟩; have HB3 : Hid (Below w2.heap.size w2 w3) := hb3; obtain ⟨y0, y1, y2, y3⟩ := HX.out w3 hb3; clear hb3))
        go_ret
        exact ⟨by first | (rw [HS.out]; done) | (rw [HS.out]; rfl), HB0.out.trans (HB3.out.mono HB0.out.size)⟩
    · rw [if_neg (by omega), if_pos rfl] at hsh
      have HS : Hid (shw ⟨2, b, i, s⟩ = Lib.itoa i) := hsh
      clear hsh
      have HC : Hid ((⟨(Lib.itoa i).toArray⟩ : ByteArray).size ≤ 281474976710656) := by
        have := Lib.itoa_length_le i h0 h1
        show (Lib.itoa i).toArray.size ≤ _
        simp
        omega
      go_enter Tryz.func12, Tryz.ntmps12
      go_upto_region 1 with fail
      rw [HE2.out]
      go_wp2_with (first
        | (go_at_call 10; (with_reducible refine (HR'.out _).mono ?_); rintro e w3 ⟨rfl, hb3⟩; have HB3 : Hid (Below w2.heap.size w2 w3) := hb3; obtain ⟨y0, y1, y2, y3⟩ := HX.out w3 hb3; clear hb3)
        | (go_at_call 28; (with_reducible refine (formatInt_call _ h0 h1 _ (HT.out _ HB3.out)).mono ?_); rintro e w4 ⟨rfl, hb4⟩; have HB4 : Hid (Below w2.heap.size w2 w4) := HB3.out.trans (hb4.mono HB3.out.size); clear hb4))
      go_ret
      exact ⟨by first | (rw [HS.out]; done) | (rw [HS.out]; rfl), HB0.out.trans (HB4.out.mono HB0.out.size)⟩
    · rw [if_neg (by omega), if_neg (by omega)] at hsh
      have HS : Hid (shw ⟨3, b, i, s⟩ = qt s) := hsh
      clear hsh
      go_enter Tryz.func12, Tryz.ntmps12
      go_upto_region 1 with fail
      rw [HE2.out]
      go_wp2_with (first
        | (go_at_call 10; (with_reducible refine (HR'.out _).mono ?_); rintro e w3 ⟨rfl, hb3⟩; have HB3 : Hid (Below w2.heap.size w2 w3) := hb3; obtain ⟨y0, y1, y2, y3⟩ := HX.out w3 hb3; clear hb3)
        | (go_at_call 32; (with_reducible refine (rquote_call s h2 _ (HT.out _ HB3.out)).mono ?_); rintro e w5 ⟨rfl, hb5⟩; have HB5 : Hid (Below w2.heap.size w2 w5) := HB3.out.trans (hb5.mono HB3.out.size); clear hb5))
      go_ret
      exact ⟨by first | (rw [HS.out]; done) | (rw [HS.out]; rfl), HB0.out.trans (HB5.out.mono HB0.out.size)⟩
  · have hr' : rgt ⟨k, b, i, s⟩ = false := by simpa using hr
    rw [hr'] at HR
    have HS : Hid (shw ⟨k, b, i, s⟩ = []) := by unfold Hid shw; rw [if_neg hr]
    have HR' : Hid (∀ v, Calls Tryz.prog 10 #[.agg #[.int .u8 k, .bool b, .int .i64 i, .string s]] v fun e w' => e = .returned (.bool false) ∧ Below v.heap.size v w') := HR
    clear HR hr hr'
    go_enter Tryz.func12, Tryz.ntmps12
    go_upto_region 1 with fail
    rw [HE2.out]
    go_wp2_with (go_at_call 10; (with_reducible refine (HR'.out _).mono ?_); rintro e w3 ⟨rfl, hb3⟩; have HB3 : Hid (Below w2.heap.size w2 w3) := hb3; clear hb3)
    go_ret
    exact ⟨by first | (rw [HS.out]; done) | (rw [HS.out]; rfl), HB0.out.trans (HB3.out.mono HB0.out.size)⟩
end Go.Proofs.YtnaipmgdipflgaaGreatDoor
