import Derived.Test.YthdfccdkomfikaaGreatDoorScA
import Derived.Test.YthdfccdkomfikaaGreatDoorRlE
import Derived.Test.YthdfccdkomfikaaGreatDoorLc6
import Derived.Test.YthdfccdkomfikaaGreatDoorCls
import Derived.Laws.Cover1
import Derived.Lib.Strings
import Derived.BigQuiet
import Derived.Deep.RegionHeld3
namespace Go.Proofs.YthdfccdkomfikaaGreatDoor
open Go.ChangeShapes Go.WideShapes Go.ChangeAt Go.RowKit Go.Maps Go.WideMaps
set_option linter.unusedVariables false
set_option linter.unusedSimpArgs false

theorem spl_spR (k : Nat) : spl.getD k [] = spR k := by
  by_cases h : k < 80
  · have : ∀ k, k < 80 → spl.getD k [] = spR k := by decide
    exact this k h
  · rw [spl_out k (.inr (by omega)), spR_80 k (by omega)]
def krV : Option Nat → Value
  | some k => .tuple #[.int .i64 (k : Int), .bool true]
  | none => .tuple #[.int .i64 0, .bool false]
set_option maxRecDepth 1000000 in
set_option maxHeartbeats 8000000 in
/-- the reference's Kind -/
theorem rKind_any (s : ByteArray) (hs : s.size ≤ 4294967280) (w : World) (hT : Lt w) :
    Calls Tryz.prog 8 #[.string s] w fun e w' => e = .returned (krV (kOf s)) ∧ Below w.heap.size w w' := by
  unfold kOf
  by_cases h0 : s.size = 0
  · rw [if_pos h0]
    have h0' : ((s.size : Int) == 0) = true := by rw [beq_iff_eq]; omega
    go_enter Tryz.func8, Tryz.ntmps8
    go_wp2
    refine bodyPost_ret (v := .tuple #[.int .i64 0, .bool false]) (by simp [results, Tryz.results8, go_sem]) rfl ⟨rfl, Below.refl _ _⟩
  · rw [if_neg h0]
    have h0' : ((s.size : Int) == 0) = false := by rw [beq_eq_false_iff_ne]; omega
    have hp : 0 < s.size := by omega
    have HP0 := rPiece_any s 0 hs hp w hT
    cases hc : pce s 0 with
    | no y z =>
      obtain ⟨y1, y2⟩ := pce_no_y hp hc
      rw [hc] at HP0
      have HP : Hid (Calls Tryz.prog 20 #[.string s, .int .i64 0] w fun e w' => e = .returned (.tuple #[.int .i64 0, .int .i64 0, .int .i64 (y : Int), .int .i64 (z : Int)]) ∧ Below w.heap.size w w') := HP0
      have hy : ((y : Int) != 0) = true := by rw [bne_iff_ne]; omega
      clear HP0 hc hT
      go_enter Tryz.func8, Tryz.ntmps8
      go_wp2_with (go_at_call 20; (with_reducible refine HP.out.mono ?_); rintro e w3 ⟨rfl, hb3⟩; have HB3 : Hid (Below w.heap.size w w3) := hb3; clear hb3)
      refine bodyPost_ret (v := .tuple #[.int .i64 0, .bool false]) (by simp [results, Tryz.results8, go_sem]) rfl ⟨rfl, HB3.out⟩
    | ok k t =>
      rw [hc] at HP0
      have HP : Hid (Calls Tryz.prog 20 #[.string s, .int .i64 0] w fun e w' => e = .returned (.tuple #[.int .i64 (k : Int), .int .i64 (t : Int), .int .i64 0, .int .i64 0]) ∧ Below w.heap.size w w') := HP0
      clear HP0 hc hT
      simp only
      by_cases h2 : 2 ≤ k ∧ t = s.size
      · rw [if_pos h2]
        have q1 : ¬ (k : Int) ≤ 1 := by omega
        have q2 : decide (k ≤ 1) = false := by rw [decide_eq_false_iff_not]; omega
        have q3 : decide ((k : Int) ≤ 1) = false := by rw [decide_eq_false_iff_not]; omega
        have q4 : ((t : Int) != (s.size : Int)) = false := by rw [h2.2]; simp
        clear h2
        go_enter Tryz.func8, Tryz.ntmps8
        go_wp2_with (go_at_call 20; (with_reducible refine HP.out.mono ?_); rintro e w3 ⟨rfl, hb3⟩; have HB3 : Hid (Below w.heap.size w w3) := hb3; clear hb3)
        refine bodyPost_ret (v := .tuple #[.int .i64 (k : Int), .bool true]) (by simp [results, Tryz.results8, go_sem]) rfl ⟨rfl, HB3.out⟩
      · rw [if_neg h2]
        have hcs : (decide (k ≤ 1) = true ∧ decide ((k : Int) ≤ 1) = true) ∨ ((decide (k ≤ 1) = false ∧ decide ((k : Int) ≤ 1) = false) ∧ ((t : Int) != (s.size : Int)) = true) := by
          by_cases h1 : k ≤ 1
          · left; constructor <;> (rw [decide_eq_true_eq]; omega)
          · right; exact ⟨by constructor <;> (rw [decide_eq_false_iff_not]; omega), by rw [bne_iff_ne]; omega⟩
        clear h2
        rcases hcs with ⟨q1, q2⟩ | ⟨⟨q1, q2⟩, q3⟩
        all_goals
          go_enter Tryz.func8, Tryz.ntmps8
          go_wp2_with (go_at_call 20; (with_reducible refine HP.out.mono ?_); rintro e w3 ⟨rfl, hb3⟩; have HB3 : Hid (Below w.heap.size w w3) := hb3; clear hb3)
          refine bodyPost_ret (v := .tuple #[.int .i64 0, .bool false]) (by simp [results, Tryz.results8, go_sem]) rfl ⟨rfl, HB3.out⟩
set_option maxRecDepth 1000000 in
theorem Identifier_any (s : ByteArray) (hs : s.size ≤ 4294967280) (w : World) (hS : Spl w) (hT : Lt w) (hM : MaxL w) :
    Calls Tryz.prog 9 #[.string s] w fun e w' => e = .returned (.bool (kIs s 2)) ∧ Below w.heap.size w w' := by
  have HI : Hid (Calls Tryz.prog 21 #[.string s, .int .u8 2] w fun e w' => e = .returned (.bool (kIs s 2)) ∧ Below w.heap.size w w') := isOf_any s 2 (by omega) hs w hS hT hM
  obtain ⟨z, hz⟩ : ∃ z, kIs s 2 = z := ⟨_, rfl⟩
  rw [hz] at HI ⊢
  clear hS hT hM hz
  go_enter Tryz.func9, Tryz.ntmps9
  go_wp2_with (go_at_call 21; (with_reducible refine HI.out.mono ?_); rintro e w3 ⟨rfl, hb3⟩; have HB3 : Hid (Below w.heap.size w w3) := hb3; clear hb3)
  go_ret
  exact ⟨rfl, HB3.out⟩
theorem str_same (T : ByteArray) : (T.toList == T.toList) = true := by simp
set_option maxRecDepth 1000000 in
set_option maxHeartbeats 8000000 in
theorem lexerKinds_walk (s : ByteArray) (n : Nat) (hn : n < 256) (hB : s.size ≤ 1048576) (w : World) (hS : Spl w) (hT : Lt w) (hM : MaxL w) :
    Calls Tryz.prog 5 #[.string s, .int .u8 (n : Int)] w fun e w' => e = .returned (.bool true) ∧ Below w.heap.size w w' := by
  have hs : s.size ≤ 4294967280 := by omega
  have HK0 := Kind_any s hs w hS hT hM
  have HR0 : ∀ v, Below w.heap.size w v → _ := fun v hv => rKind_any s hs v (hT.below hv)
  have HI0 : ∀ v, Below w.heap.size w v → _ := fun v hv => Identifier_any s hs v (hS.below hv) (hT.below hv) (hM.below hv)
  obtain ⟨T, hTD⟩ : ∃ T, sq (spR n) = T := ⟨_, rfl⟩
  have HSP : Hid (∀ v, Below w.heap.size w v → Calls Tryz.prog 13 #[.int .u8 (n : Int)] v fun e w' => e = .returned (.string T) ∧ w' = v) := fun v hv => by
    have := Spell_any n hn v (hS.below hv)
    rw [spl_spR, hTD] at this
    exact this
  have HRS : Hid (∀ v, Calls Tryz.prog 14 #[.int .i64 (n : Int)] v fun e w' => e = .returned (.string T) ∧ Below v.heap.size v w') := fun v => by
    have := rSpell_any n v (by omega)
    rw [show (⟨(spR n).toArray⟩ : ByteArray) = T from hTD] at this
    exact this
  have hTT := str_same T
  clear hTD
  cases hk : kOf s with
  | none =>
    have hI : kIs s 2 = false := by unfold kIs; rw [hk]; rfl
    rw [hk] at HK0 HR0
    rw [hI] at HI0
    have HK : Hid (Calls Tryz.prog 7 #[.string s] w fun e w' => e = .returned (.tuple #[.int .u8 0, .bool false]) ∧ Below w.heap.size w w') := HK0
    have HR : Hid (∀ v, Below w.heap.size w v → Calls Tryz.prog 8 #[.string s] v fun e w' => e = .returned (.tuple #[.int .i64 0, .bool false]) ∧ Below v.heap.size v w') := HR0
    have HI : Hid (∀ v, Below w.heap.size w v → Calls Tryz.prog 9 #[.string s] v fun e w' => e = .returned (.bool false) ∧ Below v.heap.size v w') := HI0
    clear HK0 HR0 HI0 hk hI hS hT hM
    go_enter Tryz.func5, Tryz.ntmps5
    go_wp2_with (first
      | (go_at_call 7; (with_reducible refine HK.out.mono ?_); rintro e w3 ⟨rfl, hb3⟩; have HB3 : Hid (Below w.heap.size w w3) := hb3; clear hb3)
      | (go_at_call 8; (with_reducible refine (HR.out _ HB3.out).mono ?_); rintro e w4 ⟨rfl, hb4⟩; have HB4 : Hid (Below w.heap.size w w4) := HB3.out.trans (hb4.mono HB3.out.size); clear hb4)
      | (go_at_call 9; (with_reducible refine (HI.out _ HB4.out).mono ?_); rintro e w5 ⟨rfl, hb5⟩; have HB5 : Hid (Below w.heap.size w w5) := HB4.out.trans (hb5.mono HB4.out.size); clear hb5)
      | (go_at_call 13; (with_reducible refine (HSP.out _ HB5.out).mono ?_); rintro e w6 ⟨rfl, hw6⟩; have hw7 := hw6.symm; clear hw6; subst hw7)
      | (go_at_call 14; (with_reducible refine (HRS.out _).mono ?_); rintro e w8 ⟨rfl, hb8⟩; have HB8 : Hid (Below w.heap.size w w8) := HB5.out.trans (hb8.mono HB5.out.size); clear hb8))
    go_ret
    exact ⟨by first | rfl | simp, HB8.out⟩
  | some k =>
    obtain ⟨-, -, -, hk80, -, -⟩ := kOf_some hk
    obtain ⟨z, hz⟩ : ∃ z, decide (some k = some 2) = z := ⟨_, rfl⟩
    have hI : kIs s 2 = z := by unfold kIs; rw [hk, hz]
    have hq : ((k : Int) == 2) = z := by
      rw [← hz]
      by_cases h : k = 2
      · subst h; simp
      · rw [beq_eq_false_iff_ne.2 (by omega), decide_eq_false (by simpa using h)]
    rw [hk] at HK0 HR0
    rw [hI] at HI0
    have HK : Hid (Calls Tryz.prog 7 #[.string s] w fun e w' => e = .returned (.tuple #[.int .u8 (k : Int), .bool true]) ∧ Below w.heap.size w w') := HK0
    have HR : Hid (∀ v, Below w.heap.size w v → Calls Tryz.prog 8 #[.string s] v fun e w' => e = .returned (.tuple #[.int .i64 (k : Int), .bool true]) ∧ Below v.heap.size v w') := HR0
    have HI : Hid (∀ v, Below w.heap.size w v → Calls Tryz.prog 9 #[.string s] v fun e w' => e = .returned (.bool z) ∧ Below v.heap.size v w') := HI0
    clear HK0 HR0 HI0 hk hI hS hT hM hz
    cases z
    all_goals
      go_enter Tryz.func5, Tryz.ntmps5
      go_wp2_with (first
        | (go_at_call 7; (with_reducible refine HK.out.mono ?_); rintro e w3 ⟨rfl, hb3⟩; have HB3 : Hid (Below w.heap.size w w3) := hb3; clear hb3)
        | (go_at_call 8; (with_reducible refine (HR.out _ HB3.out).mono ?_); rintro e w4 ⟨rfl, hb4⟩; have HB4 : Hid (Below w.heap.size w w4) := HB3.out.trans (hb4.mono HB3.out.size); clear hb4)
        | (go_at_call 9; (with_reducible refine (HI.out _ HB4.out).mono ?_); rintro e w5 ⟨rfl, hb5⟩; have HB5 : Hid (Below w.heap.size w w5) := HB4.out.trans (hb5.mono HB4.out.size); clear hb5)
        | (go_at_call 13; (with_reducible refine (HSP.out _ HB5.out).mono ?_); rintro e w6 ⟨rfl, hw6⟩; have hw7 := hw6.symm; clear hw6; subst hw7)
        | (go_at_call 14; (with_reducible refine (HRS.out _).mono ?_); rintro e w8 ⟨rfl, hb8⟩; have HB8 : Hid (Below w.heap.size w w8) := HB5.out.trans (hb8.mono HB5.out.size); clear hb8))
      go_ret
      exact ⟨by first | rfl | simp, HB8.out⟩
end Go.Proofs.YthdfccdkomfikaaGreatDoor

namespace Go.Proofs.YthdfccdkomfikaaGreatDoor
open Go.ChangeShapes Go.WideShapes Go.ChangeAt Go.RowKit Go.Maps Go.WideMaps
set_option linter.unusedVariables false
set_option linter.unusedSimpArgs false

theorem bt_app (a b : ByteArray) (j : Nat) : bt (a ++ b) j = if j < a.size then bt a j else bt b (j - a.size) := by
  have hz : (a ++ b).size = a.size + b.size := ByteArray.size_append
  by_cases h : j < a.size
  · rw [if_pos h, bt_in (show j < (a ++ b).size by omega), bt_in h, ByteArray.getElem_append_left h]
  · rw [if_neg h]
    by_cases h2 : j < (a ++ b).size
    · rw [bt_in h2, bt_in (show j - a.size < b.size by omega), ByteArray.getElem_append_right (by omega)]
    · rw [bt_out h2, bt_out (by omega)]
theorem rn_of (s n : ByteArray) (f t : Nat) (hft : f ≤ t) (ht : t ≤ s.size) : Rn s n (s.extract 0 f ++ n ++ s.extract t s.size) f t := by
  have z1 : (s.extract 0 f).size = f := off_size (by omega)
  have z2 : (s.extract t s.size).size = s.size - t := by rw [ByteArray.size_extract]; omega
  have z3 : (s.extract 0 f ++ n).size = f + n.size := by rw [ByteArray.size_append, z1]
  refine ⟨hft, ht, by rw [ByteArray.size_append, z3, z2], fun j hj => ?_, fun j hj => ?_, fun j => ?_⟩
  · rw [bt_app, if_pos (by omega), bt_app, if_pos (by omega), off_bt (by omega), if_pos hj]
  · rw [bt_app, if_pos (by omega), bt_app, if_neg (by omega), z1]
    congr 1
    omega
  · rw [bt_app, if_neg (by omega), z3, bt_ex _ _ _ _ (Nat.le_refl _)]
    rw [show t + (f + n.size + j - (f + n.size)) = t + j by omega]
    by_cases h : t + j < s.size
    · rw [if_pos h]
    · rw [if_neg h, bt_out h]

set_option maxRecDepth 1000000 in
set_option maxHeartbeats 4000000 in
theorem moved_any (k f t d : Int) (h1 : 0 ≤ f ∧ f ≤ 4294967296) (h2 : 0 ≤ t ∧ t ≤ 4294967296) (h3 : -4294967296 ≤ d ∧ d ≤ 4294967296) (w : World) : Calls Tryz.prog 10 #[.agg #[.int .u8 k, .int .i64 f, .int .i64 t], .int .i64 d] w fun e w' => e = .returned (.agg #[.int .u8 k, .int .i64 (f + d), .int .i64 (t + d)]) ∧ Below w.heap.size w w' := by
  obtain ⟨w2, e2, hb2, hs2, B1, B2⟩ := bx2 w #[.int .u8 k, .int .i64 f, .int .i64 t] #[.int .u8 0, .int .i64 0, .int .i64 0] 36 36
  have HB2 : Hid (Below w.heap.size w w2) := hb2
  have HX2 : Hid (Bx w2 (w.heap.size + 1) #[.int .u8 0, .int .i64 0, .int .i64 0] 36) := B2
  have c0 := B1.cell 0
  have c1 := B1.cell 1
  have c2 := B1.cell 2
  have d0 := B2.cell 0
  have d1 := B2.cell 1
  have d2 := B2.cell 2
  have g0 := B2.free 0
  have g1 := B2.free 1
  have g2 := B2.free 2
  have l1 := B1.lt
  have l2 := B2.lt
  simp at c0 c1 c2 d0 d1 d2
  clear hb2 B1 B2
  go_enter Tryz.func10, Tryz.ntmps10
  go_wp2
  obtain ⟨r0, r1, r2⟩ := HX2.out.read3 (.int .u8 k) (.int .i64 (f + d)) (.int .i64 (t + d))
  refine bodyPost_ret (v := .agg #[.int .u8 k, .int .i64 (f + d), .int .i64 (t + d)]) (by simp [results, Tryz.results10, go_sem, r0, r1, r2]) rfl ⟨rfl, bel_put3 HB2.out (by omega)⟩

set_option maxRecDepth 1000000 in
set_option maxHeartbeats 8000000 in
theorem renames_out (s : ByteArray) (at_ : Int) (n : ByteArray) (hB : s.size + n.size ≤ 1048576) (hno : ¬ ((cut s 0).2 = none ∧ kOf n = some 2)) (w : World) (hS : Spl w) (hT : Lt w) (hM : MaxL w) :
    Calls Tryz.prog 3 #[.string s, .int .i64 at_, .string n] w fun e w' => e = .returned (.bool true) ∧ Below w.heap.size w w' := by
  obtain ⟨Y, hY⟩ : ∃ Y, fwy (cut s 0).2 = Y := ⟨_, rfl⟩
  obtain ⟨Z, hZ⟩ : ∃ Y, fat (cut s 0).2 = Y := ⟨_, rfl⟩
  have HSA : Hid (Calls Tryz.prog 6 #[.string s] w fun e w' => ∃ a n c, e = .returned (.tuple #[.slice a n c, .agg #[.int .i64 (Y : Int), .int .i64 0, .int .i64 (Z : Int)]]) ∧ Below w.heap.size w w') := by
    have := scan_all (s := s) (by omega) w hS hT hM
    rw [hY, hZ] at this
    exact this
  have hY0 : Y = 0 → (cut s 0).2 = none := fun h0 => by
    cases hc : (cut s 0).2 with
    | none => rfl
    | some x =>
      have := cut_why (s := s) (y := x.1) (z := x.2) hc
      rw [hc] at hY
      simp only [fwy] at hY
      omega
  have HK0 : ∀ v, Below w.heap.size w v → _ := fun v hv => Kind_any n (by omega) v (hS.below hv) (hT.below hv) (hM.below hv)
  have HR0 : ∀ v, Below w.heap.size w v → _ := fun v hv => rKind_any n (by omega) v (hT.below hv)
  have HI0 : ∀ v, Below w.heap.size w v → _ := fun v hv => Identifier_any n (by omega) v (hS.below hv) (hT.below hv) (hM.below hv)
  have hyc : ((Y : Int) != 0) = true ∨ (((Y : Int) != 0) = false ∧ (cut s 0).2 = none) := by
    by_cases h : Y = 0
    · right; exact ⟨by subst h; rfl, hY0 h⟩
    · left; rw [bne_iff_ne]; omega
  cases hk : kOf n with
  | none =>
    have hI : kIs n 2 = false := by unfold kIs; rw [hk]; rfl
    rw [hk] at HK0 HR0
    rw [hI] at HI0
    have HK : Hid (∀ v, Below w.heap.size w v → Calls Tryz.prog 7 #[.string n] v fun e w' => e = .returned (.tuple #[.int .u8 0, .bool false]) ∧ Below v.heap.size v w') := HK0
    have HR : Hid (∀ v, Below w.heap.size w v → Calls Tryz.prog 8 #[.string n] v fun e w' => e = .returned (.tuple #[.int .i64 0, .bool false]) ∧ Below v.heap.size v w') := HR0
    have HI : Hid (∀ v, Below w.heap.size w v → Calls Tryz.prog 9 #[.string n] v fun e w' => e = .returned (.bool false) ∧ Below v.heap.size v w') := HI0
    clear HK0 HR0 HI0 hk hI hS hT hM hno hY0 hY hZ
    rcases hyc with q1 | ⟨q1, -⟩
    all_goals
      go_enter Tryz.func3, Tryz.ntmps3
      go_wp2_with (first
        | (go_at_call 6; (with_reducible refine HSA.out.mono ?_); rintro e w3 ⟨a3, n3, c3, rfl, hb3⟩; have HB3 : Hid (Below w.heap.size w w3) := hb3; clear hb3)
        | (go_at_call 7; (with_reducible refine (HK.out _ (HB3.out.alloc HB3.out.size _)).mono ?_); rintro e w4 ⟨rfl, hb4⟩; have HB4 : Hid (Below w.heap.size w w4) := (HB3.out.alloc HB3.out.size _).trans (hb4.mono (by have := HB3.out.size; simp; omega)); have X4 := (Bx.new w3 _ _).below hb4 (Bx.new w3 _ _).lt; have HX4 := hid_of X4; clear hb4 X4)
        | (go_at_call 8; (with_reducible refine (HR.out _ HB4.out).mono ?_); rintro e w5 ⟨rfl, hb5⟩; have HB5 : Hid (Below w.heap.size w w5) := HB4.out.trans (hb5.mono HB4.out.size); have X5 := HX4.out.below hb5 HX4.out.lt; have HX5 := hid_of X5; clear hb5 X5)
        | (go_at_call 9; (with_reducible refine (HI.out _ HB5.out).mono ?_); rintro e w6 ⟨rfl, hb6⟩; have HB6 : Hid (Below w.heap.size w w6) := HB5.out.trans (hb6.mono HB5.out.size); have X6 := HX5.out.below hb6 HX5.out.lt; have k0 := X6.cell 0; have kz := X6.lt; simp at k0; clear hb6 X6))
      go_ret
      exact ⟨rfl, HB6.out⟩
  | some k =>
    obtain ⟨z, hz⟩ : ∃ z, decide (some k = some 2) = z := ⟨_, rfl⟩
    have hI : kIs n 2 = z := by unfold kIs; rw [hk, hz]
    have hq : ((k : Int) == 2) = z := by
      rw [← hz]
      by_cases h : k = 2
      · subst h; simp
      · rw [beq_eq_false_iff_ne.2 (by omega), decide_eq_false (by simpa using h)]
    have hyc2 : ((Y : Int) != 0) = true ∨ (((Y : Int) != 0) = false ∧ ((k : Int) != 2) = true) := by
      rcases hyc with h | ⟨h, hc⟩
      · exact .inl h
      · refine .inr ⟨h, ?_⟩
        rw [bne_iff_ne]
        intro e
        exact hno ⟨hc, by rw [hk]; congr 1; omega⟩
    rw [hk] at HK0 HR0
    rw [hI] at HI0
    have HK : Hid (∀ v, Below w.heap.size w v → Calls Tryz.prog 7 #[.string n] v fun e w' => e = .returned (.tuple #[.int .u8 (k : Int), .bool true]) ∧ Below v.heap.size v w') := HK0
    have HR : Hid (∀ v, Below w.heap.size w v → Calls Tryz.prog 8 #[.string n] v fun e w' => e = .returned (.tuple #[.int .i64 (k : Int), .bool true]) ∧ Below v.heap.size v w') := HR0
    have HI : Hid (∀ v, Below w.heap.size w v → Calls Tryz.prog 9 #[.string n] v fun e w' => e = .returned (.bool z) ∧ Below v.heap.size v w') := HI0
    clear HK0 HR0 HI0 hk hI hS hT hM hno hY0 hY hZ hz hyc
    cases z
    all_goals
      rcases hyc2 with q1 | ⟨q1, q2⟩
      all_goals
        go_enter Tryz.func3, Tryz.ntmps3
        go_wp2_with (first
          | (go_at_call 6; (with_reducible refine HSA.out.mono ?_); rintro e w3 ⟨a3, n3, c3, rfl, hb3⟩; have HB3 : Hid (Below w.heap.size w w3) := hb3; clear hb3)
          | (go_at_call 7; (with_reducible refine (HK.out _ (HB3.out.alloc HB3.out.size _)).mono ?_); rintro e w4 ⟨rfl, hb4⟩; have HB4 : Hid (Below w.heap.size w w4) := (HB3.out.alloc HB3.out.size _).trans (hb4.mono (by have := HB3.out.size; simp; omega)); have X4 := (Bx.new w3 _ _).below hb4 (Bx.new w3 _ _).lt; have HX4 := hid_of X4; clear hb4 X4)
          | (go_at_call 8; (with_reducible refine (HR.out _ HB4.out).mono ?_); rintro e w5 ⟨rfl, hb5⟩; have HB5 : Hid (Below w.heap.size w w5) := HB4.out.trans (hb5.mono HB4.out.size); have X5 := HX4.out.below hb5 HX4.out.lt; have HX5 := hid_of X5; clear hb5 X5)
          | (go_at_call 9; (with_reducible refine (HI.out _ HB5.out).mono ?_); rintro e w6 ⟨rfl, hb6⟩; have HB6 : Hid (Below w.heap.size w w6) := HB5.out.trans (hb6.mono HB5.out.size); have X6 := HX5.out.below hb6 HX5.out.lt; have k0 := X6.cell 0; have kz := X6.lt; simp at k0; clear hb6 X6))
        go_ret
        exact ⟨rfl, HB6.out⟩
end Go.Proofs.YthdfccdkomfikaaGreatDoor
