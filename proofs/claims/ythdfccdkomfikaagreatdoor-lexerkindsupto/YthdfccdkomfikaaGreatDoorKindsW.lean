import Derived.Test.YthdfccdkomfikaaGreatDoorKdA
import Derived.Test.YthdfccdkomfikaaGreatDoorRlE
import Derived.Test.YthdfccdkomfikaaGreatDoorRlD
namespace Go.Proofs.YthdfccdkomfikaaGreatDoor
open Go.ChangeShapes Go.WideShapes Go.ChangeAt Go.RowKit Go.Maps Go.WideMaps
set_option linter.unusedVariables false
set_option linter.unusedSimpArgs false

theorem spl_spR (k : Nat) : spl.getD k [] = spR k := by
  by_cases h : k < 80
  · have : ∀ k, k < 80 → spl.getD k [] = spR k := by decide
    exact this k h
  · rw [spl_out k (.inr (by omega)), spR_80 k (by omega)]
def krV : Option Nat → Value
  | some k => .tuple #[.int .i64 (k : Int), .bool true]
  | none => .tuple #[.int .i64 0, .bool false]
set_option maxRecDepth 1000000 in
set_option maxHeartbeats 8000000 in
/-- the reference's Kind -/
theorem rKind_any (s : ByteArray) (hs : s.size ≤ 4294967280) (w : World) (hT : Lt w) :
    Calls Tryz.prog 8 #[.string s] w fun e w' => e = .returned (krV (kOf s)) ∧ Below w.heap.size w w' := by
  unfold kOf
  by_cases h0 : s.size = 0
  · rw [if_pos h0]
    have h0' : ((s.size : Int) == 0) = true := by rw [beq_iff_eq]; omega
    go_enter Tryz.func8, Tryz.ntmps8
    go_wp2
    refine bodyPost_ret (v := .tuple #[.int .i64 0, .bool false]) (by simp [results, Tryz.results8, go_sem]) rfl ⟨rfl, Below.refl _ _⟩
  · rw [if_neg h0]
    have h0' : ((s.size : Int) == 0) = false := by rw [beq_eq_false_iff_ne]; omega
    have hp : 0 < s.size := by omega
    have HP0 := rPiece_any s 0 hs hp w hT
    cases hc : pce s 0 with
    | no y z =>
      obtain ⟨y1, y2⟩ := pce_no_y hp hc
      rw [hc] at HP0
      have HP : Hid (Calls Tryz.prog 20 #[.string s, .int .i64 0] w fun e w' => e = .returned (.tuple #[.int .i64 0, .int .i64 0, .int .i64 (y : Int), .int .i64 (z : Int)]) ∧ Below w.heap.size w w') := HP0
      have hy : ((y : Int) != 0) = true := by rw [bne_iff_ne]; omega
      clear HP0 hc hT
      go_enter Tryz.func8, Tryz.ntmps8
      go_wp2_with (go_at_call 20; (with_reducible refine HP.out.mono ?_); rintro e w3 ⟨rfl, hb3⟩; have HB3 : Hid (Below w.heap.size w w3) := hb3; clear hb3)
      refine bodyPost_ret (v := .tuple #[.int .i64 0, .bool false]) (by simp [results, Tryz.results8, go_sem]) rfl ⟨rfl, HB3.out⟩
    | ok k t =>
      rw [hc] at HP0
      have HP : Hid (Calls Tryz.prog 20 #[.string s, .int .i64 0] w fun e w' => e = .returned (.tuple #[.int .i64 (k : Int), .int .i64 (t : Int), .int .i64 0, .int .i64 0]) ∧ Below w.heap.size w w') := HP0
      clear HP0 hc hT
      simp only
      by_cases h2 : 2 ≤ k ∧ t = s.size
      · rw [if_pos h2]
        have q1 : ¬ (k : Int) ≤ 1 := by omega
        have q2 : decide (k ≤ 1) = false := by rw [decide_eq_false_iff_not]; omega
        have q3 : decide ((k : Int) ≤ 1) = false := by rw [decide_eq_false_iff_not]; omega
        have q4 : ((t : Int) != (s.size : Int)) = false := by rw [h2.2]; simp
        clear h2
        go_enter Tryz.func8, Tryz.ntmps8
        go_wp2_with (go_at_call 20; (with_reducible refine HP.out.mono ?_); rintro e w3 ⟨rfl, hb3⟩; have HB3 : Hid (Below w.heap.size w w3) := hb3; clear hb3)
        refine bodyPost_ret (v := .tuple #[.int .i64 (k : Int), .bool true]) (by simp [results, Tryz.results8, go_sem]) rfl ⟨rfl, HB3.out⟩
      · rw [if_neg h2]
        have hcs : (decide (k ≤ 1) = true ∧ decide ((k : Int) ≤ 1) = true) ∨ ((decide (k ≤ 1) = false ∧ decide ((k : Int) ≤ 1) = false) ∧ ((t : Int) != (s.size : Int)) = true) := by
          by_cases h1 : k ≤ 1
          · left; constructor <;> (rw [decide_eq_true_eq]; omega)
          · right; exact ⟨by constructor <;> (rw [decide_eq_false_iff_not]; omega), by rw [bne_iff_ne]; omega⟩
        clear h2
        rcases hcs with ⟨q1, q2⟩ | ⟨⟨q1, q2⟩, q3⟩
        all_goals
          go_enter Tryz.func8, Tryz.ntmps8
          go_wp2_with (go_at_call 20; (with_reducible refine HP.out.mono ?_); rintro e w3 ⟨rfl, hb3⟩; have HB3 : Hid (Below w.heap.size w w3) := hb3; clear hb3)
          refine bodyPost_ret (v := .tuple #[.int .i64 0, .bool false]) (by simp [results, Tryz.results8, go_sem]) rfl ⟨rfl, HB3.out⟩
set_option maxRecDepth 1000000 in
theorem Identifier_any (s : ByteArray) (hs : s.size ≤ 4294967280) (w : World) (hS : Spl w) (hT : Lt w) (hM : MaxL w) :
    Calls Tryz.prog 9 #[.string s] w fun e w' => e = .returned (.bool (kIs s 2)) ∧ Below w.heap.size w w' := by
  have HI : Hid (Calls Tryz.prog 21 #[.string s, .int .u8 2] w fun e w' => e = .returned (.bool (kIs s 2)) ∧ Below w.heap.size w w') := isOf_any s 2 (by omega) hs w hS hT hM
  obtain ⟨z, hz⟩ : ∃ z, kIs s 2 = z := ⟨_, rfl⟩
  rw [hz] at HI ⊢
  clear hS hT hM hz
  go_enter Tryz.func9, Tryz.ntmps9
  go_wp2_with (go_at_call 21; (with_reducible refine HI.out.mono ?_); rintro e w3 ⟨rfl, hb3⟩; have HB3 : Hid (Below w.heap.size w w3) := hb3; clear hb3)
  go_ret
  exact ⟨rfl, HB3.out⟩
theorem str_same (T : ByteArray) : (T.toList == T.toList) = true := by simp
set_option maxRecDepth 1000000 in
set_option maxHeartbeats 8000000 in
theorem lexerKinds_walk (s : ByteArray) (n : Nat) (hn : n < 256) (hB : s.size ≤ 1048576) (w : World) (hS : Spl w) (hT : Lt w) (hM : MaxL w) :
    Calls Tryz.prog 5 #[.string s, .int .u8 (n : Int)] w fun e w' => e = .returned (.bool true) ∧ Below w.heap.size w w' := by
  have hs : s.size ≤ 4294967280 := by omega
  have HK0 := Kind_any s hs w hS hT hM
  have HR0 : ∀ v, Below w.heap.size w v → _ := fun v hv => rKind_any s hs v (hT.below hv)
  have HI0 : ∀ v, Below w.heap.size w v → _ := fun v hv => Identifier_any s hs v (hS.below hv) (hT.below hv) (hM.below hv)
  obtain ⟨T, hTD⟩ : ∃ T, sq (spR n) = T := ⟨_, rfl⟩
  have HSP : Hid (∀ v, Below w.heap.size w v → Calls Tryz.prog 13 #[.int .u8 (n : Int)] v fun e w' => e = .returned (.string T) ∧ w' = v) := fun v hv => by
    have := Spell_any n hn v (hS.below hv)
    rw [spl_spR, hTD] at this
    exact this
  have HRS : Hid (∀ v, Calls Tryz.prog 14 #[.int .i64 (n : Int)] v fun e w' => e = .returned (.string T) ∧ Below v.heap.size v w') := fun v => by
    have := rSpell_any n v (by omega)
    rw [show (⟨(spR n).toArray⟩ : ByteArray) = T from hTD] at this
    exact this
  have hTT := str_same T
  clear hTD
  cases hk : kOf s with
  | none =>
    have hI : kIs s 2 = false := by unfold kIs; rw [hk]; rfl
    rw [hk] at HK0 HR0
    rw [hI] at HI0
    have HK : Hid (Calls Tryz.prog 7 #[.string s] w fun e w' => e = .returned (.tuple #[.int .u8 0, .bool false]) ∧ Below w.heap.size w w') := HK0
    have HR : Hid (∀ v, Below w.heap.size w v → Calls Tryz.prog 8 #[.string s] v fun e w' => e = .returned (.tuple #[.int .i64 0, .bool false]) ∧ Below v.heap.size v w') := HR0
    have HI : Hid (∀ v, Below w.heap.size w v → Calls Tryz.prog 9 #[.string s] v fun e w' => e = .returned (.bool false) ∧ Below v.heap.size v w') := HI0
    clear HK0 HR0 HI0 hk hI hS hT hM
    go_enter Tryz.func5, Tryz.ntmps5
    go_wp2_with (first
      | (go_at_call 7; (with_reducible refine HK.out.mono ?_); rintro e w3 ⟨rfl, hb3⟩; have HB3 : Hid (Below w.heap.size w w3) := hb3; clear hb3)
      | (go_at_call 8; (with_reducible refine (HR.out _ HB3.out).mono ?_); rintro e w4 ⟨rfl, hb4⟩; have HB4 : Hid (Below w.heap.size w w4) := HB3.out.trans (hb4.mono HB3.out.size); clear hb4)
      | (go_at_call 9; (with_reducible refine (HI.out _ HB4.out).mono ?_); rintro e w5 ⟨rfl, hb5⟩; have HB5 : Hid (Below w.heap.size w w5) := HB4.out.trans (hb5.mono HB4.out.size); clear hb5)
      | (go_at_call 13; (with_reducible refine (HSP.out _ HB5.out).mono ?_); rintro e w6 ⟨rfl, hw6⟩; have hw7 := hw6.symm; clear hw6; subst hw7)
      | (go_at_call 14; (with_reducible refine (HRS.out _).mono ?_); rintro e w8 ⟨rfl, hb8⟩; have HB8 : Hid (Below w.heap.size w w8) := HB5.out.trans (hb8.mono HB5.out.size); clear hb8))
    go_ret
    exact ⟨by first | rfl | simp, HB8.out⟩
  | some k =>
    obtain ⟨-, -, -, hk80, -, -⟩ := kOf_some hk
    obtain ⟨z, hz⟩ : ∃ z, decide (some k = some 2) = z := ⟨_, rfl⟩
    have hI : kIs s 2 = z := by unfold kIs; rw [hk, hz]
    have hq : ((k : Int) == 2) = z := by
      rw [← hz]
      by_cases h : k = 2
      · subst h; simp
      · rw [beq_eq_false_iff_ne.2 (by omega), decide_eq_false (by simpa using h)]
    rw [hk] at HK0 HR0
    rw [hI] at HI0
    have HK : Hid (Calls Tryz.prog 7 #[.string s] w fun e w' => e = .returned (.tuple #[.int .u8 (k : Int), .bool true]) ∧ Below w.heap.size w w') := HK0
    have HR : Hid (∀ v, Below w.heap.size w v → Calls Tryz.prog 8 #[.string s] v fun e w' => e = .returned (.tuple #[.int .i64 (k : Int), .bool true]) ∧ Below v.heap.size v w') := HR0
    have HI : Hid (∀ v, Below w.heap.size w v → Calls Tryz.prog 9 #[.string s] v fun e w' => e = .returned (.bool z) ∧ Below v.heap.size v w') := HI0
    clear HK0 HR0 HI0 hk hI hS hT hM hz
    cases z
    all_goals
      go_enter Tryz.func5, Tryz.ntmps5
      go_wp2_with (first
        | (go_at_call 7; (with_reducible refine HK.out.mono ?_); rintro e w3 ⟨rfl, hb3⟩; have HB3 : Hid (Below w.heap.size w w3) := hb3; clear hb3)
        | (go_at_call 8; (with_reducible refine (HR.out _ HB3.out).mono ?_); rintro e w4 ⟨rfl, hb4⟩; have HB4 : Hid (Below w.heap.size w w4) := HB3.out.trans (hb4.mono HB3.out.size); clear hb4)
        | (go_at_call 9; (with_reducible refine (HI.out _ HB4.out).mono ?_); rintro e w5 ⟨rfl, hb5⟩; have HB5 : Hid (Below w.heap.size w w5) := HB4.out.trans (hb5.mono HB4.out.size); clear hb5)
        | (go_at_call 13; (with_reducible refine (HSP.out _ HB5.out).mono ?_); rintro e w6 ⟨rfl, hw6⟩; have hw7 := hw6.symm; clear hw6; subst hw7)
        | (go_at_call 14; (with_reducible refine (HRS.out _).mono ?_); rintro e w8 ⟨rfl, hb8⟩; have HB8 : Hid (Below w.heap.size w w8) := HB5.out.trans (hb8.mono HB5.out.size); clear hb8))
      go_ret
      exact ⟨by first | rfl | simp, HB8.out⟩
end Go.Proofs.YthdfccdkomfikaaGreatDoor
