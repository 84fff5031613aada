import Derived.Test.YthdfccdkomfikaaDoorLy4
namespace Go.Proofs.YthdfccdkomfikaaDoor
open Go.ChangeShapes Go.WideShapes Go.ChangeAt Go.RowKit
set_option linter.unusedVariables false
set_option linter.unusedSimpArgs false

/-- the tables of runes and letters stand -/
def Lt (w : World) : Prop := U8 w ∧ ∀ v, Below w.heap.size w v → Lib.TabIs Tryd.prog v "unicode.properties" .u8 Lib.propertiesTab ∧ Lib.RVar 5 Lib.letterT v ∧ Lib.RVar 6 Lib.digitT v
theorem Lt.below {w w' : World} (h : Lt w) (hb : Below w.heap.size w w') : Lt w' := ⟨h.1.below hb, fun v hv => h.2 v (hb.trans (hv.mono hb.size))⟩

set_option maxRecDepth 100000 in
set_option maxHeartbeats 2000000 in
theorem isLetter_any (r : Nat) (hr : r < 1114112) (w : World) (hT : Lt w) :
    Calls Tryd.prog 38 #[.int .i32 (r : Int)] w fun e w' => e = .returned (.bool (isL r)) ∧ Below w.heap.size w w' := by
  by_cases h95 : r = 95
  · subst h95
    have E : isL 95 = true := by unfold isL; rfl
    rw [E]
    go_enter Tryd.func38, Tryd.ntmps38
    go_wp2
    go_ret
    exact ⟨rfl, Below.refl _ _⟩
  · have E : isL r = uL r := by unfold isL; simp [h95]
    rw [E]
    obtain ⟨t1, t2, t3⟩ := hT.2 w (Below.refl _ _)
    have HC : Hid (Calls Tryd.prog 50 #[.int .i32 (r : Int)] w fun e w' => e = .returned (.bool (uL r)) ∧ Below w.heap.size w w') := Tryd.unicode_IsLetter_any Lib.letterT (r : Int) w (by omega) (by omega) t1 t2 Lib.letterT_ok
    have h95' : ((r : Int) == 95) = false := by simp; omega
    clear t1 t2 t3 hT
    go_enter Tryd.func38, Tryd.ntmps38
    go_wp2_with (go_at_call 50; (with_reducible refine HC.out.mono ?_); rintro e w3 ⟨rfl, hb3⟩)
    go_ret
    exact ⟨rfl, hb3⟩

set_option maxRecDepth 100000 in
set_option maxHeartbeats 2000000 in
theorem isBlank_any (n : Nat) (w : World) :
    Calls Tryd.prog 33 #[.int .u8 (n : Int)] w fun e w' => e = .returned (.bool (blk n)) ∧ w' = w := by
  have H : n = 32 ∨ n = 9 ∨ n = 13 ∨ n = 10 ∨ (n ≠ 32 ∧ n ≠ 9 ∧ n ≠ 13 ∧ n ≠ 10) := by omega
  rcases H with rfl | rfl | rfl | rfl | ⟨h1, h2, h3, h4⟩
  · go_enter Tryd.func33, Tryd.ntmps33
    go_wp2
    go_ret
    exact ⟨rfl, rfl⟩
  · go_enter Tryd.func33, Tryd.ntmps33
    go_wp2
    go_ret
    exact ⟨rfl, rfl⟩
  · go_enter Tryd.func33, Tryd.ntmps33
    go_wp2
    go_ret
    exact ⟨rfl, rfl⟩
  · go_enter Tryd.func33, Tryd.ntmps33
    go_wp2
    go_ret
    exact ⟨rfl, rfl⟩
  · have E : blk n = false := by unfold blk; simp [h1, h2, h3, h4]
    rw [E]
    have k1 : ((n : Int) == 32) = false := by simp; omega
    have k2 : ((n : Int) == 9) = false := by simp; omega
    have k3 : ((n : Int) == 13) = false := by simp; omega
    have k4 : ((n : Int) == 10) = false := by simp; omega
    go_enter Tryd.func33, Tryd.ntmps33
    go_wp2
    go_ret
    exact ⟨rfl, rfl⟩

set_option maxRecDepth 100000 in
set_option maxHeartbeats 2000000 in
theorem atBlank_any (b : Nat) (s : ByteArray) (p : Nat) (hs : s.size ≤ 4294967280) (hp : p < s.size) (w : World) (hb : w.cell? ⟨b, 0, none⟩ = some (.string s)) :
    Calls Tryd.prog 18 #[.pointer (some ⟨b, 0, none⟩), .int .i64 (p : Int)] w fun e w' => e = .returned (.bool (blk (bt s p))) ∧ w' = w := by
  have hp' : (p : Int) < (s.size : Int) := by omega
  obtain ⟨n, hn⟩ : ∃ n, (s[p]'hp).toNat = n := ⟨_, rfl⟩
  have E : bt s p = n := by rw [bt_in hp, hn]
  rw [E]
  have hbl : b < w.heap.size := World.block_lt_of_cell? _ _ hb
  go_enter Tryd.func18, Tryd.ntmps18
  go_wp2_with (go_at_call 33; (with_reducible refine (isBlank_any n _).mono ?_); rintro e w3 ⟨rfl, hw3⟩; subst hw3)
  go_ret
  exact ⟨rfl, rfl⟩

set_option maxRecDepth 100000 in
set_option maxHeartbeats 2000000 in
theorem atLetter_any (b : Nat) (s : ByteArray) (p : Nat) (hs : s.size ≤ 4294967280) (hp : p < s.size) (w : World) (hb : w.cell? ⟨b, 0, none⟩ = some (.string s)) (hT : Lt w) :
    Calls Tryd.prog 22 #[.pointer (some ⟨b, 0, none⟩), .int .i64 (p : Int)] w fun e w' => e = .returned (.bool (isL (rn s p))) ∧ Below w.heap.size w w' := by
  have hp' : (p : Int) < (s.size : Int) := by omega
  have hbl : b < w.heap.size := World.block_lt_of_cell? _ _ hb
  have HD : Hid (Calls Tryd.prog 37 #[.string (s.extract p s.size)] w fun e w' => e = .returned (.tuple #[.int .i32 (rn s p : Nat), .int .i64 (wd s p : Nat)]) ∧ Below w.heap.size w w') := decode_call s p w hT.1
  have HT : Hid (Lt w) := hT
  have HR : Hid (rn s p < 1114112) := rn_lt s p
  obtain ⟨R, hR⟩ : ∃ R, rn s p = R := ⟨_, rfl⟩
  obtain ⟨D, hD⟩ : ∃ D, wd s p = D := ⟨_, rfl⟩
  rw [hR] at HD HR ⊢
  rw [hD] at HD
  clear hT hR hD
  go_enter Tryd.func22, Tryd.ntmps22
  go_wp2_with (first
    | (go_at_call 37; (with_reducible refine HD.out.mono ?_); rintro e w3 ⟨rfl, hb3⟩; have HB3 : Hid (Below w.heap.size w w3) := hb3; clear hb3)
    | (go_at_call 38; (with_reducible refine (isLetter_any R HR.out _ (HT.out.below HB3.out)).mono ?_); rintro e w4 ⟨rfl, hb4⟩; have HB4 : Hid (Below w.heap.size w w4) := HB3.out.trans (hb4.mono HB3.out.size); clear hb4))
  go_ret
  exact ⟨rfl, HB4.out⟩

set_option maxRecDepth 100000 in
set_option maxHeartbeats 2000000 in
theorem atDigit_any (b : Nat) (s : ByteArray) (p : Nat) (hs : s.size ≤ 4294967280) (hp : p < s.size) (w : World) (hb : w.cell? ⟨b, 0, none⟩ = some (.string s)) :
    Calls Tryd.prog 24 #[.pointer (some ⟨b, 0, none⟩), .int .i64 (p : Int)] w fun e w' => e = .returned (.bool (decide (48 ≤ bt s p ∧ bt s p ≤ 57))) ∧ w' = w := by
  have hp' : (p : Int) < (s.size : Int) := by omega
  obtain ⟨n, hn⟩ : ∃ n, (s[p]'hp).toNat = n := ⟨_, rfl⟩
  have E : bt s p = n := by rw [bt_in hp, hn]
  rw [E]
  have hbl : b < w.heap.size := World.block_lt_of_cell? _ _ hb
  by_cases h1 : 48 ≤ n
  · have h1' : (48 : Int) ≤ (n : Int) := by omega
    by_cases h2 : n ≤ 57
    · have h2' : (n : Int) ≤ 57 := by omega
      go_enter Tryd.func24, Tryd.ntmps24
      go_wp2
      go_ret
      exact ⟨by simp [h1, h2], rfl⟩
    · have h2' : ¬ (n : Int) ≤ 57 := by omega
      go_enter Tryd.func24, Tryd.ntmps24
      go_wp2
      go_ret
      exact ⟨by simp [h2], rfl⟩
  · have h1' : ¬ (48 : Int) ≤ (n : Int) := by omega
    go_enter Tryd.func24, Tryd.ntmps24
    go_wp2
    go_ret
    exact ⟨by simp [h1], rfl⟩

set_option maxRecDepth 100000 in
set_option maxHeartbeats 2000000 in
theorem atQuote_any (b : Nat) (s : ByteArray) (p : Nat) (hs : s.size ≤ 4294967280) (hp : p < s.size) (w : World) (hb : w.cell? ⟨b, 0, none⟩ = some (.string s)) :
    Calls Tryd.prog 26 #[.pointer (some ⟨b, 0, none⟩), .int .i64 (p : Int)] w fun e w' => e = .returned (.bool (decide (bt s p = 39 ∨ bt s p = 34 ∨ bt s p = 96))) ∧ w' = w := by
  have hp' : (p : Int) < (s.size : Int) := by omega
  obtain ⟨n, hn⟩ : ∃ n, (s[p]'hp).toNat = n := ⟨_, rfl⟩
  have E : bt s p = n := by rw [bt_in hp, hn]
  rw [E]
  clear E
  have hbl : b < w.heap.size := World.block_lt_of_cell? _ _ hb
  have H : n = 39 ∨ n = 34 ∨ n = 96 ∨ (n ≠ 39 ∧ n ≠ 34 ∧ n ≠ 96) := by omega
  rcases H with h | h | h | ⟨h1, h2, h3⟩
  · subst h
    go_enter Tryd.func26, Tryd.ntmps26
    go_wp2
    go_ret
    exact ⟨rfl, rfl⟩
  · subst h
    go_enter Tryd.func26, Tryd.ntmps26
    go_wp2
    go_ret
    exact ⟨rfl, rfl⟩
  · subst h
    go_enter Tryd.func26, Tryd.ntmps26
    go_wp2
    go_ret
    exact ⟨rfl, rfl⟩
  · have k1 : ((n : Int) == 39) = false := by simp; omega
    have k2 : ((n : Int) == 34) = false := by simp; omega
    have k3 : ((n : Int) == 96) = false := by simp; omega
    go_enter Tryd.func26, Tryd.ntmps26
    go_wp2
    go_ret
    exact ⟨by simp [h1, h2, h3], rfl⟩
end Go.Proofs.YthdfccdkomfikaaDoor
