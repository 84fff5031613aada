import Derived.Test.YtnaipmgdipflgaaGreatDoorLz2
import Derived.Test.YtnaipmgdipflgaaGreatDoorLxs
import Derived.Laws.Cover1
import Derived.Lib.Strings
import Derived.BigQuiet
namespace Go.Proofs.YtnaipmgdipflgaaGreatDoor
open Go.ChangeShapes Go.WideShapes Go.ChangeAt Go.RowKit
set_option linter.unusedVariables false
set_option linter.unusedSimpArgs false

set_option maxRecDepth 1000000 in
set_option maxHeartbeats 4000000 in
theorem rbegins_any (s : ByteArray) (p : Nat) (m : ByteArray) (hs : s.size ≤ 4294967280) (hm : m.size ≤ 16) (hp : p ≤ s.size) (w : World) :
    Calls Tryz.prog 62 #[.string s, .int .i64 (p : Int), .string m] w fun e w' => e = .returned (.bool (bgn s p m.data.toList)) ∧ w' = w := by
  have hu : m.data.toList.length = m.size := by rw [Array.length_toList]; rfl
  have hb : bgn s p m.data.toList = (decide (p + m.size ≤ s.size) && ((s.extract p (p + m.size)).data.toList == m.data.toList)) := by unfold bgn; rw [hu]
  rw [hb]
  by_cases h : p + m.size ≤ s.size
  · have h' : (p : Int) + (m.size : Int) ≤ (s.size : Int) := by omega
    have hq : ((s.extract p (p + m.size)).toList == m.toList) = ((s.extract p (p + m.size)).data.toList == m.data.toList) := by rw [ByteArray.toList_eq, ByteArray.toList_eq]
    rw [decide_eq_true h, Bool.true_and]
    obtain ⟨Z, hZ⟩ : ∃ Z, ((s.extract p (p + m.size)).data.toList == m.data.toList) = Z := ⟨_, rfl⟩
    rw [hZ] at hq ⊢
    clear hZ hb
    go_enter Tryz.func62, Tryz.ntmps62
    go_wp2
    go_ret
    exact ⟨by first | rfl | simpa using hq, rfl⟩
  · have h' : ¬ (p : Int) + (m.size : Int) ≤ (s.size : Int) := by omega
    rw [decide_eq_false h, Bool.false_and]
    go_enter Tryz.func62, Tryz.ntmps62
    go_wp2
    go_ret
    exact ⟨rfl, rfl⟩
set_option maxRecDepth 1000000 in
set_option maxHeartbeats 4000000 in
theorem rblank_any (n : Nat) (w : World) :
    Calls Tryz.prog 61 #[.int .u8 (n : Int)] w fun e w' => e = .returned (.bool (blk n)) ∧ w' = w := by
  have H : n = 32 ∨ n = 9 ∨ n = 13 ∨ n = 10 ∨ (n ≠ 32 ∧ n ≠ 9 ∧ n ≠ 13 ∧ n ≠ 10) := by omega
  rcases H with rfl | rfl | rfl | rfl | ⟨h1, h2, h3, h4⟩
  · go_enter Tryz.func61, Tryz.ntmps61
    go_wp2
    go_ret
    exact ⟨rfl, rfl⟩
  · go_enter Tryz.func61, Tryz.ntmps61
    go_wp2
    go_ret
    exact ⟨rfl, rfl⟩
  · go_enter Tryz.func61, Tryz.ntmps61
    go_wp2
    go_ret
    exact ⟨rfl, rfl⟩
  · go_enter Tryz.func61, Tryz.ntmps61
    go_wp2
    go_ret
    exact ⟨rfl, rfl⟩
  · have E : blk n = false := by unfold blk; simp [h1, h2, h3, h4]
    rw [E]
    have k1 : ((n : Int) == 32) = false := by simp; omega
    have k2 : ((n : Int) == 9) = false := by simp; omega
    have k3 : ((n : Int) == 13) = false := by simp; omega
    have k4 : ((n : Int) == 10) = false := by simp; omega
    go_enter Tryz.func61, Tryz.ntmps61
    go_wp2
    go_ret
    exact ⟨rfl, rfl⟩
set_option maxRecDepth 1000000 in
set_option maxHeartbeats 4000000 in
theorem rdigit_any (c : Nat) (hc : c < 256) (w : World) :
    Calls Tryz.prog 42 #[.int .u8 (c : Int)] w fun e w' => e = .returned (.int .i64 (dgv c : Nat)) ∧ w' = w := by
  have H : c < 48 ∨ (48 ≤ c ∧ c ≤ 57) ∨ (57 < c ∧ c < 65) ∨ (65 ≤ c ∧ c ≤ 70) ∨ (70 < c ∧ c < 97) ∨ (97 ≤ c ∧ c ≤ 102) ∨ 102 < c := by omega
  have e1 : (48 ≤ c ∧ c ≤ 57) → dgv c = c - 48 := fun h => by unfold dgv; rw [if_pos h]
  have e2 : (65 ≤ c ∧ c ≤ 70) → dgv c = c - 55 := fun h => by unfold dgv; rw [if_neg (by omega), if_neg (by omega), if_pos h]
  have e3 : (97 ≤ c ∧ c ≤ 102) → dgv c = c - 87 := fun h => by unfold dgv; rw [if_neg (by omega), if_pos h]
  have e4 : ¬ (48 ≤ c ∧ c ≤ 57) → ¬ (65 ≤ c ∧ c ≤ 70) → ¬ (97 ≤ c ∧ c ≤ 102) → dgv c = 99 := fun h h' h'' => by unfold dgv; rw [if_neg h, if_neg h'', if_neg h']
  rcases H with h | ⟨h, h'⟩ | ⟨h, h'⟩ | ⟨h, h'⟩ | ⟨h, h'⟩ | ⟨h, h'⟩ | h
  · rw [e4 (by omega) (by omega) (by omega)]
    have g : ¬ (c : Int) ≥ 48 := by omega
    have g2 : ¬ (c : Int) ≥ 97 := by omega
    have g3 : ¬ (c : Int) ≥ 65 := by omega
    go_enter Tryz.func42, Tryz.ntmps42
    go_wp2
    go_ret
    exact ⟨rfl, rfl⟩
  · rw [e1 ⟨h, h'⟩]
    have g : (c : Int) ≥ 48 := by omega
    have g' : (c : Int) ≤ 57 := by omega
    go_enter Tryz.func42, Tryz.ntmps42
    go_wp2
    go_ret
    exact ⟨by simp; omega, rfl⟩
  · rw [e4 (by omega) (by omega) (by omega)]
    have g : (c : Int) ≥ 48 := by omega
    have g' : ¬ (c : Int) ≤ 57 := by omega
    have g2 : ¬ (c : Int) ≥ 97 := by omega
    have g3 : ¬ (c : Int) ≥ 65 := by omega
    go_enter Tryz.func42, Tryz.ntmps42
    go_wp2
    go_ret
    exact ⟨rfl, rfl⟩
  · rw [e2 ⟨h, h'⟩]
    have g : (c : Int) ≥ 48 := by omega
    have g' : ¬ (c : Int) ≤ 57 := by omega
    have g2 : ¬ (c : Int) ≥ 97 := by omega
    have g3 : (c : Int) ≥ 65 := by omega
    have g4 : (c : Int) ≤ 70 := by omega
    go_enter Tryz.func42, Tryz.ntmps42
    go_wp2
    go_ret
    exact ⟨by simp; omega, rfl⟩
  · rw [e4 (by omega) (by omega) (by omega)]
    have g : (c : Int) ≥ 48 := by omega
    have g' : ¬ (c : Int) ≤ 57 := by omega
    have g2 : ¬ (c : Int) ≥ 97 := by omega
    have g3 : (c : Int) ≥ 65 := by omega
    have g4 : ¬ (c : Int) ≤ 70 := by omega
    go_enter Tryz.func42, Tryz.ntmps42
    go_wp2
    go_ret
    exact ⟨rfl, rfl⟩
  · rw [e3 ⟨h, h'⟩]
    have g : (c : Int) ≥ 48 := by omega
    have g' : ¬ (c : Int) ≤ 57 := by omega
    have g2 : (c : Int) ≥ 97 := by omega
    have g3 : (c : Int) ≤ 102 := by omega
    go_enter Tryz.func42, Tryz.ntmps42
    go_wp2
    go_ret
    exact ⟨by simp; omega, rfl⟩
  · rw [e4 (by omega) (by omega) (by omega)]
    have g : (c : Int) ≥ 48 := by omega
    have g' : ¬ (c : Int) ≤ 57 := by omega
    have g2 : (c : Int) ≥ 97 := by omega
    have g3 : ¬ (c : Int) ≤ 102 := by omega
    have g4 : (c : Int) ≥ 65 := by omega
    have g5 : ¬ (c : Int) ≤ 70 := by omega
    go_enter Tryz.func42, Tryz.ntmps42
    go_wp2
    go_ret
    exact ⟨rfl, rfl⟩
end Go.Proofs.YtnaipmgdipflgaaGreatDoor

namespace Go.Proofs.YtnaipmgdipflgaaGreatDoor
open Go.ChangeShapes Go.WideShapes Go.ChangeAt Go.RowKit
set_option linter.unusedVariables false
set_option linter.unusedSimpArgs false

set_option maxRecDepth 1000000 in
set_option maxHeartbeats 4000000 in
theorem rbase_let (r : ByteArray) (hr : r.size ≤ 4294967280) (h2 : 1 < r.size) (h48 : bt r 0 = 48) (hl : bsl (bt r 1) ≠ 0) (w : World) :
    Calls Tryz.prog 41 #[.string r] w fun e w' => e = .returned (.tuple #[.int .i64 (bsl (bt r 1) : Nat), .string (r.extract 2 r.size)]) ∧ Below w.heap.size w w' := by
  have hs2 : (r.size : Int) > 1 := by omega
  have h0' : (0 : Int) < (r.size : Int) := by omega
  have h1' : (1 : Int) < (r.size : Int) := by omega
  have h2' : (2 : Int) ≤ (r.size : Int) := by omega
  have hb0 : (r[0]'(by omega)).toNat = 48 := by rw [← bt_in, h48]
  obtain ⟨n, hn⟩ : ∃ n, (r[1]'(by omega)).toNat = n := ⟨_, rfl⟩
  have hbt : bt r 1 = n := by rw [bt_in (by omega), hn]
  rw [hbt] at hl ⊢
  have H : n = 120 ∨ n = 88 ∨ n = 111 ∨ n = 79 ∨ n = 98 ∨ n = 66 := by
    by_cases h : n = 120 ∨ n = 88 ∨ n = 111 ∨ n = 79 ∨ n = 98 ∨ n = 66
    · exact h
    · exact absurd (by unfold bsl; rw [if_neg (by omega), if_neg (by omega), if_neg (by omega)]) hl
  clear hl hbt h48
  rcases H with rfl | rfl | rfl | rfl | rfl | rfl
  · have e : bsl 120 = 16 := by decide
    rw [e]
    go_enter Tryz.func41, Tryz.ntmps41
    go_wp2
    go_quiet (fail)
    go_wp2
    go_ret2
    exact ⟨rfl, ⟨rfl, rfl, rfl, Nat.le_refl _, fun _ _ => rfl⟩⟩
  · have e : bsl 88 = 16 := by decide
    rw [e]
    go_enter Tryz.func41, Tryz.ntmps41
    go_wp2
    go_quiet (fail)
    go_wp2
    go_ret2
    exact ⟨rfl, ⟨rfl, rfl, rfl, Nat.le_refl _, fun _ _ => rfl⟩⟩
  · have e : bsl 111 = 8 := by decide
    rw [e]
    go_enter Tryz.func41, Tryz.ntmps41
    go_wp2
    go_quiet (fail)
    go_wp2
    go_ret2
    exact ⟨rfl, ⟨rfl, rfl, rfl, Nat.le_refl _, fun _ _ => rfl⟩⟩
  · have e : bsl 79 = 8 := by decide
    rw [e]
    go_enter Tryz.func41, Tryz.ntmps41
    go_wp2
    go_quiet (fail)
    go_wp2
    go_ret2
    exact ⟨rfl, ⟨rfl, rfl, rfl, Nat.le_refl _, fun _ _ => rfl⟩⟩
  · have e : bsl 98 = 2 := by decide
    rw [e]
    go_enter Tryz.func41, Tryz.ntmps41
    go_wp2
    go_quiet (fail)
    go_wp2
    go_ret2
    exact ⟨rfl, ⟨rfl, rfl, rfl, Nat.le_refl _, fun _ _ => rfl⟩⟩
  · have e : bsl 66 = 2 := by decide
    rw [e]
    go_enter Tryz.func41, Tryz.ntmps41
    go_wp2
    go_quiet (fail)
    go_wp2
    go_ret2
    exact ⟨rfl, ⟨rfl, rfl, rfl, Nat.le_refl _, fun _ _ => rfl⟩⟩
set_option maxRecDepth 1000000 in
set_option maxHeartbeats 4000000 in
theorem rbase_none (r : ByteArray) (hr : r.size ≤ 4294967280) (h2 : 1 < r.size) (h48 : bt r 0 = 48) (hl : bsl (bt r 1) = 0) (w : World) :
    Calls Tryz.prog 41 #[.string r] w fun e w' => e = .returned (.tuple #[.int .i64 0, .string r]) ∧ Below w.heap.size w w' := by
  have hs2 : (r.size : Int) > 1 := by omega
  have h0' : (0 : Int) < (r.size : Int) := by omega
  have h1' : (1 : Int) < (r.size : Int) := by omega
  have hb0 : (r[0]'(by omega)).toNat = 48 := by rw [← bt_in, h48]
  obtain ⟨n, hn⟩ : ∃ n, (r[1]'(by omega)).toNat = n := ⟨_, rfl⟩
  have hbt : bt r 1 = n := by rw [bt_in (by omega), hn]
  rw [hbt] at hl
  have hne : n ≠ 120 ∧ n ≠ 88 ∧ n ≠ 111 ∧ n ≠ 79 ∧ n ≠ 98 ∧ n ≠ 66 := by
    refine ⟨?_, ?_, ?_, ?_, ?_, ?_⟩ <;> (rintro rfl; revert hl; decide)
  have q1 : ((n : Int) == 120) = false := by simp; omega
  have q2 : ((n : Int) == 88) = false := by simp; omega
  have q3 : ((n : Int) == 111) = false := by simp; omega
  have q4 : ((n : Int) == 79) = false := by simp; omega
  have q5 : ((n : Int) == 98) = false := by simp; omega
  have q6 : ((n : Int) == 66) = false := by simp; omega
  clear hl hbt h48
  go_enter Tryz.func41, Tryz.ntmps41
  go_wp2
  go_ret2
  exact ⟨rfl, Below.refl _ _⟩
set_option maxRecDepth 1000000 in
set_option maxHeartbeats 4000000 in
theorem rbase_ten (r : ByteArray) (hr : r.size ≤ 4294967280) (h : ¬ (1 < r.size ∧ bt r 0 = 48)) (w : World) :
    Calls Tryz.prog 41 #[.string r] w fun e w' => e = .returned (.tuple #[.int .i64 10, .string r]) ∧ Below w.heap.size w w' := by
  by_cases h2 : 1 < r.size
  · have hs2 : (r.size : Int) > 1 := by omega
    have h0' : (0 : Int) < (r.size : Int) := by omega
    obtain ⟨n, hn⟩ : ∃ n, (r[0]'(by omega)).toNat = n := ⟨_, rfl⟩
    have hbt : bt r 0 = n := by rw [bt_in (by omega), hn]
    have q1 : ((n : Int) == 48) = false := by simp; omega
    clear hbt h
    go_enter Tryz.func41, Tryz.ntmps41
    go_wp2
    go_ret2
    exact ⟨rfl, Below.refl _ _⟩
  · have hs2 : ¬ (r.size : Int) > 1 := by omega
    go_enter Tryz.func41, Tryz.ntmps41
    go_wp2
    go_ret2
    exact ⟨rfl, Below.refl _ _⟩
end Go.Proofs.YtnaipmgdipflgaaGreatDoor
