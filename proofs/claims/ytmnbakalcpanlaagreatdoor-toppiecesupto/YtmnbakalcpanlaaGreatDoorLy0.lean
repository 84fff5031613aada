import Derived.Test.YtmnbakalcpanlaaGreatDoorRs4a
import Derived.Test.YtmnbakalcpanlaaGreatDoorLxs
namespace Go.Proofs.YtmnbakalcpanlaaGreatDoor
open Go.ChangeShapes Go.WideShapes Go.ChangeAt Go.RowKit
set_option linter.unusedVariables false
set_option linter.unusedSimpArgs false

/-- a digit's value as the code tells it -/
def dgC (c : Nat) : Int := if dgv c = 99 then 9223372036854775807 else (dgv c : Int)
theorem dgC_ge (c : Nat) (b : Nat) (hb : b ≤ 16) : (b : Int) ≤ dgC c ↔ b ≤ dgv c := by
  unfold dgC
  have := dgv_le c
  by_cases h : dgv c = 99
  · rw [if_pos h, h]; omega
  · rw [if_neg h]; omega
theorem dgC_lt {c : Nat} (h : dgv c < 99) : dgC c = (dgv c : Int) := by unfold dgC; rw [if_neg (by omega)]

theorem dgC_none {c : Nat} (h1 : ¬ (48 ≤ c ∧ c ≤ 57)) (h2 : ¬ (97 ≤ c ∧ c ≤ 102)) (h3 : ¬ (65 ≤ c ∧ c ≤ 70)) : dgC c = 9223372036854775807 := by
  have : dgv c = 99 := by unfold dgv; rw [if_neg h1, if_neg h2, if_neg h3]
  unfold dgC; rw [if_pos this]

set_option maxRecDepth 100000 in
set_option maxHeartbeats 2000000 in
theorem digit_any (c : Nat) (hc : c < 256) (w : World) :
    Calls Tryz.prog 69 #[.int .u8 c] w fun e w' => e = .returned (.int .i64 (dgC c)) ∧ w' = w := by
  have H : c < 48 ∨ (48 ≤ c ∧ c ≤ 57) ∨ (57 < c ∧ c < 65) ∨ (65 ≤ c ∧ c ≤ 70) ∨ (70 < c ∧ c < 97) ∨ (97 ≤ c ∧ c ≤ 102) ∨ 102 < c := by omega
  rcases H with h | ⟨h, h'⟩ | ⟨h, h'⟩ | ⟨h, h'⟩ | ⟨h, h'⟩ | ⟨h, h'⟩ | h
  · have E : Hid (dgC c = 9223372036854775807) := dgC_none (by omega) (by omega) (by omega)
    have k1 : ¬ (48 : Int) ≤ (c : Int) := by omega
    have k3 : ¬ (97 : Int) ≤ (c : Int) := by omega
    have k5 : ¬ (65 : Int) ≤ (c : Int) := by omega
    go_enter Tryz.func69, Tryz.ntmps69
    go_wp2
    go_ret
    exact ⟨by rw [E.out]; rfl, rfl⟩
  · have E : Hid (dgC c = (c : Int) - 48) := by unfold Hid; rw [dgC_lt (by unfold dgv; rw [if_pos ⟨h, h'⟩]; omega)]; unfold dgv; rw [if_pos ⟨h, h'⟩]; omega
    have k1 : (48 : Int) ≤ (c : Int) := by omega
    have k2 : (c : Int) ≤ 57 := by omega
    go_enter Tryz.func69, Tryz.ntmps69
    go_wp2
    go_ret
    exact ⟨by rw [E.out]; rfl, rfl⟩
  · have E : Hid (dgC c = 9223372036854775807) := dgC_none (by omega) (by omega) (by omega)
    have k1 : (48 : Int) ≤ (c : Int) := by omega
    have k2 : ¬ (c : Int) ≤ 57 := by omega
    have k3 : ¬ (97 : Int) ≤ (c : Int) := by omega
    have k5 : ¬ (65 : Int) ≤ (c : Int) := by omega
    go_enter Tryz.func69, Tryz.ntmps69
    go_wp2
    go_ret
    exact ⟨by rw [E.out]; rfl, rfl⟩
  · have E : Hid (dgC c = (c : Int) - 65 + 10) := by unfold Hid; rw [dgC_lt (by unfold dgv; rw [if_neg (by omega), if_neg (by omega), if_pos ⟨h, h'⟩]; omega)]; unfold dgv; rw [if_neg (by omega), if_neg (by omega), if_pos ⟨h, h'⟩]; omega
    have k1 : (48 : Int) ≤ (c : Int) := by omega
    have k2 : ¬ (c : Int) ≤ 57 := by omega
    have k3 : ¬ (97 : Int) ≤ (c : Int) := by omega
    have k5 : (65 : Int) ≤ (c : Int) := by omega
    have k6 : (c : Int) ≤ 70 := by omega
    go_enter Tryz.func69, Tryz.ntmps69
    go_wp2
    go_ret
    exact ⟨by rw [E.out]; rfl, rfl⟩
  · have E : Hid (dgC c = 9223372036854775807) := dgC_none (by omega) (by omega) (by omega)
    have k1 : (48 : Int) ≤ (c : Int) := by omega
    have k2 : ¬ (c : Int) ≤ 57 := by omega
    have k3 : ¬ (97 : Int) ≤ (c : Int) := by omega
    have k5 : (65 : Int) ≤ (c : Int) := by omega
    have k6 : ¬ (c : Int) ≤ 70 := by omega
    go_enter Tryz.func69, Tryz.ntmps69
    go_wp2
    go_ret
    exact ⟨by rw [E.out]; rfl, rfl⟩
  · have E : Hid (dgC c = (c : Int) - 97 + 10) := by unfold Hid; rw [dgC_lt (by unfold dgv; rw [if_neg (by omega), if_pos ⟨h, h'⟩]; omega)]; unfold dgv; rw [if_neg (by omega), if_pos ⟨h, h'⟩]; omega
    have k1 : (48 : Int) ≤ (c : Int) := by omega
    have k2 : ¬ (c : Int) ≤ 57 := by omega
    have k3 : (97 : Int) ≤ (c : Int) := by omega
    have k4 : (c : Int) ≤ 102 := by omega
    go_enter Tryz.func69, Tryz.ntmps69
    go_wp2
    go_ret
    exact ⟨by rw [E.out]; rfl, rfl⟩
  · have E : Hid (dgC c = 9223372036854775807) := dgC_none (by omega) (by omega) (by omega)
    have k1 : (48 : Int) ≤ (c : Int) := by omega
    have k2 : ¬ (c : Int) ≤ 57 := by omega
    have k3 : (97 : Int) ≤ (c : Int) := by omega
    have k4 : ¬ (c : Int) ≤ 102 := by omega
    have k5 : (65 : Int) ≤ (c : Int) := by omega
    have k6 : ¬ (c : Int) ≤ 70 := by omega
    go_enter Tryz.func69, Tryz.ntmps69
    go_wp2
    go_ret
    exact ⟨by rw [E.out]; rfl, rfl⟩

/-- so many digits, which must all stand there -/
def dg2 (s : ByteArray) (k count b : Nat) : Option Nat := if s.size < k + count then none else dgs s b count k 0
set_option maxRecDepth 100000 in
set_option maxHeartbeats 2000000 in
/-- so many digits, which must all stand there: at most eight -/
theorem digitsAt_8 (s : ByteArray) (k count : Nat) (hs : s.size ≤ 4294967280) (hk : k ≤ s.size) (hc : count ≤ 8) (w : World) :
    Calls Tryz.prog 94 #[.string s, .int .i64 k, .int .i64 count, .int .i64 8] w fun e w' => e = .returned (.tuple #[.int .i64 (((dg2 s k count 8).getD 0 : Nat) : Int), .bool (dg2 s k count 8).isSome]) ∧ w' = w := by
  by_cases h0 : s.size < k + count
  · have E : Hid (dg2 s k count 8 = none) := by unfold Hid dg2; rw [if_pos h0]
    have h1 : (s.size : Int) - (k : Int) < (count : Int) := by omega
    go_enter Tryz.func94, Tryz.ntmps94
    go_wp2
    go_ret2
    exact ⟨by rw [E.out]; rfl, rfl⟩
  · have E : dg2 s k count 8 = dgs s 8 count k 0 := by unfold dg2; rw [if_neg h0]
    rw [E]
    clear E
    have h1 : ¬ (s.size : Int) - (k : Int) < (count : Int) := by omega
    obtain ⟨D, hD⟩ : ∃ D, dgs s 8 count k 0 = D := ⟨_, rfl⟩
    rw [hD]
    have HD : Hid (dgs s 8 count k 0 = D) := hD
    clear hD
    go_enter Tryz.func94, Tryz.ntmps94
    go_wp2
    go_loopw [10, 20] (fun sn si wr => ∃ (i acc : Nat), i ≤ count ∧ si = .int .i64 (i : Int) ∧ sn = .int .i64 (acc : Int) ∧ dgs s 8 (count - i) (k + i) acc = D ∧ acc < 16 ^ i ∧ wr = w) (fun _ si _ => count - (intOf si).toNat)
    case atStart => exact ⟨0, 0, Nat.zero_le _, rfl, rfl, HD.out, by decide, rfl⟩
    case round =>
      obtain ⟨i, acc, hi, rfl, rfl, hd, hacc, hw⟩ := hrel
      subst hw
      have HDi : Hid (dgs s 8 (count - i) (k + i) acc = D) := hd
      clear hd
      by_cases hlt : i < count
      · have hlt' : (i : Int) < (count : Int) := by omega
        have hki : k + i < s.size := by omega
        have hki' : (k : Int) + (i : Int) < (s.size : Int) := by omega
        obtain ⟨c, hcc⟩ : ∃ c, s[k + i]'hki = c := ⟨_, rfl⟩
        have hbt : bt s (k + i) = c.toNat := by rw [bt_in hki, hcc]
        have hc8 := c.toNat_lt
        have HC : Hid (∀ v, Calls Tryz.prog 69 #[.int .u8 (c.toNat : Nat)] v fun e w' => e = .returned (.int .i64 (dgC c.toNat)) ∧ w' = v) := fun v => digit_any c.toNat (by omega) v
        obtain ⟨m, hm⟩ : ∃ m, count - i = m + 1 := ⟨count - i - 1, by omega⟩
        have hstep : dgs s 8 (count - i) (k + i) acc = if dgv c.toNat < 8 then dgs s 8 m (k + i + 1) (acc * 8 + dgv c.toNat) else none := by rw [hm, dgs, hbt]
        have hge := dgC_ge c.toNat 8 (by decide)
        have hpow : (16 : Nat) ^ i ≤ 16 ^ 7 := Nat.pow_le_pow_right (by decide) (by omega)
        have hacc7 : acc < 268435456 := Nat.lt_of_lt_of_le hacc hpow
        by_cases hd : dgv c.toNat < 8
        · have HN : Hid (dgs s 8 (count - (i + 1)) (k + (i + 1)) (acc * 8 + dgv c.toNat) = D) := by
            unfold Hid; rw [← HDi.out, hstep, if_pos hd, show count - (i + 1) = m by omega, show k + (i + 1) = k + i + 1 by omega]
          have hlt9 : dgv c.toNat < 99 := by omega
          have hdc := dgC_lt hlt9
          rw [hdc] at HC hge
          have hng : ¬ (8 : Int) ≤ (dgv c.toNat : Int) := by omega
          obtain ⟨d, hdd⟩ : ∃ d, dgv c.toNat = d := ⟨_, rfl⟩
          rw [hdd] at HN HC hng hd
          have hnew : acc * 8 + d < 16 ^ (i + 1) := by
            have h1 : acc * 8 ≤ acc * 16 := Nat.mul_le_mul_left _ (by decide)
            rw [Nat.pow_succ]
            omega
          clear hstep hge hdc hbt
          go_wp2_with (go_at_call 69; (with_reducible refine (HC.out _).mono ?_); rintro e w3 ⟨rfl, hw3⟩; have hw4 := hw3.symm; clear hw3; subst hw4)
          go_roundw
          case rel => exact ⟨i + 1, acc * 8 + d, by omega, by go_num, by go_num, HN.out, hnew, by first | trivial | rfl⟩
          case measure => simp [intOf]; omega
        · have HN : Hid (D = none) := by unfold Hid; rw [← HDi.out, hstep, if_neg hd]
          have hgd : (8 : Int) ≤ dgC c.toNat := hge.2 (by omega)
          obtain ⟨d, hdd⟩ : ∃ d, dgC c.toNat = d := ⟨_, rfl⟩
          rw [hdd] at HC hgd
          clear hstep hge hbt
          go_wp2_with (go_at_call 69; (with_reducible refine (HC.out _).mono ?_); rintro e w3 ⟨rfl, hw3⟩; have hw4 := hw3.symm; clear hw3; subst hw4)
          go_ret2
          exact ⟨by first | (rw [HN.out]; rfl) | rfl, rfl⟩
      · have hge : ¬ (i : Int) < (count : Int) := by omega
        have HN : Hid (D = some acc) := by unfold Hid; rw [← HDi.out, show count - i = 0 by omega, dgs]
        go_wp2
        go_ret2
        exact ⟨by first | (rw [HN.out]; rfl) | rfl, rfl⟩

set_option maxRecDepth 100000 in
set_option maxHeartbeats 2000000 in
/-- so many digits, which must all stand there: at most eight -/
theorem digitsAt_16 (s : ByteArray) (k count : Nat) (hs : s.size ≤ 4294967280) (hk : k ≤ s.size) (hc : count ≤ 8) (w : World) :
    Calls Tryz.prog 94 #[.string s, .int .i64 k, .int .i64 count, .int .i64 16] w fun e w' => e = .returned (.tuple #[.int .i64 (((dg2 s k count 16).getD 0 : Nat) : Int), .bool (dg2 s k count 16).isSome]) ∧ w' = w := by
  by_cases h0 : s.size < k + count
  · have E : Hid (dg2 s k count 16 = none) := by unfold Hid dg2; rw [if_pos h0]
    have h1 : (s.size : Int) - (k : Int) < (count : Int) := by omega
    go_enter Tryz.func94, Tryz.ntmps94
    go_wp2
    go_ret2
    exact ⟨by rw [E.out]; rfl, rfl⟩
  · have E : dg2 s k count 16 = dgs s 16 count k 0 := by unfold dg2; rw [if_neg h0]
    rw [E]
    clear E
    have h1 : ¬ (s.size : Int) - (k : Int) < (count : Int) := by omega
    obtain ⟨D, hD⟩ : ∃ D, dgs s 16 count k 0 = D := ⟨_, rfl⟩
    rw [hD]
    have HD : Hid (dgs s 16 count k 0 = D) := hD
    clear hD
    go_enter Tryz.func94, Tryz.ntmps94
    go_wp2
    go_loopw [10, 20] (fun sn si wr => ∃ (i acc : Nat), i ≤ count ∧ si = .int .i64 (i : Int) ∧ sn = .int .i64 (acc : Int) ∧ dgs s 16 (count - i) (k + i) acc = D ∧ acc < 16 ^ i ∧ wr = w) (fun _ si _ => count - (intOf si).toNat)
    case atStart => exact ⟨0, 0, Nat.zero_le _, rfl, rfl, HD.out, by decide, rfl⟩
    case round =>
      obtain ⟨i, acc, hi, rfl, rfl, hd, hacc, hw⟩ := hrel
      subst hw
      have HDi : Hid (dgs s 16 (count - i) (k + i) acc = D) := hd
      clear hd
      by_cases hlt : i < count
      · have hlt' : (i : Int) < (count : Int) := by omega
        have hki : k + i < s.size := by omega
        have hki' : (k : Int) + (i : Int) < (s.size : Int) := by omega
        obtain ⟨c, hcc⟩ : ∃ c, s[k + i]'hki = c := ⟨_, rfl⟩
        have hbt : bt s (k + i) = c.toNat := by rw [bt_in hki, hcc]
        have hc8 := c.toNat_lt
        have HC : Hid (∀ v, Calls Tryz.prog 69 #[.int .u8 (c.toNat : Nat)] v fun e w' => e = .returned (.int .i64 (dgC c.toNat)) ∧ w' = v) := fun v => digit_any c.toNat (by omega) v
        obtain ⟨m, hm⟩ : ∃ m, count - i = m + 1 := ⟨count - i - 1, by omega⟩
        have hstep : dgs s 16 (count - i) (k + i) acc = if dgv c.toNat < 16 then dgs s 16 m (k + i + 1) (acc * 16 + dgv c.toNat) else none := by rw [hm, dgs, hbt]
        have hge := dgC_ge c.toNat 16 (by decide)
        have hpow : (16 : Nat) ^ i ≤ 16 ^ 7 := Nat.pow_le_pow_right (by decide) (by omega)
        have hacc7 : acc < 268435456 := Nat.lt_of_lt_of_le hacc hpow
        by_cases hd : dgv c.toNat < 16
        · have HN : Hid (dgs s 16 (count - (i + 1)) (k + (i + 1)) (acc * 16 + dgv c.toNat) = D) := by
            unfold Hid; rw [← HDi.out, hstep, if_pos hd, show count - (i + 1) = m by omega, show k + (i + 1) = k + i + 1 by omega]
          have hlt9 : dgv c.toNat < 99 := by omega
          have hdc := dgC_lt hlt9
          rw [hdc] at HC hge
          have hng : ¬ (16 : Int) ≤ (dgv c.toNat : Int) := by omega
          obtain ⟨d, hdd⟩ : ∃ d, dgv c.toNat = d := ⟨_, rfl⟩
          rw [hdd] at HN HC hng hd
          have hnew : acc * 16 + d < 16 ^ (i + 1) := by
            have h1 : acc * 16 ≤ acc * 16 := Nat.mul_le_mul_left _ (by decide)
            rw [Nat.pow_succ]
            omega
          clear hstep hge hdc hbt
          go_wp2_with (go_at_call 69; (with_reducible refine (HC.out _).mono ?_); rintro e w3 ⟨rfl, hw3⟩; have hw4 := hw3.symm; clear hw3; subst hw4)
          go_roundw
          case rel => exact ⟨i + 1, acc * 16 + d, by omega, by go_num, by go_num, HN.out, hnew, by first | trivial | rfl⟩
          case measure => simp [intOf]; omega
        · have HN : Hid (D = none) := by unfold Hid; rw [← HDi.out, hstep, if_neg hd]
          have hgd : (16 : Int) ≤ dgC c.toNat := hge.2 (by omega)
          obtain ⟨d, hdd⟩ : ∃ d, dgC c.toNat = d := ⟨_, rfl⟩
          rw [hdd] at HC hgd
          clear hstep hge hbt
          go_wp2_with (go_at_call 69; (with_reducible refine (HC.out _).mono ?_); rintro e w3 ⟨rfl, hw3⟩; have hw4 := hw3.symm; clear hw3; subst hw4)
          go_ret2
          exact ⟨by first | (rw [HN.out]; rfl) | rfl, rfl⟩
      · have hge : ¬ (i : Int) < (count : Int) := by omega
        have HN : Hid (D = some acc) := by unfold Hid; rw [← HDi.out, show count - i = 0 by omega, dgs]
        go_wp2
        go_ret2
        exact ⟨by first | (rw [HN.out]; rfl) | rfl, rfl⟩

end Go.Proofs.YtmnbakalcpanlaaGreatDoor
