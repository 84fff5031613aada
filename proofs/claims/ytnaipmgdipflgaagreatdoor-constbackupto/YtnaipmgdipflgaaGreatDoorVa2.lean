import Derived.Test.YtnaipmgdipflgaaGreatDoorVa0
namespace Go.Proofs.YtnaipmgdipflgaaGreatDoor
open Go.ChangeShapes Go.WideShapes Go.ChangeAt Go.RowKit Go.Maps Go.WideMaps
set_option linter.unusedVariables false
set_option linter.unusedSimpArgs false

/-- a value and an error, as both tell them -/
def nVV : Option Nat → Value
  | some v => .tuple #[.int .i64 (v : Int), .int .i64 0]
  | none => .tuple #[.int .i64 0, .int .i64 80]
theorem quo_nat (d b : Nat) (hd : d ≤ 9223372036854775807) : ((9223372036854775807 : Int) - (d : Int)).tdiv (b : Int) = (((9223372036854775807 - d) / b : Nat) : Int) := by
  rw [Int.tdiv_eq_ediv_of_nonneg (by omega)]
  rw [show (9223372036854775807 : Int) - (d : Int) = ((9223372036854775807 - d : Nat) : Int) by omega]
  rfl
theorem step_le {acc b d : Nat} (h : ¬ (9223372036854775807 - d) / b < acc) (hb : 0 < b) (hd : d ≤ 9223372036854775807) : acc * b + d ≤ 9223372036854775807 := by
  have h1 : acc ≤ (9223372036854775807 - d) / b := by omega
  have h2 := Nat.mul_le_mul_right b h1
  have h3 := Nat.div_mul_le_self (9223372036854775807 - d) b
  omega
/-- the digits that numberValue goes through -/
theorem based_num (s : ByteArray) (hn : num s = true) (hs : s.size ≤ 4294967280) : ∃ (D : ByteArray) (b : Nat), 2 ≤ b ∧ b ≤ 16 ∧ D.size ≤ s.size ∧ Dgs D b 0 ∧ nvl D b 0 0 = nVl s ∧ ∀ w, Calls Tryz.prog 58 #[.string s] w fun e w' => e = .returned (.tuple #[.int .i64 (b : Int), .string D]) ∧ w' = w := by
  obtain ⟨b1, b2, b3, b4, b5, b6⟩ := num_facts hn
  unfold nVl
  unfold nbs nof at *
  by_cases hl : 1 < s.size ∧ bt s 0 = 48
  · rw [if_pos hl] at b1 b2
    rw [if_pos hl, if_pos hl] at b5
    rw [if_pos hl, if_pos hl]
    have hc : cof s ≤ s.size ∧ 2 ≤ cof s := by
      unfold cof
      split
      · rename_i h95
        have := bt_256.1 (show bt s 2 < 256 by omega)
        omega
      · omega
    have hz : (s.extract (cof s) s.size).size = s.size - cof s := by rw [ByteArray.size_extract]; omega
    refine ⟨s.extract (cof s) s.size, bsl (bt s 1), b1, b2, by omega, fun j _ hj => ?_, ?_, fun w => based_let s hs (by omega) hl.2 (b6 hl) w⟩
    · rw [bt_ex _ _ _ _ (Nat.le_refl _), if_pos (by omega)]
      exact b5 (cof s + j) (by omega) (by omega)
    · rw [nvl_ext s _ _ hc.1 s.size 0 0 (by omega), Nat.add_zero]
      unfold cof
      split
      · rename_i h95
        rw [nvl_line (k := 2) (bt_256.1 (by omega)) h95]
      · rfl
  · rw [if_neg hl] at b1 b2
    rw [if_neg hl, if_neg hl] at b5
    rw [if_neg hl, if_neg hl]
    exact ⟨s, 10, by omega, by omega, Nat.le_refl _, b5, rfl, fun w => based_ten s hs (by omega) (fun h => hl ⟨by have := h.1; omega, h.2.1⟩) w⟩
/-- .. and the reference's -/
theorem rbase_num (s : ByteArray) (hn : num s = true) (hs : s.size ≤ 4294967280) : ∃ (D : ByteArray) (b : Nat), 2 ≤ b ∧ b ≤ 16 ∧ D.size ≤ s.size ∧ Dgs D b 0 ∧ nvl D b 0 0 = nVl s ∧ ∀ w, Calls Tryz.prog 41 #[.string s] w fun e w' => e = .returned (.tuple #[.int .i64 (b : Int), .string D]) ∧ Below w.heap.size w w' := by
  obtain ⟨b1, b2, b3, b4, b5, b6⟩ := num_facts hn
  unfold nVl
  unfold nbs nof at *
  by_cases hl : 1 < s.size ∧ bt s 0 = 48
  · rw [if_pos hl] at b1 b2
    rw [if_pos hl, if_pos hl] at b5
    rw [if_pos hl, if_pos hl]
    have hz : (s.extract 2 s.size).size = s.size - 2 := by rw [ByteArray.size_extract]; omega
    refine ⟨s.extract 2 s.size, bsl (bt s 1), b1, b2, by omega, fun j _ hj => ?_, ?_, fun w => rbase_let s hs hl.1 hl.2 (b6 hl) w⟩
    · rw [bt_ex _ _ _ _ (Nat.le_refl _), if_pos (by omega)]
      exact b5 (2 + j) (by omega) (by omega)
    · rw [nvl_ext s _ _ (by omega) s.size 0 0 (by omega)]
  · rw [if_neg hl] at b1 b2
    rw [if_neg hl, if_neg hl] at b5
    rw [if_neg hl, if_neg hl]
    exact ⟨s, 10, by omega, by omega, Nat.le_refl _, b5, rfl, fun w => rbase_ten s hs hl w⟩

set_option maxRecDepth 1000000 in
set_option maxHeartbeats 8000000 in
theorem numberValue_any (s : ByteArray) (hn : num s = true) (hs : s.size ≤ 4294967280) (w : World) :
    Calls Tryz.prog 36 #[.string s] w fun e w' => e = .returned (nVV (nVl s)) ∧ Below w.heap.size w w' := by
  obtain ⟨D, b, b1, b2, bz, hD, hR, hcall⟩ := based_num s hn hs
  have HBD : Hid (∀ w, Calls Tryz.prog 58 #[.string s] w fun e w' => e = .returned (.tuple #[.int .i64 (b : Int), .string D]) ∧ w' = w) := hcall
  obtain ⟨R, hRD⟩ : ∃ R, nVl s = R := ⟨_, rfl⟩
  rw [hRD] at hR ⊢
  have HR : Hid (nvl D b 0 0 = R) := hR
  have HD : Hid (Dgs D b 0) := hD
  have hDz : D.size ≤ 4294967280 := by omega
  have hb0 : ¬ (b : Int) = 0 := by omega
  have hb0' : ((b : Int) == 0) = false := by rw [beq_eq_false_iff_ne]; omega
  clear hcall hRD hR hD hn
  go_enter Tryz.func36, Tryz.ntmps36
  go_wp2_with (go_at_call 58; (with_reducible refine (HBD.out _).mono ?_); rintro e w3 ⟨rfl, hw3⟩; obtain rfl := hw3.symm)
  go_loopw [6, 16] (fun sn si wr => ∃ (i acc : Nat), i ≤ D.size ∧ si = .int .i64 (i : Int) ∧ sn = .int .i64 (acc : Int) ∧ acc ≤ 9223372036854775807 ∧ nvl D b i acc = R ∧ wr = w) (fun _ si _ => D.size - (intOf si).toNat)
  case atStart => exact ⟨0, 0, Nat.zero_le _, rfl, rfl, by omega, HR.out, by first | rfl | trivial⟩
  case round =>
    obtain ⟨i, acc, hi, rfl, rfl, hacc, hv, rfl⟩ := hrel
    have HV : Hid (nvl D b i acc = R) := hv
    clear hv
    by_cases hlt : i < D.size
    · have hlt' : (i : Int) < (D.size : Int) := by omega
      have hbt := bt_in hlt
      obtain ⟨c, hc⟩ : ∃ c, (D[i]'hlt).toNat = c := ⟨_, rfl⟩
      have hc256 : c < 256 := by rw [← hc]; exact (D[i]'hlt).toNat_lt
      rw [hc] at hbt
      by_cases h95 : c = 95
      · have HN : Hid (nvl D b (i + 1) acc = R) := by unfold Hid; rw [← HV.out, nvl_line hlt (by rw [hbt]; exact h95)]
        subst h95
        clear hbt
        go_wp2
        go_roundw
        case rel => exact ⟨i + 1, acc, by omega, by go_num, rfl, hacc, HN.out, by first | rfl | trivial⟩
        case measure => simp [intOf]; omega
      · have h95' : ((c : Int) == 95) = false := by rw [beq_eq_false_iff_ne]; omega
        have hdb : dgv c < b := by rcases HD.out i (Nat.zero_le _) hlt with h | h; (· rw [hbt] at h; exact absurd h h95); (· rw [hbt] at h; exact h)
        have HDG0 := digit_any c hc256
        rw [dgC_lt (by omega)] at HDG0
        have hst1 := fun hg => nvl_big (b := b) (acc := acc) hlt (by rw [hbt]; exact h95) hg
        have hst2 := fun hg => nvl_on (b := b) (acc := acc) hlt (by rw [hbt]; exact h95) hg
        rw [hbt] at hst1 hst2
        obtain ⟨d, hd⟩ : ∃ d, dgv c = d := ⟨_, rfl⟩
        rw [hd] at HDG0 hdb hst1 hst2
        have HDG : Hid (∀ v, Calls Tryz.prog 59 #[.int .u8 (c : Int)] v fun e w' => e = .returned (.int .i64 (d : Int)) ∧ w' = v) := HDG0
        have hq := quo_nat d b (by omega)
        by_cases hg : (9223372036854775807 - d) / b < acc
        · have hR : Hid (none = R) := by unfold Hid; rw [← HV.out]; exact (hst1 hg).symm
          obtain ⟨q, hqd⟩ : ∃ q, (9223372036854775807 - d) / b = q := ⟨_, rfl⟩
          rw [hqd] at hq hg
          have hg' : (acc : Int) > (q : Int) := by omega
          have hql : q ≤ 9223372036854775807 := by omega
          clear hst1 hst2 HDG0 hd hbt hqd
          go_wp2_with (go_at_call 59; (with_reducible refine (HDG.out _).mono ?_); rintro e w4 ⟨rfl, hw4⟩; obtain rfl := hw4.symm)
          go_ret2
          exact ⟨by rw [← hR.out]; rfl, Below.refl _ _⟩
        · have HN : Hid (nvl D b (i + 1) (acc * b + d) = R) := by unfold Hid; rw [← HV.out]; exact (hst2 hg).symm
          have hsl := step_le hg (by omega) (by omega)
          have hql : (9223372036854775807 - d) / b ≤ 9223372036854775807 := Nat.le_trans (Nat.div_le_self _ _) (by omega)
          obtain ⟨q, hqd⟩ : ∃ q, (9223372036854775807 - d) / b = q := ⟨_, rfl⟩
          rw [hqd] at hq hg hql
          have hg' : ¬ (acc : Int) > (q : Int) := by omega
          obtain ⟨P, hP⟩ : ∃ P, acc * b = P := ⟨_, rfl⟩
          have hP' : (acc : Int) * (b : Int) = (P : Int) := by rw [← hP]; exact (Int.natCast_mul _ _).symm
          rw [hP] at hsl HN
          clear hst1 hst2 HDG0 hd hbt hqd hP
          go_wp2_with (go_at_call 59; (with_reducible refine (HDG.out _).mono ?_); rintro e w4 ⟨rfl, hw4⟩; obtain rfl := hw4.symm)
          go_roundw
          case rel => exact ⟨i + 1, P + d, by omega, by go_num, by go_num, hsl, HN.out, by first | rfl | trivial⟩
          case measure => simp [intOf]; omega
    · have hge : ¬ (i : Int) < (D.size : Int) := by omega
      have hR : Hid (some acc = R) := by unfold Hid; rw [← HV.out]; exact (nvl_end hlt).symm
      go_wp2
      go_ret2
      exact ⟨by rw [← hR.out]; rfl, Below.refl _ _⟩
end Go.Proofs.YtnaipmgdipflgaaGreatDoor

namespace Go.Proofs.YtnaipmgdipflgaaGreatDoor
open Go.ChangeShapes Go.WideShapes Go.ChangeAt Go.RowKit Go.Maps Go.WideMaps
set_option linter.unusedVariables false
set_option linter.unusedSimpArgs false

/-- Number's answer -/
def nmV (s : ByteArray) : Value := if kOf s = some 3 then nVV (nVl s) else .tuple #[.int .i64 0, .int .i64 21]
/-- the reference's Kind, as a number: 0 where there is none -/
def kNo (s : ByteArray) : Nat := match kOf s with | some k => k | none => 0
theorem kNo_is (s : ByteArray) (n : Nat) (hn : n ≠ 0) : kNo s = n ↔ kOf s = some n := by
  unfold kNo
  cases h : kOf s with
  | none => simp; omega
  | some k => simp
theorem rKind_no (s : ByteArray) (hs : s.size ≤ 4294967280) (w : World) (hT : Lt w) :
    Calls Tryz.prog 17 #[.string s] w fun e w' => (∃ z, e = .returned (.tuple #[.int .i64 (kNo s : Int), .bool z])) ∧ Below w.heap.size w w' := by
  refine (rKind_any s hs w hT).mono fun e w' h => ⟨?_, h.2⟩
  rw [h.1]
  unfold kNo
  cases kOf s with
  | none => exact ⟨false, rfl⟩
  | some k => exact ⟨true, rfl⟩
set_option maxRecDepth 1000000 in
set_option maxHeartbeats 8000000 in
theorem Number_any (s : ByteArray) (hs : s.size ≤ 4294967280) (w : World) (hS : Spl w) (hT : Lt w) (hM : MaxL w) :
    Calls Tryz.prog 14 #[.string s] w fun e w' => e = .returned (nmV s) ∧ Below w.heap.size w w' := by
  have HI0 := isOf_any s 3 (by omega) hs w hS hT hM
  unfold nmV
  unfold kIs at HI0
  by_cases hk : kOf s = some 3
  · rw [if_pos hk]
    rw [decide_eq_true hk] at HI0
    have HI : Hid (Calls Tryz.prog 35 #[.string s, .int .u8 3] w fun e w' => e = .returned (.bool true) ∧ Below w.heap.size w w') := HI0
    have HN0 : ∀ v, _ := fun v => numberValue_any s (kOf_num hk) hs v
    cases hv : nVl s with
    | none =>
      rw [hv] at HN0
      have HN : Hid (∀ v, Calls Tryz.prog 36 #[.string s] v fun e w' => e = .returned (.tuple #[.int .i64 0, .int .i64 80]) ∧ Below v.heap.size v w') := HN0
      clear HN0 HI0 hv hk hS hT hM
      go_enter Tryz.func14, Tryz.ntmps14
      go_wp2_with (first
        | (go_at_call 35; (with_reducible refine HI.out.mono ?_); rintro e w3 ⟨rfl, hb3⟩; have HB3 : Hid (Below w.heap.size w w3) := hb3; clear hb3)
        | (go_at_call 36; (with_reducible refine (HN.out _).mono ?_); rintro e w4 ⟨rfl, hb4⟩; have HB4 : Hid (Below w.heap.size w w4) := HB3.out.trans (hb4.mono HB3.out.size); clear hb4))
      go_ret2
      exact ⟨rfl, HB4.out⟩
    | some x =>
      rw [hv] at HN0
      have HN : Hid (∀ v, Calls Tryz.prog 36 #[.string s] v fun e w' => e = .returned (.tuple #[.int .i64 (x : Int), .int .i64 0]) ∧ Below v.heap.size v w') := HN0
      clear HN0 HI0 hv hk hS hT hM
      go_enter Tryz.func14, Tryz.ntmps14
      go_wp2_with (first
        | (go_at_call 35; (with_reducible refine HI.out.mono ?_); rintro e w3 ⟨rfl, hb3⟩; have HB3 : Hid (Below w.heap.size w w3) := hb3; clear hb3)
        | (go_at_call 36; (with_reducible refine (HN.out _).mono ?_); rintro e w4 ⟨rfl, hb4⟩; have HB4 : Hid (Below w.heap.size w w4) := HB3.out.trans (hb4.mono HB3.out.size); clear hb4))
      go_ret2
      exact ⟨rfl, HB4.out⟩
  · rw [if_neg hk]
    rw [decide_eq_false hk] at HI0
    have HI : Hid (Calls Tryz.prog 35 #[.string s, .int .u8 3] w fun e w' => e = .returned (.bool false) ∧ Below w.heap.size w w') := HI0
    clear HI0 hk hS hT hM
    go_enter Tryz.func14, Tryz.ntmps14
    go_wp2_with (go_at_call 35; (with_reducible refine HI.out.mono ?_); rintro e w3 ⟨rfl, hb3⟩; have HB3 : Hid (Below w.heap.size w w3) := hb3; clear hb3)
    go_ret2
    exact ⟨rfl, HB3.out⟩

set_option maxRecDepth 1000000 in
set_option maxHeartbeats 8000000 in
theorem rNumberOf_any (s : ByteArray) (hs : s.size ≤ 4294967280) (w : World) (hT : Lt w) :
    Calls Tryz.prog 19 #[.string s] w fun e w' => e = .returned (nmV s) ∧ Below w.heap.size w w' := by
  have HK0 := rKind_no s hs w hT
  unfold nmV
  obtain ⟨K, hK⟩ : ∃ K, kNo s = K := ⟨_, rfl⟩
  rw [hK] at HK0
  have HK : Hid (Calls Tryz.prog 17 #[.string s] w fun e w' => (∃ z, e = .returned (.tuple #[.int .i64 (K : Int), .bool z])) ∧ Below w.heap.size w w') := HK0
  by_cases hk : kOf s = some 3
  · rw [if_pos hk]
    have hK3 : K = 3 := by rw [← hK]; exact (kNo_is s 3 (by omega)).2 hk
    subst hK3
    obtain ⟨D, b, b1, b2, bz, hD, hR, hcall⟩ := rbase_num s (kOf_num hk) hs
    have HBD : Hid (∀ w, Calls Tryz.prog 41 #[.string s] w fun e w' => e = .returned (.tuple #[.int .i64 (b : Int), .string D]) ∧ Below w.heap.size w w') := hcall
    obtain ⟨R, hRD⟩ : ∃ R, nVl s = R := ⟨_, rfl⟩
    rw [hRD] at hR ⊢
    have HR : Hid (nvl D b 0 0 = R) := hR
    have HD : Hid (Dgs D b 0) := hD
    have hDz : D.size ≤ 4294967280 := by omega
    have hb0 : ¬ (b : Int) = 0 := by omega
    have hb0' : ((b : Int) == 0) = false := by rw [beq_eq_false_iff_ne]; omega
    clear hcall hRD hR hD hk hK HK0 hT
    go_enter Tryz.func19, Tryz.ntmps19
    go_wp2_with (first
      | (go_at_call 17; (with_reducible refine HK.out.mono ?_); rintro e w3 ⟨⟨z, rfl⟩, hb3⟩; have HB3 : Hid (Below w.heap.size w w3) := hb3; clear hb3)
      | (go_at_call 41; (with_reducible refine (HBD.out _).mono ?_); rintro e w4 ⟨rfl, hb4⟩; have HB4 : Hid (Below w.heap.size w w4) := HB3.out.trans (hb4.mono HB3.out.size); clear hb4))
    go_loopw [8, 9] (fun sn si wr => ∃ (i acc : Nat), i ≤ D.size ∧ si = .int .i64 (i : Int) ∧ sn = .int .i64 (acc : Int) ∧ acc ≤ 9223372036854775807 ∧ nvl D b i acc = R ∧ wr = w4) (fun _ si _ => D.size - (intOf si).toNat)
    case atStart => exact ⟨0, 0, Nat.zero_le _, rfl, rfl, by omega, HR.out, by first | rfl | trivial⟩
    case round =>
      obtain ⟨i, acc, hi, rfl, rfl, hacc, hv, rfl⟩ := hrel
      have HV : Hid (nvl D b i acc = R) := hv
      clear hv
      by_cases hlt : i < D.size
      · have hlt' : (i : Int) < (D.size : Int) := by omega
        have hbt := bt_in hlt
        obtain ⟨c, hc⟩ : ∃ c, (D[i]'hlt).toNat = c := ⟨_, rfl⟩
        have hc256 : c < 256 := by rw [← hc]; exact (D[i]'hlt).toNat_lt
        rw [hc] at hbt
        by_cases h95 : c = 95
        · have HN : Hid (nvl D b (i + 1) acc = R) := by unfold Hid; rw [← HV.out, nvl_line hlt (by rw [hbt]; exact h95)]
          subst h95
          clear hbt
          go_wp2
          go_roundw
          case rel => exact ⟨i + 1, acc, by omega, by go_num, rfl, hacc, HN.out, by first | rfl | trivial⟩
          case measure => simp [intOf]; omega
        · have h95' : ((c : Int) == 95) = false := by rw [beq_eq_false_iff_ne]; omega
          have hdb : dgv c < b := by rcases HD.out i (Nat.zero_le _) hlt with h | h; (· rw [hbt] at h; exact absurd h h95); (· rw [hbt] at h; exact h)
          have HDG0 := rdigit_any c hc256
          have hst1 := fun hg => nvl_big (b := b) (acc := acc) hlt (by rw [hbt]; exact h95) hg
          have hst2 := fun hg => nvl_on (b := b) (acc := acc) hlt (by rw [hbt]; exact h95) hg
          rw [hbt] at hst1 hst2
          obtain ⟨d, hd⟩ : ∃ d, dgv c = d := ⟨_, rfl⟩
          rw [hd] at HDG0 hdb hst1 hst2
          have HDG : Hid (∀ v, Calls Tryz.prog 42 #[.int .u8 (c : Int)] v fun e w' => e = .returned (.int .i64 (d : Int)) ∧ w' = v) := HDG0
          have hq := quo_nat d b (by omega)
          by_cases hg : (9223372036854775807 - d) / b < acc
          · have hR : Hid (none = R) := by unfold Hid; rw [← HV.out]; exact (hst1 hg).symm
            obtain ⟨q, hqd⟩ : ∃ q, (9223372036854775807 - d) / b = q := ⟨_, rfl⟩
            rw [hqd] at hq hg
            have hg' : (acc : Int) > (q : Int) := by omega
            have hql : q ≤ 9223372036854775807 := by omega
            clear hst1 hst2 HDG0 hd hbt hqd
            go_wp2_with (go_at_call 42; (with_reducible refine (HDG.out _).mono ?_); rintro e w5 ⟨rfl, hw5⟩; obtain rfl := hw5.symm)
            go_ret2
            exact ⟨by rw [← hR.out]; rfl, HB4.out⟩
          · have HN : Hid (nvl D b (i + 1) (acc * b + d) = R) := by unfold Hid; rw [← HV.out]; exact (hst2 hg).symm
            have hsl := step_le hg (by omega) (by omega)
            have hql : (9223372036854775807 - d) / b ≤ 9223372036854775807 := Nat.le_trans (Nat.div_le_self _ _) (by omega)
            obtain ⟨q, hqd⟩ : ∃ q, (9223372036854775807 - d) / b = q := ⟨_, rfl⟩
            rw [hqd] at hq hg hql
            have hg' : ¬ (acc : Int) > (q : Int) := by omega
            obtain ⟨P, hP⟩ : ∃ P, acc * b = P := ⟨_, rfl⟩
            have hP' : (acc : Int) * (b : Int) = (P : Int) := by rw [← hP]; exact (Int.natCast_mul _ _).symm
            rw [hP] at hsl HN
            clear hst1 hst2 HDG0 hd hbt hqd hP
            go_wp2_with (go_at_call 42; (with_reducible refine (HDG.out _).mono ?_); rintro e w5 ⟨rfl, hw5⟩; obtain rfl := hw5.symm)
            go_roundw
            case rel => exact ⟨i + 1, P + d, by omega, by go_num, by go_num, hsl, HN.out, by first | rfl | trivial⟩
            case measure => simp [intOf]; omega
      · have hge : ¬ (i : Int) < (D.size : Int) := by omega
        have hR : Hid (some acc = R) := by unfold Hid; rw [← HV.out]; exact (nvl_end hlt).symm
        go_wp2
        go_ret2
        exact ⟨by rw [← hR.out]; rfl, HB4.out⟩
  · rw [if_neg hk]
    have hK3 : ((K : Int) != 3) = true := by
      rw [bne_iff_ne]
      intro e
      exact hk ((kNo_is s 3 (by omega)).1 (by omega))
    clear hk hK HK0 hT
    go_enter Tryz.func19, Tryz.ntmps19
    go_wp2_with (go_at_call 17; (with_reducible refine HK.out.mono ?_); rintro e w3 ⟨⟨z, rfl⟩, hb3⟩; have HB3 : Hid (Below w.heap.size w w3) := hb3; clear hb3)
    go_ret2
    exact ⟨rfl, HB3.out⟩
end Go.Proofs.YtnaipmgdipflgaaGreatDoor
