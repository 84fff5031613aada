import Derived.Test.YtnaipmgdipflgaaGreatDoorRl6
import Derived.Test.YtnaipmgdipflgaaGreatDoorRl1
namespace Go.Proofs.YtnaipmgdipflgaaGreatDoor
open Go.ChangeShapes Go.WideShapes Go.ChangeAt Go.RowKit
set_option linter.unusedVariables false
set_option linter.unusedSimpArgs false

theorem nmL_end {r : ByteArray} {b off k : Nat} (h : ¬ k < r.size) : nmL r b off k = true := by rw [nmL, dif_neg h]
theorem nmL_u {r : ByteArray} {b off k : Nat} (h : k < r.size) (h95 : bt r k = 95) : nmL r b off k = if (k = off ∧ b = 10) ∨ r.size ≤ k + 1 ∨ bt r (k + 1) = 95 then false else nmL r b off (k + 1) := by rw [nmL, dif_pos h, if_pos h95]
theorem nmL_d {r : ByteArray} {b off k : Nat} (h : k < r.size) (h95 : bt r k ≠ 95) : nmL r b off k = if b ≤ dgv (bt r k) then false else nmL r b off (k + 1) := by rw [nmL, dif_pos h, if_neg h95]

set_option maxRecDepth 1000000 in
set_option maxHeartbeats 8000000 in
theorem rDigits_any (r : ByteArray) (hr : r.size ≤ 4294967280) (w : World) :
    Calls Tryz.prog 100 #[.string r] w fun e w' => e = .returned (.bool (num r)) ∧ Below w.heap.size w w' := by
  by_cases h48 : 1 < r.size ∧ bt r 0 = 48
  · by_cases hb : bsl (bt r 1) = 0
    · have hnum : num r = false := by unfold num; rw [if_pos h48, if_pos (.inl hb)]
      rw [hnum]
      have HBA : Hid (Calls Tryz.prog 41 #[.string r] w fun e w' => e = .returned (.tuple #[.int .i64 0, .string r]) ∧ Below w.heap.size w w') := rbase_none r hr h48.1 h48.2 hb w
      go_enter Tryz.func100, Tryz.ntmps100
      go_wp2_with (go_at_call 41; (with_reducible refine HBA.out.mono ?_); rintro e w3 ⟨rfl, hb3⟩; have HB3 : Hid (Below w.heap.size w w3) := hb3; clear hb3)
      go_ret
      exact ⟨rfl, HB3.out⟩
    · have hnum : num r = if r.size ≤ 2 then false else nmL r (bsl (bt r 1)) 2 2 := by unfold num; rw [if_pos h48]; by_cases h : r.size ≤ 2 <;> simp [h, hb]
      rw [hnum]
      have hsz : (r.extract 2 r.size).size = r.size - 2 := by rw [ByteArray.size_extract]; omega
      have HBA : Hid (Calls Tryz.prog 41 #[.string r] w fun e w' => e = .returned (.tuple #[.int .i64 (bsl (bt r 1) : Nat), .string (r.extract 2 r.size)]) ∧ Below w.heap.size w w') := rbase_let r hr h48.1 h48.2 hb w
      have HBT : Hid (∀ i, bt (r.extract 2 r.size) i = bt r (2 + i)) := fun i => bt_ext r 2 i (by omega)
      have hB10 := (bsl_le (bt r 1)).2
      have hB16 := (bsl_le (bt r 1)).1
      have HSZ : Hid ((r.extract 2 r.size).size + 2 = r.size) := by unfold Hid; omega
      obtain ⟨C, hC⟩ : ∃ C, nmL r (bsl (bt r 1)) 2 2 = C := ⟨_, rfl⟩
      rw [hC]
      obtain ⟨B, hBB⟩ : ∃ B, bsl (bt r 1) = B := ⟨_, rfl⟩
      obtain ⟨D, hDD⟩ : ∃ D, r.extract 2 r.size = D := ⟨_, rfl⟩
      rw [hBB] at HBA hB10 hB16 hC hb
      rw [hDD] at HBA HBT HSZ hsz
      have HC : Hid (nmL r B 2 (2 + 0) = C) := hC
      have hBz : ((B : Int) == 0) = false := by simp; omega
      have hBt : ((B : Int) == 10) = false := by simp; omega
      clear hC hBB hDD hnum hsz
      by_cases h2 : r.size ≤ 2
      · rw [if_pos h2]
        have hDz : ((D.size : Int) == 0) = true := by have := HSZ.out; rw [beq_iff_eq]; omega
        go_enter Tryz.func100, Tryz.ntmps100
        go_wp2_with (go_at_call 41; (with_reducible refine HBA.out.mono ?_); rintro e w3 ⟨rfl, hb3⟩; have HB3 : Hid (Below w.heap.size w w3) := hb3; clear hb3)
        go_ret
        exact ⟨rfl, HB3.out⟩
      · rw [if_neg h2]
        have hDz : ((D.size : Int) == 0) = false := by have := HSZ.out; rw [beq_eq_false_iff_ne]; omega
        go_enter Tryz.func100, Tryz.ntmps100
        go_wp2_with (go_at_call 41; (with_reducible refine HBA.out.mono ?_); rintro e w3 ⟨rfl, hb3⟩; have HB3 : Hid (Below w.heap.size w w3) := hb3; clear hb3)
        go_loopw [5] (fun si wr => ∃ i : Nat, i ≤ D.size ∧ si = .int .i64 (i : Int) ∧ nmL r B 2 (2 + i) = C ∧ wr = w3) (fun si _ => D.size - (intOf si).toNat)
        case atStart => exact ⟨0, Nat.zero_le _, rfl, HC.out, by first | rfl | trivial⟩
        case round =>
          obtain ⟨i, hi, rfl, hc, rfl⟩ := hrel
          have HCi : Hid (nmL r B 2 (2 + i) = C) := hc
          clear hc HC
          by_cases hlt : i < D.size
          · have hlt' : (i : Int) < (D.size : Int) := by omega
            obtain ⟨n, hn⟩ : ∃ n, (D[i]'hlt).toNat = n := ⟨_, rfl⟩
            have hn256 : n < 256 := by rw [← hn]; exact (D[i]'hlt).toNat_lt
            have hbt : bt r (2 + i) = n := by rw [← HBT.out i, bt_in hlt, hn]
            have hrk : 2 + i < r.size := by have := HSZ.out; omega
            by_cases h95 : n = 95
            · subst h95
              have hst := nmL_u (b := B) (off := 2) hrk hbt
              rw [HCi.out] at hst
              rcases (show ((i : Int) == 0) = true ∨ ((i : Int) == 0) = false by cases ((i : Int) == 0) <;> simp) with hf' | hf'
              all_goals
                by_cases hlast : i + 1 < D.size
                · have hlast' : ¬ (i : Int) + 1 ≥ (D.size : Int) := by omega
                  have hlast2 : (i : Int) + 1 < (D.size : Int) := by omega
                  obtain ⟨m, hm⟩ : ∃ m, (D[i + 1]'hlast).toNat = m := ⟨_, rfl⟩
                  have hbm : bt r (2 + i + 1) = m := by rw [Nat.add_assoc, ← HBT.out (i + 1), bt_in hlast, hm]
                  by_cases hm95 : m = 95
                  · subst hm95
                    have hcf : C = false := by rw [hst, if_pos (.inr (.inr hbm))]
                    subst hcf
                    clear hst
                    go_wp2
                    go_ret
                    exact ⟨rfl, HB3.out⟩
                  · have hmq : ((m : Int) == 95) = false := by simp; omega
                    have HN : Hid (nmL r B 2 (2 + (i + 1)) = C) := by
                      unfold Hid
                      rw [if_neg (by have := HSZ.out; omega)] at hst
                      rw [← Nat.add_assoc]; exact hst.symm
                    clear hst hbm
                    go_wp2
                    go_roundw
                    case rel => exact ⟨i + 1, by omega, by go_num, HN.out, by first | rfl | trivial⟩
                    case measure => simp [intOf]; omega
                · have hlast' : (i : Int) + 1 ≥ (D.size : Int) := by omega
                  have hcf : C = false := by rw [hst, if_pos (.inr (.inl (by have := HSZ.out; omega)))]
                  subst hcf
                  clear hst
                  go_wp2
                  go_ret
                  exact ⟨rfl, HB3.out⟩
            · have hq95 : ((n : Int) == 95) = false := by simp; omega
              have hst := nmL_d (b := B) (off := 2) hrk (by rw [hbt]; exact h95)
              rw [HCi.out, hbt] at hst
              have HDG : Hid (∀ v, Calls Tryz.prog 42 #[.int .u8 (n : Int)] v fun e w' => e = .returned (.int .i64 (dgv n : Nat)) ∧ w' = v) := fun v => rdigit_any n hn256 v
              have hd99 := dgv_le n
              obtain ⟨d, hdd⟩ : ∃ d, dgv n = d := ⟨_, rfl⟩
              rw [hdd] at HDG hst hd99
              by_cases hd : B ≤ d
              · have hd' : (d : Int) ≥ (B : Int) := by omega
                have hcf : C = false := by rw [hst, if_pos hd]
                subst hcf
                clear hst
                go_wp2_with (go_at_call 42; (with_reducible refine (HDG.out _).mono ?_); rintro e w4 ⟨rfl, hw4⟩; have hw5 := hw4.symm; clear hw4; subst hw5)
                go_ret
                exact ⟨rfl, HB3.out⟩
              · have hd' : ¬ (d : Int) ≥ (B : Int) := by omega
                have HN : Hid (nmL r B 2 (2 + (i + 1)) = C) := by
                  unfold Hid
                  rw [if_neg hd] at hst
                  rw [← Nat.add_assoc]; exact hst.symm
                clear hst
                go_wp2_with (go_at_call 42; (with_reducible refine (HDG.out _).mono ?_); rintro e w4 ⟨rfl, hw4⟩; have hw5 := hw4.symm; clear hw4; subst hw5)
                go_roundw
                case rel => exact ⟨i + 1, by omega, by go_num, HN.out, by first | rfl | trivial⟩
                case measure => simp [intOf]; omega
          · have hge : ¬ (i : Int) < (D.size : Int) := by omega
            have hcf : C = true := by rw [← HCi.out, nmL_end (by have := HSZ.out; omega)]
            subst hcf
            go_wp2
            go_ret
            exact ⟨rfl, HB3.out⟩
  · have HBA : Hid (Calls Tryz.prog 41 #[.string r] w fun e w' => e = .returned (.tuple #[.int .i64 10, .string r]) ∧ Below w.heap.size w w') := rbase_ten r hr h48 w
    have hnum : num r = if r.size = 0 then false else nmL r 10 0 0 := by unfold num; rw [if_neg h48]
    rw [hnum]
    have HBT : Hid (∀ i, bt r i = bt r (0 + i)) := fun i => by rw [Nat.zero_add]
    have HSZ : Hid (r.size + 0 = r.size) := rfl
    obtain ⟨C, hC⟩ : ∃ C, nmL r 10 0 0 = C := ⟨_, rfl⟩
    rw [hC]
    have HC : Hid (nmL r 10 0 (0 + 0) = C) := hC
    clear hC hnum
    by_cases h2 : r.size = 0
    · rw [if_pos h2]
      have hDz : ((r.size : Int) == 0) = true := by rw [beq_iff_eq]; omega
      go_enter Tryz.func100, Tryz.ntmps100
      go_wp2_with (go_at_call 41; (with_reducible refine HBA.out.mono ?_); rintro e w3 ⟨rfl, hb3⟩; have HB3 : Hid (Below w.heap.size w w3) := hb3; clear hb3)
      go_ret
      exact ⟨rfl, HB3.out⟩
    · rw [if_neg h2]
      have hDz : ((r.size : Int) == 0) = false := by rw [beq_eq_false_iff_ne]; omega
      go_enter Tryz.func100, Tryz.ntmps100
      go_wp2_with (go_at_call 41; (with_reducible refine HBA.out.mono ?_); rintro e w3 ⟨rfl, hb3⟩; have HB3 : Hid (Below w.heap.size w w3) := hb3; clear hb3)
      go_loopw [5] (fun si wr => ∃ i : Nat, i ≤ r.size ∧ si = .int .i64 (i : Int) ∧ nmL r 10 0 (0 + i) = C ∧ wr = w3) (fun si _ => r.size - (intOf si).toNat)
      case atStart => exact ⟨0, Nat.zero_le _, rfl, HC.out, by first | rfl | trivial⟩
      case round =>
        obtain ⟨i, hi, rfl, hc, rfl⟩ := hrel
        have HCi : Hid (nmL r 10 0 (0 + i) = C) := hc
        clear hc HC
        by_cases hlt : i < r.size
        · have hlt' : (i : Int) < (r.size : Int) := by omega
          obtain ⟨n, hn⟩ : ∃ n, (r[i]'hlt).toNat = n := ⟨_, rfl⟩
          have hn256 : n < 256 := by rw [← hn]; exact (r[i]'hlt).toNat_lt
          have hbt : bt r (0 + i) = n := by rw [← HBT.out i, bt_in hlt, hn]
          have hrk : 0 + i < r.size := by have := HSZ.out; omega
          by_cases h95 : n = 95
          · subst h95
            have hst := nmL_u (b := 10) (off := 0) hrk hbt
            rw [HCi.out] at hst
            by_cases hfirst : i = 0
            · subst hfirst
              have hcf : C = false := by rw [hst, if_pos (.inl (by omega))]
              subst hcf
              clear hst
              go_wp2
              go_ret
              exact ⟨rfl, HB3.out⟩
            · have hf' : ((i : Int) == 0) = false := by simp; omega
              by_cases hlast : i + 1 < r.size
              · have hlast' : ¬ (i : Int) + 1 ≥ (r.size : Int) := by omega
                have hlast2 : (i : Int) + 1 < (r.size : Int) := by omega
                obtain ⟨m, hm⟩ : ∃ m, (r[i + 1]'hlast).toNat = m := ⟨_, rfl⟩
                have hbm : bt r (0 + i + 1) = m := by rw [Nat.add_assoc, ← HBT.out (i + 1), bt_in hlast, hm]
                by_cases hm95 : m = 95
                · subst hm95
                  have hcf : C = false := by rw [hst, if_pos (.inr (.inr hbm))]
                  subst hcf
                  clear hst
                  go_wp2
                  go_ret
                  exact ⟨rfl, HB3.out⟩
                · have hmq : ((m : Int) == 95) = false := by simp; omega
                  have HN : Hid (nmL r 10 0 (0 + (i + 1)) = C) := by
                    unfold Hid
                    rw [if_neg (by have := HSZ.out; omega)] at hst
                    rw [← Nat.add_assoc]; exact hst.symm
                  clear hst hbm
                  go_wp2
                  go_roundw
                  case rel => exact ⟨i + 1, by omega, by go_num, HN.out, by first | rfl | trivial⟩
                  case measure => simp [intOf]; omega
              · have hlast' : (i : Int) + 1 ≥ (r.size : Int) := by omega
                have hcf : C = false := by rw [hst, if_pos (.inr (.inl (by have := HSZ.out; omega)))]
                subst hcf
                clear hst
                go_wp2
                go_ret
                exact ⟨rfl, HB3.out⟩
          · have hq95 : ((n : Int) == 95) = false := by simp; omega
            have hst := nmL_d (b := 10) (off := 0) hrk (by rw [hbt]; exact h95)
            rw [HCi.out, hbt] at hst
            have HDG : Hid (∀ v, Calls Tryz.prog 42 #[.int .u8 (n : Int)] v fun e w' => e = .returned (.int .i64 (dgv n : Nat)) ∧ w' = v) := fun v => rdigit_any n hn256 v
            have hd99 := dgv_le n
            obtain ⟨d, hdd⟩ : ∃ d, dgv n = d := ⟨_, rfl⟩
            rw [hdd] at HDG hst hd99
            by_cases hd : 10 ≤ d
            · have hd' : (d : Int) ≥ 10 := by omega
              have hcf : C = false := by rw [hst, if_pos hd]
              subst hcf
              clear hst
              go_wp2_with (go_at_call 42; (with_reducible refine (HDG.out _).mono ?_); rintro e w4 ⟨rfl, hw4⟩; have hw5 := hw4.symm; clear hw4; subst hw5)
              go_ret
              exact ⟨rfl, HB3.out⟩
            · have hd' : ¬ (d : Int) ≥ 10 := by omega
              have HN : Hid (nmL r 10 0 (0 + (i + 1)) = C) := by
                unfold Hid
                rw [if_neg hd] at hst
                rw [← Nat.add_assoc]; exact hst.symm
              clear hst
              go_wp2_with (go_at_call 42; (with_reducible refine (HDG.out _).mono ?_); rintro e w4 ⟨rfl, hw4⟩; have hw5 := hw4.symm; clear hw4; subst hw5)
              go_roundw
              case rel => exact ⟨i + 1, by omega, by go_num, HN.out, by first | rfl | trivial⟩
              case measure => simp [intOf]; omega
        · have hge : ¬ (i : Int) < (r.size : Int) := by omega
          have hcf : C = true := by rw [← HCi.out, nmL_end (by have := HSZ.out; omega)]
          subst hcf
          go_wp2
          go_ret
          exact ⟨rfl, HB3.out⟩
end Go.Proofs.YtnaipmgdipflgaaGreatDoor
