import Derived.Test.YtmnbakalcpanlaaGreatDoorLm2
import Derived.Laws.Cover1
namespace Go.Proofs.YtmnbakalcpanlaaGreatDoor
open Go.ChangeShapes Go.WideShapes Go.ChangeAt Go.RowKit Go.Maps Go.WideMaps
set_option linter.unusedVariables false
set_option linter.unusedSimpArgs false

theorem bt_ext (r : ByteArray) (f i : Nat) (hf : f ≤ r.size) : bt (r.extract f r.size) i = bt r (f + i) := by
  have hz : (r.extract f r.size).size = r.size - f := by rw [ByteArray.size_extract]; omega
  by_cases h : f + i < r.size
  · rw [bt_in h, bt_in (by omega : i < (r.extract f r.size).size), ByteArray.getElem_extract]
  · rw [bt_out h, bt_out (by omega)]
theorem cnL_ext (r : ByteArray) (b f : Nat) (hf : f ≤ r.size) : ∀ n i wt, r.size - (f + i) ≤ n → cnL (r.extract f r.size) b i wt = cnL r b (f + i) wt := by
  have hz : (r.extract f r.size).size = r.size - f := by rw [ByteArray.size_extract]; omega
  intro n
  induction n with
  | zero =>
    intro i wt hn
    rw [cnL, cnL.eq_1 r, dif_neg (by omega), dif_neg (by omega)]
  | succ n ih =>
    intro i wt hn
    rw [cnL, cnL.eq_1 r]
    by_cases h : f + i < r.size
    · rw [dif_pos h, dif_pos (by omega), bt_ext r f i hf, ih (i + 1) true (by omega), ih (i + 1) false (by omega)]; rfl
    · rw [dif_neg h, dif_neg (by omega)]
theorem trim_ext (r : ByteArray) (h2 : 2 ≤ r.size) : (⟨(Lib.trimPrefix (r.extract 2 r.size).data.toList [95]).toArray⟩ : ByteArray) = r.extract (cof r) r.size := by
  have ex : ∀ k, (⟨(dl r k).toArray⟩ : ByteArray) = r.extract k r.size := fun k => rfl
  have e : (r.extract 2 r.size).data.toList = dl r 2 := rfl
  rw [e]
  unfold Lib.trimPrefix Lib.hasPrefix cof
  by_cases h : 2 < r.size
  · rw [dl_cons h]
    by_cases h95 : bt r 2 = 95
    · have hb : r[2]'h = 95 := UInt8.toNat_inj.1 (by rw [← bt_in h, h95]; rfl)
      rw [if_pos h95, hb]
      simp
      exact ex 3
    · have hb : ¬ (95 : UInt8) = r[2]'h := fun e => h95 (by rw [bt_in h, ← e]; rfl)
      rw [if_neg h95]
      simp [hb]
      rw [← dl_cons h]
      exact ex 2
  · have h95 : ¬ bt r 2 = 95 := by rw [bt_out h]; omega
    rw [if_neg h95, dl_nil h, ← ex 2, dl_nil h]
    rfl
/-- does a base's letter stand behind a 0? -/
def lettered (r : ByteArray) : Prop := 2 ≤ r.size ∧ bt r 0 = 48 ∧ bsl (bt r 1) ≠ 0

set_option maxRecDepth 1000000 in
set_option maxHeartbeats 4000000 in
theorem based_let (r : ByteArray) (hr : r.size ≤ 4294967280) (h2 : 2 ≤ r.size) (h48 : bt r 0 = 48) (hl : bsl (bt r 1) ≠ 0) (w : World) :
    Calls Tryz.prog 68 #[.string r] w fun e w' => e = .returned (.tuple #[.int .i64 (bsl (bt r 1) : Nat), .string (r.extract (cof r) r.size)]) ∧ w' = w := by
  have hs2 : ¬ (r.size : Int) < 2 := by omega
  have h0' : (0 : Int) < (r.size : Int) := by omega
  have h1' : (1 : Int) < (r.size : Int) := by omega
  have h2' : (2 : Int) ≤ (r.size : Int) := by omega
  have hb0 : (r[0]'(by omega)).toNat = 48 := by rw [← bt_in, h48]
  obtain ⟨n, hn⟩ : ∃ n, (r[1]'(by omega)).toNat = n := ⟨_, rfl⟩
  have hbt : bt r 1 = n := by rw [bt_in (by omega), hn]
  rw [hbt] at hl ⊢
  have HT : Hid (∀ v, Calls Tryz.prog 79 #[.string (r.extract 2 r.size), .string ⟨#[95]⟩] v fun e w' => e = .returned (.string (r.extract (cof r) r.size)) ∧ w' = v) := fun v => by
    have h := Tryz.strings_TrimPrefix (r.extract 2 r.size) ⟨#[95]⟩ v
    rw [show (⟨#[95]⟩ : ByteArray).data.toList = [95] from rfl, trim_ext r h2] at h
    exact h
  have H : n = 120 ∨ n = 88 ∨ n = 111 ∨ n = 79 ∨ n = 98 ∨ n = 66 := by
    by_cases h : n = 120 ∨ n = 88 ∨ n = 111 ∨ n = 79 ∨ n = 98 ∨ n = 66
    · exact h
    · exact absurd (by unfold bsl; rw [if_neg (by omega), if_neg (by omega), if_neg (by omega)]) hl
  clear hl hbt h48
  rcases H with rfl | rfl | rfl | rfl | rfl | rfl
  · have e : bsl 120 = 16 := by decide
    rw [e]
    go_enter Tryz.func68, Tryz.ntmps68
    go_wp2_with (go_at_call 79; (with_reducible refine (HT.out _).mono ?_); rintro e w3 ⟨rfl, hw3⟩; subst hw3)
    go_ret2
    exact ⟨rfl, rfl⟩
  · have e : bsl 88 = 16 := by decide
    rw [e]
    go_enter Tryz.func68, Tryz.ntmps68
    go_wp2_with (go_at_call 79; (with_reducible refine (HT.out _).mono ?_); rintro e w3 ⟨rfl, hw3⟩; subst hw3)
    go_ret2
    exact ⟨rfl, rfl⟩
  · have e : bsl 111 = 8 := by decide
    rw [e]
    go_enter Tryz.func68, Tryz.ntmps68
    go_wp2_with (go_at_call 79; (with_reducible refine (HT.out _).mono ?_); rintro e w3 ⟨rfl, hw3⟩; subst hw3)
    go_ret2
    exact ⟨rfl, rfl⟩
  · have e : bsl 79 = 8 := by decide
    rw [e]
    go_enter Tryz.func68, Tryz.ntmps68
    go_wp2_with (go_at_call 79; (with_reducible refine (HT.out _).mono ?_); rintro e w3 ⟨rfl, hw3⟩; subst hw3)
    go_ret2
    exact ⟨rfl, rfl⟩
  · have e : bsl 98 = 2 := by decide
    rw [e]
    go_enter Tryz.func68, Tryz.ntmps68
    go_wp2_with (go_at_call 79; (with_reducible refine (HT.out _).mono ?_); rintro e w3 ⟨rfl, hw3⟩; subst hw3)
    go_ret2
    exact ⟨rfl, rfl⟩
  · have e : bsl 66 = 2 := by decide
    rw [e]
    go_enter Tryz.func68, Tryz.ntmps68
    go_wp2_with (go_at_call 79; (with_reducible refine (HT.out _).mono ?_); rintro e w3 ⟨rfl, hw3⟩; subst hw3)
    go_ret2
    exact ⟨rfl, rfl⟩

set_option maxRecDepth 1000000 in
set_option maxHeartbeats 4000000 in
theorem based_ten (r : ByteArray) (hr : r.size ≤ 4294967280) (h1 : 1 ≤ r.size) (hl : ¬ lettered r) (w : World) :
    Calls Tryz.prog 68 #[.string r] w fun e w' => e = .returned (.tuple #[.int .i64 10, .string r]) ∧ w' = w := by
  by_cases h2 : 2 ≤ r.size
  · have h0' : (0 : Int) < (r.size : Int) := by omega
    have h1' : (1 : Int) < (r.size : Int) := by omega
    have hs2 : ¬ (r.size : Int) < 2 := by omega
    obtain ⟨m, hm⟩ : ∃ m, (r[0]'(by omega)).toNat = m := ⟨_, rfl⟩
    have hbm : bt r 0 = m := by rw [bt_in (by omega), hm]
    by_cases h48 : m = 48
    · subst h48
      obtain ⟨n, hn⟩ : ∃ n, (r[1]'(by omega)).toNat = n := ⟨_, rfl⟩
      have hbt : bt r 1 = n := by rw [bt_in (by omega), hn]
      have hz : bsl n = 0 := by
        by_cases h : bsl n = 0
        · exact h
        · exact absurd ⟨h2, hbm, by rw [hbt]; exact h⟩ hl
      have hne : n ≠ 120 ∧ n ≠ 88 ∧ n ≠ 111 ∧ n ≠ 79 ∧ n ≠ 98 ∧ n ≠ 66 := by
        refine ⟨?_, ?_, ?_, ?_, ?_, ?_⟩ <;> (rintro rfl; revert hz; decide)
      have q1 : ((n : Int) == 120) = false := by simp; omega
      have q2 : ((n : Int) == 88) = false := by simp; omega
      have q3 : ((n : Int) == 111) = false := by simp; omega
      have q4 : ((n : Int) == 79) = false := by simp; omega
      have q5 : ((n : Int) == 98) = false := by simp; omega
      have q6 : ((n : Int) == 66) = false := by simp; omega
      go_enter Tryz.func68, Tryz.ntmps68
      go_wp2
      go_ret2
      exact ⟨rfl, rfl⟩
    · have q0 : ((m : Int) != 48) = true := by simp; omega
      go_enter Tryz.func68, Tryz.ntmps68
      go_wp2
      go_ret2
      exact ⟨rfl, rfl⟩
  · have hs2 : (r.size : Int) < 2 := by omega
    go_enter Tryz.func68, Tryz.ntmps68
    go_wp2
    go_ret2
    exact ⟨rfl, rfl⟩

set_option maxRecDepth 1000000 in
set_option maxHeartbeats 4000000 in
theorem isNumber_any (r : ByteArray) (hr : r.size ≤ 4294967280) (h1 : 1 ≤ r.size) (w : World) :
    Calls Tryz.prog 55 #[.string r] w fun e w' => e = .returned (.bool (cnum r)) ∧ w' = w := by
  have h0' : (0 : Int) < (r.size : Int) := by omega
  obtain ⟨m, hm⟩ : ∃ m, (r[0]'(by omega)).toNat = m := ⟨_, rfl⟩
  have hbm : bt r 0 = m := by rw [bt_in (by omega), hm]
  by_cases hl : lettered r
  · obtain ⟨h2, h48, hb⟩ := hl
    have hcn : cnum r = cnL r (bsl (bt r 1)) (cof r) true := by unfold cnum; rw [if_pos ⟨h2, h48, hb⟩]
    have hcf : cof r ≤ r.size := by
      unfold cof
      split
      · rename_i h95
        by_cases h3 : 2 < r.size
        · omega
        · rw [bt_out h3] at h95; omega
      · omega
    have hB := (bsl_le (bt r 1)).1
    have h10 := (bsl_le (bt r 1)).2
    have HBA : Hid (∀ v, Calls Tryz.prog 68 #[.string r] v fun e w' => e = .returned (.tuple #[.int .i64 (bsl (bt r 1) : Nat), .string (r.extract (cof r) r.size)]) ∧ w' = v) := fun v => based_let r hr h2 h48 hb v
    have hC0 := cnL_ext r (bsl (bt r 1)) (cof r) hcf r.size 0 true (by omega)
    rw [Nat.add_zero, ← hcn] at hC0
    have hDs : (r.extract (cof r) r.size).size ≤ 4294967280 := by rw [ByteArray.size_extract]; omega
    obtain ⟨C, hCC⟩ : ∃ C, cnum r = C := ⟨_, rfl⟩
    obtain ⟨B, hBB⟩ : ∃ B, bsl (bt r 1) = B := ⟨_, rfl⟩
    obtain ⟨D, hDD⟩ : ∃ D, r.extract (cof r) r.size = D := ⟨_, rfl⟩
    rw [hCC] at hC0 ⊢
    rw [hBB] at hC0 hB h10 HBA
    rw [hDD] at hC0 hDs HBA
    have HC : Hid (cnL D B 0 true = C) := hC0
    have hB10 : ((B : Int) == 10) = false := by simp; omega
    clear hcn hcf hC0 hCC hBB hDD hb h48
    go_enter Tryz.func55, Tryz.ntmps55
    go_wp2_with (go_at_call 68; (with_reducible refine (HBA.out _).mono ?_); rintro e w3 ⟨rfl, hw3⟩; subst hw3)
    go_loopw [5, 23] (fun sw si wr => ∃ (i : Nat) (wt : Bool), i ≤ D.size ∧ sw = .bool wt ∧ si = .int .i64 (i : Int) ∧ cnL D B i wt = C ∧ wr = w3) (fun _ si _ => D.size - (intOf si).toNat)
    case atStart => exact ⟨0, true, Nat.zero_le _, rfl, rfl, HC.out, by first | rfl | trivial⟩
    case round =>
      obtain ⟨i, wt, hi, rfl, rfl, hc, rfl⟩ := hrel
      by_cases hlt : i < D.size
      · have hlt' : (i : Int) < (D.size : Int) := by omega
        obtain ⟨n, hn⟩ : ∃ n, (D[i]'hlt).toNat = n := ⟨_, rfl⟩
        have hn256 : n < 256 := by rw [← hn]; exact (D[i]'hlt).toNat_lt
        have hbt : bt D i = n := by rw [bt_in hlt, hn]
        rw [cnL, dif_pos hlt, hbt] at hc
        have hdg : ¬ B ≤ dgv n ∨ B ≤ dgv n := by omega
        have HG := dgC_ge n B hB
        have HDG : Hid (∀ v, Calls Tryz.prog 69 #[.int .u8 (n : Int)] v fun e w' => e = .returned (.int .i64 (dgC n)) ∧ w' = v) := fun v => digit_any n hn256 v
        obtain ⟨X, hX⟩ : ∃ X, dgC n = X := ⟨_, rfl⟩
        rw [hX] at HG HDG
        by_cases hu : n = 95 ∧ wt = false
        · obtain ⟨rfl, rfl⟩ := hu
          rw [if_pos ⟨rfl, rfl⟩] at hc
          go_wp2
          go_roundw
          case rel => exact ⟨i + 1, true, by omega, rfl, by go_num, hc, by first | rfl | trivial⟩
          case measure => simp [intOf]; omega
        · rw [if_neg hu] at hc
          have HU : Hid (((n : Int) == 95) = false ∨ (((n : Int) == 95) = true ∧ wt = true)) := by
            unfold Hid
            by_cases h : n = 95
            · subst h
              cases wt
              · exact absurd ⟨rfl, rfl⟩ hu
              · exact .inr ⟨rfl, rfl⟩
            · exact .inl (by simp; omega)
          rcases hdg with hd | hd
          · rw [if_neg hd] at hc
            have hx : ¬ X ≥ (B : Int) := fun h => hd (HG.1 h)
            clear HG hu
            rcases HU.out with h9 | ⟨h9, rfl⟩
            all_goals
              clear HU
              go_wp2_with (go_at_call 69; (with_reducible refine (HDG.out _).mono ?_); rintro e w3 ⟨rfl, hw3⟩; subst hw3)
              go_roundw
              case rel => exact ⟨i + 1, false, by omega, rfl, by go_num, hc, by first | rfl | trivial⟩
              case measure => simp [intOf]; omega
          · rw [if_pos hd] at hc
            subst hc
            have hx : X ≥ (B : Int) := HG.2 hd
            clear HG hu
            rcases HU.out with h9 | ⟨h9, rfl⟩
            all_goals
              clear HU
              go_wp2_with (go_at_call 69; (with_reducible refine (HDG.out _).mono ?_); rintro e w3 ⟨rfl, hw3⟩; subst hw3)
              go_ret
              exact ⟨rfl, rfl⟩
      · have hge : ¬ (i : Int) < (D.size : Int) := by omega
        rw [cnL, dif_neg hlt] at hc
        subst hc
        go_wp2
        go_ret
        exact ⟨rfl, rfl⟩
  · have HBA : Hid (∀ v, Calls Tryz.prog 68 #[.string r] v fun e w' => e = .returned (.tuple #[.int .i64 10, .string r]) ∧ w' = v) := fun v => based_ten r hr h1 hl v
    by_cases h48 : m = 48
    · subst h48
      have hcn : cnum r = decide (r.size = 1) := by unfold cnum; rw [if_neg (show ¬ (2 ≤ r.size ∧ bt r 0 = 48 ∧ bsl (bt r 1) ≠ 0) from hl), if_pos hbm]
      rw [hcn]
      have hq : (r.toList == (⟨#[48]⟩ : ByteArray).toList) = decide (r.size = 1) := by
        rw [ByteArray.toList_eq, ByteArray.toList_eq]
        by_cases hs : r.size = 1
        · have hd : r.data.toList = [48] := by
            have hu : r.data.toList.length = r.size := by rw [Array.length_toList]; rfl
            match hx : r.data.toList, hu with
            | [a], _ =>
              have e0 : r[0]'(by omega) = a := by
                have := dl_cons (s := r) (k := 0) (by omega)
                rw [dl_drop, hx] at this
                simp at this
                exact this.1.symm
              rw [← e0]
              congr 1
              exact UInt8.toNat_inj.1 hm
            | [], hu => simp at hu; omega
            | _ :: _ :: _, hu => simp at hu; omega
          rw [hd]; simp [hs]
        · rw [decide_eq_false hs, beq_eq_false_iff_ne]
          intro e
          apply hs
          have hu : r.data.toList.length = r.size := by rw [Array.length_toList]; rfl
          rw [← hu, e]; rfl
      obtain ⟨Z, hZ⟩ : ∃ Z, decide (r.size = 1) = Z := ⟨_, rfl⟩
      rw [hZ] at hq ⊢
      go_enter Tryz.func55, Tryz.ntmps55
      go_wp2_with (go_at_call 68; (with_reducible refine (HBA.out _).mono ?_); rintro e w3 ⟨rfl, hw3⟩; subst hw3)
      go_ret
      exact ⟨by first | rfl | simpa using hq, rfl⟩
    · have hcn : cnum r = cnL r 10 0 true := by unfold cnum; rw [if_neg (show ¬ (2 ≤ r.size ∧ bt r 0 = 48 ∧ bsl (bt r 1) ≠ 0) from hl), if_neg (by rw [hbm]; exact h48)]
      have hm48 : ((m : Int) == 48) = false := by simp; omega
      rw [hcn]
      obtain ⟨C, hCC⟩ : ∃ C, cnL r 10 0 true = C := ⟨_, rfl⟩
      have HC : Hid (cnL r 10 0 true = C) := hCC
      rw [hCC]
      have hB : 10 ≤ 16 := by omega
      clear hcn hCC hl
      go_enter Tryz.func55, Tryz.ntmps55
      go_wp2_with (go_at_call 68; (with_reducible refine (HBA.out _).mono ?_); rintro e w3 ⟨rfl, hw3⟩; subst hw3)
      go_loopw [5, 23] (fun sw si wr => ∃ (i : Nat) (wt : Bool), i ≤ r.size ∧ sw = .bool wt ∧ si = .int .i64 (i : Int) ∧ cnL r 10 i wt = C ∧ wr = w3) (fun _ si _ => r.size - (intOf si).toNat)
      case atStart => exact ⟨0, true, Nat.zero_le _, rfl, rfl, HC.out, by first | rfl | trivial⟩
      case round =>
        obtain ⟨i, wt, hi, rfl, rfl, hc, rfl⟩ := hrel
        by_cases hlt : i < r.size
        · have hlt' : (i : Int) < (r.size : Int) := by omega
          obtain ⟨n, hn⟩ : ∃ n, (r[i]'hlt).toNat = n := ⟨_, rfl⟩
          have hn256 : n < 256 := by rw [← hn]; exact (r[i]'hlt).toNat_lt
          have hbt : bt r i = n := by rw [bt_in hlt, hn]
          rw [cnL, dif_pos hlt, hbt] at hc
          have hdg : ¬ 10 ≤ dgv n ∨ 10 ≤ dgv n := by omega
          have HG := dgC_ge n 10 hB
          have HDG : Hid (∀ v, Calls Tryz.prog 69 #[.int .u8 (n : Int)] v fun e w' => e = .returned (.int .i64 (dgC n)) ∧ w' = v) := fun v => digit_any n hn256 v
          obtain ⟨X, hX⟩ : ∃ X, dgC n = X := ⟨_, rfl⟩
          rw [hX] at HG HDG
          by_cases hu : n = 95 ∧ wt = false
          · obtain ⟨rfl, rfl⟩ := hu
            rw [if_pos ⟨rfl, rfl⟩] at hc
            go_wp2
            go_roundw
            case rel => exact ⟨i + 1, true, by omega, rfl, by go_num, hc, by first | rfl | trivial⟩
            case measure => simp [intOf]; omega
          · rw [if_neg hu] at hc
            have HU : Hid (((n : Int) == 95) = false ∨ (((n : Int) == 95) = true ∧ wt = true)) := by
              unfold Hid
              by_cases h : n = 95
              · subst h
                cases wt
                · exact absurd ⟨rfl, rfl⟩ hu
                · exact .inr ⟨rfl, rfl⟩
              · exact .inl (by simp; omega)
            rcases hdg with hd | hd
            · rw [if_neg hd] at hc
              have hx : ¬ X ≥ 10 := fun h => hd (HG.1 h)
              clear HG hu
              rcases HU.out with h9 | ⟨h9, rfl⟩
              all_goals
                clear HU
                go_wp2_with (go_at_call 69; (with_reducible refine (HDG.out _).mono ?_); rintro e w3 ⟨rfl, hw3⟩; subst hw3)
                go_roundw
                case rel => exact ⟨i + 1, false, by omega, rfl, by go_num, hc, by first | rfl | trivial⟩
                case measure => simp [intOf]; omega
            · rw [if_pos hd] at hc
              subst hc
              have hx : X ≥ 10 := HG.2 hd
              clear HG hu
              rcases HU.out with h9 | ⟨h9, rfl⟩
              all_goals
                clear HU
                go_wp2_with (go_at_call 69; (with_reducible refine (HDG.out _).mono ?_); rintro e w3 ⟨rfl, hw3⟩; subst hw3)
                go_ret
                exact ⟨rfl, rfl⟩
        · have hge : ¬ (i : Int) < (r.size : Int) := by omega
          rw [cnL, dif_neg hlt] at hc
          subst hc
          go_wp2
          go_ret
          exact ⟨rfl, rfl⟩

set_option maxRecDepth 1000000 in
set_option maxHeartbeats 4000000 in
theorem number_any (b : Nat) (s : ByteArray) (p : Nat) (hs : s.size ≤ 4294967280) (hp : p < s.size) (hdg : 48 ≤ bt s p ∧ bt s p ≤ 57) (w : World) (hb : w.cell? ⟨b, 0, none⟩ = some (.string s)) (hT : Lt w) :
    Calls Tryz.prog 35 #[.pointer (some ⟨b, 0, none⟩), .int .i64 (p : Int)] w fun e w' => e = .returned (.tuple #[tokV p (ruP s p), fltV (ruP s p)]) ∧ Below w.heap.size w w' := by
  have HT : Hid (∀ v, Below w.heap.size w v → Lt v) := fun v hv => hT.below hv
  clear hT
  have hbl : b < w.heap.size := World.block_lt_of_cell? _ _ hb
  have hp' : (p : Int) < (s.size : Int) := by omega
  obtain ⟨w2, e2, hw, hs2, hX⟩ := start2 w b s hb
  have HE2 : Hid ((w.alloc (.cells #[.int .u8 0, .int .i64 0, .int .i64 0] 50)).alloc (.cells #[.int .i64 0, .int .i64 0, .int .i64 0] 26) = w2) := e2
  have HX : Hid (∀ v, Below w2.heap.size w2 v → Bx v w.heap.size #[.int .u8 0, .int .i64 0, .int .i64 0] 50 ∧ Bx v (w.heap.size + 1) #[.int .i64 0, .int .i64 0, .int .i64 0] 26 ∧ v.cell? ⟨b, 0, none⟩ = some (.string s) ∧ b < v.heap.size ∧ Below w.heap.size w v) := hX
  have HW2 : Hid (Below w.heap.size w w2) := hw
  obtain ⟨-, -, c2, b2, -⟩ := hX w2 (Below.refl _ _)
  have HR : Hid (Calls Tryz.prog 54 #[.pointer (some ⟨b, 0, none⟩), .int .i64 (p : Int)] w2 fun e w' => e = .returned (.int .i64 (rnE s p : Nat)) ∧ Below w2.heap.size w2 w') := runEnd_any b s p hs hp w2 c2 (HT.out w2 hw)
  clear e2 hw hX hb
  obtain ⟨hl1, hl2⟩ := rnE_le s (s.size - p) p (Nat.le_refl _) (by omega)
  have hgt : p < rnE s p := by
    obtain ⟨d1, d2, d3, -⟩ := dec_facts s p hp
    have hb := d3 (by rw [← bt_in hp]; omega)
    have hld : isLD (rn s p) = true := by
      rw [hb.2, ← bt_in hp]
      have : ∀ n, n < 58 → 48 ≤ n → isLD n = true := by decide
      exact this _ (by omega) hdg.1
    have := rnE_le s (s.size - (p + wd s p)) (p + wd s p) (Nat.le_refl _) d2
    rw [rnE_in hp hld]
    omega
  have hRP : ruP s p = if num (s.extract p (rnE s p)) then .ok 3 (rnE s p) else .no 21 p := rfl
  rw [hRP]
  obtain ⟨E, hE⟩ : ∃ E, rnE s p = E := ⟨_, rfl⟩
  rw [hE] at HR hl1 hl2 hgt ⊢
  clear hE hRP
  have hE1 : (p : Int) ≤ (E : Int) := by omega
  have hE2 : (E : Int) ≤ (s.size : Int) := by omega
  have hrs : (s.extract p E).size = E - p := by rw [ByteArray.size_extract]; omega
  have hr0 : bt (s.extract p E) 0 = bt s p := by rw [bt_in (by omega), bt_in hp, ByteArray.getElem_extract]; rfl
  have HN : Hid (∀ v, Calls Tryz.prog 55 #[.string (s.extract p E)] v fun e w' => e = .returned (.bool (num (s.extract p E))) ∧ w' = v) := fun v => by
    have h := isNumber_any (s.extract p E) (by omega) (by omega) v
    rw [cnum_num (s.extract p E) (by omega) (by rw [hr0]; exact hdg)] at h
    exact h
  obtain ⟨Z, hZ⟩ : ∃ Z, num (s.extract p E) = Z := ⟨_, rfl⟩
  rw [hZ] at HN ⊢
  clear hZ hr0
  cases Z with
  | true =>
    go_enter Tryz.func35, Tryz.ntmps35
    go_upto_region 1 with fail
    rw [HE2.out]
    go_wp2_with (first
      | (go_at_call 54; (with_reducible refine HR.out.mono ?_); rintro e w3 ⟨rfl, hb3⟩; have HB3 : Hid (Below w2.heap.size w2 w3) := hb3; obtain ⟨-, -, c3, b3, -⟩ := HX.out w3 hb3; obtain ⟨Y0, Y1, -, -, HWv⟩ := HX.out w3 hb3; have HW4 : Hid (Below w.heap.size w w3) := HWv; have HY0 : Hid (Bx w3 w.heap.size #[.int .u8 0, .int .i64 0, .int .i64 0] 50) := Y0; have HY1 : Hid (Bx w3 (w.heap.size + 1) #[.int .i64 0, .int .i64 0, .int .i64 0] 26) := Y1; obtain ⟨z0, z1, z2, z3, z4, z5, zf, zh⟩ := two_of Y0 Y1; have f0 := zf 0; have f1 := zf 1; have f2 := zf 2; have h0 := zh 0; have h1 := zh 1; have h2 := zh 2; clear HWv Y0 Y1 zf zh; clear hb3)
      | (go_at_call 55; (with_reducible refine (HN.out _).mono ?_); rintro e w4 ⟨rfl, hw4⟩; subst hw4))
    obtain ⟨r0, r1, r2, r3, r4, r5⟩ := two_boxes HY0.out HY1.out (.int .u8 3) (.int .i64 (p : Int)) (.int .i64 (E : Int)) (.int .i64 0) (.int .i64 0) (.int .i64 0)
    refine bodyPost_ret (v := .tuple #[.agg #[.int .u8 3, .int .i64 (p : Int), .int .i64 (E : Int)], .agg #[.int .i64 0, .int .i64 0, .int .i64 0]]) (by simp [results, Tryz.results35, go_sem, r0, r1, r2, r3, r4, r5]) rfl ⟨rfl, bel_two HW4.out (Nat.le_refl _)⟩
  | false =>
    go_enter Tryz.func35, Tryz.ntmps35
    go_upto_region 1 with fail
    rw [HE2.out]
    go_wp2_with (first
      | (go_at_call 54; (with_reducible refine HR.out.mono ?_); rintro e w3 ⟨rfl, hb3⟩; have HB3 : Hid (Below w2.heap.size w2 w3) := hb3; obtain ⟨-, -, c3, b3, -⟩ := HX.out w3 hb3; clear hb3)
      | (go_at_call 55; (with_reducible refine (HN.out _).mono ?_); rintro e w4 ⟨rfl, hw4⟩; subst hw4)
      | (go_at_call 22; (with_reducible refine (faultAt_any _ _ _).mono ?_); rintro e w5 ⟨rfl, hb5⟩; obtain ⟨Y0, Y1, -, -, HWv⟩ := HX.out w5 (HB3.out.trans (hb5.mono HB3.out.size)); have HW4 : Hid (Below w.heap.size w w5) := HWv; have HY0 : Hid (Bx w5 w.heap.size #[.int .u8 0, .int .i64 0, .int .i64 0] 50) := Y0; have HY1 : Hid (Bx w5 (w.heap.size + 1) #[.int .i64 0, .int .i64 0, .int .i64 0] 26) := Y1; obtain ⟨z0, z1, z2, z3, z4, z5, zf, zh⟩ := two_of Y0 Y1; have f0 := zf 0; have f1 := zf 1; have f2 := zf 2; have h0 := zh 0; have h1 := zh 1; have h2 := zh 2; clear HWv Y0 Y1 zf zh; clear hb5))
    obtain ⟨r0, r1, r2, r3, r4, r5⟩ := two_boxes HY0.out HY1.out (.int .u8 0) (.int .i64 0) (.int .i64 0) (.int .i64 21) (.int .i64 0) (.int .i64 (p : Int))
    refine bodyPost_ret (v := .tuple #[.agg #[.int .u8 0, .int .i64 0, .int .i64 0], .agg #[.int .i64 21, .int .i64 0, .int .i64 (p : Int)]]) (by simp [results, Tryz.results35, go_sem, r0, r1, r2, r3, r4, r5]) rfl ⟨rfl, bel_two HW4.out (Nat.le_refl _)⟩
end Go.Proofs.YtmnbakalcpanlaaGreatDoor
