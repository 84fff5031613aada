import Derived.Test.YtnaipmgdipflgaaGreatDoorRl1
namespace Go.Proofs.YtnaipmgdipflgaaGreatDoor
open Go.ChangeShapes Go.WideShapes Go.ChangeAt Go.RowKit
set_option linter.unusedVariables false
set_option linter.unusedSimpArgs false

/-- an item, as the reference tells it -/
def itR : Option Itm → Value
  | none => .tuple #[.int .i64 0, .int .i64 0, .bool false, .bool false]
  | some i => .tuple #[.int .i64 (i.n : Int), .int .i64 (i.v : Int), .bool i.e, .bool i.b]

set_option maxRecDepth 1000000 in
set_option maxHeartbeats 8000000 in
theorem rcoded_2 (s : ByteArray) (p : Nat) (hs : s.size ≤ 4294967280) (hp : p + 2 ≤ s.size) (w : World) :
    Calls Tryz.prog 68 #[.string s, .int .i64 (p : Int), .int .i64 ((p : Int) + 2), .int .i64 2, .int .i64 16] w fun e w' => e = .returned (itR (cod s (p + 2) 2 2 16)) ∧ w' = w := by
  by_cases h0 : s.size < p + 2 + 2
  · have E : Hid (cod s (p + 2) 2 2 16 = none) := by unfold Hid cod; rw [if_pos h0]
    have h1 : (p : Int) + 2 + 2 > (s.size : Int) := by omega
    go_enter Tryz.func68, Tryz.ntmps68
    go_wp2
    refine bodyPost_ret (v := .tuple #[.int .i64 0, .int .i64 0, .bool false, .bool false]) (by simp [results, Tryz.results68, go_sem]) rfl ⟨by rw [E.out]; rfl, rfl⟩
  · have E : cod s (p + 2) 2 2 16 = match dgs s 16 2 (p + 2) 0 with | none => none | some v => if ((2 : Nat) < 4 ∧ 255 < v) ∨ 1114111 < v ∨ (4 ≤ (2 : Nat) ∧ 55296 ≤ v ∧ v ≤ 57343) then none else some ⟨2 + 2, v, decide ((2 : Nat) < 4), false⟩ := by unfold cod; rw [if_neg h0]; cases dgs s 16 2 (p + 2) 0 <;> rfl
    have h1 : ¬ (p : Int) + 2 + 2 > (s.size : Int) := by omega
    obtain ⟨C, hC⟩ : ∃ C, cod s (p + 2) 2 2 16 = C := ⟨_, rfl⟩
    rw [hC] at E ⊢
    have HE : Hid (C = match dgs s 16 2 (p + 2) 0 with | none => none | some v => if ((2 : Nat) < 4 ∧ 255 < v) ∨ 1114111 < v ∨ (4 ≤ (2 : Nat) ∧ 55296 ≤ v ∧ v ≤ 57343) then none else some ⟨2 + 2, v, decide ((2 : Nat) < 4), false⟩) := E
    obtain ⟨D, hD⟩ : ∃ D, dgs s 16 2 (p + 2) 0 = D := ⟨_, rfl⟩
    rw [hD] at HE
    have HD : Hid (dgs s 16 2 (p + 2) 0 = D) := hD
    clear E hC hD
    go_enter Tryz.func68, Tryz.ntmps68
    go_wp2
    go_loopw [14, 15] (fun sn si wr => ∃ (i acc : Nat), i ≤ 2 ∧ si = .int .i64 ((p + 2 + i : Nat) : Int) ∧ sn = .int .i64 (acc : Int) ∧ dgs s 16 (2 - i) (p + 2 + i) acc = D ∧ acc < 16 ^ i ∧ wr = w) (fun _ si _ => p + 2 + 2 - (intOf si).toNat)
    case atStart => exact ⟨0, 0, Nat.zero_le _, by go_num, rfl, HD.out, by decide, by first | trivial | rfl⟩
    case round =>
      obtain ⟨i, acc, hi, rfl, rfl, hd, hacc, hw⟩ := hrel
      subst hw
      have HDi : Hid (dgs s 16 (2 - i) (p + 2 + i) acc = D) := hd
      clear hd HD
      obtain ⟨q, hqd⟩ : ∃ q, p + 2 + i = q := ⟨_, rfl⟩
      rw [hqd] at HDi ⊢
      have HQ : Hid (p + 2 + i = q) := hqd
      by_cases hlt : i < 2
      · have hlt' : (q : Int) < (p : Int) + 2 + 2 := by omega
        have hki : q < s.size := by omega
        have hki' : (q : Int) < (s.size : Int) := by omega
        obtain ⟨c, hcc⟩ : ∃ c, (s[q]'hki).toNat = c := ⟨_, rfl⟩
        have hbt : bt s q = c := by rw [bt_in hki, hcc]
        have hc8 : c < 256 := by rw [← hcc]; exact (s[q]'hki).toNat_lt
        have HC : Hid (∀ v, Calls Tryz.prog 42 #[.int .u8 (c : Int)] v fun e w' => e = .returned (.int .i64 (dgv c : Nat)) ∧ w' = v) := fun v => rdigit_any c hc8 v
        obtain ⟨m, hm⟩ : ∃ m, 2 - i = m + 1 := ⟨2 - i - 1, by omega⟩
        have hstep : dgs s 16 (2 - i) q acc = if dgv c < 16 then dgs s 16 m (q + 1) (acc * 16 + dgv c) else none := by rw [hm, dgs, hbt]
        have hd99 := dgv_le c
        have hpow : (16 : Nat) ^ i ≤ 16 ^ 7 := Nat.pow_le_pow_right (by decide) (by omega)
        have hacc7 : acc < 268435456 := Nat.lt_of_lt_of_le hacc hpow
        obtain ⟨d, hdd⟩ : ∃ d, dgv c = d := ⟨_, rfl⟩
        rw [hdd] at HC hstep hd99
        clear hbt hdd hqd
        by_cases hd : d < 16
        · have HN : Hid (dgs s 16 (2 - (i + 1)) (p + 2 + (i + 1)) (acc * 16 + d) = D) := by
            unfold Hid; rw [← HDi.out, hstep, if_pos hd, show 2 - (i + 1) = m by omega, show p + 2 + (i + 1) = q + 1 by have := HQ.out; omega]
          have hng : ¬ (d : Int) ≥ 16 := by omega
          have hnew : acc * 16 + d < 16 ^ (i + 1) := by
            have h1 : acc * 16 ≤ acc * 16 := Nat.mul_le_mul_left _ (by decide)
            rw [Nat.pow_succ]
            omega
          clear hstep
          go_wp2_with (go_at_call 42; (with_reducible refine (HC.out _).mono ?_); rintro e w3 ⟨rfl, hw3⟩; have hw4 := hw3.symm; clear hw3; subst hw4)
          go_roundw
          case rel => exact ⟨i + 1, acc * 16 + d, by omega, by have := HQ.out; go_num, by go_num, HN.out, hnew, by first | trivial | rfl⟩
          case measure => have := HQ.out; simp [intOf]; omega
        · have HN : Hid (C = none) := by unfold Hid; rw [HE.out, ← HDi.out, hstep, if_neg hd]
          have hgd : (d : Int) ≥ 16 := by omega
          clear hstep
          go_wp2_with (go_at_call 42; (with_reducible refine (HC.out _).mono ?_); rintro e w3 ⟨rfl, hw3⟩; have hw4 := hw3.symm; clear hw3; subst hw4)
          refine bodyPost_ret (v := .tuple #[.int .i64 0, .int .i64 0, .bool false, .bool false]) (by simp [results, Tryz.results68, go_sem]) rfl ⟨by rw [HN.out]; rfl, rfl⟩
      · have hge : ¬ (q : Int) < (p : Int) + 2 + 2 := by omega
        have hDa : D = some acc := by rw [← HDi.out, show 2 - i = 0 by omega, dgs]
        have HC2 : Hid (C = if ((2 : Nat) < 4 ∧ 255 < acc) ∨ 1114111 < acc ∨ (4 ≤ (2 : Nat) ∧ 55296 ≤ acc ∧ acc ≤ 57343) then none else some ⟨2 + 2, acc, decide ((2 : Nat) < 4), false⟩) := by unfold Hid; rw [HE.out, hDa]
        have hacc8 : acc < 4294967296 := Nat.lt_of_lt_of_le hacc (by have : (16 : Nat) ^ i ≤ 16 ^ 8 := Nat.pow_le_pow_right (by decide) (by omega); exact this)
        clear HE hDa HDi hqd
        by_cases g1 : 255 < acc
        · have g1' : (acc : Int) > 255 := by omega
          go_wp2
          refine bodyPost_ret (v := .tuple #[.int .i64 0, .int .i64 0, .bool false, .bool false]) (by simp [results, Tryz.results68, go_sem]) rfl ⟨by rw [HC2.out, if_pos (by omega)]; rfl, rfl⟩
        · have g1' : ¬ (acc : Int) > 255 := by omega
          have g2' : ¬ (acc : Int) > 1114111 := by omega
          go_wp2
          refine bodyPost_ret (v := .tuple #[.int .i64 ((p : Int) + 2 + 2 - (p : Int)), .int .i64 (acc : Int), .bool true, .bool false]) (by simp [results, Tryz.results68, go_sem]) rfl ⟨by rw [HC2.out, if_neg (by omega)]; simp [itR] <;> omega, rfl⟩

set_option maxRecDepth 1000000 in
set_option maxHeartbeats 8000000 in
theorem rcoded_4 (s : ByteArray) (p : Nat) (hs : s.size ≤ 4294967280) (hp : p + 2 ≤ s.size) (w : World) :
    Calls Tryz.prog 68 #[.string s, .int .i64 (p : Int), .int .i64 ((p : Int) + 2), .int .i64 4, .int .i64 16] w fun e w' => e = .returned (itR (cod s (p + 2) 2 4 16)) ∧ w' = w := by
  by_cases h0 : s.size < p + 2 + 4
  · have E : Hid (cod s (p + 2) 2 4 16 = none) := by unfold Hid cod; rw [if_pos h0]
    have h1 : (p : Int) + 2 + 4 > (s.size : Int) := by omega
    go_enter Tryz.func68, Tryz.ntmps68
    go_wp2
    refine bodyPost_ret (v := .tuple #[.int .i64 0, .int .i64 0, .bool false, .bool false]) (by simp [results, Tryz.results68, go_sem]) rfl ⟨by rw [E.out]; rfl, rfl⟩
  · have E : cod s (p + 2) 2 4 16 = match dgs s 16 4 (p + 2) 0 with | none => none | some v => if ((4 : Nat) < 4 ∧ 255 < v) ∨ 1114111 < v ∨ (4 ≤ (4 : Nat) ∧ 55296 ≤ v ∧ v ≤ 57343) then none else some ⟨2 + 4, v, decide ((4 : Nat) < 4), false⟩ := by unfold cod; rw [if_neg h0]; cases dgs s 16 4 (p + 2) 0 <;> rfl
    have h1 : ¬ (p : Int) + 2 + 4 > (s.size : Int) := by omega
    obtain ⟨C, hC⟩ : ∃ C, cod s (p + 2) 2 4 16 = C := ⟨_, rfl⟩
    rw [hC] at E ⊢
    have HE : Hid (C = match dgs s 16 4 (p + 2) 0 with | none => none | some v => if ((4 : Nat) < 4 ∧ 255 < v) ∨ 1114111 < v ∨ (4 ≤ (4 : Nat) ∧ 55296 ≤ v ∧ v ≤ 57343) then none else some ⟨2 + 4, v, decide ((4 : Nat) < 4), false⟩) := E
    obtain ⟨D, hD⟩ : ∃ D, dgs s 16 4 (p + 2) 0 = D := ⟨_, rfl⟩
    rw [hD] at HE
    have HD : Hid (dgs s 16 4 (p + 2) 0 = D) := hD
    clear E hC hD
    go_enter Tryz.func68, Tryz.ntmps68
    go_wp2
    go_loopw [14, 15] (fun sn si wr => ∃ (i acc : Nat), i ≤ 4 ∧ si = .int .i64 ((p + 2 + i : Nat) : Int) ∧ sn = .int .i64 (acc : Int) ∧ dgs s 16 (4 - i) (p + 2 + i) acc = D ∧ acc < 16 ^ i ∧ wr = w) (fun _ si _ => p + 2 + 4 - (intOf si).toNat)
    case atStart => exact ⟨0, 0, Nat.zero_le _, by go_num, rfl, HD.out, by decide, by first | trivial | rfl⟩
    case round =>
      obtain ⟨i, acc, hi, rfl, rfl, hd, hacc, hw⟩ := hrel
      subst hw
      have HDi : Hid (dgs s 16 (4 - i) (p + 2 + i) acc = D) := hd
      clear hd HD
      obtain ⟨q, hqd⟩ : ∃ q, p + 2 + i = q := ⟨_, rfl⟩
      rw [hqd] at HDi ⊢
      have HQ : Hid (p + 2 + i = q) := hqd
      by_cases hlt : i < 4
      · have hlt' : (q : Int) < (p : Int) + 2 + 4 := by omega
        have hki : q < s.size := by omega
        have hki' : (q : Int) < (s.size : Int) := by omega
        obtain ⟨c, hcc⟩ : ∃ c, (s[q]'hki).toNat = c := ⟨_, rfl⟩
        have hbt : bt s q = c := by rw [bt_in hki, hcc]
        have hc8 : c < 256 := by rw [← hcc]; exact (s[q]'hki).toNat_lt
        have HC : Hid (∀ v, Calls Tryz.prog 42 #[.int .u8 (c : Int)] v fun e w' => e = .returned (.int .i64 (dgv c : Nat)) ∧ w' = v) := fun v => rdigit_any c hc8 v
        obtain ⟨m, hm⟩ : ∃ m, 4 - i = m + 1 := ⟨4 - i - 1, by omega⟩
        have hstep : dgs s 16 (4 - i) q acc = if dgv c < 16 then dgs s 16 m (q + 1) (acc * 16 + dgv c) else none := by rw [hm, dgs, hbt]
        have hd99 := dgv_le c
        have hpow : (16 : Nat) ^ i ≤ 16 ^ 7 := Nat.pow_le_pow_right (by decide) (by omega)
        have hacc7 : acc < 268435456 := Nat.lt_of_lt_of_le hacc hpow
        obtain ⟨d, hdd⟩ : ∃ d, dgv c = d := ⟨_, rfl⟩
        rw [hdd] at HC hstep hd99
        clear hbt hdd hqd
        by_cases hd : d < 16
        · have HN : Hid (dgs s 16 (4 - (i + 1)) (p + 2 + (i + 1)) (acc * 16 + d) = D) := by
            unfold Hid; rw [← HDi.out, hstep, if_pos hd, show 4 - (i + 1) = m by omega, show p + 2 + (i + 1) = q + 1 by have := HQ.out; omega]
          have hng : ¬ (d : Int) ≥ 16 := by omega
          have hnew : acc * 16 + d < 16 ^ (i + 1) := by
            have h1 : acc * 16 ≤ acc * 16 := Nat.mul_le_mul_left _ (by decide)
            rw [Nat.pow_succ]
            omega
          clear hstep
          go_wp2_with (go_at_call 42; (with_reducible refine (HC.out _).mono ?_); rintro e w3 ⟨rfl, hw3⟩; have hw4 := hw3.symm; clear hw3; subst hw4)
          go_roundw
          case rel => exact ⟨i + 1, acc * 16 + d, by omega, by have := HQ.out; go_num, by go_num, HN.out, hnew, by first | trivial | rfl⟩
          case measure => have := HQ.out; simp [intOf]; omega
        · have HN : Hid (C = none) := by unfold Hid; rw [HE.out, ← HDi.out, hstep, if_neg hd]
          have hgd : (d : Int) ≥ 16 := by omega
          clear hstep
          go_wp2_with (go_at_call 42; (with_reducible refine (HC.out _).mono ?_); rintro e w3 ⟨rfl, hw3⟩; have hw4 := hw3.symm; clear hw3; subst hw4)
          refine bodyPost_ret (v := .tuple #[.int .i64 0, .int .i64 0, .bool false, .bool false]) (by simp [results, Tryz.results68, go_sem]) rfl ⟨by rw [HN.out]; rfl, rfl⟩
      · have hge : ¬ (q : Int) < (p : Int) + 2 + 4 := by omega
        have hDa : D = some acc := by rw [← HDi.out, show 4 - i = 0 by omega, dgs]
        have HC2 : Hid (C = if ((4 : Nat) < 4 ∧ 255 < acc) ∨ 1114111 < acc ∨ (4 ≤ (4 : Nat) ∧ 55296 ≤ acc ∧ acc ≤ 57343) then none else some ⟨2 + 4, acc, decide ((4 : Nat) < 4), false⟩) := by unfold Hid; rw [HE.out, hDa]
        have hacc8 : acc < 4294967296 := Nat.lt_of_lt_of_le hacc (by have : (16 : Nat) ^ i ≤ 16 ^ 8 := Nat.pow_le_pow_right (by decide) (by omega); exact this)
        clear HE hDa HDi hqd
        by_cases g2 : 1114111 < acc
        · have g2' : (acc : Int) > 1114111 := by omega
          go_wp2
          refine bodyPost_ret (v := .tuple #[.int .i64 0, .int .i64 0, .bool false, .bool false]) (by simp [results, Tryz.results68, go_sem]) rfl ⟨by rw [HC2.out, if_pos (by omega)]; rfl, rfl⟩
        · have g2' : ¬ (acc : Int) > 1114111 := by omega
          by_cases g3 : 55296 ≤ acc
          · have g3' : (acc : Int) ≥ 55296 := by omega
            by_cases g4 : acc ≤ 57343
            · have g4' : (acc : Int) ≤ 57343 := by omega
              go_wp2
              refine bodyPost_ret (v := .tuple #[.int .i64 0, .int .i64 0, .bool false, .bool false]) (by simp [results, Tryz.results68, go_sem]) rfl ⟨by rw [HC2.out, if_pos (by omega)]; rfl, rfl⟩
            · have g4' : ¬ (acc : Int) ≤ 57343 := by omega
              go_wp2
              refine bodyPost_ret (v := .tuple #[.int .i64 ((p : Int) + 2 + 4 - (p : Int)), .int .i64 (acc : Int), .bool false, .bool false]) (by simp [results, Tryz.results68, go_sem]) rfl ⟨by rw [HC2.out, if_neg (by omega)]; simp [itR] <;> omega, rfl⟩
          · have g3' : ¬ (acc : Int) ≥ 55296 := by omega
            go_wp2
            refine bodyPost_ret (v := .tuple #[.int .i64 ((p : Int) + 2 + 4 - (p : Int)), .int .i64 (acc : Int), .bool false, .bool false]) (by simp [results, Tryz.results68, go_sem]) rfl ⟨by rw [HC2.out, if_neg (by omega)]; simp [itR] <;> omega, rfl⟩

set_option maxRecDepth 1000000 in
set_option maxHeartbeats 8000000 in
theorem rcoded_8 (s : ByteArray) (p : Nat) (hs : s.size ≤ 4294967280) (hp : p + 2 ≤ s.size) (w : World) :
    Calls Tryz.prog 68 #[.string s, .int .i64 (p : Int), .int .i64 ((p : Int) + 2), .int .i64 8, .int .i64 16] w fun e w' => e = .returned (itR (cod s (p + 2) 2 8 16)) ∧ w' = w := by
  by_cases h0 : s.size < p + 2 + 8
  · have E : Hid (cod s (p + 2) 2 8 16 = none) := by unfold Hid cod; rw [if_pos h0]
    have h1 : (p : Int) + 2 + 8 > (s.size : Int) := by omega
    go_enter Tryz.func68, Tryz.ntmps68
    go_wp2
    refine bodyPost_ret (v := .tuple #[.int .i64 0, .int .i64 0, .bool false, .bool false]) (by simp [results, Tryz.results68, go_sem]) rfl ⟨by rw [E.out]; rfl, rfl⟩
  · have E : cod s (p + 2) 2 8 16 = match dgs s 16 8 (p + 2) 0 with | none => none | some v => if ((8 : Nat) < 4 ∧ 255 < v) ∨ 1114111 < v ∨ (4 ≤ (8 : Nat) ∧ 55296 ≤ v ∧ v ≤ 57343) then none else some ⟨2 + 8, v, decide ((8 : Nat) < 4), false⟩ := by unfold cod; rw [if_neg h0]; cases dgs s 16 8 (p + 2) 0 <;> rfl
    have h1 : ¬ (p : Int) + 2 + 8 > (s.size : Int) := by omega
    obtain ⟨C, hC⟩ : ∃ C, cod s (p + 2) 2 8 16 = C := ⟨_, rfl⟩
    rw [hC] at E ⊢
    have HE : Hid (C = match dgs s 16 8 (p + 2) 0 with | none => none | some v => if ((8 : Nat) < 4 ∧ 255 < v) ∨ 1114111 < v ∨ (4 ≤ (8 : Nat) ∧ 55296 ≤ v ∧ v ≤ 57343) then none else some ⟨2 + 8, v, decide ((8 : Nat) < 4), false⟩) := E
    obtain ⟨D, hD⟩ : ∃ D, dgs s 16 8 (p + 2) 0 = D := ⟨_, rfl⟩
    rw [hD] at HE
    have HD : Hid (dgs s 16 8 (p + 2) 0 = D) := hD
    clear E hC hD
    go_enter Tryz.func68, Tryz.ntmps68
    go_wp2
    go_loopw [14, 15] (fun sn si wr => ∃ (i acc : Nat), i ≤ 8 ∧ si = .int .i64 ((p + 2 + i : Nat) : Int) ∧ sn = .int .i64 (acc : Int) ∧ dgs s 16 (8 - i) (p + 2 + i) acc = D ∧ acc < 16 ^ i ∧ wr = w) (fun _ si _ => p + 2 + 8 - (intOf si).toNat)
    case atStart => exact ⟨0, 0, Nat.zero_le _, by go_num, rfl, HD.out, by decide, by first | trivial | rfl⟩
    case round =>
      obtain ⟨i, acc, hi, rfl, rfl, hd, hacc, hw⟩ := hrel
      subst hw
      have HDi : Hid (dgs s 16 (8 - i) (p + 2 + i) acc = D) := hd
      clear hd HD
      obtain ⟨q, hqd⟩ : ∃ q, p + 2 + i = q := ⟨_, rfl⟩
      rw [hqd] at HDi ⊢
      have HQ : Hid (p + 2 + i = q) := hqd
      by_cases hlt : i < 8
      · have hlt' : (q : Int) < (p : Int) + 2 + 8 := by omega
        have hki : q < s.size := by omega
        have hki' : (q : Int) < (s.size : Int) := by omega
        obtain ⟨c, hcc⟩ : ∃ c, (s[q]'hki).toNat = c := ⟨_, rfl⟩
        have hbt : bt s q = c := by rw [bt_in hki, hcc]
        have hc8 : c < 256 := by rw [← hcc]; exact (s[q]'hki).toNat_lt
        have HC : Hid (∀ v, Calls Tryz.prog 42 #[.int .u8 (c : Int)] v fun e w' => e = .returned (.int .i64 (dgv c : Nat)) ∧ w' = v) := fun v => rdigit_any c hc8 v
        obtain ⟨m, hm⟩ : ∃ m, 8 - i = m + 1 := ⟨8 - i - 1, by omega⟩
        have hstep : dgs s 16 (8 - i) q acc = if dgv c < 16 then dgs s 16 m (q + 1) (acc * 16 + dgv c) else none := by rw [hm, dgs, hbt]
        have hd99 := dgv_le c
        have hpow : (16 : Nat) ^ i ≤ 16 ^ 7 := Nat.pow_le_pow_right (by decide) (by omega)
        have hacc7 : acc < 268435456 := Nat.lt_of_lt_of_le hacc hpow
        obtain ⟨d, hdd⟩ : ∃ d, dgv c = d := ⟨_, rfl⟩
        rw [hdd] at HC hstep hd99
        clear hbt hdd hqd
        by_cases hd : d < 16
        · have HN : Hid (dgs s 16 (8 - (i + 1)) (p + 2 + (i + 1)) (acc * 16 + d) = D) := by
            unfold Hid; rw [← HDi.out, hstep, if_pos hd, show 8 - (i + 1) = m by omega, show p + 2 + (i + 1) = q + 1 by have := HQ.out; omega]
          have hng : ¬ (d : Int) ≥ 16 := by omega
          have hnew : acc * 16 + d < 16 ^ (i + 1) := by
            have h1 : acc * 16 ≤ acc * 16 := Nat.mul_le_mul_left _ (by decide)
            rw [Nat.pow_succ]
            omega
          clear hstep
          go_wp2_with (go_at_call 42; (with_reducible refine (HC.out _).mono ?_); rintro e w3 ⟨rfl, hw3⟩; have hw4 := hw3.symm; clear hw3; subst hw4)
          go_roundw
          case rel => exact ⟨i + 1, acc * 16 + d, by omega, by have := HQ.out; go_num, by go_num, HN.out, hnew, by first | trivial | rfl⟩
          case measure => have := HQ.out; simp [intOf]; omega
        · have HN : Hid (C = none) := by unfold Hid; rw [HE.out, ← HDi.out, hstep, if_neg hd]
          have hgd : (d : Int) ≥ 16 := by omega
          clear hstep
          go_wp2_with (go_at_call 42; (with_reducible refine (HC.out _).mono ?_); rintro e w3 ⟨rfl, hw3⟩; have hw4 := hw3.symm; clear hw3; subst hw4)
          refine bodyPost_ret (v := .tuple #[.int .i64 0, .int .i64 0, .bool false, .bool false]) (by simp [results, Tryz.results68, go_sem]) rfl ⟨by rw [HN.out]; rfl, rfl⟩
      · have hge : ¬ (q : Int) < (p : Int) + 2 + 8 := by omega
        have hDa : D = some acc := by rw [← HDi.out, show 8 - i = 0 by omega, dgs]
        have HC2 : Hid (C = if ((8 : Nat) < 4 ∧ 255 < acc) ∨ 1114111 < acc ∨ (4 ≤ (8 : Nat) ∧ 55296 ≤ acc ∧ acc ≤ 57343) then none else some ⟨2 + 8, acc, decide ((8 : Nat) < 4), false⟩) := by unfold Hid; rw [HE.out, hDa]
        have hacc8 : acc < 4294967296 := Nat.lt_of_lt_of_le hacc (by have : (16 : Nat) ^ i ≤ 16 ^ 8 := Nat.pow_le_pow_right (by decide) (by omega); exact this)
        clear HE hDa HDi hqd
        by_cases g2 : 1114111 < acc
        · have g2' : (acc : Int) > 1114111 := by omega
          go_wp2
          refine bodyPost_ret (v := .tuple #[.int .i64 0, .int .i64 0, .bool false, .bool false]) (by simp [results, Tryz.results68, go_sem]) rfl ⟨by rw [HC2.out, if_pos (by omega)]; rfl, rfl⟩
        · have g2' : ¬ (acc : Int) > 1114111 := by omega
          by_cases g3 : 55296 ≤ acc
          · have g3' : (acc : Int) ≥ 55296 := by omega
            by_cases g4 : acc ≤ 57343
            · have g4' : (acc : Int) ≤ 57343 := by omega
              go_wp2
              refine bodyPost_ret (v := .tuple #[.int .i64 0, .int .i64 0, .bool false, .bool false]) (by simp [results, Tryz.results68, go_sem]) rfl ⟨by rw [HC2.out, if_pos (by omega)]; rfl, rfl⟩
            · have g4' : ¬ (acc : Int) ≤ 57343 := by omega
              go_wp2
              refine bodyPost_ret (v := .tuple #[.int .i64 ((p : Int) + 2 + 8 - (p : Int)), .int .i64 (acc : Int), .bool false, .bool false]) (by simp [results, Tryz.results68, go_sem]) rfl ⟨by rw [HC2.out, if_neg (by omega)]; simp [itR] <;> omega, rfl⟩
          · have g3' : ¬ (acc : Int) ≥ 55296 := by omega
            go_wp2
            refine bodyPost_ret (v := .tuple #[.int .i64 ((p : Int) + 2 + 8 - (p : Int)), .int .i64 (acc : Int), .bool false, .bool false]) (by simp [results, Tryz.results68, go_sem]) rfl ⟨by rw [HC2.out, if_neg (by omega)]; simp [itR] <;> omega, rfl⟩

set_option maxRecDepth 1000000 in
set_option maxHeartbeats 8000000 in
theorem rcoded_3 (s : ByteArray) (p : Nat) (hs : s.size ≤ 4294967280) (hp : p + 1 ≤ s.size) (w : World) :
    Calls Tryz.prog 68 #[.string s, .int .i64 (p : Int), .int .i64 ((p : Int) + 1), .int .i64 3, .int .i64 8] w fun e w' => e = .returned (itR (cod s (p + 1) 1 3 8)) ∧ w' = w := by
  by_cases h0 : s.size < p + 1 + 3
  · have E : Hid (cod s (p + 1) 1 3 8 = none) := by unfold Hid cod; rw [if_pos h0]
    have h1 : (p : Int) + 1 + 3 > (s.size : Int) := by omega
    go_enter Tryz.func68, Tryz.ntmps68
    go_wp2
    refine bodyPost_ret (v := .tuple #[.int .i64 0, .int .i64 0, .bool false, .bool false]) (by simp [results, Tryz.results68, go_sem]) rfl ⟨by rw [E.out]; rfl, rfl⟩
  · have E : cod s (p + 1) 1 3 8 = match dgs s 8 3 (p + 1) 0 with | none => none | some v => if ((3 : Nat) < 4 ∧ 255 < v) ∨ 1114111 < v ∨ (4 ≤ (3 : Nat) ∧ 55296 ≤ v ∧ v ≤ 57343) then none else some ⟨1 + 3, v, decide ((3 : Nat) < 4), false⟩ := by unfold cod; rw [if_neg h0]; cases dgs s 8 3 (p + 1) 0 <;> rfl
    have h1 : ¬ (p : Int) + 1 + 3 > (s.size : Int) := by omega
    obtain ⟨C, hC⟩ : ∃ C, cod s (p + 1) 1 3 8 = C := ⟨_, rfl⟩
    rw [hC] at E ⊢
    have HE : Hid (C = match dgs s 8 3 (p + 1) 0 with | none => none | some v => if ((3 : Nat) < 4 ∧ 255 < v) ∨ 1114111 < v ∨ (4 ≤ (3 : Nat) ∧ 55296 ≤ v ∧ v ≤ 57343) then none else some ⟨1 + 3, v, decide ((3 : Nat) < 4), false⟩) := E
    obtain ⟨D, hD⟩ : ∃ D, dgs s 8 3 (p + 1) 0 = D := ⟨_, rfl⟩
    rw [hD] at HE
    have HD : Hid (dgs s 8 3 (p + 1) 0 = D) := hD
    clear E hC hD
    go_enter Tryz.func68, Tryz.ntmps68
    go_wp2
    go_loopw [14, 15] (fun sn si wr => ∃ (i acc : Nat), i ≤ 3 ∧ si = .int .i64 ((p + 1 + i : Nat) : Int) ∧ sn = .int .i64 (acc : Int) ∧ dgs s 8 (3 - i) (p + 1 + i) acc = D ∧ acc < 16 ^ i ∧ wr = w) (fun _ si _ => p + 1 + 3 - (intOf si).toNat)
    case atStart => exact ⟨0, 0, Nat.zero_le _, by go_num, rfl, HD.out, by decide, by first | trivial | rfl⟩
    case round =>
      obtain ⟨i, acc, hi, rfl, rfl, hd, hacc, hw⟩ := hrel
      subst hw
      have HDi : Hid (dgs s 8 (3 - i) (p + 1 + i) acc = D) := hd
      clear hd HD
      obtain ⟨q, hqd⟩ : ∃ q, p + 1 + i = q := ⟨_, rfl⟩
      rw [hqd] at HDi ⊢
      have HQ : Hid (p + 1 + i = q) := hqd
      by_cases hlt : i < 3
      · have hlt' : (q : Int) < (p : Int) + 1 + 3 := by omega
        have hki : q < s.size := by omega
        have hki' : (q : Int) < (s.size : Int) := by omega
        obtain ⟨c, hcc⟩ : ∃ c, (s[q]'hki).toNat = c := ⟨_, rfl⟩
        have hbt : bt s q = c := by rw [bt_in hki, hcc]
        have hc8 : c < 256 := by rw [← hcc]; exact (s[q]'hki).toNat_lt
        have HC : Hid (∀ v, Calls Tryz.prog 42 #[.int .u8 (c : Int)] v fun e w' => e = .returned (.int .i64 (dgv c : Nat)) ∧ w' = v) := fun v => rdigit_any c hc8 v
        obtain ⟨m, hm⟩ : ∃ m, 3 - i = m + 1 := ⟨3 - i - 1, by omega⟩
        have hstep : dgs s 8 (3 - i) q acc = if dgv c < 8 then dgs s 8 m (q + 1) (acc * 8 + dgv c) else none := by rw [hm, dgs, hbt]
        have hd99 := dgv_le c
        have hpow : (16 : Nat) ^ i ≤ 16 ^ 7 := Nat.pow_le_pow_right (by decide) (by omega)
        have hacc7 : acc < 268435456 := Nat.lt_of_lt_of_le hacc hpow
        obtain ⟨d, hdd⟩ : ∃ d, dgv c = d := ⟨_, rfl⟩
        rw [hdd] at HC hstep hd99
        clear hbt hdd hqd
        by_cases hd : d < 8
        · have HN : Hid (dgs s 8 (3 - (i + 1)) (p + 1 + (i + 1)) (acc * 8 + d) = D) := by
            unfold Hid; rw [← HDi.out, hstep, if_pos hd, show 3 - (i + 1) = m by omega, show p + 1 + (i + 1) = q + 1 by have := HQ.out; omega]
          have hng : ¬ (d : Int) ≥ 8 := by omega
          have hnew : acc * 8 + d < 16 ^ (i + 1) := by
            have h1 : acc * 8 ≤ acc * 16 := Nat.mul_le_mul_left _ (by decide)
            rw [Nat.pow_succ]
            omega
          clear hstep
          go_wp2_with (go_at_call 42; (with_reducible refine (HC.out _).mono ?_); rintro e w3 ⟨rfl, hw3⟩; have hw4 := hw3.symm; clear hw3; subst hw4)
          go_roundw
          case rel => exact ⟨i + 1, acc * 8 + d, by omega, by have := HQ.out; go_num, by go_num, HN.out, hnew, by first | trivial | rfl⟩
          case measure => have := HQ.out; simp [intOf]; omega
        · have HN : Hid (C = none) := by unfold Hid; rw [HE.out, ← HDi.out, hstep, if_neg hd]
          have hgd : (d : Int) ≥ 8 := by omega
          clear hstep
          go_wp2_with (go_at_call 42; (with_reducible refine (HC.out _).mono ?_); rintro e w3 ⟨rfl, hw3⟩; have hw4 := hw3.symm; clear hw3; subst hw4)
          refine bodyPost_ret (v := .tuple #[.int .i64 0, .int .i64 0, .bool false, .bool false]) (by simp [results, Tryz.results68, go_sem]) rfl ⟨by rw [HN.out]; rfl, rfl⟩
      · have hge : ¬ (q : Int) < (p : Int) + 1 + 3 := by omega
        have hDa : D = some acc := by rw [← HDi.out, show 3 - i = 0 by omega, dgs]
        have HC2 : Hid (C = if ((3 : Nat) < 4 ∧ 255 < acc) ∨ 1114111 < acc ∨ (4 ≤ (3 : Nat) ∧ 55296 ≤ acc ∧ acc ≤ 57343) then none else some ⟨1 + 3, acc, decide ((3 : Nat) < 4), false⟩) := by unfold Hid; rw [HE.out, hDa]
        have hacc8 : acc < 4294967296 := Nat.lt_of_lt_of_le hacc (by have : (16 : Nat) ^ i ≤ 16 ^ 8 := Nat.pow_le_pow_right (by decide) (by omega); exact this)
        clear HE hDa HDi hqd
        by_cases g1 : 255 < acc
        · have g1' : (acc : Int) > 255 := by omega
          go_wp2
          refine bodyPost_ret (v := .tuple #[.int .i64 0, .int .i64 0, .bool false, .bool false]) (by simp [results, Tryz.results68, go_sem]) rfl ⟨by rw [HC2.out, if_pos (by omega)]; rfl, rfl⟩
        · have g1' : ¬ (acc : Int) > 255 := by omega
          have g2' : ¬ (acc : Int) > 1114111 := by omega
          go_wp2
          refine bodyPost_ret (v := .tuple #[.int .i64 ((p : Int) + 1 + 3 - (p : Int)), .int .i64 (acc : Int), .bool true, .bool false]) (by simp [results, Tryz.results68, go_sem]) rfl ⟨by rw [HC2.out, if_neg (by omega)]; simp [itR] <;> omega, rfl⟩
end Go.Proofs.YtnaipmgdipflgaaGreatDoor
