import Derived.Test.YtnaipmgdipflgaaGreatDoorRl6
namespace Go.Proofs.YtnaipmgdipflgaaGreatDoor
open Go.ChangeShapes Go.WideShapes Go.ChangeAt Go.RowKit
set_option linter.unusedVariables false
set_option linter.unusedSimpArgs false

/-- the letters behind a backslash, and what they stand for -/
def let8 : List (Nat × Nat) := [(97, 7), (98, 8), (102, 12), (110, 10), (114, 13), (116, 9), (118, 11), (92, 92)]
theorem let8_hit : ∀ i, i < 8 → ∀ q, q = 34 ∨ q = 39 → esc (let8.getD i (0, 0)).1 q = some (let8.getD i (0, 0)).2 := by
  have h34 : ∀ i, i < 8 → esc (let8.getD i (0, 0)).1 34 = some (let8.getD i (0, 0)).2 := by decide
  have h39 : ∀ i, i < 8 → esc (let8.getD i (0, 0)).1 39 = some (let8.getD i (0, 0)).2 := by decide
  intro i hi q hq
  rcases hq with rfl | rfl
  · exact h34 i hi
  · exact h39 i hi
theorem let8_lt : ∀ i, i < 8 → (let8.getD i (0, 0)).1 < 256 ∧ (let8.getD i (0, 0)).2 < 256 := by decide
set_option maxRecDepth 100000 in
theorem let8_get (w : World) (t : TypeId) : ∀ i, i < 8 → (w.alloc (.cells #[.int .u8 97, .int .u8 7, .int .u8 98, .int .u8 8, .int .u8 102, .int .u8 12, .int .u8 110, .int .u8 10, .int .u8 114, .int .u8 13, .int .u8 116, .int .u8 9, .int .u8 118, .int .u8 11, .int .u8 92, .int .u8 92] t)).cell? ⟨w.heap.size, i * 2, none⟩ = some (.int .u8 ((let8.getD i (0, 0)).1 : Nat)) ∧ (w.alloc (.cells #[.int .u8 97, .int .u8 7, .int .u8 98, .int .u8 8, .int .u8 102, .int .u8 12, .int .u8 110, .int .u8 10, .int .u8 114, .int .u8 13, .int .u8 116, .int .u8 9, .int .u8 118, .int .u8 11, .int .u8 92, .int .u8 92] t)).cell? ⟨w.heap.size, i * 2 + 1, none⟩ = some (.int .u8 ((let8.getD i (0, 0)).2 : Nat)) := by
  intro i hi
  have X := Bx.new w #[.int .u8 97, .int .u8 7, .int .u8 98, .int .u8 8, .int .u8 102, .int .u8 12, .int .u8 110, .int .u8 10, .int .u8 114, .int .u8 13, .int .u8 116, .int .u8 9, .int .u8 118, .int .u8 11, .int .u8 92, .int .u8 92] t
  rw [X.cell, X.cell]
  have : i = 0 ∨ i = 1 ∨ i = 2 ∨ i = 3 ∨ i = 4 ∨ i = 5 ∨ i = 6 ∨ i = 7 := by omega
  rcases this with rfl | rfl | rfl | rfl | rfl | rfl | rfl | rfl <;> exact ⟨rfl, rfl⟩

set_option maxRecDepth 1000000 in
set_option maxHeartbeats 8000000 in
theorem rItem_back (s : ByteArray) (k q : Nat) (hs : s.size ≤ 4294967280) (hk : k < s.size) (hq : q = 34 ∨ q = 39) (hc : (s[k]'hk).toNat = 92) (h1 : k + 1 < s.size) (c : Nat) (hcc : (s[k + 1]'h1).toNat = c) (w : World) (hT : U8 w) :
    Calls Tryz.prog 43 #[.string s, .int .i64 (k : Int), .int .u8 (q : Int)] w fun e w' => e = .returned (itR (itm s k q)) ∧ Below w.heap.size w w' := by
  have hk' : (k : Int) < (s.size : Int) := by omega
  have h1' : ¬ (k : Int) + 1 ≥ (s.size : Int) := by omega
  have h1'' : (k : Int) + 1 < (s.size : Int) := by omega
  have E : itm s k q = esA s k q := itm_back (by rw [bt_in hk, hc])
  rw [E]
  have hb1 : bt s (k + 1) = c := by rw [bt_in h1, hcc]
  have hc256 : c < 256 := by rw [← hcc]; exact (s[k + 1]'h1).toNat_lt
  obtain ⟨V, hV⟩ : ∃ V, itR (esA s k q) = V := ⟨_, rfl⟩
  have HVV : Hid (itR (esA s k q) = V) := hV
  rw [hV]
  obtain ⟨w1, e1⟩ : ∃ w1, w.alloc (.cells #[.int .u8 97, .int .u8 7, .int .u8 98, .int .u8 8, .int .u8 102, .int .u8 12, .int .u8 110, .int .u8 10, .int .u8 114, .int .u8 13, .int .u8 116, .int .u8 9, .int .u8 118, .int .u8 11, .int .u8 92, .int .u8 92] 104) = w1 := ⟨_, rfl⟩
  have HC : Hid (∀ i, i < 8 → w1.cell? ⟨w.heap.size, i * 2, none⟩ = some (.int .u8 ((let8.getD i (0, 0)).1 : Nat)) ∧ w1.cell? ⟨w.heap.size, i * 2 + 1, none⟩ = some (.int .u8 ((let8.getD i (0, 0)).2 : Nat))) := by rw [← e1]; exact let8_get w _
  have HB : Hid (Below w.heap.size w w1) := by rw [← e1]; exact (Below.refl _ w).alloc (Nat.le_refl _) _
  have hz : w.heap.size < w1.heap.size := by rw [← e1]; simp
  have HHB : Hid (bt s (k + 1) = c) := hb1
  clear E hT hV hb1
  go_enter Tryz.func43, Tryz.ntmps43
  go_wp2
  try rw [e1]
  clear e1
  go_loopw [14] (fun si wi => ∃ i : Nat, i ≤ 8 ∧ si = .int .i64 (i : Int) ∧ (∀ j, j < i → (let8.getD j (0, 0)).1 ≠ c) ∧ wi = w1) (fun si _ => 8 - (intOf si).toNat)
  case atStart => exact ⟨0, by omega, rfl, fun j hj => by omega, by first | rfl | trivial⟩
  case round =>
    obtain ⟨i, hi8, rfl, hno, rfl⟩ := hrel
    have HNO : Hid (∀ j, j < i → (let8.getD j (0, 0)).1 ≠ c) := hno
    clear hno
    by_cases hlt : i < 8
    · have hlt' : (i : Int) < 8 := by omega
      obtain ⟨c0, c1⟩ := HC.out i hlt
      obtain ⟨l1, l2⟩ := let8_lt i hlt
      have HH := let8_hit i hlt q hq
      obtain ⟨F, hF⟩ : ∃ F, (let8.getD i (0, 0)).1 = F := ⟨_, rfl⟩
      obtain ⟨G, hG⟩ : ∃ G, (let8.getD i (0, 0)).2 = G := ⟨_, rfl⟩
      rw [hF] at c0 l1 HH
      rw [hG] at c1 l2 HH
      by_cases hit : F = c
      · have hq1 : ((F : Int) == (c : Int)) = true := by simp; omega
        have HV : Hid (itR (some ⟨2, G, false, false⟩) = V) := by
          unfold Hid
          rw [← HVV.out]
          unfold esA
          rw [if_neg (by omega), HHB.out, ← hit, HH]
        clear HH hF hG
        subst hit
        go_wp2
        go_quiet (fail)
        go_wp2
        refine bodyPost_ret (v := .tuple #[.int .i64 2, .int .i64 (G : Int), .bool false, .bool false]) (by simp [results, Tryz.results43, go_sem]) rfl ⟨by rw [← HV.out]; rfl, bel_drewN HB.out⟩
      · have hq1 : ((F : Int) == (c : Int)) = false := by simp; omega
        have HN2 : Hid (∀ j, j < i + 1 → (let8.getD j (0, 0)).1 ≠ c) := fun j hj => by
          by_cases h : j = i
          · subst h; rw [hF]; exact hit
          · exact HNO.out j (by omega)
        clear HH hF hG
        go_wp2
        go_roundw
        case rel => exact ⟨i + 1, by omega, by go_num, HN2.out, by first | rfl | trivial⟩
        case measure => simp [intOf]; omega
    · have hge : ¬ (i : Int) < 8 := by omega
      have hn : ∀ j, j < 8 → (let8.getD j (0, 0)).1 ≠ c := fun j hj => HNO.out j (by omega)
      have n0 : 97 ≠ c := hn 0 (by omega)
      have n1 : 98 ≠ c := hn 1 (by omega)
      have n2 : 102 ≠ c := hn 2 (by omega)
      have n3 : 110 ≠ c := hn 3 (by omega)
      have n4 : 114 ≠ c := hn 4 (by omega)
      have n5 : 116 ≠ c := hn 5 (by omega)
      have n6 : 118 ≠ c := hn 6 (by omega)
      have n7 : 92 ≠ c := hn 7 (by omega)
      have hb1 := HHB.out
      by_cases hcq : c = q
      · have hqq : ((c : Int) == (q : Int)) = true := by simp; omega
        have HV : Hid (itR (some ⟨2, c, false, false⟩) = V) := by
          unfold Hid
          rw [← HVV.out]
          unfold esA
          rw [if_neg (by omega), hb1, show esc c q = some c by subst hcq; rcases hq with rfl | rfl <;> decide]
        clear hcq hb1 hn n0 n1 n2 n3 n4 n5 n6 n7
        go_wp2
        refine bodyPost_ret (v := .tuple #[.int .i64 2, .int .i64 (c : Int), .bool false, .bool false]) (by simp [results, Tryz.results43, go_sem]) rfl ⟨by rw [← HV.out]; rfl, HB.out⟩
      have hqq : ((c : Int) == (q : Int)) = false := by simp; omega
      have hes : esc c q = none := by
        unfold esc
        rw [if_neg (by omega), if_neg (by omega), if_neg (by omega), if_neg (by omega), if_neg (by omega), if_neg (by omega), if_neg (by omega), if_neg (by omega), if_neg (by omega)]
      clear hn n0 n1 n2 n3 n4 n5 n6 n7
      by_cases hx : c = 120
      · have g1 : ((c : Int) == 120) = true := by simp; omega
        have E2 : esA s k q = cod s (k + 2) 2 2 16 := by unfold esA; rw [if_neg (by omega), hb1, hes]; simp only; rw [if_pos hx]
        have HCD : Hid (∀ v, Calls Tryz.prog 68 #[.string s, .int .i64 (k : Int), .int .i64 ((k : Int) + 2), .int .i64 2, .int .i64 16] v fun e w' => e = .returned (itR (cod s (k + 2) 2 2 16)) ∧ w' = v) := fun v => rcoded_2 s k hs (by omega) v
        have HV : Hid (itR (cod s (k + 2) 2 2 16) = V) := by unfold Hid; rw [← E2]; exact HVV.out
        obtain ⟨O, hO⟩ : ∃ O, cod s (k + 2) 2 2 16 = O := ⟨_, rfl⟩
        rw [hO] at HCD HV
        clear E2 hO hes
        cases O with
        | none =>
          have HCD' : Hid (∀ v, Calls Tryz.prog 68 #[.string s, .int .i64 (k : Int), .int .i64 ((k : Int) + 2), .int .i64 2, .int .i64 16] v fun e w' => e = .returned (.tuple #[.int .i64 0, .int .i64 0, .bool false, .bool false]) ∧ w' = v) := HCD
          clear HCD
          go_wp2_with (go_at_call 68; (with_reducible refine (HCD'.out _).mono ?_); rintro e w3 ⟨rfl, hw3⟩; have hw4 := hw3.symm; clear hw3; subst hw4)
          refine bodyPost_ret (v := .tuple #[.int .i64 0, .int .i64 0, .bool false, .bool false]) (by simp [results, Tryz.results43, go_sem]) rfl ⟨by rw [← HV.out]; rfl, HB.out⟩
        | some it =>
          obtain ⟨n0, v0, e0, b0⟩ := it
          have HCD' : Hid (∀ v, Calls Tryz.prog 68 #[.string s, .int .i64 (k : Int), .int .i64 ((k : Int) + 2), .int .i64 2, .int .i64 16] v fun e w' => e = .returned (.tuple #[.int .i64 (n0 : Int), .int .i64 (v0 : Int), .bool e0, .bool b0]) ∧ w' = v) := HCD
          clear HCD
          go_wp2_with (go_at_call 68; (with_reducible refine (HCD'.out _).mono ?_); rintro e w3 ⟨rfl, hw3⟩; have hw4 := hw3.symm; clear hw3; subst hw4)
          refine bodyPost_ret (v := .tuple #[.int .i64 (n0 : Int), .int .i64 (v0 : Int), .bool e0, .bool b0]) (by simp [results, Tryz.results43, go_sem]) rfl ⟨by rw [← HV.out]; rfl, HB.out⟩
      have g1 : ((c : Int) == 120) = false := by simp; omega
      by_cases hu : c = 117
      · have g2 : ((c : Int) == 117) = true := by simp; omega
        have E2 : esA s k q = cod s (k + 2) 2 4 16 := by unfold esA; rw [if_neg (by omega), hb1, hes]; simp only; rw [if_neg hx, if_pos hu]
        have HCD : Hid (∀ v, Calls Tryz.prog 68 #[.string s, .int .i64 (k : Int), .int .i64 ((k : Int) + 2), .int .i64 4, .int .i64 16] v fun e w' => e = .returned (itR (cod s (k + 2) 2 4 16)) ∧ w' = v) := fun v => rcoded_4 s k hs (by omega) v
        have HV : Hid (itR (cod s (k + 2) 2 4 16) = V) := by unfold Hid; rw [← E2]; exact HVV.out
        obtain ⟨O, hO⟩ : ∃ O, cod s (k + 2) 2 4 16 = O := ⟨_, rfl⟩
        rw [hO] at HCD HV
        clear E2 hO hes
        cases O with
        | none =>
          have HCD' : Hid (∀ v, Calls Tryz.prog 68 #[.string s, .int .i64 (k : Int), .int .i64 ((k : Int) + 2), .int .i64 4, .int .i64 16] v fun e w' => e = .returned (.tuple #[.int .i64 0, .int .i64 0, .bool false, .bool false]) ∧ w' = v) := HCD
          clear HCD
          go_wp2_with (go_at_call 68; (with_reducible refine (HCD'.out _).mono ?_); rintro e w3 ⟨rfl, hw3⟩; have hw4 := hw3.symm; clear hw3; subst hw4)
          refine bodyPost_ret (v := .tuple #[.int .i64 0, .int .i64 0, .bool false, .bool false]) (by simp [results, Tryz.results43, go_sem]) rfl ⟨by rw [← HV.out]; rfl, HB.out⟩
        | some it =>
          obtain ⟨n0, v0, e0, b0⟩ := it
          have HCD' : Hid (∀ v, Calls Tryz.prog 68 #[.string s, .int .i64 (k : Int), .int .i64 ((k : Int) + 2), .int .i64 4, .int .i64 16] v fun e w' => e = .returned (.tuple #[.int .i64 (n0 : Int), .int .i64 (v0 : Int), .bool e0, .bool b0]) ∧ w' = v) := HCD
          clear HCD
          go_wp2_with (go_at_call 68; (with_reducible refine (HCD'.out _).mono ?_); rintro e w3 ⟨rfl, hw3⟩; have hw4 := hw3.symm; clear hw3; subst hw4)
          refine bodyPost_ret (v := .tuple #[.int .i64 (n0 : Int), .int .i64 (v0 : Int), .bool e0, .bool b0]) (by simp [results, Tryz.results43, go_sem]) rfl ⟨by rw [← HV.out]; rfl, HB.out⟩
      have g2 : ((c : Int) == 117) = false := by simp; omega
      by_cases hU : c = 85
      · have g3 : ((c : Int) == 85) = true := by simp; omega
        have E2 : esA s k q = cod s (k + 2) 2 8 16 := by unfold esA; rw [if_neg (by omega), hb1, hes]; simp only; rw [if_neg hx, if_neg hu, if_pos hU]
        have HCD : Hid (∀ v, Calls Tryz.prog 68 #[.string s, .int .i64 (k : Int), .int .i64 ((k : Int) + 2), .int .i64 8, .int .i64 16] v fun e w' => e = .returned (itR (cod s (k + 2) 2 8 16)) ∧ w' = v) := fun v => rcoded_8 s k hs (by omega) v
        have HV : Hid (itR (cod s (k + 2) 2 8 16) = V) := by unfold Hid; rw [← E2]; exact HVV.out
        obtain ⟨O, hO⟩ : ∃ O, cod s (k + 2) 2 8 16 = O := ⟨_, rfl⟩
        rw [hO] at HCD HV
        clear E2 hO hes
        cases O with
        | none =>
          have HCD' : Hid (∀ v, Calls Tryz.prog 68 #[.string s, .int .i64 (k : Int), .int .i64 ((k : Int) + 2), .int .i64 8, .int .i64 16] v fun e w' => e = .returned (.tuple #[.int .i64 0, .int .i64 0, .bool false, .bool false]) ∧ w' = v) := HCD
          clear HCD
          go_wp2_with (go_at_call 68; (with_reducible refine (HCD'.out _).mono ?_); rintro e w3 ⟨rfl, hw3⟩; have hw4 := hw3.symm; clear hw3; subst hw4)
          refine bodyPost_ret (v := .tuple #[.int .i64 0, .int .i64 0, .bool false, .bool false]) (by simp [results, Tryz.results43, go_sem]) rfl ⟨by rw [← HV.out]; rfl, HB.out⟩
        | some it =>
          obtain ⟨n0, v0, e0, b0⟩ := it
          have HCD' : Hid (∀ v, Calls Tryz.prog 68 #[.string s, .int .i64 (k : Int), .int .i64 ((k : Int) + 2), .int .i64 8, .int .i64 16] v fun e w' => e = .returned (.tuple #[.int .i64 (n0 : Int), .int .i64 (v0 : Int), .bool e0, .bool b0]) ∧ w' = v) := HCD
          clear HCD
          go_wp2_with (go_at_call 68; (with_reducible refine (HCD'.out _).mono ?_); rintro e w3 ⟨rfl, hw3⟩; have hw4 := hw3.symm; clear hw3; subst hw4)
          refine bodyPost_ret (v := .tuple #[.int .i64 (n0 : Int), .int .i64 (v0 : Int), .bool e0, .bool b0]) (by simp [results, Tryz.results43, go_sem]) rfl ⟨by rw [← HV.out]; rfl, HB.out⟩
      have g3 : ((c : Int) == 85) = false := by simp; omega
      by_cases h8 : 48 ≤ c ∧ c ≤ 55
      · have g4 : (c : Int) ≥ 48 := by omega
        have g5 : (c : Int) ≤ 55 := by omega
        have E2 : esA s k q = cod s (k + 1) 1 3 8 := by unfold esA; rw [if_neg (by omega), hb1, hes]; simp only; rw [if_neg hx, if_neg hu, if_neg hU, if_pos h8]
        have HCD : Hid (∀ v, Calls Tryz.prog 68 #[.string s, .int .i64 (k : Int), .int .i64 ((k : Int) + 1), .int .i64 3, .int .i64 8] v fun e w' => e = .returned (itR (cod s (k + 1) 1 3 8)) ∧ w' = v) := fun v => rcoded_3 s k hs (by omega) v
        have HV : Hid (itR (cod s (k + 1) 1 3 8) = V) := by unfold Hid; rw [← E2]; exact HVV.out
        obtain ⟨O, hO⟩ : ∃ O, cod s (k + 1) 1 3 8 = O := ⟨_, rfl⟩
        rw [hO] at HCD HV
        clear E2 hO hes
        cases O with
        | none =>
          have HCD' : Hid (∀ v, Calls Tryz.prog 68 #[.string s, .int .i64 (k : Int), .int .i64 ((k : Int) + 1), .int .i64 3, .int .i64 8] v fun e w' => e = .returned (.tuple #[.int .i64 0, .int .i64 0, .bool false, .bool false]) ∧ w' = v) := HCD
          clear HCD
          go_wp2_with (go_at_call 68; (with_reducible refine (HCD'.out _).mono ?_); rintro e w3 ⟨rfl, hw3⟩; have hw4 := hw3.symm; clear hw3; subst hw4)
          refine bodyPost_ret (v := .tuple #[.int .i64 0, .int .i64 0, .bool false, .bool false]) (by simp [results, Tryz.results43, go_sem]) rfl ⟨by rw [← HV.out]; rfl, HB.out⟩
        | some it =>
          obtain ⟨n0, v0, e0, b0⟩ := it
          have HCD' : Hid (∀ v, Calls Tryz.prog 68 #[.string s, .int .i64 (k : Int), .int .i64 ((k : Int) + 1), .int .i64 3, .int .i64 8] v fun e w' => e = .returned (.tuple #[.int .i64 (n0 : Int), .int .i64 (v0 : Int), .bool e0, .bool b0]) ∧ w' = v) := HCD
          clear HCD
          go_wp2_with (go_at_call 68; (with_reducible refine (HCD'.out _).mono ?_); rintro e w3 ⟨rfl, hw3⟩; have hw4 := hw3.symm; clear hw3; subst hw4)
          refine bodyPost_ret (v := .tuple #[.int .i64 (n0 : Int), .int .i64 (v0 : Int), .bool e0, .bool b0]) (by simp [results, Tryz.results43, go_sem]) rfl ⟨by rw [← HV.out]; rfl, HB.out⟩
      have HV : Hid (itR none = V) := by
        unfold Hid
        rw [← HVV.out]
        unfold esA
        rw [if_neg (by omega), hb1, hes]
        simp only
        rw [if_neg hx, if_neg hu, if_neg hU, if_neg h8]
      clear hes hb1
      have hlh : (¬ (c : Int) ≥ 48) ∨ ((c : Int) ≥ 48 ∧ ¬ (c : Int) ≤ 55) := by omega
      rcases hlh with g4 | ⟨g4, g5⟩
      all_goals
        go_wp2
        refine bodyPost_ret (v := .tuple #[.int .i64 0, .int .i64 0, .bool false, .bool false]) (by simp [results, Tryz.results43, go_sem]) rfl ⟨by rw [← HV.out]; rfl, HB.out⟩
end Go.Proofs.YtnaipmgdipflgaaGreatDoor
