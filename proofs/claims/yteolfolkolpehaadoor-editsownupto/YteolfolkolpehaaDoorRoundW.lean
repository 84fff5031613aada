import Derived.Test.YteolfolkolpehaaDoorParsesW
import Derived.Test.YteolfolkolpehaaDoorPrintsW
namespace Go.Proofs.YteolfolkolpehaaDoor
open Go.ChangeShapes Go.WideShapes Go.ChangeAt Go.RowKit
set_option linter.unusedVariables false

theorem prtB_data {xs : List Ed} (h : xs.length ≤ 65536) : (prtB xs).data.toList = prt xs := by unfold prtB; rw [if_neg (by omega)]
theorem prtB_size {xs : List Ed} (hF : ∀ e ∈ xs, EdFit e) (hT : tots xs ≤ 1048576) : (prtB xs).size ≤ 16777216 := by
  by_cases h : 65536 < xs.length
  · unfold prtB; rw [if_pos h]; decide
  · have h1 := prtB_data (xs := xs) (by omega)
    have h2 := prt_len hF
    rw [← bytes_len, h1]
    omega
theorem prs_all {xs : List Ed} (h : xs.length ≤ 65536) (hF : ∀ e ∈ xs, EdFit e) : prs (prtB xs) (prtB xs).size 0 [] = (xs, 0, 0) := by
  have := prs_print (prtB xs) xs [] 0 (by rw [List.drop_zero, prtB_data h]) (by simpa using h) hF
  rw [Nat.sub_zero, List.nil_append] at this
  exact this
theorem prs_none {xs : List Ed} (h : 65536 < xs.length) : prtB xs = ⟨#[]⟩ := by unfold prtB; rw [if_pos h]
theorem prs_text {s : ByteArray} {N : List Ed} {P : Nat} (hs : s.size ≤ 16777216) (h : prs s s.size 0 [] = (N, 0, P)) : P = 0 ∧ prtB N = s ∧ (∀ e ∈ N, EdFit e) ∧ tots N ≤ s.size ∧ N.length ≤ 65536 := by
  obtain ⟨h1, xs, h2, h3, h4⟩ := prs_back s hs s.size 0 [] N P h (by omega) (Nat.zero_le _)
  rw [List.nil_append] at h2
  subst h2
  have h5 : N.length ≤ 65536 := by have := (prs_lens s s.size 0 [] (Nat.zero_le _)).1; rw [h] at this; exact this
  rw [List.drop_zero] at h3
  refine ⟨h1, ?_, h4, ?_, h5⟩
  · apply ByteArray.ext
    apply Array.toList_inj.1
    rw [prtB_data h5, h3]
  · have := tots_le N
    rw [← h3, bytes_len] at this
    exact this
/-- what a list that is cut is read as -/
theorem prs_part {xs : List Ed} (h : xs.length ≤ 65536) (hF : ∀ e ∈ xs, EdFit e) (cut : Nat) (hc : cut < (prtB xs).size) (L : List Ed) (E : Int) (P : Nat) (hq : prs ((prtB xs).extract 0 cut) ((prtB xs).extract 0 cut).size 0 [] = (L, E, P)) :
    (cut = 0 → E = 0) ∧ (∀ hc1 : 0 < cut, ((prtB xs)[cut - 1]'(by omega) = 10 → E = 0) ∧ ((prtB xs)[cut - 1]'(by omega) ≠ 10 → E = 12 ∧ P = cut)) := by
  have hd : ((prtB xs).extract 0 cut).data.toList = (prt xs).take cut := by
    rw [Lib.extract_data, List.drop_zero, Nat.sub_zero, prtB_data h]
  have hlen : (prt xs).length = (prtB xs).size := by rw [← prtB_data h, bytes_len]
  have hsz : ((prtB xs).extract 0 cut).size = cut := by rw [← bytes_len, hd, List.length_take]; omega
  have key := prs_cut ((prtB xs).extract 0 cut) xs [] 0 ((prt xs).take cut) ((prt xs).drop cut) (by rw [List.drop_zero, hd]) (List.take_append_drop _ _) (by simpa using h) hF
  rw [Nat.sub_zero, hq, hsz] at key
  simp only [Prod.mk.injEq] at key
  refine ⟨fun h0 => key.1 (.inl (by rw [h0, List.take_zero])), fun hc1 => ?_⟩
  have hne : (prt xs).take cut ≠ [] := by
    intro h1
    have := congrArg List.length h1
    rw [List.length_take] at this
    simp only [List.length_nil] at this
    omega
  have hlast : ((prt xs).take cut).getLast? = some ((prtB xs)[cut - 1]'(by omega)) := by
    rw [List.getLast?_eq_getElem?, List.length_take, Nat.min_eq_left (by omega), List.getElem?_take_of_lt (by omega), ← prtB_data h, List.getElem?_eq_getElem (by rw [bytes_len]; omega)]
    rfl
  rw [hlast] at key
  exact ⟨fun h1 => key.1 (.inr (by rw [h1])), fun h1 => key.2 hne (fun h2 => h1 (Option.some.inj h2))⟩
/-- a printed list ends in a line feed -/
theorem prt_feed {xs : List Ed} (h : xs.length ≤ 65536) (h0 : 0 < (prtB xs).size) : (prtB xs)[(prtB xs).size - 1]'(by omega) = 10 := by
  have hlen : (prt xs).length = (prtB xs).size := by rw [← prtB_data h, bytes_len]
  obtain ⟨ys, e, rfl⟩ : ∃ ys e, xs = ys ++ [e] := by
    have hne : xs ≠ [] := by intro h1; subst h1; simp [prt] at hlen; omega
    exact ⟨xs.dropLast, xs.getLast hne, (List.dropLast_concat_getLast hne).symm⟩
  obtain ⟨x, hx, -⟩ := ln_last e
  have hp : prt (ys ++ [e]) = (prt ys ++ x) ++ [10] := by
    unfold prt
    rw [List.flatMap_append]
    simp only [List.flatMap_cons, List.flatMap_nil, List.append_nil, hx, List.append_assoc]
  have h1 : (prt (ys ++ [e])).getLast? = some 10 := by rw [hp]; simp
  rw [List.getLast?_eq_getElem?, hlen, ← prtB_data h, List.getElem?_eq_getElem (by rw [bytes_len]; omega)] at h1
  exact Option.some.inj h1

set_option maxRecDepth 1000000 in
set_option maxHeartbeats 2000000 in
theorem editsRound_walk (a : Option Addr) (cap : Nat) (xs : List Ed) (s : ByteArray) (cut : Int) (w : World) (h : EdsA w a xs) (hF : ∀ e ∈ xs, EdFit e) (hn : a = none → xs.length = 0 ∧ cap = 0) (hl : xs.length * 32 ≤ 140737488351232) (hs : s.size ≤ 140737488351232) (hc0 : -9223372036854775808 ≤ cut) (hc1 : cut ≤ 9223372036854775807) (hB : (4 * xs.length + tot xs) + s.size ≤ 1048576) (htab : Lib.TabIs Tryd.prog w "internal/strconv.uint64pow10" .u64 Lib.pow10Tab) :
    Calls Tryd.prog 3 #[.slice a xs.length cap, .string s, .int .i64 cut] w fun e w' => e = .returned (.bool true) ∧ Below w.heap.size w w' := by
  have H : Hid (EdsA w a xs) := h
  have HF : Hid (∀ e ∈ xs, EdFit e) := hF
  have HT : Hid (Lib.TabBelow Tryd.prog w.heap.size w "internal/strconv.uint64pow10" .u64 Lib.pow10Tab) := Lib.tabBelow_of_tabIs htab
  have HL : Hid (xs.length ≤ maxLen) := by unfold Hid maxLen; omega
  have hT : tots xs ≤ 1048576 := by rw [tots_tot]; omega
  have hS := prtB_size hF hT
  obtain ⟨N, E2, P2, hq2⟩ : ∃ L E P, prs s s.size 0 [] = (L, E, P) := ⟨_, _, _, rfl⟩
  clear h hF htab hn
  obtain ⟨M, hM⟩ : ∃ M, prtB xs = M := ⟨_, rfl⟩
  have HM : Hid (prtB xs = M) := hM
  have PR : Hid (∀ v, EdsA v a xs → Lib.TabIs Tryd.prog v "internal/strconv.uint64pow10" .u64 Lib.pow10Tab → Calls Tryd.prog 8 #[.slice a xs.length cap] v fun e w' => e = .returned (.string M) ∧ Below v.heap.size v w') := fun v hv ht => by rw [← hM]; exact Print_all a cap xs v hv HL.out HF.out hT ht
  have PS : Hid (∀ v, Calls Tryd.prog 9 #[.string s] v fun e w' => ∃ u, e = .returned (.tuple #[u, .int .i64 E2, .int .i64 (P2 : Nat)]) ∧ w'.ownsRow v.heap.size 45 3 u N.length (flat N) ∧ Below v.heap.size v w') := fun v => parse_any s v (by omega) N E2 P2 hq2
  have HQ2 : Hid (prs s s.size 0 [] = (N, E2, P2)) := hq2
  rw [hM] at hS
  clear hM hq2
  by_cases hx : xs.length ≤ 65536
  · have PP : Hid (∀ v, Calls Tryd.prog 9 #[.string M] v fun e w' => ∃ u, e = .returned (.tuple #[u, .int .i64 0, .int .i64 ((0 : Nat) : Int)]) ∧ w'.ownsRow v.heap.size 45 3 u xs.length (flat xs) ∧ Below v.heap.size v w') := fun v => parse_any M v hS xs 0 0 (by rw [← HM.out]; exact prs_all hx HF.out)
    have hx' : ((xs.length : Int) ≤ 65536) := by omega
    go_enter Tryd.func3, Tryd.ntmps3
    go_wp2_with fail
    refine (PR.out _ H.out HT.out.here).mono ?_
    rintro e w1 ⟨rfl, hb⟩
    have HB1 : Hid (Below w.heap.size w w1) := hb
    clear hb
    go_wp2_with fail
    refine (PP.out _).mono ?_
    rintro e w2 ⟨u, rfl, hown, hb⟩
    obtain ⟨a1, k1, rfl, hE1, -, -⟩ := own_form hown
    have HB2 : Hid (Below w.heap.size w w2) := HB1.out.trans (hb.mono HB1.out.size)
    have A2 : Hid (EdsA w2 a1 xs ∧ EdsA w2 a xs) := ⟨hE1, H.out.below HB2.out⟩
    clear hown hE1 hb
    go_wp2_with fail
    refine (same_any a1 a k1 cap xs _ A2.out.1 A2.out.2 HL.out).mono ?_
    rintro e w3 ⟨rfl, hb⟩
    have HB3 : Hid (Below w.heap.size w w3) := HB2.out.trans (hb.mono HB2.out.size)
    clear hb A2 PR PP
    go_wp2_with fail
    refine (PS.out _).mono ?_
    rintro e w4 ⟨u, rfl, hown, hb⟩
    obtain ⟨a4, k4, rfl, hE4, -, -⟩ := own_form hown
    have A4 : Hid (EdsA w4 a4 N) := hE4
    have HB4 : Hid (Below w.heap.size w w4) := HB3.out.trans (hb.mono HB3.out.size)
    clear hown hE4 hb
    by_cases hE : E2 = 0
    · subst hE
      obtain ⟨hP, hN, hNF, hNT, hNl⟩ := prs_text (by omega) HQ2.out
      subst hP
      have PN : Hid (∀ v, EdsA v a4 N → Lib.TabIs Tryd.prog v "internal/strconv.uint64pow10" .u64 Lib.pow10Tab → Calls Tryd.prog 8 #[.slice a4 N.length k4] v fun e w' => e = .returned (.string s) ∧ Below v.heap.size v w') := fun v hv ht => by rw [← hN]; exact Print_all a4 k4 N v hv (by unfold maxLen; omega) hNF (by omega) ht
      clear hN hNF hNT hNl PS HQ2
      go_wp2_with fail
      refine (PN.out _ A4.out (HT.out.on HB4.out).here).mono ?_
      rintro e w5 ⟨rfl, hb⟩
      have HB5 : Hid (Below w.heap.size w w5) := HB4.out.trans (hb.mono HB4.out.size)
      have u1 : (s.toList == s.toList) = true := beq_self_eq_true _
      have u2 : (s.toList != s.toList) = false := by rw [bne_self_eq_false]
      clear hb PN A4
      by_cases k0 : cut < 0
      · go_wp2
        go_ret
        exact ⟨rfl, HB5.out⟩
      · by_cases k1 : (M.size : Int) ≤ cut
        · go_wp2
          go_ret
          exact ⟨rfl, HB5.out⟩
        · obtain ⟨c, hc⟩ : ∃ c : Nat, cut = (c : Int) := ⟨cut.toNat, by omega⟩
          subst hc
          have hcM : c < M.size := by omega
          have hcM' : (c : Int) ≤ (M.size : Int) := by omega
          have hM0 : 0 < M.size := by omega
          obtain ⟨j, hj⟩ : ∃ j : Nat, M.size - 1 = j := ⟨_, rfl⟩
          have hj' : (M.size : Int) - 1 = (j : Int) := by omega
          have hjl : j < M.size := by omega
          have hjl' : (j : Int) < (M.size : Int) := by omega
          have mj : IntKind.i64.wrap (j : Int) = (j : Int) := IntWalk.i64_in _ ⟨by omega, by omega⟩
          have hlast : M[j]'hjl = 10 := by
            have h1 := prt_feed hx (by rw [HM.out]; exact hM0)
            simp only [HM.out, hj] at h1
            exact h1
          obtain ⟨PC, hPC⟩ : ∃ PC, M.extract 0 c = PC := ⟨_, rfl⟩
          obtain ⟨L3, E3, P3, hq3⟩ : ∃ L E P, prs PC PC.size 0 [] = (L, E, P) := ⟨_, _, _, rfl⟩
          have KEY : Hid ((c = 0 → E3 = 0) ∧ (∀ hc1 : 0 < c, (M[c - 1]'(Nat.lt_of_le_of_lt (Nat.sub_le _ _) hcM) = 10 → E3 = 0) ∧ (M[c - 1]'(Nat.lt_of_le_of_lt (Nat.sub_le _ _) hcM) ≠ 10 → E3 = 12 ∧ P3 = c))) := by
            have h1 := prs_part hx HF.out c (by rw [HM.out]; exact hcM) L3 E3 P3 (by rw [HM.out, hPC]; exact hq3)
            simp only [HM.out] at h1
            exact h1
          have PT : Hid (∀ v, Calls Tryd.prog 9 #[.string PC] v fun e w' => ∃ u, e = .returned (.tuple #[u, .int .i64 E3, .int .i64 (P3 : Nat)]) ∧ w'.ownsRow v.heap.size 45 3 u L3.length (flat L3) ∧ Below v.heap.size v w') := fun v => parse_any PC v (by rw [← hPC]; simp; omega) L3 E3 P3 hq3
          clear hq3 hj
          go_wp2_with fail
          refine (PT.out _).mono ?_
          rintro e wt ⟨u, rfl, hown, hb⟩
          have HBt : Hid (Below w.heap.size w wt) := HB5.out.trans (hb.mono HB5.out.size)
          clear hown hb hlast hj' hjl hjl' mj hPC
          by_cases k2 : c = 0
          · have hE3 := KEY.out.1 k2
            subst hE3
            have t1 : ((c : Int) == 0) = true := by rw [k2]; rfl
            clear k2
            go_wp2
            go_ret
            exact ⟨rfl, HBt.out⟩
          · have t1 : ((c : Int) == 0) = false := by rw [beq_eq_false_iff_ne]; omega
            have hK := KEY.out.2 (by omega)
            obtain ⟨i, hi⟩ : ∃ i : Nat, c - 1 = i := ⟨_, rfl⟩
            have hi' : (c : Int) - 1 = (i : Int) := by omega
            have hil : i < M.size := by omega
            have hil' : (i : Int) < (M.size : Int) := by omega
            have mi : IntKind.i64.wrap (i : Int) = (i : Int) := IntWalk.i64_in _ ⟨by omega, by omega⟩
            obtain ⟨y, hy⟩ : ∃ y, M[i]'hil = y := ⟨_, rfl⟩
            simp only [hi, hy] at hK
            have HK : Hid ((y = 10 → E3 = 0) ∧ (y ≠ 10 → E3 = 12 ∧ P3 = c)) := hK
            clear hK hi KEY k2
            by_cases hy10 : y = 10
            · have hE3 := HK.out.1 hy10
              subst hE3
              have t2 : ((y.toNat : Int) == 10) = true := by rw [hy10]; rfl
              clear hy10 HK
              go_wp2
              go_ret
              exact ⟨rfl, HBt.out⟩
            · obtain ⟨hE3, hP3⟩ := HK.out.2 hy10
              subst hE3 hP3
              have t2 : ((y.toNat : Int) == 10) = false := by rw [beq_eq_false_iff_ne]; intro h; exact hy10 (UInt8.toNat_inj.1 (by have : (10 : UInt8).toNat = 10 := rfl; omega))
              clear hy10 HK
              go_wp2
              go_ret
              exact ⟨rfl, HBt.out⟩
    · obtain ⟨hN, hP⟩ := prs_fault s s.size 0 [] N E2 P2 HQ2.out hE (Nat.zero_le _)
      subst hN
      have u1 : (E2 == 0) = false := by rw [beq_eq_false_iff_ne]; exact hE
      have u2 : (E2 != 0) = true := by rw [bne_iff_ne]; exact hE
      have u3 : ¬ ((P2 : Int) < 0) := by omega
      have u4 : ¬ ((s.size : Int) < (P2 : Int)) := by omega
      clear PS HQ2 hE hP
      by_cases k0 : cut < 0
      · go_wp2
        go_ret
        exact ⟨rfl, HB4.out⟩
      · by_cases k1 : (M.size : Int) ≤ cut
        · go_wp2
          go_ret
          exact ⟨rfl, HB4.out⟩
        · obtain ⟨c, hc⟩ : ∃ c : Nat, cut = (c : Int) := ⟨cut.toNat, by omega⟩
          subst hc
          have hcM : c < M.size := by omega
          have hcM' : (c : Int) ≤ (M.size : Int) := by omega
          have hM0 : 0 < M.size := by omega
          obtain ⟨j, hj⟩ : ∃ j : Nat, M.size - 1 = j := ⟨_, rfl⟩
          have hj' : (M.size : Int) - 1 = (j : Int) := by omega
          have hjl : j < M.size := by omega
          have hjl' : (j : Int) < (M.size : Int) := by omega
          have mj : IntKind.i64.wrap (j : Int) = (j : Int) := IntWalk.i64_in _ ⟨by omega, by omega⟩
          have hlast : M[j]'hjl = 10 := by
            have h1 := prt_feed hx (by rw [HM.out]; exact hM0)
            simp only [HM.out, hj] at h1
            exact h1
          obtain ⟨PC, hPC⟩ : ∃ PC, M.extract 0 c = PC := ⟨_, rfl⟩
          obtain ⟨L3, E3, P3, hq3⟩ : ∃ L E P, prs PC PC.size 0 [] = (L, E, P) := ⟨_, _, _, rfl⟩
          have KEY : Hid ((c = 0 → E3 = 0) ∧ (∀ hc1 : 0 < c, (M[c - 1]'(Nat.lt_of_le_of_lt (Nat.sub_le _ _) hcM) = 10 → E3 = 0) ∧ (M[c - 1]'(Nat.lt_of_le_of_lt (Nat.sub_le _ _) hcM) ≠ 10 → E3 = 12 ∧ P3 = c))) := by
            have h1 := prs_part hx HF.out c (by rw [HM.out]; exact hcM) L3 E3 P3 (by rw [HM.out, hPC]; exact hq3)
            simp only [HM.out] at h1
            exact h1
          have PT : Hid (∀ v, Calls Tryd.prog 9 #[.string PC] v fun e w' => ∃ u, e = .returned (.tuple #[u, .int .i64 E3, .int .i64 (P3 : Nat)]) ∧ w'.ownsRow v.heap.size 45 3 u L3.length (flat L3) ∧ Below v.heap.size v w') := fun v => parse_any PC v (by rw [← hPC]; simp; omega) L3 E3 P3 hq3
          clear hq3 hj
          go_wp2_with fail
          refine (PT.out _).mono ?_
          rintro e wt ⟨u, rfl, hown, hb⟩
          have HBt : Hid (Below w.heap.size w wt) := HB4.out.trans (hb.mono HB4.out.size)
          clear hown hb hlast hj' hjl hjl' mj hPC
          by_cases k2 : c = 0
          · have hE3 := KEY.out.1 k2
            subst hE3
            have t1 : ((c : Int) == 0) = true := by rw [k2]; rfl
            clear k2
            go_wp2
            go_ret
            exact ⟨rfl, HBt.out⟩
          · have t1 : ((c : Int) == 0) = false := by rw [beq_eq_false_iff_ne]; omega
            have hK := KEY.out.2 (by omega)
            obtain ⟨i, hi⟩ : ∃ i : Nat, c - 1 = i := ⟨_, rfl⟩
            have hi' : (c : Int) - 1 = (i : Int) := by omega
            have hil : i < M.size := by omega
            have hil' : (i : Int) < (M.size : Int) := by omega
            have mi : IntKind.i64.wrap (i : Int) = (i : Int) := IntWalk.i64_in _ ⟨by omega, by omega⟩
            obtain ⟨y, hy⟩ : ∃ y, M[i]'hil = y := ⟨_, rfl⟩
            simp only [hi, hy] at hK
            have HK : Hid ((y = 10 → E3 = 0) ∧ (y ≠ 10 → E3 = 12 ∧ P3 = c)) := hK
            clear hK hi KEY k2
            by_cases hy10 : y = 10
            · have hE3 := HK.out.1 hy10
              subst hE3
              have t2 : ((y.toNat : Int) == 10) = true := by rw [hy10]; rfl
              clear hy10 HK
              go_wp2
              go_ret
              exact ⟨rfl, HBt.out⟩
            · obtain ⟨hE3, hP3⟩ := HK.out.2 hy10
              subst hE3 hP3
              have t2 : ((y.toNat : Int) == 10) = false := by rw [beq_eq_false_iff_ne]; intro h; exact hy10 (UInt8.toNat_inj.1 (by have : (10 : UInt8).toNat = 10 := rfl; omega))
              clear hy10 HK
              go_wp2
              go_ret
              exact ⟨rfl, HBt.out⟩
  · have hM0 : M = ⟨#[]⟩ := by rw [← HM.out]; exact prs_none (by omega)
    subst hM0
    have PP : Hid (∀ v, Calls Tryd.prog 9 #[.string ⟨#[]⟩] v fun e w' => ∃ u, e = .returned (.tuple #[u, .int .i64 0, .int .i64 ((0 : Nat) : Int)]) ∧ w'.ownsRow v.heap.size 45 3 u ([] : List Ed).length (flat []) ∧ Below v.heap.size v w') := fun v => parse_any ⟨#[]⟩ v (by decide) [] 0 0 (by rfl)
    have hx' : ¬ ((xs.length : Int) ≤ 65536) := by omega
    go_enter Tryd.func3, Tryd.ntmps3
    go_wp2_with fail
    refine (PR.out _ H.out HT.out.here).mono ?_
    rintro e w1 ⟨rfl, hb⟩
    have HB1 : Hid (Below w.heap.size w w1) := hb
    clear hb
    go_wp2_with fail
    refine (PP.out _).mono ?_
    rintro e w2 ⟨u, rfl, hown, hb⟩
    have HB2 : Hid (Below w.heap.size w w2) := HB1.out.trans (hb.mono HB1.out.size)
    clear hown hb PR PP
    go_wp2_with fail
    refine (PS.out _).mono ?_
    rintro e w4 ⟨u, rfl, hown, hb⟩
    obtain ⟨a4, k4, rfl, hE4, -, -⟩ := own_form hown
    have A4 : Hid (EdsA w4 a4 N) := hE4
    have HB4 : Hid (Below w.heap.size w w4) := HB2.out.trans (hb.mono HB2.out.size)
    clear hown hE4 hb
    by_cases hE : E2 = 0
    · subst hE
      obtain ⟨hP, hN, hNF, hNT, hNl⟩ := prs_text (by omega) HQ2.out
      subst hP
      have PN : Hid (∀ v, EdsA v a4 N → Lib.TabIs Tryd.prog v "internal/strconv.uint64pow10" .u64 Lib.pow10Tab → Calls Tryd.prog 8 #[.slice a4 N.length k4] v fun e w' => e = .returned (.string s) ∧ Below v.heap.size v w') := fun v hv ht => by rw [← hN]; exact Print_all a4 k4 N v hv (by unfold maxLen; omega) hNF (by omega) ht
      clear hN hNF hNT hNl PS HQ2
      go_wp2_with fail
      refine (PN.out _ A4.out (HT.out.on HB4.out).here).mono ?_
      rintro e w5 ⟨rfl, hb⟩
      have HB5 : Hid (Below w.heap.size w w5) := HB4.out.trans (hb.mono HB4.out.size)
      have u1 : (s.toList == s.toList) = true := beq_self_eq_true _
      have u2 : (s.toList != s.toList) = false := by rw [bne_self_eq_false]
      clear hb PN A4
      by_cases k0 : cut < 0
      · go_wp2
        go_ret
        exact ⟨rfl, HB5.out⟩
      · have k1 : (0 : Int) ≤ cut := by omega
        go_wp2
        go_ret
        exact ⟨rfl, HB5.out⟩
    · obtain ⟨hN, hP⟩ := prs_fault s s.size 0 [] N E2 P2 HQ2.out hE (Nat.zero_le _)
      subst hN
      have u1 : (E2 == 0) = false := by rw [beq_eq_false_iff_ne]; exact hE
      have u2 : (E2 != 0) = true := by rw [bne_iff_ne]; exact hE
      have u3 : ¬ ((P2 : Int) < 0) := by omega
      have u4 : ¬ ((s.size : Int) < (P2 : Int)) := by omega
      clear PS HQ2 hE hP
      by_cases k0 : cut < 0
      · go_wp2
        go_ret
        exact ⟨rfl, HB4.out⟩
      · have k1 : (0 : Int) ≤ cut := by omega
        go_wp2
        go_ret
        exact ⟨rfl, HB4.out⟩
end Go.Proofs.YteolfolkolpehaaDoor
