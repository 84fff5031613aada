import Derived.Test.YthdfccdkomfikaaDoorTm4
namespace Go.Proofs.YthdfccdkomfikaaDoor
open Go.ChangeShapes Go.WideShapes Go.ChangeAt Go.RowKit Go.Maps Go.WideMaps
set_option linter.unusedVariables false
set_option linter.unusedSimpArgs false

set_option maxRecDepth 1000000 in
set_option maxHeartbeats 8000000 in
theorem longest_any (B : Nat) (T : List Tn) (A : Nat → Nat) (V : Nat → Value) (s : ByteArray) (p : Nat) (hs : s.size ≤ 4294967280) (hp : p ≤ s.size) (h0 : 0 < T.length) (hl : T.length ≤ 1000) (w : World) (h : Tre w B T A V) :
    Calls Tryd.prog 45 #[.pointer (some ⟨A 0, 0, none⟩), .string s, .int .i64 (p : Int)] w fun e w' => e = .returned (.tuple #[.int .u8 ((lng T s 0 p (0, 0)).1 : Nat), .int .i64 ((lng T s 0 p (0, 0)).2 : Nat)]) ∧ w' = w := by
  have HT : Hid (Tre w B T A V) := h
  obtain ⟨R, hR⟩ : ∃ R, lng T s 0 p (0, 0) = R := ⟨_, rfl⟩
  have HR : Hid (lng T s 0 p (0, 0) = R) := hR
  rw [hR]
  clear h hR
  go_enter Tryd.func45, Tryd.ntmps45
  go_wp2
  go_loopw [2, 6, 7, 8] (fun sa sk st sp wr => ∃ (i q k t P : Nat), i < T.length ∧ q ≤ s.size ∧ k < 256 ∧ t ≤ q ∧ sa = .int .i64 (q : Int) ∧ sk = .int .u8 (k : Int) ∧ st = .int .i64 (t : Int) ∧ sp = .pointer (some ⟨P, 0, none⟩) ∧ P = A i ∧ lng T s i q (k, t) = R ∧ wr = w) (fun sa _ _ _ _ => s.size - (intOf sa).toNat)
  case atStart => exact ⟨0, p, 0, 0, A 0, h0, hp, by omega, Nat.zero_le _, rfl, rfl, rfl, rfl, rfl, HR.out, by first | rfl | trivial⟩
  case round =>
    obtain ⟨i, q, k, t, P, hi, hq, hk, ht, rfl, rfl, rfl, rfl, hP, hr, rfl⟩ := hrel
    have HL : Hid (lng T s i q (k, t) = R) := hr
    have HP : Hid (P = A i) := hP
    clear hr hP
    by_cases hlt : q < s.size
    · have hlt' : (q : Int) < (s.size : Int) := by omega
      obtain ⟨c, hc⟩ : ∃ c, (s[q]'hlt).toNat = c := ⟨_, rfl⟩
      have hc256 : c < 256 := by rw [← hc]; exact (s[q]'hlt).toNat_lt
      have hbt : bt s q = c := by rw [bt_in hlt, hc]
      obtain ⟨ti, hti⟩ : ∃ ti, T[i]? = some ti := ⟨_, List.getElem?_eq_getElem hi⟩
      have HON : Hid (Calls Tryd.prog 44 #[.pointer (some ⟨P, 0, none⟩), .int .u8 (c : Int)] wr fun e w' => e = .returned (ptrO A (onT T i c)) ∧ w' = wr) := by
        have := on_any B T A V i c ti hti hc256 hl wr HT.out
        unfold Hid
        rw [HP.out]
        exact this
      cases hO : onT T i c with
      | none =>
        rw [hO] at HON
        have HON' : Hid (Calls Tryd.prog 44 #[.pointer (some ⟨P, 0, none⟩), .int .u8 (c : Int)] wr fun e w' => e = .returned (.pointer none) ∧ w' = wr) := HON
        have hRR : R = (k, t) := by rw [← HL.out, lng_none hlt (by rw [hbt]; exact hO)]
        subst hRR
        clear HON hO HL
        go_wp2_with (go_at_call 44; (with_reducible refine HON'.out.mono ?_); rintro e w3 ⟨rfl, hw3⟩; subst hw3)
        go_ret2
        exact ⟨rfl, rfl⟩
      | some j =>
        rw [hO] at HON
        have HON' : Hid (Calls Tryd.prog 44 #[.pointer (some ⟨P, 0, none⟩), .int .u8 (c : Int)] wr fun e w' => e = .returned (.pointer (some ⟨A j, 0, none⟩)) ∧ w' = wr) := HON
        have hj : j < T.length := by
          have := (on_mem hO).1
          rw [getD_of hti] at this
          exact HT.out.kid i ti hti j this
        obtain ⟨tj, htj⟩ : ∃ tj, T[j]? = some tj := ⟨_, List.getElem?_eq_getElem hj⟩
        have hX := (HT.out.box j tj htj).2
        have hXl := hX.lt
        have y1 := hX.cell 1
        simp at y1
        have hkj := (HT.out.lim j tj htj).2.1
        have HST : Hid (lng T s j (q + 1) (if tj.k ≠ 0 then (tj.k, q + 1) else (k, t)) = R) := by
          unfold Hid
          rw [← HL.out, lng_some hlt (by rw [hbt]; exact hO), getD_of htj]
        obtain ⟨P', hP'⟩ : ∃ P', A j = P' := ⟨_, rfl⟩
        rw [hP'] at HON' y1 hXl
        have HP' : Hid (P' = A j) := hP'.symm
        clear HON hO HL hX hP'
        by_cases hk0 : tj.k = 0
        · have hz : ((tj.k : Int) != 0) = false := by simp; omega
          rw [if_neg (by simp [hk0])] at HST
          go_wp2_with (go_at_call 44; (with_reducible refine HON'.out.mono ?_); rintro e w3 ⟨rfl, hw3⟩; subst hw3)
          go_roundw
          case rel => exact ⟨j, q + 1, k, t, P', hj, by omega, hk, by omega, by go_num, rfl, rfl, rfl, HP'.out, HST.out, by first | rfl | trivial⟩
          case measure => simp [intOf]; omega
        · have hz : ((tj.k : Int) != 0) = true := by simp; omega
          rw [if_pos hk0] at HST
          go_wp2_with (go_at_call 44; (with_reducible refine HON'.out.mono ?_); rintro e w3 ⟨rfl, hw3⟩; subst hw3)
          go_roundw
          case rel => exact ⟨j, q + 1, tj.k, q + 1, P', hj, by omega, hkj, by omega, by go_num, rfl, by go_num, rfl, HP'.out, HST.out, by first | rfl | trivial⟩
          case measure => simp [intOf]; omega
    · have hge : ¬ (q : Int) < (s.size : Int) := by omega
      have hRR : R = (k, t) := by rw [← HL.out, lng_out hlt]
      subst hRR
      go_wp2
      go_ret2
      exact ⟨rfl, rfl⟩
end Go.Proofs.YthdfccdkomfikaaDoor
