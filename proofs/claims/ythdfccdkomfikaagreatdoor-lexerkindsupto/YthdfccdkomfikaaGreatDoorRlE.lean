import Derived.Test.YthdfccdkomfikaaGreatDoorTm4
import Derived.Test.YthdfccdkomfikaaGreatDoorLmp
import Derived.Test.YthdfccdkomfikaaGreatDoorLzs
import Derived.Laws.Cover1
import Derived.Lib.Strings
import Derived.Test.YthdfccdkomfikaaGreatDoorRl3b
import Derived.Test.YthdfccdkomfikaaGreatDoorRl9
import Derived.Test.YthdfccdkomfikaaGreatDoorRlC
namespace Go.Proofs.YthdfccdkomfikaaGreatDoor
open Go.ChangeShapes Go.WideShapes Go.ChangeAt Go.RowKit Go.Maps Go.WideMaps
set_option linter.unusedVariables false
set_option linter.unusedSimpArgs false

set_option maxRecDepth 1000000 in
set_option maxHeartbeats 8000000 in
theorem longest_any (B : Nat) (T : List Tn) (A : Nat → Nat) (V : Nat → Value) (s : ByteArray) (p : Nat) (hs : s.size ≤ 4294967280) (hp : p ≤ s.size) (h0 : 0 < T.length) (hl : T.length ≤ 1000) (w : World) (h : Tre w B T A V) :
    Calls Tryz.prog 61 #[.pointer (some ⟨A 0, 0, none⟩), .string s, .int .i64 (p : Int)] w fun e w' => e = .returned (.tuple #[.int .u8 ((lng T s 0 p (0, 0)).1 : Nat), .int .i64 ((lng T s 0 p (0, 0)).2 : Nat)]) ∧ w' = w := by
  have HT : Hid (Tre w B T A V) := h
  obtain ⟨R, hR⟩ : ∃ R, lng T s 0 p (0, 0) = R := ⟨_, rfl⟩
  have HR : Hid (lng T s 0 p (0, 0) = R) := hR
  rw [hR]
  clear h hR
  go_enter Tryz.func61, Tryz.ntmps61
  go_wp2
  go_loopw [2, 6, 7, 8] (fun sa sk st sp wr => ∃ (i q k t P : Nat), i < T.length ∧ q ≤ s.size ∧ k < 256 ∧ t ≤ q ∧ sa = .int .i64 (q : Int) ∧ sk = .int .u8 (k : Int) ∧ st = .int .i64 (t : Int) ∧ sp = .pointer (some ⟨P, 0, none⟩) ∧ P = A i ∧ lng T s i q (k, t) = R ∧ wr = w) (fun sa _ _ _ _ => s.size - (intOf sa).toNat)
  case atStart => exact ⟨0, p, 0, 0, A 0, h0, hp, by omega, Nat.zero_le _, rfl, rfl, rfl, rfl, rfl, HR.out, by first | rfl | trivial⟩
  case round =>
    obtain ⟨i, q, k, t, P, hi, hq, hk, ht, rfl, rfl, rfl, rfl, hP, hr, rfl⟩ := hrel
    have HL : Hid (lng T s i q (k, t) = R) := hr
    have HP : Hid (P = A i) := hP
    clear hr hP
    by_cases hlt : q < s.size
    · have hlt' : (q : Int) < (s.size : Int) := by omega
      obtain ⟨c, hc⟩ : ∃ c, (s[q]'hlt).toNat = c := ⟨_, rfl⟩
      have hc256 : c < 256 := by rw [← hc]; exact (s[q]'hlt).toNat_lt
      have hbt : bt s q = c := by rw [bt_in hlt, hc]
      obtain ⟨ti, hti⟩ : ∃ ti, T[i]? = some ti := ⟨_, List.getElem?_eq_getElem hi⟩
      have HON : Hid (Calls Tryz.prog 60 #[.pointer (some ⟨P, 0, none⟩), .int .u8 (c : Int)] wr fun e w' => e = .returned (ptrO A (onT T i c)) ∧ w' = wr) := by
        have := on_any B T A V i c ti hti hc256 hl wr HT.out
        unfold Hid
        rw [HP.out]
        exact this
      cases hO : onT T i c with
      | none =>
        rw [hO] at HON
        have HON' : Hid (Calls Tryz.prog 60 #[.pointer (some ⟨P, 0, none⟩), .int .u8 (c : Int)] wr fun e w' => e = .returned (.pointer none) ∧ w' = wr) := HON
        have hRR : R = (k, t) := by rw [← HL.out, lng_none hlt (by rw [hbt]; exact hO)]
        subst hRR
        clear HON hO HL
        go_wp2_with (go_at_call 60; (with_reducible refine HON'.out.mono ?_); rintro e w3 ⟨rfl, hw3⟩; subst hw3)
        go_ret2
        exact ⟨rfl, rfl⟩
      | some j =>
        rw [hO] at HON
        have HON' : Hid (Calls Tryz.prog 60 #[.pointer (some ⟨P, 0, none⟩), .int .u8 (c : Int)] wr fun e w' => e = .returned (.pointer (some ⟨A j, 0, none⟩)) ∧ w' = wr) := HON
        have hj : j < T.length := by
          have := (on_mem hO).1
          rw [getD_of hti] at this
          exact HT.out.kid i ti hti j this
        obtain ⟨tj, htj⟩ : ∃ tj, T[j]? = some tj := ⟨_, List.getElem?_eq_getElem hj⟩
        have hX := (HT.out.box j tj htj).2
        have hXl := hX.lt
        have y1 := hX.cell 1
        simp at y1
        have hkj := (HT.out.lim j tj htj).2.1
        have HST : Hid (lng T s j (q + 1) (if tj.k ≠ 0 then (tj.k, q + 1) else (k, t)) = R) := by
          unfold Hid
          rw [← HL.out, lng_some hlt (by rw [hbt]; exact hO), getD_of htj]
        obtain ⟨P', hP'⟩ : ∃ P', A j = P' := ⟨_, rfl⟩
        rw [hP'] at HON' y1 hXl
        have HP' : Hid (P' = A j) := hP'.symm
        clear HON hO HL hX hP'
        by_cases hk0 : tj.k = 0
        · have hz : ((tj.k : Int) != 0) = false := by simp; omega
          rw [if_neg (by simp [hk0])] at HST
          go_wp2_with (go_at_call 60; (with_reducible refine HON'.out.mono ?_); rintro e w3 ⟨rfl, hw3⟩; subst hw3)
          go_roundw
          case rel => exact ⟨j, q + 1, k, t, P', hj, by omega, hk, by omega, by go_num, rfl, rfl, rfl, HP'.out, HST.out, by first | rfl | trivial⟩
          case measure => simp [intOf]; omega
        · have hz : ((tj.k : Int) != 0) = true := by simp; omega
          rw [if_pos hk0] at HST
          go_wp2_with (go_at_call 60; (with_reducible refine HON'.out.mono ?_); rintro e w3 ⟨rfl, hw3⟩; subst hw3)
          go_roundw
          case rel => exact ⟨j, q + 1, tj.k, q + 1, P', hj, by omega, hkj, by omega, by go_num, rfl, by go_num, rfl, HP'.out, HST.out, by first | rfl | trivial⟩
          case measure => simp [intOf]; omega
    · have hge : ¬ (q : Int) < (s.size : Int) := by omega
      have hRR : R = (k, t) := by rw [← HL.out, lng_out hlt]
      subst hRR
      go_wp2
      go_ret2
      exact ⟨rfl, rfl⟩
end Go.Proofs.YthdfccdkomfikaaGreatDoor

namespace Go.Proofs.YthdfccdkomfikaaGreatDoor
open Go.ChangeShapes Go.WideShapes Go.ChangeAt Go.RowKit Go.Maps Go.WideMaps
set_option linter.unusedVariables false
set_option linter.unusedSimpArgs false

theorem spl_out (k : Nat) (h : k < 7 ∨ 80 ≤ k) : spl.getD k [] = [] := by
  rcases h with h | h
  · have : ∀ k, k < 7 → spl.getD k [] = [] := by decide
    exact this k h
  · rw [List.getD_eq_getElem?_getD, List.getElem?_eq_none (by rw [spl_len]; exact h)]; rfl
set_option maxRecDepth 1000000 in
set_option maxHeartbeats 4000000 in
theorem Spell_any (k : Nat) (hk : k < 256) (w : World) (hS : Spl w) :
    Calls Tryz.prog 13 #[.int .u8 (k : Int)] w fun e w' => e = .returned (.string (sq (spl.getD k []))) ∧ w' = w := by
  by_cases h : 80 ≤ k
  · rw [spl_out k (.inr h)]
    have h' : (k : Int) ≥ 80 := by omega
    go_enter Tryz.func13, Tryz.ntmps13
    go_wp2
    go_ret
    exact ⟨rfl, rfl⟩
  · have h' : ¬ (k : Int) ≥ 80 := by omega
    have c0 : w.cell? ⟨0, k, none⟩ = some (.string (sq (spl.getD k []))) := hS.2 k (by omega)
    have g0 := hS.1
    have hk80 : k < 80 := by omega
    clear hS
    obtain ⟨S, hSS⟩ : ∃ S, sq (spl.getD k []) = S := ⟨_, rfl⟩
    rw [hSS] at c0 ⊢
    clear hSS
    go_enter Tryz.func13, Tryz.ntmps13
    go_wp2
    go_ret
    exact ⟨rfl, rfl⟩
end Go.Proofs.YthdfccdkomfikaaGreatDoor

namespace Go.Proofs.YthdfccdkomfikaaGreatDoor
open Go.ChangeShapes Go.WideShapes Go.ChangeAt Go.RowKit
set_option linter.unusedVariables false
set_option linter.unusedSimpArgs false

/-- the reference's Item, at every place of a text -/
theorem rItem_any (s : ByteArray) (k q : Nat) (hs : s.size ≤ 4294967280) (hk : k < s.size) (hq : q = 34 ∨ q = 39) (w : World) (hT : U8 w) :
    Calls Tryz.prog 65 #[.string s, .int .i64 (k : Int), .int .u8 (q : Int)] w fun e w' => e = .returned (itR (itm s k q)) ∧ Below w.heap.size w w' := by
  by_cases hc : (s[k]'hk).toNat = 92
  · by_cases h1 : k + 1 < s.size
    · exact rItem_back s k q hs hk hq hc h1 _ rfl w hT
    · exact rItem_end s k q hs hk hq hc (by omega) w hT
  · exact rItem_rune s k q hs hk hq _ rfl hc w hT
end Go.Proofs.YthdfccdkomfikaaGreatDoor

namespace Go.Proofs.YthdfccdkomfikaaGreatDoor
open Go.ChangeShapes Go.WideShapes Go.ChangeAt Go.RowKit
set_option linter.unusedVariables false
set_option linter.unusedSimpArgs false

theorem rquoted_any (s : ByteArray) (p : Nat) (hs : s.size ≤ 4294967280) (hp : p < s.size) (hq : bt s p = 39 ∨ bt s p = 34 ∨ bt s p = 96) (w : World) (hT : U8 w) :
    Calls Tryz.prog 47 #[.string s, .int .i64 (p : Int)] w fun e w' => e = .returned (pcR (quP s p)) ∧ Below w.heap.size w w' := by
  rw [bt_in hp] at hq
  rcases hq with h | h | h
  · exact rquoted_39 s p hs hp h w hT fun k hk v hv => rItem_any s k 39 hs hk (.inr rfl) v hv
  · exact rquoted_34 s p hs hp h w hT fun k hk v hv => rItem_any s k 34 hs hk (.inl rfl) v hv
  · exact rquoted_96 s p hs hp h w
/-- the reference's Piece, at every place of a text -/
theorem rPiece_any (s : ByteArray) (p : Nat) (hs : s.size ≤ 4294967280) (hp : p < s.size) (w : World) (hT : Lt w) :
    Calls Tryz.prog 20 #[.string s, .int .i64 (p : Int)] w fun e w' => e = .returned (pcR (pce s p)) ∧ Below w.heap.size w w' :=
  rPiece_of s p hs hp w hT fun hq v hv => rquoted_any s p hs hp hq v hv.1
end Go.Proofs.YthdfccdkomfikaaGreatDoor
