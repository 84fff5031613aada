import Derived.Test.YtnaipmgdipflgaaGreatDoorTm0
import Derived.Test.YtnaipmgdipflgaaGreatDoorRl2
import Derived.Test.YtnaipmgdipflgaaGreatDoorLy3
import Derived.LoopN
import Derived.BigQuiet
import Derived.Test.YtnaipmgdipflgaaGreatDoorRl5
namespace Go.Proofs.YtnaipmgdipflgaaGreatDoor
open Go.ChangeShapes Go.WideShapes Go.ChangeAt Go.RowKit Go.Maps Go.WideMaps
set_option linter.unusedVariables false
set_option linter.unusedSimpArgs false

theorem Tre.look {w : World} {B : Nat} {T : List Tn} {A : Nat → Nat} {V : Nat → Value} (h : Tre w B T A V) {i : Nat} {t : Tn} (hi : T[i]? = some t) :
    ∃ (a : Option Addr) (cap : Nat), V i = .slice a t.ch.length cap ∧ ∀ (k j : Nat), t.ch[k]? = some j → ∃ g, a = some ⟨g, 0, none⟩ ∧ g < w.heap.size ∧ t.ch.length ≤ cap ∧ w.cell? ⟨g, k, none⟩ = some (ptrT A j) := by
  have hr := h.row i t hi
  rcases hr.2 with ⟨hv, hn⟩ | ⟨g, cap, cur, hv, hg, hh, hnc, hcm, hcs, htk⟩
  · refine ⟨none, 0, by rw [hv, hn], fun k j hk => ?_⟩
    have := (List.getElem?_eq_some_iff.1 hk).1
    omega
  · refine ⟨some ⟨g, 0, none⟩, cap, hv, fun k j hk => ⟨g, rfl, lt_of_block hh, hnc, ?_⟩⟩
    have := hr.cells (g := g) (by rw [hv]; rfl) k (ptrT A j) (by rw [List.getElem?_map, hk]; rfl)
    rw [addr_add] at this
    simpa using this

set_option maxRecDepth 1000000 in
set_option maxHeartbeats 4000000 in
theorem on_any (B : Nat) (T : List Tn) (A : Nat → Nat) (V : Nat → Value) (i c : Nat) (t : Tn) (hi : T[i]? = some t) (hc : c < 256) (hl : T.length ≤ 1000) (w : World) (h : Tre w B T A V) :
    Calls Tryz.prog 122 #[.pointer (some ⟨A i, 0, none⟩), .int .u8 (c : Int)] w fun e w' => e = .returned (ptrO A (onT T i c)) ∧ w' = w := by
  have hX := (h.box i t hi).2
  have hAi := hX.lt
  have x2 := hX.cell 2
  obtain ⟨a, cap, hv, hcell⟩ := h.look hi
  have HC : Hid (∀ (k j : Nat), t.ch[k]? = some j → ∃ g, a = some ⟨g, 0, none⟩ ∧ g < w.heap.size ∧ t.ch.length ≤ cap ∧ w.cell? ⟨g, k, none⟩ = some (ptrT A j)) := hcell
  have hlim := (h.lim i t hi).2.2
  have HK : Hid (∀ j ∈ t.ch, ∃ tj, T[j]? = some tj ∧ tj.f < 256 ∧ w.cell? ⟨A j, 0, none⟩ = some (.int .u8 (tj.f : Int)) ∧ A j < w.heap.size) := fun j hj => by
    have hjl := h.kid i t hi j hj
    have hj' := List.getElem?_eq_getElem hjl
    exact ⟨_, hj', (h.lim j _ hj').1, (h.box j _ hj').2.cell 0, (h.box j _ hj').2.lt⟩
  have hO : onT T i c = t.ch.find? fun j => (T.getD j tz).f == c := by unfold onT; rw [getD_of hi]
  obtain ⟨O, hO2⟩ : ∃ O, onT T i c = O := ⟨_, rfl⟩
  have HO : Hid ((t.ch.drop 0).find? (fun j => (T.getD j tz).f == c) = O) := by unfold Hid; rw [List.drop_zero, ← hO, hO2]
  rw [hO2]
  rw [hv] at x2
  simp at x2
  clear hcell hv hX hO hO2 h
  go_enter Tryz.func122, Tryz.ntmps122
  go_wp2
  go_loopw [12] (fun si wr => ∃ k : Nat, k ≤ t.ch.length ∧ si = .int .i64 (k : Int) ∧ (t.ch.drop k).find? (fun j => (T.getD j tz).f == c) = O ∧ wr = w) (fun si _ => t.ch.length - (intOf si).toNat)
  case atStart => exact ⟨0, Nat.zero_le _, rfl, HO.out, by first | rfl | trivial⟩
  case round =>
    obtain ⟨k, hk, rfl, hfi, rfl⟩ := hrel
    by_cases hlt : k < t.ch.length
    · have hlt' : (k : Int) < (t.ch.length : Int) := by omega
      obtain ⟨j, hj⟩ : ∃ j, t.ch[k]? = some j := ⟨_, List.getElem?_eq_getElem hlt⟩
      obtain ⟨g, rfl, hg, hcap, hcj⟩ := HC.out k j hj
      obtain ⟨tj, hTj, hf, hc0, hAj⟩ := HK.out j (List.mem_of_getElem? hj)
      have hdr : t.ch.drop k = j :: t.ch.drop (k + 1) := by
        rw [List.drop_eq_getElem_cons hlt]
        congr 1
        rw [List.getElem?_eq_getElem hlt] at hj
        exact Option.some.inj hj
      rw [hdr, List.find?_cons, getD_of hTj] at hfi
      rw [show ptrT A j = .pointer (some ⟨A j, 0, none⟩) from rfl] at hcj
      by_cases he : tj.f = c
      · have hee : ((tj.f : Int) == (c : Int)) = true := by simp; omega
        rw [show (tj.f == c) = true by simp [he]] at hfi
        simp only at hfi
        subst hfi
        go_wp2
        go_ret
        exact ⟨rfl, rfl⟩
      · have hee : ((tj.f : Int) == (c : Int)) = false := by simp; omega
        rw [show (tj.f == c) = false by simp [he]] at hfi
        simp only at hfi
        go_wp2
        go_roundw
        case rel => exact ⟨k + 1, by omega, by go_num, hfi, by first | rfl | trivial⟩
        case measure => simp [intOf]; omega
    · have hge : ¬ (k : Int) < (t.ch.length : Int) := by omega
      rw [List.drop_of_length_le (by omega)] at hfi
      simp at hfi
      subst hfi
      go_wp2
      go_ret
      exact ⟨rfl, rfl⟩
end Go.Proofs.YtnaipmgdipflgaaGreatDoor

namespace Go.Proofs.YtnaipmgdipflgaaGreatDoor
open Go.ChangeShapes Go.WideShapes Go.ChangeAt Go.RowKit
set_option linter.unusedVariables false
set_option linter.unusedSimpArgs false

theorem bel_drewN {B n : Nat} {a w : World} (h : Below B a w) : Below B a (w.drewN n) := ⟨h.os, h.tape, h.output, h.size, h.block⟩

set_option maxRecDepth 1000000 in
set_option maxHeartbeats 8000000 in
theorem rItem_rune (s : ByteArray) (k q : Nat) (hs : s.size ≤ 4294967280) (hk : k < s.size) (hq : q = 34 ∨ q = 39) (n : Nat) (hc : (s[k]'hk).toNat = n) (h3 : n ≠ 92) (w : World) (hT : U8 w) :
    Calls Tryz.prog 43 #[.string s, .int .i64 (k : Int), .int .u8 (q : Int)] w fun e w' => e = .returned (itR (itm s k q)) ∧ Below w.heap.size w w' := by
  have hk' : (k : Int) < (s.size : Int) := by omega
  have E : itm s k q = some ⟨wd s k, rn s k, false, decide (rn s k = 65533 ∧ wd s k = 1)⟩ := itm_else (by rw [bt_in hk, hc]; exact h3)
  rw [E]
  have h92 : ((n : Int) != 92) = true := by simp; omega
  have hrn : rn s k < 1114112 := rn_lt s k
  have HD : Hid (Calls Tryz.prog 52 #[.string (s.extract k s.size)] w fun e w' => e = .returned (.tuple #[.int .i32 (rn s k : Nat), .int .i64 (wd s k : Nat)]) ∧ Below w.heap.size w w') := decode_call s k w hT
  obtain ⟨R, hR⟩ : ∃ R, rn s k = R := ⟨_, rfl⟩
  obtain ⟨D, hD⟩ : ∃ D, wd s k = D := ⟨_, rfl⟩
  rw [hR, hD] at HD ⊢
  rw [hR] at hrn
  clear E hR hD hT
  by_cases hr : R = 65533
  · subst hr
    by_cases hd : D = 1
    · subst hd
      go_enter Tryz.func43, Tryz.ntmps43
      go_wp2_with (go_at_call 52; (with_reducible refine HD.out.mono ?_); rintro e w3 ⟨rfl, hb3⟩; have HB3 : Hid (Below w.heap.size w w3) := hb3; clear hb3)
      refine bodyPost_ret (v := .tuple #[.int .i64 1, .int .i64 65533, .bool false, .bool true]) (by simp [results, Tryz.results43, go_sem]) rfl ⟨by simp [itR], HB3.out⟩
    · have hd1 : ((D : Int) == 1) = false := by simp; omega
      go_enter Tryz.func43, Tryz.ntmps43
      go_wp2_with (go_at_call 52; (with_reducible refine HD.out.mono ?_); rintro e w3 ⟨rfl, hb3⟩; have HB3 : Hid (Below w.heap.size w w3) := hb3; clear hb3)
      refine bodyPost_ret (v := .tuple #[.int .i64 (D : Int), .int .i64 65533, .bool false, .bool false]) (by simp [results, Tryz.results43, go_sem]) rfl ⟨by simp [itR, hd], HB3.out⟩
  · have hr1 : ((R : Int) == 65533) = false := by simp; omega
    go_enter Tryz.func43, Tryz.ntmps43
    go_wp2_with (go_at_call 52; (with_reducible refine HD.out.mono ?_); rintro e w3 ⟨rfl, hb3⟩; have HB3 : Hid (Below w.heap.size w w3) := hb3; clear hb3)
    refine bodyPost_ret (v := .tuple #[.int .i64 (D : Int), .int .i64 (R : Int), .bool false, .bool false]) (by simp [results, Tryz.results43, go_sem]) rfl ⟨by simp [itR, hr], HB3.out⟩

set_option maxRecDepth 1000000 in
set_option maxHeartbeats 8000000 in
theorem rItem_end (s : ByteArray) (k q : Nat) (hs : s.size ≤ 4294967280) (hk : k < s.size) (hq : q = 34 ∨ q = 39) (hc : (s[k]'hk).toNat = 92) (h1 : s.size ≤ k + 1) (w : World) (hT : U8 w) :
    Calls Tryz.prog 43 #[.string s, .int .i64 (k : Int), .int .u8 (q : Int)] w fun e w' => e = .returned (itR (itm s k q)) ∧ Below w.heap.size w w' := by
  have hk' : (k : Int) < (s.size : Int) := by omega
  have E : itm s k q = none := by rw [itm_back (by rw [bt_in hk, hc])]; unfold esA; rw [if_pos h1]
  rw [E]
  have h1' : (k : Int) + 1 ≥ (s.size : Int) := by omega
  go_enter Tryz.func43, Tryz.ntmps43
  go_wp2
  refine bodyPost_ret (v := .tuple #[.int .i64 0, .int .i64 0, .bool false, .bool false]) (by simp [results, Tryz.results43, go_sem]) rfl ⟨rfl, Below.refl _ _⟩
end Go.Proofs.YtnaipmgdipflgaaGreatDoor

namespace Go.Proofs.YtnaipmgdipflgaaGreatDoor
open Go.ChangeShapes Go.WideShapes Go.ChangeAt Go.RowKit
set_option linter.unusedVariables false
set_option linter.unusedSimpArgs false

theorem mks_len3 : ∀ i, i < 48 → (mks.getD i []).length ≤ 3 := by decide
theorem mkF_step (s : ByteArray) (p i : Nat) (b : Nat × Nat) (h : i < 48) : mkF s p (mks.drop i) i b = mkF s p (mks.drop (i + 1)) (i + 1) (if bgn s p (mks.getD i []) = true ∧ b.2 < p + (mks.getD i []).length then (32 + i, p + (mks.getD i []).length) else b) := by
  have hl : i < mks.length := by have : mks.length = 48 := by decide
                                 omega
  rw [List.drop_eq_getElem_cons hl, mkF]
  have e : mks.getD i [] = mks[i] := by rw [List.getD_eq_getElem?_getD, List.getElem?_eq_getElem hl]; rfl
  rw [e]

set_option maxRecDepth 1000000 in
set_option maxHeartbeats 8000000 in
theorem rmark_any (s : ByteArray) (p : Nat) (hs : s.size ≤ 4294967280) (hp : p < s.size) (w : World) :
    Calls Tryz.prog 67 #[.string s, .int .i64 (p : Int)] w fun e w' => e = .returned (pcR (mkP s p)) ∧ Below w.heap.size w w' := by
  have hMP : mkP s p = if (mkF s p mks 0 (0, p)).2 = p then .no 20 p else .ok (mkF s p mks 0 (0, p)).1 (mkF s p mks 0 (0, p)).2 := rfl
  rw [hMP]
  obtain ⟨F, hF⟩ : ∃ F, mkF s p mks 0 (0, p) = F := ⟨_, rfl⟩
  have HF : Hid (mkF s p (mks.drop 0) 0 (0, p) = F) := hF
  rw [hF]
  obtain ⟨V, hV⟩ : ∃ V, pcR (if F.2 = p then .no 20 p else .ok F.1 F.2) = V := ⟨_, rfl⟩
  have HV : Hid (pcR (if F.2 = p then .no 20 p else .ok F.1 F.2) = V) := hV
  rw [hV]
  have hm48 : mks.length = 48 := by decide
  clear hMP hF hV
  go_enter Tryz.func67, Tryz.ntmps67
  go_wp2_with (go_at_call 101; (with_reducible refine (marks_any _).mono ?_); rintro e w4 ⟨rfl, hw4⟩; have HC4 : Hid (∀ i, i < 48 → w4.cell? ⟨w.heap.size, i, none⟩ = some (.string ⟨(mks.getD i []).toArray⟩)) := (by intro i hi; rw [hw4]; exact strV_get mks i (by omega) w); have HB4 : Hid (Below w.heap.size w w4) := (by unfold Hid; rw [hw4]; exact (Below.refl _ w).alloc (Nat.le_refl _) _); have hz4 : w.heap.size < w4.heap.size := (by rw [hw4]; simp); clear hw4)
  go_loopw [8, 9, 15] (fun sk st si wi => ∃ i K T : Nat, i ≤ 48 ∧ K < 80 ∧ T ≤ s.size + 3 ∧ sk = .int .i64 (K : Int) ∧ st = .int .i64 (T : Int) ∧ si = .int .i64 (i : Int) ∧ mkF s p (mks.drop i) i (K, T) = F ∧ wi = w4) (fun _ _ si _ => 48 - (intOf si).toNat)
  case atStart => exact ⟨0, 0, p, by omega, by omega, by omega, rfl, rfl, rfl, HF.out, by first | rfl | trivial⟩
  case round =>
    obtain ⟨i, K, T, hi, hK, hT, rfl, rfl, rfl, hf, rfl⟩ := hrel
    have HFi : Hid (mkF s p (mks.drop i) i (K, T) = F) := hf
    clear hf HF
    by_cases hlt : i < 48
    · have hlt' : (i : Int) < 48 := by omega
      have c4 := HC4.out i hlt
      have hl3 := mks_len3 i hlt
      have hst := mkF_step s p i (K, T) hlt
      have hms : (⟨(mks.getD i []).toArray⟩ : ByteArray).size = (mks.getD i []).length := by show (mks.getD i []).toArray.size = _; simp
      have HBG : Hid (∀ v, Calls Tryz.prog 62 #[.string s, .int .i64 (p : Int), .string ⟨(mks.getD i []).toArray⟩] v fun e w' => e = .returned (.bool (bgn s p (mks.getD i []))) ∧ w' = v) := fun v => by
        have h := rbegins_any s p ⟨(mks.getD i []).toArray⟩ hs (by omega) (by omega) v
        have e : (⟨(mks.getD i []).toArray⟩ : ByteArray).data.toList = mks.getD i [] := by show (mks.getD i []).toArray.toList = _; simp
        rw [e] at h
        exact h
      obtain ⟨Z, hZ⟩ : ∃ Z, bgn s p (mks.getD i []) = Z := ⟨_, rfl⟩
      have hzl : Z = true → p + (mks.getD i []).length ≤ s.size := fun h => by
        rw [h] at hZ
        unfold bgn at hZ
        rw [Bool.and_eq_true, decide_eq_true_eq] at hZ
        exact hZ.1
      rw [hZ] at HBG hst
      obtain ⟨N, hN⟩ : ∃ N, (mks.getD i []).length = N := ⟨_, rfl⟩
      rw [hN] at hl3 hst hms hzl
      obtain ⟨W, hW⟩ : ∃ W : ByteArray, ⟨(mks.getD i []).toArray⟩ = W := ⟨_, rfl⟩
      rw [hW] at c4 HBG hms
      clear hZ hN hW
      have hwz : (W.size : Int) = (N : Int) := by omega
      by_cases hz : Z = true
      · have hzz := hzl hz
        subst hz
        by_cases hgt : T < p + N
        · have hgt' : (p : Int) + (W.size : Int) > (T : Int) := by omega
          rw [if_pos ⟨rfl, hgt⟩] at hst
          have HN2 : Hid (mkF s p (mks.drop (i + 1)) (i + 1) (32 + i, p + N) = F) := by unfold Hid; rw [← HFi.out, hst]
          clear hst
          go_wp2_with (go_at_call 62; (with_reducible refine (HBG.out _).mono ?_); rintro e w5 ⟨rfl, hw5⟩; have hw6 := hw5.symm; clear hw5; subst hw6)
          go_roundw
          case rel => exact ⟨i + 1, 32 + i, p + N, by omega, by omega, by omega, by go_num, by go_num, by go_num, HN2.out, by first | rfl | trivial⟩
          case measure => simp [intOf]; omega
        · have hgt' : ¬ (p : Int) + (W.size : Int) > (T : Int) := by omega
          rw [if_neg (fun h => hgt h.2)] at hst
          have HN2 : Hid (mkF s p (mks.drop (i + 1)) (i + 1) (K, T) = F) := by unfold Hid; rw [← HFi.out, hst]
          clear hst
          go_wp2_with (go_at_call 62; (with_reducible refine (HBG.out _).mono ?_); rintro e w5 ⟨rfl, hw5⟩; have hw6 := hw5.symm; clear hw5; subst hw6)
          go_roundw
          case rel => exact ⟨i + 1, K, T, by omega, by omega, by omega, rfl, rfl, by go_num, HN2.out, by first | rfl | trivial⟩
          case measure => simp [intOf]; omega
      · have hzf : Z = false := by cases Z; rfl; exact absurd rfl hz
        subst hzf
        rw [if_neg (fun h => by cases h.1)] at hst
        have HN2 : Hid (mkF s p (mks.drop (i + 1)) (i + 1) (K, T) = F) := by unfold Hid; rw [← HFi.out, hst]
        clear hst hzl hz
        go_wp2_with (go_at_call 62; (with_reducible refine (HBG.out _).mono ?_); rintro e w5 ⟨rfl, hw5⟩; have hw6 := hw5.symm; clear hw5; subst hw6)
        go_roundw
        case rel => exact ⟨i + 1, K, T, by omega, by omega, by omega, rfl, rfl, by go_num, HN2.out, by first | rfl | trivial⟩
        case measure => simp [intOf]; omega
    · have hge : ¬ (i : Int) < 48 := by omega
      have hFe : F = (K, T) := by rw [← HFi.out, List.drop_of_length_le (by omega), mkF]
      subst hFe
      by_cases hTp : T = p
      · have hq : ((T : Int) == (p : Int)) = true := by simp; omega
        go_wp2
        refine bodyPost_ret (v := .tuple #[.int .i64 0, .int .i64 0, .int .i64 20, .int .i64 (p : Int)]) (by simp [results, Tryz.results67, go_sem]) rfl ⟨by rw [← HV.out, if_pos hTp]; rfl, HB4.out⟩
      · have hq : ((T : Int) == (p : Int)) = false := by simp; omega
        go_wp2
        refine bodyPost_ret (v := .tuple #[.int .i64 (K : Int), .int .i64 (T : Int), .int .i64 0, .int .i64 0]) (by simp [results, Tryz.results67, go_sem]) rfl ⟨by rw [← HV.out, if_neg hTp]; rfl, HB4.out⟩
end Go.Proofs.YtnaipmgdipflgaaGreatDoor
