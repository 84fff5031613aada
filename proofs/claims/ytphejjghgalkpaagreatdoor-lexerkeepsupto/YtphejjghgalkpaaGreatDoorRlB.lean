import Derived.Test.YtphejjghgalkpaaGreatDoorTm4
import Derived.Test.YtphejjghgalkpaaGreatDoorRl8
import Derived.Test.YtphejjghgalkpaaGreatDoorLm0
import Derived.Test.YtphejjghgalkpaaGreatDoorLmp
namespace Go.Proofs.YtphejjghgalkpaaGreatDoor
open Go.ChangeShapes Go.WideShapes Go.ChangeAt Go.RowKit
set_option linter.unusedVariables false
set_option linter.unusedSimpArgs false

theorem blE_le (s : ByteArray) : ∀ n k, s.size - k ≤ n → k ≤ s.size → k ≤ blE s k ∧ blE s k ≤ s.size
  | n, k, hn, hk => by
    by_cases h : k < s.size ∧ blk (bt s k) = true
    · rw [blE_in h.1 h.2]
      match n, hn with
      | 0, hn => omega
      | m + 1, hn => have := blE_le s m (k + 1) (by omega) (by omega); omega
    · rw [blE_out h]; omega
theorem quo_le (s : ByteArray) (q : Nat) : ∀ n k c bad t c' bad', s.size - k ≤ n → quo s q k c bad = some (t, c', bad') → k ≤ t ∧ t < s.size
  | n, k, c, bad, t, c', bad', hn, h => by
    by_cases hk : k < s.size ∧ bt s k ≠ 10
    · by_cases hq : bt s k = q
      · rw [quo_quote hk.1 hk.2 hq] at h
        cases h
        omega
      · rw [quo, dif_pos hk, if_neg hq] at h
        cases hi : itm s k q with
        | none => rw [hi] at h; cases h
        | some it =>
          rw [hi] at h
          simp only at h
          obtain ⟨i1, i2, -⟩ := itm_n hk.1 hi
          rw [dif_pos i1] at h
          match n, hn with
          | 0, hn => omega
          | m + 1, hn => have := quo_le s q m (k + it.n) _ _ _ _ _ (by omega) h; omega
    · rw [quo_end hk] at h; cases h
/-- a piece that is cut is not empty and lies within the text -/
theorem pce_ok {s : ByteArray} {p k t : Nat} (hp : p < s.size) (h : pce s p = .ok k t) : p < t ∧ t ≤ s.size ∧ k < 80 := by
  unfold pce at h
  by_cases h1 : blk (bt s p) = true
  · rw [if_pos h1] at h
    cases h
    have := blE_le s (s.size - (p + 1)) (p + 1) (Nat.le_refl _) (by omega)
    rw [blE_in hp h1]
    omega
  rw [if_neg h1] at h
  by_cases h2 : bt s p = 47 ∧ bt s (p + 1) = 47
  · rw [if_pos h2] at h
    cases h
    have := fnd_le s 10 (s.size - (p + 1)) (p + 1) (Nat.le_refl _) (by omega)
    rw [fnd_in hp (by omega)]
    omega
  rw [if_neg h2] at h
  by_cases h3 : bt s p = 47 ∧ bt s (p + 1) = 42
  · rw [if_pos h3] at h
    cases hf : fn2 s 42 47 (p + 2) with
    | none => rw [hf] at h; cases h
    | some x =>
      rw [hf] at h
      cases h
      have := fn2_le s 42 47 (by omega) (s.size - (p + 2)) (p + 2) x (Nat.le_refl _) hf
      omega
  rw [if_neg h3] at h
  obtain ⟨f1, f2, f3, -⟩ := dec_facts s p hp
  have hrun : isLD (rn s p) = true → p < rnE s p ∧ rnE s p ≤ s.size := fun hl => by
    have := rnE_le s (s.size - (p + wd s p)) (p + wd s p) (Nat.le_refl _) f2
    rw [rnE_in hp hl]
    omega
  by_cases h4 : isL (rn s p) = true
  · rw [if_pos h4] at h
    unfold nmP at h
    split at h
    · cases h
    · cases h
      have := hrun (by unfold isLD; rw [h4]; rfl)
      have := kwd_lt (s.extract p (rnE s p)).data.toList
      omega
  rw [if_neg h4] at h
  by_cases h5 : 48 ≤ bt s p ∧ bt s p ≤ 57
  · rw [if_pos h5] at h
    unfold ruP at h
    split at h
    · cases h
      have hld : isLD (rn s p) = true := by
        rw [(f3 (by rw [← bt_in hp]; omega)).2, ← bt_in hp]
        have : ∀ n, n < 58 → 48 ≤ n → isLD n = true := by decide
        exact this _ (by omega) h5.1
      have := hrun hld
      omega
    · cases h
  rw [if_neg h5] at h
  by_cases h6 : bt s p = 39 ∨ bt s p = 34 ∨ bt s p = 96
  · rw [if_pos h6] at h
    unfold quP at h
    by_cases h96 : bt s p = 96
    · rw [if_pos h96] at h
      split at h
      · cases h
        have := fnd_le s 96 (s.size - (p + 1)) (p + 1) (Nat.le_refl _) (by omega)
        omega
      · cases h
    · rw [if_neg h96] at h
      cases hq : quo s (bt s p) (p + 1) 0 none with
      | none => rw [hq] at h; cases h
      | some x =>
        obtain ⟨t', c', bad'⟩ := x
        rw [hq] at h
        simp only at h
        have := quo_le s (bt s p) (s.size - (p + 1)) (p + 1) 0 none t' c' bad' (Nat.le_refl _) hq
        split at h
        · cases h
        · cases bad' with
          | some z => cases h
          | none =>
            simp only at h
            cases h
            split <;> omega
  rw [if_neg h6] at h
  cases ho : onT TT 0 (bt s p) with
  | none => rw [mk_none s p hp ho] at h; cases h
  | some x =>
    obtain ⟨m1, m2, m3, m4⟩ := mk_some s p x hp ho
    rw [m1] at h
    cases h
    exact ⟨m3, m4, m2⟩
/-- all pieces from a place on, and the fault at which they end -/
def cut (s : ByteArray) (p : Nat) : List Tk × Option (Nat × Nat) :=
  if h : p < s.size then
    match pce s p with
    | .ok k t => if ht : p < t then (⟨k, p, t⟩ :: (cut s t).1, (cut s t).2) else ([], none)
    | .no y z => ([], some (y, z))
  else ([], none)
termination_by s.size - p
theorem cut_end {s : ByteArray} {p : Nat} (h : ¬ p < s.size) : cut s p = ([], none) := by rw [cut, dif_neg h]
theorem cut_no {s : ByteArray} {p y z : Nat} (h : p < s.size) (e : pce s p = .no y z) : cut s p = ([], some (y, z)) := by rw [cut, dif_pos h, e]
theorem cut_ok {s : ByteArray} {p k t : Nat} (h : p < s.size) (e : pce s p = .ok k t) : cut s p = (⟨k, p, t⟩ :: (cut s t).1, (cut s t).2) := by
  rw [cut, dif_pos h, e]
  simp only
  rw [dif_pos (pce_ok h e).1]
/-- what may begin at a byte, by the code's table -/
def fR (s : ByteArray) (p : Nat) : Nat → Bool
  | 0 => blk (bt s p)
  | 1 => decide (bt s p = 47 ∧ bt s (p + 1) = 47) || decide (bt s p = 47 ∧ bt s (p + 1) = 42)
  | 2 => isL (rn s p)
  | 3 => decide (48 ≤ bt s p ∧ bt s p ≤ 57)
  | 4 => decide (bt s p = 39 ∨ bt s p = 34 ∨ bt s p = 96)
  | _ => (onT TT 0 (bt s p)).isSome
def cR (s : ByteArray) (p : Nat) : Nat → Pce
  | 0 => .ok 0 (blE s p)
  | 1 => noP s p
  | 2 => nmP s p
  | 3 => ruP s p
  | 4 => quP s p
  | _ => mkP s p
/-- the first row that fits tells the piece -/
theorem row_pce (s : ByteArray) (p r : Nat) (hr : r < 6) (h1 : ∀ i, i < r → fR s p i = false) (h2 : fR s p r = true) : pce s p = cR s p r := by
  unfold pce
  have a0 : 0 < r → ¬ blk (bt s p) = true := fun h => by have := h1 0 h; simp only [fR] at this; rw [this]; simp
  have a1 : 1 < r → ¬ (bt s p = 47 ∧ bt s (p + 1) = 47) ∧ ¬ (bt s p = 47 ∧ bt s (p + 1) = 42) := fun h => by have := h1 1 h; simp only [fR, Bool.or_eq_false_iff, decide_eq_false_iff_not] at this; exact this
  have a2 : 2 < r → ¬ isL (rn s p) = true := fun h => by have := h1 2 h; simp only [fR] at this; rw [this]; simp
  have a3 : 3 < r → ¬ (48 ≤ bt s p ∧ bt s p ≤ 57) := fun h => by have := h1 3 h; simp only [fR, decide_eq_false_iff_not] at this; exact this
  have a4 : 4 < r → ¬ (bt s p = 39 ∨ bt s p = 34 ∨ bt s p = 96) := fun h => by have := h1 4 h; simp only [fR, decide_eq_false_iff_not] at this; exact this
  match r, hr with
  | 0, _ => rw [if_pos (show blk (bt s p) = true from h2)]; rfl
  | 1, _ =>
    rw [if_neg (a0 (by omega))]
    simp only [fR, Bool.or_eq_true, decide_eq_true_eq] at h2
    show _ = noP s p
    unfold noP
    by_cases h : bt s p = 47 ∧ bt s (p + 1) = 47
    · rw [if_pos h, if_pos h.2]
    · have h' : bt s p = 47 ∧ bt s (p + 1) = 42 := by rcases h2 with e | e; exact absurd e h; exact e
      rw [if_neg h, if_pos h', if_neg (by omega)]
      cases fn2 s 42 47 (p + 2) <;> rfl
  | 2, _ => rw [if_neg (a0 (by omega)), if_neg (a1 (by omega)).1, if_neg (a1 (by omega)).2, if_pos (show isL (rn s p) = true from h2)]; rfl
  | 3, _ => rw [if_neg (a0 (by omega)), if_neg (a1 (by omega)).1, if_neg (a1 (by omega)).2, if_neg (a2 (by omega)), if_pos (show 48 ≤ bt s p ∧ bt s p ≤ 57 from of_decide_eq_true h2)]; rfl
  | 4, _ => rw [if_neg (a0 (by omega)), if_neg (a1 (by omega)).1, if_neg (a1 (by omega)).2, if_neg (a2 (by omega)), if_neg (a3 (by omega)), if_pos (show bt s p = 39 ∨ bt s p = 34 ∨ bt s p = 96 from of_decide_eq_true h2)]; rfl
  | 5, _ => rw [if_neg (a0 (by omega)), if_neg (a1 (by omega)).1, if_neg (a1 (by omega)).2, if_neg (a2 (by omega)), if_neg (a3 (by omega)), if_neg (a4 (by omega))]; rfl
theorem row_none (s : ByteArray) (p : Nat) (hp : p < s.size) (h1 : ∀ i, i < 6 → fR s p i = false) : pce s p = .no 20 p := by
  unfold pce
  have a0 : ¬ blk (bt s p) = true := by have := h1 0 (by omega); simp only [fR] at this; rw [this]; simp
  have a1 : ¬ (bt s p = 47 ∧ bt s (p + 1) = 47) ∧ ¬ (bt s p = 47 ∧ bt s (p + 1) = 42) := by have := h1 1 (by omega); simp only [fR, Bool.or_eq_false_iff, decide_eq_false_iff_not] at this; exact this
  have a2 : ¬ isL (rn s p) = true := by have := h1 2 (by omega); simp only [fR] at this; rw [this]; simp
  have a3 : ¬ (48 ≤ bt s p ∧ bt s p ≤ 57) := by have := h1 3 (by omega); simp only [fR, decide_eq_false_iff_not] at this; exact this
  have a4 : ¬ (bt s p = 39 ∨ bt s p = 34 ∨ bt s p = 96) := by have := h1 4 (by omega); simp only [fR, decide_eq_false_iff_not] at this; exact this
  have a5 : onT TT 0 (bt s p) = none := by
    have := h1 5 (by omega)
    simp only [fR] at this
    cases hO : onT TT 0 (bt s p) with
    | none => rfl
    | some x => rw [hO] at this; cases this
  rw [if_neg a0, if_neg a1.1, if_neg a1.2, if_neg a2, if_neg a3, if_neg a4]
  exact mk_none s p hp a5
end Go.Proofs.YtphejjghgalkpaaGreatDoor

namespace Go.Proofs.YtphejjghgalkpaaGreatDoor
open Go.ChangeShapes Go.WideShapes Go.ChangeAt Go.RowKit
set_option linter.unusedVariables false
set_option linter.unusedSimpArgs false

theorem bgn_two (s : ByteArray) (p : Nat) (c d : UInt8) (hp : p ≤ s.size) : bgn s p [c, d] = decide (bt s p = c.toNat ∧ bt s (p + 1) = d.toNat) := by
  rw [Bool.eq_iff_iff, bgn_fit s [c, d] p hp, decide_eq_true_iff]
  simp [fit]
theorem rbegins_two (s : ByteArray) (p : Nat) (c d : UInt8) (hs : s.size ≤ 4294967280) (hp : p ≤ s.size) (w : World) :
    Calls Tryz.prog 66 #[.string s, .int .i64 (p : Int), .string ⟨#[c, d]⟩] w fun e w' => e = .returned (.bool (decide (bt s p = c.toNat ∧ bt s (p + 1) = d.toNat))) ∧ w' = w := by
  rw [← bgn_two s p c d hp]
  exact rbegins_any s p ⟨#[c, d]⟩ hs (by show 2 ≤ 16; decide) hp w

set_option maxRecDepth 1000000 in
set_option maxHeartbeats 8000000 in
theorem rPiece_blank (s : ByteArray) (p : Nat) (hs : s.size ≤ 4294967280) (hp : p < s.size) (hb : blk (bt s p) = true) (w : World) :
    Calls Tryz.prog 32 #[.string s, .int .i64 (p : Int)] w fun e w' => e = .returned (pcR (pce s p)) ∧ Below w.heap.size w w' := by
  have hQ : pce s p = .ok 0 (blE s p) := by unfold pce; rw [if_pos hb]
  rw [hQ]
  obtain ⟨F, hF⟩ : ∃ F, blE s p = F := ⟨_, rfl⟩
  have HF : Hid (blE s p = F) := hF
  rw [hF]
  obtain ⟨m, hm⟩ : ∃ m, (s[p]'hp).toNat = m := ⟨_, rfl⟩
  have hp' : (p : Int) < (s.size : Int) := by omega
  rw [bt_in hp, hm] at hb
  have H0 : Hid (∀ v, Calls Tryz.prog 65 #[.int .u8 (m : Int)] v fun e w' => e = .returned (.bool true) ∧ w' = v) := fun v => by have := rblank_any m v; rw [hb] at this; exact this
  clear hQ hF hb
  go_enter Tryz.func32, Tryz.ntmps32
  go_wp2_with (go_at_call 65; (with_reducible refine (H0.out _).mono ?_); rintro e w3 ⟨rfl, hw3⟩; obtain rfl := hw3.symm)
  go_loopw [9] (fun st wr => ∃ k : Nat, p ≤ k ∧ k ≤ s.size ∧ st = .int .i64 (k : Int) ∧ blE s k = F ∧ wr = w) (fun st _ => s.size - (intOf st).toNat)
  case atStart => exact ⟨p, by omega, by omega, rfl, HF.out, rfl⟩
  case round =>
    obtain ⟨k, hpk, hk, rfl, hfk, rfl⟩ := hrel
    have HK : Hid (blE s k = F) := hfk
    clear hfk
    by_cases hlt : k < s.size
    · have hlt2 : (k : Int) < (s.size : Int) := by omega
      obtain ⟨n, hn⟩ : ∃ n, (s[k]'hlt).toNat = n := ⟨_, rfl⟩
      have hbt : bt s k = n := by rw [bt_in hlt, hn]
      cases hbn : blk n with
      | true =>
        have HN : Hid (blE s (k + 1) = F) := by unfold Hid; rw [← blE_in hlt (by rw [hbt]; exact hbn)]; exact HK.out
        have H1 : Hid (∀ v, Calls Tryz.prog 65 #[.int .u8 (n : Int)] v fun e w' => e = .returned (.bool true) ∧ w' = v) := fun v => by have := rblank_any n v; rw [hbn] at this; exact this
        clear HK hbt hbn
        go_wp2_with (go_at_call 65; (with_reducible refine (H1.out _).mono ?_); rintro e w3 ⟨rfl, hw3⟩; obtain rfl := hw3.symm)
        go_roundw
        case rel => exact ⟨k + 1, by omega, by omega, by go_num, HN.out, by first | trivial | rfl⟩
        case measure => simp [intOf]; omega
      | false =>
        have HR : Hid (F = k) := by unfold Hid; rw [← HK.out, blE_out (by rw [hbt, hbn]; simp)]
        have H1 : Hid (∀ v, Calls Tryz.prog 65 #[.int .u8 (n : Int)] v fun e w' => e = .returned (.bool false) ∧ w' = v) := fun v => by have := rblank_any n v; rw [hbn] at this; exact this
        clear HK hbt hbn
        go_wp2_with (go_at_call 65; (with_reducible refine (H1.out _).mono ?_); rintro e w3 ⟨rfl, hw3⟩; obtain rfl := hw3.symm)
        refine bodyPost_ret (v := .tuple #[.int .i64 0, .int .i64 (k : Int), .int .i64 0, .int .i64 0]) (by simp [results, Tryz.results32, go_sem]) rfl ⟨by rw [HR.out]; simp [pcR], Below.refl _ _⟩
    · have hge : ¬ (k : Int) < (s.size : Int) := by omega
      have HR : Hid (F = k) := by unfold Hid; rw [← HK.out, blE_out (by rintro ⟨h, -⟩; exact hlt h)]
      clear HK
      go_wp2
      refine bodyPost_ret (v := .tuple #[.int .i64 0, .int .i64 (k : Int), .int .i64 0, .int .i64 0]) (by simp [results, Tryz.results32, go_sem]) rfl ⟨by rw [HR.out]; simp [pcR], Below.refl _ _⟩
set_option maxRecDepth 1000000 in
set_option maxHeartbeats 8000000 in
theorem rPiece_line (s : ByteArray) (p : Nat) (hs : s.size ≤ 4294967280) (hp : p < s.size) (hb : bt s p = 47 ∧ bt s (p + 1) = 47) (w : World) :
    Calls Tryz.prog 32 #[.string s, .int .i64 (p : Int)] w fun e w' => e = .returned (pcR (pce s p)) ∧ Below w.heap.size w w' := by
  have hQ : pce s p = .ok 1 (fnd s 10 p) := by unfold pce; rw [if_neg (by rw [hb.1]; decide), if_pos hb]
  rw [hQ]
  obtain ⟨F, hF⟩ : ∃ F, fnd s 10 p = F := ⟨_, rfl⟩
  have HF : Hid (fnd s 10 p = F) := hF
  rw [hF]
  have hm : (s[p]'hp).toNat = 47 := by rw [← bt_in hp]; exact hb.1
  have hp' : (p : Int) < (s.size : Int) := by omega
  have H0 : Hid (∀ v, Calls Tryz.prog 65 #[.int .u8 47] v fun e w' => e = .returned (.bool false) ∧ w' = v) := fun v => rblank_any 47 v
  have H1 : Hid (∀ v, Calls Tryz.prog 66 #[.string s, .int .i64 (p : Int), .string ⟨#[47, 47]⟩] v fun e w' => e = .returned (.bool true) ∧ w' = v) := fun v => by
    have := rbegins_two s p 47 47 hs (by omega) v; rw [decide_eq_true (by exact hb)] at this; exact this
  clear hQ hF hb
  go_enter Tryz.func32, Tryz.ntmps32
  go_wp2_with (first
    | (go_at_call 65; (with_reducible refine (H0.out _).mono ?_); rintro e w3 ⟨rfl, hw3⟩; obtain rfl := hw3.symm)
    | (go_at_call 66; (with_reducible refine (H1.out _).mono ?_); rintro e w3 ⟨rfl, hw3⟩; obtain rfl := hw3.symm))
  go_loopw [10] (fun st wr => ∃ k : Nat, p ≤ k ∧ k ≤ s.size ∧ st = .int .i64 (k : Int) ∧ fnd s 10 k = F ∧ wr = w) (fun st _ => s.size - (intOf st).toNat)
  case atStart => exact ⟨p, by omega, by omega, rfl, HF.out, rfl⟩
  case round =>
    obtain ⟨k, hpk, hk, rfl, hfk, rfl⟩ := hrel
    have HK : Hid (fnd s 10 k = F) := hfk
    clear hfk
    by_cases hlt : k < s.size
    · have hlt2 : (k : Int) < (s.size : Int) := by omega
      obtain ⟨n, hn⟩ : ∃ n, (s[k]'hlt).toNat = n := ⟨_, rfl⟩
      have hbt : bt s k = n := by rw [bt_in hlt, hn]
      by_cases h10 : n = 10
      · have HR : Hid (F = k) := by unfold Hid; rw [← HK.out, fnd_out (by rintro ⟨-, h⟩; exact h (by omega))]
        clear HK hbt
        subst h10
        go_wp2
        refine bodyPost_ret (v := .tuple #[.int .i64 1, .int .i64 (k : Int), .int .i64 0, .int .i64 0]) (by simp [results, Tryz.results32, go_sem]) rfl ⟨by rw [HR.out]; simp [pcR], Below.refl _ _⟩
      · have HN : Hid (fnd s 10 (k + 1) = F) := by unfold Hid; rw [← fnd_in hlt (by omega)]; exact HK.out
        have hne : ((n : Int) != 10) = true := by simp; omega
        clear HK hbt
        go_wp2
        go_roundw
        case rel => exact ⟨k + 1, by omega, by omega, by go_num, HN.out, by first | trivial | rfl⟩
        case measure => simp [intOf]; omega
    · have hge : ¬ (k : Int) < (s.size : Int) := by omega
      have HR : Hid (F = k) := by unfold Hid; rw [← HK.out, fnd_out (by rintro ⟨h, -⟩; exact hlt h)]
      clear HK
      go_wp2
      refine bodyPost_ret (v := .tuple #[.int .i64 1, .int .i64 (k : Int), .int .i64 0, .int .i64 0]) (by simp [results, Tryz.results32, go_sem]) rfl ⟨by rw [HR.out]; simp [pcR], Below.refl _ _⟩
end Go.Proofs.YtphejjghgalkpaaGreatDoor

namespace Go.Proofs.YtphejjghgalkpaaGreatDoor
open Go.ChangeShapes Go.WideShapes Go.ChangeAt Go.RowKit
set_option linter.unusedVariables false
set_option linter.unusedSimpArgs false

set_option maxRecDepth 1000000 in
set_option maxHeartbeats 8000000 in
theorem rPiece_note (s : ByteArray) (p : Nat) (hs : s.size ≤ 4294967280) (hp : p < s.size) (hb : bt s p = 47 ∧ bt s (p + 1) = 42) (w : World) :
    Calls Tryz.prog 32 #[.string s, .int .i64 (p : Int)] w fun e w' => e = .returned (pcR (pce s p)) ∧ Below w.heap.size w w' := by
  have hQ : pce s p = noO p (fn2 s 42 47 (p + 2)) := by
    unfold pce; rw [if_neg (by rw [hb.1]; decide), if_neg (by rw [hb.1, hb.2]; decide), if_pos hb]
    cases fn2 s 42 47 (p + 2) <;> rfl
  rw [hQ]
  have hp2 : p + 1 < s.size := Classical.byContradiction fun h => by have := hb.2; rw [bt_out h] at this; omega
  obtain ⟨O, hO⟩ : ∃ O, fn2 s 42 47 (p + 2) = O := ⟨_, rfl⟩
  have HO : Hid (fn2 s 42 47 (p + 2) = O) := hO
  rw [hO]
  have hm : (s[p]'hp).toNat = 47 := by rw [← bt_in hp]; exact hb.1
  have hp' : (p : Int) < (s.size : Int) := by omega
  have H0 : Hid (∀ v, Calls Tryz.prog 65 #[.int .u8 47] v fun e w' => e = .returned (.bool false) ∧ w' = v) := fun v => rblank_any 47 v
  have H1 : Hid (∀ v, Calls Tryz.prog 66 #[.string s, .int .i64 (p : Int), .string ⟨#[47, 47]⟩] v fun e w' => e = .returned (.bool false) ∧ w' = v) := fun v => by
    have := rbegins_two s p 47 47 hs (by omega) v; rw [decide_eq_false (by rw [hb.2]; simp)] at this; exact this
  have H2 : Hid (∀ v, Calls Tryz.prog 66 #[.string s, .int .i64 (p : Int), .string ⟨#[47, 42]⟩] v fun e w' => e = .returned (.bool true) ∧ w' = v) := fun v => by
    have := rbegins_two s p 47 42 hs (by omega) v; rw [decide_eq_true (by exact hb)] at this; exact this
  obtain ⟨V, hV⟩ : ∃ V, pcR (noO p O) = V := ⟨_, rfl⟩
  have HV : Hid (pcR (noO p O) = V) := hV
  rw [hV]
  clear hQ hO hb hV
  go_enter Tryz.func32, Tryz.ntmps32
  go_wp2_with (first
    | (go_at_call 65; (with_reducible refine (H0.out _).mono ?_); rintro e w3 ⟨rfl, hw3⟩; obtain rfl := hw3.symm)
    | (go_at_call 66; (with_reducible refine (H1.out _).mono ?_); rintro e w3 ⟨rfl, hw3⟩; obtain rfl := hw3.symm)
    | (go_at_call 66; (with_reducible refine (H2.out _).mono ?_); rintro e w3 ⟨rfl, hw3⟩; obtain rfl := hw3.symm))
  go_loopw [11] (fun st wr => ∃ k : Nat, p < k ∧ k ≤ s.size ∧ st = .int .i64 (k : Int) ∧ fn2 s 42 47 k = O ∧ wr = w) (fun st _ => s.size - (intOf st).toNat)
  case atStart => exact ⟨p + 2, by omega, by omega, by go_num, HO.out, rfl⟩
  case round =>
    obtain ⟨k, hpk, hk, rfl, hfk, rfl⟩ := hrel
    have HK : Hid (fn2 s 42 47 k = O) := hfk
    clear hfk
    by_cases hlt : k < s.size
    · have hlt2 : (k : Int) < (s.size : Int) := by omega
      by_cases h10 : bt s k = 42 ∧ bt s (k + 1) = 47
      · have HR : Hid (V = pcR (.ok 1 (k + 2))) := by unfold Hid; rw [← HV.out, ← HK.out, fn2_hit hlt h10]; rfl
        have H3 : Hid (∀ v, Calls Tryz.prog 66 #[.string s, .int .i64 (k : Int), .string ⟨#[42, 47]⟩] v fun e w' => e = .returned (.bool true) ∧ w' = v) := fun v => by
          have := rbegins_two s k 42 47 hs (by omega) v; rw [decide_eq_true (by exact h10)] at this; exact this
        clear HK h10
        go_wp2_with (go_at_call 66; (with_reducible refine (H3.out _).mono ?_); rintro e w3 ⟨rfl, hw3⟩; obtain rfl := hw3.symm)
        refine bodyPost_ret (v := .tuple #[.int .i64 1, .int .i64 ((k : Int) + 2), .int .i64 0, .int .i64 0]) (by simp [results, Tryz.results32, go_sem]) rfl ⟨by rw [HR.out]; simp [pcR], Below.refl _ _⟩
      · have HN : Hid (fn2 s 42 47 (k + 1) = O) := by unfold Hid; rw [← fn2_in hlt h10]; exact HK.out
        have H3 : Hid (∀ v, Calls Tryz.prog 66 #[.string s, .int .i64 (k : Int), .string ⟨#[42, 47]⟩] v fun e w' => e = .returned (.bool false) ∧ w' = v) := fun v => by
          have := rbegins_two s k 42 47 hs (by omega) v; rw [decide_eq_false (by exact h10)] at this; exact this
        clear HK h10
        go_wp2_with (go_at_call 66; (with_reducible refine (H3.out _).mono ?_); rintro e w3 ⟨rfl, hw3⟩; obtain rfl := hw3.symm)
        go_roundw
        case rel => exact ⟨k + 1, by omega, by omega, by go_num, HN.out, by first | trivial | rfl⟩
        case measure => simp [intOf]; omega
    · have hge : ¬ (k : Int) < (s.size : Int) := by omega
      have HR : Hid (V = pcR (.no 23 p)) := by unfold Hid; rw [← HV.out, ← HK.out, fn2_out hlt]; rfl
      clear HK
      go_wp2
      refine bodyPost_ret (v := .tuple #[.int .i64 0, .int .i64 0, .int .i64 23, .int .i64 (p : Int)]) (by simp [results, Tryz.results32, go_sem]) rfl ⟨by rw [HR.out]; simp [pcR], Below.refl _ _⟩

/-- the tests of Piece ahead of the fourth, at a place where none of them holds -/
structure Pn (s : ByteArray) (p n : Nat) : Prop where
  b : blk n = false
  l : ¬ (bt s p = 47 ∧ bt s (p + 1) = 47)
  c : ¬ (bt s p = 47 ∧ bt s (p + 1) = 42)

set_option maxRecDepth 1000000 in
set_option maxHeartbeats 8000000 in
theorem rPiece_name (s : ByteArray) (p : Nat) (hs : s.size ≤ 4294967280) (hp : p < s.size) (n : Nat) (hn : (s[p]'hp).toNat = n) (hP : Pn s p n) (hl : isL (rn s p) = true) (w : World) (hT : Lt w) :
    Calls Tryz.prog 32 #[.string s, .int .i64 (p : Int)] w fun e w' => e = .returned (pcR (pce s p)) ∧ Below w.heap.size w w' := by
  have hbt : bt s p = n := by rw [bt_in hp, hn]
  have hQ : pce s p = nmP s p := by unfold pce; rw [if_neg (by rw [hbt, hP.b]; simp), if_neg hP.l, if_neg hP.c, if_pos hl]
  rw [hQ]
  have hp' : (p : Int) < (s.size : Int) := by omega
  have H0 : Hid (∀ v, Calls Tryz.prog 65 #[.int .u8 (n : Int)] v fun e w' => e = .returned (.bool false) ∧ w' = v) := fun v => by have := rblank_any n v; rw [hP.b] at this; exact this
  have H1 : Hid (∀ v, Calls Tryz.prog 66 #[.string s, .int .i64 (p : Int), .string ⟨#[47, 47]⟩] v fun e w' => e = .returned (.bool false) ∧ w' = v) := fun v => by
    have := rbegins_two s p 47 47 hs (by omega) v; rw [decide_eq_false (by exact hP.l)] at this; exact this
  have H2 : Hid (∀ v, Calls Tryz.prog 66 #[.string s, .int .i64 (p : Int), .string ⟨#[47, 42]⟩] v fun e w' => e = .returned (.bool false) ∧ w' = v) := fun v => by
    have := rbegins_two s p 47 42 hs (by omega) v; rw [decide_eq_false (by exact hP.c)] at this; exact this
  obtain ⟨d1, d2, -, -⟩ := dec_facts s p hp
  have HL : Hid (∀ v, Below w.heap.size w v → Calls Tryz.prog 67 #[.string s, .int .i64 (p : Int), .bool false] v fun e w' => e = .returned (.int .i64 (wd s p : Nat)) ∧ Below v.heap.size v w') := fun v hv => by
    have := rletter_any s p false hs (by omega) v (hT.below hv)
    rw [show ltr s p false = wd s p by unfold ltr; rw [if_pos ⟨hp, by simpa using hl⟩]] at this; exact this
  have HM : Hid (∀ v, Below w.heap.size w v → Calls Tryz.prog 68 #[.string s, .int .i64 (p : Int)] v fun e w' => e = .returned (pcR (nmP s p)) ∧ Below v.heap.size v w') := fun v hv => rname_any s p hs hp v (hT.below hv)
  obtain ⟨D, hD⟩ : ∃ D, wd s p = D := ⟨_, rfl⟩
  rw [hD] at HL d1
  have hD0 : (D : Int) > 0 := by omega
  have HB : Hid (Below w.heap.size w w) := Below.refl _ _
  obtain ⟨r0, r1, r2, r3, hr⟩ : ∃ r0 r1 r2 r3, pcR (nmP s p) = .tuple #[r0, r1, r2, r3] := by cases nmP s p <;> exact ⟨_, _, _, _, rfl⟩
  rw [hr] at HM ⊢
  clear hQ hP hl hD hbt hT d2 hr
  go_enter Tryz.func32, Tryz.ntmps32
  go_wp2_with (first
    | (go_at_call 65; (with_reducible refine (H0.out _).mono ?_); rintro e w3 ⟨rfl, hw3⟩; obtain rfl := hw3.symm)
    | (go_at_call 66; (with_reducible refine (H1.out _).mono ?_); rintro e w3 ⟨rfl, hw3⟩; obtain rfl := hw3.symm)
    | (go_at_call 66; (with_reducible refine (H2.out _).mono ?_); rintro e w3 ⟨rfl, hw3⟩; obtain rfl := hw3.symm)
    | (go_at_call 67; (with_reducible refine (HL.out _ HB.out).mono ?_); rintro e w3 ⟨rfl, hb3⟩; have HB3 : Hid (Below w.heap.size w w3) := hb3; clear hb3)
    | (go_at_call 68; (with_reducible refine (HM.out _ HB3.out).mono ?_); rintro e w4 ⟨rfl, hb4⟩; have HB4 : Hid (Below w.heap.size w w4) := HB3.out.trans (hb4.mono HB3.out.size); clear hb4))
  refine bodyPost_ret (v := .tuple #[r0, r1, r2, r3]) (by simp [results, Tryz.results32, go_sem]) rfl ⟨rfl, HB4.out⟩
end Go.Proofs.YtphejjghgalkpaaGreatDoor
