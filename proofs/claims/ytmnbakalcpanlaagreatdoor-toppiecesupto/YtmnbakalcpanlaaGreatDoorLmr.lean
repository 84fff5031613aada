import Derived.Test.YtmnbakalcpanlaaGreatDoorTm4
namespace Go.Proofs.YtmnbakalcpanlaaGreatDoor
open Go.ChangeShapes Go.WideShapes Go.ChangeAt Go.RowKit
set_option linter.unusedVariables false
set_option linter.unusedSimpArgs false

theorem blE_le (s : ByteArray) : ∀ n k, s.size - k ≤ n → k ≤ s.size → k ≤ blE s k ∧ blE s k ≤ s.size
  | n, k, hn, hk => by
    by_cases h : k < s.size ∧ blk (bt s k) = true
    · rw [blE_in h.1 h.2]
      match n, hn with
      | 0, hn => omega
      | m + 1, hn => have := blE_le s m (k + 1) (by omega) (by omega); omega
    · rw [blE_out h]; omega
theorem quo_le (s : ByteArray) (q : Nat) : ∀ n k c bad t c' bad', s.size - k ≤ n → quo s q k c bad = some (t, c', bad') → k ≤ t ∧ t < s.size
  | n, k, c, bad, t, c', bad', hn, h => by
    by_cases hk : k < s.size ∧ bt s k ≠ 10
    · by_cases hq : bt s k = q
      · rw [quo_quote hk.1 hk.2 hq] at h
        cases h
        omega
      · rw [quo, dif_pos hk, if_neg hq] at h
        cases hi : itm s k q with
        | none => rw [hi] at h; cases h
        | some it =>
          rw [hi] at h
          simp only at h
          obtain ⟨i1, i2, -⟩ := itm_n hk.1 hi
          rw [dif_pos i1] at h
          match n, hn with
          | 0, hn => omega
          | m + 1, hn => have := quo_le s q m (k + it.n) _ _ _ _ _ (by omega) h; omega
    · rw [quo_end hk] at h; cases h
/-- a piece that is cut is not empty and lies within the text -/
theorem pce_ok {s : ByteArray} {p k t : Nat} (hp : p < s.size) (h : pce s p = .ok k t) : p < t ∧ t ≤ s.size ∧ k < 80 := by
  unfold pce at h
  by_cases h1 : blk (bt s p) = true
  · rw [if_pos h1] at h
    cases h
    have := blE_le s (s.size - (p + 1)) (p + 1) (Nat.le_refl _) (by omega)
    rw [blE_in hp h1]
    omega
  rw [if_neg h1] at h
  by_cases h2 : bt s p = 47 ∧ bt s (p + 1) = 47
  · rw [if_pos h2] at h
    cases h
    have := fnd_le s 10 (s.size - (p + 1)) (p + 1) (Nat.le_refl _) (by omega)
    rw [fnd_in hp (by omega)]
    omega
  rw [if_neg h2] at h
  by_cases h3 : bt s p = 47 ∧ bt s (p + 1) = 42
  · rw [if_pos h3] at h
    cases hf : fn2 s 42 47 (p + 2) with
    | none => rw [hf] at h; cases h
    | some x =>
      rw [hf] at h
      cases h
      have := fn2_le s 42 47 (by omega) (s.size - (p + 2)) (p + 2) x (Nat.le_refl _) hf
      omega
  rw [if_neg h3] at h
  obtain ⟨f1, f2, f3, -⟩ := dec_facts s p hp
  have hrun : isLD (rn s p) = true → p < rnE s p ∧ rnE s p ≤ s.size := fun hl => by
    have := rnE_le s (s.size - (p + wd s p)) (p + wd s p) (Nat.le_refl _) f2
    rw [rnE_in hp hl]
    omega
  by_cases h4 : isL (rn s p) = true
  · rw [if_pos h4] at h
    unfold nmP at h
    split at h
    · cases h
    · cases h
      have := hrun (by unfold isLD; rw [h4]; rfl)
      have := kwd_lt (s.extract p (rnE s p)).data.toList
      omega
  rw [if_neg h4] at h
  by_cases h5 : 48 ≤ bt s p ∧ bt s p ≤ 57
  · rw [if_pos h5] at h
    unfold ruP at h
    split at h
    · cases h
      have hld : isLD (rn s p) = true := by
        rw [(f3 (by rw [← bt_in hp]; omega)).2, ← bt_in hp]
        have : ∀ n, n < 58 → 48 ≤ n → isLD n = true := by decide
        exact this _ (by omega) h5.1
      have := hrun hld
      omega
    · cases h
  rw [if_neg h5] at h
  by_cases h6 : bt s p = 39 ∨ bt s p = 34 ∨ bt s p = 96
  · rw [if_pos h6] at h
    unfold quP at h
    by_cases h96 : bt s p = 96
    · rw [if_pos h96] at h
      split at h
      · cases h
        have := fnd_le s 96 (s.size - (p + 1)) (p + 1) (Nat.le_refl _) (by omega)
        omega
      · cases h
    · rw [if_neg h96] at h
      cases hq : quo s (bt s p) (p + 1) 0 none with
      | none => rw [hq] at h; cases h
      | some x =>
        obtain ⟨t', c', bad'⟩ := x
        rw [hq] at h
        simp only at h
        have := quo_le s (bt s p) (s.size - (p + 1)) (p + 1) 0 none t' c' bad' (Nat.le_refl _) hq
        split at h
        · cases h
        · cases bad' with
          | some z => cases h
          | none =>
            simp only at h
            cases h
            split <;> omega
  rw [if_neg h6] at h
  cases ho : onT TT 0 (bt s p) with
  | none => rw [mk_none s p hp ho] at h; cases h
  | some x =>
    obtain ⟨m1, m2, m3, m4⟩ := mk_some s p x hp ho
    rw [m1] at h
    cases h
    exact ⟨m3, m4, m2⟩
/-- all pieces from a place on, and the fault at which they end -/
def cut (s : ByteArray) (p : Nat) : List Tk × Option (Nat × Nat) :=
  if h : p < s.size then
    match pce s p with
    | .ok k t => if ht : p < t then (⟨k, p, t⟩ :: (cut s t).1, (cut s t).2) else ([], none)
    | .no y z => ([], some (y, z))
  else ([], none)
termination_by s.size - p
theorem cut_end {s : ByteArray} {p : Nat} (h : ¬ p < s.size) : cut s p = ([], none) := by rw [cut, dif_neg h]
theorem cut_no {s : ByteArray} {p y z : Nat} (h : p < s.size) (e : pce s p = .no y z) : cut s p = ([], some (y, z)) := by rw [cut, dif_pos h, e]
theorem cut_ok {s : ByteArray} {p k t : Nat} (h : p < s.size) (e : pce s p = .ok k t) : cut s p = (⟨k, p, t⟩ :: (cut s t).1, (cut s t).2) := by
  rw [cut, dif_pos h, e]
  simp only
  rw [dif_pos (pce_ok h e).1]
/-- what may begin at a byte, by the code's table -/
def fR (s : ByteArray) (p : Nat) : Nat → Bool
  | 0 => blk (bt s p)
  | 1 => decide (bt s p = 47 ∧ bt s (p + 1) = 47) || decide (bt s p = 47 ∧ bt s (p + 1) = 42)
  | 2 => isL (rn s p)
  | 3 => decide (48 ≤ bt s p ∧ bt s p ≤ 57)
  | 4 => decide (bt s p = 39 ∨ bt s p = 34 ∨ bt s p = 96)
  | _ => (onT TT 0 (bt s p)).isSome
def cR (s : ByteArray) (p : Nat) : Nat → Pce
  | 0 => .ok 0 (blE s p)
  | 1 => noP s p
  | 2 => nmP s p
  | 3 => ruP s p
  | 4 => quP s p
  | _ => mkP s p
/-- the first row that fits tells the piece -/
theorem row_pce (s : ByteArray) (p r : Nat) (hr : r < 6) (h1 : ∀ i, i < r → fR s p i = false) (h2 : fR s p r = true) : pce s p = cR s p r := by
  unfold pce
  have a0 : 0 < r → ¬ blk (bt s p) = true := fun h => by have := h1 0 h; simp only [fR] at this; rw [this]; simp
  have a1 : 1 < r → ¬ (bt s p = 47 ∧ bt s (p + 1) = 47) ∧ ¬ (bt s p = 47 ∧ bt s (p + 1) = 42) := fun h => by have := h1 1 h; simp only [fR, Bool.or_eq_false_iff, decide_eq_false_iff_not] at this; exact this
  have a2 : 2 < r → ¬ isL (rn s p) = true := fun h => by have := h1 2 h; simp only [fR] at this; rw [this]; simp
  have a3 : 3 < r → ¬ (48 ≤ bt s p ∧ bt s p ≤ 57) := fun h => by have := h1 3 h; simp only [fR, decide_eq_false_iff_not] at this; exact this
  have a4 : 4 < r → ¬ (bt s p = 39 ∨ bt s p = 34 ∨ bt s p = 96) := fun h => by have := h1 4 h; simp only [fR, decide_eq_false_iff_not] at this; exact this
  match r, hr with
  | 0, _ => rw [if_pos (show blk (bt s p) = true from h2)]; rfl
  | 1, _ =>
    rw [if_neg (a0 (by omega))]
    simp only [fR, Bool.or_eq_true, decide_eq_true_eq] at h2
    show _ = noP s p
    unfold noP
    by_cases h : bt s p = 47 ∧ bt s (p + 1) = 47
    · rw [if_pos h, if_pos h.2]
    · have h' : bt s p = 47 ∧ bt s (p + 1) = 42 := by rcases h2 with e | e; exact absurd e h; exact e
      rw [if_neg h, if_pos h', if_neg (by omega)]
      cases fn2 s 42 47 (p + 2) <;> rfl
  | 2, _ => rw [if_neg (a0 (by omega)), if_neg (a1 (by omega)).1, if_neg (a1 (by omega)).2, if_pos (show isL (rn s p) = true from h2)]; rfl
  | 3, _ => rw [if_neg (a0 (by omega)), if_neg (a1 (by omega)).1, if_neg (a1 (by omega)).2, if_neg (a2 (by omega)), if_pos (show 48 ≤ bt s p ∧ bt s p ≤ 57 from of_decide_eq_true h2)]; rfl
  | 4, _ => rw [if_neg (a0 (by omega)), if_neg (a1 (by omega)).1, if_neg (a1 (by omega)).2, if_neg (a2 (by omega)), if_neg (a3 (by omega)), if_pos (show bt s p = 39 ∨ bt s p = 34 ∨ bt s p = 96 from of_decide_eq_true h2)]; rfl
  | 5, _ => rw [if_neg (a0 (by omega)), if_neg (a1 (by omega)).1, if_neg (a1 (by omega)).2, if_neg (a2 (by omega)), if_neg (a3 (by omega)), if_neg (a4 (by omega))]; rfl
theorem row_none (s : ByteArray) (p : Nat) (hp : p < s.size) (h1 : ∀ i, i < 6 → fR s p i = false) : pce s p = .no 20 p := by
  unfold pce
  have a0 : ¬ blk (bt s p) = true := by have := h1 0 (by omega); simp only [fR] at this; rw [this]; simp
  have a1 : ¬ (bt s p = 47 ∧ bt s (p + 1) = 47) ∧ ¬ (bt s p = 47 ∧ bt s (p + 1) = 42) := by have := h1 1 (by omega); simp only [fR, Bool.or_eq_false_iff, decide_eq_false_iff_not] at this; exact this
  have a2 : ¬ isL (rn s p) = true := by have := h1 2 (by omega); simp only [fR] at this; rw [this]; simp
  have a3 : ¬ (48 ≤ bt s p ∧ bt s p ≤ 57) := by have := h1 3 (by omega); simp only [fR, decide_eq_false_iff_not] at this; exact this
  have a4 : ¬ (bt s p = 39 ∨ bt s p = 34 ∨ bt s p = 96) := by have := h1 4 (by omega); simp only [fR, decide_eq_false_iff_not] at this; exact this
  have a5 : onT TT 0 (bt s p) = none := by
    have := h1 5 (by omega)
    simp only [fR] at this
    cases hO : onT TT 0 (bt s p) with
    | none => rfl
    | some x => rw [hO] at this; cases this
  rw [if_neg a0, if_neg a1.1, if_neg a1.2, if_neg a2, if_neg a3, if_neg a4]
  exact mk_none s p hp a5
end Go.Proofs.YtmnbakalcpanlaaGreatDoor
