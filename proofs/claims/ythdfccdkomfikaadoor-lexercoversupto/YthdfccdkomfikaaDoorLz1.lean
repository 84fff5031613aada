import Derived.Test.YthdfccdkomfikaaDoorLxt
namespace Go.Proofs.YthdfccdkomfikaaDoor
open Go.ChangeShapes Go.WideShapes Go.ChangeAt Go.RowKit
set_option linter.unusedVariables false
set_option linter.unusedSimpArgs false

/-- the base that a letter behind a 0 tells; 0: none -/
def bsl (c : Nat) : Nat := if c = 120 ∨ c = 88 then 16 else if c = 111 ∨ c = 79 then 8 else if c = 98 ∨ c = 66 then 2 else 0
/-- the reference's way: the digits of a number of a base, from a place on -/
def nmL (r : ByteArray) (b off k : Nat) : Bool :=
  if h : k < r.size then
    (if bt r k = 95 then (if (k = off ∧ b = 10) ∨ r.size ≤ k + 1 ∨ bt r (k + 1) = 95 then false else nmL r b off (k + 1))
     else if b ≤ dgv (bt r k) then false else nmL r b off (k + 1))
  else true
termination_by r.size - k
/-- is it a number? -/
def num (r : ByteArray) : Bool :=
  if 1 < r.size ∧ bt r 0 = 48 then (if bsl (bt r 1) = 0 ∨ r.size ≤ 2 then false else nmL r (bsl (bt r 1)) 2 2)
  else if r.size = 0 then false else nmL r 10 0 0
/-- the code's way: is a digit wanted? -/
def cnL (r : ByteArray) (b k : Nat) (wt : Bool) : Bool :=
  if h : k < r.size then
    (if bt r k = 95 ∧ wt = false then cnL r b (k + 1) true
     else if b ≤ dgv (bt r k) then false else cnL r b (k + 1) false)
  else !wt
termination_by r.size - k
theorem cn_nm (r : ByteArray) (b off : Nat) (hb : b ≤ 16) (ho : b = 10 → off = 0) : ∀ n k, r.size - k ≤ n → ((¬ (k = off ∧ b = 10)) → cnL r b k false = nmL r b off k) ∧ cnL r b k true = (decide (k < r.size ∧ bt r k ≠ 95) && nmL r b off k) := by
  have d95 : dgv 95 = 99 := by decide
  intro n
  induction n with
  | zero =>
    intro k hk
    have hk' : ¬ k < r.size := by omega
    refine ⟨fun _ => ?_, ?_⟩
    · rw [cnL, nmL, dif_neg hk', dif_neg hk']; rfl
    · rw [cnL, nmL, dif_neg hk', dif_neg hk']; simp [hk']
  | succ n ih =>
    intro k hk
    by_cases hk' : k < r.size
    · obtain ⟨ih1, ih2⟩ := ih (k + 1) (by omega)
      have next : cnL r b (k + 1) false = nmL r b off (k + 1) := ih1 (fun h => by have := ho h.2; omega)
      refine ⟨fun hne => ?_, ?_⟩
      · rw [cnL, nmL, dif_pos hk', dif_pos hk']
        by_cases h95 : bt r k = 95
        · rw [if_pos ⟨h95, rfl⟩, if_pos h95, ih2]
          by_cases h1 : r.size ≤ k + 1
          · rw [if_pos (.inr (.inl h1))]; simp; omega
          · by_cases h2 : bt r (k + 1) = 95
            · rw [if_pos (.inr (.inr h2))]; simp [h2]
            · rw [if_neg (by simp only [not_or]; exact ⟨hne, h1, h2⟩)]
              have : k + 1 < r.size := by omega
              simp [h2, this]
        · rw [if_neg (fun h => h95 h.1), if_neg h95, next]
      · rw [cnL, nmL, dif_pos hk', dif_pos hk']
        by_cases h95 : bt r k = 95
        · rw [if_neg (by simp), if_pos (by rw [h95, d95]; omega)]
          simp [h95]
        · rw [if_neg (fun h => h95 h.1), if_neg h95, next]
          simp [h95, hk']
    · refine ⟨fun _ => ?_, ?_⟩
      · rw [cnL, nmL, dif_neg hk', dif_neg hk']; rfl
      · rw [cnL, nmL, dif_neg hk', dif_neg hk']; simp [hk']
/-- the place of the code's first digit -/
def cof (r : ByteArray) : Nat := if bt r 2 = 95 then 3 else 2
/-- the code's way to tell a number -/
def cnum (r : ByteArray) : Bool :=
  if 2 ≤ r.size ∧ bt r 0 = 48 ∧ bsl (bt r 1) ≠ 0 then cnL r (bsl (bt r 1)) (cof r) true
  else if bt r 0 = 48 then decide (r.size = 1) else cnL r 10 0 true
theorem bsl_le (c : Nat) : bsl c ≤ 16 ∧ bsl c ≠ 10 := by unfold bsl; repeat (first | (constructor <;> omega) | split)
theorem cnum_num (r : ByteArray) (h0 : 0 < r.size) (hd : 48 ≤ bt r 0 ∧ bt r 0 ≤ 57) : cnum r = num r := by
  unfold cnum num
  by_cases h1 : 1 < r.size ∧ bt r 0 = 48
  · rw [if_pos h1]
    by_cases hb : bsl (bt r 1) = 0
    · rw [if_neg (by simp [hb]), if_pos h1.2, if_pos (.inl hb)]
      simp; omega
    · obtain ⟨hb1, hb2⟩ := bsl_le (bt r 1)
      rw [if_pos ⟨h1.1, h1.2, hb⟩]
      by_cases hs : r.size ≤ 2
      · rw [if_pos (.inr hs)]
        have : ¬ cof r < r.size := by unfold cof; split <;> omega
        rw [cnL, dif_neg this]; rfl
      · rw [if_neg (by simp only [not_or]; exact ⟨hb, hs⟩)]
        obtain ⟨k1, k2⟩ := cn_nm r (bsl (bt r 1)) 2 hb1 (fun h => absurd h hb2) r.size 2 (by omega)
        by_cases h95 : bt r 2 = 95
        · have hc : cof r = 3 := by unfold cof; rw [if_pos h95]
          rw [hc]
          have := k1 (fun h => hb2 h.2)
          have e : cnL r (bsl (bt r 1)) 2 false = cnL r (bsl (bt r 1)) 3 true := by rw [cnL, dif_pos (by omega), if_pos ⟨h95, rfl⟩]
          rw [← this, e]
        · have hc : cof r = 2 := by unfold cof; rw [if_neg h95]
          rw [hc, k2]
          have : 2 < r.size := by omega
          simp [h95, this]
  · have hA : ¬ (2 ≤ r.size ∧ bt r 0 = 48 ∧ bsl (bt r 1) ≠ 0) := fun h => h1 ⟨by omega, h.2.1⟩
    have hZ : ¬ r.size = 0 := by omega
    rw [if_neg h1, if_neg hA, if_neg hZ]
    have hd2 : bt r 0 ≠ 95 := by omega
    obtain ⟨k1, k2⟩ := cn_nm r 10 0 (by omega) (fun _ => rfl) r.size 0 (by omega)
    by_cases h48 : bt r 0 = 48
    · have hs : r.size = 1 := by
        by_cases h : 1 < r.size
        · exact absurd ⟨h, h48⟩ h1
        · omega
      have e1 : nmL r 10 0 1 = true := by rw [nmL, dif_neg (by omega)]
      rw [if_pos h48, nmL, dif_pos h0, if_neg hd2, if_neg (by rw [h48]; decide), e1]
      simp [hs]
    · rw [if_neg h48, k2]
      simp [hd2, h0]
end Go.Proofs.YthdfccdkomfikaaDoor
