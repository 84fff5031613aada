import Derived.Laws.Cover1
import Derived.Lib.ParseIntBTie
import Derived.Lib.AtoiAllCases
import Derived.Lib.ItoaMem
import Derived.Test.YtnaipmgdipflgaaGreatDoorVa5
namespace Go.Proofs.YtnaipmgdipflgaaGreatDoor

set_option linter.unusedVariables false
set_option linter.unusedSimpArgs false

/-- the digits that decimal goes through -/
def ddg : Nat → List UInt8 → Option Nat
  | acc, [] => some acc
  | acc, c :: r => if c.toNat < 48 ∨ 57 < c.toNat then none else ddg (10 * acc + (c.toNat - 48)) r
/-- decimal, of the digits' text -/
def dcD (below : Bool) (d : List UInt8) : Option Int :=
  if d = [] ∨ 19 < d.length then none
  else match ddg 0 d with
    | none => none
    | some n => if below = true ∧ n = 9223372036854775808 then some (-9223372036854775808) else if 9223372036854775808 ≤ n then none else if below then some (-(n : Int)) else some (n : Int)
def dcm : List UInt8 → Option Int
  | [] => none
  | c :: r => if c = 45 then dcD true r else dcD false (c :: r)
theorem ddg_app : ∀ (a b : List UInt8) (acc x : Nat), ddg acc a = some x → ddg acc (a ++ b) = ddg x b
  | [], b, acc, x, h => by simp [ddg] at h; subst h; rfl
  | c :: r, b, acc, x, h => by
    simp only [ddg, List.cons_append] at h ⊢
    split at h
    · cases h
    · rename_i hc
      rw [if_neg hc]
      exact ddg_app r b _ x h
theorem pu_app : ∀ (a b : List UInt8) (acc x : Nat), Lib.parseUint10 acc a = .ok x → Lib.parseUint10 acc (a ++ b) = Lib.parseUint10 x b
  | [], b, acc, x, h => by simp [Lib.parseUint10] at h; subst h; rfl
  | c :: r, b, acc, x, h => by
    simp only [Lib.parseUint10, List.cons_append] at h ⊢
    by_cases h1 : 48 ≤ c.toNat ∧ c.toNat ≤ 57
    · rw [if_pos h1] at h ⊢
      by_cases h2 : 1844674407370955162 ≤ acc
      · rw [if_pos h2] at h; cases h
      · rw [if_neg h2] at h ⊢
        by_cases h3 : 18446744073709551616 ≤ acc * 10 + (c.toNat - 48)
        · rw [if_pos h3] at h; cases h
        · rw [if_neg h3] at h ⊢
          exact pu_app r b _ x h
    · rw [if_neg h1] at h; cases h
theorem dig_nat (d : Nat) (h : d < 10) : (UInt8.ofNat (48 + d)).toNat = 48 + d := by
  simp [UInt8.toNat_ofNat']; omega
theorem dec_step (u : Nat) (h : ¬ u < 10) : Lib.decDigits u = Lib.decDigits (u / 10) ++ [UInt8.ofNat (48 + u % 10)] := by rw [Lib.decDigits, dif_neg h]
theorem dec_one (u : Nat) (h : u < 10) : Lib.decDigits u = [UInt8.ofNat (48 + u)] := by rw [Lib.decDigits, dif_pos h]
theorem ddg_dec (u : Nat) : ddg 0 (Lib.decDigits u) = some u := by
  induction u using Nat.strongRecOn with
  | _ u ih =>
    by_cases h : u < 10
    · rw [dec_one u h]
      simp only [ddg, dig_nat u h]
      rw [if_neg (by omega)]
      simp
    · rw [dec_step u h, ddg_app _ _ _ _ (ih (u / 10) (by omega))]
      have := dig_nat (u % 10) (by omega)
      simp only [ddg, this]
      rw [if_neg (by omega)]
      congr 1
      omega
theorem pu_dec (u : Nat) (hu : u < 18446744073709551616) : Lib.parseUint10 0 (Lib.decDigits u) = .ok u := by
  induction u using Nat.strongRecOn with
  | _ u ih =>
    by_cases h : u < 10
    · rw [dec_one u h]
      simp only [Lib.parseUint10, dig_nat u h]
      rw [if_pos (by omega), if_neg (by omega), if_neg (by omega)]
      congr 1
      omega
    · rw [dec_step u h, pu_app _ _ _ _ (ih (u / 10) (by omega) (by omega))]
      have := dig_nat (u % 10) (by omega)
      simp only [Lib.parseUint10, this]
      rw [if_pos (by omega), if_neg (by omega), if_neg (by omega)]
      congr 1
      omega
theorem dec_head (u : Nat) : ∃ c r, Lib.decDigits u = c :: r ∧ 48 ≤ c.toNat ∧ c.toNat ≤ 57 := by
  induction u using Nat.strongRecOn with
  | _ u ih =>
    by_cases h : u < 10
    · exact ⟨_, [], dec_one u h, by rw [dig_nat u h]; omega, by rw [dig_nat u h]; omega⟩
    · obtain ⟨c, r, e, h1, h2⟩ := ih (u / 10) (by omega)
      exact ⟨c, r ++ [UInt8.ofNat (48 + u % 10)], by rw [dec_step u h, e]; rfl, h1, h2⟩
theorem dec_len : ∀ (k u : Nat), u < 10 ^ (k + 1) → (Lib.decDigits u).length ≤ k + 1
  | 0, u, h => by rw [dec_one u (by simpa using h)]; simp
  | k + 1, u, h => by
    by_cases h1 : u < 10
    · rw [dec_one u h1]; simp
    · rw [dec_step u h1, List.length_append]
      have := dec_len k (u / 10) (by rw [Nat.pow_succ] at h; omega)
      simp
      omega
theorem mag_dec (u : Nat) (hu : u < 18446744073709551616) : Lib.parseMag (Lib.decDigits u) = .ok u := by
  obtain ⟨c, r, e, h1, h2⟩ := dec_head u
  unfold Lib.parseMag
  rw [if_neg (by rw [e]; simp), pu_dec u hu]
theorem parse_itoa (m : Int) (h0 : -9223372036854775808 ≤ m) (h1 : m ≤ 9223372036854775807) : Lib.parseIntB 64 (Lib.itoa m) = .ok m := by
  rw [Lib.parseIntB_64]
  by_cases h : m < 0
  · have e : m = -((m.natAbs : Nat) : Int) := by omega
    rw [e, Lib.itoa_neg _ (by omega), Lib.atoiAll_minus, mag_dec _ (by omega)]
    simp only [Lib.signed]
    rw [if_neg (by omega)]
  · have e : m = ((m.toNat : Nat) : Int) := by omega
    rw [e, Lib.itoa_nonneg]
    obtain ⟨c, r, e2, h3, h4⟩ := dec_head m.toNat
    have := mag_dec m.toNat (by omega)
    rw [e2] at this ⊢
    rw [Lib.atoiAll_plain c r (by omega) (by omega), this]
    simp only [Lib.signless]
    rw [if_neg (by omega)]
theorem dcm_itoa (m : Int) (h0 : -9223372036854775808 ≤ m) (h1 : m ≤ 9223372036854775807) : dcm (Lib.itoa m) = some m := by
  by_cases h : m < 0
  · have e : m = -((m.natAbs : Nat) : Int) := by omega
    rw [e, Lib.itoa_neg _ (by omega)]
    obtain ⟨c, r, e2, h3, h4⟩ := dec_head m.natAbs
    have hl := dec_len 18 m.natAbs (by omega)
    simp only [dcm, if_pos]
    unfold dcD
    rw [if_neg (by rw [e2] at hl ⊢; simp at hl ⊢; omega), ddg_dec]
    simp only [true_and]
    by_cases h5 : m.natAbs = 9223372036854775808
    · rw [if_pos h5, h5]; rfl
    · rw [if_neg h5, if_neg (by omega)]; rfl
  · have e : m = ((m.toNat : Nat) : Int) := by omega
    rw [e, Lib.itoa_nonneg]
    obtain ⟨c, r, e2, h3, h4⟩ := dec_head m.toNat
    have hl := dec_len 18 m.toNat (by omega)
    have hd := ddg_dec m.toNat
    rw [e2] at hl hd ⊢
    have hc : ¬ c = 45 := by intro e; subst e; revert h3; decide
    simp only [dcm]
    rw [if_neg hc]
    unfold dcD
    rw [if_neg (by simp at hl ⊢; omega), hd]
    simp only [Bool.false_eq_true, false_and, if_false]
    rw [if_neg (by omega)]
end Go.Proofs.YtnaipmgdipflgaaGreatDoor

namespace Go.Proofs.YtnaipmgdipflgaaGreatDoor
set_option linter.unusedVariables false
set_option linter.unusedSimpArgs false

/-- what begins with a quote is no numeral -/
theorem parse_quote (r : List UInt8) (n : Int) : Lib.parseIntB 64 (34 :: r) ≠ .ok n := by
  rw [Lib.parseIntB_64, Lib.atoiAll_plain 34 r (by decide) (by decide)]
  have e : Lib.parseMag (34 :: r) = .«syntax» := by
    unfold Lib.parseMag
    rw [if_neg (by simp)]
    simp only [Lib.parseUint10]
    rw [if_neg (by decide)]
  rw [e]
  simp [Lib.signless]
/-- what both readers make of a text that is a numeral, and of one that is none -/
theorem num_same (l : List UInt8) : (∃ n : Int, -9223372036854775808 ≤ n ∧ n ≤ 9223372036854775807 ∧ Lib.itoa n = l ∧ Lib.parseIntB 64 l = .ok n ∧ dcm l = some n) ∨ ((∀ n, Lib.parseIntB 64 l = .ok n → Lib.itoa n ≠ l) ∧ ∀ n : Int, -9223372036854775808 ≤ n → n ≤ 9223372036854775807 → dcm l = some n → Lib.itoa n ≠ l) := by
  by_cases h : ∃ n : Int, -9223372036854775808 ≤ n ∧ n ≤ 9223372036854775807 ∧ Lib.itoa n = l
  · obtain ⟨n, h0, h1, rfl⟩ := h
    exact .inl ⟨n, h0, h1, rfl, parse_itoa n h0 h1, dcm_itoa n h0 h1⟩
  · right
    refine ⟨fun n hn e => h ⟨n, ?_, ?_, e⟩, fun n h0 h1 _ e => h ⟨n, h0, h1, e⟩⟩
    · rw [Lib.parseIntB_64] at hn; exact (Lib.atoiAll_bounds hn).1
    · rw [Lib.parseIntB_64] at hn; exact (Lib.atoiAll_bounds hn).2
/-- decimal's answer is in bounds -/
theorem dcm_bounds (l : List UInt8) (n : Int) (h : dcm l = some n) : -9223372036854775808 ≤ n ∧ n ≤ 9223372036854775807 := by
  have key : ∀ (b : Bool) (d : List UInt8), dcD b d = some n → -9223372036854775808 ≤ n ∧ n ≤ 9223372036854775807 := by
    intro b d hd
    unfold dcD at hd
    split at hd
    · cases hd
    · split at hd
      · cases hd
      · split at hd
        · cases hd; omega
        · split at hd
          · cases hd
          · split at hd
            · cases hd; omega
            · cases hd; omega
  cases l with
  | nil => simp [dcm] at h
  | cons c r =>
    simp only [dcm] at h
    split at h
    · exact key _ _ h
    · exact key _ _ h
end Go.Proofs.YtnaipmgdipflgaaGreatDoor

namespace Go.Proofs.YtnaipmgdipflgaaGreatDoor
set_option linter.unusedVariables false
set_option linter.unusedSimpArgs false

theorem rwB_len (s : ByteArray) : ∀ n k, s.size - k ≤ n → (rwB s k).length ≤ n := by
  intro n
  induction n with
  | zero => intro k hk; rw [rwB_end (by omega)]; simp
  | succ n ih =>
    intro k hk
    by_cases h : k + 1 < s.size
    · by_cases hb : bt s k = 13
      · rw [rwB_cr h hb]; have := ih (k + 1) (by omega); omega
      · rw [rwB_on h hb]; have := ih (k + 1) (by omega); simp; omega
    · rw [rwB_end h]; simp
theorem itB_len (i : Itm) : (itB i).length ≤ 4 := by
  unfold itB
  split
  · simp
  · exact rune_len _
theorem tvs_len (s : ByteArray) : ∀ n k, s.size - k ≤ n → (tvs s k).length ≤ 4 * n := by
  intro n
  induction n with
  | zero =>
    intro k hk
    rw [tvs, dif_neg (by omega)]
    simp
  | succ n ih =>
    intro k hk
    cases h : ita s k 34 with
    | none => rw [tvs_none h]; simp
    | some i =>
      obtain ⟨h1, h2, h3, h4⟩ := ita_in h
      rw [tvs_some h, List.length_append]
      have := ih (k + i.n) (by omega)
      have := itB_len i
      omega
theorem txB_len (s : ByteArray) : (txB s).length ≤ 4 * s.size := by
  unfold txB
  split
  · have := rwB_len s (s.size - 1) 1 (by omega); omega
  · have := tvs_len s (s.size - 1) 1 (by omega); omega
end Go.Proofs.YtnaipmgdipflgaaGreatDoor
