import Derived.Test.YtmnbakalcpanlaaGreatDoorLc1
namespace Go.Proofs.YtmnbakalcpanlaaGreatDoor
open Go.ChangeShapes Go.WideShapes Go.ChangeAt Go.RowKit
set_option linter.unusedVariables false
set_option linter.unusedSimpArgs false

theorem blE_stop (s : ByteArray) : ∀ m p, s.size - p ≤ m → blk (bt s (blE s p)) = false
  | m, p, hm => by
    by_cases h : p < s.size ∧ blk (bt s p) = true
    · rw [blE_in h.1 h.2]
      match m, hm with
      | 0, hm => omega
      | m + 1, hm => exact blE_stop s m (p + 1) (by omega)
    · rw [blE_out h]
      by_cases hp : p < s.size
      · cases hb : blk (bt s p) with
        | true => exact absurd ⟨hp, hb⟩ h
        | false => rfl
      · rw [bt_out hp]; rfl
theorem fnd_stop (s : ByteArray) (c : Nat) : ∀ m p, s.size - p ≤ m → bt s (fnd s c p) = c ∨ s.size ≤ fnd s c p
  | m, p, hm => by
    by_cases h : p < s.size ∧ bt s p ≠ c
    · rw [fnd_in h.1 h.2]
      match m, hm with
      | 0, hm => omega
      | m + 1, hm => exact fnd_stop s c m (p + 1) (by omega)
    · rw [fnd_out h]
      by_cases hp : p < s.size
      · left; exact Classical.byContradiction fun e => h ⟨hp, e⟩
      · right; omega
theorem rnE_stop (s : ByteArray) : ∀ m p, s.size - p ≤ m → rnE s p < s.size → isLD (rn s (rnE s p)) = false
  | m, p, hm, hl => by
    by_cases h : p < s.size ∧ isLD (rn s p) = true
    · rw [rnE_in h.1 h.2] at hl ⊢
      have := (dec_facts s p h.1).1
      match m, hm with
      | 0, hm => omega
      | m + 1, hm => exact rnE_stop s m (p + wd s p) (by omega) hl
    · rw [rnE_out h] at hl ⊢
      cases hb : isLD (rn s p) with
      | true => exact absurd ⟨hl, hb⟩ h
      | false => rfl
/-- what a piece of each kind is -/
theorem pce_shape {s : ByteArray} {p k t : Nat} (hp : p < s.size) (h : pce s p = .ok k t) :
    (k = 0 ∧ blk (bt s p) = true ∧ t = blE s p) ∨ (k = 1 ∧ bt s p = 47 ∧ bt s (p + 1) = 47 ∧ t = fnd s 10 p) ∨ (k = 1 ∧ bt s p = 47 ∧ bt s (p + 1) = 42 ∧ ∃ x, fn2 s 42 47 (p + 2) = some x ∧ t = x + 2) ∨
    ((k = 2 ∨ k = 3 ∨ (7 ≤ k ∧ k < 32)) ∧ t = rnE s p) ∨ ((k = 4 ∨ k = 5) ∧ quP s p = .ok k t) ∨
    (32 ≤ k ∧ k < 80 ∧ mkP s p = .ok k t ∧ ¬ (bt s p = 47 ∧ (bt s (p + 1) = 47 ∨ bt s (p + 1) = 42))) := by
  unfold pce at h
  by_cases g1 : blk (bt s p) = true
  · rw [if_pos g1] at h; cases h; exact .inl ⟨rfl, g1, rfl⟩
  rw [if_neg g1] at h
  by_cases g2 : bt s p = 47 ∧ bt s (p + 1) = 47
  · rw [if_pos g2] at h; cases h; exact .inr (.inl ⟨rfl, g2.1, g2.2, rfl⟩)
  rw [if_neg g2] at h
  by_cases g3 : bt s p = 47 ∧ bt s (p + 1) = 42
  · rw [if_pos g3] at h
    cases hf : fn2 s 42 47 (p + 2) with
    | none => rw [hf] at h; cases h
    | some x => rw [hf] at h; cases h; exact .inr (.inr (.inl ⟨rfl, g3.1, g3.2, x, rfl, rfl⟩))
  rw [if_neg g3] at h
  by_cases g4 : isL (rn s p) = true
  · rw [if_pos g4] at h
    unfold nmP at h
    split at h
    · cases h
    · cases h
      have h1 := kwd_2 (s.extract p (rnE s p)).data.toList
      have h2 := kwd_lt (s.extract p (rnE s p)).data.toList
      exact .inr (.inr (.inr (.inl ⟨by omega, rfl⟩)))
  rw [if_neg g4] at h
  by_cases g5 : 48 ≤ bt s p ∧ bt s p ≤ 57
  · rw [if_pos g5] at h
    unfold ruP at h
    split at h
    · cases h; exact .inr (.inr (.inr (.inl ⟨by omega, rfl⟩)))
    · cases h
  rw [if_neg g5] at h
  by_cases g6 : bt s p = 39 ∨ bt s p = 34 ∨ bt s p = 96
  · rw [if_pos g6] at h
    refine .inr (.inr (.inr (.inr (.inl ⟨?_, h⟩))))
    unfold quP at h
    split at h
    · split at h
      · cases h; right; rfl
      · cases h
    · split at h
      · cases h
      · split at h
        · cases h
        · split at h
          · cases h
          · cases h
            split
            · left; rfl
            · right; rfl
  rw [if_neg g6] at h
  obtain ⟨n, n1, n2, -⟩ := mkP_ok hp h
  exact .inr (.inr (.inr (.inr (.inr ⟨by omega, by omega, h, fun e => by rcases e.2 with e2 | e2; exact g2 ⟨e.1, e2⟩; exact g3 ⟨e.1, e2⟩⟩))))
/-- a piece ends where nothing goes on with it -/
theorem pce_stop {s : ByteArray} {p k t : Nat} (hp : p < s.size) (h : pce s p = .ok k t) :
    (k = 0 → blk (bt s t) = false) ∧ (k = 1 → bt s (p + 1) = 47 → bt s t = 10 ∨ s.size ≤ t) ∧ (k < 32 → 2 ≤ k → k ≠ 4 → k ≠ 5 → t < s.size → isLD (rn s t) = false) ∧
    (32 ≤ k → (∀ m ∈ mks, bgn s p m = true → m.length ≤ t - p) ∧ ¬ (bt s p = 47 ∧ (bt s (p + 1) = 47 ∨ bt s (p + 1) = 42))) := by
  rcases pce_shape hp h with ⟨rfl, -, rfl⟩ | ⟨rfl, a, b, rfl⟩ | ⟨rfl, a, b, -⟩ | ⟨hk, rfl⟩ | ⟨hk, -⟩ | ⟨h1, h2, h3, h4⟩
  · exact ⟨fun _ => blE_stop s _ p (Nat.le_refl _), by omega, by omega, by omega⟩
  · exact ⟨by omega, fun _ _ => fnd_stop s 10 _ p (Nat.le_refl _), by omega, by omega⟩
  · exact ⟨by omega, by omega, by omega, by omega⟩
  · exact ⟨by omega, by omega, fun _ _ _ _ hl => rnE_stop s _ p (Nat.le_refl _) hl, by omega⟩
  · exact ⟨by omega, by omega, by omega, by omega⟩
  · obtain ⟨n, n1, n2, n3, n4, n5⟩ := mkP_ok hp h3
    exact ⟨by omega, by omega, by omega, fun _ => ⟨n5, h4⟩⟩
theorem off_size {s : ByteArray} {z : Nat} (h : z ≤ s.size) : (s.extract 0 z).size = z := by rw [ByteArray.size_extract]; omega
theorem off_bt {s : ByteArray} {z : Nat} (h : z ≤ s.size) (j : Nat) : bt (s.extract 0 z) j = if j < z then bt s j else 256 := by rw [bt_ex _ _ _ _ h]; simp
theorem off_ag {s : ByteArray} {z p n : Nat} (h : z ≤ s.size) (hn : p + n ≤ z) : Ag s (s.extract 0 z) p p n := fun j hj => by rw [off_bt h, if_pos (by omega)]
theorem off_bgn {s : ByteArray} {z p : Nat} {m : List UInt8} (h : z ≤ s.size) (hp : p ≤ z) (hb : bgn (s.extract 0 z) p m = true) : bgn s p m = true := by
  have hl := bgn_le hb
  rw [off_size h] at hl
  rw [bgn_fit _ _ _ (by rw [off_size h]; exact hp)] at hb
  rw [bgn_fit _ _ _ (by omega), ← fit_ag m p p (off_ag h hl)]
  exact hb
/-- a text cut off behind a piece has the piece -/
theorem pce_off {s : ByteArray} {p k t z : Nat} (hp : p < s.size) (h : pce s p = .ok k t) (htz : t ≤ z) (hz : z ≤ s.size) : pce (s.extract 0 z) p = .ok k t := by
  obtain ⟨t1, t2, -⟩ := pce_ok hp h
  obtain ⟨s0, s1, s2, s3⟩ := pce_stop hp h
  have et : p + (t - p) = t := by omega
  have key := pce_ag (s' := s.extract 0 z) (p' := p) hp h (off_ag hz (by omega))
    (fun hk => by
      rw [et, off_bt hz]
      split
      · exact s0 hk
      · rfl)
    (fun hk hb => by
      rw [et, off_bt hz, off_size hz]
      by_cases hl : t < z
      · rw [if_pos hl]
        rcases s1 hk hb with h | h
        · exact .inl h
        · omega
      · right; omega)
    (fun a b c d hl => by
      rw [et, off_size hz] at hl
      rw [et]
      rcases dec_off s z t hz hl with h | h
      · rw [h.1]; exact s2 a b c d (by omega)
      · rw [h.1]; exact bad_none.2)
    (fun hk => ⟨fun m hm hb => (s3 hk).1 m hm (off_bgn hz (by omega) hb), fun e hb => by
      rw [off_bt hz]
      split
      · exact ⟨fun x => (s3 hk).2 ⟨hb, .inl x⟩, fun x => (s3 hk).2 ⟨hb, .inr x⟩⟩
      · exact ⟨by omega, by omega⟩⟩)
  rw [et] at key
  exact key
/-- a piece by itself is that piece -/
theorem pce_self {s : ByteArray} {p k t : Nat} (hp : p < s.size) (h : pce s p = .ok k t) : pce (s.extract p t) 0 = .ok k (t - p) := by
  obtain ⟨t1, t2, -⟩ := pce_ok hp h
  obtain ⟨-, -, -, s3⟩ := pce_stop hp h
  have hz : (s.extract p t).size = t - p := by rw [ByteArray.size_extract]; omega
  have hb : ∀ j, bt (s.extract p t) j = if p + j < t then bt s (p + j) else 256 := fun j => bt_ex s p t j t2
  have key := pce_ag (s' := s.extract p t) (p' := 0) hp h (fun j hj => by rw [Nat.zero_add, hb, if_pos (by omega)])
    (fun _ => by rw [Nat.zero_add, bt_out (by omega)]; rfl)
    (fun _ _ => .inr (by omega))
    (fun _ _ _ _ hl => by omega)
    (fun hk => ⟨fun m hm hbm => by have := bgn_le hbm; omega, fun e hb' => by rw [Nat.zero_add, hb, if_neg (by omega)]; exact ⟨by omega, by omega⟩⟩)
  rw [Nat.zero_add] at key
  exact key
theorem cut_self {s : ByteArray} {p k t : Nat} (hp : p < s.size) (h : pce s p = .ok k t) : cut (s.extract p t) 0 = ([(⟨k, 0, (s.extract p t).size⟩ : Tk)], none) := by
  obtain ⟨t1, t2, -⟩ := pce_ok hp h
  have hz : (s.extract p t).size = t - p := by rw [ByteArray.size_extract]; omega
  have h0 := pce_self hp h
  rw [cut_ok (by omega) h0, cut_end (by omega), hz]
  rfl

theorem quo_keep {s : ByteArray} {q z : Nat} : ∀ m k c t c' b, s.size - k ≤ m → quo s q k c (some z) = some (t, c', b) → b = some z
  | m, k, c, t, c', b, hm, h => by
    by_cases h1 : k < s.size ∧ bt s k ≠ 10
    · by_cases h2 : bt s k = q
      · rw [quo_quote h1.1 h1.2 h2] at h; cases h; rfl
      · cases h3 : itm s k q with
        | none => rw [quo_no h1 h2 h3] at h; cases h
        | some it =>
          rw [quo_on h1 h2 h3, if_neg (by simp)] at h
          have := (itm_n h1.1 h3).1
          match m, hm with
          | 0, hm => omega
          | m + 1, hm => exact quo_keep m _ _ _ _ _ (by omega) h
    · rw [quo_end h1] at h; cases h
/-- cut off ahead of the first bad byte, quotes do not end -/
theorem quo_off {s : ByteArray} {q : Nat} : ∀ m k c t c' z, s.size - k ≤ m → quo s q k c none = some (t, c', some z) → k ≤ z ∧ z < t ∧ t < s.size ∧ quo (s.extract 0 z) q k c none = none
  | m, k, c, t, c', z, hm, h => by
    by_cases h1 : k < s.size ∧ bt s k ≠ 10
    · by_cases h2 : bt s k = q
      · rw [quo_quote h1.1 h1.2 h2] at h; cases h
      · cases h3 : itm s k q with
        | none => rw [quo_no h1 h2 h3] at h; cases h
        | some it =>
          rw [quo_on h1 h2 h3] at h
          have hn := itm_n h1.1 h3
          have hle := quo_le s q (s.size - (k + it.n)) (k + it.n) _ _ _ _ _ (Nat.le_refl _) h
          cases hb : it.b with
          | true =>
            rw [if_pos ⟨hb, rfl⟩] at h
            have := quo_keep _ _ _ _ _ _ (Nat.le_refl _) h
            cases this
            refine ⟨Nat.le_refl _, by omega, hle.2, quo_end ?_⟩
            rw [off_size (by omega)]
            omega
          | false =>
            rw [if_neg (by rw [hb]; simp)] at h
            match m, hm with
            | 0, hm => omega
            | m + 1, hm =>
              obtain ⟨i1, i2, i3, i4⟩ := quo_off m (k + it.n) (c + 1) t c' z (by omega) h
              have hz : z ≤ s.size := by omega
              refine ⟨by omega, i2, i3, ?_⟩
              have a0 : bt (s.extract 0 z) k = bt s k := by rw [off_bt hz, if_pos (by omega)]
              have hi : itm (s.extract 0 z) k q = some it := by
                refine itm_ag h1.1 h3 (off_ag hz i1) fun h92 => ?_
                have e := itm_else (q := q) h92
                rw [h3] at e
                cases e
                have hw : bt s k < 128 ∨ 1 < wd s k := by
                  by_cases h8 : bt s k < 128
                  · exact .inl h8
                  · by_cases hw : 1 < wd s k
                    · exact .inr hw
                    · exfalso
                      obtain ⟨f1, -, -, f4⟩ := dec_facts s k h1.1
                      have := f4 (by rw [← bt_in h1.1]; omega) (by omega)
                      simp only [decide_eq_false_iff_not] at hb
                      exact hb ⟨this, by omega⟩
                exact dec_wide h1.1 hw (off_ag hz i1)
              rw [quo_on ⟨by rw [off_size hz]; omega, by rw [a0]; exact h1.2⟩ (by rw [a0]; exact h2) hi, if_neg (by rw [hb]; simp)]
              exact i4
    · rw [quo_end h1] at h; cases h
/-- where a fault lies: at its piece's beginning, or at a bad byte within quotes -/
theorem pce_no_at {s : ByteArray} {p y z : Nat} (hp : p < s.size) (h : pce s p = .no y z) : z = p ∨ (y = 20 ∧ p < z ∧ z < s.size ∧ pce (s.extract 0 z) p = .no 22 p) := by
  unfold pce at h
  by_cases g1 : blk (bt s p) = true
  · rw [if_pos g1] at h; cases h
  rw [if_neg g1] at h
  by_cases g2 : bt s p = 47 ∧ bt s (p + 1) = 47
  · rw [if_pos g2] at h; cases h
  rw [if_neg g2] at h
  by_cases g3 : bt s p = 47 ∧ bt s (p + 1) = 42
  · rw [if_pos g3] at h
    cases hf : fn2 s 42 47 (p + 2) with
    | none => rw [hf] at h; cases h; exact .inl rfl
    | some x => rw [hf] at h; cases h
  rw [if_neg g3] at h
  by_cases g4 : isL (rn s p) = true
  · rw [if_pos g4] at h
    unfold nmP at h
    split at h
    · cases h; exact .inl rfl
    · cases h
  rw [if_neg g4] at h
  by_cases g5 : 48 ≤ bt s p ∧ bt s p ≤ 57
  · rw [if_pos g5] at h
    unfold ruP at h
    split at h
    · cases h
    · cases h; exact .inl rfl
  rw [if_neg g5] at h
  by_cases g6 : bt s p = 39 ∨ bt s p = 34 ∨ bt s p = 96
  · rw [if_pos g6] at h
    unfold quP at h
    by_cases h96 : bt s p = 96
    · rw [if_pos h96] at h
      split at h
      · cases h
      · cases h; exact .inl rfl
    · rw [if_neg h96] at h
      cases hq : quo s (bt s p) (p + 1) 0 none with
      | none => rw [hq] at h; cases h; exact .inl rfl
      | some x =>
        obtain ⟨t', c', bad'⟩ := x
        rw [hq] at h
        simp only at h
        split at h
        · cases h; exact .inl rfl
        · cases bad' with
          | none => cases h
          | some z' =>
            cases h
            obtain ⟨q1, q2, q3, q4⟩ := quo_off _ _ _ _ _ _ (Nat.le_refl _) hq
            have hz : z ≤ s.size := by omega
            refine .inr ⟨rfl, by omega, by omega, ?_⟩
            have a0 : bt (s.extract 0 z) p = bt s p := by rw [off_bt hz, if_pos (by omega)]
            have hp' : p < (s.extract 0 z).size := by rw [off_size hz]; omega
            unfold pce
            rw [a0, if_neg g1, if_neg (by omega), if_neg (by omega), if_neg (by rw [isL_ag hp hp' (by omega) a0]; exact g4), if_neg g5, if_pos g6]
            unfold quP
            rw [a0, if_neg h96, q4]
  rw [if_neg g6] at h
  unfold mkP at h
  split at h
  · cases h; exact .inl rfl
  · cases h
theorem pce_no_y {s : ByteArray} {p y z : Nat} (hp : p < s.size) (h : pce s p = .no y z) : 20 ≤ y ∧ y ≤ 24 := by
  unfold pce at h
  split at h
  · cases h
  split at h
  · cases h
  split at h
  · split at h <;> cases h
    omega
  split at h
  · unfold nmP at h
    split at h <;> cases h
    omega
  split at h
  · unfold ruP at h
    split at h <;> cases h
    omega
  split at h
  · unfold quP at h
    split at h
    · split at h <;> cases h
      omega
    · split at h
      · cases h; omega
      · split at h
        · cases h; omega
        · split at h
          · cases h; omega
          · cases h
  · unfold mkP at h
    split at h <;> cases h
    omega
/-- ahead of a fault nothing is wrong, but that quotes do not end -/
theorem cut_first (s : ByteArray) : ∀ m p y z, s.size - p ≤ m → (cut s p).2 = some (y, z) → p ≤ z ∧ z < s.size ∧ 20 ≤ y ∧ y ≤ 24 ∧ ((cut (s.extract 0 z) p).2 = none ∨ (y = 20 ∧ ∃ z', (cut (s.extract 0 z) p).2 = some (22, z') ∧ z' < z))
  | m, p, y, z, hm, h => by
    by_cases hp : p < s.size
    · cases hc : pce s p with
      | no y' z' =>
        rw [cut_no hp hc] at h
        cases h
        obtain ⟨y1, y2⟩ := pce_no_y hp hc
        rcases pce_no_at hp hc with rfl | ⟨rfl, h1, h2, h3⟩
        · exact ⟨Nat.le_refl _, hp, y1, y2, .inl (by rw [cut_end (by rw [off_size (by omega)]; omega)])⟩
        · exact ⟨by omega, h2, y1, y2, .inr ⟨rfl, p, by rw [cut_no (by rw [off_size (by omega)]; omega) h3], h1⟩⟩
      | ok k t =>
        rw [cut_ok hp hc] at h
        obtain ⟨t1, t2, -⟩ := pce_ok hp hc
        match m, hm with
        | 0, hm => omega
        | m + 1, hm =>
          obtain ⟨i1, i2, i3, i4, i5⟩ := cut_first s m t y z (by omega) h
          refine ⟨by omega, i2, i3, i4, ?_⟩
          rw [cut_ok (by rw [off_size (by omega)]; omega) (pce_off hp hc i1 (by omega))]
          exact i5
    · rw [cut_end hp] at h; cases h
end Go.Proofs.YtmnbakalcpanlaaGreatDoor
