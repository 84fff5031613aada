import Derived.Test.YtmnbakalcpanlaaGreatDoorLc0
namespace Go.Proofs.YtmnbakalcpanlaaGreatDoor
open Go.ChangeShapes Go.WideShapes Go.ChangeAt Go.RowKit
set_option linter.unusedVariables false
set_option linter.unusedSimpArgs false

theorem dgs_ag {s s' : ByteArray} {b : Nat} : ∀ (n p p' acc : Nat), Ag s s' p p' n → dgs s' b n p' acc = dgs s b n p acc
  | 0, p, p', acc, h => rfl
  | n + 1, p, p', acc, h => by
    have a0 : bt s' p' = bt s p := h 0 (by omega)
    rw [dgs, dgs, a0]
    split
    · exact dgs_ag n (p + 1) (p' + 1) _ (h.drop 1)
    · rfl
theorem cod_ag {s s' : ByteArray} {p p' f n b : Nat} (hn : 0 < n) (hs : p + n ≤ s.size) (h : Ag s s' p p' n) : cod s' p' f n b = cod s p f n b := by
  have hs' := h.le hn hs
  unfold cod
  rw [if_neg (by omega), if_neg (by omega), dgs_ag n p p' 0 h]
/-- an item hangs on its own bytes -/
theorem itm_ag {s s' : ByteArray} {k k' q : Nat} {it : Itm} (hk : k < s.size) (h : itm s k q = some it) (ha : Ag s s' k k' it.n) (hd : bt s k ≠ 92 → rn s' k' = rn s k ∧ wd s' k' = wd s k) : itm s' k' q = some it := by
  obtain ⟨n1, n2, -⟩ := itm_n hk h
  have a0 : bt s' k' = bt s k := ha 0 n1
  by_cases h92 : bt s k = 92
  · have h' := h
    rw [itm_back h92] at h'
    rw [itm_back (by rw [a0]; exact h92)]
    unfold esA at h' ⊢
    split at h'
    · cases h'
    · rename_i h0
      cases he : esc (bt s (k + 1)) q with
      | some v =>
        rw [he] at h'
        cases h'
        have a1 : bt s' (k' + 1) = bt s (k + 1) := ha 1 (by simp)
        have l1 : k' + 1 < s'.size := ha.lt (by simp) (by omega)
        rw [if_neg (by omega), a1, he]
      | none =>
        rw [he] at h'
        simp only at h'
        have hn2 : 2 ≤ it.n := by
          repeat' split at h'
          all_goals first | (cases h'; done) | (have := cod_n h'; omega)
        have a1 : bt s' (k' + 1) = bt s (k + 1) := ha 1 (by omega)
        have l1 : k' + 1 < s'.size := ha.lt (by omega) (by omega)
        rw [if_neg (by omega), a1, he]
        simp only
        split at h'
        · rename_i g
          have c := cod_n h'
          rw [if_pos g, ← h']
          exact cod_ag (by omega) c.2.1 ((ha.drop 2).mono (by omega))
        rename_i g1
        rw [if_neg g1]
        split at h'
        · rename_i g
          have c := cod_n h'
          rw [if_pos g, ← h']
          exact cod_ag (by omega) c.2.1 ((ha.drop 2).mono (by omega))
        rename_i g2
        rw [if_neg g2]
        split at h'
        · rename_i g
          have c := cod_n h'
          rw [if_pos g, ← h']
          exact cod_ag (by omega) c.2.1 ((ha.drop 2).mono (by omega))
        rename_i g3
        rw [if_neg g3]
        split at h'
        · rename_i g
          have c := cod_n h'
          rw [if_pos g, ← h']
          exact cod_ag (by omega) c.2.1 ((ha.drop 1).mono (by omega))
        · cases h'
  · rw [itm_else h92] at h
    obtain ⟨d1, d2⟩ := hd h92
    rw [itm_else (by rw [a0]; exact h92), d1, d2]
    exact h
theorem quo_on {s : ByteArray} {q k c : Nat} {bad : Option Nat} {it : Itm} (h : k < s.size ∧ bt s k ≠ 10) (hq : bt s k ≠ q) (hi : itm s k q = some it) : quo s q k c bad = quo s q (k + it.n) (c + 1) (if it.b = true ∧ bad = none then some k else bad) := by
  have := (itm_n h.1 hi).1
  rw [quo, dif_pos h, if_neg hq, hi]
  simp only
  rw [dif_pos this]
theorem quo_no {s : ByteArray} {q k c : Nat} {bad : Option Nat} (h : k < s.size ∧ bt s k ≠ 10) (hq : bt s k ≠ q) (hi : itm s k q = none) : quo s q k c bad = none := by
  rw [quo, dif_pos h, if_neg hq, hi]
/-- what stands within quotes hangs on the bytes up to the closing one -/
theorem quo_ag {s s' : ByteArray} {q p p' : Nat} (hq : q < 128) : ∀ (m i c : Nat) (o : Option Nat) (t c' : Nat) (b : Option Nat), s.size - (p + i) ≤ m → quo s q (p + i) c (o.map (p + ·)) = some (t, c', b) → Ag s s' p p' (t + 1 - p) →
    ∃ (i' : Nat) (o' : Option Nat), t = p + i' ∧ i ≤ i' ∧ b = o'.map (p + ·) ∧ quo s' q (p' + i) c (o.map (p' + ·)) = some (p' + i', c', o'.map (p' + ·))
  | m, i, c, o, t, c', b, hm, h, ha => by
    have hle := quo_le s q (s.size - (p + i)) (p + i) _ _ _ _ _ (Nat.le_refl _) h
    by_cases hk : p + i < s.size ∧ bt s (p + i) ≠ 10
    · have a0 : bt s' (p' + i) = bt s (p + i) := ha i (by omega)
      have hk' : p' + i < s'.size ∧ bt s' (p' + i) ≠ 10 := ⟨ha.lt (by omega) hk.1, by rw [a0]; exact hk.2⟩
      by_cases hc : bt s (p + i) = q
      · rw [quo_quote hk.1 hk.2 hc] at h
        cases h
        exact ⟨i, o, rfl, Nat.le_refl _, rfl, quo_quote hk'.1 hk'.2 (by rw [a0]; exact hc)⟩
      · cases hi : itm s (p + i) q with
        | none => rw [quo_no hk hc hi] at h; cases h
        | some it =>
          obtain ⟨n1, n2, -⟩ := itm_n hk.1 hi
          rw [quo_on hk hc hi] at h
          have hle2 := quo_le s q (s.size - (p + i + it.n)) (p + i + it.n) _ _ _ _ _ (Nat.le_refl _) h
          have htq : bt s t = q := by
            have key : ∀ m k c bad t c' b, s.size - k ≤ m → quo s q k c bad = some (t, c', b) → bt s t = q := by
              intro m
              induction m with
              | zero => intro k c bad t c' b hk h; rw [quo_end (by omega)] at h; cases h
              | succ m ih =>
                intro k c bad t c' b hk h
                by_cases h1 : k < s.size ∧ bt s k ≠ 10
                · by_cases h2 : bt s k = q
                  · rw [quo_quote h1.1 h1.2 h2] at h; cases h; exact h2
                  · cases h3 : itm s k q with
                    | none => rw [quo_no h1 h2 h3] at h; cases h
                    | some it' => rw [quo_on h1 h2 h3] at h; have := (itm_n h1.1 h3).1; exact ih _ _ _ _ _ _ (by omega) h
                · rw [quo_end h1] at h; cases h
            exact key _ _ _ _ _ _ _ (Nat.le_refl _) h
          have hi' : itm s' (p' + i) q = some it := by
            refine itm_ag hk.1 hi ((ha.drop i).mono (by omega)) fun _ => ?_
            refine dec_stop (n := t - (p + i)) hk.1 (by omega) ((ha.drop i).mono (by omega)) (.inl ?_)
            rw [show p + i + (t - (p + i)) = t by omega, htq]
            omega
          rw [quo_on hk' (by rw [a0]; exact hc) hi']
          have eo : ∀ r : Nat, (if it.b = true ∧ o.map (r + ·) = none then some (r + i) else o.map (r + ·)) = (if it.b = true ∧ o = none then some i else o).map (r + ·) := by
            intro r
            cases o with
            | none => simp
            | some x => simp
          rw [eo p, Nat.add_assoc] at h
          rw [eo p', Nat.add_assoc]
          match m, hm with
          | 0, hm => omega
          | m + 1, hm =>
            obtain ⟨i', o', r1, r2, r3, r4⟩ := quo_ag hq m (i + it.n) (c + 1) _ t c' b (by omega) h ha
            exact ⟨i', o', r1, by omega, r3, r4⟩
    · rw [quo_end hk] at h; cases h
/-- the quotes' ends, from the opening one on -/
theorem quo_ag0 {s s' : ByteArray} {q p p' t c : Nat} {b : Option Nat} (hq : q < 128) (h : quo s q (p + 1) 0 none = some (t, c, b)) (ha : Ag s s' p p' (t + 1 - p)) : p < t ∧ ∃ o : Option Nat, b = o.map (p + ·) ∧ quo s' q (p' + 1) 0 none = some (p' + (t - p), c, o.map (p' + ·)) := by
  obtain ⟨i', o', r1, r2, r3, r4⟩ := quo_ag (p := p) (p' := p') hq (s.size - (p + 1)) 1 0 none t c b (Nat.le_refl _) h ha
  refine ⟨by omega, o', r3, ?_⟩
  rw [show p' + (t - p) = p' + i' by omega]
  exact r4
-- marks
theorem fit_ag {s s' : ByteArray} : ∀ (m : List UInt8) (p p' : Nat), Ag s s' p p' m.length → (fit s' p' m ↔ fit s p m)
  | [], p, p', h => Iff.rfl
  | c :: r, p, p', h => by
    have a0 : bt s' p' = bt s p := h 0 (by simp)
    rw [fit, fit, a0, fit_ag r (p + 1) (p' + 1) ((h.drop 1).mono (by simp))]
theorem fit_one {s : ByteArray} : ∀ (a b : List UInt8) (q : Nat), a.length = b.length → fit s q a → fit s q b → a = b
  | [], b, q, hl, _, _ => (List.eq_nil_of_length_eq_zero hl.symm).symm
  | c :: r, d :: t, q, hl, ha, hb => by
    have e1 : c = d := UInt8.toNat_inj.1 (ha.1.symm.trans hb.1)
    rw [e1, fit_one r t (q + 1) (by simpa using hl) ha.2 hb.2]
theorem bgn_le {s : ByteArray} {p : Nat} {m : List UInt8} (h : bgn s p m = true) : p + m.length ≤ s.size := by
  unfold bgn at h
  rw [Bool.and_eq_true, decide_eq_true_eq] at h
  exact h.1
/-- a mark that is cut: which it is, and that none that fits is longer -/
theorem mkP_ok {s : ByteArray} {p k t : Nat} (hp : p < s.size) (h : mkP s p = .ok k t) : ∃ n, n < 48 ∧ k = 32 + n ∧ t = p + (mks.getD n []).length ∧ bgn s p (mks.getD n []) = true ∧ ∀ m ∈ mks, bgn s p m = true → m.length ≤ t - p := by
  unfold mkP at h
  rcases mkF_spec s p mks 0 (0, p) with ⟨e, -⟩ | ⟨n, n1, n2, n3, n4, n5⟩
  · rw [e, if_pos rfl] at h; cases h
  · rw [n3] at h
    simp only at h
    split at h
    · cases h
    · cases h
      refine ⟨n, by have := tt_len.2; omega, by omega, rfl, n2, fun m hm hb => ?_⟩
      have := n5 m hm hb
      omega
theorem mkP_ag {s s' : ByteArray} {p p' k t : Nat} (hp : p < s.size) (h : mkP s p = .ok k t) (ha : Ag s s' p p' (t - p)) (hl : ∀ m ∈ mks, bgn s' p' m = true → m.length ≤ t - p) : mkP s' p' = .ok k (p' + (t - p)) := by
  obtain ⟨n, n1, n2, n3, n4, n5⟩ := mkP_ok hp h
  have hpos : 0 < (mks.getD n []).length := List.length_pos_iff.2 (mks_pos n n1)
  have hp' : p' < s'.size := ha.lt (j := 0) (by omega) hp
  have b' : bgn s' p' (mks.getD n []) = true := by
    rw [bgn_fit s' _ p' (by omega), fit_ag _ p p' (ha.mono (by omega)), ← bgn_fit s _ p (by omega)]
    exact n4
  unfold mkP
  rcases mkF_spec s' p' mks 0 (0, p') with ⟨e, hall⟩ | ⟨j, j1, j2, j3, j4, j5⟩
  · have := hall _ (mks_in n1) b'
    simp only at this
    omega
  · have hj : j < 48 := by have := tt_len.2; omega
    have l1 := j5 _ (mks_in n1) b'
    have l2 := hl _ (mks_in hj) j2
    have hm := fit_one (s := s') (mks.getD j []) (mks.getD n []) p' (by omega) ((bgn_fit s' _ p' (by omega)).1 j2) ((bgn_fit s' _ p' (by omega)).1 b')
    obtain rfl := mks_one j hj n n1 hm
    rw [j3]
    simp only
    rw [if_neg (by omega)]
    congr 1
    · omega
    · omega
/-- a mark's first byte -/
def hd00 (m : List UInt8) : Nat := match m with | c :: _ => c.toNat | [] => 0
theorem kwd_2 (l : List UInt8) : kwd l = 2 ∨ 7 ≤ kwd l := by
  unfold kwd
  split
  · right; omega
  · left; rfl
theorem asc_rn {s : ByteArray} {p : Nat} (hp : p < s.size) (h : bt s p < 128) : rn s p = bt s p := by
  rw [((dec_facts s p hp).2.2.1 (by rw [← bt_in hp]; exact h)).2, bt_in hp]
/-- what is no letter at an ASCII byte is none in the other text -/
theorem isL_ag {s s' : ByteArray} {p p' : Nat} (hp : p < s.size) (hp' : p' < s'.size) (h : bt s p < 128) (a0 : bt s' p' = bt s p) : rn s' p' = rn s p := by
  rw [asc_rn hp h, asc_rn hp' (by rw [a0]; exact h), a0]

/-- a piece hangs on its bytes and on what goes on behind them -/
theorem pce_ag {s s' : ByteArray} {p p' k t : Nat} (hp : p < s.size) (h : pce s p = .ok k t) (ha : Ag s s' p p' (t - p))
    (h0 : k = 0 → blk (bt s' (p' + (t - p))) = false)
    (h1 : k = 1 → bt s (p + 1) = 47 → bt s' (p' + (t - p)) = 10 ∨ s'.size ≤ p' + (t - p))
    (h2 : k < 32 → 2 ≤ k → k ≠ 4 → k ≠ 5 → p' + (t - p) < s'.size → isLD (rn s' (p' + (t - p))) = false)
    (h3 : 32 ≤ k → (∀ m ∈ mks, bgn s' p' m = true → m.length ≤ t - p) ∧ (t = p + 1 → bt s p = 47 → bt s' (p' + 1) ≠ 47 ∧ bt s' (p' + 1) ≠ 42)) :
    pce s' p' = .ok k (p' + (t - p)) := by
  obtain ⟨ht1, ht2, -⟩ := pce_ok hp h
  have a0 : bt s' p' = bt s p := ha 0 (by omega)
  have hp' : p' < s'.size := ha.lt (j := 0) (by omega) hp
  have ht : t = p + (t - p) := by omega
  unfold pce at h ⊢
  rw [a0]
  by_cases g1 : blk (bt s p) = true
  · rw [if_pos g1] at h ⊢
    cases h
    rw [blE_ag (blE s p - p) p p' (by omega) ha (h0 rfl)]
  rw [if_neg g1] at h ⊢
  by_cases g2 : bt s p = 47 ∧ bt s (p + 1) = 47
  · rw [if_pos g2] at h
    cases h
    have l2 : p + 1 < fnd s 10 p := by
      have := fnd_le s 10 (s.size - (p + 1 + 1)) (p + 1 + 1) (Nat.le_refl _) (by have := bt_256.1 (show bt s (p + 1) < 256 by omega); omega)
      rw [fnd_in hp (by omega), fnd_in (bt_256.1 (by omega)) (by omega)]
      omega
    have a1 : bt s' (p' + 1) = bt s (p + 1) := ha 1 (by omega)
    rw [if_pos (by rw [a1]; exact g2), fnd_ag (fnd s 10 p - p) p p' (by omega) ha (h1 rfl g2.2)]
  rw [if_neg g2] at h
  by_cases g3 : bt s p = 47 ∧ bt s (p + 1) = 42
  · rw [if_pos g3] at h
    cases hf : fn2 s 42 47 (p + 2) with
    | none => rw [hf] at h; cases h
    | some x =>
      rw [hf] at h
      cases h
      have hx := fn2_le s 42 47 (by omega) (s.size - (p + 2)) (p + 2) x (Nat.le_refl _) hf
      have a1 : bt s' (p' + 1) = bt s (p + 1) := ha 1 (by omega)
      rw [if_neg (by rw [a1]; exact g2), if_pos (by rw [a1]; exact g3)]
      rw [fn2_ag (x - (p + 2)) (p + 2) (p' + 2) (by rw [hf]; congr 1; omega) ((ha.drop 2).mono (by omega))]
      show Pce.ok 1 _ = _
      congr 1
      omega
  rw [if_neg g3] at h
  have hk47 : ¬ (32 ≤ k) → bt s p = 47 → False := fun hk hb => by
    have r47 : rn s p = 47 := by rw [asc_rn hp (by omega)]; exact hb
    rw [if_neg (by rw [r47]; decide), if_neg (by omega), if_neg (by omega)] at h
    obtain ⟨n, n1, n2, -⟩ := mkP_ok hp h
    omega
  have q2 : ¬ (bt s p = 47 ∧ bt s' (p' + 1) = 47) ∧ ¬ (bt s p = 47 ∧ bt s' (p' + 1) = 42) := by
    by_cases hb : bt s p = 47
    · have hk : 32 ≤ k := Classical.byContradiction fun hk => hk47 hk hb
      by_cases hl : t = p + 1
      · have := (h3 hk).2 hl hb
        exact ⟨fun e => this.1 e.2, fun e => this.2 e.2⟩
      · have a1 : bt s' (p' + 1) = bt s (p + 1) := ha 1 (by omega)
        rw [a1]; exact ⟨g2, g3⟩
    · exact ⟨fun e => hb e.1, fun e => hb e.1⟩
  rw [if_neg q2.1, if_neg q2.2]
  clear hk47 q2
  by_cases g4 : isL (rn s p) = true
  · rw [if_pos g4] at h
    have hld : isLD (rn s p) = true := by unfold isLD; rw [g4]; rfl
    have hrun : p + wd s p ≤ rnE s p ∧ rnE s p ≤ s.size := by
      obtain ⟨f1, f2, -, -⟩ := dec_facts s p hp
      have := rnE_le s (s.size - (p + wd s p)) (p + wd s p) (Nat.le_refl _) f2
      rw [rnE_in hp hld]
      exact this
    unfold nmP at h
    split at h
    · cases h
    · rename_i h200
      cases h
      have hk2 := kwd_2 (s.extract p (rnE s p)).data.toList
      have hk3 := kwd_lt (s.extract p (rnE s p)).data.toList
      have e1 : rnE s' p' = p' + (rnE s p - p) := rnE_ag _ _ p p' (Nat.le_refl _) (by omega) ha (h2 (by omega) (by omega) (by omega) (by omega))
      obtain ⟨d1, -⟩ := dec_wide hp (ld_wide hp hld) (ha.mono (by omega))
      rw [if_pos (by rw [d1]; exact g4)]
      unfold nmP
      have e2 := ext_ag ha (by omega)
      rw [show p + (rnE s p - p) = rnE s p by omega] at e2
      rw [e1, e2, if_neg (by omega)]
  rw [if_neg g4] at h
  have hasc : bt s p < 128 := by
    apply Classical.byContradiction
    intro h8
    rw [if_neg (by omega), if_neg (by omega)] at h
    obtain ⟨n, n1, n2, n3, n4, -⟩ := mkP_ok hp h
    have hf := (bgn_fit s _ p (by omega)).1 n4
    have key : ∀ n, n < 48 → hd00 (mks.getD n []) < 128 := by decide
    have := key n n1
    cases hm : mks.getD n [] with
    | nil => exact mks_pos n n1 hm
    | cons c r =>
      rw [hm] at hf this
      have := hf.1
      simp only [hd00] at *
      omega
  rw [if_neg (by rw [isL_ag hp hp' hasc a0]; exact g4)]
  by_cases g5 : 48 ≤ bt s p ∧ bt s p ≤ 57
  · rw [if_pos g5] at h ⊢
    have hld : isLD (rn s p) = true := by
      rw [asc_rn hp hasc]
      have : ∀ n, n < 58 → 48 ≤ n → isLD n = true := by decide
      exact this _ (by omega) g5.1
    have hrun : p < rnE s p ∧ rnE s p ≤ s.size := by
      obtain ⟨f1, f2, -, -⟩ := dec_facts s p hp
      have := rnE_le s (s.size - (p + wd s p)) (p + wd s p) (Nat.le_refl _) f2
      rw [rnE_in hp hld]
      omega
    unfold ruP at h ⊢
    split at h
    · rename_i hn
      cases h
      have e1 : rnE s' p' = p' + (rnE s p - p) := rnE_ag _ _ p p' (Nat.le_refl _) (by omega) ha (h2 (by omega) (by omega) (by omega) (by omega))
      have e2 := ext_ag ha (by omega)
      rw [show p + (rnE s p - p) = rnE s p by omega] at e2
      rw [e1, e2, if_pos hn]
    · cases h
  rw [if_neg g5] at h ⊢
  by_cases g6 : bt s p = 39 ∨ bt s p = 34 ∨ bt s p = 96
  · rw [if_pos g6] at h ⊢
    unfold quP at h ⊢
    rw [a0]
    by_cases h96 : bt s p = 96
    · rw [if_pos h96] at h ⊢
      split at h
      · rename_i hf
        cases h
        have hl := fnd_le s 96 (s.size - (p + 1)) (p + 1) (Nat.le_refl _) (by omega)
        have hstop : bt s (fnd s 96 (p + 1)) = 96 := by
          have key : ∀ m k, s.size - k ≤ m → fnd s 96 k < s.size → bt s (fnd s 96 k) = 96 := by
            intro m
            induction m with
            | zero => intro k hk h; rw [fnd_out (by omega)] at h; omega
            | succ m ih =>
              intro k hk h
              by_cases hc : k < s.size ∧ bt s k ≠ 96
              · rw [fnd_in hc.1 hc.2] at h ⊢; exact ih _ (by omega) h
              · rw [fnd_out hc] at h ⊢
                exact Classical.byContradiction fun e => hc ⟨h, e⟩
          exact key _ _ (Nat.le_refl _) hf
        have e1 : fnd s' 96 (p' + 1) = p' + 1 + (fnd s 96 (p + 1) - (p + 1)) := by
          refine fnd_ag _ (p + 1) (p' + 1) (by omega) ((ha.drop 1).mono (by omega)) (.inl ?_)
          have := ha (fnd s 96 (p + 1) - p) (by omega)
          rw [show p' + 1 + (fnd s 96 (p + 1) - (p + 1)) = p' + (fnd s 96 (p + 1) - p) by omega, this, show p + (fnd s 96 (p + 1) - p) = fnd s 96 (p + 1) by omega]
          exact hstop
        have l1 := ha.lt (j := fnd s 96 (p + 1) - p) (by omega) (by omega)
        rw [e1, if_pos (by omega)]
        congr 1
        omega
      · cases h
    · rw [if_neg h96] at h ⊢
      cases hq : quo s (bt s p) (p + 1) 0 none with
      | none => rw [hq] at h; cases h
      | some x =>
        obtain ⟨t', c', bad'⟩ := x
        rw [hq] at h
        simp only at h
        have hle := quo_le s (bt s p) (s.size - (p + 1)) (p + 1) 0 none t' c' bad' (Nat.le_refl _) hq
        split at h
        · cases h
        · rename_i h39
          cases bad' with
          | some z => cases h
          | none =>
            simp only at h
            cases h
            obtain ⟨-, o, ho, hq'⟩ := quo_ag0 (p' := p') (by omega) hq (ha.mono (by omega))
            have ho' : o = none := by cases o with | none => rfl | some x => cases ho
            subst ho'
            rw [hq']
            simp only [Option.map_none]
            rw [if_neg h39]
            congr 1
            omega
  rw [if_neg g6] at h ⊢
  have hk := mkP_ok hp h
  obtain ⟨n, n1, n2, -⟩ := hk
  exact mkP_ag hp h ha (h3 (by omega)).1
end Go.Proofs.YtmnbakalcpanlaaGreatDoor
