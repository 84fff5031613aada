import Derived.Test.YtmnbakalcpanlaaGreatDoorLc2
import Derived.Test.YtmnbakalcpanlaaGreatDoorTm4
namespace Go.Proofs.YtmnbakalcpanlaaGreatDoor
set_option linter.unusedVariables false
set_option linter.unusedSimpArgs false

theorem mks_short : ∀ m ∈ mks, m.length ≤ 3 := by decide
theorem mks_asc : ∀ n, n < 48 → ∃ b r, mks.getD n [] = b :: r ∧ b.toNat < 128 := by
  have h : ∀ n, n < 48 → (match mks.getD n [] with | [] => false | b :: _ => decide (b.toNat < 128)) = true := by decide
  intro n hn
  have := h n hn
  cases e : mks.getD n [] with
  | nil => rw [e] at this; simp at this
  | cons b r => rw [e] at this; exact ⟨b, r, rfl, by simpa using this⟩

/-- where a piece begins that is no name, the first byte is one of ASCII -/
theorem pce_asc {s : ByteArray} {p k t : Nat} (hp : p < s.size) (h : pce s p = .ok k t) (hn : isL (rn s p) = false) : bt s p < 128 := by
  unfold pce at h
  by_cases g1 : blk (bt s p) = true
  · unfold blk at g1; simp at g1; omega
  rw [if_neg g1] at h
  by_cases g2 : bt s p = 47 ∧ bt s (p + 1) = 47
  · omega
  rw [if_neg g2] at h
  by_cases g3 : bt s p = 47 ∧ bt s (p + 1) = 42
  · omega
  rw [if_neg g3, hn, if_neg (by simp)] at h
  by_cases g4 : 48 ≤ bt s p ∧ bt s p ≤ 57
  · omega
  rw [if_neg g4] at h
  by_cases g5 : bt s p = 39 ∨ bt s p = 34 ∨ bt s p = 96
  · omega
  rw [if_neg g5] at h
  obtain ⟨n, hn, -, -, hb, -⟩ := mkP_ok hp h
  obtain ⟨b, r, e, hl⟩ := mks_asc n hn
  rw [e, bgn_fit _ _ _ (by omega)] at hb
  have : bt s p = b.toNat := by
    simpa [fit] using hb.1
  omega

/-- a piece hangs on its bytes and on two behind them, where another one begins behind it -/
theorem pce_near {s s' : ByteArray} {p k t : Nat} (hp : p < s.size) (h : pce s p = .ok k t) (ht : t < s.size) (hn : ∃ k' t', pce s t = .ok k' t') (ha : ∀ j, j < t + 2 → bt s' j = bt s j) : pce s' p = .ok k t := by
  obtain ⟨t1, t2, -⟩ := pce_ok hp h
  obtain ⟨s0, s1, s2, s3⟩ := pce_stop hp h
  have et : p + (t - p) = t := by omega
  have at' : bt s' t = bt s t := ha t (by omega)
  have key := pce_ag (s' := s') (p' := p) hp h (fun j hj => ha _ (by omega))
    (fun hk => by rw [et, at']; exact s0 hk)
    (fun hk hb => by
      rw [et, at']
      rcases s1 hk hb with h | h
      · exact .inl h
      · omega)
    (fun h1 h2 h3 h4 h5 => by
      rw [et] at h5 ⊢
      have hl := s2 h1 h2 h3 h4 ht
      obtain ⟨k', t', hc⟩ := hn
      have hz : isL (rn s t) = false := by unfold isLD at hl; simp at hl; exact hl.1
      have hb := pce_asc ht hc hz
      rw [asc_rn h5 (by rw [at']; exact hb), at', ← asc_rn ht hb]; exact hl)
    (fun hk => by
      obtain ⟨m1, m2⟩ := s3 hk
      refine ⟨fun m hm hb => m1 m hm ?_, fun e hb => ?_⟩
      · have hp' : p < s'.size := (show Ag s s' p p 1 from fun j hj => ha _ (by omega)).lt (j := 0) (by omega) hp
        rw [bgn_fit _ _ _ (by omega)] at hb ⊢
        have := mks_short m hm
        exact (fit_ag m p p (fun j hj => ha _ (by omega))).1 hb
      · rw [ha (p + 1) (by omega)]
        constructor
        · intro h; exact m2 ⟨hb, .inl h⟩
        · intro h; exact m2 ⟨hb, .inr h⟩)
  rw [et] at key
  exact key

/-- the pieces that an edit from a place on leaves as they are, and where they end -/
def unt (fr : Int) : List Tk → List Tk
  | [] => []
  | q :: r => if q.t + 2 > fr then [] else q :: unt fr r
def ute (fr : Int) : Int → List Tk → Int
  | a, [] => a
  | a, q :: r => if q.t + 2 > fr then a else ute fr q.t r

theorem cut_near {s s' : ByteArray} {fr : Nat} (hf : fr ≤ s.size) (ha : ∀ j, j < fr → bt s' j = bt s j) : ∀ m p, s.size - p ≤ m → p ≤ s.size → (cut s p).2 = none →
    ∃ a : Nat, ute fr p (cut s p).1 = a ∧ p ≤ a ∧ (p = a ∨ a + 2 ≤ fr) ∧ cut s' p = (unt fr (cut s p).1 ++ (cut s' a).1, (cut s' a).2) ∧ cut s p = (unt fr (cut s p).1 ++ (cut s a).1, (cut s a).2)
  | m, p, hm, hps, h => by
    by_cases hp : p < s.size
    · cases hc : pce s p with
      | no y z => rw [cut_no hp hc] at h; simp at h
      | ok k t =>
        obtain ⟨t1, t2, -⟩ := pce_ok hp hc
        have ec := cut_ok hp hc
        by_cases hq : (t : Int) + 2 > (fr : Int)
        · refine ⟨p, ?_, Nat.le_refl _, .inl rfl, ?_, ?_⟩
          · rw [ec]; simp only [ute]; rw [if_pos hq]
          · rw [ec]; simp only [unt]; rw [if_pos hq]; rfl
          · rw [ec]; simp only [unt]; rw [if_pos hq, List.nil_append, ← ec]
        · have ht : t + 2 ≤ fr := by omega
          have hts : t < s.size := by omega
          have h2 : (cut s t).2 = none := by rw [ec] at h; exact h
          have hn : ∃ k' t', pce s t = .ok k' t' := by
            cases hd : pce s t with
            | no y z => rw [cut_no hts hd] at h2; simp at h2
            | ok k' t' => exact ⟨k', t', rfl⟩
          have hk' := pce_near hp hc hts hn (fun j hj => ha j (by omega))
          have hp' : p < s'.size := (show Ag s s' p p 1 from fun j hj => ha _ (by omega)).lt (j := 0) (by omega) hp
          obtain ⟨a, a1, a2, a3, a4, a5⟩ := cut_near hf ha (m - 1) t (by omega) t2 h2
          have ec' := cut_ok hp' hk'
          refine ⟨a, ?_, by omega, by omega, ?_, ?_⟩
          · rw [ec]; simp only [ute]; rw [if_neg hq]; exact a1
          · rw [ec', ec, a4]; simp only [unt]; rw [if_neg hq]; rfl
          · rw [ec]; simp only [unt]; rw [if_neg hq, List.cons_append]; simp only [Prod.mk.injEq, List.cons.injEq, true_and]; exact ⟨congrArg Prod.fst a5, by have := congrArg Prod.snd a5; exact this⟩
    · refine ⟨p, ?_, Nat.le_refl _, .inl rfl, ?_, ?_⟩ <;> rw [cut_end hp] <;> simp [ute, unt]
  termination_by m p => s.size - p

/-- the pieces from a place on, up to one from which on all is known; and that place -/
def ctK (s : ByteArray) (K : Nat → Bool) (p : Nat) : List Tk × Nat × Option (Nat × Nat) :=
  if h : p < s.size then
    if K p then ([], p, none) else
    match pce s p with
    | .ok k t => if ht : p < t then (⟨k, p, t⟩ :: (ctK s K t).1, (ctK s K t).2) else ([], p, none)
    | .no y z => ([], 0, some (y, z))
  else ([], p, none)
termination_by s.size - p
theorem ctK_end {s : ByteArray} {K : Nat → Bool} {p : Nat} (h : ¬ p < s.size) : ctK s K p = ([], p, none) := by rw [ctK, dif_neg h]
theorem ctK_known {s : ByteArray} {K : Nat → Bool} {p : Nat} (h : p < s.size) (hk : K p = true) : ctK s K p = ([], p, none) := by rw [ctK, dif_pos h, if_pos hk]
theorem ctK_no {s : ByteArray} {K : Nat → Bool} {p y z : Nat} (h : p < s.size) (hk : K p = false) (e : pce s p = .no y z) : ctK s K p = ([], 0, some (y, z)) := by rw [ctK, dif_pos h, if_neg (by simp [hk]), e]
theorem ctK_ok {s : ByteArray} {K : Nat → Bool} {p k t : Nat} (h : p < s.size) (hk : K p = false) (e : pce s p = .ok k t) : ctK s K p = (⟨k, p, t⟩ :: (ctK s K t).1, (ctK s K t).2) := by
  rw [ctK, dif_pos h, if_neg (by simp [hk]), e]
  simp only
  rw [dif_pos (pce_ok h e).1]

/-- what is cut up to a known place, and all -/
theorem ctK_cut {s : ByteArray} {K : Nat → Bool} : ∀ m p, s.size - p ≤ m → p ≤ s.size →
    (∀ y z, (ctK s K p).2.2 = some (y, z) → (cut s p).2 = some (y, z)) ∧
    ((ctK s K p).2.2 = none → ∃ a, (ctK s K p).2.1 = a ∧ p ≤ a ∧ a ≤ s.size ∧ (a = s.size ∨ K a = true) ∧ cut s p = ((ctK s K p).1 ++ (cut s a).1, (cut s a).2))
  | m, p, hm, hps => by
    by_cases hp : p < s.size
    · cases hk : K p with
      | true =>
        rw [ctK_known hp hk]
        exact ⟨fun y z h => by simp at h, fun _ => ⟨p, rfl, Nat.le_refl _, hps, .inr hk, by simp⟩⟩
      | false =>
        cases hc : pce s p with
        | no y z =>
          rw [ctK_no hp hk hc, cut_no hp hc]
          exact ⟨fun y' z' h => h, fun h => by simp at h⟩
        | ok k t =>
          obtain ⟨t1, t2, -⟩ := pce_ok hp hc
          obtain ⟨i1, i2⟩ := ctK_cut (s := s) (K := K) (m - 1) t (by omega) t2
          rw [ctK_ok hp hk hc, cut_ok hp hc]
          refine ⟨i1, fun h => ?_⟩
          obtain ⟨a, a1, a2, a3, a4, a5⟩ := i2 h
          refine ⟨a, a1, by omega, a3, a4, ?_⟩
          have e1 := congrArg Prod.fst a5
          have e2 : (cut s t).2 = (cut s a).2 := by have := congrArg Prod.snd a5; exact this
          simp only at e1
          simp only [Prod.mk.injEq, List.cons_append, List.cons.injEq, true_and]
          exact ⟨e1, e2⟩
    · rw [ctK_end hp]
      exact ⟨fun y z h => by simp at h, fun _ => ⟨p, rfl, Nat.le_refl _, hps, .inl (by omega), by simp⟩⟩
  termination_by m p => s.size - p
end Go.Proofs.YtmnbakalcpanlaaGreatDoor

namespace Go.Proofs.YtmnbakalcpanlaaGreatDoor
open Go.ChangeShapes Go.WideShapes Go.ChangeAt Go.RowKit Go.Maps Go.WideMaps
set_option linter.unusedVariables false
set_option linter.unusedSimpArgs false

set_option maxRecDepth 1000000 in
set_option maxHeartbeats 8000000 in
theorem longest_any (B : Nat) (T : List Tn) (A : Nat → Nat) (V : Nat → Value) (s : ByteArray) (p : Nat) (hs : s.size ≤ 4294967280) (hp : p ≤ s.size) (h0 : 0 < T.length) (hl : T.length ≤ 1000) (w : World) (h : Tre w B T A V) :
    Calls Tryz.prog 60 #[.pointer (some ⟨A 0, 0, none⟩), .string s, .int .i64 (p : Int)] w fun e w' => e = .returned (.tuple #[.int .u8 ((lng T s 0 p (0, 0)).1 : Nat), .int .i64 ((lng T s 0 p (0, 0)).2 : Nat)]) ∧ w' = w := by
  have HT : Hid (Tre w B T A V) := h
  obtain ⟨R, hR⟩ : ∃ R, lng T s 0 p (0, 0) = R := ⟨_, rfl⟩
  have HR : Hid (lng T s 0 p (0, 0) = R) := hR
  rw [hR]
  clear h hR
  go_enter Tryz.func60, Tryz.ntmps60
  go_wp2
  go_loopw [2, 6, 7, 8] (fun sa sk st sp wr => ∃ (i q k t P : Nat), i < T.length ∧ q ≤ s.size ∧ k < 256 ∧ t ≤ q ∧ sa = .int .i64 (q : Int) ∧ sk = .int .u8 (k : Int) ∧ st = .int .i64 (t : Int) ∧ sp = .pointer (some ⟨P, 0, none⟩) ∧ P = A i ∧ lng T s i q (k, t) = R ∧ wr = w) (fun sa _ _ _ _ => s.size - (intOf sa).toNat)
  case atStart => exact ⟨0, p, 0, 0, A 0, h0, hp, by omega, Nat.zero_le _, rfl, rfl, rfl, rfl, rfl, HR.out, by first | rfl | trivial⟩
  case round =>
    obtain ⟨i, q, k, t, P, hi, hq, hk, ht, rfl, rfl, rfl, rfl, hP, hr, rfl⟩ := hrel
    have HL : Hid (lng T s i q (k, t) = R) := hr
    have HP : Hid (P = A i) := hP
    clear hr hP
    by_cases hlt : q < s.size
    · have hlt' : (q : Int) < (s.size : Int) := by omega
      obtain ⟨c, hc⟩ : ∃ c, (s[q]'hlt).toNat = c := ⟨_, rfl⟩
      have hc256 : c < 256 := by rw [← hc]; exact (s[q]'hlt).toNat_lt
      have hbt : bt s q = c := by rw [bt_in hlt, hc]
      obtain ⟨ti, hti⟩ : ∃ ti, T[i]? = some ti := ⟨_, List.getElem?_eq_getElem hi⟩
      have HON : Hid (Calls Tryz.prog 59 #[.pointer (some ⟨P, 0, none⟩), .int .u8 (c : Int)] wr fun e w' => e = .returned (ptrO A (onT T i c)) ∧ w' = wr) := by
        have := on_any B T A V i c ti hti hc256 hl wr HT.out
        unfold Hid
        rw [HP.out]
        exact this
      cases hO : onT T i c with
      | none =>
        rw [hO] at HON
        have HON' : Hid (Calls Tryz.prog 59 #[.pointer (some ⟨P, 0, none⟩), .int .u8 (c : Int)] wr fun e w' => e = .returned (.pointer none) ∧ w' = wr) := HON
        have hRR : R = (k, t) := by rw [← HL.out, lng_none hlt (by rw [hbt]; exact hO)]
        subst hRR
        clear HON hO HL
        go_wp2_with (go_at_call 59; (with_reducible refine HON'.out.mono ?_); rintro e w3 ⟨rfl, hw3⟩; subst hw3)
        go_ret2
        exact ⟨rfl, rfl⟩
      | some j =>
        rw [hO] at HON
        have HON' : Hid (Calls Tryz.prog 59 #[.pointer (some ⟨P, 0, none⟩), .int .u8 (c : Int)] wr fun e w' => e = .returned (.pointer (some ⟨A j, 0, none⟩)) ∧ w' = wr) := HON
        have hj : j < T.length := by
          have := (on_mem hO).1
          rw [getD_of hti] at this
          exact HT.out.kid i ti hti j this
        obtain ⟨tj, htj⟩ : ∃ tj, T[j]? = some tj := ⟨_, List.getElem?_eq_getElem hj⟩
        have hX := (HT.out.box j tj htj).2
        have hXl := hX.lt
        have y1 := hX.cell 1
        simp at y1
        have hkj := (HT.out.lim j tj htj).2.1
        have HST : Hid (lng T s j (q + 1) (if tj.k ≠ 0 then (tj.k, q + 1) else (k, t)) = R) := by
          unfold Hid
          rw [← HL.out, lng_some hlt (by rw [hbt]; exact hO), getD_of htj]
        obtain ⟨P', hP'⟩ : ∃ P', A j = P' := ⟨_, rfl⟩
        rw [hP'] at HON' y1 hXl
        have HP' : Hid (P' = A j) := hP'.symm
        clear HON hO HL hX hP'
        by_cases hk0 : tj.k = 0
        · have hz : ((tj.k : Int) != 0) = false := by simp; omega
          rw [if_neg (by simp [hk0])] at HST
          go_wp2_with (go_at_call 59; (with_reducible refine HON'.out.mono ?_); rintro e w3 ⟨rfl, hw3⟩; subst hw3)
          go_roundw
          case rel => exact ⟨j, q + 1, k, t, P', hj, by omega, hk, by omega, by go_num, rfl, rfl, rfl, HP'.out, HST.out, by first | rfl | trivial⟩
          case measure => simp [intOf]; omega
        · have hz : ((tj.k : Int) != 0) = true := by simp; omega
          rw [if_pos hk0] at HST
          go_wp2_with (go_at_call 59; (with_reducible refine HON'.out.mono ?_); rintro e w3 ⟨rfl, hw3⟩; subst hw3)
          go_roundw
          case rel => exact ⟨j, q + 1, tj.k, q + 1, P', hj, by omega, hkj, by omega, by go_num, rfl, by go_num, rfl, HP'.out, HST.out, by first | rfl | trivial⟩
          case measure => simp [intOf]; omega
    · have hge : ¬ (q : Int) < (s.size : Int) := by omega
      have hRR : R = (k, t) := by rw [← HL.out, lng_out hlt]
      subst hRR
      go_wp2
      go_ret2
      exact ⟨rfl, rfl⟩
end Go.Proofs.YtmnbakalcpanlaaGreatDoor
