import Derived.Test.YtmnbakalcpanlaaGreatDoorTm6
namespace Go.Proofs.YtmnbakalcpanlaaGreatDoor
open Go.ChangeShapes Go.WideShapes Go.ChangeAt Go.RowKit
set_option linter.unusedVariables false
set_option linter.unusedSimpArgs false

theorem dN_one' (b0 b1 b2 b3 c1 c2 c3 : Nat) (h : b1 / 64 ≠ 2) (h' : c1 / 64 ≠ 2) : Lib.decodeN 4 b0 b1 b2 b3 = Lib.decodeN 4 b0 c1 c2 c3 := by
  unfold Lib.decodeN
  simp [h, h']
theorem dN_two' (b0 b1 b2 b3 c2 c3 : Nat) (h : b2 / 64 ≠ 2) (h' : c2 / 64 ≠ 2) : Lib.decodeN 4 b0 b1 b2 b3 = Lib.decodeN 4 b0 b1 c2 c3 := by
  unfold Lib.decodeN
  simp [h, h']
theorem dN_three' (b0 b1 b2 b3 c3 : Nat) (h : b3 / 64 ≠ 2) (h' : c3 / 64 ≠ 2) : Lib.decodeN 4 b0 b1 b2 b3 = Lib.decodeN 4 b0 b1 b2 c3 := by
  unfold Lib.decodeN
  simp [h, h']
/-- a rune hangs on the bytes up to the first that goes on with none, whatever that is -/
theorem dec_stop2 {s s' : ByteArray} {k k' n : Nat} (h : k < s.size) (hn : 1 ≤ n) (ha : Ag s s' k k' n) (hs : bt s (k + n) / 64 ≠ 2) (hs' : bt s' (k' + n) / 64 ≠ 2) : rn s' k' = rn s k ∧ wd s' k' = wd s k := by
  have h' : k' < s'.size := ha.lt (j := 0) (by omega) h
  have e := dec_bt s k h
  have e' := dec_bt s' k' h'
  have a0 : bt s' k' = bt s k := ha 0 (by omega)
  have key : (rn s' k', wd s' k') = (rn s k, wd s k) := by
    rw [e, e', a0]
    by_cases n1 : n = 1
    · subst n1; exact dN_one' _ _ _ _ _ _ _ hs' hs
    have a1 : bt s' (k' + 1) = bt s (k + 1) := ha 1 (by omega)
    rw [a1]
    by_cases n2 : n = 2
    · subst n2; exact dN_two' _ _ _ _ _ _ hs' hs
    have a2 : bt s' (k' + 2) = bt s (k + 2) := ha 2 (by omega)
    rw [a2]
    by_cases n3 : n = 3
    · subst n3; exact dN_three' _ _ _ _ _ hs' hs
    have a3 : bt s' (k' + 3) = bt s (k + 3) := ha 3 (by omega)
    rw [a3]
  exact ⟨congrArg Prod.fst key, congrArg Prod.snd key⟩
theorem fit_byte {s : ByteArray} : ∀ (m : List UInt8) (p i : Nat) (hi : i < m.length), fit s p m → bt s (p + i) = (m[i]'hi).toNat
  | c :: r, p, 0, hi, h => h.1
  | c :: r, p, i + 1, hi, h => by
    have := fit_byte r (p + 1) i (by simpa using hi) h.2
    rw [show p + (i + 1) = p + 1 + i by omega, this]
    rfl
theorem mks_no : ∀ m ∈ mks, ∀ c ∈ m, c.toNat ≠ 10 ∧ c.toNat < 128 ∧ c.toNat ≠ 32 ∧ isLD c.toNat = false := by decide

/-- a, a line feed, b -/
structure Jn (a b J : ByteArray) : Prop where
  size : J.size = a.size + 1 + b.size
  one : ∀ j, j < a.size → bt J j = bt a j
  lf : bt J a.size = 10
  two : ∀ j, bt J (a.size + 1 + j) = bt b j
theorem Jn.ag {a b J : ByteArray} (h : Jn a b J) {p n : Nat} (hn : p + n ≤ a.size) : Ag a J p p n := fun j hj => h.one (p + j) (by omega)
theorem Jn.dec {a b J : ByteArray} (h : Jn a b J) {p : Nat} (hp : p < a.size) : rn J p = rn a p ∧ wd J p = wd a p :=
  dec_stop2 (n := a.size - p) hp (by omega) (h.ag (by omega)) (by rw [show p + (a.size - p) = a.size by omega, bt_out (by omega)]; decide) (by rw [show p + (a.size - p) = a.size by omega, h.lf]; decide)
theorem Jn.rlf {a b J : ByteArray} (h : Jn a b J) : rn J a.size = 10 := by rw [asc_rn (by have := h.size; omega) (by rw [h.lf]; decide), h.lf]
/-- a mark that fits fits in a -/
theorem Jn.bgn {a b J : ByteArray} (h : Jn a b J) {p : Nat} (hp : p ≤ a.size) {m : List UInt8} (hm : m ∈ mks) (hb : bgn J p m = true) : bgn a p m = true := by
  have hl := bgn_le hb
  have hsz := h.size
  rw [bgn_fit _ _ _ (by omega)] at hb
  have hin : p + m.length ≤ a.size := by
    apply Classical.byContradiction
    intro hc
    have hi : a.size - p < m.length := by omega
    have := fit_byte m p (a.size - p) hi hb
    rw [show p + (a.size - p) = a.size by omega, h.lf] at this
    exact (mks_no m hm _ (List.getElem_mem hi)).1 this.symm
  rw [bgn_fit _ _ _ hp, ← fit_ag m p p (h.ag hin)]
  exact hb
/-- a's pieces are the whole's, but blanks at its end -/
theorem Jn.pce_a {a b J : ByteArray} (h : Jn a b J) {p k t : Nat} (hp : p < a.size) (hc : pce a p = .ok k t) (hlast : k = 0 → t < a.size) : pce J p = .ok k t := by
  obtain ⟨t1, t2, -⟩ := pce_ok hp hc
  obtain ⟨s0, s1, s2, s3⟩ := pce_stop hp hc
  have et : p + (t - p) = t := by omega
  have hsz := h.size
  have key := pce_ag (s' := J) (p' := p) hp hc (h.ag (by omega))
    (fun hk => by rw [et, h.one t (hlast hk)]; exact s0 hk)
    (fun hk hb => by
      rw [et]
      by_cases hl : t < a.size
      · left
        rw [h.one t hl]
        rcases s1 hk hb with e | e
        · exact e
        · omega
      · left; rw [show t = a.size by omega]; exact h.lf)
    (fun x y z u hl => by
      rw [et]
      by_cases hl : t < a.size
      · rw [(h.dec hl).1]; exact s2 x y z u hl
      · rw [show t = a.size by omega, h.rlf]; decide)
    (fun hk => ⟨fun m hm hb => (s3 hk).1 m hm (h.bgn (by omega) hm hb), fun e hb => by
      by_cases hl : p + 1 < a.size
      · rw [h.one _ hl]
        exact ⟨fun x => (s3 hk).2 ⟨hb, .inl x⟩, fun x => (s3 hk).2 ⟨hb, .inr x⟩⟩
      · rw [show p + 1 = a.size by omega, h.lf]; exact ⟨by omega, by omega⟩⟩)
  rw [et] at key
  exact key
theorem rnE_fwd {a J : ByteArray} {p : Nat} (hp : p < a.size) (ha : ∀ n, p + n ≤ a.size → Ag a J p p n) (hd : ∀ q, p ≤ q → q < a.size → rn J q = rn a q) (he : a.size < J.size → isLD (rn J a.size) = false) : rnE J p = rnE a p := by
  have hl := rnE_le a (a.size - p) p (Nat.le_refl _) (by omega)
  have := rnE_ag (s := a) (s' := J) (rnE a p - p) (rnE a p - p) p p (Nat.le_refl _) (by omega) (ha _ (by omega)) (fun h1 => by
    rw [show p + (rnE a p - p) = rnE a p by omega] at h1 ⊢
    by_cases h2 : rnE a p < a.size
    · rw [hd _ hl.1 h2]; exact rnE_stop a _ p (Nat.le_refl _) h2
    · rw [show rnE a p = a.size by omega] at h1 ⊢; exact he h1)
  omega
/-- a's faults that no text behind mends are the whole's -/
theorem Jn.pce_no {a b J : ByteArray} (h : Jn a b J) {p y z : Nat} (hp : p < a.size) (hc : pce a p = .no y z) (h22 : y ≠ 22) (h23 : y ≠ 23) : pce J p = .no y z := by
  have hsz := h.size
  have a0 : bt J p = bt a p := h.one p hp
  have hrn := (h.dec hp).1
  have hnx : bt a p = 47 → (bt J (p + 1) = 47 → bt a (p + 1) = 47) ∧ (bt J (p + 1) = 42 → bt a (p + 1) = 42) := fun _ => by
    by_cases hl : p + 1 < a.size
    · rw [h.one _ hl]; exact ⟨id, id⟩
    · rw [show p + 1 = a.size by omega, h.lf]; exact ⟨by omega, by omega⟩
  have hrun := rnE_fwd (a := a) (J := J) hp (fun n hn => h.ag hn) (fun q _ hq => (h.dec hq).1) (fun _ => by rw [h.rlf]; decide)
  have hl := rnE_le a (a.size - p) p (Nat.le_refl _) (by omega)
  unfold pce at hc ⊢
  rw [a0, hrn]
  by_cases g1 : blk (bt a p) = true
  · rw [if_pos g1] at hc; cases hc
  rw [if_neg g1] at hc ⊢
  by_cases g2 : bt a p = 47 ∧ bt a (p + 1) = 47
  · rw [if_pos g2] at hc; cases hc
  rw [if_neg g2] at hc
  by_cases g3 : bt a p = 47 ∧ bt a (p + 1) = 42
  · rw [if_pos g3] at hc
    cases hf : fn2 a 42 47 (p + 2) with
    | none => rw [hf] at hc; cases hc; exact absurd rfl h23
    | some x => rw [hf] at hc; cases hc
  rw [if_neg g3] at hc
  rw [if_neg (fun e => g2 ⟨e.1, (hnx e.1).1 e.2⟩), if_neg (fun e => g3 ⟨e.1, (hnx e.1).2 e.2⟩)]
  have hext : J.extract p (rnE a p) = a.extract p (rnE a p) := by
    have := ext_ag (h.ag (p := p) (n := rnE a p - p) (by omega)) (by omega)
    rw [show p + (rnE a p - p) = rnE a p by omega] at this
    exact this
  by_cases g4 : isL (rn a p) = true
  · rw [if_pos g4] at hc ⊢
    unfold nmP at hc ⊢
    rw [hrun, hext]
    exact hc
  rw [if_neg g4] at hc ⊢
  by_cases g5 : 48 ≤ bt a p ∧ bt a p ≤ 57
  · rw [if_pos g5] at hc ⊢
    unfold ruP at hc ⊢
    rw [hrun, hext]
    exact hc
  rw [if_neg g5] at hc ⊢
  by_cases g6 : bt a p = 39 ∨ bt a p = 34 ∨ bt a p = 96
  · rw [if_pos g6] at hc ⊢
    unfold quP at hc ⊢
    rw [a0]
    by_cases h96 : bt a p = 96
    · rw [if_pos h96] at hc
      split at hc
      · cases hc
      · cases hc; exact absurd rfl h22
    · rw [if_neg h96] at hc ⊢
      cases hq : quo a (bt a p) (p + 1) 0 none with
      | none => rw [hq] at hc; cases hc; exact absurd rfl h22
      | some x =>
        obtain ⟨t', c', bad'⟩ := x
        rw [hq] at hc
        simp only at hc
        have hle := quo_le a (bt a p) (a.size - (p + 1)) (p + 1) 0 none t' c' bad' (Nat.le_refl _) hq
        split at hc
        · cases hc; exact absurd rfl h22
        · rename_i h39
          cases bad' with
          | none => cases hc
          | some z' =>
            simp only at hc
            cases hc
            obtain ⟨-, o, ho, hq'⟩ := quo_ag0 (s' := J) (p' := p) (by omega) hq (h.ag (by omega))
            rw [hq']
            simp only
            rw [if_neg h39, ← ho]
  rw [if_neg g6] at hc ⊢
  unfold mkP at hc ⊢
  rcases mkF_spec a p mks 0 (0, p) with ⟨e, hall⟩ | ⟨n, n1, n2, n3, n4, n5⟩
  · rw [e, if_pos rfl] at hc
    cases hc
    rcases mkF_spec J p mks 0 (0, p) with ⟨e', -⟩ | ⟨n, n1, n2, n3, n4, n5⟩
    · rw [e', if_pos rfl]
    · exfalso
      have hn : n < 48 := by have := tt_len.2; omega
      have := hall _ (mks_in hn) (h.bgn (by omega) (mks_in hn) n2)
      simp only at this n4
      omega
  · rw [n3] at hc
    simp only at hc n4
    rw [if_neg (by omega)] at hc
    cases hc

-- all bytes from a place on agree
def Fg (s s' : ByteArray) (p p' : Nat) : Prop := ∀ j, bt s' (p' + j) = bt s (p + j)
theorem Fg.ag {s s' : ByteArray} {p p' : Nat} (h : Fg s s' p p') (n : Nat) : Ag s s' p p' n := fun j _ => h j
theorem Fg.symm {s s' : ByteArray} {p p' : Nat} (h : Fg s s' p p') : Fg s' s p' p := fun j => (h j).symm
theorem Fg.on {s s' : ByteArray} {p p' : Nat} (h : Fg s s' p p') (i : Nat) : Fg s s' (p + i) (p' + i) := fun j => by have := h (i + j); rw [Nat.add_assoc, Nat.add_assoc]; exact this
theorem Fg.lt {s s' : ByteArray} {p p' : Nat} (h : Fg s s' p p') (i : Nat) : p' + i < s'.size ↔ p + i < s.size := by rw [← bt_256, ← bt_256, h i]
theorem Fg.dec {s s' : ByteArray} {p p' : Nat} (h : Fg s s' p p') (hp : p < s.size) : rn s' p' = rn s p ∧ wd s' p' = wd s p := by
  have hp' : p' < s'.size := (h.lt 0).2 hp
  have e := dec_bt s p hp
  have e' := dec_bt s' p' hp'
  have a0 : bt s' p' = bt s p := h 0
  rw [a0, h 1, h 2, h 3, ← e] at e'
  exact ⟨congrArg Prod.fst e', congrArg Prod.snd e'⟩
theorem Fg.bgn {s s' : ByteArray} {p p' : Nat} (h : Fg s s' p p') (hp : p < s.size) (m : List UInt8) : bgn s' p' m = true ↔ bgn s p m = true := by
  have hp' : p' < s'.size := (h.lt 0).2 hp
  rw [bgn_fit _ _ _ (by omega), bgn_fit _ _ _ (by omega)]
  exact fit_ag m p p' (h.ag _)
theorem Fg.run {s s' : ByteArray} {p p' : Nat} (h : Fg s s' p p') (hp : p < s.size) : rnE s' p' = p' + (rnE s p - p) := by
  have hl := rnE_le s (s.size - p) p (Nat.le_refl _) (by omega)
  refine rnE_ag (rnE s p - p) (rnE s p - p) p p' (Nat.le_refl _) (by omega) (h.ag _) (fun h1 => ?_)
  have h2 : p + (rnE s p - p) < s.size := (h.lt _).1 h1
  rw [((h.on (rnE s p - p)).dec h2).1]
  rw [show p + (rnE s p - p) = rnE s p by omega] at h2 ⊢
  exact rnE_stop s _ p (Nat.le_refl _) h2
theorem Fg.pce_ok {s s' : ByteArray} {p p' k t : Nat} (h : Fg s s' p p') (hp : p < s.size) (hc : pce s p = .ok k t) : pce s' p' = .ok k (p' + (t - p)) := by
  obtain ⟨t1, t2, -⟩ := Go.Proofs.YtmnbakalcpanlaaGreatDoor.pce_ok hp hc
  obtain ⟨s0, s1, s2, s3⟩ := pce_stop hp hc
  have et : p + (t - p) = t := by omega
  have hb : bt s' (p' + (t - p)) = bt s t := by rw [h (t - p), et]
  refine pce_ag hp hc (h.ag _) (fun hk => by rw [hb]; exact s0 hk) (fun hk hx => ?_) (fun x y z u hl => ?_) (fun hk => ⟨fun m hm hbm => (s3 hk).1 m hm ((h.bgn hp m).1 hbm), fun _ hx => by rw [h 1]; exact ⟨fun x => (s3 hk).2 ⟨hx, .inl x⟩, fun x => (s3 hk).2 ⟨hx, .inr x⟩⟩⟩)
  · rw [hb]
    rcases s1 hk hx with e | e
    · exact .inl e
    · right
      have := (h.lt (t - p)).1
      omega
  · have hl' : p + (t - p) < s.size := (h.lt _).1 hl
    rw [((h.on (t - p)).dec hl').1, et]
    exact s2 x y z u (by omega)
theorem Fg.pce_no {s s' : ByteArray} {p p' y z : Nat} (h : Fg s s' p p') (hp : p < s.size) (hc : pce s p = .no y z) : p ≤ z ∧ pce s' p' = .no y (p' + (z - p)) := by
  have hp' : p' < s'.size := (h.lt 0).2 hp
  have a0 : bt s' p' = bt s p := h 0
  have a1 : bt s' (p' + 1) = bt s (p + 1) := h 1
  have hrn := (h.dec hp).1
  have hrun := h.run hp
  have hl := rnE_le s (s.size - p) p (Nat.le_refl _) (by omega)
  have hext : s'.extract p' (p' + (rnE s p - p)) = s.extract p (rnE s p) := by
    have := ext_ag (h.ag (rnE s p - p)) (by omega)
    rw [show p + (rnE s p - p) = rnE s p by omega] at this
    exact this
  have self : p' + (p - p) = p' := by omega
  unfold pce at hc ⊢
  rw [a0, a1, hrn]
  by_cases g1 : blk (bt s p) = true
  · rw [if_pos g1] at hc; cases hc
  rw [if_neg g1] at hc ⊢
  by_cases g2 : bt s p = 47 ∧ bt s (p + 1) = 47
  · rw [if_pos g2] at hc; cases hc
  rw [if_neg g2] at hc ⊢
  by_cases g3 : bt s p = 47 ∧ bt s (p + 1) = 42
  · rw [if_pos g3] at hc ⊢
    cases hf : fn2 s 42 47 (p + 2) with
    | some x => rw [hf] at hc; cases hc
    | none =>
      rw [hf] at hc
      cases hc
      refine ⟨Nat.le_refl _, ?_⟩
      cases hf' : fn2 s' 42 47 (p' + 2) with
      | none => rw [self]
      | some x =>
        exfalso
        have hle := fn2_le s' 42 47 (by omega) _ _ _ (Nat.le_refl _) hf'
        have := fn2_ag (s := s') (s' := s) (x - (p' + 2)) (p' + 2) (p + 2) (by rw [hf']; congr 1; omega) ((h.symm.on 2).ag _)
        rw [hf] at this
        cases this
  rw [if_neg g3] at hc ⊢
  by_cases g4 : isL (rn s p) = true
  · rw [if_pos g4] at hc ⊢
    unfold nmP at hc ⊢
    rw [hrun, hext]
    split at hc
    · rename_i h2
      cases hc
      rw [if_pos (by omega), self]
      exact ⟨Nat.le_refl _, rfl⟩
    · cases hc
  rw [if_neg g4] at hc ⊢
  by_cases g5 : 48 ≤ bt s p ∧ bt s p ≤ 57
  · rw [if_pos g5] at hc ⊢
    unfold ruP at hc ⊢
    rw [hrun, hext]
    split at hc
    · cases hc
    · rename_i h2
      cases hc
      rw [if_neg h2, self]
      exact ⟨Nat.le_refl _, rfl⟩
  rw [if_neg g5] at hc ⊢
  by_cases g6 : bt s p = 39 ∨ bt s p = 34 ∨ bt s p = 96
  · rw [if_pos g6] at hc ⊢
    unfold quP at hc ⊢
    rw [a0]
    by_cases h96 : bt s p = 96
    · rw [if_pos h96] at hc ⊢
      have hl2 := fnd_le s 96 (s.size - (p + 1)) (p + 1) (Nat.le_refl _) (by omega)
      split at hc
      · cases hc
      · rename_i hf
        cases hc
        have e1 : fnd s' 96 (p' + 1) = p' + 1 + (fnd s 96 (p + 1) - (p + 1)) := by
          refine fnd_ag _ (p + 1) (p' + 1) (by omega) ((h.on 1).ag _) (.inr ?_)
          have := (h.lt (1 + (fnd s 96 (p + 1) - (p + 1)))).1
          omega
        rw [e1, self]
        refine ⟨Nat.le_refl _, ?_⟩
        rw [if_neg]
        intro hx
        have := (h.lt (1 + (fnd s 96 (p + 1) - (p + 1)))).1 (by omega)
        omega
    · rw [if_neg h96] at hc ⊢
      cases hq : quo s (bt s p) (p + 1) 0 none with
      | none =>
        rw [hq] at hc
        cases hc
        refine ⟨Nat.le_refl _, ?_⟩
        cases hq' : quo s' (bt s p) (p' + 1) 0 none with
        | none => rw [self]
        | some x =>
          exfalso
          obtain ⟨t', c', bad'⟩ := x
          obtain ⟨-, o, ho, hq2⟩ := quo_ag0 (s := s') (s' := s) (p' := p) (by omega) hq' (h.symm.ag _)
          rw [hq] at hq2
          cases hq2
      | some x =>
        obtain ⟨t', c', bad'⟩ := x
        rw [hq] at hc
        simp only at hc
        obtain ⟨-, o, ho, hq'⟩ := quo_ag0 (s' := s') (p' := p') (by omega) hq (h.ag _)
        rw [hq']
        simp only
        split at hc
        · rename_i h39
          cases hc
          rw [if_pos h39, self]
          exact ⟨Nat.le_refl _, rfl⟩
        · rename_i h39
          cases bad' with
          | none => cases hc
          | some z' =>
            simp only at hc
            cases hc
            cases o with
            | none => cases ho
            | some i =>
              have : z = p + i := by simpa using ho
              subst this
              rw [if_neg h39]
              refine ⟨by omega, ?_⟩
              show Pce.no 20 (p' + i) = _
              congr 1
              omega
  rw [if_neg g6] at hc ⊢
  unfold mkP at hc ⊢
  rcases mkF_spec s p mks 0 (0, p) with ⟨e, hall⟩ | ⟨n, n1, n2, n3, n4, n5⟩
  · rw [e, if_pos rfl] at hc
    cases hc
    refine ⟨Nat.le_refl _, ?_⟩
    rcases mkF_spec s' p' mks 0 (0, p') with ⟨e', -⟩ | ⟨n, n1, n2, n3, n4, n5⟩
    · rw [e', if_pos rfl, self]
    · exfalso
      have hn : n < 48 := by have := tt_len.2; omega
      have := hall _ (mks_in hn) ((h.bgn hp _).1 n2)
      simp only at this n4
      omega
  · rw [n3] at hc
    simp only at hc n4
    rw [if_neg (by omega)] at hc
    cases hc
end Go.Proofs.YtmnbakalcpanlaaGreatDoor
