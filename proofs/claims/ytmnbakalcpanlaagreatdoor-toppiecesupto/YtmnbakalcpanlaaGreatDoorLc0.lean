import Derived.Test.YtmnbakalcpanlaaGreatDoorLmr
namespace Go.Proofs.YtmnbakalcpanlaaGreatDoor
open Go.ChangeShapes Go.WideShapes Go.ChangeAt Go.RowKit
set_option linter.unusedVariables false
set_option linter.unusedSimpArgs false

/-- n bytes of a text from a place on are those of another from a place on -/
def Ag (s s' : ByteArray) (p p' n : Nat) : Prop := ∀ j, j < n → bt s' (p' + j) = bt s (p + j)
theorem Ag.mono {s s' : ByteArray} {p p' n m : Nat} (h : Ag s s' p p' n) (hm : m ≤ n) : Ag s s' p p' m := fun j hj => h j (by omega)
theorem Ag.drop {s s' : ByteArray} {p p' n : Nat} (h : Ag s s' p p' n) (i : Nat) : Ag s s' (p + i) (p' + i) (n - i) := fun j hj => by
  have := h (i + j) (by omega)
  rw [Nat.add_assoc, Nat.add_assoc]
  exact this
theorem bt_256 {s : ByteArray} {i : Nat} : bt s i < 256 ↔ i < s.size := by
  constructor
  · intro h
    by_cases hi : i < s.size
    · exact hi
    · rw [bt_out hi] at h; omega
  · exact bt_lt
theorem Ag.lt {s s' : ByteArray} {p p' n : Nat} (h : Ag s s' p p' n) {j : Nat} (hj : j < n) (hs : p + j < s.size) : p' + j < s'.size := by
  rw [← bt_256, h j hj]; exact bt_lt hs
theorem Ag.le {s s' : ByteArray} {p p' n : Nat} (h : Ag s s' p p' n) (hn : 0 < n) (hs : p + n ≤ s.size) : p' + n ≤ s'.size := by
  have := h.lt (j := n - 1) (by omega) (by omega)
  omega
theorem Ag.zero {s s' : ByteArray} {p p' n : Nat} (h : Ag s s' p p' n) (hn : 0 < n) : bt s' p' = bt s p := h 0 hn
/-- texts with the same bytes are one -/
theorem bt_all {a b : ByteArray} (h : ∀ j, bt a j = bt b j) : a = b := by
  have hs : a.size = b.size := by
    have h1 : ¬ a.size < b.size := fun hl => by
      have := bt_lt hl; rw [← h, bt_out (by omega)] at this; omega
    have h2 : ¬ b.size < a.size := fun hl => by
      have := bt_lt hl; rw [h, bt_out (by omega)] at this; omega
    omega
  apply ByteArray.ext
  apply Array.ext
  · exact hs
  · intro i h1 h2
    have e := h i
    rw [bt_in (show i < a.size from h1), bt_in (show i < b.size from h2)] at e
    exact UInt8.toNat_inj.1 e
theorem bt_ex (s : ByteArray) (p t j : Nat) (ht : t ≤ s.size) : bt (s.extract p t) j = if p + j < t then bt s (p + j) else 256 := by
  have hz : (s.extract p t).size = t - p := by rw [ByteArray.size_extract]; omega
  by_cases h : p + j < t
  · rw [if_pos h, bt_in (show j < (s.extract p t).size by omega), bt_in (show p + j < s.size by omega), ByteArray.getElem_extract]
  · rw [if_neg h, bt_out (by omega)]
theorem ext_ag {s s' : ByteArray} {p p' n : Nat} (h : Ag s s' p p' n) (hs : p + n ≤ s.size) : s'.extract p' (p' + n) = s.extract p (p + n) := by
  by_cases hn : 0 < n
  · have hs' := h.le hn hs
    apply bt_all
    intro j
    rw [bt_ex _ _ _ _ hs', bt_ex _ _ _ _ hs]
    by_cases hj : j < n
    · rw [if_pos (by omega), if_pos (by omega), h j hj]
    · rw [if_neg (by omega), if_neg (by omega)]
  · obtain rfl : n = 0 := by omega
    have e1 : (s'.extract p' (p' + 0)).size = 0 := by rw [ByteArray.size_extract]; omega
    have e2 : (s.extract p (p + 0)).size = 0 := by rw [ByteArray.size_extract]; omega
    apply bt_all
    intro j
    rw [bt_out (by omega), bt_out (by omega)]

/-- how a rune is read, out of the bytes at its place -/
theorem dN_bt (n b0 b1 b2 b3 : Nat) (hn : 1 ≤ n) : Lib.decodeN n b0 b1 b2 b3 = Lib.decodeN 4 b0 (if 1 < n then b1 else 256) (if 2 < n then b2 else 256) (if 3 < n then b3 else 256) := by
  unfold Lib.decodeN
  by_cases h1 : 1 < n
  · by_cases h2 : 2 < n
    · by_cases h3 : 3 < n
      · simp [h1, h2, h3]
      · simp [h1, h2, h3]
    · have h3 : ¬ 3 < n := by omega
      simp [h1, h2, h3]
  · have h2 : ¬ 2 < n := by omega
    have h3 : ¬ 3 < n := by omega
    simp [h1, h2, h3]
theorem get_bt (u : ByteArray) (k j : Nat) (h : k + j < u.size) : ((u.extract k u.size).get! j).toNat = bt u (k + j) := by
  rw [Utf8W.get!_of_lt _ _ (by rw [ByteArray.size_extract]; omega), ByteArray.getElem_extract, bt_in h]
theorem dec_bt (u : ByteArray) (k : Nat) (h : k < u.size) : (rn u k, wd u k) = Lib.decodeN 4 (bt u k) (bt u (k + 1)) (bt u (k + 2)) (bt u (k + 3)) := by
  have hz : (u.extract k u.size).size = u.size - k := by rw [ByteArray.size_extract]; omega
  have h0 : Lib.decodeGo (u.extract k u.size) = Utf8.decode (u.extract k u.size) 0 := by
    unfold Lib.decodeGo; rw [if_neg (by omega)]
  have e : (rn u k, wd u k) = Lib.decodeN (u.size - k) ((u.extract k u.size).get! 0).toNat ((u.extract k u.size).get! 1).toNat ((u.extract k u.size).get! 2).toNat ((u.extract k u.size).get! 3).toNat := by
    unfold rn wd
    rw [h0, Lib.decode_at, hz]
    simp
  rw [e, dN_bt _ _ _ _ _ (by omega), get_bt u k 0 (by omega)]
  have g : ∀ j, (if j < u.size - k then ((u.extract k u.size).get! j).toNat else 256) = bt u (k + j) := fun j => by
    by_cases hj : j < u.size - k
    · rw [if_pos hj, get_bt u k j (by omega)]
    · rw [if_neg hj, bt_out (by omega)]
  rw [g 1, g 2, g 3]
  rfl
theorem dN_lone (b0 b1 b2 b3 c2 c3 : Nat) (h : b1 / 64 ≠ 2) : Lib.decodeN 4 b0 b1 b2 b3 = Lib.decodeN 4 b0 b1 c2 c3 := by
  unfold Lib.decodeN
  simp [h]
theorem dN_two (b0 b1 b2 b3 c3 : Nat) (h : b2 / 64 ≠ 2) : Lib.decodeN 4 b0 b1 b2 b3 = Lib.decodeN 4 b0 b1 b2 c3 := by
  unfold Lib.decodeN
  simp [h]
/-- a rune hangs on the bytes up to the first that goes on with none -/
theorem dec_stop {s s' : ByteArray} {k k' n : Nat} (h : k < s.size) (hn : 1 ≤ n) (ha : Ag s s' k k' (n + 1)) (hs : bt s (k + n) / 64 ≠ 2 ∨ 3 ≤ n) : rn s' k' = rn s k ∧ wd s' k' = wd s k := by
  have h' : k' < s'.size := ha.lt (j := 0) (by omega) h
  have e := dec_bt s k h
  have e' := dec_bt s' k' h'
  have a0 : bt s' k' = bt s k := ha 0 (by omega)
  have a1 : bt s' (k' + 1) = bt s (k + 1) := ha 1 (by omega)
  have key : (rn s' k', wd s' k') = (rn s k, wd s k) := by
    rw [e, e', a0, a1]
    by_cases n1 : n = 1
    · subst n1
      exact dN_lone _ _ _ _ _ _ (by rcases hs with h | h; exact h; omega)
    have a2 : bt s' (k' + 2) = bt s (k + 2) := ha 2 (by omega)
    rw [a2]
    by_cases n2 : n = 2
    · subst n2
      exact dN_two _ _ _ _ _ (by rcases hs with h | h; exact h; omega)
    have a3 : bt s' (k' + 3) = bt s (k + 3) := ha 3 (by omega)
    rw [a3]
  exact ⟨congrArg Prod.fst key, congrArg Prod.snd key⟩
theorem dN_w (b0 b1 b2 b3 : Nat) (h : 1 < (Lib.decodeN 4 b0 b1 b2 b3).2) :
    ((Lib.decodeN 4 b0 b1 b2 b3).2 = 2 ∧ ∀ c2 c3, Lib.decodeN 4 b0 b1 c2 c3 = Lib.decodeN 4 b0 b1 b2 b3) ∨
    ((Lib.decodeN 4 b0 b1 b2 b3).2 = 3 ∧ ∀ c3, Lib.decodeN 4 b0 b1 b2 c3 = Lib.decodeN 4 b0 b1 b2 b3) ∨ (Lib.decodeN 4 b0 b1 b2 b3).2 = 4 := by
  by_cases g0 : b0 < 128
  · unfold Lib.decodeN at h; rw [if_pos g0] at h; simp at h
  by_cases g1 : b0 / 32 = 6 ∧ (1 < 4 ∧ b1 / 64 = 2)
  · have E : ∀ c2 c3, Lib.decodeN 4 b0 b1 c2 c3 = if b0 % 32 * 64 + b1 % 64 ≥ 128 then (b0 % 32 * 64 + b1 % 64, 2) else (65533, 1) := fun c2 c3 => by
      unfold Lib.decodeN; rw [if_neg g0, if_pos g1]
    have E0 := E b2 b3
    split at E0
    · left; rw [E0]; exact ⟨rfl, fun c2 c3 => by rw [E, ← E b2 b3, E0]⟩
    · rw [E0] at h; simp at h
  by_cases g2 : b0 / 16 = 14 ∧ (1 < 4 ∧ b1 / 64 = 2) ∧ (2 < 4 ∧ b2 / 64 = 2)
  · have E : ∀ c3, Lib.decodeN 4 b0 b1 b2 c3 = if b0 % 16 * 4096 + b1 % 64 * 64 + b2 % 64 ≥ 2048 ∧ (b0 % 16 * 4096 + b1 % 64 * 64 + b2 % 64 < 55296 ∨ (57344 ≤ b0 % 16 * 4096 + b1 % 64 * 64 + b2 % 64 ∧ b0 % 16 * 4096 + b1 % 64 * 64 + b2 % 64 ≤ 1114111)) then (b0 % 16 * 4096 + b1 % 64 * 64 + b2 % 64, 3) else (65533, 1) := fun c3 => by
      unfold Lib.decodeN; rw [if_neg g0, if_neg g1, if_pos g2]
    have E0 := E b3
    split at E0
    · right; left; rw [E0]; exact ⟨rfl, fun c3 => by rw [E, ← E b3, E0]⟩
    · rw [E0] at h; simp at h
  · unfold Lib.decodeN at h ⊢
    rw [if_neg g0, if_neg g1, if_neg g2] at h ⊢
    right; right
    split at h
    · split at h
      · rename_i a b; rw [if_pos a, if_pos b]
      · simp at h
    · simp at h
theorem ag_of (s s' : ByteArray) (k k' n : Nat) (a : Ag s s' k k' n) : ∀ j, j < n → bt s' (k' + j) = bt s (k + j) := a
/-- a rune that is one hangs on its own bytes -/
theorem dec_wide {s s' : ByteArray} {k k' : Nat} (h : k < s.size) (hw : bt s k < 128 ∨ 1 < wd s k) (ha : Ag s s' k k' (wd s k)) : rn s' k' = rn s k ∧ wd s' k' = wd s k := by
  obtain ⟨f1, f2, f3, -⟩ := dec_facts s k h
  have h' : k' < s'.size := ha.lt (j := 0) (by omega) h
  have a0 : bt s' k' = bt s k := ha 0 (by omega)
  rcases hw with hb | hw
  · obtain ⟨x1, x2⟩ := f3 (by rw [← bt_in h]; exact hb)
    obtain ⟨-, -, g3, -⟩ := dec_facts s' k' h'
    obtain ⟨y1, y2⟩ := g3 (by rw [← bt_in h', a0]; exact hb)
    exact ⟨by rw [y2, x2, ← bt_in h', ← bt_in h, a0], by rw [y1, x1]⟩
  · have e := dec_bt s k h
    have e' := dec_bt s' k' h'
    have ew : (Lib.decodeN 4 (bt s k) (bt s (k + 1)) (bt s (k + 2)) (bt s (k + 3))).2 = wd s k := by rw [← e]
    have a1 : bt s' (k' + 1) = bt s (k + 1) := ha 1 (by omega)
    have key : (rn s' k', wd s' k') = (rn s k, wd s k) := by
      rw [e, e', a0, a1]
      rcases dN_w (bt s k) (bt s (k + 1)) (bt s (k + 2)) (bt s (k + 3)) (by omega) with ⟨w2, E⟩ | ⟨w3, E⟩ | w4
      · exact E _ _
      · have a2 : bt s' (k' + 2) = bt s (k + 2) := ha 2 (by omega)
        rw [a2]; exact E _
      · have a2 : bt s' (k' + 2) = bt s (k + 2) := ha 2 (by omega)
        have a3 : bt s' (k' + 3) = bt s (k + 3) := ha 3 (by omega)
        rw [a2, a3]
    exact ⟨congrArg Prod.fst key, congrArg Prod.snd key⟩
theorem ld_wide {s : ByteArray} {k : Nat} (h : k < s.size) (hl : isLD (rn s k) = true) : bt s k < 128 ∨ 1 < wd s k := by
  obtain ⟨f1, -, -, f4⟩ := dec_facts s k h
  by_cases hb : bt s k < 128
  · exact .inl hb
  · by_cases hw : 1 < wd s k
    · exact .inr hw
    · rw [f4 (by rw [← bt_in h]; omega) (by omega), bad_none.2] at hl
      cases hl
/-- a text cut off: a rune is what it was, or bad -/
theorem dN_off (b0 b1 b2 b3 c1 c2 c3 : Nat) (h1 : c1 = b1 ∨ (c1 = 256 ∧ c2 = 256 ∧ c3 = 256)) (h2 : c2 = b2 ∨ (c2 = 256 ∧ c3 = 256)) (h3 : c3 = b3 ∨ c3 = 256) : Lib.decodeN 4 b0 c1 c2 c3 = Lib.decodeN 4 b0 b1 b2 b3 ∨ (Lib.decodeN 4 b0 c1 c2 c3 = (65533, 1) ∧ 128 ≤ b0) := by
  by_cases g0 : b0 < 128
  · left; unfold Lib.decodeN; rw [if_pos g0, if_pos g0]
  rcases h1 with rfl | ⟨rfl, rfl, rfl⟩
  · rcases h2 with rfl | ⟨rfl, rfl⟩
    · rcases h3 with rfl | rfl
      · exact .inl rfl
      · by_cases hw : 1 < (Lib.decodeN 4 b0 c1 c2 256).2
        · rcases dN_w _ _ _ _ hw with ⟨-, E⟩ | ⟨-, E⟩ | w4
          · left; exact (E _ _).symm
          · left; exact (E _).symm
          · exfalso
            revert w4
            unfold Lib.decodeN
            rw [if_neg g0]
            simp
            repeat' split
            all_goals simp
        · right
          refine ⟨?_, by omega⟩
          obtain ⟨a, -, c⟩ := dN 4 b0 c1 c2 256
          exact Prod.ext (c (by omega) (by omega)) (by show _ = 1; omega)
    · by_cases hw : 1 < (Lib.decodeN 4 b0 c1 256 256).2
      · rcases dN_w _ _ _ _ hw with ⟨-, E⟩ | ⟨w3, -⟩ | w4
        · left; exact (E _ _).symm
        · exfalso
          revert w3
          unfold Lib.decodeN
          rw [if_neg g0]
          simp
          repeat' split
          all_goals simp
        · exfalso
          revert w4
          unfold Lib.decodeN
          rw [if_neg g0]
          simp
          repeat' split
          all_goals simp
      · right
        refine ⟨?_, by omega⟩
        obtain ⟨a, -, c⟩ := dN 4 b0 c1 256 256
        exact Prod.ext (c (by omega) (by omega)) (by show _ = 1; omega)
  · right
    refine ⟨?_, by omega⟩
    unfold Lib.decodeN
    rw [if_neg g0]
    simp
theorem dec_off (s : ByteArray) (z k : Nat) (hz : z ≤ s.size) (hk : k < z) : (rn (s.extract 0 z) k = rn s k ∧ wd (s.extract 0 z) k = wd s k) ∨ (rn (s.extract 0 z) k = 65533 ∧ wd (s.extract 0 z) k = 1 ∧ 128 ≤ bt s k) := by
  have hs : (s.extract 0 z).size = z := by rw [ByteArray.size_extract]; omega
  have g : ∀ j, bt (s.extract 0 z) j = if j < z then bt s j else 256 := fun j => by rw [bt_ex _ _ _ _ hz]; simp
  have e := dec_bt s k (by omega)
  have e' := dec_bt (s.extract 0 z) k (by omega)
  rw [g k, if_pos hk] at e'
  rcases dN_off (bt s k) (bt s (k + 1)) (bt s (k + 2)) (bt s (k + 3)) (bt (s.extract 0 z) (k + 1)) (bt (s.extract 0 z) (k + 2)) (bt (s.extract 0 z) (k + 3)) (by
      rw [g, g, g]
      by_cases h : k + 1 < z
      · left; rw [if_pos h]
      · right; rw [if_neg h, if_neg (by omega), if_neg (by omega)]; exact ⟨rfl, rfl, rfl⟩) (by
      rw [g, g]
      by_cases h : k + 2 < z
      · left; rw [if_pos h]
      · right; rw [if_neg h, if_neg (by omega)]; exact ⟨rfl, rfl⟩) (by
      rw [g]
      by_cases h : k + 3 < z
      · left; rw [if_pos h]
      · right; rw [if_neg h]) with h | ⟨h, h8⟩
  · left
    rw [h, ← e] at e'
    exact ⟨congrArg Prod.fst e', congrArg Prod.snd e'⟩
  · right
    rw [h] at e'
    exact ⟨congrArg Prod.fst e', congrArg Prod.snd e', h8⟩

-- runs of bytes
theorem blE_ag {s s' : ByteArray} : ∀ (n p p' : Nat), blE s p = p + n → Ag s s' p p' n → blk (bt s' (p' + n)) = false → blE s' p' = p' + n
  | 0, p, p', h, ha, hs => by rw [blE_out (fun e => by rw [Nat.add_zero, e.2] at hs; cases hs)]; rfl
  | n + 1, p, p', h, ha, hs => by
    by_cases hc : p < s.size ∧ blk (bt s p) = true
    · rw [blE_in hc.1 hc.2] at h
      have a0 : bt s' p' = bt s p := ha 0 (by omega)
      have ih := blE_ag n (p + 1) (p' + 1) (by omega) (ha.drop 1) (by rw [show p' + 1 + n = p' + (n + 1) by omega]; exact hs)
      have hp' : p' < s'.size := ha.lt (j := 0) (by omega) hc.1
      rw [blE_in hp' (by rw [a0]; exact hc.2), ih]
      omega
    · rw [blE_out hc] at h; omega
theorem fnd_ag {s s' : ByteArray} {c : Nat} : ∀ (n p p' : Nat), fnd s c p = p + n → Ag s s' p p' n → (bt s' (p' + n) = c ∨ s'.size ≤ p' + n) → fnd s' c p' = p' + n
  | 0, p, p', h, ha, hs => by rw [fnd_out (fun e => by rcases hs with h | h; exact e.2 h; omega)]; rfl
  | n + 1, p, p', h, ha, hs => by
    by_cases hc : p < s.size ∧ bt s p ≠ c
    · rw [fnd_in hc.1 hc.2] at h
      have a0 : bt s' p' = bt s p := ha 0 (by omega)
      have ih := fnd_ag (c := c) n (p + 1) (p' + 1) (by omega) (ha.drop 1) (by rw [show p' + 1 + n = p' + (n + 1) by omega]; exact hs)
      have hp' : p' < s'.size := ha.lt (j := 0) (by omega) hc.1
      rw [fnd_in hp' (by rw [a0]; exact hc.2), ih]
      omega
    · rw [fnd_out hc] at h; omega
theorem fn2_ag {s s' : ByteArray} {c d : Nat} : ∀ (n p p' : Nat), fn2 s c d p = some (p + n) → Ag s s' p p' (n + 2) → fn2 s' c d p' = some (p' + n)
  | n, p, p', h, ha => by
    have a0 : bt s' p' = bt s p := ha 0 (by omega)
    have a1 : bt s' (p' + 1) = bt s (p + 1) := ha 1 (by omega)
    by_cases hp : p < s.size
    · have hp' : p' < s'.size := ha.lt (j := 0) (by omega) hp
      by_cases hc : bt s p = c ∧ bt s (p + 1) = d
      · rw [fn2_hit hp hc] at h
        have h0 : n = 0 := by have := Option.some.inj h; omega
        subst h0
        rw [fn2_hit hp' (by rw [a0, a1]; exact hc)]; rfl
      · rw [fn2_in hp hc] at h
        match n, h, ha with
        | 0, h, ha =>
          exfalso
          by_cases h1 : p + 1 < s.size
          · by_cases hd : d < 256
            · have := fn2_le s c d hd (s.size - (p + 1)) (p + 1) _ (Nat.le_refl _) h; omega
            · have key : ∀ m k t, s.size - k ≤ m → fn2 s c d k = some t → k ≤ t := by
                intro m
                induction m with
                | zero => intro k t hk ht; rw [fn2_out (by omega)] at ht; cases ht
                | succ m ih =>
                  intro k t hk ht
                  by_cases hks : k < s.size
                  · by_cases hh : bt s k = c ∧ bt s (k + 1) = d
                    · rw [fn2_hit hks hh] at ht; cases ht; omega
                    · rw [fn2_in hks hh] at ht; have := ih (k + 1) t (by omega) ht; omega
                  · rw [fn2_out hks] at ht; cases ht
              have := key (s.size - (p + 1)) (p + 1) _ (Nat.le_refl _) h; omega
          · rw [fn2_out h1] at h; cases h
        | m + 1, h, ha =>
          have ih := fn2_ag m (p + 1) (p' + 1) (by rw [h]; congr 1; omega) (by have := ha.drop 1; exact this.mono (by omega))
          rw [fn2_in hp' (by rw [a0, a1]; exact hc), ih]
          congr 1; omega
    · rw [fn2_out hp] at h; cases h
theorem rnE_ag {s s' : ByteArray} : ∀ (m n p p' : Nat), n ≤ m → rnE s p = p + n → Ag s s' p p' n → (p' + n < s'.size → isLD (rn s' (p' + n)) = false) → rnE s' p' = p' + n
  | m, n, p, p', hm, h, ha, hs => by
    by_cases hc : p < s.size ∧ isLD (rn s p) = true
    · rw [rnE_in hc.1 hc.2] at h
      obtain ⟨f1, f2, -, -⟩ := dec_facts s p hc.1
      have hl := rnE_le s (s.size - (p + wd s p)) (p + wd s p) (Nat.le_refl _) f2
      obtain ⟨e1, e2⟩ := dec_wide hc.1 (ld_wide hc.1 hc.2) (ha.mono (by omega))
      have hp' : p' < s'.size := ha.lt (j := 0) (by omega) hc.1
      match m, hm with
      | 0, hm => omega
      | m + 1, hm =>
        have ih := rnE_ag m (n - wd s p) (p + wd s p) (p' + wd s p) (by omega) (by omega) (ha.drop (wd s p)) (by rw [show p' + wd s p + (n - wd s p) = p' + n by omega]; exact hs)
        rw [rnE_in hp' (by rw [e1]; exact hc.2), e2, ih]
        omega
    · rw [rnE_out hc] at h
      obtain rfl : n = 0 := by omega
      rw [rnE_out (fun e => by have := hs e.1; rw [Nat.add_zero, e.2] at this; cases this)]
      rfl
end Go.Proofs.YtmnbakalcpanlaaGreatDoor
