import Derived.Test.YthdfccdkomfikaaDoorLx0
namespace Go.Proofs.YthdfccdkomfikaaDoor
open Go.ChangeShapes Go.WideShapes Go.ChangeAt Go.RowKit
set_option linter.unusedVariables false
set_option linter.unusedSimpArgs false

/-- the rune at a place, and its width -/
def rn (s : ByteArray) (k : Nat) : Nat := (Lib.decodeGo (s.extract k s.size)).1
def wd (s : ByteArray) (k : Nat) : Nat := (Lib.decodeGo (s.extract k s.size)).2
theorem ext0 (s : ByteArray) (k : Nat) (h : k < s.size) : (s.extract k s.size).get! 0 = s[k]'h := by
  rw [Utf8W.get!_of_lt _ _ (by rw [ByteArray.size_extract]; omega)]
  rw [ByteArray.getElem_extract]
  simp
theorem dN (n b0 b1 b2 b3 : Nat) : 1 ≤ (Lib.decodeN n b0 b1 b2 b3).2 ∧ (b0 < 128 → Lib.decodeN n b0 b1 b2 b3 = (b0, 1)) ∧ (128 ≤ b0 → (Lib.decodeN n b0 b1 b2 b3).2 = 1 → (Lib.decodeN n b0 b1 b2 b3).1 = 65533) := by
  unfold Lib.decodeN
  refine ⟨?_, ?_, ?_⟩
  · repeat' split
    all_goals simp
  · intro h; rw [if_pos h]
  · intro h; rw [if_neg (by omega)]
    repeat' split
    all_goals simp
theorem dec_facts (s : ByteArray) (k : Nat) (h : k < s.size) : 1 ≤ wd s k ∧ k + wd s k ≤ s.size ∧ ((s[k]'h).toNat < 128 → wd s k = 1 ∧ rn s k = (s[k]'h).toNat) ∧ (128 ≤ (s[k]'h).toNat → wd s k = 1 → rn s k = 65533) := by
  have hz : (s.extract k s.size).size = s.size - k := by rw [ByteArray.size_extract]; omega
  have h1 := Lib.decodeGo_le_size (s.extract k s.size)
  have h0 : Lib.decodeGo (s.extract k s.size) = Utf8.decode (s.extract k s.size) 0 := by
    unfold Lib.decodeGo; rw [if_neg (by omega)]
  unfold rn wd
  rw [h0] at h1 ⊢
  rw [Lib.decode_at, ext0 s k h] at h1 ⊢
  obtain ⟨a, b, c⟩ := dN ((s.extract k s.size).size - 0) (s[k]'h).toNat ((s.extract k s.size).get! (0 + 1)).toNat ((s.extract k s.size).get! (0 + 2)).toNat ((s.extract k s.size).get! (0 + 3)).toNat
  refine ⟨a, by omega, fun hb => ?_, c⟩
  rw [b hb]
  exact ⟨rfl, rfl⟩
/-- what stands within quotes for the rune at a place -/
def q1 (s : ByteArray) (k : Nat) (h : k < s.size) : List UInt8 := if 1 < wd s k then (s.extract k (k + wd s k)).data.toList else qe (s[k]'h)
def qs (s : ByteArray) : Nat → Nat → List UInt8
  | 0, _ => []
  | n + 1, k => if h : k < s.size then q1 s k h ++ qs s n (k + wd s k) else []
/-- a text within quotes -/
def qt (s : ByteArray) : List UInt8 := 34 :: (qs s s.size 0 ++ [34])
theorem qs_step (s : ByteArray) (n k : Nat) (hn : s.size - k ≤ n) (h : k < s.size) : ∃ m, s.size - (k + wd s k) ≤ m ∧ qs s n k = q1 s k h ++ qs s m (k + wd s k) := by
  cases n with
  | zero => omega
  | succ m =>
    have := (dec_facts s k h).1
    refine ⟨m, by omega, ?_⟩
    rw [qs, dif_pos h]
theorem qs_end (s : ByteArray) (n k : Nat) (h : ¬ k < s.size) : qs s n k = [] := by
  cases n with
  | zero => rfl
  | succ m => rw [qs, dif_neg h]
theorem q1_len (s : ByteArray) (k : Nat) (h : k < s.size) : (q1 s k h).length ≤ 4 * wd s k := by
  obtain ⟨a, b, _⟩ := dec_facts s k h
  unfold q1
  split
  · rw [Array.length_toList]
    show (s.extract k (k + wd s k)).size ≤ _
    rw [ByteArray.size_extract]; omega
  · have := (qe_len (s[k]'h)).1; omega
end Go.Proofs.YthdfccdkomfikaaDoor
