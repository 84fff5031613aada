import Derived.Test.YthdfccdkomfikaaDoorLy9
import Derived.Lib.Index
namespace Go.Proofs.YthdfccdkomfikaaDoor
open Go.ChangeShapes Go.WideShapes Go.ChangeAt Go.RowKit
set_option linter.unusedVariables false
set_option linter.unusedSimpArgs false

/-- a text's bytes from a place on -/
def dl (s : ByteArray) (k : Nat) : List UInt8 := (s.extract k s.size).data.toList
theorem dl_drop (s : ByteArray) (k : Nat) : dl s k = s.data.toList.drop k := by
  unfold dl
  have hu : s.data.toList.length = s.size := by rw [Array.length_toList]; rfl
  simp only [ByteArray.data_extract, Array.toList_extract, List.extract_eq_take_drop]
  rw [List.take_of_length_le]
  rw [List.length_drop, hu]
  omega
theorem dl_cons {s : ByteArray} {k : Nat} (h : k < s.size) : dl s k = s[k]'h :: dl s (k + 1) := by
  have hu : s.data.toList.length = s.size := by rw [Array.length_toList]; rfl
  rw [dl_drop, dl_drop, List.drop_eq_getElem_cons (by omega)]
  rfl
theorem dl_nil {s : ByteArray} {k : Nat} (h : ¬ k < s.size) : dl s k = [] := by
  have hu : s.data.toList.length = s.size := by rw [Array.length_toList]; rfl
  rw [dl_drop, List.drop_eq_nil_iff]
  omega
theorem fnd_in {s : ByteArray} {c k : Nat} (h : k < s.size) (hb : bt s k ≠ c) : fnd s c k = fnd s c (k + 1) := by rw [fnd, dif_pos ⟨h, hb⟩]
theorem fnd_out {s : ByteArray} {c k : Nat} (h : ¬ (k < s.size ∧ bt s k ≠ c)) : fnd s c k = k := by rw [fnd, dif_neg h]
theorem idx_fnd (s : ByteArray) (c : UInt8) : ∀ n k, s.size - k ≤ n → k ≤ s.size → Lib.indexByte (dl s k) c = if fnd s c.toNat k < s.size then ((fnd s c.toNat k : Nat) : Int) - (k : Int) else -1
  | n, k, hn, hk => by
    by_cases h : k < s.size
    · match n, hn with
      | 0, hn => omega
      | m + 1, hn =>
        rw [dl_cons h, Lib.indexByte]
        by_cases hb : s[k]'h = c
        · rw [fnd_out (by rw [bt_in h, hb]; simp), if_pos (by simp [hb]), if_pos h]; omega
        · have hb2 : bt s k ≠ c.toNat := by rw [bt_in h]; exact fun e => hb (UInt8.toNat_inj.1 e)
          have ih := idx_fnd s c m (k + 1) (by omega) (by omega)
          have hl := fnd_le s c.toNat (s.size - (k + 1)) (k + 1) (Nat.le_refl _) (by omega)
          rw [fnd_in h hb2, if_neg (by simp [hb]), ih]
          split
          · rw [if_neg (by simp; omega)]; omega
          · rfl
    · rw [dl_nil h, fnd_out (by omega), if_neg h]; rfl
theorem fn2_in {s : ByteArray} {c d k : Nat} (h : k < s.size) (hb : ¬ (bt s k = c ∧ bt s (k + 1) = d)) : fn2 s c d k = fn2 s c d (k + 1) := by rw [fn2, dif_pos h, if_neg hb]
theorem fn2_hit {s : ByteArray} {c d k : Nat} (h : k < s.size) (hb : bt s k = c ∧ bt s (k + 1) = d) : fn2 s c d k = some k := by rw [fn2, dif_pos h, if_pos hb]
theorem fn2_out {s : ByteArray} {c d k : Nat} (h : ¬ k < s.size) : fn2 s c d k = none := by rw [fn2, dif_neg h]
def o2I (k : Nat) : Option Nat → Int
  | some t => (t : Int) - (k : Int)
  | none => -1
theorem fn2_le (s : ByteArray) (c d : Nat) (hd : d < 256) : ∀ n k t, s.size - k ≤ n → fn2 s c d k = some t → k ≤ t ∧ t + 1 < s.size
  | n, k, t, hn, h => by
    by_cases hk : k < s.size
    · by_cases hb : bt s k = c ∧ bt s (k + 1) = d
      · rw [fn2_hit hk hb] at h; cases h
        refine ⟨Nat.le_refl _, ?_⟩
        by_cases h2 : k + 1 < s.size
        · exact h2
        · have := bt_out h2; omega
      · rw [fn2_in hk hb] at h
        match n, hn with
        | 0, hn => omega
        | m + 1, hn => have := fn2_le s c d hd m (k + 1) t (by omega) h; omega
    · rw [fn2_out hk] at h; cases h
theorem idx_fn2 (s : ByteArray) (c d : UInt8) : ∀ n k, s.size - k ≤ n → k ≤ s.size → Lib.index (dl s k) [c, d] = o2I k (fn2 s c.toNat d.toNat k)
  | n, k, hn, hk => by
    by_cases h : k < s.size
    · match n, hn with
      | 0, hn => omega
      | m + 1, hn =>
        have hp := pre_bt s k c d
        unfold Lib.hasPrefix at hp
        have e : (s.extract k s.size).data.toList = s[k]'h :: dl s (k + 1) := dl_cons h
        rw [e] at hp
        rw [dl_cons h, Lib.index, hp]
        by_cases hb : bt s k = c.toNat ∧ bt s (k + 1) = d.toNat
        · rw [fn2_hit h hb, if_pos (by simp [hb])]; simp [o2I]
        · have ih := idx_fn2 s c d m (k + 1) (by omega) (by omega)
          rw [fn2_in h hb, if_neg (by simpa using hb), ih]
          cases hf : fn2 s c.toNat d.toNat (k + 1) with
          | none => rfl
          | some t =>
            have := fn2_le s c.toNat d.toNat d.toNat_lt (s.size - (k + 1)) (k + 1) t (Nat.le_refl _) hf
            have e1 : o2I (k + 1) (some t) = (t : Int) - ((k + 1 : Nat) : Int) := rfl
            have e2 : (o2I (k + 1) (some t) == -1) = false := by rw [e1, beq_eq_false_iff_ne]; omega
            rw [e2, e1]
            show (t : Int) - ((k + 1 : Nat) : Int) + 1 = (t : Int) - (k : Int)
            omega
    · rw [dl_nil h, fn2_out h]; rfl
/-- a comment -/
def noO (p : Nat) : Option Nat → Pce
  | some k => .ok 1 (k + 2)
  | none => .no 23 p
def noP (s : ByteArray) (p : Nat) : Pce := if bt s (p + 1) = 47 then .ok 1 (fnd s 10 p) else noO p (fn2 s 42 47 (p + 2))
end Go.Proofs.YthdfccdkomfikaaDoor
