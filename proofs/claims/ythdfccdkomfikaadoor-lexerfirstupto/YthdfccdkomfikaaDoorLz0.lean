import Derived.Test.YthdfccdkomfikaaDoorLx2
import Derived.Shelf.Unicode.PredsAny
namespace Go.Proofs.YthdfccdkomfikaaDoor
open Go.ChangeShapes Go.WideShapes Go.ChangeAt Go.RowKit
set_option linter.unusedVariables false
set_option linter.unusedSimpArgs false

/-- the byte at a place; 256 behind the end -/
def bt (s : ByteArray) (i : Nat) : Nat := if h : i < s.size then (s[i]'h).toNat else 256
theorem bt_in {s : ByteArray} {i : Nat} (h : i < s.size) : bt s i = (s[i]'h).toNat := by unfold bt; rw [dif_pos h]
theorem bt_out {s : ByteArray} {i : Nat} (h : ¬ i < s.size) : bt s i = 256 := by unfold bt; rw [dif_neg h]
theorem bt_lt {s : ByteArray} {i : Nat} (h : i < s.size) : bt s i < 256 := by rw [bt_in h]; exact (s[i]'h).toNat_lt
def blk (c : Nat) : Bool := c == 32 || c == 9 || c == 13 || c == 10
/-- the place behind the blanks from a place on -/
def blE (s : ByteArray) (k : Nat) : Nat := if h : k < s.size ∧ blk (bt s k) = true then blE s (k + 1) else k
termination_by s.size - k
/-- the place of the next byte c, or the end -/
def fnd (s : ByteArray) (c : Nat) (k : Nat) : Nat := if h : k < s.size ∧ bt s k ≠ c then fnd s c (k + 1) else k
termination_by s.size - k
/-- the place of the next two bytes c, d -/
def fn2 (s : ByteArray) (c d : Nat) (k : Nat) : Option Nat := if h : k < s.size then (if bt s k = c ∧ bt s (k + 1) = d then some k else fn2 s c d (k + 1)) else none
termination_by s.size - k
/-- letters and digits of Unicode -/
def uL (r : Nat) : Bool := if Lib.latin1 (r : Int) then Lib.isLetterL (r : Int) else Lib.exclGo Lib.letterT (r : Int)
def uD (r : Nat) : Bool := if (r : Int) ≤ 255 then Lib.isDigitL (r : Int) else Lib.exclGo Lib.digitT (r : Int)
def isL (r : Nat) : Bool := r == 95 || uL r
def isLD (r : Nat) : Bool := isL r || uD r
set_option maxRecDepth 100000 in
theorem bad_none : isL 65533 = false ∧ isLD 65533 = false := by constructor <;> kernel_rfl
/-- the place behind the letters and digits from a place on -/
def rnE (s : ByteArray) (k : Nat) : Nat := if h : k < s.size ∧ isLD (rn s k) = true then rnE s (k + wd s k) else k
termination_by s.size - k
decreasing_by have := (dec_facts s k h.1).1; omega

/-- a digit's value; 99: none -/
def dgv (c : Nat) : Nat := if 48 ≤ c ∧ c ≤ 57 then c - 48 else if 97 ≤ c ∧ c ≤ 102 then c - 87 else if 65 ≤ c ∧ c ≤ 70 then c - 55 else 99
/-- what n digits from a place on say, behind what was said -/
def dgs (s : ByteArray) (b : Nat) : Nat → Nat → Nat → Option Nat
  | 0, _, acc => some acc
  | n + 1, k, acc => if dgv (bt s k) < b then dgs s b n (k + 1) (acc * b + dgv (bt s k)) else none
theorem dgv_le (c : Nat) : dgv c ≤ 99 := by unfold dgv; repeat (first | omega | split)
theorem dgs_lt (s : ByteArray) (b : Nat) (hb : b ≤ 16) : ∀ n k acc v, dgs s b n k acc = some v → v < (acc + 1) * b ^ n
  | 0, k, acc, v, h => by simp [dgs] at h; subst h; simp
  | n + 1, k, acc, v, h => by
    rw [dgs] at h
    split at h
    · rename_i hd
      have := dgs_lt s b hb n (k + 1) _ v h
      refine Nat.lt_of_lt_of_le this ?_
      rw [Nat.pow_succ, Nat.mul_comm (b ^ n), ← Nat.mul_assoc]
      apply Nat.mul_le_mul_right
      rw [Nat.add_mul]
      omega
    · cases h
/-- an item: how many bytes, its value, is it a byte, is it a bad byte -/
structure Itm where
  n : Nat
  v : Nat
  e : Bool
  b : Bool
/-- an escape by digits: count of them from a place on, which is f bytes behind the backslash -/
def cod (s : ByteArray) (at_ f count b : Nat) : Option Itm :=
  if s.size < at_ + count then none else
  match dgs s b count at_ 0 with
  | none => none
  | some v => if (count < 4 ∧ 255 < v) ∨ 1114111 < v ∨ (4 ≤ count ∧ 55296 ≤ v ∧ v ≤ 57343) then none else some ⟨f + count, v, decide (count < 4), false⟩
/-- what a letter behind a backslash stands for -/
def esc (c q : Nat) : Option Nat :=
  if c = 97 then some 7 else if c = 98 then some 8 else if c = 102 then some 12 else if c = 110 then some 10 else if c = 114 then some 13 else if c = 116 then some 9 else if c = 118 then some 11 else if c = 92 then some 92 else if c = q then some c else none
/-- the item at a place within quotes -/
def itm (s : ByteArray) (k q : Nat) : Option Itm :=
  if bt s k ≠ 92 then some ⟨wd s k, rn s k, false, decide (rn s k = 65533 ∧ wd s k = 1)⟩ else
  if s.size ≤ k + 1 then none else
  match esc (bt s (k + 1)) q with
  | some v => some ⟨2, v, false, false⟩
  | none =>
    if bt s (k + 1) = 120 then cod s (k + 2) 2 2 16 else
    if bt s (k + 1) = 117 then cod s (k + 2) 2 4 16 else
    if bt s (k + 1) = 85 then cod s (k + 2) 2 8 16 else
    if 48 ≤ bt s (k + 1) ∧ bt s (k + 1) ≤ 55 then cod s (k + 1) 1 3 8 else none
end Go.Proofs.YthdfccdkomfikaaDoor
