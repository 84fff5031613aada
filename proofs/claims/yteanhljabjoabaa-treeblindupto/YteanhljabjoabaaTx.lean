import Derived.Test.YteanhljabjoabaaSpP
import Derived.Test.YteanhljabjoabaaNmsA
import Derived.Test.YteanhljabjoabaaBl
import Derived.Test.YteanhljabjoabaaShf
namespace Go.Proofs.Yteanhljabjoabaa
open Go.ChangeShapes Go.WideShapes Go.ChangeAt Go.RowKit
set_option linter.unusedVariables false

/-- a word more of a text -/
def stp (s : ByteArray) (p : Tk) (acc : List UInt8) : List UInt8 := if (wrd s p).data.toList = [] then acc else if acc = [] then (wrd s p).data.toList else acc ++ 32 :: (wrd s p).data.toList
/-- the words of the tokens among n pieces from b on -/
def txt (s : ByteArray) (ts : List Tk) (b : Nat) : Nat → List UInt8
  | 0 => []
  | n + 1 => match ts[b + n]? with | some p => if tokB p then stp s p (txt s ts b n) else txt s ts b n | none => txt s ts b n

theorem wrd_le (s : ByteArray) (p : Tk) : (wrd s p).data.toList.length ≤ s.size := by
  have e : ∀ v : ByteArray, v.data.toList.length = v.size := fun v => by rw [Array.length_toList]; rfl
  rw [e]
  unfold wrd
  split
  · simp; omega
  · exact Nat.zero_le _

theorem stp_le {s : ByteArray} {p : Tk} {acc : List UInt8} : (stp s p acc).length ≤ acc.length + s.size + 1 := by
  have := wrd_le s p
  unfold stp
  split
  · omega
  · split
    · omega
    · rw [List.length_append, List.length_cons]; omega

theorem txt_len (s : ByteArray) (ts : List Tk) (b : Nat) (n : Nat) : (txt s ts b n).length ≤ n * (s.size + 1) := by
  induction n with
  | zero => simp [txt]
  | succ n ih =>
    rw [txt, Nat.succ_mul]
    cases ts[b + n]? with
    | none => simp only; omega
    | some p =>
      simp only
      have := stp_le (s := s) (p := p) (acc := txt s ts b n)
      cases tokB p
      · simp only [Bool.false_eq_true, if_false]; omega
      · simp only [if_true]; omega

theorem txt_le (s : ByteArray) (ts : List Tk) (b : Nat) (hs : s.size ≤ 1048576) (n : Nat) (hn : n ≤ 4194304) : (txt s ts b n).length ≤ 4398050705408 := by
  have h1 := txt_len s ts b n
  have h2 : n * (s.size + 1) ≤ 4194304 * 1048577 := Nat.mul_le_mul hn (by omega)
  exact Nat.le_trans h1 h2

theorem txt_tok {s : ByteArray} {ts : List Tk} {b n : Nat} {p : Tk} (hp : ts[b + n]? = some p) (h : tokB p = true) : txt s ts b (n + 1) = stp s p (txt s ts b n) := by
  rw [txt, hp]; simp [h]
theorem txt_not {s : ByteArray} {ts : List Tk} {b n : Nat} {p : Tk} (hp : ts[b + n]? = some p) (h : tokB p = false) : txt s ts b (n + 1) = txt s ts b n := by
  rw [txt, hp]; simp [h]
theorem emp {v : ByteArray} : v.toList.isEmpty = true ↔ v.data.toList = [] := by
  rw [ByteArray.toList_eq, List.isEmpty_iff]
theorem emp' {v : ByteArray} : v.toList.isEmpty = false ↔ ¬ v.data.toList = [] := by
  rw [← emp]; cases v.toList.isEmpty <;> simp
theorem stp_none {s : ByteArray} {p : Tk} {acc : List UInt8} (h : (wrd s p).toList.isEmpty = true) : stp s p acc = acc := by
  unfold stp; rw [if_pos (emp.1 h)]
theorem stp_first {s : ByteArray} {p : Tk} {acc : List UInt8} (h : (wrd s p).toList.isEmpty = false) (ha : acc = []) : stp s p acc = (wrd s p).data.toList := by
  unfold stp; rw [if_neg (emp'.1 h), if_pos ha]
theorem stp_next {s : ByteArray} {p : Tk} {acc : List UInt8} (h : (wrd s p).toList.isEmpty = false) (ha : ¬ acc = []) : stp s p acc = acc ++ 32 :: (wrd s p).data.toList := by
  unfold stp; rw [if_neg (emp'.1 h), if_neg ha]

theorem isB_below {T e : TypeId} {B b B' : Nat} {bs : List Value} {w w' : World} (h : Lib.IsBuilder T e B b bs w) (hb : Below B' w w') (hB : w.heap.size ≤ B') : Lib.IsBuilder T e B b bs w' := by
  have key : ∀ p, Lib.BuilderAt T e B b p bs w → Lib.BuilderAt T e B b p bs w' := fun p ⟨h1, v, h2, h3, h4⟩ =>
    ⟨h1, v, (hb.block b (Nat.lt_of_lt_of_le (lt_of_block h2) hB)).trans h2, ownsRow_below h3 hb hB, h4⟩
  rcases h with h | h
  · exact .inl (key _ h)
  · exact .inr (key _ h)

theorem isB_lt {T e : TypeId} {B b : Nat} {bs : List Value} {w : World} (h : Lib.IsBuilder T e B b bs w) : b < w.heap.size := by
  rcases h with h | h
  · exact h.lt
  · exact h.lt
end Go.Proofs.Yteanhljabjoabaa
