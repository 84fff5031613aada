import Derived.Test.YtphejjghgalkpaaDoorLxs
namespace Go.Proofs.YtphejjghgalkpaaDoor
open Go.ChangeShapes Go.WideShapes Go.ChangeAt Go.RowKit
set_option linter.unusedVariables false
set_option linter.unusedSimpArgs false

/-- a text, by its bytes -/
def sq (l : List UInt8) : ByteArray := ⟨l.toArray⟩
theorem sq_size (l : List UInt8) : (sq l).size = l.length := by show l.toArray.size = _; simp
theorem bt_at {l : List UInt8} {i : Nat} {c : UInt8} (h : l[i]? = some c) : bt (sq l) i = c.toNat := by
  have hi := (List.getElem?_eq_some_iff.1 h)
  have hs : i < (sq l).size := by rw [sq_size]; exact hi.1
  rw [bt_in hs]
  have : (sq l)[i]'hs = c := by rw [← hi.2]; rfl
  rw [this]
theorem bt_mid (P R : List UInt8) (c : UInt8) (i : Nat) (C : List UInt8) (h : C[i]? = some c) : bt (sq (P ++ C ++ R)) (P.length + i) = c.toNat := by
  apply bt_at
  rw [List.append_assoc, List.getElem?_append_right (by omega), Nat.add_sub_cancel_left, List.getElem?_append_left (List.getElem?_eq_some_iff.1 h).1]
  exact h
theorem sq_len (P C R : List UInt8) : (sq (P ++ C ++ R)).size = P.length + C.length + R.length := by rw [sq_size]; simp [Nat.add_assoc]
end Go.Proofs.YtphejjghgalkpaaDoor
