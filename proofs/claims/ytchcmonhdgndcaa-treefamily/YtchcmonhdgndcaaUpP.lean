import Derived.Test.YtchcmonhdgndcaaKd1
namespace Go.Proofs.Ytchcmonhdgndcaa
open Go.ChangeShapes Go.WideShapes Go.ChangeAt Go.RowKit
set_option linter.unusedVariables false

/-- the kids of a node, or none -/
def kdl (ns : List Nd) (n : Int) : List Int := (kid ns n).getD []
/-- is n a kid of the node p, and does its run reach it? -/
def upB (ns : List Nd) (n p : Nat) (x : Nd) : Bool := decide ((n : Int) - (p : Int) < x.s) && (kdl ns p).contains (n : Int)
/-- the last of the first p nodes whose kid n is -/
def upF (ns : List Nd) (n : Nat) : Nat → Int
  | 0 => -1
  | p + 1 => match ns[p]? with | some x => if upB ns n p x then (p : Int) else upF ns n p | none => upF ns n p
theorem upF_yes {ns : List Nd} {n p : Nat} {x : Nd} (hx : ns[p]? = some x) (h : upB ns n p x = true) : upF ns n (p + 1) = p := by rw [upF, hx]; simp [h]
theorem upF_no {ns : List Nd} {n p : Nat} {x : Nd} (hx : ns[p]? = some x) (h : upB ns n p x = false) : upF ns n (p + 1) = upF ns n p := by rw [upF, hx]; simp [h]
theorem kdl_has {l : List Int} {t : Nat} {v : Int} (h : l[t]? = some v) : l.contains v = true := List.contains_iff_mem.2 (List.mem_of_getElem? h)
theorem kdl_hasnt {l : List Int} {v : Int} (h : ∀ t : Nat, t < l.length → l[t]? ≠ some v) : l.contains v = false := by
  rw [Bool.eq_false_iff]
  intro h'
  obtain ⟨t, ht⟩ := List.getElem?_of_mem (List.contains_iff_mem.1 h')
  exact h t (List.getElem?_eq_some_iff.1 ht).1 ht
theorem own_max {w : World} {base e size n : Nat} {v : Value} {xs : List Value} (h : w.ownsRow base e size v n xs) : n ≤ maxLen := by
  rcases h.2 with ⟨_, h0⟩ | ⟨g, cap, cur, _, _, _, h1, h2, _⟩
  · rw [h0]; exact Nat.zero_le _
  · omega
/-- whose kid n is -/
def upN (ns : List Nd) (n : Int) : Int := if 0 ≤ n ∧ n < (ns.length : Int) then upF ns n.toNat n.toNat else -1

end Go.Proofs.Ytchcmonhdgndcaa
