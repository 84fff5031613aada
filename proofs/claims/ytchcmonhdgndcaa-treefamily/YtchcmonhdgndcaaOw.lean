import Derived.Test.YtchcmonhdgndcaaSpP
import Derived.Test.YtchcmonhdgndcaaKdk
namespace Go.Proofs.Ytchcmonhdgndcaa
open Go.ChangeShapes Go.WideShapes Go.ChangeAt Go.RowKit
set_option linter.unusedVariables false

/-- does a node's run hold a piece? -/
def hld (ns : List Nd) (a : Int) (k : Int) : Bool := match ns[k.toNat]? with | some x => decide (x.f ≤ a) && decide (a < x.e) | none => false
/-- .. that of one of some nodes? -/
def cvr (ns : List Nd) (kl : List Int) (a : Int) : Bool := kl.any (hld ns a)
/-- the tokens of a node that are none of its kids' -/
def owl (ts : List Tk) (ns : List Nd) (n : Int) : List Int :=
  if 0 ≤ n then (match ns[n.toNat]? with | none => [] | some x => (tkl ts (spB x ts.length) (spE x ts.length - spB x ts.length)).filter (fun a => !cvr ns ((kid ns n).getD []) a)) else []

theorem owl_neg {ts : List Tk} {ns : List Nd} {n : Int} (h : n < 0) : owl ts ns n = [] := by unfold owl; rw [if_neg (by omega)]
theorem owl_big {ts : List Tk} {ns : List Nd} {n : Nat} (h : ns.length ≤ n) : owl ts ns n = [] := by unfold owl; rw [if_pos (by omega), Int.toNat_natCast, List.getElem?_eq_none h]
theorem owl_at {ts : List Tk} {ns : List Nd} {n : Nat} {x : Nd} (hx : ns[n]? = some x) :
    owl ts ns n = (tkl ts (spB x ts.length) (spE x ts.length - spB x ts.length)).filter (fun a => !cvr ns ((kid ns n).getD []) a) := by unfold owl; rw [if_pos (by omega), Int.toNat_natCast, hx]

theorem cvr_step {ns : List Nd} {kl : List Int} {a : Int} {j : Nat} {y : Int} (hy : kl[j]? = some y) : cvr ns (kl.take (j + 1)) a = (cvr ns (kl.take j) a || hld ns a y) := by
  unfold cvr; rw [List.take_add_one, hy]; simp

theorem filter_step {α : Type} {xs : List α} {f : α → Bool} {k : Nat} {y : α} (hy : xs[k]? = some y) : (xs.take (k + 1)).filter f = (xs.take k).filter f ++ (if f y then [y] else []) := by
  rw [List.take_add_one, hy, List.filter_append]
  cases h : f y <;> simp [h]
end Go.Proofs.Ytchcmonhdgndcaa
