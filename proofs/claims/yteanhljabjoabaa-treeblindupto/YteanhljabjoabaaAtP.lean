import Derived.Test.YteanhljabjoabaaRec
import Derived.Test.YteanhljabjoabaaCls
import Derived.Test.YteanhljabjoabaaInf
import Derived.Deep.RegionHeld3
import Derived.Deep.AppendLies
import Derived.Deep.DrawnRows
import Derived.Deep.DeepCutAuto
namespace Go.Proofs.Yteanhljabjoabaa
open Go.ChangeShapes Go.WideShapes Go.ChangeAt Go.RowKit
set_option linter.unusedVariables false

/-- does a node's run hold an offset? -/
def atB (ts : List Tk) (off : Int) (x : Nd) : Bool :=
  if 0 ≤ x.f ∧ x.f < x.e ∧ x.e ≤ (ts.length : Int) then (match ts[x.f.toNat]?, ts[(x.e - 1).toNat]? with | some p, some q => decide (p.f ≤ off) && decide (off < q.t) | _, _ => false) else false
/-- the last of the first n nodes that does -/
def atF (ts : List Tk) (ns : List Nd) (off : Int) : Nat → Int
  | 0 => -1
  | n + 1 => match ns[n]? with | some x => if atB ts off x then (n : Int) else atF ts ns off n | none => atF ts ns off n
theorem atF_yes {ts : List Tk} {ns : List Nd} {off : Int} {n : Nat} {x : Nd} (hx : ns[n]? = some x) (h : atB ts off x = true) : atF ts ns off (n + 1) = n := by rw [atF, hx]; simp [h]
theorem atF_no {ts : List Tk} {ns : List Nd} {off : Int} {n : Nat} {x : Nd} (hx : ns[n]? = some x) (h : atB ts off x = false) : atF ts ns off (n + 1) = atF ts ns off n := by rw [atF, hx]; simp [h]
theorem atB_out {ts : List Tk} {off : Int} {x : Nd} (h : ¬ (0 ≤ x.f ∧ x.f < x.e ∧ x.e ≤ (ts.length : Int))) : atB ts off x = false := by unfold atB; rw [if_neg h]
theorem atB_in {ts : List Tk} {off : Int} {x : Nd} {m n : Nat} {p q : Tk} (h : x.f = (m : Int)) (h2 : x.e = (n : Int) + 1) (hmn : m ≤ n) (hn : n < ts.length) (hp : ts[m]? = some p) (hq : ts[n]? = some q) : atB ts off x = (decide (p.f ≤ off) && decide (off < q.t)) := by
  unfold atB
  rw [if_pos (by omega), h, h2, Int.toNat_natCast, show ((n : Int) + 1 - 1).toNat = n by omega, hp, hq]

end Go.Proofs.Yteanhljabjoabaa
