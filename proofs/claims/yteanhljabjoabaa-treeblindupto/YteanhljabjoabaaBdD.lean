import Derived.Test.YteanhljabjoabaaBdP
import Derived.Test.YteanhljabjoabaaBxI
import Derived.Test.YteanhljabjoabaaInfT
import Derived.Test.YteanhljabjoabaaApA
import Derived.Test.YteanhljabjoabaaChP
import Derived.Test.YteanhljabjoabaaVl5
import Derived.Test.YteanhljabjoabaaCpT
namespace Go.Proofs.Yteanhljabjoabaa
open Go.ChangeShapes Go.WideShapes Go.ChangeAt Go.RowKit
set_option linter.unusedVariables false

/-- the places of k pieces -/
def Pls (c : Nat → Bool) (L k : Nat) (P : List Int) : Prop := P.length = L + 1 ∧ ∀ j, j < k → P[j]? = some ((pl c j : Nat) : Int)
theorem Pls.start (c : Nat → Bool) (L : Nat) : Pls c L 0 (List.replicate (L + 1) 0) := ⟨by simp, fun j h => by omega⟩
theorem Pls.step {c : Nat → Bool} {L k : Nat} {P : List Int} (h : Pls c L k P) (hk : k < L) : Pls c L (k + 1) (P.set k ((pl c k : Nat) : Int)) :=
  ⟨by rw [List.length_set]; exact h.1, fun j hj => by
    rw [List.getElem?_set]
    by_cases e : k = j
    · subst e; rw [if_pos rfl, if_pos (by rw [h.1]; omega)]
    · rw [if_neg e, h.2 j (by omega)]⟩

theorem Bx.grown {w w' : World} {g : Nat} {vs : Array Value} {t : TypeId} {row : Option Nat} (h : Bx w g vs t) (hg : w.grownBy w' row) (hne : row ≠ some g) : Bx w' g vs t :=
  (hg.block g h.lt (fun e => hne e.symm)).trans h

noncomputable def bdRest : Code := match Try.f6.body with | some (.seq _ (.seq _ (.seq _ (.seq _ (.seq _ c))))) => c | _ => .skip
end Go.Proofs.Yteanhljabjoabaa
