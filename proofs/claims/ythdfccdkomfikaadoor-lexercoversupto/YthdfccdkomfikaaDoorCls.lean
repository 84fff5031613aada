import Derived.Test.YthdfccdkomfikaaDoorRec
namespace Go.Proofs.YthdfccdkomfikaaDoor
open Go.ChangeShapes Go.WideShapes Go.ChangeAt Go.RowKit
set_option linter.unusedVariables false

/-- A region that draws its order, over a class of worlds: every operation yields the same in each of them and stays among them (a callee may make memory of its own). -/
theorem region_class {P : Program} {X : Type} (F : X → World) {id : Nat} {Q : Exit → Act → World → Prop} {a : Act} {w : World} {l : List Oper} (hm : P.follows .mixedOrders = true) (hB : Region.lexB .any l.toArray = true)
    (hx : ∃ x, F x = w.drew) (h : wpQuiet P l.toArray (fun w' => ∃ n, w' = F n) (fun a' => ∀ w', (∃ n, w' = F n) → Q .normal a' w') l a) : (Code.region id l.toArray true).wp P Q a w :=
  wp_region_quiet (C := fun w' => ∃ n, w' = F n) hm hB (by obtain ⟨x, hx⟩ := hx; exact ⟨x, hx.symm⟩) (by simpa using h)

/-- the worlds of which D holds, as a row of worlds -/
theorem class_of (D : World → Prop) {w : World} (hw : D w) : ∃ (X : Type) (F : X → World), Nonempty X ∧ (∀ x, D (F x)) ∧ ∀ v, D v → ∃ x, F x = v :=
  ⟨{v : World // D v}, Subtype.val, ⟨⟨w, hw⟩⟩, fun x => x.2, fun v h => ⟨⟨v, h⟩, rfl⟩⟩
end Go.Proofs.YthdfccdkomfikaaDoor
