import Derived.Test.YtaploloedocgbaaDoorDw
import Derived.Laws.MakeOwn
import Derived.Deep.OwnRows
namespace Go.Proofs.YtaploloedocgbaaDoor
open Go.ChangeShapes Go.WideShapes Go.ChangeAt Go.RowKit
set_option linter.unusedVariables false

theorem flat_set {l : List Int} {p : Nat} {v : Int} : flat (l.set p v) = (flat l).set p (.int .i64 v) := by
  have : ∀ l : List Int, flat l = l.map (fun x => Value.int .i64 x) := fun l => by
    unfold flat
    rw [List.flatMap_def]
    induction l with
    | nil => rfl
    | cons x r ih => simp only [List.map_cons, List.flatten_cons, ih]; rfl
  rw [this, this, List.map_set]

theorem Bx.get {w : World} {g : Nat} {l : List Int} {t : TypeId} (h : Bx w g (flat l).toArray t) {p : Nat} {v : Int} (hv : l[p]? = some v) : w.cell? ⟨g, p, none⟩ = some (.int .i64 v) := by
  rw [h.cell, List.getElem?_toArray]
  have := flat_get l p 0 (by decide)
  rw [hv, show p * Rw.k Int + 0 = p from Nat.mul_one p] at this
  exact this

theorem Bx.put {w : World} {g : Nat} {l : List Int} {t : TypeId} (h : Bx w g (flat l).toArray t) (p : Nat) (v : Int) : Bx (w.setCell ⟨g, p, none⟩ (.int .i64 v)) g (flat (l.set p v)).toArray t := by
  have := h.set p (.int .i64 v)
  rw [List.setIfInBounds_toArray] at this
  rw [flat_set]
  exact this

theorem made_flat (n : Nat) : madeCells #[Value.int .i64 0] n = (flat (List.replicate n (0 : Int))).toArray := by
  have h := toList_madeCells_one (Value.int .i64 0) n
  have h2 : flat (List.replicate n (0 : Int)) = List.replicate n (Value.int .i64 0) := by
    induction n with
    | zero => rfl
    | succ n ih => rw [List.replicate_succ, flat_cons, ih (toList_madeCells_one _ _), List.replicate_succ]; rfl
  rw [h2, ← h]

end Go.Proofs.YtaploloedocgbaaDoor
