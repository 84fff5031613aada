import Derived.Test.YteolfolkolpehaaDoorBs
import Derived.Deep.DeepCutAuto
namespace Go.Proofs.YteolfolkolpehaaDoor
open Go.ChangeShapes Go.WideShapes Go.ChangeAt Go.RowKit
set_option linter.unusedVariables false

def Bx (w : World) (g : Nat) (vs : Array Value) (t : TypeId) : Prop := w.heap[g]? = some (.cells vs t (0, 0))
theorem Bx.lt {w : World} {g : Nat} {vs : Array Value} {t : TypeId} (h : Bx w g vs t) : g < w.heap.size := lt_of_block h
theorem Bx.cell {w : World} {g : Nat} {vs : Array Value} {t : TypeId} (h : Bx w g vs t) (i : Nat) : w.cell? ⟨g, i, none⟩ = vs[i]? := by simp [World.cell?, show w.heap[g]? = _ from h]
theorem Bx.one {w : World} {g : Nat} {x : Value} {t : TypeId} (h : Bx w g #[x] t) : w.cell? ⟨g, 0, none⟩ = some x := h.cell 0
theorem Bx.t0 {w : World} {g : Nat} {x y z : Value} {t : TypeId} (h : Bx w g #[x, y, z] t) : w.cell? ⟨g, 0, none⟩ = some x := h.cell 0
theorem Bx.t1 {w : World} {g : Nat} {x y z : Value} {t : TypeId} (h : Bx w g #[x, y, z] t) : w.cell? ⟨g, 1, none⟩ = some y := h.cell 1
theorem Bx.t2 {w : World} {g : Nat} {x y z : Value} {t : TypeId} (h : Bx w g #[x, y, z] t) : w.cell? ⟨g, 2, none⟩ = some z := h.cell 2
theorem Bx.free {w : World} {g : Nat} {vs : Array Value} {t : TypeId} (h : Bx w g vs t) (i : Nat) : w.frozen? ⟨g, i, none⟩ = false := by simp [World.frozen?, show w.heap[g]? = _ from h]
theorem Bx.drewN {w : World} {g : Nat} {vs : Array Value} {t : TypeId} (h : Bx w g vs t) (n : Nat) : Bx (w.drewN n) g vs t := h
theorem Bx.drew {w : World} {g : Nat} {vs : Array Value} {t : TypeId} (h : Bx w g vs t) : Bx w.drew g vs t := h
theorem Bx.below {B : Nat} {w w' : World} {g : Nat} {vs : Array Value} {t : TypeId} (h : Bx w g vs t) (hb : Below B w w') (hg : g < B) : Bx w' g vs t := (hb.block g hg).trans h
theorem Bx.alloc {w : World} {g : Nat} {vs : Array Value} {t : TypeId} (h : Bx w g vs t) (o : Obj) : Bx (w.alloc o) g vs t := (Below.heap_alloc w o g h.lt).trans h
theorem Bx.new (w : World) (vs : Array Value) (t : TypeId) : Bx (w.alloc (.cells vs t)) w.heap.size vs t := heap_alloc_new w _
theorem Bx.other {w : World} {g : Nat} {vs : Array Value} {t : TypeId} (h : Bx w g vs t) (a : Addr) (hne : g ≠ a.block) (v : Value) : Bx (w.setCell a v) g vs t := (heap_setCell_other w a g v hne).trans h
theorem Bx.set {w : World} {g : Nat} {vs : Array Value} {t : TypeId} (h : Bx w g vs t) (i : Nat) (v : Value) : Bx (w.setCell ⟨g, i, none⟩ v) g (vs.setIfInBounds i v) t := by
  have := heap_setCell_same w g i _ _ v h
  simpa [Bx] using this
theorem bx1 (w : World) (v1 : Array Value) (t1 : TypeId) : ∃ w2, w.alloc (.cells v1 t1) = w2 ∧ Below w.heap.size w w2 ∧ w2.heap.size = w.heap.size + 1 ∧ Bx w2 w.heap.size v1 t1 :=
  ⟨_, rfl, (Below.refl _ _).alloc (Nat.le_refl _) _, by simp, Bx.new _ _ _⟩

theorem bx2 (w : World) (v1 v2 : Array Value) (t1 t2 : TypeId) : ∃ w2, (w.alloc (.cells v1 t1)).alloc (.cells v2 t2) = w2 ∧ Below w.heap.size w w2 ∧ w2.heap.size = w.heap.size + 2 ∧ Bx w2 w.heap.size v1 t1 ∧ Bx w2 (w.heap.size + 1) v2 t2 := by
  refine ⟨_, rfl, ((Below.refl _ _).alloc (Nat.le_refl _) _).alloc (by simp) _, by simp, (Bx.new _ _ _).alloc _, ?_⟩
  have := Bx.new (w.alloc (.cells v1 t1)) v2 t2
  simpa using this

/-- A region that draws its order, over a class of worlds: every operation yields the same in each of them and stays among them (a callee may make memory of its own). -/
theorem region_class {P : Program} {X : Type} (F : X → World) {id : Nat} {Q : Exit → Act → World → Prop} {a : Act} {w : World} {l : List Oper} (hm : P.follows .mixedOrders = true) (hB : Region.lexB .any l.toArray = true)
    (hx : ∃ x, F x = w.drew) (h : wpQuiet P l.toArray (fun w' => ∃ n, w' = F n) (fun a' => ∀ w', (∃ n, w' = F n) → Q .normal a' w') l a) : (Code.region id l.toArray true).wp P Q a w :=
  wp_region_quiet (C := fun w' => ∃ n, w' = F n) hm hB (by obtain ⟨x, hx⟩ := hx; exact ⟨x, hx.symm⟩) (by simpa using h)

/-- the worlds of which D holds, as a row of worlds -/
theorem class_of (D : World → Prop) {w : World} (hw : D w) : ∃ (X : Type) (F : X → World), Nonempty X ∧ (∀ x, D (F x)) ∧ ∀ v, D v → ∃ x, F x = v :=
  ⟨{v : World // D v}, Subtype.val, ⟨⟨w, hw⟩⟩, fun x => x.2, fun v h => ⟨⟨v, h⟩, rfl⟩⟩
end Go.Proofs.YteolfolkolpehaaDoor
