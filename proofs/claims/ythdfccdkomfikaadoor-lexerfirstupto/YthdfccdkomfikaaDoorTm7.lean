import Derived.Test.YthdfccdkomfikaaDoorTm6
namespace Go.Proofs.YthdfccdkomfikaaDoor
open Go.ChangeShapes Go.WideShapes Go.ChangeAt Go.RowKit Go.Maps Go.WideMaps
set_option linter.unusedVariables false
set_option linter.unusedSimpArgs false

set_option maxRecDepth 1000000 in
set_option maxHeartbeats 4000000 in
/-- the tree is made and kept -/
theorem tree1_any (b : Nat) (pl : Addr) (x6 : Value) (w : World) (hS : Spl w) (hpl : pl.block < w.heap.size) (hbl : b < w.heap.size) (hp : w.cell? pl = some (.pointer (some ⟨b, 0, none⟩))) (h6 : w.cell? ⟨b, 6, none⟩ = some x6) (f6 : w.frozen? ⟨b, 6, none⟩ = false) :
    Calls Tryd.prog 56 #[.pointer (some pl)] w fun e w' => ∃ w1, e = .returned (.tuple #[]) ∧ (∃ A V, A 0 = w.heap.size ∧ Tre w1 w.heap.size (mkT 48) A V) ∧ Below w.heap.size w w1 ∧ w' = w1.setCell ⟨b, 6, none⟩ (.pointer (some ⟨w.heap.size, 0, none⟩)) := by
  have HM : Hid (Calls Tryd.prog 57 #[] w.drew fun e w' => e = .returned (.pointer (some ⟨w.heap.size, 0, none⟩)) ∧ (∃ A V, A 0 = w.heap.size ∧ Tre w' w.heap.size (mkT 48) A V) ∧ Below w.heap.size w w') := by
    have hd : Below w.heap.size w w.drew := (Below.refl _ w).drew
    refine (markTree_any w.drew (hS.below hd)).mono fun e w' h => ?_
    obtain ⟨A, V, rfl, hA, ht, hb⟩ := h
    have hA' : A 0 = w.heap.size := hA
    exact ⟨by unfold ptrT; rw [hA'], ⟨A, V, hA, ht⟩, hd.trans hb⟩
  have HC : Hid (∀ v, Below w.heap.size w v → v.cell? pl = some (.pointer (some ⟨b, 0, none⟩)) ∧ v.cell? ⟨b, 6, none⟩ = some x6 ∧ v.frozen? ⟨b, 6, none⟩ = false ∧ b < v.heap.size ∧ pl.block < v.heap.size) := fun v hv =>
    ⟨(hv.cell hpl).trans hp, (hv.cell (p := ⟨b, 6, none⟩) hbl).trans h6, (World.frozen?_of_block (a := ⟨b, 6, none⟩) (hv.block b hbl)).trans f6, by have := hv.size; omega, by have := hv.size; omega⟩
  clear hS
  go_enter Tryd.func56, Tryd.ntmps56
  go_region_with (go_at_call 57; (with_reducible refine HM.out.mono ?_); rintro e w1 ⟨rfl, ht1, hb1⟩; obtain ⟨q0, q6, g6, qb, qp⟩ := HC.out w1 hb1; have HT1 : Hid (∃ A V, A 0 = w.heap.size ∧ Tre w1 w.heap.size (mkT 48) A V) := ht1; have HB1 : Hid (Below w.heap.size w w1) := hb1; clear ht1 hb1)
  all_goals
    go_wp2
    go_end0
    exact ⟨_, ⟨rfl, HT1.out, HB1.out, rfl⟩⟩
end Go.Proofs.YthdfccdkomfikaaDoor
