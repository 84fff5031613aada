import Derived.Test.YtkfdlccacddbfaaRec
namespace Go.Proofs.Ytkfdlccacddbfaa
open Go.ChangeShapes Go.WideShapes Go.ChangeAt Go.RowKit
set_option linter.unusedVariables false
set_option linter.unusedSimpArgs false

/-- a number of four bytes -/
structure Hn where
  v : Int
instance : Rw Hn := ⟨1, fun e => [.int .i32 e.v], fun _ => rfl, fun e u h => by simp at h; subst h; rfl, by decide⟩
/-- one block alone may have changed -/
structure One (g : Nat) (w w' : World) : Prop where
  keep : ∀ k, k < w.heap.size → k ≠ g → w'.heap[k]? = w.heap[k]?
  bel : Below g w w'
theorem One.refl (g : Nat) (w : World) : One g w w := ⟨fun _ _ _ => rfl, Below.refl _ _⟩
theorem One.trans {g : Nat} {w v u : World} (h : One g w v) (k : One g v u) : One g w u := ⟨fun i hi hg => (k.keep i (Nat.lt_of_lt_of_le hi h.bel.size) hg).trans (h.keep i hi hg), h.bel.trans k.bel⟩
theorem One.set (g i : Nat) (w : World) (x : Value) : One g w (w.setCell ⟨g, i, none⟩ x) := ⟨fun k _ hk => heap_setCell_other _ _ _ _ hk, (Below.refl _ _).setCell (p := ⟨g, i, none⟩) (Nat.le_refl _) _⟩
theorem One.of {g : Nat} {w w' : World} (h : Below w.heap.size w w') (hg : g ≤ w.heap.size) : One g w w' := ⟨fun k hk _ => h.block k hk, h.mono hg⟩
/-- a row of the call's own, in the block g -/
def Row (B e g n c : Nat) (w : World) (xs : List Hn) : Prop := w.ownsRow B e 1 (.slice (some ⟨g, 0, none⟩) n c) n (flat xs)
theorem Row.len {B e g n c : Nat} {w : World} {xs : List Hn} (h : Row B e g n c w xs) : xs.length = n := by
  have := h.1
  rw [flat_length] at this
  exact Nat.eq_of_mul_eq_mul_right (by decide) this
theorem flat_hn (xs : List Hn) (i : Nat) : (flat xs)[i]? = (xs[i]?).map fun e => Value.int .i32 e.v := by
  have := flat_get xs i 0 (by decide)
  rw [show i * Rw.k Hn + 0 = i by show i * 1 + 0 = i; omega] at this
  rw [this]
  cases xs[i]? <;> rfl
theorem flat_hn_set (xs : List Hn) (i : Nat) (y : Hn) : (flat xs).set i (.int .i32 y.v) = flat (xs.set i y) := by
  apply List.ext_getElem?
  intro j
  rw [flat_hn, List.getElem?_set, List.getElem?_set, flat_hn, flat_length, show xs.length * Rw.k Hn = xs.length from Nat.mul_one _]
  by_cases h : i = j
  · subst h
    by_cases h2 : i < xs.length
    · rw [if_pos rfl, if_pos rfl, if_pos h2, if_pos h2]; rfl
    · rw [if_pos rfl, if_pos rfl, if_neg h2, if_neg h2]; rfl
  · rw [if_neg h, if_neg h]
theorem Row.get {B e g n c : Nat} {w : World} {xs : List Hn} (h : Row B e g n c w xs) {i : Nat} {x : Hn} (hx : xs[i]? = some x) : w.cell? ⟨g, i, none⟩ = some (.int .i32 x.v) := by
  have := h.cells rfl i (.int .i32 x.v) (by rw [flat_hn, hx]; rfl)
  rwa [addr_add, Nat.zero_add] at this
theorem Row.set {B e g n c : Nat} {w : World} {xs : List Hn} (h : Row B e g n c w xs) (i : Nat) (y : Hn) : Row B e g n c (w.setCell ⟨g, i, none⟩ (.int .i32 y.v)) (xs.set i y) := by
  have := (World.ownsRow.stored h i (.int .i32 y.v)).1
  unfold Row
  rw [← flat_hn_set]
  exact this
theorem Row.free {B e g n c : Nat} {w : World} {xs : List Hn} (h : Row B e g n c w xs) (i : Nat) : w.frozen? ⟨g, i, none⟩ = false := World.ownsRow.frozenAt h i
theorem Row.below {B e g n c : Nat} {w w' : World} {xs : List Hn} (h : Row B e g n c w xs) (hb : Below w.heap.size w w') : Row B e g n c w' xs := ownsRow_below h hb (Nat.le_refl _)
theorem Row.lt {B e g n c : Nat} {w : World} {xs : List Hn} (h : Row B e g n c w xs) : g < w.heap.size := (World.ownsRow.lt h g rfl).2
/-- two things change their places -/
def swp (xs : List Hn) (i j : Nat) (x y : Hn) : List Hn := (xs.set i y).set j x
theorem swp_perm {xs : List Hn} {i j : Nat} {x y : Hn} (hi : xs[i]? = some x) (hj : xs[j]? = some y) : (swp xs i j x y).Perm xs := by
  obtain ⟨hil, hix⟩ := List.getElem?_eq_some_iff.1 hi
  obtain ⟨hjl, hjy⟩ := List.getElem?_eq_some_iff.1 hj
  subst hix
  subst hjy
  exact List.set_set_perm hil hjl
end Go.Proofs.Ytkfdlccacddbfaa
