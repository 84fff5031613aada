import Derived.Test.YtgijcbipnjmhgabGreatInfT
import Derived.Sort.LotA
import Derived.Sort.LotB
import Derived.Sort.LotC
import Derived.Sort.LotD2
namespace Go.Proofs.YtgijcbipnjmhgabGreat
open Go.ChangeShapes Go.WideShapes Go.ChangeAt Go.RowKit
set_option linter.unusedVariables false
set_option linter.unusedSimpArgs false

/-- a row's numbers, as the plain sort has them -/
def arr (xs : List Hn) : Array Int := (xs.map Hn.v).toArray
abbrev ltI : Int → Int → Bool := Go.Sort.ltInt
theorem arr_size (xs : List Hn) : (arr xs).size = xs.length := by simp [arr]
theorem arr_get {xs : List Hn} {i : Nat} {x : Hn} (h : xs[i]? = some x) : (arr xs)[i]! = x.v := by
  have hl := (List.getElem?_eq_some_iff.1 h)
  obtain ⟨h1, h2⟩ := hl
  have h3 : i < (arr xs).size := by rw [arr_size]; exact h1
  rw [getElem!_pos (arr xs) i h3]
  simp [arr, h2]
theorem arr_swp {xs : List Hn} {i j : Nat} {x y : Hn} (hi : xs[i]? = some x) (hj : xs[j]? = some y) : arr (swp xs i j x y) = Go.Sort.swp (arr xs) i j := by
  unfold Go.Sort.swp
  rw [arr_get hi, arr_get hj]
  apply Array.ext'
  unfold swp arr
  simp [List.map_set]
theorem ltI_of {x y : Int} (h : x < y) : ltI x y = true := by unfold ltI Go.Sort.ltInt; exact decide_eq_true h
theorem ltI_not {x y : Int} (h : ¬ x < y) : ltI x y = false := by unfold ltI Go.Sort.ltInt; exact decide_eq_false h
theorem arr_perm {xs ys : List Hn} (h : Go.Sort.PermIn 0 xs.length (arr xs) (arr ys)) : ys.Perm xs := by
  obtain ⟨h1, -, h3⟩ := h
  rw [arr_size, arr_size] at h1
  have e1 : ((arr ys).extract 0 xs.length).toList = ys.map Hn.v := by
    rw [← h1, ← arr_size ys]; simp [arr]; exact List.take_of_length_le (by simp)
  have e2 : ((arr xs).extract 0 xs.length).toList = xs.map Hn.v := by
    rw [← arr_size xs]; simp [arr]; exact List.take_of_length_le (by simp)
  rw [e1, e2] at h3
  have h4 := h3.map Hn.mk
  rw [List.map_map, List.map_map] at h4
  have e3 : (Hn.mk ∘ Hn.v) = id := by funext x; rfl
  rw [e3, List.map_id, List.map_id] at h4
  exact h4
theorem ins_open {a b i : Nat} {d : Array Int} (h : i < b) : Go.Sort.insOuter ltI a b i d = Go.Sort.insOuter ltI a b (i + 1) (Go.Sort.insInner ltI a i d) := by rw [Go.Sort.insOuter, if_pos h]
theorem ins_done {a b i : Nat} {d : Array Int} (h : ¬ i < b) : Go.Sort.insOuter ltI a b i d = d := by rw [Go.Sort.insOuter, if_neg h]
theorem ins_on {a j : Nat} {zs : List Hn} {x y : Hn} (hx : zs[j]? = some x) (hy : zs[j - 1]? = some y) (ha : a < j) (h : x.v < y.v) : Go.Sort.insInner ltI a j (arr zs) = Go.Sort.insInner ltI a (j - 1) (arr (swp zs j (j - 1) x y)) := by
  obtain ⟨j, rfl⟩ : ∃ k, j = k + 1 := ⟨j - 1, by omega⟩
  simp only [Nat.add_sub_cancel] at hy ⊢
  rw [arr_swp hx hy, Go.Sort.insInner, arr_get hx, arr_get hy, ltI_of h]
  simp [show a < j + 1 from ha]
theorem ins_off {a j : Nat} {zs : List Hn} {x y : Hn} (hx : zs[j]? = some x) (hy : zs[j - 1]? = some y) (h : ¬ x.v < y.v) : Go.Sort.insInner ltI a j (arr zs) = arr zs := by
  cases j with
  | zero => rfl
  | succ j =>
    simp only [Nat.add_sub_cancel] at hy
    rw [Go.Sort.insInner, arr_get hx, arr_get hy, ltI_not h]
    simp
theorem ins_low {a j : Nat} {d : Array Int} (h : ¬ a < j) : Go.Sort.insInner ltI a j d = d := by
  cases j with
  | zero => rfl
  | succ j => rw [Go.Sort.insInner]; simp [h]
end Go.Proofs.YtgijcbipnjmhgabGreat
