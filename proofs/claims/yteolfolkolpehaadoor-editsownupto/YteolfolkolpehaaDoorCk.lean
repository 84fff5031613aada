import Derived.Test.YteolfolkolpehaaDoorAp
namespace Go.Proofs.YteolfolkolpehaaDoor
open Go.ChangeShapes Go.WideShapes Go.ChangeAt Go.RowKit
set_option linter.unusedVariables false

theorem chk_wider {size size' L : Int} {l : List Ed} (h : chk size L l = 0) (hs : size ≤ size') : chk size' L l = 0 := by
  induction l generalizing L with
  | nil => rfl
  | cons e r ih =>
    obtain ⟨h1, h2, h3, h4, h5⟩ := chk_cons h
    rw [chk, if_pos ⟨h1, h2, by omega⟩, if_neg (by omega)]
    exact ih h5

theorem chk_later {size L : Int} {e : Ed} {r : List Ed} (h : chk size L (e :: r) = 0) : ∀ z ∈ r, e.t < z.f := by
  induction r generalizing e L with
  | nil => simp
  | cons y t ih =>
    obtain ⟨h1, h2, h3, h4, h5⟩ := chk_cons h
    obtain ⟨k1, k2, k3, k4, k5⟩ := chk_cons h5
    intro z hz
    rcases List.mem_cons.1 hz with rfl | hz
    · omega
    · have := ih h5 z hz; omega

theorem chk_first {size L : Int} {l : List Ed} (h : chk size L l = 0) : ∀ z ∈ l, L ≤ z.f := by
  cases l with
  | nil => simp
  | cons e r =>
    obtain ⟨h1, h2, h3, h4, h5⟩ := chk_cons h
    intro z hz
    rcases List.mem_cons.1 hz with rfl | hz
    · exact h4
    · have := chk_later h z hz; omega

theorem chk_up {size L L' : Int} {l : List Ed} (h : chk size L l = 0) (hL : ∀ e, l[0]? = some e → L' ≤ e.f) : chk size L' l = 0 := by
  cases l with
  | nil => rfl
  | cons e r =>
    obtain ⟨h1, h2, h3, h4, h5⟩ := chk_cons h
    have := hL e rfl
    rw [chk, if_pos ⟨h1, h2, h3⟩, if_neg (by omega)]
    exact h5

theorem chk_dropped {size L : Int} {l : List Ed} (h : chk size L l = 0) (k : Nat) : ∃ L', L ≤ L' ∧ chk size L' (l.drop k) = 0 := by
  induction k generalizing l L with
  | zero => exact ⟨L, Int.le_refl _, h⟩
  | succ k ih =>
    cases l with
    | nil => exact ⟨L, Int.le_refl _, rfl⟩
    | cons e r =>
      obtain ⟨h1, h2, h3, h4, h5⟩ := chk_cons h
      obtain ⟨L', h6, h7⟩ := ih h5
      exact ⟨L', by omega, h7⟩
end Go.Proofs.YteolfolkolpehaaDoor
