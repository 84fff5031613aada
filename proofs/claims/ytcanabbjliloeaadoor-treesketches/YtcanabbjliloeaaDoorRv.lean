import Derived.Test.YtcanabbjliloeaaDoorRec
namespace Go.Proofs.YtcanabbjliloeaaDoor
open Go.ChangeShapes Go.WideShapes Go.ChangeAt Go.RowKit
set_option linter.unusedVariables false

/-- the open ends as they lie: the innermost last -/
def rv (st : List Nat) : List Int := st.reverse.map fun (t : Nat) => (t : Int)
theorem rv_cons (t : Nat) (r : List Nat) : rv (t :: r) = rv r ++ [(t : Int)] := by simp [rv]
theorem rv_len (st : List Nat) : (rv st).length = st.length := by simp [rv]
theorem flat_int (l : List Int) : flat l = l.map fun x => Value.int .i64 x := by
  induction l with
  | nil => rfl
  | cons x r ih => rw [flat_cons, ih]; rfl
theorem own_less {w : World} {base e n cap : Nat} {a : Option Addr} {xs : List Value} {x : Value} (h : w.ownsRow base e 1 (.slice a (n + 1) cap) (n + 1) (xs ++ [x])) : w.ownsRow base e 1 (.slice a n cap) n xs := by
  have hl : xs.length = n := by have := h.1; simp at this; omega
  refine ⟨by omega, ?_⟩
  rcases h.2 with ⟨_, h0⟩ | ⟨g, cap', cur, hv, hg, hh, h1, h2, h3, h4⟩
  · omega
  · cases hv
    rw [Nat.mul_one] at h4
    refine .inr ⟨g, cap, cur, rfl, hg, hh, by omega, h2, h3, ?_⟩
    have h5 := congrArg (List.take n) h4
    rw [List.take_take, Nat.min_eq_left (show n ≤ n + 1 by omega), List.take_append_of_le_length (by omega), List.take_of_length_le (show xs.length ≤ n by omega)] at h5
    rw [Nat.mul_one]
    exact h5
theorem own_cap {w : World} {base e n cap : Nat} {a : Option Addr} {xs : List Value} (h : w.ownsRow base e 1 (.slice a n cap) n xs) : n ≤ cap := by
  rcases h.2 with ⟨h1, h0⟩ | ⟨g, cap', cur, hv, hg, hh, h1, h2, h3, h4⟩
  · omega
  · cases hv; exact h1
theorem own_at {w : World} {base e n cap : Nat} {a : Option Addr} {xs : List Value} {x : Value} (h : w.ownsRow base e 1 (.slice a (n + 1) cap) (n + 1) (xs ++ [x])) : ∃ g, a = some ⟨g, 0, none⟩ ∧ w.cell? ⟨g, n, none⟩ = some x := by
  have hl : xs.length = n := by have := h.1; simp at this; omega
  rcases h.2 with ⟨_, h0⟩ | ⟨g, cap', cur, hv, hg, hh, h1, h2, h3, h4⟩
  · omega
  · cases hv
    refine ⟨g, rfl, ?_⟩
    unfold World.cell?
    simp only [hh]
    have := congrArg (·[n]?) h4
    simp only [Nat.mul_one, List.getElem?_take_of_lt (show n < n + 1 by omega)] at this
    rw [List.getElem?_append_right (by omega), hl, Nat.sub_self] at this
    simpa using this

theorem own_grw {e e' : TypeId} {B s n : Nat} {v : Value} {xs : List Value} {w w' : World} {row : Option Nat} (h : w.ownsRow B e s v n xs) (hg : w.grownBy w' row) (hr : ∀ g, row = some g → ∃ c fz, w.heap[g]? = some (.cells c e' fz)) (h1 : e' ≠ e) : w'.ownsRow B e s v n xs := by
  refine ⟨h.1, ?_⟩
  rcases h.2 with k | ⟨g, cap, cur, hv, hgb, hh, r⟩
  · exact .inl k
  · refine .inr ⟨g, cap, cur, hv, hgb, ?_, r⟩
    rw [hg.block g (lt_of_block hh) (fun hrow => ?_)]
    · exact hh
    · obtain ⟨c', fz', h'⟩ := hr g hrow.symm
      rw [hh] at h'
      cases h'
      exact h1 rfl
/-- the row's block, whatever its elements' size -/
theorem row_kindA {w : World} {B s : Nat} {e : TypeId} {v : Value} {n : Nat} {xs : List Value} (h : w.ownsRow B e s v n xs) : ∀ g, v.ownBlock = some g → ∃ c fz, w.heap[g]? = some (.cells c e fz) := by
  intro g hg
  rcases h.2 with ⟨rfl, _⟩ | ⟨g', cap, cur, rfl, _, hh, _⟩
  · cases hg
  · cases hg
    exact ⟨_, _, hh⟩
/-- two rows of other elements lie in other blocks -/
theorem own_other {e e' : TypeId} {B B' s s' n n' : Nat} {v v' : Value} {xs xs' : List Value} {w : World} (h : w.ownsRow B e s v n xs) (h' : w.ownsRow B' e' s' v' n' xs') (hne : e' ≠ e) {g : Nat} (hg : v'.ownBlock = some g) : v.ownBlock ≠ some g := by
  intro h1
  obtain ⟨c, fz, hh⟩ := row_kindA h g h1
  obtain ⟨c', fz', hh'⟩ := row_kindA h' g hg
  rw [hh] at hh'
  cases hh'
  exact hne rfl
end Go.Proofs.YtcanabbjliloeaaDoor
