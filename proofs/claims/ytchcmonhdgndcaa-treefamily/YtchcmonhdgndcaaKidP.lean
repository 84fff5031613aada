import Derived.Test.YtchcmonhdgndcaaKdk
namespace Go.Proofs.Ytchcmonhdgndcaa
open Go.ChangeShapes Go.WideShapes Go.ChangeAt Go.RowKit
set_option linter.unusedVariables false

/-- the i-th of a list; -1: there is none -/
def at1 (l : List Int) (i : Int) : Int := if 0 ≤ i then (l[i.toNat]?).getD (-1) else -1

theorem at1_no {l : List Int} {i : Int} (h : i < 0 ∨ (l.length : Int) ≤ i) : at1 l i = -1 := by
  unfold at1
  rcases h with h | h
  · rw [if_neg (by omega)]
  · by_cases h0 : 0 ≤ i
    · rw [if_pos h0, List.getElem?_eq_none (by omega)]; rfl
    · rw [if_neg h0]
theorem at1_yes {l : List Int} {i : Nat} {x : Int} (h : l[i]? = some x) : at1 l i = x := by
  unfold at1; rw [if_pos (by omega), Int.toNat_natCast, h]; rfl

set_option maxHeartbeats 400000 in
theorem Kid_any (a : Option Addr) (cap : Nat) (ns : List Nd) (n i : Int) (w : World) (h : LiesA w a ns) (hl : ns.length * 32 ≤ 140737488351232) (hn0 : -9223372036854775808 ≤ n) (hn1 : n ≤ 9223372036854775807) :
    Calls Try.prog 15 #[.agg #[.slice a ns.length cap], .int .i64 n, .int .i64 i] w fun e w' => e = .returned (.int .i64 (at1 ((kid ns n).getD []) i)) ∧ Below w.heap.size w w' := by
  have H : Hid (LiesA w a ns) := h
  clear h
  go_enter Try.func15, Try.ntmps15
  go_wp2_with fail
  refine (Kids_any a cap ns n _ (H.out.below ((Below.refl _ w).alloc (Nat.le_refl _) _)) hl hn0 hn1).mono ?_
  rintro e w3 ⟨v, rfl, hown, hb3⟩
  have HB : Hid (Below w.heap.size w w3) := ((Below.refl _ w).alloc (Nat.le_refl _) _).trans (hb3.mono (by simp))
  obtain ⟨a', c', rfl, hL, hlen, hnil⟩ := own_form hown
  generalize hg : (kid ns n).getD [] = l at *
  have HG : Hid ((kid ns n).getD [] = l) := hg
  clear hown hb3 hnil hlen hg
  by_cases h0 : i < 0
  · have HR : Hid (at1 l i = -1) := at1_no (.inl h0)
    go_wp2
    go_ret
    exact ⟨ret_i64 (by rw [HG.out]; exact HR.out.symm), HB.out⟩
  · obtain ⟨j, rfl⟩ : ∃ j : Nat, i = j := ⟨i.toNat, by omega⟩
    by_cases h1 : j < l.length
    · obtain ⟨x, hx⟩ : ∃ e, l[j]? = some e := ⟨_, List.getElem?_eq_getElem h1⟩
      have HR : Hid (at1 l j = x) := at1_yes hx
      rcases hL with rfl | ⟨b, o, rfl, hL⟩
      · simp at hx
      have c0 := hL.int (Below.refl _ _) hx
      clear hx hL
      have h1' : (j : Int) < (l.length : Int) := by omega
      go_wp2
      go_ret
      exact ⟨ret_i64 (by rw [HG.out]; exact HR.out.symm), HB.out⟩
    · have HR : Hid (at1 l j = -1) := at1_no (.inr (by omega))
      go_wp2
      go_ret
      exact ⟨ret_i64 (by rw [HG.out]; exact HR.out.symm), HB.out⟩
end Go.Proofs.Ytchcmonhdgndcaa
