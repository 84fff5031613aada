import Derived.Test.YtijcfgeafgddkaaDoorDwa
namespace Go.Proofs.YtijcfgeafgddkaaDoor
open Go.ChangeShapes Go.WideShapes Go.ChangeAt Go.RowKit
set_option linter.unusedVariables false

theorem lcp_at {m s : List UInt8} : ∀ {n : Nat}, n ≤ lcp m s → ∀ {a b : UInt8}, m[n]? = some a → s[n]? = some b → (a = b → n + 1 ≤ lcp m s) ∧ (a ≠ b → lcp m s = n) := by
  intro n
  induction n generalizing m s with
  | zero =>
    intro _ a b ha hb
    cases m with
    | nil => cases ha
    | cons c x =>
      cases s with
      | nil => cases hb
      | cons d y =>
        have h1 : c = a := Option.some.inj ha
        have h2 : d = b := Option.some.inj hb
        subst h1 h2
        refine ⟨fun h => by subst h; rw [lcp_yes]; omega, fun h => lcp_no x y h⟩
  | succ n ih =>
    intro hn a b ha hb
    cases m with
    | nil => cases ha
    | cons c x =>
      cases s with
      | nil => cases hb
      | cons d y =>
        by_cases h : c = d
        · subst h
          rw [lcp_yes] at hn ⊢
          obtain ⟨h1, h2⟩ := ih (m := x) (s := y) (by omega) ha hb
          exact ⟨fun h => by have := h1 h; omega, fun h => by rw [h2 h]⟩
        · rw [lcp_no x y h] at hn; omega
end Go.Proofs.YtijcfgeafgddkaaDoor
