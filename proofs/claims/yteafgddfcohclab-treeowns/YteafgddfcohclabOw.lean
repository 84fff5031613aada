import Derived.Test.YteafgddfcohclabSp1
import Derived.Test.YteafgddfcohclabKd3
namespace Go.Proofs.Yteafgddfcohclab
open Go.ChangeShapes Go.WideShapes Go.ChangeAt Go.RowKit
set_option linter.unusedVariables false

theorem kds_mem (ns : List Nd) (e : Nat) (he : e ≤ ns.length) : ∀ (d k : Nat), e - k ≤ d → ∀ l, kds ns e k = some l → ∀ y ∈ l, ∃ m : Nat, y = m ∧ m < ns.length := by
  intro d
  induction d with
  | zero =>
    intro k hd l h y hy
    rw [kds_end (by omega)] at h
    cases h; cases hy
  | succ d ih =>
    intro k hd l h y hy
    by_cases hk : k < e
    · cases hx : ns[k]? with
      | none => rw [kds, dif_pos hk, hx] at h; simp at h
      | some x =>
        by_cases hs : 1 ≤ x.s ∧ x.s ≤ (e : Int) - k
        · rw [kds_step hk hx hs.1 hs.2] at h
          obtain ⟨l', h', rfl⟩ := Option.map_eq_some_iff.1 h
          rcases List.mem_cons.1 hy with rfl | hy
          · exact ⟨k, rfl, by omega⟩
          · exact ih (k + x.s.toNat) (by omega) l' h' y hy
        · rw [kds_bad hk hx hs] at h; cases h
    · rw [kds_end hk] at h; cases h; cases hy

theorem kid_mem (ns : List Nd) (n : Int) : ∀ y ∈ (kid ns n).getD [], ∃ m : Nat, y = m ∧ m < ns.length := by
  cases hw : whl ns n with
  | false => rw [kid_no hw]; intro y hy; cases hy
  | true =>
    obtain ⟨k, z, x, rfl, hx, hxz, hz, hzk⟩ := whl_yes hw
    rw [kid_at hx hxz hw]
    cases hk : kds ns (k + z) (k + 1) with
    | none => intro y hy; cases hy
    | some l => exact kds_mem ns (k + z) (by omega) _ (k + 1) (Nat.le_refl _) l hk

/-- does a node's run hold a piece? -/
def hld (ns : List Nd) (a : Int) (k : Int) : Bool := match ns[k.toNat]? with | some x => decide (x.f ≤ a) && decide (a < x.e) | none => false
/-- .. that of one of some nodes? -/
def cvr (ns : List Nd) (kl : List Int) (a : Int) : Bool := kl.any (hld ns a)
/-- the tokens of a node that are none of its kids' -/
def owl (ts : List Tk) (ns : List Nd) (n : Int) : List Int :=
  if 0 ≤ n then (match ns[n.toNat]? with | none => [] | some x => (tkl ts (spB x ts.length) (spE x ts.length - spB x ts.length)).filter (fun a => !cvr ns ((kid ns n).getD []) a)) else []

theorem owl_neg {ts : List Tk} {ns : List Nd} {n : Int} (h : n < 0) : owl ts ns n = [] := by unfold owl; rw [if_neg (by omega)]
theorem owl_big {ts : List Tk} {ns : List Nd} {n : Nat} (h : ns.length ≤ n) : owl ts ns n = [] := by unfold owl; rw [if_pos (by omega), Int.toNat_natCast, List.getElem?_eq_none h]
theorem owl_at {ts : List Tk} {ns : List Nd} {n : Nat} {x : Nd} (hx : ns[n]? = some x) :
    owl ts ns n = (tkl ts (spB x ts.length) (spE x ts.length - spB x ts.length)).filter (fun a => !cvr ns ((kid ns n).getD []) a) := by unfold owl; rw [if_pos (by omega), Int.toNat_natCast, hx]

theorem cvr_step {ns : List Nd} {kl : List Int} {a : Int} {j : Nat} {y : Int} (hy : kl[j]? = some y) : cvr ns (kl.take (j + 1)) a = (cvr ns (kl.take j) a || hld ns a y) := by
  unfold cvr; rw [List.take_add_one, hy]; simp

theorem filter_step {α : Type} {xs : List α} {f : α → Bool} {k : Nat} {y : α} (hy : xs[k]? = some y) : (xs.take (k + 1)).filter f = (xs.take k).filter f ++ (if f y then [y] else []) := by
  rw [List.take_add_one, hy, List.filter_append]
  cases h : f y <;> simp [h]
end Go.Proofs.Yteafgddfcohclab
