import Derived.Test.YtcanabbjliloeaaDoorKd1
namespace Go.Proofs.YtcanabbjliloeaaDoor
open Go.ChangeShapes Go.WideShapes Go.ChangeAt Go.RowKit
set_option linter.unusedVariables false

theorem kds_len (ns : List Nd) (e : Nat) : ∀ (d k : Nat), e - k ≤ d → ∀ l, kds ns e k = some l → l.length ≤ e - k := by
  intro d
  induction d with
  | zero =>
    intro k hd l h
    rw [kds_end (by omega)] at h
    cases h; simp
  | succ d ih =>
    intro k hd l h
    by_cases hk : k < e
    · cases hx : ns[k]? with
      | none => rw [kds, dif_pos hk, hx] at h; simp at h
      | some x =>
        by_cases hs : 1 ≤ x.s ∧ x.s ≤ (e : Int) - k
        · rw [kds_step hk hx hs.1 hs.2] at h
          obtain ⟨l', h', rfl⟩ := Option.map_eq_some_iff.1 h
          have := ih (k + x.s.toNat) (by omega) l' h'
          simp; omega
        · rw [kds_bad hk hx hs] at h; cases h
    · rw [kds_end hk] at h; cases h; simp

theorem kid_len (ns : List Nd) (n : Int) : ((kid ns n).getD []).length ≤ ns.length := by
  cases hw : whl ns n with
  | false => rw [kid_no hw]; simp
  | true =>
    obtain ⟨k, z, x, rfl, hx, hxz, hz, hzk⟩ := whl_yes hw
    rw [kid_at hx hxz hw]
    cases hk : kds ns (k + z) (k + 1) with
    | none => simp
    | some l =>
      have := kds_len ns (k + z) _ (k + 1) (Nat.le_refl _) l hk
      simp; omega

theorem kds_mem (ns : List Nd) (e : Nat) (he : e ≤ ns.length) : ∀ (d k : Nat), e - k ≤ d → ∀ l, kds ns e k = some l → ∀ y ∈ l, ∃ m : Nat, y = m ∧ m < ns.length := by
  intro d
  induction d with
  | zero =>
    intro k hd l h y hy
    rw [kds_end (by omega)] at h
    cases h; cases hy
  | succ d ih =>
    intro k hd l h y hy
    by_cases hk : k < e
    · cases hx : ns[k]? with
      | none => rw [kds, dif_pos hk, hx] at h; simp at h
      | some x =>
        by_cases hs : 1 ≤ x.s ∧ x.s ≤ (e : Int) - k
        · rw [kds_step hk hx hs.1 hs.2] at h
          obtain ⟨l', h', rfl⟩ := Option.map_eq_some_iff.1 h
          rcases List.mem_cons.1 hy with rfl | hy
          · exact ⟨k, rfl, by omega⟩
          · exact ih (k + x.s.toNat) (by omega) l' h' y hy
        · rw [kds_bad hk hx hs] at h; cases h
    · rw [kds_end hk] at h; cases h; cases hy

theorem kid_mem (ns : List Nd) (n : Int) : ∀ y ∈ (kid ns n).getD [], ∃ m : Nat, y = m ∧ m < ns.length := by
  cases hw : whl ns n with
  | false => rw [kid_no hw]; intro y hy; cases hy
  | true =>
    obtain ⟨k, z, x, rfl, hx, hxz, hz, hzk⟩ := whl_yes hw
    rw [kid_at hx hxz hw]
    cases hk : kds ns (k + z) (k + 1) with
    | none => intro y hy; cases hy
    | some l => exact kds_mem ns (k + z) (by omega) _ (k + 1) (Nat.le_refl _) l hk

end Go.Proofs.YtcanabbjliloeaaDoor
