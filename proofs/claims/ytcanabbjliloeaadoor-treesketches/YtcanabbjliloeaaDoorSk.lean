import Derived.Test.YtcanabbjliloeaaDoorVl
namespace Go.Proofs.YtcanabbjliloeaaDoor
set_option linter.unusedVariables false

/-- how many ends lie at n, from the top on, and what is left -/
def pops (n : Nat) : List Nat → Nat × List Nat
  | [] => (0, [])
  | t :: r => if t = n then ((pops n r).1 + 1, (pops n r).2) else (0, t :: r)
theorem pops_yes (n : Nat) (r : List Nat) : pops n (n :: r) = ((pops n r).1 + 1, (pops n r).2) := by rw [pops, if_pos rfl]
theorem pops_no {n t : Nat} (r : List Nat) (h : t ≠ n) : pops n (t :: r) = (0, t :: r) := by rw [pops, if_neg h]
theorem pops_len (n : Nat) : ∀ st : List Nat, (pops n st).1 + (pops n st).2.length = st.length
  | [] => rfl
  | t :: r => by
    by_cases h : t = n
    · subst h; rw [pops_yes]; have := pops_len t r; simp only [List.length_cons]; omega
    · rw [pops_no r h]; simp
/-- a node -/
def nd (ns : List Nd) (n : Nat) : Nd := ns.getD n ⟨0, 0, 0, 0⟩
theorem nd_at {ns : List Nd} {n : Nat} {x : Nd} (h : ns[n]? = some x) : nd ns n = x := by unfold nd; rw [List.getD, h]; rfl
/-- the code's sketch ahead of node n: what is written, the ends that are open (the innermost first) -/
def ck1 (ns : List Nd) (n : Nat) (s : List UInt8 × List Nat) : List UInt8 × List Nat := if 0 < n ∧ (nd ns (n - 1)).s = 1 then (s.1 ++ List.replicate (pops n s.2).1 41 ++ [32], (pops n s.2).2) else s
def ck2 (nm : Nat → List UInt8) (x : Nd) (n : Nat) (s : List UInt8 × List Nat) : List UInt8 × List Nat := if 1 < x.s then (s.1 ++ nm x.k.toNat ++ [40], (n + x.s.toNat) :: s.2) else (s.1 ++ nm x.k.toNat, s.2)
def ck (nm : Nat → List UInt8) (ns : List Nd) : Nat → List UInt8 × List Nat
  | 0 => ([], [])
  | n + 1 => ck2 nm (nd ns n) n (ck1 ns n (ck nm ns n))
def cz (nm : Nat → List UInt8) (ns : List Nd) : List UInt8 := (ck nm ns ns.length).1 ++ List.replicate (pops ns.length (ck nm ns ns.length).2).1 41
/-- the reference's -/
def rk2 (nm : Nat → List UInt8) (x : Nd) (n : Nat) (s : List UInt8 × List Nat) : List UInt8 × List Nat :=
  if 1 < x.s then (s.1 ++ nm x.k.toNat ++ [40], (n + x.s.toNat) :: s.2)
  else (s.1 ++ nm x.k.toNat ++ List.replicate (pops (n + 1) s.2).1 41 ++ (if (pops (n + 1) s.2).2 = [] then [] else [32]), (pops (n + 1) s.2).2)
def rk (nm : Nat → List UInt8) (ns : List Nd) : Nat → List UInt8 × List Nat
  | 0 => ([], [])
  | n + 1 => rk2 nm (nd ns n) n (rk nm ns n)

/-- what is left of each open node is made of whole nodes -/
def Ch (ns : List Nd) : Nat → List Nat → Prop
  | n, [] => n = ns.length
  | n, t :: r => n ≤ t ∧ (kds ns t n).isSome = true ∧ Ch ns t r
theorem Ch.pop {ns : List Nd} {n : Nat} : ∀ {st : List Nat}, Ch ns n st → Ch ns n (pops n st).2 ∧ ∀ t r, (pops n st).2 = t :: r → n < t
  | [], h => ⟨h, fun t r e => by cases e⟩
  | t :: r, h => by
    by_cases e : t = n
    · subst e
      rw [pops_yes]
      exact Ch.pop h.2.2
    · rw [pops_no r e]
      refine ⟨h, fun t' r' e' => ?_⟩
      cases e'
      have := h.1
      omega
theorem Ch.le {ns : List Nd} : ∀ {st : List Nat} {n : Nat}, Ch ns n st → n ≤ ns.length
  | [], n, h => Nat.le_of_eq h
  | t :: r, n, h => Nat.le_trans h.1 (Ch.le h.2.2)
theorem Ch.end {ns : List Nd} {st : List Nat} (h : Ch ns ns.length st) : (pops ns.length st).2 = [] := by
  obtain ⟨h1, h2⟩ := h.pop
  cases hp : (pops ns.length st).2 with
  | nil => rfl
  | cons t r =>
    rw [hp] at h1
    have h3 := h2 t r hp
    have h4 := Ch.le h1.2.2
    omega
theorem kds_at {ns : List Nd} {t n : Nat} (hn : n < t) (h : (kds ns t n).isSome = true) : ∃ x, ns[n]? = some x ∧ 1 ≤ x.s ∧ x.s ≤ (t : Int) - n ∧ (kds ns t (n + x.s.toNat)).isSome = true := by
  cases hx : ns[n]? with
  | none => rw [kds, dif_pos hn, hx] at h; cases h
  | some x =>
    by_cases hs : 1 ≤ x.s ∧ x.s ≤ (t : Int) - n
    · refine ⟨x, rfl, hs.1, hs.2, ?_⟩
      rw [kds_step hn hx hs.1 hs.2, Option.isSome_map] at h
      exact h
    · rw [kds_bad hn hx hs] at h; cases h
theorem kid_open {ns : List Nd} {n : Nat} {x : Nd} (hx : ns[n]? = some x) (h : okN ns n = true) : (kds ns (n + x.s.toNat) (n + 1)).isSome = true := by
  rw [okN_at hx, Bool.and_eq_true] at h
  have h2 := h.2
  unfold kid at h2
  split at h2
  · have : ns[((n : Nat) : Int).toNat]? = some x := by rw [Int.toNat_natCast]; exact hx
    rw [this] at h2
    rw [Int.toNat_natCast] at h2
    exact h2
  · cases h2
theorem shB_parts {ns : List Nd} (h : shB ns = true) : (∃ x, ns[0]? = some x ∧ x.s = (ns.length : Int)) ∧ ∀ n, n < ns.length → okN ns n = true := by
  unfold shB at h
  rw [Bool.and_eq_true] at h
  refine ⟨?_, fun n hn => List.all_eq_true.1 h.2 n (by simp [hn])⟩
  cases hx : ns[0]? with
  | none => rw [hx] at h; exact absurd h.1 (by simp)
  | some x => rw [hx] at h; exact ⟨x, rfl, of_decide_eq_true h.1⟩

theorem rk_ch (nm : Nat → List UInt8) {ns : List Nd} (h : shB ns = true) : ∀ n, n + 1 ≤ ns.length → Ch ns (n + 1) (rk nm ns (n + 1)).2 ∧ ∀ t r, (rk nm ns (n + 1)).2 = t :: r → n + 1 < t
  | 0, hn => by
    obtain ⟨⟨x, hx, hs⟩, hk⟩ := shB_parts h
    rw [rk, rk, nd_at hx, rk2]
    by_cases h1 : 1 < x.s
    · rw [if_pos h1]
      have hz : 0 + x.s.toNat = ns.length := by omega
      have hko := kid_open hx (hk 0 (by omega))
      rw [hz] at hko ⊢
      refine ⟨⟨by omega, hko, rfl⟩, fun t r e => ?_⟩
      have := (List.cons.inj e).1
      omega
    · rw [if_neg h1]
      exact ⟨show 0 + 1 = ns.length by omega, fun t r e => by cases e⟩
  | n + 1, hn => by
    obtain ⟨⟨x0, hx0, hs0⟩, hk⟩ := shB_parts h
    obtain ⟨h1, h2⟩ := rk_ch nm h n (by omega)
    rw [rk]
    cases hst : (rk nm ns (n + 1)).2 with
    | nil => rw [hst] at h1; have : n + 1 = ns.length := h1; omega
    | cons t r =>
      rw [hst] at h1
      have h3 := h2 t r hst
      obtain ⟨x, hx, g1, g2, g3⟩ := kds_at h3 h1.2.1
      rw [nd_at hx, rk2, hst]
      by_cases hs : 1 < x.s
      · rw [if_pos hs]
        refine ⟨⟨by omega, kid_open hx (hk _ (by omega)), by omega, g3, h1.2.2⟩, fun t' r' e => ?_⟩
        have := (List.cons.inj e).1
        omega
      · rw [if_neg hs]
        have hx1 : x.s.toNat = 1 := by omega
        rw [hx1] at g3
        have hc : Ch ns (n + 1 + 1) (t :: r) := ⟨by omega, g3, h1.2.2⟩
        exact hc.pop
theorem size_pos {ns : List Nd} (h : shB ns = true) {n : Nat} {x : Nd} (hx : ns[n]? = some x) : 1 ≤ x.s ∧ x.s ≤ (ns.length : Int) - n := by
  have hn : n < ns.length := (List.getElem?_eq_some_iff.1 hx).1
  have h1 := (shB_parts h).2 n hn
  rw [okN_at hx, Bool.and_eq_true] at h1
  have h2 := h1.2
  unfold kid at h2
  split at h2
  · rename_i hw
    rw [whl_at hx, Bool.and_eq_true] at hw
    exact ⟨of_decide_eq_true hw.1, of_decide_eq_true hw.2⟩
  · cases h2
theorem ck_rk (nm : Nat → List UInt8) {ns : List Nd} (h : shB ns = true) : ∀ n, n + 1 ≤ ns.length →
    (1 < (nd ns n).s → rk nm ns (n + 1) = ck nm ns (n + 1)) ∧
    (¬ 1 < (nd ns n).s → rk nm ns (n + 1) = ((ck nm ns (n + 1)).1 ++ List.replicate (pops (n + 1) (ck nm ns (n + 1)).2).1 41 ++ (if (pops (n + 1) (ck nm ns (n + 1)).2).2 = [] then [] else [32]), (pops (n + 1) (ck nm ns (n + 1)).2).2))
  | 0, hn => by
    rw [rk, rk, ck, ck, ck1, if_neg (by omega), ck2, rk2]
    refine ⟨fun h1 => by rw [if_pos h1, if_pos h1], fun h1 => by rw [if_neg h1, if_neg h1]⟩
  | n + 1, hn => by
    obtain ⟨i1, i2⟩ := ck_rk nm h n (by omega)
    have hx : ns[n]? = some ns[n] := List.getElem?_eq_getElem (by omega)
    have hp := size_pos h hx
    have hne : (rk nm ns (n + 1)).2 ≠ [] := fun e => by
      have := (rk_ch nm h n (by omega)).1
      rw [e] at this
      have : n + 1 = ns.length := this
      omega
    have key : ck1 ns (n + 1) (ck nm ns (n + 1)) = rk nm ns (n + 1) := by
      unfold ck1
      rw [show n + 1 - 1 = n by omega]
      by_cases h1 : 1 < (nd ns n).s
      · rw [if_neg (fun h' => by have := h'.2; omega), i1 h1]
      · have h2 := i2 h1
        have hs1 : (nd ns n).s = 1 := by rw [nd_at hx] at h1 ⊢; omega
        rw [if_pos ⟨by omega, hs1⟩, h2]
        rw [h2] at hne
        rw [if_neg hne]
    rw [rk, ck, key, ck2, rk2]
    refine ⟨fun h1 => by rw [if_pos h1, if_pos h1], fun h1 => by rw [if_neg h1, if_neg h1]⟩
/-- both sketches are one -/
theorem sketch_one (nm : Nat → List UInt8) {ns : List Nd} (h : shB ns = true) : (rk nm ns ns.length).1 = cz nm ns := by
  obtain ⟨⟨x0, hx0, hs0⟩, hk⟩ := shB_parts h
  obtain ⟨n, hn⟩ : ∃ n, ns.length = n + 1 := ⟨ns.length - 1, by have := (List.getElem?_eq_some_iff.1 hx0).1; omega⟩
  have hx : ns[n]? = some ns[n] := List.getElem?_eq_getElem (by omega)
  have hp := size_pos h hx
  have h1 : ¬ 1 < (nd ns n).s := by rw [nd_at hx]; omega
  have h2 := (ck_rk nm h n (by omega)).2 h1
  have h3 := (rk_ch nm h n (by omega)).1
  have h4 : (pops (n + 1) (ck nm ns (n + 1)).2).2 = [] := by
    cases hst : (rk nm ns (n + 1)).2 with
    | nil => rw [h2] at hst; exact hst
    | cons t r =>
      have h5 := (rk_ch nm h n (by omega)).2 t r hst
      rw [hst] at h3
      have := Ch.le h3.2.2
      omega
  unfold cz
  rw [hn, h2, h4]
  simp
theorem ck_len (nm : Nat → List UInt8) (hm : ∀ k, (nm k).length ≤ 12) (ns : List Nd) : ∀ n, (ck nm ns n).1.length + (ck nm ns n).2.length ≤ 16 * n
  | 0 => Nat.zero_le _
  | n + 1 => by
    have ih := ck_len nm hm ns n
    have h1 : (ck1 ns n (ck nm ns n)).1.length + (ck1 ns n (ck nm ns n)).2.length ≤ 16 * n + 1 := by
      unfold ck1
      split
      · have := pops_len n (ck nm ns n).2
        simp only [List.length_append, List.length_replicate, List.length_cons, List.length_nil]
        omega
      · omega
    rw [ck, ck2]
    have h2 := hm (nd ns n).k.toNat
    split
    · simp only [List.length_append, List.length_cons, List.length_nil]
      omega
    · simp only [List.length_append]
      omega
theorem rk_len (nm : Nat → List UInt8) (hm : ∀ k, (nm k).length ≤ 12) (ns : List Nd) : ∀ n, (rk nm ns n).1.length + (rk nm ns n).2.length ≤ 16 * n
  | 0 => Nat.zero_le _
  | n + 1 => by
    have ih := rk_len nm hm ns n
    have h2 := hm (nd ns n).k.toNat
    rw [rk, rk2]
    split
    · simp only [List.length_append, List.length_cons, List.length_nil]
      omega
    · have := pops_len (n + 1) (rk nm ns n).2
      have h3 : (if (pops (n + 1) (rk nm ns n).2).2 = [] then ([] : List UInt8) else [32]).length ≤ 1 := by split <;> simp
      simp only [List.length_append, List.length_replicate]
      omega
theorem ck_st (nm : Nat → List UInt8) (ns : List Nd) : ∀ n, (ck nm ns n).2.length ≤ n
  | 0 => Nat.zero_le _
  | n + 1 => by
    have ih := ck_st nm ns n
    have h1 : (ck1 ns n (ck nm ns n)).2.length ≤ n := by
      unfold ck1
      split
      · have := pops_len n (ck nm ns n).2
        show (pops n (ck nm ns n).2).2.length ≤ n
        omega
      · exact ih
    rw [ck, ck2]
    split
    · show ((n + (nd ns n).s.toNat) :: (ck1 ns n (ck nm ns n)).2).length ≤ n + 1
      rw [List.length_cons]
      omega
    · show (ck1 ns n (ck nm ns n)).2.length ≤ n + 1
      omega
theorem rk_st (nm : Nat → List UInt8) (ns : List Nd) : ∀ n, (rk nm ns n).2.length ≤ n
  | 0 => Nat.zero_le _
  | n + 1 => by
    have ih := rk_st nm ns n
    rw [rk, rk2]
    split
    · show ((n + (nd ns n).s.toNat) :: (rk nm ns n).2).length ≤ n + 1
      rw [List.length_cons]
      omega
    · have := pops_len (n + 1) (rk nm ns n).2
      show (pops (n + 1) (rk nm ns n).2).2.length ≤ n + 1
      omega
end Go.Proofs.YtcanabbjliloeaaDoor
