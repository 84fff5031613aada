import Derived.Test.YtchcmonhdgndcaaBy
import Derived.Test.YtchcmonhdgndcaaOw
namespace Go.Proofs.Ytchcmonhdgndcaa
open Go.ChangeShapes Go.WideShapes Go.ChangeAt Go.RowKit
set_option linter.unusedVariables false

/-- a sum over k numbers from a on -/
def sm (o : Nat → Nat) : Nat → Nat → Nat
  | _, 0 => 0
  | a, k + 1 => o a + sm o (a + 1) k
theorem sm_add (o : Nat → Nat) : ∀ (k a l : Nat), sm o a (k + l) = sm o a k + sm o (a + k) l := by
  intro k
  induction k with
  | zero => intro a l; simp [sm]
  | succ k ih =>
    intro a l
    rw [show k + 1 + l = (k + l) + 1 by omega, sm, sm, ih (a + 1) l, show a + 1 + k = a + (k + 1) by omega]
    omega
theorem sm_last (o : Nat → Nat) (k : Nat) : sm o 0 (k + 1) = sm o 0 k + o k := by
  rw [sm_add]; simp [sm]

/-- is i an own token of node n, does node n hold i: as numbers -/
def ow1 (ts : List Tk) (ns : List Nd) (i n : Nat) : Nat := if (i : Int) ∈ owl ts ns n then 1 else 0
def hd1 (ns : List Nd) (i : Nat) (k : Int) : Nat := if hld ns i k then 1 else 0
def hds (ns : List Nd) (i : Nat) (l : List Int) : Nat := (l.map (hd1 ns i)).sum

theorem tkl_mem {ts : List Tk} {b n : Nat} {i : Nat} : (i : Int) ∈ tkl ts b n ↔ b ≤ i ∧ i < b + n ∧ tkAt ts i = true := by
  unfold tkl
  rw [List.mem_map]
  constructor
  · rintro ⟨j, hj, e⟩
    rw [List.mem_filter, List.mem_range'_1] at hj
    obtain rfl : j = i := by have : (j : Int) = (i : Int) := e; omega
    exact ⟨hj.1.1, hj.1.2, hj.2⟩
  · rintro ⟨h1, h2, h3⟩
    exact ⟨i, by rw [List.mem_filter, List.mem_range'_1]; exact ⟨⟨h1, h2⟩, h3⟩, rfl⟩
theorem tkl_nat {ts : List Tk} {b n : Nat} {y : Int} (h : y ∈ tkl ts b n) : ∃ i : Nat, y = i := by
  unfold tkl at h
  rw [List.mem_map] at h
  obtain ⟨j, -, e⟩ := h
  exact ⟨j, e.symm⟩
theorem tkl_sorted (ts : List Tk) (b n : Nat) : (tkl ts b n).Pairwise (· < ·) := by
  unfold tkl
  rw [List.pairwise_map]
  refine List.Pairwise.imp (R := fun a b : Nat => a < b) (fun {a b} h => by show (a : Int) < (b : Int); omega) ?_
  exact List.Pairwise.filter _ (List.pairwise_lt_range' ..)
theorem owl_sorted (ts : List Tk) (ns : List Nd) (n : Nat) : (owl ts ns n).Pairwise (· < ·) := by
  cases hx : ns[n]? with
  | none => rw [owl_big (List.getElem?_eq_none_iff.1 hx)]; exact List.Pairwise.nil
  | some x => rw [owl_at hx]; exact (tkl_sorted _ _ _).filter _
theorem owl_nat {ts : List Tk} {ns : List Nd} {n : Nat} {y : Int} (h : y ∈ owl ts ns n) : ∃ i : Nat, y = i := by
  cases hx : ns[n]? with
  | none => rw [owl_big (List.getElem?_eq_none_iff.1 hx)] at h; cases h
  | some x =>
    rw [owl_at hx, List.mem_filter] at h
    exact tkl_nat h.1
theorem owl_mem {ts : List Tk} {ns : List Nd} {n i : Nat} {x : Nd} (hx : ns[n]? = some x) : (i : Int) ∈ owl ts ns n ↔ i < ts.length ∧ tkAt ts i = true ∧ (x.f ≤ (i : Int) ∧ (i : Int) < x.e) ∧ cvr ns ((kid ns n).getD []) i = false := by
  rw [owl_at hx, List.mem_filter, tkl_mem]
  have hle := spB_le x ts.length
  have hle2 := spE_le x ts.length
  constructor
  · rintro ⟨⟨h1, h2, h3⟩, h4⟩
    have hi : i < ts.length := by omega
    exact ⟨hi, h3, (in_span hi).1 ⟨h1, by omega⟩, by simpa using h4⟩
  · rintro ⟨hi, h3, h4, h5⟩
    obtain ⟨h1, h2⟩ := (in_span hi).2 h4
    exact ⟨⟨h1, by omega, h3⟩, by rw [h5]; rfl⟩

theorem hd1_at {ns : List Nd} {i m : Nat} {x : Nd} (hx : ns[m]? = some x) : hd1 ns i m = if x.f ≤ (i : Int) ∧ (i : Int) < x.e then 1 else 0 := by
  unfold hd1 hld
  rw [Int.toNat_natCast, hx]
  simp
theorem hds_cons (ns : List Nd) (i : Nat) (k : Int) (l : List Int) : hds ns i (k :: l) = hd1 ns i k + hds ns i l := by simp [hds]
theorem hds_zero {ns : List Nd} {i : Nat} : ∀ {l : List Int}, hds ns i l = 0 ↔ cvr ns l i = false := by
  intro l
  induction l with
  | nil => simp [hds, cvr]
  | cons k l ih =>
    have e : cvr ns (k :: l) i = (hld ns i k || cvr ns l i) := by simp [cvr]
    rw [hds_cons, e, Bool.or_eq_false_iff, ← ih]
    unfold hd1
    cases hh : hld ns i k <;> simp

/-- of kids that lie one behind the other at most one holds a piece, and that one lies in their node's run -/
theorem rnF_one {ns : List Nd} {p : Nd} {i : Nat} : ∀ (ks : List Int) (fr : Int), (∀ k ∈ ks, ∃ (m : Nat) (x : Nd), k = m ∧ ns[m]? = some x ∧ x.f ≤ x.e) → p.f ≤ fr → rnF ns p fr ks = true → hds ns i ks = 0 ∨ (hds ns i ks = 1 ∧ fr ≤ (i : Int) ∧ (i : Int) < p.e) := by
  intro ks
  induction ks with
  | nil => intro fr _ _ _; exact .inl rfl
  | cons k ks ih =>
    intro fr hk hfr h
    obtain ⟨q, y, rfl, hy, hyy⟩ := hk k List.mem_cons_self
    rw [hds_cons, hd1_at hy]
    by_cases h1 : y.f = y.e
    · by_cases h2 : y.f < p.f
      · rw [rnF_empty_bad hy h1 h2] at h; cases h
      · rw [rnF_empty hy h1 h2] at h
        rw [if_neg (by omega), Nat.zero_add]
        exact ih fr (fun k hk' => hk k (List.mem_cons_of_mem _ hk')) hfr h
    · by_cases h2 : y.f < fr ∨ p.e < y.e
      · rw [rnF_bad hy h1 h2] at h; cases h
      · rw [rnF_next hy h1 h2] at h
        rcases ih y.e (fun k hk' => hk k (List.mem_cons_of_mem _ hk')) (by omega) h with h0 | ⟨h0, h3, h4⟩
        · by_cases hh : y.f ≤ (i : Int) ∧ (i : Int) < y.e
          · rw [if_pos hh, h0]; exact .inr ⟨rfl, by omega, by omega⟩
          · rw [if_neg hh, h0]; exact .inl rfl
        · rw [if_neg (by omega), h0]; exact .inr ⟨rfl, by omega, h4⟩

theorem kds_sum {ns : List Nd} {o : Nat → Nat} {i e k0 : Nat} (hp : ∀ (m z : Nat) (x : Nd), k0 ≤ m → ns[m]? = some x → x.s = (z : Int) → m + z ≤ e → 1 ≤ z → sm o m z = hd1 ns i m) : ∀ (d k : Nat), k0 ≤ k → e - k ≤ d → k ≤ e → ∀ l, kds ns e k = some l → sm o k (e - k) = hds ns i l := by
  intro d
  induction d with
  | zero =>
    intro k hk0 hd hke l h
    rw [kds_end (by omega)] at h
    cases h
    rw [show e - k = 0 by omega]; rfl
  | succ d ih =>
    intro k hk0 hd hke l h
    by_cases hk : k < e
    · cases hx : ns[k]? with
      | none => rw [kds, dif_pos hk, hx] at h; simp at h
      | some x =>
        by_cases hs : 1 ≤ x.s ∧ x.s ≤ (e : Int) - k
        · rw [kds_step hk hx hs.1 hs.2] at h
          obtain ⟨l', h', rfl⟩ := Option.map_eq_some_iff.1 h
          obtain ⟨z, hz⟩ : ∃ z : Nat, x.s = (z : Int) := ⟨x.s.toNat, by omega⟩
          rw [hz, Int.toNat_natCast] at h'
          rw [hds_cons, ← ih (k + z) (by omega) (by omega) (by omega) l' h', ← hp k z x hk0 hx hz (by omega) (by omega), ← sm_add]
          congr 1; omega
        · rw [kds_bad hk hx hs] at h; cases h
    · rw [kds_end hk] at h; cases h
      rw [show e - k = 0 by omega]; rfl

/-- in a valid tree a token that a node's run holds is an own token of just one node within it -/
theorem one_owner {ts : List Tk} {ns : List Nd} {i : Nat} (hv : vlB ns (ts.length : Int) = true) (hi : i < ts.length) (ht : tkAt ts i = true) : ∀ (d n z : Nat) (x : Nd), z ≤ d → ns[n]? = some x → x.s = (z : Int) → 1 ≤ z → n + z ≤ ns.length → sm (ow1 ts ns i) n z = hd1 ns i n := by
  obtain ⟨hs, hn⟩ := vlB_parts hv
  intro d
  induction d with
  | zero => intro n z x hd; omega
  | succ d ih =>
    intro n z x hd hx hz h1 h2
    obtain ⟨g0, g1, g2, g3⟩ := vlN_parts hx (hn n (by omega))
    have hok : okN ns n = true := by
      unfold shB at hs
      rw [Bool.and_eq_true] at hs
      exact List.all_eq_true.1 hs.2 n (List.mem_range.2 (by omega))
    rw [okN_at hx, Bool.and_eq_true] at hok
    have hw : whl ns n = true := by rw [whl_at hx]; simp; omega
    have hkid := kid_at hx hz hw
    cases hk : kds ns (n + z) (n + 1) with
    | none => rw [hkid, hk] at hok; simp at hok
    | some l =>
      have hl : (kid ns n).getD [] = l := by rw [hkid, hk]; rfl
      have hsum : sm (ow1 ts ns i) (n + 1) (z - 1) = hds ns i l := by
        have := kds_sum (ns := ns) (o := ow1 ts ns i) (i := i) (e := n + z) (k0 := n + 1) (fun m y xm hm0 hm hy hle hge => ih m y xm (by omega) hm hy hge (by omega)) _ (n + 1) (Nat.le_refl _) (Nat.le_refl _) (by omega) l hk
        rw [show z - 1 = n + z - (n + 1) by omega]; exact this
      rw [show z = (z - 1) + 1 by omega, sm, hsum]
      have hkk : ∀ k ∈ l, ∃ (m : Nat) (y : Nd), k = m ∧ ns[m]? = some y ∧ y.f ≤ y.e := fun k hk' => by
        rw [← hl] at hk'
        obtain ⟨j, rfl, hj⟩ := kid_mem ns n k hk'
        obtain ⟨y, hy⟩ : ∃ y, ns[j]? = some y := ⟨_, List.getElem?_eq_getElem hj⟩
        exact ⟨j, y, rfl, hy, (vlN_parts hy (hn j hj)).2.1⟩
      rw [hl] at g3
      have hone := rnF_one (i := i) l x.f hkk (Int.le_refl _) g3
      rw [hd1_at hx]
      unfold ow1
      by_cases hh : x.f ≤ (i : Int) ∧ (i : Int) < x.e
      · rw [if_pos hh]
        rcases hone with h0 | ⟨h0, -, -⟩
        · rw [if_pos ((owl_mem hx).2 ⟨hi, ht, hh, by rw [hl]; exact hds_zero.1 h0⟩), h0]
        · rw [if_neg (fun hm => by
            have := ((owl_mem hx).1 hm).2.2.2
            rw [hl] at this
            have := hds_zero.2 this
            omega), h0]
      · rw [if_neg hh, if_neg (fun hm => hh ((owl_mem hx).1 hm).2.2.1)]
        rcases hone with h0 | ⟨h0, h3, h4⟩
        · rw [h0]
        · exact absurd ⟨h3, h4⟩ hh
end Go.Proofs.Ytchcmonhdgndcaa
