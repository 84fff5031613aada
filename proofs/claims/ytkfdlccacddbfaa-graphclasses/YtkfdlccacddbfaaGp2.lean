import Derived.Test.YtkfdlccacddbfaaGp
import Derived.Test.YtkfdlccacddbfaaGr6
namespace Go.Proofs.Ytkfdlccacddbfaa
set_option linter.unusedVariables false
set_option linter.unusedSimpArgs false

theorem things_spec {n : Nat} {ps : List Pr} (h : things (n : Int) ps = true) : n ≤ 131072 ∧ ∀ p ∈ ps, (0 ≤ p.a ∧ p.a < (n : Int)) ∧ (0 ≤ p.b ∧ p.b < (n : Int)) := by
  unfold things at h
  simp only [Bool.and_eq_true, decide_eq_true_eq, List.all_eq_true] at h
  refine ⟨by omega, fun p hp => ?_⟩
  have := h.2 p hp
  unfold thp thg at this
  simp only [Bool.and_eq_true, decide_eq_true_eq] at this
  exact this
theorem rep_false {n y : Nat} (h : y < n) : (List.replicate n false)[y]? = some false := by rw [List.getElem?_replicate, if_pos h]
/-- what a first walk tells: all that can be come to, each once -/
theorem Dq.all {ps : List Pr} {n x : Nat} {m' : List Bool} {t' : List Nat} (h : Dq ps (Rch ps x) (List.replicate n false) [] m' t') (hx : m'[x]? = some true) : t'.Nodup ∧ ∀ y, y ∈ t' ↔ Rch ps x y := by
  obtain ⟨s, hs, hn, hy, hz⟩ := h.told
  rw [List.nil_append] at hs
  subst hs
  have hlt : ∀ a : Nat, m'[a]? = some true → (List.replicate n false)[a]? = some false := fun a ha => by
    have := (List.getElem?_eq_some_iff.1 ha).1
    rw [h.len, List.length_replicate] at this
    exact rep_false this
  have fwd : ∀ a b : Nat, Rch ps a b → m'[a]? = some true → m'[b]? = some true := by
    intro a b hab
    induction hab with
    | refl => exact id
    | step e _ ih => exact fun ha => ih (h.closed _ _ (hlt _ ha) ha e)
  refine ⟨hn, fun y => ⟨fun hyt => ?_, fun hr => ?_⟩⟩
  · rcases h.reach y (hy y hyt).2 with h1 | h1
    · exact (tf h1 (hy y hyt).1).elim
    · exact h1
  · rcases hz y (fwd x y hr hx) with h1 | h1
    · exact (tf h1 (hlt y (fwd x y hr hx))).elim
    · exact h1
theorem sorted_unique : ∀ l m : List Int, l.Pairwise (· < ·) → m.Pairwise (· < ·) → (∀ y, y ∈ l ↔ y ∈ m) → l = m
  | [], [], _, _, _ => rfl
  | [], b :: m, _, _, h => by have := (h b).2 (by simp); cases this
  | a :: l, [], _, _, h => by have := (h a).1 (by simp); cases this
  | a :: l, b :: m, hl, hm, h => by
    rw [List.pairwise_cons] at hl hm
    have hab : a = b := by
      have h1 := (h a).1 (by simp)
      have h2 := (h b).2 (by simp)
      rcases List.mem_cons.1 h1 with h1 | h1
      · exact h1
      · rcases List.mem_cons.1 h2 with h2 | h2
        · exact h2.symm
        · have := hl.1 b h2
          have := hm.1 a h1
          omega
    subst hab
    rw [sorted_unique l m hl.2 hm.2 (fun y => ?_)]
    have hy := h y
    simp only [List.mem_cons] at hy
    constructor
    · intro h1
      rcases hy.1 (.inr h1) with h2 | h2
      · have := hl.1 y h1; omega
      · exact h2
    · intro h1
      rcases hy.2 (.inr h1) with h2 | h2
      · have := hm.1 y h1; omega
      · exact h2
theorem sorted_strict (xs : List Int) (hn : xs.Nodup) : (xs.mergeSort fun x y => decide (x ≤ y)).Pairwise (· < ·) ∧ ∀ y, y ∈ (xs.mergeSort fun x y => decide (x ≤ y)) ↔ y ∈ xs := by
  have hp := List.mergeSort_perm xs (fun x y => decide (x ≤ y))
  refine ⟨?_, fun y => hp.mem_iff⟩
  have hs := List.pairwise_mergeSort (le := fun x y : Int => decide (x ≤ y)) (fun a b c h1 h2 => by simp at h1 h2 ⊢; omega) (fun a b => by simp; omega) xs
  have hd := hp.nodup_iff.2 hn
  have h2 := List.Pairwise.and hs hd
  refine h2.imp (fun h => ?_)
  simp at h
  omega
end Go.Proofs.Ytkfdlccacddbfaa
