import Derived.Test.YteolfolkolpehaaDoorRy
namespace Go.Proofs.YteolfolkolpehaaDoor
set_option linter.unusedVariables false

theorem ln_last (e : Ed) : ∃ x, ln e = x ++ [10] ∧ ∀ c ∈ x, c ≠ 10 := by
  refine ⟨Lib.itoa e.f ++ 44 :: (Lib.itoa e.t ++ 32 :: 34 :: (esc e.s.data.toList ++ [34])), by rw [ln_eq]; simp, ?_⟩
  have hd : ∀ u, ∀ c ∈ Lib.decDigits u, c ≠ 10 := fun u c hc h => by
    have := List.all_eq_true.1 (dd_facts u).1 c hc
    rw [h] at this
    exact absurd this (by decide)
  have hi : ∀ n, ∀ c ∈ Lib.itoa n, c ≠ 10 := fun n c hc => by
    unfold Lib.itoa at hc
    split at hc
    · rcases List.mem_cons.1 hc with rfl | hc
      · decide
      · exact hd _ c hc
    · exact hd _ c hc
  have he : ∀ t, ∀ c ∈ esc t, c ≠ 10 := fun t c hc => by
    obtain ⟨a, _, ha⟩ := List.mem_flatMap.1 hc
    unfold esc1 at ha
    split at ha
    · rename_i h1
      simp only [List.mem_cons, List.not_mem_nil, or_false] at ha
      rcases ha with rfl | rfl
      · decide
      · rcases h1 with rfl | rfl <;> decide
    · split at ha
      · simp only [List.mem_cons, List.not_mem_nil, or_false] at ha
        rcases ha with rfl | rfl <;> decide
      · rename_i h2
        simp only [List.mem_cons, List.not_mem_nil, or_false] at ha
        rw [ha]; exact h2
  intro c hc
  simp only [List.mem_append, List.mem_cons, List.not_mem_nil, or_false] at hc
  rcases hc with hc | rfl | hc | rfl | rfl | hc | rfl
  · exact hi _ c hc
  · decide
  · exact hi _ c hc
  · decide
  · decide
  · exact he _ c hc
  · decide
theorem prt_cons (e : Ed) (xs : List Ed) : prt (e :: xs) = ln e ++ prt xs := by simp [prt]
theorem ln_pos (e : Ed) : 0 < (ln e).length := by rw [ln_eq]; simp only [List.length_append, List.length_cons]; omega
theorem size_of_drop {s : ByteArray} {p : Nat} {t : List UInt8} (h : s.data.toList.drop p = t) (ht : t ≠ []) : p < s.size ∧ p + t.length = s.size := by
  have h1 := congrArg List.length h
  rw [List.length_drop, bytes_len] at h1
  have h2 : 0 < t.length := List.length_pos_iff.2 ht
  omega
theorem size_of_nil {s : ByteArray} {p : Nat} (h : s.data.toList.drop p = []) : ¬ p < s.size := by
  have h1 := congrArg List.length h
  rw [List.length_drop, bytes_len] at h1
  simp at h1
  omega

/-- what Print writes Parse reads -/
theorem prs_print (s : ByteArray) : ∀ (xs l : List Ed) (p : Nat), s.data.toList.drop p = prt xs → l.length + xs.length ≤ 65536 → (∀ e ∈ xs, EdFit e) → prs s (s.size - p) p l = (l ++ xs, 0, 0)
  | [], l, p, h, _, _ => by
    rw [prs_end (size_of_nil h), List.append_nil]
  | e :: xs, l, p, h, hl, hF => by
    rw [prt_cons] at h
    have hz := size_of_drop h (by intro h2; have := ln_pos e; rw [(List.append_eq_nil_iff.1 h2).1] at this; simp at this)
    have h1 := line_print h (hF e (by simp))
    simp only [List.length_cons] at hl
    rw [prs_next hz.1 (by omega) h1, prs_print s xs (l ++ [e]) _ (drop_step h) (by rw [List.length_append, List.length_singleton]; omega) (fun x hx => hF x (by simp [hx])), List.append_assoc]
    rfl

/-- a list that is cut -/
theorem prs_cut (s : ByteArray) : ∀ (xs l : List Ed) (p : Nat) (t more : List UInt8), s.data.toList.drop p = t → t ++ more = prt xs → l.length + xs.length ≤ 65536 → (∀ e ∈ xs, EdFit e) →
    ((t = [] ∨ t.getLast? = some 10) → (prs s (s.size - p) p l).2.1 = 0) ∧ (t ≠ [] → t.getLast? ≠ some 10 → (prs s (s.size - p) p l).2 = (12, s.size))
  | [], l, p, t, more, h, ht, hl, hF => by
    have h1 : t = [] := (List.append_eq_nil_iff.1 (show t ++ more = [] from ht)).1
    subst h1
    rw [prs_end (size_of_nil h)]
    exact ⟨fun _ => rfl, fun h => absurd rfl h⟩
  | e :: xs, l, p, t, more, h, ht, hl, hF => by
    simp only [List.length_cons] at hl
    rw [prt_cons] at ht
    have go : ∀ c, t = ln e ++ c → c ++ more = prt xs → ((t = [] ∨ t.getLast? = some 10) → (prs s (s.size - p) p l).2.1 = 0) ∧ (t ≠ [] → t.getLast? ≠ some 10 → (prs s (s.size - p) p l).2 = (12, s.size)) := fun c h1 h2 => by
      rw [h1] at h
      have hz := size_of_drop h (by intro h2; have := ln_pos e; rw [(List.append_eq_nil_iff.1 h2).1] at this; simp at this)
      have h3 := line_print h (hF e (by simp))
      have ih := prs_cut s xs (l ++ [e]) (p + (ln e).length) c more (drop_step h) h2 (by rw [List.length_append, List.length_singleton]; omega) (fun x hx => hF x (by simp [hx]))
      rw [prs_next hz.1 (by omega) h3]
      by_cases hc : c = []
      · refine ⟨fun _ => ih.1 (.inl hc), fun _ h4 => absurd ?_ h4⟩
        obtain ⟨x, hx, -⟩ := ln_last e
        rw [h1, hc, List.append_nil, hx]
        simp
      · have hg : t.getLast? = c.getLast? := by rw [h1, List.getLast?_append, List.getLast?_eq_some_getLast hc]; rfl
        rw [hg]
        refine ⟨fun h4 => ih.1 (.inr (h4.elim (fun h5 => absurd (by rw [h1] at h5; exact (List.append_eq_nil_iff.1 h5).2) hc) id)), fun _ h4 => ih.2 hc h4⟩
    rcases List.append_eq_append_iff.1 ht with ⟨a, h1, h2⟩ | ⟨c, h1, h2⟩
    · by_cases ha : a = []
      · subst ha
        rw [List.append_nil] at h1
        exact go [] (by rw [List.append_nil, h1]) (by rw [h2]; rfl)
      · by_cases ht0 : t = []
        · subst ht0
          rw [prs_end (size_of_nil h)]
          exact ⟨fun _ => rfl, fun h => absurd rfl h⟩
        · have hz := size_of_drop h ht0
          have h3 := line_cut h h1.symm ha (hF e (by simp))
          have hb : prs s (s.size - p) p l = ([], 12, p + t.length) := prs_bad (E := (lineA s p).1) hz.1 (by omega) (Prod.ext rfl h3)
          obtain ⟨x, hx, hn⟩ := ln_last e
          have hno : t.getLast? ≠ some 10 := fun h4 => by
            obtain ⟨y, hy⟩ : ∃ y, t = y ++ [10] := by
              refine ⟨t.dropLast, ?_⟩
              have := List.dropLast_concat_getLast ht0
              rw [List.getLast?_eq_some_getLast ht0] at h4
              rw [Option.some.inj h4] at this
              exact this.symm
            rw [h1, hy] at hx
            obtain ⟨a', z, rfl⟩ : ∃ a' z, a = a' ++ [z] := ⟨a.dropLast, a.getLast ha, (List.dropLast_concat_getLast ha).symm⟩
            rw [← List.append_assoc] at hx
            have h5 := (List.append_inj' hx rfl).1
            exact hn 10 (by rw [← h5]; simp) rfl
          rw [hb]
          refine ⟨fun h4 => absurd h4 (fun h5 => h5.elim ht0 hno), fun _ _ => ?_⟩
          rw [hz.2]
    · exact go c h1 h2.symm

/-- what Parse takes Print writes -/
theorem prs_back (s : ByteArray) (hs : s.size ≤ 16777216) : ∀ (m p : Nat) (l L : List Ed) (P : Nat), prs s m p l = (L, 0, P) → s.size - p ≤ m → l.length ≤ 65536 → P = 0 ∧ ∃ xs, L = l ++ xs ∧ s.data.toList.drop p = prt xs ∧ ∀ e ∈ xs, EdFit e
  | 0, p, l, L, P, h, hm, _ => by
    rw [prs] at h
    simp only [Prod.mk.injEq] at h
    refine ⟨h.2.2.symm, [], by rw [List.append_nil]; exact h.1.symm, ?_, fun e he => by cases he⟩
    exact List.drop_eq_nil_of_le (by rw [bytes_len]; omega)
  | m + 1, p, l, L, P, h, hm, hl => by
    rw [prs] at h
    by_cases hp : p < s.size
    · rw [if_pos hp] at h
      by_cases h6 : l.length = 65536
      · rw [if_pos h6] at h
        simp only [Prod.mk.injEq] at h
        exact absurd h.2.1 (by decide)
      · rw [if_neg h6] at h
        cases ho : (lineA s p).2.2 with
        | false =>
          rw [ho, if_neg Bool.false_ne_true] at h
          simp only [Prod.mk.injEq] at h
          exact absurd h.2.1 (by decide)
        | true =>
          rw [ho, if_pos rfl] at h
          have hle : lineA s p = ((lineA s p).1, (lineA s p).2.1, true) := by rw [← ho]
          have h1 := line_back hs hle
          have h2 := line_on hle
          obtain ⟨h3, xs, h4, h5, h7⟩ := prs_back s hs m _ _ L P h (by omega) (by rw [List.length_append, List.length_singleton]; omega)
          refine ⟨h3, (lineA s p).1 :: xs, by rw [h4, List.append_assoc]; rfl, by rw [h1.1, h5, prt_cons], fun e he => ?_⟩
          rcases List.mem_cons.1 he with rfl | he
          · exact h1.2
          · exact h7 e he
    · rw [if_neg hp] at h
      simp only [Prod.mk.injEq] at h
      refine ⟨h.2.2.symm, [], by rw [List.append_nil]; exact h.1.symm, ?_, fun e he => by cases he⟩
      exact List.drop_eq_nil_of_le (by rw [bytes_len]; omega)

theorem numA_le2 {s : ByteArray} {p : Nat} (h : p ≤ s.size) : (numA s p).2.1 ≤ s.size := numA_le h (show numA s p = ((numA s p).1, (numA s p).2.1, (numA s p).2.2) from rfl)
theorem line_le {s : ByteArray} {p : Nat} (h : p ≤ s.size) : (lineA s p).2.1 ≤ s.size := by
  rw [lineA_T]
  unfold lineT
  have h1 : (tkA s p 44).2.1 ≤ s.size := tkA_le h
  have h2 : (tkA s (tkA s p 44).2.1 32).2.1 ≤ s.size := tkA_le h1
  split
  · split
    · split
      · rename_i i2
        have i3 := isAt_lt i2
        have h3 := qz_len _ (s.data.toList.drop ((tkA s (tkA s p 44).2.1 32).2.1 + 1)) (Nat.le_refl _)
        rw [List.length_drop, bytes_len] at h3
        split
        · rename_i i4
          have := isAt_lt (Bool.and_eq_true_iff.1 i4).2
          show _ + 1 ≤ s.size
          omega
        · show _ + 1 + _ ≤ s.size
          omega
      · exact h2
    · exact h2
  · exact h1
/-- what is no list: nothing, and a place within the text -/
theorem prs_fault (s : ByteArray) : ∀ (m p : Nat) (l L : List Ed) (E : Int) (P : Nat), prs s m p l = (L, E, P) → E ≠ 0 → p ≤ s.size → L = [] ∧ P ≤ s.size
  | 0, p, l, L, E, P, h, hE, _ => by
    rw [prs] at h
    simp only [Prod.mk.injEq] at h
    exact absurd h.2.1.symm hE
  | m + 1, p, l, L, E, P, h, hE, hp => by
    rw [prs] at h
    by_cases hlt : p < s.size
    · rw [if_pos hlt] at h
      by_cases h6 : l.length = 65536
      · rw [if_pos h6] at h
        simp only [Prod.mk.injEq] at h
        exact ⟨h.1.symm, by omega⟩
      · rw [if_neg h6] at h
        have hle := line_le hp
        cases ho : (lineA s p).2.2 with
        | false =>
          rw [ho, if_neg Bool.false_ne_true] at h
          simp only [Prod.mk.injEq] at h
          exact ⟨h.1.symm, by omega⟩
        | true =>
          rw [ho, if_pos rfl] at h
          exact prs_fault s m _ _ L E P h hE hle
    · rw [if_neg hlt] at h
      simp only [Prod.mk.injEq] at h
      exact absurd h.2.1.symm hE
theorem tots_le : ∀ xs : List Ed, tots xs ≤ (prt xs).length
  | [] => Nat.zero_le _
  | e :: xs => by
    have h1 := tots_le xs
    have h2 := esc_ge e.s.data.toList
    rw [bytes_len] at h2
    rw [prt_cons, List.length_append, tots, ln_eq]
    simp only [List.length_append, List.length_cons]
    omega
end Go.Proofs.YteolfolkolpehaaDoor
