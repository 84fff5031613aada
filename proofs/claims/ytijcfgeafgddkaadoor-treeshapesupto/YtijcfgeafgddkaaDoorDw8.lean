import Derived.Test.YtijcfgeafgddkaaDoorDw5
namespace Go.Proofs.YtijcfgeafgddkaaDoor
set_option linter.unusedVariables false

theorem cls_facts (s : List UInt8) : ∀ (op : List Nat) (i : Nat) (l : List Nd), i ≤ s.length → (cls s op i l).1 ≤ s.length ∧ i ≤ (cls s op i l).1 ∧ (cls s op i l).2.1.length = l.length
  | [], i, l, h => by rw [cls_nil]; exact ⟨h, Nat.le_refl _, rfl⟩
  | t :: r, i, l, h => by
    by_cases h1 : s[i]? = some 41
    · have h2 := (List.getElem?_eq_some_iff.1 h1).1
      rw [cls_yes t r l h1]
      have ih := cls_facts s r (i + 1) (szN l t) h2
      rw [szN_len] at ih
      exact ⟨ih.1, by omega, ih.2.2⟩
    · rw [cls_no t r l h1]; exact ⟨h, Nat.le_refl _, rfl⟩
/-- no more nodes than bytes -/
theorem dr_len {nm : List (List UInt8)} (hlen : nm.length = 58) (hn : ∀ i, i < nm.length → nm.getD i [] ≠ []) (s : List UInt8) : ∀ (m i : Nat) (l : List Nd) (op : List Nat), i ≤ s.length → l.length ≤ i → (dr nm s m i l op).1.length ≤ s.length
  | 0, i, l, op, _, _ => by rw [dr]; exact Nat.zero_le _
  | m + 1, i, l, op, hi, hl => by
    obtain ⟨kd, ln, ok, hna⟩ : ∃ a b c, naF nm (s.drop i) 58 = (a, b, c) := ⟨_, _, _, rfl⟩
    have hf := na_facts hlen hn hna
    rw [List.length_drop] at hf
    cases ok with
    | false => rw [dr_no hna]; exact Nat.zero_le _
    | true =>
      have hf2 := hf.2 rfl
      by_cases h1 : s[i + ln]? = some 40
      · have h2 := (List.getElem?_eq_some_iff.1 h1).1
        rw [dr_open hna h1]
        exact dr_len hlen hn s m _ _ _ h2 (by rw [List.length_append, List.length_singleton]; omega)
      · obtain ⟨j, l', op', hc⟩ : ∃ a b c, cls s op (i + ln) (l ++ [mkN kd]) = (a, b, c) := ⟨_, _, _, rfl⟩
        have hcf := cls_facts s op (i + ln) (l ++ [mkN kd]) (by omega)
        rw [hc, List.length_append, List.length_singleton] at hcf
        simp only at hcf
        rw [dr_cls hna h1 hc]
        split
        · split
          · exact Nat.zero_le _
          · show l'.length ≤ _; omega
        · split
          · rename_i h3
            have h2 := (List.getElem?_eq_some_iff.1 h3).1
            exact dr_len hlen hn s m _ _ _ h2 (by omega)
          · exact Nat.zero_le _
end Go.Proofs.YtijcfgeafgddkaaDoor
