import Derived.Test.YtclpodmgpfdleaaLst
import Derived.Test.YtclpodmgpfdleaaNm3
import Derived.Test.YtclpodmgpfdleaaAp2
import Derived.Deep.DeepCutAuto
namespace Go.Proofs.Ytclpodmgpfdleaa
open Go.ChangeShapes Go.WideShapes Go.ChangeAt Go.RowKit
set_option linter.unusedVariables false

theorem nrm_fit {tx : ByteArray} {xs : List Ed} (hx : tx.size ≤ 140737488351232) (h : ∀ e ∈ xs, 0 ≤ e.f ∧ e.f ≤ e.t ∧ e.t ≤ (tx.size : Int)) (hF : ∀ e ∈ xs, EdFit e) : ∀ e ∈ nrm tx xs, EdFit e := by
  intro e he
  unfold nrm at he
  rw [List.mem_filter, List.mem_map] at he
  obtain ⟨⟨x, hxm, rfl⟩, _⟩ := he
  have hs := (hF x hxm).2.2.2.2
  obtain ⟨f, t, he, hft, ht⟩ := nat_ed (h x hxm)
  generalize x.s = s at *
  subst he
  obtain ⟨f', t', hE, h1, h2, h3, h4⟩ := trimE_fit tx f t s hft
  rw [hE]
  refine ⟨?_, ?_, ?_, ?_, ?_⟩ <;> simp only <;> omega

theorem nrm_tots {tx : ByteArray} {xs : List Ed} (h : ∀ e ∈ xs, 0 ≤ e.f ∧ e.f ≤ e.t ∧ e.t ≤ (tx.size : Int)) : tots (nrm tx xs) ≤ tots xs := by
  induction xs with
  | nil => simp [nrm, tots]
  | cons e r ih =>
    have h1 := ih fun x hx => h x (List.mem_cons_of_mem _ hx)
    have h2 := h e (List.mem_cons_self ..)
    obtain ⟨f, t, he, hft, ht⟩ := nat_ed h2
    generalize e.s = s at *
    subst he
    obtain ⟨f', t', hE, _, _, _, h4⟩ := trimE_fit tx f t s hft
    cases hk : keepB (trimE tx ⟨f, t, s⟩) with
    | true => rw [nrm_cons_yes hk, tots, tots]; simp only; omega
    | false => rw [nrm_cons_no hk, tots]; omega

theorem ext_first {tx : ByteArray} {f t : Nat} (h : f < t) (ht : t ≤ tx.size) : (tx.extract f t).data.toList[0]? = tx.data.toList[f]? := by
  rw [Lib.extract_data, List.getElem?_take_of_lt (by omega), List.getElem?_drop]; rfl
theorem ext_last {tx : ByteArray} {f t : Nat} (h : f < t) (ht : t ≤ tx.size) : (tx.extract f t).data.toList[t - f - 1]? = tx.data.toList[t - 1]? := by
  rw [Lib.extract_data, List.getElem?_take_of_lt (by omega), List.getElem?_drop]; congr 1; omega
theorem ext_size {tx : ByteArray} {f t : Nat} (h : f ≤ t) (ht : t ≤ tx.size) : (tx.extract f t).size = t - f := by simp; omega

theorem head_get {s : ByteArray} (h : 0 < s.size) : s.data.toList.head? = some s[0] := by rw [head_bytes h]; rfl
theorem last_get {s : ByteArray} (h : 0 < s.size) : s.data.toList.reverse.head? = some (s[s.size - 1]'(by omega)) := by rw [last_bytes h]; rfl

theorem toList_ne {a b : ByteArray} (h : a.data.toList ≠ b.data.toList) : (a.toList == b.toList) = false := by
  rw [ByteArray.toList_eq, ByteArray.toList_eq, beq_eq_false_iff_ne]; exact h

/-- what the walk asks of an edit of a least list -/
theorem stb_facts {tx old s : ByteArray} {f t : Nat} (hft : f ≤ t) (ht : t ≤ tx.size) (ho : tx.extract f t = old) (hs : Stb tx ⟨f, t, s⟩) (hk : keepB ⟨f, t, s⟩ = true) :
    (old.toList == s.toList) = false ∧ ((old.toList.isEmpty = true) ∨ (old.toList.isEmpty = false ∧ s.toList.isEmpty = true) ∨
      (old.toList.isEmpty = false ∧ s.toList.isEmpty = false ∧ ∃ (h1 : 0 < old.size) (h2 : 0 < s.size) (h3 : old.size - 1 < old.size) (h4 : s.size - 1 < s.size), ((old[0].toNat : Int) == (s[0].toNat : Int)) = false ∧ ((old[old.size - 1].toNat : Int) == (s[s.size - 1].toNat : Int)) = false)) := by
  have hos : old.size = t - f := by rw [← ho]; exact ext_size hft ht
  obtain ⟨f2, t2, he, _, _, h⟩ := hs
  simp only [Ed.mk.injEq] at he
  have e1 : f2 = f := by omega
  have e2 : t2 = t := by omega
  subst e1 e2
  simp only at h
  by_cases hlt : f2 < t2
  · by_cases hz : s.size = 0
    · refine ⟨toList_ne ?_, .inr (.inl ⟨isEmpty_no (by omega), isEmpty_yes hz⟩)⟩
      rw [empty_bytes hz]
      intro hc
      have := bytes_len old
      rw [hc] at this
      simp at this
      omega
    · have hs0 : 0 < s.size := by omega
      have ho0 : 0 < old.size := by omega
      obtain ⟨g1, g2⟩ := h hlt (by intro hc; have := bytes_len s; rw [hc] at this; simp at this; omega)
      have a1 : some old[0] = tx.data.toList[f2]? := by rw [← ext_first hlt ht, ho, bytes_get ho0]
      have a2 : some (old[old.size - 1]'(by omega)) = tx.data.toList[t2 - 1]? := by
        rw [← ext_last hlt ht, ho, show t2 - f2 - 1 = old.size - 1 by omega, bytes_get (by omega)]
      rw [← a1, head_get hs0] at g1
      rw [← a2, last_get hs0] at g2
      refine ⟨toList_ne ?_, .inr (.inr ⟨isEmpty_no ho0, isEmpty_no hs0, ho0, hs0, by omega, by omega, byte_ne fun h => g1 (by rw [h]), byte_ne fun h => g2 (by rw [h])⟩)⟩
      intro hc
      apply g1
      rw [← head_get ho0, hc, head_get hs0]
  · have hz : old.size = 0 := by omega
    have hs0 : 0 < s.size := by
      rcases Nat.eq_zero_or_pos s.size with h0 | h0
      · rw [keepB_no (by omega)] at hk; cases hk
      · exact h0
    refine ⟨toList_ne ?_, .inl (isEmpty_yes hz)⟩
    rw [empty_bytes hz]
    intro hc
    have := bytes_len s
    rw [← hc] at this
    simp at this
    omega
end Go.Proofs.Ytclpodmgpfdleaa
