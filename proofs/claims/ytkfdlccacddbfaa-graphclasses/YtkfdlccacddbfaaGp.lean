import Derived.Test.YtkfdlccacddbfaaGr0
namespace Go.Proofs.Ytkfdlccacddbfaa
set_option linter.unusedVariables false
set_option linter.unusedSimpArgs false

/-- what can be come to -/
inductive Rch (ps : List Pr) : Nat → Nat → Prop
  | refl (x : Nat) : Rch ps x x
  | step {x y z : Nat} : (⟨(x : Int), (y : Int)⟩ : Pr) ∈ ps → Rch ps y z → Rch ps x z
theorem Rch.trans {ps : List Pr} {x y z : Nat} (h : Rch ps x y) (k : Rch ps y z) : Rch ps x z := by
  induction h with
  | refl => exact k
  | step e _ ih => exact .step e (ih k)
/-- how many are not marked -/
def unm (m : List Bool) : Nat := (m.filter fun b => !b).length
theorem unm_le : ∀ (m m' : List Bool), m'.length = m.length → (∀ y : Nat, m[y]? = some true → m'[y]? = some true) → unm m' ≤ unm m
  | [], [], _, _ => Nat.le_refl _
  | [], _ :: _, h, _ => by cases h
  | _ :: _, [], h, _ => by cases h
  | a :: m, b :: m', h, hm => by
    have ih := unm_le m m' (by simpa using h) (fun y hy => hm (y + 1) hy)
    have h0 := hm 0
    unfold unm at ih ⊢
    cases a <;> cases b <;> simp at h0 ⊢ <;> omega
theorem unm_set : ∀ (m : List Bool) (x : Nat), m[x]? = some false → unm (m.set x true) + 1 = unm m
  | [], _, h => by cases h
  | a :: m, 0, h => by simp at h; subst h; simp [unm]
  | a :: m, x + 1, h => by
    have := unm_set m x h
    unfold unm at this ⊢
    cases a <;> simp <;> omega
/-- a walk from marks m and told things t to marks m' and told things t': what is new is in P -/
structure Dq (ps : List Pr) (P : Nat → Prop) (m : List Bool) (t : List Nat) (m' : List Bool) (t' : List Nat) : Prop where
  len : m'.length = m.length
  mono : ∀ y : Nat, m[y]? = some true → m'[y]? = some true
  told : ∃ s : List Nat, t' = t ++ s ∧ s.Nodup ∧ (∀ y ∈ s, m[y]? = some false ∧ m'[y]? = some true) ∧ ∀ y : Nat, m'[y]? = some true → m[y]? = some true ∨ y ∈ s
  reach : ∀ y : Nat, m'[y]? = some true → m[y]? = some true ∨ P y
  closed : ∀ y y' : Nat, m[y]? = some false → m'[y]? = some true → (⟨(y : Int), (y' : Int)⟩ : Pr) ∈ ps → m'[y']? = some true
  cnt : t'.length + unm m' = t.length + unm m
theorem Dq.refl (ps : List Pr) (P : Nat → Prop) (m : List Bool) (t : List Nat) : Dq ps P m t m t :=
  ⟨rfl, fun _ h => h, ⟨[], by simp, List.nodup_nil, (fun y hy => by cases hy), fun y h => .inl h⟩, fun _ h => .inl h, (fun y y' h1 h2 => by rw [h1] at h2; cases h2), rfl⟩
theorem tf {m : List Bool} {y : Nat} (h : m[y]? = some true) (k : m[y]? = some false) : False := by rw [h] at k; cases k
theorem Dq.back {ps : List Pr} {P : Nat → Prop} {m m' : List Bool} {t t' : List Nat} (h : Dq ps P m t m' t') {y : Nat} (hy : m'[y]? = some false) : m[y]? = some false := by
  have hl : y < m.length := by have := (List.getElem?_eq_some_iff.1 hy).1; rw [h.len] at this; exact this
  cases hm : m[y] with
  | false => rw [List.getElem?_eq_getElem hl, hm]
  | true => exact (tf (h.mono y (by rw [List.getElem?_eq_getElem hl, hm])) hy).elim
theorem Dq.trans {ps : List Pr} {P P' : Nat → Prop} {m m1 m2 : List Bool} {t t1 t2 : List Nat} (h : Dq ps P m t m1 t1) (k : Dq ps P' m1 t1 m2 t2) (hP : ∀ y, P' y → P y) : Dq ps P m t m2 t2 := by
  obtain ⟨s1, hs1, hn1, hy1, hz1⟩ := h.told
  obtain ⟨s2, hs2, hn2, hy2, hz2⟩ := k.told
  refine ⟨k.len.trans h.len, fun y hy => k.mono y (h.mono y hy), ⟨s1 ++ s2, by rw [hs2, hs1, List.append_assoc], ?_, fun y hy => ?_, fun y hy => ?_⟩, fun y hy => ?_, fun y y' hy hy2' he => ?_, k.cnt.trans h.cnt⟩
  · refine List.nodup_append.2 ⟨hn1, hn2, fun a ha b hb hab => ?_⟩
    subst hab
    exact tf (hy1 a ha).2 (hy2 a hb).1
  · rcases List.mem_append.1 hy with hy | hy
    · exact ⟨(hy1 y hy).1, k.mono y (hy1 y hy).2⟩
    · exact ⟨h.back (hy2 y hy).1, (hy2 y hy).2⟩
  · rcases hz2 y hy with h2 | h2
    · rcases hz1 y h2 with h3 | h3
      · exact .inl h3
      · exact .inr (List.mem_append_left _ h3)
    · exact .inr (List.mem_append_right _ h2)
  · rcases k.reach y hy with h2 | h2
    · exact h.reach y h2
    · exact .inr (hP y h2)
  · have hl : y < m1.length := by have := (List.getElem?_eq_some_iff.1 hy).1; rw [← h.len] at this; exact this
    cases hm : m1[y] with
    | false => exact k.closed y y' (by rw [List.getElem?_eq_getElem hl, hm]) hy2' he
    | true => exact k.mono y' (h.closed y y' hy (by rw [List.getElem?_eq_getElem hl, hm]) he)
/-- a walk from a thing that was not met: marked, its own walked, told -/
theorem Dq.node {ps : List Pr} {x : Nat} {m m1 : List Bool} {t t1 : List Nat} (hx : m[x]? = some false) (h : Dq ps (Rch ps x) (m.set x true) t m1 t1) (hd : ∀ y' : Nat, (⟨(x : Int), (y' : Int)⟩ : Pr) ∈ ps → m1[y']? = some true) : Dq ps (Rch ps x) m t m1 (t1 ++ [x]) := by
  have hl := (List.getElem?_eq_some_iff.1 hx).1
  have hset : ∀ y : Nat, y ≠ x → (m.set x true)[y]? = m[y]? := fun y hy => by rw [List.getElem?_set, if_neg (fun e => hy e.symm)]
  have hsx : (m.set x true)[x]? = some true := by rw [List.getElem?_set, if_pos rfl, if_pos hl]
  obtain ⟨s, hs, hn, hy, hz⟩ := h.told
  refine ⟨by rw [h.len, List.length_set], fun y hy => h.mono y ?_, ⟨s ++ [x], by rw [hs, List.append_assoc], ?_, fun y hy' => ?_, fun y hy' => ?_⟩, fun y hy' => ?_, fun y y' hy1 hy2 he => ?_, by have h8 := h.cnt; have h9 := unm_set m x hx; rw [List.length_append]; simp; omega⟩
  · by_cases e : y = x
    · subst e; exact hsx
    · rw [hset y e]; exact hy
  · refine List.nodup_append.2 ⟨hn, by simp, fun a ha b hb hab => ?_⟩
    rw [List.mem_singleton] at hb
    subst hb
    subst hab
    exact tf hsx (hy _ ha).1
  · rcases List.mem_append.1 hy' with h1 | h1
    · refine ⟨?_, (hy y h1).2⟩
      have h2 := (hy y h1).1
      by_cases e : y = x
      · subst e; exact (tf hsx h2).elim
      · rw [hset y e] at h2; exact h2
    · rw [List.mem_singleton] at h1
      subst h1
      exact ⟨hx, h.mono _ hsx⟩
  · by_cases e : y = x
    · subst e; exact .inr (by simp)
    · rcases hz y hy' with h1 | h1
      · rw [hset y e] at h1; exact .inl h1
      · exact .inr (List.mem_append_left _ h1)
  · by_cases e : y = x
    · subst e; exact .inr (.refl _)
    · rcases h.reach y hy' with h1 | h1
      · rw [hset y e] at h1; exact .inl h1
      · exact .inr h1
  · by_cases e : y = x
    · subst e; exact hd y' he
    · exact h.closed y y' (by rw [hset y e]; exact hy1) hy2 he
theorem Dq.unm_le {ps : List Pr} {P : Nat → Prop} {m m' : List Bool} {t t' : List Nat} (h : Dq ps P m t m' t') : unm m' ≤ unm m := Go.Proofs.Ytkfdlccacddbfaa.unm_le m m' h.len h.mono
end Go.Proofs.Ytkfdlccacddbfaa
