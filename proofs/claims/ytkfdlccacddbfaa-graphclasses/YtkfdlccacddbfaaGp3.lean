import Derived.Test.YtkfdlccacddbfaaGp2
import Derived.Test.YtkfdlccacddbfaaGq0
namespace Go.Proofs.Ytkfdlccacddbfaa
set_option linter.unusedVariables false
set_option linter.unusedSimpArgs false

/-- the pairs both ways round -/
def both (ps : List Pr) : List Pr := ps ++ ps.map swapP
theorem both_mem {ps : List Pr} {a b : Int} : (⟨a, b⟩ : Pr) ∈ both ps ↔ (⟨a, b⟩ : Pr) ∈ ps ∨ (⟨b, a⟩ : Pr) ∈ ps := by
  unfold both
  rw [List.mem_append, List.mem_map]
  constructor
  · rintro (h | ⟨p, hp, he⟩)
    · exact .inl h
    · cases p
      simp only [swapP, Pr.mk.injEq] at he
      obtain ⟨rfl, rfl⟩ := he
      exact .inr hp
  · rintro (h | h)
    · exact .inl h
    · exact .inr ⟨_, h, rfl⟩
theorem both_symm {ps : List Pr} {a b : Int} (h : (⟨a, b⟩ : Pr) ∈ both ps) : (⟨b, a⟩ : Pr) ∈ both ps := both_mem.2 ((both_mem.1 h).symm)
theorem Rch.symm {ps : List Pr} {x y : Nat} (h : Rch (both ps) x y) : Rch (both ps) y x := by
  induction h with
  | refl => exact .refl _
  | step e _ ih => exact ih.trans (.step (both_symm e) (.refl _))
/-- the classes so far: M: what was met; L: the labels; all below x are met -/
structure Cs (ss : List Pr) (x : Nat) (M : Nat → Prop) (L : Nat → Option Int) : Prop where
  closed : ∀ y y' : Nat, M y → (⟨(y : Int), (y' : Int)⟩ : Pr) ∈ ss → M y'
  lab : ∀ y : Nat, M y → ∃ r : Nat, L y = some (r : Int) ∧ Rch ss y r ∧ ∀ z, Rch ss y z → r ≤ z
  all : ∀ y : Nat, y < x → M y
theorem Cs.fwd {ss : List Pr} {x : Nat} {M : Nat → Prop} {L : Nat → Option Int} (h : Cs ss x M L) {a b : Nat} (hr : Rch ss a b) (ha : M a) : M b := by
  induction hr with
  | refl => exact ha
  | step e _ ih => exact ih (h.closed _ _ ha e)
theorem Cs.step {ps : List Pr} {x : Nat} {M M' : Nat → Prop} {L L' : Nat → Option Int} (h : Cs (both ps) x M L) (hM : ∀ y, M y → M' y) (hx : M' x) (hc : ∀ y y' : Nat, M' y → ¬ M y → (⟨(y : Int), (y' : Int)⟩ : Pr) ∈ both ps → M' y')
    (hr : ∀ y, M' y → ¬ M y → Rch (both ps) x y) (h1 : ∀ y, M y → L' y = L y) (h2 : ∀ y, M' y → ¬ M y → L' y = some (x : Int)) : Cs (both ps) (x + 1) M' L' := by
  refine ⟨fun y y' hy he => ?_, fun y hy => ?_, fun y hy => ?_⟩
  · by_cases hm : M y
    · exact hM _ (h.closed y y' hm he)
    · exact hc y y' hy hm he
  · by_cases hm : M y
    · obtain ⟨r, h3, h4⟩ := h.lab y hm
      exact ⟨r, (h1 y hm).trans h3, h4⟩
    · refine ⟨x, h2 y hy hm, (hr y hy hm).symm, fun z hz => ?_⟩
      rcases Nat.lt_or_ge z x with hzx | hzx
      · exact absurd (h.fwd hz.symm (h.all z hzx)) hm
      · exact hzx
  · rcases Nat.lt_succ_iff_lt_or_eq.1 hy with h3 | h3
    · exact hM y (h.all y h3)
    · rw [h3]; exact hx
theorem Cs.skip {ps : List Pr} {x : Nat} {M : Nat → Prop} {L : Nat → Option Int} (h : Cs ps x M L) (hx : M x) : Cs ps (x + 1) M L :=
  ⟨h.closed, h.lab, fun y hy => by
    rcases Nat.lt_succ_iff_lt_or_eq.1 hy with h3 | h3
    · exact h.all y h3
    · rw [h3]; exact hx⟩
/-- the list of the classes -/
def CL (ss : List Pr) (n : Nat) (l : List Int) : Prop := l.length = n ∧ ∀ y : Nat, y < n → ∃ r : Nat, l[y]? = some (r : Int) ∧ Rch ss y r ∧ ∀ z, Rch ss y z → r ≤ z
theorem CL.one {ss : List Pr} {n : Nat} {l k : List Int} (h : CL ss n l) (g : CL ss n k) : l = k := by
  apply List.ext_getElem?
  intro y
  by_cases hy : y < n
  · obtain ⟨r, h1, h2, h3⟩ := h.2 y hy
    obtain ⟨s, g1, g2, g3⟩ := g.2 y hy
    have := h3 s g2
    have := g3 r h2
    rw [h1, g1, show r = s by omega]
  · rw [List.getElem?_eq_none (by rw [h.1]; omega), List.getElem?_eq_none (by rw [g.1]; omega)]
theorem Cs.fin {ss : List Pr} {n : Nat} {M : Nat → Prop} {l : List Int} (h : Cs ss n M (fun y => l[y]?)) (hl : l.length = n) : CL ss n l := ⟨hl, fun y hy => h.lab y (h.all y hy)⟩
theorem Cs.start (ss : List Pr) (L : Nat → Option Int) (M : Nat → Prop) (hM : ∀ y, ¬ M y) : Cs ss 0 M L := ⟨fun y _ h => absurd h (hM y), fun y h => absurd h (hM y), fun y h => absurd h (Nat.not_lt_zero _)⟩
/-- the labels of what was told -/
def lbl (f : Int) (l : List Int) (t : List Nat) : List Int := t.foldl (fun l y => l.set y f) l
theorem lbl_snoc (f : Int) (l : List Int) (t : List Nat) (x : Nat) : lbl f l (t ++ [x]) = (lbl f l t).set x f := by simp [lbl]
theorem lbl_len (f : Int) : ∀ (t : List Nat) (l : List Int), (lbl f l t).length = l.length
  | [], l => rfl
  | y :: t, l => by
    have := lbl_len f t (l.set y f)
    rw [List.length_set] at this
    exact this
theorem lbl_get (f : Int) : ∀ (t : List Nat) (l : List Int) (y : Nat), (lbl f l t)[y]? = if y ∈ t ∧ y < l.length then some f else l[y]?
  | [], l, y => by simp [lbl]
  | z :: t, l, y => by
    have := lbl_get f t (l.set z f) y
    rw [List.length_set] at this
    show (lbl f (l.set z f) t)[y]? = _
    rw [this, List.getElem?_set]
    by_cases h1 : y ∈ t <;> by_cases h2 : y < l.length <;> by_cases h3 : z = y <;> simp [h1, h2, h3]
    · intro h4; exact absurd h4.symm h3
end Go.Proofs.Ytkfdlccacddbfaa
