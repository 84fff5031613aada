import Derived.Test.YtkfdlccacddbfaaGp3
import Derived.Test.YtkfdlccacddbfaaGq4
namespace Go.Proofs.Ytkfdlccacddbfaa
open Go.ChangeShapes Go.WideShapes Go.ChangeAt Go.RowKit
set_option linter.unusedVariables false
set_option linter.unusedSimpArgs false

/-- has it a label? -/
def Mt (l : List Int) (y : Nat) : Prop := ∃ v, l[y]? = some v ∧ 0 ≤ v
/-- a search for a class: labels l0 before it, l now, a stack q; P: what is being looked at -/
structure Cf (ps : List Pr) (n i : Nat) (l0 : List Int) (P : Nat → Prop) (l : List Int) (q : List Nat) : Prop where
  len0 : l0.length = n
  sgn0 : ∀ (y : Nat) v, l0[y]? = some v → 0 ≤ v ∨ v = -1
  len : l.length = n
  sgn : ∀ (y : Nat) v, l[y]? = some v → 0 ≤ v ∨ v = -1
  old : ∀ (y : Nat) v, l0[y]? = some v → 0 ≤ v → l[y]? = some v
  new : ∀ (y : Nat) v, l[y]? = some v → 0 ≤ v → l0[y]? = some v ∨ (v = (i : Int) ∧ Rch (both ps) i y)
  qm : ∀ y ∈ q, Mt l y ∧ Rch (both ps) i y
  start : Mt l i
  closed : ∀ y y' : Nat, Mt l y → y ∉ q → ¬ P y → (⟨(y : Int), (y' : Int)⟩ : Pr) ∈ both ps → Mt l y'
theorem set_int {l : List Int} {x y : Nat} {f : Int} : (l.set x f)[y]? = if x = y ∧ y < l.length then some f else l[y]? := by
  rw [List.getElem?_set]
  by_cases h : x = y
  · subst h
    by_cases h2 : x < l.length
    · rw [if_pos rfl, if_pos h2, if_pos ⟨rfl, h2⟩]
    · rw [if_pos rfl, if_neg h2, if_neg (fun h => h2 h.2), List.getElem?_eq_none (by omega)]
  · rw [if_neg h, if_neg (fun h3 => h h3.1)]
theorem Mt.set {l : List Int} {x y i : Nat} (h : Mt l y) : Mt (l.set x (i : Int)) y := by
  obtain ⟨v, h1, h2⟩ := h
  rw [Mt, set_int]
  by_cases hc : x = y ∧ y < l.length
  · rw [if_pos hc]; exact ⟨_, rfl, by omega⟩
  · rw [if_neg hc]; exact ⟨v, h1, h2⟩
theorem Mt.here {l : List Int} {x i : Nat} (h : x < l.length) : Mt (l.set x (i : Int)) x := ⟨(i : Int), by rw [set_int, if_pos ⟨rfl, h⟩], by omega⟩
theorem Mt.inv {l : List Int} {x y i : Nat} (h : Mt (l.set x (i : Int)) y) : Mt l y ∨ y = x := by
  obtain ⟨v, h1, h2⟩ := h
  rw [set_int] at h1
  by_cases hc : x = y ∧ y < l.length
  · exact .inr hc.1.symm
  · rw [if_neg hc] at h1; exact .inl ⟨v, h1, h2⟩
theorem Cf.first {ps : List Pr} {n i : Nat} {l0 : List Int} (hC : Cs (both ps) i (Mt l0) (fun y => l0[y]?)) (h0 : l0.length = n) (hs : ∀ (y : Nat) v, l0[y]? = some v → 0 ≤ v ∨ v = -1) (hi : l0[i]? = some (-1)) : Cf ps n i l0 (fun _ => False) (l0.set i (i : Int)) [i] := by
  have hil := (List.getElem?_eq_some_iff.1 hi).1
  refine ⟨h0, hs, by rw [List.length_set]; exact h0, fun y v hv => ?_, fun y v hv hp => ?_, fun y v hv hp => ?_, fun y hy => ?_, Mt.here hil, fun y y' hy hq _ he => ?_⟩
  · rw [set_int] at hv
    split at hv
    · cases hv; exact .inl (by omega)
    · exact hs y v hv
  · rw [set_int, if_neg (fun hc => by rw [← hc.1, hi] at hv; cases hv; omega)]
    exact hv
  · rw [set_int] at hv
    by_cases hc : i = y ∧ y < l0.length
    · rw [if_pos hc] at hv; cases hv; exact .inr ⟨rfl, by rw [← hc.1]; exact .refl _⟩
    · rw [if_neg hc] at hv; exact .inl hv
  · rw [List.mem_singleton] at hy; subst hy; exact ⟨Mt.here hil, .refl _⟩
  · rcases hy.inv with h1 | h1
    · exact (hC.closed y y' h1 he).set
    · exact absurd h1 (by simpa using hq)
theorem Cf.pop {ps : List Pr} {n i x : Nat} {l0 l : List Int} {q : List Nat} (h : Cf ps n i l0 (fun _ => False) l (q ++ [x])) : Cf ps n i l0 (fun y => y = x) l q :=
  ⟨h.len0, h.sgn0, h.len, h.sgn, h.old, h.new, fun y hy => h.qm y (List.mem_append_left _ hy), h.start, fun y y' hy hq hP he => h.closed y y' hy (fun hc => by rcases List.mem_append.1 hc with hc | hc; exact hq hc; exact hP (by simpa using hc)) id he⟩
theorem Cf.push {ps : List Pr} {n i x y : Nat} {l0 l : List Int} {q : List Nat} (h : Cf ps n i l0 (fun y => y = x) l q) (hx : Rch (both ps) i x) (hy : l[y]? = some (-1)) (he : (⟨(x : Int), (y : Int)⟩ : Pr) ∈ both ps) : Cf ps n i l0 (fun y => y = x) (l.set y (i : Int)) (q ++ [y]) := by
  have hyl := (List.getElem?_eq_some_iff.1 hy).1
  have hry : Rch (both ps) i y := hx.trans (.step he (.refl _))
  refine ⟨h.len0, h.sgn0, by rw [List.length_set]; exact h.len, fun z v hv => ?_, fun z v hv hp => ?_, fun z v hv hp => ?_, fun z hz => ?_, h.start.set, fun z z' hz hq hP hzz => ?_⟩
  · rw [set_int] at hv
    split at hv
    · cases hv; exact .inl (by omega)
    · exact h.sgn z v hv
  · have h1 := h.old z v hv hp
    rw [set_int, if_neg (fun hc => by rw [← hc.1, hy] at h1; cases h1; omega)]
    exact h1
  · rw [set_int] at hv
    by_cases hc : y = z ∧ z < l.length
    · rw [if_pos hc] at hv; cases hv; exact .inr ⟨rfl, by rw [← hc.1]; exact hry⟩
    · rw [if_neg hc] at hv; exact h.new z v hv hp
  · rcases List.mem_append.1 hz with hz | hz
    · exact ⟨(h.qm z hz).1.set, (h.qm z hz).2⟩
    · rw [List.mem_singleton] at hz; subst hz; exact ⟨Mt.here hyl, hry⟩
  · rw [List.mem_append, not_or, List.mem_singleton] at hq
    rcases hz.inv with hz | hz
    · exact (h.closed z z' hz hq.1 hP hzz).set
    · exact absurd hz hq.2
theorem Cf.done {ps : List Pr} {n i x : Nat} {l0 l : List Int} {q : List Nat} (h : Cf ps n i l0 (fun y => y = x) l q) (hd : ∀ y' : Nat, (⟨(x : Int), (y' : Int)⟩ : Pr) ∈ both ps → Mt l y') : Cf ps n i l0 (fun _ => False) l q :=
  ⟨h.len0, h.sgn0, h.len, h.sgn, h.old, h.new, h.qm, h.start, fun y y' hy hq _ he => by
    by_cases e : y = x
    · subst e; exact hd y' he
    · exact h.closed y y' hy hq e he⟩
theorem Cf.fin {ps : List Pr} {n i : Nat} {l0 l : List Int} (h : Cf ps n i l0 (fun _ => False) l []) (hC : Cs (both ps) i (Mt l0) (fun y => l0[y]?)) : Cs (both ps) (i + 1) (Mt l) (fun y => l[y]?) := by
  refine hC.step (fun y ⟨v, h1, h2⟩ => ⟨v, h.old y v h1 h2, h2⟩) h.start (fun y y' h1 _ he => h.closed y y' h1 (by simp) id he) (fun y ⟨v, h1, h2⟩ h3 => ?_) (fun y ⟨v, h1, h2⟩ => ?_) (fun y ⟨v, h1, h2⟩ h3 => ?_)
  · rcases h.new y v h1 h2 with h4 | h4
    · exact absurd ⟨v, h4, h2⟩ h3
    · exact h4.2
  · show l[y]? = l0[y]?
    rw [h1, h.old y v h1 h2]
  · show l[y]? = _
    rcases h.new y v h1 h2 with h4 | h4
    · exact absurd ⟨v, h4, h2⟩ h3
    · rw [h1, h4.1]
/-- the marks of labels -/
def mks (l : List Int) : List Bool := l.map fun v => decide (0 ≤ v)
theorem mks_set {l : List Int} {y i : Nat} (hy : l[y]? = some (-1)) : unm (mks (l.set y (i : Int))) + 1 = unm (mks l) := by
  have h1 : mks (l.set y (i : Int)) = (mks l).set y true := by
    unfold mks
    rw [List.map_set, decide_eq_true (show (0 : Int) ≤ (i : Int) by omega)]
  rw [h1]
  refine unm_set _ _ ?_
  unfold mks
  rw [List.getElem?_map, hy]
  rfl
theorem mks_le (l : List Int) : unm (mks l) ≤ l.length := by
  have h1 := List.length_filter_le (fun b => !b) (mks l)
  unfold unm
  unfold mks at h1 ⊢
  rw [List.length_map] at h1
  exact h1
/-- the last one is taken off -/
theorem Qu.last {B : Nat} {w : World} {v : Value} {x : Nat} {xs : List Nat} (h : Qu B w v (xs ++ [x])) : ∃ g off cap, v = .slice (some ⟨g, off, none⟩) (xs.length + 1) cap ∧ xs.length + 1 ≤ cap ∧ w.cell? ⟨g, off + xs.length, none⟩ = some (.int .i64 (x : Int)) ∧ Qu B w (.slice (some ⟨g, off, none⟩) xs.length cap) xs := by
  obtain ⟨g, off, cap, cur, h1, h2, h3, h4, h5, h6⟩ := h
  simp only [List.length_append, List.length_cons, List.length_nil] at h1 h4
  refine ⟨g, off, cap, h1, h4, ?_, ⟨g, off, cap, cur, rfl, h2, h3, by omega, h5, fun j y hj => h6 j y (by rw [List.getElem?_append_left (List.getElem?_eq_some_iff.1 hj).1]; exact hj)⟩⟩
  rw [(cell_cur h3).1]
  exact h6 xs.length x (by rw [List.getElem?_append_right (Nat.le_refl _), Nat.sub_self]; rfl)
theorem split_last (q : List Nat) : q = [] ∨ ∃ p x, q = p ++ [x] := by
  rcases q.eq_nil_or_concat with h | ⟨p, x, h⟩
  · exact .inl h
  · exact .inr ⟨p, x, by rw [h, List.concat_eq_append]⟩
end Go.Proofs.Ytkfdlccacddbfaa
