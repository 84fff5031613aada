import Derived.Test.YteafgddfcohclaaRec
namespace Go.Proofs.Yteafgddfcohclaa
open Go.ChangeShapes Go.WideShapes Go.ChangeAt Go.RowKit
set_option linter.unusedVariables false

/-- how deep the nodes from one on, up to an end, lie within one another -/
def dp (ns : List Nd) (i e : Nat) : Option Nat :=
  if h : i < e then
    match ns[i]? with
    | none => none
    | some x => if hs : 1 ≤ x.s ∧ x.s ≤ (e : Int) - i then (dp ns (i + 1) (i + x.s.toNat)).bind fun a => (dp ns (i + x.s.toNat) e).map fun b => max (a + 1) b else none
  else some 0
termination_by e - i
decreasing_by all_goals omega

theorem dp_end {ns : List Nd} {i e : Nat} (h : ¬ i < e) : dp ns i e = some 0 := by rw [dp, dif_neg h]
theorem dp_bad {ns : List Nd} {i e : Nat} {x : Nd} (h : i < e) (hx : ns[i]? = some x) (hs : ¬ (1 ≤ x.s ∧ x.s ≤ (e : Int) - i)) : dp ns i e = none := by
  rw [dp, dif_pos h, hx]; simp only; rw [dif_neg hs]
theorem dp_step {ns : List Nd} {i e : Nat} {x : Nd} {z : Nat} (h : i < e) (hx : ns[i]? = some x) (hz : x.s = z) (h1 : 1 ≤ z) (h2 : z + i ≤ e) :
    dp ns i e = (dp ns (i + 1) (i + z)).bind fun a => (dp ns (i + z) e).map fun b => max (a + 1) b := by
  rw [dp, dif_pos h, hx]; simp only; rw [dif_pos ⟨by omega, by omega⟩, hz, Int.toNat_natCast]

theorem dp_le (ns : List Nd) : ∀ (d i e : Nat), e - i ≤ d → ∀ a, dp ns i e = some a → a ≤ e - i := by
  intro d
  induction d with
  | zero => intro i e hd a h; rw [dp_end (by omega)] at h; cases h; omega
  | succ d ih =>
    intro i e hd a h
    by_cases hi : i < e
    · cases hx : ns[i]? with
      | none => rw [dp, dif_pos hi, hx] at h; simp at h
      | some x =>
        by_cases hs : 1 ≤ x.s ∧ x.s ≤ (e : Int) - i
        · obtain ⟨z, hz⟩ : ∃ z : Nat, x.s = z := ⟨x.s.toNat, by omega⟩
          rw [dp_step hi hx hz (by omega) (by omega)] at h
          obtain ⟨a', h1, h2⟩ := Option.bind_eq_some_iff.1 h
          obtain ⟨b', h3, rfl⟩ := Option.map_eq_some_iff.1 h2
          have := ih (i + 1) (i + z) (by omega) a' h1
          have := ih (i + z) e (by omega) b' h3
          omega
        · rw [dp_bad hi hx hs] at h; cases h
    · rw [dp_end hi] at h; cases h; omega

/-- what comes of the rest: the ends of the nodes that are open, the innermost first, and the deepest so far -/
def cnt (ns : List Nd) : Nat → List Nat → Nat → Option Nat
  | _, [], d => some d
  | i, e :: r, d => (dp ns i e).bind fun a => cnt ns e r (max d (r.length + 1 + a))

theorem cnt_pop {ns : List Nd} {i : Nat} {r : List Nat} {d : Nat} (h : r.length + 1 ≤ d) : cnt ns i (i :: r) d = cnt ns i r d := by
  rw [cnt, dp_end (by omega)]
  show cnt ns i r (max d (r.length + 1 + 0)) = _
  rw [Nat.max_eq_left (by omega)]

theorem cnt_push {ns : List Nd} {i e z : Nat} {x : Nd} {r : List Nat} {d : Nat} (h : i < e) (hx : ns[i]? = some x) (hz : x.s = z) (h1 : 1 ≤ z) (h2 : z + i ≤ e) :
    cnt ns i (e :: r) d = cnt ns (i + 1) ((i + z) :: e :: r) (max d (r.length + 2)) := by
  rw [cnt, dp_step h hx hz h1 h2, cnt]
  cases dp ns (i + 1) (i + z) with
  | none => rfl
  | some a =>
    simp only [Option.bind_some]
    rw [cnt]
    cases dp ns (i + z) e with
    | none => rfl
    | some b =>
      simp only [Option.map_some, Option.bind_some]
      congr 1
      simp only [List.length_cons]
      omega

theorem cnt_bad {ns : List Nd} {i e : Nat} {x : Nd} {r : List Nat} {d : Nat} (h : i < e) (hx : ns[i]? = some x) (hs : ¬ (1 ≤ x.s ∧ x.s ≤ (e : Int) - i)) : cnt ns i (e :: r) d = none := by
  rw [cnt, dp_bad h hx hs]; rfl

theorem cnt_done {ns : List Nd} {i : Nat} : ∀ {r : List Nat} {d : Nat}, (∀ e ∈ r, e = i) → r.length ≤ d → cnt ns i r d = some d
  | [], _, _, _ => rfl
  | e :: r, d, h, hd => by
    have he : e = i := h e (by simp)
    subst he
    rw [cnt_pop (by simpa using hd)]
    exact cnt_done (fun e' h' => h e' (by simp [h'])) (by simp at hd; omega)

/-- one more; nothing: 0 -/
def dp1 (o : Option Nat) : Nat := (o.map (· + 1)).getD 0

/-- Depth -/
def dpt (ns : List Nd) : Nat := match ns[0]? with | none => 0 | some x => if x.s = (ns.length : Int) then dp1 (dp ns 1 ns.length) else 0
end Go.Proofs.Yteafgddfcohclaa
