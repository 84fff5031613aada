import Derived.Test.YtaploloedocgbaaDoorNms1
import Derived.Deep.OwnRows
namespace Go.Proofs.YtaploloedocgbaaDoor
open Go.ChangeShapes Go.WideShapes Go.ChangeAt Go.RowKit
set_option linter.unusedVariables false

theorem set_sum : ∀ (l : List Int) (p i : Nat) (v d : Int), l[p]? = some v → ((l.set p (v + d)).take (i + 1)).sum = (l.take (i + 1)).sum + (if p ≤ i then d else 0)
  | [], p, i, v, d, h => by simp at h
  | x :: l, 0, i, v, d, h => by
    simp at h; subst h
    simp
    omega
  | x :: l, p + 1, 0, v, d, h => by simp
  | x :: l, p + 1, i + 1, v, d, h => by
    have := set_sum l p i v d (by simpa using h)
    simp only [List.set_cons_succ, List.take_succ_cons, List.sum_cons, this]
    by_cases hp : p ≤ i
    · rw [if_pos hp, if_pos (by omega)]; omega
    · rw [if_neg hp, if_neg (by omega)]; omega

theorem take_sum_succ {l : List Int} {i : Nat} {v : Int} (h : l[i]? = some v) : (l.take (i + 1)).sum = (l.take i).sum + v := by
  rw [List.take_add_one, h]; simp

/-- how often some nodes' runs hold a piece -/
def one (ns : List Nd) (L a : Nat) (k : Int) : Int := match ns[k.toNat]? with | some x => (if spB x L ≤ a then 1 else 0) - (if spE x L ≤ a then 1 else 0) | none => 0
def cw (ns : List Nd) (L a : Nat) (ks : List Int) : Int := (ks.map (one ns L a)).sum

theorem cw_step {ns : List Nd} {L a : Nat} {ks : List Int} {j : Nat} {y : Int} (hy : ks[j]? = some y) : cw ns L a (ks.take (j + 1)) = cw ns L a (ks.take j) + one ns L a y := by
  unfold cw; rw [List.take_add_one, hy]; simp

theorem one_hld {ns : List Nd} {L a : Nat} {k : Int} (ha : a < L) : one ns L a k = if hld ns a k then 1 else 0 := by
  unfold one hld
  cases ns[k.toNat]? with
  | none => rfl
  | some x =>
    simp only
    have h := in_span (x := x) ha
    have hb := spB_le x L
    by_cases h1 : spB x L ≤ a
    · by_cases h2 : a < spE x L
      · have := h.1 ⟨h1, h2⟩
        rw [if_pos h1, if_neg (by omega), if_pos (by simp [this])]; rfl
      · have h3 : ¬ (x.f ≤ (a : Int) ∧ (a : Int) < x.e) := fun h3 => h2 (h.2 h3).2
        rw [if_pos h1, if_pos (by omega), if_neg (by simp; omega)]; rfl
    · have h3 : ¬ (x.f ≤ (a : Int) ∧ (a : Int) < x.e) := fun h3 => h1 (h.2 h3).1
      rw [if_neg h1, if_neg (by omega), if_neg (by simp; omega)]; rfl

theorem cw_zero (ns : List Nd) {L a : Nat} (ha : a < L) : ∀ ks : List Int, 0 ≤ cw ns L a ks ∧ cw ns L a ks ≤ ks.length ∧ (cw ns L a ks = 0 ↔ cvr ns ks a = false)
  | [] => by simp [cw, cvr]
  | k :: ks => by
    obtain ⟨h1, h2, h3⟩ := cw_zero ns ha ks
    have e1 : cw ns L a (k :: ks) = one ns L a k + cw ns L a ks := by simp [cw]
    have e2 : cvr ns (k :: ks) a = (hld ns a k || cvr ns ks a) := by simp [cvr]
    rw [e1, e2, one_hld ha]
    cases hh : hld ns a k
    · exact ⟨by simpa using h1, by simp; omega, by simpa using h3⟩
    · exact ⟨by simp; omega, by simp; omega, by simp; omega⟩

/-- where a place lies within a run -/
def clp (b e p : Nat) : Nat := min (max p b) e - b
theorem clp_le {b e p : Nat} (h : b ≤ e) : clp b e p ≤ e - b := by unfold clp; omega
theorem clp_at {b e p i : Nat} (h : i < e - b) : clp b e p ≤ i ↔ p ≤ b + i := by unfold clp; omega

/-- the row of turns, of the kids that were looked at -/
structure Tu (ns : List Nd) (L b e : Nat) (ks : List Int) (tu : List Int) : Prop where
  len : tu.length = e - b + 1
  sum : ∀ i, i < e - b → (tu.take (i + 1)).sum = cw ns L (b + i) ks
  bnd : ∀ v ∈ tu, -(ks.length : Int) ≤ v ∧ v ≤ ks.length

theorem Tu.start (ns : List Nd) (L b e : Nat) : Tu ns L b e [] (List.replicate (e - b + 1) 0) :=
  ⟨by simp, fun i hi => by simp [cw, List.take_replicate, List.sum_replicate_int], fun v hv => by have := List.eq_of_mem_replicate hv; subst this; simp⟩

theorem Tu.step {ns : List Nd} {L b e : Nat} {ks tu : List Int} (h : Tu ns L b e ks tu) (hbe : b ≤ e) {k : Nat} {x : Nd} (hx : ns[k]? = some x) {v1 v2 : Int} (h1 : tu[clp b e (spB x L)]? = some v1) (h2 : (tu.set (clp b e (spB x L)) (v1 + 1))[clp b e (spE x L)]? = some v2) :
    Tu ns L b e (ks ++ [(k : Int)]) ((tu.set (clp b e (spB x L)) (v1 + 1)).set (clp b e (spE x L)) (v2 - 1)) := by
  refine ⟨by simp [h.len], fun i hi => ?_, ?_⟩
  · have e1 := set_sum tu _ i v1 1 h1
    have e2 := set_sum (tu.set (clp b e (spB x L)) (v1 + 1)) _ i v2 (-1) h2
    rw [show v2 - 1 = v2 + -1 by omega, e2, e1, h.sum i hi]
    have e3 : cw ns L (b + i) (ks ++ [(k : Int)]) = cw ns L (b + i) ks + one ns L (b + i) k := by simp [cw]
    rw [e3]
    unfold one
    rw [Int.toNat_natCast, hx]
    simp only [clp_at hi]
    by_cases c1 : spB x L ≤ b + i <;> by_cases c2 : spE x L ≤ b + i <;> simp [c1, c2] <;> omega
  · intro v hv
    have hlen : ((ks ++ [(k : Int)]).length : Int) = ks.length + 1 := by simp
    rw [hlen]
    have hv1 := h.bnd v1 (List.mem_of_getElem? h1)
    have key : ∀ u ∈ tu.set (clp b e (spB x L)) (v1 + 1), u = v1 + 1 ∨ u ∈ tu := fun u hu => by
      rcases List.mem_or_eq_of_mem_set hu with h | h
      · exact .inr h
      · exact .inl h
    have hv2 : (v2 = v1 + 1 ∨ v2 ∈ tu) := key v2 (List.mem_of_getElem? h2)
    rcases List.mem_or_eq_of_mem_set hv with h3 | h3
    · rcases key v h3 with rfl | h4
      · omega
      · have := h.bnd v h4; omega
    · subst h3
      rcases hv2 with rfl | h4
      · omega
      · have := h.bnd v2 h4; omega
end Go.Proofs.YtaploloedocgbaaDoor
