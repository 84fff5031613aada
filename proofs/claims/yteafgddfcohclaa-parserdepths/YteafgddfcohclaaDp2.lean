import Derived.Test.YteafgddfcohclaaDp
import Derived.Test.YteafgddfcohclaaLent
import Derived.Deep.DeepCutAuto
namespace Go.Proofs.Yteafgddfcohclaa
open Go.ChangeShapes Go.WideShapes Go.ChangeAt Go.RowKit
set_option linter.unusedVariables false

/-- the ends of the open nodes, as they lie: the outermost first -/
def ups (es : List Nat) : List Int := es.reverse.map Int.ofNat
theorem ups_length (es : List Nat) : (ups es).length = es.length := by simp [ups]
theorem ups_cons (e : Nat) (r : List Nat) : ups (e :: r) = ups r ++ [(e : Int)] := by simp [ups]
theorem ups_top (e : Nat) (r : List Nat) : (ups (e :: r))[r.length]? = some (e : Int) := by
  rw [ups_cons, List.getElem?_append_right (by rw [ups_length]; exact Nat.le_refl _), ups_length]; simp

theorem own_shrink {w : World} {base g n cap : Nat} {xs : List Int} {y : Int} (hn : n = xs.length) (h : w.ownsRow base 3 1 (.slice (some ⟨g, 0, none⟩) (n + 1) cap) (n + 1) (flat (xs ++ [y]))) :
    w.ownsRow base 3 1 (.slice (some ⟨g, 0, none⟩) n cap) n (flat xs) := by
  obtain ⟨h1, h2⟩ := h
  rcases h2 with ⟨h2, _⟩ | ⟨g', cap', cur, hv, hg, hh, h3, h4, h5, h6⟩
  · cases h2
  · simp only [Value.slice.injEq, Option.some.injEq, Addr.mk.injEq, and_true, true_and] at hv
    obtain ⟨rfl, rfl⟩ := hv
    have hl : (flat xs).length = n := by rw [flat_length, hn]; exact Nat.mul_one _
    refine ⟨by rw [hl, Nat.mul_one], .inr ⟨g, cap, cur, rfl, hg, hh, by omega, h4, h5, ?_⟩⟩
    have hx : List.take n (flat (xs ++ [y])) = flat xs := by
      rw [flat_append, List.take_append_of_le_length (by omega), List.take_of_length_le (by omega)]
    rw [Nat.mul_one, ← hx, ← h6, List.take_take, Nat.min_eq_left (by omega)]

/-- the open nodes at a place -/
structure Opn (ns : List Nd) (k : Nat) (es : List Nat) (d : Nat) : Prop where
  ge : ∀ e ∈ es, k ≤ e ∧ e ≤ ns.length
  so : es.Pairwise (· ≤ ·)
  me : ns.length ∈ es
  eq : dpt ns = (cnt ns k es d).getD 0
  le : es.length ≤ d

theorem Opn.pop {ns : List Nd} {k d : Nat} {r : List Nat} (h : Opn ns k (k :: r) d) (hk : k < ns.length) : Opn ns k r d :=
  ⟨fun e he => h.ge e (by simp [he]), (List.pairwise_cons.1 h.so).2, by have := h.me; simp at this; rcases this with h1 | h1; omega; exact h1, by rw [h.eq, cnt_pop (by have := h.le; simpa using this)], by have := h.le; simp at this; omega⟩

theorem Opn.push {ns : List Nd} {k e z d : Nat} {x : Nd} {r : List Nat} (h : Opn ns k (e :: r) d) (hke : k < e) (hx : ns[k]? = some x) (hz : x.s = z) (h1 : 1 ≤ z) (h2 : z + k ≤ e) :
    Opn ns (k + 1) ((k + z) :: e :: r) (max d (r.length + 2)) := by
  have hs := List.pairwise_cons.1 h.so
  refine ⟨?_, List.pairwise_cons.2 ⟨?_, h.so⟩, by simp [h.me], by rw [h.eq, cnt_push hke hx hz h1 h2], by simp; omega⟩
  · intro e' he'
    simp only [List.mem_cons] at he'
    have hle := (h.ge e (by simp)).2
    rcases he' with rfl | rfl | he'
    · omega
    · omega
    · have := hs.1 e' he'; have := (h.ge e' (by simp [he'])).2; omega
  · intro e' he'
    simp only [List.mem_cons] at he'
    rcases he' with rfl | he'
    · omega
    · have := hs.1 e' he'; omega

theorem Opn.bad {ns : List Nd} {k e d : Nat} {x : Nd} {r : List Nat} (h : Opn ns k (e :: r) d) (hke : k < e) (hx : ns[k]? = some x) (hs : ¬ (1 ≤ x.s ∧ x.s ≤ (e : Int) - k)) : dpt ns = 0 := by
  rw [h.eq, cnt_bad hke hx hs]; rfl

theorem Opn.done {ns : List Nd} {d : Nat} {es : List Nat} (h : Opn ns ns.length es d) : dpt ns = d := by
  rw [h.eq, cnt_done (fun e he => by have := h.ge e he; omega) h.le]; rfl

theorem Opn.start {ns : List Nd} {x : Nd} (hx : ns[0]? = some x) (hs : x.s = (ns.length : Int)) (hl : 1 ≤ ns.length) : Opn ns 1 [ns.length] 1 := by
  refine ⟨by simp; omega, by simp, by simp, ?_, by simp⟩
  unfold dpt
  rw [hx]
  simp only
  rw [if_pos hs]
  unfold cnt cnt dp1
  cases dp ns 1 ns.length with
  | none => rfl
  | some a => simp; omega

theorem dpt_bad {ns : List Nd} {x : Nd} (hx : ns[0]? = some x) (hs : ¬ x.s = (ns.length : Int)) : dpt ns = 0 := by
  unfold dpt; rw [hx]; simp only; rw [if_neg hs]
end Go.Proofs.Yteafgddfcohclaa
