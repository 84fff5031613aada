import Derived.Test.YtaploloedocgbaaDoorMn0
import Derived.Test.YtaploloedocgbaaDoorOw3
import Derived.Test.YtaploloedocgbaaDoorSk3
import Derived.Test.YtaploloedocgbaaDoorNam
namespace Go.Proofs.YtaploloedocgbaaDoor
open Go.ChangeShapes Go.WideShapes Go.ChangeAt Go.RowKit
set_option linter.unusedVariables false
set_option linter.unusedSimpArgs false

theorem nams_short (k : Nat) : (nmF nams k).length ≤ 12 := nams_12 k
theorem owl_len (ts : List Tk) (ns : List Nd) (n : Int) : (owl ts ns n).length ≤ ts.length := by
  by_cases h : n < 0
  · rw [owl_neg h]; simp
  · obtain ⟨m, rfl⟩ : ∃ m : Nat, n = m := ⟨n.toNat, by omega⟩
    cases hx : ns[m]? with
    | none => rw [owl_big (by have := List.getElem?_eq_none_iff.1 hx; omega)]; simp
    | some x =>
      rw [owl_at hx]
      exact Nat.le_trans (List.length_filter_le _ _) (Nat.le_trans (tkl_len _ _ _) (by have := spE_le x ts.length; omega))
theorem flat_put {α : Type} [Rw α] : ∀ (xs : List α) (i r : Nat) (x y : α) (v : Value), xs[i]? = some x → r < Rw.k α → (Rw.cs x).set r v = Rw.cs y → (flat xs).set (i * Rw.k α + r) v = flat (xs.set i y)
  | [], i, r, x, y, v, h, _, _ => by simp at h
  | z :: t, 0, r, x, y, v, h, hr, hc => by
    simp at h; subst h
    rw [flat_cons, List.set_cons_zero, flat_cons, Nat.zero_mul, Nat.zero_add, List.set_append_left _ _ (by rw [Rw.len]; exact hr), hc]
  | z :: t, i + 1, r, x, y, v, h, hr, hc => by
    have ih := flat_put t i r x y v (by simpa using h) hr hc
    rw [flat_cons, List.set_cons_succ, flat_cons, ← ih, show (i + 1) * Rw.k α + r = (Rw.cs z).length + (i * Rw.k α + r) by rw [Rw.len, Nat.add_mul, Nat.one_mul]; omega, List.set_append_right _ _ (by omega), Nat.add_sub_cancel_left]
theorem Mn.setN {w0 : World} {b B fb cb g1 g2 m : Nat} {s : ByteArray} {F : Array Value} {ts : List Tk} {ns : List Nd} {w : World} {V U I J : Value} {rn un ri ui : List Rr} (h : Mn w0 b B fb cb g1 g2 m s F ts ns w V U I J rn un ri ui) {i r : Nat} {x y : Nd} {v : Value} (hx : ns[i]? = some x) (hr : r < 4) (hc : (Rw.cs x).set r v = Rw.cs y) :
    Mn w0 b B fb cb g1 g2 m s F ts (ns.set i y) (w.setCell ⟨g2, i * 4 + r, none⟩ v) V U I J rn un ri ui := by
  have hi := (List.getElem?_eq_some_iff.1 hx).1
  have k1 := h.lb; have k2 := h.lf; have k3 := h.lc; have k4 := h.l1; have k5 := h.l2
  have hcg : g2 ≠ cb := fun e => bx_row h.bc h.on (by decide) (by rw [← e]; rfl)
  have hgg : g2 ≠ g1 := fun e => own_otherR h.ot h.on (by decide) rfl (by rw [e]; rfl)
  have hon := (h.on.stored (i * 4 + r) v).1
  rw [show i * 4 + r = i * Rw.k Nd + r from rfl, flat_put (ns ++ nmarks) i r x y v (by rw [List.getElem?_append_left hi]; exact hx) hr hc, List.set_append_left _ _ hi] at hon
  refine ⟨⟨h.sh.box.other ⟨g2, i * 4 + r, none⟩ (show b ≠ g2 by omega) v, h.sh.n.box k5.2 _ _, h.sh.i.box k5.2 _ _, h.sh.lt, by have := h.sh.le; simpa using this⟩, h.sn, h.si, h.nm, h.bf.other ⟨g2, i * 4 + r, none⟩ (show fb ≠ g2 by omega) v, ?_, ?_, ?_, h.bel.setCell (p := ⟨g2, i * 4 + r, none⟩) (show w0.heap.size ≤ g2 by omega) v, h.lb, h.lf, h.lc, h.l1, h.l2⟩
  · rw [List.length_set]; exact h.bc.other ⟨g2, i * 4 + r, none⟩ (show cb ≠ g2 from fun e => hcg e.symm) v
  · exact ownsRow_setCell_other h.ot (a := ⟨g2, i * 4 + r, none⟩) (fun e => by cases e; exact hgg rfl) v
  · rw [List.length_set]; exact hon
theorem Mn.setT {w0 : World} {b B fb cb g1 g2 m : Nat} {s : ByteArray} {F : Array Value} {ts : List Tk} {ns : List Nd} {w : World} {V U I J : Value} {rn un ri ui : List Rr} (h : Mn w0 b B fb cb g1 g2 m s F ts ns w V U I J rn un ri ui) {i r : Nat} {x y : Tk} {v : Value} (hx : ts[i]? = some x) (hr : r < 3) (hc : (Rw.cs x).set r v = Rw.cs y) :
    Mn w0 b B fb cb g1 g2 m s F (ts.set i y) ns (w.setCell ⟨g1, i * 3 + r, none⟩ v) V U I J rn un ri ui := by
  have hi := (List.getElem?_eq_some_iff.1 hx).1
  have k1 := h.lb; have k2 := h.lf; have k3 := h.lc; have k4 := h.l1; have k5 := h.l2
  have hcg : g1 ≠ cb := fun e => bx_row h.bc h.ot (by decide) (by rw [← e]; rfl)
  have hgg : g1 ≠ g2 := fun e => own_otherR h.on h.ot (by decide) rfl (by rw [e]; rfl)
  have hot := (h.ot.stored (i * 3 + r) v).1
  rw [show i * 3 + r = i * Rw.k Tk + r from rfl, flat_put (ts ++ tmarks) i r x y v (by rw [List.getElem?_append_left hi]; exact hx) hr hc, List.set_append_left _ _ hi] at hot
  refine ⟨⟨h.sh.box.other ⟨g1, i * 3 + r, none⟩ (show b ≠ g1 by omega) v, h.sh.n.box k4.2 _ _, h.sh.i.box k4.2 _ _, h.sh.lt, by have := h.sh.le; simpa using this⟩, h.sn, h.si, h.nm, h.bf.other ⟨g1, i * 3 + r, none⟩ (show fb ≠ g1 by omega) v, ?_, ?_, ?_, h.bel.setCell (p := ⟨g1, i * 3 + r, none⟩) (show w0.heap.size ≤ g1 by omega) v, h.lb, h.lf, h.lc, h.l1, h.l2⟩
  · rw [List.length_set]; exact h.bc.other ⟨g1, i * 3 + r, none⟩ (show cb ≠ g1 from fun e => hcg e.symm) v
  · rw [List.length_set]; exact hot
  · exact ownsRow_setCell_other h.on (a := ⟨g1, i * 3 + r, none⟩) (fun e => by cases e; exact hgg rfl) v
theorem fit_set {α : Type} {P : α → Prop} {xs : List α} (h : ∀ e ∈ xs, P e) (i : Nat) {y : α} (hy : P y) : ∀ e ∈ xs.set i y, P e := fun e he => by
  rcases List.mem_or_eq_of_mem_set he with h1 | h1
  · exact h e h1
  · rw [h1]; exact hy
/-- a fact that is found on one way serves on all -/
theorem shared {α : Type} {Fin P : α → Prop} {G : Prop} (h1 : (∀ x, Fin x → P x) → G) (h2 : ∀ x, Fin x → P x) : G := h1 h2
end Go.Proofs.YtaploloedocgbaaDoor
