import Derived.Test.YtkfdlccacddbfaaGr1
import Derived.Test.YtkfdlccacddbfaaGp
namespace Go.Proofs.Ytkfdlccacddbfaa
open Go.ChangeShapes Go.WideShapes Go.ChangeAt Go.RowKit
set_option linter.unusedVariables false
set_option linter.unusedSimpArgs false

theorem Bx.neR {w : World} {b B e s n g : Nat} {vs : Array Value} {t : TypeId} {v : Value} {xs : List Value} (h : Bx w b vs t) (h' : w.ownsRow B e s v n xs) (hne : e ≠ t) (hg : v.ownBlock = some g) : b ≠ g := by
  intro e1
  obtain ⟨c, fz, hh⟩ := row_kindR h' g hg
  have h2 : w.heap[b]? = _ := h
  rw [e1, hh] at h2
  cases h2
  exact hne rfl
theorem Bx.ne {w : World} {b g : Nat} {vs us : Array Value} {t u : TypeId} (h : Bx w b vs t) (h' : Bx w g us u) (hne : t ≠ u) : b ≠ g := by
  intro e1
  have h2 : w.heap[b]? = _ := h
  have h3 : w.heap[g]? = _ := h'
  rw [e1, h3] at h2
  cases h2
  exact hne rfl
/-- a cell of another block is written -/
theorem Lv.far {B gV n g i : Nat} {w0 w : World} {rs : List Rr} {x : Value} (h : Lv B gV n w0 w rs) (hV : gV ≠ g) (hr : ∀ r ∈ rs, r.v.ownBlock ≠ some g) (hB : B ≤ g) : Lv B gV n w0 (w.setCell ⟨g, i, none⟩ x) rs := by
  refine ⟨⟨ownsRow_setCell_other h.she.outV (a := ⟨g, i, none⟩) (fun e => by cases e; exact hV rfl) _, World.ownsRow_nil _ _ _ _, fun r hr' => ?_, h.she.apart, h.she.outs⟩, h.len, h.bel.setCell (p := ⟨g, i, none⟩) hB _, by simp; exact h.base⟩
  rw [List.append_nil] at hr'
  exact ownsRow_setCell_other (h.she.each r (by rw [List.append_nil]; exact hr')) (a := ⟨g, i, none⟩) (hr r hr') _
theorem Lv.farRow {B gV n e s k i : Nat} {w0 w : World} {rs : List Rr} {v x : Value} {xs : List Value} {g : Nat} (h : Lv B gV n w0 w rs) (h' : w.ownsRow B e s v k xs) (h1 : e ≠ 21) (h2 : e ≠ 50) (hg : v.ownBlock = some g) : Lv B gV n w0 (w.setCell ⟨g, i, none⟩ x) rs :=
  h.far (fun e => own_otherR h.she.outV h' h2 hg (by rw [← e]; rfl)) (fun r hr => own_otherR (h.she.each r (by rw [List.append_nil]; exact hr)) h' h1 hg) (h'.lt g hg).1
theorem Lv.farBox {B gV n i : Nat} {w0 w : World} {rs : List Rr} {x : Value} {b : Nat} {vs : Array Value} {t : TypeId} (h : Lv B gV n w0 w rs) (h' : Bx w b vs t) (h1 : 21 ≠ t) (h2 : 50 ≠ t) (hB : B ≤ b) : Lv B gV n w0 (w.setCell ⟨b, i, none⟩ x) rs :=
  h.far (fun e => h'.neR h.she.outV h2 rfl e.symm) (fun r hr hb => h'.neR (h.she.each r (by rw [List.append_nil]; exact hr)) h1 hb rfl) hB
theorem Lv.grw {B gV n e s k : Nat} {w0 w w' : World} {rs : List Rr} {v : Value} {xs : List Value} (h : Lv B gV n w0 w rs) (h' : w.ownsRow B e s v k xs) (h1 : e ≠ 21) (h2 : e ≠ 50) (hg : w.grownBy w' v.ownBlock) : Lv B gV n w0 w' rs := by
  refine ⟨⟨own_grwR h.she.outV hg (fun g hr => own_otherR h.she.outV h' h2 hr), World.ownsRow_nil _ _ _ _, fun r hr' => ?_, h.she.apart, h.she.outs⟩, h.len, h.bel.grown hg h.base (fun g hr => (h'.lt g hr).1), Nat.le_trans h.base hg.size⟩
  rw [List.append_nil] at hr'
  have h9 := h.she.each r (by rw [List.append_nil]; exact hr')
  exact own_grwR h9 hg (fun g hr => own_otherR h9 h' h1 hr)
/-- the walker's own: its lists, its marks, and the boxes that the closure holds -/
structure Wc (B bm bn bk bt gm gV n : Nat) (tv : Value) (w0 : World) (rs : List Rr) (m : List Bool) (z : World) : Prop where
  lv : Lv B gV n w0 z rs
  met : z.ownsRow B 4 1 (.slice (some ⟨gm, 0, none⟩) n n) n (m.map Value.bool)
  xm : Bx z bm #[.slice (some ⟨gm, 0, none⟩) n n] 43
  xn : Bx z bn #[.slice (some ⟨gV, 0, none⟩) n n] 40
  xk : Bx z bk #[.func (.func 26) #[] #[.pointer (some ⟨bm, 0, none⟩), .pointer (some ⟨bn, 0, none⟩), .pointer (some ⟨bk, 0, none⟩), .pointer (some ⟨bt, 0, none⟩)]] 38
  xt : Bx z bt #[tv] 38
theorem Wc.mlen {B bm bn bk bt gm gV n : Nat} {tv : Value} {w0 z : World} {rs : List Rr} {m : List Bool} (h : Wc B bm bn bk bt gm gV n tv w0 rs m z) : m.length = n := by
  have := h.met.1
  simpa using this
theorem Wc.get {B bm bn bk bt gm gV n : Nat} {tv : Value} {w0 z : World} {rs : List Rr} {m : List Bool} (h : Wc B bm bn bk bt gm gV n tv w0 rs m z) {x : Nat} {b : Bool} (hx : m[x]? = some b) : z.cell? ⟨gm, x, none⟩ = some (.bool b) ∧ z.frozen? ⟨gm, x, none⟩ = false := by
  have h1 := h.met.cells rfl x (.bool b) (by rw [List.getElem?_map, hx]; rfl)
  rw [addr_add, Nat.zero_add] at h1
  exact ⟨h1, h.met.frozenAt x⟩
theorem Wc.set {B bm bn bk bt gm gV n : Nat} {tv : Value} {w0 z : World} {rs : List Rr} {m : List Bool} (h : Wc B bm bn bk bt gm gV n tv w0 rs m z) (x : Nat) : Wc B bm bn bk bt gm gV n tv w0 rs (m.set x true) (z.setCell ⟨gm, x, none⟩ (.bool true)) := by
  refine ⟨h.lv.farRow h.met (by decide) (by decide) rfl, ?_, h.xm.other ⟨gm, x, none⟩ (h.xm.neR h.met (by decide) rfl) _, h.xn.other ⟨gm, x, none⟩ (h.xn.neR h.met (by decide) rfl) _, h.xk.other ⟨gm, x, none⟩ (h.xk.neR h.met (by decide) rfl) _, h.xt.other ⟨gm, x, none⟩ (h.xt.neR h.met (by decide) rfl) _⟩
  have := (World.ownsRow.stored h.met x (.bool true)).1
  rw [List.map_set]
  exact this
theorem Wc.below {B bm bn bk bt gm gV n : Nat} {tv : Value} {w0 z z' : World} {rs : List Rr} {m : List Bool} (h : Wc B bm bn bk bt gm gV n tv w0 rs m z) (hb : Below z.heap.size z z') : Wc B bm bn bk bt gm gV n tv w0 rs m z' :=
  ⟨h.lv.below hb, ownsRow_below h.met hb (Nat.le_refl _), h.xm.below hb h.xm.lt, h.xn.below hb h.xn.lt, h.xk.below hb h.xk.lt, h.xt.below hb h.xt.lt⟩
end Go.Proofs.Ytkfdlccacddbfaa
