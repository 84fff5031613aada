import Derived.Test.YtgijcbipnjmhgaaKs1
import Derived.Test.YtgijcbipnjmhgaaKs0
import Derived.Test.YtgijcbipnjmhgaaGq0
import Derived.Laws.EntriesVeiled
import Derived.RangeFuncCalls
namespace Go.Proofs.Ytgijcbipnjmhgaa
open Go.ChangeShapes Go.WideShapes Go.ChangeAt Go.RowKit
set_option linter.unusedVariables false
set_option linter.unusedSimpArgs false

/-- the walker's own: its marks, and the boxes that the closure holds; its lists are read alone -/
structure Wd (B bm bn bk bt gm gV n : Nat) (tv : Value) (w0 : World) (N : Nat → List Int) (m : List Bool) (z : World) : Prop where
  rl : Rl B z gV n N
  met : z.ownsRow B 4 1 (.slice (some ⟨gm, 0, none⟩) n n) n (m.map Value.bool)
  xm : Bx z bm #[.slice (some ⟨gm, 0, none⟩) n n] 53
  xn : Bx z bn #[.slice (some ⟨gV, 0, none⟩) n n] 50
  xk : Bx z bk #[.func (.func 39) #[] #[.pointer (some ⟨bm, 0, none⟩), .pointer (some ⟨bn, 0, none⟩), .pointer (some ⟨bk, 0, none⟩), .pointer (some ⟨bt, 0, none⟩)]] 48
  xt : Bx z bt #[tv] 48
  bel : Below B w0 z
  base : B ≤ z.heap.size
theorem Wd.mlen {B bm bn bk bt gm gV n : Nat} {tv : Value} {w0 z : World} {N : Nat → List Int} {m : List Bool} (h : Wd B bm bn bk bt gm gV n tv w0 N m z) : m.length = n := by
  have := h.met.1
  simpa using this
theorem Wd.get {B bm bn bk bt gm gV n : Nat} {tv : Value} {w0 z : World} {N : Nat → List Int} {m : List Bool} (h : Wd B bm bn bk bt gm gV n tv w0 N m z) {x : Nat} {b : Bool} (hx : m[x]? = some b) : z.cell? ⟨gm, x, none⟩ = some (.bool b) ∧ z.frozen? ⟨gm, x, none⟩ = false := by
  have h1 := h.met.cells rfl x (.bool b) (by rw [List.getElem?_map, hx]; rfl)
  rw [addr_add, Nat.zero_add] at h1
  exact ⟨h1, h.met.frozenAt x⟩
theorem Wd.set {B bm bn bk bt gm gV n : Nat} {tv : Value} {w0 z : World} {N : Nat → List Int} {m : List Bool} (h : Wd B bm bn bk bt gm gV n tv w0 N m z) (x : Nat) : Wd B bm bn bk bt gm gV n tv w0 N (m.set x true) (z.setCell ⟨gm, x, none⟩ (.bool true)) := by
  have hg := (h.met.lt gm rfl).1
  refine ⟨h.rl.below ((Below.refl B z).setCell (p := ⟨gm, x, none⟩) hg _), ?_, h.xm.other ⟨gm, x, none⟩ (h.xm.neR h.met (by decide) rfl) _, h.xn.other ⟨gm, x, none⟩ (h.xn.neR h.met (by decide) rfl) _, h.xk.other ⟨gm, x, none⟩ (h.xk.neR h.met (by decide) rfl) _, h.xt.other ⟨gm, x, none⟩ (h.xt.neR h.met (by decide) rfl) _, h.bel.setCell (p := ⟨gm, x, none⟩) hg _, by simpa using h.base⟩
  have := (World.ownsRow.stored h.met x (.bool true)).1
  rw [List.map_set]
  exact this
theorem Wd.below {B bm bn bk bt gm gV n : Nat} {tv : Value} {w0 z z' : World} {N : Nat → List Int} {m : List Bool} (h : Wd B bm bn bk bt gm gV n tv w0 N m z) (hb : Below z.heap.size z z') : Wd B bm bn bk bt gm gV n tv w0 N m z' :=
  ⟨h.rl.below (hb.mono h.base), ownsRow_below h.met hb (Nat.le_refl _), h.xm.below hb h.xm.lt, h.xn.below hb h.xn.lt, h.xk.below hb h.xk.lt, h.xt.below hb h.xt.lt, h.bel.trans (hb.mono h.base), Nat.le_trans h.base hb.size⟩
/-- from here on -/
theorem Wd.now {B bm bn bk bt gm gV n : Nat} {tv : Value} {w0 z : World} {N : Nat → List Int} {m : List Bool} (h : Wd B bm bn bk bt gm gV n tv w0 N m z) : Wd B bm bn bk bt gm gV n tv z N m z :=
  ⟨h.rl, h.met, h.xm, h.xn, h.xk, h.xt, Below.refl _ _, h.base⟩
theorem Wd.grw {B bm bn bk bt gm gV n k : Nat} {tv v : Value} {w0 z z' : World} {N : Nat → List Int} {m : List Bool} {xs : List Value} (h : Wd B bm bn bk bt gm gV n tv w0 N m z) (h' : z.ownsRow B 3 1 v k xs) (hg : z.grownBy z' v.ownBlock) : Wd B bm bn bk bt gm gV n tv w0 N m z' :=
  ⟨h.rl.below ((Below.refl B z).grown hg h.base (fun g e => (h'.lt g e).1)), own_grwR h.met hg (fun g hr => own_otherR h.met h' (by decide) hr), h.xm.grw hg (fun e => h.xm.neR h' (by decide) e rfl), h.xn.grw hg (fun e => h.xn.neR h' (by decide) e rfl), h.xk.grw hg (fun e => h.xk.neR h' (by decide) e rfl), h.xt.grw hg (fun e => h.xt.neR h' (by decide) e rfl), h.bel.grown hg h.base (fun g e => (h'.lt g e).1), Nat.le_trans h.base hg.size⟩
theorem Wd.box {B bm bn bk bt gm gV n b i : Nat} {tv x : Value} {w0 z : World} {N : Nat → List Int} {m : List Bool} {vs : Array Value} {t : TypeId} (h : Wd B bm bn bk bt gm gV n tv w0 N m z) (hb : Bx z b vs t) (hB : B ≤ b) (h3 : 4 ≠ t) (h4 : 53 ≠ t) (h5 : 50 ≠ t) (h6 : 48 ≠ t) : Wd B bm bn bk bt gm gV n tv w0 N m (z.setCell ⟨b, i, none⟩ x) :=
  ⟨h.rl.below ((Below.refl B z).setCell (p := ⟨b, i, none⟩) hB _), ownsRow_setCell_other h.met (a := ⟨b, i, none⟩) (fun e => hb.neR h.met h3 e rfl) _, h.xm.other ⟨b, i, none⟩ (h.xm.ne hb h4) _, h.xn.other ⟨b, i, none⟩ (h.xn.ne hb h5) _, h.xk.other ⟨b, i, none⟩ (h.xk.ne hb h6) _, h.xt.other ⟨b, i, none⟩ (h.xt.ne hb h6) _, h.bel.setCell (p := ⟨b, i, none⟩) hB _, by simpa using h.base⟩
theorem Wd.cell {B bm bn bk bt gm gV n k g i : Nat} {tv v x : Value} {w0 z : World} {N : Nat → List Int} {m : List Bool} {xs : List Value} (h : Wd B bm bn bk bt gm gV n tv w0 N m z) (h' : z.ownsRow B 3 1 v k xs) (hg : v.ownBlock = some g) : Wd B bm bn bk bt gm gV n tv w0 N m (z.setCell ⟨g, i, none⟩ x) := by
  have hgB := (h'.lt g hg).1
  exact ⟨h.rl.below ((Below.refl B z).setCell (p := ⟨g, i, none⟩) hgB _), ownsRow_setCell_other h.met (a := ⟨g, i, none⟩) (own_otherR h.met h' (by decide) hg) _, h.xm.other ⟨g, i, none⟩ (h.xm.neR h' (by decide) hg) _, h.xn.other ⟨g, i, none⟩ (h.xn.neR h' (by decide) hg) _, h.xk.other ⟨g, i, none⟩ (h.xk.neR h' (by decide) hg) _, h.xt.other ⟨g, i, none⟩ (h.xt.neR h' (by decide) hg) _, h.bel.setCell (p := ⟨g, i, none⟩) hgB _, by simpa using h.base⟩
/-- the things that were told, as numbers -/
abbrev nvs (t : List Nat) : List Value := t.map fun (x : Nat) => Value.int .i64 (x : Int)
/-- the list of what was told, in its box; the rows and boxes that stand still beside it; what is no cells stands still -/
structure TL (B bo : Nat) (vs : List (Value × List Int)) (qs : List (Nat × Value × TypeId)) (w9 : World) (t : List Nat) (z : World) : Prop where
  ex : ∃ v, Bx z bo #[v] 24 ∧ z.ownsRow B 3 1 v t.length (nvs t) ∧ ∀ p ∈ vs, ∀ g, v.ownBlock = some g → p.1.ownBlock ≠ some g
  ks : ∀ p ∈ vs, z.ownsRow B 3 1 p.1 p.2.length (flat p.2)
  bs : ∀ q ∈ qs, Bx z q.1 #[q.2.1] q.2.2 ∧ q.1 ≠ bo ∧ 4 ≠ q.2.2 ∧ 3 ≠ q.2.2
  ko : KeepsOthers w9 z
  base : B ≤ bo
  most : t.length ≤ 131072
theorem TL.mark {B bo bm bn bk bt gm gV n x : Nat} {tv : Value} {w0 w9 z : World} {N : Nat → List Int} {m : List Bool} {t : List Nat} {vs : List (Value × List Int)} {qs : List (Nat × Value × TypeId)} (h : Wd B bm bn bk bt gm gV n tv w0 N m z) (hT : TL B bo vs qs w9 t z) : TL B bo vs qs w9 t (z.setCell ⟨gm, x, none⟩ (.bool true)) := by
  obtain ⟨v, h1, h2, h3⟩ := hT.ex
  exact ⟨⟨v, h1.other ⟨gm, x, none⟩ (h1.neR h.met (by decide) rfl) _, ownsRow_setCell_other h2 (a := ⟨gm, x, none⟩) (own_otherR h2 h.met (by decide) rfl) _, h3⟩, fun p hp => ownsRow_setCell_other (hT.ks p hp) (a := ⟨gm, x, none⟩) (own_otherR (hT.ks p hp) h.met (by decide) rfl) _, fun q hq => by
    obtain ⟨b1, b2, b3, b4⟩ := hT.bs q hq
    exact ⟨b1.other ⟨gm, x, none⟩ (b1.neR h.met b3 rfl) _, b2, b3, b4⟩, hT.ko.trans (KeepsOthers.setCell _ _ _), hT.base, hT.most⟩
theorem TL.below {B bo : Nat} {w9 z z' : World} {t : List Nat} {vs : List (Value × List Int)} {qs : List (Nat × Value × TypeId)} (hT : TL B bo vs qs w9 t z) (hb : Below z.heap.size z z') : TL B bo vs qs w9 t z' := by
  obtain ⟨v, h1, h2, h3⟩ := hT.ex
  exact ⟨⟨v, h1.below hb h1.lt, ownsRow_below h2 hb (Nat.le_refl _), h3⟩, fun p hp => ownsRow_below (hT.ks p hp) hb (Nat.le_refl _), fun q hq => by
    obtain ⟨b1, b2, b3, b4⟩ := hT.bs q hq
    exact ⟨b1.below hb b1.lt, b2, b3, b4⟩, hT.ko.trans ⟨hb.size, fun k o hk _ => (hb.block k (Array.getElem?_eq_some_iff.1 hk).1).trans hk⟩, hT.base, hT.most⟩
/-- one more is told: the row has grown, and the box holds the new row -/
theorem TL.tell {B bo x : Nat} {w9 z z' : World} {v v' : Value} {t : List Nat} {vs : List (Value × List Int)} {qs : List (Nat × Value × TypeId)} (hT : TL B bo vs qs w9 t z) (hb : Bx z bo #[v] 24) (ho : z.ownsRow B 3 1 v t.length (nvs t)) (ha : ∀ p ∈ vs, ∀ g, v.ownBlock = some g → p.1.ownBlock ≠ some g) (hx : t.length < 131072) (ho' : z'.ownsRow B 3 1 v' (t.length + 1) (nvs t ++ [.int .i64 (x : Int)])) (hg : z.grownBy z' v.ownBlock) (hn : v'.ownBlock = v.ownBlock ∨ ∃ g, v'.ownBlock = some g ∧ z.heap.size ≤ g) : TL B bo vs qs w9 (t ++ [x]) (z'.setCell ⟨bo, 0, none⟩ v') := by
  have hbo : v.ownBlock ≠ some bo := fun e => hb.neR ho (by decide) e rfl
  have X' : Bx z' bo #[v] 24 := hb.grw hg hbo
  have hks : ∀ p ∈ vs, z'.ownsRow B 3 1 p.1 p.2.length (flat p.2) := fun p hp => own_same (hT.ks p hp) (fun g e => hg.block g ((hT.ks p hp).lt g e).2 (fun e2 => ha p hp g e2.symm e))
  refine ⟨⟨v', X'.set 0 v', ?_, ?_⟩, fun p hp => ownsRow_setCell_other (hks p hp) (a := ⟨bo, 0, none⟩) (fun e => X'.neR (hks p hp) (by decide) e rfl) _, fun q hq => ?_, (hT.ko.trans (KeepsOthers.of_grownBy hg ?_)).trans (KeepsOthers.setCell _ _ _), hT.base, by rw [List.length_append]; exact hx⟩
  · rw [List.length_append, nvs, List.map_append]
    exact ownsRow_setCell_other ho' (a := ⟨bo, 0, none⟩) (fun e => X'.neR ho' (by decide) e rfl) _
  · intro p hp g e
    rcases hn with e2 | ⟨g2, e2, h2⟩
    · exact ha p hp g (e2 ▸ e)
    · intro e3
      rw [e2] at e
      injection e with e
      have := ((hT.ks p hp).lt g e3).2
      omega
  · obtain ⟨b1, b2, b3, b4⟩ := hT.bs q hq
    exact ⟨(b1.grw hg (fun e => b1.neR ho b4 e rfl)).other ⟨bo, 0, none⟩ b2 _, b2, b3, b4⟩
  · intro j o e hj
    rcases ho.2 with ⟨hv, -⟩ | ⟨g, cap, cur, hv, -, hh, -⟩
    · rw [hv] at e; cases e
    · rw [hv] at e
      obtain rfl : g = j := by injection e
      rw [hh] at hj
      cases hj
      rfl
end Go.Proofs.Ytgijcbipnjmhgaa
