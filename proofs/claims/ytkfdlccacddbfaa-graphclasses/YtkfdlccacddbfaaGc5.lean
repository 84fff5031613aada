import Derived.Test.YtkfdlccacddbfaaGp4
import Derived.Test.YtkfdlccacddbfaaGq2
import Derived.Test.YtkfdlccacddbfaaGc4
namespace Go.Proofs.Ytkfdlccacddbfaa
open Go.ChangeShapes Go.WideShapes Go.ChangeAt Go.RowKit
set_option linter.unusedVariables false
set_option linter.unusedSimpArgs false

theorem rclasses_bad (n : Int) (a : Option Addr) (cap : Nat) (ps : List Pr) (w : World) (hL : LiesA w a ps) (hm : ps.length ≤ 8796093022208) (h : things n ps = false) :
    Calls Try.prog 11 #[.int .i64 n, .slice a ps.length cap] w fun e w' => e = .returned (.tuple #[.slice none 0 0, .int .i64 1]) ∧ w' = w := by
  have BD : Hid (Calls Try.prog 18 #[.int .i64 n, .slice a ps.length cap] w fun e w' => e = .returned (.bool true) ∧ w' = w) := by have h9 := rbad_any n a cap ps w hL (by omega); rw [h] at h9; exact h9
  go_enter Try.func11, Try.ntmps11
  go_wp2_with (go_at_call 18; (with_reducible refine BD.out.mono ?_); rintro e v1 ⟨rfl, rfl⟩)
  go_ret2
  exact ⟨rfl, rfl⟩
theorem classes_bad (n : Int) (a : Option Addr) (cap : Nat) (ps : List Pr) (w : World) (hL : LiesA w a ps) (hm : ps.length ≤ 8796093022208) (h : things n ps = false) :
    Calls Try.prog 10 #[.int .i64 n, .slice a ps.length cap] w fun e w' => e = .returned (.tuple #[.slice none 0 0, .int .i64 1]) ∧ Below w.heap.size w w' := by
  have AT : Hid (Calls Try.prog 12 #[.int .i64 n, .slice a ps.length cap] w fun e w' => e = .returned (.bool false) ∧ Below w.heap.size w w') := by unfold Hid; rw [← h]; exact areThings_any n a cap ps w hL (by omega)
  go_enter Try.func10, Try.ntmps10
  go_wp2_with (go_at_call 12; (with_reducible refine AT.out.mono ?_); rintro e v1 ⟨rfl, hb1⟩; have HB1 : Hid (Below w.heap.size w v1) := hb1; clear hb1)
  go_ret2
  exact ⟨rfl, HB1.out⟩
/-- the reference's own: its labels, and its stack -/
structure Rk (D C go n : Nat) (w2 : World) (v : Value) (l : List Int) (q : List Nat) (z : World) : Prop where
  row : z.ownsRow D 3 1 (.slice (some ⟨go, 0, none⟩) n n) n (ivs l)
  que : Qu C z v q
  bel : Below D w2 z
  base : D ≤ go ∧ go < C ∧ C ≤ z.heap.size
theorem Rk.get {D C go n : Nat} {w2 z : World} {v : Value} {l : List Int} {q : List Nat} (h : Rk D C go n w2 v l q z) {x : Nat} {y : Int} (hx : l[x]? = some y) : z.cell? ⟨go, x, none⟩ = some (.int .i64 y) ∧ z.frozen? ⟨go, x, none⟩ = false := by
  have h1 := h.row.cells rfl x (.int .i64 y) (by rw [List.getElem?_map, hx]; rfl)
  rw [addr_add, Nat.zero_add] at h1
  exact ⟨h1, h.row.frozenAt x⟩
theorem Rk.len {D C go n : Nat} {w2 z : World} {v : Value} {l : List Int} {q : List Nat} (h : Rk D C go n w2 v l q z) : l.length = n := by
  have := h.row.1
  simpa using this
theorem Qu.low {B g i : Nat} {w : World} {v x : Value} {xs : List Nat} (h : Qu B w v xs) (hg : g < B) : Qu B (w.setCell ⟨g, i, none⟩ x) v xs := by
  obtain ⟨g1, off, cap, cur, h1, h2, h3, h4, h5, h6⟩ := h
  exact ⟨g1, off, cap, cur, h1, h2, (heap_setCell_other w ⟨g, i, none⟩ g1 x (by show g1 ≠ g; omega)).trans h3, h4, h5, h6⟩
theorem Rk.set {D C go n : Nat} {w2 z : World} {v : Value} {l : List Int} {q : List Nat} (h : Rk D C go n w2 v l q z) (x : Nat) (y : Int) : Rk D C go n w2 v (l.set x y) q (z.setCell ⟨go, x, none⟩ (.int .i64 y)) := by
  refine ⟨?_, h.que.low h.base.2.1, h.bel.setCell (p := ⟨go, x, none⟩) h.base.1 _, h.base.1, h.base.2.1, by simp; exact h.base.2.2⟩
  have h1 := (World.ownsRow.stored h.row x (.int .i64 y)).1
  rw [show ivs (l.set x y) = (ivs l).set x (.int .i64 y) by simp [ivs, List.map_set]]
  exact h1
theorem Rk.below {D C go n : Nat} {w2 z z' : World} {v : Value} {l : List Int} {q : List Nat} (h : Rk D C go n w2 v l q z) (hb : Below z.heap.size z z') : Rk D C go n w2 v l q z' :=
  ⟨ownsRow_below h.row hb (Nat.le_refl _), h.que.below hb (Nat.le_refl _), h.bel.trans (hb.mono (by have := h.base; omega)), h.base.1, h.base.2.1, Nat.le_trans h.base.2.2 hb.size⟩
theorem Rk.grw {D C go n : Nat} {w2 z z' : World} {v v' : Value} {l : List Int} {q q' : List Nat} (h : Rk D C go n w2 v l q z) (hq : Qu C z' v' q') (hg : z.grownBy z' v.ownBlock) : Rk D C go n w2 v' l q' z' := by
  obtain ⟨g, off, cap, cur, rfl, hgB, hh, -⟩ := h.que
  have hb := h.base
  refine ⟨own_grwR h.row hg (fun k hk e => ?_), hq, h.bel.grown hg (by omega) (fun k hk => by cases hk; show D ≤ g; omega), h.base.1, h.base.2.1, Nat.le_trans h.base.2.2 hg.size⟩
  cases hk
  cases e
  have : C ≤ go := hgB
  omega
/-- the lists of x, both of them, as they lie while nothing below D changes -/
theorem lw_cells {B1 D gV n x : Nat} {wx w2 : World} {rs : List Rr} {ss : List Pr} (hL : Lw B1 gV n wx w2 rs) (hA : Ad .i64 ss rs) (hD : w2.heap.size = D) (hx : x < n) : ∃ (a1 : Option Addr) (c1 : Nat) (ys : List Int), (∀ y, y ∈ ys ↔ (⟨(x : Int), y⟩ : Pr) ∈ ss) ∧ ys.length ≤ ss.length ∧ ∀ z, Below D w2 z → z.cell? ⟨gV, x, none⟩ = some (.slice a1 ys.length c1) ∧ ∀ (j : Nat) (y : Int), ys[j]? = some y → ∃ g, a1 = some ⟨g, 0, none⟩ ∧ z.cell? ⟨g, j, none⟩ = some (.int .i64 y) := by
  obtain ⟨r, hrx⟩ : ∃ r, rs[x]? = some r := ⟨_, List.getElem?_eq_getElem (by rw [hL.len]; exact hx)⟩
  obtain ⟨ys, h1, h2, h3, h4⟩ := hA x r hrx
  obtain ⟨a1, ca, hv1, hsome, -⟩ := own_slice (hL.she.get hrx)
  refine ⟨a1, ca, ys, h4, h3, fun z hz => ⟨?_, fun j y hj => ?_⟩⟩
  · have h9 := (hL.cell hrx).1
    rw [hv1, h1] at h9
    exact (hz.cell (p := ⟨gV, x, none⟩) (by rw [← hD]; exact (hL.she.outV.lt gV rfl).2)).trans h9
  · obtain ⟨g, rfl⟩ := hsome (by have := (List.getElem?_eq_some_iff.1 hj).1; omega)
    have h9 := hL.she.get hrx
    have hg9 := (h9.lt g (by rw [hv1]; rfl)).2
    rw [hv1, h2] at h9
    have h8 := h9.cells rfl j (.int .i64 y) (by rw [List.getElem?_map, hj]; rfl)
    rw [addr_add, Nat.zero_add] at h8
    exact ⟨g, rfl, (hz.cell (p := ⟨g, j, none⟩) (by rw [← hD]; exact hg9)).trans h8⟩
end Go.Proofs.Ytkfdlccacddbfaa
