import Derived.Test.YtkfdlccacddbfaaGr2
import Derived.OwnWalk
namespace Go.Proofs.Ytkfdlccacddbfaa
open Go.ChangeShapes Go.WideShapes Go.ChangeAt Go.RowKit
set_option linter.unusedVariables false
set_option linter.unusedSimpArgs false

/-- a row of ints has grown -/
theorem Wc.grw {B bm bn bk bt gm gV n k : Nat} {tv v : Value} {w0 z z' : World} {rs : List Rr} {m : List Bool} {xs : List Value} (h : Wc B bm bn bk bt gm gV n tv w0 rs m z) (h' : z.ownsRow B 3 1 v k xs) (hg : z.grownBy z' v.ownBlock) : Wc B bm bn bk bt gm gV n tv w0 rs m z' :=
  ⟨h.lv.grw h' (by decide) (by decide) hg, own_grwR h.met hg (fun g hr => own_otherR h.met h' (by decide) hr), h.xm.grw hg (fun e => h.xm.neR h' (by decide) e rfl), h.xn.grw hg (fun e => h.xn.neR h' (by decide) e rfl), h.xk.grw hg (fun e => h.xk.neR h' (by decide) e rfl), h.xt.grw hg (fun e => h.xt.neR h' (by decide) e rfl)⟩
/-- a cell of a box of another kind is written -/
theorem Wc.box {B bm bn bk bt gm gV n b i : Nat} {tv x : Value} {w0 z : World} {rs : List Rr} {m : List Bool} {vs : Array Value} {t : TypeId} (h : Wc B bm bn bk bt gm gV n tv w0 rs m z) (hb : Bx z b vs t) (hB : B ≤ b) (h1 : 21 ≠ t) (h2 : 50 ≠ t) (h3 : 4 ≠ t) (h4 : 43 ≠ t) (h5 : 40 ≠ t) (h6 : 38 ≠ t) : Wc B bm bn bk bt gm gV n tv w0 rs m (z.setCell ⟨b, i, none⟩ x) :=
  ⟨h.lv.farBox hb h1 h2 hB, ownsRow_setCell_other h.met (a := ⟨b, i, none⟩) (fun e => hb.neR h.met h3 e rfl) _, h.xm.other ⟨b, i, none⟩ (h.xm.ne hb h4) _, h.xn.other ⟨b, i, none⟩ (h.xn.ne hb h5) _, h.xk.other ⟨b, i, none⟩ (h.xk.ne hb h6) _, h.xt.other ⟨b, i, none⟩ (h.xt.ne hb h6) _⟩
/-- a cell of a row of ints is written -/
theorem Wc.cell {B bm bn bk bt gm gV n k g i : Nat} {tv v x : Value} {w0 z : World} {rs : List Rr} {m : List Bool} {xs : List Value} (h : Wc B bm bn bk bt gm gV n tv w0 rs m z) (h' : z.ownsRow B 3 1 v k xs) (hg : v.ownBlock = some g) : Wc B bm bn bk bt gm gV n tv w0 rs m (z.setCell ⟨g, i, none⟩ x) :=
  ⟨h.lv.farRow h' (by decide) (by decide) hg, ownsRow_setCell_other h.met (a := ⟨g, i, none⟩) (own_otherR h.met h' (by decide) hg) _, h.xm.other ⟨g, i, none⟩ (h.xm.neR h' (by decide) hg) _, h.xn.other ⟨g, i, none⟩ (h.xn.neR h' (by decide) hg) _, h.xk.other ⟨g, i, none⟩ (h.xk.neR h' (by decide) hg) _, h.xt.other ⟨g, i, none⟩ (h.xt.neR h' (by decide) hg) _⟩
/-- the list of what was told, in its box -/
structure TR (B bo : Nat) (t : List Nat) (z : World) : Prop where
  ex : ∃ v, Bx z bo #[v] 24 ∧ z.ownsRow B 3 1 v t.length (t.map fun (x : Nat) => Value.int .i64 (x : Int))
  base : B ≤ bo
  most : t.length ≤ 131072
theorem TR.mark {B bo bm bn bk bt gm gV n x : Nat} {tv : Value} {w0 z : World} {rs : List Rr} {m : List Bool} {t : List Nat} (h : Wc B bm bn bk bt gm gV n tv w0 rs m z) (hT : TR B bo t z) : TR B bo t (z.setCell ⟨gm, x, none⟩ (.bool true)) := by
  obtain ⟨v, h1, h2⟩ := hT.ex
  exact ⟨⟨v, h1.other ⟨gm, x, none⟩ (h1.neR h.met (by decide) rfl) _, ownsRow_setCell_other h2 (a := ⟨gm, x, none⟩) (own_otherR h2 h.met (by decide) rfl) _⟩, hT.base, hT.most⟩
set_option maxRecDepth 1000000 in
theorem tellR (B bm bn bk bt gm gV n bo x : Nat) (tv : Value) (w0 z : World) (rs : List Rr) (m : List Bool) (t : List Nat) (hx : x < 131072) (hW : Wc B bm bn bk bt gm gV n tv w0 rs m z) (hT : TR B bo t z) (ht : t.length < 131072) :
    Calls Try.prog 16 #[.int .i64 (x : Int), .pointer (some ⟨bo, 0, none⟩)] z fun e z' => (∃ v, e = .returned v) ∧ Wc B bm bn bk bt gm gV n tv w0 rs m z' ∧ TR B bo (t ++ [x]) z' := by
  obtain ⟨i0, hi, hz0, hz1, hz2⟩ := info_parts infoInt
  obtain ⟨v, hb, ho⟩ := hT.ex
  obtain ⟨a1, c1, hv1, -, -⟩ := own_slice ho
  subst hv1
  have HW : Hid (Wc B bm bn bk bt gm gV n tv w0 rs m z) := hW
  have HB : Hid (Bx z bo #[.slice a1 t.length c1] 24) := hb
  have HO : Hid (z.ownsRow B 3 1 (.slice a1 t.length c1) t.length (t.map fun (x : Nat) => Value.int .i64 (x : Int))) := ho
  have HBB : Hid (B ≤ bo) := hT.base
  have c0 := hb.one
  have f0 := hb.free 0
  obtain ⟨zA, eA, hbA, hsA, BA⟩ := bx1 z #[.int .i64 (x : Int)] 3
  have WA : Hid (Wc B bm bn bk bt gm gV n tv w0 rs m zA) := hW.below hbA
  have OA : Hid (zA.ownsRow B 3 1 (.slice a1 t.length c1) t.length (t.map fun (x : Nat) => Value.int .i64 (x : Int))) := ownsRow_below ho hbA (Nat.le_refl _)
  have XA : Hid (Bx zA bo #[.slice a1 t.length c1] 24) := hb.below hbA hb.lt
  have NA : Hid (∀ j u, [Value.int .i64 (x : Int)][j]? = some u → zA.cell? ((⟨z.heap.size, 0, none⟩ : Addr).add j) = some u) := by unfold Hid; rw [← eA]; exact cells_newR z [Value.int .i64 (x : Int)] 3
  have HSA : Hid (zA.heap.size = z.heap.size + 1) := hsA
  have HEA : Hid (z.alloc (.cells #[.int .i64 (x : Int)] 3) = zA) := eA
  have hbase : B ≤ zA.heap.size := by have := WA.out.lv.base; exact this
  clear hW hb ho hT hbA BA hsA eA
  go_enter Try.func16, Try.ntmps16
  go_wp2_with (at_builtin; rw [HEA.out]; refine wpList_append_lies _ rfl _ _ 24 rfl B 3 i0 (.int .i64 0) 1 8 Try.underlying24 hi hz0 hz1 hz2 rfl (by decide) (.slice a1 t.length c1) t.length (t.map fun (x : Nat) => Value.int .i64 (x : Int)) rfl OA.out ⟨z.heap.size, 0, none⟩ 1 1 [Value.int .i64 (x : Int)] rfl rfl NA.out (by intro u hu; simp at hu; subst hu; rfl) (by decide) (by unfold maxLen; omega) (by omega) hbase (z.heap.size + 1) HSA.out ?_; intro gg cp w9 hown9 hgrow9 hat9 hlt9; have W9 : Hid (Wc B bm bn bk bt gm gV n tv w0 rs m w9) := WA.out.grw OA.out hgrow9; have hbo : (Value.slice a1 t.length c1).ownBlock ≠ some bo := fun e => XA.out.neR OA.out (by decide) e rfl; have X9 : Hid (Bx w9 bo #[.slice a1 t.length c1] 24) := XA.out.grw hgrow9 hbo; have O9 : Hid (w9.ownsRow B 3 1 (.slice (some ⟨gg, 0, none⟩) (t.length + 1) cp) (t.length + 1) ((t.map fun (x : Nat) => Value.int .i64 (x : Int)) ++ [Value.int .i64 (x : Int)])) := hown9; have c9 := X9.out.one; have f9 := X9.out.free 0; clear hown9 hgrow9 hat9 hlt9 hbo)
  go_end0
  refine ⟨⟨_, rfl⟩, W9.out.box X9.out HBB.out (by decide) (by decide) (by decide) (by decide) (by decide) (by decide), ⟨⟨_, X9.out.set 0 _, ?_⟩, HBB.out, by simp; omega⟩⟩
  have h9 := ownsRow_setCell_other O9.out (a := ⟨bo, 0, none⟩) (fun e => X9.out.neR O9.out (by decide) e rfl) (.slice (some ⟨gg, 0, none⟩) (t.length + 1) cp)
  rw [List.length_append, List.map_append]
  exact h9
end Go.Proofs.Ytkfdlccacddbfaa
