import Derived.Test.YtkfdlccacddbfaaGp3
import Derived.Test.YtkfdlccacddbfaaGc2
import Derived.Test.YtkfdlccacddbfaaGr3c
import Derived.Test.YtkfdlccacddbfaaGr5c
import Derived.Test.YtkfdlccacddbfaaGr7
namespace Go.Proofs.Ytkfdlccacddbfaa
open Go.ChangeShapes Go.WideShapes Go.ChangeAt Go.RowKit
set_option linter.unusedVariables false
set_option linter.unusedSimpArgs false

/-- the labels, in their box, and the box of the label that is given -/
structure TC (B bf bl gl n : Nat) (f : Int) (l : List Int) (t : List Nat) (z : World) : Prop where
  xf : Bx z bf #[.int .i64 f] 3
  xl : Bx z bl #[.slice (some ⟨gl, 0, none⟩) n n] 24
  row : z.ownsRow B 3 1 (.slice (some ⟨gl, 0, none⟩) n n) n (ivs (lbl f l t))
  ne : gl ≠ bf
  bases : B ≤ bf ∧ B ≤ bl
theorem TC.below {B bf bl gl n : Nat} {f : Int} {l : List Int} {t : List Nat} {z z' : World} (h : TC B bf bl gl n f l t z) (hb : Below z.heap.size z z') : TC B bf bl gl n f l t z' :=
  ⟨h.xf.below hb h.xf.lt, h.xl.below hb h.xl.lt, ownsRow_below h.row hb (Nat.le_refl _), h.ne, h.bases⟩
theorem TC.len {B bf bl gl n : Nat} {f : Int} {l : List Int} {t : List Nat} {z : World} (h : TC B bf bl gl n f l t z) : l.length = n := by
  have := h.row.1
  rw [List.length_map, lbl_len] at this
  omega
theorem TC.mark {B bf bl gl bm bn bk bt gm gV n m2 x : Nat} {tv : Value} {w0 z : World} {rs : List Rr} {m : List Bool} {f : Int} {l : List Int} {t : List Nat} (h : Wc B bm bn bk bt gm gV n tv w0 rs m z) (hT : TC B bf bl gl n f l t z) : TC B bf bl gl n f l t (z.setCell ⟨gm, x, none⟩ (.bool true)) :=
  ⟨hT.xf.other ⟨gm, x, none⟩ (hT.xf.neR h.met (by decide) rfl) _, hT.xl.other ⟨gm, x, none⟩ (hT.xl.neR h.met (by decide) rfl) _, ownsRow_setCell_other hT.row (a := ⟨gm, x, none⟩) (own_otherR hT.row h.met (by decide) rfl) _, hT.ne, hT.bases⟩
/-- another label is given -/
theorem TC.give {B bf bl gl n : Nat} {f : Int} {l : List Int} {t : List Nat} {z : World} (h : TC B bf bl gl n f l t z) (x : Int) : TC B bf bl gl n x (lbl f l t) [] (z.setCell ⟨bf, 0, none⟩ (.int .i64 x)) :=
  ⟨h.xf.set 0 _, h.xl.other ⟨bf, 0, none⟩ (h.xl.ne h.xf (by decide)) _, ownsRow_setCell_other h.row (a := ⟨bf, 0, none⟩) (fun e => by cases e; exact h.ne rfl) _, h.ne, h.bases⟩
set_option maxRecDepth 1000000 in
theorem tellC (B bf bl gl bm bn bk bt gm gV n x : Nat) (tv : Value) (w0 z : World) (rs : List Rr) (m : List Bool) (f : Int) (l : List Int) (t : List Nat) (hx : x < n) (hn : n ≤ 131072) (hW : Wc B bm bn bk bt gm gV n tv w0 rs m z) (hT : TC B bf bl gl n f l t z) :
    Calls Try.prog 23 #[.int .i64 (x : Int), .pointer (some ⟨bf, 0, none⟩), .pointer (some ⟨bl, 0, none⟩)] z fun e z' => (∃ v, e = .returned v) ∧ Wc B bm bn bk bt gm gV n tv w0 rs m z' ∧ TC B bf bl gl n f l (t ++ [x]) z' := by
  have HW : Hid (Wc B bm bn bk bt gm gV n tv w0 rs m z) := hW
  have HT : Hid (TC B bf bl gl n f l t z) := hT
  have c0 := hT.xl.one
  have c1 := hT.xf.one
  obtain ⟨y, hy⟩ : ∃ y, (lbl f l t)[x]? = some y := ⟨_, List.getElem?_eq_getElem (by rw [lbl_len, hT.len]; exact hx)⟩
  have c2 : z.cell? ⟨gl, x, none⟩ = some (.int .i64 y) := by
    have h1 := hT.row.cells rfl x (.int .i64 y) (by rw [List.getElem?_map, hy]; rfl)
    rwa [addr_add, Nat.zero_add] at h1
  have f2 : z.frozen? ⟨gl, x, none⟩ = false := hT.row.frozenAt x
  have hx0 : (0 : Int) ≤ (x : Int) := by omega
  have hxn : (x : Int) < (n : Int) := by omega
  have W9 : Hid (Wc B bm bn bk bt gm gV n tv w0 rs m (z.setCell ⟨gl, x, none⟩ (.int .i64 f))) := hW.cell hT.row rfl
  have T9 : Hid (TC B bf bl gl n f l (t ++ [x]) (z.setCell ⟨gl, x, none⟩ (.int .i64 f))) := by
    refine ⟨hT.xf.other ⟨gl, x, none⟩ (fun e => hT.ne e.symm) _, hT.xl.other ⟨gl, x, none⟩ (hT.xl.neR hT.row (by decide) rfl) _, ?_, hT.ne, hT.bases⟩
    have h1 := (World.ownsRow.stored hT.row x (.int .i64 f)).1
    rw [lbl_snoc, show ivs ((lbl f l t).set x f) = (ivs (lbl f l t)).set x (.int .i64 f) by simp [ivs, List.map_set]]
    exact h1
  clear hW hT hy
  go_enter Try.func23, Try.ntmps23
  go_wp2
  go_end0
  exact ⟨⟨_, rfl⟩, W9.out, T9.out⟩
end Go.Proofs.Ytkfdlccacddbfaa
