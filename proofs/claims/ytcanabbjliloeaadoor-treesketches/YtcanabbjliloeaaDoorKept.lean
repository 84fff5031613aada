import Derived.Test.YtcanabbjliloeaaDoorLent
namespace Go.Proofs.YtcanabbjliloeaaDoor
open Go.ChangeShapes Go.WideShapes Go.ChangeAt Go.RowKit
set_option linter.unusedVariables false

theorem tmark_cells {w : World} {g : Nat} {xs : List Tk} (h : Lies w g 0 (xs ++ tmarks)) :
    (w.cell? ⟨g, xs.length * 3, none⟩ = some (.int .u8 0) ∧ w.cell? ⟨g, xs.length * 3 + 1, none⟩ = some (.int .i64 (-5)) ∧ w.cell? ⟨g, xs.length * 3 + 2, none⟩ = some (.int .i64 (-6))) ∧
    (w.cell? ⟨g, (xs.length + 1) * 3, none⟩ = some (.int .u8 77) ∧ w.cell? ⟨g, (xs.length + 1) * 3 + 1, none⟩ = some (.int .i64 0) ∧ w.cell? ⟨g, (xs.length + 1) * 3 + 2, none⟩ = some (.int .i64 0)) := by
  have h0 := h.tk (Below.refl _ _) (i := xs.length) (e := ⟨0, -5, -6⟩) (by rw [List.getElem?_append_right (Nat.le_refl _), Nat.sub_self]; rfl)
  have h1 := h.tk (Below.refl _ _) (i := xs.length + 1) (e := ⟨77, 0, 0⟩) (by rw [List.getElem?_append_right (by omega), show xs.length + 1 - xs.length = 1 by omega]; rfl)
  simp only [Nat.zero_add] at h0 h1
  exact ⟨h0, h1⟩

theorem nmark_cells {w : World} {g : Nat} {xs : List Nd} (h : Lies w g 0 (xs ++ nmarks)) :
    (w.cell? ⟨g, xs.length * 4, none⟩ = some (.int .u8 99) ∧ w.cell? ⟨g, xs.length * 4 + 1, none⟩ = some (.int .i64 (-3)) ∧ w.cell? ⟨g, xs.length * 4 + 2, none⟩ = some (.int .i64 0) ∧ w.cell? ⟨g, xs.length * 4 + 3, none⟩ = some (.int .i64 (-4))) ∧
    (w.cell? ⟨g, (xs.length + 1) * 4, none⟩ = some (.int .u8 0) ∧ w.cell? ⟨g, (xs.length + 1) * 4 + 1, none⟩ = some (.int .i64 0) ∧ w.cell? ⟨g, (xs.length + 1) * 4 + 2, none⟩ = some (.int .i64 12345) ∧ w.cell? ⟨g, (xs.length + 1) * 4 + 3, none⟩ = some (.int .i64 0)) := by
  have h0 := h.nd (Below.refl _ _) (i := xs.length) (e := ⟨99, -3, 0, -4⟩) (by rw [List.getElem?_append_right (Nat.le_refl _), Nat.sub_self]; rfl)
  have h1 := h.nd (Below.refl _ _) (i := xs.length + 1) (e := ⟨0, 0, 12345, 0⟩) (by rw [List.getElem?_append_right (by omega), show xs.length + 1 - xs.length = 1 by omega]; rfl)
  simp only [Nat.zero_add] at h0 h1
  exact ⟨h0, h1⟩

set_option maxHeartbeats 1000000 in
theorem kept_any (s : ByteArray) (g1 g2 : Nat) (a1 a2 : Option Addr) (c1 c2 : Nat) (ts : List Tk) (ns : List Nd) (w : World) (h1 : LiesA w a1 ts) (h2 : LiesA w a2 ns) (k1 : Lies w g1 0 (ts ++ tmarks)) (k2 : Lies w g2 0 (ns ++ nmarks))
    (hl1 : ts.length * 24 ≤ 140737488351232) (hl2 : ns.length * 32 ≤ 140737488351232) :
    Calls Tryd.prog 7 #[.agg #[.string s, .slice (some ⟨g1, 0, none⟩) ts.length (ts.length + 2), .slice (some ⟨g2, 0, none⟩) ns.length (ns.length + 2)], .agg #[.string s, .slice a1 ts.length c1, .slice a2 ns.length c2]] w
      fun e w' => e = .returned (.bool true) ∧ Below w.heap.size w w' := by
  have hg1 := k1.1
  have hg2 := k2.1
  have H1 : Hid (LiesA w a1 ts) := h1
  have H2 : Hid (LiesA w a2 ns) := h2
  have K1 : Hid (Lies w g1 0 (ts ++ tmarks)) := k1
  have K2 : Hid (Lies w g2 0 (ns ++ nmarks)) := k2
  clear h1 h2 k1 k2
  go_enter Tryd.func7, Tryd.ntmps7
  go_wp2_with fail
  obtain ⟨w2, e2, hw, hs2, B0, C0⟩ := bx2 w #[.string s, .slice (some ⟨g1, 0, none⟩) ts.length (ts.length + 2), .slice (some ⟨g2, 0, none⟩) ns.length (ns.length + 2)] #[.string s, .slice a1 ts.length c1, .slice a2 ns.length c2] 27 27
  rw [e2]
  clear e2
  have hsw : w.heap.size + 2 ≤ w2.heap.size := by omega
  have HW : Hid (Below w.heap.size w w2) := hw
  have HB : Hid (Bx w2 w.heap.size #[.string s, .slice (some ⟨g1, 0, none⟩) ts.length (ts.length + 2), .slice (some ⟨g2, 0, none⟩) ns.length (ns.length + 2)] 27) := B0
  have HC : Hid (Bx w2 (w.heap.size + 1) #[.string s, .slice a1 ts.length c1, .slice a2 ns.length c2] 27) := C0
  clear hw hs2 B0 C0
  refine (same_tokens _ a1 _ c1 ts _ (.inr ⟨g1, 0, rfl, (K1.out.below HW.out hg1).pre⟩) (H1.out.below HW.out) (by unfold maxLen; omega)).mono ?_
  rintro e w3 ⟨rfl, hb3⟩
  have b3 := HB.out.below hb3 (by omega)
  have d3 := HC.out.below hb3 (by omega)
  have x2 := b3.t2
  have y2 := d3.t2
  have HB3 : Hid (Below w2.heap.size w2 w3) := hb3
  clear hb3 b3 d3
  go_wp2_with fail
  have hw3 : Below w.heap.size w w3 := HW.out.trans (HB3.out.mono (by omega))
  refine (same_tree _ a2 _ c2 ns _ (.inr ⟨g2, 0, rfl, (K2.out.below hw3 hg2).pre⟩) (H2.out.below hw3) (by unfold maxLen; omega)).mono ?_
  rintro e w4 ⟨rfl, hb4⟩
  have hw4 : Below w2.heap.size w2 w4 := HB3.out.trans (hb4.mono (HB3.out.size))
  have b3 := HB.out.below hw4 (by omega)
  have d3 := HC.out.below hw4 (by omega)
  clear x2 y2
  have x1 := b3.t1
  have x2 := b3.t2
  have y1 := d3.t1
  have y2 := d3.t2
  have hwz : Below w.heap.size w w4 := hw3.trans (hb4.mono hw3.size)
  obtain ⟨⟨p0, p1, p2⟩, ⟨p3, p4, p5⟩⟩ := tmark_cells (K1.out.below hwz hg1)
  obtain ⟨⟨q0, q1, q2, q3⟩, ⟨q4, q5, q6, q7⟩⟩ := nmark_cells (K2.out.below hwz hg2)
  have HWZ : Hid (Below w.heap.size w w4) := hwz
  have hsz4 := hwz.size
  clear hw3 hb4 hw4 b3 d3 hwz
  go_wp2
  go_ret
  exact ⟨rfl, HWZ.out⟩
end Go.Proofs.YtcanabbjliloeaaDoor
