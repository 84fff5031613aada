import Derived.Test.YteafgddfcohclabOw1
import Derived.Test.YteafgddfcohclabOw3
import Derived.Test.YteafgddfcohclabSmI
namespace Go.Proofs.Yteafgddfcohclab
open Go.ChangeShapes Go.WideShapes Go.ChangeAt Go.RowKit
set_option linter.unusedVariables false

theorem owl_len (ts : List Tk) (ns : List Nd) (n : Int) : (owl ts ns n).length ≤ ts.length := by
  by_cases h : n < 0
  · rw [owl_neg h]; simp
  · obtain ⟨m, rfl⟩ : ∃ m : Nat, n = m := ⟨n.toNat, by omega⟩
    cases hx : ns[m]? with
    | none => rw [owl_big (by have := List.getElem?_eq_none_iff.1 hx; omega)]; simp
    | some x =>
      rw [owl_at hx]
      exact Nat.le_trans (List.length_filter_le _ _) (Nat.le_trans (tkl_len _ _ _) (by have := spE_le x ts.length; omega))

set_option maxRecDepth 1000000 in
set_option maxHeartbeats 2000000 in
theorem treeOwns_walk (s : ByteArray) (a1 a2 : Option Addr) (c1 c2 : Nat) (ts : List Tk) (ns : List Nd) (n : Int) (w : World) (h1 : LiesA w a1 ts) (h2 : LiesA w a2 ns) (hn1 : a1 = none → ts.length = 0 ∧ c1 = 0) (hn2 : a2 = none → ns.length = 0 ∧ c2 = 0)
    (hl1 : ts.length * 24 ≤ 140737488351232) (hl2 : ns.length * 32 ≤ 140737488351232) (hs : s.size ≤ 140737488351232) (hf1 : ∀ e ∈ ts, TkFit e) (hf2 : ∀ e ∈ ns, NdFit e) (bn0 : -9223372036854775808 ≤ n) (bn1 : n ≤ 9223372036854775807) :
    Calls Try.prog 7 #[.agg #[.string s, .slice a1 ts.length c1, .slice a2 ns.length c2], .int .i64 n] w fun e w' => e = .returned (.bool true) ∧ Below w.heap.size w w' := by
  have H1 : Hid (LiesA w a1 ts) := h1
  have H2 : Hid (LiesA w a2 ns) := h2
  have HN1 : Hid (a1 = none → ts.length = 0 ∧ c1 = 0) := hn1
  have HN2 : Hid (a2 = none → ns.length = 0 ∧ c2 = 0) := hn2
  have HF2 : Hid (∀ e ∈ ns, NdFit e) := hf2
  clear h1 h2 hn1 hn2 hf1 hf2
  go_enter Try.func7, Try.ntmps7
  go_wp2_with fail
  obtain ⟨w0, e0, hw0, hs0, B0⟩ := bx1 w #[.string s, .slice a1 ts.length c1, .slice a2 ns.length c2] 27
  rw [e0]
  refine (lent_lt s a1 a2 c1 c2 ts ns w w0 w.heap.size hw0 B0 (H1.out.below hw0) (H2.out.below hw0) HN1.out HN2.out hl1 hl2).mono ?_
  rintro e w1 ⟨g1, g2, rfl, hg1, hg2, hb1, w2, e2, hlt⟩
  have HLT : Hid (Lt w w2 s a1 c1 ts a2 c2 ns g1 g2 w.heap.size w1.heap.size) := hlt
  have HE2 : Hid (w1.alloc (.cells #[.string s, .slice (some ⟨g1, 0, none⟩) ts.length (ts.length + 2), .slice (some ⟨g2, 0, none⟩) ns.length (ns.length + 2)] 27) = w2) := e2
  clear hw0 B0 e0 hs0 hb1 hg1 hg2 e2 hlt
  go_upto_region 2 with fail
  rw [HE2.out]
  clear HE2
  obtain ⟨⟨x0, x1, x2⟩, y0, y1, y2⟩ := HLT.out.cells
  have hnl : (owl ts ns n).length ≤ ts.length := owl_len ts ns n
  first
    | (go_region_held3 (fun v => v.cell? ⟨w.heap.size, 0, none⟩ = some (.string s) ∧ v.cell? ⟨w.heap.size, 1, none⟩ = some (.slice a1 ts.length c1) ∧ v.cell? ⟨w.heap.size, 2, none⟩ = some (.slice a2 ns.length c2) ∧ v.cell? ⟨w1.heap.size, 0, none⟩ = some (.string s) ∧ v.cell? ⟨w1.heap.size, 1, none⟩ = some (.slice (some ⟨g1, 0, none⟩) ts.length (ts.length + 2)) ∧ v.cell? ⟨w1.heap.size, 2, none⟩ = some (.slice (some ⟨g2, 0, none⟩) ns.length (ns.length + 2)))
        (first
          | go_keep
          | (refine ⟨?_, ?_, ?_, ?_, ?_, ?_⟩ <;> assumption))
        ((first
          | (go_at_call 21; refine (own_any _ _ _ _ ts ns n _ (HLT.out.below (Below.refl _ w2).drew).tok (HLT.out.below (Below.refl _ w2).drew).nod hl1 hl2 HF2.out bn0 bn1 (by omega)).mono ?_; rintro e w3 ⟨v3, rfl, o3, hb3⟩; have HL3 : Hid (Lt w w3 s a1 c1 ts a2 c2 ns g1 g2 w.heap.size w1.heap.size) := (HLT.out.below (Below.refl _ w2).drew).below hb3; obtain ⟨a3, c3, rfl, q3, hq3, hnn3⟩ := own_form o3; have Q3 : Hid (LiesA w3 a3 (owl ts ns n)) := q3; obtain ⟨⟨x0', x1', x2'⟩, y0', y1', y2'⟩ := HL3.out.cells; clear hb3 o3 q3 hq3 hnn3)
          | (go_at_call 22; refine (rown_any a1 a2 c1 c2 ts ns n _ HL3.out.l1 HL3.out.l2 hl1 hl2 HF2.out bn0 bn1).mono ?_; rintro e w4 ⟨v4, rfl, o4, hb4⟩; have HL4 : Hid (Lt w w4 s a1 c1 ts a2 c2 ns g1 g2 w.heap.size w1.heap.size) := HL3.out.below hb4; obtain ⟨a4, c4, rfl, q4, hq4, hnn4⟩ := own_form o4; have Q4 : Hid (LiesA w4 a4 (owl ts ns n)) := q4; have Q34 : Hid (LiesA w4 a3 (owl ts ns n)) := Q3.out.below hb4; obtain ⟨⟨x0'', x1'', x2''⟩, y0'', y1'', y2''⟩ := HL4.out.cells; clear hb4 o4 q4 hq4 hnn4)
          | (go_at_call 9; refine (same_ints a3 a4 c3 c4 (owl ts ns n) _ Q34.out Q4.out (by unfold maxLen; omega)).mono ?_; rintro e w5 ⟨rfl, hb5⟩; have HL5 : Hid (Lt w w5 s a1 c1 ts a2 c2 ns g1 g2 w.heap.size w1.heap.size) := HL4.out.below hb5; obtain ⟨⟨x0z, x1z, x2z⟩, y0z, y1z, y2z⟩ := HL5.out.cells; clear hb5)
          | (go_at_call 12; refine (HL5.out.kept hl1 hl2).mono ?_; rintro e w6 ⟨rfl, hb6⟩; have HL6 : Hid (Lt w w6 s a1 c1 ts a2 c2 ns g1 g2 w.heap.size w1.heap.size) := HL5.out.below hb6; obtain ⟨⟨x0y, x1y, x2y⟩, y0y, y1y, y2y⟩ := HL6.out.cells; clear hb6))))
    | fail
  go_wp2
  go_ret
  exact ⟨rfl, HL6.out.bel⟩
end Go.Proofs.Yteafgddfcohclab
