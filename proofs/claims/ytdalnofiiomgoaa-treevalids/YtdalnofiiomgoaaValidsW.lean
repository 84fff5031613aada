import Derived.Test.YtdalnofiiomgoaaVl5
import Derived.Test.YtdalnofiiomgoaaLt
namespace Go.Proofs.Ytdalnofiiomgoaa
open Go.ChangeShapes Go.WideShapes Go.ChangeAt Go.RowKit
set_option linter.unusedVariables false

set_option maxRecDepth 1000000 in
set_option maxHeartbeats 2000000 in
theorem treeValids_walk (s : ByteArray) (a1 a2 : Option Addr) (c1 c2 : Nat) (ts : List Tk) (ns : List Nd) (n : Int) (w : World) (h1 : LiesA w a1 ts) (h2 : LiesA w a2 ns) (hn1 : a1 = none → ts.length = 0 ∧ c1 = 0) (hn2 : a2 = none → ns.length = 0 ∧ c2 = 0)
    (hl1 : ts.length * 24 ≤ 140737488351232) (hl2 : ns.length * 32 ≤ 140737488351232) (hs : s.size ≤ 140737488351232) (hf1 : ∀ e ∈ ts, TkFit e) (hf2 : ∀ e ∈ ns, NdFit e) (bn0 : -9223372036854775808 ≤ n) (bn1 : n ≤ 9223372036854775807) :
    Calls Try.prog 8 #[.agg #[.string s, .slice a1 ts.length c1, .slice a2 ns.length c2], .int .i64 n] w fun e w' => e = .returned (.bool true) ∧ Below w.heap.size w w' := by
  have H1 : Hid (LiesA w a1 ts) := h1
  have H2 : Hid (LiesA w a2 ns) := h2
  have HN1 : Hid (a1 = none → ts.length = 0 ∧ c1 = 0) := hn1
  have HN2 : Hid (a2 = none → ns.length = 0 ∧ c2 = 0) := hn2
  have HF1 : Hid (∀ e ∈ ts, TkFit e) := hf1
  have HF2 : Hid (∀ e ∈ ns, NdFit e) := hf2
  clear h1 h2 hn1 hn2 hf1 hf2
  go_enter Try.func8, Try.ntmps8
  go_wp2_with fail
  obtain ⟨w0, e0, hw0, hs0, B0⟩ := bx1 w #[.string s, .slice a1 ts.length c1, .slice a2 ns.length c2] 27
  rw [e0]
  refine (lent_lt s a1 a2 c1 c2 ts ns w w0 w.heap.size hw0 B0 (H1.out.below hw0) (H2.out.below hw0) HN1.out HN2.out hl1 hl2).mono ?_
  rintro e w1 ⟨g1, g2, rfl, hg1, hg2, hb1, w4, e2, hlt⟩
  have HL4 : Hid (Lt w w4 s a1 c1 ts a2 c2 ns g1 g2 w.heap.size w1.heap.size) := hlt
  have HE2 : Hid (w1.alloc (.cells #[.string s, .slice (some ⟨g1, 0, none⟩) ts.length (ts.length + 2), .slice (some ⟨g2, 0, none⟩) ns.length (ns.length + 2)] 27) = w4) := e2
  clear hw0 B0 e0 hs0 hb1 hg1 hg2 e2 hlt
  go_upto_region 2 with fail
  rw [HE2.out]
  clear HE2
  obtain ⟨X, F, hX, hF, onto⟩ := class_of (fun v => Below w4.heap.size w4 v) (Below.refl _ w4)
  have HF : Hid (∀ y, Below w4.heap.size w4 (F y)) := hF
  have HO : Hid (∀ v, Below w4.heap.size w4 v → ∃ x, v = F x) := fun v h => by obtain ⟨x, hx⟩ := onto v h; exact ⟨x, hx.symm⟩
  have f0 : ∀ y, (F y).cell? ⟨w.heap.size, 0, none⟩ = some (.string s) := fun y => (HL4.out.below (hF y)).cells.1.1
  have f1 : ∀ y, (F y).cell? ⟨w.heap.size, 1, none⟩ = some (.slice a1 ts.length c1) := fun y => (HL4.out.below (hF y)).cells.1.2.1
  have f2 : ∀ y, (F y).cell? ⟨w.heap.size, 2, none⟩ = some (.slice a2 ns.length c2) := fun y => (HL4.out.below (hF y)).cells.1.2.2
  have f3 : ∀ y, (F y).cell? ⟨w1.heap.size, 0, none⟩ = some (.string s) := fun y => (HL4.out.below (hF y)).cells.2.1
  have f4 : ∀ y, (F y).cell? ⟨w1.heap.size, 1, none⟩ = some (.slice (some ⟨g1, 0, none⟩) ts.length (ts.length + 2)) := fun y => (HL4.out.below (hF y)).cells.2.2.1
  have f5 : ∀ y, (F y).cell? ⟨w1.heap.size, 2, none⟩ = some (.slice (some ⟨g2, 0, none⟩) ns.length (ns.length + 2)) := fun y => (HL4.out.below (hF y)).cells.2.2.2
  clear hF onto
  refine region_class F (by kernel_rfl) (by kernel_rfl) (by obtain ⟨x, hx⟩ := HO.out _ (Below.refl _ _).drew; exact ⟨x, hx.symm⟩) ?_
  repeat (go_big_quiet_step (first
    | (go_at_call 20; with_reducible refine (valid_any _ _ ns n _ (HL4.out.below (HF.out _)).nod hl2 HF2.out).mono ?_; rintro e w5 ⟨rfl, hb5⟩; exact ⟨rfl, HO.out _ ((HF.out _).trans (hb5.mono (HF.out _).size))⟩)
    | (go_at_call 20; with_reducible refine (valid_any _ _ ns (ts.length : Int) _ (HL4.out.below (HF.out _)).nod hl2 HF2.out).mono ?_; rintro e w5 ⟨rfl, hb5⟩; exact ⟨rfl, HO.out _ ((HF.out _).trans (hb5.mono (HF.out _).size))⟩)
    | (go_at_call 21; with_reducible refine (rvalid_any a2 c2 ns n _ (HL4.out.below (HF.out _)).l2 hl2 HF2.out).mono ?_; rintro e w5 ⟨rfl, hb5⟩; exact ⟨rfl, HO.out _ ((HF.out _).trans (hb5.mono (HF.out _).size))⟩)
    | (go_at_call 21; with_reducible refine (rvalid_any a2 c2 ns (ts.length : Int) _ (HL4.out.below (HF.out _)).l2 hl2 HF2.out).mono ?_; rintro e w5 ⟨rfl, hb5⟩; exact ⟨rfl, HO.out _ ((HF.out _).trans (hb5.mono (HF.out _).size))⟩)
    | (go_at_call 16; refine ((HL4.out.below (HF.out _)).kept hl1 hl2).mono ?_; rintro e w5 ⟨rfl, hb5⟩; exact ⟨rfl, HO.out _ ((HF.out _).trans (hb5.mono (HF.out _).size))⟩)))
  refine wpQuiet_nil ?_
  rintro _ ⟨nq, rfl⟩
  go_wp2
  go_ret
  refine ⟨rfl, HL4.out.bel.trans ((HF.out nq).mono HL4.out.bel.size)⟩
end Go.Proofs.Ytdalnofiiomgoaa
