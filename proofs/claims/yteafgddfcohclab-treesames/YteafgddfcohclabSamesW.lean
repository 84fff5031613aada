import Derived.Test.YteafgddfcohclabSa4
import Derived.Test.YteafgddfcohclabLt
namespace Go.Proofs.Yteafgddfcohclab
open Go.ChangeShapes Go.WideShapes Go.ChangeAt Go.RowKit
set_option linter.unusedVariables false

set_option maxRecDepth 1000000 in
set_option maxHeartbeats 2000000 in
theorem treeSames_walk (s : ByteArray) (a1 a2 : Option Addr) (c1 c2 : Nat) (ts : List Tk) (ns : List Nd) (s' : ByteArray) (a3 a4 : Option Addr) (c3 c4 : Nat) (us : List Tk) (ms : List Nd) (w : World)
    (h1 : LiesA w a1 ts) (h2 : LiesA w a2 ns) (hn1 : a1 = none → ts.length = 0 ∧ c1 = 0) (hn2 : a2 = none → ns.length = 0 ∧ c2 = 0) (hl1 : ts.length * 24 ≤ 140737488351232) (hl2 : ns.length * 32 ≤ 140737488351232) (hs : s.size ≤ 140737488351232) (hf1 : ∀ e ∈ ts, TkFit e) (hf2 : ∀ e ∈ ns, NdFit e)
    (h3 : LiesA w a3 us) (h4 : LiesA w a4 ms) (hn3 : a3 = none → us.length = 0 ∧ c3 = 0) (hn4 : a4 = none → ms.length = 0 ∧ c4 = 0) (hl3 : us.length * 24 ≤ 140737488351232) (hl4 : ms.length * 32 ≤ 140737488351232) (hs' : s'.size ≤ 140737488351232) (hf3 : ∀ e ∈ us, TkFit e) (hf4 : ∀ e ∈ ms, NdFit e) :
    Calls Try.prog 4 #[.agg #[.string s, .slice a1 ts.length c1, .slice a2 ns.length c2], .agg #[.string s', .slice a3 us.length c3, .slice a4 ms.length c4]] w fun e w' => e = .returned (.bool true) ∧ Below w.heap.size w w' := by
  have H1 : Hid (LiesA w a1 ts) := h1
  have H2 : Hid (LiesA w a2 ns) := h2
  have H3 : Hid (LiesA w a3 us) := h3
  have H4 : Hid (LiesA w a4 ms) := h4
  have HN1 : Hid (a1 = none → ts.length = 0 ∧ c1 = 0) := hn1
  have HN2 : Hid (a2 = none → ns.length = 0 ∧ c2 = 0) := hn2
  have HN3 : Hid (a3 = none → us.length = 0 ∧ c3 = 0) := hn3
  have HN4 : Hid (a4 = none → ms.length = 0 ∧ c4 = 0) := hn4
  have HF1 : Hid (∀ e ∈ ts, TkFit e) := hf1
  have HF2 : Hid (∀ e ∈ ns, NdFit e) := hf2
  have HF3 : Hid (∀ e ∈ us, TkFit e) := hf3
  have HF4 : Hid (∀ e ∈ ms, NdFit e) := hf4
  clear h1 h2 h3 h4 hn1 hn2 hn3 hn4 hf1 hf2 hf3 hf4
  go_enter Try.func4, Try.ntmps4
  go_wp2_with fail
  obtain ⟨w0, e0, hw0, hs0, B0, C0⟩ := bx2 w #[.string s, .slice a1 ts.length c1, .slice a2 ns.length c2] #[.string s', .slice a3 us.length c3, .slice a4 ms.length c4] 27 27
  rw [e0]
  refine (lent_lt s a1 a2 c1 c2 ts ns w w0 w.heap.size hw0 B0 (H1.out.below hw0) (H2.out.below hw0) HN1.out HN2.out hl1 hl2).mono ?_
  rintro e w1 ⟨g1, g2, rfl, hg1, hg2, hb1, w4, e2, hlt⟩
  have HL4 : Hid (Lt w w4 s a1 c1 ts a2 c2 ns g1 g2 w.heap.size w1.heap.size) := hlt
  have HB4 : Hid (Below w0.heap.size w0 w4) := by unfold Hid; rw [← e2]; exact hb1.alloc hb1.size _
  have HC4 : Hid (Bx w4 (w.heap.size + 1) #[.string s', .slice a3 us.length c3, .slice a4 ms.length c4] 27) := C0.below HB4.out (by omega)
  have HE2 : Hid (w1.alloc (.cells #[.string s, .slice (some ⟨g1, 0, none⟩) ts.length (ts.length + 2), .slice (some ⟨g2, 0, none⟩) ns.length (ns.length + 2)] 27) = w4) := e2
  clear hw0 B0 C0 e0 hs0 hb1 hg1 hg2 e2 hlt
  go_upto_region 2 with fail
  rw [HE2.out]
  clear HE2
  have z0 := HC4.out.t0
  have z1 := HC4.out.t1
  have z2 := HC4.out.t2
  go_wp2_with fail
  have HV4 : Hid (Below w.heap.size w w4) := HL4.out.bel
  refine (lent_lt s' a3 a4 c3 c4 us ms w w4 (w.heap.size + 1) HV4.out HC4.out (H3.out.below HV4.out) (H4.out.below HV4.out) HN3.out HN4.out hl3 hl4).mono ?_
  rintro e w5 ⟨g3, g4, rfl, hg3, hg4, hb5, w6, e6, hlt⟩
  have HM6 : Hid (Lt w w6 s' a3 c3 us a4 c4 ms g3 g4 (w.heap.size + 1) w5.heap.size) := hlt
  have HB6 : Hid (Below w4.heap.size w4 w6) := by unfold Hid; rw [← e6]; exact hb5.alloc hb5.size _
  have HL6 : Hid (Lt w w6 s a1 c1 ts a2 c2 ns g1 g2 w.heap.size w1.heap.size) := HL4.out.below HB6.out
  have HE6 : Hid (w5.alloc (.cells #[.string s', .slice (some ⟨g3, 0, none⟩) us.length (us.length + 2), .slice (some ⟨g4, 0, none⟩) ms.length (ms.length + 2)] 27) = w6) := e6
  clear z0 z1 z2 hb5 hg3 hg4 e6 hlt HL4 HC4
  go_upto_region 3 with fail
  rw [HE6.out]
  clear HE6
  obtain ⟨X, F, hX, hF, onto⟩ := class_of (fun v => Below w6.heap.size w6 v) (Below.refl _ w6)
  have HF : Hid (∀ y, Below w6.heap.size w6 (F y)) := hF
  have HO : Hid (∀ v, Below w6.heap.size w6 v → ∃ x, v = F x) := fun v h => by obtain ⟨x, hx⟩ := onto v h; exact ⟨x, hx.symm⟩
  have f0 : ∀ y, (F y).cell? ⟨w.heap.size, 0, none⟩ = some (.string s) := fun y => (HL6.out.below (hF y)).cells.1.1
  have f1 : ∀ y, (F y).cell? ⟨w.heap.size, 1, none⟩ = some (.slice a1 ts.length c1) := fun y => (HL6.out.below (hF y)).cells.1.2.1
  have f2 : ∀ y, (F y).cell? ⟨w.heap.size, 2, none⟩ = some (.slice a2 ns.length c2) := fun y => (HL6.out.below (hF y)).cells.1.2.2
  have f3 : ∀ y, (F y).cell? ⟨w1.heap.size, 0, none⟩ = some (.string s) := fun y => (HL6.out.below (hF y)).cells.2.1
  have f4 : ∀ y, (F y).cell? ⟨w1.heap.size, 1, none⟩ = some (.slice (some ⟨g1, 0, none⟩) ts.length (ts.length + 2)) := fun y => (HL6.out.below (hF y)).cells.2.2.1
  have f5 : ∀ y, (F y).cell? ⟨w1.heap.size, 2, none⟩ = some (.slice (some ⟨g2, 0, none⟩) ns.length (ns.length + 2)) := fun y => (HL6.out.below (hF y)).cells.2.2.2
  have f6 : ∀ y, (F y).cell? ⟨w.heap.size + 1, 0, none⟩ = some (.string s') := fun y => (HM6.out.below (hF y)).cells.1.1
  have f7 : ∀ y, (F y).cell? ⟨w.heap.size + 1, 1, none⟩ = some (.slice a3 us.length c3) := fun y => (HM6.out.below (hF y)).cells.1.2.1
  have f8 : ∀ y, (F y).cell? ⟨w.heap.size + 1, 2, none⟩ = some (.slice a4 ms.length c4) := fun y => (HM6.out.below (hF y)).cells.1.2.2
  have f9 : ∀ y, (F y).cell? ⟨w5.heap.size, 0, none⟩ = some (.string s') := fun y => (HM6.out.below (hF y)).cells.2.1
  have fa : ∀ y, (F y).cell? ⟨w5.heap.size, 1, none⟩ = some (.slice (some ⟨g3, 0, none⟩) us.length (us.length + 2)) := fun y => (HM6.out.below (hF y)).cells.2.2.1
  have fb : ∀ y, (F y).cell? ⟨w5.heap.size, 2, none⟩ = some (.slice (some ⟨g4, 0, none⟩) ms.length (ms.length + 2)) := fun y => (HM6.out.below (hF y)).cells.2.2.2
  clear hF onto
  obtain ⟨bb, hbb⟩ : ∃ bb, samB ts us ns ms = bb := ⟨_, rfl⟩
  have HS1 : Hid (∀ y, Calls Try.prog 13 #[.slice (some ⟨g1, 0, none⟩) ts.length (ts.length + 2), .agg #[.slice (some ⟨g2, 0, none⟩) ns.length (ns.length + 2)], .slice (some ⟨g3, 0, none⟩) us.length (us.length + 2), .agg #[.slice (some ⟨g4, 0, none⟩) ms.length (ms.length + 2)]] (F y) fun e w' => e = .returned (.bool bb) ∧ Below (F y).heap.size (F y) w') := by
    unfold Hid; intro y; rw [← hbb]
    exact same_any _ _ _ _ _ _ _ _ ts us ns ms (F y) (HL6.out.below (HF.out y)).tok (HL6.out.below (HF.out y)).nod (HM6.out.below (HF.out y)).tok (HM6.out.below (HF.out y)).nod hl1 hl2 hl3 hl4 HF1.out HF2.out HF3.out HF4.out
  have HS2 : Hid (∀ y, Calls Try.prog 14 #[.slice a1 ts.length c1, .agg #[.slice a2 ns.length c2], .slice a3 us.length c3, .agg #[.slice a4 ms.length c4]] (F y) fun e w' => e = .returned (.bool bb) ∧ Below (F y).heap.size (F y) w') := by
    unfold Hid; intro y; rw [← hbb]
    exact rsame_any _ _ _ _ _ _ _ _ ts us ns ms (F y) (HL6.out.below (HF.out y)).l1 (HL6.out.below (HF.out y)).l2 (HM6.out.below (HF.out y)).l1 (HM6.out.below (HF.out y)).l2 hl1 hl2 hl3 hl4 HF1.out HF2.out HF3.out HF4.out
  clear hbb
  refine region_class F (by kernel_rfl) (by kernel_rfl) (by obtain ⟨x, hx⟩ := HO.out _ (Below.refl _ _).drew; exact ⟨x, hx.symm⟩) ?_
  repeat (go_big_quiet_step (first
    | (go_at_call 13; refine (HS1.out _).mono ?_; rintro e w5 ⟨rfl, hb5⟩; exact ⟨rfl, HO.out _ ((HF.out _).trans (hb5.mono (HF.out _).size))⟩)
    | (go_at_call 14; refine (HS2.out _).mono ?_; rintro e w5 ⟨rfl, hb5⟩; exact ⟨rfl, HO.out _ ((HF.out _).trans (hb5.mono (HF.out _).size))⟩)
    | (go_at_call 12; (with_reducible refine ((HL6.out.below (HF.out _)).kept hl1 hl2).mono ?_); rintro e w5 ⟨rfl, hb5⟩; exact ⟨rfl, HO.out _ ((HF.out _).trans (hb5.mono (HF.out _).size))⟩)
    | (go_at_call 12; (with_reducible refine ((HM6.out.below (HF.out _)).kept hl3 hl4).mono ?_); rintro e w5 ⟨rfl, hb5⟩; exact ⟨rfl, HO.out _ ((HF.out _).trans (hb5.mono (HF.out _).size))⟩)))
  refine wpQuiet_nil ?_
  rintro _ ⟨nq, rfl⟩
  go_wp2
  go_ret
  refine ⟨rfl, HL6.out.bel.trans ((HF.out nq).mono HL6.out.bel.size)⟩
end Go.Proofs.Yteafgddfcohclab
