import Derived.Test.YtcanabbjliloeaaDoorSk3
import Derived.Test.YtcanabbjliloeaaDoorLt
import Derived.Test.YtcanabbjliloeaaDoorNam
namespace Go.Proofs.YtcanabbjliloeaaDoor
open Go.ChangeShapes Go.WideShapes Go.ChangeAt Go.RowKit
set_option linter.unusedVariables false

theorem nams_short (k : Nat) : (nmF nams k).length ≤ 12 := by
  have h : ∀ l ∈ nams, l.length ≤ 12 := by decide
  unfold nmF
  by_cases hk : k < nams.length
  · rw [List.getD, List.getElem?_eq_getElem hk]
    exact h _ (List.getElem_mem hk)
  · rw [List.getD, List.getElem?_eq_none (by omega)]
    exact Nat.zero_le _

set_option maxRecDepth 1000000 in
set_option maxHeartbeats 2000000 in
theorem treeSketches_walk (s : ByteArray) (a1 a2 : Option Addr) (c1 c2 : Nat) (ts : List Tk) (ns : List Nd) (w : World) (h1 : LiesA w a1 ts) (h2 : LiesA w a2 ns) (hn1 : a1 = none → ts.length = 0 ∧ c1 = 0) (hn2 : a2 = none → ns.length = 0 ∧ c2 = 0)
    (hl1 : ts.length * 24 ≤ 140737488351232) (hl2 : ns.length * 32 ≤ 140737488351232) (hs : s.size ≤ 140737488351232) (hf1 : ∀ e ∈ ts, TkFit e) (hf2 : ∀ e ∈ ns, NdFit e) (hN : NmsAt nams w) :
    Calls Tryd.prog 3 #[.agg #[.string s, .slice a1 ts.length c1, .slice a2 ns.length c2]] w fun e w' => e = .returned (.bool true) ∧ Below w.heap.size w w' := by
  have H1 : Hid (LiesA w a1 ts) := h1
  have H2 : Hid (LiesA w a2 ns) := h2
  have HN1 : Hid (a1 = none → ts.length = 0 ∧ c1 = 0) := hn1
  have HN2 : Hid (a2 = none → ns.length = 0 ∧ c2 = 0) := hn2
  have HF2 : Hid (∀ e ∈ ns, NdFit e) := hf2
  have HNM : Hid (NmsAt nams w) := hN
  obtain ⟨R, hR⟩ : ∃ R, skB nams ns = R := ⟨_, rfl⟩
  have SK : Hid (∀ (a : Option Addr) (c : Nat) v, LiesA v a ns → NmsAt nams v → Calls Tryd.prog 5 #[.agg #[.slice a ns.length c]] v fun e w' => e = .returned (.string R) ∧ Below v.heap.size v w') := fun a c v hv hm => by rw [← hR]; exact sketch_big nams nams_short a c ns v hv (by omega) HF2.out hm.c
  have RSK : Hid (∀ (a : Option Addr) (c : Nat) v, LiesA v a ns → NmsAt nams v → Calls Tryd.prog 6 #[.agg #[.slice a ns.length c]] v fun e w' => e = .returned (.string R) ∧ Below v.heap.size v w') := fun a c v hv hm => by rw [← hR, ← rs_sk]; exact rsketch_big nams nams_short a c ns v hv (by omega) HF2.out hm
  clear h1 h2 hn1 hn2 hf1 hf2 hN hR
  go_enter Tryd.func3, Tryd.ntmps3
  go_wp2_with fail
  obtain ⟨w0, e0, hw0, hs0, B0⟩ := bx1 w #[.string s, .slice a1 ts.length c1, .slice a2 ns.length c2] 27
  rw [e0]
  refine (lent_lt s a1 a2 c1 c2 ts ns w w0 w.heap.size hw0 B0 (H1.out.below hw0) (H2.out.below hw0) HN1.out HN2.out hl1 hl2).mono ?_
  rintro e w1 ⟨g1, g2, rfl, hg1, hg2, hb1, w4, e2, hlt⟩
  have HL4 : Hid (Lt w w4 s a1 c1 ts a2 c2 ns g1 g2 w.heap.size w1.heap.size) := hlt
  have HE2 : Hid (w1.alloc (.cells #[.string s, .slice (some ⟨g1, 0, none⟩) ts.length (ts.length + 2), .slice (some ⟨g2, 0, none⟩) ns.length (ns.length + 2)] 27) = w4) := e2
  clear hw0 B0 e0 hs0 hb1 hg1 hg2 e2 hlt
  go_upto_region 2 with fail
  rw [HE2.out]
  clear HE2
  obtain ⟨X, F, hX, hF, onto⟩ := class_of (fun v => Below w4.heap.size w4 v) (Below.refl _ w4)
  have HF : Hid (∀ y, Below w4.heap.size w4 (F y)) := hF
  have HO : Hid (∀ v, Below w4.heap.size w4 v → ∃ x, v = F x) := fun v h => by obtain ⟨x, hx⟩ := onto v h; exact ⟨x, hx.symm⟩
  have HM : Hid (∀ y, NmsAt nams (F y)) := fun y => HNM.out.below (HL4.out.bel.trans ((hF y).mono HL4.out.bel.size))
  have f0 : ∀ y, (F y).cell? ⟨w.heap.size, 0, none⟩ = some (.string s) := fun y => (HL4.out.below (hF y)).cells.1.1
  have f1 : ∀ y, (F y).cell? ⟨w.heap.size, 1, none⟩ = some (.slice a1 ts.length c1) := fun y => (HL4.out.below (hF y)).cells.1.2.1
  have f2 : ∀ y, (F y).cell? ⟨w.heap.size, 2, none⟩ = some (.slice a2 ns.length c2) := fun y => (HL4.out.below (hF y)).cells.1.2.2
  have f3 : ∀ y, (F y).cell? ⟨w1.heap.size, 0, none⟩ = some (.string s) := fun y => (HL4.out.below (hF y)).cells.2.1
  have f4 : ∀ y, (F y).cell? ⟨w1.heap.size, 1, none⟩ = some (.slice (some ⟨g1, 0, none⟩) ts.length (ts.length + 2)) := fun y => (HL4.out.below (hF y)).cells.2.2.1
  have f5 : ∀ y, (F y).cell? ⟨w1.heap.size, 2, none⟩ = some (.slice (some ⟨g2, 0, none⟩) ns.length (ns.length + 2)) := fun y => (HL4.out.below (hF y)).cells.2.2.2
  have u1 : (R.toList == R.toList) = true := beq_self_eq_true _
  clear hF onto
  refine region_class F (by kernel_rfl) (by kernel_rfl) (by obtain ⟨x, hx⟩ := HO.out _ (Below.refl _ _).drew; exact ⟨x, hx.symm⟩) ?_
  repeat (go_big_quiet_step (first
    | (go_at_call 5; refine (SK.out _ _ _ (HL4.out.below (HF.out _)).nod (HM.out _)).mono ?_; rintro e w5 ⟨rfl, hb5⟩; exact ⟨rfl, HO.out _ ((HF.out _).trans (hb5.mono (HF.out _).size))⟩)
    | (go_at_call 6; refine (RSK.out a2 c2 _ (HL4.out.below (HF.out _)).l2 (HM.out _)).mono ?_; rintro e w5 ⟨rfl, hb5⟩; exact ⟨rfl, HO.out _ ((HF.out _).trans (hb5.mono (HF.out _).size))⟩)
    | (go_at_call 7; refine ((HL4.out.below (HF.out _)).kept hl1 hl2).mono ?_; rintro e w5 ⟨rfl, hb5⟩; exact ⟨rfl, HO.out _ ((HF.out _).trans (hb5.mono (HF.out _).size))⟩)))
  refine wpQuiet_nil ?_
  rintro _ ⟨nq, rfl⟩
  go_wp2
  go_ret
  refine ⟨rfl, HL4.out.bel.trans ((HF.out nq).mono HL4.out.bel.size)⟩
end Go.Proofs.YtcanabbjliloeaaDoor
