import Derived.Test.YteafgddfcohclaaDp4
import Derived.Test.YteafgddfcohclaaSmN
namespace Go.Proofs.Yteafgddfcohclaa
open Go.ChangeShapes Go.WideShapes Go.ChangeAt Go.RowKit
set_option linter.unusedVariables false

set_option maxRecDepth 1000000 in
set_option maxHeartbeats 2000000 in
theorem parserDepths_walk (a : Option Addr) (c : Nat) (ns : List Nd) (w : World) (h : LiesA w a ns) (hn : a = none → ns.length = 0 ∧ c = 0) (hl : ns.length * 32 ≤ 140737488351232) :
    Calls Try.prog 3 #[.agg #[.slice a ns.length c]] w fun e w' => e = .returned (.bool true) ∧ Below w.heap.size w w' := by
  have H : Hid (LiesA w a ns) := h
  have HN : Hid (a = none → ns.length = 0 ∧ c = 0) := hn
  clear h hn
  go_enter Try.func3, Try.ntmps3
  go_wp2_with fail
  obtain ⟨w0, e0, hw0, hs0, B0⟩ := bx1 w #[.slice a ns.length c] 24
  rw [e0]
  refine (copyTree_any a c ns w0 (H.out.below hw0) HN.out hl).mono ?_
  rintro e w1 ⟨a1, c1, rfl, hl1, hb1⟩
  obtain ⟨w2, e2, hw2, hs2, B2⟩ := bx1 w1 #[.slice a1 ns.length c1] 24
  have HE2 : Hid (w1.alloc (.cells #[.slice a1 ns.length c1] 24) = w2) := e2
  have hs1 := hb1.size
  have HW2 : Hid (Below w0.heap.size w0 w2) := hb1.trans (hw2.mono hs1)
  have HW : Hid (Below w.heap.size w w2) := hw0.trans (HW2.out.mono hw0.size)
  have HB : Hid (Bx w2 w.heap.size #[.slice a ns.length c] 24) := B0.below HW2.out (by omega)
  have HB2 : Hid (Bx w2 w1.heap.size #[.slice a1 ns.length c1] 24) := B2
  have HL1 : Hid (LiesA w2 a1 ns) := hl1.below hw2
  have HL2 : Hid (LiesA w2 a ns) := H.out.below HW.out
  clear hw0 B0 e0 hs0 hb1 e2 hw2 B2 hl1
  go_upto_region 2 with fail
  rw [HE2.out]
  clear HE2
  obtain ⟨X, F, hX, hF, onto⟩ := class_of (fun v => Below w2.heap.size w2 v) (Below.refl _ w2)
  have HF : Hid (∀ y, Below w2.heap.size w2 (F y)) := hF
  have HO : Hid (∀ v, Below w2.heap.size w2 v → ∃ x, v = F x) := fun v h => by obtain ⟨x, hx⟩ := onto v h; exact ⟨x, hx.symm⟩
  have f0 : ∀ y, (F y).cell? ⟨w.heap.size, 0, none⟩ = some (.slice a ns.length c) := fun y => (HB.out.below (hF y) HB.out.lt).one
  have f1 : ∀ y, (F y).cell? ⟨w1.heap.size, 0, none⟩ = some (.slice a1 ns.length c1) := fun y => (HB2.out.below (hF y) HB2.out.lt).one
  have hdd : ((dpt ns : Int) == (dpt ns : Int)) = true := by simp
  clear hF onto
  refine region_class F (by kernel_rfl) (by kernel_rfl) (by obtain ⟨x, hx⟩ := HO.out _ (Below.refl _ _).drew; exact ⟨x, hx.symm⟩) ?_
  repeat (go_big_quiet_step (first
    | (go_at_call 10; refine (depth_any a1 c1 ns _ (HL1.out.below (HF.out _)) hl).mono ?_; rintro e w5 ⟨rfl, hb5⟩; exact ⟨rfl, HO.out _ ((HF.out _).trans (hb5.mono (HF.out _).size))⟩)
    | (go_at_call 11; refine (rdepth_any a c ns _ (HL2.out.below (HF.out _)) hl).mono ?_; rintro e w5 ⟨rfl, hb5⟩; exact ⟨rfl, HO.out _ ((HF.out _).trans (hb5.mono (HF.out _).size))⟩)
    | (go_at_call 12; refine (same_tree a1 a c1 c ns _ (HL1.out.below (HF.out _)) (HL2.out.below (HF.out _)) (by unfold maxLen; omega)).mono ?_; rintro e w5 ⟨rfl, hb5⟩; exact ⟨rfl, HO.out _ ((HF.out _).trans (hb5.mono (HF.out _).size))⟩)))
  refine wpQuiet_nil ?_
  rintro _ ⟨nq, rfl⟩
  go_wp2
  go_ret
  refine ⟨rfl, HW.out.trans ((HF.out nq).mono HW.out.size)⟩
end Go.Proofs.Yteafgddfcohclaa
