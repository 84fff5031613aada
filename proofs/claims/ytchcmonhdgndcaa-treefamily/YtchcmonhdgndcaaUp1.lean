import Derived.Test.YtchcmonhdgndcaaUpP
import Derived.Test.YtchcmonhdgndcaaKdk
import Derived.Test.YtchcmonhdgndcaaCn
import Derived.Test.YtchcmonhdgndcaaAt1
namespace Go.Proofs.Ytchcmonhdgndcaa
open Go.ChangeShapes Go.WideShapes Go.ChangeAt Go.RowKit
set_option linter.unusedVariables false

set_option maxRecDepth 1000000 in
set_option maxHeartbeats 1000000 in
theorem up1_any (a : Option Addr) (cap : Nat) (ns : List Nd) (n m : Nat) (x : Nd) (bt bn : Nat) (w : World) (hx : ns[m]? = some x) (hmn : m < n) (hn : n < ns.length) (h : LiesA w a ns) (hl : ns.length * 32 ≤ 140737488351232)
    (y1 : w.cell? ⟨bt, 0, none⟩ = some (.slice a ns.length cap)) (y2 : w.cell? ⟨bn, 0, none⟩ = some (.int .i64 (n : Int))) (t1 : bt < w.heap.size) (t2 : bn < w.heap.size) :
    Calls Try.prog 29 #[.int .i64 (m : Int), .pointer (some ⟨bt, 0, none⟩), .pointer (some ⟨bn, 0, none⟩)] w fun e w' => e = .returned (.bool (upB ns n m x)) ∧ Below w.heap.size w w' := by
  have hm : m < ns.length := (List.getElem?_eq_some_iff.1 hx).1
  have H : Hid (LiesA w a ns) := h
  rcases h with h0 | ⟨b2, o2, rfl, hL2⟩
  · rw [h0] at hm; simp at hm
  have HL : Hid (Lies w b2 o2 ns) := hL2
  have d3 := (hL2.nd (Below.refl _ w) hx).2.2.2
  have hm0 : (0 : Int) ≤ (m : Int) := by omega
  have hm1 : (m : Int) < (ns.length : Int) := by omega
  have hb2r : b2 < w.heap.size := hL2.1
  have HX : Hid (ns[m]? = some x) := hx
  clear hx hL2
  by_cases g : (n : Int) - (m : Int) < x.s
  · have HU : Hid (upB ns n m x = (kdl ns m).contains (n : Int)) := by unfold Hid upB; rw [decide_eq_true g]; rfl
    have HKL : Hid ((kdl ns m).length ≤ ns.length) := kid_len ns m
    have hw1 : IntKind.i64.wrap ((n : Int) - (m : Int)) = (n : Int) - (m : Int) := IntWalk.i64_in _ ⟨by omega, by omega⟩
    have hw2 : decide ((n : Int) - (m : Int) < x.s) = true := decide_eq_true g
    go_enter Try.func29, Try.ntmps29
    go_upto_region 1 with fail
    go_region_held3 (fun v => v.cell? ⟨bt, 0, none⟩ = some (.slice (some ⟨b2, o2, none⟩) ns.length cap) ∧ v.cell? ⟨bn, 0, none⟩ = some (.int .i64 (n : Int)) ∧ v.cell? ⟨b2, o2 + m * 4 + 3, none⟩ = some (.int .i64 x.s))
      (first | go_keep | (refine ⟨?_, ?_, ?_⟩ <;> assumption))
      ((first
        | (go_at_call 11; refine (Kids_any _ cap ns (m : Int) _ (H.out.below (Below.refl _ w).drew) hl (by omega) (by omega)).mono ?_; rintro e w3 ⟨v3, rfl, o3, hb3⟩; obtain ⟨a3, c3, rfl, q3, hq3, hnn3⟩ := own_form o3; have Q3 : Hid (LiesA w3 a3 (kdl ns m)) := q3; have HB3 : Hid (Below w.heap.size w w3) := (Below.refl _ w).drew.trans hb3; have z1 := (HB3.out.cell (p := ⟨bt, 0, none⟩) t1).trans y1; have z2 := (HB3.out.cell (p := ⟨bn, 0, none⟩) t2).trans y2; have z3 := (HL.out.nd HB3.out HX.out).2.2.2; clear hb3 o3 q3 hq3 hnn3)
        | (go_at_call 30; refine (contains_any _ c3 (kdl ns m) (n : Int) _ Q3.out (by have := HKL.out; unfold maxLen; omega)).mono ?_; rintro e w4 ⟨rfl, rfl⟩)))
    go_wp2
    go_ret
    exact ⟨retB (by rw [HU.out]; simp), HB3.out⟩
  · have HU : Hid (upB ns n m x = false) := by unfold Hid upB; rw [decide_eq_false g]; rfl
    obtain ⟨X, F, hX, hF, onto⟩ := class_of (fun v => Below w.heap.size w v) (Below.refl _ w)
    have HF : Hid (∀ y, Below w.heap.size w (F y)) := hF
    have HO : Hid (∀ v, Below w.heap.size w v → ∃ x, v = F x) := fun v h => by obtain ⟨x, hx⟩ := onto v h; exact ⟨x, hx.symm⟩
    have f1 : ∀ y, (F y).cell? ⟨bt, 0, none⟩ = some (.slice (some ⟨b2, o2, none⟩) ns.length cap) := fun y => ((hF y).cell (p := ⟨bt, 0, none⟩) t1).trans y1
    have f2 : ∀ y, (F y).cell? ⟨bn, 0, none⟩ = some (.int .i64 (n : Int)) := fun y => ((hF y).cell (p := ⟨bn, 0, none⟩) t2).trans y2
    have f3 := fun y => (HL.out.nd (hF y) HX.out).2.2.2
    clear hF onto y1 y2 d3
    go_enter Try.func29, Try.ntmps29
    go_upto_region 1 with fail
    refine region_class F (by kernel_rfl) (by kernel_rfl) (by obtain ⟨x, hx⟩ := HO.out _ (Below.refl _ _).drew; exact ⟨x, hx.symm⟩) ?_
    repeat (go_big_quiet_step (fail))
    refine wpQuiet_nil ?_
    rintro _ ⟨nq, rfl⟩
    go_wp2
    go_ret
    exact ⟨retB HU.out.symm, HF.out nq⟩
end Go.Proofs.Ytchcmonhdgndcaa
