import Derived.Test.YtcanabbjliloeaaDoorKdl
import Derived.Test.YtcanabbjliloeaaDoorCls
import Derived.Deep.RegionHeld3
import Derived.Deep.AppendLies
import Derived.Deep.DrawnRows
import Derived.Deep.DeepCutAuto
namespace Go.Proofs.YtcanabbjliloeaaDoor
open Go.ChangeShapes Go.WideShapes Go.ChangeAt Go.RowKit
set_option linter.unusedVariables false

/-- is a node's kind one, and are its kids in order? -/
def okN (ns : List Nd) (n : Nat) : Bool := match ns[n]? with | some x => decide (x.k < 58) && (kid ns n).isSome | none => false
/-- are the nodes one tree? -/
def shB (ns : List Nd) : Bool := (match ns[0]? with | some x => decide (x.s = (ns.length : Int)) | none => false) && (List.range ns.length).all (okN ns)
theorem okN_at {ns : List Nd} {n : Nat} {x : Nd} (hx : ns[n]? = some x) : okN ns n = (decide (x.k < 58) && (kid ns n).isSome) := by unfold okN; rw [hx]
theorem shB_nil : shB [] = false := rfl
theorem shB_head {ns : List Nd} {x : Nd} (hx : ns[0]? = some x) (h : x.s ≠ (ns.length : Int)) : shB ns = false := by unfold shB; rw [hx]; simp [h]
theorem shB_no {ns : List Nd} {k : Nat} (hk : k < ns.length) (h : okN ns k = false) : shB ns = false := by
  unfold shB
  rw [Bool.and_eq_false_iff]; right
  rw [Bool.eq_false_iff]; intro ha
  have := List.all_eq_true.1 ha k (List.mem_range.2 hk)
  rw [h] at this; cases this
theorem shB_yes {ns : List Nd} {x : Nd} (hx : ns[0]? = some x) (hs : x.s = (ns.length : Int)) (h : ∀ i, i < ns.length → okN ns i = true) : shB ns = true := by
  unfold shB
  rw [hx]; simp only [Bool.and_eq_true, decide_eq_true_eq]
  exact ⟨hs, List.all_eq_true.2 (fun i hi => h i (List.mem_range.1 hi))⟩
theorem all_snoc {p : Nat → Bool} {k : Nat} (h : ∀ i, i < k → p i = true) (hk : p k = true) : ∀ i, i < k + 1 → p i = true := fun i hi => by
  by_cases e : i = k
  · rw [e]; exact hk
  · exact h i (by omega)
theorem retV {a b : Bool} (h : a = b) : Ending.returned (.bool a) = .returned (.bool b) := by rw [h]

set_option maxRecDepth 1000000 in
set_option maxHeartbeats 1000000 in
theorem nested_any (a : Option Addr) (cap : Nat) (ns : List Nd) (w : World) (h : LiesA w a ns) (hl : ns.length * 32 ≤ 140737488351232) (hf : ∀ e ∈ ns, NdFit e) :
    Calls Tryd.prog 8 #[.agg #[.slice a ns.length cap]] w fun e w' => e = .returned (.bool (shB ns)) ∧ Below w.heap.size w w' := by
  have H : Hid (LiesA w a ns) := h
  have HFT : Hid (∀ e ∈ ns, NdFit e) := hf
  obtain ⟨w2, e2, hw, hs2, B0⟩ := bx1 w #[.slice a ns.length cap] 25
  have HB0 : Hid (Below w.heap.size w w2) := hw
  have HX0 : Hid (Bx w2 w.heap.size #[.slice a ns.length cap] 25) := B0
  have HS2 : Hid (w2.heap.size = w.heap.size + 1) := hs2
  have HE2 : Hid (w.alloc (.cells #[.slice a ns.length cap] 25) = w2) := e2
  obtain ⟨X, F, hX, hF, onto⟩ := class_of (fun v => Below w2.heap.size w2 v) (Below.refl _ w2)
  have HF : Hid (∀ y, Below w2.heap.size w2 (F y)) := hF
  have HO : Hid (∀ v, Below w2.heap.size w2 v → ∃ x, v = F x) := fun v h => by obtain ⟨x, hx⟩ := onto v h; exact ⟨x, hx.symm⟩
  have f1 : ∀ y, (F y).cell? ⟨w.heap.size, 0, none⟩ = some (.slice a ns.length cap) := fun y => ((hF y).cell (p := ⟨w.heap.size, 0, none⟩) (by show w.heap.size < w2.heap.size; omega)).trans B0.one
  have HV : Hid (∀ y, Below w.heap.size w (F y)) := fun y => HB0.out.trans ((hF y).mono HB0.out.size)
  clear h hf hw hs2 B0 e2 hF onto
  by_cases hz : ns.length = 0
  · have HR : Hid (shB ns = false) := by unfold Hid; rw [List.length_eq_zero_iff.1 hz]; rfl
    have hz1 : ((ns.length : Int) == 0) = true := by simp [hz]
    clear hz
    go_enter Tryd.func8, Tryd.ntmps8
    go_upto_region 1 with fail
    rw [HE2.out]
    refine region_class F (by kernel_rfl) (by kernel_rfl) (by obtain ⟨x, hx⟩ := HO.out _ (Below.refl _ _).drew; exact ⟨x, hx.symm⟩) ?_
    repeat (go_big_quiet_step (fail))
    refine wpQuiet_nil ?_
    rintro _ ⟨nq, rfl⟩
    go_wp2
    go_ret
    exact ⟨retV HR.out.symm, HV.out nq⟩
  · rcases H.out with h0 | ⟨b2, o2, rfl, hL2⟩
    · rw [h0] at hz; simp at hz
    have HL : Hid (Lies w b2 o2 ns) := hL2
    obtain ⟨x0, hx0⟩ : ∃ x, ns[0]? = some x := ⟨_, List.getElem?_eq_getElem (by omega)⟩
    have HX00 : Hid (ns[0]? = some x0) := hx0
    have f2 : ∀ y, (F y).cell? ⟨b2, o2 + 3, none⟩ = some (.int .i64 x0.s) := fun y => by have := (hL2.nd (HV.out y) hx0).2.2.2; simpa using this
    have hz0 : (0 : Int) < (ns.length : Int) := by omega
    have hz1 : ((ns.length : Int) == 0) = false := beq_eq_false_iff_ne.2 (by omega)
    clear hx0 hL2
    by_cases hs0 : x0.s = (ns.length : Int)
    · have HS0 : Hid (x0.s = (ns.length : Int)) := hs0
      rw [hs0] at f2
      clear hs0
      go_enter Tryd.func8, Tryd.ntmps8
      go_upto_region 1 with fail
      rw [HE2.out]
      refine region_class F (by kernel_rfl) (by kernel_rfl) (by obtain ⟨x, hx⟩ := HO.out _ (Below.refl _ _).drew; exact ⟨x, hx.symm⟩) ?_
      repeat (go_big_quiet_step (fail))
      refine wpQuiet_nil ?_
      rintro _ ⟨nq, rfl⟩
      obtain ⟨wq, hwq⟩ : ∃ wq, F nq = wq := ⟨_, rfl⟩
      have HQ : Hid (Below w2.heap.size w2 wq) := hwq ▸ HF.out nq
      have q0 : wq.cell? ⟨w.heap.size, 0, none⟩ = some (.slice (some ⟨b2, o2, none⟩) ns.length cap) := hwq ▸ f1 nq
      rw [hwq]
      clear hwq f1 f2 HF HO HV
      go_wp2
      clear q0
      go_loopw [25] (fun i wr => ∃ k : Nat, k ≤ ns.length ∧ i = .int .i64 (k : Int) ∧ Below w2.heap.size w2 wr ∧ ∀ i, i < k → okN ns i = true) (fun i _ => ns.length - (intOf i).toNat)
      case atStart => exact ⟨0, by omega, rfl, HQ.out, fun i hi => absurd hi (by omega)⟩
      case round =>
        obtain ⟨k, hk, rfl, hbel, hok⟩ := hrel
        have HBR : Hid (Below w2.heap.size w2 wr) := hbel
        have HOK : Hid (∀ i, i < k → okN ns i = true) := hok
        have HWR : Hid (Below w.heap.size w wr) := HB0.out.trans (hbel.mono HB0.out.size)
        clear hbel hok
        by_cases hkl : k < ns.length
        · obtain ⟨x, hx⟩ : ∃ e, ns[k]? = some e := ⟨_, List.getElem?_eq_getElem hkl⟩
          obtain ⟨d0, d1, d2, d3⟩ := HL.out.nd HWR.out hx
          have HX : Hid (ns[k]? = some x) := hx
          have hk1 : (k : Int) < (ns.length : Int) := by omega
          have hb2r : b2 < wr.heap.size := by have := HL.out.1; have := HWR.out.size; omega
          have hxk := (HFT.out x (List.mem_of_getElem? hx)).1
          obtain ⟨w6, e6, hb6, hs6, B6⟩ := bx1 wr #[.int .u8 x.k, .int .i64 x.f, .int .i64 x.e, .int .i64 x.s] 37
          have HE6 : Hid (wr.alloc (.cells #[.int .u8 x.k, .int .i64 x.f, .int .i64 x.e, .int .i64 x.s] 37) = w6) := e6
          have HW6 : Hid (Below w2.heap.size w2 w6) := HBR.out.trans (hb6.mono HBR.out.size)
          have HV6 : Hid (Below w.heap.size w w6) := HWR.out.trans (hb6.mono HWR.out.size)
          have q1 : w6.cell? ⟨wr.heap.size, 0, none⟩ = some (.int .u8 x.k) := B6.cell 0
          have q2 : w6.cell? ⟨w.heap.size, 0, none⟩ = some (.slice (some ⟨b2, o2, none⟩) ns.length cap) := (HX0.out.below HW6.out (by have := HS2.out; omega)).one
          clear hx e6 hb6 hs6 B6
          by_cases g : x.k < 58
          · have HG : Hid (x.k < 58) := g
            cases hki : (kid ns k).isSome with
            | false =>
              have HR : Hid (shB ns = false) := shB_no hkl (by rw [okN_at HX.out, hki]; simp)
              have HKI : Hid ((kid ns k).isSome = false) := hki
              clear hki
              go_upto_region 6 with fail
              rw [HE6.out]
              clear d0 d1 d2 d3
              go_wp2_with (go_at_call 16; refine (kids_any _ cap ns (k : Int) _ (H.out.below HV6.out) hl (by omega) (by omega)).mono ?_; rintro e w7 ⟨v7, rfl, o7, hb7⟩; rw [HKI.out]; have HB7 : Hid (Below w6.heap.size w6 w7) := hb7; obtain ⟨a7, c7, rfl, q7, hq7, hnn7⟩ := own_form o7; clear hb7 o7 q7 hq7 hnn7)
              go_ret
              exact ⟨retV HR.out.symm, HV6.out.trans (HB7.out.mono HV6.out.size)⟩
            | true =>
              have HOKN : Hid (okN ns k = true) := by unfold Hid; rw [okN_at HX.out, hki]; simp [g]
              have HKI : Hid ((kid ns k).isSome = true) := hki
              clear hki
              go_upto_region 6 with fail
              rw [HE6.out]
              clear d0 d1 d2 d3
              go_wp2_with (go_at_call 16; refine (kids_any _ cap ns (k : Int) _ (H.out.below HV6.out) hl (by omega) (by omega)).mono ?_; rintro e w7 ⟨v7, rfl, o7, hb7⟩; rw [HKI.out]; have HB7 : Hid (Below w6.heap.size w6 w7) := hb7; obtain ⟨a7, c7, rfl, q7, hq7, hnn7⟩ := own_form o7; clear hb7 o7 q7 hq7 hnn7)
              go_roundw
              case rel => exact ⟨k + 1, by omega, by simp, HW6.out.trans (HB7.out.mono HW6.out.size), all_snoc HOK.out HOKN.out⟩
              case measure => simp [intOf]; omega
          · have HR : Hid (shB ns = false) := shB_no hkl (by rw [okN_at HX.out, decide_eq_false g]; rfl)
            go_upto_region 6 with fail
            rw [HE6.out]
            clear d0 d1 d2 d3
            go_wp2
            go_ret
            exact ⟨retV HR.out.symm, HV6.out⟩
        · have hke : k = ns.length := by omega
          have HR : Hid (shB ns = true) := shB_yes HX00.out HS0.out (fun i hi => HOK.out i (by omega))
          subst hke
          go_wp2
          go_ret
          exact ⟨retV HR.out.symm, HWR.out⟩
    · have HR : Hid (shB ns = false) := shB_head HX00.out hs0
      go_enter Tryd.func8, Tryd.ntmps8
      go_upto_region 1 with fail
      rw [HE2.out]
      refine region_class F (by kernel_rfl) (by kernel_rfl) (by obtain ⟨x, hx⟩ := HO.out _ (Below.refl _ _).drew; exact ⟨x, hx.symm⟩) ?_
      repeat (go_big_quiet_step (fail))
      refine wpQuiet_nil ?_
      rintro _ ⟨nq, rfl⟩
      go_wp2
      go_ret
      exact ⟨retV HR.out.symm, HV.out nq⟩
end Go.Proofs.YtcanabbjliloeaaDoor
