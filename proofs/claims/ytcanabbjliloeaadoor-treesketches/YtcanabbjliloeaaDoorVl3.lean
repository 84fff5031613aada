import Derived.Test.YtcanabbjliloeaaDoorVl
import Derived.Test.YtcanabbjliloeaaDoorKd2
namespace Go.Proofs.YtcanabbjliloeaaDoor
open Go.ChangeShapes Go.WideShapes Go.ChangeAt Go.RowKit
set_option linter.unusedVariables false

set_option maxRecDepth 1000000 in
set_option maxHeartbeats 1000000 in
theorem shaped_any (a : Option Addr) (cap : Nat) (ns : List Nd) (w : World) (h : LiesA w a ns) (hl : ns.length * 32 ≤ 140737488351232) (hf : ∀ e ∈ ns, NdFit e) :
    Calls Tryd.prog 13 #[.agg #[.slice a ns.length cap]] w fun e w' => e = .returned (.bool (shB ns)) ∧ Below w.heap.size w w' := by
  have H : Hid (LiesA w a ns) := h
  have HFT : Hid (∀ e ∈ ns, NdFit e) := hf
  obtain ⟨w2, e2, hw, hs2, B0⟩ := bx1 w #[.slice a ns.length cap] 25
  have HB0 : Hid (Below w.heap.size w w2) := hw
  have HX0 : Hid (Bx w2 w.heap.size #[.slice a ns.length cap] 25) := B0
  have HS2 : Hid (w2.heap.size = w.heap.size + 1) := hs2
  have HE2 : Hid (w.alloc (.cells #[.slice a ns.length cap] 25) = w2) := e2
  obtain ⟨X, F, hX, hF, onto⟩ := class_of (fun v => Below w2.heap.size w2 v) (Below.refl _ w2)
  have HF : Hid (∀ y, Below w2.heap.size w2 (F y)) := hF
  have HO : Hid (∀ v, Below w2.heap.size w2 v → ∃ x, v = F x) := fun v h => by obtain ⟨x, hx⟩ := onto v h; exact ⟨x, hx.symm⟩
  have f1 : ∀ y, (F y).cell? ⟨w.heap.size, 0, none⟩ = some (.slice a ns.length cap) := fun y => ((hF y).cell (p := ⟨w.heap.size, 0, none⟩) (by show w.heap.size < w2.heap.size; omega)).trans B0.one
  have HV : Hid (∀ y, Below w.heap.size w (F y)) := fun y => HB0.out.trans ((hF y).mono HB0.out.size)
  clear h hf hw hs2 B0 e2 hF onto
  by_cases hz : ns.length = 0
  · have HR : Hid (shB ns = false) := by unfold Hid; rw [List.length_eq_zero_iff.1 hz]; rfl
    have hz1 : ((ns.length : Int) == 0) = true := by simp [hz]
    clear hz
    go_enter Tryd.func13, Tryd.ntmps13
    go_upto_region 1 with fail
    rw [HE2.out]
    refine region_class F (by kernel_rfl) (by kernel_rfl) (by obtain ⟨x, hx⟩ := HO.out _ (Below.refl _ _).drew; exact ⟨x, hx.symm⟩) ?_
    repeat (go_big_quiet_step (fail))
    refine wpQuiet_nil ?_
    rintro _ ⟨nq, rfl⟩
    go_wp2
    go_ret
    exact ⟨retV HR.out.symm, HV.out nq⟩
  · rcases H.out with h0 | ⟨b2, o2, rfl, hL2⟩
    · rw [h0] at hz; simp at hz
    have HL : Hid (Lies w b2 o2 ns) := hL2
    obtain ⟨x0, hx0⟩ : ∃ x, ns[0]? = some x := ⟨_, List.getElem?_eq_getElem (by omega)⟩
    have HX00 : Hid (ns[0]? = some x0) := hx0
    have f2 : ∀ y, (F y).cell? ⟨b2, o2 + 3, none⟩ = some (.int .i64 x0.s) := fun y => by have := (hL2.nd (HV.out y) hx0).2.2.2; simpa using this
    have hz0 : (0 : Int) < (ns.length : Int) := by omega
    have hz1 : ((ns.length : Int) == 0) = false := beq_eq_false_iff_ne.2 (by omega)
    clear hx0 hL2
    by_cases hs0 : x0.s = (ns.length : Int)
    · have HS0 : Hid (x0.s = (ns.length : Int)) := hs0
      rw [hs0] at f2
      clear hs0
      go_enter Tryd.func13, Tryd.ntmps13
      go_upto_region 1 with fail
      rw [HE2.out]
      refine region_class F (by kernel_rfl) (by kernel_rfl) (by obtain ⟨x, hx⟩ := HO.out _ (Below.refl _ _).drew; exact ⟨x, hx.symm⟩) ?_
      repeat (go_big_quiet_step (fail))
      refine wpQuiet_nil ?_
      rintro _ ⟨nq, rfl⟩
      obtain ⟨wq, hwq⟩ : ∃ wq, F nq = wq := ⟨_, rfl⟩
      have HQ : Hid (Below w2.heap.size w2 wq) := hwq ▸ HF.out nq
      have q0 : wq.cell? ⟨w.heap.size, 0, none⟩ = some (.slice (some ⟨b2, o2, none⟩) ns.length cap) := hwq ▸ f1 nq
      rw [hwq]
      clear hwq f1 f2 HF HO HV
      go_wp2
      clear q0
      go_loopw [3] (fun i wr => ∃ k : Nat, k ≤ ns.length ∧ i = .int .i64 (k : Int) ∧ Below w2.heap.size w2 wr ∧ ∀ i, i < k → okN ns i = true) (fun i _ => ns.length - (intOf i).toNat)
      case atStart => exact ⟨0, by omega, rfl, HQ.out, fun i hi => absurd hi (by omega)⟩
      case round =>
        obtain ⟨k, hk, rfl, hbel, hok⟩ := hrel
        have HBR : Hid (Below w2.heap.size w2 wr) := hbel
        have HOK : Hid (∀ i, i < k → okN ns i = true) := hok
        have HWR : Hid (Below w.heap.size w wr) := HB0.out.trans (hbel.mono HB0.out.size)
        have q2 : wr.cell? ⟨w.heap.size, 0, none⟩ = some (.slice (some ⟨b2, o2, none⟩) ns.length cap) := (HX0.out.below hbel (by have := HS2.out; omega)).one
        clear hbel hok
        by_cases hkl : k < ns.length
        · obtain ⟨x, hx⟩ : ∃ e, ns[k]? = some e := ⟨_, List.getElem?_eq_getElem hkl⟩
          have HX : Hid (ns[k]? = some x) := hx
          have hk1 : (k : Int) < (ns.length : Int) := by omega
          have hxk := (HFT.out x (List.mem_of_getElem? hx)).1
          have hk58 : IntKind.i64.wrap x.k = x.k := IntWalk.i64_in _ ⟨by omega, by omega⟩
          clear hx
          cases hki : (kid ns k).isSome with
          | false =>
            have HR : Hid (shB ns = false) := shB_no hkl (by rw [okN_at HX.out, hki]; simp)
            have HKI : Hid ((kid ns k).isSome = false) := hki
            clear hki
            go_wp2_with (go_at_call 18; refine (rkids_any _ cap ns (k : Int) _ (H.out.below HWR.out) hl (by omega) (by omega)).mono ?_; rintro e w7 ⟨v7, rfl, o7, hb7⟩; rw [HKI.out]; have HB7 : Hid (Below wr.heap.size wr w7) := hb7; obtain ⟨a7, c7, rfl, q7, hq7, hnn7⟩ := own_form o7; clear hb7 o7 q7 hq7 hnn7)
            go_ret
            exact ⟨retV HR.out.symm, HWR.out.trans (HB7.out.mono HWR.out.size)⟩
          | true =>
            have HKI : Hid ((kid ns k).isSome = true) := hki
            by_cases g : x.k < 58
            · have HOKN : Hid (okN ns k = true) := by unfold Hid; rw [okN_at HX.out, hki]; simp [g]
              clear hki
              go_wp2_with (go_at_call 18; refine (rkids_any _ cap ns (k : Int) _ (H.out.below HWR.out) hl (by omega) (by omega)).mono ?_; rintro e w7 ⟨v7, rfl, o7, hb7⟩; rw [HKI.out]; have HB7 : Hid (Below wr.heap.size wr w7) := hb7; obtain ⟨a7, c7, rfl, q7, hq7, hnn7⟩ := own_form o7; have z1 : w7.cell? ⟨w.heap.size, 0, none⟩ = some (.slice (some ⟨b2, o2, none⟩) ns.length cap) := (HX0.out.below (HBR.out.trans (hb7.mono HBR.out.size)) (by have := HS2.out; omega)).one; have z2 := (HL.out.nd (HWR.out.trans (hb7.mono HWR.out.size)) HX.out).1; clear hb7 o7 q7 hq7 hnn7)
              go_roundw
              case rel => exact ⟨k + 1, by omega, by simp, HBR.out.trans (HB7.out.mono HBR.out.size), all_snoc HOK.out HOKN.out⟩
              case measure => simp [intOf]; omega
            · have HR : Hid (shB ns = false) := shB_no hkl (by rw [okN_at HX.out, decide_eq_false g]; rfl)
              clear hki
              go_wp2_with (go_at_call 18; refine (rkids_any _ cap ns (k : Int) _ (H.out.below HWR.out) hl (by omega) (by omega)).mono ?_; rintro e w7 ⟨v7, rfl, o7, hb7⟩; rw [HKI.out]; have HB7 : Hid (Below wr.heap.size wr w7) := hb7; obtain ⟨a7, c7, rfl, q7, hq7, hnn7⟩ := own_form o7; have z1 : w7.cell? ⟨w.heap.size, 0, none⟩ = some (.slice (some ⟨b2, o2, none⟩) ns.length cap) := (HX0.out.below (HBR.out.trans (hb7.mono HBR.out.size)) (by have := HS2.out; omega)).one; have z2 := (HL.out.nd (HWR.out.trans (hb7.mono HWR.out.size)) HX.out).1; clear hb7 o7 q7 hq7 hnn7)
              go_ret
              exact ⟨retV HR.out.symm, HWR.out.trans (HB7.out.mono HWR.out.size)⟩
        · have hke : k = ns.length := by omega
          have HR : Hid (shB ns = true) := shB_yes HX00.out HS0.out (fun i hi => HOK.out i (by omega))
          subst hke
          go_wp2
          go_ret
          exact ⟨retV HR.out.symm, HWR.out⟩
    · have HR : Hid (shB ns = false) := shB_head HX00.out hs0
      go_enter Tryd.func13, Tryd.ntmps13
      go_upto_region 1 with fail
      rw [HE2.out]
      refine region_class F (by kernel_rfl) (by kernel_rfl) (by obtain ⟨x, hx⟩ := HO.out _ (Below.refl _ _).drew; exact ⟨x, hx.symm⟩) ?_
      repeat (go_big_quiet_step (fail))
      refine wpQuiet_nil ?_
      rintro _ ⟨nq, rfl⟩
      go_wp2
      go_ret
      exact ⟨retV HR.out.symm, HV.out nq⟩
end Go.Proofs.YtcanabbjliloeaaDoor
