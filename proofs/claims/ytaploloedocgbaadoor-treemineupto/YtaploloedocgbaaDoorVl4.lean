import Derived.Test.YtaploloedocgbaaDoorVl3
import Derived.Test.YtaploloedocgbaaDoorVl2
namespace Go.Proofs.YtaploloedocgbaaDoor
open Go.ChangeShapes Go.WideShapes Go.ChangeAt Go.RowKit
set_option linter.unusedVariables false

/-- are the nodes a tree over c pieces? -/
def vlB (ns : List Nd) (c : Int) : Bool := shB ns && (List.range ns.length).all (vlN ns c)
theorem vlB_sh {ns : List Nd} {c : Int} (h : shB ns = false) : vlB ns c = false := by unfold vlB; rw [h]; rfl
theorem vlB_no {ns : List Nd} {c : Int} {k : Nat} (hk : k < ns.length) (h : vlN ns c k = false) : vlB ns c = false := by
  unfold vlB
  rw [Bool.and_eq_false_iff]; right
  rw [Bool.eq_false_iff]; intro ha
  have := List.all_eq_true.1 ha k (List.mem_range.2 hk)
  rw [h] at this; cases this
theorem vlB_yes {ns : List Nd} {c : Int} (hs : shB ns = true) (h : ∀ i, i < ns.length → vlN ns c i = true) : vlB ns c = true := by
  unfold vlB
  rw [hs, Bool.true_and]
  exact List.all_eq_true.2 (fun i hi => h i (List.mem_range.1 hi))
theorem bel_dN {B : Nat} {a w : World} (h : Below B a w) (q : Nat) : Below B a (w.drewN q) := ⟨h.os, h.tape, h.output, h.size, h.block⟩

set_option maxRecDepth 1000000 in
set_option maxHeartbeats 2000000 in
theorem rvalid_any (a : Option Addr) (cap : Nat) (ns : List Nd) (c : Int) (w : World) (h : LiesA w a ns) (hl : ns.length * 32 ≤ 140737488351232) (hf : ∀ e ∈ ns, NdFit e) :
    Calls Tryd.prog 22 #[.agg #[.slice a ns.length cap], .int .i64 c] w fun e w' => e = .returned (.bool (vlB ns c)) ∧ Below w.heap.size w w' := by
  have H : Hid (LiesA w a ns) := h
  have HFT : Hid (∀ e ∈ ns, NdFit e) := hf
  obtain ⟨w2, e2, hw, hs2, B0⟩ := bx1 w #[.slice a ns.length cap] 25
  have HB0 : Hid (Below w.heap.size w w2) := hw
  have HX0 : Hid (Bx w2 w.heap.size #[.slice a ns.length cap] 25) := B0
  have HS2 : Hid (w2.heap.size = w.heap.size + 1) := hs2
  have HE2 : Hid (w.alloc (.cells #[.slice a ns.length cap] 25) = w2) := e2
  have q0 := B0.one
  clear h hf hw hs2 B0 e2
  cases hsh : shB ns with
  | false =>
    have HSH : Hid (shB ns = false) := hsh
    clear hsh
    go_enter Tryd.func22, Tryd.ntmps22
    go_upto_region 1 with fail
    rw [HE2.out]
    go_wp2_with (go_at_call 39; refine (shaped_any _ cap ns _ (H.out.below HB0.out) hl HFT.out).mono ?_; rintro e w3 ⟨rfl, hb3⟩; rw [HSH.out]; have HB3 : Hid (Below w2.heap.size w2 w3) := hb3; clear hb3)
    go_ret
    exact ⟨retV (vlB_sh HSH.out).symm, HB0.out.trans (HB3.out.mono HB0.out.size)⟩
  | true =>
    have HSH : Hid (shB ns = true) := hsh
    clear hsh
    go_enter Tryd.func22, Tryd.ntmps22
    go_upto_region 1 with fail
    rw [HE2.out]
    go_wp2_with (go_at_call 39; refine (shaped_any _ cap ns _ (H.out.below HB0.out) hl HFT.out).mono ?_; rintro e w3 ⟨rfl, hb3⟩; rw [HSH.out]; have HB3 : Hid (Below w2.heap.size w2 w3) := hb3; clear hb3)
    clear q0
    go_loopw [5] (fun i wr => ∃ k : Nat, k ≤ ns.length ∧ i = .int .i64 (k : Int) ∧ Below w2.heap.size w2 wr ∧ ∀ i, i < k → vlN ns c i = true) (fun i _ => ns.length - (intOf i).toNat)
    case atStart => exact ⟨0, by omega, rfl, HB3.out, fun i hi => absurd hi (by omega)⟩
    case round =>
      obtain ⟨wo, rfl⟩ : ∃ wo, wo = wr := ⟨_, rfl⟩
      obtain ⟨n, hk, rfl, hbel, hok⟩ := hrel
      have HBR : Hid (Below w2.heap.size w2 wo) := hbel
      have HOK : Hid (∀ i, i < n → vlN ns c i = true) := hok
      have HWR : Hid (Below w.heap.size w wo) := HB0.out.trans (hbel.mono HB0.out.size)
      have q2 : wo.cell? ⟨w.heap.size, 0, none⟩ = some (.slice a ns.length cap) := (HX0.out.below hbel (by have := HS2.out; omega)).one
      clear hbel hok
      by_cases hkl : n < ns.length
      · obtain ⟨p, hp⟩ : ∃ e, ns[n]? = some e := ⟨_, List.getElem?_eq_getElem hkl⟩
        rcases H.out with h0 | ⟨b2, o2, rfl, hL2⟩
        · rw [h0] at hkl; simp at hkl
        have HL : Hid (Lies w b2 o2 ns) := hL2
        obtain ⟨d0, d1, d2, d3⟩ := hL2.nd HWR.out hp
        have hn1 : (n : Int) < (ns.length : Int) := by omega
        have hb2r : b2 < wo.heap.size := by have := hL2.1; have := HWR.out.size; omega
        have hwz : w.heap.size < wo.heap.size := by have := HS2.out; have := HBR.out.size; omega
        obtain ⟨w6, e6, hb6, hs6, B6⟩ := bx1 wo #[.int .u8 p.k, .int .i64 p.f, .int .i64 p.e, .int .i64 p.s] 57
        have HE6 : Hid (wo.alloc (.cells #[.int .u8 p.k, .int .i64 p.f, .int .i64 p.e, .int .i64 p.s] 57) = w6) := e6
        have HB6 : Hid (Below wo.heap.size wo w6) := hb6
        have HS6 : Hid (w6.heap.size = wo.heap.size + 1) := hs6
        have HX6 : Hid (Bx w6 wo.heap.size #[.int .u8 p.k, .int .i64 p.f, .int .i64 p.e, .int .i64 p.s] 57) := B6
        have HV6 : Hid (Below w.heap.size w w6) := HWR.out.trans (hb6.mono HWR.out.size)
        have HW6 : Hid (Below w2.heap.size w2 w6) := HBR.out.trans (hb6.mono HBR.out.size)
        have z1 : w6.cell? ⟨wo.heap.size, 1, none⟩ = some (.int .i64 p.f) := B6.cell 1
        have z2 : w6.cell? ⟨wo.heap.size, 2, none⟩ = some (.int .i64 p.e) := B6.cell 2
        have z3 : w6.cell? ⟨w.heap.size, 0, none⟩ = some (.slice (some ⟨b2, o2, none⟩) ns.length cap) := (hb6.cell (p := ⟨w.heap.size, 0, none⟩) hwz).trans q2
        have HVL : Hid (vlN ns c n = (decide (0 ≤ p.f) && decide (p.f ≤ p.e) && decide (p.e ≤ c) && rnN ns n)) := vlN_at hp
        have HRN : Hid (rnN ns n = rnF ns p p.f ((kid ns n).getD [])) := rnN_at hp
        have HKM : Hid (∀ y ∈ (kid ns n).getD [], ∃ q : Nat, y = q ∧ q < ns.length) := kid_mem ns n
        have HKL : Hid (((kid ns n).getD []).length ≤ ns.length) := kid_len ns n
        clear hp hL2 e6 hb6 hs6 B6
        by_cases g1 : 0 ≤ p.f
        · by_cases g2 : p.f ≤ p.e
          · by_cases g3 : p.e ≤ c
            · have HA : Hid (vlN ns c n = rnF ns p p.f ((kid ns n).getD [])) := by unfold Hid; rw [HVL.out, decide_eq_true g1, decide_eq_true g2, decide_eq_true g3, HRN.out]; rfl
              clear HVL HRN
              go_upto_region 7 with fail
              rw [HE6.out]
              clear d0 d1 d2 d3 q2
              go_wp2_with (go_at_call 11; refine (rkids_any _ cap ns (n : Int) _ (H.out.below HV6.out) hl (by omega) (by omega)).mono ?_; rintro e w7 ⟨v7, rfl, o7, hb7⟩; generalize hkb : (kid ns (n : Int)).isSome = kb; have HB7 : Hid (Below w6.heap.size w6 w7) := hb7; obtain ⟨a7, c7, rfl, q7, hq7, hnn7⟩ := own_form o7; have HQ7 : Hid (LiesA w7 a7 ((kid ns n).getD [])) := q7; have z4 : w7.cell? ⟨wo.heap.size, 1, none⟩ = some (.int .i64 p.f) := (HX6.out.below hb7 (by have := HS6.out; omega)).cell 1; clear hb7 o7 q7 hq7 hnn7 hkb)
              have HV7 : Hid (Below w.heap.size w w7) := HV6.out.trans (HB7.out.mono HV6.out.size)
              have HW7 : Hid (Below w2.heap.size w2 w7) := HW6.out.trans (HB7.out.mono HW6.out.size)
              generalize hkl2 : (kid ns n).getD [] = kl at *
              clear z1 z2 z3 z4 hkl2
              have hklb : kl.length ≤ ns.length := HKL.out
              go_loopw [9, 10] (fun v i wr => ∃ (k : Nat) (fr : Int), k ≤ kl.length ∧ i = .int .i64 (k : Int) ∧ v = .int .i64 fr ∧ Below w7.heap.size w7 wr ∧ rnF ns p p.f kl = rnF ns p fr (kl.drop k)) (fun _ i _ => kl.length - (intOf i).toNat)
              case atStart => exact ⟨0, p.f, by omega, rfl, rfl, Below.refl _ _, by simp⟩
              case round =>
                obtain ⟨k, fr, hk, rfl, rfl, hbel, heq⟩ := hrel
                have HBQ : Hid (Below w7.heap.size w7 wr) := hbel
                have HEQ : Hid (rnF ns p p.f kl = rnF ns p fr (kl.drop k)) := heq
                have HVR : Hid (Below w.heap.size w wr) := HV7.out.trans (hbel.mono HV7.out.size)
                have HR2 : Hid (Below w2.heap.size w2 wr) := HW7.out.trans (hbel.mono HW7.out.size)
                have HR6 : Hid (Below w6.heap.size w6 wr) := HB7.out.trans (hbel.mono HB7.out.size)
                clear hbel heq
                by_cases hkk : k < kl.length
                · obtain ⟨y, hy⟩ : ∃ y, kl[k]? = some y := ⟨_, List.getElem?_eq_getElem hkk⟩
                  obtain ⟨m, rfl, hm⟩ := HKM.out y (List.mem_of_getElem? hy)
                  obtain ⟨x, hx⟩ : ∃ x, ns[m]? = some x := ⟨_, List.getElem?_eq_getElem hm⟩
                  have HDR : Hid (kl.drop k = (m : Int) :: kl.drop (k + 1)) := by
                    unfold Hid; rw [List.drop_eq_getElem_cons hkk, (List.getElem?_eq_some_iff.1 hy).2]
                  rcases HQ7.out with h0 | ⟨b5, o5, rfl, hL5⟩
                  · rw [h0] at hkk; simp at hkk
                  have t0 := hL5.int HBQ.out hy
                  obtain ⟨d0, d1, d2, d3⟩ := HL.out.nd HVR.out hx
                  have HX : Hid (ns[m]? = some x) := hx
                  have hk1 : (k : Int) < (kl.length : Int) := by omega
                  have hm1 : (m : Int) < (ns.length : Int) := by omega
                  have hb2s : b2 < wr.heap.size := by have := HL.out.1; have := HVR.out.size; omega
                  have hb5s : b5 < wr.heap.size := by have := hL5.1; have := HBQ.out.size; omega
                  have hwos : wo.heap.size < wr.heap.size := by have := HS6.out; have := HR6.out.size; omega
                  have hwzs : w.heap.size < wr.heap.size := by omega
                  have y0 : wr.cell? ⟨w.heap.size, 0, none⟩ = some (.slice (some ⟨b2, o2, none⟩) ns.length cap) := (HX0.out.below HR2.out (by have := HS2.out; omega)).one
                  have B3 := HX6.out.below HR6.out (by have := HS6.out; omega)
                  have y3 : wr.cell? ⟨wo.heap.size, 1, none⟩ = some (.int .i64 p.f) := B3.cell 1
                  have y4 : wr.cell? ⟨wo.heap.size, 2, none⟩ = some (.int .i64 p.e) := B3.cell 2
                  obtain ⟨w8, e8, hb8, hs8, B8⟩ := bx1 wr #[.int .u8 x.k, .int .i64 x.f, .int .i64 x.e, .int .i64 x.s] 57
                  have HE8 : Hid (wr.alloc (.cells #[.int .u8 x.k, .int .i64 x.f, .int .i64 x.e, .int .i64 x.s] 57) = w8) := e8
                  have HB8 : Hid (Below w7.heap.size w7 w8.drew) := (HBQ.out.trans (hb8.mono HBQ.out.size)).drew
                  have HV8 : Hid (Below w.heap.size w w8.drew) := (HVR.out.trans (hb8.mono HVR.out.size)).drew
                  have z1 : w8.drew.cell? ⟨wr.heap.size, 1, none⟩ = some (.int .i64 x.f) := B8.cell 1
                  have z2 : w8.drew.cell? ⟨wr.heap.size, 2, none⟩ = some (.int .i64 x.e) := B8.cell 2
                  have z3 : w8.drew.cell? ⟨wo.heap.size, 1, none⟩ = some (.int .i64 p.f) := (hb8.cell (p := ⟨wo.heap.size, 1, none⟩) hwos).trans y3
                  have z4 : w8.drew.cell? ⟨wo.heap.size, 2, none⟩ = some (.int .i64 p.e) := (hb8.cell (p := ⟨wo.heap.size, 2, none⟩) hwos).trans y4
                  clear hx hL5 B3 hy e8 hb8 hs8 B8 y3 y4
                  go_wp2
                  go_region
                  rw [HE8.out]
                  obtain ⟨w9, hw9⟩ : ∃ w9, w8.drew = w9 := ⟨_, rfl⟩
                  have HB9 : Hid (Below w7.heap.size w7 w9) := hw9 ▸ HB8.out
                  have HV9 : Hid (Below w.heap.size w w9) := hw9 ▸ HV8.out
                  rw [hw9] at z1 z2 z3 z4 ⊢
                  clear d0 d1 d2 d3 y0 t0 HE8 HB8 HV8 hw9
                  by_cases g4 : x.f = x.e
                  · have g4' : (x.f == x.e) = true := by simp [g4]
                    by_cases g5 : x.f < p.f
                    · have HAB : Hid (rnF ns p fr (kl.drop k) = false) := by unfold Hid; rw [HDR.out]; exact rnF_empty_bad HX.out g4 g5
                      have HR : Hid (vlB ns c = false) := vlB_no hkl (by rw [HA.out, HEQ.out, HAB.out])
                      clear g4
                      go_wp2
                      go_ret
                      exact ⟨retV HR.out.symm, HV9.out⟩
                    · have HAB : Hid (rnF ns p fr (kl.drop k) = rnF ns p fr (kl.drop (k + 1))) := by unfold Hid; rw [HDR.out]; exact rnF_empty HX.out g4 g5
                      clear g4
                      go_wp2
                      go_roundw
                      case rel => exact ⟨k + 1, fr, by omega, by simp, rfl, HB9.out, by rw [HEQ.out, HAB.out]⟩
                      case measure => simp [intOf]; omega
                  · have g4' : (x.f == x.e) = false := beq_eq_false_iff_ne.2 g4
                    by_cases g5 : x.f < fr
                    · have HAB : Hid (rnF ns p fr (kl.drop k) = false) := by unfold Hid; rw [HDR.out]; exact rnF_bad HX.out g4 (.inl g5)
                      have HR : Hid (vlB ns c = false) := vlB_no hkl (by rw [HA.out, HEQ.out, HAB.out])
                      clear g4
                      go_wp2
                      go_ret
                      exact ⟨retV HR.out.symm, HV9.out⟩
                    · by_cases g6 : p.e < x.e
                      · have HAB : Hid (rnF ns p fr (kl.drop k) = false) := by unfold Hid; rw [HDR.out]; exact rnF_bad HX.out g4 (.inr g6)
                        have HR : Hid (vlB ns c = false) := vlB_no hkl (by rw [HA.out, HEQ.out, HAB.out])
                        clear g4
                        go_wp2
                        go_ret
                        exact ⟨retV HR.out.symm, HV9.out⟩
                      · have HAB : Hid (rnF ns p fr (kl.drop k) = rnF ns p x.e (kl.drop (k + 1))) := by unfold Hid; rw [HDR.out]; exact rnF_next HX.out g4 (by omega)
                        clear g4
                        go_wp2
                        go_roundw
                        case rel => exact ⟨k + 1, x.e, by omega, by simp, rfl, HB9.out, by rw [HEQ.out, HAB.out]⟩
                        case measure => simp [intOf]; omega
                · have hke : k = kl.length := by omega
                  have HAA : Hid (rnF ns p fr (kl.drop k) = true) := by unfold Hid; rw [hke, List.drop_length]; rfl
                  have HOKN : Hid (vlN ns c n = true) := by unfold Hid; rw [HA.out, HEQ.out, HAA.out]
                  clear hke
                  go_wp2
                  go_roundw
                  case rel => exact ⟨n + 1, by omega, by simp, HR2.out, all_snoc HOK.out HOKN.out⟩
                  case measure => simp [intOf]; omega
            · have HR : Hid (vlB ns c = false) := vlB_no hkl (by rw [HVL.out, decide_eq_false g3]; simp)
              go_upto_region 7 with fail
              rw [HE6.out]
              clear d0 d1 d2 d3 q2
              go_wp2
              go_ret
              exact ⟨retV HR.out.symm, HV6.out⟩
          · have HR : Hid (vlB ns c = false) := vlB_no hkl (by rw [HVL.out, decide_eq_false g2]; simp)
            go_upto_region 7 with fail
            rw [HE6.out]
            clear d0 d1 d2 d3 q2
            go_wp2
            go_ret
            exact ⟨retV HR.out.symm, HV6.out⟩
        · have HR : Hid (vlB ns c = false) := vlB_no hkl (by rw [HVL.out, decide_eq_false g1]; simp)
          go_upto_region 7 with fail
          rw [HE6.out]
          clear d0 d1 d2 d3 q2
          go_wp2
          go_ret
          exact ⟨retV HR.out.symm, HV6.out⟩
      · have HR : Hid (vlB ns c = true) := vlB_yes HSH.out (fun i hi => HOK.out i (by omega))
        have hke : n = ns.length := by omega
        subst hke
        go_wp2
        go_ret
        exact ⟨retV HR.out.symm, HWR.out⟩
end Go.Proofs.YtaploloedocgbaaDoor
