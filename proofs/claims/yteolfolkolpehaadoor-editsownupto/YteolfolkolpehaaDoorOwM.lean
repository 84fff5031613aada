import Derived.Test.YteolfolkolpehaaDoorCoV
import Derived.Test.YteolfolkolpehaaDoorShn
namespace Go.Proofs.YteolfolkolpehaaDoor
open Go.ChangeShapes Go.WideShapes Go.ChangeAt Go.RowKit
set_option linter.unusedVariables false

set_option maxRecDepth 1000000 in
set_option maxHeartbeats 2000000 in
theorem merge_own (size : Int) (a1 a2 : Option Addr) (c1 c2 : Nat) (a b : List Ed) (w : World) (hs0 : -9223372036854775808 ≤ size) (hs1 : size ≤ 9223372036854775807) (h1 : EdsC w a1 c1 a) (h2 : EdsC w a2 c2 b) (hn1 : a1 = none → c1 = 0) (hn2 : a2 = none → c2 = 0)
    (hl1 : a.length ≤ 1048576) (hl2 : b.length ≤ 1048576) (hT : tots a + tots b ≤ 1048576) :
    Calls Tryd.prog 25 #[.int .i64 size, .slice a1 a.length c1, .slice a2 b.length c2] w fun e w' => ∃ v, e = .returned (.tuple #[v, .int .i64 (mgE size a b)]) ∧ w'.ownsRow w.heap.size 45 3 v (mgL size a b).length (flat (mgL size a b)) ∧ Below w.heap.size w w' := by
  have H1 : Hid (EdsC w a1 c1 a) := h1
  have H2 : Hid (EdsC w a2 c2 b) := h2
  have HN1 : Hid (a1 = none → c1 = 0) := hn1
  have HN2 : Hid (a2 = none → c2 = 0) := hn2
  have HL1 : Hid (a.length ≤ maxLen) := by unfold Hid maxLen; omega
  have HL2 : Hid (b.length ≤ maxLen) := by unfold Hid maxLen; omega
  have HVA : Hid (∀ v, Below w.heap.size w v → Calls Tryd.prog 33 #[.int .i64 size, .slice a1 a.length c1] v fun e w' => e = .returned (.int .i64 (val62 size a)) ∧ Below v.heap.size v w') := fun v hv => valid_all size a1 c1 a v hs0 hs1 (h1.below hv).all HL1.out
  have HVB : Hid (∀ v, Below w.heap.size w v → Calls Tryd.prog 33 #[.int .i64 size, .slice a2 b.length c2] v fun e w' => e = .returned (.int .i64 (val62 size b)) ∧ Below v.heap.size v w') := fun v hv => valid_all size a2 c2 b v hs0 hs1 (h2.below hv).all HL2.out
  clear h1 h2 hn1 hn2
  by_cases hv1 : val62 size a = 0
  · by_cases hv2 : val62 size b = 0
    · have hla := vld_len (val62_ok hv1).2.2
      have hlb := vld_len (val62_ok hv2).2.2
      rw [hv1] at HVA
      rw [hv2] at HVB
      have HM : Hid (mgL size a b = mrg a b ∧ mgE size a b = mrgE a b) := by unfold Hid mgL mgE; rw [if_pos hv1, if_pos hv2, if_pos hv1, if_pos hv2]; exact ⟨rfl, rfl⟩
      obtain ⟨hm1, hm2⟩ := HM.out
      rw [hm1, hm2]
      obtain ⟨all, hall⟩ : ∃ all, sbs a b = all := ⟨_, rfl⟩
      have hlen : all.length = a.length + b.length := by rw [← hall, sbs_len]
      have htot : tots all ≤ 1048576 := by rw [← hall, tots_sbs]; exact hT
      have HR : Hid (mrg a b = (if mtg all = true then [] else if 65536 < (jn all).length then [] else jn all) ∧ mrgE a b = (if mtg all = true then 11 else if 65536 < (jn all).length then 2 else 0)) := by
        unfold Hid mrg mrgE; rw [hall]; exact ⟨rfl, rfl⟩
      have HAL : Hid (sbs a b = all) := hall
      have hlj := jn_len all
      have hl131 : all.length ≤ 131072 := by omega
      have hlj2 : (jn all).length ≤ 131072 := by omega
      clear hv1 hv2 hm1 hm2 HM hall hlen hlj
      obtain ⟨hm1, hm2⟩ := HR.out
      rw [hm1, hm2]
      clear hm1 hm2 HR
      have HSB : Hid (∀ v, Below w.heap.size w v → Calls Tryd.prog 50 #[.slice a1 a.length c1, .slice a2 b.length c2] v fun e w' => ∃ x, e = .returned x ∧ w'.ownsRow v.heap.size 45 3 x all.length (flat all) ∧ Below v.heap.size v w') := fun v hv => by
        have := sideBySide_any a1 a2 c1 c2 a b v (H1.out.below hv) (H2.out.below hv) hla hlb HN1.out HN2.out
        rw [HAL.out] at this; exact this
      obtain ⟨mt, hmt⟩ : ∃ mt, mtg all = mt := ⟨_, rfl⟩
      have HMT : Hid (mtg all = mt) := hmt
      rw [hmt]
      clear hmt
      obtain ⟨J, hJ⟩ : ∃ J, jn all = J := ⟨_, rfl⟩
      have HJ : Hid (jn all = J) := hJ
      rw [hJ] at hlj2
      rw [hJ]
      clear hJ
      cases mt with
      | true =>
        go_enter Tryd.func25, Tryd.ntmps25
        go_wp2_with (first
          | (go_at_call 33; (with_reducible refine (HVA.out _ (Below.refl _ _)).mono ?_); rintro e w3 ⟨rfl, hb3⟩; have HB3 : Hid (Below w.heap.size w w3) := hb3; clear hb3)
          | (go_at_call 33; (with_reducible refine (HVB.out _ HB3.out).mono ?_); rintro e w4 ⟨rfl, hb4⟩; have HB4 : Hid (Below w.heap.size w w4) := HB3.out.trans (hb4.mono HB3.out.size); clear hb4)
          | (go_at_call 50; (with_reducible refine (HSB.out _ HB4.out).mono ?_); rintro e w5 ⟨x5, rfl, o5, hb5⟩; have HB5 : Hid (Below w.heap.size w w5) := HB4.out.trans (hb5.mono HB4.out.size); obtain ⟨a5, c5, rfl, q5⟩ := own_formC o5; have HQ5 : Hid (EdsA w5 a5 all) := q5.all; clear hb5 o5 q5)
          | (go_at_call 51; refine (meeting_any _ _ all _ HQ5.out hl131).mono ?_; rintro e w6 ⟨rfl, hb6⟩; rw [HMT.out]; have HB6 : Hid (Below w.heap.size w w6) := HB5.out.trans (hb6.mono HB5.out.size); clear hb6))
        go_ret2
        exact ⟨_, rfl, World.ownsRow_nil _ _ _ _, HB6.out⟩
      | false =>
        by_cases hmn : 65536 < J.length
        · have hmn' : (65536 : Int) < (J.length : Int) := by omega
          simp only [Bool.false_eq_true, if_false]
          rw [if_pos hmn, if_pos hmn]
          clear hmn
          go_enter Tryd.func25, Tryd.ntmps25
          go_wp2_with (first
            | (go_at_call 33; (with_reducible refine (HVA.out _ (Below.refl _ _)).mono ?_); rintro e w3 ⟨rfl, hb3⟩; have HB3 : Hid (Below w.heap.size w w3) := hb3; clear hb3)
            | (go_at_call 33; (with_reducible refine (HVB.out _ HB3.out).mono ?_); rintro e w4 ⟨rfl, hb4⟩; have HB4 : Hid (Below w.heap.size w w4) := HB3.out.trans (hb4.mono HB3.out.size); clear hb4)
            | (go_at_call 50; (with_reducible refine (HSB.out _ HB4.out).mono ?_); rintro e w5 ⟨x5, rfl, o5, hb5⟩; have HB5 : Hid (Below w.heap.size w w5) := HB4.out.trans (hb5.mono HB4.out.size); obtain ⟨a5, c5, rfl, q5⟩ := own_formC o5; have HQ5 : Hid (EdsA w5 a5 all) := q5.all; clear hb5 o5 q5)
            | (go_at_call 51; refine (meeting_any _ _ all _ HQ5.out hl131).mono ?_; rintro e w6 ⟨rfl, hb6⟩; rw [HMT.out]; have HB6 : Hid (Below w.heap.size w w6) := HB5.out.trans (hb6.mono HB5.out.size); have HB56 : Hid (Below w5.heap.size w5 w6) := hb6; clear hb6)
            | (go_at_call 52; refine (joined_any _ _ all _ (HQ5.out.below HB56.out) hl131 htot).mono ?_; rintro e w7 ⟨x7, rfl, o7, hb7⟩; rw [HJ.out] at o7; have HB7 : Hid (Below w.heap.size w w7) := HB6.out.trans (hb7.mono HB6.out.size); have o7' := own_low o7 (HB6.out.size); obtain ⟨a7, c7, rfl, q7, hl7, hn7⟩ := own_form o7; have HO7 : Hid (w7.ownsRow w.heap.size 45 3 (.slice a7 J.length c7) J.length (flat J)) := (by unfold Hid; first | exact o7' | (rw [← hl7]; exact o7')); have HQ7 : Hid (EdsA w7 a7 J) := q7; have HN7 : Hid (a7 = none → J.length = 0 ∧ c7 = 0) := hn7; clear hb7 o7 q7 hn7 o7'))
          go_ret2
          exact ⟨_, rfl, World.ownsRow_nil _ _ _ _, HB7.out⟩
        · have hmn' : ¬ (65536 : Int) < (J.length : Int) := by omega
          simp only [Bool.false_eq_true, if_false]
          rw [if_neg hmn, if_neg hmn]
          clear hmn
          go_enter Tryd.func25, Tryd.ntmps25
          go_wp2_with (first
            | (go_at_call 33; (with_reducible refine (HVA.out _ (Below.refl _ _)).mono ?_); rintro e w3 ⟨rfl, hb3⟩; have HB3 : Hid (Below w.heap.size w w3) := hb3; clear hb3)
            | (go_at_call 33; (with_reducible refine (HVB.out _ HB3.out).mono ?_); rintro e w4 ⟨rfl, hb4⟩; have HB4 : Hid (Below w.heap.size w w4) := HB3.out.trans (hb4.mono HB3.out.size); clear hb4)
            | (go_at_call 50; (with_reducible refine (HSB.out _ HB4.out).mono ?_); rintro e w5 ⟨x5, rfl, o5, hb5⟩; have HB5 : Hid (Below w.heap.size w w5) := HB4.out.trans (hb5.mono HB4.out.size); obtain ⟨a5, c5, rfl, q5⟩ := own_formC o5; have HQ5 : Hid (EdsA w5 a5 all) := q5.all; clear hb5 o5 q5)
            | (go_at_call 51; refine (meeting_any _ _ all _ HQ5.out hl131).mono ?_; rintro e w6 ⟨rfl, hb6⟩; rw [HMT.out]; have HB6 : Hid (Below w.heap.size w w6) := HB5.out.trans (hb6.mono HB5.out.size); have HB56 : Hid (Below w5.heap.size w5 w6) := hb6; clear hb6)
            | (go_at_call 52; refine (joined_any _ _ all _ (HQ5.out.below HB56.out) hl131 htot).mono ?_; rintro e w7 ⟨x7, rfl, o7, hb7⟩; rw [HJ.out] at o7; have HB7 : Hid (Below w.heap.size w w7) := HB6.out.trans (hb7.mono HB6.out.size); have o7' := own_low o7 (HB6.out.size); obtain ⟨a7, c7, rfl, q7, hl7, hn7⟩ := own_form o7; have HO7 : Hid (w7.ownsRow w.heap.size 45 3 (.slice a7 J.length c7) J.length (flat J)) := (by unfold Hid; first | exact o7' | (rw [← hl7]; exact o7')); have HQ7 : Hid (EdsA w7 a7 J) := q7; have HN7 : Hid (a7 = none → J.length = 0 ∧ c7 = 0) := hn7; clear hb7 o7 q7 hn7 o7'))
          go_ret2
          exact ⟨_, rfl, HO7.out, HB7.out⟩
    · rw [hv1] at HVA
      have HM : Hid (mgL size a b = [] ∧ mgE size a b = val62 size b) := by unfold Hid mgL mgE; rw [if_pos hv1, if_neg hv2, if_pos hv1, if_neg hv2]; exact ⟨rfl, rfl⟩
      obtain ⟨hm1, hm2⟩ := HM.out
      rw [hm1, hm2]
      have hne : (val62 size b != 0) = true := by simpa using hv2
      clear hv1 hv2 hm1 hm2 HM
      generalize val62 size b = vb at *
      go_enter Tryd.func25, Tryd.ntmps25
      go_wp2_with (first
        | (go_at_call 33; (with_reducible refine (HVA.out _ (Below.refl _ _)).mono ?_); rintro e w3 ⟨rfl, hb3⟩; have HB3 : Hid (Below w.heap.size w w3) := hb3; clear hb3)
        | (go_at_call 33; (with_reducible refine (HVB.out _ HB3.out).mono ?_); rintro e w4 ⟨rfl, hb4⟩; have HB4 : Hid (Below w.heap.size w w4) := HB3.out.trans (hb4.mono HB3.out.size); clear hb4))
      go_ret2
      exact ⟨_, rfl, World.ownsRow_nil _ _ _ _, HB4.out⟩
  · have HM : Hid (mgL size a b = [] ∧ mgE size a b = val62 size a) := by unfold Hid mgL mgE; rw [if_neg hv1, if_neg hv1]; exact ⟨rfl, rfl⟩
    obtain ⟨hm1, hm2⟩ := HM.out
    rw [hm1, hm2]
    have hne : (val62 size a != 0) = true := by simpa using hv1
    clear hv1 hm1 hm2 HM
    generalize val62 size a = va at *
    go_enter Tryd.func25, Tryd.ntmps25
    go_wp2_with (go_at_call 33; (with_reducible refine (HVA.out _ (Below.refl _ _)).mono ?_); rintro e w3 ⟨rfl, hb3⟩; have HB3 : Hid (Below w.heap.size w w3) := hb3; clear hb3)
    go_ret2
    exact ⟨_, rfl, World.ownsRow_nil _ _ _ _, HB3.out⟩
end Go.Proofs.YteolfolkolpehaaDoor
