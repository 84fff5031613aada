import Derived.Test.YtniamjbieciilaaComposesW
namespace Go.Proofs.Ytniamjbieciilaa
open Go.ChangeShapes Go.WideShapes Go.ChangeAt Go.RowKit
set_option linter.unusedVariables false

theorem cmpL_len (size : Int) (a b : List Ed) : (cmpL size a b).length ≤ 65536 := by
  unfold cmpL
  split
  · rename_i h; exact h.2.2
  · simp

set_option maxRecDepth 1000000 in
set_option maxHeartbeats 800000 in
theorem editsComposes_walk (size : Int) (a1 : Option Addr) (c1 : Nat) (a : List Ed) (a2 : Option Addr) (c2 : Nat) (b : List Ed) (w : World) (hs0 : -9223372036854775808 ≤ size) (hs1 : size ≤ 9223372036854775807)
    (h1 : EdsA w a1 a) (hF1 : ∀ e ∈ a, EdFit e) (hn1 : a1 = none → a.length = 0 ∧ c1 = 0) (hl1 : a.length * 32 ≤ 140737488351232)
    (h2 : EdsA w a2 b) (hF2 : ∀ e ∈ b, EdFit e) (hn2 : a2 = none → b.length = 0 ∧ c2 = 0) (hl2 : b.length * 32 ≤ 140737488351232) (hB : (4 * a.length + tot a) + (4 * b.length + tot b) ≤ 1048576) :
    Calls Try.prog 7 #[.int .i64 size, .slice a1 a.length c1, .slice a2 b.length c2] w fun e w' => e = .returned (.bool true) ∧ Below w.heap.size w w' := by
  have H1 : Hid (EdsA w a1 a) := h1
  have HN1 : Hid (a1 = none → a.length = 0 ∧ c1 = 0) := hn1
  have H2 : Hid (EdsA w a2 b) := h2
  have HN2 : Hid (a2 = none → b.length = 0 ∧ c2 = 0) := hn2
  have HF1 : Hid (∀ e ∈ a, EdFit e) := hF1
  clear h1 hn1 h2 hn2 hF1 hF2
  have hTa : tots a ≤ 1048576 := by rw [tots_tot]; omega
  have hTb : tots b ≤ 1048576 := by rw [tots_tot]; omega
  have hla : a.length ≤ 1048576 := by omega
  have hlb : b.length ≤ 1048576 := by omega
  have hnl := cmpL_len size a b
  go_enter Try.func7, Try.ntmps7
  go_wp2_with fail
  refine (lent_any a1 c1 a _ H1.out HN1.out hl1).mono ?_
  rintro e w1 ⟨rfl, hb1, hown⟩
  have hc : Hid (Eds w1 w.heap.size 0 (a ++ marks)) := Eds.own hown
  have HB1 : Hid (Below w.heap.size w w1) := hb1
  have hs1' := hb1.size
  clear hown hb1
  go_wp2_with fail
  refine (lent_any a2 c2 b _ (H2.out.below HB1.out) HN2.out hl2).mono ?_
  rintro e w2 ⟨rfl, hb2, hown⟩
  have hd : Hid (Eds w2 w1.heap.size 0 (b ++ marks)) := Eds.own hown
  have HB2 : Hid (Below w1.heap.size w1 w2) := hb2
  have hc2 : Hid (Eds w2 w.heap.size 0 (a ++ marks)) := hc.out.below hb2 hc.out.1
  clear hown hb2
  go_wp2_with fail
  refine (compose_any size _ _ _ _ a b _ hs0 hs1 (.inr ⟨_, _, rfl, by omega, hc2.out.pre⟩) (.inr ⟨_, _, rfl, by omega, hd.out.pre⟩) (by unfold maxLen; omega) (by unfold maxLen; omega) HF1.out hTa hTb).mono ?_
  rintro e w3 ⟨v3, rfl, ho3, hb3⟩
  obtain ⟨a3, cap3, rfl, hE3, -, -⟩ := own_form ho3
  have HE3 : Hid (EdsA w3 a3 (cmpL size a b)) := hE3
  have HB3 : Hid (Below w2.heap.size w2 w3) := hb3
  clear hE3 hb3 ho3
  have G1 : Hid (EdsA w3 a1 a) := ((H1.out.below HB1.out).below HB2.out).below HB3.out
  have G2 : Hid (EdsA w3 a2 b) := ((H2.out.below HB1.out).below HB2.out).below HB3.out
  go_wp2_with fail
  refine (rcompose_all size a1 a2 c1 c2 a b _ hs0 hs1 G1.out G2.out hla hlb hTa hTb).mono ?_
  rintro e w4 ⟨a4, cap4, rfl, hE4, hb4⟩
  have HE4 : Hid (EdsA w4 a4 (cmpL size a b)) := hE4
  have HB4 : Hid (Below w3.heap.size w3 w4) := hb4
  clear hE4 hb4
  go_wp2_with fail
  refine (same_any a3 a4 cap3 cap4 (cmpL size a b) _ (HE3.out.below HB4.out) HE4.out (by unfold maxLen; omega)).mono ?_
  rintro e w5 ⟨rfl, hb5⟩
  have HB5 : Hid (Below w4.heap.size w4 w5) := hb5
  have heq : (cmpE size a b == cmpE size a b) = true := by simp
  have B25 : Hid (Below w2.heap.size w2 w5) := (HB3.out.trans (HB4.out.mono HB3.out.size)).trans (hb5.mono (Nat.le_trans HB3.out.size HB4.out.size))
  clear hb5
  go_wp2_with fail
  refine (kept_any w.heap.size a1 c1 a _ (hc2.out.below B25.out hc2.out.1) ((G1.out.below HB4.out).below HB5.out) hl1).mono ?_
  rintro e w6 ⟨rfl, hb6⟩
  have HB6 : Hid (Below w5.heap.size w5 w6) := hb6
  have B26 : Hid (Below w2.heap.size w2 w6) := B25.out.trans (hb6.mono B25.out.size)
  clear hb6
  go_wp2_with fail
  refine (kept_any w1.heap.size a2 c2 b _ (hd.out.below B26.out hd.out.1) (((G2.out.below HB4.out).below HB5.out).below HB6.out) hl2).mono ?_
  rintro e w7 ⟨rfl, hb7⟩
  go_wp2
  go_ret
  exact ⟨rfl, ((HB1.out.trans (HB2.out.mono HB1.out.size)).trans (B26.out.mono (Nat.le_trans HB1.out.size HB2.out.size))).trans (hb7.mono (Nat.le_trans (Nat.le_trans HB1.out.size HB2.out.size) B26.out.size))⟩
end Go.Proofs.Ytniamjbieciilaa
