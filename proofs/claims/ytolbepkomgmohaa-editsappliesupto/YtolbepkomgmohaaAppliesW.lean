import Derived.Test.YtolbepkomgmohaaRn4
import Derived.Test.YtolbepkomgmohaaAp2
import Derived.Test.YtolbepkomgmohaaW5
namespace Go.Proofs.Ytolbepkomgmohaa
open Go.ChangeShapes Go.WideShapes Go.ChangeAt Go.RowKit
set_option linter.unusedVariables false

theorem appA_B (tx : ByteArray) (xs : List Ed) : appA tx xs = appB tx xs := rfl

set_option maxHeartbeats 800000 in
theorem editsApplies_walk (tx : ByteArray) (a : Option Addr) (cap : Nat) (xs : List Ed) (w : World) (hx : tx.size ≤ 140737488351232) (h : EdsA w a xs) (hF : ∀ e ∈ xs, EdFit e) (hn : a = none → xs.length = 0 ∧ cap = 0) (hl : xs.length * 32 ≤ 140737488351232) (hB : tx.size + (4 * xs.length + tot xs) ≤ 1048576) :
    Calls Try.prog 8 #[.string tx, .slice a xs.length cap] w fun e w' => e = .returned (.bool true) ∧ Below w.heap.size w w' := by
  have H : Hid (EdsA w a xs) := h
  have HN : Hid (a = none → xs.length = 0 ∧ cap = 0) := hn
  have HF : Hid (∀ e ∈ xs, EdFit e) := hF
  clear h hn hF
  have HL : Hid (xs.length ≤ maxLen) := by unfold Hid maxLen; omega
  have hB2 : tx.size + tots xs ≤ 70368744177664 := by rw [tots_tot]; omega
  go_enter Try.func8, Try.ntmps8
  go_wp2_with fail
  refine (lent_any a cap xs _ H.out HN.out hl).mono ?_
  rintro e w1 ⟨rfl, hb1, hown⟩
  have hc : Hid (Eds w1 w.heap.size 0 (xs ++ marks)) := Eds.own hown
  clear hown
  go_wp2_with fail
  refine (apply_all tx _ _ xs _ hx (.inr ⟨_, _, rfl, hc.out.pre⟩) HL.out HF.out hB2).mono ?_
  rintro e w2 ⟨rfl, hb2⟩
  go_wp2_with fail
  refine (rapply_all tx a cap xs _ hx ((H.out.below hb1).below hb2) HL.out hB2).mono ?_
  rintro e w3 ⟨rfl, hb3⟩
  rw [appA_B]
  generalize appB tx xs = R
  have heq : (R.toList == R.toList) = true := by simp
  have heq2 : (vld tx.size xs == vld tx.size xs) = true := by simp
  go_wp2_with fail
  refine (kept_any w.heap.size a cap xs _ ((hc.out.below hb2 hc.out.1).below hb3 (Nat.lt_of_lt_of_le hc.out.1 hb2.size)) (((H.out.below hb1).below hb2).below hb3) hl).mono ?_
  rintro e w4 ⟨rfl, hb4⟩
  go_wp2
  go_ret
  exact ⟨rfl, ((hb1.trans (hb2.mono hb1.size)).trans (hb3.mono (Nat.le_trans hb1.size hb2.size))).trans (hb4.mono (Nat.le_trans hb1.size (Nat.le_trans hb2.size hb3.size)))⟩
end Go.Proofs.Ytolbepkomgmohaa
