import Derived.Test.YteolfolkolpehaaDoorPs
import Derived.Test.YteolfolkolpehaaDoorW5
namespace Go.Proofs.YteolfolkolpehaaDoor
open Go.ChangeShapes Go.WideShapes Go.ChangeAt Go.RowKit
set_option linter.unusedVariables false

def prtB (xs : List Ed) : ByteArray := if 65536 < xs.length then ⟨#[]⟩ else ⟨(prt xs).toArray⟩

set_option maxRecDepth 1000000 in
set_option maxHeartbeats 800000 in
theorem Print_all (a : Option Addr) (cap : Nat) (xs : List Ed) (w : World) (h : EdsA w a xs) (hl : xs.length ≤ maxLen) (hF : ∀ e ∈ xs, EdFit e) (hT : tots xs ≤ 1048576) (htab : Lib.TabIs Tryd.prog w "internal/strconv.uint64pow10" .u64 Lib.pow10Tab) :
    Calls Tryd.prog 8 #[.slice a xs.length cap] w fun e w' => e = .returned (.string (prtB xs)) ∧ Below w.heap.size w w' := by
  unfold maxLen at hl
  by_cases hm : 65536 < xs.length
  · have hP : prtB xs = ⟨#[]⟩ := by unfold prtB; rw [if_pos hm]
    rw [hP]
    have hm' : (65536 : Int) < (xs.length : Int) := by omega
    clear h hF hP hm htab
    go_enter Tryd.func8, Tryd.ntmps8
    go_wp2
    go_ret
    exact ⟨rfl, Below.refl _ _⟩
  · have hP : prtB xs = ⟨(prt xs).toArray⟩ := by unfold prtB; rw [if_neg hm]
    rw [hP]
    rcases h with rfl | ⟨b, o, rfl, h⟩
    · rw [List.length_nil]
      clear hP hF htab
      have hcv := nil_string w
      go_enter Tryd.func8, Tryd.ntmps8
      go_wp2
      refine wp_loop_rounds 1 ?_
      rw [rounds_succ]
      go_wp2
      go_ret
      exact ⟨rfl, Below.refl _ _⟩
    · exact Print_any b o cap xs w h (by omega) hF hT htab

set_option maxRecDepth 1000000 in
set_option maxHeartbeats 800000 in
theorem rPrint_all (a : Option Addr) (cap : Nat) (xs : List Ed) (w : World) (h : EdsA w a xs) (hl : xs.length ≤ maxLen) (hF : ∀ e ∈ xs, EdFit e) (hT : tots xs ≤ 1048576) (htab : Lib.TabIs Tryd.prog w "internal/strconv.uint64pow10" .u64 Lib.pow10Tab) :
    Calls Tryd.prog 12 #[.slice a xs.length cap] w fun e w' => e = .returned (.string (prtB xs)) ∧ Below w.heap.size w w' := by
  unfold maxLen at hl
  by_cases hm : 65536 < xs.length
  · have hP : prtB xs = ⟨#[]⟩ := by unfold prtB; rw [if_pos hm]
    rw [hP]
    have hm' : (65536 : Int) < (xs.length : Int) := by omega
    clear h hF hP hm htab
    go_enter Tryd.func12, Tryd.ntmps12
    go_wp2
    go_ret
    exact ⟨rfl, Below.refl _ _⟩
  · have hP : prtB xs = ⟨(prt xs).toArray⟩ := by unfold prtB; rw [if_neg hm]
    rw [hP]
    rcases h with rfl | ⟨b, o, rfl, h⟩
    · rw [List.length_nil]
      clear hP hF htab
      have hcv := nil_string w
      go_enter Tryd.func12, Tryd.ntmps12
      go_wp2
      refine wp_loop_rounds 1 ?_
      rw [rounds_succ]
      go_wp2
      go_ret
      exact ⟨rfl, Below.refl _ _⟩
    · exact rPrint_any b o cap xs w h (by omega) hF hT htab

set_option maxRecDepth 1000000 in
set_option maxHeartbeats 800000 in
theorem editsPrints_walk (a : Option Addr) (cap : Nat) (xs : List Ed) (w : World) (h : EdsA w a xs) (hF : ∀ e ∈ xs, EdFit e) (hn : a = none → xs.length = 0 ∧ cap = 0) (hl : xs.length * 32 ≤ 140737488351232) (hB : (4 * xs.length + tot xs) ≤ 1048576) (htab : Lib.TabIs Tryd.prog w "internal/strconv.uint64pow10" .u64 Lib.pow10Tab) :
    Calls Tryd.prog 4 #[.slice a xs.length cap] w fun e w' => e = .returned (.bool true) ∧ Below w.heap.size w w' := by
  have H : Hid (EdsA w a xs) := h
  have HN : Hid (a = none → xs.length = 0 ∧ cap = 0) := hn
  have HF : Hid (∀ e ∈ xs, EdFit e) := hF
  have HT : Hid (Lib.TabBelow Tryd.prog w.heap.size w "internal/strconv.uint64pow10" .u64 Lib.pow10Tab) := Lib.tabBelow_of_tabIs htab
  have HL : Hid (xs.length ≤ maxLen) := by unfold Hid maxLen; omega
  clear h hn hF htab
  have hT : tots xs ≤ 1048576 := by rw [tots_tot]; omega
  go_enter Tryd.func4, Tryd.ntmps4
  go_wp2_with fail
  refine (lent_any a cap xs _ H.out HN.out hl).mono ?_
  rintro e w1 ⟨rfl, hb1, hown⟩
  have hc : Hid (Eds w1 w.heap.size 0 (xs ++ marks)) := Eds.own hown
  have HB1 : Hid (Below w.heap.size w w1) := hb1
  clear hown hb1
  go_wp2_with fail
  refine (Print_all _ _ xs _ (.inr ⟨_, _, rfl, hc.out.pre⟩) HL.out HF.out hT (HT.out.on HB1.out).here).mono ?_
  rintro e w2 ⟨rfl, hb2⟩
  have HB2 : Hid (Below w1.heap.size w1 w2) := hb2
  have HB12 : Hid (Below w.heap.size w w2) := HB1.out.trans (hb2.mono HB1.out.size)
  clear hb2
  go_wp2_with fail
  refine (rPrint_all a cap xs _ (H.out.below HB12.out) HL.out HF.out hT (HT.out.on HB12.out).here).mono ?_
  rintro e w3 ⟨rfl, hb3⟩
  have HB3 : Hid (Below w2.heap.size w2 w3) := hb3
  have HB13 : Hid (Below w.heap.size w w3) := HB12.out.trans (hb3.mono HB12.out.size)
  clear hb3
  generalize prtB xs = R at *
  go_wp2_with fail
  refine (kept_any w.heap.size a cap xs _ ((hc.out.below HB2.out hc.out.1).below HB3.out (Nat.lt_of_lt_of_le hc.out.1 HB2.out.size)) (H.out.below HB13.out) hl).mono ?_
  rintro e w4 ⟨rfl, hb4⟩
  go_wp2
  go_ret
  exact ⟨rfl, HB13.out.trans (hb4.mono HB13.out.size)⟩
end Go.Proofs.YteolfolkolpehaaDoor
