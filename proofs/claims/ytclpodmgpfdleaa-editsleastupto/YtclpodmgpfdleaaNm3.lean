import Derived.Test.YtclpodmgpfdleaaNm1
import Derived.Test.YtclpodmgpfdleaaNm2
namespace Go.Proofs.Ytclpodmgpfdleaa
open Go.ChangeShapes Go.WideShapes Go.ChangeAt Go.RowKit
set_option linter.unusedVariables false

def nrmA (tx : ByteArray) (xs : List Ed) : List Ed := if vld tx.size xs = 0 then nrm tx xs else []

set_option maxHeartbeats 800000 in
theorem normal_all (tx : ByteArray) (a : Option Addr) (cap : Nat) (xs : List Ed) (w : World) (hx : tx.size ≤ 140737488351232) (h : EdsA w a xs) (hl : xs.length * 32 ≤ 140737488351232) (hF : ∀ e ∈ xs, EdFit e) :
    Calls Try.prog 14 #[.string tx, .slice a xs.length cap] w fun e w' => ∃ a' cap', e = .returned (.tuple #[.slice a' (nrmA tx xs).length cap', .int .i64 (vld tx.size xs)]) ∧ EdsA w' a' (nrmA tx xs) ∧ (a' = none → (nrmA tx xs).length = 0 ∧ cap' = 0) ∧ Below w.heap.size w w' := by
  have HL : Hid (xs.length ≤ maxLen) := by unfold Hid maxLen; omega
  by_cases hv : vld tx.size xs = 0
  · have hN : nrmA tx xs = nrm tx xs := by unfold nrmA; rw [if_pos hv]
    rw [hN, hv]
    rcases h with rfl | ⟨b, o, rfl, h⟩
    · rw [List.length_nil]
      go_enter Try.func14, Try.ntmps14
      go_wp2_with (first | (go_at_call 11; refine (valid_all tx.size a cap [] _ (by omega) (by omega) (.inl rfl) HL.out).mono ?_; rintro e w1 ⟨rfl, hb1⟩; rw [show val62 (tx.size : Int) [] = 0 from by unfold val62; rw [if_pos (by omega)]; rfl]) | go_in)
      refine wp_loop_rounds 1 ?_
      rw [rounds_succ]
      go_wp2
      go_ret2
      exact ⟨none, 0, rfl, .inl rfl, fun _ => ⟨rfl, rfl⟩, hb1⟩
    · refine (normal_any tx b o cap xs w hx h hl hF hv).mono ?_
      rintro e w' ⟨v, rfl, hown, hb⟩
      obtain ⟨a', cap', rfl, hE, _, hn⟩ := own_form hown
      exact ⟨a', cap', rfl, hE, hn, hb⟩
  · have hN : nrmA tx xs = [] := by unfold nrmA; rw [if_neg hv]
    rw [hN]
    have H : Hid (EdsA w a xs) := h
    have HV : Hid (val62 tx.size xs = vld tx.size xs) := by unfold Hid val62; rw [if_pos (by omega)]
    have HW : Hid ((vld tx.size xs != 0) = true) := by unfold Hid; simpa using hv
    clear h hv
    go_enter Try.func14, Try.ntmps14
    go_wp2_with (first | (go_at_call 11; refine (valid_all tx.size a cap xs _ (by omega) (by omega) H.out HL.out).mono ?_; rintro e w1 ⟨rfl, hb1⟩; rw [HV.out]; have hne := HW.out) | go_in)
    go_ret2
    exact ⟨none, 0, rfl, .inl rfl, by simp, hb1⟩

set_option maxHeartbeats 800000 in
theorem rnormal_all (tx : ByteArray) (a : Option Addr) (cap : Nat) (xs : List Ed) (w : World) (hx : tx.size ≤ 140737488351232) (h : EdsA w a xs) (hl : xs.length * 32 ≤ 140737488351232) (hF : ∀ e ∈ xs, EdFit e) :
    Calls Try.prog 15 #[.string tx, .slice a xs.length cap] w fun e w' => ∃ a' cap', e = .returned (.tuple #[.slice a' (nrmA tx xs).length cap', .int .i64 (vld tx.size xs)]) ∧ EdsA w' a' (nrmA tx xs) ∧ (a' = none → (nrmA tx xs).length = 0 ∧ cap' = 0) ∧ Below w.heap.size w w' := by
  have HL : Hid (xs.length ≤ maxLen) := by unfold Hid maxLen; omega
  by_cases hv : vld tx.size xs = 0
  · have hN : nrmA tx xs = nrm tx xs := by unfold nrmA; rw [if_pos hv]
    rw [hN, hv]
    rcases h with rfl | ⟨b, o, rfl, h⟩
    · rw [List.length_nil]
      go_enter Try.func15, Try.ntmps15
      go_wp2_with (first | (go_at_call 22; refine (rvalid_all tx.size a cap [] _ (by omega) (by omega) (.inl rfl) HL.out).mono ?_; rintro e w1 ⟨rfl, hb1⟩; rw [show vld (tx.size : Int) [] = 0 from rfl]) | go_in)
      refine wp_loop_rounds 1 ?_
      rw [rounds_succ]
      go_wp2
      go_ret2
      exact ⟨none, 0, rfl, .inl rfl, fun _ => ⟨rfl, rfl⟩, hb1⟩
    · refine (rnormal_any tx b o cap xs w hx h hl hF hv).mono ?_
      rintro e w' ⟨v, rfl, hown, hb⟩
      obtain ⟨a', cap', rfl, hE, _, hn⟩ := own_form hown
      exact ⟨a', cap', rfl, hE, hn, hb⟩
  · have hN : nrmA tx xs = [] := by unfold nrmA; rw [if_neg hv]
    rw [hN]
    have H : Hid (EdsA w a xs) := h
    have HW : Hid ((vld tx.size xs != 0) = true) := by unfold Hid; simpa using hv
    clear h hv
    go_enter Try.func15, Try.ntmps15
    go_wp2_with (first | (go_at_call 22; refine (rvalid_all tx.size a cap xs _ (by omega) (by omega) H.out HL.out).mono ?_; rintro e w1 ⟨rfl, hb1⟩; have hne := HW.out) | go_in)
    go_ret2
    exact ⟨none, 0, rfl, .inl rfl, by simp, hb1⟩

theorem nrmA_len (tx : ByteArray) (xs : List Ed) : (nrmA tx xs).length ≤ xs.length := by
  unfold nrmA
  by_cases hv : vld tx.size xs = 0
  · rw [if_pos hv]
    have := nrm_len tx xs xs.length
    rwa [List.take_length] at this
  · rw [if_neg hv]; simp

set_option maxHeartbeats 800000 in
theorem editsNormals_walk (tx : ByteArray) (a : Option Addr) (cap : Nat) (xs : List Ed) (w : World) (hx : tx.size ≤ 140737488351232) (h : EdsA w a xs) (hF : ∀ e ∈ xs, EdFit e) (hn : a = none → xs.length = 0 ∧ cap = 0) (hl : xs.length * 32 ≤ 140737488351232) :
    Calls Try.prog 5 #[.string tx, .slice a xs.length cap] w fun e w' => e = .returned (.bool true) ∧ Below w.heap.size w w' := by
  have H : Hid (EdsA w a xs) := h
  have HN : Hid (a = none → xs.length = 0 ∧ cap = 0) := hn
  have HF : Hid (∀ e ∈ xs, EdFit e) := hF
  clear h hn hF
  have HL : Hid (xs.length ≤ maxLen) := by unfold Hid maxLen; omega
  have hnl := nrmA_len tx xs
  go_enter Try.func5, Try.ntmps5
  go_wp2_with fail
  refine (lent_any a cap xs _ H.out HN.out hl).mono ?_
  rintro e w1 ⟨rfl, hb1, hown⟩
  have hc : Hid (Eds w1 w.heap.size 0 (xs ++ marks)) := Eds.own hown
  clear hown
  go_wp2_with fail
  refine (normal_all tx _ _ xs _ hx (.inr ⟨_, _, rfl, hc.out.pre⟩) hl HF.out).mono ?_
  rintro e w2 ⟨a2, cap2, rfl, hE2, _, hb2⟩
  have HE2 : Hid (EdsA w2 a2 (nrmA tx xs)) := hE2
  clear hE2
  go_wp2_with fail
  refine (rnormal_all tx a cap xs _ hx ((H.out.below hb1).below hb2) hl HF.out).mono ?_
  rintro e w3 ⟨a3, cap3, rfl, hE3, _, hb3⟩
  have HE3 : Hid (EdsA w3 a3 (nrmA tx xs)) := hE3
  clear hE3
  go_wp2_with fail
  refine (same_any a2 a3 cap2 cap3 (nrmA tx xs) _ (HE2.out.below hb3) HE3.out (by unfold maxLen; omega)).mono ?_
  rintro e w4 ⟨rfl, hb4⟩
  have heq : (vld tx.size xs == vld tx.size xs) = true := by simp
  have s2 : w.heap.size ≤ w2.heap.size := Nat.le_trans hb1.size hb2.size
  have s3 : w.heap.size ≤ w3.heap.size := Nat.le_trans s2 hb3.size
  have s4 : w.heap.size ≤ w4.heap.size := Nat.le_trans s3 hb4.size
  go_wp2_with fail
  refine (kept_any w.heap.size a cap xs _ (((hc.out.below hb2 hc.out.1).below hb3 (Nat.lt_of_lt_of_le hc.out.1 hb2.size)).below hb4 (Nat.lt_of_lt_of_le hc.out.1 (Nat.le_trans hb2.size hb3.size))) ((((H.out.below hb1).below hb2).below hb3).below hb4) hl).mono ?_
  rintro e w5 ⟨rfl, hb5⟩
  go_wp2
  go_ret
  exact ⟨rfl, (((hb1.trans (hb2.mono hb1.size)).trans (hb3.mono s2)).trans (hb4.mono s3)).trans (hb5.mono s4)⟩
end Go.Proofs.Ytclpodmgpfdleaa
