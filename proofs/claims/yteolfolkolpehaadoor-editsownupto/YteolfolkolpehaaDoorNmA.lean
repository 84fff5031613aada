import Derived.Test.YteolfolkolpehaaDoorNm1
namespace Go.Proofs.YteolfolkolpehaaDoor
open Go.ChangeShapes Go.WideShapes Go.ChangeAt Go.RowKit
set_option linter.unusedVariables false

def nrmA (tx : ByteArray) (xs : List Ed) : List Ed := if vld tx.size xs = 0 then nrm tx xs else []

set_option maxHeartbeats 800000 in
theorem normal_all (tx : ByteArray) (a : Option Addr) (cap : Nat) (xs : List Ed) (w : World) (hx : tx.size ≤ 140737488351232) (h : EdsA w a xs) (hl : xs.length * 32 ≤ 140737488351232) (hF : ∀ e ∈ xs, EdFit e) :
    Calls Tryd.prog 24 #[.string tx, .slice a xs.length cap] w fun e w' => ∃ a' cap', e = .returned (.tuple #[.slice a' (nrmA tx xs).length cap', .int .i64 (vld tx.size xs)]) ∧ EdsA w' a' (nrmA tx xs) ∧ (a' = none → (nrmA tx xs).length = 0 ∧ cap' = 0) ∧ Below w.heap.size w w' := by
  have HL : Hid (xs.length ≤ maxLen) := by unfold Hid maxLen; omega
  by_cases hv : vld tx.size xs = 0
  · have hN : nrmA tx xs = nrm tx xs := by unfold nrmA; rw [if_pos hv]
    rw [hN, hv]
    rcases h with rfl | ⟨b, o, rfl, h⟩
    · rw [List.length_nil]
      go_enter Tryd.func24, Tryd.ntmps24
      go_wp2_with (first | (go_at_call 33; refine (valid_all tx.size a cap [] _ (by omega) (by omega) (.inl rfl) HL.out).mono ?_; rintro e w1 ⟨rfl, hb1⟩; rw [show val62 (tx.size : Int) [] = 0 from by unfold val62; rw [if_pos (by omega)]; rfl]) | go_in)
      refine wp_loop_rounds 1 ?_
      rw [rounds_succ]
      go_wp2
      go_ret2
      exact ⟨none, 0, rfl, .inl rfl, fun _ => ⟨rfl, rfl⟩, hb1⟩
    · refine (normal_any tx b o cap xs w hx h hl hF hv).mono ?_
      rintro e w' ⟨v, rfl, hown, hb⟩
      obtain ⟨a', cap', rfl, hE, _, hn⟩ := own_form hown
      exact ⟨a', cap', rfl, hE, hn, hb⟩
  · have hN : nrmA tx xs = [] := by unfold nrmA; rw [if_neg hv]
    rw [hN]
    have H : Hid (EdsA w a xs) := h
    have HV : Hid (val62 tx.size xs = vld tx.size xs) := by unfold Hid val62; rw [if_pos (by omega)]
    have HW : Hid ((vld tx.size xs != 0) = true) := by unfold Hid; simpa using hv
    clear h hv
    go_enter Tryd.func24, Tryd.ntmps24
    go_wp2_with (first | (go_at_call 33; refine (valid_all tx.size a cap xs _ (by omega) (by omega) H.out HL.out).mono ?_; rintro e w1 ⟨rfl, hb1⟩; rw [HV.out]; have hne := HW.out) | go_in)
    go_ret2
    exact ⟨none, 0, rfl, .inl rfl, by simp, hb1⟩

end Go.Proofs.YteolfolkolpehaaDoor
