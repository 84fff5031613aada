import Derived.Test.YteolfolkolpehaaDoorW1
import Derived.Test.YteolfolkolpehaaDoorW2
import Derived.Test.YteolfolkolpehaaDoorW5
namespace Go.Proofs.YteolfolkolpehaaDoor
open Go.ChangeShapes Go.WideShapes Go.ChangeAt Go.RowKit
set_option linter.unusedVariables false

set_option maxHeartbeats 400000 in
theorem wrong_all (size : Int) (a : Option Addr) (cap : Nat) (xs : List Ed) (w : World) (hs0 : -9223372036854775808 ≤ size) (hs1 : size < 9223372036854775807) (h : EdsA w a xs) (hl : xs.length ≤ maxLen) :
    Calls Tryd.prog 39 #[.int .i64 size, .slice a xs.length cap] w fun e w' => e = .returned (.int .i64 (vld size xs)) ∧ Below w.heap.size w w' := by
  rcases h with rfl | ⟨b, o, rfl, h⟩
  · rw [List.length_nil]
    go_enter Tryd.func39, Tryd.ntmps39
    go_wp2
    go_step3
    go_wp2
    go_step3
    go_wp2
    refine wp_loop_rounds 1 ?_
    rw [rounds_succ]
    go_wp2
    rw [Exit.noGoto_ret]
    go_ret
    exact ⟨by simp [vld, chk], Below.refl _ _⟩
  · exact wrong_any size b o cap xs w hs0 hs1 h hl

set_option maxHeartbeats 400000 in
theorem rvalid_all (size : Int) (a : Option Addr) (cap : Nat) (xs : List Ed) (w : World) (hs0 : -9223372036854775808 ≤ size) (hs1 : size ≤ 9223372036854775807) (h : EdsA w a xs) (hl : xs.length ≤ maxLen) :
    Calls Tryd.prog 35 #[.int .i64 size, .slice a xs.length cap] w fun e w' => e = .returned (.int .i64 (vld size xs)) ∧ Below w.heap.size w w' := by
  rcases h with rfl | ⟨b, o, rfl, h⟩
  · rw [List.length_nil]
    go_enter Tryd.func35, Tryd.ntmps35
    go_wp2
    refine wp_loop_rounds 1 ?_
    rw [rounds_succ]
    go_wp2
    go_ret
    exact ⟨by simp [vld, chk], Below.refl _ _⟩
  · exact rvalid_any size b o cap xs w hs0 hs1 h hl

def val62 (size : Int) (xs : List Ed) : Int := if 0 ≤ size ∧ size ≤ 4611686018427387904 then vld size xs else 1

set_option maxHeartbeats 400000 in
theorem valid_all (size : Int) (a : Option Addr) (cap : Nat) (xs : List Ed) (w : World) (hs0 : -9223372036854775808 ≤ size) (hs1 : size ≤ 9223372036854775807) (h : EdsA w a xs) (hl : xs.length ≤ maxLen) :
    Calls Tryd.prog 33 #[.int .i64 size, .slice a xs.length cap] w fun e w' => e = .returned (.int .i64 (val62 size xs)) ∧ Below w.heap.size w w' := by
  have H : Hid (EdsA w a xs) := h
  have HL : Hid (xs.length ≤ maxLen) := hl
  clear h hl
  by_cases h0 : 0 ≤ size
  · by_cases h1 : size ≤ 4611686018427387904
    · have HV : Hid (vld size xs = val62 size xs) := by unfold Hid val62; rw [if_pos ⟨h0, h1⟩]
      go_enter Tryd.func33, Tryd.ntmps33
      go_wp2_with (first | (go_at_call 39; refine (wrong_all size a cap xs _ (by omega) (by omega) H.out HL.out).mono ?_; rintro e w' ⟨rfl, hb⟩) | go_in)
      go_ret
      exact ⟨ret_i64 HV.out, hb⟩
    · have HV : Hid (1 = val62 size xs) := by unfold Hid val62; rw [if_neg (by omega)]
      go_enter Tryd.func33, Tryd.ntmps33
      go_wp2
      go_ret
      exact ⟨ret_i64 HV.out, Below.refl _ _⟩
  · have HV : Hid (1 = val62 size xs) := by unfold Hid val62; rw [if_neg (by omega)]
    go_enter Tryd.func33, Tryd.ntmps33
    go_wp2
    go_ret
    exact ⟨ret_i64 HV.out, Below.refl _ _⟩

set_option maxHeartbeats 400000 in
theorem rValid_all (size : Int) (a : Option Addr) (cap : Nat) (xs : List Ed) (w : World) (hs0 : -9223372036854775808 ≤ size) (hs1 : size ≤ 9223372036854775807) (h : EdsA w a xs) (hl : xs.length ≤ maxLen) :
    Calls Tryd.prog 42 #[.int .i64 size, .slice a xs.length cap] w fun e w' => e = .returned (.int .i64 (val62 size xs)) ∧ Below w.heap.size w w' := by
  have H : Hid (EdsA w a xs) := h
  have HL : Hid (xs.length ≤ maxLen) := hl
  clear h hl
  by_cases h0 : 0 ≤ size
  · by_cases h1 : size ≤ 4611686018427387904
    · have HV : Hid (vld size xs = val62 size xs) := by unfold Hid val62; rw [if_pos ⟨h0, h1⟩]
      go_enter Tryd.func42, Tryd.ntmps42
      go_wp2_with (first | (go_at_call 35; refine (rvalid_all size a cap xs _ (by omega) (by omega) H.out HL.out).mono ?_; rintro e w' ⟨rfl, hb⟩) | go_in)
      go_ret
      exact ⟨ret_i64 HV.out, hb⟩
    · have HV : Hid (1 = val62 size xs) := by unfold Hid val62; rw [if_neg (by omega)]
      go_enter Tryd.func42, Tryd.ntmps42
      go_wp2
      go_ret
      exact ⟨ret_i64 HV.out, Below.refl _ _⟩
  · have HV : Hid (1 = val62 size xs) := by unfold Hid val62; rw [if_neg (by omega)]
    go_enter Tryd.func42, Tryd.ntmps42
    go_wp2
    go_ret
    exact ⟨ret_i64 HV.out, Below.refl _ _⟩
end Go.Proofs.YteolfolkolpehaaDoor
