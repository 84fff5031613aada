import Derived.Test.YtchcmonhdgndcaaRec
import Derived.Test.YtchcmonhdgndcaaKd1
namespace Go.Proofs.Ytchcmonhdgndcaa
open Go.ChangeShapes Go.WideShapes Go.ChangeAt Go.RowKit
set_option linter.unusedVariables false

set_option maxRecDepth 1000000 in
set_option maxHeartbeats 1000000 in
theorem index_any (a : Option Addr) (cap : Nat) (xs : List Int) (v : Int) (w : World) (h : LiesA w a xs) (hl : xs.length ≤ maxLen) :
    Calls Try.prog 48 #[.slice a xs.length cap, .int .i64 v] w fun e w' => (∃ i : Int, e = .returned (.int .i64 i) ∧ decide (0 ≤ i) = xs.contains v) ∧ w' = w := by
  have H : Hid (LiesA w a xs) := h
  unfold maxLen at hl
  clear h
  go_enter Try.func48, Try.ntmps48
  go_wp2
  go_loopw [8] (fun i wr => ∃ k : Nat, k ≤ xs.length ∧ i = .int .i64 (k : Int) ∧ wr = w ∧ v ∉ xs.take k) (fun i _ => xs.length - (intOf i).toNat)
  case atStart => exact ⟨0, by omega, rfl, rfl, by simp⟩
  case round =>
    obtain ⟨k, hk, rfl, rfl, hno⟩ := hrel
    have HNO : Hid (v ∉ xs.take k) := hno
    clear hno
    by_cases hkl : k < xs.length
    · obtain ⟨y, hy⟩ : ∃ y, xs[k]? = some y := ⟨_, List.getElem?_eq_getElem hkl⟩
      rcases H.out with h0 | ⟨b, o, rfl, hL⟩
      · rw [h0] at hkl; simp at hkl
      have d0 := hL.int (Below.refl _ wr) hy
      have HY : Hid (xs[k]? = some y) := hy
      have hk1 : (k : Int) < (xs.length : Int) := by omega
      clear hy hL
      by_cases hv : v = y
      · subst hv
        have HC : Hid (xs.contains v = true) := List.contains_iff_mem.2 (List.mem_of_getElem? HY.out)
        go_wp2
        go_ret
        exact ⟨⟨k, rfl, by rw [HC.out]; simp⟩, rfl⟩
      · have HV : Hid (v ≠ y) := hv
        go_wp2
        go_roundw
        case rel =>
          refine ⟨k + 1, by omega, by simp, by trivial, ?_⟩
          rw [List.take_add_one, HY.out]
          intro hm
          rcases List.mem_append.1 hm with hm | hm
          · exact HNO.out hm
          · simp at hm; exact HV.out hm
        case measure => simp [intOf]; omega
    · have hke : k = xs.length := by omega
      subst hke
      have HC : Hid (xs.contains v = false) := by
        unfold Hid
        rw [Bool.eq_false_iff]
        intro hm
        exact HNO.out (by rw [List.take_length]; exact List.contains_iff_mem.1 hm)
      go_wp2
      go_ret
      exact ⟨⟨-1, rfl, by rw [HC.out]; rfl⟩, rfl⟩

theorem contains_any (a : Option Addr) (cap : Nat) (xs : List Int) (v : Int) (w : World) (h : LiesA w a xs) (hl : xs.length ≤ maxLen) :
    Calls Try.prog 30 #[.slice a xs.length cap, .int .i64 v] w fun e w' => e = .returned (.bool (xs.contains v)) ∧ w' = w := by
  have H : Hid (LiesA w a xs) := h
  clear h
  go_enter Try.func30, Try.ntmps30
  go_wp2_with (go_at_call 48; refine (index_any a cap xs v _ H.out hl).mono ?_; rintro e w' ⟨⟨i, rfl, hi⟩, rfl⟩; have HI : Hid (decide (0 ≤ i) = xs.contains v) := hi; clear hi)
  go_ret
  exact ⟨congrArg (fun b => Ending.returned (.bool b)) HI.out, rfl⟩
end Go.Proofs.Ytchcmonhdgndcaa
