import Derived.Test.YtfkjemeffjmioaaBs
import Derived.Test.YtfkjemeffjmioaaShf
namespace Go.Proofs.Ytfkjemeffjmioaa
open Go.ChangeShapes Go.WideShapes Go.ChangeAt Go.RowKit
set_option linter.unusedVariables false

/-- a name up to its last slash -/
def fol (s : ByteArray) : ByteArray := if Lib.lastIndexByte s 47 = -1 then ⟨#[]⟩ else s.extract 0 (Lib.lastIndexByte s 47).toNat
theorem fol_no {s : ByteArray} (h : Lib.lastIndexByte s 47 = -1) : fol s = ⟨#[]⟩ := by unfold fol; rw [if_pos h]
theorem fol_at {s : ByteArray} {i : Nat} (h : Lib.lastIndexByte s 47 = i) : fol s = s.extract 0 i := by
  unfold fol; rw [if_neg (by rw [h]; omega), h]; rfl

theorem ext_zero (s : ByteArray) : s.extract 0 0 = ⟨#[]⟩ := by
  have h : (s.extract 0 0).data = #[] := by simp
  exact congrArg ByteArray.mk h

theorem clone_any (s : ByteArray) (w : World) (hs : s.size ≤ 281474976710656) :
    Calls Try.prog 9 #[.string s] w fun e w' => e = .returned (.string s) ∧ Below w.heap.size w w' := by
  go_enter Try.func9, Try.ntmps9
  go_wp2_with (go_at_call 15; refine (Try.stringslite_Clone _ _ hs).mono ?_; rintro e w2 ⟨rfl, hb⟩)
  go_ret
  exact ⟨rfl, hb⟩

set_option maxHeartbeats 4000000 in
theorem folder_any (s : ByteArray) (w : World) (hs : s.size ≤ 140737488351232) :
    Calls Try.prog 5 #[.string s] w fun e w' => e = .returned (.string (fol s)) ∧ Below w.heap.size w w' := by
  rcases Lib.lastIndexByte_spec s 47 with ⟨h, _⟩ | ⟨i, hi, h, _⟩
  · have H : Hid (Lib.lastIndexByte s 47 = -1) := h
    clear h
    go_enter Try.func5, Try.ntmps5
    go_wp2_with (first
      | (go_at_call 10; refine (Try.strings_LastIndexByte s 47 (by omega) _).mono ?_; rintro e w2 ⟨rfl, rfl⟩; rw [H.out])
      | (go_at_call 9; refine (clone_any _ _ ?_).mono ?_; rotate_left; rintro e w2 ⟨rfl, hb⟩))
    · go_ret
      rw [fol_no H.out]
      exact ⟨by rw [show s.extract 0 (max (-1 : Int) 0).toNat = ⟨#[]⟩ from ext_zero s]; rfl, hb⟩
    · rw [ByteArray.size_extract]; omega
  · have H : Hid (Lib.lastIndexByte s 47 = i) := h
    clear h
    go_enter Try.func5, Try.ntmps5
    go_wp2_with (first
      | (go_at_call 10; refine (Try.strings_LastIndexByte s 47 (by omega) _).mono ?_; rintro e w2 ⟨rfl, rfl⟩; rw [H.out])
      | (go_at_call 9; refine (clone_any _ _ ?_).mono ?_; rotate_left; rintro e w2 ⟨rfl, hb⟩))
    · go_ret
      rw [fol_at H.out]
      exact ⟨rfl, hb⟩
    · rw [ByteArray.size_extract]; omega

set_option maxHeartbeats 4000000 in
theorem rFolder_any (s : ByteArray) (w : World) (hs : s.size ≤ 140737488351232) :
    Calls Try.prog 6 #[.string s] w fun e w' => e = .returned (.string (fol s)) ∧ w' = w := by
  go_enter Try.func6, Try.ntmps6
  go_wp2
  go_loop [3] (fun vi => ∃ k : Nat, k ≤ s.size ∧ vi = .int .i64 ((k : Int) - 1) ∧ Hid (Lib.lastIndexByte s 47 = Lib.lastIdx s 47 k)) (fun vi => ((RowKit.intOf vi) + 1).toNat)
  case atStart => exact ⟨s.size, Nat.le_refl _, by first | rfl | go_num | (congr 1; omega), rfl⟩
  case round =>
    obtain ⟨k, hk, rfl, hh⟩ := hrel
    go_wp2
    · have hc : (((s[k - 1]).toNat : Int) == 47) = true := by assumption
      have k1 : 1 ≤ k := by omega
      have e1 : Lib.lastIdx s 47 k = ((k - 1 : Nat) : Int) := by
        have := Lib.lastIdx_hit s 47 (k - 1) (by rw [LastIndex.byteBang s (k - 1) (by omega)]; simpa using hc)
        rwa [show k - 1 + 1 = k by omega] at this
      go_ret
      rw [fol_at (hh.out.trans e1)]
      exact ⟨by first | rfl | (congr 2; omega), rfl⟩
    · have hc : (((s[k - 1]).toNat : Int) == 47) = false := by assumption
      have k1 : 1 ≤ k := by omega
      have e1 : Lib.lastIdx s 47 k = Lib.lastIdx s 47 (k - 1) := by
        have := Lib.lastIdx_miss s 47 (k - 1) (by rw [LastIndex.byteBang s (k - 1) (by omega)]; simpa using hc)
        rwa [show k - 1 + 1 = k by omega] at this
      refine ⟨⟨k - 1, by omega, by congr 1; omega, hh.out.trans e1⟩, ?_⟩
      simp [RowKit.intOf]; omega
    · have k0 : k = 0 := by omega
      subst k0
      go_ret
      rw [fol_no hh.out]
      exact ⟨rfl, rfl⟩

set_option maxHeartbeats 4000000 in
theorem modulesFolders_walk (s : ByteArray) (w : World) (hs : s.size ≤ 140737488351232) :
    Calls Try.prog 3 #[.string s] w fun e w' => e = .returned (.bool true) ∧ Below w.heap.size w w' := by
  go_enter Try.func3, Try.ntmps3
  go_wp2_with (first
    | (go_at_call 5; refine (folder_any s _ hs).mono ?_; rintro e w2 ⟨rfl, hb2⟩)
    | (go_at_call 6; refine (rFolder_any s _ hs).mono ?_; rintro e w3 ⟨rfl, rfl⟩))
  go_ret
  exact ⟨rfl, hb2⟩
end Go.Proofs.Ytfkjemeffjmioaa
