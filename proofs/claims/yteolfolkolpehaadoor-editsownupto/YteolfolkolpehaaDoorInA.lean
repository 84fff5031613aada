import Derived.Test.YteolfolkolpehaaDoorIv1
import Derived.Test.YteolfolkolpehaaDoorIv3
import Derived.Test.YteolfolkolpehaaDoorAp2
import Derived.Test.YteolfolkolpehaaDoorW5
namespace Go.Proofs.YteolfolkolpehaaDoor
open Go.ChangeShapes Go.WideShapes Go.ChangeAt Go.RowKit
set_option linter.unusedVariables false

def invA (tx : ByteArray) (xs : List Ed) : List Ed := if vld tx.size xs = 0 then invF tx 0 xs else []

theorem invA_len (tx : ByteArray) (xs : List Ed) : (invA tx xs).length ≤ xs.length := by
  unfold invA
  by_cases hv : vld tx.size xs = 0
  · rw [if_pos hv, inv_len]; exact Nat.le_refl _
  · rw [if_neg hv]; simp

set_option maxRecDepth 1000000 in
set_option maxHeartbeats 800000 in
theorem invert_all (tx : ByteArray) (a : Option Addr) (cap : Nat) (xs : List Ed) (w : World) (hx : tx.size ≤ 140737488351232) (h : EdsA w a xs) (hl : xs.length * 32 ≤ 140737488351232) (hF : ∀ e ∈ xs, EdFit e) (hB : tx.size + tots xs ≤ 1048576) :
    Calls Tryd.prog 22 #[.string tx, .slice a xs.length cap] w fun e w' => ∃ a' cap', e = .returned (.tuple #[.slice a' (invA tx xs).length cap', .int .i64 (vld tx.size xs)]) ∧ EdsA w' a' (invA tx xs) ∧ (a' = none → (invA tx xs).length = 0 ∧ cap' = 0) ∧ Below w.heap.size w w' := by
  have HL : Hid (xs.length ≤ maxLen) := by unfold Hid maxLen; omega
  by_cases hv : vld tx.size xs = 0
  · have hN : invA tx xs = invF tx 0 xs := by unfold invA; rw [if_pos hv]
    rw [hN, hv]
    rcases h with rfl | ⟨b, o, rfl, h⟩
    · obtain ⟨i0, hi, hz0, hz1, hz2⟩ := info_parts infoEd
      rw [List.length_nil]
      go_enter Tryd.func22, Tryd.ntmps22
      go_wp2_with fail
      refine (valid_all tx.size a cap [] _ (by omega) (by omega) (.inl rfl) HL.out).mono ?_
      rintro e w1 ⟨rfl, hb1⟩
      rw [show val62 (tx.size : Int) [] = 0 from by unfold val62; rw [if_pos (by omega)]; rfl]
      have hsz1 := hb1.size
      go_wp2_with (at_make; refine wpList_make_own _ rfl _ _ 22 rfl w.heap.size 45 i0 (.agg #[.int .i64 0, .int .i64 0, .string ⟨#[]⟩]) 3 Tryd.underlying22 hi hz0 hz1 _ _ _ 0 rfl rfl ?_ ?_ ?_ ?_ ?_)
      case refine_1 => rfl
      case refine_2 => omega
      case refine_3 => unfold maxLen; omega
      case refine_4 => exact hsz1
      intro w3 hown3 hgrow3
      have hb3 : Below w.heap.size w w3 := hb1.grown hgrow3 hsz1 (fun k h => by cases h)
      clear hgrow3 hown3
      go_wp2
      refine wp_loop_rounds 1 ?_
      rw [rounds_succ]
      go_wp2
      go_ret2
      exact ⟨_, _, rfl, .inl rfl, (fun h => by cases h), hb3⟩
    · refine (invert_any tx b o cap xs w hx h hl hF hv hB).mono ?_
      rintro e w' ⟨v, rfl, hown, hb⟩
      obtain ⟨a', cap', rfl, hE, _, hn⟩ := own_form hown
      exact ⟨a', cap', rfl, hE, hn, hb⟩
  · have hN : invA tx xs = [] := by unfold invA; rw [if_neg hv]
    rw [hN]
    have H : Hid (EdsA w a xs) := h
    have HV : Hid (val62 tx.size xs = vld tx.size xs) := by unfold Hid val62; rw [if_pos (by omega)]
    have HW : Hid ((vld tx.size xs != 0) = true) := by unfold Hid; simpa using hv
    clear h hv
    go_enter Tryd.func22, Tryd.ntmps22
    go_wp2_with fail
    refine (valid_all tx.size a cap xs _ (by omega) (by omega) H.out HL.out).mono ?_
    rintro e w1 ⟨rfl, hb1⟩
    rw [HV.out]
    have hne := HW.out
    go_wp2
    go_ret2
    exact ⟨none, 0, rfl, .inl rfl, by simp, hb1⟩

set_option maxHeartbeats 800000 in
theorem rinvert_all (tx : ByteArray) (a : Option Addr) (cap : Nat) (xs : List Ed) (w : World) (hx : tx.size ≤ 140737488351232) (h : EdsA w a xs) (hl : xs.length * 32 ≤ 140737488351232) (hcap : xs.length ≤ cap) (hF : ∀ e ∈ xs, EdFit e) (hB : tx.size + tots xs ≤ 1048576) :
    Calls Tryd.prog 21 #[.string tx, .slice a xs.length cap] w fun e w' => ∃ a' cap', e = .returned (.tuple #[.slice a' (invA tx xs).length cap', .int .i64 (vld tx.size xs)]) ∧ EdsA w' a' (invA tx xs) ∧ (a' = none → (invA tx xs).length = 0 ∧ cap' = 0) ∧ Below w.heap.size w w' := by
  have HL : Hid (xs.length ≤ maxLen) := by unfold Hid maxLen; omega
  by_cases hv : vld tx.size xs = 0
  · have hN : invA tx xs = invF tx 0 xs := by unfold invA; rw [if_pos hv]
    rw [hN, hv]
    rcases h with rfl | ⟨b, o, rfl, h⟩
    · rw [List.length_nil]
      go_enter Tryd.func21, Tryd.ntmps21
      go_wp2_with fail
      refine (rvalid_all tx.size a cap [] _ (by omega) (by omega) (.inl rfl) HL.out).mono ?_
      rintro e w1 ⟨rfl, hb1⟩
      rw [show vld (tx.size : Int) [] = 0 from rfl]
      go_wp2
      refine wp_loop_rounds 1 ?_
      rw [rounds_succ]
      go_wp2
      go_ret2
      exact ⟨none, 0, rfl, .inl rfl, fun _ => ⟨rfl, rfl⟩, hb1⟩
    · refine (rinvert_any tx b o cap xs w hx h hl hcap hF hv hB).mono ?_
      rintro e w' ⟨v, rfl, hown, hb⟩
      obtain ⟨a', cap', rfl, hE, _, hn⟩ := own_form hown
      exact ⟨a', cap', rfl, hE, hn, hb⟩
  · have hN : invA tx xs = [] := by unfold invA; rw [if_neg hv]
    rw [hN]
    have H : Hid (EdsA w a xs) := h
    have HW : Hid ((vld tx.size xs != 0) = true) := by unfold Hid; simpa using hv
    clear h hv
    go_enter Tryd.func21, Tryd.ntmps21
    go_wp2_with fail
    refine (rvalid_all tx.size a cap xs _ (by omega) (by omega) H.out HL.out).mono ?_
    rintro e w1 ⟨rfl, hb1⟩
    have hne := HW.out
    go_wp2
    go_ret2
    exact ⟨none, 0, rfl, .inl rfl, by simp, hb1⟩
end Go.Proofs.YteolfolkolpehaaDoor
