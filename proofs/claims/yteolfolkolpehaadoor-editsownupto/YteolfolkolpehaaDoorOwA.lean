import Derived.Test.YteolfolkolpehaaDoorInA
import Derived.Test.YteolfolkolpehaaDoorNmA
namespace Go.Proofs.YteolfolkolpehaaDoor
open Go.ChangeShapes Go.WideShapes Go.ChangeAt Go.RowKit
set_option linter.unusedVariables false

set_option maxRecDepth 1000000 in
set_option maxHeartbeats 800000 in
theorem invert_own (tx : ByteArray) (a : Option Addr) (cap : Nat) (xs : List Ed) (w : World) (hx : tx.size ≤ 140737488351232) (h : EdsA w a xs) (hl : xs.length * 32 ≤ 140737488351232) (hF : ∀ e ∈ xs, EdFit e) (hB : tx.size + tots xs ≤ 1048576) :
    Calls Tryd.prog 22 #[.string tx, .slice a xs.length cap] w fun e w' => ∃ v, e = .returned (.tuple #[v, .int .i64 (vld tx.size xs)]) ∧ w'.ownsRow w.heap.size 45 3 v (invA tx xs).length (flat (invA tx xs)) ∧ Below w.heap.size w w' := by
  have HL : Hid (xs.length ≤ maxLen) := by unfold Hid maxLen; omega
  by_cases hv : vld tx.size xs = 0
  · have hN : invA tx xs = invF tx 0 xs := by unfold invA; rw [if_pos hv]
    rw [hN, hv]
    rcases h with rfl | ⟨b, o, rfl, h⟩
    · obtain ⟨i0, hi, hz0, hz1, hz2⟩ := info_parts infoEd
      rw [List.length_nil]
      go_enter Tryd.func22, Tryd.ntmps22
      go_wp2_with fail
      refine (valid_all tx.size a cap [] _ (by omega) (by omega) (.inl rfl) HL.out).mono ?_
      rintro e w1 ⟨rfl, hb1⟩
      rw [show val62 (tx.size : Int) [] = 0 from by unfold val62; rw [if_pos (by omega)]; rfl]
      have hsz1 := hb1.size
      go_wp2_with (at_make; refine wpList_make_own _ rfl _ _ 22 rfl w.heap.size 45 i0 (.agg #[.int .i64 0, .int .i64 0, .string ⟨#[]⟩]) 3 Tryd.underlying22 hi hz0 hz1 _ _ _ 0 rfl rfl ?_ ?_ ?_ ?_ ?_)
      case refine_1 => rfl
      case refine_2 => omega
      case refine_3 => unfold maxLen; omega
      case refine_4 => exact hsz1
      intro w3 hown3 hgrow3
      have hb3 : Below w.heap.size w w3 := hb1.grown hgrow3 hsz1 (fun k h => by cases h)
      have HO3 : Hid (w3.ownsRow w.heap.size 45 3 (.slice (some ⟨w1.heap.size, 0, none⟩) 0 0) 0 []) := by first | exact hown3 | (simpa using hown3)
      clear hgrow3 hown3
      go_wp2
      refine wp_loop_rounds 1 ?_
      rw [rounds_succ]
      go_wp2
      go_ret2
      exact ⟨_, rfl, HO3.out, hb3⟩
    · refine (invert_any tx b o cap xs w hx h hl hF hv hB).mono ?_
      rintro e w' ⟨v, rfl, hown, hb⟩
      have hn := (own_form hown).choose_spec.choose_spec.2.2.1
      exact ⟨v, rfl, by rw [← hn]; exact hown, hb⟩
  · have hN : invA tx xs = [] := by unfold invA; rw [if_neg hv]
    rw [hN]
    have H : Hid (EdsA w a xs) := h
    have HV : Hid (val62 tx.size xs = vld tx.size xs) := by unfold Hid val62; rw [if_pos (by omega)]
    have HW : Hid ((vld tx.size xs != 0) = true) := by unfold Hid; simpa using hv
    clear h hv
    go_enter Tryd.func22, Tryd.ntmps22
    go_wp2_with fail
    refine (valid_all tx.size a cap xs _ (by omega) (by omega) H.out HL.out).mono ?_
    rintro e w1 ⟨rfl, hb1⟩
    rw [HV.out]
    have hne := HW.out
    go_wp2
    go_ret2
    exact ⟨_, rfl, World.ownsRow_nil _ _ _ _, hb1⟩

set_option maxHeartbeats 800000 in
theorem normal_own (tx : ByteArray) (a : Option Addr) (cap : Nat) (xs : List Ed) (w : World) (hx : tx.size ≤ 140737488351232) (h : EdsA w a xs) (hl : xs.length * 32 ≤ 140737488351232) (hF : ∀ e ∈ xs, EdFit e) :
    Calls Tryd.prog 24 #[.string tx, .slice a xs.length cap] w fun e w' => ∃ v, e = .returned (.tuple #[v, .int .i64 (vld tx.size xs)]) ∧ w'.ownsRow w.heap.size 45 3 v (nrmA tx xs).length (flat (nrmA tx xs)) ∧ Below w.heap.size w w' := by
  have HL : Hid (xs.length ≤ maxLen) := by unfold Hid maxLen; omega
  by_cases hv : vld tx.size xs = 0
  · have hN : nrmA tx xs = nrm tx xs := by unfold nrmA; rw [if_pos hv]
    rw [hN, hv]
    rcases h with rfl | ⟨b, o, rfl, h⟩
    · rw [List.length_nil]
      go_enter Tryd.func24, Tryd.ntmps24
      go_wp2_with (first | (go_at_call 33; refine (valid_all tx.size a cap [] _ (by omega) (by omega) (.inl rfl) HL.out).mono ?_; rintro e w1 ⟨rfl, hb1⟩; rw [show val62 (tx.size : Int) [] = 0 from by unfold val62; rw [if_pos (by omega)]; rfl]) | go_in)
      refine wp_loop_rounds 1 ?_
      rw [rounds_succ]
      go_wp2
      go_ret2
      exact ⟨_, rfl, World.ownsRow_nil _ _ _ _, hb1⟩
    · refine (normal_any tx b o cap xs w hx h hl hF hv).mono ?_
      rintro e w' ⟨v, rfl, hown, hb⟩
      have hn := (own_form hown).choose_spec.choose_spec.2.2.1
      exact ⟨v, rfl, by rw [← hn]; exact hown, hb⟩
  · have hN : nrmA tx xs = [] := by unfold nrmA; rw [if_neg hv]
    rw [hN]
    have H : Hid (EdsA w a xs) := h
    have HV : Hid (val62 tx.size xs = vld tx.size xs) := by unfold Hid val62; rw [if_pos (by omega)]
    have HW : Hid ((vld tx.size xs != 0) = true) := by unfold Hid; simpa using hv
    clear h hv
    go_enter Tryd.func24, Tryd.ntmps24
    go_wp2_with (first | (go_at_call 33; refine (valid_all tx.size a cap xs _ (by omega) (by omega) H.out HL.out).mono ?_; rintro e w1 ⟨rfl, hb1⟩; rw [HV.out]; have hne := HW.out) | go_in)
    go_ret2
    exact ⟨_, rfl, World.ownsRow_nil _ _ _ _, hb1⟩
end Go.Proofs.YteolfolkolpehaaDoor
