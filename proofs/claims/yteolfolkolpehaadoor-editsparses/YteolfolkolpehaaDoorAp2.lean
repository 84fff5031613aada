import Derived.Test.YteolfolkolpehaaDoorAp1
import Derived.Test.YteolfolkolpehaaDoorOpen
namespace Go.Proofs.YteolfolkolpehaaDoor
open Go.ChangeShapes Go.WideShapes Go.ChangeAt Go.RowKit
set_option linter.unusedVariables false

theorem tots_tot (xs : List Ed) : tots xs = tot xs := by
  induction xs with
  | nil => rfl
  | cons e r ih => rw [tots, tot, ih]

def appB (tx : ByteArray) (xs : List Ed) : ByteArray := if vld tx.size xs = 0 then ⟨(appF tx.data.toList 0 xs).toArray⟩ else ⟨#[]⟩

theorem infoU8b : (Tryd.prog.info? 5).map (fun i => (i.zero, i.size, i.bytes)) = some (some (.int .u8 0), 1, 1) := by kernel_rfl

set_option maxHeartbeats 400000 in
theorem growth_nil (a : Option Addr) (cap : Nat) (w : World) :
    Calls Tryd.prog 34 #[.slice a 0 cap] w fun e w' => e = .returned (.int .i64 0) ∧ w = w' := by
  go_enter Tryd.func34, Tryd.ntmps34
  go_wp2
  refine wp_loop_rounds 1 ?_
  rw [rounds_succ]
  go_wp2
  go_ret
  exact ⟨rfl, rfl⟩

set_option maxRecDepth 1000000 in
set_option maxHeartbeats 2000000 in
theorem apply_all (tx : ByteArray) (a : Option Addr) (cap : Nat) (xs : List Ed) (w : World) (hx : tx.size ≤ 140737488351232) (h : EdsA w a xs) (hl : xs.length ≤ maxLen) (hF : ∀ e ∈ xs, EdFit e) (hB : tx.size + tots xs ≤ 70368744177664) :
    Calls Tryd.prog 15 #[.string tx, .slice a xs.length cap] w fun e w' => e = .returned (.tuple #[.string (appB tx xs), .int .i64 (vld tx.size xs)]) ∧ Below w.heap.size w w' := by
  have HL : Hid (xs.length ≤ maxLen) := hl
  by_cases hv : vld tx.size xs = 0
  · have hA : appB tx xs = ⟨(appF tx.data.toList 0 xs).toArray⟩ := by unfold appB; rw [if_pos hv]
    rw [hA, hv]
    rcases h with rfl | ⟨b, o, rfl, h⟩
    · obtain ⟨i0, hi, hz0, hz1, hz2⟩ := info_parts infoU8b
      rw [List.length_nil]
      have htx : (⟨(appF tx.data.toList 0 []).toArray⟩ : ByteArray) = tx := by apply bytes_ext; simp [appF]
      rw [htx]
      have hN : tx.size ≤ 70368744177664 := by omega
      clear hA hF hB hv htx
      go_enter Tryd.func15, Tryd.ntmps15
      go_wp2_with fail
      refine (valid_all tx.size a cap [] _ (by omega) (by omega) (.inl rfl) HL.out).mono ?_
      rintro e w1 ⟨rfl, hb1⟩
      rw [show val62 (tx.size : Int) [] = 0 from by unfold val62; rw [if_pos (by omega)]; rfl]
      have hsz1 := hb1.size
      go_wp2_with fail
      refine (growth_nil a cap _).mono ?_
      rintro e w2 ⟨rfl, rfl⟩
      go_wp2_with (at_make; refine wpList_make_own _ rfl _ _ 59 rfl w.heap.size 5 i0 (.int .u8 0) 1 Tryd.underlying59 hi hz0 hz1 _ _ _ tx.size rfl rfl ?_ ?_ ?_ ?_ ?_)
      case refine_1 => omega
      case refine_2 => rw [hz2]; omega
      case refine_3 => unfold maxLen; omega
      case refine_4 => exact hsz1
      intro w3 hown3 hgrow3
      have hb3 : Below w.heap.size w w3 := hb1.grown hgrow3 hsz1 (fun k h => by cases h)
      have HO : Hid (w3.ownsRow w.heap.size 5 1 (.slice (some ⟨w1.heap.size, 0, none⟩) 0 tx.size) 0 []) := hown3
      have HB3 : Hid (Below w.heap.size w w3) := hb3
      have hsz3 := hb3.size
      clear hgrow3 hown3 hb3
      go_wp2
      refine wp_loop_rounds 1 ?_
      rw [rounds_succ]
      go_wp2_with (at_builtin; (refine Lib.wpList_append_own_string _ rfl (.tmp 44) (.tmp 47) 59 9 rfl w.heap.size 5 i0 Tryd.underlying59 Tryd.underlying9 hi hz0 hz1 hz2 _ _ _ rfl HO.out tx rfl ?_ ?_ ?_ ?_))
      case refine_1 => unfold maxLen; omega
      case refine_2 => omega
      case refine_3 => omega
      intro v4 w4 hown4 hgrow4 _
      have hbel4 : Below w.heap.size w w4 := HB3.out.grown hgrow4 hsz3 (fun k h => by cases h; exact hsz1)
      have hconv : (convert 59 9 v4).run Tryd.prog w4 = .ok (.string tx) w4 := by
        rw [bc_str] at hown4
        have := own_string_any hown4
        simpa using this
      clear hown4 hgrow4
      go_wp2
      go_ret2
      exact ⟨rfl, hbel4⟩
    · exact apply_any tx b o cap xs w hx h hl hF hv hB
  · have hA : appB tx xs = ⟨#[]⟩ := by unfold appB; rw [if_neg hv]
    have H : Hid (EdsA w a xs) := h
    have HV : Hid (val62 tx.size xs = vld tx.size xs) := by unfold Hid val62; rw [if_pos (by omega)]
    have HW : Hid ((vld tx.size xs != 0) = true) := by unfold Hid; simpa using hv
    rw [hA]
    clear h hv hA
    go_enter Tryd.func15, Tryd.ntmps15
    go_wp2_with fail
    refine (valid_all tx.size a cap xs _ (by omega) (by omega) H.out HL.out).mono ?_
    rintro e w1 ⟨rfl, hb1⟩
    rw [HV.out]
    have hne := HW.out
    go_wp2
    go_ret2
    exact ⟨rfl, hb1⟩
end Go.Proofs.YteolfolkolpehaaDoor
