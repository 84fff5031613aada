import Derived.Test.YtclpodmgpfdleaaKeptW
namespace Go.Proofs.Ytclpodmgpfdleaa
open Go.ChangeShapes Go.WideShapes Go.ChangeAt Go.RowKit
set_option linter.unusedVariables false

set_option maxRecDepth 1000000 in
set_option maxHeartbeats 2000000 in
theorem kept_nil (tx : ByteArray) (a : Option Addr) (cap : Nat) (w : World) (hx : tx.size ≤ 1048576) :
    Calls Try.prog 3 #[.string tx, .slice a 0 cap] w fun e w' => e = .returned (.bool true) ∧ Below w.heap.size w w' := by
  have HS : Hid (appB tx [] = tx) := by
    unfold Hid appB; rw [if_pos (by rfl)]; apply bytes_ext; simp [appF]
  go_enter Try.func3, Try.ntmps3
  go_wp2_with fail
  refine (apply_all tx a cap [] _ (by omega) (.inl rfl) (by decide) (by simp) (by simp [tots]; omega)).mono ?_
  rintro e w1 ⟨rfl, hb1⟩
  rw [HS.out, show vld (tx.size : Int) [] = 0 from rfl]
  go_wp2
  go_loopg [7, 8, 9] (tx.size + 1) (fun gk sl si sa wr => ∃ p last : Nat, gk = tx.size + 1 - p ∧ p ≤ tx.size + 1 ∧ sa = .int .i64 p ∧ si = .int .i64 0 ∧ sl = .int .i64 last ∧ last ≤ p ∧ (p = tx.size + 1 → last = tx.size) ∧ Below w.heap.size w wr)
  case atStart => exact ⟨0, 0, rfl, Nat.zero_le _, rfl, rfl, rfl, Nat.le_refl _, fun h => by omega, hb1⟩
  case round =>
    clear hb1
    obtain ⟨p, last, rfl, hp, rfl, rfl, rfl, hlast, hend, hbel⟩ := hrel
    have hsz := hbel.size
    have HEND : Hid (p = tx.size + 1 → last = tx.size) := hend
    clear hend
    by_cases hlt : p ≤ tx.size
    · have hlt' : (p : Int) ≤ (tx.size : Int) := by omega
      obtain ⟨hn1, hn2⟩ := sh_empty (p : Int) (by omega) (by omega)
      rw [if_pos (by omega)] at hn1
      have HN1 : Hid (shN [] (p : Int) = p) := hn1
      have HN2 : Hid (shB [] (p : Int) = true) := by unfold Hid; rw [hn2]; simp; omega
      clear hn1 hn2
      go_wp2
      refine wp_loop_rounds 1 ?_
      rw [rounds_succ]
      go_wp2_with fail
      refine (shift_all a cap [] p _ (by omega) (by omega) (.inl rfl) (by decide) (by simp)).mono ?_
      rintro e' w2 ⟨rfl, hb2⟩
      rw [HN1.out, HN2.out]
      have HBL : Hid (Below w.heap.size w w2) := hbel.trans (hb2.mono hsz)
      clear hb2
      have hcase : (((p : Int) == (tx.size : Int)) = true) ∨ (((p : Int) == (tx.size : Int)) = false ∧ p < tx.size) := by
        by_cases g1 : p = tx.size
        · exact .inl (by simp; omega)
        · exact .inr ⟨by simp; omega, by omega⟩
      rcases hcase with g1 | ⟨g1, g2⟩
      all_goals
        go_wp2
        go_quiet (fail)
        go_wp2
        go_roundg (tx.size + 1 - (p + 1))
        case measure => omega
        case rel => exact ⟨p + 1, p, rfl, by omega, by go_num, rfl, rfl, by omega, fun h => by omega, below_drewN HBL.out _⟩
    · have hl2 : last = tx.size := HEND.out (by omega)
      have heq : ((last : Int) == (tx.size : Int)) = true := by simp; omega
      have hgt : (tx.size : Int) < (p : Int) := by omega
      clear hl2
      go_wp2
      go_ret
      exact ⟨rfl, hbel⟩

set_option maxHeartbeats 800000 in
theorem editsKept_walk (tx : ByteArray) (a : Option Addr) (cap : Nat) (xs : List Ed) (w : World) (hx : tx.size ≤ 140737488351232) (h : EdsA w a xs) (hF : ∀ e ∈ xs, EdFit e) (hn : a = none → xs.length = 0 ∧ cap = 0) (hl : xs.length * 32 ≤ 140737488351232) (hB : tx.size + (4 * xs.length + tot xs) ≤ 1048576) :
    Calls Try.prog 3 #[.string tx, .slice a xs.length cap] w fun e w' => e = .returned (.bool true) ∧ Below w.heap.size w w' := by
  have hB2 : tx.size + tots xs ≤ 1048576 := by rw [tots_tot]; omega
  by_cases hv : vld tx.size xs = 0
  · rcases h with rfl | ⟨b, o, rfl, h⟩
    · exact kept_nil tx a cap w (by omega)
    · exact kept_some tx b o cap xs w hx h hF hl hB2 hv
  · have HW : Hid ((vld tx.size xs != 0) = true) := by unfold Hid; simpa using hv
    have H : Hid (EdsA w a xs) := h
    have HF : Hid (∀ e ∈ xs, EdFit e) := hF
    have HL : Hid (xs.length ≤ maxLen) := by unfold Hid maxLen; omega
    clear h hF hv hn
    go_enter Try.func3, Try.ntmps3
    go_wp2_with fail
    refine (apply_all tx a cap xs _ hx H.out HL.out HF.out (by omega)).mono ?_
    rintro e w1 ⟨rfl, hb1⟩
    have hne := HW.out
    go_wp2
    go_ret
    exact ⟨rfl, hb1⟩
end Go.Proofs.Ytclpodmgpfdleaa
