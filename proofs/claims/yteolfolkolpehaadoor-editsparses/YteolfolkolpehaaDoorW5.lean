import Derived.Test.YteolfolkolpehaaDoorW3
import Derived.Test.YteolfolkolpehaaDoorW4
namespace Go.Proofs.YteolfolkolpehaaDoor
open Go.ChangeShapes Go.WideShapes Go.ChangeAt Go.RowKit
set_option linter.unusedVariables false

theorem mark_cells {w : World} {g : Nat} {xs : List Ed} (h : Eds w g 0 (xs ++ marks)) :
    (w.cell? ⟨g, xs.length * 3, none⟩ = some (.int .i64 (-9)) ∧ w.cell? ⟨g, xs.length * 3 + 1, none⟩ = some (.int .i64 0) ∧ w.cell? ⟨g, xs.length * 3 + 2, none⟩ = some (.string ⟨#[114, 111, 111, 109]⟩)) ∧
    (w.cell? ⟨g, (xs.length + 1) * 3, none⟩ = some (.int .i64 (-8)) ∧ w.cell? ⟨g, (xs.length + 1) * 3 + 1, none⟩ = some (.int .i64 0) ∧ w.cell? ⟨g, (xs.length + 1) * 3 + 2, none⟩ = some (.string ⟨#[]⟩)) ∧
    (w.cell? ⟨g, (xs.length + 2) * 3, none⟩ = some (.int .i64 0) ∧ w.cell? ⟨g, (xs.length + 2) * 3 + 1, none⟩ = some (.int .i64 (-7)) ∧ w.cell? ⟨g, (xs.length + 2) * 3 + 2, none⟩ = some (.string ⟨#[]⟩)) := by
  have h0 := h.2 xs.length _ (by rw [List.getElem?_append_right (Nat.le_refl _), Nat.sub_self]; rfl)
  have h1 := h.2 (xs.length + 1) _ (by rw [List.getElem?_append_right (by omega), show xs.length + 1 - xs.length = 1 by omega]; rfl)
  have h2 := h.2 (xs.length + 2) _ (by rw [List.getElem?_append_right (by omega), show xs.length + 2 - xs.length = 2 by omega]; rfl)
  simp only [Nat.zero_add] at h0 h1 h2
  exact ⟨h0, h1, h2⟩

set_option maxHeartbeats 400000 in
theorem kept_any (g : Nat) (a : Option Addr) (cap : Nat) (xs : List Ed) (w : World) (hc : Eds w g 0 (xs ++ marks)) (h : EdsA w a xs) (hl : xs.length * 32 ≤ 140737488351232) :
    Calls Tryd.prog 13 #[.slice (some ⟨g, 0, none⟩) xs.length (xs.length + 3), .slice a xs.length cap] w fun e w' => e = .returned (.bool true) ∧ Below w.heap.size w w' := by
  have hg := hc.1
  have HC : Hid (Eds w g 0 (xs ++ marks)) := hc
  have H : Hid (EdsA w a xs) := h
  clear hc h
  go_enter Tryd.func13, Tryd.ntmps13
  go_wp2_with fail
  refine (same_any _ a _ cap xs _ (.inr ⟨g, 0, rfl, HC.out.pre⟩) H.out (by unfold maxLen; omega)).mono ?_
  rintro e w' ⟨rfl, hbel⟩
  obtain ⟨⟨a0, a1, a2⟩, ⟨b0, b1, b2⟩, ⟨c0, c1, c2⟩⟩ := mark_cells (HC.out.below hbel hg)
  go_wp2
  go_ret
  exact ⟨rfl, hbel⟩
end Go.Proofs.YteolfolkolpehaaDoor
