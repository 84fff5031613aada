import Derived.Test.YtlobegndphgeeaaDoorSh1
namespace Go.Proofs.YtlobegndphgeeaaDoor
open Go.ChangeShapes Go.WideShapes Go.ChangeAt Go.RowKit
set_option linter.unusedVariables false

theorem sh_empty (at_ : Int) (ha0 : -9223372036854775808 ≤ at_) (ha1 : at_ ≤ 9223372036854775807) : shN [] at_ = (if 0 ≤ at_ ∧ at_ ≤ 4611686018427387904 then at_ else 0) ∧ shB [] at_ = decide (0 ≤ at_ ∧ at_ ≤ 4611686018427387904) := by
  have hv : vld 4611686018427387904 [] = 0 := rfl
  by_cases h : 0 ≤ at_ ∧ at_ ≤ 4611686018427387904
  · have h3 : 0 ≤ at_ ∧ at_ ≤ 4611686018427387904 ∧ vld 4611686018427387904 [] = 0 := ⟨h.1, h.2, hv⟩
    obtain ⟨e1, e2⟩ := sh_end (xs := []) (m := 0) (k := 0) h3 rfl (by simp)
    rw [e1, e2, if_pos h, Int.add_zero, IntWalk.wrap64_in _ ⟨ha0, ha1⟩]
    simp [h]
  · obtain ⟨e1, e2⟩ := sh_no (xs := []) (at_ := at_) (fun g => h ⟨g.1, g.2.1⟩)
    rw [e1, e2, if_neg h]
    simp [h]

set_option maxHeartbeats 800000 in
theorem shift_all (a : Option Addr) (cap : Nat) (xs : List Ed) (at_ : Int) (w : World) (ha0 : -9223372036854775808 ≤ at_) (ha1 : at_ ≤ 9223372036854775807) (h : EdsA w a xs) (hl : xs.length ≤ maxLen) (hF : ∀ e ∈ xs, EdFit e) :
    Calls Tryd.prog 19 #[.slice a xs.length cap, .int .i64 at_] w fun e w' => e = .returned (.tuple #[.int .i64 (shN xs at_), .bool (shB xs at_)]) ∧ Below w.heap.size w w' := by
  rcases h with rfl | ⟨b, o, rfl, h⟩
  · rw [List.length_nil]
    have HE : Hid (shN [] at_ = (if 0 ≤ at_ ∧ at_ ≤ 4611686018427387904 then at_ else 0) ∧ shB [] at_ = decide (0 ≤ at_ ∧ at_ ≤ 4611686018427387904)) := sh_empty at_ ha0 ha1
    by_cases h0 : 0 ≤ at_
    · by_cases h1 : at_ ≤ 4611686018427387904
      · go_enter Tryd.func19, Tryd.ntmps19
        go_wp2_with (first | (go_at_call 33; refine (valid_all 4611686018427387904 a cap [] _ (by omega) (by omega) (.inl rfl) (by decide)).mono ?_; rintro e w1 ⟨rfl, hb1⟩; rw [show val62 4611686018427387904 [] = 0 from rfl]) | go_in)
        refine wp_loop_rounds 1 ?_
        rw [rounds_succ]
        go_wp2
        go_ret2
        exact ⟨ret_ib ⟨by rw [HE.out.1, if_pos ⟨h0, h1⟩], by rw [HE.out.2]; simp [h0, h1]⟩, hb1⟩
      · go_enter Tryd.func19, Tryd.ntmps19
        go_wp2
        go_ret2
        exact ⟨ret_ib ⟨by rw [HE.out.1, if_neg (by omega)], by rw [HE.out.2]; simp; omega⟩, Below.refl _ _⟩
    · go_enter Tryd.func19, Tryd.ntmps19
      go_wp2
      go_ret2
      exact ⟨ret_ib ⟨by rw [HE.out.1, if_neg (by omega)], by rw [HE.out.2]; simp; omega⟩, Below.refl _ _⟩
  · exact shift_any b o cap xs at_ w ha0 ha1 h hl hF

end Go.Proofs.YtlobegndphgeeaaDoor
