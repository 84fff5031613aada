import Derived.Test.YtclpodmgpfdleaaSh1
import Derived.Test.YtclpodmgpfdleaaSh2
namespace Go.Proofs.Ytclpodmgpfdleaa
open Go.ChangeShapes Go.WideShapes Go.ChangeAt Go.RowKit
set_option linter.unusedVariables false

theorem sh_empty (at_ : Int) (ha0 : -9223372036854775808 ≤ at_) (ha1 : at_ ≤ 9223372036854775807) : shN [] at_ = (if 0 ≤ at_ ∧ at_ ≤ 4611686018427387904 then at_ else 0) ∧ shB [] at_ = decide (0 ≤ at_ ∧ at_ ≤ 4611686018427387904) := by
  have hv : vld 4611686018427387904 [] = 0 := rfl
  by_cases h : 0 ≤ at_ ∧ at_ ≤ 4611686018427387904
  · have h3 : 0 ≤ at_ ∧ at_ ≤ 4611686018427387904 ∧ vld 4611686018427387904 [] = 0 := ⟨h.1, h.2, hv⟩
    obtain ⟨e1, e2⟩ := sh_end (xs := []) (m := 0) (k := 0) h3 rfl (by simp)
    rw [e1, e2, if_pos h, Int.add_zero, IntWalk.wrap64_in _ ⟨ha0, ha1⟩]
    simp [h]
  · obtain ⟨e1, e2⟩ := sh_no (xs := []) (at_ := at_) (fun g => h ⟨g.1, g.2.1⟩)
    rw [e1, e2, if_neg h]
    simp [h]

set_option maxHeartbeats 800000 in
theorem shift_all (a : Option Addr) (cap : Nat) (xs : List Ed) (at_ : Int) (w : World) (ha0 : -9223372036854775808 ≤ at_) (ha1 : at_ ≤ 9223372036854775807) (h : EdsA w a xs) (hl : xs.length ≤ maxLen) (hF : ∀ e ∈ xs, EdFit e) :
    Calls Try.prog 9 #[.slice a xs.length cap, .int .i64 at_] w fun e w' => e = .returned (.tuple #[.int .i64 (shN xs at_), .bool (shB xs at_)]) ∧ Below w.heap.size w w' := by
  rcases h with rfl | ⟨b, o, rfl, h⟩
  · rw [List.length_nil]
    have HE : Hid (shN [] at_ = (if 0 ≤ at_ ∧ at_ ≤ 4611686018427387904 then at_ else 0) ∧ shB [] at_ = decide (0 ≤ at_ ∧ at_ ≤ 4611686018427387904)) := sh_empty at_ ha0 ha1
    by_cases h0 : 0 ≤ at_
    · by_cases h1 : at_ ≤ 4611686018427387904
      · go_enter Try.func9, Try.ntmps9
        go_wp2_with (first | (go_at_call 11; refine (valid_all 4611686018427387904 a cap [] _ (by omega) (by omega) (.inl rfl) (by decide)).mono ?_; rintro e w1 ⟨rfl, hb1⟩; rw [show val62 4611686018427387904 [] = 0 from rfl]) | go_in)
        refine wp_loop_rounds 1 ?_
        rw [rounds_succ]
        go_wp2
        go_ret2
        exact ⟨ret_ib ⟨by rw [HE.out.1, if_pos ⟨h0, h1⟩], by rw [HE.out.2]; simp [h0, h1]⟩, hb1⟩
      · go_enter Try.func9, Try.ntmps9
        go_wp2
        go_ret2
        exact ⟨ret_ib ⟨by rw [HE.out.1, if_neg (by omega)], by rw [HE.out.2]; simp; omega⟩, Below.refl _ _⟩
    · go_enter Try.func9, Try.ntmps9
      go_wp2
      go_ret2
      exact ⟨ret_ib ⟨by rw [HE.out.1, if_neg (by omega)], by rw [HE.out.2]; simp; omega⟩, Below.refl _ _⟩
  · exact shift_any b o cap xs at_ w ha0 ha1 h hl hF

set_option maxHeartbeats 800000 in
theorem rshift_all (a : Option Addr) (cap : Nat) (xs : List Ed) (at_ : Int) (w : World) (ha0 : -9223372036854775808 ≤ at_) (ha1 : at_ ≤ 9223372036854775807) (h : EdsA w a xs) (hl : xs.length ≤ maxLen) (hF : ∀ e ∈ xs, EdFit e) :
    Calls Try.prog 17 #[.slice a xs.length cap, .int .i64 at_] w fun e w' => e = .returned (.tuple #[.int .i64 (shN xs at_), .bool (shB xs at_)]) ∧ Below w.heap.size w w' := by
  rcases h with rfl | ⟨b, o, rfl, h⟩
  · rw [List.length_nil]
    have HE : Hid (shN [] at_ = (if 0 ≤ at_ ∧ at_ ≤ 4611686018427387904 then at_ else 0) ∧ shB [] at_ = decide (0 ≤ at_ ∧ at_ ≤ 4611686018427387904)) := sh_empty at_ ha0 ha1
    by_cases h0 : 0 ≤ at_
    · by_cases h1 : at_ ≤ 4611686018427387904
      · go_enter Try.func17, Try.ntmps17
        go_wp2_with (first | (go_at_call 22; refine (rvalid_all 4611686018427387904 a cap [] _ (by omega) (by omega) (.inl rfl) (by decide)).mono ?_; rintro e w1 ⟨rfl, hb1⟩; rw [show vld 4611686018427387904 [] = 0 from rfl]) | go_in)
        refine wp_loop_rounds 1 ?_
        rw [rounds_succ]
        go_wp2
        go_ret2
        exact ⟨ret_ib ⟨by rw [HE.out.1, if_pos ⟨h0, h1⟩], by rw [HE.out.2]; simp [h0, h1]⟩, hb1⟩
      · go_enter Try.func17, Try.ntmps17
        go_wp2
        go_ret2
        exact ⟨ret_ib ⟨by rw [HE.out.1, if_neg (by omega)], by rw [HE.out.2]; simp; omega⟩, Below.refl _ _⟩
    · go_enter Try.func17, Try.ntmps17
      go_wp2
      go_ret2
      exact ⟨ret_ib ⟨by rw [HE.out.1, if_neg (by omega)], by rw [HE.out.2]; simp; omega⟩, Below.refl _ _⟩
  · exact rshift_any b o cap xs at_ w ha0 ha1 h hl hF

set_option maxHeartbeats 800000 in
theorem editsShifts_walk (a : Option Addr) (cap : Nat) (xs : List Ed) (at_ : Int) (w : World) (h : EdsA w a xs) (hF : ∀ e ∈ xs, EdFit e) (hn : a = none → xs.length = 0 ∧ cap = 0) (hl : xs.length * 32 ≤ 140737488351232) (ha0 : -9223372036854775808 ≤ at_) (ha1 : at_ ≤ 9223372036854775807) :
    Calls Try.prog 7 #[.slice a xs.length cap, .int .i64 at_] w fun e w' => e = .returned (.bool true) ∧ Below w.heap.size w w' := by
  have H : Hid (EdsA w a xs) := h
  have HN : Hid (a = none → xs.length = 0 ∧ cap = 0) := hn
  have HF : Hid (∀ e ∈ xs, EdFit e) := hF
  clear h hn hF
  have HL : Hid (xs.length ≤ maxLen) := by unfold Hid maxLen; omega
  go_enter Try.func7, Try.ntmps7
  go_wp2_with fail
  refine (lent_any a cap xs _ H.out HN.out hl).mono ?_
  rintro e w1 ⟨rfl, hb1, hown⟩
  have hc : Hid (Eds w1 w.heap.size 0 (xs ++ marks)) := Eds.own hown
  clear hown
  go_wp2_with fail
  refine (shift_all _ _ xs at_ _ ha0 ha1 (.inr ⟨_, _, rfl, hc.out.pre⟩) HL.out HF.out).mono ?_
  rintro e w2 ⟨rfl, hb2⟩
  go_wp2_with fail
  refine (rshift_all a cap xs at_ _ ha0 ha1 ((H.out.below hb1).below hb2) HL.out HF.out).mono ?_
  rintro e w3 ⟨rfl, hb3⟩
  have heq : (shN xs at_ == shN xs at_) = true := by simp
  have heq2 : (shB xs at_ == shB xs at_) = true := by simp
  go_wp2_with fail
  refine (kept_any w.heap.size a cap xs _ ((hc.out.below hb2 hc.out.1).below hb3 (Nat.lt_of_lt_of_le hc.out.1 hb2.size)) (((H.out.below hb1).below hb2).below hb3) hl).mono ?_
  rintro e w4 ⟨rfl, hb4⟩
  go_wp2
  go_ret
  exact ⟨rfl, ((hb1.trans (hb2.mono hb1.size)).trans (hb3.mono (Nat.le_trans hb1.size hb2.size))).trans (hb4.mono (Nat.le_trans hb1.size (Nat.le_trans hb2.size hb3.size)))⟩
end Go.Proofs.Ytclpodmgpfdleaa
