import Derived.Test.YtlobegndphgeeaaDoorSh
namespace Go.Proofs.YtlobegndphgeeaaDoor
open Go.ChangeShapes Go.WideShapes Go.ChangeAt Go.RowKit
set_option linter.unusedVariables false

set_option maxHeartbeats 800000 in
theorem rshift_any (b o cap : Nat) (xs : List Ed) (at_ : Int) (w : World) (ha0 : -9223372036854775808 ≤ at_) (ha1 : at_ ≤ 9223372036854775807) (h : Eds w b o xs) (hl : xs.length ≤ maxLen) (hF : ∀ e ∈ xs, EdFit e) :
    Calls Tryd.prog 20 #[.slice (some ⟨b, o, none⟩) xs.length cap, .int .i64 at_] w fun e w' => e = .returned (.tuple #[.int .i64 (shN xs at_), .bool (shB xs at_)]) ∧ Below w.heap.size w w' := by
  have HX : Hid (Eds w b o xs) := h
  have HL : Hid (xs.length ≤ maxLen) := hl
  have HF : Hid (∀ e ∈ xs, EdFit e) := hF
  have hbw : b < w.heap.size := h.1
  clear h hl hF
  by_cases h0 : 0 ≤ at_ ∧ at_ ≤ 4611686018427387904
  · obtain ⟨h0, h1⟩ := h0
    by_cases hv : vld 4611686018427387904 xs = 0
    · have HV : Hid (vld 4611686018427387904 xs = 0) := hv
      have HG : Hid (0 ≤ at_ ∧ at_ ≤ 4611686018427387904 ∧ vld 4611686018427387904 xs = 0) := ⟨h0, h1, hv⟩
      have HK : Hid (∀ e ∈ xs, 0 ≤ e.f ∧ e.f ≤ e.t ∧ e.t ≤ 4611686018427387904) := chk_ok (vld_chk hv).1
      have hlen := (vld_chk hv).2
      clear hv
      go_enter Tryd.func20, Tryd.ntmps20
      go_wp2_with (first | (go_at_call 35; refine (rvalid_all 4611686018427387904 _ cap xs _ (by omega) (by omega) (.inr ⟨b, o, rfl, HX.out⟩) HL.out).mono ?_; rintro e w1 ⟨rfl, hb1⟩; rw [HV.out]) | go_in)
      go_loopw [6, 7] (fun mv i wr => ∃ k : Nat, k ≤ xs.length ∧ i = .int .i64 k ∧ Below w.heap.size w wr ∧ ∃ m : Int, mv = .int .i64 (wrap64 (at_ + m)) ∧ shS at_ 0 xs = shS at_ m (xs.drop k)) (fun _ i _ => xs.length - (intOf i).toNat)
      case atStart => exact ⟨0, Nat.zero_le _, rfl, hb1, 0, by rw [Int.add_zero, IntWalk.wrap64_in _ ⟨ha0, ha1⟩], by simp⟩
      case round =>
        obtain ⟨k, hk, rfl, hbel, m, rfl, hc⟩ := hrel
        have HC : Hid (shS at_ 0 xs = shS at_ m (xs.drop k)) := hc
        have hsz := hbel.size
        clear hc
        by_cases hlt : k < xs.length
        · obtain ⟨e, he⟩ : ∃ e, xs[k]? = some e := ⟨_, List.getElem?_eq_getElem hlt⟩
          obtain ⟨c0, c1, c2⟩ := HX.out.cells hbel he
          have hmem : e ∈ xs := List.mem_of_getElem? he
          obtain ⟨q1, q2, q3⟩ := HK.out e hmem
          have q4 := (HF.out e hmem).2.2.2.2
          have HE : Hid (xs[k]? = some e) := he
          have hlt' : (k : Int) < (xs.length : Int) := by omega
          have hw1 : IntKind.i64.wrap (e.t - e.f) = e.t - e.f := IntWalk.i64_in _ ⟨by omega, by omega⟩
          have hw2 : IntKind.i64.wrap ((e.s.size : Int) - (e.t - e.f)) = (e.s.size : Int) - (e.t - e.f) := IntWalk.i64_in _ ⟨by omega, by omega⟩
          clear he hmem
          by_cases hin : e.f < at_ ∧ at_ < e.t
          · have HV2 : Hid (shN xs at_ = 0 ∧ shB xs at_ = false) := sh_none HG.out HC.out HE.out hin
            obtain ⟨i1, i2⟩ := hin
            go_wp2
            go_ret2
            exact ⟨ret_ib ⟨HV2.out.1.symm, HV2.out.2.symm⟩, by (repeat (with_reducible refine below_drewN ?_ _)); go_grown⟩
          · have hst := sh_step HC.out HE.out hin
            by_cases hle : e.t ≤ at_
            · rw [if_pos hle] at hst
              have HS : Hid (shS at_ 0 xs = shS at_ (m + ((e.s.size : Int) - (e.t - e.f))) (xs.drop (k + 1))) := hst
              clear hst hin
              go_wp2
              all_goals
                go_quiet (fail)
                go_wp2
                go_roundw
                case rel => exact ⟨k + 1, by omega, by go_num, by (repeat (with_reducible refine below_drewN ?_ _)); go_grown, m + ((e.s.size : Int) - (e.t - e.f)), by rw [← Int.add_assoc]; first | rw [← wrap64_left (at_ + m)] | rw [← IntWalk.i64_left], HS.out⟩
                case measure => simp [intOf]; omega
            · rw [if_neg hle] at hst
              have HS : Hid (shS at_ 0 xs = shS at_ m (xs.drop (k + 1))) := hst
              have hfa : at_ ≤ e.f := by omega
              clear hst hin
              go_wp2
              go_roundw
              case rel => exact ⟨k + 1, by omega, by go_num, by (repeat (with_reducible refine below_drewN ?_ _)); go_grown, m, rfl, HS.out⟩
              case measure => simp [intOf]; omega
        · go_wp2
          go_ret2
          exact ⟨ret_ib ⟨(sh_end HG.out HC.out hlt).1.symm, (sh_end HG.out HC.out hlt).2.symm⟩, by (repeat (with_reducible refine below_drewN ?_ _)); go_grown⟩
    · have HV : Hid ((vld 4611686018427387904 xs != 0) = true) := by unfold Hid; simpa using hv
      have HG : Hid (shN xs at_ = 0 ∧ shB xs at_ = false) := sh_no (by omega)
      clear hv
      go_enter Tryd.func20, Tryd.ntmps20
      go_wp2_with (first | (go_at_call 35; refine (rvalid_all 4611686018427387904 _ cap xs _ (by omega) (by omega) (.inr ⟨b, o, rfl, HX.out⟩) HL.out).mono ?_; rintro e w1 ⟨rfl, hb1⟩; have hne := HV.out) | go_in)
      go_ret2
      exact ⟨ret_ib ⟨HG.out.1.symm, HG.out.2.symm⟩, hb1⟩
  · have HG : Hid (shN xs at_ = 0 ∧ shB xs at_ = false) := sh_no (by omega)
    by_cases hz : 0 ≤ at_
    · have h2 : 4611686018427387904 < at_ := by omega
      clear h0
      go_enter Tryd.func20, Tryd.ntmps20
      go_wp2
      go_ret2
      exact ⟨ret_ib ⟨HG.out.1.symm, HG.out.2.symm⟩, Below.refl _ _⟩
    · clear h0
      go_enter Tryd.func20, Tryd.ntmps20
      go_wp2
      go_ret2
      exact ⟨ret_ib ⟨HG.out.1.symm, HG.out.2.symm⟩, Below.refl _ _⟩
end Go.Proofs.YtlobegndphgeeaaDoor
