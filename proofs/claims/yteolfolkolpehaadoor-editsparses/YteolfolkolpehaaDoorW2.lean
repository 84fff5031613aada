import Derived.Test.YteolfolkolpehaaDoorBase
namespace Go.Proofs.YteolfolkolpehaaDoor
open Go.ChangeShapes Go.WideShapes Go.ChangeAt Go.RowKit
set_option linter.unusedVariables false

set_option maxHeartbeats 400000 in
theorem wrong_any (size : Int) (b o cap : Nat) (xs : List Ed) (w : World) (hs0 : -9223372036854775808 ≤ size) (hs1 : size < 9223372036854775807)
    (hx : Eds w b o xs) (hl : xs.length ≤ maxLen) :
    Calls Tryd.prog 39 #[.int .i64 size, .slice (some ⟨b, o, none⟩) xs.length cap] w fun e w' => e = .returned (.int .i64 (vld size xs)) ∧ Below w.heap.size w w' := by
  unfold maxLen at hl
  have HX : Hid (Eds w b o xs) := hx
  have hbw : b < w.heap.size := hx.1
  clear hx
  by_cases hm : 65536 < (xs.length : Int)
  · go_enter Tryd.func39, Tryd.ntmps39
    go_wp2
    go_step3
    go_wp2
    rw [Exit.noGoto_ret]
    go_ret
    exact ⟨by simp [vld]; omega, Below.refl _ _⟩
  · go_enter Tryd.func39, Tryd.ntmps39
    go_wp2
    go_step3
    go_wp2
    go_step3
    go_wp2
    go_loopw [5, 15] (fun le i wr => ∃ k : Nat, k ≤ xs.length ∧ i = .int .i64 k ∧ Below w.heap.size w wr ∧ ∃ least : Int, le = .int .i64 least ∧ chk size 0 xs = chk size least (xs.drop k)) (fun _ i _ => xs.length - (intOf i).toNat)
    case atStart => exact ⟨0, Nat.zero_le _, rfl, Below.refl _ _, 0, rfl, by simp⟩
    case round =>
      obtain ⟨k, hk, rfl, hbel, least, rfl, hc⟩ := hrel
      have HC : Hid (chk size 0 xs = chk size least (xs.drop k)) := hc
      have hsz := hbel.size
      clear hc
      by_cases hlt : k < xs.length
      · obtain ⟨e, he⟩ : ∃ e, xs[k]? = some e := ⟨_, List.getElem?_eq_getElem hlt⟩
        obtain ⟨c0, c1, c2⟩ := HX.out.cells hbel he
        have HE : Hid (xs[k]? = some e) := he
        clear he
        by_cases hok : 0 ≤ e.f ∧ e.f ≤ e.t ∧ e.t ≤ size
        · obtain ⟨k1, k2, k3⟩ := hok
          by_cases hor : e.f < least
          · have hv := chk_ord (by omega) HC.out HE.out ⟨k1, k2, k3⟩ hor
            have HV : Hid (vld size xs = 11) := hv
            clear hv
            go_wp2
            refine wp_loop_rounds 3 ?_
            rw [rounds_succ]
            go_wp2
            go_quiet (fail)
            go_wp2
            rw [rounds_succ]
            go_wp2
            go_quiet (fail)
            go_wp2
            rw [rounds_succ]
            go_wp2
            go_quiet (fail)
            go_wp2
            rw [Exit.noGoto_ret]
            go_ret
            exact ⟨ret_i64 HV.out.symm, by (repeat (with_reducible refine below_drewN ?_ _)); go_grown⟩
          · have hst := chk_step HC.out HE.out ⟨k1, k2, k3⟩ hor
            have HS : Hid (chk size 0 xs = chk size (e.t + 1) (xs.drop (k + 1))) := hst
            clear hst
            go_wp2
            refine wp_loop_rounds 3 ?_
            rw [rounds_succ]
            go_wp2
            go_quiet (fail)
            go_wp2
            rw [rounds_succ]
            go_wp2
            go_quiet (fail)
            go_wp2
            rw [rounds_succ]
            go_wp2
            go_quiet (fail)
            go_wp2
            go_roundw
            case rel => exact ⟨k + 1, by omega, by go_num, by (repeat (with_reducible refine below_drewN ?_ _)); go_grown, e.t + 1, rfl, HS.out⟩
            case measure => simp [intOf]; omega
        · have hv := chk_bad (by omega) HC.out HE.out hok
          have HV : Hid (vld size xs = 10) := hv
          clear hv
          by_cases g1 : e.f < 0
          · go_wp2
            refine wp_loop_rounds 3 ?_
            rw [rounds_succ]
            go_wp2
            go_quiet (fail)
            go_wp2
            rw [Exit.noGoto_ret]
            go_ret
            exact ⟨ret_i64 HV.out.symm, by (repeat (with_reducible refine below_drewN ?_ _)); go_grown⟩
          · by_cases g2 : e.t < e.f
            · go_wp2
              refine wp_loop_rounds 3 ?_
              rw [rounds_succ]
              go_wp2
              go_quiet (fail)
              go_wp2
              rw [rounds_succ]
              go_wp2
              go_quiet (fail)
              go_wp2
              rw [Exit.noGoto_ret]
              go_ret
              exact ⟨ret_i64 HV.out.symm, by (repeat (with_reducible refine below_drewN ?_ _)); go_grown⟩
            · have g3 : size < e.t := by omega
              go_wp2
              refine wp_loop_rounds 3 ?_
              rw [rounds_succ]
              go_wp2
              go_quiet (fail)
              go_wp2
              rw [rounds_succ]
              go_wp2
              go_quiet (fail)
              go_wp2
              rw [rounds_succ]
              go_wp2
              go_quiet (fail)
              go_wp2
              rw [Exit.noGoto_ret]
              go_ret
              exact ⟨ret_i64 HV.out.symm, by (repeat (with_reducible refine below_drewN ?_ _)); go_grown⟩
      · go_wp2
        rw [Exit.noGoto_ret]
        go_ret
        exact ⟨ret_i64 (chk_end (by omega) HC.out hlt).symm, by go_grown⟩
end Go.Proofs.YteolfolkolpehaaDoor
