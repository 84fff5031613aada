import Derived.Test.YteolfolkolpehaaDoorBase
namespace Go.Proofs.YteolfolkolpehaaDoor
open Go.ChangeShapes Go.WideShapes Go.ChangeAt Go.RowKit
set_option linter.unusedVariables false

set_option maxHeartbeats 400000 in
theorem rvalid_any (size : Int) (b o cap : Nat) (xs : List Ed) (w : World) (hs0 : -9223372036854775808 ≤ size) (hs1 : size ≤ 9223372036854775807)
    (hx : Eds w b o xs) (hl : xs.length ≤ maxLen) :
    Calls Tryd.prog 35 #[.int .i64 size, .slice (some ⟨b, o, none⟩) xs.length cap] w fun e w' => e = .returned (.int .i64 (vld size xs)) ∧ Below w.heap.size w w' := by
  unfold maxLen at hl
  have HX : Hid (Eds w b o xs) := hx
  have hbw : b < w.heap.size := hx.1
  clear hx
  by_cases hm : 65536 < (xs.length : Int)
  · go_enter Tryd.func35, Tryd.ntmps35
    go_wp2
    go_ret
    exact ⟨by simp [vld]; omega, Below.refl _ _⟩
  · go_enter Tryd.func35, Tryd.ntmps35
    go_wp2
    go_loopw [5] (fun i wr => ∃ k : Nat, k ≤ xs.length ∧ i = .int .i64 k ∧ Below w.heap.size w wr ∧ ∃ least : Int, chk size 0 xs = chk size least (xs.drop k) ∧ (k = 0 → least = 0) ∧ (∀ j e, k = j + 1 → xs[j]? = some e → least = e.t + 1)) (fun i _ => xs.length - (intOf i).toNat)
    case atStart => exact ⟨0, Nat.zero_le _, rfl, Below.refl _ _, 0, by simp, fun _ => rfl, fun j e h => by omega⟩
    case round =>
      obtain ⟨k, hk, rfl, hbel, least, hc, hk0, hk1⟩ := hrel
      have HC : Hid (chk size 0 xs = chk size least (xs.drop k)) := hc
      have H0 : Hid (k = 0 → least = 0) := hk0
      have H1 : Hid (∀ j e, k = j + 1 → xs[j]? = some e → least = e.t + 1) := hk1
      have hsz := hbel.size
      clear hc hk0 hk1
      by_cases hlt : k < xs.length
      · obtain ⟨e, he⟩ : ∃ e, xs[k]? = some e := ⟨_, List.getElem?_eq_getElem hlt⟩
        obtain ⟨c0, c1, c2⟩ := HX.out.cells hbel he
        have HE : Hid (xs[k]? = some e) := he
        clear he
        by_cases hok : 0 ≤ e.f ∧ e.f ≤ e.t ∧ e.t ≤ size
        · obtain ⟨k1, k2, k3⟩ := hok
          by_cases hz : k = 0
          · have hd : decide (0 < k) = false := by simp; omega
            have hst := chk_step HC.out HE.out ⟨k1, k2, k3⟩ (by rw [H0.out hz]; omega)
            have HS : Hid (chk size 0 xs = chk size (e.t + 1) (xs.drop (k + 1))) := hst
            clear hst hz
            go_wp2
            go_quiet (fail)
            go_wp2
            go_roundw
            case rel => exact ⟨k + 1, by omega, by go_num, by (repeat (with_reducible refine below_drewN ?_ _)); go_grown, e.t + 1, HS.out, fun h => by omega, fun j e2 h1 h2 => by rw [show j = k by omega, HE.out] at h2; cases h2; rfl⟩
            case measure => simp [intOf]; omega
          · obtain ⟨j, rfl⟩ : ∃ j, k = j + 1 := ⟨k - 1, by omega⟩
            obtain ⟨e', he'⟩ : ∃ e, xs[j]? = some e := ⟨_, List.getElem?_eq_getElem (by omega)⟩
            obtain ⟨d0, d1, d2⟩ := HX.out.cells hbel he'
            have hleast := H1.out j e' rfl he'
            have HL : Hid (least = e'.t + 1) := hleast
            have hbr : b < wr.heap.size := by omega
            have hjw : IntKind.i64.wrap (j : Int) = j := IntWalk.i64_in _ ⟨by omega, by omega⟩
            have hj1 : (j : Int) < (xs.length : Int) := by omega
            clear he' hleast hz
            go_wp2
            by_cases hor : e.f ≤ e'.t
            · have hv := chk_ord (by omega) HC.out HE.out ⟨k1, k2, k3⟩ (by rw [HL.out]; omega)
              have HV : Hid (vld size xs = 11) := hv
              clear hv
              go_wp2
              go_quiet (fail)
              go_wp2
              go_ret
              exact ⟨ret_i64 HV.out.symm, by (repeat (with_reducible refine below_drewN ?_ _)); go_grown⟩
            · have hst := chk_step HC.out HE.out ⟨k1, k2, k3⟩ (by rw [HL.out]; omega)
              have HS : Hid (chk size 0 xs = chk size (e.t + 1) (xs.drop (j + 1 + 1))) := hst
              clear hst
              go_wp2
              go_quiet (fail)
              go_wp2
              go_roundw
              case rel => exact ⟨j + 1 + 1, by omega, by go_num, by (repeat (with_reducible refine below_drewN ?_ _)); go_grown, e.t + 1, HS.out, fun h => by omega, fun j2 e2 h1 h2 => by rw [show j2 = j + 1 by omega, HE.out] at h2; cases h2; rfl⟩
              case measure => simp [intOf]; omega
        · have hv := chk_bad (by omega) HC.out HE.out hok
          have HV : Hid (vld size xs = 10) := hv
          clear hv
          by_cases g1 : e.f < 0
          · go_wp2
            go_ret
            exact ⟨ret_i64 HV.out.symm, by go_grown⟩
          · by_cases g2 : e.t < e.f
            · go_wp2
              go_ret
              exact ⟨ret_i64 HV.out.symm, by go_grown⟩
            · have g3 : size < e.t := by omega
              go_wp2
              go_ret
              exact ⟨ret_i64 HV.out.symm, by go_grown⟩
      · go_wp2
        go_ret
        exact ⟨ret_i64 (chk_end (by omega) HC.out hlt).symm, by go_grown⟩
end Go.Proofs.YteolfolkolpehaaDoor
