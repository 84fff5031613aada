import Derived.Test.YteolfolkolpehaaDoorOpen
namespace Go.Proofs.YteolfolkolpehaaDoor
open Go.ChangeShapes Go.WideShapes Go.ChangeAt Go.RowKit
set_option linter.unusedVariables false

set_option maxHeartbeats 400000 in
theorem same_any (a1 a2 : Option Addr) (c1 c2 : Nat) (xs : List Ed) (w : World) (h1 : EdsA w a1 xs) (h2 : EdsA w a2 xs) (hl : xs.length ≤ maxLen) :
    Calls Tryd.prog 10 #[.slice a1 xs.length c1, .slice a2 xs.length c2] w fun e w' => e = .returned (.bool true) ∧ Below w.heap.size w w' := by
  unfold maxLen at hl
  rcases h1 with rfl | ⟨b1, o1, rfl, h1⟩
  · rw [List.length_nil]
    go_enter Tryd.func10, Tryd.ntmps10
    go_wp2
    refine wp_loop_rounds 1 ?_
    rw [rounds_succ]
    go_wp2
    go_ret
    exact ⟨rfl, Below.refl _ _⟩
  rcases h2 with rfl | ⟨b2, o2, rfl, h2⟩
  · rw [List.length_nil]
    go_enter Tryd.func10, Tryd.ntmps10
    go_wp2
    refine wp_loop_rounds 1 ?_
    rw [rounds_succ]
    go_wp2
    go_ret
    exact ⟨rfl, Below.refl _ _⟩
  have H1 : Hid (Eds w b1 o1 xs) := h1
  have H2 : Hid (Eds w b2 o2 xs) := h2
  clear h1 h2
  have hne : ((xs.length : Int) != (xs.length : Int)) = false := by simp
  go_enter Tryd.func10, Tryd.ntmps10
  go_wp2
  go_loopw [13] (fun i wr => ∃ k : Nat, k ≤ xs.length ∧ i = .int .i64 k ∧ Below w.heap.size w wr) (fun i _ => xs.length - (intOf i).toNat)
  case atStart => exact ⟨0, Nat.zero_le _, rfl, Below.refl _ _⟩
  case round =>
    obtain ⟨k, hk, rfl, hbel⟩ := hrel
    have hsz := hbel.size
    by_cases hlt : k < xs.length
    · obtain ⟨e, he⟩ : ∃ e, xs[k]? = some e := ⟨_, List.getElem?_eq_getElem hlt⟩
      obtain ⟨c0, c1, c2⟩ := H1.out.cells hbel he
      obtain ⟨d0, d1, d2⟩ := H2.out.cells hbel he
      clear he
      have hlt' : (k : Int) < (xs.length : Int) := by omega
      go_wp2
      go_quiet (fail)
      go_wp2
      go_roundw
      case rel => exact ⟨k + 1, by omega, by go_num, by (repeat (with_reducible refine below_drewN ?_ _)); go_grown⟩
      case measure => simp [intOf]; omega
    · go_wp2
      go_ret
      exact ⟨rfl, by go_grown⟩
end Go.Proofs.YteolfolkolpehaaDoor

namespace Go.Proofs.YteolfolkolpehaaDoor
open Go.ChangeShapes Go.WideShapes Go.ChangeAt Go.RowKit
set_option linter.unusedVariables false

theorem infoEd : (Tryd.prog.info? 45).map (fun i => (i.zero, i.size, i.bytes)) = some (some (.agg #[.int .i64 0, .int .i64 0, .string ⟨#[]⟩]), 3, 32) := by kernel_rfl

set_option maxRecDepth 1000000 in
set_option maxHeartbeats 400000 in
theorem lent_any (a : Option Addr) (cap : Nat) (xs : List Ed) (w : World) (h : EdsA w a xs) (hn : a = none → xs.length = 0 ∧ cap = 0) (hl : xs.length * 32 ≤ 140737488351232) :
    Calls Tryd.prog 11 #[.slice a xs.length cap] w fun e w' => e = .returned (.slice (some ⟨w.heap.size, 0, none⟩) xs.length (xs.length + 3)) ∧ Below w.heap.size w w' ∧
      w'.ownsRow w.heap.size 45 3 (.slice (some ⟨w.heap.size, 0, none⟩) (xs.length + 3) (xs.length + 3)) (xs.length + 3) (flat (xs ++ marks)) := by
  obtain ⟨i0, hi, hz0, hz1, hz2⟩ := info_parts infoEd
  have H : Hid (EdsA w a xs) := h
  have HN : Hid (a = none → xs.length = 0 ∧ cap = 0) := hn
  clear h hn
  go_enter Tryd.func11, Tryd.ntmps11
  go_wp2_with (at_make; refine wpList_make_own _ rfl _ _ 22 rfl w.heap.size 45 i0 (.agg #[.int .i64 0, .int .i64 0, .string ⟨#[]⟩]) 3 Tryd.underlying22 hi hz0 hz1 _ _ _ (xs.length + 3) rfl rfl (by omega) ?b2 ?b3 (Nat.le_refl _) ?_)
  case b2 => rw [hz2]; omega
  case b3 => unfold maxLen; omega
  intro w0 hown0 hgrow0
  have hbel0 : Below w.heap.size w w0 := (Below.refl _ _).grown hgrow0 (Nat.le_refl _) (fun k h => by cases h)
  go_wp2_with (at_builtin; (refine wpList_append_fits_any _ rfl (.tmp 8) (.tmp 9) 22 rfl w.heap.size 45 i0 3 Tryd.underlying22 hi hz1 w.heap.size 0 (xs.length + 3) _ rfl hown0 _ xs.length _ (flat xs) rfl (flat_length xs) HN.out ?c1 (flat_oneCell xs) (by omega) ?_))
  case c1 =>
    intro ad had
    rcases H.out with h | ⟨b, o, hab, h⟩
    · intro j u hj; rw [h] at hj; simp [flat] at hj
    · rw [hab] at had; cases had; exact (h.below hbel0 h.1).flat
  intro w1 hown1 hgrow1
  have hbel1 : Below w.heap.size w w1 := hbel0.grown hgrow1 hbel0.size (fun k h => by cases h; exact Nat.le_refl _)
  clear hown0 hgrow0 hgrow1
  go_wp2_with (at_builtin; refine wpList_append_fits_any _ rfl (.tmp 11) (.tmp 15) 22 rfl w.heap.size 45 i0 3 Tryd.underlying22 hi hz1 w.heap.size xs.length (xs.length + 3) _ rfl (hown1.alloc _) _ 3 _ (flat marks) rfl rfl ?d0 ?d1 (flat_oneCell marks) (by omega) ?_)
  case d0 => intro h; cases h
  case d1 => intro ad had; cases had; exact cells_new w1 (flat marks) 45
  intro w2 hown2 hgrow2
  have hbel2 : Below w.heap.size w w2 := (hbel1.alloc hbel1.size _).grown hgrow2 (by simp; have := hbel1.size; omega) (fun k h => by cases h; exact Nat.le_refl _)
  clear hown1 hgrow2
  rw [← flat_append] at hown2
  go_wp2
  go_ret
  exact ⟨rfl, hbel2, hown2⟩
end Go.Proofs.YteolfolkolpehaaDoor

namespace Go.Proofs.YteolfolkolpehaaDoor
open Go.ChangeShapes Go.WideShapes Go.ChangeAt Go.RowKit
set_option linter.unusedVariables false

theorem mark_cells {w : World} {g : Nat} {xs : List Ed} (h : Eds w g 0 (xs ++ marks)) :
    (w.cell? ⟨g, xs.length * 3, none⟩ = some (.int .i64 (-9)) ∧ w.cell? ⟨g, xs.length * 3 + 1, none⟩ = some (.int .i64 0) ∧ w.cell? ⟨g, xs.length * 3 + 2, none⟩ = some (.string ⟨#[114, 111, 111, 109]⟩)) ∧
    (w.cell? ⟨g, (xs.length + 1) * 3, none⟩ = some (.int .i64 (-8)) ∧ w.cell? ⟨g, (xs.length + 1) * 3 + 1, none⟩ = some (.int .i64 0) ∧ w.cell? ⟨g, (xs.length + 1) * 3 + 2, none⟩ = some (.string ⟨#[]⟩)) ∧
    (w.cell? ⟨g, (xs.length + 2) * 3, none⟩ = some (.int .i64 0) ∧ w.cell? ⟨g, (xs.length + 2) * 3 + 1, none⟩ = some (.int .i64 (-7)) ∧ w.cell? ⟨g, (xs.length + 2) * 3 + 2, none⟩ = some (.string ⟨#[]⟩)) := by
  have h0 := h.2 xs.length _ (by rw [List.getElem?_append_right (Nat.le_refl _), Nat.sub_self]; rfl)
  have h1 := h.2 (xs.length + 1) _ (by rw [List.getElem?_append_right (by omega), show xs.length + 1 - xs.length = 1 by omega]; rfl)
  have h2 := h.2 (xs.length + 2) _ (by rw [List.getElem?_append_right (by omega), show xs.length + 2 - xs.length = 2 by omega]; rfl)
  simp only [Nat.zero_add] at h0 h1 h2
  exact ⟨h0, h1, h2⟩

set_option maxHeartbeats 400000 in
theorem kept_any (g : Nat) (a : Option Addr) (cap : Nat) (xs : List Ed) (w : World) (hc : Eds w g 0 (xs ++ marks)) (h : EdsA w a xs) (hl : xs.length * 32 ≤ 140737488351232) :
    Calls Tryd.prog 13 #[.slice (some ⟨g, 0, none⟩) xs.length (xs.length + 3), .slice a xs.length cap] w fun e w' => e = .returned (.bool true) ∧ Below w.heap.size w w' := by
  have hg := hc.1
  have HC : Hid (Eds w g 0 (xs ++ marks)) := hc
  have H : Hid (EdsA w a xs) := h
  clear hc h
  go_enter Tryd.func13, Tryd.ntmps13
  go_wp2_with fail
  refine (same_any _ a _ cap xs _ (.inr ⟨g, 0, rfl, HC.out.pre⟩) H.out (by unfold maxLen; omega)).mono ?_
  rintro e w' ⟨rfl, hbel⟩
  obtain ⟨⟨a0, a1, a2⟩, ⟨b0, b1, b2⟩, ⟨c0, c1, c2⟩⟩ := mark_cells (HC.out.below hbel hg)
  go_wp2
  go_ret
  exact ⟨rfl, hbel⟩
end Go.Proofs.YteolfolkolpehaaDoor

namespace Go.Proofs.YteolfolkolpehaaDoor
open Go.ChangeShapes Go.WideShapes Go.ChangeAt Go.RowKit
set_option linter.unusedVariables false

set_option maxHeartbeats 400000 in
theorem rvalid_any (size : Int) (b o cap : Nat) (xs : List Ed) (w : World) (hs0 : -9223372036854775808 ≤ size) (hs1 : size ≤ 9223372036854775807)
    (hx : Eds w b o xs) (hl : xs.length ≤ maxLen) :
    Calls Tryd.prog 35 #[.int .i64 size, .slice (some ⟨b, o, none⟩) xs.length cap] w fun e w' => e = .returned (.int .i64 (vld size xs)) ∧ Below w.heap.size w w' := by
  unfold maxLen at hl
  have HX : Hid (Eds w b o xs) := hx
  have hbw : b < w.heap.size := hx.1
  clear hx
  by_cases hm : 65536 < (xs.length : Int)
  · go_enter Tryd.func35, Tryd.ntmps35
    go_wp2
    go_ret
    exact ⟨by simp [vld]; omega, Below.refl _ _⟩
  · go_enter Tryd.func35, Tryd.ntmps35
    go_wp2
    go_loopw [5] (fun i wr => ∃ k : Nat, k ≤ xs.length ∧ i = .int .i64 k ∧ Below w.heap.size w wr ∧ ∃ least : Int, chk size 0 xs = chk size least (xs.drop k) ∧ (k = 0 → least = 0) ∧ (∀ j e, k = j + 1 → xs[j]? = some e → least = e.t + 1)) (fun i _ => xs.length - (intOf i).toNat)
    case atStart => exact ⟨0, Nat.zero_le _, rfl, Below.refl _ _, 0, by simp, fun _ => rfl, fun j e h => by omega⟩
    case round =>
      obtain ⟨k, hk, rfl, hbel, least, hc, hk0, hk1⟩ := hrel
      have HC : Hid (chk size 0 xs = chk size least (xs.drop k)) := hc
      have H0 : Hid (k = 0 → least = 0) := hk0
      have H1 : Hid (∀ j e, k = j + 1 → xs[j]? = some e → least = e.t + 1) := hk1
      have hsz := hbel.size
      clear hc hk0 hk1
      by_cases hlt : k < xs.length
      · obtain ⟨e, he⟩ : ∃ e, xs[k]? = some e := ⟨_, List.getElem?_eq_getElem hlt⟩
        obtain ⟨c0, c1, c2⟩ := HX.out.cells hbel he
        have HE : Hid (xs[k]? = some e) := he
        clear he
        by_cases hok : 0 ≤ e.f ∧ e.f ≤ e.t ∧ e.t ≤ size
        · obtain ⟨k1, k2, k3⟩ := hok
          by_cases hz : k = 0
          · have hd : decide (0 < k) = false := by simp; omega
            have hst := chk_step HC.out HE.out ⟨k1, k2, k3⟩ (by rw [H0.out hz]; omega)
            have HS : Hid (chk size 0 xs = chk size (e.t + 1) (xs.drop (k + 1))) := hst
            clear hst hz
            go_wp2
            go_quiet (fail)
            go_wp2
            go_roundw
            case rel => exact ⟨k + 1, by omega, by go_num, by (repeat (with_reducible refine below_drewN ?_ _)); go_grown, e.t + 1, HS.out, fun h => by omega, fun j e2 h1 h2 => by rw [show j = k by omega, HE.out] at h2; cases h2; rfl⟩
            case measure => simp [intOf]; omega
          · obtain ⟨j, rfl⟩ : ∃ j, k = j + 1 := ⟨k - 1, by omega⟩
            obtain ⟨e', he'⟩ : ∃ e, xs[j]? = some e := ⟨_, List.getElem?_eq_getElem (by omega)⟩
            obtain ⟨d0, d1, d2⟩ := HX.out.cells hbel he'
            have hleast := H1.out j e' rfl he'
            have HL : Hid (least = e'.t + 1) := hleast
            have hbr : b < wr.heap.size := by omega
            have hjw : IntKind.i64.wrap (j : Int) = j := IntWalk.i64_in _ ⟨by omega, by omega⟩
            have hj1 : (j : Int) < (xs.length : Int) := by omega
            clear he' hleast hz
            go_wp2
            by_cases hor : e.f ≤ e'.t
            · have hv := chk_ord (by omega) HC.out HE.out ⟨k1, k2, k3⟩ (by rw [HL.out]; omega)
              have HV : Hid (vld size xs = 11) := hv
              clear hv
              go_wp2
              go_quiet (fail)
              go_wp2
              go_ret
              exact ⟨ret_i64 HV.out.symm, by (repeat (with_reducible refine below_drewN ?_ _)); go_grown⟩
            · have hst := chk_step HC.out HE.out ⟨k1, k2, k3⟩ (by rw [HL.out]; omega)
              have HS : Hid (chk size 0 xs = chk size (e.t + 1) (xs.drop (j + 1 + 1))) := hst
              clear hst
              go_wp2
              go_quiet (fail)
              go_wp2
              go_roundw
              case rel => exact ⟨j + 1 + 1, by omega, by go_num, by (repeat (with_reducible refine below_drewN ?_ _)); go_grown, e.t + 1, HS.out, fun h => by omega, fun j2 e2 h1 h2 => by rw [show j2 = j + 1 by omega, HE.out] at h2; cases h2; rfl⟩
              case measure => simp [intOf]; omega
        · have hv := chk_bad (by omega) HC.out HE.out hok
          have HV : Hid (vld size xs = 10) := hv
          clear hv
          by_cases g1 : e.f < 0
          · go_wp2
            go_ret
            exact ⟨ret_i64 HV.out.symm, by go_grown⟩
          · by_cases g2 : e.t < e.f
            · go_wp2
              go_ret
              exact ⟨ret_i64 HV.out.symm, by go_grown⟩
            · have g3 : size < e.t := by omega
              go_wp2
              go_ret
              exact ⟨ret_i64 HV.out.symm, by go_grown⟩
      · go_wp2
        go_ret
        exact ⟨ret_i64 (chk_end (by omega) HC.out hlt).symm, by go_grown⟩
end Go.Proofs.YteolfolkolpehaaDoor

namespace Go.Proofs.YteolfolkolpehaaDoor
open Go.ChangeShapes Go.WideShapes Go.ChangeAt Go.RowKit
set_option linter.unusedVariables false

set_option maxHeartbeats 400000 in
theorem wrong_any (size : Int) (b o cap : Nat) (xs : List Ed) (w : World) (hs0 : -9223372036854775808 ≤ size) (hs1 : size < 9223372036854775807)
    (hx : Eds w b o xs) (hl : xs.length ≤ maxLen) :
    Calls Tryd.prog 39 #[.int .i64 size, .slice (some ⟨b, o, none⟩) xs.length cap] w fun e w' => e = .returned (.int .i64 (vld size xs)) ∧ Below w.heap.size w w' := by
  unfold maxLen at hl
  have HX : Hid (Eds w b o xs) := hx
  have hbw : b < w.heap.size := hx.1
  clear hx
  by_cases hm : 65536 < (xs.length : Int)
  · go_enter Tryd.func39, Tryd.ntmps39
    go_wp2
    go_step3
    go_wp2
    rw [Exit.noGoto_ret]
    go_ret
    exact ⟨by simp [vld]; omega, Below.refl _ _⟩
  · go_enter Tryd.func39, Tryd.ntmps39
    go_wp2
    go_step3
    go_wp2
    go_step3
    go_wp2
    go_loopw [5, 15] (fun le i wr => ∃ k : Nat, k ≤ xs.length ∧ i = .int .i64 k ∧ Below w.heap.size w wr ∧ ∃ least : Int, le = .int .i64 least ∧ chk size 0 xs = chk size least (xs.drop k)) (fun _ i _ => xs.length - (intOf i).toNat)
    case atStart => exact ⟨0, Nat.zero_le _, rfl, Below.refl _ _, 0, rfl, by simp⟩
    case round =>
      obtain ⟨k, hk, rfl, hbel, least, rfl, hc⟩ := hrel
      have HC : Hid (chk size 0 xs = chk size least (xs.drop k)) := hc
      have hsz := hbel.size
      clear hc
      by_cases hlt : k < xs.length
      · obtain ⟨e, he⟩ : ∃ e, xs[k]? = some e := ⟨_, List.getElem?_eq_getElem hlt⟩
        obtain ⟨c0, c1, c2⟩ := HX.out.cells hbel he
        have HE : Hid (xs[k]? = some e) := he
        clear he
        by_cases hok : 0 ≤ e.f ∧ e.f ≤ e.t ∧ e.t ≤ size
        · obtain ⟨k1, k2, k3⟩ := hok
          by_cases hor : e.f < least
          · have hv := chk_ord (by omega) HC.out HE.out ⟨k1, k2, k3⟩ hor
            have HV : Hid (vld size xs = 11) := hv
            clear hv
            go_wp2
            refine wp_loop_rounds 3 ?_
            rw [rounds_succ]
            go_wp2
            go_quiet (fail)
            go_wp2
            rw [rounds_succ]
            go_wp2
            go_quiet (fail)
            go_wp2
            rw [rounds_succ]
            go_wp2
            go_quiet (fail)
            go_wp2
            rw [Exit.noGoto_ret]
            go_ret
            exact ⟨ret_i64 HV.out.symm, by (repeat (with_reducible refine below_drewN ?_ _)); go_grown⟩
          · have hst := chk_step HC.out HE.out ⟨k1, k2, k3⟩ hor
            have HS : Hid (chk size 0 xs = chk size (e.t + 1) (xs.drop (k + 1))) := hst
            clear hst
            go_wp2
            refine wp_loop_rounds 3 ?_
            rw [rounds_succ]
            go_wp2
            go_quiet (fail)
            go_wp2
            rw [rounds_succ]
            go_wp2
            go_quiet (fail)
            go_wp2
            rw [rounds_succ]
            go_wp2
            go_quiet (fail)
            go_wp2
            go_roundw
            case rel => exact ⟨k + 1, by omega, by go_num, by (repeat (with_reducible refine below_drewN ?_ _)); go_grown, e.t + 1, rfl, HS.out⟩
            case measure => simp [intOf]; omega
        · have hv := chk_bad (by omega) HC.out HE.out hok
          have HV : Hid (vld size xs = 10) := hv
          clear hv
          by_cases g1 : e.f < 0
          · go_wp2
            refine wp_loop_rounds 3 ?_
            rw [rounds_succ]
            go_wp2
            go_quiet (fail)
            go_wp2
            rw [Exit.noGoto_ret]
            go_ret
            exact ⟨ret_i64 HV.out.symm, by (repeat (with_reducible refine below_drewN ?_ _)); go_grown⟩
          · by_cases g2 : e.t < e.f
            · go_wp2
              refine wp_loop_rounds 3 ?_
              rw [rounds_succ]
              go_wp2
              go_quiet (fail)
              go_wp2
              rw [rounds_succ]
              go_wp2
              go_quiet (fail)
              go_wp2
              rw [Exit.noGoto_ret]
              go_ret
              exact ⟨ret_i64 HV.out.symm, by (repeat (with_reducible refine below_drewN ?_ _)); go_grown⟩
            · have g3 : size < e.t := by omega
              go_wp2
              refine wp_loop_rounds 3 ?_
              rw [rounds_succ]
              go_wp2
              go_quiet (fail)
              go_wp2
              rw [rounds_succ]
              go_wp2
              go_quiet (fail)
              go_wp2
              rw [rounds_succ]
              go_wp2
              go_quiet (fail)
              go_wp2
              rw [Exit.noGoto_ret]
              go_ret
              exact ⟨ret_i64 HV.out.symm, by (repeat (with_reducible refine below_drewN ?_ _)); go_grown⟩
      · go_wp2
        rw [Exit.noGoto_ret]
        go_ret
        exact ⟨ret_i64 (chk_end (by omega) HC.out hlt).symm, by go_grown⟩
end Go.Proofs.YteolfolkolpehaaDoor

namespace Go.Proofs.YteolfolkolpehaaDoor
open Go.ChangeShapes Go.WideShapes Go.ChangeAt Go.RowKit
set_option linter.unusedVariables false

set_option maxHeartbeats 400000 in
theorem wrong_all (size : Int) (a : Option Addr) (cap : Nat) (xs : List Ed) (w : World) (hs0 : -9223372036854775808 ≤ size) (hs1 : size < 9223372036854775807) (h : EdsA w a xs) (hl : xs.length ≤ maxLen) :
    Calls Tryd.prog 39 #[.int .i64 size, .slice a xs.length cap] w fun e w' => e = .returned (.int .i64 (vld size xs)) ∧ Below w.heap.size w w' := by
  rcases h with rfl | ⟨b, o, rfl, h⟩
  · rw [List.length_nil]
    go_enter Tryd.func39, Tryd.ntmps39
    go_wp2
    go_step3
    go_wp2
    go_step3
    go_wp2
    refine wp_loop_rounds 1 ?_
    rw [rounds_succ]
    go_wp2
    rw [Exit.noGoto_ret]
    go_ret
    exact ⟨by simp [vld, chk], Below.refl _ _⟩
  · exact wrong_any size b o cap xs w hs0 hs1 h hl

set_option maxHeartbeats 400000 in
theorem rvalid_all (size : Int) (a : Option Addr) (cap : Nat) (xs : List Ed) (w : World) (hs0 : -9223372036854775808 ≤ size) (hs1 : size ≤ 9223372036854775807) (h : EdsA w a xs) (hl : xs.length ≤ maxLen) :
    Calls Tryd.prog 35 #[.int .i64 size, .slice a xs.length cap] w fun e w' => e = .returned (.int .i64 (vld size xs)) ∧ Below w.heap.size w w' := by
  rcases h with rfl | ⟨b, o, rfl, h⟩
  · rw [List.length_nil]
    go_enter Tryd.func35, Tryd.ntmps35
    go_wp2
    refine wp_loop_rounds 1 ?_
    rw [rounds_succ]
    go_wp2
    go_ret
    exact ⟨by simp [vld, chk], Below.refl _ _⟩
  · exact rvalid_any size b o cap xs w hs0 hs1 h hl

def val62 (size : Int) (xs : List Ed) : Int := if 0 ≤ size ∧ size ≤ 4611686018427387904 then vld size xs else 1

set_option maxHeartbeats 400000 in
theorem valid_all (size : Int) (a : Option Addr) (cap : Nat) (xs : List Ed) (w : World) (hs0 : -9223372036854775808 ≤ size) (hs1 : size ≤ 9223372036854775807) (h : EdsA w a xs) (hl : xs.length ≤ maxLen) :
    Calls Tryd.prog 33 #[.int .i64 size, .slice a xs.length cap] w fun e w' => e = .returned (.int .i64 (val62 size xs)) ∧ Below w.heap.size w w' := by
  have H : Hid (EdsA w a xs) := h
  have HL : Hid (xs.length ≤ maxLen) := hl
  clear h hl
  by_cases h0 : 0 ≤ size
  · by_cases h1 : size ≤ 4611686018427387904
    · have HV : Hid (vld size xs = val62 size xs) := by unfold Hid val62; rw [if_pos ⟨h0, h1⟩]
      go_enter Tryd.func33, Tryd.ntmps33
      go_wp2_with (first | (go_at_call 39; refine (wrong_all size a cap xs _ (by omega) (by omega) H.out HL.out).mono ?_; rintro e w' ⟨rfl, hb⟩) | go_in)
      go_ret
      exact ⟨ret_i64 HV.out, hb⟩
    · have HV : Hid (1 = val62 size xs) := by unfold Hid val62; rw [if_neg (by omega)]
      go_enter Tryd.func33, Tryd.ntmps33
      go_wp2
      go_ret
      exact ⟨ret_i64 HV.out, Below.refl _ _⟩
  · have HV : Hid (1 = val62 size xs) := by unfold Hid val62; rw [if_neg (by omega)]
    go_enter Tryd.func33, Tryd.ntmps33
    go_wp2
    go_ret
    exact ⟨ret_i64 HV.out, Below.refl _ _⟩

set_option maxHeartbeats 400000 in
theorem rValid_all (size : Int) (a : Option Addr) (cap : Nat) (xs : List Ed) (w : World) (hs0 : -9223372036854775808 ≤ size) (hs1 : size ≤ 9223372036854775807) (h : EdsA w a xs) (hl : xs.length ≤ maxLen) :
    Calls Tryd.prog 42 #[.int .i64 size, .slice a xs.length cap] w fun e w' => e = .returned (.int .i64 (val62 size xs)) ∧ Below w.heap.size w w' := by
  have H : Hid (EdsA w a xs) := h
  have HL : Hid (xs.length ≤ maxLen) := hl
  clear h hl
  by_cases h0 : 0 ≤ size
  · by_cases h1 : size ≤ 4611686018427387904
    · have HV : Hid (vld size xs = val62 size xs) := by unfold Hid val62; rw [if_pos ⟨h0, h1⟩]
      go_enter Tryd.func42, Tryd.ntmps42
      go_wp2_with (first | (go_at_call 35; refine (rvalid_all size a cap xs _ (by omega) (by omega) H.out HL.out).mono ?_; rintro e w' ⟨rfl, hb⟩) | go_in)
      go_ret
      exact ⟨ret_i64 HV.out, hb⟩
    · have HV : Hid (1 = val62 size xs) := by unfold Hid val62; rw [if_neg (by omega)]
      go_enter Tryd.func42, Tryd.ntmps42
      go_wp2
      go_ret
      exact ⟨ret_i64 HV.out, Below.refl _ _⟩
  · have HV : Hid (1 = val62 size xs) := by unfold Hid val62; rw [if_neg (by omega)]
    go_enter Tryd.func42, Tryd.ntmps42
    go_wp2
    go_ret
    exact ⟨ret_i64 HV.out, Below.refl _ _⟩
end Go.Proofs.YteolfolkolpehaaDoor

namespace Go.Proofs.YteolfolkolpehaaDoor
open Go.ChangeShapes Go.WideShapes Go.ChangeAt Go.RowKit
set_option linter.unusedVariables false

theorem chk_ok {size least : Int} {xs : List Ed} (h : chk size least xs = 0) : ∀ e ∈ xs, 0 ≤ e.f ∧ e.f ≤ e.t ∧ e.t ≤ size := by
  induction xs generalizing least with
  | nil => simp
  | cons e r ih =>
    rw [chk] at h
    by_cases h1 : 0 ≤ e.f ∧ e.f ≤ e.t ∧ e.t ≤ size
    · rw [if_pos h1] at h
      by_cases h2 : e.f < least
      · rw [if_pos h2] at h; omega
      · rw [if_neg h2] at h
        intro x hx
        rcases List.mem_cons.1 hx with rfl | hx
        · exact h1
        · exact ih h x hx
    · rw [if_neg h1] at h; omega

theorem vld_chk {size : Int} {xs : List Ed} (h : vld size xs = 0) : chk size 0 xs = 0 ∧ xs.length ≤ 65536 := by
  unfold vld at h
  by_cases hl : 65536 < xs.length
  · rw [if_pos hl] at h; omega
  · rw [if_neg hl] at h; exact ⟨h, by omega⟩

/-- by how much the edits up to a place move it, as whole numbers; none: it lies within one -/
def shS (at_ : Int) : Int → List Ed → Option Int
  | m, [] => some m
  | m, e :: r => if e.f < at_ ∧ at_ < e.t then none else shS at_ (if e.t ≤ at_ then m + ((e.s.size : Int) - (e.t - e.f)) else m) r

def shN (xs : List Ed) (at_ : Int) : Int := if 0 ≤ at_ ∧ at_ ≤ 4611686018427387904 ∧ vld 4611686018427387904 xs = 0 then (match shS at_ 0 xs with | some m => wrap64 (at_ + m) | none => 0) else 0
def shB (xs : List Ed) (at_ : Int) : Bool := if 0 ≤ at_ ∧ at_ ≤ 4611686018427387904 ∧ vld 4611686018427387904 xs = 0 then (shS at_ 0 xs).isSome else false

theorem sh_no {xs : List Ed} {at_ : Int} (h : ¬ (0 ≤ at_ ∧ at_ ≤ 4611686018427387904 ∧ vld 4611686018427387904 xs = 0)) : shN xs at_ = 0 ∧ shB xs at_ = false := by
  unfold shN shB; rw [if_neg h, if_neg h]; exact ⟨rfl, rfl⟩

theorem sh_none {xs : List Ed} {at_ m : Int} {k : Nat} {e : Ed} (h : 0 ≤ at_ ∧ at_ ≤ 4611686018427387904 ∧ vld 4611686018427387904 xs = 0) (hc : shS at_ 0 xs = shS at_ m (xs.drop k)) (he : xs[k]? = some e) (hin : e.f < at_ ∧ at_ < e.t) : shN xs at_ = 0 ∧ shB xs at_ = false := by
  unfold shN shB; rw [if_pos h, if_pos h, hc, drop_get he, shS, if_pos hin]; exact ⟨rfl, rfl⟩

theorem sh_step {xs : List Ed} {at_ m : Int} {k : Nat} {e : Ed} (hc : shS at_ 0 xs = shS at_ m (xs.drop k)) (he : xs[k]? = some e) (hin : ¬ (e.f < at_ ∧ at_ < e.t)) :
    shS at_ 0 xs = shS at_ (if e.t ≤ at_ then m + ((e.s.size : Int) - (e.t - e.f)) else m) (xs.drop (k + 1)) := by
  rw [hc, drop_get he, shS, if_neg hin]

theorem sh_end {xs : List Ed} {at_ m : Int} {k : Nat} (h : 0 ≤ at_ ∧ at_ ≤ 4611686018427387904 ∧ vld 4611686018427387904 xs = 0) (hc : shS at_ 0 xs = shS at_ m (xs.drop k)) (hk : ¬ k < xs.length) : shN xs at_ = wrap64 (at_ + m) ∧ shB xs at_ = true := by
  unfold shN shB; rw [if_pos h, if_pos h, hc, List.drop_eq_nil_of_le (by omega), shS]; exact ⟨rfl, rfl⟩

theorem wrap64_zero : wrap64 0 = 0 := by unfold wrap64; omega
theorem wrap64_left (a b : Int) : wrap64 (wrap64 a + b) = wrap64 (a + b) := by unfold wrap64; omega
theorem wrap64_right (a b : Int) : wrap64 (a + wrap64 b) = wrap64 (a + b) := by unfold wrap64; omega

theorem ret_ib {a b : Int} {c d : Bool} (h : a = b ∧ c = d) : Ending.returned (.tuple #[.int .i64 a, .bool c]) = .returned (.tuple #[.int .i64 b, .bool d]) := by rw [h.1, h.2]

end Go.Proofs.YteolfolkolpehaaDoor
