import Derived.Test.YtaploloedocgbaaDoorVl3
import Derived.Test.YtaploloedocgbaaDoorNms1
import Derived.Test.YtaploloedocgbaaDoorUp
import Derived.Test.YtaploloedocgbaaDoorAtP
namespace Go.Proofs.YtaploloedocgbaaDoor
open Go.ChangeShapes Go.WideShapes Go.ChangeAt Go.RowKit
set_option linter.unusedVariables false

set_option maxRecDepth 1000000 in
set_option maxHeartbeats 4000000 in
theorem rown_any (a1 a2 : Option Addr) (c1 c2 : Nat) (ts : List Tk) (ns : List Nd) (n : Int) (w : World) (h1 : LiesA w a1 ts) (h2 : LiesA w a2 ns) (hl1 : ts.length * 24 ≤ 140737488351232) (hl2 : ns.length * 32 ≤ 140737488351232)
    (hf2 : ∀ e ∈ ns, NdFit e) (hn0 : -9223372036854775808 ≤ n) (hn1 : n ≤ 9223372036854775807) :
    Calls Tryd.prog 13 #[.slice a1 ts.length c1, .agg #[.slice a2 ns.length c2], .int .i64 n] w fun e w' => ∃ v, e = .returned v ∧
      w'.ownsRow w.heap.size 3 1 v (owl ts ns n).length (flat (owl ts ns n)) ∧ Below w.heap.size w w' := by
  obtain ⟨i0, hi, hz0, hz1, hz2⟩ := info_parts infoInt
  have H1 : Hid (LiesA w a1 ts) := h1
  have H2 : Hid (LiesA w a2 ns) := h2
  have HF2 : Hid (∀ e ∈ ns, NdFit e) := hf2
  obtain ⟨w2, e2, hw, hs2, B0⟩ := bx1 w #[.slice a2 ns.length c2] 25
  have HB0 : Hid (Below w.heap.size w w2) := hw
  have HX0 : Hid (Bx w2 w.heap.size #[.slice a2 ns.length c2] 25) := B0
  have HS2 : Hid (w2.heap.size = w.heap.size + 1) := hs2
  have HE2 : Hid (w.alloc (.cells #[.slice a2 ns.length c2] 25) = w2) := e2
  have x0 := B0.one
  clear h1 h2 hf2 hw hs2 B0 e2
  by_cases g0 : n < 0
  · have HR : Hid (owl ts ns n = []) := owl_neg g0
    go_enter Tryd.func13, Tryd.ntmps13
    go_upto_region 1 with fail
    rw [HE2.out]
    go_wp2
    go_ret
    exact ⟨_, rfl, own_eq (xs := []) (World.ownsRow_nil _ _ _ _) HR.out.symm, HB0.out⟩
  obtain ⟨m, rfl⟩ : ∃ m : Nat, n = m := ⟨n.toNat, by omega⟩
  by_cases g1 : m < ns.length
  · obtain ⟨x, hx⟩ : ∃ e, ns[m]? = some e := ⟨_, List.getElem?_eq_getElem g1⟩
    have HX : Hid (ns[m]? = some x) := hx
    have HR : Hid (owl ts ns m = (tkl ts (spB x ts.length) (spE x ts.length - spB x ts.length)).filter (fun a => !cvr ns ((kid ns m).getD []) a)) := owl_at hx
    have HFX : Hid (NdFit x) := HF2.out x (List.mem_of_getElem? hx)
    rcases H2.out with rfl | ⟨b2, o2, rfl, hL2⟩
    · simp at g1
    obtain ⟨d0, d1, d2, d3⟩ := hL2.nd HB0.out hx
    have HL2 : Hid (Lies w b2 o2 ns) := hL2
    have g1' : (m : Int) < (ns.length : Int) := by omega
    have htl : (tkl ts (spB x ts.length) (spE x ts.length - spB x ts.length)).length ≤ ts.length := Nat.le_trans (tkl_len _ _ _) (by have := spE_le x ts.length; omega)
    have hkl := kid_len ns m
    have HKM : Hid (∀ y ∈ (kid ns m).getD [], ∃ q : Nat, y = q ∧ q < ns.length) := kid_mem ns m
    clear hx hL2
    go_enter Tryd.func13, Tryd.ntmps13
    go_upto_region 1 with fail
    rw [HE2.out]
    go_wp2_with (first
      | (go_at_call 32; refine (tokens_any x a1 c1 ts _ (H1.out.below HB0.out) hl1 HFX.out).mono ?_; rintro e w3 ⟨v3, rfl, o3, hb3⟩; have HB3 : Hid (Below w2.heap.size w2 w3) := hb3; obtain ⟨a3, c3, rfl, q3, hq3, hnn3⟩ := own_form o3; have HL3 : Hid (LiesA w3 a3 (tkl ts (spB x ts.length) (spE x ts.length - spB x ts.length))) := q3; have z0 := (HX0.out.below hb3 (by have := HS2.out; omega)).one; clear hb3 o3 q3 hq3 hnn3)
      | (go_at_call 11; refine (rkids_any _ c2 ns m _ (H2.out.below (HB0.out.trans (HB3.out.mono HB0.out.size))) hl2 hn0 hn1).mono ?_; rintro e w4 ⟨v4, rfl, o4, hb4⟩; have HB4 : Hid (Below w3.heap.size w3 w4) := hb4; obtain ⟨a4, c4, rfl, q4, hq4, hnn4⟩ := own_form o4; have HL4 : Hid (LiesA w4 a4 ((kid ns m).getD [])) := q4; clear hb4 o4 q4 hq4 hnn4))
    have HL3' : Hid (LiesA w4 a3 (tkl ts (spB x ts.length) (spE x ts.length - spB x ts.length))) := HL3.out.below HB4.out
    have HW4 : Hid (Below w.heap.size w w4) := (HB0.out.trans (HB3.out.mono HB0.out.size)).trans (HB4.out.mono (by have := HB0.out.size; have := HB3.out.size; omega))
    have HX4 : Hid (Bx w4 w.heap.size #[.slice (some ⟨b2, o2, none⟩) ns.length c2] 25) := (HX0.out.below HB3.out (by have := HS2.out; omega)).below HB4.out (by have := HB3.out.size; have := HS2.out; omega)
    generalize htk : tkl ts (spB x ts.length) (spE x ts.length - spB x ts.length) = tk at *
    generalize hki : (kid ns m).getD [] = kl at *
    clear htk hki
    have hsz4 : w.heap.size < w4.heap.size := HX4.out.lt
    clear x0 z0 d0 d1 d2 d3 HB3 HB4 HL3
    go_loopw [10, 11] (fun v i wr => ∃ k : Nat, k ≤ tk.length ∧ i = .int .i64 k ∧ Below w4.heap.size w4 wr ∧ wr.ownsRow w4.heap.size 3 1 v ((tk.take k).filter (fun a => !cvr ns kl a)).length (flat ((tk.take k).filter (fun a => !cvr ns kl a)))) (fun _ i _ => tk.length - (intOf i).toNat)
    case atStart => exact ⟨0, Nat.zero_le _, rfl, Below.refl _ _, by rw [List.take_zero]; exact World.ownsRow_nil _ _ _ _⟩
    case round =>
      obtain ⟨k, hk, rfl, hbel, hown⟩ := hrel
      have HB : Hid (Below w4.heap.size w4 wr) := hbel
      have hlt1 : Hid (∀ k, u10.ownBlock = some k → w4.heap.size ≤ k ∧ k < wr.heap.size) := hown.lt
      have HO : Hid (wr.ownsRow w4.heap.size 3 1 u10 ((tk.take k).filter (fun a => !cvr ns kl a)).length (flat ((tk.take k).filter (fun a => !cvr ns kl a)))) := hown
      have HWB : Hid (Below w.heap.size w wr) := HW4.out.trans (hbel.mono HW4.out.size)
      have hsr : w4.heap.size ≤ wr.heap.size := hbel.size
      have hnl : ((tk.take k).filter (fun a => !cvr ns kl a)).length ≤ k := Nat.le_trans (List.length_filter_le _ _) (by rw [List.length_take]; omega)
      clear hbel hown
      by_cases hlt : k < tk.length
      · obtain ⟨y, hy⟩ : ∃ e, tk[k]? = some e := ⟨_, List.getElem?_eq_getElem hlt⟩
        have HST : Hid ((tk.take (k + 1)).filter (fun a => !cvr ns kl a) = (tk.take k).filter (fun a => !cvr ns kl a) ++ (if !cvr ns kl y then [y] else [])) := filter_step hy
        rcases HL3'.out with rfl | ⟨b3, o3, rfl, hL3⟩
        · simp at hlt
        have HY : Hid (tk[k]? = some y) := hy
        have HL3L : Hid (Lies w4 b3 o3 tk) := hL3
        have hlt' : (k : Int) < (tk.length : Int) := by omega
        clear hy hL3
        go_wp2
        obtain ⟨wo, rfl⟩ : ∃ wo, wo = wr := ⟨_, rfl⟩
        go_loopw [12, 13] (fun ow j wr => ∃ q : Nat, q ≤ kl.length ∧ ow = .bool (!cvr ns (kl.take q) y) ∧ j = .int .i64 q ∧ Below wo.heap.size wo wr) (fun _ j _ => kl.length - (intOf j).toNat)
        case atStart => exact ⟨0, Nat.zero_le _, by simp [cvr], rfl, Below.refl _ _⟩
        case round =>
          obtain ⟨q, hq, rfl, rfl, hbq⟩ := hrel
          have HBQ : Hid (Below wo.heap.size wo wr) := hbq
          have h4q : Below w4.heap.size w4 wr := HB.out.trans (hbq.mono hsr)
          have H4Q : Hid (Below w4.heap.size w4 wr) := h4q
          have hsq : wo.heap.size ≤ wr.heap.size := hbq.size
          have ycell := HL3L.out.int h4q HY.out
          by_cases hql : q < kl.length
          · obtain ⟨kn, hkn⟩ : ∃ e, kl[q]? = some e := ⟨_, List.getElem?_eq_getElem hql⟩
            obtain ⟨z, rfl, hzl⟩ := HKM.out kn (List.mem_of_getElem? hkn)
            obtain ⟨xn, hxn⟩ : ∃ e, ns[z]? = some e := ⟨_, List.getElem?_eq_getElem hzl⟩
            have HSTQ : Hid (cvr ns (kl.take (q + 1)) y = (cvr ns (kl.take q) y || (decide (xn.f ≤ y) && decide (y < xn.e)))) := by
              unfold Hid; rw [cvr_step hkn]; unfold hld; rw [Int.toNat_natCast, hxn]
            rcases HL4.out with h0 | ⟨b4, o4, rfl, hL4⟩
            · rw [h0] at hql; simp at hql
            have kcell := hL4.int h4q hkn
            have bcell := (HX4.out.below h4q hsz4).one
            obtain ⟨e0, e1, e2, e3⟩ := HL2.out.nd (HW4.out.trans (h4q.mono HW4.out.size)) hxn
            have hql' : (q : Int) < (kl.length : Int) := by omega
            have hzl' : (z : Int) < (ns.length : Int) := by omega
            have hb4 : b4 < wr.heap.size := by have := hL4.1; have := h4q.size; omega
            have hb3 : b3 < wr.heap.size := by have := HL3L.out.1; have := h4q.size; omega
            have hb2 : b2 < wr.heap.size := by have := HL2.out.1; have := h4q.size; omega
            have hwz : w.heap.size < wr.heap.size := by have := h4q.size; omega
            clear hkn hxn hL4 h4q hbq
            by_cases c1' : xn.f ≤ y
            · by_cases c2' : y < xn.e
              · have HSS : Hid (cvr ns (kl.take (q + 1)) y = true) := by unfold Hid; rw [HSTQ.out]; simp [c1', c2']
                go_wp2
                go_region
                go_wp2
                go_quiet (fail)
                go_wp2
                go_roundw
                case rel => exact ⟨q + 1, by omega, by rw [HSS.out]; rfl, by go_num, by first | (have := HBQ.out.alloc hsq (.cells #[.int .u8 xn.k, .int .i64 xn.f, .int .i64 xn.e, .int .i64 xn.s] 57); exact below_drewN this _) | (have := below_drewN (HBQ.out.alloc hsq (.cells #[.int .u8 xn.k, .int .i64 xn.f, .int .i64 xn.e, .int .i64 xn.s] 57)) nq; go_grown) | (have := HBQ.out; go_grown)⟩
                case measure => simp [intOf]; omega
              · have HSS : Hid (cvr ns (kl.take (q + 1)) y = cvr ns (kl.take q) y) := by unfold Hid; rw [HSTQ.out]; simp [c2']
                have c2'' : decide (y < xn.e) = false := by simp [c2']
                clear c2'
                go_wp2
                go_region
                go_wp2
                go_quiet (fail)
                go_wp2
                go_roundw
                case rel => exact ⟨q + 1, by omega, by rw [HSS.out], by go_num, by first | (have := HBQ.out.alloc hsq (.cells #[.int .u8 xn.k, .int .i64 xn.f, .int .i64 xn.e, .int .i64 xn.s] 57); exact below_drewN this _) | (have := below_drewN (HBQ.out.alloc hsq (.cells #[.int .u8 xn.k, .int .i64 xn.f, .int .i64 xn.e, .int .i64 xn.s] 57)) nq; go_grown) | (have := HBQ.out; go_grown)⟩
                case measure => simp [intOf]; omega
            · have HSS : Hid (cvr ns (kl.take (q + 1)) y = cvr ns (kl.take q) y) := by unfold Hid; rw [HSTQ.out]; simp [c1']
              have c1'' : decide (xn.f ≤ y) = false := by simp [c1']
              clear c1'
              go_wp2
              go_region
              go_wp2
              go_quiet (fail)
              go_wp2
              go_roundw
              case rel => exact ⟨q + 1, by omega, by rw [HSS.out], by go_num, by first | (have := HBQ.out.alloc hsq (.cells #[.int .u8 xn.k, .int .i64 xn.f, .int .i64 xn.e, .int .i64 xn.s] 57); exact below_drewN this _) | (have := below_drewN (HBQ.out.alloc hsq (.cells #[.int .u8 xn.k, .int .i64 xn.f, .int .i64 xn.e, .int .i64 xn.s] 57)) nq; go_grown) | (have := HBQ.out; go_grown)⟩
              case measure => simp [intOf]; omega
          · have hqe : cvr ns (kl.take q) y = cvr ns kl y := by rw [List.take_of_length_le (by omega)]
            rw [hqe]
            have HO2 : Hid (wr.ownsRow w4.heap.size 3 1 u10 ((tk.take k).filter (fun a => !cvr ns kl a)).length (flat ((tk.take k).filter (fun a => !cvr ns kl a)))) := ownsRow_below HO.out hbq (Nat.le_refl _)
            clear hqe hbq h4q
            cases hcv : cvr ns kl y with
            | true =>
              have HS : Hid ((tk.take (k + 1)).filter (fun a => !cvr ns kl a) = (tk.take k).filter (fun a => !cvr ns kl a)) := by unfold Hid; rw [HST.out, hcv]; simp
              go_wp2
              go_roundw
              case rel => exact ⟨k + 1, by omega, by go_num, H4Q.out, own_eq HO2.out HS.out.symm⟩
              case measure => simp [intOf]; omega
            | false =>
              have HS : Hid ((tk.take (k + 1)).filter (fun a => !cvr ns kl a) = (tk.take k).filter (fun a => !cvr ns kl a) ++ [y]) := by unfold Hid; rw [HST.out, hcv]; simp
              have hsz5 : w4.heap.size ≤ wr.heap.size := H4Q.out.size
              go_wp2_with (at_builtin; (refine wpList_append_own _ rfl (.tmp 74) (.tmp 79) 39 rfl w4.heap.size 3 i0 (.int .i64 0) 1 8 Tryd.underlying39 hi hz0 hz1 hz2 rfl (by decide) _ _ _ rfl (HO2.out.alloc _) ⟨wr.heap.size, 0, none⟩ 1 1 (flat [y]) rfl rfl (cells_new wr (flat [y]) 3) (flat_oneCell _) ?_ ?_ ?_ ?_))
              case refine_1 => unfold maxLen; omega
              case refine_2 => omega
              case refine_3 => simp; omega
              intro v5 w5 hown5 hgrow5 _
              have HB5 : Hid (Below w4.heap.size w4 w5) := (H4Q.out.alloc hsz5 _).grown hgrow5 (by simp; omega) (fun k h => (hlt1.out k h).1)
              have HO5 : Hid (w5.ownsRow w4.heap.size 3 1 v5 ((tk.take k).filter (fun a => !cvr ns kl a) ++ [y]).length (flat ((tk.take k).filter (fun a => !cvr ns kl a) ++ [y]))) := by
                unfold Hid; rw [flat_append, List.length_append]; exact hown5
              clear hgrow5 hown5
              go_wp2
              go_roundw
              case rel => exact ⟨k + 1, by omega, by go_num, HB5.out, own_eq HO5.out HS.out.symm⟩
              case measure => simp [intOf]; omega
      · have HS : Hid ((tk.take k).filter (fun a => !cvr ns kl a) = owl ts ns m) := by unfold Hid; rw [HR.out, List.take_of_length_le (by omega)]
        go_wp2
        go_ret
        exact ⟨_, rfl, own_base (own_eq HO.out HS.out) (by omega), HWB.out⟩
  · have HR : Hid (owl ts ns m = []) := owl_big (by omega)
    go_enter Tryd.func13, Tryd.ntmps13
    go_upto_region 1 with fail
    rw [HE2.out]
    go_wp2
    go_ret
    exact ⟨_, rfl, own_eq (xs := []) (World.ownsRow_nil _ _ _ _) HR.out.symm, HB0.out⟩
end Go.Proofs.YtaploloedocgbaaDoor
