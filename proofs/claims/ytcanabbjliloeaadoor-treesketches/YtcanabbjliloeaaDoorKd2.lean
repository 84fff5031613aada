import Derived.Test.YtcanabbjliloeaaDoorKd1
namespace Go.Proofs.YtcanabbjliloeaaDoor
open Go.ChangeShapes Go.WideShapes Go.ChangeAt Go.RowKit
set_option linter.unusedVariables false

set_option maxRecDepth 1000000 in
set_option maxHeartbeats 2000000 in
theorem rkids_any (a : Option Addr) (cap : Nat) (ns : List Nd) (n : Int) (w : World) (h : LiesA w a ns) (hl : ns.length * 32 ≤ 140737488351232) (hn0 : -9223372036854775808 ≤ n) (hn1 : n ≤ 9223372036854775807) :
    Calls Tryd.prog 18 #[.agg #[.slice a ns.length cap], .int .i64 n] w fun e w' => ∃ v, e = .returned (.tuple #[v, .bool (kid ns n).isSome]) ∧
      w'.ownsRow w.heap.size 3 1 v ((kid ns n).getD []).length (flat ((kid ns n).getD [])) ∧ Below w.heap.size w w' := by
  obtain ⟨i0, hi, hz0, hz1, hz2⟩ := info_parts infoInt
  have HL : Hid (LiesA w a ns) := h
  have HM : Hid (ns.length ≤ maxLen) := by unfold Hid maxLen; omega
  obtain ⟨w2, e2, hw, hs2, B0⟩ := bx1 w #[.slice a ns.length cap] 25
  have hsw : w.heap.size < w2.heap.size := by omega
  have HB0 : Hid (Below w.heap.size w w2) := hw
  have HX0 : Hid (Bx w2 w.heap.size #[.slice a ns.length cap] 25) := B0
  have HS2 : Hid (w2.heap.size = w.heap.size + 1) := hs2
  have HE2 : Hid (w.alloc (.cells #[.slice a ns.length cap] 25) = w2) := e2
  have x0 := B0.one
  clear h hw hs2 B0 e2
  cases hw : whl ns n with
  | false =>
    have HR : Hid (kid ns n = none) := kid_no hw
    by_cases h0 : n < 0
    · clear hw
      go_enter Tryd.func18, Tryd.ntmps18
      go_upto_region 1 with fail
      rw [HE2.out]
      go_wp2
      go_ret2
      exact ⟨_, ret_tb (by rw [HR.out]; rfl), own_eq (xs := []) (World.ownsRow_nil _ _ _ _) (by rw [HR.out]; rfl), HB0.out⟩
    · obtain ⟨k, rfl⟩ : ∃ k : Nat, n = k := ⟨n.toNat, by omega⟩
      by_cases h1 : k < ns.length
      · obtain ⟨x, hx⟩ : ∃ e, ns[k]? = some e := ⟨_, List.getElem?_eq_getElem h1⟩
        rw [whl_at hx] at hw
        rcases HL.out with rfl | ⟨b, o, rfl, hL⟩
        · simp at hx
        have y1 := (hL.nd HB0.out hx).2.2.2
        have hk' : (k : Int) < (ns.length : Int) := by omega
        clear hL hx
        by_cases g1 : 1 ≤ x.s
        · have g2 : ¬ x.s ≤ (ns.length : Int) - k := by
            intro h; simp [g1, h] at hw
          clear hw
          go_enter Tryd.func18, Tryd.ntmps18
          go_upto_region 1 with fail
          rw [HE2.out]
          go_wp2
          go_ret2
          exact ⟨_, ret_tb (by rw [HR.out]; rfl), own_eq (xs := []) (World.ownsRow_nil _ _ _ _) (by rw [HR.out]; rfl), HB0.out⟩
        · clear hw
          go_enter Tryd.func18, Tryd.ntmps18
          go_upto_region 1 with fail
          rw [HE2.out]
          go_wp2
          go_ret2
          exact ⟨_, ret_tb (by rw [HR.out]; rfl), own_eq (xs := []) (World.ownsRow_nil _ _ _ _) (by rw [HR.out]; rfl), HB0.out⟩
      · clear hw
        go_enter Tryd.func18, Tryd.ntmps18
        go_upto_region 1 with fail
        rw [HE2.out]
        go_wp2
        go_ret2
        exact ⟨_, ret_tb (by rw [HR.out]; rfl), own_eq (xs := []) (World.ownsRow_nil _ _ _ _) (by rw [HR.out]; rfl), HB0.out⟩
  | true =>
    obtain ⟨k, z, x, rfl, hx, hxz, hz, hzk⟩ := whl_yes hw
    have HR : Hid (kid ns k = kds ns (k + z) (k + 1)) := kid_at hx hxz hw
    rcases HL.out with rfl | ⟨b, o, rfl, hL⟩
    · simp at hx
    have HLL : Hid (Lies w b o ns) := hL
    have hbw : b < w.heap.size := hL.1
    have y1 := (hL.nd HB0.out hx).2.2.2
    rw [hxz] at y1
    have hk' : (k : Int) < (ns.length : Int) := by omega
    clear hw hx hL
    go_enter Tryd.func18, Tryd.ntmps18
    go_upto_region 1 with fail
    rw [HE2.out]
    go_wp2
    clear x0 y1
    go_loopw [7, 8] (fun v i wr => ∃ (m : Nat) (acc : List Int), k < m ∧ m ≤ k + z ∧ i = .int .i64 m ∧ acc.length ≤ m ∧ Below (w.heap.size + 1) w2 wr ∧ wr.ownsRow (w.heap.size + 1) 3 1 v acc.length (flat acc) ∧ kid ns k = (kds ns (k + z) m).map (fun l => acc ++ l)) (fun _ i _ => k + z - (intOf i).toNat)
    case atStart => exact ⟨k + 1, [], by omega, by omega, by go_num, by simp, Below.refl _ _, World.ownsRow_nil _ _ _ _, by rw [HR.out]; simp⟩
    case round =>
      obtain ⟨m, acc, hm0, hm1, rfl, hacc, hbel, hown, heq⟩ := hrel
      have HEQ : Hid (kid ns k = (kds ns (k + z) m).map (fun l => acc ++ l)) := heq
      have HB : Hid (Below (w.heap.size + 1) w2 wr) := hbel
      have hlt1 : Hid (∀ k, u7.ownBlock = some k → w.heap.size + 1 ≤ k ∧ k < wr.heap.size) := hown.lt
      have HO : Hid (wr.ownsRow (w.heap.size + 1) 3 1 u7 acc.length (flat acc)) := hown
      have HWB : Hid (Below w.heap.size w wr) := HB0.out.trans (hbel.mono (by omega))
      have hsr : w.heap.size + 1 ≤ wr.heap.size := by have := hbel.size; have := HS2.out; omega
      clear heq hbel hown
      by_cases hlt : m < k + z
      · have hmn : m < ns.length := by omega
        obtain ⟨e, he⟩ : ∃ e, ns[m]? = some e := ⟨_, List.getElem?_eq_getElem hmn⟩
        have HE : Hid (ns[m]? = some e) := he
        clear he
        have hm' : (m : Int) < (ns.length : Int) := by omega
        go_wp2_with (at_builtin; (refine wpList_append_own _ rfl (.tmp 42) (.tmp 44) 43 rfl (w.heap.size + 1) 3 i0 (.int .i64 0) 1 8 Tryd.underlying43 hi hz0 hz1 hz2 rfl (by decide) _ _ _ rfl (HO.out.alloc _) ⟨wr.heap.size, 0, none⟩ 1 1 (flat [(m : Int)]) rfl rfl (cells_new wr (flat [(m : Int)]) 3) (flat_oneCell _) ?_ ?_ ?_ ?_))
        case refine_1 => unfold maxLen; omega
        case refine_2 => omega
        case refine_3 => simp; omega
        intro v4 w4 hown4 hgrow4 _
        have b4 : Below (w.heap.size + 1) w2 w4 := (HB.out.alloc hsr _).grown hgrow4 (by simp; omega) (fun k h => (hlt1.out k h).1)
        have HB4 : Hid (Below (w.heap.size + 1) w2 w4) := b4
        have HWB4 : Hid (Below w.heap.size w w4) := HB0.out.trans (b4.mono (by omega))
        have HO4 : Hid (w4.ownsRow (w.heap.size + 1) 3 1 v4 (acc ++ [(m : Int)]).length (flat (acc ++ [(m : Int)]))) := by
          unfold Hid; rw [flat_append, List.length_append]; exact hown4
        clear hgrow4 hown4
        have y0 := (HX0.out.below b4 (by omega)).one
        have y1 := (HLL.out.nd (HB0.out.trans (b4.mono (by omega))) HE.out).2.2.2
        clear b4
        by_cases g1 : 1 ≤ e.s
        · by_cases g2 : e.s ≤ ((k + z : Nat) : Int) - m
          · obtain ⟨q, hq⟩ : ∃ q : Nat, e.s = q := ⟨e.s.toNat, by omega⟩
            have HS : Hid (kid ns k = (kds ns (k + z) (m + q)).map (fun l => (acc ++ [(m : Int)]) ++ l)) := by
              unfold Hid
              rw [HEQ.out, kds_step hlt HE.out g1 g2, hq, Int.toNat_natCast, Option.map_map]
              congr 1
              funext l
              simp
            rw [hq] at y1 g1 g2
            clear hq HEQ
            go_wp2
            go_roundw
            case rel => exact ⟨m + q, acc ++ [(m : Int)], by omega, by omega, by go_num, by simp; omega, HB4.out, HO4.out, HS.out⟩
            case measure => simp [intOf]; omega
          · have HS : Hid (kid ns k = none) := by
              unfold Hid
              rw [HEQ.out, kds_bad hlt HE.out (by omega)]
              rfl
            go_wp2
            go_ret2
            exact ⟨_, ret_tb (by rw [HS.out]; rfl), own_eq (xs := []) (World.ownsRow_nil _ _ _ _) (by rw [HS.out]; rfl), HWB4.out⟩
        · have HS : Hid (kid ns k = none) := by
            unfold Hid
            rw [HEQ.out, kds_bad hlt HE.out (by omega)]
            rfl
          go_wp2
          go_ret2
          exact ⟨_, ret_tb (by rw [HS.out]; rfl), own_eq (xs := []) (World.ownsRow_nil _ _ _ _) (by rw [HS.out]; rfl), HWB4.out⟩
      · have HS : Hid (kid ns k = some acc) := by
          unfold Hid
          rw [HEQ.out, kds_end hlt]
          simp
        go_wp2
        go_ret2
        exact ⟨_, ret_tb (by rw [HS.out]; rfl), own_base (own_eq HO.out (by rw [HS.out]; rfl)) (by omega), HWB.out⟩

end Go.Proofs.YtcanabbjliloeaaDoor
