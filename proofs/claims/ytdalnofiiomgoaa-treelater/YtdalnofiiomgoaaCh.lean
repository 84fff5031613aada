import Derived.Test.YtdalnofiiomgoaaWk2
import Derived.Test.YtdalnofiiomgoaaKd2
import Derived.Test.YtdalnofiiomgoaaCls
import Derived.Laws.BitsLemmas
import Derived.Deep.RegionHeld3
import Derived.Deep.AppendLies
import Derived.Deep.DrawnRows
import Derived.Deep.DeepCutAuto
namespace Go.Proofs.Ytdalnofiiomgoaa
open Go.ChangeShapes Go.WideShapes Go.ChangeAt Go.RowKit
set_option linter.unusedVariables false

theorem wr_u64 (n : Int) (h0 : 0 ≤ n) (h1 : n < 2 ^ 64) : IntKind.u64.wrap n = n := by
  simp [IntKind.wrap, IntKind.bits, IntKind.signed]; omega
/-- the bit of a number -/
def chV (u : Int) (k : Nat) : Int := bits .and .u64 (u / 2 ^ min (IntKind.u64.wrap (bits .and .i64 (k : Int) 63)).toNat 64) 1
theorem chV_mod (u : Int) (k : Nat) (h0 : 0 ≤ u) (h1 : u < 18446744073709551616) : chV u k = (u / 2 ^ min (IntKind.u64.wrap (bits .and .i64 (k : Int) 63)).toNat 64) % 2 := by
  have hp : (0 : Int) < 2 ^ min (IntKind.u64.wrap (bits .and .i64 (k : Int) 63)).toNat 64 := Int.pow_pos (by decide)
  have a0 : 0 ≤ u / 2 ^ min (IntKind.u64.wrap (bits .and .i64 (k : Int) 63)).toNat 64 := Int.ediv_nonneg h0 (by omega)
  have a1 : u / 2 ^ min (IntKind.u64.wrap (bits .and .i64 (k : Int) 63)).toNat 64 ≤ u := Int.ediv_le_self _ h0
  exact bits_mask .u64 64 (by decide) wr_u64 1 (by decide) _ a0 (by omega)
def chB (u : Int) (k : Nat) : Bool := chV u k == 1
theorem chB_no {u : Int} {k : Nat} (h0 : 0 ≤ u) (h1 : u < 18446744073709551616) (h : chB u k = false) : chV u k = 0 := by
  have := chV_mod u k h0 h1
  have hne : chV u k ≠ 1 := by intro e; rw [chB, e] at h; cases h
  omega
theorem chB_yes {u : Int} {k : Nat} (h : chB u k = true) : chV u k = 1 := by unfold chB at h; simpa using h
theorem chB_zero : chB 0 = fun _ => false := by
  funext k
  have := chV_mod 0 k (by decide) (by decide)
  rw [Int.zero_ediv] at this
  unfold chB
  rw [this]; rfl

theorem chosen_any (u : Int) (w : World) : Calls Try.prog 10 #[.int .u64 u] w fun e w' => e = .returned (.func (.func 22) #[] #[.pointer (some ⟨w.heap.size, 0, none⟩)]) ∧ w' = w.alloc (.cells #[.int .u64 u] 28) := by
  go_enter Try.func10, Try.ntmps10
  go_wp2
  go_ret
  exact ⟨rfl, rfl⟩
theorem chosen1_any (u : Int) (k : Nat) (b : Nat) (w : World) (hc : w.cell? ⟨b, 0, none⟩ = some (.int .u64 u)) (hk : k < 9223372036854775808) (h0 : 0 ≤ u) (h1 : u < 18446744073709551616) : Calls Try.prog 22 #[.int .i64 (k : Int), .pointer (some ⟨b, 0, none⟩)] w fun e w' => e = .returned (.bool (chB u k)) ∧ w' = w := by
  go_enter Try.func22, Try.ntmps22
  go_wp2
  go_ret
  exact ⟨rfl, rfl⟩

/-- what the reference's walk gives: no more than st, if that is not below nought -/
def wkT (ns : List Nd) (skp : Nat → Bool) (n st : Int) : List Int := if st < 0 then wk ns skp n else (wk ns skp n).take st.toNat
theorem wkT_all {ns : List Nd} {skp : Nat → Bool} {n st : Int} {pre : List Int} (h : wk ns skp n = pre) (hp : st < 0 ∨ (pre.length : Int) ≤ st) : wkT ns skp n st = pre := by
  unfold wkT
  split
  · exact h
  · rw [h]; exact List.take_of_length_le (by omega)
theorem wkT_cut {ns : List Nd} {skp : Nat → Bool} {n st : Int} {pre post : List Int} (h : wk ns skp n = pre ++ post) (hp : (pre.length : Int) = st) : wkT ns skp n st = pre := by
  unfold wkT
  rw [if_neg (by omega), h, List.take_append_of_le_length (by omega), List.take_of_length_le (by omega)]

set_option maxRecDepth 1000000 in
set_option maxHeartbeats 4000000 in
theorem rwalk_any (a : Option Addr) (cap : Nat) (ns : List Nd) (n u st : Int) (w : World) (h : LiesA w a ns) (hl : ns.length * 32 ≤ 140737488351232) (hn0 : -9223372036854775808 ≤ n) (hn1 : n ≤ 9223372036854775807) (hu0 : 0 ≤ u) (hu1 : u < 18446744073709551616) (hst : st ≠ 0) :
    Calls Try.prog 12 #[.agg #[.slice a ns.length cap], .int .i64 n, .int .u64 u, .int .i64 st] w fun e w' => ∃ v, e = .returned v ∧
      w'.ownsRow w.heap.size 3 1 v (wkT ns (chB u) n st).length (flat (wkT ns (chB u) n st)) ∧ Below w.heap.size w w' := by
  obtain ⟨i0, hi, hz0, hz1, hz2⟩ := info_parts infoInt
  have HL : Hid (LiesA w a ns) := h
  have HST : Hid (st ≠ 0) := hst
  obtain ⟨w2, e2, hw, hs2, B0⟩ := bx1 w #[.slice a ns.length cap] 25
  have HB0 : Hid (Below w.heap.size w w2) := hw
  have HX0 : Hid (Bx w2 w.heap.size #[.slice a ns.length cap] 25) := B0
  have HS2 : Hid (w2.heap.size = w.heap.size + 1) := hs2
  have HE2 : Hid (w.alloc (.cells #[.slice a ns.length cap] 25) = w2) := e2
  obtain ⟨X, F, hX, hF, onto⟩ := class_of (fun v => Below w2.heap.size w2 v) (Below.refl _ w2)
  have HF : Hid (∀ y, Below w2.heap.size w2 (F y)) := hF
  have HO : Hid (∀ v, Below w2.heap.size w2 v → ∃ x, v = F x) := fun v h => by obtain ⟨x, hx⟩ := onto v h; exact ⟨x, hx.symm⟩
  have f1 : ∀ y, (F y).cell? ⟨w.heap.size, 0, none⟩ = some (.slice a ns.length cap) := fun y => ((hF y).cell (p := ⟨w.heap.size, 0, none⟩) (by show w.heap.size < w2.heap.size; omega)).trans B0.one
  have HV : Hid (∀ y, Below w.heap.size w (F y)) := fun y => HB0.out.trans ((hF y).mono HB0.out.size)
  clear h hw hs2 B0 e2 hF onto hst
  cases hwl : whl ns n with
  | false =>
    have HR : Hid (wkT ns (chB u) n st = []) := by
      unfold Hid wkT; rw [wk_no hwl]; simp
    by_cases h0 : n < 0
    · clear hwl
      go_enter Try.func12, Try.ntmps12
      go_upto_region 1 with fail
      rw [HE2.out]
      refine region_class F (by kernel_rfl) (by kernel_rfl) (by obtain ⟨x, hx⟩ := HO.out _ (Below.refl _ _).drew; exact ⟨x, hx.symm⟩) ?_
      repeat (go_big_quiet_step (fail))
      refine wpQuiet_nil ?_
      rintro _ ⟨nq, rfl⟩
      go_wp2
      go_ret
      exact ⟨_, rfl, own_eq (xs := []) (World.ownsRow_nil _ _ _ _) HR.out.symm, HV.out nq⟩
    · obtain ⟨k, rfl⟩ : ∃ k : Nat, n = k := ⟨n.toNat, by omega⟩
      by_cases h1 : k < ns.length
      · obtain ⟨x, hx⟩ : ∃ e, ns[k]? = some e := ⟨_, List.getElem?_eq_getElem h1⟩
        rw [whl_at hx] at hwl
        rcases HL.out with rfl | ⟨b, o, rfl, hL⟩
        · simp at hx
        have f2 := fun y => (hL.nd (HV.out y) hx).2.2.2
        have hk' : (k : Int) < (ns.length : Int) := by omega
        have hk0 : ¬ (k : Int) < 0 := by omega
        have hk2 : ¬ (ns.length : Int) ≤ (k : Int) := by omega
        have hw1 : IntKind.i64.wrap ((ns.length : Int) - (k : Int)) = (ns.length : Int) - (k : Int) := IntWalk.i64_in _ ⟨by omega, by omega⟩
        clear hL hx
        by_cases g1 : 1 ≤ x.s
        · have g2 : (ns.length : Int) - k < x.s := by
            by_cases hh : x.s ≤ (ns.length : Int) - k
            · simp [g1, hh] at hwl
            · omega
          have g0 : ¬ x.s < 1 := by omega
          clear hwl
          go_enter Try.func12, Try.ntmps12
          go_upto_region 1 with fail
          rw [HE2.out]
          refine region_class F (by kernel_rfl) (by kernel_rfl) (by obtain ⟨x, hx⟩ := HO.out _ (Below.refl _ _).drew; exact ⟨x, hx.symm⟩) ?_
          repeat (go_big_quiet_step (fail))
          refine wpQuiet_nil ?_
          rintro _ ⟨nq, rfl⟩
          go_wp2
          go_ret
          exact ⟨_, rfl, own_eq (xs := []) (World.ownsRow_nil _ _ _ _) HR.out.symm, HV.out nq⟩
        · have g0 : x.s < 1 := by omega
          clear hwl g1
          go_enter Try.func12, Try.ntmps12
          go_upto_region 1 with fail
          rw [HE2.out]
          refine region_class F (by kernel_rfl) (by kernel_rfl) (by obtain ⟨x, hx⟩ := HO.out _ (Below.refl _ _).drew; exact ⟨x, hx.symm⟩) ?_
          repeat (go_big_quiet_step (fail))
          refine wpQuiet_nil ?_
          rintro _ ⟨nq, rfl⟩
          go_wp2
          go_ret
          exact ⟨_, rfl, own_eq (xs := []) (World.ownsRow_nil _ _ _ _) HR.out.symm, HV.out nq⟩
      · have h2 : (ns.length : Int) ≤ (k : Int) := by omega
        have hk0 : ¬ (k : Int) < 0 := by omega
        clear hwl h1
        go_enter Try.func12, Try.ntmps12
        go_upto_region 1 with fail
        rw [HE2.out]
        refine region_class F (by kernel_rfl) (by kernel_rfl) (by obtain ⟨x, hx⟩ := HO.out _ (Below.refl _ _).drew; exact ⟨x, hx.symm⟩) ?_
        repeat (go_big_quiet_step (fail))
        refine wpQuiet_nil ?_
        rintro _ ⟨nq, rfl⟩
        go_wp2
        go_ret
        exact ⟨_, rfl, own_eq (xs := []) (World.ownsRow_nil _ _ _ _) HR.out.symm, HV.out nq⟩
  | true =>
    obtain ⟨k, z, x, rfl, hx, hxz, hz, hzk⟩ := whl_yes hwl
    have HWK : Hid (wk ns (chB u) k = wkl ns (chB u) (k + z) k) := wk_at hx hxz hwl
    rcases HL.out with rfl | ⟨b, o, rfl, hL⟩
    · simp at hx
    have HLL : Hid (Lies w b o ns) := hL
    have hbw : b < w.heap.size := hL.1
    have f2 := fun y => (hL.nd (HV.out y) hx).2.2.2
    rw [hxz] at f2
    have hk' : (k : Int) < (ns.length : Int) := by omega
    have hk0 : ¬ (k : Int) < 0 := by omega
    have hk2 : ¬ (ns.length : Int) ≤ (k : Int) := by omega
    have g0 : ¬ (z : Int) < 1 := by omega
    have g2 : ¬ (ns.length : Int) - (k : Int) < (z : Int) := by omega
    have hw1 : IntKind.i64.wrap ((ns.length : Int) - (k : Int)) = (ns.length : Int) - (k : Int) := IntWalk.i64_in _ ⟨by omega, by omega⟩
    clear hwl hx hL
    go_enter Try.func12, Try.ntmps12
    go_upto_region 1 with fail
    rw [HE2.out]
    refine region_class F (by kernel_rfl) (by kernel_rfl) (by obtain ⟨x, hx⟩ := HO.out _ (Below.refl _ _).drew; exact ⟨x, hx.symm⟩) ?_
    repeat (go_big_quiet_step (fail))
    refine wpQuiet_nil ?_
    rintro _ ⟨nq, rfl⟩
    obtain ⟨wq, hwq⟩ : ∃ wq, F nq = wq := ⟨_, rfl⟩
    have HQ : Hid (Below w2.heap.size w2 wq) := hwq ▸ HF.out nq
    have q0 : wq.cell? ⟨w.heap.size, 0, none⟩ = some (.slice (some ⟨b, o, none⟩) ns.length cap) := hwq ▸ f1 nq
    have q1 := f2 nq
    rw [hwq] at q1 ⊢
    clear hwq f1 f2 HF HO HV
    go_wp2
    clear q0 q1
    have hw2s : w.heap.size < w2.heap.size := by have := HS2.out; omega
    go_loopw [10, 11] (fun v i wr => ∃ (j : Nat) (pre : List Int), i = .int .i64 (j : Int) ∧ k ≤ j ∧ j ≤ k + z ∧ pre.length ≤ j ∧ (pre.length : Int) ≠ st ∧ (st < 0 ∨ (pre.length : Int) < st) ∧ Below w2.heap.size w2 wr ∧ wr.ownsRow w2.heap.size 3 1 v pre.length (flat pre) ∧ wk ns (chB u) k = pre ++ wkl ns (chB u) (k + z) j) (fun _ i _ => k + z - (intOf i).toNat)
    case atStart => exact ⟨k, [], rfl, by omega, by omega, by simp, by have := HST.out; simp; omega, by have := HST.out; simp; omega, HQ.out, World.ownsRow_nil _ _ _ _, by rw [HWK.out]; simp⟩
    case round =>
      obtain ⟨j, pre, rfl, hj0, hj1, hpl, hps, hpst, hbel, hown, hwk⟩ := hrel
      have HWJ : Hid (wk ns (chB u) k = pre ++ wkl ns (chB u) (k + z) j) := hwk
      have HB : Hid (Below w2.heap.size w2 wr) := hbel
      have hlt1 : Hid (∀ k, u10.ownBlock = some k → w2.heap.size ≤ k ∧ k < wr.heap.size) := hown.lt
      have HO : Hid (wr.ownsRow w2.heap.size 3 1 u10 pre.length (flat pre)) := hown
      have HWB : Hid (Below w.heap.size w wr) := HB0.out.trans (hbel.mono (by omega))
      have hsr : w2.heap.size ≤ wr.heap.size := hbel.size
      have HPS : Hid (st < 0 ∨ (pre.length : Int) < st) := hpst
      have hps' : ((pre.length : Int) == st) = false := beq_eq_false_iff_ne.2 hps
      clear hwk hbel hown hpst hps
      obtain ⟨a10, c10, rfl, q10, hq10, hnn10⟩ := own_form HO.out
      clear q10 hq10 hnn10
      by_cases hje : j < k + z
      · have hje' : (j : Int) < (k : Int) + (z : Int) := by omega
        have hjl : j < ns.length := by omega
        have hjl' : (j : Int) < (ns.length : Int) := by omega
        obtain ⟨y, hy⟩ : ∃ e, ns[j]? = some e := ⟨_, List.getElem?_eq_getElem hjl⟩
        have HY : Hid (ns[j]? = some y) := hy
        obtain ⟨post, hpost⟩ : ∃ post, wkl ns (chB u) (k + z) j = (j : Int) :: post := by rw [wkl, dif_pos hje]; exact ⟨_, rfl⟩
        have HP0 : Hid (wkl ns (chB u) (k + z) j = (j : Int) :: post) := hpost
        clear hy hpost
        go_wp2_with (at_builtin; (refine wpList_append_own _ rfl (.tmp 62) (.tmp 64) 29 rfl w2.heap.size 3 i0 (.int .i64 0) 1 8 Try.underlying29 hi hz0 hz1 hz2 rfl (by decide) _ _ _ rfl (HO.out.alloc _) ⟨wr.heap.size, 0, none⟩ 1 1 (flat [(j : Int)]) rfl rfl (cells_new wr (flat [(j : Int)]) 3) (flat_oneCell _) ?_ ?_ ?_ ?_))
        case refine_1 => unfold maxLen; omega
        case refine_2 => omega
        case refine_3 => simp; omega
        intro v4 w4 hown4 hgrow4 _
        have b4 : Below w2.heap.size w2 w4 := (HB.out.alloc hsr _).grown hgrow4 (by simp; omega) (fun k h => (hlt1.out k h).1)
        have HB4 : Hid (Below w2.heap.size w2 w4) := b4
        have HWB4 : Hid (Below w.heap.size w w4) := HB0.out.trans (b4.mono (by omega))
        obtain ⟨g4, c4, rfl⟩ := ownsRow_succ hown4
        have HO4 : Hid (w4.ownsRow w2.heap.size 3 1 (.slice (some ⟨g4, 0, none⟩) (pre.length + 1) c4) (pre ++ [(j : Int)]).length (flat (pre ++ [(j : Int)]))) := by
          unfold Hid; rw [flat_append, List.length_append]; exact hown4
        clear hgrow4 hown4
        have y0 := (HX0.out.below b4 (by omega)).one
        have y1 := (HLL.out.nd HWB4.out HY.out).2.2.2
        clear b4
        by_cases hcut : (pre.length : Int) + 1 = st
        · have HR : Hid (wkT ns (chB u) k st = pre ++ [(j : Int)]) := wkT_cut (post := post) (by rw [HWJ.out, HP0.out]; simp) (by simp; omega)
          have hc' : ((pre.length : Int) + 1 == st) = true := by simp [hcut]
          clear hcut
          go_wp2
          go_ret
          exact ⟨_, rfl, own_base (own_eq HO4.out HR.out.symm) (by omega), HWB4.out⟩
        · have hc' : ((pre.length : Int) + 1 == st) = false := beq_eq_false_iff_ne.2 hcut
          have HPS2 : Hid (st < 0 ∨ (pre.length : Int) + 1 < st) := by have := HPS.out; unfold Hid; omega
          have HCUT : Hid ((pre.length : Int) + 1 ≠ st) := hcut
          clear hcut
          cases hch : chB u j with
          | false =>
            have hv : bits .and .u64 (u / 2 ^ min (IntKind.u64.wrap (bits .and .i64 (j : Int) 63)).toNat 64) 1 = 0 := chB_no hu0 hu1 hch
            have HPP : Hid (post = wkl ns (chB u) (k + z) (j + 1)) := by have := HP0.out; rw [wkl_one hje hch] at this; exact (List.cons.inj this).2.symm
            go_wp2
            go_roundw
            case rel => exact ⟨j + 1, pre ++ [(j : Int)], by simp, by omega, by omega, by simp; omega, by have := HCUT.out; simpa using this, by have := HPS2.out; simpa using this, HB4.out, by simpa using HO4.out, by rw [HWJ.out, HP0.out, HPP.out]; simp⟩
            case measure => simp [intOf]; omega
          | true =>
            have hv : bits .and .u64 (u / 2 ^ min (IntKind.u64.wrap (bits .and .i64 (j : Int) 63)).toNat 64) 1 = 1 := chB_yes hch
            by_cases hs1 : 1 ≤ y.s ∧ y.s ≤ ((k + z : Nat) : Int) - j
            · obtain ⟨v, hv2⟩ : ∃ v : Nat, y.s = v := ⟨y.s.toNat, by omega⟩
              have HPP : Hid (post = wkl ns (chB u) (k + z) (j + v)) := by
                have := HP0.out; rw [wkl_skip hje hch HY.out hs1.1 hs1.2, hv2, Int.toNat_natCast] at this; exact (List.cons.inj this).2.symm
              have HHS : Hid (1 ≤ v ∧ v + j ≤ k + z) := ⟨by omega, by omega⟩
              have v1 : (1 : Int) ≤ (v : Int) := by omega
              have v2 : (v : Int) ≤ (k : Int) + (z : Int) - (j : Int) := by omega
              rw [hv2] at y1
              clear hs1 hv2
              go_wp2
              go_roundw
              case rel => exact ⟨j + v, pre ++ [(j : Int)], by simp, by omega, by have := HHS.out; omega, by have := HHS.out; simp; omega, by have := HCUT.out; simpa using this, by have := HPS2.out; simpa using this, HB4.out, by simpa using HO4.out, by rw [HWJ.out, HP0.out, HPP.out]; simp⟩
              case measure => have := HHS.out; simp [intOf]; omega
            · have HPP : Hid (post = []) := by
                have := HP0.out; rw [wkl_bad hje hch HY.out hs1] at this; exact (List.cons.inj this).2.symm
              have HR : Hid (wkT ns (chB u) k st = pre ++ [(j : Int)]) := wkT_all (by rw [HWJ.out, HP0.out, HPP.out]) (by have := HPS2.out; simp; omega)
              by_cases v1 : y.s < 1
              · go_wp2
                go_ret
                exact ⟨_, rfl, own_base (own_eq HO4.out HR.out.symm) (by omega), HWB4.out⟩
              · have v2 : (k : Int) + (z : Int) - (j : Int) < y.s := by omega
                have v0 : (1 : Int) ≤ y.s := by omega
                clear hs1
                go_wp2
                go_ret
                exact ⟨_, rfl, own_base (own_eq HO4.out HR.out.symm) (by omega), HWB4.out⟩
      · have hje' : ¬ (j : Int) < (k : Int) + (z : Int) := by omega
        have HR : Hid (wkT ns (chB u) k st = pre) := wkT_all (by rw [HWJ.out, wkl_end hje]; simp) (by have := HPS.out; omega)
        go_wp2
        go_ret
        exact ⟨_, rfl, own_base (own_eq HO.out HR.out.symm) (by omega), HWB.out⟩
end Go.Proofs.Ytdalnofiiomgoaa
