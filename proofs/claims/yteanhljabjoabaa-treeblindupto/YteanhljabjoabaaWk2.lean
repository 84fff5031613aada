import Derived.Test.YteanhljabjoabaaWk
import Derived.Test.YteanhljabjoabaaKd1
import Derived.Sort.QuietIn
namespace Go.Proofs.Yteanhljabjoabaa
open Go Go.RowKit Go.Shelf
attribute [local go_sem] Oper.semAt_some
set_option linter.unusedVariables false

set_option maxRecDepth 1000000 in
set_option maxHeartbeats 1000000 in
theorem walk1s_seq {b : Bool} (F : Fence) (hF : F = Fence.wide) (m : Nat) (hm1 : 2 ≤ m) (bt bn bs : Nat) (a : Option Addr) (cap : Nat) (ns : List Nd) (n : Int) (w : World) (hbt : bt < w.heap.size) (hbn : bn < w.heap.size) (hbs : bs < w.heap.size)
    (c1 : w.cell? ⟨bt, 0, none⟩ = some (.slice a ns.length cap)) (c2 : w.cell? ⟨bn, 0, none⟩ = some (.int .i64 n)) (gq : Nat) (lq : Array Value) (skp : Nat → Bool) (eq : ∀ args w, (callFunc gq args).run Try.prog w = .ok (.enter gq args) w) (c3 : w.cell? ⟨bs, 0, none⟩ = some (.func (.func gq) #[] lq))
    (hsk : ∀ i : Nat, i < ns.length → ∀ W, Below w.heap.size w W → Calls Try.prog gq (#[.int .i64 (i : Int)] ++ lq) W fun e W' => e = .returned (.bool (skp i)) ∧ Below W.heap.size W W') (hL : LiesA w a ns) (hl : ns.length * 32 ≤ 140737488351232) (hn0 : -9223372036854775808 ≤ n) (hn1 : n ≤ 9223372036854775807) :
    SeqO b F m Try.prog 36 #[.pointer (some ⟨bt, 0, none⟩), .pointer (some ⟨bn, 0, none⟩), .pointer (some ⟨bs, 0, none⟩)] w.heap.size (wk ns skp n) w := by
  have hfn : ∀ k, F.fn k := by subst hF; intro k; trivial
  have hro : F.round = none := by subst hF; rfl
  have HF : Hid (F = Fence.wide) := hF
  clear hF
  refine seqO_of (fun l J Jx W hW hnW oJ oX hY h0 => ?_)
  have HLW : Hid (LiesA W a ns) := hL.below hW
  have d1 : W.cell? ⟨bt, 0, none⟩ = some (.slice a ns.length cap) := (hW.cell (p := ⟨bt, 0, none⟩) hbt).trans c1
  have d2 : W.cell? ⟨bn, 0, none⟩ = some (.int .i64 n) := (hW.cell (p := ⟨bn, 0, none⟩) hbn).trans c2
  have hf24 : F.fn 37 := hfn _
  refine callsIn_of_wp Try.func36 rfl (hfn _) ?_ hro
  simp only [Try.ntmps36, List.size_toArray, List.length_cons, List.length_nil, Nat.reduceAdd, Nat.reduceSub, Array.replicate_succ, Array.replicate_zero, List.push_toArray, List.append_toArray, List.nil_append, List.cons_append]
  have h1m : 1 ≤ m := by omega
  have hiw := fun k => toIn (F := F) (n := k) HF.out (isWhole_any a cap ns n W HLW.out (by unfold maxLen; omega) hn0 hn1)
  cases hwl : whl ns n with
  | false =>
    have HX : Hid (wk ns skp n = []) := wk_no hwl
    rw [hwl] at hiw
    gi_wp2_with (gi_at_call 37; refine (hiw _).mono ?_; rintro e W2 ⟨rfl, hb2⟩)
    refine bodyPost_ret (results_none rfl _ _ _) rfl ?_
    refine ⟨⟨_, rfl⟩, .inl ?_⟩
    rw [HX.out]
    exact oJ _ _ _ none h0 (grownBy_of_below hb2) (fun r e => by cases e)
  | true =>
    obtain ⟨k, z, x, rfl, hx, hxz, hz, hzk⟩ := whl_yes hwl
    have HWK : Hid (wk ns skp k = wkl ns skp (k + z) k) := wk_at hx hxz hwl
    rw [hwl] at hiw
    gi_wp2_with (gi_at_call 37; refine (hiw _).mono ?_; rintro e W2 ⟨rfl, hb2⟩)
    rcases hL with h0' | ⟨b2, o2, rfl, hL2'⟩
    · rw [h0'] at hx; simp at hx
    have HLW2 : Hid (Lies w b2 o2 ns) := hL2'
    have hL2 := hL2'.below hW hL2'.1
    clear hL2'
    have d5 := (hL2.nd hb2 hx).2.2.2
    rw [hxz] at d5
    have d1' : W2.cell? ⟨bt, 0, none⟩ = some (.slice (some ⟨b2, o2, none⟩) ns.length cap) := (hb2.cell (p := ⟨bt, 0, none⟩) (by show bt < W.heap.size; omega)).trans d1
    have d2' : W2.cell? ⟨bn, 0, none⟩ = some (.int .i64 (k : Int)) := (hb2.cell (p := ⟨bn, 0, none⟩) (by show bn < W.heap.size; omega)).trans d2
    have hk1 : (k : Int) < (ns.length : Int) := by omega
    have hw1 : IntKind.i64.wrap ((k : Int) + (z : Int)) = (k : Int) + (z : Int) := IntWalk.i64_in _ ⟨by omega, by omega⟩
    have HJ2 : Hid (J [] W2) := oJ _ _ _ none h0 (grownBy_of_below hb2) (fun r e => by cases e)
    have HB2 : Hid (Below w.heap.size w W2) := hW.trans (hb2.mono hnW)
    have HX : Hid (ns[k]? = some x) := hx
    clear hx hiw d1 d2 hb2 hL2
    obtain rfl := HF.out
    gi_quiet (fail)
    clear HF
    gi_wp2
    gi_loopw [6] (fun p wr => ∃ (j : Nat) (pre : List Int), p = .int .i64 (j : Int) ∧ j ≤ k + z ∧ wk ns skp k = pre ++ wkl ns skp (k + z) j ∧ J pre wr ∧ Below w.heap.size w wr) (fun p _ => k + z - (intOf p).toNat)
    case atStart => exact ⟨k, [], rfl, by omega, HWK.out, oJ _ _ _ none HJ2.out (grownBy_of_below (bel_drewN _ _)) (fun r e => by cases e), HB2.out.trans (bel_drewN _ _)⟩
    case round =>
      obtain ⟨j, pre, rfl, hj, hwk, hJ, hB⟩ := hrel
      by_cases hje : j < k + z
      · have hje2 : (j : Int) < (k : Int) + (z : Int) := by omega
        have hjl : j < ns.length := by omega
        have hjl2 : (j : Int) < (ns.length : Int) := by omega
        obtain ⟨y, hy0⟩ : ∃ y, ns[j]? = some y := ⟨_, List.getElem?_eq_getElem hjl⟩
        have HY0 : Hid (ns[j]? = some y) := hy0
        obtain ⟨post, hpost⟩ : ∃ post, wkl ns skp (k + z) j = (j : Int) :: post := by
          rw [wkl, dif_pos hje]; exact ⟨_, rfl⟩
        have HP0 : Hid (wkl ns skp (k + z) j = (j : Int) :: post) := hpost
        rw [hpost] at hwk
        obtain ⟨fn, tmps, assign, body, hy, hR⟩ := hY pre j _ wr hwk hJ
        have HWJ : Hid (wk ns skp k = pre ++ (j : Int) :: post) := hwk
        clear hwk hy0 hpost
        gi_wp2
        refine hR.mono ?_
        rintro e W3 (⟨rfl, hJ3, hk3⟩ | ⟨rfl, hJx3⟩)
        · have hB3 : Below w.heap.size w W3 := hB.trans hk3
          have e3 : W3.cell? ⟨bs, 0, none⟩ = some (.func (.func gq) #[] lq) := (hB3.cell (p := ⟨bs, 0, none⟩) hbs).trans c3
          have hfq : Fence.wide.fn gq := trivial
          have hnn := neq_fun
          have hK : ∀ q, CallsIn Fence.wide q Try.prog gq (#[.int .i64 (j : Int)] ++ lq) W3 fun e W' => e = .returned (.bool (skp j)) ∧ Below W3.heap.size W3 W' := fun q => callsIn_wide.2 (hsk j hjl W3 hB3)
          cases hsj : skp j with
          | false =>
            rw [hsj] at hK
            have HPP : Hid (post = wkl ns skp (k + z) (j + 1)) := by have := HP0.out; rw [wkl_one hje hsj] at this; exact (List.cons.inj this).2.symm
            have hjs : (1 : Int) ≤ (k : Int) + (z : Int) - (j : Int) := by omega
            gi_wp2_with (gi_at_fn gq; refine (hK _).mono ?_; rintro e W4 ⟨rfl, hb4⟩)
            go_roundw
            case rel => exact ⟨j + 1, pre ++ [(j : Int)], by simp, by omega, by rw [HWJ.out, HPP.out]; simp, oJ _ _ _ none hJ3 (grownBy_of_below hb4) (fun r e => by cases e), hB3.trans (hb4.mono hB3.size)⟩
            case measure => simp [intOf]; omega
          | true =>
            rw [hsj] at hK
            by_cases hs1 : 1 ≤ y.s ∧ y.s ≤ ((k + z : Nat) : Int) - j
            · obtain ⟨v, hv⟩ : ∃ v : Nat, y.s = v := ⟨y.s.toNat, by omega⟩
              have HPP : Hid (post = wkl ns skp (k + z) (j + v)) := by
                have := HP0.out; rw [wkl_skip hje hsj HY0.out hs1.1 hs1.2, hv, Int.toNat_natCast] at this; exact (List.cons.inj this).2.symm
              have HHS : Hid (1 ≤ v ∧ v + j ≤ k + z) := ⟨by omega, by omega⟩
              have v1 : (1 : Int) ≤ (v : Int) := by omega
              have v2 : (v : Int) ≤ (k : Int) + (z : Int) - (j : Int) := by omega
              gi_wp2_with (gi_at_fn gq; refine (hK _).mono ?_; rintro e W4 ⟨rfl, hb4⟩; have HB4 : Hid (Below W3.heap.size W3 W4) := hb4; have k1 : W4.cell? ⟨bt, 0, none⟩ = some (.slice (some ⟨b2, o2, none⟩) ns.length cap) := ((hB3.trans (hb4.mono hB3.size)).cell (p := ⟨bt, 0, none⟩) hbt).trans c1; have k2 := (HLW2.out.nd (hB3.trans (hb4.mono hB3.size)) HY0.out).2.2.2; rw [hv] at k2; clear hb4)
              go_roundw
              case rel => exact ⟨j + v, pre ++ [(j : Int)], by simp, by have := HHS.out; omega, by rw [HWJ.out, HPP.out]; simp, oJ _ _ _ none hJ3 (grownBy_of_below HB4.out) (fun r e => by cases e), hB3.trans (HB4.out.mono hB3.size)⟩
              case measure => have := HHS.out; simp [intOf]; omega
            · have HPP : Hid (post = []) := by
                have := HP0.out; rw [wkl_bad hje hsj HY0.out hs1] at this; exact (List.cons.inj this).2.symm
              have HHS : Hid (¬ (1 ≤ y.s ∧ y.s ≤ ((k + z : Nat) : Int) - j)) := hs1
              by_cases v1 : y.s < 1
              · gi_wp2_with (gi_at_fn gq; refine (hK _).mono ?_; rintro e W4 ⟨rfl, hb4⟩; have HB4 : Hid (Below W3.heap.size W3 W4) := hb4; have k1 : W4.cell? ⟨bt, 0, none⟩ = some (.slice (some ⟨b2, o2, none⟩) ns.length cap) := ((hB3.trans (hb4.mono hB3.size)).cell (p := ⟨bt, 0, none⟩) hbt).trans c1; have k2 := (HLW2.out.nd (hB3.trans (hb4.mono hB3.size)) HY0.out).2.2.2; clear hb4)
                refine bodyPost_ret (results_none rfl _ _ _) rfl ?_
                exact ⟨⟨_, rfl⟩, .inl (by rw [HWJ.out, HPP.out]; exact oJ _ _ _ none hJ3 (grownBy_of_below HB4.out) (fun r e => by cases e))⟩
              · have v2 : (k : Int) + (z : Int) - (j : Int) < y.s := by omega
                have v0 : (1 : Int) ≤ y.s := by omega
                clear hs1
                gi_wp2_with (gi_at_fn gq; refine (hK _).mono ?_; rintro e W4 ⟨rfl, hb4⟩; have HB4 : Hid (Below W3.heap.size W3 W4) := hb4; have k1 : W4.cell? ⟨bt, 0, none⟩ = some (.slice (some ⟨b2, o2, none⟩) ns.length cap) := ((hB3.trans (hb4.mono hB3.size)).cell (p := ⟨bt, 0, none⟩) hbt).trans c1; have k2 := (HLW2.out.nd (hB3.trans (hb4.mono hB3.size)) HY0.out).2.2.2; clear hb4)
                refine bodyPost_ret (results_none rfl _ _ _) rfl ?_
                exact ⟨⟨_, rfl⟩, .inl (by rw [HWJ.out, HPP.out]; exact oJ _ _ _ none hJ3 (grownBy_of_below HB4.out) (fun r e => by cases e))⟩
        · gi_wp2
          refine bodyPost_ret (results_none rfl _ _ _) rfl ?_
          exact ⟨⟨_, rfl⟩, .inr ⟨pre ++ [(j : Int)], ⟨post, by rw [HWJ.out]; simp⟩, hJx3⟩⟩
      · rw [wkl_end hje] at hwk
        have HWJ : Hid (wk ns skp k = pre ++ []) := hwk
        have hje2 : ¬ (j : Int) < (k : Int) + (z : Int) := by omega
        clear hwk
        gi_wp2
        go_end0
        exact ⟨⟨_, rfl⟩, .inl (by rw [HWJ.out]; simpa using hJ)⟩
end Go.Proofs.Yteanhljabjoabaa
