import Derived.Test.YtaploloedocgbaaDoorAtsW
import Derived.Test.YtaploloedocgbaaDoorRf2
import Derived.Test.YtaploloedocgbaaDoorKd1
import Derived.Sort.QuietIn
namespace Go.Proofs.YtaploloedocgbaaDoor
open Go.ChangeShapes Go.WideShapes Go.ChangeAt Go.RowKit
set_option linter.unusedVariables false

def upQ (ns : List Nd) (n : Nat) (i : Int) : Bool := match ns[i.toNat]? with | some x => upB ns n i.toNat x | none => false
theorem upQ_head (ns : List Nd) (n k : Nat) : ((dwn k).filter (upQ ns n)).headD (-1) = upF ns n k := by
  induction k with
  | zero => rfl
  | succ k ih =>
    have e : upQ ns n (k : Int) = match ns[k]? with | some x => upB ns n k x | none => false := by simp [upQ]
    rw [dwn, List.filter_cons, e, upF]
    cases hx : ns[k]? with
    | none => simp only [Bool.false_eq_true, if_false]; exact ih
    | some x =>
      cases hb : upB ns n k x with
      | false => dsimp only; rw [if_neg (by simp [hb]), if_neg (by simp [hb])]; exact ih
      | true => dsimp only; rw [if_pos hb, if_pos hb]; rfl

set_option maxRecDepth 1000000 in
set_option maxHeartbeats 1000000 in
theorem up_any (a : Option Addr) (cap : Nat) (ns : List Nd) (n : Int) (w : World) (h : LiesA w a ns) (hl : ns.length * 32 ≤ 140737488351232) (hn0 : -9223372036854775808 ≤ n) (hn1 : n ≤ 9223372036854775807) :
    Calls Tryd.prog 17 #[.agg #[.slice a ns.length cap], .int .i64 n] w fun e w' => e = .returned (.int .i64 (upN ns n)) ∧ Below w.heap.size w w' := by
  have H : Hid (LiesA w a ns) := h
  obtain ⟨w3, e3, b3, s3, x1, x2⟩ := bx2 w #[.slice a ns.length cap] #[.int .i64 n] 25 3
  have HE3 : Hid ((w.alloc (.cells #[.slice a ns.length cap] 25)).alloc (.cells #[.int .i64 n] 3) = w3) := e3
  have HB3 : Hid (Below w.heap.size w w3) := b3
  have q1 := x1.one
  have q2 := x2.one
  by_cases g0 : 0 ≤ n ∧ n < (ns.length : Int)
  · obtain ⟨m, rfl⟩ : ∃ m : Nat, n = m := ⟨n.toNat, by omega⟩
    have HU : Hid (upN ns m = upF ns m m) := by unfold Hid upN; rw [if_pos g0, Int.toNat_natCast]
    have g1 : m < ns.length := by omega
    have HX1 : Hid (Bx w3 w.heap.size #[.slice a ns.length cap] 25) := x1
    have HX2 : Hid (Bx w3 (w.heap.size + 1) #[.int .i64 (m : Int)] 3) := x2
    have HS3 : Hid (w3.heap.size = w.heap.size + 2) := s3
    have HG : Hid ((decide (0 ≤ (m : Int)) && decide ((m : Int) < (ns.length : Int))) = true) := by unfold Hid; simp [g1]
    clear h e3 b3 s3 x1 x2 g0
    go_enter Tryd.func17, Tryd.ntmps17
    go_upto_region 1 with fail
    rw [HE3.out]
    go_upto_region 3 with (go_at_call 27; refine (isNode_any _ _ _ _ _).mono ?_; rintro e wn ⟨rfl, hwn⟩; rw [HG.out]; have HWN : Hid (Below w3.heap.size w3 wn) := hwn; clear hwn q1 q2)
    have hwn := HWN.out
    have s3 := HS3.out
    have hns := hwn.size
    have x1 := HX1.out.below hwn (by omega)
    have x2 := HX2.out.below hwn (by omega)
    obtain ⟨w4, e4, b4, s4, y1⟩ := bx1 wn #[.int .i64 (m : Int)] 3
    obtain ⟨w5, e5, b5, s5, z1, z2⟩ := bx2 w4 #[.func (.func 58) #[] #[.pointer (some ⟨wn.heap.size, 0, none⟩)]] #[.func (.func 43) #[] #[.pointer (some ⟨w.heap.size, 0, none⟩), .pointer (some ⟨w.heap.size + 1, 0, none⟩)]] 85 89
    have Bn : Below w.heap.size w wn := HB3.out.trans (hwn.mono HB3.out.size)
    have B5 : Below w.heap.size w w5 := (Bn.trans (b4.mono Bn.size)).trans (b5.mono (by omega))
    have F := first_down m 43 w5.heap.size wn.heap.size w4.heap.size (w4.heap.size + 1) _ (upQ ns m) w5 (by omega) (enters_of Tryd.func43 (by kernel_rfl) rfl) (Nat.le_refl _) (by omega) (by omega) (by omega)
      (y1.below b5 (by omega)).one z1.one z2.one (fun i hi W hW hs => by
        obtain ⟨x, hx⟩ : ∃ e, ns[i]? = some e := ⟨_, List.getElem?_eq_getElem (by omega)⟩
        have hB : Below w.heap.size w W := B5.trans (hW.mono B5.size)
        have hB3 : Below wn.heap.size wn W := (b4.trans (b5.mono b4.size)).trans (hW.mono (by omega))
        have hsz := hB3.size
        have := up1_any a cap ns m i x w.heap.size (w.heap.size + 1) W hx hi g1 (H.out.below hB) hl (x1.below hB3 (by omega)).one (x2.below hB3 (by omega)).one (by omega) (by omega)
        have e : upQ ns m (i : Int) = upB ns m i x := by simp [upQ, hx]
        rw [e]
        exact this)
    rw [upQ_head] at F
    have HF : Hid (Calls Tryd.prog 40 #[.func (.func 57) #[] #[.pointer (some ⟨w4.heap.size, 0, none⟩), .pointer (some ⟨w4.heap.size + 1, 0, none⟩)]] w5 fun e W' => e = .returned (.int .i64 (upF ns m m)) ∧ Below w5.heap.size w5 W') := F
    have HB5 : Hid (Below w.heap.size w w5) := B5
    have HE4 : Hid (wn.alloc (.cells #[.int .i64 (m : Int)] 3) = w4) := e4
    have HE5 : Hid ((w4.alloc (.cells #[.func (.func 58) #[] #[.pointer (some ⟨wn.heap.size, 0, none⟩)]] 85)).alloc (.cells #[.func (.func 43) #[] #[.pointer (some ⟨w.heap.size, 0, none⟩), .pointer (some ⟨w.heap.size + 1, 0, none⟩)]] 89) = w5) := e5
    have q2 := x2.one
    clear hwn s3 hns x1 x2 e4 b4 s4 y1 e5 b5 s5 z1 z2 B5 F Bn g1
    go_wp2_with (first
      | (go_at_call 42; refine (down_any _ _).mono ?_; rintro e wd ⟨rfl, hwd⟩; rw [HE4.out] at hwd; subst hwd)
      | (go_at_call 41; refine (asked_any _ _ _ _ _ _ rfl rfl _).mono ?_; rintro e we ⟨rfl, hwe⟩; rw [HE5.out] at hwe; subst hwe)
      | (go_at_call 40; refine HF.out.mono ?_; rintro e w' ⟨rfl, hb⟩))
    go_ret
    exact ⟨ret_i64 HU.out.symm, HB5.out.trans (hb.mono HB5.out.size)⟩
  · have HU : Hid (upN ns n = -1) := by unfold Hid upN; rw [if_neg g0]
    have HG : Hid ((decide (0 ≤ n) && decide (n < (ns.length : Int))) = false) := by
      unfold Hid
      rw [Bool.eq_false_iff]; intro hh
      simp only [Bool.and_eq_true, decide_eq_true_eq] at hh
      exact g0 hh
    clear h e3 b3 s3 x1 x2 g0
    go_enter Tryd.func17, Tryd.ntmps17
    go_upto_region 1 with fail
    rw [HE3.out]
    go_wp2_with (go_at_call 27; refine (isNode_any _ _ _ _ _).mono ?_; rintro e wn ⟨rfl, hwn⟩; rw [HG.out]; have HWN : Hid (Below w3.heap.size w3 wn) := hwn; clear hwn q1 q2)
    go_ret
    exact ⟨ret_i64 HU.out.symm, HB3.out.trans (HWN.out.mono HB3.out.size)⟩
end Go.Proofs.YtaploloedocgbaaDoor

namespace Go.Proofs.YtaploloedocgbaaDoor
open Go Go.RowKit Go.Shelf
attribute [local go_sem] Oper.semAt_some
set_option linter.unusedVariables false

/-- what a walk gives from k on, up to e -/
def wkl (ns : List Nd) (skp : Nat → Bool) (e k : Nat) : List Int :=
  if h : k < e then
    (k : Int) :: (if skp k then (match ns[k]? with
      | some x => if h2 : 1 ≤ x.s ∧ x.s ≤ (e : Int) - k then wkl ns skp e (k + x.s.toNat) else []
      | none => []) else wkl ns skp e (k + 1))
  else []
termination_by e - k
decreasing_by all_goals omega
theorem wkl_end {ns : List Nd} {skp : Nat → Bool} {e k : Nat} (h : ¬ k < e) : wkl ns skp e k = [] := by rw [wkl, dif_neg h]
theorem wkl_one {ns : List Nd} {skp : Nat → Bool} {e k : Nat} (h : k < e) (hs : skp k = false) : wkl ns skp e k = (k : Int) :: wkl ns skp e (k + 1) := by
  rw [wkl, dif_pos h, hs]; simp
theorem wkl_skip {ns : List Nd} {skp : Nat → Bool} {e k : Nat} {x : Nd} (h : k < e) (hs : skp k = true) (hx : ns[k]? = some x) (h1 : 1 ≤ x.s) (h2 : x.s ≤ (e : Int) - k) : wkl ns skp e k = (k : Int) :: wkl ns skp e (k + x.s.toNat) := by
  rw [wkl, dif_pos h, hs, hx]; simp [h1, h2]
theorem wkl_bad {ns : List Nd} {skp : Nat → Bool} {e k : Nat} {x : Nd} (h : k < e) (hs : skp k = true) (hx : ns[k]? = some x) (h1 : ¬ (1 ≤ x.s ∧ x.s ≤ (e : Int) - k)) : wkl ns skp e k = [(k : Int)] := by
  rw [wkl, dif_pos h, hs, hx]; simp [h1]
/-- what a walk from n gives -/
def wk (ns : List Nd) (skp : Nat → Bool) (n : Int) : List Int := if whl ns n then (match ns[n.toNat]? with | some x => wkl ns skp (n.toNat + x.s.toNat) n.toNat | none => []) else []
theorem wk_no {ns : List Nd} {skp : Nat → Bool} {n : Int} (h : whl ns n = false) : wk ns skp n = [] := by rw [wk, h]; simp
theorem wk_at {ns : List Nd} {skp : Nat → Bool} {k z : Nat} {x : Nd} (hx : ns[k]? = some x) (hz : x.s = z) (h : whl ns k = true) : wk ns skp k = wkl ns skp (k + z) k := by
  rw [wk, h, Int.toNat_natCast, hx]; simp [hz]
theorem toIn {F : Fence} {n : Nat} {P : Program} {f : FuncId} {args : Array Value} {w : World} {R : Ending → World → Prop} (hF : F = Fence.wide) (h : Calls P f args w R) : CallsIn F n P f args w R := by subst hF; exact callsIn_wide.2 h

theorem bel_drewN {B : Nat} (W : World) (q : Nat) : Below B W (W.drewN q) := ⟨rfl, rfl, rfl, Nat.le_refl _, fun _ _ => rfl⟩
theorem neq_nil (w : World) : Sem.run Tryd.prog (binOp .neq 89 .nilFunc .nilFunc) w = .ok (.bool false) w := by kernel_rfl
theorem neq_fun (g : Fn) (c l : Array Value) (w : World) : Sem.run Tryd.prog (binOp .neq 89 (.func g c l) .nilFunc) w = .ok (.bool true) w := by kernel_rfl

set_option maxRecDepth 1000000 in
set_option maxHeartbeats 1000000 in
theorem walk1n_seq {b : Bool} (F : Fence) (hF : F = Fence.wide) (m : Nat) (hm1 : 2 ≤ m) (bt bn bs : Nat) (a : Option Addr) (cap : Nat) (ns : List Nd) (n : Int) (w : World) (hbt : bt < w.heap.size) (hbn : bn < w.heap.size) (hbs : bs < w.heap.size)
    (c1 : w.cell? ⟨bt, 0, none⟩ = some (.slice a ns.length cap)) (c2 : w.cell? ⟨bn, 0, none⟩ = some (.int .i64 n)) (c3 : w.cell? ⟨bs, 0, none⟩ = some .nilFunc) (hL : LiesA w a ns) (hl : ns.length * 32 ≤ 140737488351232) (hn0 : -9223372036854775808 ≤ n) (hn1 : n ≤ 9223372036854775807) :
    SeqO b F m Tryd.prog 60 #[.pointer (some ⟨bt, 0, none⟩), .pointer (some ⟨bn, 0, none⟩), .pointer (some ⟨bs, 0, none⟩)] w.heap.size (wk ns (fun _ => false) n) w := by
  have hfn : ∀ k, F.fn k := by subst hF; intro k; trivial
  have hro : F.round = none := by subst hF; rfl
  have HF : Hid (F = Fence.wide) := hF
  clear hF
  refine seqO_of (fun l J Jx W hW hnW oJ oX hY h0 => ?_)
  have HLW : Hid (LiesA W a ns) := hL.below hW
  have d1 : W.cell? ⟨bt, 0, none⟩ = some (.slice a ns.length cap) := (hW.cell (p := ⟨bt, 0, none⟩) hbt).trans c1
  have d2 : W.cell? ⟨bn, 0, none⟩ = some (.int .i64 n) := (hW.cell (p := ⟨bn, 0, none⟩) hbn).trans c2
  have hf24 : F.fn 54 := hfn _
  refine callsIn_of_wp Tryd.func60 rfl (hfn _) ?_ hro
  simp only [Tryd.ntmps60, List.size_toArray, List.length_cons, List.length_nil, Nat.reduceAdd, Nat.reduceSub, Array.replicate_succ, Array.replicate_zero, List.push_toArray, List.append_toArray, List.nil_append, List.cons_append]
  have h1m : 1 ≤ m := by omega
  have hiw := fun k => toIn (F := F) (n := k) HF.out (isWhole_any a cap ns n W HLW.out (by unfold maxLen; omega) hn0 hn1)
  cases hwl : whl ns n with
  | false =>
    have HX : Hid (wk ns (fun _ => false) n = []) := wk_no hwl
    rw [hwl] at hiw
    gi_wp2_with (gi_at_call 54; refine (hiw _).mono ?_; rintro e W2 ⟨rfl, hb2⟩)
    refine bodyPost_ret (results_none rfl _ _ _) rfl ?_
    refine ⟨⟨_, rfl⟩, .inl ?_⟩
    rw [HX.out]
    exact oJ _ _ _ none h0 (grownBy_of_below hb2) (fun r e => by cases e)
  | true =>
    obtain ⟨k, z, x, rfl, hx, hxz, hz, hzk⟩ := whl_yes hwl
    have HWK : Hid (wk ns (fun _ => false) k = wkl ns (fun _ => false) (k + z) k) := wk_at hx hxz hwl
    rw [hwl] at hiw
    gi_wp2_with (gi_at_call 54; refine (hiw _).mono ?_; rintro e W2 ⟨rfl, hb2⟩)
    rcases HLW.out with h0' | ⟨b2, o2, rfl, hL2⟩
    · rw [h0'] at hx; simp at hx
    have d5 := (hL2.nd hb2 hx).2.2.2
    rw [hxz] at d5
    have d1' : W2.cell? ⟨bt, 0, none⟩ = some (.slice (some ⟨b2, o2, none⟩) ns.length cap) := (hb2.cell (p := ⟨bt, 0, none⟩) (by show bt < W.heap.size; omega)).trans d1
    have d2' : W2.cell? ⟨bn, 0, none⟩ = some (.int .i64 (k : Int)) := (hb2.cell (p := ⟨bn, 0, none⟩) (by show bn < W.heap.size; omega)).trans d2
    have hk1 : (k : Int) < (ns.length : Int) := by omega
    have hw1 : IntKind.i64.wrap ((k : Int) + (z : Int)) = (k : Int) + (z : Int) := IntWalk.i64_in _ ⟨by omega, by omega⟩
    have HJ2 : Hid (J [] W2) := oJ _ _ _ none h0 (grownBy_of_below hb2) (fun r e => by cases e)
    have HB2 : Hid (Below w.heap.size w W2) := hW.trans (hb2.mono hnW)
    have HX : Hid (ns[k]? = some x) := hx
    clear hx hiw d1 d2 hb2 hL2
    obtain rfl := HF.out
    gi_quiet (fail)
    clear HF
    gi_wp2
    gi_loopw [6] (fun p wr => ∃ (j : Nat) (pre : List Int), p = .int .i64 (j : Int) ∧ j ≤ k + z ∧ wk ns (fun _ => false) k = pre ++ wkl ns (fun _ => false) (k + z) j ∧ J pre wr ∧ Below w.heap.size w wr) (fun p _ => k + z - (intOf p).toNat)
    case atStart => exact ⟨k, [], rfl, by omega, HWK.out, oJ _ _ _ none HJ2.out (grownBy_of_below (bel_drewN _ _)) (fun r e => by cases e), HB2.out.trans (bel_drewN _ _)⟩
    case round =>
      obtain ⟨j, pre, rfl, hj, hwk, hJ, hB⟩ := hrel
      by_cases hje : j < k + z
      · rw [wkl_one hje rfl] at hwk
        have hje2 : (j : Int) < (k : Int) + (z : Int) := by omega
        have hjs : (1 : Int) ≤ (k : Int) + (z : Int) - (j : Int) := by omega
        obtain ⟨fn, tmps, assign, body, hy, hR⟩ := hY pre j _ wr hwk hJ
        have HWJ : Hid (wk ns (fun _ => false) k = pre ++ (j : Int) :: wkl ns (fun _ => false) (k + z) (j + 1)) := hwk
        clear hwk
        gi_wp2
        refine hR.mono ?_
        rintro e W3 (⟨rfl, hJ3, hk3⟩ | ⟨rfl, hJx3⟩)
        · have hB3 : Below w.heap.size w W3 := hB.trans hk3
          have e3 : W3.cell? ⟨bs, 0, none⟩ = some .nilFunc := (hB3.cell (p := ⟨bs, 0, none⟩) hbs).trans c3
          have hnn := neq_nil
          gi_wp2
          go_roundw
          case rel => exact ⟨j + 1, pre ++ [(j : Int)], by simp, by omega, by rw [HWJ.out]; simp, hJ3, hB3⟩
          case measure => simp [intOf]; omega
        · gi_wp2
          refine bodyPost_ret (results_none rfl _ _ _) rfl ?_
          exact ⟨⟨_, rfl⟩, .inr ⟨pre ++ [(j : Int)], ⟨wkl ns (fun _ => false) (k + z) (j + 1), by rw [HWJ.out]; simp⟩, hJx3⟩⟩
      · rw [wkl_end hje] at hwk
        have HWJ : Hid (wk ns (fun _ => false) k = pre ++ []) := hwk
        have hje2 : ¬ (j : Int) < (k : Int) + (z : Int) := by omega
        clear hwk
        gi_wp2
        go_end0
        exact ⟨⟨_, rfl⟩, .inl (by rw [HWJ.out]; simpa using hJ)⟩
end Go.Proofs.YtaploloedocgbaaDoor
