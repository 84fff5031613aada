import Derived.Test.YteanhljabjoabaaRf2
import Derived.Test.YteanhljabjoabaaKd1
import Derived.Sort.QuietIn
namespace Go.Proofs.Yteanhljabjoabaa
open Go Go.RowKit Go.Shelf
attribute [local go_sem] Oper.semAt_some
set_option linter.unusedVariables false

/-- what a walk gives from k on, up to e -/
def wkl (ns : List Nd) (skp : Nat → Bool) (e k : Nat) : List Int :=
  if h : k < e then
    (k : Int) :: (if skp k then (match ns[k]? with
      | some x => if h2 : 1 ≤ x.s ∧ x.s ≤ (e : Int) - k then wkl ns skp e (k + x.s.toNat) else []
      | none => []) else wkl ns skp e (k + 1))
  else []
termination_by e - k
decreasing_by all_goals omega
theorem wkl_end {ns : List Nd} {skp : Nat → Bool} {e k : Nat} (h : ¬ k < e) : wkl ns skp e k = [] := by rw [wkl, dif_neg h]
theorem wkl_one {ns : List Nd} {skp : Nat → Bool} {e k : Nat} (h : k < e) (hs : skp k = false) : wkl ns skp e k = (k : Int) :: wkl ns skp e (k + 1) := by
  rw [wkl, dif_pos h, hs]; simp
theorem wkl_skip {ns : List Nd} {skp : Nat → Bool} {e k : Nat} {x : Nd} (h : k < e) (hs : skp k = true) (hx : ns[k]? = some x) (h1 : 1 ≤ x.s) (h2 : x.s ≤ (e : Int) - k) : wkl ns skp e k = (k : Int) :: wkl ns skp e (k + x.s.toNat) := by
  rw [wkl, dif_pos h, hs, hx]; simp [h1, h2]
theorem wkl_bad {ns : List Nd} {skp : Nat → Bool} {e k : Nat} {x : Nd} (h : k < e) (hs : skp k = true) (hx : ns[k]? = some x) (h1 : ¬ (1 ≤ x.s ∧ x.s ≤ (e : Int) - k)) : wkl ns skp e k = [(k : Int)] := by
  rw [wkl, dif_pos h, hs, hx]; simp [h1]
/-- what a walk from n gives -/
def wk (ns : List Nd) (skp : Nat → Bool) (n : Int) : List Int := if whl ns n then (match ns[n.toNat]? with | some x => wkl ns skp (n.toNat + x.s.toNat) n.toNat | none => []) else []
theorem wk_no {ns : List Nd} {skp : Nat → Bool} {n : Int} (h : whl ns n = false) : wk ns skp n = [] := by rw [wk, h]; simp
theorem wk_at {ns : List Nd} {skp : Nat → Bool} {k z : Nat} {x : Nd} (hx : ns[k]? = some x) (hz : x.s = z) (h : whl ns k = true) : wk ns skp k = wkl ns skp (k + z) k := by
  rw [wk, h, Int.toNat_natCast, hx]; simp [hz]
theorem toIn {F : Fence} {n : Nat} {P : Program} {f : FuncId} {args : Array Value} {w : World} {R : Ending → World → Prop} (hF : F = Fence.wide) (h : Calls P f args w R) : CallsIn F n P f args w R := by subst hF; exact callsIn_wide.2 h

theorem bel_drewN {B : Nat} (W : World) (q : Nat) : Below B W (W.drewN q) := ⟨rfl, rfl, rfl, Nat.le_refl _, fun _ _ => rfl⟩
theorem neq_nil (w : World) : Sem.run Try.prog (binOp .neq 49 .nilFunc .nilFunc) w = .ok (.bool false) w := by rfl
theorem neq_fun (g : Fn) (c l : Array Value) (w : World) : Sem.run Try.prog (binOp .neq 49 (.func g c l) .nilFunc) w = .ok (.bool true) w := by rfl

set_option maxRecDepth 1000000 in
set_option maxHeartbeats 1000000 in
theorem walk1n_seq {b : Bool} (F : Fence) (hF : F = Fence.wide) (m : Nat) (hm1 : 2 ≤ m) (bt bn bs : Nat) (a : Option Addr) (cap : Nat) (ns : List Nd) (n : Int) (w : World) (hbt : bt < w.heap.size) (hbn : bn < w.heap.size) (hbs : bs < w.heap.size)
    (c1 : w.cell? ⟨bt, 0, none⟩ = some (.slice a ns.length cap)) (c2 : w.cell? ⟨bn, 0, none⟩ = some (.int .i64 n)) (c3 : w.cell? ⟨bs, 0, none⟩ = some .nilFunc) (hL : LiesA w a ns) (hl : ns.length * 32 ≤ 140737488351232) (hn0 : -9223372036854775808 ≤ n) (hn1 : n ≤ 9223372036854775807) :
    SeqO b F m Try.prog 36 #[.pointer (some ⟨bt, 0, none⟩), .pointer (some ⟨bn, 0, none⟩), .pointer (some ⟨bs, 0, none⟩)] w.heap.size (wk ns (fun _ => false) n) w := by
  have hfn : ∀ k, F.fn k := by subst hF; intro k; trivial
  have hro : F.round = none := by subst hF; rfl
  have HF : Hid (F = Fence.wide) := hF
  clear hF
  refine seqO_of (fun l J Jx W hW hnW oJ oX hY h0 => ?_)
  have HLW : Hid (LiesA W a ns) := hL.below hW
  have d1 : W.cell? ⟨bt, 0, none⟩ = some (.slice a ns.length cap) := (hW.cell (p := ⟨bt, 0, none⟩) hbt).trans c1
  have d2 : W.cell? ⟨bn, 0, none⟩ = some (.int .i64 n) := (hW.cell (p := ⟨bn, 0, none⟩) hbn).trans c2
  have hf24 : F.fn 37 := hfn _
  refine callsIn_of_wp Try.func36 rfl (hfn _) ?_ hro
  simp only [Try.ntmps36, List.size_toArray, List.length_cons, List.length_nil, Nat.reduceAdd, Nat.reduceSub, Array.replicate_succ, Array.replicate_zero, List.push_toArray, List.append_toArray, List.nil_append, List.cons_append]
  have h1m : 1 ≤ m := by omega
  have hiw := fun k => toIn (F := F) (n := k) HF.out (isWhole_any a cap ns n W HLW.out (by unfold maxLen; omega) hn0 hn1)
  cases hwl : whl ns n with
  | false =>
    have HX : Hid (wk ns (fun _ => false) n = []) := wk_no hwl
    rw [hwl] at hiw
    gi_wp2_with (gi_at_call 37; refine (hiw _).mono ?_; rintro e W2 ⟨rfl, hb2⟩)
    refine bodyPost_ret (results_none rfl _ _ _) rfl ?_
    refine ⟨⟨_, rfl⟩, .inl ?_⟩
    rw [HX.out]
    exact oJ _ _ _ none h0 (grownBy_of_below hb2) (fun r e => by cases e)
  | true =>
    obtain ⟨k, z, x, rfl, hx, hxz, hz, hzk⟩ := whl_yes hwl
    have HWK : Hid (wk ns (fun _ => false) k = wkl ns (fun _ => false) (k + z) k) := wk_at hx hxz hwl
    rw [hwl] at hiw
    gi_wp2_with (gi_at_call 37; refine (hiw _).mono ?_; rintro e W2 ⟨rfl, hb2⟩)
    rcases HLW.out with h0' | ⟨b2, o2, rfl, hL2⟩
    · rw [h0'] at hx; simp at hx
    have d5 := (hL2.nd hb2 hx).2.2.2
    rw [hxz] at d5
    have d1' : W2.cell? ⟨bt, 0, none⟩ = some (.slice (some ⟨b2, o2, none⟩) ns.length cap) := (hb2.cell (p := ⟨bt, 0, none⟩) (by show bt < W.heap.size; omega)).trans d1
    have d2' : W2.cell? ⟨bn, 0, none⟩ = some (.int .i64 (k : Int)) := (hb2.cell (p := ⟨bn, 0, none⟩) (by show bn < W.heap.size; omega)).trans d2
    have hk1 : (k : Int) < (ns.length : Int) := by omega
    have hw1 : IntKind.i64.wrap ((k : Int) + (z : Int)) = (k : Int) + (z : Int) := IntWalk.i64_in _ ⟨by omega, by omega⟩
    have HJ2 : Hid (J [] W2) := oJ _ _ _ none h0 (grownBy_of_below hb2) (fun r e => by cases e)
    have HB2 : Hid (Below w.heap.size w W2) := hW.trans (hb2.mono hnW)
    have HX : Hid (ns[k]? = some x) := hx
    clear hx hiw d1 d2 hb2 hL2
    obtain rfl := HF.out
    gi_quiet (fail)
    clear HF
    gi_wp2
    gi_loopw [6] (fun p wr => ∃ (j : Nat) (pre : List Int), p = .int .i64 (j : Int) ∧ j ≤ k + z ∧ wk ns (fun _ => false) k = pre ++ wkl ns (fun _ => false) (k + z) j ∧ J pre wr ∧ Below w.heap.size w wr) (fun p _ => k + z - (intOf p).toNat)
    case atStart => exact ⟨k, [], rfl, by omega, HWK.out, oJ _ _ _ none HJ2.out (grownBy_of_below (bel_drewN _ _)) (fun r e => by cases e), HB2.out.trans (bel_drewN _ _)⟩
    case round =>
      obtain ⟨j, pre, rfl, hj, hwk, hJ, hB⟩ := hrel
      by_cases hje : j < k + z
      · rw [wkl_one hje rfl] at hwk
        have hje2 : (j : Int) < (k : Int) + (z : Int) := by omega
        have hjs : (1 : Int) ≤ (k : Int) + (z : Int) - (j : Int) := by omega
        obtain ⟨fn, tmps, assign, body, hy, hR⟩ := hY pre j _ wr hwk hJ
        have HWJ : Hid (wk ns (fun _ => false) k = pre ++ (j : Int) :: wkl ns (fun _ => false) (k + z) (j + 1)) := hwk
        clear hwk
        gi_wp2
        refine hR.mono ?_
        rintro e W3 (⟨rfl, hJ3, hk3⟩ | ⟨rfl, hJx3⟩)
        · have hB3 : Below w.heap.size w W3 := hB.trans hk3
          have e3 : W3.cell? ⟨bs, 0, none⟩ = some .nilFunc := (hB3.cell (p := ⟨bs, 0, none⟩) hbs).trans c3
          have hnn := neq_nil
          gi_wp2
          go_roundw
          case rel => exact ⟨j + 1, pre ++ [(j : Int)], by simp, by omega, by rw [HWJ.out]; simp, hJ3, hB3⟩
          case measure => simp [intOf]; omega
        · gi_wp2
          refine bodyPost_ret (results_none rfl _ _ _) rfl ?_
          exact ⟨⟨_, rfl⟩, .inr ⟨pre ++ [(j : Int)], ⟨wkl ns (fun _ => false) (k + z) (j + 1), by rw [HWJ.out]; simp⟩, hJx3⟩⟩
      · rw [wkl_end hje] at hwk
        have HWJ : Hid (wk ns (fun _ => false) k = pre ++ []) := hwk
        have hje2 : ¬ (j : Int) < (k : Int) + (z : Int) := by omega
        clear hwk
        gi_wp2
        go_end0
        exact ⟨⟨_, rfl⟩, .inl (by rw [HWJ.out]; simpa using hJ)⟩
end Go.Proofs.Yteanhljabjoabaa
