import Derived.Test.YtchcmonhdgndcaaUp1
import Derived.Test.YtchcmonhdgndcaaAtsW2
namespace Go.Proofs.Ytchcmonhdgndcaa
open Go.ChangeShapes Go.WideShapes Go.ChangeAt Go.RowKit
set_option linter.unusedVariables false

def upQ (ns : List Nd) (n : Nat) (i : Int) : Bool := match ns[i.toNat]? with | some x => upB ns n i.toNat x | none => false
theorem upQ_head (ns : List Nd) (n k : Nat) : ((dwn k).filter (upQ ns n)).headD (-1) = upF ns n k := by
  induction k with
  | zero => rfl
  | succ k ih =>
    have e : upQ ns n (k : Int) = match ns[k]? with | some x => upB ns n k x | none => false := by simp [upQ]
    rw [dwn, List.filter_cons, e, upF]
    cases hx : ns[k]? with
    | none => simp only [Bool.false_eq_true, if_false]; exact ih
    | some x =>
      cases hb : upB ns n k x with
      | false => dsimp only; rw [if_neg (by simp [hb]), if_neg (by simp [hb])]; exact ih
      | true => dsimp only; rw [if_pos hb, if_pos hb]; rfl

set_option maxRecDepth 1000000 in
set_option maxHeartbeats 1000000 in
theorem up_any (a : Option Addr) (cap : Nat) (ns : List Nd) (n : Int) (w : World) (h : LiesA w a ns) (hl : ns.length * 32 ≤ 140737488351232) (hn0 : -9223372036854775808 ≤ n) (hn1 : n ≤ 9223372036854775807) :
    Calls Try.prog 12 #[.agg #[.slice a ns.length cap], .int .i64 n] w fun e w' => e = .returned (.int .i64 (upN ns n)) ∧ Below w.heap.size w w' := by
  have H : Hid (LiesA w a ns) := h
  obtain ⟨w3, e3, b3, s3, x1, x2⟩ := bx2 w #[.slice a ns.length cap] #[.int .i64 n] 25 3
  have HE3 : Hid ((w.alloc (.cells #[.slice a ns.length cap] 25)).alloc (.cells #[.int .i64 n] 3) = w3) := e3
  have HB3 : Hid (Below w.heap.size w w3) := b3
  have q1 := x1.one
  have q2 := x2.one
  by_cases g0 : 0 ≤ n ∧ n < (ns.length : Int)
  · obtain ⟨m, rfl⟩ : ∃ m : Nat, n = m := ⟨n.toNat, by omega⟩
    have HU : Hid (upN ns m = upF ns m m) := by unfold Hid upN; rw [if_pos g0, Int.toNat_natCast]
    have g1 : m < ns.length := by omega
    have HX1 : Hid (Bx w3 w.heap.size #[.slice a ns.length cap] 25) := x1
    have HX2 : Hid (Bx w3 (w.heap.size + 1) #[.int .i64 (m : Int)] 3) := x2
    have HS3 : Hid (w3.heap.size = w.heap.size + 2) := s3
    have HG : Hid ((decide (0 ≤ (m : Int)) && decide ((m : Int) < (ns.length : Int))) = true) := by unfold Hid; simp [g1]
    clear h e3 b3 s3 x1 x2 g0
    go_enter Try.func12, Try.ntmps12
    go_upto_region 1 with fail
    rw [HE3.out]
    go_upto_region 3 with (go_at_call 28; refine (isNode_any _ _ _ _ _).mono ?_; rintro e wn ⟨rfl, hwn⟩; rw [HG.out]; have HWN : Hid (Below w3.heap.size w3 wn) := hwn; clear hwn q1 q2)
    have hwn := HWN.out
    have s3 := HS3.out
    have hns := hwn.size
    have x1 := HX1.out.below hwn (by omega)
    have x2 := HX2.out.below hwn (by omega)
    obtain ⟨w4, e4, b4, s4, y1⟩ := bx1 wn #[.int .i64 (m : Int)] 3
    obtain ⟨w5, e5, b5, s5, z1, z2⟩ := bx2 w4 #[.func (.func 47) #[] #[.pointer (some ⟨wn.heap.size, 0, none⟩)]] #[.func (.func 29) #[] #[.pointer (some ⟨w.heap.size, 0, none⟩), .pointer (some ⟨w.heap.size + 1, 0, none⟩)]] 46 49
    have Bn : Below w.heap.size w wn := HB3.out.trans (hwn.mono HB3.out.size)
    have B5 : Below w.heap.size w w5 := (Bn.trans (b4.mono Bn.size)).trans (b5.mono (by omega))
    have F := first_down m 29 w5.heap.size wn.heap.size w4.heap.size (w4.heap.size + 1) _ (upQ ns m) w5 (by omega) (enters_of Try.func29 (by kernel_rfl) rfl) (Nat.le_refl _) (by omega) (by omega) (by omega)
      (y1.below b5 (by omega)).one z1.one z2.one (fun i hi W hW hs => by
        obtain ⟨x, hx⟩ : ∃ e, ns[i]? = some e := ⟨_, List.getElem?_eq_getElem (by omega)⟩
        have hB : Below w.heap.size w W := B5.trans (hW.mono B5.size)
        have hB3 : Below wn.heap.size wn W := (b4.trans (b5.mono b4.size)).trans (hW.mono (by omega))
        have hsz := hB3.size
        have := up1_any a cap ns m i x w.heap.size (w.heap.size + 1) W hx hi g1 (H.out.below hB) hl (x1.below hB3 (by omega)).one (x2.below hB3 (by omega)).one (by omega) (by omega)
        have e : upQ ns m (i : Int) = upB ns m i x := by simp [upQ, hx]
        rw [e]
        exact this)
    rw [upQ_head] at F
    have HF : Hid (Calls Try.prog 23 #[.func (.func 46) #[] #[.pointer (some ⟨w4.heap.size, 0, none⟩), .pointer (some ⟨w4.heap.size + 1, 0, none⟩)]] w5 fun e W' => e = .returned (.int .i64 (upF ns m m)) ∧ Below w5.heap.size w5 W') := F
    have HB5 : Hid (Below w.heap.size w w5) := B5
    have HE4 : Hid (wn.alloc (.cells #[.int .i64 (m : Int)] 3) = w4) := e4
    have HE5 : Hid ((w4.alloc (.cells #[.func (.func 47) #[] #[.pointer (some ⟨wn.heap.size, 0, none⟩)]] 46)).alloc (.cells #[.func (.func 29) #[] #[.pointer (some ⟨w.heap.size, 0, none⟩), .pointer (some ⟨w.heap.size + 1, 0, none⟩)]] 49) = w5) := e5
    have q2 := x2.one
    clear hwn s3 hns x1 x2 e4 b4 s4 y1 e5 b5 s5 z1 z2 B5 F Bn g1
    go_wp2_with (first
      | (go_at_call 25; refine (down_any _ _).mono ?_; rintro e wd ⟨rfl, hwd⟩; rw [HE4.out] at hwd; subst hwd)
      | (go_at_call 24; refine (asked_any _ _ _ _ _ _ rfl rfl _).mono ?_; rintro e we ⟨rfl, hwe⟩; rw [HE5.out] at hwe; subst hwe)
      | (go_at_call 23; refine HF.out.mono ?_; rintro e w' ⟨rfl, hb⟩))
    go_ret
    exact ⟨ret_i64 HU.out.symm, HB5.out.trans (hb.mono HB5.out.size)⟩
  · have HU : Hid (upN ns n = -1) := by unfold Hid upN; rw [if_neg g0]
    have HG : Hid ((decide (0 ≤ n) && decide (n < (ns.length : Int))) = false) := by
      unfold Hid
      rw [Bool.eq_false_iff]; intro hh
      simp only [Bool.and_eq_true, decide_eq_true_eq] at hh
      exact g0 hh
    clear h e3 b3 s3 x1 x2 g0
    go_enter Try.func12, Try.ntmps12
    go_upto_region 1 with fail
    rw [HE3.out]
    go_wp2_with (go_at_call 28; refine (isNode_any _ _ _ _ _).mono ?_; rintro e wn ⟨rfl, hwn⟩; rw [HG.out]; have HWN : Hid (Below w3.heap.size w3 wn) := hwn; clear hwn q1 q2)
    go_ret
    exact ⟨ret_i64 HU.out.symm, HB3.out.trans (HWN.out.mono HB3.out.size)⟩
end Go.Proofs.Ytchcmonhdgndcaa
