import Derived.Test.YtgijcbipnjmhgabSrc
import Derived.Test.YtgijcbipnjmhgabSq9
namespace Go.Proofs.Ytgijcbipnjmhgab
open Go.ChangeShapes Go.WideShapes Go.ChangeAt Go.RowKit
set_option linter.unusedVariables false
set_option linter.unusedSimpArgs false

theorem insert_nil (w : World) : Calls Try.prog 66 #[.slice none 0 0, .int .i64 0, .int .i64 0] w fun e w' => (∃ x, e = .returned x) ∧ w' = w := by
  go_enter Try.func66, Try.ntmps66
  go_wp2
  refine wp_loop_rounds 1 ?_
  rw [rounds_succ]
  go_wp2
  go_end0
  exact ⟨⟨_, rfl⟩, rfl⟩
theorem pdq_nil (w : World) : Calls Try.prog 62 #[.slice none 0 0, .int .i64 0, .int .i64 0, .int .i64 0] w fun e w' => (∃ x, e = .returned x) ∧ w' = w := by
  go_enter Try.func62, Try.ntmps62
  go_wp2
  refine wp_loop_rounds 1 ?_
  rw [rounds_succ]
  go_wp2_with (go_at_call 66; (with_reducible refine (insert_nil _).mono ?_); rintro e v1 ⟨⟨x, rfl⟩, rfl⟩)
  refine bodyPost_ret (results_none rfl _ _ _) rfl ?_
  exact ⟨⟨_, rfl⟩, rfl⟩
theorem bl_le (n : Nat) (h : n ≤ 70368744177664) : Lib.bitLen n ≤ 1000 := by
  rw [bitLen_eq n (by omega)]
  have := (Sort.bitsLen_le_iff n 50).2 (Nat.lt_of_le_of_lt h (by decide))
  omega
theorem sort32_any (B g n c : Nat) (xs : List Hn) (w : World) (h : Row B 21 g n c w xs) (hn : n ≤ 70368744177664) :
    Calls Try.prog 55 #[.slice (some ⟨g, 0, none⟩) n c] w fun e w' => (∃ x, e = .returned x) ∧ ∃ ys, Sp B g n c w xs w' ys := by
  obtain ⟨k, hk⟩ : ∃ k : Nat, Lib.bitLen n = k := ⟨_, rfl⟩
  have hk2 := bl_le n hn
  rw [hk] at hk2
  have HL := fun w => Try.bits_Len (n : Int) w (by omega) (by omega)
  rw [Int.toNat_natCast, hk] at HL
  have e10 : IntKind.u64.wrap (n : Int) = (n : Int) := by rw [IntKind.wrap_u64]; omega
  have PQ : Hid (Calls Try.prog 62 #[.slice (some ⟨g, 0, none⟩) n c, .int .i64 0, .int .i64 (n : Int), .int .i64 (k : Int)] w fun e w' => (∃ x, e = .returned x) ∧ ∃ ys, Sp B g n c w xs w' ys) := pdq_any n B g n c 0 n k xs w h (by omega) (by omega) (by omega) hk2 hn
  clear hk
  go_enter Try.func55, Try.ntmps55
  go_wp2_with (first
    | (go_at_call 63; (with_reducible refine (HL _).mono ?_); rintro e w1 ⟨rfl, hw⟩; have hw2 := hw.symm; clear hw; subst hw2)
    | (go_at_call 62; (with_reducible refine PQ.out.mono ?_); rintro e v1 ⟨⟨x, rfl⟩, ys, hs1⟩; have S1 : Hid (Sp B g n c w xs v1 ys) := hs1; clear hs1))
  go_end0
  exact ⟨⟨_, rfl⟩, ys, S1.out⟩
theorem sort32_nil (w : World) : Calls Try.prog 55 #[.slice none 0 0] w fun e w' => (∃ x, e = .returned x) ∧ w' = w := by
  have HL := fun w => Try.bits_Len 0 w (by omega) (by omega)
  rw [show Lib.bitLen (Int.toNat 0) = 0 by decide] at HL
  go_enter Try.func55, Try.ntmps55
  go_wp2_with (first
    | (go_at_call 63; (with_reducible refine (HL _).mono ?_); rintro e w1 ⟨rfl, hw⟩; have hw2 := hw.symm; clear hw; subst hw2)
    | (go_at_call 62; (with_reducible refine (pdq_nil _).mono ?_); rintro e v1 ⟨⟨x, rfl⟩, rfl⟩))
  go_end0
  exact ⟨⟨_, rfl⟩, rfl⟩
theorem rising32_any (B g n c : Nat) (xs : List Hn) (w : World) (h : Row B 21 g n c w xs) (hn : n ≤ 70368744177664) :
    Calls Try.prog 37 #[.slice (some ⟨g, 0, none⟩) n c] w fun e w' => e = .returned (.slice (some ⟨g, 0, none⟩) n c) ∧ ∃ ys, Sp B g n c w xs w' ys := by
  have HR : Hid (Row B 21 g n c w xs) := h
  clear h
  go_enter Try.func37, Try.ntmps37
  go_wp2_with (go_at_call 55; (with_reducible refine (sort32_any B g n c xs w HR.out hn).mono ?_); rintro e v1 ⟨⟨x, rfl⟩, ys, hs1⟩; have S1 : Hid (Sp B g n c w xs v1 ys) := hs1; clear hs1)
  go_ret
  exact ⟨rfl, ys, S1.out⟩
theorem rising32_nil (w : World) : Calls Try.prog 37 #[.slice none 0 0] w fun e w' => e = .returned (.slice none 0 0) ∧ w' = w := by
  go_enter Try.func37, Try.ntmps37
  go_wp2_with (go_at_call 55; (with_reducible refine (sort32_nil _).mono ?_); rintro e v1 ⟨⟨x, rfl⟩, rfl⟩)
  go_ret
  exact ⟨rfl, rfl⟩
end Go.Proofs.Ytgijcbipnjmhgab

namespace Go.Proofs.Ytgijcbipnjmhgab
open Go.ChangeShapes Go.WideShapes Go.ChangeAt Go.RowKit
set_option linter.unusedVariables false
set_option linter.unusedSimpArgs false

structure Ry (B g n c a b s X : Nat) (w : World) (xs : List Hn) (z : World) (zs : List Hn) : Prop where
  sp : Si B g n c a b w xs z zs
  box : Bx z s #[.int .u64 (X : Int)] 117
  lt : g < s
  new : w.heap.size ≤ s
theorem Ry.below {B g n c a b s X : Nat} {w z z' : World} {xs zs : List Hn} (h : Ry B g n c a b s X w xs z zs) (hb : Below z.heap.size z z') : Ry B g n c a b s X w xs z' zs := ⟨h.sp.below hb, h.box.below hb h.box.lt, h.lt, h.new⟩
theorem Ry.more {B g n c a b s X Y : Nat} {w z : World} {xs zs : List Hn} (h : Ry B g n c a b s X w xs z zs) : Ry B g n c a b s Y w xs (z.setCell ⟨s, 0, none⟩ (.int .u64 (Y : Int))).drew zs :=
  ⟨⟨h.sp.perm, (ownsRow_setCell_other h.sp.row (a := ⟨s, 0, none⟩) (fun e => by have := h.lt; cases e; omega) _), ⟨fun k hk hg => (heap_setCell_other _ _ _ _ (by have := h.new; show k ≠ s; omega)).trans (h.sp.one.keep k hk hg), (h.sp.one.bel.setCell (p := ⟨s, 0, none⟩) (Nat.le_of_lt h.lt) _).drew⟩⟩, h.box.set 0 _, h.lt, h.new⟩
theorem Ry.swap {B g n c a b s X : Nat} {w z : World} {xs zs : List Hn} (h : Ry B g n c a b s X w xs z zs) {i j : Nat} {x y : Hn} (hi : zs[i]? = some x) (hj : zs[j]? = some y) (h1 : a ≤ i ∧ i < b) (h2 : a ≤ j ∧ j < b) (hb : b ≤ n) : Ry B g n c a b s X w xs ((z.setCell ⟨g, i, none⟩ (.int .i32 y.v)).setCell ⟨g, j, none⟩ (.int .i32 x.v)).drew (swp zs i j x y) :=
  ⟨h.sp.swap hi hj h1 h2 hb, (h.box.other ⟨g, i, none⟩ (by have := h.lt; show s ≠ g; omega) _).other ⟨g, j, none⟩ (by have := h.lt; show s ≠ g; omega) _, h.lt, h.new⟩
set_option maxRecDepth 1000000 in
theorem nextS_any (B g n c a b s X : Nat) (w : World) (xs : List Hn) (z : World) (zs : List Hn) (h : Ry B g n c a b s X w xs z zs) (hX : X < 18446744073709551616) : Calls Try.prog 88 #[.pointer (some ⟨s, 0, none⟩)] z fun e z' => ∃ Y : Nat, e = .returned (.int .u64 (Y : Int)) ∧ Y < 18446744073709551616 ∧ Ry B g n c a b s Y w xs z' zs := by
  obtain ⟨A, hA, lA⟩ := xor64 (X : Int) (IntKind.u64.wrap ((X : Int) * 8192))
  obtain ⟨A2, hA2, lA2⟩ := xor64 (A : Int) ((A : Int) / 128)
  obtain ⟨A3, hA3, lA3⟩ := xor64 (A2 : Int) (IntKind.u64.wrap ((A2 : Int) * 131072))
  have HR : Hid (Ry B g n c a b s X w xs z zs) := h
  have c1 := h.box.one
  have f1 := h.box.free 0
  clear h
  go_enter Try.func88, Try.ntmps88
  go_upto_region 1 with fail
  go_big_region
  obtain ⟨z1, hz1⟩ : ∃ z1, (z.setCell ⟨s, 0, none⟩ (.int .u64 (A : Int))).drew = z1 := ⟨_, rfl⟩
  have R1 : Hid (Ry B g n c a b s A w xs z1 zs) := by unfold Hid; rw [← hz1]; exact HR.out.more
  rw [hz1]
  clear hz1 HR c1 f1 hA
  have c1 := R1.out.box.one
  have f1 := R1.out.box.free 0
  go_upto_region 2 with fail
  go_big_region
  obtain ⟨z2, hz2⟩ : ∃ z2, (z1.setCell ⟨s, 0, none⟩ (.int .u64 (A2 : Int))).drew = z2 := ⟨_, rfl⟩
  have R2 : Hid (Ry B g n c a b s A2 w xs z2 zs) := by unfold Hid; rw [← hz2]; exact R1.out.more
  rw [hz2]
  clear hz2 R1 c1 f1 hA2
  have c1 := R2.out.box.one
  have f1 := R2.out.box.free 0
  go_upto_region 3 with fail
  go_big_region
  obtain ⟨z3, hz3⟩ : ∃ z3, (z2.setCell ⟨s, 0, none⟩ (.int .u64 (A3 : Int))).drew = z3 := ⟨_, rfl⟩
  have R3 : Hid (Ry B g n c a b s A3 w xs z3 zs) := by unfold Hid; rw [← hz3]; exact R2.out.more
  rw [hz3]
  clear hz3 R2 c1 f1 hA3
  have c1 := R3.out.box.one
  go_wp2
  go_ret
  exact ⟨A3, rfl, lA3, R3.out⟩

set_option maxRecDepth 1000000 in
set_option maxHeartbeats 4000000 in
theorem brkS_any (B g n c a b : Nat) (xs : List Hn) (w : World) (h : Row B 21 g n c w xs) (hab : a + 12 < b) (hb : b ≤ n) (hn : n ≤ 70368744177664) :
    Calls Try.prog 68 #[.slice (some ⟨g, 0, none⟩) n c, .int .i64 (a : Int), .int .i64 (b : Int)] w fun e w' => (∃ x, e = .returned x) ∧ ∃ ys, Si B g n c a b w xs w' ys := by
  obtain ⟨l, hl⟩ : ∃ l : Nat, b - a = l := ⟨_, rfl⟩
  obtain ⟨q, hq⟩ : ∃ q : Nat, l / 4 = q := ⟨_, rfl⟩
  obtain ⟨q2, hq2⟩ : ∃ q2 : Nat, q * 2 = q2 := ⟨_, rfl⟩
  obtain ⟨j0, hj0⟩ : ∃ j0 : Nat, a + q2 = j0 := ⟨_, rfl⟩
  obtain ⟨j1, hj1⟩ : ∃ j1 : Nat, j0 - 1 = j1 := ⟨_, rfl⟩
  obtain ⟨j2, hj2⟩ : ∃ j2 : Nat, j0 + 1 = j2 := ⟨_, rfl⟩
  have e1 : IntKind.i64.wrap ((b : Int) - (a : Int)) = (l : Int) := by rw [IntWalk.i64_in _ ⟨by omega, by omega⟩]; omega
  have e2 : IntKind.i64.wrap ((l : Int).tdiv 4) = (q : Int) := by
    rw [Int.tdiv_eq_ediv_of_nonneg (by omega), IntWalk.i64_in _ ⟨by omega, by omega⟩]; omega
  have e2' : IntKind.i64.wrap ((l : Int) / 4) = (q : Int) := by
    rw [IntWalk.i64_in _ ⟨by omega, by omega⟩]; omega
  have e4 : IntKind.i64.wrap ((q : Int) * 2) = (q2 : Int) := by rw [IntWalk.i64_in _ ⟨by omega, by omega⟩]; omega
  have e7 : IntKind.i64.wrap ((a : Int) + (q2 : Int)) = (j0 : Int) := by rw [IntWalk.i64_in _ ⟨by omega, by omega⟩]; omega
  have e8 : IntKind.i64.wrap ((j0 : Int) - 1) = (j1 : Int) := by rw [IntWalk.i64_in _ ⟨by omega, by omega⟩]; omega
  have e9 : IntKind.i64.wrap ((j0 : Int) + 1) = (j2 : Int) := by rw [IntWalk.i64_in _ ⟨by omega, by omega⟩]; omega
  have e10 : IntKind.u64.wrap (l : Int) = (l : Int) := by rw [IntKind.wrap_u64]; omega
  have h8 : (8 : Int) ≤ (l : Int) := by omega
  have HL : Hid (b - a = l ∧ a ≤ j1 ∧ j1 ≤ j2 ∧ j2 < b) := by unfold Hid; omega
  obtain ⟨w0, e0, hw0, hs0, B0⟩ := bx1 w #[.int .u64 (l : Int)] 117
  obtain ⟨s, hs⟩ : ∃ s, w.heap.size = s := ⟨_, rfl⟩
  have HE0 : Hid (w.alloc (.cells #[.int .u64 (l : Int)] 117) = w0) := e0
  have HR : Hid (Ry B g n c a b s l w xs w0 xs) := ⟨(Si.first h).below hw0, hs ▸ B0, by have := h.lt; omega, by omega⟩
  have NP : Hid (∀ w, Calls Try.prog 87 #[.int .i64 (l : Int)] w fun e w' => ∃ M : Nat, e = .returned (.int .u64 (M : Int)) ∧ (l < M ∧ M ≤ 2 * l) ∧ w' = w) := fun w => npo_any l (by omega) (by omega) w
  clear h e0 hw0 hs0 B0 hl hq hq2 hj0 hj1 hj2
  go_enter Try.func68, Try.ntmps68
  go_upto_region 3 with fail
  rw [HE0.out]
  go_upto_block 0 with (go_at_call 87; (with_reducible refine (NP.out _).mono ?_); rintro e w1 ⟨M, rfl, hM, rfl⟩)
  clear HE0 NP
  go_wp2_with fail
  go_loopg [9] (j2 + 1 - j1) (fun gk si wr => ∃ (i X : Nat) (zs : List Hn), gk = j2 + 1 - i ∧ si = .int .i64 (i : Int) ∧ j1 ≤ i ∧ i ≤ j2 + 1 ∧ X < 18446744073709551616 ∧ Ry B g n c a b s X w xs wr zs)
  case atStart => exact ⟨j1, l, xs, rfl, rfl, Nat.le_refl _, by have := HL.out; omega, by have := HL.out; omega, HR.out⟩
  case round =>
    obtain ⟨i, X, zs, hgk, rfl, hi1, hi2, hX, hR⟩ := hrel
    clear HR
    have HR : Hid (Ry B g n c a b s X w xs wr zs) := hR
    clear hR
    by_cases hij : i ≤ j2
    · have hij' : (i : Int) ≤ (j2 : Int) := by omega
      have em : IntKind.u64.wrap ((M : Int) - 1) = ((M - 1 : Nat) : Int) := by rw [IntKind.wrap_u64]; have := HL.out; omega
      have ea : ∀ Y : Nat, Y < 18446744073709551616 → ∃ O : Nat, bits BinOp.and IntKind.u64 (Y : Int) ((M - 1 : Nat) : Int) = (O : Int) ∧ O < M := by
        intro Y hY
        refine ⟨Y &&& (M - 1), bits_and_u64_nat _ _ hY (by have := HL.out; omega), ?_⟩
        have := @Nat.and_le_right Y (M - 1)
        omega
      have HEA : Hid (∀ Y : Nat, Y < 18446744073709551616 → ∃ O : Nat, bits BinOp.and IntKind.u64 (Y : Int) ((M - 1 : Nat) : Int) = (O : Int) ∧ O < M) := ea
      clear ea
      go_upto_region 8 with (go_at_call 88; (with_reducible refine (nextS_any B g n c a b s X w xs wr zs HR.out hX).mono ?_); rintro e v1 ⟨Y, rfl, hY, hr1⟩; have R1 : Hid (Ry B g n c a b s Y w xs v1 zs) := hr1; clear hr1; obtain ⟨O, hO, lO⟩ := HEA.out Y hY; have ko : IntKind.i64.wrap (O : Int) = (O : Int) := (by rw [IntWalk.i64_in _ ⟨by omega, by have := HL.out; omega⟩]))
      go_upto_if 43 with fail
      go_cut [10] (fun so wc => ∃ o : Nat, so = .int .i64 (o : Int) ∧ o < l ∧ wc = v1)
      case first =>
        by_cases hol : l ≤ O
        · have hol' : (l : Int) ≤ (O : Int) := by omega
          have ks : IntKind.i64.wrap ((O : Int) - (l : Int)) = ((O - l : Nat) : Int) := by rw [IntWalk.i64_in _ ⟨by have := HL.out; omega, by have := HL.out; omega⟩]; omega
          go_wp2_with fail
          go_meet
          exact ⟨O - l, rfl, by omega, rfl⟩
        · have hol' : ¬ (l : Int) ≤ (O : Int) := by omega
          go_wp2_with fail
          go_meet
          exact ⟨O, rfl, by omega, rfl⟩
      case rest =>
        obtain ⟨o, rfl, ho, hwc⟩ := hcut
        have HR1 : Hid (Ry B g n c a b s Y w xs wc zs) := by unfold Hid; rw [hwc]; exact R1.out
        clear hwc R1 HR hO ko HEA em
        obtain ⟨p, hp⟩ : ∃ p : Nat, a + o = p := ⟨_, rfl⟩
        have kp : IntKind.i64.wrap ((a : Int) + (o : Int)) = (p : Int) := by rw [IntWalk.i64_in _ ⟨by omega, by have := HL.out; omega⟩]; omega
        obtain ⟨xi, hxi⟩ := HR1.out.sp.at (i := i) (by have := HL.out; omega)
        obtain ⟨xj, hxj⟩ := HR1.out.sp.at (i := p) (by have := HL.out; omega)
        have HX : Hid (zs[i]? = some xi ∧ zs[p]? = some xj) := ⟨hxi, hxj⟩
        have ti : (i : Int) < (n : Int) := by have := HL.out; omega
        have tj : (p : Int) < (n : Int) := by have := HL.out; omega
        have cx := HR1.out.sp.row.get hxi
        have cy := HR1.out.sp.row.get hxj
        have f1 := HR1.out.sp.row.free i
        have f2 := HR1.out.sp.row.free p
        have HPO : Hid (a + o = p ∧ o < l) := ⟨hp, ho⟩
        clear hxi hxj hp
        by_cases hijq : p = i
        · subst hijq
          have hxx : xi = xj := by have h9 := HX.out; rw [h9.1] at h9; exact Option.some.inj h9.2
          subst hxx
          go_upto_region 10 with fail
          go_big_region
          obtain ⟨z2, hz2⟩ : ∃ z, ((wc.setCell ⟨g, p, none⟩ (.int .i32 xi.v)).setCell ⟨g, p, none⟩ (.int .i32 xi.v)).drew = z := ⟨_, rfl⟩
          have R2 : Hid (Ry B g n c a b s Y w xs z2 (swp zs p p xi xi)) := by unfold Hid; rw [← hz2]; exact HR1.out.swap HX.out.1 HX.out.2 (by have := HL.out; have := HPO.out; omega) (by have := HL.out; have := HPO.out; omega) hb
          rw [hz2]
          clear hz2 cx cy f1 f2
          go_wp2
          go_roundg (j2 + 1 - (p + 1))
          case measure => omega
          case rel => exact ⟨p + 1, Y, _, rfl, by go_num, by omega, by omega, hY, R2.out⟩
        · have hne2 : p ≠ i := hijq
          have hne3 : i ≠ p := fun e => hijq e.symm
          go_upto_region 10 with fail
          go_big_region
          obtain ⟨z2, hz2⟩ : ∃ z, ((wc.setCell ⟨g, i, none⟩ (.int .i32 xj.v)).setCell ⟨g, p, none⟩ (.int .i32 xi.v)).drew = z := ⟨_, rfl⟩
          have R2 : Hid (Ry B g n c a b s Y w xs z2 (swp zs i p xi xj)) := by unfold Hid; rw [← hz2]; exact HR1.out.swap HX.out.1 HX.out.2 (by have := HL.out; have := HPO.out; omega) (by have := HL.out; have := HPO.out; omega) hb
          rw [hz2]
          clear hz2 cx cy f1 f2
          go_wp2
          go_roundg (j2 + 1 - (i + 1))
          case measure => omega
          case rel => exact ⟨i + 1, Y, _, rfl, by go_num, by omega, by omega, hY, R2.out⟩
    · have hij' : ¬ (i : Int) ≤ (j2 : Int) := by omega
      go_wp2
      go_end0
      exact ⟨⟨_, rfl⟩, zs, HR.out.sp⟩
end Go.Proofs.Ytgijcbipnjmhgab
