import Derived.Test.YtgijcbipnjmhgaaSr9
import Derived.Test.YtgijcbipnjmhgaaShf
import Derived.Sort.LotD1
import Derived.Sort.WalkA14
import Derived.Laws.Bits64
import Derived.Laws.Bits64b
import Derived.Laws.Closers25b
namespace Go.Proofs.Ytgijcbipnjmhgaa
open Go.ChangeShapes Go.WideShapes Go.ChangeAt Go.RowKit
set_option linter.unusedVariables false
set_option linter.unusedSimpArgs false

theorem npo_any (n : Nat) (h0 : 0 < n) (hn : n ≤ 70368744177664) (w : World) : Calls Try.prog 87 #[.int .i64 (n : Int)] w fun e w' => ∃ M : Nat, e = .returned (.int .u64 (M : Int)) ∧ (n < M ∧ M ≤ 2 * n) ∧ w' = w := by
  obtain ⟨k, hk⟩ : ∃ k : Nat, Lib.bitLen n = k := ⟨_, rfl⟩
  have hk2 : Sort.bitsLen n = k := by rw [← hk]; exact (bitLen_eq n (by omega)).symm
  have h1 := Sort.lt_two_pow_bitsLen n
  have h2 := Sort.two_pow_bitsLen_le h0
  rw [hk2] at h1 h2
  obtain ⟨M, hM⟩ : ∃ M : Nat, 2 ^ k = M := ⟨_, rfl⟩
  rw [hM] at h1 h2
  have HL := Try.bits_Len (n : Int) w (by omega) (by omega)
  rw [Int.toNat_natCast, hk] at HL
  have hk64 : k ≤ 50 := by
    rcases Nat.lt_or_ge 50 k with h | h
    · have := Nat.pow_le_pow_right (n := 2) (by decide) h
      rw [hM] at this
      simp at this
      omega
    · exact h
  have hs : IntKind.u64.wrap (2 ^ k) = (M : Int) := by
    rw [← hM, show ((2 : Int) ^ k) = ((2 ^ k : Nat) : Int) by simp, hM]
    rw [IntKind.wrap_u64]
    omega
  have HM : Hid (n < M ∧ M ≤ 2 * n) := ⟨h1, h2⟩
  clear hk hk2 h1 h2 hM
  go_enter Try.func87, Try.ntmps87
  go_wp2_with (go_at_call 58; (with_reducible refine HL.mono ?_); rintro e w1 ⟨rfl, rfl⟩)
  go_ret
  exact ⟨M, rfl, HM.out, rfl⟩

/-- the row, and beside it the box of a number that was made since -/
structure Rx (B g n c s X : Nat) (w : World) (xs : List Hn) (z : World) (zs : List Hn) : Prop where
  sp : Sp B g n c w xs z zs
  box : Bx z s #[.int .u64 (X : Int)] 113
  lt : g < s
  new : w.heap.size ≤ s
theorem Rx.below {B g n c s X : Nat} {w z z' : World} {xs zs : List Hn} (h : Rx B g n c s X w xs z zs) (hb : Below z.heap.size z z') : Rx B g n c s X w xs z' zs := ⟨h.sp.below hb, h.box.below hb h.box.lt, h.lt, h.new⟩
theorem Rx.more {B g n c s X Y : Nat} {w z : World} {xs zs : List Hn} (h : Rx B g n c s X w xs z zs) : Rx B g n c s Y w xs (z.setCell ⟨s, 0, none⟩ (.int .u64 (Y : Int))).drew zs :=
  ⟨⟨h.sp.perm, (ownsRow_setCell_other h.sp.row (a := ⟨s, 0, none⟩) (fun e => by have := h.lt; cases e; omega) _), ⟨fun k hk hg => (heap_setCell_other _ _ _ _ (by have := h.new; show k ≠ s; omega)).trans (h.sp.one.keep k hk hg), (h.sp.one.bel.setCell (p := ⟨s, 0, none⟩) (Nat.le_of_lt h.lt) _).drew⟩⟩, h.box.set 0 _, h.lt, h.new⟩
theorem Rx.swap {B g n c s X : Nat} {w z : World} {xs zs : List Hn} (h : Rx B g n c s X w xs z zs) {i j : Nat} {x y : Hn} (hi : zs[i]? = some x) (hj : zs[j]? = some y) : Rx B g n c s X w xs ((z.setCell ⟨g, i, none⟩ (.int .i32 y.v)).setCell ⟨g, j, none⟩ (.int .i32 x.v)).drew (swp zs i j x y) :=
  ⟨h.sp.swap hi hj, (h.box.other ⟨g, i, none⟩ (by have := h.lt; show s ≠ g; omega) _).other ⟨g, j, none⟩ (by have := h.lt; show s ≠ g; omega) _, h.lt, h.new⟩
theorem xor64 (x y : Int) : ∃ A : Nat, bits BinOp.xor IntKind.u64 x y = (A : Int) ∧ A < 18446744073709551616 := by
  have h := bits_within BinOp.xor IntKind.u64 x y
  have h1 : (0 : Int) ≤ bits BinOp.xor IntKind.u64 x y := h.1
  have h2 : bits BinOp.xor IntKind.u64 x y ≤ 18446744073709551615 := h.2
  exact ⟨(bits BinOp.xor IntKind.u64 x y).toNat, by omega, by omega⟩

set_option maxRecDepth 1000000 in
theorem next_any (B g n c s X : Nat) (w : World) (xs : List Hn) (z : World) (zs : List Hn) (h : Rx B g n c s X w xs z zs) (hX : X < 18446744073709551616) : Calls Try.prog 88 #[.pointer (some ⟨s, 0, none⟩)] z fun e z' => ∃ Y : Nat, e = .returned (.int .u64 (Y : Int)) ∧ Y < 18446744073709551616 ∧ Rx B g n c s Y w xs z' zs := by
  obtain ⟨A, hA, lA⟩ := xor64 (X : Int) (IntKind.u64.wrap ((X : Int) * 8192))
  obtain ⟨A2, hA2, lA2⟩ := xor64 (A : Int) ((A : Int) / 128)
  obtain ⟨A3, hA3, lA3⟩ := xor64 (A2 : Int) (IntKind.u64.wrap ((A2 : Int) * 131072))
  have HR : Hid (Rx B g n c s X w xs z zs) := h
  have c1 := h.box.one
  have f1 := h.box.free 0
  clear h
  go_enter Try.func88, Try.ntmps88
  go_upto_region 1 with fail
  go_big_region
  obtain ⟨z1, hz1⟩ : ∃ z1, (z.setCell ⟨s, 0, none⟩ (.int .u64 (A : Int))).drew = z1 := ⟨_, rfl⟩
  have R1 : Hid (Rx B g n c s A w xs z1 zs) := by unfold Hid; rw [← hz1]; exact HR.out.more
  rw [hz1]
  clear hz1 HR c1 f1 hA
  have c1 := R1.out.box.one
  have f1 := R1.out.box.free 0
  go_upto_region 2 with fail
  go_big_region
  obtain ⟨z2, hz2⟩ : ∃ z2, (z1.setCell ⟨s, 0, none⟩ (.int .u64 (A2 : Int))).drew = z2 := ⟨_, rfl⟩
  have R2 : Hid (Rx B g n c s A2 w xs z2 zs) := by unfold Hid; rw [← hz2]; exact R1.out.more
  rw [hz2]
  clear hz2 R1 c1 f1 hA2
  have c1 := R2.out.box.one
  have f1 := R2.out.box.free 0
  go_upto_region 3 with fail
  go_big_region
  obtain ⟨z3, hz3⟩ : ∃ z3, (z2.setCell ⟨s, 0, none⟩ (.int .u64 (A3 : Int))).drew = z3 := ⟨_, rfl⟩
  have R3 : Hid (Rx B g n c s A3 w xs z3 zs) := by unfold Hid; rw [← hz3]; exact R2.out.more
  rw [hz3]
  clear hz3 R2 c1 f1 hA3
  have c1 := R3.out.box.one
  go_wp2
  go_ret
  exact ⟨A3, rfl, lA3, R3.out⟩

set_option maxRecDepth 1000000 in
set_option maxHeartbeats 4000000 in
theorem brk_any (B g n c a b : Nat) (xs : List Hn) (w : World) (h : Row B 21 g n c w xs) (hab : a + 12 < b) (hb : b ≤ n) (hn : n ≤ 70368744177664) :
    Calls Try.prog 79 #[.slice (some ⟨g, 0, none⟩) n c, .int .i64 (a : Int), .int .i64 (b : Int)] w fun e w' => (∃ x, e = .returned x) ∧ ∃ ys, Sp B g n c w xs w' ys := by
  obtain ⟨l, hl⟩ : ∃ l : Nat, b - a = l := ⟨_, rfl⟩
  obtain ⟨q, hq⟩ : ∃ q : Nat, l / 4 = q := ⟨_, rfl⟩
  obtain ⟨q2, hq2⟩ : ∃ q2 : Nat, q * 2 = q2 := ⟨_, rfl⟩
  obtain ⟨j0, hj0⟩ : ∃ j0 : Nat, a + q2 = j0 := ⟨_, rfl⟩
  obtain ⟨j1, hj1⟩ : ∃ j1 : Nat, j0 - 1 = j1 := ⟨_, rfl⟩
  obtain ⟨j2, hj2⟩ : ∃ j2 : Nat, j0 + 1 = j2 := ⟨_, rfl⟩
  have e1 : IntKind.i64.wrap ((b : Int) - (a : Int)) = (l : Int) := by rw [IntWalk.i64_in _ ⟨by omega, by omega⟩]; omega
  have e2 : IntKind.i64.wrap ((l : Int).tdiv 4) = (q : Int) := by
    rw [Int.tdiv_eq_ediv_of_nonneg (by omega), IntWalk.i64_in _ ⟨by omega, by omega⟩]; omega
  have e2' : IntKind.i64.wrap ((l : Int) / 4) = (q : Int) := by
    rw [IntWalk.i64_in _ ⟨by omega, by omega⟩]; omega
  have e4 : IntKind.i64.wrap ((q : Int) * 2) = (q2 : Int) := by rw [IntWalk.i64_in _ ⟨by omega, by omega⟩]; omega
  have e7 : IntKind.i64.wrap ((a : Int) + (q2 : Int)) = (j0 : Int) := by rw [IntWalk.i64_in _ ⟨by omega, by omega⟩]; omega
  have e8 : IntKind.i64.wrap ((j0 : Int) - 1) = (j1 : Int) := by rw [IntWalk.i64_in _ ⟨by omega, by omega⟩]; omega
  have e9 : IntKind.i64.wrap ((j0 : Int) + 1) = (j2 : Int) := by rw [IntWalk.i64_in _ ⟨by omega, by omega⟩]; omega
  have e10 : IntKind.u64.wrap (l : Int) = (l : Int) := by rw [IntKind.wrap_u64]; omega
  have h8 : (8 : Int) ≤ (l : Int) := by omega
  have HL : Hid (b - a = l ∧ a ≤ j1 ∧ j1 ≤ j2 ∧ j2 < b) := by unfold Hid; omega
  obtain ⟨w0, e0, hw0, hs0, B0⟩ := bx1 w #[.int .u64 (l : Int)] 113
  obtain ⟨s, hs⟩ : ∃ s, w.heap.size = s := ⟨_, rfl⟩
  have HE0 : Hid (w.alloc (.cells #[.int .u64 (l : Int)] 113) = w0) := e0
  have HR : Hid (Rx B g n c s l w xs w0 xs) := ⟨(Sp.first h).below hw0, hs ▸ B0, by have := h.lt; omega, by omega⟩
  have NP : Hid (∀ w, Calls Try.prog 87 #[.int .i64 (l : Int)] w fun e w' => ∃ M : Nat, e = .returned (.int .u64 (M : Int)) ∧ (l < M ∧ M ≤ 2 * l) ∧ w' = w) := fun w => npo_any l (by omega) (by omega) w
  clear h e0 hw0 hs0 B0 hl hq hq2 hj0 hj1 hj2
  go_enter Try.func79, Try.ntmps79
  go_upto_region 3 with fail
  rw [HE0.out]
  go_upto_block 0 with (go_at_call 87; (with_reducible refine (NP.out _).mono ?_); rintro e w1 ⟨M, rfl, hM, rfl⟩)
  clear HE0 NP
  go_wp2_with fail
  go_loopg [9] (j2 + 1 - j1) (fun gk si wr => ∃ (i X : Nat) (zs : List Hn), gk = j2 + 1 - i ∧ si = .int .i64 (i : Int) ∧ j1 ≤ i ∧ i ≤ j2 + 1 ∧ X < 18446744073709551616 ∧ Rx B g n c s X w xs wr zs)
  case atStart => exact ⟨j1, l, xs, rfl, rfl, Nat.le_refl _, by have := HL.out; omega, by have := HL.out; omega, HR.out⟩
  case round =>
    obtain ⟨i, X, zs, hgk, rfl, hi1, hi2, hX, hR⟩ := hrel
    clear HR
    have HR : Hid (Rx B g n c s X w xs wr zs) := hR
    clear hR
    by_cases hij : i ≤ j2
    · have hij' : (i : Int) ≤ (j2 : Int) := by omega
      have em : IntKind.u64.wrap ((M : Int) - 1) = ((M - 1 : Nat) : Int) := by rw [IntKind.wrap_u64]; have := HL.out; omega
      have ea : ∀ Y : Nat, Y < 18446744073709551616 → ∃ O : Nat, bits BinOp.and IntKind.u64 (Y : Int) ((M - 1 : Nat) : Int) = (O : Int) ∧ O < M := by
        intro Y hY
        refine ⟨Y &&& (M - 1), bits_and_u64_nat _ _ hY (by have := HL.out; omega), ?_⟩
        have := @Nat.and_le_right Y (M - 1)
        omega
      have HEA : Hid (∀ Y : Nat, Y < 18446744073709551616 → ∃ O : Nat, bits BinOp.and IntKind.u64 (Y : Int) ((M - 1 : Nat) : Int) = (O : Int) ∧ O < M) := ea
      clear ea
      go_upto_region 8 with (go_at_call 88; (with_reducible refine (next_any B g n c s X w xs wr zs HR.out hX).mono ?_); rintro e v1 ⟨Y, rfl, hY, hr1⟩; have R1 : Hid (Rx B g n c s Y w xs v1 zs) := hr1; clear hr1; obtain ⟨O, hO, lO⟩ := HEA.out Y hY; have ko : IntKind.i64.wrap (O : Int) = (O : Int) := (by rw [IntWalk.i64_in _ ⟨by omega, by have := HL.out; omega⟩]))
      go_upto_if 43 with fail
      go_cut [10] (fun so wc => ∃ o : Nat, so = .int .i64 (o : Int) ∧ o < l ∧ wc = v1)
      case first =>
        by_cases hol : l ≤ O
        · have hol' : (l : Int) ≤ (O : Int) := by omega
          have ks : IntKind.i64.wrap ((O : Int) - (l : Int)) = ((O - l : Nat) : Int) := by rw [IntWalk.i64_in _ ⟨by have := HL.out; omega, by have := HL.out; omega⟩]; omega
          go_wp2_with fail
          go_meet
          exact ⟨O - l, rfl, by omega, rfl⟩
        · have hol' : ¬ (l : Int) ≤ (O : Int) := by omega
          go_wp2_with fail
          go_meet
          exact ⟨O, rfl, by omega, rfl⟩
      case rest =>
        obtain ⟨o, rfl, ho, hwc⟩ := hcut
        have HR1 : Hid (Rx B g n c s Y w xs wc zs) := by unfold Hid; rw [hwc]; exact R1.out
        clear hwc R1 HR hO ko HEA em
        obtain ⟨p, hp⟩ : ∃ p : Nat, a + o = p := ⟨_, rfl⟩
        have kp : IntKind.i64.wrap ((a : Int) + (o : Int)) = (p : Int) := by rw [IntWalk.i64_in _ ⟨by omega, by have := HL.out; omega⟩]; omega
        obtain ⟨xi, hxi⟩ := HR1.out.sp.at (i := i) (by have := HL.out; omega)
        obtain ⟨xj, hxj⟩ := HR1.out.sp.at (i := p) (by have := HL.out; omega)
        have HX : Hid (zs[i]? = some xi ∧ zs[p]? = some xj) := ⟨hxi, hxj⟩
        have ti : (i : Int) < (n : Int) := by have := HL.out; omega
        have tj : (p : Int) < (n : Int) := by have := HL.out; omega
        have cx := HR1.out.sp.row.get hxi
        have cy := HR1.out.sp.row.get hxj
        have f1 := HR1.out.sp.row.free i
        have f2 := HR1.out.sp.row.free p
        clear hxi hxj hp
        by_cases hijq : p = i
        · subst hijq
          have hxx : xi = xj := by have h9 := HX.out; rw [h9.1] at h9; exact Option.some.inj h9.2
          subst hxx
          go_upto_region 10 with fail
          go_big_region
          obtain ⟨z2, hz2⟩ : ∃ z, ((wc.setCell ⟨g, p, none⟩ (.int .i32 xi.v)).setCell ⟨g, p, none⟩ (.int .i32 xi.v)).drew = z := ⟨_, rfl⟩
          have R2 : Hid (Rx B g n c s Y w xs z2 (swp zs p p xi xi)) := by unfold Hid; rw [← hz2]; exact HR1.out.swap HX.out.1 HX.out.2
          rw [hz2]
          clear hz2 cx cy f1 f2
          go_wp2
          go_roundg (j2 + 1 - (p + 1))
          case measure => omega
          case rel => exact ⟨p + 1, Y, _, rfl, by go_num, by omega, by omega, hY, R2.out⟩
        · have hne2 : p ≠ i := hijq
          have hne3 : i ≠ p := fun e => hijq e.symm
          go_upto_region 10 with fail
          go_big_region
          obtain ⟨z2, hz2⟩ : ∃ z, ((wc.setCell ⟨g, i, none⟩ (.int .i32 xj.v)).setCell ⟨g, p, none⟩ (.int .i32 xi.v)).drew = z := ⟨_, rfl⟩
          have R2 : Hid (Rx B g n c s Y w xs z2 (swp zs i p xi xj)) := by unfold Hid; rw [← hz2]; exact HR1.out.swap HX.out.1 HX.out.2
          rw [hz2]
          clear hz2 cx cy f1 f2
          go_wp2
          go_roundg (j2 + 1 - (i + 1))
          case measure => omega
          case rel => exact ⟨i + 1, Y, _, rfl, by go_num, by omega, by omega, hY, R2.out⟩
    · have hij' : ¬ (i : Int) ≤ (j2 : Int) := by omega
      go_wp2
      go_end0
      exact ⟨⟨_, rfl⟩, zs, HR.out.sp⟩
end Go.Proofs.Ytgijcbipnjmhgaa
