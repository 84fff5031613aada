import Derived.Test.YtgijcbipnjmhgabGreatSr9
import Derived.Test.YtgijcbipnjmhgabGreatShf
import Derived.Sort.LotD1
import Derived.Sort.WalkA14
import Derived.Laws.Bits64
import Derived.Laws.Bits64b
import Derived.Laws.Closers25b
import Derived.Test.YtgijcbipnjmhgabGreatSr7
import Derived.Test.YtgijcbipnjmhgabGreatSr8
import Derived.Test.YtgijcbipnjmhgabGreatSra
namespace Go.Proofs.YtgijcbipnjmhgabGreat
open Go.ChangeShapes Go.WideShapes Go.ChangeAt Go.RowKit
set_option linter.unusedVariables false
set_option linter.unusedSimpArgs false

theorem npo_any (n : Nat) (h0 : 0 < n) (hn : n ≤ 70368744177664) (w : World) : Calls Tryz.prog 101 #[.int .i64 (n : Int)] w fun e w' => ∃ M : Nat, e = .returned (.int .u64 (M : Int)) ∧ (n < M ∧ M ≤ 2 * n) ∧ w' = w := by
  obtain ⟨k, hk⟩ : ∃ k : Nat, Lib.bitLen n = k := ⟨_, rfl⟩
  have hk2 : Sort.bitsLen n = k := by rw [← hk]; exact (bitLen_eq n (by omega)).symm
  have h1 := Sort.lt_two_pow_bitsLen n
  have h2 := Sort.two_pow_bitsLen_le h0
  rw [hk2] at h1 h2
  obtain ⟨M, hM⟩ : ∃ M : Nat, 2 ^ k = M := ⟨_, rfl⟩
  rw [hM] at h1 h2
  have HL := Tryz.bits_Len (n : Int) w (by omega) (by omega)
  rw [Int.toNat_natCast, hk] at HL
  have hk64 : k ≤ 50 := by
    rcases Nat.lt_or_ge 50 k with h | h
    · have := Nat.pow_le_pow_right (n := 2) (by decide) h
      rw [hM] at this
      simp at this
      omega
    · exact h
  have hs : IntKind.u64.wrap (2 ^ k) = (M : Int) := by
    rw [← hM, show ((2 : Int) ^ k) = ((2 ^ k : Nat) : Int) by simp, hM]
    rw [IntKind.wrap_u64]
    omega
  have HM : Hid (n < M ∧ M ≤ 2 * n) := ⟨h1, h2⟩
  clear hk hk2 h1 h2 hM
  go_enter Tryz.func101, Tryz.ntmps101
  go_wp2_with (go_at_call 77; (with_reducible refine HL.mono ?_); rintro e w1 ⟨rfl, rfl⟩)
  go_ret
  exact ⟨M, rfl, HM.out, rfl⟩

/-- the row, and beside it the box of a number that was made since -/
structure Rx (B g n c s X : Nat) (w : World) (xs : List Hn) (z : World) (zs : List Hn) : Prop where
  sp : Sp B g n c w xs z zs
  box : Bx z s #[.int .u64 (X : Int)] 154
  lt : g < s
  new : w.heap.size ≤ s
theorem Rx.more {B g n c s X Y : Nat} {w z : World} {xs zs : List Hn} (h : Rx B g n c s X w xs z zs) : Rx B g n c s Y w xs (z.setCell ⟨s, 0, none⟩ (.int .u64 (Y : Int))).drew zs :=
  ⟨⟨h.sp.perm, (ownsRow_setCell_other h.sp.row (a := ⟨s, 0, none⟩) (fun e => by have := h.lt; cases e; omega) _), ⟨fun k hk hg => (heap_setCell_other _ _ _ _ (by have := h.new; show k ≠ s; omega)).trans (h.sp.one.keep k hk hg), (h.sp.one.bel.setCell (p := ⟨s, 0, none⟩) (Nat.le_of_lt h.lt) _).drew⟩⟩, h.box.set 0 _, h.lt, h.new⟩
theorem Rx.swap {B g n c s X : Nat} {w z : World} {xs zs : List Hn} (h : Rx B g n c s X w xs z zs) {i j : Nat} {x y : Hn} (hi : zs[i]? = some x) (hj : zs[j]? = some y) : Rx B g n c s X w xs ((z.setCell ⟨g, i, none⟩ (.int .i32 y.v)).setCell ⟨g, j, none⟩ (.int .i32 x.v)).drew (swp zs i j x y) :=
  ⟨h.sp.swap hi hj, (h.box.other ⟨g, i, none⟩ (by have := h.lt; show s ≠ g; omega) _).other ⟨g, j, none⟩ (by have := h.lt; show s ≠ g; omega) _, h.lt, h.new⟩
theorem xor64 (x y : Int) : ∃ A : Nat, bits BinOp.xor IntKind.u64 x y = (A : Int) ∧ A < 18446744073709551616 := by
  have h := bits_within BinOp.xor IntKind.u64 x y
  have h1 : (0 : Int) ≤ bits BinOp.xor IntKind.u64 x y := h.1
  have h2 : bits BinOp.xor IntKind.u64 x y ≤ 18446744073709551615 := h.2
  exact ⟨(bits BinOp.xor IntKind.u64 x y).toNat, by omega, by omega⟩

set_option maxRecDepth 1000000 in
theorem next_any (B g n c s X : Nat) (w : World) (xs : List Hn) (z : World) (zs : List Hn) (h : Rx B g n c s X w xs z zs) (hX : X < 18446744073709551616) : Calls Tryz.prog 102 #[.pointer (some ⟨s, 0, none⟩)] z fun e z' => ∃ Y : Nat, e = .returned (.int .u64 (Y : Int)) ∧ Y < 18446744073709551616 ∧ Rx B g n c s Y w xs z' zs := by
  obtain ⟨A, hA, lA⟩ := xor64 (X : Int) (IntKind.u64.wrap ((X : Int) * 8192))
  obtain ⟨A2, hA2, lA2⟩ := xor64 (A : Int) ((A : Int) / 128)
  obtain ⟨A3, hA3, lA3⟩ := xor64 (A2 : Int) (IntKind.u64.wrap ((A2 : Int) * 131072))
  have HR : Hid (Rx B g n c s X w xs z zs) := h
  have c1 := h.box.one
  have f1 := h.box.free 0
  clear h
  go_enter Tryz.func102, Tryz.ntmps102
  go_upto_region 1 with fail
  go_big_region
  obtain ⟨z1, hz1⟩ : ∃ z1, (z.setCell ⟨s, 0, none⟩ (.int .u64 (A : Int))).drew = z1 := ⟨_, rfl⟩
  have R1 : Hid (Rx B g n c s A w xs z1 zs) := by unfold Hid; rw [← hz1]; exact HR.out.more
  rw [hz1]
  clear hz1 HR c1 f1 hA
  have c1 := R1.out.box.one
  have f1 := R1.out.box.free 0
  go_upto_region 2 with fail
  go_big_region
  obtain ⟨z2, hz2⟩ : ∃ z2, (z1.setCell ⟨s, 0, none⟩ (.int .u64 (A2 : Int))).drew = z2 := ⟨_, rfl⟩
  have R2 : Hid (Rx B g n c s A2 w xs z2 zs) := by unfold Hid; rw [← hz2]; exact R1.out.more
  rw [hz2]
  clear hz2 R1 c1 f1 hA2
  have c1 := R2.out.box.one
  have f1 := R2.out.box.free 0
  go_upto_region 3 with fail
  go_big_region
  obtain ⟨z3, hz3⟩ : ∃ z3, (z2.setCell ⟨s, 0, none⟩ (.int .u64 (A3 : Int))).drew = z3 := ⟨_, rfl⟩
  have R3 : Hid (Rx B g n c s A3 w xs z3 zs) := by unfold Hid; rw [← hz3]; exact R2.out.more
  rw [hz3]
  clear hz3 R2 c1 f1 hA3
  have c1 := R3.out.box.one
  go_wp2
  go_ret
  exact ⟨A3, rfl, lA3, R3.out⟩

set_option maxRecDepth 1000000 in
set_option maxHeartbeats 4000000 in
theorem brk_any (B g n c a b : Nat) (xs : List Hn) (w : World) (h : Row B 21 g n c w xs) (hab : a + 12 < b) (hb : b ≤ n) (hn : n ≤ 70368744177664) :
    Calls Tryz.prog 93 #[.slice (some ⟨g, 0, none⟩) n c, .int .i64 (a : Int), .int .i64 (b : Int)] w fun e w' => (∃ x, e = .returned x) ∧ ∃ ys, Sp B g n c w xs w' ys := by
  obtain ⟨l, hl⟩ : ∃ l : Nat, b - a = l := ⟨_, rfl⟩
  obtain ⟨q, hq⟩ : ∃ q : Nat, l / 4 = q := ⟨_, rfl⟩
  obtain ⟨q2, hq2⟩ : ∃ q2 : Nat, q * 2 = q2 := ⟨_, rfl⟩
  obtain ⟨j0, hj0⟩ : ∃ j0 : Nat, a + q2 = j0 := ⟨_, rfl⟩
  obtain ⟨j1, hj1⟩ : ∃ j1 : Nat, j0 - 1 = j1 := ⟨_, rfl⟩
  obtain ⟨j2, hj2⟩ : ∃ j2 : Nat, j0 + 1 = j2 := ⟨_, rfl⟩
  have e1 : IntKind.i64.wrap ((b : Int) - (a : Int)) = (l : Int) := by rw [IntWalk.i64_in _ ⟨by omega, by omega⟩]; omega
  have e2 : IntKind.i64.wrap ((l : Int).tdiv 4) = (q : Int) := by
    rw [Int.tdiv_eq_ediv_of_nonneg (by omega), IntWalk.i64_in _ ⟨by omega, by omega⟩]; omega
  have e2' : IntKind.i64.wrap ((l : Int) / 4) = (q : Int) := by
    rw [IntWalk.i64_in _ ⟨by omega, by omega⟩]; omega
  have e4 : IntKind.i64.wrap ((q : Int) * 2) = (q2 : Int) := by rw [IntWalk.i64_in _ ⟨by omega, by omega⟩]; omega
  have e7 : IntKind.i64.wrap ((a : Int) + (q2 : Int)) = (j0 : Int) := by rw [IntWalk.i64_in _ ⟨by omega, by omega⟩]; omega
  have e8 : IntKind.i64.wrap ((j0 : Int) - 1) = (j1 : Int) := by rw [IntWalk.i64_in _ ⟨by omega, by omega⟩]; omega
  have e9 : IntKind.i64.wrap ((j0 : Int) + 1) = (j2 : Int) := by rw [IntWalk.i64_in _ ⟨by omega, by omega⟩]; omega
  have e10 : IntKind.u64.wrap (l : Int) = (l : Int) := by rw [IntKind.wrap_u64]; omega
  have h8 : (8 : Int) ≤ (l : Int) := by omega
  have HL : Hid (b - a = l ∧ a ≤ j1 ∧ j1 ≤ j2 ∧ j2 < b) := by unfold Hid; omega
  obtain ⟨w0, e0, hw0, hs0, B0⟩ := bx1 w #[.int .u64 (l : Int)] 154
  obtain ⟨s, hs⟩ : ∃ s, w.heap.size = s := ⟨_, rfl⟩
  have HE0 : Hid (w.alloc (.cells #[.int .u64 (l : Int)] 154) = w0) := e0
  have HR : Hid (Rx B g n c s l w xs w0 xs) := ⟨(Sp.first h).below hw0, hs ▸ B0, by have := h.lt; omega, by omega⟩
  have NP : Hid (∀ w, Calls Tryz.prog 101 #[.int .i64 (l : Int)] w fun e w' => ∃ M : Nat, e = .returned (.int .u64 (M : Int)) ∧ (l < M ∧ M ≤ 2 * l) ∧ w' = w) := fun w => npo_any l (by omega) (by omega) w
  clear h e0 hw0 hs0 B0 hl hq hq2 hj0 hj1 hj2
  go_enter Tryz.func93, Tryz.ntmps93
  go_upto_region 3 with fail
  rw [HE0.out]
  go_upto_block 0 with (go_at_call 101; (with_reducible refine (NP.out _).mono ?_); rintro e w1 ⟨M, rfl, hM, rfl⟩)
  clear HE0 NP
  go_wp2_with fail
  go_loopg [9] (j2 + 1 - j1) (fun gk si wr => ∃ (i X : Nat) (zs : List Hn), gk = j2 + 1 - i ∧ si = .int .i64 (i : Int) ∧ j1 ≤ i ∧ i ≤ j2 + 1 ∧ X < 18446744073709551616 ∧ Rx B g n c s X w xs wr zs)
  case atStart => exact ⟨j1, l, xs, rfl, rfl, Nat.le_refl _, by have := HL.out; omega, by have := HL.out; omega, HR.out⟩
  case round =>
    obtain ⟨i, X, zs, hgk, rfl, hi1, hi2, hX, hR⟩ := hrel
    clear HR
    have HR : Hid (Rx B g n c s X w xs wr zs) := hR
    clear hR
    by_cases hij : i ≤ j2
    · have hij' : (i : Int) ≤ (j2 : Int) := by omega
      have em : IntKind.u64.wrap ((M : Int) - 1) = ((M - 1 : Nat) : Int) := by rw [IntKind.wrap_u64]; have := HL.out; omega
      have ea : ∀ Y : Nat, Y < 18446744073709551616 → ∃ O : Nat, bits BinOp.and IntKind.u64 (Y : Int) ((M - 1 : Nat) : Int) = (O : Int) ∧ O < M := by
        intro Y hY
        refine ⟨Y &&& (M - 1), bits_and_u64_nat _ _ hY (by have := HL.out; omega), ?_⟩
        have := @Nat.and_le_right Y (M - 1)
        omega
      have HEA : Hid (∀ Y : Nat, Y < 18446744073709551616 → ∃ O : Nat, bits BinOp.and IntKind.u64 (Y : Int) ((M - 1 : Nat) : Int) = (O : Int) ∧ O < M) := ea
      clear ea
      go_upto_region 8 with (go_at_call 102; (with_reducible refine (next_any B g n c s X w xs wr zs HR.out hX).mono ?_); rintro e v1 ⟨Y, rfl, hY, hr1⟩; have R1 : Hid (Rx B g n c s Y w xs v1 zs) := hr1; clear hr1; obtain ⟨O, hO, lO⟩ := HEA.out Y hY; have ko : IntKind.i64.wrap (O : Int) = (O : Int) := (by rw [IntWalk.i64_in _ ⟨by omega, by have := HL.out; omega⟩]))
      go_upto_if 43 with fail
      go_cut [10] (fun so wc => ∃ o : Nat, so = .int .i64 (o : Int) ∧ o < l ∧ wc = v1)
      case first =>
        by_cases hol : l ≤ O
        · have hol' : (l : Int) ≤ (O : Int) := by omega
          have ks : IntKind.i64.wrap ((O : Int) - (l : Int)) = ((O - l : Nat) : Int) := by rw [IntWalk.i64_in _ ⟨by have := HL.out; omega, by have := HL.out; omega⟩]; omega
          go_wp2_with fail
          go_meet
          exact ⟨O - l, rfl, by omega, rfl⟩
        · have hol' : ¬ (l : Int) ≤ (O : Int) := by omega
          go_wp2_with fail
          go_meet
          exact ⟨O, rfl, by omega, rfl⟩
      case rest =>
        obtain ⟨o, rfl, ho, hwc⟩ := hcut
        have HR1 : Hid (Rx B g n c s Y w xs wc zs) := by unfold Hid; rw [hwc]; exact R1.out
        clear hwc R1 HR hO ko HEA em
        obtain ⟨p, hp⟩ : ∃ p : Nat, a + o = p := ⟨_, rfl⟩
        have kp : IntKind.i64.wrap ((a : Int) + (o : Int)) = (p : Int) := by rw [IntWalk.i64_in _ ⟨by omega, by have := HL.out; omega⟩]; omega
        obtain ⟨xi, hxi⟩ := HR1.out.sp.at (i := i) (by have := HL.out; omega)
        obtain ⟨xj, hxj⟩ := HR1.out.sp.at (i := p) (by have := HL.out; omega)
        have HX : Hid (zs[i]? = some xi ∧ zs[p]? = some xj) := ⟨hxi, hxj⟩
        have ti : (i : Int) < (n : Int) := by have := HL.out; omega
        have tj : (p : Int) < (n : Int) := by have := HL.out; omega
        have cx := HR1.out.sp.row.get hxi
        have cy := HR1.out.sp.row.get hxj
        have f1 := HR1.out.sp.row.free i
        have f2 := HR1.out.sp.row.free p
        clear hxi hxj hp
        by_cases hijq : p = i
        · subst hijq
          have hxx : xi = xj := by have h9 := HX.out; rw [h9.1] at h9; exact Option.some.inj h9.2
          subst hxx
          go_upto_region 10 with fail
          go_big_region
          obtain ⟨z2, hz2⟩ : ∃ z, ((wc.setCell ⟨g, p, none⟩ (.int .i32 xi.v)).setCell ⟨g, p, none⟩ (.int .i32 xi.v)).drew = z := ⟨_, rfl⟩
          have R2 : Hid (Rx B g n c s Y w xs z2 (swp zs p p xi xi)) := by unfold Hid; rw [← hz2]; exact HR1.out.swap HX.out.1 HX.out.2
          rw [hz2]
          clear hz2 cx cy f1 f2
          go_wp2
          go_roundg (j2 + 1 - (p + 1))
          case measure => omega
          case rel => exact ⟨p + 1, Y, _, rfl, by go_num, by omega, by omega, hY, R2.out⟩
        · have hne2 : p ≠ i := hijq
          have hne3 : i ≠ p := fun e => hijq e.symm
          go_upto_region 10 with fail
          go_big_region
          obtain ⟨z2, hz2⟩ : ∃ z, ((wc.setCell ⟨g, i, none⟩ (.int .i32 xj.v)).setCell ⟨g, p, none⟩ (.int .i32 xi.v)).drew = z := ⟨_, rfl⟩
          have R2 : Hid (Rx B g n c s Y w xs z2 (swp zs i p xi xj)) := by unfold Hid; rw [← hz2]; exact HR1.out.swap HX.out.1 HX.out.2
          rw [hz2]
          clear hz2 cx cy f1 f2
          go_wp2
          go_roundg (j2 + 1 - (i + 1))
          case measure => omega
          case rel => exact ⟨i + 1, Y, _, rfl, by go_num, by omega, by omega, hY, R2.out⟩
    · have hij' : ¬ (i : Int) ≤ (j2 : Int) := by omega
      go_wp2
      go_end0
      exact ⟨⟨_, rfl⟩, zs, HR.out.sp⟩
end Go.Proofs.YtgijcbipnjmhgabGreat

namespace Go.Proofs.YtgijcbipnjmhgabGreat
open Go.ChangeShapes Go.WideShapes Go.ChangeAt Go.RowKit
set_option linter.unusedVariables false
set_option linter.unusedSimpArgs false

def IsB (v : Value) : Prop := ∃ t : Bool, v = .bool t
set_option maxRecDepth 1000000 in
set_option maxHeartbeats 8000000 in
theorem pdq_any (m : Nat) : ∀ (B g n c a b L : Nat) (xs : List Hn) (w : World), Row B 21 g n c w xs → b - a ≤ m → a ≤ b → b ≤ n → L ≤ 1000 → n ≤ 70368744177664 →
    Calls Tryz.prog 78 #[.slice (some ⟨g, 0, none⟩) n c, .int .i64 (a : Int), .int .i64 (b : Int), .int .i64 (L : Int)] w fun e w' => (∃ x, e = .returned x) ∧ ∃ ys, Sp B g n c w xs w' ys := by
  induction m using Nat.strongRecOn with
  | ind m ih =>
  intro B g n c a b L xs w h hm hab hb hL hn
  have IH : Hid (∀ (B g n c a2 b2 L : Nat) (xs : List Hn) (w : World), Row B 21 g n c w xs → b2 - a2 < b - a → a2 ≤ b2 → b2 ≤ n → L ≤ 1000 → n ≤ 70368744177664 → Calls Tryz.prog 78 #[.slice (some ⟨g, 0, none⟩) n c, .int .i64 (a2 : Int), .int .i64 (b2 : Int), .int .i64 (L : Int)] w fun e w' => (∃ x, e = .returned x) ∧ ∃ ys, Sp B g n c w xs w' ys) := fun B g n c a2 b2 L xs w h1 h2 h3 h4 h5 h6 => ih (b2 - a2) (by omega) B g n c a2 b2 L xs w h1 (Nat.le_refl _) h3 h4 h5 h6
  have HS : Hid (Sp B g n c w xs w xs) := Sp.first h
  clear h ih
  go_enter Tryz.func78, Tryz.ntmps78
  go_wp2
  go_loopg [1, 2, 3, 8, 9] (b - a) (fun gk sa sb sl s8 s9 wr => ∃ a2 b2 L2 : Nat, gk = b2 - a2 ∧ sa = .int .i64 (a2 : Int) ∧ sb = .int .i64 (b2 : Int) ∧ sl = .int .i64 (L2 : Int) ∧ IsB s8 ∧ IsB s9 ∧ (a ≤ a2 ∧ a2 ≤ b2) ∧ b2 ≤ b ∧ L2 ≤ 1000 ∧ b2 ≤ n ∧ ∃ zs, Sp B g n c w xs wr zs)
  case atStart => exact ⟨a, b, L, rfl, rfl, rfl, rfl, ⟨_, rfl⟩, ⟨_, rfl⟩, by omega, by omega, by omega, by omega, _, HS.out⟩
  case round =>
    obtain ⟨a2, b2, L2, hgk, rfl, rfl, rfl, ⟨t8, rfl⟩, ⟨t9, rfl⟩, hab2, hbb, hL2, hbn, zs0, hS⟩ := hrel
    clear HS
    have HS : Hid (Sp B g n c w xs wr zs0) := hS
    clear hS
    obtain ⟨l, hl⟩ : ∃ l : Nat, b2 - a2 = l := ⟨_, rfl⟩
    have kl : IntKind.i64.wrap ((b2 : Int) - (a2 : Int)) = (l : Int) := by rw [IntWalk.i64_in _ ⟨by omega, by omega⟩]; omega
    by_cases h12 : l ≤ 12
    · have h12' : (l : Int) ≤ 12 := by omega
      go_wp2_with (go_at_call 91; (with_reducible refine (insert_any B g n c a2 b2 zs0 wr HS.out.row (by omega) (by omega) hn).mono ?_); rintro e v1 ⟨⟨x, rfl⟩, ys, hp1, hr1, ho1⟩; have S1 : Hid (Sp B g n c w xs v1 ys) := HS.out.of hp1 hr1 ho1; clear hp1 hr1 ho1)
      refine bodyPost_ret (results_none rfl _ _ _) rfl ?_
      exact ⟨⟨_, rfl⟩, _, S1.out⟩
    · have h12' : ¬ (l : Int) ≤ 12 := by omega
      by_cases hL0 : L2 = 0
      · subst hL0
        go_wp2_with (go_at_call 92; (with_reducible refine (heap_any B g n c a2 b2 zs0 wr HS.out.row (by omega) (by omega) hn).mono ?_); rintro e v1 ⟨⟨x, rfl⟩, ys, hp1, hr1, ho1⟩; have S1 : Hid (Sp B g n c w xs v1 ys) := HS.out.of hp1 hr1 ho1; clear hp1 hr1 ho1)
        refine bodyPost_ret (results_none rfl _ _ _) rfl ?_
        exact ⟨⟨_, rfl⟩, _, S1.out⟩
      · have hL0' : ¬ (L2 : Int) = 0 := by omega
        have hL0b : ((L2 : Int) == 0) = false := by simp; omega
        go_upto_if 35 with fail
        go_cut [3] (fun s wc => ∃ L3 : Nat, s = .int .i64 (L3 : Int) ∧ L3 ≤ 1000 ∧ ∃ zs, Sp B g n c w xs wc zs)
        case first =>
          cases t8 with
          | true =>
            go_wp2_with fail
            go_meet
            exact ⟨L2, rfl, by omega, _, HS.out⟩
          | false =>
            have rl : IntKind.i64.wrap ((L2 : Int) - 1) = ((L2 - 1 : Nat) : Int) := by rw [IntWalk.i64_in _ ⟨by omega, by omega⟩]; omega
            go_wp2_with (go_at_call 93; (with_reducible refine (brk_any B g n c a2 b2 zs0 wr HS.out.row (by omega) (by omega) hn).mono ?_); rintro e v1 ⟨⟨x, rfl⟩, ys, hs1⟩; have S1 : Hid (Sp B g n c w xs v1 ys) := HS.out.then hs1; clear hs1)
            go_meet
            exact ⟨L2 - 1, rfl, by omega, _, S1.out⟩
        case rest =>
          obtain ⟨L3, rfl, hL3, zs, hS⟩ := hcut
          clear HS
          have HS : Hid (Sp B g n c w xs wc zs) := hS
          clear hS hL0 hL0b
          go_upto_if 50 with (go_at_call 94; (with_reducible refine (pivot_any B g n c a2 b2 zs wc HS.out.row (by omega) (by omega) hn).mono ?_); rintro e v1 ⟨p0, t0, rfl, hp0, ht0, hr1, hb1⟩; have S1 : Hid (Sp B g n c w xs v1 zs) := HS.out.below hb1; clear hr1 hb1)
          clear HS
          have HS : Hid (Sp B g n c w xs v1 zs) := S1.out
          clear S1
          go_cut [11, 12] (fun s1 s2 wc => ∃ p t : Nat, s1 = .int .i64 (p : Int) ∧ s2 = .int .i64 (t : Int) ∧ (a2 ≤ p ∧ p < b2) ∧ t ≤ 2 ∧ ∃ zs, Sp B g n c w xs wc zs)
          case first =>
            by_cases ht2 : t0 = 2
            · subst ht2
              obtain ⟨y1, hy1⟩ : ∃ x : Nat, b2 - 1 = x := ⟨_, rfl⟩
              obtain ⟨y2, hy2⟩ : ∃ x : Nat, p0 - a2 = x := ⟨_, rfl⟩
              obtain ⟨y3, hy3⟩ : ∃ x : Nat, y1 - y2 = x := ⟨_, rfl⟩
              have r1 : IntKind.i64.wrap ((b2 : Int) - 1) = (y1 : Int) := by rw [IntWalk.i64_in _ ⟨by omega, by omega⟩]; omega
              have r2 : IntKind.i64.wrap ((p0 : Int) - (a2 : Int)) = (y2 : Int) := by rw [IntWalk.i64_in _ ⟨by omega, by omega⟩]; omega
              have r3 : IntKind.i64.wrap ((y1 : Int) - (y2 : Int)) = (y3 : Int) := by rw [IntWalk.i64_in _ ⟨by omega, by omega⟩]; omega
              have HY : Hid (a2 ≤ y3 ∧ y3 < b2) := by unfold Hid; omega
              clear hy1 hy2 hy3
              go_wp2_with (go_at_call 95; (with_reducible refine (rev_any B g n c a2 b2 zs v1 HS.out.row (by omega) (by omega) hn).mono ?_); rintro e v3 ⟨⟨x, rfl⟩, ys, hp1, hr1, ho1⟩; have S1 : Hid (Sp B g n c w xs v3 ys) := HS.out.of hp1 hr1 ho1; clear hp1 hr1 ho1)
              go_meet
              exact ⟨y3, 1, rfl, rfl, HY.out, by omega, _, S1.out⟩
            · have ht2' : ¬ (t0 : Int) = 2 := by omega
              have ht2b : ((t0 : Int) == 2) = false := by simp; omega
              go_wp2_with fail
              go_meet
              exact ⟨p0, t0, rfl, rfl, hp0, ht0, _, HS.out⟩
          case rest =>
            obtain ⟨p, t, rfl, rfl, hp, ht, zs, hS⟩ := hcut
            clear HS
            have HS : Hid (Sp B g n c w xs wc zs) := hS
            clear hS
            go_upto_region 15 with fail
            go_cut [68] (fun s wc => IsB s ∧ ∃ zs, Sp B g n c w xs wc zs)
            case first =>
              by_cases ht1 : t = 1
              · subst ht1
                cases t8 <;> cases t9 <;> (go_wp2_with fail; go_meet; exact ⟨⟨_, rfl⟩, _, HS.out⟩)
              · have ht1' : ¬ (t : Int) = 1 := by omega
                have ht1b : ((t : Int) == 1) = false := by simp; omega
                cases t8 <;> cases t9 <;> (go_wp2_with fail; go_meet; exact ⟨⟨_, rfl⟩, _, HS.out⟩)
            case rest =>
              obtain ⟨⟨t68, rfl⟩, zs, hS⟩ := hcut
              clear HS
              have HS : Hid (Sp B g n c w xs wc zs) := hS
              clear hS
              go_upto_if 68 with fail
              go_cut [] (fun wc => ∃ zs, Sp B g n c w xs wc zs)
              case first =>
                cases t68 with
                | false =>
                  go_wp2_with fail
                  go_meet
                  exact ⟨_, HS.out⟩
                | true =>
                  go_upto_if 72 with (go_at_call 96; (with_reducible refine (pins_any B g n c a2 b2 zs wc HS.out.row (by omega) (by omega) hn).mono ?_); rintro e v1 ⟨t72, rfl, ys, hs1⟩; have S1 : Hid (Sp B g n c w xs v1 ys) := HS.out.then hs1; clear hs1)
                  cases t72 with
                  | false =>
                    go_wp2_with fail
                    go_meet
                    exact ⟨_, S1.out⟩
                  | true =>
                    go_wp2
                    refine bodyPost_ret (results_none rfl _ _ _) rfl ?_
                    exact ⟨⟨_, rfl⟩, _, S1.out⟩
              case rest =>
                obtain ⟨zs, hS⟩ := hcut
                clear HS
                have HS : Hid (Sp B g n c w xs wc zs) := hS
                clear hS
                have m1 : IntKind.i64.wrap ((a2 : Int) - 1) = ((a2 : Int) - 1) := IntWalk.i64_in _ ⟨by omega, by omega⟩
                go_upto_region 17 with fail
                go_cut [87] (fun s wc => IsB s ∧ ∃ zs, Sp B g n c w xs wc zs)
                case first =>
                  obtain ⟨am, ham⟩ : ∃ x : Nat, a2 - 1 = x := ⟨_, rfl⟩
                  obtain ⟨X, F, hX, hF, onto⟩ := class_of (fun v => Below wc.heap.size wc v) (Below.refl _ wc)
                  have HF : Hid (∀ y, Below wc.heap.size wc (F y)) := hF
                  have HO : Hid (∀ v, Below wc.heap.size wc v → ∃ x, v = F x) := fun v h => by obtain ⟨x, hx⟩ := onto v h; exact ⟨x, hx.symm⟩
                  by_cases hgd : 0 < a2
                  · have hgd' : (0 : Int) < (a2 : Int) := by omega
                    obtain ⟨xp, hxp⟩ := HS.out.at (i := am) (by omega)
                    obtain ⟨xq, hxq⟩ := HS.out.at (i := p) (by omega)
                    have cp : ∀ q, (F q).cell? ⟨g, am, none⟩ = some (.int .i32 xp.v) := fun q => (HS.out.below (hF q)).row.get hxp
                    have cq : ∀ q, (F q).cell? ⟨g, p, none⟩ = some (.int .i32 xq.v) := fun q => (HS.out.below (hF q)).row.get hxq
                    have tp : ((am : Nat) : Int) < (n : Int) := by omega
                    have tq : ((p : Nat) : Int) < (n : Int) := by omega
                    have kam : IntKind.i64.wrap ((a2 : Int) - 1) = (am : Int) := by rw [m1]; omega
                    clear m1
                    clear hxp hxq
                    go_upto_region 17 with fail
                    refine region_class F (by kernel_rfl) (by kernel_rfl) (by obtain ⟨x, hx⟩ := HO.out _ (Below.refl _ _).drew; exact ⟨x, hx.symm⟩) ?_
                    repeat (go_big_quiet_step (first | (go_at_call 97; with_reducible refine (less_any xp.v xq.v _).mono ?_; rintro e z5 ⟨rfl, rfl⟩; exact ⟨rfl, HO.out _ (HF.out _)⟩)))
                    clear cp cq
                    refine wpQuiet_nil ?_
                    rintro _ ⟨nq, rfl⟩
                    obtain ⟨z0, hz0⟩ : ∃ z, F nq = z := ⟨_, rfl⟩
                    have SZ : Hid (Sp B g n c w xs z0 zs) := HS.out.below (hz0 ▸ HF.out nq)
                    rw [hz0]
                    clear hz0 HF HO HS hF onto
                    by_cases hlt : xp.v < xq.v
                    · rw [show decide (xp.v < xq.v) = true from decide_eq_true hlt]
                      go_wp2_with fail
                      go_meet
                      exact ⟨⟨_, rfl⟩, _, SZ.out⟩
                    · rw [show decide (xp.v < xq.v) = false from decide_eq_false hlt]
                      go_wp2_with fail
                      go_meet
                      exact ⟨⟨_, rfl⟩, _, SZ.out⟩
                  · have hgd' : ¬ (0 : Int) < (a2 : Int) := by omega
                    go_upto_region 17 with fail
                    refine region_class F (by kernel_rfl) (by kernel_rfl) (by obtain ⟨x, hx⟩ := HO.out _ (Below.refl _ _).drew; exact ⟨x, hx.symm⟩) ?_
                    repeat (go_big_quiet_step (fail))
                    refine wpQuiet_nil ?_
                    rintro _ ⟨nq, rfl⟩
                    obtain ⟨z0, hz0⟩ : ∃ z, F nq = z := ⟨_, rfl⟩
                    have SZ : Hid (Sp B g n c w xs z0 zs) := HS.out.below (hz0 ▸ HF.out nq)
                    rw [hz0]
                    clear hz0 HF HO HS hF onto
                    go_wp2_with fail
                    go_meet
                    exact ⟨⟨_, rfl⟩, _, SZ.out⟩
                case rest =>
                  obtain ⟨⟨t87, rfl⟩, zs, hS⟩ := hcut
                  clear HS m1
                  have HS : Hid (Sp B g n c w xs wc zs) := hS
                  clear hS
                  cases t87 with
                  | true =>
                    go_wp2_with (go_at_call 98; (with_reducible refine (peq_any B g n c a2 b2 p zs wc HS.out.row (by omega) (by omega) (by omega) hn).mono ?_); rintro e v1 ⟨mid, rfl, hmid, ys, hp1, hr1, ho1⟩; have S1 : Hid (Sp B g n c w xs v1 ys) := HS.out.of hp1 hr1 ho1; clear hp1 hr1 ho1)
                    go_roundg (b2 - mid)
                    case measure => omega
                    case rel => exact ⟨mid, b2, L3, rfl, rfl, rfl, rfl, ⟨t8, rfl⟩, ⟨t9, rfl⟩, by omega, by omega, by omega, by omega, _, S1.out⟩
                  | false =>
                    obtain ⟨e8, he8⟩ : ∃ e : Nat, l / 8 = e := ⟨_, rfl⟩
                    have q1 : IntKind.i64.wrap ((l : Int).tdiv 8) = (e8 : Int) := by rw [Int.tdiv_eq_ediv_of_nonneg (by omega), IntWalk.i64_in _ ⟨by omega, by omega⟩]; omega
                    have q2 : IntKind.i64.wrap ((l : Int) / 8) = (e8 : Int) := by rw [IntWalk.i64_in _ ⟨by omega, by omega⟩]; omega
                    have PT : Hid (Calls Tryz.prog 99 #[.slice (some ⟨g, 0, none⟩) n c, .int .i64 (a2 : Int), .int .i64 (b2 : Int), .int .i64 (p : Int)] wc fun e w' => ∃ (j : Nat) (v : Value), e = .returned (.tuple #[.int .i64 (j : Int), v]) ∧ IsB v ∧ (a2 ≤ j ∧ j < b2) ∧ ∃ ys, Sp B g n c wc zs w' ys) := (part_any B g n c a2 b2 p zs wc HS.out.row (by omega) (by omega) (by omega) hn).mono (fun e w' ⟨j, t, h1, h2, h3⟩ => ⟨j, .bool t, h1, ⟨t, rfl⟩, h2, h3⟩)
                    go_upto_region 21 with (go_at_call 99; (with_reducible refine PT.out.mono ?_); rintro e v1 ⟨mid, bv, rfl, hbv, hmid, ys, hs1⟩; have S1 : Hid (Sp B g n c w xs v1 ys) := HS.out.then hs1; clear hs1)
                    clear HS PT
                    obtain ⟨x1, hx1⟩ : ∃ x : Nat, mid - a2 = x := ⟨_, rfl⟩
                    obtain ⟨x2, hx2⟩ : ∃ x : Nat, b2 - mid = x := ⟨_, rfl⟩
                    obtain ⟨m1, hm1⟩ : ∃ x : Nat, mid + 1 = x := ⟨_, rfl⟩
                    have r1 : IntKind.i64.wrap ((mid : Int) - (a2 : Int)) = (x1 : Int) := by rw [IntWalk.i64_in _ ⟨by omega, by omega⟩]; omega
                    have r2 : IntKind.i64.wrap ((b2 : Int) - (mid : Int)) = (x2 : Int) := by rw [IntWalk.i64_in _ ⟨by omega, by omega⟩]; omega
                    have r3 : IntKind.i64.wrap ((mid : Int) + 1) = (m1 : Int) := by rw [IntWalk.i64_in _ ⟨by omega, by omega⟩]; omega
                    have IL : Hid (Calls Tryz.prog 78 #[.slice (some ⟨g, 0, none⟩) n c, .int .i64 (a2 : Int), .int .i64 (mid : Int), .int .i64 (L3 : Int)] v1 fun e w' => (∃ x, e = .returned x) ∧ ∃ ys2, Sp B g n c v1 ys w' ys2) := IH.out B g n c a2 mid L3 ys v1 S1.out.row (by omega) (by omega) (by omega) (by omega) hn
                    have IR : Hid (Calls Tryz.prog 78 #[.slice (some ⟨g, 0, none⟩) n c, .int .i64 (m1 : Int), .int .i64 (b2 : Int), .int .i64 (L3 : Int)] v1 fun e w' => (∃ x, e = .returned x) ∧ ∃ ys2, Sp B g n c v1 ys w' ys2) := IH.out B g n c m1 b2 L3 ys v1 S1.out.row (by omega) (by omega) (by omega) (by omega) hn
                    have HQ : Hid (mid - a2 = x1 ∧ b2 - mid = x2 ∧ mid + 1 = m1) := ⟨hx1, hx2, hm1⟩
                    clear hx1 hx2 hm1
                    by_cases hlr : x1 < x2
                    · have hlr' : (x1 : Int) < (x2 : Int) := by omega
                      go_wp2_with (go_at_call 78; (with_reducible refine (IL.out).mono ?_); rintro e v2 ⟨⟨x, rfl⟩, ys2, hs2⟩; have S2 : Hid (Sp B g n c w xs v2 ys2) := S1.out.then hs2; clear hs2)
                      go_roundg (b2 - m1)
                      case measure => have := HQ.out; omega
                      case rel => exact ⟨m1, b2, L3, rfl, rfl, rfl, rfl, ⟨_, rfl⟩, hbv, by have := HQ.out; omega, by have := HQ.out; omega, by omega, by omega, _, S2.out⟩
                    · have hlr' : ¬ (x1 : Int) < (x2 : Int) := by omega
                      go_wp2_with (go_at_call 78; (with_reducible refine (IR.out).mono ?_); rintro e v2 ⟨⟨x, rfl⟩, ys2, hs2⟩; have S2 : Hid (Sp B g n c w xs v2 ys2) := S1.out.then hs2; clear hs2)
                      go_roundg (mid - a2)
                      case measure => omega
                      case rel => exact ⟨a2, mid, L3, rfl, rfl, rfl, rfl, ⟨_, rfl⟩, hbv, by omega, by omega, by omega, by omega, _, S2.out⟩
end Go.Proofs.YtgijcbipnjmhgabGreat
