import Derived.Test.YtgijcbipnjmhgaaSmD
import Derived.Test.YtgijcbipnjmhgaaOrd
import Derived.Deep.DeepCutAuto
import Derived.Deep.RegionWith
import Derived.BigRegion
namespace Go.Proofs.Ytgijcbipnjmhgaa
open Go.ChangeShapes Go.WideShapes Go.ChangeAt Go.RowKit
set_option linter.unusedVariables false
set_option linter.unusedSimpArgs false

theorem nan_any (x : Int) (w : World) : Calls Try.prog 94 #[.int .i32 x] w fun e w' => e = .returned (.bool false) ∧ w' = w := by
  have h : (x != x) = false := by simp
  go_enter Try.func94, Try.ntmps94
  go_wp2
  go_ret
  exact ⟨rfl, rfl⟩
theorem less_any (x y : Int) (w : World) : Calls Try.prog 83 #[.int .i32 x, .int .i32 y] w fun e w' => e = .returned (.bool (decide (x < y))) ∧ w' = w := by
  go_enter Try.func83, Try.ntmps83
  go_wp2_with (go_at_call 94; (with_reducible refine (nan_any _ _).mono ?_); rintro e w1 ⟨rfl, rfl⟩)
  go_ret
  exact ⟨rfl, rfl⟩

set_option maxRecDepth 1000000 in
set_option maxHeartbeats 2000000 in
theorem insert_any (B g n c a b : Nat) (xs : List Hn) (w : World) (h : Row B 21 g n c w xs) (hab : b ≤ n) (ha : a ≤ n) (hn : n ≤ 70368744177664) :
    Calls Try.prog 77 #[.slice (some ⟨g, 0, none⟩) n c, .int .i64 (a : Int), .int .i64 (b : Int)] w fun e w' => (∃ x, e = .returned x) ∧ ∃ ys, ys.Perm xs ∧ Row B 21 g n c w' ys ∧ One g w w' := by
  have HR : Hid (Row B 21 g n c w xs) := h
  clear h
  go_enter Try.func77, Try.ntmps77
  go_wp2
  go_loopg [6] (b - (a + 1)) (fun gk si wr => ∃ (i : Nat) (ys : List Hn), gk = b - i ∧ a + 1 ≤ i ∧ (i ≤ b ∨ i = a + 1) ∧ si = .int .i64 (i : Int) ∧ ys.Perm xs ∧ Row B 21 g n c wr ys ∧ One g w wr)
  case atStart => exact ⟨a + 1, xs, rfl, Nat.le_refl _, .inr rfl, by go_num, List.Perm.refl _, HR.out, One.refl _ _⟩
  case round =>
    obtain ⟨i, ys, rfl, hai, hib, rfl, hp, hR, hO⟩ := hrel
    clear HR
    have HR : Hid (Row B 21 g n c wr ys) := hR
    have HP : Hid (ys.Perm xs) := hp
    have HO1 : Hid (One g w wr) := hO
    clear hR hp hO
    by_cases hlt : i < b
    · have hlt' : (i : Int) < (b : Int) := by omega
      go_wp2
      obtain ⟨wo, rfl⟩ : ∃ wo, wo = wr := ⟨_, rfl⟩
      go_loopg [7] i (fun gj sj wj => ∃ (j : Nat) (zs : List Hn), gj = j ∧ j ≤ i ∧ sj = .int .i64 (j : Int) ∧ zs.Perm xs ∧ Row B 21 g n c wj zs ∧ One g w wj)
      case atStart => exact ⟨i, ys, rfl, Nat.le_refl _, rfl, HP.out, HR.out, HO1.out⟩
      case round =>
        obtain ⟨j, zs, hgj, hj, rfl, hp, hR, hO⟩ := hrel
        clear HR HP HO1
        have HR : Hid (Row B 21 g n c wr zs) := hR
        have HP : Hid (zs.Perm xs) := hp
        have HO1 : Hid (One g w wr) := hO
        have hzl := hR.len
        clear hR hp hO
        obtain ⟨X, F, hX, hF, onto⟩ := class_of (fun v => Below wr.heap.size wr v) (Below.refl _ wr)
        have HF : Hid (∀ y, Below wr.heap.size wr (F y)) := hF
        have HO : Hid (∀ v, Below wr.heap.size wr v → ∃ x, v = F x) := fun v h => by obtain ⟨x, hx⟩ := onto v h; exact ⟨x, hx.symm⟩
        by_cases hja : a < j
        · have hja' : (a : Int) < (j : Int) := by omega
          obtain ⟨x, hx⟩ : ∃ x, zs[j]? = some x := ⟨_, List.getElem?_eq_getElem (by omega)⟩
          obtain ⟨y, hy⟩ : ∃ y, zs[j - 1]? = some y := ⟨_, List.getElem?_eq_getElem (by omega)⟩
          have cx : ∀ q, (F q).cell? ⟨g, j, none⟩ = some (.int .i32 x.v) := fun q => (HR.out.below (hF q)).get hx
          have cy : ∀ q, (F q).cell? ⟨g, j - 1, none⟩ = some (.int .i32 y.v) := fun q => (HR.out.below (hF q)).get hy
          have HX : Hid (zs[j]? = some x ∧ zs[j - 1]? = some y) := ⟨hx, hy⟩
          have m1 : IntKind.i64.wrap ((j : Int) - 1) = ((j - 1 : Nat) : Int) := by rw [IntWalk.i64_in _ ⟨by omega, by omega⟩]; omega
          have h1 : (j : Int) < (n : Int) := by omega
          have h2 : ((j - 1 : Nat) : Int) < (n : Int) := by omega
          clear hx hy hF onto hzl
          go_upto_region 4 with fail
          refine region_class F (by kernel_rfl) (by kernel_rfl) (by obtain ⟨x, hx⟩ := HO.out _ (Below.refl _ _).drew; exact ⟨x, hx.symm⟩) ?_
          repeat (go_big_quiet_step (first | (go_at_call 83; with_reducible refine (less_any x.v y.v _).mono ?_; rintro e z5 ⟨rfl, rfl⟩; exact ⟨rfl, HO.out _ (HF.out _)⟩)))
          refine wpQuiet_nil ?_
          rintro _ ⟨nq, rfl⟩
          obtain ⟨z0, hz0⟩ : ∃ z, F nq = z := ⟨_, rfl⟩
          have HZB : Hid (Below wr.heap.size wr z0) := hz0 ▸ HF.out nq
          rw [hz0]
          have RZ : Hid (Row B 21 g n c z0 zs) := HR.out.below HZB.out
          have OZ : Hid (One g w z0) := HO1.out.trans (One.of HZB.out (Nat.le_of_lt HR.out.lt))
          clear hz0 HF HO cx cy HR HO1
          by_cases hxy : x.v < y.v
          · rw [show decide (x.v < y.v) = true from decide_eq_true hxy]
            go_upto_region 6 with fail
            have HSr : z0.cell? ⟨g, j - 1, none⟩ = some (.int .i32 y.v) ∧ z0.cell? ⟨g, j, none⟩ = some (.int .i32 x.v) := ⟨RZ.out.get HX.out.2, RZ.out.get HX.out.1⟩
            obtain ⟨cy, cx⟩ := HSr
            have f1 := RZ.out.free j
            have f2 := RZ.out.free (j - 1)
            have hne : j - 1 ≠ j := by omega
            go_big_region
            obtain ⟨z1, hz1⟩ : ∃ z, ((z0.setCell ⟨g, j, none⟩ (.int .i32 y.v)).setCell ⟨g, j - 1, none⟩ (.int .i32 x.v)).drew = z := ⟨_, rfl⟩
            rw [hz1]
            have R1 : Hid (Row B 21 g n c z1 (swp zs j (j - 1) x y)) := by unfold Hid; rw [← hz1]; exact ((RZ.out.set j y).set (j - 1) x).below (Below.refl _ _).drew
            have O1 : Hid (One g w z1) := by unfold Hid; rw [← hz1]; exact ((OZ.out.trans (One.set g j _ _)).trans (One.set g (j - 1) _ _)).trans (One.of (Below.refl _ _).drew (by have := RZ.out.lt; simp; omega))
            have P1 : Hid ((swp zs j (j - 1) x y).Perm xs) := (swp_perm HX.out.1 HX.out.2).trans HP.out
            clear hz1 cx cy f1 f2
            go_wp2
            go_roundg (j - 1)
            case measure => omega
            case rel => exact ⟨j - 1, _, rfl, by omega, rfl, P1.out, R1.out, O1.out⟩
          · rw [show decide (x.v < y.v) = false from decide_eq_false hxy]
            go_wp2
            go_roundg (b - (i + 1))
            case measure => omega
            case rel => exact ⟨i + 1, zs, rfl, by omega, .inl (by omega), by go_num, HP.out, RZ.out, OZ.out⟩
        · have hja' : ¬ (a : Int) < (j : Int) := by omega
          go_upto_region 4 with fail
          refine region_class F (by kernel_rfl) (by kernel_rfl) (by obtain ⟨x, hx⟩ := HO.out _ (Below.refl _ _).drew; exact ⟨x, hx.symm⟩) ?_
          repeat (go_big_quiet_step (fail))
          refine wpQuiet_nil ?_
          rintro _ ⟨nq, rfl⟩
          obtain ⟨z0, hz0⟩ : ∃ z, F nq = z := ⟨_, rfl⟩
          have HZB : Hid (Below wr.heap.size wr z0) := hz0 ▸ HF.out nq
          rw [hz0]
          have RZ : Hid (Row B 21 g n c z0 zs) := HR.out.below HZB.out
          have OZ : Hid (One g w z0) := HO1.out.trans (One.of HZB.out (Nat.le_of_lt HR.out.lt))
          clear hz0 HF HO
          go_wp2
          go_roundg (b - (i + 1))
          case measure => omega
          case rel => exact ⟨i + 1, zs, rfl, by omega, .inl (by omega), by go_num, HP.out, RZ.out, OZ.out⟩
    · have hlt' : ¬ (i : Int) < (b : Int) := by omega
      go_wp2
      go_end0
      exact ⟨⟨_, rfl⟩, ys, HP.out, HR.out, HO1.out⟩
end Go.Proofs.Ytgijcbipnjmhgaa

namespace Go.Proofs.Ytgijcbipnjmhgaa
open Go.ChangeShapes Go.WideShapes Go.ChangeAt Go.RowKit
set_option linter.unusedVariables false
set_option linter.unusedSimpArgs false

/-- the row, and a counter's box beside it -/
structure Rc (B e g n c s : Nat) (m : Nat) (w : World) (xs : List Hn) : Prop where
  row : Row B e g n c w xs
  box : Bx w s #[.int .i64 (m : Int)] 3
  ne : s ≠ g
theorem Rc.below {B e g n c s m : Nat} {w w' : World} {xs : List Hn} (h : Rc B e g n c s m w xs) (hb : Below w.heap.size w w') : Rc B e g n c s m w' xs := ⟨h.row.below hb, h.box.below hb h.box.lt, h.ne⟩
theorem Rc.more {B e g n c s m k : Nat} {w : World} {xs : List Hn} (h : Rc B e g n c s m w xs) : Rc B e g n c s k (w.setCell ⟨s, 0, none⟩ (.int .i64 (k : Int))) xs :=
  ⟨ownsRow_setCell_other h.row (a := ⟨s, 0, none⟩) (fun e => by cases e; exact h.ne rfl) _, h.box.set 0 _, h.ne⟩

set_option maxRecDepth 1000000 in
set_option maxHeartbeats 2000000 in
theorem order2_any (B g n c s m a b : Nat) (xs : List Hn) (w : World) (h : Rc B 21 g n c s m w xs) (ha : a < n) (hb : b < n) (hm : m ≤ 1000) (hn : n ≤ 70368744177664) :
    Calls Try.prog 96 #[.slice (some ⟨g, 0, none⟩) n c, .int .i64 (a : Int), .int .i64 (b : Int), .pointer (some ⟨s, 0, none⟩)] w fun e w' => ∃ (x y k : Nat), e = .returned (.tuple #[.int .i64 (x : Int), .int .i64 (y : Int)]) ∧ (x = a ∧ y = b ∨ x = b ∧ y = a) ∧ k ≤ m + 1 ∧ Rc B 21 g n c s k w' xs ∧ One s w w' := by
  have HR : Hid (Rc B 21 g n c s m w xs) := h
  have hzl := h.row.len
  obtain ⟨x, hx⟩ : ∃ x, xs[a]? = some x := ⟨_, List.getElem?_eq_getElem (by omega)⟩
  obtain ⟨y, hy⟩ : ∃ y, xs[b]? = some y := ⟨_, List.getElem?_eq_getElem (by omega)⟩
  obtain ⟨X, F, hX, hF, onto⟩ := class_of (fun v => Below w.heap.size w v) (Below.refl _ w)
  have HF : Hid (∀ y, Below w.heap.size w (F y)) := hF
  have HO : Hid (∀ v, Below w.heap.size w v → ∃ x, v = F x) := fun v h => by obtain ⟨x, hx⟩ := onto v h; exact ⟨x, hx.symm⟩
  have cx : ∀ q, (F q).cell? ⟨g, a, none⟩ = some (.int .i32 x.v) := fun q => (h.row.below (hF q)).get hx
  have cy : ∀ q, (F q).cell? ⟨g, b, none⟩ = some (.int .i32 y.v) := fun q => (h.row.below (hF q)).get hy
  have b0 : (a : Int) < (n : Int) := by omega
  have b1 : (b : Int) < (n : Int) := by omega
  have km : IntKind.i64.wrap ((m : Int) + 1) = ((m + 1 : Nat) : Int) := by rw [IntWalk.i64_in _ ⟨by omega, by omega⟩]; omega
  clear h hx hy hF onto hzl
  go_enter Try.func96, Try.ntmps96
  go_wp2
  refine region_class F (by kernel_rfl) (by kernel_rfl) (by obtain ⟨x, hx⟩ := HO.out _ (Below.refl _ _).drew; exact ⟨x, hx.symm⟩) ?_
  repeat (go_big_quiet_step (first | (go_at_call 83; with_reducible refine (less_any y.v x.v _).mono ?_; rintro e z5 ⟨rfl, rfl⟩; exact ⟨rfl, HO.out _ (HF.out _)⟩)))
  refine wpQuiet_nil ?_
  rintro _ ⟨nq, rfl⟩
  obtain ⟨z0, hz0⟩ : ∃ z, F nq = z := ⟨_, rfl⟩
  have HZB : Hid (Below w.heap.size w z0) := hz0 ▸ HF.out nq
  rw [hz0]
  have RZ : Hid (Rc B 21 g n c s m z0 xs) := HR.out.below HZB.out
  have OZ : Hid (One s w z0) := One.of HZB.out (Nat.le_of_lt HR.out.box.lt)
  clear hz0 HF HO cx cy
  by_cases hyx : y.v < x.v
  · rw [show decide (y.v < x.v) = true from decide_eq_true hyx]
    have cs := RZ.out.box.one
    have fs := RZ.out.box.free 0
    obtain ⟨z1, hz1⟩ : ∃ z, z0.setCell ⟨s, 0, none⟩ (.int .i64 ((m : Int) + 1)) = z := ⟨_, rfl⟩
    have HE1 : Hid (z0.setCell ⟨s, 0, none⟩ (.int .i64 ((m : Int) + 1)) = z1) := hz1
    have R1 : Hid (Rc B 21 g n c s (m + 1) z1 xs) := by unfold Hid; rw [← hz1]; have h9 := RZ.out.more (k := m + 1); rw [show ((m + 1 : Nat) : Int) = (m : Int) + 1 by omega] at h9; exact h9
    have O1 : Hid (One s w z1) := by unfold Hid; rw [← hz1]; exact OZ.out.trans (One.set s 0 _ _)
    clear hz1
    go_wp2
    go_ret2
    rw [HE1.out]
    first
      | exact ⟨b, a, m + 1, rfl, .inr ⟨rfl, rfl⟩, Nat.le_refl _, R1.out, O1.out⟩
      | exact ⟨b, a, rfl, .inr ⟨rfl, rfl⟩, m + 1, Nat.le_refl _, R1.out, O1.out⟩
  · rw [show decide (y.v < x.v) = false from decide_eq_false hyx]
    go_wp2
    go_ret2
    first
      | exact ⟨a, b, m, rfl, .inl ⟨rfl, rfl⟩, Nat.le_succ _, RZ.out, OZ.out⟩
      | exact ⟨a, b, rfl, .inl ⟨rfl, rfl⟩, m, Nat.le_succ _, RZ.out, OZ.out⟩
end Go.Proofs.Ytgijcbipnjmhgaa
