import Derived.Test.YtgijcbipnjmhgabGreatInfT
import Derived.Test.YtgijcbipnjmhgabGreatOrd
import Derived.Deep.DeepCutAuto
import Derived.Deep.RegionWith
import Derived.BigRegion
namespace Go.Proofs.YtgijcbipnjmhgabGreat
open Go.ChangeShapes Go.WideShapes Go.ChangeAt Go.RowKit
set_option linter.unusedVariables false
set_option linter.unusedSimpArgs false

theorem nan_any (x : Int) (w : World) : Calls Tryz.prog 108 #[.int .i32 x] w fun e w' => e = .returned (.bool false) ∧ w' = w := by
  have h : (x != x) = false := by simp
  go_enter Tryz.func108, Tryz.ntmps108
  go_wp2
  go_ret
  exact ⟨rfl, rfl⟩
theorem less_any (x y : Int) (w : World) : Calls Tryz.prog 97 #[.int .i32 x, .int .i32 y] w fun e w' => e = .returned (.bool (decide (x < y))) ∧ w' = w := by
  go_enter Tryz.func97, Tryz.ntmps97
  go_wp2_with (go_at_call 108; (with_reducible refine (nan_any _ _).mono ?_); rintro e w1 ⟨rfl, rfl⟩)
  go_ret
  exact ⟨rfl, rfl⟩

set_option maxRecDepth 1000000 in
set_option maxHeartbeats 2000000 in
theorem insert_any (B g n c a b : Nat) (xs : List Hn) (w : World) (h : Row B 21 g n c w xs) (hab : b ≤ n) (ha : a ≤ n) (hn : n ≤ 70368744177664) :
    Calls Tryz.prog 91 #[.slice (some ⟨g, 0, none⟩) n c, .int .i64 (a : Int), .int .i64 (b : Int)] w fun e w' => (∃ x, e = .returned x) ∧ ∃ ys, ys.Perm xs ∧ Row B 21 g n c w' ys ∧ One g w w' := by
  have HR : Hid (Row B 21 g n c w xs) := h
  clear h
  go_enter Tryz.func91, Tryz.ntmps91
  go_wp2
  go_loopg [6] (b - (a + 1)) (fun gk si wr => ∃ (i : Nat) (ys : List Hn), gk = b - i ∧ a + 1 ≤ i ∧ (i ≤ b ∨ i = a + 1) ∧ si = .int .i64 (i : Int) ∧ ys.Perm xs ∧ Row B 21 g n c wr ys ∧ One g w wr)
  case atStart => exact ⟨a + 1, xs, rfl, Nat.le_refl _, .inr rfl, by go_num, List.Perm.refl _, HR.out, One.refl _ _⟩
  case round =>
    obtain ⟨i, ys, rfl, hai, hib, rfl, hp, hR, hO⟩ := hrel
    clear HR
    have HR : Hid (Row B 21 g n c wr ys) := hR
    have HP : Hid (ys.Perm xs) := hp
    have HO1 : Hid (One g w wr) := hO
    clear hR hp hO
    by_cases hlt : i < b
    · have hlt' : (i : Int) < (b : Int) := by omega
      go_wp2
      obtain ⟨wo, rfl⟩ : ∃ wo, wo = wr := ⟨_, rfl⟩
      go_loopg [7] i (fun gj sj wj => ∃ (j : Nat) (zs : List Hn), gj = j ∧ j ≤ i ∧ sj = .int .i64 (j : Int) ∧ zs.Perm xs ∧ Row B 21 g n c wj zs ∧ One g w wj)
      case atStart => exact ⟨i, ys, rfl, Nat.le_refl _, rfl, HP.out, HR.out, HO1.out⟩
      case round =>
        obtain ⟨j, zs, hgj, hj, rfl, hp, hR, hO⟩ := hrel
        clear HR HP HO1
        have HR : Hid (Row B 21 g n c wr zs) := hR
        have HP : Hid (zs.Perm xs) := hp
        have HO1 : Hid (One g w wr) := hO
        have hzl := hR.len
        clear hR hp hO
        obtain ⟨X, F, hX, hF, onto⟩ := class_of (fun v => Below wr.heap.size wr v) (Below.refl _ wr)
        have HF : Hid (∀ y, Below wr.heap.size wr (F y)) := hF
        have HO : Hid (∀ v, Below wr.heap.size wr v → ∃ x, v = F x) := fun v h => by obtain ⟨x, hx⟩ := onto v h; exact ⟨x, hx.symm⟩
        by_cases hja : a < j
        · have hja' : (a : Int) < (j : Int) := by omega
          obtain ⟨x, hx⟩ : ∃ x, zs[j]? = some x := ⟨_, List.getElem?_eq_getElem (by omega)⟩
          obtain ⟨y, hy⟩ : ∃ y, zs[j - 1]? = some y := ⟨_, List.getElem?_eq_getElem (by omega)⟩
          have cx : ∀ q, (F q).cell? ⟨g, j, none⟩ = some (.int .i32 x.v) := fun q => (HR.out.below (hF q)).get hx
          have cy : ∀ q, (F q).cell? ⟨g, j - 1, none⟩ = some (.int .i32 y.v) := fun q => (HR.out.below (hF q)).get hy
          have HX : Hid (zs[j]? = some x ∧ zs[j - 1]? = some y) := ⟨hx, hy⟩
          have m1 : IntKind.i64.wrap ((j : Int) - 1) = ((j - 1 : Nat) : Int) := by rw [IntWalk.i64_in _ ⟨by omega, by omega⟩]; omega
          have h1 : (j : Int) < (n : Int) := by omega
          have h2 : ((j - 1 : Nat) : Int) < (n : Int) := by omega
          clear hx hy hF onto hzl
          go_upto_region 4 with fail
          refine region_class F (by kernel_rfl) (by kernel_rfl) (by obtain ⟨x, hx⟩ := HO.out _ (Below.refl _ _).drew; exact ⟨x, hx.symm⟩) ?_
          repeat (go_big_quiet_step (first | (go_at_call 97; with_reducible refine (less_any x.v y.v _).mono ?_; rintro e z5 ⟨rfl, rfl⟩; exact ⟨rfl, HO.out _ (HF.out _)⟩)))
          refine wpQuiet_nil ?_
          rintro _ ⟨nq, rfl⟩
          obtain ⟨z0, hz0⟩ : ∃ z, F nq = z := ⟨_, rfl⟩
          have HZB : Hid (Below wr.heap.size wr z0) := hz0 ▸ HF.out nq
          rw [hz0]
          have RZ : Hid (Row B 21 g n c z0 zs) := HR.out.below HZB.out
          have OZ : Hid (One g w z0) := HO1.out.trans (One.of HZB.out (Nat.le_of_lt HR.out.lt))
          clear hz0 HF HO cx cy HR HO1
          by_cases hxy : x.v < y.v
          · rw [show decide (x.v < y.v) = true from decide_eq_true hxy]
            go_upto_region 6 with fail
            have HSr : z0.cell? ⟨g, j - 1, none⟩ = some (.int .i32 y.v) ∧ z0.cell? ⟨g, j, none⟩ = some (.int .i32 x.v) := ⟨RZ.out.get HX.out.2, RZ.out.get HX.out.1⟩
            obtain ⟨cy, cx⟩ := HSr
            have f1 := RZ.out.free j
            have f2 := RZ.out.free (j - 1)
            have hne : j - 1 ≠ j := by omega
            go_big_region
            obtain ⟨z1, hz1⟩ : ∃ z, ((z0.setCell ⟨g, j, none⟩ (.int .i32 y.v)).setCell ⟨g, j - 1, none⟩ (.int .i32 x.v)).drew = z := ⟨_, rfl⟩
            rw [hz1]
            have R1 : Hid (Row B 21 g n c z1 (swp zs j (j - 1) x y)) := by unfold Hid; rw [← hz1]; exact ((RZ.out.set j y).set (j - 1) x).below (Below.refl _ _).drew
            have O1 : Hid (One g w z1) := by unfold Hid; rw [← hz1]; exact ((OZ.out.trans (One.set g j _ _)).trans (One.set g (j - 1) _ _)).trans (One.of (Below.refl _ _).drew (by have := RZ.out.lt; simp; omega))
            have P1 : Hid ((swp zs j (j - 1) x y).Perm xs) := (swp_perm HX.out.1 HX.out.2).trans HP.out
            clear hz1 cx cy f1 f2
            go_wp2
            go_roundg (j - 1)
            case measure => omega
            case rel => exact ⟨j - 1, _, rfl, by omega, rfl, P1.out, R1.out, O1.out⟩
          · rw [show decide (x.v < y.v) = false from decide_eq_false hxy]
            go_wp2
            go_roundg (b - (i + 1))
            case measure => omega
            case rel => exact ⟨i + 1, zs, rfl, by omega, .inl (by omega), by go_num, HP.out, RZ.out, OZ.out⟩
        · have hja' : ¬ (a : Int) < (j : Int) := by omega
          go_upto_region 4 with fail
          refine region_class F (by kernel_rfl) (by kernel_rfl) (by obtain ⟨x, hx⟩ := HO.out _ (Below.refl _ _).drew; exact ⟨x, hx.symm⟩) ?_
          repeat (go_big_quiet_step (fail))
          refine wpQuiet_nil ?_
          rintro _ ⟨nq, rfl⟩
          obtain ⟨z0, hz0⟩ : ∃ z, F nq = z := ⟨_, rfl⟩
          have HZB : Hid (Below wr.heap.size wr z0) := hz0 ▸ HF.out nq
          rw [hz0]
          have RZ : Hid (Row B 21 g n c z0 zs) := HR.out.below HZB.out
          have OZ : Hid (One g w z0) := HO1.out.trans (One.of HZB.out (Nat.le_of_lt HR.out.lt))
          clear hz0 HF HO
          go_wp2
          go_roundg (b - (i + 1))
          case measure => omega
          case rel => exact ⟨i + 1, zs, rfl, by omega, .inl (by omega), by go_num, HP.out, RZ.out, OZ.out⟩
    · have hlt' : ¬ (i : Int) < (b : Int) := by omega
      go_wp2
      go_end0
      exact ⟨⟨_, rfl⟩, ys, HP.out, HR.out, HO1.out⟩
end Go.Proofs.YtgijcbipnjmhgabGreat

namespace Go.Proofs.YtgijcbipnjmhgabGreat
open Go.ChangeShapes Go.WideShapes Go.ChangeAt Go.RowKit
set_option linter.unusedVariables false
set_option linter.unusedSimpArgs false

set_option maxRecDepth 1000000 in
set_option maxHeartbeats 4000000 in
theorem sift_any (B g n c lo hi first : Nat) (xs : List Hn) (w : World) (h : Row B 21 g n c w xs) (hf : first + hi ≤ n) (hl : lo ≤ n) (hn : n ≤ 70368744177664) :
    Calls Tryz.prog 105 #[.slice (some ⟨g, 0, none⟩) n c, .int .i64 (lo : Int), .int .i64 (hi : Int), .int .i64 (first : Int)] w fun e w' => (∃ x, e = .returned x) ∧ ∃ ys, ys.Perm xs ∧ Row B 21 g n c w' ys ∧ One g w w' := by
  have HR : Hid (Row B 21 g n c w xs) := h
  clear h
  go_enter Tryz.func105, Tryz.ntmps105
  go_wp2
  go_loopg [8] (n - lo) (fun gk si wr => ∃ (r : Nat) (zs : List Hn), gk = n - r ∧ r ≤ n ∧ si = .int .i64 (r : Int) ∧ zs.Perm xs ∧ Row B 21 g n c wr zs ∧ One g w wr)
  case atStart => exact ⟨lo, xs, rfl, hl, rfl, List.Perm.refl _, HR.out, One.refl _ _⟩
  case round =>
    obtain ⟨r, zs, hgk, hr, rfl, hp, hR, hO⟩ := hrel
    clear HR
    have HR : Hid (Row B 21 g n c wr zs) := hR
    have HP : Hid (zs.Perm xs) := hp
    have HO1 : Hid (One g w wr) := hO
    have hzl := hR.len
    clear hR hp hO
    obtain ⟨m2, hm2⟩ : ∃ m2 : Nat, 2 * r = m2 := ⟨_, rfl⟩
    obtain ⟨d1, hd1⟩ : ∃ d1 : Nat, m2 + 1 = d1 := ⟨_, rfl⟩
    obtain ⟨d2, hd2⟩ : ∃ d2 : Nat, d1 + 1 = d2 := ⟨_, rfl⟩
    obtain ⟨p0, hp0⟩ : ∃ p : Nat, first + r = p := ⟨_, rfl⟩
    obtain ⟨p1, hp1⟩ : ∃ p : Nat, first + d1 = p := ⟨_, rfl⟩
    obtain ⟨p2, hp2⟩ : ∃ p : Nat, first + d2 = p := ⟨_, rfl⟩
    have HH : Hid (2 * r = m2 ∧ m2 + 1 = d1 ∧ d1 + 1 = d2 ∧ first + r = p0 ∧ first + d1 = p1 ∧ first + d2 = p2) := ⟨hm2, hd1, hd2, hp0, hp1, hp2⟩
    have mk1 : IntKind.i64.wrap (2 * (r : Int)) = (m2 : Int) := by rw [IntWalk.i64_in _ ⟨by omega, by omega⟩]; omega
    have mk2 : IntKind.i64.wrap ((m2 : Int) + 1) = (d1 : Int) := by rw [IntWalk.i64_in _ ⟨by omega, by omega⟩]; omega
    have mk3 : IntKind.i64.wrap ((d1 : Int) + 1) = (d2 : Int) := by rw [IntWalk.i64_in _ ⟨by omega, by omega⟩]; omega
    by_cases hc : d1 < hi
    · have hc' : (d1 : Int) < (hi : Int) := by omega
      have hc'' : ((hi : Int) ≤ (d1 : Int)) = False := by simp; omega
      have k0 : IntKind.i64.wrap ((first : Int) + (r : Int)) = (p0 : Int) := by rw [IntWalk.i64_in _ ⟨by omega, by omega⟩]; omega
      have k1 : IntKind.i64.wrap ((first : Int) + (d1 : Int)) = (p1 : Int) := by rw [IntWalk.i64_in _ ⟨by omega, by omega⟩]; omega
      have k2 : IntKind.i64.wrap ((first : Int) + (d2 : Int)) = (p2 : Int) := by rw [IntWalk.i64_in _ ⟨by omega, by omega⟩]; omega
      have k3 : IntKind.i64.wrap ((p1 : Int) + 1) = (p2 : Int) := by rw [IntWalk.i64_in _ ⟨by omega, by omega⟩]; omega
      have b0 : (p0 : Int) < (n : Int) := by omega
      have b1 : (p1 : Int) < (n : Int) := by omega
      obtain ⟨x0, hx0⟩ : ∃ x, zs[p0]? = some x := ⟨_, List.getElem?_eq_getElem (by omega)⟩
      obtain ⟨x1, hx1⟩ : ∃ x, zs[p1]? = some x := ⟨_, List.getElem?_eq_getElem (by omega)⟩
      have HX : Hid (zs[p0]? = some x0 ∧ zs[p1]? = some x1) := ⟨hx0, hx1⟩
      obtain ⟨X, F, hX, hF, onto⟩ := class_of (fun v => Below wr.heap.size wr v) (Below.refl _ wr)
      have HF : Hid (∀ y, Below wr.heap.size wr (F y)) := hF
      have HO : Hid (∀ v, Below wr.heap.size wr v → ∃ x, v = F x) := fun v h => by obtain ⟨x, hx⟩ := onto v h; exact ⟨x, hx.symm⟩
      have e0 : ∀ q, (F q).cell? ⟨g, p0, none⟩ = some (.int .i32 x0.v) := fun q => (HR.out.below (hF q)).get hx0
      have e1 : ∀ q, (F q).cell? ⟨g, p1, none⟩ = some (.int .i32 x1.v) := fun q => (HR.out.below (hF q)).get hx1
      clear hx0 hx1
      by_cases hc2 : d2 < hi
      · have hc2' : (d2 : Int) < (hi : Int) := by omega
        have b2 : (p2 : Int) < (n : Int) := by omega
        obtain ⟨x2, hx2⟩ : ∃ x, zs[p2]? = some x := ⟨_, List.getElem?_eq_getElem (by omega)⟩
        have HX2 : Hid (zs[p2]? = some x2) := hx2
        have e2 : ∀ q, (F q).cell? ⟨g, p2, none⟩ = some (.int .i32 x2.v) := fun q => (HR.out.below (hF q)).get hx2
        clear hx2 hF onto hzl hm2 hd1 hd2 hp0 hp1 hp2
        go_upto_region 3 with fail
        refine region_class F (by kernel_rfl) (by kernel_rfl) (by obtain ⟨x, hx⟩ := HO.out _ (Below.refl _ _).drew; exact ⟨x, hx.symm⟩) ?_
        repeat (go_big_quiet_step (first | (go_at_call 97; with_reducible refine (less_any x1.v x2.v _).mono ?_; rintro e z5 ⟨rfl, rfl⟩; exact ⟨rfl, HO.out _ (HF.out _)⟩)))
        refine wpQuiet_nil ?_
        rintro _ ⟨nq, rfl⟩
        by_cases hl2 : x1.v < x2.v
        · rw [show decide (x1.v < x2.v) = true from decide_eq_true hl2]
          clear e2
          obtain ⟨z0, hz0⟩ : ∃ z, F nq = z := ⟨_, rfl⟩
          have HZB : Hid (Below wr.heap.size wr z0) := hz0 ▸ HF.out nq
          rw [hz0]
          have RZ : Hid (Row B 21 g n c z0 zs) := HR.out.below HZB.out
          have OZ : Hid (One g w z0) := HO1.out.trans (One.of HZB.out (Nat.le_of_lt HR.out.lt))
          clear hz0 HF HO e0 e1 HR HO1
          obtain ⟨Y, G, hY, hG, ontoG⟩ := class_of (fun v => Below z0.heap.size z0 v) (Below.refl _ z0)
          have HG : Hid (∀ y, Below z0.heap.size z0 (G y)) := hG
          have HOG : Hid (∀ v, Below z0.heap.size z0 v → ∃ x, v = G x) := fun v h => by obtain ⟨x, hx⟩ := ontoG v h; exact ⟨x, hx.symm⟩
          have g0 : ∀ q, (G q).cell? ⟨g, p0, none⟩ = some (.int .i32 x0.v) := fun q => (RZ.out.below (hG q)).get HX.out.1
          have g1 : ∀ q, (G q).cell? ⟨g, p2, none⟩ = some (.int .i32 x2.v) := fun q => (RZ.out.below (hG q)).get HX2.out
          clear hG ontoG
          go_upto_region 5 with fail
          refine region_class G (by kernel_rfl) (by kernel_rfl) (by obtain ⟨x, hx⟩ := HOG.out _ (Below.refl _ _).drew; exact ⟨x, hx.symm⟩) ?_
          repeat (go_big_quiet_step (first | (go_at_call 97; with_reducible refine (less_any x0.v x2.v _).mono ?_; rintro e z5 ⟨rfl, rfl⟩; exact ⟨rfl, HOG.out _ (HG.out _)⟩)))
          refine wpQuiet_nil ?_
          rintro _ ⟨nz, rfl⟩
          obtain ⟨z1, hz1⟩ : ∃ z, G nz = z := ⟨_, rfl⟩
          have HZC : Hid (Below z0.heap.size z0 z1) := hz1 ▸ HG.out nz
          rw [hz1]
          have R1 : Hid (Row B 21 g n c z1 zs) := RZ.out.below HZC.out
          have O1 : Hid (One g w z1) := OZ.out.trans (One.of HZC.out (Nat.le_of_lt RZ.out.lt))
          clear hz1 HG HOG g0 g1 RZ OZ
          by_cases hlt : x0.v < x2.v
          · rw [show decide (x0.v < x2.v) = true from decide_eq_true hlt]
            go_upto_region 6 with fail
            have cx := R1.out.get HX.out.1
            have cy := R1.out.get HX2.out
            have f1 := R1.out.free p0
            have f2 := R1.out.free p2
            have hne : p0 ≠ p2 := by have := HH.out; omega
            have hne' : p2 ≠ p0 := fun e => hne e.symm
            go_big_region
            obtain ⟨z2, hz2⟩ : ∃ z, ((z1.setCell ⟨g, p0, none⟩ (.int .i32 x2.v)).setCell ⟨g, p2, none⟩ (.int .i32 x0.v)).drew = z := ⟨_, rfl⟩
            rw [hz2]
            have R2 : Hid (Row B 21 g n c z2 (swp zs p0 p2 x0 x2)) := by unfold Hid; rw [← hz2]; exact ((R1.out.set p0 x2).set p2 x0).below (Below.refl _ _).drew
            have O2 : Hid (One g w z2) := by unfold Hid; rw [← hz2]; exact ((O1.out.trans (One.set g p0 _ _)).trans (One.set g p2 _ _)).trans (One.of (Below.refl _ _).drew (by have := R1.out.lt; simp; omega))
            have P2 : Hid ((swp zs p0 p2 x0 x2).Perm xs) := (swp_perm HX.out.1 HX2.out).trans HP.out
            clear hz2 cx cy f1 f2
            go_wp2
            go_roundg (n - d2)
            case measure => have := HH.out; omega
            case rel => exact ⟨d2, _, rfl, by have := HH.out; omega, rfl, P2.out, R2.out, O2.out⟩
          · rw [show decide (x0.v < x2.v) = false from decide_eq_false hlt]
            go_wp2
            refine bodyPost_ret (results_none rfl _ _ _) rfl ?_
            exact ⟨⟨_, rfl⟩, zs, HP.out, R1.out, O1.out⟩
        · rw [show decide (x1.v < x2.v) = false from decide_eq_false hl2]
          clear e2
          obtain ⟨z0, hz0⟩ : ∃ z, F nq = z := ⟨_, rfl⟩
          have HZB : Hid (Below wr.heap.size wr z0) := hz0 ▸ HF.out nq
          rw [hz0]
          have RZ : Hid (Row B 21 g n c z0 zs) := HR.out.below HZB.out
          have OZ : Hid (One g w z0) := HO1.out.trans (One.of HZB.out (Nat.le_of_lt HR.out.lt))
          clear hz0 HF HO e0 e1 HR HO1
          obtain ⟨Y, G, hY, hG, ontoG⟩ := class_of (fun v => Below z0.heap.size z0 v) (Below.refl _ z0)
          have HG : Hid (∀ y, Below z0.heap.size z0 (G y)) := hG
          have HOG : Hid (∀ v, Below z0.heap.size z0 v → ∃ x, v = G x) := fun v h => by obtain ⟨x, hx⟩ := ontoG v h; exact ⟨x, hx.symm⟩
          have g0 : ∀ q, (G q).cell? ⟨g, p0, none⟩ = some (.int .i32 x0.v) := fun q => (RZ.out.below (hG q)).get HX.out.1
          have g1 : ∀ q, (G q).cell? ⟨g, p1, none⟩ = some (.int .i32 x1.v) := fun q => (RZ.out.below (hG q)).get HX.out.2
          clear hG ontoG
          go_upto_region 5 with fail
          refine region_class G (by kernel_rfl) (by kernel_rfl) (by obtain ⟨x, hx⟩ := HOG.out _ (Below.refl _ _).drew; exact ⟨x, hx.symm⟩) ?_
          repeat (go_big_quiet_step (first | (go_at_call 97; with_reducible refine (less_any x0.v x1.v _).mono ?_; rintro e z5 ⟨rfl, rfl⟩; exact ⟨rfl, HOG.out _ (HG.out _)⟩)))
          refine wpQuiet_nil ?_
          rintro _ ⟨nz, rfl⟩
          obtain ⟨z1, hz1⟩ : ∃ z, G nz = z := ⟨_, rfl⟩
          have HZC : Hid (Below z0.heap.size z0 z1) := hz1 ▸ HG.out nz
          rw [hz1]
          have R1 : Hid (Row B 21 g n c z1 zs) := RZ.out.below HZC.out
          have O1 : Hid (One g w z1) := OZ.out.trans (One.of HZC.out (Nat.le_of_lt RZ.out.lt))
          clear hz1 HG HOG g0 g1 RZ OZ
          by_cases hlt : x0.v < x1.v
          · rw [show decide (x0.v < x1.v) = true from decide_eq_true hlt]
            go_upto_region 6 with fail
            have cx := R1.out.get HX.out.1
            have cy := R1.out.get HX.out.2
            have f1 := R1.out.free p0
            have f2 := R1.out.free p1
            have hne : p0 ≠ p1 := by have := HH.out; omega
            have hne' : p1 ≠ p0 := fun e => hne e.symm
            go_big_region
            obtain ⟨z2, hz2⟩ : ∃ z, ((z1.setCell ⟨g, p0, none⟩ (.int .i32 x1.v)).setCell ⟨g, p1, none⟩ (.int .i32 x0.v)).drew = z := ⟨_, rfl⟩
            rw [hz2]
            have R2 : Hid (Row B 21 g n c z2 (swp zs p0 p1 x0 x1)) := by unfold Hid; rw [← hz2]; exact ((R1.out.set p0 x1).set p1 x0).below (Below.refl _ _).drew
            have O2 : Hid (One g w z2) := by unfold Hid; rw [← hz2]; exact ((O1.out.trans (One.set g p0 _ _)).trans (One.set g p1 _ _)).trans (One.of (Below.refl _ _).drew (by have := R1.out.lt; simp; omega))
            have P2 : Hid ((swp zs p0 p1 x0 x1).Perm xs) := (swp_perm HX.out.1 HX.out.2).trans HP.out
            clear hz2 cx cy f1 f2
            go_wp2
            go_roundg (n - d1)
            case measure => have := HH.out; omega
            case rel => exact ⟨d1, _, rfl, by have := HH.out; omega, rfl, P2.out, R2.out, O2.out⟩
          · rw [show decide (x0.v < x1.v) = false from decide_eq_false hlt]
            go_wp2
            refine bodyPost_ret (results_none rfl _ _ _) rfl ?_
            exact ⟨⟨_, rfl⟩, zs, HP.out, R1.out, O1.out⟩
      · have hc2' : ¬ (d2 : Int) < (hi : Int) := by omega
        clear hF onto hzl hm2 hd1 hd2 hp0 hp1 hp2
        go_upto_region 3 with fail
        refine region_class F (by kernel_rfl) (by kernel_rfl) (by obtain ⟨x, hx⟩ := HO.out _ (Below.refl _ _).drew; exact ⟨x, hx.symm⟩) ?_
        repeat (go_big_quiet_step (first | (go_at_call 97; with_reducible refine (less_any x1.v x1.v _).mono ?_; rintro e z5 ⟨rfl, rfl⟩; exact ⟨rfl, HO.out _ (HF.out _)⟩)))
        refine wpQuiet_nil ?_
        rintro _ ⟨nq, rfl⟩
        obtain ⟨z0, hz0⟩ : ∃ z, F nq = z := ⟨_, rfl⟩
        have HZB : Hid (Below wr.heap.size wr z0) := hz0 ▸ HF.out nq
        rw [hz0]
        have RZ : Hid (Row B 21 g n c z0 zs) := HR.out.below HZB.out
        have OZ : Hid (One g w z0) := HO1.out.trans (One.of HZB.out (Nat.le_of_lt HR.out.lt))
        clear hz0 HF HO e0 e1 HR HO1
        obtain ⟨Y, G, hY, hG, ontoG⟩ := class_of (fun v => Below z0.heap.size z0 v) (Below.refl _ z0)
        have HG : Hid (∀ y, Below z0.heap.size z0 (G y)) := hG
        have HOG : Hid (∀ v, Below z0.heap.size z0 v → ∃ x, v = G x) := fun v h => by obtain ⟨x, hx⟩ := ontoG v h; exact ⟨x, hx.symm⟩
        have g0 : ∀ q, (G q).cell? ⟨g, p0, none⟩ = some (.int .i32 x0.v) := fun q => (RZ.out.below (hG q)).get HX.out.1
        have g1 : ∀ q, (G q).cell? ⟨g, p1, none⟩ = some (.int .i32 x1.v) := fun q => (RZ.out.below (hG q)).get HX.out.2
        clear hG ontoG
        go_upto_region 5 with fail
        refine region_class G (by kernel_rfl) (by kernel_rfl) (by obtain ⟨x, hx⟩ := HOG.out _ (Below.refl _ _).drew; exact ⟨x, hx.symm⟩) ?_
        repeat (go_big_quiet_step (first | (go_at_call 97; with_reducible refine (less_any x0.v x1.v _).mono ?_; rintro e z5 ⟨rfl, rfl⟩; exact ⟨rfl, HOG.out _ (HG.out _)⟩)))
        refine wpQuiet_nil ?_
        rintro _ ⟨nz, rfl⟩
        obtain ⟨z1, hz1⟩ : ∃ z, G nz = z := ⟨_, rfl⟩
        have HZC : Hid (Below z0.heap.size z0 z1) := hz1 ▸ HG.out nz
        rw [hz1]
        have R1 : Hid (Row B 21 g n c z1 zs) := RZ.out.below HZC.out
        have O1 : Hid (One g w z1) := OZ.out.trans (One.of HZC.out (Nat.le_of_lt RZ.out.lt))
        clear hz1 HG HOG g0 g1 RZ OZ
        by_cases hlt : x0.v < x1.v
        · rw [show decide (x0.v < x1.v) = true from decide_eq_true hlt]
          go_upto_region 6 with fail
          have cx := R1.out.get HX.out.1
          have cy := R1.out.get HX.out.2
          have f1 := R1.out.free p0
          have f2 := R1.out.free p1
          have hne : p0 ≠ p1 := by have := HH.out; omega
          have hne' : p1 ≠ p0 := fun e => hne e.symm
          go_big_region
          obtain ⟨z2, hz2⟩ : ∃ z, ((z1.setCell ⟨g, p0, none⟩ (.int .i32 x1.v)).setCell ⟨g, p1, none⟩ (.int .i32 x0.v)).drew = z := ⟨_, rfl⟩
          rw [hz2]
          have R2 : Hid (Row B 21 g n c z2 (swp zs p0 p1 x0 x1)) := by unfold Hid; rw [← hz2]; exact ((R1.out.set p0 x1).set p1 x0).below (Below.refl _ _).drew
          have O2 : Hid (One g w z2) := by unfold Hid; rw [← hz2]; exact ((O1.out.trans (One.set g p0 _ _)).trans (One.set g p1 _ _)).trans (One.of (Below.refl _ _).drew (by have := R1.out.lt; simp; omega))
          have P2 : Hid ((swp zs p0 p1 x0 x1).Perm xs) := (swp_perm HX.out.1 HX.out.2).trans HP.out
          clear hz2 cx cy f1 f2
          go_wp2
          go_roundg (n - d1)
          case measure => have := HH.out; omega
          case rel => exact ⟨d1, _, rfl, by have := HH.out; omega, rfl, P2.out, R2.out, O2.out⟩
        · rw [show decide (x0.v < x1.v) = false from decide_eq_false hlt]
          go_wp2
          refine bodyPost_ret (results_none rfl _ _ _) rfl ?_
          exact ⟨⟨_, rfl⟩, zs, HP.out, R1.out, O1.out⟩
    · have hc' : ¬ (d1 : Int) < (hi : Int) := by omega
      have hc'' : ((hi : Int) ≤ (d1 : Int)) = True := by simp; omega
      clear hm2 hd1 hd2 hp0 hp1 hp2
      go_wp2
      go_end0
      exact ⟨⟨_, rfl⟩, zs, HP.out, HR.out, HO1.out⟩
end Go.Proofs.YtgijcbipnjmhgabGreat

namespace Go.Proofs.YtgijcbipnjmhgabGreat
open Go.ChangeShapes Go.WideShapes Go.ChangeAt Go.RowKit
set_option linter.unusedVariables false
set_option linter.unusedSimpArgs false

/-- the row, and a counter's box beside it -/
structure Rc (B e g n c s : Nat) (m : Nat) (w : World) (xs : List Hn) : Prop where
  row : Row B e g n c w xs
  box : Bx w s #[.int .i64 (m : Int)] 3
  ne : s ≠ g
theorem Rc.below {B e g n c s m : Nat} {w w' : World} {xs : List Hn} (h : Rc B e g n c s m w xs) (hb : Below w.heap.size w w') : Rc B e g n c s m w' xs := ⟨h.row.below hb, h.box.below hb h.box.lt, h.ne⟩
theorem Rc.more {B e g n c s m k : Nat} {w : World} {xs : List Hn} (h : Rc B e g n c s m w xs) : Rc B e g n c s k (w.setCell ⟨s, 0, none⟩ (.int .i64 (k : Int))) xs :=
  ⟨ownsRow_setCell_other h.row (a := ⟨s, 0, none⟩) (fun e => by cases e; exact h.ne rfl) _, h.box.set 0 _, h.ne⟩

set_option maxRecDepth 1000000 in
set_option maxHeartbeats 2000000 in
theorem order2_any (B g n c s m a b : Nat) (xs : List Hn) (w : World) (h : Rc B 21 g n c s m w xs) (ha : a < n) (hb : b < n) (hm : m ≤ 1000) (hn : n ≤ 70368744177664) :
    Calls Tryz.prog 110 #[.slice (some ⟨g, 0, none⟩) n c, .int .i64 (a : Int), .int .i64 (b : Int), .pointer (some ⟨s, 0, none⟩)] w fun e w' => ∃ (x y k : Nat), e = .returned (.tuple #[.int .i64 (x : Int), .int .i64 (y : Int)]) ∧ (x = a ∧ y = b ∨ x = b ∧ y = a) ∧ k ≤ m + 1 ∧ Rc B 21 g n c s k w' xs ∧ One s w w' := by
  have HR : Hid (Rc B 21 g n c s m w xs) := h
  have hzl := h.row.len
  obtain ⟨x, hx⟩ : ∃ x, xs[a]? = some x := ⟨_, List.getElem?_eq_getElem (by omega)⟩
  obtain ⟨y, hy⟩ : ∃ y, xs[b]? = some y := ⟨_, List.getElem?_eq_getElem (by omega)⟩
  obtain ⟨X, F, hX, hF, onto⟩ := class_of (fun v => Below w.heap.size w v) (Below.refl _ w)
  have HF : Hid (∀ y, Below w.heap.size w (F y)) := hF
  have HO : Hid (∀ v, Below w.heap.size w v → ∃ x, v = F x) := fun v h => by obtain ⟨x, hx⟩ := onto v h; exact ⟨x, hx.symm⟩
  have cx : ∀ q, (F q).cell? ⟨g, a, none⟩ = some (.int .i32 x.v) := fun q => (h.row.below (hF q)).get hx
  have cy : ∀ q, (F q).cell? ⟨g, b, none⟩ = some (.int .i32 y.v) := fun q => (h.row.below (hF q)).get hy
  have b0 : (a : Int) < (n : Int) := by omega
  have b1 : (b : Int) < (n : Int) := by omega
  have km : IntKind.i64.wrap ((m : Int) + 1) = ((m + 1 : Nat) : Int) := by rw [IntWalk.i64_in _ ⟨by omega, by omega⟩]; omega
  clear h hx hy hF onto hzl
  go_enter Tryz.func110, Tryz.ntmps110
  go_wp2
  refine region_class F (by kernel_rfl) (by kernel_rfl) (by obtain ⟨x, hx⟩ := HO.out _ (Below.refl _ _).drew; exact ⟨x, hx.symm⟩) ?_
  repeat (go_big_quiet_step (first | (go_at_call 97; with_reducible refine (less_any y.v x.v _).mono ?_; rintro e z5 ⟨rfl, rfl⟩; exact ⟨rfl, HO.out _ (HF.out _)⟩)))
  refine wpQuiet_nil ?_
  rintro _ ⟨nq, rfl⟩
  obtain ⟨z0, hz0⟩ : ∃ z, F nq = z := ⟨_, rfl⟩
  have HZB : Hid (Below w.heap.size w z0) := hz0 ▸ HF.out nq
  rw [hz0]
  have RZ : Hid (Rc B 21 g n c s m z0 xs) := HR.out.below HZB.out
  have OZ : Hid (One s w z0) := One.of HZB.out (Nat.le_of_lt HR.out.box.lt)
  clear hz0 HF HO cx cy
  by_cases hyx : y.v < x.v
  · rw [show decide (y.v < x.v) = true from decide_eq_true hyx]
    have cs := RZ.out.box.one
    have fs := RZ.out.box.free 0
    obtain ⟨z1, hz1⟩ : ∃ z, z0.setCell ⟨s, 0, none⟩ (.int .i64 ((m : Int) + 1)) = z := ⟨_, rfl⟩
    have HE1 : Hid (z0.setCell ⟨s, 0, none⟩ (.int .i64 ((m : Int) + 1)) = z1) := hz1
    have R1 : Hid (Rc B 21 g n c s (m + 1) z1 xs) := by unfold Hid; rw [← hz1]; have h9 := RZ.out.more (k := m + 1); rw [show ((m + 1 : Nat) : Int) = (m : Int) + 1 by omega] at h9; exact h9
    have O1 : Hid (One s w z1) := by unfold Hid; rw [← hz1]; exact OZ.out.trans (One.set s 0 _ _)
    clear hz1
    go_wp2
    go_ret2
    rw [HE1.out]
    first
      | exact ⟨b, a, m + 1, rfl, .inr ⟨rfl, rfl⟩, Nat.le_refl _, R1.out, O1.out⟩
      | exact ⟨b, a, rfl, .inr ⟨rfl, rfl⟩, m + 1, Nat.le_refl _, R1.out, O1.out⟩
  · rw [show decide (y.v < x.v) = false from decide_eq_false hyx]
    go_wp2
    go_ret2
    first
      | exact ⟨a, b, m, rfl, .inl ⟨rfl, rfl⟩, Nat.le_succ _, RZ.out, OZ.out⟩
      | exact ⟨a, b, rfl, .inl ⟨rfl, rfl⟩, m, Nat.le_succ _, RZ.out, OZ.out⟩
end Go.Proofs.YtgijcbipnjmhgabGreat
