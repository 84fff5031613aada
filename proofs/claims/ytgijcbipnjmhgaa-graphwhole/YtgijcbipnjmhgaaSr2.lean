import Derived.Test.YtgijcbipnjmhgaaSr5
namespace Go.Proofs.Ytgijcbipnjmhgaa
open Go.ChangeShapes Go.WideShapes Go.ChangeAt Go.RowKit
set_option linter.unusedVariables false
set_option linter.unusedSimpArgs false

set_option maxRecDepth 1000000 in
set_option maxHeartbeats 4000000 in
theorem sift_any (B g n c lo hi first : Nat) (xs : List Hn) (w : World) (h : Row B 21 g n c w xs) (hf : first + hi ≤ n) (hl : lo ≤ n) (hn : n ≤ 70368744177664) :
    Calls Try.prog 91 #[.slice (some ⟨g, 0, none⟩) n c, .int .i64 (lo : Int), .int .i64 (hi : Int), .int .i64 (first : Int)] w fun e w' => (∃ x, e = .returned x) ∧ ∃ ys, ys.Perm xs ∧ Row B 21 g n c w' ys ∧ One g w w' := by
  have HR : Hid (Row B 21 g n c w xs) := h
  clear h
  go_enter Try.func91, Try.ntmps91
  go_wp2
  go_loopg [8] (n - lo) (fun gk si wr => ∃ (r : Nat) (zs : List Hn), gk = n - r ∧ r ≤ n ∧ si = .int .i64 (r : Int) ∧ zs.Perm xs ∧ Row B 21 g n c wr zs ∧ One g w wr)
  case atStart => exact ⟨lo, xs, rfl, hl, rfl, List.Perm.refl _, HR.out, One.refl _ _⟩
  case round =>
    obtain ⟨r, zs, hgk, hr, rfl, hp, hR, hO⟩ := hrel
    clear HR
    have HR : Hid (Row B 21 g n c wr zs) := hR
    have HP : Hid (zs.Perm xs) := hp
    have HO1 : Hid (One g w wr) := hO
    have hzl := hR.len
    clear hR hp hO
    obtain ⟨m2, hm2⟩ : ∃ m2 : Nat, 2 * r = m2 := ⟨_, rfl⟩
    obtain ⟨d1, hd1⟩ : ∃ d1 : Nat, m2 + 1 = d1 := ⟨_, rfl⟩
    obtain ⟨d2, hd2⟩ : ∃ d2 : Nat, d1 + 1 = d2 := ⟨_, rfl⟩
    obtain ⟨p0, hp0⟩ : ∃ p : Nat, first + r = p := ⟨_, rfl⟩
    obtain ⟨p1, hp1⟩ : ∃ p : Nat, first + d1 = p := ⟨_, rfl⟩
    obtain ⟨p2, hp2⟩ : ∃ p : Nat, first + d2 = p := ⟨_, rfl⟩
    have HH : Hid (2 * r = m2 ∧ m2 + 1 = d1 ∧ d1 + 1 = d2 ∧ first + r = p0 ∧ first + d1 = p1 ∧ first + d2 = p2) := ⟨hm2, hd1, hd2, hp0, hp1, hp2⟩
    have mk1 : IntKind.i64.wrap (2 * (r : Int)) = (m2 : Int) := by rw [IntWalk.i64_in _ ⟨by omega, by omega⟩]; omega
    have mk2 : IntKind.i64.wrap ((m2 : Int) + 1) = (d1 : Int) := by rw [IntWalk.i64_in _ ⟨by omega, by omega⟩]; omega
    have mk3 : IntKind.i64.wrap ((d1 : Int) + 1) = (d2 : Int) := by rw [IntWalk.i64_in _ ⟨by omega, by omega⟩]; omega
    by_cases hc : d1 < hi
    · have hc' : (d1 : Int) < (hi : Int) := by omega
      have hc'' : ((hi : Int) ≤ (d1 : Int)) = False := by simp; omega
      have k0 : IntKind.i64.wrap ((first : Int) + (r : Int)) = (p0 : Int) := by rw [IntWalk.i64_in _ ⟨by omega, by omega⟩]; omega
      have k1 : IntKind.i64.wrap ((first : Int) + (d1 : Int)) = (p1 : Int) := by rw [IntWalk.i64_in _ ⟨by omega, by omega⟩]; omega
      have k2 : IntKind.i64.wrap ((first : Int) + (d2 : Int)) = (p2 : Int) := by rw [IntWalk.i64_in _ ⟨by omega, by omega⟩]; omega
      have k3 : IntKind.i64.wrap ((p1 : Int) + 1) = (p2 : Int) := by rw [IntWalk.i64_in _ ⟨by omega, by omega⟩]; omega
      have b0 : (p0 : Int) < (n : Int) := by omega
      have b1 : (p1 : Int) < (n : Int) := by omega
      obtain ⟨x0, hx0⟩ : ∃ x, zs[p0]? = some x := ⟨_, List.getElem?_eq_getElem (by omega)⟩
      obtain ⟨x1, hx1⟩ : ∃ x, zs[p1]? = some x := ⟨_, List.getElem?_eq_getElem (by omega)⟩
      have HX : Hid (zs[p0]? = some x0 ∧ zs[p1]? = some x1) := ⟨hx0, hx1⟩
      obtain ⟨X, F, hX, hF, onto⟩ := class_of (fun v => Below wr.heap.size wr v) (Below.refl _ wr)
      have HF : Hid (∀ y, Below wr.heap.size wr (F y)) := hF
      have HO : Hid (∀ v, Below wr.heap.size wr v → ∃ x, v = F x) := fun v h => by obtain ⟨x, hx⟩ := onto v h; exact ⟨x, hx.symm⟩
      have e0 : ∀ q, (F q).cell? ⟨g, p0, none⟩ = some (.int .i32 x0.v) := fun q => (HR.out.below (hF q)).get hx0
      have e1 : ∀ q, (F q).cell? ⟨g, p1, none⟩ = some (.int .i32 x1.v) := fun q => (HR.out.below (hF q)).get hx1
      clear hx0 hx1
      by_cases hc2 : d2 < hi
      · have hc2' : (d2 : Int) < (hi : Int) := by omega
        have b2 : (p2 : Int) < (n : Int) := by omega
        obtain ⟨x2, hx2⟩ : ∃ x, zs[p2]? = some x := ⟨_, List.getElem?_eq_getElem (by omega)⟩
        have HX2 : Hid (zs[p2]? = some x2) := hx2
        have e2 : ∀ q, (F q).cell? ⟨g, p2, none⟩ = some (.int .i32 x2.v) := fun q => (HR.out.below (hF q)).get hx2
        clear hx2 hF onto hzl hm2 hd1 hd2 hp0 hp1 hp2
        go_upto_region 3 with fail
        refine region_class F (by kernel_rfl) (by kernel_rfl) (by obtain ⟨x, hx⟩ := HO.out _ (Below.refl _ _).drew; exact ⟨x, hx.symm⟩) ?_
        repeat (go_big_quiet_step (first | (go_at_call 83; with_reducible refine (less_any x1.v x2.v _).mono ?_; rintro e z5 ⟨rfl, rfl⟩; exact ⟨rfl, HO.out _ (HF.out _)⟩)))
        refine wpQuiet_nil ?_
        rintro _ ⟨nq, rfl⟩
        by_cases hl2 : x1.v < x2.v
        · rw [show decide (x1.v < x2.v) = true from decide_eq_true hl2]
          clear e2
          obtain ⟨z0, hz0⟩ : ∃ z, F nq = z := ⟨_, rfl⟩
          have HZB : Hid (Below wr.heap.size wr z0) := hz0 ▸ HF.out nq
          rw [hz0]
          have RZ : Hid (Row B 21 g n c z0 zs) := HR.out.below HZB.out
          have OZ : Hid (One g w z0) := HO1.out.trans (One.of HZB.out (Nat.le_of_lt HR.out.lt))
          clear hz0 HF HO e0 e1 HR HO1
          obtain ⟨Y, G, hY, hG, ontoG⟩ := class_of (fun v => Below z0.heap.size z0 v) (Below.refl _ z0)
          have HG : Hid (∀ y, Below z0.heap.size z0 (G y)) := hG
          have HOG : Hid (∀ v, Below z0.heap.size z0 v → ∃ x, v = G x) := fun v h => by obtain ⟨x, hx⟩ := ontoG v h; exact ⟨x, hx.symm⟩
          have g0 : ∀ q, (G q).cell? ⟨g, p0, none⟩ = some (.int .i32 x0.v) := fun q => (RZ.out.below (hG q)).get HX.out.1
          have g1 : ∀ q, (G q).cell? ⟨g, p2, none⟩ = some (.int .i32 x2.v) := fun q => (RZ.out.below (hG q)).get HX2.out
          clear hG ontoG
          go_upto_region 5 with fail
          refine region_class G (by kernel_rfl) (by kernel_rfl) (by obtain ⟨x, hx⟩ := HOG.out _ (Below.refl _ _).drew; exact ⟨x, hx.symm⟩) ?_
          repeat (go_big_quiet_step (first | (go_at_call 83; with_reducible refine (less_any x0.v x2.v _).mono ?_; rintro e z5 ⟨rfl, rfl⟩; exact ⟨rfl, HOG.out _ (HG.out _)⟩)))
          refine wpQuiet_nil ?_
          rintro _ ⟨nz, rfl⟩
          obtain ⟨z1, hz1⟩ : ∃ z, G nz = z := ⟨_, rfl⟩
          have HZC : Hid (Below z0.heap.size z0 z1) := hz1 ▸ HG.out nz
          rw [hz1]
          have R1 : Hid (Row B 21 g n c z1 zs) := RZ.out.below HZC.out
          have O1 : Hid (One g w z1) := OZ.out.trans (One.of HZC.out (Nat.le_of_lt RZ.out.lt))
          clear hz1 HG HOG g0 g1 RZ OZ
          by_cases hlt : x0.v < x2.v
          · rw [show decide (x0.v < x2.v) = true from decide_eq_true hlt]
            go_upto_region 6 with fail
            have cx := R1.out.get HX.out.1
            have cy := R1.out.get HX2.out
            have f1 := R1.out.free p0
            have f2 := R1.out.free p2
            have hne : p0 ≠ p2 := by have := HH.out; omega
            have hne' : p2 ≠ p0 := fun e => hne e.symm
            go_big_region
            obtain ⟨z2, hz2⟩ : ∃ z, ((z1.setCell ⟨g, p0, none⟩ (.int .i32 x2.v)).setCell ⟨g, p2, none⟩ (.int .i32 x0.v)).drew = z := ⟨_, rfl⟩
            rw [hz2]
            have R2 : Hid (Row B 21 g n c z2 (swp zs p0 p2 x0 x2)) := by unfold Hid; rw [← hz2]; exact ((R1.out.set p0 x2).set p2 x0).below (Below.refl _ _).drew
            have O2 : Hid (One g w z2) := by unfold Hid; rw [← hz2]; exact ((O1.out.trans (One.set g p0 _ _)).trans (One.set g p2 _ _)).trans (One.of (Below.refl _ _).drew (by have := R1.out.lt; simp; omega))
            have P2 : Hid ((swp zs p0 p2 x0 x2).Perm xs) := (swp_perm HX.out.1 HX2.out).trans HP.out
            clear hz2 cx cy f1 f2
            go_wp2
            go_roundg (n - d2)
            case measure => have := HH.out; omega
            case rel => exact ⟨d2, _, rfl, by have := HH.out; omega, rfl, P2.out, R2.out, O2.out⟩
          · rw [show decide (x0.v < x2.v) = false from decide_eq_false hlt]
            go_wp2
            refine bodyPost_ret (results_none rfl _ _ _) rfl ?_
            exact ⟨⟨_, rfl⟩, zs, HP.out, R1.out, O1.out⟩
        · rw [show decide (x1.v < x2.v) = false from decide_eq_false hl2]
          clear e2
          obtain ⟨z0, hz0⟩ : ∃ z, F nq = z := ⟨_, rfl⟩
          have HZB : Hid (Below wr.heap.size wr z0) := hz0 ▸ HF.out nq
          rw [hz0]
          have RZ : Hid (Row B 21 g n c z0 zs) := HR.out.below HZB.out
          have OZ : Hid (One g w z0) := HO1.out.trans (One.of HZB.out (Nat.le_of_lt HR.out.lt))
          clear hz0 HF HO e0 e1 HR HO1
          obtain ⟨Y, G, hY, hG, ontoG⟩ := class_of (fun v => Below z0.heap.size z0 v) (Below.refl _ z0)
          have HG : Hid (∀ y, Below z0.heap.size z0 (G y)) := hG
          have HOG : Hid (∀ v, Below z0.heap.size z0 v → ∃ x, v = G x) := fun v h => by obtain ⟨x, hx⟩ := ontoG v h; exact ⟨x, hx.symm⟩
          have g0 : ∀ q, (G q).cell? ⟨g, p0, none⟩ = some (.int .i32 x0.v) := fun q => (RZ.out.below (hG q)).get HX.out.1
          have g1 : ∀ q, (G q).cell? ⟨g, p1, none⟩ = some (.int .i32 x1.v) := fun q => (RZ.out.below (hG q)).get HX.out.2
          clear hG ontoG
          go_upto_region 5 with fail
          refine region_class G (by kernel_rfl) (by kernel_rfl) (by obtain ⟨x, hx⟩ := HOG.out _ (Below.refl _ _).drew; exact ⟨x, hx.symm⟩) ?_
          repeat (go_big_quiet_step (first | (go_at_call 83; with_reducible refine (less_any x0.v x1.v _).mono ?_; rintro e z5 ⟨rfl, rfl⟩; exact ⟨rfl, HOG.out _ (HG.out _)⟩)))
          refine wpQuiet_nil ?_
          rintro _ ⟨nz, rfl⟩
          obtain ⟨z1, hz1⟩ : ∃ z, G nz = z := ⟨_, rfl⟩
          have HZC : Hid (Below z0.heap.size z0 z1) := hz1 ▸ HG.out nz
          rw [hz1]
          have R1 : Hid (Row B 21 g n c z1 zs) := RZ.out.below HZC.out
          have O1 : Hid (One g w z1) := OZ.out.trans (One.of HZC.out (Nat.le_of_lt RZ.out.lt))
          clear hz1 HG HOG g0 g1 RZ OZ
          by_cases hlt : x0.v < x1.v
          · rw [show decide (x0.v < x1.v) = true from decide_eq_true hlt]
            go_upto_region 6 with fail
            have cx := R1.out.get HX.out.1
            have cy := R1.out.get HX.out.2
            have f1 := R1.out.free p0
            have f2 := R1.out.free p1
            have hne : p0 ≠ p1 := by have := HH.out; omega
            have hne' : p1 ≠ p0 := fun e => hne e.symm
            go_big_region
            obtain ⟨z2, hz2⟩ : ∃ z, ((z1.setCell ⟨g, p0, none⟩ (.int .i32 x1.v)).setCell ⟨g, p1, none⟩ (.int .i32 x0.v)).drew = z := ⟨_, rfl⟩
            rw [hz2]
            have R2 : Hid (Row B 21 g n c z2 (swp zs p0 p1 x0 x1)) := by unfold Hid; rw [← hz2]; exact ((R1.out.set p0 x1).set p1 x0).below (Below.refl _ _).drew
            have O2 : Hid (One g w z2) := by unfold Hid; rw [← hz2]; exact ((O1.out.trans (One.set g p0 _ _)).trans (One.set g p1 _ _)).trans (One.of (Below.refl _ _).drew (by have := R1.out.lt; simp; omega))
            have P2 : Hid ((swp zs p0 p1 x0 x1).Perm xs) := (swp_perm HX.out.1 HX.out.2).trans HP.out
            clear hz2 cx cy f1 f2
            go_wp2
            go_roundg (n - d1)
            case measure => have := HH.out; omega
            case rel => exact ⟨d1, _, rfl, by have := HH.out; omega, rfl, P2.out, R2.out, O2.out⟩
          · rw [show decide (x0.v < x1.v) = false from decide_eq_false hlt]
            go_wp2
            refine bodyPost_ret (results_none rfl _ _ _) rfl ?_
            exact ⟨⟨_, rfl⟩, zs, HP.out, R1.out, O1.out⟩
      · have hc2' : ¬ (d2 : Int) < (hi : Int) := by omega
        clear hF onto hzl hm2 hd1 hd2 hp0 hp1 hp2
        go_upto_region 3 with fail
        refine region_class F (by kernel_rfl) (by kernel_rfl) (by obtain ⟨x, hx⟩ := HO.out _ (Below.refl _ _).drew; exact ⟨x, hx.symm⟩) ?_
        repeat (go_big_quiet_step (first | (go_at_call 83; with_reducible refine (less_any x1.v x1.v _).mono ?_; rintro e z5 ⟨rfl, rfl⟩; exact ⟨rfl, HO.out _ (HF.out _)⟩)))
        refine wpQuiet_nil ?_
        rintro _ ⟨nq, rfl⟩
        obtain ⟨z0, hz0⟩ : ∃ z, F nq = z := ⟨_, rfl⟩
        have HZB : Hid (Below wr.heap.size wr z0) := hz0 ▸ HF.out nq
        rw [hz0]
        have RZ : Hid (Row B 21 g n c z0 zs) := HR.out.below HZB.out
        have OZ : Hid (One g w z0) := HO1.out.trans (One.of HZB.out (Nat.le_of_lt HR.out.lt))
        clear hz0 HF HO e0 e1 HR HO1
        obtain ⟨Y, G, hY, hG, ontoG⟩ := class_of (fun v => Below z0.heap.size z0 v) (Below.refl _ z0)
        have HG : Hid (∀ y, Below z0.heap.size z0 (G y)) := hG
        have HOG : Hid (∀ v, Below z0.heap.size z0 v → ∃ x, v = G x) := fun v h => by obtain ⟨x, hx⟩ := ontoG v h; exact ⟨x, hx.symm⟩
        have g0 : ∀ q, (G q).cell? ⟨g, p0, none⟩ = some (.int .i32 x0.v) := fun q => (RZ.out.below (hG q)).get HX.out.1
        have g1 : ∀ q, (G q).cell? ⟨g, p1, none⟩ = some (.int .i32 x1.v) := fun q => (RZ.out.below (hG q)).get HX.out.2
        clear hG ontoG
        go_upto_region 5 with fail
        refine region_class G (by kernel_rfl) (by kernel_rfl) (by obtain ⟨x, hx⟩ := HOG.out _ (Below.refl _ _).drew; exact ⟨x, hx.symm⟩) ?_
        repeat (go_big_quiet_step (first | (go_at_call 83; with_reducible refine (less_any x0.v x1.v _).mono ?_; rintro e z5 ⟨rfl, rfl⟩; exact ⟨rfl, HOG.out _ (HG.out _)⟩)))
        refine wpQuiet_nil ?_
        rintro _ ⟨nz, rfl⟩
        obtain ⟨z1, hz1⟩ : ∃ z, G nz = z := ⟨_, rfl⟩
        have HZC : Hid (Below z0.heap.size z0 z1) := hz1 ▸ HG.out nz
        rw [hz1]
        have R1 : Hid (Row B 21 g n c z1 zs) := RZ.out.below HZC.out
        have O1 : Hid (One g w z1) := OZ.out.trans (One.of HZC.out (Nat.le_of_lt RZ.out.lt))
        clear hz1 HG HOG g0 g1 RZ OZ
        by_cases hlt : x0.v < x1.v
        · rw [show decide (x0.v < x1.v) = true from decide_eq_true hlt]
          go_upto_region 6 with fail
          have cx := R1.out.get HX.out.1
          have cy := R1.out.get HX.out.2
          have f1 := R1.out.free p0
          have f2 := R1.out.free p1
          have hne : p0 ≠ p1 := by have := HH.out; omega
          have hne' : p1 ≠ p0 := fun e => hne e.symm
          go_big_region
          obtain ⟨z2, hz2⟩ : ∃ z, ((z1.setCell ⟨g, p0, none⟩ (.int .i32 x1.v)).setCell ⟨g, p1, none⟩ (.int .i32 x0.v)).drew = z := ⟨_, rfl⟩
          rw [hz2]
          have R2 : Hid (Row B 21 g n c z2 (swp zs p0 p1 x0 x1)) := by unfold Hid; rw [← hz2]; exact ((R1.out.set p0 x1).set p1 x0).below (Below.refl _ _).drew
          have O2 : Hid (One g w z2) := by unfold Hid; rw [← hz2]; exact ((O1.out.trans (One.set g p0 _ _)).trans (One.set g p1 _ _)).trans (One.of (Below.refl _ _).drew (by have := R1.out.lt; simp; omega))
          have P2 : Hid ((swp zs p0 p1 x0 x1).Perm xs) := (swp_perm HX.out.1 HX.out.2).trans HP.out
          clear hz2 cx cy f1 f2
          go_wp2
          go_roundg (n - d1)
          case measure => have := HH.out; omega
          case rel => exact ⟨d1, _, rfl, by have := HH.out; omega, rfl, P2.out, R2.out, O2.out⟩
        · rw [show decide (x0.v < x1.v) = false from decide_eq_false hlt]
          go_wp2
          refine bodyPost_ret (results_none rfl _ _ _) rfl ?_
          exact ⟨⟨_, rfl⟩, zs, HP.out, R1.out, O1.out⟩
    · have hc' : ¬ (d1 : Int) < (hi : Int) := by omega
      have hc'' : ((hi : Int) ≤ (d1 : Int)) = True := by simp; omega
      clear hm2 hd1 hd2 hp0 hp1 hp2
      go_wp2
      go_end0
      exact ⟨⟨_, rfl⟩, zs, HP.out, HR.out, HO1.out⟩
end Go.Proofs.Ytgijcbipnjmhgaa
