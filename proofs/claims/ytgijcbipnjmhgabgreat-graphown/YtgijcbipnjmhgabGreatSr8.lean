import Derived.Test.YtgijcbipnjmhgabGreatSr5
namespace Go.Proofs.YtgijcbipnjmhgabGreat
open Go.ChangeShapes Go.WideShapes Go.ChangeAt Go.RowKit
set_option linter.unusedVariables false
set_option linter.unusedSimpArgs false

set_option maxRecDepth 1000000 in
set_option maxHeartbeats 8000000 in
theorem peq_any (B g n c a b p : Nat) (xs : List Hn) (w : World) (h : Row B 21 g n c w xs) (hap : a ≤ p) (hpb : p < b) (hb : b ≤ n) (hn : n ≤ 70368744177664) :
    Calls Tryz.prog 98 #[.slice (some ⟨g, 0, none⟩) n c, .int .i64 (a : Int), .int .i64 (b : Int), .int .i64 (p : Int)] w fun e w' => ∃ i : Nat, e = .returned (.int .i64 (i : Int)) ∧ (a + 1 ≤ i ∧ i ≤ b) ∧ ∃ ys, ys.Perm xs ∧ Row B 21 g n c w' ys ∧ One g w w' := by
  have HR : Hid (Row B 21 g n c w xs) := h
  have hzl := h.len
  obtain ⟨x, hx⟩ : ∃ x, xs[a]? = some x := ⟨_, List.getElem?_eq_getElem (by omega)⟩
  obtain ⟨y, hy⟩ : ∃ y, xs[p]? = some y := ⟨_, List.getElem?_eq_getElem (by omega)⟩
  have HX : Hid (xs[a]? = some x ∧ xs[p]? = some y) := ⟨hx, hy⟩
  have b0 : (a : Int) < (n : Int) := by omega
  have b1 : (p : Int) < (n : Int) := by omega
  have cx := h.get hx
  have cy := h.get hy
  have f1 := h.free a
  have f2 := h.free p
  obtain ⟨b1', hb1⟩ : ∃ b1 : Nat, b - 1 = b1 := ⟨_, rfl⟩
  have k1 : IntKind.i64.wrap ((b : Int) - 1) = (b1' : Int) := by rw [IntWalk.i64_in _ ⟨by omega, by omega⟩]; omega
  have HB1 : Hid (b - 1 = b1') := hb1
  clear h hx hy hzl hb1
  by_cases hpa : p = a
  · subst hpa
    have hxy : x = y := by have h9 := HX.out; rw [h9.1] at h9; exact Option.some.inj h9.2
    subst hxy
    clear hap
    go_enter Tryz.func98, Tryz.ntmps98
    go_upto_region 1 with fail
    go_big_region
    obtain ⟨z2, hz2⟩ : ∃ z, ((w.setCell ⟨g, p, none⟩ (.int .i32 x.v)).setCell ⟨g, p, none⟩ (.int .i32 x.v)).drew = z := ⟨_, rfl⟩
    rw [hz2]
    have R2 : Hid (Row B 21 g n c z2 (swp xs p p x x)) := by unfold Hid; rw [← hz2]; exact ((HR.out.set p x).set p x).below (Below.refl _ _).drew
    have O2 : Hid (One g w z2) := by unfold Hid; rw [← hz2]; exact ((One.set g p _ _).trans (One.set g p _ _)).trans (One.of (Below.refl _ _).drew (by have := HR.out.lt; simp; omega))
    have P2 : Hid ((swp xs p p x x).Perm xs) := swp_perm HX.out.1 HX.out.2
    clear hz2 cx cy f1 f2 HR HX
    go_wp2
    clear k1
    go_loopg [9, 10] ((b - (p + 1)) + b1') (fun gk si sj wr => ∃ (i j : Nat) (zs : List Hn), gk = (b - i) + j ∧ p + 1 ≤ i ∧ i ≤ b ∧ p ≤ j ∧ j + 1 ≤ b ∧ si = .int .i64 (i : Int) ∧ sj = .int .i64 (j : Int) ∧ zs.Perm xs ∧ Row B 21 g n c wr zs ∧ One g w wr)
    case atStart => exact ⟨p + 1, b1', _, rfl, Nat.le_refl _, by omega, by have := HB1.out; omega, by have := HB1.out; omega, by go_num, rfl, P2.out, R2.out, O2.out⟩
    case round =>
      obtain ⟨i, j, zs, hgk, hai, hib, haj, hjb, rfl, rfl, hp, hR, hO⟩ := hrel
      clear P2 R2 O2
      have HR : Hid (Row B 21 g n c wr zs) := hR
      have HP : Hid (zs.Perm xs) := hp
      have HO1 : Hid (One g w wr) := hO
      obtain ⟨i0, hi0⟩ : ∃ i0 : Nat, i0 = i := ⟨_, rfl⟩
      obtain ⟨j0, hj0⟩ : ∃ j0 : Nat, j0 = j := ⟨_, rfl⟩
      have HI0 : Hid (i0 = i) := hi0
      have HJ0 : Hid (j0 = j) := hj0
      have HG0 : Hid (gk = (b - i0) + j0) := by unfold Hid; omega
      clear hR hp hO hi0 hj0 hgk
      go_wp2
      go_loopg [9] (b - i) (fun g1 si wi => ∃ i : Nat, g1 = b - i ∧ i0 ≤ i ∧ p + 1 ≤ i ∧ i ≤ b ∧ si = .int .i64 (i : Int) ∧ Row B 21 g n c wi zs ∧ One g w wi)
      case atStart => exact ⟨i, rfl, by have := HI0.out; omega, hai, hib, rfl, HR.out, HO1.out⟩
      case round =>
        obtain ⟨i, hg1, hi0, hai, hib, rfl, hR, hO⟩ := hrel
        clear HR HO1
        have HR : Hid (Row B 21 g n c wr zs) := hR
        have HO1 : Hid (One g w wr) := hO
        have hzl := hR.len
        clear hR hO
        obtain ⟨X, F, hX, hF, onto⟩ := class_of (fun v => Below wr.heap.size wr v) (Below.refl _ wr)
        have HF : Hid (∀ y, Below wr.heap.size wr (F y)) := hF
        have HO : Hid (∀ v, Below wr.heap.size wr v → ∃ x, v = F x) := fun v h => by obtain ⟨x, hx⟩ := onto v h; exact ⟨x, hx.symm⟩
        by_cases hij : i ≤ j
        · have hij' : (i : Int) ≤ (j : Int) := by omega
          obtain ⟨xa, hxa⟩ : ∃ x, zs[p]? = some x := ⟨_, List.getElem?_eq_getElem (by omega)⟩
          obtain ⟨xi, hxi⟩ : ∃ x, zs[i]? = some x := ⟨_, List.getElem?_eq_getElem (by omega)⟩
          have ca : ∀ q, (F q).cell? ⟨g, p, none⟩ = some (.int .i32 xa.v) := fun q => (HR.out.below (hF q)).get hxa
          have ci : ∀ q, (F q).cell? ⟨g, i, none⟩ = some (.int .i32 xi.v) := fun q => (HR.out.below (hF q)).get hxi
          have t1 : (i : Int) < (n : Int) := by omega
          clear hxa hxi hF onto hzl
          go_upto_region 3 with fail
          refine region_class F (by kernel_rfl) (by kernel_rfl) (by obtain ⟨x, hx⟩ := HO.out _ (Below.refl _ _).drew; exact ⟨x, hx.symm⟩) ?_
          repeat (go_big_quiet_step (first | (go_at_call 97; with_reducible refine (less_any xa.v xi.v _).mono ?_; rintro e z5 ⟨rfl, rfl⟩; exact ⟨rfl, HO.out _ (HF.out _)⟩)))
          refine wpQuiet_nil ?_
          rintro _ ⟨nq, rfl⟩
          obtain ⟨z0, hz0⟩ : ∃ z, F nq = z := ⟨_, rfl⟩
          have HZB : Hid (Below wr.heap.size wr z0) := hz0 ▸ HF.out nq
          rw [hz0]
          have RZ : Hid (Row B 21 g n c z0 zs) := HR.out.below HZB.out
          have OZ : Hid (One g w z0) := HO1.out.trans (One.of HZB.out (Nat.le_of_lt HR.out.lt))
          clear hz0 HF HO ca ci HR HO1
          by_cases hlt : xa.v < xi.v
          · rw [show decide (xa.v < xi.v) = true from decide_eq_true hlt]
            go_wp2
            go_loopg [10] j (fun g2 sj wj => ∃ j : Nat, g2 = j ∧ j ≤ j0 ∧ p ≤ j ∧ j + 1 ≤ b ∧ sj = .int .i64 (j : Int) ∧ Row B 21 g n c wj zs ∧ One g w wj)
            case atStart => exact ⟨j, rfl, by have := HJ0.out; omega, haj, hjb, rfl, RZ.out, OZ.out⟩
            case round =>
              obtain ⟨j, hg2, hj0, haj, hjb, rfl, hR, hO⟩ := hrel
              have HR : Hid (Row B 21 g n c wr zs) := hR
              have HO1 : Hid (One g w wr) := hO
              have hzl := hR.len
              have kj2 : IntKind.i64.wrap ((j : Int) - 1) = (j : Int) - 1 := IntWalk.i64_in _ ⟨by omega, by omega⟩
              clear hR hO RZ OZ
              obtain ⟨X, F, hX, hF, onto⟩ := class_of (fun v => Below wr.heap.size wr v) (Below.refl _ wr)
              have HF : Hid (∀ y, Below wr.heap.size wr (F y)) := hF
              have HO : Hid (∀ v, Below wr.heap.size wr v → ∃ x, v = F x) := fun v h => by obtain ⟨x, hx⟩ := onto v h; exact ⟨x, hx.symm⟩
              by_cases hij : i ≤ j
              · have hij' : (i : Int) ≤ (j : Int) := by omega
                obtain ⟨xa, hxa⟩ : ∃ x, zs[p]? = some x := ⟨_, List.getElem?_eq_getElem (by omega)⟩
                obtain ⟨xi, hxi⟩ : ∃ x, zs[j]? = some x := ⟨_, List.getElem?_eq_getElem (by omega)⟩
                have ca : ∀ q, (F q).cell? ⟨g, p, none⟩ = some (.int .i32 xa.v) := fun q => (HR.out.below (hF q)).get hxa
                have ci : ∀ q, (F q).cell? ⟨g, j, none⟩ = some (.int .i32 xi.v) := fun q => (HR.out.below (hF q)).get hxi
                have t1 : (j : Int) < (n : Int) := by omega
                clear hxa hxi hF onto hzl
                go_upto_region 5 with fail
                refine region_class F (by kernel_rfl) (by kernel_rfl) (by obtain ⟨x, hx⟩ := HO.out _ (Below.refl _ _).drew; exact ⟨x, hx.symm⟩) ?_
                repeat (go_big_quiet_step (first | (go_at_call 97; with_reducible refine (less_any xa.v xi.v _).mono ?_; rintro e z5 ⟨rfl, rfl⟩; exact ⟨rfl, HO.out _ (HF.out _)⟩)))
                refine wpQuiet_nil ?_
                rintro _ ⟨nq, rfl⟩
                obtain ⟨z0, hz0⟩ : ∃ z, F nq = z := ⟨_, rfl⟩
                have HZB : Hid (Below wr.heap.size wr z0) := hz0 ▸ HF.out nq
                rw [hz0]
                have RZ : Hid (Row B 21 g n c z0 zs) := HR.out.below HZB.out
                have OZ : Hid (One g w z0) := HO1.out.trans (One.of HZB.out (Nat.le_of_lt HR.out.lt))
                clear hz0 HF HO ca ci HR HO1
                by_cases hlt : xa.v < xi.v
                · rw [show decide (xa.v < xi.v) = true from decide_eq_true hlt]
                  go_wp2
                  go_roundg (j - 1)
                  case measure => omega
                  case rel => exact ⟨j - 1, rfl, by omega, by omega, by omega, by (have : ((j - 1 : Nat) : Int) = (j : Int) - 1 := by omega); rw [this], RZ.out, OZ.out⟩
                · rw [show decide (xa.v < xi.v) = false from decide_eq_false hlt]
                  by_cases hgt : j < i
                  · have hgt' : (j : Int) < (i : Int) := by omega
                    go_wp2
                    go_ret
                    first
                      | exact ⟨i, rfl, by omega, zs, HP.out, RZ.out, OZ.out⟩
                      | exact ⟨⟨i, rfl, by omega⟩, zs, HP.out, RZ.out, OZ.out⟩
                  · have hgt' : ¬ (j : Int) < (i : Int) := by omega
                    obtain ⟨xi', hxi'⟩ : ∃ x, zs[i]? = some x := ⟨_, List.getElem?_eq_getElem (by have := RZ.out.len; omega)⟩
                    obtain ⟨xj', hxj'⟩ : ∃ x, zs[j]? = some x := ⟨_, List.getElem?_eq_getElem (by have := RZ.out.len; omega)⟩
                    have HXX : Hid (zs[i]? = some xi' ∧ zs[j]? = some xj') := ⟨hxi', hxj'⟩
                    have cx' := RZ.out.get hxi'
                    have cy' := RZ.out.get hxj'
                    have f1' := RZ.out.free i
                    have f2' := RZ.out.free j
                    have t2 : (i : Int) < (n : Int) := by omega
                    have t3 : (j : Int) < (n : Int) := by omega
                    obtain ⟨jm, hjm⟩ : ∃ jm : Nat, j - 1 = jm := ⟨_, rfl⟩
                    have kj : IntKind.i64.wrap ((j : Int) - 1) = (jm : Int) := by rw [IntWalk.i64_in _ ⟨by omega, by omega⟩]; omega
                    have HJM : Hid (j - 1 = jm) := hjm
                    clear hxi' hxj' hjm
                    by_cases hijq : i = j
                    · subst hijq
                      have hxx : xi' = xj' := by have h9 := HXX.out; rw [h9.1] at h9; exact Option.some.inj h9.2
                      subst hxx
                      go_upto_region 8 with fail
                      go_big_region
                      obtain ⟨z3, hz3⟩ : ∃ z, ((z0.setCell ⟨g, i, none⟩ (.int .i32 xi'.v)).setCell ⟨g, i, none⟩ (.int .i32 xi'.v)).drew = z := ⟨_, rfl⟩
                      rw [hz3]
                      have R3 : Hid (Row B 21 g n c z3 (swp zs i i xi' xi')) := by unfold Hid; rw [← hz3]; exact ((RZ.out.set i xi').set i xi').below (Below.refl _ _).drew
                      have O3 : Hid (One g w z3) := by unfold Hid; rw [← hz3]; exact ((OZ.out.trans (One.set g i _ _)).trans (One.set g i _ _)).trans (One.of (Below.refl _ _).drew (by have := RZ.out.lt; simp; omega))
                      have P3 : Hid ((swp zs i i xi' xi').Perm xs) := (swp_perm HXX.out.1 HXX.out.2).trans HP.out
                      clear hz3 cx' cy' f1' f2'
                      go_wp2
                      go_roundg ((b - (i + 1)) + jm)
                      case measure => have := HG0.out; have := HJM.out; omega
                      case rel => exact ⟨i + 1, jm, _, rfl, by omega, by omega, by have := HJM.out; omega, by have := HJM.out; omega, by go_num, (by rw [show ((jm : Nat) : Int) = (i : Int) - 1 by have := HJM.out; omega]), P3.out, R3.out, O3.out⟩
                    · have hne2 : i ≠ j := hijq
                      have hne3 : j ≠ i := fun e => hijq e.symm
                      go_upto_region 8 with fail
                      go_big_region
                      obtain ⟨z3, hz3⟩ : ∃ z, ((z0.setCell ⟨g, i, none⟩ (.int .i32 xj'.v)).setCell ⟨g, j, none⟩ (.int .i32 xi'.v)).drew = z := ⟨_, rfl⟩
                      rw [hz3]
                      have R3 : Hid (Row B 21 g n c z3 (swp zs i j xi' xj')) := by unfold Hid; rw [← hz3]; exact ((RZ.out.set i xj').set j xi').below (Below.refl _ _).drew
                      have O3 : Hid (One g w z3) := by unfold Hid; rw [← hz3]; exact ((OZ.out.trans (One.set g i _ _)).trans (One.set g j _ _)).trans (One.of (Below.refl _ _).drew (by have := RZ.out.lt; simp; omega))
                      have P3 : Hid ((swp zs i j xi' xj').Perm xs) := (swp_perm HXX.out.1 HXX.out.2).trans HP.out
                      clear hz3 cx' cy' f1' f2'
                      go_wp2
                      go_roundg ((b - (i + 1)) + jm)
                      case measure => have := HG0.out; have := HJM.out; omega
                      case rel => exact ⟨i + 1, jm, _, rfl, by omega, by omega, by have := HJM.out; omega, by have := HJM.out; omega, by go_num, (by rw [show ((jm : Nat) : Int) = (j : Int) - 1 by have := HJM.out; omega]), P3.out, R3.out, O3.out⟩
              · have hij' : ¬ (i : Int) ≤ (j : Int) := by omega
                clear hzl
                go_upto_region 5 with fail
                refine region_class F (by kernel_rfl) (by kernel_rfl) (by obtain ⟨x, hx⟩ := HO.out _ (Below.refl _ _).drew; exact ⟨x, hx.symm⟩) ?_
                repeat (go_big_quiet_step (fail))
                refine wpQuiet_nil ?_
                rintro _ ⟨nq, rfl⟩
                obtain ⟨z0, hz0⟩ : ∃ z, F nq = z := ⟨_, rfl⟩
                have HZB : Hid (Below wr.heap.size wr z0) := hz0 ▸ HF.out nq
                rw [hz0]
                have RZ : Hid (Row B 21 g n c z0 zs) := HR.out.below HZB.out
                have OZ : Hid (One g w z0) := HO1.out.trans (One.of HZB.out (Nat.le_of_lt HR.out.lt))
                clear hz0 HF HO HR HO1
                have hgt : j < i := by omega
                have hgt' : (j : Int) < (i : Int) := by omega
                go_wp2
                go_ret
                first
                  | exact ⟨i, rfl, by omega, zs, HP.out, RZ.out, OZ.out⟩
                  | exact ⟨⟨i, rfl, by omega⟩, zs, HP.out, RZ.out, OZ.out⟩
          · rw [show decide (xa.v < xi.v) = false from decide_eq_false hlt]
            go_wp2
            go_roundg (b - (i + 1))
            case measure => omega
            case rel => exact ⟨i + 1, rfl, by omega, by omega, by omega, by go_num, RZ.out, OZ.out⟩
        · have hij' : ¬ (i : Int) ≤ (j : Int) := by omega
          clear hzl
          go_upto_region 3 with fail
          refine region_class F (by kernel_rfl) (by kernel_rfl) (by obtain ⟨x, hx⟩ := HO.out _ (Below.refl _ _).drew; exact ⟨x, hx.symm⟩) ?_
          repeat (go_big_quiet_step (fail))
          refine wpQuiet_nil ?_
          rintro _ ⟨nq, rfl⟩
          obtain ⟨z0, hz0⟩ : ∃ z, F nq = z := ⟨_, rfl⟩
          have HZB : Hid (Below wr.heap.size wr z0) := hz0 ▸ HF.out nq
          rw [hz0]
          have RZ : Hid (Row B 21 g n c z0 zs) := HR.out.below HZB.out
          have OZ : Hid (One g w z0) := HO1.out.trans (One.of HZB.out (Nat.le_of_lt HR.out.lt))
          clear hz0 HF HO HR HO1
          go_wp2
          go_loopg [10] j (fun g2 sj wj => ∃ j : Nat, g2 = j ∧ j ≤ j0 ∧ p ≤ j ∧ j + 1 ≤ b ∧ sj = .int .i64 (j : Int) ∧ Row B 21 g n c wj zs ∧ One g w wj)
          case atStart => exact ⟨j, rfl, by have := HJ0.out; omega, haj, hjb, rfl, RZ.out, OZ.out⟩
          case round =>
            obtain ⟨j, hg2, hj0, haj, hjb, rfl, hR, hO⟩ := hrel
            have HR : Hid (Row B 21 g n c wr zs) := hR
            have HO1 : Hid (One g w wr) := hO
            have hzl := hR.len
            have kj2 : IntKind.i64.wrap ((j : Int) - 1) = (j : Int) - 1 := IntWalk.i64_in _ ⟨by omega, by omega⟩
            clear hR hO RZ OZ
            obtain ⟨X, F, hX, hF, onto⟩ := class_of (fun v => Below wr.heap.size wr v) (Below.refl _ wr)
            have HF : Hid (∀ y, Below wr.heap.size wr (F y)) := hF
            have HO : Hid (∀ v, Below wr.heap.size wr v → ∃ x, v = F x) := fun v h => by obtain ⟨x, hx⟩ := onto v h; exact ⟨x, hx.symm⟩
            by_cases hij : i ≤ j
            · have hij' : (i : Int) ≤ (j : Int) := by omega
              obtain ⟨xa, hxa⟩ : ∃ x, zs[p]? = some x := ⟨_, List.getElem?_eq_getElem (by omega)⟩
              obtain ⟨xi, hxi⟩ : ∃ x, zs[j]? = some x := ⟨_, List.getElem?_eq_getElem (by omega)⟩
              have ca : ∀ q, (F q).cell? ⟨g, p, none⟩ = some (.int .i32 xa.v) := fun q => (HR.out.below (hF q)).get hxa
              have ci : ∀ q, (F q).cell? ⟨g, j, none⟩ = some (.int .i32 xi.v) := fun q => (HR.out.below (hF q)).get hxi
              have t1 : (j : Int) < (n : Int) := by omega
              clear hxa hxi hF onto hzl
              go_upto_region 5 with fail
              refine region_class F (by kernel_rfl) (by kernel_rfl) (by obtain ⟨x, hx⟩ := HO.out _ (Below.refl _ _).drew; exact ⟨x, hx.symm⟩) ?_
              repeat (go_big_quiet_step (first | (go_at_call 97; with_reducible refine (less_any xa.v xi.v _).mono ?_; rintro e z5 ⟨rfl, rfl⟩; exact ⟨rfl, HO.out _ (HF.out _)⟩)))
              refine wpQuiet_nil ?_
              rintro _ ⟨nq, rfl⟩
              obtain ⟨z0, hz0⟩ : ∃ z, F nq = z := ⟨_, rfl⟩
              have HZB : Hid (Below wr.heap.size wr z0) := hz0 ▸ HF.out nq
              rw [hz0]
              have RZ : Hid (Row B 21 g n c z0 zs) := HR.out.below HZB.out
              have OZ : Hid (One g w z0) := HO1.out.trans (One.of HZB.out (Nat.le_of_lt HR.out.lt))
              clear hz0 HF HO ca ci HR HO1
              by_cases hlt : xa.v < xi.v
              · rw [show decide (xa.v < xi.v) = true from decide_eq_true hlt]
                go_wp2
                go_roundg (j - 1)
                case measure => omega
                case rel => exact ⟨j - 1, rfl, by omega, by omega, by omega, by (have : ((j - 1 : Nat) : Int) = (j : Int) - 1 := by omega); rw [this], RZ.out, OZ.out⟩
              · rw [show decide (xa.v < xi.v) = false from decide_eq_false hlt]
                by_cases hgt : j < i
                · have hgt' : (j : Int) < (i : Int) := by omega
                  go_wp2
                  go_ret
                  first
                    | exact ⟨i, rfl, by omega, zs, HP.out, RZ.out, OZ.out⟩
                    | exact ⟨⟨i, rfl, by omega⟩, zs, HP.out, RZ.out, OZ.out⟩
                · have hgt' : ¬ (j : Int) < (i : Int) := by omega
                  obtain ⟨xi', hxi'⟩ : ∃ x, zs[i]? = some x := ⟨_, List.getElem?_eq_getElem (by have := RZ.out.len; omega)⟩
                  obtain ⟨xj', hxj'⟩ : ∃ x, zs[j]? = some x := ⟨_, List.getElem?_eq_getElem (by have := RZ.out.len; omega)⟩
                  have HXX : Hid (zs[i]? = some xi' ∧ zs[j]? = some xj') := ⟨hxi', hxj'⟩
                  have cx' := RZ.out.get hxi'
                  have cy' := RZ.out.get hxj'
                  have f1' := RZ.out.free i
                  have f2' := RZ.out.free j
                  have t2 : (i : Int) < (n : Int) := by omega
                  have t3 : (j : Int) < (n : Int) := by omega
                  obtain ⟨jm, hjm⟩ : ∃ jm : Nat, j - 1 = jm := ⟨_, rfl⟩
                  have kj : IntKind.i64.wrap ((j : Int) - 1) = (jm : Int) := by rw [IntWalk.i64_in _ ⟨by omega, by omega⟩]; omega
                  have HJM : Hid (j - 1 = jm) := hjm
                  clear hxi' hxj' hjm
                  by_cases hijq : i = j
                  · subst hijq
                    have hxx : xi' = xj' := by have h9 := HXX.out; rw [h9.1] at h9; exact Option.some.inj h9.2
                    subst hxx
                    go_upto_region 8 with fail
                    go_big_region
                    obtain ⟨z3, hz3⟩ : ∃ z, ((z0.setCell ⟨g, i, none⟩ (.int .i32 xi'.v)).setCell ⟨g, i, none⟩ (.int .i32 xi'.v)).drew = z := ⟨_, rfl⟩
                    rw [hz3]
                    have R3 : Hid (Row B 21 g n c z3 (swp zs i i xi' xi')) := by unfold Hid; rw [← hz3]; exact ((RZ.out.set i xi').set i xi').below (Below.refl _ _).drew
                    have O3 : Hid (One g w z3) := by unfold Hid; rw [← hz3]; exact ((OZ.out.trans (One.set g i _ _)).trans (One.set g i _ _)).trans (One.of (Below.refl _ _).drew (by have := RZ.out.lt; simp; omega))
                    have P3 : Hid ((swp zs i i xi' xi').Perm xs) := (swp_perm HXX.out.1 HXX.out.2).trans HP.out
                    clear hz3 cx' cy' f1' f2'
                    go_wp2
                    go_roundg ((b - (i + 1)) + jm)
                    case measure => have := HG0.out; have := HJM.out; omega
                    case rel => exact ⟨i + 1, jm, _, rfl, by omega, by omega, by have := HJM.out; omega, by have := HJM.out; omega, by go_num, (by rw [show ((jm : Nat) : Int) = (i : Int) - 1 by have := HJM.out; omega]), P3.out, R3.out, O3.out⟩
                  · have hne2 : i ≠ j := hijq
                    have hne3 : j ≠ i := fun e => hijq e.symm
                    go_upto_region 8 with fail
                    go_big_region
                    obtain ⟨z3, hz3⟩ : ∃ z, ((z0.setCell ⟨g, i, none⟩ (.int .i32 xj'.v)).setCell ⟨g, j, none⟩ (.int .i32 xi'.v)).drew = z := ⟨_, rfl⟩
                    rw [hz3]
                    have R3 : Hid (Row B 21 g n c z3 (swp zs i j xi' xj')) := by unfold Hid; rw [← hz3]; exact ((RZ.out.set i xj').set j xi').below (Below.refl _ _).drew
                    have O3 : Hid (One g w z3) := by unfold Hid; rw [← hz3]; exact ((OZ.out.trans (One.set g i _ _)).trans (One.set g j _ _)).trans (One.of (Below.refl _ _).drew (by have := RZ.out.lt; simp; omega))
                    have P3 : Hid ((swp zs i j xi' xj').Perm xs) := (swp_perm HXX.out.1 HXX.out.2).trans HP.out
                    clear hz3 cx' cy' f1' f2'
                    go_wp2
                    go_roundg ((b - (i + 1)) + jm)
                    case measure => have := HG0.out; have := HJM.out; omega
                    case rel => exact ⟨i + 1, jm, _, rfl, by omega, by omega, by have := HJM.out; omega, by have := HJM.out; omega, by go_num, (by rw [show ((jm : Nat) : Int) = (j : Int) - 1 by have := HJM.out; omega]), P3.out, R3.out, O3.out⟩
            · have hij' : ¬ (i : Int) ≤ (j : Int) := by omega
              clear hzl
              go_upto_region 5 with fail
              refine region_class F (by kernel_rfl) (by kernel_rfl) (by obtain ⟨x, hx⟩ := HO.out _ (Below.refl _ _).drew; exact ⟨x, hx.symm⟩) ?_
              repeat (go_big_quiet_step (fail))
              refine wpQuiet_nil ?_
              rintro _ ⟨nq, rfl⟩
              obtain ⟨z0, hz0⟩ : ∃ z, F nq = z := ⟨_, rfl⟩
              have HZB : Hid (Below wr.heap.size wr z0) := hz0 ▸ HF.out nq
              rw [hz0]
              have RZ : Hid (Row B 21 g n c z0 zs) := HR.out.below HZB.out
              have OZ : Hid (One g w z0) := HO1.out.trans (One.of HZB.out (Nat.le_of_lt HR.out.lt))
              clear hz0 HF HO HR HO1
              have hgt : j < i := by omega
              have hgt' : (j : Int) < (i : Int) := by omega
              go_wp2
              go_ret
              first
                | exact ⟨i, rfl, by omega, zs, HP.out, RZ.out, OZ.out⟩
                | exact ⟨⟨i, rfl, by omega⟩, zs, HP.out, RZ.out, OZ.out⟩
  · have hne : p ≠ a := hpa
    have hne' : a ≠ p := fun e => hpa e.symm
    go_enter Tryz.func98, Tryz.ntmps98
    go_upto_region 1 with fail
    go_big_region
    obtain ⟨z2, hz2⟩ : ∃ z, ((w.setCell ⟨g, a, none⟩ (.int .i32 y.v)).setCell ⟨g, p, none⟩ (.int .i32 x.v)).drew = z := ⟨_, rfl⟩
    rw [hz2]
    have R2 : Hid (Row B 21 g n c z2 (swp xs a p x y)) := by unfold Hid; rw [← hz2]; exact ((HR.out.set a y).set p x).below (Below.refl _ _).drew
    have O2 : Hid (One g w z2) := by unfold Hid; rw [← hz2]; exact ((One.set g a _ _).trans (One.set g p _ _)).trans (One.of (Below.refl _ _).drew (by have := HR.out.lt; simp; omega))
    have P2 : Hid ((swp xs a p x y).Perm xs) := swp_perm HX.out.1 HX.out.2
    clear hz2 cx cy f1 f2 HR HX hne hne' hpa
    go_wp2
    clear k1
    go_loopg [9, 10] ((b - (a + 1)) + b1') (fun gk si sj wr => ∃ (i j : Nat) (zs : List Hn), gk = (b - i) + j ∧ a + 1 ≤ i ∧ i ≤ b ∧ a ≤ j ∧ j + 1 ≤ b ∧ si = .int .i64 (i : Int) ∧ sj = .int .i64 (j : Int) ∧ zs.Perm xs ∧ Row B 21 g n c wr zs ∧ One g w wr)
    case atStart => exact ⟨a + 1, b1', _, rfl, Nat.le_refl _, by omega, by have := HB1.out; omega, by have := HB1.out; omega, by go_num, rfl, P2.out, R2.out, O2.out⟩
    case round =>
      obtain ⟨i, j, zs, hgk, hai, hib, haj, hjb, rfl, rfl, hp, hR, hO⟩ := hrel
      clear P2 R2 O2
      have HR : Hid (Row B 21 g n c wr zs) := hR
      have HP : Hid (zs.Perm xs) := hp
      have HO1 : Hid (One g w wr) := hO
      obtain ⟨i0, hi0⟩ : ∃ i0 : Nat, i0 = i := ⟨_, rfl⟩
      obtain ⟨j0, hj0⟩ : ∃ j0 : Nat, j0 = j := ⟨_, rfl⟩
      have HI0 : Hid (i0 = i) := hi0
      have HJ0 : Hid (j0 = j) := hj0
      have HG0 : Hid (gk = (b - i0) + j0) := by unfold Hid; omega
      clear hR hp hO hi0 hj0 hgk
      go_wp2
      go_loopg [9] (b - i) (fun g1 si wi => ∃ i : Nat, g1 = b - i ∧ i0 ≤ i ∧ a + 1 ≤ i ∧ i ≤ b ∧ si = .int .i64 (i : Int) ∧ Row B 21 g n c wi zs ∧ One g w wi)
      case atStart => exact ⟨i, rfl, by have := HI0.out; omega, hai, hib, rfl, HR.out, HO1.out⟩
      case round =>
        obtain ⟨i, hg1, hi0, hai, hib, rfl, hR, hO⟩ := hrel
        clear HR HO1
        have HR : Hid (Row B 21 g n c wr zs) := hR
        have HO1 : Hid (One g w wr) := hO
        have hzl := hR.len
        clear hR hO
        obtain ⟨X, F, hX, hF, onto⟩ := class_of (fun v => Below wr.heap.size wr v) (Below.refl _ wr)
        have HF : Hid (∀ y, Below wr.heap.size wr (F y)) := hF
        have HO : Hid (∀ v, Below wr.heap.size wr v → ∃ x, v = F x) := fun v h => by obtain ⟨x, hx⟩ := onto v h; exact ⟨x, hx.symm⟩
        by_cases hij : i ≤ j
        · have hij' : (i : Int) ≤ (j : Int) := by omega
          obtain ⟨xa, hxa⟩ : ∃ x, zs[a]? = some x := ⟨_, List.getElem?_eq_getElem (by omega)⟩
          obtain ⟨xi, hxi⟩ : ∃ x, zs[i]? = some x := ⟨_, List.getElem?_eq_getElem (by omega)⟩
          have ca : ∀ q, (F q).cell? ⟨g, a, none⟩ = some (.int .i32 xa.v) := fun q => (HR.out.below (hF q)).get hxa
          have ci : ∀ q, (F q).cell? ⟨g, i, none⟩ = some (.int .i32 xi.v) := fun q => (HR.out.below (hF q)).get hxi
          have t1 : (i : Int) < (n : Int) := by omega
          clear hxa hxi hF onto hzl
          go_upto_region 3 with fail
          refine region_class F (by kernel_rfl) (by kernel_rfl) (by obtain ⟨x, hx⟩ := HO.out _ (Below.refl _ _).drew; exact ⟨x, hx.symm⟩) ?_
          repeat (go_big_quiet_step (first | (go_at_call 97; with_reducible refine (less_any xa.v xi.v _).mono ?_; rintro e z5 ⟨rfl, rfl⟩; exact ⟨rfl, HO.out _ (HF.out _)⟩)))
          refine wpQuiet_nil ?_
          rintro _ ⟨nq, rfl⟩
          obtain ⟨z0, hz0⟩ : ∃ z, F nq = z := ⟨_, rfl⟩
          have HZB : Hid (Below wr.heap.size wr z0) := hz0 ▸ HF.out nq
          rw [hz0]
          have RZ : Hid (Row B 21 g n c z0 zs) := HR.out.below HZB.out
          have OZ : Hid (One g w z0) := HO1.out.trans (One.of HZB.out (Nat.le_of_lt HR.out.lt))
          clear hz0 HF HO ca ci HR HO1
          by_cases hlt : xa.v < xi.v
          · rw [show decide (xa.v < xi.v) = true from decide_eq_true hlt]
            go_wp2
            go_loopg [10] j (fun g2 sj wj => ∃ j : Nat, g2 = j ∧ j ≤ j0 ∧ a ≤ j ∧ j + 1 ≤ b ∧ sj = .int .i64 (j : Int) ∧ Row B 21 g n c wj zs ∧ One g w wj)
            case atStart => exact ⟨j, rfl, by have := HJ0.out; omega, haj, hjb, rfl, RZ.out, OZ.out⟩
            case round =>
              obtain ⟨j, hg2, hj0, haj, hjb, rfl, hR, hO⟩ := hrel
              have HR : Hid (Row B 21 g n c wr zs) := hR
              have HO1 : Hid (One g w wr) := hO
              have hzl := hR.len
              have kj2 : IntKind.i64.wrap ((j : Int) - 1) = (j : Int) - 1 := IntWalk.i64_in _ ⟨by omega, by omega⟩
              clear hR hO RZ OZ
              obtain ⟨X, F, hX, hF, onto⟩ := class_of (fun v => Below wr.heap.size wr v) (Below.refl _ wr)
              have HF : Hid (∀ y, Below wr.heap.size wr (F y)) := hF
              have HO : Hid (∀ v, Below wr.heap.size wr v → ∃ x, v = F x) := fun v h => by obtain ⟨x, hx⟩ := onto v h; exact ⟨x, hx.symm⟩
              by_cases hij : i ≤ j
              · have hij' : (i : Int) ≤ (j : Int) := by omega
                obtain ⟨xa, hxa⟩ : ∃ x, zs[a]? = some x := ⟨_, List.getElem?_eq_getElem (by omega)⟩
                obtain ⟨xi, hxi⟩ : ∃ x, zs[j]? = some x := ⟨_, List.getElem?_eq_getElem (by omega)⟩
                have ca : ∀ q, (F q).cell? ⟨g, a, none⟩ = some (.int .i32 xa.v) := fun q => (HR.out.below (hF q)).get hxa
                have ci : ∀ q, (F q).cell? ⟨g, j, none⟩ = some (.int .i32 xi.v) := fun q => (HR.out.below (hF q)).get hxi
                have t1 : (j : Int) < (n : Int) := by omega
                clear hxa hxi hF onto hzl
                go_upto_region 5 with fail
                refine region_class F (by kernel_rfl) (by kernel_rfl) (by obtain ⟨x, hx⟩ := HO.out _ (Below.refl _ _).drew; exact ⟨x, hx.symm⟩) ?_
                repeat (go_big_quiet_step (first | (go_at_call 97; with_reducible refine (less_any xa.v xi.v _).mono ?_; rintro e z5 ⟨rfl, rfl⟩; exact ⟨rfl, HO.out _ (HF.out _)⟩)))
                refine wpQuiet_nil ?_
                rintro _ ⟨nq, rfl⟩
                obtain ⟨z0, hz0⟩ : ∃ z, F nq = z := ⟨_, rfl⟩
                have HZB : Hid (Below wr.heap.size wr z0) := hz0 ▸ HF.out nq
                rw [hz0]
                have RZ : Hid (Row B 21 g n c z0 zs) := HR.out.below HZB.out
                have OZ : Hid (One g w z0) := HO1.out.trans (One.of HZB.out (Nat.le_of_lt HR.out.lt))
                clear hz0 HF HO ca ci HR HO1
                by_cases hlt : xa.v < xi.v
                · rw [show decide (xa.v < xi.v) = true from decide_eq_true hlt]
                  go_wp2
                  go_roundg (j - 1)
                  case measure => omega
                  case rel => exact ⟨j - 1, rfl, by omega, by omega, by omega, by (have : ((j - 1 : Nat) : Int) = (j : Int) - 1 := by omega); rw [this], RZ.out, OZ.out⟩
                · rw [show decide (xa.v < xi.v) = false from decide_eq_false hlt]
                  by_cases hgt : j < i
                  · have hgt' : (j : Int) < (i : Int) := by omega
                    go_wp2
                    go_ret
                    first
                      | exact ⟨i, rfl, by omega, zs, HP.out, RZ.out, OZ.out⟩
                      | exact ⟨⟨i, rfl, by omega⟩, zs, HP.out, RZ.out, OZ.out⟩
                  · have hgt' : ¬ (j : Int) < (i : Int) := by omega
                    obtain ⟨xi', hxi'⟩ : ∃ x, zs[i]? = some x := ⟨_, List.getElem?_eq_getElem (by have := RZ.out.len; omega)⟩
                    obtain ⟨xj', hxj'⟩ : ∃ x, zs[j]? = some x := ⟨_, List.getElem?_eq_getElem (by have := RZ.out.len; omega)⟩
                    have HXX : Hid (zs[i]? = some xi' ∧ zs[j]? = some xj') := ⟨hxi', hxj'⟩
                    have cx' := RZ.out.get hxi'
                    have cy' := RZ.out.get hxj'
                    have f1' := RZ.out.free i
                    have f2' := RZ.out.free j
                    have t2 : (i : Int) < (n : Int) := by omega
                    have t3 : (j : Int) < (n : Int) := by omega
                    obtain ⟨jm, hjm⟩ : ∃ jm : Nat, j - 1 = jm := ⟨_, rfl⟩
                    have kj : IntKind.i64.wrap ((j : Int) - 1) = (jm : Int) := by rw [IntWalk.i64_in _ ⟨by omega, by omega⟩]; omega
                    have HJM : Hid (j - 1 = jm) := hjm
                    clear hxi' hxj' hjm
                    by_cases hijq : i = j
                    · subst hijq
                      have hxx : xi' = xj' := by have h9 := HXX.out; rw [h9.1] at h9; exact Option.some.inj h9.2
                      subst hxx
                      go_upto_region 8 with fail
                      go_big_region
                      obtain ⟨z3, hz3⟩ : ∃ z, ((z0.setCell ⟨g, i, none⟩ (.int .i32 xi'.v)).setCell ⟨g, i, none⟩ (.int .i32 xi'.v)).drew = z := ⟨_, rfl⟩
                      rw [hz3]
                      have R3 : Hid (Row B 21 g n c z3 (swp zs i i xi' xi')) := by unfold Hid; rw [← hz3]; exact ((RZ.out.set i xi').set i xi').below (Below.refl _ _).drew
                      have O3 : Hid (One g w z3) := by unfold Hid; rw [← hz3]; exact ((OZ.out.trans (One.set g i _ _)).trans (One.set g i _ _)).trans (One.of (Below.refl _ _).drew (by have := RZ.out.lt; simp; omega))
                      have P3 : Hid ((swp zs i i xi' xi').Perm xs) := (swp_perm HXX.out.1 HXX.out.2).trans HP.out
                      clear hz3 cx' cy' f1' f2'
                      go_wp2
                      go_roundg ((b - (i + 1)) + jm)
                      case measure => have := HG0.out; have := HJM.out; omega
                      case rel => exact ⟨i + 1, jm, _, rfl, by omega, by omega, by have := HJM.out; omega, by have := HJM.out; omega, by go_num, (by rw [show ((jm : Nat) : Int) = (i : Int) - 1 by have := HJM.out; omega]), P3.out, R3.out, O3.out⟩
                    · have hne2 : i ≠ j := hijq
                      have hne3 : j ≠ i := fun e => hijq e.symm
                      go_upto_region 8 with fail
                      go_big_region
                      obtain ⟨z3, hz3⟩ : ∃ z, ((z0.setCell ⟨g, i, none⟩ (.int .i32 xj'.v)).setCell ⟨g, j, none⟩ (.int .i32 xi'.v)).drew = z := ⟨_, rfl⟩
                      rw [hz3]
                      have R3 : Hid (Row B 21 g n c z3 (swp zs i j xi' xj')) := by unfold Hid; rw [← hz3]; exact ((RZ.out.set i xj').set j xi').below (Below.refl _ _).drew
                      have O3 : Hid (One g w z3) := by unfold Hid; rw [← hz3]; exact ((OZ.out.trans (One.set g i _ _)).trans (One.set g j _ _)).trans (One.of (Below.refl _ _).drew (by have := RZ.out.lt; simp; omega))
                      have P3 : Hid ((swp zs i j xi' xj').Perm xs) := (swp_perm HXX.out.1 HXX.out.2).trans HP.out
                      clear hz3 cx' cy' f1' f2'
                      go_wp2
                      go_roundg ((b - (i + 1)) + jm)
                      case measure => have := HG0.out; have := HJM.out; omega
                      case rel => exact ⟨i + 1, jm, _, rfl, by omega, by omega, by have := HJM.out; omega, by have := HJM.out; omega, by go_num, (by rw [show ((jm : Nat) : Int) = (j : Int) - 1 by have := HJM.out; omega]), P3.out, R3.out, O3.out⟩
              · have hij' : ¬ (i : Int) ≤ (j : Int) := by omega
                clear hzl
                go_upto_region 5 with fail
                refine region_class F (by kernel_rfl) (by kernel_rfl) (by obtain ⟨x, hx⟩ := HO.out _ (Below.refl _ _).drew; exact ⟨x, hx.symm⟩) ?_
                repeat (go_big_quiet_step (fail))
                refine wpQuiet_nil ?_
                rintro _ ⟨nq, rfl⟩
                obtain ⟨z0, hz0⟩ : ∃ z, F nq = z := ⟨_, rfl⟩
                have HZB : Hid (Below wr.heap.size wr z0) := hz0 ▸ HF.out nq
                rw [hz0]
                have RZ : Hid (Row B 21 g n c z0 zs) := HR.out.below HZB.out
                have OZ : Hid (One g w z0) := HO1.out.trans (One.of HZB.out (Nat.le_of_lt HR.out.lt))
                clear hz0 HF HO HR HO1
                have hgt : j < i := by omega
                have hgt' : (j : Int) < (i : Int) := by omega
                go_wp2
                go_ret
                first
                  | exact ⟨i, rfl, by omega, zs, HP.out, RZ.out, OZ.out⟩
                  | exact ⟨⟨i, rfl, by omega⟩, zs, HP.out, RZ.out, OZ.out⟩
          · rw [show decide (xa.v < xi.v) = false from decide_eq_false hlt]
            go_wp2
            go_roundg (b - (i + 1))
            case measure => omega
            case rel => exact ⟨i + 1, rfl, by omega, by omega, by omega, by go_num, RZ.out, OZ.out⟩
        · have hij' : ¬ (i : Int) ≤ (j : Int) := by omega
          clear hzl
          go_upto_region 3 with fail
          refine region_class F (by kernel_rfl) (by kernel_rfl) (by obtain ⟨x, hx⟩ := HO.out _ (Below.refl _ _).drew; exact ⟨x, hx.symm⟩) ?_
          repeat (go_big_quiet_step (fail))
          refine wpQuiet_nil ?_
          rintro _ ⟨nq, rfl⟩
          obtain ⟨z0, hz0⟩ : ∃ z, F nq = z := ⟨_, rfl⟩
          have HZB : Hid (Below wr.heap.size wr z0) := hz0 ▸ HF.out nq
          rw [hz0]
          have RZ : Hid (Row B 21 g n c z0 zs) := HR.out.below HZB.out
          have OZ : Hid (One g w z0) := HO1.out.trans (One.of HZB.out (Nat.le_of_lt HR.out.lt))
          clear hz0 HF HO HR HO1
          go_wp2
          go_loopg [10] j (fun g2 sj wj => ∃ j : Nat, g2 = j ∧ j ≤ j0 ∧ a ≤ j ∧ j + 1 ≤ b ∧ sj = .int .i64 (j : Int) ∧ Row B 21 g n c wj zs ∧ One g w wj)
          case atStart => exact ⟨j, rfl, by have := HJ0.out; omega, haj, hjb, rfl, RZ.out, OZ.out⟩
          case round =>
            obtain ⟨j, hg2, hj0, haj, hjb, rfl, hR, hO⟩ := hrel
            have HR : Hid (Row B 21 g n c wr zs) := hR
            have HO1 : Hid (One g w wr) := hO
            have hzl := hR.len
            have kj2 : IntKind.i64.wrap ((j : Int) - 1) = (j : Int) - 1 := IntWalk.i64_in _ ⟨by omega, by omega⟩
            clear hR hO RZ OZ
            obtain ⟨X, F, hX, hF, onto⟩ := class_of (fun v => Below wr.heap.size wr v) (Below.refl _ wr)
            have HF : Hid (∀ y, Below wr.heap.size wr (F y)) := hF
            have HO : Hid (∀ v, Below wr.heap.size wr v → ∃ x, v = F x) := fun v h => by obtain ⟨x, hx⟩ := onto v h; exact ⟨x, hx.symm⟩
            by_cases hij : i ≤ j
            · have hij' : (i : Int) ≤ (j : Int) := by omega
              obtain ⟨xa, hxa⟩ : ∃ x, zs[a]? = some x := ⟨_, List.getElem?_eq_getElem (by omega)⟩
              obtain ⟨xi, hxi⟩ : ∃ x, zs[j]? = some x := ⟨_, List.getElem?_eq_getElem (by omega)⟩
              have ca : ∀ q, (F q).cell? ⟨g, a, none⟩ = some (.int .i32 xa.v) := fun q => (HR.out.below (hF q)).get hxa
              have ci : ∀ q, (F q).cell? ⟨g, j, none⟩ = some (.int .i32 xi.v) := fun q => (HR.out.below (hF q)).get hxi
              have t1 : (j : Int) < (n : Int) := by omega
              clear hxa hxi hF onto hzl
              go_upto_region 5 with fail
              refine region_class F (by kernel_rfl) (by kernel_rfl) (by obtain ⟨x, hx⟩ := HO.out _ (Below.refl _ _).drew; exact ⟨x, hx.symm⟩) ?_
              repeat (go_big_quiet_step (first | (go_at_call 97; with_reducible refine (less_any xa.v xi.v _).mono ?_; rintro e z5 ⟨rfl, rfl⟩; exact ⟨rfl, HO.out _ (HF.out _)⟩)))
              refine wpQuiet_nil ?_
              rintro _ ⟨nq, rfl⟩
              obtain ⟨z0, hz0⟩ : ∃ z, F nq = z := ⟨_, rfl⟩
              have HZB : Hid (Below wr.heap.size wr z0) := hz0 ▸ HF.out nq
              rw [hz0]
              have RZ : Hid (Row B 21 g n c z0 zs) := HR.out.below HZB.out
              have OZ : Hid (One g w z0) := HO1.out.trans (One.of HZB.out (Nat.le_of_lt HR.out.lt))
              clear hz0 HF HO ca ci HR HO1
              by_cases hlt : xa.v < xi.v
              · rw [show decide (xa.v < xi.v) = true from decide_eq_true hlt]
                go_wp2
                go_roundg (j - 1)
                case measure => omega
                case rel => exact ⟨j - 1, rfl, by omega, by omega, by omega, by (have : ((j - 1 : Nat) : Int) = (j : Int) - 1 := by omega); rw [this], RZ.out, OZ.out⟩
              · rw [show decide (xa.v < xi.v) = false from decide_eq_false hlt]
                by_cases hgt : j < i
                · have hgt' : (j : Int) < (i : Int) := by omega
                  go_wp2
                  go_ret
                  first
                    | exact ⟨i, rfl, by omega, zs, HP.out, RZ.out, OZ.out⟩
                    | exact ⟨⟨i, rfl, by omega⟩, zs, HP.out, RZ.out, OZ.out⟩
                · have hgt' : ¬ (j : Int) < (i : Int) := by omega
                  obtain ⟨xi', hxi'⟩ : ∃ x, zs[i]? = some x := ⟨_, List.getElem?_eq_getElem (by have := RZ.out.len; omega)⟩
                  obtain ⟨xj', hxj'⟩ : ∃ x, zs[j]? = some x := ⟨_, List.getElem?_eq_getElem (by have := RZ.out.len; omega)⟩
                  have HXX : Hid (zs[i]? = some xi' ∧ zs[j]? = some xj') := ⟨hxi', hxj'⟩
                  have cx' := RZ.out.get hxi'
                  have cy' := RZ.out.get hxj'
                  have f1' := RZ.out.free i
                  have f2' := RZ.out.free j
                  have t2 : (i : Int) < (n : Int) := by omega
                  have t3 : (j : Int) < (n : Int) := by omega
                  obtain ⟨jm, hjm⟩ : ∃ jm : Nat, j - 1 = jm := ⟨_, rfl⟩
                  have kj : IntKind.i64.wrap ((j : Int) - 1) = (jm : Int) := by rw [IntWalk.i64_in _ ⟨by omega, by omega⟩]; omega
                  have HJM : Hid (j - 1 = jm) := hjm
                  clear hxi' hxj' hjm
                  by_cases hijq : i = j
                  · subst hijq
                    have hxx : xi' = xj' := by have h9 := HXX.out; rw [h9.1] at h9; exact Option.some.inj h9.2
                    subst hxx
                    go_upto_region 8 with fail
                    go_big_region
                    obtain ⟨z3, hz3⟩ : ∃ z, ((z0.setCell ⟨g, i, none⟩ (.int .i32 xi'.v)).setCell ⟨g, i, none⟩ (.int .i32 xi'.v)).drew = z := ⟨_, rfl⟩
                    rw [hz3]
                    have R3 : Hid (Row B 21 g n c z3 (swp zs i i xi' xi')) := by unfold Hid; rw [← hz3]; exact ((RZ.out.set i xi').set i xi').below (Below.refl _ _).drew
                    have O3 : Hid (One g w z3) := by unfold Hid; rw [← hz3]; exact ((OZ.out.trans (One.set g i _ _)).trans (One.set g i _ _)).trans (One.of (Below.refl _ _).drew (by have := RZ.out.lt; simp; omega))
                    have P3 : Hid ((swp zs i i xi' xi').Perm xs) := (swp_perm HXX.out.1 HXX.out.2).trans HP.out
                    clear hz3 cx' cy' f1' f2'
                    go_wp2
                    go_roundg ((b - (i + 1)) + jm)
                    case measure => have := HG0.out; have := HJM.out; omega
                    case rel => exact ⟨i + 1, jm, _, rfl, by omega, by omega, by have := HJM.out; omega, by have := HJM.out; omega, by go_num, (by rw [show ((jm : Nat) : Int) = (i : Int) - 1 by have := HJM.out; omega]), P3.out, R3.out, O3.out⟩
                  · have hne2 : i ≠ j := hijq
                    have hne3 : j ≠ i := fun e => hijq e.symm
                    go_upto_region 8 with fail
                    go_big_region
                    obtain ⟨z3, hz3⟩ : ∃ z, ((z0.setCell ⟨g, i, none⟩ (.int .i32 xj'.v)).setCell ⟨g, j, none⟩ (.int .i32 xi'.v)).drew = z := ⟨_, rfl⟩
                    rw [hz3]
                    have R3 : Hid (Row B 21 g n c z3 (swp zs i j xi' xj')) := by unfold Hid; rw [← hz3]; exact ((RZ.out.set i xj').set j xi').below (Below.refl _ _).drew
                    have O3 : Hid (One g w z3) := by unfold Hid; rw [← hz3]; exact ((OZ.out.trans (One.set g i _ _)).trans (One.set g j _ _)).trans (One.of (Below.refl _ _).drew (by have := RZ.out.lt; simp; omega))
                    have P3 : Hid ((swp zs i j xi' xj').Perm xs) := (swp_perm HXX.out.1 HXX.out.2).trans HP.out
                    clear hz3 cx' cy' f1' f2'
                    go_wp2
                    go_roundg ((b - (i + 1)) + jm)
                    case measure => have := HG0.out; have := HJM.out; omega
                    case rel => exact ⟨i + 1, jm, _, rfl, by omega, by omega, by have := HJM.out; omega, by have := HJM.out; omega, by go_num, (by rw [show ((jm : Nat) : Int) = (j : Int) - 1 by have := HJM.out; omega]), P3.out, R3.out, O3.out⟩
            · have hij' : ¬ (i : Int) ≤ (j : Int) := by omega
              clear hzl
              go_upto_region 5 with fail
              refine region_class F (by kernel_rfl) (by kernel_rfl) (by obtain ⟨x, hx⟩ := HO.out _ (Below.refl _ _).drew; exact ⟨x, hx.symm⟩) ?_
              repeat (go_big_quiet_step (fail))
              refine wpQuiet_nil ?_
              rintro _ ⟨nq, rfl⟩
              obtain ⟨z0, hz0⟩ : ∃ z, F nq = z := ⟨_, rfl⟩
              have HZB : Hid (Below wr.heap.size wr z0) := hz0 ▸ HF.out nq
              rw [hz0]
              have RZ : Hid (Row B 21 g n c z0 zs) := HR.out.below HZB.out
              have OZ : Hid (One g w z0) := HO1.out.trans (One.of HZB.out (Nat.le_of_lt HR.out.lt))
              clear hz0 HF HO HR HO1
              have hgt : j < i := by omega
              have hgt' : (j : Int) < (i : Int) := by omega
              go_wp2
              go_ret
              first
                | exact ⟨i, rfl, by omega, zs, HP.out, RZ.out, OZ.out⟩
                | exact ⟨⟨i, rfl, by omega⟩, zs, HP.out, RZ.out, OZ.out⟩
end Go.Proofs.YtgijcbipnjmhgabGreat
