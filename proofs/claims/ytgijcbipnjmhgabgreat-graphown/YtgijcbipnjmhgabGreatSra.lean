import Derived.Test.YtgijcbipnjmhgabGreatSr9
namespace Go.Proofs.YtgijcbipnjmhgabGreat
open Go.ChangeShapes Go.WideShapes Go.ChangeAt Go.RowKit
set_option linter.unusedVariables false
set_option linter.unusedSimpArgs false

set_option maxRecDepth 1000000 in
set_option maxHeartbeats 8000000 in
theorem pins_any (B g n c a b : Nat) (xs : List Hn) (w : World) (h : Row B 21 g n c w xs) (hab : a + 1 ≤ b) (hb : b ≤ n) (hn : n ≤ 70368744177664) :
    Calls Tryz.prog 96 #[.slice (some ⟨g, 0, none⟩) n c, .int .i64 (a : Int), .int .i64 (b : Int)] w fun e w' => ∃ (t : Bool), e = .returned (.bool t) ∧ ∃ ys, Sp B g n c w xs w' ys := by
  have HS : Hid (Sp B g n c w xs w xs) := Sp.first h
  obtain ⟨l, hl⟩ : ∃ l : Nat, b - a = l := ⟨_, rfl⟩
  have kl : IntKind.i64.wrap ((b : Int) - (a : Int)) = (l : Int) := by rw [IntWalk.i64_in _ ⟨by omega, by omega⟩]; omega
  clear h
  go_enter Tryz.func96, Tryz.ntmps96
  go_wp2
  go_loopg [7, 8] 5 (fun gk si sk wr => ∃ i k : Nat, gk = 5 - k ∧ si = .int .i64 (i : Int) ∧ sk = .int .i64 (k : Int) ∧ k ≤ 5 ∧ a + 1 ≤ i ∧ i ≤ b ∧ ∃ zs, Sp B g n c w xs wr zs)
  case atStart => exact ⟨a + 1, 0, rfl, by go_num, rfl, by omega, by omega, by omega, _, HS.out⟩
  case round =>
    obtain ⟨i0, k, hgk0, rfl, rfl, hk, hai0, hib0, zs0, hS⟩ := hrel
    clear HS
    have HS : Hid (Sp B g n c w xs wr zs0) := hS
    clear hS
    by_cases hk5 : k < 5
    · have hk5' : (k : Int) < 5 := by omega
      go_upto_block 2 with fail
      go_cut [7] (fun s wc => ∃ i : Nat, s = .int .i64 (i : Int) ∧ a + 1 ≤ i ∧ i ≤ b ∧ ∃ zs, Sp B g n c w xs wc zs)
      case first =>
        go_wp2_with fail
        go_loopg [7] (b - i0) (fun gk s wr => ∃ i : Nat, gk = b - i ∧ s = .int .i64 (i : Int) ∧ a + 1 ≤ i ∧ i ≤ b ∧ ∃ zs, Sp B g n c w xs wr zs)
        case atStart => exact ⟨i0, rfl, rfl, by omega, by omega, _, HS.out⟩
        case round =>
          obtain ⟨i, hgk, rfl, hai, hib, zs, hS⟩ := hrel
          clear HS
          have HS : Hid (Sp B g n c w xs wr zs) := hS
          clear hS
          have m1 : IntKind.i64.wrap ((i : Int) - 1) = ((i - 1 : Nat) : Int) := by rw [IntWalk.i64_in _ ⟨by omega, by omega⟩]; omega
          obtain ⟨X, F, hX, hF, onto⟩ := class_of (fun v => Below wr.heap.size wr v) (Below.refl _ wr)
          have HF : Hid (∀ y, Below wr.heap.size wr (F y)) := hF
          have HO : Hid (∀ v, Below wr.heap.size wr v → ∃ x, v = F x) := fun v h => by obtain ⟨x, hx⟩ := onto v h; exact ⟨x, hx.symm⟩
          by_cases hgd : i < b
          · have hgd' : (i : Int) < (b : Int) := by omega
            obtain ⟨xp, hxp⟩ := HS.out.at (i := i) (by omega)
            obtain ⟨xq, hxq⟩ := HS.out.at (i := (i - 1)) (by omega)
            have cp : ∀ q, (F q).cell? ⟨g, i, none⟩ = some (.int .i32 xp.v) := fun q => (HS.out.below (hF q)).row.get hxp
            have cq : ∀ q, (F q).cell? ⟨g, (i - 1), none⟩ = some (.int .i32 xq.v) := fun q => (HS.out.below (hF q)).row.get hxq
            have tp : ((i : Nat) : Int) < (n : Int) := by omega
            have tq : (((i - 1) : Nat) : Int) < (n : Int) := by omega
            clear hxp hxq
            go_upto_region 5 with fail
            refine region_class F (by kernel_rfl) (by kernel_rfl) (by obtain ⟨x, hx⟩ := HO.out _ (Below.refl _ _).drew; exact ⟨x, hx.symm⟩) ?_
            repeat (go_big_quiet_step (first | (go_at_call 97; with_reducible refine (less_any xp.v xq.v _).mono ?_; rintro e z5 ⟨rfl, rfl⟩; exact ⟨rfl, HO.out _ (HF.out _)⟩)))
            clear cp cq
            refine wpQuiet_nil ?_
            rintro _ ⟨nq, rfl⟩
            obtain ⟨z0, hz0⟩ : ∃ z, F nq = z := ⟨_, rfl⟩
            have SZ : Hid (Sp B g n c w xs z0 zs) := HS.out.below (hz0 ▸ HF.out nq)
            rw [hz0]
            clear hz0 HF HO HS hF onto
            by_cases hlt : xp.v < xq.v
            · rw [show decide (xp.v < xq.v) = true from decide_eq_true hlt]
              go_wp2_with fail
              go_meet
              exact ⟨i, rfl, hai, hib, _, SZ.out⟩
            · rw [show decide (xp.v < xq.v) = false from decide_eq_false hlt]
              go_wp2
              go_roundg (b - (i + 1))
              case measure => omega
              case rel => exact ⟨i + 1, rfl, by go_num, by omega, by omega, _, SZ.out⟩
          · have hgd' : ¬ (i : Int) < (b : Int) := by omega
            go_upto_region 5 with fail
            refine region_class F (by kernel_rfl) (by kernel_rfl) (by obtain ⟨x, hx⟩ := HO.out _ (Below.refl _ _).drew; exact ⟨x, hx.symm⟩) ?_
            repeat (go_big_quiet_step (fail))
            refine wpQuiet_nil ?_
            rintro _ ⟨nq, rfl⟩
            obtain ⟨z0, hz0⟩ : ∃ z, F nq = z := ⟨_, rfl⟩
            have SZ : Hid (Sp B g n c w xs z0 zs) := HS.out.below (hz0 ▸ HF.out nq)
            rw [hz0]
            clear hz0 HF HO HS hF onto
            go_wp2_with fail
            go_meet
            exact ⟨i, rfl, hai, hib, _, SZ.out⟩
      case rest =>
        obtain ⟨i, rfl, hai, hib, zs, hS⟩ := hcut
        clear HS
        have HS : Hid (Sp B g n c w xs wc zs) := hS
        clear hS
        by_cases hib2 : i = b
        · have hib3 : (i : Int) = (b : Int) := by omega
          have hib4 : ((i : Int) == (b : Int)) = true := by simp; omega
          go_wp2
          go_ret
          first
            | exact ⟨true, rfl, _, HS.out⟩
            | exact ⟨.inl rfl, _, HS.out⟩
            | exact ⟨.inr rfl, _, HS.out⟩
            | exact ⟨_, HS.out⟩
        · have hib3 : ¬ (i : Int) = (b : Int) := by omega
          have hib4 : ((i : Int) == (b : Int)) = false := by simp; omega
          by_cases h50 : l < 50
          · have h50' : (l : Int) < 50 := by omega
            go_wp2
            go_ret
            first
              | exact ⟨false, rfl, _, HS.out⟩
              | exact ⟨.inl rfl, _, HS.out⟩
              | exact ⟨.inr rfl, _, HS.out⟩
              | exact ⟨_, HS.out⟩
          · have h50' : ¬ (l : Int) < 50 := by omega
            have m1 : IntKind.i64.wrap ((i : Int) - 1) = ((i - 1 : Nat) : Int) := by rw [IntWalk.i64_in _ ⟨by omega, by omega⟩]; omega
            go_upto_region 11 with fail
            go_cut [] (fun wc => ∃ ys, Sp B g n c w xs wc ys)
            case first =>
              obtain ⟨xi, hxi⟩ := HS.out.at (i := i) (by omega)
              obtain ⟨xj, hxj⟩ := HS.out.at (i := (i - 1)) (by omega)
              have HX : Hid (zs[i]? = some xi ∧ zs[(i - 1)]? = some xj) := ⟨hxi, hxj⟩
              have ti : ((i : Nat) : Int) < (n : Int) := by omega
              have tj : (((i - 1) : Nat) : Int) < (n : Int) := by omega
              have cx := HS.out.row.get hxi
              have cy := HS.out.row.get hxj
              have f1 := HS.out.row.free i
              have f2 := HS.out.row.free (i - 1)
              clear hxi hxj
              have hne2 : (i - 1) ≠ i := by omega
              have hne3 : i ≠ (i - 1) := fun e => hne2 e.symm
              go_big_region
              go_wp2_with fail
              go_meet
              exact ⟨_, HS.out.swap HX.out.1 HX.out.2⟩
            case rest =>
              obtain ⟨zl, h8⟩ := hcut
              clear HS
              have HS : Hid (Sp B g n c w xs wc zl) := h8
              clear h8
              clear m1
              obtain ⟨d1, hd1⟩ : ∃ d : Nat, i - a = d := ⟨_, rfl⟩
              have kd1 : IntKind.i64.wrap ((i : Int) - (a : Int)) = (d1 : Int) := by rw [IntWalk.i64_in _ ⟨by omega, by omega⟩]; omega
              have m1 : IntKind.i64.wrap ((i : Int) - 1) = ((i - 1 : Nat) : Int) := by rw [IntWalk.i64_in _ ⟨by omega, by omega⟩]; omega
              go_upto_if 61 with fail
              go_cut [] (fun wc => ∃ zs, Sp B g n c w xs wc zs)
              case first =>
                by_cases h2 : 2 ≤ d1
                · have h2' : (2 : Int) ≤ (d1 : Int) := by omega
                  go_wp2_with fail
                  go_loopg [9] ((i - 1)) (fun gk s wr => ∃ j : Nat, gk = j ∧ s = .int .i64 (j : Int) ∧ j + 1 ≤ n ∧ j ≤ n ∧ ∃ zs, Sp B g n c w xs wr zs)
                  case atStart => exact ⟨(i - 1), rfl, rfl, by omega, by omega, _, HS.out⟩
                  case round =>
                    obtain ⟨j, hgk, rfl, hj1, hj2, zs, hS⟩ := hrel
                    clear HS
                    have HS : Hid (Sp B g n c w xs wr zs) := hS
                    clear hS
                    by_cases hgd : 1 ≤ j
                    · have hgd' : (1 : Int) ≤ (j : Int) := by omega
                      have m1 : IntKind.i64.wrap ((j : Int) - 1) = ((j - 1 : Nat) : Int) := by rw [IntWalk.i64_in _ ⟨by omega, by omega⟩]; omega
                      obtain ⟨X, F, hX, hF, onto⟩ := class_of (fun v => Below wr.heap.size wr v) (Below.refl _ wr)
                      have HF : Hid (∀ y, Below wr.heap.size wr (F y)) := hF
                      have HO : Hid (∀ v, Below wr.heap.size wr v → ∃ x, v = F x) := fun v h => by obtain ⟨x, hx⟩ := onto v h; exact ⟨x, hx.symm⟩
                      obtain ⟨xp, hxp⟩ := HS.out.at (i := j) (by omega)
                      obtain ⟨xq, hxq⟩ := HS.out.at (i := (j - 1)) (by omega)
                      have cp : ∀ q, (F q).cell? ⟨g, j, none⟩ = some (.int .i32 xp.v) := fun q => (HS.out.below (hF q)).row.get hxp
                      have cq : ∀ q, (F q).cell? ⟨g, (j - 1), none⟩ = some (.int .i32 xq.v) := fun q => (HS.out.below (hF q)).row.get hxq
                      have tp : ((j : Nat) : Int) < (n : Int) := by omega
                      have tq : (((j - 1) : Nat) : Int) < (n : Int) := by omega
                      clear hxp hxq
                      go_upto_region 16 with fail
                      refine region_class F (by kernel_rfl) (by kernel_rfl) (by obtain ⟨x, hx⟩ := HO.out _ (Below.refl _ _).drew; exact ⟨x, hx.symm⟩) ?_
                      repeat (go_big_quiet_step (first | (go_at_call 97; with_reducible refine (less_any xp.v xq.v _).mono ?_; rintro e z5 ⟨rfl, rfl⟩; exact ⟨rfl, HO.out _ (HF.out _)⟩)))
                      clear cp cq
                      refine wpQuiet_nil ?_
                      rintro _ ⟨nq, rfl⟩
                      obtain ⟨z0, hz0⟩ : ∃ z, F nq = z := ⟨_, rfl⟩
                      have SZ : Hid (Sp B g n c w xs z0 zs) := HS.out.below (hz0 ▸ HF.out nq)
                      rw [hz0]
                      clear hz0 HF HO HS hF onto
                      by_cases hlt : xp.v < xq.v
                      · rw [show decide (xp.v < xq.v) = true from decide_eq_true hlt]
                        have HS : Hid (Sp B g n c w xs z0 zs) := SZ.out
                        clear SZ
                        obtain ⟨xi, hxi⟩ := HS.out.at (i := j) (by omega)
                        obtain ⟨xj, hxj⟩ := HS.out.at (i := (j - 1)) (by omega)
                        have HX : Hid (zs[j]? = some xi ∧ zs[(j - 1)]? = some xj) := ⟨hxi, hxj⟩
                        have ti : ((j : Nat) : Int) < (n : Int) := by omega
                        have tj : (((j - 1) : Nat) : Int) < (n : Int) := by omega
                        have cx := HS.out.row.get hxi
                        have cy := HS.out.row.get hxj
                        have f1 := HS.out.row.free j
                        have f2 := HS.out.row.free (j - 1)
                        have hne2 : (j - 1) ≠ j := by omega
                        have hne3 : j ≠ (j - 1) := fun e => hne2 e.symm
                        clear hxi hxj
                        go_upto_region 17 with fail
                        go_big_region
                        obtain ⟨z2, hz2⟩ : ∃ z, ((z0.setCell ⟨g, j, none⟩ (.int .i32 xj.v)).setCell ⟨g, (j - 1), none⟩ (.int .i32 xi.v)).drew = z := ⟨_, rfl⟩
                        have S2 : Hid (Sp B g n c w xs z2 (swp zs j (j - 1) xi xj)) := by unfold Hid; rw [← hz2]; exact HS.out.swap HX.out.1 HX.out.2
                        rw [hz2]
                        clear hz2 cx cy f1 f2 hne2 hne3 HS
                        have HS : Hid (Sp B g n c w xs z2 (swp zs j (j - 1) xi xj)) := S2.out
                        clear S2
                        go_wp2
                        go_roundg (j - 1)
                        case measure => omega
                        case rel => exact ⟨j - 1, rfl, by (have : ((j - 1 : Nat) : Int) = (j : Int) - 1 := by omega); first | rfl | rw [this] | go_num, by omega, by omega, _, HS.out⟩
                      · rw [show decide (xp.v < xq.v) = false from decide_eq_false hlt]
                        have HS : Hid (Sp B g n c w xs z0 zs) := SZ.out
                        go_wp2_with fail
                        go_meet
                        exact ⟨_, HS.out⟩
                    · have hgd' : ¬ (1 : Int) ≤ (j : Int) := by omega
                      go_wp2_with fail
                      go_meet
                      exact ⟨_, HS.out⟩
                · have h2' : ¬ (2 : Int) ≤ (d1 : Int) := by omega
                  go_wp2_with fail
                  go_meet
                  exact ⟨_, HS.out⟩
              case rest =>
                obtain ⟨zs, hS⟩ := hcut
                clear HS
                have HS : Hid (Sp B g n c w xs wc zs) := hS
                clear hS
                clear kd1 m1
                obtain ⟨d2, hd2⟩ : ∃ d : Nat, b - i = d := ⟨_, rfl⟩
                have kd2 : IntKind.i64.wrap ((b : Int) - (i : Int)) = (d2 : Int) := by rw [IntWalk.i64_in _ ⟨by omega, by omega⟩]; omega
                by_cases h3 : 2 ≤ d2
                · have h3' : (2 : Int) ≤ (d2 : Int) := by omega
                  go_wp2_with fail
                  go_loopg [10] (b - (i + 1)) (fun gk s wr => ∃ j : Nat, gk = b - j ∧ s = .int .i64 (j : Int) ∧ i + 1 ≤ j ∧ j ≤ b ∧ ∃ zs, Sp B g n c w xs wr zs)
                  case atStart => exact ⟨(i + 1), rfl, by go_num, by omega, by omega, _, HS.out⟩
                  case round =>
                    obtain ⟨j, hgk, rfl, hj1, hj2, zs, hS⟩ := hrel
                    clear HS
                    have HS : Hid (Sp B g n c w xs wr zs) := hS
                    clear hS
                    by_cases hgd : j < b
                    · have hgd' : (j : Int) < (b : Int) := by omega
                      have m1 : IntKind.i64.wrap ((j : Int) - 1) = ((j - 1 : Nat) : Int) := by rw [IntWalk.i64_in _ ⟨by omega, by omega⟩]; omega
                      obtain ⟨X, F, hX, hF, onto⟩ := class_of (fun v => Below wr.heap.size wr v) (Below.refl _ wr)
                      have HF : Hid (∀ y, Below wr.heap.size wr (F y)) := hF
                      have HO : Hid (∀ v, Below wr.heap.size wr v → ∃ x, v = F x) := fun v h => by obtain ⟨x, hx⟩ := onto v h; exact ⟨x, hx.symm⟩
                      obtain ⟨xp, hxp⟩ := HS.out.at (i := j) (by omega)
                      obtain ⟨xq, hxq⟩ := HS.out.at (i := (j - 1)) (by omega)
                      have cp : ∀ q, (F q).cell? ⟨g, j, none⟩ = some (.int .i32 xp.v) := fun q => (HS.out.below (hF q)).row.get hxp
                      have cq : ∀ q, (F q).cell? ⟨g, (j - 1), none⟩ = some (.int .i32 xq.v) := fun q => (HS.out.below (hF q)).row.get hxq
                      have tp : ((j : Nat) : Int) < (n : Int) := by omega
                      have tq : (((j - 1) : Nat) : Int) < (n : Int) := by omega
                      clear hxp hxq
                      go_upto_region 22 with fail
                      refine region_class F (by kernel_rfl) (by kernel_rfl) (by obtain ⟨x, hx⟩ := HO.out _ (Below.refl _ _).drew; exact ⟨x, hx.symm⟩) ?_
                      repeat (go_big_quiet_step (first | (go_at_call 97; with_reducible refine (less_any xp.v xq.v _).mono ?_; rintro e z5 ⟨rfl, rfl⟩; exact ⟨rfl, HO.out _ (HF.out _)⟩)))
                      clear cp cq
                      refine wpQuiet_nil ?_
                      rintro _ ⟨nq, rfl⟩
                      obtain ⟨z0, hz0⟩ : ∃ z, F nq = z := ⟨_, rfl⟩
                      have SZ : Hid (Sp B g n c w xs z0 zs) := HS.out.below (hz0 ▸ HF.out nq)
                      rw [hz0]
                      clear hz0 HF HO HS hF onto
                      by_cases hlt : xp.v < xq.v
                      · rw [show decide (xp.v < xq.v) = true from decide_eq_true hlt]
                        have HS : Hid (Sp B g n c w xs z0 zs) := SZ.out
                        clear SZ
                        obtain ⟨xi, hxi⟩ := HS.out.at (i := j) (by omega)
                        obtain ⟨xj, hxj⟩ := HS.out.at (i := (j - 1)) (by omega)
                        have HX : Hid (zs[j]? = some xi ∧ zs[(j - 1)]? = some xj) := ⟨hxi, hxj⟩
                        have ti : ((j : Nat) : Int) < (n : Int) := by omega
                        have tj : (((j - 1) : Nat) : Int) < (n : Int) := by omega
                        have cx := HS.out.row.get hxi
                        have cy := HS.out.row.get hxj
                        have f1 := HS.out.row.free j
                        have f2 := HS.out.row.free (j - 1)
                        have hne2 : (j - 1) ≠ j := by omega
                        have hne3 : j ≠ (j - 1) := fun e => hne2 e.symm
                        clear hxi hxj
                        go_upto_region 23 with fail
                        go_big_region
                        obtain ⟨z2, hz2⟩ : ∃ z, ((z0.setCell ⟨g, j, none⟩ (.int .i32 xj.v)).setCell ⟨g, (j - 1), none⟩ (.int .i32 xi.v)).drew = z := ⟨_, rfl⟩
                        have S2 : Hid (Sp B g n c w xs z2 (swp zs j (j - 1) xi xj)) := by unfold Hid; rw [← hz2]; exact HS.out.swap HX.out.1 HX.out.2
                        rw [hz2]
                        clear hz2 cx cy f1 f2 hne2 hne3 HS
                        have HS : Hid (Sp B g n c w xs z2 (swp zs j (j - 1) xi xj)) := S2.out
                        clear S2
                        go_wp2
                        go_roundg (b - (j + 1))
                        case measure => omega
                        case rel => exact ⟨j + 1, rfl, by go_num, by omega, by omega, _, HS.out⟩
                      · rw [show decide (xp.v < xq.v) = false from decide_eq_false hlt]
                        have HS : Hid (Sp B g n c w xs z0 zs) := SZ.out
                        go_wp2
                        go_roundg (5 - (k + 1))
                        case measure => omega
                        case rel => exact ⟨i, k + 1, rfl, rfl, by go_num, by omega, by omega, by omega, _, HS.out⟩
                    · have hgd' : ¬ (j : Int) < (b : Int) := by omega
                      go_wp2
                      go_roundg (5 - (k + 1))
                      case measure => omega
                      case rel => exact ⟨i, k + 1, rfl, rfl, by go_num, by omega, by omega, by omega, _, HS.out⟩
                · have h3' : ¬ (2 : Int) ≤ (d2 : Int) := by omega
                  go_wp2
                  go_roundg (5 - (k + 1))
                  case measure => omega
                  case rel => exact ⟨i, k + 1, rfl, rfl, by go_num, by omega, by omega, by omega, _, HS.out⟩
    · have hk5' : ¬ (k : Int) < 5 := by omega
      go_wp2
      go_ret
      first
        | exact ⟨false, rfl, _, HS.out⟩
        | exact ⟨.inl rfl, _, HS.out⟩
        | exact ⟨.inr rfl, _, HS.out⟩
        | exact ⟨_, HS.out⟩
end Go.Proofs.YtgijcbipnjmhgabGreat
