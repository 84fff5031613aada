import Derived.Test.YtgijcbipnjmhgabGreatSr5
import Derived.Deep.CutBlock
namespace Go.Proofs.YtgijcbipnjmhgabGreat
open Go.ChangeShapes Go.WideShapes Go.ChangeAt Go.RowKit
set_option linter.unusedVariables false
set_option linter.unusedSimpArgs false

/-- the row at z is xs with its things in another order, and nothing else has changed since w -/
structure Sp (B g n c : Nat) (w : World) (xs : List Hn) (z : World) (zs : List Hn) : Prop where
  perm : zs.Perm xs
  row : Row B 21 g n c z zs
  one : One g w z
theorem Sp.first {B g n c : Nat} {w : World} {xs : List Hn} (h : Row B 21 g n c w xs) : Sp B g n c w xs w xs := ⟨List.Perm.refl _, h, One.refl _ _⟩
theorem Sp.below {B g n c : Nat} {w z z' : World} {xs zs : List Hn} (h : Sp B g n c w xs z zs) (hb : Below z.heap.size z z') : Sp B g n c w xs z' zs :=
  ⟨h.perm, h.row.below hb, h.one.trans (One.of hb (Nat.le_of_lt h.row.lt))⟩
theorem Sp.at {B g n c : Nat} {w z : World} {xs zs : List Hn} (h : Sp B g n c w xs z zs) {i : Nat} (hi : i < n) : ∃ x, zs[i]? = some x := ⟨_, List.getElem?_eq_getElem (by rw [h.row.len]; exact hi)⟩
theorem Sp.swap {B g n c : Nat} {w z : World} {xs zs : List Hn} (h : Sp B g n c w xs z zs) {i j : Nat} {x y : Hn} (hi : zs[i]? = some x) (hj : zs[j]? = some y) : Sp B g n c w xs ((z.setCell ⟨g, i, none⟩ (.int .i32 y.v)).setCell ⟨g, j, none⟩ (.int .i32 x.v)).drew (swp zs i j x y) :=
  ⟨(swp_perm hi hj).trans h.perm, ((h.row.set i y).set j x).below (Below.refl _ _).drew, ((h.one.trans (One.set g i _ _)).trans (One.set g j _ _)).trans (One.of (Below.refl _ _).drew (by have := h.row.lt; simp; omega))⟩
theorem Sp.then {B g n c : Nat} {w z z' : World} {xs zs ys : List Hn} (h : Sp B g n c w xs z zs) (k : Sp B g n c z zs z' ys) : Sp B g n c w xs z' ys := ⟨k.perm.trans h.perm, k.row, h.one.trans k.one⟩
theorem Sp.of {B g n c : Nat} {w z z' : World} {xs zs ys : List Hn} (h : Sp B g n c w xs z zs) (hp : ys.Perm zs) (hr : Row B 21 g n c z' ys) (ho : One g z z') : Sp B g n c w xs z' ys := h.then ⟨hp, hr, ho⟩

set_option maxRecDepth 1000000 in
set_option maxHeartbeats 8000000 in
theorem part_any (B g n c a b p : Nat) (xs : List Hn) (w : World) (h : Row B 21 g n c w xs) (hap : a ≤ p) (hpb : p < b) (hb : b ≤ n) (hn : n ≤ 70368744177664) :
    Calls Tryz.prog 99 #[.slice (some ⟨g, 0, none⟩) n c, .int .i64 (a : Int), .int .i64 (b : Int), .int .i64 (p : Int)] w fun e w' => ∃ (j : Nat) (t : Bool), e = .returned (.tuple #[.int .i64 (j : Int), .bool t]) ∧ (a ≤ j ∧ j < b) ∧ ∃ ys, Sp B g n c w xs w' ys := by
  have HS0 : Hid (Sp B g n c w xs w xs) := Sp.first h
  obtain ⟨b1', hb1⟩ : ∃ b1 : Nat, b - 1 = b1 := ⟨_, rfl⟩
  have k1 : IntKind.i64.wrap ((b : Int) - 1) = (b1' : Int) := by rw [IntWalk.i64_in _ ⟨by omega, by omega⟩]; omega
  clear h
  go_enter Tryz.func99, Tryz.ntmps99
  go_upto_region 1 with fail
  go_cut [] (fun wc => ∃ ys, Sp B g n c w xs wc ys)
  case first =>
    obtain ⟨xi, hxi⟩ := HS0.out.at (i := a) (by omega)
    obtain ⟨xj, hxj⟩ := HS0.out.at (i := p) (by omega)
    have HX : Hid (xs[a]? = some xi ∧ xs[p]? = some xj) := ⟨hxi, hxj⟩
    have ti : ((a : Nat) : Int) < (n : Int) := by omega
    have tj : ((p : Nat) : Int) < (n : Int) := by omega
    have cx := HS0.out.row.get hxi
    have cy := HS0.out.row.get hxj
    have f1 := HS0.out.row.free a
    have f2 := HS0.out.row.free p
    clear hxi hxj
    by_cases hijq : p = a
    · subst hijq
      have hxx : xi = xj := by have h9 := HX.out; rw [h9.1] at h9; exact Option.some.inj h9.2
      subst hxx
      go_big_region
      go_wp2_with fail
      go_meet
      exact ⟨_, HS0.out.swap HX.out.1 HX.out.2⟩
    · have hne2 : p ≠ a := hijq
      have hne3 : a ≠ p := fun e => hijq e.symm
      go_big_region
      go_wp2_with fail
      go_meet
      exact ⟨_, HS0.out.swap HX.out.1 HX.out.2⟩
  case rest =>
    obtain ⟨zl, h8⟩ := hcut
    clear HS0
    have HS : Hid (Sp B g n c w xs wc zl) := h8
    clear h8
    go_upto_block 0 with fail
    clear k1
    go_upto_block 0 with fail
    go_cut [10] (fun s wc => ∃ i : Nat, s = .int .i64 (i : Int) ∧ a + 1 ≤ i ∧ i ≤ b ∧ a + 1 ≤ i ∧ ∃ zs, Sp B g n c w xs wc zs)
    case first =>
      go_wp2_with fail
      go_loopg [10] (b - (a + 1)) (fun gk s wr => ∃ i : Nat, gk = b - i ∧ s = .int .i64 (i : Int) ∧ a + 1 ≤ i ∧ i ≤ b ∧ a + 1 ≤ i ∧ ∃ zs, Sp B g n c w xs wr zs)
      case atStart => exact ⟨a + 1, rfl, by go_num, by omega, by omega, by omega, _, HS.out⟩
      case round =>
        obtain ⟨i, hgk, rfl, hai, hib, hi0, zs, hS⟩ := hrel
        clear HS
        have HS : Hid (Sp B g n c w xs wr zs) := hS
        clear hS
        obtain ⟨X, F, hX, hF, onto⟩ := class_of (fun v => Below wr.heap.size wr v) (Below.refl _ wr)
        have HF : Hid (∀ y, Below wr.heap.size wr (F y)) := hF
        have HO : Hid (∀ v, Below wr.heap.size wr v → ∃ x, v = F x) := fun v h => by obtain ⟨x, hx⟩ := onto v h; exact ⟨x, hx.symm⟩
        by_cases hgd : i ≤ b1'
        · have hgd' : (i : Int) ≤ (b1' : Int) := by omega
          obtain ⟨xp, hxp⟩ := HS.out.at (i := i) (by omega)
          obtain ⟨xq, hxq⟩ := HS.out.at (i := a) (by omega)
          have cp : ∀ q, (F q).cell? ⟨g, i, none⟩ = some (.int .i32 xp.v) := fun q => (HS.out.below (hF q)).row.get hxp
          have cq : ∀ q, (F q).cell? ⟨g, a, none⟩ = some (.int .i32 xq.v) := fun q => (HS.out.below (hF q)).row.get hxq
          have tp : ((i : Nat) : Int) < (n : Int) := by omega
          have tq : ((a : Nat) : Int) < (n : Int) := by omega
          clear hxp hxq
          go_upto_region 3 with fail
          refine region_class F (by kernel_rfl) (by kernel_rfl) (by obtain ⟨x, hx⟩ := HO.out _ (Below.refl _ _).drew; exact ⟨x, hx.symm⟩) ?_
          repeat (go_big_quiet_step (first | (go_at_call 97; with_reducible refine (less_any xp.v xq.v _).mono ?_; rintro e z5 ⟨rfl, rfl⟩; exact ⟨rfl, HO.out _ (HF.out _)⟩)))
          clear cp cq
          refine wpQuiet_nil ?_
          rintro _ ⟨nq, rfl⟩
          obtain ⟨z0, hz0⟩ : ∃ z, F nq = z := ⟨_, rfl⟩
          have SZ : Hid (Sp B g n c w xs z0 zs) := HS.out.below (hz0 ▸ HF.out nq)
          rw [hz0]
          clear hz0 HF HO HS hF onto
          by_cases hlt : xp.v < xq.v
          · rw [show decide (xp.v < xq.v) = true from decide_eq_true hlt]
            go_wp2
            go_roundg (b - (i + 1))
            case measure => omega
            case rel => exact ⟨i + 1, rfl, by go_num, by omega, by omega, by omega, zs, SZ.out⟩
          · rw [show decide (xp.v < xq.v) = false from decide_eq_false hlt]
            go_wp2_with fail
            go_meet
            exact ⟨i, rfl, hai, hib, hi0, zs, SZ.out⟩
        · have hgd' : ¬ (i : Int) ≤ (b1' : Int) := by omega
          go_upto_region 3 with fail
          refine region_class F (by kernel_rfl) (by kernel_rfl) (by obtain ⟨x, hx⟩ := HO.out _ (Below.refl _ _).drew; exact ⟨x, hx.symm⟩) ?_
          repeat (go_big_quiet_step (fail))
          refine wpQuiet_nil ?_
          rintro _ ⟨nq, rfl⟩
          obtain ⟨z0, hz0⟩ : ∃ z, F nq = z := ⟨_, rfl⟩
          have SZ : Hid (Sp B g n c w xs z0 zs) := HS.out.below (hz0 ▸ HF.out nq)
          rw [hz0]
          clear hz0 HF HO HS hF onto
          go_wp2_with fail
          go_meet
          exact ⟨i, rfl, hai, hib, hi0, zs, SZ.out⟩
    case rest =>
      obtain ⟨i, rfl, hai, hib, hi0, zs, hS⟩ := hcut
      clear HS
      have HS : Hid (Sp B g n c w xs wc zs) := hS
      clear hS
      go_upto_block 2 with fail
      go_cut [11] (fun s wc => ∃ j : Nat, s = .int .i64 (j : Int) ∧ a ≤ j ∧ j + 1 ≤ b ∧ j ≤ b1' ∧ ∃ zs, Sp B g n c w xs wc zs)
      case first =>
        go_wp2_with fail
        go_loopg [11] (b1') (fun gk s wr => ∃ j : Nat, gk = j ∧ s = .int .i64 (j : Int) ∧ a ≤ j ∧ j + 1 ≤ b ∧ j ≤ b1' ∧ ∃ zs, Sp B g n c w xs wr zs)
        case atStart => exact ⟨b1', rfl, rfl, by omega, by omega, by omega, _, HS.out⟩
        case round =>
          obtain ⟨j, hgk, rfl, haj, hjb, hj0, zs, hS⟩ := hrel
          clear HS
          have HS : Hid (Sp B g n c w xs wr zs) := hS
          clear hS
          have kj2 : IntKind.i64.wrap ((j : Int) - 1) = (j : Int) - 1 := IntWalk.i64_in _ ⟨by omega, by omega⟩
          obtain ⟨X, F, hX, hF, onto⟩ := class_of (fun v => Below wr.heap.size wr v) (Below.refl _ wr)
          have HF : Hid (∀ y, Below wr.heap.size wr (F y)) := hF
          have HO : Hid (∀ v, Below wr.heap.size wr v → ∃ x, v = F x) := fun v h => by obtain ⟨x, hx⟩ := onto v h; exact ⟨x, hx.symm⟩
          by_cases hgd : i ≤ j
          · have hgd' : (i : Int) ≤ (j : Int) := by omega
            obtain ⟨xp, hxp⟩ := HS.out.at (i := j) (by omega)
            obtain ⟨xq, hxq⟩ := HS.out.at (i := a) (by omega)
            have cp : ∀ q, (F q).cell? ⟨g, j, none⟩ = some (.int .i32 xp.v) := fun q => (HS.out.below (hF q)).row.get hxp
            have cq : ∀ q, (F q).cell? ⟨g, a, none⟩ = some (.int .i32 xq.v) := fun q => (HS.out.below (hF q)).row.get hxq
            have tp : ((j : Nat) : Int) < (n : Int) := by omega
            have tq : ((a : Nat) : Int) < (n : Int) := by omega
            clear hxp hxq
            go_upto_region 5 with fail
            refine region_class F (by kernel_rfl) (by kernel_rfl) (by obtain ⟨x, hx⟩ := HO.out _ (Below.refl _ _).drew; exact ⟨x, hx.symm⟩) ?_
            repeat (go_big_quiet_step (first | (go_at_call 97; with_reducible refine (less_any xp.v xq.v _).mono ?_; rintro e z5 ⟨rfl, rfl⟩; exact ⟨rfl, HO.out _ (HF.out _)⟩)))
            clear cp cq
            refine wpQuiet_nil ?_
            rintro _ ⟨nq, rfl⟩
            obtain ⟨z0, hz0⟩ : ∃ z, F nq = z := ⟨_, rfl⟩
            have SZ : Hid (Sp B g n c w xs z0 zs) := HS.out.below (hz0 ▸ HF.out nq)
            rw [hz0]
            clear hz0 HF HO HS hF onto
            by_cases hlt : xp.v < xq.v
            · rw [show decide (xp.v < xq.v) = true from decide_eq_true hlt]
              go_wp2_with fail
              go_meet
              exact ⟨j, rfl, haj, hjb, hj0, zs, SZ.out⟩
            · rw [show decide (xp.v < xq.v) = false from decide_eq_false hlt]
              go_wp2
              go_roundg (j - 1)
              case measure => omega
              case rel => exact ⟨j - 1, rfl, by (have : ((j - 1 : Nat) : Int) = (j : Int) - 1 := by omega); rw [this], by omega, by omega, by omega, zs, SZ.out⟩
          · have hgd' : ¬ (i : Int) ≤ (j : Int) := by omega
            go_upto_region 5 with fail
            refine region_class F (by kernel_rfl) (by kernel_rfl) (by obtain ⟨x, hx⟩ := HO.out _ (Below.refl _ _).drew; exact ⟨x, hx.symm⟩) ?_
            repeat (go_big_quiet_step (fail))
            refine wpQuiet_nil ?_
            rintro _ ⟨nq, rfl⟩
            obtain ⟨z0, hz0⟩ : ∃ z, F nq = z := ⟨_, rfl⟩
            have SZ : Hid (Sp B g n c w xs z0 zs) := HS.out.below (hz0 ▸ HF.out nq)
            rw [hz0]
            clear hz0 HF HO HS hF onto
            go_wp2_with fail
            go_meet
            exact ⟨j, rfl, haj, hjb, hj0, zs, SZ.out⟩
      case rest =>
        obtain ⟨j, rfl, haj, hjb, hj0, zs, hS⟩ := hcut
        clear HS
        have HS : Hid (Sp B g n c w xs wc zs) := hS
        clear hS
        by_cases hgt : j < i
        · have hgt' : (j : Int) < (i : Int) := by omega
          go_upto_region 8 with fail
          go_cut [] (fun wc => ∃ ys, Sp B g n c w xs wc ys)
          case first =>
            obtain ⟨xi, hxi⟩ := HS.out.at (i := j) (by omega)
            obtain ⟨xj, hxj⟩ := HS.out.at (i := a) (by omega)
            have HX : Hid (zs[j]? = some xi ∧ zs[a]? = some xj) := ⟨hxi, hxj⟩
            have ti : ((j : Nat) : Int) < (n : Int) := by omega
            have tj : ((a : Nat) : Int) < (n : Int) := by omega
            have cx := HS.out.row.get hxi
            have cy := HS.out.row.get hxj
            have f1 := HS.out.row.free j
            have f2 := HS.out.row.free a
            clear hxi hxj
            by_cases hijq : a = j
            · subst hijq
              have hxx : xi = xj := by have h9 := HX.out; rw [h9.1] at h9; exact Option.some.inj h9.2
              subst hxx
              go_big_region
              go_wp2_with fail
              go_meet
              exact ⟨_, HS.out.swap HX.out.1 HX.out.2⟩
            · have hne2 : a ≠ j := hijq
              have hne3 : j ≠ a := fun e => hijq e.symm
              go_big_region
              go_wp2_with fail
              go_meet
              exact ⟨_, HS.out.swap HX.out.1 HX.out.2⟩
          case rest =>
            obtain ⟨zl, h8⟩ := hcut
            clear HS
            have HS : Hid (Sp B g n c w xs wc zl) := h8
            clear h8
            go_wp2
            go_ret2
            first
              | exact ⟨j, true, rfl, by omega, zl, HS.out⟩
              | exact ⟨j, .inl rfl, by omega, zl, HS.out⟩
              | exact ⟨j, .inr rfl, by omega, zl, HS.out⟩
        · have hgt' : ¬ (j : Int) < (i : Int) := by omega
          obtain ⟨jm, hjm⟩ : ∃ jm : Nat, j - 1 = jm := ⟨_, rfl⟩
          have kj : IntKind.i64.wrap ((j : Int) - 1) = (jm : Int) := by rw [IntWalk.i64_in _ ⟨by omega, by omega⟩]; omega
          go_upto_region 10 with fail
          go_cut [] (fun wc => ∃ ys, Sp B g n c w xs wc ys)
          case first =>
            obtain ⟨xi, hxi⟩ := HS.out.at (i := i) (by omega)
            obtain ⟨xj, hxj⟩ := HS.out.at (i := j) (by omega)
            have HX : Hid (zs[i]? = some xi ∧ zs[j]? = some xj) := ⟨hxi, hxj⟩
            have ti : ((i : Nat) : Int) < (n : Int) := by omega
            have tj : ((j : Nat) : Int) < (n : Int) := by omega
            have cx := HS.out.row.get hxi
            have cy := HS.out.row.get hxj
            have f1 := HS.out.row.free i
            have f2 := HS.out.row.free j
            clear hxi hxj
            by_cases hijq : j = i
            · subst hijq
              have hxx : xi = xj := by have h9 := HX.out; rw [h9.1] at h9; exact Option.some.inj h9.2
              subst hxx
              go_big_region
              go_wp2_with fail
              go_meet
              exact ⟨_, HS.out.swap HX.out.1 HX.out.2⟩
            · have hne2 : j ≠ i := hijq
              have hne3 : i ≠ j := fun e => hijq e.symm
              go_big_region
              go_wp2_with fail
              go_meet
              exact ⟨_, HS.out.swap HX.out.1 HX.out.2⟩
          case rest =>
            obtain ⟨zl, h8⟩ := hcut
            clear HS
            have HS : Hid (Sp B g n c w xs wc zl) := h8
            clear h8
            go_upto_block 4 with fail
            clear kj
            go_cut [10, 11] (fun si sj wc => ∃ i j : Nat, si = .int .i64 (i : Int) ∧ sj = .int .i64 (j : Int) ∧ a + 1 ≤ i ∧ i ≤ b ∧ a ≤ j ∧ j + 1 ≤ b ∧ ∃ zs, Sp B g n c w xs wc zs)
            case first =>
              go_wp2_with fail
              go_loopg [10, 11] ((b - (i + 1)) + jm) (fun gk si sj wr => ∃ i j : Nat, gk = (b - i) + j ∧ si = .int .i64 (i : Int) ∧ sj = .int .i64 (j : Int) ∧ a + 1 ≤ i ∧ i ≤ b ∧ a ≤ j ∧ j + 1 ≤ b ∧ ∃ zs, Sp B g n c w xs wr zs)
              case atStart => exact ⟨i + 1, jm, rfl, by go_num, rfl, by omega, by omega, by omega, by omega, _, HS.out⟩
              case round =>
                obtain ⟨i2, j2, hgk2, rfl, rfl, hai2, hib2, haj2, hjb2, zs2, hS⟩ := hrel
                clear HS
                have HS : Hid (Sp B g n c w xs wr zs2) := hS
                clear hS
                go_upto_block 6 with fail
                go_cut [10] (fun s wc => ∃ i : Nat, s = .int .i64 (i : Int) ∧ a + 1 ≤ i ∧ i ≤ b ∧ i2 ≤ i ∧ ∃ zs, Sp B g n c w xs wc zs)
                case first =>
                  go_wp2_with fail
                  go_loopg [10] (b - (i2)) (fun gk s wr => ∃ i : Nat, gk = b - i ∧ s = .int .i64 (i : Int) ∧ a + 1 ≤ i ∧ i ≤ b ∧ i2 ≤ i ∧ ∃ zs, Sp B g n c w xs wr zs)
                  case atStart => exact ⟨i2, rfl, rfl, by omega, by omega, by omega, _, HS.out⟩
                  case round =>
                    obtain ⟨i, hgk, rfl, hai, hib, hi0, zs, hS⟩ := hrel
                    clear HS
                    have HS : Hid (Sp B g n c w xs wr zs) := hS
                    clear hS
                    obtain ⟨X, F, hX, hF, onto⟩ := class_of (fun v => Below wr.heap.size wr v) (Below.refl _ wr)
                    have HF : Hid (∀ y, Below wr.heap.size wr (F y)) := hF
                    have HO : Hid (∀ v, Below wr.heap.size wr v → ∃ x, v = F x) := fun v h => by obtain ⟨x, hx⟩ := onto v h; exact ⟨x, hx.symm⟩
                    by_cases hgd : i ≤ j2
                    · have hgd' : (i : Int) ≤ (j2 : Int) := by omega
                      obtain ⟨xp, hxp⟩ := HS.out.at (i := i) (by omega)
                      obtain ⟨xq, hxq⟩ := HS.out.at (i := a) (by omega)
                      have cp : ∀ q, (F q).cell? ⟨g, i, none⟩ = some (.int .i32 xp.v) := fun q => (HS.out.below (hF q)).row.get hxp
                      have cq : ∀ q, (F q).cell? ⟨g, a, none⟩ = some (.int .i32 xq.v) := fun q => (HS.out.below (hF q)).row.get hxq
                      have tp : ((i : Nat) : Int) < (n : Int) := by omega
                      have tq : ((a : Nat) : Int) < (n : Int) := by omega
                      clear hxp hxq
                      go_upto_region 13 with fail
                      refine region_class F (by kernel_rfl) (by kernel_rfl) (by obtain ⟨x, hx⟩ := HO.out _ (Below.refl _ _).drew; exact ⟨x, hx.symm⟩) ?_
                      repeat (go_big_quiet_step (first | (go_at_call 97; with_reducible refine (less_any xp.v xq.v _).mono ?_; rintro e z5 ⟨rfl, rfl⟩; exact ⟨rfl, HO.out _ (HF.out _)⟩)))
                      clear cp cq
                      refine wpQuiet_nil ?_
                      rintro _ ⟨nq, rfl⟩
                      obtain ⟨z0, hz0⟩ : ∃ z, F nq = z := ⟨_, rfl⟩
                      have SZ : Hid (Sp B g n c w xs z0 zs) := HS.out.below (hz0 ▸ HF.out nq)
                      rw [hz0]
                      clear hz0 HF HO HS hF onto
                      by_cases hlt : xp.v < xq.v
                      · rw [show decide (xp.v < xq.v) = true from decide_eq_true hlt]
                        go_wp2
                        go_roundg (b - (i + 1))
                        case measure => omega
                        case rel => exact ⟨i + 1, rfl, by go_num, by omega, by omega, by omega, zs, SZ.out⟩
                      · rw [show decide (xp.v < xq.v) = false from decide_eq_false hlt]
                        go_wp2_with fail
                        go_meet
                        exact ⟨i, rfl, hai, hib, hi0, zs, SZ.out⟩
                    · have hgd' : ¬ (i : Int) ≤ (j2 : Int) := by omega
                      go_upto_region 13 with fail
                      refine region_class F (by kernel_rfl) (by kernel_rfl) (by obtain ⟨x, hx⟩ := HO.out _ (Below.refl _ _).drew; exact ⟨x, hx.symm⟩) ?_
                      repeat (go_big_quiet_step (fail))
                      refine wpQuiet_nil ?_
                      rintro _ ⟨nq, rfl⟩
                      obtain ⟨z0, hz0⟩ : ∃ z, F nq = z := ⟨_, rfl⟩
                      have SZ : Hid (Sp B g n c w xs z0 zs) := HS.out.below (hz0 ▸ HF.out nq)
                      rw [hz0]
                      clear hz0 HF HO HS hF onto
                      go_wp2_with fail
                      go_meet
                      exact ⟨i, rfl, hai, hib, hi0, zs, SZ.out⟩
                case rest =>
                  obtain ⟨i, rfl, hai, hib, hi0, zs, hS⟩ := hcut
                  clear HS
                  have HS : Hid (Sp B g n c w xs wc zs) := hS
                  clear hS
                  go_upto_block 8 with fail
                  go_cut [11] (fun s wc => ∃ j : Nat, s = .int .i64 (j : Int) ∧ a ≤ j ∧ j + 1 ≤ b ∧ j ≤ j2 ∧ ∃ zs, Sp B g n c w xs wc zs)
                  case first =>
                    go_wp2_with fail
                    go_loopg [11] (j2) (fun gk s wr => ∃ j : Nat, gk = j ∧ s = .int .i64 (j : Int) ∧ a ≤ j ∧ j + 1 ≤ b ∧ j ≤ j2 ∧ ∃ zs, Sp B g n c w xs wr zs)
                    case atStart => exact ⟨j2, rfl, rfl, by omega, by omega, by omega, _, HS.out⟩
                    case round =>
                      obtain ⟨j, hgk, rfl, haj, hjb, hj0, zs, hS⟩ := hrel
                      clear HS
                      have HS : Hid (Sp B g n c w xs wr zs) := hS
                      clear hS
                      have kj2 : IntKind.i64.wrap ((j : Int) - 1) = (j : Int) - 1 := IntWalk.i64_in _ ⟨by omega, by omega⟩
                      obtain ⟨X, F, hX, hF, onto⟩ := class_of (fun v => Below wr.heap.size wr v) (Below.refl _ wr)
                      have HF : Hid (∀ y, Below wr.heap.size wr (F y)) := hF
                      have HO : Hid (∀ v, Below wr.heap.size wr v → ∃ x, v = F x) := fun v h => by obtain ⟨x, hx⟩ := onto v h; exact ⟨x, hx.symm⟩
                      by_cases hgd : i ≤ j
                      · have hgd' : (i : Int) ≤ (j : Int) := by omega
                        obtain ⟨xp, hxp⟩ := HS.out.at (i := j) (by omega)
                        obtain ⟨xq, hxq⟩ := HS.out.at (i := a) (by omega)
                        have cp : ∀ q, (F q).cell? ⟨g, j, none⟩ = some (.int .i32 xp.v) := fun q => (HS.out.below (hF q)).row.get hxp
                        have cq : ∀ q, (F q).cell? ⟨g, a, none⟩ = some (.int .i32 xq.v) := fun q => (HS.out.below (hF q)).row.get hxq
                        have tp : ((j : Nat) : Int) < (n : Int) := by omega
                        have tq : ((a : Nat) : Int) < (n : Int) := by omega
                        clear hxp hxq
                        go_upto_region 15 with fail
                        refine region_class F (by kernel_rfl) (by kernel_rfl) (by obtain ⟨x, hx⟩ := HO.out _ (Below.refl _ _).drew; exact ⟨x, hx.symm⟩) ?_
                        repeat (go_big_quiet_step (first | (go_at_call 97; with_reducible refine (less_any xp.v xq.v _).mono ?_; rintro e z5 ⟨rfl, rfl⟩; exact ⟨rfl, HO.out _ (HF.out _)⟩)))
                        clear cp cq
                        refine wpQuiet_nil ?_
                        rintro _ ⟨nq, rfl⟩
                        obtain ⟨z0, hz0⟩ : ∃ z, F nq = z := ⟨_, rfl⟩
                        have SZ : Hid (Sp B g n c w xs z0 zs) := HS.out.below (hz0 ▸ HF.out nq)
                        rw [hz0]
                        clear hz0 HF HO HS hF onto
                        by_cases hlt : xp.v < xq.v
                        · rw [show decide (xp.v < xq.v) = true from decide_eq_true hlt]
                          go_wp2_with fail
                          go_meet
                          exact ⟨j, rfl, haj, hjb, hj0, zs, SZ.out⟩
                        · rw [show decide (xp.v < xq.v) = false from decide_eq_false hlt]
                          go_wp2
                          go_roundg (j - 1)
                          case measure => omega
                          case rel => exact ⟨j - 1, rfl, by (have : ((j - 1 : Nat) : Int) = (j : Int) - 1 := by omega); rw [this], by omega, by omega, by omega, zs, SZ.out⟩
                      · have hgd' : ¬ (i : Int) ≤ (j : Int) := by omega
                        go_upto_region 15 with fail
                        refine region_class F (by kernel_rfl) (by kernel_rfl) (by obtain ⟨x, hx⟩ := HO.out _ (Below.refl _ _).drew; exact ⟨x, hx.symm⟩) ?_
                        repeat (go_big_quiet_step (fail))
                        refine wpQuiet_nil ?_
                        rintro _ ⟨nq, rfl⟩
                        obtain ⟨z0, hz0⟩ : ∃ z, F nq = z := ⟨_, rfl⟩
                        have SZ : Hid (Sp B g n c w xs z0 zs) := HS.out.below (hz0 ▸ HF.out nq)
                        rw [hz0]
                        clear hz0 HF HO HS hF onto
                        go_wp2_with fail
                        go_meet
                        exact ⟨j, rfl, haj, hjb, hj0, zs, SZ.out⟩
                  case rest =>
                    obtain ⟨j, rfl, haj, hjb, hj0, zs, hS⟩ := hcut
                    clear HS
                    have HS : Hid (Sp B g n c w xs wc zs) := hS
                    clear hS
                    by_cases hgt : j < i
                    · have hgt' : (j : Int) < (i : Int) := by omega
                      go_wp2_with fail
                      go_meet
                      exact ⟨i, j, rfl, rfl, hai, hib, haj, hjb, zs, HS.out⟩
                    · have hgt' : ¬ (j : Int) < (i : Int) := by omega
                      obtain ⟨jm, hjm⟩ : ∃ jm : Nat, j - 1 = jm := ⟨_, rfl⟩
                      have kj : IntKind.i64.wrap ((j : Int) - 1) = (jm : Int) := by rw [IntWalk.i64_in _ ⟨by omega, by omega⟩]; omega
                      go_upto_region 18 with fail
                      go_cut [] (fun wc => ∃ ys, Sp B g n c w xs wc ys)
                      case first =>
                        obtain ⟨xi, hxi⟩ := HS.out.at (i := i) (by omega)
                        obtain ⟨xj, hxj⟩ := HS.out.at (i := j) (by omega)
                        have HX : Hid (zs[i]? = some xi ∧ zs[j]? = some xj) := ⟨hxi, hxj⟩
                        have ti : ((i : Nat) : Int) < (n : Int) := by omega
                        have tj : ((j : Nat) : Int) < (n : Int) := by omega
                        have cx := HS.out.row.get hxi
                        have cy := HS.out.row.get hxj
                        have f1 := HS.out.row.free i
                        have f2 := HS.out.row.free j
                        clear hxi hxj
                        by_cases hijq : j = i
                        · subst hijq
                          have hxx : xi = xj := by have h9 := HX.out; rw [h9.1] at h9; exact Option.some.inj h9.2
                          subst hxx
                          go_big_region
                          go_wp2_with fail
                          go_meet
                          exact ⟨_, HS.out.swap HX.out.1 HX.out.2⟩
                        · have hne2 : j ≠ i := hijq
                          have hne3 : i ≠ j := fun e => hijq e.symm
                          go_big_region
                          go_wp2_with fail
                          go_meet
                          exact ⟨_, HS.out.swap HX.out.1 HX.out.2⟩
                      case rest =>
                        obtain ⟨zl, h8⟩ := hcut
                        clear HS
                        have HS : Hid (Sp B g n c w xs wc zl) := h8
                        clear h8
                        go_wp2
                        go_roundg ((b - (i + 1)) + jm)
                        case measure => omega
                        case rel => exact ⟨i + 1, jm, rfl, by go_num, rfl, by omega, by omega, by omega, by omega, _, HS.out⟩
            case rest =>
              obtain ⟨i, j, rfl, rfl, hai, hib, haj, hjb, zs, hS⟩ := hcut
              clear HS
              have HS : Hid (Sp B g n c w xs wc zs) := hS
              clear hS
              go_upto_region 21 with fail
              go_cut [] (fun wc => ∃ ys, Sp B g n c w xs wc ys)
              case first =>
                obtain ⟨xi, hxi⟩ := HS.out.at (i := j) (by omega)
                obtain ⟨xj, hxj⟩ := HS.out.at (i := a) (by omega)
                have HX : Hid (zs[j]? = some xi ∧ zs[a]? = some xj) := ⟨hxi, hxj⟩
                have ti : ((j : Nat) : Int) < (n : Int) := by omega
                have tj : ((a : Nat) : Int) < (n : Int) := by omega
                have cx := HS.out.row.get hxi
                have cy := HS.out.row.get hxj
                have f1 := HS.out.row.free j
                have f2 := HS.out.row.free a
                clear hxi hxj
                by_cases hijq : a = j
                · subst hijq
                  have hxx : xi = xj := by have h9 := HX.out; rw [h9.1] at h9; exact Option.some.inj h9.2
                  subst hxx
                  go_big_region
                  go_wp2_with fail
                  go_meet
                  exact ⟨_, HS.out.swap HX.out.1 HX.out.2⟩
                · have hne2 : a ≠ j := hijq
                  have hne3 : j ≠ a := fun e => hijq e.symm
                  go_big_region
                  go_wp2_with fail
                  go_meet
                  exact ⟨_, HS.out.swap HX.out.1 HX.out.2⟩
              case rest =>
                obtain ⟨zl, h8⟩ := hcut
                clear HS
                have HS : Hid (Sp B g n c w xs wc zl) := h8
                clear h8
                go_wp2
                go_ret2
                first
                  | exact ⟨j, false, rfl, by omega, zl, HS.out⟩
                  | exact ⟨j, .inl rfl, by omega, zl, HS.out⟩
                  | exact ⟨j, .inr rfl, by omega, zl, HS.out⟩
end Go.Proofs.YtgijcbipnjmhgabGreat
