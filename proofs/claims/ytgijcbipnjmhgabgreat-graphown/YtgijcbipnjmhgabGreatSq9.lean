import Derived.Test.YtgijcbipnjmhgabGreatSq0
import Derived.Test.YtgijcbipnjmhgabGreatSr5
import Derived.Deep.CutBlock
namespace Go.Proofs.YtgijcbipnjmhgabGreat
open Go.ChangeShapes Go.WideShapes Go.ChangeAt Go.RowKit
set_option linter.unusedVariables false
set_option linter.unusedSimpArgs false

theorem hidI' {p : Prop} (h : p) : Hid p := h
/-- the row at z is xs with the things of a stretch in another order, and nothing else has changed since w -/
structure Si (B g n c a b : Nat) (w : World) (xs : List Hn) (z : World) (zs : List Hn) : Prop where
  perm : Go.Sort.PermIn a b (arr xs) (arr zs)
  row : Row B 21 g n c z zs
  one : One g w z
theorem Si.first {B g n c a b : Nat} {w : World} {xs : List Hn} (h : Row B 21 g n c w xs) : Si B g n c a b w xs w xs := ⟨Go.Sort.permIn_refl _ _ _, h, One.refl _ _⟩
theorem Si.below {B g n c a b : Nat} {w z z' : World} {xs zs : List Hn} (h : Si B g n c a b w xs z zs) (hb : Below z.heap.size z z') : Si B g n c a b w xs z' zs :=
  ⟨h.perm, h.row.below hb, h.one.trans (One.of hb (Nat.le_of_lt h.row.lt))⟩
theorem Si.at {B g n c a b : Nat} {w z : World} {xs zs : List Hn} (h : Si B g n c a b w xs z zs) {i : Nat} (hi : i < n) : ∃ x, zs[i]? = some x := ⟨_, List.getElem?_eq_getElem (by rw [h.row.len]; exact hi)⟩
theorem Si.swap {B g n c a b : Nat} {w z : World} {xs zs : List Hn} (h : Si B g n c a b w xs z zs) {i j : Nat} {x y : Hn} (hi : zs[i]? = some x) (hj : zs[j]? = some y) (h1 : a ≤ i ∧ i < b) (h2 : a ≤ j ∧ j < b) (hb : b ≤ n) : Si B g n c a b w xs ((z.setCell ⟨g, i, none⟩ (.int .i32 y.v)).setCell ⟨g, j, none⟩ (.int .i32 x.v)).drew (swp zs i j x y) :=
  ⟨by rw [arr_swp hi hj]; exact Go.Sort.permIn_trans _ _ _ _ _ h.perm (Go.Sort.swp_permIn _ _ _ _ _ h1.1 h1.2 h2.1 h2.2 (by rw [arr_size, h.row.len]; exact hb)), ((h.row.set i y).set j x).below (Below.refl _ _).drew, ((h.one.trans (One.set g i _ _)).trans (One.set g j _ _)).trans (One.of (Below.refl _ _).drew (by have := h.row.lt; simp; omega))⟩
theorem swp_at {zs : List Hn} {i j : Nat} {x y : Hn} (hi : zs[i]? = some x) (hj : zs[j]? = some y) (k : Nat) : (arr (swp zs i j x y))[k]! = if k = j then x.v else if k = i then y.v else (arr zs)[k]! := by
  have li : i < (arr zs).size := by rw [arr_size]; exact (List.getElem?_eq_some_iff.1 hi).1
  have lj : j < (arr zs).size := by rw [arr_size]; exact (List.getElem?_eq_some_iff.1 hj).1
  rw [arr_swp hi hj, Go.Sort.swp_get _ li lj, arr_get hi, arr_get hj]
/-- in the midst of a partition: ahead of i all is less than the pivot, which lies at a, behind j nothing is -/
structure Pq (B g n c a b : Nat) (w : World) (xs : List Hn) (z : World) (zs : List Hn) (i j : Nat) : Prop extends Si B g n c a b w xs z zs where
  lo : ∀ k, a < k → k < i → ltI (arr zs)[k]! (arr zs)[a]! = true
  hi : ∀ k, j < k → k < b → ltI (arr zs)[k]! (arr zs)[a]! = false
theorem Pq.below {B g n c a b i j : Nat} {w z z' : World} {xs zs : List Hn} (h : Pq B g n c a b w xs z zs i j) (hb : Below z.heap.size z z') : Pq B g n c a b w xs z' zs i j := ⟨h.toSi.below hb, h.lo, h.hi⟩
theorem Pq.at {B g n c a b p q : Nat} {w z : World} {xs zs : List Hn} (h : Pq B g n c a b w xs z zs p q) {i : Nat} (hi : i < n) : ∃ x, zs[i]? = some x := h.toSi.at hi
theorem Pq.first {B g n c a b p j : Nat} {w z : World} {xs zs : List Hn} (h : Si B g n c a b w xs z zs) {x y : Hn} (hi : zs[a]? = some x) (hj : zs[p]? = some y) (h2 : a ≤ p ∧ p < b) (hb : b ≤ n) (hj1 : b ≤ j + 1) : Pq B g n c a b w xs ((z.setCell ⟨g, a, none⟩ (.int .i32 y.v)).setCell ⟨g, p, none⟩ (.int .i32 x.v)).drew (swp zs a p x y) (a + 1) j :=
  ⟨h.swap hi hj ⟨Nat.le_refl _, by omega⟩ h2 hb, fun k h1 h2 => by omega, fun k h1 h2 => by omega⟩
theorem Pq.up {B g n c a b i j : Nat} {w z : World} {xs zs : List Hn} (h : Pq B g n c a b w xs z zs i j) {x y : Hn} (hx : zs[i]? = some x) (hy : zs[a]? = some y) (hl : x.v < y.v) : Pq B g n c a b w xs z zs (i + 1) j :=
  ⟨h.toSi, fun k h1 h2 => by
    by_cases e : k = i
    · subst e; rw [arr_get hx, arr_get hy]; exact ltI_of hl
    · exact h.lo k h1 (by omega), h.hi⟩
theorem Pq.down {B g n c a b i j : Nat} {w z : World} {xs zs : List Hn} (h : Pq B g n c a b w xs z zs i j) {x y : Hn} (hx : zs[j]? = some x) (hy : zs[a]? = some y) (hl : ¬ x.v < y.v) : Pq B g n c a b w xs z zs i (j - 1) :=
  ⟨h.toSi, h.lo, fun k h1 h2 => by
    by_cases e : k = j
    · subst e; rw [arr_get hx, arr_get hy]; exact ltI_not hl
    · exact h.hi k (by omega) h2⟩
theorem Pq.swap {B g n c a b i j : Nat} {w z : World} {xs zs : List Hn} (h : Pq B g n c a b w xs z zs i j) {x y : Hn} (hx : zs[i]? = some x) (hy : zs[j]? = some y) (h1 : a < i) (h2 : i < j) (h3 : j < b) (hb : b ≤ n) (l1 : ltI (arr zs)[i]! (arr zs)[a]! = false) (l2 : ltI (arr zs)[j]! (arr zs)[a]! = true) : Pq B g n c a b w xs ((z.setCell ⟨g, i, none⟩ (.int .i32 y.v)).setCell ⟨g, j, none⟩ (.int .i32 x.v)).drew (swp zs i j x y) (i + 1) (j - 1) := by
  have ea : (arr (swp zs i j x y))[a]! = (arr zs)[a]! := by rw [swp_at hx hy, if_neg (by omega), if_neg (by omega)]
  rw [arr_get hx] at l1
  rw [arr_get hy] at l2
  refine ⟨h.toSi.swap hx hy ⟨by omega, by omega⟩ ⟨by omega, h3⟩ hb, fun k k1 k2 => ?_, fun k k1 k2 => ?_⟩
  · rw [ea, swp_at hx hy, if_neg (by omega)]
    by_cases e : k = i
    · rw [if_pos e]; exact l2
    · rw [if_neg e]; exact h.lo k k1 (by omega)
  · rw [ea, swp_at hx hy]
    by_cases e : k = j
    · rw [if_pos e]; exact l1
    · rw [if_neg e, if_neg (by omega)]; exact h.hi k (by omega) k2
/-- .. at its end: the pivot lies at j -/
structure Pe (B g n c a b : Nat) (w : World) (xs : List Hn) (z : World) (zs : List Hn) (j : Nat) : Prop extends Si B g n c a b w xs z zs where
  lo : ∀ k, a ≤ k → k < j → ltI (arr zs)[k]! (arr zs)[j]! = true
  hi : ∀ k, j < k → k < b → ltI (arr zs)[k]! (arr zs)[j]! = false
theorem Pq.fin {B g n c a b i j : Nat} {w z : World} {xs zs : List Hn} (h : Pq B g n c a b w xs z zs i j) {x y : Hn} (hx : zs[j]? = some x) (hy : zs[a]? = some y) (h1 : a ≤ j) (h2 : j < i) (h3 : j < b) (hb : b ≤ n) : Pe B g n c a b w xs ((z.setCell ⟨g, j, none⟩ (.int .i32 y.v)).setCell ⟨g, a, none⟩ (.int .i32 x.v)).drew (swp zs j a x y) j := by
  have ej : (arr (swp zs j a x y))[j]! = (arr zs)[a]! := by
    rw [swp_at hx hy, arr_get hy]
    by_cases e : j = a
    · subst e; rw [if_pos rfl]; rw [hx] at hy; cases hy; rfl
    · rw [if_neg e, if_pos rfl]
  refine ⟨h.toSi.swap hx hy ⟨h1, h3⟩ ⟨Nat.le_refl _, by omega⟩ hb, fun k k1 k2 => ?_, fun k k1 k2 => ?_⟩
  · rw [ej, swp_at hx hy]
    by_cases e : k = a
    · rw [if_pos e, ← arr_get hx]; exact h.lo j (by omega) h2
    · rw [if_neg e, if_neg (by omega)]; exact h.lo k (by omega) (by omega)
  · rw [ej, swp_at hx hy, if_neg (by omega), if_neg (by omega)]
    exact h.hi k k1 k2

set_option maxRecDepth 1000000 in
set_option maxHeartbeats 8000000 in
theorem partS_any (B g n c a b p : Nat) (xs : List Hn) (w : World) (h : Row B 21 g n c w xs) (hap : a ≤ p) (hpb : p < b) (hb : b ≤ n) (hn : n ≤ 70368744177664) :
    Calls Tryz.prog 99 #[.slice (some ⟨g, 0, none⟩) n c, .int .i64 (a : Int), .int .i64 (b : Int), .int .i64 (p : Int)] w fun e w' => ∃ (j : Nat) (t : Bool), e = .returned (.tuple #[.int .i64 (j : Int), .bool t]) ∧ (a ≤ j ∧ j < b) ∧ ∃ ys, Pe B g n c a b w xs w' ys j := by
  have HS0 : Hid (Si B g n c a b w xs w xs) := Si.first h
  obtain ⟨b1', hb1⟩ : ∃ b1 : Nat, b - 1 = b1 := ⟨_, rfl⟩
  have k1 : IntKind.i64.wrap ((b : Int) - 1) = (b1' : Int) := by rw [IntWalk.i64_in _ ⟨by omega, by omega⟩]; omega
  clear h
  go_enter Tryz.func99, Tryz.ntmps99
  go_upto_region 1 with fail
  go_cut [] (fun wc => ∃ ys, Pq B g n c a b w xs wc ys (a + 1) b1')
  case first =>
    obtain ⟨xi, hxi⟩ := HS0.out.at (i := a) (by omega)
    obtain ⟨xj, hxj⟩ := HS0.out.at (i := p) (by omega)
    have HX : Hid (xs[a]? = some xi ∧ xs[p]? = some xj) := ⟨hxi, hxj⟩
    have ti : ((a : Nat) : Int) < (n : Int) := by omega
    have tj : ((p : Nat) : Int) < (n : Int) := by omega
    have cx := HS0.out.row.get hxi
    have cy := HS0.out.row.get hxj
    have f1 := HS0.out.row.free a
    have f2 := HS0.out.row.free p
    clear hxi hxj
    by_cases hijq : p = a
    · subst hijq
      have hxx : xi = xj := by have h9 := HX.out; rw [h9.1] at h9; exact Option.some.inj h9.2
      subst hxx
      go_big_region
      go_wp2_with fail
      go_meet
      exact ⟨_, Pq.first HS0.out HX.out.1 HX.out.2 (by omega) (by omega) (by omega)⟩
    · have hne2 : p ≠ a := hijq
      have hne3 : a ≠ p := fun e => hijq e.symm
      go_big_region
      go_wp2_with fail
      go_meet
      exact ⟨_, Pq.first HS0.out HX.out.1 HX.out.2 (by omega) (by omega) (by omega)⟩
  case rest =>
    obtain ⟨zl, h8⟩ := hcut
    clear HS0
    have HS : Hid (Pq B g n c a b w xs wc zl (a + 1) b1') := h8
    clear h8
    go_upto_block 0 with fail
    clear k1
    go_upto_block 0 with fail
    go_cut [10] (fun s wc => ∃ i : Nat, s = .int .i64 (i : Int) ∧ a + 1 ≤ i ∧ i ≤ b ∧ a + 1 ≤ i ∧ Pq B g n c a b w xs wc zl i b1' ∧ (i ≤ b1' → ltI (arr zl)[i]! (arr zl)[a]! = false))
    case first =>
      go_wp2_with fail
      go_loopg [10] (b - (a + 1)) (fun gk s wr => ∃ i : Nat, gk = b - i ∧ s = .int .i64 (i : Int) ∧ a + 1 ≤ i ∧ i ≤ b ∧ a + 1 ≤ i ∧ Pq B g n c a b w xs wr zl i b1')
      case atStart => exact ⟨a + 1, rfl, by go_num, by omega, by omega, by omega, HS.out⟩
      case round =>
        obtain ⟨i, hgk, rfl, hai, hib, hi0, hS⟩ := hrel
        clear HS
        have HS : Hid (Pq B g n c a b w xs wr zl i b1') := hS
        clear hS
        obtain ⟨X, F, hX, hF, onto⟩ := class_of (fun v => Below wr.heap.size wr v) (Below.refl _ wr)
        have HF : Hid (∀ y, Below wr.heap.size wr (F y)) := hF
        have HO : Hid (∀ v, Below wr.heap.size wr v → ∃ x, v = F x) := fun v h => by obtain ⟨x, hx⟩ := onto v h; exact ⟨x, hx.symm⟩
        by_cases hgd : i ≤ b1'
        · have hgd' : (i : Int) ≤ (b1' : Int) := by omega
          obtain ⟨xp, hxp⟩ := HS.out.at (i := i) (by omega)
          obtain ⟨xq, hxq⟩ := HS.out.at (i := a) (by omega)
          have cp : ∀ q, (F q).cell? ⟨g, i, none⟩ = some (.int .i32 xp.v) := fun q => (HS.out.below (hF q)).row.get hxp
          have cq : ∀ q, (F q).cell? ⟨g, a, none⟩ = some (.int .i32 xq.v) := fun q => (HS.out.below (hF q)).row.get hxq
          have tp : ((i : Nat) : Int) < (n : Int) := by omega
          have tq : ((a : Nat) : Int) < (n : Int) := by omega
          have HXP : Hid (zl[i]? = some xp ∧ zl[a]? = some xq) := ⟨hxp, hxq⟩
          clear hxp hxq
          go_upto_region 3 with fail
          refine region_class F (by kernel_rfl) (by kernel_rfl) (by obtain ⟨x, hx⟩ := HO.out _ (Below.refl _ _).drew; exact ⟨x, hx.symm⟩) ?_
          repeat (go_big_quiet_step (first | (go_at_call 97; with_reducible refine (less_any xp.v xq.v _).mono ?_; rintro e z5 ⟨rfl, rfl⟩; exact ⟨rfl, HO.out _ (HF.out _)⟩)))
          clear cp cq
          refine wpQuiet_nil ?_
          rintro _ ⟨nq, rfl⟩
          obtain ⟨z0, hz0⟩ : ∃ z, F nq = z := ⟨_, rfl⟩
          have hzb : Below wr.heap.size wr z0 := hz0 ▸ HF.out nq
          have SZ := hidI' (HS.out.below hzb)
          rw [hz0]
          clear hz0 hzb HF HO HS hF onto
          by_cases hlt : xp.v < xq.v
          · rw [show decide (xp.v < xq.v) = true from decide_eq_true hlt]
            go_wp2
            go_roundg (b - (i + 1))
            case measure => omega
            case rel => exact ⟨i + 1, rfl, by go_num, by omega, by omega, by omega, SZ.out.up HXP.out.1 HXP.out.2 (by omega)⟩
          · rw [show decide (xp.v < xq.v) = false from decide_eq_false hlt]
            go_wp2_with fail
            go_meet
            exact ⟨i, rfl, hai, hib, hi0, SZ.out, fun _ => by rw [arr_get HXP.out.1, arr_get HXP.out.2]; exact ltI_not (by omega)⟩
        · have hgd' : ¬ (i : Int) ≤ (b1' : Int) := by omega
          go_upto_region 3 with fail
          refine region_class F (by kernel_rfl) (by kernel_rfl) (by obtain ⟨x, hx⟩ := HO.out _ (Below.refl _ _).drew; exact ⟨x, hx.symm⟩) ?_
          repeat (go_big_quiet_step (fail))
          refine wpQuiet_nil ?_
          rintro _ ⟨nq, rfl⟩
          obtain ⟨z0, hz0⟩ : ∃ z, F nq = z := ⟨_, rfl⟩
          have hzb : Below wr.heap.size wr z0 := hz0 ▸ HF.out nq
          have SZ := hidI' (HS.out.below hzb)
          rw [hz0]
          clear hz0 hzb HF HO HS hF onto
          go_wp2_with fail
          go_meet
          exact ⟨i, rfl, hai, hib, hi0, SZ.out, fun h => by omega⟩
    case rest =>
      obtain ⟨i, rfl, hai, hib, hi0, hS, hst⟩ := hcut
      clear HS
      have HS : Hid (Pq B g n c a b w xs wc zl i b1') := hS
      have HTI : Hid (i ≤ b1' → ltI (arr zl)[i]! (arr zl)[a]! = false) := hst
      clear hS hst
      go_upto_block 2 with fail
      go_cut [11] (fun s wc => ∃ j : Nat, s = .int .i64 (j : Int) ∧ a ≤ j ∧ j + 1 ≤ b ∧ j ≤ b1' ∧ Pq B g n c a b w xs wc zl i j ∧ (i ≤ j → ltI (arr zl)[j]! (arr zl)[a]! = true))
      case first =>
        go_wp2_with fail
        go_loopg [11] (b1') (fun gk s wr => ∃ j : Nat, gk = j ∧ s = .int .i64 (j : Int) ∧ a ≤ j ∧ j + 1 ≤ b ∧ j ≤ b1' ∧ Pq B g n c a b w xs wr zl i j)
        case atStart => exact ⟨b1', rfl, rfl, by omega, by omega, by omega, HS.out⟩
        case round =>
          obtain ⟨j, hgk, rfl, haj, hjb, hj0, hS⟩ := hrel
          clear HS
          have HS : Hid (Pq B g n c a b w xs wr zl i j) := hS
          clear hS
          have kj2 : IntKind.i64.wrap ((j : Int) - 1) = (j : Int) - 1 := IntWalk.i64_in _ ⟨by omega, by omega⟩
          obtain ⟨X, F, hX, hF, onto⟩ := class_of (fun v => Below wr.heap.size wr v) (Below.refl _ wr)
          have HF : Hid (∀ y, Below wr.heap.size wr (F y)) := hF
          have HO : Hid (∀ v, Below wr.heap.size wr v → ∃ x, v = F x) := fun v h => by obtain ⟨x, hx⟩ := onto v h; exact ⟨x, hx.symm⟩
          by_cases hgd : i ≤ j
          · have hgd' : (i : Int) ≤ (j : Int) := by omega
            obtain ⟨xp, hxp⟩ := HS.out.at (i := j) (by omega)
            obtain ⟨xq, hxq⟩ := HS.out.at (i := a) (by omega)
            have cp : ∀ q, (F q).cell? ⟨g, j, none⟩ = some (.int .i32 xp.v) := fun q => (HS.out.below (hF q)).row.get hxp
            have cq : ∀ q, (F q).cell? ⟨g, a, none⟩ = some (.int .i32 xq.v) := fun q => (HS.out.below (hF q)).row.get hxq
            have tp : ((j : Nat) : Int) < (n : Int) := by omega
            have tq : ((a : Nat) : Int) < (n : Int) := by omega
            have HXP : Hid (zl[j]? = some xp ∧ zl[a]? = some xq) := ⟨hxp, hxq⟩
            clear hxp hxq
            go_upto_region 5 with fail
            refine region_class F (by kernel_rfl) (by kernel_rfl) (by obtain ⟨x, hx⟩ := HO.out _ (Below.refl _ _).drew; exact ⟨x, hx.symm⟩) ?_
            repeat (go_big_quiet_step (first | (go_at_call 97; with_reducible refine (less_any xp.v xq.v _).mono ?_; rintro e z5 ⟨rfl, rfl⟩; exact ⟨rfl, HO.out _ (HF.out _)⟩)))
            clear cp cq
            refine wpQuiet_nil ?_
            rintro _ ⟨nq, rfl⟩
            obtain ⟨z0, hz0⟩ : ∃ z, F nq = z := ⟨_, rfl⟩
            have hzb : Below wr.heap.size wr z0 := hz0 ▸ HF.out nq
            have SZ := hidI' (HS.out.below hzb)
            rw [hz0]
            clear hz0 hzb HF HO HS hF onto
            by_cases hlt : xp.v < xq.v
            · rw [show decide (xp.v < xq.v) = true from decide_eq_true hlt]
              go_wp2_with fail
              go_meet
              exact ⟨j, rfl, haj, hjb, hj0, SZ.out, fun _ => by rw [arr_get HXP.out.1, arr_get HXP.out.2]; exact ltI_of (by omega)⟩
            · rw [show decide (xp.v < xq.v) = false from decide_eq_false hlt]
              go_wp2
              go_roundg (j - 1)
              case measure => omega
              case rel => exact ⟨j - 1, rfl, by (have : ((j - 1 : Nat) : Int) = (j : Int) - 1 := by omega); rw [this], by omega, by omega, by omega, SZ.out.down HXP.out.1 HXP.out.2 (by omega)⟩
          · have hgd' : ¬ (i : Int) ≤ (j : Int) := by omega
            go_upto_region 5 with fail
            refine region_class F (by kernel_rfl) (by kernel_rfl) (by obtain ⟨x, hx⟩ := HO.out _ (Below.refl _ _).drew; exact ⟨x, hx.symm⟩) ?_
            repeat (go_big_quiet_step (fail))
            refine wpQuiet_nil ?_
            rintro _ ⟨nq, rfl⟩
            obtain ⟨z0, hz0⟩ : ∃ z, F nq = z := ⟨_, rfl⟩
            have hzb : Below wr.heap.size wr z0 := hz0 ▸ HF.out nq
            have SZ := hidI' (HS.out.below hzb)
            rw [hz0]
            clear hz0 hzb HF HO HS hF onto
            go_wp2_with fail
            go_meet
            exact ⟨j, rfl, haj, hjb, hj0, SZ.out, fun h => by omega⟩
      case rest =>
        obtain ⟨j, rfl, haj, hjb, hj0, hS, hst⟩ := hcut
        clear HS
        have HS : Hid (Pq B g n c a b w xs wc zl i j) := hS
        have HTJ : Hid (i ≤ j → ltI (arr zl)[j]! (arr zl)[a]! = true) := hst
        clear hS hst
        by_cases hgt : j < i
        · have hgt' : (j : Int) < (i : Int) := by omega
          go_upto_region 8 with fail
          go_cut [] (fun wc => ∃ ys, Pe B g n c a b w xs wc ys j)
          case first =>
            obtain ⟨xi, hxi⟩ := HS.out.at (i := j) (by omega)
            obtain ⟨xj, hxj⟩ := HS.out.at (i := a) (by omega)
            have HX : Hid (zl[j]? = some xi ∧ zl[a]? = some xj) := ⟨hxi, hxj⟩
            have ti : ((j : Nat) : Int) < (n : Int) := by omega
            have tj : ((a : Nat) : Int) < (n : Int) := by omega
            have cx := HS.out.row.get hxi
            have cy := HS.out.row.get hxj
            have f1 := HS.out.row.free j
            have f2 := HS.out.row.free a
            clear hxi hxj
            by_cases hijq : a = j
            · subst hijq
              have hxx : xi = xj := by have h9 := HX.out; rw [h9.1] at h9; exact Option.some.inj h9.2
              subst hxx
              go_big_region
              go_wp2_with fail
              go_meet
              exact ⟨_, HS.out.fin HX.out.1 HX.out.2 (by omega) (by omega) (by omega) (by omega)⟩
            · have hne2 : a ≠ j := hijq
              have hne3 : j ≠ a := fun e => hijq e.symm
              go_big_region
              go_wp2_with fail
              go_meet
              exact ⟨_, HS.out.fin HX.out.1 HX.out.2 (by omega) (by omega) (by omega) (by omega)⟩
          case rest =>
            obtain ⟨zl, h8⟩ := hcut
            clear HS
            have HS : Hid (Pe B g n c a b w xs wc zl j) := h8
            clear h8
            go_wp2
            go_ret2
            first
              | exact ⟨j, true, rfl, by omega, zl, HS.out⟩
              | exact ⟨j, .inl rfl, by omega, zl, HS.out⟩
              | exact ⟨j, .inr rfl, by omega, zl, HS.out⟩
        · have hgt' : ¬ (j : Int) < (i : Int) := by omega
          obtain ⟨jm, hjm⟩ : ∃ jm : Nat, j - 1 = jm := ⟨_, rfl⟩
          have kj : IntKind.i64.wrap ((j : Int) - 1) = (jm : Int) := by rw [IntWalk.i64_in _ ⟨by omega, by omega⟩]; omega
          have hij : i < j := by
            have hne : i ≠ j := fun e => by
              subst e
              have h1 := HTI.out (by omega)
              have h2 := HTJ.out (by omega)
              rw [h1] at h2; cases h2
            omega
          have HL := hidI' (And.intro (HTI.out (by omega)) (HTJ.out (by omega)))
          go_upto_region 10 with fail
          go_cut [] (fun wc => ∃ ys, Pq B g n c a b w xs wc ys (i + 1) jm)
          case first =>
            obtain ⟨xi, hxi⟩ := HS.out.at (i := i) (by omega)
            obtain ⟨xj, hxj⟩ := HS.out.at (i := j) (by omega)
            have HX : Hid (zl[i]? = some xi ∧ zl[j]? = some xj) := ⟨hxi, hxj⟩
            have ti : ((i : Nat) : Int) < (n : Int) := by omega
            have tj : ((j : Nat) : Int) < (n : Int) := by omega
            have cx := HS.out.row.get hxi
            have cy := HS.out.row.get hxj
            have f1 := HS.out.row.free i
            have f2 := HS.out.row.free j
            clear hxi hxj
            have hne2 : j ≠ i := by omega
            have hne3 : i ≠ j := fun e => hne2 e.symm
            go_big_region
            go_wp2_with fail
            go_meet
            exact ⟨_, hjm ▸ HS.out.swap HX.out.1 HX.out.2 (by omega) hij (by omega) (by omega) HL.out.1 HL.out.2⟩
          case rest =>
            obtain ⟨zl, h8⟩ := hcut
            clear HS
            have HS : Hid (Pq B g n c a b w xs wc zl (i + 1) jm) := h8
            clear h8
            go_upto_block 4 with fail
            clear kj
            go_cut [10, 11] (fun si sj wc => ∃ i j : Nat, si = .int .i64 (i : Int) ∧ sj = .int .i64 (j : Int) ∧ a + 1 ≤ i ∧ i ≤ b ∧ a ≤ j ∧ j + 1 ≤ b ∧ j < i ∧ ∃ zs, Pq B g n c a b w xs wc zs i j)
            case first =>
              go_wp2_with fail
              go_loopg [10, 11] ((b - (i + 1)) + jm) (fun gk si sj wr => ∃ i j : Nat, gk = (b - i) + j ∧ si = .int .i64 (i : Int) ∧ sj = .int .i64 (j : Int) ∧ a + 1 ≤ i ∧ i ≤ b ∧ a ≤ j ∧ j + 1 ≤ b ∧ ∃ zs, Pq B g n c a b w xs wr zs i j)
              case atStart => exact ⟨i + 1, jm, rfl, by go_num, rfl, by omega, by omega, by omega, by omega, _, HS.out⟩
              case round =>
                obtain ⟨i2, j2, hgk2, rfl, rfl, hai2, hib2, haj2, hjb2, zl2, hS⟩ := hrel
                clear HS
                clear HL HTI HTJ
                clear zl
                obtain ⟨zl, rfl⟩ : ∃ zl, zl = zl2 := ⟨_, rfl⟩
                have HS : Hid (Pq B g n c a b w xs wr zl i2 j2) := hS
                clear hS
                go_upto_block 6 with fail
                go_cut [10] (fun s wc => ∃ i : Nat, s = .int .i64 (i : Int) ∧ a + 1 ≤ i ∧ i ≤ b ∧ i2 ≤ i ∧ Pq B g n c a b w xs wc zl i j2 ∧ (i ≤ j2 → ltI (arr zl)[i]! (arr zl)[a]! = false))
                case first =>
                  go_wp2_with fail
                  go_loopg [10] (b - (i2)) (fun gk s wr => ∃ i : Nat, gk = b - i ∧ s = .int .i64 (i : Int) ∧ a + 1 ≤ i ∧ i ≤ b ∧ i2 ≤ i ∧ Pq B g n c a b w xs wr zl i j2)
                  case atStart => exact ⟨i2, rfl, rfl, by omega, by omega, by omega, HS.out⟩
                  case round =>
                    obtain ⟨i, hgk, rfl, hai, hib, hi0, hS⟩ := hrel
                    clear HS
                    have HS : Hid (Pq B g n c a b w xs wr zl i j2) := hS
                    clear hS
                    obtain ⟨X, F, hX, hF, onto⟩ := class_of (fun v => Below wr.heap.size wr v) (Below.refl _ wr)
                    have HF : Hid (∀ y, Below wr.heap.size wr (F y)) := hF
                    have HO : Hid (∀ v, Below wr.heap.size wr v → ∃ x, v = F x) := fun v h => by obtain ⟨x, hx⟩ := onto v h; exact ⟨x, hx.symm⟩
                    by_cases hgd : i ≤ j2
                    · have hgd' : (i : Int) ≤ (j2 : Int) := by omega
                      obtain ⟨xp, hxp⟩ := HS.out.at (i := i) (by omega)
                      obtain ⟨xq, hxq⟩ := HS.out.at (i := a) (by omega)
                      have cp : ∀ q, (F q).cell? ⟨g, i, none⟩ = some (.int .i32 xp.v) := fun q => (HS.out.below (hF q)).row.get hxp
                      have cq : ∀ q, (F q).cell? ⟨g, a, none⟩ = some (.int .i32 xq.v) := fun q => (HS.out.below (hF q)).row.get hxq
                      have tp : ((i : Nat) : Int) < (n : Int) := by omega
                      have tq : ((a : Nat) : Int) < (n : Int) := by omega
                      have HXP : Hid (zl[i]? = some xp ∧ zl[a]? = some xq) := ⟨hxp, hxq⟩
                      clear hxp hxq
                      go_upto_region 13 with fail
                      refine region_class F (by kernel_rfl) (by kernel_rfl) (by obtain ⟨x, hx⟩ := HO.out _ (Below.refl _ _).drew; exact ⟨x, hx.symm⟩) ?_
                      repeat (go_big_quiet_step (first | (go_at_call 97; with_reducible refine (less_any xp.v xq.v _).mono ?_; rintro e z5 ⟨rfl, rfl⟩; exact ⟨rfl, HO.out _ (HF.out _)⟩)))
                      clear cp cq
                      refine wpQuiet_nil ?_
                      rintro _ ⟨nq, rfl⟩
                      obtain ⟨z0, hz0⟩ : ∃ z, F nq = z := ⟨_, rfl⟩
                      have hzb : Below wr.heap.size wr z0 := hz0 ▸ HF.out nq
                      have SZ := hidI' (HS.out.below hzb)
                      rw [hz0]
                      clear hz0 hzb HF HO HS hF onto
                      by_cases hlt : xp.v < xq.v
                      · rw [show decide (xp.v < xq.v) = true from decide_eq_true hlt]
                        go_wp2
                        go_roundg (b - (i + 1))
                        case measure => omega
                        case rel => exact ⟨i + 1, rfl, by go_num, by omega, by omega, by omega, SZ.out.up HXP.out.1 HXP.out.2 (by omega)⟩
                      · rw [show decide (xp.v < xq.v) = false from decide_eq_false hlt]
                        go_wp2_with fail
                        go_meet
                        exact ⟨i, rfl, hai, hib, hi0, SZ.out, fun _ => by rw [arr_get HXP.out.1, arr_get HXP.out.2]; exact ltI_not (by omega)⟩
                    · have hgd' : ¬ (i : Int) ≤ (j2 : Int) := by omega
                      go_upto_region 13 with fail
                      refine region_class F (by kernel_rfl) (by kernel_rfl) (by obtain ⟨x, hx⟩ := HO.out _ (Below.refl _ _).drew; exact ⟨x, hx.symm⟩) ?_
                      repeat (go_big_quiet_step (fail))
                      refine wpQuiet_nil ?_
                      rintro _ ⟨nq, rfl⟩
                      obtain ⟨z0, hz0⟩ : ∃ z, F nq = z := ⟨_, rfl⟩
                      have hzb : Below wr.heap.size wr z0 := hz0 ▸ HF.out nq
                      have SZ := hidI' (HS.out.below hzb)
                      rw [hz0]
                      clear hz0 hzb HF HO HS hF onto
                      go_wp2_with fail
                      go_meet
                      exact ⟨i, rfl, hai, hib, hi0, SZ.out, fun h => by omega⟩
                case rest =>
                  obtain ⟨i, rfl, hai, hib, hi0, hS, hst⟩ := hcut
                  clear HS
                  have HS : Hid (Pq B g n c a b w xs wc zl i j2) := hS
                  have HTI : Hid (i ≤ j2 → ltI (arr zl)[i]! (arr zl)[a]! = false) := hst
                  clear hS hst
                  go_upto_block 8 with fail
                  go_cut [11] (fun s wc => ∃ j : Nat, s = .int .i64 (j : Int) ∧ a ≤ j ∧ j + 1 ≤ b ∧ j ≤ j2 ∧ Pq B g n c a b w xs wc zl i j ∧ (i ≤ j → ltI (arr zl)[j]! (arr zl)[a]! = true))
                  case first =>
                    go_wp2_with fail
                    go_loopg [11] (j2) (fun gk s wr => ∃ j : Nat, gk = j ∧ s = .int .i64 (j : Int) ∧ a ≤ j ∧ j + 1 ≤ b ∧ j ≤ j2 ∧ Pq B g n c a b w xs wr zl i j)
                    case atStart => exact ⟨j2, rfl, rfl, by omega, by omega, by omega, HS.out⟩
                    case round =>
                      obtain ⟨j, hgk, rfl, haj, hjb, hj0, hS⟩ := hrel
                      clear HS
                      have HS : Hid (Pq B g n c a b w xs wr zl i j) := hS
                      clear hS
                      have kj2 : IntKind.i64.wrap ((j : Int) - 1) = (j : Int) - 1 := IntWalk.i64_in _ ⟨by omega, by omega⟩
                      obtain ⟨X, F, hX, hF, onto⟩ := class_of (fun v => Below wr.heap.size wr v) (Below.refl _ wr)
                      have HF : Hid (∀ y, Below wr.heap.size wr (F y)) := hF
                      have HO : Hid (∀ v, Below wr.heap.size wr v → ∃ x, v = F x) := fun v h => by obtain ⟨x, hx⟩ := onto v h; exact ⟨x, hx.symm⟩
                      by_cases hgd : i ≤ j
                      · have hgd' : (i : Int) ≤ (j : Int) := by omega
                        obtain ⟨xp, hxp⟩ := HS.out.at (i := j) (by omega)
                        obtain ⟨xq, hxq⟩ := HS.out.at (i := a) (by omega)
                        have cp : ∀ q, (F q).cell? ⟨g, j, none⟩ = some (.int .i32 xp.v) := fun q => (HS.out.below (hF q)).row.get hxp
                        have cq : ∀ q, (F q).cell? ⟨g, a, none⟩ = some (.int .i32 xq.v) := fun q => (HS.out.below (hF q)).row.get hxq
                        have tp : ((j : Nat) : Int) < (n : Int) := by omega
                        have tq : ((a : Nat) : Int) < (n : Int) := by omega
                        have HXP : Hid (zl[j]? = some xp ∧ zl[a]? = some xq) := ⟨hxp, hxq⟩
                        clear hxp hxq
                        go_upto_region 15 with fail
                        refine region_class F (by kernel_rfl) (by kernel_rfl) (by obtain ⟨x, hx⟩ := HO.out _ (Below.refl _ _).drew; exact ⟨x, hx.symm⟩) ?_
                        repeat (go_big_quiet_step (first | (go_at_call 97; with_reducible refine (less_any xp.v xq.v _).mono ?_; rintro e z5 ⟨rfl, rfl⟩; exact ⟨rfl, HO.out _ (HF.out _)⟩)))
                        clear cp cq
                        refine wpQuiet_nil ?_
                        rintro _ ⟨nq, rfl⟩
                        obtain ⟨z0, hz0⟩ : ∃ z, F nq = z := ⟨_, rfl⟩
                        have hzb : Below wr.heap.size wr z0 := hz0 ▸ HF.out nq
                        have SZ := hidI' (HS.out.below hzb)
                        rw [hz0]
                        clear hz0 hzb HF HO HS hF onto
                        by_cases hlt : xp.v < xq.v
                        · rw [show decide (xp.v < xq.v) = true from decide_eq_true hlt]
                          go_wp2_with fail
                          go_meet
                          exact ⟨j, rfl, haj, hjb, hj0, SZ.out, fun _ => by rw [arr_get HXP.out.1, arr_get HXP.out.2]; exact ltI_of (by omega)⟩
                        · rw [show decide (xp.v < xq.v) = false from decide_eq_false hlt]
                          go_wp2
                          go_roundg (j - 1)
                          case measure => omega
                          case rel => exact ⟨j - 1, rfl, by (have : ((j - 1 : Nat) : Int) = (j : Int) - 1 := by omega); rw [this], by omega, by omega, by omega, SZ.out.down HXP.out.1 HXP.out.2 (by omega)⟩
                      · have hgd' : ¬ (i : Int) ≤ (j : Int) := by omega
                        go_upto_region 15 with fail
                        refine region_class F (by kernel_rfl) (by kernel_rfl) (by obtain ⟨x, hx⟩ := HO.out _ (Below.refl _ _).drew; exact ⟨x, hx.symm⟩) ?_
                        repeat (go_big_quiet_step (fail))
                        refine wpQuiet_nil ?_
                        rintro _ ⟨nq, rfl⟩
                        obtain ⟨z0, hz0⟩ : ∃ z, F nq = z := ⟨_, rfl⟩
                        have hzb : Below wr.heap.size wr z0 := hz0 ▸ HF.out nq
                        have SZ := hidI' (HS.out.below hzb)
                        rw [hz0]
                        clear hz0 hzb HF HO HS hF onto
                        go_wp2_with fail
                        go_meet
                        exact ⟨j, rfl, haj, hjb, hj0, SZ.out, fun h => by omega⟩
                  case rest =>
                    obtain ⟨j, rfl, haj, hjb, hj0, hS, hst⟩ := hcut
                    clear HS
                    have HS : Hid (Pq B g n c a b w xs wc zl i j) := hS
                    have HTJ : Hid (i ≤ j → ltI (arr zl)[j]! (arr zl)[a]! = true) := hst
                    clear hS hst
                    by_cases hgt : j < i
                    · have hgt' : (j : Int) < (i : Int) := by omega
                      go_wp2_with fail
                      go_meet
                      exact ⟨i, j, rfl, rfl, hai, hib, haj, hjb, hgt, zl, HS.out⟩
                    · have hgt' : ¬ (j : Int) < (i : Int) := by omega
                      obtain ⟨jm, hjm⟩ : ∃ jm : Nat, j - 1 = jm := ⟨_, rfl⟩
                      have kj : IntKind.i64.wrap ((j : Int) - 1) = (jm : Int) := by rw [IntWalk.i64_in _ ⟨by omega, by omega⟩]; omega
                      have hij : i < j := by
                        have hne : i ≠ j := fun e => by
                          subst e
                          have h1 := HTI.out (by omega)
                          have h2 := HTJ.out (by omega)
                          rw [h1] at h2; cases h2
                        omega
                      have HL := hidI' (And.intro (HTI.out (by omega)) (HTJ.out (by omega)))
                      go_upto_region 18 with fail
                      go_cut [] (fun wc => ∃ ys, Pq B g n c a b w xs wc ys (i + 1) jm)
                      case first =>
                        obtain ⟨xi, hxi⟩ := HS.out.at (i := i) (by omega)
                        obtain ⟨xj, hxj⟩ := HS.out.at (i := j) (by omega)
                        have HX : Hid (zl[i]? = some xi ∧ zl[j]? = some xj) := ⟨hxi, hxj⟩
                        have ti : ((i : Nat) : Int) < (n : Int) := by omega
                        have tj : ((j : Nat) : Int) < (n : Int) := by omega
                        have cx := HS.out.row.get hxi
                        have cy := HS.out.row.get hxj
                        have f1 := HS.out.row.free i
                        have f2 := HS.out.row.free j
                        clear hxi hxj
                        have hne2 : j ≠ i := by omega
                        have hne3 : i ≠ j := fun e => hne2 e.symm
                        go_big_region
                        go_wp2_with fail
                        go_meet
                        exact ⟨_, hjm ▸ HS.out.swap HX.out.1 HX.out.2 (by omega) hij (by omega) (by omega) HL.out.1 HL.out.2⟩
                      case rest =>
                        obtain ⟨zl, h8⟩ := hcut
                        clear HS
                        have HS : Hid (Pq B g n c a b w xs wc zl (i + 1) jm) := h8
                        clear h8
                        go_wp2
                        go_roundg ((b - (i + 1)) + jm)
                        case measure => omega
                        case rel => exact ⟨i + 1, jm, rfl, by go_num, rfl, by omega, by omega, by omega, by omega, _, HS.out⟩
            case rest =>
              obtain ⟨i, j, rfl, rfl, hai, hib, haj, hjb, hji, zs, hS⟩ := hcut
              clear HS
              clear HL HTI HTJ
              clear zl
              obtain ⟨zl, rfl⟩ : ∃ zl, zl = zs := ⟨_, rfl⟩
              have HS : Hid (Pq B g n c a b w xs wc zl i j) := hS
              clear hS
              go_upto_region 21 with fail
              go_cut [] (fun wc => ∃ ys, Pe B g n c a b w xs wc ys j)
              case first =>
                obtain ⟨xi, hxi⟩ := HS.out.at (i := j) (by omega)
                obtain ⟨xj, hxj⟩ := HS.out.at (i := a) (by omega)
                have HX : Hid (zl[j]? = some xi ∧ zl[a]? = some xj) := ⟨hxi, hxj⟩
                have ti : ((j : Nat) : Int) < (n : Int) := by omega
                have tj : ((a : Nat) : Int) < (n : Int) := by omega
                have cx := HS.out.row.get hxi
                have cy := HS.out.row.get hxj
                have f1 := HS.out.row.free j
                have f2 := HS.out.row.free a
                clear hxi hxj
                by_cases hijq : a = j
                · subst hijq
                  have hxx : xi = xj := by have h9 := HX.out; rw [h9.1] at h9; exact Option.some.inj h9.2
                  subst hxx
                  go_big_region
                  go_wp2_with fail
                  go_meet
                  exact ⟨_, HS.out.fin HX.out.1 HX.out.2 (by omega) (by omega) (by omega) (by omega)⟩
                · have hne2 : a ≠ j := hijq
                  have hne3 : j ≠ a := fun e => hijq e.symm
                  go_big_region
                  go_wp2_with fail
                  go_meet
                  exact ⟨_, HS.out.fin HX.out.1 HX.out.2 (by omega) (by omega) (by omega) (by omega)⟩
              case rest =>
                obtain ⟨zl, h8⟩ := hcut
                clear HS
                have HS : Hid (Pe B g n c a b w xs wc zl j) := h8
                clear h8
                go_wp2
                go_ret2
                first
                  | exact ⟨j, false, rfl, by omega, zl, HS.out⟩
                  | exact ⟨j, .inl rfl, by omega, zl, HS.out⟩
                  | exact ⟨j, .inr rfl, by omega, zl, HS.out⟩
end Go.Proofs.YtgijcbipnjmhgabGreat
