import Derived.Test.YtgijcbipnjmhgabGreatSq9
import Derived.Test.YtgijcbipnjmhgabGreatSr7
namespace Go.Proofs.YtgijcbipnjmhgabGreat
open Go.ChangeShapes Go.WideShapes Go.ChangeAt Go.RowKit
set_option linter.unusedVariables false
set_option linter.unusedSimpArgs false

set_option maxRecDepth 1000000 in
set_option maxHeartbeats 2000000 in
theorem revS_any (B g n c a b : Nat) (xs : List Hn) (w : World) (h : Row B 21 g n c w xs) (hab : a < b) (hb : b ≤ n) (hn : n ≤ 70368744177664) :
    Calls Tryz.prog 95 #[.slice (some ⟨g, 0, none⟩) n c, .int .i64 (a : Int), .int .i64 (b : Int)] w fun e w' => (∃ x, e = .returned x) ∧ ∃ ys, Go.Sort.PermIn a b (arr xs) (arr ys) ∧ Row B 21 g n c w' ys ∧ One g w w' := by
  have HR : Hid (Row B 21 g n c w xs) := h
  clear h
  obtain ⟨b1, hb1⟩ : ∃ b1 : Nat, b - 1 = b1 := ⟨_, rfl⟩
  have k1 : IntKind.i64.wrap ((b : Int) - 1) = (b1 : Int) := by rw [IntWalk.i64_in _ ⟨by omega, by omega⟩]; omega
  go_enter Tryz.func95, Tryz.ntmps95
  go_wp2
  clear k1
  go_loopg [6, 7] b (fun gk si sj wr => ∃ (i j : Nat) (zs : List Hn), gk = j + 1 ∧ j + 1 ≤ b ∧ si = .int .i64 (i : Int) ∧ (i ≤ n ∧ a ≤ i) ∧ sj = .int .i64 (j : Int) ∧ Go.Sort.PermIn a b (arr xs) (arr zs) ∧ Row B 21 g n c wr zs ∧ One g w wr)
  case atStart => exact ⟨a, b1, xs, by omega, by omega, rfl, by omega, rfl, Go.Sort.permIn_refl _ _ _, HR.out, One.refl _ _⟩
  case round =>
    obtain ⟨i, j, zs, hgk, hj, rfl, hi, rfl, hp, hR, hO⟩ := hrel
    clear HR
    have HR : Hid (Row B 21 g n c wr zs) := hR
    have HP : Hid (Go.Sort.PermIn a b (arr xs) (arr zs)) := hp
    have HO1 : Hid (One g w wr) := hO
    have hzl := hR.len
    clear hR hp hO
    by_cases hij : i < j
    · have hij' : (i : Int) < (j : Int) := by omega
      obtain ⟨j1, hj1⟩ : ∃ j1 : Nat, j - 1 = j1 := ⟨_, rfl⟩
      have kj : IntKind.i64.wrap ((j : Int) - 1) = (j1 : Int) := by rw [IntWalk.i64_in _ ⟨by omega, by omega⟩]; omega
      have b0 : (i : Int) < (n : Int) := by omega
      have b1 : (j : Int) < (n : Int) := by omega
      obtain ⟨x, hx⟩ : ∃ x, zs[i]? = some x := ⟨_, List.getElem?_eq_getElem (by omega)⟩
      obtain ⟨y, hy⟩ : ∃ y, zs[j]? = some y := ⟨_, List.getElem?_eq_getElem (by omega)⟩
      have HX : Hid (zs[i]? = some x ∧ zs[j]? = some y) := ⟨hx, hy⟩
      have cx := HR.out.get hx
      have cy := HR.out.get hy
      have f1 := HR.out.free i
      have f2 := HR.out.free j
      have hne : j ≠ i := by omega
      have hne' : i ≠ j := by omega
      clear hx hy hzl
      go_upto_region 3 with fail
      go_big_region
      obtain ⟨z2, hz2⟩ : ∃ z, ((wr.setCell ⟨g, i, none⟩ (.int .i32 y.v)).setCell ⟨g, j, none⟩ (.int .i32 x.v)).drew = z := ⟨_, rfl⟩
      rw [hz2]
      have R2 : Hid (Row B 21 g n c z2 (swp zs i j x y)) := by unfold Hid; rw [← hz2]; exact ((HR.out.set i y).set j x).below (Below.refl _ _).drew
      have O2 : Hid (One g w z2) := by unfold Hid; rw [← hz2]; exact ((HO1.out.trans (One.set g i _ _)).trans (One.set g j _ _)).trans (One.of (Below.refl _ _).drew (by have := HR.out.lt; simp; omega))
      have P2 : Hid (Go.Sort.PermIn a b (arr xs) (arr (swp zs i j x y))) := by unfold Hid; rw [arr_swp HX.out.1 HX.out.2]; exact Go.Sort.permIn_trans _ _ _ _ _ HP.out (Go.Sort.swp_permIn _ _ _ _ _ (by omega) (by omega) (by omega) (by omega) (by rw [arr_size, HR.out.len]; exact hb))
      have HJ : Hid (j - 1 = j1) := hj1
      clear hz2 cx cy f1 f2 hj1
      go_wp2
      go_roundg (j1 + 1)
      case measure => have := HJ.out; omega
      case rel => exact ⟨i + 1, j1, _, rfl, by have := HJ.out; omega, by go_num, by omega, rfl, P2.out, R2.out, O2.out⟩
    · have hij' : ¬ (i : Int) < (j : Int) := by omega
      go_wp2
      go_end0
      exact ⟨⟨_, rfl⟩, zs, HP.out, HR.out, HO1.out⟩
end Go.Proofs.YtgijcbipnjmhgabGreat

namespace Go.Proofs.YtgijcbipnjmhgabGreat
open Go.ChangeShapes Go.WideShapes Go.ChangeAt Go.RowKit
set_option linter.unusedVariables false
set_option linter.unusedSimpArgs false

/-- in the midst of partitionEqual: ahead of i nothing is greater than the pivot, which lies at a, behind j all is -/
structure Pf (B g n c a b p : Nat) (w : World) (xs : List Hn) (z : World) (zs : List Hn) (i j : Nat) : Prop extends Si B g n c a b w xs z zs where
  pv : (arr zs)[a]! = (arr xs)[p]!
  lo : ∀ k, a < k → k < i → ltI (arr zs)[a]! (arr zs)[k]! = false
  hi : ∀ k, j < k → k < b → ltI (arr zs)[a]! (arr zs)[k]! = true
theorem Pf.below {B g n c a b p i j : Nat} {w z z' : World} {xs zs : List Hn} (h : Pf B g n c a b p w xs z zs i j) (hb : Below z.heap.size z z') : Pf B g n c a b p w xs z' zs i j := ⟨h.toSi.below hb, h.pv, h.lo, h.hi⟩
theorem Pf.at {B g n c a b p' p q : Nat} {w z : World} {xs zs : List Hn} (h : Pf B g n c a b p' w xs z zs p q) {i : Nat} (hi : i < n) : ∃ x, zs[i]? = some x := h.toSi.at hi
theorem Pf.first {B g n c a b p j : Nat} {w : World} {xs : List Hn} (h : Si B g n c a b w xs w xs) {x y : Hn} (hi : xs[a]? = some x) (hj : xs[p]? = some y) (h2 : a ≤ p ∧ p < b) (hb : b ≤ n) (hj1 : b ≤ j + 1) : Pf B g n c a b p w xs ((w.setCell ⟨g, a, none⟩ (.int .i32 y.v)).setCell ⟨g, p, none⟩ (.int .i32 x.v)).drew (swp xs a p x y) (a + 1) j := by
  refine ⟨h.swap hi hj ⟨Nat.le_refl _, by omega⟩ h2 hb, ?_, fun k h1 h2 => by omega, fun k h1 h2 => by omega⟩
  rw [swp_at hi hj, arr_get hj]
  by_cases e : a = p
  · subst e; rw [if_pos rfl]; rw [hi] at hj; cases hj; rfl
  · rw [if_neg e, if_pos rfl]
theorem Pf.up {B g n c a b p i j : Nat} {w z : World} {xs zs : List Hn} (h : Pf B g n c a b p w xs z zs i j) {x y : Hn} (hy : zs[a]? = some y) (hx : zs[i]? = some x) (hl : ¬ y.v < x.v) : Pf B g n c a b p w xs z zs (i + 1) j :=
  ⟨h.toSi, h.pv, fun k h1 h2 => by
    by_cases e : k = i
    · subst e; rw [arr_get hx, arr_get hy]; exact ltI_not hl
    · exact h.lo k h1 (by omega), h.hi⟩
theorem Pf.down {B g n c a b p i j : Nat} {w z : World} {xs zs : List Hn} (h : Pf B g n c a b p w xs z zs i j) {x y : Hn} (hy : zs[a]? = some y) (hx : zs[j]? = some x) (hl : y.v < x.v) : Pf B g n c a b p w xs z zs i (j - 1) :=
  ⟨h.toSi, h.pv, h.lo, fun k h1 h2 => by
    by_cases e : k = j
    · subst e; rw [arr_get hx, arr_get hy]; exact ltI_of hl
    · exact h.hi k (by omega) h2⟩
theorem Pf.swap {B g n c a b p i j : Nat} {w z : World} {xs zs : List Hn} (h : Pf B g n c a b p w xs z zs i j) {x y : Hn} (hx : zs[i]? = some x) (hy : zs[j]? = some y) (h1 : a < i) (h2 : i < j) (h3 : j < b) (hb : b ≤ n) (l1 : ltI (arr zs)[a]! (arr zs)[i]! = true) (l2 : ltI (arr zs)[a]! (arr zs)[j]! = false) : Pf B g n c a b p w xs ((z.setCell ⟨g, i, none⟩ (.int .i32 y.v)).setCell ⟨g, j, none⟩ (.int .i32 x.v)).drew (swp zs i j x y) (i + 1) (j - 1) := by
  have ea : (arr (swp zs i j x y))[a]! = (arr zs)[a]! := by rw [swp_at hx hy, if_neg (by omega), if_neg (by omega)]
  rw [arr_get hx] at l1
  rw [arr_get hy] at l2
  refine ⟨h.toSi.swap hx hy ⟨by omega, by omega⟩ ⟨by omega, h3⟩ hb, ea.trans h.pv, fun k k1 k2 => ?_, fun k k1 k2 => ?_⟩
  · rw [ea, swp_at hx hy, if_neg (by omega)]
    by_cases e : k = i
    · rw [if_pos e]; exact l2
    · rw [if_neg e]; exact h.lo k k1 (by omega)
  · rw [ea, swp_at hx hy]
    by_cases e : k = j
    · rw [if_pos e]; exact l1
    · rw [if_neg e, if_neg (by omega)]; exact h.hi k (by omega) k2
/-- .. at its end -/
structure Pg (B g n c a b p : Nat) (w : World) (xs : List Hn) (z : World) (zs : List Hn) (i : Nat) : Prop extends Si B g n c a b w xs z zs where
  lo : ∀ k, a ≤ k → k < i → ltI (arr xs)[p]! (arr zs)[k]! = false
  hi : ∀ k, i ≤ k → k < b → ltI (arr xs)[p]! (arr zs)[k]! = true
theorem Pf.fin {B g n c a b p i j : Nat} {w z : World} {xs zs : List Hn} (h : Pf B g n c a b p w xs z zs i j) (h2 : j < i) : Pg B g n c a b p w xs z zs i :=
  ⟨h.toSi, fun k k1 k2 => by
    rw [← h.pv]
    by_cases e : k = a
    · subst e; exact ltI_not (by omega)
    · exact h.lo k (by omega) k2, fun k k1 k2 => by rw [← h.pv]; exact h.hi k (by omega) k2⟩

set_option maxRecDepth 1000000 in
set_option maxHeartbeats 8000000 in
theorem peqS_any (B g n c a b p : Nat) (xs : List Hn) (w : World) (h : Row B 21 g n c w xs) (hap : a ≤ p) (hpb : p < b) (hb : b ≤ n) (hn : n ≤ 70368744177664) :
    Calls Tryz.prog 98 #[.slice (some ⟨g, 0, none⟩) n c, .int .i64 (a : Int), .int .i64 (b : Int), .int .i64 (p : Int)] w fun e w' => ∃ i : Nat, e = .returned (.int .i64 (i : Int)) ∧ (a + 1 ≤ i ∧ i ≤ b) ∧ ∃ ys, Pg B g n c a b p w xs w' ys i := by
  have HS0 : Hid (Si B g n c a b w xs w xs) := Si.first h
  obtain ⟨b1', hb1⟩ : ∃ b1 : Nat, b - 1 = b1 := ⟨_, rfl⟩
  have k1 : IntKind.i64.wrap ((b : Int) - 1) = (b1' : Int) := by rw [IntWalk.i64_in _ ⟨by omega, by omega⟩]; omega
  clear h
  go_enter Tryz.func98, Tryz.ntmps98
  go_upto_region 1 with fail
  go_cut [] (fun wc => ∃ ys, Pf B g n c a b p w xs wc ys (a + 1) b1')
  case first =>
    obtain ⟨xi, hxi⟩ := HS0.out.at (i := a) (by omega)
    obtain ⟨xj, hxj⟩ := HS0.out.at (i := p) (by omega)
    have HX : Hid (xs[a]? = some xi ∧ xs[p]? = some xj) := ⟨hxi, hxj⟩
    have ti : ((a : Nat) : Int) < (n : Int) := by omega
    have tj : ((p : Nat) : Int) < (n : Int) := by omega
    have cx := HS0.out.row.get hxi
    have cy := HS0.out.row.get hxj
    have f1 := HS0.out.row.free a
    have f2 := HS0.out.row.free p
    clear hxi hxj
    by_cases hijq : p = a
    · subst hijq
      have hxx : xi = xj := by have h9 := HX.out; rw [h9.1] at h9; exact Option.some.inj h9.2
      subst hxx
      go_big_region
      go_wp2_with fail
      go_meet
      exact ⟨_, Pf.first HS0.out HX.out.1 HX.out.2 (by omega) (by omega) (by omega)⟩
    · have hne2 : p ≠ a := hijq
      have hne3 : a ≠ p := fun e => hijq e.symm
      go_big_region
      go_wp2_with fail
      go_meet
      exact ⟨_, Pf.first HS0.out HX.out.1 HX.out.2 (by omega) (by omega) (by omega)⟩
  case rest =>
    obtain ⟨zl, h8⟩ := hcut
    clear HS0
    have HS : Hid (Pf B g n c a b p w xs wc zl (a + 1) b1') := h8
    clear h8
    go_wp2_with fail
    clear k1
    go_loopg [9, 10] ((b - (a + 1)) + b1') (fun gk si sj wr => ∃ i j : Nat, gk = (b - i) + j ∧ si = .int .i64 (i : Int) ∧ sj = .int .i64 (j : Int) ∧ a + 1 ≤ i ∧ i ≤ b ∧ a ≤ j ∧ j + 1 ≤ b ∧ ∃ zs, Pf B g n c a b p w xs wr zs i j)
    case atStart => exact ⟨a + 1, b1', rfl, by go_num, rfl, by omega, by omega, by omega, by omega, _, HS.out⟩
    case round =>
      obtain ⟨i2, j2, hgk2, rfl, rfl, hai2, hib2, haj2, hjb2, zl2, hS⟩ := hrel
      clear HS
      clear zl
      obtain ⟨zl, rfl⟩ : ∃ zl, zl = zl2 := ⟨_, rfl⟩
      have HS : Hid (Pf B g n c a b p w xs wr zl i2 j2) := hS
      clear hS
      go_upto_block 2 with fail
      go_cut [9] (fun s wc => ∃ i : Nat, s = .int .i64 (i : Int) ∧ a + 1 ≤ i ∧ i ≤ b ∧ i2 ≤ i ∧ Pf B g n c a b p w xs wc zl i j2 ∧ (i ≤ j2 → ltI (arr zl)[a]! (arr zl)[i]! = true))
      case first =>
        go_wp2_with fail
        go_loopg [9] (b - (i2)) (fun gk s wr => ∃ i : Nat, gk = b - i ∧ s = .int .i64 (i : Int) ∧ a + 1 ≤ i ∧ i ≤ b ∧ i2 ≤ i ∧ Pf B g n c a b p w xs wr zl i j2)
        case atStart => exact ⟨i2, rfl, rfl, by omega, by omega, by omega, HS.out⟩
        case round =>
          obtain ⟨i, hgk, rfl, hai, hib, hi0, hS⟩ := hrel
          clear HS
          have HS : Hid (Pf B g n c a b p w xs wr zl i j2) := hS
          clear hS
          obtain ⟨X, F, hX, hF, onto⟩ := class_of (fun v => Below wr.heap.size wr v) (Below.refl _ wr)
          have HF : Hid (∀ y, Below wr.heap.size wr (F y)) := hF
          have HO : Hid (∀ v, Below wr.heap.size wr v → ∃ x, v = F x) := fun v h => by obtain ⟨x, hx⟩ := onto v h; exact ⟨x, hx.symm⟩
          by_cases hgd : i ≤ j2
          · have hgd' : (i : Int) ≤ (j2 : Int) := by omega
            obtain ⟨xp, hxp⟩ := HS.out.at (i := a) (by omega)
            obtain ⟨xq, hxq⟩ := HS.out.at (i := i) (by omega)
            have cp : ∀ q, (F q).cell? ⟨g, a, none⟩ = some (.int .i32 xp.v) := fun q => (HS.out.below (hF q)).row.get hxp
            have cq : ∀ q, (F q).cell? ⟨g, i, none⟩ = some (.int .i32 xq.v) := fun q => (HS.out.below (hF q)).row.get hxq
            have tp : ((a : Nat) : Int) < (n : Int) := by omega
            have tq : ((i : Nat) : Int) < (n : Int) := by omega
            have HXP : Hid (zl[a]? = some xp ∧ zl[i]? = some xq) := ⟨hxp, hxq⟩
            clear hxp hxq
            go_upto_region 3 with fail
            refine region_class F (by kernel_rfl) (by kernel_rfl) (by obtain ⟨x, hx⟩ := HO.out _ (Below.refl _ _).drew; exact ⟨x, hx.symm⟩) ?_
            repeat (go_big_quiet_step (first | (go_at_call 97; with_reducible refine (less_any xp.v xq.v _).mono ?_; rintro e z5 ⟨rfl, rfl⟩; exact ⟨rfl, HO.out _ (HF.out _)⟩)))
            clear cp cq
            refine wpQuiet_nil ?_
            rintro _ ⟨nq, rfl⟩
            obtain ⟨z0, hz0⟩ : ∃ z, F nq = z := ⟨_, rfl⟩
            have hzb : Below wr.heap.size wr z0 := hz0 ▸ HF.out nq
            have SZ := hidI' (HS.out.below hzb)
            rw [hz0]
            clear hz0 hzb HF HO HS hF onto
            by_cases hlt : xp.v < xq.v
            · rw [show decide (xp.v < xq.v) = true from decide_eq_true hlt]
              go_wp2_with fail
              go_meet
              exact ⟨i, rfl, hai, hib, hi0, SZ.out, fun _ => by rw [arr_get HXP.out.1, arr_get HXP.out.2]; exact ltI_of (by omega)⟩
            · rw [show decide (xp.v < xq.v) = false from decide_eq_false hlt]
              go_wp2
              go_roundg (b - (i + 1))
              case measure => omega
              case rel => exact ⟨i + 1, rfl, by go_num, by omega, by omega, by omega, SZ.out.up HXP.out.1 HXP.out.2 (by omega)⟩
          · have hgd' : ¬ (i : Int) ≤ (j2 : Int) := by omega
            go_upto_region 3 with fail
            refine region_class F (by kernel_rfl) (by kernel_rfl) (by obtain ⟨x, hx⟩ := HO.out _ (Below.refl _ _).drew; exact ⟨x, hx.symm⟩) ?_
            repeat (go_big_quiet_step (fail))
            refine wpQuiet_nil ?_
            rintro _ ⟨nq, rfl⟩
            obtain ⟨z0, hz0⟩ : ∃ z, F nq = z := ⟨_, rfl⟩
            have hzb : Below wr.heap.size wr z0 := hz0 ▸ HF.out nq
            have SZ := hidI' (HS.out.below hzb)
            rw [hz0]
            clear hz0 hzb HF HO HS hF onto
            go_wp2_with fail
            go_meet
            exact ⟨i, rfl, hai, hib, hi0, SZ.out, fun h => by omega⟩
      case rest =>
        obtain ⟨i, rfl, hai, hib, hi0, hS, hst⟩ := hcut
        clear HS
        have HS : Hid (Pf B g n c a b p w xs wc zl i j2) := hS
        have HTI : Hid (i ≤ j2 → ltI (arr zl)[a]! (arr zl)[i]! = true) := hst
        clear hS hst
        go_upto_block 4 with fail
        go_cut [10] (fun s wc => ∃ j : Nat, s = .int .i64 (j : Int) ∧ a ≤ j ∧ j + 1 ≤ b ∧ j ≤ j2 ∧ Pf B g n c a b p w xs wc zl i j ∧ (i ≤ j → ltI (arr zl)[a]! (arr zl)[j]! = false))
        case first =>
          go_wp2_with fail
          go_loopg [10] (j2) (fun gk s wr => ∃ j : Nat, gk = j ∧ s = .int .i64 (j : Int) ∧ a ≤ j ∧ j + 1 ≤ b ∧ j ≤ j2 ∧ Pf B g n c a b p w xs wr zl i j)
          case atStart => exact ⟨j2, rfl, rfl, by omega, by omega, by omega, HS.out⟩
          case round =>
            obtain ⟨j, hgk, rfl, haj, hjb, hj0, hS⟩ := hrel
            clear HS
            have HS : Hid (Pf B g n c a b p w xs wr zl i j) := hS
            clear hS
            have kj2 : IntKind.i64.wrap ((j : Int) - 1) = (j : Int) - 1 := IntWalk.i64_in _ ⟨by omega, by omega⟩
            obtain ⟨X, F, hX, hF, onto⟩ := class_of (fun v => Below wr.heap.size wr v) (Below.refl _ wr)
            have HF : Hid (∀ y, Below wr.heap.size wr (F y)) := hF
            have HO : Hid (∀ v, Below wr.heap.size wr v → ∃ x, v = F x) := fun v h => by obtain ⟨x, hx⟩ := onto v h; exact ⟨x, hx.symm⟩
            by_cases hgd : i ≤ j
            · have hgd' : (i : Int) ≤ (j : Int) := by omega
              obtain ⟨xp, hxp⟩ := HS.out.at (i := a) (by omega)
              obtain ⟨xq, hxq⟩ := HS.out.at (i := j) (by omega)
              have cp : ∀ q, (F q).cell? ⟨g, a, none⟩ = some (.int .i32 xp.v) := fun q => (HS.out.below (hF q)).row.get hxp
              have cq : ∀ q, (F q).cell? ⟨g, j, none⟩ = some (.int .i32 xq.v) := fun q => (HS.out.below (hF q)).row.get hxq
              have tp : ((a : Nat) : Int) < (n : Int) := by omega
              have tq : ((j : Nat) : Int) < (n : Int) := by omega
              have HXP : Hid (zl[a]? = some xp ∧ zl[j]? = some xq) := ⟨hxp, hxq⟩
              clear hxp hxq
              go_upto_region 5 with fail
              refine region_class F (by kernel_rfl) (by kernel_rfl) (by obtain ⟨x, hx⟩ := HO.out _ (Below.refl _ _).drew; exact ⟨x, hx.symm⟩) ?_
              repeat (go_big_quiet_step (first | (go_at_call 97; with_reducible refine (less_any xp.v xq.v _).mono ?_; rintro e z5 ⟨rfl, rfl⟩; exact ⟨rfl, HO.out _ (HF.out _)⟩)))
              clear cp cq
              refine wpQuiet_nil ?_
              rintro _ ⟨nq, rfl⟩
              obtain ⟨z0, hz0⟩ : ∃ z, F nq = z := ⟨_, rfl⟩
              have hzb : Below wr.heap.size wr z0 := hz0 ▸ HF.out nq
              have SZ := hidI' (HS.out.below hzb)
              rw [hz0]
              clear hz0 hzb HF HO HS hF onto
              by_cases hlt : xp.v < xq.v
              · rw [show decide (xp.v < xq.v) = true from decide_eq_true hlt]
                go_wp2
                go_roundg (j - 1)
                case measure => omega
                case rel => exact ⟨j - 1, rfl, by (have : ((j - 1 : Nat) : Int) = (j : Int) - 1 := by omega); rw [this], by omega, by omega, by omega, SZ.out.down HXP.out.1 HXP.out.2 (by omega)⟩
              · rw [show decide (xp.v < xq.v) = false from decide_eq_false hlt]
                go_wp2_with fail
                go_meet
                exact ⟨j, rfl, haj, hjb, hj0, SZ.out, fun _ => by rw [arr_get HXP.out.1, arr_get HXP.out.2]; exact ltI_not (by omega)⟩
            · have hgd' : ¬ (i : Int) ≤ (j : Int) := by omega
              go_upto_region 5 with fail
              refine region_class F (by kernel_rfl) (by kernel_rfl) (by obtain ⟨x, hx⟩ := HO.out _ (Below.refl _ _).drew; exact ⟨x, hx.symm⟩) ?_
              repeat (go_big_quiet_step (fail))
              refine wpQuiet_nil ?_
              rintro _ ⟨nq, rfl⟩
              obtain ⟨z0, hz0⟩ : ∃ z, F nq = z := ⟨_, rfl⟩
              have hzb : Below wr.heap.size wr z0 := hz0 ▸ HF.out nq
              have SZ := hidI' (HS.out.below hzb)
              rw [hz0]
              clear hz0 hzb HF HO HS hF onto
              go_wp2_with fail
              go_meet
              exact ⟨j, rfl, haj, hjb, hj0, SZ.out, fun h => by omega⟩
        case rest =>
          obtain ⟨j, rfl, haj, hjb, hj0, hS, hst⟩ := hcut
          clear HS
          have HS : Hid (Pf B g n c a b p w xs wc zl i j) := hS
          have HTJ : Hid (i ≤ j → ltI (arr zl)[a]! (arr zl)[j]! = false) := hst
          clear hS hst
          by_cases hgt : j < i
          · have hgt' : (j : Int) < (i : Int) := by omega
            go_wp2
            go_ret
            first
              | exact ⟨i, rfl, by omega, zl, HS.out.fin hgt⟩
              | exact ⟨⟨i, rfl, by omega⟩, zl, HS.out.fin hgt⟩
          · have hgt' : ¬ (j : Int) < (i : Int) := by omega
            obtain ⟨jm, hjm⟩ : ∃ jm : Nat, j - 1 = jm := ⟨_, rfl⟩
            have kj : IntKind.i64.wrap ((j : Int) - 1) = (jm : Int) := by rw [IntWalk.i64_in _ ⟨by omega, by omega⟩]; omega
            have hij : i < j := by
              have hne : i ≠ j := fun e => by
                subst e
                have h1 := HTI.out (by omega)
                have h2 := HTJ.out (by omega)
                rw [h1] at h2; cases h2
              omega
            have HL := hidI' (And.intro (HTI.out (by omega)) (HTJ.out (by omega)))
            go_upto_region 8 with fail
            go_cut [] (fun wc => ∃ ys, Pf B g n c a b p w xs wc ys (i + 1) jm)
            case first =>
              obtain ⟨xi, hxi⟩ := HS.out.at (i := i) (by omega)
              obtain ⟨xj, hxj⟩ := HS.out.at (i := j) (by omega)
              have HX : Hid (zl[i]? = some xi ∧ zl[j]? = some xj) := ⟨hxi, hxj⟩
              have ti : ((i : Nat) : Int) < (n : Int) := by omega
              have tj : ((j : Nat) : Int) < (n : Int) := by omega
              have cx := HS.out.row.get hxi
              have cy := HS.out.row.get hxj
              have f1 := HS.out.row.free i
              have f2 := HS.out.row.free j
              clear hxi hxj
              have hne2 : j ≠ i := by omega
              have hne3 : i ≠ j := fun e => hne2 e.symm
              go_big_region
              go_wp2_with fail
              go_meet
              exact ⟨_, hjm ▸ HS.out.swap HX.out.1 HX.out.2 (by omega) hij (by omega) (by omega) HL.out.1 HL.out.2⟩
            case rest =>
              obtain ⟨zl, h8⟩ := hcut
              clear HS
              have HS : Hid (Pf B g n c a b p w xs wc zl (i + 1) jm) := h8
              clear h8
              go_wp2
              go_roundg ((b - (i + 1)) + jm)
              case measure => omega
              case rel => exact ⟨i + 1, jm, rfl, by go_num, rfl, by omega, by omega, by omega, by omega, _, HS.out⟩
end Go.Proofs.YtgijcbipnjmhgabGreat
