import Derived.Test.YtgijcbipnjmhgabGreatSr5
namespace Go.Proofs.YtgijcbipnjmhgabGreat
open Go.ChangeShapes Go.WideShapes Go.ChangeAt Go.RowKit
set_option linter.unusedVariables false
set_option linter.unusedSimpArgs false

set_option maxRecDepth 1000000 in
set_option maxHeartbeats 4000000 in
theorem heap_any (B g n c a b : Nat) (xs : List Hn) (w : World) (h : Row B 21 g n c w xs) (hab : a ≤ b) (hb : b ≤ n) (hn : n ≤ 70368744177664) :
    Calls Tryz.prog 92 #[.slice (some ⟨g, 0, none⟩) n c, .int .i64 (a : Int), .int .i64 (b : Int)] w fun e w' => (∃ x, e = .returned x) ∧ ∃ ys, ys.Perm xs ∧ Row B 21 g n c w' ys ∧ One g w w' := by
  have HR : Hid (Row B 21 g n c w xs) := h
  clear h
  obtain ⟨m, hm⟩ : ∃ m : Nat, b - a = m := ⟨_, rfl⟩
  obtain ⟨q, hq⟩ : ∃ q : Nat, (m - 1) / 2 = q := ⟨_, rfl⟩
  have k1 : IntKind.i64.wrap ((b : Int) - (a : Int)) = (m : Int) := by rw [IntWalk.i64_in _ ⟨by omega, by omega⟩]; omega
  obtain ⟨m1, hm1⟩ : ∃ m1 : Int, (m : Int) - 1 = m1 := ⟨_, rfl⟩
  have k2 : IntKind.i64.wrap ((m : Int) - 1) = m1 := by rw [IntWalk.i64_in _ ⟨by omega, by omega⟩]; omega
  have k3 : IntKind.i64.wrap (m1.tdiv 2) = (q : Int) := by
    have hd : m1.tdiv 2 = (q : Int) := by
      by_cases h0 : m = 0
      · have e1 : m1 = -1 := by omega
        have e2 : q = 0 := by omega
        rw [e1, e2]; decide
      · rw [Int.tdiv_eq_ediv_of_nonneg (by omega)]; omega
    rw [hd, IntWalk.i64_in _ ⟨by omega, by omega⟩]
  go_enter Tryz.func92, Tryz.ntmps92
  go_wp2
  have ham : a + m ≤ n := by omega
  have hmn : m ≤ n := by omega
  have hqn : q ≤ n := by omega
  have HMQ : Hid (b - a = m ∧ (m - 1) / 2 = q ∧ (m : Int) - 1 = m1) := ⟨hm, hq, hm1⟩
  clear k1 k2 k3 hm hq
  go_loopg [9] (q + 1) (fun gk si wr => ∃ (k : Nat) (s : Int) (zs : List Hn), gk = k ∧ k ≤ q + 1 ∧ s = (k : Int) - 1 ∧ si = .int .i64 s ∧ zs.Perm xs ∧ Row B 21 g n c wr zs ∧ One g w wr)
  case atStart => exact ⟨q + 1, (q : Int), xs, rfl, Nat.le_refl _, by omega, rfl, List.Perm.refl _, HR.out, One.refl _ _⟩
  case round =>
    obtain ⟨k, s, zs, hgk, hk, hs, rfl, hp, hR, hO⟩ := hrel
    clear HR
    have HR : Hid (Row B 21 g n c wr zs) := hR
    have HP : Hid (zs.Perm xs) := hp
    have HO1 : Hid (One g w wr) := hO
    clear hR hp hO
    by_cases hk0 : 0 < k
    · obtain ⟨r, rfl⟩ : ∃ r : Nat, s = (r : Int) := ⟨k - 1, by omega⟩
      have h0 : (0 : Int) ≤ (r : Int) := by omega
      have hrn : r ≤ n := by omega
      have km : IntKind.i64.wrap ((r : Int) - 1) = (r : Int) - 1 := IntWalk.i64_in _ ⟨by omega, by omega⟩
      have HKR : Hid (k = r + 1) := by unfold Hid; omega
      clear hs hk0
      go_wp2_with (go_at_call 105; (with_reducible refine (sift_any B g n c r m a zs _ HR.out ham hrn hn).mono ?_); rintro e z1 ⟨⟨x, rfl⟩, ys, hp1, hr1, ho1⟩; have R1 : Hid (Row B 21 g n c z1 ys) := hr1; have P1 : Hid (ys.Perm xs) := hp1.trans HP.out; have O1 : Hid (One g w z1) := HO1.out.trans ho1; clear hp1 hr1 ho1)
      go_roundg r
      case measure => have := HKR.out; omega
      case rel => exact ⟨r, (r : Int) - 1, ys, rfl, by have := HKR.out; omega, rfl, rfl, P1.out, R1.out, O1.out⟩
    · have hs1 : s = -1 := by omega
      subst hs1
      clear hs hk0 hk hgk
      have k2 : IntKind.i64.wrap ((m : Int) - 1) = m1 := by rw [HMQ.out.2.2]; exact IntWalk.i64_in _ ⟨by omega, by omega⟩
      go_wp2
      clear k2
      go_loopg [10] m (fun gk si wr => ∃ (k : Nat) (s : Int) (zs : List Hn), gk = k ∧ k ≤ m ∧ s = (k : Int) - 1 ∧ si = .int .i64 s ∧ zs.Perm xs ∧ Row B 21 g n c wr zs ∧ One g w wr)
      case atStart => exact ⟨m, m1, zs, rfl, Nat.le_refl _, HMQ.out.2.2.symm, rfl, HP.out, HR.out, HO1.out⟩
      case round =>
        obtain ⟨k, s, zs, hgk, hk, hs, rfl, hp, hR, hO⟩ := hrel
        clear HR HP HO1
        have HR : Hid (Row B 21 g n c wr zs) := hR
        have HP : Hid (zs.Perm xs) := hp
        have HO1 : Hid (One g w wr) := hO
        have hzl := hR.len
        clear hR hp hO
        by_cases hk0 : 0 < k
        · obtain ⟨r, rfl⟩ : ∃ r : Nat, s = (r : Int) := ⟨k - 1, by omega⟩
          have h0 : (0 : Int) ≤ (r : Int) := by omega
          have km : IntKind.i64.wrap ((r : Int) - 1) = (r : Int) - 1 := IntWalk.i64_in _ ⟨by omega, by omega⟩
          have HKR : Hid (k = r + 1) := by unfold Hid; omega
          obtain ⟨p, hpp⟩ : ∃ p : Nat, a + r = p := ⟨_, rfl⟩
          have ka : IntKind.i64.wrap ((a : Int) + (r : Int)) = (p : Int) := by rw [IntWalk.i64_in _ ⟨by omega, by omega⟩]; omega
          have b0 : (a : Int) < (n : Int) := by omega
          have b1 : (p : Int) < (n : Int) := by omega
          obtain ⟨x, hx⟩ : ∃ x, zs[a]? = some x := ⟨_, List.getElem?_eq_getElem (by omega)⟩
          obtain ⟨y, hy⟩ : ∃ y, zs[p]? = some y := ⟨_, List.getElem?_eq_getElem (by omega)⟩
          have HX : Hid (zs[a]? = some x ∧ zs[p]? = some y) := ⟨hx, hy⟩
          have hsub : r ≤ m := by omega
          have hsf : a + r ≤ n := by omega
          have KEY : Hid (∀ z, Row B 21 g n c z (swp zs a p x y) → One g w z → Calls Tryz.prog 105 #[.slice (some ⟨g, 0, none⟩) n c, .int .i64 0, .int .i64 (r : Int), .int .i64 (a : Int)] z fun e w' => (∃ x, e = .returned x) ∧ ∃ ys, ys.Perm xs ∧ Row B 21 g n c w' ys ∧ One g w w') := fun z hz ho => (sift_any B g n c 0 r a _ z hz hsf (by omega) hn).mono (by
            rintro e w' ⟨he, ys, h1, h2, h3⟩
            exact ⟨he, ys, (h1.trans (swp_perm hx hy)).trans HP.out, h2, ho.trans h3⟩)
          have HPA : Hid (a + r = p) := hpp
          clear hs hk0 hx hy hzl hpp
          by_cases hr0 : p = a
          · subst hr0
            have hxy : x = y := by have := HX.out; rw [this.1] at this; exact Option.some.inj this.2
            subst hxy
            have cx := HR.out.get HX.out.1
            have f1 := HR.out.free p
            go_upto_region 10 with fail
            go_big_region
            obtain ⟨z2, hz2⟩ : ∃ z, ((wr.setCell ⟨g, p, none⟩ (.int .i32 x.v)).setCell ⟨g, p, none⟩ (.int .i32 x.v)).drew = z := ⟨_, rfl⟩
            rw [hz2]
            have R2 : Hid (Row B 21 g n c z2 (swp zs p p x x)) := by unfold Hid; rw [← hz2]; exact ((HR.out.set p x).set p x).below (Below.refl _ _).drew
            have O2 : Hid (One g w z2) := by unfold Hid; rw [← hz2]; exact ((HO1.out.trans (One.set g p _ _)).trans (One.set g p _ _)).trans (One.of (Below.refl _ _).drew (by have := HR.out.lt; simp; omega))
            clear hz2 cx f1
            go_wp2_with (go_at_call 105; (with_reducible refine (KEY.out _ R2.out O2.out).mono ?_); rintro e z3 ⟨⟨x, rfl⟩, ys, hp1, hr1, ho1⟩; have R3 : Hid (Row B 21 g n c z3 ys) := hr1; have P3 : Hid (ys.Perm xs) := hp1; have O3 : Hid (One g w z3) := ho1; clear hp1 hr1 ho1)
            go_roundg r
            case measure => have := HKR.out; omega
            case rel => exact ⟨r, (r : Int) - 1, ys, rfl, by omega, rfl, rfl, P3.out, R3.out, O3.out⟩
          · have hne : p ≠ a := hr0
            have hne' : a ≠ p := fun e => hr0 e.symm
            have cx := HR.out.get HX.out.1
            have cy := HR.out.get HX.out.2
            have f1 := HR.out.free a
            have f2 := HR.out.free p
            go_upto_region 10 with fail
            go_big_region
            obtain ⟨z2, hz2⟩ : ∃ z, ((wr.setCell ⟨g, a, none⟩ (.int .i32 y.v)).setCell ⟨g, p, none⟩ (.int .i32 x.v)).drew = z := ⟨_, rfl⟩
            rw [hz2]
            have R2 : Hid (Row B 21 g n c z2 (swp zs a p x y)) := by unfold Hid; rw [← hz2]; exact ((HR.out.set a y).set p x).below (Below.refl _ _).drew
            have O2 : Hid (One g w z2) := by unfold Hid; rw [← hz2]; exact ((HO1.out.trans (One.set g a _ _)).trans (One.set g p _ _)).trans (One.of (Below.refl _ _).drew (by have := HR.out.lt; simp; omega))
            clear hz2 cx cy f1 f2
            go_wp2_with (go_at_call 105; (with_reducible refine (KEY.out _ R2.out O2.out).mono ?_); rintro e z3 ⟨⟨x, rfl⟩, ys, hp1, hr1, ho1⟩; have R3 : Hid (Row B 21 g n c z3 ys) := hr1; have P3 : Hid (ys.Perm xs) := hp1; have O3 : Hid (One g w z3) := ho1; clear hp1 hr1 ho1)
            go_roundg r
            case measure => have := HKR.out; omega
            case rel => exact ⟨r, (r : Int) - 1, ys, rfl, by omega, rfl, rfl, P3.out, R3.out, O3.out⟩
        · have hs1 : s = -1 := by omega
          subst hs1
          clear hs hk0 hk hgk
          go_wp2
          go_end0
          exact ⟨⟨_, rfl⟩, zs, HP.out, HR.out, HO1.out⟩
end Go.Proofs.YtgijcbipnjmhgabGreat

namespace Go.Proofs.YtgijcbipnjmhgabGreat
open Go.ChangeShapes Go.WideShapes Go.ChangeAt Go.RowKit
set_option linter.unusedVariables false
set_option linter.unusedSimpArgs false

set_option maxRecDepth 1000000 in
set_option maxHeartbeats 2000000 in
theorem rev_any (B g n c a b : Nat) (xs : List Hn) (w : World) (h : Row B 21 g n c w xs) (hab : a < b) (hb : b ≤ n) (hn : n ≤ 70368744177664) :
    Calls Tryz.prog 95 #[.slice (some ⟨g, 0, none⟩) n c, .int .i64 (a : Int), .int .i64 (b : Int)] w fun e w' => (∃ x, e = .returned x) ∧ ∃ ys, ys.Perm xs ∧ Row B 21 g n c w' ys ∧ One g w w' := by
  have HR : Hid (Row B 21 g n c w xs) := h
  clear h
  obtain ⟨b1, hb1⟩ : ∃ b1 : Nat, b - 1 = b1 := ⟨_, rfl⟩
  have k1 : IntKind.i64.wrap ((b : Int) - 1) = (b1 : Int) := by rw [IntWalk.i64_in _ ⟨by omega, by omega⟩]; omega
  go_enter Tryz.func95, Tryz.ntmps95
  go_wp2
  clear k1
  go_loopg [6, 7] b (fun gk si sj wr => ∃ (i j : Nat) (zs : List Hn), gk = j + 1 ∧ j + 1 ≤ b ∧ si = .int .i64 (i : Int) ∧ i ≤ n ∧ sj = .int .i64 (j : Int) ∧ zs.Perm xs ∧ Row B 21 g n c wr zs ∧ One g w wr)
  case atStart => exact ⟨a, b1, xs, by omega, by omega, rfl, by omega, rfl, List.Perm.refl _, HR.out, One.refl _ _⟩
  case round =>
    obtain ⟨i, j, zs, hgk, hj, rfl, hi, rfl, hp, hR, hO⟩ := hrel
    clear HR
    have HR : Hid (Row B 21 g n c wr zs) := hR
    have HP : Hid (zs.Perm xs) := hp
    have HO1 : Hid (One g w wr) := hO
    have hzl := hR.len
    clear hR hp hO
    by_cases hij : i < j
    · have hij' : (i : Int) < (j : Int) := by omega
      obtain ⟨j1, hj1⟩ : ∃ j1 : Nat, j - 1 = j1 := ⟨_, rfl⟩
      have kj : IntKind.i64.wrap ((j : Int) - 1) = (j1 : Int) := by rw [IntWalk.i64_in _ ⟨by omega, by omega⟩]; omega
      have b0 : (i : Int) < (n : Int) := by omega
      have b1 : (j : Int) < (n : Int) := by omega
      obtain ⟨x, hx⟩ : ∃ x, zs[i]? = some x := ⟨_, List.getElem?_eq_getElem (by omega)⟩
      obtain ⟨y, hy⟩ : ∃ y, zs[j]? = some y := ⟨_, List.getElem?_eq_getElem (by omega)⟩
      have HX : Hid (zs[i]? = some x ∧ zs[j]? = some y) := ⟨hx, hy⟩
      have cx := HR.out.get hx
      have cy := HR.out.get hy
      have f1 := HR.out.free i
      have f2 := HR.out.free j
      have hne : j ≠ i := by omega
      have hne' : i ≠ j := by omega
      clear hx hy hzl
      go_upto_region 3 with fail
      go_big_region
      obtain ⟨z2, hz2⟩ : ∃ z, ((wr.setCell ⟨g, i, none⟩ (.int .i32 y.v)).setCell ⟨g, j, none⟩ (.int .i32 x.v)).drew = z := ⟨_, rfl⟩
      rw [hz2]
      have R2 : Hid (Row B 21 g n c z2 (swp zs i j x y)) := by unfold Hid; rw [← hz2]; exact ((HR.out.set i y).set j x).below (Below.refl _ _).drew
      have O2 : Hid (One g w z2) := by unfold Hid; rw [← hz2]; exact ((HO1.out.trans (One.set g i _ _)).trans (One.set g j _ _)).trans (One.of (Below.refl _ _).drew (by have := HR.out.lt; simp; omega))
      have P2 : Hid ((swp zs i j x y).Perm xs) := (swp_perm HX.out.1 HX.out.2).trans HP.out
      have HJ : Hid (j - 1 = j1) := hj1
      clear hz2 cx cy f1 f2 hj1
      go_wp2
      go_roundg (j1 + 1)
      case measure => have := HJ.out; omega
      case rel => exact ⟨i + 1, j1, _, rfl, by have := HJ.out; omega, by go_num, by omega, rfl, P2.out, R2.out, O2.out⟩
    · have hij' : ¬ (i : Int) < (j : Int) := by omega
      go_wp2
      go_end0
      exact ⟨⟨_, rfl⟩, zs, HP.out, HR.out, HO1.out⟩
end Go.Proofs.YtgijcbipnjmhgabGreat

namespace Go.Proofs.YtgijcbipnjmhgabGreat
open Go.ChangeShapes Go.WideShapes Go.ChangeAt Go.RowKit
set_option linter.unusedVariables false
set_option linter.unusedSimpArgs false

set_option maxRecDepth 1000000 in
set_option maxHeartbeats 2000000 in
theorem median_any (B g n c s m a b d lo hi : Nat) (xs : List Hn) (w : World) (h : Rc B 21 g n c s m w xs) (ha : lo ≤ a ∧ a < hi) (hb : lo ≤ b ∧ b < hi) (hd : lo ≤ d ∧ d < hi) (hh : hi ≤ n) (hm : m ≤ 900) (hn : n ≤ 70368744177664) :
    Calls Tryz.prog 107 #[.slice (some ⟨g, 0, none⟩) n c, .int .i64 (a : Int), .int .i64 (b : Int), .int .i64 (d : Int), .pointer (some ⟨s, 0, none⟩)] w fun e w' => ∃ (x k : Nat), e = .returned (.int .i64 (x : Int)) ∧ (lo ≤ x ∧ x < hi) ∧ k ≤ m + 3 ∧ Rc B 21 g n c s k w' xs ∧ One s w w' := by
  have HR : Hid (Rc B 21 g n c s m w xs) := h
  clear h
  go_enter Tryz.func107, Tryz.ntmps107
  go_wp2_with (first
    | (go_at_call 110; (with_reducible refine (order2_any B g n c s m a b xs _ HR.out (by omega) (by omega) (by omega) hn).mono ?_); rintro e w1 ⟨x1, y1, k1, rfl, h1, hk1, r1, o1⟩; have R1 : Hid (Rc B 21 g n c s k1 w1 xs) := r1; have O1 : Hid (One s w w1) := o1; have b1 : lo ≤ x1 ∧ x1 < hi ∧ lo ≤ y1 ∧ y1 < hi := (by rcases h1 with h1 | h1 <;> omega); clear r1 o1 h1)
    | (go_at_call 110; (with_reducible refine (order2_any B g n c s k1 y1 d xs _ R1.out (by omega) (by omega) (by omega) hn).mono ?_); rintro e w2 ⟨x2, y2, k2, rfl, h2, hk2, r2, o2⟩; have R2 : Hid (Rc B 21 g n c s k2 w2 xs) := r2; have O2 : Hid (One s w w2) := O1.out.trans o2; have b2 : lo ≤ x2 ∧ x2 < hi ∧ lo ≤ y2 ∧ y2 < hi := (by rcases h2 with h2 | h2 <;> omega); clear r2 o2 h2)
    | (go_at_call 110; (with_reducible refine (order2_any B g n c s k2 x1 x2 xs _ R2.out (by omega) (by omega) (by omega) hn).mono ?_); rintro e w3 ⟨x3, y3, k3, rfl, h3, hk3, r3, o3⟩; have R3 : Hid (Rc B 21 g n c s k3 w3 xs) := r3; have O3 : Hid (One s w w3) := O2.out.trans o3; have b3 : lo ≤ x3 ∧ x3 < hi ∧ lo ≤ y3 ∧ y3 < hi := (by rcases h3 with h3 | h3 <;> omega); clear r3 o3 h3))
  go_ret
  first
    | exact ⟨y3, k3, rfl, by omega, by omega, R3.out, O3.out⟩
    | exact ⟨y3, rfl, by omega, k3, by omega, R3.out, O3.out⟩
theorem medianAdj_any (B g n c s m a lo hi : Nat) (xs : List Hn) (w : World) (h : Rc B 21 g n c s m w xs) (ha : lo + 1 ≤ a ∧ a + 1 < hi) (hh : hi ≤ n) (hm : m ≤ 900) (hn : n ≤ 70368744177664) :
    Calls Tryz.prog 106 #[.slice (some ⟨g, 0, none⟩) n c, .int .i64 (a : Int), .pointer (some ⟨s, 0, none⟩)] w fun e w' => ∃ (x k : Nat), e = .returned (.int .i64 (x : Int)) ∧ (lo ≤ x ∧ x < hi) ∧ k ≤ m + 3 ∧ Rc B 21 g n c s k w' xs ∧ One s w w' := by
  have HR : Hid (Rc B 21 g n c s m w xs) := h
  clear h
  obtain ⟨p, hp⟩ : ∃ p : Nat, a - 1 = p := ⟨_, rfl⟩
  obtain ⟨q, hq⟩ : ∃ q : Nat, a + 1 = q := ⟨_, rfl⟩
  have k1 : IntKind.i64.wrap ((a : Int) - 1) = (p : Int) := by rw [IntWalk.i64_in _ ⟨by omega, by omega⟩]; omega
  have k2 : IntKind.i64.wrap ((a : Int) + 1) = (q : Int) := by rw [IntWalk.i64_in _ ⟨by omega, by omega⟩]; omega
  have MD : Hid (Calls Tryz.prog 107 #[.slice (some ⟨g, 0, none⟩) n c, .int .i64 (p : Int), .int .i64 (a : Int), .int .i64 (q : Int), .pointer (some ⟨s, 0, none⟩)] w fun e w' => ∃ (x k : Nat), e = .returned (.int .i64 (x : Int)) ∧ (lo ≤ x ∧ x < hi) ∧ k ≤ m + 3 ∧ Rc B 21 g n c s k w' xs ∧ One s w w') := median_any B g n c s m p a q lo hi xs w HR.out (by omega) (by omega) (by omega) hh hm hn
  clear hp hq
  go_enter Tryz.func106, Tryz.ntmps106
  go_wp2_with (go_at_call 107; (with_reducible refine MD.out.mono ?_); rintro e w1 ⟨x1, kk, rfl, hx1, hk1, r1, o1⟩; have R1 : Hid (Rc B 21 g n c s kk w1 xs) := r1; have O1 : Hid (One s w w1) := o1; clear r1 o1)
  go_ret
  first
    | exact ⟨x1, kk, rfl, hx1, hk1, R1.out, O1.out⟩
    | exact ⟨x1, rfl, hx1, kk, hk1, R1.out, O1.out⟩
end Go.Proofs.YtgijcbipnjmhgabGreat

namespace Go.Proofs.YtgijcbipnjmhgabGreat
open Go.ChangeShapes Go.WideShapes Go.ChangeAt Go.RowKit
set_option linter.unusedVariables false
set_option linter.unusedSimpArgs false

set_option maxRecDepth 1000000 in
set_option maxHeartbeats 2000000 in
theorem pivot_any (B g n c a b : Nat) (xs : List Hn) (w : World) (h : Row B 21 g n c w xs) (hab : a + 12 < b) (hb : b ≤ n) (hn : n ≤ 70368744177664) :
    Calls Tryz.prog 94 #[.slice (some ⟨g, 0, none⟩) n c, .int .i64 (a : Int), .int .i64 (b : Int)] w fun e w' => ∃ (x t : Nat), e = .returned (.tuple #[.int .i64 (x : Int), .int .i64 (t : Int)]) ∧ (a ≤ x ∧ x < b) ∧ t ≤ 2 ∧ Row B 21 g n c w' xs ∧ Below w.heap.size w w' := by
  obtain ⟨l, hl⟩ : ∃ l : Nat, b - a = l := ⟨_, rfl⟩
  obtain ⟨q, hq⟩ : ∃ q : Nat, l / 4 = q := ⟨_, rfl⟩
  obtain ⟨q2, hq2⟩ : ∃ q2 : Nat, q * 2 = q2 := ⟨_, rfl⟩
  obtain ⟨q3, hq3⟩ : ∃ q3 : Nat, q * 3 = q3 := ⟨_, rfl⟩
  obtain ⟨i0, hi0⟩ : ∃ i0 : Nat, a + q = i0 := ⟨_, rfl⟩
  obtain ⟨j0, hj0⟩ : ∃ j0 : Nat, a + q2 = j0 := ⟨_, rfl⟩
  obtain ⟨k0, hk0⟩ : ∃ k0 : Nat, a + q3 = k0 := ⟨_, rfl⟩
  have e1 : IntKind.i64.wrap ((b : Int) - (a : Int)) = (l : Int) := by rw [IntWalk.i64_in _ ⟨by omega, by omega⟩]; omega
  have e2 : IntKind.i64.wrap ((l : Int).tdiv 4) = (q : Int) := by
    rw [Int.tdiv_eq_ediv_of_nonneg (by omega), IntWalk.i64_in _ ⟨by omega, by omega⟩]; omega
  have e2' : IntKind.i64.wrap ((l : Int) / 4) = (q : Int) := by
    rw [IntWalk.i64_in _ ⟨by omega, by omega⟩]; omega
  have e3 : IntKind.i64.wrap ((q : Int) * 1) = (q : Int) := by rw [IntWalk.i64_in _ ⟨by omega, by omega⟩]; omega
  have e3' : IntKind.i64.wrap (q : Int) = (q : Int) := IntWalk.i64_in _ ⟨by omega, by omega⟩
  have e4 : IntKind.i64.wrap ((q : Int) * 2) = (q2 : Int) := by rw [IntWalk.i64_in _ ⟨by omega, by omega⟩]; omega
  have e5 : IntKind.i64.wrap ((q : Int) * 3) = (q3 : Int) := by rw [IntWalk.i64_in _ ⟨by omega, by omega⟩]; omega
  have e6 : IntKind.i64.wrap ((a : Int) + (q : Int)) = (i0 : Int) := by rw [IntWalk.i64_in _ ⟨by omega, by omega⟩]; omega
  have e7 : IntKind.i64.wrap ((a : Int) + (q2 : Int)) = (j0 : Int) := by rw [IntWalk.i64_in _ ⟨by omega, by omega⟩]; omega
  have e8 : IntKind.i64.wrap ((a : Int) + (q3 : Int)) = (k0 : Int) := by rw [IntWalk.i64_in _ ⟨by omega, by omega⟩]; omega
  have hb3 : (a + 1 ≤ i0 ∧ i0 + 1 < b) ∧ (a + 1 ≤ j0 ∧ j0 + 1 < b) ∧ (a + 1 ≤ k0 ∧ k0 + 1 < b) := by omega
  have h8 : (8 : Int) ≤ (l : Int) := by omega
  obtain ⟨w0, e0, hw0, hs0, B0⟩ := bx1 w #[.int .i64 0] 3
  obtain ⟨s, hs⟩ : ∃ s, w.heap.size = s := ⟨_, rfl⟩
  have HE0 : Hid (w.alloc (.cells #[.int .i64 0] 3) = w0) := e0
  have HW0 : Hid (Below w.heap.size w w0) := hw0
  have HR : Hid (Rc B 21 g n c s 0 w0 xs) := ⟨h.below hw0, hs ▸ B0, by have := h.lt; omega⟩
  have HL : Hid (b - a = l ∧ l / 4 = q ∧ q * 2 = q2 ∧ q * 3 = q3 ∧ a + q = i0 ∧ a + q2 = j0 ∧ a + q3 = k0) := ⟨hl, hq, hq2, hq3, hi0, hj0, hk0⟩
  clear h e0 hw0 hs0 B0 hl hq hq2 hq3 hi0 hj0 hk0
  go_enter Tryz.func94, Tryz.ntmps94
  go_upto_region 3 with fail
  rw [HE0.out]
  by_cases h50 : 50 ≤ l
  · have h50' : (50 : Int) ≤ (l : Int) := by omega
    go_wp2_with (first
      | (go_at_call 106; (with_reducible refine (medianAdj_any B g n c s 0 i0 a b xs _ HR.out (by omega) hb (by omega) hn).mono ?_); rintro e v1 ⟨x1, c1, rfl, hx1, hc1, r1, o1⟩; have R1 : Hid (Rc B 21 g n c s c1 v1 xs) := r1; have O1 : Hid (One s w0 v1) := o1; clear r1 o1)
      | (go_at_call 106; (with_reducible refine (medianAdj_any B g n c s c1 j0 a b xs _ R1.out (by omega) hb (by omega) hn).mono ?_); rintro e v2 ⟨x2, c2, rfl, hx2, hc2, r2, o2⟩; have R2 : Hid (Rc B 21 g n c s c2 v2 xs) := r2; have O2 : Hid (One s w0 v2) := O1.out.trans o2; clear r2 o2)
      | (go_at_call 106; (with_reducible refine (medianAdj_any B g n c s c2 k0 a b xs _ R2.out (by omega) hb (by omega) hn).mono ?_); rintro e v3 ⟨x3, c3, rfl, hx3, hc3, r3, o3⟩; have R3 : Hid (Rc B 21 g n c s c3 v3 xs) := r3; have O3 : Hid (One s w0 v3) := O2.out.trans o3; clear r3 o3)
      | (go_at_call 107; (with_reducible refine (median_any B g n c s c3 x1 x2 x3 a b xs _ R3.out (by omega) (by omega) (by omega) hb (by omega) hn).mono ?_); rintro e v4 ⟨x4, c4, rfl, hx4, hc4, r4, o4⟩; have R4 : Hid (Rc B 21 g n c s c4 v4 xs) := r4; have O4 : Hid (One s w0 v4) := O3.out.trans o4; have cs4 := r4.box.one; clear r4 o4))
    all_goals
      go_ret2
      have HB4 : Below w.heap.size w v4 := HW0.out.trans (O4.out.bel.mono (by omega))
      first
        | exact ⟨x4, 0, rfl, hx4, by decide, R4.out.row, HB4⟩
        | exact ⟨x4, 1, rfl, hx4, by decide, R4.out.row, HB4⟩
        | exact ⟨x4, 2, rfl, hx4, by decide, R4.out.row, HB4⟩
        | exact ⟨x4, rfl, hx4, 0, by decide, R4.out.row, HB4⟩
  · have h50' : ¬ (50 : Int) ≤ (l : Int) := by omega
    go_wp2_with (first
      | (go_at_call 107; (with_reducible refine (median_any B g n c s 0 i0 j0 k0 a b xs _ HR.out (by omega) (by omega) (by omega) hb (by omega) hn).mono ?_); rintro e v4 ⟨x4, c4, rfl, hx4, hc4, r4, o4⟩; have R4 : Hid (Rc B 21 g n c s c4 v4 xs) := r4; have O4 : Hid (One s w0 v4) := o4; have cs4 := r4.box.one; clear r4 o4))
    all_goals
      go_ret2
      have HB4 : Below w.heap.size w v4 := HW0.out.trans (O4.out.bel.mono (by omega))
      first
        | exact ⟨x4, 0, rfl, hx4, by decide, R4.out.row, HB4⟩
        | exact ⟨x4, 1, rfl, hx4, by decide, R4.out.row, HB4⟩
        | exact ⟨x4, 2, rfl, hx4, by decide, R4.out.row, HB4⟩
        | exact ⟨x4, rfl, hx4, 0, by decide, R4.out.row, HB4⟩
end Go.Proofs.YtgijcbipnjmhgabGreat
