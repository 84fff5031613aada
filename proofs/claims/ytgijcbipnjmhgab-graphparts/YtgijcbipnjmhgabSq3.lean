import Derived.Test.YtgijcbipnjmhgabSq2
import Derived.Test.YtgijcbipnjmhgabSr7
namespace Go.Proofs.Ytgijcbipnjmhgab
open Go.ChangeShapes Go.WideShapes Go.ChangeAt Go.RowKit
set_option linter.unusedVariables false
set_option linter.unusedSimpArgs false

set_option maxRecDepth 1000000 in
set_option maxHeartbeats 4000000 in
theorem heapS_any (B g n c a b : Nat) (xs : List Hn) (w : World) (h : Row B 21 g n c w xs) (hab : a ≤ b) (hb : b ≤ n) (hn : n ≤ 70368744177664) :
    Calls Try.prog 67 #[.slice (some ⟨g, 0, none⟩) n c, .int .i64 (a : Int), .int .i64 (b : Int)] w fun e w' => (∃ x, e = .returned x) ∧ ∃ ys, arr ys = Go.Sort.heapSort ltI (arr xs) a b ∧ Row B 21 g n c w' ys ∧ One g w w' := by
  have HR : Hid (Row B 21 g n c w xs) := h
  clear h
  obtain ⟨m, hm⟩ : ∃ m : Nat, b - a = m := ⟨_, rfl⟩
  obtain ⟨q, hq⟩ : ∃ q : Nat, (m - 1) / 2 = q := ⟨_, rfl⟩
  have k1 : IntKind.i64.wrap ((b : Int) - (a : Int)) = (m : Int) := by rw [IntWalk.i64_in _ ⟨by omega, by omega⟩]; omega
  obtain ⟨m1, hm1⟩ : ∃ m1 : Int, (m : Int) - 1 = m1 := ⟨_, rfl⟩
  have k2 : IntKind.i64.wrap ((m : Int) - 1) = m1 := by rw [IntWalk.i64_in _ ⟨by omega, by omega⟩]; omega
  have k3 : IntKind.i64.wrap (m1.tdiv 2) = (q : Int) := by
    have hd : m1.tdiv 2 = (q : Int) := by
      by_cases h0 : m = 0
      · have e1 : m1 = -1 := by omega
        have e2 : q = 0 := by omega
        rw [e1, e2]; decide
      · rw [Int.tdiv_eq_ediv_of_nonneg (by omega)]; omega
    rw [hd, IntWalk.i64_in _ ⟨by omega, by omega⟩]
  go_enter Try.func67, Try.ntmps67
  go_wp2
  have ham : a + m ≤ n := by omega
  have hmn : m ≤ n := by omega
  have hqn : q ≤ n := by omega
  have HMQ : Hid (b - a = m ∧ (m - 1) / 2 = q ∧ (m : Int) - 1 = m1) := ⟨hm, hq, hm1⟩
  clear k1 k2 k3 hm hq
  go_loopg [9] (q + 1) (fun gk si wr => ∃ (k : Nat) (s : Int) (zs : List Hn), gk = k ∧ k ≤ q + 1 ∧ s = (k : Int) - 1 ∧ si = .int .i64 s ∧ Go.Sort.heapPop ltI a m (Go.Sort.heapBuild ltI m a k (arr zs)) = Go.Sort.heapSort ltI (arr xs) a b ∧ Row B 21 g n c wr zs ∧ One g w wr)
  case atStart => exact ⟨q + 1, (q : Int), xs, rfl, Nat.le_refl _, by omega, rfl, by rw [Go.Sort.heapSort, HMQ.out.1, HMQ.out.2.1], HR.out, One.refl _ _⟩
  case round =>
    obtain ⟨k, s, zs, hgk, hk, hs, rfl, hp, hR, hO⟩ := hrel
    clear HR
    have HR : Hid (Row B 21 g n c wr zs) := hR
    have HP : Hid (Go.Sort.heapPop ltI a m (Go.Sort.heapBuild ltI m a k (arr zs)) = Go.Sort.heapSort ltI (arr xs) a b) := hp
    have HO1 : Hid (One g w wr) := hO
    clear hR hp hO
    by_cases hk0 : 0 < k
    · obtain ⟨r, rfl⟩ : ∃ r : Nat, s = (r : Int) := ⟨k - 1, by omega⟩
      have h0 : (0 : Int) ≤ (r : Int) := by omega
      have hrn : r ≤ n := by omega
      have km : IntKind.i64.wrap ((r : Int) - 1) = (r : Int) - 1 := IntWalk.i64_in _ ⟨by omega, by omega⟩
      have HKR : Hid (k = r + 1) := by unfold Hid; omega
      clear hs hk0
      go_wp2_with (go_at_call 86; (with_reducible refine (siftS_any B g n c r m a zs _ HR.out ham hrn hn).mono ?_); rintro e z1 ⟨⟨x, rfl⟩, ys, hp1, hr1, ho1⟩; have R1 : Hid (Row B 21 g n c z1 ys) := hr1; have P1 : Hid (Go.Sort.heapPop ltI a m (Go.Sort.heapBuild ltI m a r (arr ys)) = Go.Sort.heapSort ltI (arr xs) a b) := (by unfold Hid; rw [hp1, ← HP.out, HKR.out]; rfl); have O1 : Hid (One g w z1) := HO1.out.trans ho1; clear hp1 hr1 ho1)
      go_roundg r
      case measure => have := HKR.out; omega
      case rel => exact ⟨r, (r : Int) - 1, ys, rfl, by have := HKR.out; omega, rfl, rfl, P1.out, R1.out, O1.out⟩
    · have H0P : Hid (Go.Sort.heapPop ltI a m (arr zs) = Go.Sort.heapSort ltI (arr xs) a b) := by
        unfold Hid; rw [← HP.out, show k = 0 by omega]; rfl
      have hs1 : s = -1 := by omega
      subst hs1
      clear hs hk0 hk hgk
      have k2 : IntKind.i64.wrap ((m : Int) - 1) = m1 := by rw [HMQ.out.2.2]; exact IntWalk.i64_in _ ⟨by omega, by omega⟩
      go_wp2
      clear k2
      go_loopg [10] m (fun gk si wr => ∃ (k : Nat) (s : Int) (zs : List Hn), gk = k ∧ k ≤ m ∧ s = (k : Int) - 1 ∧ si = .int .i64 s ∧ Go.Sort.heapPop ltI a k (arr zs) = Go.Sort.heapSort ltI (arr xs) a b ∧ Row B 21 g n c wr zs ∧ One g w wr)
      case atStart => exact ⟨m, m1, zs, rfl, Nat.le_refl _, HMQ.out.2.2.symm, rfl, H0P.out, HR.out, HO1.out⟩
      case round =>
        obtain ⟨k, s, zs, hgk, hk, hs, rfl, hp, hR, hO⟩ := hrel
        clear HR HP HO1
        have HR : Hid (Row B 21 g n c wr zs) := hR
        have HP : Hid (Go.Sort.heapPop ltI a k (arr zs) = Go.Sort.heapSort ltI (arr xs) a b) := hp
        have HO1 : Hid (One g w wr) := hO
        have hzl := hR.len
        clear hR hp hO
        by_cases hk0 : 0 < k
        · obtain ⟨r, rfl⟩ : ∃ r : Nat, s = (r : Int) := ⟨k - 1, by omega⟩
          have h0 : (0 : Int) ≤ (r : Int) := by omega
          have km : IntKind.i64.wrap ((r : Int) - 1) = (r : Int) - 1 := IntWalk.i64_in _ ⟨by omega, by omega⟩
          have HKR : Hid (k = r + 1) := by unfold Hid; omega
          obtain ⟨p, hpp⟩ : ∃ p : Nat, a + r = p := ⟨_, rfl⟩
          have ka : IntKind.i64.wrap ((a : Int) + (r : Int)) = (p : Int) := by rw [IntWalk.i64_in _ ⟨by omega, by omega⟩]; omega
          have b0 : (a : Int) < (n : Int) := by omega
          have b1 : (p : Int) < (n : Int) := by omega
          obtain ⟨x, hx⟩ : ∃ x, zs[a]? = some x := ⟨_, List.getElem?_eq_getElem (by omega)⟩
          obtain ⟨y, hy⟩ : ∃ y, zs[p]? = some y := ⟨_, List.getElem?_eq_getElem (by omega)⟩
          have HX : Hid (zs[a]? = some x ∧ zs[p]? = some y) := ⟨hx, hy⟩
          have hsub : r ≤ m := by omega
          have hsf : a + r ≤ n := by omega
          have KEY : Hid (∀ z, Row B 21 g n c z (swp zs a p x y) → One g w z → Calls Try.prog 86 #[.slice (some ⟨g, 0, none⟩) n c, .int .i64 0, .int .i64 (r : Int), .int .i64 (a : Int)] z fun e w' => (∃ x, e = .returned x) ∧ ∃ ys, Go.Sort.heapPop ltI a r (arr ys) = Go.Sort.heapSort ltI (arr xs) a b ∧ Row B 21 g n c w' ys ∧ One g w w') := fun z hz ho => (siftS_any B g n c 0 r a _ z hz hsf (by omega) hn).mono (by
            rintro e w' ⟨he, ys, h1, h2, h3⟩
            exact ⟨he, ys, by rw [h1, arr_swp hx hy, ← HP.out, HKR.out, ← hpp]; rfl, h2, ho.trans h3⟩)
          have HPA : Hid (a + r = p) := hpp
          clear hs hk0 hx hy hzl hpp
          by_cases hr0 : p = a
          · subst hr0
            have hxy : x = y := by have := HX.out; rw [this.1] at this; exact Option.some.inj this.2
            subst hxy
            have cx := HR.out.get HX.out.1
            have f1 := HR.out.free p
            go_upto_region 10 with fail
            go_big_region
            obtain ⟨z2, hz2⟩ : ∃ z, ((wr.setCell ⟨g, p, none⟩ (.int .i32 x.v)).setCell ⟨g, p, none⟩ (.int .i32 x.v)).drew = z := ⟨_, rfl⟩
            rw [hz2]
            have R2 : Hid (Row B 21 g n c z2 (swp zs p p x x)) := by unfold Hid; rw [← hz2]; exact ((HR.out.set p x).set p x).below (Below.refl _ _).drew
            have O2 : Hid (One g w z2) := by unfold Hid; rw [← hz2]; exact ((HO1.out.trans (One.set g p _ _)).trans (One.set g p _ _)).trans (One.of (Below.refl _ _).drew (by have := HR.out.lt; simp; omega))
            clear hz2 cx f1
            go_wp2_with (go_at_call 86; (with_reducible refine (KEY.out _ R2.out O2.out).mono ?_); rintro e z3 ⟨⟨x, rfl⟩, ys, hp1, hr1, ho1⟩; have R3 : Hid (Row B 21 g n c z3 ys) := hr1; have P3 : Hid (Go.Sort.heapPop ltI p r (arr ys) = Go.Sort.heapSort ltI (arr xs) p b) := hp1; have O3 : Hid (One g w z3) := ho1; clear hp1 hr1 ho1)
            go_roundg r
            case measure => have := HKR.out; omega
            case rel => exact ⟨r, (r : Int) - 1, ys, rfl, by omega, rfl, rfl, P3.out, R3.out, O3.out⟩
          · have hne : p ≠ a := hr0
            have hne' : a ≠ p := fun e => hr0 e.symm
            have cx := HR.out.get HX.out.1
            have cy := HR.out.get HX.out.2
            have f1 := HR.out.free a
            have f2 := HR.out.free p
            go_upto_region 10 with fail
            go_big_region
            obtain ⟨z2, hz2⟩ : ∃ z, ((wr.setCell ⟨g, a, none⟩ (.int .i32 y.v)).setCell ⟨g, p, none⟩ (.int .i32 x.v)).drew = z := ⟨_, rfl⟩
            rw [hz2]
            have R2 : Hid (Row B 21 g n c z2 (swp zs a p x y)) := by unfold Hid; rw [← hz2]; exact ((HR.out.set a y).set p x).below (Below.refl _ _).drew
            have O2 : Hid (One g w z2) := by unfold Hid; rw [← hz2]; exact ((HO1.out.trans (One.set g a _ _)).trans (One.set g p _ _)).trans (One.of (Below.refl _ _).drew (by have := HR.out.lt; simp; omega))
            clear hz2 cx cy f1 f2
            go_wp2_with (go_at_call 86; (with_reducible refine (KEY.out _ R2.out O2.out).mono ?_); rintro e z3 ⟨⟨x, rfl⟩, ys, hp1, hr1, ho1⟩; have R3 : Hid (Row B 21 g n c z3 ys) := hr1; have P3 : Hid (Go.Sort.heapPop ltI a r (arr ys) = Go.Sort.heapSort ltI (arr xs) a b) := hp1; have O3 : Hid (One g w z3) := ho1; clear hp1 hr1 ho1)
            go_roundg r
            case measure => have := HKR.out; omega
            case rel => exact ⟨r, (r : Int) - 1, ys, rfl, by omega, rfl, rfl, P3.out, R3.out, O3.out⟩
        · have HZ : Hid (arr zs = Go.Sort.heapSort ltI (arr xs) a b) := by
            unfold Hid; rw [← HP.out, show k = 0 by omega]; rfl
          have hs1 : s = -1 := by omega
          subst hs1
          clear hs hk0 hk hgk
          go_wp2
          go_end0
          exact ⟨⟨_, rfl⟩, zs, HZ.out, HR.out, HO1.out⟩
end Go.Proofs.Ytgijcbipnjmhgab
