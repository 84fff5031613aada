import Derived.Test.YteolfolkolpehaaDoorMg
import Derived.Test.YteolfolkolpehaaDoorAp1
namespace Go.Proofs.YteolfolkolpehaaDoor
open Go.ChangeShapes Go.WideShapes Go.ChangeAt Go.RowKit
set_option linter.unusedVariables false

def sbs : List Ed → List Ed → List Ed
  | [], b => b
  | x :: a, [] => x :: a
  | x :: a, y :: b => if ahd y x then y :: sbs (x :: a) b else x :: sbs a (y :: b)
termination_by a b => a.length + b.length

theorem sbs_left (b : List Ed) : sbs [] b = b := by rw [sbs]
theorem sbs_right (a : List Ed) : sbs a [] = a := by cases a <;> rw [sbs]
theorem sbs_b {x y : Ed} {a b : List Ed} (h : ahd y x = true) : sbs (x :: a) (y :: b) = y :: sbs (x :: a) b := by rw [sbs, if_pos h]
theorem sbs_a {x y : Ed} {a b : List Ed} (h : ahd y x = false) : sbs (x :: a) (y :: b) = x :: sbs a (y :: b) := by rw [sbs, if_neg (by simp [h])]

theorem EdsA.news {w : World} {a : Option Addr} {xs : List Ed} (h : EdsA w a xs) : ∀ ad, a = some ad → ∀ j u, (flat xs)[j]? = some u → w.cell? (ad.add j) = some u := by
  intro ad had j u hj
  rcases h with rfl | ⟨b, o, rfl, h⟩
  · simp [flat] at hj
  · cases had; exact h.flat j u hj

theorem cut_one {w : World} {b o c : Nat} {f : Ed} {s : List Ed} {v : Option Addr} (h : Eds w b o (f :: s)) (hc : s.length + 1 ≤ c) (hv : (if c = 1 then some (⟨b, o, none⟩ : Addr) else some ⟨b, o + 3, none⟩) = v) : EdsC w v (c - 1) s ∧ (v = none → c - 1 = 0) := by
  by_cases h1 : c = 1
  · rw [if_pos h1] at hv
    subst hv
    exact ⟨.inl (List.eq_nil_of_length_eq_zero (by omega)), fun h => by cases h⟩
  · rw [if_neg h1] at hv
    subst hv
    exact ⟨.inr ⟨b, o + 3, rfl, by omega, h.tail⟩, fun h => by cases h⟩

set_option maxRecDepth 1000000 in
set_option maxHeartbeats 2000000 in
theorem sideBySide_any (a1 a2 : Option Addr) (c1 c2 : Nat) (a b : List Ed) (w : World) (h1 : EdsC w a1 c1 a) (h2 : EdsC w a2 c2 b) (hl1 : a.length ≤ 65536) (hl2 : b.length ≤ 65536) (hn1 : a1 = none → c1 = 0) (hn2 : a2 = none → c2 = 0) :
    Calls Tryd.prog 50 #[.slice a1 a.length c1, .slice a2 b.length c2] w fun e w' => ∃ v, e = .returned v ∧ w'.ownsRow w.heap.size 45 3 v (sbs a b).length (flat (sbs a b)) ∧ Below w.heap.size w w' := by
  obtain ⟨i0, hi0, hz0, hz1, hz2⟩ := info_parts infoEd
  have H1 : Hid (EdsC w a1 c1 a) := h1
  have H2 : Hid (EdsC w a2 c2 b) := h2
  have HN1 : Hid (a1 = none → c1 = 0) := hn1
  have HN2 : Hid (a2 = none → c2 = 0) := hn2
  clear h1 h2 hn1 hn2
  go_enter Tryd.func50, Tryd.ntmps50
  go_wp2_with (at_make; refine wpList_make_own _ rfl _ _ 22 rfl w.heap.size 45 i0 (.agg #[.int .i64 0, .int .i64 0, .string ⟨#[]⟩]) 3 Tryd.underlying22 hi0 hz0 hz1 _ _ _ (a.length + b.length) rfl rfl ?_ ?_ ?_ ?_ ?_)
  case refine_1 => omega
  case refine_2 => rw [hz2]; omega
  case refine_3 => unfold maxLen; omega
  case refine_4 => exact Nat.le_refl _
  intro w3 hown3 hgrow3
  have hb3 : Below w.heap.size w w3 := (Below.refl _ w).grown hgrow3 (Nat.le_refl _) (fun k h => by cases h)
  clear hgrow3
  go_wp2
  go_loopg [0, 1, 5] (a.length + b.length) (fun gk sa sb sv wr => ∃ (x y : List Ed) (ax ay : Option Addr) (cx cy : Nat) (p : List Ed), gk = x.length + y.length ∧ sa = .slice ax x.length cx ∧ sb = .slice ay y.length cy ∧ x.length ≤ 65536 ∧ y.length ≤ 65536 ∧ EdsC w ax cx x ∧ EdsC w ay cy y ∧ (ax = none → cx = 0) ∧ (ay = none → cy = 0) ∧ Below w.heap.size w wr ∧ wr.ownsRow w.heap.size 45 3 sv p.length (flat p) ∧ p.length + x.length + y.length ≤ 131072 ∧ p ++ sbs x y = sbs a b)
  case atStart => exact ⟨a, b, a1, a2, c1, c2, [], rfl, rfl, rfl, hl1, hl2, H1.out, H2.out, HN1.out, HN2.out, hb3, hown3, by simp; omega, rfl⟩
  case round =>
    clear hown3 hb3
    obtain ⟨x, y, ax, ay, cx, cy, p, rfl, rfl, rfl, hx, hy, hX, hY, hxn, hyn, hbel, hown, hpl, hsb⟩ := hrel
    have hsz := hbel.size
    have hlt1 : Hid (∀ k, u5.ownBlock = some k → w.heap.size ≤ k ∧ k < wr.heap.size) := hown.lt
    have HO : Hid (wr.ownsRow w.heap.size 45 3 u5 p.length (flat p)) := hown
    have HB : Hid (Below w.heap.size w wr) := hbel
    have HS : Hid (p ++ sbs x y = sbs a b) := hsb
    have HX : Hid (EdsC w ax cx x) := hX
    have HY : Hid (EdsC w ay cy y) := hY
    have HXN : Hid (ax = none → cx = 0) := hxn
    have HYN : Hid (ay = none → cy = 0) := hyn
    clear hown hsb hX hY hxn hyn
    cases x with
    | nil =>
      have HR : Hid (p ++ ([] : List Ed) ++ y = sbs a b) := by unfold Hid; rw [← HS.out, sbs_left]; simp
      have HXA : Hid (EdsA wr ax []) := (HX.out.below HB.out).all
      have HYA : Hid (EdsA w ay y) := HY.out.all
      have hxl : ([] : List Ed).length ≤ 65536 := hx
      have hyl : (y : List Ed).length ≤ 65536 := hy
      have hnx : Hid (ax = none → ([] : List Ed).length = 0 ∧ cx = 0) := fun h => ⟨by rcases HX.out with h0 | ⟨_, _, h1, _⟩; (rw [h0]; rfl); (rw [h] at h1; cases h1), HXN.out h⟩
      have hny : Hid (ay = none → (y : List Ed).length = 0 ∧ cy = 0) := fun h => ⟨by rcases HY.out with h0 | ⟨_, _, h1, _⟩; (rw [h0]; rfl); (rw [h] at h1; cases h1), HYN.out h⟩
      go_wp2_with (at_builtin; (refine wpList_append_own_any _ rfl (.tmp 43) (.tmp 44) 22 rfl w.heap.size 45 i0 (.agg #[.int .i64 0, .int .i64 0, .string ⟨#[]⟩]) 3 32 Tryd.underlying22 hi0 hz0 hz1 hz2 rfl (by decide) _ _ _ rfl HO.out ax ([] : List Ed).length cx (flat []) rfl (flat_length _) hnx.out HXA.out.news (flat_oneCell _) ?_ ?_ ?_ ?_))
      case refine_1 => unfold maxLen; omega
      case refine_2 => omega
      case refine_3 => omega
      intro v4 w4 hown4 hgrow4
      have HB4 : Hid (Below w.heap.size w w4) := HB.out.grown hgrow4 hsz (fun k h => (hlt1.out k h).1)
      have HO4 : Hid (w4.ownsRow w.heap.size 45 3 v4 (p.length + ([] : List Ed).length) (flat p ++ flat [])) := hown4
      have hlt4 : Hid (∀ k, v4.ownBlock = some k → w.heap.size ≤ k ∧ k < w4.heap.size) := hown4.lt
      have HYA4 : Hid (EdsA w4 ay y) := HYA.out.below HB4.out
      have hsz4 := HB4.out.size
      clear hown4 hgrow4
      go_wp2_with (at_builtin; (refine wpList_append_own_any _ rfl (.tmp 46) (.tmp 47) 22 rfl w.heap.size 45 i0 (.agg #[.int .i64 0, .int .i64 0, .string ⟨#[]⟩]) 3 32 Tryd.underlying22 hi0 hz0 hz1 hz2 rfl (by decide) _ _ _ rfl HO4.out ay (y : List Ed).length cy (flat y) rfl (flat_length _) hny.out HYA4.out.news (flat_oneCell _) ?_ ?_ ?_ ?_))
      case refine_1 => unfold maxLen; omega
      case refine_2 => omega
      case refine_3 => omega
      intro v5 w5 hown5 hgrow5
      have hbel5 : Below w.heap.size w w5 := HB4.out.grown hgrow5 hsz4 (fun k h => (hlt4.out k h).1)
      rw [← flat_append, ← flat_append, ← List.append_assoc, HR.out] at hown5
      have hn5 := hown5.1
      rw [flat_length] at hn5
      have hown6 : w5.ownsRow w.heap.size 45 3 v5 (sbs a b).length (flat (sbs a b)) := by
        have : p.length + y.length = (sbs a b).length := by omega
        rw [← this]; exact hown5
      clear hown5 hgrow5 hn5
      go_wp2
      go_ret
      exact ⟨_, rfl, hown6, hbel5⟩
    | cons e r =>
      cases y with
      | nil =>
        have HR : Hid (p ++ ((e :: r) : List Ed) ++ [] = sbs a b) := by unfold Hid; rw [← HS.out, sbs_right]; simp
        have HXA : Hid (EdsA wr ax (e :: r)) := (HX.out.below HB.out).all
        have HYA : Hid (EdsA w ay []) := HY.out.all
        have hxl : ((e :: r) : List Ed).length ≤ 65536 := hx
        have hyl : ([] : List Ed).length ≤ 65536 := hy
        have hnx : Hid (ax = none → ((e :: r) : List Ed).length = 0 ∧ cx = 0) := fun h => ⟨by rcases HX.out with h0 | ⟨_, _, h1, _⟩; (rw [h0]; rfl); (rw [h] at h1; cases h1), HXN.out h⟩
        have hny : Hid (ay = none → ([] : List Ed).length = 0 ∧ cy = 0) := fun h => ⟨by rcases HY.out with h0 | ⟨_, _, h1, _⟩; (rw [h0]; rfl); (rw [h] at h1; cases h1), HYN.out h⟩
        go_wp2_with (at_builtin; (refine wpList_append_own_any _ rfl (.tmp 43) (.tmp 44) 22 rfl w.heap.size 45 i0 (.agg #[.int .i64 0, .int .i64 0, .string ⟨#[]⟩]) 3 32 Tryd.underlying22 hi0 hz0 hz1 hz2 rfl (by decide) _ _ _ rfl HO.out ax ((e :: r) : List Ed).length cx (flat (e :: r)) rfl (flat_length _) hnx.out HXA.out.news (flat_oneCell _) ?_ ?_ ?_ ?_))
        case refine_1 => unfold maxLen; omega
        case refine_2 => omega
        case refine_3 => omega
        intro v4 w4 hown4 hgrow4
        have HB4 : Hid (Below w.heap.size w w4) := HB.out.grown hgrow4 hsz (fun k h => (hlt1.out k h).1)
        have HO4 : Hid (w4.ownsRow w.heap.size 45 3 v4 (p.length + ((e :: r) : List Ed).length) (flat p ++ flat (e :: r))) := hown4
        have hlt4 : Hid (∀ k, v4.ownBlock = some k → w.heap.size ≤ k ∧ k < w4.heap.size) := hown4.lt
        have HYA4 : Hid (EdsA w4 ay []) := HYA.out.below HB4.out
        have hsz4 := HB4.out.size
        clear hown4 hgrow4
        go_wp2_with (at_builtin; (refine wpList_append_own_any _ rfl (.tmp 46) (.tmp 47) 22 rfl w.heap.size 45 i0 (.agg #[.int .i64 0, .int .i64 0, .string ⟨#[]⟩]) 3 32 Tryd.underlying22 hi0 hz0 hz1 hz2 rfl (by decide) _ _ _ rfl HO4.out ay ([] : List Ed).length cy (flat []) rfl (flat_length _) hny.out HYA4.out.news (flat_oneCell _) ?_ ?_ ?_ ?_))
        case refine_1 => unfold maxLen; omega
        case refine_2 => omega
        case refine_3 => omega
        intro v5 w5 hown5 hgrow5
        have hbel5 : Below w.heap.size w w5 := HB4.out.grown hgrow5 hsz4 (fun k h => (hlt4.out k h).1)
        rw [← flat_append, ← flat_append, ← List.append_assoc, HR.out] at hown5
        have hn5 := hown5.1
        rw [flat_length] at hn5
        have hown6 : w5.ownsRow w.heap.size 45 3 v5 (sbs a b).length (flat (sbs a b)) := by
          have : p.length + (r.length + 1) = (sbs a b).length := by omega
          rw [← this]; exact hown5
        clear hown5 hgrow5 hn5
        go_wp2
        go_ret
        exact ⟨_, rfl, hown6, hbel5⟩
      | cons f s =>
        rcases HX.out with h0 | ⟨xb, xo, rfl, hxc, hXE⟩
        · cases h0
        rcases HY.out with h0 | ⟨yb, yo, rfl, hyc, hYE⟩
        · cases h0
        have hxw : xb < w.heap.size := hXE.1
        have hyw : yb < w.heap.size := hYE.1
        obtain ⟨x0, x1, x2⟩ := (hXE.below hbel hXE.1).first
        obtain ⟨y0, y1, y2⟩ := (hYE.below hbel hYE.1).first
        have HXE : Hid (Eds w xb xo (e :: r)) := hXE
        have HYE : Hid (Eds w yb yo (f :: s)) := hYE
        rw [List.length_cons] at hx hy hxc hyc hpl
        rw [List.length_cons] at hpl
        clear hXE hYE
        have n1 : (0 : Int) ≤ 1 := by omega
        have n2 : (1 : Int) ≤ (cx : Int) := by omega
        have n3 : (1 : Int) ≤ (cy : Int) := by omega
        have n4 : (1 : Int) ≤ (s.length : Int) + 1 := by omega
        have n5 : (1 : Int) ≤ (r.length : Int) + 1 := by omega
        have n6 : (s.length : Int) + 1 ≤ (cy : Int) := by omega
        have n7 : (r.length : Int) + 1 ≤ (cx : Int) := by omega
        have n8 : 1 ≤ cy := by omega
        have n9 : 1 ≤ cx := by omega
        go_upto_region 3 with fail
        go_region_held3 (fun w' => w'.cell? ⟨xb, xo, none⟩ = some (.int .i64 e.f) ∧ w'.cell? ⟨xb, xo + 1, none⟩ = some (.int .i64 e.t) ∧ w'.cell? ⟨xb, xo + 2, none⟩ = some (.string e.s) ∧ w'.cell? ⟨yb, yo, none⟩ = some (.int .i64 f.f) ∧ w'.cell? ⟨yb, yo + 1, none⟩ = some (.int .i64 f.t) ∧ w'.cell? ⟨yb, yo + 2, none⟩ = some (.string f.s))
          (first
            | go_keep
            | (refine ⟨?_, ?_, ?_, ?_, ?_, ?_⟩ <;> assumption))
          ((go_at_call 69; refine (ahead_any f e _).mono ?_; rintro q w2 ⟨rfl, hb2⟩; have HB2 : Hid (Below w.heap.size w w2) := (HB.out.drew).trans (hb2.mono hsz); have HO2 : Hid (w2.ownsRow w.heap.size 45 3 u5 p.length (flat p)) := ownsRow_below (HO.out.drew) hb2 (Nat.le_refl _); obtain ⟨z0, z1, z2⟩ := (HXE.out.below HB2.out HXE.out.1).first; obtain ⟨v0, v1, v2⟩ := (HYE.out.below HB2.out HYE.out.1).first))
        clear x0 x1 x2 y0 y1 y2
        have hsz2 := HB2.out.size
        have hlt2 : Hid (∀ k, u5.ownBlock = some k → w.heap.size ≤ k ∧ k < w2.heap.size) := HO2.out.lt
        have hnx : Hid (some xb ≠ u5.ownBlock) := fun h => by have := (hlt1.out _ h.symm).1; omega
        have hny : Hid (some yb ≠ u5.ownBlock) := fun h => by have := (hlt1.out _ h.symm).1; omega
        cases hah : ahd f e with
        | true =>
          have HS2 : Hid ((p ++ [f]) ++ sbs (e :: r) s = sbs a b) := by unfold Hid; rw [← HS.out, sbs_b hah]; simp
          clear hah
          go_upto_region 4 with fail
          go_region_held3 (fun w' => w'.cell? ⟨xb, xo, none⟩ = some (.int .i64 e.f) ∧ w'.cell? ⟨xb, xo + 1, none⟩ = some (.int .i64 e.t) ∧ w'.cell? ⟨xb, xo + 2, none⟩ = some (.string e.s) ∧ w'.cell? ⟨yb, yo, none⟩ = some (.int .i64 f.f) ∧ w'.cell? ⟨yb, yo + 1, none⟩ = some (.int .i64 f.t) ∧ w'.cell? ⟨yb, yo + 2, none⟩ = some (.string f.s))
            (first
              | go_keep
              | (refine ⟨?_, ?_, ?_, ?_, ?_, ?_⟩ <;> assumption))
            ((refine step_append_lies _ (by rfl) _ _ _ (by rfl) w.heap.size 45 i0 (.agg #[.int .i64 0, .int .i64 0, .string ⟨#[]⟩]) 3 32 Tryd.underlying22 hi0 hz0 hz1 hz2 rfl (by omega) u5 p.length (flat p) (by rfl) (HO2.out.drew.alloc _) ⟨w2.heap.size, 0, none⟩ 1 1 (flat [f]) (by rfl) (by rfl) (cells_new w2.drew (flat [f]) 45) (flat_oneCell _) (by omega) (by unfold maxLen; omega) (by omega) (by simp; omega) (w2.heap.size + 1) (by simp) ?_; intro gg cp w4 hown4 hgrow4 hat hlt4; have HB4 : Hid (Below w.heap.size w w4) := (HB2.out.drew.alloc hsz2 _).grown hgrow4 (by simp; omega) (fun k h => (hlt1.out k h).1); obtain ⟨q0, q1, q2⟩ := (HXE.out.below HB4.out HXE.out.1).first; obtain ⟨t0, t1, t2⟩ := (HYE.out.below HB4.out HYE.out.1).first))
          have HO4 : Hid (w4.ownsRow w.heap.size 45 3 (.slice (some ⟨gg, 0, none⟩) (p.length + 1) cp) (p ++ ([f] : List Ed)).length (flat (p ++ [f]))) := by
            unfold Hid; rw [flat_append, List.length_append]; exact hown4
          obtain ⟨bz, hbz⟩ : ∃ v, (if cy = 1 then some (⟨yb, yo, none⟩ : Addr) else some ⟨yb, yo + 3, none⟩) = v := ⟨_, rfl⟩
          rw [hbz]
          obtain ⟨hz, hzn⟩ := cut_one HYE.out (by omega) hbz
          have HZ : Hid _ := hz
          have HZN : Hid _ := hzn
          clear hbz hz hzn hown4 hgrow4 hat hlt4 z0 z1 z2 v0 v1 v2
          go_wp2
          go_roundg (r.length + 1 + s.length)
          case measure => simp only [List.length_cons]; omega
          case rel => exact ⟨e :: r, s, some ⟨xb, xo, none⟩, bz, cx, cy - 1, p ++ [f], rfl, rfl, rfl, by rw [List.length_cons]; omega, by omega, HX.out, HZ.out, HXN.out, HZN.out, HB4.out, HO4.out, by simp only [List.length_append, List.length_cons, List.length_nil]; omega, HS2.out⟩
        | false =>
          have HS2 : Hid ((p ++ [e]) ++ sbs r (f :: s) = sbs a b) := by unfold Hid; rw [← HS.out, sbs_a hah]; simp
          clear hah
          go_upto_region 5 with fail
          go_region_held3 (fun w' => w'.cell? ⟨xb, xo, none⟩ = some (.int .i64 e.f) ∧ w'.cell? ⟨xb, xo + 1, none⟩ = some (.int .i64 e.t) ∧ w'.cell? ⟨xb, xo + 2, none⟩ = some (.string e.s) ∧ w'.cell? ⟨yb, yo, none⟩ = some (.int .i64 f.f) ∧ w'.cell? ⟨yb, yo + 1, none⟩ = some (.int .i64 f.t) ∧ w'.cell? ⟨yb, yo + 2, none⟩ = some (.string f.s))
            (first
              | go_keep
              | (refine ⟨?_, ?_, ?_, ?_, ?_, ?_⟩ <;> assumption))
            ((refine step_append_lies _ (by rfl) _ _ _ (by rfl) w.heap.size 45 i0 (.agg #[.int .i64 0, .int .i64 0, .string ⟨#[]⟩]) 3 32 Tryd.underlying22 hi0 hz0 hz1 hz2 rfl (by omega) u5 p.length (flat p) (by rfl) (HO2.out.drew.alloc _) ⟨w2.heap.size, 0, none⟩ 1 1 (flat [e]) (by rfl) (by rfl) (cells_new w2.drew (flat [e]) 45) (flat_oneCell _) (by omega) (by unfold maxLen; omega) (by omega) (by simp; omega) (w2.heap.size + 1) (by simp) ?_; intro gg cp w4 hown4 hgrow4 hat hlt4; have HB4 : Hid (Below w.heap.size w w4) := (HB2.out.drew.alloc hsz2 _).grown hgrow4 (by simp; omega) (fun k h => (hlt1.out k h).1); obtain ⟨q0, q1, q2⟩ := (HXE.out.below HB4.out HXE.out.1).first; obtain ⟨t0, t1, t2⟩ := (HYE.out.below HB4.out HYE.out.1).first))
          have HO4 : Hid (w4.ownsRow w.heap.size 45 3 (.slice (some ⟨gg, 0, none⟩) (p.length + 1) cp) (p ++ ([e] : List Ed)).length (flat (p ++ [e]))) := by
            unfold Hid; rw [flat_append, List.length_append]; exact hown4
          obtain ⟨bz, hbz⟩ : ∃ v, (if cx = 1 then some (⟨xb, xo, none⟩ : Addr) else some ⟨xb, xo + 3, none⟩) = v := ⟨_, rfl⟩
          rw [hbz]
          obtain ⟨hz, hzn⟩ := cut_one HXE.out (by omega) hbz
          have HZ : Hid _ := hz
          have HZN : Hid _ := hzn
          clear hbz hz hzn hown4 hgrow4 hat hlt4 z0 z1 z2 v0 v1 v2
          go_wp2
          go_roundg (r.length + (s.length + 1))
          case measure => simp only [List.length_cons]; omega
          case rel => exact ⟨r, f :: s, bz, some ⟨yb, yo, none⟩, cx - 1, cy, p ++ [e], rfl, rfl, rfl, by omega, by rw [List.length_cons]; omega, HZ.out, HY.out, HZN.out, HYN.out, HB4.out, HO4.out, by simp only [List.length_append, List.length_cons, List.length_nil]; omega, HS2.out⟩
end Go.Proofs.YteolfolkolpehaaDoor
