import Derived.Test.YtgijcbipnjmhgabGreatSmN
import Derived.Test.YtgijcbipnjmhgabGreatGr4
import Derived.Test.YtgijcbipnjmhgabGreatOrd
import Derived.BigRegion
import Derived.Test.YtgijcbipnjmhgabGreatGr1
import Derived.Test.YtgijcbipnjmhgabGreatSqd
namespace Go.Proofs.YtgijcbipnjmhgabGreat
open Go.ChangeShapes Go.WideShapes Go.ChangeAt Go.RowKit
set_option linter.unusedVariables false
set_option linter.unusedSimpArgs false

/-- a row of numbers in a box -/
structure Hq (B b : Nat) (w : World) (V : Value) (xs : List Int) : Prop where
  box : Bx w b #[V] 78
  row : w.ownsRow B 3 1 V xs.length (flat xs)
  le : B ≤ b
/-- nothing but the box and the row has changed -/
structure Mv (B b : Nat) (r : Option Nat) (w w' : World) : Prop where
  keep : ∀ k, k < w.heap.size → k ≠ b → some k ≠ r → w'.heap[k]? = w.heap[k]?
  bel : Below B w w'
theorem Mv.refl (B b : Nat) (r : Option Nat) (w : World) : Mv B b r w w := ⟨fun _ _ _ _ => rfl, Below.refl _ _⟩
theorem Mv.of {B b : Nat} {r : Option Nat} {w w' : World} (h : Below w.heap.size w w') (hb : b < w.heap.size) (hB : B ≤ b) : Mv B b r w w' := ⟨fun k hk _ _ => h.block k hk, h.mono (by omega)⟩
theorem Mv.trans {B b : Nat} {r r' : Option Nat} {w v u : World} (h : Mv B b r w v) (k : Mv B b r' v u) (hr : r' = r ∨ ∀ g, r' = some g → w.heap.size ≤ g) : Mv B b r w u :=
  ⟨fun i hi hb hg => (k.keep i (Nat.lt_of_lt_of_le hi h.bel.size) hb (fun e => by
    rcases hr with e2 | e2
    · exact hg (by rw [e, e2])
    · have := e2 i e.symm; omega)).trans (h.keep i hi hb hg), h.bel.trans k.bel⟩
theorem Hq.below {B b : Nat} {w w' : World} {V : Value} {xs : List Int} (h : Hq B b w V xs) (hb : Below w.heap.size w w') : Hq B b w' V xs := ⟨h.box.below hb h.box.lt, own_belowR h.row hb (Nat.le_refl _), h.le⟩
theorem flat_at (xs : List Int) (i : Nat) : (flat xs)[i]? = (xs[i]?).map (Value.int .i64) := by rw [flat_ints, List.getElem?_map]
theorem flat_setI (xs : List Int) (i : Nat) (x : Int) : (flat xs).set i (.int .i64 x) = flat (xs.set i x) := by rw [flat_ints, flat_ints, List.map_set]
theorem Hq.form {B b : Nat} {w : World} {V : Value} {xs : List Int} (h : Hq B b w V xs) : ∃ a c, V = .slice a xs.length c ∧ (0 < xs.length → ∃ g, a = some ⟨g, 0, none⟩) := by
  obtain ⟨a, c, h1, h2, -⟩ := own_slice h.row
  exact ⟨a, c, h1, h2⟩
theorem Hq.len {B b n c : Nat} {a : Option Addr} {w : World} {xs : List Int} (h : Hq B b w (.slice a n c) xs) : n = xs.length := by
  obtain ⟨a', c', h1, -⟩ := h.form
  injection h1
theorem Hq.cell {B b g n c : Nat} {w : World} {xs : List Int} (h : Hq B b w (.slice (some ⟨g, 0, none⟩) n c) xs) {i : Nat} (hi : i < xs.length) : w.cell? ⟨g, i, none⟩ = some (.int .i64 xs[i]!) := by
  have := h.row.cells rfl i (.int .i64 xs[i]!) (by rw [flat_at, List.getElem?_eq_getElem hi, getElem!_pos xs i hi]; rfl)
  rwa [addr_add, Nat.zero_add] at this
theorem Hq.ne {B b g n c : Nat} {w : World} {xs : List Int} (h : Hq B b w (.slice (some ⟨g, 0, none⟩) n c) xs) : b ≠ g := h.box.neR h.row (by decide) rfl
theorem Hq.store {B b g n c : Nat} {w : World} {xs : List Int} (h : Hq B b w (.slice (some ⟨g, 0, none⟩) n c) xs) (i : Nat) (x : Int) : Hq B b (w.setCell ⟨g, i, none⟩ (.int .i64 x)) (.slice (some ⟨g, 0, none⟩) n c) (xs.set i x) := by
  have hn := h.len
  subst hn
  refine ⟨h.box.other ⟨g, i, none⟩ h.ne _, ?_, h.le⟩
  have := (World.ownsRow.stored h.row i (.int .i64 x)).1
  rw [List.length_set, ← flat_setI]
  exact this
theorem Hq.one {B b g n c : Nat} {w : World} {xs : List Int} (h : Hq B b w (.slice (some ⟨g, 0, none⟩) n c) xs) (i : Nat) (x : Value) : Mv B b (some g) w (w.setCell ⟨g, i, none⟩ x) :=
  ⟨fun k hk hb hg => heap_setCell_other _ _ _ _ (fun e => hg (by rw [e])), (Below.refl _ _).setCell (p := ⟨g, i, none⟩) (h.row.lt g rfl).1 _⟩

set_option maxRecDepth 1000000 in
theorem rlen_any (a : Option Addr) (n c : Nat) (w : World) : Calls Tryz.prog 127 #[.slice a n c] w fun e w' => e = .returned (.int .i64 (n : Int)) ∧ w' = w := by
  go_enter Tryz.func127, Tryz.ntmps127
  go_wp2
  go_ret
  exact ⟨rfl, rfl⟩
set_option maxRecDepth 1000000 in
set_option maxHeartbeats 2000000 in
theorem rless_any {B b : Nat} {w : World} {V : Value} {xs : List Int} (h : Hq B b w V xs) (i j : Nat) (hi : i < xs.length) (hj : j < xs.length) : Calls Tryz.prog 128 #[V, .int .i64 (i : Int), .int .i64 (j : Int)] w fun e w' => e = .returned (.bool (decide (xs[i]! < xs[j]!))) ∧ Below w.heap.size w w' := by
  obtain ⟨a, c, rfl, ha⟩ := h.form
  obtain ⟨g, rfl⟩ := ha (by omega)
  have c1 := h.cell hi
  have c2 := h.cell hj
  have t1 : (i : Int) < (xs.length : Int) := by omega
  have t2 : (j : Int) < (xs.length : Int) := by omega
  obtain ⟨x, hx⟩ : ∃ x, xs[i]! = x := ⟨_, rfl⟩
  obtain ⟨y, hy⟩ : ∃ y, xs[j]! = y := ⟨_, rfl⟩
  rw [hx] at c1 ⊢
  rw [hy] at c2 ⊢
  clear h ha hx hy hi hj
  go_enter Tryz.func128, Tryz.ntmps128
  go_wp2
  go_quiet (fail)
  go_wp2
  go_ret
  have hr := Below.refl w.heap.size w
  exact ⟨rfl, ⟨hr.os, hr.tape, hr.output, hr.size, hr.block⟩⟩
set_option maxRecDepth 1000000 in
set_option maxHeartbeats 2000000 in
theorem rswap_any {B b : Nat} {w : World} {V : Value} {xs : List Int} (h : Hq B b w V xs) (i j : Nat) (hi : i < xs.length) (hj : j < xs.length) : Calls Tryz.prog 129 #[V, .int .i64 (i : Int), .int .i64 (j : Int)] w fun e w' => (∃ x, e = .returned x) ∧ Hq B b w' V (sw xs i j) ∧ Mv B b V.ownBlock w w' := by
  obtain ⟨a, c, rfl, ha⟩ := h.form
  obtain ⟨g, rfl⟩ := ha (by omega)
  have cx := h.cell hi
  have cy := h.cell hj
  have t1 : (i : Int) < (xs.length : Int) := by omega
  have t2 : (j : Int) < (xs.length : Int) := by omega
  have f1 : w.frozen? ⟨g, i, none⟩ = false := World.ownsRow.frozenAt h.row i
  have f2 : w.frozen? ⟨g, j, none⟩ = false := World.ownsRow.frozenAt h.row j
  have HF : Hid (Hq B b ((w.setCell ⟨g, i, none⟩ (.int .i64 xs[j]!)).setCell ⟨g, j, none⟩ (.int .i64 xs[i]!)).drew (.slice (some ⟨g, 0, none⟩) xs.length c) (sw xs i j) ∧ Mv B b (some g) w ((w.setCell ⟨g, i, none⟩ (.int .i64 xs[j]!)).setCell ⟨g, j, none⟩ (.int .i64 xs[i]!)).drew) := by
    have h1 := h.store i xs[j]!
    have h2 := h1.store j xs[i]!
    refine ⟨h2.below (Below.refl _ _).drew, ((h.one i (.int .i64 xs[j]!)).trans (h1.one j (.int .i64 xs[i]!)) (.inl rfl)).trans (Mv.of (r := some g) (Below.refl _ _).drew (h2.box.lt) h.le) (.inl rfl)⟩
  obtain ⟨x, hx⟩ : ∃ x, xs[i]! = x := ⟨_, rfl⟩
  obtain ⟨y, hy⟩ : ∃ y, xs[j]! = y := ⟨_, rfl⟩
  rw [hx, hy] at HF
  rw [hx] at cx
  rw [hy] at cy
  clear h ha
  by_cases e : j = i
  · subst e
    obtain rfl : x = y := hx.symm.trans hy
    clear hx hy hi hj
    go_enter Tryz.func129, Tryz.ntmps129
    go_big_region
    go_end0
    exact ⟨⟨_, rfl⟩, HF.out.1, HF.out.2⟩
  · have hne2 : j ≠ i := e
    have hne3 : i ≠ j := fun e2 => e e2.symm
    clear hx hy hi hj
    go_enter Tryz.func129, Tryz.ntmps129
    go_big_region
    go_end0
    exact ⟨⟨_, rfl⟩, HF.out.1, HF.out.2⟩
end Go.Proofs.YtgijcbipnjmhgabGreat

namespace Go.Proofs.YtgijcbipnjmhgabGreat
open Go.ChangeShapes Go.WideShapes Go.ChangeAt Go.RowKit
set_option linter.unusedVariables false
set_option linter.unusedSimpArgs false

/-- the lists ahead of k rise, each thing in them once -/
def Ups (k : Nat) (rs : List Rr) : Prop := ∀ (x : Nat) (r : Rr), x < k → rs[x]? = some r → ∃ ys : List Int, r.xs = ys.map (Value.int .i32) ∧ ys.Pairwise (· < ·)
theorem Ups.set {k : Nat} {rs : List Rr} (h : Ups k rs) (v : Value) (m : Nat) (zs : List Int) (hz : zs.Pairwise (· < ·)) : Ups (k + 1) (rs.set k ⟨v, m, zs.map (Value.int .i32)⟩) := by
  intro x r hx hr
  by_cases e : x = k
  · subst e
    have hl := (List.getElem?_eq_some_iff.1 hr).1
    rw [List.length_set] at hl
    rw [List.getElem?_set_self hl] at hr
    cases hr
    exact ⟨zs, rfl, hz⟩
  · rw [List.getElem?_set_ne (fun e2 => e e2.symm)] at hr
    exact h x r (by omega) hr
set_option maxRecDepth 1000000 in
set_option maxHeartbeats 4000000 in
theorem listsS_any (n cap : Nat) (a : Option Addr) (ps : List Pr) (w : World) (hL : LiesA w a ps) (hn : n ≤ 131072) (hm : ps.length ≤ 17592186044416) (hr : ∀ p ∈ ps, (0 ≤ p.a ∧ p.a < (n : Int)) ∧ (0 ≤ p.b ∧ p.b < (n : Int))) :
    Calls Tryz.prog 18 #[.int .i64 (n : Int), .slice a ps.length cap] w fun e w' => e = .returned (.slice (some ⟨w.heap.size, 0, none⟩) n n) ∧ ∃ rs, Lv w.heap.size w.heap.size n w w' rs ∧ Ad .i32 ps rs ∧ Ups n rs := by
  obtain ⟨i0, hi0, hz0, hz1, hz2⟩ := info_parts infoRow32
  obtain ⟨i1, hi1, hy0, hy1, hy2⟩ := info_parts infoI32
  have HL : Hid (LiesA w a ps) := hL
  have HRg : Hid (∀ p ∈ ps, (0 ≤ p.a ∧ p.a < (n : Int)) ∧ (0 ≤ p.b ∧ p.b < (n : Int))) := hr
  clear hL hr
  go_enter Tryz.func18, Tryz.ntmps18
  go_wp2_with (at_make; refine wpList_make_full _ rfl _ _ 55 rfl w.heap.size 76 i0 (.slice none 0 0) 1 Tryz.underlying55 hi0 hz0 hz1 _ _ _ _ n rfl rfl rfl rfl (by rw [hz2]; omega) (by unfold maxLen; omega) (Nat.le_refl _) ?_; intro w1 hown1 hgr1; have L1 : Hid (Lv w.heap.size w.heap.size n w w1 (List.replicate n ⟨.slice none 0 0, 0, []⟩)) := ⟨She.made (by have h9 := rep_made (.slice none 0 0) n; rw [show (Value.slice none 0 0).cells = #[.slice none 0 0] by rfl] at hown1; rw [h9] at hown1; exact hown1), by simp, (Below.refl _ w).grown hgr1 (Nat.le_refl _) (fun k h => by cases h), hgr1.size⟩; clear hown1 hgr1)
  go_loopg [13] ps.length (fun gk si wr => ∃ (k : Nat) (rs : List Rr), gk = ps.length - k ∧ si = .int .i64 (k : Int) ∧ k ≤ ps.length ∧ Lv w.heap.size w.heap.size n w wr rs ∧ Ad .i32 (ps.take k) rs)
  case atStart => exact ⟨0, _, rfl, rfl, Nat.zero_le _, L1.out, Ad.start n⟩
  case round =>
    obtain ⟨k, rs, hgk, rfl, hk, hLv, hAd⟩ := hrel
    clear L1
    have LV : Hid (Lv w.heap.size w.heap.size n w wr rs) := hLv
    have HA : Hid (Ad .i32 (ps.take k) rs) := hAd
    clear hLv hAd
    by_cases hkp : k < ps.length
    · have hkp' : (k : Int) < (ps.length : Int) := by omega
      obtain ⟨p, hp⟩ : ∃ p, ps[k]? = some p := ⟨_, List.getElem?_eq_getElem hkp⟩
      obtain ⟨b, o, ha, hLi⟩ : ∃ b o, a = some ⟨b, o, none⟩ ∧ Lies w b o ps := by
        rcases HL.out with h | h
        · rw [h] at hkp; exact absurd hkp (Nat.not_lt_zero _)
        · exact h
      subst ha
      obtain ⟨⟨ha0, ha1⟩, hb0, hb1⟩ := HRg.out p (List.mem_of_getElem? hp)
      obtain ⟨pa, pb⟩ := p
      obtain ⟨x, rfl⟩ : ∃ x : Nat, pa = (x : Int) := ⟨pa.toNat, by simp only at ha0; omega⟩
      simp only at ha0 ha1 hb0 hb1
      have HP : Hid (ps[k]? = some ⟨(x : Int), pb⟩) := hp
      have HLi : Hid (Lies wr b o ps) := hLi.below LV.out.bel hLi.1
      obtain ⟨d0, d1⟩ := HLi.out.pr hp
      simp only at d0 d1
      obtain ⟨r, hrx⟩ : ∃ r, rs[x]? = some r := ⟨_, List.getElem?_eq_getElem (by have := LV.out.len; omega)⟩
      have HRX : Hid (rs[x]? = some r) := hrx
      clear hLi hp hrx
      go_upto_region 5 with fail
      obtain ⟨w2, e2, hb2, hs2, B2⟩ := bx1 wr #[.int .i64 (x : Int), .int .i64 pb] 51
      rw [e2]
      have LV2 : Hid (Lv w.heap.size w.heap.size n w w2 rs) := LV.out.below hb2
      obtain ⟨q, hq⟩ : ∃ q, wr.heap.size = q := ⟨_, rfl⟩
      rw [hq] at B2 hs2 ⊢
      have HX2 : Hid (Bx w2 q #[.int .i64 (x : Int), .int .i64 pb] 51) := B2
      have HQ2 : Hid (w2.heap.size = q + 1) := hs2
      have HB2 : Hid (Below wr.heap.size wr w2) := hb2
      clear e2 hs2 B2 hb2 d0 d1
      obtain ⟨a1, c1, hv1, -, -⟩ := own_slice (LV2.out.she.get HRX.out)
      obtain ⟨rv, rn, rx⟩ := r
      simp only at hv1
      subst hv1
      obtain ⟨ys, hy1, hy2', hy3, hy4⟩ := HA.out x _ HRX.out
      simp only at hy1 hy2'
      have hrn : rn ≤ 17592186044416 := by rw [hy1]; rw [List.length_take] at hy3; omega
      have HYL : Hid (rn ≤ k) := by unfold Hid; rw [List.length_take] at hy3; omega
      clear hy1 hy2' hy3 hy4 ys
      have kc : IntKind.i32.wrap pb = pb := IntWalk.i32_in _ ⟨by omega, by omega⟩
      have hx0 : (0 : Int) ≤ (x : Int) := by omega
      have HSr : w2.cell? ⟨q, 0, none⟩ = some (.int .i64 (x : Int)) ∧ w2.cell? ⟨q, 1, none⟩ = some (.int .i64 pb) ∧ w2.cell? ⟨w.heap.size, x, none⟩ = some (.slice a1 rn c1) := ⟨HX2.out.cell 0, HX2.out.cell 1, (LV2.out.cell HRX.out).1⟩
      refine wp_region_G (fun z => z.cell? ⟨q, 0, none⟩ = some (.int .i64 (x : Int)) ∧ z.cell? ⟨q, 1, none⟩ = some (.int .i64 pb) ∧ z.cell? ⟨w.heap.size, x, none⟩ = some (.slice a1 rn c1)) 14 (by kernel_rfl) ?_
      refine wpAnyG_take (i := 0) (v := .slice (some ⟨w.heap.size, 0, none⟩) n n) rfl (by kernel_rfl) (by kernel_rfl) (by kernel_rfl) (fun _ _ _ h => h) (by kernel_rfl) (by kernel_rfl) (by kernel_rfl) (Or.inl ⟨by rfl, fun z hz => ?_⟩) HSr ?_
      · obtain ⟨hz0, hz1, hz2⟩ := hz
        go_simp
      try simp only [Act.put, List.setIfInBounds_toArray, List.set_cons_zero, List.set_cons_succ]
      refine wpAnyG_take (i := 1) (v := .pointer (some ⟨q, 0, none⟩)) rfl (by kernel_rfl) (by kernel_rfl) (by kernel_rfl) (fun _ _ _ h => h) (by kernel_rfl) (by kernel_rfl) (by kernel_rfl) (Or.inl ⟨by rfl, fun z hz => ?_⟩) HSr ?_
      · obtain ⟨hz0, hz1, hz2⟩ := hz
        go_simp
      try simp only [Act.put, List.setIfInBounds_toArray, List.set_cons_zero, List.set_cons_succ]
      refine wpAnyG_take (i := 2) (v := .int .i64 (x : Int)) rfl (by kernel_rfl) (by kernel_rfl) (by kernel_rfl) (fun _ _ _ h => h) (by kernel_rfl) (by kernel_rfl) (by kernel_rfl) (Or.inl ⟨by rfl, fun z hz => ?_⟩) HSr ?_
      · obtain ⟨hz0, hz1, hz2⟩ := hz
        go_simp
      try simp only [Act.put, List.setIfInBounds_toArray, List.set_cons_zero, List.set_cons_succ]
      refine wpAnyG_take (i := 3) (v := .slice (some ⟨w.heap.size, 0, none⟩) n n) rfl (by kernel_rfl) (by kernel_rfl) (by kernel_rfl) (fun _ _ _ h => h) (by kernel_rfl) (by kernel_rfl) (by kernel_rfl) (Or.inl ⟨by rfl, fun z hz => ?_⟩) HSr ?_
      · obtain ⟨hz0, hz1, hz2⟩ := hz
        go_simp
      try simp only [Act.put, List.setIfInBounds_toArray, List.set_cons_zero, List.set_cons_succ]
      refine wpAnyG_take (i := 4) (v := .pointer (some ⟨q, 0, none⟩)) rfl (by kernel_rfl) (by kernel_rfl) (by kernel_rfl) (fun _ _ _ h => h) (by kernel_rfl) (by kernel_rfl) (by kernel_rfl) (Or.inl ⟨by rfl, fun z hz => ?_⟩) HSr ?_
      · obtain ⟨hz0, hz1, hz2⟩ := hz
        go_simp
      try simp only [Act.put, List.setIfInBounds_toArray, List.set_cons_zero, List.set_cons_succ]
      refine wpAnyG_take (i := 5) (v := .int .i64 (x : Int)) rfl (by kernel_rfl) (by kernel_rfl) (by kernel_rfl) (fun _ _ _ h => h) (by kernel_rfl) (by kernel_rfl) (by kernel_rfl) (Or.inl ⟨by rfl, fun z hz => ?_⟩) HSr ?_
      · obtain ⟨hz0, hz1, hz2⟩ := hz
        go_simp
      try simp only [Act.put, List.setIfInBounds_toArray, List.set_cons_zero, List.set_cons_succ]
      refine wpAnyG_take (i := 6) (v := .pointer (some ⟨w.heap.size, x, none⟩)) rfl (by kernel_rfl) (by kernel_rfl) (by kernel_rfl) (fun _ _ _ h => h) (by kernel_rfl) (by kernel_rfl) (by kernel_rfl) (Or.inl ⟨by rfl, fun z hz => ?_⟩) HSr ?_
      · obtain ⟨hz0, hz1, hz2⟩ := hz
        go_simp
      try simp only [Act.put, List.setIfInBounds_toArray, List.set_cons_zero, List.set_cons_succ]
      refine wpAnyG_take (i := 7) (v := .slice a1 rn c1) rfl (by kernel_rfl) (by kernel_rfl) (by kernel_rfl) (fun _ _ _ h => h) (by kernel_rfl) (by kernel_rfl) (by kernel_rfl) (Or.inl ⟨by rfl, fun z hz => ?_⟩) HSr ?_
      · obtain ⟨hz0, hz1, hz2⟩ := hz
        go_simp
      try simp only [Act.put, List.setIfInBounds_toArray, List.set_cons_zero, List.set_cons_succ]
      refine wpAnyG_take (i := 8) (v := .pointer (some ⟨q, 1, none⟩)) rfl (by kernel_rfl) (by kernel_rfl) (by kernel_rfl) (fun _ _ _ h => h) (by kernel_rfl) (by kernel_rfl) (by kernel_rfl) (Or.inl ⟨by rfl, fun z hz => ?_⟩) HSr ?_
      · obtain ⟨hz0, hz1, hz2⟩ := hz
        go_simp
      try simp only [Act.put, List.setIfInBounds_toArray, List.set_cons_zero, List.set_cons_succ]
      refine wpAnyG_take (i := 9) (v := .int .i64 pb) rfl (by kernel_rfl) (by kernel_rfl) (by kernel_rfl) (fun _ _ _ h => h) (by kernel_rfl) (by kernel_rfl) (by kernel_rfl) (Or.inl ⟨by rfl, fun z hz => ?_⟩) HSr ?_
      · obtain ⟨hz0, hz1, hz2⟩ := hz
        go_simp
      try simp only [Act.put, List.setIfInBounds_toArray, List.set_cons_zero, List.set_cons_succ]
      refine wpAnyG_take (i := 10) (v := .int .i32 pb) rfl (by kernel_rfl) (by kernel_rfl) (by kernel_rfl) (fun _ _ _ h => h) (by kernel_rfl) (by kernel_rfl) (by kernel_rfl) (Or.inl ⟨by rfl, fun z hz => ?_⟩) HSr ?_
      · obtain ⟨hz0, hz1, hz2⟩ := hz
        go_simp
      try simp only [Act.put, List.setIfInBounds_toArray, List.set_cons_zero, List.set_cons_succ]
      refine wpAnyG_one (i := 11) (by kernel_rfl) rfl (fun K hK0 => ?_)
      have hK : Hid _ := hK0
      clear hK0
      go_simp
      obtain ⟨WA, hWA⟩ : ∃ WA, (w2.alloc (.cells #[Value.int .i32 pb] 21)).drew = WA := ⟨_, rfl⟩
      have hA : Below w2.heap.size w2 WA := by rw [← hWA]; exact ((Below.refl _ w2).alloc (Nat.le_refl _) _).drew
      have HNW : Hid (∀ j u, [Value.int .i32 pb][j]? = some u → WA.cell? ((⟨w2.heap.size, 0, none⟩ : Addr).add j) = some u) := by unfold Hid; rw [← hWA]; exact cells_newR w2 [Value.int .i32 pb] 21
      have HZA : Hid (WA.heap.size = w2.heap.size + 1) := by unfold Hid; rw [← hWA]; show (w2.alloc _).heap.size = _; simp
      have LA : Hid (Lv w.heap.size w.heap.size n w WA rs) := LV2.out.below hA
      have HSa : WA.cell? ⟨q, 0, none⟩ = some (.int .i64 (x : Int)) ∧ WA.cell? ⟨q, 1, none⟩ = some (.int .i64 pb) ∧ WA.cell? ⟨w.heap.size, x, none⟩ = some (.slice a1 rn c1) := ⟨(HX2.out.below hA HX2.out.lt).cell 0, (HX2.out.below hA HX2.out.lt).cell 1, (LA.out.cell HRX.out).1⟩
      rw [hWA]
      clear hWA
      refine hK.out _ _ (fun _ => HSa) ?_
      clear hK K
      try simp only [Act.put, List.setIfInBounds_toArray, List.set_cons_zero, List.set_cons_succ]
      refine wpAnyG_one (i := 12) (by kernel_rfl) rfl (fun K hK0 => ?_)
      have hK : Hid _ := hK0
      clear hK0
      refine step_append_lies _ (by rfl) _ _ _ (by rfl) w.heap.size 21 i1 (.int .i32 0) 1 4 Tryz.underlying76 hi1 hy0 hy1 hy2 rfl (by omega) (.slice a1 rn c1) rn rx (by rfl) (LA.out.she.get HRX.out) ⟨w2.heap.size, 0, none⟩ 1 1 [Value.int .i32 pb] (by rfl) (by rfl) HNW.out (by intro u hu; simp at hu; subst hu; rfl) (by omega) (by unfold maxLen; omega) (by omega) LA.out.base (w2.heap.size + 1) HZA.out ?_
      intro gg cp w9 hown9 hgrow9 hat9 hlt9
      have hrq : (Value.slice a1 rn c1).ownBlock ≠ some q := fun h => by
        have h1 := (LV.out.she.get HRX.out).lt q h
        omega
      have X9 : Hid (Bx w9 q #[.int .i64 (x : Int), .int .i64 pb] 51) := (HX2.out.below hA HX2.out.lt).grw hgrow9 hrq
      have hrV : (Value.slice a1 rn c1).ownBlock ≠ some w.heap.size := fun h => own_otherR LV2.out.she.outV (LV2.out.she.get HRX.out) (by decide) h rfl
      have hVl : w.heap.size < WA.heap.size := (LA.out.she.outV.lt w.heap.size rfl).2
      have cv9 : w9.cell? ⟨w.heap.size, x, none⟩ = some (.slice a1 rn c1) := (hgrow9.cell_far ⟨w.heap.size, x, none⟩ hVl (fun e => hrV e.symm)).trans HSa.2.2
      have fv9 : w9.frozen? ⟨w.heap.size, x, none⟩ = false := (hgrow9.frozen_far ⟨w.heap.size, x, none⟩ hVl (fun e => hrV e.symm)).trans (LA.out.cell HRX.out).2
      have HS9 : w9.cell? ⟨q, 0, none⟩ = some (.int .i64 (x : Int)) ∧ w9.cell? ⟨q, 1, none⟩ = some (.int .i64 pb) ∧ w9.cell? ⟨w.heap.size, x, none⟩ = some (.slice a1 rn c1) := ⟨X9.out.cell 0, X9.out.cell 1, cv9⟩
      have L9 : Hid (Lv w.heap.size w.heap.size n w (w9.setCell ⟨w.heap.size, x, none⟩ (.slice (some ⟨gg, 0, none⟩) (rn + 1) cp)) (rs.set x ⟨.slice (some ⟨gg, 0, none⟩) (rn + 1) cp, rn + 1, rx ++ [Value.int .i32 pb]⟩)) := LA.out.put HRX.out hown9 hgrow9 (hat9.elim (fun h => .inl h.symm) (fun h => .inr (by rw [h, HZA.out]; rfl)))
      clear hown9 hgrow9 hat9 hlt9
      refine hK.out _ _ (fun _ => HS9) ?_
      clear hK K
      try simp only [Act.put, List.setIfInBounds_toArray, List.set_cons_zero, List.set_cons_succ]
      refine wpAnyG_one (i := 13) (by kernel_rfl) rfl (fun K hK0 => ?_)
      have hK : Hid _ := hK0
      clear hK0
      go_simp
      refine hK.out _ _ (fun _ => HS9) ?_
      clear hK K
      try simp only [Act.put, List.setIfInBounds_toArray, List.set_cons_zero, List.set_cons_succ]
      refine wpAnyG_one (i := 14) (by kernel_rfl) rfl (fun K hK0 => ?_)
      have hK : Hid _ := hK0
      clear hK0
      go_simp
      refine hK.out _ _ (fun h => Bool.noConfusion (show true = false from h)) ?_
      clear hK K
      try simp only [Act.put, List.setIfInBounds_toArray, List.set_cons_zero, List.set_cons_succ]
      refine wpAnyG_done (by kernel_rfl) ?_ _
      go_wp2
      go_roundg (ps.length - (k + 1))
      case measure => omega
      case rel =>
        refine ⟨k + 1, _, rfl, by go_num, by omega, L9.out, ?_⟩
        have h9 := HA.out.more HRX.out (.slice (some ⟨gg, 0, none⟩) (rn + 1) cp) pb
        rw [List.take_add_one, HP.out]
        exact h9
    · have hkp' : ¬ (k : Int) < (ps.length : Int) := by omega
      have HA2 : Hid (Ad .i32 ps rs) := by unfold Hid; have h9 := HA.out; rw [List.take_of_length_le (by omega)] at h9; exact h9
      clear HA
      go_wp2
      go_loopg [34] n (fun gk si wr => ∃ (x : Nat) (rs : List Rr), gk = n - x ∧ si = .int .i64 (x : Int) ∧ x ≤ n ∧ Lv w.heap.size w.heap.size n w wr rs ∧ Ad .i32 ps rs ∧ Ups x rs)
      case atStart => exact ⟨0, _, rfl, rfl, Nat.zero_le _, LV.out, HA2.out, fun _ _ h => absurd h (Nat.not_lt_zero _)⟩
      case round =>
        obtain ⟨x, rs, hgk, rfl, hx, hLv, hAd, hUp⟩ := hrel
        have HU : Hid (Ups x rs) := hUp
        clear hUp
        clear LV HA2
        have LV : Hid (Lv w.heap.size w.heap.size n w wr rs) := hLv
        have HA : Hid (Ad .i32 ps rs) := hAd
        clear hLv hAd
        by_cases hxn : x < n
        · have hxn' : (x : Int) < (n : Int) := by omega
          obtain ⟨r, hrx⟩ : ∃ r, rs[x]? = some r := ⟨_, List.getElem?_eq_getElem (by have := LV.out.len; omega)⟩
          have HRX : Hid (rs[x]? = some r) := hrx
          obtain ⟨ys, hy1, hy2', hy3, hy4⟩ := HA.out x _ hrx
          obtain ⟨cv, fv⟩ := LV.out.cell hrx
          have HYS : Hid (r.n = ys.length ∧ r.xs = ys.map (Value.int .i32)) := ⟨hy1, hy2'⟩
          have hrn : r.n ≤ 17592186044416 := by omega
          rcases LV.out.she.toRow hrx hy1 hy2' with ⟨hv, h0⟩ | ⟨g, c, hv, hnc, hrow⟩
          · rw [hv] at cv
            have L9 : Hid (Lv w.heap.size w.heap.size n w (wr.setCell ⟨w.heap.size, x, none⟩ (.slice none 0 0)) (rs.set x ⟨.slice none 0 0, 0, []⟩)) := LV.out.put hrx (World.ownsRow_nil _ _ _ _) (World.grownBy.refl _ _) (.inl (by rw [hv]))
            have A9 : Hid (Ad .i32 ps (rs.set x ⟨.slice none 0 0, 0, []⟩)) := HA.out.again hrx (.slice none 0 0) ys [] hy2' hy1 (Nat.zero_le _) (fun y => by rw [h0])
            have U9 : Hid (Ups (x + 1) (rs.set x ⟨.slice none 0 0, 0, []⟩)) := HU.out.set _ _ [] List.Pairwise.nil
            clear hrx hy1 hy2' hy3 hy4 hv h0
            go_wp2_with (first
              | (go_at_call 45; (with_reducible refine (rising32_nil _).mono ?_); rintro e v1 ⟨rfl, rfl⟩)
              | (go_at_call 44; (with_reducible refine (compact_nil _).mono ?_); rintro e v1 ⟨rfl, rfl⟩))
            go_roundg (n - (x + 1))
            case measure => omega
            case rel => exact ⟨x + 1, _, rfl, by go_num, by omega, L9.out, A9.out, U9.out⟩
          · rw [hv] at cv
            have HROW : Hid (Row w.heap.size 21 g r.n c wr (ys.map Hn.mk)) := hrow
            have hgV : w.heap.size ≠ g := fun e => own_otherR LV.out.she.outV (LV.out.she.get hrx) (by decide) (show r.v.ownBlock = some g by rw [hv]; rfl) (by rw [← e]; rfl)
            have hVl : w.heap.size < wr.heap.size := (LV.out.she.outV.lt w.heap.size rfl).2
            have FIN : Hid (∀ v1 ys2 v v2, Sp w.heap.size g r.n c wr (ys.map Hn.mk) v1 ys2 → CmdS w.heap.size g r.n c v1 ys2 v v2 → ∃ k2, v = .slice (some ⟨g, 0, none⟩) k2 c ∧ v2.cell? ⟨w.heap.size, x, none⟩ = some (.slice (some ⟨g, 0, none⟩) r.n c) ∧ v2.frozen? ⟨w.heap.size, x, none⟩ = false ∧ ∃ rs2, Lv w.heap.size w.heap.size n w (v2.setCell ⟨w.heap.size, x, none⟩ (.slice (some ⟨g, 0, none⟩) k2 c)) rs2 ∧ Ad .i32 ps rs2 ∧ Ups (x + 1) rs2) := by
              rintro v1 ys2 v v2 hs ⟨k2, zs, rfl, hr2, ho2, hm2, hk2, hup2⟩
              have hone := hs.one.trans ho2
              have hblk := hone.keep w.heap.size hVl hgV
              have hk : k2 = zs.length := by rw [hr2.len]
              refine ⟨k2, rfl, (World.cell?_of_block (a := ⟨w.heap.size, x, none⟩) hblk).trans cv, (World.frozen?_of_block (a := ⟨w.heap.size, x, none⟩) hblk).trans fv, rs.set x ⟨.slice (some ⟨g, 0, none⟩) k2 c, (zs.map Hn.v).length, (zs.map Hn.v).map (Value.int .i32)⟩, ?_, ?_, HU.out.set _ _ (zs.map Hn.v) (List.pairwise_map.2 hup2)⟩
              · have hr3 : v2.ownsRow w.heap.size 21 1 (.slice (some ⟨g, 0, none⟩) k2 c) (zs.map Hn.v).length ((zs.map Hn.v).map (Value.int .i32)) := by rw [← flat_hns, List.length_map, ← hk]; exact hr2
                exact LV.out.put hrx hr3 (by rw [hv]; exact hone.grown) (.inl (by rw [hv]; rfl))
              · refine HA.out.again hrx _ ys (zs.map Hn.v) hy2' hy1 (by rw [List.length_map, ← hk]; omega) (fun y => ?_)
                rw [List.mem_map]
                constructor
                · rintro ⟨h, hh, rfl⟩
                  have := hs.perm.mem_iff.1 ((hm2 h).1 hh)
                  rw [List.mem_map] at this
                  obtain ⟨y, hy, rfl⟩ := this
                  exact hy
                · intro hy
                  exact ⟨⟨y⟩, (hm2 _).2 (hs.perm.mem_iff.2 (List.mem_map.2 ⟨y, hy, rfl⟩)), rfl⟩
            obtain ⟨rn, hrn2⟩ : ∃ rn, r.n = rn := ⟨_, rfl⟩
            rw [hrn2] at cv HROW FIN hnc hrn
            clear hrx hy1 hy2' hy3 hy4 hv hrow hrn2 HYS
            go_wp2_with (first
              | (go_at_call 45; (with_reducible refine (risingS_any w.heap.size g rn c _ wr HROW.out (by omega)).mono ?_); rintro e v1 ⟨rfl, ys2, hs1⟩; have S1 : Hid (Sp w.heap.size g rn c wr (ys.map Hn.mk) v1 ys2) := hs1.toSp; have U1 : Hid (Leq ys2) := hs1.up; clear hs1)
              | (go_at_call 44; (with_reducible refine (compactS_any w.heap.size g rn c ys2 v1 S1.out.row (by omega) hnc U1.out).mono ?_); rintro e v2 ⟨v, rfl, hc2⟩; obtain ⟨k2, rfl, cv2, fv2, rs2, l2, a2, u2⟩ := FIN.out v1 ys2 v v2 S1.out hc2; have U9 : Hid (Ups (x + 1) rs2) := u2; have L9 : Hid (Lv w.heap.size w.heap.size n w (v2.setCell ⟨w.heap.size, x, none⟩ (.slice (some ⟨g, 0, none⟩) k2 c)) rs2) := l2; have A9 : Hid (Ad .i32 ps rs2) := a2; clear l2 a2 u2 hc2))
            go_roundg (n - (x + 1))
            case measure => omega
            case rel => exact ⟨x + 1, _, rfl, by go_num, by omega, L9.out, A9.out, U9.out⟩
        · have hxn' : ¬ (x : Int) < (n : Int) := by omega
          go_wp2
          go_ret
          exact ⟨rfl, rs, LV.out, HA.out, fun y r hy hr => HU.out y r (by omega) hr⟩
end Go.Proofs.YtgijcbipnjmhgabGreat

namespace Go.Proofs.YtgijcbipnjmhgabGreat
open Go.ChangeShapes Go.WideShapes Go.ChangeAt Go.RowKit
set_option linter.unusedVariables false
set_option linter.unusedSimpArgs false

set_option maxRecDepth 1000000 in
set_option maxHeartbeats 4000000 in
theorem walkR_any (B bm bn bk bt gm gV n bo : Nat) (w0 : World) (rs : List Rr) (ps : List Pr) (T : List Nat → World → Prop) (hn : n ≤ 131072) (hA : Ad .i32 ps rs) (hps : ∀ p ∈ ps, 0 ≤ p.b ∧ p.b < (n : Int)) (hpl : ps.length ≤ 17592186044416)
    (hT : ∀ m t z x, Wc B bm bn bk bt gm gV n (.func (.func 25) #[] #[.pointer (some ⟨bo, 0, none⟩)]) w0 rs m z → T t z → T t (z.setCell ⟨gm, x, none⟩ (.bool true)))
    (htell : ∀ m t z (x : Nat), x < n → t.length < n → Wc B bm bn bk bt gm gV n (.func (.func 25) #[] #[.pointer (some ⟨bo, 0, none⟩)]) w0 rs m z → T t z → Calls Tryz.prog 25 (#[.int .i64 (x : Int), .pointer (some ⟨bo, 0, none⟩)]) z fun e z' => (∃ v, e = .returned v) ∧ Wc B bm bn bk bt gm gV n (.func (.func 25) #[] #[.pointer (some ⟨bo, 0, none⟩)]) w0 rs m z' ∧ T (t ++ [x]) z') :
    ∀ (k x : Nat) (m : List Bool) (t : List Nat) (z : World), x < n → unm m ≤ k → t.length + unm m ≤ n → Wc B bm bn bk bt gm gV n (.func (.func 25) #[] #[.pointer (some ⟨bo, 0, none⟩)]) w0 rs m z → T t z →
    Calls Tryz.prog 57 #[.int .i64 (x : Int), .pointer (some ⟨bm, 0, none⟩), .pointer (some ⟨bn, 0, none⟩), .pointer (some ⟨bk, 0, none⟩), .pointer (some ⟨bt, 0, none⟩)] z fun e z' => (∃ v, e = .returned v) ∧ ∃ m' t', Wc B bm bn bk bt gm gV n (.func (.func 25) #[] #[.pointer (some ⟨bo, 0, none⟩)]) w0 rs m' z' ∧ T t' z' ∧ Dq ps (Rch ps x) m t m' t' ∧ m'[x]? = some true := by
  intro k
  induction k using Nat.strongRecOn with
  | ind k ih =>
  intro x m t z hx hk hcn hW hTt
  have IH : Hid (∀ (y : Nat) (m2 : List Bool) (t2 : List Nat) (z : World), y < n → unm m2 < unm m → t2.length + unm m2 ≤ n → Wc B bm bn bk bt gm gV n (.func (.func 25) #[] #[.pointer (some ⟨bo, 0, none⟩)]) w0 rs m2 z → T t2 z → Calls Tryz.prog 57 #[.int .i64 (y : Int), .pointer (some ⟨bm, 0, none⟩), .pointer (some ⟨bn, 0, none⟩), .pointer (some ⟨bk, 0, none⟩), .pointer (some ⟨bt, 0, none⟩)] z fun e z' => (∃ v, e = .returned v) ∧ ∃ m' t', Wc B bm bn bk bt gm gV n (.func (.func 25) #[] #[.pointer (some ⟨bo, 0, none⟩)]) w0 rs m' z' ∧ T t' z' ∧ Dq ps (Rch ps y) m2 t2 m' t' ∧ m'[y]? = some true) := fun y m2 t2 z h1 h2 h3 h4 h5 => ih (unm m2) (by omega) y m2 t2 z h1 (Nat.le_refl _) h3 h4 h5
  have HW : Hid (Wc B bm bn bk bt gm gV n (.func (.func 25) #[] #[.pointer (some ⟨bo, 0, none⟩)]) w0 rs m z) := hW
  have HT : Hid (T t z) := hTt
  have HA : Hid (Ad .i32 ps rs) := hA
  have HPS : Hid (∀ p ∈ ps, 0 ≤ p.b ∧ p.b < (n : Int)) := hps
  have HT1 : Hid (∀ m t z x, Wc B bm bn bk bt gm gV n (.func (.func 25) #[] #[.pointer (some ⟨bo, 0, none⟩)]) w0 rs m z → T t z → T t (z.setCell ⟨gm, x, none⟩ (.bool true))) := hT
  have HTL : Hid (∀ m t z (x : Nat), x < n → t.length < n → Wc B bm bn bk bt gm gV n (.func (.func 25) #[] #[.pointer (some ⟨bo, 0, none⟩)]) w0 rs m z → T t z → Calls Tryz.prog 25 (#[.int .i64 (x : Int), .pointer (some ⟨bo, 0, none⟩)]) z fun e z' => (∃ v, e = .returned v) ∧ Wc B bm bn bk bt gm gV n (.func (.func 25) #[] #[.pointer (some ⟨bo, 0, none⟩)]) w0 rs m z' ∧ T (t ++ [x]) z') := htell
  clear ih hW hTt hA hps hT htell
  obtain ⟨b, hb⟩ : ∃ b, m[x]? = some b := ⟨_, List.getElem?_eq_getElem (by rw [HW.out.mlen]; exact hx)⟩
  have HBB : Hid (m[x]? = some b) := hb
  have c1 := HW.out.xm.one
  obtain ⟨cm, fm⟩ := HW.out.get hb
  have hx0 : (0 : Int) ≤ (x : Int) := by omega
  have hxn : (x : Int) < (n : Int) := by omega
  clear hb
  go_enter Tryz.func57, Tryz.ntmps57
  cases b with
  | true =>
    go_wp2
    refine bodyPost_ret (results_none rfl _ _ _) rfl ?_
    exact ⟨⟨_, rfl⟩, m, t, HW.out, HT.out, Dq.refl _ _ _ _, HBB.out⟩
  | false =>
    go_upto_region 2 with fail
    obtain ⟨z1, hz1⟩ : ∃ z1, z.setCell ⟨gm, x, none⟩ (.bool true) = z1 := ⟨_, rfl⟩
    have W1 : Hid (Wc B bm bn bk bt gm gV n (.func (.func 25) #[] #[.pointer (some ⟨bo, 0, none⟩)]) w0 rs (m.set x true) z1) := by unfold Hid; rw [← hz1]; exact HW.out.set x
    have T1 : Hid (T t z1) := by unfold Hid; rw [← hz1]; exact HT1.out m t z x HW.out HT.out
    rw [hz1]
    clear hz1 c1 cm fm
    obtain ⟨r, hrx⟩ : ∃ r, rs[x]? = some r := ⟨_, List.getElem?_eq_getElem (by rw [W1.out.lv.len]; exact hx)⟩
    obtain ⟨ys, hy1, hy2, hy3, hy4⟩ := HA.out x r hrx
    obtain ⟨a1, ca, hv1, -, -⟩ := own_slice (W1.out.lv.she.get hrx)
    have HRX : Hid (rs[x]? = some r) := hrx
    have HY : Hid (r.xs = ys.map (Value.int .i32) ∧ ∀ y, y ∈ ys ↔ (⟨(x : Int), y⟩ : Pr) ∈ ps) := ⟨hy2, hy4⟩
    have HV : Hid (r.v = .slice a1 r.n ca) := hv1
    have cn := W1.out.xn.one
    have cr := (W1.out.lv.cell hrx).1
    rw [hv1, hy1] at cr
    have hyl : ys.length ≤ 17592186044416 := by omega
    have HN : Hid (r.n = ys.length) := hy1
    clear hrx hy1 hy2 hy3 hy4 hv1
    go_wp2
    clear cn cr
    go_loopg [20] ys.length (fun gk si wr => ∃ (j : Nat) (m1 : List Bool) (t1 : List Nat), gk = ys.length - j ∧ si = .int .i64 (j : Int) ∧ j ≤ ys.length ∧ Wc B bm bn bk bt gm gV n (.func (.func 25) #[] #[.pointer (some ⟨bo, 0, none⟩)]) w0 rs m1 wr ∧ T t1 wr ∧ Dq ps (Rch ps x) (m.set x true) t m1 t1 ∧ ∀ (i : Nat) (y : Nat), i < j → ys[i]? = some (y : Int) → m1[y]? = some true)
    case atStart => exact ⟨0, _, _, rfl, rfl, Nat.zero_le _, W1.out, T1.out, Dq.refl _ _ _ _, fun i y h => absurd h (Nat.not_lt_zero _)⟩
    case round =>
      obtain ⟨j, m1, t1, hgk, rfl, hj, hW1, hT1, hD1, hd1⟩ := hrel
      clear W1 T1
      have W1 : Hid (Wc B bm bn bk bt gm gV n (.func (.func 25) #[] #[.pointer (some ⟨bo, 0, none⟩)]) w0 rs m1 wr) := hW1
      have T1 : Hid (T t1 wr) := hT1
      have D1 : Hid (Dq ps (Rch ps x) (m.set x true) t m1 t1) := hD1
      have E1 : Hid (∀ (i : Nat) (y : Nat), i < j → ys[i]? = some (y : Int) → m1[y]? = some true) := hd1
      clear hW1 hT1 hD1 hd1
      by_cases hjy : j < ys.length
      · have hjy' : (j : Int) < (ys.length : Int) := by omega
        obtain ⟨y, hy⟩ : ∃ y, ys[j]? = some y := ⟨_, List.getElem?_eq_getElem hjy⟩
        have hmem := (HY.out.2 y).1 (List.mem_of_getElem? hy)
        obtain ⟨hy0, hyn⟩ := HPS.out _ hmem
        obtain ⟨yn, rfl⟩ : ∃ yn : Nat, y = (yn : Int) := ⟨y.toNat, by simp only at hy0; omega⟩
        simp only at hy0 hyn
        have HYJ : Hid (ys[j]? = some (yn : Int) ∧ (⟨(x : Int), (yn : Int)⟩ : Pr) ∈ ps) := ⟨hy, hmem⟩
        obtain ⟨g, ha⟩ : ∃ g, a1 = some ⟨g, 0, none⟩ := by
          obtain ⟨a9, c9, hv9, h9, -⟩ := own_slice (W1.out.lv.she.get HRX.out)
          rw [HV.out] at hv9
          simp only [Value.slice.injEq] at hv9
          obtain ⟨rfl, -, rfl⟩ := hv9
          exact h9 (by rw [HN.out]; omega)
        subst ha
        have cy : wr.cell? ⟨g, j, none⟩ = some (.int .i32 (yn : Int)) := by
          have h9 := W1.out.lv.she.get HRX.out
          rw [HV.out, HY.out.1] at h9
          have h8 := h9.cells rfl j (.int .i32 (yn : Int)) (by rw [List.getElem?_map, hy]; rfl)
          rwa [addr_add, Nat.zero_add] at h8
        have ck := W1.out.xk.one
        have kw : IntKind.i64.wrap (yn : Int) = (yn : Int) := IntWalk.i64_in _ ⟨by omega, by omega⟩
        have hlt : unm m1 < unm m := by
          have h8 := D1.out.unm_le
          have h9 := unm_set m x HBB.out
          omega
        have hc1 : t1.length + unm m1 ≤ n := by
          have h8 := D1.out.cnt
          have h9 := unm_set m x HBB.out
          omega
        clear hy hmem
        go_wp2_with (go_at_call 57; (with_reducible refine (IH.out yn m1 t1 wr (by omega) hlt hc1 W1.out T1.out).mono ?_); rintro e v1 ⟨⟨v, rfl⟩, m2, t2, hW2, hT2, hD2, hm2⟩; have W2 : Hid (Wc B bm bn bk bt gm gV n (.func (.func 25) #[] #[.pointer (some ⟨bo, 0, none⟩)]) w0 rs m2 v1) := hW2; have T2 : Hid (T t2 v1) := hT2; have D2 : Hid (Dq ps (Rch ps yn) m1 t1 m2 t2) := hD2; have M2 : Hid (m2[yn]? = some true) := hm2; clear hW2 hT2 hD2 hm2)
        go_roundg (ys.length - (j + 1))
        case measure => omega
        case rel =>
          refine ⟨j + 1, m2, t2, rfl, by go_num, by omega, W2.out, T2.out, D1.out.trans D2.out (fun y h => .step HYJ.out.2 h), fun i y hi hyi => ?_⟩
          rcases Nat.lt_succ_iff_lt_or_eq.1 hi with h | h
          · exact D2.out.mono y (E1.out i y h hyi)
          · subst h
            have h9 := HYJ.out.1
            rw [hyi] at h9
            have h8 : y = yn := by have := Option.some.inj h9; omega
            rw [h8]
            exact M2.out
      · have hjy' : ¬ (j : Int) < (ys.length : Int) := by omega
        have ct := W1.out.xt.one
        have hc1 : t1.length < n := by
          have h8 := D1.out.cnt
          have h9 := unm_set m x HBB.out
          omega
        go_wp2_with (go_at_call 25; (with_reducible refine (HTL.out m1 t1 wr x hx hc1 W1.out T1.out).mono ?_); rintro e v1 ⟨⟨v, rfl⟩, hW2, hT2⟩; have W2 : Hid (Wc B bm bn bk bt gm gV n (.func (.func 25) #[] #[.pointer (some ⟨bo, 0, none⟩)]) w0 rs m1 v1) := hW2; have T2 : Hid (T (t1 ++ [x]) v1) := hT2; clear hW2 hT2)
        go_end0
        refine ⟨⟨_, rfl⟩, m1, t1 ++ [x], W2.out, T2.out, Dq.node HBB.out D1.out (fun y' he => ?_), D1.out.mono x (by rw [List.getElem?_set, if_pos rfl, if_pos (by rw [HW.out.mlen]; exact hx)])⟩
        obtain ⟨i, hi⟩ := List.getElem?_of_mem ((HY.out.2 (y' : Int)).2 he)
        exact E1.out i y' (by have := (List.getElem?_eq_some_iff.1 hi).1; omega) hi
end Go.Proofs.YtgijcbipnjmhgabGreat
