import Derived.Test.YtgijcbipnjmhgabGreatGr1
import Derived.Test.YtgijcbipnjmhgabGreatKs0
import Derived.OwnWalk
namespace Go.Proofs.YtgijcbipnjmhgabGreat
open Go.ChangeShapes Go.WideShapes Go.ChangeAt Go.RowKit
set_option linter.unusedVariables false
set_option linter.unusedSimpArgs false

/-- the rows of the lists, while they are made -/
structure Lw (B gV n : Nat) (w0 w : World) (rs : List Rr) : Prop where
  she : She 3 32 1 B w (.slice (some ⟨gV, 0, none⟩) n n) (.slice none 0 0) rs []
  len : rs.length = n
  bel : Below B w0 w
  base : B ≤ w.heap.size
theorem Lw.below {B gV n : Nat} {w0 w w' : World} {rs : List Rr} (h : Lw B gV n w0 w rs) (hb : Below w.heap.size w w') : Lw B gV n w0 w' rs :=
  ⟨h.she.below hb, h.len, h.bel.trans (hb.mono h.base), Nat.le_trans h.base hb.size⟩
theorem Lw.cell {B gV n : Nat} {w0 w : World} {rs : List Rr} (h : Lw B gV n w0 w rs) {x : Nat} {r : Rr} (hr : rs[x]? = some r) : w.cell? ⟨gV, x, none⟩ = some r.v ∧ w.frozen? ⟨gV, x, none⟩ = false := by
  obtain ⟨g, c, hV, h1, h2⟩ := h.she.cellV hr
  simp only [Value.slice.injEq, Option.some.injEq, Addr.mk.injEq] at hV
  obtain ⟨⟨rfl, -, -⟩, -, -⟩ := hV
  exact ⟨h1, h2⟩
theorem Lw.put {B gV n n9 : Nat} {w0 w w9 : World} {rs : List Rr} {v9 : Value} {xs9 : List Value} (h : Lw B gV n w0 w rs) {x : Nat} {r : Rr} (hr : rs[x]? = some r) (hown : w9.ownsRow B 3 1 v9 n9 xs9) (hg : w.grownBy w9 r.v.ownBlock) (hat : v9.ownBlock = r.v.ownBlock ∨ v9.ownBlock = some w.heap.size) : Lw B gV n w0 (w9.setCell ⟨gV, x, none⟩ v9) (rs.set x ⟨v9, n9, xs9⟩) := by
  have hgV := (h.she.outV.lt gV rfl).1
  refine ⟨h.she.put (by decide) hr hown hg hat (by rw [h.len]), by rw [List.length_set]; exact h.len, (h.bel.grown hg h.base (fun g hgr => ((h.she.get hr).lt g hgr).1)).setCell (p := ⟨gV, x, none⟩) hgV _, ?_⟩
  have := hg.size
  have := h.base
  simp
  omega


set_option maxRecDepth 1000000 in
set_option maxHeartbeats 4000000 in
theorem rows1_any (n cap : Nat) (a : Option Addr) (ps : List Pr) (w : World) (hL : LiesA w a ps) (hn : n ≤ 131072) (hm : ps.length ≤ 8796093022208) (hr : ∀ p ∈ ps, (0 ≤ p.a ∧ p.a < (n : Int)) ∧ (0 ≤ p.b ∧ p.b < (n : Int))) :
    Calls Tryz.prog 30 #[.int .i64 (n : Int), .slice a ps.length cap, .int .i64 1] w fun e w' => e = .returned (.slice (some ⟨w.heap.size, 0, none⟩) n n) ∧ ∃ rs, Lw w.heap.size w.heap.size n w w' rs ∧ Ad .i64 ps rs := by
  obtain ⟨i0, hi0, hz0, hz1, hz2⟩ := info_parts infoRowI
  obtain ⟨i1, hi1, hy0, hy1, hy2⟩ := info_parts infoInt
  have HL : Hid (LiesA w a ps) := hL
  have HRg : Hid (∀ p ∈ ps, (0 ≤ p.a ∧ p.a < (n : Int)) ∧ (0 ≤ p.b ∧ p.b < (n : Int))) := hr
  clear hL hr
  go_enter Tryz.func30, Tryz.ntmps30
  go_wp2_with (at_make; refine wpList_make_full _ rfl _ _ 26 rfl w.heap.size 32 i0 (.slice none 0 0) 1 Tryz.underlying26 hi0 hz0 hz1 _ _ _ _ n rfl rfl rfl rfl (by rw [hz2]; omega) (by unfold maxLen; omega) (Nat.le_refl _) ?_; intro w1 hown1 hgr1; have L1 : Hid (Lw w.heap.size w.heap.size n w w1 (List.replicate n ⟨.slice none 0 0, 0, []⟩)) := ⟨She.made (by have h9 := rep_made (.slice none 0 0) n; rw [show (Value.slice none 0 0).cells = #[.slice none 0 0] by rfl] at hown1; rw [h9] at hown1; exact hown1), by simp, (Below.refl _ w).grown hgr1 (Nat.le_refl _) (fun k h => by cases h), hgr1.size⟩; clear hown1 hgr1)
  go_loopg [8] ps.length (fun gk si wr => ∃ (k : Nat) (rs : List Rr), gk = ps.length - k ∧ si = .int .i64 (k : Int) ∧ k ≤ ps.length ∧ Lw w.heap.size w.heap.size n w wr rs ∧ Ad .i64 (ps.take k) rs)
  case atStart => exact ⟨0, _, rfl, rfl, Nat.zero_le _, L1.out, Ad.start n⟩
  case round =>
    obtain ⟨k, rs, hgk, rfl, hk, hLv, hAd⟩ := hrel
    clear L1
    have LV : Hid (Lw w.heap.size w.heap.size n w wr rs) := hLv
    have HA : Hid (Ad .i64 (ps.take k) rs) := hAd
    clear hLv hAd
    by_cases hkp : k < ps.length
    · have hkp' : (k : Int) < (ps.length : Int) := by omega
      obtain ⟨p, hp⟩ : ∃ p, ps[k]? = some p := ⟨_, List.getElem?_eq_getElem hkp⟩
      obtain ⟨b, o, ha, hLi⟩ : ∃ b o, a = some ⟨b, o, none⟩ ∧ Lies w b o ps := by
        rcases HL.out with h | h
        · rw [h] at hkp; exact absurd hkp (Nat.not_lt_zero _)
        · exact h
      subst ha
      obtain ⟨⟨ha0, ha1⟩, hb0, hb1⟩ := HRg.out p (List.mem_of_getElem? hp)
      obtain ⟨pa, pb⟩ := p
      obtain ⟨x, rfl⟩ : ∃ x : Nat, pa = (x : Int) := ⟨pa.toNat, by simp only at ha0 hb0; omega⟩
      simp only at ha0 ha1 hb0 hb1
      have HP : Hid (ps[k]? = some ⟨(x : Int), pb⟩) := hp
      have HLi : Hid (Lies wr b o ps) := hLi.below LV.out.bel hLi.1
      have HBW : Hid (b < w.heap.size ∧ w.heap.size ≤ wr.heap.size) := ⟨hLi.1, LV.out.base⟩
      obtain ⟨d0, d1⟩ := HLi.out.pr hp
      simp only at d0 d1
      obtain ⟨r, hrx⟩ : ∃ r, rs[x]? = some r := ⟨_, List.getElem?_eq_getElem (by have := LV.out.len; omega)⟩
      have HRX : Hid (rs[x]? = some r) := hrx
      clear hLi hp hrx
      go_upto_region 6 with fail
      obtain ⟨a1, c1, hv1, -, -⟩ := own_slice (LV.out.she.get HRX.out)
      obtain ⟨rv, rn, rx⟩ := r
      simp only at hv1
      subst hv1
      obtain ⟨ys, hy1, hy2', hy3, hy4⟩ := HA.out x _ HRX.out
      simp only at hy1 hy2'
      have hrn : rn ≤ 8796093022208 := by rw [hy1]; rw [List.length_take] at hy3; omega
      clear hy1 hy2' hy3 hy4 ys
      have hx0 : (0 : Int) ≤ (x : Int) := by omega
      have hxn2 : (x : Int) < (n : Int) := by omega
      have hk0 : (0 : Int) ≤ (k : Int) := by omega
      have HSr : wr.cell? ⟨b, o + k * 2 + 1, none⟩ = some (.int .i64 pb) ∧ wr.cell? ⟨w.heap.size, x, none⟩ = some (.slice a1 rn c1) := ⟨d1, (LV.out.cell HRX.out).1⟩
      refine wp_region_G (fun z => z.cell? ⟨b, o + k * 2 + 1, none⟩ = some (.int .i64 pb) ∧ z.cell? ⟨w.heap.size, x, none⟩ = some (.slice a1 rn c1)) 15 (by kernel_rfl) ?_
      refine wpAnyG_take (i := 0) (v := .slice (some ⟨w.heap.size, 0, none⟩) n n) rfl (by kernel_rfl) (by kernel_rfl) (by kernel_rfl) (fun _ _ _ h => h) (by kernel_rfl) (by kernel_rfl) (by kernel_rfl) (Or.inl ⟨by rfl, fun z hz => ?_⟩) HSr ?_
      · obtain ⟨hz0, hz1⟩ := hz
        go_simp
      try simp only [Act.put, List.setIfInBounds_toArray, List.set_cons_zero, List.set_cons_succ]
      refine wpAnyG_take (i := 1) (v := .int .i64 (x : Int)) rfl (by kernel_rfl) (by kernel_rfl) (by kernel_rfl) (fun _ _ _ h => h) (by kernel_rfl) (by kernel_rfl) (by kernel_rfl) (Or.inl ⟨by rfl, fun z hz => ?_⟩) HSr ?_
      · obtain ⟨hz0, hz1⟩ := hz
        go_simp
      try simp only [Act.put, List.setIfInBounds_toArray, List.set_cons_zero, List.set_cons_succ]
      refine wpAnyG_take (i := 2) (v := .slice (some ⟨w.heap.size, 0, none⟩) n n) rfl (by kernel_rfl) (by kernel_rfl) (by kernel_rfl) (fun _ _ _ h => h) (by kernel_rfl) (by kernel_rfl) (by kernel_rfl) (Or.inl ⟨by rfl, fun z hz => ?_⟩) HSr ?_
      · obtain ⟨hz0, hz1⟩ := hz
        go_simp
      try simp only [Act.put, List.setIfInBounds_toArray, List.set_cons_zero, List.set_cons_succ]
      refine wpAnyG_take (i := 3) (v := .int .i64 (x : Int)) rfl (by kernel_rfl) (by kernel_rfl) (by kernel_rfl) (fun _ _ _ h => h) (by kernel_rfl) (by kernel_rfl) (by kernel_rfl) (Or.inl ⟨by rfl, fun z hz => ?_⟩) HSr ?_
      · obtain ⟨hz0, hz1⟩ := hz
        go_simp
      try simp only [Act.put, List.setIfInBounds_toArray, List.set_cons_zero, List.set_cons_succ]
      refine wpAnyG_take (i := 4) (v := .pointer (some ⟨w.heap.size, x, none⟩)) rfl (by kernel_rfl) (by kernel_rfl) (by kernel_rfl) (fun _ _ _ h => h) (by kernel_rfl) (by kernel_rfl) (by kernel_rfl) (Or.inl ⟨by rfl, fun z hz => ?_⟩) HSr ?_
      · obtain ⟨hz0, hz1⟩ := hz
        go_simp
      try simp only [Act.put, List.setIfInBounds_toArray, List.set_cons_zero, List.set_cons_succ]
      refine wpAnyG_take (i := 5) (v := .slice a1 rn c1) rfl (by kernel_rfl) (by kernel_rfl) (by kernel_rfl) (fun _ _ _ h => h) (by kernel_rfl) (by kernel_rfl) (by kernel_rfl) (Or.inl ⟨by rfl, fun z hz => ?_⟩) HSr ?_
      · obtain ⟨hz0, hz1⟩ := hz
        go_simp
      try simp only [Act.put, List.setIfInBounds_toArray, List.set_cons_zero, List.set_cons_succ]
      refine wpAnyG_take (i := 6) (v := .slice (some ⟨b, o, none⟩) ps.length cap) rfl (by kernel_rfl) (by kernel_rfl) (by kernel_rfl) (fun _ _ _ h => h) (by kernel_rfl) (by kernel_rfl) (by kernel_rfl) (Or.inl ⟨by rfl, fun z hz => ?_⟩) HSr ?_
      · obtain ⟨hz0, hz1⟩ := hz
        go_simp
      try simp only [Act.put, List.setIfInBounds_toArray, List.set_cons_zero, List.set_cons_succ]
      refine wpAnyG_take (i := 7) (v := .int .i64 (k : Int)) rfl (by kernel_rfl) (by kernel_rfl) (by kernel_rfl) (fun _ _ _ h => h) (by kernel_rfl) (by kernel_rfl) (by kernel_rfl) (Or.inl ⟨by rfl, fun z hz => ?_⟩) HSr ?_
      · obtain ⟨hz0, hz1⟩ := hz
        go_simp
      try simp only [Act.put, List.setIfInBounds_toArray, List.set_cons_zero, List.set_cons_succ]
      refine wpAnyG_take (i := 8) (v := .int .i64 1) rfl (by kernel_rfl) (by kernel_rfl) (by kernel_rfl) (fun _ _ _ h => h) (by kernel_rfl) (by kernel_rfl) (by kernel_rfl) (Or.inl ⟨by rfl, fun z hz => ?_⟩) HSr ?_
      · obtain ⟨hz0, hz1⟩ := hz
        go_simp
      try simp only [Act.put, List.setIfInBounds_toArray, List.set_cons_zero, List.set_cons_succ]
      refine wpAnyG_take (i := 9) (v := .pointer (some ⟨b, o + k * 2, none⟩)) rfl (by kernel_rfl) (by kernel_rfl) (by kernel_rfl) (fun _ _ _ h => h) (by kernel_rfl) (by kernel_rfl) (by kernel_rfl) (Or.inl ⟨by rfl, fun z hz => ?_⟩) HSr ?_
      · obtain ⟨hz0, hz1⟩ := hz
        go_simp
      try simp only [Act.put, List.setIfInBounds_toArray, List.set_cons_zero, List.set_cons_succ]
      refine wpAnyG_take (i := 10) (v := .pointer (some ⟨b, o + k * 2 + 1, none⟩)) rfl (by kernel_rfl) (by kernel_rfl) (by kernel_rfl) (fun _ _ _ h => h) (by kernel_rfl) (by kernel_rfl) (by kernel_rfl) (Or.inl ⟨by rfl, fun z hz => ?_⟩) HSr ?_
      · obtain ⟨hz0, hz1⟩ := hz
        go_simp
      try simp only [Act.put, List.setIfInBounds_toArray, List.set_cons_zero, List.set_cons_succ]
      refine wpAnyG_take (i := 11) (v := .int .i64 pb) rfl (by kernel_rfl) (by kernel_rfl) (by kernel_rfl) (fun _ _ _ h => h) (by kernel_rfl) (by kernel_rfl) (by kernel_rfl) (Or.inl ⟨by rfl, fun z hz => ?_⟩) HSr ?_
      · obtain ⟨hz0, hz1⟩ := hz
        go_simp
      try simp only [Act.put, List.setIfInBounds_toArray, List.set_cons_zero, List.set_cons_succ]
      refine wpAnyG_one (i := 12) (by kernel_rfl) rfl (fun K hK0 => ?_)
      have hK : Hid _ := hK0
      clear hK0
      go_simp
      obtain ⟨WA, hWA⟩ : ∃ WA, (wr.alloc (.cells #[Value.int .i64 pb] 3)).drew = WA := ⟨_, rfl⟩
      have hA : Below wr.heap.size wr WA := by rw [← hWA]; exact ((Below.refl _ wr).alloc (Nat.le_refl _) _).drew
      have HNW : Hid (∀ j u, [Value.int .i64 pb][j]? = some u → WA.cell? ((⟨wr.heap.size, 0, none⟩ : Addr).add j) = some u) := by unfold Hid; rw [← hWA]; exact cells_newR wr [Value.int .i64 pb] 3
      have HZA : Hid (WA.heap.size = wr.heap.size + 1) := by unfold Hid; rw [← hWA]; show (wr.alloc _).heap.size = _; simp
      have LA : Hid (Lw w.heap.size w.heap.size n w WA rs) := LV.out.below hA
      have HSa : WA.cell? ⟨b, o + k * 2 + 1, none⟩ = some (.int .i64 pb) ∧ WA.cell? ⟨w.heap.size, x, none⟩ = some (.slice a1 rn c1) := ⟨(hA.cell (p := ⟨b, o + k * 2 + 1, none⟩) HLi.out.1).trans HSr.1, (LA.out.cell HRX.out).1⟩
      rw [hWA]
      clear hWA
      refine hK.out _ _ (fun _ => HSa) ?_
      clear hK K
      try simp only [Act.put, List.setIfInBounds_toArray, List.set_cons_zero, List.set_cons_succ]
      refine wpAnyG_one (i := 13) (by kernel_rfl) rfl (fun K hK0 => ?_)
      have hK : Hid _ := hK0
      clear hK0
      refine step_append_lies _ (by rfl) _ _ _ (by rfl) w.heap.size 3 i1 (.int .i64 0) 1 8 Tryz.underlying32 hi1 hy0 hy1 hy2 rfl (by omega) (.slice a1 rn c1) rn rx (by rfl) (LA.out.she.get HRX.out) ⟨wr.heap.size, 0, none⟩ 1 1 [Value.int .i64 pb] (by rfl) (by rfl) HNW.out (by intro u hu; simp at hu; subst hu; rfl) (by omega) (by unfold maxLen; omega) (by omega) LA.out.base (wr.heap.size + 1) HZA.out ?_
      intro gg cp w9 hown9 hgrow9 hat9 hlt9
      have hrb : (Value.slice a1 rn c1).ownBlock ≠ some b := fun h => by
        have h1 := (LV.out.she.get HRX.out).lt b h
        have h2 := HBW.out
        omega
      have hrV : (Value.slice a1 rn c1).ownBlock ≠ some w.heap.size := fun h => own_otherR LV.out.she.outV (LV.out.she.get HRX.out) (by decide) h rfl
      have hVl : w.heap.size < WA.heap.size := (LA.out.she.outV.lt w.heap.size rfl).2
      have hbl : b < WA.heap.size := by have := HBW.out; omega
      have cv9 : w9.cell? ⟨w.heap.size, x, none⟩ = some (.slice a1 rn c1) := (hgrow9.cell_far ⟨w.heap.size, x, none⟩ hVl (fun e => hrV e.symm)).trans HSa.2
      have fv9 : w9.frozen? ⟨w.heap.size, x, none⟩ = false := (hgrow9.frozen_far ⟨w.heap.size, x, none⟩ hVl (fun e => hrV e.symm)).trans (LA.out.cell HRX.out).2
      have HS9 : w9.cell? ⟨b, o + k * 2 + 1, none⟩ = some (.int .i64 pb) ∧ w9.cell? ⟨w.heap.size, x, none⟩ = some (.slice a1 rn c1) := ⟨(hgrow9.cell_far ⟨b, o + k * 2 + 1, none⟩ hbl (fun e => hrb e.symm)).trans HSa.1, cv9⟩
      have L9 : Hid (Lw w.heap.size w.heap.size n w (w9.setCell ⟨w.heap.size, x, none⟩ (.slice (some ⟨gg, 0, none⟩) (rn + 1) cp)) (rs.set x ⟨.slice (some ⟨gg, 0, none⟩) (rn + 1) cp, rn + 1, rx ++ [Value.int .i64 pb]⟩)) := LA.out.put HRX.out hown9 hgrow9 (hat9.elim (fun h => .inl h.symm) (fun h => .inr (by rw [h, HZA.out]; rfl)))
      clear hown9 hgrow9 hat9 hlt9
      refine hK.out _ _ (fun _ => HS9) ?_
      clear hK K
      try simp only [Act.put, List.setIfInBounds_toArray, List.set_cons_zero, List.set_cons_succ]
      refine wpAnyG_one (i := 14) (by kernel_rfl) rfl (fun K hK0 => ?_)
      have hK : Hid _ := hK0
      clear hK0
      go_simp
      refine hK.out _ _ (fun _ => HS9) ?_
      clear hK K
      try simp only [Act.put, List.setIfInBounds_toArray, List.set_cons_zero, List.set_cons_succ]
      refine wpAnyG_one (i := 15) (by kernel_rfl) rfl (fun K hK0 => ?_)
      have hK : Hid _ := hK0
      clear hK0
      go_simp
      refine hK.out _ _ (fun h => Bool.noConfusion (show true = false from h)) ?_
      clear hK K
      try simp only [Act.put, List.setIfInBounds_toArray, List.set_cons_zero, List.set_cons_succ]
      refine wpAnyG_done (by kernel_rfl) ?_ _
      go_wp2
      go_roundg (ps.length - (k + 1))
      case measure => omega
      case rel =>
        refine ⟨k + 1, _, rfl, by go_num, by omega, L9.out, ?_⟩
        have h9 := HA.out.more HRX.out (.slice (some ⟨gg, 0, none⟩) (rn + 1) cp) pb
        rw [List.take_add_one, HP.out]
        exact h9
    · have hkp' : ¬ (k : Int) < (ps.length : Int) := by omega
      have HA2 : Hid (Ad .i64 ps rs) := by unfold Hid; have h9 := HA.out; rw [List.take_of_length_le (by first | omega | (rw [List.length_map]; omega))] at h9; exact h9
      go_wp2
      go_ret
      exact ⟨rfl, rs, LV.out, HA2.out⟩
end Go.Proofs.YtgijcbipnjmhgabGreat

namespace Go.Proofs.YtgijcbipnjmhgabGreat
open Go.ChangeShapes Go.WideShapes Go.ChangeAt Go.RowKit
set_option linter.unusedVariables false
set_option linter.unusedSimpArgs false

theorem Bx.neR {w : World} {b B e s n g : Nat} {vs : Array Value} {t : TypeId} {v : Value} {xs : List Value} (h : Bx w b vs t) (h' : w.ownsRow B e s v n xs) (hne : e ≠ t) (hg : v.ownBlock = some g) : b ≠ g := by
  intro e1
  obtain ⟨c, fz, hh⟩ := row_kindR h' g hg
  have h2 : w.heap[b]? = _ := h
  rw [e1, hh] at h2
  cases h2
  exact hne rfl
theorem Bx.ne {w : World} {b g : Nat} {vs us : Array Value} {t u : TypeId} (h : Bx w b vs t) (h' : Bx w g us u) (hne : t ≠ u) : b ≠ g := by
  intro e1
  have h2 : w.heap[b]? = _ := h
  have h3 : w.heap[g]? = _ := h'
  rw [e1, h3] at h2
  cases h2
  exact hne rfl
/-- a cell of another block is written -/
theorem Lv.far {B gV n g i : Nat} {w0 w : World} {rs : List Rr} {x : Value} (h : Lv B gV n w0 w rs) (hV : gV ≠ g) (hr : ∀ r ∈ rs, r.v.ownBlock ≠ some g) (hB : B ≤ g) : Lv B gV n w0 (w.setCell ⟨g, i, none⟩ x) rs := by
  refine ⟨⟨ownsRow_setCell_other h.she.outV (a := ⟨g, i, none⟩) (fun e => by cases e; exact hV rfl) _, World.ownsRow_nil _ _ _ _, fun r hr' => ?_, h.she.apart, h.she.outs⟩, h.len, h.bel.setCell (p := ⟨g, i, none⟩) hB _, by simp; exact h.base⟩
  rw [List.append_nil] at hr'
  exact ownsRow_setCell_other (h.she.each r (by rw [List.append_nil]; exact hr')) (a := ⟨g, i, none⟩) (hr r hr') _
theorem Lv.farRow {B gV n e s k i : Nat} {w0 w : World} {rs : List Rr} {v x : Value} {xs : List Value} {g : Nat} (h : Lv B gV n w0 w rs) (h' : w.ownsRow B e s v k xs) (h1 : e ≠ 21) (h2 : e ≠ 76) (hg : v.ownBlock = some g) : Lv B gV n w0 (w.setCell ⟨g, i, none⟩ x) rs :=
  h.far (fun e => own_otherR h.she.outV h' h2 hg (by rw [← e]; rfl)) (fun r hr => own_otherR (h.she.each r (by rw [List.append_nil]; exact hr)) h' h1 hg) (h'.lt g hg).1
theorem Lv.farBox {B gV n i : Nat} {w0 w : World} {rs : List Rr} {x : Value} {b : Nat} {vs : Array Value} {t : TypeId} (h : Lv B gV n w0 w rs) (h' : Bx w b vs t) (h1 : 21 ≠ t) (h2 : 76 ≠ t) (hB : B ≤ b) : Lv B gV n w0 (w.setCell ⟨b, i, none⟩ x) rs :=
  h.far (fun e => h'.neR h.she.outV h2 rfl e.symm) (fun r hr hb => h'.neR (h.she.each r (by rw [List.append_nil]; exact hr)) h1 hb rfl) hB
theorem Lv.grw {B gV n e s k : Nat} {w0 w w' : World} {rs : List Rr} {v : Value} {xs : List Value} (h : Lv B gV n w0 w rs) (h' : w.ownsRow B e s v k xs) (h1 : e ≠ 21) (h2 : e ≠ 76) (hg : w.grownBy w' v.ownBlock) : Lv B gV n w0 w' rs := by
  refine ⟨⟨own_grwR h.she.outV hg (fun g hr => own_otherR h.she.outV h' h2 hr), World.ownsRow_nil _ _ _ _, fun r hr' => ?_, h.she.apart, h.she.outs⟩, h.len, h.bel.grown hg h.base (fun g hr => (h'.lt g hr).1), Nat.le_trans h.base hg.size⟩
  rw [List.append_nil] at hr'
  have h9 := h.she.each r (by rw [List.append_nil]; exact hr')
  exact own_grwR h9 hg (fun g hr => own_otherR h9 h' h1 hr)
/-- the walker's own: its lists, its marks, and the boxes that the closure holds -/
structure Wc (B bm bn bk bt gm gV n : Nat) (tv : Value) (w0 : World) (rs : List Rr) (m : List Bool) (z : World) : Prop where
  lv : Lv B gV n w0 z rs
  met : z.ownsRow B 4 1 (.slice (some ⟨gm, 0, none⟩) n n) n (m.map Value.bool)
  xm : Bx z bm #[.slice (some ⟨gm, 0, none⟩) n n] 70
  xn : Bx z bn #[.slice (some ⟨gV, 0, none⟩) n n] 55
  xk : Bx z bk #[.func (.func 57) #[] #[.pointer (some ⟨bm, 0, none⟩), .pointer (some ⟨bn, 0, none⟩), .pointer (some ⟨bk, 0, none⟩), .pointer (some ⟨bt, 0, none⟩)]] 59
  xt : Bx z bt #[tv] 59
theorem Wc.mlen {B bm bn bk bt gm gV n : Nat} {tv : Value} {w0 z : World} {rs : List Rr} {m : List Bool} (h : Wc B bm bn bk bt gm gV n tv w0 rs m z) : m.length = n := by
  have := h.met.1
  simpa using this
theorem Wc.get {B bm bn bk bt gm gV n : Nat} {tv : Value} {w0 z : World} {rs : List Rr} {m : List Bool} (h : Wc B bm bn bk bt gm gV n tv w0 rs m z) {x : Nat} {b : Bool} (hx : m[x]? = some b) : z.cell? ⟨gm, x, none⟩ = some (.bool b) ∧ z.frozen? ⟨gm, x, none⟩ = false := by
  have h1 := h.met.cells rfl x (.bool b) (by rw [List.getElem?_map, hx]; rfl)
  rw [addr_add, Nat.zero_add] at h1
  exact ⟨h1, h.met.frozenAt x⟩
theorem Wc.set {B bm bn bk bt gm gV n : Nat} {tv : Value} {w0 z : World} {rs : List Rr} {m : List Bool} (h : Wc B bm bn bk bt gm gV n tv w0 rs m z) (x : Nat) : Wc B bm bn bk bt gm gV n tv w0 rs (m.set x true) (z.setCell ⟨gm, x, none⟩ (.bool true)) := by
  refine ⟨h.lv.farRow h.met (by decide) (by decide) rfl, ?_, h.xm.other ⟨gm, x, none⟩ (h.xm.neR h.met (by decide) rfl) _, h.xn.other ⟨gm, x, none⟩ (h.xn.neR h.met (by decide) rfl) _, h.xk.other ⟨gm, x, none⟩ (h.xk.neR h.met (by decide) rfl) _, h.xt.other ⟨gm, x, none⟩ (h.xt.neR h.met (by decide) rfl) _⟩
  have := (World.ownsRow.stored h.met x (.bool true)).1
  rw [List.map_set]
  exact this
theorem Wc.below {B bm bn bk bt gm gV n : Nat} {tv : Value} {w0 z z' : World} {rs : List Rr} {m : List Bool} (h : Wc B bm bn bk bt gm gV n tv w0 rs m z) (hb : Below z.heap.size z z') : Wc B bm bn bk bt gm gV n tv w0 rs m z' :=
  ⟨h.lv.below hb, ownsRow_below h.met hb (Nat.le_refl _), h.xm.below hb h.xm.lt, h.xn.below hb h.xn.lt, h.xk.below hb h.xk.lt, h.xt.below hb h.xt.lt⟩
end Go.Proofs.YtgijcbipnjmhgabGreat

namespace Go.Proofs.YtgijcbipnjmhgabGreat
open Go.ChangeShapes Go.WideShapes Go.ChangeAt Go.RowKit
set_option linter.unusedVariables false
set_option linter.unusedSimpArgs false

/-- a row of ints has grown -/
theorem Wc.grw {B bm bn bk bt gm gV n k : Nat} {tv v : Value} {w0 z z' : World} {rs : List Rr} {m : List Bool} {xs : List Value} (h : Wc B bm bn bk bt gm gV n tv w0 rs m z) (h' : z.ownsRow B 3 1 v k xs) (hg : z.grownBy z' v.ownBlock) : Wc B bm bn bk bt gm gV n tv w0 rs m z' :=
  ⟨h.lv.grw h' (by decide) (by decide) hg, own_grwR h.met hg (fun g hr => own_otherR h.met h' (by decide) hr), h.xm.grw hg (fun e => h.xm.neR h' (by decide) e rfl), h.xn.grw hg (fun e => h.xn.neR h' (by decide) e rfl), h.xk.grw hg (fun e => h.xk.neR h' (by decide) e rfl), h.xt.grw hg (fun e => h.xt.neR h' (by decide) e rfl)⟩
/-- a cell of a box of another kind is written -/
theorem Wc.box {B bm bn bk bt gm gV n b i : Nat} {tv x : Value} {w0 z : World} {rs : List Rr} {m : List Bool} {vs : Array Value} {t : TypeId} (h : Wc B bm bn bk bt gm gV n tv w0 rs m z) (hb : Bx z b vs t) (hB : B ≤ b) (h1 : 21 ≠ t) (h2 : 76 ≠ t) (h3 : 4 ≠ t) (h4 : 70 ≠ t) (h5 : 55 ≠ t) (h6 : 59 ≠ t) : Wc B bm bn bk bt gm gV n tv w0 rs m (z.setCell ⟨b, i, none⟩ x) :=
  ⟨h.lv.farBox hb h1 h2 hB, ownsRow_setCell_other h.met (a := ⟨b, i, none⟩) (fun e => hb.neR h.met h3 e rfl) _, h.xm.other ⟨b, i, none⟩ (h.xm.ne hb h4) _, h.xn.other ⟨b, i, none⟩ (h.xn.ne hb h5) _, h.xk.other ⟨b, i, none⟩ (h.xk.ne hb h6) _, h.xt.other ⟨b, i, none⟩ (h.xt.ne hb h6) _⟩
/-- a cell of a row of ints is written -/
theorem Wc.cell {B bm bn bk bt gm gV n k g i : Nat} {tv v x : Value} {w0 z : World} {rs : List Rr} {m : List Bool} {xs : List Value} (h : Wc B bm bn bk bt gm gV n tv w0 rs m z) (h' : z.ownsRow B 3 1 v k xs) (hg : v.ownBlock = some g) : Wc B bm bn bk bt gm gV n tv w0 rs m (z.setCell ⟨g, i, none⟩ x) :=
  ⟨h.lv.farRow h' (by decide) (by decide) hg, ownsRow_setCell_other h.met (a := ⟨g, i, none⟩) (own_otherR h.met h' (by decide) hg) _, h.xm.other ⟨g, i, none⟩ (h.xm.neR h' (by decide) hg) _, h.xn.other ⟨g, i, none⟩ (h.xn.neR h' (by decide) hg) _, h.xk.other ⟨g, i, none⟩ (h.xk.neR h' (by decide) hg) _, h.xt.other ⟨g, i, none⟩ (h.xt.neR h' (by decide) hg) _⟩
/-- the list of what was told, in its box -/
structure TR (B bo : Nat) (t : List Nat) (z : World) : Prop where
  ex : ∃ v, Bx z bo #[v] 32 ∧ z.ownsRow B 3 1 v t.length (t.map fun (x : Nat) => Value.int .i64 (x : Int))
  base : B ≤ bo
  most : t.length ≤ 131072
theorem TR.mark {B bo bm bn bk bt gm gV n x : Nat} {tv : Value} {w0 z : World} {rs : List Rr} {m : List Bool} {t : List Nat} (h : Wc B bm bn bk bt gm gV n tv w0 rs m z) (hT : TR B bo t z) : TR B bo t (z.setCell ⟨gm, x, none⟩ (.bool true)) := by
  obtain ⟨v, h1, h2⟩ := hT.ex
  exact ⟨⟨v, h1.other ⟨gm, x, none⟩ (h1.neR h.met (by decide) rfl) _, ownsRow_setCell_other h2 (a := ⟨gm, x, none⟩) (own_otherR h2 h.met (by decide) rfl) _⟩, hT.base, hT.most⟩
set_option maxRecDepth 1000000 in
theorem tellR (B bm bn bk bt gm gV n bo x : Nat) (tv : Value) (w0 z : World) (rs : List Rr) (m : List Bool) (t : List Nat) (hx : x < 131072) (hW : Wc B bm bn bk bt gm gV n tv w0 rs m z) (hT : TR B bo t z) (ht : t.length < 131072) :
    Calls Tryz.prog 25 #[.int .i64 (x : Int), .pointer (some ⟨bo, 0, none⟩)] z fun e z' => (∃ v, e = .returned v) ∧ Wc B bm bn bk bt gm gV n tv w0 rs m z' ∧ TR B bo (t ++ [x]) z' := by
  obtain ⟨i0, hi, hz0, hz1, hz2⟩ := info_parts infoInt
  obtain ⟨v, hb, ho⟩ := hT.ex
  obtain ⟨a1, c1, hv1, -, -⟩ := own_slice ho
  subst hv1
  have HW : Hid (Wc B bm bn bk bt gm gV n tv w0 rs m z) := hW
  have HB : Hid (Bx z bo #[.slice a1 t.length c1] 32) := hb
  have HO : Hid (z.ownsRow B 3 1 (.slice a1 t.length c1) t.length (t.map fun (x : Nat) => Value.int .i64 (x : Int))) := ho
  have HBB : Hid (B ≤ bo) := hT.base
  have c0 := hb.one
  have f0 := hb.free 0
  obtain ⟨zA, eA, hbA, hsA, BA⟩ := bx1 z #[.int .i64 (x : Int)] 3
  have WA : Hid (Wc B bm bn bk bt gm gV n tv w0 rs m zA) := hW.below hbA
  have OA : Hid (zA.ownsRow B 3 1 (.slice a1 t.length c1) t.length (t.map fun (x : Nat) => Value.int .i64 (x : Int))) := ownsRow_below ho hbA (Nat.le_refl _)
  have XA : Hid (Bx zA bo #[.slice a1 t.length c1] 32) := hb.below hbA hb.lt
  have NA : Hid (∀ j u, [Value.int .i64 (x : Int)][j]? = some u → zA.cell? ((⟨z.heap.size, 0, none⟩ : Addr).add j) = some u) := by unfold Hid; rw [← eA]; exact cells_newR z [Value.int .i64 (x : Int)] 3
  have HSA : Hid (zA.heap.size = z.heap.size + 1) := hsA
  have HEA : Hid (z.alloc (.cells #[.int .i64 (x : Int)] 3) = zA) := eA
  have hbase : B ≤ zA.heap.size := by have := WA.out.lv.base; exact this
  clear hW hb ho hT hbA BA hsA eA
  go_enter Tryz.func25, Tryz.ntmps25
  go_wp2_with (at_builtin; rw [HEA.out]; refine wpList_append_lies _ rfl _ _ 32 rfl B 3 i0 (.int .i64 0) 1 8 Tryz.underlying32 hi hz0 hz1 hz2 rfl (by decide) (.slice a1 t.length c1) t.length (t.map fun (x : Nat) => Value.int .i64 (x : Int)) rfl OA.out ⟨z.heap.size, 0, none⟩ 1 1 [Value.int .i64 (x : Int)] rfl rfl NA.out (by intro u hu; simp at hu; subst hu; rfl) (by decide) (by unfold maxLen; omega) (by omega) hbase (z.heap.size + 1) HSA.out ?_; intro gg cp w9 hown9 hgrow9 hat9 hlt9; have W9 : Hid (Wc B bm bn bk bt gm gV n tv w0 rs m w9) := WA.out.grw OA.out hgrow9; have hbo : (Value.slice a1 t.length c1).ownBlock ≠ some bo := fun e => XA.out.neR OA.out (by decide) e rfl; have X9 : Hid (Bx w9 bo #[.slice a1 t.length c1] 32) := XA.out.grw hgrow9 hbo; have O9 : Hid (w9.ownsRow B 3 1 (.slice (some ⟨gg, 0, none⟩) (t.length + 1) cp) (t.length + 1) ((t.map fun (x : Nat) => Value.int .i64 (x : Int)) ++ [Value.int .i64 (x : Int)])) := hown9; have c9 := X9.out.one; have f9 := X9.out.free 0; clear hown9 hgrow9 hat9 hlt9 hbo)
  go_end0
  refine ⟨⟨_, rfl⟩, W9.out.box X9.out HBB.out (by decide) (by decide) (by decide) (by decide) (by decide) (by decide), ⟨⟨_, X9.out.set 0 _, ?_⟩, HBB.out, by simp; omega⟩⟩
  have h9 := ownsRow_setCell_other O9.out (a := ⟨bo, 0, none⟩) (fun e => X9.out.neR O9.out (by decide) e rfl) (.slice (some ⟨gg, 0, none⟩) (t.length + 1) cp)
  rw [List.length_append, List.map_append]
  exact h9
end Go.Proofs.YtgijcbipnjmhgabGreat
