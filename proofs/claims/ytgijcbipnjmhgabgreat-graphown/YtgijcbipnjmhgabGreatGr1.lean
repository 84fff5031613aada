import Derived.Test.YtgijcbipnjmhgabGreatKs0
namespace Go.Proofs.YtgijcbipnjmhgabGreat
open Go.ChangeShapes Go.WideShapes Go.ChangeAt Go.RowKit
set_option linter.unusedVariables false
set_option linter.unusedSimpArgs false

/-- the rows of the lists, while they are made -/
structure Lv (B gV n : Nat) (w0 w : World) (rs : List Rr) : Prop where
  she : She 21 76 1 B w (.slice (some ⟨gV, 0, none⟩) n n) (.slice none 0 0) rs []
  len : rs.length = n
  bel : Below B w0 w
  base : B ≤ w.heap.size
theorem Lv.below {B gV n : Nat} {w0 w w' : World} {rs : List Rr} (h : Lv B gV n w0 w rs) (hb : Below w.heap.size w w') : Lv B gV n w0 w' rs :=
  ⟨h.she.below hb, h.len, h.bel.trans (hb.mono h.base), Nat.le_trans h.base hb.size⟩
theorem Lv.cell {B gV n : Nat} {w0 w : World} {rs : List Rr} (h : Lv B gV n w0 w rs) {x : Nat} {r : Rr} (hr : rs[x]? = some r) : w.cell? ⟨gV, x, none⟩ = some r.v ∧ w.frozen? ⟨gV, x, none⟩ = false := by
  obtain ⟨g, c, hV, h1, h2⟩ := h.she.cellV hr
  simp only [Value.slice.injEq, Option.some.injEq, Addr.mk.injEq] at hV
  obtain ⟨⟨rfl, -, -⟩, -, -⟩ := hV
  exact ⟨h1, h2⟩
theorem Lv.put {B gV n n9 : Nat} {w0 w w9 : World} {rs : List Rr} {v9 : Value} {xs9 : List Value} (h : Lv B gV n w0 w rs) {x : Nat} {r : Rr} (hr : rs[x]? = some r) (hown : w9.ownsRow B 21 1 v9 n9 xs9) (hg : w.grownBy w9 r.v.ownBlock) (hat : v9.ownBlock = r.v.ownBlock ∨ v9.ownBlock = some w.heap.size) : Lv B gV n w0 (w9.setCell ⟨gV, x, none⟩ v9) (rs.set x ⟨v9, n9, xs9⟩) := by
  have hgV := (h.she.outV.lt gV rfl).1
  refine ⟨h.she.put (by decide) hr hown hg hat (by rw [h.len]), by rw [List.length_set]; exact h.len, (h.bel.grown hg h.base (fun g hgr => ((h.she.get hr).lt g hgr).1)).setCell (p := ⟨gV, x, none⟩) hgV _, ?_⟩
  have := hg.size
  have := h.base
  simp
  omega

set_option maxRecDepth 1000000 in
set_option maxHeartbeats 4000000 in
theorem lists_any (n cap : Nat) (a : Option Addr) (ps : List Pr) (w : World) (hL : LiesA w a ps) (hn : n ≤ 131072) (hm : ps.length ≤ 17592186044416) (hr : ∀ p ∈ ps, (0 ≤ p.a ∧ p.a < (n : Int)) ∧ (0 ≤ p.b ∧ p.b < (n : Int))) :
    Calls Tryz.prog 18 #[.int .i64 (n : Int), .slice a ps.length cap] w fun e w' => e = .returned (.slice (some ⟨w.heap.size, 0, none⟩) n n) ∧ ∃ rs, Lv w.heap.size w.heap.size n w w' rs ∧ Ad .i32 ps rs := by
  obtain ⟨i0, hi0, hz0, hz1, hz2⟩ := info_parts infoRow32
  obtain ⟨i1, hi1, hy0, hy1, hy2⟩ := info_parts infoI32
  have HL : Hid (LiesA w a ps) := hL
  have HRg : Hid (∀ p ∈ ps, (0 ≤ p.a ∧ p.a < (n : Int)) ∧ (0 ≤ p.b ∧ p.b < (n : Int))) := hr
  clear hL hr
  go_enter Tryz.func18, Tryz.ntmps18
  go_wp2_with (at_make; refine wpList_make_full _ rfl _ _ 55 rfl w.heap.size 76 i0 (.slice none 0 0) 1 Tryz.underlying55 hi0 hz0 hz1 _ _ _ _ n rfl rfl rfl rfl (by rw [hz2]; omega) (by unfold maxLen; omega) (Nat.le_refl _) ?_; intro w1 hown1 hgr1; have L1 : Hid (Lv w.heap.size w.heap.size n w w1 (List.replicate n ⟨.slice none 0 0, 0, []⟩)) := ⟨She.made (by have h9 := rep_made (.slice none 0 0) n; rw [show (Value.slice none 0 0).cells = #[.slice none 0 0] by rfl] at hown1; rw [h9] at hown1; exact hown1), by simp, (Below.refl _ w).grown hgr1 (Nat.le_refl _) (fun k h => by cases h), hgr1.size⟩; clear hown1 hgr1)
  go_loopg [13] ps.length (fun gk si wr => ∃ (k : Nat) (rs : List Rr), gk = ps.length - k ∧ si = .int .i64 (k : Int) ∧ k ≤ ps.length ∧ Lv w.heap.size w.heap.size n w wr rs ∧ Ad .i32 (ps.take k) rs)
  case atStart => exact ⟨0, _, rfl, rfl, Nat.zero_le _, L1.out, Ad.start n⟩
  case round =>
    obtain ⟨k, rs, hgk, rfl, hk, hLv, hAd⟩ := hrel
    clear L1
    have LV : Hid (Lv w.heap.size w.heap.size n w wr rs) := hLv
    have HA : Hid (Ad .i32 (ps.take k) rs) := hAd
    clear hLv hAd
    by_cases hkp : k < ps.length
    · have hkp' : (k : Int) < (ps.length : Int) := by omega
      obtain ⟨p, hp⟩ : ∃ p, ps[k]? = some p := ⟨_, List.getElem?_eq_getElem hkp⟩
      obtain ⟨b, o, ha, hLi⟩ : ∃ b o, a = some ⟨b, o, none⟩ ∧ Lies w b o ps := by
        rcases HL.out with h | h
        · rw [h] at hkp; exact absurd hkp (Nat.not_lt_zero _)
        · exact h
      subst ha
      obtain ⟨⟨ha0, ha1⟩, hb0, hb1⟩ := HRg.out p (List.mem_of_getElem? hp)
      obtain ⟨pa, pb⟩ := p
      obtain ⟨x, rfl⟩ : ∃ x : Nat, pa = (x : Int) := ⟨pa.toNat, by simp only at ha0; omega⟩
      simp only at ha0 ha1 hb0 hb1
      have HP : Hid (ps[k]? = some ⟨(x : Int), pb⟩) := hp
      have HLi : Hid (Lies wr b o ps) := hLi.below LV.out.bel hLi.1
      obtain ⟨d0, d1⟩ := HLi.out.pr hp
      simp only at d0 d1
      obtain ⟨r, hrx⟩ : ∃ r, rs[x]? = some r := ⟨_, List.getElem?_eq_getElem (by have := LV.out.len; omega)⟩
      have HRX : Hid (rs[x]? = some r) := hrx
      clear hLi hp hrx
      go_upto_region 5 with fail
      obtain ⟨w2, e2, hb2, hs2, B2⟩ := bx1 wr #[.int .i64 (x : Int), .int .i64 pb] 51
      rw [e2]
      have LV2 : Hid (Lv w.heap.size w.heap.size n w w2 rs) := LV.out.below hb2
      obtain ⟨q, hq⟩ : ∃ q, wr.heap.size = q := ⟨_, rfl⟩
      rw [hq] at B2 hs2 ⊢
      have HX2 : Hid (Bx w2 q #[.int .i64 (x : Int), .int .i64 pb] 51) := B2
      have HQ2 : Hid (w2.heap.size = q + 1) := hs2
      have HB2 : Hid (Below wr.heap.size wr w2) := hb2
      clear e2 hs2 B2 hb2 d0 d1
      obtain ⟨a1, c1, hv1, -, -⟩ := own_slice (LV2.out.she.get HRX.out)
      obtain ⟨rv, rn, rx⟩ := r
      simp only at hv1
      subst hv1
      obtain ⟨ys, hy1, hy2', hy3, hy4⟩ := HA.out x _ HRX.out
      simp only at hy1 hy2'
      have hrn : rn ≤ 17592186044416 := by rw [hy1]; rw [List.length_take] at hy3; omega
      have HYL : Hid (rn ≤ k) := by unfold Hid; rw [List.length_take] at hy3; omega
      clear hy1 hy2' hy3 hy4 ys
      have kc : IntKind.i32.wrap pb = pb := IntWalk.i32_in _ ⟨by omega, by omega⟩
      have hx0 : (0 : Int) ≤ (x : Int) := by omega
      have HSr : w2.cell? ⟨q, 0, none⟩ = some (.int .i64 (x : Int)) ∧ w2.cell? ⟨q, 1, none⟩ = some (.int .i64 pb) ∧ w2.cell? ⟨w.heap.size, x, none⟩ = some (.slice a1 rn c1) := ⟨HX2.out.cell 0, HX2.out.cell 1, (LV2.out.cell HRX.out).1⟩
      refine wp_region_G (fun z => z.cell? ⟨q, 0, none⟩ = some (.int .i64 (x : Int)) ∧ z.cell? ⟨q, 1, none⟩ = some (.int .i64 pb) ∧ z.cell? ⟨w.heap.size, x, none⟩ = some (.slice a1 rn c1)) 14 (by kernel_rfl) ?_
      refine wpAnyG_take (i := 0) (v := .slice (some ⟨w.heap.size, 0, none⟩) n n) rfl (by kernel_rfl) (by kernel_rfl) (by kernel_rfl) (fun _ _ _ h => h) (by kernel_rfl) (by kernel_rfl) (by kernel_rfl) (Or.inl ⟨by rfl, fun z hz => ?_⟩) HSr ?_
      · obtain ⟨hz0, hz1, hz2⟩ := hz
        go_simp
      try simp only [Act.put, List.setIfInBounds_toArray, List.set_cons_zero, List.set_cons_succ]
      refine wpAnyG_take (i := 1) (v := .pointer (some ⟨q, 0, none⟩)) rfl (by kernel_rfl) (by kernel_rfl) (by kernel_rfl) (fun _ _ _ h => h) (by kernel_rfl) (by kernel_rfl) (by kernel_rfl) (Or.inl ⟨by rfl, fun z hz => ?_⟩) HSr ?_
      · obtain ⟨hz0, hz1, hz2⟩ := hz
        go_simp
      try simp only [Act.put, List.setIfInBounds_toArray, List.set_cons_zero, List.set_cons_succ]
      refine wpAnyG_take (i := 2) (v := .int .i64 (x : Int)) rfl (by kernel_rfl) (by kernel_rfl) (by kernel_rfl) (fun _ _ _ h => h) (by kernel_rfl) (by kernel_rfl) (by kernel_rfl) (Or.inl ⟨by rfl, fun z hz => ?_⟩) HSr ?_
      · obtain ⟨hz0, hz1, hz2⟩ := hz
        go_simp
      try simp only [Act.put, List.setIfInBounds_toArray, List.set_cons_zero, List.set_cons_succ]
      refine wpAnyG_take (i := 3) (v := .slice (some ⟨w.heap.size, 0, none⟩) n n) rfl (by kernel_rfl) (by kernel_rfl) (by kernel_rfl) (fun _ _ _ h => h) (by kernel_rfl) (by kernel_rfl) (by kernel_rfl) (Or.inl ⟨by rfl, fun z hz => ?_⟩) HSr ?_
      · obtain ⟨hz0, hz1, hz2⟩ := hz
        go_simp
      try simp only [Act.put, List.setIfInBounds_toArray, List.set_cons_zero, List.set_cons_succ]
      refine wpAnyG_take (i := 4) (v := .pointer (some ⟨q, 0, none⟩)) rfl (by kernel_rfl) (by kernel_rfl) (by kernel_rfl) (fun _ _ _ h => h) (by kernel_rfl) (by kernel_rfl) (by kernel_rfl) (Or.inl ⟨by rfl, fun z hz => ?_⟩) HSr ?_
      · obtain ⟨hz0, hz1, hz2⟩ := hz
        go_simp
      try simp only [Act.put, List.setIfInBounds_toArray, List.set_cons_zero, List.set_cons_succ]
      refine wpAnyG_take (i := 5) (v := .int .i64 (x : Int)) rfl (by kernel_rfl) (by kernel_rfl) (by kernel_rfl) (fun _ _ _ h => h) (by kernel_rfl) (by kernel_rfl) (by kernel_rfl) (Or.inl ⟨by rfl, fun z hz => ?_⟩) HSr ?_
      · obtain ⟨hz0, hz1, hz2⟩ := hz
        go_simp
      try simp only [Act.put, List.setIfInBounds_toArray, List.set_cons_zero, List.set_cons_succ]
      refine wpAnyG_take (i := 6) (v := .pointer (some ⟨w.heap.size, x, none⟩)) rfl (by kernel_rfl) (by kernel_rfl) (by kernel_rfl) (fun _ _ _ h => h) (by kernel_rfl) (by kernel_rfl) (by kernel_rfl) (Or.inl ⟨by rfl, fun z hz => ?_⟩) HSr ?_
      · obtain ⟨hz0, hz1, hz2⟩ := hz
        go_simp
      try simp only [Act.put, List.setIfInBounds_toArray, List.set_cons_zero, List.set_cons_succ]
      refine wpAnyG_take (i := 7) (v := .slice a1 rn c1) rfl (by kernel_rfl) (by kernel_rfl) (by kernel_rfl) (fun _ _ _ h => h) (by kernel_rfl) (by kernel_rfl) (by kernel_rfl) (Or.inl ⟨by rfl, fun z hz => ?_⟩) HSr ?_
      · obtain ⟨hz0, hz1, hz2⟩ := hz
        go_simp
      try simp only [Act.put, List.setIfInBounds_toArray, List.set_cons_zero, List.set_cons_succ]
      refine wpAnyG_take (i := 8) (v := .pointer (some ⟨q, 1, none⟩)) rfl (by kernel_rfl) (by kernel_rfl) (by kernel_rfl) (fun _ _ _ h => h) (by kernel_rfl) (by kernel_rfl) (by kernel_rfl) (Or.inl ⟨by rfl, fun z hz => ?_⟩) HSr ?_
      · obtain ⟨hz0, hz1, hz2⟩ := hz
        go_simp
      try simp only [Act.put, List.setIfInBounds_toArray, List.set_cons_zero, List.set_cons_succ]
      refine wpAnyG_take (i := 9) (v := .int .i64 pb) rfl (by kernel_rfl) (by kernel_rfl) (by kernel_rfl) (fun _ _ _ h => h) (by kernel_rfl) (by kernel_rfl) (by kernel_rfl) (Or.inl ⟨by rfl, fun z hz => ?_⟩) HSr ?_
      · obtain ⟨hz0, hz1, hz2⟩ := hz
        go_simp
      try simp only [Act.put, List.setIfInBounds_toArray, List.set_cons_zero, List.set_cons_succ]
      refine wpAnyG_take (i := 10) (v := .int .i32 pb) rfl (by kernel_rfl) (by kernel_rfl) (by kernel_rfl) (fun _ _ _ h => h) (by kernel_rfl) (by kernel_rfl) (by kernel_rfl) (Or.inl ⟨by rfl, fun z hz => ?_⟩) HSr ?_
      · obtain ⟨hz0, hz1, hz2⟩ := hz
        go_simp
      try simp only [Act.put, List.setIfInBounds_toArray, List.set_cons_zero, List.set_cons_succ]
      refine wpAnyG_one (i := 11) (by kernel_rfl) rfl (fun K hK0 => ?_)
      have hK : Hid _ := hK0
      clear hK0
      go_simp
      obtain ⟨WA, hWA⟩ : ∃ WA, (w2.alloc (.cells #[Value.int .i32 pb] 21)).drew = WA := ⟨_, rfl⟩
      have hA : Below w2.heap.size w2 WA := by rw [← hWA]; exact ((Below.refl _ w2).alloc (Nat.le_refl _) _).drew
      have HNW : Hid (∀ j u, [Value.int .i32 pb][j]? = some u → WA.cell? ((⟨w2.heap.size, 0, none⟩ : Addr).add j) = some u) := by unfold Hid; rw [← hWA]; exact cells_newR w2 [Value.int .i32 pb] 21
      have HZA : Hid (WA.heap.size = w2.heap.size + 1) := by unfold Hid; rw [← hWA]; show (w2.alloc _).heap.size = _; simp
      have LA : Hid (Lv w.heap.size w.heap.size n w WA rs) := LV2.out.below hA
      have HSa : WA.cell? ⟨q, 0, none⟩ = some (.int .i64 (x : Int)) ∧ WA.cell? ⟨q, 1, none⟩ = some (.int .i64 pb) ∧ WA.cell? ⟨w.heap.size, x, none⟩ = some (.slice a1 rn c1) := ⟨(HX2.out.below hA HX2.out.lt).cell 0, (HX2.out.below hA HX2.out.lt).cell 1, (LA.out.cell HRX.out).1⟩
      rw [hWA]
      clear hWA
      refine hK.out _ _ (fun _ => HSa) ?_
      clear hK K
      try simp only [Act.put, List.setIfInBounds_toArray, List.set_cons_zero, List.set_cons_succ]
      refine wpAnyG_one (i := 12) (by kernel_rfl) rfl (fun K hK0 => ?_)
      have hK : Hid _ := hK0
      clear hK0
      refine step_append_lies _ (by rfl) _ _ _ (by rfl) w.heap.size 21 i1 (.int .i32 0) 1 4 Tryz.underlying76 hi1 hy0 hy1 hy2 rfl (by omega) (.slice a1 rn c1) rn rx (by rfl) (LA.out.she.get HRX.out) ⟨w2.heap.size, 0, none⟩ 1 1 [Value.int .i32 pb] (by rfl) (by rfl) HNW.out (by intro u hu; simp at hu; subst hu; rfl) (by omega) (by unfold maxLen; omega) (by omega) LA.out.base (w2.heap.size + 1) HZA.out ?_
      intro gg cp w9 hown9 hgrow9 hat9 hlt9
      have hrq : (Value.slice a1 rn c1).ownBlock ≠ some q := fun h => by
        have h1 := (LV.out.she.get HRX.out).lt q h
        omega
      have X9 : Hid (Bx w9 q #[.int .i64 (x : Int), .int .i64 pb] 51) := (HX2.out.below hA HX2.out.lt).grw hgrow9 hrq
      have hrV : (Value.slice a1 rn c1).ownBlock ≠ some w.heap.size := fun h => own_otherR LV2.out.she.outV (LV2.out.she.get HRX.out) (by decide) h rfl
      have hVl : w.heap.size < WA.heap.size := (LA.out.she.outV.lt w.heap.size rfl).2
      have cv9 : w9.cell? ⟨w.heap.size, x, none⟩ = some (.slice a1 rn c1) := (hgrow9.cell_far ⟨w.heap.size, x, none⟩ hVl (fun e => hrV e.symm)).trans HSa.2.2
      have fv9 : w9.frozen? ⟨w.heap.size, x, none⟩ = false := (hgrow9.frozen_far ⟨w.heap.size, x, none⟩ hVl (fun e => hrV e.symm)).trans (LA.out.cell HRX.out).2
      have HS9 : w9.cell? ⟨q, 0, none⟩ = some (.int .i64 (x : Int)) ∧ w9.cell? ⟨q, 1, none⟩ = some (.int .i64 pb) ∧ w9.cell? ⟨w.heap.size, x, none⟩ = some (.slice a1 rn c1) := ⟨X9.out.cell 0, X9.out.cell 1, cv9⟩
      have L9 : Hid (Lv w.heap.size w.heap.size n w (w9.setCell ⟨w.heap.size, x, none⟩ (.slice (some ⟨gg, 0, none⟩) (rn + 1) cp)) (rs.set x ⟨.slice (some ⟨gg, 0, none⟩) (rn + 1) cp, rn + 1, rx ++ [Value.int .i32 pb]⟩)) := LA.out.put HRX.out hown9 hgrow9 (hat9.elim (fun h => .inl h.symm) (fun h => .inr (by rw [h, HZA.out]; rfl)))
      clear hown9 hgrow9 hat9 hlt9
      refine hK.out _ _ (fun _ => HS9) ?_
      clear hK K
      try simp only [Act.put, List.setIfInBounds_toArray, List.set_cons_zero, List.set_cons_succ]
      refine wpAnyG_one (i := 13) (by kernel_rfl) rfl (fun K hK0 => ?_)
      have hK : Hid _ := hK0
      clear hK0
      go_simp
      refine hK.out _ _ (fun _ => HS9) ?_
      clear hK K
      try simp only [Act.put, List.setIfInBounds_toArray, List.set_cons_zero, List.set_cons_succ]
      refine wpAnyG_one (i := 14) (by kernel_rfl) rfl (fun K hK0 => ?_)
      have hK : Hid _ := hK0
      clear hK0
      go_simp
      refine hK.out _ _ (fun h => Bool.noConfusion (show true = false from h)) ?_
      clear hK K
      try simp only [Act.put, List.setIfInBounds_toArray, List.set_cons_zero, List.set_cons_succ]
      refine wpAnyG_done (by kernel_rfl) ?_ _
      go_wp2
      go_roundg (ps.length - (k + 1))
      case measure => omega
      case rel =>
        refine ⟨k + 1, _, rfl, by go_num, by omega, L9.out, ?_⟩
        have h9 := HA.out.more HRX.out (.slice (some ⟨gg, 0, none⟩) (rn + 1) cp) pb
        rw [List.take_add_one, HP.out]
        exact h9
    · have hkp' : ¬ (k : Int) < (ps.length : Int) := by omega
      have HA2 : Hid (Ad .i32 ps rs) := by unfold Hid; have h9 := HA.out; rw [List.take_of_length_le (by omega)] at h9; exact h9
      clear HA
      go_wp2
      go_loopg [34] n (fun gk si wr => ∃ (x : Nat) (rs : List Rr), gk = n - x ∧ si = .int .i64 (x : Int) ∧ x ≤ n ∧ Lv w.heap.size w.heap.size n w wr rs ∧ Ad .i32 ps rs)
      case atStart => exact ⟨0, _, rfl, rfl, Nat.zero_le _, LV.out, HA2.out⟩
      case round =>
        obtain ⟨x, rs, hgk, rfl, hx, hLv, hAd⟩ := hrel
        clear LV HA2
        have LV : Hid (Lv w.heap.size w.heap.size n w wr rs) := hLv
        have HA : Hid (Ad .i32 ps rs) := hAd
        clear hLv hAd
        by_cases hxn : x < n
        · have hxn' : (x : Int) < (n : Int) := by omega
          obtain ⟨r, hrx⟩ : ∃ r, rs[x]? = some r := ⟨_, List.getElem?_eq_getElem (by have := LV.out.len; omega)⟩
          have HRX : Hid (rs[x]? = some r) := hrx
          obtain ⟨ys, hy1, hy2', hy3, hy4⟩ := HA.out x _ hrx
          obtain ⟨cv, fv⟩ := LV.out.cell hrx
          have HYS : Hid (r.n = ys.length ∧ r.xs = ys.map (Value.int .i32)) := ⟨hy1, hy2'⟩
          have hrn : r.n ≤ 17592186044416 := by omega
          rcases LV.out.she.toRow hrx hy1 hy2' with ⟨hv, h0⟩ | ⟨g, c, hv, hnc, hrow⟩
          · rw [hv] at cv
            have L9 : Hid (Lv w.heap.size w.heap.size n w (wr.setCell ⟨w.heap.size, x, none⟩ (.slice none 0 0)) (rs.set x ⟨.slice none 0 0, 0, []⟩)) := LV.out.put hrx (World.ownsRow_nil _ _ _ _) (World.grownBy.refl _ _) (.inl (by rw [hv]))
            have A9 : Hid (Ad .i32 ps (rs.set x ⟨.slice none 0 0, 0, []⟩)) := HA.out.again hrx (.slice none 0 0) ys [] hy2' hy1 (Nat.zero_le _) (fun y => by rw [h0])
            clear hrx hy1 hy2' hy3 hy4 hv h0
            go_wp2_with (first
              | (go_at_call 45; (with_reducible refine (rising32_nil _).mono ?_); rintro e v1 ⟨rfl, rfl⟩)
              | (go_at_call 44; (with_reducible refine (compact_nil _).mono ?_); rintro e v1 ⟨rfl, rfl⟩))
            go_roundg (n - (x + 1))
            case measure => omega
            case rel => exact ⟨x + 1, _, rfl, by go_num, by omega, L9.out, A9.out⟩
          · rw [hv] at cv
            have HROW : Hid (Row w.heap.size 21 g r.n c wr (ys.map Hn.mk)) := hrow
            have hgV : w.heap.size ≠ g := fun e => own_otherR LV.out.she.outV (LV.out.she.get hrx) (by decide) (show r.v.ownBlock = some g by rw [hv]; rfl) (by rw [← e]; rfl)
            have hVl : w.heap.size < wr.heap.size := (LV.out.she.outV.lt w.heap.size rfl).2
            have FIN : Hid (∀ v1 ys2 v v2, Sp w.heap.size g r.n c wr (ys.map Hn.mk) v1 ys2 → Cmd w.heap.size g r.n c v1 ys2 v v2 → ∃ k2, v = .slice (some ⟨g, 0, none⟩) k2 c ∧ v2.cell? ⟨w.heap.size, x, none⟩ = some (.slice (some ⟨g, 0, none⟩) r.n c) ∧ v2.frozen? ⟨w.heap.size, x, none⟩ = false ∧ ∃ rs2, Lv w.heap.size w.heap.size n w (v2.setCell ⟨w.heap.size, x, none⟩ (.slice (some ⟨g, 0, none⟩) k2 c)) rs2 ∧ Ad .i32 ps rs2) := by
              rintro v1 ys2 v v2 hs ⟨k2, zs, rfl, hr2, ho2, hm2, hk2⟩
              have hone := hs.one.trans ho2
              have hblk := hone.keep w.heap.size hVl hgV
              have hk : k2 = zs.length := by rw [hr2.len]
              refine ⟨k2, rfl, (World.cell?_of_block (a := ⟨w.heap.size, x, none⟩) hblk).trans cv, (World.frozen?_of_block (a := ⟨w.heap.size, x, none⟩) hblk).trans fv, rs.set x ⟨.slice (some ⟨g, 0, none⟩) k2 c, (zs.map Hn.v).length, (zs.map Hn.v).map (Value.int .i32)⟩, ?_, ?_⟩
              · have hr3 : v2.ownsRow w.heap.size 21 1 (.slice (some ⟨g, 0, none⟩) k2 c) (zs.map Hn.v).length ((zs.map Hn.v).map (Value.int .i32)) := by rw [← flat_hns, List.length_map, ← hk]; exact hr2
                exact LV.out.put hrx hr3 (by rw [hv]; exact hone.grown) (.inl (by rw [hv]; rfl))
              · refine HA.out.again hrx _ ys (zs.map Hn.v) hy2' hy1 (by rw [List.length_map, ← hk]; omega) (fun y => ?_)
                rw [List.mem_map]
                constructor
                · rintro ⟨h, hh, rfl⟩
                  have := hs.perm.mem_iff.1 ((hm2 h).1 hh)
                  rw [List.mem_map] at this
                  obtain ⟨y, hy, rfl⟩ := this
                  exact hy
                · intro hy
                  exact ⟨⟨y⟩, (hm2 _).2 (hs.perm.mem_iff.2 (List.mem_map.2 ⟨y, hy, rfl⟩)), rfl⟩
            obtain ⟨rn, hrn2⟩ : ∃ rn, r.n = rn := ⟨_, rfl⟩
            rw [hrn2] at cv HROW FIN hnc hrn
            clear hrx hy1 hy2' hy3 hy4 hv hrow hrn2 HYS
            go_wp2_with (first
              | (go_at_call 45; (with_reducible refine (rising32_any w.heap.size g rn c _ wr HROW.out (by omega)).mono ?_); rintro e v1 ⟨rfl, ys2, hs1⟩; have S1 : Hid (Sp w.heap.size g rn c wr (ys.map Hn.mk) v1 ys2) := hs1; clear hs1)
              | (go_at_call 44; (with_reducible refine (compact_any w.heap.size g rn c ys2 v1 S1.out.row (by omega) hnc).mono ?_); rintro e v2 ⟨v, rfl, hc2⟩; obtain ⟨k2, rfl, cv2, fv2, rs2, l2, a2⟩ := FIN.out v1 ys2 v v2 S1.out hc2; have L9 : Hid (Lv w.heap.size w.heap.size n w (v2.setCell ⟨w.heap.size, x, none⟩ (.slice (some ⟨g, 0, none⟩) k2 c)) rs2) := l2; have A9 : Hid (Ad .i32 ps rs2) := a2; clear l2 a2 hc2))
            go_roundg (n - (x + 1))
            case measure => omega
            case rel => exact ⟨x + 1, _, rfl, by go_num, by omega, L9.out, A9.out⟩
        · have hxn' : ¬ (x : Int) < (n : Int) := by omega
          go_wp2
          go_ret
          exact ⟨rfl, rs, LV.out, HA.out⟩
end Go.Proofs.YtgijcbipnjmhgabGreat
