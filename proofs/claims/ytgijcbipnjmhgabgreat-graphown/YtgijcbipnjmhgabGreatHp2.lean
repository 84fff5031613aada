import Derived.Test.YtgijcbipnjmhgabGreatGr4
import Derived.Test.YtgijcbipnjmhgabGreatGr3
namespace Go.Proofs.YtgijcbipnjmhgabGreat
open Go.ChangeShapes Go.WideShapes Go.ChangeAt Go.RowKit
set_option linter.unusedVariables false
set_option linter.unusedSimpArgs false

/-- a pair with its ends changed for one another -/
def swapP (p : Pr) : Pr := ⟨p.b, p.a⟩

set_option maxRecDepth 1000000 in
set_option maxHeartbeats 4000000 in
theorem rows0_any (n cap : Nat) (a : Option Addr) (ps : List Pr) (w : World) (hL : LiesA w a ps) (hn : n ≤ 131072) (hm : ps.length ≤ 8796093022208) (hr : ∀ p ∈ ps, (0 ≤ p.a ∧ p.a < (n : Int)) ∧ (0 ≤ p.b ∧ p.b < (n : Int))) :
    Calls Tryz.prog 30 #[.int .i64 (n : Int), .slice a ps.length cap, .int .i64 0] w fun e w' => e = .returned (.slice (some ⟨w.heap.size, 0, none⟩) n n) ∧ ∃ rs, Lw w.heap.size w.heap.size n w w' rs ∧ Ad .i64 (ps.map swapP) rs := by
  obtain ⟨i0, hi0, hz0, hz1, hz2⟩ := info_parts infoRowI
  obtain ⟨i1, hi1, hy0, hy1, hy2⟩ := info_parts infoInt
  have HL : Hid (LiesA w a ps) := hL
  have HRg : Hid (∀ p ∈ ps, (0 ≤ p.a ∧ p.a < (n : Int)) ∧ (0 ≤ p.b ∧ p.b < (n : Int))) := hr
  clear hL hr
  go_enter Tryz.func30, Tryz.ntmps30
  go_wp2_with (at_make; refine wpList_make_full _ rfl _ _ 26 rfl w.heap.size 32 i0 (.slice none 0 0) 1 Tryz.underlying26 hi0 hz0 hz1 _ _ _ _ n rfl rfl rfl rfl (by rw [hz2]; omega) (by unfold maxLen; omega) (Nat.le_refl _) ?_; intro w1 hown1 hgr1; have L1 : Hid (Lw w.heap.size w.heap.size n w w1 (List.replicate n ⟨.slice none 0 0, 0, []⟩)) := ⟨She.made (by have h9 := rep_made (.slice none 0 0) n; rw [show (Value.slice none 0 0).cells = #[.slice none 0 0] by rfl] at hown1; rw [h9] at hown1; exact hown1), by simp, (Below.refl _ w).grown hgr1 (Nat.le_refl _) (fun k h => by cases h), hgr1.size⟩; clear hown1 hgr1)
  go_loopg [8] ps.length (fun gk si wr => ∃ (k : Nat) (rs : List Rr), gk = ps.length - k ∧ si = .int .i64 (k : Int) ∧ k ≤ ps.length ∧ Lw w.heap.size w.heap.size n w wr rs ∧ Ad .i64 ((ps.map swapP).take k) rs)
  case atStart => exact ⟨0, _, rfl, rfl, Nat.zero_le _, L1.out, Ad.start n⟩
  case round =>
    obtain ⟨k, rs, hgk, rfl, hk, hLv, hAd⟩ := hrel
    clear L1
    have LV : Hid (Lw w.heap.size w.heap.size n w wr rs) := hLv
    have HA : Hid (Ad .i64 ((ps.map swapP).take k) rs) := hAd
    clear hLv hAd
    by_cases hkp : k < ps.length
    · have hkp' : (k : Int) < (ps.length : Int) := by omega
      obtain ⟨p, hp⟩ : ∃ p, ps[k]? = some p := ⟨_, List.getElem?_eq_getElem hkp⟩
      obtain ⟨b, o, ha, hLi⟩ : ∃ b o, a = some ⟨b, o, none⟩ ∧ Lies w b o ps := by
        rcases HL.out with h | h
        · rw [h] at hkp; exact absurd hkp (Nat.not_lt_zero _)
        · exact h
      subst ha
      obtain ⟨⟨ha0, ha1⟩, hb0, hb1⟩ := HRg.out p (List.mem_of_getElem? hp)
      obtain ⟨pb, pa⟩ := p
      obtain ⟨x, rfl⟩ : ∃ x : Nat, pa = (x : Int) := ⟨pa.toNat, by simp only at ha0 hb0; omega⟩
      simp only at ha0 ha1 hb0 hb1
      have HP : Hid (ps[k]? = some ⟨pb, (x : Int)⟩) := hp
      have HLi : Hid (Lies wr b o ps) := hLi.below LV.out.bel hLi.1
      have HBW : Hid (b < w.heap.size ∧ w.heap.size ≤ wr.heap.size) := ⟨hLi.1, LV.out.base⟩
      obtain ⟨d0, d1⟩ := HLi.out.pr hp
      simp only at d0 d1
      obtain ⟨r, hrx⟩ : ∃ r, rs[x]? = some r := ⟨_, List.getElem?_eq_getElem (by have := LV.out.len; omega)⟩
      have HRX : Hid (rs[x]? = some r) := hrx
      clear hLi hp hrx
      go_upto_region 6 with fail
      obtain ⟨a1, c1, hv1, -, -⟩ := own_slice (LV.out.she.get HRX.out)
      obtain ⟨rv, rn, rx⟩ := r
      simp only at hv1
      subst hv1
      obtain ⟨ys, hy1, hy2', hy3, hy4⟩ := HA.out x _ HRX.out
      simp only at hy1 hy2'
      have hrn : rn ≤ 8796093022208 := by rw [hy1]; rw [List.length_take] at hy3; omega
      clear hy1 hy2' hy3 hy4 ys
      have hx0 : (0 : Int) ≤ (x : Int) := by omega
      have hxn2 : (x : Int) < (n : Int) := by omega
      have hk0 : (0 : Int) ≤ (k : Int) := by omega
      have HSr : wr.cell? ⟨b, o + k * 2, none⟩ = some (.int .i64 pb) ∧ wr.cell? ⟨w.heap.size, x, none⟩ = some (.slice a1 rn c1) := ⟨d0, (LV.out.cell HRX.out).1⟩
      refine wp_region_G (fun z => z.cell? ⟨b, o + k * 2, none⟩ = some (.int .i64 pb) ∧ z.cell? ⟨w.heap.size, x, none⟩ = some (.slice a1 rn c1)) 15 (by kernel_rfl) ?_
      refine wpAnyG_take (i := 0) (v := .slice (some ⟨w.heap.size, 0, none⟩) n n) rfl (by kernel_rfl) (by kernel_rfl) (by kernel_rfl) (fun _ _ _ h => h) (by kernel_rfl) (by kernel_rfl) (by kernel_rfl) (Or.inl ⟨by rfl, fun z hz => ?_⟩) HSr ?_
      · obtain ⟨hz0, hz1⟩ := hz
        go_simp
      try simp only [Act.put, List.setIfInBounds_toArray, List.set_cons_zero, List.set_cons_succ]
      refine wpAnyG_take (i := 1) (v := .int .i64 (x : Int)) rfl (by kernel_rfl) (by kernel_rfl) (by kernel_rfl) (fun _ _ _ h => h) (by kernel_rfl) (by kernel_rfl) (by kernel_rfl) (Or.inl ⟨by rfl, fun z hz => ?_⟩) HSr ?_
      · obtain ⟨hz0, hz1⟩ := hz
        go_simp
      try simp only [Act.put, List.setIfInBounds_toArray, List.set_cons_zero, List.set_cons_succ]
      refine wpAnyG_take (i := 2) (v := .slice (some ⟨w.heap.size, 0, none⟩) n n) rfl (by kernel_rfl) (by kernel_rfl) (by kernel_rfl) (fun _ _ _ h => h) (by kernel_rfl) (by kernel_rfl) (by kernel_rfl) (Or.inl ⟨by rfl, fun z hz => ?_⟩) HSr ?_
      · obtain ⟨hz0, hz1⟩ := hz
        go_simp
      try simp only [Act.put, List.setIfInBounds_toArray, List.set_cons_zero, List.set_cons_succ]
      refine wpAnyG_take (i := 3) (v := .int .i64 (x : Int)) rfl (by kernel_rfl) (by kernel_rfl) (by kernel_rfl) (fun _ _ _ h => h) (by kernel_rfl) (by kernel_rfl) (by kernel_rfl) (Or.inl ⟨by rfl, fun z hz => ?_⟩) HSr ?_
      · obtain ⟨hz0, hz1⟩ := hz
        go_simp
      try simp only [Act.put, List.setIfInBounds_toArray, List.set_cons_zero, List.set_cons_succ]
      refine wpAnyG_take (i := 4) (v := .pointer (some ⟨w.heap.size, x, none⟩)) rfl (by kernel_rfl) (by kernel_rfl) (by kernel_rfl) (fun _ _ _ h => h) (by kernel_rfl) (by kernel_rfl) (by kernel_rfl) (Or.inl ⟨by rfl, fun z hz => ?_⟩) HSr ?_
      · obtain ⟨hz0, hz1⟩ := hz
        go_simp
      try simp only [Act.put, List.setIfInBounds_toArray, List.set_cons_zero, List.set_cons_succ]
      refine wpAnyG_take (i := 5) (v := .slice a1 rn c1) rfl (by kernel_rfl) (by kernel_rfl) (by kernel_rfl) (fun _ _ _ h => h) (by kernel_rfl) (by kernel_rfl) (by kernel_rfl) (Or.inl ⟨by rfl, fun z hz => ?_⟩) HSr ?_
      · obtain ⟨hz0, hz1⟩ := hz
        go_simp
      try simp only [Act.put, List.setIfInBounds_toArray, List.set_cons_zero, List.set_cons_succ]
      refine wpAnyG_take (i := 6) (v := .slice (some ⟨b, o, none⟩) ps.length cap) rfl (by kernel_rfl) (by kernel_rfl) (by kernel_rfl) (fun _ _ _ h => h) (by kernel_rfl) (by kernel_rfl) (by kernel_rfl) (Or.inl ⟨by rfl, fun z hz => ?_⟩) HSr ?_
      · obtain ⟨hz0, hz1⟩ := hz
        go_simp
      try simp only [Act.put, List.setIfInBounds_toArray, List.set_cons_zero, List.set_cons_succ]
      refine wpAnyG_take (i := 7) (v := .int .i64 (k : Int)) rfl (by kernel_rfl) (by kernel_rfl) (by kernel_rfl) (fun _ _ _ h => h) (by kernel_rfl) (by kernel_rfl) (by kernel_rfl) (Or.inl ⟨by rfl, fun z hz => ?_⟩) HSr ?_
      · obtain ⟨hz0, hz1⟩ := hz
        go_simp
      try simp only [Act.put, List.setIfInBounds_toArray, List.set_cons_zero, List.set_cons_succ]
      refine wpAnyG_take (i := 8) (v := .int .i64 0) rfl (by kernel_rfl) (by kernel_rfl) (by kernel_rfl) (fun _ _ _ h => h) (by kernel_rfl) (by kernel_rfl) (by kernel_rfl) (Or.inl ⟨by rfl, fun z hz => ?_⟩) HSr ?_
      · obtain ⟨hz0, hz1⟩ := hz
        go_simp
      try simp only [Act.put, List.setIfInBounds_toArray, List.set_cons_zero, List.set_cons_succ]
      refine wpAnyG_take (i := 9) (v := .pointer (some ⟨b, o + k * 2, none⟩)) rfl (by kernel_rfl) (by kernel_rfl) (by kernel_rfl) (fun _ _ _ h => h) (by kernel_rfl) (by kernel_rfl) (by kernel_rfl) (Or.inl ⟨by rfl, fun z hz => ?_⟩) HSr ?_
      · obtain ⟨hz0, hz1⟩ := hz
        go_simp
      try simp only [Act.put, List.setIfInBounds_toArray, List.set_cons_zero, List.set_cons_succ]
      refine wpAnyG_take (i := 10) (v := .pointer (some ⟨b, o + k * 2, none⟩)) rfl (by kernel_rfl) (by kernel_rfl) (by kernel_rfl) (fun _ _ _ h => h) (by kernel_rfl) (by kernel_rfl) (by kernel_rfl) (Or.inl ⟨by rfl, fun z hz => ?_⟩) HSr ?_
      · obtain ⟨hz0, hz1⟩ := hz
        go_simp
      try simp only [Act.put, List.setIfInBounds_toArray, List.set_cons_zero, List.set_cons_succ]
      refine wpAnyG_take (i := 11) (v := .int .i64 pb) rfl (by kernel_rfl) (by kernel_rfl) (by kernel_rfl) (fun _ _ _ h => h) (by kernel_rfl) (by kernel_rfl) (by kernel_rfl) (Or.inl ⟨by rfl, fun z hz => ?_⟩) HSr ?_
      · obtain ⟨hz0, hz1⟩ := hz
        go_simp
      try simp only [Act.put, List.setIfInBounds_toArray, List.set_cons_zero, List.set_cons_succ]
      refine wpAnyG_one (i := 12) (by kernel_rfl) rfl (fun K hK0 => ?_)
      have hK : Hid _ := hK0
      clear hK0
      go_simp
      obtain ⟨WA, hWA⟩ : ∃ WA, (wr.alloc (.cells #[Value.int .i64 pb] 3)).drew = WA := ⟨_, rfl⟩
      have hA : Below wr.heap.size wr WA := by rw [← hWA]; exact ((Below.refl _ wr).alloc (Nat.le_refl _) _).drew
      have HNW : Hid (∀ j u, [Value.int .i64 pb][j]? = some u → WA.cell? ((⟨wr.heap.size, 0, none⟩ : Addr).add j) = some u) := by unfold Hid; rw [← hWA]; exact cells_newR wr [Value.int .i64 pb] 3
      have HZA : Hid (WA.heap.size = wr.heap.size + 1) := by unfold Hid; rw [← hWA]; show (wr.alloc _).heap.size = _; simp
      have LA : Hid (Lw w.heap.size w.heap.size n w WA rs) := LV.out.below hA
      have HSa : WA.cell? ⟨b, o + k * 2, none⟩ = some (.int .i64 pb) ∧ WA.cell? ⟨w.heap.size, x, none⟩ = some (.slice a1 rn c1) := ⟨(hA.cell (p := ⟨b, o + k * 2, none⟩) HLi.out.1).trans HSr.1, (LA.out.cell HRX.out).1⟩
      rw [hWA]
      clear hWA
      refine hK.out _ _ (fun _ => HSa) ?_
      clear hK K
      try simp only [Act.put, List.setIfInBounds_toArray, List.set_cons_zero, List.set_cons_succ]
      refine wpAnyG_one (i := 13) (by kernel_rfl) rfl (fun K hK0 => ?_)
      have hK : Hid _ := hK0
      clear hK0
      refine step_append_lies _ (by rfl) _ _ _ (by rfl) w.heap.size 3 i1 (.int .i64 0) 1 8 Tryz.underlying32 hi1 hy0 hy1 hy2 rfl (by omega) (.slice a1 rn c1) rn rx (by rfl) (LA.out.she.get HRX.out) ⟨wr.heap.size, 0, none⟩ 1 1 [Value.int .i64 pb] (by rfl) (by rfl) HNW.out (by intro u hu; simp at hu; subst hu; rfl) (by omega) (by unfold maxLen; omega) (by omega) LA.out.base (wr.heap.size + 1) HZA.out ?_
      intro gg cp w9 hown9 hgrow9 hat9 hlt9
      have hrb : (Value.slice a1 rn c1).ownBlock ≠ some b := fun h => by
        have h1 := (LV.out.she.get HRX.out).lt b h
        have h2 := HBW.out
        omega
      have hrV : (Value.slice a1 rn c1).ownBlock ≠ some w.heap.size := fun h => own_otherR LV.out.she.outV (LV.out.she.get HRX.out) (by decide) h rfl
      have hVl : w.heap.size < WA.heap.size := (LA.out.she.outV.lt w.heap.size rfl).2
      have hbl : b < WA.heap.size := by have := HBW.out; omega
      have cv9 : w9.cell? ⟨w.heap.size, x, none⟩ = some (.slice a1 rn c1) := (hgrow9.cell_far ⟨w.heap.size, x, none⟩ hVl (fun e => hrV e.symm)).trans HSa.2
      have fv9 : w9.frozen? ⟨w.heap.size, x, none⟩ = false := (hgrow9.frozen_far ⟨w.heap.size, x, none⟩ hVl (fun e => hrV e.symm)).trans (LA.out.cell HRX.out).2
      have HS9 : w9.cell? ⟨b, o + k * 2, none⟩ = some (.int .i64 pb) ∧ w9.cell? ⟨w.heap.size, x, none⟩ = some (.slice a1 rn c1) := ⟨(hgrow9.cell_far ⟨b, o + k * 2, none⟩ hbl (fun e => hrb e.symm)).trans HSa.1, cv9⟩
      have L9 : Hid (Lw w.heap.size w.heap.size n w (w9.setCell ⟨w.heap.size, x, none⟩ (.slice (some ⟨gg, 0, none⟩) (rn + 1) cp)) (rs.set x ⟨.slice (some ⟨gg, 0, none⟩) (rn + 1) cp, rn + 1, rx ++ [Value.int .i64 pb]⟩)) := LA.out.put HRX.out hown9 hgrow9 (hat9.elim (fun h => .inl h.symm) (fun h => .inr (by rw [h, HZA.out]; rfl)))
      clear hown9 hgrow9 hat9 hlt9
      refine hK.out _ _ (fun _ => HS9) ?_
      clear hK K
      try simp only [Act.put, List.setIfInBounds_toArray, List.set_cons_zero, List.set_cons_succ]
      refine wpAnyG_one (i := 14) (by kernel_rfl) rfl (fun K hK0 => ?_)
      have hK : Hid _ := hK0
      clear hK0
      go_simp
      refine hK.out _ _ (fun _ => HS9) ?_
      clear hK K
      try simp only [Act.put, List.setIfInBounds_toArray, List.set_cons_zero, List.set_cons_succ]
      refine wpAnyG_one (i := 15) (by kernel_rfl) rfl (fun K hK0 => ?_)
      have hK : Hid _ := hK0
      clear hK0
      go_simp
      refine hK.out _ _ (fun h => Bool.noConfusion (show true = false from h)) ?_
      clear hK K
      try simp only [Act.put, List.setIfInBounds_toArray, List.set_cons_zero, List.set_cons_succ]
      refine wpAnyG_done (by kernel_rfl) ?_ _
      go_wp2
      go_roundg (ps.length - (k + 1))
      case measure => omega
      case rel =>
        refine ⟨k + 1, _, rfl, by go_num, by omega, L9.out, ?_⟩
        have h9 := HA.out.more HRX.out (.slice (some ⟨gg, 0, none⟩) (rn + 1) cp) pb
        rw [List.take_add_one, List.getElem?_map, HP.out]
        exact h9
    · have hkp' : ¬ (k : Int) < (ps.length : Int) := by omega
      have HA2 : Hid (Ad .i64 (ps.map swapP) rs) := by unfold Hid; have h9 := HA.out; rw [List.take_of_length_le (by first | omega | (rw [List.length_map]; omega))] at h9; exact h9
      go_wp2
      go_ret
      exact ⟨rfl, rs, LV.out, HA2.out⟩
end Go.Proofs.YtgijcbipnjmhgabGreat

namespace Go.Proofs.YtgijcbipnjmhgabGreat
open Go.ChangeShapes Go.WideShapes Go.ChangeAt Go.RowKit
set_option linter.unusedVariables false
set_option linter.unusedSimpArgs false

theorem own_front {B e g n c : Nat} {w : World} {xs : List Int} (h : w.ownsRow B e 1 (.slice (some ⟨g, 0, none⟩) n c) n (flat xs)) {k : Nat} (hk : k ≤ n) : w.ownsRow B e 1 (.slice (some ⟨g, 0, none⟩) k c) k (flat (xs.take k)) := by
  have hl : xs.length = n := by
    have := h.1
    rw [flat_length] at this
    exact Nat.eq_of_mul_eq_mul_right (by decide) this
  rcases h.2 with ⟨hv, h0⟩ | ⟨g', c', cur, hv, hg, hh, hlc, hm, hs, hx⟩
  · cases hv
  · cases hv
    refine ⟨by rw [flat_length, List.length_take, hl, Nat.min_eq_left hk]; rfl, .inr ⟨g, c, cur, rfl, hg, hh, by omega, hm, hs, ?_⟩⟩
    have : cur.toList.take (k * 1) = (cur.toList.take (n * 1)).take (k * 1) := by rw [List.take_take]; congr 1; omega
    rw [this, hx]
    apply List.ext_getElem?
    intro j
    rw [List.getElem?_take, flat_at, flat_at, List.getElem?_take]
    by_cases hj : j < k
    · rw [if_pos (by omega), if_pos hj]
    · rw [if_neg (by omega), if_neg hj]; rfl
theorem own_caps {B e g n c : Nat} {w : World} {xs : List Value} (h : w.ownsRow B e 1 (.slice (some ⟨g, 0, none⟩) n c) n xs) : n ≤ c := by
  rcases h.2 with ⟨hv, h0⟩ | ⟨g', c', cur, hv, hg, hh, hlc, hm, hs, hx⟩
  · cases hv
  · cases hv
    omega
set_option maxRecDepth 1000000 in
set_option maxHeartbeats 2000000 in
theorem rpop_any {B b : Nat} {w : World} {V : Value} {xs : List Int} (h : Hq B b w V xs) (n : Nat) (h0 : xs.length = n + 1) (hn : n ≤ 70368744177664) : Calls Tryz.prog 130 #[.pointer (some ⟨b, 0, none⟩)] w fun e w' => e = .returned (.iface 3 (.int .i64 xs[n]!)) ∧ ∃ V', Hq B b w' V' (xs.take n) ∧ V'.ownBlock = V.ownBlock ∧ Mv B b V.ownBlock w w' := by
  obtain ⟨a, c, rfl, ha⟩ := h.form
  obtain ⟨g, rfl⟩ := ha (by omega)
  have c1 := h.cell (i := n) (by omega)
  have c0 := h.box.cell 0
  have f0 := h.box.free 0
  have z0 := h.box.lt
  simp at c0
  have hc := own_caps h.row
  have HF : Hid (Hq B b (w.setCell ⟨b, 0, none⟩ (.slice (some ⟨g, 0, none⟩) n c)) (.slice (some ⟨g, 0, none⟩) n c) (xs.take n) ∧ Mv B b (some g) w (w.setCell ⟨b, 0, none⟩ (.slice (some ⟨g, 0, none⟩) n c))) := by
    have hne := h.ne
    refine ⟨⟨h.box.set 0 _, ?_, h.le⟩, fun k hk hb hg => heap_setCell_other _ _ _ _ hb, (Below.refl _ _).setCell (p := ⟨b, 0, none⟩) h.le _⟩
    have h1 := own_front h.row (k := n) (by omega)
    have h2 : (xs.take n).length = n := by rw [List.length_take]; omega
    rw [h2]
    exact ownsRow_setCell_other h1 (a := ⟨b, 0, none⟩) (fun e => hne (by injection e with e; exact e.symm)) _
  obtain ⟨x, hx⟩ : ∃ x, xs[n]! = x := ⟨_, rfl⟩
  rw [hx] at c1 ⊢
  rw [h0] at c0 hc ⊢
  have k1 : IntKind.i64.wrap (((n + 1 : Nat) : Int) - 1) = (n : Int) := by rw [IntWalk.i64_in _ ⟨by omega, by omega⟩]; omega
  have t1 : (n : Int) < ((n + 1 : Nat) : Int) := by omega
  have t2 : (n : Int) ≤ (c : Int) := by omega
  clear h ha hx h0
  obtain ⟨m, hm⟩ : ∃ m : Nat, n + 1 = m := ⟨_, rfl⟩
  rw [hm] at c0 k1 t1 ⊢
  go_enter Tryz.func130, Tryz.ntmps130
  go_wp2
  go_ret
  exact ⟨rfl, _, HF.out.1, rfl, HF.out.2⟩
set_option maxRecDepth 1000000 in
theorem ta_int (x : Int) (t : TypeId) (z : World) : (Instr.typeAssert (.iface 3 (.int .i64 x)) t 3 false).run Tryz.prog z = .ok (.int .i64 x) z := by
  first
    | kernel_rfl
    | rfl
theorem infoIntH : (Tryz.prog.info? 3).map (fun i => (i.zero, i.size, i.bytes)) = some (some (.int .i64 0), 1, 8) := by kernel_rfl
theorem cells_newH (w : World) (l : List Value) (t : TypeId) : ∀ j u, l[j]? = some u → (w.alloc (.cells l.toArray t)).cell? ((⟨w.heap.size, 0, none⟩ : Addr).add j) = some u := cells_new w l t
set_option maxRecDepth 1000000 in
set_option maxHeartbeats 4000000 in
theorem rpush_any {B b : Nat} {w : World} {V : Value} {xs : List Int} (h : Hq B b w V xs) (x : Int) (hn : xs.length ≤ 1099511627776) : Calls Tryz.prog 131 #[.pointer (some ⟨b, 0, none⟩), .iface 3 (.int .i64 x)] w fun e w' => (∃ r, e = .returned r) ∧ ∃ V', Hq B b w' V' (xs ++ [x]) ∧ (V'.ownBlock = V.ownBlock ∨ ∃ g, V'.ownBlock = some g ∧ w.heap.size ≤ g) ∧ Mv B b V.ownBlock w w' := by
  obtain ⟨i0, hi0, hz0, hz1, hz2⟩ := info_parts infoIntH
  obtain ⟨a, c, rfl, ha⟩ := h.form
  have HH : Hid (Hq B b w (.slice a xs.length c) xs) := h
  have c0 := h.box.cell 0
  have z0 := h.box.lt
  simp at c0
  have HNB : Hid ((Value.slice a xs.length c).ownBlock ≠ some b) := fun e => h.box.neR h.row (by decide) e rfl
  clear h ha
  go_enter Tryz.func131, Tryz.ntmps131
  obtain ⟨n, hnn⟩ : ∃ n, xs.length = n := ⟨_, rfl⟩
  have HN : Hid (xs.length = n) := hnn
  rw [hnn] at c0 hn HNB ⊢
  have HR : Hid (w.ownsRow B 3 1 (.slice a n c) n (flat xs)) := by unfold Hid; have := HH.out.row; rw [hnn] at this; exact this
  clear hnn
  refine wp_region_G (fun z => z.cell? ⟨b, 0, none⟩ = some (.slice a n c)) 9 (by kernel_rfl) ?_
  refine wpAnyG_take (i := 0) (v := .pointer (some ⟨b, 0, none⟩)) rfl (by kernel_rfl) (by kernel_rfl) (by kernel_rfl) (fun _ _ _ h => h) (by kernel_rfl) (by kernel_rfl) (by kernel_rfl) (Or.inl ⟨by rfl, fun z hz => ?_⟩) c0 ?_
  · (try dsimp only at hz); go_simp
  try simp only [Act.put, List.setIfInBounds_toArray, List.set_cons_zero, List.set_cons_succ]
  refine wpAnyG_take (i := 1) (v := .pointer (some ⟨b, 0, none⟩)) rfl (by kernel_rfl) (by kernel_rfl) (by kernel_rfl) (fun _ _ _ h => h) (by kernel_rfl) (by kernel_rfl) (by kernel_rfl) (Or.inl ⟨by rfl, fun z hz => ?_⟩) c0 ?_
  · (try dsimp only at hz); go_simp
  try simp only [Act.put, List.setIfInBounds_toArray, List.set_cons_zero, List.set_cons_succ]
  refine wpAnyG_take (i := 2) (v := .pointer (some ⟨b, 0, none⟩)) rfl (by kernel_rfl) (by kernel_rfl) (by kernel_rfl) (fun _ _ _ h => h) (by kernel_rfl) (by kernel_rfl) (by kernel_rfl) (Or.inl ⟨by rfl, fun z hz => ?_⟩) c0 ?_
  · (try dsimp only at hz); go_simp
  try simp only [Act.put, List.setIfInBounds_toArray, List.set_cons_zero, List.set_cons_succ]
  refine wpAnyG_take (i := 3) (v := .slice a n c) rfl (by kernel_rfl) (by kernel_rfl) (by kernel_rfl) (fun _ _ _ h => h) (by kernel_rfl) (by kernel_rfl) (by kernel_rfl) (Or.inl ⟨by rfl, fun z hz => ?_⟩) c0 ?_
  · (try dsimp only at hz); go_simp
  try simp only [Act.put, List.setIfInBounds_toArray, List.set_cons_zero, List.set_cons_succ]
  refine wpAnyG_take (i := 4) (v := .iface 3 (.int .i64 x)) rfl (by kernel_rfl) (by kernel_rfl) (by kernel_rfl) (fun _ _ _ h => h) (by kernel_rfl) (by kernel_rfl) (by kernel_rfl) (Or.inl ⟨by rfl, fun z hz => ?_⟩) c0 ?_
  · (try dsimp only at hz); go_simp
  try simp only [Act.put, List.setIfInBounds_toArray, List.set_cons_zero, List.set_cons_succ]
  refine wpAnyG_take (i := 5) (v := .int .i64 x) rfl (by kernel_rfl) (by kernel_rfl) (by kernel_rfl) (fun _ _ _ h => h) (by kernel_rfl) (by kernel_rfl) (by kernel_rfl) (Or.inl ⟨by rfl, fun z hz => ?_⟩) c0 ?_
  · (try dsimp only at hz); have hta := fun t => ta_int x t z; go_simp; (try rw [hta]); (try rfl)
  try simp only [Act.put, List.setIfInBounds_toArray, List.set_cons_zero, List.set_cons_succ]
  refine wpAnyG_one (i := 6) (by kernel_rfl) rfl (fun K hK0 => ?_)
  have hK : Hid _ := hK0
  clear hK0
  go_simp
  obtain ⟨w1, hw1⟩ : ∃ w1, (w.alloc (.cells #[.int .i64 x] 3)).drew = w1 := ⟨_, rfl⟩
  have hA : Below w.heap.size w w1 := by rw [← hw1]; exact ((Below.refl _ w).alloc (Nat.le_refl _) _).drew
  have HNW : Hid (∀ j u, ([Value.int .i64 x] : List Value)[j]? = some u → w1.cell? ((⟨w.heap.size, 0, none⟩ : Addr).add j) = some u) := by unfold Hid; rw [← hw1]; exact cells_newH w [Value.int .i64 x] 3
  have HZ1 : Hid (w1.heap.size = w.heap.size + 1) := by unfold Hid; rw [← hw1]; simp
  have HB1 : Hid (Below w.heap.size w w1) := hA
  have c1 : w1.cell? ⟨b, 0, none⟩ = some (.slice a n c) := (HH.out.box.below hA HH.out.box.lt).cell 0 |>.trans (by have := HN.out; simp [this])
  rw [hw1]
  clear hw1 hA
  refine hK.out _ _ (fun _ => c1) ?_
  clear hK K
  try simp only [Act.put, List.setIfInBounds_toArray, List.set_cons_zero, List.set_cons_succ]
  refine wpAnyG_one (i := 7) (by kernel_rfl) rfl (fun K hK0 => ?_)
  have hK : Hid _ := hK0
  clear hK0
  refine step_append_lies _ (by rfl) _ _ _ (by rfl) B 3 i0 (.int .i64 0) 1 8 Tryz.underlying78 hi0 hz0 hz1 hz2 rfl (by omega) (.slice a n c) n (flat xs) (by rfl) (own_belowR HR.out HB1.out (Nat.le_refl _)) ⟨w.heap.size, 0, none⟩ 1 1 [Value.int .i64 x] (by rfl) (by rfl) HNW.out (by intro u hu; simp at hu; subst hu; rfl) (by omega) (by unfold maxLen; omega) (by omega) (by have h1 := HH.out.le; have h2 := HZ1.out; omega) (w.heap.size + 1) HZ1.out ?_
  intro gg cp w2 hown2 hgrow2 hat2 hlt2
  have X2 : Hid (Bx w2 b #[.slice a xs.length c] 78) := (HH.out.box.below HB1.out HH.out.box.lt).grw hgrow2 HNB.out
  have c2 : w2.cell? ⟨b, 0, none⟩ = some (.slice a n c) := X2.out.cell 0 |>.trans (by have := HN.out; simp [this])
  have f2 := X2.out.free 0
  have R2 : Hid (w2.ownsRow B 3 1 (.slice (some ⟨gg, 0, none⟩) (n + 1) cp) (n + 1) (flat (xs ++ [x]))) := by unfold Hid; rw [flat_append]; exact hown2
  have M2 : Hid (Mv B b (Value.slice a n c).ownBlock w w2) := by
    have hz := HZ1.out
    have hle := HH.out.le
    refine ⟨fun k hk hb hg => (hgrow2.block k (by omega) hg).trans (HB1.out.block k hk), ?_⟩
    exact (HB1.out.mono (by omega)).grown hgrow2 (by omega) (fun g hg => (HR.out.lt g hg).1)
  have A2 : Hid ((Value.slice a n c).ownBlock = some gg ∨ w.heap.size ≤ gg) := hat2.elim .inl (fun e => .inr (by omega))
  clear hown2 hgrow2 hat2 hlt2
  refine hK.out _ _ (fun _ => c2) ?_
  clear hK K
  try simp only [Act.put, List.setIfInBounds_toArray, List.set_cons_zero, List.set_cons_succ]
  refine wpAnyG_one (i := 8) (by kernel_rfl) rfl (fun K hK0 => ?_)
  have hK : Hid _ := hK0
  clear hK0
  go_simp
  refine hK.out _ _ (fun _ => c2) ?_
  clear hK K
  try simp only [Act.put, List.setIfInBounds_toArray, List.set_cons_zero, List.set_cons_succ]
  refine wpAnyG_one (i := 9) (by kernel_rfl) rfl (fun K hK0 => ?_)
  have hK : Hid _ := hK0
  clear hK0
  go_simp
  refine hK.out _ _ (fun h => Bool.noConfusion (show true = false from h)) ?_
  clear hK K
  try simp only [Act.put, List.setIfInBounds_toArray, List.set_cons_zero, List.set_cons_succ]
  refine wpAnyG_done (by kernel_rfl) ?_ _
  refine bodyPost_end (results_none rfl _ _ _) rfl ?_
  refine ⟨⟨_, rfl⟩, .slice (some ⟨gg, 0, none⟩) (n + 1) cp, ⟨X2.out.set 0 _, ?_, HH.out.le⟩, ?_, ?_⟩
  · have hl : (xs ++ [x]).length = n + 1 := by rw [List.length_append, HN.out]; rfl
    rw [hl]
    exact ownsRow_setCell_other R2.out (a := ⟨b, 0, none⟩) (fun e => by have e2 : b ≠ gg := X2.out.neR R2.out (by decide) rfl; injection e with e; exact e2 e.symm) _
  · rcases A2.out with e | e
    · exact .inl (by rw [e]; rfl)
    · exact .inr ⟨gg, rfl, e⟩
  · exact ⟨fun k hk hb hg => (heap_setCell_other _ _ _ _ hb).trans (M2.out.keep k hk hb hg), M2.out.bel.setCell (p := ⟨b, 0, none⟩) HH.out.le _⟩
end Go.Proofs.YtgijcbipnjmhgabGreat
