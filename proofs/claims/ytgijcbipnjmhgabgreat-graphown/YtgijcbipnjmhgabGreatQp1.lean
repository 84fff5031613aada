import Derived.Test.YtgijcbipnjmhgabGreatQp0
import Derived.Test.YtgijcbipnjmhgabGreatSp6
namespace Go.Proofs.YtgijcbipnjmhgabGreat
open Go.ChangeShapes Go.WideShapes Go.ChangeAt Go.RowKit
set_option linter.unusedVariables false
set_option linter.unusedSimpArgs false

/-- the line-up with what stands in line beside it -/
structure Qv7 (B bL gC s gm n : Nat) (w : World) (S : Nat → Prop) (ms : List Int) (O : Value) (os : List Value) : Prop where
  q : Qw B bL gC s gm n w S ms
  ou : w.ownsRow B 32 1 O os.length os
  e1 : O.ownBlock ≠ some gm
  e2 : O.ownBlock ≠ some gC
theorem Qv7.below {B bL gC s gm n : Nat} {w w' : World} {S : Nat → Prop} {ms : List Int} {os : List Value} {O : Value} (h : Qv7 B bL gC s gm n w S ms O os) (hb : Below w.heap.size w w') : Qv7 B bL gC s gm n w' S ms O os :=
  ⟨h.q.below hb, own_belowR h.ou hb (Nat.le_refl _), h.e1, h.e2⟩
theorem Qv7.put {B bL gC s gm n : Nat} {w w' : World} {S S' : Nat → Prop} {ms : List Int} {os : List Value} {O : Value} (h : Qv7 B bL gC s gm n w S ms O os) (hz : Lz B bL gC s w' S') (ho : One gC w w') : Qv7 B bL gC s gm n w' S' ms O os :=
  ⟨h.q.put hz ho, own_same h.ou (fun g e => ho.keep g (h.ou.lt g e).2 (fun e2 => h.e2 (by rw [e, e2]))), h.e1, h.e2⟩
theorem Qv7.set {B bL gC s gm n : Nat} {w : World} {S : Nat → Prop} {ms : List Int} {os : List Value} {O : Value} (h : Qv7 B bL gC s gm n w S ms O os) (y : Nat) (v : Int) : Qv7 B bL gC s gm n (w.setCell ⟨gm, y, none⟩ (.int .i64 v)) S (ms.set y v) O os :=
  ⟨h.q.set y v, ownsRow_setCell_other h.ou (a := ⟨gm, y, none⟩) h.e1 _, h.e1, h.e2⟩
theorem Qv7.push {B bL gC s gm n : Nat} {w w' : World} {S : Nat → Prop} {ms : List Int} {os : List Value} {O O' : Value} {x : Value} (h : Qv7 B bL gC s gm n w S ms O os) (ho : w'.ownsRow B 32 1 O' (os.length + 1) (os ++ [x])) (hg : w.grownBy w' O.ownBlock) (hn : O'.ownBlock = O.ownBlock ∨ ∃ g, O'.ownBlock = some g ∧ w.heap.size ≤ g) : Qv7 B bL gC s gm n w' S ms O' (os ++ [x]) := by
  have hbl : O.ownBlock ≠ some bL := fun e => h.q.lz.box.neR h.ou (by decide) e rfl
  obtain ⟨cs, k1, -⟩ := h.q.lz.row
  refine ⟨h.q.grw hg hbl h.e2 h.e1, ?_, ?_, ?_⟩
  · rw [List.length_append, List.length_singleton]; exact ho
  · rcases hn with e | ⟨g, e, hg2⟩
    · rw [e]; exact h.e1
    · rw [e]; intro e2; injection e2 with e2; have := (h.q.mi.lt gm rfl).2; omega
  · rcases hn with e | ⟨g, e, hg2⟩
    · rw [e]; exact h.e2
    · rw [e]; intro e2; injection e2 with e2; have := (k1.lt gC rfl).2; omega
/-- the rows that are told, as they are read -/
def Vs7 (D : Nat) (wA : World) (n : Nat) (lw : Nat → Nat) (os : List Int) (vals : List Value) : Prop := vals.length = os.length ∧ ∀ (i : Nat) x, os[i]? = some x → ∃ a c, vals[i]? = some (.slice a (mem1 n lw x.toNat).length c) ∧ Rd1 D wA a (mem1 n lw x.toNat)
theorem Vs7.push {D n : Nat} {wA : World} {lw : Nat → Nat} {os : List Int} {vals : List Value} {a : Option Addr} {c x : Nat} (h : Vs7 D wA n lw os vals) (hr : Rd1 D wA a (mem1 n lw x)) : Vs7 D wA n lw (os ++ [(x : Int)]) (vals ++ [.slice a (mem1 n lw x).length c]) := by
  refine ⟨by rw [List.length_append, List.length_append, h.1]; rfl, fun i y hy => ?_⟩
  by_cases hi : i < os.length
  · rw [List.getElem?_append_left hi] at hy
    obtain ⟨a', c', h1, h2⟩ := h.2 i y hy
    exact ⟨a', c', by rw [List.getElem?_append_left (by rw [h.1]; exact hi)]; exact h1, h2⟩
  · rw [List.getElem?_append_right (by omega)] at hy
    obtain ⟨h3, h4⟩ := List.getElem?_eq_some_iff.1 hy
    have h5 : i = os.length := by rw [List.length_singleton] at h3; omega
    subst h5
    rw [Nat.sub_self] at hy
    have h6 : y = (x : Int) := by simpa using hy.symm
    subst h6
    exact ⟨a, c, by rw [List.getElem?_append_right (by rw [h.1]; exact Nat.le_refl _), h.1, Nat.sub_self]; rfl, hr⟩
theorem lowP {ps : List Pr} {n : Nat} {lw : Nat → Nat} (h : Lws ps n lw) : ∀ p ∈ btw lw ps, decide ((lw p.a.toNat : Int) = p.a) = true := by
  rintro ⟨x, y⟩ hp0
  obtain ⟨p, hp, -, hx, -⟩ := mem_btw.1 hp0
  subst hx
  have := h.rng p hp
  rw [decide_eq_true_eq]
  show ((lw ((lw p.a.toNat : Nat) : Int).toNat : Nat) : Int) = _
  rw [show (((lw p.a.toNat : Nat) : Int)).toNat = lw p.a.toNat by omega, h.idem (by omega)]
/-- what the reference's Parts answers -/
def PtG (n : Nat) (ps : List Pr) (w : World) (e : Ending) (w' : World) : Prop := ∃ (v : Option Addr) (c : Nat) (os : List Int) (lw : Nat → Nat), e = .returned (.tuple #[.slice v os.length c, .int .i64 0]) ∧ Below w.heap.size w w' ∧ Lws ps n lw ∧ Gn (fun x => (0 ≤ x ∧ x < (n : Int)) ∧ decide ((lw x.toNat : Int) = x) = true) (fun x z => (⟨x, z⟩ : Pr) ∈ btw lw ps) os ∧ Rq6 w'.heap.size w' v (os.map fun x => mem1 n lw x.toNat) ∧ os.length ≤ n
set_option maxRecDepth 1000000 in
set_option maxHeartbeats 4000000 in
theorem rparts_ok (n cap : Nat) (a : Option Addr) (ps : List Pr) (w : World) (hL : LiesA w a ps) (hm : ps.length ≤ 8796093022208) (ht : things (n : Int) ps = true) :
    Calls Tryz.prog 10 #[.int .i64 (n : Int), .slice a ps.length cap] w (PtG n ps w) := by
  obtain ⟨hn, hps⟩ := things_spec ht
  obtain ⟨i0, hi0, hz0, hz1, hz2⟩ := info_parts infoRowI
  obtain ⟨i1, hi1, hy0, hy1, hy2⟩ := info_parts infoInt
  have HL := hidH hL
  have HPS := hidH hps
  have QB : Hid (Calls Tryz.prog 29 #[.int .i64 (n : Int), .slice a ps.length cap] w fun e w' => e = .returned (.bool false) ∧ w' = w) := by have h9 := rbad_any (n : Int) a cap ps w hL (by omega); rw [ht] at h9; exact h9
  have QT := hidH (rtogether_any n cap a ps w hL hn hm hps)
  obtain ⟨B, hB⟩ : ∃ B, w.heap.size = B := ⟨_, rfl⟩
  have HBE := hidH hB
  rw [hB] at QT
  clear hL hps ht
  go_enter Tryz.func10, Tryz.ntmps10
  go_upto_region 4 with (first
    | (go_at_call 29; (with_reducible refine QB.out.mono ?_); clear QB; rintro e w1 ⟨rfl, hw⟩; have hw2 := hw.symm; clear hw; subst hw2)
    | (go_at_call 35; (with_reducible refine QT.out.mono ?_); clear QT; rintro e w1 ⟨gL, rfl, hb1, ms, ho1, hml, hT⟩; have E1 := hidH hb1; have OL := hidH ho1; have ML := hidH hml; have TL := hidH hT; clear hb1 ho1 hml hT))
  obtain ⟨C, hC⟩ : ∃ C, w1.heap.size = C := ⟨_, rfl⟩
  obtain ⟨lw, hlw⟩ : ∃ lw, lwT ms = lw := ⟨_, rfl⟩
  have LW : Hid (Lws ps n lw) := by rw [← hlw]; exact ⟨fun y hy => (TL.out.low hy).2.1, HPS.out⟩
  have LT : Hid (∀ y, y < n → lw y < n) := by rw [← hlw]; exact fun y hy => (TL.out.low hy).2.2
  have RR : Hid (Rr1 C w1 gL n lw) := by
    rw [← hC, ← hlw]
    refine ⟨(OL.out.lt gL rfl).2, fun y hy => (row_cell OL.out ?_).1⟩
    have hl : y < ms.length := by rw [ML.out]; exact hy
    rw [← (TL.out.low hy).1, List.getElem?_eq_getElem hl, getElem!_pos ms y hl]
  have hBC : B ≤ C := by have := E1.out.size; omega
  have HCE := hidH hC
  clear hlw OL ML TL
  go_upto_region 5 with (at_make; refine wpList_make_full _ rfl _ _ 26 rfl C 32 i0 (.slice none 0 0) 1 Tryz.underlying26 hi0 hz0 hz1 _ _ _ _ n rfl rfl rfl rfl (by rw [hz2]; omega) (by unfold maxLen; omega) (by omega) ?_; intro w3 hown3 hgr3; rw [hC] at hown3 ⊢; have L3 : Hid (Lw C C n w1 w3 (List.replicate n ⟨.slice none 0 0, 0, []⟩)) := ⟨She.made (by have h9 := rep_made (.slice none 0 0) n; rw [show (Value.slice none 0 0).cells = #[.slice none 0 0] by rfl] at hown3; rw [h9] at hown3; exact hown3), by simp, (Below.refl _ w1).grown hgr3 (by omega) (fun k h => by cases h), (by have := hgr3.size; omega)⟩; clear hown3 hgr3)
  clear hC
  go_upto_region 6 with fail
  go_loopg [8] n (fun gk s8 wr => ∃ (k : Nat) (rs : List Rr), gk = n - k ∧ s8 = .int .i64 (k : Int) ∧ k ≤ n ∧ Lw C C n w1 wr rs ∧ AdX .i64 (mps lw k) rs)
  case atStart => exact ⟨0, _, rfl, rfl, Nat.zero_le _, L3.out, AdX.start n⟩
  case round =>
    clear L3
    obtain ⟨k, rs, hgk, rfl, hk, hLv, hAd⟩ := hrel
    have LV := hidH hLv
    have HA := hidH hAd
    clear hLv hAd
    by_cases hkn : k < n
    · have hkn' : (k : Int) < (n : Int) := by omega
      have hk0 : (0 : Int) ≤ (k : Int) := by omega
      have kk : IntKind.i64.wrap ((k : Int) + 1) = ((k + 1 : Nat) : Int) := by rw [IntWalk.i64_in _ ⟨by omega, by omega⟩]; omega
      obtain ⟨z, hz⟩ : ∃ z, lw k = z := ⟨_, rfl⟩
      have hzn : z < n := by rw [← hz]; exact LT.out k hkn
      have hz0' : (0 : Int) ≤ (z : Int) := by omega
      have hzn' : (z : Int) < (n : Int) := by omega
      have cL : wr.cell? ⟨gL, k, none⟩ = some (.int .i64 (z : Int)) := by have h9 := (RR.out.below LV.out.bel).2 k hkn; rw [hz] at h9; exact h9
      have HZ := hidH hz
      obtain ⟨r, hrx⟩ : ∃ r, rs[z]? = some r := ⟨_, List.getElem?_eq_getElem (by have := LV.out.len; omega)⟩
      have HRX := hidH hrx
      obtain ⟨a1, c1, hv1, -, -⟩ := own_slice (LV.out.she.get HRX.out)
      obtain ⟨rv, rn, rx⟩ := r
      simp only at hv1
      subst hv1
      obtain ⟨ys, hq1, hq2, hq3, hq4⟩ := HA.out z _ HRX.out
      simp only at hq1 hq2
      have hrn : rn ≤ 131072 := by rw [hq1]; unfold mps at hq3; rw [List.length_map, List.length_range] at hq3; omega
      clear hq1 hq2 hq3 hq4 ys hrx hz
      have hgLC : gL < C := RR.out.1
      have HSr : wr.cell? ⟨gL, k, none⟩ = some (.int .i64 (z : Int)) ∧ wr.cell? ⟨C, z, none⟩ = some (.slice a1 rn c1) := ⟨cL, (LV.out.cell HRX.out).1⟩
      clear cL
      go_upto_region 8 with fail
      refine wp_region_G (fun y => y.cell? ⟨gL, k, none⟩ = some (.int .i64 (z : Int)) ∧ y.cell? ⟨C, z, none⟩ = some (.slice a1 rn c1)) 16 (by kernel_rfl) ?_
      refine wpAnyG_take (i := 0) (v := .slice (some ⟨C, 0, none⟩) n n) rfl (by kernel_rfl) (by kernel_rfl) (by kernel_rfl) (fun _ _ _ h => h) (by kernel_rfl) (by kernel_rfl) (by kernel_rfl) (Or.inl ⟨by rfl, fun y hy => ?_⟩) HSr ?_
      · obtain ⟨hz0, hz1⟩ := hy
        go_simp
      try simp only [Act.put, List.setIfInBounds_toArray, List.set_cons_zero, List.set_cons_succ]
      refine wpAnyG_take (i := 1) (v := .slice (some ⟨gL, 0, none⟩) n n) rfl (by kernel_rfl) (by kernel_rfl) (by kernel_rfl) (fun _ _ _ h => h) (by kernel_rfl) (by kernel_rfl) (by kernel_rfl) (Or.inl ⟨by rfl, fun y hy => ?_⟩) HSr ?_
      · obtain ⟨hz0, hz1⟩ := hy
        go_simp
      try simp only [Act.put, List.setIfInBounds_toArray, List.set_cons_zero, List.set_cons_succ]
      refine wpAnyG_take (i := 2) (v := .int .i64 (k : Int)) rfl (by kernel_rfl) (by kernel_rfl) (by kernel_rfl) (fun _ _ _ h => h) (by kernel_rfl) (by kernel_rfl) (by kernel_rfl) (Or.inl ⟨by rfl, fun y hy => ?_⟩) HSr ?_
      · obtain ⟨hz0, hz1⟩ := hy
        go_simp
      try simp only [Act.put, List.setIfInBounds_toArray, List.set_cons_zero, List.set_cons_succ]
      refine wpAnyG_take (i := 3) (v := .pointer (some ⟨gL, k, none⟩)) rfl (by kernel_rfl) (by kernel_rfl) (by kernel_rfl) (fun _ _ _ h => h) (by kernel_rfl) (by kernel_rfl) (by kernel_rfl) (Or.inl ⟨by rfl, fun y hy => ?_⟩) HSr ?_
      · obtain ⟨hz0, hz1⟩ := hy
        go_simp
      try simp only [Act.put, List.setIfInBounds_toArray, List.set_cons_zero, List.set_cons_succ]
      refine wpAnyG_take (i := 4) (v := .int .i64 (z : Int)) rfl (by kernel_rfl) (by kernel_rfl) (by kernel_rfl) (fun _ _ _ h => h) (by kernel_rfl) (by kernel_rfl) (by kernel_rfl) (Or.inl ⟨by rfl, fun y hy => ?_⟩) HSr ?_
      · obtain ⟨hz0, hz1⟩ := hy
        go_simp
      try simp only [Act.put, List.setIfInBounds_toArray, List.set_cons_zero, List.set_cons_succ]
      refine wpAnyG_take (i := 5) (v := .slice (some ⟨C, 0, none⟩) n n) rfl (by kernel_rfl) (by kernel_rfl) (by kernel_rfl) (fun _ _ _ h => h) (by kernel_rfl) (by kernel_rfl) (by kernel_rfl) (Or.inl ⟨by rfl, fun y hy => ?_⟩) HSr ?_
      · obtain ⟨hz0, hz1⟩ := hy
        go_simp
      try simp only [Act.put, List.setIfInBounds_toArray, List.set_cons_zero, List.set_cons_succ]
      refine wpAnyG_take (i := 6) (v := .slice (some ⟨gL, 0, none⟩) n n) rfl (by kernel_rfl) (by kernel_rfl) (by kernel_rfl) (fun _ _ _ h => h) (by kernel_rfl) (by kernel_rfl) (by kernel_rfl) (Or.inl ⟨by rfl, fun y hy => ?_⟩) HSr ?_
      · obtain ⟨hz0, hz1⟩ := hy
        go_simp
      try simp only [Act.put, List.setIfInBounds_toArray, List.set_cons_zero, List.set_cons_succ]
      refine wpAnyG_take (i := 7) (v := .int .i64 (k : Int)) rfl (by kernel_rfl) (by kernel_rfl) (by kernel_rfl) (fun _ _ _ h => h) (by kernel_rfl) (by kernel_rfl) (by kernel_rfl) (Or.inl ⟨by rfl, fun y hy => ?_⟩) HSr ?_
      · obtain ⟨hz0, hz1⟩ := hy
        go_simp
      try simp only [Act.put, List.setIfInBounds_toArray, List.set_cons_zero, List.set_cons_succ]
      refine wpAnyG_take (i := 8) (v := .pointer (some ⟨gL, k, none⟩)) rfl (by kernel_rfl) (by kernel_rfl) (by kernel_rfl) (fun _ _ _ h => h) (by kernel_rfl) (by kernel_rfl) (by kernel_rfl) (Or.inl ⟨by rfl, fun y hy => ?_⟩) HSr ?_
      · obtain ⟨hz0, hz1⟩ := hy
        go_simp
      try simp only [Act.put, List.setIfInBounds_toArray, List.set_cons_zero, List.set_cons_succ]
      refine wpAnyG_take (i := 9) (v := .int .i64 (z : Int)) rfl (by kernel_rfl) (by kernel_rfl) (by kernel_rfl) (fun _ _ _ h => h) (by kernel_rfl) (by kernel_rfl) (by kernel_rfl) (Or.inl ⟨by rfl, fun y hy => ?_⟩) HSr ?_
      · obtain ⟨hz0, hz1⟩ := hy
        go_simp
      try simp only [Act.put, List.setIfInBounds_toArray, List.set_cons_zero, List.set_cons_succ]
      refine wpAnyG_take (i := 10) (v := .pointer (some ⟨C, z, none⟩)) rfl (by kernel_rfl) (by kernel_rfl) (by kernel_rfl) (fun _ _ _ h => h) (by kernel_rfl) (by kernel_rfl) (by kernel_rfl) (Or.inl ⟨by rfl, fun y hy => ?_⟩) HSr ?_
      · obtain ⟨hz0, hz1⟩ := hy
        go_simp
      try simp only [Act.put, List.setIfInBounds_toArray, List.set_cons_zero, List.set_cons_succ]
      refine wpAnyG_take (i := 11) (v := .slice a1 rn c1) rfl (by kernel_rfl) (by kernel_rfl) (by kernel_rfl) (fun _ _ _ h => h) (by kernel_rfl) (by kernel_rfl) (by kernel_rfl) (Or.inl ⟨by rfl, fun y hy => ?_⟩) HSr ?_
      · obtain ⟨hz0, hz1⟩ := hy
        go_simp
      try simp only [Act.put, List.setIfInBounds_toArray, List.set_cons_zero, List.set_cons_succ]
      refine wpAnyG_take (i := 12) (v := .int .i64 (k : Int)) rfl (by kernel_rfl) (by kernel_rfl) (by kernel_rfl) (fun _ _ _ h => h) (by kernel_rfl) (by kernel_rfl) (by kernel_rfl) (Or.inl ⟨by rfl, fun y hy => ?_⟩) HSr ?_
      · obtain ⟨hz0, hz1⟩ := hy
        go_simp
      try simp only [Act.put, List.setIfInBounds_toArray, List.set_cons_zero, List.set_cons_succ]
      refine wpAnyG_one (i := 13) (by kernel_rfl) rfl (fun K hK0 => ?_)
      have hK : Hid _ := hK0
      clear hK0
      go_simp
      obtain ⟨WA, hWA⟩ : ∃ WA, (wr.alloc (.cells #[Value.int .i64 (k : Int)] 3)).drew = WA := ⟨_, rfl⟩
      have hA : Below wr.heap.size wr WA := by rw [← hWA]; exact ((Below.refl _ wr).alloc (Nat.le_refl _) _).drew
      have HNW : Hid (∀ j u, [Value.int .i64 (k : Int)][j]? = some u → WA.cell? ((⟨wr.heap.size, 0, none⟩ : Addr).add j) = some u) := by unfold Hid; rw [← hWA]; exact cells_newR wr [Value.int .i64 (k : Int)] 3
      have HZA : Hid (WA.heap.size = wr.heap.size + 1) := by unfold Hid; rw [← hWA]; show (wr.alloc _).heap.size = _; simp
      have LA : Hid (Lw C C n w1 WA rs) := LV.out.below hA
      have HSa : WA.cell? ⟨gL, k, none⟩ = some (.int .i64 (z : Int)) ∧ WA.cell? ⟨C, z, none⟩ = some (.slice a1 rn c1) := ⟨(hA.cell (p := ⟨gL, k, none⟩) (Nat.lt_of_lt_of_le hgLC LV.out.base)).trans HSr.1, (LA.out.cell HRX.out).1⟩
      rw [hWA]
      clear hWA
      refine hK.out _ _ (fun _ => HSa) ?_
      clear hK K
      try simp only [Act.put, List.setIfInBounds_toArray, List.set_cons_zero, List.set_cons_succ]
      refine wpAnyG_one (i := 14) (by kernel_rfl) rfl (fun K hK0 => ?_)
      have hK : Hid _ := hK0
      clear hK0
      refine step_append_lies _ (by rfl) _ _ _ (by rfl) C 3 i1 (.int .i64 0) 1 8 Tryz.underlying32 hi1 hy0 hy1 hy2 rfl (by omega) (.slice a1 rn c1) rn rx (by rfl) (LA.out.she.get HRX.out) ⟨wr.heap.size, 0, none⟩ 1 1 [Value.int .i64 (k : Int)] (by rfl) (by rfl) HNW.out (by intro u hu; simp at hu; subst hu; rfl) (by omega) (by unfold maxLen; omega) (by omega) LA.out.base (wr.heap.size + 1) HZA.out ?_
      intro gg cp w9 hown9 hgrow9 hat9 hlt9
      have hrb : (Value.slice a1 rn c1).ownBlock ≠ some gL := fun h => by
        have h1 := (LV.out.she.get HRX.out).lt gL h
        omega
      have hrV : (Value.slice a1 rn c1).ownBlock ≠ some C := fun h => own_otherR LV.out.she.outV (LV.out.she.get HRX.out) (by decide) h rfl
      have hVl : C < WA.heap.size := (LA.out.she.outV.lt C rfl).2
      have hbl : gL < WA.heap.size := by omega
      have cv9 : w9.cell? ⟨C, z, none⟩ = some (.slice a1 rn c1) := (hgrow9.cell_far ⟨C, z, none⟩ hVl (fun e => hrV e.symm)).trans HSa.2
      have fv9 : w9.frozen? ⟨C, z, none⟩ = false := (hgrow9.frozen_far ⟨C, z, none⟩ hVl (fun e => hrV e.symm)).trans (LA.out.cell HRX.out).2
      have HS9 : w9.cell? ⟨gL, k, none⟩ = some (.int .i64 (z : Int)) ∧ w9.cell? ⟨C, z, none⟩ = some (.slice a1 rn c1) := ⟨(hgrow9.cell_far ⟨gL, k, none⟩ hbl (fun e => hrb e.symm)).trans HSa.1, cv9⟩
      have L9 : Hid (Lw C C n w1 (w9.setCell ⟨C, z, none⟩ (.slice (some ⟨gg, 0, none⟩) (rn + 1) cp)) (rs.set z ⟨.slice (some ⟨gg, 0, none⟩) (rn + 1) cp, rn + 1, rx ++ [Value.int .i64 (k : Int)]⟩)) := LA.out.put HRX.out hown9 hgrow9 (hat9.elim (fun h => .inl h.symm) (fun h => .inr (by rw [h, HZA.out]; rfl)))
      clear hown9 hgrow9 hat9 hlt9
      refine hK.out _ _ (fun _ => HS9) ?_
      clear hK K
      try simp only [Act.put, List.setIfInBounds_toArray, List.set_cons_zero, List.set_cons_succ]
      refine wpAnyG_one (i := 15) (by kernel_rfl) rfl (fun K hK0 => ?_)
      have hK : Hid _ := hK0
      clear hK0
      go_simp
      refine hK.out _ _ (fun _ => HS9) ?_
      clear hK K
      try simp only [Act.put, List.setIfInBounds_toArray, List.set_cons_zero, List.set_cons_succ]
      refine wpAnyG_one (i := 16) (by kernel_rfl) rfl (fun K hK0 => ?_)
      have hK : Hid _ := hK0
      clear hK0
      go_simp
      refine hK.out _ _ (fun h => Bool.noConfusion (show true = false from h)) ?_
      clear hK K
      try simp only [Act.put, List.setIfInBounds_toArray, List.set_cons_zero, List.set_cons_succ]
      refine wpAnyG_done (by kernel_rfl) ?_ _
      go_wp2
      go_roundg (n - (k + 1))
      case measure => omega
      case rel =>
        refine ⟨k + 1, _, rfl, rfl, by omega, L9.out, ?_⟩
        have h9 := HA.out.more HRX.out (.slice (some ⟨gg, 0, none⟩) (rn + 1) cp) (k : Int)
        rw [mps_snoc, HZ.out]
        exact h9
    · have hkn' : ¬ (k : Int) < (n : Int) := by omega
      have hk2 : n = k := by omega
      subst hk2
      obtain ⟨wA, hwA⟩ : ∃ wA, wA = wr := ⟨wr, rfl⟩
      subst hwA
      obtain ⟨D, hD⟩ : ∃ D, wA.heap.size = D := ⟨_, rfl⟩
      have hCD : C < D := by have := (LV.out.she.outV.lt C rfl).2; omega
      have EA : Hid (Below B w wA) := E1.out.trans (LV.out.bel.mono hBC)
      have MX : Hid (Rx6 D wA C n (mem1 n lw)) := by
        have h9 := lw_rx LV.out HA.out
        rw [hD, show nd (mps lw n) = mem1 n lw from funext fun z => nd_mps n lw z] at h9
        exact h9
      have RA : Hid (Rr1 D wA gL n lw) := ⟨Nat.lt_trans RR.out.1 hCD, (RR.out.below LV.out.bel).2⟩
      have HDE := hidH hD
      obtain ⟨i2, hi2, hw0, hw1, hw2⟩ := info_parts infoPr
      clear LV HA RR hD hgk hkn
      go_upto_region 11 with fail
      go_loopg [9, 10] ps.length (fun gk s9 s10 wr => ∃ (j : Nat) (bs : List Pr), gk = ps.length - j ∧ s10 = .int .i64 (j : Int) ∧ j ≤ ps.length ∧ wr.ownsRow D 51 2 s9 bs.length (flat bs) ∧ bs = btw lw (ps.take j) ∧ Below D wA wr)
      case atStart => exact ⟨0, [], rfl, rfl, Nat.zero_le _, World.ownsRow_nil _ _ _ _, rfl, Below.refl _ _⟩
      case round =>
        obtain ⟨j, bs, hgk, rfl, hj, hO, hbs, hE⟩ := hrel
        have OB := hidH hO
        have BS := hidH hbs
        have HE := hidH hE
        have hbl : bs.length ≤ j := by rw [hbs]; unfold btw; rw [List.length_map]; exact Nat.le_trans (List.length_filter_le _ _) (by rw [List.length_take]; omega)
        have hwB : D ≤ wr.heap.size := by have := HE.out.size; have := HDE.out; omega
        clear hO hbs hE
        by_cases hjp : j < ps.length
        · have hjp' : (j : Int) < (ps.length : Int) := by omega
          have kj : IntKind.i64.wrap ((j : Int) + 1) = ((j + 1 : Nat) : Int) := by rw [IntWalk.i64_in _ ⟨by omega, by omega⟩]; omega
          obtain ⟨p, hp⟩ : ∃ p, ps[j]? = some p := ⟨_, List.getElem?_eq_getElem hjp⟩
          obtain ⟨b, o, ha, hLi⟩ : ∃ b o, a = some ⟨b, o, none⟩ ∧ Lies w b o ps := by
            rcases HL.out with h | h
            · rw [h] at hjp; exact absurd hjp (Nat.not_lt_zero _)
            · exact h
          subst ha
          obtain ⟨⟨ha0, ha1⟩, hb0, hb1⟩ := HPS.out p (List.mem_of_getElem? hp)
          obtain ⟨pa, pb⟩ := p
          obtain ⟨x, rfl⟩ : ∃ x : Nat, pa = (x : Int) := ⟨pa.toNat, by simp only at ha0; omega⟩
          obtain ⟨y, rfl⟩ : ∃ y : Nat, pb = (y : Int) := ⟨pb.toNat, by simp only at hb0; omega⟩
          simp only at ha0 ha1 hb0 hb1
          have HP := hidH hp
          have hwW : Below w.heap.size w wr := by rw [HBE.out]; exact EA.out.trans (HE.out.mono (by omega))
          obtain ⟨d0, d1⟩ := (hLi.below hwW hLi.1).pr hp
          simp only at d0 d1
          have hr2 := RA.out.below HE.out
          have cx := hr2.2 x (by omega)
          have cy := hr2.2 y (by omega)
          obtain ⟨u, hu⟩ : ∃ u, lw x = u := ⟨_, rfl⟩
          obtain ⟨v, hv⟩ : ∃ v, lw y = v := ⟨_, rfl⟩
          rw [hu] at cx
          rw [hv] at cy
          have HUV := hidH (And.intro hu hv)
          clear hp hLi hwW hr2 hu hv
          by_cases huv : u = v
          · subst huv
            go_wp2
            go_roundg (ps.length - (j + 1))
            case measure => omega
            case rel => exact ⟨j + 1, bs, rfl, rfl, by omega, OB.out, by rw [btw_take HP.out, HUV.out.1, HUV.out.2, if_pos rfl, List.append_nil]; exact BS.out, HE.out⟩
          · have huv' : ((u : Int) == (v : Int)) = false := by rw [beq_eq_false_iff_ne]; omega
            have huv2 : ¬ (u : Int) = (v : Int) := by omega
            obtain ⟨w6, e6, hb6, hs6, X6⟩ := bx1 wr #[.int .i64 (u : Int), .int .i64 (v : Int)] 51
            have NA : Hid (∀ i z, [Value.int .i64 (u : Int), .int .i64 (v : Int)][i]? = some z → w6.cell? ((⟨wr.heap.size, 0, none⟩ : Addr).add i) = some z) := by unfold Hid; rw [← e6]; exact cells_newR wr [Value.int .i64 (u : Int), .int .i64 (v : Int)] 51
            have HEA := hidH e6
            have HSA := hidH hs6
            have OA := hidH (own_belowR OB.out hb6 (Nat.le_refl _))
            have E6 := hidH (HE.out.trans (hb6.mono hwB))
            have hw6 : D ≤ w6.heap.size := by omega
            clear e6 hb6 hs6 X6
            go_wp2_with (at_builtin; rw [HEA.out]; refine wpList_append_lies _ rfl _ _ 22 rfl D 51 i2 (.agg #[.int .i64 0, .int .i64 0]) 2 16 Tryz.underlying22 hi2 hw0 hw1 hw2 rfl (by decide) _ bs.length (flat bs) rfl OA.out ⟨wr.heap.size, 0, none⟩ 1 1 [Value.int .i64 (u : Int), .int .i64 (v : Int)] rfl rfl NA.out (by intro z hz; simp at hz; rcases hz with rfl | rfl <;> rfl) (by decide) (by unfold maxLen; omega) (by omega) hw6 (wr.heap.size + 1) HSA.out ?_; intro gg cp w9 hown9 hgrow9 hat9 hlt9; have O9 : Hid (w9.ownsRow D 51 2 (.slice (some ⟨gg, 0, none⟩) (bs.length + 1) cp) (bs ++ [(⟨(u : Int), (v : Int)⟩ : Pr)]).length (flat (bs ++ [(⟨(u : Int), (v : Int)⟩ : Pr)]))) := (by unfold Hid; rw [flat_append, List.length_append]; exact hown9); have E9 := hidH (E6.out.grown hgrow9 hw6 (fun g e => (OA.out.lt g e).1)); clear hown9 hgrow9 hat9 hlt9)
            go_roundg (ps.length - (j + 1))
            case measure => omega
            case rel => exact ⟨j + 1, bs ++ [⟨(u : Int), (v : Int)⟩], rfl, rfl, by omega, O9.out, by rw [btw_take HP.out, HUV.out.1, HUV.out.2, if_neg huv, ← BS.out], E9.out⟩
        · have hjp' : ¬ (j : Int) < (ps.length : Int) := by omega
          have BS2 : Hid (bs = btw lw ps) := by unfold Hid; rw [BS.out, List.take_of_length_le (by omega)]
          have BR : Hid (∀ p ∈ bs, (0 ≤ p.a ∧ p.a < (n : Int)) ∧ (0 ≤ p.b ∧ p.b < (n : Int))) := by unfold Hid; rw [BS2.out]; exact LW.out.btw_rng
          obtain ⟨ab, cb, hub, -, -⟩ := own_slice OB.out
          subst hub
          have LB := hidH (own_liesP OB.out)
          have hbl2 : bs.length ≤ 8796093022208 := by omega
          have QR := hidH (rows0R n cb ab bs wr LB.out hn hbl2 BR.out)
          obtain ⟨wC, hwC⟩ : ∃ wC, wC = wr := ⟨wr, rfl⟩
          subst hwC
          clear BS hjp hgk OB
          go_upto_region 18 with (go_at_call 30; (with_reducible refine QR.out.mono ?_); clear QR; rintro e w4 ⟨rfl, hb4, hrx4⟩; have HB4 := hidH hb4; have UX0 := hidH hrx4; clear hb4 hrx4)
          obtain ⟨G, hG⟩ : ∃ G, wC.heap.size = G := ⟨_, rfl⟩
          obtain ⟨H, hH⟩ : ∃ H, w4.heap.size = H := ⟨_, rfl⟩
          have hGH : G ≤ H := by have := HB4.out.size; omega
          have UX : Hid (Rx6 H w4 G n (fun x => usr bs (x : Int))) := by have h9 := UX0.out; rw [hG, hH] at h9; exact h9
          have LB4 := hidH (LB.out.below HB4.out)
          have E4 : Hid (Below D wA w4) := HE.out.trans (HB4.out.mono hwB)
          have HHE := hidH hH
          rw [hG] at hwB ⊢
          clear UX0 HB4 LB HE hG
          obtain ⟨i5, hi5, hiA, hiB, hiC⟩ := info_parts infoIntH
          go_upto_region 19 with (at_make; refine wpList_make_full _ rfl _ _ 32 rfl H 3 i5 (.int .i64 0) 1 Tryz.underlying32 hi5 hiA hiB _ _ _ _ n rfl rfl rfl rfl (by rw [hiC]; omega) (by unfold maxLen; omega) (by omega) ?_; intro u3 hown3 hgr3; rw [hH] at hown3 ⊢; have O3 : Hid (u3.ownsRow H 3 1 (.slice (some ⟨H, 0, none⟩) n n) n (flat (List.replicate n (0 : Int)))) := (by rw [show (Value.int .i64 0).cells = #[.int .i64 0] by rfl, rep_made] at hown3; unfold Hid; rw [show flat (List.replicate n (0 : Int)) = List.replicate n (Value.int .i64 0) by rw [flat_ints, List.map_replicate]]; exact hown3); have E3 : Hid (Below H w4 u3) := ((Below.refl _ _).grown hgr3 (by omega) (fun k h => by cases h)); clear hown3 hgr3)
          go_wp2
          go_loopg [15] bs.length (fun gk s9 wr => ∃ (k : Nat) (ms : List Int), gk = bs.length - k ∧ s9 = .int .i64 (k : Int) ∧ k ≤ bs.length ∧ wr.ownsRow H 3 1 (.slice (some ⟨H, 0, none⟩) n n) n (flat ms) ∧ ms.length = n ∧ (∀ y : Nat, y < n → ms[y]! = (cnE (bs.take k) [] (y : Int) : Int)) ∧ Below H w4 wr)
          case atStart => exact ⟨0, _, rfl, rfl, Nat.zero_le _, O3.out, by simp, fun y hy => by rw [getElem!_pos _ _ (by simpa using hy)]; simp [cnE], E3.out⟩
          case round =>
            clear O3 E3
            obtain ⟨k, ms, hgk, rfl, hk, hO, hml, hms, hE⟩ := hrel
            have OM := hidH hO
            have HMS := hidH hms
            have HML := hidH hml
            have EE := hidH hE
            clear hO hms hml hE
            by_cases hkp : k < bs.length
            · have hkp' : (k : Int) < (bs.length : Int) := by omega
              obtain ⟨p, hp⟩ : ∃ p, bs[k]? = some p := ⟨_, List.getElem?_eq_getElem hkp⟩
              obtain ⟨gs, o, hs, hLi⟩ : ∃ b o, ab = some ⟨b, o, none⟩ ∧ Lies w4 b o bs := by
                rcases LB4.out with h | h
                · rw [h] at hkp; exact absurd hkp (Nat.not_lt_zero _)
                · exact h
              subst hs
              have HCT := hidH (fun y => cnE_take hp y)
              obtain ⟨pa, pb⟩ := p
              have hrp := BR.out _ (List.mem_of_getElem? hp)
              simp only at hrp
              obtain ⟨x, rfl⟩ : ∃ x : Nat, pa = (x : Int) := ⟨pa.toNat, by omega⟩
              have hxn : x < n := by omega
              obtain ⟨d0, -⟩ := (hLi.below (by rw [HHE.out]; exact EE.out) hLi.1).pr hp
              simp only at d0
              have hxl : x < ms.length := by rw [HML.out]; exact hxn
              obtain ⟨v, hv⟩ : ∃ v, ms[x]! = v := ⟨_, rfl⟩
              have hvx : ms[x]? = some v := by rw [List.getElem?_eq_getElem hxl, ← hv, getElem!_pos ms x hxl]
              obtain ⟨cM, fM⟩ := row_cell OM.out hvx
              have hvb : 0 ≤ v ∧ v ≤ (bs.length : Int) := by
                rw [← hv, HMS.out x hxn]
                have := cnE_le (bs.take k) [] (x : Int)
                rw [List.length_take] at this
                omega
              have kk : IntKind.i64.wrap ((k : Int) + 1) = ((k + 1 : Nat) : Int) := by rw [IntWalk.i64_in _ ⟨by omega, by omega⟩]; omega
              have kv : IntKind.i64.wrap (v + 1) = v + 1 := by rw [IntWalk.i64_in _ ⟨by omega, by omega⟩]
              have hx0 : (0 : Int) ≤ (x : Int) := by omega
              have hx1 : (x : Int) < (n : Int) := by omega
              have O2 : Hid ((wr.setCell ⟨H, x, none⟩ (.int .i64 (v + 1))).ownsRow H 3 1 (.slice (some ⟨H, 0, none⟩) n n) n (flat (ms.set x (v + 1)))) := by
                have h1 := (World.ownsRow.stored OM.out x (.int .i64 (v + 1))).1
                rw [flat_setI] at h1
                exact h1
              have E2 := hidH (EE.out.setCell (p := ⟨H, x, none⟩) (Nat.le_refl _) (.int .i64 (v + 1)))
              have M2 : Hid (∀ y : Nat, y < n → (ms.set x (v + 1))[y]! = (cnE (bs.take (k + 1)) [] (y : Int) : Int)) := fun y hy => by
                rw [get_set ms x y _ hxl, HCT.out]
                by_cases e : y = x
                · subst e; rw [if_pos rfl, if_pos rfl, ← hv, HMS.out y hy]; simp
                · rw [if_neg e, if_neg (by simp only; omega), HMS.out y hy]; simp
              clear hp hLi hrp hv hvx
              go_wp2
              go_roundg (bs.length - (k + 1))
              case measure => omega
              case rel => exact ⟨k + 1, _, rfl, rfl, by omega, O2.out, by rw [List.length_set]; exact HML.out, M2.out, E2.out⟩
            · have hkp' : ¬ (k : Int) < (bs.length : Int) := by omega
              have hk2 : k = bs.length := by omega
              have HMF : Hid (∀ y : Nat, y < n → ms[y]! = (cnE bs [] (y : Int) : Int)) := by have h9 := HMS.out; rw [hk2, List.take_length] at h9; exact h9
              obtain ⟨u4, hu4⟩ : ∃ u4, u4 = wr := ⟨wr, rfl⟩
              subst hu4
              have QN := hidH (newLows_any n u4 hn)
              obtain ⟨DD, hDD⟩ : ∃ DD, u4.heap.size = DD := ⟨_, rfl⟩
              have hHD : H < DD := by have := (OM.out.lt H rfl).2; omega
              rw [hDD] at QN
              clear HMS hgk hk hkp hk2
              go_upto_region 24 with (first
                | (go_at_call 31; (with_reducible refine QN.out.mono ?_); clear QN; rintro e u5 ⟨hb5, bL, rfl, s, hns, hz⟩; have E5 := hidH (EE.out.trans (hb5.mono (Nat.le_of_lt hHD))); have Q5 : Hid (Qw H bL DD s H n u5 (fun y => y < 0 ∧ lw y = y ∧ ms[y]! = 0) ms) := ⟨(hz.lower (Nat.le_of_lt hHD)).congr (fun y _ => ⟨fun h => h.elim, fun h => absurd h.1 (Nat.not_lt_zero _)⟩), own_belowR OM.out hb5 (by omega), by omega⟩; have hns' := hns; clear hb5 hz))
              go_wp2
              go_loopg [17] n (fun gk si wq => ∃ i : Nat, gk = n - i ∧ si = .int .i64 (i : Int) ∧ i ≤ n ∧ Qw H bL DD s H n wq (fun y => y < i ∧ lw y = y ∧ ms[y]! = 0) ms ∧ Below H w4 wq)
              case atStart => exact ⟨0, rfl, rfl, Nat.zero_le _, Q5.out, E5.out⟩
              case round =>
                clear Q5 E5
                obtain ⟨i, hgk, rfl, hi, hQ, hE⟩ := hrel
                have QW := hidH hQ
                have EI := hidH hE
                clear hQ hE
                by_cases hin : i < n
                · have hin' : (i : Int) < (n : Int) := by omega
                  have ki : IntKind.i64.wrap ((i : Int) + 1) = ((i + 1 : Nat) : Int) := by rw [IntWalk.i64_in _ ⟨by omega, by omega⟩]; omega
                  obtain ⟨cM, -⟩ := QW.out.get hin
                  obtain ⟨v, hv⟩ : ∃ v, ms[i]! = v := ⟨_, rfl⟩
                  have HV := hidH hv
                  rw [hv] at cM
                  clear hv
                  have cLo := (RA.out.below (E4.out.trans (EI.out.mono (show D ≤ H by omega)))).2 i hin
                  obtain ⟨l, hl⟩ : ∃ l, lw i = l := ⟨_, rfl⟩
                  rw [hl] at cLo
                  have HLo := hidH hl
                  clear hl
                  by_cases hli : l ≠ i
                  · have hli1 : ((l : Int) == (i : Int)) = false := by rw [beq_eq_false_iff_ne]; omega
                    have hli2 : ¬ (l : Int) = (i : Int) := by omega
                    have hli3 : decide ((l : Int) = (i : Int)) = false := decide_eq_false hli2
                    have Q6 : Hid (Qw H bL DD s H n wr (fun y => y < i + 1 ∧ lw y = y ∧ ms[y]! = 0) ms) := ⟨QW.out.lz.congr (fun y _ => ⟨fun h => ⟨by omega, h.2⟩, fun h => ⟨by by_cases e : y = i; (subst e; exact absurd (HLo.out.symm.trans h.2.1) hli); (omega), h.2⟩⟩), QW.out.mi, QW.out.d1⟩
                    go_wp2
                    go_roundg (n - (i + 1))
                    case measure => omega
                    case rel => exact ⟨i + 1, rfl, rfl, by omega, Q6.out, EI.out⟩
                  have hli4 : i = l := (Classical.byContradiction hli : l = i).symm
                  subst hli4
                  by_cases hv0 : v = 0
                  · subst hv0
                    have PT := hidH (put_in H bL DD s i _ wr QW.out.lz (by omega) (fun h => absurd h.1 (Nat.lt_irrefl _)))
                    go_wp2_with (go_at_call 32; (with_reducible refine PT.out.mono ?_); clear PT; rintro e w6 ⟨⟨r, rfl⟩, hz6, ho6⟩; have Q6 : Hid (Qw H bL DD s H n w6 (fun y => y < i + 1 ∧ lw y = y ∧ ms[y]! = 0) ms) := (have q := QW.out.put hz6 ho6; ⟨q.lz.congr (fun y _ => ⟨fun h => h.elim (fun h => ⟨by omega, h.2⟩) (fun h => by subst h; exact ⟨by omega, HLo.out, HV.out⟩), fun h => by by_cases e : y = i; (exact .inr e); (exact .inl ⟨by omega, h.2⟩)⟩), q.mi, q.d1⟩); have E6 := hidH (EI.out.trans (ho6.bel.mono (Nat.le_of_lt hHD))); clear hz6 ho6)
                    go_roundg (n - (i + 1))
                    case measure => omega
                    case rel => exact ⟨i + 1, rfl, rfl, by omega, Q6.out, E6.out⟩
                  · have hv1 : (v == 0) = false := by rw [beq_eq_false_iff_ne]; exact hv0
                    have Q6 : Hid (Qw H bL DD s H n wr (fun y => y < i + 1 ∧ lw y = y ∧ ms[y]! = 0) ms) := ⟨QW.out.lz.congr (fun y _ => ⟨fun h => ⟨by omega, h.2⟩, fun h => ⟨by by_cases e : y = i; (subst e; exact absurd (HV.out.symm.trans h.2.2) hv0); (omega), h.2⟩⟩), QW.out.mi, QW.out.d1⟩
                    go_wp2
                    go_roundg (n - (i + 1))
                    case measure => omega
                    case rel => exact ⟨i + 1, rfl, rfl, by omega, Q6.out, EI.out⟩
                · have hin' : ¬ (i : Int) < (n : Int) := by omega
                  have hi2 : i = n := by omega
                  subst hi2
                  have LR0 : Hid (Lr bs i (fun x => decide ((lw x.toNat : Int) = x)) [] (fun y => y < i ∧ lw y = y ∧ ms[y]! = 0) ms []) := (Lr.start QW.out.mlen HMF.out).congr (fun y => ⟨fun h => ⟨h.1, by have h8 := of_decide_eq_true h.2.1; rw [Int.toNat_natCast] at h8; omega, h.2.2⟩, fun h => ⟨h.1, decide_eq_true (by rw [Int.toNat_natCast, h.2.1]), h.2.2⟩⟩)
                  have QL := hidH (least_any H bL DD s _ wr QW.out.lz)
                  go_upto_region 31 with (first
                    | (go_at_call 33; (with_reducible refine QL.out.mono ?_); clear QL; rintro e w6 ⟨hw6, z, rfl, hle⟩; have hw7 := hw6.symm; clear hw6; subst hw7; have LE := hidH hle; clear hle))
                  have Q0 : Hid (Qv7 H bL DD s H i wr (fun y => y < i ∧ lw y = y ∧ ms[y]! = 0) ms (.slice none 0 0) []) := ⟨QW.out, World.ownsRow_nil _ _ _ _, by simp [Value.ownBlock], by simp [Value.ownBlock]⟩
                  clear QW HMF
                  go_wp2
                  go_loopg [18, 19] (i + 1) (fun gk s12 s13 wq => ∃ (S : Nat → Prop) (ms : List Int) (O : Value) (os : List Int) (vals : List Value) (z : Int), gk = i + 1 - vals.length ∧ s12 = O ∧ s13 = .int .i64 z ∧ Qv7 H bL DD s H i wq S ms O vals ∧ Vs7 D wA i lw os vals ∧ Lr bs i (fun x => decide ((lw x.toNat : Int) = x)) os S ms [] ∧ Lea s S z ∧ Below H w4 wq)
                  case atStart => exact ⟨_, ms, _, [], [], z, rfl, rfl, rfl, Q0.out, ⟨rfl, fun j y hy => by simp at hy⟩, LR0.out, LE.out, EI.out⟩
                  case round =>
                    clear Q0 LR0 LE EI
                    obtain ⟨S, ms, O, os, vals, z, hgk3, rfl, rfl, hQ, hVs, hLr, hLe, hE⟩ := hrel
                    have VS := hidH hVs
                    have hov := hVs.1
                    clear hVs
                    have QV := hidH hQ
                    have LR := hidH hLr
                    have LE := hidH hLe
                    have EI := hidH hE
                    obtain ⟨hno, hrg, hosn⟩ := hLr.few
                    clear hQ hLr hLe hE
                    by_cases hz : 0 ≤ z
                    · obtain ⟨x, rfl, hxs, hSx, hmin⟩ : ∃ x : Nat, z = (x : Int) ∧ x < s ∧ S x ∧ ∀ y, y < s → S y → x ≤ y := by
                        rcases LE.out with ⟨h, -⟩ | h
                        · omega
                        · exact h
                      have hxi : x < i := ((LR.out.rdy x).1 hSx).1
                      have hxi' : (x : Int) < (i : Int) := by omega
                      have LP := hidH (LR.out.pop (fun p hp => (BR.out p hp).1) (by have h9 := lowP LW.out; rw [← BS2.out] at h9; exact h9) hSx (fun y hy => hmin y (by have := ((LR.out.rdy y).1 hy).1; omega) hy))
                      have PT := hidH (put_out H bL DD s x S wr QV.out.q.lz hxs hSx)
                      obtain ⟨aO, cO, hO, -, -⟩ := own_slice QV.out.ou
                      subst hO
                      obtain ⟨q, hq⟩ : ∃ q, vals.length = q := ⟨_, rfl⟩
                      have HQ := hidH hq
                      have hqi : q < i := by
                        have h9 := LP.out.few.2.2
                        rw [List.length_append, List.length_singleton] at h9
                        omega
                      rw [hq] at hgk3 QV ⊢
                      obtain ⟨aX, cX9, cX8, hrdX⟩ := MX.out.row x hxi
                      obtain ⟨lX, hlX⟩ : ∃ lX, (mem1 i lw x).length = lX := ⟨_, rfl⟩
                      rw [hlX] at cX8
                      have HLX := hidH hlX
                      have VP : Hid (Vs7 D wA i lw (os ++ [(x : Int)]) (vals ++ [.slice aX lX cX9])) := by have h9 := VS.out.push (c := cX9) hrdX; rw [hlX] at h9; exact h9
                      clear hlX hrdX VS hov
                      clear LE hSx hmin hq hno hrg hosn LR
                      go_upto_region 34 with (first
                        | (go_at_call 32; (with_reducible refine PT.out.mono ?_); clear PT; rintro e w7 ⟨⟨r, rfl⟩, hz7, ho7⟩; have Q7 := hidH (QV.out.put hz7 ho7); have E7 := hidH (EI.out.trans (ho7.bel.mono (Nat.le_of_lt hHD))); clear hz7 ho7 QV))
                      have cX7 := ((E4.out.trans (E7.out.mono (show D ≤ H by omega))).cell (p := ⟨C, x, none⟩) MX.out.lt).trans cX8
                      obtain ⟨zA, eA, hbA, hsA, BA⟩ := bx1 w7 #[.slice aX lX cX9] 32
                      have QA := hidH (Q7.out.below hbA)
                      have hC7 : H ≤ w7.heap.size := by have := E7.out.size; have := HHE.out; omega
                      have EA := hidH (E7.out.trans (hbA.mono hC7))
                      have NA : Hid (∀ j u, [Value.slice aX lX cX9][j]? = some u → zA.cell? ((⟨w7.heap.size, 0, none⟩ : Addr).add j) = some u) := by unfold Hid; rw [← eA]; exact cells_newR w7 [Value.slice aX lX cX9] 32
                      have HEA := hidH eA
                      have HSA := hidH hsA
                      have hBA : H ≤ zA.heap.size := by omega
                      have OA : Hid (zA.ownsRow H 32 1 (.slice aO q cO) q vals) := by have h9 := QA.out.ou; rw [HQ.out] at h9; exact h9
                      clear eA hbA hsA BA Q7
                      go_upto_region 35 with (at_builtin; rw [HEA.out]; refine wpList_append_lies _ rfl _ _ 26 rfl H 32 i0 (.slice none 0 0) 1 24 Tryz.underlying26 hi0 hz0 hz1 hz2 rfl (by decide) (.slice aO q cO) q vals rfl OA.out ⟨w7.heap.size, 0, none⟩ 1 1 [Value.slice aX lX cX9] rfl rfl NA.out (by intro u hu; simp at hu; subst hu; rfl) (by decide) (by unfold maxLen; omega) (by omega) hBA (w7.heap.size + 1) HSA.out ?_; intro gg cp w9 hown9 hgrow9 hat9 hlt9; have Q9 := hidH (QA.out.push (O' := .slice (some ⟨gg, 0, none⟩) (q + 1) cp) (x := .slice aX lX cX9) (by rw [HQ.out]; exact hown9) hgrow9 (by have h7 := HSA.out; rcases hat9 with e | e; exact .inl e.symm; exact .inr ⟨gg, rfl, by omega⟩)); have E9 := hidH (EA.out.grown hgrow9 hBA (fun g e => (OA.out.lt g e).1)); clear hown9 hgrow9 hat9 hlt9)
                      obtain ⟨aD, cD, cX0, hrow⟩ := (UX.out.below E9.out).row x hxi
                      obtain ⟨r, hr⟩ : ∃ r, (usr bs (x : Int)).length = r := ⟨_, rfl⟩
                      have hrp : r ≤ bs.length := by rw [← hr]; exact usr_len bs _
                      have HR := hidH hr
                      have UX2 : Hid (∀ wq, Below H w4 wq → wq.cell? ⟨G, x, none⟩ = some (.slice aD r cD) ∧ ∀ (j : Nat) y, (usr bs (x : Int))[j]? = some y → ∃ g, aD = some ⟨g, 0, none⟩ ∧ wq.cell? ⟨g, j, none⟩ = some (.int .i64 y)) := fun wq hq => by
                        obtain ⟨a1, c1, h1, h2⟩ := UX.out.row x hxi
                        have h3 := (E9.out.cell (p := ⟨G, x, none⟩) UX.out.lt).trans h1
                        rw [cX0] at h3
                        injection h3 with h3
                        injection h3 with e1 e2 e3
                        subst e1 e3
                        refine ⟨by rw [(hq.cell (p := ⟨G, x, none⟩) UX.out.lt).trans h1, HR.out], fun j y hj => ?_⟩
                        obtain ⟨g, e, hg, hc⟩ := h2 (by have := (List.getElem?_eq_some_iff.1 hj).1; omega)
                        exact ⟨g, e, (hq.cell (p := ⟨g, j, none⟩) hg).trans (hc j y hj)⟩
                      clear QA EA NA HEA HSA OA hrow hr cX0
                      go_wp2
                      go_loopg [20] r (fun g3 s14 wq => ∃ (j : Nat) (S : Nat → Prop) (ms : List Int), g3 = r - j ∧ s14 = .int .i64 (j : Int) ∧ j ≤ r ∧ Qv7 H bL DD s H i wq S ms (.slice (some ⟨gg, 0, none⟩) (q + 1) cp) (vals ++ [.slice aX lX cX9]) ∧ Lr bs i (fun x => decide ((lw x.toNat : Int) = x)) (os ++ [(x : Int)]) S ms ((usr bs (x : Int)).drop j) ∧ Below H w4 wq)
                      case atStart => exact ⟨0, _, ms, rfl, rfl, Nat.zero_le _, Q9.out, LP.out, E9.out⟩
                      case round =>
                        clear Q9 LP E9
                        obtain ⟨j, S, ms, hg3, rfl, hj, hQ, hLr, hE⟩ := hrel
                        have QV := hidH hQ
                        have LR := hidH hLr
                        have EI := hidH hE
                        clear hQ hLr hE
                        obtain ⟨cX, hcy⟩ := UX2.out wr EI.out
                        by_cases hjr : j < r
                        · have hjr' : (j : Int) < (r : Int) := by omega
                          have kj : IntKind.i64.wrap ((j : Int) + 1) = ((j + 1 : Nat) : Int) := by rw [IntWalk.i64_in _ ⟨by omega, by omega⟩]; omega
                          obtain ⟨y0, hy0⟩ : ∃ y, (usr bs (x : Int))[j]? = some y := ⟨_, List.getElem?_eq_getElem (by rw [HR.out]; exact hjr)⟩
                          have hye := mem_usr.1 (List.mem_of_getElem? hy0)
                          have hyr := (BR.out _ hye).1
                          simp only at hyr
                          obtain ⟨y, rfl⟩ : ∃ y : Nat, y0 = (y : Int) := ⟨y0.toNat, by omega⟩
                          have LRy : Hid (Lr bs i (fun x => decide ((lw x.toNat : Int) = x)) (os ++ [(x : Int)]) S ms ((y : Int) :: (usr bs (x : Int)).drop (j + 1))) := by
                            have h9 := LR.out
                            obtain ⟨hj9, e9⟩ := List.getElem?_eq_some_iff.1 hy0
                            rw [List.drop_eq_getElem_cons hj9, e9] at h9
                            exact h9
                          obtain ⟨hyi, hy1, hyS, -, -⟩ := LRy.out.pos
                          obtain ⟨g, rfl, cY⟩ := hcy j _ hy0
                          obtain ⟨cM, fM⟩ := QV.out.q.get hyi
                          obtain ⟨v, hv⟩ : ∃ v, ms[y]! = v := ⟨_, rfl⟩
                          have hvb : v ≤ 2 * (bs.length : Int) := by
                            rw [← hv, LR.out.cnt y hyi]
                            have h1 := cnE_le bs (os ++ [(x : Int)]) (y : Int)
                            have h2 : cnP ((usr bs (x : Int)).drop j) (y : Int) ≤ bs.length := by
                              unfold cnP
                              exact Nat.le_trans (List.length_filter_le _ _) (Nat.le_trans (by rw [List.length_drop]; omega) (usr_len bs (x : Int)))
                            omega
                          have LD := hidH LRy.out.dec
                          rw [hv] at cM hy1 LD
                          have kv : IntKind.i64.wrap (v - 1) = v - 1 := by rw [IntWalk.i64_in _ ⟨by omega, by omega⟩]
                          have hyi' : (y : Int) < (i : Int) := by omega
                          have hy0' : (0 : Int) ≤ (y : Int) := by omega
                          have QS := hidH (QV.out.set y (v - 1))
                          have ES : Hid (Below H w4 (wr.setCell ⟨H, y, none⟩ (.int .i64 (v - 1)))) := EI.out.setCell (p := ⟨H, y, none⟩) (Nat.le_refl _) _
                          obtain ⟨cM2, -⟩ := QS.out.q.get hyi
                          rw [get_set ms y y _ (by rw [QV.out.q.mlen]; exact hyi), if_pos rfl] at cM2
                          have HYS := hidH hyS
                          clear hye hyr hy0 hcy hv hyS LR LRy
                          by_cases hv1 : v - 1 = 0
                          · have hv2 : v = 1 := by omega
                            subst hv2
                            have QS1 : Hid (Qv7 H bL DD s H i (wr.setCell ⟨H, y, none⟩ (.int .i64 0)) S (ms.set y 0) (.slice (some ⟨gg, 0, none⟩) (q + 1) cp) (vals ++ [.slice aX lX cX9])) := QS.out
                            have ES1 : Hid (Below H w4 (wr.setCell ⟨H, y, none⟩ (.int .i64 0))) := ES.out
                            have LD1 : Hid (Lr bs i (fun x => decide ((lw x.toNat : Int) = x)) (os ++ [(x : Int)]) (fun z => S z ∨ z = y) (ms.set y 0) ((usr bs (x : Int)).drop (j + 1))) := LD.out.congr (fun z => ⟨fun h => h.imp id (fun h => h.1), fun h => h.imp id (fun h => ⟨h, by omega⟩)⟩)
                            clear QS ES LD
                            go_upto_region 41 with fail
                            obtain ⟨wS, hwS⟩ : ∃ wS, wr.setCell ⟨H, y, none⟩ (.int .i64 0) = wS := ⟨_, rfl⟩
                            rw [hwS] at QS1 ES1 ⊢
                            have PT := hidH (put_in H bL DD s y S wS QS1.out.q.lz (by omega) HYS.out)
                            clear hwS cM cM2 cY cX
                            go_wp2_with (go_at_call 32; (with_reducible refine PT.out.mono ?_); clear PT; rintro e w6 ⟨⟨r2, rfl⟩, hz6, ho6⟩; have Q6 := hidH (QS1.out.put hz6 ho6); have E6 := hidH (ES1.out.trans (ho6.bel.mono (Nat.le_of_lt hHD))); clear hz6 ho6)
                            go_roundg (r - (j + 1))
                            case measure => omega
                            case rel => exact ⟨j + 1, _, _, rfl, rfl, by omega, Q6.out, LD1.out, E6.out⟩
                          · have hv3 : ((v - 1) == 0) = false := by rw [beq_eq_false_iff_ne]; exact hv1
                            obtain ⟨u, hu⟩ : ∃ u, v - 1 = u := ⟨_, rfl⟩
                            have kv' : IntKind.i64.wrap (v - 1) = u := by rw [kv]; exact hu
                            rw [hu] at hv1 hv3 QS ES LD cM2
                            clear kv
                            have LD1 := hidH (LD.out.congr (S' := S) (fun z => ⟨fun h => h.elim id (fun h => absurd h.2 hv1), .inl⟩))
                            clear hu LD
                            go_wp2
                            go_roundg (r - (j + 1))
                            case measure => omega
                            case rel => exact ⟨j + 1, S, _, rfl, rfl, by omega, QS.out, LD1.out, ES.out⟩
                        · have hjr' : ¬ (j : Int) < (r : Int) := by omega
                          have LR2 : Hid (Lr bs i (fun x => decide ((lw x.toNat : Int) = x)) (os ++ [(x : Int)]) S ms []) := by have h9 := LR.out; rw [List.drop_eq_nil_of_le (by rw [HR.out]; omega)] at h9; exact h9
                          have QL := hidH (least_any H bL DD s S wr QV.out.q.lz)
                          clear hcy
                          go_wp2_with (first
                            | (go_at_call 33; (with_reducible refine QL.out.mono ?_); clear QL; rintro e w6 ⟨hw6, z, rfl, hle⟩; have hw7 := hw6.symm; clear hw6; subst hw7; have LE := hidH hle; clear hle))
                          go_roundg (i + 1 - (q + 1))
                          case measure => omega
                          case rel => exact ⟨S, ms, _, os ++ [(x : Int)], _, z, by rw [List.length_append, List.length_singleton, HQ.out], rfl, rfl, QV.out, VP.out, LR2.out, LE.out, EI.out⟩
                    · have hz' : ¬ (0 : Int) ≤ z := by omega
                      have hS : ∀ y, ¬ S y := by
                        rcases LE.out with ⟨-, h⟩ | ⟨x, rfl, -⟩
                        · exact fun y hy => h y (by have := ((LR.out.rdy y).1 hy).1; omega) hy
                        · omega
                      have GN : Hid (Gn (fun x => (0 ≤ x ∧ x < (i : Int)) ∧ decide ((lw x.toNat : Int) = x) = true) (fun x z => (⟨x, z⟩ : Pr) ∈ btw lw ps) os) := by have h9 := LR.out.stop hS; rw [BS2.out] at h9; exact h9
                      have E9 : Hid (Below D wA wr) := E4.out.trans (EI.out.mono (show D ≤ H by omega))
                      have EW : Hid (Below B w wr) := EA.out.trans (E9.out.mono (by omega))
                      obtain ⟨aO, cO, hO, haO, -⟩ := own_slice QV.out.ou
                      subst hO
                      have hDr : D ≤ wr.heap.size := by have := E9.out.size; have := HDE.out; omega
                      have RQ : Hid (Rq6 wr.heap.size wr aO (os.map fun x : Int => mem1 i lw x.toNat)) := fun j p hp => by
                        rw [List.getElem?_map] at hp
                        obtain ⟨x, hx, e⟩ := Option.map_eq_some_iff.1 hp
                        subst e
                        obtain ⟨a', c', h1, h2⟩ := VS.out.2 j x hx
                        have hj := (List.getElem?_eq_some_iff.1 h1).1
                        obtain ⟨g, rfl⟩ := haO (by omega)
                        have h3 := QV.out.ou.cells (g := g) rfl j _ h1
                        rw [addr_add, Nat.zero_add] at h3
                        exact ⟨g, a', c', rfl, (QV.out.ou.lt g rfl).2, h3, ((h2.below E9.out).up hDr).lies (Nat.le_refl _), by have := mem1_len i lw x.toNat; unfold maxLen; omega⟩
                      go_wp2
                      go_ret2
                      unfold PtG
                      exact ⟨aO, cO, os, lw, rfl, by first | exact EW.out | (rw [hB]; exact EW.out), LW.out, GN.out, RQ.out, hosn⟩
end Go.Proofs.YtgijcbipnjmhgabGreat
