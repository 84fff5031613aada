import Derived.Test.YthdfccdkomfikabGreatDoorSn1
import Derived.Test.YthdfccdkomfikabGreatDoorCls
import Derived.Deep.RegionHeld3
import Derived.Deep.DeepCutAuto
namespace Go.Proofs.YthdfccdkomfikabGreatDoor
open Go.ChangeShapes Go.WideShapes Go.ChangeAt Go.RowKit Go.Maps Go.WideMaps
set_option linter.unusedVariables false
set_option linter.unusedSimpArgs false

theorem flat_setT : ∀ (cs : List Tk) (i : Nat) (e : Tk), i < cs.length → (((flat cs).set (i * 3) (.int .u8 e.k)).set (i * 3 + 1) (.int .i64 e.f)).set (i * 3 + 2) (.int .i64 e.t) = flat (cs.set i e)
  | [], i, e, h => by simp at h
  | x :: r, 0, e, h => by simp [flat, Rw.cs]
  | x :: r, i + 1, e, h => by
    have ih := flat_setT r i e (by simpa using h)
    rw [List.set_cons_succ, flat_cons, flat_cons, ← ih]
    simp only [Rw.cs, show (i + 1) * 3 = i * 3 + 1 + 1 + 1 by omega, show i * 3 + 1 + 1 + 1 + 1 = i * 3 + 1 + 1 + 1 + 1 from rfl, List.cons_append, List.nil_append, List.set_cons_succ]
theorem Hid.in {p : Prop} (h : p) : Hid p := h
theorem put3 {w0 w : World} {B g n c T i : Nat} {zs : List Tk} {e : Tk} (h : w.ownsRow B T 3 (.slice (some ⟨g, 0, none⟩) n c) n (flat zs)) (he : zs[i]? = some e) (u : Tk) (hb : Below B w0 w) (hg : B ≤ g) :
    w.frozen? ⟨g, i * 3, none⟩ = false ∧ (w.setCell ⟨g, i * 3, none⟩ (.int .u8 u.k)).frozen? ⟨g, i * 3 + 1, none⟩ = false ∧ ((w.setCell ⟨g, i * 3, none⟩ (.int .u8 u.k)).setCell ⟨g, i * 3 + 1, none⟩ (.int .i64 u.f)).frozen? ⟨g, i * 3 + 2, none⟩ = false ∧
    w.cell? ⟨g, i * 3, none⟩ = some (.int .u8 e.k) ∧ (w.setCell ⟨g, i * 3, none⟩ (.int .u8 u.k)).cell? ⟨g, i * 3 + 1, none⟩ = some (.int .i64 e.f) ∧ ((w.setCell ⟨g, i * 3, none⟩ (.int .u8 u.k)).setCell ⟨g, i * 3 + 1, none⟩ (.int .i64 u.f)).cell? ⟨g, i * 3 + 2, none⟩ = some (.int .i64 e.t) ∧
    (((w.setCell ⟨g, i * 3, none⟩ (.int .u8 u.k)).setCell ⟨g, i * 3 + 1, none⟩ (.int .i64 u.f)).setCell ⟨g, i * 3 + 2, none⟩ (.int .i64 u.t)).ownsRow B T 3 (.slice (some ⟨g, 0, none⟩) n c) n (flat (zs.set i u)) ∧
    Below B w0 (((w.setCell ⟨g, i * 3, none⟩ (.int .u8 u.k)).setCell ⟨g, i * 3 + 1, none⟩ (.int .i64 u.f)).setCell ⟨g, i * 3 + 2, none⟩ (.int .i64 u.t)) := by
  have hil : i < zs.length := by
    rcases Nat.lt_or_ge i zs.length with h | h
    · exact h
    · rw [List.getElem?_eq_none h] at he; cases he
  obtain ⟨d0, d1, d2⟩ := (Lies.own h).tk (Below.refl _ _) he
  simp only [Nat.zero_add] at d0 d1 d2
  have hO1 := (h.stored (i * 3) (.int .u8 u.k)).1
  have hO2 := (hO1.stored (i * 3 + 1) (.int .i64 u.f)).1
  have hO3 := (hO2.stored (i * 3 + 2) (.int .i64 u.t)).1
  refine ⟨h.frozenAt _, hO1.frozenAt _, hO2.frozenAt _, d0, ?_, ?_, ?_, ?_⟩
  · rw [World.cell?_setCell_other _ _ _ _ (by intro h; simp only [Addr.mk.injEq] at h; omega)]; exact d1
  · rw [World.cell?_setCell_other _ _ _ _ (by intro h; simp only [Addr.mk.injEq] at h; omega), World.cell?_setCell_other _ _ _ _ (by intro h; simp only [Addr.mk.injEq] at h; omega)]; exact d2
  · rw [← flat_setT zs i u hil]; exact hO3
  · exact ((hb.setCell (p := ⟨g, i * 3, none⟩) hg _).setCell (p := ⟨g, i * 3 + 1, none⟩) hg _).setCell (p := ⟨g, i * 3 + 2, none⟩) hg _
set_option maxRecDepth 1000000 in
set_option maxHeartbeats 16000000 in
theorem lexerSounds_walk (s : ByteArray) (a : Option Addr) (c : Nat) (xs : List Tk) (ef et : Int) (es : ByteArray) (b : Option Addr) (d : Nat) (ys : List Tk) (hB : s.size ≤ 1048576) (hX : xs.length ≤ 1048576) (hY : ys.length ≤ 1048576) (w : World) (hxa : LiesA w a xs) (hna : a = none → xs.length = 0 ∧ c = 0) (hyb : LiesA w b ys) (hyc : ys.length ≤ d) (hS : Spl w) (hT : Lt w) (hM : MaxL w) :
    Calls Tryz.prog 4 #[.agg #[.string s, .slice a xs.length c, .int .i64 ef, .int .i64 et, .string es], .slice b ys.length d] w fun e w' => e = .returned (.bool true) ∧ Below w.heap.size w w' := by
  have hs : s.size ≤ 4294967280 := by omega
  obtain ⟨w2, e2, hb2, hs2, B2⟩ := bx1 w #[.string s, .slice a xs.length c, .int .i64 ef, .int .i64 et, .string es] 36
  have HB2 : Hid (Below w.heap.size w w2) := hb2
  have HX2 : Hid (Bx w2 w.heap.size #[.string s, .slice a xs.length c, .int .i64 ef, .int .i64 et, .string es] 36) := B2
  have HRM : Hid (Calls Tryz.prog 11 #[.slice a xs.length c] w2 fun e w' => ∃ g c', e = .returned (.tuple #[.slice (some ⟨g, 0, none⟩) xs.length c', .slice (some ⟨g, 0, none⟩) (xs.length + 3) c']) ∧ xs.length + 3 ≤ c' ∧ w'.ownsRow w2.heap.size 43 3 (.slice (some ⟨g, 0, none⟩) (xs.length + 3) c') (xs.length + 3) (flat (xs ++ mk3)) ∧ Below w2.heap.size w2 w') := roomy_any a c xs w2 (hxa.below hb2) hna hX
  have k0 := B2.cell 0
  have k1 := B2.cell 1
  have kz := B2.lt
  simp at k0 k1
  have HSD : Hid (∀ (v : World) (a' : Option Addr) (c' : Nat) (zs : List Tk), Below w.heap.size w v → LiesA v a' zs → zs.length ≤ 281474976710656 → Calls Tryz.prog 12 #[.string s, .slice a' zs.length c'] v fun e w' => e = .returned (.bool (sdB s zs)) ∧ Below v.heap.size v w') := fun v a' c' zs hv hz hl => Sound_any s a' c' zs hs hl v hz (hS.below hv) (hT.below hv) (hM.below hv)
  have HRS : Hid (∀ (v : World) (a' : Option Addr) (c' : Nat) (zs : List Tk), Below w.heap.size w v → LiesA v a' zs → zs.length ≤ 281474976710656 → Calls Tryz.prog 13 #[.string s, .slice a' zs.length c'] v fun e w' => e = .returned (.bool (sdB s zs)) ∧ Below v.heap.size v w') := fun v a' c' zs hv hz hl => rSound_any s a' c' zs hs hl v hz (hT.below hv)
  have HXA : Hid (∀ v, Below w.heap.size w v → LiesA v a xs) := fun v hv => hxa.below hv
  have HYB : Hid (∀ v, Below w.heap.size w v → LiesA v b ys) := fun v hv => hyb.below hv
  obtain ⟨z, hz⟩ : ∃ z, sdB s xs = z := ⟨_, rfl⟩
  have HZ : Hid (sdB s xs = z) := hz
  clear hb2 hs2 B2 hxa hna hyb hS hT hM hz
  go_enter Tryz.func4, Tryz.ntmps4
  go_wp2_with (go_at_call 11; (with_reducible refine HRM.out.mono ?_); rintro e w4 ⟨g, c4, rfl, hc4, ho4, hb4⟩; have HO4 : Hid (w4.ownsRow w2.heap.size 43 3 (.slice (some ⟨g, 0, none⟩) (xs.length + 3) c4) (xs.length + 3) (flat (xs ++ mk3))) := ho4; have HW4 : Hid (Below w2.heap.size w2 w4) := hb4; have X4 := HX2.out.below hb4 HX2.out.lt; have HX4 : Hid (Bx w4 w.heap.size #[.string s, .slice a xs.length c, .int .i64 ef, .int .i64 et, .string es] 36) := X4; clear ho4 hb4 X4)
  have HB4 : Hid (Below w.heap.size w w4) := HB2.out.trans (HW4.out.mono HB2.out.size)
  have hlr : Lies w4 g 0 (xs ++ mk3) := Lies.own HO4.out
  obtain ⟨X, F, hne, hF, onto⟩ := class_of (fun v => Below w4.heap.size w4 v) (Below.refl _ w4)
  have HF : Hid (∀ y, Below w4.heap.size w4 (F y)) := hF
  have HO : Hid (∀ v, Below w4.heap.size w4 v → ∃ x, v = F x) := fun v hv => by obtain ⟨x, hx⟩ := onto v hv; exact ⟨x, hx.symm⟩
  have hFw : ∀ y, Below w.heap.size w (F y) := fun y => HB4.out.trans ((hF y).mono HB4.out.size)
  have S1 : Hid (∀ y, Calls Tryz.prog 12 #[.string s, .slice (some ⟨g, 0, none⟩) xs.length c4] (F y) fun e w' => e = .returned (.bool z) ∧ Below (F y).heap.size (F y) w') := fun y => by
    rw [← HZ.out]; exact HSD.out (F y) (some ⟨g, 0, none⟩) c4 xs (hFw y) (.inr ⟨g, 0, rfl, (hlr.below (hF y) hlr.1).pre⟩) (by omega)
  have S2 : Hid (∀ y, Calls Tryz.prog 13 #[.string s, .slice a xs.length c] (F y) fun e w' => e = .returned (.bool z) ∧ Below (F y).heap.size (F y) w') := fun y => by
    rw [← HZ.out]; exact HRS.out (F y) a c xs (hFw y) (HXA.out _ (hFw y)) (by omega)
  have S3 : Hid (∀ y, Calls Tryz.prog 14 #[.slice (some ⟨g, 0, none⟩) (xs.length + 3) c4, .slice a xs.length c] (F y) fun e w' => e = .returned (.bool true) ∧ Below (F y).heap.size (F y) w') := fun y => untouched_any g c4 a c xs (F y) (hlr.below (hF y) hlr.1) hc4 (HXA.out _ (hFw y)) hX
  have f0 : ∀ y, (F y).cell? ⟨w.heap.size, 0, none⟩ = some (.string s) := fun y => (HX4.out.below (hF y) HX4.out.lt).cell 0
  have f1 : ∀ y, (F y).cell? ⟨w.heap.size, 1, none⟩ = some (.slice a xs.length c) := fun y => (HX4.out.below (hF y) HX4.out.lt).cell 1
  have f3 : ∀ y, w.heap.size < (F y).heap.size := fun y => Nat.lt_of_lt_of_le HX4.out.lt (hF y).size
  have hzz : (z != z) = false := by simp
  clear hF onto hFw hlr k0 k1 kz
  refine region_class F (by kernel_rfl) (by kernel_rfl) (by obtain ⟨x, hx⟩ := HO.out _ (Below.refl _ _).drew; exact ⟨x, hx.symm⟩) ?_
  repeat (go_big_quiet_step (first
    | (go_at_call 12; with_reducible refine (S1.out _).mono ?_; rintro e w5 ⟨rfl, hb5⟩; exact ⟨rfl, HO.out _ ((HF.out _).trans (hb5.mono (HF.out _).size))⟩)
    | (go_at_call 13; with_reducible refine (S2.out _).mono ?_; rintro e w5 ⟨rfl, hb5⟩; exact ⟨rfl, HO.out _ ((HF.out _).trans (hb5.mono (HF.out _).size))⟩)
    | (go_at_call 14; with_reducible refine (S3.out _).mono ?_; rintro e w5 ⟨rfl, hb5⟩; exact ⟨rfl, HO.out _ ((HF.out _).trans (hb5.mono (HF.out _).size))⟩)))
  refine wpQuiet_nil ?_
  rintro _ ⟨nq, rfl⟩
  have hV := HF.out nq
  obtain ⟨V, hVe⟩ : ∃ V, F nq = V := ⟨_, rfl⟩
  rw [hVe] at hV ⊢
  have HWV : Hid (Below w2.heap.size w2 V) := HW4.out.trans (hV.mono HW4.out.size)
  have HOV : Hid (V.ownsRow w2.heap.size 43 3 (.slice (some ⟨g, 0, none⟩) (xs.length + 3) c4) (xs.length + 3) (flat (xs ++ mk3))) := ownsRow_below HO4.out hV (Nat.le_refl _)
  clear hVe hV f0 f1 f3 HF HO hne S1 S2 S3 hzz HO4 HX4 HW4 HB4
  go_wp2
  go_loopw [33] (fun si wr => ∃ (i : Nat) (zs : List Tk), i ≤ xs.length ∧ si = .int .i64 (i : Int) ∧ zs.length = xs.length + 3 ∧ wr.ownsRow w2.heap.size 43 3 (.slice (some ⟨g, 0, none⟩) (xs.length + 3) c4) (xs.length + 3) (flat zs) ∧ Below w2.heap.size w2 wr) (fun si _ => xs.length - (intOf si).toNat)
  case atStart => exact ⟨0, xs ++ mk3, Nat.zero_le _, rfl, by simp [mk3], HOV.out, HWV.out⟩
  case round =>
    obtain ⟨i, zs, hi, rfl, hzl, hown, hbel⟩ := hrel
    have HR : Hid (wr.ownsRow w2.heap.size 43 3 (.slice (some ⟨g, 0, none⟩) (xs.length + 3) c4) (xs.length + 3) (flat zs)) := hown
    have HB : Hid (Below w2.heap.size w2 wr) := hbel
    have HW : Hid (Below w.heap.size w wr) := HB2.out.trans (HB.out.mono HB2.out.size)
    have hgb := (hown.lt g rfl)
    clear hown hbel
    by_cases hlt : i < xs.length
    · have hlt' : (i : Int) < (xs.length : Int) := by omega
      obtain ⟨e, he⟩ : ∃ e, zs[i]? = some e := ⟨_, List.getElem?_eq_getElem (by omega)⟩
      obtain ⟨f0, f1, f2, d0, d1, d2, hO3, hB3⟩ := put3 HR.out he ⟨0, 0, 0⟩ HB.out hgb.1
      have HO3 := Hid.in hO3
      have HB3 := Hid.in hB3
      clear hO3 hB3
      by_cases hiy : i < ys.length
      · have hiy' : (i : Int) < (ys.length : Int) := by omega
        obtain ⟨y, hy⟩ : ∃ y, ys[i]? = some y := ⟨_, List.getElem?_eq_getElem hiy⟩
        obtain ⟨f3, f4, f5, d3, d4, d5, hO6, hB6⟩ := put3 HO3.out (i := i) (e := ⟨0, 0, 0⟩) (by rw [List.getElem?_set_self (by omega)]) y HB3.out hgb.1
        have HO6 := Hid.in hO6
        have HB6 := Hid.in hB6
        clear hO6 hB6
        rcases HYB.out _ (HB2.out.trans (HB3.out.mono HB2.out.size)) with h0 | ⟨bb, oo, rfl, hE⟩
        · rw [h0] at hiy; simp at hiy
        obtain ⟨c0, c1, c2⟩ := hE.tk (Below.refl _ _) hy
        clear hE
        go_wp2
        exact ⟨⟨i + 1, _, hlt, by simp, by simp [hzl], HO6.out, HB6.out⟩, by simp [intOf]; omega⟩
      · have hiy' : ¬ (i : Int) < (ys.length : Int) := by omega
        go_wp2
        exact ⟨⟨i + 1, _, hlt, by simp, by simp [hzl], HO3.out, HB3.out⟩, by simp [intOf]; omega⟩
    · have hge : ¬ (i : Int) < (xs.length : Int) := by omega
      obtain ⟨zs1, hz1, hzz⟩ : ∃ zs1, zs1.length = xs.length ∧ Lies wr g 0 zs1 := ⟨zs.take xs.length, by rw [List.length_take]; omega, by have h := Lies.own HR.out; rw [← List.take_append_drop xs.length zs] at h; exact h.pre⟩
      have HZZ : Hid (Lies wr g 0 zs1) := hzz
      obtain ⟨zb, hzb⟩ : ∃ zb, sdB s zs1 = zb := ⟨_, rfl⟩
      have HT1 : Hid (∀ v, Below wr.heap.size wr v → Calls Tryz.prog 12 #[.string s, .slice (some ⟨g, 0, none⟩) xs.length c4] v fun e w' => e = .returned (.bool zb) ∧ Below v.heap.size v w') := fun v hv => by
        rw [← hzb, ← hz1]; exact HSD.out v _ c4 zs1 (HW.out.trans (hv.mono HW.out.size)) (.inr ⟨g, 0, rfl, HZZ.out.below hv hgb.2⟩) (by omega)
      have HT2 : Hid (∀ v, Below wr.heap.size wr v → Calls Tryz.prog 15 #[.slice (some ⟨g, 0, none⟩) xs.length c4] v fun e w' => ∃ a' c', e = .returned (.slice a' xs.length c') ∧ LiesA w' a' zs1 ∧ Below v.heap.size v w') := fun v hv => by
        rw [← hz1]
        refine (copyTokens_any (some ⟨g, 0, none⟩) c4 zs1 v (.inr ⟨g, 0, rfl, HZZ.out.below hv hgb.2⟩) (fun h => by cases h) (by omega)).mono ?_
        rintro e w' ⟨u, rfl, hu, hb⟩
        obtain ⟨a', c', rfl, hl, -, -⟩ := own_form hu
        exact ⟨a', c', rfl, hl, hb⟩
      have HT3 : Hid (∀ v a' c', Below wr.heap.size wr v → LiesA v a' zs1 → Calls Tryz.prog 13 #[.string s, .slice a' xs.length c'] v fun e w' => e = .returned (.bool zb) ∧ Below v.heap.size v w') := fun v a' c' hv hl => by
        rw [← hzb, ← hz1]; exact HRS.out v _ c' zs1 (HW.out.trans (hv.mono HW.out.size)) hl (by omega)
      have X5 := HX2.out.below HB.out HX2.out.lt
      have y0 := X5.cell 0
      have y9 := X5.lt
      have hzq : (zb == zb) = true := by simp
      clear hzz hz1 hzb X5
      simp at y0
      go_upto_region 11 with fail
      go_region_held3 (fun y => y.cell? ⟨w.heap.size, 0, none⟩ = some (.string s))
        (first | go_keep | assumption)
        ((first
          | (go_at_call 12; refine (HT1.out _ (Below.refl _ _).drew).mono ?_; rintro e w5 ⟨rfl, hb5⟩; have B5 : Hid (Below wr.heap.size wr w5) := (Below.refl _ _).drew.trans hb5; have y5 : w5.cell? ⟨w.heap.size, 0, none⟩ = some (.string s) := (B5.out.cell (p := ⟨w.heap.size, 0, none⟩) y9).trans y0; clear hb5)
          | (go_at_call 15; refine (HT2.out _ B5.out).mono ?_; rintro e w6 ⟨a6, c6, rfl, hl6, hb6⟩; have L6 : Hid (LiesA w6 a6 zs1) := hl6; have B6 : Hid (Below wr.heap.size wr w6) := B5.out.trans (hb6.mono B5.out.size); have y6 : w6.cell? ⟨w.heap.size, 0, none⟩ = some (.string s) := (B6.out.cell (p := ⟨w.heap.size, 0, none⟩) y9).trans y0; clear hb6 hl6)
          | (go_at_call 13; refine (HT3.out _ _ _ B6.out L6.out).mono ?_; rintro e w7 ⟨rfl, hb7⟩; have B7 : Hid (Below wr.heap.size wr w7) := B6.out.trans (hb7.mono B6.out.size); have y7 : w7.cell? ⟨w.heap.size, 0, none⟩ = some (.string s) := (B7.out.cell (p := ⟨w.heap.size, 0, none⟩) y9).trans y0; clear hb7)))
      all_goals go_wp2
      all_goals go_ret
      all_goals exact ⟨by simp, HB2.out.trans ((HB.out.trans (B7.out.mono HB.out.size)).mono HB2.out.size)⟩
end Go.Proofs.YthdfccdkomfikabGreatDoor
