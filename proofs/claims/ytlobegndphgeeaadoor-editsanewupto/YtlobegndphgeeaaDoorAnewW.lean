import Derived.Test.YtlobegndphgeeaaDoorPrintsW
import Derived.Test.YtlobegndphgeeaaDoorComposesW
import Derived.Test.YtlobegndphgeeaaDoorShB
import Derived.Test.YtlobegndphgeeaaDoorRn4
namespace Go.Proofs.YtlobegndphgeeaaDoor
open Go.ChangeShapes Go.WideShapes Go.ChangeAt Go.RowKit
set_option linter.unusedVariables false

theorem EdsA.news {w : World} {a : Option Addr} {xs : List Ed} (h : EdsA w a xs) : ∀ ad, a = some ad → ∀ j u, (flat xs)[j]? = some u → w.cell? (ad.add j) = some u := by
  intro ad had j u hj
  rcases h with rfl | ⟨b, o, rfl, h⟩
  · simp [flat] at hj
  · cases had
    exact h.flat j u hj

theorem compose_rowA (size : Int) (X Y : List Ed) (hs0 : 0 ≤ size) (hs1 : size ≤ 1048576) (hlX : X.length ≤ 1048576) (hlY : Y.length ≤ 1048576) (hF : ∀ e ∈ X, EdFit e) (hTX : tots X ≤ 1048576) (hTY : tots Y ≤ 1048576) (a1 a2 : Option Addr) (c1 c2 : Nat) (v : World) (h1 : EdsC v a1 c1 X) (h2 : EdsC v a2 c2 Y) :
    Calls Tryd.prog 17 #[.int .i64 size, .slice a1 X.length c1, .slice a2 Y.length c2] v fun e w' => ∃ a' c', e = .returned (.tuple #[.slice a' (cmpL size X Y).length c', .int .i64 (cmpE size X Y)]) ∧ EdsA w' a' (cmpL size X Y) ∧ Below v.heap.size v w' := by
  refine (compose_any size a1 a2 c1 c2 X Y v (by omega) (by omega) h1 h2 (by unfold maxLen; omega) (by unfold maxLen; omega) hF hTX hTY).mono ?_
  rintro e w' ⟨u, rfl, ho, hb⟩
  obtain ⟨a', c', rfl, hE⟩ := own_formC ho
  exact ⟨a', c', rfl, hE.all, hb⟩

theorem flat_set_s : ∀ (cs : List Ed) (i : Nat) (x : Ed) (v : ByteArray), cs[i]? = some x → (flat cs).set (i * 3 + 2) (.string v) = flat (cs.set i ⟨x.f, x.t, v⟩)
  | [], i, x, v, h => by simp at h
  | y :: r, 0, x, v, h => by
    simp at h; subst h
    rw [show ∀ z : Ed, (y :: r).set 0 z = z :: r from fun _ => rfl, flat_cons, flat_cons]; rfl
  | y :: r, i + 1, x, v, h => by
    have ih := flat_set_s r i x v (by simpa using h)
    rw [show ∀ z : Ed, (y :: r).set (i + 1) z = y :: r.set i z from fun _ => rfl, flat_cons, flat_cons, ← ih, show (i + 1) * 3 + 2 = i * 3 + 2 + 1 + 1 + 1 by omega]
    rfl
theorem flat_set_all : ∀ (cs : List Ed) (i : Nat) (e : Ed), i < cs.length → (((flat cs).set (i * 3) (.int .i64 e.f)).set (i * 3 + 1) (.int .i64 e.t)).set (i * 3 + 2) (.string e.s) = flat (cs.set i e)
  | [], i, e, h => by simp at h
  | y :: r, 0, e, h => by
    rw [show (y :: r).set 0 e = e :: r from rfl, flat_cons, flat_cons]; rfl
  | y :: r, i + 1, e, h => by
    have ih := flat_set_all r i e (by simpa using h)
    rw [show (y :: r).set (i + 1) e = y :: r.set i e from rfl, flat_cons, flat_cons, ← ih, show (i + 1) * 3 = i * 3 + 1 + 1 + 1 by omega]
    rfl
theorem tots_set : ∀ (cs : List Ed) (i : Nat) (x e : Ed), cs[i]? = some x → tots (cs.set i e) + x.s.size = tots cs + e.s.size
  | [], i, x, e, h => by simp at h
  | y :: r, 0, x, e, h => by
    simp at h; subst h
    rw [List.set_cons_zero, tots, tots]; omega
  | y :: r, i + 1, x, e, h => by
    have ih := tots_set r i x e (by simpa using h)
    rw [List.set_cons_succ, tots, tots]; omega
theorem tots_get {cs : List Ed} {i : Nat} {x : Ed} (h : cs[i]? = some x) : x.s.size ≤ tots cs := by
  have h1 := tots_set cs i x ⟨0, 0, ⟨#[]⟩⟩ h
  have h2 : (⟨0, 0, ⟨#[]⟩⟩ : Ed).s.size = 0 := rfl
  omega
theorem fit_set {cs : List Ed} {i : Nat} {e : Ed} (h : ∀ x ∈ cs, EdFit x) (he : EdFit e) : ∀ x ∈ cs.set i e, EdFit x := fun x hx => by
  rcases List.mem_or_eq_of_mem_set hx with h1 | rfl
  · exact h x h1
  · exact he

set_option maxRecDepth 1000000 in
set_option maxHeartbeats 4000000 in
theorem editsAnew_walk (tx : ByteArray) (a1 : Option Addr) (c1 : Nat) (a : List Ed) (a2 : Option Addr) (c2 : Nat) (b : List Ed) (w : World) (hx : tx.size ≤ 140737488351232)
    (h1 : EdsA w a1 a) (hF1 : ∀ e ∈ a, EdFit e) (hn1 : a1 = none → a.length = 0 ∧ c1 = 0) (hl1 : a.length * 32 ≤ 140737488351232) (hC1 : a.length ≤ c1)
    (h2 : EdsA w a2 b) (hF2 : ∀ e ∈ b, EdFit e) (hn2 : a2 = none → b.length = 0 ∧ c2 = 0) (hl2 : b.length * 32 ≤ 140737488351232) (hC2 : b.length ≤ c2) (hB : tx.size + (4 * a.length + tot a) + (4 * b.length + tot b) ≤ 1048576) (htab : Lib.TabIs Tryd.prog w "internal/strconv.uint64pow10" .u64 Lib.pow10Tab) :
    Calls Tryd.prog 6 #[.string tx, .slice a1 a.length c1, .slice a2 b.length c2] w fun e w' => e = .returned (.bool true) ∧ Below w.heap.size w w' := by
  obtain ⟨i0, hi0, hz0, hz1, hz2⟩ := info_parts infoEd
  have H1 : Hid (EdsA w a1 a) := h1
  have HN1 : Hid (a1 = none → a.length = 0 ∧ c1 = 0) := hn1
  have H2 : Hid (EdsA w a2 b) := h2
  have HC2 : Hid (EdsC w a2 c2 b) := h2.room hC2
  have HF1 : Hid (∀ e ∈ a, EdFit e) := hF1
  have HF2 : Hid (∀ e ∈ b, EdFit e) := hF2
  have HT : Hid (Lib.TabBelow Tryd.prog w.heap.size w "internal/strconv.uint64pow10" .u64 Lib.pow10Tab) := Lib.tabBelow_of_tabIs htab
  have hT0 : tx.size + tots a + tots b + 4 * a.length + 4 * b.length ≤ 1048576 := by rw [tots_tot, tots_tot]; omega
  clear h1 h2 hn1 hn2 hF1 hF2 htab hB hC1
  have HL0 : Hid ((w.alloc (.cells #[] 45)).ownsRow w.heap.size 45 3 (.slice (some ⟨w.heap.size, 0, none⟩) 0 0) 0 []) := World.ownsRow_lit w #[] 0 (Nat.le_refl _) (by unfold maxLen; omega) rfl
  go_enter Tryd.func6, Tryd.ntmps6
  go_wp2_with (at_builtin; ((refine wpList_append_own_any _ rfl _ _ 22 rfl w.heap.size 45 i0 (.agg #[.int .i64 0, .int .i64 0, .string ⟨#[]⟩]) 3 32 Tryd.underlying22 hi0 hz0 hz1 hz2 rfl (by decide) _ 0 [] rfl HL0.out a1 a.length c1 (flat a) rfl (flat_length a) HN1.out (H1.out.below ((Below.refl _ w).alloc (Nat.le_refl _) _)).news (flat_oneCell _) (by unfold maxLen; omega) (by omega) (by simp) ?_); intro v1 w1 hown1 hgrow1; have HB1 : Hid (Below w.heap.size w w1) := ((Below.refl _ w).alloc (Nat.le_refl _) _).grown hgrow1 (by simp) (fun g h => (HL0.out.lt g h).1); have HO1 : Hid (w1.ownsRow w.heap.size 45 3 v1 a.length (flat a)) := (by unfold Hid; rw [Nat.zero_add, List.nil_append] at hown1; exact hown1); clear hown1 hgrow1))
  obtain ⟨ac, cc, rfl, -, -, -⟩ := own_form HO1.out
  go_loopg [8] 2 (fun gk st wr => ∃ (t : Nat) (cs : List Ed), gk = 2 - t ∧ t ≤ 2 ∧ st = .int .i64 (t : Int) ∧ cs.length = a.length ∧ (∀ e ∈ cs, EdFit e) ∧ ((t = 0 → tots cs ≤ tots a) ∧ (t < 2 → tots cs ≤ tots a + tots b + a.length)) ∧ wr.ownsRow w.heap.size 45 3 (.slice ac a.length cc) a.length (flat cs) ∧ Below w.heap.size w wr)
  case atStart => exact ⟨0, a, by omega, by omega, rfl, rfl, HF1.out, ⟨fun _ => Nat.le_refl _, fun _ => by omega⟩, HO1.out, HB1.out⟩
  case round =>
    obtain ⟨t, cs, rfl, ht, rfl, hcl, hFc, hTc, hown, hbel⟩ := hrel
    have HB : Hid (Below w.heap.size w wr) := hbel
    have HO : Hid (wr.ownsRow w.heap.size 45 3 (.slice ac a.length cc) a.length (flat cs)) := hown
    have HFC : Hid (∀ e ∈ cs, EdFit e) := hFc
    have HCL : Hid (cs.length = a.length) := hcl
    clear hbel hown hFc
    by_cases ht2 : t < 2
    · have ht2' : (t : Int) < 2 := by omega
      have htc : tots cs ≤ 1048576 := by have := hTc.2 ht2; omega
      have HTC : Hid (t = 0 → tots cs ≤ tots a) := hTc.1
      obtain ⟨R, hR⟩ : ∃ R, appB tx cs = R := ⟨_, rfl⟩
      obtain ⟨V, hV⟩ : ∃ V, vld tx.size cs = V := ⟨_, rfl⟩
      obtain ⟨X, hX⟩ : ∃ X, cmpL tx.size cs b = X := ⟨_, rfl⟩
      obtain ⟨E, hE⟩ : ∃ E, cmpE tx.size cs b = E := ⟨_, rfl⟩
      have HXl : Hid (X.length ≤ maxLen) := by
        unfold Hid maxLen; rw [← hX]; unfold cmpL; split
        · rename_i h; have := h.2.2; omega
        · simp
      have HL : Hid (cs.length ≤ maxLen) := by unfold Hid maxLen; omega
      have HK : Hid (∀ v, Below w.heap.size w v → v.ownsRow w.heap.size 45 3 (.slice ac a.length cc) a.length (flat cs) → EdsC v ac cc cs) := fun v _ ho => by
        obtain ⟨a', c', e, hE⟩ := own_formC ho
        rw [hcl] at e
        cases e
        exact hE
      have HA1 : Hid (∀ v, EdsC v ac cc cs → Calls Tryd.prog 15 #[.string tx, .slice ac a.length cc] v fun e w' => e = .returned (.tuple #[.string R, .int .i64 V]) ∧ Below v.heap.size v w') := fun v h => by
        have := apply_all tx ac cc cs v hx h.all HL.out HFC.out (by omega)
        rw [hR, hV, hcl] at this; exact this
      have HA2 : Hid (∀ v, EdsC v ac cc cs → Calls Tryd.prog 16 #[.string tx, .slice ac a.length cc] v fun e w' => e = .returned (.tuple #[.string R, .int .i64 V]) ∧ Below v.heap.size v w') := fun v h => by
        have := rapply_all tx ac cc cs v hx h.all HL.out (by omega)
        rw [show appA tx cs = R from hR, hV, hcl] at this; exact this
      have HA3 : Hid (∀ v, Below w.heap.size w v → EdsC v ac cc cs → Calls Tryd.prog 17 #[.int .i64 tx.size, .slice ac a.length cc, .slice a2 b.length c2] v fun e w' => ∃ a' c', e = .returned (.tuple #[.slice a' X.length c', .int .i64 E]) ∧ EdsA w' a' X ∧ Below v.heap.size v w') := fun v hv h => by
        have := compose_rowA tx.size cs b (by omega) (by omega) (by omega) (by omega) HFC.out htc (by omega) ac a2 cc c2 v h (HC2.out.below hv)
        rw [hX, hE, hcl] at this; exact this
      have HA4 : Hid (∀ v, Below w.heap.size w v → EdsC v ac cc cs → Calls Tryd.prog 18 #[.int .i64 tx.size, .slice ac a.length cc, .slice a2 b.length c2] v fun e w' => ∃ a' c', e = .returned (.tuple #[.slice a' X.length c', .int .i64 E]) ∧ EdsA w' a' X ∧ Below v.heap.size v w') := fun v hv h => by
        have := rcompose_all tx.size ac a2 cc c2 cs b v (by omega) (by omega) h.all (H2.out.below hv) (by omega) (by omega) htc (by omega)
        rw [hX, hE, hcl] at this; exact this
      have HA5 : Hid (∀ v at_, -9223372036854775808 ≤ at_ → at_ ≤ 9223372036854775807 → EdsC v ac cc cs → Calls Tryd.prog 19 #[.slice ac a.length cc, .int .i64 at_] v fun e w' => e = .returned (.tuple #[.int .i64 (shN cs at_), .bool (shB cs at_)]) ∧ Below v.heap.size v w') := fun v at_ h1 h2 h => by
        have := shift_all ac cc cs at_ v h1 h2 h.all HL.out HFC.out
        rw [hcl] at this; exact this
      have HA6 : Hid (∀ v at_, -9223372036854775808 ≤ at_ → at_ ≤ 9223372036854775807 → EdsC v ac cc cs → Calls Tryd.prog 20 #[.slice ac a.length cc, .int .i64 at_] v fun e w' => e = .returned (.tuple #[.int .i64 (shN cs at_), .bool (shB cs at_)]) ∧ Below v.heap.size v w') := fun v at_ h1 h2 h => by
        have := rshift_all ac cc cs at_ v h1 h2 h.all HL.out HFC.out
        rw [hcl] at this; exact this
      obtain ⟨sn, hsn⟩ : ∃ sn, shN cs ((tx.size : Int) / 2) = sn := ⟨_, rfl⟩
      obtain ⟨sb, hsb⟩ : ∃ sb, shB cs ((tx.size : Int) / 2) = sb := ⟨_, rfl⟩
      have HS5 : Hid (∀ v, EdsC v ac cc cs → Calls Tryd.prog 19 #[.slice ac a.length cc, .int .i64 ((tx.size : Int) / 2)] v fun e w' => e = .returned (.tuple #[.int .i64 sn, .bool sb]) ∧ Below v.heap.size v w') := fun v h => by
        have := HA5.out v ((tx.size : Int) / 2) (by omega) (by omega) h
        rw [hsn, hsb] at this; exact this
      have HS6 : Hid (∀ v, EdsC v ac cc cs → Calls Tryd.prog 20 #[.slice ac a.length cc, .int .i64 ((tx.size : Int) / 2)] v fun e w' => e = .returned (.tuple #[.int .i64 sn, .bool sb]) ∧ Below v.heap.size v w') := fun v h => by
        have := HA6.out v ((tx.size : Int) / 2) (by omega) (by omega) h
        rw [hsn, hsb] at this; exact this
      have hsnn : (sn == sn) = true := by simp
      have hsbb : (sb == sb) = true := by cases sb <;> rfl
      have hsn2 : (sn != sn) = false := by simp
      have hsb2 : (sb != sb) = false := by cases sb <;> rfl
      have hV2 : (V != V) = false := by simp
      have hE2 : (E != E) = false := by simp
      clear hsn hsb HA5 HA6
      obtain ⟨Pn, hPn⟩ : ∃ Pn, prtB cs = Pn := ⟨_, rfl⟩
      have HA7 : Hid (∀ v, Below w.heap.size w v → EdsC v ac cc cs → Calls Tryd.prog 8 #[.slice ac a.length cc] v fun e w' => e = .returned (.string Pn) ∧ Below v.heap.size v w') := fun v hv h => by
        have := Print_all ac cc cs v h.all HL.out HFC.out htc (HT.out.on hv).here
        rw [hPn, hcl] at this; exact this
      have HA8 : Hid (∀ v, Below w.heap.size w v → EdsC v ac cc cs → Calls Tryd.prog 12 #[.slice ac a.length cc] v fun e w' => e = .returned (.string Pn) ∧ Below v.heap.size v w') := fun v hv h => by
        have := rPrint_all ac cc cs v h.all HL.out HFC.out htc (HT.out.on hv).here
        rw [hPn, hcl] at this; exact this
      have hVV : (V == V) = true := by simp
      have hEE : (E == E) = true := by simp
      clear hR hV hX hE hPn hcl hTc
      go_wp2_with (first
        | (go_at_call 15; (with_reducible refine (HA1.out _ (HK.out _ HB.out HO.out)).mono ?_); rintro e w2 ⟨rfl, hb⟩; have HB2 : Hid (Below w.heap.size w w2) := HB.out.trans (hb.mono HB.out.size); have HO2 : Hid (w2.ownsRow w.heap.size 45 3 (.slice ac a.length cc) a.length (flat cs)) := ownsRow_below HO.out hb (Nat.le_refl _); clear hb)
        | (go_at_call 16; (with_reducible refine (HA2.out _ (HK.out _ HB2.out HO2.out)).mono ?_); rintro e w3 ⟨rfl, hb⟩; have HB3 : Hid (Below w.heap.size w w3) := HB2.out.trans (hb.mono HB2.out.size); have HO3 : Hid (w3.ownsRow w.heap.size 45 3 (.slice ac a.length cc) a.length (flat cs)) := ownsRow_below HO2.out hb (Nat.le_refl _); clear hb)
        | (go_at_call 17; (with_reducible refine (HA3.out _ HB3.out (HK.out _ HB3.out HO3.out)).mono ?_); rintro e w4 ⟨x4, k4, rfl, g4, hb⟩; have HB4 : Hid (Below w.heap.size w w4) := HB3.out.trans (hb.mono HB3.out.size); have HO4 : Hid (w4.ownsRow w.heap.size 45 3 (.slice ac a.length cc) a.length (flat cs)) := ownsRow_below HO3.out hb (Nat.le_refl _); have HX4 : Hid (EdsA w4 x4 X) := g4; clear hb g4)
        | (go_at_call 18; (with_reducible refine (HA4.out _ HB4.out (HK.out _ HB4.out HO4.out)).mono ?_); rintro e w5 ⟨x5, k5, rfl, g5, hb⟩; have HB5 : Hid (Below w.heap.size w w5) := HB4.out.trans (hb.mono HB4.out.size); have HO5 : Hid (w5.ownsRow w.heap.size 45 3 (.slice ac a.length cc) a.length (flat cs)) := ownsRow_below HO4.out hb (Nat.le_refl _); have HX5 : Hid (EdsA w5 x5 X) := g5; have HX45 : Hid (EdsA w5 x4 X) := HX4.out.below hb; clear hb g5)
        | (go_at_call 19; (with_reducible refine (HS5.out _ (HK.out _ HB5.out HO5.out)).mono ?_); rintro e w6 ⟨rfl, hb⟩; have HB6 : Hid (Below w.heap.size w w6) := HB5.out.trans (hb.mono HB5.out.size); have HO6 : Hid (w6.ownsRow w.heap.size 45 3 (.slice ac a.length cc) a.length (flat cs)) := ownsRow_below HO5.out hb (Nat.le_refl _); have HX6 : Hid (EdsA w6 x4 X ∧ EdsA w6 x5 X) := ⟨HX45.out.below hb, HX5.out.below hb⟩; clear hb)
        | (go_at_call 20; (with_reducible refine (HS6.out _ (HK.out _ HB6.out HO6.out)).mono ?_); rintro e w7 ⟨rfl, hb⟩; have HB7 : Hid (Below w.heap.size w w7) := HB6.out.trans (hb.mono HB6.out.size); have HO7 : Hid (w7.ownsRow w.heap.size 45 3 (.slice ac a.length cc) a.length (flat cs)) := ownsRow_below HO6.out hb (Nat.le_refl _); have HX7 : Hid (EdsA w7 x4 X ∧ EdsA w7 x5 X) := ⟨HX6.out.1.below hb, HX6.out.2.below hb⟩; clear hb)
        | (go_at_call 10; (with_reducible refine (same_any _ _ _ _ X _ HX7.out.1 HX7.out.2 HXl.out).mono ?_); rintro e w8 ⟨rfl, hb⟩; have HB8 : Hid (Below w.heap.size w w8) := HB7.out.trans (hb.mono HB7.out.size); have HO8 : Hid (w8.ownsRow w.heap.size 45 3 (.slice ac a.length cc) a.length (flat cs)) := ownsRow_below HO7.out hb (Nat.le_refl _); clear hb)
        | (go_at_call 8; (with_reducible refine (HA7.out _ HB8.out (HK.out _ HB8.out HO8.out)).mono ?_); rintro e w9 ⟨rfl, hb⟩; have HB9 : Hid (Below w.heap.size w w9) := HB8.out.trans (hb.mono HB8.out.size); have HO9 : Hid (w9.ownsRow w.heap.size 45 3 (.slice ac a.length cc) a.length (flat cs)) := ownsRow_below HO8.out hb (Nat.le_refl _); clear hb)
        | (go_at_call 12; (with_reducible refine (HA8.out _ HB9.out (HK.out _ HB9.out HO9.out)).mono ?_); rintro e w10 ⟨rfl, hb⟩; have HB10 : Hid (Below w.heap.size w w10) := HB9.out.trans (hb.mono HB9.out.size); have HO10 : Hid (w10.ownsRow w.heap.size 45 3 (.slice ac a.length cc) a.length (flat cs)) := ownsRow_below HO9.out hb (Nat.le_refl _); clear hb))
      have hal : a.length ≤ 262144 := by omega
      clear HA1 HA2 HA3 HA4 HA7 HA8 HS5 HS6 HK HB HB2 HB3 HB4 HB5 HB6 HB7 HB8 HB9 HO HO2 HO3 HO4 HO5 HO6 HO7 HO8 HO9 HX4 HX5 HX45 HX6 HX7 hsnn hsbb hsn2 hsb2 hV2 hE2 hVV hEE
      go_loopg [111] a.length (fun gk st wr => ∃ (k : Nat) (ds : List Ed), gk = a.length - k ∧ k ≤ a.length ∧ st = .int .i64 (k : Int) ∧ ds.length = a.length ∧ (∀ e ∈ ds, EdFit e) ∧ tots ds + tots (b.drop k) ≤ tots cs + tots b + k ∧ wr.ownsRow w.heap.size 45 3 (.slice ac a.length cc) a.length (flat ds) ∧ Below w.heap.size w wr)
      case atStart => exact ⟨0, cs, by omega, by omega, rfl, HCL.out, HFC.out, by simp, HO10.out, HB10.out⟩
      case round =>
        obtain ⟨k, ds, rfl, hk, rfl, hdl, hFd, hTd, hown, hbel⟩ := hrel
        have HB : Hid (Below w.heap.size w wr) := hbel
        have HO : Hid (wr.ownsRow w.heap.size 45 3 (.slice ac a.length cc) a.length (flat ds)) := hown
        have HFD : Hid (∀ e ∈ ds, EdFit e) := hFd
        have HDL : Hid (ds.length = a.length) := hdl
        have HTD : Hid (tots ds + tots (b.drop k) ≤ tots cs + tots b + k) := hTd
        clear hbel hown hFd hTd
        by_cases hka : k < a.length
        · have hk1 : (k : Int) < (a.length : Int) := by omega
          have hk0 : (0 : Int) ≤ (k : Int) := by omega
          obtain ⟨go, rfl⟩ : ∃ go, ac = some ⟨go, 0, none⟩ := by
            rcases HO.out.2 with ⟨h, h'⟩ | ⟨go, cap, cur, h, _⟩
            · omega
            · simp only [Value.slice.injEq] at h; exact ⟨go, h.1⟩
          have hgo := HO.out.lt go rfl
          obtain ⟨d, hd⟩ : ∃ d, ds[k]? = some d := ⟨_, List.getElem?_eq_getElem (by omega)⟩
          have HD : Hid (ds[k]? = some d) := hd
          have hds : d.s.size ≤ 4000000 := by
            have h1 := tots_get hd
            have h2 := HTD.out
            omega
          by_cases hkb : k < b.length
          · have hkb' : (k : Int) < (b.length : Int) := by omega
            obtain ⟨e, he⟩ : ∃ e, b[k]? = some e := ⟨_, List.getElem?_eq_getElem hkb⟩
            have HE : Hid (b[k]? = some e) := he
            rcases H2.out with h0 | ⟨bb, oo, rfl, hE⟩
            · rw [h0] at hkb; simp at hkb
            obtain ⟨c0, c1, c2⟩ := hE.cells HB.out he
            have f0 := HO.out.frozenAt (k * 3)
            have hO1 := (HO.out.stored (k * 3) (.int .i64 e.f)).1
            have f1 := hO1.frozenAt (k * 3 + 1)
            have hO2 := (hO1.stored (k * 3 + 1) (.int .i64 e.t)).1
            have f2 := hO2.frozenAt (k * 3 + 2)
            have hO3 := (hO2.stored (k * 3 + 2) (.string e.s)).1
            obtain ⟨d0, d1, d2⟩ := (Eds.own HO.out).cells (Below.refl _ _) hd
            simp only [Nat.zero_add] at d0 d1 d2
            have e1 : (wr.setCell ⟨go, k * 3, none⟩ (.int .i64 e.f)).cell? ⟨go, k * 3 + 1, none⟩ = some (.int .i64 d.t) := by
              rw [World.cell?_setCell_other _ _ _ _ (by intro h; simp only [Addr.mk.injEq] at h; omega)]; exact d1
            have e2 : ((wr.setCell ⟨go, k * 3, none⟩ (.int .i64 e.f)).setCell ⟨go, k * 3 + 1, none⟩ (.int .i64 e.t)).cell? ⟨go, k * 3 + 2, none⟩ = some (.string d.s) := by
              rw [World.cell?_setCell_other _ _ _ _ (by intro h; simp only [Addr.mk.injEq] at h; omega), World.cell?_setCell_other _ _ _ _ (by intro h; simp only [Addr.mk.injEq] at h; omega)]; exact d2
            obtain ⟨w9, e9⟩ : ∃ w9, ((wr.setCell ⟨go, k * 3, none⟩ (.int .i64 e.f)).setCell ⟨go, k * 3 + 1, none⟩ (.int .i64 e.t)).setCell ⟨go, k * 3 + 2, none⟩ (.string e.s) = w9 := ⟨_, rfl⟩
            have HE9 : Hid (((wr.setCell ⟨go, k * 3, none⟩ (.int .i64 e.f)).setCell ⟨go, k * 3 + 1, none⟩ (.int .i64 e.t)).setCell ⟨go, k * 3 + 2, none⟩ (.string e.s) = w9) := e9
            have HOE : Hid (w9.ownsRow w.heap.size 45 3 (.slice (some ⟨go, 0, none⟩) a.length cc) a.length (flat (ds.set k e))) := by
              unfold Hid; rw [← e9, ← flat_set_all ds k e (by rw [HDL.out]; exact hka)]; exact hO3
            have HBE : Hid (Below w.heap.size w w9) := by
              unfold Hid; rw [← e9]
              exact ((HB.out.setCell (p := ⟨go, k * 3, none⟩) hgo.1 _).setCell (p := ⟨go, k * 3 + 1, none⟩) hgo.1 _).setCell (p := ⟨go, k * 3 + 2, none⟩) hgo.1 _
            have HTE : Hid (tots (ds.set k e) + tots (b.drop (k + 1)) ≤ tots cs + tots b + (k + 1)) := by
              unfold Hid
              have h1 := tots_set ds k d e hd
              have h2 : tots (b.drop k) = e.s.size + tots (b.drop (k + 1)) := by rw [drop_get he]; rfl
              have h3 := HTD.out
              omega
            have HFE : Hid (∀ x ∈ ds.set k e, EdFit x) := fit_set HFD.out (HF2.out e (List.mem_of_getElem? he))
            clear hE he hd d1 d2 hO1 hO2 hO3 e9
            go_wp2
            rw [HE9.out]
            go_roundg (a.length - (k + 1))
            case measure => omega
            case rel => exact ⟨k + 1, ds.set k e, rfl, by omega, by go_num, by rw [List.length_set]; exact HDL.out, HFE.out, HTE.out, HOE.out, HBE.out⟩
          · have hkb' : ¬ (k : Int) < (b.length : Int) := by omega
            obtain ⟨d0, d1, d2⟩ := (Eds.own HO.out).cells (Below.refl _ _) hd
            simp only [Nat.zero_add] at d0 d1 d2
            have f2 := HO.out.frozenAt (k * 3 + 2)
            obtain ⟨dst, hdst⟩ : ∃ z, d.s = z := ⟨_, rfl⟩
            rw [hdst] at d2 hds
            have hbs : (⟨#[33]⟩ : ByteArray).size = 1 := rfl
            obtain ⟨w9, e9⟩ : ∃ w9, wr.setCell ⟨go, k * 3 + 2, none⟩ (.string (dst ++ ⟨#[33]⟩)) = w9 := ⟨_, rfl⟩
            have HE9 : Hid (wr.setCell ⟨go, k * 3 + 2, none⟩ (.string (dst ++ ⟨#[33]⟩)) = w9) := e9
            have HOE : Hid (w9.ownsRow w.heap.size 45 3 (.slice (some ⟨go, 0, none⟩) a.length cc) a.length (flat (ds.set k ⟨d.f, d.t, dst ++ ⟨#[33]⟩⟩))) := by
              unfold Hid; rw [← e9, ← flat_set_s ds k d (dst ++ ⟨#[33]⟩) hd]; exact (HO.out.stored (k * 3 + 2) _).1
            have HBE : Hid (Below w.heap.size w w9) := by
              unfold Hid; rw [← e9]
              exact HB.out.setCell (p := ⟨go, k * 3 + 2, none⟩) hgo.1 _
            have HTE : Hid (tots (ds.set k ⟨d.f, d.t, dst ++ ⟨#[33]⟩⟩) + tots (b.drop (k + 1)) ≤ tots cs + tots b + (k + 1)) := by
              unfold Hid
              have h1 := tots_set ds k d ⟨d.f, d.t, dst ++ ⟨#[33]⟩⟩ hd
              rw [hdst] at h1
              simp only [ByteArray.size_append, hbs] at h1
              have h2 : tots (b.drop (k + 1)) ≤ tots (b.drop k) := by rw [← List.drop_drop]; exact tots_drop _ _
              have h3 := HTD.out
              omega
            have HFE : Hid (∀ x ∈ ds.set k ⟨d.f, d.t, dst ++ ⟨#[33]⟩⟩, EdFit x) := by
              obtain ⟨q1, q2, q3, q4, -⟩ := HFD.out d (List.mem_of_getElem? hd)
              exact fit_set HFD.out ⟨q1, q2, q3, q4, by simp only [ByteArray.size_append, hbs]; omega⟩
            clear hd e9 hdst
            go_wp2
            rw [HE9.out]
            go_roundg (a.length - (k + 1))
            case measure => omega
            case rel => exact ⟨k + 1, ds.set k ⟨d.f, d.t, dst ++ ⟨#[33]⟩⟩, rfl, by omega, by go_num, by rw [List.length_set]; exact HDL.out, HFE.out, HTE.out, HOE.out, HBE.out⟩
        · have hka' : ¬ (k : Int) < (a.length : Int) := by omega
          have HTE : Hid (tots ds ≤ tots cs + tots b + a.length) := by unfold Hid; have := HTD.out; omega
          clear HTD
          go_wp2
          go_roundg (2 - (t + 1))
          case measure => omega
          case rel => exact ⟨t + 1, ds, rfl, by omega, by go_num, HDL.out, HFD.out, ⟨fun h => by omega, fun h => by have h1 := HTC.out (by omega); have h2 := HTE.out; omega⟩, HO.out, HB.out⟩
    · have ht2' : ¬ (t : Int) < 2 := by omega
      go_wp2
      go_ret
      exact ⟨rfl, HB.out⟩
end Go.Proofs.YtlobegndphgeeaaDoor
