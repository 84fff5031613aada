import Derived.Test.YtniamjbieciilaaBothW
namespace Go.Proofs.Ytniamjbieciilaa
open Go.ChangeShapes Go.WideShapes Go.ChangeAt Go.RowKit
set_option linter.unusedVariables false

/-- a list of one edit that is written out -/
theorem lit_eds (w : World) (f t : Int) (s : ByteArray) : EdsA (w.alloc (.cells #[.int .i64 f, .int .i64 t, .string s] 33)).drew (some ⟨w.heap.size, 0, none⟩) [⟨f, t, s⟩] := by
  refine .inr ⟨_, _, rfl, ?_⟩
  have h := cells_new w (flat [⟨f, t, s⟩]) 33
  exact Eds.of_flat (by simp) (fun j u hj => h j u hj)

set_option maxRecDepth 1000000 in
set_option maxHeartbeats 2000000 in
theorem editsBoth_walk (tx : ByteArray) (a1 : Option Addr) (c1 : Nat) (a : List Ed) (a2 : Option Addr) (c2 : Nat) (b : List Ed) (w : World) (hx : tx.size ≤ 140737488351232)
    (h1 : EdsA w a1 a) (hF1 : ∀ e ∈ a, EdFit e) (hn1 : a1 = none → a.length = 0 ∧ c1 = 0) (hl1 : a.length * 32 ≤ 140737488351232) (hC1 : a.length ≤ c1)
    (h2 : EdsA w a2 b) (hF2 : ∀ e ∈ b, EdFit e) (hn2 : a2 = none → b.length = 0 ∧ c2 = 0) (hl2 : b.length * 32 ≤ 140737488351232) (hC2 : b.length ≤ c2) (hB : tx.size + (4 * a.length + tot a) + (4 * b.length + tot b) ≤ 1048576) :
    Calls Try.prog 3 #[.string tx, .slice a1 a.length c1, .slice a2 b.length c2] w fun e w' => e = .returned (.bool true) ∧ Below w.heap.size w w' := by
  have H1 : Hid (EdsA w a1 a) := h1
  have HC1 : Hid (EdsC w a1 c1 a) := h1.room hC1
  have H2 : Hid (EdsA w a2 b) := h2
  have HC2 : Hid (EdsC w a2 c2 b) := h2.room hC2
  have HF1 : Hid (∀ e ∈ a, EdFit e) := hF1
  have hT0 : tx.size + tots a + tots b ≤ 1048576 := by rw [tots_tot, tots_tot]; omega
  have hTab : tots a + tots b ≤ 1048576 := by omega
  have hTba : tots b + tots a ≤ 1048576 := by omega
  have hla : a.length ≤ 1048576 := by omega
  have hlb : b.length ≤ 1048576 := by omega
  have HLa : Hid (a.length ≤ maxLen) := by unfold Hid maxLen; omega
  have HLb : Hid (b.length ≤ maxLen) := by unfold Hid maxLen; omega
  have HM1 : Hid (∀ v, Below w.heap.size w v → Calls Try.prog 8 #[.int .i64 tx.size, .slice a1 a.length c1, .slice a2 b.length c2] v fun e w' => ∃ a' cap', e = .returned (.tuple #[.slice a' (mgL tx.size a b).length cap', .int .i64 (mgE tx.size a b)]) ∧ EdsA w' a' (mgL tx.size a b) ∧ (a' = none → (mgL tx.size a b).length = 0 ∧ cap' = 0) ∧ Below v.heap.size v w') := fun v hv =>
    merge_all tx.size a1 a2 c1 c2 a b v (by omega) (by omega) (HC1.out.below hv) (HC2.out.below hv) (fun h => (hn1 h).2) (fun h => (hn2 h).2) hla hlb hTab
  have HM2 : Hid (∀ v, Below w.heap.size w v → Calls Try.prog 8 #[.int .i64 tx.size, .slice a2 b.length c2, .slice a1 a.length c1] v fun e w' => ∃ a' cap', e = .returned (.tuple #[.slice a' (mgL tx.size b a).length cap', .int .i64 (mgE tx.size b a)]) ∧ EdsA w' a' (mgL tx.size b a) ∧ (a' = none → (mgL tx.size b a).length = 0 ∧ cap' = 0) ∧ Below v.heap.size v w') := fun v hv =>
    merge_all tx.size a2 a1 c2 c1 b a v (by omega) (by omega) (HC2.out.below hv) (HC1.out.below hv) (fun h => (hn2 h).2) (fun h => (hn1 h).2) hlb hla hTba
  have HM3 : Hid (∀ v, Below w.heap.size w v → Calls Try.prog 8 #[.int .i64 tx.size, .slice a1 a.length c1, .slice none 0 0] v fun e w' => ∃ a' cap', e = .returned (.tuple #[.slice a' (mgL tx.size a []).length cap', .int .i64 (mgE tx.size a [])]) ∧ EdsA w' a' (mgL tx.size a []) ∧ (a' = none → (mgL tx.size a []).length = 0 ∧ cap' = 0) ∧ Below v.heap.size v w') := fun v hv =>
    merge_all tx.size a1 none c1 0 a [] v (by omega) (by omega) (HC1.out.below hv) (.inl rfl) (fun h => (hn1 h).2) (fun _ => rfl) hla (by simp) (by simp [tots]; omega)
  have HVA : Hid (∀ v, Below w.heap.size w v → Calls Try.prog 9 #[.int .i64 tx.size, .slice a1 a.length c1] v fun e w' => e = .returned (.int .i64 (val62 tx.size a)) ∧ Below v.heap.size v w') := fun v hv => valid_all tx.size a1 c1 a v (by omega) (by omega) (H1.out.below hv) HLa.out
  have HVB : Hid (∀ v, Below w.heap.size w v → Calls Try.prog 9 #[.int .i64 tx.size, .slice a2 b.length c2] v fun e w' => e = .returned (.int .i64 (val62 tx.size b)) ∧ Below v.heap.size v w') := fun v hv => valid_all tx.size a2 c2 b v (by omega) (by omega) (H2.out.below hv) HLb.out
  clear h1 h2 hn1 hn2 hF1 hF2
  by_cases hgood : val62 tx.size a = 0 ∧ val62 tx.size b = 0
  · obtain ⟨hva, hvb⟩ := hgood
    obtain ⟨m1, m2, m3, m4, m5, m6⟩ := mg_right hva hvb
    rw [m1, m2] at HM1
    rw [m3, m4] at HM2
    rw [m5, m6] at HM3
    rw [hva] at HVA
    rw [hvb] at HVB
    obtain ⟨v1, v2⟩ := vld_chk (val62_ok hva).2.2
    obtain ⟨u1, u2⟩ := vld_chk (val62_ok hvb).2.2
    have HVL : Hid (vld tx.size a = 0) := (val62_ok hva).2.2
    clear m1 m2 m3 m4 m5 m6 hva hvb
    obtain ⟨X, hX⟩ : ∃ X, mrg a b = X := ⟨_, rfl⟩
    obtain ⟨E, hE⟩ : ∃ E, mrgE a b = E := ⟨_, rfl⟩
    have hXl : X.length ≤ 65536 := by
      rw [← hX]; unfold mrg
      split
      · simp
      · split
        · simp
        · omega
    rw [hX, hE] at HM1 HM2
    have HXM : Hid (X.length ≤ maxLen) := by unfold Hid maxLen; omega
    have hEE : (E == E) = true := by simp
    have hEN : (E != E) = false := by simp
    by_cases hE0 : E = 0
    · obtain ⟨o1, o2, o3⟩ := mrg_ok (hE.trans hE0)
      have hXJ : X = jn (sbs a b) := by rw [← hX, o2]
      have hBo : Both a b := both_of (fun e he => (chk_ok v1 e he).2.1) (fun e he => (chk_ok u1 e he).2.1) o1
      have hw : wck tx.size 0 (sbs a b) := sbs_wck v1 u1 (Int.le_refl _) (Int.le_refl _) hBo
      have hXc : chk tx.size 0 X = 0 := by rw [hXJ]; exact jn_chk hw
      have HXV : Hid (vld tx.size X = 0) := by unfold Hid vld; rw [if_neg (by omega)]; exact hXc
      have hXT : tots X ≤ 1048576 := by rw [hXJ, tots_jn, tots_sbs]; omega
      have HXF : Hid (∀ e ∈ X, EdFit e) := fit_chk hXc (by omega) hXT
      have HXA : Hid (appB tx X = bt tx a b 0) := by
        unfold Hid appB bt
        rw [if_pos HXV.out, hXJ, app_jn]; rfl
      have HST : Hid (∀ k y, b[k]? = some y → ∃ n : Nat, shN a y.f = n ∧ shB a y.f = true ∧ n ≤ 1048576 ∧ y.t - y.f ≤ 1048576 ∧ (bt tx a b (k + 1)).size ≤ 1048576 ∧ vld (bt tx a b (k + 1)).size [⟨n, n + (y.t - y.f), y.s⟩] = 0 ∧ appB (bt tx a b (k + 1)) [⟨n, n + (y.t - y.f), y.s⟩] = bt tx a b k) := fun k y hy =>
        bt_step (by omega) v1 v2 u1 hBo hy hT0
      have HBE : Hid (bt tx a b b.length = appB tx a) := bt_end HVL.out
      subst hE0
      clear hX hE o1 o2 o3 hXJ hw hXc hBo
      go_enter Try.func3, Try.ntmps3
      go_wp2_with (first
        | (go_at_call 8; (with_reducible refine (HM1.out _ (Below.refl _ _)).mono ?_); rintro e w3 ⟨x3, k3, rfl, q3, -, hb3⟩; have HB3 : Hid (Below w.heap.size w w3) := hb3; have HX3 : Hid (EdsA w3 x3 X) := q3; clear hb3 q3)
        | (go_at_call 8; (with_reducible refine (HM2.out _ HB3.out).mono ?_); rintro e w4 ⟨x4, k4, rfl, q4, -, hb4⟩; have HB4 : Hid (Below w.heap.size w w4) := HB3.out.trans (hb4.mono HB3.out.size); have HX4 : Hid (EdsA w4 x4 X) := q4; have HX34 : Hid (EdsA w4 x3 X) := HX3.out.below hb4; clear hb4 q4)
        | (go_at_call 9; (with_reducible refine (HVA.out _ HB4.out).mono ?_); rintro e w5 ⟨rfl, hb5⟩; have HB5 : Hid (Below w.heap.size w w5) := HB4.out.trans (hb5.mono HB4.out.size); have HX5 : Hid (EdsA w5 x3 X ∧ EdsA w5 x4 X) := ⟨HX34.out.below hb5, HX4.out.below hb5⟩; clear hb5)
        | (go_at_call 9; (with_reducible refine (HVB.out _ HB5.out).mono ?_); rintro e w6 ⟨rfl, hb6⟩; have HB6 : Hid (Below w.heap.size w w6) := HB5.out.trans (hb6.mono HB5.out.size); have HX6 : Hid (EdsA w6 x3 X ∧ EdsA w6 x4 X) := ⟨HX5.out.1.below hb6, HX5.out.2.below hb6⟩; clear hb6)
        | (go_at_call 10; (with_reducible refine (same_any _ _ _ _ X _ HX6.out.1 HX6.out.2 HXM.out).mono ?_); rintro e w7 ⟨rfl, hb7⟩; have HB7 : Hid (Below w.heap.size w w7) := HB6.out.trans (hb7.mono HB6.out.size); have HX7 : Hid (EdsA w7 x3 X) := HX6.out.1.below hb7; clear hb7)
        | (go_at_call 8; (with_reducible refine (HM3.out _ HB7.out).mono ?_); rintro e w8 ⟨x8, k8, rfl, q8, -, hb8⟩; have HB8 : Hid (Below w.heap.size w w8) := HB7.out.trans (hb8.mono HB7.out.size); have HA8 : Hid (EdsA w8 x8 a) := q8; have HX8 : Hid (EdsA w8 x3 X) := HX7.out.below hb8; clear hb8 q8)
        | (go_at_call 10; (with_reducible refine (same_any _ _ _ _ a _ HA8.out (H1.out.below HB8.out) HLa.out).mono ?_); rintro e w9 ⟨rfl, hb9⟩; have HB9 : Hid (Below w.heap.size w w9) := HB8.out.trans (hb9.mono HB8.out.size); have HX9 : Hid (EdsA w9 x3 X) := HX8.out.below hb9; clear hb9)
        | (go_at_call 11; (with_reducible refine (apply_all tx _ _ X _ hx HX9.out HXM.out HXF.out (by omega)).mono ?_); rintro e w10 ⟨rfl, hb10⟩; rw [HXV.out, HXA.out]; have HB10 : Hid (Below w.heap.size w w10) := HB9.out.trans (hb10.mono HB9.out.size); clear hb10)
        | (go_at_call 11; (with_reducible refine (apply_all tx _ _ a _ hx (H1.out.below HB10.out) HLa.out HF1.out (by omega)).mono ?_); rintro e w11 ⟨rfl, hb11⟩; rw [HVL.out, ← HBE.out]; have HB11 : Hid (Below w.heap.size w w11) := HB10.out.trans (hb11.mono HB10.out.size); clear hb11))
      clear HX3 HX4 HX34 HX5 HX6 HX7 HX8 HX9 HA8 HB3 HB4 HB5 HB6 HB7 HB8 HB9 HB10 HM1 HM2 HM3 HVA HVB
      go_loopg [15, 17] b.length (fun gk ss si wr => ∃ k : Nat, gk = k ∧ k ≤ b.length ∧ ss = .string (bt tx a b k) ∧ si = .int .i64 ((k : Int) - 1) ∧ Below w.heap.size w wr)
      case atStart => exact ⟨b.length, rfl, Nat.le_refl _, rfl, rfl, HB11.out⟩
      case round =>
        obtain ⟨k, rfl, hk, rfl, rfl, hbel⟩ := hrel
        have HB : Hid (Below w.heap.size w wr) := hbel
        clear hbel
        obtain ⟨k, rfl⟩ : ∃ k, k = gk := ⟨_, rfl⟩
        cases k with
        | zero =>
          go_wp2
          go_ret
          exact ⟨rfl, HB.out⟩
        | succ k =>
          have hk0 : (0 : Int) ≤ (k : Int) := by omega
          have hkb : (k : Int) < (b.length : Int) := by omega
          obtain ⟨y, hy⟩ : ∃ y, b[k]? = some y := ⟨_, List.getElem?_eq_getElem (by omega)⟩
          obtain ⟨n, s1, s2, s3, s4, hbs, s5, s6⟩ := HST.out k y hy
          have hyf := chk_ok u1 y (List.mem_of_getElem? hy)
          have hsz : tx.size ≤ 1048576 := by omega
          have HY : Hid (b[k]? = some y) := hy
          obtain ⟨bb, ob, hab, hEB⟩ : ∃ bb ob, a2 = some ⟨bb, ob, none⟩ ∧ Eds w bb ob b := by
            rcases H2.out with h0 | h0
            · rw [h0] at hkb; simp at hkb; omega
            · exact h0
          subst hab
          have HEB : Hid (Eds w bb ob b) := hEB
          obtain ⟨c0, c3, c4⟩ := hEB.cells HB.out hy
          have hbb : bb < wr.heap.size := Nat.lt_of_lt_of_le hEB.1 HB.out.size
          have hw1 : IntKind.i64.wrap ((n : Int) + y.t) = (n : Int) + y.t := IntWalk.i64_in _ ⟨by omega, by omega⟩
          have hw2 : IntKind.i64.wrap ((n : Int) + y.t - y.f) = (n : Int) + (y.t - y.f) := by rw [show (n : Int) + y.t - y.f = (n : Int) + (y.t - y.f) by omega]; exact IntWalk.i64_in _ ⟨by omega, by omega⟩
          have HA : Hid (∀ v, Below w.heap.size w v → ∀ p kp, EdsA v p [⟨n, n + (y.t - y.f), y.s⟩] → Calls Try.prog 11 #[.string (bt tx a b (k + 1)), .slice p 1 kp] v fun e w' => e = .returned (.tuple #[.string (bt tx a b k), .int .i64 0]) ∧ Below v.heap.size v w') := by
            intro v hv p kp hp
            have hbs : (bt tx a b (k + 1)).size ≤ 1048576 := hbs
            have := apply_all (bt tx a b (k + 1)) p kp [⟨n, n + (y.t - y.f), y.s⟩] v (by omega) hp (by unfold maxLen; simp) (by
              intro e he
              simp only [List.mem_singleton] at he
              subst he
              unfold EdFit
              have := tots_mem (List.mem_of_getElem? HY.out)
              simp only
              omega) (by
              have := tots_mem (List.mem_of_getElem? HY.out)
              simp only [tots]
              omega)
            rw [s5, s6] at this
            exact this
          clear hEB s5 s6 hy
          go_wp2_with (first
            | (go_at_call 12; (with_reducible refine (shift_all _ _ a y.f _ (by omega) (by omega) (H1.out.below HB.out) HLa.out HF1.out).mono ?_); rintro e w12 ⟨rfl, hb12⟩; rw [s1, s2]; have HB12 : Hid (Below w.heap.size w w12) := HB.out.trans (hb12.mono HB.out.size); clear hb12))
          have d0 : w12.cell? ⟨bb, ob + k * 3, none⟩ = some (.int .i64 y.f) := (HEB.out.cells HB12.out HY.out).1
          have d1 : w12.cell? ⟨bb, ob + k * 3 + 1, none⟩ = some (.int .i64 y.t) := (HEB.out.cells HB12.out HY.out).2.1
          have d2 : w12.cell? ⟨bb, ob + k * 3 + 2, none⟩ = some (.string y.s) := (HEB.out.cells HB12.out HY.out).2.2
          clear c0 c3 c4
          go_region_held3 (fun z => z.cell? ⟨bb, ob + k * 3, none⟩ = some (.int .i64 y.f) ∧ z.cell? ⟨bb, ob + k * 3 + 1, none⟩ = some (.int .i64 y.t) ∧ z.cell? ⟨bb, ob + k * 3 + 2, none⟩ = some (.string y.s)) (go_keep)
            (first | (go_at_call 11; refine (HA.out _ ((HB12.out.alloc HB12.out.size _).drew) _ _ (lit_eds _ _ _ _)).mono ?_; rintro e w14 ⟨rfl, hb14⟩; have HB14 : Hid (Below w.heap.size w w14) := ((HB12.out.alloc HB12.out.size _).drew).trans (hb14.mono (by have := HB12.out.size; simp; omega)); have g0 : w14.cell? ⟨bb, ob + k * 3, none⟩ = some (.int .i64 y.f) := (HEB.out.cells HB14.out HY.out).1; have g1 : w14.cell? ⟨bb, ob + k * 3 + 1, none⟩ = some (.int .i64 y.t) := (HEB.out.cells HB14.out HY.out).2.1; have g2 : w14.cell? ⟨bb, ob + k * 3 + 2, none⟩ = some (.string y.s) := (HEB.out.cells HB14.out HY.out).2.2; clear hb14))
          clear g0 g1 g2 d0 d1 d2
          go_wp2
          go_roundg k
          case measure => omega
          case rel => exact ⟨k, rfl, by omega, rfl, by go_num, HB14.out⟩
    · have HX0 : Hid (X = []) := by unfold Hid; rw [← hX]; exact mrg_no (by rw [hE]; exact hE0)
      have hEne : (E != 0) = true := by simpa using hE0
      have hEeq : (E == 0) = false := by simpa using hE0
      have hX0 := HX0.out
      have HSM : Hid (∀ p q kp kq v, Calls Try.prog 10 #[.slice p 0 kp, .slice q 0 kq] v fun e w' => e = .returned (.bool true) ∧ Below v.heap.size v w') := fun p q kp kq v => same_any p q kp kq [] v (.inl rfl) (.inl rfl) (by unfold maxLen; simp)
      clear hX hE
      subst hX0
      clear hE0
      go_enter Try.func3, Try.ntmps3
      go_wp2_with (first
        | (go_at_call 8; (with_reducible refine (HM1.out _ (Below.refl _ _)).mono ?_); rintro e w3 ⟨x3, k3, rfl, q3, -, hb3⟩; have HB3 : Hid (Below w.heap.size w w3) := hb3; clear hb3 q3)
        | (go_at_call 8; (with_reducible refine (HM2.out _ HB3.out).mono ?_); rintro e w4 ⟨x4, k4, rfl, q4, -, hb4⟩; have HB4 : Hid (Below w.heap.size w w4) := HB3.out.trans (hb4.mono HB3.out.size); clear hb4 q4)
        | (go_at_call 9; (with_reducible refine (HVA.out _ HB4.out).mono ?_); rintro e w5 ⟨rfl, hb5⟩; have HB5 : Hid (Below w.heap.size w w5) := HB4.out.trans (hb5.mono HB4.out.size); clear hb5)
        | (go_at_call 9; (with_reducible refine (HVB.out _ HB5.out).mono ?_); rintro e w6 ⟨rfl, hb6⟩; have HB6 : Hid (Below w.heap.size w w6) := HB5.out.trans (hb6.mono HB5.out.size); clear hb6)
        | (go_at_call 10; (with_reducible refine (HSM.out _ _ _ _ _).mono ?_); rintro e w7 ⟨rfl, hb7⟩; have HB7 : Hid (Below w.heap.size w w7) := HB6.out.trans (hb7.mono HB6.out.size); clear hb7)
        | (go_at_call 8; (with_reducible refine (HM3.out _ HB7.out).mono ?_); rintro e w8 ⟨x8, k8, rfl, q8, -, hb8⟩; have HB8 : Hid (Below w.heap.size w w8) := HB7.out.trans (hb8.mono HB7.out.size); have HA8 : Hid (EdsA w8 x8 a) := q8; clear hb8 q8)
        | (go_at_call 10; (with_reducible refine (same_any _ _ _ _ a _ HA8.out (H1.out.below HB8.out) HLa.out).mono ?_); rintro e w9 ⟨rfl, hb9⟩; have HB9 : Hid (Below w.heap.size w w9) := HB8.out.trans (hb9.mono HB8.out.size); clear hb9))
      go_ret
      exact ⟨rfl, HB9.out⟩
  · obtain ⟨m1, m2⟩ := mg_wrong hgood
    obtain ⟨m3, m4⟩ := mg_wrong (a := b) (b := a) (size := (tx.size : Int)) (fun h => hgood ⟨h.2, h.1⟩)
    rw [m1] at HM1
    rw [m3] at HM2
    obtain ⟨E1, hE1⟩ : ∃ E1, mgE tx.size a b = E1 := ⟨_, rfl⟩
    obtain ⟨E2, hE2⟩ : ∃ E2, mgE tx.size b a = E2 := ⟨_, rfl⟩
    rw [hE1] at HM1 m2
    rw [hE2] at HM2 m4
    have n1 : (E1 != 0) = true := by simpa using m2
    have n2 : (E2 != 0) = true := by simpa using m4
    obtain ⟨va, hva⟩ : ∃ va, val62 tx.size a = va := ⟨_, rfl⟩
    obtain ⟨vb, hvb⟩ : ∃ vb, val62 tx.size b = vb := ⟨_, rfl⟩
    rw [hva] at HVA hgood
    rw [hvb] at HVB hgood
    clear m1 m2 m3 m4 hE1 hE2 hva hvb
    by_cases g1 : va = 0
    · have g2 : (vb == 0) = false := by
        simp; exact fun h => hgood ⟨g1, h⟩
      subst g1
      clear hgood
      go_enter Try.func3, Try.ntmps3
      go_wp2_with (first
        | (go_at_call 8; (with_reducible refine (HM1.out _ (Below.refl _ _)).mono ?_); rintro e w3 ⟨x3, k3, rfl, q3, -, hb3⟩; have HB3 : Hid (Below w.heap.size w w3) := hb3; clear hb3 q3)
        | (go_at_call 8; (with_reducible refine (HM2.out _ HB3.out).mono ?_); rintro e w4 ⟨x4, k4, rfl, q4, -, hb4⟩; have HB4 : Hid (Below w.heap.size w w4) := HB3.out.trans (hb4.mono HB3.out.size); clear hb4 q4)
        | (go_at_call 9; (with_reducible refine (HVA.out _ HB4.out).mono ?_); rintro e w5 ⟨rfl, hb5⟩; have HB5 : Hid (Below w.heap.size w w5) := HB4.out.trans (hb5.mono HB4.out.size); clear hb5)
        | (go_at_call 9; (with_reducible refine (HVB.out _ HB5.out).mono ?_); rintro e w6 ⟨rfl, hb6⟩; have HB6 : Hid (Below w.heap.size w w6) := HB5.out.trans (hb6.mono HB5.out.size); clear hb6))
      go_ret
      exact ⟨rfl, HB6.out⟩
    · have g2 : (va == 0) = false := by simpa using g1
      clear hgood g1
      go_enter Try.func3, Try.ntmps3
      go_wp2_with (first
        | (go_at_call 8; (with_reducible refine (HM1.out _ (Below.refl _ _)).mono ?_); rintro e w3 ⟨x3, k3, rfl, q3, -, hb3⟩; have HB3 : Hid (Below w.heap.size w w3) := hb3; clear hb3 q3)
        | (go_at_call 8; (with_reducible refine (HM2.out _ HB3.out).mono ?_); rintro e w4 ⟨x4, k4, rfl, q4, -, hb4⟩; have HB4 : Hid (Below w.heap.size w w4) := HB3.out.trans (hb4.mono HB3.out.size); clear hb4 q4)
        | (go_at_call 9; (with_reducible refine (HVA.out _ HB4.out).mono ?_); rintro e w5 ⟨rfl, hb5⟩; have HB5 : Hid (Below w.heap.size w w5) := HB4.out.trans (hb5.mono HB4.out.size); clear hb5))
      go_ret
      exact ⟨rfl, HB5.out⟩
end Go.Proofs.Ytniamjbieciilaa
