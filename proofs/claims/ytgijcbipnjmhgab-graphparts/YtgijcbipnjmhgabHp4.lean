import Derived.Test.YtgijcbipnjmhgabGr4
namespace Go.Proofs.Ytgijcbipnjmhgab
open Go.ChangeShapes Go.WideShapes Go.ChangeAt Go.RowKit
set_option linter.unusedVariables false
set_option linter.unusedSimpArgs false

theorem sw_far (xs : List Int) {i j n k : Nat} (hi : i < n) (hj : j < n) (hn : n ≤ xs.length) (hk : n ≤ k) : (sw xs i j)[k]! = xs[k]! := by
  rw [sw_get xs (by omega) (by omega), if_neg (by omega), if_neg (by omega)]
/-- the same from place n on -/
def TlEq (n : Nat) (ys xs : List Int) : Prop := ∀ k, n ≤ k → ys[k]! = xs[k]!
set_option maxRecDepth 1000000 in
set_option maxHeartbeats 8000000 in
theorem down_any {B b : Nat} {w : World} {V : Value} {xs : List Int} (n l : Nat) (hl : xs.length = l) (hnl : n ≤ l) (hn : l ≤ 1099511627776) (h : Hq B b w V xs) (hd : HpD xs n 0) :
    Calls Try.prog 56 #[hpI b, .int .i64 0, .int .i64 (n : Int)] w fun e w' => (∃ r, e = .returned r) ∧ ∃ ys, Hq B b w' V ys ∧ Hpp ys n ∧ ys.Perm xs ∧ TlEq n ys xs ∧ Mv B b V.ownBlock w w' := by
  have HH : Hid (Hq B b w V xs) := h
  have HU : Hid (HpD xs n 0) := hd
  have HL : Hid (xs.length = l) := hl
  clear h hd hl
  go_enter Try.func56, Try.ntmps56
  go_wp2
  go_loopg [7] n (fun gk si wr => ∃ (i : Nat) (ys : List Int), gk = n - i ∧ si = .int .i64 (i : Int) ∧ i ≤ n ∧ ys.length = l ∧ Hq B b wr V ys ∧ HpD ys n i ∧ ys.Perm xs ∧ TlEq n ys xs ∧ Mv B b V.ownBlock w wr)
  case atStart => exact ⟨0, xs, rfl, rfl, Nat.zero_le _, HL.out, HH.out, HU.out, List.Perm.refl _, fun _ _ => rfl, Mv.refl _ _ _ _⟩
  case round =>
    clear HH HU HL
    obtain ⟨i, ys, hgk, rfl, hi, hyl, hQ, hU, hP, hK, hM⟩ := hrel
    have HH := hidH hQ
    have HU := hidH hU
    have HP := hidH hP
    have HK := hidH hK
    have HM := hidH hM
    have HL := hidH hyl
    have c0 := hQ.at0
    have z0 := hQ.box.lt
    have ml := m_less b V wr c0
    clear hQ hU hP hM hyl hK
    obtain ⟨m2, hm2⟩ : ∃ m2 : Nat, 2 * i = m2 := ⟨_, rfl⟩
    obtain ⟨d1, hd1⟩ : ∃ d1 : Nat, m2 + 1 = d1 := ⟨_, rfl⟩
    obtain ⟨d2, hd2⟩ : ∃ d2 : Nat, d1 + 1 = d2 := ⟨_, rfl⟩
    have k1 : IntKind.i64.wrap (2 * (i : Int)) = (m2 : Int) := by rw [IntWalk.i64_in _ ⟨by omega, by omega⟩]; omega
    have k2 : IntKind.i64.wrap ((m2 : Int) + 1) = (d1 : Int) := by rw [IntWalk.i64_in _ ⟨by omega, by omega⟩]; omega
    have k3 : IntKind.i64.wrap ((d1 : Int) + 1) = (d2 : Int) := by rw [IntWalk.i64_in _ ⟨by omega, by omega⟩]; omega
    have HD : Hid (2 * i + 1 = d1 ∧ 2 * i + 2 = d2) := by unfold Hid; omega
    clear hm2 hd1 hd2
    by_cases h1 : d1 < n
    · have h1' : (d1 : Int) < (n : Int) := by omega
      have h1'' : ((n : Int) ≤ (d1 : Int)) = False := by simp; omega
      have h1n : ¬ (d1 : Int) < 0 := by omega
      have h1d : decide ((d1 : Int) < 0) = false := decide_eq_false h1n
      have HLS : Hid (∀ v, Below wr.heap.size wr v → ∀ p q : Nat, p < n → q < n → Calls Try.prog 114 #[V, .int .i64 (p : Int), .int .i64 (q : Int)] v fun e w' => e = .returned (.bool (decide (ys[p]! < ys[q]!))) ∧ Below v.heap.size v w') := fun v hv p q hp hq => rless_any (HH.out.below hv) p q (by have := HL.out; omega) (by have := HL.out; omega)
      by_cases h2 : d2 < n
      · have h2' : (d2 : Int) < (n : Int) := by omega
        by_cases hl2 : ys[d2]! < ys[d1]!
        · have Q1 : Hid (Calls Try.prog 114 #[V, .int .i64 (d2 : Int), .int .i64 (d1 : Int)] wr fun e w' => e = .returned (.bool true) ∧ Below wr.heap.size wr w') := by
            have := HLS.out wr (Below.refl _ _) d2 d1 h2 h1
            rw [show decide (ys[d2]! < ys[d1]!) = true from decide_eq_true hl2] at this
            exact this
          have HMN : Hid (∀ k, (k = 2 * i + 1 ∨ k = 2 * i + 2) → k < n → ys[d2]! ≤ ys[k]!) := by
            intro k hk hkn
            have hd := HD.out
            rcases hk with e | e
            · obtain rfl : k = d1 := by omega
              omega
            · obtain rfl : k = d2 := by omega
              omega
          by_cases hlt : ys[d2]! < ys[i]!
          · have Q2 : Hid (∀ v, Below wr.heap.size wr v → Calls Try.prog 114 #[V, .int .i64 (d2 : Int), .int .i64 (i : Int)] v fun e w' => e = .returned (.bool true) ∧ Below v.heap.size v w') := fun v hv => by
              have := HLS.out v hv d2 i (by omega) (by have := HD.out; omega)
              rw [show decide (ys[d2]! < ys[i]!) = true from decide_eq_true hlt] at this
              exact this
            have HLT := hidH hlt
            clear hlt
            go_wp2_with (first
              | (go_at_call 114; (with_reducible refine (Q1.out).mono ?_); rintro e w1 ⟨rfl, hb9⟩; have E1 := hidH hb9; have H1 := hidH (HH.out.below hb9); have c1 := H1.out.at0; have z1 := H1.out.box.lt; have ml1 := m_less b V w1 c1; clear hb9)
              | (go_at_call 114; (with_reducible refine (Q2.out _ E1.out).mono ?_); rintro e w2 ⟨rfl, hb9⟩; have H2 := hidH (H1.out.below hb9); have M2 := hidH ((HM.out.trans (Mv.of (r := V.ownBlock) E1.out HH.out.box.lt HH.out.le) (.inl rfl)).trans (Mv.of (r := V.ownBlock) hb9 H1.out.box.lt HH.out.le) (.inl rfl)); have c2 := H2.out.at0; have z2 := H2.out.box.lt; have ms2 := m_swap b V w2 c2; clear hb9)
              | (go_at_call 115; (with_reducible refine (rswap_any H2.out i d2 (by have h8 := HL.out; have h9 := HD.out; omega) (by have h8 := HL.out; omega)).mono ?_); rintro e w3 ⟨⟨x, rfl⟩, hq3, hm3⟩; have H3 := hidH hq3; have M3 := hidH (M2.out.trans hm3 (.inl rfl)); clear hq3 hm3))
            go_roundg (n - d2)
            case measure => have := HD.out; omega
            case rel => exact ⟨d2, sw ys i d2, rfl, rfl, by omega, by rw [sw_len]; exact HL.out, H3.out, HU.out.down (by rw [HL.out]; exact hnl) (by have := HD.out; omega) (by omega) HLT.out HMN.out, (sw_perm ys (by have h8 := HL.out; have h9 := HD.out; omega) (by have h8 := HL.out; omega)).trans HP.out, fun k hk => (sw_far ys (n := n) (by have := HD.out; omega) (by omega) (by rw [HL.out]; exact hnl) hk).trans (HK.out k hk), M3.out⟩
          · have Q2 : Hid (∀ v, Below wr.heap.size wr v → Calls Try.prog 114 #[V, .int .i64 (d2 : Int), .int .i64 (i : Int)] v fun e w' => e = .returned (.bool false) ∧ Below v.heap.size v w') := fun v hv => by
              have := HLS.out v hv d2 i (by omega) (by have := HD.out; omega)
              rw [show decide (ys[d2]! < ys[i]!) = false from decide_eq_false hlt] at this
              exact this
            have HLT := hidH hlt
            clear hlt
            go_wp2_with (first
              | (go_at_call 114; (with_reducible refine (Q1.out).mono ?_); rintro e w1 ⟨rfl, hb9⟩; have E1 := hidH hb9; have H1 := hidH (HH.out.below hb9); have c1 := H1.out.at0; have z1 := H1.out.box.lt; have ml1 := m_less b V w1 c1; clear hb9)
              | (go_at_call 114; (with_reducible refine (Q2.out _ E1.out).mono ?_); rintro e w2 ⟨rfl, hb9⟩; have H2 := hidH (H1.out.below hb9); have M2 := hidH ((HM.out.trans (Mv.of (r := V.ownBlock) E1.out HH.out.box.lt HH.out.le) (.inl rfl)).trans (Mv.of (r := V.ownBlock) hb9 H1.out.box.lt HH.out.le) (.inl rfl)); have c2 := H2.out.at0; have z2 := H2.out.box.lt; have ms2 := m_swap b V w2 c2; clear hb9))
            go_ret
            exact ⟨⟨_, rfl⟩, ys, H2.out, HU.out.done (fun hk => by have h8 := HMN.out (2 * i + 1) (.inl rfl) hk; have h9 := HLT.out; omega) (fun hk => by have h8 := HMN.out (2 * i + 2) (.inr rfl) hk; have h9 := HLT.out; omega), HP.out, HK.out, M2.out⟩
        · have Q1 : Hid (Calls Try.prog 114 #[V, .int .i64 (d2 : Int), .int .i64 (d1 : Int)] wr fun e w' => e = .returned (.bool false) ∧ Below wr.heap.size wr w') := by
            have := HLS.out wr (Below.refl _ _) d2 d1 h2 h1
            rw [show decide (ys[d2]! < ys[d1]!) = false from decide_eq_false hl2] at this
            exact this
          have HMN : Hid (∀ k, (k = 2 * i + 1 ∨ k = 2 * i + 2) → k < n → ys[d1]! ≤ ys[k]!) := by
            intro k hk hkn
            have hd := HD.out
            rcases hk with e | e
            · obtain rfl : k = d1 := by omega
              omega
            · obtain rfl : k = d2 := by omega
              omega
          by_cases hlt : ys[d1]! < ys[i]!
          · have Q2 : Hid (∀ v, Below wr.heap.size wr v → Calls Try.prog 114 #[V, .int .i64 (d1 : Int), .int .i64 (i : Int)] v fun e w' => e = .returned (.bool true) ∧ Below v.heap.size v w') := fun v hv => by
              have := HLS.out v hv d1 i (by omega) (by have := HD.out; omega)
              rw [show decide (ys[d1]! < ys[i]!) = true from decide_eq_true hlt] at this
              exact this
            have HLT := hidH hlt
            clear hlt
            go_wp2_with (first
              | (go_at_call 114; (with_reducible refine (Q1.out).mono ?_); rintro e w1 ⟨rfl, hb9⟩; have E1 := hidH hb9; have H1 := hidH (HH.out.below hb9); have c1 := H1.out.at0; have z1 := H1.out.box.lt; have ml1 := m_less b V w1 c1; clear hb9)
              | (go_at_call 114; (with_reducible refine (Q2.out _ E1.out).mono ?_); rintro e w2 ⟨rfl, hb9⟩; have H2 := hidH (H1.out.below hb9); have M2 := hidH ((HM.out.trans (Mv.of (r := V.ownBlock) E1.out HH.out.box.lt HH.out.le) (.inl rfl)).trans (Mv.of (r := V.ownBlock) hb9 H1.out.box.lt HH.out.le) (.inl rfl)); have c2 := H2.out.at0; have z2 := H2.out.box.lt; have ms2 := m_swap b V w2 c2; clear hb9)
              | (go_at_call 115; (with_reducible refine (rswap_any H2.out i d1 (by have h8 := HL.out; have h9 := HD.out; omega) (by have h8 := HL.out; omega)).mono ?_); rintro e w3 ⟨⟨x, rfl⟩, hq3, hm3⟩; have H3 := hidH hq3; have M3 := hidH (M2.out.trans hm3 (.inl rfl)); clear hq3 hm3))
            go_roundg (n - d1)
            case measure => have := HD.out; omega
            case rel => exact ⟨d1, sw ys i d1, rfl, rfl, by omega, by rw [sw_len]; exact HL.out, H3.out, HU.out.down (by rw [HL.out]; exact hnl) (by have := HD.out; omega) (by omega) HLT.out HMN.out, (sw_perm ys (by have h8 := HL.out; have h9 := HD.out; omega) (by have h8 := HL.out; omega)).trans HP.out, fun k hk => (sw_far ys (n := n) (by have := HD.out; omega) (by omega) (by rw [HL.out]; exact hnl) hk).trans (HK.out k hk), M3.out⟩
          · have Q2 : Hid (∀ v, Below wr.heap.size wr v → Calls Try.prog 114 #[V, .int .i64 (d1 : Int), .int .i64 (i : Int)] v fun e w' => e = .returned (.bool false) ∧ Below v.heap.size v w') := fun v hv => by
              have := HLS.out v hv d1 i (by omega) (by have := HD.out; omega)
              rw [show decide (ys[d1]! < ys[i]!) = false from decide_eq_false hlt] at this
              exact this
            have HLT := hidH hlt
            clear hlt
            go_wp2_with (first
              | (go_at_call 114; (with_reducible refine (Q1.out).mono ?_); rintro e w1 ⟨rfl, hb9⟩; have E1 := hidH hb9; have H1 := hidH (HH.out.below hb9); have c1 := H1.out.at0; have z1 := H1.out.box.lt; have ml1 := m_less b V w1 c1; clear hb9)
              | (go_at_call 114; (with_reducible refine (Q2.out _ E1.out).mono ?_); rintro e w2 ⟨rfl, hb9⟩; have H2 := hidH (H1.out.below hb9); have M2 := hidH ((HM.out.trans (Mv.of (r := V.ownBlock) E1.out HH.out.box.lt HH.out.le) (.inl rfl)).trans (Mv.of (r := V.ownBlock) hb9 H1.out.box.lt HH.out.le) (.inl rfl)); have c2 := H2.out.at0; have z2 := H2.out.box.lt; have ms2 := m_swap b V w2 c2; clear hb9))
            go_ret
            exact ⟨⟨_, rfl⟩, ys, H2.out, HU.out.done (fun hk => by have h8 := HMN.out (2 * i + 1) (.inl rfl) hk; have h9 := HLT.out; omega) (fun hk => by have h8 := HMN.out (2 * i + 2) (.inr rfl) hk; have h9 := HLT.out; omega), HP.out, HK.out, M2.out⟩
      · have h2' : ¬ (d2 : Int) < (n : Int) := by omega
        have HMN : Hid (∀ k, (k = 2 * i + 1 ∨ k = 2 * i + 2) → k < n → ys[d1]! ≤ ys[k]!) := by
          intro k hk hkn
          have hd := HD.out
          rcases hk with e | e
          · obtain rfl : k = d1 := by omega
            omega
          · obtain rfl : k = d2 := by omega
            omega
        by_cases hlt : ys[d1]! < ys[i]!
        · have Q2 : Hid (∀ v, Below wr.heap.size wr v → Calls Try.prog 114 #[V, .int .i64 (d1 : Int), .int .i64 (i : Int)] v fun e w' => e = .returned (.bool true) ∧ Below v.heap.size v w') := fun v hv => by
            have := HLS.out v hv d1 i (by omega) (by have := HD.out; omega)
            rw [show decide (ys[d1]! < ys[i]!) = true from decide_eq_true hlt] at this
            exact this
          have HLT := hidH hlt
          clear hlt
          go_wp2_with (first
            | (go_at_call 114; (with_reducible refine (Q2.out _ (Below.refl _ _)).mono ?_); rintro e w2 ⟨rfl, hb9⟩; have H2 := hidH (HH.out.below hb9); have M2 := hidH ((HM.out.trans (Mv.of (r := V.ownBlock) (Below.refl _ _) HH.out.box.lt HH.out.le) (.inl rfl)).trans (Mv.of (r := V.ownBlock) hb9 HH.out.box.lt HH.out.le) (.inl rfl)); have c2 := H2.out.at0; have z2 := H2.out.box.lt; have ms2 := m_swap b V w2 c2; clear hb9)
            | (go_at_call 115; (with_reducible refine (rswap_any H2.out i d1 (by have h8 := HL.out; have h9 := HD.out; omega) (by have h8 := HL.out; omega)).mono ?_); rintro e w3 ⟨⟨x, rfl⟩, hq3, hm3⟩; have H3 := hidH hq3; have M3 := hidH (M2.out.trans hm3 (.inl rfl)); clear hq3 hm3))
          go_roundg (n - d1)
          case measure => have := HD.out; omega
          case rel => exact ⟨d1, sw ys i d1, rfl, rfl, by omega, by rw [sw_len]; exact HL.out, H3.out, HU.out.down (by rw [HL.out]; exact hnl) (by have := HD.out; omega) (by omega) HLT.out HMN.out, (sw_perm ys (by have h8 := HL.out; have h9 := HD.out; omega) (by have h8 := HL.out; omega)).trans HP.out, fun k hk => (sw_far ys (n := n) (by have := HD.out; omega) (by omega) (by rw [HL.out]; exact hnl) hk).trans (HK.out k hk), M3.out⟩
        · have Q2 : Hid (∀ v, Below wr.heap.size wr v → Calls Try.prog 114 #[V, .int .i64 (d1 : Int), .int .i64 (i : Int)] v fun e w' => e = .returned (.bool false) ∧ Below v.heap.size v w') := fun v hv => by
            have := HLS.out v hv d1 i (by omega) (by have := HD.out; omega)
            rw [show decide (ys[d1]! < ys[i]!) = false from decide_eq_false hlt] at this
            exact this
          have HLT := hidH hlt
          clear hlt
          go_wp2_with (first
            | (go_at_call 114; (with_reducible refine (Q2.out _ (Below.refl _ _)).mono ?_); rintro e w2 ⟨rfl, hb9⟩; have H2 := hidH (HH.out.below hb9); have M2 := hidH ((HM.out.trans (Mv.of (r := V.ownBlock) (Below.refl _ _) HH.out.box.lt HH.out.le) (.inl rfl)).trans (Mv.of (r := V.ownBlock) hb9 HH.out.box.lt HH.out.le) (.inl rfl)); have c2 := H2.out.at0; have z2 := H2.out.box.lt; have ms2 := m_swap b V w2 c2; clear hb9))
          go_ret
          exact ⟨⟨_, rfl⟩, ys, H2.out, HU.out.done (fun hk => by have h8 := HMN.out (2 * i + 1) (.inl rfl) hk; have h9 := HLT.out; omega) (fun hk => by have h8 := HMN.out (2 * i + 2) (.inr rfl) hk; have h9 := HLT.out; omega), HP.out, HK.out, M2.out⟩
    · have h1' : ¬ (d1 : Int) < (n : Int) := by omega
      have h1'' : ((n : Int) ≤ (d1 : Int)) = True := by simp; omega
      go_wp2
      go_ret
      exact ⟨⟨_, rfl⟩, ys, HH.out, HU.out.done (fun hk => absurd hk (by have := HD.out; omega)) (fun hk => absurd hk (by have := HD.out; omega)), HP.out, HK.out, HM.out⟩
end Go.Proofs.Ytgijcbipnjmhgab
