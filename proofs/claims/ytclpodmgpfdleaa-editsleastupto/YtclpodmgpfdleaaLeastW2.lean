import Derived.Test.YtclpodmgpfdleaaLeastW
namespace Go.Proofs.Ytclpodmgpfdleaa
open Go.ChangeShapes Go.WideShapes Go.ChangeAt Go.RowKit
set_option linter.unusedVariables false

set_option maxRecDepth 1000000 in
set_option maxHeartbeats 2000000 in
theorem editsLeast_walk (tx : ByteArray) (a : Option Addr) (cap : Nat) (xs : List Ed) (w : World) (hx : tx.size ≤ 140737488351232) (h : EdsA w a xs) (hF : ∀ e ∈ xs, EdFit e) (hn : a = none → xs.length = 0 ∧ cap = 0) (hl : xs.length * 32 ≤ 140737488351232) (hB : tx.size + (4 * xs.length + tot xs) ≤ 1048576) :
    Calls Try.prog 6 #[.string tx, .slice a xs.length cap] w fun e w' => e = .returned (.bool true) ∧ Below w.heap.size w w' := by
  have H : Hid (EdsA w a xs) := h
  have HF : Hid (∀ e ∈ xs, EdFit e) := hF
  have HL : Hid (xs.length ≤ maxLen) := by unfold Hid maxLen; omega
  have hB2 : tx.size + tots xs ≤ 70368744177664 := by rw [tots_tot]; omega
  clear h hn
  by_cases hv : vld tx.size xs = 0
  · have hck := (vld_chk hv).1
    have hK := chk_ok hck
    obtain ⟨Nn, hNn⟩ : ∃ Nn, nrm tx xs = Nn := ⟨_, rfl⟩
    have hN1 : nrmA tx xs = Nn := by unfold nrmA; rw [if_pos hv, hNn]
    have hlen : Nn.length ≤ xs.length := by have := nrmA_len tx xs; rw [hN1] at this; exact this
    have hFN : ∀ e ∈ Nn, EdFit e := by rw [← hNn]; exact nrm_fit hx hK hF
    have hST : ∀ e ∈ Nn, Stb tx e ∧ keepB e = true := by rw [← hNn]; exact nrm_stb hK
    have hckN : chk tx.size 0 Nn = 0 := by rw [← hNn]; exact nrm_chk hck
    have hvN : vld tx.size Nn = 0 := by unfold vld; rw [if_neg (by have := (vld_chk hv).2; omega)]; exact hckN
    have hN2 : nrmA tx Nn = Nn := by unfold nrmA; rw [if_pos hvN]; exact nrm_again hST
    have happ : appB tx Nn = appB tx xs := by
      unfold appB; rw [if_pos hv, if_pos hvN, ← hNn, nrm_app hck (by omega) (Nat.zero_le _)]
    have hnil : Nn.length = 0 → appB tx xs = tx := by
      intro h0
      rw [← happ, List.eq_nil_of_length_eq_zero h0]
      unfold appB
      rw [if_pos (by rfl)]
      apply bytes_ext; simp [appF]
    have htN : tx.size + tots Nn ≤ 70368744177664 := by have := nrm_tots hK; rw [hNn] at this; omega
    obtain ⟨R, hR⟩ : ∃ R, appB tx xs = R := ⟨_, rfl⟩
    have HV : Hid (vld tx.size xs = 0) := hv
    have HVN : Hid (vld tx.size Nn = 0) := hvN
    have HN1 : Hid (nrmA tx xs = Nn) := hN1
    have HN2 : Hid (nrmA tx Nn = Nn) := hN2
    have HR1 : Hid (appB tx xs = R) := hR
    have HR2 : Hid (appB tx Nn = R) := happ.trans hR
    have HFN : Hid (∀ e ∈ Nn, EdFit e) := hFN
    have HST : Hid (∀ e ∈ Nn, Stb tx e ∧ keepB e = true) := hST
    have HNIL : Hid (Nn.length = 0 → R = tx) := fun h0 => hR ▸ hnil h0
    clear hv hck hK hNn hN1 hFN hST hckN hvN hN2 happ hnil hF hR hB
    go_enter Try.func6, Try.ntmps6
    go_wp2_with fail
    refine (normal_all tx a cap xs _ hx H.out hl HF.out).mono ?_
    rintro e w1 ⟨a1, cap1, rfl, hE1, _, hb1⟩
    rw [HV.out, HN1.out]
    rw [HN1.out] at hE1
    have HE1 : Hid (EdsA w1 a1 Nn) := hE1
    clear hE1
    go_wp2_with fail
    refine (apply_all tx a cap xs _ hx (H.out.below hb1) HL.out HF.out hB2).mono ?_
    rintro e w2 ⟨rfl, hb2⟩
    rw [HV.out, HR1.out]
    go_wp2_with fail
    refine (apply_all tx a1 cap1 Nn _ hx (HE1.out.below hb2) (by unfold maxLen; omega) HFN.out htN).mono ?_
    rintro e w3 ⟨rfl, hb3⟩
    rw [HVN.out, HR2.out]
    go_wp2_with fail
    refine (normal_all tx a1 cap1 Nn _ hx ((HE1.out.below hb2).below hb3) (by omega) HFN.out).mono ?_
    rintro e w4 ⟨a4, cap4, rfl, hE4, _, hb4⟩
    rw [HVN.out, HN2.out]
    rw [HN2.out] at hE4
    have HE4 : Hid (EdsA w4 a4 Nn) := hE4
    clear hE4
    have g1 : (R.toList == R.toList) = true := by simp
    have g2 : decide ((xs.length : Int) < (Nn.length : Int)) = false := by simp; omega
    have g3 : decide (xs.length < Nn.length) = false := by simp; omega
    go_wp2_with fail
    refine (same_any a4 a1 cap4 cap1 Nn _ HE4.out (((HE1.out.below hb2).below hb3).below hb4) (by unfold maxLen; omega)).mono ?_
    rintro e w5 ⟨rfl, hb5⟩
    have s2 : w.heap.size ≤ w2.heap.size := Nat.le_trans hb1.size hb2.size
    have s3 : w.heap.size ≤ w3.heap.size := Nat.le_trans s2 hb3.size
    have s4 : w.heap.size ≤ w4.heap.size := Nat.le_trans s3 hb4.size
    have hbel : Below w.heap.size w w5 := (((hb1.trans (hb2.mono hb1.size)).trans (hb3.mono s2)).trans (hb4.mono s3)).trans (hb5.mono s4)
    have hE5 := (((HE1.out.below hb2).below hb3).below hb4).below hb5
    have HBL : Hid (Below w.heap.size w w5) := hbel
    clear hb1 hb2 hb3 hb4 hb5 s2 s3 s4 hbel HE1 HE4
    rcases hE5 with rfl | ⟨b, o, rfl, hE5⟩
    · have hRt : R = tx := HNIL.out rfl
      subst hRt
      rw [List.length_nil] at *
      go_wp2
      refine wp_loop_rounds 1 ?_
      rw [rounds_succ]
      go_wp2
      go_ret
      exact ⟨rfl, HBL.out⟩
    · by_cases h0 : Nn.length = 0
      · have hRt : R = tx := HNIL.out h0
        have hNe : Nn = [] := List.eq_nil_of_length_eq_zero h0
        subst hRt hNe
        rw [List.length_nil] at *
        go_wp2
        refine wp_loop_rounds 1 ?_
        rw [rounds_succ]
        go_wp2
        go_ret
        exact ⟨rfl, HBL.out⟩
      · have hnz : ((Nn.length : Int) == 0) = false := by simp; intro h; subst h; simp at h0
        have HX : Hid (Eds w5 b o Nn) := hE5
        have hbw : b < w5.heap.size := hE5.1
        have hlN : Nn.length ≤ 4398046510976 := by omega
        clear hE5 h0
        go_wp2
        go_loopg [91] Nn.length (fun gk i wr => ∃ k : Nat, gk = Nn.length - k ∧ k ≤ Nn.length ∧ i = .int .i64 k ∧ Below w5.heap.size w5 wr)
        case atStart => exact ⟨0, by omega, Nat.zero_le _, rfl, Below.refl _ _⟩
        case round =>
          obtain ⟨k, rfl, hk, rfl, hbel⟩ := hrel
          have hsz := hbel.size
          by_cases hlt : k < Nn.length
          · obtain ⟨e, he⟩ : ∃ e, Nn[k]? = some e := ⟨_, List.getElem?_eq_getElem hlt⟩
            obtain ⟨c0, c1, c2⟩ := HX.out.cells hbel he
            have hmem : e ∈ Nn := List.mem_of_getElem? he
            have q4 := (HFN.out e hmem).2.2.2.2
            obtain ⟨hst, hkb⟩ := HST.out e hmem
            have hst2 := hst
            obtain ⟨f, t, hee, hft, ht, _⟩ := hst2
            generalize e.s = s at *
            subst hee
            simp only at c0 c1 c2 q4
            obtain ⟨old, hold⟩ : ∃ old, tx.extract f t = old := ⟨_, rfl⟩
            obtain ⟨k1, k2⟩ := stb_facts hft ht hold hst hkb
            have hos : old.size ≤ 140737488351232 := by rw [← hold, ext_size hft ht]; omega
            have hft' : (f : Int) ≤ (t : Int) := by omega
            have ht' : (t : Int) ≤ (tx.size : Int) := by omega
            have HK2 := k2
            clear he hmem hst hkb k2
            have e1 : 0 < old.size → IntKind.i64.wrap ((old.size : Int) - 1) = ((old.size - 1 : Nat) : Int) := fun hm => by rw [IntWalk.i64_in _ ⟨by omega, by omega⟩]; omega
            have e2 : 0 < s.size → IntKind.i64.wrap ((s.size : Int) - 1) = ((s.size - 1 : Nat) : Int) := fun hm => by rw [IntWalk.i64_in _ ⟨by omega, by omega⟩]; omega
            have HE1 : Hid (0 < old.size → IntKind.i64.wrap ((old.size : Int) - 1) = ((old.size - 1 : Nat) : Int)) := e1
            have HE2 : Hid (0 < s.size → IntKind.i64.wrap ((s.size : Int) - 1) = ((s.size - 1 : Nat) : Int)) := e2
            have HKK : Hid _ := HK2
            clear HK2 e1 e2
            go_upto_region 15 with fail
            go_cut [136] (fun sl wc => sl = .bool false ∧ Below w5.heap.size w5 wc)
            case first =>
              rcases HKK.out with j1 | ⟨j1, j2⟩ | ⟨j1, j2, j3, j4, j5, j6, j7, j8⟩
              · go_quiet (fail)
                go_wp2_with fail
                go_meet
                exact ⟨rfl, below_drewN (by go_grown) _⟩
              · go_quiet (fail)
                go_wp2_with fail
                go_meet
                exact ⟨rfl, below_drewN (by go_grown) _⟩
              · have e3 := HE1.out j3
                have e4 := HE2.out j4
                go_quiet (fail)
                go_wp2_with fail
                go_meet
                exact ⟨rfl, below_drewN (by go_grown) _⟩
            case rest =>
              obtain ⟨rfl, hbc⟩ := hcut
              go_wp2
              go_roundg (Nn.length - (k + 1))
              case measure => omega
              case rel => exact ⟨k + 1, rfl, by omega, by go_num, hbc⟩
          · go_wp2
            go_ret
            exact ⟨rfl, HBL.out.trans (hbel.mono HBL.out.size)⟩
  · have hN : nrmA tx xs = [] := by unfold nrmA; rw [if_neg hv]
    have HN : Hid (nrmA tx xs = []) := hN
    have HV : Hid (val62 tx.size xs = vld tx.size xs) := by unfold Hid val62; rw [if_pos (by omega)]
    have HW : Hid ((vld tx.size xs != 0) = true) := by unfold Hid; simpa using hv
    clear hv hN hF hB
    go_enter Try.func6, Try.ntmps6
    go_wp2_with fail
    refine (normal_all tx a cap xs _ hx H.out hl HF.out).mono ?_
    rintro e w1 ⟨a1, cap1, rfl, hE1, _, hb1⟩
    rw [HN.out, List.length_nil]
    have hne := HW.out
    go_wp2_with fail
    refine (valid_all tx.size a cap xs _ (by omega) (by omega) (H.out.below hb1) HL.out).mono ?_
    rintro e w2 ⟨rfl, hb2⟩
    rw [HV.out]
    have heq : (vld tx.size xs == vld tx.size xs) = true := by simp
    go_wp2
    go_ret
    exact ⟨rfl, hb1.trans (hb2.mono hb1.size)⟩
end Go.Proofs.Ytclpodmgpfdleaa
