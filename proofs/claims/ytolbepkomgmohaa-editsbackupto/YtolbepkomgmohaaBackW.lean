import Derived.Test.YtolbepkomgmohaaBk
import Derived.Test.YtolbepkomgmohaaInvertsW
import Derived.Test.YtolbepkomgmohaaNmA
namespace Go.Proofs.Ytolbepkomgmohaa
open Go.ChangeShapes Go.WideShapes Go.ChangeAt Go.RowKit
set_option linter.unusedVariables false

/-- Invert of a valid list: a row of its own -/
theorem invert_own (tx : ByteArray) (a : Option Addr) (cap : Nat) (xs : List Ed) (w : World) (hx : tx.size ≤ 140737488351232) (h : EdsA w a xs) (hl : xs.length * 32 ≤ 140737488351232) (hF : ∀ e ∈ xs, EdFit e) (hB : tx.size + tots xs ≤ 1048576) (hv : vld tx.size xs = 0) :
    Calls Try.prog 18 #[.string tx, .slice a xs.length cap] w fun e w' => ∃ a' cap', e = .returned (.tuple #[.slice a' (invF tx 0 xs).length cap', .int .i64 0]) ∧ EdsC w' a' cap' (invF tx 0 xs) ∧ Below w.heap.size w w' := by
  rcases h with rfl | ⟨b, o, rfl, h⟩
  · refine (invert_all tx a cap [] w hx (.inl rfl) hl hF hB).mono ?_
    rintro e w' ⟨a', cap', rfl, _, _, hb⟩
    have : invA tx [] = [] := by unfold invA; split <;> rfl
    rw [this, hv]
    exact ⟨a', cap', rfl, .inl rfl, hb⟩
  · refine (invert_any tx b o cap xs w hx h hl hF hv hB).mono ?_
    rintro e w' ⟨v, rfl, hown, hb⟩
    obtain ⟨a', cap', rfl, hE⟩ := own_formC hown
    exact ⟨a', cap', rfl, hE, hb⟩

theorem inv_fit {tx : ByteArray} {xs : List Ed} (hck : chk tx.size 0 xs = 0) (hB : tx.size + tots xs ≤ 1048576) : ∀ e ∈ invF tx 0 xs, EdFit e := by
  have hb := back_chk (tx := tx) (m := 0) (L' := 0) hck (Int.le_refl 0) (by omega) (by omega) (by omega)
  have hk := chk_ok hb
  have hg := grw_le xs fun e he => (chk_ok hck e he).2.1
  have ht := back_tots (tx := tx) 0 (chk_ok hck)
  have hge := grw_ge (a := 0) hck (Int.le_refl _) (by omega)
  intro e he
  have h1 := hk e he
  have h2 := mem_tots he
  unfold EdFit
  omega

theorem id_fit {tx : ByteArray} {xs : List Ed} (hck : chk tx.size 0 xs = 0) (hB : tx.size + tots xs ≤ 1048576) : ∀ e ∈ xs.map (idE tx), EdFit e := by
  intro e he
  obtain ⟨x, hx, rfl⟩ := List.mem_map.1 he
  have h1 := chk_ok hck x hx
  have h2 : (tx.extract x.f.toNat x.t.toNat).size ≤ tx.size := by simp; omega
  unfold EdFit idE
  simp only
  omega

set_option maxRecDepth 1000000 in
set_option maxHeartbeats 2000000 in
theorem editsBack_walk (tx : ByteArray) (a : Option Addr) (cap : Nat) (xs : List Ed) (w : World) (hx : tx.size ≤ 140737488351232) (h : EdsA w a xs) (hF : ∀ e ∈ xs, EdFit e) (hn : a = none → xs.length = 0 ∧ cap = 0) (hl : xs.length * 32 ≤ 140737488351232) (hC : xs.length ≤ cap) (hB : tx.size + (4 * xs.length + tot xs) ≤ 1048576) :
    Calls Try.prog 6 #[.string tx, .slice a xs.length cap] w fun e w' => e = .returned (.bool true) ∧ Below w.heap.size w w' := by
  have H : Hid (EdsA w a xs) := h
  have HF : Hid (∀ e ∈ xs, EdFit e) := hF
  have HL : Hid (xs.length ≤ maxLen) := by unfold Hid maxLen; omega
  have hB1 : tx.size + tots xs ≤ 1048576 := by rw [tots_tot]; omega
  have hB2 : tx.size + tots xs ≤ 70368744177664 := by omega
  have HC : Hid (EdsC w a cap xs) := h.room hC
  have h62 : Hid (val62 tx.size xs = vld tx.size xs) := by unfold Hid val62; rw [if_pos (by omega)]
  clear h hn
  by_cases hv : vld tx.size xs = 0
  · obtain ⟨hck, hlen⟩ := vld_chk hv
    have hK := chk_ok hck
    have hgl := grw_le xs fun e he => (hK e he).2.1
    have hge := grw_ge (a := 0) hck (Int.le_refl _) (by omega)
    obtain ⟨hal, _⟩ := app_bound hck
    obtain ⟨R, hR⟩ : ∃ R : ByteArray, R = ⟨(appF tx.data.toList 0 xs).toArray⟩ := ⟨_, rfl⟩
    have hRl : R.data.toList = appF tx.data.toList 0 xs := by rw [hR]
    have hRs : (R.size : Int) = tx.size + grw xs := by rw [← bytes_len, hRl]; exact hal
    have hApp : appB tx xs = R := by unfold appB; rw [if_pos hv, hR]
    obtain ⟨bk, hbk⟩ : ∃ bk, invF tx 0 xs = bk := ⟨_, rfl⟩
    have hbkl : bk.length = xs.length := by rw [← hbk, inv_len]
    have hbck : chk R.size 0 bk = 0 := by
      have := back_chk (tx := tx) (m := 0) (L' := 0) hck (Int.le_refl 0) (by omega) (by omega) (by omega)
      rw [hbk, Int.add_zero] at this
      rw [hRs]; exact this
    have hbv : vld R.size bk = 0 := by unfold vld; rw [if_neg (by omega)]; exact hbck
    have hbT := back_tots (tx := tx) 0 hK
    rw [hbk] at hbT
    have hRB : R.size + tots bk ≤ 1048576 := by omega
    have hbF : ∀ e ∈ bk, EdFit e := by rw [← hbk]; exact inv_fit hck hB1
    have hback : appB R bk = tx := by
      unfold appB; rw [if_pos hbv]
      apply bytes_ext
      show appF R.data.toList 0 bk = tx.data.toList
      rw [← hbk]
      have := back_app (tx := tx) (S := R.data.toList) (P := []) (m := 0) (a := 0) (n := 0) hck (Int.le_refl 0) (Nat.zero_le _) rfl rfl (by rw [hRl]; rfl)
      simpa using this
    have hagain : invF R 0 bk = xs := by
      rw [← hbk]
      have := back_inv (tx := tx) (S := R) (P := []) (m := 0) (a := 0) (n := 0) hck (Int.le_refl 0) (Nat.zero_le _) rfl rfl (by rw [hRl]; rfl)
      simpa using this
    have hgr : gr (xs.length + bk.length) (lay 0 xs) xs bk 0 = xs.map (idE tx) := by
      rw [← hbk]; exact gr_back _ 0 hck (by omega)
    have hval : val62 tx.size xs = 0 := h62.out.trans hv
    have hbv2 : vld (tx.size + grw xs) bk = 0 := by rw [← hRs]; exact hbv
    have hcE : cmpE tx.size xs bk = 0 := by
      unfold cmpE; rw [if_pos hval, if_pos hbv2, hgr, if_pos (by rw [List.length_map]; exact hlen)]
    have hcL : cmpL tx.size xs bk = xs.map (idE tx) := by
      unfold cmpL; rw [hgr, if_pos ⟨hval, hbv2, by rw [List.length_map]; exact hlen⟩]
    obtain ⟨no, hno⟩ : ∃ no, xs.map (idE tx) = no := ⟨_, rfl⟩
    rw [hno] at hcL
    have hnol : no.length = xs.length := by rw [← hno, List.length_map]
    have hnov : vld tx.size no = 0 := by unfold vld; rw [if_neg (by omega), ← hno, id_chk]; exact hck
    have hnoF : ∀ e ∈ no, EdFit e := by rw [← hno]; exact id_fit hck hB1
    have hnoN : nrmA tx no = [] := by unfold nrmA; rw [if_pos hnov, ← hno]; exact nrm_id hK
    have HV : Hid (vld tx.size xs = 0) := hv
    have HV62 : Hid (val62 tx.size xs = 0) := hval
    have HApp : Hid (appB tx xs = R) := hApp
    have HBV : Hid (vld R.size bk = 0) := hbv
    have HBK : Hid (invF tx 0 xs = bk) := hbk
    have HBL : Hid (bk.length = xs.length) := hbkl
    have HBF : Hid (∀ e ∈ bk, EdFit e) := hbF
    have HBA : Hid (appB R bk = tx) := hback
    have HAG : Hid (invF R 0 bk = xs) := hagain
    have HCE : Hid (cmpE tx.size xs bk = 0) := hcE
    have HCL : Hid (cmpL tx.size xs bk = no) := hcL
    have HNL : Hid (no.length = xs.length) := hnol
    have HNV : Hid (vld tx.size no = 0) := hnov
    have HNF : Hid (∀ e ∈ no, EdFit e) := hnoF
    have HNN : Hid (nrmA tx no = []) := hnoN
    have hRx : R.size ≤ 140737488351232 := by omega
    have hTb : tots bk ≤ 1048576 := by omega
    have hTa : tots xs ≤ 1048576 := by omega
    clear hv hck hK hgl hge hal hR hRl hRs hApp hbk hbkl hbck hbv hbT hbF hback hagain hgr hval hbv2 hcE hcL hno hnol hnov hnoF hnoN hF hB
    go_enter Try.func6, Try.ntmps6
    go_wp2_with fail
    refine (apply_all tx a cap xs _ hx H.out HL.out HF.out hB2).mono ?_
    rintro e w1 ⟨rfl, hb1⟩
    rw [HV.out, HApp.out]
    have HB1 : Hid (Below w.heap.size w w1) := hb1
    clear hb1
    go_wp2_with fail
    refine (invert_own tx a cap xs _ hx (H.out.below HB1.out) hl HF.out hB1 HV.out).mono ?_
    rintro e w2 ⟨a2, cap2, rfl, hE2, hb2⟩
    rw [HBK.out]
    rw [HBK.out] at hE2
    have HB2 : Hid (Below w.heap.size w w2) := HB1.out.trans (hb2.mono HB1.out.size)
    have HE2 : Hid (EdsC w2 a2 cap2 bk) := hE2
    clear hE2 hb2
    go_wp2_with fail
    refine (valid_all tx.size a cap xs _ (by omega) (by omega) (H.out.below HB2.out) HL.out).mono ?_
    rintro e w3 ⟨rfl, hb3⟩
    rw [HV62.out]
    have HB3 : Hid (Below w.heap.size w w3) := HB2.out.trans (hb3.mono HB2.out.size)
    have HE3 : Hid (EdsC w3 a2 cap2 bk) := HE2.out.below hb3
    clear hb3
    go_wp2_with fail
    refine (apply_all R a2 cap2 bk _ hRx HE3.out.all (by rw [HBL.out]; exact HL.out) HBF.out (by omega)).mono ?_
    rintro e w4 ⟨rfl, hb4⟩
    rw [HBV.out, HBA.out]
    have HB4 : Hid (Below w.heap.size w w4) := HB3.out.trans (hb4.mono HB3.out.size)
    have HE4 : Hid (EdsC w4 a2 cap2 bk) := HE3.out.below hb4
    clear hb4
    go_wp2_with fail
    refine (invert_own R a2 cap2 bk _ hRx HE4.out.all (by rw [HBL.out]; exact hl) HBF.out hRB HBV.out).mono ?_
    rintro e w5 ⟨a5, cap5, rfl, hE5, hb5⟩
    rw [HAG.out]
    rw [HAG.out] at hE5
    have HB5 : Hid (Below w.heap.size w w5) := HB4.out.trans (hb5.mono HB4.out.size)
    have HBK5 : Hid (EdsC w5 a2 cap2 bk) := HE4.out.below hb5
    have HX5 : Hid (EdsC w5 a5 cap5 xs) := hE5
    clear hE5 hb5
    have g1 : (tx.toList == tx.toList) = true := by simp
    go_wp2_with fail
    refine (same_any a5 a cap5 cap xs _ HX5.out.all (H.out.below HB5.out) HL.out).mono ?_
    rintro e w6 ⟨rfl, hb6⟩
    have HB6 : Hid (Below w.heap.size w w6) := HB5.out.trans (hb6.mono HB5.out.size)
    have HBK6 : Hid (EdsC w6 a2 cap2 bk) := HBK5.out.below hb6
    clear hb6
    go_wp2_with fail
    refine (compose_any tx.size a a2 cap cap2 xs bk _ (by omega) (by omega) (HC.out.below HB6.out) HBK6.out HL.out (by rw [HBL.out]; exact HL.out) HF.out hTa hTb).mono ?_
    rintro e w7 ⟨v7, rfl, hown7, hb7⟩
    rw [HCE.out]
    rw [HCL.out] at hown7
    obtain ⟨a7, c7, rfl, hE7⟩ := own_formC hown7
    have HB7 : Hid (Below w.heap.size w w7) := HB6.out.trans (hb7.mono HB6.out.size)
    have hnc := normal_all tx a7 c7 no w7 hx hE7.all (by rw [HNL.out]; exact hl) HNF.out
    rw [HNL.out, HNV.out, HNN.out] at hnc
    rw [HNL.out]
    have HNC : Hid _ := hnc
    clear hown7 hb7 hnc hE7
    go_wp2_with fail
    have hnc2 := HNC.out
    refine Calls.mono hnc2 ?_
    rintro e w8 ⟨a8, c8, rfl, _, _, hb8⟩
    have HB8 : Hid (Below w.heap.size w w8) := HB7.out.trans (hb8.mono HB7.out.size)
    rw [List.length_nil]
    go_wp2
    go_ret
    exact ⟨rfl, HB8.out⟩
  · have hA : appB tx xs = ⟨#[]⟩ := by unfold appB; rw [if_neg hv]
    have hI : invA tx xs = [] := by unfold invA; rw [if_neg hv]
    have HA : Hid (appB tx xs = ⟨#[]⟩) := hA
    have HI : Hid (invA tx xs = []) := hI
    obtain ⟨va, hva⟩ : ∃ va, vld tx.size xs = va := ⟨_, rfl⟩
    have HVA : Hid (vld tx.size xs = va) := hva
    have hne : (va == 0) = false := by rw [beq_eq_false_iff_ne]; rw [← hva]; exact hv
    have heq : (va == va) = true := by simp
    clear hv hA hI hva hB
    go_enter Try.func6, Try.ntmps6
    go_wp2_with fail
    refine (apply_all tx a cap xs _ hx H.out HL.out HF.out hB2).mono ?_
    rintro e w1 ⟨rfl, hb1⟩
    rw [HVA.out, HA.out]
    have HB1 : Hid (Below w.heap.size w w1) := hb1
    clear hb1
    go_wp2_with fail
    refine (invert_all tx a cap xs _ hx (H.out.below HB1.out) hl HF.out hB1).mono ?_
    rintro e w2 ⟨a2, cap2, rfl, _, _, hb2⟩
    rw [HI.out, HVA.out, List.length_nil]
    have HB2 : Hid (Below w.heap.size w w2) := HB1.out.trans (hb2.mono HB1.out.size)
    clear hb2
    go_wp2_with fail
    refine (valid_all tx.size a cap xs _ (by omega) (by omega) (H.out.below HB2.out) HL.out).mono ?_
    rintro e w3 ⟨rfl, hb3⟩
    rw [h62.out, HVA.out]
    have HB3 : Hid (Below w.heap.size w w3) := HB2.out.trans (hb3.mono HB2.out.size)
    clear hb3
    go_wp2
    go_ret
    exact ⟨rfl, HB3.out⟩
end Go.Proofs.Ytolbepkomgmohaa
