import Derived.Test.YteafgddfcohclabSa3
namespace Go.Proofs.Yteafgddfcohclab
open Go.ChangeShapes Go.WideShapes Go.ChangeAt Go.RowKit
set_option linter.unusedVariables false

set_option maxRecDepth 1000000 in
set_option maxHeartbeats 1000000 in
theorem rsame_any (a1 a2 a3 a4 : Option Addr) (c1 c2 c3 c4 : Nat) (ts us : List Tk) (ns ms : List Nd) (w : World) (h1 : LiesA w a1 ts) (h2 : LiesA w a2 ns) (h3 : LiesA w a3 us) (h4 : LiesA w a4 ms)
    (hl1 : ts.length * 24 ≤ 140737488351232) (hl2 : ns.length * 32 ≤ 140737488351232) (hl3 : us.length * 24 ≤ 140737488351232) (hl4 : ms.length * 32 ≤ 140737488351232)
    (hf1 : ∀ e ∈ ts, TkFit e) (hf2 : ∀ e ∈ ns, NdFit e) (hf3 : ∀ e ∈ us, TkFit e) (hf4 : ∀ e ∈ ms, NdFit e) :
    Calls Try.prog 14 #[.slice a1 ts.length c1, .agg #[.slice a2 ns.length c2], .slice a3 us.length c3, .agg #[.slice a4 ms.length c4]] w fun e w' => e = .returned (.bool (samB ts us ns ms)) ∧ Below w.heap.size w w' := by
  have H1 : Hid (LiesA w a1 ts) := h1
  have H2 : Hid (LiesA w a2 ns) := h2
  have H3 : Hid (LiesA w a3 us) := h3
  have H4 : Hid (LiesA w a4 ms) := h4
  have HF1 : Hid (∀ e ∈ ts, TkFit e) := hf1
  have HF2 : Hid (∀ e ∈ ns, NdFit e) := hf2
  have HF3 : Hid (∀ e ∈ us, TkFit e) := hf3
  have HF4 : Hid (∀ e ∈ ms, NdFit e) := hf4
  clear h1 h2 h3 h4 hf1 hf2 hf3 hf4
  by_cases hlen : ns.length = ms.length
  · have HL : Hid (ns.length = ms.length) := hlen
    rw [← hlen]
    obtain ⟨w2, e2, hw, hs2, B0, C0⟩ := bx2 w #[.slice a2 ns.length c2] #[.slice a4 ns.length c4] 25 25
    have HB0 : Hid (Below w.heap.size w w2) := hw
    have HX0 : Hid (Bx w2 w.heap.size #[.slice a2 ns.length c2] 25) := B0
    have HC0 : Hid (Bx w2 (w.heap.size + 1) #[.slice a4 ns.length c4] 25) := C0
    have HE2 : Hid ((w.alloc (.cells #[.slice a2 ns.length c2] 25)).alloc (.cells #[.slice a4 ns.length c4] 25) = w2) := e2
    have HS2 : Hid (w2.heap.size = w.heap.size + 2) := hs2
    have x0 := B0.one
    have x1 := C0.one
    clear hlen hw hs2 B0 C0 e2
    go_enter Try.func14, Try.ntmps14
    go_upto_region 1 with fail
    rw [HE2.out]
    clear HE2
    go_wp2
    have HLO : Hid (Below w2.heap.size w2 w2) := Below.refl _ _
    go_loopw [9] (fun i wr => ∃ k : Nat, k ≤ ns.length ∧ i = .int .i64 k ∧ Below w2.heap.size w2 wr ∧ ∀ j x y, j < k → ns[j]? = some x → ms[j]? = some y → eqN ts us x y = true) (fun i _ => ns.length - (intOf i).toNat)
    case atStart => exact ⟨0, Nat.zero_le _, rfl, HLO.out, fun j x y h => absurd h (Nat.not_lt_zero _)⟩
    case round =>
      obtain ⟨wo, rfl⟩ : ∃ wo, wo = wr := ⟨_, rfl⟩
      obtain ⟨k, hk, rfl, hbel, hall⟩ := hrel
      have HBR : Hid (Below w2.heap.size w2 wo) := hbel
      have HA : Hid (∀ j x y, j < k → ns[j]? = some x → ms[j]? = some y → eqN ts us x y = true) := hall
      have HWR : Hid (Below w.heap.size w wo) := HB0.out.trans (hbel.mono HB0.out.size)
      have HTO : Hid (Bx wo w.heap.size #[.slice a2 ns.length c2] 25) := HX0.out.below HBR.out (by have := HS2.out; omega)
      have HUO : Hid (Bx wo (w.heap.size + 1) #[.slice a4 ns.length c4] 25) := HC0.out.below HBR.out (by have := HS2.out; omega)
      have z0 := HTO.out.one
      have z1 := HUO.out.one
      clear hbel hall x0 x1
      by_cases hlt : k < ns.length
      · obtain ⟨x, hx⟩ : ∃ e, ns[k]? = some e := ⟨_, List.getElem?_eq_getElem hlt⟩
        obtain ⟨y, hy⟩ : ∃ e, ms[k]? = some e := ⟨_, List.getElem?_eq_getElem (by have := HL.out; omega)⟩
        have HX : Hid (ns[k]? = some x) := hx
        have HY : Hid (ms[k]? = some y) := hy
        have HFX : Hid (NdFit x) := HF2.out x (List.mem_of_getElem? hx)
        have HFY : Hid (NdFit y) := HF4.out y (List.mem_of_getElem? hy)
        rcases H2.out with h0 | ⟨b2, o2, rfl, hL2⟩
        · rw [h0] at hlt; simp at hlt
        rcases H4.out with h0 | ⟨b4, o4, rfl, hL4⟩
        · have h5 := HL.out; rw [h0] at h5; rw [h5] at hlt; simp at hlt
        have HL2 : Hid (Lies w b2 o2 ns) := hL2
        have HL4 : Hid (Lies w b4 o4 ms) := hL4
        have hlt' : (k : Int) < (ns.length : Int) := by omega
        go_upto_region 6 with fail
        obtain ⟨X, F, hX, hF, onto⟩ := class_of (fun v => Below wo.heap.size wo v) (Below.refl _ wo)
        have HF : Hid (∀ y, Below wo.heap.size wo (F y)) := hF
        have HO : Hid (∀ v, Below wo.heap.size wo v → ∃ x, v = F x) := fun v h => by obtain ⟨x, hx⟩ := onto v h; exact ⟨x, hx.symm⟩
        have hWF : ∀ v, Below w.heap.size w (F v) := fun v => HWR.out.trans ((hF v).mono HWR.out.size)
        have f0 : ∀ v, (F v).cell? ⟨w.heap.size, 0, none⟩ = some (.slice (some ⟨b2, o2, none⟩) ns.length c2) := fun v => (HTO.out.below (hF v) HTO.out.lt).cell 0
        have f1 : ∀ v, (F v).cell? ⟨w.heap.size + 1, 0, none⟩ = some (.slice (some ⟨b4, o4, none⟩) ns.length c4) := fun v => (HUO.out.below (hF v) HUO.out.lt).cell 0
        have f2 := fun v => (hL2.nd (hWF v) hx).1
        have f3 := fun v => (hL2.nd (hWF v) hx).2.2.2
        have f4 := fun v => (hL4.nd (hWF v) hy).1
        have f5 := fun v => (hL4.nd (hWF v) hy).2.2.2
        clear hF onto hWF z0 z1 hL2 hL4 hx hy
        by_cases e1 : x.k = y.k
        · by_cases e2 : x.s = y.s
          · have e1' : (x.k != y.k) = false := by simp [e1]
            have e2' : (x.s != y.s) = false := by simp [e2]
            have HE1 : Hid (x.k = y.k) := e1
            have HE2 : Hid (x.s = y.s) := e2
            refine region_class F (by kernel_rfl) (by kernel_rfl) (by obtain ⟨x, hx⟩ := HO.out _ (Below.refl _ _).drew; exact ⟨x, hx.symm⟩) ?_
            repeat (go_big_quiet_step (fail))
            refine wpQuiet_nil ?_
            rintro _ ⟨nq, rfl⟩
            have HW5 : Hid (Below wo.heap.size wo (F nq)) := HF.out nq
            generalize F nq = w5 at *
            clear f0 f1 f2 f3 f4 f5 e1 e2 e1' e2' HF HO
            have HV5 : Hid (Below w.heap.size w w5) := HWR.out.trans (HW5.out.mono HWR.out.size)
            have HR5 : Hid (Below w2.heap.size w2 w5) := HBR.out.trans (HW5.out.mono HBR.out.size)
            have z0 := (HTO.out.below HW5.out HTO.out.lt).one
            obtain ⟨d0, d1, d2, d3⟩ := HL2.out.nd HV5.out HX.out
            go_upto_region 9 with (first
              | (go_at_call 29; (with_reducible refine (tokens_any x a1 c1 ts _ (H1.out.below HV5.out) hl1 HFX.out).mono ?_); rintro e w6 ⟨v6, rfl, o6, hb6⟩; have HB6 : Hid (Below w5.heap.size w5 w6) := hb6; have O6 : Hid (w6.ownsRow w5.heap.size 3 1 v6 (tko ts x).length (flat (tko ts x))) := o6; clear hb6 o6)
              | fail)
            clear z0 d0 d1 d2 d3
            have HV6 : Hid (Below w.heap.size w w6) := HV5.out.trans (HB6.out.mono HV5.out.size)
            have HR6 : Hid (Below w2.heap.size w2 w6) := HR5.out.trans (HB6.out.mono HR5.out.size)
            have z1 := (HUO.out.below (HW5.out.trans (HB6.out.mono HW5.out.size)) HUO.out.lt).one
            obtain ⟨d0, d1, d2, d3⟩ := HL4.out.nd HV6.out HY.out
            obtain ⟨a6, c6, rfl, q6, _, _⟩ := own_form O6.out
            have Q6 : Hid (LiesA w6 a6 (tko ts x)) := q6
            clear q6 O6
            go_upto_region 10 with (first
              | (go_at_call 29; (with_reducible refine (tokens_any y a3 c3 us _ (H3.out.below HV6.out) hl3 HFY.out).mono ?_); rintro e w7 ⟨v7, rfl, o7, hb7⟩; have HB7 : Hid (Below w6.heap.size w6 w7) := hb7; have O7 : Hid (w7.ownsRow w6.heap.size 3 1 v7 (tko us y).length (flat (tko us y))) := o7; clear hb7 o7)
              | fail)
            clear z1 d0 d1 d2 d3
            have HV7 : Hid (Below w.heap.size w w7) := HV6.out.trans (HB7.out.mono HV6.out.size)
            have HR7 : Hid (Below w2.heap.size w2 w7) := HR6.out.trans (HB7.out.mono HR6.out.size)
            obtain ⟨a7, c7, rfl, q7, _, _⟩ := own_form O7.out
            have Q7 : Hid (LiesA w7 a7 (tko us y)) := q7
            have Q67 : Hid (LiesA w7 a6 (tko ts x)) := Q6.out.below HB7.out
            clear q7 O7 Q6
            have hkx := tko_len ts x
            have hky := tko_len us y
            by_cases e4 : (tko us y).length = (tko ts x).length
            · have HE4 : Hid ((tko us y).length = (tko ts x).length) := e4
              obtain ⟨N, hN⟩ : ∃ N, (tko ts x).length = N := ⟨_, rfl⟩
              have HN : Hid ((tko ts x).length = N) := hN
              rw [e4, hN]
              rw [hN] at hkx
              clear e4 hN hky
              go_upto_region 13 with fail
              have HLO7 : Hid (Below w7.heap.size w7 w7) := Below.refl _ _
              go_loopw [12] (fun i wr => ∃ j : Nat, j ≤ N ∧ i = .int .i64 j ∧ Below w7.heap.size w7 wr ∧ ∀ t m n p q, t < j → (tko ts x)[t]? = some ((m : Nat) : Int) → (tko us y)[t]? = some ((n : Nat) : Int) → ts[m]? = some p → us[n]? = some q → p.k = q.k) (fun i _ => N - (intOf i).toNat)
              case atStart => exact ⟨0, Nat.zero_le _, rfl, HLO7.out, fun t m n p q h => absurd h (Nat.not_lt_zero _)⟩
              case round =>
                obtain ⟨j, hj, rfl, hbel, hall⟩ := hrel
                have HBI : Hid (Below w7.heap.size w7 wr) := hbel
                have HAI : Hid (∀ t m n p q, t < j → (tko ts x)[t]? = some ((m : Nat) : Int) → (tko us y)[t]? = some ((n : Nat) : Int) → ts[m]? = some p → us[n]? = some q → p.k = q.k) := hall
                have HVI : Hid (Below w.heap.size w wr) := HV7.out.trans (hbel.mono HV7.out.size)
                have HRI : Hid (Below w2.heap.size w2 wr) := HR7.out.trans (hbel.mono HR7.out.size)
                clear hbel hall
                by_cases hjN : j < N
                · obtain ⟨a, ha⟩ : ∃ e, (tko ts x)[j]? = some e := ⟨_, List.getElem?_eq_getElem (by have := HN.out; omega)⟩
                  obtain ⟨b, hb⟩ : ∃ e, (tko us y)[j]? = some e := ⟨_, List.getElem?_eq_getElem (by have := HN.out; have := HE4.out; omega)⟩
                  obtain ⟨m, p, rfl, hm, hp⟩ := tko_mem ha
                  obtain ⟨n, q, rfl, hn, hq⟩ := tko_mem hb
                  rcases H1.out with h0 | ⟨b1, o1, rfl, hL1⟩
                  · rw [h0] at hm; simp at hm
                  rcases H3.out with h0 | ⟨b3, o3, rfl, hL3⟩
                  · rw [h0] at hn; simp at hn
                  rcases Q67.out with h0 | ⟨b6, o6, rfl, hL6⟩
                  · rw [h0] at ha; simp at ha
                  rcases Q7.out with h0 | ⟨b7, o7, rfl, hL7⟩
                  · rw [h0] at hb; simp at hb
                  have r0 := hL6.int HBI.out ha
                  have r1 := hL7.int HBI.out hb
                  obtain ⟨t0, _, _⟩ := hL1.tk HVI.out hp
                  obtain ⟨t1, _, _⟩ := hL3.tk HVI.out hq
                  have hm' : (m : Int) < (ts.length : Int) := by omega
                  have hn' : (n : Int) < (us.length : Int) := by omega
                  have hj' : (j : Int) < (N : Int) := by omega
                  have HPA : Hid ((tko ts x)[j]? = some (m : Int)) := ha
                  have HPB : Hid ((tko us y)[j]? = some (n : Int)) := hb
                  have HP : Hid (ts[m]? = some p) := hp
                  have HQ : Hid (us[n]? = some q) := hq
                  have FP : Hid (TkFit p) := HF1.out p (List.mem_of_getElem? hp)
                  have FQ : Hid (TkFit q) := HF3.out q (List.mem_of_getElem? hq)
                  clear ha hb hp hq hL1 hL3 hL6 hL7
                  by_cases e5 : p.k = q.k
                  · have HE5 : Hid (p.k = q.k) := e5
                    have e5' : (p.k != q.k) = false := by simp [e5]
                    go_upto_region 15 with fail
                    go_quiet (fail)
                    go_wp2
                    go_roundw
                    case rel =>
                      refine ⟨j + 1, by omega, by go_num, below_drewN HBI.out nq, fun t m' n' p' q' ht g1 g2 g3 g4 => ?_⟩
                      by_cases htj : t < j
                      · exact HAI.out t m' n' p' q' htj g1 g2 g3 g4
                      · obtain rfl : t = j := by omega
                        have k1 := HPA.out; have k2 := HPB.out; have k3 := HP.out; have k4 := HQ.out
                        rw [k1] at g1; rw [k2] at g2
                        injection g1 with g1; injection g2 with g2
                        obtain rfl : m = m' := by omega
                        obtain rfl : n = n' := by omega
                        rw [k3] at g3; rw [k4] at g4
                        cases g3; cases g4
                        exact HE5.out
                    case measure => simp [intOf]; omega
                  · have e5' : (p.k != q.k) = true := by simp [e5]
                    have HNO : Hid (samB ts us ns ms = false) := samB_no HX.out HY.out (by have := kof_no_at HPA.out HPB.out HP.out HQ.out FP.out FQ.out e5; unfold eqN; rw [Bool.and_eq_false_iff]; right; rw [beq_eq_false_iff_ne]; exact this)
                    go_upto_region 15 with fail
                    go_quiet (fail)
                    go_wp2
                    go_ret
                    exact ⟨ret_b HNO.out.symm, below_drewN HVI.out nq⟩
                · have HYES : Hid (eqN ts us x y = true) := by
                    unfold Hid eqN
                    have h1 : kof ts x = kof us y := kof_yes HE4.out.symm HF1.out HF3.out (fun i m n p q hi g1 g2 g3 g4 => HAI.out i m n p q (by have := HN.out; omega) g1 g2 g3 g4)
                    rw [HE1.out, HE2.out, h1]; simp
                  go_wp2
                  go_roundw
                  case rel =>
                    refine ⟨k + 1, by omega, by go_num, HRI.out, fun j' x' y' hj' hx' hy' => ?_⟩
                    by_cases hjk : j' < k
                    · exact HA.out j' x' y' hjk hx' hy'
                    · obtain rfl : j' = k := by omega
                      have h1 := HX.out; have h2 := HY.out
                      rw [h1] at hx'; rw [h2] at hy'
                      cases hx'; cases hy'
                      exact HYES.out
                  case measure => simp [intOf]; omega
            · have hne : (((tko ts x).length : Int) != ((tko us y).length : Int)) = true := by simp only [bne_iff_ne, ne_eq]; omega
              have HNO : Hid (samB ts us ns ms = false) := samB_no HX.out HY.out (by have := kof_no_len (ts := ts) (us := us) (x := x) (y := y) (by omega); unfold eqN; rw [Bool.and_eq_false_iff]; right; rw [beq_eq_false_iff_ne]; exact this)
              clear e4
              go_wp2
              go_ret
              exact ⟨ret_b HNO.out.symm, HV7.out⟩
          · have e1' : (x.k != y.k) = false := by simp [e1]
            have e2' : (x.s != y.s) = true := by simp [e2]
            have HNO : Hid (samB ts us ns ms = false) := samB_no HX.out HY.out (by unfold eqN; simp [e2])
            refine region_class F (by kernel_rfl) (by kernel_rfl) (by obtain ⟨x, hx⟩ := HO.out _ (Below.refl _ _).drew; exact ⟨x, hx.symm⟩) ?_
            repeat (go_big_quiet_step (fail))
            refine wpQuiet_nil ?_
            rintro _ ⟨nq, rfl⟩
            go_wp2
            go_ret
            exact ⟨ret_b HNO.out.symm, HWR.out.trans ((HF.out nq).mono HWR.out.size)⟩
        · have e1' : (x.k != y.k) = true := by simp [e1]
          have HNO : Hid (samB ts us ns ms = false) := samB_no HX.out HY.out (by unfold eqN; simp [e1])
          refine region_class F (by kernel_rfl) (by kernel_rfl) (by obtain ⟨x, hx⟩ := HO.out _ (Below.refl _ _).drew; exact ⟨x, hx.symm⟩) ?_
          repeat (go_big_quiet_step (fail))
          refine wpQuiet_nil ?_
          rintro _ ⟨nq, rfl⟩
          go_wp2
          go_ret
          exact ⟨ret_b HNO.out.symm, HWR.out.trans ((HF.out nq).mono HWR.out.size)⟩
      · have HYES : Hid (samB ts us ns ms = true) := samB_yes HL.out (fun i x y hi hx hy => HA.out i x y (by omega) hx hy)
        go_wp2
        go_ret
        exact ⟨ret_b HYES.out.symm, HWR.out⟩
  · have HNO : Hid (samB ts us ns ms = false) := samB_len hlen
    obtain ⟨w2, e2, hw, hs2, B0, C0⟩ := bx2 w #[.slice a2 ns.length c2] #[.slice a4 ms.length c4] 25 25
    have HB0 : Hid (Below w.heap.size w w2) := hw
    have HE2 : Hid ((w.alloc (.cells #[.slice a2 ns.length c2] 25)).alloc (.cells #[.slice a4 ms.length c4] 25) = w2) := e2
    have x0 := B0.one
    have x1 := C0.one
    have hne : ((ns.length : Int) != (ms.length : Int)) = true := by simp only [bne_iff_ne, ne_eq]; omega
    clear hw hs2 B0 C0 e2
    go_enter Try.func14, Try.ntmps14
    go_upto_region 1 with fail
    rw [HE2.out]
    go_wp2
    go_ret
    exact ⟨ret_b HNO.out.symm, HB0.out⟩
end Go.Proofs.Yteafgddfcohclab
