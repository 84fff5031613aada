import Derived.Test.YtchcmonhdgndcaaFamP
namespace Go.Proofs.Ytchcmonhdgndcaa
open Go.ChangeShapes Go.WideShapes Go.ChangeAt Go.RowKit
attribute [local go_sem] Oper.semAt_some
set_option linter.unusedVariables false

set_option maxRecDepth 1000000 in
set_option maxHeartbeats 4000000 in
/-- TreeFamily up to its first loop's end: what is left is to be shown behind it -/
theorem treeFamily_first (s : ByteArray) (a1 a2 : Option Addr) (c1 c2 : Nat) (ts : List Tk) (ns : List Nd) (u : Int) (w : World) (h1 : LiesA w a1 ts) (h2 : LiesA w a2 ns) (hn1 : a1 = none → ts.length = 0 ∧ c1 = 0) (hn2 : a2 = none → ns.length = 0 ∧ c2 = 0)
    (hl1 : ts.length * 24 ≤ 140737488351232) (hl2 : ns.length * 32 ≤ 140737488351232) (hs : s.size ≤ 140737488351232) (hf1 : ∀ e ∈ ts, TkFit e) (hf2 : ∀ e ∈ ns, NdFit e) (bu0 : 0 ≤ u) (bu1 : u ≤ 18446744073709551615)
    (hrest : vlB ns (ts.length : Int) = true → ∀ (b2 o2 : Nat) (us : FUs) (Dl : List Nat) (B : Nat) (v : World), a2 = some ⟨b2, o2, none⟩ → Lies v b2 o2 ns → b2 < w.heap.size → Below w.heap.size w v → Boxed v (w.heap.size + 1) 4 (.bool false) → v.cell? ⟨w.heap.size + 2, 0, none⟩ = some (.slice (some ⟨b2, o2, none⟩) ns.length c2) → w.heap.size + 3 ≤ B → B ≤ v.heap.size → Mk B v Dl →
      Code.wp Try.prog famRest (bodyPostM Fence.wide 9 Try.prog Try.f5 fun e w' => e = .returned (.bool true) ∧ Below w.heap.size w w') { tmps := famSt s a1 c1 c2 ts ns u w b2 o2 us, defers := mks Dl } v) :
    Calls Try.prog 5 #[.agg #[.string s, .slice a1 ts.length c1, .slice a2 ns.length c2], .int .u64 u] w fun e w' => e = .returned (.bool true) ∧ Below w.heap.size w w' := by
  have HREST := (show Hid _ from hrest)
  clear hrest
  have H1 : Hid (LiesA w a1 ts) := h1
  have H2 : Hid (LiesA w a2 ns) := h2
  have HF2 : Hid (∀ e ∈ ns, NdFit e) := hf2
  obtain ⟨w2, e2, hw, hs2, B0, B1, B2⟩ := bx3 w #[.string s, .slice a1 ts.length c1, .slice a2 ns.length c2] #[.bool false] #[.slice a2 ns.length c2] 27 4 25
  have HE2 : Hid (((w.alloc (.cells #[.string s, .slice a1 ts.length c1, .slice a2 ns.length c2] 27)).alloc (.cells #[.bool false] 4)).alloc (.cells #[.slice a2 ns.length c2] 25) = w2) := e2
  have HW : Hid (Below w.heap.size w w2) := hw
  have HS2 : Hid (w2.heap.size = w.heap.size + 3) := hs2
  have HR : Hid (Boxed w2 (w.heap.size + 1) 4 (.bool false)) := B1
  have HC : Hid (∀ v, Below w2.heap.size w2 v → v.cell? ⟨w.heap.size, 1, none⟩ = some (.slice a1 ts.length c1) ∧ v.cell? ⟨w.heap.size + 2, 0, none⟩ = some (.slice a2 ns.length c2) ∧ w.heap.size + 3 ≤ v.heap.size ∧ Below w.heap.size w v ∧ Boxed v (w.heap.size + 1) 4 (.bool false)) := fun v hv =>
    ⟨(B0.below hv (by omega)).cell 1, (B2.below hv (by omega)).one, by have := hv.size; omega, hw.trans (hv.mono hw.size), (hv.block _ (by omega)).trans B1⟩
  obtain ⟨q1, q3, -, -, -⟩ := HC.out w2 (Below.refl _ _)
  clear h1 h2 hn1 hn2 hf1 hf2 e2 hw hs2 B0 B1 B2
  cases hvl : vlB ns (ts.length : Int) with
  | false =>
    have HVL : Hid (vlB ns (ts.length : Int) = false) := hvl
    clear hvl
    refine callsIn_wide.1 (callsIn_of_wp_marks (n := 9) Try.func5 rfl trivial (wpIn_wide.2 ?_) rfl)
    simp only [Try.ntmps5, List.size_toArray, List.length_cons, List.length_nil, Nat.reduceAdd, Nat.reduceSub, Array.replicate_succ, Array.replicate_zero, List.push_toArray, List.append_toArray, List.nil_append, List.cons_append]
    go_upto_region 2 with fail
    rw [HE2.out]
    go_wp2_with (first
      | (go_at_call 8; refine (rvalid_any a2 c2 ns (ts.length : Int) _ (H2.out.below HW.out) hl2 HF2.out).mono ?_; rintro e w3 ⟨rfl, hb3⟩; rw [HVL.out]; have HB3 : Hid (Below w2.heap.size w2 w3) := hb3; obtain ⟨z1, z3, -, -, -⟩ := HC.out w3 hb3; clear hb3)
      | (go_at_call 13; refine (valid_any a2 c2 ns (ts.length : Int) _ (H2.out.below (HC.out _ HB3.out).2.2.2.1) hl2 HF2.out).mono ?_; rintro e w4 ⟨rfl, hb4⟩; rw [HVL.out]; have HB4 : Hid (Below w2.heap.size w2 w4) := HB3.out.trans (hb4.mono HB3.out.size); have rc := (HC.out _ HB4.out).2.2.2.2.cell; have rf := (HC.out _ HB4.out).2.2.2.2.frozen; clear hb4))
    obtain ⟨-, -, -, k4, k5⟩ := HC.out _ HB4.out
    have k6 := (k5.set (.bool true)).cell
    refine ⟨.bool true, ?_, rfl, k4.setCell (p := ⟨w.heap.size + 1, 0, none⟩) (by show _ ≤ w.heap.size + 1; omega) _⟩
    simp [results, go_sem, k6]
  | true =>
    have HVL : Hid (vlB ns (ts.length : Int) = true) := hvl
    obtain ⟨hnl, hks⟩ := kc_all hvl
    have HKS : Hid (sm (kc ns) 0 ns.length + 1 = ns.length) := hks
    rcases H2.out with h0 | ⟨b2, o2, rfl, hL2⟩
    · rw [h0] at hnl; simp at hnl
    have HL2 : Hid (Lies w b2 o2 ns) := hL2
    have HUZ : Hid (upN ns 0 = -1) := up_zero ns
    clear hvl hL2 hks
    refine callsIn_wide.1 (callsIn_of_wp_marks (n := 9) Try.func5 rfl trivial (wpIn_wide.2 ?_) rfl)
    simp only [Try.ntmps5, List.size_toArray, List.length_cons, List.length_nil, Nat.reduceAdd, Nat.reduceSub, Array.replicate_succ, Array.replicate_zero, List.push_toArray, List.append_toArray, List.nil_append, List.cons_append]
    go_upto_region 2 with fail
    rw [HE2.out]
    go_wp2_with (first
      | (go_at_call 8; refine (rvalid_any _ c2 ns (ts.length : Int) _ (H2.out.below HW.out) hl2 HF2.out).mono ?_; rintro e w3 ⟨rfl, hb3⟩; rw [HVL.out]; have HB3 : Hid (Below w2.heap.size w2 w3) := hb3; obtain ⟨z1, z3, -, -, -⟩ := HC.out w3 hb3; clear hb3)
      | (go_at_call 12; refine (up_any _ c2 ns 0 _ (H2.out.below (HC.out _ HB3.out).2.2.2.1) hl2 (by decide) (by decide)).mono ?_; rintro e w4 ⟨rfl, hb4⟩; rw [HUZ.out]; have HB4 : Hid (Below w2.heap.size w2 w4) := HB3.out.trans (hb4.mono HB3.out.size); obtain ⟨y1, y3, -, -, -⟩ := HC.out w4 HB4.out; clear hb4))
    have hs4 : w2.heap.size ≤ w4.heap.size := HB4.out.size
    have hw4 : w.heap.size + 3 ≤ w4.heap.size := (HC.out w4 HB4.out).2.2.1
    clear z1 z3 q1 q3 y1 y3
    rename_i QQ KK hKK
    have HKK := (show Hid _ from hKK)
    clear hKK
    refine wp_loop (fun a wr => ∃ (n : Nat) (Dl : List Nat) (us : FUs), a = { tmps := #[.agg #[.string s, .slice a1 ts.length c1, .slice (some ⟨b2, o2, none⟩) ns.length c2], .int .u64 u, .pointer (some ⟨w.heap.size, 0, none⟩), undef, .pointer (some ⟨w.heap.size + 1, 0, none⟩), .pointer (some ⟨w.heap.size + 1 + 1, 0, none⟩), .int .i64 ((sm (kc ns) 0 n : Nat) : Int), us.u7, us.u8, us.u9, us.u10, us.u11, us.u12, us.u13, undef, undef, undef, undef, undef, undef, .pointer (some ⟨w.heap.size, 2, none⟩), .agg #[.slice (some ⟨b2, o2, none⟩) ns.length c2], .agg #[.slice (some ⟨b2, o2, none⟩) ns.length c2], .pointer (some ⟨w.heap.size, 1, none⟩), .slice a1 ts.length c1, .int .i64 (ts.length : Int), .bool true, .bool false, undef, undef, undef, undef, undef, undef, .agg #[.slice (some ⟨b2, o2, none⟩) ns.length c2], .int .i64 (-1), .bool false, .pointer (some ⟨w.heap.size + 1 + 1, 0, none⟩), .slice (some ⟨b2, o2, none⟩) ns.length c2, .int .i64 (ns.length : Int), .int .i64 (n : Int), us.u41, us.u42, us.u43, us.u44, us.u45, us.u46, us.u47, us.u48, us.u49, us.u50, us.u51, us.u52, us.u53, us.u54, us.u55, us.u56, us.u57, us.u58, us.u59, us.u60, us.u61, us.u62, us.u63, us.u64, us.u65, us.u66, us.u67, us.u68, us.u69, us.u70, us.u71, us.u72, us.u73, us.u74, us.u75, us.u76, us.u77, us.u78, us.u79, us.u80, us.u81, us.u82, us.u83, us.u84, us.u85, us.u86, us.u87, us.u88, us.u89, us.u90, us.u91, us.u92, us.u93, us.u94, us.u95, us.u96, us.u97, us.u98, us.u99, us.u100, us.u101, us.u102, us.u103, us.u104, us.u105, us.u106, us.u107, us.u108, us.u109, undef, undef, undef, undef, undef, undef, undef, undef, undef, undef, undef, undef, undef, undef, undef, undef, undef, undef, undef, undef, undef, undef, undef, undef, undef, undef, undef, undef, undef, undef, undef, undef, undef, undef, undef, undef, undef, undef, undef, undef, undef, undef, undef, undef, undef, undef], defers := mks Dl } ∧ n ≤ ns.length ∧ Below w4.heap.size w4 wr ∧ Mk w4.heap.size wr Dl) (fun a _ => ns.length - (intOf (a.tmps.getD 40 undef)).toNat) ⟨0, [], ⟨_, _, _, _, _, _, _, _, _, _, _, _, _, _, _, _, _, _, _, _, _, _, _, _, _, _, _, _, _, _, _, _, _, _, _, _, _, _, _, _, _, _, _, _, _, _, _, _, _, _, _, _, _, _, _, _, _, _, _, _, _, _, _, _, _, _, _, _, _, _, _, _, _, _, _, _⟩, rfl, by omega, Below.refl _ _, Mk.nil _ _⟩ ?_
    rintro a wo ⟨n, Dl, us, rfl, hn, hB, hM⟩
    have HM : Hid (Mk w4.heap.size wo Dl) := hM
    have HB : Hid (Below w4.heap.size w4 wo) := hB
    have hsw := hB.size
    obtain ⟨y1, y3, -, -, -⟩ := HC.out wo (HB4.out.trans (hB.mono hs4))
    clear hB hM
    by_cases hnn : n < ns.length
    · have hn1 : (n : Int) < (ns.length : Int) := by omega
      obtain ⟨x, z, l, hx, hz, hz1, hz2, hwh, hkds, hkdl⟩ := node_of HVL.out hnn
      have HX : Hid (ns[n]? = some x) := hx
      have HZ : Hid (x.s = (z : Int)) := hz
      have HKD : Hid (kds ns (n + z) (n + 1) = some l) := hkds
      have HKL : Hid ((kid ns n).getD [] = l) := hkdl
      have HWH : Hid (whl ns n = true) := hwh
      have hll : l.length ≤ ns.length := by rw [← hkdl]; exact kid_len ns n
      have HBN : Hid (sm (kc ns) 0 n + l.length + 1 ≤ ns.length) := by
        have h1 := HKS.out
        have h2 := sm_last (kc ns) n
        have h3 := sm_add (kc ns) (n + 1) 0 (ns.length - (n + 1))
        rw [show n + 1 + (ns.length - (n + 1)) = ns.length by omega] at h3
        have h4 : kc ns n = l.length := by unfold kc; rw [hkdl]
        unfold Hid; omega
      clear hx hz hkds hkdl hwh
      go_wp2_with (go_at_call 11; refine (Kids_any _ c2 ns n _ ((H2.out.below HW.out).below (HB4.out.trans (HB.out.mono hs4))) hl2 (by omega) (by omega)).mono ?_; rintro e w5 ⟨v5, rfl, o5, hb5⟩; rw [HKL.out] at o5; obtain ⟨a5, c5, rfl, q5, -, -⟩ := own_form o5; have HB5 : Hid (Below wo.heap.size wo w5) := hb5; have HQ5 : Hid (LiesA w5 a5 l) := q5; clear hb5 o5 q5)
      clear y1 y3
      go_loopw [6, 8, 49] (fun kv ev iv w' => ∃ (i e K : Nat), i ≤ l.length ∧ kv = .int .i64 (K : Int) ∧ K = sm (kc ns) 0 n + i ∧ ev = .int .i64 (e : Int) ∧ iv = .int .i64 (i : Int) ∧ Below w5.heap.size w5 w' ∧ kds ns (n + z) e = some (l.drop i) ∧ n < e ∧ e ≤ n + z) (fun _ _ iv _ => l.length - (intOf iv).toNat)
      case atStart => exact ⟨0, n + 1, sm (kc ns) 0 n, by omega, rfl, rfl, by simp, rfl, Below.refl _ _, by simpa using HKD.out, by omega, by omega⟩
      case round =>
        obtain ⟨i, e, K, hi, rfl, hK, rfl, rfl, hbel, hk, hne, hez⟩ := hrel
        have HBR : Hid (Below w5.heap.size w5 wr) := hbel
        have hs5 := HB5.out.size
        have hsr := hbel.size
        have HB2r : Hid (Below w2.heap.size w2 wr) := (HB4.out.trans (HB.out.mono hs4)).trans ((HB5.out.mono (by omega)).trans (hbel.mono (by omega)))
        obtain ⟨y1, y3, -, -, -⟩ := HC.out wr HB2r.out
        clear hbel
        by_cases hil : i < l.length
        · have hil2 : (i : Int) < (l.length : Int) := by omega
          rw [List.drop_eq_getElem_cons hil] at hk
          obtain ⟨he1, he2, x', z', hx', hz', hz1', hze', hk'⟩ := kds_cons hk
          have HLI : Hid (l[i]? = some (e : Int)) := by unfold Hid; rw [List.getElem?_eq_getElem hil, he2]
          have HK' : Hid (kds ns (n + z) (e + z') = some (l.drop (i + 1))) := hk'
          have HKK : Hid (K = sm (kc ns) 0 n + i) := hK
          have hKb : K + 1 ≤ ns.length := by have := HBN.out; omega
          have hme : (e : Int) ∈ kdl ns n := by show (e : Int) ∈ (kid ns n).getD []; rw [HKL.out]; exact List.mem_of_getElem? HLI.out
          obtain ⟨hel, hup⟩ := up_kid HVL.out hnn hme
          have HUP : Hid (upN ns e = n) := hup
          have HX' : Hid (ns[e]? = some x') := hx'
          have HZ' : Hid (x'.s = (z' : Int)) := hz'
          have hel2 : (e : Int) < (ns.length : Int) := by omega
          obtain ⟨b5, o5, rfl, hL5⟩ : ∃ b o, a5 = some ⟨b, o, none⟩ ∧ Lies w5 b o l := HQ5.out.resolve_left (by intro h; rw [h] at hil; simp at hil)
          have hc5 := hL5.int HBR.out HLI.out
          have HA : Hid (at1 ((kid ns n).getD []) i = (e : Int)) := by unfold Hid; rw [HKL.out]; exact at1_yes HLI.out
          clear hk hk' he2 hK hme hup hx' hz' hL5
          go_wp2_with (first
            | (go_at_call 15; refine (Kid_any _ c2 ns n i _ (H2.out.below (HC.out _ HB2r.out).2.2.2.1) hl2 (by omega) (by omega)).mono ?_; rintro ee w6 ⟨rfl, hb6⟩; rw [HA.out]; have HB6 : Hid (Below wr.heap.size wr w6) := hb6; have hs6 := hb6.size; have HB26 : Hid (Below w2.heap.size w2 w6) := HB2r.out.trans (hb6.mono HB2r.out.size); obtain ⟨-, k3, -, -, -⟩ := HC.out w6 HB26.out; clear hb6)
            | (go_at_call 12; refine (up_any _ c2 ns e _ (H2.out.below (HC.out _ HB26.out).2.2.2.1) hl2 (by omega) (by omega)).mono ?_; rintro ee w7 ⟨rfl, hb7⟩; rw [HUP.out]; have HB7 : Hid (Below wr.heap.size wr w7) := HB6.out.trans (hb7.mono hs6); have HB27 : Hid (Below w2.heap.size w2 w7) := HB26.out.trans (hb7.mono HB26.out.size); obtain ⟨-, m3, -, mb, -⟩ := HC.out w7 HB27.out; have m4 := ((HL2.out.below mb HL2.out.1).nd (Below.refl _ _) HX'.out).2.2.2; rw [HZ'.out] at m4; clear hb7 mb))
          go_roundw
          case rel => exact ⟨i + 1, e + z', K + 1, by omega, by simp, by have := HKK.out; omega, by simp, by simp, HBR.out.trans (HB7.out.mono hsr), HK'.out, by omega, by omega⟩
          case measure => simp [intOf]; omega
        · have hie : i = l.length := by omega
          have hil2 : ¬ (i : Int) < (l.length : Int) := by omega
          rw [hie, List.drop_length] at hk
          have hee : e = n + z := by have := kds_nil hk; omega
          have HEK : Hid (K = sm (kc ns) 0 (n + 1)) := by
            unfold Hid; rw [sm_last, hK, hie]
            have : kc ns n = l.length := by unfold kc; show ((kid ns n).getD []).length = _; rw [HKL.out]
            omega
          have m4 := ((HL2.out.below (HC.out wr HB2r.out).2.2.2.1 HL2.out.1).nd (Below.refl _ _) HX.out).2.2.2
          rw [HZ.out] at m4
          have hne2 : ((e : Int) != (n : Int) + (z : Int)) = false := by simp; omega
          have HEE : Hid (e = n + z) := hee
          obtain ⟨V1, eV1, bV1, sV1, BV1⟩ := bx1 wr #[.int .i64 (n : Int)] 3
          obtain ⟨V2, eV2, bV2, sV2, C1, C2, C3⟩ := bx3 V1 #[.slice (some ⟨b2, o2, none⟩) ns.length c2] #[.int .i64 (n : Int)] #[.nilFunc] 25 3 49
          have HV1 : Hid (wr.alloc (.cells #[.int .i64 (n : Int)] 3) = V1) := eV1
          have HV2 : Hid (((V1.alloc (.cells #[.slice (some ⟨b2, o2, none⟩) ns.length c2] 25)).alloc (.cells #[.int .i64 (n : Int)] 3)).alloc (.cells #[.nilFunc] 49) = V2) := eV2
          have HBV : Hid (Below wr.heap.size wr V2) := bV1.trans (bV2.mono (by omega))
          have HX11 : Hid (Boxed V2 wr.heap.size 3 (.int .i64 (n : Int))) := BV1.below bV2 (by omega)
          have HB2v : Hid (Below w2.heap.size w2 V2) := HB2r.out.trans (HBV.out.mono HB2r.out.size)
          have hb2l : b2 < w.heap.size := HL2.out.1
          have hwr3 : w.heap.size + 3 ≤ wr.heap.size := (HC.out wr HB2r.out).2.2.1
          have HSQ : Hid (SeqB Fence.wide 8 Try.prog 36 #[.pointer (some ⟨wr.heap.size + 1, 0, none⟩), .pointer (some ⟨wr.heap.size + 1 + 1, 0, none⟩), .pointer (some ⟨wr.heap.size + 1 + 2, 0, none⟩)] wr.heap.size V2.heap.size (wk ns (fun _ => false) n) V2) := by
            have h := walk1b_seq wr.heap.size Fence.wide rfl 8 (by omega) V1.heap.size (V1.heap.size + 1) (V1.heap.size + 2) (some ⟨b2, o2, none⟩) c2 ns n V2 (by omega) (by omega) (by omega) (by omega) (by omega) (by omega) C1.one C2.one C3.one (fun _ b o h => by cases h; omega) (H2.out.below (HC.out V2 HB2v.out).2.2.2.1) hl2 (by omega) (by omega)
            rw [sV1] at h
            exact h
          have HWL : Hid (wk ns (fun _ => false) n = wkl ns (fun _ => false) (n + z) n) := wk_at HX.out HZ.out HWH.out
          have HV1c : Hid (V1.cell? ⟨w.heap.size + 2, 0, none⟩ = some (.slice (some ⟨b2, o2, none⟩) ns.length c2)) := (HC.out V1 (HB2r.out.trans (bV1.mono HB2r.out.size))).2.1
          have HS1 : Hid (V1.heap.size = wr.heap.size + 1) := sV1
          have HS2' : Hid (V2.heap.size = V1.heap.size + 3) := sV2
          have v1c : (wr.alloc (.cells #[.int .i64 (n : Int)] 3)).cell? ⟨w.heap.size + 2, 0, none⟩ = some (.slice (some ⟨b2, o2, none⟩) ns.length c2) := by rw [eV1]; exact HV1c.out
          have hef := eql_fun
          clear eV1 bV1 BV1 eV2 bV2 C1 C2 C3 hk hee sV1 sV2 hK hie
          go_wp2_with (go_at_call 16; refine (walk_any _ _ _ ⟨_, _, _, rfl⟩ (.inl rfl) _).mono ?_; rintro ee wf ⟨rfl, aa, ll, cc, hvv, hwd⟩; cases hvv; rw [HV1.out, HV2.out] at hwd; subst hwd)
          have g1 := HS1.out
          have g2 := HS2'.out
          have g3 := HEE.out
          have HWN : Hid ((wk ns (fun _ => false) n).length = z ∧ ∀ i, i < z → (wk ns (fun _ => false) n)[i]? = some ((n + i : Nat) : Int)) := by
            obtain ⟨h1, h2⟩ := wkl_all ns (n + z) _ n (Nat.le_refl _)
            rw [show n + z - n = z by omega] at h1 h2
            unfold Hid; rw [HWL.out]; exact ⟨h1, h2⟩
          clear hef v1c m4 hne2 y1 y3
          refine range_but (B := wr.heap.size) (gf := 36) (lb := #[.pointer (some ⟨wr.heap.size + 1, 0, none⟩), .pointer (some ⟨wr.heap.size + 1 + 1, 0, none⟩), .pointer (some ⟨wr.heap.size + 1 + 2, 0, none⟩)]) rfl (enters_of Try.func36 (by kernel_rfl) rfl) HSQ.out (But.refl _ _ _) (Nat.le_refl _) rfl
            (fun pre V => But wr.heap.size wf.heap.size wf V ∧ Boxed V wr.heap.size 3 (.int .i64 ((n : Int) + (pre.length : Int)))) ?own1 ⟨But.refl _ _ _, by have h := HX11.out; simpa using h⟩ ?a1 ?assign ?body ?done
          case own1 =>
            rintro s X Y row ⟨hb, hBx⟩ hg hr
            exact ⟨But.own (Nat.le_refl _) (Nat.le_refl _) s X Y row hb hg hr, hBx.kept hg (fun e => by have := (hr _ e.symm).1; omega)⟩
          case assign =>
            intro l x V K hK
            gi_wp2
            exact hK
          case body =>
            rintro l2 pre y post V hy ⟨hBt, hX⟩
            have hpl : pre.length < z := by have h := HWN.out.1; rw [hy] at h; simp at h; omega
            have hyn : y = (n : Int) + (pre.length : Int) := by
              have h := HWN.out.2 pre.length hpl
              rw [hy] at h
              simp at h
              omega
            subst hyn
            have hc := hX.cell
            have hf := hX.frozen
            have HLT : Hid (wr.heap.size < wf.heap.size) := by unfold Hid; omega
            clear hy g1 g2 g3
            gi_wp2
            exact ⟨Apart.of_grownBy (grownBy_setCell' V _ _) (fun j e => by cases e; exact HLT.out), But.put0 _ _ _ _ _, hBt.trans (But.put0 _ _ _ _ _), by have h := hX.set (.int .i64 ((n : Int) + (pre.length : Int) + 1)); simpa [Int.add_assoc] using h⟩
          case done =>
            rintro D V hD ⟨hBt, hX⟩ hK8
            rw [HWN.out.1] at hX
            have hc := hX.cell
            have hne3 : ((n : Int) + (z : Int) != (e : Int)) = false := by simp; omega
            have hMV : Mk w4.heap.size V (D :: Dl) := by
              have hlt : ∀ E ∈ Dl, E < wr.heap.size := fun E hE => by have := HM.out.lt hE; omega
              refine Mk.cons (W0 := wf) ⟨HM.out.nodup, fun E hE => ⟨(HM.out.at_ E hE).1, ?_⟩⟩ (by omega) (fun E hE => by have := hlt E hE; omega) hD hK8
              have h1 := hlt E hE
              exact (hBt.block E (by omega) (by omega)).trans ((HBV.out.block E h1).trans ((HBR.out.block E (by have := HM.out.lt hE; omega)).trans ((HB5.out.block E (HM.out.lt hE)).trans (HM.out.at_ E hE).2)))
            have HMV : Hid (Mk w4.heap.size V (D :: Dl)) := hMV
            have HBW : Hid (Below w4.heap.size w4 V) := (HB.out.trans (((HB5.out.mono hsw).trans (HBR.out.mono (by omega))).trans (HBV.out.mono (by omega)))).trans (hBt.below (by omega) (by omega))
            clear hMV hBt hK8
            go_wp2
            refine ⟨⟨n + 1, D :: Dl, ⟨⟨congrArg (fun m : Nat => (m : Int)) HEK.out, ⟨_, _, _, _, _, _, _, _, _, _, _, _, _, _, _, _, _, _, _, _, _, _, _, _, _, _, _, _, _, _, _, _, _, _, _, _, _, _, _, _, _, _, _, _, _, _, _, _, _, _, _, _, _, _, _, _, _, _, _, _, _, _, _, _, _, _, _, _, _, _, _, _, _, _, _, _⟩, rfl, rfl, rfl, rfl, rfl, rfl, rfl, rfl, rfl, rfl, rfl, rfl, rfl, rfl, rfl, rfl, rfl, rfl, rfl, rfl, rfl, rfl, rfl, rfl, rfl, rfl, rfl, rfl, rfl, rfl, rfl, rfl, rfl, rfl, rfl, rfl, rfl, rfl, rfl, rfl, rfl, rfl, rfl, rfl, rfl, rfl, rfl, rfl, rfl, rfl, rfl, rfl, rfl, rfl, rfl, rfl, rfl, rfl, rfl, rfl, rfl, rfl, rfl, rfl, rfl, rfl, rfl, rfl, rfl, rfl, rfl, rfl, rfl, rfl, rfl, rfl, rfl⟩, rfl⟩, by omega, HBW.out, HMV.out⟩, ?_⟩
            simp [intOf]
            omega
    · have hne : n = ns.length := by omega
      have hn1 : ¬ (n : Int) < (ns.length : Int) := by omega
      go_wp2
      obtain ⟨-, p3, -, p4, p5⟩ := HC.out wo (HB4.out.trans (HB.out.mono hs4))
      exact HKK.out _ _ (HREST.out HVL.out b2 o2 us Dl w4.heap.size wo rfl (HL2.out.below p4 HL2.out.1) HL2.out.1 p4 p5 p3 hw4 hsw HM.out)
end Go.Proofs.Ytchcmonhdgndcaa
