import Derived.Test.YteanhljabjoabaaBdB
namespace Go.Proofs.Yteanhljabjoabaa
open Go.ChangeShapes Go.WideShapes Go.ChangeAt Go.RowKit
set_option linter.unusedVariables false

set_option maxRecDepth 1000000 in
set_option maxHeartbeats 4000000 in
theorem blind_false (s : ByteArray) (a1 a2 : Option Addr) (c1 c2 : Nat) (ts : List Tk) (ns : List Nd) (u : Int) (w : World) (h2 : LiesA w a2 ns) (hl2 : ns.length * 32 ≤ 140737488351232) (hf2 : ∀ e ∈ ns, NdFit e) (hvl : vlB ns (ts.length : Int) = false) :
    Calls Try.prog 6 #[.agg #[.string s, .slice a1 ts.length c1, .slice a2 ns.length c2], .int .u64 u] w fun e w' => e = .returned (.bool true) ∧ Below w.heap.size w w' := by
  have H2 : Hid (LiesA w a2 ns) := h2
  have HF2 : Hid (∀ e ∈ ns, NdFit e) := hf2
  have HVL : Hid (vlB ns (ts.length : Int) = false) := hvl
  obtain ⟨w2, e2, hw, hs2, B0⟩ := bx1 w #[.string s, .slice a1 ts.length c1, .slice a2 ns.length c2] 27
  have HE2 : Hid (w.alloc (.cells #[.string s, .slice a1 ts.length c1, .slice a2 ns.length c2] 27) = w2) := e2
  have HW : Hid (Below w.heap.size w w2) := hw
  have HC : Hid (∀ v, Below w2.heap.size w2 v → v.cell? ⟨w.heap.size, 1, none⟩ = some (.slice a1 ts.length c1) ∧ v.cell? ⟨w.heap.size, 2, none⟩ = some (.slice a2 ns.length c2) ∧ Below w.heap.size w v) := fun v hv =>
    ⟨(B0.below hv (by omega)).cell 1, (B0.below hv (by omega)).cell 2, hw.trans (hv.mono hw.size)⟩
  obtain ⟨q1, q3, -⟩ := HC.out w2 (Below.refl _ _)
  clear h2 hf2 e2 hw hs2 B0 hvl
  go_enter Try.func6, Try.ntmps6
  go_upto_region 1 with fail
  rw [HE2.out]
  go_wp2_with (first
    | (go_at_call 8; refine (rvalid_any a2 c2 ns (ts.length : Int) _ (H2.out.below HW.out) hl2 HF2.out).mono ?_; rintro e w3 ⟨rfl, hb3⟩; rw [HVL.out]; have HB3 : Hid (Below w2.heap.size w2 w3) := hb3; obtain ⟨z1, z3, -⟩ := HC.out w3 hb3; clear hb3)
    | (go_at_call 13; refine (valid_any a2 c2 ns (ts.length : Int) _ (H2.out.below (HC.out _ HB3.out).2.2) hl2 HF2.out).mono ?_; rintro e w4 ⟨rfl, hb4⟩; rw [HVL.out]; have HB4 : Hid (Below w2.heap.size w2 w4) := HB3.out.trans (hb4.mono HB3.out.size); clear hb4))
  go_ret
  exact ⟨rfl, (HC.out _ HB4.out).2.2⟩

theorem own_cap {w : World} {base e k n cap m : Nat} {a : Option Addr} {xs : List Value} (h : w.ownsRow base e k (.slice a m cap) n xs) : n ≤ cap := by
  rcases h.2 with ⟨h1, h2⟩ | ⟨g, cp, cur, h1, _, _, h4, _⟩
  · omega
  · simp only [Value.slice.injEq] at h1
    omega

set_option maxRecDepth 1000000 in
set_option maxHeartbeats 4000000 in
theorem blind_first (s : ByteArray) (a1 a2 : Option Addr) (c1 c2 : Nat) (ts : List Tk) (ns : List Nd) (u : Int) (w : World) (h1 : LiesA w a1 ts) (h2 : LiesA w a2 ns) (hn2 : a2 = none → ns.length = 0 ∧ c2 = 0)
    (hl1 : ts.length ≤ 1048576) (hl2 : ns.length ≤ 1048576) (hs : s.size ≤ 1048576) (hc1 : ts.length ≤ c1) (hf1 : ∀ e ∈ ts, TkFit e) (hf2 : ∀ e ∈ ns, NdFit e) (bu0 : 0 ≤ u) (bu1 : u ≤ 18446744073709551615) (hvl : vlB ns (ts.length : Int) = true) :
    Calls Try.prog 6 #[.agg #[.string s, .slice a1 ts.length c1, .slice a2 ns.length c2], .int .u64 u] w fun e w' => e = .returned (.bool true) ∧ Below w.heap.size w w' := by
  obtain ⟨i0, hi, hz0, hz1, hz2⟩ := info_parts infoInt
  obtain ⟨i1, hj, hy0, hy1, hy2⟩ := info_parts infoTk
  have H1 : Hid (LiesA w a1 ts) := h1
  have H2 : Hid (LiesA w a2 ns) := h2
  have HF2 : Hid (∀ e ∈ ns, NdFit e) := hf2
  have HF1 : Hid (∀ e ∈ ts, TkFit e) := hf1
  have HN2 : Hid (a2 = none → ns.length = 0 ∧ c2 = 0) := hn2
  have HVL : Hid (vlB ns (ts.length : Int) = true) := hvl
  obtain ⟨w2, e2, hw, hs2, B0⟩ := bx1 w #[.string s, .slice a1 ts.length c1, .slice a2 ns.length c2] 27
  have HE2 : Hid (w.alloc (.cells #[.string s, .slice a1 ts.length c1, .slice a2 ns.length c2] 27) = w2) := e2
  have HW : Hid (Below w.heap.size w w2) := hw
  have HC : Hid (∀ v, Below w2.heap.size w2 v → v.cell? ⟨w.heap.size, 1, none⟩ = some (.slice a1 ts.length c1) ∧ v.cell? ⟨w.heap.size, 2, none⟩ = some (.slice a2 ns.length c2) ∧ Below w.heap.size w v) := fun v hv =>
    ⟨(B0.below hv (by omega)).cell 1, (B0.below hv (by omega)).cell 2, hw.trans (hv.mono hw.size)⟩
  have HBX : Hid (Bx w2 w.heap.size #[.string s, .slice a1 ts.length c1, .slice a2 ns.length c2] 27) := B0
  obtain ⟨q1, q3, -⟩ := HC.out w2 (Below.refl _ _)
  clear h1 h2 hf1 hf2 hn2 e2 hw hs2 B0 hvl
  go_enter Try.func6, Try.ntmps6
  go_upto_region 1 with fail
  rw [HE2.out]
  go_wp2_with (first
    | (go_at_call 8; refine (rvalid_any a2 c2 ns (ts.length : Int) _ (H2.out.below HW.out) (by omega) HF2.out).mono ?_; rintro e w4 ⟨rfl, hb4⟩; rw [HVL.out]; have HB4 : Hid (Below w2.heap.size w2 w4) := hb4; obtain ⟨z1, z3, -⟩ := HC.out w4 hb4; clear hb4)
    | (at_make; (refine wpList_make_row _ rfl _ _ 38 rfl 3 i0 (.int .i64 0) Try.underlying38 hi hz0 hz1 rfl .i64 .i64 (ts.length + 1) rfl rfl (by rw [hz2]; omega) (by omega) ?_); obtain ⟨w5, e5, hb5, hs5, B5⟩ := bx1 w4 (madeCells #[Value.int .i64 0] (ts.length + 1)) 3; rw [e5]; rw [made_flat] at B5; have HB5 : Hid (Below w2.heap.size w2 w5) := HB4.out.trans (hb5.mono HB4.out.size); have HT5 : Hid (Bx w5 w4.heap.size (flat (List.replicate (ts.length + 1) (0 : Int))).toArray 3) := B5; have HB45 : Hid (Below w4.heap.size w4 w5) := hb5; have HS5 : Hid (w5.heap.size = w4.heap.size + 1) := hs5; obtain ⟨z5, z7, -⟩ := HC.out w5 HB5.out; clear e5 hb5 hs5 B5))
  rename_i Q K hK
  have HK := (show Hid _ from hK)
  clear hK z1 z3 q1 q3 z5 z7
  obtain ⟨cc, hcc⟩ : ∃ cc, chB u = cc := ⟨_, rfl⟩
  have HCC : Hid (chB u = cc) := hcc
  clear hcc
  go_loopw [5, 35] (fun sl i wr => ∃ (k : Nat) (P : List Int), k ≤ ts.length ∧ i = .int .i64 (k : Int) ∧ Below w4.heap.size w4 wr ∧ Bx wr w4.heap.size (flat P).toArray 3 ∧ Pls cc ts.length k P ∧ wr.ownsRow (w4.heap.size + 1) 35 3 sl (wvn cc ts k).length (flat (wvn cc ts k))) (fun _ i _ => ts.length - (intOf i).toNat)
  case atStart => exact ⟨0, _, by omega, rfl, HB45.out, HT5.out, Pls.start cc ts.length, World.ownsRow_nil _ _ _ _⟩
  case round =>
    obtain ⟨k, P, hk, rfl, hbel, hbx, hpl, hown⟩ := hrel
    have HB : Hid (Below w4.heap.size w4 wr) := hbel
    have HP : Hid (Bx wr w4.heap.size (flat P).toArray 3) := hbx
    have HPL : Hid (Pls cc ts.length k P) := hpl
    have HO : Hid (wr.ownsRow (w4.heap.size + 1) 35 3 u5 (wvn cc ts k).length (flat (wvn cc ts k))) := hown
    have HLT : Hid (∀ g, u5.ownBlock = some g → w4.heap.size + 1 ≤ g ∧ g < wr.heap.size) := hown.lt
    have hgr : w4.heap.size < wr.heap.size := hbx.lt
    have HB2 : Hid (Below w2.heap.size w2 wr) := HB4.out.trans (hbel.mono HB4.out.size)
    have HLN : Hid ((wvn cc ts k).length = k + 2 * cn cc k) := wvn_len cc ts k hk
    have hcn := cn_le cc k
    obtain ⟨N, hN⟩ : ∃ N, (wvn cc ts k).length = N := ⟨_, rfl⟩
    have hNb : N ≤ 3145728 := by rw [← hN, HLN.out]; omega
    have HN : Hid ((wvn cc ts k).length = N) := hN
    clear hbel hbx hpl hown
    by_cases hkl : k < ts.length
    · obtain ⟨p, hp⟩ : ∃ p, ts[k]? = some p := ⟨_, List.getElem?_eq_getElem hkl⟩
      obtain ⟨-, -, zb⟩ := HC.out wr HB2.out
      rcases H1.out with h0 | ⟨b1, o1, rfl, hL1⟩
      · rw [h0] at hkl; simp at hkl
      obtain ⟨d0, d1, d2⟩ := hL1.tk zb hp
      have hk1 : (k : Int) < (ts.length : Int) := by omega
      have hb1r : b1 < wr.heap.size := by have := hL1.1; have := zb.size; omega
      have HWV : Hid (wvn cc ts (k + 1) = wvn cc ts k ++ gp cc k ++ [p]) := by unfold Hid; rw [wvn, hp]
      obtain ⟨w6, e6, hb6, hs6, B6⟩ := bx1 wr #[.int .u8 p.k, .int .i64 p.f, .int .i64 p.t] 35
      obtain ⟨w7, e7, hb7, hs7, B7⟩ := bx1 w6 #[.int .u64 u] 43
      have HE6 : Hid (wr.alloc (.cells #[.int .u8 p.k, .int .i64 p.f, .int .i64 p.t] 35) = w6) := e6
      have HE7 : Hid (w6.alloc (.cells #[.int .u64 u] 43) = w7) := e7
      have HX7 : Hid (Bx w7 w6.heap.size #[.int .u64 u] 43) := B7
      have hb67 : Below wr.heap.size wr w7 := hb6.trans (hb7.mono hb6.size)
      have HB7 : Hid (Below wr.heap.size wr w7) := hb67
      have HO7 : Hid (w7.ownsRow (w4.heap.size + 1) 35 3 u5 N (flat (wvn cc ts k))) := by unfold Hid; rw [← hN]; exact ownsRow_below HO.out hb67 (Nat.le_refl _)
      have HPX7 : Hid (Bx w7 wr.heap.size #[.int .u8 p.k, .int .i64 p.f, .int .i64 p.t] 35) := B6.below hb7 (by omega)
      have HP7 : Hid (Bx w7 w4.heap.size (flat P).toArray 3) := HP.out.below hb67 hgr
      have hs67 : wr.heap.size + 1 < w7.heap.size := by omega
      have HW6 : Hid (w6.heap.size = wr.heap.size + 1) := hs6
      clear hp hL1 zb e6 e7 hb6 hb7 hs6 hs7 B6 B7 hb67 hN HO HP HB2
      cases hch : cc k with
      | true =>
        have HCK : Hid (cc k = true) := hch
        have HCH : Hid (chB u k = true) := by unfold Hid; rw [HCC.out]; exact hch
        clear hch
        go_upto_region 8 with fail
        rw [HE6.out]
        clear d0 d1 d2
        go_wp2_with (first
          | (go_at_call 17; refine (chosen_any u _).mono ?_; rintro e wq ⟨rfl, rfl⟩; rw [HE7.out])
          | (go_at_call 38; refine (chosen1_any u k w6.heap.size _ HX7.out.one (by omega) bu0 (by omega)).mono ?_; rintro e wq ⟨rfl, hwq⟩; obtain rfl := hwq.symm; rw [HCH.out])
          | (at_builtin; (refine wpList_append_own_any _ rfl (.tmp 44) (.tmp 47) 22 rfl (w4.heap.size + 1) 35 i1 (.agg #[.int .u8 0, .int .i64 0, .int .i64 0]) 3 24 Try.underlying22 hj hy0 hy1 hy2 rfl (by decide) _ _ _ rfl (HO7.out.alloc _) (some ⟨w7.heap.size, 0, none⟩) 2 2 (flat [bl, nt]) rfl (by rfl) (fun h => by cases h) (fun ad had => by cases had; exact cells_new w7 (flat [bl, nt]) 35) (flat_oneCell _) ?c2 ?c3 ?c4 ?_)))
        case c2 => unfold maxLen; omega
        case c3 => omega
        case c4 => simp; omega
        intro v8 w8 hown8 hgrow8
        have HG : Hid ((gp cc k).length = 2) := by unfold Hid gp; rw [HCK.out]; rfl
        have HO8 : Hid (w8.ownsRow (w4.heap.size + 1) 35 3 v8 (N + 2) (flat (wvn cc ts k ++ gp cc k))) := by
          unfold Hid; rw [flat_append]; unfold gp; rw [HCK.out]; exact hown8
        have HP8 : Hid (Bx w8 w4.heap.size (flat P).toArray 3) := (HP7.out.alloc _).grown hgrow8 (fun h => by have := (HLT.out _ h).1; omega)
        have HPX8 : Hid (Bx w8 wr.heap.size #[.int .u8 p.k, .int .i64 p.f, .int .i64 p.t] 35) := (HPX7.out.alloc _).grown hgrow8 (fun h => by have := (HLT.out _ h).2; omega)
        have HB8 : Hid (Below w4.heap.size w4 w8) := ((HB.out.trans (HB7.out.mono HB.out.size)).alloc (by have := HB.out.size; omega) _).grown hgrow8 (by simp; omega) (fun g h => by have := (HLT.out g h).1; omega)
        clear hown8 hgrow8
        have hlt8 : Hid (∀ g, v8.ownBlock = some g → w4.heap.size + 1 ≤ g ∧ g < w8.heap.size) := HO8.out.lt
        obtain ⟨a8, c8, rfl, -, -, -⟩ := own_form HO8.out
        have cf := HP8.out.free k
        obtain ⟨pv, hpv⟩ : ∃ pv, P[k]? = some pv := ⟨_, List.getElem?_eq_getElem (by rw [HPL.out.1]; omega)⟩
        have cv := HP8.out.get hpv
        have hs8 : w4.heap.size < w8.heap.size := HP8.out.lt
        obtain ⟨w9, e9⟩ : ∃ w9, w8.setCell ⟨w4.heap.size, k, none⟩ (.int .i64 ((N : Int) + 2)) = w9 := ⟨_, rfl⟩
        have HE9 : Hid (w8.setCell ⟨w4.heap.size, k, none⟩ (.int .i64 ((N : Int) + 2)) = w9) := e9
        have HB9 : Hid (Below w4.heap.size w4 w9) := by unfold Hid; rw [← e9]; exact HB8.out.setCell (p := ⟨w4.heap.size, k, none⟩) (Nat.le_refl _) _
        have HP9 : Hid (Bx w9 w4.heap.size (flat (P.set k ((N : Int) + 2))).toArray 3) := by unfold Hid; rw [← e9]; exact HP8.out.put k _
        have HO9 : Hid (w9.ownsRow (w4.heap.size + 1) 35 3 (.slice a8 (N + 2) c8) (N + 2) (flat (wvn cc ts k ++ gp cc k))) := by
          unfold Hid; rw [← e9]; exact ownsRow_setCell_other HO8.out (a := ⟨w4.heap.size, k, none⟩) (fun h => by have := (hlt8.out w4.heap.size h).1; omega) _
        have HPX9 : Hid (Bx w9 wr.heap.size #[.int .u8 p.k, .int .i64 p.f, .int .i64 p.t] 35) := by unfold Hid; rw [← e9]; exact HPX8.out.other ⟨w4.heap.size, k, none⟩ (by show _ ≠ w4.heap.size; omega) _
        have hs9 : wr.heap.size < w9.heap.size := HPX9.out.lt
        have HLT9 : Hid (∀ g, (Value.slice a8 (N + 2) c8).ownBlock = some g → w4.heap.size + 1 ≤ g ∧ g < w9.heap.size) := HO9.out.lt
        have y0 := HPX9.out.cell 0
        have y1 := HPX9.out.cell 1
        have y2 := HPX9.out.cell 2
        simp at y0 y1 y2
        have hk2 : (k : Int) < (ts.length : Int) + 1 := by omega
        have HPS : Hid (Pls cc ts.length (k + 1) (P.set k ((N : Int) + 2))) := by
          unfold Hid
          rw [show ((N : Int) + 2) = ((pl cc k : Nat) : Int) by unfold pl; rw [cn, if_pos HCK.out, ← HN.out, HLN.out]; omega]
          exact HPL.out.step hkl
        clear e9 hpv
        go_upto_region 11 with fail
        rw [HE9.out]
        clear cv cf
        go_wp2_with (at_builtin; (refine wpList_append_own_any _ rfl (.tmp 54) (.tmp 56) 22 rfl (w4.heap.size + 1) 35 i1 (.agg #[.int .u8 0, .int .i64 0, .int .i64 0]) 3 24 Try.underlying22 hj hy0 hy1 hy2 rfl (by decide) _ _ _ rfl (HO9.out.alloc _) (some ⟨w9.heap.size, 0, none⟩) 1 1 (flat [p]) rfl (by rfl) (fun h => by cases h) (fun ad had => by cases had; exact cells_new w9 (flat [p]) 35) (flat_oneCell _) ?c2 ?c3 ?c4 ?_))
        case c2 => unfold maxLen; omega
        case c3 => omega
        case c4 => simp; omega
        intro v10 w10 hown10 hgrow10
        have HP10 : Hid (Bx w10 w4.heap.size (flat (P.set k ((N : Int) + 2))).toArray 3) := (HP9.out.alloc _).grown hgrow10 (fun h => by have := (HLT9.out _ h).1; omega)
        have HB10 : Hid (Below w4.heap.size w4 w10) := (HB9.out.alloc HB9.out.size _).grown hgrow10 (by simp; omega) (fun g h => by have := (HLT9.out g h).1; omega)
        have HO10 : Hid (w10.ownsRow (w4.heap.size + 1) 35 3 v10 (wvn cc ts (k + 1)).length (flat (wvn cc ts (k + 1)))) := by
          unfold Hid
          rw [HWV.out, flat_append, List.length_append, List.length_append, HN.out, HG.out]
          exact hown10
        clear hown10 hgrow10
        go_wp2
        go_roundw
        case rel => exact ⟨k + 1, _, by omega, by simp, HB10.out, HP10.out, HPS.out, HO10.out⟩
        case measure => simp [intOf]; omega
      | false =>
        have HCK : Hid (cc k = false) := hch
        have HCH : Hid (chB u k = false) := by unfold Hid; rw [HCC.out]; exact hch
        clear hch
        go_upto_region 8 with fail
        rw [HE6.out]
        clear d0 d1 d2
        go_upto_region 10 with (first
          | (go_at_call 17; refine (chosen_any u _).mono ?_; rintro e wq ⟨rfl, rfl⟩; rw [HE7.out])
          | (go_at_call 38; refine (chosen1_any u k w6.heap.size _ HX7.out.one (by omega) bu0 (by omega)).mono ?_; rintro e wq ⟨rfl, hwq⟩; obtain rfl := hwq.symm; rw [HCH.out])
          | fail)
        have HG : Hid ((gp cc k).length = 0) := by unfold Hid gp; rw [HCK.out]; rfl
        have HO8 : Hid (w7.ownsRow (w4.heap.size + 1) 35 3 u5 N (flat (wvn cc ts k ++ gp cc k))) := by
          unfold Hid; unfold gp; rw [HCK.out]; simpa using HO7.out
        have HB8 : Hid (Below w4.heap.size w4 w7) := HB.out.trans (HB7.out.mono HB.out.size)
        have hlt8 : Hid (∀ g, u5.ownBlock = some g → w4.heap.size + 1 ≤ g ∧ g < w7.heap.size) := HO8.out.lt
        obtain ⟨a8, c8, rfl, -, -, -⟩ := own_form HO8.out
        have cf := HP7.out.free k
        obtain ⟨pv, hpv⟩ : ∃ pv, P[k]? = some pv := ⟨_, List.getElem?_eq_getElem (by rw [HPL.out.1]; omega)⟩
        have cv := HP7.out.get hpv
        have hs8 : w4.heap.size < w7.heap.size := HP7.out.lt
        obtain ⟨w9, e9⟩ : ∃ w9, w7.setCell ⟨w4.heap.size, k, none⟩ (.int .i64 (N : Int)) = w9 := ⟨_, rfl⟩
        have HE9 : Hid (w7.setCell ⟨w4.heap.size, k, none⟩ (.int .i64 (N : Int)) = w9) := e9
        have HB9 : Hid (Below w4.heap.size w4 w9) := by unfold Hid; rw [← e9]; exact HB8.out.setCell (p := ⟨w4.heap.size, k, none⟩) (Nat.le_refl _) _
        have HP9 : Hid (Bx w9 w4.heap.size (flat (P.set k (N : Int))).toArray 3) := by unfold Hid; rw [← e9]; exact HP7.out.put k _
        have HO9 : Hid (w9.ownsRow (w4.heap.size + 1) 35 3 (.slice a8 N c8) N (flat (wvn cc ts k ++ gp cc k))) := by
          unfold Hid; rw [← e9]; exact ownsRow_setCell_other HO8.out (a := ⟨w4.heap.size, k, none⟩) (fun h => by have := (hlt8.out w4.heap.size h).1; omega) _
        have HPX9 : Hid (Bx w9 wr.heap.size #[.int .u8 p.k, .int .i64 p.f, .int .i64 p.t] 35) := by unfold Hid; rw [← e9]; exact HPX7.out.other ⟨w4.heap.size, k, none⟩ (by show _ ≠ w4.heap.size; omega) _
        have hs9 : wr.heap.size < w9.heap.size := HPX9.out.lt
        have HLT9 : Hid (∀ g, (Value.slice a8 N c8).ownBlock = some g → w4.heap.size + 1 ≤ g ∧ g < w9.heap.size) := HO9.out.lt
        have y0 := HPX9.out.cell 0
        have y1 := HPX9.out.cell 1
        have y2 := HPX9.out.cell 2
        simp at y0 y1 y2
        have hk2 : (k : Int) < (ts.length : Int) + 1 := by omega
        have HPS : Hid (Pls cc ts.length (k + 1) (P.set k (N : Int))) := by
          unfold Hid
          rw [show (N : Int) = ((pl cc k : Nat) : Int) by unfold pl; rw [cn, if_neg (by rw [HCK.out]; decide), ← HN.out, HLN.out]; omega]
          exact HPL.out.step hkl
        clear e9 hpv
        go_upto_region 11 with fail
        rw [HE9.out]
        clear cv cf
        go_wp2_with (at_builtin; (refine wpList_append_own_any _ rfl (.tmp 54) (.tmp 56) 22 rfl (w4.heap.size + 1) 35 i1 (.agg #[.int .u8 0, .int .i64 0, .int .i64 0]) 3 24 Try.underlying22 hj hy0 hy1 hy2 rfl (by decide) _ _ _ rfl (HO9.out.alloc _) (some ⟨w9.heap.size, 0, none⟩) 1 1 (flat [p]) rfl (by rfl) (fun h => by cases h) (fun ad had => by cases had; exact cells_new w9 (flat [p]) 35) (flat_oneCell _) ?c2 ?c3 ?c4 ?_))
        case c2 => unfold maxLen; omega
        case c3 => omega
        case c4 => simp; omega
        intro v10 w10 hown10 hgrow10
        have HP10 : Hid (Bx w10 w4.heap.size (flat (P.set k (N : Int))).toArray 3) := (HP9.out.alloc _).grown hgrow10 (fun h => by have := (HLT9.out _ h).1; omega)
        have HB10 : Hid (Below w4.heap.size w4 w10) := (HB9.out.alloc HB9.out.size _).grown hgrow10 (by simp; omega) (fun g h => by have := (HLT9.out g h).1; omega)
        have HO10 : Hid (w10.ownsRow (w4.heap.size + 1) 35 3 v10 (wvn cc ts (k + 1)).length (flat (wvn cc ts (k + 1)))) := by
          unfold Hid
          rw [HWV.out, flat_append, List.length_append, List.length_append, HN.out, HG.out]
          exact hown10
        clear hown10 hgrow10
        go_wp2
        go_roundw
        case rel => exact ⟨k + 1, _, by omega, by simp, HB10.out, HP10.out, HPS.out, HO10.out⟩
        case measure => simp [intOf]; omega
    · have hke : k = ts.length := by omega
      subst hke
      have hk1 : ¬ ((ts.length : Nat) : Int) < (ts.length : Int) := by omega
      obtain ⟨a8, c8, rfl, hl8, -, -⟩ := own_form HO.out
      have hca8 := own_cap HO.out
      rw [HN.out] at hca8
      go_wp2
      refine HK.out _ _ ?_
      obtain ⟨-, -, zb⟩ := HC.out wr HB2.out
      have h8 : ∀ b o, a8 = some ⟨b, o, none⟩ → b ≠ w4.heap.size := fun b o h => by
        subst h; have := (HLT.out b rfl).1; omega
      have hcp : N ≤ c8 := hca8
      exact blind_second s a1 a2 a8 c1 c2 c8 N w4.heap.size ts ns P cc w wr HN.out.symm zb (HBX.out.below HB2.out HBX.out.lt) (by have := HBX.out.lt; have := HB4.out.size; omega) HP.out HPL.out H1.out H2.out hl8 h8 HN2.out hl1 hl2 hs HF1.out HF2.out hc1 hcp HVL.out

theorem treeBlind_walk (s : ByteArray) (a1 a2 : Option Addr) (c1 c2 : Nat) (ts : List Tk) (ns : List Nd) (u : Int) (w : World) (h1 : LiesA w a1 ts) (h2 : LiesA w a2 ns) (hn1 : a1 = none → ts.length = 0 ∧ c1 = 0) (hn2 : a2 = none → ns.length = 0 ∧ c2 = 0)
    (hl1 : ts.length * 24 ≤ 140737488351232) (hl2 : ns.length * 32 ≤ 140737488351232) (hs : s.size ≤ 140737488351232) (hf1 : ∀ e ∈ ts, TkFit e) (hf2 : ∀ e ∈ ns, NdFit e) (hc1 : ts.length ≤ c1) (bu0 : 0 ≤ u) (bu1 : u ≤ 18446744073709551615) (hB : s.size + ts.length + ns.length ≤ 1048576) :
    Calls Try.prog 6 #[.agg #[.string s, .slice a1 ts.length c1, .slice a2 ns.length c2], .int .u64 u] w fun e w' => e = .returned (.bool true) ∧ Below w.heap.size w w' := by
  cases hvl : vlB ns (ts.length : Int) with
  | false => exact blind_false s a1 a2 c1 c2 ts ns u w h2 hl2 hf2 hvl
  | true => exact blind_first s a1 a2 c1 c2 ts ns u w h1 h2 hn2 (by omega) (by omega) (by omega) hc1 hf1 hf2 bu0 bu1 hvl
end Go.Proofs.Yteanhljabjoabaa
