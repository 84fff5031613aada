import Derived.Test.YtaploloedocgbaaDoorOw2
import Derived.Test.YtaploloedocgbaaDoorBxI
namespace Go.Proofs.YtaploloedocgbaaDoor
open Go.ChangeShapes Go.WideShapes Go.ChangeAt Go.RowKit
set_option linter.unusedVariables false

theorem clp_case (B D P : Nat) : (P < B ∧ clp B (B + D) P = 0) ∨ (B + D < P ∧ clp B (B + D) P = D) ∨ (∃ f, P = B + f ∧ f ≤ D ∧ clp B (B + D) P = f) := by
  unfold clp
  by_cases h1 : P < B
  · exact .inl ⟨h1, by omega⟩
  · by_cases h2 : B + D < P
    · exact .inr (.inl ⟨h2, by omega⟩)
    · exact .inr (.inr ⟨P - B, by omega, by omega, by omega⟩)

theorem LiesA.other {α : Type} [Rw α] {w : World} {a : Option Addr} {xs : List α} (h : LiesA w a xs) {p : Addr} (hne : ∀ b o, a = some ⟨b, o, none⟩ → b ≠ p.block) (v : Value) : LiesA (w.setCell p v) a xs := by
  rcases h with h | ⟨b, o, rfl, h⟩
  · exact .inl h
  · refine .inr ⟨b, o, rfl, by simpa using h.1, fun j u hj => ?_⟩
    rw [← h.2 j u hj]
    exact World.cell?_of_block (Below.heap_setCell w p v b (hne b o rfl))

set_option maxRecDepth 1000000 in
set_option maxHeartbeats 4000000 in
theorem own_any (a1 a2 : Option Addr) (c1 c2 : Nat) (ts : List Tk) (ns : List Nd) (n : Int) (w : World) (h1 : LiesA w a1 ts) (h2 : LiesA w a2 ns) (hl1 : ts.length * 24 ≤ 140737488351232) (hl2 : ns.length * 32 ≤ 140737488351232)
    (hf2 : ∀ e ∈ ns, NdFit e) (hn0 : -9223372036854775808 ≤ n) (hn1 : n ≤ 9223372036854775807) (hc1 : ts.length ≤ c1) :
    Calls Tryd.prog 8 #[.slice a1 ts.length c1, .agg #[.slice a2 ns.length c2], .int .i64 n] w fun e w' => ∃ v, e = .returned v ∧
      w'.ownsRow w.heap.size 3 1 v (owl ts ns n).length (flat (owl ts ns n)) ∧ Below w.heap.size w w' := by
  obtain ⟨i0, hi, hz0, hz1, hz2⟩ := info_parts infoInt
  have H1 : Hid (LiesA w a1 ts) := h1
  have H2 : Hid (LiesA w a2 ns) := h2
  have HF2 : Hid (∀ e ∈ ns, NdFit e) := hf2
  obtain ⟨w2, e2, hw, hs2, B0⟩ := bx1 w #[.slice a2 ns.length c2] 25
  have HB0 : Hid (Below w.heap.size w w2) := hw
  have HX0 : Hid (Bx w2 w.heap.size #[.slice a2 ns.length c2] 25) := B0
  have HS2 : Hid (w2.heap.size = w.heap.size + 1) := hs2
  have HE2 : Hid (w.alloc (.cells #[.slice a2 ns.length c2] 25) = w2) := e2
  have x0 := B0.one
  clear h1 h2 hf2 hw hs2 B0 e2
  by_cases g0 : 0 ≤ n ∧ n < (ns.length : Int)
  · obtain ⟨m, rfl⟩ : ∃ m : Nat, n = m := ⟨n.toNat, by omega⟩
    have g1 : m < ns.length := by omega
    obtain ⟨x, hx⟩ : ∃ e, ns[m]? = some e := ⟨_, List.getElem?_eq_getElem g1⟩
    have HX : Hid (ns[m]? = some x) := hx
    have HR : Hid (owl ts ns m = (tkl ts (spB x ts.length) (spE x ts.length - spB x ts.length)).filter (fun a => !cvr ns ((kid ns m).getD []) a)) := owl_at hx
    have HFX : Hid (NdFit x) := HF2.out x (List.mem_of_getElem? hx)
    rcases H2.out with rfl | ⟨b2, o2, rfl, hL2⟩
    · simp at g1
    have HL2 : Hid (Lies w b2 o2 ns) := hL2
    have hb2 : b2 < w.heap.size := hL2.1
    have g1' : (m : Int) < (ns.length : Int) := by omega
    have hd : (decide (0 ≤ (m : Int)) && decide ((m : Int) < (ns.length : Int))) = true := by simp; omega
    have HD : Hid ((decide (0 ≤ (m : Int)) && decide ((m : Int) < (ns.length : Int))) = true) := hd
    have hkl := kid_len ns m
    have HKM : Hid (∀ y ∈ (kid ns m).getD [], ∃ q : Nat, y = q ∧ q < ns.length) := kid_mem ns m
    have hsb := spB_le x ts.length
    have hse := spE_le x ts.length
    obtain ⟨B, hB⟩ : ∃ B, spB x ts.length = B := ⟨_, rfl⟩
    obtain ⟨D, hE⟩ : ∃ D, spE x ts.length = B + D := ⟨spE x ts.length - B, by rw [hB] at hsb; omega⟩
    have HSP : Hid (∀ v, Calls Tryd.prog 28 #[.agg #[.int .u8 x.k, .int .i64 x.f, .int .i64 x.e, .int .i64 x.s], .int .i64 ts.length] v fun e w' => e = .returned (.tuple #[.int .i64 B, .int .i64 ((B + D : Nat) : Int)]) ∧ Below v.heap.size v w') := by
      intro v; have := span_any x ts.length v HFX.out hl1; rw [hB, hE] at this; exact this
    rw [hB, hE, Nat.add_sub_cancel_left] at HR
    rw [hE] at hse
    have HMK : Hid ((((B + D : Nat) : Int) - (B : Int) + 1) = ((D + 1 : Nat) : Int)) := by unfold Hid; omega
    clear hx hL2 hd g0 hB hE hsb
    go_enter Tryd.func8, Tryd.ntmps8
    go_upto_region 1 with fail
    rw [HE2.out]
    go_wp2_with (first
      | (go_at_call 27; refine (isNode_any _ ns.length c2 m _).mono ?_; rintro e w3 ⟨rfl, hb3⟩; rw [HD.out]; have HB3 : Hid (Below w2.heap.size w2 w3) := hb3; have z0 := (HX0.out.below hb3 (by have := HS2.out; omega)).one; obtain ⟨d0, d1, d2, d3⟩ := HL2.out.nd (HB0.out.trans (hb3.mono HB0.out.size)) HX.out; clear hb3)
      | (go_at_call 28; refine (HSP.out _).mono ?_; rintro e w4 ⟨rfl, hb4⟩; have HB4 : Hid (Below w2.heap.size w2 w4) := HB3.out.trans (hb4.mono HB3.out.size); have z4 := (HX0.out.below HB4.out (by have := HS2.out; omega)).one; have hlt4 : w.heap.size < w4.heap.size := (by have := HB4.out.size; have := HS2.out; omega); clear hb4 z0 d0 d1 d2 d3)
      | (at_make; refine wpList_make_row _ rfl _ _ 39 rfl 3 i0 (.int .i64 0) Tryd.underlying39 hi hz0 hz1 rfl .i64 .i64 (D + 1) ?m1 ?m2 ?m3 ?m4 ?_))
    case m1 => first | rfl | exact congrArg (Value.int .i64) HMK.out
    case m2 => first | rfl | exact congrArg (Value.int .i64) HMK.out
    case m3 => rw [hz2]; omega
    case m4 => omega
    obtain ⟨w5, e5, hb5, hs5, B5⟩ := bx1 w4 (madeCells #[Value.int .i64 0] (D + 1)) 3
    rw [e5]
    rw [made_flat] at B5
    have HW4 : Hid (Below w.heap.size w w4) := HB0.out.trans (HB4.out.mono HB0.out.size)
    have HW5 : Hid (Below w.heap.size w w5) := HW4.out.trans (hb5.mono HW4.out.size)
    have HB5 : Hid (Below w4.heap.size w4 w5) := hb5
    have HX4 : Hid (Bx w4 w.heap.size #[.slice (some ⟨b2, o2, none⟩) ns.length c2] 25) := HX0.out.below HB4.out (by have := HS2.out; omega)
    have HT5 : Hid (Bx w5 w4.heap.size (flat (List.replicate (D + 1) (0 : Int))).toArray 3) := B5
    have hs5' : w4.heap.size < w5.heap.size := by omega
    clear e5 hb5 hs5 B5 z4 x0
    refine (Kids_any _ c2 ns m _ (H2.out.below HW5.out) hl2 hn0 hn1).mono ?_
    rintro e w6 ⟨v6, rfl, o6, hb6⟩
    have HK6 : Hid (∀ k, v6.ownBlock = some k → w5.heap.size ≤ k ∧ k < w6.heap.size) := o6.lt
    obtain ⟨a6, c6, rfl, q6, hq6, hnn6⟩ := own_form o6
    have HL6 : Hid (LiesA w6 a6 ((kid ns m).getD [])) := q6
    have HB6 : Hid (Below w4.heap.size w4 w6) := HB5.out.trans (hb6.mono (by omega))
    have HT6 : Hid (Bx w6 w4.heap.size (flat (List.replicate (D + 1) (0 : Int))).toArray 3) := HT5.out.below hb6 hs5'
    have HNE : Hid (∀ b o, a6 = some ⟨b, o, none⟩ → b ≠ w4.heap.size) := fun b o h => by
      subst h; have := (HK6.out b rfl).1; omega
    clear hb6 o6 q6 hnn6 hq6
    generalize hki : (kid ns m).getD [] = kl at *
    clear hki HT5 HB5
    go_wp2
    go_loopw [42] (fun i wr => ∃ (q : Nat) (tu : List Int), q ≤ kl.length ∧ i = .int .i64 q ∧ Below w4.heap.size w4 wr ∧ Bx wr w4.heap.size (flat tu).toArray 3 ∧ LiesA wr a6 kl ∧ Tu ns ts.length B (B + D) (kl.take q) tu) (fun i _ => kl.length - (intOf i).toNat)
    case atStart => exact ⟨0, List.replicate (D + 1) 0, Nat.zero_le _, rfl, HB6.out, HT6.out, HL6.out, by have := Tu.start ns ts.length B (B + D); rw [Nat.add_sub_cancel_left] at this; rw [List.take_zero]; exact this⟩
    case round =>
      obtain ⟨q, tu, hq, rfl, hbel, hbx, hlk, htu⟩ := hrel
      have HB : Hid (Below w4.heap.size w4 wr) := hbel
      have HBX : Hid (Bx wr w4.heap.size (flat tu).toArray 3) := hbx
      have HLK : Hid (LiesA wr a6 kl) := hlk
      have HTU : Hid (Tu ns ts.length B (B + D) (kl.take q) tu) := htu
      have hgr : w4.heap.size < wr.heap.size := hbx.lt
      by_cases hql : q < kl.length
      · obtain ⟨kn, hkn⟩ : ∃ e, kl[q]? = some e := ⟨_, List.getElem?_eq_getElem hql⟩
        obtain ⟨z, rfl, hzl⟩ := HKM.out kn (List.mem_of_getElem? hkn)
        obtain ⟨xn, hxn⟩ : ∃ e, ns[z]? = some e := ⟨_, List.getElem?_eq_getElem hzl⟩
        have HXN : Hid (ns[z]? = some xn) := hxn
        have HKN : Hid (kl[q]? = some (z : Int)) := hkn
        rcases hlk with h0 | ⟨bk, ok, rfl, hLk⟩
        · rw [h0] at hql; simp at hql
        have kcell := hLk.int (Below.refl _ _) hkn
        have bcell := (HX4.out.below hbel hlt4).one
        obtain ⟨e0, e1, e2, e3⟩ := HL2.out.nd (HW4.out.trans (hbel.mono HW4.out.size)) hxn
        have hql' : (q : Int) < (kl.length : Int) := by omega
        have hzl' : (z : Int) < (ns.length : Int) := by omega
        have hbk : bk < wr.heap.size := hLk.1
        have HFN : Hid (NdFit xn) := HF2.out xn (List.mem_of_getElem? hxn)
        clear hkn hxn hLk hbel hbx htu
        obtain ⟨F, hF⟩ : ∃ F, spB xn ts.length = F := ⟨_, rfl⟩
        obtain ⟨T, hT⟩ : ∃ T, spE xn ts.length = T := ⟨_, rfl⟩
        have HSPN : Hid (∀ v, Calls Tryd.prog 28 #[.agg #[.int .u8 xn.k, .int .i64 xn.f, .int .i64 xn.e, .int .i64 xn.s], .int .i64 ts.length] v fun e w' => e = .returned (.tuple #[.int .i64 F, .int .i64 T]) ∧ Below v.heap.size v w') := by
          intro v; have := span_any xn ts.length v HFN.out hl1; rw [hF, hT] at this; exact this
        have hFl : F ≤ ts.length := by rw [← hF]; unfold spB; omega
        have hTl : T ≤ ts.length := by rw [← hT]; exact spE_le _ _
        have HFT : Hid (spB xn ts.length = F ∧ spE xn ts.length = T) := ⟨hF, hT⟩
        clear hF hT
        go_upto_region 9 with (first
          | (go_at_call 28; refine (HSPN.out _).mono ?_; rintro e w7 ⟨rfl, hb7⟩; have HB7 : Hid (Below wr.heap.size wr w7) := hb7; clear hb7)
          | fail)
        clear kcell bcell e0 e1 e2 e3
        have BX7 : Hid (Bx w7 w4.heap.size (flat tu).toArray 3) := HBX.out.below HB7.out hgr
        have hkk : ((kl.take q).length : Int) ≤ kl.length := by simp; omega
        obtain ⟨P1, hP1⟩ : ∃ P, clp B (B + D) F = P := ⟨_, rfl⟩
        obtain ⟨P2, hP2⟩ : ∃ P, clp B (B + D) T = P := ⟨_, rfl⟩
        have hP1l : P1 ≤ D := by rw [← hP1]; have := clp_le (b := B) (e := B + D) (p := F) (by omega); omega
        have hP2l : P2 ≤ D := by rw [← hP2]; have := clp_le (b := B) (e := B + D) (p := T) (by omega); omega
        obtain ⟨v1, hv1⟩ : ∃ v, tu[P1]? = some v := ⟨_, List.getElem?_eq_getElem (by rw [HTU.out.len]; omega)⟩
        have b1v : -(kl.length : Int) ≤ v1 ∧ v1 ≤ (kl.length : Int) := by have := HTU.out.bnd v1 (List.mem_of_getElem? hv1); omega
        have HV1 : Hid (tu[P1]? = some v1) := hv1
        have cell1 := BX7.out.get hv1
        have free1 := BX7.out.free P1
        have HP12 : Hid (clp B (B + D) (spB xn ts.length) = P1 ∧ clp B (B + D) (spE xn ts.length) = P2) := ⟨by rw [HFT.out.1]; exact hP1, by rw [HFT.out.2]; exact hP2⟩
        obtain ⟨v2, hv2⟩ : ∃ v, (tu.set P1 (v1 + 1))[P2]? = some v := ⟨_, List.getElem?_eq_getElem (by rw [List.length_set, HTU.out.len]; omega)⟩
        have b2v : -(kl.length : Int) - 1 ≤ v2 ∧ v2 ≤ (kl.length : Int) + 1 := by
          rcases List.mem_or_eq_of_mem_set (List.mem_of_getElem? hv2) with h | h
          · have := HTU.out.bnd v2 h; omega
          · omega
        have HV2 : Hid ((tu.set P1 (v1 + 1))[P2]? = some v2) := hv2
        have HSTEP : Hid (Tu ns ts.length B (B + D) (kl.take (q + 1)) ((tu.set P1 (v1 + 1)).set P2 (v2 - 1))) := by
          unfold Hid
          have h := HTU.out.step (by omega) HXN.out (v1 := v1) (v2 := v2) (by rw [HP12.out.1]; exact hv1) (by rw [HP12.out.1, HP12.out.2]; exact hv2)
          rw [HP12.out.1, HP12.out.2] at h
          rw [List.take_add_one, HKN.out]
          exact h
        obtain ⟨w8, e8⟩ : ∃ w8, w7.setCell ⟨w4.heap.size, P1, none⟩ (.int .i64 (v1 + 1)) = w8 := ⟨_, rfl⟩
        have HE8 : Hid (w7.setCell ⟨w4.heap.size, P1, none⟩ (.int .i64 (v1 + 1)) = w8) := e8
        have BX8 : Bx w8 w4.heap.size (flat (tu.set P1 (v1 + 1))).toArray 3 := by rw [← e8]; exact BX7.out.put P1 (v1 + 1)
        have HBX8 : Hid (Bx w8 w4.heap.size (flat (tu.set P1 (v1 + 1))).toArray 3) := BX8
        have cell2 := BX8.get hv2
        have free2 := BX8.free P2
        have HB48 : Hid (Below w4.heap.size w4 w8) := by
          unfold Hid; rw [← e8]
          exact (HB.out.trans (HB7.out.mono (by omega))).setCell (p := ⟨w4.heap.size, P1, none⟩) (Nat.le_refl _) _
        have HLK8 : Hid (LiesA w8 (some ⟨bk, ok, none⟩) kl) := by
          unfold Hid; rw [← e8]
          exact (HLK.out.below HB7.out).other (p := ⟨w4.heap.size, P1, none⟩) HNE.out _
        have REL1 : Hid (Below w4.heap.size w4 (w8.setCell ⟨w4.heap.size, P2, none⟩ (.int .i64 (v2 - 1)))) := HB48.out.setCell (p := ⟨w4.heap.size, P2, none⟩) (Nat.le_refl _) _
        have REL2 : Hid (LiesA (w8.setCell ⟨w4.heap.size, P2, none⟩ (.int .i64 (v2 - 1))) (some ⟨bk, ok, none⟩) kl) := HLK8.out.other (p := ⟨w4.heap.size, P2, none⟩) HNE.out _
        have REL4 : Hid (Bx (w8.setCell ⟨w4.heap.size, P2, none⟩ (.int .i64 (v2 - 1))) w4.heap.size (flat ((tu.set P1 (v1 + 1)).set P2 (v2 - 1))).toArray 3) := HBX8.out.put P2 (v2 - 1)
        clear hv1 hv2 e8 BX8
        have hcd : ((B : Int) + (D : Int) - (B : Int)) = (D : Int) := by omega
        rcases clp_case B D F with ⟨hc, hq1⟩ | ⟨hc, hq1⟩ | ⟨f, rfl, hfd, hq1⟩
        · obtain rfl : P1 = 0 := by rw [← hP1, hq1]
          clear hP1 hq1
          go_upto_region 10 with fail
          rw [HE8.out]
          rcases clp_case B D T with ⟨hd, hq2⟩ | ⟨hd, hq2⟩ | ⟨t, rfl, htd, hq2⟩
          · obtain rfl : P2 = 0 := by rw [← hP2, hq2]
            clear hP2 hq2
            go_wp2
            go_roundw
            case rel => exact ⟨q + 1, _, by omega, by go_num, REL1.out, REL4.out, REL2.out, HSTEP.out⟩
            case measure => simp [intOf]; omega
          · obtain rfl : D = P2 := by rw [← hP2, hq2]
            clear hP2 hq2
            go_wp2
            go_roundw
            case rel => exact ⟨q + 1, _, by omega, by go_num, REL1.out, REL4.out, REL2.out, HSTEP.out⟩
            case measure => simp [intOf]; omega
          · obtain rfl : t = P2 := by rw [← hP2, hq2]
            clear hP2 hq2
            have hct : ((B : Int) + (t : Int) - (B : Int)) = (t : Int) := by omega
            go_wp2
            go_roundw
            case rel => exact ⟨q + 1, _, by omega, by go_num, REL1.out, REL4.out, REL2.out, HSTEP.out⟩
            case measure => simp [intOf]; omega
        · obtain rfl : D = P1 := by rw [← hP1, hq1]
          clear hP1 hq1
          go_upto_region 10 with fail
          rw [HE8.out]
          rcases clp_case B D T with ⟨hd, hq2⟩ | ⟨hd, hq2⟩ | ⟨t, rfl, htd, hq2⟩
          · obtain rfl : P2 = 0 := by rw [← hP2, hq2]
            clear hP2 hq2
            go_wp2
            go_roundw
            case rel => exact ⟨q + 1, _, by omega, by go_num, REL1.out, REL4.out, REL2.out, HSTEP.out⟩
            case measure => simp [intOf]; omega
          · obtain rfl : D = P2 := by rw [← hP2, hq2]
            clear hP2 hq2
            go_wp2
            go_roundw
            case rel => exact ⟨q + 1, _, by omega, by go_num, REL1.out, REL4.out, REL2.out, HSTEP.out⟩
            case measure => simp [intOf]; omega
          · obtain rfl : t = P2 := by rw [← hP2, hq2]
            clear hP2 hq2
            have hct : ((B : Int) + (t : Int) - (B : Int)) = (t : Int) := by omega
            go_wp2
            go_roundw
            case rel => exact ⟨q + 1, _, by omega, by go_num, REL1.out, REL4.out, REL2.out, HSTEP.out⟩
            case measure => simp [intOf]; omega
        · obtain rfl : f = P1 := by rw [← hP1, hq1]
          clear hP1 hq1
          have hcf : ((B : Int) + (f : Int) - (B : Int)) = (f : Int) := by omega
          go_upto_region 10 with fail
          rw [HE8.out]
          rcases clp_case B D T with ⟨hd, hq2⟩ | ⟨hd, hq2⟩ | ⟨t, rfl, htd, hq2⟩
          · obtain rfl : P2 = 0 := by rw [← hP2, hq2]
            clear hP2 hq2
            go_wp2
            go_roundw
            case rel => exact ⟨q + 1, _, by omega, by go_num, REL1.out, REL4.out, REL2.out, HSTEP.out⟩
            case measure => simp [intOf]; omega
          · obtain rfl : D = P2 := by rw [← hP2, hq2]
            clear hP2 hq2
            go_wp2
            go_roundw
            case rel => exact ⟨q + 1, _, by omega, by go_num, REL1.out, REL4.out, REL2.out, HSTEP.out⟩
            case measure => simp [intOf]; omega
          · obtain rfl : t = P2 := by rw [← hP2, hq2]
            clear hP2 hq2
            have hct : ((B : Int) + (t : Int) - (B : Int)) = (t : Int) := by omega
            go_wp2
            go_roundw
            case rel => exact ⟨q + 1, _, by omega, by go_num, REL1.out, REL4.out, REL2.out, HSTEP.out⟩
            case measure => simp [intOf]; omega
      · have HTK : Hid (Tu ns ts.length B (B + D) kl tu) := by
          have := HTU.out; rw [List.take_of_length_le (by omega)] at this; exact this
        have HW9 : Hid (Below w.heap.size w wr) := HW4.out.trans (HB.out.mono HW4.out.size)
        obtain ⟨w9, rfl⟩ : ∃ w9, w9 = wr := ⟨_, rfl⟩
        clear hlk hbel hbx htu HTU HLK
        have hBl : (B : Int) ≤ (c1 : Int) := by omega
        have hEl : (B : Int) + (D : Int) ≤ (c1 : Int) := by omega
        by_cases hD : D = 0
        · subst hD
          have HS : Hid (owl ts ns m = []) := by unfold Hid; rw [HR.out]; simp [tkl]
          go_wp2
          all_goals
            refine wp_loop_rounds 1 ?_
            rw [rounds_succ]
            go_wp2
            go_ret
            exact ⟨_, rfl, own_eq (xs := []) (World.ownsRow_nil _ _ _ _) HS.out.symm, HW9.out⟩
        · rcases H1.out with h0 | ⟨b1, o1, rfl, hL1⟩
          · rw [h0] at hse; simp at hse; omega
          have hBc : (B : Int) < (c1 : Int) := by omega
          have hBc' : ¬ c1 = B := by omega
          have HL1 : Hid (Lies w b1 o1 ts) := hL1
          have hb1w : b1 < w.heap.size := hL1.1
          have hs9 : w4.heap.size < w9.heap.size := HBX.out.lt
          clear hL1
          go_wp2
          rw [Nat.add_sub_cancel_left]
          go_loopw [14, 15, 87] (fun v ar i wr => ∃ k : Nat, k ≤ D ∧ i = .int .i64 k ∧ ar = .int .i64 (tu.take k).sum ∧ Below w9.heap.size w9 wr ∧ wr.ownsRow w9.heap.size 3 1 v ((tkl ts B k).filter (fun a => !cvr ns kl a)).length (flat ((tkl ts B k).filter (fun a => !cvr ns kl a)))) (fun _ _ i _ => D - (intOf i).toNat)
          case atStart => exact ⟨0, Nat.zero_le _, rfl, rfl, Below.refl _ _, World.ownsRow_nil _ _ _ _⟩
          case round =>
            obtain ⟨k, hk, rfl, rfl, hbel, hown⟩ := hrel
            have HBR : Hid (Below w9.heap.size w9 wr) := hbel
            have hlt1 : Hid (∀ k, u14.ownBlock = some k → w9.heap.size ≤ k ∧ k < wr.heap.size) := hown.lt
            have HO : Hid (wr.ownsRow w9.heap.size 3 1 u14 ((tkl ts B k).filter (fun a => !cvr ns kl a)).length (flat ((tkl ts B k).filter (fun a => !cvr ns kl a)))) := hown
            have HWR : Hid (Below w.heap.size w wr) := HW9.out.trans (hbel.mono HW9.out.size)
            have hsr : w9.heap.size ≤ wr.heap.size := hbel.size
            have hnl : ((tkl ts B k).filter (fun a => !cvr ns kl a)).length ≤ k := Nat.le_trans (List.length_filter_le _ _) (tkl_len _ _ _)
            clear hbel hown
            by_cases hkD : k < D
            · obtain ⟨v, hv⟩ : ∃ v, tu[k]? = some v := ⟨_, List.getElem?_eq_getElem (by rw [HTK.out.len]; omega)⟩
              have hsum := take_sum_succ hv
              have hcw := HTK.out.sum k (by omega)
              obtain ⟨hcw0, hcw1, hcw2⟩ := cw_zero ns (L := ts.length) (a := B + k) (by omega) kl
              have tcell := (HBX.out.below HBR.out hs9).get hv
              obtain ⟨p, hp⟩ : ∃ e, ts[B + k]? = some e := ⟨_, List.getElem?_eq_getElem (by omega)⟩
              obtain ⟨t0, t1, t2⟩ := HL1.out.tk HWR.out hp
              rw [show o1 + (B + k) * 3 = o1 + B * 3 + k * 3 by omega] at t0 t1 t2
              have HP : Hid (ts[B + k]? = some p) := hp
              have hsum' : (tu.take k).sum + v = cw ns ts.length (B + k) kl := by rw [← hsum, hcw]
              have HSUM : Hid ((tu.take (k + 1)).sum = cw ns ts.length (B + k) kl) := hcw
              have HCV : Hid (cw ns ts.length (B + k) kl = 0 ↔ cvr ns kl ((B + k : Nat) : Int) = false) := hcw2
              have hkD' : (k : Int) < (D : Int) := by omega
              have hb1r : b1 < wr.heap.size := by have := HWR.out.size; omega
              clear hv hsum hcw hcw2 hp
              generalize hcwv : cw ns ts.length (B + k) kl = cwv at *
              clear hcwv
              obtain ⟨w10, e10, hb10, hs10, B10⟩ := bx1 wr #[.int .u8 p.k, .int .i64 p.f, .int .i64 p.t] 60
              have HE10 : Hid (wr.alloc (.cells #[.int .u8 p.k, .int .i64 p.f, .int .i64 p.t] 60) = w10) := e10
              have kc : w10.cell? ⟨wr.heap.size, 0, none⟩ = some (.int .u8 p.k) := B10.t0
              have tcell' : w10.cell? ⟨w4.heap.size, k, none⟩ = some (.int .i64 v) := (hb10.cell (p := ⟨w4.heap.size, k, none⟩) (by show w4.heap.size < _; omega)).trans tcell
              have HB10 : Hid (Below w9.heap.size w9 w10) := HBR.out.trans (hb10.mono hsr)
              have HO3 : Hid (w10.ownsRow w9.heap.size 3 1 u14 ((tkl ts B k).filter (fun a => !cvr ns kl a)).length (flat ((tkl ts B k).filter (fun a => !cvr ns kl a)))) := ownsRow_below HO.out hb10 (Nat.le_refl _)
              have hs10' : w9.heap.size ≤ w10.heap.size := by omega
              clear e10 hb10 B10 hs10
              have HSM : Hid ((tu.take k).sum + v = cwv) := hsum'
              have hwr : IntKind.i64.wrap ((tu.take k).sum + v) = cwv := by rw [hsum']; exact IntWalk.i64_in _ ⟨by omega, by omega⟩
              clear hsum'
              go_upto_region 17 with fail
              rw [HE10.out]
              clear t0 t1 t2 tcell
              by_cases hz : cwv = 0
              · have hcv : cvr ns kl ((B + k : Nat) : Int) = false := HCV.out.1 hz
                rw [hz] at hwr
                have HZ : Hid (cwv = 0) := hz
                clear hz
                cases htk : tokB p with
                | true =>
                  have HS : Hid ((tkl ts B (k + 1)).filter (fun a => !cvr ns kl a) = (tkl ts B k).filter (fun a => !cvr ns kl a) ++ [((B + k : Nat) : Int)]) := by
                    unfold Hid; rw [tkl_yes HP.out htk, List.filter_append, List.filter_cons_of_pos (by rw [hcv]; rfl)]; rfl
                  have HT : Hid ((p.k != 0 && p.k != 1) = true) := htk
                  clear htk hcv
                  go_wp2_with (first
                    | (go_at_call 29; refine (isToken_any p.k _).mono ?_; rintro e wz ⟨rfl, rfl⟩; rw [HT.out])
                    | (at_builtin; (refine wpList_append_own _ rfl (.tmp 105) (.tmp 109) 39 rfl w9.heap.size 3 i0 (.int .i64 0) 1 8 Tryd.underlying39 hi hz0 hz1 hz2 rfl (by decide) _ _ _ rfl (HO3.out.alloc _) ⟨w10.heap.size, 0, none⟩ 1 1 (flat [((B + k : Nat) : Int)]) rfl rfl (cells_new w10 (flat [((B + k : Nat) : Int)]) 3) (flat_oneCell _) ?_ ?_ ?_ ?_)))
                  case refine_1 => unfold maxLen; omega
                  case refine_2 => omega
                  case refine_3 => simp; omega
                  intro v5 w5' hown5 hgrow5 _
                  have HB11 : Hid (Below w9.heap.size w9 w5') := (HB10.out.alloc hs10' _).grown hgrow5 (by simp; omega) (fun k h => (hlt1.out k h).1)
                  have HO5 : Hid (w5'.ownsRow w9.heap.size 3 1 v5 ((tkl ts B k).filter (fun a => !cvr ns kl a) ++ [((B + k : Nat) : Int)]).length (flat ((tkl ts B k).filter (fun a => !cvr ns kl a) ++ [((B + k : Nat) : Int)]))) := by
                    unfold Hid; rw [flat_append, List.length_append]; exact hown5
                  clear hgrow5 hown5
                  go_wp2
                  go_roundw
                  case rel => exact ⟨k + 1, by omega, by go_num, by rw [HSUM.out, HZ.out], HB11.out, own_eq HO5.out HS.out.symm⟩
                  case measure => simp [intOf]; omega
                | false =>
                  have HS : Hid ((tkl ts B (k + 1)).filter (fun a => !cvr ns kl a) = (tkl ts B k).filter (fun a => !cvr ns kl a)) := by
                    unfold Hid; rw [tkl_no HP.out htk]
                  have HT : Hid ((p.k != 0 && p.k != 1) = false) := htk
                  clear htk hcv
                  go_upto_region 20 with (first
                    | (go_at_call 29; refine (isToken_any p.k _).mono ?_; rintro e wz ⟨rfl, rfl⟩; rw [HT.out])
                    | fail)
                  go_wp2
                  go_roundw
                  case rel => exact ⟨k + 1, by omega, by go_num, by rw [HSUM.out, HZ.out], HB10.out, own_eq HO3.out HS.out.symm⟩
                  case measure => simp [intOf]; omega
              · have hcv : cvr ns kl ((B + k : Nat) : Int) = true := by
                  cases h : cvr ns kl ((B + k : Nat) : Int) with
                  | true => rfl
                  | false => exact absurd (HCV.out.2 h) hz
                have hz' : (cwv == 0) = false := by simp [hz]
                have HS : Hid ((tkl ts B (k + 1)).filter (fun a => !cvr ns kl a) = (tkl ts B k).filter (fun a => !cvr ns kl a)) := by
                  unfold Hid
                  cases htk : tokB p with
                  | true => rw [tkl_yes HP.out htk, List.filter_append, List.filter_cons_of_neg (by rw [hcv]; decide)]; simp
                  | false => rw [tkl_no HP.out htk]
                clear hz hcv
                go_wp2
                go_roundw
                case rel => exact ⟨k + 1, by omega, by go_num, by rw [HSUM.out], HB10.out, own_eq HO3.out HS.out.symm⟩
                case measure => simp [intOf]; omega
            · have hkk : k = D := by omega
              have HS : Hid ((tkl ts B k).filter (fun a => !cvr ns kl a) = owl ts ns m) := by unfold Hid; rw [HR.out, hkk]
              clear hkk
              go_wp2
              go_ret
              exact ⟨_, rfl, own_base (own_eq HO.out HS.out) (by have := HW9.out.size; omega), HWR.out⟩
  · have HR : Hid (owl ts ns n = []) := by
      by_cases h : n < 0
      · exact owl_neg h
      · obtain ⟨m, rfl⟩ : ∃ m : Nat, n = m := ⟨n.toNat, by omega⟩
        exact owl_big (by omega)
    have HD : Hid ((decide (0 ≤ n) && decide (n < (ns.length : Int))) = false) := by
      unfold Hid
      simp only [Bool.and_eq_false_iff, decide_eq_false_iff_not]; omega
    clear g0
    go_enter Tryd.func8, Tryd.ntmps8
    go_upto_region 1 with fail
    rw [HE2.out]
    go_wp2_with (first
      | (go_at_call 27; refine (isNode_any _ ns.length c2 n _).mono ?_; rintro e w3 ⟨rfl, hb3⟩; rw [HD.out]; have HB3 : Hid (Below w2.heap.size w2 w3) := hb3; clear hb3)
      | fail)
    go_ret
    exact ⟨_, rfl, own_eq (xs := []) (World.ownsRow_nil _ _ _ _) HR.out.symm, HB0.out.trans (HB3.out.mono HB0.out.size)⟩
end Go.Proofs.YtaploloedocgbaaDoor
