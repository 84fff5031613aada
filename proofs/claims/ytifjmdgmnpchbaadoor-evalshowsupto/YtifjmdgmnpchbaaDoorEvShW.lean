import Derived.Test.YtifjmdgmnpchbaaDoorSv2
import Derived.Test.YtifjmdgmnpchbaaDoorSv3
import Derived.Test.YtifjmdgmnpchbaaDoorSv4
import Derived.Test.YtifjmdgmnpchbaaDoorSv5
namespace Go.Proofs.YtifjmdgmnpchbaaDoor
open Go.ChangeShapes Go.WideShapes Go.ChangeAt Go.RowKit
set_option linter.unusedVariables false
set_option linter.unusedSimpArgs false

theorem infoVal : (Tryd.prog.info? 28).map (fun i => (i.zero, i.size, i.bytes)) = some (some (.agg #[.int .u8 0, .bool false, .int .i64 0, .string ⟨#[]⟩]), 4, 32) := by kernel_rfl
theorem infoRowV : (Tryd.prog.info? 23).map (fun i => (i.zero, i.size, i.bytes)) = some (some (.slice none 0 0), 1, 24) := by kernel_rfl
theorem shows_of {w : World} {a : Option Addr} {gs : List Rg} (c : Nat) {X : List (List Vl)} (h : Tr w a gs) (hX : gs.map Rg.xs = X) (hok : ∀ l ∈ X, ∀ x ∈ l, VlOk x) (hw : wgT X ≤ 1048576) (hT : Tbs w) :
    Calls Tryd.prog 5 #[.slice a gs.length c] w fun e w' => e = .returned (.string ⟨(shT X).toArray⟩) ∧ Below w.heap.size w w' := by
  subst hX
  have hl := wgT_len (gs.map Rg.xs)
  have hq := shT_len (gs.map Rg.xs) hok
  refine eshow_any a c gs w h (by simp at hl; omega) (fun r hr => ?_) (fun r hr => hok _ (List.mem_map_of_mem hr)) (by omega) hT
  have h1 := wgT_mem (gs.map Rg.xs) r.xs (List.mem_map_of_mem hr)
  have h2 := wgE_len r.xs
  omega
theorem rshows_of {w : World} {a : Option Addr} {gs : List Rg} (c : Nat) {X : List (List Vl)} (h : Tr w a gs) (hX : gs.map Rg.xs = X) (hok : ∀ l ∈ X, ∀ x ∈ l, VlOk x) (hw : wgT X ≤ 1048576) (hT : Tbs w) :
    Calls Tryd.prog 4 #[.slice a gs.length c] w fun e w' => e = .returned (.string ⟨(shT X).toArray⟩) ∧ Below w.heap.size w w' := by
  subst hX
  have hl := wgT_len (gs.map Rg.xs)
  have hq := shT_len (gs.map Rg.xs) hok
  refine rshowT_any a c gs w h (by simp at hl; omega) (fun r hr => ?_) (fun r hr => hok _ (List.mem_map_of_mem hr)) (by omega) hT
  have h1 := wgT_mem (gs.map Rg.xs) r.xs (List.mem_map_of_mem hr)
  have h2 := wgE_len r.xs
  omega

set_option maxRecDepth 1000000 in
set_option maxHeartbeats 8000000 in
theorem evalShows_walk (a : Option Addr) (cap : Nat) (qs : List Rg) (w : World) (h : Tr w a qs) (hnone : ∀ r ∈ qs, r.a = none → r.xs.length = 0 ∧ r.c = 0) (hok : ∀ l ∈ qs.map Rg.xs, ∀ x ∈ l, VlOk x) (hw : wgT (qs.map Rg.xs) ≤ 1048576) (hT : Tbs w) :
    Calls Tryd.prog 3 #[.slice a qs.length cap] w fun e w' => e = .returned (.bool true) ∧ Below w.heap.size w w' := by
  obtain ⟨i0, hi, hz0, hz1, hz2⟩ := info_parts infoVal
  obtain ⟨i1, hj, hy0, hy1, hy2⟩ := info_parts infoRowV
  have HT : Hid (∀ v, Below w.heap.size w v → Tbs v) := fun v h => hT.below h
  have HR : Hid (∀ v, Below w.heap.size w v → Tr v a qs) := fun v hv => h.below hv
  have HN : Hid (∀ r ∈ qs, r.a = none → r.xs.length = 0 ∧ r.c = 0) := hnone
  have hql : qs.length ≤ 1048576 := by have := wgT_len (qs.map Rg.xs); simp at this; omega
  have HL : Hid (∀ r ∈ qs, r.xs.length ≤ 1048576) := fun r hr => by
    have h1 := wgT_mem (qs.map Rg.xs) r.xs (List.mem_map_of_mem hr)
    have h2 := wgE_len r.xs
    omega
  obtain ⟨X, hX⟩ : ∃ X, qs.map Rg.xs = X := ⟨_, rfl⟩
  rw [hX] at hok hw
  have HX : Hid (qs.map Rg.xs = X) := hX
  have HXl : Hid (X.length = qs.length) := by unfold Hid; rw [← hX, List.length_map]
  have HOK : Hid (∀ l ∈ X, ∀ x ∈ l, VlOk x) := hok
  have HWG : Hid (wgT X ≤ 1048576) := hw
  clear hT h hnone hX hok hw
  go_enter Tryd.func3, Tryd.ntmps3
  go_wp2
  go_loopw [3, 11] (fun so i wr => ∃ (k : Nat) (rs : List Rr), k ≤ qs.length ∧ i = .int .i64 k ∧ Below w.heap.size w wr ∧ Tw w.heap.size wr so rs (X.take k)) (fun _ i _ => qs.length - (intOf i).toNat)
  case atStart => exact ⟨0, [], Nat.zero_le _, rfl, Below.refl _ _, by rw [List.take_zero]; exact Tw.nil _ _⟩
  case round =>
    obtain ⟨k, rs, hk, rfl, hbel, htw⟩ := hrel
    have HB : Hid (Below w.heap.size w wr) := hbel
    have HTW : Hid (Tw w.heap.size wr u3 rs (X.take k)) := htw
    clear hbel htw
    by_cases hlt : k < qs.length
    · have hlt' : (k : Int) < (qs.length : Int) := by omega
      obtain ⟨r, hr⟩ : ∃ r, qs[k]? = some r := ⟨_, List.getElem?_eq_getElem hlt⟩
      obtain ⟨b, o, rfl, hb0, c0⟩ := (HR.out wr HB.out).row hr
      have hrl := HL.out r (List.mem_of_getElem? hr)
      have HSL : Hid (LiesA wr r.a r.xs) := (HR.out wr HB.out).2 r (List.mem_of_getElem? hr)
      have HNO : Hid (r.a = none → r.xs.length = 0 ∧ r.c = 0) := HN.out r (List.mem_of_getElem? hr)
      have HTK : Hid (X.take (k + 1) = X.take k ++ [r.xs]) := by
        unfold Hid
        have e : X[k]? = some r.xs := by rw [← HX.out, List.getElem?_map, hr]; rfl
        rw [List.take_add_one, e]; rfl
      have HRL : Hid (rs.length = k) := by
        unfold Hid; rw [HTW.out.len, List.length_take, HXl.out]; omega
      obtain ⟨ra, rc, rx⟩ := r
      simp only at *
      have HLIT : Hid ((wr.alloc (.cells #[] 28)).ownsRow w.heap.size 28 4 (.slice (some ⟨wr.heap.size, 0, none⟩) 0 0) 0 []) := World.ownsRow_lit wr #[] 0 HB.out.size (by unfold maxLen; omega) rfl
      have HSRC : Hid (∀ ad, ra = some ad → ∀ j u, (flat rx)[j]? = some u → (wr.alloc (.cells #[] 28)).cell? (ad.add j) = some u) := by
        intro ad had j u hju
        have hL2 := HSL.out.below ((Below.refl _ wr).alloc (Nat.le_refl _) (.cells #[] 28))
        rcases hL2 with h0 | ⟨b9, o9, ha9, h9⟩
        · subst h0; cases hju
        · rw [had] at ha9; cases ha9; exact h9.flat j u hju
      have hbs := HB.out.size
      clear hr
      go_wp2_with (first
        | (at_builtin; (refine wpList_append_at _ rfl (.tmp 16) (.tmp 17) 23 rfl w.heap.size 28 i0 (.agg #[.int .u8 0, .bool false, .int .i64 0, .string ⟨#[]⟩]) 4 32 Tryd.underlying23 hi hz0 hz1 hz2 rfl (by decide) _ 0 [] rfl HLIT.out ra rx.length rc (flat rx) rfl (by rw [flat_length]; rfl) HNO.out HSRC.out (flat_oneCell _) (by unfold maxLen; omega) (by omega) (by simp; omega) ?_); intro v1 w1 ho1 hg1 ha1; rw [Nat.zero_add, List.nil_append] at ho1; have HO1 : Hid (w1.ownsRow w.heap.size 28 4 v1 rx.length (flat rx)) := ho1; have HG1 : Hid (v1.ownBlock = some wr.heap.size ∨ v1.ownBlock = some (wr.heap.size + 1)) := ha1.elim (fun h => .inl h) (fun h => .inr (by simpa using h)); have HB1 : Hid (Below wr.heap.size wr w1) := ((Below.refl _ wr).alloc (Nat.le_refl _) _).grown hg1 (by simp) (fun k hk => by cases hk; exact Nat.le_refl _); obtain ⟨a1, c1, hv1, -, -⟩ := own_slice ho1; subst hv1; clear ho1 hg1 ha1)
        | (at_builtin; (refine wpList_append_at _ rfl (.tmp 15) (.tmp 19) 22 rfl w.heap.size 23 i1 (.slice none 0 0) 1 24 Tryd.underlying22 hj hy0 hy1 hy2 rfl (by decide) _ rs.length (rs.map Rr.v) rfl ((HTW.out.below HB1.out).she.outV.alloc _) (some ⟨w1.heap.size, 0, none⟩) 1 1 [.slice a1 rx.length c1] rfl rfl (fun h => by cases h) (fun ad had => by cases had; exact cells_new w1 [.slice a1 rx.length c1] 23) (fun u hu => by simp at hu; subst hu; rfl) (by unfold maxLen; rw [HRL.out]; omega) (by rw [HRL.out]; omega) (by have := HB1.out.size; simp; omega) ?_); intro V2 w2 ho2 hg2 ha2))
      have HTW2 : Hid (Tw w.heap.size w2 V2 (rs ++ [⟨.slice a1 rx.length c1, rx.length, flat rx⟩]) (X.take (k + 1))) := by
        unfold Hid
        rw [HTK.out]
        refine (((HTW.out.below HB1.out).below ((Below.refl _ w1).alloc (Nat.le_refl _) _))).add (HO1.out.alloc _) (fun q hq g hg hg' => ?_) ho2 hg2 ha2
        have h1 := ((HTW.out.she.each q (by simpa using hq)).lt g hg).2
        rcases HG1.out with h2 | h2
        · rw [h2] at hg'; cases hg'; omega
        · rw [h2] at hg'; cases hg'; omega
      have HB2 : Hid (Below w.heap.size w w2) := by
        have h3 : Below w.heap.size w w1 := HB.out.trans (HB1.out.mono hbs)
        refine (h3.alloc h3.size _).grown hg2 (by have := h3.size; simp; omega) (fun g hg => ((HTW.out.she.outV).lt g hg).1)
      obtain ⟨a2, c2, hv2, -, -⟩ := own_slice ho2
      subst hv2
      clear ho2 hg2 ha2
      go_wp2
      go_roundw
      case rel => exact ⟨k + 1, _, by omega, by go_num, HB2.out, HTW2.out⟩
      case measure => simp [intOf]; omega
    · have hge : ¬ (k : Int) < (qs.length : Int) := by omega
      have htk : X.take k = X := List.take_of_length_le (by rw [HXl.out]; omega)
      have HTW0 : Hid (Tw w.heap.size wr u3 rs X) := by unfold Hid; rw [← htk]; exact HTW.out
      clear HTW htk
      obtain ⟨a1, c1, gs, hV, htr, hgx, hgl⟩ := HTW0.out.tr
      subst hV
      have HGX : Hid (gs.map Rg.xs = X) := hgx
      have HGL : Hid (gs.length = qs.length) := by unfold Hid; rw [hgl, HXl.out]
      have HTR : Hid (∀ v, Below wr.heap.size wr v → Tr v a1 gs) := fun v hv => htr.below hv
      obtain ⟨M, hM⟩ : ∃ M : ByteArray, ⟨(shT X).toArray⟩ = M := ⟨_, rfl⟩
      have HRS : Hid (∀ v, Below wr.heap.size wr v → Calls Tryd.prog 4 #[.slice a qs.length cap] v fun e w' => e = .returned (.string M) ∧ Below v.heap.size v w') := fun v hv => by
        rw [← hM]; have hv' := HB.out.trans (hv.mono HB.out.size); exact rshows_of cap (HR.out v hv') HX.out HOK.out HWG.out (HT.out v hv')
      have HES : Hid (∀ v, Below wr.heap.size wr v → Calls Tryd.prog 5 #[.slice a1 qs.length c1] v fun e w' => e = .returned (.string M) ∧ Below v.heap.size v w') := fun v hv => by
        rw [← hM, ← HGL.out]; have hv' := HB.out.trans (hv.mono HB.out.size); exact shows_of c1 (HTR.out v hv) HGX.out HOK.out HWG.out (HT.out v hv')
      have HST : Hid (∀ v, Below wr.heap.size wr v → Calls Tryd.prog 6 #[.slice a1 qs.length c1, .slice a qs.length cap] v fun e w' => e = .returned (.bool true) ∧ Below v.heap.size v w') := fun v hv => by
        have hv' := HB.out.trans (hv.mono HB.out.size)
        refine same_trace a1 a c1 cap qs.length gs qs v (HTR.out v hv) (HR.out v hv') (by rw [HGX.out, HX.out]) HGL.out rfl hql (fun r hr => ?_)
        have h1 := wgT_mem X r.xs (by rw [← HGX.out]; exact List.mem_map_of_mem hr)
        have h2 := wgE_len r.xs
        have := HWG.out
        omega
      rw [HGL.out]
      have hMM : (M.toList == M.toList) = true := by simp
      have hMN : (M.toList != M.toList) = false := by simp
      clear hgx hgl htr hM
      go_wp2_with (first
        | (go_at_call 4; (with_reducible refine (HRS.out _ (Below.refl _ _)).mono ?_); rintro e w3 ⟨rfl, hb3⟩; have HB3 : Hid (Below wr.heap.size wr w3) := hb3; clear hb3)
        | (go_at_call 5; (with_reducible refine (HES.out _ HB3.out).mono ?_); rintro e w4 ⟨rfl, hb4⟩; have HB4 : Hid (Below wr.heap.size wr w4) := HB3.out.trans (hb4.mono HB3.out.size); clear hb4)
        | (go_at_call 5; (with_reducible refine (HES.out _ HB4.out).mono ?_); rintro e w5 ⟨rfl, hb5⟩; have HB5 : Hid (Below wr.heap.size wr w5) := HB4.out.trans (hb5.mono HB4.out.size); clear hb5)
        | (go_at_call 6; (with_reducible refine (HST.out _ HB5.out).mono ?_); rintro e w6 ⟨rfl, hb6⟩; have HB6 : Hid (Below wr.heap.size wr w6) := HB5.out.trans (hb6.mono HB5.out.size); clear hb6))
      have HTW6 : Hid (Tw w.heap.size w6 (.slice a1 qs.length c1) rs X) := by unfold Hid; rw [← HGL.out]; exact HTW0.out.below HB6.out
      have HBw6 : Hid (Below w.heap.size w w6) := HB.out.trans (HB6.out.mono HB.out.size)
      clear hMM hMN HRS HES HST HTR
      go_loopw [42] (fun i wr => ∃ (k : Nat) (rs : List Rr) (Y : List (List Vl)), k ≤ qs.length ∧ i = .int .i64 k ∧ Below w.heap.size w wr ∧ Tw w.heap.size wr (.slice a1 qs.length c1) rs Y ∧ Y.length = qs.length ∧ (∀ l ∈ Y, ∀ x ∈ l, VlOk x) ∧ wgT Y ≤ 1048576) (fun i _ => qs.length - (intOf i).toNat)
      case atStart => exact ⟨0, rs, X, Nat.zero_le _, rfl, HBw6.out, HTW6.out, HXl.out, HOK.out, HWG.out⟩
      case round =>
        obtain ⟨k2, rs2, Y, hk2, rfl, hbel2, htw2, hyl, hyo, hyw⟩ := hrel
        have HBk : Hid (Below w.heap.size w wr) := hbel2
        have HTk : Hid (Tw w.heap.size wr (.slice a1 qs.length c1) rs2 Y) := htw2
        have HYL : Hid (Y.length = qs.length) := hyl
        have HYO : Hid (∀ l ∈ Y, ∀ x ∈ l, VlOk x) := hyo
        have HYW : Hid (wgT Y ≤ 1048576) := hyw
        clear hbel2 htw2 hyl hyo hyw
        by_cases hlt2 : k2 < qs.length
        · have hlt2' : (k2 : Int) < (qs.length : Int) := by omega
          obtain ⟨ys, hys⟩ : ∃ ys, Y[k2]? = some ys := ⟨_, List.getElem?_eq_getElem (by rw [HYL.out]; exact hlt2)⟩
          obtain ⟨q, hq, hown⟩ := HTk.out.at hys
          obtain ⟨g, c, hV, hcell, -⟩ := HTk.out.she.cellV hq
          obtain ⟨qa, qc, hqv, -, -⟩ := own_slice hown
          rw [hqv] at hcell
          obtain ⟨rfl, -, -⟩ : a1 = some ⟨g, 0, none⟩ ∧ qs.length = rs2.length ∧ c1 = c := by simpa using hV
          have HYS : Hid (Y[k2]? = some ys) := hys
          have hyl : ys.length ≤ 1048576 := by
            have h1 := wgT_mem Y ys (List.mem_of_getElem? hys)
            have h2 := wgE_len ys
            have := HYW.out
            omega
          clear hV hown hq hqv hys
          go_wp2
          go_loopw [50] (fun j wr => ∃ (m : Nat) (rs : List Rr) (Y : List (List Vl)) (zs : List Vl), m ≤ ys.length ∧ j = .int .i64 m ∧ Below w.heap.size w wr ∧ Tw w.heap.size wr (.slice (some ⟨g, 0, none⟩) qs.length c1) rs Y ∧ Y.length = qs.length ∧ Y[k2]? = some zs ∧ zs.length = ys.length ∧ (∀ l ∈ Y, ∀ x ∈ l, VlOk x) ∧ wgT Y ≤ 1048576) (fun j _ => ys.length - (intOf j).toNat)
          case atStart => exact ⟨0, rs2, Y, ys, Nat.zero_le _, rfl, HBk.out, HTk.out, HYL.out, HYS.out, rfl, HYO.out, HYW.out⟩
          case round =>
            obtain ⟨m, rs3, Z, zs, hm, rfl, hbel3, htw3, hzl, hzs, hzy, hzo, hzw⟩ := hrel
            have HBm : Hid (Below w.heap.size w wr) := hbel3
            have HTm : Hid (Tw w.heap.size wr (.slice (some ⟨g, 0, none⟩) qs.length c1) rs3 Z) := htw3
            have HZL : Hid (Z.length = qs.length) := hzl
            have HZS : Hid (Z[k2]? = some zs) := hzs
            have HZY : Hid (zs.length = ys.length) := hzy
            have HZO : Hid (∀ l ∈ Z, ∀ x ∈ l, VlOk x) := hzo
            have HZW : Hid (wgT Z ≤ 1048576) := hzw
            clear hbel3 htw3 hzl hzs hzy hzo hzw hcell
            by_cases hmt : m < ys.length
            · have hmt' : (m : Int) < (ys.length : Int) := by omega
              obtain ⟨x, hx⟩ : ∃ x, zs[m]? = some x := ⟨_, List.getElem?_eq_getElem (by rw [HZY.out]; exact hmt)⟩
              obtain ⟨q, hq, hown⟩ := HTm.out.at HZS.out
              obtain ⟨g', c', hV, hcell, -⟩ := HTm.out.she.cellV hq
              obtain ⟨qa, qc, hqv, hqs, -⟩ := own_slice hown
              obtain ⟨g2, rfl⟩ := hqs (by rw [HZY.out]; omega)
              rw [hqv] at hcell hown
              obtain ⟨rfl, -, -⟩ : g = g' ∧ qs.length = rs3.length ∧ c1 = c' := by simpa using hV
              obtain ⟨d0, d1, d2, d3⟩ := (Lies.own (α := Vl) hown).vl hx
              simp only [Nat.zero_add] at d0 d1 d2 d3
              have hfz : ∀ j, wr.frozen? ⟨g2, j, none⟩ = false := by
                intro j
                rcases hown.2 with ⟨h0, _⟩ | ⟨g9, c9, cur, hv9, _, hh, _⟩
                · cases h0
                · cases hv9; exact Lib.frozen_of_heap hh j
              have f0 := hfz (m * 4)
              have f1 := hfz (m * 4 + 1)
              have f2 := hfz (m * 4 + 2)
              have f3 := hfz (m * 4 + 3)
              have hg2 := (hown.lt g2 rfl)
              rw [HZY.out] at hcell hqv
              have HQ : Hid (rs3[k2]? = some q) := hq
              have HQV : Hid (q.v = .slice (some ⟨g2, 0, none⟩) ys.length qc) := hqv
              have HZX : Hid (zs[m]? = some x) := hx
              clear hV hown hq hqv hx hfz
              have HYV : Hid (wgE (zs.set m ⟨2, false, (k2 : Int) + 2 * (m : Int), ⟨#[]⟩⟩) ≤ wgE zs) := wgE_set zs m x _ HZX.out (by simp only [wgV]; show 0 + 5 ≤ _; omega)
              go_wp2
              go_roundw
              case rel =>
                obtain ⟨rs4, h4⟩ := HTm.out.set4 HQ.out (by rw [HZY.out]; exact HQV.out) HZS.out HZX.out ⟨2, false, (k2 : Int) + 2 * (m : Int), ⟨#[]⟩⟩
                refine ⟨m + 1, rs4, _, zs.set m ⟨2, false, (k2 : Int) + 2 * (m : Int), ⟨#[]⟩⟩, by omega, by go_num, ?_, h4, by rw [List.length_set]; exact HZL.out, ?_, by rw [List.length_set]; exact HZY.out, ?_, Nat.le_trans (wgT_set Z k2 zs _ HZS.out HYV.out) HZW.out⟩
                · exact (((HBm.out.setCell (p := ⟨g2, m * 4, none⟩) hg2.1 _).setCell (p := ⟨g2, m * 4 + 1, none⟩) hg2.1 _).setCell (p := ⟨g2, m * 4 + 2, none⟩) hg2.1 _).setCell (p := ⟨g2, m * 4 + 3, none⟩) hg2.1 _
                · rw [List.getElem?_set, if_pos rfl, if_pos (by rw [HZL.out]; exact hlt2)]
                · intro l hl y hy
                  rcases List.mem_or_eq_of_mem_set hl with h1 | h1
                  · exact HZO.out l h1 y hy
                  · subst h1
                    rcases List.mem_or_eq_of_mem_set hy with h2 | h2
                    · exact HZO.out zs (List.mem_of_getElem? HZS.out) y h2
                    · subst h2
                      exact ⟨by simp only; omega, by simp only; omega, by show 0 ≤ _; omega⟩
              case measure => simp [intOf]; omega
            · have hmge : ¬ (m : Int) < (ys.length : Int) := by omega
              go_wp2
              go_roundw
              case rel => exact ⟨k2 + 1, rs3, Z, by omega, by go_num, HBm.out, HTm.out, HZL.out, HZO.out, HZW.out⟩
              case measure => simp [intOf]; omega
        · have hge2 : ¬ (k2 : Int) < (qs.length : Int) := by omega
          obtain ⟨a5, c5, gs5, hV5, htr5, hgx5, hgl5⟩ := HTk.out.tr
          obtain ⟨rfl, hl5, rfl⟩ : a1 = a5 ∧ qs.length = gs5.length ∧ c1 = c5 := by simpa using hV5
          have HTR5 : Hid (∀ v, Below wr.heap.size wr v → Tr v a1 gs5) := fun v hv => htr5.below hv
          have HGX5 : Hid (gs5.map Rg.xs = Y) := hgx5
          have HL5 : Hid (qs.length = gs5.length) := hl5
          obtain ⟨M5, hM5⟩ : ∃ M : ByteArray, ⟨(shT Y).toArray⟩ = M := ⟨_, rfl⟩
          have HTT : Hid (∀ v, Below wr.heap.size wr v → Tbs v) := fun v hv => HT.out v (HBk.out.trans (hv.mono HBk.out.size))
          have HRS : Hid (∀ v, Below wr.heap.size wr v → Calls Tryd.prog 4 #[.slice a1 qs.length c1] v fun e w' => e = .returned (.string M5) ∧ Below v.heap.size v w') := fun v hv => by
            rw [← hM5, HL5.out]; exact rshows_of c1 (HTR5.out v hv) HGX5.out HYO.out HYW.out (HTT.out v hv)
          have HES : Hid (∀ v, Below wr.heap.size wr v → Calls Tryd.prog 5 #[.slice a1 qs.length c1] v fun e w' => e = .returned (.string M5) ∧ Below v.heap.size v w') := fun v hv => by
            rw [← hM5, HL5.out]; exact shows_of c1 (HTR5.out v hv) HGX5.out HYO.out HYW.out (HTT.out v hv)
          have HE1 : Hid (∀ v, Below wr.heap.size wr v → ∀ w9, w9 = (v.alloc (.cells #[] 28)).alloc (.cells #[.slice (some ⟨v.heap.size, 0, none⟩) 0 0] 23) → Calls Tryd.prog 5 #[.slice (some ⟨v.heap.size + 1, 0, none⟩) 1 1] w9 fun e w' => e = .returned (.string ⟨#[10]⟩) ∧ Below w9.heap.size w9 w') := by
            intro v hv w9 hw9
            have hb : Below v.heap.size v w9 := by rw [hw9]; exact ((Below.refl _ v).alloc (Nat.le_refl _) _).alloc (by simp) _
            refine shows_of (gs := [⟨some ⟨v.heap.size, 0, none⟩, 0, []⟩]) (X := [[]]) 1 ⟨.inr ⟨v.heap.size + 1, 0, rfl, by rw [hw9]; simp, fun j u hj => ?_⟩, fun r hr => ?_⟩ rfl (by simp) (by decide) (HTT.out w9 (hv.trans (hb.mono hv.size)))
            · rw [hw9]
              have h9 := cells_new (v.alloc (.cells #[] 28)) [.slice (some ⟨v.heap.size, 0, none⟩) 0 0] 23 j u hj
              rw [addr_add] at h9
              simpa using h9
            · simp at hr; subst hr; exact .inl rfl
          have hMM : (M5.toList == M5.toList) = true := by simp
          clear hV5 htr5 hgx5 hgl5 hl5 hM5
          go_wp2_with (first
            | (go_at_call 5; (with_reducible refine (HES.out _ (Below.refl _ _)).mono ?_); rintro e w7 ⟨rfl, hb7⟩; have HB7 : Hid (Below wr.heap.size wr w7) := hb7; clear hb7)
            | (go_at_call 4; (with_reducible refine (HRS.out _ HB7.out).mono ?_); rintro e w8 ⟨rfl, hb8⟩; have HB8 : Hid (Below wr.heap.size wr w8) := HB7.out.trans (hb8.mono HB7.out.size); clear hb8)
            | (go_at_call 5; (with_reducible refine (HE1.out w8 HB8.out _ rfl).mono ?_); rintro e w9 ⟨rfl, hb9⟩; have HB9 : Hid (Below w.heap.size w w9) := (((HBk.out.trans (HB8.out.mono HBk.out.size)).alloc (by have := HBk.out.size; have := HB8.out.size; omega) _).alloc (by have := HBk.out.size; have := HB8.out.size; simp; omega) _).trans (hb9.mono (by have := HBk.out.size; have := HB8.out.size; simp; omega)); clear hb9))
          go_ret
          exact ⟨rfl, HB9.out⟩
end Go.Proofs.YtifjmdgmnpchbaaDoor
