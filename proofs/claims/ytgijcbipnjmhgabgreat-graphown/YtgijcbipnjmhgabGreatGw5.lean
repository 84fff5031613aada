import Derived.Test.YtgijcbipnjmhgabGreatGw4
namespace Go.Proofs.YtgijcbipnjmhgabGreat
open Go.ChangeShapes Go.WideShapes Go.ChangeAt Go.RowKit
set_option linter.unusedVariables false
set_option linter.unusedSimpArgs false

/-- the lists after m marks more, and one more for those below k -/
def Grn (α : Type) [Rw α] (mk : Nat → α) (m k : Nat) (rs ts : List Rr) : Prop := ts.length = rs.length ∧ ∀ (j : Nat) r t, rs[j]? = some r → ts[j]? = some t → t.n = r.n + m + (if j < k then 1 else 0) ∧ t.xs = flat (List.replicate t.n (mk j))
theorem Grn.one {α : Type} [Rw α] {mk : Nat → α} {m n tn : Nat} {rs ts : List Rr} {r0 : Rr} {v : Value} {news : List Value} (h : Grn α mk m n rs ts) (hr0 : rs[n]? = some r0) (htn : tn = r0.n + m + 0) (hn : news = Rw.cs (mk n)) : Grn α mk m (n + 1) rs (ts.set n ⟨v, tn + 1, flat (List.replicate tn (mk n)) ++ news⟩) := by
  have hnl := (List.getElem?_eq_some_iff.1 hr0).1
  refine ⟨by rw [List.length_set]; exact h.1, fun j r t hr ht => ?_⟩
  rw [List.getElem?_set] at ht
  by_cases hjn : n = j
  · subst hjn
    rw [if_pos rfl, if_pos (by have := h.1; omega)] at ht
    rw [← Option.some.inj ht]
    have hrr : r = r0 := by rw [hr0] at hr; exact (Option.some.inj hr).symm
    rw [hrr, if_pos (Nat.lt_succ_self _)]
    refine ⟨?_, ?_⟩
    · show tn + 1 = _
      omega
    · show _ = flat (List.replicate (tn + 1) (mk n))
      rw [flat_snoc, hn]
  · rw [if_neg hjn] at ht
    obtain ⟨h1, h2⟩ := h.2 j r t hr ht
    refine ⟨?_, h2⟩
    rw [h1]
    by_cases hj : j < n
    · rw [if_pos hj, if_pos (by omega)]
    · rw [if_neg hj, if_neg (by omega)]
theorem Grn.all {α : Type} [Rw α] {mk : Nat → α} {m n : Nat} {rs ts : List Rr} (h : Grn α mk m n rs ts) (hn : rs.length ≤ n) : Grn α mk (m + 1) 0 rs ts := by
  refine ⟨h.1, fun j r t hr ht => ?_⟩
  obtain ⟨h1, h2⟩ := h.2 j r t hr ht
  refine ⟨?_, h2⟩
  have hj := (List.getElem?_eq_some_iff.1 hr).1
  rw [if_pos (by omega)] at h1
  rw [if_neg (by omega)]
  omega

set_option maxRecDepth 1000000 in
set_option maxHeartbeats 4000000 in
theorem grow_any (b B : Nat) (w : World) (V U I J : Value) (rn un ri ui : List Rr) (hT : ShT b B w V U I J rn un ri ui) (hrn : rn.length ≤ 1000) (hri : ri.length ≤ 1000) (hn : ∀ r ∈ rn, r.n ≤ 4194304) (hm : ∀ r ∈ ri, r.n ≤ 4194304) (hGn : Grn Nd mkNd 0 0 rn rn) (hGi : Grn Int mkI 0 0 ri ri) :
    Calls Tryz.prog 41 #[.pointer (some ⟨b, 0, none⟩)] w fun e w' => (∃ x, e = .returned x) ∧ ∃ tn ti, ShT b B w' V U I J tn un ti ui ∧ Grn Nd mkNd 70 0 rn tn ∧ Grn Int mkI 70 0 ri ti ∧ Below b w w' := by
  obtain ⟨i0, hi0, hz0, hz1, hz2⟩ := info_parts infoNd
  obtain ⟨i1, hi1, hy0, hy1, hy2⟩ := info_parts infoInt
  obtain ⟨aV, cV, rfl, -, -⟩ := own_slice hT.n.outV
  obtain ⟨aU, cU, rfl, -, -⟩ := own_slice hT.n.outU
  obtain ⟨aI, cI, rfl, -, -⟩ := own_slice hT.i.outV
  obtain ⟨aJ, cJ, rfl, -, -⟩ := own_slice hT.i.outU
  have HT : Hid (ShT b B w (.slice aV rn.length cV) (.slice aU un.length cU) (.slice aI ri.length cI) (.slice aJ ui.length cJ) rn un ri ui) := hT
  have HN : Hid (∀ r ∈ rn, r.n ≤ 4194304) := hn
  have HM : Hid (∀ r ∈ ri, r.n ≤ 4194304) := hm
  have HGN : Hid (Grn Nd mkNd 0 0 rn rn) := hGn
  have HGI : Hid (Grn Int mkI 0 0 ri ri) := hGi
  have hbB := hT.lt
  clear hT hn hm hGn hGi
  go_enter Tryz.func41, Tryz.ntmps41
  go_wp2
  go_loopg [2] 70 (fun gk si wr => ∃ (m : Nat) (tn ti : List Rr), gk = 70 - m ∧ m ≤ 70 ∧ si = .int .i64 (m : Int) ∧ ShT b B wr (.slice aV rn.length cV) (.slice aU un.length cU) (.slice aI ri.length cI) (.slice aJ ui.length cJ) tn un ti ui ∧ Grn Nd mkNd m 0 rn tn ∧ Grn Int mkI m 0 ri ti ∧ Below b w wr)
  case atStart => exact ⟨0, rn, ri, rfl, Nat.zero_le _, rfl, HT.out, HGN.out, HGI.out, Below.refl _ _⟩
  case round =>
    obtain ⟨m, tn, ti, rfl, hm, rfl, hSr, hG, hG2, hbel⟩ := hrel
    clear HGN HGI
    have SR : Hid (ShT b B wr (.slice aV rn.length cV) (.slice aU un.length cU) (.slice aI ri.length cI) (.slice aJ ui.length cJ) tn un ti ui) := hSr
    have HG : Hid (Grn Nd mkNd m 0 rn tn) := hG
    have HGI : Hid (Grn Int mkI m 0 ri ti) := hG2
    have HB : Hid (Below b w wr) := hbel
    clear hSr hG hG2 hbel
    by_cases hm70 : m < 70
    · have hm70' : (m : Int) < 70 := by omega
      have c0 : wr.cell? ⟨b, 0, none⟩ = some (.slice none 0 0) := SR.out.box.cell 0
      have c2 : wr.cell? ⟨b, 2, none⟩ = some (.slice aV rn.length cV) := SR.out.box.cell 2
      go_wp2
      refine wp_loop_rounds 1 ?_
      rw [rounds_succ]
      go_wp2
      clear c0 c2
      go_loopg [45] rn.length (fun gi si wi => ∃ (n : Nat) (tn : List Rr), gi = rn.length - n ∧ n ≤ rn.length ∧ si = .int .i64 (n : Int) ∧ ShT b B wi (.slice aV rn.length cV) (.slice aU un.length cU) (.slice aI ri.length cI) (.slice aJ ui.length cJ) tn un ti ui ∧ Grn Nd mkNd m n rn tn ∧ Below b w wi)
      case atStart => exact ⟨0, tn, rfl, Nat.zero_le _, rfl, SR.out, HG.out, HB.out⟩
      case round =>
        obtain ⟨n, tn, rfl, hn, rfl, hSr, hG, hbel⟩ := hrel
        clear SR HG HB
        have SR : Hid (ShT b B wr (.slice aV rn.length cV) (.slice aU un.length cU) (.slice aI ri.length cI) (.slice aJ ui.length cJ) tn un ti ui) := hSr
        have HG : Hid (Grn Nd mkNd m n rn tn) := hG
        have HB : Hid (Below b w wr) := hbel
        clear hSr hG hbel
        by_cases hlt : n < rn.length
        · have hlt' : (n : Int) < (rn.length : Int) := by omega
          have hn0 : (0 : Int) ≤ (n : Int) := by omega
          obtain ⟨r0, hr0⟩ : ∃ r, rn[n]? = some r := ⟨_, List.getElem?_eq_getElem hlt⟩
          obtain ⟨t, ht⟩ : ∃ t, tn[n]? = some t := ⟨_, List.getElem?_eq_getElem (by have := HG.out.1; omega)⟩
          obtain ⟨htn, htx⟩ := HG.out.2 n r0 t hr0 ht
          rw [if_neg (Nat.lt_irrefl n)] at htn
          have hr0n := HN.out r0 (List.mem_of_getElem? hr0)
          obtain ⟨gV, cV', hV, cv, fv⟩ := SR.out.n.cellV ht
          rw [HG.out.1] at hV
          simp only [Value.slice.injEq] at hV
          obtain ⟨rfl, -, rfl⟩ := hV
          have hro := SR.out.n.get ht
          obtain ⟨a1, c1, hv1, -, -⟩ := own_slice hro
          obtain ⟨tv, tk, tx⟩ := t
          simp only at htn htx hv1 hro cv
          subst hv1
          subst htx
          have HT9 : Hid (tn[n]? = some ⟨(.slice a1 tk c1), tk, flat (List.replicate tk (mkNd n))⟩) := ht
          have HRO : Hid (wr.ownsRow B 116 4 (.slice a1 tk c1) tk (flat (List.replicate tk (mkNd n)))) := hro
          have HR0 : Hid (rn[n]? = some r0) := hr0
          have c4 : wr.cell? ⟨b, 2, none⟩ = some (.slice (some ⟨gV, 0, none⟩) rn.length cV) := SR.out.box.cell 2
          have htb : tk ≤ 4194404 := by omega
          have HTN : Hid (tk = r0.n + m + 0) := htn
          have HSr : wr.cell? ⟨b, 2, none⟩ = some (.slice (some ⟨gV, 0, none⟩) rn.length cV) ∧ wr.cell? ⟨gV, n, none⟩ = some (.slice a1 tk c1) := ⟨c4, cv⟩
          clear hr0 ht hro hr0n htn
          · go_upto_region 11 with fail
            refine wp_region_G (fun z => z.cell? ⟨b, 2, none⟩ = some (.slice (some ⟨gV, 0, none⟩) rn.length cV) ∧ z.cell? ⟨gV, n, none⟩ = some (.slice a1 tk c1)) 18 (by kernel_rfl) ?_
            refine wpAnyG_take (i := 0) (v := .pointer (some ⟨b, 0, none⟩)) rfl (by kernel_rfl) (by kernel_rfl) (by kernel_rfl) (fun _ _ _ h => h) (by kernel_rfl) (by kernel_rfl) (by kernel_rfl) (Or.inl ⟨by rfl, fun z hz => ?_⟩) HSr ?_
            · obtain ⟨hz4, hzr⟩ := hz
              go_simp
            try simp only [Act.put, List.setIfInBounds_toArray, List.set_cons_zero, List.set_cons_succ]
            refine wpAnyG_take (i := 1) (v := .pointer (some ⟨b, 0, none⟩)) rfl (by kernel_rfl) (by kernel_rfl) (by kernel_rfl) (fun _ _ _ h => h) (by kernel_rfl) (by kernel_rfl) (by kernel_rfl) (Or.inl ⟨by rfl, fun z hz => ?_⟩) HSr ?_
            · obtain ⟨hz4, hzr⟩ := hz
              go_simp
            try simp only [Act.put, List.setIfInBounds_toArray, List.set_cons_zero, List.set_cons_succ]
            refine wpAnyG_take (i := 2) (v := .pointer (some ⟨b, 2, none⟩)) rfl (by kernel_rfl) (by kernel_rfl) (by kernel_rfl) (fun _ _ _ h => h) (by kernel_rfl) (by kernel_rfl) (by kernel_rfl) (Or.inl ⟨by rfl, fun z hz => ?_⟩) HSr ?_
            · obtain ⟨hz4, hzr⟩ := hz
              go_simp
            try simp only [Act.put, List.setIfInBounds_toArray, List.set_cons_zero, List.set_cons_succ]
            refine wpAnyG_take (i := 3) (v := .slice (some ⟨gV, 0, none⟩) rn.length cV) rfl (by kernel_rfl) (by kernel_rfl) (by kernel_rfl) (fun _ _ _ h => h) (by kernel_rfl) (by kernel_rfl) (by kernel_rfl) (Or.inl ⟨by rfl, fun z hz => ?_⟩) HSr ?_
            · obtain ⟨hz4, hzr⟩ := hz
              go_simp
            try simp only [Act.put, List.setIfInBounds_toArray, List.set_cons_zero, List.set_cons_succ]
            refine wpAnyG_take (i := 4) (v := .int .i64 (n : Int)) rfl (by kernel_rfl) (by kernel_rfl) (by kernel_rfl) (fun _ _ _ h => h) (by kernel_rfl) (by kernel_rfl) (by kernel_rfl) (Or.inl ⟨by rfl, fun z hz => ?_⟩) HSr ?_
            · obtain ⟨hz4, hzr⟩ := hz
              go_simp
            try simp only [Act.put, List.setIfInBounds_toArray, List.set_cons_zero, List.set_cons_succ]
            refine wpAnyG_take (i := 5) (v := .pointer (some ⟨b, 0, none⟩)) rfl (by kernel_rfl) (by kernel_rfl) (by kernel_rfl) (fun _ _ _ h => h) (by kernel_rfl) (by kernel_rfl) (by kernel_rfl) (Or.inl ⟨by rfl, fun z hz => ?_⟩) HSr ?_
            · obtain ⟨hz4, hzr⟩ := hz
              go_simp
            try simp only [Act.put, List.setIfInBounds_toArray, List.set_cons_zero, List.set_cons_succ]
            refine wpAnyG_take (i := 6) (v := .pointer (some ⟨b, 0, none⟩)) rfl (by kernel_rfl) (by kernel_rfl) (by kernel_rfl) (fun _ _ _ h => h) (by kernel_rfl) (by kernel_rfl) (by kernel_rfl) (Or.inl ⟨by rfl, fun z hz => ?_⟩) HSr ?_
            · obtain ⟨hz4, hzr⟩ := hz
              go_simp
            try simp only [Act.put, List.setIfInBounds_toArray, List.set_cons_zero, List.set_cons_succ]
            refine wpAnyG_take (i := 7) (v := .pointer (some ⟨b, 2, none⟩)) rfl (by kernel_rfl) (by kernel_rfl) (by kernel_rfl) (fun _ _ _ h => h) (by kernel_rfl) (by kernel_rfl) (by kernel_rfl) (Or.inl ⟨by rfl, fun z hz => ?_⟩) HSr ?_
            · obtain ⟨hz4, hzr⟩ := hz
              go_simp
            try simp only [Act.put, List.setIfInBounds_toArray, List.set_cons_zero, List.set_cons_succ]
            refine wpAnyG_take (i := 8) (v := .slice (some ⟨gV, 0, none⟩) rn.length cV) rfl (by kernel_rfl) (by kernel_rfl) (by kernel_rfl) (fun _ _ _ h => h) (by kernel_rfl) (by kernel_rfl) (by kernel_rfl) (Or.inl ⟨by rfl, fun z hz => ?_⟩) HSr ?_
            · obtain ⟨hz4, hzr⟩ := hz
              go_simp
            try simp only [Act.put, List.setIfInBounds_toArray, List.set_cons_zero, List.set_cons_succ]
            refine wpAnyG_take (i := 9) (v := .int .i64 (n : Int)) rfl (by kernel_rfl) (by kernel_rfl) (by kernel_rfl) (fun _ _ _ h => h) (by kernel_rfl) (by kernel_rfl) (by kernel_rfl) (Or.inl ⟨by rfl, fun z hz => ?_⟩) HSr ?_
            · obtain ⟨hz4, hzr⟩ := hz
              go_simp
            try simp only [Act.put, List.setIfInBounds_toArray, List.set_cons_zero, List.set_cons_succ]
            refine wpAnyG_take (i := 10) (v := .pointer (some ⟨gV, n, none⟩)) rfl (by kernel_rfl) (by kernel_rfl) (by kernel_rfl) (fun _ _ _ h => h) (by kernel_rfl) (by kernel_rfl) (by kernel_rfl) (Or.inl ⟨by rfl, fun z hz => ?_⟩) HSr ?_
            · obtain ⟨hz4, hzr⟩ := hz
              go_simp
            try simp only [Act.put, List.setIfInBounds_toArray, List.set_cons_zero, List.set_cons_succ]
            refine wpAnyG_take (i := 11) (v := .slice a1 tk c1) rfl (by kernel_rfl) (by kernel_rfl) (by kernel_rfl) (fun _ _ _ h => h) (by kernel_rfl) (by kernel_rfl) (by kernel_rfl) (Or.inl ⟨by rfl, fun z hz => ?_⟩) HSr ?_
            · obtain ⟨hz4, hzr⟩ := hz
              go_simp
            try simp only [Act.put, List.setIfInBounds_toArray, List.set_cons_zero, List.set_cons_succ]
            refine wpAnyG_take (i := 12) (v := .int .i64 (n : Int)) rfl (by kernel_rfl) (by kernel_rfl) (by kernel_rfl) (fun _ _ _ h => h) (by kernel_rfl) (by kernel_rfl) (by kernel_rfl) (Or.inl ⟨by rfl, fun z hz => ?_⟩) HSr ?_
            · obtain ⟨hz4, hzr⟩ := hz
              go_simp
            try simp only [Act.put, List.setIfInBounds_toArray, List.set_cons_zero, List.set_cons_succ]
            refine wpAnyG_one (i := 13) (by kernel_rfl) rfl (fun K hK0 => ?_)
            have hK : Hid _ := hK0
            clear hK0
            go_simp
            refine (mark_any n _ (by omega)).mono ?_
            rintro e w5 ⟨rfl, rfl⟩
            refine hK.out _ _ (fun _ => HSr) ?_
            clear hK K
            try simp only [Act.put, List.setIfInBounds_toArray, List.set_cons_zero, List.set_cons_succ]
            refine wpAnyG_one (i := 14) (by kernel_rfl) rfl (fun K hK0 => ?_)
            have hK : Hid _ := hK0
            clear hK0
            go_simp
            refine hK.out _ _ (fun _ => HSr) ?_
            clear hK K
            try simp only [Act.put, List.setIfInBounds_toArray, List.set_cons_zero, List.set_cons_succ]
            refine wpAnyG_one (i := 15) (by kernel_rfl) rfl (fun K hK0 => ?_)
            have hK : Hid _ := hK0
            clear hK0
            go_simp
            obtain ⟨WA, hWA⟩ : ∃ WA, (wr.alloc (.cells #[Value.int .u8 0, .int .i64 (-7777 - (n : Int)), .int .i64 0, .int .i64 0] 116)).drew = WA := ⟨_, rfl⟩
            have hA : Below wr.heap.size wr WA := by rw [← hWA]; exact ((Below.refl _ wr).alloc (Nat.le_refl _) _).drew
            have HNW : Hid (∀ j u, [Value.int .u8 0, .int .i64 (-7777 - (n : Int)), .int .i64 0, .int .i64 0][j]? = some u → WA.cell? ((⟨wr.heap.size, 0, none⟩ : Addr).add j) = some u) := by unfold Hid; rw [← hWA]; exact cells_newR wr [Value.int .u8 0, .int .i64 (-7777 - (n : Int)), .int .i64 0, .int .i64 0] 116
            have HZA : Hid (WA.heap.size = wr.heap.size + 1) := by unfold Hid; rw [← hWA]; show (wr.alloc _).heap.size = _; simp
            have SA : Hid (ShT b B WA (.slice (some ⟨gV, 0, none⟩) rn.length cV) (.slice aU un.length cU) (.slice aI ri.length cI) (.slice aJ ui.length cJ) tn un ti ui) := SR.out.below hA
            have HSa : WA.cell? ⟨b, 2, none⟩ = some (.slice (some ⟨gV, 0, none⟩) rn.length cV) ∧ WA.cell? ⟨gV, n, none⟩ = some (.slice a1 tk c1) := ⟨SA.out.box.cell 2, (hA.cell (World.block_lt_of_cell? _ _ cv)).trans cv⟩
            rw [hWA]
            clear hWA
            refine hK.out _ _ (fun _ => HSa) ?_
            clear hK K
            try simp only [Act.put, List.setIfInBounds_toArray, List.set_cons_zero, List.set_cons_succ]
            refine wpAnyG_one (i := 16) (by kernel_rfl) rfl (fun K hK0 => ?_)
            have hK : Hid _ := hK0
            clear hK0
            refine step_append_lies _ (by rfl) _ _ _ (by rfl) B 116 i0 (.agg #[.int .u8 0, .int .i64 0, .int .i64 0, .int .i64 0]) 4 32 Tryz.underlying102 hi0 hz0 hz1 hz2 rfl (by omega) (.slice a1 tk c1) tk (flat (List.replicate tk (mkNd n))) (by rfl) (SA.out.n.get HT9.out) ⟨wr.heap.size, 0, none⟩ 1 1 [Value.int .u8 0, .int .i64 (-7777 - (n : Int)), .int .i64 0, .int .i64 0] (by rfl) (by rfl) HNW.out (by intro u hu; simp at hu; rcases hu with rfl | rfl | rfl | rfl <;> rfl) (by omega) (by unfold maxLen; omega) (by omega) (by have := SR.out.le; have := HZA.out; omega) (wr.heap.size + 1) HZA.out ?_
            intro gg cp w9 hown9 hgrow9 hat9 hlt9
            have hrowV : ∀ g, (Value.slice a1 tk c1).ownBlock = some g → g ≠ gV := fun g hg e => own_otherR SR.out.n.outV (SR.out.n.get HT9.out) (by decide) hg (by rw [e]; rfl)
            have hrowb : (Value.slice a1 tk c1).ownBlock ≠ some b := fun h => by have := (HRO.out.lt b h).1; omega
            have hgVb : b ≠ gV := fun e => by have := (SR.out.n.outV.lt gV rfl).1; omega
            have X9 : Hid (Bx w9 b (bxT (.slice (some ⟨gV, 0, none⟩) rn.length cV) (.slice aU un.length cU) (.slice aI ri.length cI) (.slice aJ ui.length cJ)) 30) := SA.out.box.grw hgrow9 hrowb
            have hoV9 : w9.ownsRow B 102 1 (.slice (some ⟨gV, 0, none⟩) rn.length cV) tn.length (tn.map Rr.v) := own_grwR SA.out.n.outV hgrow9 (fun g hg h => own_otherR SR.out.n.outV (SR.out.n.get HT9.out) (by decide) hg h)
            have G9 : Hid (ShT b B (w9.setCell ⟨gV, n, none⟩ (.slice (some ⟨gg, 0, none⟩) (tk + 1) cp)) (.slice (some ⟨gV, 0, none⟩) rn.length cV) (.slice aU un.length cU) (.slice aI ri.length cI) (.slice aJ ui.length cJ) (tn.set n ⟨.slice (some ⟨gg, 0, none⟩) (tk + 1) cp, tk + 1, flat (List.replicate tk (mkNd n)) ++ [Value.int .u8 0, .int .i64 (-7777 - (n : Int)), .int .i64 0, .int .i64 0]⟩) un ti ui) :=
              ⟨X9.out.other ⟨gV, n, none⟩ hgVb _, SA.out.n.grow (by decide) (m := 1) HT9.out hown9 hgrow9 (hat9.elim (fun h => .inl h.symm) (fun h => .inr (by rw [h, HZA.out]; rfl))) (by rw [HG.out.1]), ((SA.out.i.grwFar (SA.out.n.get HT9.out) hgrow9 (by decide) (by decide)).rowFar hoV9 rfl (by decide) (by decide) _ _), hbB, by have h1 := SR.out.le; have h2 := hgrow9.size; have h3 := HZA.out; simp; omega⟩
            have cv9 : w9.cell? ⟨gV, n, none⟩ = some (.slice a1 tk c1) := by
              have hlV := (SR.out.n.outV.lt gV rfl).2
              unfold World.cell?
              rw [hgrow9.block gV (by rw [HZA.out]; omega) (fun e => hrowV gV e.symm rfl)]
              exact HSa.2
            have fv9 : w9.frozen? ⟨gV, n, none⟩ = false := by
              have hlV := (SR.out.n.outV.lt gV rfl).2
              unfold World.frozen?
              rw [hgrow9.block gV (by rw [HZA.out]; omega) (fun e => hrowV gV e.symm rfl), hA.block gV hlV]
              exact fv
            have HS9 : w9.cell? ⟨b, 2, none⟩ = some (.slice (some ⟨gV, 0, none⟩) rn.length cV) ∧ w9.cell? ⟨gV, n, none⟩ = some (.slice a1 tk c1) := ⟨X9.out.cell 2, cv9⟩
            have B9 : Hid (Below b w w9) := (HB.out.trans (hA.mono (by have := SR.out.le; omega))).grown hgrow9 (by rw [HZA.out]; have := SR.out.le; omega) (fun g h => by have := (HRO.out.lt g h).1; omega)
            clear hown9 hgrow9 hat9 hlt9 hoV9
            refine hK.out _ _ (fun _ => HS9) ?_
            clear hK K
            try simp only [Act.put, List.setIfInBounds_toArray, List.set_cons_zero, List.set_cons_succ]
            refine wpAnyG_one (i := 17) (by kernel_rfl) rfl (fun K hK0 => ?_)
            have hK : Hid _ := hK0
            clear hK0
            go_simp
            refine hK.out _ _ (fun _ => HS9) ?_
            clear hK K
            try simp only [Act.put, List.setIfInBounds_toArray, List.set_cons_zero, List.set_cons_succ]
            refine wpAnyG_one (i := 18) (by kernel_rfl) rfl (fun K hK0 => ?_)
            have hK : Hid _ := hK0
            clear hK0
            go_simp
            refine hK.out _ _ (fun h => Bool.noConfusion (show true = false from h)) ?_
            clear hK K
            try simp only [Act.put, List.setIfInBounds_toArray, List.set_cons_zero, List.set_cons_succ]
            refine wpAnyG_done (by kernel_rfl) ?_ _
            go_wp2
            go_roundg (rn.length - (n + 1))
            case measure => omega
            case rel => exact ⟨n + 1, _, rfl, by omega, by go_num, G9.out, HG.out.one HR0.out HTN.out rfl, B9.out.setCell (p := ⟨gV, n, none⟩) (by show b ≤ gV; have := (SR.out.n.outV.lt gV rfl).1; omega) _⟩
        · have hlt' : ¬ (n : Int) < (rn.length : Int) := by omega
          have d4 : wr.cell? ⟨b, 4, none⟩ = some (.slice none 0 0) := SR.out.box.cell 4
          have d6 : wr.cell? ⟨b, 6, none⟩ = some (.slice aI ri.length cI) := SR.out.box.cell 6
          have HGN : Hid (Grn Nd mkNd (m + 1) 0 rn tn) := HG.out.all (by omega)
          clear hlt HG
          go_wp2
          refine wp_loop_rounds 1 ?_
          rw [rounds_succ]
          go_wp2
          clear d4 d6 hlt' hn
          go_loopg [99] ri.length (fun gi si wi => ∃ (n : Nat) (ti : List Rr), gi = ri.length - n ∧ n ≤ ri.length ∧ si = .int .i64 (n : Int) ∧ ShT b B wi (.slice aV rn.length cV) (.slice aU un.length cU) (.slice aI ri.length cI) (.slice aJ ui.length cJ) tn un ti ui ∧ Grn Int mkI m n ri ti ∧ Below b w wi)
          case atStart => exact ⟨0, ti, rfl, Nat.zero_le _, rfl, SR.out, HGI.out, HB.out⟩
          case round =>
            obtain ⟨n, ti, rfl, hn, rfl, hSr, hG, hbel⟩ := hrel
            clear SR HGI HB
            have SR : Hid (ShT b B wr (.slice aV rn.length cV) (.slice aU un.length cU) (.slice aI ri.length cI) (.slice aJ ui.length cJ) tn un ti ui) := hSr
            have HGI : Hid (Grn Int mkI m n ri ti) := hG
            have HB : Hid (Below b w wr) := hbel
            clear hSr hG hbel
            by_cases hlt : n < ri.length
            · have hlt' : (n : Int) < (ri.length : Int) := by omega
              have hn0 : (0 : Int) ≤ (n : Int) := by omega
              obtain ⟨r0, hr0⟩ : ∃ r, ri[n]? = some r := ⟨_, List.getElem?_eq_getElem hlt⟩
              obtain ⟨t, ht⟩ : ∃ t, ti[n]? = some t := ⟨_, List.getElem?_eq_getElem (by have := HGI.out.1; omega)⟩
              obtain ⟨htn, htx⟩ := HGI.out.2 n r0 t hr0 ht
              rw [if_neg (Nat.lt_irrefl n)] at htn
              have hr0n := HM.out r0 (List.mem_of_getElem? hr0)
              obtain ⟨gV, cV', hV, cv, fv⟩ := SR.out.i.cellV ht
              rw [HGI.out.1] at hV
              simp only [Value.slice.injEq] at hV
              obtain ⟨rfl, -, rfl⟩ := hV
              have hro := SR.out.i.get ht
              obtain ⟨a1, c1, hv1, -, -⟩ := own_slice hro
              obtain ⟨tv, tk, tx⟩ := t
              simp only at htn htx hv1 hro cv
              subst hv1
              subst htx
              have HT9 : Hid (ti[n]? = some ⟨(.slice a1 tk c1), tk, flat (List.replicate tk (mkI n))⟩) := ht
              have HRO : Hid (wr.ownsRow B 3 1 (.slice a1 tk c1) tk (flat (List.replicate tk (mkI n)))) := hro
              have HR0 : Hid (ri[n]? = some r0) := hr0
              have c4 : wr.cell? ⟨b, 6, none⟩ = some (.slice (some ⟨gV, 0, none⟩) ri.length cI) := SR.out.box.cell 6
              have htb : tk ≤ 4194404 := by omega
              have HTN : Hid (tk = r0.n + m + 0) := htn
              have HSr : wr.cell? ⟨b, 6, none⟩ = some (.slice (some ⟨gV, 0, none⟩) ri.length cI) ∧ wr.cell? ⟨gV, n, none⟩ = some (.slice a1 tk c1) := ⟨c4, cv⟩
              clear hr0 ht hro hr0n htn
              · go_upto_region 21 with fail
                refine wp_region_G (fun z => z.cell? ⟨b, 6, none⟩ = some (.slice (some ⟨gV, 0, none⟩) ri.length cI) ∧ z.cell? ⟨gV, n, none⟩ = some (.slice a1 tk c1)) 17 (by kernel_rfl) ?_
                refine wpAnyG_take (i := 0) (v := .pointer (some ⟨b, 0, none⟩)) rfl (by kernel_rfl) (by kernel_rfl) (by kernel_rfl) (fun _ _ _ h => h) (by kernel_rfl) (by kernel_rfl) (by kernel_rfl) (Or.inl ⟨by rfl, fun z hz => ?_⟩) HSr ?_
                · obtain ⟨hz4, hzr⟩ := hz
                  go_simp
                try simp only [Act.put, List.setIfInBounds_toArray, List.set_cons_zero, List.set_cons_succ]
                refine wpAnyG_take (i := 1) (v := .pointer (some ⟨b, 0, none⟩)) rfl (by kernel_rfl) (by kernel_rfl) (by kernel_rfl) (fun _ _ _ h => h) (by kernel_rfl) (by kernel_rfl) (by kernel_rfl) (Or.inl ⟨by rfl, fun z hz => ?_⟩) HSr ?_
                · obtain ⟨hz4, hzr⟩ := hz
                  go_simp
                try simp only [Act.put, List.setIfInBounds_toArray, List.set_cons_zero, List.set_cons_succ]
                refine wpAnyG_take (i := 2) (v := .pointer (some ⟨b, 6, none⟩)) rfl (by kernel_rfl) (by kernel_rfl) (by kernel_rfl) (fun _ _ _ h => h) (by kernel_rfl) (by kernel_rfl) (by kernel_rfl) (Or.inl ⟨by rfl, fun z hz => ?_⟩) HSr ?_
                · obtain ⟨hz4, hzr⟩ := hz
                  go_simp
                try simp only [Act.put, List.setIfInBounds_toArray, List.set_cons_zero, List.set_cons_succ]
                refine wpAnyG_take (i := 3) (v := .slice (some ⟨gV, 0, none⟩) ri.length cI) rfl (by kernel_rfl) (by kernel_rfl) (by kernel_rfl) (fun _ _ _ h => h) (by kernel_rfl) (by kernel_rfl) (by kernel_rfl) (Or.inl ⟨by rfl, fun z hz => ?_⟩) HSr ?_
                · obtain ⟨hz4, hzr⟩ := hz
                  go_simp
                try simp only [Act.put, List.setIfInBounds_toArray, List.set_cons_zero, List.set_cons_succ]
                refine wpAnyG_take (i := 4) (v := .int .i64 (n : Int)) rfl (by kernel_rfl) (by kernel_rfl) (by kernel_rfl) (fun _ _ _ h => h) (by kernel_rfl) (by kernel_rfl) (by kernel_rfl) (Or.inl ⟨by rfl, fun z hz => ?_⟩) HSr ?_
                · obtain ⟨hz4, hzr⟩ := hz
                  go_simp
                try simp only [Act.put, List.setIfInBounds_toArray, List.set_cons_zero, List.set_cons_succ]
                refine wpAnyG_take (i := 5) (v := .pointer (some ⟨b, 0, none⟩)) rfl (by kernel_rfl) (by kernel_rfl) (by kernel_rfl) (fun _ _ _ h => h) (by kernel_rfl) (by kernel_rfl) (by kernel_rfl) (Or.inl ⟨by rfl, fun z hz => ?_⟩) HSr ?_
                · obtain ⟨hz4, hzr⟩ := hz
                  go_simp
                try simp only [Act.put, List.setIfInBounds_toArray, List.set_cons_zero, List.set_cons_succ]
                refine wpAnyG_take (i := 6) (v := .pointer (some ⟨b, 0, none⟩)) rfl (by kernel_rfl) (by kernel_rfl) (by kernel_rfl) (fun _ _ _ h => h) (by kernel_rfl) (by kernel_rfl) (by kernel_rfl) (Or.inl ⟨by rfl, fun z hz => ?_⟩) HSr ?_
                · obtain ⟨hz4, hzr⟩ := hz
                  go_simp
                try simp only [Act.put, List.setIfInBounds_toArray, List.set_cons_zero, List.set_cons_succ]
                refine wpAnyG_take (i := 7) (v := .pointer (some ⟨b, 6, none⟩)) rfl (by kernel_rfl) (by kernel_rfl) (by kernel_rfl) (fun _ _ _ h => h) (by kernel_rfl) (by kernel_rfl) (by kernel_rfl) (Or.inl ⟨by rfl, fun z hz => ?_⟩) HSr ?_
                · obtain ⟨hz4, hzr⟩ := hz
                  go_simp
                try simp only [Act.put, List.setIfInBounds_toArray, List.set_cons_zero, List.set_cons_succ]
                refine wpAnyG_take (i := 8) (v := .slice (some ⟨gV, 0, none⟩) ri.length cI) rfl (by kernel_rfl) (by kernel_rfl) (by kernel_rfl) (fun _ _ _ h => h) (by kernel_rfl) (by kernel_rfl) (by kernel_rfl) (Or.inl ⟨by rfl, fun z hz => ?_⟩) HSr ?_
                · obtain ⟨hz4, hzr⟩ := hz
                  go_simp
                try simp only [Act.put, List.setIfInBounds_toArray, List.set_cons_zero, List.set_cons_succ]
                refine wpAnyG_take (i := 9) (v := .int .i64 (n : Int)) rfl (by kernel_rfl) (by kernel_rfl) (by kernel_rfl) (fun _ _ _ h => h) (by kernel_rfl) (by kernel_rfl) (by kernel_rfl) (Or.inl ⟨by rfl, fun z hz => ?_⟩) HSr ?_
                · obtain ⟨hz4, hzr⟩ := hz
                  go_simp
                try simp only [Act.put, List.setIfInBounds_toArray, List.set_cons_zero, List.set_cons_succ]
                refine wpAnyG_take (i := 10) (v := .pointer (some ⟨gV, n, none⟩)) rfl (by kernel_rfl) (by kernel_rfl) (by kernel_rfl) (fun _ _ _ h => h) (by kernel_rfl) (by kernel_rfl) (by kernel_rfl) (Or.inl ⟨by rfl, fun z hz => ?_⟩) HSr ?_
                · obtain ⟨hz4, hzr⟩ := hz
                  go_simp
                try simp only [Act.put, List.setIfInBounds_toArray, List.set_cons_zero, List.set_cons_succ]
                refine wpAnyG_take (i := 11) (v := .slice a1 tk c1) rfl (by kernel_rfl) (by kernel_rfl) (by kernel_rfl) (fun _ _ _ h => h) (by kernel_rfl) (by kernel_rfl) (by kernel_rfl) (Or.inl ⟨by rfl, fun z hz => ?_⟩) HSr ?_
                · obtain ⟨hz4, hzr⟩ := hz
                  go_simp
                try simp only [Act.put, List.setIfInBounds_toArray, List.set_cons_zero, List.set_cons_succ]
                refine wpAnyG_take (i := 12) (v := .int .i64 (n : Int)) rfl (by kernel_rfl) (by kernel_rfl) (by kernel_rfl) (fun _ _ _ h => h) (by kernel_rfl) (by kernel_rfl) (by kernel_rfl) (Or.inl ⟨by rfl, fun z hz => ?_⟩) HSr ?_
                · obtain ⟨hz4, hzr⟩ := hz
                  go_simp
                try simp only [Act.put, List.setIfInBounds_toArray, List.set_cons_zero, List.set_cons_succ]
                refine wpAnyG_one (i := 13) (by kernel_rfl) rfl (fun K hK0 => ?_)
                have hK : Hid _ := hK0
                clear hK0
                go_simp
                refine (mark_any n _ (by omega)).mono ?_
                rintro e w5 ⟨rfl, rfl⟩
                refine hK.out _ _ (fun _ => HSr) ?_
                clear hK K
                try simp only [Act.put, List.setIfInBounds_toArray, List.set_cons_zero, List.set_cons_succ]
                refine wpAnyG_one (i := 14) (by kernel_rfl) rfl (fun K hK0 => ?_)
                have hK : Hid _ := hK0
                clear hK0
                go_simp
                obtain ⟨WA, hWA⟩ : ∃ WA, (wr.alloc (.cells #[Value.int .i64 (-7777 - (n : Int))] 3)).drew = WA := ⟨_, rfl⟩
                have hA : Below wr.heap.size wr WA := by rw [← hWA]; exact ((Below.refl _ wr).alloc (Nat.le_refl _) _).drew
                have HNW : Hid (∀ j u, [Value.int .i64 (-7777 - (n : Int))][j]? = some u → WA.cell? ((⟨wr.heap.size, 0, none⟩ : Addr).add j) = some u) := by unfold Hid; rw [← hWA]; exact cells_newR wr [Value.int .i64 (-7777 - (n : Int))] 3
                have HZA : Hid (WA.heap.size = wr.heap.size + 1) := by unfold Hid; rw [← hWA]; show (wr.alloc _).heap.size = _; simp
                have SA : Hid (ShT b B WA (.slice aV rn.length cV) (.slice aU un.length cU) (.slice (some ⟨gV, 0, none⟩) ri.length cI) (.slice aJ ui.length cJ) tn un ti ui) := SR.out.below hA
                have HSa : WA.cell? ⟨b, 6, none⟩ = some (.slice (some ⟨gV, 0, none⟩) ri.length cI) ∧ WA.cell? ⟨gV, n, none⟩ = some (.slice a1 tk c1) := ⟨SA.out.box.cell 6, (hA.cell (World.block_lt_of_cell? _ _ cv)).trans cv⟩
                rw [hWA]
                clear hWA
                refine hK.out _ _ (fun _ => HSa) ?_
                clear hK K
                try simp only [Act.put, List.setIfInBounds_toArray, List.set_cons_zero, List.set_cons_succ]
                refine wpAnyG_one (i := 15) (by kernel_rfl) rfl (fun K hK0 => ?_)
                have hK : Hid _ := hK0
                clear hK0
                refine step_append_lies _ (by rfl) _ _ _ (by rfl) B 3 i1 (.int .i64 0) 1 8 Tryz.underlying32 hi1 hy0 hy1 hy2 rfl (by omega) (.slice a1 tk c1) tk (flat (List.replicate tk (mkI n))) (by rfl) (SA.out.i.get HT9.out) ⟨wr.heap.size, 0, none⟩ 1 1 [Value.int .i64 (-7777 - (n : Int))] (by rfl) (by rfl) HNW.out (by intro u hu; simp at hu; rcases hu with rfl <;> rfl) (by omega) (by unfold maxLen; omega) (by omega) (by have := SR.out.le; have := HZA.out; omega) (wr.heap.size + 1) HZA.out ?_
                intro gg cp w9 hown9 hgrow9 hat9 hlt9
                have hrowV : ∀ g, (Value.slice a1 tk c1).ownBlock = some g → g ≠ gV := fun g hg e => own_otherR SR.out.i.outV (SR.out.i.get HT9.out) (by decide) hg (by rw [e]; rfl)
                have hrowb : (Value.slice a1 tk c1).ownBlock ≠ some b := fun h => by have := (HRO.out.lt b h).1; omega
                have hgVb : b ≠ gV := fun e => by have := (SR.out.i.outV.lt gV rfl).1; omega
                have X9 : Hid (Bx w9 b (bxT (.slice aV rn.length cV) (.slice aU un.length cU) (.slice (some ⟨gV, 0, none⟩) ri.length cI) (.slice aJ ui.length cJ)) 30) := SA.out.box.grw hgrow9 hrowb
                have hoV9 : w9.ownsRow B 32 1 (.slice (some ⟨gV, 0, none⟩) ri.length cI) ti.length (ti.map Rr.v) := own_grwR SA.out.i.outV hgrow9 (fun g hg h => own_otherR SR.out.i.outV (SR.out.i.get HT9.out) (by decide) hg h)
                have G9 : Hid (ShT b B (w9.setCell ⟨gV, n, none⟩ (.slice (some ⟨gg, 0, none⟩) (tk + 1) cp)) (.slice aV rn.length cV) (.slice aU un.length cU) (.slice (some ⟨gV, 0, none⟩) ri.length cI) (.slice aJ ui.length cJ) tn un (ti.set n ⟨.slice (some ⟨gg, 0, none⟩) (tk + 1) cp, tk + 1, flat (List.replicate tk (mkI n)) ++ [Value.int .i64 (-7777 - (n : Int))]⟩) ui) :=
                  ⟨X9.out.other ⟨gV, n, none⟩ hgVb _, ((SA.out.n.grwFar (SA.out.i.get HT9.out) hgrow9 (by decide) (by decide)).rowFar hoV9 rfl (by decide) (by decide) _ _), SA.out.i.grow (by decide) (m := 1) HT9.out hown9 hgrow9 (hat9.elim (fun h => .inl h.symm) (fun h => .inr (by rw [h, HZA.out]; rfl))) (by rw [HGI.out.1]), hbB, by have h1 := SR.out.le; have h2 := hgrow9.size; have h3 := HZA.out; simp; omega⟩
                have cv9 : w9.cell? ⟨gV, n, none⟩ = some (.slice a1 tk c1) := by
                  have hlV := (SR.out.i.outV.lt gV rfl).2
                  unfold World.cell?
                  rw [hgrow9.block gV (by rw [HZA.out]; omega) (fun e => hrowV gV e.symm rfl)]
                  exact HSa.2
                have fv9 : w9.frozen? ⟨gV, n, none⟩ = false := by
                  have hlV := (SR.out.i.outV.lt gV rfl).2
                  unfold World.frozen?
                  rw [hgrow9.block gV (by rw [HZA.out]; omega) (fun e => hrowV gV e.symm rfl), hA.block gV hlV]
                  exact fv
                have HS9 : w9.cell? ⟨b, 6, none⟩ = some (.slice (some ⟨gV, 0, none⟩) ri.length cI) ∧ w9.cell? ⟨gV, n, none⟩ = some (.slice a1 tk c1) := ⟨X9.out.cell 6, cv9⟩
                have B9 : Hid (Below b w w9) := (HB.out.trans (hA.mono (by have := SR.out.le; omega))).grown hgrow9 (by rw [HZA.out]; have := SR.out.le; omega) (fun g h => by have := (HRO.out.lt g h).1; omega)
                clear hown9 hgrow9 hat9 hlt9 hoV9
                refine hK.out _ _ (fun _ => HS9) ?_
                clear hK K
                try simp only [Act.put, List.setIfInBounds_toArray, List.set_cons_zero, List.set_cons_succ]
                refine wpAnyG_one (i := 16) (by kernel_rfl) rfl (fun K hK0 => ?_)
                have hK : Hid _ := hK0
                clear hK0
                go_simp
                refine hK.out _ _ (fun _ => HS9) ?_
                clear hK K
                try simp only [Act.put, List.setIfInBounds_toArray, List.set_cons_zero, List.set_cons_succ]
                refine wpAnyG_one (i := 17) (by kernel_rfl) rfl (fun K hK0 => ?_)
                have hK : Hid _ := hK0
                clear hK0
                go_simp
                refine hK.out _ _ (fun h => Bool.noConfusion (show true = false from h)) ?_
                clear hK K
                try simp only [Act.put, List.setIfInBounds_toArray, List.set_cons_zero, List.set_cons_succ]
                refine wpAnyG_done (by kernel_rfl) ?_ _
                go_wp2
                go_roundg (ri.length - (n + 1))
                case measure => omega
                case rel => exact ⟨n + 1, _, rfl, by omega, by go_num, G9.out, HGI.out.one HR0.out HTN.out rfl, B9.out.setCell (p := ⟨gV, n, none⟩) (by show b ≤ gV; have := (SR.out.i.outV.lt gV rfl).1; omega) _⟩
            · have hlt' : ¬ (n : Int) < (ri.length : Int) := by omega
              have d8 : wr.cell? ⟨b, 8, none⟩ = some (.slice none 0 0) := SR.out.box.cell 8
              have d10 : wr.cell? ⟨b, 10, none⟩ = some (.slice none 0 0) := SR.out.box.cell 10
              have HG9 : Hid (Grn Int mkI (m + 1) 0 ri ti) := HGI.out.all (by omega)
              go_wp2
              refine wp_loop_rounds 1 ?_
              rw [rounds_succ]
              go_wp2
              refine wp_loop_rounds 1 ?_
              rw [rounds_succ]
              go_wp2
              go_roundg (70 - (m + 1))
              case measure => omega
              case rel => exact ⟨m + 1, tn, ti, rfl, by omega, by go_num, SR.out, HGN.out, HG9.out, HB.out⟩
    · have hm70' : ¬ (m : Int) < 70 := by omega
      go_wp2
      go_end0
      have he : m = 70 := by omega
      subst he
      exact ⟨⟨_, rfl⟩, tn, ti, SR.out, HG.out, HGI.out, HB.out⟩
end Go.Proofs.YtgijcbipnjmhgabGreat
