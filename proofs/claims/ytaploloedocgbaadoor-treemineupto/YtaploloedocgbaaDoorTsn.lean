import Derived.Test.YtaploloedocgbaaDoorTsm
namespace Go.Proofs.YtaploloedocgbaaDoor
open Go.ChangeShapes Go.WideShapes Go.ChangeAt Go.RowKit
set_option linter.unusedVariables false
set_option linter.unusedSimpArgs false

set_option maxRecDepth 1000000 in
set_option maxHeartbeats 2000000 in
theorem shelfInts_any (b B : Nat) (w : World) (N M V U : Value) (rn un rs us : List Rr) (L : Rr) (hT : ShT b B w N M V U rn un rs us) (hL : w.ownsRow B 3 1 L.v L.n L.xs) (hap : ∀ q ∈ rs ++ us, ApR q L) (h1 : ∀ u ∈ L.xs, u.oneCell' = true) (hn : L.n ≤ 4194304) (hrs : rs.length ≤ 1000) (hus : us.length ≤ 1000) :
    Calls Tryd.prog 23 #[.pointer (some ⟨b, 0, none⟩), L.v] w fun e w' => (∃ x, e = .returned x) ∧ ∃ V' U' u, ShT b B w' N M V' U' rn un (rs ++ [L]) (us ++ [u]) ∧ u.n = L.n ∧ u.xs = L.xs ∧ (∀ g, u.v.ownBlock = some g → w.heap.size ≤ g) ∧ Frm b V U w w' := by
  obtain ⟨i0, hi0, hz0, hz1, hz2⟩ := info_parts infoRowI
  obtain ⟨hbx, hN, hS, hbB, hB⟩ := hT
  have HN : Hid (She 57 23 4 B w N M rn un) := hN
  obtain ⟨Lv, Ln, Lx⟩ := L
  simp only at hL h1 hn
  have HX : Hid (Bx w b (bxT N M V U) 35) := hbx
  have HS : Hid (She 3 39 1 B w V U rs us) := hS
  have HL : Hid (w.ownsRow B 3 1 Lv Ln Lx) := hL
  have HAP : Hid (∀ q ∈ rs ++ us, ApR q ⟨Lv, Ln, Lx⟩) := hap
  have H1 : Hid (∀ u ∈ Lx, u.oneCell' = true) := h1
  have HLo : Hid (Lv.oneCell' = true) := own_one hL
  have c4 : w.cell? ⟨b, 6, none⟩ = some V := hbx.cell 6
  have c5 : w.cell? ⟨b, 7, none⟩ = some U := hbx.cell 7
  clear hbx hN hS hL hap h1
  go_enter Tryd.func23, Tryd.ntmps23
  obtain ⟨aV, cV, rfl, -, -⟩ := own_slice HS.out.outV
  obtain ⟨aU, cU, rfl, -, -⟩ := own_slice HS.out.outU
  obtain ⟨aL, cL, rfl, -, -⟩ := own_slice HL.out
  have hVb : (Value.slice aV rs.length cV).ownBlock ≠ some b := fun h => by have := (HS.out.outV.lt b h).1; omega
  have hUb : (Value.slice aU us.length cU).ownBlock ≠ some b := fun h => by have := (HS.out.outU.lt b h).1; omega
  have HVB : Hid ((Value.slice aV rs.length cV).ownBlock ≠ some b ∧ (Value.slice aU us.length cU).ownBlock ≠ some b) := ⟨hVb, hUb⟩
  clear hVb hUb
  go_wp2_with (first
    | (at_builtin; ((refine wpList_append_at _ rfl _ _ 31 rfl B 39 i0 (.slice none 0 0) 1 24 Tryd.underlying31 hi0 hz0 hz1 hz2 rfl (by decide) _ _ _ rfl (own_belowR HS.out.outV ((Below.refl _ w).alloc (Nat.le_refl _) _) (Nat.le_refl _)) (some ⟨w.heap.size, 0, none⟩) 1 1 [.slice aL Ln cL] rfl (by rfl) (fun h => by cases h) (fun ad had => by cases had; exact cells_newR w [.slice aL Ln cL] 39) (one_cell rfl) (by unfold maxLen; omega) (by omega) (by simp; omega) ?_); intro v1 w1 hown1 hgrow1 hat1; obtain ⟨a1, c1, rfl, -, -⟩ := own_slice hown1; have hA : Below w.heap.size w (w.alloc (.cells [Value.slice aL Ln cL].toArray 39)) := (Below.refl _ w).alloc (Nat.le_refl _) _; have S1 : Hid (She 3 39 1 B w1 (.slice a1 (rs.length + 1) c1) (.slice aU us.length cU) (rs ++ [⟨.slice aL Ln cL, Ln, Lx⟩]) us) := (HS.out.below hA).add (by decide) (own_belowR HL.out hA (Nat.le_refl _)) HAP.out hown1 hgrow1 hat1; have N1 : Hid (She 57 23 4 B w1 N M rn un) := (HN.out.below hA).grwFar (own_belowR HS.out.outV hA (Nat.le_refl _)) hgrow1 (by decide) (by decide); have X1 : Hid (Bx w1 b (bxT N M (.slice aV rs.length cV) (.slice aU us.length cU)) 35) := (HX.out.below hA HX.out.lt).grw hgrow1 HVB.out.1; have x4 : w1.cell? ⟨b, 6, none⟩ = some (.slice aV rs.length cV) := X1.out.cell 6; have y4 := X1.out.free 6; have K1 : Hid (Frm b (.slice aV rs.length cV) (.slice aU us.length cU) w w1 ∧ w.heap.size + 1 ≤ w1.heap.size) := ⟨⟨fun g h1 h2 h3 h4 => (hgrow1.block g (by simp; omega) (fun e => h3 e.symm)).trans (hA.block g h1), (hA.mono (by omega)).grown hgrow1 (by simp; omega) (fun g h => by have := (HS.out.outV.lt g h).1; omega)⟩, by have := hgrow1.size; simpa using this⟩; obtain ⟨w2, e2⟩ : ∃ w2, w1.setCell ⟨b, 6, none⟩ (.slice a1 (rs.length + 1) c1) = w2 := ⟨_, rfl⟩; have HE2 : Hid (w1.setCell ⟨b, 6, none⟩ (.slice a1 (rs.length + 1) c1) = w2) := e2; have S2 : Hid (She 3 39 1 B w2 (.slice a1 (rs.length + 1) c1) (.slice aU us.length cU) (rs ++ [⟨.slice aL Ln cL, Ln, Lx⟩]) us) := (by unfold Hid; rw [← e2]; exact S1.out.box hbB 6 _); have N2 : Hid (She 57 23 4 B w2 N M rn un) := (by unfold Hid; rw [← e2]; exact N1.out.box hbB 6 _); have X2 : Hid (Bx w2 b (bxT N M (.slice a1 (rs.length + 1) c1) (.slice aU us.length cU)) 35) := (by unfold Hid; rw [← e2]; exact X1.out.set 6 _); have hz2w : w2.heap.size = w1.heap.size := (by rw [← e2]; simp); have K2 : Hid (Frm b (.slice aV rs.length cV) (.slice aU us.length cU) w w2) := (by unfold Hid; rw [← e2]; exact ⟨fun g h1 h2 h3 h4 => (heap_setCell_other _ _ _ _ h2).trans (K1.out.1.keep g h1 h2 h3 h4), K1.out.1.bel.setCell (p := ⟨b, 6, none⟩) (Nat.le_refl _) _⟩); have x5 : (w1.setCell ⟨b, 6, none⟩ (.slice a1 (rs.length + 1) c1)).cell? ⟨b, 7, none⟩ = some (.slice aU us.length cU) := (by rw [e2]; exact X2.out.cell 7); clear hown1 hgrow1 hat1 hA e2)))
  rw [HE2.out]
  clear x5 x4 y4 c4 c5
  have x5 : w2.cell? ⟨b, 7, none⟩ = some (.slice aU us.length cU) := X2.out.cell 7
  have HZ : Hid (B ≤ w2.heap.size ∧ w.heap.size + 1 ≤ w2.heap.size) := ⟨by have := K1.out.2; omega, by have := K1.out.2; omega⟩
  have HM : Hid ((⟨.slice aL Ln cL, Ln, Lx⟩ : Rr) ∈ (rs ++ [⟨.slice aL Ln cL, Ln, Lx⟩]) ++ us) := by unfold Hid; simp
  refine wp_region_G (fun z => z.cell? ⟨b, 7, none⟩ = some (.slice aU us.length cU)) 11 (by kernel_rfl) ?_
  refine wpAnyG_take (i := 0) (v := .pointer (some ⟨b, 0, none⟩)) rfl (by kernel_rfl) (by kernel_rfl) (by kernel_rfl) (fun _ _ _ h => h) (by kernel_rfl) (by kernel_rfl) (by kernel_rfl) (Or.inl ⟨by rfl, fun z hz => ?_⟩) x5 ?_
  · (try dsimp only at hz); go_simp
  try simp only [Act.put, List.setIfInBounds_toArray, List.set_cons_zero, List.set_cons_succ]
  refine wpAnyG_take (i := 1) (v := .pointer (some ⟨b, 0, none⟩)) rfl (by kernel_rfl) (by kernel_rfl) (by kernel_rfl) (fun _ _ _ h => h) (by kernel_rfl) (by kernel_rfl) (by kernel_rfl) (Or.inl ⟨by rfl, fun z hz => ?_⟩) x5 ?_
  · (try dsimp only at hz); go_simp
  try simp only [Act.put, List.setIfInBounds_toArray, List.set_cons_zero, List.set_cons_succ]
  refine wpAnyG_take (i := 2) (v := .pointer (some ⟨b, 0, none⟩)) rfl (by kernel_rfl) (by kernel_rfl) (by kernel_rfl) (fun _ _ _ h => h) (by kernel_rfl) (by kernel_rfl) (by kernel_rfl) (Or.inl ⟨by rfl, fun z hz => ?_⟩) x5 ?_
  · (try dsimp only at hz); go_simp
  try simp only [Act.put, List.setIfInBounds_toArray, List.set_cons_zero, List.set_cons_succ]
  refine wpAnyG_take (i := 3) (v := .pointer (some ⟨b, 7, none⟩)) rfl (by kernel_rfl) (by kernel_rfl) (by kernel_rfl) (fun _ _ _ h => h) (by kernel_rfl) (by kernel_rfl) (by kernel_rfl) (Or.inl ⟨by rfl, fun z hz => ?_⟩) x5 ?_
  · (try dsimp only at hz); go_simp
  try simp only [Act.put, List.setIfInBounds_toArray, List.set_cons_zero, List.set_cons_succ]
  refine wpAnyG_take (i := 4) (v := .slice aU us.length cU) rfl (by kernel_rfl) (by kernel_rfl) (by kernel_rfl) (fun _ _ _ h => h) (by kernel_rfl) (by kernel_rfl) (by kernel_rfl) (Or.inl ⟨by rfl, fun z hz => ?_⟩) x5 ?_
  · (try dsimp only at hz); go_simp
  try simp only [Act.put, List.setIfInBounds_toArray, List.set_cons_zero, List.set_cons_succ]
  refine wpAnyG_take (i := 5) (v := .slice aL Ln cL) rfl (by kernel_rfl) (by kernel_rfl) (by kernel_rfl) (fun _ _ _ h => h) (by kernel_rfl) (by kernel_rfl) (by kernel_rfl) (Or.inl ⟨by rfl, fun z hz => ?_⟩) x5 ?_
  · (try dsimp only at hz); go_simp
  try simp only [Act.put, List.setIfInBounds_toArray, List.set_cons_zero, List.set_cons_succ]
  refine wpAnyG_one (i := 6) (by kernel_rfl) rfl (fun K hK0 => ?_)
  have hK : Hid _ := hK0
  clear hK0
  go_simp
  refine (copyInts_own B _ Ln Lx _ (own_belowR (S2.out.each _ HM.out) (Below.refl _ _).drew (Nat.le_refl _)) H1.out hn).mono ?_
  rintro e w3 ⟨u3, rfl, ho3, hb3⟩
  obtain ⟨a3, c3, rfl, -, -⟩ := own_slice ho3
  have hb3' : Below w2.heap.size w2 w3 := (Below.refl _ _).drew.trans hb3
  have HO3 : Hid (w3.ownsRow w2.heap.size 3 1 (.slice a3 Ln c3) Ln Lx) := ho3
  have S3 : Hid (She 3 39 1 B w3 (.slice a1 (rs.length + 1) c1) (.slice aU us.length cU) (rs ++ [⟨.slice aL Ln cL, Ln, Lx⟩]) us) := S2.out.below hb3'
  have N3 : Hid (She 57 23 4 B w3 N M rn un) := N2.out.below hb3'
  have X3 : Hid (Bx w3 b (bxT N M (.slice a1 (rs.length + 1) c1) (.slice aU us.length cU)) 35) := X2.out.below hb3' X2.out.lt
  have d5 : w3.cell? ⟨b, 7, none⟩ = some (.slice aU us.length cU) := X3.out.cell 7
  have HB3 : Hid (Below w2.heap.size w2 w3) := hb3'
  clear ho3 hb3 hb3'
  refine hK.out _ _ (fun _ => d5) ?_
  clear hK K
  try simp only [Act.put, List.setIfInBounds_toArray, List.set_cons_zero, List.set_cons_succ]
  refine wpAnyG_one (i := 7) (by kernel_rfl) rfl (fun K hK0 => ?_)
  have hK : Hid _ := hK0
  clear hK0
  go_simp
  have hA3 : Below w3.heap.size w3 (w3.alloc (.cells #[Value.slice a3 Ln c3] 39)) := (Below.refl _ w3).alloc (Nat.le_refl _) _
  have d5a : (w3.alloc (.cells #[Value.slice a3 Ln c3] 39)).cell? ⟨b, 7, none⟩ = some (.slice aU us.length cU) := (X3.out.below hA3 X3.out.lt).cell 7
  refine hK.out _ _ (fun _ => d5a) ?_
  clear hK K
  try simp only [Act.put, List.setIfInBounds_toArray, List.set_cons_zero, List.set_cons_succ]
  refine wpAnyG_one (i := 8) (by kernel_rfl) rfl (fun K hK0 => ?_)
  have hK : Hid _ := hK0
  clear hK0
  refine step_append_lies _ (by rfl) _ _ _ (by rfl) B 39 i0 (.slice none 0 0) 1 24 Tryd.underlying31 hi0 hz0 hz1 hz2 rfl (by omega) (.slice aU us.length cU) us.length (us.map Rr.v) (by rfl) (own_belowR S3.out.outU hA3 (Nat.le_refl _)) ⟨w3.heap.size, 0, none⟩ 1 1 [.slice a3 Ln c3] (by rfl) (by rfl) (cells_newR w3 [.slice a3 Ln c3] 39) (one_cell (own_one HO3.out)) (by omega) (by unfold maxLen; omega) (by omega) (by have := HZ.out; have := HB3.out.size; simp; omega) (w3.heap.size + 1) (by simp) ?_
  intro gg cp w5 hown5 hgrow5 hat5 hlt5
  have N5 : Hid (She 57 23 4 B w5 N M rn un) := (N3.out.below hA3).grwFar (own_belowR S3.out.outU hA3 (Nat.le_refl _)) hgrow5 (by decide) (by decide)
  have Z5 : Hid (B ≤ w5.heap.size) := by unfold Hid; have h1 := HZ.out; have h2 := HB3.out.size; have h3 := hgrow5.size; simp at h3; omega
  have X5 : Hid (Bx w5 b (bxT N M (.slice a1 (rs.length + 1) c1) (.slice aU us.length cU)) 35) := (X3.out.below hA3 X3.out.lt).grw hgrow5 HVB.out.2
  have x55 : w5.cell? ⟨b, 7, none⟩ = some (.slice aU us.length cU) := X5.out.cell 7
  have y55 := X5.out.free 7
  have S5 : Hid (She 3 39 1 B w5 (.slice a1 (rs.length + 1) c1) (.slice (some ⟨gg, 0, none⟩) (us.length + 1) cp) (rs ++ [⟨.slice aL Ln cL, Ln, Lx⟩]) (us ++ [⟨.slice a3 Ln c3, Ln, Lx⟩])) := (S3.out.below hA3).addU (by decide) (own_belowR (own_base HO3.out HZ.out.1) hA3 (Nat.le_refl _)) (fun q hq g hq1 hL => by have h1 := ((S2.out.each q hq).lt g hq1).2; have h2 := (HO3.out.lt g hL).1; omega) hown5 hgrow5 (hat5.elim (fun h => .inl h.symm) (fun h => .inr (by rw [h]; show some _ = some _; simp)))
  have K5 : Hid (Frm b (.slice aV rs.length cV) (.slice aU us.length cU) w w5) := (by
    have hz := HZ.out
    have hz3 := HB3.out.size
    refine ⟨fun g h1 h2 h3 h4 => ?_, ?_⟩
    · exact (((hgrow5.block g (by simp; omega) (fun e => h4 e.symm)).trans (hA3.block g (by omega))).trans (HB3.out.block g (by omega))).trans (K2.out.keep g h1 h2 h3 h4)
    · exact ((K2.out.bel.trans (HB3.out.mono (by omega))).trans (hA3.mono (by omega))).grown hgrow5 (by simp; omega) (fun g h => by have := (S2.out.outU.lt g h).1; omega))
  clear hown5 hgrow5 hat5 d5 d5a
  refine hK.out _ _ (fun _ => x55) ?_
  clear hK K
  try simp only [Act.put, List.setIfInBounds_toArray, List.set_cons_zero, List.set_cons_succ]
  refine wpAnyG_one (i := 9) (by kernel_rfl) rfl (fun K hK0 => ?_)
  have hK : Hid _ := hK0
  clear hK0
  go_simp
  refine hK.out _ _ (fun _ => x55) ?_
  clear hK K
  try simp only [Act.put, List.setIfInBounds_toArray, List.set_cons_zero, List.set_cons_succ]
  refine wpAnyG_one (i := 10) (by kernel_rfl) rfl (fun K hK0 => ?_)
  have hK : Hid _ := hK0
  clear hK0
  go_simp
  refine hK.out _ _ (fun _ => x55) ?_
  clear hK K
  try simp only [Act.put, List.setIfInBounds_toArray, List.set_cons_zero, List.set_cons_succ]
  refine wpAnyG_one (i := 11) (by kernel_rfl) rfl (fun K hK0 => ?_)
  have hK : Hid _ := hK0
  clear hK0
  go_simp
  refine hK.out _ _ (fun h => Bool.noConfusion (show true = false from h)) ?_
  clear hK K
  try simp only [Act.put, List.setIfInBounds_toArray, List.set_cons_zero, List.set_cons_succ]
  refine wpAnyG_done (by kernel_rfl) ?_ _
  refine bodyPost_end (results_none rfl _ _ _) rfl ?_
  refine ⟨⟨_, rfl⟩, (.slice a1 (rs.length + 1) c1), (.slice (some ⟨gg, 0, none⟩) (us.length + 1) cp), ⟨.slice a3 Ln c3, Ln, Lx⟩, ⟨X5.out.set 7 _, N5.out.box hbB 7 _, S5.out.box hbB 7 _, hbB, by have := Z5.out; simpa using this⟩, rfl, rfl, (fun g hg => by have h1 := (HO3.out.lt g hg).1; have h2 := HZ.out.2; omega), ?_⟩
  exact ⟨fun g h1 h2 h3 h4 => (heap_setCell_other _ _ _ _ h2).trans (K5.out.keep g h1 h2 h3 h4), K5.out.bel.setCell (p := ⟨b, 7, none⟩) (Nat.le_refl _) _⟩
end Go.Proofs.YtaploloedocgbaaDoor
