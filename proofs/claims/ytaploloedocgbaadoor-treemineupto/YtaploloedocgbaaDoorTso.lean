import Derived.Test.YtaploloedocgbaaDoorTsn
namespace Go.Proofs.YtaploloedocgbaaDoor
open Go.ChangeShapes Go.WideShapes Go.ChangeAt Go.RowKit
set_option linter.unusedVariables false
set_option linter.unusedSimpArgs false

/-- 'append' of what may be nil onto a slice of the call's own, at a step of a region that draws its order -/
theorem step_append_at {P : Program} {w : World} {ops : Array Oper} {o : Oper} {a : Act} {K : Act → World → Prop} {Q : Exit → Act → World → Prop} {E : Prop} (hgd : o.guard = none) (s x : Operand) (t : TypeId)
    (ho : o.op = .call { callee := .builtin .append, args := #[s, x], argTypes := #[t, t] })
    (base : Nat) (e : TypeId) (i : TypeInfo) (z : Value) (size bytes : Nat) (ht : P.underlying t = some (.slice e)) (hi : P.info? e = some i) (hz : i.zero = some z)
    (hsize : i.size = size) (hby : i.bytes = bytes) (hzs : z.cells.size = size) (hsz : 0 < size)
    (v : Value) (n : Nat) (xs : List Value) (hs : a.eval s = v) (hown : w.ownsRow base e size v n xs)
    (ao : Option Addr) (m c : Nat) (news : List Value) (hx : a.eval x = .slice ao m c) (hl : news.length = m * size) (hnone : ao = none → m = 0 ∧ c = 0)
    (hnews : ∀ ad, ao = some ad → ∀ j u, news[j]? = some u → w.cell? (ad.add j) = some u) (h1 : ∀ u ∈ news, u.oneCell' = true)
    (h63 : n + m ≤ maxLen) (hbytes : (n + m) * bytes ≤ 140737488355328) (hbase : base ≤ w.heap.size)
    (h : ∀ v' w', w'.ownsRow base e size v' (n + m) (xs ++ news) → w.grownBy w' v.ownBlock → (v'.ownBlock = v.ownBlock ∨ v'.ownBlock = some w.heap.size) → K (a.put o.dst v') w') :
    if Region.wanted o (yielded ops a.tmps) = true then Oper.wp P o a w K Q else E := by
  have hw : Region.wanted o (yielded ops a.tmps) = true := by simp [Region.wanted, hgd]
  rw [if_pos hw]
  cases ao with
  | some ad =>
    obtain ⟨v', w', hr, h2, h3, _, h5⟩ := run_append_own_at (P := P) w base t o.type e i z size bytes ht hi hz hsize hby hzs hsz v n xs hown ad m c news hl (hnews ad rfl) h1 h63 hbytes hbase
    unfold Oper.wp execOp
    simp only [ho, resolve, invoke, builtin, Sem.run_bind, Sem.run_pure, Result.andThen_ok, List.map_toArray, List.map_cons, List.map_nil, hs, hx, hr]
    exact h v' w' h2 h3 h5
  | none =>
    obtain ⟨rfl, rfl⟩ := hnone rfl
    have hn : news = [] := List.eq_nil_of_length_eq_zero (by simpa using hl)
    subst hn
    have hrun := run_append_owned_none (P := P) w base t o.type e i size ht hi v n xs hown
    unfold Oper.wp execOp
    simp only [ho, resolve, invoke, builtin, Sem.run_bind, Sem.run_pure, Result.andThen_ok, List.map_toArray, List.map_cons, List.map_nil, hs, hx, hrun]
    exact h v w (by simpa using hown) (World.grownBy.refl _ _) (.inl rfl)

theorem Frm.pre {b : Nat} {V U : Value} {w w0 w' : World} (h : Frm b V U w0 w') (hw : Below w.heap.size w w0) (hb : b < w.heap.size) : Frm b V U w w' :=
  ⟨fun g h1 h2 h3 h4 => (h.keep g (Nat.lt_of_lt_of_le h1 hw.size) h2 h3 h4).trans (hw.block g h1), (hw.mono (Nat.le_of_lt hb)).trans h.bel⟩

set_option maxRecDepth 1000000 in
set_option maxHeartbeats 2000000 in
theorem shelfTree_any (b B : Nat) (w : World) (N M V U : Value) (rn un rs us : List Rr) (L : Rr) (hT : ShT b B w V U N M rs us rn un) (hL : w.ownsRow B 57 4 L.v L.n L.xs) (hap : ∀ q ∈ rs ++ us, ApR q L) (h1 : ∀ u ∈ L.xs, u.oneCell' = true) (hn : L.n ≤ 4194304) (hrs : rs.length ≤ 1000) (hus : us.length ≤ 1000) :
    Calls Tryd.prog 24 #[.pointer (some ⟨b, 0, none⟩), .agg #[L.v]] w fun e w' => (∃ x, e = .returned x) ∧ ∃ V' U' u, ShT b B w' V' U' N M (rs ++ [L]) (us ++ [u]) rn un ∧ u.n = L.n ∧ u.xs = L.xs ∧ (∀ g, u.v.ownBlock = some g → w.heap.size ≤ g) ∧ Frm b V U w w' := by
  obtain ⟨i0, hi0, hz0, hz1, hz2⟩ := info_parts infoRowN
  obtain ⟨i1, hi1, hy0, hy1, hy2⟩ := info_parts infoNd
  obtain ⟨hbx, hS, hN, hbB, hB⟩ := hT
  obtain ⟨Lv, Ln, Lx⟩ := L
  simp only at hL h1 hn
  obtain ⟨aL, cL, rfl, -, hnL⟩ := own_slice hL
  obtain ⟨aV, cV, rfl, -, -⟩ := own_slice hS.outV
  obtain ⟨aU, cU, rfl, -, -⟩ := own_slice hS.outU
  obtain ⟨w0, e0, hw0, hs0, B0⟩ := bx1 w #[.slice aL Ln cL] 25
  obtain ⟨bt, hbt⟩ : ∃ bt, w.heap.size = bt := ⟨_, rfl⟩
  have HE0 : Hid (w.alloc (.cells #[.slice aL Ln cL] 25) = w0) := e0
  have HW0 : Hid (Below w.heap.size w w0) := hw0
  have HT0 : Hid (Bx w0 bt #[.slice aL Ln cL] 25) := hbt ▸ B0
  have HN : Hid (She 3 39 1 B w0 N M rn un) := hN.below hw0
  have HX : Hid (Bx w0 b (bxT (.slice aV rs.length cV) (.slice aU us.length cU) N M) 35) := hbx.below hw0 hbx.lt
  have HS : Hid (She 57 23 4 B w0 (.slice aV rs.length cV) (.slice aU us.length cU) rs us) := hS.below hw0
  have HL : Hid (w0.ownsRow B 57 4 (.slice aL Ln cL) Ln Lx) := own_belowR hL hw0 (Nat.le_refl _)
  have HNL : Hid (aL = none → Ln = 0 ∧ cL = 0) := hnL
  have HLL : Hid (Lx.length = Ln * 4) := hL.1
  have HAP : Hid (∀ q ∈ rs ++ us, ApR q ⟨.slice aL Ln cL, Ln, Lx⟩) := hap
  have H1 : Hid (∀ u ∈ Lx, u.oneCell' = true) := h1
  have HVT : Hid ((Value.slice aV rs.length cV).ownBlock ≠ some bt ∧ (Value.slice aU us.length cU).ownBlock ≠ some bt) := ⟨fun h => by have := (hS.outV.lt bt h).2; omega, fun h => by have := (hS.outU.lt bt h).2; omega⟩
  have HVB : Hid ((Value.slice aV rs.length cV).ownBlock ≠ some b ∧ (Value.slice aU us.length cU).ownBlock ≠ some b) := ⟨fun h => by have := (hS.outV.lt b h).1; omega, fun h => by have := (hS.outU.lt b h).1; omega⟩
  have HBT : Hid (b < w.heap.size) := hbx.lt
  have HBB : Hid (b ≠ bt) := by have := hbx.lt; unfold Hid; omega
  have c4 : w0.cell? ⟨b, 2, none⟩ = some (.slice aV rs.length cV) := HX.out.cell 2
  have c5 : w0.cell? ⟨b, 3, none⟩ = some (.slice aU us.length cU) := HX.out.cell 3
  have ct : w0.cell? ⟨bt, 0, none⟩ = some (.slice aL Ln cL) := HT0.out.one
  have hB0 : B ≤ w0.heap.size := by omega
  clear hbx hN hS hL hap h1 e0 hw0 B0 hnL
  go_enter Tryd.func24, Tryd.ntmps24
  go_upto_region 1 with fail
  rw [HE0.out]
  clear hs0 hbt
  have HS1 : w0.cell? ⟨b, 2, none⟩ = some (.slice aV rs.length cV) ∧ w0.cell? ⟨bt, 0, none⟩ = some (.slice aL Ln cL) := ⟨c4, ct⟩
  clear c4 c5 ct
  refine wp_region_G (fun z => z.cell? ⟨b, 2, none⟩ = some (.slice aV rs.length cV) ∧ z.cell? ⟨bt, 0, none⟩ = some (.slice aL Ln cL)) 11 (by kernel_rfl) ?_
  refine wpAnyG_take (i := 0) (v := .pointer (some ⟨b, 0, none⟩)) rfl (by kernel_rfl) (by kernel_rfl) (by kernel_rfl) (fun _ _ _ h => h) (by kernel_rfl) (by kernel_rfl) (by kernel_rfl) (Or.inl ⟨by rfl, fun z hz => ?_⟩) HS1 ?_
  · obtain ⟨hz4, hzr⟩ := hz
    go_simp
  try simp only [Act.put, List.setIfInBounds_toArray, List.set_cons_zero, List.set_cons_succ]
  refine wpAnyG_take (i := 1) (v := .pointer (some ⟨b, 0, none⟩)) rfl (by kernel_rfl) (by kernel_rfl) (by kernel_rfl) (fun _ _ _ h => h) (by kernel_rfl) (by kernel_rfl) (by kernel_rfl) (Or.inl ⟨by rfl, fun z hz => ?_⟩) HS1 ?_
  · obtain ⟨hz4, hzr⟩ := hz
    go_simp
  try simp only [Act.put, List.setIfInBounds_toArray, List.set_cons_zero, List.set_cons_succ]
  refine wpAnyG_take (i := 2) (v := .pointer (some ⟨b, 0, none⟩)) rfl (by kernel_rfl) (by kernel_rfl) (by kernel_rfl) (fun _ _ _ h => h) (by kernel_rfl) (by kernel_rfl) (by kernel_rfl) (Or.inl ⟨by rfl, fun z hz => ?_⟩) HS1 ?_
  · obtain ⟨hz4, hzr⟩ := hz
    go_simp
  try simp only [Act.put, List.setIfInBounds_toArray, List.set_cons_zero, List.set_cons_succ]
  refine wpAnyG_take (i := 3) (v := .pointer (some ⟨b, 2, none⟩)) rfl (by kernel_rfl) (by kernel_rfl) (by kernel_rfl) (fun _ _ _ h => h) (by kernel_rfl) (by kernel_rfl) (by kernel_rfl) (Or.inl ⟨by rfl, fun z hz => ?_⟩) HS1 ?_
  · obtain ⟨hz4, hzr⟩ := hz
    go_simp
  try simp only [Act.put, List.setIfInBounds_toArray, List.set_cons_zero, List.set_cons_succ]
  refine wpAnyG_take (i := 4) (v := .slice aV rs.length cV) rfl (by kernel_rfl) (by kernel_rfl) (by kernel_rfl) (fun _ _ _ h => h) (by kernel_rfl) (by kernel_rfl) (by kernel_rfl) (Or.inl ⟨by rfl, fun z hz => ?_⟩) HS1 ?_
  · obtain ⟨hz4, hzr⟩ := hz
    go_simp
  try simp only [Act.put, List.setIfInBounds_toArray, List.set_cons_zero, List.set_cons_succ]
  refine wpAnyG_take (i := 5) (v := .pointer (some ⟨bt, 0, none⟩)) rfl (by kernel_rfl) (by kernel_rfl) (by kernel_rfl) (fun _ _ _ h => h) (by kernel_rfl) (by kernel_rfl) (by kernel_rfl) (Or.inl ⟨by rfl, fun z hz => ?_⟩) HS1 ?_
  · obtain ⟨hz4, hzr⟩ := hz
    go_simp
  try simp only [Act.put, List.setIfInBounds_toArray, List.set_cons_zero, List.set_cons_succ]
  refine wpAnyG_take (i := 6) (v := .slice aL Ln cL) rfl (by kernel_rfl) (by kernel_rfl) (by kernel_rfl) (fun _ _ _ h => h) (by kernel_rfl) (by kernel_rfl) (by kernel_rfl) (Or.inl ⟨by rfl, fun z hz => ?_⟩) HS1 ?_
  · obtain ⟨hz4, hzr⟩ := hz
    go_simp
  try simp only [Act.put, List.setIfInBounds_toArray, List.set_cons_zero, List.set_cons_succ]
  refine wpAnyG_one (i := 7) (by kernel_rfl) rfl (fun K hK0 => ?_)
  have hK : Hid _ := hK0
  clear hK0
  go_simp
  obtain ⟨WA, hWA⟩ : ∃ WA, (w0.alloc (.cells #[Value.slice aL Ln cL] 23)).drew = WA := ⟨_, rfl⟩
  have hA : Below w0.heap.size w0 WA := by rw [← hWA]; exact ((Below.refl _ w0).alloc (Nat.le_refl _) _).drew
  have HNW : Hid (∀ j u, [Value.slice aL Ln cL][j]? = some u → WA.cell? ((⟨w0.heap.size, 0, none⟩ : Addr).add j) = some u) := by unfold Hid; rw [← hWA]; exact cells_newR w0 [Value.slice aL Ln cL] 23
  have HZA : Hid (WA.heap.size = w0.heap.size + 1) := by unfold Hid; rw [← hWA]; show (w0.alloc _).heap.size = _; simp
  have SA : Hid (She 57 23 4 B WA (.slice aV rs.length cV) (.slice aU us.length cU) rs us) := HS.out.below hA
  have NA : Hid (She 3 39 1 B WA N M rn un) := HN.out.below hA
  have XA : Hid (Bx WA b (bxT (.slice aV rs.length cV) (.slice aU us.length cU) N M) 35) := HX.out.below hA HX.out.lt
  have TA : Hid (Bx WA bt #[(.slice aL Ln cL)] 25) := HT0.out.below hA HT0.out.lt
  have LA : Hid (WA.ownsRow B 57 4 (.slice aL Ln cL) Ln Lx) := own_belowR HL.out hA (Nat.le_refl _)
  have BA : Hid (Below w0.heap.size w0 WA) := hA
  have HSa : WA.cell? ⟨b, 2, none⟩ = some (.slice aV rs.length cV) ∧ WA.cell? ⟨bt, 0, none⟩ = some (.slice aL Ln cL) := ⟨XA.out.cell 2, TA.out.one⟩
  rw [hWA]
  clear hWA hA
  refine hK.out _ _ (fun _ => HSa) ?_
  clear hK K
  try simp only [Act.put, List.setIfInBounds_toArray, List.set_cons_zero, List.set_cons_succ]
  refine wpAnyG_one (i := 8) (by kernel_rfl) rfl (fun K hK0 => ?_)
  have hK : Hid _ := hK0
  clear hK0
  refine step_append_lies _ (by rfl) _ _ _ (by rfl) B 23 i0 (.slice none 0 0) 1 24 Tryd.underlying29 hi0 hz0 hz1 hz2 rfl (by omega) (.slice aV rs.length cV) rs.length (rs.map Rr.v) (by rfl) SA.out.outV ⟨w0.heap.size, 0, none⟩ 1 1 [Value.slice aL Ln cL] (by rfl) (by rfl) HNW.out (one_cell rfl) (by omega) (by unfold maxLen; omega) (by omega) (by have := HZA.out; omega) (w0.heap.size + 1) HZA.out ?_
  intro g1 c1 w1 hown1 hgrow1 hat1 hlt1
  have S1 : Hid (She 57 23 4 B w1 (.slice (some ⟨g1, 0, none⟩) (rs.length + 1) c1) (.slice aU us.length cU) (rs ++ [⟨.slice aL Ln cL, Ln, Lx⟩]) us) := SA.out.add (by decide) LA.out HAP.out hown1 hgrow1 (hat1.elim (fun h => .inl h.symm) (fun h => .inr (by rw [h, HZA.out]; rfl)))
  have N1 : Hid (She 3 39 1 B w1 N M rn un) := NA.out.grwFar SA.out.outV hgrow1 (by decide) (by decide)
  have X1 : Hid (Bx w1 b (bxT (.slice aV rs.length cV) (.slice aU us.length cU) N M) 35) := XA.out.grw hgrow1 HVB.out.1
  have T1 : Hid (Bx w1 bt #[(.slice aL Ln cL)] 25) := TA.out.grw hgrow1 HVT.out.1
  have K1 : Hid (Frm b (.slice aV rs.length cV) (.slice aU us.length cU) w0 w1) := ⟨fun g h1 h2 h3 h4 => (hgrow1.block g (by rw [HZA.out]; omega) (fun e => h3 e.symm)).trans (BA.out.block g h1), (BA.out.mono (by omega)).grown hgrow1 (by rw [HZA.out]; omega) (fun g h => by have := (HS.out.outV.lt g h).1; omega)⟩
  have Z1 : Hid (w0.heap.size + 1 ≤ w1.heap.size) := by unfold Hid; have := hgrow1.size; rw [HZA.out] at this; exact this
  have HSb : w1.cell? ⟨b, 2, none⟩ = some (.slice aV rs.length cV) ∧ w1.cell? ⟨bt, 0, none⟩ = some (.slice aL Ln cL) := ⟨X1.out.cell 2, T1.out.one⟩
  have y4 := X1.out.free 2
  clear hown1 hgrow1 hat1 hlt1 HSa HS1
  refine hK.out _ _ (fun _ => HSb) ?_
  clear hK K
  try simp only [Act.put, List.setIfInBounds_toArray, List.set_cons_zero, List.set_cons_succ]
  refine wpAnyG_one (i := 9) (by kernel_rfl) rfl (fun K hK0 => ?_)
  have hK : Hid _ := hK0
  clear hK0
  go_simp
  refine hK.out _ _ (fun _ => HSb) ?_
  clear hK K
  try simp only [Act.put, List.setIfInBounds_toArray, List.set_cons_zero, List.set_cons_succ]
  refine wpAnyG_one (i := 10) (by kernel_rfl) rfl (fun K hK0 => ?_)
  have hK : Hid _ := hK0
  clear hK0
  go_simp
  refine hK.out _ _ (fun _ => HSb) ?_
  clear hK K
  try simp only [Act.put, List.setIfInBounds_toArray, List.set_cons_zero, List.set_cons_succ]
  refine wpAnyG_one (i := 11) (by kernel_rfl) rfl (fun K hK0 => ?_)
  have hK : Hid _ := hK0
  clear hK0
  obtain ⟨x4, -⟩ := HSb
  go_simp
  obtain ⟨w2, e2⟩ : ∃ w2, w1.setCell ⟨b, 2, none⟩ (.slice (some ⟨g1, 0, none⟩) (rs.length + 1) c1) = w2 := ⟨_, rfl⟩
  have S2 : Hid (She 57 23 4 B w2 (.slice (some ⟨g1, 0, none⟩) (rs.length + 1) c1) (.slice aU us.length cU) (rs ++ [⟨.slice aL Ln cL, Ln, Lx⟩]) us) := (by unfold Hid; rw [← e2]; exact S1.out.box hbB 2 _)
  have N2 : Hid (She 3 39 1 B w2 N M rn un) := (by unfold Hid; rw [← e2]; exact N1.out.box hbB 2 _)
  have X2 : Hid (Bx w2 b (bxT (.slice (some ⟨g1, 0, none⟩) (rs.length + 1) c1) (.slice aU us.length cU) N M) 35) := (by unfold Hid; rw [← e2]; exact X1.out.set 2 _)
  have T2 : Hid (Bx w2 bt #[(.slice aL Ln cL)] 25) := (by unfold Hid; rw [← e2]; exact T1.out.other ⟨b, 2, none⟩ (fun h => HBB.out h.symm) _)
  have K2 : Hid (Frm b (.slice aV rs.length cV) (.slice aU us.length cU) w0 w2) := (by unfold Hid; rw [← e2]; exact ⟨fun g h1 h2 h3 h4 => (heap_setCell_other _ _ _ _ h2).trans (K1.out.keep g h1 h2 h3 h4), K1.out.bel.setCell (p := ⟨b, 2, none⟩) (Nat.le_refl _) _⟩)
  have HZ : Hid (B ≤ w2.heap.size ∧ w0.heap.size + 1 ≤ w2.heap.size) := (by unfold Hid; have h1 : w2.heap.size = w1.heap.size := (by rw [← e2]; simp); have := Z1.out; exact ⟨by omega, by omega⟩)
  rw [e2]
  clear e2 x4 y4
  refine hK.out _ _ (fun h => Bool.noConfusion (show true = false from h)) ?_
  clear hK K
  try simp only [Act.put, List.setIfInBounds_toArray, List.set_cons_zero, List.set_cons_succ]
  refine wpAnyG_done (by kernel_rfl) ?_ _
  go_upto_region 2 with fail
  have x5 : w2.cell? ⟨b, 3, none⟩ = some (.slice aU us.length cU) := X2.out.cell 3
  have HM : Hid ((⟨.slice aL Ln cL, Ln, Lx⟩ : Rr) ∈ (rs ++ [⟨.slice aL Ln cL, Ln, Lx⟩]) ++ us) := by unfold Hid; simp
  have HSr : w2.cell? ⟨b, 3, none⟩ = some (.slice aU us.length cU) ∧ w2.cell? ⟨bt, 0, none⟩ = some (.slice aL Ln cL) := ⟨x5, T2.out.one⟩
  refine wp_region_G (fun z => z.cell? ⟨b, 3, none⟩ = some (.slice aU us.length cU) ∧ z.cell? ⟨bt, 0, none⟩ = some (.slice aL Ln cL)) 13 (by kernel_rfl) ?_
  refine wpAnyG_take (i := 0) (v := .pointer (some ⟨b, 0, none⟩)) rfl (by kernel_rfl) (by kernel_rfl) (by kernel_rfl) (fun _ _ _ h => h) (by kernel_rfl) (by kernel_rfl) (by kernel_rfl) (Or.inl ⟨by rfl, fun z hz => ?_⟩) HSr ?_
  · obtain ⟨hz4, hzr⟩ := hz
    go_simp
  try simp only [Act.put, List.setIfInBounds_toArray, List.set_cons_zero, List.set_cons_succ]
  refine wpAnyG_take (i := 1) (v := .pointer (some ⟨b, 0, none⟩)) rfl (by kernel_rfl) (by kernel_rfl) (by kernel_rfl) (fun _ _ _ h => h) (by kernel_rfl) (by kernel_rfl) (by kernel_rfl) (Or.inl ⟨by rfl, fun z hz => ?_⟩) HSr ?_
  · obtain ⟨hz4, hzr⟩ := hz
    go_simp
  try simp only [Act.put, List.setIfInBounds_toArray, List.set_cons_zero, List.set_cons_succ]
  refine wpAnyG_take (i := 2) (v := .pointer (some ⟨b, 0, none⟩)) rfl (by kernel_rfl) (by kernel_rfl) (by kernel_rfl) (fun _ _ _ h => h) (by kernel_rfl) (by kernel_rfl) (by kernel_rfl) (Or.inl ⟨by rfl, fun z hz => ?_⟩) HSr ?_
  · obtain ⟨hz4, hzr⟩ := hz
    go_simp
  try simp only [Act.put, List.setIfInBounds_toArray, List.set_cons_zero, List.set_cons_succ]
  refine wpAnyG_take (i := 3) (v := .pointer (some ⟨b, 3, none⟩)) rfl (by kernel_rfl) (by kernel_rfl) (by kernel_rfl) (fun _ _ _ h => h) (by kernel_rfl) (by kernel_rfl) (by kernel_rfl) (Or.inl ⟨by rfl, fun z hz => ?_⟩) HSr ?_
  · obtain ⟨hz4, hzr⟩ := hz
    go_simp
  try simp only [Act.put, List.setIfInBounds_toArray, List.set_cons_zero, List.set_cons_succ]
  refine wpAnyG_take (i := 4) (v := .slice aU us.length cU) rfl (by kernel_rfl) (by kernel_rfl) (by kernel_rfl) (fun _ _ _ h => h) (by kernel_rfl) (by kernel_rfl) (by kernel_rfl) (Or.inl ⟨by rfl, fun z hz => ?_⟩) HSr ?_
  · obtain ⟨hz4, hzr⟩ := hz
    go_simp
  try simp only [Act.put, List.setIfInBounds_toArray, List.set_cons_zero, List.set_cons_succ]
  refine wpAnyG_take (i := 6) (v := .pointer (some ⟨bt, 0, none⟩)) rfl (by kernel_rfl) (by kernel_rfl) (by kernel_rfl) (fun _ _ _ h => h) (by kernel_rfl) (by kernel_rfl) (by kernel_rfl) (Or.inl ⟨by rfl, fun z hz => ?_⟩) HSr ?_
  · obtain ⟨hz4, hzr⟩ := hz
    go_simp
  try simp only [Act.put, List.setIfInBounds_toArray, List.set_cons_zero, List.set_cons_succ]
  refine wpAnyG_take (i := 7) (v := .slice aL Ln cL) rfl (by kernel_rfl) (by kernel_rfl) (by kernel_rfl) (fun _ _ _ h => h) (by kernel_rfl) (by kernel_rfl) (by kernel_rfl) (Or.inl ⟨by rfl, fun z hz => ?_⟩) HSr ?_
  · obtain ⟨hz4, hzr⟩ := hz
    go_simp
  try simp only [Act.put, List.setIfInBounds_toArray, List.set_cons_zero, List.set_cons_succ]
  refine wpAnyG_one (i := 5) (by kernel_rfl) rfl (fun K hK0 => ?_)
  have hK : Hid _ := hK0
  clear hK0
  go_simp
  obtain ⟨WB, hWB⟩ : ∃ WB, (w2.alloc (.cells #[] 57)).drew = WB := ⟨_, rfl⟩
  have hB1 : Below w2.heap.size w2 WB := by rw [← hWB]; exact ((Below.refl _ w2).alloc (Nat.le_refl _) _).drew
  have HZB : Hid (WB.heap.size = w2.heap.size + 1) := by unfold Hid; rw [← hWB]; show (w2.alloc _).heap.size = _; simp
  have HL0 : Hid (WB.ownsRow w2.heap.size 57 4 (.slice (some ⟨w2.heap.size, 0, none⟩) 0 0) 0 []) := by unfold Hid; rw [← hWB]; exact own_belowR (World.ownsRow_lit w2 #[] 0 (Nat.le_refl _) (by unfold maxLen; omega) rfl) (Below.refl _ _).drew (Nat.le_refl _)
  have HBB1 : Hid (Below w2.heap.size w2 WB) := hB1
  have SB : Hid (She 57 23 4 B WB (.slice (some ⟨g1, 0, none⟩) (rs.length + 1) c1) (.slice aU us.length cU) (rs ++ [⟨.slice aL Ln cL, Ln, Lx⟩]) us) := S2.out.below hB1
  have HSb : WB.cell? ⟨b, 3, none⟩ = some (.slice aU us.length cU) ∧ WB.cell? ⟨bt, 0, none⟩ = some (.slice aL Ln cL) := ⟨(X2.out.below hB1 X2.out.lt).cell 3, (T2.out.below hB1 T2.out.lt).one⟩
  rw [hWB]
  clear hWB hB1
  refine hK.out _ _ (fun _ => HSb) ?_
  clear hK K
  try simp only [Act.put, List.setIfInBounds_toArray, List.set_cons_zero, List.set_cons_succ]
  refine wpAnyG_one (i := 8) (by kernel_rfl) rfl (fun K hK0 => ?_)
  have hK : Hid _ := hK0
  clear hK0
  refine step_append_at (by rfl) _ _ _ (by rfl) w2.heap.size 57 i1 (.agg #[.int .u8 0, .int .i64 0, .int .i64 0, .int .i64 0]) 4 32 Tryd.underlying23 hi1 hy0 hy1 hy2 rfl (by omega) (.slice (some ⟨w2.heap.size, 0, none⟩) 0 0) 0 [] (by rfl) HL0.out aL Ln cL Lx (by rfl) HLL.out HNL.out (own_news (SB.out.each _ HM.out)) H1.out (by unfold maxLen; omega) (by omega) (by have := HZB.out; omega) ?_
  intro v3 w3 hown3 hgrow3 hat3
  rw [Nat.zero_add, List.nil_append] at hown3
  obtain ⟨a3, c3, rfl, -, -⟩ := own_slice hown3
  have hb3' : Below w2.heap.size w2 w3 := HBB1.out.grown hgrow3 (by rw [HZB.out]; omega) (fun g h => (HL0.out.lt g h).1)
  have HO3 : Hid (w3.ownsRow w2.heap.size 57 4 (.slice a3 Ln c3) Ln Lx) := hown3
  have S3 : Hid (She 57 23 4 B w3 (.slice (some ⟨g1, 0, none⟩) (rs.length + 1) c1) (.slice aU us.length cU) (rs ++ [⟨.slice aL Ln cL, Ln, Lx⟩]) us) := S2.out.below hb3'
  have N3 : Hid (She 3 39 1 B w3 N M rn un) := N2.out.below hb3'
  have X3 : Hid (Bx w3 b (bxT (.slice (some ⟨g1, 0, none⟩) (rs.length + 1) c1) (.slice aU us.length cU) N M) 35) := X2.out.below hb3' X2.out.lt
  have T3 : Hid (Bx w3 bt #[(.slice aL Ln cL)] 25) := T2.out.below hb3' T2.out.lt
  have HSc : w3.cell? ⟨b, 3, none⟩ = some (.slice aU us.length cU) ∧ w3.cell? ⟨bt, 0, none⟩ = some (.slice aL Ln cL) := ⟨X3.out.cell 3, T3.out.one⟩
  have HB3 : Hid (Below w2.heap.size w2 w3) := hb3'
  clear hown3 hgrow3 hat3 hb3'
  refine hK.out _ _ (fun _ => HSc) ?_
  clear hK K
  try simp only [Act.put, List.setIfInBounds_toArray, List.set_cons_zero, List.set_cons_succ]
  refine wpAnyG_one (i := 9) (by kernel_rfl) rfl (fun K hK0 => ?_)
  have hK : Hid _ := hK0
  clear hK0
  go_simp
  obtain ⟨W4, hW4⟩ : ∃ W4, w3.alloc (.cells #[Value.slice a3 Ln c3] 23) = W4 := ⟨_, rfl⟩
  have hA3 : Below w3.heap.size w3 W4 := by rw [← hW4]; exact (Below.refl _ w3).alloc (Nat.le_refl _) _
  have HNW4 : Hid (∀ j u, [Value.slice a3 Ln c3][j]? = some u → W4.cell? ((⟨w3.heap.size, 0, none⟩ : Addr).add j) = some u) := by unfold Hid; rw [← hW4]; exact cells_newR w3 [Value.slice a3 Ln c3] 23
  have HZ4 : Hid (W4.heap.size = w3.heap.size + 1) := by unfold Hid; rw [← hW4]; simp
  have HSd : W4.cell? ⟨b, 3, none⟩ = some (.slice aU us.length cU) ∧ W4.cell? ⟨bt, 0, none⟩ = some (.slice aL Ln cL) := ⟨(X3.out.below hA3 X3.out.lt).cell 3, (T3.out.below hA3 T3.out.lt).one⟩
  rw [hW4]
  clear hW4
  refine hK.out _ _ (fun _ => HSd) ?_
  clear hK K
  try simp only [Act.put, List.setIfInBounds_toArray, List.set_cons_zero, List.set_cons_succ]
  refine wpAnyG_one (i := 10) (by kernel_rfl) rfl (fun K hK0 => ?_)
  have hK : Hid _ := hK0
  clear hK0
  refine step_append_lies _ (by rfl) _ _ _ (by rfl) B 23 i0 (.slice none 0 0) 1 24 Tryd.underlying29 hi0 hz0 hz1 hz2 rfl (by omega) (.slice aU us.length cU) us.length (us.map Rr.v) (by rfl) (own_belowR S3.out.outU hA3 (Nat.le_refl _)) ⟨w3.heap.size, 0, none⟩ 1 1 [Value.slice a3 Ln c3] (by rfl) (by rfl) HNW4.out (one_cell rfl) (by omega) (by unfold maxLen; omega) (by omega) (by have := HZ.out; have := HB3.out.size; have := HZ4.out; omega) (w3.heap.size + 1) HZ4.out ?_
  intro gg cp w5 hown5 hgrow5 hat5 hlt5
  have X5 : Hid (Bx w5 b (bxT (.slice (some ⟨g1, 0, none⟩) (rs.length + 1) c1) (.slice aU us.length cU) N M) 35) := (X3.out.below hA3 X3.out.lt).grw hgrow5 HVB.out.2
  have T5 : Hid (Bx w5 bt #[(.slice aL Ln cL)] 25) := (T3.out.below hA3 T3.out.lt).grw hgrow5 HVT.out.2
  have N5 : Hid (She 3 39 1 B w5 N M rn un) := (N3.out.below hA3).grwFar (own_belowR S3.out.outU hA3 (Nat.le_refl _)) hgrow5 (by decide) (by decide)
  have Z5 : Hid (B ≤ w5.heap.size) := by unfold Hid; have h1 := HZ.out; have h2 := HB3.out.size; have h3 := hgrow5.size; have h4 := HZ4.out; omega
  have S5 : Hid (She 57 23 4 B w5 (.slice (some ⟨g1, 0, none⟩) (rs.length + 1) c1) (.slice (some ⟨gg, 0, none⟩) (us.length + 1) cp) (rs ++ [⟨.slice aL Ln cL, Ln, Lx⟩]) (us ++ [⟨.slice a3 Ln c3, Ln, Lx⟩])) := (S3.out.below hA3).addU (by decide) (own_belowR (own_base HO3.out HZ.out.1) hA3 (Nat.le_refl _)) (fun q hq g hq1 hL => by have h1 := ((S2.out.each q hq).lt g hq1).2; have h2 := (HO3.out.lt g hL).1; omega) hown5 hgrow5 (hat5.elim (fun h => .inl h.symm) (fun h => .inr (by rw [h, HZ4.out]; rfl)))
  have K5 : Hid (Frm b (.slice aV rs.length cV) (.slice aU us.length cU) w0 w5) := (by
    have hz := HZ.out
    have hz3 := HB3.out.size
    have hz4 := HZ4.out
    refine ⟨fun g h1 h2 h3 h4 => ?_, ?_⟩
    · exact (((hgrow5.block g (by omega) (fun e => h4 e.symm)).trans (hA3.block g (by omega))).trans (HB3.out.block g (by omega))).trans (K2.out.keep g h1 h2 h3 h4)
    · exact ((K2.out.bel.trans (HB3.out.mono (by omega))).trans (hA3.mono (by omega))).grown hgrow5 (by omega) (fun g h => by have := (S2.out.outU.lt g h).1; omega))
  have HSe : w5.cell? ⟨b, 3, none⟩ = some (.slice aU us.length cU) ∧ w5.cell? ⟨bt, 0, none⟩ = some (.slice aL Ln cL) := ⟨X5.out.cell 3, T5.out.one⟩
  have y5 := X5.out.free 3
  clear hown5 hgrow5 hat5 HSr HSb HSc HSd hA3
  refine hK.out _ _ (fun _ => HSe) ?_
  clear hK K
  try simp only [Act.put, List.setIfInBounds_toArray, List.set_cons_zero, List.set_cons_succ]
  refine wpAnyG_one (i := 11) (by kernel_rfl) rfl (fun K hK0 => ?_)
  have hK : Hid _ := hK0
  clear hK0
  go_simp
  refine hK.out _ _ (fun _ => HSe) ?_
  clear hK K
  try simp only [Act.put, List.setIfInBounds_toArray, List.set_cons_zero, List.set_cons_succ]
  refine wpAnyG_one (i := 12) (by kernel_rfl) rfl (fun K hK0 => ?_)
  have hK : Hid _ := hK0
  clear hK0
  go_simp
  refine hK.out _ _ (fun _ => HSe) ?_
  clear hK K
  try simp only [Act.put, List.setIfInBounds_toArray, List.set_cons_zero, List.set_cons_succ]
  refine wpAnyG_one (i := 13) (by kernel_rfl) rfl (fun K hK0 => ?_)
  have hK : Hid _ := hK0
  clear hK0
  obtain ⟨x5', -⟩ := HSe
  go_simp
  refine hK.out _ _ (fun h => Bool.noConfusion (show true = false from h)) ?_
  clear hK K
  try simp only [Act.put, List.setIfInBounds_toArray, List.set_cons_zero, List.set_cons_succ]
  refine wpAnyG_done (by kernel_rfl) ?_ _
  refine bodyPost_end (results_none rfl _ _ _) rfl ?_
  refine ⟨⟨_, rfl⟩, (.slice (some ⟨g1, 0, none⟩) (rs.length + 1) c1), (.slice (some ⟨gg, 0, none⟩) (us.length + 1) cp), ⟨.slice a3 Ln c3, Ln, Lx⟩, ⟨X5.out.set 3 _, S5.out.box hbB 3 _, N5.out.box hbB 3 _, hbB, by have := Z5.out; simpa using this⟩, rfl, rfl, (fun g hg => by have h1 := (HO3.out.lt g hg).1; have h2 := HZ.out.2; have h3 := HW0.out.size; omega), ?_⟩
  refine Frm.pre ?_ HW0.out HBT.out
  exact ⟨fun g h1 h2 h3 h4 => (heap_setCell_other _ _ _ _ h2).trans (K5.out.keep g h1 h2 h3 h4), K5.out.bel.setCell (p := ⟨b, 3, none⟩) (Nat.le_refl _) _⟩
end Go.Proofs.YtaploloedocgbaaDoor
