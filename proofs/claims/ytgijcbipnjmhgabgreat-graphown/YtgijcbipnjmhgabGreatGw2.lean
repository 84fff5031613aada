import Derived.Test.YtgijcbipnjmhgabGreatKs0
import Derived.Test.YtgijcbipnjmhgabGreatInfT
import Derived.Test.YtgijcbipnjmhgabGreatOrd
import Derived.Deep.AppendLies
import Derived.Deep.RegionHeld3
import Derived.Deep.DeepCutAuto
import Derived.Deep.RegionWith
import Derived.Test.YtgijcbipnjmhgabGreatSmN
namespace Go.Proofs.YtgijcbipnjmhgabGreat
open Go.ChangeShapes Go.WideShapes Go.ChangeAt Go.RowKit
set_option linter.unusedVariables false
set_option linter.unusedSimpArgs false

theorem own_news {w : World} {B e k n c : Nat} {a : Option Addr} {xs : List Value} (h : w.ownsRow B e k (.slice a n c) n xs) : ∀ ad, a = some ad → ∀ j u, xs[j]? = some u → w.cell? (ad.add j) = some u := by
  intro ad had j u hj
  rcases h.2 with ⟨hv, h0⟩ | ⟨g, cap, cur, hv, _⟩
  · simp only [Value.slice.injEq] at hv
    rw [hv.1] at had; cases had
  · simp only [Value.slice.injEq] at hv
    obtain ⟨ha, -, hc⟩ := hv
    subst hc
    rw [ha] at had h
    cases had
    exact h.cells rfl j u hj
/-- a row stands while its block stands -/
theorem own_far {w w' : World} {B s n : Nat} {e : TypeId} {v : Value} {xs : List Value} (h : w.ownsRow B e s v n xs) (hk : ∀ g, v.ownBlock = some g → w'.heap[g]? = w.heap[g]?) : w'.ownsRow B e s v n xs := by
  refine ⟨h.1, ?_⟩
  rcases h.2 with k | ⟨g, cap, cur, hv, hgb, hh, r⟩
  · exact .inl k
  · exact .inr ⟨g, cap, cur, hv, hgb, (hk g (by rw [hv]; rfl)).trans hh, r⟩
/-- lists on a shelf stand while blocks of their types stand -/
theorem She.far {e te : TypeId} {k B : Nat} {w w' : World} {V U : Value} {rs us : List Rr} (h : She e te k B w V U rs us) (hk : ∀ (g : Nat) (c : Array Value) (t : TypeId) (fz : Nat × Nat), w.heap[g]? = some (.cells c t fz) → t = e ∨ t = te → w'.heap[g]? = w.heap[g]?) : She e te k B w' V U rs us :=
  ⟨own_far h.outV (fun g hg => by obtain ⟨c, fz, hh⟩ := row_kindR h.outV g hg; exact hk g c _ fz hh (.inr rfl)),
   own_far h.outU (fun g hg => by obtain ⟨c, fz, hh⟩ := row_kindR h.outU g hg; exact hk g c _ fz hh (.inr rfl)),
   fun r hr => own_far (h.each r hr) (fun g hg => by obtain ⟨c, fz, hh⟩ := row_kindR (h.each r hr) g hg; exact hk g c _ fz hh (.inl rfl)), h.apart, h.outs⟩
theorem She.setFar {e te t : TypeId} {k B g : Nat} {w : World} {V U : Value} {rs us : List Rr} {c : Array Value} {fz : Nat × Nat} (h : She e te k B w V U rs us) (hg : w.heap[g]? = some (.cells c t fz)) (h1 : t ≠ e) (h2 : t ≠ te) (m : Nat) (u : Value) : She e te k B (w.setCell ⟨g, m, none⟩ u) V U rs us :=
  h.far (fun g' c' t' fz' hh ht => by
    by_cases hgg : g' = g
    · subst hgg
      rw [hg] at hh
      cases hh
      rcases ht with rfl | rfl
      · exact (h1 rfl).elim
      · exact (h2 rfl).elim
    · exact heap_setCell_other _ _ _ _ hgg)
theorem She.grwFar {e te t : TypeId} {k B B' s n : Nat} {w w' : World} {V U v : Value} {rs us : List Rr} {xs : List Value} (h : She e te k B w V U rs us) (hr : w.ownsRow B' t s v n xs) (hg : w.grownBy w' v.ownBlock) (h1 : t ≠ e) (h2 : t ≠ te) : She e te k B w' V U rs us :=
  h.far (fun g c t' fz hh ht => hg.block g (lt_of_block hh) (fun hrow => by
    obtain ⟨c', fz', hh'⟩ := row_kindR hr g hrow.symm
    rw [hh] at hh'
    cases hh'
    rcases ht with rfl | rfl
    · exact h1 rfl
    · exact h2 rfl))
theorem She.rowFar {e te t : TypeId} {k B B' s n g : Nat} {w : World} {V U v : Value} {rs us : List Rr} {xs : List Value} (h : She e te k B w V U rs us) (hr : w.ownsRow B' t s v n xs) (hv : v.ownBlock = some g) (h1 : t ≠ e) (h2 : t ≠ te) (m : Nat) (u : Value) : She e te k B (w.setCell ⟨g, m, none⟩ u) V U rs us := by
  obtain ⟨c, fz, hh⟩ := row_kindR hr g hv
  exact h.setFar hh h1 h2 m u
theorem She.box {e te : TypeId} {k B : Nat} {w : World} {V U : Value} {rs us : List Rr} (h : She e te k B w V U rs us) {b : Nat} (hb : b < B) (i : Nat) (x : Value) : She e te k B (w.setCell ⟨b, i, none⟩ x) V U rs us := by
  have key : ∀ {E s n : Nat} {v : Value} {xs : List Value}, w.ownsRow B E s v n xs → (w.setCell ⟨b, i, none⟩ x).ownsRow B E s v n xs := fun ho => ownsRow_setCell_other ho (a := ⟨b, i, none⟩) (fun h1 => by have := (ho.lt b h1).1; omega) x
  exact ⟨key h.outV, key h.outU, fun r hr => key (h.each r hr), h.apart, h.outs⟩
theorem one_cell {v : Value} (h : v.oneCell' = true) : ∀ u ∈ [v], u.oneCell' = true := fun u hu => by rw [List.mem_singleton] at hu; subst hu; exact h
theorem own_oneT {w : World} {B s n : Nat} {e : TypeId} {v : Value} {xs : List Value} (h : w.ownsRow B e s v n xs) : v.oneCell' = true := by
  obtain ⟨a, c, rfl, -⟩ := own_slice h
  rfl
/-- the shelf's box: all is empty but the lists of nodes and of ints -/
def bxT (V U I J : Value) : Array Value := #[.slice none 0 0, .slice none 0 0, V, U, .slice none 0 0, .slice none 0 0, I, J, .slice none 0 0, .slice none 0 0, .slice none 0 0, .slice none 0 0]
/-- the shelf's own alone are written -/
structure Frm (b : Nat) (V U : Value) (w w' : World) : Prop where
  keep : ∀ g, g < w.heap.size → g ≠ b → V.ownBlock ≠ some g → U.ownBlock ≠ some g → w'.heap[g]? = w.heap[g]?
  bel : Below b w w'
/-- a shelf with lists of nodes and lists of ints -/
structure ShT (b B : Nat) (w : World) (V U I J : Value) (rn un ri ui : List Rr) : Prop where
  box : Bx w b (bxT V U I J) 30
  n : She 116 102 4 B w V U rn un
  i : She 3 32 1 B w I J ri ui
  lt : b < B
  le : B ≤ w.heap.size
theorem ShT.below {b B : Nat} {w w' : World} {V U I J : Value} {rn un ri ui : List Rr} (h : ShT b B w V U I J rn un ri ui) (hb : Below w.heap.size w w') : ShT b B w' V U I J rn un ri ui :=
  ⟨h.box.below hb h.box.lt, h.n.below hb, h.i.below hb, h.lt, Nat.le_trans h.le hb.size⟩
set_option maxRecDepth 1000000 in
set_option maxHeartbeats 1000000 in
theorem copyInts_own (B : Nat) (v : Value) (n : Nat) (xs : List Value) (w : World) (h : w.ownsRow B 3 1 v n xs) (h1 : ∀ u ∈ xs, u.oneCell' = true) (hn : n ≤ 4194304) :
    Calls Tryz.prog 37 #[v] w fun e w' => ∃ u, e = .returned u ∧ w'.ownsRow w.heap.size 3 1 u n xs ∧ Below w.heap.size w w' := by
  obtain ⟨i0, hi0, hz0, hz1, hz2⟩ := info_parts infoInt
  obtain ⟨a, c, rfl, -, hn2⟩ := own_slice h
  have HO : Hid (w.ownsRow B 3 1 (.slice a n c) n xs) := h
  have H1 : Hid (∀ u ∈ xs, u.oneCell' = true) := h1
  have HN2 : Hid (a = none → n = 0 ∧ c = 0) := hn2
  have HL : Hid (xs.length = n * 1) := h.1
  clear h h1 hn2
  have HL0 : Hid ((w.alloc (.cells #[] 3)).ownsRow w.heap.size 3 1 (.slice (some ⟨w.heap.size, 0, none⟩) 0 0) 0 []) := World.ownsRow_lit w #[] 0 (Nat.le_refl _) (by unfold maxLen; omega) rfl
  go_enter Tryz.func37, Tryz.ntmps37
  go_wp2_with (at_builtin; ((refine wpList_append_at _ rfl _ _ 32 rfl w.heap.size 3 i0 (.int .i64 0) 1 8 Tryz.underlying32 hi0 hz0 hz1 hz2 rfl (by decide) _ 0 [] rfl HL0.out a n c xs rfl HL.out HN2.out (own_news (own_belowR HO.out ((Below.refl _ w).alloc (Nat.le_refl _) _) (Nat.le_refl _))) H1.out (by unfold maxLen; omega) (by omega) (by simp) ?_); intro v1 w1 hown1 hgrow1 _; have HB1 : Hid (Below w.heap.size w w1) := ((Below.refl _ w).alloc (Nat.le_refl _) _).grown hgrow1 (by simp) (fun g h => (HL0.out.lt g h).1); have HO1 : Hid (w1.ownsRow w.heap.size 3 1 v1 n xs) := (by unfold Hid; rw [Nat.zero_add, List.nil_append] at hown1; exact hown1); clear hown1 hgrow1))
  go_ret
  exact ⟨_, rfl, HO1.out, HB1.out⟩
theorem mark_any (n : Nat) (w : World) (hn : n ≤ 1000000) : Calls Tryz.prog 67 #[.int .i64 (n : Int)] w fun e w' => e = .returned (.int .i64 (-7777 - (n : Int))) ∧ w' = w := by
  have mk : IntKind.i64.wrap (-7777 - (n : Int)) = -7777 - (n : Int) := IntWalk.i64_in _ ⟨by omega, by omega⟩
  go_enter Tryz.func67, Tryz.ntmps67
  go_wp2
  go_ret
  exact ⟨rfl, rfl⟩
end Go.Proofs.YtgijcbipnjmhgabGreat

namespace Go.Proofs.YtgijcbipnjmhgabGreat
open Go.ChangeShapes Go.WideShapes Go.ChangeAt Go.RowKit
set_option linter.unusedVariables false
set_option linter.unusedSimpArgs false

/-- a row's block is the one that it was, or new -/
def NwB (w : World) (V V' : Value) : Prop := ∀ g, V'.ownBlock = some g → V.ownBlock = some g ∨ w.heap.size ≤ g
set_option maxRecDepth 1000000 in
set_option maxHeartbeats 2000000 in
theorem shelfInts_any (b B : Nat) (w : World) (N M V U : Value) (rn un rs us : List Rr) (L : Rr) (hT : ShT b B w N M V U rn un rs us) (hL : w.ownsRow B 3 1 L.v L.n L.xs) (hap : ∀ q ∈ rs ++ us, ApR q L) (h1 : ∀ u ∈ L.xs, u.oneCell' = true) (hn : L.n ≤ 4194304) (hrs : rs.length ≤ 1000) (hus : us.length ≤ 1000) :
    Calls Tryz.prog 15 #[.pointer (some ⟨b, 0, none⟩), L.v] w fun e w' => (∃ x, e = .returned x) ∧ ∃ V' U' u, ShT b B w' N M V' U' rn un (rs ++ [L]) (us ++ [u]) ∧ u.n = L.n ∧ u.xs = L.xs ∧ (∀ g, u.v.ownBlock = some g → w.heap.size ≤ g) ∧ Frm b V U w w' ∧ NwB w V V' ∧ NwB w U U' := by
  obtain ⟨i0, hi0, hz0, hz1, hz2⟩ := info_parts infoRowI
  obtain ⟨hbx, hN, hS, hbB, hB⟩ := hT
  have HN : Hid (She 116 102 4 B w N M rn un) := hN
  obtain ⟨Lv, Ln, Lx⟩ := L
  simp only at hL h1 hn
  have HX : Hid (Bx w b (bxT N M V U) 30) := hbx
  have HS : Hid (She 3 32 1 B w V U rs us) := hS
  have HL : Hid (w.ownsRow B 3 1 Lv Ln Lx) := hL
  have HAP : Hid (∀ q ∈ rs ++ us, ApR q ⟨Lv, Ln, Lx⟩) := hap
  have H1 : Hid (∀ u ∈ Lx, u.oneCell' = true) := h1
  have HLo : Hid (Lv.oneCell' = true) := own_oneT hL
  have c4 : w.cell? ⟨b, 6, none⟩ = some V := hbx.cell 6
  have c5 : w.cell? ⟨b, 7, none⟩ = some U := hbx.cell 7
  clear hbx hN hS hL hap h1
  go_enter Tryz.func15, Tryz.ntmps15
  obtain ⟨aV, cV, rfl, -, -⟩ := own_slice HS.out.outV
  obtain ⟨aU, cU, rfl, -, -⟩ := own_slice HS.out.outU
  obtain ⟨aL, cL, rfl, -, -⟩ := own_slice HL.out
  have hVb : (Value.slice aV rs.length cV).ownBlock ≠ some b := fun h => by have := (HS.out.outV.lt b h).1; omega
  have hUb : (Value.slice aU us.length cU).ownBlock ≠ some b := fun h => by have := (HS.out.outU.lt b h).1; omega
  have HVB : Hid ((Value.slice aV rs.length cV).ownBlock ≠ some b ∧ (Value.slice aU us.length cU).ownBlock ≠ some b) := ⟨hVb, hUb⟩
  clear hVb hUb
  go_wp2_with (first
    | (at_builtin; ((refine wpList_append_at _ rfl _ _ 26 rfl B 32 i0 (.slice none 0 0) 1 24 Tryz.underlying26 hi0 hz0 hz1 hz2 rfl (by decide) _ _ _ rfl (own_belowR HS.out.outV ((Below.refl _ w).alloc (Nat.le_refl _) _) (Nat.le_refl _)) (some ⟨w.heap.size, 0, none⟩) 1 1 [.slice aL Ln cL] rfl (by rfl) (fun h => by cases h) (fun ad had => by cases had; exact cells_newR w [.slice aL Ln cL] 32) (one_cell rfl) (by unfold maxLen; omega) (by omega) (by simp; omega) ?_); intro v1 w1 hown1 hgrow1 hat1; obtain ⟨a1, c1, rfl, -, -⟩ := own_slice hown1; have hA : Below w.heap.size w (w.alloc (.cells [Value.slice aL Ln cL].toArray 32)) := (Below.refl _ w).alloc (Nat.le_refl _) _; have S1 : Hid (She 3 32 1 B w1 (.slice a1 (rs.length + 1) c1) (.slice aU us.length cU) (rs ++ [⟨.slice aL Ln cL, Ln, Lx⟩]) us) := (HS.out.below hA).add (by decide) (own_belowR HL.out hA (Nat.le_refl _)) HAP.out hown1 hgrow1 hat1; have N1 : Hid (She 116 102 4 B w1 N M rn un) := (HN.out.below hA).grwFar (own_belowR HS.out.outV hA (Nat.le_refl _)) hgrow1 (by decide) (by decide); have X1 : Hid (Bx w1 b (bxT N M (.slice aV rs.length cV) (.slice aU us.length cU)) 30) := (HX.out.below hA HX.out.lt).grw hgrow1 HVB.out.1; have x4 : w1.cell? ⟨b, 6, none⟩ = some (.slice aV rs.length cV) := X1.out.cell 6; have y4 := X1.out.free 6; have K1 : Hid (Frm b (.slice aV rs.length cV) (.slice aU us.length cU) w w1 ∧ w.heap.size + 1 ≤ w1.heap.size) := ⟨⟨fun g h1 h2 h3 h4 => (hgrow1.block g (by simp; omega) (fun e => h3 e.symm)).trans (hA.block g h1), (hA.mono (by omega)).grown hgrow1 (by simp; omega) (fun g h => by have := (HS.out.outV.lt g h).1; omega)⟩, by have := hgrow1.size; simpa using this⟩; obtain ⟨w2, e2⟩ : ∃ w2, w1.setCell ⟨b, 6, none⟩ (.slice a1 (rs.length + 1) c1) = w2 := ⟨_, rfl⟩; have HE2 : Hid (w1.setCell ⟨b, 6, none⟩ (.slice a1 (rs.length + 1) c1) = w2) := e2; have S2 : Hid (She 3 32 1 B w2 (.slice a1 (rs.length + 1) c1) (.slice aU us.length cU) (rs ++ [⟨.slice aL Ln cL, Ln, Lx⟩]) us) := (by unfold Hid; rw [← e2]; exact S1.out.box hbB 6 _); have N2 : Hid (She 116 102 4 B w2 N M rn un) := (by unfold Hid; rw [← e2]; exact N1.out.box hbB 6 _); have X2 : Hid (Bx w2 b (bxT N M (.slice a1 (rs.length + 1) c1) (.slice aU us.length cU)) 30) := (by unfold Hid; rw [← e2]; exact X1.out.set 6 _); have hz2w : w2.heap.size = w1.heap.size := (by rw [← e2]; simp); have K2 : Hid (Frm b (.slice aV rs.length cV) (.slice aU us.length cU) w w2) := (by unfold Hid; rw [← e2]; exact ⟨fun g h1 h2 h3 h4 => (heap_setCell_other _ _ _ _ h2).trans (K1.out.1.keep g h1 h2 h3 h4), K1.out.1.bel.setCell (p := ⟨b, 6, none⟩) (Nat.le_refl _) _⟩); have x5 : (w1.setCell ⟨b, 6, none⟩ (.slice a1 (rs.length + 1) c1)).cell? ⟨b, 7, none⟩ = some (.slice aU us.length cU) := (by rw [e2]; exact X2.out.cell 7); have A1 : Hid (NwB w (.slice aV rs.length cV) (.slice a1 (rs.length + 1) c1)) := (fun g hg => hat1.elim (fun h => .inl (h.symm.trans hg)) (fun h => .inr (by have h9 := Option.some.inj (hg.symm.trans h); simp at h9; omega))); clear hown1 hgrow1 hat1 hA e2)))
  rw [HE2.out]
  clear x5 x4 y4 c4 c5
  have x5 : w2.cell? ⟨b, 7, none⟩ = some (.slice aU us.length cU) := X2.out.cell 7
  have HZ : Hid (B ≤ w2.heap.size ∧ w.heap.size + 1 ≤ w2.heap.size) := ⟨by have := K1.out.2; omega, by have := K1.out.2; omega⟩
  have HM : Hid ((⟨.slice aL Ln cL, Ln, Lx⟩ : Rr) ∈ (rs ++ [⟨.slice aL Ln cL, Ln, Lx⟩]) ++ us) := by unfold Hid; simp
  refine wp_region_G (fun z => z.cell? ⟨b, 7, none⟩ = some (.slice aU us.length cU)) 11 (by kernel_rfl) ?_
  refine wpAnyG_take (i := 0) (v := .pointer (some ⟨b, 0, none⟩)) rfl (by kernel_rfl) (by kernel_rfl) (by kernel_rfl) (fun _ _ _ h => h) (by kernel_rfl) (by kernel_rfl) (by kernel_rfl) (Or.inl ⟨by rfl, fun z hz => ?_⟩) x5 ?_
  · (try dsimp only at hz); go_simp
  try simp only [Act.put, List.setIfInBounds_toArray, List.set_cons_zero, List.set_cons_succ]
  refine wpAnyG_take (i := 1) (v := .pointer (some ⟨b, 0, none⟩)) rfl (by kernel_rfl) (by kernel_rfl) (by kernel_rfl) (fun _ _ _ h => h) (by kernel_rfl) (by kernel_rfl) (by kernel_rfl) (Or.inl ⟨by rfl, fun z hz => ?_⟩) x5 ?_
  · (try dsimp only at hz); go_simp
  try simp only [Act.put, List.setIfInBounds_toArray, List.set_cons_zero, List.set_cons_succ]
  refine wpAnyG_take (i := 2) (v := .pointer (some ⟨b, 0, none⟩)) rfl (by kernel_rfl) (by kernel_rfl) (by kernel_rfl) (fun _ _ _ h => h) (by kernel_rfl) (by kernel_rfl) (by kernel_rfl) (Or.inl ⟨by rfl, fun z hz => ?_⟩) x5 ?_
  · (try dsimp only at hz); go_simp
  try simp only [Act.put, List.setIfInBounds_toArray, List.set_cons_zero, List.set_cons_succ]
  refine wpAnyG_take (i := 3) (v := .pointer (some ⟨b, 7, none⟩)) rfl (by kernel_rfl) (by kernel_rfl) (by kernel_rfl) (fun _ _ _ h => h) (by kernel_rfl) (by kernel_rfl) (by kernel_rfl) (Or.inl ⟨by rfl, fun z hz => ?_⟩) x5 ?_
  · (try dsimp only at hz); go_simp
  try simp only [Act.put, List.setIfInBounds_toArray, List.set_cons_zero, List.set_cons_succ]
  refine wpAnyG_take (i := 4) (v := .slice aU us.length cU) rfl (by kernel_rfl) (by kernel_rfl) (by kernel_rfl) (fun _ _ _ h => h) (by kernel_rfl) (by kernel_rfl) (by kernel_rfl) (Or.inl ⟨by rfl, fun z hz => ?_⟩) x5 ?_
  · (try dsimp only at hz); go_simp
  try simp only [Act.put, List.setIfInBounds_toArray, List.set_cons_zero, List.set_cons_succ]
  refine wpAnyG_take (i := 5) (v := .slice aL Ln cL) rfl (by kernel_rfl) (by kernel_rfl) (by kernel_rfl) (fun _ _ _ h => h) (by kernel_rfl) (by kernel_rfl) (by kernel_rfl) (Or.inl ⟨by rfl, fun z hz => ?_⟩) x5 ?_
  · (try dsimp only at hz); go_simp
  try simp only [Act.put, List.setIfInBounds_toArray, List.set_cons_zero, List.set_cons_succ]
  refine wpAnyG_one (i := 6) (by kernel_rfl) rfl (fun K hK0 => ?_)
  have hK : Hid _ := hK0
  clear hK0
  go_simp
  refine (copyInts_own B _ Ln Lx _ (own_belowR (S2.out.each _ HM.out) (Below.refl _ _).drew (Nat.le_refl _)) H1.out hn).mono ?_
  rintro e w3 ⟨u3, rfl, ho3, hb3⟩
  obtain ⟨a3, c3, rfl, -, -⟩ := own_slice ho3
  have hb3' : Below w2.heap.size w2 w3 := (Below.refl _ _).drew.trans hb3
  have HO3 : Hid (w3.ownsRow w2.heap.size 3 1 (.slice a3 Ln c3) Ln Lx) := ho3
  have S3 : Hid (She 3 32 1 B w3 (.slice a1 (rs.length + 1) c1) (.slice aU us.length cU) (rs ++ [⟨.slice aL Ln cL, Ln, Lx⟩]) us) := S2.out.below hb3'
  have N3 : Hid (She 116 102 4 B w3 N M rn un) := N2.out.below hb3'
  have X3 : Hid (Bx w3 b (bxT N M (.slice a1 (rs.length + 1) c1) (.slice aU us.length cU)) 30) := X2.out.below hb3' X2.out.lt
  have d5 : w3.cell? ⟨b, 7, none⟩ = some (.slice aU us.length cU) := X3.out.cell 7
  have HB3 : Hid (Below w2.heap.size w2 w3) := hb3'
  clear ho3 hb3 hb3'
  refine hK.out _ _ (fun _ => d5) ?_
  clear hK K
  try simp only [Act.put, List.setIfInBounds_toArray, List.set_cons_zero, List.set_cons_succ]
  refine wpAnyG_one (i := 7) (by kernel_rfl) rfl (fun K hK0 => ?_)
  have hK : Hid _ := hK0
  clear hK0
  go_simp
  have hA3 : Below w3.heap.size w3 (w3.alloc (.cells #[Value.slice a3 Ln c3] 32)) := (Below.refl _ w3).alloc (Nat.le_refl _) _
  have d5a : (w3.alloc (.cells #[Value.slice a3 Ln c3] 32)).cell? ⟨b, 7, none⟩ = some (.slice aU us.length cU) := (X3.out.below hA3 X3.out.lt).cell 7
  refine hK.out _ _ (fun _ => d5a) ?_
  clear hK K
  try simp only [Act.put, List.setIfInBounds_toArray, List.set_cons_zero, List.set_cons_succ]
  refine wpAnyG_one (i := 8) (by kernel_rfl) rfl (fun K hK0 => ?_)
  have hK : Hid _ := hK0
  clear hK0
  refine step_append_lies _ (by rfl) _ _ _ (by rfl) B 32 i0 (.slice none 0 0) 1 24 Tryz.underlying26 hi0 hz0 hz1 hz2 rfl (by omega) (.slice aU us.length cU) us.length (us.map Rr.v) (by rfl) (own_belowR S3.out.outU hA3 (Nat.le_refl _)) ⟨w3.heap.size, 0, none⟩ 1 1 [.slice a3 Ln c3] (by rfl) (by rfl) (cells_newR w3 [.slice a3 Ln c3] 32) (one_cell (own_oneT HO3.out)) (by omega) (by unfold maxLen; omega) (by omega) (by have := HZ.out; have := HB3.out.size; simp; omega) (w3.heap.size + 1) (by simp) ?_
  intro gg cp w5 hown5 hgrow5 hat5 hlt5
  have N5 : Hid (She 116 102 4 B w5 N M rn un) := (N3.out.below hA3).grwFar (own_belowR S3.out.outU hA3 (Nat.le_refl _)) hgrow5 (by decide) (by decide)
  have Z5 : Hid (B ≤ w5.heap.size) := by unfold Hid; have h1 := HZ.out; have h2 := HB3.out.size; have h3 := hgrow5.size; simp at h3; omega
  have X5 : Hid (Bx w5 b (bxT N M (.slice a1 (rs.length + 1) c1) (.slice aU us.length cU)) 30) := (X3.out.below hA3 X3.out.lt).grw hgrow5 HVB.out.2
  have x55 : w5.cell? ⟨b, 7, none⟩ = some (.slice aU us.length cU) := X5.out.cell 7
  have y55 := X5.out.free 7
  have S5 : Hid (She 3 32 1 B w5 (.slice a1 (rs.length + 1) c1) (.slice (some ⟨gg, 0, none⟩) (us.length + 1) cp) (rs ++ [⟨.slice aL Ln cL, Ln, Lx⟩]) (us ++ [⟨.slice a3 Ln c3, Ln, Lx⟩])) := (S3.out.below hA3).addU (by decide) (own_belowR (own_base HO3.out HZ.out.1) hA3 (Nat.le_refl _)) (fun q hq g hq1 hL => by have h1 := ((S2.out.each q hq).lt g hq1).2; have h2 := (HO3.out.lt g hL).1; omega) hown5 hgrow5 (hat5.elim (fun h => .inl h.symm) (fun h => .inr (by rw [h]; show some _ = some _; simp)))
  have K5 : Hid (Frm b (.slice aV rs.length cV) (.slice aU us.length cU) w w5) := (by
    have hz := HZ.out
    have hz3 := HB3.out.size
    refine ⟨fun g h1 h2 h3 h4 => ?_, ?_⟩
    · exact (((hgrow5.block g (by simp; omega) (fun e => h4 e.symm)).trans (hA3.block g (by omega))).trans (HB3.out.block g (by omega))).trans (K2.out.keep g h1 h2 h3 h4)
    · exact ((K2.out.bel.trans (HB3.out.mono (by omega))).trans (hA3.mono (by omega))).grown hgrow5 (by simp; omega) (fun g h => by have := (S2.out.outU.lt g h).1; omega))
  have A5 : Hid (NwB w (.slice aU us.length cU) (.slice (some ⟨gg, 0, none⟩) (us.length + 1) cp)) := (fun g hg => hat5.elim (fun h => .inl (h.trans hg)) (fun h => .inr (by have h8 := HZ.out; have h9 := HB3.out.size; have h7 : gg = g := Option.some.inj hg; omega)))
  clear hown5 hgrow5 hat5 d5 d5a
  refine hK.out _ _ (fun _ => x55) ?_
  clear hK K
  try simp only [Act.put, List.setIfInBounds_toArray, List.set_cons_zero, List.set_cons_succ]
  refine wpAnyG_one (i := 9) (by kernel_rfl) rfl (fun K hK0 => ?_)
  have hK : Hid _ := hK0
  clear hK0
  go_simp
  refine hK.out _ _ (fun _ => x55) ?_
  clear hK K
  try simp only [Act.put, List.setIfInBounds_toArray, List.set_cons_zero, List.set_cons_succ]
  refine wpAnyG_one (i := 10) (by kernel_rfl) rfl (fun K hK0 => ?_)
  have hK : Hid _ := hK0
  clear hK0
  go_simp
  refine hK.out _ _ (fun _ => x55) ?_
  clear hK K
  try simp only [Act.put, List.setIfInBounds_toArray, List.set_cons_zero, List.set_cons_succ]
  refine wpAnyG_one (i := 11) (by kernel_rfl) rfl (fun K hK0 => ?_)
  have hK : Hid _ := hK0
  clear hK0
  go_simp
  refine hK.out _ _ (fun h => Bool.noConfusion (show true = false from h)) ?_
  clear hK K
  try simp only [Act.put, List.setIfInBounds_toArray, List.set_cons_zero, List.set_cons_succ]
  refine wpAnyG_done (by kernel_rfl) ?_ _
  refine bodyPost_end (results_none rfl _ _ _) rfl ?_
  refine ⟨⟨_, rfl⟩, (.slice a1 (rs.length + 1) c1), (.slice (some ⟨gg, 0, none⟩) (us.length + 1) cp), ⟨.slice a3 Ln c3, Ln, Lx⟩, ⟨X5.out.set 7 _, N5.out.box hbB 7 _, S5.out.box hbB 7 _, hbB, by have := Z5.out; simpa using this⟩, rfl, rfl, (fun g hg => by have h1 := (HO3.out.lt g hg).1; have h2 := HZ.out.2; omega), ?_⟩
  exact ⟨⟨fun g h1 h2 h3 h4 => (heap_setCell_other _ _ _ _ h2).trans (K5.out.keep g h1 h2 h3 h4), K5.out.bel.setCell (p := ⟨b, 7, none⟩) (Nat.le_refl _) _⟩, A1.out, A5.out⟩
end Go.Proofs.YtgijcbipnjmhgabGreat

namespace Go.Proofs.YtgijcbipnjmhgabGreat
open Go.ChangeShapes Go.WideShapes Go.ChangeAt Go.RowKit
set_option linter.unusedVariables false
set_option linter.unusedSimpArgs false

/-- what stands on the shelf is what it was -/
def Sti (α : Type) [Rw α] (rs us : List Rr) : Prop := rs.length = us.length ∧ ∀ (i : Nat) r u, rs[i]? = some r → us[i]? = some u → ∃ E : List α, r.n = E.length ∧ r.xs = flat E ∧ u.n = E.length ∧ u.xs = flat E ∧ E.length ≤ 4194304
theorem liesA_own {α : Type} [Rw α] {w : World} {B e n c : Nat} {a : Option Addr} {xs : List α} (h : w.ownsRow B e (Rw.k α) (.slice a n c) n (flat xs)) : LiesA w a xs := by
  obtain ⟨a9, c9, h1, h2, -⟩ := own_form h
  simp only [Value.slice.injEq] at h1
  obtain ⟨rfl, -, -⟩ := h1
  exact h2

set_option maxRecDepth 1000000 in
set_option maxHeartbeats 2000000 in
theorem still_any (b B : Nat) (w : World) (V U I J : Value) (rn un ri ui : List Rr) (hT : ShT b B w V U I J rn un ri ui) (hE : Sti Nd rn un) (hF : Sti Int ri ui) (hrn : rn.length ≤ 1000) (hri : ri.length ≤ 1000) :
    Calls Tryz.prog 38 #[.pointer (some ⟨b, 0, none⟩)] w fun e w' => e = .returned (.bool true) ∧ Below w.heap.size w w' := by
  obtain ⟨aV, cV, rfl, -, -⟩ := own_slice hT.n.outV
  obtain ⟨aU, cU, rfl, -, -⟩ := own_slice hT.n.outU
  obtain ⟨aI, cI, rfl, -, -⟩ := own_slice hT.i.outV
  obtain ⟨aJ, cJ, rfl, -, -⟩ := own_slice hT.i.outU
  have hul : un.length = rn.length := hE.1.symm
  have hjl : ui.length = ri.length := hF.1.symm
  rw [hul, hjl] at hT
  have HT : Hid (∀ v, Below w.heap.size w v → ShT b B v (.slice aV rn.length cV) (.slice aU rn.length cU) (.slice aI ri.length cI) (.slice aJ ri.length cJ) rn un ri ui) := fun v hv => hT.below hv
  have HE : Hid (Sti Nd rn un) := hE
  have HF2 : Hid (Sti Int ri ui) := hF
  have c0 : w.cell? ⟨b, 0, none⟩ = some (.slice none 0 0) := hT.box.cell 0
  have c2 : w.cell? ⟨b, 2, none⟩ = some (.slice aV rn.length cV) := hT.box.cell 2
  clear hT hE hF
  go_enter Tryz.func38, Tryz.ntmps38
  go_wp2
  refine wp_loop_rounds 1 ?_
  rw [rounds_succ]
  go_wp2
  clear c0 c2
  go_loopg [39] rn.length (fun gk si wr => ∃ k : Nat, gk = rn.length - k ∧ k ≤ rn.length ∧ si = .int .i64 (k : Int) ∧ Below w.heap.size w wr)
  case atStart => exact ⟨0, rfl, Nat.zero_le _, rfl, Below.refl _ _⟩
  case round =>
    obtain ⟨k, rfl, hk, rfl, hbel⟩ := hrel
    have HB : Hid (Below w.heap.size w wr) := hbel
    have SR : Hid (ShT b B wr (.slice aV rn.length cV) (.slice aU rn.length cU) (.slice aI ri.length cI) (.slice aJ ri.length cJ) rn un ri ui) := HT.out _ hbel
    clear hbel
    by_cases hlt : k < rn.length
    · have hlt' : (k : Int) < (rn.length : Int) := by omega
      have hk0 : (0 : Int) ≤ (k : Int) := by omega
      obtain ⟨r, hr⟩ : ∃ r, rn[k]? = some r := ⟨_, List.getElem?_eq_getElem hlt⟩
      obtain ⟨u, hu⟩ : ∃ u, un[k]? = some u := ⟨_, List.getElem?_eq_getElem (by omega)⟩
      obtain ⟨E, hn1, hx1, hn2, hx2, hEl⟩ := HE.out.2 k r u hr hu
      obtain ⟨gV, cV', hV, cv, -⟩ := SR.out.n.cellV hr
      obtain ⟨gU, cU', hU, cu⟩ := SR.out.n.cellU hu
      simp only [Value.slice.injEq] at hV hU
      obtain ⟨rfl, -, rfl⟩ := hV
      obtain ⟨rfl, -, rfl⟩ := hU
      have hro := SR.out.n.get hr
      have huo := SR.out.n.getU hu
      obtain ⟨a1, c1, hv1, -, -⟩ := own_slice hro
      obtain ⟨a2, c2, hv2, -, -⟩ := own_slice huo
      rw [hv1, hn1, hx1] at hro
      rw [hv2, hn2, hx2] at huo
      rw [hv1, hn1] at cv
      rw [hv2, hn2] at cu
      have HSE : Hid (∀ v, Below wr.heap.size wr v → Calls Tryz.prog 63 #[.agg #[.slice a1 E.length c1], .agg #[.slice a2 E.length c2]] v fun e w' => e = .returned (.bool true) ∧ Below v.heap.size v w') := fun v hv =>
        same_tree a1 a2 c1 c2 E v ((liesA_own hro).below hv) ((liesA_own huo).below hv) (by unfold maxLen; omega)
      obtain ⟨X, F, hX, hF, onto⟩ := class_of (fun v => Below wr.heap.size wr v) (Below.refl _ wr)
      have HF : Hid (∀ y, Below wr.heap.size wr (F y)) := hF
      have HO : Hid (∀ v, Below wr.heap.size wr v → ∃ x, v = F x) := fun v h => by obtain ⟨x, hx⟩ := onto v h; exact ⟨x, hx.symm⟩
      have f4 : ∀ y, (F y).cell? ⟨b, 2, none⟩ = some (.slice (some ⟨gV, 0, none⟩) rn.length cV) := fun y => (HT.out _ (HB.out.trans ((hF y).mono HB.out.size))).box.cell 2
      have f5 : ∀ y, (F y).cell? ⟨b, 3, none⟩ = some (.slice (some ⟨gU, 0, none⟩) rn.length cU) := fun y => (HT.out _ (HB.out.trans ((hF y).mono HB.out.size))).box.cell 3
      have fv : ∀ y, (F y).cell? ⟨gV, k, none⟩ = some (.slice a1 E.length c1) := fun y => ((hF y).cell (World.block_lt_of_cell? _ _ cv)).trans cv
      have fu : ∀ y, (F y).cell? ⟨gU, k, none⟩ = some (.slice a2 E.length c2) := fun y => ((hF y).cell (World.block_lt_of_cell? _ _ cu)).trans cu
      clear hF onto hro huo hr hu cv cu hv1 hv2 hn1 hn2 hx1 hx2
      go_upto_region 10 with fail
      refine region_class F (by kernel_rfl) (by kernel_rfl) (by obtain ⟨x, hx⟩ := HO.out _ (Below.refl _ _).drew; exact ⟨x, hx.symm⟩) ?_
      repeat (go_big_quiet_step (first | (go_at_call 63; with_reducible refine (HSE.out _ (HF.out _)).mono ?_; rintro e w5 ⟨rfl, hb5⟩; exact ⟨rfl, HO.out _ ((HF.out _).trans (hb5.mono (HF.out _).size))⟩)))
      refine wpQuiet_nil ?_
      rintro _ ⟨nq, rfl⟩
      have HB2 : Hid (Below w.heap.size w (F nq)) := HB.out.trans ((HF.out nq).mono HB.out.size)
      go_wp2
      go_roundg (rn.length - (k + 1))
      case measure => omega
      case rel => exact ⟨k + 1, rfl, by omega, by go_num, HB2.out⟩
    · have hlt' : ¬ (k : Int) < (rn.length : Int) := by omega
      have d4 : wr.cell? ⟨b, 4, none⟩ = some (.slice none 0 0) := SR.out.box.cell 4
      have d6 : wr.cell? ⟨b, 6, none⟩ = some (.slice aI ri.length cI) := SR.out.box.cell 6
      clear hlt
      go_wp2
      refine wp_loop_rounds 1 ?_
      rw [rounds_succ]
      go_wp2
      clear d4 d6 hlt' hk SR
      obtain ⟨wo, rfl⟩ : ∃ wo, wo = wr := ⟨_, rfl⟩
      go_loopg [91] ri.length (fun gk si wr => ∃ k : Nat, gk = ri.length - k ∧ k ≤ ri.length ∧ si = .int .i64 (k : Int) ∧ Below w.heap.size w wr)
      case atStart => exact ⟨0, rfl, Nat.zero_le _, rfl, HB.out⟩
      case round =>
        obtain ⟨k, rfl, hk, rfl, hbel⟩ := hrel
        clear HB
        have HB : Hid (Below w.heap.size w wr) := hbel
        have SR : Hid (ShT b B wr (.slice aV rn.length cV) (.slice aU rn.length cU) (.slice aI ri.length cI) (.slice aJ ri.length cJ) rn un ri ui) := HT.out _ hbel
        clear hbel
        by_cases hlt : k < ri.length
        · have hlt' : (k : Int) < (ri.length : Int) := by omega
          have hk0 : (0 : Int) ≤ (k : Int) := by omega
          obtain ⟨r, hr⟩ : ∃ r, ri[k]? = some r := ⟨_, List.getElem?_eq_getElem hlt⟩
          obtain ⟨u, hu⟩ : ∃ u, ui[k]? = some u := ⟨_, List.getElem?_eq_getElem (by omega)⟩
          obtain ⟨E, hn1, hx1, hn2, hx2, hEl⟩ := HF2.out.2 k r u hr hu
          obtain ⟨gV, cV', hV, cv, -⟩ := SR.out.i.cellV hr
          obtain ⟨gU, cU', hU, cu⟩ := SR.out.i.cellU hu
          simp only [Value.slice.injEq] at hV hU
          obtain ⟨rfl, -, rfl⟩ := hV
          obtain ⟨rfl, -, rfl⟩ := hU
          have hro := SR.out.i.get hr
          have huo := SR.out.i.getU hu
          obtain ⟨a1, c1, hv1, -, -⟩ := own_slice hro
          obtain ⟨a2, c2, hv2, -, -⟩ := own_slice huo
          rw [hv1, hn1, hx1] at hro
          rw [hv2, hn2, hx2] at huo
          rw [hv1, hn1] at cv
          rw [hv2, hn2] at cu
          have HSE : Hid (∀ v, Below wr.heap.size wr v → Calls Tryz.prog 13 #[.slice a1 E.length c1, .slice a2 E.length c2] v fun e w' => e = .returned (.bool true) ∧ Below v.heap.size v w') := fun v hv =>
            same_ints a1 a2 c1 c2 E v ((liesA_own hro).below hv) ((liesA_own huo).below hv) (by unfold maxLen; omega)
          obtain ⟨X, F, hX, hF, onto⟩ := class_of (fun v => Below wr.heap.size wr v) (Below.refl _ wr)
          have HF : Hid (∀ y, Below wr.heap.size wr (F y)) := hF
          have HO : Hid (∀ v, Below wr.heap.size wr v → ∃ x, v = F x) := fun v h => by obtain ⟨x, hx⟩ := onto v h; exact ⟨x, hx.symm⟩
          have f4 : ∀ y, (F y).cell? ⟨b, 6, none⟩ = some (.slice (some ⟨gV, 0, none⟩) ri.length cI) := fun y => (HT.out _ (HB.out.trans ((hF y).mono HB.out.size))).box.cell 6
          have f5 : ∀ y, (F y).cell? ⟨b, 7, none⟩ = some (.slice (some ⟨gU, 0, none⟩) ri.length cJ) := fun y => (HT.out _ (HB.out.trans ((hF y).mono HB.out.size))).box.cell 7
          have fv : ∀ y, (F y).cell? ⟨gV, k, none⟩ = some (.slice a1 E.length c1) := fun y => ((hF y).cell (World.block_lt_of_cell? _ _ cv)).trans cv
          have fu : ∀ y, (F y).cell? ⟨gU, k, none⟩ = some (.slice a2 E.length c2) := fun y => ((hF y).cell (World.block_lt_of_cell? _ _ cu)).trans cu
          clear hF onto hro huo hr hu cv cu hv1 hv2 hn1 hn2 hx1 hx2
          go_upto_region 22 with fail
          refine region_class F (by kernel_rfl) (by kernel_rfl) (by obtain ⟨x, hx⟩ := HO.out _ (Below.refl _ _).drew; exact ⟨x, hx.symm⟩) ?_
          repeat (go_big_quiet_step (first | (go_at_call 13; with_reducible refine (HSE.out _ (HF.out _)).mono ?_; rintro e w5 ⟨rfl, hb5⟩; exact ⟨rfl, HO.out _ ((HF.out _).trans (hb5.mono (HF.out _).size))⟩)))
          refine wpQuiet_nil ?_
          rintro _ ⟨nq, rfl⟩
          have HB2 : Hid (Below w.heap.size w (F nq)) := HB.out.trans ((HF.out nq).mono HB.out.size)
          go_wp2
          go_roundg (ri.length - (k + 1))
          case measure => omega
          case rel => exact ⟨k + 1, rfl, by omega, by go_num, HB2.out⟩
        · have hlt' : ¬ (k : Int) < (ri.length : Int) := by omega
          have d8 : wr.cell? ⟨b, 8, none⟩ = some (.slice none 0 0) := SR.out.box.cell 8
          have d10 : wr.cell? ⟨b, 10, none⟩ = some (.slice none 0 0) := SR.out.box.cell 10
          go_wp2
          refine wp_loop_rounds 1 ?_
          rw [rounds_succ]
          go_wp2
          refine wp_loop_rounds 1 ?_
          rw [rounds_succ]
          go_wp2
          go_ret
          exact ⟨rfl, HB.out⟩
end Go.Proofs.YtgijcbipnjmhgabGreat
