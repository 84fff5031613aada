import Derived.Test.YtphejjghgalkpaaGreatDoorTsl
import Derived.Test.YtphejjghgalkpaaGreatDoorLyc
import Derived.Test.YtphejjghgalkpaaGreatDoorSmT
import Derived.Test.YtphejjghgalkpaaGreatDoorOrd
import Derived.Deep.AppendLies
import Derived.Deep.RegionHeld3
namespace Go.Proofs.YtphejjghgalkpaaGreatDoor
open Go.ChangeShapes Go.WideShapes Go.ChangeAt Go.RowKit
set_option linter.unusedVariables false
set_option linter.unusedSimpArgs false


theorem infoEdRK : (Tryz.prog.info? 39).map (fun i => (i.zero, i.size, i.bytes)) = some (some (.agg #[.int .u8 0, .int .i64 0, .int .i64 0]), 3, 24) := by kernel_rfl
theorem infoRowK : (Tryz.prog.info? 22).map (fun i => (i.zero, i.size, i.bytes)) = some (some (.slice none 0 0), 1, 24) := by kernel_rfl
theorem own_newsK {w : World} {B e k n c : Nat} {a : Option Addr} {xs : List Value} (h : w.ownsRow B e k (.slice a n c) n xs) : ∀ ad, a = some ad → ∀ j u, xs[j]? = some u → w.cell? (ad.add j) = some u := by
  intro ad had j u hj
  rcases h.2 with ⟨hv, h0⟩ | ⟨g, cap, cur, hv, _⟩
  · simp only [Value.slice.injEq] at hv
    rw [hv.1] at had; cases had
  · simp only [Value.slice.injEq] at hv
    obtain ⟨ha, -, hc⟩ := hv
    subst hc
    rw [ha] at had h
    cases had
    exact h.cells rfl j u hj
set_option maxRecDepth 1000000 in
set_option maxHeartbeats 1000000 in
theorem copyEdits_anyK (B : Nat) (v : Value) (n : Nat) (xs : List Value) (w : World) (h : w.ownsRow B 39 3 v n xs) (h1 : ∀ u ∈ xs, u.oneCell' = true) (hn : n ≤ 100000000) :
    Calls Tryz.prog 21 #[v] w fun e w' => ∃ u, e = .returned u ∧ w'.ownsRow w.heap.size 39 3 u n xs ∧ Below w.heap.size w w' := by
  obtain ⟨i0, hi0, hz0, hz1, hz2⟩ := info_parts infoEdRK
  obtain ⟨a, c, rfl, -, hn2⟩ := own_slice h
  have HO : Hid (w.ownsRow B 39 3 (.slice a n c) n xs) := h
  have H1 : Hid (∀ u ∈ xs, u.oneCell' = true) := h1
  have HN2 : Hid (a = none → n = 0 ∧ c = 0) := hn2
  have HL : Hid (xs.length = n * 3) := h.1
  clear h h1 hn2
  have HL0 : Hid ((w.alloc (.cells #[] 39)).ownsRow w.heap.size 39 3 (.slice (some ⟨w.heap.size, 0, none⟩) 0 0) 0 []) := World.ownsRow_lit w #[] 0 (Nat.le_refl _) (by unfold maxLen; omega) rfl
  go_enter Tryz.func21, Tryz.ntmps21
  go_wp2_with (at_builtin; ((refine wpList_append_at _ rfl _ _ 22 rfl w.heap.size 39 i0 (.agg #[.int .u8 0, .int .i64 0, .int .i64 0]) 3 24 Tryz.underlying22 hi0 hz0 hz1 hz2 rfl (by decide) _ 0 [] rfl HL0.out a n c xs rfl HL.out HN2.out (own_newsK (own_belowR HO.out ((Below.refl _ w).alloc (Nat.le_refl _) _) (Nat.le_refl _))) H1.out (by unfold maxLen; omega) (by omega) (by simp) ?_); intro v1 w1 hown1 hgrow1 _; have HB1 : Hid (Below w.heap.size w w1) := ((Below.refl _ w).alloc (Nat.le_refl _) _).grown hgrow1 (by simp) (fun g h => (HL0.out.lt g h).1); have HO1 : Hid (w1.ownsRow w.heap.size 39 3 v1 n xs) := (by unfold Hid; rw [Nat.zero_add, List.nil_append] at hown1; exact hown1); clear hown1 hgrow1))
  go_ret
  exact ⟨_, rfl, HO1.out, HB1.out⟩
theorem mark_anyK (n : Nat) (w : World) (hn : n ≤ 100000000) : Calls Tryz.prog 78 #[.int .i64 (n : Int)] w fun e w' => e = .returned (.int .i64 (-7777 - (n : Int))) ∧ w' = w := by
  have mk : IntKind.i64.wrap (-7777 - (n : Int)) = -7777 - (n : Int) := IntWalk.i64_in _ ⟨by omega, by omega⟩
  go_enter Tryz.func78, Tryz.ntmps78
  go_wp2
  go_ret
  exact ⟨rfl, rfl⟩
/-- the shelf's box: all is empty but the lists of edits -/
def bxAK (V U : Value) : Array Value := #[V, U, .slice none 0 0, .slice none 0 0, .slice none 0 0, .slice none 0 0, .slice none 0 0, .slice none 0 0, .slice none 0 0, .slice none 0 0, .slice none 0 0, .slice none 0 0]
/-- the shelf's own alone are written -/
structure FrmK (b : Nat) (V U : Value) (w w' : World) : Prop where
  keep : ∀ g, g < w.heap.size → g ≠ b → V.ownBlock ≠ some g → U.ownBlock ≠ some g → w'.heap[g]? = w.heap[g]?
  bel : Below b w w'
theorem She.box {e te : TypeId} {k B : Nat} {w : World} {V U : Value} {rs us : List Rr} (h : She e te k B w V U rs us) {b : Nat} (hb : b < B) (i : Nat) (x : Value) : She e te k B (w.setCell ⟨b, i, none⟩ x) V U rs us := by
  have key : ∀ {E s n : Nat} {v : Value} {xs : List Value}, w.ownsRow B E s v n xs → (w.setCell ⟨b, i, none⟩ x).ownsRow B E s v n xs := fun ho => ownsRow_setCell_other ho (a := ⟨b, i, none⟩) (fun h1 => by have := (ho.lt b h1).1; omega) x
  exact ⟨key h.outV, key h.outU, fun r hr => key (h.each r hr), h.apart, h.outs⟩
theorem Bx.grw {w w' : World} {g : Nat} {vs : Array Value} {t : TypeId} {row : Option Nat} (h : Bx w g vs t) (hg : w.grownBy w' row) (hne : row ≠ some g) : Bx w' g vs t :=
  (hg.block g h.lt (fun e => hne e.symm)).trans h
theorem one_cellK {v : Value} (h : v.oneCell' = true) : ∀ u ∈ [v], u.oneCell' = true := fun u hu => by rw [List.mem_singleton] at hu; subst hu; exact h
theorem own_oneK {w : World} {B s n : Nat} {e : TypeId} {v : Value} {xs : List Value} (h : w.ownsRow B e s v n xs) : v.oneCell' = true := by
  obtain ⟨a, c, rfl, -⟩ := own_slice h
  rfl
theorem cells_newRK (w : World) (l : List Value) (t : TypeId) : ∀ j u, l[j]? = some u → (w.alloc (.cells l.toArray t)).cell? ((⟨w.heap.size, 0, none⟩ : Addr).add j) = some u := by
  intro j u hj
  rw [show (⟨w.heap.size, 0, none⟩ : Addr).add j = ⟨w.heap.size, 0 + j, none⟩ by unfold Addr.add; by_cases hz : j = 0 <;> simp [hz], World.cell?_alloc_at _ _ _ _ rfl]
  simpa using hj

theorem own_lowK {w : World} {base base' e size n : Nat} {v : Value} {xs : List Value} (h : w.ownsRow base e size v n xs) (hb : base' ≤ base) : w.ownsRow base' e size v n xs := by
  refine ⟨h.1, ?_⟩
  rcases h.2 with h2 | ⟨g, cap, cur, h3, h4, r⟩
  · exact .inl h2
  · exact .inr ⟨g, cap, cur, h3, Nat.le_trans hb h4, r⟩

set_option maxRecDepth 1000000 in
set_option maxHeartbeats 2000000 in
theorem shelfEdits_anyK (b B : Nat) (w : World) (V U : Value) (rs us : List Rr) (L : Rr) (hbx : Bx w b (bxAK V U) 49) (hS : She 39 22 3 B w V U rs us) (hL : w.ownsRow B 39 3 L.v L.n L.xs) (hap : ∀ q ∈ rs ++ us, ApR q L) (hbB : b < B) (hB : B ≤ w.heap.size) (h1 : ∀ u ∈ L.xs, u.oneCell' = true) (hn : L.n ≤ 100000000) (hrs : rs.length ≤ 1000) (hus : us.length ≤ 1000) :
    Calls Tryz.prog 13 #[.pointer (some ⟨b, 0, none⟩), L.v] w fun e w' => (∃ x, e = .returned x) ∧ ∃ V' U' u, Bx w' b (bxAK V' U') 49 ∧ She 39 22 3 B w' V' U' (rs ++ [L]) (us ++ [u]) ∧ u.n = L.n ∧ u.xs = L.xs ∧ (∀ g, u.v.ownBlock = some g → w.heap.size ≤ g) ∧ FrmK b V U w w' := by
  obtain ⟨i0, hi0, hz0, hz1, hz2⟩ := info_parts infoRowK
  obtain ⟨Lv, Ln, Lx⟩ := L
  simp only at hL h1 hn
  have HX : Hid (Bx w b (bxAK V U) 49) := hbx
  have HS : Hid (She 39 22 3 B w V U rs us) := hS
  have HL : Hid (w.ownsRow B 39 3 Lv Ln Lx) := hL
  have HAP : Hid (∀ q ∈ rs ++ us, ApR q ⟨Lv, Ln, Lx⟩) := hap
  have H1 : Hid (∀ u ∈ Lx, u.oneCell' = true) := h1
  have HLo : Hid (Lv.oneCell' = true) := own_oneK hL
  have c4 : w.cell? ⟨b, 0, none⟩ = some V := hbx.cell 0
  have c5 : w.cell? ⟨b, 1, none⟩ = some U := hbx.cell 1
  clear hbx hS hL hap h1
  go_enter Tryz.func13, Tryz.ntmps13
  obtain ⟨aV, cV, rfl, -, -⟩ := own_slice HS.out.outV
  obtain ⟨aU, cU, rfl, -, -⟩ := own_slice HS.out.outU
  obtain ⟨aL, cL, rfl, -, -⟩ := own_slice HL.out
  have hVb : (Value.slice aV rs.length cV).ownBlock ≠ some b := fun h => by have := (HS.out.outV.lt b h).1; omega
  have hUb : (Value.slice aU us.length cU).ownBlock ≠ some b := fun h => by have := (HS.out.outU.lt b h).1; omega
  have HVB : Hid ((Value.slice aV rs.length cV).ownBlock ≠ some b ∧ (Value.slice aU us.length cU).ownBlock ≠ some b) := ⟨hVb, hUb⟩
  clear hVb hUb
  go_wp2_with (first
    | (at_builtin; ((refine wpList_append_at _ rfl _ _ 42 rfl B 22 i0 (.slice none 0 0) 1 24 Tryz.underlying42 hi0 hz0 hz1 hz2 rfl (by decide) _ _ _ rfl (own_belowR HS.out.outV ((Below.refl _ w).alloc (Nat.le_refl _) _) (Nat.le_refl _)) (some ⟨w.heap.size, 0, none⟩) 1 1 [.slice aL Ln cL] rfl (by rfl) (fun h => by cases h) (fun ad had => by cases had; exact cells_newRK w [.slice aL Ln cL] 22) (one_cellK rfl) (by unfold maxLen; omega) (by omega) (by simp; omega) ?_); intro v1 w1 hown1 hgrow1 hat1; obtain ⟨a1, c1, rfl, -, -⟩ := own_slice hown1; have hA : Below w.heap.size w (w.alloc (.cells [Value.slice aL Ln cL].toArray 22)) := (Below.refl _ w).alloc (Nat.le_refl _) _; have S1 : Hid (She 39 22 3 B w1 (.slice a1 (rs.length + 1) c1) (.slice aU us.length cU) (rs ++ [⟨.slice aL Ln cL, Ln, Lx⟩]) us) := (HS.out.below hA).add (by decide) (own_belowR HL.out hA (Nat.le_refl _)) HAP.out hown1 hgrow1 hat1; have X1 : Hid (Bx w1 b (bxAK (.slice aV rs.length cV) (.slice aU us.length cU)) 49) := (HX.out.below hA HX.out.lt).grw hgrow1 HVB.out.1; have x4 : w1.cell? ⟨b, 0, none⟩ = some (.slice aV rs.length cV) := X1.out.cell 0; have y4 := X1.out.free 0; have K1 : Hid (FrmK b (.slice aV rs.length cV) (.slice aU us.length cU) w w1 ∧ w.heap.size + 1 ≤ w1.heap.size) := ⟨⟨fun g h1 h2 h3 h4 => (hgrow1.block g (by simp; omega) (fun e => h3 e.symm)).trans (hA.block g h1), (hA.mono (by omega)).grown hgrow1 (by simp; omega) (fun g h => by have := (HS.out.outV.lt g h).1; omega)⟩, by have := hgrow1.size; simpa using this⟩; obtain ⟨w2, e2⟩ : ∃ w2, w1.setCell ⟨b, 0, none⟩ (.slice a1 (rs.length + 1) c1) = w2 := ⟨_, rfl⟩; have HE2 : Hid (w1.setCell ⟨b, 0, none⟩ (.slice a1 (rs.length + 1) c1) = w2) := e2; have S2 : Hid (She 39 22 3 B w2 (.slice a1 (rs.length + 1) c1) (.slice aU us.length cU) (rs ++ [⟨.slice aL Ln cL, Ln, Lx⟩]) us) := (by unfold Hid; rw [← e2]; exact S1.out.box hbB 0 _); have X2 : Hid (Bx w2 b (bxAK (.slice a1 (rs.length + 1) c1) (.slice aU us.length cU)) 49) := (by unfold Hid; rw [← e2]; exact X1.out.set 0 _); have hz2w : w2.heap.size = w1.heap.size := (by rw [← e2]; simp); have K2 : Hid (FrmK b (.slice aV rs.length cV) (.slice aU us.length cU) w w2) := (by unfold Hid; rw [← e2]; exact ⟨fun g h1 h2 h3 h4 => (heap_setCell_other _ _ _ _ h2).trans (K1.out.1.keep g h1 h2 h3 h4), K1.out.1.bel.setCell (p := ⟨b, 0, none⟩) (Nat.le_refl _) _⟩); have x5 : (w1.setCell ⟨b, 0, none⟩ (.slice a1 (rs.length + 1) c1)).cell? ⟨b, 1, none⟩ = some (.slice aU us.length cU) := (by rw [e2]; exact X2.out.cell 1); clear hown1 hgrow1 hat1 hA e2)))
  rw [HE2.out]
  clear x5 x4 y4 c4 c5
  have x5 : w2.cell? ⟨b, 1, none⟩ = some (.slice aU us.length cU) := X2.out.cell 1
  have HZ : Hid (B ≤ w2.heap.size ∧ w.heap.size + 1 ≤ w2.heap.size) := ⟨by have := K1.out.2; omega, by have := K1.out.2; omega⟩
  have HM : Hid ((⟨.slice aL Ln cL, Ln, Lx⟩ : Rr) ∈ (rs ++ [⟨.slice aL Ln cL, Ln, Lx⟩]) ++ us) := by unfold Hid; simp
  refine wp_region_G (fun z => z.cell? ⟨b, 1, none⟩ = some (.slice aU us.length cU)) 11 (by kernel_rfl) ?_
  refine wpAnyG_take (i := 0) (v := .pointer (some ⟨b, 0, none⟩)) rfl (by kernel_rfl) (by kernel_rfl) (by kernel_rfl) (fun _ _ _ h => h) (by kernel_rfl) (by kernel_rfl) (by kernel_rfl) (Or.inl ⟨by rfl, fun z hz => ?_⟩) x5 ?_
  · (try dsimp only at hz); go_simp
  try simp only [Act.put, List.setIfInBounds_toArray, List.set_cons_zero, List.set_cons_succ]
  refine wpAnyG_take (i := 1) (v := .pointer (some ⟨b, 0, none⟩)) rfl (by kernel_rfl) (by kernel_rfl) (by kernel_rfl) (fun _ _ _ h => h) (by kernel_rfl) (by kernel_rfl) (by kernel_rfl) (Or.inl ⟨by rfl, fun z hz => ?_⟩) x5 ?_
  · (try dsimp only at hz); go_simp
  try simp only [Act.put, List.setIfInBounds_toArray, List.set_cons_zero, List.set_cons_succ]
  refine wpAnyG_take (i := 2) (v := .pointer (some ⟨b, 0, none⟩)) rfl (by kernel_rfl) (by kernel_rfl) (by kernel_rfl) (fun _ _ _ h => h) (by kernel_rfl) (by kernel_rfl) (by kernel_rfl) (Or.inl ⟨by rfl, fun z hz => ?_⟩) x5 ?_
  · (try dsimp only at hz); go_simp
  try simp only [Act.put, List.setIfInBounds_toArray, List.set_cons_zero, List.set_cons_succ]
  refine wpAnyG_take (i := 3) (v := .pointer (some ⟨b, 1, none⟩)) rfl (by kernel_rfl) (by kernel_rfl) (by kernel_rfl) (fun _ _ _ h => h) (by kernel_rfl) (by kernel_rfl) (by kernel_rfl) (Or.inl ⟨by rfl, fun z hz => ?_⟩) x5 ?_
  · (try dsimp only at hz); go_simp
  try simp only [Act.put, List.setIfInBounds_toArray, List.set_cons_zero, List.set_cons_succ]
  refine wpAnyG_take (i := 4) (v := .slice aU us.length cU) rfl (by kernel_rfl) (by kernel_rfl) (by kernel_rfl) (fun _ _ _ h => h) (by kernel_rfl) (by kernel_rfl) (by kernel_rfl) (Or.inl ⟨by rfl, fun z hz => ?_⟩) x5 ?_
  · (try dsimp only at hz); go_simp
  try simp only [Act.put, List.setIfInBounds_toArray, List.set_cons_zero, List.set_cons_succ]
  refine wpAnyG_take (i := 5) (v := .slice aL Ln cL) rfl (by kernel_rfl) (by kernel_rfl) (by kernel_rfl) (fun _ _ _ h => h) (by kernel_rfl) (by kernel_rfl) (by kernel_rfl) (Or.inl ⟨by rfl, fun z hz => ?_⟩) x5 ?_
  · (try dsimp only at hz); go_simp
  try simp only [Act.put, List.setIfInBounds_toArray, List.set_cons_zero, List.set_cons_succ]
  refine wpAnyG_one (i := 6) (by kernel_rfl) rfl (fun K hK0 => ?_)
  have hK : Hid _ := hK0
  clear hK0
  go_simp
  refine (copyEdits_anyK B _ Ln Lx _ (own_belowR (S2.out.each _ HM.out) (Below.refl _ _).drew (Nat.le_refl _)) H1.out hn).mono ?_
  rintro e w3 ⟨u3, rfl, ho3, hb3⟩
  obtain ⟨a3, c3, rfl, -, -⟩ := own_slice ho3
  have hb3' : Below w2.heap.size w2 w3 := (Below.refl _ _).drew.trans hb3
  have HO3 : Hid (w3.ownsRow w2.heap.size 39 3 (.slice a3 Ln c3) Ln Lx) := ho3
  have S3 : Hid (She 39 22 3 B w3 (.slice a1 (rs.length + 1) c1) (.slice aU us.length cU) (rs ++ [⟨.slice aL Ln cL, Ln, Lx⟩]) us) := S2.out.below hb3'
  have X3 : Hid (Bx w3 b (bxAK (.slice a1 (rs.length + 1) c1) (.slice aU us.length cU)) 49) := X2.out.below hb3' X2.out.lt
  have d5 : w3.cell? ⟨b, 1, none⟩ = some (.slice aU us.length cU) := X3.out.cell 1
  have HB3 : Hid (Below w2.heap.size w2 w3) := hb3'
  clear ho3 hb3 hb3'
  refine hK.out _ _ (fun _ => d5) ?_
  clear hK K
  try simp only [Act.put, List.setIfInBounds_toArray, List.set_cons_zero, List.set_cons_succ]
  refine wpAnyG_one (i := 7) (by kernel_rfl) rfl (fun K hK0 => ?_)
  have hK : Hid _ := hK0
  clear hK0
  go_simp
  have hA3 : Below w3.heap.size w3 (w3.alloc (.cells #[Value.slice a3 Ln c3] 22)) := (Below.refl _ w3).alloc (Nat.le_refl _) _
  have d5a : (w3.alloc (.cells #[Value.slice a3 Ln c3] 22)).cell? ⟨b, 1, none⟩ = some (.slice aU us.length cU) := (X3.out.below hA3 X3.out.lt).cell 1
  refine hK.out _ _ (fun _ => d5a) ?_
  clear hK K
  try simp only [Act.put, List.setIfInBounds_toArray, List.set_cons_zero, List.set_cons_succ]
  refine wpAnyG_one (i := 8) (by kernel_rfl) rfl (fun K hK0 => ?_)
  have hK : Hid _ := hK0
  clear hK0
  refine step_append_lies _ (by rfl) _ _ _ (by rfl) B 22 i0 (.slice none 0 0) 1 24 Tryz.underlying42 hi0 hz0 hz1 hz2 rfl (by omega) (.slice aU us.length cU) us.length (us.map Rr.v) (by rfl) (own_belowR S3.out.outU hA3 (Nat.le_refl _)) ⟨w3.heap.size, 0, none⟩ 1 1 [.slice a3 Ln c3] (by rfl) (by rfl) (cells_newRK w3 [.slice a3 Ln c3] 22) (one_cellK (own_oneK HO3.out)) (by omega) (by unfold maxLen; omega) (by omega) (by have := HZ.out; have := HB3.out.size; simp; omega) (w3.heap.size + 1) (by simp) ?_
  intro gg cp w5 hown5 hgrow5 hat5 hlt5
  have X5 : Hid (Bx w5 b (bxAK (.slice a1 (rs.length + 1) c1) (.slice aU us.length cU)) 49) := (X3.out.below hA3 X3.out.lt).grw hgrow5 HVB.out.2
  have x55 : w5.cell? ⟨b, 1, none⟩ = some (.slice aU us.length cU) := X5.out.cell 1
  have y55 := X5.out.free 1
  have S5 : Hid (She 39 22 3 B w5 (.slice a1 (rs.length + 1) c1) (.slice (some ⟨gg, 0, none⟩) (us.length + 1) cp) (rs ++ [⟨.slice aL Ln cL, Ln, Lx⟩]) (us ++ [⟨.slice a3 Ln c3, Ln, Lx⟩])) := (S3.out.below hA3).addU (by decide) (own_belowR (own_lowK HO3.out HZ.out.1) hA3 (Nat.le_refl _)) (fun q hq g hq1 hL => by have h1 := ((S2.out.each q hq).lt g hq1).2; have h2 := (HO3.out.lt g hL).1; omega) hown5 hgrow5 (hat5.elim (fun h => .inl h.symm) (fun h => .inr (by rw [h]; show some _ = some _; simp)))
  have K5 : Hid (FrmK b (.slice aV rs.length cV) (.slice aU us.length cU) w w5) := (by
    have hz := HZ.out
    have hz3 := HB3.out.size
    refine ⟨fun g h1 h2 h3 h4 => ?_, ?_⟩
    · exact (((hgrow5.block g (by simp; omega) (fun e => h4 e.symm)).trans (hA3.block g (by omega))).trans (HB3.out.block g (by omega))).trans (K2.out.keep g h1 h2 h3 h4)
    · exact ((K2.out.bel.trans (HB3.out.mono (by omega))).trans (hA3.mono (by omega))).grown hgrow5 (by simp; omega) (fun g h => by have := (S2.out.outU.lt g h).1; omega))
  clear hown5 hgrow5 hat5 d5 d5a
  refine hK.out _ _ (fun _ => x55) ?_
  clear hK K
  try simp only [Act.put, List.setIfInBounds_toArray, List.set_cons_zero, List.set_cons_succ]
  refine wpAnyG_one (i := 9) (by kernel_rfl) rfl (fun K hK0 => ?_)
  have hK : Hid _ := hK0
  clear hK0
  go_simp
  refine hK.out _ _ (fun _ => x55) ?_
  clear hK K
  try simp only [Act.put, List.setIfInBounds_toArray, List.set_cons_zero, List.set_cons_succ]
  refine wpAnyG_one (i := 10) (by kernel_rfl) rfl (fun K hK0 => ?_)
  have hK : Hid _ := hK0
  clear hK0
  go_simp
  refine hK.out _ _ (fun _ => x55) ?_
  clear hK K
  try simp only [Act.put, List.setIfInBounds_toArray, List.set_cons_zero, List.set_cons_succ]
  refine wpAnyG_one (i := 11) (by kernel_rfl) rfl (fun K hK0 => ?_)
  have hK : Hid _ := hK0
  clear hK0
  go_simp
  refine hK.out _ _ (fun h => Bool.noConfusion (show true = false from h)) ?_
  clear hK K
  try simp only [Act.put, List.setIfInBounds_toArray, List.set_cons_zero, List.set_cons_succ]
  refine wpAnyG_done (by kernel_rfl) ?_ _
  refine bodyPost_end (results_none rfl _ _ _) rfl ?_
  refine ⟨⟨_, rfl⟩, (.slice a1 (rs.length + 1) c1), (.slice (some ⟨gg, 0, none⟩) (us.length + 1) cp), ⟨.slice a3 Ln c3, Ln, Lx⟩, X5.out.set 1 _, S5.out.box hbB 1 _, rfl, rfl, (fun g hg => by have h1 := (HO3.out.lt g hg).1; have h2 := HZ.out.2; omega), ?_⟩
  exact ⟨fun g h1 h2 h3 h4 => (heap_setCell_other _ _ _ _ h2).trans (K5.out.keep g h1 h2 h3 h4), K5.out.bel.setCell (p := ⟨b, 1, none⟩) (Nat.le_refl _) _⟩
end Go.Proofs.YtphejjghgalkpaaGreatDoor

namespace Go.Proofs.YtphejjghgalkpaaGreatDoor
open Go.ChangeShapes Go.WideShapes Go.ChangeAt Go.RowKit
set_option linter.unusedVariables false
set_option linter.unusedSimpArgs false

/-- a shelf, and lists beside it that share no memory with it -/
structure ShX (ex : List Rr) (B : Nat) (w : World) (V U : Value) (rs us : List Rr) : Prop where
  sh : She 39 22 3 B w V U rs us
  own : ∀ x ∈ ex, w.ownsRow B 39 3 x.v x.n x.xs
  ap : ∀ x ∈ ex, ∀ q ∈ rs ++ us, ApR q x
theorem She.store3 {e te : TypeId} {k B : Nat} {w : World} {V U : Value} {rs us : List Rr} (h : She e te k B w V U rs us) (hne : te ≠ e) {i : Nat} {r : Rr} (hr : rs[i]? = some r) {g c : Nat} (hv : r.v = .slice (some ⟨g, 0, none⟩) r.n c) (m1 m2 m3 : Nat) (u1 u2 u3 : Value) :
    She e te k B (((w.setCell ⟨g, m1, none⟩ u1).setCell ⟨g, m2, none⟩ u2).setCell ⟨g, m3, none⟩ u3) V U (rs.set i ⟨r.v, r.n, ((r.xs.set m1 u1).set m2 u2).set m3 u3⟩) us := by
  have hi := (List.getElem?_eq_some_iff.1 hr).1
  have h1 := h.store hne hr hv m1 u1
  have hr1 : (rs.set i ⟨r.v, r.n, r.xs.set m1 u1⟩)[i]? = some ⟨r.v, r.n, r.xs.set m1 u1⟩ := List.getElem?_set_self hi
  have h2 := h1.store hne hr1 hv m2 u2
  rw [List.set_set] at h2
  have hr2 : (rs.set i ⟨r.v, r.n, (r.xs.set m1 u1).set m2 u2⟩)[i]? = some ⟨r.v, r.n, (r.xs.set m1 u1).set m2 u2⟩ := List.getElem?_set_self hi
  have h3 := h2.store hne hr2 hv m3 u3
  rw [List.set_set] at h3
  exact h3
section
variable {ex : List Rr} {B : Nat} {w w' : World} {V U : Value} {rs us : List Rr}
theorem ShX.outV (h : ShX ex B w V U rs us) : w.ownsRow B 22 1 V rs.length (rs.map Rr.v) := h.sh.outV
theorem ShX.outU (h : ShX ex B w V U rs us) : w.ownsRow B 22 1 U us.length (us.map Rr.v) := h.sh.outU
theorem ShX.below (h : ShX ex B w V U rs us) (hb : Below w.heap.size w w') : ShX ex B w' V U rs us :=
  ⟨h.sh.below hb, fun x hx => own_belowR (h.own x hx) hb (Nat.le_refl _), h.ap⟩
theorem ShX.get (h : ShX ex B w V U rs us) {i : Nat} {r : Rr} (hr : rs[i]? = some r) : w.ownsRow B 39 3 r.v r.n r.xs := h.sh.get hr
theorem ShX.getU (h : ShX ex B w V U rs us) {i : Nat} {r : Rr} (hr : us[i]? = some r) : w.ownsRow B 39 3 r.v r.n r.xs := h.sh.getU hr
theorem ShX.cellV (h : ShX ex B w V U rs us) {i : Nat} {r : Rr} (hr : rs[i]? = some r) : ∃ g c, V = .slice (some ⟨g, 0, none⟩) rs.length c ∧ w.cell? ⟨g, i, none⟩ = some r.v ∧ w.frozen? ⟨g, i, none⟩ = false := h.sh.cellV hr
theorem ShX.cellU (h : ShX ex B w V U rs us) {i : Nat} {r : Rr} (hr : us[i]? = some r) : ∃ g c, U = .slice (some ⟨g, 0, none⟩) us.length c ∧ w.cell? ⟨g, i, none⟩ = some r.v := h.sh.cellU hr
theorem mem_setR {rs us : List Rr} {i : Nat} {r' q : Rr} (h : q ∈ rs.set i r' ++ us) : q = r' ∨ q ∈ rs ++ us := by
  rcases List.mem_append.1 h with h | h
  · rcases List.mem_or_eq_of_mem_set h with h | h
    · exact .inr (List.mem_append_left _ h)
    · exact .inl h
  · exact .inr (List.mem_append_right _ h)
theorem ShX.store3 (h : ShX ex B w V U rs us) (hne : 22 ≠ 39) {i : Nat} {r : Rr} (hr : rs[i]? = some r) {g c : Nat} (hv : r.v = .slice (some ⟨g, 0, none⟩) r.n c) (m1 m2 m3 : Nat) (u1 u2 u3 : Value) :
    ShX ex B (((w.setCell ⟨g, m1, none⟩ u1).setCell ⟨g, m2, none⟩ u2).setCell ⟨g, m3, none⟩ u3) V U (rs.set i ⟨r.v, r.n, ((r.xs.set m1 u1).set m2 u2).set m3 u3⟩) us := by
  have hrm : r ∈ rs ++ us := List.mem_append_left _ (List.mem_of_getElem? hr)
  have hg : r.v.ownBlock = some g := by rw [hv]; rfl
  refine ⟨h.sh.store3 hne hr hv m1 m2 m3 u1 u2 u3, fun x hx => ?_, fun x hx q hq => ?_⟩
  · have hxg : x.v.ownBlock ≠ some g := h.ap x hx r hrm g hg
    exact ownsRow_setCell_other (ownsRow_setCell_other (ownsRow_setCell_other (h.own x hx) (a := ⟨g, m1, none⟩) hxg u1) (a := ⟨g, m2, none⟩) hxg u2) (a := ⟨g, m3, none⟩) hxg u3
  · rcases mem_setR hq with rfl | hq
    · exact fun g hg => h.ap x hx r hrm g hg
    · exact h.ap x hx q hq
theorem ShX.grow {w9 : World} {v9 : Value} (h : ShX ex B w V U rs us) (hne : 22 ≠ 39) {i m : Nat} {r : Rr} {news : List Value} (hr : rs[i]? = some r) (hown : w9.ownsRow B 39 3 v9 (r.n + m) (r.xs ++ news)) (hg : w.grownBy w9 r.v.ownBlock) (hat : v9.ownBlock = r.v.ownBlock ∨ v9.ownBlock = some w.heap.size) {gV cV : Nat} (hV : V = .slice (some ⟨gV, 0, none⟩) rs.length cV) :
    ShX ex B (w9.setCell ⟨gV, i, none⟩ v9) V U (rs.set i ⟨v9, r.n + m, r.xs ++ news⟩) us := by
  have hrm : r ∈ rs ++ us := List.mem_append_left _ (List.mem_of_getElem? hr)
  refine ⟨h.sh.grow hne hr hown hg hat hV, fun x hx => ?_, fun x hx q hq => ?_⟩
  · have h9 := own_grwR (h.own x hx) hg (fun g hrow => h.ap x hx r hrm g hrow)
    have hV9 := own_grwR h.sh.outV hg (fun g hrow => own_otherR h.sh.outV (h.sh.get hr) (fun e => hne e.symm) hrow)
    exact ownsRow_setCell_other h9 (a := ⟨gV, i, none⟩) (own_otherR h9 hV9 hne (by rw [hV]; rfl)) v9
  · rcases mem_setR hq with rfl | hq
    · intro g hg9 hxg
      rcases hat with hat | hat
      · exact h.ap x hx r hrm g (hat ▸ hg9) hxg
      · have h1 : v9.ownBlock = some g := hg9
        rw [hat] at h1
        have := (h.own x hx).lt g hxg
        have := Option.some.inj h1
        omega
    · exact h.ap x hx q hq
end
end Go.Proofs.YtphejjghgalkpaaGreatDoor

namespace Go.Proofs.YtphejjghgalkpaaGreatDoor
open Go.ChangeShapes Go.WideShapes Go.ChangeAt Go.RowKit
set_option linter.unusedVariables false
set_option linter.unusedSimpArgs false

theorem region_classEK {P : Program} {X : Type} (F : X → World) {id : Nat} {Q : Exit → Act → World → Prop} {a : Act} {w : World} {l : List Oper} (hm : P.follows .mixedOrders = true) (hB : Region.lexB .any l.toArray = true)
    (hx : ∃ x, F x = w.drew) (h : wpQuiet P l.toArray (fun w' => ∃ n, w' = F n) (fun a' => ∀ w', (∃ n, w' = F n) → Q .normal a' w') l a) : (Code.region id l.toArray true).wp P Q a w :=
  wp_region_quiet (C := fun w' => ∃ n, w' = F n) hm hB (by obtain ⟨x, hx⟩ := hx; exact ⟨x, hx.symm⟩) (by simpa using h)

/-- the worlds of which D holds, as a row of worlds -/
theorem class_ofEK (D : World → Prop) {w : World} (hw : D w) : ∃ (X : Type) (F : X → World), Nonempty X ∧ (∀ x, D (F x)) ∧ ∀ v, D v → ∃ x, F x = v :=
  ⟨{v : World // D v}, Subtype.val, ⟨⟨w, hw⟩⟩, fun x => x.2, fun v h => ⟨⟨v, h⟩, rfl⟩⟩
/-- what stands on the shelf is what it was -/
def StiK (rs us : List Rr) : Prop := rs.length = us.length ∧ ∀ (i : Nat) r u, rs[i]? = some r → us[i]? = some u → ∃ E : List Tk, r.n = E.length ∧ r.xs = flat E ∧ u.n = E.length ∧ u.xs = flat E ∧ E.length ≤ 100000000
theorem edsA_ownK {w : World} {B n c : Nat} {a : Option Addr} {xs : List Tk} (h : w.ownsRow B 39 3 (.slice a n c) n (flat xs)) : LiesA w a xs := by
  obtain ⟨a', c', e, h1, -⟩ := own_form h
  cases e
  exact h1

set_option maxRecDepth 1000000 in
set_option maxHeartbeats 2000000 in
theorem still_anyK (ex : List Rr) (b B : Nat) (w : World) (V U : Value) (rs us : List Rr) (hbx : Bx w b (bxAK V U) 49) (hS : ShX ex B w V U rs us) (hE : StiK rs us) (hrs : rs.length ≤ 1000) :
    Calls Tryz.prog 35 #[.pointer (some ⟨b, 0, none⟩)] w fun e w' => e = .returned (.bool true) ∧ Below w.heap.size w w' := by
  have HX : Hid (∀ v, Below w.heap.size w v → Bx v b (bxAK V U) 49) := fun v hv => hbx.below hv hbx.lt
  have HS : Hid (ShX ex B w V U rs us) := hS
  have HE : Hid (StiK rs us) := hE
  clear hbx hS hE
  obtain ⟨aV, cV, rfl, -, -⟩ := own_slice HS.out.outV
  obtain ⟨aU, cU, rfl, -, -⟩ := own_slice HS.out.outU
  have hul : us.length = rs.length := HE.out.1.symm
  rw [hul] at HX HS
  have c0 : w.cell? ⟨b, 0, none⟩ = some (.slice aV rs.length cV) := (HX.out w (Below.refl _ _)).cell 0
  go_enter Tryz.func35, Tryz.ntmps35
  go_wp2
  clear c0
  go_loopg [14] rs.length (fun gk si wr => ∃ k : Nat, gk = rs.length - k ∧ k ≤ rs.length ∧ si = .int .i64 (k : Int) ∧ Below w.heap.size w wr)
  case atStart => exact ⟨0, rfl, Nat.zero_le _, rfl, Below.refl _ _⟩
  case round =>
    obtain ⟨k, rfl, hk, rfl, hbel⟩ := hrel
    have HB : Hid (Below w.heap.size w wr) := hbel
    have SR : Hid (ShX ex B wr (.slice aV rs.length cV) (.slice aU rs.length cU) rs us) := HS.out.below hbel
    clear hbel
    by_cases hlt : k < rs.length
    · have hlt' : (k : Int) < (rs.length : Int) := by omega
      have hk0 : (0 : Int) ≤ (k : Int) := by omega
      obtain ⟨r, hr⟩ : ∃ r, rs[k]? = some r := ⟨_, List.getElem?_eq_getElem hlt⟩
      obtain ⟨u, hu⟩ : ∃ u, us[k]? = some u := ⟨_, List.getElem?_eq_getElem (by omega)⟩
      obtain ⟨E, hn1, hx1, hn2, hx2, hEl⟩ := HE.out.2 k r u hr hu
      obtain ⟨gV, cV', hV, cv, -⟩ := SR.out.cellV hr
      obtain ⟨gU, cU', hU, cu⟩ := SR.out.cellU hu
      simp only [Value.slice.injEq] at hV hU
      obtain ⟨rfl, -, rfl⟩ := hV
      obtain ⟨rfl, -, rfl⟩ := hU
      have hro := SR.out.get hr
      have huo := SR.out.getU hu
      obtain ⟨a1, c1, hv1, -, -⟩ := own_slice hro
      obtain ⟨a2, c2, hv2, -, -⟩ := own_slice huo
      rw [hv1, hn1, hx1] at hro
      rw [hv2, hn2, hx2] at huo
      rw [hv1, hn1] at cv
      rw [hv2, hn2] at cu
      have HSE : Hid (∀ v, Below wr.heap.size wr v → Calls Tryz.prog 10 #[.slice a1 E.length c1, .slice a2 E.length c2] v fun e w' => e = .returned (.bool true) ∧ Below v.heap.size v w') := fun v hv =>
        same_tokens a1 a2 c1 c2 E v ((edsA_ownK hro).below hv) ((edsA_ownK huo).below hv) (by unfold maxLen; omega)
      obtain ⟨X, F, hX, hF, onto⟩ := class_ofEK (fun v => Below wr.heap.size wr v) (Below.refl _ wr)
      have HF : Hid (∀ y, Below wr.heap.size wr (F y)) := hF
      have HO : Hid (∀ v, Below wr.heap.size wr v → ∃ x, v = F x) := fun v h => by obtain ⟨x, hx⟩ := onto v h; exact ⟨x, hx.symm⟩
      have f0 : ∀ y, (F y).cell? ⟨b, 0, none⟩ = some (.slice (some ⟨gV, 0, none⟩) rs.length cV) := fun y => (HX.out _ (HB.out.trans ((hF y).mono HB.out.size))).cell 0
      have f1 : ∀ y, (F y).cell? ⟨b, 1, none⟩ = some (.slice (some ⟨gU, 0, none⟩) rs.length cU) := fun y => (HX.out _ (HB.out.trans ((hF y).mono HB.out.size))).cell 1
      have fv : ∀ y, (F y).cell? ⟨gV, k, none⟩ = some (.slice a1 E.length c1) := fun y => ((hF y).cell (World.block_lt_of_cell? _ _ cv)).trans cv
      have fu : ∀ y, (F y).cell? ⟨gU, k, none⟩ = some (.slice a2 E.length c2) := fun y => ((hF y).cell (World.block_lt_of_cell? _ _ cu)).trans cu
      clear hF onto hro huo hr hu cv cu hv1 hv2 hn1 hn2 hx1 hx2
      go_upto_region 4 with fail
      refine region_classEK F (by kernel_rfl) (by kernel_rfl) (by obtain ⟨x, hx⟩ := HO.out _ (Below.refl _ _).drew; exact ⟨x, hx.symm⟩) ?_
      repeat (go_big_quiet_step (first | (go_at_call 10; with_reducible refine (HSE.out _ (HF.out _)).mono ?_; rintro e w5 ⟨rfl, hb5⟩; exact ⟨rfl, HO.out _ ((HF.out _).trans (hb5.mono (HF.out _).size))⟩)))
      refine wpQuiet_nil ?_
      rintro _ ⟨nq, rfl⟩
      have HB2 : Hid (Below w.heap.size w (F nq)) := HB.out.trans ((HF.out nq).mono HB.out.size)
      go_wp2
      go_roundg (rs.length - (k + 1))
      case measure => omega
      case rel => exact ⟨k + 1, rfl, by omega, by go_num, HB2.out⟩
    · have hlt' : ¬ (k : Int) < (rs.length : Int) := by omega
      have d2 : wr.cell? ⟨b, 2, none⟩ = some (.slice none 0 0) := (HX.out _ HB.out).cell 2
      have d4 : wr.cell? ⟨b, 4, none⟩ = some (.slice none 0 0) := (HX.out _ HB.out).cell 4
      have d6 : wr.cell? ⟨b, 6, none⟩ = some (.slice none 0 0) := (HX.out _ HB.out).cell 6
      have d8 : wr.cell? ⟨b, 8, none⟩ = some (.slice none 0 0) := (HX.out _ HB.out).cell 8
      have d10 : wr.cell? ⟨b, 10, none⟩ = some (.slice none 0 0) := (HX.out _ HB.out).cell 10
      go_wp2
      refine wp_loop_rounds 1 ?_
      rw [rounds_succ]
      go_wp2
      refine wp_loop_rounds 1 ?_
      rw [rounds_succ]
      go_wp2
      refine wp_loop_rounds 1 ?_
      rw [rounds_succ]
      go_wp2
      refine wp_loop_rounds 1 ?_
      rw [rounds_succ]
      go_wp2
      refine wp_loop_rounds 1 ?_
      rw [rounds_succ]
      go_wp2
      go_ret
      exact ⟨rfl, HB.out⟩
end Go.Proofs.YtphejjghgalkpaaGreatDoor

namespace Go.Proofs.YtphejjghgalkpaaGreatDoor
open Go.ChangeShapes Go.WideShapes Go.ChangeAt Go.RowKit
set_option linter.unusedVariables false
set_option linter.unusedSimpArgs false

/-- a list's mark -/
def mkEK (j : Nat) : Tk := ⟨0, -7777 - (j : Int), 0⟩
def vnK (r : Rr) : Value × Nat := (r.v, r.n)
theorem vn_setK {ts rs : List Rr} (h : ts.map vnK = rs.map vnK) {i : Nat} {r : Rr} (hr : ts[i]? = some r) (xs : List Value) : (ts.set i ⟨r.v, r.n, xs⟩).map vnK = rs.map vnK := by
  rw [← h]
  apply List.ext_getElem?
  intro j
  rw [List.getElem?_map, List.getElem?_map, List.getElem?_set]
  by_cases hj : i = j
  · subst hj
    rw [if_pos rfl, if_pos (List.getElem?_eq_some_iff.1 hr).1, hr]
    rfl
  · rw [if_neg hj]
theorem set_selfK {α : Type} {l : List α} {k : Nat} {r : α} (h : l[k]? = some r) : l.set k r = l := by
  apply List.ext_getElem?
  intro j
  rw [List.getElem?_set]
  by_cases hj : k = j
  · subst hj; rw [if_pos rfl, if_pos (List.getElem?_eq_some_iff.1 h).1, h]
  · rw [if_neg hj]
theorem addr_addRK (g j : Nat) : (⟨g, 0, none⟩ : Addr).add j = ⟨g, j, none⟩ := by unfold Addr.add; by_cases hz : j = 0 <;> simp [hz]
theorem vn_lenK {ts rs : List Rr} (h : ts.map vnK = rs.map vnK) : ts.length = rs.length := by
  have := congrArg List.length h
  simpa using this
theorem flat_snocK (n : Nat) (e : Tk) : flat (List.replicate (n + 1) e) = flat (List.replicate n e) ++ [.int .u8 e.k, .int .i64 e.f, .int .i64 e.t] := by
  rw [List.replicate_succ', flat_append]; rfl
theorem take_set3K {xs : List Value} {i : Nat} {a b c : Value} (h : i * 3 + 3 ≤ xs.length) : (((xs.set (i * 3) a).set (i * 3 + 1) b).set (i * 3 + 2) c).take ((i + 1) * 3) = xs.take (i * 3) ++ [a, b, c] := by
  apply List.ext_getElem?
  intro j
  by_cases hj : j < (i + 1) * 3
  · rw [List.getElem?_take_of_lt hj]
    simp only [List.getElem?_set, List.length_set]
    by_cases h1 : j < i * 3
    · rw [if_neg (by omega), if_neg (by omega), if_neg (by omega), List.getElem?_append_left (by rw [List.length_take]; omega), List.getElem?_take_of_lt h1]
    · rw [List.getElem?_append_right (by rw [List.length_take]; omega), List.length_take, Nat.min_eq_left (by omega)]
      obtain rfl | rfl | rfl : j = i * 3 ∨ j = i * 3 + 1 ∨ j = i * 3 + 2 := by omega
      · rw [if_neg (by omega), if_neg (by omega), if_pos rfl, if_pos (by omega), Nat.sub_self]; rfl
      · rw [if_neg (by omega), if_pos rfl, if_pos (by omega), Nat.add_sub_cancel_left]; rfl
      · rw [if_pos rfl, if_pos (by omega), Nat.add_sub_cancel_left]; rfl
  · rw [List.getElem?_eq_none (by rw [List.length_take]; omega), List.getElem?_eq_none (by rw [List.length_append, List.length_take]; simp; omega)]

set_option maxRecDepth 1000000 in
set_option maxHeartbeats 2000000 in
theorem fill_anyK (ex : List Rr) (b B : Nat) (w : World) (V U : Value) (rs us : List Rr) (hbx : Bx w b (bxAK V U) 49) (hS : ShX ex B w V U rs us) (hrs : rs.length ≤ 1000) (hn : ∀ r ∈ rs, r.n ≤ 100000000) (hbB : b < B) :
    Calls Tryz.prog 36 #[.pointer (some ⟨b, 0, none⟩)] w fun e w' => (∃ x, e = .returned x) ∧ ∃ ts, Bx w' b (bxAK V U) 49 ∧ ShX ex B w' V U ts us ∧ ts.map vnK = rs.map vnK ∧ (∀ j t, ts[j]? = some t → t.xs = flat (List.replicate t.n (mkEK j))) ∧ Below b w w' := by
  have HX : Hid (Bx w b (bxAK V U) 49) := hbx
  have HS : Hid (ShX ex B w V U rs us) := hS
  have HN : Hid (∀ r ∈ rs, r.n ≤ 100000000) := hn
  clear hbx hS hn
  obtain ⟨aV, cV, rfl, -, -⟩ := own_slice HS.out.outV
  obtain ⟨aU, cU, rfl, -, -⟩ := own_slice HS.out.outU
  have c0 : w.cell? ⟨b, 0, none⟩ = some (.slice aV rs.length cV) := HX.out.cell 0
  go_enter Tryz.func36, Tryz.ntmps36
  go_wp2
  clear c0
  go_loopg [25] rs.length (fun gk si wr => ∃ (k : Nat) (ts : List Rr), gk = rs.length - k ∧ k ≤ rs.length ∧ si = .int .i64 (k : Int) ∧ Bx wr b (bxAK (.slice aV rs.length cV) (.slice aU us.length cU)) 49 ∧ ShX ex B wr (.slice aV rs.length cV) (.slice aU us.length cU) ts us ∧ ts.map vnK = rs.map vnK ∧ (∀ j t, j < k → ts[j]? = some t → t.xs = flat (List.replicate t.n (mkEK j))) ∧ Below b w wr)
  case atStart => exact ⟨0, rs, rfl, Nat.zero_le _, rfl, HX.out, HS.out, rfl, (fun j t h => by omega), Below.refl _ _⟩
  case round =>
    obtain ⟨k, ts, rfl, hk, rfl, hX, hSr, hvn, hdone, hbel⟩ := hrel
    have XR : Hid (Bx wr b (bxAK (.slice aV rs.length cV) (.slice aU us.length cU)) 49) := hX
    have SR : Hid (ShX ex B wr (.slice aV rs.length cV) (.slice aU us.length cU) ts us) := hSr
    have HV : Hid (ts.map vnK = rs.map vnK) := hvn
    have HD : Hid (∀ j t, j < k → ts[j]? = some t → t.xs = flat (List.replicate t.n (mkEK j))) := hdone
    have HB : Hid (Below b w wr) := hbel
    have htl : ts.length = rs.length := vn_lenK hvn
    have HTL : Hid (ts.length = rs.length) := htl
    clear hX hSr hvn hdone hbel
    by_cases hlt : k < rs.length
    · have hlt' : (k : Int) < (rs.length : Int) := by omega
      have hk0 : (0 : Int) ≤ (k : Int) := by omega
      obtain ⟨r, hr⟩ : ∃ r, ts[k]? = some r := ⟨_, List.getElem?_eq_getElem (by omega)⟩
      have hrn : r.n ≤ 100000000 := by
        have h1 : (ts.map vnK)[k]? = some (vnK r) := by rw [List.getElem?_map, hr]; rfl
        rw [HV.out, List.getElem?_map] at h1
        obtain ⟨q, hq, he⟩ := Option.map_eq_some_iff.1 h1
        have h2 := HN.out q (List.mem_of_getElem? hq)
        have h3 : q.n = r.n := congrArg Prod.snd he
        omega
      obtain ⟨gV, cV', hV, cv, -⟩ := SR.out.cellV hr
      simp only [Value.slice.injEq] at hV
      obtain ⟨rfl, -, rfl⟩ := hV
      have hro := SR.out.get hr
      obtain ⟨rv, rn, rx⟩ := r
      simp only at hro hrn cv
      obtain ⟨a1, c1, rfl, hpos, -⟩ := own_slice hro
      have HR : Hid (ts[k]? = some ⟨.slice a1 rn c1, rn, rx⟩) := hr
      have HP : Hid (0 < rn → ∃ g, a1 = some ⟨g, 0, none⟩) := hpos
      clear htl hr hro hpos
      go_wp2
      clear cv
      go_loopg [32] rn (fun gi si wi => ∃ (i : Nat) (ys : List Value), gi = rn - i ∧ i ≤ rn ∧ si = .int .i64 (i : Int) ∧ ys.length = rn * 3 ∧ ys.take (i * 3) = flat (List.replicate i (mkEK k)) ∧ Bx wi b (bxAK (.slice (some ⟨gV, 0, none⟩) rs.length cV) (.slice aU us.length cU)) 49 ∧ ShX ex B wi (.slice (some ⟨gV, 0, none⟩) rs.length cV) (.slice aU us.length cU) (ts.set k ⟨.slice a1 rn c1, rn, ys⟩) us ∧ Below b w wi)
      case atStart => exact ⟨0, rx, rfl, Nat.zero_le _, rfl, (SR.out.get HR.out).1, by simp [flat], XR.out, by rw [set_selfK HR.out]; exact SR.out, HB.out⟩
      case round =>
        obtain ⟨i, ys, rfl, hi, rfl, hyl, hyt, hX, hSi, hbel⟩ := hrel
        clear XR SR HB
        have XR : Hid (Bx wr b (bxAK (.slice (some ⟨gV, 0, none⟩) rs.length cV) (.slice aU us.length cU)) 49) := hX
        have SR : Hid (ShX ex B wr (.slice (some ⟨gV, 0, none⟩) rs.length cV) (.slice aU us.length cU) (ts.set k ⟨.slice a1 rn c1, rn, ys⟩) us) := hSi
        have HB : Hid (Below b w wr) := hbel
        have HYL : Hid (ys.length = rn * 3) := hyl
        have HYT : Hid (ys.take (i * 3) = flat (List.replicate i (mkEK k))) := hyt
        clear hX hSi hbel hyl hyt
        by_cases hli : i < rn
        · have hli' : (i : Int) < (rn : Int) := by omega
          have hi0 : (0 : Int) ≤ (i : Int) := by omega
          obtain ⟨g, rfl⟩ := HP.out (by omega)
          have hget : (ts.set k ⟨.slice (some ⟨g, 0, none⟩) rn c1, rn, ys⟩)[k]? = some ⟨.slice (some ⟨g, 0, none⟩) rn c1, rn, ys⟩ := List.getElem?_set_self (by have := HTL.out; omega)
          have hro := SR.out.get hget
          simp only at hro
          have hgl := hro.lt g rfl
          have f0 := hro.frozenAt (i * 3)
          have hO1 := (hro.stored (i * 3) (.int .u8 0)).1
          have f1 := hO1.frozenAt (i * 3 + 1)
          have hO2 := (hO1.stored (i * 3 + 1) (.int .i64 (-7777 - (k : Int)))).1
          have f2 := hO2.frozenAt (i * 3 + 2)
          have HYL' := HYL.out
          have cc : ∀ m, m < 3 → ∃ u, wr.cell? ⟨g, i * 3 + m, none⟩ = some u := fun m hm => by
            have h1 : i * 3 + m < ys.length := by omega
            have := hro.cells rfl (i * 3 + m) _ (List.getElem?_eq_getElem h1)
            rw [addr_addRK] at this
            exact ⟨_, this⟩
          obtain ⟨u0, d0⟩ := cc 0 (by omega)
          obtain ⟨u1, d1⟩ := cc 1 (by omega)
          obtain ⟨u2, d2⟩ := cc 2 (by omega)
          simp only [Nat.add_zero] at d0
          have e1 : (wr.setCell ⟨g, i * 3, none⟩ (.int .u8 0)).cell? ⟨g, i * 3 + 1, none⟩ = some u1 := by
            rw [World.cell?_setCell_other _ _ _ _ (by intro h; simp only [Addr.mk.injEq] at h; omega)]; exact d1
          have e2 : ((wr.setCell ⟨g, i * 3, none⟩ (.int .u8 0)).setCell ⟨g, i * 3 + 1, none⟩ (.int .i64 (-7777 - (k : Int)))).cell? ⟨g, i * 3 + 2, none⟩ = some u2 := by
            rw [World.cell?_setCell_other _ _ _ _ (by intro h; simp only [Addr.mk.injEq] at h; omega), World.cell?_setCell_other _ _ _ _ (by intro h; simp only [Addr.mk.injEq] at h; omega)]; exact d2
          obtain ⟨w9, e9⟩ : ∃ w9, ((wr.setCell ⟨g, i * 3, none⟩ (.int .u8 0)).setCell ⟨g, i * 3 + 1, none⟩ (.int .i64 (-7777 - (k : Int)))).setCell ⟨g, i * 3 + 2, none⟩ (.int .i64 0) = w9 := ⟨_, rfl⟩
          have HE9 : Hid (((wr.setCell ⟨g, i * 3, none⟩ (.int .u8 0)).setCell ⟨g, i * 3 + 1, none⟩ (.int .i64 (-7777 - (k : Int)))).setCell ⟨g, i * 3 + 2, none⟩ (.int .i64 0) = w9) := e9
          have S9 : Hid (ShX ex B w9 (.slice (some ⟨gV, 0, none⟩) rs.length cV) (.slice aU us.length cU) (ts.set k ⟨.slice (some ⟨g, 0, none⟩) rn c1, rn, ((ys.set (i * 3) (.int .u8 0)).set (i * 3 + 1) (.int .i64 (-7777 - (k : Int)))).set (i * 3 + 2) (.int .i64 0)⟩) us) := by
            unfold Hid
            have := SR.out.store3 (by decide) hget rfl (i * 3) (i * 3 + 1) (i * 3 + 2) (.int .u8 0) (.int .i64 (-7777 - (k : Int))) (.int .i64 0)
            rw [List.set_set, e9] at this
            exact this
          have X9 : Hid (Bx w9 b (bxAK (.slice (some ⟨gV, 0, none⟩) rs.length cV) (.slice aU us.length cU)) 49) := by
            unfold Hid
            rw [← e9]
            have hgb : b ≠ g := by omega
            exact ((XR.out.other ⟨g, i * 3, none⟩ hgb _).other ⟨g, i * 3 + 1, none⟩ hgb _).other ⟨g, i * 3 + 2, none⟩ hgb _
          have B9 : Hid (Below b w w9) := by
            unfold Hid
            rw [← e9]
            have hgb : b ≤ g := by omega
            exact ((HB.out.setCell (p := ⟨g, i * 3, none⟩) hgb _).setCell (p := ⟨g, i * 3 + 1, none⟩) hgb _).setCell (p := ⟨g, i * 3 + 2, none⟩) hgb _
          have Y9 : Hid ((((ys.set (i * 3) (.int .u8 0)).set (i * 3 + 1) (.int .i64 (-7777 - (k : Int)))).set (i * 3 + 2) (.int .i64 0)).take ((i + 1) * 3) = flat (List.replicate (i + 1) (mkEK k))) := by
            unfold Hid
            rw [take_set3K (by omega), HYT.out, flat_snocK]
            rfl
          clear hO1 hO2 hro e9 cc hget HYL'
          go_wp2_with (go_at_call 78; (with_reducible refine (mark_anyK k _ (by omega)).mono ?_); rintro e w5 ⟨rfl, rfl⟩)
          rw [HE9.out]
          go_roundg (rn - (i + 1))
          case measure => omega
          case rel => exact ⟨i + 1, _, rfl, by omega, by go_num, by simp only [List.length_set]; exact HYL.out, Y9.out, X9.out, S9.out, B9.out⟩
        · have hli' : ¬ (i : Int) < (rn : Int) := by omega
          have HY : Hid (ys = flat (List.replicate rn (mkEK k))) := by
            unfold Hid
            have h1 := HYT.out
            rw [show i = rn by omega, List.take_of_length_le (by rw [HYL.out]; omega)] at h1
            exact h1
          go_wp2
          go_roundg (rs.length - (k + 1))
          case measure => omega
          case rel =>
            refine ⟨k + 1, ts.set k ⟨.slice a1 rn c1, rn, ys⟩, rfl, by omega, by go_num, XR.out, SR.out, vn_setK HV.out HR.out ys, fun j t hj ht => ?_, HB.out⟩
            rw [List.getElem?_set] at ht
            by_cases hjk : k = j
            · subst hjk
              rw [if_pos rfl, if_pos (by have := HTL.out; omega)] at ht
              rw [← Option.some.inj ht]
              exact HY.out
            · rw [if_neg hjk] at ht
              exact HD.out j t (by omega) ht
    · have hlt' : ¬ (k : Int) < (rs.length : Int) := by omega
      have d2 : wr.cell? ⟨b, 2, none⟩ = some (.slice none 0 0) := XR.out.cell 2
      have d4 : wr.cell? ⟨b, 4, none⟩ = some (.slice none 0 0) := XR.out.cell 4
      have d6 : wr.cell? ⟨b, 6, none⟩ = some (.slice none 0 0) := XR.out.cell 6
      have d8 : wr.cell? ⟨b, 8, none⟩ = some (.slice none 0 0) := XR.out.cell 8
      have d10 : wr.cell? ⟨b, 10, none⟩ = some (.slice none 0 0) := XR.out.cell 10
      go_wp2
      refine wp_loop_rounds 1 ?_
      rw [rounds_succ]
      go_wp2
      refine wp_loop_rounds 1 ?_
      rw [rounds_succ]
      go_wp2
      refine wp_loop_rounds 1 ?_
      rw [rounds_succ]
      go_wp2
      refine wp_loop_rounds 1 ?_
      rw [rounds_succ]
      go_wp2
      refine wp_loop_rounds 1 ?_
      rw [rounds_succ]
      go_wp2
      go_end0
      exact ⟨⟨_, rfl⟩, ts, XR.out, SR.out, HV.out, fun j t ht => HD.out j t (by have := (List.getElem?_eq_some_iff.1 ht).1; have := HTL.out; omega) ht, HB.out⟩
end Go.Proofs.YtphejjghgalkpaaGreatDoor

namespace Go.Proofs.YtphejjghgalkpaaGreatDoor
open Go.ChangeShapes Go.WideShapes Go.ChangeAt Go.RowKit
set_option linter.unusedVariables false
set_option linter.unusedSimpArgs false

set_option maxRecDepth 1000000 in
set_option maxHeartbeats 2000000 in
theorem others_anyK (b : Nat) (more : Nat) (w : World) (V U : Value) (hbx : Bx w b (bxAK V U) 49) :
    Calls Tryz.prog 79 #[.pointer (some ⟨b, 0, none⟩), .int .i64 (more : Int)] w fun e w' => e = .returned (.bool true) ∧ Below w.heap.size w w' := by
  have d6 : w.cell? ⟨b, 6, none⟩ = some (.slice none 0 0) := hbx.cell 6
  have d8 : w.cell? ⟨b, 8, none⟩ = some (.slice none 0 0) := hbx.cell 8
  have d10 : w.cell? ⟨b, 10, none⟩ = some (.slice none 0 0) := hbx.cell 10
  clear hbx
  go_enter Tryz.func79, Tryz.ntmps79
  go_wp2
  refine wp_loop_rounds 1 ?_
  rw [rounds_succ]
  go_wp2
  refine wp_loop_rounds 1 ?_
  rw [rounds_succ]
  go_wp2
  refine wp_loop_rounds 1 ?_
  rw [rounds_succ]
  go_wp2
  go_ret
  exact ⟨rfl, Below.refl _ _⟩
/-- every list has its marks alone, and more things than it had -/
def MkdK (more : Nat) (ts us : List Rr) : Prop := ts.length = us.length ∧ ∀ (j : Nat) t u, ts[j]? = some t → us[j]? = some u → t.n = u.n + more ∧ t.xs = flat (List.replicate t.n (mkEK j)) ∧ t.n ≤ 200000000

set_option maxRecDepth 1000000 in
set_option maxHeartbeats 2000000 in
theorem marked_anyK (ex : List Rr) (b B more : Nat) (w : World) (V U : Value) (ts us : List Rr) (hbx : Bx w b (bxAK V U) 49) (hS : ShX ex B w V U ts us) (hM : MkdK more ts us) (hts : ts.length ≤ 1000) (hmo : more ≤ 100) :
    Calls Tryz.prog 37 #[.pointer (some ⟨b, 0, none⟩), .int .i64 (more : Int)] w fun e w' => e = .returned (.bool true) ∧ Below w.heap.size w w' := by
  have HX : Hid (∀ v, Below w.heap.size w v → Bx v b (bxAK V U) 49) := fun v hv => hbx.below hv hbx.lt
  have HS : Hid (ShX ex B w V U ts us) := hS
  have HM : Hid (MkdK more ts us) := hM
  clear hbx hS hM
  obtain ⟨aV, cV, rfl, -, -⟩ := own_slice HS.out.outV
  obtain ⟨aU, cU, rfl, -, -⟩ := own_slice HS.out.outU
  have hul : us.length = ts.length := HM.out.1.symm
  rw [hul] at HX HS
  have c0 : w.cell? ⟨b, 0, none⟩ = some (.slice aV ts.length cV) := (HX.out w (Below.refl _ _)).cell 0
  go_enter Tryz.func37, Tryz.ntmps37
  go_wp2
  clear c0
  go_loopg [22] ts.length (fun gk si wr => ∃ k : Nat, gk = ts.length - k ∧ k ≤ ts.length ∧ si = .int .i64 (k : Int) ∧ Below w.heap.size w wr)
  case atStart => exact ⟨0, rfl, Nat.zero_le _, rfl, Below.refl _ _⟩
  case round =>
    obtain ⟨k, rfl, hk, rfl, hbel⟩ := hrel
    have HB : Hid (Below w.heap.size w wr) := hbel
    have SR : Hid (ShX ex B wr (.slice aV ts.length cV) (.slice aU ts.length cU) ts us) := HS.out.below hbel
    clear hbel
    by_cases hlt : k < ts.length
    · have hlt' : (k : Int) < (ts.length : Int) := by omega
      have hk0 : (0 : Int) ≤ (k : Int) := by omega
      obtain ⟨r, hr⟩ : ∃ r, ts[k]? = some r := ⟨_, List.getElem?_eq_getElem hlt⟩
      obtain ⟨u, hu⟩ : ∃ u, us[k]? = some u := ⟨_, List.getElem?_eq_getElem (by omega)⟩
      obtain ⟨hn1, hx1, hnb⟩ := HM.out.2 k r u hr hu
      obtain ⟨gV, cV', hV, cv, -⟩ := SR.out.cellV hr
      obtain ⟨gU, cU', hU, cu⟩ := SR.out.cellU hu
      simp only [Value.slice.injEq] at hV hU
      obtain ⟨rfl, -, rfl⟩ := hV
      obtain ⟨rfl, -, rfl⟩ := hU
      have hro := SR.out.get hr
      obtain ⟨a1, c1, hv1, hpos, -⟩ := own_slice hro
      obtain ⟨a2, c2, hv2, -, -⟩ := own_slice (SR.out.getU hu)
      rw [hv1, hx1] at hro
      rw [hv1] at cv
      rw [hv2] at cu
      obtain ⟨rn, hrn⟩ : ∃ n, r.n = n := ⟨_, rfl⟩
      obtain ⟨un, hun⟩ : ∃ n, u.n = n := ⟨_, rfl⟩
      rw [hrn] at hn1 hnb hro cv hpos
      rw [hun] at hn1 cu
      have HRO : Hid (wr.ownsRow B 39 3 (.slice a1 rn c1) rn (flat (List.replicate rn (mkEK k)))) := hro
      have HP : Hid (0 < rn → ∃ g, a1 = some ⟨g, 0, none⟩) := hpos
      have c5 : wr.cell? ⟨b, 1, none⟩ = some (.slice (some ⟨gU, 0, none⟩) ts.length cU) := (HX.out _ HB.out).cell 1
      have mk1 : IntKind.i64.wrap ((un : Int) + (more : Int)) = (rn : Int) := by rw [IntWalk.i64_in _ ⟨by omega, by omega⟩]; omega
      have hne : ((rn : Int) != (rn : Int)) = false := by simp
      clear hr hu hro hpos hv1 hv2 hx1 hrn hun hn1
      go_wp2
      clear cv cu c5 mk1 hne
      obtain ⟨wo, rfl⟩ : ∃ wo, wo = wr := ⟨_, rfl⟩
      go_loopg [42] rn (fun gi si wi => ∃ i : Nat, gi = rn - i ∧ i ≤ rn ∧ si = .int .i64 (i : Int) ∧ Below wo.heap.size wo wi)
      case atStart => exact ⟨0, rfl, Nat.zero_le _, rfl, Below.refl _ _⟩
      case round =>
        obtain ⟨i, rfl, hi, rfl, hbel⟩ := hrel
        have HI : Hid (Below wo.heap.size wo wr) := hbel
        clear hbel
        by_cases hli : i < rn
        · have hli' : (i : Int) < (rn : Int) := by omega
          obtain ⟨g, rfl⟩ := HP.out (by omega)
          have hro := own_belowR HRO.out HI.out (Nat.le_refl _)
          have hrep : (List.replicate rn (mkEK k))[i]? = some (mkEK k) := by rw [List.getElem?_replicate, if_pos hli]
          have hlk := (Lies.own hro).tk (Below.refl _ _) hrep
          simp only [Nat.zero_add] at hlk
          obtain ⟨g0, g1, g2⟩ := hlk
          have d0 : wr.cell? ⟨g, i * 3, none⟩ = some (.int .u8 0) := g0
          have d1 : wr.cell? ⟨g, i * 3 + 1, none⟩ = some (.int .i64 (-7777 - (k : Int))) := g1
          have d2 : wr.cell? ⟨g, i * 3 + 2, none⟩ = some (.int .i64 0) := g2
          clear g0 g1 g2
          obtain ⟨w8, e8⟩ : ∃ w8, wr.alloc (.cells #[.int .u8 0, .int .i64 (-7777 - (k : Int)), .int .i64 0] 39) = w8 := ⟨_, rfl⟩
          have HE8 : Hid (wr.alloc (.cells #[.int .u8 0, .int .i64 (-7777 - (k : Int)), .int .i64 0] 39) = w8) := e8
          have X8 : Hid (Bx w8 wr.heap.size #[.int .u8 0, .int .i64 (-7777 - (k : Int)), .int .i64 0] 39) := by unfold Hid; rw [← e8]; exact Bx.new _ _ _
          have B8 : Hid (Below wo.heap.size wo w8) := by unfold Hid; rw [← e8]; exact HI.out.alloc HI.out.size _
          obtain ⟨X, F, hX, hF, onto⟩ := class_ofEK (fun v => Below w8.heap.size w8 v) (Below.refl _ w8)
          have HF : Hid (∀ y, Below w8.heap.size w8 (F y)) := hF
          have HO : Hid (∀ v, Below w8.heap.size w8 v → ∃ x, v = F x) := fun v h => by obtain ⟨x, hx⟩ := onto v h; exact ⟨x, hx.symm⟩
          have f0 : ∀ y, (F y).cell? ⟨wr.heap.size, 0, none⟩ = some (.int .u8 0) := fun y => (X8.out.below (hF y) X8.out.lt).t0
          have f1 : ∀ y, (F y).cell? ⟨wr.heap.size, 1, none⟩ = some (.int .i64 (-7777 - (k : Int))) := fun y => (X8.out.below (hF y) X8.out.lt).t1
          have f2 : ∀ y, (F y).cell? ⟨wr.heap.size, 2, none⟩ = some (.int .i64 0) := fun y => (X8.out.below (hF y) X8.out.lt).t2
          clear hF onto hro hrep e8
          go_upto_region 9 with fail
          rw [HE8.out]
          clear d0 d1 d2
          refine region_classEK F (by kernel_rfl) (by kernel_rfl) (by obtain ⟨x, hx⟩ := HO.out _ (Below.refl _ _).drew; exact ⟨x, hx.symm⟩) ?_
          repeat (go_big_quiet_step (first | (go_at_call 78; refine (mark_anyK k _ (by omega)).mono ?_; rintro e w5 ⟨rfl, rfl⟩; exact ⟨rfl, HO.out _ (HF.out _)⟩)))
          refine wpQuiet_nil ?_
          rintro _ ⟨nq, rfl⟩
          have HB2 : Hid (Below wo.heap.size wo (F nq)) := B8.out.trans ((HF.out nq).mono B8.out.size)
          go_wp2
          go_roundg (rn - (i + 1))
          case measure => omega
          case rel => exact ⟨i + 1, rfl, by omega, by go_num, HB2.out⟩
        · have hli' : ¬ (i : Int) < (rn : Int) := by omega
          go_wp2
          go_roundg (ts.length - (k + 1))
          case measure => omega
          case rel => exact ⟨k + 1, rfl, by omega, by go_num, HB.out.trans (HI.out.mono HB.out.size)⟩
    · have hlt' : ¬ (k : Int) < (ts.length : Int) := by omega
      have d2 : wr.cell? ⟨b, 2, none⟩ = some (.slice none 0 0) := (HX.out _ HB.out).cell 2
      have d4 : wr.cell? ⟨b, 4, none⟩ = some (.slice none 0 0) := (HX.out _ HB.out).cell 4
      go_wp2
      refine wp_loop_rounds 1 ?_
      rw [rounds_succ]
      go_wp2
      refine wp_loop_rounds 1 ?_
      rw [rounds_succ]
      go_wp2_with (go_at_call 79; (with_reducible refine (others_anyK b more _ _ _ (HX.out _ HB.out)).mono ?_); rintro e w5 ⟨rfl, hb5⟩; have HB5 : Hid (Below w.heap.size w w5) := HB.out.trans (hb5.mono HB.out.size); clear hb5)
      go_ret
      exact ⟨rfl, HB5.out⟩
end Go.Proofs.YtphejjghgalkpaaGreatDoor

namespace Go.Proofs.YtphejjghgalkpaaGreatDoor
open Go.ChangeShapes Go.WideShapes Go.ChangeAt Go.RowKit
set_option linter.unusedVariables false
set_option linter.unusedSimpArgs false

/-- the lists after m marks more, and one more for those below k -/
def GrnK (m k : Nat) (rs ts : List Rr) : Prop := ts.length = rs.length ∧ ∀ (j : Nat) r t, rs[j]? = some r → ts[j]? = some t → t.n = r.n + m + (if j < k then 1 else 0) ∧ t.xs = flat (List.replicate t.n (mkEK j))

set_option maxRecDepth 1000000 in
set_option maxHeartbeats 2000000 in
theorem grow_anyK (ex : List Rr) (b B : Nat) (w : World) (V U : Value) (rs us : List Rr) (hbx : Bx w b (bxAK V U) 49) (hS : ShX ex B w V U rs us) (hrs : rs.length ≤ 1000) (hn : ∀ r ∈ rs, r.n ≤ 100000000) (hM : GrnK 0 0 rs rs) (hbB : b < B) (hBw : B ≤ w.heap.size) :
    Calls Tryz.prog 38 #[.pointer (some ⟨b, 0, none⟩)] w fun e w' => (∃ x, e = .returned x) ∧ ∃ ts, Bx w' b (bxAK V U) 49 ∧ ShX ex B w' V U ts us ∧ GrnK 70 0 rs ts ∧ Below b w w' := by
  obtain ⟨i0, hi0, hz0, hz1, hz2⟩ := info_parts infoEdRK
  have HX : Hid (Bx w b (bxAK V U) 49) := hbx
  have HS : Hid (ShX ex B w V U rs us) := hS
  have HN : Hid (∀ r ∈ rs, r.n ≤ 100000000) := hn
  have HM : Hid (GrnK 0 0 rs rs) := hM
  clear hbx hS hn hM
  obtain ⟨aV, cV, rfl, -, -⟩ := own_slice HS.out.outV
  obtain ⟨aU, cU, rfl, -, -⟩ := own_slice HS.out.outU
  go_enter Tryz.func38, Tryz.ntmps38
  go_wp2
  go_loopg [2] 70 (fun gk si wr => ∃ (m : Nat) (ts : List Rr), gk = 70 - m ∧ m ≤ 70 ∧ si = .int .i64 (m : Int) ∧ Bx wr b (bxAK (.slice aV rs.length cV) (.slice aU us.length cU)) 49 ∧ ShX ex B wr (.slice aV rs.length cV) (.slice aU us.length cU) ts us ∧ GrnK m 0 rs ts ∧ Below b w wr ∧ B ≤ wr.heap.size)
  case atStart => exact ⟨0, rs, rfl, Nat.zero_le _, rfl, HX.out, HS.out, HM.out, Below.refl _ _, hBw⟩
  case round =>
    obtain ⟨m, ts, rfl, hm, rfl, hX, hSr, hG, hbel, hBr⟩ := hrel
    have XR : Hid (Bx wr b (bxAK (.slice aV rs.length cV) (.slice aU us.length cU)) 49) := hX
    have SR : Hid (ShX ex B wr (.slice aV rs.length cV) (.slice aU us.length cU) ts us) := hSr
    have HG : Hid (GrnK m 0 rs ts) := hG
    have HB : Hid (Below b w wr) := hbel
    have HZ : Hid (B ≤ wr.heap.size) := hBr
    clear hX hSr hG hbel hBr
    by_cases hm70 : m < 70
    · have hm70' : (m : Int) < 70 := by omega
      have c0 : wr.cell? ⟨b, 0, none⟩ = some (.slice aV rs.length cV) := XR.out.cell 0
      go_wp2
      clear c0
      go_loopg [18] rs.length (fun gi si wi => ∃ (n : Nat) (ts : List Rr), gi = rs.length - n ∧ n ≤ rs.length ∧ si = .int .i64 (n : Int) ∧ Bx wi b (bxAK (.slice aV rs.length cV) (.slice aU us.length cU)) 49 ∧ ShX ex B wi (.slice aV rs.length cV) (.slice aU us.length cU) ts us ∧ GrnK m n rs ts ∧ Below b w wi ∧ B ≤ wi.heap.size)
      case atStart => exact ⟨0, ts, rfl, Nat.zero_le _, rfl, XR.out, SR.out, HG.out, HB.out, HZ.out⟩
      case round =>
        obtain ⟨n, ts, rfl, hn, rfl, hX, hSr, hG, hbel, hBr⟩ := hrel
        clear XR SR HG HB HZ
        have XR : Hid (Bx wr b (bxAK (.slice aV rs.length cV) (.slice aU us.length cU)) 49) := hX
        have SR : Hid (ShX ex B wr (.slice aV rs.length cV) (.slice aU us.length cU) ts us) := hSr
        have HG : Hid (GrnK m n rs ts) := hG
        have HB : Hid (Below b w wr) := hbel
        have HZ : Hid (B ≤ wr.heap.size) := hBr
        clear hX hSr hG hbel hBr
        by_cases hlt : n < rs.length
        · have hlt' : (n : Int) < (rs.length : Int) := by omega
          have hn0 : (0 : Int) ≤ (n : Int) := by omega
          obtain ⟨r0, hr0⟩ : ∃ r, rs[n]? = some r := ⟨_, List.getElem?_eq_getElem hlt⟩
          obtain ⟨t, ht⟩ : ∃ t, ts[n]? = some t := ⟨_, List.getElem?_eq_getElem (by have := HG.out.1; omega)⟩
          obtain ⟨htn, htx⟩ := HG.out.2 n r0 t hr0 ht
          rw [if_neg (Nat.lt_irrefl n)] at htn
          have hr0n := HN.out r0 (List.mem_of_getElem? hr0)
          obtain ⟨gV, cV', hV, cv, fv⟩ := SR.out.cellV ht
          rw [HG.out.1] at hV
          simp only [Value.slice.injEq] at hV
          obtain ⟨rfl, -, rfl⟩ := hV
          have hro := SR.out.get ht
          obtain ⟨a1, c1, hv1, -, -⟩ := own_slice hro
          obtain ⟨tv, tn, tx⟩ := t
          simp only at htn htx hv1 hro cv
          subst hv1
          subst htx
          have HT : Hid (ts[n]? = some ⟨(.slice a1 tn c1), tn, flat (List.replicate tn (mkEK n))⟩) := ht
          have HRO : Hid (wr.ownsRow B 39 3 (.slice a1 tn c1) tn (flat (List.replicate tn (mkEK n)))) := hro
          have HR0 : Hid (rs[n]? = some r0) := hr0
          have c4 : wr.cell? ⟨b, 0, none⟩ = some (.slice (some ⟨gV, 0, none⟩) rs.length cV) := XR.out.cell 0
          have htb : tn ≤ 100000100 := by omega
          have HTN : Hid (tn = r0.n + m + 0) := htn
          have HSr : wr.cell? ⟨b, 0, none⟩ = some (.slice (some ⟨gV, 0, none⟩) rs.length cV) ∧ wr.cell? ⟨gV, n, none⟩ = some (.slice a1 tn c1) := ⟨c4, cv⟩
          clear hr0 ht hro hr0n htn
          · go_upto_region 6 with fail
            refine wp_region_G (fun z => z.cell? ⟨b, 0, none⟩ = some (.slice (some ⟨gV, 0, none⟩) rs.length cV) ∧ z.cell? ⟨gV, n, none⟩ = some (.slice a1 tn c1)) 18 (by kernel_rfl) ?_
            refine wpAnyG_take (i := 0) (v := .pointer (some ⟨b, 0, none⟩)) rfl (by kernel_rfl) (by kernel_rfl) (by kernel_rfl) (fun _ _ _ h => h) (by kernel_rfl) (by kernel_rfl) (by kernel_rfl) (Or.inl ⟨by rfl, fun z hz => ?_⟩) HSr ?_
            · obtain ⟨hz4, hzr⟩ := hz
              go_simp
            try simp only [Act.put, List.setIfInBounds_toArray, List.set_cons_zero, List.set_cons_succ]
            refine wpAnyG_take (i := 1) (v := .pointer (some ⟨b, 0, none⟩)) rfl (by kernel_rfl) (by kernel_rfl) (by kernel_rfl) (fun _ _ _ h => h) (by kernel_rfl) (by kernel_rfl) (by kernel_rfl) (Or.inl ⟨by rfl, fun z hz => ?_⟩) HSr ?_
            · obtain ⟨hz4, hzr⟩ := hz
              go_simp
            try simp only [Act.put, List.setIfInBounds_toArray, List.set_cons_zero, List.set_cons_succ]
            refine wpAnyG_take (i := 2) (v := .pointer (some ⟨b, 0, none⟩)) rfl (by kernel_rfl) (by kernel_rfl) (by kernel_rfl) (fun _ _ _ h => h) (by kernel_rfl) (by kernel_rfl) (by kernel_rfl) (Or.inl ⟨by rfl, fun z hz => ?_⟩) HSr ?_
            · obtain ⟨hz4, hzr⟩ := hz
              go_simp
            try simp only [Act.put, List.setIfInBounds_toArray, List.set_cons_zero, List.set_cons_succ]
            refine wpAnyG_take (i := 3) (v := .slice (some ⟨gV, 0, none⟩) rs.length cV) rfl (by kernel_rfl) (by kernel_rfl) (by kernel_rfl) (fun _ _ _ h => h) (by kernel_rfl) (by kernel_rfl) (by kernel_rfl) (Or.inl ⟨by rfl, fun z hz => ?_⟩) HSr ?_
            · obtain ⟨hz4, hzr⟩ := hz
              go_simp
            try simp only [Act.put, List.setIfInBounds_toArray, List.set_cons_zero, List.set_cons_succ]
            refine wpAnyG_take (i := 4) (v := .int .i64 (n : Int)) rfl (by kernel_rfl) (by kernel_rfl) (by kernel_rfl) (fun _ _ _ h => h) (by kernel_rfl) (by kernel_rfl) (by kernel_rfl) (Or.inl ⟨by rfl, fun z hz => ?_⟩) HSr ?_
            · obtain ⟨hz4, hzr⟩ := hz
              go_simp
            try simp only [Act.put, List.setIfInBounds_toArray, List.set_cons_zero, List.set_cons_succ]
            refine wpAnyG_take (i := 5) (v := .pointer (some ⟨b, 0, none⟩)) rfl (by kernel_rfl) (by kernel_rfl) (by kernel_rfl) (fun _ _ _ h => h) (by kernel_rfl) (by kernel_rfl) (by kernel_rfl) (Or.inl ⟨by rfl, fun z hz => ?_⟩) HSr ?_
            · obtain ⟨hz4, hzr⟩ := hz
              go_simp
            try simp only [Act.put, List.setIfInBounds_toArray, List.set_cons_zero, List.set_cons_succ]
            refine wpAnyG_take (i := 6) (v := .pointer (some ⟨b, 0, none⟩)) rfl (by kernel_rfl) (by kernel_rfl) (by kernel_rfl) (fun _ _ _ h => h) (by kernel_rfl) (by kernel_rfl) (by kernel_rfl) (Or.inl ⟨by rfl, fun z hz => ?_⟩) HSr ?_
            · obtain ⟨hz4, hzr⟩ := hz
              go_simp
            try simp only [Act.put, List.setIfInBounds_toArray, List.set_cons_zero, List.set_cons_succ]
            refine wpAnyG_take (i := 7) (v := .pointer (some ⟨b, 0, none⟩)) rfl (by kernel_rfl) (by kernel_rfl) (by kernel_rfl) (fun _ _ _ h => h) (by kernel_rfl) (by kernel_rfl) (by kernel_rfl) (Or.inl ⟨by rfl, fun z hz => ?_⟩) HSr ?_
            · obtain ⟨hz4, hzr⟩ := hz
              go_simp
            try simp only [Act.put, List.setIfInBounds_toArray, List.set_cons_zero, List.set_cons_succ]
            refine wpAnyG_take (i := 8) (v := .slice (some ⟨gV, 0, none⟩) rs.length cV) rfl (by kernel_rfl) (by kernel_rfl) (by kernel_rfl) (fun _ _ _ h => h) (by kernel_rfl) (by kernel_rfl) (by kernel_rfl) (Or.inl ⟨by rfl, fun z hz => ?_⟩) HSr ?_
            · obtain ⟨hz4, hzr⟩ := hz
              go_simp
            try simp only [Act.put, List.setIfInBounds_toArray, List.set_cons_zero, List.set_cons_succ]
            refine wpAnyG_take (i := 9) (v := .int .i64 (n : Int)) rfl (by kernel_rfl) (by kernel_rfl) (by kernel_rfl) (fun _ _ _ h => h) (by kernel_rfl) (by kernel_rfl) (by kernel_rfl) (Or.inl ⟨by rfl, fun z hz => ?_⟩) HSr ?_
            · obtain ⟨hz4, hzr⟩ := hz
              go_simp
            try simp only [Act.put, List.setIfInBounds_toArray, List.set_cons_zero, List.set_cons_succ]
            refine wpAnyG_take (i := 10) (v := .pointer (some ⟨gV, n, none⟩)) rfl (by kernel_rfl) (by kernel_rfl) (by kernel_rfl) (fun _ _ _ h => h) (by kernel_rfl) (by kernel_rfl) (by kernel_rfl) (Or.inl ⟨by rfl, fun z hz => ?_⟩) HSr ?_
            · obtain ⟨hz4, hzr⟩ := hz
              go_simp
            try simp only [Act.put, List.setIfInBounds_toArray, List.set_cons_zero, List.set_cons_succ]
            refine wpAnyG_take (i := 11) (v := .slice a1 tn c1) rfl (by kernel_rfl) (by kernel_rfl) (by kernel_rfl) (fun _ _ _ h => h) (by kernel_rfl) (by kernel_rfl) (by kernel_rfl) (Or.inl ⟨by rfl, fun z hz => ?_⟩) HSr ?_
            · obtain ⟨hz4, hzr⟩ := hz
              go_simp
            try simp only [Act.put, List.setIfInBounds_toArray, List.set_cons_zero, List.set_cons_succ]
            refine wpAnyG_take (i := 12) (v := .int .i64 (n : Int)) rfl (by kernel_rfl) (by kernel_rfl) (by kernel_rfl) (fun _ _ _ h => h) (by kernel_rfl) (by kernel_rfl) (by kernel_rfl) (Or.inl ⟨by rfl, fun z hz => ?_⟩) HSr ?_
            · obtain ⟨hz4, hzr⟩ := hz
              go_simp
            try simp only [Act.put, List.setIfInBounds_toArray, List.set_cons_zero, List.set_cons_succ]
            refine wpAnyG_one (i := 13) (by kernel_rfl) rfl (fun K hK0 => ?_)
            have hK : Hid _ := hK0
            clear hK0
            go_simp
            refine (mark_anyK n _ (by omega)).mono ?_
            rintro e w5 ⟨rfl, rfl⟩
            refine hK.out _ _ (fun _ => HSr) ?_
            clear hK K
            try simp only [Act.put, List.setIfInBounds_toArray, List.set_cons_zero, List.set_cons_succ]
            refine wpAnyG_one (i := 14) (by kernel_rfl) rfl (fun K hK0 => ?_)
            have hK : Hid _ := hK0
            clear hK0
            go_simp
            refine hK.out _ _ (fun _ => HSr) ?_
            clear hK K
            try simp only [Act.put, List.setIfInBounds_toArray, List.set_cons_zero, List.set_cons_succ]
            refine wpAnyG_one (i := 15) (by kernel_rfl) rfl (fun K hK0 => ?_)
            have hK : Hid _ := hK0
            clear hK0
            go_simp
            obtain ⟨WA, hWA⟩ : ∃ WA, (wr.alloc (.cells #[Value.int .u8 0, .int .i64 (-7777 - (n : Int)), .int .i64 0] 39)).drew = WA := ⟨_, rfl⟩
            have hA : Below wr.heap.size wr WA := by rw [← hWA]; exact ((Below.refl _ wr).alloc (Nat.le_refl _) _).drew
            have HNW : Hid (∀ j u, [Value.int .u8 0, .int .i64 (-7777 - (n : Int)), .int .i64 0][j]? = some u → WA.cell? ((⟨wr.heap.size, 0, none⟩ : Addr).add j) = some u) := by unfold Hid; rw [← hWA]; exact cells_newRK wr [Value.int .u8 0, .int .i64 (-7777 - (n : Int)), .int .i64 0] 39
            have HZA : Hid (WA.heap.size = wr.heap.size + 1) := by unfold Hid; rw [← hWA]; show (wr.alloc _).heap.size = _; simp
            have SA : Hid (ShX ex B WA (.slice (some ⟨gV, 0, none⟩) rs.length cV) (.slice aU us.length cU) ts us) := SR.out.below hA
            have XA : Hid (Bx WA b (bxAK (.slice (some ⟨gV, 0, none⟩) rs.length cV) (.slice aU us.length cU)) 49) := XR.out.below hA XR.out.lt
            have HSa : WA.cell? ⟨b, 0, none⟩ = some (.slice (some ⟨gV, 0, none⟩) rs.length cV) ∧ WA.cell? ⟨gV, n, none⟩ = some (.slice a1 tn c1) := ⟨XA.out.cell 0, (hA.cell (World.block_lt_of_cell? _ _ cv)).trans cv⟩
            rw [hWA]
            clear hWA
            refine hK.out _ _ (fun _ => HSa) ?_
            clear hK K
            try simp only [Act.put, List.setIfInBounds_toArray, List.set_cons_zero, List.set_cons_succ]
            refine wpAnyG_one (i := 16) (by kernel_rfl) rfl (fun K hK0 => ?_)
            have hK : Hid _ := hK0
            clear hK0
            refine step_append_lies _ (by rfl) _ _ _ (by rfl) B 39 i0 (.agg #[.int .u8 0, .int .i64 0, .int .i64 0]) 3 24 Tryz.underlying22 hi0 hz0 hz1 hz2 rfl (by omega) (.slice a1 tn c1) tn (flat (List.replicate tn (mkEK n))) (by rfl) (SA.out.get HT.out) ⟨wr.heap.size, 0, none⟩ 1 1 [Value.int .u8 0, .int .i64 (-7777 - (n : Int)), .int .i64 0] (by rfl) (by rfl) HNW.out (by intro u hu; simp at hu; rcases hu with rfl | rfl | rfl <;> rfl) (by omega) (by unfold maxLen; omega) (by omega) (by have := HZ.out; have := HZA.out; omega) (wr.heap.size + 1) HZA.out ?_
            intro gg cp w9 hown9 hgrow9 hat9 hlt9
            have hVo : (Value.slice (some ⟨gV, 0, none⟩) rs.length cV).ownBlock = some gV := rfl
            have hrowV : ∀ g, (Value.slice a1 tn c1).ownBlock = some g → g ≠ gV := fun g hg e => own_otherR SR.out.sh.outV (SR.out.get HT.out) (by decide) hg (by rw [e]; rfl)
            have hrowb : (Value.slice a1 tn c1).ownBlock ≠ some b := fun h => by have := (HRO.out.lt b h).1; omega
            have X9 : Hid (Bx w9 b (bxAK (.slice (some ⟨gV, 0, none⟩) rs.length cV) (.slice aU us.length cU)) 49) := XA.out.grw hgrow9 hrowb
            have G9 : Hid (ShX ex B (w9.setCell ⟨gV, n, none⟩ (.slice (some ⟨gg, 0, none⟩) (tn + 1) cp)) (.slice (some ⟨gV, 0, none⟩) rs.length cV) (.slice aU us.length cU) (ts.set n ⟨.slice (some ⟨gg, 0, none⟩) (tn + 1) cp, tn + 1, flat (List.replicate tn (mkEK n)) ++ [Value.int .u8 0, .int .i64 (-7777 - (n : Int)), .int .i64 0]⟩) us) :=
              SA.out.grow (by decide) (m := 1) HT.out hown9 hgrow9 (hat9.elim (fun h => .inl h.symm) (fun h => .inr (by rw [h, HZA.out]; rfl))) (by rw [HG.out.1])
            have hgVb : b ≠ gV := fun e => by have := (SR.out.outV.lt gV rfl).1; omega
            have cv9 : w9.cell? ⟨gV, n, none⟩ = some (.slice a1 tn c1) := by
              have hlV := (SR.out.outV.lt gV rfl).2
              unfold World.cell?
              rw [hgrow9.block gV (by rw [HZA.out]; omega) (fun e => hrowV gV e.symm rfl)]
              exact HSa.2
            have fv9 : w9.frozen? ⟨gV, n, none⟩ = false := by
              have hlV := (SR.out.outV.lt gV rfl).2
              unfold World.frozen?
              rw [hgrow9.block gV (by rw [HZA.out]; omega) (fun e => hrowV gV e.symm rfl), hA.block gV hlV]
              exact fv
            have HS9 : w9.cell? ⟨b, 0, none⟩ = some (.slice (some ⟨gV, 0, none⟩) rs.length cV) ∧ w9.cell? ⟨gV, n, none⟩ = some (.slice a1 tn c1) := ⟨X9.out.cell 0, cv9⟩
            have B9 : Hid (Below b w w9) := (HB.out.trans (hA.mono (by have := HZ.out; omega))).grown hgrow9 (by rw [HZA.out]; have := HZ.out; omega) (fun g h => by have := (HRO.out.lt g h).1; omega)
            have Z9 : Hid (B ≤ w9.heap.size) := by unfold Hid; have := HZ.out; have := hgrow9.size; have := HZA.out; omega
            clear hown9 hgrow9 hat9 hlt9
            refine hK.out _ _ (fun _ => HS9) ?_
            clear hK K
            try simp only [Act.put, List.setIfInBounds_toArray, List.set_cons_zero, List.set_cons_succ]
            refine wpAnyG_one (i := 17) (by kernel_rfl) rfl (fun K hK0 => ?_)
            have hK : Hid _ := hK0
            clear hK0
            go_simp
            refine hK.out _ _ (fun _ => HS9) ?_
            clear hK K
            try simp only [Act.put, List.setIfInBounds_toArray, List.set_cons_zero, List.set_cons_succ]
            refine wpAnyG_one (i := 18) (by kernel_rfl) rfl (fun K hK0 => ?_)
            have hK : Hid _ := hK0
            clear hK0
            go_simp
            refine hK.out _ _ (fun h => Bool.noConfusion (show true = false from h)) ?_
            clear hK K
            try simp only [Act.put, List.setIfInBounds_toArray, List.set_cons_zero, List.set_cons_succ]
            refine wpAnyG_done (by kernel_rfl) ?_ _
            go_wp2
            go_roundg (rs.length - (n + 1))
            case measure => omega
            case rel =>
              refine ⟨n + 1, _, rfl, by omega, by go_num, X9.out.other ⟨gV, n, none⟩ hgVb _, G9.out, ⟨by rw [List.length_set]; exact HG.out.1, fun j r t hr ht => ?_⟩, B9.out.setCell (p := ⟨gV, n, none⟩) (by show b ≤ gV; have := (SR.out.outV.lt gV rfl).1; omega) _, by have := Z9.out; simpa using this⟩
              rw [List.getElem?_set] at ht
              by_cases hjn : n = j
              · subst hjn
                rw [if_pos rfl, if_pos (by have := HG.out.1; omega)] at ht
                rw [← Option.some.inj ht]
                have hrr : r = r0 := by rw [HR0.out] at hr; exact (Option.some.inj hr).symm
                rw [hrr, if_pos (Nat.lt_succ_self _)]
                refine ⟨?_, ?_⟩
                · show tn + 1 = _
                  have := HTN.out
                  omega
                · show _ = flat (List.replicate (tn + 1) (mkEK n))
                  rw [flat_snocK]
                  rfl
              · rw [if_neg hjn] at ht
                obtain ⟨h1, h2⟩ := HG.out.2 j r t hr ht
                refine ⟨?_, h2⟩
                rw [h1]
                by_cases hj : j < n
                · rw [if_pos hj, if_pos (by omega)]
                · rw [if_neg hj, if_neg (by omega)]
        · have hlt' : ¬ (n : Int) < (rs.length : Int) := by omega
          have d2 : wr.cell? ⟨b, 2, none⟩ = some (.slice none 0 0) := XR.out.cell 2
          have d4 : wr.cell? ⟨b, 4, none⟩ = some (.slice none 0 0) := XR.out.cell 4
          have d6 : wr.cell? ⟨b, 6, none⟩ = some (.slice none 0 0) := XR.out.cell 6
          have d8 : wr.cell? ⟨b, 8, none⟩ = some (.slice none 0 0) := XR.out.cell 8
          have d10 : wr.cell? ⟨b, 10, none⟩ = some (.slice none 0 0) := XR.out.cell 10
          go_wp2
          refine wp_loop_rounds 1 ?_
          rw [rounds_succ]
          go_wp2
          refine wp_loop_rounds 1 ?_
          rw [rounds_succ]
          go_wp2
          refine wp_loop_rounds 1 ?_
          rw [rounds_succ]
          go_wp2
          refine wp_loop_rounds 1 ?_
          rw [rounds_succ]
          go_wp2
          refine wp_loop_rounds 1 ?_
          rw [rounds_succ]
          go_wp2
          go_roundg (70 - (m + 1))
          case measure => omega
          case rel =>
            refine ⟨m + 1, ts, rfl, by omega, by go_num, XR.out, SR.out, ⟨HG.out.1, fun j r t hr ht => ?_⟩, HB.out, HZ.out⟩
            obtain ⟨h1, h2⟩ := HG.out.2 j r t hr ht
            refine ⟨?_, h2⟩
            have hj := (List.getElem?_eq_some_iff.1 hr).1
            rw [if_pos (by omega)] at h1
            rw [if_neg (by omega)]
            omega
    · have hm70' : ¬ (m : Int) < 70 := by omega
      go_wp2
      go_end0
      have he : m = 70 := by omega
      subst he
      first
        | exact ⟨⟨_, rfl⟩, ts, XR.out, SR.out, HG.out, HB.out⟩
        | exact ⟨⟨_, rfl⟩, XR.out, ts, SR.out, HG.out, HB.out⟩
        | exact ⟨⟨_, rfl⟩, XR.out, ⟨ts, SR.out, HG.out⟩, HB.out⟩
end Go.Proofs.YtphejjghgalkpaaGreatDoor

namespace Go.Proofs.YtphejjghgalkpaaGreatDoor
open Go.ChangeShapes Go.WideShapes Go.ChangeAt Go.RowKit
set_option linter.unusedVariables false
set_option linter.unusedSimpArgs false

theorem StiK.n {rs us : List Rr} (h : StiK rs us) : ∀ r ∈ rs, r.n ≤ 100000000 := fun r hr => by
  obtain ⟨i, hi⟩ := List.getElem?_of_mem hr
  have hl := (List.getElem?_eq_some_iff.1 hi).1
  obtain ⟨u, hu⟩ : ∃ u, us[i]? = some u := ⟨_, List.getElem?_eq_getElem (by have := h.1; omega)⟩
  obtain ⟨E, h1, -, -, -, h2⟩ := h.2 i r u hi hu
  omega
theorem vn_atK {ts rs : List Rr} (h : ts.map vnK = rs.map vnK) {j : Nat} {t : Rr} (ht : ts[j]? = some t) : ∃ r, rs[j]? = some r ∧ r.n = t.n := by
  have h1 : (ts.map vnK)[j]? = some (vnK t) := by rw [List.getElem?_map, ht]; rfl
  rw [h, List.getElem?_map] at h1
  obtain ⟨q, hq, he⟩ := Option.map_eq_some_iff.1 h1
  exact ⟨q, hq, congrArg Prod.snd he⟩

theorem marked0_anyK (ex : List Rr) (b B : Nat) (w : World) (V U : Value) (ts us : List Rr) (hbx : Bx w b (bxAK V U) 49) (hS : ShX ex B w V U ts us) (hM : MkdK 0 ts us) (hts : ts.length ≤ 1000) :
    Calls Tryz.prog 37 #[.pointer (some ⟨b, 0, none⟩), .int .i64 0] w fun e w' => e = .returned (.bool true) ∧ Below w.heap.size w w' := marked_anyK ex b B 0 w V U ts us hbx hS hM hts (by decide)
theorem marked70_anyK (ex : List Rr) (b B : Nat) (w : World) (V U : Value) (ts us : List Rr) (hbx : Bx w b (bxAK V U) 49) (hS : ShX ex B w V U ts us) (hM : MkdK 70 ts us) (hts : ts.length ≤ 1000) :
    Calls Tryz.prog 37 #[.pointer (some ⟨b, 0, none⟩), .int .i64 70] w fun e w' => e = .returned (.bool true) ∧ Below w.heap.size w w' := marked_anyK ex b B 70 w V U ts us hbx hS hM hts (by decide)

set_option maxRecDepth 1000000 in
set_option maxHeartbeats 2000000 in
/-- what is on the shelf is the asker's own -/
theorem own_anyK (ex : List Rr) (b B : Nat) (w : World) (V U : Value) (rs us : List Rr) (hbx : Bx w b (bxAK V U) 49) (hS : ShX ex B w V U rs us) (hE : StiK rs us) (hrs : rs.length ≤ 1000) (hbB : b < B) (hBw : B ≤ w.heap.size) :
    Calls Tryz.prog 14 #[.pointer (some ⟨b, 0, none⟩)] w fun e w' => e = .returned (.bool true) ∧ Below b w w' ∧ ∀ x ∈ ex, w'.ownsRow B 39 3 x.v x.n x.xs := by
  have HX : Hid (Bx w b (bxAK V U) 49) := hbx
  have HS : Hid (ShX ex B w V U rs us) := hS
  have HE : Hid (StiK rs us) := hE
  clear hbx hS hE
  go_enter Tryz.func14, Tryz.ntmps14
  go_wp2_with (first
    | (go_at_call 35; (with_reducible refine (still_anyK ex b B _ V U rs us HX.out HS.out HE.out hrs).mono ?_); rintro e w1 ⟨rfl, hb1⟩; have X1 : Hid (Bx w1 b (bxAK V U) 49) := HX.out.below hb1 HX.out.lt; have S1 : Hid (ShX ex B w1 V U rs us) := HS.out.below hb1; have B1 : Hid (Below b w w1) := hb1.mono (by omega); have Z1 : Hid (B ≤ w1.heap.size) := Nat.le_trans hBw hb1.size; clear hb1)
    | (go_at_call 36; (with_reducible refine (fill_anyK ex b B _ V U rs us X1.out S1.out hrs HE.out.n hbB).mono ?_); rintro e w2 ⟨⟨x, rfl⟩, ts, hx2, hs2, hv2, hm2, hb2⟩; have X2 : Hid (Bx w2 b (bxAK V U) 49) := hx2; have S2 : Hid (ShX ex B w2 V U ts us) := hs2; have V2 : Hid (ts.map vnK = rs.map vnK) := hv2; have M2 : Hid (∀ j t, ts[j]? = some t → t.xs = flat (List.replicate t.n (mkEK j))) := hm2; have B2 : Hid (Below b w w2) := B1.out.trans hb2; have Z2 : Hid (B ≤ w2.heap.size) := Nat.le_trans Z1.out hb2.size; have K2 : Hid (MkdK 0 ts us) := ⟨(vn_lenK hv2).trans HE.out.1, fun j t u ht hu => (by obtain ⟨r, hr, hn⟩ := vn_atK hv2 ht; obtain ⟨E, q1, -, q3, -, q5⟩ := HE.out.2 j r u hr hu; exact ⟨by omega, hm2 j t ht, by omega⟩)⟩; have N2 : Hid (∀ r ∈ ts, r.n ≤ 100000000) := (fun t ht => by obtain ⟨j, hj⟩ := List.getElem?_of_mem ht; obtain ⟨r, hr, hn⟩ := vn_atK hv2 hj; have := HE.out.n r (List.mem_of_getElem? hr); omega); have L2 : Hid (ts.length ≤ 1000) := (by unfold Hid; rw [vn_lenK hv2]; exact hrs); have G2 : Hid (GrnK 0 0 ts ts) := ⟨rfl, fun j r t hr ht => (by rw [hr] at ht; cases ht; exact ⟨by simp, hm2 j r hr⟩)⟩; clear hx2 hs2 hv2 hm2 hb2)
    | (go_at_call 37; (with_reducible refine (marked0_anyK ex b B _ V U ts us X2.out S2.out K2.out L2.out).mono ?_); rintro e w3 ⟨rfl, hb3⟩; have X3 : Hid (Bx w3 b (bxAK V U) 49) := X2.out.below hb3 X2.out.lt; have S3 : Hid (ShX ex B w3 V U ts us) := S2.out.below hb3; have B3 : Hid (Below b w w3) := B2.out.trans (hb3.mono (by have := Z2.out; omega)); have Z3 : Hid (B ≤ w3.heap.size) := Nat.le_trans Z2.out hb3.size; clear hb3)
    | (go_at_call 38; (with_reducible refine (grow_anyK ex b B _ V U ts us X3.out S3.out L2.out N2.out G2.out hbB Z3.out).mono ?_); rintro e w4 ⟨⟨x, rfl⟩, ys, hx4, hs4, hg4, hb4⟩; have X4 : Hid (Bx w4 b (bxAK V U) 49) := hx4; have S4 : Hid (ShX ex B w4 V U ys us) := hs4; have B4 : Hid (Below b w w4) := B3.out.trans hb4; have Z4 : Hid (B ≤ w4.heap.size) := Nat.le_trans Z3.out hb4.size; have L4 : Hid (ys.length ≤ 1000) := (by unfold Hid; rw [hg4.1]; exact L2.out); have K4 : Hid (MkdK 70 ys us) := ⟨hg4.1.trans K2.out.1, fun j t u ht hu => (by obtain ⟨r, hr⟩ : ∃ r, ts[j]? = some r := ⟨_, List.getElem?_eq_getElem (by have := (List.getElem?_eq_some_iff.1 ht).1; have := hg4.1; omega)⟩; obtain ⟨q1, q2⟩ := hg4.2 j r t hr ht; obtain ⟨p1, -, p3⟩ := K2.out.2 j r u hr hu; have p4 := N2.out r (List.mem_of_getElem? hr); rw [if_neg (Nat.not_lt_zero _)] at q1; exact ⟨by omega, q2, by omega⟩)⟩; clear hx4 hs4 hg4 hb4)
    | (go_at_call 37; (with_reducible refine (marked70_anyK ex b B _ V U ys us X4.out S4.out K4.out L4.out).mono ?_); rintro e w5 ⟨rfl, hb5⟩; have B5 : Hid (Below b w w5) := B4.out.trans (hb5.mono (by have := Z4.out; omega)); have E5 : Hid (∀ x ∈ ex, w5.ownsRow B 39 3 x.v x.n x.xs) := (S4.out.below hb5).own; clear hb5))
  go_ret
  exact ⟨rfl, B5.out, E5.out⟩
end Go.Proofs.YtphejjghgalkpaaGreatDoor
