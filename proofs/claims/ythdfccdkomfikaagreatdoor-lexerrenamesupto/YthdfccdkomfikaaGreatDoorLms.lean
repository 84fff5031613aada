import Derived.Test.YthdfccdkomfikaaGreatDoorTma
import Derived.Test.YthdfccdkomfikaaGreatDoorRlE
namespace Go.Proofs.YthdfccdkomfikaaGreatDoor
open Go.ChangeShapes Go.WideShapes Go.ChangeAt Go.RowKit Go.Maps Go.WideMaps
set_option linter.unusedVariables false
set_option linter.unusedSimpArgs false

theorem longest_root (P p : Nat) (s : ByteArray) (hs : s.size ≤ 4294967280) (hp : p ≤ s.size) (w : World) (h : Tat w P) :
    Calls Tryz.prog 61 #[.pointer (some ⟨P, 0, none⟩), .string s, .int .i64 (p : Int)] w fun e w' => e = .returned (.tuple #[.int .u8 ((lng TT s 0 p (0, 0)).1 : Nat), .int .i64 ((lng TT s 0 p (0, 0)).2 : Nat)]) ∧ w' = w := by
  obtain ⟨B, A, V, hA, hT⟩ := h
  have := longest_any B TT A V s p hs hp (by rw [tt_len.1]; omega) (by rw [tt_len.1]; omega) w hT
  rw [hA] at this
  exact this
theorem bel_grown {w w2 w' : World} {b : Nat} (h : Below w.heap.size w w2) (hg : w2.grownBy w' (some b)) : w.grownBy w' (some b) := grownBy_trans (grownBy_of_below h _) hg
theorem grown_two {w w' : World} {b g : Nat} {u0 u1 u2 v0 v1 v2 : Value} (h : w.grownBy w' (some b)) (hg : w.heap.size ≤ g) : w.grownBy ((((((w'.setCell ⟨g, 0, none⟩ u0).setCell ⟨g, 1, none⟩ u1).setCell ⟨g, 2, none⟩ u2).setCell ⟨g + 1, 0, none⟩ v0).setCell ⟨g + 1, 1, none⟩ v1).setCell ⟨g + 1, 2, none⟩ v2) (some b) := by
  have hb : Below w.heap.size w' ((((((w'.setCell ⟨g, 0, none⟩ u0).setCell ⟨g, 1, none⟩ u1).setCell ⟨g, 2, none⟩ u2).setCell ⟨g + 1, 0, none⟩ v0).setCell ⟨g + 1, 1, none⟩ v1).setCell ⟨g + 1, 2, none⟩ v2) := bel_two (Below.refl _ _) hg
  exact ⟨hb.os.trans h.os, hb.tape.trans h.tape, hb.output.trans h.output, Nat.le_trans h.size hb.size, fun k hk hne => (hb.block k hk).trans (h.block k hk hne)⟩
theorem Bx.apart {w : World} {g k : Nat} {vs us : Array Value} {t t' : TypeId} (X : Bx w g vs t) (Y : Bx w k us t') (hne : t ≠ t') : k ≠ g := by
  intro e
  subst e
  have h : some (Obj.cells vs t (0, 0)) = some (Obj.cells us t' (0, 0)) := (show w.heap[k]? = some (Obj.cells vs t (0, 0)) from X).symm.trans Y
  cases h
  exact hne rfl
/-- a scanner stands while boxes of tokens and faults are written -/
theorem Sg.setTok {w : World} {b M g i : Nat} {s : ByteArray} {t : TypeId} {vs : Array Value} (h : Sg w b M s) (X : Bx w g vs t) (ht : t ≠ 76 ∧ t ≠ 79 ∧ t ≠ 108 ∧ t ≠ 74) (v : Value) : Sg (w.setCell ⟨g, i, none⟩ v) b M s := by
  have ne : ∀ {k : Nat} {us : Array Value} {t' : TypeId}, Bx w k us t' → t ≠ t' → k ≠ g := fun Y hne => X.apart Y hne
  obtain ⟨d, mk, h1, h2, h3⟩ := h
  refine ⟨d, mk, h1.other ⟨g, i, none⟩ (ne h1 ht.1) v, h2.other ⟨g, i, none⟩ (ne h2 ht.2.1) v, ?_⟩
  rcases h3 with h3 | ⟨e1, B, A, V, e2, e3, e4⟩
  · exact .inl h3
  · refine .inr ⟨e1, B, A, V, e2, ⟨fun i t hi => ⟨(e3.box i t hi).1, (e3.box i t hi).2.other ⟨g, _, none⟩ (ne (e3.box i t hi).2 ht.2.2.1) v⟩, fun j t hj => ?_, e3.one, e3.apart, e3.kid, e3.lim⟩, e4⟩
    refine ownsRow_setCell_other (e3.row j t hj) (a := ⟨g, i, none⟩) (fun e => ?_) v
    obtain ⟨c, fz, hh⟩ := row_kindR (e3.row j t hj) _ e
    have := (show w.heap[g]? = some (.cells _ _ (0, 0)) from X).symm.trans hh
    cases this
    exact ht.2.2.2 rfl
theorem Sg.two {w : World} {b M g : Nat} {s : ByteArray} {u0 u1 u2 v0 v1 v2 : Value} {a0 a1 a2 b0 b1 b2 : Value} (h : Sg w b M s) (X : Bx w g #[a0, a1, a2] 36) (Y : Bx w (g + 1) #[b0, b1, b2] 25) : Sg ((((((w.setCell ⟨g, 0, none⟩ u0).setCell ⟨g, 1, none⟩ u1).setCell ⟨g, 2, none⟩ u2).setCell ⟨g + 1, 0, none⟩ v0).setCell ⟨g + 1, 1, none⟩ v1).setCell ⟨g + 1, 2, none⟩ v2) b M s := by
  have tt : 36 ≠ 76 ∧ 36 ≠ 79 ∧ 36 ≠ 108 ∧ 36 ≠ 74 := by decide
  have tf : 25 ≠ 76 ∧ 25 ≠ 79 ∧ 25 ≠ 108 ∧ 25 ≠ 74 := by decide
  have X1 := X.set 0 u0
  have X2 := X1.set 1 u1
  have Y3 := Y.put3 (h := g) (by omega) u0 u1 u2
  have Y4 := Y3.set 0 v0
  have Y5 := Y4.set 1 v1
  exact (((((h.setTok X tt u0).setTok X1 tt u1).setTok X2 tt u2).setTok Y3 tf v0).setTok Y4 tf v1).setTok Y5 tf v2

set_option maxRecDepth 1000000 in
set_option maxHeartbeats 8000000 in
theorem mark_any (b M : Nat) (s : ByteArray) (p x : Nat) (hs : s.size ≤ 4294967280) (hp : p < s.size) (hx : onT TT 0 (bt s p) = some x) (w : World) (hS : Spl w) (hgb : 0 ≠ b) (h : Sg w b M s) :
    Calls Tryz.prog 38 #[.pointer (some ⟨b, 0, none⟩), .int .i64 (p : Int)] w fun e w' => e = .returned (.tuple #[tokV p (mkP s p), fltV (mkP s p)]) ∧ Sg w' b M s ∧ w.grownBy w' (some b) := by
  have hp' : (p : Int) < (s.size : Int) := by omega
  obtain ⟨hmk, hk80, hlt, hle⟩ := mk_some s p x hp hx
  have c0 : w.cell? ⟨b, 0, none⟩ = some (.string s) := by obtain ⟨d, mk, h1, -, -⟩ := h; exact h1.cell 0
  have hbl : b < w.heap.size := World.block_lt_of_cell? _ _ c0
  obtain ⟨w2, e2, hw, hs2, hX⟩ := start2 w b s c0
  have HE2 : Hid ((w.alloc (.cells #[.int .u8 0, .int .i64 0, .int .i64 0] 36)).alloc (.cells #[.int .i64 0, .int .i64 0, .int .i64 0] 25) = w2) := e2
  obtain ⟨X0, X1, c2, b2, -⟩ := hX w2 (Below.refl _ _)
  have HT : Hid (Calls Tryz.prog 59 #[.pointer (some ⟨b, 0, none⟩)] w2.drew fun e w' => ∃ P, e = .returned (.pointer (some ⟨P, 0, none⟩)) ∧ Tat w' P ∧ Sg w' b M s ∧ w.grownBy w' (some b) ∧ Bx w' w.heap.size #[.int .u8 0, .int .i64 0, .int .i64 0] 36 ∧ Bx w' (w.heap.size + 1) #[.int .i64 0, .int .i64 0, .int .i64 0] 25) := by
    have hd : Below w.heap.size w w2.drew := hw.drew
    refine (tree_any b M s w2.drew (hS.below hd) hgb (h.below hd)).mono fun e w' h => ?_
    obtain ⟨P, h1, h2, h3, h4⟩ := h
    have k2 : w2.drew.heap.size = w2.heap.size := rfl
    exact ⟨P, h1, h2, h3, bel_grown hd h4, (h4.block _ (by omega) (by simp; omega)).trans X0, (h4.block _ (by omega) (by simp; omega)).trans X1⟩
  have HR : Hid (∀ P v, Tat v P → Calls Tryz.prog 61 #[.pointer (some ⟨P, 0, none⟩), .string s, .int .i64 (p : Int)] v fun e w' => e = .returned (.tuple #[.int .u8 ((lng TT s 0 p (0, 0)).1 : Nat), .int .i64 ((lng TT s 0 p (0, 0)).2 : Nat)]) ∧ w' = v) := fun P v hv => longest_root P p s hs (by omega) v hv
  have HC : Hid (∀ v, Sg v b M s → v.cell? ⟨b, 0, none⟩ = some (.string s) ∧ b < v.heap.size) := fun v hv => by
    obtain ⟨d, mk, h1, -, -⟩ := hv; exact ⟨h1.cell 0, h1.lt⟩
  rw [hmk]
  obtain ⟨K, hK⟩ : ∃ K, (lng TT s 0 p (0, 0)).1 = K := ⟨_, rfl⟩
  obtain ⟨E, hE⟩ : ∃ E, (lng TT s 0 p (0, 0)).2 = E := ⟨_, rfl⟩
  rw [hK, hE] at HR ⊢
  rw [hK] at hk80
  rw [hE] at hlt hle
  clear hS h hmk hx hX X0 X1 e2 hw hK hE
  go_enter Tryz.func38, Tryz.ntmps38
  go_upto_region 1 with fail
  rw [HE2.out]
  go_region_with (first
    | (go_at_call 59; (with_reducible refine HT.out.mono ?_); rintro e w1 ⟨P, rfl, ht1, hg1, hw1, Y0, Y1⟩; obtain ⟨q0, qb⟩ := HC.out w1 hg1; have H1 : Hid (Tat w1 P) := ht1; have H2 : Hid (Sg w1 b M s) := hg1; have H3 : Hid (w.grownBy w1 (some b)) := hw1; have HY0 : Hid (Bx w1 w.heap.size #[.int .u8 0, .int .i64 0, .int .i64 0] 36) := Y0; have HY1 : Hid (Bx w1 (w.heap.size + 1) #[.int .i64 0, .int .i64 0, .int .i64 0] 25) := Y1; clear ht1 hg1 hw1 Y0 Y1)
    | (go_at_call 61; (with_reducible refine (HR.out _ _ H1.out).mono ?_); rintro e w3 ⟨rfl, hw3⟩; subst hw3))
  all_goals
    obtain ⟨z0, z1, z2, z3, z4, z5, zf, zh⟩ := two_of HY0.out HY1.out
    have f0 := zf 0
    have f1 := zf 1
    have f2 := zf 2
    have h0 := zh 0
    have h1 := zh 1
    have h2 := zh 2
    clear zf zh
    go_wp2
    obtain ⟨r0, r1, r2, r3, r4, r5⟩ := two_boxes HY0.out HY1.out (.int .u8 (K : Int)) (.int .i64 (p : Int)) (.int .i64 (E : Int)) (.int .i64 0) (.int .i64 0) (.int .i64 0)
    refine bodyPost_ret (v := .tuple #[.agg #[.int .u8 (K : Int), .int .i64 (p : Int), .int .i64 (E : Int)], .agg #[.int .i64 0, .int .i64 0, .int .i64 0]]) (by simp [results, Tryz.results38, go_sem, r0, r1, r2, r3, r4, r5]) rfl ⟨rfl, H2.out.two HY0.out HY1.out, grown_two H3.out (Nat.le_refl _)⟩
end Go.Proofs.YthdfccdkomfikaaGreatDoor

namespace Go.Proofs.YthdfccdkomfikaaGreatDoor
open Go.ChangeShapes Go.WideShapes Go.ChangeAt Go.RowKit Go.Maps Go.WideMaps
set_option linter.unusedVariables false
set_option linter.unusedSimpArgs false

set_option maxRecDepth 1000000 in
set_option maxHeartbeats 4000000 in
theorem quoted_96 (b : Nat) (s : ByteArray) (p : Nat) (hs : s.size ≤ 4294967280) (hp : p < s.size) (hc : (s[p]'hp).toNat = 96) (w : World) (hb : w.cell? ⟨b, 0, none⟩ = some (.string s)) :
    Calls Tryz.prog 36 #[.pointer (some ⟨b, 0, none⟩), .int .i64 (p : Int)] w fun e w' => e = .returned (.tuple #[tokV p (quP s p), fltV (quP s p)]) ∧ Below w.heap.size w w' := by
  have hbt : bt s p = 96 := by rw [bt_in hp, hc]
  have hqp : quP s p = if fnd s 96 (p + 1) < s.size then .ok 5 (fnd s 96 (p + 1) + 1) else .no 22 p := by unfold quP; rw [if_pos hbt]
  rw [hqp]
  have hbl : b < w.heap.size := World.block_lt_of_cell? _ _ hb
  have hp' : (p : Int) < (s.size : Int) := by omega
  obtain ⟨w2, e2, hw, hs2, hX⟩ := start2 w b s hb
  have HE2 : Hid ((w.alloc (.cells #[.int .u8 0, .int .i64 0, .int .i64 0] 36)).alloc (.cells #[.int .i64 0, .int .i64 0, .int .i64 0] 25) = w2) := e2
  have HX : Hid (∀ v, Below w2.heap.size w2 v → Bx v w.heap.size #[.int .u8 0, .int .i64 0, .int .i64 0] 36 ∧ Bx v (w.heap.size + 1) #[.int .i64 0, .int .i64 0, .int .i64 0] 25 ∧ v.cell? ⟨b, 0, none⟩ = some (.string s) ∧ b < v.heap.size ∧ Below w.heap.size w v) := hX
  have HW2 : Hid (Below w.heap.size w w2) := hw
  obtain ⟨-, -, c2, b2, -⟩ := hX w2 (Below.refl _ _)
  have HR : Hid (Calls Tryz.prog 57 #[.pointer (some ⟨b, 0, none⟩), .int .i64 (p : Int)] w2 fun e w' => e = .returned (.tuple #[tokV p (if fnd s 96 (p + 1) < s.size then .ok 5 (fnd s 96 (p + 1) + 1) else .no 22 p), fltV (if fnd s 96 (p + 1) < s.size then .ok 5 (fnd s 96 (p + 1) + 1) else .no 22 p)]) ∧ Below w2.heap.size w2 w') := raw_any b s p hs hp w2 c2
  clear e2 hw hX hb
  clear hqp hbt
  by_cases hf : fnd s 96 (p + 1) < s.size
  · rw [if_pos hf] at HR ⊢
    obtain ⟨T, hT⟩ : ∃ T, fnd s 96 (p + 1) + 1 = T := ⟨_, rfl⟩
    try rw [hT] at HR ⊢
    have HR' : Hid (Calls Tryz.prog 57 #[.pointer (some ⟨b, 0, none⟩), .int .i64 (p : Int)] w2 fun e w' => e = .returned (.tuple #[.agg #[.int .u8 5, .int .i64 (p : Int), .int .i64 (T : Int)], .agg #[.int .i64 0, .int .i64 0, .int .i64 0]]) ∧ Below w2.heap.size w2 w') := HR
    clear HR
    go_enter Tryz.func36, Tryz.ntmps36
    go_upto_region 1 with fail
    rw [HE2.out]
    go_wp2_with (go_at_call 57; (with_reducible refine HR'.out.mono ?_); rintro e w4 ⟨rfl, hb4⟩; obtain ⟨Y0, Y1, -, -, HWv⟩ := HX.out w4 hb4; have HW4 : Hid (Below w.heap.size w w4) := HWv; have HY0 : Hid (Bx w4 w.heap.size #[.int .u8 0, .int .i64 0, .int .i64 0] 36) := Y0; have HY1 : Hid (Bx w4 (w.heap.size + 1) #[.int .i64 0, .int .i64 0, .int .i64 0] 25) := Y1; obtain ⟨z0, z1, z2, z3, z4, z5, zf, zh⟩ := two_of Y0 Y1; have f0 := zf 0; have f1 := zf 1; have f2 := zf 2; have h0 := zh 0; have h1 := zh 1; have h2 := zh 2; clear HWv Y0 Y1 zf zh; clear hb4)
    obtain ⟨r0, r1, r2, r3, r4, r5⟩ := two_boxes HY0.out HY1.out (.int .u8 5) (.int .i64 (p : Int)) (.int .i64 (T : Int)) (.int .i64 0) (.int .i64 0) (.int .i64 0)
    refine bodyPost_ret (v := .tuple #[.agg #[.int .u8 5, .int .i64 (p : Int), .int .i64 (T : Int)], .agg #[.int .i64 0, .int .i64 0, .int .i64 0]]) (by simp [results, Tryz.results36, go_sem, r0, r1, r2, r3, r4, r5]) rfl ⟨rfl, bel_two HW4.out (Nat.le_refl _)⟩
  · rw [if_neg hf] at HR ⊢
    obtain ⟨T, hT⟩ : ∃ T, fnd s 96 (p + 1) + 1 = T := ⟨_, rfl⟩
    try rw [hT] at HR ⊢
    have HR' : Hid (Calls Tryz.prog 57 #[.pointer (some ⟨b, 0, none⟩), .int .i64 (p : Int)] w2 fun e w' => e = .returned (.tuple #[.agg #[.int .u8 0, .int .i64 0, .int .i64 0], .agg #[.int .i64 22, .int .i64 0, .int .i64 (p : Int)]]) ∧ Below w2.heap.size w2 w') := HR
    clear HR
    go_enter Tryz.func36, Tryz.ntmps36
    go_upto_region 1 with fail
    rw [HE2.out]
    go_wp2_with (go_at_call 57; (with_reducible refine HR'.out.mono ?_); rintro e w4 ⟨rfl, hb4⟩; obtain ⟨Y0, Y1, -, -, HWv⟩ := HX.out w4 hb4; have HW4 : Hid (Below w.heap.size w w4) := HWv; have HY0 : Hid (Bx w4 w.heap.size #[.int .u8 0, .int .i64 0, .int .i64 0] 36) := Y0; have HY1 : Hid (Bx w4 (w.heap.size + 1) #[.int .i64 0, .int .i64 0, .int .i64 0] 25) := Y1; obtain ⟨z0, z1, z2, z3, z4, z5, zf, zh⟩ := two_of Y0 Y1; have f0 := zf 0; have f1 := zf 1; have f2 := zf 2; have h0 := zh 0; have h1 := zh 1; have h2 := zh 2; clear HWv Y0 Y1 zf zh; clear hb4)
    obtain ⟨r0, r1, r2, r3, r4, r5⟩ := two_boxes HY0.out HY1.out (.int .u8 0) (.int .i64 0) (.int .i64 0) (.int .i64 22) (.int .i64 0) (.int .i64 (p : Int))
    refine bodyPost_ret (v := .tuple #[.agg #[.int .u8 0, .int .i64 0, .int .i64 0], .agg #[.int .i64 22, .int .i64 0, .int .i64 (p : Int)]]) (by simp [results, Tryz.results36, go_sem, r0, r1, r2, r3, r4, r5]) rfl ⟨rfl, bel_two HW4.out (Nat.le_refl _)⟩

theorem quoted_any (b : Nat) (s : ByteArray) (p : Nat) (hs : s.size ≤ 4294967280) (hp : p < s.size) (hc : bt s p = 39 ∨ bt s p = 34 ∨ bt s p = 96) (w : World) (hb : w.cell? ⟨b, 0, none⟩ = some (.string s)) (hT : U8 w) :
    Calls Tryz.prog 36 #[.pointer (some ⟨b, 0, none⟩), .int .i64 (p : Int)] w fun e w' => e = .returned (.tuple #[tokV p (quP s p), fltV (quP s p)]) ∧ Below w.heap.size w w' := by
  rw [bt_in hp] at hc
  rcases hc with h | h | h
  · exact quoted_39 b s p hs hp h w hb hT
  · exact quoted_34 b s p hs hp h w hb hT
  · exact quoted_96 b s p hs hp h w hb
/-- where a scanner works: what was there before it, itself, the keywords -/
structure In (w0 : World) (b M : Nat) (s : ByteArray) (v : World) : Prop where
  bel : Below w0.heap.size w0 v
  sg : Sg v b M s
  map : v.ownsMap Tryz.prog 9 (plainElem (H := Unit) Tryz.prog 28) M 25 (KW 25)
/-- what the scanner asks of the world that was there -/
structure Gd (w0 : World) (b M : Nat) : Prop where
  lt : Lt w0
  spl : Spl w0
  max : ∃ m, w0.cell? ⟨4, 0, none⟩ = some (.int .i64 m)
  b0 : w0.heap.size ≤ b
  m0 : w0.heap.size ≤ M
  ne : M ≠ b
theorem In.below {w0 v v' : World} {b M : Nat} {s : ByteArray} (h : In w0 b M s v) (hb : Below v.heap.size v v') : In w0 b M s v' :=
  ⟨h.bel.trans (hb.mono h.bel.size), h.sg.below hb, ownsMap_below h.map hb (ownsMap_lt h.map)⟩
theorem In.grown {w0 v v' : World} {b M : Nat} {s : ByteArray} (h : In w0 b M s v) (G : Gd w0 b M) (hg : v.grownBy v' (some b)) (hs : Sg v' b M s) : In w0 b M s v' := by
  refine ⟨?_, hs, ?_⟩
  · exact ⟨hg.os.trans h.bel.os, hg.tape.trans h.bel.tape, hg.output.trans h.bel.output, Nat.le_trans h.bel.size hg.size, fun k hk => (hg.block k (Nat.lt_of_lt_of_le hk h.bel.size) (by have := G.b0; simp; omega)).trans (h.bel.block k hk)⟩
  · obtain ⟨es, clock, h1, h2, h3, h4⟩ := h.map
    exact ⟨es, clock, (hg.block M (ownsMap_lt h.map) (by have := G.ne; simp; omega)).trans h1, h2, h3, h4⟩
theorem In.cell {w0 v : World} {b M : Nat} {s : ByteArray} (h : In w0 b M s v) : v.cell? ⟨b, 0, none⟩ = some (.string s) ∧ v.cell? ⟨b, 2, none⟩ = some (.map (some M)) := by
  obtain ⟨d, mk, h1, -, -⟩ := h.sg
  exact ⟨h1.cell 0, h1.cell 2⟩
theorem In.max {w0 v : World} {b M : Nat} {s : ByteArray} (h : In w0 b M s v) (G : Gd w0 b M) : ∃ m, v.cell? ⟨4, 0, none⟩ = some (.int .i64 m) := by
  obtain ⟨m, hm⟩ := G.max
  exact ⟨m, (h.bel.cell (p := ⟨4, 0, none⟩) (World.block_lt_of_cell? _ _ hm)).trans hm⟩
theorem Gd.nb {w0 : World} {b M : Nat} (G : Gd w0 b M) : 0 ≠ b := by have := G.spl.1; have := G.b0; omega
/-- the rows' functions -/
def fitN : Nat → Nat
  | 0 => 27
  | 1 => 29
  | 2 => 31
  | 3 => 33
  | 4 => 35
  | _ => 37
def cutN : Nat → Nat
  | 0 => 28
  | 1 => 30
  | 2 => 32
  | 3 => 34
  | 4 => 36
  | _ => 38
theorem fits_any {w0 : World} {b M : Nat} (G : Gd w0 b M) (s : ByteArray) (p r : Nat) (hs : s.size ≤ 4294967280) (hp : p < s.size) (hr : r < 6) (v : World) (h : In w0 b M s v) :
    Calls Tryz.prog (fitN r) #[.pointer (some ⟨b, 0, none⟩), .int .i64 (p : Int)] v fun e v' => e = .returned (.bool (fR s p r)) ∧ In w0 b M s v' ∧ v.grownBy v' (some b) := by
  have still : ∀ {e : Ending} {x : Ending} {v' : World}, e = x ∧ v' = v → e = x ∧ In w0 b M s v' ∧ v.grownBy v' (some b) := fun {e x v'} hh => ⟨hh.1, by rw [hh.2]; exact h, by rw [hh.2]; exact grownBy_of_below (Below.refl _ _) _⟩
  have more : ∀ {e : Ending} {x : Ending} {v' : World}, e = x ∧ Below v.heap.size v v' → e = x ∧ In w0 b M s v' ∧ v.grownBy v' (some b) := fun {e x v'} hh => ⟨hh.1, h.below hh.2, grownBy_of_below hh.2 _⟩
  match r, hr with
  | 0, _ => exact (atBlank_any b s p hs hp v h.cell.1).mono fun e v' hh => still hh
  | 1, _ => exact (atNote_any b s p hs hp v h.cell.1).mono fun e v' hh => still hh
  | 2, _ => exact (atLetter_any b s p hs hp v h.cell.1 (G.lt.below h.bel)).mono fun e v' hh => more hh
  | 3, _ => exact (atDigit_any b s p hs hp v h.cell.1).mono fun e v' hh => still hh
  | 4, _ => exact (atQuote_any b s p hs hp v h.cell.1).mono fun e v' hh => still hh
  | 5, _ => exact (atMark_any b M s p hs hp v (G.spl.below h.bel) G.nb h.sg).mono fun e v' hh => ⟨hh.1, h.grown G hh.2.2 hh.2.1, hh.2.2⟩
theorem cuts_any {w0 : World} {b M : Nat} (G : Gd w0 b M) (s : ByteArray) (p r : Nat) (hs : s.size ≤ 4294967280) (hp : p < s.size) (hr : r < 6) (hf : fR s p r = true) (v : World) (h : In w0 b M s v) :
    Calls Tryz.prog (cutN r) #[.pointer (some ⟨b, 0, none⟩), .int .i64 (p : Int)] v fun e v' => e = .returned (.tuple #[tokV p (cR s p r), fltV (cR s p r)]) ∧ In w0 b M s v' ∧ v.grownBy v' (some b) := by
  have more : ∀ {e : Ending} {x : Ending} {v' : World}, e = x ∧ Below v.heap.size v v' → e = x ∧ In w0 b M s v' ∧ v.grownBy v' (some b) := fun {e x v'} hh => ⟨hh.1, h.below hh.2, grownBy_of_below hh.2 _⟩
  match r, hr with
  | 0, _ => exact (blanks_any b s p hs hp v h.cell.1).mono fun e v' hh => more hh
  | 1, _ =>
    have hf' : (bt s p = 47 ∧ bt s (p + 1) = 47) ∨ (bt s p = 47 ∧ bt s (p + 1) = 42) := by simpa [fR] using hf
    exact (note_any b s p hs hp (by omega) (by omega) v h.cell.1 (h.max G)).mono fun e v' hh => more hh
  | 2, _ => exact (name_any b s p hs hp M v h.cell.1 h.cell.2 h.map (G.lt.below h.bel)).mono fun e v' hh => more hh
  | 3, _ => exact (number_any b s p hs hp (of_decide_eq_true hf) v h.cell.1 (G.lt.below h.bel)).mono fun e v' hh => more hh
  | 4, _ => exact (quoted_any b s p hs hp (of_decide_eq_true hf) v h.cell.1 (G.lt.below h.bel).1).mono fun e v' hh => more hh
  | 5, _ =>
    cases hO : onT TT 0 (bt s p) with
    | none => have : (onT TT 0 (bt s p)).isSome = true := hf; rw [hO] at this; cases this
    | some x => exact (mark_any b M s p x hs hp hO v (G.spl.below h.bel) G.nb h.sg).mono fun e v' hh => ⟨hh.1, h.grown G hh.2.2 hh.2.1, hh.2.2⟩
end Go.Proofs.YthdfccdkomfikaaGreatDoor
