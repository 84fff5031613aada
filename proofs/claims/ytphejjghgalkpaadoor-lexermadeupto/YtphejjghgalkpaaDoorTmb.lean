import Derived.Test.YtphejjghgalkpaaDoorTma
namespace Go.Proofs.YtphejjghgalkpaaDoor
open Go.ChangeShapes Go.WideShapes Go.ChangeAt Go.RowKit Go.Maps Go.WideMaps
set_option linter.unusedVariables false
set_option linter.unusedSimpArgs false

theorem longest_root (P p : Nat) (s : ByteArray) (hs : s.size ≤ 4294967280) (hp : p ≤ s.size) (w : World) (h : Tat w P) :
    Calls Tryd.prog 54 #[.pointer (some ⟨P, 0, none⟩), .string s, .int .i64 (p : Int)] w fun e w' => e = .returned (.tuple #[.int .u8 ((lng TT s 0 p (0, 0)).1 : Nat), .int .i64 ((lng TT s 0 p (0, 0)).2 : Nat)]) ∧ w' = w := by
  obtain ⟨B, A, V, hA, hT⟩ := h
  have := longest_any B TT A V s p hs hp (by rw [tt_len.1]; omega) (by rw [tt_len.1]; omega) w hT
  rw [hA] at this
  exact this
theorem bel_grown {w w2 w' : World} {b : Nat} (h : Below w.heap.size w w2) (hg : w2.grownBy w' (some b)) : w.grownBy w' (some b) := grownBy_trans (grownBy_of_below h _) hg
theorem grown_two {w w' : World} {b g : Nat} {u0 u1 u2 v0 v1 v2 : Value} (h : w.grownBy w' (some b)) (hg : w.heap.size ≤ g) : w.grownBy ((((((w'.setCell ⟨g, 0, none⟩ u0).setCell ⟨g, 1, none⟩ u1).setCell ⟨g, 2, none⟩ u2).setCell ⟨g + 1, 0, none⟩ v0).setCell ⟨g + 1, 1, none⟩ v1).setCell ⟨g + 1, 2, none⟩ v2) (some b) := by
  have hb : Below w.heap.size w' ((((((w'.setCell ⟨g, 0, none⟩ u0).setCell ⟨g, 1, none⟩ u1).setCell ⟨g, 2, none⟩ u2).setCell ⟨g + 1, 0, none⟩ v0).setCell ⟨g + 1, 1, none⟩ v1).setCell ⟨g + 1, 2, none⟩ v2) := bel_two (Below.refl _ _) hg
  exact ⟨hb.os.trans h.os, hb.tape.trans h.tape, hb.output.trans h.output, Nat.le_trans h.size hb.size, fun k hk hne => (hb.block k hk).trans (h.block k hk hne)⟩
theorem Bx.apart {w : World} {g k : Nat} {vs us : Array Value} {t t' : TypeId} (X : Bx w g vs t) (Y : Bx w k us t') (hne : t ≠ t') : k ≠ g := by
  intro e
  subst e
  have h : some (Obj.cells vs t (0, 0)) = some (Obj.cells us t' (0, 0)) := (show w.heap[k]? = some (Obj.cells vs t (0, 0)) from X).symm.trans Y
  cases h
  exact hne rfl
/-- a scanner stands while boxes of tokens and faults are written -/
theorem Sg.setTok {w : World} {b M g i : Nat} {s : ByteArray} {t : TypeId} {vs : Array Value} (h : Sg w b M s) (X : Bx w g vs t) (ht : t ≠ 78 ∧ t ≠ 81 ∧ t ≠ 113 ∧ t ≠ 76) (v : Value) : Sg (w.setCell ⟨g, i, none⟩ v) b M s := by
  have ne : ∀ {k : Nat} {us : Array Value} {t' : TypeId}, Bx w k us t' → t ≠ t' → k ≠ g := fun Y hne => X.apart Y hne
  obtain ⟨d, mk, h1, h2, h3⟩ := h
  refine ⟨d, mk, h1.other ⟨g, i, none⟩ (ne h1 ht.1) v, h2.other ⟨g, i, none⟩ (ne h2 ht.2.1) v, ?_⟩
  rcases h3 with h3 | ⟨e1, B, A, V, e2, e3, e4⟩
  · exact .inl h3
  · refine .inr ⟨e1, B, A, V, e2, ⟨fun i t hi => ⟨(e3.box i t hi).1, (e3.box i t hi).2.other ⟨g, _, none⟩ (ne (e3.box i t hi).2 ht.2.2.1) v⟩, fun j t hj => ?_, e3.one, e3.apart, e3.kid, e3.lim⟩, e4⟩
    refine ownsRow_setCell_other (e3.row j t hj) (a := ⟨g, i, none⟩) (fun e => ?_) v
    obtain ⟨c, fz, hh⟩ := row_kindR (e3.row j t hj) _ e
    have := (show w.heap[g]? = some (.cells _ _ (0, 0)) from X).symm.trans hh
    cases this
    exact ht.2.2.2 rfl
theorem Sg.two {w : World} {b M g : Nat} {s : ByteArray} {u0 u1 u2 v0 v1 v2 : Value} {a0 a1 a2 b0 b1 b2 : Value} (h : Sg w b M s) (X : Bx w g #[a0, a1, a2] 41) (Y : Bx w (g + 1) #[b0, b1, b2] 27) : Sg ((((((w.setCell ⟨g, 0, none⟩ u0).setCell ⟨g, 1, none⟩ u1).setCell ⟨g, 2, none⟩ u2).setCell ⟨g + 1, 0, none⟩ v0).setCell ⟨g + 1, 1, none⟩ v1).setCell ⟨g + 1, 2, none⟩ v2) b M s := by
  have tt : 41 ≠ 78 ∧ 41 ≠ 81 ∧ 41 ≠ 113 ∧ 41 ≠ 76 := by decide
  have tf : 27 ≠ 78 ∧ 27 ≠ 81 ∧ 27 ≠ 113 ∧ 27 ≠ 76 := by decide
  have X1 := X.set 0 u0
  have X2 := X1.set 1 u1
  have Y3 := Y.put3 (h := g) (by omega) u0 u1 u2
  have Y4 := Y3.set 0 v0
  have Y5 := Y4.set 1 v1
  exact (((((h.setTok X tt u0).setTok X1 tt u1).setTok X2 tt u2).setTok Y3 tf v0).setTok Y4 tf v1).setTok Y5 tf v2

set_option maxRecDepth 1000000 in
set_option maxHeartbeats 8000000 in
theorem mark_any (b M : Nat) (s : ByteArray) (p x : Nat) (hs : s.size ≤ 4294967280) (hp : p < s.size) (hx : onT TT 0 (bt s p) = some x) (w : World) (hS : Spl w) (hgb : 0 ≠ b) (h : Sg w b M s) :
    Calls Tryd.prog 33 #[.pointer (some ⟨b, 0, none⟩), .int .i64 (p : Int)] w fun e w' => e = .returned (.tuple #[tokV p (mkP s p), fltV (mkP s p)]) ∧ Sg w' b M s ∧ w.grownBy w' (some b) := by
  have hp' : (p : Int) < (s.size : Int) := by omega
  obtain ⟨hmk, hk80, hlt, hle⟩ := mk_some s p x hp hx
  have c0 : w.cell? ⟨b, 0, none⟩ = some (.string s) := by obtain ⟨d, mk, h1, -, -⟩ := h; exact h1.cell 0
  have hbl : b < w.heap.size := World.block_lt_of_cell? _ _ c0
  obtain ⟨w2, e2, hw, hs2, hX⟩ := start2 w b s c0
  have HE2 : Hid ((w.alloc (.cells #[.int .u8 0, .int .i64 0, .int .i64 0] 41)).alloc (.cells #[.int .i64 0, .int .i64 0, .int .i64 0] 27) = w2) := e2
  obtain ⟨X0, X1, c2, b2, -⟩ := hX w2 (Below.refl _ _)
  have HT : Hid (Calls Tryd.prog 52 #[.pointer (some ⟨b, 0, none⟩)] w2.drew fun e w' => ∃ P, e = .returned (.pointer (some ⟨P, 0, none⟩)) ∧ Tat w' P ∧ Sg w' b M s ∧ w.grownBy w' (some b) ∧ Bx w' w.heap.size #[.int .u8 0, .int .i64 0, .int .i64 0] 41 ∧ Bx w' (w.heap.size + 1) #[.int .i64 0, .int .i64 0, .int .i64 0] 27) := by
    have hd : Below w.heap.size w w2.drew := hw.drew
    refine (tree_any b M s w2.drew (hS.below hd) hgb (h.below hd)).mono fun e w' h => ?_
    obtain ⟨P, h1, h2, h3, h4⟩ := h
    have k2 : w2.drew.heap.size = w2.heap.size := rfl
    exact ⟨P, h1, h2, h3, bel_grown hd h4, (h4.block _ (by omega) (by simp; omega)).trans X0, (h4.block _ (by omega) (by simp; omega)).trans X1⟩
  have HR : Hid (∀ P v, Tat v P → Calls Tryd.prog 54 #[.pointer (some ⟨P, 0, none⟩), .string s, .int .i64 (p : Int)] v fun e w' => e = .returned (.tuple #[.int .u8 ((lng TT s 0 p (0, 0)).1 : Nat), .int .i64 ((lng TT s 0 p (0, 0)).2 : Nat)]) ∧ w' = v) := fun P v hv => longest_root P p s hs (by omega) v hv
  have HC : Hid (∀ v, Sg v b M s → v.cell? ⟨b, 0, none⟩ = some (.string s) ∧ b < v.heap.size) := fun v hv => by
    obtain ⟨d, mk, h1, -, -⟩ := hv; exact ⟨h1.cell 0, h1.lt⟩
  rw [hmk]
  obtain ⟨K, hK⟩ : ∃ K, (lng TT s 0 p (0, 0)).1 = K := ⟨_, rfl⟩
  obtain ⟨E, hE⟩ : ∃ E, (lng TT s 0 p (0, 0)).2 = E := ⟨_, rfl⟩
  rw [hK, hE] at HR ⊢
  rw [hK] at hk80
  rw [hE] at hlt hle
  clear hS h hmk hx hX X0 X1 e2 hw hK hE
  go_enter Tryd.func33, Tryd.ntmps33
  go_upto_region 1 with fail
  rw [HE2.out]
  go_region_with (first
    | (go_at_call 52; (with_reducible refine HT.out.mono ?_); rintro e w1 ⟨P, rfl, ht1, hg1, hw1, Y0, Y1⟩; obtain ⟨q0, qb⟩ := HC.out w1 hg1; have H1 : Hid (Tat w1 P) := ht1; have H2 : Hid (Sg w1 b M s) := hg1; have H3 : Hid (w.grownBy w1 (some b)) := hw1; have HY0 : Hid (Bx w1 w.heap.size #[.int .u8 0, .int .i64 0, .int .i64 0] 41) := Y0; have HY1 : Hid (Bx w1 (w.heap.size + 1) #[.int .i64 0, .int .i64 0, .int .i64 0] 27) := Y1; clear ht1 hg1 hw1 Y0 Y1)
    | (go_at_call 54; (with_reducible refine (HR.out _ _ H1.out).mono ?_); rintro e w3 ⟨rfl, hw3⟩; subst hw3))
  all_goals
    obtain ⟨z0, z1, z2, z3, z4, z5, zf, zh⟩ := two_of HY0.out HY1.out
    have f0 := zf 0
    have f1 := zf 1
    have f2 := zf 2
    have h0 := zh 0
    have h1 := zh 1
    have h2 := zh 2
    clear zf zh
    go_wp2
    obtain ⟨r0, r1, r2, r3, r4, r5⟩ := two_boxes HY0.out HY1.out (.int .u8 (K : Int)) (.int .i64 (p : Int)) (.int .i64 (E : Int)) (.int .i64 0) (.int .i64 0) (.int .i64 0)
    refine bodyPost_ret (v := .tuple #[.agg #[.int .u8 (K : Int), .int .i64 (p : Int), .int .i64 (E : Int)], .agg #[.int .i64 0, .int .i64 0, .int .i64 0]]) (by simp [results, Tryd.results33, go_sem, r0, r1, r2, r3, r4, r5]) rfl ⟨rfl, H2.out.two HY0.out HY1.out, grown_two H3.out (Nat.le_refl _)⟩
end Go.Proofs.YtphejjghgalkpaaDoor
