import Derived.Test.YtnaipmgdipflgaaGreatDoorTma
import Derived.Test.YtnaipmgdipflgaaGreatDoorLyd
import Derived.Test.YtnaipmgdipflgaaGreatDoorRlE
namespace Go.Proofs.YtnaipmgdipflgaaGreatDoor
open Go.ChangeShapes Go.WideShapes Go.ChangeAt Go.RowKit Go.Maps Go.WideMaps
set_option linter.unusedVariables false
set_option linter.unusedSimpArgs false

theorem longest_root (P p : Nat) (s : ByteArray) (hs : s.size ≤ 4294967280) (hp : p ≤ s.size) (w : World) (h : Tat w P) :
    Calls Tryz.prog 123 #[.pointer (some ⟨P, 0, none⟩), .string s, .int .i64 (p : Int)] w fun e w' => e = .returned (.tuple #[.int .u8 ((lng TT s 0 p (0, 0)).1 : Nat), .int .i64 ((lng TT s 0 p (0, 0)).2 : Nat)]) ∧ w' = w := by
  obtain ⟨B, A, V, hA, hT⟩ := h
  have := longest_any B TT A V s p hs hp (by rw [tt_len.1]; omega) (by rw [tt_len.1]; omega) w hT
  rw [hA] at this
  exact this
theorem bel_grown {w w2 w' : World} {b : Nat} (h : Below w.heap.size w w2) (hg : w2.grownBy w' (some b)) : w.grownBy w' (some b) := grownBy_trans (grownBy_of_below h _) hg
theorem grown_two {w w' : World} {b g : Nat} {u0 u1 u2 v0 v1 v2 : Value} (h : w.grownBy w' (some b)) (hg : w.heap.size ≤ g) : w.grownBy ((((((w'.setCell ⟨g, 0, none⟩ u0).setCell ⟨g, 1, none⟩ u1).setCell ⟨g, 2, none⟩ u2).setCell ⟨g + 1, 0, none⟩ v0).setCell ⟨g + 1, 1, none⟩ v1).setCell ⟨g + 1, 2, none⟩ v2) (some b) := by
  have hb : Below w.heap.size w' ((((((w'.setCell ⟨g, 0, none⟩ u0).setCell ⟨g, 1, none⟩ u1).setCell ⟨g, 2, none⟩ u2).setCell ⟨g + 1, 0, none⟩ v0).setCell ⟨g + 1, 1, none⟩ v1).setCell ⟨g + 1, 2, none⟩ v2) := bel_two (Below.refl _ _) hg
  exact ⟨hb.os.trans h.os, hb.tape.trans h.tape, hb.output.trans h.output, Nat.le_trans h.size hb.size, fun k hk hne => (hb.block k hk).trans (h.block k hk hne)⟩
theorem Bx.apart {w : World} {g k : Nat} {vs us : Array Value} {t t' : TypeId} (X : Bx w g vs t) (Y : Bx w k us t') (hne : t ≠ t') : k ≠ g := by
  intro e
  subst e
  have h : some (Obj.cells vs t (0, 0)) = some (Obj.cells us t' (0, 0)) := (show w.heap[k]? = some (Obj.cells vs t (0, 0)) from X).symm.trans Y
  cases h
  exact hne rfl
/-- a scanner stands while boxes of tokens and faults are written -/
theorem Sg.setTok {w : World} {b M g i : Nat} {s : ByteArray} {t : TypeId} {vs : Array Value} (h : Sg w b M s) (X : Bx w g vs t) (ht : t ≠ 133 ∧ t ≠ 136 ∧ t ≠ 180 ∧ t ≠ 131) (v : Value) : Sg (w.setCell ⟨g, i, none⟩ v) b M s := by
  have ne : ∀ {k : Nat} {us : Array Value} {t' : TypeId}, Bx w k us t' → t ≠ t' → k ≠ g := fun Y hne => X.apart Y hne
  obtain ⟨d, mk, h1, h2, h3⟩ := h
  refine ⟨d, mk, h1.other ⟨g, i, none⟩ (ne h1 ht.1) v, h2.other ⟨g, i, none⟩ (ne h2 ht.2.1) v, ?_⟩
  rcases h3 with h3 | ⟨e1, B, A, V, e2, e3, e4⟩
  · exact .inl h3
  · refine .inr ⟨e1, B, A, V, e2, ⟨fun i t hi => ⟨(e3.box i t hi).1, (e3.box i t hi).2.other ⟨g, _, none⟩ (ne (e3.box i t hi).2 ht.2.2.1) v⟩, fun j t hj => ?_, e3.one, e3.apart, e3.kid, e3.lim⟩, e4⟩
    refine ownsRow_setCell_other (e3.row j t hj) (a := ⟨g, i, none⟩) (fun e => ?_) v
    obtain ⟨c, fz, hh⟩ := row_kindR (e3.row j t hj) _ e
    have := (show w.heap[g]? = some (.cells _ _ (0, 0)) from X).symm.trans hh
    cases this
    exact ht.2.2.2 rfl
theorem Sg.two {w : World} {b M g : Nat} {s : ByteArray} {u0 u1 u2 v0 v1 v2 : Value} {a0 a1 a2 b0 b1 b2 : Value} (h : Sg w b M s) (X : Bx w g #[a0, a1, a2] 65) (Y : Bx w (g + 1) #[b0, b1, b2] 61) : Sg ((((((w.setCell ⟨g, 0, none⟩ u0).setCell ⟨g, 1, none⟩ u1).setCell ⟨g, 2, none⟩ u2).setCell ⟨g + 1, 0, none⟩ v0).setCell ⟨g + 1, 1, none⟩ v1).setCell ⟨g + 1, 2, none⟩ v2) b M s := by
  have tt : 65 ≠ 133 ∧ 65 ≠ 136 ∧ 65 ≠ 180 ∧ 65 ≠ 131 := by decide
  have tf : 61 ≠ 133 ∧ 61 ≠ 136 ∧ 61 ≠ 180 ∧ 61 ≠ 131 := by decide
  have X1 := X.set 0 u0
  have X2 := X1.set 1 u1
  have Y3 := Y.put3 (h := g) (by omega) u0 u1 u2
  have Y4 := Y3.set 0 v0
  have Y5 := Y4.set 1 v1
  exact (((((h.setTok X tt u0).setTok X1 tt u1).setTok X2 tt u2).setTok Y3 tf v0).setTok Y4 tf v1).setTok Y5 tf v2

set_option maxRecDepth 1000000 in
set_option maxHeartbeats 8000000 in
theorem mark_any (b M : Nat) (s : ByteArray) (p x : Nat) (hs : s.size ≤ 4294967280) (hp : p < s.size) (hx : onT TT 0 (bt s p) = some x) (w : World) (hS : Spl w) (hgb : 3 ≠ b) (h : Sg w b M s) :
    Calls Tryz.prog 90 #[.pointer (some ⟨b, 0, none⟩), .int .i64 (p : Int)] w fun e w' => e = .returned (.tuple #[tokV p (mkP s p), fltV (mkP s p)]) ∧ Sg w' b M s ∧ w.grownBy w' (some b) := by
  have hp' : (p : Int) < (s.size : Int) := by omega
  obtain ⟨hmk, hk80, hlt, hle⟩ := mk_some s p x hp hx
  have c0 : w.cell? ⟨b, 0, none⟩ = some (.string s) := by obtain ⟨d, mk, h1, -, -⟩ := h; exact h1.cell 0
  have hbl : b < w.heap.size := World.block_lt_of_cell? _ _ c0
  obtain ⟨w2, e2, hw, hs2, hX⟩ := start2 w b s c0
  have HE2 : Hid ((w.alloc (.cells #[.int .u8 0, .int .i64 0, .int .i64 0] 65)).alloc (.cells #[.int .i64 0, .int .i64 0, .int .i64 0] 61) = w2) := e2
  obtain ⟨X0, X1, c2, b2, -⟩ := hX w2 (Below.refl _ _)
  have HT : Hid (Calls Tryz.prog 121 #[.pointer (some ⟨b, 0, none⟩)] w2.drew fun e w' => ∃ P, e = .returned (.pointer (some ⟨P, 0, none⟩)) ∧ Tat w' P ∧ Sg w' b M s ∧ w.grownBy w' (some b) ∧ Bx w' w.heap.size #[.int .u8 0, .int .i64 0, .int .i64 0] 65 ∧ Bx w' (w.heap.size + 1) #[.int .i64 0, .int .i64 0, .int .i64 0] 61) := by
    have hd : Below w.heap.size w w2.drew := hw.drew
    refine (tree_any b M s w2.drew (hS.below hd) hgb (h.below hd)).mono fun e w' h => ?_
    obtain ⟨P, h1, h2, h3, h4⟩ := h
    have k2 : w2.drew.heap.size = w2.heap.size := rfl
    exact ⟨P, h1, h2, h3, bel_grown hd h4, (h4.block _ (by omega) (by simp; omega)).trans X0, (h4.block _ (by omega) (by simp; omega)).trans X1⟩
  have HR : Hid (∀ P v, Tat v P → Calls Tryz.prog 123 #[.pointer (some ⟨P, 0, none⟩), .string s, .int .i64 (p : Int)] v fun e w' => e = .returned (.tuple #[.int .u8 ((lng TT s 0 p (0, 0)).1 : Nat), .int .i64 ((lng TT s 0 p (0, 0)).2 : Nat)]) ∧ w' = v) := fun P v hv => longest_root P p s hs (by omega) v hv
  have HC : Hid (∀ v, Sg v b M s → v.cell? ⟨b, 0, none⟩ = some (.string s) ∧ b < v.heap.size) := fun v hv => by
    obtain ⟨d, mk, h1, -, -⟩ := hv; exact ⟨h1.cell 0, h1.lt⟩
  rw [hmk]
  obtain ⟨K, hK⟩ : ∃ K, (lng TT s 0 p (0, 0)).1 = K := ⟨_, rfl⟩
  obtain ⟨E, hE⟩ : ∃ E, (lng TT s 0 p (0, 0)).2 = E := ⟨_, rfl⟩
  rw [hK, hE] at HR ⊢
  rw [hK] at hk80
  rw [hE] at hlt hle
  clear hS h hmk hx hX X0 X1 e2 hw hK hE
  go_enter Tryz.func90, Tryz.ntmps90
  go_upto_region 1 with fail
  rw [HE2.out]
  go_region_with (first
    | (go_at_call 121; (with_reducible refine HT.out.mono ?_); rintro e w1 ⟨P, rfl, ht1, hg1, hw1, Y0, Y1⟩; obtain ⟨q0, qb⟩ := HC.out w1 hg1; have H1 : Hid (Tat w1 P) := ht1; have H2 : Hid (Sg w1 b M s) := hg1; have H3 : Hid (w.grownBy w1 (some b)) := hw1; have HY0 : Hid (Bx w1 w.heap.size #[.int .u8 0, .int .i64 0, .int .i64 0] 65) := Y0; have HY1 : Hid (Bx w1 (w.heap.size + 1) #[.int .i64 0, .int .i64 0, .int .i64 0] 61) := Y1; clear ht1 hg1 hw1 Y0 Y1)
    | (go_at_call 123; (with_reducible refine (HR.out _ _ H1.out).mono ?_); rintro e w3 ⟨rfl, hw3⟩; subst hw3))
  all_goals
    obtain ⟨z0, z1, z2, z3, z4, z5, zf, zh⟩ := two_of HY0.out HY1.out
    have f0 := zf 0
    have f1 := zf 1
    have f2 := zf 2
    have h0 := zh 0
    have h1 := zh 1
    have h2 := zh 2
    clear zf zh
    go_wp2
    obtain ⟨r0, r1, r2, r3, r4, r5⟩ := two_boxes HY0.out HY1.out (.int .u8 (K : Int)) (.int .i64 (p : Int)) (.int .i64 (E : Int)) (.int .i64 0) (.int .i64 0) (.int .i64 0)
    refine bodyPost_ret (v := .tuple #[.agg #[.int .u8 (K : Int), .int .i64 (p : Int), .int .i64 (E : Int)], .agg #[.int .i64 0, .int .i64 0, .int .i64 0]]) (by simp [results, Tryz.results90, go_sem, r0, r1, r2, r3, r4, r5]) rfl ⟨rfl, H2.out.two HY0.out HY1.out, grown_two H3.out (Nat.le_refl _)⟩
end Go.Proofs.YtnaipmgdipflgaaGreatDoor

namespace Go.Proofs.YtnaipmgdipflgaaGreatDoor
open Go.ChangeShapes Go.WideShapes Go.ChangeAt Go.RowKit Go.Maps Go.WideMaps
set_option linter.unusedVariables false
set_option linter.unusedSimpArgs false

/-- may a semicolon stand behind it? -/
def ask (k : Nat) : Bool := decide (k ∈ [2, 3, 4, 5, 7, 11, 15, 26, 57, 58, 71, 73, 75])
set_option maxRecDepth 1000000 in
set_option maxHeartbeats 4000000 in
theorem asks_any (k : Nat) (hk : k < 256) (w : World) : Calls Tryz.prog 92 #[.int .u8 (k : Int)] w fun e w' => e = .returned (.bool (ask k)) ∧ w' = w := by
  by_cases h : k = 2 ∨ k = 3 ∨ k = 4 ∨ k = 5 ∨ k = 7 ∨ k = 11 ∨ k = 15 ∨ k = 26 ∨ k = 57 ∨ k = 58 ∨ k = 71 ∨ k = 73 ∨ k = 75
  · rcases h with rfl | rfl | rfl | rfl | rfl | rfl | rfl | rfl | rfl | rfl | rfl | rfl | rfl
    all_goals
      go_enter Tryz.func92, Tryz.ntmps92
      go_wp2
      go_ret
      exact ⟨rfl, rfl⟩
  · have e : ask k = false := by
      unfold ask
      simp
      omega
    rw [e]
    have q0 : ((k : Int) == 2) = false := by simp; omega
    have q1 : ((k : Int) == 3) = false := by simp; omega
    have q2 : ((k : Int) == 4) = false := by simp; omega
    have q3 : ((k : Int) == 5) = false := by simp; omega
    have q4 : ((k : Int) == 7) = false := by simp; omega
    have q5 : ((k : Int) == 11) = false := by simp; omega
    have q6 : ((k : Int) == 15) = false := by simp; omega
    have q7 : ((k : Int) == 26) = false := by simp; omega
    have q8 : ((k : Int) == 57) = false := by simp; omega
    have q9 : ((k : Int) == 58) = false := by simp; omega
    have q10 : ((k : Int) == 71) = false := by simp; omega
    have q11 : ((k : Int) == 73) = false := by simp; omega
    have q12 : ((k : Int) == 75) = false := by simp; omega
    go_enter Tryz.func92, Tryz.ntmps92
    go_wp2
    go_ret
    exact ⟨rfl, rfl⟩
set_option maxRecDepth 1000000 in
theorem isTok_any (k : Nat) (h0 : k ≠ 0) (h1 : k ≠ 1) (w : World) : Calls Tryz.prog 34 #[.int .u8 (k : Int)] w fun e w' => e = .returned (.bool true) ∧ w' = w := by
  have q0 : ((k : Int) != 0) = true := by simp; omega
  have q1 : ((k : Int) != 1) = true := by simp; omega
  go_enter Tryz.func34, Tryz.ntmps34
  go_wp2
  go_ret
  exact ⟨rfl, rfl⟩

set_option maxRecDepth 1000000 in
set_option maxHeartbeats 8000000 in
theorem withAutos_yes (k : Nat) (hk : k < 80) (ha : ask k = true) (s : ByteArray) (hs : s.size ≤ 4294967280) (g c : Nat) (hc1 : 1 ≤ c) (w : World) (hg : g < w.heap.size) (c0 : w.cell? ⟨g, 0, none⟩ = some (.int .u8 (k : Int))) (c1 : w.cell? ⟨g, 1, none⟩ = some (.int .i64 0)) (c2 : w.cell? ⟨g, 2, none⟩ = some (.int .i64 (s.size : Int))) :
    Calls Tryz.prog 57 #[.string s, .slice (some ⟨g, 0, none⟩) 1 c] w fun e w' => ∃ a c', e = .returned (.slice a 2 c') ∧ w'.ownsRow w.heap.size 65 3 (.slice a 2 c') 2 [.int .u8 (k : Int), .int .i64 0, .int .i64 (s.size : Int), .int .u8 6, .int .i64 (s.size : Int), .int .i64 (s.size : Int)] ∧ Below w.heap.size w w' := by
  obtain ⟨i0, hi, hz0, hz1, hz2⟩ := info_parts (show (Tryz.prog.info? 65).map (fun i => (i.zero, i.size, i.bytes)) = some (some (.agg #[.int .u8 0, .int .i64 0, .int .i64 0]), 3, 24) by kernel_rfl)
  have HAK : Hid (∀ v, Calls Tryz.prog 92 #[.int .u8 (k : Int)] v fun e w' => e = .returned (.bool true) ∧ w' = v) := fun v => by
    have := asks_any k (by omega) v
    rw [ha] at this
    exact this
  have hc1' : (1 : Int) ≤ (c : Int) := by omega
  have hcn : ¬ (c : Int) < 1 := by omega
  go_enter Tryz.func57, Tryz.ntmps57
  go_wp2
  go_step3
  go_wp2
  go_step3
  go_wp2
  refine wp_loop_rounds 2 ?_
  rw [rounds_succ]
  go_wp2_with (first
    | (go_at_call 92; (with_reducible refine (HAK.out _).mono ?_); rintro e w4 ⟨rfl, hw4⟩; have hw5 := hw4.symm; clear hw4; subst hw5)
    | (at_builtin; (refine wpList_append_at _ rfl (.tmp 17) (.tmp 19) 59 rfl w.heap.size 65 i0 (.agg #[.int .u8 0, .int .i64 0, .int .i64 0]) 3 24 Tryz.underlying59 hi hz0 hz1 hz2 rfl (by decide) _ 0 [] rfl (World.ownsRow_nil _ _ _ _) (some ⟨_, 0, none⟩) 1 1 [.int .u8 (k : Int), .int .i64 0, .int .i64 (s.size : Int)] rfl rfl (fun h => by cases h) (fun ad had => by cases had; exact cells_new2 _ _ _ _) (fun u hu => by simp at hu; rcases hu with rfl | rfl | rfl <;> rfl) (by unfold maxLen; omega) (by omega) (by simp; omega) ?_); intro v9 w9 ho9 hg9 _; rw [Nat.zero_add, List.nil_append] at ho9; obtain ⟨a9, c9, hv9, -, -⟩ := own_slice ho9; subst hv9; have HO9 : Hid (w9.ownsRow w.heap.size 65 3 (.slice a9 1 c9) 1 [.int .u8 (k : Int), .int .i64 0, .int .i64 (s.size : Int)]) := ho9; have HB9 : Hid (Below w.heap.size w w9) := (((Below.refl _ w).alloc (Nat.le_refl _) _).alloc (by simp) _).grown hg9 (by simp; omega) (fun k hk => by cases hk); have X5 := ((Bx.new w #[.int .u8 (k : Int), .int .i64 0, .int .i64 (s.size : Int)] 65).alloc (.cells #[.int .u8 (k : Int), .int .i64 0, .int .i64 (s.size : Int)] 65)); have X9 : Bx w9 w.heap.size #[.int .u8 (k : Int), .int .i64 0, .int .i64 (s.size : Int)] 65 := (hg9.block w.heap.size X5.lt (fun e => by cases e)).trans X5; have k0 : w9.cell? ⟨w.heap.size, 0, none⟩ = some (.int .u8 (k : Int)) := X9.cell 0; have k2 : w9.cell? ⟨w.heap.size, 2, none⟩ = some (.int .i64 (s.size : Int)) := X9.cell 2; have hw9 : w.heap.size < w9.heap.size := X9.lt; clear X5 X9 ho9 hg9))
  all_goals
    refine wp_loop_rounds 1 ?_
    rw [rounds_succ]
    go_wp2_with (at_builtin; (refine wpList_append_at _ rfl (.tmp 45) (.tmp 51) 59 rfl w.heap.size 65 i0 (.agg #[.int .u8 0, .int .i64 0, .int .i64 0]) 3 24 Tryz.underlying59 hi hz0 hz1 hz2 rfl (by decide) _ 1 _ rfl (HO9.out.alloc _) (some ⟨w9.heap.size, 0, none⟩) 1 1 [.int .u8 6, .int .i64 (s.size : Int), .int .i64 (s.size : Int)] rfl rfl (fun h => by cases h) (fun ad had => by cases had; exact cells_new _ _ _) (fun u hu => by simp at hu; rcases hu with rfl | rfl | rfl <;> rfl) (by unfold maxLen; omega) (by omega) (by simp; omega) ?_); intro v8 w8 ho8 hg8 _; obtain ⟨a8, c8, hv8, -, -⟩ := own_slice ho8; subst hv8; have HO8 : Hid (w8.ownsRow w.heap.size 65 3 (.slice a8 2 c8) 2 [.int .u8 (k : Int), .int .i64 0, .int .i64 (s.size : Int), .int .u8 6, .int .i64 (s.size : Int), .int .i64 (s.size : Int)]) := ho8; have HB8 : Hid (Below w.heap.size w w8) := (HB9.out.alloc HB9.out.size _).grown hg8 (by have := HB9.out.size; simp; omega) (fun k hk => (HO9.out.lt k hk).1); clear ho8 hg8)
    rw [rounds_succ]
    go_wp2
    first | rw [Exit.noGoto_ret] | skip
    go_ret
    exact ⟨a8, c8, rfl, HO8.out, HB8.out⟩

set_option maxRecDepth 1000000 in
set_option maxHeartbeats 8000000 in
theorem withAutos_no (k : Nat) (hk : k < 80) (ha : ask k = false) (s : ByteArray) (hs : s.size ≤ 4294967280) (g c : Nat) (hc1 : 1 ≤ c) (w : World) (hg : g < w.heap.size) (c0 : w.cell? ⟨g, 0, none⟩ = some (.int .u8 (k : Int))) (c1 : w.cell? ⟨g, 1, none⟩ = some (.int .i64 0)) (c2 : w.cell? ⟨g, 2, none⟩ = some (.int .i64 (s.size : Int))) :
    Calls Tryz.prog 57 #[.string s, .slice (some ⟨g, 0, none⟩) 1 c] w fun e w' => ∃ a c', e = .returned (.slice a 1 c') ∧ w'.ownsRow w.heap.size 65 3 (.slice a 1 c') 1 [.int .u8 (k : Int), .int .i64 0, .int .i64 (s.size : Int)] ∧ Below w.heap.size w w' := by
  obtain ⟨i0, hi, hz0, hz1, hz2⟩ := info_parts (show (Tryz.prog.info? 65).map (fun i => (i.zero, i.size, i.bytes)) = some (some (.agg #[.int .u8 0, .int .i64 0, .int .i64 0]), 3, 24) by kernel_rfl)
  have HAK : Hid (∀ v, Calls Tryz.prog 92 #[.int .u8 (k : Int)] v fun e w' => e = .returned (.bool false) ∧ w' = v) := fun v => by
    have := asks_any k (by omega) v
    rw [ha] at this
    exact this
  have hc1' : (1 : Int) ≤ (c : Int) := by omega
  have hcn : ¬ (c : Int) < 1 := by omega
  go_enter Tryz.func57, Tryz.ntmps57
  go_wp2
  go_step3
  go_wp2
  go_step3
  go_wp2
  refine wp_loop_rounds 2 ?_
  rw [rounds_succ]
  go_wp2_with (first
    | (go_at_call 92; (with_reducible refine (HAK.out _).mono ?_); rintro e w4 ⟨rfl, hw4⟩; have hw5 := hw4.symm; clear hw4; subst hw5)
    | (at_builtin; (refine wpList_append_at _ rfl (.tmp 17) (.tmp 19) 59 rfl w.heap.size 65 i0 (.agg #[.int .u8 0, .int .i64 0, .int .i64 0]) 3 24 Tryz.underlying59 hi hz0 hz1 hz2 rfl (by decide) _ 0 [] rfl (World.ownsRow_nil _ _ _ _) (some ⟨_, 0, none⟩) 1 1 [.int .u8 (k : Int), .int .i64 0, .int .i64 (s.size : Int)] rfl rfl (fun h => by cases h) (fun ad had => by cases had; exact cells_new2 _ _ _ _) (fun u hu => by simp at hu; rcases hu with rfl | rfl | rfl <;> rfl) (by unfold maxLen; omega) (by omega) (by simp; omega) ?_); intro v9 w9 ho9 hg9 _; rw [Nat.zero_add, List.nil_append] at ho9; obtain ⟨a9, c9, hv9, -, -⟩ := own_slice ho9; subst hv9; have HO9 : Hid (w9.ownsRow w.heap.size 65 3 (.slice a9 1 c9) 1 [.int .u8 (k : Int), .int .i64 0, .int .i64 (s.size : Int)]) := ho9; have HB9 : Hid (Below w.heap.size w w9) := (((Below.refl _ w).alloc (Nat.le_refl _) _).alloc (by simp) _).grown hg9 (by simp; omega) (fun k hk => by cases hk); have X5 := ((Bx.new w #[.int .u8 (k : Int), .int .i64 0, .int .i64 (s.size : Int)] 65).alloc (.cells #[.int .u8 (k : Int), .int .i64 0, .int .i64 (s.size : Int)] 65)); have X9 : Bx w9 w.heap.size #[.int .u8 (k : Int), .int .i64 0, .int .i64 (s.size : Int)] 65 := (hg9.block w.heap.size X5.lt (fun e => by cases e)).trans X5; have k0 : w9.cell? ⟨w.heap.size, 0, none⟩ = some (.int .u8 (k : Int)) := X9.cell 0; have k2 : w9.cell? ⟨w.heap.size, 2, none⟩ = some (.int .i64 (s.size : Int)) := X9.cell 2; have hw9 : w.heap.size < w9.heap.size := X9.lt; clear X5 X9 ho9 hg9))
  rw [rounds_succ]
  go_wp2
  first | rw [Exit.noGoto_ret] | skip
  go_ret
  exact ⟨a9, c9, rfl, HO9.out, HB9.out⟩
end Go.Proofs.YtnaipmgdipflgaaGreatDoor
