import Derived.Test.YtmnbakalcpanlaaGreatDoorLy1
import Derived.Deep.DeepCutAuto
namespace Go.Proofs.YtmnbakalcpanlaaGreatDoor
open Go.ChangeShapes Go.WideShapes Go.ChangeAt Go.RowKit
set_option linter.unusedVariables false
set_option linter.unusedSimpArgs false

/-- the escape whose backslash stands at a place -/
def esA (s : ByteArray) (p q : Nat) : Option Itm :=
  if s.size ≤ p + 1 then none else
  match esc (bt s (p + 1)) q with
  | some v => some ⟨2, v, false, false⟩
  | none =>
    if bt s (p + 1) = 120 then cod s (p + 2) 2 2 16 else
    if bt s (p + 1) = 117 then cod s (p + 2) 2 4 16 else
    if bt s (p + 1) = 85 then cod s (p + 2) 2 8 16 else
    if 48 ≤ bt s (p + 1) ∧ bt s (p + 1) ≤ 55 then cod s (p + 1) 1 3 8 else none
theorem itm_back {s : ByteArray} {k q : Nat} (h : bt s k = 92) : itm s k q = esA s k q := by unfold itm; rw [if_neg (by omega)]; rfl
theorem itm_else {s : ByteArray} {k q : Nat} (h : bt s k ≠ 92) : itm s k q = some ⟨wd s k, rn s k, false, decide (rn s k = 65533 ∧ wd s k = 1)⟩ := by unfold itm; rw [if_pos h]
theorem idx_none (n : Nat) (h : n < 256) (h1 : n ≠ 97) (h2 : n ≠ 98) (h3 : n ≠ 102) (h4 : n ≠ 110) (h5 : n ≠ 114) (h6 : n ≠ 116) (h7 : n ≠ 118) : Lib.indexByte [97, 98, 102, 110, 114, 116, 118] n.toUInt8 = -1 := by
  have key : ((List.range 256).all fun n => [97, 98, 102, 110, 114, 116, 118].contains n || Lib.indexByte [97, 98, 102, 110, 114, 116, 118] n.toUInt8 == -1) = true := by kernel_rfl
  have := List.all_eq_true.1 key n (by simpa using h)
  simp only [Bool.or_eq_true, beq_iff_eq] at this
  rcases this with h9 | h9
  · simp at h9; omega
  · exact h9
theorem Bx.read4 {w : World} {g : Nat} {t : TypeId} {u0 u1 u2 u3 : Value} (B : Bx w g #[u0, u1, u2, u3] t) (v0 v1 v2 v3 : Value) :
    (w.setCell ⟨g, 0, none⟩ v0).cell? ⟨g, 0, none⟩ = some v0 ∧ ((w.setCell ⟨g, 0, none⟩ v0).setCell ⟨g, 1, none⟩ v1).cell? ⟨g, 1, none⟩ = some v1 ∧ (((w.setCell ⟨g, 0, none⟩ v0).setCell ⟨g, 1, none⟩ v1).setCell ⟨g, 2, none⟩ v2).cell? ⟨g, 2, none⟩ = some v2 ∧
    ((((w.setCell ⟨g, 0, none⟩ v0).setCell ⟨g, 1, none⟩ v1).setCell ⟨g, 2, none⟩ v2).setCell ⟨g, 3, none⟩ v3).cell? ⟨g, 3, none⟩ = some v3 :=
  ⟨by rw [(B.set 0 v0).cell 0]; rfl, by rw [((B.set 0 v0).set 1 v1).cell 1]; rfl, by rw [(((B.set 0 v0).set 1 v1).set 2 v2).cell 2]; rfl, by rw [((((B.set 0 v0).set 1 v1).set 2 v2).set 3 v3).cell 3]; rfl⟩
theorem bel_put4 {B : Nat} {a w : World} {g : Nat} {v0 v1 v2 v3 : Value} (h : Below B a w) (hg : B ≤ g) : Below B a ((((w.setCell ⟨g, 0, none⟩ v0).setCell ⟨g, 1, none⟩ v1).setCell ⟨g, 2, none⟩ v2).setCell ⟨g, 3, none⟩ v3) :=
  (((h.setCell (p := ⟨g, 0, none⟩) hg _).setCell (p := ⟨g, 1, none⟩) hg _).setCell (p := ⟨g, 2, none⟩) hg _).setCell (p := ⟨g, 3, none⟩) hg _

set_option maxRecDepth 100000 in
set_option maxHeartbeats 2000000 in
theorem escapeAt_end (s : ByteArray) (p q : Nat) (hq : q = 34 ∨ q = 39) (hs : s.size ≤ 4294967280) (hp : s.size = p + 1) (w : World) :
    Calls Tryz.prog 80 #[.string s, .int .i64 ((p : Int) + 1), .int .u8 q] w fun e w' => e = .returned (.tuple #[itV p (esA s p q), .bool (esA s p q).isSome]) ∧ Below w.heap.size w w' := by
  have E : esA s p q = none := by unfold esA; rw [if_pos (by omega)]
  rw [E]
  clear E
  have hp' : (s.size : Int) ≤ (p : Int) + 1 := by omega
  go_enter Tryz.func80, Tryz.ntmps80
  go_wp2
  refine bodyPost_ret (v := .tuple #[.agg #[.int .i64 0, .int .i64 0, .bool false, .bool false], .bool false]) (by simp [results, Tryz.results80, go_sem]) rfl ⟨rfl, by go_grown⟩

set_option maxRecDepth 100000 in
set_option maxHeartbeats 2000000 in
theorem escapeAt_c120 (s : ByteArray) (p q : Nat) (hq : q = 34 ∨ q = 39) (hs : s.size ≤ 4294967280) (hp : p + 1 < s.size) (hc : (s[p + 1]'hp).toNat = 120) (w : World) :
    Calls Tryz.prog 80 #[.string s, .int .i64 ((p : Int) + 1), .int .u8 q] w fun e w' => e = .returned (.tuple #[itV p (esA s p q), .bool (esA s p q).isSome]) ∧ Below w.heap.size w w' := by
  have E : esA s p q = cod s (p + 2) 2 2 16 := by
    unfold esA; rw [if_neg (by omega), bt_in hp, hc]; rcases hq with rfl | rfl <;> rfl
  rw [E]
  clear E
  have HB : Hid (∀ v, Calls Tryz.prog 88 #[.string s, .int .i64 ((p : Int) + 1 + 1), .int .i64 2, .int .i64 16] v fun e w' => e = .returned (.tuple #[itV p (cod s (p + 2) 2 2 16), .bool (cod s (p + 2) 2 2 16).isSome]) ∧ Below v.heap.size v w') := fun v => by
    have h := byteAt_x s p hs (by omega) v
    rw [show ((p + 2 : Nat) : Int) = (p : Int) + 1 + 1 by omega] at h
    exact h
  have hp' : (p : Int) + 1 < (s.size : Int) := by omega
  cases hO : cod s (p + 2) 2 2 16 with
  | none =>
    rw [hO] at HB
    have HB' : Hid (∀ v, Calls Tryz.prog 88 #[.string s, .int .i64 ((p : Int) + 1 + 1), .int .i64 2, .int .i64 16] v fun e w' => e = .returned (.tuple #[.agg #[.int .i64 0, .int .i64 0, .bool false, .bool false], .bool false]) ∧ Below v.heap.size v w') := HB
    clear HB hO
    obtain ⟨w2, e2, hw, hs2, B0⟩ := bx1 w #[.int .i64 0, .int .i64 0, .bool false, .bool false] 108
    have HE2 : Hid (w.alloc (.cells #[.int .i64 0, .int .i64 0, .bool false, .bool false] 108) = w2) := e2
    have HB2 : Hid (Below w.heap.size w w2) := hw
    have HX2 : Hid (Bx w2 w.heap.size #[.int .i64 0, .int .i64 0, .bool false, .bool false] 108) := B0
    clear e2 hw hs2 B0
    go_enter Tryz.func80, Tryz.ntmps80
    go_upto_region 1 with fail
    rw [HE2.out]
    go_wp2_with (go_at_call 88; (with_reducible refine (HB'.out _).mono ?_); rintro e w3 ⟨rfl, hb3⟩; have HX3 : Hid (Bx w3 w.heap.size #[.int .i64 0, .int .i64 0, .bool false, .bool false] 108) := HX2.out.below hb3 HX2.out.lt; have z0 := HX3.out.cell 0; have z1 := HX3.out.cell 1; have z2 := HX3.out.cell 2; have z3 := HX3.out.cell 3; have f0 := HX3.out.free 0; have f1 := HX3.out.free 1; have f2 := HX3.out.free 2; have f3 := HX3.out.free 3; simp at z0 z1 z2 z3; have HB3 : Hid (Below w.heap.size w w3) := HB2.out.trans (hb3.mono HB2.out.size); clear hb3)
    obtain ⟨p0, p1, p2, p3⟩ := HX3.out.read4 (.int .i64 0) (.int .i64 0) (.bool false) (.bool false)
    refine bodyPost_ret (v := .tuple #[.agg #[.int .i64 0, .int .i64 0, .bool false, .bool false], .bool false]) (by simp [results, Tryz.results80, go_sem, p0, p1, p2, p3]) rfl ⟨rfl, bel_put4 HB3.out (Nat.le_refl _)⟩
  | some it =>
    obtain ⟨n, v, e, b⟩ := it
    rw [hO] at HB
    have HB' : Hid (∀ u, Calls Tryz.prog 88 #[.string s, .int .i64 ((p : Int) + 1 + 1), .int .i64 2, .int .i64 16] u fun e' w' => e' = .returned (.tuple #[.agg #[.int .i64 (v : Int), .int .i64 ((p : Int) + (n : Int)), .bool e, .bool b], .bool true]) ∧ Below u.heap.size u w') := HB
    clear HB hO
    obtain ⟨w2, e2, hw, hs2, B0⟩ := bx1 w #[.int .i64 0, .int .i64 0, .bool false, .bool false] 108
    have HE2 : Hid (w.alloc (.cells #[.int .i64 0, .int .i64 0, .bool false, .bool false] 108) = w2) := e2
    have HB2 : Hid (Below w.heap.size w w2) := hw
    have HX2 : Hid (Bx w2 w.heap.size #[.int .i64 0, .int .i64 0, .bool false, .bool false] 108) := B0
    clear e2 hw hs2 B0
    go_enter Tryz.func80, Tryz.ntmps80
    go_upto_region 1 with fail
    rw [HE2.out]
    go_wp2_with (go_at_call 88; (with_reducible refine (HB'.out _).mono ?_); rintro e w3 ⟨rfl, hb3⟩; have HX3 : Hid (Bx w3 w.heap.size #[.int .i64 0, .int .i64 0, .bool false, .bool false] 108) := HX2.out.below hb3 HX2.out.lt; have z0 := HX3.out.cell 0; have z1 := HX3.out.cell 1; have z2 := HX3.out.cell 2; have z3 := HX3.out.cell 3; have f0 := HX3.out.free 0; have f1 := HX3.out.free 1; have f2 := HX3.out.free 2; have f3 := HX3.out.free 3; simp at z0 z1 z2 z3; have HB3 : Hid (Below w.heap.size w w3) := HB2.out.trans (hb3.mono HB2.out.size); clear hb3)
    obtain ⟨p0, p1, p2, p3⟩ := HX3.out.read4 (.int .i64 (v : Int)) (.int .i64 ((p : Int) + (n : Int))) (.bool e) (.bool b)
    refine bodyPost_ret (v := .tuple #[.agg #[.int .i64 (v : Int), .int .i64 ((p : Int) + (n : Int)), .bool e, .bool b], .bool true]) (by simp [results, Tryz.results80, go_sem, p0, p1, p2, p3]) rfl ⟨rfl, bel_put4 HB3.out (Nat.le_refl _)⟩

set_option maxRecDepth 100000 in
set_option maxHeartbeats 2000000 in
theorem escapeAt_c117 (s : ByteArray) (p q : Nat) (hq : q = 34 ∨ q = 39) (hs : s.size ≤ 4294967280) (hp : p + 1 < s.size) (hc : (s[p + 1]'hp).toNat = 117) (w : World) :
    Calls Tryz.prog 80 #[.string s, .int .i64 ((p : Int) + 1), .int .u8 q] w fun e w' => e = .returned (.tuple #[itV p (esA s p q), .bool (esA s p q).isSome]) ∧ Below w.heap.size w w' := by
  have E : esA s p q = cod s (p + 2) 2 4 16 := by
    unfold esA; rw [if_neg (by omega), bt_in hp, hc]; rcases hq with rfl | rfl <;> rfl
  rw [E]
  clear E
  have HB : Hid (∀ v, Calls Tryz.prog 89 #[.string s, .int .i64 ((p : Int) + 1 + 1), .int .i64 4] v fun e w' => e = .returned (.tuple #[itV p (cod s (p + 2) 2 4 16), .bool (cod s (p + 2) 2 4 16).isSome]) ∧ Below v.heap.size v w') := fun v => by
    have h := runeAt_u s p hs (by omega) v
    rw [show ((p + 2 : Nat) : Int) = (p : Int) + 1 + 1 by omega] at h
    exact h
  have hp' : (p : Int) + 1 < (s.size : Int) := by omega
  cases hO : cod s (p + 2) 2 4 16 with
  | none =>
    rw [hO] at HB
    have HB' : Hid (∀ v, Calls Tryz.prog 89 #[.string s, .int .i64 ((p : Int) + 1 + 1), .int .i64 4] v fun e w' => e = .returned (.tuple #[.agg #[.int .i64 0, .int .i64 0, .bool false, .bool false], .bool false]) ∧ Below v.heap.size v w') := HB
    clear HB hO
    obtain ⟨w2, e2, hw, hs2, B0⟩ := bx1 w #[.int .i64 0, .int .i64 0, .bool false, .bool false] 108
    have HE2 : Hid (w.alloc (.cells #[.int .i64 0, .int .i64 0, .bool false, .bool false] 108) = w2) := e2
    have HB2 : Hid (Below w.heap.size w w2) := hw
    have HX2 : Hid (Bx w2 w.heap.size #[.int .i64 0, .int .i64 0, .bool false, .bool false] 108) := B0
    clear e2 hw hs2 B0
    go_enter Tryz.func80, Tryz.ntmps80
    go_upto_region 1 with fail
    rw [HE2.out]
    go_wp2_with (go_at_call 89; (with_reducible refine (HB'.out _).mono ?_); rintro e w3 ⟨rfl, hb3⟩; have HX3 : Hid (Bx w3 w.heap.size #[.int .i64 0, .int .i64 0, .bool false, .bool false] 108) := HX2.out.below hb3 HX2.out.lt; have z0 := HX3.out.cell 0; have z1 := HX3.out.cell 1; have z2 := HX3.out.cell 2; have z3 := HX3.out.cell 3; have f0 := HX3.out.free 0; have f1 := HX3.out.free 1; have f2 := HX3.out.free 2; have f3 := HX3.out.free 3; simp at z0 z1 z2 z3; have HB3 : Hid (Below w.heap.size w w3) := HB2.out.trans (hb3.mono HB2.out.size); clear hb3)
    obtain ⟨p0, p1, p2, p3⟩ := HX3.out.read4 (.int .i64 0) (.int .i64 0) (.bool false) (.bool false)
    refine bodyPost_ret (v := .tuple #[.agg #[.int .i64 0, .int .i64 0, .bool false, .bool false], .bool false]) (by simp [results, Tryz.results80, go_sem, p0, p1, p2, p3]) rfl ⟨rfl, bel_put4 HB3.out (Nat.le_refl _)⟩
  | some it =>
    obtain ⟨n, v, e, b⟩ := it
    rw [hO] at HB
    have HB' : Hid (∀ u, Calls Tryz.prog 89 #[.string s, .int .i64 ((p : Int) + 1 + 1), .int .i64 4] u fun e' w' => e' = .returned (.tuple #[.agg #[.int .i64 (v : Int), .int .i64 ((p : Int) + (n : Int)), .bool e, .bool b], .bool true]) ∧ Below u.heap.size u w') := HB
    clear HB hO
    obtain ⟨w2, e2, hw, hs2, B0⟩ := bx1 w #[.int .i64 0, .int .i64 0, .bool false, .bool false] 108
    have HE2 : Hid (w.alloc (.cells #[.int .i64 0, .int .i64 0, .bool false, .bool false] 108) = w2) := e2
    have HB2 : Hid (Below w.heap.size w w2) := hw
    have HX2 : Hid (Bx w2 w.heap.size #[.int .i64 0, .int .i64 0, .bool false, .bool false] 108) := B0
    clear e2 hw hs2 B0
    go_enter Tryz.func80, Tryz.ntmps80
    go_upto_region 1 with fail
    rw [HE2.out]
    go_wp2_with (go_at_call 89; (with_reducible refine (HB'.out _).mono ?_); rintro e w3 ⟨rfl, hb3⟩; have HX3 : Hid (Bx w3 w.heap.size #[.int .i64 0, .int .i64 0, .bool false, .bool false] 108) := HX2.out.below hb3 HX2.out.lt; have z0 := HX3.out.cell 0; have z1 := HX3.out.cell 1; have z2 := HX3.out.cell 2; have z3 := HX3.out.cell 3; have f0 := HX3.out.free 0; have f1 := HX3.out.free 1; have f2 := HX3.out.free 2; have f3 := HX3.out.free 3; simp at z0 z1 z2 z3; have HB3 : Hid (Below w.heap.size w w3) := HB2.out.trans (hb3.mono HB2.out.size); clear hb3)
    obtain ⟨p0, p1, p2, p3⟩ := HX3.out.read4 (.int .i64 (v : Int)) (.int .i64 ((p : Int) + (n : Int))) (.bool e) (.bool b)
    refine bodyPost_ret (v := .tuple #[.agg #[.int .i64 (v : Int), .int .i64 ((p : Int) + (n : Int)), .bool e, .bool b], .bool true]) (by simp [results, Tryz.results80, go_sem, p0, p1, p2, p3]) rfl ⟨rfl, bel_put4 HB3.out (Nat.le_refl _)⟩

set_option maxRecDepth 100000 in
set_option maxHeartbeats 2000000 in
theorem escapeAt_c85 (s : ByteArray) (p q : Nat) (hq : q = 34 ∨ q = 39) (hs : s.size ≤ 4294967280) (hp : p + 1 < s.size) (hc : (s[p + 1]'hp).toNat = 85) (w : World) :
    Calls Tryz.prog 80 #[.string s, .int .i64 ((p : Int) + 1), .int .u8 q] w fun e w' => e = .returned (.tuple #[itV p (esA s p q), .bool (esA s p q).isSome]) ∧ Below w.heap.size w w' := by
  have E : esA s p q = cod s (p + 2) 2 8 16 := by
    unfold esA; rw [if_neg (by omega), bt_in hp, hc]; rcases hq with rfl | rfl <;> rfl
  rw [E]
  clear E
  have HB : Hid (∀ v, Calls Tryz.prog 89 #[.string s, .int .i64 ((p : Int) + 1 + 1), .int .i64 8] v fun e w' => e = .returned (.tuple #[itV p (cod s (p + 2) 2 8 16), .bool (cod s (p + 2) 2 8 16).isSome]) ∧ Below v.heap.size v w') := fun v => by
    have h := runeAt_U s p hs (by omega) v
    rw [show ((p + 2 : Nat) : Int) = (p : Int) + 1 + 1 by omega] at h
    exact h
  have hp' : (p : Int) + 1 < (s.size : Int) := by omega
  cases hO : cod s (p + 2) 2 8 16 with
  | none =>
    rw [hO] at HB
    have HB' : Hid (∀ v, Calls Tryz.prog 89 #[.string s, .int .i64 ((p : Int) + 1 + 1), .int .i64 8] v fun e w' => e = .returned (.tuple #[.agg #[.int .i64 0, .int .i64 0, .bool false, .bool false], .bool false]) ∧ Below v.heap.size v w') := HB
    clear HB hO
    obtain ⟨w2, e2, hw, hs2, B0⟩ := bx1 w #[.int .i64 0, .int .i64 0, .bool false, .bool false] 108
    have HE2 : Hid (w.alloc (.cells #[.int .i64 0, .int .i64 0, .bool false, .bool false] 108) = w2) := e2
    have HB2 : Hid (Below w.heap.size w w2) := hw
    have HX2 : Hid (Bx w2 w.heap.size #[.int .i64 0, .int .i64 0, .bool false, .bool false] 108) := B0
    clear e2 hw hs2 B0
    go_enter Tryz.func80, Tryz.ntmps80
    go_upto_region 1 with fail
    rw [HE2.out]
    go_wp2_with (go_at_call 89; (with_reducible refine (HB'.out _).mono ?_); rintro e w3 ⟨rfl, hb3⟩; have HX3 : Hid (Bx w3 w.heap.size #[.int .i64 0, .int .i64 0, .bool false, .bool false] 108) := HX2.out.below hb3 HX2.out.lt; have z0 := HX3.out.cell 0; have z1 := HX3.out.cell 1; have z2 := HX3.out.cell 2; have z3 := HX3.out.cell 3; have f0 := HX3.out.free 0; have f1 := HX3.out.free 1; have f2 := HX3.out.free 2; have f3 := HX3.out.free 3; simp at z0 z1 z2 z3; have HB3 : Hid (Below w.heap.size w w3) := HB2.out.trans (hb3.mono HB2.out.size); clear hb3)
    obtain ⟨p0, p1, p2, p3⟩ := HX3.out.read4 (.int .i64 0) (.int .i64 0) (.bool false) (.bool false)
    refine bodyPost_ret (v := .tuple #[.agg #[.int .i64 0, .int .i64 0, .bool false, .bool false], .bool false]) (by simp [results, Tryz.results80, go_sem, p0, p1, p2, p3]) rfl ⟨rfl, bel_put4 HB3.out (Nat.le_refl _)⟩
  | some it =>
    obtain ⟨n, v, e, b⟩ := it
    rw [hO] at HB
    have HB' : Hid (∀ u, Calls Tryz.prog 89 #[.string s, .int .i64 ((p : Int) + 1 + 1), .int .i64 8] u fun e' w' => e' = .returned (.tuple #[.agg #[.int .i64 (v : Int), .int .i64 ((p : Int) + (n : Int)), .bool e, .bool b], .bool true]) ∧ Below u.heap.size u w') := HB
    clear HB hO
    obtain ⟨w2, e2, hw, hs2, B0⟩ := bx1 w #[.int .i64 0, .int .i64 0, .bool false, .bool false] 108
    have HE2 : Hid (w.alloc (.cells #[.int .i64 0, .int .i64 0, .bool false, .bool false] 108) = w2) := e2
    have HB2 : Hid (Below w.heap.size w w2) := hw
    have HX2 : Hid (Bx w2 w.heap.size #[.int .i64 0, .int .i64 0, .bool false, .bool false] 108) := B0
    clear e2 hw hs2 B0
    go_enter Tryz.func80, Tryz.ntmps80
    go_upto_region 1 with fail
    rw [HE2.out]
    go_wp2_with (go_at_call 89; (with_reducible refine (HB'.out _).mono ?_); rintro e w3 ⟨rfl, hb3⟩; have HX3 : Hid (Bx w3 w.heap.size #[.int .i64 0, .int .i64 0, .bool false, .bool false] 108) := HX2.out.below hb3 HX2.out.lt; have z0 := HX3.out.cell 0; have z1 := HX3.out.cell 1; have z2 := HX3.out.cell 2; have z3 := HX3.out.cell 3; have f0 := HX3.out.free 0; have f1 := HX3.out.free 1; have f2 := HX3.out.free 2; have f3 := HX3.out.free 3; simp at z0 z1 z2 z3; have HB3 : Hid (Below w.heap.size w w3) := HB2.out.trans (hb3.mono HB2.out.size); clear hb3)
    obtain ⟨p0, p1, p2, p3⟩ := HX3.out.read4 (.int .i64 (v : Int)) (.int .i64 ((p : Int) + (n : Int))) (.bool e) (.bool b)
    refine bodyPost_ret (v := .tuple #[.agg #[.int .i64 (v : Int), .int .i64 ((p : Int) + (n : Int)), .bool e, .bool b], .bool true]) (by simp [results, Tryz.results80, go_sem, p0, p1, p2, p3]) rfl ⟨rfl, bel_put4 HB3.out (Nat.le_refl _)⟩

set_option maxRecDepth 100000 in
set_option maxHeartbeats 2000000 in
theorem escapeAt_c48 (s : ByteArray) (p q : Nat) (hq : q = 34 ∨ q = 39) (hs : s.size ≤ 4294967280) (hp : p + 1 < s.size) (hc : (s[p + 1]'hp).toNat = 48) (w : World) :
    Calls Tryz.prog 80 #[.string s, .int .i64 ((p : Int) + 1), .int .u8 q] w fun e w' => e = .returned (.tuple #[itV p (esA s p q), .bool (esA s p q).isSome]) ∧ Below w.heap.size w w' := by
  have E : esA s p q = cod s (p + 1) 1 3 8 := by
    unfold esA; rw [if_neg (by omega), bt_in hp, hc]; rcases hq with rfl | rfl <;> rfl
  rw [E]
  clear E
  have HB : Hid (∀ v, Calls Tryz.prog 88 #[.string s, .int .i64 ((p : Int) + 1), .int .i64 3, .int .i64 8] v fun e w' => e = .returned (.tuple #[itV p (cod s (p + 1) 1 3 8), .bool (cod s (p + 1) 1 3 8).isSome]) ∧ Below v.heap.size v w') := fun v => by
    have h := byteAt_o s p hs (by omega) v
    rw [show ((p + 1 : Nat) : Int) = (p : Int) + 1 by omega] at h
    exact h
  have hp' : (p : Int) + 1 < (s.size : Int) := by omega
  cases hO : cod s (p + 1) 1 3 8 with
  | none =>
    rw [hO] at HB
    have HB' : Hid (∀ v, Calls Tryz.prog 88 #[.string s, .int .i64 ((p : Int) + 1), .int .i64 3, .int .i64 8] v fun e w' => e = .returned (.tuple #[.agg #[.int .i64 0, .int .i64 0, .bool false, .bool false], .bool false]) ∧ Below v.heap.size v w') := HB
    clear HB hO
    obtain ⟨w2, e2, hw, hs2, B0⟩ := bx1 w #[.int .i64 0, .int .i64 0, .bool false, .bool false] 108
    have HE2 : Hid (w.alloc (.cells #[.int .i64 0, .int .i64 0, .bool false, .bool false] 108) = w2) := e2
    have HB2 : Hid (Below w.heap.size w w2) := hw
    have HX2 : Hid (Bx w2 w.heap.size #[.int .i64 0, .int .i64 0, .bool false, .bool false] 108) := B0
    clear e2 hw hs2 B0
    go_enter Tryz.func80, Tryz.ntmps80
    go_upto_region 1 with fail
    rw [HE2.out]
    go_wp2_with (go_at_call 88; (with_reducible refine (HB'.out _).mono ?_); rintro e w3 ⟨rfl, hb3⟩; have HX3 : Hid (Bx w3 w.heap.size #[.int .i64 0, .int .i64 0, .bool false, .bool false] 108) := HX2.out.below hb3 HX2.out.lt; have z0 := HX3.out.cell 0; have z1 := HX3.out.cell 1; have z2 := HX3.out.cell 2; have z3 := HX3.out.cell 3; have f0 := HX3.out.free 0; have f1 := HX3.out.free 1; have f2 := HX3.out.free 2; have f3 := HX3.out.free 3; simp at z0 z1 z2 z3; have HB3 : Hid (Below w.heap.size w w3) := HB2.out.trans (hb3.mono HB2.out.size); clear hb3)
    obtain ⟨p0, p1, p2, p3⟩ := HX3.out.read4 (.int .i64 0) (.int .i64 0) (.bool false) (.bool false)
    refine bodyPost_ret (v := .tuple #[.agg #[.int .i64 0, .int .i64 0, .bool false, .bool false], .bool false]) (by simp [results, Tryz.results80, go_sem, p0, p1, p2, p3]) rfl ⟨rfl, bel_put4 HB3.out (Nat.le_refl _)⟩
  | some it =>
    obtain ⟨n, v, e, b⟩ := it
    rw [hO] at HB
    have HB' : Hid (∀ u, Calls Tryz.prog 88 #[.string s, .int .i64 ((p : Int) + 1), .int .i64 3, .int .i64 8] u fun e' w' => e' = .returned (.tuple #[.agg #[.int .i64 (v : Int), .int .i64 ((p : Int) + (n : Int)), .bool e, .bool b], .bool true]) ∧ Below u.heap.size u w') := HB
    clear HB hO
    obtain ⟨w2, e2, hw, hs2, B0⟩ := bx1 w #[.int .i64 0, .int .i64 0, .bool false, .bool false] 108
    have HE2 : Hid (w.alloc (.cells #[.int .i64 0, .int .i64 0, .bool false, .bool false] 108) = w2) := e2
    have HB2 : Hid (Below w.heap.size w w2) := hw
    have HX2 : Hid (Bx w2 w.heap.size #[.int .i64 0, .int .i64 0, .bool false, .bool false] 108) := B0
    clear e2 hw hs2 B0
    go_enter Tryz.func80, Tryz.ntmps80
    go_upto_region 1 with fail
    rw [HE2.out]
    go_wp2_with (go_at_call 88; (with_reducible refine (HB'.out _).mono ?_); rintro e w3 ⟨rfl, hb3⟩; have HX3 : Hid (Bx w3 w.heap.size #[.int .i64 0, .int .i64 0, .bool false, .bool false] 108) := HX2.out.below hb3 HX2.out.lt; have z0 := HX3.out.cell 0; have z1 := HX3.out.cell 1; have z2 := HX3.out.cell 2; have z3 := HX3.out.cell 3; have f0 := HX3.out.free 0; have f1 := HX3.out.free 1; have f2 := HX3.out.free 2; have f3 := HX3.out.free 3; simp at z0 z1 z2 z3; have HB3 : Hid (Below w.heap.size w w3) := HB2.out.trans (hb3.mono HB2.out.size); clear hb3)
    obtain ⟨p0, p1, p2, p3⟩ := HX3.out.read4 (.int .i64 (v : Int)) (.int .i64 ((p : Int) + (n : Int))) (.bool e) (.bool b)
    refine bodyPost_ret (v := .tuple #[.agg #[.int .i64 (v : Int), .int .i64 ((p : Int) + (n : Int)), .bool e, .bool b], .bool true]) (by simp [results, Tryz.results80, go_sem, p0, p1, p2, p3]) rfl ⟨rfl, bel_put4 HB3.out (Nat.le_refl _)⟩

set_option maxRecDepth 100000 in
set_option maxHeartbeats 2000000 in
theorem escapeAt_c49 (s : ByteArray) (p q : Nat) (hq : q = 34 ∨ q = 39) (hs : s.size ≤ 4294967280) (hp : p + 1 < s.size) (hc : (s[p + 1]'hp).toNat = 49) (w : World) :
    Calls Tryz.prog 80 #[.string s, .int .i64 ((p : Int) + 1), .int .u8 q] w fun e w' => e = .returned (.tuple #[itV p (esA s p q), .bool (esA s p q).isSome]) ∧ Below w.heap.size w w' := by
  have E : esA s p q = cod s (p + 1) 1 3 8 := by
    unfold esA; rw [if_neg (by omega), bt_in hp, hc]; rcases hq with rfl | rfl <;> rfl
  rw [E]
  clear E
  have HB : Hid (∀ v, Calls Tryz.prog 88 #[.string s, .int .i64 ((p : Int) + 1), .int .i64 3, .int .i64 8] v fun e w' => e = .returned (.tuple #[itV p (cod s (p + 1) 1 3 8), .bool (cod s (p + 1) 1 3 8).isSome]) ∧ Below v.heap.size v w') := fun v => by
    have h := byteAt_o s p hs (by omega) v
    rw [show ((p + 1 : Nat) : Int) = (p : Int) + 1 by omega] at h
    exact h
  have hp' : (p : Int) + 1 < (s.size : Int) := by omega
  cases hO : cod s (p + 1) 1 3 8 with
  | none =>
    rw [hO] at HB
    have HB' : Hid (∀ v, Calls Tryz.prog 88 #[.string s, .int .i64 ((p : Int) + 1), .int .i64 3, .int .i64 8] v fun e w' => e = .returned (.tuple #[.agg #[.int .i64 0, .int .i64 0, .bool false, .bool false], .bool false]) ∧ Below v.heap.size v w') := HB
    clear HB hO
    obtain ⟨w2, e2, hw, hs2, B0⟩ := bx1 w #[.int .i64 0, .int .i64 0, .bool false, .bool false] 108
    have HE2 : Hid (w.alloc (.cells #[.int .i64 0, .int .i64 0, .bool false, .bool false] 108) = w2) := e2
    have HB2 : Hid (Below w.heap.size w w2) := hw
    have HX2 : Hid (Bx w2 w.heap.size #[.int .i64 0, .int .i64 0, .bool false, .bool false] 108) := B0
    clear e2 hw hs2 B0
    go_enter Tryz.func80, Tryz.ntmps80
    go_upto_region 1 with fail
    rw [HE2.out]
    go_wp2_with (go_at_call 88; (with_reducible refine (HB'.out _).mono ?_); rintro e w3 ⟨rfl, hb3⟩; have HX3 : Hid (Bx w3 w.heap.size #[.int .i64 0, .int .i64 0, .bool false, .bool false] 108) := HX2.out.below hb3 HX2.out.lt; have z0 := HX3.out.cell 0; have z1 := HX3.out.cell 1; have z2 := HX3.out.cell 2; have z3 := HX3.out.cell 3; have f0 := HX3.out.free 0; have f1 := HX3.out.free 1; have f2 := HX3.out.free 2; have f3 := HX3.out.free 3; simp at z0 z1 z2 z3; have HB3 : Hid (Below w.heap.size w w3) := HB2.out.trans (hb3.mono HB2.out.size); clear hb3)
    obtain ⟨p0, p1, p2, p3⟩ := HX3.out.read4 (.int .i64 0) (.int .i64 0) (.bool false) (.bool false)
    refine bodyPost_ret (v := .tuple #[.agg #[.int .i64 0, .int .i64 0, .bool false, .bool false], .bool false]) (by simp [results, Tryz.results80, go_sem, p0, p1, p2, p3]) rfl ⟨rfl, bel_put4 HB3.out (Nat.le_refl _)⟩
  | some it =>
    obtain ⟨n, v, e, b⟩ := it
    rw [hO] at HB
    have HB' : Hid (∀ u, Calls Tryz.prog 88 #[.string s, .int .i64 ((p : Int) + 1), .int .i64 3, .int .i64 8] u fun e' w' => e' = .returned (.tuple #[.agg #[.int .i64 (v : Int), .int .i64 ((p : Int) + (n : Int)), .bool e, .bool b], .bool true]) ∧ Below u.heap.size u w') := HB
    clear HB hO
    obtain ⟨w2, e2, hw, hs2, B0⟩ := bx1 w #[.int .i64 0, .int .i64 0, .bool false, .bool false] 108
    have HE2 : Hid (w.alloc (.cells #[.int .i64 0, .int .i64 0, .bool false, .bool false] 108) = w2) := e2
    have HB2 : Hid (Below w.heap.size w w2) := hw
    have HX2 : Hid (Bx w2 w.heap.size #[.int .i64 0, .int .i64 0, .bool false, .bool false] 108) := B0
    clear e2 hw hs2 B0
    go_enter Tryz.func80, Tryz.ntmps80
    go_upto_region 1 with fail
    rw [HE2.out]
    go_wp2_with (go_at_call 88; (with_reducible refine (HB'.out _).mono ?_); rintro e w3 ⟨rfl, hb3⟩; have HX3 : Hid (Bx w3 w.heap.size #[.int .i64 0, .int .i64 0, .bool false, .bool false] 108) := HX2.out.below hb3 HX2.out.lt; have z0 := HX3.out.cell 0; have z1 := HX3.out.cell 1; have z2 := HX3.out.cell 2; have z3 := HX3.out.cell 3; have f0 := HX3.out.free 0; have f1 := HX3.out.free 1; have f2 := HX3.out.free 2; have f3 := HX3.out.free 3; simp at z0 z1 z2 z3; have HB3 : Hid (Below w.heap.size w w3) := HB2.out.trans (hb3.mono HB2.out.size); clear hb3)
    obtain ⟨p0, p1, p2, p3⟩ := HX3.out.read4 (.int .i64 (v : Int)) (.int .i64 ((p : Int) + (n : Int))) (.bool e) (.bool b)
    refine bodyPost_ret (v := .tuple #[.agg #[.int .i64 (v : Int), .int .i64 ((p : Int) + (n : Int)), .bool e, .bool b], .bool true]) (by simp [results, Tryz.results80, go_sem, p0, p1, p2, p3]) rfl ⟨rfl, bel_put4 HB3.out (Nat.le_refl _)⟩

set_option maxRecDepth 100000 in
set_option maxHeartbeats 2000000 in
theorem escapeAt_c50 (s : ByteArray) (p q : Nat) (hq : q = 34 ∨ q = 39) (hs : s.size ≤ 4294967280) (hp : p + 1 < s.size) (hc : (s[p + 1]'hp).toNat = 50) (w : World) :
    Calls Tryz.prog 80 #[.string s, .int .i64 ((p : Int) + 1), .int .u8 q] w fun e w' => e = .returned (.tuple #[itV p (esA s p q), .bool (esA s p q).isSome]) ∧ Below w.heap.size w w' := by
  have E : esA s p q = cod s (p + 1) 1 3 8 := by
    unfold esA; rw [if_neg (by omega), bt_in hp, hc]; rcases hq with rfl | rfl <;> rfl
  rw [E]
  clear E
  have HB : Hid (∀ v, Calls Tryz.prog 88 #[.string s, .int .i64 ((p : Int) + 1), .int .i64 3, .int .i64 8] v fun e w' => e = .returned (.tuple #[itV p (cod s (p + 1) 1 3 8), .bool (cod s (p + 1) 1 3 8).isSome]) ∧ Below v.heap.size v w') := fun v => by
    have h := byteAt_o s p hs (by omega) v
    rw [show ((p + 1 : Nat) : Int) = (p : Int) + 1 by omega] at h
    exact h
  have hp' : (p : Int) + 1 < (s.size : Int) := by omega
  cases hO : cod s (p + 1) 1 3 8 with
  | none =>
    rw [hO] at HB
    have HB' : Hid (∀ v, Calls Tryz.prog 88 #[.string s, .int .i64 ((p : Int) + 1), .int .i64 3, .int .i64 8] v fun e w' => e = .returned (.tuple #[.agg #[.int .i64 0, .int .i64 0, .bool false, .bool false], .bool false]) ∧ Below v.heap.size v w') := HB
    clear HB hO
    obtain ⟨w2, e2, hw, hs2, B0⟩ := bx1 w #[.int .i64 0, .int .i64 0, .bool false, .bool false] 108
    have HE2 : Hid (w.alloc (.cells #[.int .i64 0, .int .i64 0, .bool false, .bool false] 108) = w2) := e2
    have HB2 : Hid (Below w.heap.size w w2) := hw
    have HX2 : Hid (Bx w2 w.heap.size #[.int .i64 0, .int .i64 0, .bool false, .bool false] 108) := B0
    clear e2 hw hs2 B0
    go_enter Tryz.func80, Tryz.ntmps80
    go_upto_region 1 with fail
    rw [HE2.out]
    go_wp2_with (go_at_call 88; (with_reducible refine (HB'.out _).mono ?_); rintro e w3 ⟨rfl, hb3⟩; have HX3 : Hid (Bx w3 w.heap.size #[.int .i64 0, .int .i64 0, .bool false, .bool false] 108) := HX2.out.below hb3 HX2.out.lt; have z0 := HX3.out.cell 0; have z1 := HX3.out.cell 1; have z2 := HX3.out.cell 2; have z3 := HX3.out.cell 3; have f0 := HX3.out.free 0; have f1 := HX3.out.free 1; have f2 := HX3.out.free 2; have f3 := HX3.out.free 3; simp at z0 z1 z2 z3; have HB3 : Hid (Below w.heap.size w w3) := HB2.out.trans (hb3.mono HB2.out.size); clear hb3)
    obtain ⟨p0, p1, p2, p3⟩ := HX3.out.read4 (.int .i64 0) (.int .i64 0) (.bool false) (.bool false)
    refine bodyPost_ret (v := .tuple #[.agg #[.int .i64 0, .int .i64 0, .bool false, .bool false], .bool false]) (by simp [results, Tryz.results80, go_sem, p0, p1, p2, p3]) rfl ⟨rfl, bel_put4 HB3.out (Nat.le_refl _)⟩
  | some it =>
    obtain ⟨n, v, e, b⟩ := it
    rw [hO] at HB
    have HB' : Hid (∀ u, Calls Tryz.prog 88 #[.string s, .int .i64 ((p : Int) + 1), .int .i64 3, .int .i64 8] u fun e' w' => e' = .returned (.tuple #[.agg #[.int .i64 (v : Int), .int .i64 ((p : Int) + (n : Int)), .bool e, .bool b], .bool true]) ∧ Below u.heap.size u w') := HB
    clear HB hO
    obtain ⟨w2, e2, hw, hs2, B0⟩ := bx1 w #[.int .i64 0, .int .i64 0, .bool false, .bool false] 108
    have HE2 : Hid (w.alloc (.cells #[.int .i64 0, .int .i64 0, .bool false, .bool false] 108) = w2) := e2
    have HB2 : Hid (Below w.heap.size w w2) := hw
    have HX2 : Hid (Bx w2 w.heap.size #[.int .i64 0, .int .i64 0, .bool false, .bool false] 108) := B0
    clear e2 hw hs2 B0
    go_enter Tryz.func80, Tryz.ntmps80
    go_upto_region 1 with fail
    rw [HE2.out]
    go_wp2_with (go_at_call 88; (with_reducible refine (HB'.out _).mono ?_); rintro e w3 ⟨rfl, hb3⟩; have HX3 : Hid (Bx w3 w.heap.size #[.int .i64 0, .int .i64 0, .bool false, .bool false] 108) := HX2.out.below hb3 HX2.out.lt; have z0 := HX3.out.cell 0; have z1 := HX3.out.cell 1; have z2 := HX3.out.cell 2; have z3 := HX3.out.cell 3; have f0 := HX3.out.free 0; have f1 := HX3.out.free 1; have f2 := HX3.out.free 2; have f3 := HX3.out.free 3; simp at z0 z1 z2 z3; have HB3 : Hid (Below w.heap.size w w3) := HB2.out.trans (hb3.mono HB2.out.size); clear hb3)
    obtain ⟨p0, p1, p2, p3⟩ := HX3.out.read4 (.int .i64 (v : Int)) (.int .i64 ((p : Int) + (n : Int))) (.bool e) (.bool b)
    refine bodyPost_ret (v := .tuple #[.agg #[.int .i64 (v : Int), .int .i64 ((p : Int) + (n : Int)), .bool e, .bool b], .bool true]) (by simp [results, Tryz.results80, go_sem, p0, p1, p2, p3]) rfl ⟨rfl, bel_put4 HB3.out (Nat.le_refl _)⟩

set_option maxRecDepth 100000 in
set_option maxHeartbeats 2000000 in
theorem escapeAt_c51 (s : ByteArray) (p q : Nat) (hq : q = 34 ∨ q = 39) (hs : s.size ≤ 4294967280) (hp : p + 1 < s.size) (hc : (s[p + 1]'hp).toNat = 51) (w : World) :
    Calls Tryz.prog 80 #[.string s, .int .i64 ((p : Int) + 1), .int .u8 q] w fun e w' => e = .returned (.tuple #[itV p (esA s p q), .bool (esA s p q).isSome]) ∧ Below w.heap.size w w' := by
  have E : esA s p q = cod s (p + 1) 1 3 8 := by
    unfold esA; rw [if_neg (by omega), bt_in hp, hc]; rcases hq with rfl | rfl <;> rfl
  rw [E]
  clear E
  have HB : Hid (∀ v, Calls Tryz.prog 88 #[.string s, .int .i64 ((p : Int) + 1), .int .i64 3, .int .i64 8] v fun e w' => e = .returned (.tuple #[itV p (cod s (p + 1) 1 3 8), .bool (cod s (p + 1) 1 3 8).isSome]) ∧ Below v.heap.size v w') := fun v => by
    have h := byteAt_o s p hs (by omega) v
    rw [show ((p + 1 : Nat) : Int) = (p : Int) + 1 by omega] at h
    exact h
  have hp' : (p : Int) + 1 < (s.size : Int) := by omega
  cases hO : cod s (p + 1) 1 3 8 with
  | none =>
    rw [hO] at HB
    have HB' : Hid (∀ v, Calls Tryz.prog 88 #[.string s, .int .i64 ((p : Int) + 1), .int .i64 3, .int .i64 8] v fun e w' => e = .returned (.tuple #[.agg #[.int .i64 0, .int .i64 0, .bool false, .bool false], .bool false]) ∧ Below v.heap.size v w') := HB
    clear HB hO
    obtain ⟨w2, e2, hw, hs2, B0⟩ := bx1 w #[.int .i64 0, .int .i64 0, .bool false, .bool false] 108
    have HE2 : Hid (w.alloc (.cells #[.int .i64 0, .int .i64 0, .bool false, .bool false] 108) = w2) := e2
    have HB2 : Hid (Below w.heap.size w w2) := hw
    have HX2 : Hid (Bx w2 w.heap.size #[.int .i64 0, .int .i64 0, .bool false, .bool false] 108) := B0
    clear e2 hw hs2 B0
    go_enter Tryz.func80, Tryz.ntmps80
    go_upto_region 1 with fail
    rw [HE2.out]
    go_wp2_with (go_at_call 88; (with_reducible refine (HB'.out _).mono ?_); rintro e w3 ⟨rfl, hb3⟩; have HX3 : Hid (Bx w3 w.heap.size #[.int .i64 0, .int .i64 0, .bool false, .bool false] 108) := HX2.out.below hb3 HX2.out.lt; have z0 := HX3.out.cell 0; have z1 := HX3.out.cell 1; have z2 := HX3.out.cell 2; have z3 := HX3.out.cell 3; have f0 := HX3.out.free 0; have f1 := HX3.out.free 1; have f2 := HX3.out.free 2; have f3 := HX3.out.free 3; simp at z0 z1 z2 z3; have HB3 : Hid (Below w.heap.size w w3) := HB2.out.trans (hb3.mono HB2.out.size); clear hb3)
    obtain ⟨p0, p1, p2, p3⟩ := HX3.out.read4 (.int .i64 0) (.int .i64 0) (.bool false) (.bool false)
    refine bodyPost_ret (v := .tuple #[.agg #[.int .i64 0, .int .i64 0, .bool false, .bool false], .bool false]) (by simp [results, Tryz.results80, go_sem, p0, p1, p2, p3]) rfl ⟨rfl, bel_put4 HB3.out (Nat.le_refl _)⟩
  | some it =>
    obtain ⟨n, v, e, b⟩ := it
    rw [hO] at HB
    have HB' : Hid (∀ u, Calls Tryz.prog 88 #[.string s, .int .i64 ((p : Int) + 1), .int .i64 3, .int .i64 8] u fun e' w' => e' = .returned (.tuple #[.agg #[.int .i64 (v : Int), .int .i64 ((p : Int) + (n : Int)), .bool e, .bool b], .bool true]) ∧ Below u.heap.size u w') := HB
    clear HB hO
    obtain ⟨w2, e2, hw, hs2, B0⟩ := bx1 w #[.int .i64 0, .int .i64 0, .bool false, .bool false] 108
    have HE2 : Hid (w.alloc (.cells #[.int .i64 0, .int .i64 0, .bool false, .bool false] 108) = w2) := e2
    have HB2 : Hid (Below w.heap.size w w2) := hw
    have HX2 : Hid (Bx w2 w.heap.size #[.int .i64 0, .int .i64 0, .bool false, .bool false] 108) := B0
    clear e2 hw hs2 B0
    go_enter Tryz.func80, Tryz.ntmps80
    go_upto_region 1 with fail
    rw [HE2.out]
    go_wp2_with (go_at_call 88; (with_reducible refine (HB'.out _).mono ?_); rintro e w3 ⟨rfl, hb3⟩; have HX3 : Hid (Bx w3 w.heap.size #[.int .i64 0, .int .i64 0, .bool false, .bool false] 108) := HX2.out.below hb3 HX2.out.lt; have z0 := HX3.out.cell 0; have z1 := HX3.out.cell 1; have z2 := HX3.out.cell 2; have z3 := HX3.out.cell 3; have f0 := HX3.out.free 0; have f1 := HX3.out.free 1; have f2 := HX3.out.free 2; have f3 := HX3.out.free 3; simp at z0 z1 z2 z3; have HB3 : Hid (Below w.heap.size w w3) := HB2.out.trans (hb3.mono HB2.out.size); clear hb3)
    obtain ⟨p0, p1, p2, p3⟩ := HX3.out.read4 (.int .i64 (v : Int)) (.int .i64 ((p : Int) + (n : Int))) (.bool e) (.bool b)
    refine bodyPost_ret (v := .tuple #[.agg #[.int .i64 (v : Int), .int .i64 ((p : Int) + (n : Int)), .bool e, .bool b], .bool true]) (by simp [results, Tryz.results80, go_sem, p0, p1, p2, p3]) rfl ⟨rfl, bel_put4 HB3.out (Nat.le_refl _)⟩

set_option maxRecDepth 100000 in
set_option maxHeartbeats 2000000 in
theorem escapeAt_c52 (s : ByteArray) (p q : Nat) (hq : q = 34 ∨ q = 39) (hs : s.size ≤ 4294967280) (hp : p + 1 < s.size) (hc : (s[p + 1]'hp).toNat = 52) (w : World) :
    Calls Tryz.prog 80 #[.string s, .int .i64 ((p : Int) + 1), .int .u8 q] w fun e w' => e = .returned (.tuple #[itV p (esA s p q), .bool (esA s p q).isSome]) ∧ Below w.heap.size w w' := by
  have E : esA s p q = cod s (p + 1) 1 3 8 := by
    unfold esA; rw [if_neg (by omega), bt_in hp, hc]; rcases hq with rfl | rfl <;> rfl
  rw [E]
  clear E
  have HB : Hid (∀ v, Calls Tryz.prog 88 #[.string s, .int .i64 ((p : Int) + 1), .int .i64 3, .int .i64 8] v fun e w' => e = .returned (.tuple #[itV p (cod s (p + 1) 1 3 8), .bool (cod s (p + 1) 1 3 8).isSome]) ∧ Below v.heap.size v w') := fun v => by
    have h := byteAt_o s p hs (by omega) v
    rw [show ((p + 1 : Nat) : Int) = (p : Int) + 1 by omega] at h
    exact h
  have hp' : (p : Int) + 1 < (s.size : Int) := by omega
  cases hO : cod s (p + 1) 1 3 8 with
  | none =>
    rw [hO] at HB
    have HB' : Hid (∀ v, Calls Tryz.prog 88 #[.string s, .int .i64 ((p : Int) + 1), .int .i64 3, .int .i64 8] v fun e w' => e = .returned (.tuple #[.agg #[.int .i64 0, .int .i64 0, .bool false, .bool false], .bool false]) ∧ Below v.heap.size v w') := HB
    clear HB hO
    obtain ⟨w2, e2, hw, hs2, B0⟩ := bx1 w #[.int .i64 0, .int .i64 0, .bool false, .bool false] 108
    have HE2 : Hid (w.alloc (.cells #[.int .i64 0, .int .i64 0, .bool false, .bool false] 108) = w2) := e2
    have HB2 : Hid (Below w.heap.size w w2) := hw
    have HX2 : Hid (Bx w2 w.heap.size #[.int .i64 0, .int .i64 0, .bool false, .bool false] 108) := B0
    clear e2 hw hs2 B0
    go_enter Tryz.func80, Tryz.ntmps80
    go_upto_region 1 with fail
    rw [HE2.out]
    go_wp2_with (go_at_call 88; (with_reducible refine (HB'.out _).mono ?_); rintro e w3 ⟨rfl, hb3⟩; have HX3 : Hid (Bx w3 w.heap.size #[.int .i64 0, .int .i64 0, .bool false, .bool false] 108) := HX2.out.below hb3 HX2.out.lt; have z0 := HX3.out.cell 0; have z1 := HX3.out.cell 1; have z2 := HX3.out.cell 2; have z3 := HX3.out.cell 3; have f0 := HX3.out.free 0; have f1 := HX3.out.free 1; have f2 := HX3.out.free 2; have f3 := HX3.out.free 3; simp at z0 z1 z2 z3; have HB3 : Hid (Below w.heap.size w w3) := HB2.out.trans (hb3.mono HB2.out.size); clear hb3)
    obtain ⟨p0, p1, p2, p3⟩ := HX3.out.read4 (.int .i64 0) (.int .i64 0) (.bool false) (.bool false)
    refine bodyPost_ret (v := .tuple #[.agg #[.int .i64 0, .int .i64 0, .bool false, .bool false], .bool false]) (by simp [results, Tryz.results80, go_sem, p0, p1, p2, p3]) rfl ⟨rfl, bel_put4 HB3.out (Nat.le_refl _)⟩
  | some it =>
    obtain ⟨n, v, e, b⟩ := it
    rw [hO] at HB
    have HB' : Hid (∀ u, Calls Tryz.prog 88 #[.string s, .int .i64 ((p : Int) + 1), .int .i64 3, .int .i64 8] u fun e' w' => e' = .returned (.tuple #[.agg #[.int .i64 (v : Int), .int .i64 ((p : Int) + (n : Int)), .bool e, .bool b], .bool true]) ∧ Below u.heap.size u w') := HB
    clear HB hO
    obtain ⟨w2, e2, hw, hs2, B0⟩ := bx1 w #[.int .i64 0, .int .i64 0, .bool false, .bool false] 108
    have HE2 : Hid (w.alloc (.cells #[.int .i64 0, .int .i64 0, .bool false, .bool false] 108) = w2) := e2
    have HB2 : Hid (Below w.heap.size w w2) := hw
    have HX2 : Hid (Bx w2 w.heap.size #[.int .i64 0, .int .i64 0, .bool false, .bool false] 108) := B0
    clear e2 hw hs2 B0
    go_enter Tryz.func80, Tryz.ntmps80
    go_upto_region 1 with fail
    rw [HE2.out]
    go_wp2_with (go_at_call 88; (with_reducible refine (HB'.out _).mono ?_); rintro e w3 ⟨rfl, hb3⟩; have HX3 : Hid (Bx w3 w.heap.size #[.int .i64 0, .int .i64 0, .bool false, .bool false] 108) := HX2.out.below hb3 HX2.out.lt; have z0 := HX3.out.cell 0; have z1 := HX3.out.cell 1; have z2 := HX3.out.cell 2; have z3 := HX3.out.cell 3; have f0 := HX3.out.free 0; have f1 := HX3.out.free 1; have f2 := HX3.out.free 2; have f3 := HX3.out.free 3; simp at z0 z1 z2 z3; have HB3 : Hid (Below w.heap.size w w3) := HB2.out.trans (hb3.mono HB2.out.size); clear hb3)
    obtain ⟨p0, p1, p2, p3⟩ := HX3.out.read4 (.int .i64 (v : Int)) (.int .i64 ((p : Int) + (n : Int))) (.bool e) (.bool b)
    refine bodyPost_ret (v := .tuple #[.agg #[.int .i64 (v : Int), .int .i64 ((p : Int) + (n : Int)), .bool e, .bool b], .bool true]) (by simp [results, Tryz.results80, go_sem, p0, p1, p2, p3]) rfl ⟨rfl, bel_put4 HB3.out (Nat.le_refl _)⟩

set_option maxRecDepth 100000 in
set_option maxHeartbeats 2000000 in
theorem escapeAt_c53 (s : ByteArray) (p q : Nat) (hq : q = 34 ∨ q = 39) (hs : s.size ≤ 4294967280) (hp : p + 1 < s.size) (hc : (s[p + 1]'hp).toNat = 53) (w : World) :
    Calls Tryz.prog 80 #[.string s, .int .i64 ((p : Int) + 1), .int .u8 q] w fun e w' => e = .returned (.tuple #[itV p (esA s p q), .bool (esA s p q).isSome]) ∧ Below w.heap.size w w' := by
  have E : esA s p q = cod s (p + 1) 1 3 8 := by
    unfold esA; rw [if_neg (by omega), bt_in hp, hc]; rcases hq with rfl | rfl <;> rfl
  rw [E]
  clear E
  have HB : Hid (∀ v, Calls Tryz.prog 88 #[.string s, .int .i64 ((p : Int) + 1), .int .i64 3, .int .i64 8] v fun e w' => e = .returned (.tuple #[itV p (cod s (p + 1) 1 3 8), .bool (cod s (p + 1) 1 3 8).isSome]) ∧ Below v.heap.size v w') := fun v => by
    have h := byteAt_o s p hs (by omega) v
    rw [show ((p + 1 : Nat) : Int) = (p : Int) + 1 by omega] at h
    exact h
  have hp' : (p : Int) + 1 < (s.size : Int) := by omega
  cases hO : cod s (p + 1) 1 3 8 with
  | none =>
    rw [hO] at HB
    have HB' : Hid (∀ v, Calls Tryz.prog 88 #[.string s, .int .i64 ((p : Int) + 1), .int .i64 3, .int .i64 8] v fun e w' => e = .returned (.tuple #[.agg #[.int .i64 0, .int .i64 0, .bool false, .bool false], .bool false]) ∧ Below v.heap.size v w') := HB
    clear HB hO
    obtain ⟨w2, e2, hw, hs2, B0⟩ := bx1 w #[.int .i64 0, .int .i64 0, .bool false, .bool false] 108
    have HE2 : Hid (w.alloc (.cells #[.int .i64 0, .int .i64 0, .bool false, .bool false] 108) = w2) := e2
    have HB2 : Hid (Below w.heap.size w w2) := hw
    have HX2 : Hid (Bx w2 w.heap.size #[.int .i64 0, .int .i64 0, .bool false, .bool false] 108) := B0
    clear e2 hw hs2 B0
    go_enter Tryz.func80, Tryz.ntmps80
    go_upto_region 1 with fail
    rw [HE2.out]
    go_wp2_with (go_at_call 88; (with_reducible refine (HB'.out _).mono ?_); rintro e w3 ⟨rfl, hb3⟩; have HX3 : Hid (Bx w3 w.heap.size #[.int .i64 0, .int .i64 0, .bool false, .bool false] 108) := HX2.out.below hb3 HX2.out.lt; have z0 := HX3.out.cell 0; have z1 := HX3.out.cell 1; have z2 := HX3.out.cell 2; have z3 := HX3.out.cell 3; have f0 := HX3.out.free 0; have f1 := HX3.out.free 1; have f2 := HX3.out.free 2; have f3 := HX3.out.free 3; simp at z0 z1 z2 z3; have HB3 : Hid (Below w.heap.size w w3) := HB2.out.trans (hb3.mono HB2.out.size); clear hb3)
    obtain ⟨p0, p1, p2, p3⟩ := HX3.out.read4 (.int .i64 0) (.int .i64 0) (.bool false) (.bool false)
    refine bodyPost_ret (v := .tuple #[.agg #[.int .i64 0, .int .i64 0, .bool false, .bool false], .bool false]) (by simp [results, Tryz.results80, go_sem, p0, p1, p2, p3]) rfl ⟨rfl, bel_put4 HB3.out (Nat.le_refl _)⟩
  | some it =>
    obtain ⟨n, v, e, b⟩ := it
    rw [hO] at HB
    have HB' : Hid (∀ u, Calls Tryz.prog 88 #[.string s, .int .i64 ((p : Int) + 1), .int .i64 3, .int .i64 8] u fun e' w' => e' = .returned (.tuple #[.agg #[.int .i64 (v : Int), .int .i64 ((p : Int) + (n : Int)), .bool e, .bool b], .bool true]) ∧ Below u.heap.size u w') := HB
    clear HB hO
    obtain ⟨w2, e2, hw, hs2, B0⟩ := bx1 w #[.int .i64 0, .int .i64 0, .bool false, .bool false] 108
    have HE2 : Hid (w.alloc (.cells #[.int .i64 0, .int .i64 0, .bool false, .bool false] 108) = w2) := e2
    have HB2 : Hid (Below w.heap.size w w2) := hw
    have HX2 : Hid (Bx w2 w.heap.size #[.int .i64 0, .int .i64 0, .bool false, .bool false] 108) := B0
    clear e2 hw hs2 B0
    go_enter Tryz.func80, Tryz.ntmps80
    go_upto_region 1 with fail
    rw [HE2.out]
    go_wp2_with (go_at_call 88; (with_reducible refine (HB'.out _).mono ?_); rintro e w3 ⟨rfl, hb3⟩; have HX3 : Hid (Bx w3 w.heap.size #[.int .i64 0, .int .i64 0, .bool false, .bool false] 108) := HX2.out.below hb3 HX2.out.lt; have z0 := HX3.out.cell 0; have z1 := HX3.out.cell 1; have z2 := HX3.out.cell 2; have z3 := HX3.out.cell 3; have f0 := HX3.out.free 0; have f1 := HX3.out.free 1; have f2 := HX3.out.free 2; have f3 := HX3.out.free 3; simp at z0 z1 z2 z3; have HB3 : Hid (Below w.heap.size w w3) := HB2.out.trans (hb3.mono HB2.out.size); clear hb3)
    obtain ⟨p0, p1, p2, p3⟩ := HX3.out.read4 (.int .i64 (v : Int)) (.int .i64 ((p : Int) + (n : Int))) (.bool e) (.bool b)
    refine bodyPost_ret (v := .tuple #[.agg #[.int .i64 (v : Int), .int .i64 ((p : Int) + (n : Int)), .bool e, .bool b], .bool true]) (by simp [results, Tryz.results80, go_sem, p0, p1, p2, p3]) rfl ⟨rfl, bel_put4 HB3.out (Nat.le_refl _)⟩

set_option maxRecDepth 100000 in
set_option maxHeartbeats 2000000 in
theorem escapeAt_c54 (s : ByteArray) (p q : Nat) (hq : q = 34 ∨ q = 39) (hs : s.size ≤ 4294967280) (hp : p + 1 < s.size) (hc : (s[p + 1]'hp).toNat = 54) (w : World) :
    Calls Tryz.prog 80 #[.string s, .int .i64 ((p : Int) + 1), .int .u8 q] w fun e w' => e = .returned (.tuple #[itV p (esA s p q), .bool (esA s p q).isSome]) ∧ Below w.heap.size w w' := by
  have E : esA s p q = cod s (p + 1) 1 3 8 := by
    unfold esA; rw [if_neg (by omega), bt_in hp, hc]; rcases hq with rfl | rfl <;> rfl
  rw [E]
  clear E
  have HB : Hid (∀ v, Calls Tryz.prog 88 #[.string s, .int .i64 ((p : Int) + 1), .int .i64 3, .int .i64 8] v fun e w' => e = .returned (.tuple #[itV p (cod s (p + 1) 1 3 8), .bool (cod s (p + 1) 1 3 8).isSome]) ∧ Below v.heap.size v w') := fun v => by
    have h := byteAt_o s p hs (by omega) v
    rw [show ((p + 1 : Nat) : Int) = (p : Int) + 1 by omega] at h
    exact h
  have hp' : (p : Int) + 1 < (s.size : Int) := by omega
  cases hO : cod s (p + 1) 1 3 8 with
  | none =>
    rw [hO] at HB
    have HB' : Hid (∀ v, Calls Tryz.prog 88 #[.string s, .int .i64 ((p : Int) + 1), .int .i64 3, .int .i64 8] v fun e w' => e = .returned (.tuple #[.agg #[.int .i64 0, .int .i64 0, .bool false, .bool false], .bool false]) ∧ Below v.heap.size v w') := HB
    clear HB hO
    obtain ⟨w2, e2, hw, hs2, B0⟩ := bx1 w #[.int .i64 0, .int .i64 0, .bool false, .bool false] 108
    have HE2 : Hid (w.alloc (.cells #[.int .i64 0, .int .i64 0, .bool false, .bool false] 108) = w2) := e2
    have HB2 : Hid (Below w.heap.size w w2) := hw
    have HX2 : Hid (Bx w2 w.heap.size #[.int .i64 0, .int .i64 0, .bool false, .bool false] 108) := B0
    clear e2 hw hs2 B0
    go_enter Tryz.func80, Tryz.ntmps80
    go_upto_region 1 with fail
    rw [HE2.out]
    go_wp2_with (go_at_call 88; (with_reducible refine (HB'.out _).mono ?_); rintro e w3 ⟨rfl, hb3⟩; have HX3 : Hid (Bx w3 w.heap.size #[.int .i64 0, .int .i64 0, .bool false, .bool false] 108) := HX2.out.below hb3 HX2.out.lt; have z0 := HX3.out.cell 0; have z1 := HX3.out.cell 1; have z2 := HX3.out.cell 2; have z3 := HX3.out.cell 3; have f0 := HX3.out.free 0; have f1 := HX3.out.free 1; have f2 := HX3.out.free 2; have f3 := HX3.out.free 3; simp at z0 z1 z2 z3; have HB3 : Hid (Below w.heap.size w w3) := HB2.out.trans (hb3.mono HB2.out.size); clear hb3)
    obtain ⟨p0, p1, p2, p3⟩ := HX3.out.read4 (.int .i64 0) (.int .i64 0) (.bool false) (.bool false)
    refine bodyPost_ret (v := .tuple #[.agg #[.int .i64 0, .int .i64 0, .bool false, .bool false], .bool false]) (by simp [results, Tryz.results80, go_sem, p0, p1, p2, p3]) rfl ⟨rfl, bel_put4 HB3.out (Nat.le_refl _)⟩
  | some it =>
    obtain ⟨n, v, e, b⟩ := it
    rw [hO] at HB
    have HB' : Hid (∀ u, Calls Tryz.prog 88 #[.string s, .int .i64 ((p : Int) + 1), .int .i64 3, .int .i64 8] u fun e' w' => e' = .returned (.tuple #[.agg #[.int .i64 (v : Int), .int .i64 ((p : Int) + (n : Int)), .bool e, .bool b], .bool true]) ∧ Below u.heap.size u w') := HB
    clear HB hO
    obtain ⟨w2, e2, hw, hs2, B0⟩ := bx1 w #[.int .i64 0, .int .i64 0, .bool false, .bool false] 108
    have HE2 : Hid (w.alloc (.cells #[.int .i64 0, .int .i64 0, .bool false, .bool false] 108) = w2) := e2
    have HB2 : Hid (Below w.heap.size w w2) := hw
    have HX2 : Hid (Bx w2 w.heap.size #[.int .i64 0, .int .i64 0, .bool false, .bool false] 108) := B0
    clear e2 hw hs2 B0
    go_enter Tryz.func80, Tryz.ntmps80
    go_upto_region 1 with fail
    rw [HE2.out]
    go_wp2_with (go_at_call 88; (with_reducible refine (HB'.out _).mono ?_); rintro e w3 ⟨rfl, hb3⟩; have HX3 : Hid (Bx w3 w.heap.size #[.int .i64 0, .int .i64 0, .bool false, .bool false] 108) := HX2.out.below hb3 HX2.out.lt; have z0 := HX3.out.cell 0; have z1 := HX3.out.cell 1; have z2 := HX3.out.cell 2; have z3 := HX3.out.cell 3; have f0 := HX3.out.free 0; have f1 := HX3.out.free 1; have f2 := HX3.out.free 2; have f3 := HX3.out.free 3; simp at z0 z1 z2 z3; have HB3 : Hid (Below w.heap.size w w3) := HB2.out.trans (hb3.mono HB2.out.size); clear hb3)
    obtain ⟨p0, p1, p2, p3⟩ := HX3.out.read4 (.int .i64 (v : Int)) (.int .i64 ((p : Int) + (n : Int))) (.bool e) (.bool b)
    refine bodyPost_ret (v := .tuple #[.agg #[.int .i64 (v : Int), .int .i64 ((p : Int) + (n : Int)), .bool e, .bool b], .bool true]) (by simp [results, Tryz.results80, go_sem, p0, p1, p2, p3]) rfl ⟨rfl, bel_put4 HB3.out (Nat.le_refl _)⟩

set_option maxRecDepth 100000 in
set_option maxHeartbeats 2000000 in
theorem escapeAt_c55 (s : ByteArray) (p q : Nat) (hq : q = 34 ∨ q = 39) (hs : s.size ≤ 4294967280) (hp : p + 1 < s.size) (hc : (s[p + 1]'hp).toNat = 55) (w : World) :
    Calls Tryz.prog 80 #[.string s, .int .i64 ((p : Int) + 1), .int .u8 q] w fun e w' => e = .returned (.tuple #[itV p (esA s p q), .bool (esA s p q).isSome]) ∧ Below w.heap.size w w' := by
  have E : esA s p q = cod s (p + 1) 1 3 8 := by
    unfold esA; rw [if_neg (by omega), bt_in hp, hc]; rcases hq with rfl | rfl <;> rfl
  rw [E]
  clear E
  have HB : Hid (∀ v, Calls Tryz.prog 88 #[.string s, .int .i64 ((p : Int) + 1), .int .i64 3, .int .i64 8] v fun e w' => e = .returned (.tuple #[itV p (cod s (p + 1) 1 3 8), .bool (cod s (p + 1) 1 3 8).isSome]) ∧ Below v.heap.size v w') := fun v => by
    have h := byteAt_o s p hs (by omega) v
    rw [show ((p + 1 : Nat) : Int) = (p : Int) + 1 by omega] at h
    exact h
  have hp' : (p : Int) + 1 < (s.size : Int) := by omega
  cases hO : cod s (p + 1) 1 3 8 with
  | none =>
    rw [hO] at HB
    have HB' : Hid (∀ v, Calls Tryz.prog 88 #[.string s, .int .i64 ((p : Int) + 1), .int .i64 3, .int .i64 8] v fun e w' => e = .returned (.tuple #[.agg #[.int .i64 0, .int .i64 0, .bool false, .bool false], .bool false]) ∧ Below v.heap.size v w') := HB
    clear HB hO
    obtain ⟨w2, e2, hw, hs2, B0⟩ := bx1 w #[.int .i64 0, .int .i64 0, .bool false, .bool false] 108
    have HE2 : Hid (w.alloc (.cells #[.int .i64 0, .int .i64 0, .bool false, .bool false] 108) = w2) := e2
    have HB2 : Hid (Below w.heap.size w w2) := hw
    have HX2 : Hid (Bx w2 w.heap.size #[.int .i64 0, .int .i64 0, .bool false, .bool false] 108) := B0
    clear e2 hw hs2 B0
    go_enter Tryz.func80, Tryz.ntmps80
    go_upto_region 1 with fail
    rw [HE2.out]
    go_wp2_with (go_at_call 88; (with_reducible refine (HB'.out _).mono ?_); rintro e w3 ⟨rfl, hb3⟩; have HX3 : Hid (Bx w3 w.heap.size #[.int .i64 0, .int .i64 0, .bool false, .bool false] 108) := HX2.out.below hb3 HX2.out.lt; have z0 := HX3.out.cell 0; have z1 := HX3.out.cell 1; have z2 := HX3.out.cell 2; have z3 := HX3.out.cell 3; have f0 := HX3.out.free 0; have f1 := HX3.out.free 1; have f2 := HX3.out.free 2; have f3 := HX3.out.free 3; simp at z0 z1 z2 z3; have HB3 : Hid (Below w.heap.size w w3) := HB2.out.trans (hb3.mono HB2.out.size); clear hb3)
    obtain ⟨p0, p1, p2, p3⟩ := HX3.out.read4 (.int .i64 0) (.int .i64 0) (.bool false) (.bool false)
    refine bodyPost_ret (v := .tuple #[.agg #[.int .i64 0, .int .i64 0, .bool false, .bool false], .bool false]) (by simp [results, Tryz.results80, go_sem, p0, p1, p2, p3]) rfl ⟨rfl, bel_put4 HB3.out (Nat.le_refl _)⟩
  | some it =>
    obtain ⟨n, v, e, b⟩ := it
    rw [hO] at HB
    have HB' : Hid (∀ u, Calls Tryz.prog 88 #[.string s, .int .i64 ((p : Int) + 1), .int .i64 3, .int .i64 8] u fun e' w' => e' = .returned (.tuple #[.agg #[.int .i64 (v : Int), .int .i64 ((p : Int) + (n : Int)), .bool e, .bool b], .bool true]) ∧ Below u.heap.size u w') := HB
    clear HB hO
    obtain ⟨w2, e2, hw, hs2, B0⟩ := bx1 w #[.int .i64 0, .int .i64 0, .bool false, .bool false] 108
    have HE2 : Hid (w.alloc (.cells #[.int .i64 0, .int .i64 0, .bool false, .bool false] 108) = w2) := e2
    have HB2 : Hid (Below w.heap.size w w2) := hw
    have HX2 : Hid (Bx w2 w.heap.size #[.int .i64 0, .int .i64 0, .bool false, .bool false] 108) := B0
    clear e2 hw hs2 B0
    go_enter Tryz.func80, Tryz.ntmps80
    go_upto_region 1 with fail
    rw [HE2.out]
    go_wp2_with (go_at_call 88; (with_reducible refine (HB'.out _).mono ?_); rintro e w3 ⟨rfl, hb3⟩; have HX3 : Hid (Bx w3 w.heap.size #[.int .i64 0, .int .i64 0, .bool false, .bool false] 108) := HX2.out.below hb3 HX2.out.lt; have z0 := HX3.out.cell 0; have z1 := HX3.out.cell 1; have z2 := HX3.out.cell 2; have z3 := HX3.out.cell 3; have f0 := HX3.out.free 0; have f1 := HX3.out.free 1; have f2 := HX3.out.free 2; have f3 := HX3.out.free 3; simp at z0 z1 z2 z3; have HB3 : Hid (Below w.heap.size w w3) := HB2.out.trans (hb3.mono HB2.out.size); clear hb3)
    obtain ⟨p0, p1, p2, p3⟩ := HX3.out.read4 (.int .i64 (v : Int)) (.int .i64 ((p : Int) + (n : Int))) (.bool e) (.bool b)
    refine bodyPost_ret (v := .tuple #[.agg #[.int .i64 (v : Int), .int .i64 ((p : Int) + (n : Int)), .bool e, .bool b], .bool true]) (by simp [results, Tryz.results80, go_sem, p0, p1, p2, p3]) rfl ⟨rfl, bel_put4 HB3.out (Nat.le_refl _)⟩

set_option maxRecDepth 100000 in
set_option maxHeartbeats 2000000 in
theorem escapeAt_c92 (s : ByteArray) (p q : Nat) (hq : q = 34 ∨ q = 39) (hs : s.size ≤ 4294967280) (hp : p + 1 < s.size) (hc : (s[p + 1]'hp).toNat = 92) (w : World) :
    Calls Tryz.prog 80 #[.string s, .int .i64 ((p : Int) + 1), .int .u8 q] w fun e w' => e = .returned (.tuple #[itV p (esA s p q), .bool (esA s p q).isSome]) ∧ Below w.heap.size w w' := by
  have E : esA s p q = some ⟨2, 92, false, false⟩ := by
    unfold esA; rw [if_neg (by omega), bt_in hp, hc]; rcases hq with rfl | rfl <;> rfl
  rw [E]
  clear E
  have hp' : (p : Int) + 1 < (s.size : Int) := by omega
  go_enter Tryz.func80, Tryz.ntmps80
  go_wp2
  refine bodyPost_ret (v := .tuple #[.agg #[.int .i64 92, .int .i64 ((p : Int) + 1 + 1), .bool false, .bool false], .bool true]) (by simp [results, Tryz.results80, go_sem]) rfl ⟨by simp [itV]; omega, by go_grown⟩

set_option maxRecDepth 100000 in
set_option maxHeartbeats 2000000 in
theorem escapeAt_c34 (s : ByteArray) (p : Nat) (hs : s.size ≤ 4294967280) (hp : p + 1 < s.size) (hc : (s[p + 1]'hp).toNat = 34) (w : World) :
    Calls Tryz.prog 80 #[.string s, .int .i64 ((p : Int) + 1), .int .u8 34] w fun e w' => e = .returned (.tuple #[itV p (esA s p 34), .bool (esA s p 34).isSome]) ∧ Below w.heap.size w w' := by
  have E : esA s p 34 = some ⟨2, 34, false, false⟩ := by
    unfold esA; rw [if_neg (by omega), bt_in hp, hc]; rfl
  rw [E]
  clear E
  have hp' : (p : Int) + 1 < (s.size : Int) := by omega
  go_enter Tryz.func80, Tryz.ntmps80
  go_wp2
  refine bodyPost_ret (v := .tuple #[.agg #[.int .i64 34, .int .i64 ((p : Int) + 1 + 1), .bool false, .bool false], .bool true]) (by simp [results, Tryz.results80, go_sem]) rfl ⟨by simp [itV]; omega, by go_grown⟩

set_option maxRecDepth 100000 in
set_option maxHeartbeats 2000000 in
theorem escapeAt_c39 (s : ByteArray) (p : Nat) (hs : s.size ≤ 4294967280) (hp : p + 1 < s.size) (hc : (s[p + 1]'hp).toNat = 39) (w : World) :
    Calls Tryz.prog 80 #[.string s, .int .i64 ((p : Int) + 1), .int .u8 39] w fun e w' => e = .returned (.tuple #[itV p (esA s p 39), .bool (esA s p 39).isSome]) ∧ Below w.heap.size w w' := by
  have E : esA s p 39 = some ⟨2, 39, false, false⟩ := by
    unfold esA; rw [if_neg (by omega), bt_in hp, hc]; rfl
  rw [E]
  clear E
  have hp' : (p : Int) + 1 < (s.size : Int) := by omega
  go_enter Tryz.func80, Tryz.ntmps80
  go_wp2
  refine bodyPost_ret (v := .tuple #[.agg #[.int .i64 39, .int .i64 ((p : Int) + 1 + 1), .bool false, .bool false], .bool true]) (by simp [results, Tryz.results80, go_sem]) rfl ⟨by simp [itV]; omega, by go_grown⟩

set_option maxRecDepth 100000 in
set_option maxHeartbeats 2000000 in
theorem escapeAt_c97 (s : ByteArray) (p q : Nat) (hq : q = 34 ∨ q = 39) (hs : s.size ≤ 4294967280) (hp : p + 1 < s.size) (hc : (s[p + 1]'hp).toNat = 97) (w : World) :
    Calls Tryz.prog 80 #[.string s, .int .i64 ((p : Int) + 1), .int .u8 q] w fun e w' => e = .returned (.tuple #[itV p (esA s p q), .bool (esA s p q).isSome]) ∧ Below w.heap.size w w' := by
  have E : esA s p q = some ⟨2, 7, false, false⟩ := by
    unfold esA; rw [if_neg (by omega), bt_in hp, hc]; rcases hq with rfl | rfl <;> rfl
  rw [E]
  clear E
  have hp' : (p : Int) + 1 < (s.size : Int) := by omega
  have HI : Hid (∀ u, Calls Tryz.prog 50 #[.string ⟨#[97, 98, 102, 110, 114, 116, 118]⟩, .int .u8 97] u fun e w' => e = .returned (.int .i64 0) ∧ w' = u) := fun u => Tryz.strings_IndexByte ⟨#[97, 98, 102, 110, 114, 116, 118]⟩ 97 u
  have hq1 : ((97 : Int) == (q : Int)) = false := by rcases hq with rfl | rfl <;> rfl
  go_enter Tryz.func80, Tryz.ntmps80
  go_wp2_with (go_at_call 50; (with_reducible refine (HI.out _).mono ?_); rintro e w4 ⟨rfl, hw4⟩; subst hw4)
  refine bodyPost_ret (v := .tuple #[.agg #[.int .i64 7, .int .i64 ((p : Int) + 1 + 1), .bool false, .bool false], .bool true]) (by simp [results, Tryz.results80, go_sem]; first | decide | kernel_rfl) rfl ⟨by simp [itV]; omega, by go_grown⟩

set_option maxRecDepth 100000 in
set_option maxHeartbeats 2000000 in
theorem escapeAt_c98 (s : ByteArray) (p q : Nat) (hq : q = 34 ∨ q = 39) (hs : s.size ≤ 4294967280) (hp : p + 1 < s.size) (hc : (s[p + 1]'hp).toNat = 98) (w : World) :
    Calls Tryz.prog 80 #[.string s, .int .i64 ((p : Int) + 1), .int .u8 q] w fun e w' => e = .returned (.tuple #[itV p (esA s p q), .bool (esA s p q).isSome]) ∧ Below w.heap.size w w' := by
  have E : esA s p q = some ⟨2, 8, false, false⟩ := by
    unfold esA; rw [if_neg (by omega), bt_in hp, hc]; rcases hq with rfl | rfl <;> rfl
  rw [E]
  clear E
  have hp' : (p : Int) + 1 < (s.size : Int) := by omega
  have HI : Hid (∀ u, Calls Tryz.prog 50 #[.string ⟨#[97, 98, 102, 110, 114, 116, 118]⟩, .int .u8 98] u fun e w' => e = .returned (.int .i64 1) ∧ w' = u) := fun u => Tryz.strings_IndexByte ⟨#[97, 98, 102, 110, 114, 116, 118]⟩ 98 u
  have hq1 : ((98 : Int) == (q : Int)) = false := by rcases hq with rfl | rfl <;> rfl
  go_enter Tryz.func80, Tryz.ntmps80
  go_wp2_with (go_at_call 50; (with_reducible refine (HI.out _).mono ?_); rintro e w4 ⟨rfl, hw4⟩; subst hw4)
  refine bodyPost_ret (v := .tuple #[.agg #[.int .i64 8, .int .i64 ((p : Int) + 1 + 1), .bool false, .bool false], .bool true]) (by simp [results, Tryz.results80, go_sem]; first | decide | kernel_rfl) rfl ⟨by simp [itV]; omega, by go_grown⟩

set_option maxRecDepth 100000 in
set_option maxHeartbeats 2000000 in
theorem escapeAt_c102 (s : ByteArray) (p q : Nat) (hq : q = 34 ∨ q = 39) (hs : s.size ≤ 4294967280) (hp : p + 1 < s.size) (hc : (s[p + 1]'hp).toNat = 102) (w : World) :
    Calls Tryz.prog 80 #[.string s, .int .i64 ((p : Int) + 1), .int .u8 q] w fun e w' => e = .returned (.tuple #[itV p (esA s p q), .bool (esA s p q).isSome]) ∧ Below w.heap.size w w' := by
  have E : esA s p q = some ⟨2, 12, false, false⟩ := by
    unfold esA; rw [if_neg (by omega), bt_in hp, hc]; rcases hq with rfl | rfl <;> rfl
  rw [E]
  clear E
  have hp' : (p : Int) + 1 < (s.size : Int) := by omega
  have HI : Hid (∀ u, Calls Tryz.prog 50 #[.string ⟨#[97, 98, 102, 110, 114, 116, 118]⟩, .int .u8 102] u fun e w' => e = .returned (.int .i64 2) ∧ w' = u) := fun u => Tryz.strings_IndexByte ⟨#[97, 98, 102, 110, 114, 116, 118]⟩ 102 u
  have hq1 : ((102 : Int) == (q : Int)) = false := by rcases hq with rfl | rfl <;> rfl
  go_enter Tryz.func80, Tryz.ntmps80
  go_wp2_with (go_at_call 50; (with_reducible refine (HI.out _).mono ?_); rintro e w4 ⟨rfl, hw4⟩; subst hw4)
  refine bodyPost_ret (v := .tuple #[.agg #[.int .i64 12, .int .i64 ((p : Int) + 1 + 1), .bool false, .bool false], .bool true]) (by simp [results, Tryz.results80, go_sem]; first | decide | kernel_rfl) rfl ⟨by simp [itV]; omega, by go_grown⟩

set_option maxRecDepth 100000 in
set_option maxHeartbeats 2000000 in
theorem escapeAt_c110 (s : ByteArray) (p q : Nat) (hq : q = 34 ∨ q = 39) (hs : s.size ≤ 4294967280) (hp : p + 1 < s.size) (hc : (s[p + 1]'hp).toNat = 110) (w : World) :
    Calls Tryz.prog 80 #[.string s, .int .i64 ((p : Int) + 1), .int .u8 q] w fun e w' => e = .returned (.tuple #[itV p (esA s p q), .bool (esA s p q).isSome]) ∧ Below w.heap.size w w' := by
  have E : esA s p q = some ⟨2, 10, false, false⟩ := by
    unfold esA; rw [if_neg (by omega), bt_in hp, hc]; rcases hq with rfl | rfl <;> rfl
  rw [E]
  clear E
  have hp' : (p : Int) + 1 < (s.size : Int) := by omega
  have HI : Hid (∀ u, Calls Tryz.prog 50 #[.string ⟨#[97, 98, 102, 110, 114, 116, 118]⟩, .int .u8 110] u fun e w' => e = .returned (.int .i64 3) ∧ w' = u) := fun u => Tryz.strings_IndexByte ⟨#[97, 98, 102, 110, 114, 116, 118]⟩ 110 u
  have hq1 : ((110 : Int) == (q : Int)) = false := by rcases hq with rfl | rfl <;> rfl
  go_enter Tryz.func80, Tryz.ntmps80
  go_wp2_with (go_at_call 50; (with_reducible refine (HI.out _).mono ?_); rintro e w4 ⟨rfl, hw4⟩; subst hw4)
  refine bodyPost_ret (v := .tuple #[.agg #[.int .i64 10, .int .i64 ((p : Int) + 1 + 1), .bool false, .bool false], .bool true]) (by simp [results, Tryz.results80, go_sem]; first | decide | kernel_rfl) rfl ⟨by simp [itV]; omega, by go_grown⟩

set_option maxRecDepth 100000 in
set_option maxHeartbeats 2000000 in
theorem escapeAt_c114 (s : ByteArray) (p q : Nat) (hq : q = 34 ∨ q = 39) (hs : s.size ≤ 4294967280) (hp : p + 1 < s.size) (hc : (s[p + 1]'hp).toNat = 114) (w : World) :
    Calls Tryz.prog 80 #[.string s, .int .i64 ((p : Int) + 1), .int .u8 q] w fun e w' => e = .returned (.tuple #[itV p (esA s p q), .bool (esA s p q).isSome]) ∧ Below w.heap.size w w' := by
  have E : esA s p q = some ⟨2, 13, false, false⟩ := by
    unfold esA; rw [if_neg (by omega), bt_in hp, hc]; rcases hq with rfl | rfl <;> rfl
  rw [E]
  clear E
  have hp' : (p : Int) + 1 < (s.size : Int) := by omega
  have HI : Hid (∀ u, Calls Tryz.prog 50 #[.string ⟨#[97, 98, 102, 110, 114, 116, 118]⟩, .int .u8 114] u fun e w' => e = .returned (.int .i64 4) ∧ w' = u) := fun u => Tryz.strings_IndexByte ⟨#[97, 98, 102, 110, 114, 116, 118]⟩ 114 u
  have hq1 : ((114 : Int) == (q : Int)) = false := by rcases hq with rfl | rfl <;> rfl
  go_enter Tryz.func80, Tryz.ntmps80
  go_wp2_with (go_at_call 50; (with_reducible refine (HI.out _).mono ?_); rintro e w4 ⟨rfl, hw4⟩; subst hw4)
  refine bodyPost_ret (v := .tuple #[.agg #[.int .i64 13, .int .i64 ((p : Int) + 1 + 1), .bool false, .bool false], .bool true]) (by simp [results, Tryz.results80, go_sem]; first | decide | kernel_rfl) rfl ⟨by simp [itV]; omega, by go_grown⟩

set_option maxRecDepth 100000 in
set_option maxHeartbeats 2000000 in
theorem escapeAt_c116 (s : ByteArray) (p q : Nat) (hq : q = 34 ∨ q = 39) (hs : s.size ≤ 4294967280) (hp : p + 1 < s.size) (hc : (s[p + 1]'hp).toNat = 116) (w : World) :
    Calls Tryz.prog 80 #[.string s, .int .i64 ((p : Int) + 1), .int .u8 q] w fun e w' => e = .returned (.tuple #[itV p (esA s p q), .bool (esA s p q).isSome]) ∧ Below w.heap.size w w' := by
  have E : esA s p q = some ⟨2, 9, false, false⟩ := by
    unfold esA; rw [if_neg (by omega), bt_in hp, hc]; rcases hq with rfl | rfl <;> rfl
  rw [E]
  clear E
  have hp' : (p : Int) + 1 < (s.size : Int) := by omega
  have HI : Hid (∀ u, Calls Tryz.prog 50 #[.string ⟨#[97, 98, 102, 110, 114, 116, 118]⟩, .int .u8 116] u fun e w' => e = .returned (.int .i64 5) ∧ w' = u) := fun u => Tryz.strings_IndexByte ⟨#[97, 98, 102, 110, 114, 116, 118]⟩ 116 u
  have hq1 : ((116 : Int) == (q : Int)) = false := by rcases hq with rfl | rfl <;> rfl
  go_enter Tryz.func80, Tryz.ntmps80
  go_wp2_with (go_at_call 50; (with_reducible refine (HI.out _).mono ?_); rintro e w4 ⟨rfl, hw4⟩; subst hw4)
  refine bodyPost_ret (v := .tuple #[.agg #[.int .i64 9, .int .i64 ((p : Int) + 1 + 1), .bool false, .bool false], .bool true]) (by simp [results, Tryz.results80, go_sem]; first | decide | kernel_rfl) rfl ⟨by simp [itV]; omega, by go_grown⟩

set_option maxRecDepth 100000 in
set_option maxHeartbeats 2000000 in
theorem escapeAt_c118 (s : ByteArray) (p q : Nat) (hq : q = 34 ∨ q = 39) (hs : s.size ≤ 4294967280) (hp : p + 1 < s.size) (hc : (s[p + 1]'hp).toNat = 118) (w : World) :
    Calls Tryz.prog 80 #[.string s, .int .i64 ((p : Int) + 1), .int .u8 q] w fun e w' => e = .returned (.tuple #[itV p (esA s p q), .bool (esA s p q).isSome]) ∧ Below w.heap.size w w' := by
  have E : esA s p q = some ⟨2, 11, false, false⟩ := by
    unfold esA; rw [if_neg (by omega), bt_in hp, hc]; rcases hq with rfl | rfl <;> rfl
  rw [E]
  clear E
  have hp' : (p : Int) + 1 < (s.size : Int) := by omega
  have HI : Hid (∀ u, Calls Tryz.prog 50 #[.string ⟨#[97, 98, 102, 110, 114, 116, 118]⟩, .int .u8 118] u fun e w' => e = .returned (.int .i64 6) ∧ w' = u) := fun u => Tryz.strings_IndexByte ⟨#[97, 98, 102, 110, 114, 116, 118]⟩ 118 u
  have hq1 : ((118 : Int) == (q : Int)) = false := by rcases hq with rfl | rfl <;> rfl
  go_enter Tryz.func80, Tryz.ntmps80
  go_wp2_with (go_at_call 50; (with_reducible refine (HI.out _).mono ?_); rintro e w4 ⟨rfl, hw4⟩; subst hw4)
  refine bodyPost_ret (v := .tuple #[.agg #[.int .i64 11, .int .i64 ((p : Int) + 1 + 1), .bool false, .bool false], .bool true]) (by simp [results, Tryz.results80, go_sem]; first | decide | kernel_rfl) rfl ⟨by simp [itV]; omega, by go_grown⟩

set_option maxRecDepth 100000 in
set_option maxHeartbeats 2000000 in
theorem escapeAt_no (s : ByteArray) (p q : Nat) (hq : q = 34 ∨ q = 39) (hs : s.size ≤ 4294967280) (hp : p + 1 < s.size) (n : Nat) (hc : (s[p + 1]'hp).toNat = n) (hne : n ≠ 120 ∧ n ≠ 117 ∧ n ≠ 85 ∧ n ≠ 48 ∧ n ≠ 49 ∧ n ≠ 50 ∧ n ≠ 51 ∧ n ≠ 52 ∧ n ≠ 53 ∧ n ≠ 54 ∧ n ≠ 55 ∧ n ≠ 92 ∧ n ≠ 97 ∧ n ≠ 98 ∧ n ≠ 102 ∧ n ≠ 110 ∧ n ≠ 114 ∧ n ≠ 116 ∧ n ≠ 118 ∧ n ≠ q) (w : World) :
    Calls Tryz.prog 80 #[.string s, .int .i64 ((p : Int) + 1), .int .u8 q] w fun e w' => e = .returned (.tuple #[itV p (esA s p q), .bool (esA s p q).isSome]) ∧ Below w.heap.size w w' := by
  have hn : n < 256 := by rw [← hc]; exact (s[p + 1]'hp).toNat_lt
  have E : esA s p q = none := by
    unfold esA esc; rw [if_neg (by omega), bt_in hp, hc]
    repeat (rw [if_neg (by omega)])
  rw [E]
  clear E
  have hp' : (p : Int) + 1 < (s.size : Int) := by omega
  have t120 : ((n : Int) == 120) = false := by simp; omega
  have t117 : ((n : Int) == 117) = false := by simp; omega
  have t85 : ((n : Int) == 85) = false := by simp; omega
  have t48 : ((n : Int) == 48) = false := by simp; omega
  have t49 : ((n : Int) == 49) = false := by simp; omega
  have t50 : ((n : Int) == 50) = false := by simp; omega
  have t51 : ((n : Int) == 51) = false := by simp; omega
  have t52 : ((n : Int) == 52) = false := by simp; omega
  have t53 : ((n : Int) == 53) = false := by simp; omega
  have t54 : ((n : Int) == 54) = false := by simp; omega
  have t55 : ((n : Int) == 55) = false := by simp; omega
  have t92 : ((n : Int) == 92) = false := by simp; omega
  have tq : ((n : Int) == (q : Int)) = false := by simp; omega
  have HI : Hid (∀ u, Calls Tryz.prog 50 #[.string ⟨#[97, 98, 102, 110, 114, 116, 118]⟩, .int .u8 (n : Int)] u fun e w' => e = .returned (.int .i64 (-1)) ∧ w' = u) := fun u => by
    have h := Tryz.strings_IndexByte ⟨#[97, 98, 102, 110, 114, 116, 118]⟩ (n : Int) u
    have e : Lib.indexByte (⟨#[97, 98, 102, 110, 114, 116, 118]⟩ : ByteArray).data.toList (n : Int).toNat.toUInt8 = -1 := idx_none n hn (by omega) (by omega) (by omega) (by omega) (by omega) (by omega) (by omega)
    rw [e] at h
    exact h
  clear hne
  go_enter Tryz.func80, Tryz.ntmps80
  go_wp2_with (go_at_call 50; (with_reducible refine (HI.out _).mono ?_); rintro e w4 ⟨rfl, hw4⟩; subst hw4)
  refine bodyPost_ret (v := .tuple #[.agg #[.int .i64 0, .int .i64 0, .bool false, .bool false], .bool false]) (by simp [results, Tryz.results80, go_sem]) rfl ⟨rfl, by go_grown⟩

theorem escapeAt_any (s : ByteArray) (p q : Nat) (hq : q = 34 ∨ q = 39) (hs : s.size ≤ 4294967280) (hp : p + 1 ≤ s.size) (w : World) :
    Calls Tryz.prog 80 #[.string s, .int .i64 ((p : Int) + 1), .int .u8 q] w fun e w' => e = .returned (.tuple #[itV p (esA s p q), .bool (esA s p q).isSome]) ∧ Below w.heap.size w w' := by
  by_cases he : s.size = p + 1
  · exact escapeAt_end s p q hq hs he w
  have hp1 : p + 1 < s.size := by omega
  obtain ⟨n, hn⟩ : ∃ n, (s[p + 1]'hp1).toNat = n := ⟨_, rfl⟩
  by_cases h120 : n = 120
  · exact escapeAt_c120 s p q hq hs hp1 (hn.trans h120) w
  by_cases h117 : n = 117
  · exact escapeAt_c117 s p q hq hs hp1 (hn.trans h117) w
  by_cases h85 : n = 85
  · exact escapeAt_c85 s p q hq hs hp1 (hn.trans h85) w
  by_cases h48 : n = 48
  · exact escapeAt_c48 s p q hq hs hp1 (hn.trans h48) w
  by_cases h49 : n = 49
  · exact escapeAt_c49 s p q hq hs hp1 (hn.trans h49) w
  by_cases h50 : n = 50
  · exact escapeAt_c50 s p q hq hs hp1 (hn.trans h50) w
  by_cases h51 : n = 51
  · exact escapeAt_c51 s p q hq hs hp1 (hn.trans h51) w
  by_cases h52 : n = 52
  · exact escapeAt_c52 s p q hq hs hp1 (hn.trans h52) w
  by_cases h53 : n = 53
  · exact escapeAt_c53 s p q hq hs hp1 (hn.trans h53) w
  by_cases h54 : n = 54
  · exact escapeAt_c54 s p q hq hs hp1 (hn.trans h54) w
  by_cases h55 : n = 55
  · exact escapeAt_c55 s p q hq hs hp1 (hn.trans h55) w
  by_cases h92 : n = 92
  · exact escapeAt_c92 s p q hq hs hp1 (hn.trans h92) w
  by_cases h97 : n = 97
  · exact escapeAt_c97 s p q hq hs hp1 (hn.trans h97) w
  by_cases h98 : n = 98
  · exact escapeAt_c98 s p q hq hs hp1 (hn.trans h98) w
  by_cases h102 : n = 102
  · exact escapeAt_c102 s p q hq hs hp1 (hn.trans h102) w
  by_cases h110 : n = 110
  · exact escapeAt_c110 s p q hq hs hp1 (hn.trans h110) w
  by_cases h114 : n = 114
  · exact escapeAt_c114 s p q hq hs hp1 (hn.trans h114) w
  by_cases h116 : n = 116
  · exact escapeAt_c116 s p q hq hs hp1 (hn.trans h116) w
  by_cases h118 : n = 118
  · exact escapeAt_c118 s p q hq hs hp1 (hn.trans h118) w
  by_cases hnq : n = q
  · rcases hq with rfl | rfl
    · exact escapeAt_c34 s p hs hp1 (hn.trans hnq) w
    · exact escapeAt_c39 s p hs hp1 (hn.trans hnq) w
  exact escapeAt_no s p q hq hs hp1 n hn ⟨h120, h117, h85, h48, h49, h50, h51, h52, h53, h54, h55, h92, h97, h98, h102, h110, h114, h116, h118, hnq⟩ w
end Go.Proofs.YtmnbakalcpanlaaGreatDoor
