import Derived.Test.YtmnbakalcpanlaaGreatDoorLy2
namespace Go.Proofs.YtmnbakalcpanlaaGreatDoor
open Go.ChangeShapes Go.WideShapes Go.ChangeAt Go.RowKit
set_option linter.unusedVariables false
set_option linter.unusedSimpArgs false

/-- the item at a place, if there is one -/
def ita (s : ByteArray) (k q : Nat) : Option Itm := if s.size ≤ k ∨ bt s k = 10 ∨ bt s k = q then none else itm s k q
/-- the tables of runes stand -/
def U8 (w : World) : Prop := (2 < w.heap.size ∧ 3 < w.heap.size) ∧ Lib.Utf8Tabs 2 3 w
theorem U8.below {w w' : World} (h : U8 w) (hb : Below w.heap.size w w') : U8 w' := ⟨⟨Nat.lt_of_lt_of_le h.1.1 hb.size, Nat.lt_of_lt_of_le h.1.2 hb.size⟩, tabs_below h.2 hb h.1.1 h.1.2⟩
theorem dN_lt (n b0 b1 b2 b3 : Nat) (h0 : b0 < 256) : (Lib.decodeN n b0 b1 b2 b3).1 < 1114112 := by
  unfold Lib.decodeN
  repeat' split
  all_goals (simp only; omega)
theorem rn_lt (s : ByteArray) (k : Nat) : rn s k < 1114112 := by
  unfold rn Lib.decodeGo
  split
  · decide
  · rw [Lib.decode_at]; exact dN_lt _ _ _ _ _ (UInt8.toNat_lt _)
theorem decode_call (s : ByteArray) (k : Nat) (w : World) (hT : U8 w) : Calls Tryz.prog 52 #[.string (s.extract k s.size)] w fun e w' => e = .returned (.tuple #[.int .i32 (rn s k : Nat), .int .i64 (wd s k : Nat)]) ∧ Below w.heap.size w w' := Tryz.utf8_DecodeRuneInString (s.extract k s.size) w hT.2

set_option maxRecDepth 100000 in
set_option maxHeartbeats 2000000 in
theorem itemAt_out (s : ByteArray) (k q : Nat) (hs : s.size ≤ 4294967280) (hk : s.size ≤ k) (hk2 : k ≤ 4611686018427387904) (w : World) :
    Calls Tryz.prog 70 #[.string s, .int .i64 (k : Int), .int .u8 q] w fun e w' => e = .returned (.tuple #[itV k none, .bool false]) ∧ Below w.heap.size w w' := by
  have hk' : (s.size : Int) ≤ (k : Int) := by omega
  go_enter Tryz.func70, Tryz.ntmps70
  go_wp2
  refine bodyPost_ret (v := .tuple #[.agg #[.int .i64 0, .int .i64 0, .bool false, .bool false], .bool false]) (by simp [results, Tryz.results70, go_sem]) rfl ⟨rfl, by go_grown⟩
set_option maxRecDepth 100000 in
set_option maxHeartbeats 2000000 in
theorem itemAt_line (s : ByteArray) (k q : Nat) (hs : s.size ≤ 4294967280) (hk : k < s.size) (hc : (s[k]'hk).toNat = 10) (w : World) :
    Calls Tryz.prog 70 #[.string s, .int .i64 (k : Int), .int .u8 q] w fun e w' => e = .returned (.tuple #[itV k none, .bool false]) ∧ Below w.heap.size w w' := by
  have hk' : ¬ (s.size : Int) ≤ (k : Int) := by omega
  have hk2 : (k : Int) < (s.size : Int) := by omega
  go_enter Tryz.func70, Tryz.ntmps70
  go_wp2
  refine bodyPost_ret (v := .tuple #[.agg #[.int .i64 0, .int .i64 0, .bool false, .bool false], .bool false]) (by simp [results, Tryz.results70, go_sem]) rfl ⟨rfl, by go_grown⟩
set_option maxRecDepth 100000 in
set_option maxHeartbeats 2000000 in
theorem itemAt_quote (s : ByteArray) (k q : Nat) (hs : s.size ≤ 4294967280) (hk : k < s.size) (hq : q = 34 ∨ q = 39) (hc : (s[k]'hk).toNat = q) (w : World) :
    Calls Tryz.prog 70 #[.string s, .int .i64 (k : Int), .int .u8 q] w fun e w' => e = .returned (.tuple #[itV k none, .bool false]) ∧ Below w.heap.size w w' := by
  have hk' : ¬ (s.size : Int) ≤ (k : Int) := by omega
  have hk2 : (k : Int) < (s.size : Int) := by omega
  have h10 : ((q : Int) == 10) = false := by rcases hq with rfl | rfl <;> rfl
  have hqq : ((q : Int) == (q : Int)) = true := by simp
  go_enter Tryz.func70, Tryz.ntmps70
  go_wp2
  refine bodyPost_ret (v := .tuple #[.agg #[.int .i64 0, .int .i64 0, .bool false, .bool false], .bool false]) (by simp [results, Tryz.results70, go_sem]) rfl ⟨rfl, by go_grown⟩
set_option maxRecDepth 100000 in
set_option maxHeartbeats 2000000 in
theorem itemAt_rune (s : ByteArray) (k q n : Nat) (hs : s.size ≤ 4294967280) (hk : k < s.size) (hc : (s[k]'hk).toNat = n) (h1 : n ≠ 10) (h2 : n ≠ q) (h3 : n ≠ 92) (w : World) (hT : U8 w) :
    Calls Tryz.prog 70 #[.string s, .int .i64 (k : Int), .int .u8 q] w fun e w' => e = .returned (.tuple #[itV k (itm s k q), .bool true]) ∧ Below w.heap.size w w' := by
  have E : itm s k q = some ⟨wd s k, rn s k, false, decide (rn s k = 65533 ∧ wd s k = 1)⟩ := itm_else (by rw [bt_in hk, hc]; exact h3)
  rw [E]
  clear E
  have hk' : ¬ (s.size : Int) ≤ (k : Int) := by omega
  have hk2 : (k : Int) < (s.size : Int) := by omega
  have h10 : ((n : Int) == 10) = false := by simp; omega
  have hqq : ((n : Int) == (q : Int)) = false := by simp; omega
  have h92 : ((n : Int) == 92) = false := by simp; omega
  obtain ⟨f1, f2, -, -⟩ := dec_facts s k hk
  have hrn : rn s k < 1114112 := rn_lt s k
  obtain ⟨w2, e2, hw, hs2, B0⟩ := bx1 w #[.int .i64 0, .int .i64 0, .bool false, .bool false] 108
  have HE2 : Hid (w.alloc (.cells #[.int .i64 0, .int .i64 0, .bool false, .bool false] 108) = w2) := e2
  have HB2 : Hid (Below w.heap.size w w2) := hw
  have HX2 : Hid (Bx w2 w.heap.size #[.int .i64 0, .int .i64 0, .bool false, .bool false] 108) := B0
  have HD : Hid (Calls Tryz.prog 52 #[.string (s.extract k s.size)] w2 fun e w' => e = .returned (.tuple #[.int .i32 (rn s k : Nat), .int .i64 (wd s k : Nat)]) ∧ Below w2.heap.size w2 w') := decode_call s k w2 (hT.below hw)
  obtain ⟨R, hR⟩ : ∃ R, rn s k = R := ⟨_, rfl⟩
  obtain ⟨D, hD⟩ : ∃ D, wd s k = D := ⟨_, rfl⟩
  rw [hR, hD] at HD ⊢
  rw [hR] at hrn
  rw [hD] at f1 f2
  clear e2 hw hs2 B0 hT hR hD
  have HC : Hid ((R = 65533 ∧ D = 1) ∨ (R = 65533 ∧ D ≠ 1) ∨ R ≠ 65533) := by unfold Hid; omega
  rcases HC.out with ⟨rfl, rfl⟩ | ⟨rfl, hd⟩ | hr
  · clear HC
    go_enter Tryz.func70, Tryz.ntmps70
    go_upto_region 1 with fail
    rw [HE2.out]
    go_wp2_with (go_at_call 52; (with_reducible refine HD.out.mono ?_); rintro e w3 ⟨rfl, hb3⟩; have HX3 : Hid (Bx w3 w.heap.size #[.int .i64 0, .int .i64 0, .bool false, .bool false] 108) := HX2.out.below hb3 HX2.out.lt; have z0 := HX3.out.cell 0; have z1 := HX3.out.cell 1; have z2 := HX3.out.cell 2; have z3 := HX3.out.cell 3; have f0 := HX3.out.free 0; have f1 := HX3.out.free 1; have f2 := HX3.out.free 2; have f3 := HX3.out.free 3; simp at z0 z1 z2 z3; have HB3 : Hid (Below w.heap.size w w3) := HB2.out.trans (hb3.mono HB2.out.size); clear hb3)
    obtain ⟨p0, p1, p2, p3⟩ := HX3.out.read4 (.int .i64 65533) (.int .i64 ((k : Int) + 1)) (.bool false) (.bool true)
    refine bodyPost_ret (v := .tuple #[.agg #[.int .i64 65533, .int .i64 ((k : Int) + 1), .bool false, .bool true], .bool true]) (by simp [results, Tryz.results70, go_sem, p0, p1, p2, p3]) rfl ⟨by simp [itV], bel_put4 HB3.out (Nat.le_refl _)⟩
  · clear HC
    have hd1 : ((D : Int) == 1) = false := by simp; omega
    go_enter Tryz.func70, Tryz.ntmps70
    go_upto_region 1 with fail
    rw [HE2.out]
    go_wp2_with (go_at_call 52; (with_reducible refine HD.out.mono ?_); rintro e w3 ⟨rfl, hb3⟩; have HX3 : Hid (Bx w3 w.heap.size #[.int .i64 0, .int .i64 0, .bool false, .bool false] 108) := HX2.out.below hb3 HX2.out.lt; have z0 := HX3.out.cell 0; have z1 := HX3.out.cell 1; have z2 := HX3.out.cell 2; have z3 := HX3.out.cell 3; have f0 := HX3.out.free 0; have f1 := HX3.out.free 1; have f2 := HX3.out.free 2; have f3 := HX3.out.free 3; simp at z0 z1 z2 z3; have HB3 : Hid (Below w.heap.size w w3) := HB2.out.trans (hb3.mono HB2.out.size); clear hb3)
    obtain ⟨p0, p1, p2, p3⟩ := HX3.out.read4 (.int .i64 65533) (.int .i64 ((k : Int) + (D : Int))) (.bool false) (.bool false)
    refine bodyPost_ret (v := .tuple #[.agg #[.int .i64 65533, .int .i64 ((k : Int) + (D : Int)), .bool false, .bool false], .bool true]) (by simp [results, Tryz.results70, go_sem, p0, p1, p2, p3]) rfl ⟨by simp [itV, hd], bel_put4 HB3.out (Nat.le_refl _)⟩
  · clear HC
    have hr1 : ((R : Int) == 65533) = false := by simp; omega
    go_enter Tryz.func70, Tryz.ntmps70
    go_upto_region 1 with fail
    rw [HE2.out]
    go_wp2_with (go_at_call 52; (with_reducible refine HD.out.mono ?_); rintro e w3 ⟨rfl, hb3⟩; have HX3 : Hid (Bx w3 w.heap.size #[.int .i64 0, .int .i64 0, .bool false, .bool false] 108) := HX2.out.below hb3 HX2.out.lt; have z0 := HX3.out.cell 0; have z1 := HX3.out.cell 1; have z2 := HX3.out.cell 2; have z3 := HX3.out.cell 3; have f0 := HX3.out.free 0; have f1 := HX3.out.free 1; have f2 := HX3.out.free 2; have f3 := HX3.out.free 3; simp at z0 z1 z2 z3; have HB3 : Hid (Below w.heap.size w w3) := HB2.out.trans (hb3.mono HB2.out.size); clear hb3)
    obtain ⟨p0, p1, p2, p3⟩ := HX3.out.read4 (.int .i64 (R : Int)) (.int .i64 ((k : Int) + (D : Int))) (.bool false) (.bool false)
    refine bodyPost_ret (v := .tuple #[.agg #[.int .i64 (R : Int), .int .i64 ((k : Int) + (D : Int)), .bool false, .bool false], .bool true]) (by simp [results, Tryz.results70, go_sem, p0, p1, p2, p3]) rfl ⟨by simp [itV, hr], bel_put4 HB3.out (Nat.le_refl _)⟩

set_option maxRecDepth 100000 in
set_option maxHeartbeats 2000000 in
theorem itemAt_back (s : ByteArray) (k q : Nat) (hs : s.size ≤ 4294967280) (hk : k < s.size) (hq : q = 34 ∨ q = 39) (hc : (s[k]'hk).toNat = 92) (w : World) :
    Calls Tryz.prog 70 #[.string s, .int .i64 (k : Int), .int .u8 q] w fun e w' => e = .returned (.tuple #[itV k (itm s k q), .bool (itm s k q).isSome]) ∧ Below w.heap.size w w' := by
  rw [itm_back (by rw [bt_in hk, hc])]
  have hk' : ¬ (s.size : Int) ≤ (k : Int) := by omega
  have hk2 : (k : Int) < (s.size : Int) := by omega
  have hqq : ((92 : Int) == (q : Int)) = false := by rcases hq with rfl | rfl <;> rfl
  have HB : Hid (∀ v, Calls Tryz.prog 80 #[.string s, .int .i64 ((k : Int) + 1), .int .u8 q] v fun e w' => e = .returned (.tuple #[itV k (esA s k q), .bool (esA s k q).isSome]) ∧ Below v.heap.size v w') := escapeAt_any s k q hq hs (by omega)
  obtain ⟨w2, e2, hw, hs2, B0⟩ := bx1 w #[.int .i64 0, .int .i64 0, .bool false, .bool false] 108
  have HE2 : Hid (w.alloc (.cells #[.int .i64 0, .int .i64 0, .bool false, .bool false] 108) = w2) := e2
  have HB2 : Hid (Below w.heap.size w w2) := hw
  have HX2 : Hid (Bx w2 w.heap.size #[.int .i64 0, .int .i64 0, .bool false, .bool false] 108) := B0
  clear e2 hw hs2 B0
  cases hO : esA s k q with
  | none =>
    rw [hO] at HB
    have HB' : Hid (∀ v, Calls Tryz.prog 80 #[.string s, .int .i64 ((k : Int) + 1), .int .u8 q] v fun e w' => e = .returned (.tuple #[.agg #[.int .i64 0, .int .i64 0, .bool false, .bool false], .bool false]) ∧ Below v.heap.size v w') := HB
    clear HB hO
    go_enter Tryz.func70, Tryz.ntmps70
    go_upto_region 1 with fail
    rw [HE2.out]
    go_wp2_with (go_at_call 80; (with_reducible refine (HB'.out _).mono ?_); rintro e w3 ⟨rfl, hb3⟩; have HX3 : Hid (Bx w3 w.heap.size #[.int .i64 0, .int .i64 0, .bool false, .bool false] 108) := HX2.out.below hb3 HX2.out.lt; have z0 := HX3.out.cell 0; have z1 := HX3.out.cell 1; have z2 := HX3.out.cell 2; have z3 := HX3.out.cell 3; have f0 := HX3.out.free 0; have f1 := HX3.out.free 1; have f2 := HX3.out.free 2; have f3 := HX3.out.free 3; simp at z0 z1 z2 z3; have HB3 : Hid (Below w.heap.size w w3) := HB2.out.trans (hb3.mono HB2.out.size); clear hb3)
    obtain ⟨p0, p1, p2, p3⟩ := HX3.out.read4 (.int .i64 0) (.int .i64 0) (.bool false) (.bool false)
    refine bodyPost_ret (v := .tuple #[.agg #[.int .i64 0, .int .i64 0, .bool false, .bool false], .bool false]) (by simp [results, Tryz.results70, go_sem, p0, p1, p2, p3]) rfl ⟨rfl, bel_put4 HB3.out (Nat.le_refl _)⟩
  | some it =>
    obtain ⟨n, v, e, b⟩ := it
    rw [hO] at HB
    have HB' : Hid (∀ u, Calls Tryz.prog 80 #[.string s, .int .i64 ((k : Int) + 1), .int .u8 q] u fun e' w' => e' = .returned (.tuple #[.agg #[.int .i64 (v : Int), .int .i64 ((k : Int) + (n : Int)), .bool e, .bool b], .bool true]) ∧ Below u.heap.size u w') := HB
    clear HB hO
    go_enter Tryz.func70, Tryz.ntmps70
    go_upto_region 1 with fail
    rw [HE2.out]
    go_wp2_with (go_at_call 80; (with_reducible refine (HB'.out _).mono ?_); rintro e w3 ⟨rfl, hb3⟩; have HX3 : Hid (Bx w3 w.heap.size #[.int .i64 0, .int .i64 0, .bool false, .bool false] 108) := HX2.out.below hb3 HX2.out.lt; have z0 := HX3.out.cell 0; have z1 := HX3.out.cell 1; have z2 := HX3.out.cell 2; have z3 := HX3.out.cell 3; have f0 := HX3.out.free 0; have f1 := HX3.out.free 1; have f2 := HX3.out.free 2; have f3 := HX3.out.free 3; simp at z0 z1 z2 z3; have HB3 : Hid (Below w.heap.size w w3) := HB2.out.trans (hb3.mono HB2.out.size); clear hb3)
    obtain ⟨p0, p1, p2, p3⟩ := HX3.out.read4 (.int .i64 (v : Int)) (.int .i64 ((k : Int) + (n : Int))) (.bool e) (.bool b)
    refine bodyPost_ret (v := .tuple #[.agg #[.int .i64 (v : Int), .int .i64 ((k : Int) + (n : Int)), .bool e, .bool b], .bool true]) (by simp [results, Tryz.results70, go_sem, p0, p1, p2, p3]) rfl ⟨rfl, bel_put4 HB3.out (Nat.le_refl _)⟩

theorem itemAt_any (s : ByteArray) (k q : Nat) (hs : s.size ≤ 4294967280) (hq : q = 34 ∨ q = 39) (hk : k ≤ s.size) (w : World) (hT : U8 w) :
    Calls Tryz.prog 70 #[.string s, .int .i64 (k : Int), .int .u8 q] w fun e w' => e = .returned (.tuple #[itV k (ita s k q), .bool (ita s k q).isSome]) ∧ Below w.heap.size w w' := by
  by_cases h0 : s.size ≤ k
  · have E : ita s k q = none := by unfold ita; rw [if_pos (.inl h0)]
    rw [E]
    exact itemAt_out s k q hs h0 (by omega) w
  have hk1 : k < s.size := by omega
  obtain ⟨n, hn⟩ : ∃ n, (s[k]'hk1).toNat = n := ⟨_, rfl⟩
  have hb : bt s k = n := by rw [bt_in hk1, hn]
  by_cases h1 : n = 10
  · have E : ita s k q = none := by unfold ita; rw [if_pos (.inr (.inl (hb.trans h1)))]
    rw [E]
    exact itemAt_line s k q hs hk1 (hn.trans h1) w
  by_cases h2 : n = q
  · have E : ita s k q = none := by unfold ita; rw [if_pos (.inr (.inr (hb.trans h2)))]
    rw [E]
    exact itemAt_quote s k q hs hk1 hq (hn.trans h2) w
  have E : ita s k q = itm s k q := by unfold ita; rw [if_neg (by omega)]
  rw [E]
  by_cases h3 : n = 92
  · exact itemAt_back s k q hs hk1 hq (hn.trans h3) w
  · have h := itemAt_rune s k q n hs hk1 hn h1 h2 h3 w hT
    rw [itm_else (by omega)] at h ⊢
    exact h
end Go.Proofs.YtmnbakalcpanlaaGreatDoor
