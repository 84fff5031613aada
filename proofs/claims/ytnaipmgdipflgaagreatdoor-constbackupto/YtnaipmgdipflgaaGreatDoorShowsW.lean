import Derived.Test.YtnaipmgdipflgaaGreatDoorCt1
import Derived.Test.YtnaipmgdipflgaaGreatDoorCt8
import Derived.Lib.AtoiErrMem
import Derived.Test.YtnaipmgdipflgaaGreatDoorVa5
import Derived.Laws.Cover1
import Derived.Lib.Strings
namespace Go.Proofs.YtnaipmgdipflgaaGreatDoor
open Go.ChangeShapes Go.WideShapes Go.ChangeAt Go.RowKit
set_option linter.unusedVariables false
set_option linter.unusedSimpArgs false

/-- the errors that ParseInt wraps are there -/
def Evs (w : World) : Prop := (∃ tp p, w.cell? ⟨7, 0, none⟩ = some (.iface tp p)) ∧ ∃ tp p, w.cell? ⟨8, 0, none⟩ = some (.iface tp p)
theorem Evs.below {w w' : World} (h : Evs w) (hb : Below w.heap.size w w') : Evs w' := by
  obtain ⟨⟨t1, p1, h1⟩, t2, p2, h2⟩ := h
  exact ⟨⟨t1, p1, (World.cell?_of_block (a := ⟨7, 0, none⟩) (hb.block _ (World.block_lt_of_cell? _ _ h1))).trans h1⟩, t2, p2, (World.cell?_of_block (a := ⟨8, 0, none⟩) (hb.block _ (World.block_lt_of_cell? _ _ h2))).trans h2⟩
theorem parse_ok (s : ByteArray) (hs : s.size ≤ 2147483648) (n : Int) (h : Lib.parseIntB 64 s.data.toList = .ok n) (w : World) :
    Calls Tryz.prog 46 #[.string s, .int .i64 10, .int .i64 64] w fun e w' => e = .returned (.tuple #[.int .i64 n, .nilIface]) ∧ Below w.heap.size w w' := by
  refine (Tryz.strconv_ParseInt_10_at64_ok s (by omega) n h w).mono ?_
  rintro e w' ⟨rfl, rfl | ⟨t, rfl⟩⟩
  · exact ⟨rfl, Below.refl _ _⟩
  · exact ⟨rfl, Lib.bytesWorld_below _ _ _⟩
theorem parse_bad (s : ByteArray) (hs : s.size ≤ 2147483648) (h : ∀ n, Lib.parseIntB 64 s.data.toList ≠ .ok n) (w : World) (hE : Evs w) :
    Calls Tryz.prog 46 #[.string s, .int .i64 10, .int .i64 64] w fun e w' => (∃ z N, e = .returned (.tuple #[.int .i64 z, .iface 150 (.pointer (some ⟨N, 0, none⟩))])) ∧ Below w.heap.size w w' := by
  obtain ⟨⟨t1, p1, h1⟩, t2, p2, h2⟩ := hE
  cases hp : Lib.parseIntB 64 s.data.toList with
  | ok n => exact absurd hp (h n)
  | «syntax» =>
    refine (Tryz.strconv_ParseInt_10_at64_syntax s (by omega) hp _ w h1 (.inr ⟨_, _, rfl⟩)).mono ?_
    rintro e w' ⟨N, rfl, -, -, hb⟩
    exact ⟨⟨_, N, rfl⟩, hb⟩
  | range =>
    refine (Tryz.strconv_ParseInt_10_at64_range s (by omega) hp _ w h2 (.inr ⟨_, _, rfl⟩)).mono ?_
    rintro e w' ⟨N, rfl, -, -, hb⟩
    exact ⟨⟨_, N, rfl⟩, hb⟩
set_option maxRecDepth 1000000 in
theorem truth8_any (b : Bool) (w : World) : Calls Tryz.prog 30 #[.bool b] w fun e w' => e = .returned (.tuple #[.agg #[.int .u8 1, .bool b, .int .i64 0, .string ⟨#[]⟩], .int .i64 0]) ∧ Below w.heap.size w w' := by
  obtain ⟨w2, e2, hb2, hs2, B2⟩ := bx1 w #[.int .u8 0, .bool false, .int .i64 0, .string ⟨#[]⟩] 25
  have HB2 : Hid (Below w.heap.size w w2) := hb2
  have HX2 : Hid (Bx w2 w.heap.size #[.int .u8 0, .bool false, .int .i64 0, .string ⟨#[]⟩] 25) := B2
  obtain ⟨d0, d1, d2, d3, g0, g1, g2, g3, l2⟩ := B2.facts4
  clear hb2 B2 hs2
  go_enter Tryz.func30, Tryz.ntmps30
  go_wp2
  obtain ⟨r0, r1, r2, r3⟩ := HX2.out.read4 (.int .u8 1) (.bool b) (.int .i64 0) (.string ⟨#[]⟩)
  refine bodyPost_ret (v := .tuple #[.agg #[.int .u8 1, .bool b, .int .i64 0, .string ⟨#[]⟩], .int .i64 0]) (by simp [results, Tryz.results30, go_sem, r0, r1, r2, r3]) rfl ⟨rfl, bel_put4 HB2.out (Nat.le_refl _)⟩

/-- "true" and "false" -/
def tru : ByteArray := ⟨#[116, 114, 117, 101]⟩
def fls : ByteArray := ⟨#[102, 97, 108, 115, 101]⟩
set_option maxRecDepth 1000000 in
set_option maxHeartbeats 4000000 in
theorem guess_num (s : ByteArray) (hs : s.size ≤ 2147483648) (h1 : (s.toList == [116, 114, 117, 101]) = false) (h2 : (s.toList == [102, 97, 108, 115, 101]) = false) (n : Int) (h : Lib.parseIntB 64 s.data.toList = .ok n) (w : World) :
    Calls Tryz.prog 24 #[.string s] w fun e w' => e = .returned (.agg #[.int .u8 2, .bool false, .int .i64 n, .string ⟨#[]⟩]) ∧ Below w.heap.size w w' := by
  obtain ⟨w2, e2, hb2, hs2, B2⟩ := bx1 w #[.int .u8 0, .bool false, .int .i64 0, .string ⟨#[]⟩] 25
  have HB2 : Hid (Below w.heap.size w w2) := hb2
  have HX2 : Hid (Bx w2 w.heap.size #[.int .u8 0, .bool false, .int .i64 0, .string ⟨#[]⟩] 25) := B2
  clear hb2 B2 hs2
  have HP : Hid (∀ v, Calls Tryz.prog 46 #[.string s, .int .i64 10, .int .i64 64] v fun e w' => e = .returned (.tuple #[.int .i64 n, .nilIface]) ∧ Below v.heap.size v w') := fun v => parse_ok s hs n h v
  clear h
  go_enter Tryz.func24, Tryz.ntmps24
  go_wp2_with (first
    | (go_at_call 46; (with_reducible refine (HP.out _).mono ?_); rintro e w3 ⟨rfl, hb3⟩; have HB3 : Hid (Below w.heap.size w w3) := HB2.out.trans (hb3.mono HB2.out.size); have HX3 : Hid (Bx w3 w.heap.size #[.int .u8 0, .bool false, .int .i64 0, .string ⟨#[]⟩] 25) := HX2.out.below hb3 HX2.out.lt; clear hb3)
    | (go_at_call 47; (with_reducible refine (cnumber_any _ _).mono ?_); rintro e w4 ⟨rfl, hb4⟩; have HB4 : Hid (Below w.heap.size w w4) := HB3.out.trans (hb4.mono HB3.out.size); have HX4 : Hid (Bx w4 w.heap.size #[.int .u8 0, .bool false, .int .i64 0, .string ⟨#[]⟩] 25) := HX3.out.below hb4 HX3.out.lt; obtain ⟨d0, d1, d2, d3, g0, g1, g2, g3, l2⟩ := HX4.out.facts4; clear hb4))
  obtain ⟨r0, r1, r2, r3⟩ := HX4.out.read4 (.int .u8 2) (.bool false) (.int .i64 n) (.string ⟨#[]⟩)
  refine bodyPost_ret (v := .agg #[.int .u8 2, .bool false, .int .i64 n, .string ⟨#[]⟩]) (by simp [results, Tryz.results24, go_sem, r0, r1, r2, r3]) rfl ⟨rfl, bel_put4 HB4.out (Nat.le_refl _)⟩
set_option maxRecDepth 1000000 in
set_option maxHeartbeats 4000000 in
theorem guess_tru (w : World) :
    Calls Tryz.prog 24 #[.string ⟨#[116, 114, 117, 101]⟩] w fun e w' => e = .returned (.agg #[.int .u8 1, .bool true, .int .i64 0, .string ⟨#[]⟩]) ∧ Below w.heap.size w w' := by
  obtain ⟨w2, e2, hb2, hs2, B2⟩ := bx1 w #[.int .u8 0, .bool false, .int .i64 0, .string ⟨#[]⟩] 25
  have HB2 : Hid (Below w.heap.size w w2) := hb2
  have HX2 : Hid (Bx w2 w.heap.size #[.int .u8 0, .bool false, .int .i64 0, .string ⟨#[]⟩] 25) := B2
  clear hb2 B2 hs2
  go_enter Tryz.func24, Tryz.ntmps24
  go_wp2_with (go_at_call 45; (with_reducible refine (truth_any _ _).mono ?_); rintro e w4 ⟨rfl, hb4⟩; have HB4 : Hid (Below w.heap.size w w4) := HB2.out.trans (hb4.mono HB2.out.size); have HX4 : Hid (Bx w4 w.heap.size #[.int .u8 0, .bool false, .int .i64 0, .string ⟨#[]⟩] 25) := HX2.out.below hb4 HX2.out.lt; obtain ⟨d0, d1, d2, d3, g0, g1, g2, g3, l2⟩ := HX4.out.facts4; clear hb4)
  obtain ⟨r0, r1, r2, r3⟩ := HX4.out.read4 (.int .u8 1) (.bool true) (.int .i64 0) (.string ⟨#[]⟩)
  refine bodyPost_ret (v := .agg #[.int .u8 1, .bool true, .int .i64 0, .string ⟨#[]⟩]) (by simp [results, Tryz.results24, go_sem, r0, r1, r2, r3]) rfl ⟨rfl, bel_put4 HB4.out (Nat.le_refl _)⟩
set_option maxRecDepth 1000000 in
set_option maxHeartbeats 4000000 in
theorem guess_fls (w : World) :
    Calls Tryz.prog 24 #[.string ⟨#[102, 97, 108, 115, 101]⟩] w fun e w' => e = .returned (.agg #[.int .u8 1, .bool false, .int .i64 0, .string ⟨#[]⟩]) ∧ Below w.heap.size w w' := by
  obtain ⟨w2, e2, hb2, hs2, B2⟩ := bx1 w #[.int .u8 0, .bool false, .int .i64 0, .string ⟨#[]⟩] 25
  have HB2 : Hid (Below w.heap.size w w2) := hb2
  have HX2 : Hid (Bx w2 w.heap.size #[.int .u8 0, .bool false, .int .i64 0, .string ⟨#[]⟩] 25) := B2
  clear hb2 B2 hs2
  go_enter Tryz.func24, Tryz.ntmps24
  go_wp2_with (go_at_call 45; (with_reducible refine (truth_any _ _).mono ?_); rintro e w4 ⟨rfl, hb4⟩; have HB4 : Hid (Below w.heap.size w w4) := HB2.out.trans (hb4.mono HB2.out.size); have HX4 : Hid (Bx w4 w.heap.size #[.int .u8 0, .bool false, .int .i64 0, .string ⟨#[]⟩] 25) := HX2.out.below hb4 HX2.out.lt; obtain ⟨d0, d1, d2, d3, g0, g1, g2, g3, l2⟩ := HX4.out.facts4; clear hb4)
  obtain ⟨r0, r1, r2, r3⟩ := HX4.out.read4 (.int .u8 1) (.bool false) (.int .i64 0) (.string ⟨#[]⟩)
  refine bodyPost_ret (v := .agg #[.int .u8 1, .bool false, .int .i64 0, .string ⟨#[]⟩]) (by simp [results, Tryz.results24, go_sem, r0, r1, r2, r3]) rfl ⟨rfl, bel_put4 HB4.out (Nat.le_refl _)⟩
set_option maxRecDepth 1000000 in
set_option maxHeartbeats 4000000 in
theorem guess_txt (s t : ByteArray) (hs : s.size ≤ 2147483648) (h1 : (s.toList == [116, 114, 117, 101]) = false) (h2 : (s.toList == [102, 97, 108, 115, 101]) = false) (h : ∀ n, Lib.parseIntB 64 s.data.toList ≠ .ok n) (w : World) (hE : Evs w)
    (HT : Hid (∀ v, Below w.heap.size w v → Calls Tryz.prog 16 #[.string s] v fun e w' => e = .returned (.tuple #[.string t, .int .i64 0]) ∧ Below v.heap.size v w')) :
    Calls Tryz.prog 24 #[.string s] w fun e w' => e = .returned (.agg #[.int .u8 3, .bool false, .int .i64 0, .string t]) ∧ Below w.heap.size w w' := by
  obtain ⟨w2, e2, hb2, hs2, B2⟩ := bx1 w #[.int .u8 0, .bool false, .int .i64 0, .string ⟨#[]⟩] 25
  have HB2 : Hid (Below w.heap.size w w2) := hb2
  have HX2 : Hid (Bx w2 w.heap.size #[.int .u8 0, .bool false, .int .i64 0, .string ⟨#[]⟩] 25) := B2
  clear hb2 B2 hs2
  have HP : Hid (∀ v, Below w.heap.size w v → Calls Tryz.prog 46 #[.string s, .int .i64 10, .int .i64 64] v fun e w' => (∃ z N, e = .returned (.tuple #[.int .i64 z, .iface 150 (.pointer (some ⟨N, 0, none⟩))])) ∧ Below v.heap.size v w') := fun v hv => parse_bad s hs h v (hE.below hv)
  clear h hE
  go_enter Tryz.func24, Tryz.ntmps24
  go_wp2_with (first
    | (go_at_call 46; (with_reducible refine (HP.out _ HB2.out).mono ?_); rintro e w3 ⟨⟨z3, N3, rfl⟩, hb3⟩; have HB3 : Hid (Below w.heap.size w w3) := HB2.out.trans (hb3.mono HB2.out.size); have HX3 : Hid (Bx w3 w.heap.size #[.int .u8 0, .bool false, .int .i64 0, .string ⟨#[]⟩] 25) := HX2.out.below hb3 HX2.out.lt; clear hb3)
    | (go_at_call 16; (with_reducible refine (HT.out _ HB3.out).mono ?_); rintro e w4 ⟨rfl, hb4⟩; have HB4 : Hid (Below w.heap.size w w4) := HB3.out.trans (hb4.mono HB3.out.size); have HX4 : Hid (Bx w4 w.heap.size #[.int .u8 0, .bool false, .int .i64 0, .string ⟨#[]⟩] 25) := HX3.out.below hb4 HX3.out.lt; clear hb4)
    | (go_at_call 48; (with_reducible refine (ctext_any _ _).mono ?_); rintro e w5 ⟨rfl, hb5⟩; have HB5 : Hid (Below w.heap.size w w5) := HB4.out.trans (hb5.mono HB4.out.size); have HX5 : Hid (Bx w5 w.heap.size #[.int .u8 0, .bool false, .int .i64 0, .string ⟨#[]⟩] 25) := HX4.out.below hb5 HX4.out.lt; obtain ⟨d0, d1, d2, d3, g0, g1, g2, g3, l2⟩ := HX5.out.facts4; clear hb5))
  obtain ⟨r0, r1, r2, r3⟩ := HX5.out.read4 (.int .u8 3) (.bool false) (.int .i64 0) (.string t)
  refine bodyPost_ret (v := .agg #[.int .u8 3, .bool false, .int .i64 0, .string t]) (by simp [results, Tryz.results24, go_sem, r0, r1, r2, r3]) rfl ⟨rfl, bel_put4 HB5.out (Nat.le_refl _)⟩
set_option maxRecDepth 1000000 in
set_option maxHeartbeats 4000000 in
theorem guess_no (s t : ByteArray) (hs : s.size ≤ 2147483648) (h1 : (s.toList == [116, 114, 117, 101]) = false) (h2 : (s.toList == [102, 97, 108, 115, 101]) = false) (h : ∀ n, Lib.parseIntB 64 s.data.toList ≠ .ok n) (w : World) (hE : Evs w)
    (HT : Hid (∀ v, Below w.heap.size w v → Calls Tryz.prog 16 #[.string s] v fun e w' => e = .returned (.tuple #[.string t, .int .i64 22]) ∧ Below v.heap.size v w')) :
    Calls Tryz.prog 24 #[.string s] w fun e w' => e = .returned (.agg #[.int .u8 0, .bool false, .int .i64 0, .string ⟨#[]⟩]) ∧ Below w.heap.size w w' := by
  obtain ⟨w2, e2, hb2, hs2, B2⟩ := bx1 w #[.int .u8 0, .bool false, .int .i64 0, .string ⟨#[]⟩] 25
  have HB2 : Hid (Below w.heap.size w w2) := hb2
  have HX2 : Hid (Bx w2 w.heap.size #[.int .u8 0, .bool false, .int .i64 0, .string ⟨#[]⟩] 25) := B2
  clear hb2 B2 hs2
  have HP : Hid (∀ v, Below w.heap.size w v → Calls Tryz.prog 46 #[.string s, .int .i64 10, .int .i64 64] v fun e w' => (∃ z N, e = .returned (.tuple #[.int .i64 z, .iface 150 (.pointer (some ⟨N, 0, none⟩))])) ∧ Below v.heap.size v w') := fun v hv => parse_bad s hs h v (hE.below hv)
  clear h hE
  go_enter Tryz.func24, Tryz.ntmps24
  go_wp2_with (first
    | (go_at_call 46; (with_reducible refine (HP.out _ HB2.out).mono ?_); rintro e w3 ⟨⟨z3, N3, rfl⟩, hb3⟩; have HB3 : Hid (Below w.heap.size w w3) := HB2.out.trans (hb3.mono HB2.out.size); have HX3 : Hid (Bx w3 w.heap.size #[.int .u8 0, .bool false, .int .i64 0, .string ⟨#[]⟩] 25) := HX2.out.below hb3 HX2.out.lt; clear hb3)
    | (go_at_call 16; (with_reducible refine (HT.out _ HB3.out).mono ?_); rintro e w4 ⟨rfl, hb4⟩; have HB4 : Hid (Below w.heap.size w w4) := HB3.out.trans (hb4.mono HB3.out.size); have HX4 : Hid (Bx w4 w.heap.size #[.int .u8 0, .bool false, .int .i64 0, .string ⟨#[]⟩] 25) := HX3.out.below hb4 HX3.out.lt; obtain ⟨d0, d1, d2, d3, g0, g1, g2, g3, l2⟩ := HX4.out.facts4; clear hb4))
  obtain ⟨r0, r1, r2, r3⟩ := HX4.out.read4 (.int .u8 0) (.bool false) (.int .i64 0) (.string ⟨#[]⟩)
  refine bodyPost_ret (v := .agg #[.int .u8 0, .bool false, .int .i64 0, .string ⟨#[]⟩]) (by simp [results, Tryz.results24, go_sem, r0, r1, r2, r3]) rfl ⟨rfl, bel_put4 HB4.out (Nat.le_refl _)⟩
end Go.Proofs.YtnaipmgdipflgaaGreatDoor

namespace Go.Proofs.YtnaipmgdipflgaaGreatDoor
open Go.ChangeShapes Go.WideShapes Go.ChangeAt Go.RowKit
set_option linter.unusedVariables false
set_option linter.unusedSimpArgs false

set_option maxRecDepth 1000000 in
set_option maxHeartbeats 4000000 in
theorem read_no (s : ByteArray) (k : Int) (b : Bool) (i : Int) (t : ByteArray) (w : World) (hk : (k == 0) = true)
    (HG : Hid (∀ v, Below w.heap.size w v → Calls Tryz.prog 24 #[.string s] v fun e w' => e = .returned (.agg #[.int .u8 k, .bool b, .int .i64 i, .string t]) ∧ Below v.heap.size v w')) :
    Calls Tryz.prog 8 #[.string s] w fun e w' => e = .returned (vlV 0 0 ⟨#[]⟩ 1) ∧ Below w.heap.size w w' := by
  obtain ⟨w2, e2, hb2, hs2, B2⟩ := bx1 w #[.int .u8 0, .bool false, .int .i64 0, .string ⟨#[]⟩] 25
  have HB2 : Hid (Below w.heap.size w w2) := hb2
  have HX2 : Hid (Bx w2 w.heap.size #[.int .u8 0, .bool false, .int .i64 0, .string ⟨#[]⟩] 25) := B2
  clear hb2 B2 hs2
  go_enter Tryz.func8, Tryz.ntmps8
  go_wp2_with (first
    | (go_at_call 24; (with_reducible refine (HG.out _ HB2.out).mono ?_); rintro e w3 ⟨rfl, hb3⟩; have HB3 : Hid (Below w.heap.size w w3) := HB2.out.trans (hb3.mono HB2.out.size); have HX3 : Hid (Bx w3 w.heap.size #[.int .u8 0, .bool false, .int .i64 0, .string ⟨#[]⟩] 25) := HX2.out.below hb3 HX2.out.lt; have hz3 : w.heap.size < w3.heap.size := HX3.out.lt; obtain ⟨w4, e4, hb4, hs4, B4⟩ := bx1 w3 #[.int .u8 k, .bool b, .int .i64 i, .string t] 25; have HB4 : Hid (Below w.heap.size w w4) := HB3.out.trans (hb4.mono HB3.out.size); have HX4 : Hid (Bx w4 w.heap.size #[.int .u8 0, .bool false, .int .i64 0, .string ⟨#[]⟩] 25) := HX3.out.below hb4 HX3.out.lt; have HY4 : Hid (Bx w4 w3.heap.size #[.int .u8 k, .bool b, .int .i64 i, .string t] 25) := B4; obtain ⟨d0, d1, d2, d3, g0, g1, g2, g3, l3⟩ := HX4.out.facts4; obtain ⟨y0, y1, y2, y3, x0, x1, x2, x3, l4⟩ := HY4.out.facts4; clear hb3 hb4 B4 hs4))
  obtain ⟨r0, r1, r2, r3⟩ := HX4.out.read4 (.int .u8 0) (.bool false) (.int .i64 0) (.string ⟨#[]⟩)
  refine bodyPost_ret (v := vlV 0 0 ⟨#[]⟩ 1) (by simp [vlV, results, Tryz.results8, go_sem, r0, r1, r2, r3]) rfl ⟨rfl, bel_put4 HB4.out (Nat.le_refl _)⟩
set_option maxRecDepth 1000000 in
set_option maxHeartbeats 4000000 in
theorem read_ne (s : ByteArray) (k : Int) (b : Bool) (i : Int) (t : ByteArray) (w : World) (hk : (k == 0) = false) (q : ByteArray) (hq : (q.toList == s.toList) = false)
    (HG : Hid (∀ v, Below w.heap.size w v → Calls Tryz.prog 24 #[.string s] v fun e w' => e = .returned (.agg #[.int .u8 k, .bool b, .int .i64 i, .string t]) ∧ Below v.heap.size v w'))
    (HS : Hid (∀ v, Below w.heap.size w v → Calls Tryz.prog 9 #[.agg #[.int .u8 k, .bool b, .int .i64 i, .string t]] v fun e w' => e = .returned (.string q) ∧ Below v.heap.size v w')) :
    Calls Tryz.prog 8 #[.string s] w fun e w' => e = .returned (vlV 0 0 ⟨#[]⟩ 1) ∧ Below w.heap.size w w' := by
  obtain ⟨w2, e2, hb2, hs2, B2⟩ := bx1 w #[.int .u8 0, .bool false, .int .i64 0, .string ⟨#[]⟩] 25
  have HB2 : Hid (Below w.heap.size w w2) := hb2
  have HX2 : Hid (Bx w2 w.heap.size #[.int .u8 0, .bool false, .int .i64 0, .string ⟨#[]⟩] 25) := B2
  clear hb2 B2 hs2
  go_enter Tryz.func8, Tryz.ntmps8
  go_wp2_with (first
    | (go_at_call 24; (with_reducible refine (HG.out _ HB2.out).mono ?_); rintro e w3 ⟨rfl, hb3⟩; have HB3 : Hid (Below w.heap.size w w3) := HB2.out.trans (hb3.mono HB2.out.size); have HX3 : Hid (Bx w3 w.heap.size #[.int .u8 0, .bool false, .int .i64 0, .string ⟨#[]⟩] 25) := HX2.out.below hb3 HX2.out.lt; have hz3 : w.heap.size < w3.heap.size := HX3.out.lt; obtain ⟨w4, e4, hb4, hs4, B4⟩ := bx1 w3 #[.int .u8 k, .bool b, .int .i64 i, .string t] 25; have HB4 : Hid (Below w.heap.size w w4) := HB3.out.trans (hb4.mono HB3.out.size); have HX4 : Hid (Bx w4 w.heap.size #[.int .u8 0, .bool false, .int .i64 0, .string ⟨#[]⟩] 25) := HX3.out.below hb4 HX3.out.lt; have HY4 : Hid (Bx w4 w3.heap.size #[.int .u8 k, .bool b, .int .i64 i, .string t] 25) := B4; obtain ⟨d0, d1, d2, d3, g0, g1, g2, g3, l3⟩ := HX4.out.facts4; obtain ⟨y0, y1, y2, y3, x0, x1, x2, x3, l4⟩ := HY4.out.facts4; clear hb3 hb4 B4 hs4)
    | (go_at_call 9; (with_reducible refine (HS.out _ HB4.out).mono ?_); rintro e w5 ⟨rfl, hb5⟩; have HB5 : Hid (Below w.heap.size w w5) := HB4.out.trans (hb5.mono HB4.out.size); have HX5 : Hid (Bx w5 w.heap.size #[.int .u8 0, .bool false, .int .i64 0, .string ⟨#[]⟩] 25) := HX4.out.below hb5 HX4.out.lt; have HY5 : Hid (Bx w5 w3.heap.size #[.int .u8 k, .bool b, .int .i64 i, .string t] 25) := HY4.out.below hb5 HY4.out.lt; obtain ⟨d0, d1, d2, d3, g0, g1, g2, g3, l3⟩ := HX5.out.facts4; obtain ⟨y0, y1, y2, y3, x0, x1, x2, x3, l4⟩ := HY5.out.facts4; clear hb5))
  obtain ⟨r0, r1, r2, r3⟩ := HX5.out.read4 (.int .u8 0) (.bool false) (.int .i64 0) (.string ⟨#[]⟩)
  refine bodyPost_ret (v := vlV 0 0 ⟨#[]⟩ 1) (by simp [vlV, results, Tryz.results8, go_sem, r0, r1, r2, r3]) rfl ⟨rfl, bel_put4 HB5.out (Nat.le_refl _)⟩
set_option maxRecDepth 1000000 in
set_option maxHeartbeats 4000000 in
theorem read_eq (s : ByteArray) (k : Int) (b : Bool) (i : Int) (t : ByteArray) (w : World) (hk : (k == 0) = false) (q : ByteArray) (hq : (q.toList == s.toList) = true)
    (HG : Hid (∀ v, Below w.heap.size w v → Calls Tryz.prog 24 #[.string s] v fun e w' => e = .returned (.agg #[.int .u8 k, .bool b, .int .i64 i, .string t]) ∧ Below v.heap.size v w'))
    (HS : Hid (∀ v, Below w.heap.size w v → Calls Tryz.prog 9 #[.agg #[.int .u8 k, .bool b, .int .i64 i, .string t]] v fun e w' => e = .returned (.string q) ∧ Below v.heap.size v w')) :
    Calls Tryz.prog 8 #[.string s] w fun e w' => e = .returned (.tuple #[.agg #[.int .u8 k, .bool b, .int .i64 i, .string t], .int .i64 0]) ∧ Below w.heap.size w w' := by
  obtain ⟨w2, e2, hb2, hs2, B2⟩ := bx1 w #[.int .u8 0, .bool false, .int .i64 0, .string ⟨#[]⟩] 25
  have HB2 : Hid (Below w.heap.size w w2) := hb2
  have HX2 : Hid (Bx w2 w.heap.size #[.int .u8 0, .bool false, .int .i64 0, .string ⟨#[]⟩] 25) := B2
  clear hb2 B2 hs2
  go_enter Tryz.func8, Tryz.ntmps8
  go_wp2_with (first
    | (go_at_call 24; (with_reducible refine (HG.out _ HB2.out).mono ?_); rintro e w3 ⟨rfl, hb3⟩; have HB3 : Hid (Below w.heap.size w w3) := HB2.out.trans (hb3.mono HB2.out.size); have HX3 : Hid (Bx w3 w.heap.size #[.int .u8 0, .bool false, .int .i64 0, .string ⟨#[]⟩] 25) := HX2.out.below hb3 HX2.out.lt; have hz3 : w.heap.size < w3.heap.size := HX3.out.lt; obtain ⟨w4, e4, hb4, hs4, B4⟩ := bx1 w3 #[.int .u8 k, .bool b, .int .i64 i, .string t] 25; have HB4 : Hid (Below w.heap.size w w4) := HB3.out.trans (hb4.mono HB3.out.size); have HX4 : Hid (Bx w4 w.heap.size #[.int .u8 0, .bool false, .int .i64 0, .string ⟨#[]⟩] 25) := HX3.out.below hb4 HX3.out.lt; have HY4 : Hid (Bx w4 w3.heap.size #[.int .u8 k, .bool b, .int .i64 i, .string t] 25) := B4; obtain ⟨d0, d1, d2, d3, g0, g1, g2, g3, l3⟩ := HX4.out.facts4; obtain ⟨y0, y1, y2, y3, x0, x1, x2, x3, l4⟩ := HY4.out.facts4; clear hb3 hb4 B4 hs4)
    | (go_at_call 9; (with_reducible refine (HS.out _ HB4.out).mono ?_); rintro e w5 ⟨rfl, hb5⟩; have HB5 : Hid (Below w.heap.size w w5) := HB4.out.trans (hb5.mono HB4.out.size); have HX5 : Hid (Bx w5 w.heap.size #[.int .u8 0, .bool false, .int .i64 0, .string ⟨#[]⟩] 25) := HX4.out.below hb5 HX4.out.lt; have HY5 : Hid (Bx w5 w3.heap.size #[.int .u8 k, .bool b, .int .i64 i, .string t] 25) := HY4.out.below hb5 HY4.out.lt; obtain ⟨d0, d1, d2, d3, g0, g1, g2, g3, l3⟩ := HX5.out.facts4; obtain ⟨y0, y1, y2, y3, x0, x1, x2, x3, l4⟩ := HY5.out.facts4; clear hb5))
  obtain ⟨r0, r1, r2, r3⟩ := HX5.out.read4 (.int .u8 k) (.bool b) (.int .i64 i) (.string t)
  refine bodyPost_ret (v := .tuple #[.agg #[.int .u8 k, .bool b, .int .i64 i, .string t], .int .i64 0]) (by simp [vlV, results, Tryz.results8, go_sem, r0, r1, r2, r3]) rfl ⟨rfl, bel_put4 HB5.out (Nat.le_refl _)⟩
end Go.Proofs.YtnaipmgdipflgaaGreatDoor

namespace Go.Proofs.YtnaipmgdipflgaaGreatDoor
open Go.ChangeShapes Go.WideShapes Go.ChangeAt Go.RowKit
set_option linter.unusedVariables false
set_option linter.unusedSimpArgs false

theorem drop_at8 (a : ByteArray) (k : Nat) (h : k < a.size) : a.data.toList.drop k = a[k] :: a.data.toList.drop (k + 1) := by
  have : k < a.data.toList.length := by simpa using h
  rw [List.drop_eq_getElem_cons this]
  rfl
theorem drop_end8 (a : ByteArray) (k : Nat) (h : a.size ≤ k) : a.data.toList.drop k = [] := by
  apply List.drop_eq_nil_of_le
  simpa using h
/-- the sign, and the bounds -/
def dcE (below : Bool) : Option Nat → Option Int
  | none => none
  | some n => if below = true ∧ n = 9223372036854775808 then some (-9223372036854775808) else if 9223372036854775808 ≤ n then none else if below then some (-(n : Int)) else some (n : Int)
theorem dcD_is (b : Bool) (d : ByteArray) (h : 0 < d.size) (hl : d.size ≤ 19) : dcD b d.data.toList = dcE b (ddg 0 d.data.toList) := by
  have e : d.data.toList.length = d.size := by rw [Array.length_toList]; rfl
  unfold dcD
  rw [if_neg (by intro h1; rcases h1 with h1 | h1; (· rw [h1] at e; simp at e; omega); omega)]
  cases ddg 0 d.data.toList <;> rfl
def dcV (x : Option Int) : Value := .tuple #[.int .i64 (x.getD 0), .bool x.isSome]
set_option maxRecDepth 1000000 in
set_option maxHeartbeats 4000000 in
theorem dec8_long (s : ByteArray) (h0 : 0 < s.size) (hb : (s[0]'h0).toNat ≠ 45) (hl : 19 < s.size) (hs : s.size ≤ 2147483648) (w : World) :
    Calls Tryz.prog 31 #[.string s] w fun e w' => e = .returned (dcV none) ∧ Below w.heap.size w w' := by
  have h0' : (0 : Int) < (s.size : Int) := by omega
  obtain ⟨c, hc⟩ : ∃ c, (s[0]'h0).toNat = c := ⟨_, rfl⟩
  rw [hc] at hb
  have hb' : ((c : Int) == 45) = false := by rw [beq_eq_false_iff_ne]; omega
  have hl' : (19 : Int) < (s.size : Int) := by omega
  have hz : ((s.size : Int) == 0) = false := by rw [beq_eq_false_iff_ne]; omega
  go_enter Tryz.func31, Tryz.ntmps31
  go_wp2
  go_ret2
  exact ⟨rfl, Below.refl _ _⟩
set_option maxRecDepth 1000000 in
set_option maxHeartbeats 4000000 in
theorem dec8_pos (s : ByteArray) (h0 : 0 < s.size) (hb : (s[0]'h0).toNat ≠ 45) (hl : s.size ≤ 19) (w : World) :
    Calls Tryz.prog 31 #[.string s] w fun e w' => e = .returned (dcV (dcD false s.data.toList)) ∧ Below w.heap.size w w' := by
  have h0' : (0 : Int) < (s.size : Int) := by omega
  obtain ⟨c, hc⟩ : ∃ c, (s[0]'h0).toNat = c := ⟨_, rfl⟩
  rw [hc] at hb
  have hb' : ((c : Int) == 45) = false := by rw [beq_eq_false_iff_ne]; omega
  have hl' : ¬ (19 : Int) < (s.size : Int) := by omega
  have hz : ((s.size : Int) == 0) = false := by rw [beq_eq_false_iff_ne]; omega
  obtain ⟨R, hR⟩ : ∃ R, ddg 0 s.data.toList = R := ⟨_, rfl⟩
  have HR : Hid (ddg 0 s.data.toList = R) := hR
  have HD : Hid (dcD false s.data.toList = dcE false R) := by unfold Hid; rw [dcD_is false s h0 hl, hR]
  clear hR
  go_enter Tryz.func31, Tryz.ntmps31
  go_wp2
  go_loopw [6, 7] (fun sn si wr => ∃ (i acc : Nat), i ≤ s.size ∧ si = .int .i64 (i : Int) ∧ sn = .int .u64 (acc : Int) ∧ acc < 10 ^ i ∧ ddg acc (s.data.toList.drop i) = R ∧ wr = w) (fun _ si _ => s.size - (intOf si).toNat)
  case atStart => exact ⟨0, 0, Nat.zero_le _, rfl, rfl, by simp, HR.out, by first | rfl | trivial⟩
  case round =>
    obtain ⟨i, acc, hi, rfl, rfl, hacc, hv, rfl⟩ := hrel
    have HV : Hid (ddg acc (s.data.toList.drop i) = R) := hv
    clear hv
    by_cases hlt : i < s.size
    · have hlt' : (i : Int) < (s.size : Int) := by omega
      have hstep := drop_at8 s i hlt
      have hac18 : acc < 1000000000000000000 := Nat.lt_of_lt_of_le hacc (Nat.pow_le_pow_right (by omega) (show i ≤ 18 by omega))
      obtain ⟨c2, hc2⟩ : ∃ c2, (s[i]'hlt).toNat = c2 := ⟨_, rfl⟩
      have HV2 : Hid ((if c2 < 48 ∨ 57 < c2 then none else ddg (10 * acc + (c2 - 48)) (s.data.toList.drop (i + 1))) = R) := by
        unfold Hid; rw [← HV.out, hstep, ddg, hc2]
      have HP : Hid (10 * acc + (c2 - 48) < 10 ^ (i + 1) ∨ 57 < c2) := by unfold Hid; rw [Nat.pow_succ]; omega
      clear hstep hacc
      by_cases h1 : c2 < 48
      · have HN : Hid (R = none) := by unfold Hid; rw [← HV2.out, if_pos (.inl h1)]
        have h1' : (c2 : Int) < 48 := by omega
        go_wp2
        go_ret2
        exact ⟨by rw [HD.out, HN.out]; rfl, Below.refl _ _⟩
      · by_cases h2 : 57 < c2
        · have HN : Hid (R = none) := by unfold Hid; rw [← HV2.out, if_pos (.inr h2)]
          have h1' : ¬ (c2 : Int) < 48 := by omega
          have h2' : (57 : Int) < (c2 : Int) := by omega
          go_wp2
          go_ret2
          exact ⟨by rw [HD.out, HN.out]; rfl, Below.refl _ _⟩
        · have HN : Hid (ddg (10 * acc + (c2 - 48)) (s.data.toList.drop (i + 1)) = R) := by unfold Hid; rw [← HV2.out, if_neg (by omega)]
          have h1' : ¬ (c2 : Int) < 48 := by omega
          have h2' : ¬ (57 : Int) < (c2 : Int) := by omega
          go_wp2
          go_roundw
          case rel => exact ⟨i + 1, 10 * acc + (c2 - 48), by omega, by go_num, by go_num, by rcases HP.out with h | h; (· exact h); omega, HN.out, by first | rfl | trivial⟩
          case measure => simp [intOf]; omega
    · have hlt' : ¬ (i : Int) < (s.size : Int) := by omega
      have HN : Hid (R = some acc) := by unfold Hid; rw [← HV.out, drop_end8 s i (by omega)]; rfl
      have hacc' : acc < 10 ^ 19 := Nat.lt_of_lt_of_le hacc (Nat.pow_le_pow_right (by omega) (by omega))
      by_cases h3 : 9223372036854775808 ≤ acc
      · have h3' : (9223372036854775808 : Int) ≤ (acc : Int) := by omega
        go_wp2
        go_ret2
        exact ⟨by rw [HD.out, HN.out]; simp [dcE, h3]; rfl, Below.refl _ _⟩
      · have h3' : ¬ (9223372036854775808 : Int) ≤ (acc : Int) := by omega
        go_wp2
        go_ret2
        exact ⟨by rw [HD.out, HN.out]; simp [dcE, h3, dcV], Below.refl _ _⟩
set_option maxRecDepth 1000000 in
set_option maxHeartbeats 4000000 in
theorem dec8_none (s : ByteArray) (h0 : s.size = 0) (w : World) :
    Calls Tryz.prog 31 #[.string s] w fun e w' => e = .returned (dcV none) ∧ Below w.heap.size w w' := by
  have h0' : ((s.size : Int) == 0) = true := by rw [beq_iff_eq]; omega
  have h1' : ¬ (0 : Int) < (s.size : Int) := by omega
  go_enter Tryz.func31, Tryz.ntmps31
  go_wp2
  go_ret2
  exact ⟨rfl, Below.refl _ _⟩
set_option maxRecDepth 1000000 in
set_option maxHeartbeats 4000000 in
theorem dec8_odd (s : ByteArray) (h0 : 0 < s.size) (hb : (s[0]'h0).toNat = 45) (D : ByteArray) (hD : s.extract 1 s.size = D) (hd : D.size = 0 ∨ 19 < D.size) (w : World) :
    Calls Tryz.prog 31 #[.string s] w fun e w' => e = .returned (dcV none) ∧ Below w.heap.size w w' := by
  have h0' : (0 : Int) < (s.size : Int) := by omega
  rcases hd with hd | hd
  · have hz : ((D.size : Int) == 0) = true := by rw [beq_iff_eq]; omega
    go_enter Tryz.func31, Tryz.ntmps31
    go_wp2
    go_ret2
    exact ⟨rfl, Below.refl _ _⟩
  · have hz : ((D.size : Int) == 0) = false := by rw [beq_eq_false_iff_ne]; omega
    have hl' : (19 : Int) < (D.size : Int) := by omega
    go_enter Tryz.func31, Tryz.ntmps31
    go_wp2
    go_ret2
    exact ⟨rfl, Below.refl _ _⟩
set_option maxRecDepth 1000000 in
set_option maxHeartbeats 4000000 in
theorem dec8_neg (s : ByteArray) (h0 : 0 < s.size) (hb : (s[0]'h0).toNat = 45) (D : ByteArray) (hD : s.extract 1 s.size = D) (hd : 0 < D.size) (hl : D.size ≤ 19) (w : World) :
    Calls Tryz.prog 31 #[.string s] w fun e w' => e = .returned (dcV (dcD true D.data.toList)) ∧ Below w.heap.size w w' := by
  have h0' : (0 : Int) < (s.size : Int) := by omega
  have hl' : ¬ (19 : Int) < (D.size : Int) := by omega
  have hz : ((D.size : Int) == 0) = false := by rw [beq_eq_false_iff_ne]; omega
  obtain ⟨R, hR⟩ : ∃ R, ddg 0 D.data.toList = R := ⟨_, rfl⟩
  have HR : Hid (ddg 0 D.data.toList = R) := hR
  have HD : Hid (dcD true D.data.toList = dcE true R) := by unfold Hid; rw [dcD_is true D hd hl, hR]
  clear hR
  go_enter Tryz.func31, Tryz.ntmps31
  go_wp2
  go_loopw [6, 7] (fun sn si wr => ∃ (i acc : Nat), i ≤ D.size ∧ si = .int .i64 (i : Int) ∧ sn = .int .u64 (acc : Int) ∧ acc < 10 ^ i ∧ ddg acc (D.data.toList.drop i) = R ∧ wr = w) (fun _ si _ => D.size - (intOf si).toNat)
  case atStart => exact ⟨0, 0, Nat.zero_le _, rfl, rfl, by simp, HR.out, by first | rfl | trivial⟩
  case round =>
    obtain ⟨i, acc, hi, rfl, rfl, hacc, hv, rfl⟩ := hrel
    have HV : Hid (ddg acc (D.data.toList.drop i) = R) := hv
    clear hv
    by_cases hlt : i < D.size
    · have hlt' : (i : Int) < (D.size : Int) := by omega
      have hstep := drop_at8 D i hlt
      have hac18 : acc < 1000000000000000000 := Nat.lt_of_lt_of_le hacc (Nat.pow_le_pow_right (by omega) (show i ≤ 18 by omega))
      obtain ⟨c2, hc2⟩ : ∃ c2, (D[i]'hlt).toNat = c2 := ⟨_, rfl⟩
      have HV2 : Hid ((if c2 < 48 ∨ 57 < c2 then none else ddg (10 * acc + (c2 - 48)) (D.data.toList.drop (i + 1))) = R) := by
        unfold Hid; rw [← HV.out, hstep, ddg, hc2]
      have HP : Hid (10 * acc + (c2 - 48) < 10 ^ (i + 1) ∨ 57 < c2) := by unfold Hid; rw [Nat.pow_succ]; omega
      clear hstep hacc
      by_cases h1 : c2 < 48
      · have HN : Hid (R = none) := by unfold Hid; rw [← HV2.out, if_pos (.inl h1)]
        have h1' : (c2 : Int) < 48 := by omega
        go_wp2
        go_ret2
        exact ⟨by rw [HD.out, HN.out]; rfl, Below.refl _ _⟩
      · by_cases h2 : 57 < c2
        · have HN : Hid (R = none) := by unfold Hid; rw [← HV2.out, if_pos (.inr h2)]
          have h1' : ¬ (c2 : Int) < 48 := by omega
          have h2' : (57 : Int) < (c2 : Int) := by omega
          go_wp2
          go_ret2
          exact ⟨by rw [HD.out, HN.out]; rfl, Below.refl _ _⟩
        · have HN : Hid (ddg (10 * acc + (c2 - 48)) (D.data.toList.drop (i + 1)) = R) := by unfold Hid; rw [← HV2.out, if_neg (by omega)]
          have h1' : ¬ (c2 : Int) < 48 := by omega
          have h2' : ¬ (57 : Int) < (c2 : Int) := by omega
          go_wp2
          go_roundw
          case rel => exact ⟨i + 1, 10 * acc + (c2 - 48), by omega, by go_num, by go_num, by rcases HP.out with h | h; (· exact h); omega, HN.out, by first | rfl | trivial⟩
          case measure => simp [intOf]; omega
    · have hlt' : ¬ (i : Int) < (D.size : Int) := by omega
      have HN : Hid (R = some acc) := by unfold Hid; rw [← HV.out, drop_end8 D i (by omega)]; rfl
      have hacc' : acc < 10 ^ 19 := Nat.lt_of_lt_of_le hacc (Nat.pow_le_pow_right (by omega) (by omega))
      by_cases h4 : acc = 9223372036854775808
      · subst h4
        go_wp2
        go_ret2
        exact ⟨by rw [HD.out, HN.out]; rfl, Below.refl _ _⟩
      · have h4' : ((acc : Int) == 9223372036854775808) = false := by rw [beq_eq_false_iff_ne]; omega
        by_cases h3 : 9223372036854775808 ≤ acc
        · have h3' : (9223372036854775808 : Int) ≤ (acc : Int) := by omega
          go_wp2
          go_ret2
          exact ⟨by rw [HD.out, HN.out]; simp [dcE, h3, h4]; rfl, Below.refl _ _⟩
        · have h3' : ¬ (9223372036854775808 : Int) ≤ (acc : Int) := by omega
          go_wp2
          go_ret2
          exact ⟨by rw [HD.out, HN.out]; simp [dcE, h3, h4, dcV], Below.refl _ _⟩
theorem drop_one8 (s : ByteArray) : (s.extract 1 s.size).data.toList = s.data.toList.drop 1 := by
  have e : s.size = s.data.toList.length := by rw [Array.length_toList]; rfl
  rw [ByteArray.data_extract, Array.toList_extract, List.extract_eq_take_drop, e]
  rw [List.take_of_length_le (by simp)]
theorem decimal_any (s : ByteArray) (hs : s.size ≤ 2147483648) (w : World) :
    Calls Tryz.prog 31 #[.string s] w fun e w' => e = .returned (dcV (dcm s.data.toList)) ∧ Below w.heap.size w w' := by
  by_cases h0 : s.size = 0
  · have e : s.data.toList = [] := by simpa using drop_end8 s 0 (by omega)
    rw [e]
    exact dec8_none s h0 w
  · have h0 : 0 < s.size := by omega
    have e : s.data.toList = s[0] :: s.data.toList.drop 1 := by simpa using drop_at8 s 0 h0
    have hlen : s.data.toList.length = s.size := by rw [Array.length_toList]; rfl
    by_cases hb : (s[0]'h0).toNat = 45
    · have hb' : (s[0]'h0) = 45 := UInt8.toNat_inj.1 hb
      have e2 : dcm s.data.toList = dcD true (s.extract 1 s.size).data.toList := by
        rw [drop_one8, e]
        simp only [dcm, List.drop_succ_cons, List.drop_zero]
        rw [if_pos hb']
      rw [e2]
      by_cases hd : (s.extract 1 s.size).size = 0 ∨ 19 < (s.extract 1 s.size).size
      · have hl : (s.extract 1 s.size).data.toList.length = (s.extract 1 s.size).size := by rw [Array.length_toList]; rfl
        have e3 : dcD true (s.extract 1 s.size).data.toList = none := by
          unfold dcD
          rw [if_pos]
          rcases hd with hd | hd
          · left; exact List.eq_nil_of_length_eq_zero (by omega)
          · right; omega
        rw [e3]
        exact dec8_odd s h0 hb _ rfl hd w
      · exact dec8_neg s h0 hb _ rfl (by omega) (by omega) w
    · have hb' : ¬ (s[0]'h0) = 45 := fun h => hb (by rw [h]; rfl)
      have e2 : dcm s.data.toList = dcD false s.data.toList := by
        rw [e]
        simp only [dcm]
        rw [if_neg hb']
      rw [e2]
      by_cases hl : 19 < s.size
      · have e3 : dcD false s.data.toList = none := by
          unfold dcD
          rw [if_pos (.inr (by omega))]
        rw [e3]
        exact dec8_long s h0 hb hl hs w
      · exact dec8_pos s h0 hb (by omega) w
end Go.Proofs.YtnaipmgdipflgaaGreatDoor

namespace Go.Proofs.YtnaipmgdipflgaaGreatDoor
open Go.ChangeShapes Go.WideShapes Go.ChangeAt Go.RowKit
set_option linter.unusedVariables false
set_option linter.unusedSimpArgs false

set_option maxRecDepth 1000000 in
set_option maxHeartbeats 4000000 in
theorem rread_tru (w : World) :
    Calls Tryz.prog 11 #[.string ⟨#[116, 114, 117, 101]⟩] w fun e w' => e = .returned (.tuple #[.agg #[.int .u8 1, .bool true, .int .i64 0, .string ⟨#[]⟩], .int .i64 0]) ∧ Below w.heap.size w w' := by
  obtain ⟨w2, e2, hb2, hs2, B2, C2⟩ := bx2 w #[.int .u8 0, .bool false, .int .i64 0, .string ⟨#[]⟩] #[.int .u8 0, .bool false, .int .i64 0, .string ⟨#[]⟩] 25 25
  have HB2 : Hid (Below w.heap.size w w2) := hb2
  have HX2 : Hid (Bx w2 w.heap.size #[.int .u8 0, .bool false, .int .i64 0, .string ⟨#[]⟩] 25) := B2
  have HY2 : Hid (Bx w2 (w.heap.size + 1) #[.int .u8 0, .bool false, .int .i64 0, .string ⟨#[]⟩] 25) := C2
  clear hb2 B2 C2 hs2
  go_enter Tryz.func11, Tryz.ntmps11
  go_wp2_with (go_at_call 30; (with_reducible refine (truth8_any _ _).mono ?_); rintro e w3 ⟨rfl, hb3⟩; have HB3 : Hid (Below w.heap.size w w3) := HB2.out.trans (hb3.mono HB2.out.size); have HX3 : Hid (Bx w3 w.heap.size #[.int .u8 0, .bool false, .int .i64 0, .string ⟨#[]⟩] 25) := HX2.out.below hb3 HX2.out.lt; have HY3 : Hid (Bx w3 (w.heap.size + 1) #[.int .u8 0, .bool false, .int .i64 0, .string ⟨#[]⟩] 25) := HY2.out.below hb3 HY2.out.lt; obtain ⟨d0, d1, d2, d3, g0, g1, g2, g3, l3⟩ := HX3.out.facts4; obtain ⟨y0, y1, y2, y3, x0, x1, x2, x3, l4⟩ := HY3.out.facts4; clear hb3)
  obtain ⟨r0, r1, r2, r3⟩ := HX3.out.read4 (.int .u8 1) (.bool true) (.int .i64 0) (.string ⟨#[]⟩)
  refine bodyPost_ret (v := .tuple #[.agg #[.int .u8 1, .bool true, .int .i64 0, .string ⟨#[]⟩], .int .i64 0]) (by simp [vlV, results, Tryz.results11, go_sem, r0, r1, r2, r3]) rfl ⟨rfl, bel_put4 HB3.out (Nat.le_refl _)⟩
set_option maxRecDepth 1000000 in
set_option maxHeartbeats 4000000 in
theorem rread_fls (w : World) :
    Calls Tryz.prog 11 #[.string ⟨#[102, 97, 108, 115, 101]⟩] w fun e w' => e = .returned (.tuple #[.agg #[.int .u8 1, .bool false, .int .i64 0, .string ⟨#[]⟩], .int .i64 0]) ∧ Below w.heap.size w w' := by
  obtain ⟨w2, e2, hb2, hs2, B2, C2⟩ := bx2 w #[.int .u8 0, .bool false, .int .i64 0, .string ⟨#[]⟩] #[.int .u8 0, .bool false, .int .i64 0, .string ⟨#[]⟩] 25 25
  have HB2 : Hid (Below w.heap.size w w2) := hb2
  have HX2 : Hid (Bx w2 w.heap.size #[.int .u8 0, .bool false, .int .i64 0, .string ⟨#[]⟩] 25) := B2
  have HY2 : Hid (Bx w2 (w.heap.size + 1) #[.int .u8 0, .bool false, .int .i64 0, .string ⟨#[]⟩] 25) := C2
  clear hb2 B2 C2 hs2
  go_enter Tryz.func11, Tryz.ntmps11
  go_wp2_with (go_at_call 30; (with_reducible refine (truth8_any _ _).mono ?_); rintro e w3 ⟨rfl, hb3⟩; have HB3 : Hid (Below w.heap.size w w3) := HB2.out.trans (hb3.mono HB2.out.size); have HX3 : Hid (Bx w3 w.heap.size #[.int .u8 0, .bool false, .int .i64 0, .string ⟨#[]⟩] 25) := HX2.out.below hb3 HX2.out.lt; have HY3 : Hid (Bx w3 (w.heap.size + 1) #[.int .u8 0, .bool false, .int .i64 0, .string ⟨#[]⟩] 25) := HY2.out.below hb3 HY2.out.lt; obtain ⟨d0, d1, d2, d3, g0, g1, g2, g3, l3⟩ := HX3.out.facts4; obtain ⟨y0, y1, y2, y3, x0, x1, x2, x3, l4⟩ := HY3.out.facts4; clear hb3)
  obtain ⟨r0, r1, r2, r3⟩ := HX3.out.read4 (.int .u8 1) (.bool false) (.int .i64 0) (.string ⟨#[]⟩)
  refine bodyPost_ret (v := .tuple #[.agg #[.int .u8 1, .bool false, .int .i64 0, .string ⟨#[]⟩], .int .i64 0]) (by simp [vlV, results, Tryz.results11, go_sem, r0, r1, r2, r3]) rfl ⟨rfl, bel_put4 HB3.out (Nat.le_refl _)⟩
set_option maxRecDepth 1000000 in
set_option maxHeartbeats 4000000 in
theorem rread_txt_bad (s : ByteArray) (w : World) (h1 : (s.toList == [116, 114, 117, 101]) = false) (h2 : (s.toList == [102, 97, 108, 115, 101]) = false) (h0 : 0 < s.size) (hq : (s[0]'h0).toNat = 34) (t : ByteArray)
    (HF : Hid (∀ v, Below w.heap.size w v → Calls Tryz.prog 22 #[.string s] v fun e w' => e = .returned (.tuple #[.string t, .int .i64 22]) ∧ Below v.heap.size v w')) :
    Calls Tryz.prog 11 #[.string s] w fun e w' => e = .returned (vlV 0 0 ⟨#[]⟩ 1) ∧ Below w.heap.size w w' := by
  obtain ⟨w2, e2, hb2, hs2, B2, C2⟩ := bx2 w #[.int .u8 0, .bool false, .int .i64 0, .string ⟨#[]⟩] #[.int .u8 0, .bool false, .int .i64 0, .string ⟨#[]⟩] 25 25
  have HB2 : Hid (Below w.heap.size w w2) := hb2
  have HX2 : Hid (Bx w2 w.heap.size #[.int .u8 0, .bool false, .int .i64 0, .string ⟨#[]⟩] 25) := B2
  have HY2 : Hid (Bx w2 (w.heap.size + 1) #[.int .u8 0, .bool false, .int .i64 0, .string ⟨#[]⟩] 25) := C2
  clear hb2 B2 C2 hs2
  have h0' : (0 : Int) < (s.size : Int) := by omega
  go_enter Tryz.func11, Tryz.ntmps11
  go_wp2_with (first
    | (go_at_call 22; (with_reducible refine (HF.out _ HB2.out).mono ?_); rintro e w3 ⟨rfl, hb3⟩; have HB3 : Hid (Below w.heap.size w w3) := HB2.out.trans (hb3.mono HB2.out.size); have HX3 : Hid (Bx w3 w.heap.size #[.int .u8 0, .bool false, .int .i64 0, .string ⟨#[]⟩] 25) := HX2.out.below hb3 HX2.out.lt; have HY3 : Hid (Bx w3 (w.heap.size + 1) #[.int .u8 0, .bool false, .int .i64 0, .string ⟨#[]⟩] 25) := HY2.out.below hb3 HY2.out.lt; clear hb3)
    | (go_at_call 18; (with_reducible refine (wrong_any _ _).mono ?_); rintro e w4 ⟨rfl, hb4⟩; have HB4 : Hid (Below w.heap.size w w4) := HB3.out.trans (hb4.mono HB3.out.size); have HX4 : Hid (Bx w4 w.heap.size #[.int .u8 0, .bool false, .int .i64 0, .string ⟨#[]⟩] 25) := HX3.out.below hb4 HX3.out.lt; have HY4 : Hid (Bx w4 (w.heap.size + 1) #[.int .u8 0, .bool false, .int .i64 0, .string ⟨#[]⟩] 25) := HY3.out.below hb4 HY3.out.lt; obtain ⟨d0, d1, d2, d3, g0, g1, g2, g3, l3⟩ := HX4.out.facts4; obtain ⟨y0, y1, y2, y3, x0, x1, x2, x3, l4⟩ := HY4.out.facts4; clear hb4))
  obtain ⟨r0, r1, r2, r3⟩ := HX4.out.read4 (.int .u8 0) (.bool false) (.int .i64 0) (.string ⟨#[]⟩)
  refine bodyPost_ret (v := vlV 0 0 ⟨#[]⟩ 1) (by simp [vlV, results, Tryz.results11, go_sem, r0, r1, r2, r3]) rfl ⟨rfl, bel_put4 HB4.out (Nat.le_refl _)⟩
set_option maxRecDepth 1000000 in
set_option maxHeartbeats 4000000 in
theorem rread_txt_ne (s : ByteArray) (w : World) (h1 : (s.toList == [116, 114, 117, 101]) = false) (h2 : (s.toList == [102, 97, 108, 115, 101]) = false) (h0 : 0 < s.size) (hq : (s[0]'h0).toNat = 34) (t : ByteArray) (q : ByteArray) (hs : (q.toList == s.toList) = false)
    (HF : Hid (∀ v, Below w.heap.size w v → Calls Tryz.prog 22 #[.string s] v fun e w' => e = .returned (.tuple #[.string t, .int .i64 0]) ∧ Below v.heap.size v w'))
    (HS : Hid (∀ v, Below w.heap.size w v → Calls Tryz.prog 12 #[.agg #[.int .u8 3, .bool false, .int .i64 0, .string t]] v fun e w' => e = .returned (.string q) ∧ Below v.heap.size v w')) :
    Calls Tryz.prog 11 #[.string s] w fun e w' => e = .returned (vlV 0 0 ⟨#[]⟩ 1) ∧ Below w.heap.size w w' := by
  obtain ⟨w2, e2, hb2, hs2, B2, C2⟩ := bx2 w #[.int .u8 0, .bool false, .int .i64 0, .string ⟨#[]⟩] #[.int .u8 0, .bool false, .int .i64 0, .string ⟨#[]⟩] 25 25
  have HB2 : Hid (Below w.heap.size w w2) := hb2
  have HX2 : Hid (Bx w2 w.heap.size #[.int .u8 0, .bool false, .int .i64 0, .string ⟨#[]⟩] 25) := B2
  have HY2 : Hid (Bx w2 (w.heap.size + 1) #[.int .u8 0, .bool false, .int .i64 0, .string ⟨#[]⟩] 25) := C2
  clear hb2 B2 C2 hs2
  have h0' : (0 : Int) < (s.size : Int) := by omega
  go_enter Tryz.func11, Tryz.ntmps11
  go_wp2_with (first
    | (go_at_call 22; (with_reducible refine (HF.out _ HB2.out).mono ?_); rintro e w3 ⟨rfl, hb3⟩; have HB3 : Hid (Below w.heap.size w w3) := HB2.out.trans (hb3.mono HB2.out.size); have HX3 : Hid (Bx w3 w.heap.size #[.int .u8 0, .bool false, .int .i64 0, .string ⟨#[]⟩] 25) := HX2.out.below hb3 HX2.out.lt; have HY3 : Hid (Bx w3 (w.heap.size + 1) #[.int .u8 0, .bool false, .int .i64 0, .string ⟨#[]⟩] 25) := HY2.out.below hb3 HY2.out.lt; clear hb3)
    | (go_at_call 23; (with_reducible refine (words8_any _ _).mono ?_); rintro e w4 ⟨rfl, hb4⟩; have HB4 : Hid (Below w.heap.size w w4) := HB3.out.trans (hb4.mono HB3.out.size); have HX4 : Hid (Bx w4 w.heap.size #[.int .u8 0, .bool false, .int .i64 0, .string ⟨#[]⟩] 25) := HX3.out.below hb4 HX3.out.lt; have HY4 : Hid (Bx w4 (w.heap.size + 1) #[.int .u8 0, .bool false, .int .i64 0, .string ⟨#[]⟩] 25) := HY3.out.below hb4 HY3.out.lt; obtain ⟨w5, e5⟩ : ∃ w5, ((((w4.setCell ⟨w.heap.size + 1, 0, none⟩ (.int .u8 3)).setCell ⟨w.heap.size + 1, 1, none⟩ (.bool false)).setCell ⟨w.heap.size + 1, 2, none⟩ (.int .i64 0)).setCell ⟨w.heap.size + 1, 3, none⟩ (.string t)) = w5 := ⟨_, rfl⟩; have HB5 : Hid (Below w.heap.size w w5) := e5 ▸ bel_put4 HB4.out (by omega); have HX5 : Hid (Bx w5 w.heap.size #[.int .u8 0, .bool false, .int .i64 0, .string ⟨#[]⟩] 25) := e5 ▸ (((HX4.out.other ⟨w.heap.size + 1, 0, none⟩ (by simp) _).other ⟨w.heap.size + 1, 1, none⟩ (by simp) _).other ⟨w.heap.size + 1, 2, none⟩ (by simp) _).other ⟨w.heap.size + 1, 3, none⟩ (by simp) _; have HY5 : Hid (Bx w5 (w.heap.size + 1) #[.int .u8 3, .bool false, .int .i64 0, .string t] 25) := e5 ▸ HY4.out.nowV _ _ _ _; obtain ⟨k0, k1, k2, k3, j0, j1, j2, j3, l9⟩ := HY4.out.facts4; obtain ⟨d0, d1, d2, d3, g0, g1, g2, g3, l3⟩ := HX5.out.facts4; obtain ⟨y0, y1, y2, y3, x0, x1, x2, x3, l4⟩ := HY5.out.facts4; clear hb4)
    | (go_at_call 12; (with_reducible refine (HS.out _ HB5.out).mono ?_); rintro e w6 ⟨rfl, hb6⟩; have HB6 : Hid (Below w.heap.size w w6) := HB5.out.trans (hb6.mono HB5.out.size); have HX6 : Hid (Bx w6 w.heap.size #[.int .u8 0, .bool false, .int .i64 0, .string ⟨#[]⟩] 25) := HX5.out.below hb6 HX5.out.lt; have HY6 : Hid (Bx w6 (w.heap.size + 1) #[.int .u8 3, .bool false, .int .i64 0, .string t] 25) := HY5.out.below hb6 HY5.out.lt; clear hb6)
    | (go_at_call 18; (with_reducible refine (wrong_any _ _).mono ?_); rintro e w7 ⟨rfl, hb7⟩; have HB7 : Hid (Below w.heap.size w w7) := HB6.out.trans (hb7.mono HB6.out.size); have HX7 : Hid (Bx w7 w.heap.size #[.int .u8 0, .bool false, .int .i64 0, .string ⟨#[]⟩] 25) := HX6.out.below hb7 HX6.out.lt; have HY7 : Hid (Bx w7 (w.heap.size + 1) #[.int .u8 3, .bool false, .int .i64 0, .string t] 25) := HY6.out.below hb7 HY6.out.lt; obtain ⟨d0, d1, d2, d3, g0, g1, g2, g3, l3⟩ := HX7.out.facts4; obtain ⟨y0, y1, y2, y3, x0, x1, x2, x3, l4⟩ := HY7.out.facts4; clear hb7))
  obtain ⟨r0, r1, r2, r3⟩ := HX7.out.read4 (.int .u8 0) (.bool false) (.int .i64 0) (.string ⟨#[]⟩)
  refine bodyPost_ret (v := vlV 0 0 ⟨#[]⟩ 1) (by simp [vlV, results, Tryz.results11, go_sem, r0, r1, r2, r3]) rfl ⟨rfl, bel_put4 HB7.out (Nat.le_refl _)⟩
set_option maxRecDepth 1000000 in
set_option maxHeartbeats 4000000 in
theorem rread_txt_eq (s : ByteArray) (w : World) (h1 : (s.toList == [116, 114, 117, 101]) = false) (h2 : (s.toList == [102, 97, 108, 115, 101]) = false) (h0 : 0 < s.size) (hq : (s[0]'h0).toNat = 34) (t : ByteArray) (q : ByteArray) (hs : (q.toList == s.toList) = true)
    (HF : Hid (∀ v, Below w.heap.size w v → Calls Tryz.prog 22 #[.string s] v fun e w' => e = .returned (.tuple #[.string t, .int .i64 0]) ∧ Below v.heap.size v w'))
    (HS : Hid (∀ v, Below w.heap.size w v → Calls Tryz.prog 12 #[.agg #[.int .u8 3, .bool false, .int .i64 0, .string t]] v fun e w' => e = .returned (.string q) ∧ Below v.heap.size v w')) :
    Calls Tryz.prog 11 #[.string s] w fun e w' => e = .returned (.tuple #[.agg #[.int .u8 3, .bool false, .int .i64 0, .string t], .int .i64 0]) ∧ Below w.heap.size w w' := by
  obtain ⟨w2, e2, hb2, hs2, B2, C2⟩ := bx2 w #[.int .u8 0, .bool false, .int .i64 0, .string ⟨#[]⟩] #[.int .u8 0, .bool false, .int .i64 0, .string ⟨#[]⟩] 25 25
  have HB2 : Hid (Below w.heap.size w w2) := hb2
  have HX2 : Hid (Bx w2 w.heap.size #[.int .u8 0, .bool false, .int .i64 0, .string ⟨#[]⟩] 25) := B2
  have HY2 : Hid (Bx w2 (w.heap.size + 1) #[.int .u8 0, .bool false, .int .i64 0, .string ⟨#[]⟩] 25) := C2
  clear hb2 B2 C2 hs2
  have h0' : (0 : Int) < (s.size : Int) := by omega
  go_enter Tryz.func11, Tryz.ntmps11
  go_wp2_with (first
    | (go_at_call 22; (with_reducible refine (HF.out _ HB2.out).mono ?_); rintro e w3 ⟨rfl, hb3⟩; have HB3 : Hid (Below w.heap.size w w3) := HB2.out.trans (hb3.mono HB2.out.size); have HX3 : Hid (Bx w3 w.heap.size #[.int .u8 0, .bool false, .int .i64 0, .string ⟨#[]⟩] 25) := HX2.out.below hb3 HX2.out.lt; have HY3 : Hid (Bx w3 (w.heap.size + 1) #[.int .u8 0, .bool false, .int .i64 0, .string ⟨#[]⟩] 25) := HY2.out.below hb3 HY2.out.lt; clear hb3)
    | (go_at_call 23; (with_reducible refine (words8_any _ _).mono ?_); rintro e w4 ⟨rfl, hb4⟩; have HB4 : Hid (Below w.heap.size w w4) := HB3.out.trans (hb4.mono HB3.out.size); have HX4 : Hid (Bx w4 w.heap.size #[.int .u8 0, .bool false, .int .i64 0, .string ⟨#[]⟩] 25) := HX3.out.below hb4 HX3.out.lt; have HY4 : Hid (Bx w4 (w.heap.size + 1) #[.int .u8 0, .bool false, .int .i64 0, .string ⟨#[]⟩] 25) := HY3.out.below hb4 HY3.out.lt; obtain ⟨w5, e5⟩ : ∃ w5, ((((w4.setCell ⟨w.heap.size + 1, 0, none⟩ (.int .u8 3)).setCell ⟨w.heap.size + 1, 1, none⟩ (.bool false)).setCell ⟨w.heap.size + 1, 2, none⟩ (.int .i64 0)).setCell ⟨w.heap.size + 1, 3, none⟩ (.string t)) = w5 := ⟨_, rfl⟩; have HB5 : Hid (Below w.heap.size w w5) := e5 ▸ bel_put4 HB4.out (by omega); have HX5 : Hid (Bx w5 w.heap.size #[.int .u8 0, .bool false, .int .i64 0, .string ⟨#[]⟩] 25) := e5 ▸ (((HX4.out.other ⟨w.heap.size + 1, 0, none⟩ (by simp) _).other ⟨w.heap.size + 1, 1, none⟩ (by simp) _).other ⟨w.heap.size + 1, 2, none⟩ (by simp) _).other ⟨w.heap.size + 1, 3, none⟩ (by simp) _; have HY5 : Hid (Bx w5 (w.heap.size + 1) #[.int .u8 3, .bool false, .int .i64 0, .string t] 25) := e5 ▸ HY4.out.nowV _ _ _ _; obtain ⟨k0, k1, k2, k3, j0, j1, j2, j3, l9⟩ := HY4.out.facts4; obtain ⟨d0, d1, d2, d3, g0, g1, g2, g3, l3⟩ := HX5.out.facts4; obtain ⟨y0, y1, y2, y3, x0, x1, x2, x3, l4⟩ := HY5.out.facts4; clear hb4)
    | (go_at_call 12; (with_reducible refine (HS.out _ HB5.out).mono ?_); rintro e w6 ⟨rfl, hb6⟩; have HB6 : Hid (Below w.heap.size w w6) := HB5.out.trans (hb6.mono HB5.out.size); have HX6 : Hid (Bx w6 w.heap.size #[.int .u8 0, .bool false, .int .i64 0, .string ⟨#[]⟩] 25) := HX5.out.below hb6 HX5.out.lt; have HY6 : Hid (Bx w6 (w.heap.size + 1) #[.int .u8 3, .bool false, .int .i64 0, .string t] 25) := HY5.out.below hb6 HY5.out.lt; obtain ⟨d0, d1, d2, d3, g0, g1, g2, g3, l3⟩ := HX6.out.facts4; obtain ⟨y0, y1, y2, y3, x0, x1, x2, x3, l4⟩ := HY6.out.facts4; clear hb6))
  obtain ⟨r0, r1, r2, r3⟩ := HX6.out.read4 (.int .u8 3) (.bool false) (.int .i64 0) (.string t)
  refine bodyPost_ret (v := .tuple #[.agg #[.int .u8 3, .bool false, .int .i64 0, .string t], .int .i64 0]) (by simp [vlV, results, Tryz.results11, go_sem, r0, r1, r2, r3]) rfl ⟨rfl, bel_put4 HB6.out (Nat.le_refl _)⟩
set_option maxRecDepth 1000000 in
set_option maxHeartbeats 4000000 in
theorem rread_num_bad (s : ByteArray) (w : World) (h1 : (s.toList == [116, 114, 117, 101]) = false) (h2 : (s.toList == [102, 97, 108, 115, 101]) = false) (hn : s.size = 0 ∨ ∃ h0 : 0 < s.size, (s[0]'h0).toNat ≠ 34) (n : Int)
    (HF : Hid (∀ v, Below w.heap.size w v → Calls Tryz.prog 31 #[.string s] v fun e w' => e = .returned (.tuple #[.int .i64 n, .bool false]) ∧ Below v.heap.size v w')) :
    Calls Tryz.prog 11 #[.string s] w fun e w' => e = .returned (vlV 0 0 ⟨#[]⟩ 1) ∧ Below w.heap.size w w' := by
  obtain ⟨w2, e2, hb2, hs2, B2, C2⟩ := bx2 w #[.int .u8 0, .bool false, .int .i64 0, .string ⟨#[]⟩] #[.int .u8 0, .bool false, .int .i64 0, .string ⟨#[]⟩] 25 25
  have HB2 : Hid (Below w.heap.size w w2) := hb2
  have HX2 : Hid (Bx w2 w.heap.size #[.int .u8 0, .bool false, .int .i64 0, .string ⟨#[]⟩] 25) := B2
  have HY2 : Hid (Bx w2 (w.heap.size + 1) #[.int .u8 0, .bool false, .int .i64 0, .string ⟨#[]⟩] 25) := C2
  clear hb2 B2 C2 hs2
  rcases hn with hn | ⟨h0, hn⟩
  · have h0' : ¬ (0 : Int) < (s.size : Int) := by omega
    go_enter Tryz.func11, Tryz.ntmps11
    go_wp2_with (first
      | (go_at_call 31; (with_reducible refine (HF.out _ HB2.out).mono ?_); rintro e w3 ⟨rfl, hb3⟩; have HB3 : Hid (Below w.heap.size w w3) := HB2.out.trans (hb3.mono HB2.out.size); have HX3 : Hid (Bx w3 w.heap.size #[.int .u8 0, .bool false, .int .i64 0, .string ⟨#[]⟩] 25) := HX2.out.below hb3 HX2.out.lt; have HY3 : Hid (Bx w3 (w.heap.size + 1) #[.int .u8 0, .bool false, .int .i64 0, .string ⟨#[]⟩] 25) := HY2.out.below hb3 HY2.out.lt; clear hb3)
      | (go_at_call 18; (with_reducible refine (wrong_any _ _).mono ?_); rintro e w4 ⟨rfl, hb4⟩; have HB4 : Hid (Below w.heap.size w w4) := HB3.out.trans (hb4.mono HB3.out.size); have HX4 : Hid (Bx w4 w.heap.size #[.int .u8 0, .bool false, .int .i64 0, .string ⟨#[]⟩] 25) := HX3.out.below hb4 HX3.out.lt; have HY4 : Hid (Bx w4 (w.heap.size + 1) #[.int .u8 0, .bool false, .int .i64 0, .string ⟨#[]⟩] 25) := HY3.out.below hb4 HY3.out.lt; obtain ⟨d0, d1, d2, d3, g0, g1, g2, g3, l3⟩ := HX4.out.facts4; obtain ⟨y0, y1, y2, y3, x0, x1, x2, x3, l4⟩ := HY4.out.facts4; clear hb4))
    obtain ⟨r0, r1, r2, r3⟩ := HX4.out.read4 (.int .u8 0) (.bool false) (.int .i64 0) (.string ⟨#[]⟩)
    refine bodyPost_ret (v := vlV 0 0 ⟨#[]⟩ 1) (by simp [vlV, results, Tryz.results11, go_sem, r0, r1, r2, r3]) rfl ⟨rfl, bel_put4 HB4.out (Nat.le_refl _)⟩
  · have h0' : (0 : Int) < (s.size : Int) := by omega
    obtain ⟨c, hc⟩ : ∃ c, (s[0]'h0).toNat = c := ⟨_, rfl⟩
    rw [hc] at hn
    have hn' : ((c : Int) == 34) = false := by rw [beq_eq_false_iff_ne]; omega
    go_enter Tryz.func11, Tryz.ntmps11
    go_wp2_with (first
      | (go_at_call 31; (with_reducible refine (HF.out _ HB2.out).mono ?_); rintro e w3 ⟨rfl, hb3⟩; have HB3 : Hid (Below w.heap.size w w3) := HB2.out.trans (hb3.mono HB2.out.size); have HX3 : Hid (Bx w3 w.heap.size #[.int .u8 0, .bool false, .int .i64 0, .string ⟨#[]⟩] 25) := HX2.out.below hb3 HX2.out.lt; have HY3 : Hid (Bx w3 (w.heap.size + 1) #[.int .u8 0, .bool false, .int .i64 0, .string ⟨#[]⟩] 25) := HY2.out.below hb3 HY2.out.lt; clear hb3)
      | (go_at_call 18; (with_reducible refine (wrong_any _ _).mono ?_); rintro e w4 ⟨rfl, hb4⟩; have HB4 : Hid (Below w.heap.size w w4) := HB3.out.trans (hb4.mono HB3.out.size); have HX4 : Hid (Bx w4 w.heap.size #[.int .u8 0, .bool false, .int .i64 0, .string ⟨#[]⟩] 25) := HX3.out.below hb4 HX3.out.lt; have HY4 : Hid (Bx w4 (w.heap.size + 1) #[.int .u8 0, .bool false, .int .i64 0, .string ⟨#[]⟩] 25) := HY3.out.below hb4 HY3.out.lt; obtain ⟨d0, d1, d2, d3, g0, g1, g2, g3, l3⟩ := HX4.out.facts4; obtain ⟨y0, y1, y2, y3, x0, x1, x2, x3, l4⟩ := HY4.out.facts4; clear hb4))
    obtain ⟨r0, r1, r2, r3⟩ := HX4.out.read4 (.int .u8 0) (.bool false) (.int .i64 0) (.string ⟨#[]⟩)
    refine bodyPost_ret (v := vlV 0 0 ⟨#[]⟩ 1) (by simp [vlV, results, Tryz.results11, go_sem, r0, r1, r2, r3]) rfl ⟨rfl, bel_put4 HB4.out (Nat.le_refl _)⟩
set_option maxRecDepth 1000000 in
set_option maxHeartbeats 4000000 in
theorem rread_num_ne (s : ByteArray) (w : World) (h1 : (s.toList == [116, 114, 117, 101]) = false) (h2 : (s.toList == [102, 97, 108, 115, 101]) = false) (hn : s.size = 0 ∨ ∃ h0 : 0 < s.size, (s[0]'h0).toNat ≠ 34) (n : Int) (q : ByteArray) (hs : (q.toList == s.toList) = false)
    (HF : Hid (∀ v, Below w.heap.size w v → Calls Tryz.prog 31 #[.string s] v fun e w' => e = .returned (.tuple #[.int .i64 n, .bool true]) ∧ Below v.heap.size v w'))
    (HS : Hid (∀ v, Below w.heap.size w v → Calls Tryz.prog 12 #[.agg #[.int .u8 2, .bool false, .int .i64 n, .string ⟨#[]⟩]] v fun e w' => e = .returned (.string q) ∧ Below v.heap.size v w')) :
    Calls Tryz.prog 11 #[.string s] w fun e w' => e = .returned (vlV 0 0 ⟨#[]⟩ 1) ∧ Below w.heap.size w w' := by
  obtain ⟨w2, e2, hb2, hs2, B2, C2⟩ := bx2 w #[.int .u8 0, .bool false, .int .i64 0, .string ⟨#[]⟩] #[.int .u8 0, .bool false, .int .i64 0, .string ⟨#[]⟩] 25 25
  have HB2 : Hid (Below w.heap.size w w2) := hb2
  have HX2 : Hid (Bx w2 w.heap.size #[.int .u8 0, .bool false, .int .i64 0, .string ⟨#[]⟩] 25) := B2
  have HY2 : Hid (Bx w2 (w.heap.size + 1) #[.int .u8 0, .bool false, .int .i64 0, .string ⟨#[]⟩] 25) := C2
  clear hb2 B2 C2 hs2
  rcases hn with hn | ⟨h0, hn⟩
  · have h0' : ¬ (0 : Int) < (s.size : Int) := by omega
    go_enter Tryz.func11, Tryz.ntmps11
    go_wp2_with (first
      | (go_at_call 31; (with_reducible refine (HF.out _ HB2.out).mono ?_); rintro e w3 ⟨rfl, hb3⟩; have HB3 : Hid (Below w.heap.size w w3) := HB2.out.trans (hb3.mono HB2.out.size); have HX3 : Hid (Bx w3 w.heap.size #[.int .u8 0, .bool false, .int .i64 0, .string ⟨#[]⟩] 25) := HX2.out.below hb3 HX2.out.lt; have HY3 : Hid (Bx w3 (w.heap.size + 1) #[.int .u8 0, .bool false, .int .i64 0, .string ⟨#[]⟩] 25) := HY2.out.below hb3 HY2.out.lt; clear hb3)
      | (go_at_call 20; (with_reducible refine (number8_any _ _).mono ?_); rintro e w4 ⟨rfl, hb4⟩; have HB4 : Hid (Below w.heap.size w w4) := HB3.out.trans (hb4.mono HB3.out.size); have HX4 : Hid (Bx w4 w.heap.size #[.int .u8 0, .bool false, .int .i64 0, .string ⟨#[]⟩] 25) := HX3.out.below hb4 HX3.out.lt; have HY4 : Hid (Bx w4 (w.heap.size + 1) #[.int .u8 0, .bool false, .int .i64 0, .string ⟨#[]⟩] 25) := HY3.out.below hb4 HY3.out.lt; obtain ⟨w5, e5⟩ : ∃ w5, ((((w4.setCell ⟨w.heap.size + 1, 0, none⟩ (.int .u8 2)).setCell ⟨w.heap.size + 1, 1, none⟩ (.bool false)).setCell ⟨w.heap.size + 1, 2, none⟩ (.int .i64 n)).setCell ⟨w.heap.size + 1, 3, none⟩ (.string ⟨#[]⟩)) = w5 := ⟨_, rfl⟩; have HB5 : Hid (Below w.heap.size w w5) := e5 ▸ bel_put4 HB4.out (by omega); have HX5 : Hid (Bx w5 w.heap.size #[.int .u8 0, .bool false, .int .i64 0, .string ⟨#[]⟩] 25) := e5 ▸ (((HX4.out.other ⟨w.heap.size + 1, 0, none⟩ (by simp) _).other ⟨w.heap.size + 1, 1, none⟩ (by simp) _).other ⟨w.heap.size + 1, 2, none⟩ (by simp) _).other ⟨w.heap.size + 1, 3, none⟩ (by simp) _; have HY5 : Hid (Bx w5 (w.heap.size + 1) #[.int .u8 2, .bool false, .int .i64 n, .string ⟨#[]⟩] 25) := e5 ▸ HY4.out.nowV _ _ _ _; obtain ⟨k0, k1, k2, k3, j0, j1, j2, j3, l9⟩ := HY4.out.facts4; obtain ⟨d0, d1, d2, d3, g0, g1, g2, g3, l3⟩ := HX5.out.facts4; obtain ⟨y0, y1, y2, y3, x0, x1, x2, x3, l4⟩ := HY5.out.facts4; clear hb4)
      | (go_at_call 12; (with_reducible refine (HS.out _ HB5.out).mono ?_); rintro e w6 ⟨rfl, hb6⟩; have HB6 : Hid (Below w.heap.size w w6) := HB5.out.trans (hb6.mono HB5.out.size); have HX6 : Hid (Bx w6 w.heap.size #[.int .u8 0, .bool false, .int .i64 0, .string ⟨#[]⟩] 25) := HX5.out.below hb6 HX5.out.lt; have HY6 : Hid (Bx w6 (w.heap.size + 1) #[.int .u8 2, .bool false, .int .i64 n, .string ⟨#[]⟩] 25) := HY5.out.below hb6 HY5.out.lt; clear hb6)
      | (go_at_call 18; (with_reducible refine (wrong_any _ _).mono ?_); rintro e w7 ⟨rfl, hb7⟩; have HB7 : Hid (Below w.heap.size w w7) := HB6.out.trans (hb7.mono HB6.out.size); have HX7 : Hid (Bx w7 w.heap.size #[.int .u8 0, .bool false, .int .i64 0, .string ⟨#[]⟩] 25) := HX6.out.below hb7 HX6.out.lt; have HY7 : Hid (Bx w7 (w.heap.size + 1) #[.int .u8 2, .bool false, .int .i64 n, .string ⟨#[]⟩] 25) := HY6.out.below hb7 HY6.out.lt; obtain ⟨d0, d1, d2, d3, g0, g1, g2, g3, l3⟩ := HX7.out.facts4; obtain ⟨y0, y1, y2, y3, x0, x1, x2, x3, l4⟩ := HY7.out.facts4; clear hb7))
    obtain ⟨r0, r1, r2, r3⟩ := HX7.out.read4 (.int .u8 0) (.bool false) (.int .i64 0) (.string ⟨#[]⟩)
    refine bodyPost_ret (v := vlV 0 0 ⟨#[]⟩ 1) (by simp [vlV, results, Tryz.results11, go_sem, r0, r1, r2, r3]) rfl ⟨rfl, bel_put4 HB7.out (Nat.le_refl _)⟩
  · have h0' : (0 : Int) < (s.size : Int) := by omega
    obtain ⟨c, hc⟩ : ∃ c, (s[0]'h0).toNat = c := ⟨_, rfl⟩
    rw [hc] at hn
    have hn' : ((c : Int) == 34) = false := by rw [beq_eq_false_iff_ne]; omega
    go_enter Tryz.func11, Tryz.ntmps11
    go_wp2_with (first
      | (go_at_call 31; (with_reducible refine (HF.out _ HB2.out).mono ?_); rintro e w3 ⟨rfl, hb3⟩; have HB3 : Hid (Below w.heap.size w w3) := HB2.out.trans (hb3.mono HB2.out.size); have HX3 : Hid (Bx w3 w.heap.size #[.int .u8 0, .bool false, .int .i64 0, .string ⟨#[]⟩] 25) := HX2.out.below hb3 HX2.out.lt; have HY3 : Hid (Bx w3 (w.heap.size + 1) #[.int .u8 0, .bool false, .int .i64 0, .string ⟨#[]⟩] 25) := HY2.out.below hb3 HY2.out.lt; clear hb3)
      | (go_at_call 20; (with_reducible refine (number8_any _ _).mono ?_); rintro e w4 ⟨rfl, hb4⟩; have HB4 : Hid (Below w.heap.size w w4) := HB3.out.trans (hb4.mono HB3.out.size); have HX4 : Hid (Bx w4 w.heap.size #[.int .u8 0, .bool false, .int .i64 0, .string ⟨#[]⟩] 25) := HX3.out.below hb4 HX3.out.lt; have HY4 : Hid (Bx w4 (w.heap.size + 1) #[.int .u8 0, .bool false, .int .i64 0, .string ⟨#[]⟩] 25) := HY3.out.below hb4 HY3.out.lt; obtain ⟨w5, e5⟩ : ∃ w5, ((((w4.setCell ⟨w.heap.size + 1, 0, none⟩ (.int .u8 2)).setCell ⟨w.heap.size + 1, 1, none⟩ (.bool false)).setCell ⟨w.heap.size + 1, 2, none⟩ (.int .i64 n)).setCell ⟨w.heap.size + 1, 3, none⟩ (.string ⟨#[]⟩)) = w5 := ⟨_, rfl⟩; have HB5 : Hid (Below w.heap.size w w5) := e5 ▸ bel_put4 HB4.out (by omega); have HX5 : Hid (Bx w5 w.heap.size #[.int .u8 0, .bool false, .int .i64 0, .string ⟨#[]⟩] 25) := e5 ▸ (((HX4.out.other ⟨w.heap.size + 1, 0, none⟩ (by simp) _).other ⟨w.heap.size + 1, 1, none⟩ (by simp) _).other ⟨w.heap.size + 1, 2, none⟩ (by simp) _).other ⟨w.heap.size + 1, 3, none⟩ (by simp) _; have HY5 : Hid (Bx w5 (w.heap.size + 1) #[.int .u8 2, .bool false, .int .i64 n, .string ⟨#[]⟩] 25) := e5 ▸ HY4.out.nowV _ _ _ _; obtain ⟨k0, k1, k2, k3, j0, j1, j2, j3, l9⟩ := HY4.out.facts4; obtain ⟨d0, d1, d2, d3, g0, g1, g2, g3, l3⟩ := HX5.out.facts4; obtain ⟨y0, y1, y2, y3, x0, x1, x2, x3, l4⟩ := HY5.out.facts4; clear hb4)
      | (go_at_call 12; (with_reducible refine (HS.out _ HB5.out).mono ?_); rintro e w6 ⟨rfl, hb6⟩; have HB6 : Hid (Below w.heap.size w w6) := HB5.out.trans (hb6.mono HB5.out.size); have HX6 : Hid (Bx w6 w.heap.size #[.int .u8 0, .bool false, .int .i64 0, .string ⟨#[]⟩] 25) := HX5.out.below hb6 HX5.out.lt; have HY6 : Hid (Bx w6 (w.heap.size + 1) #[.int .u8 2, .bool false, .int .i64 n, .string ⟨#[]⟩] 25) := HY5.out.below hb6 HY5.out.lt; clear hb6)
      | (go_at_call 18; (with_reducible refine (wrong_any _ _).mono ?_); rintro e w7 ⟨rfl, hb7⟩; have HB7 : Hid (Below w.heap.size w w7) := HB6.out.trans (hb7.mono HB6.out.size); have HX7 : Hid (Bx w7 w.heap.size #[.int .u8 0, .bool false, .int .i64 0, .string ⟨#[]⟩] 25) := HX6.out.below hb7 HX6.out.lt; have HY7 : Hid (Bx w7 (w.heap.size + 1) #[.int .u8 2, .bool false, .int .i64 n, .string ⟨#[]⟩] 25) := HY6.out.below hb7 HY6.out.lt; obtain ⟨d0, d1, d2, d3, g0, g1, g2, g3, l3⟩ := HX7.out.facts4; obtain ⟨y0, y1, y2, y3, x0, x1, x2, x3, l4⟩ := HY7.out.facts4; clear hb7))
    obtain ⟨r0, r1, r2, r3⟩ := HX7.out.read4 (.int .u8 0) (.bool false) (.int .i64 0) (.string ⟨#[]⟩)
    refine bodyPost_ret (v := vlV 0 0 ⟨#[]⟩ 1) (by simp [vlV, results, Tryz.results11, go_sem, r0, r1, r2, r3]) rfl ⟨rfl, bel_put4 HB7.out (Nat.le_refl _)⟩
set_option maxRecDepth 1000000 in
set_option maxHeartbeats 4000000 in
theorem rread_num_eq (s : ByteArray) (w : World) (h1 : (s.toList == [116, 114, 117, 101]) = false) (h2 : (s.toList == [102, 97, 108, 115, 101]) = false) (hn : s.size = 0 ∨ ∃ h0 : 0 < s.size, (s[0]'h0).toNat ≠ 34) (n : Int) (q : ByteArray) (hs : (q.toList == s.toList) = true)
    (HF : Hid (∀ v, Below w.heap.size w v → Calls Tryz.prog 31 #[.string s] v fun e w' => e = .returned (.tuple #[.int .i64 n, .bool true]) ∧ Below v.heap.size v w'))
    (HS : Hid (∀ v, Below w.heap.size w v → Calls Tryz.prog 12 #[.agg #[.int .u8 2, .bool false, .int .i64 n, .string ⟨#[]⟩]] v fun e w' => e = .returned (.string q) ∧ Below v.heap.size v w')) :
    Calls Tryz.prog 11 #[.string s] w fun e w' => e = .returned (.tuple #[.agg #[.int .u8 2, .bool false, .int .i64 n, .string ⟨#[]⟩], .int .i64 0]) ∧ Below w.heap.size w w' := by
  obtain ⟨w2, e2, hb2, hs2, B2, C2⟩ := bx2 w #[.int .u8 0, .bool false, .int .i64 0, .string ⟨#[]⟩] #[.int .u8 0, .bool false, .int .i64 0, .string ⟨#[]⟩] 25 25
  have HB2 : Hid (Below w.heap.size w w2) := hb2
  have HX2 : Hid (Bx w2 w.heap.size #[.int .u8 0, .bool false, .int .i64 0, .string ⟨#[]⟩] 25) := B2
  have HY2 : Hid (Bx w2 (w.heap.size + 1) #[.int .u8 0, .bool false, .int .i64 0, .string ⟨#[]⟩] 25) := C2
  clear hb2 B2 C2 hs2
  rcases hn with hn | ⟨h0, hn⟩
  · have h0' : ¬ (0 : Int) < (s.size : Int) := by omega
    go_enter Tryz.func11, Tryz.ntmps11
    go_wp2_with (first
      | (go_at_call 31; (with_reducible refine (HF.out _ HB2.out).mono ?_); rintro e w3 ⟨rfl, hb3⟩; have HB3 : Hid (Below w.heap.size w w3) := HB2.out.trans (hb3.mono HB2.out.size); have HX3 : Hid (Bx w3 w.heap.size #[.int .u8 0, .bool false, .int .i64 0, .string ⟨#[]⟩] 25) := HX2.out.below hb3 HX2.out.lt; have HY3 : Hid (Bx w3 (w.heap.size + 1) #[.int .u8 0, .bool false, .int .i64 0, .string ⟨#[]⟩] 25) := HY2.out.below hb3 HY2.out.lt; clear hb3)
      | (go_at_call 20; (with_reducible refine (number8_any _ _).mono ?_); rintro e w4 ⟨rfl, hb4⟩; have HB4 : Hid (Below w.heap.size w w4) := HB3.out.trans (hb4.mono HB3.out.size); have HX4 : Hid (Bx w4 w.heap.size #[.int .u8 0, .bool false, .int .i64 0, .string ⟨#[]⟩] 25) := HX3.out.below hb4 HX3.out.lt; have HY4 : Hid (Bx w4 (w.heap.size + 1) #[.int .u8 0, .bool false, .int .i64 0, .string ⟨#[]⟩] 25) := HY3.out.below hb4 HY3.out.lt; obtain ⟨w5, e5⟩ : ∃ w5, ((((w4.setCell ⟨w.heap.size + 1, 0, none⟩ (.int .u8 2)).setCell ⟨w.heap.size + 1, 1, none⟩ (.bool false)).setCell ⟨w.heap.size + 1, 2, none⟩ (.int .i64 n)).setCell ⟨w.heap.size + 1, 3, none⟩ (.string ⟨#[]⟩)) = w5 := ⟨_, rfl⟩; have HB5 : Hid (Below w.heap.size w w5) := e5 ▸ bel_put4 HB4.out (by omega); have HX5 : Hid (Bx w5 w.heap.size #[.int .u8 0, .bool false, .int .i64 0, .string ⟨#[]⟩] 25) := e5 ▸ (((HX4.out.other ⟨w.heap.size + 1, 0, none⟩ (by simp) _).other ⟨w.heap.size + 1, 1, none⟩ (by simp) _).other ⟨w.heap.size + 1, 2, none⟩ (by simp) _).other ⟨w.heap.size + 1, 3, none⟩ (by simp) _; have HY5 : Hid (Bx w5 (w.heap.size + 1) #[.int .u8 2, .bool false, .int .i64 n, .string ⟨#[]⟩] 25) := e5 ▸ HY4.out.nowV _ _ _ _; obtain ⟨k0, k1, k2, k3, j0, j1, j2, j3, l9⟩ := HY4.out.facts4; obtain ⟨d0, d1, d2, d3, g0, g1, g2, g3, l3⟩ := HX5.out.facts4; obtain ⟨y0, y1, y2, y3, x0, x1, x2, x3, l4⟩ := HY5.out.facts4; clear hb4)
      | (go_at_call 12; (with_reducible refine (HS.out _ HB5.out).mono ?_); rintro e w6 ⟨rfl, hb6⟩; have HB6 : Hid (Below w.heap.size w w6) := HB5.out.trans (hb6.mono HB5.out.size); have HX6 : Hid (Bx w6 w.heap.size #[.int .u8 0, .bool false, .int .i64 0, .string ⟨#[]⟩] 25) := HX5.out.below hb6 HX5.out.lt; have HY6 : Hid (Bx w6 (w.heap.size + 1) #[.int .u8 2, .bool false, .int .i64 n, .string ⟨#[]⟩] 25) := HY5.out.below hb6 HY5.out.lt; obtain ⟨d0, d1, d2, d3, g0, g1, g2, g3, l3⟩ := HX6.out.facts4; obtain ⟨y0, y1, y2, y3, x0, x1, x2, x3, l4⟩ := HY6.out.facts4; clear hb6))
    obtain ⟨r0, r1, r2, r3⟩ := HX6.out.read4 (.int .u8 2) (.bool false) (.int .i64 n) (.string ⟨#[]⟩)
    refine bodyPost_ret (v := .tuple #[.agg #[.int .u8 2, .bool false, .int .i64 n, .string ⟨#[]⟩], .int .i64 0]) (by simp [vlV, results, Tryz.results11, go_sem, r0, r1, r2, r3]) rfl ⟨rfl, bel_put4 HB6.out (Nat.le_refl _)⟩
  · have h0' : (0 : Int) < (s.size : Int) := by omega
    obtain ⟨c, hc⟩ : ∃ c, (s[0]'h0).toNat = c := ⟨_, rfl⟩
    rw [hc] at hn
    have hn' : ((c : Int) == 34) = false := by rw [beq_eq_false_iff_ne]; omega
    go_enter Tryz.func11, Tryz.ntmps11
    go_wp2_with (first
      | (go_at_call 31; (with_reducible refine (HF.out _ HB2.out).mono ?_); rintro e w3 ⟨rfl, hb3⟩; have HB3 : Hid (Below w.heap.size w w3) := HB2.out.trans (hb3.mono HB2.out.size); have HX3 : Hid (Bx w3 w.heap.size #[.int .u8 0, .bool false, .int .i64 0, .string ⟨#[]⟩] 25) := HX2.out.below hb3 HX2.out.lt; have HY3 : Hid (Bx w3 (w.heap.size + 1) #[.int .u8 0, .bool false, .int .i64 0, .string ⟨#[]⟩] 25) := HY2.out.below hb3 HY2.out.lt; clear hb3)
      | (go_at_call 20; (with_reducible refine (number8_any _ _).mono ?_); rintro e w4 ⟨rfl, hb4⟩; have HB4 : Hid (Below w.heap.size w w4) := HB3.out.trans (hb4.mono HB3.out.size); have HX4 : Hid (Bx w4 w.heap.size #[.int .u8 0, .bool false, .int .i64 0, .string ⟨#[]⟩] 25) := HX3.out.below hb4 HX3.out.lt; have HY4 : Hid (Bx w4 (w.heap.size + 1) #[.int .u8 0, .bool false, .int .i64 0, .string ⟨#[]⟩] 25) := HY3.out.below hb4 HY3.out.lt; obtain ⟨w5, e5⟩ : ∃ w5, ((((w4.setCell ⟨w.heap.size + 1, 0, none⟩ (.int .u8 2)).setCell ⟨w.heap.size + 1, 1, none⟩ (.bool false)).setCell ⟨w.heap.size + 1, 2, none⟩ (.int .i64 n)).setCell ⟨w.heap.size + 1, 3, none⟩ (.string ⟨#[]⟩)) = w5 := ⟨_, rfl⟩; have HB5 : Hid (Below w.heap.size w w5) := e5 ▸ bel_put4 HB4.out (by omega); have HX5 : Hid (Bx w5 w.heap.size #[.int .u8 0, .bool false, .int .i64 0, .string ⟨#[]⟩] 25) := e5 ▸ (((HX4.out.other ⟨w.heap.size + 1, 0, none⟩ (by simp) _).other ⟨w.heap.size + 1, 1, none⟩ (by simp) _).other ⟨w.heap.size + 1, 2, none⟩ (by simp) _).other ⟨w.heap.size + 1, 3, none⟩ (by simp) _; have HY5 : Hid (Bx w5 (w.heap.size + 1) #[.int .u8 2, .bool false, .int .i64 n, .string ⟨#[]⟩] 25) := e5 ▸ HY4.out.nowV _ _ _ _; obtain ⟨k0, k1, k2, k3, j0, j1, j2, j3, l9⟩ := HY4.out.facts4; obtain ⟨d0, d1, d2, d3, g0, g1, g2, g3, l3⟩ := HX5.out.facts4; obtain ⟨y0, y1, y2, y3, x0, x1, x2, x3, l4⟩ := HY5.out.facts4; clear hb4)
      | (go_at_call 12; (with_reducible refine (HS.out _ HB5.out).mono ?_); rintro e w6 ⟨rfl, hb6⟩; have HB6 : Hid (Below w.heap.size w w6) := HB5.out.trans (hb6.mono HB5.out.size); have HX6 : Hid (Bx w6 w.heap.size #[.int .u8 0, .bool false, .int .i64 0, .string ⟨#[]⟩] 25) := HX5.out.below hb6 HX5.out.lt; have HY6 : Hid (Bx w6 (w.heap.size + 1) #[.int .u8 2, .bool false, .int .i64 n, .string ⟨#[]⟩] 25) := HY5.out.below hb6 HY5.out.lt; obtain ⟨d0, d1, d2, d3, g0, g1, g2, g3, l3⟩ := HX6.out.facts4; obtain ⟨y0, y1, y2, y3, x0, x1, x2, x3, l4⟩ := HY6.out.facts4; clear hb6))
    obtain ⟨r0, r1, r2, r3⟩ := HX6.out.read4 (.int .u8 2) (.bool false) (.int .i64 n) (.string ⟨#[]⟩)
    refine bodyPost_ret (v := .tuple #[.agg #[.int .u8 2, .bool false, .int .i64 n, .string ⟨#[]⟩], .int .i64 0]) (by simp [vlV, results, Tryz.results11, go_sem, r0, r1, r2, r3]) rfl ⟨rfl, bel_put4 HB6.out (Nat.le_refl _)⟩
end Go.Proofs.YtnaipmgdipflgaaGreatDoor

namespace Go.Proofs.YtnaipmgdipflgaaGreatDoor
open Go.ChangeShapes Go.WideShapes Go.ChangeAt Go.RowKit
set_option linter.unusedVariables false
set_option linter.unusedSimpArgs false

/-- the value that is none -/
def zVl : Vl := ⟨0, false, 0, ⟨#[]⟩⟩
/-- what both Reads answer -/
def rdA (s : ByteArray) : Vl × Int :=
  if s.data.toList = [116, 114, 117, 101] then (⟨1, true, 0, ⟨#[]⟩⟩, 0)
  else if s.data.toList = [102, 97, 108, 115, 101] then (⟨1, false, 0, ⟨#[]⟩⟩, 0)
  else if s.data.toList.head? = some 34 then
    (if kOf s = some 5 ∧ qt ⟨(txB s).toArray⟩ = s.data.toList then (⟨3, false, 0, ⟨(txB s).toArray⟩⟩, 0) else (zVl, 1))
  else match dcm s.data.toList with
    | some n => if Lib.itoa n = s.data.toList then (⟨2, false, n, ⟨#[]⟩⟩, 0) else (zVl, 1)
    | none => (zVl, 1)
def rdV (x : Vl × Int) : Value := .tuple #[.agg #[.int .u8 x.1.k, .bool x.1.b, .int .i64 x.1.i, .string x.1.s], .int .i64 x.2]
theorem shown_is (l : List UInt8) (s : ByteArray) : ((⟨l.toArray⟩ : ByteArray).toList == s.toList) = decide (l = s.data.toList) := by
  rw [Lib.toList_data, Lib.toList_data]
  by_cases h : l = s.data.toList
  · simp [h]
  · simp [h]
theorem str_ne (s : ByteArray) (l : List UInt8) (h : ¬ s.data.toList = l) : (s.toList == l) = false := by
  rw [Lib.toList_data]; simpa using h
theorem str_is (s : ByteArray) (l : List UInt8) (h : s.data.toList = l) : s = ⟨l.toArray⟩ := by
  cases s with | mk a => simp at h; rw [← h]
theorem shw_num (n : Int) : shw ⟨2, false, n, ⟨#[]⟩⟩ = Lib.itoa n := by
  have e : (⟨#[]⟩ : ByteArray).toList = [] := by rw [Lib.toList_data]
  simp [shw, rgt, e]
theorem shw_txt (t : ByteArray) : shw ⟨3, false, 0, t⟩ = qt t := by simp [shw, rgt]
theorem head_34 (s : ByteArray) (h : s.data.toList.head? = some 34) : ∃ h0 : 0 < s.size, (s[0]'h0).toNat = 34 := by
  have hz : 0 < s.size := by
    apply Nat.pos_of_ne_zero
    intro e
    rw [show s.data.toList = [] by simpa using drop_end8 s 0 (by omega)] at h
    cases h
  refine ⟨hz, ?_⟩
  have e : s.data.toList = s[0] :: s.data.toList.drop 1 := by simpa using drop_at8 s 0 hz
  rw [e] at h
  simp at h
  rw [h]; rfl
theorem head_no (s : ByteArray) (h : ¬ s.data.toList.head? = some 34) : s.size = 0 ∨ ∃ h0 : 0 < s.size, (s[0]'h0).toNat ≠ 34 := by
  by_cases hz : s.size = 0
  · exact .inl hz
  · have hz : 0 < s.size := by omega
    refine .inr ⟨hz, fun e34 => h ?_⟩
    have e : s.data.toList = s[0] :: s.data.toList.drop 1 := by simpa using drop_at8 s 0 hz
    rw [e]
    simp
    exact UInt8.toNat_inj.1 e34
theorem qt_head (t : ByteArray) : (qt t).head? = some 34 := by unfold qt; rfl

theorem rRead_any (s : ByteArray) (hs : s.size ≤ 16777216) (w : World) (hT : Lt w) (hB : Tbs w) :
    Calls Tryz.prog 11 #[.string s] w fun e w' => e = .returned (rdV (rdA s)) ∧ Below w.heap.size w w' := by
  have hl := txB_len s
  have hts : (⟨(txB s).toArray⟩ : ByteArray).size ≤ 2147483648 := by show (txB s).toArray.size ≤ _; simp; omega
  unfold rdA
  by_cases h1 : s.data.toList = [116, 114, 117, 101]
  · rw [if_pos h1, str_is s _ h1]
    exact rread_tru w
  · rw [if_neg h1]
    by_cases h2 : s.data.toList = [102, 97, 108, 115, 101]
    · rw [if_pos h2, str_is s _ h2]
      exact rread_fls w
    · rw [if_neg h2]
      have n1 := str_ne s _ h1
      have n2 := str_ne s _ h2
      by_cases h3 : s.data.toList.head? = some 34
      · rw [if_pos h3]
        obtain ⟨h0, hq⟩ := head_34 s h3
        have HF : ∀ v, Below w.heap.size w v → _ := fun v hv => rTextOf_any s (by omega) v (hT.below hv)
        unfold txV at HF
        by_cases hk : kOf s = some 5
        · rw [if_pos hk] at HF
          have HS : ∀ v, Below w.heap.size w v → _ := fun v hv => rshow_any ⟨3, false, 0, ⟨(txB s).toArray⟩⟩ ⟨by show (-9223372036854775808 : Int) ≤ 0; omega, by show (0 : Int) ≤ _; omega, hts⟩ v (hB.below hv)
          rw [shw_txt] at HS
          by_cases hqt : qt ⟨(txB s).toArray⟩ = s.data.toList
          · rw [if_pos ⟨hk, hqt⟩]
            exact rread_txt_eq s w n1 n2 h0 hq _ _ (by rw [shown_is]; exact decide_eq_true hqt) HF HS
          · rw [if_neg fun h => hqt h.2]
            exact rread_txt_ne s w n1 n2 h0 hq _ _ (by rw [shown_is]; exact decide_eq_false hqt) HF HS
        · rw [if_neg fun h => hk h.1]
          rw [if_neg hk] at HF
          exact rread_txt_bad s w n1 n2 h0 hq _ HF
      · rw [if_neg h3]
        have hn := head_no s h3
        have HF : ∀ v, Below w.heap.size w v → _ := fun v hv => decimal_any s (by omega) v
        unfold dcV at HF
        cases hd : dcm s.data.toList with
        | none => rw [hd] at HF; exact rread_num_bad s w n1 n2 hn _ HF
        | some n =>
          rw [hd] at HF
          obtain ⟨b0, b1⟩ := dcm_bounds _ _ hd
          have HS : ∀ v, Below w.heap.size w v → _ := fun v hv => rshow_any ⟨2, false, n, ⟨#[]⟩⟩ ⟨b0, b1, by show (0 : Nat) ≤ _; omega⟩ v (hB.below hv)
          rw [shw_num] at HS
          by_cases hi : Lib.itoa n = s.data.toList
          · simp only
            rw [if_pos hi]
            exact rread_num_eq s w n1 n2 hn n _ (by rw [shown_is]; exact decide_eq_true hi) HF HS
          · simp only
            rw [if_neg hi]
            exact rread_num_ne s w n1 n2 hn n _ (by rw [shown_is]; exact decide_eq_false hi) HF HS
theorem Read_any (s : ByteArray) (hs : s.size ≤ 16777216) (w : World) (hS : Spl w) (hT : Lt w) (hM : MaxL w) (hB : Tbs w) (hE : Evs w) :
    Calls Tryz.prog 8 #[.string s] w fun e w' => e = .returned (rdV (rdA s)) ∧ Below w.heap.size w w' := by
  have hl := txB_len s
  have hts : (⟨(txB s).toArray⟩ : ByteArray).size ≤ 2147483648 := by show (txB s).toArray.size ≤ _; simp; omega
  have HX : ∀ v, Below w.heap.size w v → _ := fun v hv => Text_any s (by omega) v (hS.below hv) (hT.below hv) (hM.below hv)
  unfold txV at HX
  have HST : ∀ v, Below w.heap.size w v → _ := fun v hv => cshow_any ⟨3, false, 0, ⟨(txB s).toArray⟩⟩ ⟨by show (-9223372036854775808 : Int) ≤ 0; omega, by show (0 : Int) ≤ _; omega, hts⟩ v (hB.below hv)
  rw [shw_txt] at HST
  unfold rdA
  by_cases h1 : s.data.toList = [116, 114, 117, 101]
  · rw [if_pos h1]
    have e := str_is s _ h1
    subst e
    refine read_eq _ 1 true 0 ⟨#[]⟩ w rfl ⟨(shw ⟨1, true, 0, ⟨#[]⟩⟩).toArray⟩ ?_ (fun v _ => guess_tru v) (fun v hv => cshow_any ⟨1, true, 0, ⟨#[]⟩⟩ ⟨by show (-9223372036854775808 : Int) ≤ 0; omega, by show (0 : Int) ≤ _; omega, by show (0 : Nat) ≤ _; omega⟩ v (hB.below hv))
    rw [shown_is]
    have e : (⟨#[]⟩ : ByteArray).toList = [] := by rw [Lib.toList_data]
    simp [shw, rgt, e]
  · rw [if_neg h1]
    by_cases h2 : s.data.toList = [102, 97, 108, 115, 101]
    · rw [if_pos h2]
      have e := str_is s _ h2
      subst e
      refine read_eq _ 1 false 0 ⟨#[]⟩ w rfl ⟨(shw ⟨1, false, 0, ⟨#[]⟩⟩).toArray⟩ ?_ (fun v _ => guess_fls v) (fun v hv => cshow_any ⟨1, false, 0, ⟨#[]⟩⟩ ⟨by show (-9223372036854775808 : Int) ≤ 0; omega, by show (0 : Int) ≤ _; omega, by show (0 : Nat) ≤ _; omega⟩ v (hB.below hv))
      rw [shown_is]
      have e : (⟨#[]⟩ : ByteArray).toList = [] := by rw [Lib.toList_data]
      simp [shw, rgt, e]
    · rw [if_neg h2]
      have n1 := str_ne s _ h1
      have n2 := str_ne s _ h2
      by_cases h3 : s.data.toList.head? = some 34
      · rw [if_pos h3]
        have hp : ∀ n, Lib.parseIntB 64 s.data.toList ≠ .ok n := by
          intro n
          cases hc : s.data.toList with
          | nil => rw [hc] at h3; cases h3
          | cons c r => rw [hc] at h3; simp at h3; subst h3; exact parse_quote r n
        by_cases hk : kOf s = some 5
        · rw [if_pos hk] at HX
          have HG : ∀ v, Below w.heap.size w v → _ := fun v hv => guess_txt s _ (by omega) n1 n2 hp v (hE.below hv) (fun v' hv' => HX v' (hv.trans (hv'.mono hv.size)))
          by_cases hqt : qt ⟨(txB s).toArray⟩ = s.data.toList
          · rw [if_pos ⟨hk, hqt⟩]
            exact read_eq s 3 false 0 _ w rfl _ (by rw [shown_is]; exact decide_eq_true hqt) HG HST
          · rw [if_neg fun h => hqt h.2]
            exact read_ne s 3 false 0 _ w rfl _ (by rw [shown_is]; exact decide_eq_false hqt) HG HST
        · rw [if_neg fun h => hk h.1]
          rw [if_neg hk] at HX
          exact read_no s 0 false 0 ⟨#[]⟩ w rfl (fun v hv => guess_no s _ (by omega) n1 n2 hp v (hE.below hv) (fun v' hv' => HX v' (hv.trans (hv'.mono hv.size))))
      · rw [if_neg h3]
        have hnum : ∀ n, Lib.parseIntB 64 s.data.toList = .ok n → ∀ v, Below w.heap.size w v → Calls Tryz.prog 9 #[.agg #[.int .u8 2, .bool false, .int .i64 n, .string ⟨#[]⟩]] v fun e w' => e = .returned (.string ⟨(Lib.itoa n).toArray⟩) ∧ Below v.heap.size v w' := by
          intro n hn v hv
          rw [Lib.parseIntB_64] at hn
          obtain ⟨b0, b1⟩ := Lib.atoiAll_bounds hn
          have := cshow_any ⟨2, false, n, ⟨#[]⟩⟩ ⟨b0, b1, by show (0 : Nat) ≤ _; omega⟩ v (hB.below hv)
          rw [shw_num] at this
          exact this
        rcases num_same s.data.toList with ⟨n, b0, b1, hi, hp, hd⟩ | ⟨hp, hd⟩
        · rw [hd]
          simp only
          rw [if_pos hi]
          exact read_eq s 2 false n ⟨#[]⟩ w rfl _ (by rw [shown_is]; exact decide_eq_true hi) (fun v _ => guess_num s (by omega) n1 n2 n hp v) (hnum n hp)
        · have hz : (match dcm s.data.toList with
            | some n => if Lib.itoa n = s.data.toList then ((⟨2, false, n, ⟨#[]⟩⟩ : Vl), (0 : Int)) else (zVl, 1)
            | none => (zVl, 1)) = (zVl, 1) := by
            cases hc : dcm s.data.toList with
            | none => rfl
            | some n =>
              obtain ⟨b0, b1⟩ := dcm_bounds _ _ hc
              simp only
              rw [if_neg (hd n b0 b1 hc)]
          rw [hz]
          by_cases hok : ∃ n, Lib.parseIntB 64 s.data.toList = .ok n
          · obtain ⟨n, hn⟩ := hok
            exact read_ne s 2 false n ⟨#[]⟩ w rfl _ (by rw [shown_is]; exact decide_eq_false (hp n hn)) (fun v _ => guess_num s (by omega) n1 n2 n hn v) (hnum n hn)
          · have hp' : ∀ n, Lib.parseIntB 64 s.data.toList ≠ .ok n := fun n hn => hok ⟨n, hn⟩
            by_cases hk : kOf s = some 5
            · rw [if_pos hk] at HX
              have hqt : ¬ qt ⟨(txB s).toArray⟩ = s.data.toList := fun e => h3 (by rw [← e]; exact qt_head _)
              exact read_ne s 3 false 0 _ w rfl _ (by rw [shown_is]; exact decide_eq_false hqt) (fun v hv => guess_txt s _ (by omega) n1 n2 hp' v (hE.below hv) (fun v' hv' => HX v' (hv.trans (hv'.mono hv.size)))) HST
            · rw [if_neg hk] at HX
              exact read_no s 0 false 0 ⟨#[]⟩ w rfl (fun v hv => guess_no s _ (by omega) n1 n2 hp' v (hE.below hv) (fun v' hv' => HX v' (hv.trans (hv'.mono hv.size))))
end Go.Proofs.YtnaipmgdipflgaaGreatDoor

namespace Go.Proofs.YtnaipmgdipflgaaGreatDoor
open Go.ChangeShapes Go.WideShapes Go.ChangeAt Go.RowKit
set_option linter.unusedVariables false
set_option linter.unusedSimpArgs false

set_option maxRecDepth 1000000 in
set_option maxHeartbeats 8000000 in
theorem constShows_walk (x : Vl) (hx : -9223372036854775808 ≤ x.i ∧ x.i ≤ 9223372036854775807) (s : ByteArray) (hz : x.s.size + s.size ≤ 1048576) (w : World) (hS : Spl w) (hT : Lt w) (hM : MaxL w) (hB : Tbs w) (hE : Evs w) :
    Calls Tryz.prog 5 #[x.v, .string s] w fun e w' => e = .returned (.bool true) ∧ Below w.heap.size w w' := by
  have H1 : ∀ v, Below w.heap.size w v → _ := fun v hv => Read_any s (by omega) v (hS.below hv) (hT.below hv) (hM.below hv) (hB.below hv) (hE.below hv)
  have H2 : ∀ v, Below w.heap.size w v → _ := fun v hv => rRead_any s (by omega) v (hT.below hv) (hB.below hv)
  have H3 : ∀ v, Below w.heap.size w v → _ := fun v hv => cshow_any x ⟨hx.1, hx.2, by omega⟩ v (hB.below hv)
  have H4 : ∀ v, Below w.heap.size w v → _ := fun v hv => rshow_any x ⟨hx.1, hx.2, by omega⟩ v (hB.below hv)
  obtain ⟨q, hq⟩ : ∃ q, (⟨(shw x).toArray⟩ : ByteArray) = q := ⟨_, rfl⟩
  rw [hq] at H3 H4
  obtain ⟨⟨⟨k', b', i', t'⟩, e'⟩, hr⟩ : ∃ y, rdA s = y := ⟨_, rfl⟩
  rw [hr] at H1 H2
  obtain ⟨k, b, i, t⟩ := x
  show Calls Tryz.prog 5 #[.agg #[.int .u8 k, .bool b, .int .i64 i, .string t], .string s] w _
  have G1 : Hid (∀ v, Below w.heap.size w v → Calls Tryz.prog 8 #[.string s] v fun e w' => e = .returned (.tuple #[.agg #[.int .u8 k', .bool b', .int .i64 i', .string t'], .int .i64 e']) ∧ Below v.heap.size v w') := H1
  have G2 : Hid (∀ v, Below w.heap.size w v → Calls Tryz.prog 11 #[.string s] v fun e w' => e = .returned (.tuple #[.agg #[.int .u8 k', .bool b', .int .i64 i', .string t'], .int .i64 e']) ∧ Below v.heap.size v w') := H2
  have G3 : Hid (∀ v, Below w.heap.size w v → Calls Tryz.prog 9 #[.agg #[.int .u8 k, .bool b, .int .i64 i, .string t]] v fun e w' => e = .returned (.string q) ∧ Below v.heap.size v w') := H3
  have G4 : Hid (∀ v, Below w.heap.size w v → Calls Tryz.prog 12 #[.agg #[.int .u8 k, .bool b, .int .i64 i, .string t]] v fun e w' => e = .returned (.string q) ∧ Below v.heap.size v w') := H4
  have hqq : (q.toList == q.toList) = true := by simp
  have htt : (t'.toList == t'.toList) = true := by simp
  clear H1 H2 H3 H4 hq hr hS hT hM hB hE hx hz
  obtain ⟨w2, e2, hb2, hs2, B2⟩ := bx1 w #[.int .u8 k, .bool b, .int .i64 i, .string t] 25
  have HB2 : Hid (Below w.heap.size w w2) := hb2
  have HX2 : Hid (Bx w2 w.heap.size #[.int .u8 k, .bool b, .int .i64 i, .string t] 25) := B2
  clear hb2 B2 hs2
  go_enter Tryz.func5, Tryz.ntmps5
  go_upto_region 3 with (first
    | (go_at_call 8; (with_reducible refine (G1.out _ HB2.out).mono ?_); rintro e w3 ⟨rfl, hb3⟩; have HB3 : Hid (Below w.heap.size w w3) := HB2.out.trans (hb3.mono HB2.out.size); have HX3 : Hid (Bx w3 w.heap.size #[.int .u8 k, .bool b, .int .i64 i, .string t] 25) := HX2.out.below hb3 HX2.out.lt; obtain ⟨w4, e4, hb4, hs4, B4⟩ := bx1 w3 #[.int .u8 k', .bool b', .int .i64 i', .string t'] 25; have HY4 : Hid (Bx w4 w3.heap.size #[.int .u8 k', .bool b', .int .i64 i', .string t'] 25) := B4; have HX4 : Hid (Bx w4 w.heap.size #[.int .u8 k, .bool b, .int .i64 i, .string t] 25) := HX3.out.below hb4 HX3.out.lt; have HB4 : Hid (Below w.heap.size w w4) := HB3.out.trans (hb4.mono HB3.out.size); clear hb3 hb4 B4 hs4)
    | (go_at_call 11; (with_reducible refine (G2.out _ HB4.out).mono ?_); rintro e w5 ⟨rfl, hb5⟩; have HY5 : Hid (Bx w5 w3.heap.size #[.int .u8 k', .bool b', .int .i64 i', .string t'] 25) := HY4.out.below hb5 HY4.out.lt; have HX5 : Hid (Bx w5 w.heap.size #[.int .u8 k, .bool b, .int .i64 i, .string t] 25) := HX4.out.below hb5 HX4.out.lt; have HB5 : Hid (Below w.heap.size w w5) := HB4.out.trans (hb5.mono HB4.out.size); obtain ⟨w6, e6, hb6, hs6, B6⟩ := bx1 w5 #[.int .u8 k', .bool b', .int .i64 i', .string t'] 25; have HZ6 : Hid (Bx w6 w5.heap.size #[.int .u8 k', .bool b', .int .i64 i', .string t'] 25) := B6; have HY6 : Hid (Bx w6 w3.heap.size #[.int .u8 k', .bool b', .int .i64 i', .string t'] 25) := HY5.out.below hb6 HY5.out.lt; have HX6 : Hid (Bx w6 w.heap.size #[.int .u8 k, .bool b, .int .i64 i, .string t] 25) := HX5.out.below hb6 HX5.out.lt; have HB6 : Hid (Below w.heap.size w w6) := HB5.out.trans (hb6.mono HB5.out.size); clear hb5 hb6 B6 hs6))
  obtain ⟨X, F, hX, hF, onto⟩ := class_of (fun v => Below w6.heap.size w6 v) (Below.refl _ w6)
  have HF : Hid (∀ y, Below w6.heap.size w6 (F y)) := hF
  have HFw : Hid (∀ y, Below w.heap.size w (F y)) := fun y => HB6.out.trans ((hF y).mono HB6.out.size)
  have HO : Hid (∀ v, Below w6.heap.size w6 v → ∃ x, v = F x) := fun v h => by obtain ⟨x, hx⟩ := onto v h; exact ⟨x, hx.symm⟩
  have f0 : ∀ v, (F v).cell? ⟨w.heap.size, 0, none⟩ = some (.int .u8 k) := fun v => (HX6.out.below (hF v) HX6.out.lt).cell 0
  have f1 : ∀ v, (F v).cell? ⟨w.heap.size, 1, none⟩ = some (.bool b) := fun v => (HX6.out.below (hF v) HX6.out.lt).cell 1
  have f2 : ∀ v, (F v).cell? ⟨w.heap.size, 2, none⟩ = some (.int .i64 i) := fun v => (HX6.out.below (hF v) HX6.out.lt).cell 2
  have f3 : ∀ v, (F v).cell? ⟨w.heap.size, 3, none⟩ = some (.string t) := fun v => (HX6.out.below (hF v) HX6.out.lt).cell 3
  have y0 : ∀ v, (F v).cell? ⟨w3.heap.size, 0, none⟩ = some (.int .u8 k') := fun v => (HY6.out.below (hF v) HY6.out.lt).cell 0
  have y1 : ∀ v, (F v).cell? ⟨w3.heap.size, 1, none⟩ = some (.bool b') := fun v => (HY6.out.below (hF v) HY6.out.lt).cell 1
  have y2 : ∀ v, (F v).cell? ⟨w3.heap.size, 2, none⟩ = some (.int .i64 i') := fun v => (HY6.out.below (hF v) HY6.out.lt).cell 2
  have y3 : ∀ v, (F v).cell? ⟨w3.heap.size, 3, none⟩ = some (.string t') := fun v => (HY6.out.below (hF v) HY6.out.lt).cell 3
  have z0 : ∀ v, (F v).cell? ⟨w5.heap.size, 0, none⟩ = some (.int .u8 k') := fun v => (HZ6.out.below (hF v) HZ6.out.lt).cell 0
  have z1 : ∀ v, (F v).cell? ⟨w5.heap.size, 1, none⟩ = some (.bool b') := fun v => (HZ6.out.below (hF v) HZ6.out.lt).cell 1
  have z2 : ∀ v, (F v).cell? ⟨w5.heap.size, 2, none⟩ = some (.int .i64 i') := fun v => (HZ6.out.below (hF v) HZ6.out.lt).cell 2
  have z3 : ∀ v, (F v).cell? ⟨w5.heap.size, 3, none⟩ = some (.string t') := fun v => (HZ6.out.below (hF v) HZ6.out.lt).cell 3
  clear hF onto
  refine region_class F (by kernel_rfl) (by kernel_rfl) (by obtain ⟨x, hx⟩ := HO.out _ (Below.refl _ _).drew; exact ⟨x, hx.symm⟩) ?_
  repeat (go_big_quiet_step (first
      | (go_at_call 9; refine (G3.out _ (HFw.out _)).mono ?_; rintro e w7 ⟨rfl, hb7⟩; exact ⟨rfl, HO.out _ ((HF.out _).trans (hb7.mono (HF.out _).size))⟩)
      | (go_at_call 12; refine (G4.out _ (HFw.out _)).mono ?_; rintro e w7 ⟨rfl, hb7⟩; exact ⟨rfl, HO.out _ ((HF.out _).trans (hb7.mono (HF.out _).size))⟩)))
  refine wpQuiet_nil ?_
  rintro _ ⟨nq, rfl⟩
  go_wp2
  go_ret
  refine ⟨?_, HFw.out _⟩
  first | rfl | simp
end Go.Proofs.YtnaipmgdipflgaaGreatDoor
