import Derived.Test.YtnaipmgdipflgaaGreatDoorVa5
import Derived.Test.YtnaipmgdipflgaaGreatDoorLi0
import Derived.Laws.Cover1
import Derived.Lib.Strings
namespace Go.Proofs.YtnaipmgdipflgaaGreatDoor
open Go.ChangeShapes Go.WideShapes Go.ChangeAt Go.RowKit Go.Maps Go.WideMaps
set_option linter.unusedVariables false
set_option linter.unusedSimpArgs false

/-- Literal's answer: its sort, number, text and error -/
structure Lt8 where
  c : Int
  n : Int
  t : ByteArray
  e : Int
def Lt8.v (x : Lt8) : Value := vlV x.c x.n x.t x.e
def lit8 (k : Nat) (s : ByteArray) : Lt8 :=
  if kOf s = some k then
    if k = 3 then (match nVl s with | some v => ⟨2, (v : Int), ⟨#[]⟩, 0⟩ | none => ⟨0, 0, ⟨#[]⟩, 80⟩)
    else if k = 4 then ⟨2, (chN s : Int), ⟨#[]⟩, 0⟩
    else if k = 5 then ⟨3, 0, ⟨(txB s).toArray⟩, 0⟩
    else ⟨0, 0, ⟨#[]⟩, 1⟩
  else ⟨0, 0, ⟨#[]⟩, 1⟩
theorem beq_nat_ne {a b : Nat} (h : a ≠ b) : ((a : Int) == (b : Int)) = false := by
  rw [beq_eq_false_iff_ne]; omega
theorem Literal_any (k : Nat) (hk : k ≤ 255) (s : ByteArray) (hs : s.size ≤ 4294967280) (w : World) (hS : Spl w) (hT : Lt w) (hM : MaxL w) :
    Calls Tryz.prog 6 #[.int .u8 (k : Int), .string s] w fun e w' => e = .returned (lit8 k s).v ∧ Below w.heap.size w w' := by
  have HK : ∀ v, Below w.heap.size w v → _ := fun v hv => Kind_any s hs v (hS.below hv) (hT.below hv) (hM.below hv)
  have HN : ∀ v, Below w.heap.size w v → _ := fun v hv => Number_any s hs v (hS.below hv) (hT.below hv) (hM.below hv)
  have HC : ∀ v, Below w.heap.size w v → _ := fun v hv => Char_any s hs v (hS.below hv) (hT.below hv) (hM.below hv)
  have HT : ∀ v, Below w.heap.size w v → _ := fun v hv => Text_any s hs v (hS.below hv) (hT.below hv) (hM.below hv)
  unfold lit8
  by_cases h : kOf s = some k
  · rw [if_pos h]
    rw [h] at HK
    by_cases h3 : k = 3
    · subst h3
      rw [if_pos rfl]
      unfold nmV at HN
      rw [if_pos h] at HN
      cases hv : nVl s with
      | none => rw [hv] at HN; exact lit_big 0 s w HK HN
      | some v => rw [hv] at HN; exact lit_num v s w HK HN
    · rw [if_neg h3]
      by_cases h4 : k = 4
      · subst h4
        rw [if_pos rfl]
        unfold chV at HC
        rw [if_pos h] at HC
        exact lit_chr (chN s : Int) s w HK HC
      · rw [if_neg h4]
        by_cases h5 : k = 5
        · subst h5
          rw [if_pos rfl]
          unfold txV at HT
          rw [if_pos h] at HT
          exact lit_txt ⟨(txB s).toArray⟩ s w HK HT
        · rw [if_neg h5]
          exact lit_else (k : Int) s w (beq_nat_ne (b := 3) h3) (beq_nat_ne (b := 4) h4) (beq_nat_ne (b := 5) h5) HK
  · rw [if_neg h]
    cases hj : kOf s with
    | none => rw [hj] at HK; exact lit_no (k : Int) 0 false s w (.inl rfl) HK
    | some j =>
      rw [hj] at HK
      exact lit_no (k : Int) (j : Int) true s w (.inr (beq_nat_ne fun e => h (by rw [hj, e]))) HK
theorem rLiteral_any (k : Nat) (hk : k ≤ 255) (s : ByteArray) (hs : s.size ≤ 4294967280) (w : World) (hT : Lt w) :
    Calls Tryz.prog 7 #[.int .u8 (k : Int), .string s] w fun e w' => e = .returned (lit8 k s).v ∧ Below w.heap.size w w' := by
  have HK : ∀ v, Below w.heap.size w v → _ := fun v hv => rKind_any s hs v (hT.below hv)
  have HN : ∀ v, Below w.heap.size w v → _ := fun v hv => rNumberOf_any s hs v (hT.below hv)
  have HC : ∀ v, Below w.heap.size w v → _ := fun v hv => rCharOf_any s hs v (hT.below hv)
  have HT : ∀ v, Below w.heap.size w v → _ := fun v hv => rTextOf_any s hs v (hT.below hv)
  have hk0 : (0 : Int) ≤ (k : Int) := by omega
  have hk1 : (k : Int) ≤ 255 := by omega
  unfold lit8
  by_cases h : kOf s = some k
  · rw [if_pos h]
    rw [h] at HK
    by_cases h3 : k = 3
    · subst h3
      rw [if_pos rfl]
      unfold nmV at HN
      rw [if_pos h] at HN
      cases hv : nVl s with
      | none => rw [hv] at HN; exact rlit_big 0 s w HK HN
      | some v => rw [hv] at HN; exact rlit_num v s w HK HN
    · rw [if_neg h3]
      by_cases h4 : k = 4
      · subst h4
        rw [if_pos rfl]
        unfold chV at HC
        rw [if_pos h] at HC
        exact rlit_chr (chN s : Int) s w HK HC
      · rw [if_neg h4]
        by_cases h5 : k = 5
        · subst h5
          rw [if_pos rfl]
          unfold txV at HT
          rw [if_pos h] at HT
          exact rlit_txt ⟨(txB s).toArray⟩ s w HK HT
        · rw [if_neg h5]
          exact rlit_else (k : Int) s w hk0 hk1 (beq_nat_ne (b := 3) h3) (beq_nat_ne (b := 4) h4) (beq_nat_ne (b := 5) h5) HK
  · rw [if_neg h]
    cases hj : kOf s with
    | none => rw [hj] at HK; exact rlit_no (k : Int) 0 false s w hk0 hk1 (.inl rfl) HK
    | some j =>
      rw [hj] at HK
      exact rlit_no (k : Int) (j : Int) true s w hk0 hk1 (.inr (beq_nat_ne fun e => h (by rw [hj, e]))) HK
set_option maxRecDepth 1000000 in
set_option maxHeartbeats 8000000 in
theorem constLiterals_walk (k : Nat) (hk : k ≤ 255) (s : ByteArray) (hB : s.size ≤ 1048576) (w : World) (hS : Spl w) (hT : Lt w) (hM : MaxL w) :
    Calls Tryz.prog 3 #[.int .u8 (k : Int), .string s] w fun e w' => e = .returned (.bool true) ∧ Below w.heap.size w w' := by
  have hs : s.size ≤ 4294967280 := by omega
  have H1 := Literal_any k hk s hs w hS hT hM
  have H2 : ∀ v, Below w.heap.size w v → _ := fun v hv => rLiteral_any k hk s hs v (hT.below hv)
  obtain ⟨⟨c, n, t, x⟩, hx⟩ : ∃ y, lit8 k s = y := ⟨_, rfl⟩
  rw [hx] at H1 H2
  clear hx
  have G1 : Hid (Calls Tryz.prog 6 #[.int .u8 (k : Int), .string s] w fun e w' => e = .returned (.tuple #[.agg #[.int .u8 c, .bool false, .int .i64 n, .string t], .int .i64 x]) ∧ Below w.heap.size w w') := H1
  have G2 : Hid (∀ v, Below w.heap.size w v → Calls Tryz.prog 7 #[.int .u8 (k : Int), .string s] v fun e w' => e = .returned (.tuple #[.agg #[.int .u8 c, .bool false, .int .i64 n, .string t], .int .i64 x]) ∧ Below v.heap.size v w') := H2
  have htt : (t.toList == t.toList) = true := by simp
  clear H1 H2 hS hT hM hB hs
  go_enter Tryz.func3, Tryz.ntmps3
  go_wp2_with (first
    | (go_at_call 6; (with_reducible refine G1.out.mono ?_); rintro e w3 ⟨rfl, hb3⟩; have HB3 : Hid (Below w.heap.size w w3) := hb3; obtain ⟨w4, e4, hb4, hs4, B4⟩ := bx1 w3 #[.int .u8 c, .bool false, .int .i64 n, .string t] 25; have HX4 : Hid (Bx w4 w3.heap.size #[.int .u8 c, .bool false, .int .i64 n, .string t] 25) := B4; have HB4 : Hid (Below w.heap.size w w4) := HB3.out.trans (hb4.mono HB3.out.size); have hw3 := HB3.out.size; clear hb3 hb4 B4 hs4)
    | (go_at_call 7; (with_reducible refine (G2.out _ HB4.out).mono ?_); rintro e w5 ⟨rfl, hb5⟩; have HX5 : Hid (Bx w5 w3.heap.size #[.int .u8 c, .bool false, .int .i64 n, .string t] 25) := HX4.out.below hb5 HX4.out.lt; have HB5 : Hid (Below w.heap.size w w5) := HB4.out.trans (hb5.mono HB4.out.size); obtain ⟨w6, e6, hb6, hs6, B6⟩ := bx1 w5 #[.int .u8 c, .bool false, .int .i64 n, .string t] 25; have HX6 : Hid (Bx w6 w3.heap.size #[.int .u8 c, .bool false, .int .i64 n, .string t] 25) := HX5.out.below hb6 HX5.out.lt; have HB6 : Hid (Below w.heap.size w w6) := HB5.out.trans (hb6.mono HB5.out.size); obtain ⟨d0, d1, d2, d3, g0, g1, g2, g3, l3⟩ := HX6.out.facts4; obtain ⟨y0, y1, y2, y3, x0, x1, x2, x3, l4⟩ := B6.facts4; clear hb5 hb6 B6 hs6))
  go_ret
  exact ⟨by first | rfl | simp, HB6.out⟩
end Go.Proofs.YtnaipmgdipflgaaGreatDoor
