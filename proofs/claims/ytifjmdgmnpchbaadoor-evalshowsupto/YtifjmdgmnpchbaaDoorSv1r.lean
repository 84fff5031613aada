import Derived.Test.YtifjmdgmnpchbaaDoorSv1
namespace Go.Proofs.YtifjmdgmnpchbaaDoor
open Go.ChangeShapes Go.WideShapes Go.ChangeAt Go.RowKit
set_option linter.unusedVariables false
set_option linter.unusedSimpArgs false

set_option maxRecDepth 1000000 in
set_option maxHeartbeats 4000000 in
theorem rshow_any (x : Vl) (hx : VlOk x) (w : World) (hT : Tbs w) :
    Calls Tryd.prog 7 #[.agg #[.int .u8 x.k, .bool x.b, .int .i64 x.i, .string x.s]] w fun e w' => e = .returned (.string ⟨(shw x).toArray⟩) ∧ Below w.heap.size w w' := by
  obtain ⟨k, b, i, s⟩ := x
  simp only
  obtain ⟨w2, e2, hw, hs2, B0⟩ := bx1 w #[.int .u8 k, .bool b, .int .i64 i, .string s] 28
  have HB0 : Hid (Below w.heap.size w w2) := hw
  have HE2 : Hid (w.alloc (.cells #[.int .u8 k, .bool b, .int .i64 i, .string s] 28) = w2) := e2
  have HX : Hid (∀ v, Below w2.heap.size w2 v → v.cell? ⟨w.heap.size, 0, none⟩ = some (.int .u8 k) ∧ v.cell? ⟨w.heap.size, 1, none⟩ = some (.bool b) ∧ v.cell? ⟨w.heap.size, 2, none⟩ = some (.int .i64 i) ∧ v.cell? ⟨w.heap.size, 3, none⟩ = some (.string s)) :=
    fun v h => ⟨(B0.below h B0.lt).cell 0, (B0.below h B0.lt).cell 1, (B0.below h B0.lt).cell 2, (B0.below h B0.lt).cell 3⟩
  have HT : Hid (∀ v, Below w2.heap.size w2 v → Tbs v) := fun v h => (hT.below hw).below h
  obtain ⟨x0, x1, x2, x3⟩ := HX.out w2 (Below.refl _ _)
  have HR : Hid (∀ v, Calls Tryd.prog 12 #[.agg #[.int .u8 k, .bool b, .int .i64 i, .string s]] v fun e w' => e = .returned (.bool (rgt ⟨k, b, i, s⟩)) ∧ Below v.heap.size v w') := fun v => rRight_any ⟨k, b, i, s⟩ v
  clear e2 hw hs2 B0 hT
  by_cases hr : rgt ⟨k, b, i, s⟩ = true
  · have hk := rgt_kinds hr
    rw [hr] at HR
    have hsh : shw ⟨k, b, i, s⟩ = (if k = 1 then (if b then [116, 114, 117, 101] else [102, 97, 108, 115, 101]) else if k = 2 then Lib.itoa i else qt s) := by unfold shw; rw [if_pos hr]
    obtain ⟨h0, h1, h2⟩ := hx
    have HR' : Hid (∀ v, Calls Tryd.prog 12 #[.agg #[.int .u8 k, .bool b, .int .i64 i, .string s]] v fun e w' => e = .returned (.bool true) ∧ Below v.heap.size v w') := HR
    clear HR hr
    simp only at hk hsh h0 h1 h2
    rcases hk with rfl | rfl | rfl
    · rw [if_pos rfl] at hsh
      have HS : Hid (shw ⟨1, b, i, s⟩ = if b then [116, 114, 117, 101] else [102, 97, 108, 115, 101]) := hsh
      clear hsh
      cases b
      · go_enter Tryd.func7, Tryd.ntmps7
        go_upto_region 1 with fail
        rw [HE2.out]
        go_wp2_with (first
          | (go_at_call 12; (with_reducible refine (HR'.out _).mono ?_); rintro e w3 ⟨rfl, hb3⟩; have HB3 : Hid (Below w2.heap.size w2 w3) := hb3; obtain ⟨y0, y1, y2, y3⟩ := HX.out w3 hb3; clear hb3))
        go_ret
        exact ⟨by first | (rw [HS.out]; done) | (rw [HS.out]; rfl), HB0.out.trans (HB3.out.mono HB0.out.size)⟩
      · go_enter Tryd.func7, Tryd.ntmps7
        go_upto_region 1 with fail
        rw [HE2.out]
        go_wp2_with (first
          | (go_at_call 12; (with_reducible refine (HR'.out _).mono ?_); rintro e w3 ⟨rfl, hb3⟩; have HB3 : Hid (Below w2.heap.size w2 w3) := hb3; obtain ⟨y0, y1, y2, y3⟩ := HX.out w3 hb3; clear hb3))
        go_ret
        exact ⟨by first | (rw [HS.out]; done) | (rw [HS.out]; rfl), HB0.out.trans (HB3.out.mono HB0.out.size)⟩
    · rw [if_neg (by omega), if_pos rfl] at hsh
      have HS : Hid (shw ⟨2, b, i, s⟩ = Lib.itoa i) := hsh
      clear hsh
      have HC : Hid ((⟨(Lib.itoa i).toArray⟩ : ByteArray).size ≤ 281474976710656) := by
        have := Lib.itoa_length_le i h0 h1
        show (Lib.itoa i).toArray.size ≤ _
        simp
        omega
      go_enter Tryd.func7, Tryd.ntmps7
      go_upto_region 1 with fail
      rw [HE2.out]
      go_wp2_with (first
        | (go_at_call 12; (with_reducible refine (HR'.out _).mono ?_); rintro e w3 ⟨rfl, hb3⟩; have HB3 : Hid (Below w2.heap.size w2 w3) := hb3; obtain ⟨y0, y1, y2, y3⟩ := HX.out w3 hb3; clear hb3)
        | (go_at_call 13; (with_reducible refine (formatInt_call _ h0 h1 _ (HT.out _ HB3.out)).mono ?_); rintro e w4 ⟨rfl, hb4⟩; have HB4 : Hid (Below w2.heap.size w2 w4) := HB3.out.trans (hb4.mono HB3.out.size); clear hb4))
      go_ret
      exact ⟨by first | (rw [HS.out]; done) | (rw [HS.out]; rfl), HB0.out.trans (HB4.out.mono HB0.out.size)⟩
    · rw [if_neg (by omega), if_neg (by omega)] at hsh
      have HS : Hid (shw ⟨3, b, i, s⟩ = qt s) := hsh
      clear hsh
      go_enter Tryd.func7, Tryd.ntmps7
      go_upto_region 1 with fail
      rw [HE2.out]
      go_wp2_with (first
        | (go_at_call 12; (with_reducible refine (HR'.out _).mono ?_); rintro e w3 ⟨rfl, hb3⟩; have HB3 : Hid (Below w2.heap.size w2 w3) := hb3; obtain ⟨y0, y1, y2, y3⟩ := HX.out w3 hb3; clear hb3)
        | (go_at_call 14; (with_reducible refine (rquote_call s h2 _ (HT.out _ HB3.out)).mono ?_); rintro e w5 ⟨rfl, hb5⟩; have HB5 : Hid (Below w2.heap.size w2 w5) := HB3.out.trans (hb5.mono HB3.out.size); clear hb5))
      go_ret
      exact ⟨by first | (rw [HS.out]; done) | (rw [HS.out]; rfl), HB0.out.trans (HB5.out.mono HB0.out.size)⟩
  · have hr' : rgt ⟨k, b, i, s⟩ = false := by simpa using hr
    rw [hr'] at HR
    have HS : Hid (shw ⟨k, b, i, s⟩ = []) := by unfold Hid shw; rw [if_neg hr]
    have HR' : Hid (∀ v, Calls Tryd.prog 12 #[.agg #[.int .u8 k, .bool b, .int .i64 i, .string s]] v fun e w' => e = .returned (.bool false) ∧ Below v.heap.size v w') := HR
    clear HR hr hr'
    go_enter Tryd.func7, Tryd.ntmps7
    go_upto_region 1 with fail
    rw [HE2.out]
    go_wp2_with (go_at_call 12; (with_reducible refine (HR'.out _).mono ?_); rintro e w3 ⟨rfl, hb3⟩; have HB3 : Hid (Below w2.heap.size w2 w3) := hb3; clear hb3)
    go_ret
    exact ⟨by first | (rw [HS.out]; done) | (rw [HS.out]; rfl), HB0.out.trans (HB3.out.mono HB0.out.size)⟩
end Go.Proofs.YtifjmdgmnpchbaaDoor
