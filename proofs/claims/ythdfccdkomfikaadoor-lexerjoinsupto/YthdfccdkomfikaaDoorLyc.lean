import Derived.Test.YthdfccdkomfikaaDoorLyb
namespace Go.Proofs.YthdfccdkomfikaaDoor
open Go.ChangeShapes Go.WideShapes Go.ChangeAt Go.RowKit Go.Maps Go.WideMaps
set_option linter.unusedVariables false
set_option linter.unusedSimpArgs false

theorem own_cap {w : World} {B s n : Nat} {e : TypeId} {v : Value} {xs : List Value} (h : w.ownsRow B e s v n xs) (hn : 0 < n) : ∃ g c, v = .slice (some ⟨g, 0, none⟩) n c ∧ n ≤ c ∧ g < w.heap.size := by
  rcases h.2 with ⟨_, h0⟩ | ⟨g, c, cur, hv, _, hh, r⟩
  · omega
  · exact ⟨g, c, hv, r.1, lt_of_block hh⟩

theorem own_lower {w : World} {B B' s n : Nat} {e : TypeId} {v : Value} {xs : List Value} (h : w.ownsRow B e s v n xs) (hB : B' ≤ B) : w.ownsRow B' e s v n xs := by
  refine ⟨h.1, ?_⟩
  rcases h.2 with h2 | ⟨g, c, cur, hv, hg, r⟩
  · exact .inl h2
  · exact .inr ⟨g, c, cur, hv, Nat.le_trans hB hg, r⟩

set_option maxRecDepth 1000000 in
set_option maxHeartbeats 8000000 in
theorem Scan_text (s : ByteArray) (hs : s.size ≤ 4294967280) (h0 : 0 < s.size) (hc : (s[0]'h0).toNat = 34) (hq : quP s 0 = .ok 5 s.size) (w : World) (hS : Spl w) (hT : Lt w) :
    Calls Tryd.prog 6 #[.string s] w fun e w' => ∃ a c, e = .returned (.tuple #[.slice a 2 c, .agg #[.int .i64 0, .int .i64 0, .int .i64 0]]) ∧ w'.ownsRow w.heap.size 31 3 (.slice a 2 c) 2 [.int .u8 5, .int .i64 0, .int .i64 (s.size : Int), .int .u8 6, .int .i64 (s.size : Int), .int .i64 (s.size : Int)] ∧ Below w.heap.size w w' := by
  obtain ⟨w2, e2, hw, hs2, B0⟩ := bx1 w #[.int .i64 0, .int .i64 0, .int .i64 0] 25
  have HE2 : Hid (w.alloc (.cells #[.int .i64 0, .int .i64 0, .int .i64 0] 25) = w2) := e2
  have HB2 : Hid (Below w.heap.size w w2) := hw
  have HX : Hid (∀ v, Below w2.heap.size w2 v → Lt v ∧ Bx v w.heap.size #[.int .i64 0, .int .i64 0, .int .i64 0] 25 ∧ Below w.heap.size w v) := fun v h => ⟨(hT.below hw).below h, B0.below h B0.lt, hw.trans (h.mono hw.size)⟩
  have HN : Hid (Calls Tryd.prog 12 #[.string s] w2 fun e w' => ∃ b, w2.heap.size < b ∧ e = .returned (.pointer (some ⟨b, 0, none⟩)) ∧ Bx w' b #[.string s, .slice (some ⟨b + 1, 0, none⟩) 6 6, .map (some w2.heap.size), .int .u32 0, .int .i32 0, .int .u32 0, .pointer none] 63 ∧ Bx w' (b + 1) (sts b) 66 ∧ w'.ownsMap Tryd.prog 9 (plainElem (H := Unit) Tryd.prog 29) w2.heap.size 25 (KW 25) ∧ Below w2.heap.size w2 w') := newScanner_any s w2 (hS.below hw)
  clear e2 hw hs2 B0 hS hT
  go_enter Tryd.func6, Tryd.ntmps6
  go_upto_region 1 with fail
  rw [HE2.out]
  go_wp2_with (first
    | (go_at_call 12; (with_reducible refine HN.out.mono ?_); rintro e w3 ⟨b, hbb, rfl, X3, Y3, -, hb3⟩; have HB3 : Hid (Below w2.heap.size w2 w3) := hb3; have HS3 : Hid (Scn w3 b w2.heap.size s) := ⟨X3, Y3⟩; clear hb3 X3 Y3)
    | (go_at_call 13; (with_reducible refine (pieces_text b w2.heap.size s hs h0 hc hq w3 HS3.out (HX.out w3 HB3.out).1).mono ?_); rintro e w4 ⟨a4, c4, rfl, ho4, hb4⟩; have HB4 : Hid (Below w2.heap.size w2 w4) := HB3.out.trans (hb4.mono HB3.out.size); obtain ⟨g4, c4', hv4, hc4, hg4⟩ := own_cap ho4 (by decide); cases hv4; have d0 : w4.cell? ⟨g4, 0, none⟩ = some (.int .u8 5) := ho4.cells rfl 0 _ rfl; have d1 : w4.cell? ⟨g4, 1, none⟩ = some (.int .i64 0) := ho4.cells rfl 1 _ rfl; have d2 : w4.cell? ⟨g4, 2, none⟩ = some (.int .i64 (s.size : Int)) := ho4.cells rfl 2 _ rfl; have HA4 : Hid (Calls Tryd.prog 15 #[.string s, .slice (some ⟨g4, 0, none⟩) 1 c4] (w4.alloc (.cells #[.int .i64 0, .int .i64 0, .int .i64 0] 25)) fun e w' => ∃ a c', e = .returned (.slice a 2 c') ∧ w'.ownsRow (w4.alloc (.cells #[.int .i64 0, .int .i64 0, .int .i64 0] 25)).heap.size 31 3 (.slice a 2 c') 2 [.int .u8 5, .int .i64 0, .int .i64 (s.size : Int), .int .u8 6, .int .i64 (s.size : Int), .int .i64 (s.size : Int)] ∧ Below (w4.alloc (.cells #[.int .i64 0, .int .i64 0, .int .i64 0] 25)).heap.size (w4.alloc (.cells #[.int .i64 0, .int .i64 0, .int .i64 0] 25)) w') := withAutos_text s hs g4 c4 hc4 _ (by simp; omega) ((((Below.refl _ w4).alloc (Nat.le_refl _) _).cell (p := ⟨g4, 0, none⟩) hg4).trans d0) ((((Below.refl _ w4).alloc (Nat.le_refl _) _).cell (p := ⟨g4, 1, none⟩) hg4).trans d1) ((((Below.refl _ w4).alloc (Nat.le_refl _) _).cell (p := ⟨g4, 2, none⟩) hg4).trans d2); clear ho4 hb4 d0 d1 d2)
    | (go_at_call 15; (with_reducible refine HA4.out.mono ?_); rintro e w6 ⟨a6, c6, rfl, ho6, hb6⟩; have HB6 : Hid (Below w2.heap.size w2 w6) := (HB4.out.alloc HB4.out.size _).trans (hb6.mono (by have := HB4.out.size; simp; omega)); have HO6 : Hid (w6.ownsRow w.heap.size 31 3 (.slice a6 2 c6) 2 [.int .u8 5, .int .i64 0, .int .i64 (s.size : Int), .int .u8 6, .int .i64 (s.size : Int), .int .i64 (s.size : Int)]) := own_lower ho6 (by have := HB4.out.size; have := HB2.out.size; simp; omega); obtain ⟨-, F6, HW6'⟩ := HX.out w6 HB6.out; have HW6 : Hid (Below w.heap.size w w6) := HW6'; have HF6 : Hid (Bx w6 w.heap.size #[.int .i64 0, .int .i64 0, .int .i64 0] 25) := F6; have z0 : w6.cell? ⟨w.heap.size, 0, none⟩ = some (.int .i64 0) := F6.cell 0; have z1 : w6.cell? ⟨w.heap.size, 1, none⟩ = some (.int .i64 0) := F6.cell 1; have z2 : w6.cell? ⟨w.heap.size, 2, none⟩ = some (.int .i64 0) := F6.cell 2; have f0 := F6.free 0; have f1 := F6.free 1; have f2 := F6.free 2; clear ho6 hb6 F6 HW6'))
  obtain ⟨r0, r1, r2⟩ := HF6.out.read3 (.int .i64 0) (.int .i64 0) (.int .i64 0)
  refine bodyPost_ret (v := .tuple #[.slice a6 2 c6, .agg #[.int .i64 0, .int .i64 0, .int .i64 0]]) (by simp [results, Tryd.results6, go_sem, r0, r1, r2]) rfl ⟨a6, c6, rfl, own_put3 HO6.out HF6.out (by decide), bel_put3 HW6.out (Nat.le_refl _)⟩
end Go.Proofs.YthdfccdkomfikaaDoor
