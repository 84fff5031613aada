import Derived.Test.YtmnbakalcpanlaaGreatDoorLmt
import Derived.Test.YtmnbakalcpanlaaGreatDoorLmu
namespace Go.Proofs.YtmnbakalcpanlaaGreatDoor
open Go.ChangeShapes Go.WideShapes Go.ChangeAt Go.RowKit Go.Maps Go.WideMaps
set_option linter.unusedVariables false
set_option linter.unusedSimpArgs false

set_option maxRecDepth 1000000 in
set_option maxHeartbeats 8000000 in
theorem Scan_yes (k : Nat) (h2 : 2 ≤ k) (hk : k < 80) (ha : ask k = true) (s : ByteArray) (hs : s.size ≤ 4294967280) (hcut : cut s 0 = ([(⟨k, 0, s.size⟩ : Tk)], none)) (w : World) (hS : Spl w) (hT : Lt w) (hM : ∃ m, w.cell? ⟨1, 0, none⟩ = some (.int .i64 m)) :
    Calls Tryz.prog 4 #[.string s] w fun e w' => ∃ a c, e = .returned (.tuple #[.slice a 2 c, .agg #[.int .i64 0, .int .i64 0, .int .i64 0]]) ∧ w'.ownsRow w.heap.size 50 3 (.slice a 2 c) 2 [.int .u8 (k : Int), .int .i64 0, .int .i64 (s.size : Int), .int .u8 6, .int .i64 (s.size : Int), .int .i64 (s.size : Int)] ∧ Below w.heap.size w w' := by
  obtain ⟨w2, e2, hw, hs2, B0⟩ := bx1 w #[.int .i64 0, .int .i64 0, .int .i64 0] 26
  have HE2 : Hid (w.alloc (.cells #[.int .i64 0, .int .i64 0, .int .i64 0] 26) = w2) := e2
  have HB2 : Hid (Below w.heap.size w w2) := hw
  have HX : Hid (∀ v, Below w2.heap.size w2 v → Lt v ∧ Bx v w.heap.size #[.int .i64 0, .int .i64 0, .int .i64 0] 26 ∧ Below w.heap.size w v) := fun v h => ⟨(hT.below hw).below h, B0.below h B0.lt, hw.trans (h.mono hw.size)⟩
  have HN : Hid (Calls Tryz.prog 12 #[.string s] w2 fun e w' => ∃ b, w2.heap.size < b ∧ e = .returned (.pointer (some ⟨b, 0, none⟩)) ∧ Bx w' b #[.string s, .slice (some ⟨b + 1, 0, none⟩) 6 6, .map (some w2.heap.size), .int .u32 0, .int .i32 0, .int .u32 0, .pointer none] 77 ∧ Bx w' (b + 1) (sts b) 80 ∧ w'.ownsMap Tryz.prog 9 (plainElem (H := Unit) Tryz.prog 48) w2.heap.size 25 (KW 25) ∧ Below w2.heap.size w2 w') := newScanner_any s w2 (hS.below hw)
  have HPC : Hid (∀ b w3, w2.heap.size < b → Bx w3 b #[.string s, .slice (some ⟨b + 1, 0, none⟩) 6 6, .map (some w2.heap.size), .int .u32 0, .int .i32 0, .int .u32 0, .pointer none] 77 → Bx w3 (b + 1) (sts b) 80 → w3.ownsMap Tryz.prog 9 (plainElem (H := Unit) Tryz.prog 48) w2.heap.size 25 (KW 25) → Below w2.heap.size w2 w3 → Calls Tryz.prog 13 #[.pointer (some ⟨b, 0, none⟩), .int .i64 0, .func (Fn.func 14) #[] #[]] w3 fun e w4 => ∃ a c, e = .returned (.tuple #[.slice a 1 c, .int .i64 (s.size : Int), .agg #[.int .i64 0, .int .i64 0, .int .i64 0]]) ∧ w4.ownsRow w3.heap.size 50 3 (.slice a 1 c) 1 [.int .u8 (k : Int), .int .i64 0, .int .i64 (s.size : Int)] ∧ Below w2.heap.size w2 w4) := by
    intro b w3 hb X3 Y3 hO hb3
    obtain ⟨m, hm⟩ := hM
    have G : Gd w2 b w2.heap.size := ⟨hT.below hw, hS.below hw, ⟨m, (hw.cell (p := ⟨1, 0, none⟩) (World.block_lt_of_cell? _ _ hm)).trans hm⟩, by omega, Nat.le_refl _, by omega⟩
    have I : In w2 b w2.heap.size s w3 := ⟨hb3, ⟨0, .pointer none, X3, Y3, .inl ⟨rfl, rfl⟩⟩, hO⟩
    refine (pieces_any G s hs w3 I).mono fun e w4 h => ?_
    obtain ⟨wq, hq, hbel, hp⟩ := h
    rw [hcut] at hp
    obtain ⟨a, c, he, ho⟩ := hp
    exact ⟨a, c, he, own_lower ho hq.size, hbel⟩
  clear e2 hw hs2 B0 hS hT hM
  go_enter Tryz.func4, Tryz.ntmps4
  go_upto_region 1 with fail
  rw [HE2.out]
  go_wp2_with (first
    | (go_at_call 12; (with_reducible refine HN.out.mono ?_); rintro e w3 ⟨b, hbb, rfl, X3, Y3, hO3, hb3⟩; have HB3 : Hid (Below w2.heap.size w2 w3) := hb3; have HP3 : Hid (Calls Tryz.prog 13 #[.pointer (some ⟨b, 0, none⟩), .int .i64 0, .func (Fn.func 14) #[] #[]] w3 fun e w4 => ∃ a c, e = .returned (.tuple #[.slice a 1 c, .int .i64 (s.size : Int), .agg #[.int .i64 0, .int .i64 0, .int .i64 0]]) ∧ w4.ownsRow w3.heap.size 50 3 (.slice a 1 c) 1 [.int .u8 (k : Int), .int .i64 0, .int .i64 (s.size : Int)] ∧ Below w2.heap.size w2 w4) := HPC.out b w3 hbb X3 Y3 hO3 hb3; clear hb3 X3 Y3 hO3)
    | (go_at_call 13; (with_reducible refine HP3.out.mono ?_); rintro e w4 ⟨a4, c4, rfl, ho4, hb4⟩; have HB4 : Hid (Below w2.heap.size w2 w4) := hb4; obtain ⟨g4, c4', hv4, hc4, hg4⟩ := own_cap ho4 (by decide); cases hv4; have d0 : w4.cell? ⟨g4, 0, none⟩ = some (.int .u8 (k : Int)) := ho4.cells rfl 0 _ rfl; have d1 : w4.cell? ⟨g4, 1, none⟩ = some (.int .i64 0) := ho4.cells rfl 1 _ rfl; have d2 : w4.cell? ⟨g4, 2, none⟩ = some (.int .i64 (s.size : Int)) := ho4.cells rfl 2 _ rfl; have HA4 : Hid (Calls Tryz.prog 15 #[.string s, .slice (some ⟨g4, 0, none⟩) 1 c4] (w4.alloc (.cells #[.int .i64 0, .int .i64 0, .int .i64 0] 26)) fun e w' => ∃ a c', e = .returned (.slice a 2 c') ∧ w'.ownsRow (w4.alloc (.cells #[.int .i64 0, .int .i64 0, .int .i64 0] 26)).heap.size 50 3 (.slice a 2 c') 2 [.int .u8 (k : Int), .int .i64 0, .int .i64 (s.size : Int), .int .u8 6, .int .i64 (s.size : Int), .int .i64 (s.size : Int)] ∧ Below (w4.alloc (.cells #[.int .i64 0, .int .i64 0, .int .i64 0] 26)).heap.size (w4.alloc (.cells #[.int .i64 0, .int .i64 0, .int .i64 0] 26)) w') := withAutos_yes k hk ha s hs g4 c4 hc4 _ (by simp; omega) ((((Below.refl _ w4).alloc (Nat.le_refl _) _).cell (p := ⟨g4, 0, none⟩) hg4).trans d0) ((((Below.refl _ w4).alloc (Nat.le_refl _) _).cell (p := ⟨g4, 1, none⟩) hg4).trans d1) ((((Below.refl _ w4).alloc (Nat.le_refl _) _).cell (p := ⟨g4, 2, none⟩) hg4).trans d2); clear ho4 hb4 d0 d1 d2)
    | (go_at_call 15; (with_reducible refine HA4.out.mono ?_); rintro e w6 ⟨a6, c6, rfl, ho6, hb6⟩; have HB6 : Hid (Below w2.heap.size w2 w6) := (HB4.out.alloc HB4.out.size _).trans (hb6.mono (by have := HB4.out.size; simp; omega)); have HO6 : Hid (w6.ownsRow w.heap.size 50 3 (.slice a6 2 c6) 2 [.int .u8 (k : Int), .int .i64 0, .int .i64 (s.size : Int), .int .u8 6, .int .i64 (s.size : Int), .int .i64 (s.size : Int)]) := own_lower ho6 (by have := HB4.out.size; have := HB2.out.size; simp; omega); obtain ⟨-, F6, HW6'⟩ := HX.out w6 HB6.out; have HW6 : Hid (Below w.heap.size w w6) := HW6'; have HF6 : Hid (Bx w6 w.heap.size #[.int .i64 0, .int .i64 0, .int .i64 0] 26) := F6; have z0 : w6.cell? ⟨w.heap.size, 0, none⟩ = some (.int .i64 0) := F6.cell 0; have z1 : w6.cell? ⟨w.heap.size, 1, none⟩ = some (.int .i64 0) := F6.cell 1; have z2 : w6.cell? ⟨w.heap.size, 2, none⟩ = some (.int .i64 0) := F6.cell 2; have f0 := F6.free 0; have f1 := F6.free 1; have f2 := F6.free 2; clear ho6 hb6 F6 HW6'))
  obtain ⟨r0, r1, r2⟩ := HF6.out.read3 (.int .i64 0) (.int .i64 0) (.int .i64 0)
  refine bodyPost_ret (v := .tuple #[.slice a6 2 c6, .agg #[.int .i64 0, .int .i64 0, .int .i64 0]]) (by simp [results, Tryz.results4, go_sem, r0, r1, r2]) rfl ⟨a6, c6, rfl, own_put3 HO6.out HF6.out (by decide), bel_put3 HW6.out (Nat.le_refl _)⟩

set_option maxRecDepth 1000000 in
set_option maxHeartbeats 8000000 in
theorem Scan_no (k : Nat) (h2 : 2 ≤ k) (hk : k < 80) (ha : ask k = false) (s : ByteArray) (hs : s.size ≤ 4294967280) (hcut : cut s 0 = ([(⟨k, 0, s.size⟩ : Tk)], none)) (w : World) (hS : Spl w) (hT : Lt w) (hM : ∃ m, w.cell? ⟨1, 0, none⟩ = some (.int .i64 m)) :
    Calls Tryz.prog 4 #[.string s] w fun e w' => ∃ a c, e = .returned (.tuple #[.slice a 1 c, .agg #[.int .i64 0, .int .i64 0, .int .i64 0]]) ∧ w'.ownsRow w.heap.size 50 3 (.slice a 1 c) 1 [.int .u8 (k : Int), .int .i64 0, .int .i64 (s.size : Int)] ∧ Below w.heap.size w w' := by
  obtain ⟨w2, e2, hw, hs2, B0⟩ := bx1 w #[.int .i64 0, .int .i64 0, .int .i64 0] 26
  have HE2 : Hid (w.alloc (.cells #[.int .i64 0, .int .i64 0, .int .i64 0] 26) = w2) := e2
  have HB2 : Hid (Below w.heap.size w w2) := hw
  have HX : Hid (∀ v, Below w2.heap.size w2 v → Lt v ∧ Bx v w.heap.size #[.int .i64 0, .int .i64 0, .int .i64 0] 26 ∧ Below w.heap.size w v) := fun v h => ⟨(hT.below hw).below h, B0.below h B0.lt, hw.trans (h.mono hw.size)⟩
  have HN : Hid (Calls Tryz.prog 12 #[.string s] w2 fun e w' => ∃ b, w2.heap.size < b ∧ e = .returned (.pointer (some ⟨b, 0, none⟩)) ∧ Bx w' b #[.string s, .slice (some ⟨b + 1, 0, none⟩) 6 6, .map (some w2.heap.size), .int .u32 0, .int .i32 0, .int .u32 0, .pointer none] 77 ∧ Bx w' (b + 1) (sts b) 80 ∧ w'.ownsMap Tryz.prog 9 (plainElem (H := Unit) Tryz.prog 48) w2.heap.size 25 (KW 25) ∧ Below w2.heap.size w2 w') := newScanner_any s w2 (hS.below hw)
  have HPC : Hid (∀ b w3, w2.heap.size < b → Bx w3 b #[.string s, .slice (some ⟨b + 1, 0, none⟩) 6 6, .map (some w2.heap.size), .int .u32 0, .int .i32 0, .int .u32 0, .pointer none] 77 → Bx w3 (b + 1) (sts b) 80 → w3.ownsMap Tryz.prog 9 (plainElem (H := Unit) Tryz.prog 48) w2.heap.size 25 (KW 25) → Below w2.heap.size w2 w3 → Calls Tryz.prog 13 #[.pointer (some ⟨b, 0, none⟩), .int .i64 0, .func (Fn.func 14) #[] #[]] w3 fun e w4 => ∃ a c, e = .returned (.tuple #[.slice a 1 c, .int .i64 (s.size : Int), .agg #[.int .i64 0, .int .i64 0, .int .i64 0]]) ∧ w4.ownsRow w3.heap.size 50 3 (.slice a 1 c) 1 [.int .u8 (k : Int), .int .i64 0, .int .i64 (s.size : Int)] ∧ Below w2.heap.size w2 w4) := by
    intro b w3 hb X3 Y3 hO hb3
    obtain ⟨m, hm⟩ := hM
    have G : Gd w2 b w2.heap.size := ⟨hT.below hw, hS.below hw, ⟨m, (hw.cell (p := ⟨1, 0, none⟩) (World.block_lt_of_cell? _ _ hm)).trans hm⟩, by omega, Nat.le_refl _, by omega⟩
    have I : In w2 b w2.heap.size s w3 := ⟨hb3, ⟨0, .pointer none, X3, Y3, .inl ⟨rfl, rfl⟩⟩, hO⟩
    refine (pieces_any G s hs w3 I).mono fun e w4 h => ?_
    obtain ⟨wq, hq, hbel, hp⟩ := h
    rw [hcut] at hp
    obtain ⟨a, c, he, ho⟩ := hp
    exact ⟨a, c, he, own_lower ho hq.size, hbel⟩
  clear e2 hw hs2 B0 hS hT hM
  go_enter Tryz.func4, Tryz.ntmps4
  go_upto_region 1 with fail
  rw [HE2.out]
  go_wp2_with (first
    | (go_at_call 12; (with_reducible refine HN.out.mono ?_); rintro e w3 ⟨b, hbb, rfl, X3, Y3, hO3, hb3⟩; have HB3 : Hid (Below w2.heap.size w2 w3) := hb3; have HP3 : Hid (Calls Tryz.prog 13 #[.pointer (some ⟨b, 0, none⟩), .int .i64 0, .func (Fn.func 14) #[] #[]] w3 fun e w4 => ∃ a c, e = .returned (.tuple #[.slice a 1 c, .int .i64 (s.size : Int), .agg #[.int .i64 0, .int .i64 0, .int .i64 0]]) ∧ w4.ownsRow w3.heap.size 50 3 (.slice a 1 c) 1 [.int .u8 (k : Int), .int .i64 0, .int .i64 (s.size : Int)] ∧ Below w2.heap.size w2 w4) := HPC.out b w3 hbb X3 Y3 hO3 hb3; clear hb3 X3 Y3 hO3)
    | (go_at_call 13; (with_reducible refine HP3.out.mono ?_); rintro e w4 ⟨a4, c4, rfl, ho4, hb4⟩; have HB4 : Hid (Below w2.heap.size w2 w4) := hb4; obtain ⟨g4, c4', hv4, hc4, hg4⟩ := own_cap ho4 (by decide); cases hv4; have d0 : w4.cell? ⟨g4, 0, none⟩ = some (.int .u8 (k : Int)) := ho4.cells rfl 0 _ rfl; have d1 : w4.cell? ⟨g4, 1, none⟩ = some (.int .i64 0) := ho4.cells rfl 1 _ rfl; have d2 : w4.cell? ⟨g4, 2, none⟩ = some (.int .i64 (s.size : Int)) := ho4.cells rfl 2 _ rfl; have HA4 : Hid (Calls Tryz.prog 15 #[.string s, .slice (some ⟨g4, 0, none⟩) 1 c4] (w4.alloc (.cells #[.int .i64 0, .int .i64 0, .int .i64 0] 26)) fun e w' => ∃ a c', e = .returned (.slice a 1 c') ∧ w'.ownsRow (w4.alloc (.cells #[.int .i64 0, .int .i64 0, .int .i64 0] 26)).heap.size 50 3 (.slice a 1 c') 1 [.int .u8 (k : Int), .int .i64 0, .int .i64 (s.size : Int)] ∧ Below (w4.alloc (.cells #[.int .i64 0, .int .i64 0, .int .i64 0] 26)).heap.size (w4.alloc (.cells #[.int .i64 0, .int .i64 0, .int .i64 0] 26)) w') := withAutos_no k hk ha s hs g4 c4 hc4 _ (by simp; omega) ((((Below.refl _ w4).alloc (Nat.le_refl _) _).cell (p := ⟨g4, 0, none⟩) hg4).trans d0) ((((Below.refl _ w4).alloc (Nat.le_refl _) _).cell (p := ⟨g4, 1, none⟩) hg4).trans d1) ((((Below.refl _ w4).alloc (Nat.le_refl _) _).cell (p := ⟨g4, 2, none⟩) hg4).trans d2); clear ho4 hb4 d0 d1 d2)
    | (go_at_call 15; (with_reducible refine HA4.out.mono ?_); rintro e w6 ⟨a6, c6, rfl, ho6, hb6⟩; have HB6 : Hid (Below w2.heap.size w2 w6) := (HB4.out.alloc HB4.out.size _).trans (hb6.mono (by have := HB4.out.size; simp; omega)); have HO6 : Hid (w6.ownsRow w.heap.size 50 3 (.slice a6 1 c6) 1 [.int .u8 (k : Int), .int .i64 0, .int .i64 (s.size : Int)]) := own_lower ho6 (by have := HB4.out.size; have := HB2.out.size; simp; omega); obtain ⟨-, F6, HW6'⟩ := HX.out w6 HB6.out; have HW6 : Hid (Below w.heap.size w w6) := HW6'; have HF6 : Hid (Bx w6 w.heap.size #[.int .i64 0, .int .i64 0, .int .i64 0] 26) := F6; have z0 : w6.cell? ⟨w.heap.size, 0, none⟩ = some (.int .i64 0) := F6.cell 0; have z1 : w6.cell? ⟨w.heap.size, 1, none⟩ = some (.int .i64 0) := F6.cell 1; have z2 : w6.cell? ⟨w.heap.size, 2, none⟩ = some (.int .i64 0) := F6.cell 2; have f0 := F6.free 0; have f1 := F6.free 1; have f2 := F6.free 2; clear ho6 hb6 F6 HW6'))
  obtain ⟨r0, r1, r2⟩ := HF6.out.read3 (.int .i64 0) (.int .i64 0) (.int .i64 0)
  refine bodyPost_ret (v := .tuple #[.slice a6 1 c6, .agg #[.int .i64 0, .int .i64 0, .int .i64 0]]) (by simp [results, Tryz.results4, go_sem, r0, r1, r2]) rfl ⟨a6, c6, rfl, own_put3 HO6.out HF6.out (by decide), bel_put3 HW6.out (Nat.le_refl _)⟩

set_option maxRecDepth 1000000 in
set_option maxHeartbeats 8000000 in
theorem Kind_yes (k : Nat) (h2 : 2 ≤ k) (hk : k < 80) (ha : ask k = true) (s : ByteArray) (hs : s.size ≤ 4294967280) (hcut : cut s 0 = ([(⟨k, 0, s.size⟩ : Tk)], none)) (w : World) (hS : Spl w) (hT : Lt w) (hM : ∃ m, w.cell? ⟨1, 0, none⟩ = some (.int .i64 m)) :
    Calls Tryz.prog 61 #[.string s] w fun e w' => e = .returned (.tuple #[.int .u8 (k : Int), .bool true]) ∧ Below w.heap.size w w' := by
  have HN := Scan_yes k h2 hk ha s hs hcut w hS hT hM
  have HN' : Hid (Calls Tryz.prog 4 #[.string s] w fun e w' => ∃ a c, e = .returned (.tuple #[.slice a 2 c, .agg #[.int .i64 0, .int .i64 0, .int .i64 0]]) ∧ w'.ownsRow w.heap.size 50 3 (.slice a 2 c) 2 [.int .u8 (k : Int), .int .i64 0, .int .i64 (s.size : Int), .int .u8 6, .int .i64 (s.size : Int), .int .i64 (s.size : Int)] ∧ Below w.heap.size w w') := HN
  clear HN hS hT hM
  go_enter Tryz.func61, Tryz.ntmps61
  go_wp2_with (first
    | (go_at_call 4; (with_reducible refine HN'.out.mono ?_); rintro e w4 ⟨a4, c4, rfl, ho4, hb4⟩; have HB4 : Hid (Below w.heap.size w w4) := hb4; obtain ⟨g4, c4', hv4, hc4, hg4⟩ := own_cap ho4 (by decide); cases hv4; have d0 : w4.cell? ⟨g4, 0, none⟩ = some (.int .u8 (k : Int)) := ho4.cells rfl 0 _ rfl; have d3 : w4.cell? ⟨g4, 3, none⟩ = some (.int .u8 6) := ho4.cells rfl 3 _ rfl; clear ho4 hb4)
    | (go_at_call 41; (with_reducible refine (isTok_any k (by omega) (by omega) _).mono ?_); rintro e w5 ⟨rfl, hw5⟩; subst hw5))
  go_ret2
  exact ⟨rfl, HB4.out.alloc HB4.out.size _⟩

set_option maxRecDepth 1000000 in
set_option maxHeartbeats 8000000 in
theorem Kind_no (k : Nat) (h2 : 2 ≤ k) (hk : k < 80) (ha : ask k = false) (s : ByteArray) (hs : s.size ≤ 4294967280) (hcut : cut s 0 = ([(⟨k, 0, s.size⟩ : Tk)], none)) (w : World) (hS : Spl w) (hT : Lt w) (hM : ∃ m, w.cell? ⟨1, 0, none⟩ = some (.int .i64 m)) :
    Calls Tryz.prog 61 #[.string s] w fun e w' => e = .returned (.tuple #[.int .u8 (k : Int), .bool true]) ∧ Below w.heap.size w w' := by
  have HN := Scan_no k h2 hk ha s hs hcut w hS hT hM
  have HN' : Hid (Calls Tryz.prog 4 #[.string s] w fun e w' => ∃ a c, e = .returned (.tuple #[.slice a 1 c, .agg #[.int .i64 0, .int .i64 0, .int .i64 0]]) ∧ w'.ownsRow w.heap.size 50 3 (.slice a 1 c) 1 [.int .u8 (k : Int), .int .i64 0, .int .i64 (s.size : Int)] ∧ Below w.heap.size w w') := HN
  clear HN hS hT hM
  go_enter Tryz.func61, Tryz.ntmps61
  go_wp2_with (first
    | (go_at_call 4; (with_reducible refine HN'.out.mono ?_); rintro e w4 ⟨a4, c4, rfl, ho4, hb4⟩; have HB4 : Hid (Below w.heap.size w w4) := hb4; obtain ⟨g4, c4', hv4, hc4, hg4⟩ := own_cap ho4 (by decide); cases hv4; have d0 : w4.cell? ⟨g4, 0, none⟩ = some (.int .u8 (k : Int)) := ho4.cells rfl 0 _ rfl; clear ho4 hb4)
    | (go_at_call 41; (with_reducible refine (isTok_any k (by omega) (by omega) _).mono ?_); rintro e w5 ⟨rfl, hw5⟩; subst hw5))
  go_ret2
  exact ⟨rfl, HB4.out.alloc HB4.out.size _⟩

theorem Kind_one (k : Nat) (h2 : 2 ≤ k) (hk : k < 80) (s : ByteArray) (hs : s.size ≤ 4294967280) (hcut : cut s 0 = ([(⟨k, 0, s.size⟩ : Tk)], none)) (w : World) (hS : Spl w) (hT : Lt w) (hM : ∃ m, w.cell? ⟨1, 0, none⟩ = some (.int .i64 m)) :
    Calls Tryz.prog 61 #[.string s] w fun e w' => e = .returned (.tuple #[.int .u8 (k : Int), .bool true]) ∧ Below w.heap.size w w' := by
  cases ha : ask k with
  | true => exact Kind_yes k h2 hk ha s hs hcut w hS hT hM
  | false => exact Kind_no k h2 hk ha s hs hcut w hS hT hM
end Go.Proofs.YtmnbakalcpanlaaGreatDoor
