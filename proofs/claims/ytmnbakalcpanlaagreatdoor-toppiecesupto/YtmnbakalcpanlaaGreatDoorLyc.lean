import Derived.Test.YtmnbakalcpanlaaGreatDoorLya
namespace Go.Proofs.YtmnbakalcpanlaaGreatDoor
open Go.ChangeShapes Go.WideShapes Go.ChangeAt Go.RowKit Go.Maps Go.WideMaps
set_option linter.unusedVariables false
set_option linter.unusedSimpArgs false

set_option maxRecDepth 100000 in
theorem isToken_text (w : World) : Calls Tryz.prog 41 #[.int .u8 5] w fun e w' => e = .returned (.bool true) ∧ w' = w := by
  go_enter Tryz.func41, Tryz.ntmps41
  go_wp2
  go_ret
  exact ⟨rfl, rfl⟩
set_option maxRecDepth 100000 in
theorem asks_text (w : World) : Calls Tryz.prog 40 #[.int .u8 5] w fun e w' => e = .returned (.bool true) ∧ w' = w := by
  go_enter Tryz.func40, Tryz.ntmps40
  go_wp2
  go_ret
  exact ⟨rfl, rfl⟩

theorem cells_new2 (w : World) (o : Obj) (l : List Value) (t : TypeId) : ∀ j u, l[j]? = some u → ((w.alloc o).alloc (.cells l.toArray t)).cell? ((⟨w.heap.size + 1, 0, none⟩ : Addr).add j) = some u := by
  intro j u h
  have h1 := cells_new (w.alloc o) l t j u h
  have e : (w.alloc o).heap.size = w.heap.size + 1 := by simp
  rw [e] at h1
  exact h1

set_option maxRecDepth 1000000 in
set_option maxHeartbeats 8000000 in
theorem withAutos_text (s : ByteArray) (hs : s.size ≤ 4294967280) (g c : Nat) (hc1 : 1 ≤ c) (w : World) (hg : g < w.heap.size) (c0 : w.cell? ⟨g, 0, none⟩ = some (.int .u8 5)) (c1 : w.cell? ⟨g, 1, none⟩ = some (.int .i64 0)) (c2 : w.cell? ⟨g, 2, none⟩ = some (.int .i64 (s.size : Int))) :
    Calls Tryz.prog 15 #[.string s, .slice (some ⟨g, 0, none⟩) 1 c] w fun e w' => ∃ a c', e = .returned (.slice a 2 c') ∧ w'.ownsRow w.heap.size 50 3 (.slice a 2 c') 2 [.int .u8 5, .int .i64 0, .int .i64 (s.size : Int), .int .u8 6, .int .i64 (s.size : Int), .int .i64 (s.size : Int)] ∧ Below w.heap.size w w' := by
  obtain ⟨i0, hi, hz0, hz1, hz2⟩ := info_parts (show (Tryz.prog.info? 50).map (fun i => (i.zero, i.size, i.bytes)) = some (some (.agg #[.int .u8 0, .int .i64 0, .int .i64 0]), 3, 24) by kernel_rfl)
  have hc1' : (1 : Int) ≤ (c : Int) := by omega
  have hcn : ¬ (c : Int) < 1 := by omega
  go_enter Tryz.func15, Tryz.ntmps15
  go_wp2
  go_step3
  go_wp2
  go_step3
  go_wp2
  refine wp_loop_rounds 2 ?_
  rw [rounds_succ]
  go_wp2_with (first
    | (go_at_call 40; (with_reducible refine (asks_text _).mono ?_); rintro e w4 ⟨rfl, hw4⟩; have hw5 := hw4.symm; clear hw4; subst hw5)
    | (at_builtin; (refine wpList_append_at _ rfl (.tmp 17) (.tmp 19) 23 rfl w.heap.size 50 i0 (.agg #[.int .u8 0, .int .i64 0, .int .i64 0]) 3 24 Tryz.underlying23 hi hz0 hz1 hz2 rfl (by decide) _ 0 [] rfl (World.ownsRow_nil _ _ _ _) (some ⟨_, 0, none⟩) 1 1 [.int .u8 5, .int .i64 0, .int .i64 (s.size : Int)] rfl rfl (fun h => by cases h) (fun ad had => by cases had; exact cells_new2 _ _ _ _) (fun u hu => by simp at hu; rcases hu with rfl | rfl | rfl <;> rfl) (by unfold maxLen; omega) (by omega) (by simp; omega) ?_); intro v9 w9 ho9 hg9 _; rw [Nat.zero_add, List.nil_append] at ho9; obtain ⟨a9, c9, hv9, -, -⟩ := own_slice ho9; subst hv9; have HO9 : Hid (w9.ownsRow w.heap.size 50 3 (.slice a9 1 c9) 1 [.int .u8 5, .int .i64 0, .int .i64 (s.size : Int)]) := ho9; have HB9 : Hid (Below w.heap.size w w9) := (((Below.refl _ w).alloc (Nat.le_refl _) _).alloc (by simp) _).grown hg9 (by simp; omega) (fun k hk => by cases hk); have X5 := ((Bx.new w #[.int .u8 5, .int .i64 0, .int .i64 (s.size : Int)] 50).alloc (.cells #[.int .u8 5, .int .i64 0, .int .i64 (s.size : Int)] 50)); have X9 : Bx w9 w.heap.size #[.int .u8 5, .int .i64 0, .int .i64 (s.size : Int)] 50 := (hg9.block w.heap.size X5.lt (fun e => by cases e)).trans X5; have k0 : w9.cell? ⟨w.heap.size, 0, none⟩ = some (.int .u8 5) := X9.cell 0; have k2 : w9.cell? ⟨w.heap.size, 2, none⟩ = some (.int .i64 (s.size : Int)) := X9.cell 2; have hw9 : w.heap.size < w9.heap.size := X9.lt; clear X5 X9 ho9 hg9))
  all_goals
    refine wp_loop_rounds 1 ?_
    rw [rounds_succ]
    go_wp2_with (at_builtin; (refine wpList_append_at _ rfl (.tmp 45) (.tmp 51) 23 rfl w.heap.size 50 i0 (.agg #[.int .u8 0, .int .i64 0, .int .i64 0]) 3 24 Tryz.underlying23 hi hz0 hz1 hz2 rfl (by decide) _ 1 _ rfl (HO9.out.alloc _) (some ⟨w9.heap.size, 0, none⟩) 1 1 [.int .u8 6, .int .i64 (s.size : Int), .int .i64 (s.size : Int)] rfl rfl (fun h => by cases h) (fun ad had => by cases had; exact cells_new _ _ _) (fun u hu => by simp at hu; rcases hu with rfl | rfl | rfl <;> rfl) (by unfold maxLen; omega) (by omega) (by simp; omega) ?_); intro v8 w8 ho8 hg8 _; obtain ⟨a8, c8, hv8, -, -⟩ := own_slice ho8; subst hv8; have HO8 : Hid (w8.ownsRow w.heap.size 50 3 (.slice a8 2 c8) 2 [.int .u8 5, .int .i64 0, .int .i64 (s.size : Int), .int .u8 6, .int .i64 (s.size : Int), .int .i64 (s.size : Int)]) := ho8; have HB8 : Hid (Below w.heap.size w w8) := (HB9.out.alloc HB9.out.size _).grown hg8 (by have := HB9.out.size; simp; omega) (fun k hk => (HO9.out.lt k hk).1); clear ho8 hg8)
    rw [rounds_succ]
    go_wp2
    first | rw [Exit.noGoto_ret] | skip
    go_ret
    exact ⟨a8, c8, rfl, HO8.out, HB8.out⟩
end Go.Proofs.YtmnbakalcpanlaaGreatDoor

namespace Go.Proofs.YtmnbakalcpanlaaGreatDoor
open Go.ChangeShapes Go.WideShapes Go.ChangeAt Go.RowKit Go.Maps Go.WideMaps
set_option linter.unusedVariables false
set_option linter.unusedSimpArgs false

theorem own_cap {w : World} {B s n : Nat} {e : TypeId} {v : Value} {xs : List Value} (h : w.ownsRow B e s v n xs) (hn : 0 < n) : ∃ g c, v = .slice (some ⟨g, 0, none⟩) n c ∧ n ≤ c ∧ g < w.heap.size := by
  rcases h.2 with ⟨_, h0⟩ | ⟨g, c, cur, hv, _, hh, r⟩
  · omega
  · exact ⟨g, c, hv, r.1, lt_of_block hh⟩

theorem own_lower {w : World} {B B' s n : Nat} {e : TypeId} {v : Value} {xs : List Value} (h : w.ownsRow B e s v n xs) (hB : B' ≤ B) : w.ownsRow B' e s v n xs := by
  refine ⟨h.1, ?_⟩
  rcases h.2 with h2 | ⟨g, c, cur, hv, hg, r⟩
  · exact .inl h2
  · exact .inr ⟨g, c, cur, hv, Nat.le_trans hB hg, r⟩

set_option maxRecDepth 1000000 in
set_option maxHeartbeats 8000000 in
theorem Scan_text (s : ByteArray) (hs : s.size ≤ 4294967280) (h0 : 0 < s.size) (hc : (s[0]'h0).toNat = 34) (hq : quP s 0 = .ok 5 s.size) (w : World) (hS : Spl w) (hT : Lt w) :
    Calls Tryz.prog 4 #[.string s] w fun e w' => ∃ a c, e = .returned (.tuple #[.slice a 2 c, .agg #[.int .i64 0, .int .i64 0, .int .i64 0]]) ∧ w'.ownsRow w.heap.size 50 3 (.slice a 2 c) 2 [.int .u8 5, .int .i64 0, .int .i64 (s.size : Int), .int .u8 6, .int .i64 (s.size : Int), .int .i64 (s.size : Int)] ∧ Below w.heap.size w w' := by
  obtain ⟨w2, e2, hw, hs2, B0⟩ := bx1 w #[.int .i64 0, .int .i64 0, .int .i64 0] 26
  have HE2 : Hid (w.alloc (.cells #[.int .i64 0, .int .i64 0, .int .i64 0] 26) = w2) := e2
  have HB2 : Hid (Below w.heap.size w w2) := hw
  have HX : Hid (∀ v, Below w2.heap.size w2 v → Lt v ∧ Bx v w.heap.size #[.int .i64 0, .int .i64 0, .int .i64 0] 26 ∧ Below w.heap.size w v) := fun v h => ⟨(hT.below hw).below h, B0.below h B0.lt, hw.trans (h.mono hw.size)⟩
  have HN : Hid (Calls Tryz.prog 12 #[.string s] w2 fun e w' => ∃ b, w2.heap.size < b ∧ e = .returned (.pointer (some ⟨b, 0, none⟩)) ∧ Bx w' b #[.string s, .slice (some ⟨b + 1, 0, none⟩) 6 6, .map (some w2.heap.size), .int .u32 0, .int .i32 0, .int .u32 0, .pointer none] 77 ∧ Bx w' (b + 1) (sts b) 80 ∧ w'.ownsMap Tryz.prog 9 (plainElem (H := Unit) Tryz.prog 48) w2.heap.size 25 (KW 25) ∧ Below w2.heap.size w2 w') := newScanner_any s w2 (hS.below hw)
  clear e2 hw hs2 B0 hS hT
  go_enter Tryz.func4, Tryz.ntmps4
  go_upto_region 1 with fail
  rw [HE2.out]
  go_wp2_with (first
    | (go_at_call 12; (with_reducible refine HN.out.mono ?_); rintro e w3 ⟨b, hbb, rfl, X3, Y3, -, hb3⟩; have HB3 : Hid (Below w2.heap.size w2 w3) := hb3; have HS3 : Hid (Scn w3 b w2.heap.size s) := ⟨X3, Y3⟩; clear hb3 X3 Y3)
    | (go_at_call 13; (with_reducible refine (pieces_text b w2.heap.size s hs h0 hc hq w3 HS3.out (HX.out w3 HB3.out).1).mono ?_); rintro e w4 ⟨a4, c4, rfl, ho4, hb4⟩; have HB4 : Hid (Below w2.heap.size w2 w4) := HB3.out.trans (hb4.mono HB3.out.size); obtain ⟨g4, c4', hv4, hc4, hg4⟩ := own_cap ho4 (by decide); cases hv4; have d0 : w4.cell? ⟨g4, 0, none⟩ = some (.int .u8 5) := ho4.cells rfl 0 _ rfl; have d1 : w4.cell? ⟨g4, 1, none⟩ = some (.int .i64 0) := ho4.cells rfl 1 _ rfl; have d2 : w4.cell? ⟨g4, 2, none⟩ = some (.int .i64 (s.size : Int)) := ho4.cells rfl 2 _ rfl; have HA4 : Hid (Calls Tryz.prog 15 #[.string s, .slice (some ⟨g4, 0, none⟩) 1 c4] (w4.alloc (.cells #[.int .i64 0, .int .i64 0, .int .i64 0] 26)) fun e w' => ∃ a c', e = .returned (.slice a 2 c') ∧ w'.ownsRow (w4.alloc (.cells #[.int .i64 0, .int .i64 0, .int .i64 0] 26)).heap.size 50 3 (.slice a 2 c') 2 [.int .u8 5, .int .i64 0, .int .i64 (s.size : Int), .int .u8 6, .int .i64 (s.size : Int), .int .i64 (s.size : Int)] ∧ Below (w4.alloc (.cells #[.int .i64 0, .int .i64 0, .int .i64 0] 26)).heap.size (w4.alloc (.cells #[.int .i64 0, .int .i64 0, .int .i64 0] 26)) w') := withAutos_text s hs g4 c4 hc4 _ (by simp; omega) ((((Below.refl _ w4).alloc (Nat.le_refl _) _).cell (p := ⟨g4, 0, none⟩) hg4).trans d0) ((((Below.refl _ w4).alloc (Nat.le_refl _) _).cell (p := ⟨g4, 1, none⟩) hg4).trans d1) ((((Below.refl _ w4).alloc (Nat.le_refl _) _).cell (p := ⟨g4, 2, none⟩) hg4).trans d2); clear ho4 hb4 d0 d1 d2)
    | (go_at_call 15; (with_reducible refine HA4.out.mono ?_); rintro e w6 ⟨a6, c6, rfl, ho6, hb6⟩; have HB6 : Hid (Below w2.heap.size w2 w6) := (HB4.out.alloc HB4.out.size _).trans (hb6.mono (by have := HB4.out.size; simp; omega)); have HO6 : Hid (w6.ownsRow w.heap.size 50 3 (.slice a6 2 c6) 2 [.int .u8 5, .int .i64 0, .int .i64 (s.size : Int), .int .u8 6, .int .i64 (s.size : Int), .int .i64 (s.size : Int)]) := own_lower ho6 (by have := HB4.out.size; have := HB2.out.size; simp; omega); obtain ⟨-, F6, HW6'⟩ := HX.out w6 HB6.out; have HW6 : Hid (Below w.heap.size w w6) := HW6'; have HF6 : Hid (Bx w6 w.heap.size #[.int .i64 0, .int .i64 0, .int .i64 0] 26) := F6; have z0 : w6.cell? ⟨w.heap.size, 0, none⟩ = some (.int .i64 0) := F6.cell 0; have z1 : w6.cell? ⟨w.heap.size, 1, none⟩ = some (.int .i64 0) := F6.cell 1; have z2 : w6.cell? ⟨w.heap.size, 2, none⟩ = some (.int .i64 0) := F6.cell 2; have f0 := F6.free 0; have f1 := F6.free 1; have f2 := F6.free 2; clear ho6 hb6 F6 HW6'))
  obtain ⟨r0, r1, r2⟩ := HF6.out.read3 (.int .i64 0) (.int .i64 0) (.int .i64 0)
  refine bodyPost_ret (v := .tuple #[.slice a6 2 c6, .agg #[.int .i64 0, .int .i64 0, .int .i64 0]]) (by simp [results, Tryz.results4, go_sem, r0, r1, r2]) rfl ⟨a6, c6, rfl, own_put3 HO6.out HF6.out (by decide), bel_put3 HW6.out (Nat.le_refl _)⟩
end Go.Proofs.YtmnbakalcpanlaaGreatDoor
