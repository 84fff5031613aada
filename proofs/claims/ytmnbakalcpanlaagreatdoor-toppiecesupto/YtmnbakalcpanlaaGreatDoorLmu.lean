import Derived.Test.YtmnbakalcpanlaaGreatDoorLyc
import Derived.Test.YtmnbakalcpanlaaGreatDoorLmr
namespace Go.Proofs.YtmnbakalcpanlaaGreatDoor
open Go.ChangeShapes Go.WideShapes Go.ChangeAt Go.RowKit Go.Maps Go.WideMaps
set_option linter.unusedVariables false
set_option linter.unusedSimpArgs false

/-- may a semicolon stand behind it? -/
def ask (k : Nat) : Bool := decide (k ∈ [2, 3, 4, 5, 7, 11, 15, 26, 57, 58, 71, 73, 75])
set_option maxRecDepth 1000000 in
set_option maxHeartbeats 4000000 in
theorem asks_any (k : Nat) (hk : k < 256) (w : World) : Calls Tryz.prog 40 #[.int .u8 (k : Int)] w fun e w' => e = .returned (.bool (ask k)) ∧ w' = w := by
  by_cases h : k = 2 ∨ k = 3 ∨ k = 4 ∨ k = 5 ∨ k = 7 ∨ k = 11 ∨ k = 15 ∨ k = 26 ∨ k = 57 ∨ k = 58 ∨ k = 71 ∨ k = 73 ∨ k = 75
  · rcases h with rfl | rfl | rfl | rfl | rfl | rfl | rfl | rfl | rfl | rfl | rfl | rfl | rfl
    all_goals
      go_enter Tryz.func40, Tryz.ntmps40
      go_wp2
      go_ret
      exact ⟨rfl, rfl⟩
  · have e : ask k = false := by
      unfold ask
      simp
      omega
    rw [e]
    have q0 : ((k : Int) == 2) = false := by simp; omega
    have q1 : ((k : Int) == 3) = false := by simp; omega
    have q2 : ((k : Int) == 4) = false := by simp; omega
    have q3 : ((k : Int) == 5) = false := by simp; omega
    have q4 : ((k : Int) == 7) = false := by simp; omega
    have q5 : ((k : Int) == 11) = false := by simp; omega
    have q6 : ((k : Int) == 15) = false := by simp; omega
    have q7 : ((k : Int) == 26) = false := by simp; omega
    have q8 : ((k : Int) == 57) = false := by simp; omega
    have q9 : ((k : Int) == 58) = false := by simp; omega
    have q10 : ((k : Int) == 71) = false := by simp; omega
    have q11 : ((k : Int) == 73) = false := by simp; omega
    have q12 : ((k : Int) == 75) = false := by simp; omega
    go_enter Tryz.func40, Tryz.ntmps40
    go_wp2
    go_ret
    exact ⟨rfl, rfl⟩
set_option maxRecDepth 1000000 in
theorem isTok_any (k : Nat) (h0 : k ≠ 0) (h1 : k ≠ 1) (w : World) : Calls Tryz.prog 41 #[.int .u8 (k : Int)] w fun e w' => e = .returned (.bool true) ∧ w' = w := by
  have q0 : ((k : Int) != 0) = true := by simp; omega
  have q1 : ((k : Int) != 1) = true := by simp; omega
  go_enter Tryz.func41, Tryz.ntmps41
  go_wp2
  go_ret
  exact ⟨rfl, rfl⟩

set_option maxRecDepth 1000000 in
set_option maxHeartbeats 8000000 in
theorem withAutos_yes (k : Nat) (hk : k < 80) (ha : ask k = true) (s : ByteArray) (hs : s.size ≤ 4294967280) (g c : Nat) (hc1 : 1 ≤ c) (w : World) (hg : g < w.heap.size) (c0 : w.cell? ⟨g, 0, none⟩ = some (.int .u8 (k : Int))) (c1 : w.cell? ⟨g, 1, none⟩ = some (.int .i64 0)) (c2 : w.cell? ⟨g, 2, none⟩ = some (.int .i64 (s.size : Int))) :
    Calls Tryz.prog 15 #[.string s, .slice (some ⟨g, 0, none⟩) 1 c] w fun e w' => ∃ a c', e = .returned (.slice a 2 c') ∧ w'.ownsRow w.heap.size 50 3 (.slice a 2 c') 2 [.int .u8 (k : Int), .int .i64 0, .int .i64 (s.size : Int), .int .u8 6, .int .i64 (s.size : Int), .int .i64 (s.size : Int)] ∧ Below w.heap.size w w' := by
  obtain ⟨i0, hi, hz0, hz1, hz2⟩ := info_parts (show (Tryz.prog.info? 50).map (fun i => (i.zero, i.size, i.bytes)) = some (some (.agg #[.int .u8 0, .int .i64 0, .int .i64 0]), 3, 24) by kernel_rfl)
  have HAK : Hid (∀ v, Calls Tryz.prog 40 #[.int .u8 (k : Int)] v fun e w' => e = .returned (.bool true) ∧ w' = v) := fun v => by
    have := asks_any k (by omega) v
    rw [ha] at this
    exact this
  have hc1' : (1 : Int) ≤ (c : Int) := by omega
  have hcn : ¬ (c : Int) < 1 := by omega
  go_enter Tryz.func15, Tryz.ntmps15
  go_wp2
  go_step3
  go_wp2
  go_step3
  go_wp2
  refine wp_loop_rounds 2 ?_
  rw [rounds_succ]
  go_wp2_with (first
    | (go_at_call 40; (with_reducible refine (HAK.out _).mono ?_); rintro e w4 ⟨rfl, hw4⟩; have hw5 := hw4.symm; clear hw4; subst hw5)
    | (at_builtin; (refine wpList_append_at _ rfl (.tmp 17) (.tmp 19) 23 rfl w.heap.size 50 i0 (.agg #[.int .u8 0, .int .i64 0, .int .i64 0]) 3 24 Tryz.underlying23 hi hz0 hz1 hz2 rfl (by decide) _ 0 [] rfl (World.ownsRow_nil _ _ _ _) (some ⟨_, 0, none⟩) 1 1 [.int .u8 (k : Int), .int .i64 0, .int .i64 (s.size : Int)] rfl rfl (fun h => by cases h) (fun ad had => by cases had; exact cells_new2 _ _ _ _) (fun u hu => by simp at hu; rcases hu with rfl | rfl | rfl <;> rfl) (by unfold maxLen; omega) (by omega) (by simp; omega) ?_); intro v9 w9 ho9 hg9 _; rw [Nat.zero_add, List.nil_append] at ho9; obtain ⟨a9, c9, hv9, -, -⟩ := own_slice ho9; subst hv9; have HO9 : Hid (w9.ownsRow w.heap.size 50 3 (.slice a9 1 c9) 1 [.int .u8 (k : Int), .int .i64 0, .int .i64 (s.size : Int)]) := ho9; have HB9 : Hid (Below w.heap.size w w9) := (((Below.refl _ w).alloc (Nat.le_refl _) _).alloc (by simp) _).grown hg9 (by simp; omega) (fun k hk => by cases hk); have X5 := ((Bx.new w #[.int .u8 (k : Int), .int .i64 0, .int .i64 (s.size : Int)] 50).alloc (.cells #[.int .u8 (k : Int), .int .i64 0, .int .i64 (s.size : Int)] 50)); have X9 : Bx w9 w.heap.size #[.int .u8 (k : Int), .int .i64 0, .int .i64 (s.size : Int)] 50 := (hg9.block w.heap.size X5.lt (fun e => by cases e)).trans X5; have k0 : w9.cell? ⟨w.heap.size, 0, none⟩ = some (.int .u8 (k : Int)) := X9.cell 0; have k2 : w9.cell? ⟨w.heap.size, 2, none⟩ = some (.int .i64 (s.size : Int)) := X9.cell 2; have hw9 : w.heap.size < w9.heap.size := X9.lt; clear X5 X9 ho9 hg9))
  all_goals
    refine wp_loop_rounds 1 ?_
    rw [rounds_succ]
    go_wp2_with (at_builtin; (refine wpList_append_at _ rfl (.tmp 45) (.tmp 51) 23 rfl w.heap.size 50 i0 (.agg #[.int .u8 0, .int .i64 0, .int .i64 0]) 3 24 Tryz.underlying23 hi hz0 hz1 hz2 rfl (by decide) _ 1 _ rfl (HO9.out.alloc _) (some ⟨w9.heap.size, 0, none⟩) 1 1 [.int .u8 6, .int .i64 (s.size : Int), .int .i64 (s.size : Int)] rfl rfl (fun h => by cases h) (fun ad had => by cases had; exact cells_new _ _ _) (fun u hu => by simp at hu; rcases hu with rfl | rfl | rfl <;> rfl) (by unfold maxLen; omega) (by omega) (by simp; omega) ?_); intro v8 w8 ho8 hg8 _; obtain ⟨a8, c8, hv8, -, -⟩ := own_slice ho8; subst hv8; have HO8 : Hid (w8.ownsRow w.heap.size 50 3 (.slice a8 2 c8) 2 [.int .u8 (k : Int), .int .i64 0, .int .i64 (s.size : Int), .int .u8 6, .int .i64 (s.size : Int), .int .i64 (s.size : Int)]) := ho8; have HB8 : Hid (Below w.heap.size w w8) := (HB9.out.alloc HB9.out.size _).grown hg8 (by have := HB9.out.size; simp; omega) (fun k hk => (HO9.out.lt k hk).1); clear ho8 hg8)
    rw [rounds_succ]
    go_wp2
    first | rw [Exit.noGoto_ret] | skip
    go_ret
    exact ⟨a8, c8, rfl, HO8.out, HB8.out⟩

set_option maxRecDepth 1000000 in
set_option maxHeartbeats 8000000 in
theorem withAutos_no (k : Nat) (hk : k < 80) (ha : ask k = false) (s : ByteArray) (hs : s.size ≤ 4294967280) (g c : Nat) (hc1 : 1 ≤ c) (w : World) (hg : g < w.heap.size) (c0 : w.cell? ⟨g, 0, none⟩ = some (.int .u8 (k : Int))) (c1 : w.cell? ⟨g, 1, none⟩ = some (.int .i64 0)) (c2 : w.cell? ⟨g, 2, none⟩ = some (.int .i64 (s.size : Int))) :
    Calls Tryz.prog 15 #[.string s, .slice (some ⟨g, 0, none⟩) 1 c] w fun e w' => ∃ a c', e = .returned (.slice a 1 c') ∧ w'.ownsRow w.heap.size 50 3 (.slice a 1 c') 1 [.int .u8 (k : Int), .int .i64 0, .int .i64 (s.size : Int)] ∧ Below w.heap.size w w' := by
  obtain ⟨i0, hi, hz0, hz1, hz2⟩ := info_parts (show (Tryz.prog.info? 50).map (fun i => (i.zero, i.size, i.bytes)) = some (some (.agg #[.int .u8 0, .int .i64 0, .int .i64 0]), 3, 24) by kernel_rfl)
  have HAK : Hid (∀ v, Calls Tryz.prog 40 #[.int .u8 (k : Int)] v fun e w' => e = .returned (.bool false) ∧ w' = v) := fun v => by
    have := asks_any k (by omega) v
    rw [ha] at this
    exact this
  have hc1' : (1 : Int) ≤ (c : Int) := by omega
  have hcn : ¬ (c : Int) < 1 := by omega
  go_enter Tryz.func15, Tryz.ntmps15
  go_wp2
  go_step3
  go_wp2
  go_step3
  go_wp2
  refine wp_loop_rounds 2 ?_
  rw [rounds_succ]
  go_wp2_with (first
    | (go_at_call 40; (with_reducible refine (HAK.out _).mono ?_); rintro e w4 ⟨rfl, hw4⟩; have hw5 := hw4.symm; clear hw4; subst hw5)
    | (at_builtin; (refine wpList_append_at _ rfl (.tmp 17) (.tmp 19) 23 rfl w.heap.size 50 i0 (.agg #[.int .u8 0, .int .i64 0, .int .i64 0]) 3 24 Tryz.underlying23 hi hz0 hz1 hz2 rfl (by decide) _ 0 [] rfl (World.ownsRow_nil _ _ _ _) (some ⟨_, 0, none⟩) 1 1 [.int .u8 (k : Int), .int .i64 0, .int .i64 (s.size : Int)] rfl rfl (fun h => by cases h) (fun ad had => by cases had; exact cells_new2 _ _ _ _) (fun u hu => by simp at hu; rcases hu with rfl | rfl | rfl <;> rfl) (by unfold maxLen; omega) (by omega) (by simp; omega) ?_); intro v9 w9 ho9 hg9 _; rw [Nat.zero_add, List.nil_append] at ho9; obtain ⟨a9, c9, hv9, -, -⟩ := own_slice ho9; subst hv9; have HO9 : Hid (w9.ownsRow w.heap.size 50 3 (.slice a9 1 c9) 1 [.int .u8 (k : Int), .int .i64 0, .int .i64 (s.size : Int)]) := ho9; have HB9 : Hid (Below w.heap.size w w9) := (((Below.refl _ w).alloc (Nat.le_refl _) _).alloc (by simp) _).grown hg9 (by simp; omega) (fun k hk => by cases hk); have X5 := ((Bx.new w #[.int .u8 (k : Int), .int .i64 0, .int .i64 (s.size : Int)] 50).alloc (.cells #[.int .u8 (k : Int), .int .i64 0, .int .i64 (s.size : Int)] 50)); have X9 : Bx w9 w.heap.size #[.int .u8 (k : Int), .int .i64 0, .int .i64 (s.size : Int)] 50 := (hg9.block w.heap.size X5.lt (fun e => by cases e)).trans X5; have k0 : w9.cell? ⟨w.heap.size, 0, none⟩ = some (.int .u8 (k : Int)) := X9.cell 0; have k2 : w9.cell? ⟨w.heap.size, 2, none⟩ = some (.int .i64 (s.size : Int)) := X9.cell 2; have hw9 : w.heap.size < w9.heap.size := X9.lt; clear X5 X9 ho9 hg9))
  rw [rounds_succ]
  go_wp2
  first | rw [Exit.noGoto_ret] | skip
  go_ret
  exact ⟨a9, c9, rfl, HO9.out, HB9.out⟩
end Go.Proofs.YtmnbakalcpanlaaGreatDoor
