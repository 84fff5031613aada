import Derived.Test.YthdfccdkomfikaaDoorLya
namespace Go.Proofs.YthdfccdkomfikaaDoor
open Go.ChangeShapes Go.WideShapes Go.ChangeAt Go.RowKit Go.Maps Go.WideMaps
set_option linter.unusedVariables false
set_option linter.unusedSimpArgs false

set_option maxRecDepth 100000 in
theorem isToken_text (w : World) : Calls Tryd.prog 16 #[.int .u8 5] w fun e w' => e = .returned (.bool true) ∧ w' = w := by
  go_enter Tryd.func16, Tryd.ntmps16
  go_wp2
  go_ret
  exact ⟨rfl, rfl⟩
set_option maxRecDepth 100000 in
theorem asks_text (w : World) : Calls Tryd.prog 31 #[.int .u8 5] w fun e w' => e = .returned (.bool true) ∧ w' = w := by
  go_enter Tryd.func31, Tryd.ntmps31
  go_wp2
  go_ret
  exact ⟨rfl, rfl⟩

theorem cells_new2 (w : World) (o : Obj) (l : List Value) (t : TypeId) : ∀ j u, l[j]? = some u → ((w.alloc o).alloc (.cells l.toArray t)).cell? ((⟨w.heap.size + 1, 0, none⟩ : Addr).add j) = some u := by
  intro j u h
  have h1 := cells_new (w.alloc o) l t j u h
  have e : (w.alloc o).heap.size = w.heap.size + 1 := by simp
  rw [e] at h1
  exact h1

set_option maxRecDepth 1000000 in
set_option maxHeartbeats 8000000 in
theorem withAutos_text (s : ByteArray) (hs : s.size ≤ 4294967280) (g c : Nat) (hc1 : 1 ≤ c) (w : World) (hg : g < w.heap.size) (c0 : w.cell? ⟨g, 0, none⟩ = some (.int .u8 5)) (c1 : w.cell? ⟨g, 1, none⟩ = some (.int .i64 0)) (c2 : w.cell? ⟨g, 2, none⟩ = some (.int .i64 (s.size : Int))) :
    Calls Tryd.prog 15 #[.string s, .slice (some ⟨g, 0, none⟩) 1 c] w fun e w' => ∃ a c', e = .returned (.slice a 2 c') ∧ w'.ownsRow w.heap.size 31 3 (.slice a 2 c') 2 [.int .u8 5, .int .i64 0, .int .i64 (s.size : Int), .int .u8 6, .int .i64 (s.size : Int), .int .i64 (s.size : Int)] ∧ Below w.heap.size w w' := by
  obtain ⟨i0, hi, hz0, hz1, hz2⟩ := info_parts (show (Tryd.prog.info? 31).map (fun i => (i.zero, i.size, i.bytes)) = some (some (.agg #[.int .u8 0, .int .i64 0, .int .i64 0]), 3, 24) by kernel_rfl)
  have hc1' : (1 : Int) ≤ (c : Int) := by omega
  have hcn : ¬ (c : Int) < 1 := by omega
  go_enter Tryd.func15, Tryd.ntmps15
  go_wp2
  go_step3
  go_wp2
  go_step3
  go_wp2
  refine wp_loop_rounds 2 ?_
  rw [rounds_succ]
  go_wp2_with (first
    | (go_at_call 31; (with_reducible refine (asks_text _).mono ?_); rintro e w4 ⟨rfl, hw4⟩; have hw5 := hw4.symm; clear hw4; subst hw5)
    | (at_builtin; (refine wpList_append_at _ rfl (.tmp 17) (.tmp 19) 22 rfl w.heap.size 31 i0 (.agg #[.int .u8 0, .int .i64 0, .int .i64 0]) 3 24 Tryd.underlying22 hi hz0 hz1 hz2 rfl (by decide) _ 0 [] rfl (World.ownsRow_nil _ _ _ _) (some ⟨_, 0, none⟩) 1 1 [.int .u8 5, .int .i64 0, .int .i64 (s.size : Int)] rfl rfl (fun h => by cases h) (fun ad had => by cases had; exact cells_new2 _ _ _ _) (fun u hu => by simp at hu; rcases hu with rfl | rfl | rfl <;> rfl) (by unfold maxLen; omega) (by omega) (by simp; omega) ?_); intro v9 w9 ho9 hg9 _; rw [Nat.zero_add, List.nil_append] at ho9; obtain ⟨a9, c9, hv9, -, -⟩ := own_slice ho9; subst hv9; have HO9 : Hid (w9.ownsRow w.heap.size 31 3 (.slice a9 1 c9) 1 [.int .u8 5, .int .i64 0, .int .i64 (s.size : Int)]) := ho9; have HB9 : Hid (Below w.heap.size w w9) := (((Below.refl _ w).alloc (Nat.le_refl _) _).alloc (by simp) _).grown hg9 (by simp; omega) (fun k hk => by cases hk); have X5 := ((Bx.new w #[.int .u8 5, .int .i64 0, .int .i64 (s.size : Int)] 31).alloc (.cells #[.int .u8 5, .int .i64 0, .int .i64 (s.size : Int)] 31)); have X9 : Bx w9 w.heap.size #[.int .u8 5, .int .i64 0, .int .i64 (s.size : Int)] 31 := (hg9.block w.heap.size X5.lt (fun e => by cases e)).trans X5; have k0 : w9.cell? ⟨w.heap.size, 0, none⟩ = some (.int .u8 5) := X9.cell 0; have k2 : w9.cell? ⟨w.heap.size, 2, none⟩ = some (.int .i64 (s.size : Int)) := X9.cell 2; have hw9 : w.heap.size < w9.heap.size := X9.lt; clear X5 X9 ho9 hg9))
  all_goals
    refine wp_loop_rounds 1 ?_
    rw [rounds_succ]
    go_wp2_with (at_builtin; (refine wpList_append_at _ rfl (.tmp 45) (.tmp 51) 22 rfl w.heap.size 31 i0 (.agg #[.int .u8 0, .int .i64 0, .int .i64 0]) 3 24 Tryd.underlying22 hi hz0 hz1 hz2 rfl (by decide) _ 1 _ rfl (HO9.out.alloc _) (some ⟨w9.heap.size, 0, none⟩) 1 1 [.int .u8 6, .int .i64 (s.size : Int), .int .i64 (s.size : Int)] rfl rfl (fun h => by cases h) (fun ad had => by cases had; exact cells_new _ _ _) (fun u hu => by simp at hu; rcases hu with rfl | rfl | rfl <;> rfl) (by unfold maxLen; omega) (by omega) (by simp; omega) ?_); intro v8 w8 ho8 hg8 _; obtain ⟨a8, c8, hv8, -, -⟩ := own_slice ho8; subst hv8; have HO8 : Hid (w8.ownsRow w.heap.size 31 3 (.slice a8 2 c8) 2 [.int .u8 5, .int .i64 0, .int .i64 (s.size : Int), .int .u8 6, .int .i64 (s.size : Int), .int .i64 (s.size : Int)]) := ho8; have HB8 : Hid (Below w.heap.size w w8) := (HB9.out.alloc HB9.out.size _).grown hg8 (by have := HB9.out.size; simp; omega) (fun k hk => (HO9.out.lt k hk).1); clear ho8 hg8)
    rw [rounds_succ]
    go_wp2
    first | rw [Exit.noGoto_ret] | skip
    go_ret
    exact ⟨a8, c8, rfl, HO8.out, HB8.out⟩
end Go.Proofs.YthdfccdkomfikaaDoor
