import Derived.Test.YthdfccdkomfikaaDoorLmz
import Derived.Test.YthdfccdkomfikaaDoorLc2
namespace Go.Proofs.YthdfccdkomfikaaDoor
open Go.ChangeShapes Go.WideShapes Go.ChangeAt Go.RowKit Go.Maps Go.WideMaps
set_option linter.unusedVariables false
set_option linter.unusedSimpArgs false

def MaxL (w : World) : Prop := ∃ m, w.cell? ⟨1, 0, none⟩ = some (.int .i64 m)
theorem MaxL.below {w w' : World} (h : MaxL w) (hb : Below w.heap.size w w') : MaxL w' := by
  obtain ⟨m, hm⟩ := h
  exact ⟨m, (hb.cell (p := ⟨1, 0, none⟩) (World.block_lt_of_cell? _ _ hm)).trans hm⟩
/-- Scan of a text with a fault -/
theorem scan_no {s : ByteArray} (hs : s.size ≤ 4294967280) {y z : Nat} (hc : (cut s 0).2 = some (y, z)) (w : World) (hS : Spl w) (hT : Lt w) (hM : MaxL w) :
    Calls Tryd.prog 6 #[.string s] w fun e w' => e = .returned (.tuple #[.slice none 0 0, .agg #[.int .i64 (y : Int), .int .i64 0, .int .i64 (z : Int)]]) ∧ Below w.heap.size w w' := by
  refine (Scan_any s hs w hS hT hM).mono fun e w' h => ?_
  unfold SnE at h
  rw [hc] at h
  exact ⟨h.2, h.1⟩
/-- .. and of one without -/
theorem scan_ok {s : ByteArray} (hs : s.size ≤ 4294967280) (hc : (cut s 0).2 = none) (w : World) (hS : Spl w) (hT : Lt w) (hM : MaxL w) :
    Calls Tryd.prog 6 #[.string s] w fun e w' => ∃ a c, e = .returned (.tuple #[.slice a (wau s (cut s 0).1).length c, .agg #[.int .i64 0, .int .i64 0, .int .i64 0]]) ∧ LiesA w' a (wau s (cut s 0).1) ∧ (wau s (cut s 0).1).length ≤ c ∧ (a = none → c = 0) ∧ Below w.heap.size w w' := by
  refine (Scan_any s hs w hS hT hM).mono fun e w' h => ?_
  unfold SnE at h
  rw [hc] at h
  obtain ⟨hb, v, he, ho⟩ := h
  obtain ⟨a, c, rfl, hl, -, hn⟩ := own_form ho
  refine ⟨a, c, he, hl, ?_, fun h => (hn h).2, hb⟩
  rcases ho.2 with ⟨h1, h2⟩ | ⟨g, cap, cur, hv, hg, hh, hcap, -⟩
  · omega
  · cases hv; exact hcap
theorem wau_pos {s : ByteArray} (hc : (cut s 0).2 = none) (h : 0 < s.size) : 0 < (wau s (cut s 0).1).length := by
  cases hp : pce s 0 with
  | no y z => rw [cut_no h hp] at hc; cases hc
  | ok k t => rw [cut_ok h hp]; simp [wau]

set_option maxRecDepth 1000000 in
set_option maxHeartbeats 8000000 in
theorem lexerFirst_walk (s : ByteArray) (hB : s.size ≤ 1048576) (w : World) (hS : Spl w) (hT : Lt w) (hM : MaxL w) :
    Calls Tryd.prog 3 #[.string s] w fun e w' => e = .returned (.bool true) ∧ Below w.heap.size w w' := by
  have hs : s.size ≤ 4294967280 := by omega
  cases hC : (cut s 0).2 with
  | none =>
    obtain ⟨n, hn⟩ : ∃ n, (wau s (cut s 0).1).length = n := ⟨_, rfl⟩
    have HS1 : Hid (Calls Tryd.prog 6 #[.string s] w fun e w' => ∃ a c, e = .returned (.tuple #[.slice a n c, .agg #[.int .i64 0, .int .i64 0, .int .i64 0]]) ∧ Below w.heap.size w w') := by
      refine (scan_ok hs hC w hS hT hM).mono fun e w' h => ?_
      obtain ⟨a, c, he, -, -, -, hb⟩ := h
      rw [hn] at he
      exact ⟨a, c, he, hb⟩
    have hz : ((s.size : Int) == 0) = true ∨ ((s.size : Int) == 0) = false ∧ 0 < n := by
      by_cases h0 : s.size = 0
      · left; simp [h0]
      · right
        have := wau_pos hC (by omega)
        exact ⟨by rw [beq_eq_false_iff_ne]; omega, by omega⟩
    clear hC hn hS hT hM
    rcases hz with hz | ⟨hz, hp⟩
    all_goals
      go_enter Tryd.func3, Tryd.ntmps3
      go_wp2_with (go_at_call 6; (with_reducible refine HS1.out.mono ?_); rintro e w3 ⟨a3, c3, rfl, hb3⟩; have HB3 : Hid (Below w.heap.size w w3) := hb3; clear hb3)
      go_ret
      exact ⟨rfl, HB3.out.alloc HB3.out.size _⟩
  | some yz =>
    obtain ⟨y, z⟩ := yz
    obtain ⟨-, hzs, hy1, hy2, hrest⟩ := cut_first s s.size 0 y z (by omega) hC
    have HS1 : Hid (Calls Tryd.prog 6 #[.string s] w fun e w' => e = .returned (.tuple #[.slice none 0 0, .agg #[.int .i64 (y : Int), .int .i64 0, .int .i64 (z : Int)]]) ∧ Below w.heap.size w w') := scan_no hs hC w hS hT hM
    have hzI : (z : Int) < (s.size : Int) := by omega
    have hzJ : (z : Int) ≤ (s.size : Int) := by omega
    have hz0 : ¬ (z : Int) < 0 := by omega
    have hz1 : (0 : Int) ≤ (z : Int) := by omega
    have hx : (s.extract 0 z).size ≤ 4294967280 := by rw [off_size (by omega)]; omega
    have hy : y = 20 ∨ y = 21 ∨ y = 22 ∨ y = 23 ∨ y = 24 := by omega
    have HS2 : Hid (∀ v, Below w.heap.size w v → Calls Tryd.prog 6 #[.string (s.extract 0 z)] v fun e w' => ∃ a n c y2 z2 : _, e = .returned (.tuple #[.slice a n c, .agg #[.int .i64 ((y2 : Nat) : Int), .int .i64 0, .int .i64 ((z2 : Nat) : Int)]]) ∧ (y2 = 0 ∨ (y = 20 ∧ y2 = 22 ∧ z2 < z)) ∧ Below v.heap.size v w') := fun v hv => by
      rcases hrest with h2 | ⟨h1, z', h2, h3⟩
      · refine (scan_ok hx h2 v (hS.below hv) (hT.below hv) (hM.below hv)).mono fun e w' h => ?_
        obtain ⟨a, c, he, -, -, -, hb⟩ := h
        exact ⟨a, _, c, 0, 0, he, .inl rfl, hb⟩
      · refine (scan_no hx h2 v (hS.below hv) (hT.below hv) (hM.below hv)).mono fun e w' h => ?_
        exact ⟨none, 0, 0, 22, z', h.1, .inr ⟨h1, rfl, h3⟩, h.2⟩
    clear hC hrest hS hT hM hx
    rcases hy with rfl | rfl | rfl | rfl | rfl
    all_goals
      go_enter Tryd.func3, Tryd.ntmps3
      go_wp2_with (first
        | (go_at_call 6; (with_reducible refine HS1.out.mono ?_); rintro e w3 ⟨rfl, hb3⟩; have HB3 : Hid (Below w.heap.size w w3) := hb3; clear hb3)
        | (go_at_call 6; (with_reducible refine (HS2.out _ (HB3.out.alloc HB3.out.size _)).mono ?_); rintro e w4 ⟨a4, n4, c4, y4, z4, rfl, hy4, hb4⟩; have HB4 : Hid (Below w.heap.size w w4) := (HB3.out.alloc HB3.out.size _).trans (hb4.mono (by have := HB3.out.size; simp; omega)); have X4 := (Bx.new w3 _ _).below hb4 (Bx.new w3 _ _).lt; have k0 := X4.cell 0; have k2 := X4.cell 2; have kz := X4.lt; simp at k0 k2; clear hb4 X4; rcases hy4 with rfl | ⟨hy4, rfl, hz4⟩))
    all_goals (try (exfalso; revert hy4; decide))
    all_goals
      go_ret
      exact ⟨rfl, HB4.out.alloc HB4.out.size _⟩
end Go.Proofs.YthdfccdkomfikaaDoor
