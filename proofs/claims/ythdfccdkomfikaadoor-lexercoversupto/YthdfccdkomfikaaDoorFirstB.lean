import Derived.Test.YthdfccdkomfikaaDoorLmz
namespace Go.Proofs.YthdfccdkomfikaaDoor
open Go.ChangeShapes Go.WideShapes Go.ChangeAt Go.RowKit Go.Maps Go.WideMaps
set_option linter.unusedVariables false
set_option linter.unusedSimpArgs false

theorem hid_of {p : Prop} (h : p) : Hid p := h
def MaxL (w : World) : Prop := ∃ m, w.cell? ⟨1, 0, none⟩ = some (.int .i64 m)
theorem MaxL.below {w w' : World} (h : MaxL w) (hb : Below w.heap.size w w') : MaxL w' := by
  obtain ⟨m, hm⟩ := h
  exact ⟨m, (hb.cell (p := ⟨1, 0, none⟩) (World.block_lt_of_cell? _ _ hm)).trans hm⟩
/-- Scan of a text with a fault -/
theorem scan_no {s : ByteArray} (hs : s.size ≤ 4294967280) {y z : Nat} (hc : (cut s 0).2 = some (y, z)) (w : World) (hS : Spl w) (hT : Lt w) (hM : MaxL w) :
    Calls Tryd.prog 6 #[.string s] w fun e w' => e = .returned (.tuple #[.slice none 0 0, .agg #[.int .i64 (y : Int), .int .i64 0, .int .i64 (z : Int)]]) ∧ Below w.heap.size w w' := by
  refine (Scan_any s hs w hS hT hM).mono fun e w' h => ?_
  unfold SnE at h
  rw [hc] at h
  exact ⟨h.2, h.1⟩
/-- .. and of one without -/
theorem scan_ok {s : ByteArray} (hs : s.size ≤ 4294967280) (hc : (cut s 0).2 = none) (w : World) (hS : Spl w) (hT : Lt w) (hM : MaxL w) :
    Calls Tryd.prog 6 #[.string s] w fun e w' => ∃ a c, e = .returned (.tuple #[.slice a (wau s (cut s 0).1).length c, .agg #[.int .i64 0, .int .i64 0, .int .i64 0]]) ∧ LiesA w' a (wau s (cut s 0).1) ∧ (wau s (cut s 0).1).length ≤ c ∧ (a = none → c = 0) ∧ Below w.heap.size w w' := by
  refine (Scan_any s hs w hS hT hM).mono fun e w' h => ?_
  unfold SnE at h
  rw [hc] at h
  obtain ⟨hb, v, he, ho⟩ := h
  obtain ⟨a, c, rfl, hl, -, hn⟩ := own_form ho
  refine ⟨a, c, he, hl, ?_, fun h => (hn h).2, hb⟩
  rcases ho.2 with ⟨h1, h2⟩ | ⟨g, cap, cur, hv, hg, hh, hcap, -⟩
  · omega
  · cases hv; exact hcap
theorem wau_pos {s : ByteArray} (hc : (cut s 0).2 = none) (h : 0 < s.size) : 0 < (wau s (cut s 0).1).length := by
  cases hp : pce s 0 with
  | no y z => rw [cut_no h hp] at hc; cases hc
  | ok k t => rw [cut_ok h hp]; simp [wau]

theorem wau_len (s : ByteArray) : ∀ l, (wau s l).length ≤ 2 * l.length
  | [] => by simp [wau]
  | q :: r => by
    have := wau_len s r
    rw [wau]
    split <;> simp <;> omega
theorem wau_max {s : ByteArray} (hs : s.size ≤ 4294967280) : (wau s (cut s 0).1).length ≤ 8589934560 := by
  have h1 := wau_len s (cut s 0).1
  have h2 := (cut_all s s.size 0 (by omega)).2
  omega
end Go.Proofs.YthdfccdkomfikaaDoor
