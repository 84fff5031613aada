import Derived.Test.YthdfccdkomfikaaGreatDoorLmz
import Derived.Test.YthdfccdkomfikaaGreatDoorRl6
import Derived.Test.YthdfccdkomfikaaGreatDoorLmu
namespace Go.Proofs.YthdfccdkomfikaaGreatDoor
open Go.ChangeShapes Go.WideShapes Go.ChangeAt Go.RowKit Go.Maps Go.WideMaps
set_option linter.unusedVariables false
set_option linter.unusedSimpArgs false

theorem hid_of {p : Prop} (h : p) : Hid p := h
def MaxL (w : World) : Prop := ∃ m, w.cell? ⟨4, 0, none⟩ = some (.int .i64 m)
theorem MaxL.below {w w' : World} (h : MaxL w) (hb : Below w.heap.size w w') : MaxL w' := by
  obtain ⟨m, hm⟩ := h
  exact ⟨m, (hb.cell (p := ⟨4, 0, none⟩) (World.block_lt_of_cell? _ _ hm)).trans hm⟩
/-- Scan of a text with a fault -/
theorem scan_no {s : ByteArray} (hs : s.size ≤ 4294967280) {y z : Nat} (hc : (cut s 0).2 = some (y, z)) (w : World) (hS : Spl w) (hT : Lt w) (hM : MaxL w) :
    Calls Tryz.prog 6 #[.string s] w fun e w' => e = .returned (.tuple #[.slice none 0 0, .agg #[.int .i64 (y : Int), .int .i64 0, .int .i64 (z : Int)]]) ∧ Below w.heap.size w w' := by
  refine (Scan_any s hs w hS hT hM).mono fun e w' h => ?_
  unfold SnE at h
  rw [hc] at h
  exact ⟨h.2, h.1⟩
/-- .. and of one without -/
theorem scan_ok {s : ByteArray} (hs : s.size ≤ 4294967280) (hc : (cut s 0).2 = none) (w : World) (hS : Spl w) (hT : Lt w) (hM : MaxL w) :
    Calls Tryz.prog 6 #[.string s] w fun e w' => ∃ a c, e = .returned (.tuple #[.slice a (wau s (cut s 0).1).length c, .agg #[.int .i64 0, .int .i64 0, .int .i64 0]]) ∧ LiesA w' a (wau s (cut s 0).1) ∧ (wau s (cut s 0).1).length ≤ c ∧ (a = none → c = 0) ∧ Below w.heap.size w w' := by
  refine (Scan_any s hs w hS hT hM).mono fun e w' h => ?_
  unfold SnE at h
  rw [hc] at h
  obtain ⟨hb, v, he, ho⟩ := h
  obtain ⟨a, c, rfl, hl, -, hn⟩ := own_form ho
  refine ⟨a, c, he, hl, ?_, fun h => (hn h).2, hb⟩
  rcases ho.2 with ⟨h1, h2⟩ | ⟨g, cap, cur, hv, hg, hh, hcap, -⟩
  · omega
  · cases hv; exact hcap
theorem wau_pos {s : ByteArray} (hc : (cut s 0).2 = none) (h : 0 < s.size) : 0 < (wau s (cut s 0).1).length := by
  cases hp : pce s 0 with
  | no y z => rw [cut_no h hp] at hc; cases hc
  | ok k t => rw [cut_ok h hp]; simp [wau]

theorem wau_len (s : ByteArray) : ∀ l, (wau s l).length ≤ 2 * l.length
  | [] => by simp [wau]
  | q :: r => by
    have := wau_len s r
    rw [wau]
    split <;> simp <;> omega
theorem wau_max {s : ByteArray} (hs : s.size ≤ 4294967280) : (wau s (cut s 0).1).length ≤ 8589934560 := by
  have h1 := wau_len s (cut s 0).1
  have h2 := (cut_all s s.size 0 (by omega)).2
  omega
end Go.Proofs.YthdfccdkomfikaaGreatDoor

namespace Go.Proofs.YthdfccdkomfikaaGreatDoor
open Go.ChangeShapes Go.WideShapes Go.ChangeAt Go.RowKit
set_option linter.unusedVariables false
set_option linter.unusedSimpArgs false

theorem mks48 : mks.length = 48 := by decide
theorem wds25 : wds.length = 25 := by decide
/-- the spelling of a kind, as the reference has it -/
def spR (k : Nat) : List UInt8 := if k < 7 then [] else if k < 32 then wds.getD (k - 7) [] else mks.getD (k - 32) []
theorem spR_80 (k : Nat) (h : 80 ≤ k) : spR k = [] := by
  unfold spR
  rw [if_neg (by omega), if_neg (by omega), List.getD_eq_getElem?_getD, List.getElem?_eq_none (by rw [mks48]; omega)]
  rfl
set_option maxRecDepth 1000000 in
set_option maxHeartbeats 8000000 in
theorem rSpell_any (k : Nat) (w : World) (hkb : k < 1000) :
    Calls Tryz.prog 14 #[.int .i64 (k : Int)] w fun e w' => e = .returned (.string ⟨(spR k).toArray⟩) ∧ Below w.heap.size w w' := by
  obtain ⟨w1, e1⟩ : ∃ w1, w.alloc (.cells (strV wds).toArray 9) = w1 := ⟨_, rfl⟩
  obtain ⟨w2, e2⟩ : ∃ w2, w1.alloc (.cells (strV mks).toArray 9) = w2 := ⟨_, rfl⟩
  have hb1 : Below w.heap.size w w1 := by rw [← e1]; exact (Below.refl _ _).alloc (Nat.le_refl _) _
  have hz1 : w1.heap.size = w.heap.size + 1 := by rw [← e1]; simp
  have hb2 : Below w.heap.size w w2 := by rw [← e2]; exact hb1.alloc hb1.size _
  have HB2 : Hid (Below w.heap.size w w2) := hb2
  have HW : Hid (Calls Tryz.prog 24 #[] w fun e w' => e = .returned (.slice (some ⟨w.heap.size, 0, none⟩) 25 25) ∧ w' = w1) := by rw [← e1]; exact words_any w
  have HM : Hid (Calls Tryz.prog 25 #[] w1 fun e w' => e = .returned (.slice (some ⟨w1.heap.size, 0, none⟩) 48 48) ∧ w' = w2) := by rw [← e2]; exact marks_any w1
  have hm : ∀ i, i < 48 → w2.cell? ⟨w1.heap.size, i, none⟩ = some (.string ⟨(mks.getD i []).toArray⟩) := fun i hi => by rw [← e2]; exact strV_get mks i (Nat.lt_of_lt_of_eq hi mks48.symm) w1
  have hw : ∀ i, i < 25 → w2.cell? ⟨w.heap.size, i, none⟩ = some (.string ⟨(wds.getD i []).toArray⟩) := fun i hi => by
    have h1 : w1.cell? ⟨w.heap.size, i, none⟩ = some (.string ⟨(wds.getD i []).toArray⟩) := by rw [← e1]; exact strV_get wds i (Nat.lt_of_lt_of_eq hi wds25.symm) w
    rw [← e2]
    exact (((Below.refl w1.heap.size w1).alloc (Nat.le_refl _) (.cells (strV mks).toArray 9)).cell (p := ⟨w.heap.size, i, none⟩) (by show w.heap.size < w1.heap.size; omega)).trans h1
  clear e1 e2 hb1 hb2
  obtain ⟨g, hg⟩ : ∃ g, w1.heap.size = g := ⟨_, rfl⟩
  rw [hg] at HM hm hz1
  obtain ⟨S, hS⟩ : ∃ S : ByteArray, (⟨(spR k).toArray⟩ : ByteArray) = S := ⟨_, rfl⟩
  rw [hS]
  clear hz1 hg
  by_cases h7 : k < 7
  · have hs : spR k = [] := by unfold spR; rw [if_pos h7]
    rw [hs] at hS
    have c1 : ¬ (k : Int) ≥ 7 := by omega
    have c2 : ¬ (k : Int) ≥ 32 := by omega
    subst hS
    clear hm hw hs h7 hkb
    go_enter Tryz.func14, Tryz.ntmps14
    go_wp2_with (first
      | (go_at_call 24; (with_reducible refine HW.out.mono ?_); rintro e w3 ⟨rfl, hw3⟩; subst hw3)
      | (go_at_call 25; (with_reducible refine HM.out.mono ?_); rintro e w3 ⟨rfl, hw3⟩; subst hw3))
    go_ret
    exact ⟨rfl, HB2.out⟩
  by_cases h32 : k < 32
  · have hs : spR k = wds.getD (k - 7) [] := by unfold spR; rw [if_neg h7, if_pos h32]
    rw [hs] at hS
    have c1 : (k : Int) ≥ 7 := by omega
    have c2 : (k : Int) < 32 := by omega
    obtain ⟨i, hi⟩ : ∃ i, k - 7 = i := ⟨_, rfl⟩
    have hki : (k : Int) - 7 = (i : Int) := by omega
    have hc := hw i (by omega)
    rw [hi] at hS
    rw [hS] at hc
    have ci : (i : Int) < 25 := by omega
    have ci2 : i < 25 := by omega
    clear hm hw hs h7 h32 hkb hi hS
    go_enter Tryz.func14, Tryz.ntmps14
    go_wp2_with (first
      | (go_at_call 24; (with_reducible refine HW.out.mono ?_); rintro e w3 ⟨rfl, hw3⟩; subst hw3)
      | (go_at_call 25; (with_reducible refine HM.out.mono ?_); rintro e w3 ⟨rfl, hw3⟩; subst hw3))
    go_ret
    exact ⟨rfl, HB2.out⟩
  by_cases h80 : k < 80
  · have hs : spR k = mks.getD (k - 32) [] := by unfold spR; rw [if_neg h7, if_neg h32]
    rw [hs] at hS
    have c1 : (k : Int) ≥ 7 := by omega
    have c2 : ¬ (k : Int) < 32 := by omega
    have c3 : (k : Int) ≥ 32 := by omega
    have c4 : (k : Int) < 80 := by omega
    obtain ⟨i, hi⟩ : ∃ i, k - 32 = i := ⟨_, rfl⟩
    have hki : (k : Int) - 32 = (i : Int) := by omega
    have hc := hm i (by omega)
    rw [hi] at hS
    rw [hS] at hc
    have ci : (i : Int) < 48 := by omega
    have ci2 : i < 48 := by omega
    clear hm hw hs h7 h32 hkb hi hS h80
    go_enter Tryz.func14, Tryz.ntmps14
    go_wp2_with (first
      | (go_at_call 24; (with_reducible refine HW.out.mono ?_); rintro e w3 ⟨rfl, hw3⟩; subst hw3)
      | (go_at_call 25; (with_reducible refine HM.out.mono ?_); rintro e w3 ⟨rfl, hw3⟩; subst hw3))
    go_ret
    exact ⟨rfl, HB2.out⟩
  · rw [spR_80 k (by omega)] at hS
    have c1 : (k : Int) ≥ 7 := by omega
    have c2 : ¬ (k : Int) < 32 := by omega
    have c3 : (k : Int) ≥ 32 := by omega
    have c4 : ¬ (k : Int) < 80 := by omega
    subst hS
    clear hm hw h7 h32 h80
    go_enter Tryz.func14, Tryz.ntmps14
    go_wp2_with (first
      | (go_at_call 24; (with_reducible refine HW.out.mono ?_); rintro e w3 ⟨rfl, hw3⟩; subst hw3)
      | (go_at_call 25; (with_reducible refine HM.out.mono ?_); rintro e w3 ⟨rfl, hw3⟩; subst hw3))
    go_ret
    exact ⟨rfl, HB2.out⟩
end Go.Proofs.YthdfccdkomfikaaGreatDoor
