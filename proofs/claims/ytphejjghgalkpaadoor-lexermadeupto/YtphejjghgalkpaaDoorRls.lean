import Derived.Test.YtphejjghgalkpaaDoorLm3
import Derived.Test.YtphejjghgalkpaaDoorLmu
namespace Go.Proofs.YtphejjghgalkpaaDoor
open Go.ChangeShapes Go.WideShapes Go.ChangeAt Go.RowKit
set_option linter.unusedVariables false
set_option linter.unusedSimpArgs false

/-- a piece, as the reference tells it -/
def pcR : Pce → Value
  | .ok k t => .tuple #[.int .i64 (k : Int), .int .i64 (t : Int), .int .i64 0, .int .i64 0]
  | .no y z => .tuple #[.int .i64 0, .int .i64 0, .int .i64 (y : Int), .int .i64 (z : Int)]
def strV (l : List (List UInt8)) : List Value := l.map fun x => .string ⟨x.toArray⟩
set_option maxRecDepth 1000000 in
set_option maxHeartbeats 4000000 in
theorem words_any (w : World) : Calls Tryd.prog 40 #[] w fun e w' => e = .returned (.slice (some ⟨w.heap.size, 0, none⟩) 25 25) ∧ w' = w.alloc (.cells (strV wds).toArray 9) := by
  go_enter Tryd.func40, Tryd.ntmps40
  go_wp2
  go_ret
  exact ⟨rfl, rfl⟩
set_option maxRecDepth 1000000 in
set_option maxHeartbeats 4000000 in
theorem marks_any (w : World) : Calls Tryd.prog 41 #[] w fun e w' => e = .returned (.slice (some ⟨w.heap.size, 0, none⟩) 48 48) ∧ w' = w.alloc (.cells (strV mks).toArray 9) := by
  go_enter Tryd.func41, Tryd.ntmps41
  go_wp2
  go_ret
  exact ⟨rfl, rfl⟩
theorem strV_get (l : List (List UInt8)) (i : Nat) (h : i < l.length) (w : World) : (w.alloc (.cells (strV l).toArray 9)).cell? ⟨w.heap.size, i, none⟩ = some (.string ⟨(l.getD i []).toArray⟩) := by
  have := cells_new w (strV l) 9 i (.string ⟨(l.getD i []).toArray⟩) (by unfold strV; rw [List.getElem?_map, List.getD_eq_getElem?_getD, List.getElem?_eq_getElem h]; rfl)
  rw [addr_add] at this
  simpa using this
theorem mks48 : mks.length = 48 := by decide
theorem wds25 : wds.length = 25 := by decide
/-- the spelling of a kind, as the reference has it -/
def spR (k : Nat) : List UInt8 := if k < 7 then [] else if k < 32 then wds.getD (k - 7) [] else mks.getD (k - 32) []
theorem spR_80 (k : Nat) (h : 80 ≤ k) : spR k = [] := by
  unfold spR
  rw [if_neg (by omega), if_neg (by omega), List.getD_eq_getElem?_getD, List.getElem?_eq_none (by rw [mks48]; omega)]
  rfl
set_option maxRecDepth 1000000 in
set_option maxHeartbeats 8000000 in
theorem rSpell_any (k : Nat) (w : World) (hkb : k < 1000) :
    Calls Tryd.prog 20 #[.int .i64 (k : Int)] w fun e w' => e = .returned (.string ⟨(spR k).toArray⟩) ∧ Below w.heap.size w w' := by
  obtain ⟨w1, e1⟩ : ∃ w1, w.alloc (.cells (strV wds).toArray 9) = w1 := ⟨_, rfl⟩
  obtain ⟨w2, e2⟩ : ∃ w2, w1.alloc (.cells (strV mks).toArray 9) = w2 := ⟨_, rfl⟩
  have hb1 : Below w.heap.size w w1 := by rw [← e1]; exact (Below.refl _ _).alloc (Nat.le_refl _) _
  have hz1 : w1.heap.size = w.heap.size + 1 := by rw [← e1]; simp
  have hb2 : Below w.heap.size w w2 := by rw [← e2]; exact hb1.alloc hb1.size _
  have HB2 : Hid (Below w.heap.size w w2) := hb2
  have HW : Hid (Calls Tryd.prog 40 #[] w fun e w' => e = .returned (.slice (some ⟨w.heap.size, 0, none⟩) 25 25) ∧ w' = w1) := by rw [← e1]; exact words_any w
  have HM : Hid (Calls Tryd.prog 41 #[] w1 fun e w' => e = .returned (.slice (some ⟨w1.heap.size, 0, none⟩) 48 48) ∧ w' = w2) := by rw [← e2]; exact marks_any w1
  have hm : ∀ i, i < 48 → w2.cell? ⟨w1.heap.size, i, none⟩ = some (.string ⟨(mks.getD i []).toArray⟩) := fun i hi => by rw [← e2]; exact strV_get mks i (Nat.lt_of_lt_of_eq hi mks48.symm) w1
  have hw : ∀ i, i < 25 → w2.cell? ⟨w.heap.size, i, none⟩ = some (.string ⟨(wds.getD i []).toArray⟩) := fun i hi => by
    have h1 : w1.cell? ⟨w.heap.size, i, none⟩ = some (.string ⟨(wds.getD i []).toArray⟩) := by rw [← e1]; exact strV_get wds i (Nat.lt_of_lt_of_eq hi wds25.symm) w
    rw [← e2]
    exact (((Below.refl w1.heap.size w1).alloc (Nat.le_refl _) (.cells (strV mks).toArray 9)).cell (p := ⟨w.heap.size, i, none⟩) (by show w.heap.size < w1.heap.size; omega)).trans h1
  clear e1 e2 hb1 hb2
  obtain ⟨g, hg⟩ : ∃ g, w1.heap.size = g := ⟨_, rfl⟩
  rw [hg] at HM hm hz1
  obtain ⟨S, hS⟩ : ∃ S : ByteArray, (⟨(spR k).toArray⟩ : ByteArray) = S := ⟨_, rfl⟩
  rw [hS]
  clear hz1 hg
  by_cases h7 : k < 7
  · have hs : spR k = [] := by unfold spR; rw [if_pos h7]
    rw [hs] at hS
    have c1 : ¬ (k : Int) ≥ 7 := by omega
    have c2 : ¬ (k : Int) ≥ 32 := by omega
    subst hS
    clear hm hw hs h7 hkb
    go_enter Tryd.func20, Tryd.ntmps20
    go_wp2_with (first
      | (go_at_call 40; (with_reducible refine HW.out.mono ?_); rintro e w3 ⟨rfl, hw3⟩; subst hw3)
      | (go_at_call 41; (with_reducible refine HM.out.mono ?_); rintro e w3 ⟨rfl, hw3⟩; subst hw3))
    go_ret
    exact ⟨rfl, HB2.out⟩
  by_cases h32 : k < 32
  · have hs : spR k = wds.getD (k - 7) [] := by unfold spR; rw [if_neg h7, if_pos h32]
    rw [hs] at hS
    have c1 : (k : Int) ≥ 7 := by omega
    have c2 : (k : Int) < 32 := by omega
    obtain ⟨i, hi⟩ : ∃ i, k - 7 = i := ⟨_, rfl⟩
    have hki : (k : Int) - 7 = (i : Int) := by omega
    have hc := hw i (by omega)
    rw [hi] at hS
    rw [hS] at hc
    have ci : (i : Int) < 25 := by omega
    have ci2 : i < 25 := by omega
    clear hm hw hs h7 h32 hkb hi hS
    go_enter Tryd.func20, Tryd.ntmps20
    go_wp2_with (first
      | (go_at_call 40; (with_reducible refine HW.out.mono ?_); rintro e w3 ⟨rfl, hw3⟩; subst hw3)
      | (go_at_call 41; (with_reducible refine HM.out.mono ?_); rintro e w3 ⟨rfl, hw3⟩; subst hw3))
    go_ret
    exact ⟨rfl, HB2.out⟩
  by_cases h80 : k < 80
  · have hs : spR k = mks.getD (k - 32) [] := by unfold spR; rw [if_neg h7, if_neg h32]
    rw [hs] at hS
    have c1 : (k : Int) ≥ 7 := by omega
    have c2 : ¬ (k : Int) < 32 := by omega
    have c3 : (k : Int) ≥ 32 := by omega
    have c4 : (k : Int) < 80 := by omega
    obtain ⟨i, hi⟩ : ∃ i, k - 32 = i := ⟨_, rfl⟩
    have hki : (k : Int) - 32 = (i : Int) := by omega
    have hc := hm i (by omega)
    rw [hi] at hS
    rw [hS] at hc
    have ci : (i : Int) < 48 := by omega
    have ci2 : i < 48 := by omega
    clear hm hw hs h7 h32 hkb hi hS h80
    go_enter Tryd.func20, Tryd.ntmps20
    go_wp2_with (first
      | (go_at_call 40; (with_reducible refine HW.out.mono ?_); rintro e w3 ⟨rfl, hw3⟩; subst hw3)
      | (go_at_call 41; (with_reducible refine HM.out.mono ?_); rintro e w3 ⟨rfl, hw3⟩; subst hw3))
    go_ret
    exact ⟨rfl, HB2.out⟩
  · rw [spR_80 k (by omega)] at hS
    have c1 : (k : Int) ≥ 7 := by omega
    have c2 : ¬ (k : Int) < 32 := by omega
    have c3 : (k : Int) ≥ 32 := by omega
    have c4 : ¬ (k : Int) < 80 := by omega
    subst hS
    clear hm hw h7 h32 h80
    go_enter Tryd.func20, Tryd.ntmps20
    go_wp2_with (first
      | (go_at_call 40; (with_reducible refine HW.out.mono ?_); rintro e w3 ⟨rfl, hw3⟩; subst hw3)
      | (go_at_call 41; (with_reducible refine HM.out.mono ?_); rintro e w3 ⟨rfl, hw3⟩; subst hw3))
    go_ret
    exact ⟨rfl, HB2.out⟩
end Go.Proofs.YtphejjghgalkpaaDoor
