import Derived.Test.YthdfccdkomfikaaGreatDoorTm1
import Derived.Test.YthdfccdkomfikaaGreatDoorLmu
import Derived.Test.YthdfccdkomfikaaGreatDoorTm5
import Derived.Tactics
import Derived.Tactics2
import Derived.Defers
import Derived.Laws.Pointers
import Derived.Laws.LoneSync
import Derived.RegionTactic
import Derived.RegionCalls
import Derived.ChangeAlike
import Derived.Laws.NewBlocks
import Derived.Laws.EntriesVeiled
namespace Go.Proofs.YthdfccdkomfikaaGreatDoor
open Go.ChangeShapes Go.WideShapes Go.ChangeAt Go.RowKit
set_option linter.unusedVariables false
set_option linter.unusedSimpArgs false

theorem mks48 : mks.length = 48 := by decide
theorem wds25 : wds.length = 25 := by decide
/-- the spelling of a kind, as the reference has it -/
def spR (k : Nat) : List UInt8 := if k < 7 then [] else if k < 32 then wds.getD (k - 7) [] else mks.getD (k - 32) []
theorem spR_80 (k : Nat) (h : 80 ≤ k) : spR k = [] := by
  unfold spR
  rw [if_neg (by omega), if_neg (by omega), List.getD_eq_getElem?_getD, List.getElem?_eq_none (by rw [mks48]; omega)]
  rfl
set_option maxRecDepth 1000000 in
set_option maxHeartbeats 8000000 in
theorem rSpell_any (k : Nat) (w : World) (hkb : k < 1000) :
    Calls Tryz.prog 14 #[.int .i64 (k : Int)] w fun e w' => e = .returned (.string ⟨(spR k).toArray⟩) ∧ Below w.heap.size w w' := by
  obtain ⟨w1, e1⟩ : ∃ w1, w.alloc (.cells (strV wds).toArray 9) = w1 := ⟨_, rfl⟩
  obtain ⟨w2, e2⟩ : ∃ w2, w1.alloc (.cells (strV mks).toArray 9) = w2 := ⟨_, rfl⟩
  have hb1 : Below w.heap.size w w1 := by rw [← e1]; exact (Below.refl _ _).alloc (Nat.le_refl _) _
  have hz1 : w1.heap.size = w.heap.size + 1 := by rw [← e1]; simp
  have hb2 : Below w.heap.size w w2 := by rw [← e2]; exact hb1.alloc hb1.size _
  have HB2 : Hid (Below w.heap.size w w2) := hb2
  have HW : Hid (Calls Tryz.prog 24 #[] w fun e w' => e = .returned (.slice (some ⟨w.heap.size, 0, none⟩) 25 25) ∧ w' = w1) := by rw [← e1]; exact words_any w
  have HM : Hid (Calls Tryz.prog 25 #[] w1 fun e w' => e = .returned (.slice (some ⟨w1.heap.size, 0, none⟩) 48 48) ∧ w' = w2) := by rw [← e2]; exact marks_any w1
  have hm : ∀ i, i < 48 → w2.cell? ⟨w1.heap.size, i, none⟩ = some (.string ⟨(mks.getD i []).toArray⟩) := fun i hi => by rw [← e2]; exact strV_get mks i (Nat.lt_of_lt_of_eq hi mks48.symm) w1
  have hw : ∀ i, i < 25 → w2.cell? ⟨w.heap.size, i, none⟩ = some (.string ⟨(wds.getD i []).toArray⟩) := fun i hi => by
    have h1 : w1.cell? ⟨w.heap.size, i, none⟩ = some (.string ⟨(wds.getD i []).toArray⟩) := by rw [← e1]; exact strV_get wds i (Nat.lt_of_lt_of_eq hi wds25.symm) w
    rw [← e2]
    exact (((Below.refl w1.heap.size w1).alloc (Nat.le_refl _) (.cells (strV mks).toArray 9)).cell (p := ⟨w.heap.size, i, none⟩) (by show w.heap.size < w1.heap.size; omega)).trans h1
  clear e1 e2 hb1 hb2
  obtain ⟨g, hg⟩ : ∃ g, w1.heap.size = g := ⟨_, rfl⟩
  rw [hg] at HM hm hz1
  obtain ⟨S, hS⟩ : ∃ S : ByteArray, (⟨(spR k).toArray⟩ : ByteArray) = S := ⟨_, rfl⟩
  rw [hS]
  clear hz1 hg
  by_cases h7 : k < 7
  · have hs : spR k = [] := by unfold spR; rw [if_pos h7]
    rw [hs] at hS
    have c1 : ¬ (k : Int) ≥ 7 := by omega
    have c2 : ¬ (k : Int) ≥ 32 := by omega
    subst hS
    clear hm hw hs h7 hkb
    go_enter Tryz.func14, Tryz.ntmps14
    go_wp2_with (first
      | (go_at_call 24; (with_reducible refine HW.out.mono ?_); rintro e w3 ⟨rfl, hw3⟩; subst hw3)
      | (go_at_call 25; (with_reducible refine HM.out.mono ?_); rintro e w3 ⟨rfl, hw3⟩; subst hw3))
    go_ret
    exact ⟨rfl, HB2.out⟩
  by_cases h32 : k < 32
  · have hs : spR k = wds.getD (k - 7) [] := by unfold spR; rw [if_neg h7, if_pos h32]
    rw [hs] at hS
    have c1 : (k : Int) ≥ 7 := by omega
    have c2 : (k : Int) < 32 := by omega
    obtain ⟨i, hi⟩ : ∃ i, k - 7 = i := ⟨_, rfl⟩
    have hki : (k : Int) - 7 = (i : Int) := by omega
    have hc := hw i (by omega)
    rw [hi] at hS
    rw [hS] at hc
    have ci : (i : Int) < 25 := by omega
    have ci2 : i < 25 := by omega
    clear hm hw hs h7 h32 hkb hi hS
    go_enter Tryz.func14, Tryz.ntmps14
    go_wp2_with (first
      | (go_at_call 24; (with_reducible refine HW.out.mono ?_); rintro e w3 ⟨rfl, hw3⟩; subst hw3)
      | (go_at_call 25; (with_reducible refine HM.out.mono ?_); rintro e w3 ⟨rfl, hw3⟩; subst hw3))
    go_ret
    exact ⟨rfl, HB2.out⟩
  by_cases h80 : k < 80
  · have hs : spR k = mks.getD (k - 32) [] := by unfold spR; rw [if_neg h7, if_neg h32]
    rw [hs] at hS
    have c1 : (k : Int) ≥ 7 := by omega
    have c2 : ¬ (k : Int) < 32 := by omega
    have c3 : (k : Int) ≥ 32 := by omega
    have c4 : (k : Int) < 80 := by omega
    obtain ⟨i, hi⟩ : ∃ i, k - 32 = i := ⟨_, rfl⟩
    have hki : (k : Int) - 32 = (i : Int) := by omega
    have hc := hm i (by omega)
    rw [hi] at hS
    rw [hS] at hc
    have ci : (i : Int) < 48 := by omega
    have ci2 : i < 48 := by omega
    clear hm hw hs h7 h32 hkb hi hS h80
    go_enter Tryz.func14, Tryz.ntmps14
    go_wp2_with (first
      | (go_at_call 24; (with_reducible refine HW.out.mono ?_); rintro e w3 ⟨rfl, hw3⟩; subst hw3)
      | (go_at_call 25; (with_reducible refine HM.out.mono ?_); rintro e w3 ⟨rfl, hw3⟩; subst hw3))
    go_ret
    exact ⟨rfl, HB2.out⟩
  · rw [spR_80 k (by omega)] at hS
    have c1 : (k : Int) ≥ 7 := by omega
    have c2 : ¬ (k : Int) < 32 := by omega
    have c3 : (k : Int) ≥ 32 := by omega
    have c4 : ¬ (k : Int) < 80 := by omega
    subst hS
    clear hm hw h7 h32 h80
    go_enter Tryz.func14, Tryz.ntmps14
    go_wp2_with (first
      | (go_at_call 24; (with_reducible refine HW.out.mono ?_); rintro e w3 ⟨rfl, hw3⟩; subst hw3)
      | (go_at_call 25; (with_reducible refine HM.out.mono ?_); rintro e w3 ⟨rfl, hw3⟩; subst hw3))
    go_ret
    exact ⟨rfl, HB2.out⟩
end Go.Proofs.YthdfccdkomfikaaGreatDoor

namespace Go.Proofs.YthdfccdkomfikaaGreatDoor
open Go.ChangeShapes Go.WideShapes Go.ChangeAt Go.RowKit Go.Maps Go.WideMaps
set_option linter.unusedVariables false
set_option linter.unusedSimpArgs false

theorem o_disable (w : World) : (callFunc 105 #[]).run Tryz.prog w = .ok (.value (.tuple #[])) w := run_call_mark0 Tryz.func105 (by kernel_rfl) (by kernel_rfl) (by kernel_rfl) .disable (by kernel_rfl) w
theorem o_enable (w : World) : (callFunc 107 #[]).run Tryz.prog w = .ok (.value (.tuple #[])) w := run_call_mark0 Tryz.func107 (by kernel_rfl) (by kernel_rfl) (by kernel_rfl) .enable (by kernel_rfl) w
theorem o_acquire (a : Addr) (w : World) : (callFunc 108 #[.pointer (some a)]).run Tryz.prog w = .ok (.value (.tuple #[])) w := run_call_marked Tryz.func108 (by kernel_rfl) (by kernel_rfl) (by kernel_rfl) .acquire (by kernel_rfl) a w
theorem o_release (a : Addr) (w : World) : (callFunc 110 #[.pointer (some a)]).run Tryz.prog w = .ok (.value (.tuple #[])) w := run_call_marked Tryz.func110 (by kernel_rfl) (by kernel_rfl) (by kernel_rfl) .releaseMerge (by kernel_rfl) a w

/-- done is stored, as a deferred call -/
theorem o_store (a : Addr) (x : Value) (u : FrameMode) (w : World) (hc : w.cell? a = some x) (hz : w.frozen? a = false) :
    CallsD Tryz.prog 98 #[.pointer (some a), .bool true] u w fun e u' w' => u' = u ∧ (e = .returned (.tuple #[]) ∧ w' = w.drew.setCell a (.int .u32 1)) := by
  have hc' : w.drew.cell? a = some x := by go_simp
  have hz' : w.drew.frozen? a = false := by go_simp
  have hst := run_call_store (P := Tryz.prog) Tryz.func103 (by kernel_rfl) (by kernel_rfl) (by kernel_rfl) (by kernel_rfl) (k := .u32) (y := 1) hc' hz'
  go_enter_d Tryz.func98, Tryz.ntmps98
  go_wp2
  go_region_calls
  all_goals (go_end0; exact ⟨rfl, rfl⟩)
set_option maxRecDepth 1000000 in
set_option maxHeartbeats 4000000 in
/-- the lock is let go, as a deferred call -/
theorem o_unlock (a : Addr) (u : FrameMode) (w : World) (hc : w.cell? a = some (.int .i32 1)) (hz : w.frozen? a = false) :
    CallsD Tryz.prog 97 #[.pointer (some a)] u w fun e u' w' => u' = u ∧ (e = .returned (.tuple #[]) ∧ w' = w.setCell a (.int .i32 0)) := by
  have hd := o_disable
  have he := o_enable
  have hr := o_release
  have hadd := run_call_add (P := Tryz.prog) Tryz.func111 (by kernel_rfl) (by kernel_rfl) (by kernel_rfl) .i32 (by kernel_rfl) (y := -1) (s := 0) hc hz (by simp [go_sem]; rfl)
  have hcv := run_convert_to_unsafe (P := Tryz.prog) (src := 151) (dst := 155) Tryz.underlying151 Tryz.underlying155 (by kernel_rfl) hc
  go_enter_d Tryz.func97, Tryz.ntmps97
  go_wp2
  go_end0
  go_wp2
set_option maxRecDepth 1000000 in
set_option maxHeartbeats 4000000 in
/-- the lock is taken -/
theorem o_lock (a : Addr) (w : World) (hc : w.cell? a = some (.int .i32 0)) (hz : w.frozen? a = false) :
    Calls Tryz.prog 96 #[.pointer (some a)] w fun e w' => e = .returned (.tuple #[]) ∧ w' = w.setCell a (.int .i32 1) := by
  have hd := o_disable
  have he := o_enable
  have ha := o_acquire
  have hcas := run_call_cas_hit (P := Tryz.prog) Tryz.func106 (by kernel_rfl) (by kernel_rfl) (by kernel_rfl) .i32 (by kernel_rfl) (y := 1) hc hz
  have hc' : (w.setCell a (.int .i32 1)).cell? a = some (.int .i32 1) := World.cell?_setCell_same w a _ hc
  have hcv := run_convert_to_unsafe (P := Tryz.prog) (src := 151) (dst := 155) Tryz.underlying151 Tryz.underlying155 (by kernel_rfl) hc'
  go_enter Tryz.func96, Tryz.ntmps96
  go_wp2
  first | go_end0 | (simp only [Exit.inBlock, Exit.then]; refine bodyPost_ret (results_none rfl _ _ _) rfl ?_) | refine bodyPost_ret (results_none rfl _ _ _) rfl ?_
  go_wp2
end Go.Proofs.YthdfccdkomfikaaGreatDoor

namespace Go.Proofs.YthdfccdkomfikaaGreatDoor
open Go.ChangeShapes Go.WideShapes Go.ChangeAt Go.RowKit Go.Maps Go.WideMaps
set_option linter.unusedVariables false
set_option linter.unusedSimpArgs false

set_option maxRecDepth 1000000 in
set_option maxHeartbeats 4000000 in
/-- the tree is made and kept -/
theorem tree1_any (b : Nat) (pl : Addr) (x6 : Value) (w : World) (hS : Spl w) (hpl : pl.block < w.heap.size) (hbl : b < w.heap.size) (hp : w.cell? pl = some (.pointer (some ⟨b, 0, none⟩))) (h6 : w.cell? ⟨b, 6, none⟩ = some x6) (f6 : w.frozen? ⟨b, 6, none⟩ = false) :
    Calls Tryz.prog 74 #[.pointer (some pl)] w fun e w' => ∃ w1, e = .returned (.tuple #[]) ∧ (∃ A V, A 0 = w.heap.size ∧ Tre w1 w.heap.size (mkT 48) A V) ∧ Below w.heap.size w w1 ∧ w' = w1.setCell ⟨b, 6, none⟩ (.pointer (some ⟨w.heap.size, 0, none⟩)) := by
  have HM : Hid (Calls Tryz.prog 75 #[] w.drew fun e w' => e = .returned (.pointer (some ⟨w.heap.size, 0, none⟩)) ∧ (∃ A V, A 0 = w.heap.size ∧ Tre w' w.heap.size (mkT 48) A V) ∧ Below w.heap.size w w') := by
    have hd : Below w.heap.size w w.drew := (Below.refl _ w).drew
    refine (markTree_any w.drew (hS.below hd)).mono fun e w' h => ?_
    obtain ⟨A, V, rfl, hA, ht, hb⟩ := h
    have hA' : A 0 = w.heap.size := hA
    exact ⟨by unfold ptrT; rw [hA'], ⟨A, V, hA, ht⟩, hd.trans hb⟩
  have HC : Hid (∀ v, Below w.heap.size w v → v.cell? pl = some (.pointer (some ⟨b, 0, none⟩)) ∧ v.cell? ⟨b, 6, none⟩ = some x6 ∧ v.frozen? ⟨b, 6, none⟩ = false ∧ b < v.heap.size ∧ pl.block < v.heap.size) := fun v hv =>
    ⟨(hv.cell hpl).trans hp, (hv.cell (p := ⟨b, 6, none⟩) hbl).trans h6, (World.frozen?_of_block (a := ⟨b, 6, none⟩) (hv.block b hbl)).trans f6, by have := hv.size; omega, by have := hv.size; omega⟩
  clear hS
  go_enter Tryz.func74, Tryz.ntmps74
  go_region_with (go_at_call 75; (with_reducible refine HM.out.mono ?_); rintro e w1 ⟨rfl, ht1, hb1⟩; obtain ⟨q0, q6, g6, qb, qp⟩ := HC.out w1 hb1; have HT1 : Hid (∃ A V, A 0 = w.heap.size ∧ Tre w1 w.heap.size (mkT 48) A V) := ht1; have HB1 : Hid (Below w.heap.size w w1) := hb1; clear ht1 hb1)
  all_goals
    go_wp2
    go_end0
    exact ⟨_, ⟨rfl, HT1.out, HB1.out, rfl⟩⟩
end Go.Proofs.YthdfccdkomfikaaGreatDoor
