import Derived.Test.YteolfolkolpehaaDoorShl
import Derived.Test.YteolfolkolpehaaDoorBxs
import Derived.Test.YteolfolkolpehaaDoorW3
namespace Go.Proofs.YteolfolkolpehaaDoor
open Go.ChangeShapes Go.WideShapes Go.ChangeAt Go.RowKit
set_option linter.unusedVariables false

theorem infoEdR : (Tryd.prog.info? 45).map (fun i => (i.zero, i.size, i.bytes)) = some (some (.agg #[.int .i64 0, .int .i64 0, .string ⟨#[]⟩]), 3, 32) := by kernel_rfl
theorem infoRow : (Tryd.prog.info? 22).map (fun i => (i.zero, i.size, i.bytes)) = some (some (.slice none 0 0), 1, 24) := by kernel_rfl
theorem own_news {w : World} {B e k n c : Nat} {a : Option Addr} {xs : List Value} (h : w.ownsRow B e k (.slice a n c) n xs) : ∀ ad, a = some ad → ∀ j u, xs[j]? = some u → w.cell? (ad.add j) = some u := by
  intro ad had j u hj
  rcases h.2 with ⟨hv, h0⟩ | ⟨g, cap, cur, hv, _⟩
  · simp only [Value.slice.injEq] at hv
    rw [hv.1] at had; cases had
  · simp only [Value.slice.injEq] at hv
    obtain ⟨ha, -, hc⟩ := hv
    subst hc
    rw [ha] at had h
    cases had
    exact h.cells rfl j u hj
set_option maxRecDepth 1000000 in
set_option maxHeartbeats 1000000 in
theorem copyEdits_any (B : Nat) (v : Value) (n : Nat) (xs : List Value) (w : World) (h : w.ownsRow B 45 3 v n xs) (h1 : ∀ u ∈ xs, u.oneCell' = true) (hn : n ≤ 1000000) :
    Calls Tryd.prog 48 #[v] w fun e w' => ∃ u, e = .returned u ∧ w'.ownsRow w.heap.size 45 3 u n xs ∧ Below w.heap.size w w' := by
  obtain ⟨i0, hi0, hz0, hz1, hz2⟩ := info_parts infoEdR
  obtain ⟨a, c, rfl, -, hn2⟩ := own_slice h
  have HO : Hid (w.ownsRow B 45 3 (.slice a n c) n xs) := h
  have H1 : Hid (∀ u ∈ xs, u.oneCell' = true) := h1
  have HN2 : Hid (a = none → n = 0 ∧ c = 0) := hn2
  have HL : Hid (xs.length = n * 3) := h.1
  clear h h1 hn2
  have HL0 : Hid ((w.alloc (.cells #[] 45)).ownsRow w.heap.size 45 3 (.slice (some ⟨w.heap.size, 0, none⟩) 0 0) 0 []) := World.ownsRow_lit w #[] 0 (Nat.le_refl _) (by unfold maxLen; omega) rfl
  go_enter Tryd.func48, Tryd.ntmps48
  go_wp2_with (at_builtin; ((refine wpList_append_at _ rfl _ _ 22 rfl w.heap.size 45 i0 (.agg #[.int .i64 0, .int .i64 0, .string ⟨#[]⟩]) 3 32 Tryd.underlying22 hi0 hz0 hz1 hz2 rfl (by decide) _ 0 [] rfl HL0.out a n c xs rfl HL.out HN2.out (own_news (own_belowR HO.out ((Below.refl _ w).alloc (Nat.le_refl _) _) (Nat.le_refl _))) H1.out (by unfold maxLen; omega) (by omega) (by simp) ?_); intro v1 w1 hown1 hgrow1 _; have HB1 : Hid (Below w.heap.size w w1) := ((Below.refl _ w).alloc (Nat.le_refl _) _).grown hgrow1 (by simp) (fun g h => (HL0.out.lt g h).1); have HO1 : Hid (w1.ownsRow w.heap.size 45 3 v1 n xs) := (by unfold Hid; rw [Nat.zero_add, List.nil_append] at hown1; exact hown1); clear hown1 hgrow1))
  go_ret
  exact ⟨_, rfl, HO1.out, HB1.out⟩
theorem mark_any (n : Nat) (w : World) (hn : n ≤ 1000000) : Calls Tryd.prog 76 #[.int .i64 (n : Int)] w fun e w' => e = .returned (.int .i64 (-7777 - (n : Int))) ∧ w' = w := by
  have mk : IntKind.i64.wrap (-7777 - (n : Int)) = -7777 - (n : Int) := IntWalk.i64_in _ ⟨by omega, by omega⟩
  go_enter Tryd.func76, Tryd.ntmps76
  go_wp2
  go_ret
  exact ⟨rfl, rfl⟩
end Go.Proofs.YteolfolkolpehaaDoor
