import Derived.Test.YteanhljabjoabaaRf1
namespace Go.Proofs.Yteanhljabjoabaa
open Go Go.RowKit Go.Shelf
attribute [local go_sem] Oper.semAt_some
set_option linter.unusedVariables false

theorem first_in (F : Fence) (n : Nat) (hfn : ∀ k, F.fn k) (hro : F.round = none) (hd : F.depth = none) (hn : 1 ≤ n) (n0 gf : Nat) (lb : Array Value) (xs : List Int) (w : World)
    (eg : ∀ args w, (callFunc gf args).run Try.prog w = .ok (.enter gf args) w) (hn0 : n0 ≤ w.heap.size) (hseq : SeqO true F (n - 1) Try.prog gf lb n0 xs w) :
    CallsIn F n Try.prog 23 #[.func (.func gf) #[] lb] w fun e W' => e = .returned (.int .i64 (xs.headD (-1))) ∧ Below w.heap.size w W' := by
  obtain ⟨W1, hW1⟩ : ∃ W1, w.alloc (.cells #[.int .i64 0] 3) = W1 := ⟨_, rfl⟩
  have g1 : w.grownBy W1 none := by rw [← hW1]; exact World.grownBy_alloc w _ none
  have b1 : Below w.heap.size w W1 := (Below.refl _ w).grown g1 (Nat.le_refl _) (fun k e => by cases e)
  have s1 : W1.heap.size = w.heap.size + 1 := by rw [← hW1]; simp
  have B0 : Boxed W1 w.heap.size 3 (.int .i64 0) := by rw [← hW1]; exact Boxed.new w _ _
  refine callsIn_of_wp_marks Try.func23 rfl (hfn _) ?_ hro
  simp only [Try.ntmps23, List.size_toArray, List.length_cons, List.length_nil, Nat.reduceAdd, Nat.reduceSub, Array.replicate_succ, Array.replicate_zero, List.push_toArray, List.append_toArray, List.nil_append, List.cons_append]
  gi_wp2
  refine range_open hro hn (gf := gf) (lb := lb) rfl (hfn gf) eg hseq (b1.mono hn0) (by omega) rfl
    (fun pre V => pre = [] ∧ (Below w.heap.size w V ∧ Boxed V w.heap.size 3 (.int .i64 0)))
    (fun c pre V => c = .ret ∧ ∃ x, pre = [x] ∧ (Below w.heap.size w V ∧ Boxed V w.heap.size 3 (.int .i64 x))) ?own1 ?own2 ⟨rfl, b1, B0⟩
    (fun x => { tmps := #[.func (.func gf) #[] lb, undef, .pointer (some ⟨w.heap.size, 0, none⟩), .int .i64 x, .func (.func gf) #[] lb, .int .i64 x, undef], defers := [] }) ?assign ?body ?done ?stop
  case own1 =>
    rintro s X Y row ⟨rfl, hb, hB⟩ hg hr
    exact ⟨rfl, hb.grown hg hb.size (fun k e => by have := (hr k e).1; omega), hB.kept hg (fun e => by have := (hr _ e.symm).1; omega)⟩
  case own2 =>
    rintro c s X Y row ⟨rfl, x, rfl, hb, hB⟩ hg hr
    exact ⟨rfl, x, rfl, hb.grown hg hb.size (fun k e => by have := (hr k e).1; omega), hB.kept hg (fun e => by have := (hr _ e.symm).1; omega)⟩
  case assign =>
    intro l2 x V K hK
    gi_wp2
    exact hK
  case body =>
    rintro l2 pre x post V hx hl2 - ⟨rfl, hB, hX⟩
    have hc := hX.cell
    have hf := hX.frozen
    gi_wp2
    exact ⟨Apart.of_grownBy (grownBy_setCell' V _ _) (fun j e => by cases e; omega), rfl, x, rfl, hB.setCell (p := ⟨w.heap.size, 0, none⟩) (Nat.le_refl _) _, hX.set _⟩
  case done =>
    rintro D V hD ⟨hxs, hB, hX⟩ hK
    have hc := hX.cell
    have hf := hX.frozen
    gi_wp2
    have hK2 : (V.setCell ⟨w.heap.size, 0, none⟩ (.int .i64 (-1))).heap[D]? = some (.deferred (some [])) := (Below.heap_setCell V ⟨w.heap.size, 0, none⟩ _ _ (by show D ≠ w.heap.size; omega)).trans hK
    refine ⟨by simp, .inl ⟨_, _, rfl, run_takeDeferred hK2, ?_⟩⟩
    have hB2 : Below w.heap.size w (V.setCell ⟨w.heap.size, 0, none⟩ (.int .i64 (-1))) := hB.setCell (p := ⟨w.heap.size, 0, none⟩) (Nat.le_refl _) _
    have hc5 := ((hX.set (.int .i64 (-1))).kept (grownBy_putObj' _ D (.deferred none)) (by simp; omega)).cell
    refine ⟨.int .i64 (-1), ?_, by rw [hxs]; rfl, hB2.grown (grownBy_putObj' _ D (.deferred none)) hB2.size (fun k e => by cases e; omega)⟩
    simp [results, Try.f23, go_sem, hc5]
  case stop =>
    rintro D c pre V hD hp ⟨rfl, x, rfl, hB, hX⟩ hK
    gi_wp2
    refine ⟨by simp, .inl ⟨_, _, rfl, run_takeDeferred hK, ?_⟩⟩
    have hc5 := (hX.kept (grownBy_putObj' _ D (.deferred none)) (by simp; omega)).cell
    obtain ⟨t, ht⟩ := hp
    refine ⟨.int .i64 x, ?_, by rw [← ht]; rfl, hB.grown (grownBy_putObj' _ D (.deferred none)) hB.size (fun k e => by cases e; omega)⟩
    simp [results, Try.f23, go_sem, hc5]
end Go.Proofs.Yteanhljabjoabaa
