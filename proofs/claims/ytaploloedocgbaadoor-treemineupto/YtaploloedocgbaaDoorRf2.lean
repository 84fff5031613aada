import Derived.Test.YtaploloedocgbaaDoorRf
import Derived.Shelf.AbstractIn
namespace Go.Proofs.YtaploloedocgbaaDoor
open Go Go.RowKit Go.Shelf
attribute [local go_sem] Oper.semAt_some
set_option linter.unusedVariables false

theorem filter_snoc (q : Int → Bool) (pre : List Int) (x : Int) : (pre ++ [x]).filter q = pre.filter q ++ (if q x then [x] else []) := by
  rw [List.filter_append]; cases h : q x <;> simp [h]

theorem grownBy_of_below {W W' : World} (h : Below W.heap.size W W') : W.grownBy W' none := ⟨h.os, h.tape, h.output, h.size, fun k hk _ => h.block k hk⟩

theorem cell_lt {W : World} {a : Addr} {v : Value} (h : W.cell? a = some v) : a.block < W.heap.size := by
  obtain ⟨o, ho, _⟩ := cells_of_cell h; exact (Array.getElem?_eq_some_iff.1 ho).1

theorem asked1_seq (F : Fence) (n : Nat) (hfn : ∀ k, F.fn k) (hro : F.round = none) (hd : F.depth = none) (hn : 1 ≤ n) (B1 B2 n0 gf gq : Nat) (lb lq : Array Value) (xs : List Int) (q : Int → Bool) (w : World)
    (eg : ∀ args w, (callFunc gf args).run Tryd.prog w = .ok (.enter gf args) w) (eq : ∀ args w, (callFunc gq args).run Tryd.prog w = .ok (.enter gq args) w)
    (h1 : B1 < n0) (h2 : B2 < n0) (c1 : w.cell? ⟨B1, 0, none⟩ = some (.func (.func gf) #[] lb)) (c2 : w.cell? ⟨B2, 0, none⟩ = some (.func (.func gq) #[] lq))
    (hseq : SeqO true F (n - 1) Tryd.prog gf lb n0 xs w)
    (hq : ∀ x ∈ xs, ∀ m W, Below n0 w W → n0 ≤ W.heap.size → CallsIn F m Tryd.prog gq (#[.int .i64 x] ++ lq) W fun e W' => e = .returned (.bool (q x)) ∧ Below W.heap.size W W') :
    SeqO true F n Tryd.prog 57 #[.pointer (some ⟨B1, 0, none⟩), .pointer (some ⟨B2, 0, none⟩)] n0 (xs.filter q) w := by
  intro l J Jx W hW hnW oJ oX hY h0
  have hc1 : W.cell? ⟨B1, 0, none⟩ = some (.func (.func gf) #[] lb) := (hW.cell (p := ⟨B1, 0, none⟩) h1).trans c1
  obtain ⟨W1, hW1⟩ : ∃ W1, W.alloc (.cells #[.func (.yield l) #[] #[]] 89) = W1 := ⟨_, rfl⟩
  have g1 : W.grownBy W1 none := by rw [← hW1]; exact World.grownBy_alloc W _ none
  have b1 : Below n0 w W1 := hW.grown g1 hnW (fun k e => by cases e)
  have s1 : W1.heap.size = W.heap.size + 1 := by rw [← hW1]; simp
  have hc1' : W1.cell? ⟨B1, 0, none⟩ = some (.func (.func gf) #[] lb) := g1.cell hc1 (by simp)
  have hcy : W1.cell? ⟨W.heap.size, 0, none⟩ = some (.func (.yield l) #[] #[]) := by rw [← hW1]; exact (Boxed.new W _ _).cell
  refine callsIn_of_wp_marks Tryd.func57 rfl (hfn _) ?_ hro
  simp only [Tryd.ntmps57, List.size_toArray, List.length_cons, List.length_nil, Nat.reduceAdd, Nat.reduceSub, Array.replicate_succ, Array.replicate_zero, List.push_toArray, List.append_toArray, List.nil_append, List.cons_append]
  gi_wp2
  have hsz : W1.heap.size = W.heap.size + 1 := s1
  refine range_open hro hn (gf := gf) (lb := lb) rfl (hfn gf) eg hseq b1 (by omega) rfl
    (fun pre V => J (pre.filter q) V ∧ (Below n0 w V ∧ V.cell? ⟨W.heap.size, 0, none⟩ = some (.func (.yield l) #[] #[])))
    (fun c pre V => c = .ret ∧ Jx (pre.filter q) V) ?own1 ?own2 ⟨oJ _ _ _ none h0 g1 (fun r e => by cases e), b1, hcy⟩
    (fun x => { tmps := #[.func (.yield l) #[] #[], .pointer (some ⟨B1, 0, none⟩), .pointer (some ⟨B2, 0, none⟩), .pointer (some ⟨W.heap.size, 0, none⟩), .int .i64 x, .func (.func gf) #[] lb, .int .i64 x, undef, undef, undef, undef, undef, undef, undef, undef, undef], defers := [] }) ?assign ?body ?done ?stop
  case own1 =>
    rintro s X Y row ⟨hj, hb, hc⟩ hg hr
    have hXs : W.heap.size < X.heap.size := cell_lt hc
    refine ⟨oJ _ X Y row hj hg (fun r e => ⟨by have := (hr r e).1; omega, (hr r e).2⟩), hb.grown hg (by omega) (fun k e => by have := (hr k e).1; omega), cell_kept hc hg (fun r e => (hr r e).2)⟩
  case own2 =>
    rintro c s X Y row ⟨hc, hj⟩ hg hr
    exact ⟨hc, oX _ X Y row hj hg (fun r e => ⟨by have := (hr r e).1; omega, (hr r e).2⟩)⟩
  case assign =>
    intro l2 x V K hK
    gi_wp2
    exact hK
  case body =>
    rintro l2 pre x post V hx hl2 - ⟨hJ, hB, hcY⟩
    have hVs := cell_lt hcY
    simp only at hVs
    have d2 : V.cell? ⟨B2, 0, none⟩ = some (.func (.func gq) #[] lq) := (hB.cell (p := ⟨B2, 0, none⟩) h2).trans c2
    have hfq : F.fn gq := hfn gq
    have hQ := fun m => hq x (by rw [hx]; simp) m V hB (by omega)
    cases hqx : q x with
    | false =>
      rw [hqx] at hQ
      gi_wp2_with (gi_at_fn gq; refine (CallsIn.inRound l2 (hQ _)).mono ?_; rintro e V' ⟨rfl, hV'⟩)
      refine ⟨Apart.of_below hV', hV'.mono (by omega), ?_, hB.trans (hV'.mono (by omega)), (hV'.cell (p := ⟨W.heap.size, 0, none⟩) hVs).trans hcY⟩
      rw [filter_snoc, hqx]; simp only [Bool.false_eq_true, if_false, List.append_nil]
      exact oJ _ _ _ none hJ (grownBy_of_below hV') (fun r e => by cases e)
    | true =>
      rw [hqx] at hQ
      have hQ2 : ∀ m, CallsIn F m Tryd.prog gq (#[.int .i64 x] ++ lq) V fun e V' => e = .returned (.bool true) ∧ Below V.heap.size V V' ∧ V'.cell? ⟨W.heap.size, 0, none⟩ = some (.func (.yield l) #[] #[]) ∧ YieldAt (F.inRound l2) (n - 1 - 1 - 1) Tryd.prog l #[.int .i64 x] V' fun e W' =>
          Apart true W.heap.size V' W' ∧ ((e = .returned (.bool true) ∧ J ((pre ++ [x]).filter q) W' ∧ Below n0 V' W') ∨ (e = .returned (.bool false) ∧ Jx ((pre ++ [x]).filter q) W')) := fun m => (hQ m).mono (by
        rintro e V' ⟨he, hV'⟩
        refine ⟨he, hV', (hV'.cell (p := ⟨W.heap.size, 0, none⟩) hVs).trans hcY, ?_⟩
        have := yieldAt_in l2 (yieldAt_any hd (n - 1 - 1 - 1) (hY (pre.filter q) x (post.filter q) V' (by rw [hx]; simp [hqx]) (oJ _ _ _ none hJ (grownBy_of_below hV') (fun r e => by cases e))))
        rw [filter_snoc, hqx, if_pos rfl]
        exact this)
      gi_wp2_with (gi_at_fn gq; refine (CallsIn.inRound l2 (hQ2 _)).mono ?_; rintro e V' ⟨rfl, hV', hcY', fn, tmps, assign, body, hy, hR⟩)
      refine hR.mono ?_
      have hsV' := hV'.size
      rintro e V2 ⟨hA, (⟨rfl, hJ2, hb2⟩ | ⟨rfl, hX2⟩)⟩
      · gi_wp2
        exact ⟨(Apart.of_below hV').trans (hA.up (by omega)), (hV'.mono (by omega)).trans hb2, hJ2, (hB.trans (hV'.mono (by omega))).trans hb2, (World.cell?_of_block (w := V') (hA.cells (k := W.heap.size) (Nat.le_refl _) (by omega))).trans hcY'⟩
      · gi_wp2
        exact ⟨(Apart.of_below hV').trans (hA.up (by omega)), rfl, hX2⟩
  case done =>
    rintro D V hD ⟨hJ, hB, hcY⟩ hK
    gi_wp2
    refine ⟨by simp, .inl ⟨_, _, rfl, run_takeDeferred hK, ?_⟩⟩
    refine ⟨_, results_none rfl _ _ _, ⟨_, rfl⟩, .inl (oJ.putObj _ hJ (by omega) hK rfl)⟩
  case stop =>
    rintro D c pre V hD hp ⟨rfl, hJ⟩ hK
    gi_wp2
    refine ⟨by simp, .inl ⟨_, _, rfl, run_takeDeferred hK, ?_⟩⟩
    refine ⟨_, results_none rfl _ _ _, ⟨_, rfl⟩, .inr ⟨_, hp.filter q, oX.putObj _ hJ (by omega) hK rfl⟩⟩
end Go.Proofs.YtaploloedocgbaaDoor

namespace Go.Proofs.YtaploloedocgbaaDoor
open Go Go.RowKit Go.Shelf
attribute [local go_sem] Oper.semAt_some
set_option linter.unusedVariables false

theorem first_in (F : Fence) (n : Nat) (hfn : ∀ k, F.fn k) (hro : F.round = none) (hd : F.depth = none) (hn : 1 ≤ n) (n0 gf : Nat) (lb : Array Value) (xs : List Int) (w : World)
    (eg : ∀ args w, (callFunc gf args).run Tryd.prog w = .ok (.enter gf args) w) (hn0 : n0 ≤ w.heap.size) (hseq : SeqO true F (n - 1) Tryd.prog gf lb n0 xs w) :
    CallsIn F n Tryd.prog 40 #[.func (.func gf) #[] lb] w fun e W' => e = .returned (.int .i64 (xs.headD (-1))) ∧ Below w.heap.size w W' := by
  obtain ⟨W1, hW1⟩ : ∃ W1, w.alloc (.cells #[.int .i64 0] 3) = W1 := ⟨_, rfl⟩
  have g1 : w.grownBy W1 none := by rw [← hW1]; exact World.grownBy_alloc w _ none
  have b1 : Below w.heap.size w W1 := (Below.refl _ w).grown g1 (Nat.le_refl _) (fun k e => by cases e)
  have s1 : W1.heap.size = w.heap.size + 1 := by rw [← hW1]; simp
  have B0 : Boxed W1 w.heap.size 3 (.int .i64 0) := by rw [← hW1]; exact Boxed.new w _ _
  refine callsIn_of_wp_marks Tryd.func40 rfl (hfn _) ?_ hro
  simp only [Tryd.ntmps40, List.size_toArray, List.length_cons, List.length_nil, Nat.reduceAdd, Nat.reduceSub, Array.replicate_succ, Array.replicate_zero, List.push_toArray, List.append_toArray, List.nil_append, List.cons_append]
  gi_wp2
  refine range_open hro hn (gf := gf) (lb := lb) rfl (hfn gf) eg hseq (b1.mono hn0) (by omega) rfl
    (fun pre V => pre = [] ∧ (Below w.heap.size w V ∧ Boxed V w.heap.size 3 (.int .i64 0)))
    (fun c pre V => c = .ret ∧ ∃ x, pre = [x] ∧ (Below w.heap.size w V ∧ Boxed V w.heap.size 3 (.int .i64 x))) ?own1 ?own2 ⟨rfl, b1, B0⟩
    (fun x => { tmps := #[.func (.func gf) #[] lb, undef, .pointer (some ⟨w.heap.size, 0, none⟩), .int .i64 x, .func (.func gf) #[] lb, .int .i64 x, undef], defers := [] }) ?assign ?body ?done ?stop
  case own1 =>
    rintro s X Y row ⟨rfl, hb, hB⟩ hg hr
    exact ⟨rfl, hb.grown hg hb.size (fun k e => by have := (hr k e).1; omega), hB.kept hg (fun e => by have := (hr _ e.symm).1; omega)⟩
  case own2 =>
    rintro c s X Y row ⟨rfl, x, rfl, hb, hB⟩ hg hr
    exact ⟨rfl, x, rfl, hb.grown hg hb.size (fun k e => by have := (hr k e).1; omega), hB.kept hg (fun e => by have := (hr _ e.symm).1; omega)⟩
  case assign =>
    intro l2 x V K hK
    gi_wp2
    exact hK
  case body =>
    rintro l2 pre x post V hx hl2 - ⟨rfl, hB, hX⟩
    have hc := hX.cell
    have hf := hX.frozen
    gi_wp2
    exact ⟨Apart.of_grownBy (grownBy_setCell' V _ _) (fun j e => by cases e; omega), rfl, x, rfl, hB.setCell (p := ⟨w.heap.size, 0, none⟩) (Nat.le_refl _) _, hX.set _⟩
  case done =>
    rintro D V hD ⟨hxs, hB, hX⟩ hK
    have hc := hX.cell
    have hf := hX.frozen
    gi_wp2
    have hK2 : (V.setCell ⟨w.heap.size, 0, none⟩ (.int .i64 (-1))).heap[D]? = some (.deferred (some [])) := (Below.heap_setCell V ⟨w.heap.size, 0, none⟩ _ _ (by show D ≠ w.heap.size; omega)).trans hK
    refine ⟨by simp, .inl ⟨_, _, rfl, run_takeDeferred hK2, ?_⟩⟩
    have hB2 : Below w.heap.size w (V.setCell ⟨w.heap.size, 0, none⟩ (.int .i64 (-1))) := hB.setCell (p := ⟨w.heap.size, 0, none⟩) (Nat.le_refl _) _
    have hc5 := ((hX.set (.int .i64 (-1))).kept (grownBy_putObj' _ D (.deferred none)) (by simp; omega)).cell
    refine ⟨.int .i64 (-1), ?_, by rw [hxs]; rfl, hB2.grown (grownBy_putObj' _ D (.deferred none)) hB2.size (fun k e => by cases e; omega)⟩
    simp [results, Tryd.f40, go_sem, hc5]
  case stop =>
    rintro D c pre V hD hp ⟨rfl, x, rfl, hB, hX⟩ hK
    gi_wp2
    refine ⟨by simp, .inl ⟨_, _, rfl, run_takeDeferred hK, ?_⟩⟩
    have hc5 := (hX.kept (grownBy_putObj' _ D (.deferred none)) (by simp; omega)).cell
    obtain ⟨t, ht⟩ := hp
    refine ⟨.int .i64 x, ?_, by rw [← ht]; rfl, hB.grown (grownBy_putObj' _ D (.deferred none)) hB.size (fun k e => by cases e; omega)⟩
    simp [results, Tryd.f40, go_sem, hc5]
end Go.Proofs.YtaploloedocgbaaDoor
