import Derived.Test.YtchcmonhdgndcaaWl
namespace Go.Proofs.Ytchcmonhdgndcaa
open Go.ChangeShapes Go.WideShapes Go.ChangeAt Go.RowKit
set_option linter.unusedVariables false

/-- what lay below n0 lies as it lay, but for one block -/
structure But (B n0 : Nat) (W W' : World) : Prop where
  rest : Below 0 W W'
  block : ∀ k, k < n0 → k ≠ B → W'.heap[k]? = W.heap[k]?
theorem But.refl (B n0 : Nat) (W : World) : But B n0 W W := ⟨Below.refl _ _, fun _ _ _ => rfl⟩
theorem But.trans {B n0 : Nat} {X Y Z : World} (h : But B n0 X Y) (k : But B n0 Y Z) : But B n0 X Z := ⟨h.rest.trans k.rest, fun i hi hb => (k.block i hi hb).trans (h.block i hi hb)⟩
theorem But.of_below {B n0 : Nat} {W W' : World} (h : Below n0 W W') : But B n0 W W' := ⟨h.mono (Nat.zero_le _), fun k hk _ => h.block k hk⟩
theorem But.size {B n0 : Nat} {W W' : World} (h : But B n0 W W') : W.heap.size ≤ W'.heap.size := h.rest.size
theorem But.below {B n0 m : Nat} {W W' : World} (h : But B n0 W W') (h1 : m ≤ n0) (h2 : m ≤ B) : Below m W W' := ⟨h.rest.os, h.rest.tape, h.rest.output, h.rest.size, fun k hk => h.block k (by omega) (by omega)⟩
theorem But.mono {B n0 m : Nat} {W W' : World} (h : But B n0 W W') (hm : m ≤ n0) : But B m W W' := ⟨h.rest, fun k hk hb => h.block k (by omega) hb⟩
theorem But.cell {B n0 : Nat} {W W' : World} (h : But B n0 W W') {p : Addr} (hp : p.block < n0) (hb : p.block ≠ B) : W'.cell? p = W.cell? p := World.cell?_of_block (w := W) (h.block p.block hp hb)
theorem But.bx {B n0 g : Nat} {W W' : World} {vs : Array Value} {t : TypeId} (h : But B n0 W W') (hx : Bx W g vs t) (hp : g < n0) (hb : g ≠ B) : Bx W' g vs t := (h.block g hp hb).trans hx
theorem But.lies {α : Type} [Rw α] {B n0 b o : Nat} {W W' : World} {xs : List α} (h : But B n0 W W') (hx : Lies W b o xs) (hp : b < n0) (hb : b ≠ B) : Lies W' b o xs :=
  ⟨Nat.lt_of_lt_of_le hx.1 h.size, fun j u hj => by rw [← hx.2 j u hj]; exact World.cell?_of_block (h.block b hp hb)⟩
theorem But.own {B n0 C : Nat} {W0 : World} (h1 : n0 ≤ W0.heap.size) (h2 : n0 ≤ C) : OwnFrom C (fun (_ : List Int) W => But B n0 W0 W) :=
  fun _ X Y row hs hg hr => ⟨hs.rest.grown hg (Nat.zero_le _) (fun k e => Nat.zero_le _), fun k hk hb => (hg.block k (by have := hs.size; omega) (fun e => by have := (hr k e.symm).1; omega)).trans (hs.block k hk hb)⟩

/-- an iterator that calls a function of its caller's behind each round, which may write -/
def SeqS (F : Fence) (n : Nat) (P : Program) (g : Nat) (lb : Array Value) (B n0 gq : Nat) (lq : Array Value) (skp : Nat → Bool) (xs : List Int) (w : World) : Prop :=
  ∀ (l : Nat) (J M Jx : List Int → World → Prop) (W : World), But B n0 w W → n0 ≤ W.heap.size → OwnFrom W.heap.size J → OwnFrom W.heap.size M → OwnFrom W.heap.size Jx →
    (∀ pre x post W1, xs = pre ++ x :: post → J pre W1 → YieldAt F (n - 1) P l #[.int .i64 x] W1 fun e W' =>
      (e = .returned (.bool true) ∧ M (pre ++ [x]) W' ∧ But B n0 W1 W') ∨ (e = .returned (.bool false) ∧ Jx (pre ++ [x]) W')) →
    (∀ (pre : List Int) (x : Nat) (post : List Int) (W1 : World), xs = pre ++ (x : Int) :: post → M (pre ++ [(x : Int)]) W1 → But B n0 w W1 → Calls P gq (#[.int .i64 (x : Int)] ++ lq) W1 fun e W' => e = .returned (.bool (skp x)) ∧ J (pre ++ [(x : Int)]) W' ∧ But B n0 W1 W') →
    J [] W →
    CallsIn F n P g (#[.func (.yield l) #[] #[]] ++ lb) W fun e W' => (∃ v, e = .returned v) ∧ (J xs W' ∨ ∃ pre, pre <+: xs ∧ Jx pre W')

def askPost (C B n0 : Nat) (M : List Int → World → Prop) (xs : List Int) (W : World) : Exit → Act → World → Prop
  | .normal, _, W' => Apart false C W W' ∧ But B n0 W W' ∧ M xs W'
  | _, _, _ => False

/-- a loop over such an iterator, whose body never leaves it -/
theorem range_ask {P : Program} {g : Operand} {ps : Array Tmp} {assign body : Code} {Q : Exit → Act → World → Prop} {a : Act} {w : World}
    {gf : Nat} {lb : Array Value} (hg : a.eval g = .func (.func gf) #[] lb) (eg : ∀ args w, (callFunc gf args).run P w = .ok (.enter gf args) w)
    {B n0 gq : Nat} {lq : Array Value} {skp : Nat → Bool} {xs : List Int} {w0 : World} (hseq : SeqS Fence.wide 8 P gf lb B n0 gq lq skp xs w0) (hb0 : But B n0 w0 w) (hn : n0 ≤ w.heap.size) (hps : ps.size = 1)
    (I M : List Int → World → Prop) (hI : OwnFrom w.heap.size I) (hM : OwnFrom w.heap.size M) (h0 : I [] w) (a1 : Int → Act)
    (hassign : ∀ (l : Nat) (x : Int) (W : World) (K : Act → World → Prop), K (a1 x) W →
      assign.wpIn (Fence.wide.inRound l) 7 P (Exit.then K (fun _ _ _ => False)) { tmps := (ps.zip #[.int .i64 x]).foldl (fun t (p, v) => t.setIfInBounds p v) a.tmps, defers := [] } W)
    (hbody : ∀ (l : Nat) (pre : List Int) (x : Int) (post : List Int) (W : World), xs = pre ++ x :: post → I pre W → body.wpIn (Fence.wide.inRound l) 7 P (askPost w.heap.size B n0 M (pre ++ [x]) W) (a1 x) W)
    (hskip : ∀ (pre : List Int) (x : Nat) (post : List Int) (W : World), xs = pre ++ (x : Int) :: post → M (pre ++ [(x : Int)]) W → But B n0 w0 W → Calls P gq (#[.int .i64 (x : Int)] ++ lq) W fun e W' => e = .returned (.bool (skp x)) ∧ I (pre ++ [(x : Int)]) W' ∧ But B n0 W W' ∧ Apart false w.heap.size W W')
    (hdone : ∀ (D : Nat) (W : World), w.heap.size ≤ D → I xs W → W.heap[D]? = some (.deferred (some [])) → Q .normal { a with defers := { target := .collected D, args := #[] } :: a.defers } W) :
    (Code.rangeFunc g ps assign body).wp P Q a w := by
  refine (wpIn_wide (n := 9)).1 (wpIn_rangeFunc (fun fn hfn => ?_))
  rw [show Fence.wide.round = none from rfl]
  obtain ⟨R, hR⟩ : ∃ R : LoopState → Option Code → Loop, R = fun st pe => { state := st, pending := pe, fn, tmps := a.tmps, params := ps, assign, body, defers := w.heap.size } := ⟨_, rfl⟩
  obtain ⟨V, hV⟩ : ∃ V, (w.alloc (.deferred (some []))).alloc (.loop (R .ready none)) = V := ⟨_, rfl⟩
  have sV : V.heap.size = w.heap.size + 2 := by rw [← hV]; simp
  have gV : w.grownBy V none := by rw [← hV]; exact (World.grownBy_alloc w _ none).andThen (World.grownBy_alloc _ _ none) (fun j e => by cases e)
  have eL : V.heap[w.heap.size + 1]? = some (.loop (R .ready none)) := by
    rw [← hV]; have := World.alloc_heap_new (w.alloc (.deferred (some []))) (.loop (R .ready none)); rwa [World.size_alloc] at this
  have eD : V.heap[w.heap.size]? = some (.deferred (some [])) := by
    rw [← hV]; exact (Below.heap_alloc _ _ _ (by simp)).trans (World.alloc_heap_new w _)
  refine ⟨w.heap.size + 1, [{ target := .collected w.heap.size, args := #[] }], V, { target := .fn (.func gf) lb, args := #[.func (.yield (w.heap.size + 1)) #[] #[]] }, V, gf,
    #[.func (.yield (w.heap.size + 1)) #[] #[]] ++ lb, V, ?_, ?_, ?_, ?_, fun _ => by decide, ?_⟩
  · rw [← hV, hR]; exact run_enterLoop_outer _ _ _ _ _
  · simp only [resolve, hg]
    simp [go_sem]
  · intro f' hf'; trivial
  · simp [invoke, go_sem, eg]
  · have oJ : ∀ {K : List Int → World → Prop}, OwnFrom w.heap.size K → OwnFrom V.heap.size (fun (pre : List Int) W => K pre W ∧ W.heap[w.heap.size + 1]? = some (.loop (R .ready none)) ∧ W.heap[w.heap.size]? = some (.deferred (some []))) := fun hK =>
      OwnFrom.and (OwnFrom.up hK (by omega)) (OwnFrom.and (OwnFrom.blk (by omega)) (OwnFrom.blk (by omega)))
    refine (hseq (w.heap.size + 1) _ _ (fun _ _ => False) V (hb0.trans (But.of_below ((Below.refl n0 w).grown gV hn (fun k e => by cases e)))) (by omega) (oJ hI) (oJ hM) (fun _ _ _ _ h _ _ => h.elim) ?_ ?_ ⟨hI _ _ _ none h0 gV (fun r e => by cases e), eL, eD⟩).mono ?_
    · rintro pre x post W hx ⟨hi, hl, hd⟩
      have hlt : w.heap.size + 1 < W.heap.size := (Array.getElem?_eq_some_iff.1 hl).1
      have hy := run_yield (P := P) (args := #[.int .i64 x]) hl (by rw [hR]; exact hps.symm)
      rw [hR] at hy
      refine ⟨fn, _, assign, body, hy, roundIn_of_wpIn hfn (hassign _ x W _ ?_)⟩
      clear hy
      refine ⟨_, run_beginRound hl (by rw [hR]), ?_⟩
      obtain ⟨U, hU⟩ : ∃ U, W.putObj (w.heap.size + 1) (.loop { R .ready none with state := .busy }) = U := ⟨_, rfl⟩
      have uL : U.heap[w.heap.size + 1]? = some (.loop { R .ready none with state := .busy }) := by rw [← hU]; exact World.putObj_heap_same hlt
      have uD : U.heap[w.heap.size]? = some (.deferred (some [])) := by rw [← hU]; exact (World.putObj_heap_other (by omega)).trans hd
      have bU : Below n0 W U := by rw [← hU]; exact (Below.refl n0 W).grown (grownBy_putObj' W _ _) (by omega) (fun k e => by cases e; omega)
      have iU : I pre U := by rw [← hU]; exact hI.putObj _ hi (by omega) hl rfl
      rw [hU]
      refine wpIn_mono (hbody _ pre x post U hx iU) ?_
      rintro e a3 Z hp
      cases e with
      | normal =>
        obtain ⟨hk, hb, hi3⟩ := hp
        have zL := hk.blk (by omega) uL rfl
        have zD := hk.blk (Nat.le_refl _) uD rfl
        have hzs := (Array.getElem?_eq_some_iff.1 zL).1
        refine ⟨_, _, by have := run_endRound (P := P) none zL; rw [hR] at this; exact this, .inl ⟨rfl, ⟨hM.putObj _ hi3 (by omega) zL rfl, by rw [hR]; exact World.putObj_heap_same hzs, (World.putObj_heap_other (by omega)).trans zD⟩, ?_⟩⟩
        exact ((But.of_below bU).trans hb).trans (But.of_below ((Below.refl n0 Z).grown (grownBy_putObj' Z _ _) (by have := hb.size; have := bU.size; omega) (fun k e => by cases e; omega)))
      | ret => exact hp.elim
      | exit id => exact hp.elim
      | goto t => exact hp.elim
      | panic ch => exact hp.elim
      | outgrown => exact hp.elim
    · rintro pre x post W hx ⟨hm, hl, hd⟩ hb
      refine (hskip pre x post W hx hm hb).mono ?_
      rintro e W' ⟨he, hi, hb', hA⟩
      exact ⟨he, ⟨hi, hA.blk (by omega) hl rfl, hA.blk (Nat.le_refl _) hd rfl⟩, hb'⟩
    · rintro e Z ⟨⟨v, rfl⟩, (⟨hi, hl, hd⟩ | ⟨pre, hpre, hf⟩)⟩
      · exact ⟨none, _, by have := run_endLoop (P := P) hl (by rw [hR]; simp); rw [hR] at this; exact this, hdone _ _ (Nat.le_refl _) (hI.putObj _ hi (by omega) hl rfl) ((World.putObj_heap_other (by omega)).trans hd)⟩
      · exact hf.elim
end Go.Proofs.Ytchcmonhdgndcaa
