import Derived.RangeFuncNested
import Derived.RangeFuncBound
import Derived.RangeFuncCalls
import Derived.RangeFuncLeaves
import Derived.WalkKit
import Derived.Test.YtaploloedocgbaaDoorProg
namespace Go.Proofs.YtaploloedocgbaaDoor
open Go Go.RowKit
set_option linter.unusedVariables false

/-- whatever was laid at B and beyond and is no cells lies as it lay; with b: cells too -/
structure Apart (b : Bool) (B : Nat) (W W' : World) : Prop where
  size : W.heap.size ≤ W'.heap.size
  same : ∀ k o, B ≤ k → W.heap[k]? = some o → (b = true ∨ o.isCells = false) → W'.heap[k]? = some o
theorem Apart.refl (b : Bool) (B : Nat) (W : World) : Apart b B W W := ⟨Nat.le_refl _, fun _ _ _ h _ => h⟩
theorem Apart.trans {b : Bool} {B : Nat} {X Y Z : World} (h : Apart b B X Y) (k : Apart b B Y Z) : Apart b B X Z :=
  ⟨Nat.le_trans h.size k.size, fun i o hB hi ho => k.same i o hB (h.same i o hB hi ho) ho⟩
theorem Apart.up {b : Bool} {B B' : Nat} {W W' : World} (h : Apart b B W W') (hB : B ≤ B') : Apart b B' W W' := ⟨h.size, fun k o hk h0 ho => h.same k o (by omega) h0 ho⟩
theorem Apart.of_grownBy {b : Bool} {B : Nat} {W W' : World} {row : Option Nat} (hg : W.grownBy W' row) (hrow : ∀ j, row = some j → j < B) : Apart b B W W' :=
  ⟨hg.size, fun k o hk h0 _ => (hg.block k (Array.getElem?_eq_some_iff.1 h0).1 (fun e => by have := hrow k e.symm; omega)).trans h0⟩
theorem Apart.of_below {b : Bool} {B : Nat} {W W' : World} (h : Below W.heap.size W W') : Apart b B W W' := ⟨h.size, fun k o _ h0 _ => (h.block k (Array.getElem?_eq_some_iff.1 h0).1).trans h0⟩
theorem Apart.of_keeps {B : Nat} {W W' : World} (h : KeepsOthers W W') : Apart false B W W' := ⟨h.size, fun k o _ h0 ho => h.same k o h0 (ho.elim (fun e => by cases e) id)⟩
theorem Apart.less {b : Bool} {B : Nat} {W W' : World} (h : Apart true B W W') : Apart b B W W' := ⟨h.size, fun k o hB h0 _ => h.same k o hB h0 (.inl rfl)⟩
theorem Apart.put {b : Bool} {B l : Nat} (W : World) (o : Obj) (h : l < B) : Apart b B W (W.putObj l o) :=
  Apart.of_grownBy (grownBy_putObj' W l o) (fun j e => by cases e; exact h)
theorem Apart.blk {b : Bool} {B k : Nat} {o : Obj} {W W' : World} (h : Apart b B W W') (hB : B ≤ k) (hk : W.heap[k]? = some o) (ho : o.isCells = false) : W'.heap[k]? = some o :=
  h.same k o hB hk (.inr ho)
theorem Apart.cells {B k : Nat} {W W' : World} (h : Apart true B W W') (hB : B ≤ k) (hk : k < W.heap.size) : W'.heap[k]? = W.heap[k]? := by
  rw [Array.getElem?_eq_getElem hk]; exact h.same k _ hB (Array.getElem?_eq_getElem hk) (.inl rfl)
/-- an iterator over numbers that may itself hold a loop over an iterator: its caller's invariants bear the turn of whatever is no cells and was laid since it began -/
def SeqO (b : Bool) (F : Fence) (n : Nat) (P : Program) (g : Nat) (lb : Array Value) (n0 : Nat) (xs : List Int) (w : World) : Prop :=
  ∀ (l : Nat) (J Jx : List Int → World → Prop) (W : World), Below n0 w W → n0 ≤ W.heap.size → OwnFrom W.heap.size J → OwnFrom W.heap.size Jx →
    (∀ pre x post W1, xs = pre ++ x :: post → J pre W1 → YieldAt F (n - 1) P l #[.int .i64 x] W1 fun e W' =>
      Apart b W.heap.size W1 W' ∧ ((e = .returned (.bool true) ∧ J (pre ++ [x]) W' ∧ Below n0 W1 W') ∨ (e = .returned (.bool false) ∧ Jx (pre ++ [x]) W'))) →
    J [] W →
    CallsIn F n P g (#[.func (.yield l) #[] #[]] ++ lb) W fun e W' => (∃ v, e = .returned v) ∧ (J xs W' ∨ ∃ pre, pre <+: xs ∧ Jx pre W')

theorem OwnFrom.up {β : Type} {B B' : Nat} {I : β → World → Prop} (h : OwnFrom B I) (hB : B ≤ B') : OwnFrom B' I :=
  fun s W W' row hs hg hr => h s W W' row hs hg (fun r e => ⟨by have := (hr r e).1; omega, (hr r e).2⟩)
theorem OwnFrom.blk {β : Type} {B k : Nat} {o : Obj} (h : k < B) : OwnFrom B (fun (_ : β) (W : World) => W.heap[k]? = some o) :=
  fun s W W' row hs hg hr => (hg.block k (Array.getElem?_eq_some_iff.1 hs).1 (fun e => by have := (hr k e.symm).1; omega)).trans hs
theorem yieldAt_any {F : Fence} (hd : F.depth = none) {m : Nat} (m' : Nat) {P : Program} {l : Nat} {args : Array Value} {W : World} {R : Ending → World → Prop} (h : YieldAt F m P l args W R) : YieldAt F m' P l args W R := by
  obtain ⟨fn, tmps, assign, body, hy, hF, hR⟩ := h
  exact ⟨fn, tmps, assign, body, hy, hF, fun c cs hr => hR c cs (by simp [Fence.room, hd])⟩
theorem yieldAt_in {F : Fence} {m : Nat} {P : Program} {l : Nat} {args : Array Value} {W : World} {R : Ending → World → Prop} (k : Nat) (h : YieldAt F m P l args W R) : YieldAt (F.inRound k) m P l args W R := h

/-- how a round's body may be left -/
def openPost (b : Bool) (B n0 : Nat) (I : List Int → World → Prop) (Ix : Code → List Int → World → Prop) (xs : List Int) (W : World) : Exit → Act → World → Prop
  | .normal, _, W' => Apart b B W W' ∧ Below n0 W W' ∧ I xs W'
  | .ret, _, W' => Apart b B W W' ∧ Ix .ret xs W'
  | .exit id, _, W' => Apart b B W W' ∧ Ix (.exit id) xs W'
  | .goto t, _, W' => Apart b B W W' ∧ Ix (.goto t) xs W'
  | .panic _, _, _ => False
  | .outgrown, _, _ => False

section law
variable {b : Bool} {F : Fence} {n : Nat} {P : Program}
/-- a loop over such an iterator -/
theorem range_open {g : Operand} {ps : Array Tmp} {assign body : Code} {Q : Exit → Act → World → Prop} {a : Act} {w : World}
    (hro : F.round = none) (h1 : 1 ≤ n) {gf : Nat} {lb : Array Value} (hg : a.eval g = .func (.func gf) #[] lb) (hFg : F.fn gf) (eg : ∀ args w, (callFunc gf args).run P w = .ok (.enter gf args) w)
    {n0 : Nat} {xs : List Int} {w0 : World} (hseq : SeqO b F (n - 1) P gf lb n0 xs w0) (hb0 : Below n0 w0 w) (hn : n0 ≤ w.heap.size) (hps : ps.size = 1)
    (I : List Int → World → Prop) (Ix : Code → List Int → World → Prop) (hI : OwnFrom w.heap.size I) (hIx : ∀ c, OwnFrom w.heap.size (Ix c)) (h0 : I [] w) (a1 : Int → Act)
    (hassign : ∀ (l : Nat) (x : Int) (W : World) (K : Act → World → Prop), K (a1 x) W →
      assign.wpIn (F.inRound l) (n - 1 - 1) P (Exit.then K (fun _ _ _ => False)) { tmps := (ps.zip #[.int .i64 x]).foldl (fun t (p, v) => t.setIfInBounds p v) a.tmps, defers := [] } W)
    (hbody : ∀ (l : Nat) (pre : List Int) (x : Int) (post : List Int) (W : World), xs = pre ++ x :: post → w.heap.size ≤ l → (∃ r, W.heap[l]? = some (.loop r)) → I pre W → body.wpIn (F.inRound l) (n - 1 - 1) P (openPost b w.heap.size n0 I Ix (pre ++ [x]) W) (a1 x) W)
    (hdone : ∀ (D : Nat) (W : World), w.heap.size ≤ D → I xs W → W.heap[D]? = some (.deferred (some [])) → Q .normal { a with defers := { target := .collected D, args := #[] } :: a.defers } W)
    (hstop : ∀ (D : Nat) (c : Code) (pre : List Int) (W : World), w.heap.size ≤ D → pre <+: xs → Ix c pre W → W.heap[D]? = some (.deferred (some [])) → c.wpIn F n P Q { a with defers := { target := .collected D, args := #[] } :: a.defers } W) :
    (Code.rangeFunc g ps assign body).wpIn F n P Q a w := by
  refine wpIn_rangeFunc (fun fn hfn => ?_)
  rw [hro]
  obtain ⟨R, hR⟩ : ∃ R : LoopState → Option Code → Loop, R = fun st pe => { state := st, pending := pe, fn, tmps := a.tmps, params := ps, assign, body, defers := w.heap.size } := ⟨_, rfl⟩
  obtain ⟨V, hV⟩ : ∃ V, (w.alloc (.deferred (some []))).alloc (.loop (R .ready none)) = V := ⟨_, rfl⟩
  have sV : V.heap.size = w.heap.size + 2 := by rw [← hV]; simp
  have gV : w.grownBy V none := by rw [← hV]; exact (World.grownBy_alloc w _ none).andThen (World.grownBy_alloc _ _ none) (fun j e => by cases e)
  have eL : V.heap[w.heap.size + 1]? = some (.loop (R .ready none)) := by
    rw [← hV]; have := World.alloc_heap_new (w.alloc (.deferred (some []))) (.loop (R .ready none)); rwa [World.size_alloc] at this
  have eD : V.heap[w.heap.size]? = some (.deferred (some [])) := by
    rw [← hV]; exact (Below.heap_alloc _ _ _ (by simp)).trans (World.alloc_heap_new w _)
  refine ⟨w.heap.size + 1, [{ target := .collected w.heap.size, args := #[] }], V, { target := .fn (.func gf) lb, args := #[.func (.yield (w.heap.size + 1)) #[] #[]] }, V, gf,
    #[.func (.yield (w.heap.size + 1)) #[] #[]] ++ lb, V, ?_, ?_, ?_, ?_, fun _ => h1, ?_⟩
  · rw [← hV, hR]; exact run_enterLoop_outer _ _ _ _ _
  · simp only [resolve, hg]
    simp [go_sem]
  · intro f' hf'; simp [Target.leads] at hf'; subst hf'; exact hFg
  · simp [invoke, go_sem, eg]
  · have oJ : OwnFrom V.heap.size (fun (pre : List Int) W => I pre W ∧ W.heap[w.heap.size + 1]? = some (.loop (R .ready none)) ∧ W.heap[w.heap.size]? = some (.deferred (some []))) :=
      OwnFrom.and (OwnFrom.up hI (by omega)) (OwnFrom.and (OwnFrom.blk (by omega)) (OwnFrom.blk (by omega)))
    have oX : OwnFrom V.heap.size (fun (pre : List Int) W => ∃ c, Ix c pre W ∧ W.heap[w.heap.size + 1]? = some (.loop (R .done (some c))) ∧ W.heap[w.heap.size]? = some (.deferred (some []))) := by
      rintro s X Y row ⟨c, h⟩ hg hr
      exact ⟨c, OwnFrom.and (OwnFrom.up (hIx c) (by omega)) (OwnFrom.and (OwnFrom.blk (by omega)) (OwnFrom.blk (by omega))) s X Y row h hg hr⟩
    refine (hseq (w.heap.size + 1) _ _ V (hb0.trans ((Below.refl n0 w).grown gV hn (fun k e => by cases e))) (by omega) oJ oX ?_ ⟨hI _ _ _ none h0 gV (fun r e => by cases e), eL, eD⟩).mono ?_
    · rintro pre x post W hx ⟨hi, hl, hd⟩
      have hlt : w.heap.size + 1 < W.heap.size := (Array.getElem?_eq_some_iff.1 hl).1
      have hy := run_yield (P := P) (args := #[.int .i64 x]) hl (by rw [hR]; exact hps.symm)
      rw [hR] at hy
      refine ⟨fn, _, assign, body, hy, roundIn_of_wpIn hfn (hassign _ x W _ ?_)⟩
      clear hy
      refine ⟨_, run_beginRound hl (by rw [hR]), ?_⟩
      obtain ⟨U, hU⟩ : ∃ U, W.putObj (w.heap.size + 1) (.loop { R .ready none with state := .busy }) = U := ⟨_, rfl⟩
      have uL : U.heap[w.heap.size + 1]? = some (.loop { R .ready none with state := .busy }) := by rw [← hU]; exact World.putObj_heap_same hlt
      have uD : U.heap[w.heap.size]? = some (.deferred (some [])) := by rw [← hU]; exact (World.putObj_heap_other (by omega)).trans hd
      have kU : Apart b V.heap.size W U := by rw [← hU]; exact Apart.put W _ (by omega)
      have bU : Below n0 W U := by rw [← hU]; exact (Below.refl n0 W).grown (grownBy_putObj' W _ _) (by omega) (fun k e => by cases e; omega)
      have iU : I pre U := by rw [← hU]; exact hI.putObj _ hi (by omega) hl rfl
      rw [hU]
      refine wpIn_mono (hbody _ pre x post U hx (by omega) ⟨_, uL⟩ iU) ?_
      have fin : ∀ (j : Option Code) (Z : World), Apart b w.heap.size U Z → ∃ Z', (Instr.endRound (w.heap.size + 1) j).run P Z = .ok (.bool j.isNone) Z' ∧
          Z' = Z.putObj (w.heap.size + 1) (.loop (R (if j.isNone then .ready else .done) j)) ∧ Z'.heap[w.heap.size + 1]? = some (.loop (R (if j.isNone then .ready else .done) j)) ∧
          Z'.heap[w.heap.size]? = some (.deferred (some [])) ∧ Apart b V.heap.size W Z' ∧ (∃ o : Obj, Z.heap[w.heap.size + 1]? = some o ∧ o.isCells = false) := fun j Z hk => by
        have zL := hk.blk (by omega) uL rfl
        have zD := hk.blk (Nat.le_refl _) uD rfl
        refine ⟨_, by have := run_endRound (P := P) j zL; rw [hR] at this ⊢; exact this, rfl, World.putObj_heap_same (Array.getElem?_eq_some_iff.1 zL).1, (World.putObj_heap_other (by omega)).trans zD, (kU.trans (hk.up (by omega))).trans (Apart.put Z _ (by omega)), _, zL, rfl⟩
      rintro e a3 Z hp
      cases e with
      | normal =>
        obtain ⟨hk, hb, hi3⟩ := hp
        obtain ⟨Z', hr, e1, hl3, hd3, hk3, o, ho, hoc⟩ := fin none Z hk
        refine ⟨_, _, hr, hk3, .inl ⟨rfl, ⟨?_, hl3, hd3⟩, ?_⟩⟩
        · rw [e1]; exact hI.putObj _ hi3 (by omega) ho hoc
        · rw [e1]; exact (bU.trans hb).grown (grownBy_putObj' Z _ _) (by have := (bU.trans hb).size; omega) (fun k e => by cases e; omega)
      | ret =>
        obtain ⟨hk, hi3⟩ := hp
        obtain ⟨Z', hr, e1, hl3, hd3, hk3, o, ho, hoc⟩ := fin (some .ret) Z hk
        exact ⟨_, _, hr, hk3, .inr ⟨rfl, .ret, by rw [e1]; exact (hIx _).putObj _ hi3 (by omega) ho hoc, hl3, hd3⟩⟩
      | exit id =>
        obtain ⟨hk, hi3⟩ := hp
        obtain ⟨Z', hr, e1, hl3, hd3, hk3, o, ho, hoc⟩ := fin (some (.exit id)) Z hk
        exact ⟨_, _, hr, hk3, .inr ⟨rfl, .exit id, by rw [e1]; exact (hIx _).putObj _ hi3 (by omega) ho hoc, hl3, hd3⟩⟩
      | goto t =>
        obtain ⟨hk, hi3⟩ := hp
        obtain ⟨Z', hr, e1, hl3, hd3, hk3, o, ho, hoc⟩ := fin (some (.goto t)) Z hk
        exact ⟨_, _, hr, hk3, .inr ⟨rfl, .goto t, by rw [e1]; exact (hIx _).putObj _ hi3 (by omega) ho hoc, hl3, hd3⟩⟩
      | panic ch => exact hp.elim
      | outgrown => exact hp.elim
    · rintro e Z ⟨⟨v, rfl⟩, (⟨hi, hl, hd⟩ | ⟨pre, hpre, c, hi, hl, hd⟩)⟩
      · exact ⟨none, _, by have := run_endLoop (P := P) hl (by rw [hR]; simp); rw [hR] at this; exact this, hdone _ _ (Nat.le_refl _) (hI.putObj _ hi (by omega) hl rfl) ((World.putObj_heap_other (by omega)).trans hd)⟩
      · exact ⟨some c, _, by have := run_endLoop (P := P) hl (by rw [hR]; simp); rw [hR] at this; exact this, hstop _ c pre _ (Nat.le_refl _) hpre ((hIx c).putObj _ hi (by omega) hl rfl) ((World.putObj_heap_other (by omega)).trans hd)⟩
end law
/-- the kit's own contract is one of these -/
theorem seqO_of {b : Bool} {F : Fence} {n : Nat} {P : Program} {g : Nat} {lb : Array Value} {n0 : Nat} {xs : List Int} {w : World}
    (h : ∀ (l : Nat) (J Jx : List Int → World → Prop) (W : World), Below n0 w W → n0 ≤ W.heap.size → OwnFrom W.heap.size J → OwnFrom W.heap.size Jx →
      (∀ pre x post W1, xs = pre ++ x :: post → J pre W1 → YieldAt F (n - 1) P l #[.int .i64 x] W1 fun e W' =>
        (e = .returned (.bool true) ∧ J (pre ++ [x]) W' ∧ Below n0 W1 W') ∨ (e = .returned (.bool false) ∧ Jx (pre ++ [x]) W')) →
      J [] W → CallsIn F n P g (#[.func (.yield l) #[] #[]] ++ lb) W fun e W' => (∃ v, e = .returned v) ∧ (J xs W' ∨ ∃ pre, pre <+: xs ∧ Jx pre W')) :
    SeqO b F n P g lb n0 xs w := fun l J Jx W hW hn oJ oX hY h0 => h l J Jx W hW hn oJ oX (fun pre x post W1 hx hj => (hY pre x post W1 hx hj).mono (fun e w' hr => hr.2)) h0
end Go.Proofs.YtaploloedocgbaaDoor
