import Derived.Test.YtdalnofiiomgoaaWl
namespace Go.Proofs.Ytdalnofiiomgoaa
open Go.ChangeShapes Go.WideShapes Go.ChangeAt Go.RowKit
set_option linter.unusedVariables false

theorem apart_own {b : Bool} {B B' : Nat} {W0 : World} (hB : W0.heap.size ≤ B') : OwnFrom B' (fun (_ : List Int) W => Apart b B W0 W) :=
  fun _ X Y row hs hg hr => ⟨Nat.le_trans hs.size hg.size, fun k o hk h0 ho => by
    have hX := hs.same k o hk h0 ho
    refine (hg.block k (Array.getElem?_eq_some_iff.1 hX).1 (fun e => ?_)).trans hX
    have h1 := (hr k e.symm).1
    have h2 := (Array.getElem?_eq_some_iff.1 h0).1
    omega⟩

section law
variable {b : Bool} {F : Fence} {n : Nat} {P : Program}
/-- a loop over an iterator, in the round of another loop -/
theorem range_in {g : Operand} {ps : Array Tmp} {assign body : Code} {Q : Exit → Act → World → Prop} {a : Act} {w : World}
    {l0 : Nat} {r0 : Loop} (hro : F.round = some l0) (hl0 : w.heap[l0]? = some (.loop r0)) (h1 : 1 ≤ n) {gf : Nat} {lb : Array Value} (hg : a.eval g = .func (.func gf) #[] lb) (hFg : F.fn gf) (eg : ∀ args w, (callFunc gf args).run P w = .ok (.enter gf args) w)
    {n0 : Nat} {xs : List Int} {w0 : World} (hseq : SeqO b F (n - 1) P gf lb n0 xs w0) (hb0 : Below n0 w0 w) (hn : n0 ≤ w.heap.size) (hps : ps.size = 1)
    (I : List Int → World → Prop) (Ix : Code → List Int → World → Prop) (hI : OwnFrom w.heap.size I) (hIx : ∀ c, OwnFrom w.heap.size (Ix c)) (h0 : I [] w) (a1 : Int → Act)
    (hassign : ∀ (l : Nat) (x : Int) (W : World) (K : Act → World → Prop), K (a1 x) W →
      assign.wpIn (F.inRound l) (n - 1 - 1) P (Exit.then K (fun _ _ _ => False)) { tmps := (ps.zip #[.int .i64 x]).foldl (fun t (p, v) => t.setIfInBounds p v) a.tmps, defers := [] } W)
    (hbody : ∀ (l : Nat) (pre : List Int) (x : Int) (post : List Int) (W : World), xs = pre ++ x :: post → w.heap.size ≤ l → (∃ r, W.heap[l]? = some (.loop r)) → I pre W → body.wpIn (F.inRound l) (n - 1 - 1) P (openPost b w.heap.size n0 I Ix (pre ++ [x]) W) (a1 x) W)
    (hdone : ∀ (W : World), I xs W → Q .normal a W)
    (hstop : ∀ (c : Code) (pre : List Int) (W : World), pre <+: xs → Ix c pre W → c.wpIn F n P Q a W) :
    (Code.rangeFunc g ps assign body).wpIn F n P Q a w := by
  refine wpIn_rangeFunc (fun fn hfn => ?_)
  rw [hro]
  obtain ⟨R, hR⟩ : ∃ R : LoopState → Option Code → Loop, R = fun st pe => { state := st, pending := pe, fn, tmps := a.tmps, params := ps, assign, body, defers := r0.defers } := ⟨_, rfl⟩
  obtain ⟨V, hV⟩ : ∃ V, w.alloc (.loop (R .ready none)) = V := ⟨_, rfl⟩
  have sV : V.heap.size = w.heap.size + 1 := by rw [← hV]; simp
  have gV : w.grownBy V none := by rw [← hV]; exact World.grownBy_alloc w _ none
  have eL : V.heap[w.heap.size]? = some (.loop (R .ready none)) := by rw [← hV]; exact World.alloc_heap_new w _
  refine ⟨w.heap.size, [], V, { target := .fn (.func gf) lb, args := #[.func (.yield w.heap.size) #[] #[]] }, V, gf,
    #[.func (.yield w.heap.size) #[] #[]] ++ lb, V, ?_, ?_, ?_, ?_, fun _ => h1, ?_⟩
  · rw [← hV, hR]; exact run_enterLoop_inner hl0 _ _ _ _ _
  · simp only [resolve, hg]
    simp [go_sem]
  · intro f' hf'; simp [Target.leads] at hf'; subst hf'; exact hFg
  · simp [invoke, go_sem, eg]
  · have oJ : OwnFrom V.heap.size (fun (pre : List Int) W => I pre W ∧ W.heap[w.heap.size]? = some (.loop (R .ready none))) :=
      OwnFrom.and (OwnFrom.up hI (by omega)) (OwnFrom.blk (by omega))
    have oX : OwnFrom V.heap.size (fun (pre : List Int) W => ∃ c, Ix c pre W ∧ W.heap[w.heap.size]? = some (.loop (R .done (some c)))) := by
      rintro s X Y row ⟨c, h⟩ hg hr
      exact ⟨c, OwnFrom.and (OwnFrom.up (hIx c) (by omega)) (OwnFrom.blk (by omega)) s X Y row h hg hr⟩
    refine (hseq w.heap.size _ _ V (hb0.trans ((Below.refl n0 w).grown gV hn (fun k e => by cases e))) (by omega) oJ oX ?_ ⟨hI _ _ _ none h0 gV (fun r e => by cases e), eL⟩).mono ?_
    · rintro pre x post W hx ⟨hi, hl⟩
      have hlt : w.heap.size < W.heap.size := (Array.getElem?_eq_some_iff.1 hl).1
      have hy := run_yield (P := P) (args := #[.int .i64 x]) hl (by rw [hR]; exact hps.symm)
      rw [hR] at hy
      refine ⟨fn, _, assign, body, hy, roundIn_of_wpIn hfn (hassign _ x W _ ?_)⟩
      clear hy
      refine ⟨_, run_beginRound hl (by rw [hR]), ?_⟩
      obtain ⟨U, hU⟩ : ∃ U, W.putObj w.heap.size (.loop { R .ready none with state := .busy }) = U := ⟨_, rfl⟩
      have uL : U.heap[w.heap.size]? = some (.loop { R .ready none with state := .busy }) := by rw [← hU]; exact World.putObj_heap_same hlt
      have kU : Apart b V.heap.size W U := by rw [← hU]; exact Apart.put W _ (by omega)
      have bU : Below n0 W U := by rw [← hU]; exact (Below.refl n0 W).grown (grownBy_putObj' W _ _) (by omega) (fun k e => by cases e; omega)
      have iU : I pre U := by rw [← hU]; exact hI.putObj _ hi (by omega) hl rfl
      rw [hU]
      refine wpIn_mono (hbody _ pre x post U hx (Nat.le_refl _) ⟨_, uL⟩ iU) ?_
      have fin : ∀ (j : Option Code) (Z : World), Apart b w.heap.size U Z → ∃ Z', (Instr.endRound w.heap.size j).run P Z = .ok (.bool j.isNone) Z' ∧
          Z' = Z.putObj w.heap.size (.loop (R (if j.isNone then .ready else .done) j)) ∧ Z'.heap[w.heap.size]? = some (.loop (R (if j.isNone then .ready else .done) j)) ∧
          Apart b V.heap.size W Z' ∧ (∃ o : Obj, Z.heap[w.heap.size]? = some o ∧ o.isCells = false) := fun j Z hk => by
        have zL := hk.blk (Nat.le_refl _) uL rfl
        refine ⟨_, by have := run_endRound (P := P) j zL; rw [hR] at this ⊢; exact this, rfl, World.putObj_heap_same (Array.getElem?_eq_some_iff.1 zL).1, (kU.trans (hk.up (by omega))).trans (Apart.put Z _ (by omega)), _, zL, rfl⟩
      rintro e a3 Z hp
      cases e with
      | normal =>
        obtain ⟨hk, hb, hi3⟩ := hp
        obtain ⟨Z', hr, e1, hl3, hk3, o, ho, hoc⟩ := fin none Z hk
        refine ⟨_, _, hr, hk3, .inl ⟨rfl, ⟨?_, hl3⟩, ?_⟩⟩
        · rw [e1]; exact hI.putObj _ hi3 (Nat.le_refl _) ho hoc
        · rw [e1]; exact (bU.trans hb).grown (grownBy_putObj' Z _ _) (by have := (bU.trans hb).size; omega) (fun k e => by cases e; omega)
      | ret =>
        obtain ⟨hk, hi3⟩ := hp
        obtain ⟨Z', hr, e1, hl3, hk3, o, ho, hoc⟩ := fin (some .ret) Z hk
        exact ⟨_, _, hr, hk3, .inr ⟨rfl, .ret, by rw [e1]; exact (hIx _).putObj _ hi3 (Nat.le_refl _) ho hoc, hl3⟩⟩
      | exit id =>
        obtain ⟨hk, hi3⟩ := hp
        obtain ⟨Z', hr, e1, hl3, hk3, o, ho, hoc⟩ := fin (some (.exit id)) Z hk
        exact ⟨_, _, hr, hk3, .inr ⟨rfl, .exit id, by rw [e1]; exact (hIx _).putObj _ hi3 (Nat.le_refl _) ho hoc, hl3⟩⟩
      | goto t =>
        obtain ⟨hk, hi3⟩ := hp
        obtain ⟨Z', hr, e1, hl3, hk3, o, ho, hoc⟩ := fin (some (.goto t)) Z hk
        exact ⟨_, _, hr, hk3, .inr ⟨rfl, .goto t, by rw [e1]; exact (hIx _).putObj _ hi3 (Nat.le_refl _) ho hoc, hl3⟩⟩
      | panic ch => exact hp.elim
      | outgrown => exact hp.elim
    · rintro e Z ⟨⟨v, rfl⟩, (⟨hi, hl⟩ | ⟨pre, hpre, c, hi, hl⟩)⟩
      · exact ⟨none, _, by have := run_endLoop (P := P) hl (by rw [hR]; simp); rw [hR] at this; exact this, hdone _ (hI.putObj _ hi (Nat.le_refl _) hl rfl)⟩
      · exact ⟨some c, _, by have := run_endLoop (P := P) hl (by rw [hR]; simp); rw [hR] at this; exact this, hstop c pre _ hpre ((hIx c).putObj _ hi (Nat.le_refl _) hl rfl)⟩
theorem SeqO.inRound {g : Nat} {lb : Array Value} {n0 : Nat} {xs : List Int} {w : World} (l : Nat) (h : SeqO b F n P g lb n0 xs w) : SeqO b (F.inRound l) n P g lb n0 xs w := h
end law

/-- the nodes with another Size where it is told -/
def stp (ns : List Nd) : List Nd := ns.mapIdx (fun i x => if i % 5 = 3 then { x with s := 1 } else x)
/-- .. of the first k alone -/
def stk (ns : List Nd) (k : Nat) : List Nd := (stp ns).take k ++ ns.drop k
theorem stp_len (ns : List Nd) : (stp ns).length = ns.length := by unfold stp; simp
theorem stp_get {ns : List Nd} {k : Nat} {x : Nd} (hx : ns[k]? = some x) : (stp ns)[k]? = some (if k % 5 = 3 then { x with s := 1 } else x) := by
  unfold stp; rw [List.getElem?_mapIdx, hx]; rfl
theorem stk_len {ns : List Nd} {k : Nat} (hk : k ≤ ns.length) : (stk ns k).length = ns.length := by
  unfold stk; rw [List.length_append, List.length_take, List.length_drop, stp_len]; omega
theorem stk_zero (ns : List Nd) : stk ns 0 = ns := by unfold stk; simp
theorem stk_end (ns : List Nd) : stk ns ns.length = stp ns := by
  unfold stk; rw [List.drop_length, List.append_nil, List.take_of_length_le (by rw [stp_len]; omega)]
theorem stk_at {ns : List Nd} {k : Nat} {x : Nd} (hx : ns[k]? = some x) : (stk ns k)[k]? = some x := by
  have hk : k < ns.length := (List.getElem?_eq_some_iff.1 hx).1
  unfold stk
  rw [List.getElem?_append_right (by rw [List.length_take, stp_len]; omega), List.length_take, stp_len, List.getElem?_drop, show k + (k - min k ns.length) = k by omega, hx]
theorem stk_step {ns : List Nd} {k : Nat} {x : Nd} (hx : ns[k]? = some x) : stk ns (k + 1) = (stk ns k).set k (if k % 5 = 3 then { x with s := 1 } else x) := by
  have hk : k < ns.length := (List.getElem?_eq_some_iff.1 hx).1
  unfold stk
  rw [List.take_add_one, stp_get hx, List.set_append_right _ _ (by rw [List.length_take, stp_len]; omega), List.length_take, stp_len, show k - min k ns.length = 0 by omega]
  simp only [Option.toList_some, List.append_assoc, List.singleton_append, List.append_cancel_left_eq]
  rw [List.drop_eq_getElem_cons hk, List.set_cons_zero]
theorem stk_same {ns : List Nd} {k : Nat} {x : Nd} (hx : ns[k]? = some x) (h : ¬ k % 5 = 3) : stk ns (k + 1) = stk ns k := by
  rw [stk_step hx, if_neg h]
  exact List.ext_getElem? (fun j => by
    rw [List.getElem?_set]
    by_cases e : k = j
    · subst e; rw [if_pos rfl, stk_at hx, if_pos (List.getElem?_eq_some_iff.1 (stk_at hx)).1]
    · rw [if_neg e])
/-- a Size stored into a row of nodes -/
theorem Lies.setS {w : World} {b o : Nat} {xs : List Nd} (h : Lies w b o xs) {k : Nat} {x : Nd} (hx : xs[k]? = some x) (v : Int) : Lies (w.setCell ⟨b, o + k * 4 + 3, none⟩ (.int .i64 v)) b o (xs.set k { x with s := v }) := by
  have hk : k < xs.length := (List.getElem?_eq_some_iff.1 hx).1
  refine ⟨by simpa using h.1, fun j u hu => ?_⟩
  have hj : j = j / 4 * 4 + j % 4 := by omega
  have hr : j % 4 < Rw.k Nd := Nat.mod_lt _ (by decide)
  have hg := flat_get (xs.set k { x with s := v }) (j / 4) (j % 4) hr
  have hg2 := flat_get xs (j / 4) (j % 4) hr
  rw [show j / 4 * Rw.k Nd + j % 4 = j from hj.symm] at hg hg2
  rw [hg] at hu
  have hne : j ≠ k * 4 + 3 → (w.setCell ⟨b, o + k * 4 + 3, none⟩ (.int .i64 v)).cell? ⟨b, o + j, none⟩ = w.cell? ⟨b, o + j, none⟩ := fun hh =>
    World.cell?_setCell_other _ _ _ _ (by intro e; simp only [Addr.mk.injEq] at e; omega)
  by_cases e : j / 4 = k
  · rw [e, List.getElem?_set_self hk] at hu
    rw [e, hx] at hg2
    by_cases e2 : j % 4 = 3
    · rw [e2] at hu hg2
      have hu' : u = .int .i64 v := by simpa [Rw.cs] using hu.symm
      have hold := h.2 j (.int .i64 x.s) (by rw [hg2]; rfl)
      have ej : j = k * 4 + 3 := by omega
      rw [hu', show o + j = o + k * 4 + 3 by omega]
      rw [show o + j = o + k * 4 + 3 by omega] at hold
      exact World.cell?_setCell_same' _ _ _ (by rw [hold]; rfl)
    · rw [hne (by omega)]
      refine h.2 j u ?_
      rw [hg2, ← hu]
      have h4 : j % 4 = 0 ∨ j % 4 = 1 ∨ j % 4 = 2 := by omega
      rcases h4 with h4 | h4 | h4 <;> rw [h4] <;> rfl
  · rw [List.getElem?_set_ne (Ne.symm e)] at hu
    rw [hne (by omega)]
    exact h.2 j u (by rw [hg2, hu])
end Go.Proofs.Ytdalnofiiomgoaa
