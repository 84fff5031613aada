import Derived.Test.YtchcmonhdgndcaaWk3
namespace Go.Proofs.Ytchcmonhdgndcaa
open Go.ChangeShapes Go.WideShapes Go.ChangeAt Go.RowKit
set_option linter.unusedVariables false

/-- an iterator whose caller's rounds may write one block that was there before it -/
def SeqB (F : Fence) (n : Nat) (P : Program) (g : Nat) (lb : Array Value) (B n0 : Nat) (xs : List Int) (w : World) : Prop :=
  ∀ (l : Nat) (J Jx : List Int → World → Prop) (W : World), But B n0 w W → n0 ≤ W.heap.size → OwnFrom W.heap.size J → OwnFrom W.heap.size Jx →
    (∀ pre x post W1, xs = pre ++ x :: post → J pre W1 → YieldAt F (n - 1) P l #[.int .i64 x] W1 fun e W' =>
      (e = .returned (.bool true) ∧ J (pre ++ [x]) W' ∧ But B n0 W1 W') ∨ (e = .returned (.bool false) ∧ Jx (pre ++ [x]) W')) →
    J [] W →
    CallsIn F n P g (#[.func (.yield l) #[] #[]] ++ lb) W fun e W' => (∃ v, e = .returned v) ∧ (J xs W' ∨ ∃ pre, pre <+: xs ∧ Jx pre W')
/-- .. whose skip writes nothing -/
theorem seqB_of_seqS {F : Fence} {n : Nat} {P : Program} {g : Nat} {lb : Array Value} {B n0 gq : Nat} {lq : Array Value} {skp : Nat → Bool} {xs : List Int} {w : World} (h : SeqS F n P g lb B n0 gq lq skp xs w)
    (hs : ∀ (x : Nat) (W : World), (x : Int) ∈ xs → But B n0 w W → Calls P gq (#[.int .i64 (x : Int)] ++ lq) W fun e W' => e = .returned (.bool (skp x)) ∧ W' = W) : SeqB F n P g lb B n0 xs w := by
  intro l J Jx W hW hn oJ oX hY h0
  refine h l J J Jx W hW hn oJ oJ oX hY (fun pre x post W1 hx hJ hb => (hs x W1 (by rw [hx]; simp) hb).mono ?_) h0
  rintro e W' ⟨rfl, rfl⟩
  exact ⟨rfl, hJ, But.refl _ _ _⟩

/-- a loop over such an iterator, whose body never leaves it -/
theorem range_but {P : Program} {g : Operand} {ps : Array Tmp} {assign body : Code} {Q : Exit → Act → World → Prop} {a : Act} {w : World}
    {gf : Nat} {lb : Array Value} (hg : a.eval g = .func (.func gf) #[] lb) (eg : ∀ args w, (callFunc gf args).run P w = .ok (.enter gf args) w)
    {B n0 : Nat} {xs : List Int} {w0 : World} (hseq : SeqB Fence.wide 8 P gf lb B n0 xs w0) (hb0 : But B n0 w0 w) (hn : n0 ≤ w.heap.size) (hps : ps.size = 1)
    (I : List Int → World → Prop) (hI : OwnFrom w.heap.size I) (h0 : I [] w) (a1 : Int → Act)
    (hassign : ∀ (l : Nat) (x : Int) (W : World) (K : Act → World → Prop), K (a1 x) W →
      assign.wpIn (Fence.wide.inRound l) 7 P (Exit.then K (fun _ _ _ => False)) { tmps := (ps.zip #[.int .i64 x]).foldl (fun t (p, v) => t.setIfInBounds p v) a.tmps, defers := [] } W)
    (hbody : ∀ (l : Nat) (pre : List Int) (x : Int) (post : List Int) (W : World), xs = pre ++ x :: post → I pre W → body.wpIn (Fence.wide.inRound l) 7 P (askPost w.heap.size B n0 I (pre ++ [x]) W) (a1 x) W)
    (hdone : ∀ (D : Nat) (W : World), w.heap.size ≤ D → I xs W → W.heap[D]? = some (.deferred (some [])) → Q .normal { a with defers := { target := .collected D, args := #[] } :: a.defers } W) :
    (Code.rangeFunc g ps assign body).wp P Q a w := by
  refine (wpIn_wide (n := 9)).1 (wpIn_rangeFunc (fun fn hfn => ?_))
  rw [show Fence.wide.round = none from rfl]
  obtain ⟨R, hR⟩ : ∃ R : LoopState → Option Code → Loop, R = fun st pe => { state := st, pending := pe, fn, tmps := a.tmps, params := ps, assign, body, defers := w.heap.size } := ⟨_, rfl⟩
  obtain ⟨V, hV⟩ : ∃ V, (w.alloc (.deferred (some []))).alloc (.loop (R .ready none)) = V := ⟨_, rfl⟩
  have sV : V.heap.size = w.heap.size + 2 := by rw [← hV]; simp
  have gV : w.grownBy V none := by rw [← hV]; exact (World.grownBy_alloc w _ none).andThen (World.grownBy_alloc _ _ none) (fun j e => by cases e)
  have eL : V.heap[w.heap.size + 1]? = some (.loop (R .ready none)) := by
    rw [← hV]; have := World.alloc_heap_new (w.alloc (.deferred (some []))) (.loop (R .ready none)); rwa [World.size_alloc] at this
  have eD : V.heap[w.heap.size]? = some (.deferred (some [])) := by
    rw [← hV]; exact (Below.heap_alloc _ _ _ (by simp)).trans (World.alloc_heap_new w _)
  refine ⟨w.heap.size + 1, [{ target := .collected w.heap.size, args := #[] }], V, { target := .fn (.func gf) lb, args := #[.func (.yield (w.heap.size + 1)) #[] #[]] }, V, gf,
    #[.func (.yield (w.heap.size + 1)) #[] #[]] ++ lb, V, ?_, ?_, ?_, ?_, fun _ => by decide, ?_⟩
  · rw [← hV, hR]; exact run_enterLoop_outer _ _ _ _ _
  · simp only [resolve, hg]
    simp [go_sem]
  · intro f' hf'; trivial
  · simp [invoke, go_sem, eg]
  · have oJ : ∀ {K : List Int → World → Prop}, OwnFrom w.heap.size K → OwnFrom V.heap.size (fun (pre : List Int) W => K pre W ∧ W.heap[w.heap.size + 1]? = some (.loop (R .ready none)) ∧ W.heap[w.heap.size]? = some (.deferred (some []))) := fun hK =>
      OwnFrom.and (OwnFrom.up hK (by omega)) (OwnFrom.and (OwnFrom.blk (by omega)) (OwnFrom.blk (by omega)))
    refine (hseq (w.heap.size + 1) _ (fun _ _ => False) V (hb0.trans (But.of_below ((Below.refl n0 w).grown gV hn (fun k e => by cases e)))) (by omega) (oJ hI) (fun _ _ _ _ h _ _ => h.elim) ?_ ⟨hI _ _ _ none h0 gV (fun r e => by cases e), eL, eD⟩).mono ?_
    · rintro pre x post W hx ⟨hi, hl, hd⟩
      have hlt : w.heap.size + 1 < W.heap.size := (Array.getElem?_eq_some_iff.1 hl).1
      have hy := run_yield (P := P) (args := #[.int .i64 x]) hl (by rw [hR]; exact hps.symm)
      rw [hR] at hy
      refine ⟨fn, _, assign, body, hy, roundIn_of_wpIn hfn (hassign _ x W _ ?_)⟩
      clear hy
      refine ⟨_, run_beginRound hl (by rw [hR]), ?_⟩
      obtain ⟨U, hU⟩ : ∃ U, W.putObj (w.heap.size + 1) (.loop { R .ready none with state := .busy }) = U := ⟨_, rfl⟩
      have uL : U.heap[w.heap.size + 1]? = some (.loop { R .ready none with state := .busy }) := by rw [← hU]; exact World.putObj_heap_same hlt
      have uD : U.heap[w.heap.size]? = some (.deferred (some [])) := by rw [← hU]; exact (World.putObj_heap_other (by omega)).trans hd
      have bU : Below n0 W U := by rw [← hU]; exact (Below.refl n0 W).grown (grownBy_putObj' W _ _) (by omega) (fun k e => by cases e; omega)
      have iU : I pre U := by rw [← hU]; exact hI.putObj _ hi (by omega) hl rfl
      rw [hU]
      refine wpIn_mono (hbody _ pre x post U hx iU) ?_
      rintro e a3 Z hp
      cases e with
      | normal =>
        obtain ⟨hk, hb, hi3⟩ := hp
        have zL := hk.blk (by omega) uL rfl
        have zD := hk.blk (Nat.le_refl _) uD rfl
        have hzs := (Array.getElem?_eq_some_iff.1 zL).1
        refine ⟨_, _, by have := run_endRound (P := P) none zL; rw [hR] at this; exact this, .inl ⟨rfl, ⟨hI.putObj _ hi3 (by omega) zL rfl, by rw [hR]; exact World.putObj_heap_same hzs, (World.putObj_heap_other (by omega)).trans zD⟩, ?_⟩⟩
        exact ((But.of_below bU).trans hb).trans (But.of_below ((Below.refl n0 Z).grown (grownBy_putObj' Z _ _) (by have := hb.size; have := bU.size; omega) (fun k e => by cases e; omega)))
      | ret => exact hp.elim
      | exit id => exact hp.elim
      | goto t => exact hp.elim
      | panic ch => exact hp.elim
      | outgrown => exact hp.elim
    · rintro e Z ⟨⟨v, rfl⟩, (⟨hi, hl, hd⟩ | ⟨pre, hpre, hf⟩)⟩
      · exact ⟨none, _, by have := run_endLoop (P := P) hl (by rw [hR]; simp); rw [hR] at this; exact this, hdone _ _ (Nat.le_refl _) (hI.putObj _ hi (by omega) hl rfl) ((World.putObj_heap_other (by omega)).trans hd)⟩
      · exact hf.elim

attribute [local go_sem] Oper.semAt_some
set_option maxRecDepth 1000000 in
set_option maxHeartbeats 1000000 in
theorem walk1b_seq (B : Nat) (F : Fence) (hF : F = Fence.wide) (m : Nat) (hm1 : 2 ≤ m) (bt bn bs : Nat) (a : Option Addr) (cap : Nat) (ns : List Nd) (n : Int) (w : World) (hbt : bt < w.heap.size) (hbn : bn < w.heap.size) (hbs : bs < w.heap.size) (nbt : bt ≠ B) (nbn : bn ≠ B) (nbs : bs ≠ B)
    (c1 : w.cell? ⟨bt, 0, none⟩ = some (.slice a ns.length cap)) (c2 : w.cell? ⟨bn, 0, none⟩ = some (.int .i64 n)) (c3 : w.cell? ⟨bs, 0, none⟩ = some .nilFunc) (hab : ns ≠ [] → ∀ b o, a = some ⟨b, o, none⟩ → b ≠ B) (hL : LiesA w a ns) (hl : ns.length * 32 ≤ 140737488351232) (hn0 : -9223372036854775808 ≤ n) (hn1 : n ≤ 9223372036854775807) :
    SeqB F m Try.prog 36 #[.pointer (some ⟨bt, 0, none⟩), .pointer (some ⟨bn, 0, none⟩), .pointer (some ⟨bs, 0, none⟩)] B w.heap.size (wk ns (fun _ => false) n) w := by
  have hfn : ∀ k, F.fn k := by subst hF; intro k; trivial
  have hro : F.round = none := by subst hF; rfl
  have HF : Hid (F = Fence.wide) := hF
  clear hF
  intro l J Jx W hW hnW oJ oX hY h0
  have HLW : Hid (LiesA W a ns) := hL.but hW hab
  have d1 : W.cell? ⟨bt, 0, none⟩ = some (.slice a ns.length cap) := (hW.cell (p := ⟨bt, 0, none⟩) hbt nbt).trans c1
  have d2 : W.cell? ⟨bn, 0, none⟩ = some (.int .i64 n) := (hW.cell (p := ⟨bn, 0, none⟩) hbn nbn).trans c2
  have hf24 : F.fn 37 := hfn _
  refine callsIn_of_wp Try.func36 rfl (hfn _) ?_ hro
  simp only [Try.ntmps36, List.size_toArray, List.length_cons, List.length_nil, Nat.reduceAdd, Nat.reduceSub, Array.replicate_succ, Array.replicate_zero, List.push_toArray, List.append_toArray, List.nil_append, List.cons_append]
  have h1m : 1 ≤ m := by omega
  have hiw := fun k => toIn (F := F) (n := k) HF.out (isWhole_any a cap ns n W HLW.out (by unfold maxLen; omega) hn0 hn1)
  cases hwl : whl ns n with
  | false =>
    have HX : Hid (wk ns (fun _ => false) n = []) := wk_no hwl
    rw [hwl] at hiw
    gi_wp2_with (gi_at_call 37; refine (hiw _).mono ?_; rintro e W2 ⟨rfl, hb2⟩)
    refine bodyPost_ret (results_none rfl _ _ _) rfl ?_
    refine ⟨⟨_, rfl⟩, .inl ?_⟩
    rw [HX.out]
    exact oJ _ _ _ none h0 (grownBy_of_below hb2) (fun r e => by cases e)
  | true =>
    obtain ⟨k, z, x, rfl, hx, hxz, hz, hzk⟩ := whl_yes hwl
    have HWK : Hid (wk ns (fun _ => false) k = wkl ns (fun _ => false) (k + z) k) := wk_at hx hxz hwl
    rw [hwl] at hiw
    gi_wp2_with (gi_at_call 37; refine (hiw _).mono ?_; rintro e W2 ⟨rfl, hb2⟩)
    rcases HLW.out with h0' | ⟨b2, o2, rfl, hL2⟩
    · rw [h0'] at hx; simp at hx
    have d5 := (hL2.nd hb2 hx).2.2.2
    rw [hxz] at d5
    have d1' : W2.cell? ⟨bt, 0, none⟩ = some (.slice (some ⟨b2, o2, none⟩) ns.length cap) := (hb2.cell (p := ⟨bt, 0, none⟩) (by show bt < W.heap.size; omega)).trans d1
    have d2' : W2.cell? ⟨bn, 0, none⟩ = some (.int .i64 (k : Int)) := (hb2.cell (p := ⟨bn, 0, none⟩) (by show bn < W.heap.size; omega)).trans d2
    have hk1 : (k : Int) < (ns.length : Int) := by omega
    have hw1 : IntKind.i64.wrap ((k : Int) + (z : Int)) = (k : Int) + (z : Int) := IntWalk.i64_in _ ⟨by omega, by omega⟩
    have HJ2 : Hid (J [] W2) := oJ _ _ _ none h0 (grownBy_of_below hb2) (fun r e => by cases e)
    have HB2 : Hid (But B w.heap.size w W2) := hW.trans (But.of_below (hb2.mono hnW))
    have HX : Hid (ns[k]? = some x) := hx
    clear hx hiw d1 d2 hb2 hL2
    obtain rfl := HF.out
    gi_quiet (fail)
    clear HF
    gi_wp2
    gi_loopw [6] (fun p wr => ∃ (j : Nat) (pre : List Int), p = .int .i64 (j : Int) ∧ j ≤ k + z ∧ wk ns (fun _ => false) k = pre ++ wkl ns (fun _ => false) (k + z) j ∧ J pre wr ∧ But B w.heap.size w wr) (fun p _ => k + z - (intOf p).toNat)
    case atStart => exact ⟨k, [], rfl, by omega, HWK.out, oJ _ _ _ none HJ2.out (grownBy_of_below (bel_drewN _ _)) (fun r e => by cases e), HB2.out.trans (But.of_below (bel_drewN _ _))⟩
    case round =>
      obtain ⟨j, pre, rfl, hj, hwk, hJ, hB⟩ := hrel
      by_cases hje : j < k + z
      · rw [wkl_one hje rfl] at hwk
        have hje2 : (j : Int) < (k : Int) + (z : Int) := by omega
        have hjs : (1 : Int) ≤ (k : Int) + (z : Int) - (j : Int) := by omega
        obtain ⟨fn, tmps, assign, body, hy, hR⟩ := hY pre j _ wr hwk hJ
        have HWJ : Hid (wk ns (fun _ => false) k = pre ++ (j : Int) :: wkl ns (fun _ => false) (k + z) (j + 1)) := hwk
        clear hwk
        gi_wp2
        refine hR.mono ?_
        rintro e W3 (⟨rfl, hJ3, hk3⟩ | ⟨rfl, hJx3⟩)
        · have hB3 : But B w.heap.size w W3 := hB.trans hk3
          have e3 : W3.cell? ⟨bs, 0, none⟩ = some .nilFunc := (hB3.cell (p := ⟨bs, 0, none⟩) hbs nbs).trans c3
          have hnn := neq_nil
          gi_wp2
          go_roundw
          case rel => exact ⟨j + 1, pre ++ [(j : Int)], by simp, by omega, by rw [HWJ.out]; simp, hJ3, hB3⟩
          case measure => simp [intOf]; omega
        · gi_wp2
          refine bodyPost_ret (results_none rfl _ _ _) rfl ?_
          exact ⟨⟨_, rfl⟩, .inr ⟨pre ++ [(j : Int)], ⟨wkl ns (fun _ => false) (k + z) (j + 1), by rw [HWJ.out]; simp⟩, hJx3⟩⟩
      · rw [wkl_end hje] at hwk
        have HWJ : Hid (wk ns (fun _ => false) k = pre ++ []) := hwk
        have hje2 : ¬ (j : Int) < (k : Int) + (z : Int) := by omega
        clear hwk
        gi_wp2
        go_end0
        exact ⟨⟨_, rfl⟩, .inl (by rw [HWJ.out]; simpa using hJ)⟩
end Go.Proofs.Ytchcmonhdgndcaa
