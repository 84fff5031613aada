import Derived.Test.YtchcmonhdgndcaaChP
namespace Go.Proofs.Ytchcmonhdgndcaa
open Go.ChangeShapes Go.WideShapes Go.ChangeAt Go.RowKit
set_option linter.unusedVariables false

/-- a loop over an iterator, in the plain walk -/
theorem range_wp {b : Bool} {P : Program} {g : Operand} {ps : Array Tmp} {assign body : Code} {Q : Exit → Act → World → Prop} {a : Act} {w : World}
    {gf : Nat} {lb : Array Value} (hg : a.eval g = .func (.func gf) #[] lb) (eg : ∀ args w, (callFunc gf args).run P w = .ok (.enter gf args) w)
    {n0 : Nat} {xs : List Int} {w0 : World} (hseq : SeqO b Fence.wide 8 P gf lb n0 xs w0) (hb0 : Below n0 w0 w) (hn : n0 ≤ w.heap.size) (hps : ps.size = 1)
    (I : List Int → World → Prop) (Ix : Code → List Int → World → Prop) (hI : OwnFrom w.heap.size I) (hIx : ∀ c, OwnFrom w.heap.size (Ix c)) (h0 : I [] w) (a1 : Int → Act)
    (hassign : ∀ (l : Nat) (x : Int) (W : World) (K : Act → World → Prop), K (a1 x) W →
      assign.wpIn (Fence.wide.inRound l) 7 P (Exit.then K (fun _ _ _ => False)) { tmps := (ps.zip #[.int .i64 x]).foldl (fun t (p, v) => t.setIfInBounds p v) a.tmps, defers := [] } W)
    (hbody : ∀ (l : Nat) (pre : List Int) (x : Int) (post : List Int) (W : World), xs = pre ++ x :: post → w.heap.size ≤ l → (∃ r, W.heap[l]? = some (.loop r)) → I pre W → body.wpIn (Fence.wide.inRound l) 7 P (openPost b w.heap.size n0 I Ix (pre ++ [x]) W) (a1 x) W)
    (hdone : ∀ (D : Nat) (W : World), w.heap.size ≤ D → I xs W → W.heap[D]? = some (.deferred (some [])) → Q .normal { a with defers := { target := .collected D, args := #[] } :: a.defers } W)
    (hstop : ∀ (D : Nat) (c : Code) (pre : List Int) (W : World), w.heap.size ≤ D → pre <+: xs → Ix c pre W → W.heap[D]? = some (.deferred (some [])) → c.wp P Q { a with defers := { target := .collected D, args := #[] } :: a.defers } W) :
    (Code.rangeFunc g ps assign body).wp P Q a w :=
  wpIn_wide.1 (range_open (F := Fence.wide) (n := 9) rfl (by decide) hg trivial eg hseq hb0 hn hps I Ix hI hIx h0 a1 hassign hbody hdone (fun D c pre W h1 h2 h3 h4 => wpIn_wide.2 (hstop D c pre W h1 h2 h3 h4)))

/-- the marks that loops have left -/
def mks (Dl : List Nat) : List Deferred := Dl.map (fun D => { target := .collected D, args := #[] })
/-- each mark's block is there, shut by nobody -/
structure Mk (B : Nat) (W : World) (Dl : List Nat) : Prop where
  nodup : Dl.Nodup
  at_ : ∀ D ∈ Dl, B ≤ D ∧ W.heap[D]? = some (.deferred (some []))
theorem Mk.nil (B : Nat) (W : World) : Mk B W [] := ⟨List.nodup_nil, fun D h => by cases h⟩
theorem Mk.apart {B : Nat} {W W' : World} {Dl : List Nat} (h : Mk B W Dl) (k : Apart false B W W') : Mk B W' Dl :=
  ⟨h.nodup, fun D hD => ⟨(h.at_ D hD).1, k.blk (h.at_ D hD).1 (h.at_ D hD).2 rfl⟩⟩
theorem Mk.below {B : Nat} {W W' : World} {Dl : List Nat} (h : Mk B W Dl) (k : Below W.heap.size W W') : Mk B W' Dl := h.apart (Apart.of_below k)
theorem Mk.lt {B : Nat} {W : World} {Dl : List Nat} (h : Mk B W Dl) {D : Nat} (hD : D ∈ Dl) : D < W.heap.size := (Array.getElem?_eq_some_iff.1 (h.at_ D hD).2).1
theorem Mk.cons {B : Nat} {W W0 : World} {Dl : List Nat} (h : Mk B W Dl) {D : Nat} (hB : B ≤ W0.heap.size) (hl : ∀ E ∈ Dl, E < W0.heap.size) (hD : W0.heap.size ≤ D) (hK : W.heap[D]? = some (.deferred (some []))) : Mk B W (D :: Dl) :=
  ⟨List.nodup_cons.2 ⟨fun hm => by have := hl D hm; omega, h.nodup⟩, fun E hE => by
    rcases List.mem_cons.1 hE with rfl | hE
    · exact ⟨by omega, hK⟩
    · exact h.at_ E hE⟩
theorem Mk.own {B C : Nat} {Dl : List Nat} (hl : ∀ E ∈ Dl, E < C) : OwnFrom C (fun (_ : List Int) W => Mk B W Dl) :=
  fun _ X Y row hs hg hr => ⟨hs.nodup, fun D hD => ⟨(hs.at_ D hD).1, (hg.block D (hs.lt hD) (fun e => by have := (hr D e.symm).1; have := hl D hD; omega)).trans (hs.at_ D hD).2⟩⟩

/-- a function is left through its marks -/
theorem leaves_marks {F : Fence} {n : Nat} {P : Program} {fn : Func} {tmps : Array Value} {R : Ending → World → Prop} {t : Nat} (hres : fn.results = #[.tmp t]) {B : Nat} :
    ∀ (Dl : List Nat) (W : World), B ≤ W.heap.size → Mk B W Dl → (∀ W', Below B W W' → R (.returned (tmps.getD t undef)) W') → LeavesInM F n P fn tmps R (mks Dl) .returning W := by
  intro Dl
  induction Dl with
  | nil =>
    intro W hB h hR
    exact ⟨_, results_tmp hres _ _ _, hR W (Below.refl _ _)⟩
  | cons D Dl ih =>
    intro W hB h hR
    have hD := h.at_ D List.mem_cons_self
    refine ⟨by simp, .inl ⟨_, _, rfl, run_takeDeferred hD.2, ?_⟩⟩
    have hb : Below B W (W.putObj D (.deferred none)) := (Below.refl B W).grown (grownBy_putObj' W D _) hB (fun k e => by cases e; exact hD.1)
    refine ih _ (by simpa using hB) ⟨(List.nodup_cons.1 h.nodup).2, fun E hE => ⟨(h.at_ E (List.mem_cons_of_mem _ hE)).1, (World.putObj_heap_other (k := E) (r := D) (fun e => (List.nodup_cons.1 h.nodup).1 (by rw [← e]; exact hE))).trans (h.at_ E (List.mem_cons_of_mem _ hE)).2⟩⟩ (fun W' h' => hR W' (hb.trans h'))

theorem wkl_len (ns : List Nd) (skp : Nat → Bool) (e : Nat) : ∀ (d k : Nat), e - k ≤ d → (wkl ns skp e k).length ≤ e - k := by
  intro d
  induction d with
  | zero => intro k hd; rw [wkl_end (by omega)]; simp
  | succ d ih =>
    intro k hd
    by_cases hk : k < e
    · cases hs : skp k with
      | false => rw [wkl_one hk hs]; have := ih (k + 1) (by omega); simp; omega
      | true =>
        cases hx : ns[k]? with
        | none => rw [wkl, dif_pos hk, hs, hx]; simp; omega
        | some x =>
          by_cases h1 : 1 ≤ x.s ∧ x.s ≤ (e : Int) - k
          · rw [wkl_skip hk hs hx h1.1 h1.2]; have := ih (k + x.s.toNat) (by omega); simp; omega
          · rw [wkl_bad hk hs hx h1]; simp; omega
    · rw [wkl_end hk]; simp
theorem wk_len (ns : List Nd) (skp : Nat → Bool) (n : Int) : (wk ns skp n).length ≤ ns.length := by
  cases hw : whl ns n with
  | false => rw [wk_no hw]; simp
  | true =>
    obtain ⟨k, z, x, rfl, hx, hxz, hz, hzk⟩ := whl_yes hw
    rw [wk_at hx hxz hw]
    have := wkl_len ns skp (k + z) _ k (Nat.le_refl _)
    omega
theorem eql_fun (g : Fn) (c l : Array Value) (w : World) : Sem.run Try.prog (binOp .eql 46 (.func g c l) .nilFunc) w = .ok (.bool false) w := by rfl
end Go.Proofs.Ytchcmonhdgndcaa
