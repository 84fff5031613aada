import Derived.Test.YtmnbakalcpanlaaGreatDoorLmt
import Derived.Test.YtmnbakalcpanlaaGreatDoorTm5
namespace Go.Proofs.YtmnbakalcpanlaaGreatDoor
open Go.ChangeShapes Go.WideShapes Go.ChangeAt Go.RowKit Go.Maps Go.WideMaps
set_option linter.unusedVariables false
set_option linter.unusedSimpArgs false

/-- what lay below a world lies there still, but for one block -/
def Frm (w : World) (b : Nat) (v v' : World) : Prop := v.heap.size ≤ v'.heap.size ∧ ∀ k, k < w.heap.size → k < v.heap.size → k ≠ b → v'.heap[k]? = v.heap[k]?
theorem frame_put3 {w v : World} {b : Nat} {v0 v1 v2 : Value} : Frm w b v (((v.setCell ⟨w.heap.size, 0, none⟩ v0).setCell ⟨w.heap.size, 1, none⟩ v1).setCell ⟨w.heap.size, 2, none⟩ v2) := by
  have h := bel_put3 (v0 := v0) (v1 := v1) (v2 := v2) (Below.refl w.heap.size v) (Nat.le_refl _)
  exact ⟨by simp, fun k h1 h2 h3 => h.block k h1⟩
theorem frame_bel {w v v' : World} {b : Nat} (h : Below w.heap.size v v') (hs : v.heap.size ≤ v'.heap.size) : Frm w b v v' := ⟨hs, fun k h1 _ _ => h.block k h1⟩
theorem frame_below {w v v' : World} {b : Nat} (h : Below v.heap.size v v') : Frm w b v v' := ⟨h.size, fun k _ h2 _ => h.block k h2⟩
theorem frame_grown {w v v' : World} {b : Nat} (h : v.grownBy v' (some b)) : Frm w b v v' := ⟨h.size, fun k _ h2 h3 => h.block k h2 (by simp; omega)⟩
theorem Frm.trans {w a c d : World} {b : Nat} (h : Frm w b a c) (k : Frm w b c d) : Frm w b a d := ⟨Nat.le_trans h.1 k.1, fun i h1 h2 h3 => (k.2 i h1 (Nat.lt_of_lt_of_le h2 h.1) h3).trans (h.2 i h1 h2 h3)⟩
/-- what is asked of a place from which on all is known: it writes one block -/
structure Kn (w0 w : World) (b M R : Nat) (s : ByteArray) (K : Nat → Bool) (J T : Nat → World → Prop) (Mv E : Nat) : Prop where
  r0 : w0.heap.size ≤ R
  rw : R < w.heap.size
  rb : R ≠ b
  rm : R ≠ M
  box : ∀ p v, J p v → ∃ us, Bx v R us 23
  stab : ∀ p v v', J p v → Frm w b v v' → J p v'
  stabT : ∀ p v v', T p v → Frm w b v v' → T p v'
  mono : ∀ p t v, J p v → p ≤ t → J t v
  call : ∀ p v, J p v → Below w0.heap.size w0 v → p < s.size → Calls Tryz.prog 46 #[.int .i64 (p : Int), .pointer (some ⟨Mv, 0, none⟩), .pointer (some ⟨E, 0, none⟩), .pointer (some ⟨R, 0, none⟩)] v fun e v' => e = .returned (.bool (K p)) ∧ v.grownBy v' (some R) ∧ J p v' ∧ (K p = true → T p v')
/-- a scanner stands while a box of another kind is written -/
theorem Sg.box {v v' : World} {b M R : Nat} {s : ByteArray} {us : Array Value} (h : Sg v b M s) (ho : Bx v R us 23) (hg : v.grownBy v' (some R)) : Sg v' b M s := by
  have keep : ∀ {k : Nat} {us : Array Value} {t : TypeId}, Bx v k us t → 23 ≠ t → Bx v' k us t := fun {k us t} Y hne => by
    refine (hg.block k Y.lt (fun e => ?_)).trans Y
    have e' : k = R := Option.some.inj e
    subst e'
    have hY : v.heap[k]? = some (Obj.cells us t (0, 0)) := Y
    rw [show v.heap[k]? = _ from ho] at hY
    cases hY
    exact hne rfl
  obtain ⟨d, mk, h1, h2, h3⟩ := h
  refine ⟨d, mk, keep h1 (by decide), keep h2 (by decide), ?_⟩
  rcases h3 with h3 | ⟨e1, B', A, V, e2, e3, e4⟩
  · exact .inl h3
  · refine .inr ⟨e1, B', A, V, e2, ⟨fun i t hi => ⟨(e3.box i t hi).1, keep (e3.box i t hi).2 (by decide)⟩, fun j t hj => ?_, e3.one, e3.apart, e3.kid, e3.lim⟩, e4⟩
    refine (e3.row j t hj).kept hg ?_
    cases hO : (V j).ownBlock with
    | none => exact .inl rfl
    | some g =>
      refine .inr (fun e => ?_)
      cases e
      obtain ⟨c, fz, hh⟩ := row_kindR (e3.row j t hj) _ hO
      rw [show v.heap[R]? = _ from ho] at hh
      cases hh
theorem In.box {w0 v v' : World} {b M R : Nat} {s : ByteArray} {us : Array Value} (h : In w0 b M s v) (hB : w0.heap.size ≤ R) (hm : R ≠ M) (ho : Bx v R us 23) (hg : v.grownBy v' (some R)) : In w0 b M s v' := by
  refine ⟨h.bel.grown hg h.bel.size (fun j hj => by cases hj; exact hB), h.sg.box ho hg, ?_⟩
  obtain ⟨es, clock, h1, h2, h3, h4⟩ := h.map
  exact ⟨es, clock, (hg.block M (ownsMap_lt h.map) (fun e => hm (by cases e; rfl))).trans h1, h2, h3, h4⟩
/-- where pieces works, beside what is known -/
structure Pw4 (w0 w w2 : World) (b M R F : Nat) (s : ByteArray) (J : World → Prop) (so : Value) (acc : List Tk) (v : World) : Prop where
  pw : Pw3 w0 w2 b M F s so acc v
  j : J v
section
variable {w0 w w2 v v' : World} {b M R F p : Nat} {s : ByteArray} {K : Nat → Bool} {J T : Nat → World → Prop} {Mv E : Nat} {so : Value} {acc : List Tk}
theorem Pw4.below (h : Pw4 w0 w w2 b M R F s (J p) so acc v) (k : Kn w0 w b M R s K J T Mv E) (hb : Below v.heap.size v v') : Pw4 w0 w w2 b M R F s (J p) so acc v' :=
  ⟨h.pw.below hb, k.stab _ _ _ h.j (frame_below hb)⟩
theorem Pw4.grown (h : Pw4 w0 w w2 b M R F s (J p) so acc v) (k : Kn w0 w b M R s K J T Mv E) (hb2 : b < w2.heap.size) (hF : F ≠ b) (hg : v.grownBy v' (some b)) (hi : In w0 b M s v') : Pw4 w0 w w2 b M R F s (J p) so acc v' :=
  ⟨h.pw.grown hb2 hF hg hi, k.stab _ _ _ h.j (frame_grown hg)⟩
theorem Pw4.box (h : Pw4 w0 w w2 b M R w.heap.size s (J p) so acc v) (k : Kn w0 w b M R s K J T Mv E) (G : Gd w0 b M) (hg : v.grownBy v' (some R)) (hj : J p v') : Pw4 w0 w w2 b M R w.heap.size s (J p) so acc v' := by
  obtain ⟨us, X⟩ := k.box _ _ h.j
  refine ⟨⟨h.pw.ins.box k.r0 k.rm X hg, h.pw.own.kept hg ?_, (hg.block _ h.pw.flt.lt (fun e => ?_)).trans h.pw.flt, Nat.le_trans h.pw.sz hg.size⟩, hj⟩
  · cases hO : so.ownBlock with
    | none => exact .inl rfl
    | some g =>
      refine .inr (fun e => ?_)
      cases e
      obtain ⟨c, fz, hh⟩ := row_kindR h.pw.own _ hO
      rw [show v.heap[R]? = _ from X] at hh
      cases hh
  · have := k.rw
    cases e
    omega
theorem Pw4.next {t : Nat} (h : Pw4 w0 w w2 b M R F s (J p) so acc v) (k : Kn w0 w b M R s K J T Mv E) (ht : p ≤ t) : Pw4 w0 w w2 b M R F s (J t) so acc v :=
  ⟨h.pw, k.mono _ _ _ h.j ht⟩
end
theorem pw4_app {w0 w w2 w5 w9 : World} {b M R F k p q t : Nat} {s : ByteArray} {K : Nat → Bool} {J T : Nat → World → Prop} {Mv E : Nat} {so v9 : Value} {acc : List Tk} (h : Pw4 w0 w w2 b M R F s (J q) so acc w5) (kn : Kn w0 w b M R s K J T Mv E) (hw : w.heap.size ≤ w2.heap.size) (hB : w0.heap.size ≤ w2.heap.size) (ht : p < t)
    (ho : w9.ownsRow w2.heap.size 50 3 v9 (acc.length + 1) (flat acc ++ [.int .u8 (k : Int), .int .i64 (p : Int), .int .i64 (t : Int)]))
    (hg : (((w5.alloc (.cells #[.int .u8 (k : Int), .int .i64 (p : Int), .int .i64 (t : Int)] 50)).alloc (.cells #[.int .i64 0, .int .i64 0, .int .i64 0] 26)).alloc (.cells #[.int .u8 (k : Int), .int .i64 (p : Int), .int .i64 (t : Int)] 50)).grownBy w9 so.ownBlock) :
    Pw4 w0 w w2 b M R F s (J q) v9 (acc ++ [(⟨k, p, t⟩ : Tk)]) w9 ∧ w9.cell? ⟨w5.heap.size, 2, none⟩ = some (.int .i64 (t : Int)) ∧ w5.heap.size < w9.heap.size := by
  obtain ⟨a1, a2, a3⟩ := pw_app h.pw hB ht ho hg
  have hb5 : Below w5.heap.size w5 (((w5.alloc (.cells #[.int .u8 (k : Int), .int .i64 (p : Int), .int .i64 (t : Int)] 50)).alloc (.cells #[.int .i64 0, .int .i64 0, .int .i64 0] 26)).alloc (.cells #[.int .u8 (k : Int), .int .i64 (p : Int), .int .i64 (t : Int)] 50)) := (((Below.refl _ w5).alloc (Nat.le_refl _) _).alloc (by simp) _).alloc (by simp; omega) _
  refine ⟨⟨a1, kn.stab _ _ _ h.j ((frame_below hb5).trans ⟨hg.size, fun i h1 h2 _ => hg.block i h2 (fun e => ?_)⟩)⟩, a2, a3⟩
  have := (h.pw.own.lt i e.symm).1
  omega
/-- how pieces ends, from a place on, up to a known one -/
def PcK (w0 w2 : World) (s : ByteArray) (K : Nat → Bool) (J T : Nat → World → Prop) (q : Nat) (e : Ending) (w' : World) : Prop := Below w0.heap.size w0 w' ∧ (∃ p, J p w') ∧
  match (ctK s K q).2.2 with
  | none => ∃ a c, e = .returned (.tuple #[.slice a (ctK s K q).1.length c, .int .i64 ((ctK s K q).2.1 : Int), .agg #[.int .i64 0, .int .i64 0, .int .i64 0]]) ∧ w'.ownsRow w2.heap.size 50 3 (.slice a (ctK s K q).1.length c) (ctK s K q).1.length (flat (ctK s K q).1) ∧ J (ctK s K q).2.1 w' ∧ ((ctK s K q).2.1 = s.size ∨ T (ctK s K q).2.1 w')
  | some (y, z) => e = .returned (.tuple #[.slice none 0 0, .int .i64 0, .agg #[.int .i64 (y : Int), .int .i64 0, .int .i64 (z : Int)]])
section
variable {w0 w2 w' : World} {s : ByteArray} {K : Nat → Bool} {J T : Nat → World → Prop} {q p : Nat} {e : Ending} {acc : List Tk}
theorem PcK.no {y z : Nat} (hc : ctK s K q = (acc, 0, some (y, z))) (hb : Below w0.heap.size w0 w') (hj : J p w') (he : e = .returned (.tuple #[.slice none 0 0, .int .i64 0, .agg #[.int .i64 (y : Int), .int .i64 0, .int .i64 (z : Int)]])) : PcK w0 w2 s K J T q e w' := by
  unfold PcK
  rw [hc]
  exact ⟨hb, ⟨p, hj⟩, he⟩
theorem PcK.ok (hc : ctK s K q = (acc, p, none)) (hb : Below w0.heap.size w0 w') (he : ∃ a c, e = .returned (.tuple #[.slice a acc.length c, .int .i64 (p : Int), .agg #[.int .i64 0, .int .i64 0, .int .i64 0]]) ∧ w'.ownsRow w2.heap.size 50 3 (.slice a acc.length c) acc.length (flat acc) ∧ J p w' ∧ (p = s.size ∨ T p w')) : PcK w0 w2 s K J T q e w' := by
  unfold PcK
  rw [hc]
  refine ⟨hb, ?_, he⟩
  obtain ⟨a, c, h1, h2, h3, h4⟩ := he
  exact ⟨p, h3⟩
end

set_option maxRecDepth 1000000 in
set_option maxHeartbeats 8000000 in
theorem pieces_known {w0 : World} {b M R Mv E q : Nat} (G : Gd w0 b M) (s : ByteArray) (hs : s.size ≤ 4294967280) (hq : q ≤ s.size) (w : World) (h : In w0 b M s w) {K : Nat → Bool} {J T : Nat → World → Prop} (kn : Kn w0 w b M R s K J T Mv E) (hj : J q w) :
    Calls Tryz.prog 13 #[.pointer (some ⟨b, 0, none⟩), .int .i64 (q : Int), .func (Fn.func 46) #[] #[.pointer (some ⟨Mv, 0, none⟩), .pointer (some ⟨E, 0, none⟩), .pointer (some ⟨R, 0, none⟩)]] w fun e w' => ∃ w2, Below w.heap.size w w2 ∧ PcK w0 w2 s K J T q e w' := by
  obtain ⟨i0, hi, hz0, hz1, hz2⟩ := info_parts (show (Tryz.prog.info? 50).map (fun i => (i.zero, i.size, i.bytes)) = some (some (.agg #[.int .u8 0, .int .i64 0, .int .i64 0]), 3, 24) by kernel_rfl)
  have hbl : b < w.heap.size := World.block_lt_of_cell? _ _ h.cell.1
  obtain ⟨w2, e2, hw, hs2, B0⟩ := bx1 w #[.int .i64 0, .int .i64 0, .int .i64 0] 26
  have HE2 : Hid (w.alloc (.cells #[.int .i64 0, .int .i64 0, .int .i64 0] 26) = w2) := e2
  have HB2 : Hid (Below w.heap.size w w2) := hw
  have HKK : Hid (Kn w0 w b M R s K J T Mv E) := kn
  have HP2 : Hid (Pw4 w0 w w2 b M R w.heap.size s (J q) (.slice none 0 0) [] w2) := ⟨⟨h.below hw, World.ownsRow_nil _ _ _ _, B0, Nat.le_refl _⟩, kn.stab _ _ _ hj (frame_below hw)⟩
  have hb2 : b < w2.heap.size := by omega
  have hw2 : w.heap.size ≤ w2.heap.size := by omega
  have HG : Hid (Gd w0 b M) := G
  clear e2 hw B0 h G kn hj
  go_enter Tryz.func13, Tryz.ntmps13
  go_wp2
  go_step3
  go_wp2
  go_step3
  go_wp2
  rw [HE2.out]
  go_loopw [1, 9] (fun sa so wr => ∃ (p : Nat) (acc : List Tk), p ≤ s.size ∧ q ≤ p ∧ sa = .int .i64 (p : Int) ∧ acc.length ≤ p ∧ ctK s K q = (acc ++ (ctK s K p).1, (ctK s K p).2) ∧ Pw4 w0 w w2 b M R w.heap.size s (J p) so acc wr) (fun sa _ _ => s.size - (intOf sa).toNat)
  case atStart => exact ⟨q, [], hq, Nat.le_refl _, rfl, Nat.zero_le _, rfl, HP2.out⟩
  case round =>
    obtain ⟨p, acc, hp, hqp, rfl, hal, hcut, hpw⟩ := hrel
    have HC : Hid (ctK s K q = (acc ++ (ctK s K p).1, (ctK s K p).2)) := hcut
    have HP : Hid (Pw4 w0 w w2 b M R w.heap.size s (J p) u9 acc wr) := hpw
    clear hcut hpw HP2
    have HCL : Hid (∀ (so : Value) (v : World), Pw3 w0 w2 b M w.heap.size s so acc v → v.cell? ⟨b, 0, none⟩ = some (.string s) ∧ v.cell? ⟨b, 1, none⟩ = some (.slice (some ⟨b + 1, 0, none⟩) 6 6) ∧ Bx v (b + 1) (sts b) 80 ∧ b < v.heap.size ∧ b + 1 < v.heap.size) := fun so v hv => by
      obtain ⟨d, mk, h1, h2, -⟩ := hv.ins.sg
      exact ⟨h1.cell 0, h1.cell 1, h2, h1.lt, h2.lt⟩
    by_cases hlt : p < s.size
    · have hlt' : (p : Int) < (s.size : Int) := by omega
      obtain ⟨c0, c1, -, q0, q1⟩ := HCL.out _ wr HP.out.pw
      have HF9 : Hid (w.heap.size ≠ b) := by unfold Hid; omega
      have hB0 : w0.heap.size ≤ w2.heap.size := by have := HG.out.b0; omega
      have hW0 : w0.heap.size ≤ w.heap.size := by have := HG.out.b0; omega
      have HKN : Hid (Calls Tryz.prog 46 #[.int .i64 (p : Int), .pointer (some ⟨Mv, 0, none⟩), .pointer (some ⟨E, 0, none⟩), .pointer (some ⟨R, 0, none⟩)] wr fun e v' => e = .returned (.bool (K p)) ∧ wr.grownBy v' (some R) ∧ J p v' ∧ (K p = true → T p v')) := HKK.out.call p wr HP.out.j HP.out.pw.ins.bel hlt
      cases hK : K p with
      | true =>
        rw [hK] at HKN
        have HCN : Hid (ctK s K q = (acc, p, none)) := by unfold Hid; rw [HC.out, ctK_known hlt hK]; simp
        go_wp2_with (go_at_call 46; (with_reducible refine HKN.out.mono ?_); rintro e w3 ⟨rfl, hg3, hj3, ht3⟩; have HP3 : Hid (Pw4 w0 w w2 b M R w.heap.size s (J p) u9 acc w3) := HP.out.box HKK.out HG.out hg3 hj3; have HT3 : Hid (T p w3) := ht3 rfl; have F7 := HP3.out.pw.flt; have z0 := F7.cell 0; have z1 := F7.cell 1; have z2 := F7.cell 2; have f0 := F7.free 0; have f1 := F7.free 1; have f2 := F7.free 2; have l7 := F7.lt; simp at z0 z1 z2; clear F7 hg3 hj3 ht3)
        rw [Exit.noGoto_ret]
        obtain ⟨r0, r1, r2⟩ := HP3.out.pw.flt.read3 (.int .i64 0) (.int .i64 0) (.int .i64 0)
        obtain ⟨a9, c9, hv9, -, -⟩ := own_slice HP3.out.pw.own
        subst hv9
        refine bodyPost_ret (v := .tuple #[.slice a9 acc.length c9, .int .i64 (p : Int), .agg #[.int .i64 0, .int .i64 0, .int .i64 0]]) (by simp [results, Tryz.results13, go_sem, r0, r1, r2]) rfl ⟨w2, HB2.out, PcK.ok HCN.out (bel_put3 HP3.out.pw.ins.bel hW0) ⟨a9, c9, rfl, own_put3 HP3.out.pw.own HP3.out.pw.flt (by decide), HKK.out.stab _ _ _ HP3.out.j frame_put3, .inr (HKK.out.stabT _ _ _ HT3.out frame_put3)⟩⟩
      | false =>
      rw [hK] at HKN
      go_wp2_with (go_at_call 46; (with_reducible refine HKN.out.mono ?_); rintro e w3 ⟨rfl, hg3, hj3, -⟩; have HPk : Hid (Pw4 w0 w w2 b M R w.heap.size s (J p) u9 acc w3) := HP.out.box HKK.out HG.out hg3 hj3; obtain ⟨k0, k1, -, j0, j1⟩ := HCL.out _ w3 HPk.out.pw; clear hg3 hj3)
      clear HKN
      go_loopw [1, 9, 32] (fun s1 s9 si wi => ∃ r : Nat, r ≤ 6 ∧ s1 = .int .i64 (p : Int) ∧ s9 = u9 ∧ si = .int .i64 (r : Int) ∧ (∀ i, i < r → fR s p i = false) ∧ Pw4 w0 w w2 b M R w.heap.size s (J p) u9 acc wi) (fun _ _ si _ => 6 - (intOf si).toNat)
      case atStart => exact ⟨0, by omega, rfl, rfl, rfl, fun i hi => by omega, HPk.out⟩
      case round =>
        clear HP HPk c0 c1 q0 q1 k0 k1 j0 j1
        obtain ⟨r, hr, rfl, rfl, rfl, hno, hpw⟩ := hrel
        have HP : Hid (Pw4 w0 w w2 b M R w.heap.size s (J p) u9 acc wr) := hpw
        have HNO : Hid (∀ i, i < r → fR s p i = false) := hno
        obtain ⟨c0, c1, XS, q0, q1⟩ := HCL.out _ wr hpw.pw
        clear hpw hno
        have HR : r = 0 ∨ r = 1 ∨ r = 2 ∨ r = 3 ∨ r = 4 ∨ r = 5 ∨ r = 6 := by omega
        rcases HR with rfl | rfl | rfl | rfl | rfl | rfl | rfl
        · have y0 : wr.cell? ⟨b + 1, 0, none⟩ = some (.func (Fn.func 28) #[.pointer (some ⟨b, 0, none⟩)] #[]) := XS.cell 0
          have y1 : wr.cell? ⟨b + 1, 1, none⟩ = some (.func (Fn.func 29) #[.pointer (some ⟨b, 0, none⟩)] #[]) := XS.cell 1
          have HF0 : Hid (∀ v, In w0 b M s v → Calls Tryz.prog 28 #[.pointer (some ⟨b, 0, none⟩), .int .i64 (p : Int)] v fun e v' => e = .returned (.bool (fR s p 0)) ∧ In w0 b M s v' ∧ v.grownBy v' (some b)) := fun v hv => fits_any HG.out s p 0 hs hlt (by omega) v hv
          have HPa : Hid (Pw4 w0 w w2 b M R w.heap.size s (J p) u9 acc (wr.alloc (.cells #[.func (Fn.func 28) #[.pointer (some ⟨b, 0, none⟩)] #[], .func (Fn.func 29) #[.pointer (some ⟨b, 0, none⟩)] #[]] 80))) := HP.out.below HKK.out ((Below.refl _ wr).alloc (Nat.le_refl _) _)
          have HXa : Hid (Bx (wr.alloc (.cells #[.func (Fn.func 28) #[.pointer (some ⟨b, 0, none⟩)] #[], .func (Fn.func 29) #[.pointer (some ⟨b, 0, none⟩)] #[]] 80)) wr.heap.size #[.func (Fn.func 28) #[.pointer (some ⟨b, 0, none⟩)] #[], .func (Fn.func 29) #[.pointer (some ⟨b, 0, none⟩)] #[]] 80) := Bx.new _ _ _
          clear XS
          cases hZ : fR s p 0 with
          | false =>
            rw [hZ] at HF0
            have HN2 : Hid (∀ i, i < 1 → fR s p i = false) := fun i hi => by
              by_cases h : i = 0
              · subst h; exact hZ
              · exact HNO.out i (by omega)
            go_wp2_with (go_at_call 28; (with_reducible refine (HF0.out _ HPa.out.pw.ins).mono ?_); rintro e w3 ⟨rfl, hi3, hg3⟩; have HP3 : Hid (Pw4 w0 w w2 b M R w.heap.size s (J p) u9 acc w3) := HPa.out.grown HKK.out hb2 HF9.out hg3 hi3; have X3 : Bx w3 wr.heap.size #[.func (Fn.func 28) #[.pointer (some ⟨b, 0, none⟩)] #[], .func (Fn.func 29) #[.pointer (some ⟨b, 0, none⟩)] #[]] 80 := (hg3.block wr.heap.size (by simp) (by simp; omega)).trans HXa.out; have x1 := X3.cell 1; simp at x1; have hx3 := X3.lt; obtain ⟨d0, d1, -, e0, e1⟩ := HCL.out _ w3 HP3.out.pw; clear hi3 hg3 X3)
            go_roundw
            case rel => exact ⟨1, by omega, rfl, rfl, by first | rfl | go_num, HN2.out, HP3.out⟩
            case measure => simp [intOf]
          | true =>
            rw [hZ] at HF0
            have HCU : Hid (∀ v, In w0 b M s v → Calls Tryz.prog 29 #[.pointer (some ⟨b, 0, none⟩), .int .i64 (p : Int)] v fun e v' => e = .returned (.tuple #[tokV p (cR s p 0), fltV (cR s p 0)]) ∧ In w0 b M s v' ∧ v.grownBy v' (some b)) := fun v hv => cuts_any HG.out s p 0 hs hlt (by omega) hZ v hv
            have hpce := row_pce s p 0 (by omega) HNO.out hZ
            cases hV : cR s p 0 with
            | ok k t =>
              rw [hV] at hpce HCU
              obtain ⟨t1, t2, t3⟩ := pce_ok hlt hpce
              have HCN : Hid (ctK s K q = ((acc ++ [(⟨k, p, t⟩ : Tk)]) ++ (ctK s K t).1, (ctK s K t).2)) := by unfold Hid; rw [HC.out, ctK_ok hlt hK hpce]; simp
              have HCU' : Hid (∀ v, In w0 b M s v → Calls Tryz.prog 29 #[.pointer (some ⟨b, 0, none⟩), .int .i64 (p : Int)] v fun e v' => e = .returned (.tuple #[.agg #[.int .u8 (k : Int), .int .i64 (p : Int), .int .i64 (t : Int)], .agg #[.int .i64 0, .int .i64 0, .int .i64 0]]) ∧ In w0 b M s v' ∧ v.grownBy v' (some b)) := HCU
              clear hV hpce HCU hZ HNO
              go_wp2_with (first
                | (go_at_call 28; (with_reducible refine (HF0.out _ HPa.out.pw.ins).mono ?_); rintro e w3 ⟨rfl, hi3, hg3⟩; have HP3 : Hid (Pw4 w0 w w2 b M R w.heap.size s (J p) u9 acc w3) := HPa.out.grown HKK.out hb2 HF9.out hg3 hi3; have X3 : Bx w3 wr.heap.size #[.func (Fn.func 28) #[.pointer (some ⟨b, 0, none⟩)] #[], .func (Fn.func 29) #[.pointer (some ⟨b, 0, none⟩)] #[]] 80 := (hg3.block wr.heap.size (by simp) (by simp; omega)).trans HXa.out; have x1 := X3.cell 1; simp at x1; have hx3 := X3.lt; obtain ⟨d0, d1, -, e0, e1⟩ := HCL.out _ w3 HP3.out.pw; clear hi3 hg3 X3)
                | (go_at_call 29; (with_reducible refine (HCU'.out _ HP3.out.pw.ins).mono ?_); rintro e w5 ⟨rfl, hi5, hg5⟩; have HP5 : Hid (Pw4 w0 w w2 b M R w.heap.size s (J p) u9 acc w5) := HP3.out.grown HKK.out hb2 HF9.out hg5 hi5; have hs5 : w2.heap.size ≤ w5.heap.size := HP5.out.pw.sz; clear hi5 hg5 d0 d1 e0 e1 x1 hx3)
                | (at_builtin; (refine wpList_append_at _ rfl (.tmp 52) (.tmp 54) 23 rfl w2.heap.size 50 i0 (.agg #[.int .u8 0, .int .i64 0, .int .i64 0]) 3 24 Tryz.underlying23 hi hz0 hz1 hz2 rfl (by decide) _ acc.length (flat acc) rfl (((HP5.out.pw.own.alloc _).alloc _).alloc _) (some ⟨_, 0, none⟩) 1 1 [.int .u8 (k : Int), .int .i64 (p : Int), .int .i64 (t : Int)] rfl rfl (fun h => by cases h) (fun ad had => by cases had; exact cells_new3 _ _ _ _ _) (fun u hu => by simp at hu; rcases hu with rfl | rfl | rfl <;> rfl) (by unfold maxLen; omega) (by omega) (by simp; omega) ?_); intro v9 w9 ho9 hg9 _; obtain ⟨HPn, k2, kz⟩ := pw4_app HP5.out HKK.out hw2 hB0 t1 ho9 hg9; have HP9 : Hid (Pw4 w0 w w2 b M R w.heap.size s (J t) v9 (acc ++ [(⟨k, p, t⟩ : Tk)]) w9) := HPn.next HKK.out (Nat.le_of_lt t1); clear ho9 hg9 HPn))
              exact ⟨⟨t, acc ++ [(⟨k, p, t⟩ : Tk)], t2, by omega, rfl, by simp; omega, HCN.out, HP9.out⟩, by simp [intOf]; omega⟩
            | no y z =>
              rw [hV] at hpce HCU
              have hy := pce_no hlt hpce
              have HCN : Hid (ctK s K q = (acc, 0, some (y, z))) := by unfold Hid; rw [HC.out, ctK_no hlt hK hpce]; simp
              have HCU' : Hid (∀ v, In w0 b M s v → Calls Tryz.prog 29 #[.pointer (some ⟨b, 0, none⟩), .int .i64 (p : Int)] v fun e v' => e = .returned (.tuple #[.agg #[.int .u8 0, .int .i64 0, .int .i64 0], .agg #[.int .i64 (y : Int), .int .i64 0, .int .i64 (z : Int)]]) ∧ In w0 b M s v' ∧ v.grownBy v' (some b)) := HCU
              have hy0 : ((y : Int) == 0) = false := by simp; omega
              clear hV hpce HCU hZ HNO
              go_wp2_with (first
                | (go_at_call 28; (with_reducible refine (HF0.out _ HPa.out.pw.ins).mono ?_); rintro e w3 ⟨rfl, hi3, hg3⟩; have HP3 : Hid (Pw4 w0 w w2 b M R w.heap.size s (J p) u9 acc w3) := HPa.out.grown HKK.out hb2 HF9.out hg3 hi3; have X3 : Bx w3 wr.heap.size #[.func (Fn.func 28) #[.pointer (some ⟨b, 0, none⟩)] #[], .func (Fn.func 29) #[.pointer (some ⟨b, 0, none⟩)] #[]] 80 := (hg3.block wr.heap.size (by simp) (by simp; omega)).trans HXa.out; have x1 := X3.cell 1; simp at x1; have hx3 := X3.lt; obtain ⟨d0, d1, -, e0, e1⟩ := HCL.out _ w3 HP3.out.pw; clear hi3 hg3 X3)
                | (go_at_call 29; (with_reducible refine (HCU'.out _ HP3.out.pw.ins).mono ?_); rintro e w5 ⟨rfl, hi5, hg5⟩; have HP5 : Hid (Pw4 w0 w w2 b M R w.heap.size s (J p) u9 acc w5) := HP3.out.grown HKK.out hb2 HF9.out hg5 hi5; have hs5 : w2.heap.size ≤ w5.heap.size := HP5.out.pw.sz; clear hi5 hg5 d0 d1 e0 e1 x1 hx3))
              obtain ⟨w7, e7⟩ : ∃ w7, (w5.alloc (.cells #[.int .u8 0, .int .i64 0, .int .i64 0] 50)).alloc (.cells #[.int .i64 (y : Int), .int .i64 0, .int .i64 (z : Int)] 26) = w7 := ⟨_, rfl⟩
              have F7 : Bx w7 w.heap.size #[.int .i64 0, .int .i64 0, .int .i64 0] 26 := by rw [← e7]; exact (HP5.out.pw.flt.alloc _).alloc _
              have Y7 : Bx w7 (w5.heap.size + 1) #[.int .i64 (y : Int), .int .i64 0, .int .i64 (z : Int)] 26 := by
                rw [← e7]
                have := Bx.new (w5.alloc (.cells #[.int .u8 0, .int .i64 0, .int .i64 0] 50)) #[.int .i64 (y : Int), .int .i64 0, .int .i64 (z : Int)] 26
                simpa using this
              have HB7 : Hid (Below w0.heap.size w0 w7) := by unfold Hid; rw [← e7]; exact (HP5.out.pw.ins.bel.alloc HP5.out.pw.ins.bel.size _).alloc (by have := HP5.out.pw.ins.bel.size; simp; omega) _
              have HJ7 : Hid (J p w7) := by unfold Hid; rw [← e7]; exact HKK.out.stab _ _ _ HP5.out.j (frame_below (((Below.refl _ _).alloc (Nat.le_refl _) _).alloc (by simp) _))
              rw [e7]
              clear e7 HP5 HP3 HPa HXa HF0 HCU' y0 y1
              have z0 := F7.cell 0
              have z1 := F7.cell 1
              have z2 := F7.cell 2
              have f0 := F7.free 0
              have f1 := F7.free 1
              have f2 := F7.free 2
              have t0 := Y7.cell 0
              have t1 := Y7.cell 1
              have t2 := Y7.cell 2
              have l7 := F7.lt
              have m7 := Y7.lt
              simp at z0 z1 z2 t0 t1 t2
              have HF7 : Hid (Bx w7 w.heap.size #[.int .i64 0, .int .i64 0, .int .i64 0] 26) := F7
              clear F7 Y7
              go_region
              all_goals
                go_wp2
                rw [Exit.noGoto_ret]
                obtain ⟨r0, r1, r2⟩ := HF7.out.read3 (.int .i64 (y : Int)) (.int .i64 0) (.int .i64 (z : Int))
                refine bodyPost_ret (v := .tuple #[.slice none 0 0, .int .i64 0, .agg #[.int .i64 (y : Int), .int .i64 0, .int .i64 (z : Int)]]) (by simp [results, Tryz.results13, go_sem, r0, r1, r2]) rfl ⟨w2, HB2.out, PcK.no HCN.out ((bel_put3 HB7.out hW0).drew) (HKK.out.stab _ _ _ HJ7.out (frame_bel ((bel_put3 (Below.refl w.heap.size w7) (Nat.le_refl _)).drew) (by simp))) rfl⟩
        · have y0 : wr.cell? ⟨b + 1, 2, none⟩ = some (.func (Fn.func 30) #[.pointer (some ⟨b, 0, none⟩)] #[]) := XS.cell 2
          have y1 : wr.cell? ⟨b + 1, 3, none⟩ = some (.func (Fn.func 31) #[.pointer (some ⟨b, 0, none⟩)] #[]) := XS.cell 3
          have HF0 : Hid (∀ v, In w0 b M s v → Calls Tryz.prog 30 #[.pointer (some ⟨b, 0, none⟩), .int .i64 (p : Int)] v fun e v' => e = .returned (.bool (fR s p 1)) ∧ In w0 b M s v' ∧ v.grownBy v' (some b)) := fun v hv => fits_any HG.out s p 1 hs hlt (by omega) v hv
          have HPa : Hid (Pw4 w0 w w2 b M R w.heap.size s (J p) u9 acc (wr.alloc (.cells #[.func (Fn.func 30) #[.pointer (some ⟨b, 0, none⟩)] #[], .func (Fn.func 31) #[.pointer (some ⟨b, 0, none⟩)] #[]] 80))) := HP.out.below HKK.out ((Below.refl _ wr).alloc (Nat.le_refl _) _)
          have HXa : Hid (Bx (wr.alloc (.cells #[.func (Fn.func 30) #[.pointer (some ⟨b, 0, none⟩)] #[], .func (Fn.func 31) #[.pointer (some ⟨b, 0, none⟩)] #[]] 80)) wr.heap.size #[.func (Fn.func 30) #[.pointer (some ⟨b, 0, none⟩)] #[], .func (Fn.func 31) #[.pointer (some ⟨b, 0, none⟩)] #[]] 80) := Bx.new _ _ _
          clear XS
          cases hZ : fR s p 1 with
          | false =>
            rw [hZ] at HF0
            have HN2 : Hid (∀ i, i < 2 → fR s p i = false) := fun i hi => by
              by_cases h : i = 1
              · subst h; exact hZ
              · exact HNO.out i (by omega)
            go_wp2_with (go_at_call 30; (with_reducible refine (HF0.out _ HPa.out.pw.ins).mono ?_); rintro e w3 ⟨rfl, hi3, hg3⟩; have HP3 : Hid (Pw4 w0 w w2 b M R w.heap.size s (J p) u9 acc w3) := HPa.out.grown HKK.out hb2 HF9.out hg3 hi3; have X3 : Bx w3 wr.heap.size #[.func (Fn.func 30) #[.pointer (some ⟨b, 0, none⟩)] #[], .func (Fn.func 31) #[.pointer (some ⟨b, 0, none⟩)] #[]] 80 := (hg3.block wr.heap.size (by simp) (by simp; omega)).trans HXa.out; have x1 := X3.cell 1; simp at x1; have hx3 := X3.lt; obtain ⟨d0, d1, -, e0, e1⟩ := HCL.out _ w3 HP3.out.pw; clear hi3 hg3 X3)
            go_roundw
            case rel => exact ⟨2, by omega, rfl, rfl, by first | rfl | go_num, HN2.out, HP3.out⟩
            case measure => simp [intOf]
          | true =>
            rw [hZ] at HF0
            have HCU : Hid (∀ v, In w0 b M s v → Calls Tryz.prog 31 #[.pointer (some ⟨b, 0, none⟩), .int .i64 (p : Int)] v fun e v' => e = .returned (.tuple #[tokV p (cR s p 1), fltV (cR s p 1)]) ∧ In w0 b M s v' ∧ v.grownBy v' (some b)) := fun v hv => cuts_any HG.out s p 1 hs hlt (by omega) hZ v hv
            have hpce := row_pce s p 1 (by omega) HNO.out hZ
            cases hV : cR s p 1 with
            | ok k t =>
              rw [hV] at hpce HCU
              obtain ⟨t1, t2, t3⟩ := pce_ok hlt hpce
              have HCN : Hid (ctK s K q = ((acc ++ [(⟨k, p, t⟩ : Tk)]) ++ (ctK s K t).1, (ctK s K t).2)) := by unfold Hid; rw [HC.out, ctK_ok hlt hK hpce]; simp
              have HCU' : Hid (∀ v, In w0 b M s v → Calls Tryz.prog 31 #[.pointer (some ⟨b, 0, none⟩), .int .i64 (p : Int)] v fun e v' => e = .returned (.tuple #[.agg #[.int .u8 (k : Int), .int .i64 (p : Int), .int .i64 (t : Int)], .agg #[.int .i64 0, .int .i64 0, .int .i64 0]]) ∧ In w0 b M s v' ∧ v.grownBy v' (some b)) := HCU
              clear hV hpce HCU hZ HNO
              go_wp2_with (first
                | (go_at_call 30; (with_reducible refine (HF0.out _ HPa.out.pw.ins).mono ?_); rintro e w3 ⟨rfl, hi3, hg3⟩; have HP3 : Hid (Pw4 w0 w w2 b M R w.heap.size s (J p) u9 acc w3) := HPa.out.grown HKK.out hb2 HF9.out hg3 hi3; have X3 : Bx w3 wr.heap.size #[.func (Fn.func 30) #[.pointer (some ⟨b, 0, none⟩)] #[], .func (Fn.func 31) #[.pointer (some ⟨b, 0, none⟩)] #[]] 80 := (hg3.block wr.heap.size (by simp) (by simp; omega)).trans HXa.out; have x1 := X3.cell 1; simp at x1; have hx3 := X3.lt; obtain ⟨d0, d1, -, e0, e1⟩ := HCL.out _ w3 HP3.out.pw; clear hi3 hg3 X3)
                | (go_at_call 31; (with_reducible refine (HCU'.out _ HP3.out.pw.ins).mono ?_); rintro e w5 ⟨rfl, hi5, hg5⟩; have HP5 : Hid (Pw4 w0 w w2 b M R w.heap.size s (J p) u9 acc w5) := HP3.out.grown HKK.out hb2 HF9.out hg5 hi5; have hs5 : w2.heap.size ≤ w5.heap.size := HP5.out.pw.sz; clear hi5 hg5 d0 d1 e0 e1 x1 hx3)
                | (at_builtin; (refine wpList_append_at _ rfl (.tmp 52) (.tmp 54) 23 rfl w2.heap.size 50 i0 (.agg #[.int .u8 0, .int .i64 0, .int .i64 0]) 3 24 Tryz.underlying23 hi hz0 hz1 hz2 rfl (by decide) _ acc.length (flat acc) rfl (((HP5.out.pw.own.alloc _).alloc _).alloc _) (some ⟨_, 0, none⟩) 1 1 [.int .u8 (k : Int), .int .i64 (p : Int), .int .i64 (t : Int)] rfl rfl (fun h => by cases h) (fun ad had => by cases had; exact cells_new3 _ _ _ _ _) (fun u hu => by simp at hu; rcases hu with rfl | rfl | rfl <;> rfl) (by unfold maxLen; omega) (by omega) (by simp; omega) ?_); intro v9 w9 ho9 hg9 _; obtain ⟨HPn, k2, kz⟩ := pw4_app HP5.out HKK.out hw2 hB0 t1 ho9 hg9; have HP9 : Hid (Pw4 w0 w w2 b M R w.heap.size s (J t) v9 (acc ++ [(⟨k, p, t⟩ : Tk)]) w9) := HPn.next HKK.out (Nat.le_of_lt t1); clear ho9 hg9 HPn))
              exact ⟨⟨t, acc ++ [(⟨k, p, t⟩ : Tk)], t2, by omega, rfl, by simp; omega, HCN.out, HP9.out⟩, by simp [intOf]; omega⟩
            | no y z =>
              rw [hV] at hpce HCU
              have hy := pce_no hlt hpce
              have HCN : Hid (ctK s K q = (acc, 0, some (y, z))) := by unfold Hid; rw [HC.out, ctK_no hlt hK hpce]; simp
              have HCU' : Hid (∀ v, In w0 b M s v → Calls Tryz.prog 31 #[.pointer (some ⟨b, 0, none⟩), .int .i64 (p : Int)] v fun e v' => e = .returned (.tuple #[.agg #[.int .u8 0, .int .i64 0, .int .i64 0], .agg #[.int .i64 (y : Int), .int .i64 0, .int .i64 (z : Int)]]) ∧ In w0 b M s v' ∧ v.grownBy v' (some b)) := HCU
              have hy0 : ((y : Int) == 0) = false := by simp; omega
              clear hV hpce HCU hZ HNO
              go_wp2_with (first
                | (go_at_call 30; (with_reducible refine (HF0.out _ HPa.out.pw.ins).mono ?_); rintro e w3 ⟨rfl, hi3, hg3⟩; have HP3 : Hid (Pw4 w0 w w2 b M R w.heap.size s (J p) u9 acc w3) := HPa.out.grown HKK.out hb2 HF9.out hg3 hi3; have X3 : Bx w3 wr.heap.size #[.func (Fn.func 30) #[.pointer (some ⟨b, 0, none⟩)] #[], .func (Fn.func 31) #[.pointer (some ⟨b, 0, none⟩)] #[]] 80 := (hg3.block wr.heap.size (by simp) (by simp; omega)).trans HXa.out; have x1 := X3.cell 1; simp at x1; have hx3 := X3.lt; obtain ⟨d0, d1, -, e0, e1⟩ := HCL.out _ w3 HP3.out.pw; clear hi3 hg3 X3)
                | (go_at_call 31; (with_reducible refine (HCU'.out _ HP3.out.pw.ins).mono ?_); rintro e w5 ⟨rfl, hi5, hg5⟩; have HP5 : Hid (Pw4 w0 w w2 b M R w.heap.size s (J p) u9 acc w5) := HP3.out.grown HKK.out hb2 HF9.out hg5 hi5; have hs5 : w2.heap.size ≤ w5.heap.size := HP5.out.pw.sz; clear hi5 hg5 d0 d1 e0 e1 x1 hx3))
              obtain ⟨w7, e7⟩ : ∃ w7, (w5.alloc (.cells #[.int .u8 0, .int .i64 0, .int .i64 0] 50)).alloc (.cells #[.int .i64 (y : Int), .int .i64 0, .int .i64 (z : Int)] 26) = w7 := ⟨_, rfl⟩
              have F7 : Bx w7 w.heap.size #[.int .i64 0, .int .i64 0, .int .i64 0] 26 := by rw [← e7]; exact (HP5.out.pw.flt.alloc _).alloc _
              have Y7 : Bx w7 (w5.heap.size + 1) #[.int .i64 (y : Int), .int .i64 0, .int .i64 (z : Int)] 26 := by
                rw [← e7]
                have := Bx.new (w5.alloc (.cells #[.int .u8 0, .int .i64 0, .int .i64 0] 50)) #[.int .i64 (y : Int), .int .i64 0, .int .i64 (z : Int)] 26
                simpa using this
              have HB7 : Hid (Below w0.heap.size w0 w7) := by unfold Hid; rw [← e7]; exact (HP5.out.pw.ins.bel.alloc HP5.out.pw.ins.bel.size _).alloc (by have := HP5.out.pw.ins.bel.size; simp; omega) _
              have HJ7 : Hid (J p w7) := by unfold Hid; rw [← e7]; exact HKK.out.stab _ _ _ HP5.out.j (frame_below (((Below.refl _ _).alloc (Nat.le_refl _) _).alloc (by simp) _))
              rw [e7]
              clear e7 HP5 HP3 HPa HXa HF0 HCU' y0 y1
              have z0 := F7.cell 0
              have z1 := F7.cell 1
              have z2 := F7.cell 2
              have f0 := F7.free 0
              have f1 := F7.free 1
              have f2 := F7.free 2
              have t0 := Y7.cell 0
              have t1 := Y7.cell 1
              have t2 := Y7.cell 2
              have l7 := F7.lt
              have m7 := Y7.lt
              simp at z0 z1 z2 t0 t1 t2
              have HF7 : Hid (Bx w7 w.heap.size #[.int .i64 0, .int .i64 0, .int .i64 0] 26) := F7
              clear F7 Y7
              go_region
              all_goals
                go_wp2
                rw [Exit.noGoto_ret]
                obtain ⟨r0, r1, r2⟩ := HF7.out.read3 (.int .i64 (y : Int)) (.int .i64 0) (.int .i64 (z : Int))
                refine bodyPost_ret (v := .tuple #[.slice none 0 0, .int .i64 0, .agg #[.int .i64 (y : Int), .int .i64 0, .int .i64 (z : Int)]]) (by simp [results, Tryz.results13, go_sem, r0, r1, r2]) rfl ⟨w2, HB2.out, PcK.no HCN.out ((bel_put3 HB7.out hW0).drew) (HKK.out.stab _ _ _ HJ7.out (frame_bel ((bel_put3 (Below.refl w.heap.size w7) (Nat.le_refl _)).drew) (by simp))) rfl⟩
        · have y0 : wr.cell? ⟨b + 1, 4, none⟩ = some (.func (Fn.func 32) #[.pointer (some ⟨b, 0, none⟩)] #[]) := XS.cell 4
          have y1 : wr.cell? ⟨b + 1, 5, none⟩ = some (.func (Fn.func 33) #[.pointer (some ⟨b, 0, none⟩)] #[]) := XS.cell 5
          have HF0 : Hid (∀ v, In w0 b M s v → Calls Tryz.prog 32 #[.pointer (some ⟨b, 0, none⟩), .int .i64 (p : Int)] v fun e v' => e = .returned (.bool (fR s p 2)) ∧ In w0 b M s v' ∧ v.grownBy v' (some b)) := fun v hv => fits_any HG.out s p 2 hs hlt (by omega) v hv
          have HPa : Hid (Pw4 w0 w w2 b M R w.heap.size s (J p) u9 acc (wr.alloc (.cells #[.func (Fn.func 32) #[.pointer (some ⟨b, 0, none⟩)] #[], .func (Fn.func 33) #[.pointer (some ⟨b, 0, none⟩)] #[]] 80))) := HP.out.below HKK.out ((Below.refl _ wr).alloc (Nat.le_refl _) _)
          have HXa : Hid (Bx (wr.alloc (.cells #[.func (Fn.func 32) #[.pointer (some ⟨b, 0, none⟩)] #[], .func (Fn.func 33) #[.pointer (some ⟨b, 0, none⟩)] #[]] 80)) wr.heap.size #[.func (Fn.func 32) #[.pointer (some ⟨b, 0, none⟩)] #[], .func (Fn.func 33) #[.pointer (some ⟨b, 0, none⟩)] #[]] 80) := Bx.new _ _ _
          clear XS
          cases hZ : fR s p 2 with
          | false =>
            rw [hZ] at HF0
            have HN2 : Hid (∀ i, i < 3 → fR s p i = false) := fun i hi => by
              by_cases h : i = 2
              · subst h; exact hZ
              · exact HNO.out i (by omega)
            go_wp2_with (go_at_call 32; (with_reducible refine (HF0.out _ HPa.out.pw.ins).mono ?_); rintro e w3 ⟨rfl, hi3, hg3⟩; have HP3 : Hid (Pw4 w0 w w2 b M R w.heap.size s (J p) u9 acc w3) := HPa.out.grown HKK.out hb2 HF9.out hg3 hi3; have X3 : Bx w3 wr.heap.size #[.func (Fn.func 32) #[.pointer (some ⟨b, 0, none⟩)] #[], .func (Fn.func 33) #[.pointer (some ⟨b, 0, none⟩)] #[]] 80 := (hg3.block wr.heap.size (by simp) (by simp; omega)).trans HXa.out; have x1 := X3.cell 1; simp at x1; have hx3 := X3.lt; obtain ⟨d0, d1, -, e0, e1⟩ := HCL.out _ w3 HP3.out.pw; clear hi3 hg3 X3)
            go_roundw
            case rel => exact ⟨3, by omega, rfl, rfl, by first | rfl | go_num, HN2.out, HP3.out⟩
            case measure => simp [intOf]
          | true =>
            rw [hZ] at HF0
            have HCU : Hid (∀ v, In w0 b M s v → Calls Tryz.prog 33 #[.pointer (some ⟨b, 0, none⟩), .int .i64 (p : Int)] v fun e v' => e = .returned (.tuple #[tokV p (cR s p 2), fltV (cR s p 2)]) ∧ In w0 b M s v' ∧ v.grownBy v' (some b)) := fun v hv => cuts_any HG.out s p 2 hs hlt (by omega) hZ v hv
            have hpce := row_pce s p 2 (by omega) HNO.out hZ
            cases hV : cR s p 2 with
            | ok k t =>
              rw [hV] at hpce HCU
              obtain ⟨t1, t2, t3⟩ := pce_ok hlt hpce
              have HCN : Hid (ctK s K q = ((acc ++ [(⟨k, p, t⟩ : Tk)]) ++ (ctK s K t).1, (ctK s K t).2)) := by unfold Hid; rw [HC.out, ctK_ok hlt hK hpce]; simp
              have HCU' : Hid (∀ v, In w0 b M s v → Calls Tryz.prog 33 #[.pointer (some ⟨b, 0, none⟩), .int .i64 (p : Int)] v fun e v' => e = .returned (.tuple #[.agg #[.int .u8 (k : Int), .int .i64 (p : Int), .int .i64 (t : Int)], .agg #[.int .i64 0, .int .i64 0, .int .i64 0]]) ∧ In w0 b M s v' ∧ v.grownBy v' (some b)) := HCU
              clear hV hpce HCU hZ HNO
              go_wp2_with (first
                | (go_at_call 32; (with_reducible refine (HF0.out _ HPa.out.pw.ins).mono ?_); rintro e w3 ⟨rfl, hi3, hg3⟩; have HP3 : Hid (Pw4 w0 w w2 b M R w.heap.size s (J p) u9 acc w3) := HPa.out.grown HKK.out hb2 HF9.out hg3 hi3; have X3 : Bx w3 wr.heap.size #[.func (Fn.func 32) #[.pointer (some ⟨b, 0, none⟩)] #[], .func (Fn.func 33) #[.pointer (some ⟨b, 0, none⟩)] #[]] 80 := (hg3.block wr.heap.size (by simp) (by simp; omega)).trans HXa.out; have x1 := X3.cell 1; simp at x1; have hx3 := X3.lt; obtain ⟨d0, d1, -, e0, e1⟩ := HCL.out _ w3 HP3.out.pw; clear hi3 hg3 X3)
                | (go_at_call 33; (with_reducible refine (HCU'.out _ HP3.out.pw.ins).mono ?_); rintro e w5 ⟨rfl, hi5, hg5⟩; have HP5 : Hid (Pw4 w0 w w2 b M R w.heap.size s (J p) u9 acc w5) := HP3.out.grown HKK.out hb2 HF9.out hg5 hi5; have hs5 : w2.heap.size ≤ w5.heap.size := HP5.out.pw.sz; clear hi5 hg5 d0 d1 e0 e1 x1 hx3)
                | (at_builtin; (refine wpList_append_at _ rfl (.tmp 52) (.tmp 54) 23 rfl w2.heap.size 50 i0 (.agg #[.int .u8 0, .int .i64 0, .int .i64 0]) 3 24 Tryz.underlying23 hi hz0 hz1 hz2 rfl (by decide) _ acc.length (flat acc) rfl (((HP5.out.pw.own.alloc _).alloc _).alloc _) (some ⟨_, 0, none⟩) 1 1 [.int .u8 (k : Int), .int .i64 (p : Int), .int .i64 (t : Int)] rfl rfl (fun h => by cases h) (fun ad had => by cases had; exact cells_new3 _ _ _ _ _) (fun u hu => by simp at hu; rcases hu with rfl | rfl | rfl <;> rfl) (by unfold maxLen; omega) (by omega) (by simp; omega) ?_); intro v9 w9 ho9 hg9 _; obtain ⟨HPn, k2, kz⟩ := pw4_app HP5.out HKK.out hw2 hB0 t1 ho9 hg9; have HP9 : Hid (Pw4 w0 w w2 b M R w.heap.size s (J t) v9 (acc ++ [(⟨k, p, t⟩ : Tk)]) w9) := HPn.next HKK.out (Nat.le_of_lt t1); clear ho9 hg9 HPn))
              exact ⟨⟨t, acc ++ [(⟨k, p, t⟩ : Tk)], t2, by omega, rfl, by simp; omega, HCN.out, HP9.out⟩, by simp [intOf]; omega⟩
            | no y z =>
              rw [hV] at hpce HCU
              have hy := pce_no hlt hpce
              have HCN : Hid (ctK s K q = (acc, 0, some (y, z))) := by unfold Hid; rw [HC.out, ctK_no hlt hK hpce]; simp
              have HCU' : Hid (∀ v, In w0 b M s v → Calls Tryz.prog 33 #[.pointer (some ⟨b, 0, none⟩), .int .i64 (p : Int)] v fun e v' => e = .returned (.tuple #[.agg #[.int .u8 0, .int .i64 0, .int .i64 0], .agg #[.int .i64 (y : Int), .int .i64 0, .int .i64 (z : Int)]]) ∧ In w0 b M s v' ∧ v.grownBy v' (some b)) := HCU
              have hy0 : ((y : Int) == 0) = false := by simp; omega
              clear hV hpce HCU hZ HNO
              go_wp2_with (first
                | (go_at_call 32; (with_reducible refine (HF0.out _ HPa.out.pw.ins).mono ?_); rintro e w3 ⟨rfl, hi3, hg3⟩; have HP3 : Hid (Pw4 w0 w w2 b M R w.heap.size s (J p) u9 acc w3) := HPa.out.grown HKK.out hb2 HF9.out hg3 hi3; have X3 : Bx w3 wr.heap.size #[.func (Fn.func 32) #[.pointer (some ⟨b, 0, none⟩)] #[], .func (Fn.func 33) #[.pointer (some ⟨b, 0, none⟩)] #[]] 80 := (hg3.block wr.heap.size (by simp) (by simp; omega)).trans HXa.out; have x1 := X3.cell 1; simp at x1; have hx3 := X3.lt; obtain ⟨d0, d1, -, e0, e1⟩ := HCL.out _ w3 HP3.out.pw; clear hi3 hg3 X3)
                | (go_at_call 33; (with_reducible refine (HCU'.out _ HP3.out.pw.ins).mono ?_); rintro e w5 ⟨rfl, hi5, hg5⟩; have HP5 : Hid (Pw4 w0 w w2 b M R w.heap.size s (J p) u9 acc w5) := HP3.out.grown HKK.out hb2 HF9.out hg5 hi5; have hs5 : w2.heap.size ≤ w5.heap.size := HP5.out.pw.sz; clear hi5 hg5 d0 d1 e0 e1 x1 hx3))
              obtain ⟨w7, e7⟩ : ∃ w7, (w5.alloc (.cells #[.int .u8 0, .int .i64 0, .int .i64 0] 50)).alloc (.cells #[.int .i64 (y : Int), .int .i64 0, .int .i64 (z : Int)] 26) = w7 := ⟨_, rfl⟩
              have F7 : Bx w7 w.heap.size #[.int .i64 0, .int .i64 0, .int .i64 0] 26 := by rw [← e7]; exact (HP5.out.pw.flt.alloc _).alloc _
              have Y7 : Bx w7 (w5.heap.size + 1) #[.int .i64 (y : Int), .int .i64 0, .int .i64 (z : Int)] 26 := by
                rw [← e7]
                have := Bx.new (w5.alloc (.cells #[.int .u8 0, .int .i64 0, .int .i64 0] 50)) #[.int .i64 (y : Int), .int .i64 0, .int .i64 (z : Int)] 26
                simpa using this
              have HB7 : Hid (Below w0.heap.size w0 w7) := by unfold Hid; rw [← e7]; exact (HP5.out.pw.ins.bel.alloc HP5.out.pw.ins.bel.size _).alloc (by have := HP5.out.pw.ins.bel.size; simp; omega) _
              have HJ7 : Hid (J p w7) := by unfold Hid; rw [← e7]; exact HKK.out.stab _ _ _ HP5.out.j (frame_below (((Below.refl _ _).alloc (Nat.le_refl _) _).alloc (by simp) _))
              rw [e7]
              clear e7 HP5 HP3 HPa HXa HF0 HCU' y0 y1
              have z0 := F7.cell 0
              have z1 := F7.cell 1
              have z2 := F7.cell 2
              have f0 := F7.free 0
              have f1 := F7.free 1
              have f2 := F7.free 2
              have t0 := Y7.cell 0
              have t1 := Y7.cell 1
              have t2 := Y7.cell 2
              have l7 := F7.lt
              have m7 := Y7.lt
              simp at z0 z1 z2 t0 t1 t2
              have HF7 : Hid (Bx w7 w.heap.size #[.int .i64 0, .int .i64 0, .int .i64 0] 26) := F7
              clear F7 Y7
              go_region
              all_goals
                go_wp2
                rw [Exit.noGoto_ret]
                obtain ⟨r0, r1, r2⟩ := HF7.out.read3 (.int .i64 (y : Int)) (.int .i64 0) (.int .i64 (z : Int))
                refine bodyPost_ret (v := .tuple #[.slice none 0 0, .int .i64 0, .agg #[.int .i64 (y : Int), .int .i64 0, .int .i64 (z : Int)]]) (by simp [results, Tryz.results13, go_sem, r0, r1, r2]) rfl ⟨w2, HB2.out, PcK.no HCN.out ((bel_put3 HB7.out hW0).drew) (HKK.out.stab _ _ _ HJ7.out (frame_bel ((bel_put3 (Below.refl w.heap.size w7) (Nat.le_refl _)).drew) (by simp))) rfl⟩
        · have y0 : wr.cell? ⟨b + 1, 6, none⟩ = some (.func (Fn.func 34) #[.pointer (some ⟨b, 0, none⟩)] #[]) := XS.cell 6
          have y1 : wr.cell? ⟨b + 1, 7, none⟩ = some (.func (Fn.func 35) #[.pointer (some ⟨b, 0, none⟩)] #[]) := XS.cell 7
          have HF0 : Hid (∀ v, In w0 b M s v → Calls Tryz.prog 34 #[.pointer (some ⟨b, 0, none⟩), .int .i64 (p : Int)] v fun e v' => e = .returned (.bool (fR s p 3)) ∧ In w0 b M s v' ∧ v.grownBy v' (some b)) := fun v hv => fits_any HG.out s p 3 hs hlt (by omega) v hv
          have HPa : Hid (Pw4 w0 w w2 b M R w.heap.size s (J p) u9 acc (wr.alloc (.cells #[.func (Fn.func 34) #[.pointer (some ⟨b, 0, none⟩)] #[], .func (Fn.func 35) #[.pointer (some ⟨b, 0, none⟩)] #[]] 80))) := HP.out.below HKK.out ((Below.refl _ wr).alloc (Nat.le_refl _) _)
          have HXa : Hid (Bx (wr.alloc (.cells #[.func (Fn.func 34) #[.pointer (some ⟨b, 0, none⟩)] #[], .func (Fn.func 35) #[.pointer (some ⟨b, 0, none⟩)] #[]] 80)) wr.heap.size #[.func (Fn.func 34) #[.pointer (some ⟨b, 0, none⟩)] #[], .func (Fn.func 35) #[.pointer (some ⟨b, 0, none⟩)] #[]] 80) := Bx.new _ _ _
          clear XS
          cases hZ : fR s p 3 with
          | false =>
            rw [hZ] at HF0
            have HN2 : Hid (∀ i, i < 4 → fR s p i = false) := fun i hi => by
              by_cases h : i = 3
              · subst h; exact hZ
              · exact HNO.out i (by omega)
            go_wp2_with (go_at_call 34; (with_reducible refine (HF0.out _ HPa.out.pw.ins).mono ?_); rintro e w3 ⟨rfl, hi3, hg3⟩; have HP3 : Hid (Pw4 w0 w w2 b M R w.heap.size s (J p) u9 acc w3) := HPa.out.grown HKK.out hb2 HF9.out hg3 hi3; have X3 : Bx w3 wr.heap.size #[.func (Fn.func 34) #[.pointer (some ⟨b, 0, none⟩)] #[], .func (Fn.func 35) #[.pointer (some ⟨b, 0, none⟩)] #[]] 80 := (hg3.block wr.heap.size (by simp) (by simp; omega)).trans HXa.out; have x1 := X3.cell 1; simp at x1; have hx3 := X3.lt; obtain ⟨d0, d1, -, e0, e1⟩ := HCL.out _ w3 HP3.out.pw; clear hi3 hg3 X3)
            go_roundw
            case rel => exact ⟨4, by omega, rfl, rfl, by first | rfl | go_num, HN2.out, HP3.out⟩
            case measure => simp [intOf]
          | true =>
            rw [hZ] at HF0
            have HCU : Hid (∀ v, In w0 b M s v → Calls Tryz.prog 35 #[.pointer (some ⟨b, 0, none⟩), .int .i64 (p : Int)] v fun e v' => e = .returned (.tuple #[tokV p (cR s p 3), fltV (cR s p 3)]) ∧ In w0 b M s v' ∧ v.grownBy v' (some b)) := fun v hv => cuts_any HG.out s p 3 hs hlt (by omega) hZ v hv
            have hpce := row_pce s p 3 (by omega) HNO.out hZ
            cases hV : cR s p 3 with
            | ok k t =>
              rw [hV] at hpce HCU
              obtain ⟨t1, t2, t3⟩ := pce_ok hlt hpce
              have HCN : Hid (ctK s K q = ((acc ++ [(⟨k, p, t⟩ : Tk)]) ++ (ctK s K t).1, (ctK s K t).2)) := by unfold Hid; rw [HC.out, ctK_ok hlt hK hpce]; simp
              have HCU' : Hid (∀ v, In w0 b M s v → Calls Tryz.prog 35 #[.pointer (some ⟨b, 0, none⟩), .int .i64 (p : Int)] v fun e v' => e = .returned (.tuple #[.agg #[.int .u8 (k : Int), .int .i64 (p : Int), .int .i64 (t : Int)], .agg #[.int .i64 0, .int .i64 0, .int .i64 0]]) ∧ In w0 b M s v' ∧ v.grownBy v' (some b)) := HCU
              clear hV hpce HCU hZ HNO
              go_wp2_with (first
                | (go_at_call 34; (with_reducible refine (HF0.out _ HPa.out.pw.ins).mono ?_); rintro e w3 ⟨rfl, hi3, hg3⟩; have HP3 : Hid (Pw4 w0 w w2 b M R w.heap.size s (J p) u9 acc w3) := HPa.out.grown HKK.out hb2 HF9.out hg3 hi3; have X3 : Bx w3 wr.heap.size #[.func (Fn.func 34) #[.pointer (some ⟨b, 0, none⟩)] #[], .func (Fn.func 35) #[.pointer (some ⟨b, 0, none⟩)] #[]] 80 := (hg3.block wr.heap.size (by simp) (by simp; omega)).trans HXa.out; have x1 := X3.cell 1; simp at x1; have hx3 := X3.lt; obtain ⟨d0, d1, -, e0, e1⟩ := HCL.out _ w3 HP3.out.pw; clear hi3 hg3 X3)
                | (go_at_call 35; (with_reducible refine (HCU'.out _ HP3.out.pw.ins).mono ?_); rintro e w5 ⟨rfl, hi5, hg5⟩; have HP5 : Hid (Pw4 w0 w w2 b M R w.heap.size s (J p) u9 acc w5) := HP3.out.grown HKK.out hb2 HF9.out hg5 hi5; have hs5 : w2.heap.size ≤ w5.heap.size := HP5.out.pw.sz; clear hi5 hg5 d0 d1 e0 e1 x1 hx3)
                | (at_builtin; (refine wpList_append_at _ rfl (.tmp 52) (.tmp 54) 23 rfl w2.heap.size 50 i0 (.agg #[.int .u8 0, .int .i64 0, .int .i64 0]) 3 24 Tryz.underlying23 hi hz0 hz1 hz2 rfl (by decide) _ acc.length (flat acc) rfl (((HP5.out.pw.own.alloc _).alloc _).alloc _) (some ⟨_, 0, none⟩) 1 1 [.int .u8 (k : Int), .int .i64 (p : Int), .int .i64 (t : Int)] rfl rfl (fun h => by cases h) (fun ad had => by cases had; exact cells_new3 _ _ _ _ _) (fun u hu => by simp at hu; rcases hu with rfl | rfl | rfl <;> rfl) (by unfold maxLen; omega) (by omega) (by simp; omega) ?_); intro v9 w9 ho9 hg9 _; obtain ⟨HPn, k2, kz⟩ := pw4_app HP5.out HKK.out hw2 hB0 t1 ho9 hg9; have HP9 : Hid (Pw4 w0 w w2 b M R w.heap.size s (J t) v9 (acc ++ [(⟨k, p, t⟩ : Tk)]) w9) := HPn.next HKK.out (Nat.le_of_lt t1); clear ho9 hg9 HPn))
              exact ⟨⟨t, acc ++ [(⟨k, p, t⟩ : Tk)], t2, by omega, rfl, by simp; omega, HCN.out, HP9.out⟩, by simp [intOf]; omega⟩
            | no y z =>
              rw [hV] at hpce HCU
              have hy := pce_no hlt hpce
              have HCN : Hid (ctK s K q = (acc, 0, some (y, z))) := by unfold Hid; rw [HC.out, ctK_no hlt hK hpce]; simp
              have HCU' : Hid (∀ v, In w0 b M s v → Calls Tryz.prog 35 #[.pointer (some ⟨b, 0, none⟩), .int .i64 (p : Int)] v fun e v' => e = .returned (.tuple #[.agg #[.int .u8 0, .int .i64 0, .int .i64 0], .agg #[.int .i64 (y : Int), .int .i64 0, .int .i64 (z : Int)]]) ∧ In w0 b M s v' ∧ v.grownBy v' (some b)) := HCU
              have hy0 : ((y : Int) == 0) = false := by simp; omega
              clear hV hpce HCU hZ HNO
              go_wp2_with (first
                | (go_at_call 34; (with_reducible refine (HF0.out _ HPa.out.pw.ins).mono ?_); rintro e w3 ⟨rfl, hi3, hg3⟩; have HP3 : Hid (Pw4 w0 w w2 b M R w.heap.size s (J p) u9 acc w3) := HPa.out.grown HKK.out hb2 HF9.out hg3 hi3; have X3 : Bx w3 wr.heap.size #[.func (Fn.func 34) #[.pointer (some ⟨b, 0, none⟩)] #[], .func (Fn.func 35) #[.pointer (some ⟨b, 0, none⟩)] #[]] 80 := (hg3.block wr.heap.size (by simp) (by simp; omega)).trans HXa.out; have x1 := X3.cell 1; simp at x1; have hx3 := X3.lt; obtain ⟨d0, d1, -, e0, e1⟩ := HCL.out _ w3 HP3.out.pw; clear hi3 hg3 X3)
                | (go_at_call 35; (with_reducible refine (HCU'.out _ HP3.out.pw.ins).mono ?_); rintro e w5 ⟨rfl, hi5, hg5⟩; have HP5 : Hid (Pw4 w0 w w2 b M R w.heap.size s (J p) u9 acc w5) := HP3.out.grown HKK.out hb2 HF9.out hg5 hi5; have hs5 : w2.heap.size ≤ w5.heap.size := HP5.out.pw.sz; clear hi5 hg5 d0 d1 e0 e1 x1 hx3))
              obtain ⟨w7, e7⟩ : ∃ w7, (w5.alloc (.cells #[.int .u8 0, .int .i64 0, .int .i64 0] 50)).alloc (.cells #[.int .i64 (y : Int), .int .i64 0, .int .i64 (z : Int)] 26) = w7 := ⟨_, rfl⟩
              have F7 : Bx w7 w.heap.size #[.int .i64 0, .int .i64 0, .int .i64 0] 26 := by rw [← e7]; exact (HP5.out.pw.flt.alloc _).alloc _
              have Y7 : Bx w7 (w5.heap.size + 1) #[.int .i64 (y : Int), .int .i64 0, .int .i64 (z : Int)] 26 := by
                rw [← e7]
                have := Bx.new (w5.alloc (.cells #[.int .u8 0, .int .i64 0, .int .i64 0] 50)) #[.int .i64 (y : Int), .int .i64 0, .int .i64 (z : Int)] 26
                simpa using this
              have HB7 : Hid (Below w0.heap.size w0 w7) := by unfold Hid; rw [← e7]; exact (HP5.out.pw.ins.bel.alloc HP5.out.pw.ins.bel.size _).alloc (by have := HP5.out.pw.ins.bel.size; simp; omega) _
              have HJ7 : Hid (J p w7) := by unfold Hid; rw [← e7]; exact HKK.out.stab _ _ _ HP5.out.j (frame_below (((Below.refl _ _).alloc (Nat.le_refl _) _).alloc (by simp) _))
              rw [e7]
              clear e7 HP5 HP3 HPa HXa HF0 HCU' y0 y1
              have z0 := F7.cell 0
              have z1 := F7.cell 1
              have z2 := F7.cell 2
              have f0 := F7.free 0
              have f1 := F7.free 1
              have f2 := F7.free 2
              have t0 := Y7.cell 0
              have t1 := Y7.cell 1
              have t2 := Y7.cell 2
              have l7 := F7.lt
              have m7 := Y7.lt
              simp at z0 z1 z2 t0 t1 t2
              have HF7 : Hid (Bx w7 w.heap.size #[.int .i64 0, .int .i64 0, .int .i64 0] 26) := F7
              clear F7 Y7
              go_region
              all_goals
                go_wp2
                rw [Exit.noGoto_ret]
                obtain ⟨r0, r1, r2⟩ := HF7.out.read3 (.int .i64 (y : Int)) (.int .i64 0) (.int .i64 (z : Int))
                refine bodyPost_ret (v := .tuple #[.slice none 0 0, .int .i64 0, .agg #[.int .i64 (y : Int), .int .i64 0, .int .i64 (z : Int)]]) (by simp [results, Tryz.results13, go_sem, r0, r1, r2]) rfl ⟨w2, HB2.out, PcK.no HCN.out ((bel_put3 HB7.out hW0).drew) (HKK.out.stab _ _ _ HJ7.out (frame_bel ((bel_put3 (Below.refl w.heap.size w7) (Nat.le_refl _)).drew) (by simp))) rfl⟩
        · have y0 : wr.cell? ⟨b + 1, 8, none⟩ = some (.func (Fn.func 36) #[.pointer (some ⟨b, 0, none⟩)] #[]) := XS.cell 8
          have y1 : wr.cell? ⟨b + 1, 9, none⟩ = some (.func (Fn.func 37) #[.pointer (some ⟨b, 0, none⟩)] #[]) := XS.cell 9
          have HF0 : Hid (∀ v, In w0 b M s v → Calls Tryz.prog 36 #[.pointer (some ⟨b, 0, none⟩), .int .i64 (p : Int)] v fun e v' => e = .returned (.bool (fR s p 4)) ∧ In w0 b M s v' ∧ v.grownBy v' (some b)) := fun v hv => fits_any HG.out s p 4 hs hlt (by omega) v hv
          have HPa : Hid (Pw4 w0 w w2 b M R w.heap.size s (J p) u9 acc (wr.alloc (.cells #[.func (Fn.func 36) #[.pointer (some ⟨b, 0, none⟩)] #[], .func (Fn.func 37) #[.pointer (some ⟨b, 0, none⟩)] #[]] 80))) := HP.out.below HKK.out ((Below.refl _ wr).alloc (Nat.le_refl _) _)
          have HXa : Hid (Bx (wr.alloc (.cells #[.func (Fn.func 36) #[.pointer (some ⟨b, 0, none⟩)] #[], .func (Fn.func 37) #[.pointer (some ⟨b, 0, none⟩)] #[]] 80)) wr.heap.size #[.func (Fn.func 36) #[.pointer (some ⟨b, 0, none⟩)] #[], .func (Fn.func 37) #[.pointer (some ⟨b, 0, none⟩)] #[]] 80) := Bx.new _ _ _
          clear XS
          cases hZ : fR s p 4 with
          | false =>
            rw [hZ] at HF0
            have HN2 : Hid (∀ i, i < 5 → fR s p i = false) := fun i hi => by
              by_cases h : i = 4
              · subst h; exact hZ
              · exact HNO.out i (by omega)
            go_wp2_with (go_at_call 36; (with_reducible refine (HF0.out _ HPa.out.pw.ins).mono ?_); rintro e w3 ⟨rfl, hi3, hg3⟩; have HP3 : Hid (Pw4 w0 w w2 b M R w.heap.size s (J p) u9 acc w3) := HPa.out.grown HKK.out hb2 HF9.out hg3 hi3; have X3 : Bx w3 wr.heap.size #[.func (Fn.func 36) #[.pointer (some ⟨b, 0, none⟩)] #[], .func (Fn.func 37) #[.pointer (some ⟨b, 0, none⟩)] #[]] 80 := (hg3.block wr.heap.size (by simp) (by simp; omega)).trans HXa.out; have x1 := X3.cell 1; simp at x1; have hx3 := X3.lt; obtain ⟨d0, d1, -, e0, e1⟩ := HCL.out _ w3 HP3.out.pw; clear hi3 hg3 X3)
            go_roundw
            case rel => exact ⟨5, by omega, rfl, rfl, by first | rfl | go_num, HN2.out, HP3.out⟩
            case measure => simp [intOf]
          | true =>
            rw [hZ] at HF0
            have HCU : Hid (∀ v, In w0 b M s v → Calls Tryz.prog 37 #[.pointer (some ⟨b, 0, none⟩), .int .i64 (p : Int)] v fun e v' => e = .returned (.tuple #[tokV p (cR s p 4), fltV (cR s p 4)]) ∧ In w0 b M s v' ∧ v.grownBy v' (some b)) := fun v hv => cuts_any HG.out s p 4 hs hlt (by omega) hZ v hv
            have hpce := row_pce s p 4 (by omega) HNO.out hZ
            cases hV : cR s p 4 with
            | ok k t =>
              rw [hV] at hpce HCU
              obtain ⟨t1, t2, t3⟩ := pce_ok hlt hpce
              have HCN : Hid (ctK s K q = ((acc ++ [(⟨k, p, t⟩ : Tk)]) ++ (ctK s K t).1, (ctK s K t).2)) := by unfold Hid; rw [HC.out, ctK_ok hlt hK hpce]; simp
              have HCU' : Hid (∀ v, In w0 b M s v → Calls Tryz.prog 37 #[.pointer (some ⟨b, 0, none⟩), .int .i64 (p : Int)] v fun e v' => e = .returned (.tuple #[.agg #[.int .u8 (k : Int), .int .i64 (p : Int), .int .i64 (t : Int)], .agg #[.int .i64 0, .int .i64 0, .int .i64 0]]) ∧ In w0 b M s v' ∧ v.grownBy v' (some b)) := HCU
              clear hV hpce HCU hZ HNO
              go_wp2_with (first
                | (go_at_call 36; (with_reducible refine (HF0.out _ HPa.out.pw.ins).mono ?_); rintro e w3 ⟨rfl, hi3, hg3⟩; have HP3 : Hid (Pw4 w0 w w2 b M R w.heap.size s (J p) u9 acc w3) := HPa.out.grown HKK.out hb2 HF9.out hg3 hi3; have X3 : Bx w3 wr.heap.size #[.func (Fn.func 36) #[.pointer (some ⟨b, 0, none⟩)] #[], .func (Fn.func 37) #[.pointer (some ⟨b, 0, none⟩)] #[]] 80 := (hg3.block wr.heap.size (by simp) (by simp; omega)).trans HXa.out; have x1 := X3.cell 1; simp at x1; have hx3 := X3.lt; obtain ⟨d0, d1, -, e0, e1⟩ := HCL.out _ w3 HP3.out.pw; clear hi3 hg3 X3)
                | (go_at_call 37; (with_reducible refine (HCU'.out _ HP3.out.pw.ins).mono ?_); rintro e w5 ⟨rfl, hi5, hg5⟩; have HP5 : Hid (Pw4 w0 w w2 b M R w.heap.size s (J p) u9 acc w5) := HP3.out.grown HKK.out hb2 HF9.out hg5 hi5; have hs5 : w2.heap.size ≤ w5.heap.size := HP5.out.pw.sz; clear hi5 hg5 d0 d1 e0 e1 x1 hx3)
                | (at_builtin; (refine wpList_append_at _ rfl (.tmp 52) (.tmp 54) 23 rfl w2.heap.size 50 i0 (.agg #[.int .u8 0, .int .i64 0, .int .i64 0]) 3 24 Tryz.underlying23 hi hz0 hz1 hz2 rfl (by decide) _ acc.length (flat acc) rfl (((HP5.out.pw.own.alloc _).alloc _).alloc _) (some ⟨_, 0, none⟩) 1 1 [.int .u8 (k : Int), .int .i64 (p : Int), .int .i64 (t : Int)] rfl rfl (fun h => by cases h) (fun ad had => by cases had; exact cells_new3 _ _ _ _ _) (fun u hu => by simp at hu; rcases hu with rfl | rfl | rfl <;> rfl) (by unfold maxLen; omega) (by omega) (by simp; omega) ?_); intro v9 w9 ho9 hg9 _; obtain ⟨HPn, k2, kz⟩ := pw4_app HP5.out HKK.out hw2 hB0 t1 ho9 hg9; have HP9 : Hid (Pw4 w0 w w2 b M R w.heap.size s (J t) v9 (acc ++ [(⟨k, p, t⟩ : Tk)]) w9) := HPn.next HKK.out (Nat.le_of_lt t1); clear ho9 hg9 HPn))
              exact ⟨⟨t, acc ++ [(⟨k, p, t⟩ : Tk)], t2, by omega, rfl, by simp; omega, HCN.out, HP9.out⟩, by simp [intOf]; omega⟩
            | no y z =>
              rw [hV] at hpce HCU
              have hy := pce_no hlt hpce
              have HCN : Hid (ctK s K q = (acc, 0, some (y, z))) := by unfold Hid; rw [HC.out, ctK_no hlt hK hpce]; simp
              have HCU' : Hid (∀ v, In w0 b M s v → Calls Tryz.prog 37 #[.pointer (some ⟨b, 0, none⟩), .int .i64 (p : Int)] v fun e v' => e = .returned (.tuple #[.agg #[.int .u8 0, .int .i64 0, .int .i64 0], .agg #[.int .i64 (y : Int), .int .i64 0, .int .i64 (z : Int)]]) ∧ In w0 b M s v' ∧ v.grownBy v' (some b)) := HCU
              have hy0 : ((y : Int) == 0) = false := by simp; omega
              clear hV hpce HCU hZ HNO
              go_wp2_with (first
                | (go_at_call 36; (with_reducible refine (HF0.out _ HPa.out.pw.ins).mono ?_); rintro e w3 ⟨rfl, hi3, hg3⟩; have HP3 : Hid (Pw4 w0 w w2 b M R w.heap.size s (J p) u9 acc w3) := HPa.out.grown HKK.out hb2 HF9.out hg3 hi3; have X3 : Bx w3 wr.heap.size #[.func (Fn.func 36) #[.pointer (some ⟨b, 0, none⟩)] #[], .func (Fn.func 37) #[.pointer (some ⟨b, 0, none⟩)] #[]] 80 := (hg3.block wr.heap.size (by simp) (by simp; omega)).trans HXa.out; have x1 := X3.cell 1; simp at x1; have hx3 := X3.lt; obtain ⟨d0, d1, -, e0, e1⟩ := HCL.out _ w3 HP3.out.pw; clear hi3 hg3 X3)
                | (go_at_call 37; (with_reducible refine (HCU'.out _ HP3.out.pw.ins).mono ?_); rintro e w5 ⟨rfl, hi5, hg5⟩; have HP5 : Hid (Pw4 w0 w w2 b M R w.heap.size s (J p) u9 acc w5) := HP3.out.grown HKK.out hb2 HF9.out hg5 hi5; have hs5 : w2.heap.size ≤ w5.heap.size := HP5.out.pw.sz; clear hi5 hg5 d0 d1 e0 e1 x1 hx3))
              obtain ⟨w7, e7⟩ : ∃ w7, (w5.alloc (.cells #[.int .u8 0, .int .i64 0, .int .i64 0] 50)).alloc (.cells #[.int .i64 (y : Int), .int .i64 0, .int .i64 (z : Int)] 26) = w7 := ⟨_, rfl⟩
              have F7 : Bx w7 w.heap.size #[.int .i64 0, .int .i64 0, .int .i64 0] 26 := by rw [← e7]; exact (HP5.out.pw.flt.alloc _).alloc _
              have Y7 : Bx w7 (w5.heap.size + 1) #[.int .i64 (y : Int), .int .i64 0, .int .i64 (z : Int)] 26 := by
                rw [← e7]
                have := Bx.new (w5.alloc (.cells #[.int .u8 0, .int .i64 0, .int .i64 0] 50)) #[.int .i64 (y : Int), .int .i64 0, .int .i64 (z : Int)] 26
                simpa using this
              have HB7 : Hid (Below w0.heap.size w0 w7) := by unfold Hid; rw [← e7]; exact (HP5.out.pw.ins.bel.alloc HP5.out.pw.ins.bel.size _).alloc (by have := HP5.out.pw.ins.bel.size; simp; omega) _
              have HJ7 : Hid (J p w7) := by unfold Hid; rw [← e7]; exact HKK.out.stab _ _ _ HP5.out.j (frame_below (((Below.refl _ _).alloc (Nat.le_refl _) _).alloc (by simp) _))
              rw [e7]
              clear e7 HP5 HP3 HPa HXa HF0 HCU' y0 y1
              have z0 := F7.cell 0
              have z1 := F7.cell 1
              have z2 := F7.cell 2
              have f0 := F7.free 0
              have f1 := F7.free 1
              have f2 := F7.free 2
              have t0 := Y7.cell 0
              have t1 := Y7.cell 1
              have t2 := Y7.cell 2
              have l7 := F7.lt
              have m7 := Y7.lt
              simp at z0 z1 z2 t0 t1 t2
              have HF7 : Hid (Bx w7 w.heap.size #[.int .i64 0, .int .i64 0, .int .i64 0] 26) := F7
              clear F7 Y7
              go_region
              all_goals
                go_wp2
                rw [Exit.noGoto_ret]
                obtain ⟨r0, r1, r2⟩ := HF7.out.read3 (.int .i64 (y : Int)) (.int .i64 0) (.int .i64 (z : Int))
                refine bodyPost_ret (v := .tuple #[.slice none 0 0, .int .i64 0, .agg #[.int .i64 (y : Int), .int .i64 0, .int .i64 (z : Int)]]) (by simp [results, Tryz.results13, go_sem, r0, r1, r2]) rfl ⟨w2, HB2.out, PcK.no HCN.out ((bel_put3 HB7.out hW0).drew) (HKK.out.stab _ _ _ HJ7.out (frame_bel ((bel_put3 (Below.refl w.heap.size w7) (Nat.le_refl _)).drew) (by simp))) rfl⟩
        · have y0 : wr.cell? ⟨b + 1, 10, none⟩ = some (.func (Fn.func 38) #[.pointer (some ⟨b, 0, none⟩)] #[]) := XS.cell 10
          have y1 : wr.cell? ⟨b + 1, 11, none⟩ = some (.func (Fn.func 39) #[.pointer (some ⟨b, 0, none⟩)] #[]) := XS.cell 11
          have HF0 : Hid (∀ v, In w0 b M s v → Calls Tryz.prog 38 #[.pointer (some ⟨b, 0, none⟩), .int .i64 (p : Int)] v fun e v' => e = .returned (.bool (fR s p 5)) ∧ In w0 b M s v' ∧ v.grownBy v' (some b)) := fun v hv => fits_any HG.out s p 5 hs hlt (by omega) v hv
          have HPa : Hid (Pw4 w0 w w2 b M R w.heap.size s (J p) u9 acc (wr.alloc (.cells #[.func (Fn.func 38) #[.pointer (some ⟨b, 0, none⟩)] #[], .func (Fn.func 39) #[.pointer (some ⟨b, 0, none⟩)] #[]] 80))) := HP.out.below HKK.out ((Below.refl _ wr).alloc (Nat.le_refl _) _)
          have HXa : Hid (Bx (wr.alloc (.cells #[.func (Fn.func 38) #[.pointer (some ⟨b, 0, none⟩)] #[], .func (Fn.func 39) #[.pointer (some ⟨b, 0, none⟩)] #[]] 80)) wr.heap.size #[.func (Fn.func 38) #[.pointer (some ⟨b, 0, none⟩)] #[], .func (Fn.func 39) #[.pointer (some ⟨b, 0, none⟩)] #[]] 80) := Bx.new _ _ _
          clear XS
          cases hZ : fR s p 5 with
          | false =>
            rw [hZ] at HF0
            have HN2 : Hid (∀ i, i < 6 → fR s p i = false) := fun i hi => by
              by_cases h : i = 5
              · subst h; exact hZ
              · exact HNO.out i (by omega)
            go_wp2_with (go_at_call 38; (with_reducible refine (HF0.out _ HPa.out.pw.ins).mono ?_); rintro e w3 ⟨rfl, hi3, hg3⟩; have HP3 : Hid (Pw4 w0 w w2 b M R w.heap.size s (J p) u9 acc w3) := HPa.out.grown HKK.out hb2 HF9.out hg3 hi3; have X3 : Bx w3 wr.heap.size #[.func (Fn.func 38) #[.pointer (some ⟨b, 0, none⟩)] #[], .func (Fn.func 39) #[.pointer (some ⟨b, 0, none⟩)] #[]] 80 := (hg3.block wr.heap.size (by simp) (by simp; omega)).trans HXa.out; have x1 := X3.cell 1; simp at x1; have hx3 := X3.lt; obtain ⟨d0, d1, -, e0, e1⟩ := HCL.out _ w3 HP3.out.pw; clear hi3 hg3 X3)
            go_roundw
            case rel => exact ⟨6, by omega, rfl, rfl, by first | rfl | go_num, HN2.out, HP3.out⟩
            case measure => simp [intOf]
          | true =>
            rw [hZ] at HF0
            have HCU : Hid (∀ v, In w0 b M s v → Calls Tryz.prog 39 #[.pointer (some ⟨b, 0, none⟩), .int .i64 (p : Int)] v fun e v' => e = .returned (.tuple #[tokV p (cR s p 5), fltV (cR s p 5)]) ∧ In w0 b M s v' ∧ v.grownBy v' (some b)) := fun v hv => cuts_any HG.out s p 5 hs hlt (by omega) hZ v hv
            have hpce := row_pce s p 5 (by omega) HNO.out hZ
            cases hV : cR s p 5 with
            | ok k t =>
              rw [hV] at hpce HCU
              obtain ⟨t1, t2, t3⟩ := pce_ok hlt hpce
              have HCN : Hid (ctK s K q = ((acc ++ [(⟨k, p, t⟩ : Tk)]) ++ (ctK s K t).1, (ctK s K t).2)) := by unfold Hid; rw [HC.out, ctK_ok hlt hK hpce]; simp
              have HCU' : Hid (∀ v, In w0 b M s v → Calls Tryz.prog 39 #[.pointer (some ⟨b, 0, none⟩), .int .i64 (p : Int)] v fun e v' => e = .returned (.tuple #[.agg #[.int .u8 (k : Int), .int .i64 (p : Int), .int .i64 (t : Int)], .agg #[.int .i64 0, .int .i64 0, .int .i64 0]]) ∧ In w0 b M s v' ∧ v.grownBy v' (some b)) := HCU
              clear hV hpce HCU hZ HNO
              go_wp2_with (first
                | (go_at_call 38; (with_reducible refine (HF0.out _ HPa.out.pw.ins).mono ?_); rintro e w3 ⟨rfl, hi3, hg3⟩; have HP3 : Hid (Pw4 w0 w w2 b M R w.heap.size s (J p) u9 acc w3) := HPa.out.grown HKK.out hb2 HF9.out hg3 hi3; have X3 : Bx w3 wr.heap.size #[.func (Fn.func 38) #[.pointer (some ⟨b, 0, none⟩)] #[], .func (Fn.func 39) #[.pointer (some ⟨b, 0, none⟩)] #[]] 80 := (hg3.block wr.heap.size (by simp) (by simp; omega)).trans HXa.out; have x1 := X3.cell 1; simp at x1; have hx3 := X3.lt; obtain ⟨d0, d1, -, e0, e1⟩ := HCL.out _ w3 HP3.out.pw; clear hi3 hg3 X3)
                | (go_at_call 39; (with_reducible refine (HCU'.out _ HP3.out.pw.ins).mono ?_); rintro e w5 ⟨rfl, hi5, hg5⟩; have HP5 : Hid (Pw4 w0 w w2 b M R w.heap.size s (J p) u9 acc w5) := HP3.out.grown HKK.out hb2 HF9.out hg5 hi5; have hs5 : w2.heap.size ≤ w5.heap.size := HP5.out.pw.sz; clear hi5 hg5 d0 d1 e0 e1 x1 hx3)
                | (at_builtin; (refine wpList_append_at _ rfl (.tmp 52) (.tmp 54) 23 rfl w2.heap.size 50 i0 (.agg #[.int .u8 0, .int .i64 0, .int .i64 0]) 3 24 Tryz.underlying23 hi hz0 hz1 hz2 rfl (by decide) _ acc.length (flat acc) rfl (((HP5.out.pw.own.alloc _).alloc _).alloc _) (some ⟨_, 0, none⟩) 1 1 [.int .u8 (k : Int), .int .i64 (p : Int), .int .i64 (t : Int)] rfl rfl (fun h => by cases h) (fun ad had => by cases had; exact cells_new3 _ _ _ _ _) (fun u hu => by simp at hu; rcases hu with rfl | rfl | rfl <;> rfl) (by unfold maxLen; omega) (by omega) (by simp; omega) ?_); intro v9 w9 ho9 hg9 _; obtain ⟨HPn, k2, kz⟩ := pw4_app HP5.out HKK.out hw2 hB0 t1 ho9 hg9; have HP9 : Hid (Pw4 w0 w w2 b M R w.heap.size s (J t) v9 (acc ++ [(⟨k, p, t⟩ : Tk)]) w9) := HPn.next HKK.out (Nat.le_of_lt t1); clear ho9 hg9 HPn))
              exact ⟨⟨t, acc ++ [(⟨k, p, t⟩ : Tk)], t2, by omega, rfl, by simp; omega, HCN.out, HP9.out⟩, by simp [intOf]; omega⟩
            | no y z =>
              rw [hV] at hpce HCU
              have hy := pce_no hlt hpce
              have HCN : Hid (ctK s K q = (acc, 0, some (y, z))) := by unfold Hid; rw [HC.out, ctK_no hlt hK hpce]; simp
              have HCU' : Hid (∀ v, In w0 b M s v → Calls Tryz.prog 39 #[.pointer (some ⟨b, 0, none⟩), .int .i64 (p : Int)] v fun e v' => e = .returned (.tuple #[.agg #[.int .u8 0, .int .i64 0, .int .i64 0], .agg #[.int .i64 (y : Int), .int .i64 0, .int .i64 (z : Int)]]) ∧ In w0 b M s v' ∧ v.grownBy v' (some b)) := HCU
              have hy0 : ((y : Int) == 0) = false := by simp; omega
              clear hV hpce HCU hZ HNO
              go_wp2_with (first
                | (go_at_call 38; (with_reducible refine (HF0.out _ HPa.out.pw.ins).mono ?_); rintro e w3 ⟨rfl, hi3, hg3⟩; have HP3 : Hid (Pw4 w0 w w2 b M R w.heap.size s (J p) u9 acc w3) := HPa.out.grown HKK.out hb2 HF9.out hg3 hi3; have X3 : Bx w3 wr.heap.size #[.func (Fn.func 38) #[.pointer (some ⟨b, 0, none⟩)] #[], .func (Fn.func 39) #[.pointer (some ⟨b, 0, none⟩)] #[]] 80 := (hg3.block wr.heap.size (by simp) (by simp; omega)).trans HXa.out; have x1 := X3.cell 1; simp at x1; have hx3 := X3.lt; obtain ⟨d0, d1, -, e0, e1⟩ := HCL.out _ w3 HP3.out.pw; clear hi3 hg3 X3)
                | (go_at_call 39; (with_reducible refine (HCU'.out _ HP3.out.pw.ins).mono ?_); rintro e w5 ⟨rfl, hi5, hg5⟩; have HP5 : Hid (Pw4 w0 w w2 b M R w.heap.size s (J p) u9 acc w5) := HP3.out.grown HKK.out hb2 HF9.out hg5 hi5; have hs5 : w2.heap.size ≤ w5.heap.size := HP5.out.pw.sz; clear hi5 hg5 d0 d1 e0 e1 x1 hx3))
              obtain ⟨w7, e7⟩ : ∃ w7, (w5.alloc (.cells #[.int .u8 0, .int .i64 0, .int .i64 0] 50)).alloc (.cells #[.int .i64 (y : Int), .int .i64 0, .int .i64 (z : Int)] 26) = w7 := ⟨_, rfl⟩
              have F7 : Bx w7 w.heap.size #[.int .i64 0, .int .i64 0, .int .i64 0] 26 := by rw [← e7]; exact (HP5.out.pw.flt.alloc _).alloc _
              have Y7 : Bx w7 (w5.heap.size + 1) #[.int .i64 (y : Int), .int .i64 0, .int .i64 (z : Int)] 26 := by
                rw [← e7]
                have := Bx.new (w5.alloc (.cells #[.int .u8 0, .int .i64 0, .int .i64 0] 50)) #[.int .i64 (y : Int), .int .i64 0, .int .i64 (z : Int)] 26
                simpa using this
              have HB7 : Hid (Below w0.heap.size w0 w7) := by unfold Hid; rw [← e7]; exact (HP5.out.pw.ins.bel.alloc HP5.out.pw.ins.bel.size _).alloc (by have := HP5.out.pw.ins.bel.size; simp; omega) _
              have HJ7 : Hid (J p w7) := by unfold Hid; rw [← e7]; exact HKK.out.stab _ _ _ HP5.out.j (frame_below (((Below.refl _ _).alloc (Nat.le_refl _) _).alloc (by simp) _))
              rw [e7]
              clear e7 HP5 HP3 HPa HXa HF0 HCU' y0 y1
              have z0 := F7.cell 0
              have z1 := F7.cell 1
              have z2 := F7.cell 2
              have f0 := F7.free 0
              have f1 := F7.free 1
              have f2 := F7.free 2
              have t0 := Y7.cell 0
              have t1 := Y7.cell 1
              have t2 := Y7.cell 2
              have l7 := F7.lt
              have m7 := Y7.lt
              simp at z0 z1 z2 t0 t1 t2
              have HF7 : Hid (Bx w7 w.heap.size #[.int .i64 0, .int .i64 0, .int .i64 0] 26) := F7
              clear F7 Y7
              go_region
              all_goals
                go_wp2
                rw [Exit.noGoto_ret]
                obtain ⟨r0, r1, r2⟩ := HF7.out.read3 (.int .i64 (y : Int)) (.int .i64 0) (.int .i64 (z : Int))
                refine bodyPost_ret (v := .tuple #[.slice none 0 0, .int .i64 0, .agg #[.int .i64 (y : Int), .int .i64 0, .int .i64 (z : Int)]]) (by simp [results, Tryz.results13, go_sem, r0, r1, r2]) rfl ⟨w2, HB2.out, PcK.no HCN.out ((bel_put3 HB7.out hW0).drew) (HKK.out.stab _ _ _ HJ7.out (frame_bel ((bel_put3 (Below.refl w.heap.size w7) (Nat.le_refl _)).drew) (by simp))) rfl⟩
        · have HCN : Hid (ctK s K q = (acc, 0, some (20, p))) := by unfold Hid; rw [HC.out, ctK_no hlt hK (row_none s p hlt HNO.out)]; simp
          have h66 : ¬ (6 : Int) < 6 := by decide
          clear XS
          go_wp2_with (go_at_call 22; (with_reducible refine (faultAt_any _ _ _).mono ?_); rintro e w4 ⟨rfl, hb4⟩; have HP4 : Hid (Pw4 w0 w w2 b M R w.heap.size s (J p) u9 acc w4) := HP.out.below HKK.out hb4; clear hb4; have F7 := HP4.out.pw.flt; have z0 := F7.cell 0; have z1 := F7.cell 1; have z2 := F7.cell 2; have f0 := F7.free 0; have f1 := F7.free 1; have f2 := F7.free 2; have l7 := F7.lt; simp at z0 z1 z2; clear F7)
          rw [Exit.noGoto_ret]
          obtain ⟨r0, r1, r2⟩ := HP4.out.pw.flt.read3 (.int .i64 20) (.int .i64 0) (.int .i64 (p : Int))
          refine bodyPost_ret (v := .tuple #[.slice none 0 0, .int .i64 0, .agg #[.int .i64 20, .int .i64 0, .int .i64 (p : Int)]]) (by simp [results, Tryz.results13, go_sem, r0, r1, r2]) rfl ⟨w2, HB2.out, PcK.no HCN.out (bel_put3 HP4.out.pw.ins.bel hW0) (HKK.out.stab _ _ _ HP4.out.j frame_put3) rfl⟩
    · have hge : ¬ (p : Int) < (s.size : Int) := by omega
      have hps : p = s.size := by omega
      have hW0 : w0.heap.size ≤ w.heap.size := by have := HG.out.b0; omega
      have HCN : Hid (ctK s K q = (acc, p, none)) := by unfold Hid; rw [HC.out, ctK_end hlt]; simp
      obtain ⟨c0, c1, -, q0, q1⟩ := HCL.out _ wr HP.out.pw
      have F7 := HP.out.pw.flt
      have z0 := F7.cell 0
      have z1 := F7.cell 1
      have z2 := F7.cell 2
      have f0 := F7.free 0
      have f1 := F7.free 1
      have f2 := F7.free 2
      have l7 := F7.lt
      simp at z0 z1 z2
      obtain ⟨r0, r1, r2⟩ := F7.read3 (.int .i64 0) (.int .i64 0) (.int .i64 0)
      obtain ⟨a9, c9, hv9, -, -⟩ := own_slice HP.out.pw.own
      subst hv9
      clear F7
      subst hps
      go_wp2
      refine bodyPost_ret (v := .tuple #[.slice a9 acc.length c9, .int .i64 (s.size : Int), .agg #[.int .i64 0, .int .i64 0, .int .i64 0]]) (by simp [results, Tryz.results13, go_sem, r0, r1, r2]) rfl ⟨w2, HB2.out, PcK.ok HCN.out (bel_put3 HP.out.pw.ins.bel hW0) ⟨a9, c9, rfl, own_put3 HP.out.pw.own HP.out.pw.flt (by decide), HKK.out.stab _ _ _ HP.out.j frame_put3, .inl rfl⟩⟩
end Go.Proofs.YtmnbakalcpanlaaGreatDoor
