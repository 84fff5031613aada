import Derived.Test.YtgijcbipnjmhgabGreatGr5c
namespace Go.Proofs.YtgijcbipnjmhgabGreat
open Go.ChangeShapes Go.WideShapes Go.ChangeAt Go.RowKit
set_option linter.unusedVariables false
set_option linter.unusedSimpArgs false

/-- a search from x0: marks m, a queue q; P: what is being looked at -/
structure Bf (ps : List Pr) (n x0 : Nat) (P : Nat → Prop) (m : List Bool) (q : List Nat) : Prop where
  len : m.length = n
  start : m[x0]? = some true
  qm : ∀ y ∈ q, m[y]? = some true
  reach : ∀ y : Nat, m[y]? = some true → Rch ps x0 y
  closed : ∀ y y' : Nat, m[y]? = some true → y ∉ q → ¬ P y → (⟨(y : Int), (y' : Int)⟩ : Pr) ∈ ps → m[y']? = some true
theorem set_true {m : List Bool} {x y : Nat} : (m.set x true)[y]? = some true ↔ m[y]? = some true ∨ (y = x ∧ x < m.length) := by
  rw [List.getElem?_set]
  by_cases h : x = y
  · subst h
    rw [if_pos rfl]
    by_cases h2 : x < m.length
    · rw [if_pos h2]; simp [h2]
    · rw [if_neg h2]
      constructor
      · intro h; cases h
      · rintro (h | h)
        · exact absurd (List.getElem?_eq_some_iff.1 h).1 h2
        · exact absurd h.2 h2
  · rw [if_neg h]
    constructor
    · exact .inl
    · rintro (h1 | ⟨h1, _⟩)
      · exact h1
      · exact absurd h1.symm h
theorem Bf.first {ps : List Pr} {n x0 : Nat} (hx : x0 < n) : Bf ps n x0 (fun _ => False) ((List.replicate n false).set x0 true) [x0] := by
  have h0 : ∀ y : Nat, ((List.replicate n false).set x0 true)[y]? = some true → y = x0 := fun y hy => by
    rcases set_true.1 hy with h | h
    · rw [List.getElem?_replicate] at h
      split at h
      · cases h
      · cases h
    · exact h.1
  refine ⟨by simp, set_true.2 (.inr ⟨rfl, by simpa using hx⟩), fun y hy => ?_, fun y hy => ?_, fun y y' hy hq _ _ => ?_⟩
  · rw [List.mem_singleton] at hy; subst hy; exact set_true.2 (.inr ⟨rfl, by simpa using hx⟩)
  · rw [h0 y hy]; exact .refl _
  · exact absurd (h0 y hy) (by simpa using hq)
theorem Bf.pop {ps : List Pr} {n x0 x : Nat} {m : List Bool} {q : List Nat} (h : Bf ps n x0 (fun _ => False) m (x :: q)) : Bf ps n x0 (fun y => y = x) m q :=
  ⟨h.len, h.start, fun y hy => h.qm y (List.mem_cons_of_mem _ hy), h.reach, fun y y' hy hq hP he => h.closed y y' hy (fun hc => by rcases List.mem_cons.1 hc with hc | hc; exact hP hc; exact hq hc) id he⟩
theorem Bf.push {ps : List Pr} {n x0 x y : Nat} {m : List Bool} {q : List Nat} (h : Bf ps n x0 (fun y => y = x) m q) (hx : m[x]? = some true) (hy : m[y]? = some false) (he : (⟨(x : Int), (y : Int)⟩ : Pr) ∈ ps) : Bf ps n x0 (fun y => y = x) (m.set y true) (q ++ [y]) := by
  have hl := (List.getElem?_eq_some_iff.1 hy).1
  refine ⟨by rw [List.length_set]; exact h.len, set_true.2 (.inl h.start), fun z hz => ?_, fun z hz => ?_, fun z z' hz hq hP hzz => ?_⟩
  · rcases List.mem_append.1 hz with hz | hz
    · exact set_true.2 (.inl (h.qm z hz))
    · rw [List.mem_singleton] at hz; subst hz; exact set_true.2 (.inr ⟨rfl, hl⟩)
  · rcases set_true.1 hz with hz | hz
    · exact h.reach z hz
    · rw [hz.1]; exact (h.reach x hx).trans (.step he (.refl _))
  · rw [List.mem_append, not_or, List.mem_singleton] at hq
    rcases set_true.1 hz with hz | hz
    · exact set_true.2 (.inl (h.closed z z' hz hq.1 hP hzz))
    · exact absurd hz.1 hq.2
theorem Bf.done {ps : List Pr} {n x0 x : Nat} {m : List Bool} {q : List Nat} (h : Bf ps n x0 (fun y => y = x) m q) (hd : ∀ y' : Nat, (⟨(x : Int), (y' : Int)⟩ : Pr) ∈ ps → m[y']? = some true) : Bf ps n x0 (fun _ => False) m q :=
  ⟨h.len, h.start, h.qm, h.reach, fun y y' hy hq _ he => by
    by_cases e : y = x
    · subst e; exact hd y' he
    · exact h.closed y y' hy hq e he⟩
theorem Bf.fin {ps : List Pr} {n x0 : Nat} {m : List Bool} (h : Bf ps n x0 (fun _ => False) m []) (y : Nat) : m[y]? = some true ↔ Rch ps x0 y := by
  refine ⟨h.reach y, fun hr => ?_⟩
  have fwd : ∀ a b : Nat, Rch ps a b → m[a]? = some true → m[b]? = some true := by
    intro a b hab
    induction hab with
    | refl => exact id
    | step e _ ih => exact fun ha => ih (h.closed _ _ ha (by simp) id e)
  exact fwd x0 y hr h.start
/-- the search's own: its marks and its queue -/
structure Rd (B gm n : Nat) (w : World) (v : Value) (m : List Bool) (q : List Nat) (z : World) : Prop where
  met : z.ownsRow B 4 1 (.slice (some ⟨gm, 0, none⟩) n n) n (m.map Value.bool)
  que : Qu B z v q
  bel : Below B w z
  base : B ≤ z.heap.size
theorem Rd.get {B gm n : Nat} {w z : World} {v : Value} {m : List Bool} {q : List Nat} (h : Rd B gm n w v m q z) {x : Nat} {b : Bool} (hx : m[x]? = some b) : z.cell? ⟨gm, x, none⟩ = some (.bool b) ∧ z.frozen? ⟨gm, x, none⟩ = false := by
  have h1 := h.met.cells rfl x (.bool b) (by rw [List.getElem?_map, hx]; rfl)
  rw [addr_add, Nat.zero_add] at h1
  exact ⟨h1, h.met.frozenAt x⟩
theorem Rd.set {B gm n : Nat} {w z : World} {v : Value} {m : List Bool} {q : List Nat} (h : Rd B gm n w v m q z) (x : Nat) : Rd B gm n w v (m.set x true) q (z.setCell ⟨gm, x, none⟩ (.bool true)) := by
  obtain ⟨c, fz, hh⟩ := row_kindR h.met gm rfl
  refine ⟨?_, h.que.far hh (by decide), h.bel.setCell (p := ⟨gm, x, none⟩) (h.met.lt gm rfl).1 _, by simp; exact h.base⟩
  have := (World.ownsRow.stored h.met x (.bool true)).1
  rw [List.map_set]
  exact this
theorem Rd.below {B gm n : Nat} {w z z' : World} {v : Value} {m : List Bool} {q : List Nat} (h : Rd B gm n w v m q z) (hb : Below z.heap.size z z') : Rd B gm n w v m q z' :=
  ⟨ownsRow_below h.met hb (Nat.le_refl _), h.que.below hb (Nat.le_refl _), h.bel.trans (hb.mono h.base), Nat.le_trans h.base hb.size⟩
theorem Rd.grw {B gm n : Nat} {w z z' : World} {v v' : Value} {m : List Bool} {q q' : List Nat} (h : Rd B gm n w v m q z) (hq : Qu B z' v' q') (hg : z.grownBy z' v.ownBlock) : Rd B gm n w v' m q' z' := by
  obtain ⟨g, off, cap, cur, rfl, hgB, hh, -⟩ := h.que
  refine ⟨own_grwR h.met hg (fun k hk e => ?_), hq, h.bel.grown hg h.base (fun k hk => by cases hk; exact hgB), Nat.le_trans h.base hg.size⟩
  cases hk
  obtain ⟨c, fz, h2⟩ := row_kindR h.met g e
  rw [hh] at h2
  cases h2

set_option maxRecDepth 1000000 in
set_option maxHeartbeats 4000000 in
theorem reached_any (B1 gV n x0 : Nat) (wx w : World) (rs : List Rr) (ps : List Pr) (hn : n ≤ 131072) (hx : x0 < n) (hLw : Lw B1 gV n wx w rs) (hA : Ad .i64 ps rs) (hps : ∀ p ∈ ps, 0 ≤ p.b ∧ p.b < (n : Int)) (hpl : ps.length ≤ 8796093022208) :
    Calls Tryz.prog 36 #[.int .i64 (n : Int), .slice (some ⟨gV, 0, none⟩) n n, .int .i64 (x0 : Int)] w fun e w' => e = .returned (.slice (some ⟨w.heap.size, 0, none⟩) n n) ∧ Below w.heap.size w w' ∧ ∃ m : List Bool, w'.ownsRow w.heap.size 4 1 (.slice (some ⟨w.heap.size, 0, none⟩) n n) n (m.map Value.bool) ∧ m.length = n ∧ ∀ y : Nat, m[y]? = some true ↔ Rch ps x0 y := by
  obtain ⟨i0, hi0, hz0, hz1, hz2⟩ := info_parts infoBool
  obtain ⟨i1, hi1, hy0, hy1, hy2⟩ := info_parts infoInt
  have HL : Hid (Lw B1 gV n wx w rs) := hLw
  have HA : Hid (Ad .i64 ps rs) := hA
  have HPS : Hid (∀ p ∈ ps, 0 ≤ p.b ∧ p.b < (n : Int)) := hps
  have hx0 : (x0 : Int) < (n : Int) := by omega
  obtain ⟨B, hB⟩ : ∃ B, w.heap.size = B := ⟨_, rfl⟩
  have HBq : Hid (w.heap.size = B) := hB
  clear hLw hA hps hB
  have FST : Hid (∀ w1, w1.ownsRow B 4 1 (.slice (some ⟨B, 0, none⟩) n n) n (List.replicate n (.bool false)) → w.grownBy w1 none → w1.cell? ⟨B, x0, none⟩ = some (.bool false) ∧ w1.frozen? ⟨B, x0, none⟩ = false ∧ (w1.setCell ⟨B, x0, none⟩ (.bool true)).heap.size = w1.heap.size ∧ Rd B B n w (.slice (some ⟨w1.heap.size, 0, none⟩) 1 1) ((List.replicate n false).set x0 true) [x0] ((w1.setCell ⟨B, x0, none⟩ (.bool true)).alloc (.cells #[.int .i64 (x0 : Int)] 3))) := by
    intro w1 ho hg
    have hsz : (w1.setCell ⟨B, x0, none⟩ (.bool true)).heap.size = w1.heap.size := by simp
    have hb1 : Below B w w1 := by rw [← HBq.out]; exact (Below.refl _ w).grown hg (Nat.le_refl _) (fun k h => by cases h)
    have hBs : B ≤ w1.heap.size := by rw [← HBq.out]; exact hg.size
    have ho2 := (World.ownsRow.stored ho x0 (.bool true)).1
    have hb2 : Below (w1.setCell ⟨B, x0, none⟩ (.bool true)).heap.size (w1.setCell ⟨B, x0, none⟩ (.bool true)) ((w1.setCell ⟨B, x0, none⟩ (.bool true)).alloc (.cells #[.int .i64 (x0 : Int)] 3)) := (Below.refl _ _).alloc (Nat.le_refl _) _
    refine ⟨?_, ho.frozenAt x0, hsz, ⟨?_, ?_, ?_, ?_⟩⟩
    · have h1 := ho.cells rfl x0 (.bool false) (by rw [List.getElem?_replicate, if_pos hx])
      rwa [addr_add, Nat.zero_add] at h1
    · have h9 := ownsRow_below ho2 hb2 (Nat.le_refl _)
      rw [List.map_set, List.map_replicate]
      exact h9
    · rw [← hsz]
      exact Qu.first B _ x0 (by rw [hsz]; exact hBs)
    · exact (hb1.setCell (p := ⟨B, x0, none⟩) (Nat.le_refl _) _).trans (hb2.mono (by rw [hsz]; exact hBs))
    · have := hb2.size; rw [hsz] at this; exact Nat.le_trans hBs this
  go_enter Tryz.func36, Tryz.ntmps36
  go_upto_region 4 with (at_make; refine wpList_make_full _ rfl _ _ 70 rfl w.heap.size 4 i0 (.bool false) 1 Tryz.underlying70 hi0 hz0 hz1 _ _ _ _ n rfl rfl rfl rfl (by rw [hz2]; omega) (by unfold maxLen; omega) (Nat.le_refl _) ?_; intro w1 hown1 hgr1; rw [HBq.out] at hown1 ⊢; obtain ⟨cz, fz, szz, hrd⟩ := FST.out w1 (by have h9 := rep_made (.bool false) n; rw [show (Value.bool false).cells = #[.bool false] by rfl] at hown1; rw [h9] at hown1; exact hown1) hgr1; have R1 : Hid (Rd B B n w (.slice (some ⟨w1.heap.size, 0, none⟩) 1 1) ((List.replicate n false).set x0 true) [x0] ((w1.setCell ⟨B, x0, none⟩ (.bool true)).alloc (.cells #[.int .i64 (x0 : Int)] 3))) := hrd; clear hown1 hgr1 hrd)
  go_loopg [8] (unm ((List.replicate n false).set x0 true) + 1) (fun gk s8 wr => ∃ (m : List Bool) (q : List Nat) (v8 : Value), s8 = v8 ∧ gk = unm m + q.length ∧ Rd B B n w v8 m q wr ∧ Bf ps n x0 (fun _ => False) m q ∧ unm m + q.length ≤ 131072)
  case atStart =>
    refine ⟨_, [x0], _, rfl, rfl, R1.out, Bf.first hx, ?_⟩
    have h9 := unm_set (List.replicate n false) x0 (rep_false hx)
    have h8 : unm (List.replicate n false) = n := by simp [unm]
    simp only [List.length_cons, List.length_nil]
    omega
  case round =>
    obtain ⟨m, q, v8, hv8, hgk, hR, hBf, hsum⟩ := hrel
    have hv8' := hv8.symm
    clear hv8
    subst hv8'
    clear R1 FST cz fz szz
    have RR : Hid (Rd B B n w v8 m q wr) := hR
    have BB : Hid (Bf ps n x0 (fun _ => False) m q) := hBf
    clear hR hBf
    cases q with
    | nil =>
      obtain ⟨g, off, cap, cur, hv, -⟩ := RR.out.que
      subst hv
      go_wp2
      go_ret
      refine ⟨?_, ?_, m, ?_, BB.out.len, fun y => BB.out.fin y⟩
      · show Ending.returned (.slice (some ⟨B, 0, none⟩) n n) = _
        rw [HBq.out]
      · rw [HBq.out]; exact RR.out.bel
      · rw [HBq.out]; exact RR.out.met
    | cons x q =>
      simp only [List.length_cons] at hsum hgk
      obtain ⟨g, off, cap, hv, hcap, cx, hq1, hq2⟩ := RR.out.que.pop
      subst hv
      have HQ : Hid ((cap = 1 → Qu B wr (.slice (some ⟨g, off, none⟩) q.length 0) q) ∧ Qu B wr (.slice (some ⟨g, off + 1, none⟩) q.length (cap - 1)) q) := ⟨hq1, hq2⟩
      have hxm : m[x]? = some true := BB.out.qm x (by simp)
      have hxn : x < n := by have := (List.getElem?_eq_some_iff.1 hxm).1; rw [BB.out.len] at this; exact this
      have HXM : Hid (m[x]? = some true) := hxm
      have hlen : (0 : Int) < ((q.length + 1 : Nat) : Int) := by omega
      have hlen2 : (1 : Int) ≤ ((q.length + 1 : Nat) : Int) := by omega
      have hcap1 : (1 : Int) ≤ (cap : Int) := by omega
      clear hq1 hq2 hxm
      go_upto_region 6 with fail
      go_cut [8] (fun s wc => (∃ v2, s = v2 ∧ Qu B wr v2 q) ∧ wc = wr)
      case first =>
        by_cases hc1 : cap = 1
        · have H0 : Hid (Qu B wr (.slice (some ⟨g, off, none⟩) 0 0) q) := by
            have h9 := HQ.out.1 hc1
            rw [show q.length = 0 by omega] at h9
            exact h9
          subst hc1
          go_wp2_with fail
          go_meet
          exact ⟨⟨_, rfl, H0.out⟩, rfl⟩
        · have hc2 : ¬ (cap : Int) = 1 := by omega
          go_wp2_with fail
          go_meet
          exact ⟨⟨_, rfl, HQ.out.2⟩, rfl⟩
      case rest =>
        obtain ⟨⟨v2, hv2, hq2⟩, hwc⟩ := hcut
        have hv2' := hv2.symm
        clear hv2
        subst hv2'
        subst hwc
        have R0 : Hid (Rd B B n w v2 m q wc) := ⟨RR.out.met, hq2, RR.out.bel, RR.out.base⟩
        have B0 : Hid (Bf ps n x0 (fun y => y = x) m q) := BB.out.pop
        clear hq2 RR BB HQ cx
        obtain ⟨r, hrx⟩ : ∃ r, rs[x]? = some r := ⟨_, List.getElem?_eq_getElem (by rw [HL.out.len]; exact hxn)⟩
        obtain ⟨ys, hy1', hy2', hy3', hy4'⟩ := HA.out x r hrx
        obtain ⟨a1, ca, hv1, hsome, -⟩ := own_slice (HL.out.she.get hrx)
        have HY : Hid (∀ y, y ∈ ys ↔ (⟨(x : Int), y⟩ : Pr) ∈ ps) := hy4'
        have hyl : ys.length ≤ 8796093022208 := by omega
        have hxn' : (x : Int) < (n : Int) := by omega
        -- the list of x, as it lies while the search goes on
        have CR : Hid (∀ z, Below B w z → z.cell? ⟨gV, x, none⟩ = some (.slice a1 ys.length ca) ∧ ∀ (j : Nat) (y : Int), ys[j]? = some y → ∃ g, a1 = some ⟨g, 0, none⟩ ∧ z.cell? ⟨g, j, none⟩ = some (.int .i64 y)) := by
          intro z hz
          have hgV := (HL.out.she.outV.lt gV rfl).2
          refine ⟨?_, fun j y hj => ?_⟩
          · have h9 := (HL.out.cell hrx).1
            rw [hv1, hy1'] at h9
            exact (hz.cell (p := ⟨gV, x, none⟩) (by rw [← HBq.out]; exact hgV)).trans h9
          · obtain ⟨g, rfl⟩ := hsome (by have := (List.getElem?_eq_some_iff.1 hj).1; omega)
            have h9 := HL.out.she.get hrx
            have hg9 := (h9.lt g (by rw [hv1]; rfl)).2
            rw [hv1, hy2'] at h9
            have h8 := h9.cells rfl j (.int .i64 y) (by rw [List.getElem?_map, hj]; rfl)
            rw [addr_add, Nat.zero_add] at h8
            exact ⟨g, rfl, (hz.cell (p := ⟨g, j, none⟩) (by rw [← HBq.out]; exact hg9)).trans h8⟩
        clear hrx hy1' hy2' hy3' hy4' hv1 hsome
        go_wp2
        go_loopg [8, 10] ys.length (fun g2 s8 s10 wr => ∃ (j : Nat) (m1 : List Bool) (q1 : List Nat) (v1 : Value), s8 = v1 ∧ s10 = .int .i64 (j : Int) ∧ g2 = ys.length - j ∧ j ≤ ys.length ∧ Rd B B n w v1 m1 q1 wr ∧ Bf ps n x0 (fun y => y = x) m1 q1 ∧ unm m1 + q1.length = unm m + q.length ∧ (∀ y : Nat, m[y]? = some true → m1[y]? = some true) ∧ ∀ (i y : Nat), i < j → ys[i]? = some (y : Int) → m1[y]? = some true)
        case atStart => exact ⟨0, m, q, _, rfl, rfl, rfl, Nat.zero_le _, R0.out, B0.out, rfl, fun _ h => h, fun i y h => absurd h (Nat.not_lt_zero _)⟩
        case round =>
          obtain ⟨j, m1, q1, v1, hv1, rfl, hg2, hj, hR1, hB1, hs1, hmo1, hd1⟩ := hrel
          have hv1' := hv1.symm
          clear hv1
          subst hv1'
          clear R0 B0
          have R1 : Hid (Rd B B n w v1 m1 q1 wr) := hR1
          have B1' : Hid (Bf ps n x0 (fun y => y = x) m1 q1) := hB1
          have S1 : Hid (unm m1 + q1.length = unm m + q.length) := hs1
          have M1 : Hid (∀ y : Nat, m[y]? = some true → m1[y]? = some true) := hmo1
          have E1 : Hid (∀ (i y : Nat), i < j → ys[i]? = some (y : Int) → m1[y]? = some true) := hd1
          obtain ⟨cr, ce⟩ := CR.out wr R1.out.bel
          have hql : q1.length ≤ 131072 := by omega
          clear hR1 hB1 hs1 hmo1 hd1
          by_cases hjy : j < ys.length
          · have hjy' : (j : Int) < (ys.length : Int) := by omega
            obtain ⟨y, hy⟩ : ∃ y, ys[j]? = some y := ⟨_, List.getElem?_eq_getElem hjy⟩
            have hmem := (HY.out y).1 (List.mem_of_getElem? hy)
            obtain ⟨hyy0, hyn⟩ := HPS.out _ hmem
            obtain ⟨yn, rfl⟩ : ∃ yn : Nat, y = (yn : Int) := ⟨y.toNat, by simp only at hyy0; omega⟩
            simp only at hyy0 hyn
            have HYJ : Hid (ys[j]? = some (yn : Int) ∧ (⟨(x : Int), (yn : Int)⟩ : Pr) ∈ ps) := ⟨hy, hmem⟩
            obtain ⟨ge, hga, cy⟩ := ce j _ hy
            subst hga
            obtain ⟨b, hb⟩ : ∃ b, m1[yn]? = some b := ⟨_, List.getElem?_eq_getElem (by rw [B1'.out.len]; omega)⟩
            have HB : Hid (m1[yn]? = some b) := hb
            obtain ⟨cs, fs⟩ := R1.out.get hb
            clear hy hmem hb ce
            cases b with
            | true =>
              go_wp2
              go_roundg (ys.length - (j + 1))
              case measure => omega
              case rel =>
                refine ⟨j + 1, m1, q1, _, rfl, by go_num, rfl, by omega, R1.out, B1'.out, S1.out, M1.out, fun i y hi hyi => ?_⟩
                rcases Nat.lt_succ_iff_lt_or_eq.1 hi with h | h
                · exact E1.out i y h hyi
                · subst h
                  have h9 := HYJ.out.1
                  rw [hyi] at h9
                  have h8 : y = yn := by have := Option.some.inj h9; omega
                  rw [h8]
                  exact HB.out
            | false =>
              go_upto_region 12 with fail
              obtain ⟨z1, hz1⟩ : ∃ z1, wr.setCell ⟨B, yn, none⟩ (.bool true) = z1 := ⟨_, rfl⟩
              have R2 : Hid (Rd B B n w v1 (m1.set yn true) q1 z1) := by unfold Hid; rw [← hz1]; exact R1.out.set yn
              rw [hz1]
              clear hz1 cs fs cr cy
              obtain ⟨cr, ce⟩ := CR.out z1 R2.out.bel
              obtain ⟨ge', hga', cy⟩ := ce j _ HYJ.out.1
              simp only [Option.some.injEq, Addr.mk.injEq] at hga'
              obtain ⟨rfl, -, -⟩ := hga'
              obtain ⟨zA, eA, hbA, hsA, BA⟩ := bx1 z1 #[.int .i64 (yn : Int)] 3
              have R3 : Hid (Rd B B n w v1 (m1.set yn true) q1 zA) := R2.out.below hbA
              have HEA : Hid (z1.alloc (.cells #[.int .i64 (yn : Int)] 3) = zA) := eA
              have cA : zA.cell? ⟨z1.heap.size, 0, none⟩ = some (.int .i64 (yn : Int)) := BA.one
              clear eA hbA hsA BA ce
              go_wp2_with (at_builtin; rw [HEA.out]; refine wpList_que _ rfl _ _ 32 rfl i1 (.int .i64 0) Tryz.underlying32 hi1 hy0 hy1 hy2 rfl B v1 q1 yn rfl R3.out.que R3.out.base ⟨z1.heap.size, 0, none⟩ rfl cA hql ?_; intro v9 w9 hq9 hg9; have R9 : Hid (Rd B B n w v9 (m1.set yn true) (q1 ++ [yn]) w9) := R3.out.grw hq9 hg9; clear hq9 hg9)
              go_roundg (ys.length - (j + 1))
              case measure => omega
              case rel =>
                refine ⟨j + 1, _, _, _, rfl, by go_num, rfl, by omega, R9.out, B1'.out.push (M1.out x HXM.out) HB.out HYJ.out.2, ?_, fun y hy => set_true.2 (.inl (M1.out y hy)), fun i y hi hyi => ?_⟩
                · have h8 := unm_set m1 yn HB.out
                  have h9 := S1.out
                  simp only [List.length_append, List.length_cons, List.length_nil]
                  omega
                · rcases Nat.lt_succ_iff_lt_or_eq.1 hi with h | h
                  · exact set_true.2 (.inl (E1.out i y h hyi))
                  · subst h
                    have h9 := HYJ.out.1
                    rw [hyi] at h9
                    have h8 : y = yn := by have := Option.some.inj h9; omega
                    rw [h8]
                    exact set_true.2 (.inr ⟨rfl, (List.getElem?_eq_some_iff.1 HB.out).1⟩)
          · have hjy' : ¬ (j : Int) < (ys.length : Int) := by omega
            go_wp2
            go_roundg (unm m1 + q1.length)
            case measure => have h9 := S1.out; omega
            case rel =>
              refine ⟨m1, q1, _, rfl, rfl, R1.out, B1'.out.done (fun y' he => ?_), ?_⟩
              · obtain ⟨i, hi⟩ := List.getElem?_of_mem ((HY.out (y' : Int)).2 he)
                exact E1.out i y' (by have := (List.getElem?_eq_some_iff.1 hi).1; omega) hi
              · have h9 := S1.out; omega
end Go.Proofs.YtgijcbipnjmhgabGreat

namespace Go.Proofs.YtgijcbipnjmhgabGreat
open Go.ChangeShapes Go.WideShapes Go.ChangeAt Go.RowKit
set_option linter.unusedVariables false
set_option linter.unusedSimpArgs false

/-- has it a label? -/
def Mt (l : List Int) (y : Nat) : Prop := ∃ v, l[y]? = some v ∧ 0 ≤ v
/-- a search for a class: labels l0 before it, l now, a stack q; P: what is being looked at -/
structure Cf (ps : List Pr) (n i : Nat) (l0 : List Int) (P : Nat → Prop) (l : List Int) (q : List Nat) : Prop where
  len0 : l0.length = n
  sgn0 : ∀ (y : Nat) v, l0[y]? = some v → 0 ≤ v ∨ v = -1
  len : l.length = n
  sgn : ∀ (y : Nat) v, l[y]? = some v → 0 ≤ v ∨ v = -1
  old : ∀ (y : Nat) v, l0[y]? = some v → 0 ≤ v → l[y]? = some v
  new : ∀ (y : Nat) v, l[y]? = some v → 0 ≤ v → l0[y]? = some v ∨ (v = (i : Int) ∧ Rch (both ps) i y)
  qm : ∀ y ∈ q, Mt l y ∧ Rch (both ps) i y
  start : Mt l i
  closed : ∀ y y' : Nat, Mt l y → y ∉ q → ¬ P y → (⟨(y : Int), (y' : Int)⟩ : Pr) ∈ both ps → Mt l y'
theorem set_int {l : List Int} {x y : Nat} {f : Int} : (l.set x f)[y]? = if x = y ∧ y < l.length then some f else l[y]? := by
  rw [List.getElem?_set]
  by_cases h : x = y
  · subst h
    by_cases h2 : x < l.length
    · rw [if_pos rfl, if_pos h2, if_pos ⟨rfl, h2⟩]
    · rw [if_pos rfl, if_neg h2, if_neg (fun h => h2 h.2), List.getElem?_eq_none (by omega)]
  · rw [if_neg h, if_neg (fun h3 => h h3.1)]
theorem Mt.set {l : List Int} {x y i : Nat} (h : Mt l y) : Mt (l.set x (i : Int)) y := by
  obtain ⟨v, h1, h2⟩ := h
  rw [Mt, set_int]
  by_cases hc : x = y ∧ y < l.length
  · rw [if_pos hc]; exact ⟨_, rfl, by omega⟩
  · rw [if_neg hc]; exact ⟨v, h1, h2⟩
theorem Mt.here {l : List Int} {x i : Nat} (h : x < l.length) : Mt (l.set x (i : Int)) x := ⟨(i : Int), by rw [set_int, if_pos ⟨rfl, h⟩], by omega⟩
theorem Mt.inv {l : List Int} {x y i : Nat} (h : Mt (l.set x (i : Int)) y) : Mt l y ∨ y = x := by
  obtain ⟨v, h1, h2⟩ := h
  rw [set_int] at h1
  by_cases hc : x = y ∧ y < l.length
  · exact .inr hc.1.symm
  · rw [if_neg hc] at h1; exact .inl ⟨v, h1, h2⟩
theorem Cf.first {ps : List Pr} {n i : Nat} {l0 : List Int} (hC : Cs (both ps) i (Mt l0) (fun y => l0[y]?)) (h0 : l0.length = n) (hs : ∀ (y : Nat) v, l0[y]? = some v → 0 ≤ v ∨ v = -1) (hi : l0[i]? = some (-1)) : Cf ps n i l0 (fun _ => False) (l0.set i (i : Int)) [i] := by
  have hil := (List.getElem?_eq_some_iff.1 hi).1
  refine ⟨h0, hs, by rw [List.length_set]; exact h0, fun y v hv => ?_, fun y v hv hp => ?_, fun y v hv hp => ?_, fun y hy => ?_, Mt.here hil, fun y y' hy hq _ he => ?_⟩
  · rw [set_int] at hv
    split at hv
    · cases hv; exact .inl (by omega)
    · exact hs y v hv
  · rw [set_int, if_neg (fun hc => by rw [← hc.1, hi] at hv; cases hv; omega)]
    exact hv
  · rw [set_int] at hv
    by_cases hc : i = y ∧ y < l0.length
    · rw [if_pos hc] at hv; cases hv; exact .inr ⟨rfl, by rw [← hc.1]; exact .refl _⟩
    · rw [if_neg hc] at hv; exact .inl hv
  · rw [List.mem_singleton] at hy; subst hy; exact ⟨Mt.here hil, .refl _⟩
  · rcases hy.inv with h1 | h1
    · exact (hC.closed y y' h1 he).set
    · exact absurd h1 (by simpa using hq)
theorem Cf.pop {ps : List Pr} {n i x : Nat} {l0 l : List Int} {q : List Nat} (h : Cf ps n i l0 (fun _ => False) l (q ++ [x])) : Cf ps n i l0 (fun y => y = x) l q :=
  ⟨h.len0, h.sgn0, h.len, h.sgn, h.old, h.new, fun y hy => h.qm y (List.mem_append_left _ hy), h.start, fun y y' hy hq hP he => h.closed y y' hy (fun hc => by rcases List.mem_append.1 hc with hc | hc; exact hq hc; exact hP (by simpa using hc)) id he⟩
theorem Cf.push {ps : List Pr} {n i x y : Nat} {l0 l : List Int} {q : List Nat} (h : Cf ps n i l0 (fun y => y = x) l q) (hx : Rch (both ps) i x) (hy : l[y]? = some (-1)) (he : (⟨(x : Int), (y : Int)⟩ : Pr) ∈ both ps) : Cf ps n i l0 (fun y => y = x) (l.set y (i : Int)) (q ++ [y]) := by
  have hyl := (List.getElem?_eq_some_iff.1 hy).1
  have hry : Rch (both ps) i y := hx.trans (.step he (.refl _))
  refine ⟨h.len0, h.sgn0, by rw [List.length_set]; exact h.len, fun z v hv => ?_, fun z v hv hp => ?_, fun z v hv hp => ?_, fun z hz => ?_, h.start.set, fun z z' hz hq hP hzz => ?_⟩
  · rw [set_int] at hv
    split at hv
    · cases hv; exact .inl (by omega)
    · exact h.sgn z v hv
  · have h1 := h.old z v hv hp
    rw [set_int, if_neg (fun hc => by rw [← hc.1, hy] at h1; cases h1; omega)]
    exact h1
  · rw [set_int] at hv
    by_cases hc : y = z ∧ z < l.length
    · rw [if_pos hc] at hv; cases hv; exact .inr ⟨rfl, by rw [← hc.1]; exact hry⟩
    · rw [if_neg hc] at hv; exact h.new z v hv hp
  · rcases List.mem_append.1 hz with hz | hz
    · exact ⟨(h.qm z hz).1.set, (h.qm z hz).2⟩
    · rw [List.mem_singleton] at hz; subst hz; exact ⟨Mt.here hyl, hry⟩
  · rw [List.mem_append, not_or, List.mem_singleton] at hq
    rcases hz.inv with hz | hz
    · exact (h.closed z z' hz hq.1 hP hzz).set
    · exact absurd hz hq.2
theorem Cf.done {ps : List Pr} {n i x : Nat} {l0 l : List Int} {q : List Nat} (h : Cf ps n i l0 (fun y => y = x) l q) (hd : ∀ y' : Nat, (⟨(x : Int), (y' : Int)⟩ : Pr) ∈ both ps → Mt l y') : Cf ps n i l0 (fun _ => False) l q :=
  ⟨h.len0, h.sgn0, h.len, h.sgn, h.old, h.new, h.qm, h.start, fun y y' hy hq _ he => by
    by_cases e : y = x
    · subst e; exact hd y' he
    · exact h.closed y y' hy hq e he⟩
theorem Cf.fin {ps : List Pr} {n i : Nat} {l0 l : List Int} (h : Cf ps n i l0 (fun _ => False) l []) (hC : Cs (both ps) i (Mt l0) (fun y => l0[y]?)) : Cs (both ps) (i + 1) (Mt l) (fun y => l[y]?) := by
  refine hC.step (fun y ⟨v, h1, h2⟩ => ⟨v, h.old y v h1 h2, h2⟩) h.start (fun y y' h1 _ he => h.closed y y' h1 (by simp) id he) (fun y ⟨v, h1, h2⟩ h3 => ?_) (fun y ⟨v, h1, h2⟩ => ?_) (fun y ⟨v, h1, h2⟩ h3 => ?_)
  · rcases h.new y v h1 h2 with h4 | h4
    · exact absurd ⟨v, h4, h2⟩ h3
    · exact h4.2
  · show l[y]? = l0[y]?
    rw [h1, h.old y v h1 h2]
  · show l[y]? = _
    rcases h.new y v h1 h2 with h4 | h4
    · exact absurd ⟨v, h4, h2⟩ h3
    · rw [h1, h4.1]
/-- the marks of labels -/
def mks (l : List Int) : List Bool := l.map fun v => decide (0 ≤ v)
theorem mks_set {l : List Int} {y i : Nat} (hy : l[y]? = some (-1)) : unm (mks (l.set y (i : Int))) + 1 = unm (mks l) := by
  have h1 : mks (l.set y (i : Int)) = (mks l).set y true := by
    unfold mks
    rw [List.map_set, decide_eq_true (show (0 : Int) ≤ (i : Int) by omega)]
  rw [h1]
  refine unm_set _ _ ?_
  unfold mks
  rw [List.getElem?_map, hy]
  rfl
theorem mks_le (l : List Int) : unm (mks l) ≤ l.length := by
  have h1 := List.length_filter_le (fun b => !b) (mks l)
  unfold unm
  unfold mks at h1 ⊢
  rw [List.length_map] at h1
  exact h1
/-- the last one is taken off -/
theorem Qu.last {B : Nat} {w : World} {v : Value} {x : Nat} {xs : List Nat} (h : Qu B w v (xs ++ [x])) : ∃ g off cap, v = .slice (some ⟨g, off, none⟩) (xs.length + 1) cap ∧ xs.length + 1 ≤ cap ∧ w.cell? ⟨g, off + xs.length, none⟩ = some (.int .i64 (x : Int)) ∧ Qu B w (.slice (some ⟨g, off, none⟩) xs.length cap) xs := by
  obtain ⟨g, off, cap, cur, h1, h2, h3, h4, h5, h6⟩ := h
  simp only [List.length_append, List.length_cons, List.length_nil] at h1 h4
  refine ⟨g, off, cap, h1, h4, ?_, ⟨g, off, cap, cur, rfl, h2, h3, by omega, h5, fun j y hj => h6 j y (by rw [List.getElem?_append_left (List.getElem?_eq_some_iff.1 hj).1]; exact hj)⟩⟩
  rw [(cell_cur h3).1]
  exact h6 xs.length x (by rw [List.getElem?_append_right (Nat.le_refl _), Nat.sub_self]; rfl)
theorem split_last (q : List Nat) : q = [] ∨ ∃ p x, q = p ++ [x] := by
  rcases q.eq_nil_or_concat with h | ⟨p, x, h⟩
  · exact .inl h
  · exact .inr ⟨p, x, by rw [h, List.concat_eq_append]⟩
end Go.Proofs.YtgijcbipnjmhgabGreat
