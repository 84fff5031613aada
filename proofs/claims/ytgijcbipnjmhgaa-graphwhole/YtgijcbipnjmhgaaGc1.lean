import Derived.Test.YtgijcbipnjmhgaaSmD
import Derived.Test.YtgijcbipnjmhgaaGq0
import Derived.Test.YtgijcbipnjmhgaaOrd
import Derived.BigRegion
import Derived.Test.YtgijcbipnjmhgaaGl
namespace Go.Proofs.Ytgijcbipnjmhgaa
open Go.ChangeShapes Go.WideShapes Go.ChangeAt Go.RowKit
set_option linter.unusedVariables false
set_option linter.unusedSimpArgs false

/-- a row of numbers in a box -/
structure Hq (B b : Nat) (w : World) (V : Value) (xs : List Int) : Prop where
  box : Bx w b #[V] 68
  row : w.ownsRow B 3 1 V xs.length (flat xs)
  le : B ≤ b
/-- nothing but the box and the row has changed -/
structure Mv (B b : Nat) (r : Option Nat) (w w' : World) : Prop where
  keep : ∀ k, k < w.heap.size → k ≠ b → some k ≠ r → w'.heap[k]? = w.heap[k]?
  bel : Below B w w'
theorem Mv.refl (B b : Nat) (r : Option Nat) (w : World) : Mv B b r w w := ⟨fun _ _ _ _ => rfl, Below.refl _ _⟩
theorem Mv.of {B b : Nat} {r : Option Nat} {w w' : World} (h : Below w.heap.size w w') (hb : b < w.heap.size) (hB : B ≤ b) : Mv B b r w w' := ⟨fun k hk _ _ => h.block k hk, h.mono (by omega)⟩
theorem Mv.trans {B b : Nat} {r r' : Option Nat} {w v u : World} (h : Mv B b r w v) (k : Mv B b r' v u) (hr : r' = r ∨ ∀ g, r' = some g → w.heap.size ≤ g) : Mv B b r w u :=
  ⟨fun i hi hb hg => (k.keep i (Nat.lt_of_lt_of_le hi h.bel.size) hb (fun e => by
    rcases hr with e2 | e2
    · exact hg (by rw [e, e2])
    · have := e2 i e.symm; omega)).trans (h.keep i hi hb hg), h.bel.trans k.bel⟩
theorem Hq.below {B b : Nat} {w w' : World} {V : Value} {xs : List Int} (h : Hq B b w V xs) (hb : Below w.heap.size w w') : Hq B b w' V xs := ⟨h.box.below hb h.box.lt, own_belowR h.row hb (Nat.le_refl _), h.le⟩
theorem flat_at (xs : List Int) (i : Nat) : (flat xs)[i]? = (xs[i]?).map (Value.int .i64) := by rw [flat_ints, List.getElem?_map]
theorem flat_setI (xs : List Int) (i : Nat) (x : Int) : (flat xs).set i (.int .i64 x) = flat (xs.set i x) := by rw [flat_ints, flat_ints, List.map_set]
theorem Hq.form {B b : Nat} {w : World} {V : Value} {xs : List Int} (h : Hq B b w V xs) : ∃ a c, V = .slice a xs.length c ∧ (0 < xs.length → ∃ g, a = some ⟨g, 0, none⟩) := by
  obtain ⟨a, c, h1, h2, -⟩ := own_slice h.row
  exact ⟨a, c, h1, h2⟩
theorem Hq.len {B b n c : Nat} {a : Option Addr} {w : World} {xs : List Int} (h : Hq B b w (.slice a n c) xs) : n = xs.length := by
  obtain ⟨a', c', h1, -⟩ := h.form
  injection h1
theorem Hq.cell {B b g n c : Nat} {w : World} {xs : List Int} (h : Hq B b w (.slice (some ⟨g, 0, none⟩) n c) xs) {i : Nat} (hi : i < xs.length) : w.cell? ⟨g, i, none⟩ = some (.int .i64 xs[i]!) := by
  have := h.row.cells rfl i (.int .i64 xs[i]!) (by rw [flat_at, List.getElem?_eq_getElem hi, getElem!_pos xs i hi]; rfl)
  rwa [addr_add, Nat.zero_add] at this
theorem Hq.ne {B b g n c : Nat} {w : World} {xs : List Int} (h : Hq B b w (.slice (some ⟨g, 0, none⟩) n c) xs) : b ≠ g := h.box.neR h.row (by decide) rfl
theorem Hq.store {B b g n c : Nat} {w : World} {xs : List Int} (h : Hq B b w (.slice (some ⟨g, 0, none⟩) n c) xs) (i : Nat) (x : Int) : Hq B b (w.setCell ⟨g, i, none⟩ (.int .i64 x)) (.slice (some ⟨g, 0, none⟩) n c) (xs.set i x) := by
  have hn := h.len
  subst hn
  refine ⟨h.box.other ⟨g, i, none⟩ h.ne _, ?_, h.le⟩
  have := (World.ownsRow.stored h.row i (.int .i64 x)).1
  rw [List.length_set, ← flat_setI]
  exact this
theorem Hq.one {B b g n c : Nat} {w : World} {xs : List Int} (h : Hq B b w (.slice (some ⟨g, 0, none⟩) n c) xs) (i : Nat) (x : Value) : Mv B b (some g) w (w.setCell ⟨g, i, none⟩ x) :=
  ⟨fun k hk hb hg => heap_setCell_other _ _ _ _ (fun e => hg (by rw [e])), (Below.refl _ _).setCell (p := ⟨g, i, none⟩) (h.row.lt g rfl).1 _⟩

set_option maxRecDepth 1000000 in
theorem rlen_any (a : Option Addr) (n c : Nat) (w : World) : Calls Try.prog 113 #[.slice a n c] w fun e w' => e = .returned (.int .i64 (n : Int)) ∧ w' = w := by
  go_enter Try.func113, Try.ntmps113
  go_wp2
  go_ret
  exact ⟨rfl, rfl⟩
set_option maxRecDepth 1000000 in
set_option maxHeartbeats 2000000 in
theorem rless_any {B b : Nat} {w : World} {V : Value} {xs : List Int} (h : Hq B b w V xs) (i j : Nat) (hi : i < xs.length) (hj : j < xs.length) : Calls Try.prog 114 #[V, .int .i64 (i : Int), .int .i64 (j : Int)] w fun e w' => e = .returned (.bool (decide (xs[i]! < xs[j]!))) ∧ Below w.heap.size w w' := by
  obtain ⟨a, c, rfl, ha⟩ := h.form
  obtain ⟨g, rfl⟩ := ha (by omega)
  have c1 := h.cell hi
  have c2 := h.cell hj
  have t1 : (i : Int) < (xs.length : Int) := by omega
  have t2 : (j : Int) < (xs.length : Int) := by omega
  obtain ⟨x, hx⟩ : ∃ x, xs[i]! = x := ⟨_, rfl⟩
  obtain ⟨y, hy⟩ : ∃ y, xs[j]! = y := ⟨_, rfl⟩
  rw [hx] at c1 ⊢
  rw [hy] at c2 ⊢
  clear h ha hx hy hi hj
  go_enter Try.func114, Try.ntmps114
  go_wp2
  go_quiet (fail)
  go_wp2
  go_ret
  have hr := Below.refl w.heap.size w
  exact ⟨rfl, ⟨hr.os, hr.tape, hr.output, hr.size, hr.block⟩⟩
set_option maxRecDepth 1000000 in
set_option maxHeartbeats 2000000 in
theorem rswap_any {B b : Nat} {w : World} {V : Value} {xs : List Int} (h : Hq B b w V xs) (i j : Nat) (hi : i < xs.length) (hj : j < xs.length) : Calls Try.prog 115 #[V, .int .i64 (i : Int), .int .i64 (j : Int)] w fun e w' => (∃ x, e = .returned x) ∧ Hq B b w' V (sw xs i j) ∧ Mv B b V.ownBlock w w' := by
  obtain ⟨a, c, rfl, ha⟩ := h.form
  obtain ⟨g, rfl⟩ := ha (by omega)
  have cx := h.cell hi
  have cy := h.cell hj
  have t1 : (i : Int) < (xs.length : Int) := by omega
  have t2 : (j : Int) < (xs.length : Int) := by omega
  have f1 : w.frozen? ⟨g, i, none⟩ = false := World.ownsRow.frozenAt h.row i
  have f2 : w.frozen? ⟨g, j, none⟩ = false := World.ownsRow.frozenAt h.row j
  have HF : Hid (Hq B b ((w.setCell ⟨g, i, none⟩ (.int .i64 xs[j]!)).setCell ⟨g, j, none⟩ (.int .i64 xs[i]!)).drew (.slice (some ⟨g, 0, none⟩) xs.length c) (sw xs i j) ∧ Mv B b (some g) w ((w.setCell ⟨g, i, none⟩ (.int .i64 xs[j]!)).setCell ⟨g, j, none⟩ (.int .i64 xs[i]!)).drew) := by
    have h1 := h.store i xs[j]!
    have h2 := h1.store j xs[i]!
    refine ⟨h2.below (Below.refl _ _).drew, ((h.one i (.int .i64 xs[j]!)).trans (h1.one j (.int .i64 xs[i]!)) (.inl rfl)).trans (Mv.of (r := some g) (Below.refl _ _).drew (h2.box.lt) h.le) (.inl rfl)⟩
  obtain ⟨x, hx⟩ : ∃ x, xs[i]! = x := ⟨_, rfl⟩
  obtain ⟨y, hy⟩ : ∃ y, xs[j]! = y := ⟨_, rfl⟩
  rw [hx, hy] at HF
  rw [hx] at cx
  rw [hy] at cy
  clear h ha
  by_cases e : j = i
  · subst e
    obtain rfl : x = y := hx.symm.trans hy
    clear hx hy hi hj
    go_enter Try.func115, Try.ntmps115
    go_big_region
    go_end0
    exact ⟨⟨_, rfl⟩, HF.out.1, HF.out.2⟩
  · have hne2 : j ≠ i := e
    have hne3 : i ≠ j := fun e2 => e e2.symm
    clear hx hy hi hj
    go_enter Try.func115, Try.ntmps115
    go_big_region
    go_end0
    exact ⟨⟨_, rfl⟩, HF.out.1, HF.out.2⟩
end Go.Proofs.Ytgijcbipnjmhgaa

namespace Go.Proofs.Ytgijcbipnjmhgaa
open Go.ChangeShapes Go.WideShapes Go.ChangeAt Go.RowKit
set_option linter.unusedVariables false
set_option linter.unusedSimpArgs false

theorem flat_put {α : Type} [Rw α] : ∀ (xs : List α) (i r : Nat) (x y : α) (v : Value), xs[i]? = some x → r < Rw.k α → (Rw.cs x).set r v = Rw.cs y → (flat xs).set (i * Rw.k α + r) v = flat (xs.set i y)
  | [], i, r, x, y, v, h, _, _ => by simp at h
  | z :: t, 0, r, x, y, v, h, hr, hc => by
    simp at h; subst h
    rw [flat_cons, List.set_cons_zero, flat_cons, Nat.zero_mul, Nat.zero_add, List.set_append_left _ _ (by rw [Rw.len]; exact hr), hc]
  | z :: t, i + 1, r, x, y, v, h, hr, hc => by
    have ih := flat_put t i r x y v (by simpa using h) hr hc
    rw [flat_cons, List.set_cons_succ, flat_cons, ← ih, show (i + 1) * Rw.k α + r = (Rw.cs z).length + (i * Rw.k α + r) by rw [Rw.len, Nat.add_mul, Nat.one_mul]; omega, List.set_append_right _ _ (by omega), Nat.add_sub_cancel_left]
/-- a row of pairs of the call's own -/
def Pw (B g n c : Nat) (w : World) (ps : List Pr) : Prop := w.ownsRow B 40 2 (.slice (some ⟨g, 0, none⟩) n c) n (flat ps)
theorem Pw.get {B g n c : Nat} {w : World} {ps : List Pr} (h : Pw B g n c w ps) {i : Nat} {p : Pr} (hp : ps[i]? = some p) : w.cell? ⟨g, i * 2, none⟩ = some (.int .i64 p.a) ∧ w.cell? ⟨g, i * 2 + 1, none⟩ = some (.int .i64 p.b) := by
  have hl : Lies w g 0 ps := Lies.own (α := Pr) h
  have h9 := hl.pr hp
  simp only [Nat.zero_add] at h9
  exact h9
theorem Pw.put {B g n c : Nat} {w : World} {ps : List Pr} (h : Pw B g n c w ps) {i : Nat} {p : Pr} (hp : ps[i]? = some p) (x y : Int) : Pw B g n c ((w.setCell ⟨g, i * 2, none⟩ (.int .i64 x)).setCell ⟨g, i * 2 + 1, none⟩ (.int .i64 y)) (ps.set i ⟨x, y⟩) := by
  have h1 := (World.ownsRow.stored h (i * 2) (.int .i64 x)).1
  have e1 := flat_put ps i 0 p ⟨x, p.b⟩ (.int .i64 x) hp (by decide) rfl
  rw [show i * Rw.k Pr + 0 = i * 2 from rfl] at e1
  rw [e1] at h1
  have h2 := (World.ownsRow.stored h1 (i * 2 + 1) (.int .i64 y)).1
  have e2 := flat_put (ps.set i ⟨x, p.b⟩) i 1 ⟨x, p.b⟩ ⟨x, y⟩ (.int .i64 y) (by rw [List.getElem?_set, if_pos rfl, if_pos (List.getElem?_eq_some_iff.1 hp).1]) (by decide) rfl
  rw [show i * Rw.k Pr + 1 = i * 2 + 1 from rfl] at e2
  rw [e2, List.set_set] at h2
  exact h2
theorem made_pairs (n : Nat) : (madeCells #[Value.int .i64 0, .int .i64 0] (n * 2)).toList = flat (List.replicate n (⟨0, 0⟩ : Pr)) := by
  have h1 : ∀ m, (madeCells #[Value.int .i64 0, .int .i64 0] m).toList = List.replicate m (Value.int .i64 0) := fun m => by
    rw [List.eq_replicate_iff]
    refine ⟨by simp [madeCells], fun b hb => ?_⟩
    simp only [madeCells, Array.toList_map, List.mem_map] at hb
    obtain ⟨i, _, rfl⟩ := hb
    have hi : i % 2 < 2 := Nat.mod_lt _ (by decide)
    show (#[Value.int .i64 0, .int .i64 0] : Array Value)[i % 2]! = _
    generalize i % 2 = j at hi
    match j, hi with
    | 0, _ => rfl
    | 1, _ => rfl
  have h2 : ∀ m, flat (List.replicate m (⟨0, 0⟩ : Pr)) = List.replicate (m * 2) (Value.int .i64 0) := fun m => by
    induction m with
    | zero => rfl
    | succ m ih => rw [List.replicate_succ, flat_cons, ih, show (m + 1) * 2 = 2 + m * 2 by omega, ← List.replicate_append_replicate]; rfl
  rw [h1, h2]

set_option maxRecDepth 1000000 in
set_option maxHeartbeats 1000000 in
theorem turned_any (a : Option Addr) (cap : Nat) (ps : List Pr) (w : World) (hL : LiesA w a ps) (hl : ps.length ≤ 8796093022208) :
    Calls Try.prog 32 #[.slice a ps.length cap] w fun e w' => e = .returned (.slice (some ⟨w.heap.size, 0, none⟩) ps.length ps.length) ∧ Below w.heap.size w w' ∧ Lies w' w.heap.size 0 (ps.map swapP) := by
  obtain ⟨i0, hi0, hz0, hz1, hz2⟩ := info_parts infoPr
  have HL : Hid (LiesA w a ps) := hL
  clear hL
  go_enter Try.func32, Try.ntmps32
  go_wp2_with (at_make; refine wpList_make_full _ rfl _ _ 22 rfl w.heap.size 40 i0 (.agg #[.int .i64 0, .int .i64 0]) 2 Try.underlying22 hi0 hz0 hz1 _ _ _ _ ps.length rfl rfl rfl rfl (by rw [hz2]; omega) (by unfold maxLen; omega) (Nat.le_refl _) ?_; intro w1 hown1 hgr1; have P1 : Hid (Pw w.heap.size w.heap.size ps.length ps.length w1 (List.replicate ps.length ⟨0, 0⟩)) := (by have h9 := made_pairs ps.length; rw [show (Value.agg #[.int .i64 0, .int .i64 0]).cells = #[.int .i64 0, .int .i64 0] by rfl] at hown1; rw [h9] at hown1; exact hown1); have HB1 : Hid (Below w.heap.size w w1 ∧ w.heap.size ≤ w1.heap.size) := ⟨(Below.refl _ w).grown hgr1 (Nat.le_refl _) (fun k h => by cases h), hgr1.size⟩; clear hown1 hgr1)
  go_loopg [11] ps.length (fun gk si wr => ∃ (k : Nat) (qs : List Pr), gk = ps.length - k ∧ si = .int .i64 (k : Int) ∧ k ≤ ps.length ∧ Pw w.heap.size w.heap.size ps.length ps.length wr qs ∧ qs.length = ps.length ∧ (∀ i p, i < k → ps[i]? = some p → qs[i]? = some (swapP p)) ∧ Below w.heap.size w wr ∧ w.heap.size ≤ wr.heap.size)
  case atStart => exact ⟨0, _, rfl, rfl, Nat.zero_le _, P1.out, by simp, fun i p h => absurd h (Nat.not_lt_zero _), HB1.out.1, HB1.out.2⟩
  case round =>
    obtain ⟨k, qs, hgk, rfl, hk, hP, hql, hq, hb, hs⟩ := hrel
    clear P1 HB1
    have PP : Hid (Pw w.heap.size w.heap.size ps.length ps.length wr qs) := hP
    have HB : Hid (Below w.heap.size w wr ∧ w.heap.size ≤ wr.heap.size) := ⟨hb, hs⟩
    have HQ : Hid (qs.length = ps.length ∧ ∀ i p, i < k → ps[i]? = some p → qs[i]? = some (swapP p)) := ⟨hql, hq⟩
    clear hP hql hq hb hs
    by_cases hkp : k < ps.length
    · have hkp' : (k : Int) < (ps.length : Int) := by omega
      obtain ⟨p, hp⟩ : ∃ p, ps[k]? = some p := ⟨_, List.getElem?_eq_getElem hkp⟩
      obtain ⟨b, o, ha, hLi⟩ : ∃ b o, a = some ⟨b, o, none⟩ ∧ Lies w b o ps := by
        rcases HL.out with h | h
        · rw [h] at hkp; exact absurd hkp (Nat.not_lt_zero _)
        · exact h
      subst ha
      obtain ⟨pa, pb⟩ := p
      obtain ⟨d0, d1⟩ := (hLi.below HB.out.1 hLi.1).pr hp
      simp only at d0 d1
      have HP : Hid (ps[k]? = some ⟨pa, pb⟩) := hp
      clear hp hLi
      go_upto_region 5 with fail
      obtain ⟨w2, e2, hb2, hs2, B2⟩ := bx1 wr #[.int .i64 pa, .int .i64 pb] 40
      rw [e2]
      obtain ⟨q, hq⟩ : ∃ q, wr.heap.size = q := ⟨_, rfl⟩
      rw [hq] at B2 ⊢
      have P2 : Hid (Pw w.heap.size w.heap.size ps.length ps.length w2 qs) := ownsRow_below PP.out hb2 (Nat.le_refl _)
      have HB2 : Hid (Below w.heap.size w w2 ∧ w.heap.size ≤ w2.heap.size) := ⟨HB.out.1.trans (hb2.mono HB.out.2), Nat.le_trans HB.out.2 hb2.size⟩
      obtain ⟨r, hr⟩ : ∃ r, qs[k]? = some r := ⟨_, List.getElem?_eq_getElem (by rw [HQ.out.1]; exact hkp)⟩
      have HR : Hid (qs[k]? = some r) := hr
      obtain ⟨f0, f1⟩ := P2.out.get hr
      have z0 : w2.frozen? ⟨w.heap.size, k * 2, none⟩ = false := World.ownsRow.frozenAt P2.out (k * 2)
      have z1 : w2.frozen? ⟨w.heap.size, k * 2 + 1, none⟩ = false := World.ownsRow.frozenAt P2.out (k * 2 + 1)
      have x0 : w2.cell? ⟨q, 0, none⟩ = some (.int .i64 pa) := B2.cell 0
      have x1 : w2.cell? ⟨q, 1, none⟩ = some (.int .i64 pb) := B2.cell 1
      have hk0 : (0 : Int) ≤ (k : Int) := by omega
      clear e2 hb2 hs2 B2 hr d0 d1
      have P9 : Hid (Pw w.heap.size w.heap.size ps.length ps.length ((w2.setCell ⟨w.heap.size, k * 2, none⟩ (.int .i64 pb)).setCell ⟨w.heap.size, k * 2 + 1, none⟩ (.int .i64 pa)) (qs.set k ⟨pb, pa⟩)) := P2.out.put HR.out pb pa
      have B9 : Hid (Below w.heap.size w ((w2.setCell ⟨w.heap.size, k * 2, none⟩ (.int .i64 pb)).setCell ⟨w.heap.size, k * 2 + 1, none⟩ (.int .i64 pa))) := (HB2.out.1.setCell (p := ⟨w.heap.size, k * 2, none⟩) (Nat.le_refl _) _).setCell (p := ⟨w.heap.size, k * 2 + 1, none⟩) (Nat.le_refl _) _
      go_wp2
      go_roundg (ps.length - (k + 1))
      case measure => omega
      case rel =>
        refine ⟨k + 1, _, rfl, by go_num, by omega, P9.out, by rw [List.length_set]; exact HQ.out.1, fun i p hi hp => ?_, B9.out, by simpa using HB2.out.2⟩
        rw [List.getElem?_set]
        by_cases hik : k = i
        · subst hik
          rw [if_pos rfl, if_pos (by rw [HQ.out.1]; exact hkp)]
          rw [HP.out] at hp
          cases hp
          rfl
        · rw [if_neg hik]
          exact HQ.out.2 i p (by omega) hp
    · have hkp' : ¬ (k : Int) < (ps.length : Int) := by omega
      have hqs : qs = ps.map swapP := by
        apply List.ext_getElem?
        intro i
        rw [List.getElem?_map]
        by_cases hi : i < ps.length
        · rw [HQ.out.2 i _ (by omega) (List.getElem?_eq_getElem hi), List.getElem?_eq_getElem hi]
          rfl
        · rw [List.getElem?_eq_none (by rw [HQ.out.1]; omega), List.getElem?_eq_none (by omega)]
          rfl
      have LL : Hid (Lies wr w.heap.size 0 (ps.map swapP)) := by unfold Hid; rw [← hqs]; exact Lies.own (α := Pr) PP.out
      clear hqs
      go_wp2
      go_ret
      exact ⟨rfl, HB.out.1, LL.out⟩
end Go.Proofs.Ytgijcbipnjmhgaa
