import Derived.Test.YtgijcbipnjmhgabSmI
import Derived.Test.YtgijcbipnjmhgabGq0
import Derived.Test.YtgijcbipnjmhgabOrd
import Derived.BigRegion
import Derived.Test.YtgijcbipnjmhgabGr0
import Derived.OwnWalk
import Derived.ChangeKeysEq
import Derived.Laws.StructEq
namespace Go.Proofs.Ytgijcbipnjmhgab
open Go.ChangeShapes Go.WideShapes Go.ChangeAt Go.RowKit
set_option linter.unusedVariables false
set_option linter.unusedSimpArgs false

/-- a row of numbers in a box -/
structure Hq (B b : Nat) (w : World) (V : Value) (xs : List Int) : Prop where
  box : Bx w b #[V] 61
  row : w.ownsRow B 3 1 V xs.length (flat xs)
  le : B ≤ b
/-- nothing but the box and the row has changed -/
structure Mv (B b : Nat) (r : Option Nat) (w w' : World) : Prop where
  keep : ∀ k, k < w.heap.size → k ≠ b → some k ≠ r → w'.heap[k]? = w.heap[k]?
  bel : Below B w w'
theorem Mv.refl (B b : Nat) (r : Option Nat) (w : World) : Mv B b r w w := ⟨fun _ _ _ _ => rfl, Below.refl _ _⟩
theorem Mv.of {B b : Nat} {r : Option Nat} {w w' : World} (h : Below w.heap.size w w') (hb : b < w.heap.size) (hB : B ≤ b) : Mv B b r w w' := ⟨fun k hk _ _ => h.block k hk, h.mono (by omega)⟩
theorem Mv.trans {B b : Nat} {r r' : Option Nat} {w v u : World} (h : Mv B b r w v) (k : Mv B b r' v u) (hr : r' = r ∨ ∀ g, r' = some g → w.heap.size ≤ g) : Mv B b r w u :=
  ⟨fun i hi hb hg => (k.keep i (Nat.lt_of_lt_of_le hi h.bel.size) hb (fun e => by
    rcases hr with e2 | e2
    · exact hg (by rw [e, e2])
    · have := e2 i e.symm; omega)).trans (h.keep i hi hb hg), h.bel.trans k.bel⟩
theorem Hq.below {B b : Nat} {w w' : World} {V : Value} {xs : List Int} (h : Hq B b w V xs) (hb : Below w.heap.size w w') : Hq B b w' V xs := ⟨h.box.below hb h.box.lt, own_belowR h.row hb (Nat.le_refl _), h.le⟩
theorem flat_at (xs : List Int) (i : Nat) : (flat xs)[i]? = (xs[i]?).map (Value.int .i64) := by rw [flat_ints, List.getElem?_map]
theorem flat_setI (xs : List Int) (i : Nat) (x : Int) : (flat xs).set i (.int .i64 x) = flat (xs.set i x) := by rw [flat_ints, flat_ints, List.map_set]
theorem Hq.form {B b : Nat} {w : World} {V : Value} {xs : List Int} (h : Hq B b w V xs) : ∃ a c, V = .slice a xs.length c ∧ (0 < xs.length → ∃ g, a = some ⟨g, 0, none⟩) := by
  obtain ⟨a, c, h1, h2, -⟩ := own_slice h.row
  exact ⟨a, c, h1, h2⟩
theorem Hq.len {B b n c : Nat} {a : Option Addr} {w : World} {xs : List Int} (h : Hq B b w (.slice a n c) xs) : n = xs.length := by
  obtain ⟨a', c', h1, -⟩ := h.form
  injection h1
theorem Hq.cell {B b g n c : Nat} {w : World} {xs : List Int} (h : Hq B b w (.slice (some ⟨g, 0, none⟩) n c) xs) {i : Nat} (hi : i < xs.length) : w.cell? ⟨g, i, none⟩ = some (.int .i64 xs[i]!) := by
  have := h.row.cells rfl i (.int .i64 xs[i]!) (by rw [flat_at, List.getElem?_eq_getElem hi, getElem!_pos xs i hi]; rfl)
  rwa [addr_add, Nat.zero_add] at this
theorem Hq.ne {B b g n c : Nat} {w : World} {xs : List Int} (h : Hq B b w (.slice (some ⟨g, 0, none⟩) n c) xs) : b ≠ g := h.box.neR h.row (by decide) rfl
theorem Hq.store {B b g n c : Nat} {w : World} {xs : List Int} (h : Hq B b w (.slice (some ⟨g, 0, none⟩) n c) xs) (i : Nat) (x : Int) : Hq B b (w.setCell ⟨g, i, none⟩ (.int .i64 x)) (.slice (some ⟨g, 0, none⟩) n c) (xs.set i x) := by
  have hn := h.len
  subst hn
  refine ⟨h.box.other ⟨g, i, none⟩ h.ne _, ?_, h.le⟩
  have := (World.ownsRow.stored h.row i (.int .i64 x)).1
  rw [List.length_set, ← flat_setI]
  exact this
theorem Hq.one {B b g n c : Nat} {w : World} {xs : List Int} (h : Hq B b w (.slice (some ⟨g, 0, none⟩) n c) xs) (i : Nat) (x : Value) : Mv B b (some g) w (w.setCell ⟨g, i, none⟩ x) :=
  ⟨fun k hk hb hg => heap_setCell_other _ _ _ _ (fun e => hg (by rw [e])), (Below.refl _ _).setCell (p := ⟨g, i, none⟩) (h.row.lt g rfl).1 _⟩

set_option maxRecDepth 1000000 in
theorem rlen_any (a : Option Addr) (n c : Nat) (w : World) : Calls Try.prog 113 #[.slice a n c] w fun e w' => e = .returned (.int .i64 (n : Int)) ∧ w' = w := by
  go_enter Try.func113, Try.ntmps113
  go_wp2
  go_ret
  exact ⟨rfl, rfl⟩
set_option maxRecDepth 1000000 in
set_option maxHeartbeats 2000000 in
theorem rless_any {B b : Nat} {w : World} {V : Value} {xs : List Int} (h : Hq B b w V xs) (i j : Nat) (hi : i < xs.length) (hj : j < xs.length) : Calls Try.prog 114 #[V, .int .i64 (i : Int), .int .i64 (j : Int)] w fun e w' => e = .returned (.bool (decide (xs[i]! < xs[j]!))) ∧ Below w.heap.size w w' := by
  obtain ⟨a, c, rfl, ha⟩ := h.form
  obtain ⟨g, rfl⟩ := ha (by omega)
  have c1 := h.cell hi
  have c2 := h.cell hj
  have t1 : (i : Int) < (xs.length : Int) := by omega
  have t2 : (j : Int) < (xs.length : Int) := by omega
  obtain ⟨x, hx⟩ : ∃ x, xs[i]! = x := ⟨_, rfl⟩
  obtain ⟨y, hy⟩ : ∃ y, xs[j]! = y := ⟨_, rfl⟩
  rw [hx] at c1 ⊢
  rw [hy] at c2 ⊢
  clear h ha hx hy hi hj
  go_enter Try.func114, Try.ntmps114
  go_wp2
  go_quiet (fail)
  go_wp2
  go_ret
  have hr := Below.refl w.heap.size w
  exact ⟨rfl, ⟨hr.os, hr.tape, hr.output, hr.size, hr.block⟩⟩
set_option maxRecDepth 1000000 in
set_option maxHeartbeats 2000000 in
theorem rswap_any {B b : Nat} {w : World} {V : Value} {xs : List Int} (h : Hq B b w V xs) (i j : Nat) (hi : i < xs.length) (hj : j < xs.length) : Calls Try.prog 115 #[V, .int .i64 (i : Int), .int .i64 (j : Int)] w fun e w' => (∃ x, e = .returned x) ∧ Hq B b w' V (sw xs i j) ∧ Mv B b V.ownBlock w w' := by
  obtain ⟨a, c, rfl, ha⟩ := h.form
  obtain ⟨g, rfl⟩ := ha (by omega)
  have cx := h.cell hi
  have cy := h.cell hj
  have t1 : (i : Int) < (xs.length : Int) := by omega
  have t2 : (j : Int) < (xs.length : Int) := by omega
  have f1 : w.frozen? ⟨g, i, none⟩ = false := World.ownsRow.frozenAt h.row i
  have f2 : w.frozen? ⟨g, j, none⟩ = false := World.ownsRow.frozenAt h.row j
  have HF : Hid (Hq B b ((w.setCell ⟨g, i, none⟩ (.int .i64 xs[j]!)).setCell ⟨g, j, none⟩ (.int .i64 xs[i]!)).drew (.slice (some ⟨g, 0, none⟩) xs.length c) (sw xs i j) ∧ Mv B b (some g) w ((w.setCell ⟨g, i, none⟩ (.int .i64 xs[j]!)).setCell ⟨g, j, none⟩ (.int .i64 xs[i]!)).drew) := by
    have h1 := h.store i xs[j]!
    have h2 := h1.store j xs[i]!
    refine ⟨h2.below (Below.refl _ _).drew, ((h.one i (.int .i64 xs[j]!)).trans (h1.one j (.int .i64 xs[i]!)) (.inl rfl)).trans (Mv.of (r := some g) (Below.refl _ _).drew (h2.box.lt) h.le) (.inl rfl)⟩
  obtain ⟨x, hx⟩ : ∃ x, xs[i]! = x := ⟨_, rfl⟩
  obtain ⟨y, hy⟩ : ∃ y, xs[j]! = y := ⟨_, rfl⟩
  rw [hx, hy] at HF
  rw [hx] at cx
  rw [hy] at cy
  clear h ha
  by_cases e : j = i
  · subst e
    obtain rfl : x = y := hx.symm.trans hy
    clear hx hy hi hj
    go_enter Try.func115, Try.ntmps115
    go_big_region
    go_end0
    exact ⟨⟨_, rfl⟩, HF.out.1, HF.out.2⟩
  · have hne2 : j ≠ i := e
    have hne3 : i ≠ j := fun e2 => e e2.symm
    clear hx hy hi hj
    go_enter Try.func115, Try.ntmps115
    go_big_region
    go_end0
    exact ⟨⟨_, rfl⟩, HF.out.1, HF.out.2⟩
end Go.Proofs.Ytgijcbipnjmhgab

namespace Go.Proofs.Ytgijcbipnjmhgab
open Go.ChangeShapes Go.WideShapes Go.ChangeAt Go.RowKit
set_option linter.unusedVariables false
set_option linter.unusedSimpArgs false

theorem infoPr : (Try.prog.info? 42).map (fun i => (i.zero, i.size, i.bytes)) = some (some (.agg #[.int .i64 0, .int .i64 0]), 2, 16) := by kernel_rfl
theorem pr_arr : Try.prog.underlying 42 = some (.array 2 3) := by kernel_rfl
theorem pr_cells : Try.prog.cellsOf 3 = 1 := by kernel_rfl
theorem pr_guard : Try.prog.eqGuardType Try.prog.depth 42 = false := by kernel_rfl
theorem pr_eqIn (w : World) (a b c d : Int) : (Op.equalIn 10000 42 (.agg #[.int .i64 a, .int .i64 b]) (.agg #[.int .i64 c, .int .i64 d])).run Try.prog w = .ok (a == c && b == d) w := by
  obtain ⟨i0, hi, hz0, hz1, hz2⟩ := info_parts infoInt
  rw [run_equalIn_array w 9999 _ _ pr_arr hi, pr_cells]
  by_cases h1 : a = c <;> by_cases h2 : b = d <;> simp [List.range, List.range.loop, Op.eqItems, go_sem, h1, h2]
theorem pr_guarded (w : World) (op : BinOp) (x y : Operand) (xs ys : Array Value) : (eqGuard op 42 x y (.agg xs) (.agg ys)).run Try.prog w = .ok () w := run_eqGuard_agg w _ _ x y xs ys pr_guard
def pmarks : List Pr := [⟨-7, 7⟩, ⟨7, -7⟩]

set_option maxRecDepth 1000000 in
set_option maxHeartbeats 1000000 in
theorem plent_any (a : Option Addr) (cap : Nat) (xs : List Pr) (w : World) (h : LiesA w a xs) (hn : a = none → xs.length = 0 ∧ cap = 0) (hl : xs.length * 16 ≤ 140737488351232) :
    Calls Try.prog 12 #[.slice a xs.length cap] w fun e w' => e = .returned (.slice (some ⟨w.heap.size, 0, none⟩) xs.length (xs.length + 2)) ∧ Below w.heap.size w w' ∧ Lies w' w.heap.size 0 (xs ++ pmarks) := by
  obtain ⟨i0, hi, hz0, hz1, hz2⟩ := info_parts infoPr
  have H : Hid (LiesA w a xs) := h
  have HN : Hid (a = none → xs.length = 0 ∧ cap = 0) := hn
  clear h hn
  go_enter Try.func12, Try.ntmps12
  go_wp2_with (at_make; refine wpList_make_own _ rfl _ _ 22 rfl w.heap.size 42 i0 (.agg #[.int .i64 0, .int .i64 0]) 2 Try.underlying22 hi hz0 hz1 _ _ _ (xs.length + 2) rfl rfl (by omega) ?b2 ?b3 (Nat.le_refl _) ?_)
  case b2 => rw [hz2]; omega
  case b3 => unfold maxLen; omega
  intro w0 hown0 hgrow0
  have hbel0 : Below w.heap.size w w0 := (Below.refl _ _).grown hgrow0 (Nat.le_refl _) (fun k h => by cases h)
  go_wp2_with (at_builtin; (refine wpList_append_fits_any _ rfl (.tmp 8) (.tmp 9) 22 rfl w.heap.size 42 i0 2 Try.underlying22 hi hz1 w.heap.size 0 (xs.length + 2) _ rfl hown0 _ xs.length _ (flat xs) rfl (flat_length xs) HN.out ?c1 (flat_oneCell xs) (by omega) ?_))
  case c1 =>
    intro ad had
    rcases H.out with h | ⟨b, o, hab, h⟩
    · intro j u hj; rw [h] at hj; simp [flat] at hj
    · rw [hab] at had; cases had; exact (h.below hbel0 h.1).flat
  intro w1 hown1 hgrow1
  have hbel1 : Below w.heap.size w w1 := hbel0.grown hgrow1 hbel0.size (fun k h => by cases h; exact Nat.le_refl _)
  clear hown0 hgrow0 hgrow1
  go_wp2_with (at_builtin; refine wpList_append_fits_any _ rfl (.tmp 11) (.tmp 14) 22 rfl w.heap.size 42 i0 2 Try.underlying22 hi hz1 w.heap.size xs.length (xs.length + 2) _ rfl (hown1.alloc _) _ 2 _ (flat pmarks) rfl rfl ?d0 ?d1 (flat_oneCell pmarks) (by omega) ?_)
  case d0 => intro h; cases h
  case d1 => intro ad had; cases had; exact cells_new w1 (flat pmarks) 42
  intro w2 hown2 hgrow2
  have hbel2 : Below w.heap.size w w2 := (hbel1.alloc hbel1.size _).grown hgrow2 (by simp; have := hbel1.size; omega) (fun k h => by cases h; exact Nat.le_refl _)
  clear hown1 hgrow2
  have hown3 : w2.ownsRow w.heap.size 42 (Rw.k Pr) (.slice (some ⟨w.heap.size, 0, none⟩) (xs.length + 2) (xs.length + 2)) (xs.length + 2) (flat (xs ++ pmarks)) := by rw [flat_append]; exact hown2
  have HL : Hid (Lies w2 w.heap.size 0 (xs ++ pmarks)) := Lies.own hown3
  clear hown2 hown3
  go_wp2
  go_ret
  exact ⟨rfl, hbel2, HL.out⟩
theorem pmark_cells {w : World} {g : Nat} {xs : List Pr} (h : Lies w g 0 (xs ++ pmarks)) :
    (w.cell? ⟨g, xs.length * 2, none⟩ = some (.int .i64 (-7)) ∧ w.cell? ⟨g, xs.length * 2 + 1, none⟩ = some (.int .i64 7)) ∧
    (w.cell? ⟨g, (xs.length + 1) * 2, none⟩ = some (.int .i64 7) ∧ w.cell? ⟨g, (xs.length + 1) * 2 + 1, none⟩ = some (.int .i64 (-7))) := by
  have h0 := h.pr (i := xs.length) (e := ⟨-7, 7⟩) (by rw [List.getElem?_append_right (Nat.le_refl _), Nat.sub_self]; rfl)
  have h1 := h.pr (i := xs.length + 1) (e := ⟨7, -7⟩) (by rw [List.getElem?_append_right (by omega), show xs.length + 1 - xs.length = 1 by omega]; rfl)
  simp only [Nat.zero_add] at h0 h1
  exact ⟨h0, h1⟩

set_option maxRecDepth 1000000 in
set_option maxHeartbeats 1000000 in
theorem pkept_any (g : Nat) (a : Option Addr) (cap : Nat) (xs : List Pr) (w : World) (hc : Lies w g 0 (xs ++ pmarks)) (h : LiesA w a xs) (hl : xs.length * 16 ≤ 140737488351232) :
    Calls Try.prog 15 #[.slice (some ⟨g, 0, none⟩) xs.length (xs.length + 2), .slice a xs.length cap] w fun e w' => e = .returned (.bool true) ∧ Below w.heap.size w w' := by
  have hg := hc.1
  have HC : Hid (Lies w g 0 (xs ++ pmarks)) := hc
  have H : Hid (LiesA w a xs) := h
  have hne : ((xs.length : Int) != (xs.length : Int)) = false := by simp
  clear hc h
  go_enter Try.func15, Try.ntmps15
  go_wp2
  go_loopg [14] xs.length (fun gk si wr => ∃ (k : Nat), gk = xs.length - k ∧ si = .int .i64 (k : Int) ∧ k ≤ xs.length ∧ Below w.heap.size w wr)
  case atStart => exact ⟨0, rfl, rfl, Nat.zero_le _, Below.refl _ _⟩
  case round =>
    obtain ⟨k, hgk, rfl, hk, hbel⟩ := hrel
    have HB : Hid (Below w.heap.size w wr) := hbel
    by_cases hkx : k < xs.length
    · have hkx' : (k : Int) < (xs.length : Int) := by omega
      obtain ⟨p, hp⟩ : ∃ p, xs[k]? = some p := ⟨_, List.getElem?_eq_getElem hkx⟩
      obtain ⟨b, o, ha, hLi⟩ : ∃ b o, a = some ⟨b, o, none⟩ ∧ Lies w b o xs := by
        rcases H.out with h | h
        · rw [h] at hkx; exact absurd hkx (Nat.not_lt_zero _)
        · exact h
      subst ha
      obtain ⟨X, F, hX, hF, onto⟩ := class_of (fun v => Below wr.heap.size wr v) (Below.refl _ wr)
      have HF : Hid (∀ y, Below wr.heap.size wr (F y)) := hF
      have HO : Hid (∀ v, Below wr.heap.size wr v → ∃ x, v = F x) := fun v h => by obtain ⟨x, hx⟩ := onto v h; exact ⟨x, hx.symm⟩
      have HAll : Hid (∀ q, Below w.heap.size w (F q)) := fun q => hbel.trans ((hF q).mono hbel.size)
      have d0 : ∀ q, (F q).cell? ⟨b, o + k * 2, none⟩ = some (.int .i64 p.a) := fun q => ((hLi.below (HAll.out q) hLi.1).pr hp).1
      have d1 : ∀ q, (F q).cell? ⟨b, o + k * 2 + 1, none⟩ = some (.int .i64 p.b) := fun q => ((hLi.below (HAll.out q) hLi.1).pr hp).2
      have hp2 : (xs ++ pmarks)[k]? = some p := by rw [List.getElem?_append_left hkx]; exact hp
      have e0 : ∀ q, (F q).cell? ⟨g, k * 2, none⟩ = some (.int .i64 p.a) := fun q => by have h9 := ((HC.out.below (HAll.out q) hg).pr hp2).1; rw [Nat.zero_add] at h9; exact h9
      have e1 : ∀ q, (F q).cell? ⟨g, k * 2 + 1, none⟩ = some (.int .i64 p.b) := fun q => by have h9 := ((HC.out.below (HAll.out q) hg).pr hp2).2; rw [Nat.zero_add] at h9; exact h9
      clear hp hLi hp2 hbel
      have qe : ∀ v, (Op.equalIn 10000 42 (.agg #[.int .i64 p.a, .int .i64 p.b]) (.agg #[.int .i64 p.a, .int .i64 p.b])).run Try.prog v = .ok true v := fun v => by rw [pr_eqIn]; simp
      have qg : ∀ op x y xs ys v, (eqGuard op 42 x y (.agg xs) (.agg ys)).run Try.prog v = .ok () v := fun op x y xs ys v => pr_guarded v op x y xs ys
      go_upto_region 6 with fail
      refine region_class F (by kernel_rfl) (by kernel_rfl) (by obtain ⟨x, hx⟩ := HO.out _ (Below.refl _ _).drew; exact ⟨x, hx.symm⟩) ?_
      repeat (go_big_quiet_step (fail))
      refine wpQuiet_nil ?_
      rintro _ ⟨nq, rfl⟩
      obtain ⟨z0, hz0⟩ : ∃ z, F nq = z := ⟨_, rfl⟩
      have HZ : Hid (Below w.heap.size w z0) := hz0 ▸ HAll.out nq
      rw [hz0]
      clear hz0 HF HO hF onto d0 d1 e0 e1 HAll
      go_wp2
      go_roundg (xs.length - (k + 1))
      case measure => omega
      case rel => exact ⟨k + 1, rfl, by go_num, by omega, HZ.out⟩
    · have hkx' : ¬ (k : Int) < (xs.length : Int) := by omega
      obtain ⟨⟨a0, a1⟩, b0, b1⟩ := pmark_cells (HC.out.below hbel hg)
      have q1 : ∀ v, (Op.equalIn 10000 42 (.agg #[.int .i64 (-7), .int .i64 7]) (.agg #[.int .i64 (-7), .int .i64 7])).run Try.prog v = .ok true v := fun v => by rw [pr_eqIn]; simp
      have q2 : ∀ v, (Op.equalIn 10000 42 (.agg #[.int .i64 7, .int .i64 (-7)]) (.agg #[.int .i64 7, .int .i64 (-7)])).run Try.prog v = .ok true v := fun v => by rw [pr_eqIn]; simp
      have qg : ∀ op x y xs ys v, (eqGuard op 42 x y (.agg xs) (.agg ys)).run Try.prog v = .ok () v := fun op x y xs ys v => pr_guarded v op x y xs ys
      go_wp2
      go_ret
      exact ⟨rfl, HB.out⟩
end Go.Proofs.Ytgijcbipnjmhgab
