import Derived.Test.YtkfdlccacddbfaaGr0
import Derived.OwnWalk
import Derived.ChangeKeysEq
import Derived.Laws.StructEq
namespace Go.Proofs.Ytkfdlccacddbfaa
open Go.ChangeShapes Go.WideShapes Go.ChangeAt Go.RowKit
set_option linter.unusedVariables false
set_option linter.unusedSimpArgs false

theorem infoPr : (Try.prog.info? 36).map (fun i => (i.zero, i.size, i.bytes)) = some (some (.agg #[.int .i64 0, .int .i64 0]), 2, 16) := by kernel_rfl
theorem pr_arr : Try.prog.underlying 36 = some (.array 2 3) := by kernel_rfl
theorem pr_cells : Try.prog.cellsOf 3 = 1 := by kernel_rfl
theorem pr_guard : Try.prog.eqGuardType Try.prog.depth 36 = false := by kernel_rfl
theorem pr_eqIn (w : World) (a b c d : Int) : (Op.equalIn 10000 36 (.agg #[.int .i64 a, .int .i64 b]) (.agg #[.int .i64 c, .int .i64 d])).run Try.prog w = .ok (a == c && b == d) w := by
  obtain ⟨i0, hi, hz0, hz1, hz2⟩ := info_parts infoInt
  rw [run_equalIn_array w 9999 _ _ pr_arr hi, pr_cells]
  by_cases h1 : a = c <;> by_cases h2 : b = d <;> simp [List.range, List.range.loop, Op.eqItems, go_sem, h1, h2]
theorem pr_guarded (w : World) (op : BinOp) (x y : Operand) (xs ys : Array Value) : (eqGuard op 36 x y (.agg xs) (.agg ys)).run Try.prog w = .ok () w := run_eqGuard_agg w _ _ x y xs ys pr_guard
def pmarks : List Pr := [⟨-7, 7⟩, ⟨7, -7⟩]

set_option maxRecDepth 1000000 in
set_option maxHeartbeats 1000000 in
theorem plent_any (a : Option Addr) (cap : Nat) (xs : List Pr) (w : World) (h : LiesA w a xs) (hn : a = none → xs.length = 0 ∧ cap = 0) (hl : xs.length * 16 ≤ 140737488351232) :
    Calls Try.prog 5 #[.slice a xs.length cap] w fun e w' => e = .returned (.slice (some ⟨w.heap.size, 0, none⟩) xs.length (xs.length + 2)) ∧ Below w.heap.size w w' ∧ Lies w' w.heap.size 0 (xs ++ pmarks) := by
  obtain ⟨i0, hi, hz0, hz1, hz2⟩ := info_parts infoPr
  have H : Hid (LiesA w a xs) := h
  have HN : Hid (a = none → xs.length = 0 ∧ cap = 0) := hn
  clear h hn
  go_enter Try.func5, Try.ntmps5
  go_wp2_with (at_make; refine wpList_make_own _ rfl _ _ 22 rfl w.heap.size 36 i0 (.agg #[.int .i64 0, .int .i64 0]) 2 Try.underlying22 hi hz0 hz1 _ _ _ (xs.length + 2) rfl rfl (by omega) ?b2 ?b3 (Nat.le_refl _) ?_)
  case b2 => rw [hz2]; omega
  case b3 => unfold maxLen; omega
  intro w0 hown0 hgrow0
  have hbel0 : Below w.heap.size w w0 := (Below.refl _ _).grown hgrow0 (Nat.le_refl _) (fun k h => by cases h)
  go_wp2_with (at_builtin; (refine wpList_append_fits_any _ rfl (.tmp 8) (.tmp 9) 22 rfl w.heap.size 36 i0 2 Try.underlying22 hi hz1 w.heap.size 0 (xs.length + 2) _ rfl hown0 _ xs.length _ (flat xs) rfl (flat_length xs) HN.out ?c1 (flat_oneCell xs) (by omega) ?_))
  case c1 =>
    intro ad had
    rcases H.out with h | ⟨b, o, hab, h⟩
    · intro j u hj; rw [h] at hj; simp [flat] at hj
    · rw [hab] at had; cases had; exact (h.below hbel0 h.1).flat
  intro w1 hown1 hgrow1
  have hbel1 : Below w.heap.size w w1 := hbel0.grown hgrow1 hbel0.size (fun k h => by cases h; exact Nat.le_refl _)
  clear hown0 hgrow0 hgrow1
  go_wp2_with (at_builtin; refine wpList_append_fits_any _ rfl (.tmp 11) (.tmp 14) 22 rfl w.heap.size 36 i0 2 Try.underlying22 hi hz1 w.heap.size xs.length (xs.length + 2) _ rfl (hown1.alloc _) _ 2 _ (flat pmarks) rfl rfl ?d0 ?d1 (flat_oneCell pmarks) (by omega) ?_)
  case d0 => intro h; cases h
  case d1 => intro ad had; cases had; exact cells_new w1 (flat pmarks) 36
  intro w2 hown2 hgrow2
  have hbel2 : Below w.heap.size w w2 := (hbel1.alloc hbel1.size _).grown hgrow2 (by simp; have := hbel1.size; omega) (fun k h => by cases h; exact Nat.le_refl _)
  clear hown1 hgrow2
  have hown3 : w2.ownsRow w.heap.size 36 (Rw.k Pr) (.slice (some ⟨w.heap.size, 0, none⟩) (xs.length + 2) (xs.length + 2)) (xs.length + 2) (flat (xs ++ pmarks)) := by rw [flat_append]; exact hown2
  have HL : Hid (Lies w2 w.heap.size 0 (xs ++ pmarks)) := Lies.own hown3
  clear hown2 hown3
  go_wp2
  go_ret
  exact ⟨rfl, hbel2, HL.out⟩
theorem pmark_cells {w : World} {g : Nat} {xs : List Pr} (h : Lies w g 0 (xs ++ pmarks)) :
    (w.cell? ⟨g, xs.length * 2, none⟩ = some (.int .i64 (-7)) ∧ w.cell? ⟨g, xs.length * 2 + 1, none⟩ = some (.int .i64 7)) ∧
    (w.cell? ⟨g, (xs.length + 1) * 2, none⟩ = some (.int .i64 7) ∧ w.cell? ⟨g, (xs.length + 1) * 2 + 1, none⟩ = some (.int .i64 (-7))) := by
  have h0 := h.pr (i := xs.length) (e := ⟨-7, 7⟩) (by rw [List.getElem?_append_right (Nat.le_refl _), Nat.sub_self]; rfl)
  have h1 := h.pr (i := xs.length + 1) (e := ⟨7, -7⟩) (by rw [List.getElem?_append_right (by omega), show xs.length + 1 - xs.length = 1 by omega]; rfl)
  simp only [Nat.zero_add] at h0 h1
  exact ⟨h0, h1⟩

set_option maxRecDepth 1000000 in
set_option maxHeartbeats 1000000 in
theorem pkept_any (g : Nat) (a : Option Addr) (cap : Nat) (xs : List Pr) (w : World) (hc : Lies w g 0 (xs ++ pmarks)) (h : LiesA w a xs) (hl : xs.length * 16 ≤ 140737488351232) :
    Calls Try.prog 9 #[.slice (some ⟨g, 0, none⟩) xs.length (xs.length + 2), .slice a xs.length cap] w fun e w' => e = .returned (.bool true) ∧ Below w.heap.size w w' := by
  have hg := hc.1
  have HC : Hid (Lies w g 0 (xs ++ pmarks)) := hc
  have H : Hid (LiesA w a xs) := h
  have hne : ((xs.length : Int) != (xs.length : Int)) = false := by simp
  clear hc h
  go_enter Try.func9, Try.ntmps9
  go_wp2
  go_loopg [14] xs.length (fun gk si wr => ∃ (k : Nat), gk = xs.length - k ∧ si = .int .i64 (k : Int) ∧ k ≤ xs.length ∧ Below w.heap.size w wr)
  case atStart => exact ⟨0, rfl, rfl, Nat.zero_le _, Below.refl _ _⟩
  case round =>
    obtain ⟨k, hgk, rfl, hk, hbel⟩ := hrel
    have HB : Hid (Below w.heap.size w wr) := hbel
    by_cases hkx : k < xs.length
    · have hkx' : (k : Int) < (xs.length : Int) := by omega
      obtain ⟨p, hp⟩ : ∃ p, xs[k]? = some p := ⟨_, List.getElem?_eq_getElem hkx⟩
      obtain ⟨b, o, ha, hLi⟩ : ∃ b o, a = some ⟨b, o, none⟩ ∧ Lies w b o xs := by
        rcases H.out with h | h
        · rw [h] at hkx; exact absurd hkx (Nat.not_lt_zero _)
        · exact h
      subst ha
      obtain ⟨X, F, hX, hF, onto⟩ := class_of (fun v => Below wr.heap.size wr v) (Below.refl _ wr)
      have HF : Hid (∀ y, Below wr.heap.size wr (F y)) := hF
      have HO : Hid (∀ v, Below wr.heap.size wr v → ∃ x, v = F x) := fun v h => by obtain ⟨x, hx⟩ := onto v h; exact ⟨x, hx.symm⟩
      have HAll : Hid (∀ q, Below w.heap.size w (F q)) := fun q => hbel.trans ((hF q).mono hbel.size)
      have d0 : ∀ q, (F q).cell? ⟨b, o + k * 2, none⟩ = some (.int .i64 p.a) := fun q => ((hLi.below (HAll.out q) hLi.1).pr hp).1
      have d1 : ∀ q, (F q).cell? ⟨b, o + k * 2 + 1, none⟩ = some (.int .i64 p.b) := fun q => ((hLi.below (HAll.out q) hLi.1).pr hp).2
      have hp2 : (xs ++ pmarks)[k]? = some p := by rw [List.getElem?_append_left hkx]; exact hp
      have e0 : ∀ q, (F q).cell? ⟨g, k * 2, none⟩ = some (.int .i64 p.a) := fun q => by have h9 := ((HC.out.below (HAll.out q) hg).pr hp2).1; rw [Nat.zero_add] at h9; exact h9
      have e1 : ∀ q, (F q).cell? ⟨g, k * 2 + 1, none⟩ = some (.int .i64 p.b) := fun q => by have h9 := ((HC.out.below (HAll.out q) hg).pr hp2).2; rw [Nat.zero_add] at h9; exact h9
      clear hp hLi hp2 hbel
      have qe : ∀ v, (Op.equalIn 10000 36 (.agg #[.int .i64 p.a, .int .i64 p.b]) (.agg #[.int .i64 p.a, .int .i64 p.b])).run Try.prog v = .ok true v := fun v => by rw [pr_eqIn]; simp
      have qg : ∀ op x y xs ys v, (eqGuard op 36 x y (.agg xs) (.agg ys)).run Try.prog v = .ok () v := fun op x y xs ys v => pr_guarded v op x y xs ys
      go_upto_region 6 with fail
      refine region_class F (by kernel_rfl) (by kernel_rfl) (by obtain ⟨x, hx⟩ := HO.out _ (Below.refl _ _).drew; exact ⟨x, hx.symm⟩) ?_
      repeat (go_big_quiet_step (fail))
      refine wpQuiet_nil ?_
      rintro _ ⟨nq, rfl⟩
      obtain ⟨z0, hz0⟩ : ∃ z, F nq = z := ⟨_, rfl⟩
      have HZ : Hid (Below w.heap.size w z0) := hz0 ▸ HAll.out nq
      rw [hz0]
      clear hz0 HF HO hF onto d0 d1 e0 e1 HAll
      go_wp2
      go_roundg (xs.length - (k + 1))
      case measure => omega
      case rel => exact ⟨k + 1, rfl, by go_num, by omega, HZ.out⟩
    · have hkx' : ¬ (k : Int) < (xs.length : Int) := by omega
      obtain ⟨⟨a0, a1⟩, b0, b1⟩ := pmark_cells (HC.out.below hbel hg)
      have q1 : ∀ v, (Op.equalIn 10000 36 (.agg #[.int .i64 (-7), .int .i64 7]) (.agg #[.int .i64 (-7), .int .i64 7])).run Try.prog v = .ok true v := fun v => by rw [pr_eqIn]; simp
      have q2 : ∀ v, (Op.equalIn 10000 36 (.agg #[.int .i64 7, .int .i64 (-7)]) (.agg #[.int .i64 7, .int .i64 (-7)])).run Try.prog v = .ok true v := fun v => by rw [pr_eqIn]; simp
      have qg : ∀ op x y xs ys v, (eqGuard op 36 x y (.agg xs) (.agg ys)).run Try.prog v = .ok () v := fun op x y xs ys v => pr_guarded v op x y xs ys
      go_wp2
      go_ret
      exact ⟨rfl, HB.out⟩
end Go.Proofs.Ytkfdlccacddbfaa
